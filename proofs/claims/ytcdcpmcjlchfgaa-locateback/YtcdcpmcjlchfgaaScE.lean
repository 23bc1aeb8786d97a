/-
  What the document's bare and Compare answer: bare: the same number without noughts at the end, in new memory; Compare: -1, 0 or 1 as the first number is less than, as great as or greater than the second.
-/
import Derived.Test.YtcdcpmcjlchfgaaScO
import Derived.Laws.AppendOwnNone
namespace Go.Proofs.Ytcdcpmcjlchfgaa.Sc
open Go.RowKit
set_option linter.unusedSimpArgs false
set_option linter.unusedVariables false

theorem vl_zeros (l : List Nat) (k : Nat) (hk : k ≤ l.length) (h : ∀ j, k ≤ j → j < l.length → l.getD j 0 = 0) : vl (l.take k) = vl l := by
  have h1 := vl_split l k hk
  have h2 : vl (l.drop k) = 0 := by
    have : ∀ (m : List Nat), (∀ d ∈ m, d = 0) → vl m = 0 := by
      intro m
      induction m with
      | nil => intro _; rfl
      | cons d r ih => intro h; simp only [vl]; rw [h d (List.mem_cons_self), ih (fun x hx => h x (List.mem_cons_of_mem _ hx))]
    apply this
    intro d hd
    obtain ⟨i, hi, rfl⟩ := List.getElem_of_mem hd
    simp only [List.length_drop] at hi
    have := h (k + i) (by omega) (by omega)
    rw [List.getElem_drop]
    rw [getD_at _ _ (by omega)] at this
    exact this
  rw [h2] at h1; omega

set_option maxRecDepth 100000 in
set_option maxHeartbeats 400000 in
theorem bare_any (ao : Option Addr) (cap : Nat) (l : List Nat) (w : World) (hd : Dg w ao cap l) (hl : l.length ≤ 1000) (hs : ∀ d ∈ l, d < 1000) :
    Calls Try.prog 86 #[.slice ao l.length cap] w fun e w' => ∃ ao cap r, e = .returned (.slice ao r.length cap) ∧ Dg w' ao cap r ∧ Cn r ∧ vl r = vl l ∧ Below w.heap.size w w' := by
  obtain ⟨i0, hi, hz0, hz1, hz2x⟩ := info_parts info_int
  obtain ⟨⟨hc1, hc2⟩, hd⟩ := hd
  unfold maxLen at hc2
  have HD := hid hd
  have HS := hid hs
  clear hd hs
  go_enter Try.func86, Try.ntmps86
  go_wp2
  go_loop [3] (fun t => ∃ k : Nat, k ≤ l.length ∧ t = .int .i64 k ∧ Hid (∀ j, k ≤ j → j < l.length → l.getD j 0 = 0)) (fun t => (intOf t).toNat)
  case atStart => exact ⟨l.length, Nat.le_refl _, rfl, fun j h1 h2 => by omega⟩
  case round =>
    obtain ⟨k, hk, rfl, HZ⟩ := hrel
    by_cases h0 : k = 0
    · subst h0
      have hlt : ¬ ((0 : Nat) : Int) > 0 := by omega
      cases ao with
      | none =>
        go_wp2
        go_ret
        exact ⟨some ⟨w.heap.size, 0, none⟩, 0, [], rfl, ⟨⟨Nat.le_refl _, by unfold maxLen; omega⟩, Or.inl rfl⟩, ⟨by simp, by simp⟩, (vl_zeros l 0 (by omega) HZ.out), (Below.refl _ _).alloc (Nat.le_refl _) _⟩
      | some ad =>
        go_wp2
        go_ret
        exact ⟨some ⟨w.heap.size, 0, none⟩, 0, [], rfl, ⟨⟨Nat.le_refl _, by unfold maxLen; omega⟩, Or.inl rfl⟩, ⟨by simp, by simp⟩, (vl_zeros l 0 (by omega) HZ.out), (Below.refl _ _).alloc (Nat.le_refl _) _⟩
    · rcases HD.out with h | ⟨b, off, rfl, hb, hcell⟩
      · exfalso; rw [h] at hk; simp at hk; omega
      have hc := hcell (k - 1) (by omega)
      by_cases hz : l.getD (k - 1) 0 = 0
      · rw [hz] at hc
        clear hcell
        have HZ2 := hid hz
        clear hz
        go_wp2
        go_round
        case rel =>
          refine ⟨k - 1, by omega, by go_num, fun j h1 h2 => ?_⟩
          by_cases e : j = k - 1
          · rw [e]; exact HZ2.out
          · exact HZ.out j (by omega) h2
        case measure => simp [intOf]; omega
      · have hz2 : (((l.getD (k - 1) 0 : Nat) : Int) == 0) = false := by simpa using hz
        have HC := hid hcell
        clear hcell
        have HZ2 := hid hz
        clear hz
        generalize he : l.getD (k - 1) 0 = dd at *
        have HE := hid he
        clear he
        have hown0 : (w.alloc (.cells #[] 3)).ownsRow w.heap.size 3 1 (.slice (some ⟨w.heap.size, 0, none⟩) 0 0) 0 [] := World.ownsRow_lit w #[] 0 (Nat.le_refl _) (by unfold maxLen; omega) (by simp)
        have HO := hid hown0
        clear hown0
        go_wp2_with (at_builtin; refine wpList_append_own _ rfl _ _ 125 rfl w.heap.size 3 i0 (.int .i64 0) 1 8 Try.underlying125 hi hz0 hz1 hz2x rfl (by decide) _ _ _ rfl HO.out ⟨b, off, none⟩ k cap (vals (l.take k)) rfl ?c0 ?c1 ?c2 ?c3 ?c4 ?c5 ?_)
        case c0 => rw [vals_len, List.length_take]; omega
        case c1 =>
          intro j u hj
          have hjl : j < (l.take k).length := by
            by_cases c : j < (l.take k).length
            · exact c
            · rw [List.getElem?_eq_none (by rw [vals_len]; omega)] at hj; cases hj
          rw [vals_get _ _ hjl] at hj
          simp only [Option.some.injEq] at hj
          subst hj
          have hjk : j < k := by rw [List.length_take] at hjl; omega
          rw [HC.out j (by omega)]
          simp [hjk]
        case c2 =>
          intro u hu
          simp only [vals, List.mem_map] at hu
          obtain ⟨d, _, rfl⟩ := hu
          rfl
        case c3 => unfold maxLen; omega
        case c4 => omega
        intro v' w1 hown' hgrow _
        have hb1 : Below w.heap.size w w1 := ((Below.refl _ _).alloc (Nat.le_refl _) _).grown hgrow (by simp) (fun q hq => by simp [Value.ownBlock] at hq; omega)
        obtain ⟨hkl, ao', cap', hv', hd'⟩ := dg_of_owns hown'
        subst hv'
        clear hown' hgrow
        go_wp2
        go_ret
        refine ⟨ao', cap', l.take k, rfl, hd', ⟨fun d h => HS.out d (List.mem_of_mem_take h), fun hp => ?_⟩, vl_zeros l k hk HZ.out, hb1⟩
        have e1 : (l.take k).length = k := by rw [List.length_take]; omega
        have e2 : (l.take k)[(l.take k).length - 1] = dd := by
          rw [List.getElem_take, ← HE.out, getD_at _ _ (by omega)]
          simp only [e1]
        rw [e2]
        exact HZ2.out
end Go.Proofs.Ytcdcpmcjlchfgaa.Sc
