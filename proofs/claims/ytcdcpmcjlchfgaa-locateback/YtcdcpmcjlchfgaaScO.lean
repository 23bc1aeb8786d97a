/-
  What the document's Of answers for any number: the digits of the clamped number without its sign, in new memory, with no nought at the end.
-/
import Derived.Test.YtcdcpmcjlchfgaaScB
import Derived.Test.YtcdcpmcjlchfgaaScD
namespace Go.Proofs.Ytcdcpmcjlchfgaa.Sc
open Go.RowKit
set_option linter.unusedSimpArgs false
set_option linter.unusedVariables false

theorem hid {p : Prop} (h : p) : Hid p := h
theorem info_int : (Try.prog.info? 3).map (fun i => (i.zero, i.size, i.bytes)) = some (some (.int .i64 0), 1, 8) := by kernel_rfl

/-- The digits as they lie in memory. -/
def vals (l : List Nat) : List Value := l.map fun (d : Nat) => Value.int .i64 (d : Int)
theorem vals_len (l : List Nat) : (vals l).length = l.length := by simp [vals]
theorem vals_get (l : List Nat) (j : Nat) (h : j < l.length) : (vals l)[j]? = some (.int .i64 ((l.getD j 0 : Nat) : Int)) := by
  simp [vals, h]
theorem vals_snoc (l : List Nat) (x : Nat) : vals l ++ [.int .i64 (x : Int)] = vals (l ++ [x]) := by simp [vals]

/-- The address leads to the digits: nothing is asked of it where there is none. -/
def Dg (w : World) (ao : Option Addr) (cap : Nat) (l : List Nat) : Prop :=
  (l.length ≤ cap ∧ cap ≤ maxLen) ∧ (l = [] ∨ ∃ b off, ao = some ⟨b, off, none⟩ ∧ b < w.heap.size ∧ ∀ i, i < l.length → w.cell? ⟨b, off + i, none⟩ = some (.int .i64 ((l.getD i 0 : Nat) : Int)))

theorem Dg.below {w w' : World} {ao : Option Addr} {cap : Nat} {l : List Nat} (h : Dg w ao cap l) (hb : Below w.heap.size w w') : Dg w' ao cap l := by
  obtain ⟨hc, h⟩ := h
  refine ⟨hc, ?_⟩
  rcases h with h | ⟨b, off, h1, h2, h3⟩
  · exact Or.inl h
  · refine Or.inr ⟨b, off, h1, Nat.lt_of_lt_of_le h2 hb.size, fun i hi => ?_⟩
    rw [hb.cell (p := ⟨b, off + i, none⟩) h2]
    exact h3 i hi

theorem dg_of_owns {w : World} {base n : Nat} {v : Value} {l : List Nat} (h : w.ownsRow base 3 1 v n (vals l)) : n = l.length ∧ ∃ ao cap, v = .slice ao l.length cap ∧ Dg w ao cap l := by
  have hl : l.length = n := by have := h.1; rw [vals_len] at this; omega
  refine ⟨hl.symm, ?_⟩
  subst hl
  rcases h.2 with ⟨rfl, h0⟩ | ⟨g, cap, cur, rfl, hg, hh, hle, hm, hc, ht⟩
  · have : l = [] := List.eq_nil_of_length_eq_zero h0
    subst this
    exact ⟨none, 0, rfl, ⟨by simp, by unfold maxLen; omega⟩, Or.inl rfl⟩
  · refine ⟨some ⟨g, 0, none⟩, cap, rfl, ⟨hle, hm⟩, Or.inr ⟨g, 0, rfl, ?_, fun i hi => ?_⟩⟩
    · exact (h.lt g rfl).2
    · have := h.cellAt i (by omega)
      rw [Nat.zero_add, this, vals_get l i hi]

theorem of_next (n0 m : Nat) (l : List Nat) (h : vl l + 1000 ^ l.length * m = n0) (hl : ∀ d ∈ l, d < 1000) (hm : 0 < m) :
    vl (l ++ [m % 1000]) + 1000 ^ (l ++ [m % 1000]).length * (m / 1000) = n0 ∧ (∀ d ∈ l ++ [m % 1000], d < 1000) ∧
    (m / 1000 = 0 → ∀ h : 0 < (l ++ [m % 1000]).length, (l ++ [m % 1000])[(l ++ [m % 1000]).length - 1] ≠ 0) := by
  refine ⟨?_, ?_, ?_⟩
  · rw [vl_snoc, List.length_append, List.length_singleton, Nat.pow_succ, Nat.mul_assoc, Nat.add_assoc, ← Nat.mul_add, Nat.mod_add_div]
    exact h
  · intro d hd
    rcases List.mem_append.1 hd with h1 | h1
    · exact hl d h1
    · rw [List.mem_singleton.1 h1]; exact Nat.mod_lt _ (by omega)
  · intro h0 _
    simp
    omega

theorem of_short (n0 m : Nat) (l : List Nat) (h : vl l + 1000 ^ l.length * m = n0) (hm : 0 < m) (hn : n0 ≤ 1152921504606846976) : l.length ≤ 6 := by
  by_cases c : l.length ≤ 6
  · exact c
  · exfalso
    have h1 : 1000 ^ 7 ≤ 1000 ^ l.length := Nat.pow_le_pow_right (by omega) (by omega)
    have h2 : 1000 ^ l.length * 1 ≤ 1000 ^ l.length * m := Nat.mul_le_mul_left _ hm
    have h3 : (1000 : Nat) ^ 7 = 1000000000000000000000 := by decide
    omega

set_option maxRecDepth 100000 in
set_option maxHeartbeats 800000 in
theorem of_any (a : Int) (w : World) :
    Calls Try.prog 79 #[.int .i64 a] w fun e w' => ∃ ao cap l, e = .returned (.slice ao l.length cap) ∧ Dg w' ao cap l ∧ Cn l ∧ vl l = (cl a).natAbs ∧ Below w.heap.size w w' := by
  have ha := cl_le a
  obtain ⟨i0, hi, hz0, hz1, hz2⟩ := info_parts info_int
  obtain ⟨n0, HN⟩ : ∃ n0 : Nat, Hid ((cl a).natAbs = n0) := ⟨_, rfl⟩
  have hn : n0 ≤ 1152921504606846976 := by have := HN.out; omega
  have h7 := @of_short
  by_cases s : cl a < 0
  all_goals
    go_enter Try.func79, Try.ntmps79
    go_wp2_with (go_at_call 62; refine (refclamp_any _ _).mono ?_; rintro e w' ⟨rfl, hw'⟩; subst w')
    go_loopw [0, 3] (fun t v wr => ∃ (m : Nat) (l : List Nat), m ≤ 1152921504606846976 ∧ t = .int .i64 m ∧ wr.ownsRow w.heap.size 3 1 v l.length (vals l) ∧ Below w.heap.size w wr ∧
      (vl l + 1000 ^ l.length * m = n0 ∧ (∀ d ∈ l, d < 1000) ∧ (m = 0 → ∀ h : 0 < l.length, l[l.length - 1] ≠ 0)))
      (fun t _ _ => (intOf t).toNat)
    case atStart =>
      refine ⟨n0, [], hn, ?_, by exact World.ownsRow_nil _ _ _ _, Below.refl _ _, ?_, ?_, ?_⟩
      · congr 1; have := HN.out; omega
      · simp [vl]
      · simp
      · simp
    case round =>
      obtain ⟨m, l, hm, rfl, hown, hbel, hv⟩ := hrel
      have HV := hid hv
      clear hv s ha
      by_cases h : 0 < m
      · have hlen : l.length ≤ 6 := of_short n0 m l HV.out.1 h hn
        have h1 : ¬ ((m : Int) = 0) := by omega
        go_wp2_with (at_builtin; refine wpList_append_own _ rfl _ _ 125 rfl w.heap.size 3 i0 (.int .i64 0) 1 8 Try.underlying125 hi hz0 hz1 hz2 rfl (by decide) _ _ _ rfl (hown.alloc _) ⟨wr.heap.size, 0, none⟩ 1 1 [.int .i64 ((m : Int) % 1000)] rfl rfl ?c1 ?c2 ?c3 ?c4 ?c5 ?_)
        case c1 =>
          intro j u hj
          match j, hj with
          | 0, hj => simp at hj; subst hj; simp [Addr.add]
        case c2 => intro u hu; simp at hu; subst hu; rfl
        case c3 => unfold maxLen; omega
        case c4 => omega
        case c5 => have := hbel.size; simp; omega
        intro v' w1 hown' hgrow _
        have hb1 : Below w.heap.size w w1 := (hbel.alloc (by have := hbel.size; omega) _).grown hgrow (by have := hbel.size; simp; omega) (fun k hk => (hown.lt k hk).1)
        have e1 : ((m : Int) % 1000) = ((m % 1000 : Nat) : Int) := by omega
        rw [e1, vals_snoc] at hown'
        clear hown hgrow hbel e1
        go_wp2
        go_roundw
        case rel =>
          obtain ⟨q1, q2, q3⟩ := of_next n0 m l HV.out.1 HV.out.2.1 h
          refine ⟨m / 1000, l ++ [m % 1000], by omega, by go_num, by simpa using hown', hb1, q1, q2, q3⟩
        case measure => simp [intOf]; omega
      · go_wp2
        have hm0 : m = 0 := by omega
        obtain ⟨q1, q2, q3⟩ := HV.out
        obtain ⟨_, ao, cap, hv, hd⟩ := dg_of_owns hown
        subst hv
        go_ret
        refine ⟨ao, cap, l, rfl, hd, ⟨q2, q3 hm0⟩, ?_, hbel⟩
        rw [HN.out, ← q1, hm0]; simp
end Go.Proofs.Ytcdcpmcjlchfgaa.Sc
