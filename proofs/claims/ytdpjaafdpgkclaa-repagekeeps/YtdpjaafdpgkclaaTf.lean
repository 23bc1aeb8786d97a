/-
  Which page has a line: what the program's Find (by halving) answers.
-/
import Derived.Test.YtdpjaafdpgkclaaHi
namespace Go.Proofs.Ytdpjaafdpgkclaa
open Go.RowKit
set_option linter.unusedSimpArgs false
set_option linter.unusedVariables false

/-- So many of the numbers are at most r. -/
def Upto (L : List Nat) (r : Int) (q : Nat) : Prop := q ≤ L.length ∧ (∀ j, j < q → ((L.getD j 0 : Nat) : Int) ≤ r) ∧ ∀ j, q ≤ j → j < L.length → r < ((L.getD j 0 : Nat) : Int)
theorem Upto.one {L : List Nat} {r : Int} {q q' : Nat} (h : Upto L r q) (k : Upto L r q') : q = q' := by
  obtain ⟨h1, h2, h3⟩ := h
  obtain ⟨k1, k2, k3⟩ := k
  rcases Nat.lt_trichotomy q q' with c | c | c
  · have := k2 q c; have := h3 q (Nat.le_refl _) (by omega); omega
  · exact c
  · have := h2 q' c; have := k3 q' (Nat.le_refl _) (by omega); omega
theorem upto_some (L : List Nat) (r : Int) (hM : ∀ j k, j ≤ k → k < L.length → L.getD j 0 ≤ L.getD k 0) : ∃ q, Upto L r q := by
  have key : ∀ m, m ≤ L.length → ∃ q, q ≤ m ∧ (∀ j, j < q → ((L.getD j 0 : Nat) : Int) ≤ r) ∧ ∀ j, q ≤ j → j < m → r < ((L.getD j 0 : Nat) : Int) := by
    intro m
    induction m with
    | zero => exact fun _ => ⟨0, Nat.le_refl _, fun j hj => by omega, fun j h1 h2 => by omega⟩
    | succ m ih =>
      intro hm
      obtain ⟨q, h1, h2, h3⟩ := ih (by omega)
      by_cases c : q = m
      · by_cases d : ((L.getD m 0 : Nat) : Int) ≤ r
        · refine ⟨m + 1, Nat.le_refl _, fun j hj => ?_, fun j h4 h5 => by omega⟩
          by_cases e : j = m
          · subst e; exact d
          · exact h2 j (by omega)
        · refine ⟨q, by omega, h2, fun j h4 h5 => ?_⟩
          have e : j = m := by omega
          subst e; omega
      · refine ⟨q, by omega, h2, fun j h4 h5 => ?_⟩
        by_cases e : j = m
        · subst e
          have h6 := h3 q (Nat.le_refl _) (by omega)
          have h7 := hM q j h4 (by omega)
          omega
        · exact h3 j h4 (by omega)
  obtain ⟨q, h1, h2, h3⟩ := key L.length (Nat.le_refl _)
  exact ⟨q, h1, h2, h3⟩
set_option maxRecDepth 100000 in
theorem find1_any (S : Nat → Prop) (ao : Option Addr) (cap : Nat) (L : List Nat) (r : Int) (bS bR k : Nat) (w : World) (hr : NAt S w ao L) (hk : k < L.length) (cS : w.cell? ⟨bS, 0, none⟩ = some (.slice ao L.length cap)) (cR : w.cell? ⟨bR, 0, none⟩ = some (.int .i64 r)) :
    Calls Try.prog 61 #[.int .i64 (k : Int), .pointer (some ⟨bS, 0, none⟩), .pointer (some ⟨bR, 0, none⟩)] w fun e w' => e = .returned (.bool (decide (r < ((L.getD k 0 : Nat) : Int)))) ∧ Below w.heap.size w w' := by
  obtain ⟨b, rfl, -, -⟩ := hr.form (by omega)
  have c0 := hr.get k hk
  clear hr
  generalize L.getD k 0 = H at *
  generalize L.length = n at *
  have hk2 : (k : Int) < (n : Int) := by omega
  go_enter Try.func61, Try.ntmps61
  go_wp2
  go_quiet (fail)
  go_wp2
  go_ret
  exact ⟨rfl, bel_drewN _ _ _⟩
set_option maxRecDepth 100000 in
set_option maxHeartbeats 1000000 in
theorem search_any (S : Nat → Prop) (ao : Option Addr) (cap : Nat) (L : List Nat) (r : Int) (bS bR : Nat) (w : World) (hr : NAt S w ao L) (hn : L.length ≤ 1000000) (hM : ∀ j k, j ≤ k → k < L.length → L.getD j 0 ≤ L.getD k 0) (cS : w.cell? ⟨bS, 0, none⟩ = some (.slice ao L.length cap)) (cR : w.cell? ⟨bR, 0, none⟩ = some (.int .i64 r)) :
    Calls Try.prog 60 #[.int .i64 (L.length : Int), .func (.func 61) #[] #[.pointer (some ⟨bS, 0, none⟩), .pointer (some ⟨bR, 0, none⟩)]] w fun e w' => ∃ q : Nat, e = .returned (.int .i64 (q : Int)) ∧ Upto L r q ∧ Below w.heap.size w w' := by
  have HR := boxed hr
  have HI := boxed hM
  have CS := boxed cS
  have CR := boxed cR
  clear hr hM cS cR
  obtain ⟨n, hN⟩ : ∃ n, L.length = n := ⟨_, rfl⟩
  have HN := boxed hN
  unfold Upto
  rw [hN] at hn HI CS ⊢
  clear hN
  go_enter Try.func60, Try.ntmps60
  go_wp2_with fail
  go_loopw [5, 6] (fun a b wr => ∃ i j : Nat, i ≤ j ∧ j ≤ n ∧ a = .int .i64 i ∧ b = .int .i64 j ∧ Box ((∀ q, q < i → ((L.getD q 0 : Nat) : Int) ≤ r) ∧ ∀ q, j ≤ q → q < n → r < ((L.getD q 0 : Nat) : Int)) ∧ Box (Below w.heap.size w wr)) (fun a b _ => (intOf b - intOf a).toNat)
  case atStart => exact ⟨0, n, by omega, by omega, rfl, rfl, boxed ⟨fun q hq => by omega, fun q h1 h2 => by omega⟩, boxed (Below.refl _ _)⟩
  case round =>
    obtain ⟨i, j, h1, h2, rfl, rfl, HP, HB⟩ := hrel
    by_cases hlt : i < j
    · obtain ⟨m, hm⟩ : ∃ m : Nat, (i + j) / 2 = m := ⟨_, rfl⟩
      have em : ((i : Int) + (j : Int)) / 2 = (m : Int) := by omega
      have m1 : i ≤ m := by omega
      have m2 : m < j := by omega
      clear hm
      have HC := boxed (find1_any S ao cap L r bS bR m wr (HR.out.below HB.out) (by rw [HN.out]; omega) (by rw [HN.out]; exact hold HB.out CS.out) (hold HB.out CR.out))
      go_wp2_with fail
      refine HC.out.mono ?_
      rintro e w1 ⟨rfl, hb1⟩
      have HB2 := boxed (below_step HB.out (Nat.le_refl _) hb1)
      clear hb1 HC
      by_cases hf : r < ((L.getD m 0 : Nat) : Int)
      · have tf : decide (r < ((L.getD m 0 : Nat) : Int)) = true := decide_eq_true hf
        have HNx : Box ((∀ q, q < i → ((L.getD q 0 : Nat) : Int) ≤ r) ∧ ∀ q, m ≤ q → q < n → r < ((L.getD q 0 : Nat) : Int)) := boxed ⟨HP.out.1, fun q hq1 hq2 => by
          have := HI.out m q hq1 hq2
          omega⟩
        clear hf
        generalize decide (r < ((L.getD m 0 : Nat) : Int)) = D at *
        go_wp2_with fail
        go_roundw
        case rel => exact ⟨i, m, m1, by omega, rfl, rfl, HNx, HB2⟩
        case measure => simp [intOf]; omega
      · have tf : decide (r < ((L.getD m 0 : Nat) : Int)) = false := decide_eq_false hf
        have HNx : Box ((∀ q, q < m + 1 → ((L.getD q 0 : Nat) : Int) ≤ r) ∧ ∀ q, j ≤ q → q < n → r < ((L.getD q 0 : Nat) : Int)) := boxed ⟨fun q hq => by
          have := HI.out q m (by omega) (by omega)
          omega, HP.out.2⟩
        clear hf
        generalize decide (r < ((L.getD m 0 : Nat) : Int)) = D at *
        go_wp2_with fail
        go_roundw
        case rel => exact ⟨m + 1, j, by omega, h2, by go_num, rfl, HNx, HB2⟩
        case measure => simp [intOf]; omega
    · have e : i = j := by omega
      subst e
      go_wp2_with fail
      go_ret
      exact ⟨i, rfl, ⟨h2, HP.out.1, HP.out.2⟩, HB.out⟩
set_option maxRecDepth 100000 in
theorem find_any (S : Nat → Prop) (ao : Option Addr) (cap : Nat) (L : List Nat) (r : Int) (q : Nat) (hq : Upto L r q) (w : World) (hr : NAt S w ao L) (hn : L.length ≤ 1000000) (hM : ∀ j k, j ≤ k → k < L.length → L.getD j 0 ≤ L.getD k 0) :
    Calls Try.prog 50 #[.slice ao L.length cap, .int .i64 r] w fun e w' => e = .returned (.int .i64 ((q : Int) - 1)) ∧ Below w.heap.size w w' := by
  have h2 := laid2 w (.cells #[.slice ao L.length cap] 39) (.cells #[.int .i64 r] 3)
  have c1 : ((w.alloc (.cells #[.slice ao L.length cap] 39)).alloc (.cells #[.int .i64 r] 3)).cell? ⟨w.heap.size, 0, none⟩ = some (.slice ao L.length cap) := by rw [cell_of_row _ _ _ _ _ _ h2.1]; rfl
  have c2 : ((w.alloc (.cells #[.slice ao L.length cap] 39)).alloc (.cells #[.int .i64 r] 3)).cell? ⟨w.heap.size + 1, 0, none⟩ = some (.int .i64 r) := by rw [cell_of_row _ _ _ _ _ _ h2.2.1]; rfl
  have hs := search_any S ao cap L r w.heap.size (w.heap.size + 1) _ (hr.below h2.2.2.1) hn hM c1 c2
  have HB := boxed h2.2.2.1
  have HQ := boxed (fun q' (h : Upto L r q') => h.one hq)
  have hqn := hq.1
  clear c1 c2 h2 hr hM hq
  generalize Upto L r = U at *
  generalize L.length = n at *
  go_enter Try.func50, Try.ntmps50
  go_wp2_with fail
  refine hs.mono ?_
  rintro e w1 ⟨q', rfl, hU, hb⟩
  obtain rfl := HQ.out q' hU
  have HB2 := boxed (below_step HB.out (Nat.le_refl _) hb)
  clear hb hs hU HB HQ
  go_wp2_with fail
  go_ret
  exact ⟨rfl, HB2.out⟩
end Go.Proofs.Ytdpjaafdpgkclaa
