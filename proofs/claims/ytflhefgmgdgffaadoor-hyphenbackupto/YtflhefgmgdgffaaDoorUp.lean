/-
  What the document's Kind answers for every number: the row of its table in which the number stands, or 0.
-/
import Derived.Test.YtflhefgmgdgffaaDoorUg
namespace Go.Proofs.YtflhefgmgdgffaaDoor
open Go.RowKit
set_option linter.unusedSimpArgs false
set_option linter.unusedVariables false

/-- The rows of the document's table. -/
def tab : Nat → List Nat
  | 1 => [32, 9]
  | 2 => [160, 8239]
  | 3 => [173]
  | 4 => [8203]
  | 5 => [8288, 65279]
  | 6 => [45, 8208]
  | 7 => [8232]
  | 8 => [10]
  | _ => []
/-- The table lies in memory. -/
def Tab (w : World) (h : Nat) : Prop :=
  (∀ k, 1 ≤ k → k ≤ 8 → w.cell? ⟨h + 1 + 1 + 1 + 1 + 1 + 1 + 1 + 1 + 1, k, none⟩ = some (.slice (some ⟨h + k, 0, none⟩) (tab k).length (tab k).length)) ∧
  ∀ k i, 1 ≤ k → k ≤ 8 → i < (tab k).length → w.cell? ⟨h + k, i, none⟩ = some (.int .i64 (((tab k).getD i 0 : Nat) : Int))

theorem eight (k : Nat) (h1 : 1 ≤ k) (h2 : k ≤ 8) : k = 1 ∨ k = 2 ∨ k = 3 ∨ k = 4 ∨ k = 5 ∨ k = 6 ∨ k = 7 ∨ k = 8 := by omega

theorem blk_old : ∀ (l : List Obj) (w : World) (k : Nat), k < w.heap.size → (l.foldl World.alloc w).heap[k]? = w.heap[k]?
  | [], _, _, _ => rfl
  | o :: l, w, k, h => by
    rw [List.foldl_cons, blk_old l (w.alloc o) k (by simp; omega), heap_alloc_old w o h]
theorem blk_new : ∀ (l : List Obj) (w : World) (i : Nat) (h : i < l.length), (l.foldl World.alloc w).heap[w.heap.size + i]? = some l[i]
  | o :: l, w, 0, h => by
    rw [List.foldl_cons, Nat.add_zero, blk_old l (w.alloc o) w.heap.size (by simp), heap_alloc_new]; rfl
  | o :: l, w, i + 1, h => by
    have := blk_new l (w.alloc o) i (by simpa using h)
    rw [show (w.alloc o).heap.size + i = w.heap.size + (i + 1) by simp; omega] at this
    exact this
/-- The table's blocks. -/
def tabObjs (w : World) : List Obj := [.cells #[] 3, .cells #[.int .i64 32, .int .i64 9] 3, .cells #[.int .i64 160, .int .i64 8239] 3, .cells #[.int .i64 173] 3, .cells #[.int .i64 8203] 3, .cells #[.int .i64 8288, .int .i64 65279] 3, .cells #[.int .i64 45, .int .i64 8208] 3, .cells #[.int .i64 8232] 3, .cells #[.int .i64 10] 3, .cells #[.slice (some ⟨w.heap.size, 0, none⟩) 0 0, .slice (some ⟨w.heap.size + 1, 0, none⟩) 2 2, .slice (some ⟨w.heap.size + 1 + 1, 0, none⟩) 2 2, .slice (some ⟨w.heap.size + 1 + 1 + 1, 0, none⟩) 1 1, .slice (some ⟨w.heap.size + 1 + 1 + 1 + 1, 0, none⟩) 1 1, .slice (some ⟨w.heap.size + 1 + 1 + 1 + 1 + 1, 0, none⟩) 2 2, .slice (some ⟨w.heap.size + 1 + 1 + 1 + 1 + 1 + 1, 0, none⟩) 2 2, .slice (some ⟨w.heap.size + 1 + 1 + 1 + 1 + 1 + 1 + 1, 0, none⟩) 1 1, .slice (some ⟨w.heap.size + 1 + 1 + 1 + 1 + 1 + 1 + 1 + 1, 0, none⟩) 1 1] 30]

set_option maxRecDepth 100000 in
theorem tab_made (w : World) : Tab ((((((((((w.alloc (.cells #[] 3)).alloc (.cells #[.int .i64 32, .int .i64 9] 3)).alloc (.cells #[.int .i64 160, .int .i64 8239] 3)).alloc (.cells #[.int .i64 173] 3)).alloc (.cells #[.int .i64 8203] 3)).alloc (.cells #[.int .i64 8288, .int .i64 65279] 3)).alloc (.cells #[.int .i64 45, .int .i64 8208] 3)).alloc (.cells #[.int .i64 8232] 3)).alloc (.cells #[.int .i64 10] 3)).alloc (.cells #[.slice (some ⟨w.heap.size, 0, none⟩) 0 0, .slice (some ⟨w.heap.size + 1, 0, none⟩) 2 2, .slice (some ⟨w.heap.size + 1 + 1, 0, none⟩) 2 2, .slice (some ⟨w.heap.size + 1 + 1 + 1, 0, none⟩) 1 1, .slice (some ⟨w.heap.size + 1 + 1 + 1 + 1, 0, none⟩) 1 1, .slice (some ⟨w.heap.size + 1 + 1 + 1 + 1 + 1, 0, none⟩) 2 2, .slice (some ⟨w.heap.size + 1 + 1 + 1 + 1 + 1 + 1, 0, none⟩) 2 2, .slice (some ⟨w.heap.size + 1 + 1 + 1 + 1 + 1 + 1 + 1, 0, none⟩) 1 1, .slice (some ⟨w.heap.size + 1 + 1 + 1 + 1 + 1 + 1 + 1 + 1, 0, none⟩) 1 1] 30)) w.heap.size := by
  have hall := blk_new (tabObjs w) w
  have hlen : (tabObjs w).length = 10 := rfl
  have e9 := hall 9 (by omega)
  constructor
  · intro k h1 h2
    have := cell_of_row _ (w.heap.size + 9) k _ _ _ e9
    refine Eq.trans this ?_
    rcases eight k h1 h2 with rfl | rfl | rfl | rfl | rfl | rfl | rfl | rfl <;> rfl
  · intro k i h1 h2 h3
    rcases eight k h1 h2 with rfl | rfl | rfl | rfl | rfl | rfl | rfl | rfl
    · refine Eq.trans (cell_of_row _ (w.heap.size + 1) i _ _ _ (hall 1 (by omega))) ?_
      simp [tab] at h3
      have hi : i = 0 ∨ i = 1 := by omega
      rcases hi with rfl | rfl <;> rfl
    · refine Eq.trans (cell_of_row _ (w.heap.size + 2) i _ _ _ (hall 2 (by omega))) ?_
      simp [tab] at h3
      have hi : i = 0 ∨ i = 1 := by omega
      rcases hi with rfl | rfl <;> rfl
    · refine Eq.trans (cell_of_row _ (w.heap.size + 3) i _ _ _ (hall 3 (by omega))) ?_
      simp [tab] at h3
      subst h3; rfl
    · refine Eq.trans (cell_of_row _ (w.heap.size + 4) i _ _ _ (hall 4 (by omega))) ?_
      simp [tab] at h3
      subst h3; rfl
    · refine Eq.trans (cell_of_row _ (w.heap.size + 5) i _ _ _ (hall 5 (by omega))) ?_
      simp [tab] at h3
      have hi : i = 0 ∨ i = 1 := by omega
      rcases hi with rfl | rfl <;> rfl
    · refine Eq.trans (cell_of_row _ (w.heap.size + 6) i _ _ _ (hall 6 (by omega))) ?_
      simp [tab] at h3
      have hi : i = 0 ∨ i = 1 := by omega
      rcases hi with rfl | rfl <;> rfl
    · refine Eq.trans (cell_of_row _ (w.heap.size + 7) i _ _ _ (hall 7 (by omega))) ?_
      simp [tab] at h3
      subst h3; rfl
    · refine Eq.trans (cell_of_row _ (w.heap.size + 8) i _ _ _ (hall 8 (by omega))) ?_
      simp [tab] at h3
      subst h3; rfl

theorem tab_short (k : Nat) (h1 : 1 ≤ k) (h2 : k ≤ 8) : (tab k).length ≤ 2 := by
  rcases eight k h1 h2 with rfl | rfl | rfl | rfl | rfl | rfl | rfl | rfl <;> decide
theorem tab_kd (k i : Nat) (h1 : 1 ≤ k) (h2 : k ≤ 8) (h3 : i < (tab k).length) : kd (((tab k).getD i 0 : Nat) : Int) = k ∧ (tab k).getD i 0 ≤ 65279 := by
  rcases eight k h1 h2 with rfl | rfl | rfl | rfl | rfl | rfl | rfl | rfl <;> simp [tab] at h3 ⊢
  all_goals
    first
      | (subst h3; decide)
      | (have hi : i = 0 ∨ i = 1 := by omega
         rcases hi with rfl | rfl <;> decide)
theorem tab_none (r : Int) (h : ∀ k, 1 ≤ k → k ≤ 8 → ∀ i, i < (tab k).length → (((tab k).getD i 0 : Nat) : Int) ≠ r) : kd r = 0 := by
  rcases kd_cases r with (rfl | rfl | rfl | rfl | rfl | rfl | rfl | rfl | rfl | rfl | rfl | rfl) | ⟨h0, h1, h2, h3, h4, h5, h6, h7, h8, h9, h10, h11⟩
  · exact absurd rfl (h 1 (by omega) (by omega) 0 (by decide))
  · exact absurd rfl (h 1 (by omega) (by omega) 1 (by decide))
  · exact absurd rfl (h 2 (by omega) (by omega) 0 (by decide))
  · exact absurd rfl (h 2 (by omega) (by omega) 1 (by decide))
  · exact absurd rfl (h 3 (by omega) (by omega) 0 (by decide))
  · exact absurd rfl (h 4 (by omega) (by omega) 0 (by decide))
  · exact absurd rfl (h 5 (by omega) (by omega) 0 (by decide))
  · exact absurd rfl (h 5 (by omega) (by omega) 1 (by decide))
  · exact absurd rfl (h 6 (by omega) (by omega) 0 (by decide))
  · exact absurd rfl (h 6 (by omega) (by omega) 1 (by decide))
  · exact absurd rfl (h 7 (by omega) (by omega) 0 (by decide))
  · exact absurd rfl (h 8 (by omega) (by omega) 0 (by decide))
  · simp only [beq_eq_false_iff_ne, ne_eq] at *
    unfold kd
    simp [*]

set_option maxRecDepth 100000 in
set_option maxHeartbeats 1600000 in
theorem refkind_any (r : Int) (w : World) :
    Calls Tryd.prog 22 #[.int .i64 r] w fun e w' => e = .returned (.int .i64 (kd r)) ∧ Below w.heap.size w w' := by
  go_enter Tryd.func22, Tryd.ntmps22
  go_wp2
  go_loopw [4, 5] (fun t _ wr => ∃ k : Nat, (1 ≤ k ∧ k ≤ 9) ∧ t = .int .i64 (k : Int) ∧ Box (∀ j, 1 ≤ j → j < k → ∀ i, i < (tab j).length → (((tab j).getD i 0 : Nat) : Int) ≠ r) ∧ Box (Tab wr w.heap.size) ∧ Box (Below w.heap.size w wr)) (fun t _ _ => 9 - (intOf t).toNat)
  case atStart => exact ⟨1, by omega, rfl, boxed (by intro j h1 h2; omega), boxed (tab_made w), boxed (by repeat (first | exact Below.refl _ _ | refine Below.alloc ?_ (by simp <;> omega) _))⟩
  case round =>
    obtain ⟨k, hk, rfl, HK, HT, HB⟩ := hrel
    by_cases h8 : k ≤ 8
    · have hrow := HT.out.1 k hk.1 h8
      have hsh := tab_short k hk.1 h8
      have HC := boxed (fun i => HT.out.2 k i hk.1 h8)
      have HX := boxed (fun i => tab_kd k i hk.1 h8)
      have hl9 : decide ((k : Int) < 9) = true := decide_eq_true (by omega)
      have HL : Box ((tab k).length = (tab k).length) := boxed rfl
      generalize hn : (tab k).length = n at *
      replace hn := boxed hn
      go_wp2
      go_hide hQ
      go_loop [5] (fun t => ∃ i : Nat, i ≤ n ∧ t = .int .i64 (i : Int) ∧ Box (∀ j, j < i → (((tab k).getD j 0 : Nat) : Int) ≠ r)) (fun t => n - (intOf t).toNat)
      case atStart => exact ⟨0, Nat.zero_le _, rfl, boxed (by intro j hj; omega)⟩
      case round =>
        obtain ⟨i, hi, rfl, HI⟩ := hrel
        by_cases hlt : i < n
        · have hcell := HC.out i hlt
          obtain ⟨x1, x2⟩ := HX.out i hlt
          have HX1 := boxed x1
          clear x1
          generalize hv : (tab k).getD i 0 = v at *
          replace hv := boxed hv
          cases he : ((v : Int) == r) with
          | true =>
            have HE : Box ((v : Int) = r) := boxed (by simpa using he)
            go_wp2
            subst hQ
            go_wp2
            go_ret
            exact ⟨ret_int (by rw [← HE.out, HX1.out]), HB.out⟩
          | false =>
            have HE : Box ((v : Int) ≠ r) := boxed (by simpa using he)
            go_wp2
            go_round
            case rel =>
              refine ⟨i + 1, by omega, by go_num, boxed ?_⟩
              intro j hj
              by_cases c : j = i
              · subst c; rw [hv.out]; exact HE.out
              · exact HI.out j (by omega)
            case measure => simp [intOf]; omega
        · go_wp2
          subst hQ
          go_wp2
          go_roundw
          case rel =>
            refine ⟨k + 1, by omega, by go_num, boxed ?_, HT, HB⟩
            intro j h1 h2 i' hi'
            by_cases c : j = k
            · subst c; exact HI.out i' (by have := hn.out; omega)
            · exact HK.out j h1 (by omega) i' hi'
          case measure => simp [intOf]; omega
    · have hl9 : decide ((k : Int) < 9) = false := decide_eq_false (by omega)
      go_wp2
      go_ret
      exact ⟨ret_int (tab_none r (fun j h1 h2 => HK.out j h1 (by omega))).symm, HB.out⟩
end Go.Proofs.YtflhefgmgdgffaaDoor
