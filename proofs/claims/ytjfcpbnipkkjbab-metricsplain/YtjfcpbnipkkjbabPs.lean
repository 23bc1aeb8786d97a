/-
  The plain style, as the program's Plain makes it; whether it may be.
-/
import Derived.Test.YtjfcpbnipkkjbabPq
import Derived.Test.YtjfcpbnipkkjbabPn
namespace Go.Proofs.Ytjfcpbnipkkjbab
open Go.RowKit
set_option linter.unusedSimpArgs false
set_option linter.unusedVariables false

/-- The plain style. -/
def plS (h w : Int) : Sty := ⟨h, w, w.tdiv 2, w.tdiv 3, w, w, none, 0, 0, false, fun _ => ⟨0, 0, 0⟩⟩
theorem td2 (w : Int) (h : I64 w) : I64 (w.tdiv 2) ∧ (0 ≤ w → 0 ≤ w.tdiv 2 ∧ w.tdiv 2 ≤ w) := by
  unfold I64 at *
  by_cases c : 0 ≤ w
  · rw [Int.tdiv_eq_ediv_of_nonneg c]; omega
  · have : w.tdiv 2 = -((-w).tdiv 2) := by rw [Int.neg_tdiv]; omega
    rw [this, Int.tdiv_eq_ediv_of_nonneg (by omega)]
    omega
theorem td3 (w : Int) (h : I64 w) : I64 (w.tdiv 3) ∧ (0 ≤ w → 0 ≤ w.tdiv 3 ∧ w.tdiv 3 ≤ w) := by
  unfold I64 at *
  by_cases c : 0 ≤ w
  · rw [Int.tdiv_eq_ediv_of_nonneg c]; omega
  · have : w.tdiv 3 = -((-w).tdiv 3) := by rw [Int.neg_tdiv]; omega
    rw [this, Int.tdiv_eq_ediv_of_nonneg (by omega)]
    omega
theorem plS_ok (h w : Int) (h1 : I64 h) (h2 : I64 w) : StyOk (plS h w) :=
  ⟨h1, h2, (td2 w h2).1, (td3 w h2).1, h2, h2, ⟨Nat.le_refl _, by show 0 * 24 ≤ 140737488351232; omega⟩, fun _ => ⟨rfl, rfl⟩⟩
theorem plS_ck (h w : Int) (h2 : I64 w) : ckc (fun _ => plS h w) 1 = if (1 ≤ h ∧ h ≤ 1048576) ∧ 0 ≤ w ∧ w ≤ 1048576 then 0 else 41 := by
  have e : ckc (fun _ => plS h w) 1 = flt (plS h w) := by
    unfold ckc
    rw [if_neg (by omega)]
    show (if (0 : Int) = 0 then flt (plS h w) else 0) = _
    rw [if_pos rfl]
  rw [e]
  unfold flt
  have hr : (if 64 < (plS h w).rn then (42 : Int) else rfs (plS h w).R (plS h w).rn) = 0 := by
    have hz : (plS h w).rn = 0 := rfl
    rw [hz, if_neg (by omega)]; rfl
  rw [hr]
  have hm : msr (plS h w) = decide ((1 ≤ h ∧ h ≤ 1048576) ∧ 0 ≤ w ∧ w ≤ 1048576) := by
    unfold msr un plS
    simp only
    have a := td2 w h2
    have b := td3 w h2
    by_cases c : (1 ≤ h ∧ h ≤ 1048576) ∧ 0 ≤ w ∧ w ≤ 1048576
    · have a' := a.2 c.2.1
      have b' := b.2 c.2.1
      rw [decide_eq_true c]
      simp
      omega
    · rw [decide_eq_false c]
      simp
      omega
  rw [hm]
  by_cases c : (1 ≤ h ∧ h ≤ 1048576) ∧ 0 ≤ w ∧ w ≤ 1048576
  · rw [decide_eq_true c, if_pos rfl, if_pos c]
  · rw [decide_eq_false c, if_neg (by simp), if_neg c]
theorem plS_same (h w : Int) : sameS (fun _ => plS h w) 1 (fun _ => plS h w) 1 = true := by
  unfold sameS
  show (decide (1 = 1) && (true && eqS (plS h w) (plS h w))) = true
  have : eqS (plS h w) (plS h w) = true := by
    have e : eqR (plS h w).R (plS h w).R (plS h w).rn = true := rfl
    unfold eqS eqM
    rw [e]
    simp
  rw [this]; rfl
theorem plS_at (h w : Int) (h1 : I64 h) (h2 : I64 w) {W : World} {b : Nat} (hc : ∀ j, W.cell? ⟨b, j, none⟩ = (#[.int .i64 h, .int .i64 w, .int .i64 (w.tdiv 2), .int .i64 (w.tdiv 3), .int .i64 w, .int .i64 w, .slice none 0 0, .bool false] : Array Value)[j]?) :
    StysAt (fun _ => True) W (some ⟨b, 0, none⟩) 1 (fun _ => plS h w) := by
  intro i hi
  obtain rfl : i = 0 := by omega
  refine ⟨plS_ok h w h1 h2, fun j hj => absurd hj (by show ¬ j < 0; omega), b, 0, rfl, trivial, ?_⟩
  exact ⟨hc _, hc _, hc _, hc _, hc _, hc _, hc _, hc _⟩

theorem wr2 (w : Int) (h : I64 w) : wrap64 (w.tdiv 2) = w.tdiv 2 := by
  have := (td2 w h).1
  unfold I64 at this
  simp only [wrap64]
  omega
theorem wr3 (w : Int) (h : I64 w) : wrap64 (w.tdiv 3) = w.tdiv 3 := by
  have := (td3 w h).1
  unfold I64 at this
  simp only [wrap64]
  omega

set_option maxRecDepth 100000 in
theorem plain_any (h w : Int) (h2 : I64 w) (W : World) :
    Calls Try.prog 5 #[.int .i64 h, .int .i64 w] W fun e w' => e = .returned (.slice (some ⟨W.heap.size, 0, none⟩) 1 1) ∧ w' = W.alloc (.cells #[.int .i64 h, .int .i64 w, .int .i64 (w.tdiv 2), .int .i64 (w.tdiv 3), .int .i64 w, .int .i64 w, .slice none 0 0, .bool false] 27) := by
  have q2 := wr2 w h2
  have q3 := wr3 w h2
  clear h2
  go_enter Try.func5, Try.ntmps5
  go_wp2
  go_ret
  exact ⟨rfl, rfl⟩
end Go.Proofs.Ytjfcpbnipkkjbab
