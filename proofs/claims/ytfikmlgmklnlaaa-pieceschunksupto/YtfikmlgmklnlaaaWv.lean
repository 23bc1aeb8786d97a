/-
  That the page's example comes out; what Pieces and Depth answer.
-/
import Derived.Test.YtfikmlgmklnlaaaWu
namespace Go.Proofs.Ytfikmlgmklnlaaa
open Go.RowKit
set_option linter.unusedSimpArgs false
set_option linter.unusedVariables false

set_option maxRecDepth 100000 in
theorem pieces_any {S : Nat → Nat → Prop} {w : World} {tb : Nat} {x : Option Addr} {A : Option (Nat × Nat × Nat)} {T : Tr} (h : TextAt S w tb x A T) :
    Calls Try.prog 25 #[.pointer (some ⟨tb, 0, none⟩)] w fun e w' => e = .returned (.int .i64 (T.pcs.length : Nat)) ∧ Below w.heap.size w w' := by
  have c0 := h.root
  have ht := total_any S T x w h.tree
  have hf := fld2
  clear h
  go_enter Try.func25, Try.ntmps25
  go_wp2_with (go_at_call 31; refine ht.mono ?_; rintro e w1 ⟨rfl, hb1⟩; have HB := boxed hb1; clear hb1)
  go_ret
  exact ⟨rfl, HB.out⟩

theorem ascii_ok (s : ByteArray) (h : ∀ k, k < s.size → bt s k < 128) (N : Nat) (hN : Cnt s N) : badAt s N < 0 := by
  unfold badAt
  by_cases c : it s N < s.size
  · exfalso
    have h0 := hN.2
    have : dc s (it s N) = (bt s (it s N), 1) := by unfold dc; exact dec1 (h _ c)
    rw [this] at h0
    simp at h0
  · rw [if_neg c]; decide
theorem ascii_lit (l : List Nat) (h : ∀ x ∈ l, x < 128) (N : Nat) (hN : Cnt (tx l) N) : badAt (tx l) N < 0 := by
  refine ascii_ok _ (fun k hk => ?_) N hN
  rw [tx_size] at hk
  rw [tx_bt l (fun x hx => by have := h x hx; omega) k hk]
  simp only [List.getD_eq_getElem?_getD, List.getElem?_eq_getElem hk, Option.getD_some]
  exact h _ (List.getElem_mem hk)
theorem chk_lit (l : List Nat) (h : ∀ x ∈ l, x < 128) : chk (tx l) (cN (tx l)) = 0 := by
  unfold chk; rw [if_pos (ascii_lit l h _ (cN_ok _))]

/-- The page's example. -/
def exO : Nat → Opr
  | 0 => ⟨false, 1, 0, tx [120]⟩
  | _ => ⟨true, 0, 2, tx []⟩
theorem ex_ply : ply [97, 98] exO 2 = [98] := by
  have h1 : stp [97, 98] (exO 0) = [97, 120, 98] := by
    have hc := chk_lit [120] (by simp)
    have hb := bl_tx [120] (by simp)
    have hi : ine [97, 98] 1 (tx [120]) (cN (tx [120])) = 0 := by
      unfold ine
      rw [hc, show cke [97, 98] 1 = 0 from by decide, tx_size]
      decide
    simp only [stp, exO]
    rw [if_neg (by decide), if_pos hi, hb]
    rfl
  have h2 : stp [97, 120, 98] (exO 1) = [98] := by
    simp only [stp, exO]
    rw [if_pos trivial, if_pos (by decide)]
    rfl
  show stp (stp [97, 98] (exO 0)) (exO 1) = _
  rw [h1, h2]

theorem pcs_pos {T : Tr} (h : T.flat ≠ []) : 0 < T.pcs.length := by
  cases T with
  | nil => exact absurd rfl h
  | node l p r => simp [Tr.pcs]; omega

set_option maxRecDepth 100000 in
set_option maxHeartbeats 1000000 in
theorem awake_any (w : World) :
    Calls Try.prog 9 #[] w fun e w' => e = .returned (.bool true) ∧ Below w.heap.size w w' := by
  have e97 : bl (tx [97, 98]) = [97, 98] := bl_tx _ (by simp)
  have hpl := fun w' (hO : OpsAt w' (some ⟨w.heap.size, 0, none⟩) 2 exO) => played_any (tx [97, 98]) (some ⟨w.heap.size, 0, none⟩) 2 2 exO w' hO (cN (tx [97, 98])) (cN_ok _) (by rw [tx_size]; decide) (ascii_lit _ (by simp) _ (cN_ok _)) (by decide)
  rw [e97, show min 2 60 = 2 from rfl, ex_ply] at hpl
  have htx : tx [97, 98] = ⟨#[97, 98]⟩ := by kernel_rfl
  rw [htx] at hpl
  go_enter Try.func9, Try.ntmps9
  go_wp2_with fail
  refine (hpl _ ?_).mono ?_
  · intro i hi
    match i, hi with
    | 0, _ =>
      refine ⟨⟨by decide, by decide, by rw [show (exO 0).m = tx [120] from rfl, tx_size]; decide⟩, w.heap.size, 0, rfl, ?_, ?_, ?_, ?_⟩
      · rw [cell_new _ _ _ _ _ rfl]; rfl
      · rw [cell_new _ _ _ _ _ rfl]; rfl
      · rw [cell_new _ _ _ _ _ rfl]; rfl
      · rw [cell_new _ _ _ _ _ rfl]; kernel_rfl
    | 1, _ =>
      refine ⟨⟨by decide, by decide, by rw [show (exO 1).m = tx [] from rfl, tx_size]; decide⟩, w.heap.size, 0, rfl, ?_, ?_, ?_, ?_⟩
      · rw [cell_new _ _ _ _ _ rfl]; rfl
      · rw [cell_new _ _ _ _ _ rfl]; rfl
      · rw [cell_new _ _ _ _ _ rfl]; rfl
      · rw [cell_new _ _ _ _ _ rfl]; kernel_rfl
  rintro e w1 ⟨tb, r, rfl, hr, hl⟩
  have hre : r = ⟨#[98]⟩ := by
    have h98 : (⟨#[98]⟩ : ByteArray) = tx [98] := by kernel_rfl
    rw [h98]
    apply bl_inj
    rw [hr, bl_tx _ (by simp)]
  obtain ⟨S, x, A, T, t1, t2, t3, t4, t5, t6, t7⟩ := hl
  have hfl : tx T.flat = ⟨#[98]⟩ := by rw [t3, tx_bl, hre]
  have hpos : 0 < T.pcs.length := pcs_pos (by rw [t3, hr]; simp)
  have hst := string_any t1
  have hpc := fun w' (hb : Below w1.heap.size w1 w') => pieces_any (t1.below hb)
  rw [hfl] at hst
  subst hre
  have HB0 : Box (Below w.heap.size w w1) := boxed (below_box (by simpa using t7))
  have hp0 : decide ((0 : Int) < (T.pcs.length : Int)) = true := decide_eq_true (by omega)
  have hp0' : decide (0 < T.pcs.length) = true := decide_eq_true hpos
  clear t1 t2 t3 t4 t5 t6 t7 hpl hr hfl hpos
  generalize T.pcs.length = P at *
  go_wp2_with fail
  refine hst.mono ?_
  rintro e w2 ⟨rfl, hb2⟩
  have HB2 := boxed hb2
  clear hb2 hst
  go_wp2_with fail
  refine (hpc _ HB2.out).mono ?_
  rintro e w3 ⟨rfl, hb3⟩
  have HB3 := boxed (below_step (below_step HB0.out (Nat.le_refl _) HB2.out) (Nat.le_refl _) hb3)
  clear hb3 hpc
  go_wp2
  go_ret
  exact ⟨rfl, HB3.out⟩
end Go.Proofs.Ytfikmlgmklnlaaa
