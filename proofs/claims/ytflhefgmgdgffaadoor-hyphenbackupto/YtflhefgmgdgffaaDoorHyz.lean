/-
  The page's example: awake.
-/
import Derived.Test.YtflhefgmgdgffaaDoorHyy
namespace Go.Proofs.YtflhefgmgdgffaaDoor
open Go.RowKit Go.Maps
set_option linter.unusedSimpArgs false
set_option linter.unusedVariables false

theorem mx_of {Q : PL} {row : List Nat} {j x : Nat} (h1 : x = 0 ∨ HitA Q row j x) (h2 : ∀ i, i < Q.length → ∀ k, k < (Q.getD i default).2.length → k ≤ j → (row.drop (j - k)).take (Q.getD i default).1.length = (Q.getD i default).1 → (Q.getD i default).2.getD k 0 ≤ x) : Mx (HitA Q row j) x := by
  refine ⟨h1, ?_⟩
  rintro v ⟨i, a, k, hs, -, rfl, rfl⟩
  refine h2 i hs.1 k hs.2.2.2.2 (by omega) ?_
  rw [show a + k - k = a by omega]
  exact hs.2.2.2.1
def exS (i : Nat) : ByteArray := if i = 0 then ⟨#[49, 110, 97]⟩ else ⟨#[110, 50, 97, 116]⟩
def exT (i : Nat) : ByteArray := ⟨#[]⟩
def exQ : PL := [([110, 97], [1, 0, 0]), ([110, 97, 116], [0, 2, 0, 0])]
def exL : List Nat := [104, 121, 112, 104, 101, 110, 97, 116, 105, 111, 110]
def exO : List Nat := [0, 0, 0, 0, 0, 1, 2, 0, 0, 0, 0, 0]
def exs : ByteArray := ⟨#[104, 121, 112, 104, 101, 110, 97, 116, 105, 111, 110]⟩
theorem ex_pat0 : patT (exS 0) = some ([110, 97], [1, 0, 0]) := by kernel_rfl
theorem ex_pat1 : patT (exS 1) = some ([110, 97, 116], [0, 2, 0, 0]) := by kernel_rfl
theorem ex_word : wordT exs = some (exL, []) := by kernel_rfl
theorem ex_q : qS exS 2 = exQ := by
  rw [qS_succ exS 1 ex_pat1, qS_succ exS 0 ex_pat0]; rfl
theorem ex_good : Good exS exT 2 0 2 2 := by
  refine ⟨⟨by omega, by omega⟩, rfl, fun j hj => ?_, fun j hj => by omega⟩
  have : j = 0 ∨ j = 1 := by omega
  rcases this with rfl | rfl
  · rw [ex_pat0]; simp
  · rw [ex_pat1]; simp
theorem ex_top : ∀ n, n < 12 → ∀ i, i < exQ.length → ∀ k, k < (exQ.getD i default).2.length → k ≤ n + 1 → ((46 :: (exL ++ [46])).drop (n + 1 - k)).take (exQ.getD i default).1.length = (exQ.getD i default).1 → (exQ.getD i default).2.getD k 0 ≤ exO.getD n 0 := by decide +kernel
theorem ex_cnts (i : Nat) (hi : i < 2) : cnts exQ i := by
  intro k h1 h2
  have : i = 0 ∧ k = 1 := by
    have : exQ.length = 2 := rfl
    omega
  obtain ⟨rfl, rfl⟩ := this
  decide
theorem ex_lv : LvO exQ (46 :: (exL ++ [46])) (fun _ _ _ => True) (exL.length + 1) exO := by
  refine ⟨rfl, fun n hn => mx_of ?_ (ex_top n hn)⟩
  have hn' : n < 12 := hn
  by_cases h5 : n = 5
  · subst h5
    exact .inr ⟨0, 6, 0, ⟨by decide, ex_cnts 0 (by omega), by decide, by decide, by decide⟩, trivial, rfl, rfl⟩
  · by_cases h6 : n = 6
    · subst h6
      exact .inr ⟨1, 6, 1, ⟨by decide, ex_cnts 1 (by omega), by decide, by decide, by decide⟩, trivial, rfl, rfl⟩
    · left
      have : ∀ n, n < 12 → n ≠ 5 → n ≠ 6 → exO.getD n 0 = 0 := by decide
      exact this n hn' h5 h6
theorem ex_pts {out : List Nat} (h : PtsS (qS exS 2) (yS exT 0) 2 2 exs out) : out = [5] := by
  rw [ex_q] at h
  refine h.uniq (.inl ⟨exL, ex_word, ?_⟩)
  exact pts_levels (Y := yS exT 0) rfl ex_lv 2 2
set_option maxRecDepth 100000 in
set_option maxHeartbeats 1000000 in
theorem awake_any (w : World) : Calls Tryd.prog 4 #[] w fun e w' => e = .returned (.bool true) ∧ Below w.heap.size w w' := by
  have l1 := laid1 w (.cells #[.string ⟨#[49, 110, 97]⟩, .string ⟨#[110, 50, 97, 116]⟩] 9)
  obtain ⟨W1, hW1⟩ : ∃ W1, w.alloc (.cells #[.string ⟨#[49, 110, 97]⟩, .string ⟨#[110, 50, 97, 116]⟩] 9) = W1 := ⟨_, rfl⟩
  rw [hW1] at l1
  have HB1 := boxed l1.2.1
  have hS : StrsAt W1 (some ⟨w.heap.size, 0, none⟩) 2 exS := by
    refine ⟨.inr ⟨_, 0, rfl, heap_lt l1.1, fun i hi => ?_⟩, fun i hi => ?_⟩
    · have : i = 0 ∨ i = 1 := by omega
      rcases this with rfl | rfl <;> (rw [cell_of_row _ _ _ _ _ _ l1.1]; rfl)
    · have : i = 0 ∨ i = 1 := by omega
      rcases this with rfl | rfl <;> decide
  have hT : StrsAt W1 none 0 exT := ⟨.inl rfl, fun i hi => by omega⟩
  have hbk := book17_any W1 (some ⟨w.heap.size, 0, none⟩) none 2 0 2 0 exS exT 2 2 hS hT (by unfold maxLen; omega) (by unfold maxLen; omega)
  unfold listsV at hbk
  clear hS hT l1
  obtain ⟨xb, hxb⟩ : ∃ xb, w.heap.size = xb := ⟨_, rfl⟩
  rw [hxb] at hbk
  replace hW1 := boxed hW1
  replace hxb := boxed hxb
  go_enter Tryd.func4, Tryd.ntmps4
  go_wp2_with fail
  rw [hW1.out, hxb.out]
  refine hbk.mono ?_
  rintro e w2 ⟨hB, hb2⟩
  clear hbk
  have HB2 : Box (Below w.heap.size w w2) := boxed (below_step HB1.out (Nat.le_refl _) hb2)
  rcases hB with ⟨hng, -⟩ | ⟨-, bp, eb, lb, wb, Nd, Z, Y, rfl, hbk, hz1, hz2⟩
  · exact absurd ex_good hng
  have hpt := points_any w2 bp eb lb wb 2 2 Nd Z Y exs hbk (by decide) (by omega) (by omega)
  rw [hz1, hz2] at hpt
  unfold exs at hpt
  have HBK := boxed hbk
  clear hb2 hbk hz1 hz2 HB1 hW1 hxb
  go_wp2_with fail
  refine hpt.mono ?_
  rintro e w3 ⟨out, v, rfl, hown, hP, hb3⟩
  have hout := ex_pts hP
  subst hout
  have HB3 : Box (Below w.heap.size w w3) := boxed (below_step HB2.out (Nat.le_refl _) hb3)
  have hsz := booksize_any w3 bp eb lb wb 2 2 Nd Z Y (HBK.out.below hb3)
  obtain ⟨g, cap, rfl, -, hc, -⟩ := own_cell hown 0 (by simp)
  have hc0 : w3.cell? ⟨g, 0, none⟩ = some (.int .i64 5) := by rw [hc]; rfl
  clear hpt hP hb3 hc hown HBK HB2
  have hl1 : ([5] : List Nat).length = 1 := rfl
  rw [hl1]
  clear hl1
  go_wp2_with fail
  refine hsz.mono ?_
  rintro e w4 ⟨⟨k, hk, rfl⟩, hb4⟩
  have HB4 : Box (Below w.heap.size w w4) := boxed (below_step HB3.out (Nat.le_refl _) hb4)
  have t : decide ((0 : Int) < (k : Int) + 1) = true := decide_eq_true (by omega)
  clear hsz hc0 hb4
  go_wp2_with fail
  go_ret
  exact ⟨rfl, HB4.out⟩
end Go.Proofs.YtflhefgmgdgffaaDoor
