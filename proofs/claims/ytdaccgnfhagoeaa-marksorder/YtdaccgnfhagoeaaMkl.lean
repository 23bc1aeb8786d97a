/-
  The document's Put, Move and Drop.
-/
import Derived.Test.YtdaccgnfhagoeaaMkk
namespace Go.Proofs.Ytdaccgnfhagoeaa
open Go.RowKit
set_option linter.unusedSimpArgs false
set_option linter.unusedVariables false

theorem grown_below' {B : Nat} {w w' : World} {r : Option Nat} (h : w.grownBy w' r) (hr : ∀ g, r = some g → B ≤ g) (hB : B ≤ w.heap.size) : Below B w w' := ⟨h.os, h.tape, h.output, h.size, fun k hk => h.block k (by omega) (fun e => by have := hr k e.symm; omega)⟩
theorem own_low {w : World} {B e size n b i : Nat} {v : Value} {xs : List Value} (h : w.ownsRow B e size v n xs) (hb : b < B) (u : Value) : (w.setCell ⟨b, i, none⟩ u).ownsRow B e size v n xs :=
  h.kept (grown_set w b i u) (Or.inr (fun e => by have := owns_ge h b e; omega))
theorem low_set {B : Nat} {w w1 : World} (hb : Below B w w1) {b i : Nat} (hB : B ≤ b) (hw : B ≤ w.heap.size) (u : Value) : Below B w (w1.setCell ⟨b, i, none⟩ u) := hb.trans (grown_below (grown_set w1 b i u) hB (Nat.le_trans hw hb.size))
/-- A set stored in a result's block. -/
theorem rs_done {B B' : Nat} {w1 : World} {rb : Nat} {s : St} {v : Value} {x0 x1 x2 : Value} (hr : w1.heap[rb]? = some (.cells #[x0, x1, x2] 31 (0, 0))) (ho : w1.ownsRow B' 39 3 v s.L.length (mcs s.L)) (hrb : rb < B') (hB : B ≤ B') :
    RS B (put3 w1 rb (.int .i64 s.sz) (.int .i64 s.nx) v) (.agg #[.int .i64 s.sz, .int .i64 s.nx, v]) s := by
  refine ⟨v, rfl, own_mono ?_ hB⟩
  unfold put3
  exact own_low (own_low (own_low ho hrb _) hrb _) hrb _
section
variable {B : Nat} {w : World} {x : Value} {s : St} {N : Int}
set_option maxRecDepth 100000 in
set_option maxHeartbeats 4000000 in
theorem refput_any (h : RS B w x s) (hB : B ≤ w.heap.size) (hk : s.ok N) (hN : N ≤ 1000000) (a : Int) (b : Bool) : Calls Try.prog 28 #[x, .int .i64 a, .bool b] w fun e w' => (∃ x', e = .returned (.tuple #[x', .int .i64 (s.put a b).2.1, .int .i64 (s.put a b).2.2]) ∧ RS B w' x' (s.put a b).1) ∧ Below w.heap.size w w' := by
  obtain ⟨ao, cap, rfl, ho⟩ := rbox h
  have l2 := laid2 w (.cells #[.int .i64 s.sz, .int .i64 s.nx, .slice ao s.L.length cap] 31) (.cells #[.int .i64 0, .int .i64 0, .slice none 0 0] 31)
  generalize hW : (w.alloc (.cells #[.int .i64 s.sz, .int .i64 s.nx, .slice ao s.L.length cap] 31)).alloc (.cells #[.int .i64 0, .int .i64 0, .slice none 0 0] 31) = W at l2
  obtain ⟨l0, l1, lb, lz⟩ := l2
  obtain ⟨⟨k0, k1, k2⟩, y0, y1, y2⟩ := cells3 l0
  obtain ⟨⟨x0, x1, x2⟩, z0, z1, z2⟩ := cells3 l1
  have ho1 := owns_below ho lb
  have HB := boxed lb
  have HW := boxed hW
  have hlen := hk.len
  have n0 := hk.nx0
  have n1 := hk.nx1
  clear hW h
  have HOld : Box (Box (RS B (put3 W (w.heap.size + 1) (.int .i64 s.sz) (.int .i64 s.nx) (.slice ao s.L.length cap)) (.agg #[.int .i64 s.sz, .int .i64 s.nx, .slice ao s.L.length cap]) s) ∧ Below w.heap.size w (put3 W (w.heap.size + 1) (.int .i64 s.sz) (.int .i64 s.nx) (.slice ao s.L.length cap)) ∧ (put3 W (w.heap.size + 1) (.int .i64 s.sz) (.int .i64 s.nx) (.slice ao s.L.length cap)).heap[w.heap.size + 1]? = some (.cells #[.int .i64 s.sz, .int .i64 s.nx, .slice ao s.L.length cap] 31 (0, 0))) := boxed (by
    have hb := put3_below lb (Nat.le_succ w.heap.size) (Nat.le_refl _) (.int .i64 s.sz) (.int .i64 s.nx) (.slice ao s.L.length cap)
    exact ⟨boxed ⟨_, rfl, owns_below ho hb⟩, hb, put3_heap l1 _ _ _⟩)
  by_cases c : a < 0 ∨ s.sz < a
  · have HE : Box (s.put a b = (s, 0, 30)) := boxed (by unfold St.put; rw [if_pos c])
    have key : Box (∀ Bx By : Bool, decide (a < 0) = Bx → decide (s.sz < a) = By → (Bx || By) = true) := boxed (fun Bx By e1 e2 => by
      subst e1; subst e2
      rw [Bool.or_eq_true, decide_eq_true_iff, decide_eq_true_iff]; exact c)
    clear c l0 l1 lb ho1 ho
    cases t1 : decide (a < 0) with
    | true =>
      go_enter Try.func28, Try.ntmps28
      go_upto_region 1 with (fail)
      rw [HW.out]
      go_wp2_with fail
      refine bodyPost_ret (v := .tuple #[.agg #[.int .i64 s.sz, .int .i64 s.nx, .slice ao s.L.length cap], .int .i64 0, .int .i64 30]) ?_ ?_ ?_
      · exact results_row_tmp_tmp Try.results28 _ _ (w.heap.size + 1) 31 _ (0, 0) _ rfl HOld.out.2.2 Try.underlying31 rfl (by kernel_rfl)
      · rfl
      · exact ⟨⟨_, by rw [HE.out], by rw [HE.out]; exact HOld.out.1.out⟩, HOld.out.2.1⟩
    | false =>
      have t2 : decide (s.sz < a) = true := by
        have := key.out _ _ t1 rfl
        simpa using this
      go_enter Try.func28, Try.ntmps28
      go_upto_region 1 with (fail)
      rw [HW.out]
      go_wp2_with fail
      refine bodyPost_ret (v := .tuple #[.agg #[.int .i64 s.sz, .int .i64 s.nx, .slice ao s.L.length cap], .int .i64 0, .int .i64 30]) ?_ ?_ ?_
      · exact results_row_tmp_tmp Try.results28 _ _ (w.heap.size + 1) 31 _ (0, 0) _ rfl HOld.out.2.2 Try.underlying31 rfl (by kernel_rfl)
      · rfl
      · exact ⟨⟨_, by rw [HE.out], by rw [HE.out]; exact HOld.out.1.out⟩, HOld.out.2.1⟩
  have t1 : decide (a < 0) = false := decide_eq_false (by omega)
  have t2 : decide (s.sz < a) = false := decide_eq_false (by omega)
  by_cases d : 1024 ≤ s.L.length
  · have HE : Box (s.put a b = (s, 0, 2)) := boxed (by unfold St.put; rw [if_neg c, if_pos d])
    have d1 : (1024 : Int) ≤ (s.L.length : Int) := by omega
    clear c d l0 l1 lb ho1 ho
    go_enter Try.func28, Try.ntmps28
    go_upto_region 1 with (fail)
    rw [HW.out]
    go_wp2_with fail
    refine bodyPost_ret (v := .tuple #[.agg #[.int .i64 s.sz, .int .i64 s.nx, .slice ao s.L.length cap], .int .i64 0, .int .i64 2]) ?_ ?_ ?_
    · exact results_row_tmp_tmp Try.results28 _ _ (w.heap.size + 1) 31 _ (0, 0) _ rfl HOld.out.2.2 Try.underlying31 rfl (by kernel_rfl)
    · rfl
    · exact ⟨⟨_, by rw [HE.out], by rw [HE.out]; exact HOld.out.1.out⟩, HOld.out.2.1⟩
  have d1 : ¬ (1024 : Int) ≤ (s.L.length : Int) := by omega
  have hx3 : s.nx + 1 ≤ 9223372036854775807 := by omega
  have hx4 : -9223372036854775808 ≤ s.nx + 1 := by omega
  have HE : Box (s.put a b = ({ s with nx := s.nx + 1, L := s.L ++ [⟨s.nx + 1, a, b⟩] }, s.nx + 1, 0)) := boxed (by unfold St.put; rw [if_neg c, if_neg d])
  obtain ⟨y, hy⟩ : ∃ y, s.nx + 1 = y := ⟨_, rfl⟩
  rw [hy] at HE
  obtain ⟨W5, hW5⟩ : ∃ W5, W.setCell ⟨w.heap.size, 1, none⟩ (.int .i64 y) = W5 := ⟨_, rfl⟩
  have h5z : W5.heap.size = w.heap.size + 2 := by rw [← hW5]; simpa using lz
  have h5b : Below w.heap.size w W5 := by rw [← hW5]; exact low_set lb (Nat.le_refl _) (Nat.le_refl _) _
  have h50 : W5.heap[w.heap.size]? = some (.cells #[.int .i64 s.sz, .int .i64 y, .slice ao s.L.length cap] 31 (0, 0)) := by rw [← hW5]; have := arr_set (k := 1) (.int .i64 y) l0; simpa using this
  have h51 : W5.heap[w.heap.size + 1]? = some (.cells #[.int .i64 0, .int .i64 0, .slice none 0 0] 31 (0, 0)) := by
    rw [← hW5, heap_setCell_other _ _ _ _ (by show w.heap.size + 1 ≠ w.heap.size; omega)]; exact l1
  have h5o : W5.ownsRow B 39 3 (.slice ao s.L.length cap) s.L.length (mcs s.L) := owns_below ho h5b
  have h6b : Below W5.heap.size W5 (W5.alloc (.cells #[] 39)) := (Below.refl _ _).alloc (Nat.le_refl _) _
  have HM := boxed (World.ownsRow_made (base := W5.heap.size) (e := 39) (size := 3) W5 #[] 0 (Nat.le_refl _) (Nat.zero_le _) rfl)
  rw [h5z] at HM
  have HS := boxed (own_srcM (owns_below h5o h6b))
  have HP1 : Box (∀ v1 w1, w1.ownsRow (w.heap.size + 2) 39 3 v1 (0 + s.L.length) (mcs ([] ++ s.L)) → (W5.alloc (.cells #[] 39)).grownBy w1 (some (w.heap.size + 2)) →
      (w1.cell? ⟨w.heap.size, 1, none⟩ = some (.int .i64 y) ∧ w.heap.size + 3 ≤ w1.heap.size) ∧ Box (w1.heap[w.heap.size]? = some (.cells #[.int .i64 s.sz, .int .i64 y, .slice ao s.L.length cap] 31 (0, 0)) ∧ w1.heap[w.heap.size + 1]? = some (.cells #[.int .i64 0, .int .i64 0, .slice none 0 0] 31 (0, 0))) ∧ Box (Below w.heap.size w w1) ∧ Box (w1.ownsRow (w.heap.size + 2) 39 3 v1 s.L.length (mcs s.L))) := boxed (by
    intro v1 w1 ho1 hg1
    have hb : Below (w.heap.size + 2) W5 w1 := (h6b.mono (by omega)).trans (grown_below hg1 (Nat.le_refl _) (by simp [h5z]))
    have e0 := (hb.block w.heap.size (by omega)).trans h50
    have e1 := (hb.block (w.heap.size + 1) (by omega)).trans h51
    refine ⟨⟨(cells3 e0).1.2.1, ?_⟩, boxed ⟨e0, e1⟩, boxed (h5b.trans (hb.mono (by omega))), boxed (by simpa using ho1)⟩
    have := hg1.size
    simp [h5z] at this
    omega)
  have HP2 : Box (∀ v1 w1 v2 w2, w1.heap[w.heap.size]? = some (.cells #[.int .i64 s.sz, .int .i64 y, .slice ao s.L.length cap] 31 (0, 0)) ∧ w1.heap[w.heap.size + 1]? = some (.cells #[.int .i64 0, .int .i64 0, .slice none 0 0] 31 (0, 0)) → w.heap.size + 3 ≤ w1.heap.size → Below w.heap.size w w1 → w1.ownsRow (w.heap.size + 2) 39 3 v1 s.L.length (mcs s.L) →
      w2.ownsRow (w.heap.size + 2) 39 3 v2 (s.L.length + 1) (mcs (s.L ++ [⟨y, a, b⟩])) → (w1.alloc (.cells #[.int .i64 y, .int .i64 a, .bool b] 39)).grownBy w2 v1.ownBlock →
      (w2.cell? ⟨w.heap.size, 2, none⟩ = some (.slice ao s.L.length cap) ∧ w2.frozen? ⟨w.heap.size, 2, none⟩ = false) ∧ ((w2.setCell ⟨w.heap.size, 2, none⟩ v2).cell? ⟨w.heap.size, 0, none⟩ = some (.int .i64 s.sz) ∧ (w2.setCell ⟨w.heap.size, 2, none⟩ v2).cell? ⟨w.heap.size, 1, none⟩ = some (.int .i64 y) ∧ (w2.setCell ⟨w.heap.size, 2, none⟩ v2).cell? ⟨w.heap.size, 2, none⟩ = some v2) ∧
      ((w2.setCell ⟨w.heap.size, 2, none⟩ v2).cell? ⟨w.heap.size + 1, 0, none⟩ = some (.int .i64 0) ∧ (w2.setCell ⟨w.heap.size, 2, none⟩ v2).cell? ⟨w.heap.size + 1, 1, none⟩ = some (.int .i64 0) ∧ (w2.setCell ⟨w.heap.size, 2, none⟩ v2).cell? ⟨w.heap.size + 1, 2, none⟩ = some (.slice none 0 0)) ∧
      (w2.frozen? ⟨w.heap.size + 1, 0, none⟩ = false ∧ w2.frozen? ⟨w.heap.size + 1, 1, none⟩ = false ∧ w2.frozen? ⟨w.heap.size + 1, 2, none⟩ = false) ∧
      Box (∀ q, (put3 ((w2.setCell ⟨w.heap.size, 2, none⟩ v2).drewN q) (w.heap.size + 1) (.int .i64 s.sz) (.int .i64 y) v2).heap[w.heap.size + 1]? = some (.cells #[.int .i64 s.sz, .int .i64 y, v2] 31 (0, 0)) ∧ RS B (put3 ((w2.setCell ⟨w.heap.size, 2, none⟩ v2).drewN q) (w.heap.size + 1) (.int .i64 s.sz) (.int .i64 y) v2) (.agg #[.int .i64 s.sz, .int .i64 y, v2]) { s with nx := y, L := s.L ++ [⟨y, a, b⟩] } ∧ Below w.heap.size w (put3 ((w2.setCell ⟨w.heap.size, 2, none⟩ v2).drewN q) (w.heap.size + 1) (.int .i64 s.sz) (.int .i64 y) v2))) := boxed (by
    intro v1 w1 v2 w2 ⟨e0, e1⟩ hz hb1 ho1 ho2 hg2
    have hb : Below (w.heap.size + 2) w1 w2 := ((Below.refl _ w1).alloc (by omega) _).trans (grown_below' hg2 (fun k hk => owns_ge ho1 k hk) (by simp; omega))
    have f0 := (hb.block w.heap.size (by omega)).trans e0
    have f1 := (hb.block (w.heap.size + 1) (by omega)).trans e1
    have g0 : (w2.setCell ⟨w.heap.size, 2, none⟩ v2).heap[w.heap.size]? = some (.cells #[.int .i64 s.sz, .int .i64 y, v2] 31 (0, 0)) := by have := arr_set (k := 2) v2 f0; simpa using this
    have g1 : (w2.setCell ⟨w.heap.size, 2, none⟩ v2).heap[w.heap.size + 1]? = some (.cells #[.int .i64 0, .int .i64 0, .slice none 0 0] 31 (0, 0)) := by rw [heap_setCell_other _ _ _ _ (by show w.heap.size + 1 ≠ w.heap.size; omega)]; exact f1
    obtain ⟨⟨c0, c1, c2⟩, d0, d1, d2⟩ := cells3 f0
    obtain ⟨⟨c0', c1', c2'⟩, d0', d1', d2'⟩ := cells3 f1
    have hbw : Below w.heap.size w w2 := hb1.trans (hb.mono (by omega))
    have hbs : Below w.heap.size w (w2.setCell ⟨w.heap.size, 2, none⟩ v2) := low_set hbw (Nat.le_refl _) (Nat.le_refl _) _
    refine ⟨⟨c2, d2⟩, (cells3 g0).1, (cells3 g1).1, ⟨d0', d1', d2'⟩, boxed (fun q => ?_)⟩
    have g1q : ((w2.setCell ⟨w.heap.size, 2, none⟩ v2).drewN q).heap[w.heap.size + 1]? = some (.cells #[.int .i64 0, .int .i64 0, .slice none 0 0] 31 (0, 0)) := g1
    refine ⟨put3_heap g1q _ _ _, ?_, put3_below (hbs.trans (bel_drewN _ _ _)) (by omega) (Nat.le_refl _) _ _ _⟩
    refine rs_done (s := { s with nx := y, L := s.L ++ [⟨y, a, b⟩] }) g1q (B' := w.heap.size + 2) ?_ (by omega) (by omega)
    have ho3 := owns_below (own_low (i := 2) ho2 (show w.heap.size < w.heap.size + 2 by omega) v2) (bel_drewN _ _ q)
    simpa using ho3)
  have HN1 := boxed (fun (w1 : World) => (show Src (w1.alloc (.cells #[.int .i64 y, .int .i64 a, .bool b] 39)) (.slice (some ⟨w1.heap.size, 0, none⟩) 1 1) 1 [⟨y, a, b⟩] from ⟨rfl, .inr ⟨_, _, _, rfl, fun j u hj => by rw [Nat.zero_add, cell_first]; simpa [mcs, Mk.cs] using hj⟩⟩))
  have HW5 := boxed hW5
  obtain ⟨⟨q0, q1, q2⟩, -⟩ := cells3 h50
  have hhb : w.heap.size + 2 ≤ (W5.alloc (.cells #[] 39)).heap.size := by simp [h5z]
  clear c d l0 l1 lb ho1 ho hk h5o h5b h50 h51 h6b HOld hW5
  go_enter Try.func28, Try.ntmps28
  go_upto_region 1 with (fail)
  rw [HW.out]
  go_wp2_with (at_builtin; first | (rw [HW5.out]; refine wpList_appM rfl _ _ rfl (w.heap.size + 2) _ 0 [] rfl HM.out _ s.L.length s.L rfl HS.out (by omega) hhb ?_; intro v1 w1 ho1 hg1; obtain ⟨⟨p1, pz⟩, HE0, HB1, HO1⟩ := HP1.out v1 w1 ho1 hg1; clear ho1 hg1 q0 q1 q2 k0 k1 k2) | (refine wpList_appM rfl _ _ rfl (w.heap.size + 2) _ s.L.length s.L rfl (owns_below HO1.out ((Below.refl _ _).alloc (Nat.le_refl _) _)) _ 1 [⟨y, a, b⟩] rfl (HN1.out w1) (by omega) (by simp; omega) ?_; intro v2 w2 ho2 hg2; obtain ⟨a2, cc2, rfl⟩ := own_shape ho2; obtain ⟨⟨p2, p3⟩, ⟨p4, p5, p6⟩, ⟨r0, r1, r2⟩, ⟨s0, s1, s2⟩, HFin⟩ := HP2.out _ w1 _ w2 HE0.out pz HB1.out HO1.out ho2 hg2; clear ho2 hg2))
  go_region
  go_wp2_with fail
  refine bodyPost_ret (v := .tuple #[.agg #[.int .i64 s.sz, .int .i64 y, .slice a2 (s.L.length + 1) cc2], .int .i64 y, .int .i64 0]) ?_ ?_ ?_
  · exact results_row_tmp_tmp Try.results28 _ _ (w.heap.size + 1) 31 _ (0, 0) _ rfl (HFin.out _).1 Try.underlying31 rfl (by kernel_rfl)
  · rfl
  · exact ⟨⟨_, by rw [HE.out], by rw [HE.out]; exact (HFin.out _).2.1⟩, (HFin.out _).2.2⟩
end
end Go.Proofs.Ytdaccgnfhagoeaa
