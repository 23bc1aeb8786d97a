/-
  The document's Move.
-/
import Derived.Test.YtdaccgnfhagoeaaMkl
namespace Go.Proofs.Ytdaccgnfhagoeaa
open Go.RowKit
set_option linter.unusedSimpArgs false
set_option linter.unusedVariables false

theorem two_set {w : World} (b b' i i' : Nat) (u u' : Value) (cs : Array Value) (t : TypeId) (h : w.heap[b]? = some (.cells cs t (0, 0))) (hn : b' ≠ b) : ((w.setCell ⟨b', i', none⟩ u').setCell ⟨b, i, none⟩ u).heap[b]? = some (.cells (cs.setIfInBounds i u) t (0, 0)) := by
  have h2 : (w.setCell ⟨b', i', none⟩ u').heap[b]? = some (.cells cs t (0, 0)) := by rw [heap_setCell_other _ _ _ _ (by show b ≠ b'; omega)]; exact h
  exact arr_set u h2
section
variable {B : Nat} {w : World} {x : Value} {s : St} {N : Int}
set_option maxRecDepth 100000 in
set_option maxHeartbeats 4000000 in
theorem refmove_any (h : RS B w x s) (hB : B ≤ w.heap.size) (hk : s.ok N) (d a : Int) : Calls Try.prog 31 #[x, .int .i64 d, .int .i64 a] w fun e w' => (∃ x', e = .returned (.tuple #[x', .int .i64 (s.move d a).2]) ∧ RS B w' x' (s.move d a).1) ∧ Below w.heap.size w w' := by
  have HRS := boxed h
  obtain ⟨ao, cap, rfl, ho⟩ := rbox h
  have l2 := laid2 w (.cells #[.int .i64 s.sz, .int .i64 s.nx, .slice ao s.L.length cap] 31) (.cells #[.int .i64 0, .int .i64 0, .slice none 0 0] 31)
  generalize hW : (w.alloc (.cells #[.int .i64 s.sz, .int .i64 s.nx, .slice ao s.L.length cap] 31)).alloc (.cells #[.int .i64 0, .int .i64 0, .slice none 0 0] 31) = W at l2
  obtain ⟨l0, l1, lb, lz⟩ := l2
  obtain ⟨⟨k0, k1, k2⟩, -⟩ := cells3 l0
  have hlen := hk.len
  have hf := reffind_any (HRS.out.below lb) (by omega) d
  have HW := boxed hW
  have HL0 := boxed l0
  have HL1 := boxed l1
  have HB := boxed lb
  have HO := boxed ho
  clear hW h l0 l1 ho lb
  go_enter Try.func31, Try.ntmps31
  go_upto_region 1 with (fail)
  rw [HW.out]
  go_wp2_with fail
  refine hf.mono ?_
  rintro e w1 ⟨rfl, hb⟩
  have h1z := hb.size
  have l0 : w1.heap[w.heap.size]? = some (.cells #[.int .i64 s.sz, .int .i64 s.nx, .slice ao s.L.length cap] 31 (0, 0)) := by rw [hb.block _ (by omega)]; exact HL0.out
  have l1 : w1.heap[w.heap.size + 1]? = some (.cells #[.int .i64 0, .int .i64 0, .slice none 0 0] 31 (0, 0)) := by rw [hb.block _ (by omega)]; exact HL1.out
  have lb := below_step HB.out (Nat.le_refl _) hb
  have ho := owns_below HO.out lb
  rw [lz] at h1z
  clear hb hf k0 k1 k2
  obtain ⟨⟨k0, k1, k2⟩, y0, y1, y2⟩ := cells3 l0
  obtain ⟨⟨x0, x1, x2⟩, z0, z1, z2⟩ := cells3 l1
  have HOld : Box (Box (RS B (put3 w1 (w.heap.size + 1) (.int .i64 s.sz) (.int .i64 s.nx) (.slice ao s.L.length cap)) (.agg #[.int .i64 s.sz, .int .i64 s.nx, .slice ao s.L.length cap]) s) ∧ Below w.heap.size w (put3 w1 (w.heap.size + 1) (.int .i64 s.sz) (.int .i64 s.nx) (.slice ao s.L.length cap)) ∧ (put3 w1 (w.heap.size + 1) (.int .i64 s.sz) (.int .i64 s.nx) (.slice ao s.L.length cap)).heap[w.heap.size + 1]? = some (.cells #[.int .i64 s.sz, .int .i64 s.nx, .slice ao s.L.length cap] 31 (0, 0))) := boxed (by
    have hb := put3_below lb (Nat.le_succ w.heap.size) (Nat.le_refl _) (.int .i64 s.sz) (.int .i64 s.nx) (.slice ao s.L.length cap)
    exact ⟨boxed ⟨_, rfl, owns_below HO.out hb⟩, hb, put3_heap l1 _ _ _⟩)
  by_cases c : ix s.L d < s.L.length
  rotate_left
  · have HE : Box (s.move d a = (s, 160)) := boxed (by unfold St.move; rw [if_neg c])
    rw [fnd_no c]
    clear c l0 l1 lb ho HO
    go_wp2_with fail
    refine bodyPost_ret (v := .tuple #[.agg #[.int .i64 s.sz, .int .i64 s.nx, .slice ao s.L.length cap], .int .i64 160]) ?_ ?_ ?_
    · exact results_row_tmp Try.results31 _ _ (w.heap.size + 1) 31 _ (0, 0) _ rfl HOld.out.2.2 Try.underlying31 rfl (by kernel_rfl)
    · rfl
    · exact ⟨⟨_, by rw [HE.out], by rw [HE.out]; exact HOld.out.1.out⟩, HOld.out.2.1⟩
  rw [fnd_hit c]
  by_cases c1 : a < 0 ∨ s.sz < a
  · have HE : Box (s.move d a = (s, 30)) := boxed (by unfold St.move; rw [if_pos c, if_pos c1])
    have key : Box (∀ Bx By : Bool, decide (a < 0) = Bx → decide (s.sz < a) = By → (Bx || By) = true) := boxed (fun Bx By e1 e2 => by
      subst e1; subst e2
      rw [Bool.or_eq_true, decide_eq_true_iff, decide_eq_true_iff]; exact c1)
    clear c c1 l0 l1 lb ho HO
    generalize ix s.L d = q at *
    cases t1 : decide (a < 0) with
    | true =>
      go_wp2_with fail
      refine bodyPost_ret (v := .tuple #[.agg #[.int .i64 s.sz, .int .i64 s.nx, .slice ao s.L.length cap], .int .i64 30]) ?_ ?_ ?_
      · exact results_row_tmp Try.results31 _ _ (w.heap.size + 1) 31 _ (0, 0) _ rfl HOld.out.2.2 Try.underlying31 rfl (by kernel_rfl)
      · rfl
      · exact ⟨⟨_, by rw [HE.out], by rw [HE.out]; exact HOld.out.1.out⟩, HOld.out.2.1⟩
    | false =>
      have t2 : decide (s.sz < a) = true := by
        have := key.out _ _ t1 rfl
        simpa using this
      go_wp2_with fail
      refine bodyPost_ret (v := .tuple #[.agg #[.int .i64 s.sz, .int .i64 s.nx, .slice ao s.L.length cap], .int .i64 30]) ?_ ?_ ?_
      · exact results_row_tmp Try.results31 _ _ (w.heap.size + 1) 31 _ (0, 0) _ rfl HOld.out.2.2 Try.underlying31 rfl (by kernel_rfl)
      · rfl
      · exact ⟨⟨_, by rw [HE.out], by rw [HE.out]; exact HOld.out.1.out⟩, HOld.out.2.1⟩
  have t1 : decide (a < 0) = false := decide_eq_false (by omega)
  have t2 : decide (s.sz < a) = false := decide_eq_false (by omega)
  have HE : Box (s.move d a = ({ s with L := s.L.set (ix s.L d) { s.L[ix s.L d]'c with pl := a } }, 0)) := boxed (by unfold St.move; rw [if_pos c, if_neg c1, getD_at c])
  have h6b : Below w1.heap.size w1 (w1.alloc (.cells #[] 39)) := (Below.refl _ _).alloc (Nat.le_refl _) _
  have HM := boxed (World.ownsRow_made (base := w1.heap.size) (e := 39) (size := 3) w1 #[] 0 (Nat.le_refl _) (Nat.zero_le _) rfl)
  have HS := boxed (own_srcM (owns_below ho h6b))
  have hl2 : ((ix s.L d : Nat) : Int) < (s.L.length : Int) := by omega
  have hset := mcs_set_pl s.L _ c a
  obtain ⟨m0, hm0⟩ : ∃ m, s.L[ix s.L d]'c = m := ⟨_, rfl⟩
  rw [hm0] at hset HE
  obtain ⟨L2, hL2⟩ : ∃ L2, s.L.set (ix s.L d) { m0 with pl := a } = L2 := ⟨_, rfl⟩
  have hl2' : L2.length = s.L.length := by rw [← hL2]; simp
  rw [hL2] at hset HE
  clear hm0 hL2
  generalize ix s.L d = q at *
  have HP2 : Box (∀ v2 w2, w2.ownsRow w1.heap.size 39 3 v2 (0 + s.L.length) (mcs ([] ++ s.L)) → (w1.alloc (.cells #[] 39)).grownBy w2 (some w1.heap.size) →
      ∃ g cp, v2 = .slice (some ⟨g, 0, none⟩) s.L.length cp ∧ g ≠ w.heap.size ∧ (w2.cell? ⟨w.heap.size, 2, none⟩ = some (.slice ao s.L.length cap) ∧ w2.frozen? ⟨w.heap.size, 2, none⟩ = false) ∧ ((w2.setCell ⟨w.heap.size, 2, none⟩ v2).cell? ⟨w.heap.size, 2, none⟩ = some v2) ∧
      (∃ u, (w2.setCell ⟨w.heap.size, 2, none⟩ v2).cell? ⟨g, q * 3 + 1, none⟩ = some (.int .i64 u)) ∧ (w2.setCell ⟨w.heap.size, 2, none⟩ v2).frozen? ⟨g, q * 3 + 1, none⟩ = false ∧
      ((((w2.setCell ⟨w.heap.size, 2, none⟩ v2).setCell ⟨g, q * 3 + 1, none⟩ (.int .i64 a)).cell? ⟨w.heap.size, 0, none⟩ = some (.int .i64 s.sz)) ∧ (((w2.setCell ⟨w.heap.size, 2, none⟩ v2).setCell ⟨g, q * 3 + 1, none⟩ (.int .i64 a)).cell? ⟨w.heap.size, 1, none⟩ = some (.int .i64 s.nx)) ∧ (((w2.setCell ⟨w.heap.size, 2, none⟩ v2).setCell ⟨g, q * 3 + 1, none⟩ (.int .i64 a)).cell? ⟨w.heap.size, 2, none⟩ = some v2)) ∧
      ((((w2.setCell ⟨w.heap.size, 2, none⟩ v2).setCell ⟨g, q * 3 + 1, none⟩ (.int .i64 a)).cell? ⟨w.heap.size + 1, 0, none⟩ = some (.int .i64 0)) ∧ (((w2.setCell ⟨w.heap.size, 2, none⟩ v2).setCell ⟨g, q * 3 + 1, none⟩ (.int .i64 a)).cell? ⟨w.heap.size + 1, 1, none⟩ = some (.int .i64 0)) ∧ (((w2.setCell ⟨w.heap.size, 2, none⟩ v2).setCell ⟨g, q * 3 + 1, none⟩ (.int .i64 a)).cell? ⟨w.heap.size + 1, 2, none⟩ = some (.slice none 0 0))) ∧
      (((w2.setCell ⟨w.heap.size, 2, none⟩ v2).setCell ⟨g, q * 3 + 1, none⟩ (.int .i64 a)).frozen? ⟨w.heap.size + 1, 0, none⟩ = false ∧ ((w2.setCell ⟨w.heap.size, 2, none⟩ v2).setCell ⟨g, q * 3 + 1, none⟩ (.int .i64 a)).frozen? ⟨w.heap.size + 1, 1, none⟩ = false ∧ ((w2.setCell ⟨w.heap.size, 2, none⟩ v2).setCell ⟨g, q * 3 + 1, none⟩ (.int .i64 a)).frozen? ⟨w.heap.size + 1, 2, none⟩ = false) ∧
      Box ((put3 ((w2.setCell ⟨w.heap.size, 2, none⟩ v2).setCell ⟨g, q * 3 + 1, none⟩ (.int .i64 a)) (w.heap.size + 1) (.int .i64 s.sz) (.int .i64 s.nx) v2).heap[w.heap.size + 1]? = some (.cells #[.int .i64 s.sz, .int .i64 s.nx, v2] 31 (0, 0)) ∧ RS B (put3 ((w2.setCell ⟨w.heap.size, 2, none⟩ v2).setCell ⟨g, q * 3 + 1, none⟩ (.int .i64 a)) (w.heap.size + 1) (.int .i64 s.sz) (.int .i64 s.nx) v2) (.agg #[.int .i64 s.sz, .int .i64 s.nx, v2]) { s with L := L2 } ∧ Below w.heap.size w (put3 ((w2.setCell ⟨w.heap.size, 2, none⟩ v2).setCell ⟨g, q * 3 + 1, none⟩ (.int .i64 a)) (w.heap.size + 1) (.int .i64 s.sz) (.int .i64 s.nx) v2))) := boxed (by
    intro v2 w2 ho2 hg2
    have ho3 : w2.ownsRow w1.heap.size 39 3 v2 s.L.length (mcs s.L) := by simpa using ho2
    have hb2 : Below w1.heap.size w1 w2 := h6b.trans (grown_below hg2 (Nat.le_refl _) (by simp))
    obtain ⟨g, cp, rfl, hcp, d0, d1, d2, hfz⟩ := own_mk ho3 q c
    have hg0 : w1.heap.size ≤ g := owns_ge ho3 g rfl
    have f0 := (hb2.block w.heap.size (by omega)).trans l0
    have f1 := (hb2.block (w.heap.size + 1) (by omega)).trans l1
    have ho4 := own_low (i := 2) ho3 (show w.heap.size < w1.heap.size by omega) (.slice (some ⟨g, 0, none⟩) s.L.length cp)
    obtain ⟨g', cp', e', hcp', d0', d1', d2', hfz'⟩ := own_mk ho4 q c
    injection e' with e1 _ e3
    injection e1 with e1
    injection e1 with e1
    subst e1; subst e3
    have s0 : (w2.setCell ⟨w.heap.size, 2, none⟩ (.slice (some ⟨g, 0, none⟩) s.L.length cp)).heap[w.heap.size]? = some (.cells #[.int .i64 s.sz, .int .i64 s.nx, .slice (some ⟨g, 0, none⟩) s.L.length cp] 31 (0, 0)) := by have := arr_set (k := 2) (.slice (some ⟨g, 0, none⟩) s.L.length cp) f0; simpa using this
    have s1 : (w2.setCell ⟨w.heap.size, 2, none⟩ (.slice (some ⟨g, 0, none⟩) s.L.length cp)).heap[w.heap.size + 1]? = some (.cells #[.int .i64 0, .int .i64 0, .slice none 0 0] 31 (0, 0)) := by rw [heap_setCell_other _ _ _ _ (by show w.heap.size + 1 ≠ w.heap.size; omega)]; exact f1
    have ho5 := own_set ho4 (j := q * 3 + 1) (.int .i64 a) (by rw [mcs_len]; omega)
    rw [hset] at ho5
    generalize hV : (w2.setCell ⟨w.heap.size, 2, none⟩ (.slice (some ⟨g, 0, none⟩) s.L.length cp)) = V at *
    have t0 : (V.setCell ⟨g, q * 3 + 1, none⟩ (.int .i64 a)).heap[w.heap.size]? = some (.cells #[.int .i64 s.sz, .int .i64 s.nx, .slice (some ⟨g, 0, none⟩) s.L.length cp] 31 (0, 0)) := by rw [heap_setCell_other _ _ _ _ (by show w.heap.size ≠ g; omega)]; exact s0
    have t1 : (V.setCell ⟨g, q * 3 + 1, none⟩ (.int .i64 a)).heap[w.heap.size + 1]? = some (.cells #[.int .i64 0, .int .i64 0, .slice none 0 0] 31 (0, 0)) := by rw [heap_setCell_other _ _ _ _ (by show w.heap.size + 1 ≠ g; omega)]; exact s1
    obtain ⟨⟨-, -, c2⟩, -, -, c2f⟩ := cells3 f0
    have hbV : Below w.heap.size w (V.setCell ⟨g, q * 3 + 1, none⟩ (.int .i64 a)) := by
      rw [← hV]
      exact low_set (low_set (lb.trans (hb2.mono (by omega))) (Nat.le_refl _) (Nat.le_refl _) _) (by omega) (Nat.le_refl _) _
    refine ⟨g, cp, rfl, by omega, ⟨c2, c2f⟩, (cells3 s0).1.2.2, ⟨_, d1'⟩, hfz' _, (cells3 t0).1, (cells3 t1).1, (cells3 t1).2, boxed ⟨put3_heap t1 _ _ _, ?_, put3_below hbV (by omega) (Nat.le_refl _) _ _ _⟩⟩
    refine rs_done (s := { s with L := L2 }) t1 (B' := w1.heap.size) ?_ (by omega) (by omega)
    show World.ownsRow _ _ _ 3 _ L2.length (mcs L2)
    rw [hl2']; exact ho5)
  have hlt1 : w.heap.size < w1.heap.size := by omega
  have hlt2 : w.heap.size + 1 < w1.heap.size := by omega
  clear c c1 l0 l1 lb ho HO HOld h6b hset x0 x1 x2 z0 z1 z2
  go_wp2_with (at_builtin; refine wpList_appM rfl _ _ rfl w1.heap.size _ 0 [] rfl HM.out _ s.L.length s.L rfl HS.out (by omega) (by simp) ?_; intro v2 w2 ho2 hg2; obtain ⟨g, cp, rfl, hgz, ⟨p2, p3⟩, p4, ⟨u, p5⟩, p6, ⟨r0, r1, r2⟩, ⟨s0, s1, s2⟩, ⟨f0, f1, f2⟩, HFin⟩ := HP2.out v2 w2 ho2 hg2; clear ho2 hg2 k0 k1 k2)
  refine bodyPost_ret (v := .tuple #[.agg #[.int .i64 s.sz, .int .i64 s.nx, .slice (some ⟨g, 0, none⟩) s.L.length cp], .int .i64 0]) ?_ ?_ ?_
  · exact results_row_tmp Try.results31 _ _ (w.heap.size + 1) 31 _ (0, 0) _ rfl HFin.out.1 Try.underlying31 rfl (by kernel_rfl)
  · rfl
  · exact ⟨⟨_, by rw [HE.out], by rw [HE.out]; exact HFin.out.2.1⟩, HFin.out.2.2⟩
end
end Go.Proofs.Ytdaccgnfhagoeaa
