/-
  The document's Drop.
-/
import Derived.Test.YtdaccgnfhagoeaaMkl
namespace Go.Proofs.Ytdaccgnfhagoeaa
open Go.RowKit
set_option linter.unusedSimpArgs false
set_option linter.unusedVariables false

theorem drp_at {L : List Mk} {q : Nat} (hq : q < L.length) : (L.take (q + 1)).eraseIdx q = (L.take q).eraseIdx q := by
  rw [List.eraseIdx_eq_take_drop_succ, List.eraseIdx_of_length_le (l := L.take q) (by simp; omega)]
  simp [List.take_take]
theorem drp_off {L : List Mk} {q i : Nat} (hi : i < L.length) (hne : i ≠ q) : (L.take (i + 1)).eraseIdx q = (L.take i).eraseIdx q ++ [L[i]'hi] := by
  rw [List.take_succ_eq_append_getElem hi]
  by_cases c : q < i
  · rw [List.eraseIdx_append_of_lt_length (by simp; omega)]
  · rw [List.eraseIdx_of_length_le (by simp; omega), List.eraseIdx_of_length_le (by simp; omega)]
theorem one_src (w : World) (i p : Int) (t : Bool) : Src (w.alloc (.cells #[.int .i64 i, .int .i64 p, .bool t] 39)) (.slice (some ⟨w.heap.size, 0, none⟩) 1 1) 1 [⟨i, p, t⟩] := ⟨rfl, .inr ⟨_, _, _, rfl, fun j u hj => by rw [Nat.zero_add, cell_first]; simpa [mcs, Mk.cs] using hj⟩⟩
theorem below_app {Z : Nat} {w w' : World} {o : Obj} {v : Value} {e n size : Nat} {xs : List Value} (ho : w.ownsRow Z e size v n xs) (hZ : Z ≤ w.heap.size) (hg : (w.alloc o).grownBy w' v.ownBlock) : Below Z w w' :=
  ((Below.refl _ w).alloc hZ _).trans (grown_below' hg (fun k hk => owns_ge ho k hk) (by simp; omega))
section
variable {B : Nat} {w : World} {x : Value} {s : St} {N : Int}
set_option maxRecDepth 100000 in
set_option maxHeartbeats 4000000 in
theorem refdrop_any (h : RS B w x s) (hB : B ≤ w.heap.size) (hk : s.ok N) (d : Int) : Calls Try.prog 33 #[x, .int .i64 d] w fun e w' => (∃ x', e = .returned (.tuple #[x', .int .i64 (s.drop d).2]) ∧ RS B w' x' (s.drop d).1) ∧ Below w.heap.size w w' := by
  have HRS := boxed h
  obtain ⟨ao, cap, rfl, ho⟩ := rbox h
  have l2 := laid2 w (.cells #[.int .i64 s.sz, .int .i64 s.nx, .slice ao s.L.length cap] 31) (.cells #[.int .i64 0, .int .i64 0, .slice none 0 0] 31)
  generalize hW : (w.alloc (.cells #[.int .i64 s.sz, .int .i64 s.nx, .slice ao s.L.length cap] 31)).alloc (.cells #[.int .i64 0, .int .i64 0, .slice none 0 0] 31) = W at l2
  obtain ⟨l0, l1, lb, lz⟩ := l2
  obtain ⟨⟨k0, k1, k2⟩, -⟩ := cells3 l0
  have hlen := hk.len
  have hf := reffind_any (HRS.out.below lb) (by omega) d
  have HW := boxed hW
  have HL0 := boxed l0
  have HL1 := boxed l1
  have HB := boxed lb
  have HO := boxed ho
  clear hW h l0 l1 ho lb
  go_enter Try.func33, Try.ntmps33
  go_upto_region 1 with (fail)
  rw [HW.out]
  go_wp2_with fail
  refine hf.mono ?_
  rintro e w1 ⟨rfl, hb⟩
  have h1z := hb.size
  have l0 : w1.heap[w.heap.size]? = some (.cells #[.int .i64 s.sz, .int .i64 s.nx, .slice ao s.L.length cap] 31 (0, 0)) := by rw [hb.block _ (by omega)]; exact HL0.out
  have l1 : w1.heap[w.heap.size + 1]? = some (.cells #[.int .i64 0, .int .i64 0, .slice none 0 0] 31 (0, 0)) := by rw [hb.block _ (by omega)]; exact HL1.out
  have lb := below_step HB.out (Nat.le_refl _) hb
  have ho := owns_below HO.out lb
  rw [lz] at h1z
  clear hb hf k0 k1 k2
  obtain ⟨⟨k0, k1, k2⟩, y0, y1, y2⟩ := cells3 l0
  obtain ⟨⟨x0, x1, x2⟩, z0, z1, z2⟩ := cells3 l1
  by_cases c : ix s.L d < s.L.length
  rotate_left
  · have HE : Box (s.drop d = (s, 160)) := boxed (by unfold St.drop; rw [if_neg c])
    have HOld : Box (Box (RS B (put3 w1 (w.heap.size + 1) (.int .i64 s.sz) (.int .i64 s.nx) (.slice ao s.L.length cap)) (.agg #[.int .i64 s.sz, .int .i64 s.nx, .slice ao s.L.length cap]) s) ∧ Below w.heap.size w (put3 w1 (w.heap.size + 1) (.int .i64 s.sz) (.int .i64 s.nx) (.slice ao s.L.length cap)) ∧ (put3 w1 (w.heap.size + 1) (.int .i64 s.sz) (.int .i64 s.nx) (.slice ao s.L.length cap)).heap[w.heap.size + 1]? = some (.cells #[.int .i64 s.sz, .int .i64 s.nx, .slice ao s.L.length cap] 31 (0, 0))) := boxed (by
      have hb := put3_below lb (Nat.le_succ w.heap.size) (Nat.le_refl _) (.int .i64 s.sz) (.int .i64 s.nx) (.slice ao s.L.length cap)
      exact ⟨boxed ⟨_, rfl, owns_below HO.out hb⟩, hb, put3_heap l1 _ _ _⟩)
    rw [fnd_no c]
    clear c l0 l1 lb ho HO
    go_wp2_with fail
    refine bodyPost_ret (v := .tuple #[.agg #[.int .i64 s.sz, .int .i64 s.nx, .slice ao s.L.length cap], .int .i64 160]) ?_ ?_ ?_
    · exact results_row_tmp Try.results33 _ _ (w.heap.size + 1) 31 _ (0, 0) _ rfl HOld.out.2.2 Try.underlying31 rfl (by kernel_rfl)
    · rfl
    · exact ⟨⟨_, by rw [HE.out], by rw [HE.out]; exact HOld.out.1.out⟩, HOld.out.2.1⟩
  rw [fnd_hit c]
  have HE : Box (s.drop d = ({ s with L := s.L.eraseIdx (ix s.L d) }, 0)) := boxed (by unfold St.drop; rw [if_pos c])
  generalize ix s.L d = q at *
  have HC := boxed c
  have HO1 := boxed ho
  have HM0 := boxed l0
  have HM1 := boxed l1
  have HB1 := boxed lb
  have hlt1 : w.heap.size < w1.heap.size := by omega
  have hlt2 : w.heap.size + 1 < w1.heap.size := by omega
  have hq0 : ¬ (q : Int) < 0 := by omega
  clear c l0 l1 lb ho HO HL0 HL1 HB x0 x1 x2 y0 y1 y2 z0 z1 z2
  have HEnd : Box (∀ wr v, Below w1.heap.size w1 wr → wr.ownsRow w1.heap.size 39 3 v (s.L.eraseIdx q).length (mcs (s.L.eraseIdx q)) →
      (wr.cell? ⟨w.heap.size, 2, none⟩ = some (.slice ao s.L.length cap) ∧ wr.frozen? ⟨w.heap.size, 2, none⟩ = false) ∧ ((wr.setCell ⟨w.heap.size, 2, none⟩ v).cell? ⟨w.heap.size, 0, none⟩ = some (.int .i64 s.sz) ∧ (wr.setCell ⟨w.heap.size, 2, none⟩ v).cell? ⟨w.heap.size, 1, none⟩ = some (.int .i64 s.nx) ∧ (wr.setCell ⟨w.heap.size, 2, none⟩ v).cell? ⟨w.heap.size, 2, none⟩ = some v) ∧
      ((wr.setCell ⟨w.heap.size, 2, none⟩ v).cell? ⟨w.heap.size + 1, 0, none⟩ = some (.int .i64 0) ∧ (wr.setCell ⟨w.heap.size, 2, none⟩ v).cell? ⟨w.heap.size + 1, 1, none⟩ = some (.int .i64 0) ∧ (wr.setCell ⟨w.heap.size, 2, none⟩ v).cell? ⟨w.heap.size + 1, 2, none⟩ = some (.slice none 0 0)) ∧
      (wr.frozen? ⟨w.heap.size + 1, 0, none⟩ = false ∧ wr.frozen? ⟨w.heap.size + 1, 1, none⟩ = false ∧ wr.frozen? ⟨w.heap.size + 1, 2, none⟩ = false) ∧
      Box ((put3 (wr.setCell ⟨w.heap.size, 2, none⟩ v) (w.heap.size + 1) (.int .i64 s.sz) (.int .i64 s.nx) v).heap[w.heap.size + 1]? = some (.cells #[.int .i64 s.sz, .int .i64 s.nx, v] 31 (0, 0)) ∧ RS B (put3 (wr.setCell ⟨w.heap.size, 2, none⟩ v) (w.heap.size + 1) (.int .i64 s.sz) (.int .i64 s.nx) v) (.agg #[.int .i64 s.sz, .int .i64 s.nx, v]) { s with L := s.L.eraseIdx q } ∧ Below w.heap.size w (put3 (wr.setCell ⟨w.heap.size, 2, none⟩ v) (w.heap.size + 1) (.int .i64 s.sz) (.int .i64 s.nx) v))) := boxed (by
    intro wr v hb ho
    have f0 := (hb.block w.heap.size (by omega)).trans HM0.out
    have f1 := (hb.block (w.heap.size + 1) (by omega)).trans HM1.out
    have s0 : (wr.setCell ⟨w.heap.size, 2, none⟩ v).heap[w.heap.size]? = some (.cells #[.int .i64 s.sz, .int .i64 s.nx, v] 31 (0, 0)) := by have := arr_set (k := 2) v f0; simpa using this
    have s1 : (wr.setCell ⟨w.heap.size, 2, none⟩ v).heap[w.heap.size + 1]? = some (.cells #[.int .i64 0, .int .i64 0, .slice none 0 0] 31 (0, 0)) := by rw [heap_setCell_other _ _ _ _ (by show w.heap.size + 1 ≠ w.heap.size; omega)]; exact f1
    obtain ⟨⟨-, -, c2⟩, -, -, c2f⟩ := cells3 f0
    have hbV : Below w.heap.size w (wr.setCell ⟨w.heap.size, 2, none⟩ v) := low_set (HB1.out.trans (hb.mono (by omega))) (Nat.le_refl _) (Nat.le_refl _) _
    refine ⟨⟨c2, c2f⟩, (cells3 s0).1, (cells3 s1).1, (cells3 f1).2, boxed ⟨put3_heap s1 _ _ _, ?_, put3_below hbV (by omega) (Nat.le_refl _) _ _ _⟩⟩
    exact rs_done (s := { s with L := s.L.eraseIdx q }) s1 (B' := w1.heap.size) (own_low ho (by omega) _) (by omega) (by omega))
  go_wp2_with fail
  go_loopw [7, 8] (fun a b wr => ∃ (i : Nat) (v : Value), i ≤ s.L.length ∧ v = a ∧ b = .int .i64 (i : Nat) ∧ Box (wr.ownsRow w1.heap.size 39 3 v ((s.L.take i).eraseIdx q).length (mcs ((s.L.take i).eraseIdx q))) ∧ Box (Below w1.heap.size w1 wr)) (fun _ b _ => (s.L.length - intOf b).toNat)
  case atStart => exact ⟨0, _, Nat.zero_le _, rfl, rfl, boxed ⟨by simp [mcs], .inl ⟨rfl, by simp⟩⟩, boxed (Below.refl _ _)⟩
  case round =>
    obtain ⟨i, v, h1, rfl, rfl, HV, HBr⟩ := hrel
    have k2r := hold HBr.out k2
    have hzr := HBr.out.size
    by_cases hlt : i < s.L.length
    · obtain ⟨g, cap', e', hcap, d0, d1, d2, -⟩ := own_mk (owns_below HO1.out HBr.out) i hlt
      injection e' with e1 _ e3
      subst e1; subst e3
      have hlt2 : (i : Int) < (s.L.length : Int) := by omega
      by_cases he : i = q
      · have HV2 : Box (wr.ownsRow w1.heap.size 39 3 v ((s.L.take (i + 1)).eraseIdx q).length (mcs ((s.L.take (i + 1)).eraseIdx q))) := boxed (by
          have := HV.out
          subst he
          rw [drp_at hlt]
          exact this)
        have t1 : ((i : Int) != (q : Int)) = false := by simp [he]
        clear he d0 d1 d2 HV
        go_wp2_with fail
        go_roundw
        case rel => exact ⟨i + 1, v, by omega, rfl, by go_num, HV2, HBr⟩
        case measure => simp [intOf]; omega
      · have t1 : ((i : Int) != (q : Int)) = true := by simp; omega
        have HD := boxed (drp_off hlt he)
        have hdl : ((s.L.take i).eraseIdx q).length ≤ 1024 := by
          have h9 := (List.eraseIdx_sublist (s.L.take i) q).length_le
          simp at h9 ⊢; omega
        obtain ⟨D, hD⟩ : ∃ D, (s.L.take i).eraseIdx q = D := ⟨_, rfl⟩
        rw [hD] at HD HV hdl
        have hm : s.L[i]'hlt = ⟨(s.L[i]'hlt).id, (s.L[i]'hlt).pl, (s.L[i]'hlt).st⟩ := rfl
        rw [hm] at HD
        clear hm he hD
        generalize (s.L[i]'hlt).id = I at *
        generalize (s.L[i]'hlt).pl = P at *
        generalize (s.L[i]'hlt).st = T at *
        go_wp2_with (at_builtin; refine wpList_appM rfl _ _ rfl w1.heap.size v D.length D rfl (owns_below HV.out ((Below.refl _ _).alloc (Nat.le_refl _) _)) _ 1 [⟨I, P, T⟩] rfl (one_src _ _ _ _) (by omega) (by simp; omega) ?_; intro v2 w2 ho2 hg2; have HB2 := boxed (HBr.out.trans (below_app HV.out hzr hg2)); have HO2 := boxed ho2; clear ho2 hg2)
        go_roundw
        case rel => exact ⟨i + 1, v2, by omega, rfl, by go_num, boxed (by rw [HD.out]; simpa using HO2.out), HB2⟩
        case measure => simp [intOf]; omega
    · have e : i = s.L.length := by omega
      have hfin := HV.out
      rw [e, List.take_length] at hfin
      obtain ⟨a2, c2, rfl⟩ := own_shape hfin
      obtain ⟨⟨p2, p3⟩, ⟨r0, r1, r2⟩, ⟨q0, q1, q2⟩, ⟨f0, f1, f2⟩, HFin⟩ := HEnd.out _ _ HBr.out hfin
      subst e
      clear hfin HV HEnd HBr HO1 k2 k0 k1
      go_wp2_with fail
      refine bodyPost_ret (v := .tuple #[.agg #[.int .i64 s.sz, .int .i64 s.nx, .slice a2 (s.L.eraseIdx q).length c2], .int .i64 0]) ?_ ?_ ?_
      · exact results_row_tmp Try.results33 _ _ (w.heap.size + 1) 31 _ (0, 0) _ rfl HFin.out.1 Try.underlying31 rfl (by kernel_rfl)
      · rfl
      · exact ⟨⟨_, by rw [HE.out], by rw [HE.out]; exact HFin.out.2.1⟩, HFin.out.2.2⟩
end
end Go.Proofs.Ytdaccgnfhagoeaa
