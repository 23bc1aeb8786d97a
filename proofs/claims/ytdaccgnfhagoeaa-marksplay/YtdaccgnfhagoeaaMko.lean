/-
  The document's Insert and Delete.
-/
import Derived.Test.YtdaccgnfhagoeaaMkn
namespace Go.Proofs.Ytdaccgnfhagoeaa
open Go.RowKit
set_option linter.unusedSimpArgs false
set_option linter.unusedVariables false

theorem two_src (w : World) (A : Obj) (i p : Int) (t : Bool) : Src ((w.alloc A).alloc (.cells #[.int .i64 i, .int .i64 p, .bool t] 39)) (.slice (some ⟨w.heap.size + 1, 0, none⟩) 1 1) 1 [⟨i, p, t⟩] := by
  have h := one_src (w.alloc A) i p t
  have hz : (w.alloc A).heap.size = w.heap.size + 1 := by simp
  rw [hz] at h
  exact h
theorem below_app2 {Z : Nat} {w w' : World} {A o : Obj} {v : Value} {e n size : Nat} {xs : List Value} (ho : w.ownsRow Z e size v n xs) (hZ : Z ≤ w.heap.size) (hg : ((w.alloc A).alloc o).grownBy w' v.ownBlock) : Below Z w w' :=
  (((Below.refl _ w).alloc hZ _).alloc (by simp; omega) _).trans (grown_below' hg (fun k hk => owns_ge ho k hk) (by simp; omega))
theorem map_take {f : Mk → Mk} {L : List Mk} {i : Nat} (hi : i < L.length) : (L.take (i + 1)).map f = (L.take i).map f ++ [f (L[i]'hi)] := by
  rw [List.take_succ_eq_append_getElem hi, List.map_append]; rfl
section
variable {B : Nat} {w : World} {x : Value} {s : St} {N : Int}
set_option maxRecDepth 100000 in
set_option maxHeartbeats 4000000 in
theorem refinsert_any (h : RS B w x s) (hB : B ≤ w.heap.size) (hk : s.ok N) (a n : Int) : Calls Try.prog 29 #[x, .int .i64 a, .int .i64 n] w fun e w' => (∃ x', e = .returned (.tuple #[x', .int .i64 (s.ins a n).2]) ∧ RS B w' x' (s.ins a n).1) ∧ Below w.heap.size w w' := by
  have HRS := boxed h
  obtain ⟨ao, cap, rfl, ho⟩ := rbox h
  have l2 := laid2 w (.cells #[.int .i64 s.sz, .int .i64 s.nx, .slice ao s.L.length cap] 31) (.cells #[.int .i64 0, .int .i64 0, .slice none 0 0] 31)
  generalize hW : (w.alloc (.cells #[.int .i64 s.sz, .int .i64 s.nx, .slice ao s.L.length cap] 31)).alloc (.cells #[.int .i64 0, .int .i64 0, .slice none 0 0] 31) = w1 at l2
  obtain ⟨l0, l1, lb, lz⟩ := l2
  have hlen := hk.len
  have s0 := hk.sz0
  have s1 := hk.sz1
  have HK := boxed hk
  have HW := boxed hW
  have ho := owns_below ho lb
  obtain ⟨⟨k0, k1, k2⟩, y0, y1, y2⟩ := cells3 l0
  obtain ⟨⟨x0, x1, x2⟩, z0, z1, z2⟩ := cells3 l1
  have HOld : Box (Box (RS B (put3 w1 (w.heap.size + 1) (.int .i64 s.sz) (.int .i64 s.nx) (.slice ao s.L.length cap)) (.agg #[.int .i64 s.sz, .int .i64 s.nx, .slice ao s.L.length cap]) s) ∧ Below w.heap.size w (put3 w1 (w.heap.size + 1) (.int .i64 s.sz) (.int .i64 s.nx) (.slice ao s.L.length cap)) ∧ (put3 w1 (w.heap.size + 1) (.int .i64 s.sz) (.int .i64 s.nx) (.slice ao s.L.length cap)).heap[w.heap.size + 1]? = some (.cells #[.int .i64 s.sz, .int .i64 s.nx, .slice ao s.L.length cap] 31 (0, 0))) := boxed (by
    have hb := put3_below lb (Nat.le_succ w.heap.size) (Nat.le_refl _) (.int .i64 s.sz) (.int .i64 s.nx) (.slice ao s.L.length cap)
    exact ⟨boxed (HRS.out.below hb), hb, put3_heap l1 _ _ _⟩)
  clear hW h
  by_cases c : a < 0 ∨ s.sz < a
  · have HE : Box (s.ins a n = (s, 30)) := boxed (by unfold St.ins; rw [if_pos c])
    have key : Box (∀ Bx By : Bool, decide (a < 0) = Bx → decide (s.sz < a) = By → (Bx || By) = true) := boxed (fun Bx By e1 e2 => by
      subst e1; subst e2
      rw [Bool.or_eq_true, decide_eq_true_iff, decide_eq_true_iff]; exact c)
    clear c l0 l1 lb ho
    cases t1 : decide (a < 0) with
    | true =>
      go_enter Try.func29, Try.ntmps29
      go_upto_region 1 with (fail)
      rw [HW.out]
      go_wp2_with fail
      refine bodyPost_ret (v := .tuple #[.agg #[.int .i64 s.sz, .int .i64 s.nx, .slice ao s.L.length cap], .int .i64 30]) ?_ ?_ ?_
      · exact results_row_tmp Try.results29 _ _ (w.heap.size + 1) 31 _ (0, 0) _ rfl HOld.out.2.2 Try.underlying31 rfl (by kernel_rfl)
      · rfl
      · exact ⟨⟨_, by rw [HE.out], by rw [HE.out]; exact HOld.out.1.out⟩, HOld.out.2.1⟩
    | false =>
      have t2 : decide (s.sz < a) = true := by
        have := key.out _ _ t1 rfl
        simpa using this
      go_enter Try.func29, Try.ntmps29
      go_upto_region 1 with (fail)
      rw [HW.out]
      go_wp2_with fail
      refine bodyPost_ret (v := .tuple #[.agg #[.int .i64 s.sz, .int .i64 s.nx, .slice ao s.L.length cap], .int .i64 30]) ?_ ?_ ?_
      · exact results_row_tmp Try.results29 _ _ (w.heap.size + 1) 31 _ (0, 0) _ rfl HOld.out.2.2 Try.underlying31 rfl (by kernel_rfl)
      · rfl
      · exact ⟨⟨_, by rw [HE.out], by rw [HE.out]; exact HOld.out.1.out⟩, HOld.out.2.1⟩
  have t1 : decide (a < 0) = false := decide_eq_false (by omega)
  have t2 : decide (s.sz < a) = false := decide_eq_false (by omega)
  by_cases d : n < 0
  · have HE : Box (s.ins a n = (s, 1)) := boxed (by unfold St.ins; rw [if_neg c, if_pos d])
    have t3 : decide (n < 0) = true := decide_eq_true d
    clear c d l0 l1 lb ho
    go_enter Try.func29, Try.ntmps29
    go_upto_region 1 with (fail)
    rw [HW.out]
    go_wp2_with fail
    refine bodyPost_ret (v := .tuple #[.agg #[.int .i64 s.sz, .int .i64 s.nx, .slice ao s.L.length cap], .int .i64 1]) ?_ ?_ ?_
    · exact results_row_tmp Try.results29 _ _ (w.heap.size + 1) 31 _ (0, 0) _ rfl HOld.out.2.2 Try.underlying31 rfl (by kernel_rfl)
    · rfl
    · exact ⟨⟨_, by rw [HE.out], by rw [HE.out]; exact HOld.out.1.out⟩, HOld.out.2.1⟩
  have t3 : decide (n < 0) = false := decide_eq_false d
  by_cases f : 65536 - s.sz < n
  · have HE : Box (s.ins a n = (s, 31)) := boxed (by unfold St.ins; rw [if_neg c, if_neg d, if_pos f])
    have t4 : decide (65536 - s.sz < n) = true := decide_eq_true f
    clear c d f l0 l1 lb ho
    go_enter Try.func29, Try.ntmps29
    go_upto_region 1 with (fail)
    rw [HW.out]
    go_wp2_with fail
    refine bodyPost_ret (v := .tuple #[.agg #[.int .i64 s.sz, .int .i64 s.nx, .slice ao s.L.length cap], .int .i64 31]) ?_ ?_ ?_
    · exact results_row_tmp Try.results29 _ _ (w.heap.size + 1) 31 _ (0, 0) _ rfl HOld.out.2.2 Try.underlying31 rfl (by kernel_rfl)
    · rfl
    · exact ⟨⟨_, by rw [HE.out], by rw [HE.out]; exact HOld.out.1.out⟩, HOld.out.2.1⟩
  have t4 : decide (65536 - s.sz < n) = false := decide_eq_false f
  have HE : Box (s.ins a n = (⟨s.sz + n, s.nx, s.L.map (insP a n)⟩, 0)) := boxed (by unfold St.ins; rw [if_neg c, if_neg d, if_neg f])
  have hn0 : 0 ≤ n := by omega
  have hn1 : n ≤ 65536 := by omega
  have hs2 : s.sz + n ≤ 65536 := by omega
  have HEnd : Box (∀ wr v, Below w1.heap.size w1 wr → wr.ownsRow w1.heap.size 39 3 v s.L.length (mcs (s.L.map (insP a n))) →
      (wr.cell? ⟨w.heap.size, 0, none⟩ = some (.int .i64 s.sz) ∧ wr.cell? ⟨w.heap.size, 1, none⟩ = some (.int .i64 s.nx) ∧ wr.cell? ⟨w.heap.size, 2, none⟩ = some (.slice ao s.L.length cap)) ∧
      (wr.cell? ⟨w.heap.size + 1, 0, none⟩ = some (.int .i64 0) ∧ wr.cell? ⟨w.heap.size + 1, 1, none⟩ = some (.int .i64 0) ∧ wr.cell? ⟨w.heap.size + 1, 2, none⟩ = some (.slice none 0 0)) ∧
      (wr.frozen? ⟨w.heap.size + 1, 0, none⟩ = false ∧ wr.frozen? ⟨w.heap.size + 1, 1, none⟩ = false ∧ wr.frozen? ⟨w.heap.size + 1, 2, none⟩ = false) ∧
      Box ((put3 wr (w.heap.size + 1) (.int .i64 (s.sz + n)) (.int .i64 s.nx) v).heap[w.heap.size + 1]? = some (.cells #[.int .i64 (s.sz + n), .int .i64 s.nx, v] 31 (0, 0)) ∧ RS B (put3 wr (w.heap.size + 1) (.int .i64 (s.sz + n)) (.int .i64 s.nx) v) (.agg #[.int .i64 (s.sz + n), .int .i64 s.nx, v]) ⟨s.sz + n, s.nx, (s.L.map (insP a n))⟩ ∧ Below w.heap.size w (put3 wr (w.heap.size + 1) (.int .i64 (s.sz + n)) (.int .i64 s.nx) v))) := boxed (by
    intro wr v hb ho
    have f0 := (hb.block w.heap.size (by omega)).trans l0
    have f1 := (hb.block (w.heap.size + 1) (by omega)).trans l1
    refine ⟨(cells3 f0).1, (cells3 f1).1, (cells3 f1).2, boxed ⟨put3_heap f1 _ _ _, ?_, put3_below (lb.trans (hb.mono (by omega))) (by omega) (Nat.le_refl _) _ _ _⟩⟩
    refine rs_done (s := ⟨s.sz + n, s.nx, (s.L.map (insP a n))⟩) f1 (B' := w1.heap.size) ?_ (by omega) (by omega)
    show World.ownsRow _ _ _ 3 _ ((s.L.map (insP a n))).length (mcs (s.L.map (insP a n)))
    rw [List.length_map]; exact ho)
  have HO1 := boxed ho
  have hlt1 : w.heap.size < w1.heap.size := by omega
  have hlt2 : w.heap.size + 1 < w1.heap.size := by omega
  have hpn : ∀ p : Int, 0 ≤ p → p ≤ s.sz → p + n ≤ 131072 := fun p _ _ => by omega
  clear c d f l0 l1 lb ho HOld
  go_enter Try.func29, Try.ntmps29
  go_upto_region 1 with (fail)
  rw [HW.out]
  go_wp2_with fail
  clear x0 x1 x2 y0 y1 y2 z0 z1 z2
  go_loopw [8, 9] (fun va vb wr => ∃ (i : Nat) (v : Value), i ≤ s.L.length ∧ v = va ∧ vb = .int .i64 (i : Nat) ∧ Box (wr.ownsRow w1.heap.size 39 3 v i (mcs ((s.L.take i).map (insP a n)))) ∧ Box (Below w1.heap.size w1 wr)) (fun _ b _ => (s.L.length - intOf b).toNat)
  case atStart => exact ⟨0, _, Nat.zero_le _, rfl, rfl, boxed ⟨by simp [mcs], .inl ⟨rfl, by simp⟩⟩, boxed (Below.refl _ _)⟩
  case round =>
    obtain ⟨i, v, h1, rfl, rfl, HV, HBr⟩ := hrel
    have k2r := hold HBr.out k2
    have hzr := HBr.out.size
    by_cases hlt : i < s.L.length
    · obtain ⟨g, cap', e', hcap, d0, d1, d2, -⟩ := own_mk (owns_below HO1.out HBr.out) i hlt
      injection e' with e1 _ e3
      subst e1; subst e3
      have hlt2 : (i : Int) < (s.L.length : Int) := by omega
      have HD := boxed (map_take (f := insP a n) hlt)
      have hdl : ((s.L.take i).map (insP a n)).length = i := by simp; omega
      have hmem := HK.out.mem _ (List.getElem_mem hlt)
      obtain ⟨D, hD⟩ : ∃ D, (s.L.take i).map (insP a n) = D := ⟨_, rfl⟩
      rw [hD] at HD HV hdl
      obtain ⟨-, -, m0, m1⟩ := hmem
      have hm : s.L[i]'hlt = ⟨(s.L[i]'hlt).id, (s.L[i]'hlt).pl, (s.L[i]'hlt).st⟩ := rfl
      rw [hm] at HD
      clear hm hD
      generalize (s.L[i]'hlt).id = I at *
      generalize (s.L[i]'hlt).pl = P at *
      generalize (s.L[i]'hlt).st = T at *
      have hzr1 : w.heap.size < wr.heap.size := by omega
      by_cases c : P > a
      · have u1 : decide (a < P) = true := decide_eq_true c
        have HFm : Box (insP a n ⟨I, P, T⟩ = ⟨I, P + n, T⟩) := boxed (by unfold insP; rw [if_pos (.inl c)])
        have hpp : P + n ≤ 131072 := hpn P m0 m1
        clear c
        go_wp2_with (at_builtin; refine wpList_appM rfl _ _ rfl w1.heap.size v i D rfl (owns_below HV.out (((Below.refl _ _).alloc (Nat.le_refl _) _).alloc (by simp) _)) _ 1 [⟨I, P + n, T⟩] rfl (two_src _ _ _ _ _) (by omega) (by simp; omega) ?_; intro v2 w2 ho2 hg2; have HB2 := boxed (HBr.out.trans (below_app2 HV.out hzr hg2)); have HO2 := boxed ho2; clear ho2 hg2)
        go_roundw
        case rel => exact ⟨i + 1, v2, by omega, rfl, by go_num, boxed (by rw [HD.out, HFm.out]; simpa using HO2.out), HB2⟩
        case measure => simp [intOf]; omega
      · have u1 : decide (a < P) = false := decide_eq_false c
        by_cases d : P = a
        · have u2 : (P == a) = true := by simpa using d
          cases T
          · have HFm : Box (insP a n ⟨I, P, false⟩ = ⟨I, P + n, false⟩) := boxed (by unfold insP; rw [if_pos (.inr ⟨d, rfl⟩)])
            have hpp : P + n ≤ 131072 := hpn P m0 m1
            clear c d
            go_wp2_with (at_builtin; refine wpList_appM rfl _ _ rfl w1.heap.size v i D rfl (owns_below HV.out (((Below.refl _ _).alloc (Nat.le_refl _) _).alloc (by simp) _)) _ 1 [⟨I, P + n, false⟩] rfl (two_src _ _ _ _ _) (by omega) (by simp; omega) ?_; intro v2 w2 ho2 hg2; have HB2 := boxed (HBr.out.trans (below_app2 HV.out hzr hg2)); have HO2 := boxed ho2; clear ho2 hg2)
            go_roundw
            case rel => exact ⟨i + 1, v2, by omega, rfl, by go_num, boxed (by rw [HD.out, HFm.out]; simpa using HO2.out), HB2⟩
            case measure => simp [intOf]; omega
          · have HFm : Box (insP a n ⟨I, P, true⟩ = ⟨I, P, true⟩) := boxed (by unfold insP; rw [if_neg (by rintro (h | ⟨_, h⟩); exact c h; cases h)])
            clear c d
            go_wp2_with (at_builtin; refine wpList_appM rfl _ _ rfl w1.heap.size v i D rfl (owns_below HV.out (((Below.refl _ _).alloc (Nat.le_refl _) _).alloc (by simp) _)) _ 1 [⟨I, P, true⟩] rfl (two_src _ _ _ _ _) (by omega) (by simp; omega) ?_; intro v2 w2 ho2 hg2; have HB2 := boxed (HBr.out.trans (below_app2 HV.out hzr hg2)); have HO2 := boxed ho2; clear ho2 hg2)
            go_roundw
            case rel => exact ⟨i + 1, v2, by omega, rfl, by go_num, boxed (by rw [HD.out, HFm.out]; simpa using HO2.out), HB2⟩
            case measure => simp [intOf]; omega
        · have u2 : (P == a) = false := by simpa using d
          have HFm : Box (insP a n ⟨I, P, T⟩ = ⟨I, P, T⟩) := boxed (by unfold insP; rw [if_neg (by rintro (h | ⟨h, _⟩); exact c h; exact d h)])
          clear c d
          go_wp2_with (at_builtin; refine wpList_appM rfl _ _ rfl w1.heap.size v i D rfl (owns_below HV.out (((Below.refl _ _).alloc (Nat.le_refl _) _).alloc (by simp) _)) _ 1 [⟨I, P, T⟩] rfl (two_src _ _ _ _ _) (by omega) (by simp; omega) ?_; intro v2 w2 ho2 hg2; have HB2 := boxed (HBr.out.trans (below_app2 HV.out hzr hg2)); have HO2 := boxed ho2; clear ho2 hg2)
          go_roundw
          case rel => exact ⟨i + 1, v2, by omega, rfl, by go_num, boxed (by rw [HD.out, HFm.out]; simpa using HO2.out), HB2⟩
          case measure => simp [intOf]; omega
    · have e : i = s.L.length := by omega
      have hfin := HV.out
      rw [e, List.take_length] at hfin
      obtain ⟨a2, c2, rfl⟩ := own_shape hfin
      obtain ⟨⟨p0, p1, p2⟩, ⟨q0, q1, q2⟩, ⟨f0, f1, f2⟩, HFin⟩ := HEnd.out _ _ HBr.out hfin
      subst e
      clear hfin HV HEnd HBr HO1 k2 k0 k1
      go_wp2_with fail
      refine bodyPost_ret (v := .tuple #[.agg #[.int .i64 (s.sz + n), .int .i64 s.nx, .slice a2 s.L.length c2], .int .i64 0]) ?_ ?_ ?_
      · exact results_row_tmp Try.results29 _ _ (w.heap.size + 1) 31 _ (0, 0) _ rfl HFin.out.1 Try.underlying31 rfl (by kernel_rfl)
      · rfl
      · exact ⟨⟨_, by rw [HE.out], by rw [HE.out]; exact HFin.out.2.1⟩, HFin.out.2.2⟩
set_option maxRecDepth 100000 in
set_option maxHeartbeats 4000000 in
theorem refdelete_any (h : RS B w x s) (hB : B ≤ w.heap.size) (hk : s.ok N) (f t : Int) : Calls Try.prog 30 #[x, .int .i64 f, .int .i64 t] w fun e w' => (∃ x', e = .returned (.tuple #[x', .int .i64 (s.del f t).2]) ∧ RS B w' x' (s.del f t).1) ∧ Below w.heap.size w w' := by
  have HRS := boxed h
  obtain ⟨ao, cap, rfl, ho⟩ := rbox h
  have l2 := laid2 w (.cells #[.int .i64 s.sz, .int .i64 s.nx, .slice ao s.L.length cap] 31) (.cells #[.int .i64 0, .int .i64 0, .slice none 0 0] 31)
  generalize hW : (w.alloc (.cells #[.int .i64 s.sz, .int .i64 s.nx, .slice ao s.L.length cap] 31)).alloc (.cells #[.int .i64 0, .int .i64 0, .slice none 0 0] 31) = w1 at l2
  obtain ⟨l0, l1, lb, lz⟩ := l2
  have hlen := hk.len
  have s0 := hk.sz0
  have s1 := hk.sz1
  have HK := boxed hk
  have HW := boxed hW
  have ho := owns_below ho lb
  obtain ⟨⟨k0, k1, k2⟩, y0, y1, y2⟩ := cells3 l0
  obtain ⟨⟨x0, x1, x2⟩, z0, z1, z2⟩ := cells3 l1
  have HOld : Box (Box (RS B (put3 w1 (w.heap.size + 1) (.int .i64 s.sz) (.int .i64 s.nx) (.slice ao s.L.length cap)) (.agg #[.int .i64 s.sz, .int .i64 s.nx, .slice ao s.L.length cap]) s) ∧ Below w.heap.size w (put3 w1 (w.heap.size + 1) (.int .i64 s.sz) (.int .i64 s.nx) (.slice ao s.L.length cap)) ∧ (put3 w1 (w.heap.size + 1) (.int .i64 s.sz) (.int .i64 s.nx) (.slice ao s.L.length cap)).heap[w.heap.size + 1]? = some (.cells #[.int .i64 s.sz, .int .i64 s.nx, .slice ao s.L.length cap] 31 (0, 0))) := boxed (by
    have hb := put3_below lb (Nat.le_succ w.heap.size) (Nat.le_refl _) (.int .i64 s.sz) (.int .i64 s.nx) (.slice ao s.L.length cap)
    exact ⟨boxed (HRS.out.below hb), hb, put3_heap l1 _ _ _⟩)
  clear hW h
  by_cases c : f < 0 ∨ s.sz < t ∨ t < f
  · have HE : Box (s.del f t = (s, 30)) := boxed (by unfold St.del; rw [if_pos c])
    by_cases c1 : f < 0
    · have t1 : decide (f < 0) = true := decide_eq_true c1
      clear c c1 l0 l1 lb ho
      go_enter Try.func30, Try.ntmps30
      go_upto_region 1 with (fail)
      rw [HW.out]
      go_wp2_with fail
      refine bodyPost_ret (v := .tuple #[.agg #[.int .i64 s.sz, .int .i64 s.nx, .slice ao s.L.length cap], .int .i64 30]) ?_ ?_ ?_
      · exact results_row_tmp Try.results30 _ _ (w.heap.size + 1) 31 _ (0, 0) _ rfl HOld.out.2.2 Try.underlying31 rfl (by kernel_rfl)
      · rfl
      · exact ⟨⟨_, by rw [HE.out], by rw [HE.out]; exact HOld.out.1.out⟩, HOld.out.2.1⟩
    have t1 : decide (f < 0) = false := decide_eq_false c1
    by_cases c2 : s.sz < t
    · have t2 : decide (s.sz < t) = true := decide_eq_true c2
      clear c c1 c2 l0 l1 lb ho
      go_enter Try.func30, Try.ntmps30
      go_upto_region 1 with (fail)
      rw [HW.out]
      go_wp2_with fail
      refine bodyPost_ret (v := .tuple #[.agg #[.int .i64 s.sz, .int .i64 s.nx, .slice ao s.L.length cap], .int .i64 30]) ?_ ?_ ?_
      · exact results_row_tmp Try.results30 _ _ (w.heap.size + 1) 31 _ (0, 0) _ rfl HOld.out.2.2 Try.underlying31 rfl (by kernel_rfl)
      · rfl
      · exact ⟨⟨_, by rw [HE.out], by rw [HE.out]; exact HOld.out.1.out⟩, HOld.out.2.1⟩
    have t2 : decide (s.sz < t) = false := decide_eq_false c2
    have c3 : t < f := by omega
    have t3 : decide (t < f) = true := decide_eq_true c3
    clear c c1 c2 c3 l0 l1 lb ho
    go_enter Try.func30, Try.ntmps30
    go_upto_region 1 with (fail)
    rw [HW.out]
    go_wp2_with fail
    refine bodyPost_ret (v := .tuple #[.agg #[.int .i64 s.sz, .int .i64 s.nx, .slice ao s.L.length cap], .int .i64 30]) ?_ ?_ ?_
    · exact results_row_tmp Try.results30 _ _ (w.heap.size + 1) 31 _ (0, 0) _ rfl HOld.out.2.2 Try.underlying31 rfl (by kernel_rfl)
    · rfl
    · exact ⟨⟨_, by rw [HE.out], by rw [HE.out]; exact HOld.out.1.out⟩, HOld.out.2.1⟩
  have t1 : decide (f < 0) = false := decide_eq_false (by omega)
  have t2 : decide (s.sz < t) = false := decide_eq_false (by omega)
  have t3 : decide (t < f) = false := decide_eq_false (by omega)
  have HE : Box (s.del f t = (⟨s.sz - (t - f), s.nx, s.L.map (delP f t)⟩, 0)) := boxed (by unfold St.del; rw [if_neg c])
  have hf0 : 0 ≤ f := by omega
  have hft : f ≤ t := by omega
  have ht1 : t ≤ 65536 := by omega
  have ht2 : 0 ≤ s.sz - (t - f) := by omega
  have HEnd : Box (∀ wr v, Below w1.heap.size w1 wr → wr.ownsRow w1.heap.size 39 3 v s.L.length (mcs (s.L.map (delP f t))) →
      (wr.cell? ⟨w.heap.size, 0, none⟩ = some (.int .i64 s.sz) ∧ wr.cell? ⟨w.heap.size, 1, none⟩ = some (.int .i64 s.nx) ∧ wr.cell? ⟨w.heap.size, 2, none⟩ = some (.slice ao s.L.length cap)) ∧
      (wr.cell? ⟨w.heap.size + 1, 0, none⟩ = some (.int .i64 0) ∧ wr.cell? ⟨w.heap.size + 1, 1, none⟩ = some (.int .i64 0) ∧ wr.cell? ⟨w.heap.size + 1, 2, none⟩ = some (.slice none 0 0)) ∧
      (wr.frozen? ⟨w.heap.size + 1, 0, none⟩ = false ∧ wr.frozen? ⟨w.heap.size + 1, 1, none⟩ = false ∧ wr.frozen? ⟨w.heap.size + 1, 2, none⟩ = false) ∧
      Box ((put3 wr (w.heap.size + 1) (.int .i64 (s.sz - (t - f))) (.int .i64 s.nx) v).heap[w.heap.size + 1]? = some (.cells #[.int .i64 (s.sz - (t - f)), .int .i64 s.nx, v] 31 (0, 0)) ∧ RS B (put3 wr (w.heap.size + 1) (.int .i64 (s.sz - (t - f))) (.int .i64 s.nx) v) (.agg #[.int .i64 (s.sz - (t - f)), .int .i64 s.nx, v]) ⟨s.sz - (t - f), s.nx, (s.L.map (delP f t))⟩ ∧ Below w.heap.size w (put3 wr (w.heap.size + 1) (.int .i64 (s.sz - (t - f))) (.int .i64 s.nx) v))) := boxed (by
    intro wr v hb ho
    have f0 := (hb.block w.heap.size (by omega)).trans l0
    have f1 := (hb.block (w.heap.size + 1) (by omega)).trans l1
    refine ⟨(cells3 f0).1, (cells3 f1).1, (cells3 f1).2, boxed ⟨put3_heap f1 _ _ _, ?_, put3_below (lb.trans (hb.mono (by omega))) (by omega) (Nat.le_refl _) _ _ _⟩⟩
    refine rs_done (s := ⟨s.sz - (t - f), s.nx, (s.L.map (delP f t))⟩) f1 (B' := w1.heap.size) ?_ (by omega) (by omega)
    show World.ownsRow _ _ _ 3 _ ((s.L.map (delP f t))).length (mcs (s.L.map (delP f t)))
    rw [List.length_map]; exact ho)
  have HO1 := boxed ho
  have hlt1 : w.heap.size < w1.heap.size := by omega
  have hlt2 : w.heap.size + 1 < w1.heap.size := by omega
  have HFd := boxed (delP_ref f t hft)
  clear c l0 l1 lb ho HOld
  go_enter Try.func30, Try.ntmps30
  go_upto_region 1 with (fail)
  rw [HW.out]
  go_wp2_with fail
  clear x0 x1 x2 y0 y1 y2 z0 z1 z2
  go_loopw [8, 9] (fun va vb wr => ∃ (i : Nat) (v : Value), i ≤ s.L.length ∧ v = va ∧ vb = .int .i64 (i : Nat) ∧ Box (wr.ownsRow w1.heap.size 39 3 v i (mcs ((s.L.take i).map (delP f t)))) ∧ Box (Below w1.heap.size w1 wr)) (fun _ b _ => (s.L.length - intOf b).toNat)
  case atStart => exact ⟨0, _, Nat.zero_le _, rfl, rfl, boxed ⟨by simp [mcs], .inl ⟨rfl, by simp⟩⟩, boxed (Below.refl _ _)⟩
  case round =>
    obtain ⟨i, v, h1, rfl, rfl, HV, HBr⟩ := hrel
    have k2r := hold HBr.out k2
    have hzr := HBr.out.size
    by_cases hlt : i < s.L.length
    · obtain ⟨g, cap', e', hcap, d0, d1, d2, -⟩ := own_mk (owns_below HO1.out HBr.out) i hlt
      injection e' with e1 _ e3
      subst e1; subst e3
      have hlt2 : (i : Int) < (s.L.length : Int) := by omega
      have HD := boxed (map_take (f := delP f t) hlt)
      have hdl : ((s.L.take i).map (delP f t)).length = i := by simp; omega
      have hmem := HK.out.mem _ (List.getElem_mem hlt)
      obtain ⟨D, hD⟩ : ∃ D, (s.L.take i).map (delP f t) = D := ⟨_, rfl⟩
      rw [hD] at HD HV hdl
      obtain ⟨-, -, m0, m1⟩ := hmem
      have hm : s.L[i]'hlt = ⟨(s.L[i]'hlt).id, (s.L[i]'hlt).pl, (s.L[i]'hlt).st⟩ := rfl
      rw [hm] at HD
      clear hm hD
      generalize (s.L[i]'hlt).id = I at *
      generalize (s.L[i]'hlt).pl = P at *
      generalize (s.L[i]'hlt).st = T at *
      have hzr1 : w.heap.size < wr.heap.size := by omega
      by_cases c : P > f
      · have u1 : decide (f < P) = true := decide_eq_true c
        have HFm0 : Box (delP f t ⟨I, P, T⟩ = ⟨I, max f (P - (t - f)), T⟩) := boxed (by rw [HFd.out, if_pos c])
        have hpp : P - (t - f) ≤ 65536 := by omega
        have hpp0 : -65536 ≤ P - (t - f) := by omega
        clear c
        by_cases c1 : f < P - (t - f)
        · have HFm : Box (delP f t ⟨I, P, T⟩ = ⟨I, P - (t - f), T⟩) := boxed (by rw [HFm0.out, show max f (P - (t - f)) = P - (t - f) by omega])
          have v1 : f ≤ P - (t - f) := by omega
          have v2 : ¬ P - (t - f) ≤ f := by omega
          have v3 : ¬ P - (t - f) < f := by omega
          clear HFm0
          go_wp2_with (at_builtin; refine wpList_appM rfl _ _ rfl w1.heap.size v i D rfl (owns_below HV.out (((Below.refl _ _).alloc (Nat.le_refl _) _).alloc (by simp) _)) _ 1 [⟨I, P - (t - f), T⟩] rfl (two_src _ _ _ _ _) (by omega) (by simp; omega) ?_; intro v2 w2 ho2 hg2; have HB2 := boxed (HBr.out.trans (below_app2 HV.out hzr hg2)); have HO2 := boxed ho2; clear ho2 hg2)
          go_roundw
          case rel => exact ⟨i + 1, v2, by omega, rfl, by go_num, boxed (by rw [HD.out, HFm.out]; simpa using HO2.out), HB2⟩
          case measure => simp [intOf]; omega
        · have HFm : Box (delP f t ⟨I, P, T⟩ = ⟨I, f, T⟩) := boxed (by rw [HFm0.out, show max f (P - (t - f)) = f by omega])
          have v1 : P - (t - f) ≤ f := by omega
          by_cases c2 : P - (t - f) = f
          · have v2 : f ≤ P - (t - f) := by omega
            rw [c2] at *
            clear HFm0 c2
            go_wp2_with (at_builtin; refine wpList_appM rfl _ _ rfl w1.heap.size v i D rfl (owns_below HV.out (((Below.refl _ _).alloc (Nat.le_refl _) _).alloc (by simp) _)) _ 1 [⟨I, f, T⟩] rfl (two_src _ _ _ _ _) (by omega) (by simp; omega) ?_; intro v2 w2 ho2 hg2; have HB2 := boxed (HBr.out.trans (below_app2 HV.out hzr hg2)); have HO2 := boxed ho2; clear ho2 hg2)
            go_roundw
            case rel => exact ⟨i + 1, v2, by omega, rfl, by go_num, boxed (by rw [HD.out, HFm.out]; simpa using HO2.out), HB2⟩
            case measure => simp [intOf]; omega
          · have v2 : ¬ f ≤ P - (t - f) := by omega
            have v3 : P - (t - f) < f := by omega
            clear HFm0 c2
            go_wp2_with (at_builtin; refine wpList_appM rfl _ _ rfl w1.heap.size v i D rfl (owns_below HV.out (((Below.refl _ _).alloc (Nat.le_refl _) _).alloc (by simp) _)) _ 1 [⟨I, f, T⟩] rfl (two_src _ _ _ _ _) (by omega) (by simp; omega) ?_; intro v2 w2 ho2 hg2; have HB2 := boxed (HBr.out.trans (below_app2 HV.out hzr hg2)); have HO2 := boxed ho2; clear ho2 hg2)
            go_roundw
            case rel => exact ⟨i + 1, v2, by omega, rfl, by go_num, boxed (by rw [HD.out, HFm.out]; simpa using HO2.out), HB2⟩
            case measure => simp [intOf]; omega
      · have u1 : decide (f < P) = false := decide_eq_false c
        have HFm : Box (delP f t ⟨I, P, T⟩ = ⟨I, P, T⟩) := boxed (by rw [HFd.out, if_neg c])
        clear c
        go_wp2_with (at_builtin; refine wpList_appM rfl _ _ rfl w1.heap.size v i D rfl (owns_below HV.out (((Below.refl _ _).alloc (Nat.le_refl _) _).alloc (by simp) _)) _ 1 [⟨I, P, T⟩] rfl (two_src _ _ _ _ _) (by omega) (by simp; omega) ?_; intro v2 w2 ho2 hg2; have HB2 := boxed (HBr.out.trans (below_app2 HV.out hzr hg2)); have HO2 := boxed ho2; clear ho2 hg2)
        go_roundw
        case rel => exact ⟨i + 1, v2, by omega, rfl, by go_num, boxed (by rw [HD.out, HFm.out]; simpa using HO2.out), HB2⟩
        case measure => simp [intOf]; omega
    · have e : i = s.L.length := by omega
      have hfin := HV.out
      rw [e, List.take_length] at hfin
      obtain ⟨a2, c2, rfl⟩ := own_shape hfin
      obtain ⟨⟨p0, p1, p2⟩, ⟨q0, q1, q2⟩, ⟨f0, f1, f2⟩, HFin⟩ := HEnd.out _ _ HBr.out hfin
      subst e
      clear hfin HV HEnd HBr HO1 k2 k0 k1
      go_wp2_with fail
      refine bodyPost_ret (v := .tuple #[.agg #[.int .i64 (s.sz - (t - f)), .int .i64 s.nx, .slice a2 s.L.length c2], .int .i64 0]) ?_ ?_ ?_
      · exact results_row_tmp Try.results30 _ _ (w.heap.size + 1) 31 _ (0, 0) _ rfl HFin.out.1 Try.underlying31 rfl (by kernel_rfl)
      · rfl
      · exact ⟨⟨_, by rw [HE.out], by rw [HE.out]; exact HFin.out.2.1⟩, HFin.out.2.2⟩
end
end Go.Proofs.Ytdaccgnfhagoeaa
