/-
  What the document's ReadWord answers. (Written by mkhyt.py.)
-/
import Derived.Test.YtflhefgmgdgffaaDoorHys
namespace Go.Proofs.YtflhefgmgdgffaaDoor
open Go.RowKit Go.Maps
set_option linter.unusedSimpArgs false
set_option linter.unusedVariables false

theorem twc_told {T : TypeId} {w1 wr : World} {pb rb : Nat} {vL vV : Value} {L V : List Nat} (h : TwC T w1 pb vL vV L V wr) (hT : T ≠ 3) {x0 x1 : Value} (hr : wr.heap[rb]? = some (.cells #[x0, x1] T (0, 0))) :
    ∃ aoL cL aoV cV, vL = .slice aoL L.length cL ∧ vV = .slice aoV V.length cV ∧ Dg (put2 wr rb vL vV) aoL cL L ∧ Dg (put2 wr rb vL vV) aoV cV V ∧ NewA w1.heap.size aoL ∧ NewA w1.heap.size aoV := by
  have hs := put2_grown wr rb vL vV
  have hL := h.oL.kept hs (.inr (own_ne h.oL hr hT))
  have hV := h.oV.kept hs (.inr (own_ne h.oV hr hT))
  obtain ⟨-, aoL, cL, e1, d1⟩ := dg_of_owns hL
  obtain ⟨-, aoV, cV, e2, d2⟩ := dg_of_owns hV
  have hL' := h.oL
  have hV' := h.oV
  rw [e1] at hL'
  rw [e2] at hV'
  exact ⟨aoL, cL, aoV, cV, e1, e2, d1, d2, newA_own hL', newA_own hV'⟩
theorem rr_yesC {T : TypeId} {w1 wr : World} {pb rb : Nat} {vL vV : Value} {L V : List Nat} {o : Option (List Nat × List Nat)} (h : TwC T w1 pb vL vV L V wr) (hT : T ≠ 3) {x0 x1 : Value} (hr : wr.heap[rb]? = some (.cells #[x0, x1] T (0, 0))) (ho : o = some (L, V)) {B : Nat} (hB : B ≤ w1.heap.size) :
    RrP o B (.returned (.tuple #[.agg #[vL, vV], .bool true])) (put2 wr rb vL vV) := ⟨vL, vV, true, rfl, by simp [ho], by obtain ⟨a, c, e⟩ := own_shape h.oL; exact ⟨a, _, c, e⟩, by obtain ⟨a, c, e⟩ := own_shape h.oV; exact ⟨a, _, c, e⟩, fun L' V' h' => by
  rw [ho] at h'; injection h' with h'; injection h' with h1 h2; subst h1; subst h2
  obtain ⟨aoL, cL, aoV, cV, e1, e2, d1, d2, d3, d4⟩ := twc_told h hT hr
  exact ⟨aoL, cL, aoV, cV, e1, e2, d1, d2, fun b o e => Nat.le_trans hB (d3 b o e), fun b o e => Nat.le_trans hB (d4 b o e)⟩⟩
theorem not_pb {w1 : World} {pb b j : Nat} {x : Int} {t : TypeId} (h : w1.heap[pb]? = some (.cells #[.slice none 0 0, .slice none 0 0] t (0, 0))) (hc : w1.cell? ⟨b, j, none⟩ = some (.int .i64 x)) : b ≠ pb := by
  rintro rfl
  rw [cell_of_row _ _ _ _ _ _ h] at hc
  match j, hc with
  | 0, hc => simp at hc
  | 1, hc => simp at hc
  | (n + 2), hc => simp at hc
set_option maxRecDepth 100000 in
set_option maxHeartbeats 8000000 in
theorem refword_any (s : ByteArray) (w : World) (hs : s.size ≤ 1048576) :
    Calls Tryd.prog 27 #[.string s] w fun e w' => RrP (wordT s) w.heap.size e w' ∧ Below w.heap.size w w' := by
  obtain ⟨i2, hi2, hz0, hz1, hz2⟩ := info_parts info_int
  have l2 := laid2 w (.cells #[.slice none 0 0, .slice none 0 0] 72) (.cells #[.slice none 0 0, .slice none 0 0] 72)
  obtain ⟨w0, hw0⟩ : ∃ w0, (w.alloc (.cells #[.slice none 0 0, .slice none 0 0] 72)).alloc (.cells #[.slice none 0 0, .slice none 0 0] 72) = w0 := ⟨_, rfl⟩
  rw [hw0] at l2
  obtain ⟨rb, hrb⟩ : ∃ rb, w.heap.size = rb := ⟨_, rfl⟩
  obtain ⟨pb, hpb⟩ : ∃ pb, w.heap.size + 1 = pb := ⟨_, rfl⟩
  have HRB : Box (w.heap.size ≤ rb) := boxed (by omega)
  have HPG : Box (w.heap.size ≤ pb) := boxed (by omega)
  have HNE : Box (¬ rb = pb) := boxed (by omega)
  have HR0 : Box (w0.heap[rb]? = some (.cells #[.slice none 0 0, .slice none 0 0] 72 (0, 0))) := boxed (by rw [← hrb]; exact l2.1)
  have HP0 : Box (w0.heap[pb]? = some (.cells #[.slice none 0 0, .slice none 0 0] 72 (0, 0))) := boxed (by rw [← hpb]; exact l2.2.1)
  have HB0 := boxed l2.2.2.1
  have hru := runes_any s w0 hs (nR s) (nR_cnt s)
  have hnl := nR_le s
  have HBAD := boxed (rt_bad s)
  have hbz : badAt s (nR s) = -1 ∨ 0 ≤ badAt s (nR s) := badAt_cases s _
  generalize badAt s (nR s) = bad at *
  replace hw0 := boxed hw0
  replace hrb := boxed hrb
  replace hpb := boxed hpb
  clear l2
  go_enter Tryd.func27, Tryd.ntmps27
  go_upto_region 2 with fail
  rw [hw0.out]
  have hpb' := hpb.out
  rw [hpb']
  have hrb' := hrb.out
  rw [hrb']
  clear hrb' hpb'
  go_wp2_with fail
  refine hru.mono ?_
  rintro e w1 ⟨ao, ca, ao2, ca2, rfl, hd, -, hb1⟩
  have HB1 : Box (Below w.heap.size w w1) := boxed (below_step HB0.out (Nat.le_refl _) hb1)
  have HRS : Box (w1.heap[rb]? = some (.cells #[.slice none 0 0, .slice none 0 0] 72 (0, 0))) := boxed ((hb1.block _ (heap_lt HR0.out)).trans HR0.out)
  have HPS : Box (w1.heap[pb]? = some (.cells #[.slice none 0 0, .slice none 0 0] 72 (0, 0))) := boxed ((hb1.block _ (heap_lt HP0.out)).trans HP0.out)
  have HRL : Box (rb < w1.heap.size) := boxed (heap_lt HRS.out)
  have HD := boxed hd
  have HT1 : Box (TwC 72 w1 pb (.slice none 0 0) (.slice none 0 0) [] [] w1) := boxed ⟨Chg.refl _ _, HPS.out, World.ownsRow_nil _ _ _ _, World.ownsRow_nil _ _ _ _, .inl rfl⟩
  clear hb1 hru HR0 HP0 HB0 hw0 hd
  by_cases hf : fit s = false
  · have HN := boxed (word_unfit hf)
    have t : decide ((0 : Int) ≤ bad) = true ∨ (decide ((0 : Int) ≤ bad) = false ∧ decide ((256 : Int) < (s.size : Int)) = true ∧ decide (256 < s.size) = true) := by
      rcases hbz with h | h
      · right
        have hr : rt s = true := HBAD.out.1 (by omega)
        unfold fit at hf
        rw [hr] at hf
        simp at hf
        exact ⟨decide_eq_false (by omega), decide_eq_true (by omega), decide_eq_true (by omega)⟩
      · exact .inl (decide_eq_true h)
    clear hf hbz
    rcases t with t1 | ⟨t1, t2, t3⟩
    all_goals
      have hres := (HT1.out.chg.block _ HRL.out HNE.out).trans HRS.out
      obtain ⟨⟨r0, r1⟩, r2, r3⟩ := cells2 hres
      have HPH := boxed (put2_heap hres (.slice none 0 0) (.slice none 0 0))
      have HPB : Box (Below w.heap.size w (put2 w1 rb (.slice none 0 0) (.slice none 0 0))) := boxed ((HB1.out.trans (HT1.out.chg.below HB1.out.size (fun b hb => by rw [hb]; exact HPG.out))).grown (put2_grown _ _ _ _) (Nat.le_trans HB1.out.size HT1.out.size) (fun k hk => by injection hk with hk; rw [← hk]; exact HRB.out))
      obtain ⟨⟨c0, c1⟩, c2, c3⟩ := HT1.out.cells

      clear hres
      go_wp2_with fail
      refine bodyPost_ret (v := .tuple #[.agg #[.slice none 0 0, .slice none 0 0], .bool false]) ?_ ?_ ?_
      · exact results_row_tmp Tryd.results27 _ _ rb 72 _ (0, 0) _ rfl HPH.out Tryd.underlying72 rfl (by kernel_rfl)
      · rfl
      · exact ⟨rr_no HN.out _ _ _, HPB.out⟩
  · have hf' : fit s = true := by simpa using hf
    have hrt : rt s = true := by unfold fit at hf'; simp at hf'; exact hf'.2
    have hz : s.size ≤ 256 := by unfold fit at hf'; simp at hf'; exact hf'.1
    have t1 : decide ((0 : Int) ≤ bad) = false := decide_eq_false (by have := HBAD.out.2 hrt; omega)
    have t2 : decide ((256 : Int) < (s.size : Int)) = false := decide_eq_false (by omega)
    have t3 : decide (256 < s.size) = false := decide_eq_false (by omega)
    have HE := boxed (word_end hf')
    have HDT : Box (∀ i, i < nR s → ∃ b off, ao = some ⟨b, off, none⟩ ∧ ∀ wr, Chg (fun b => b = pb) w1 wr → b < wr.heap.size ∧ wr.cell? ⟨b, off + i, none⟩ = some (.int .i64 ((rn s i : Nat) : Int))) := boxed (fun i hi => by
      obtain ⟨b, off, e, hbl, hc⟩ := HD.out.at (by rw [rns_len]; omega)
      refine ⟨b, off, e, fun wr hb => ?_⟩
      have := hc i (by rw [rns_len]; exact hi)
      rw [rns_get _ _ _ hi] at this
      have hnp := not_pb HPS.out this
      refine ⟨Nat.lt_of_lt_of_le hbl hb.size, ?_⟩
      rw [World.cell?_of_block (a := ⟨b, off + i, none⟩) (hb.block b hbl hnp)]
      exact this)
    obtain ⟨N, hN⟩ : ∃ N, nR s = N := ⟨_, rfl⟩
    have HN := boxed hN
    rw [hN] at hnl ⊢
    clear hf hf' hrt hbz hN
    go_wp2_with fail
    go_loopw [8] (fun vi wr => ∃ (k : Nat) (L A : List Nat) (vL vV : Value), k ≤ N ∧ vi = .int .i64 (k : Int) ∧ Box (wst (rs s) k = some (L, A)) ∧ Box (k = N → N = 0 ∨ wfl s N = true) ∧ Box (TwC 72 w1 pb vL vV L A wr)) (fun vi _ => N - (intOf vi).toNat)
    case atStart => exact ⟨0, [], [], _, _, Nat.zero_le _, rfl, boxed rfl, boxed (fun h => .inl h.symm), HT1⟩
    case round =>
      clear HT1 t1 t2 t3
      obtain ⟨k, L, A, vL, vV, hk, rfl, HW, HKN, HT⟩ := hrel
      obtain ⟨hl1, hl2, hl3, -, -, -, -⟩ := wst_ok _ k L A (by rw [rs_len, HN.out]; exact hk) HW.out
      have hll2 : L.length ≤ 256 := by omega
      have hal2 : A.length ≤ 256 := by omega
      by_cases hlt : k < N
      · have hlt' : k < nR s := by rw [HN.out]; exact hlt
        have HX := boxed (wst_next hlt' HW.out)
        have hrl := rn_le s k
        have hll := low_le _ hrl
        obtain ⟨b, off, e0, hcl0⟩ := HDT.out k hlt'
        obtain ⟨hbl, hcl⟩ := hcl0 wr HT.out.chg
        have hki : (k : Int) < (N : Int) := by omega
        rw [e0]
        clear hl1 hl2 hl3 HKN
        by_cases h45 : rn s k = 45
        · have t1 : ((rn s k : Int) == 45) = true := by rw [beq_iff_eq]; omega
          have hL45 : ltr (rn s k) = false := by rw [h45]; decide
          by_cases hedge : k = 0
          · have HNO := boxed (word_stop (by omega) (HX.out.2.2 hL45 (.inr (by unfold wfl; rw [hedge]; simp))))
            subst hedge
            rw [Nat.add_zero] at hcl
            clear HX h45 hL45 hcl0 hll
            generalize rn s 0 = r at *
            obtain ⟨aL, cL, eL⟩ := own_shape HT.out.oL
            obtain ⟨aV, cV, eV⟩ := own_shape HT.out.oV
            subst eL
            subst eV
            generalize hgL : L.length = nL at *
            replace hgL := boxed hgL
            generalize hgV : A.length = nV at *
            replace hgV := boxed hgV

            have hres := (HT.out.chg.block _ HRL.out HNE.out).trans HRS.out
            obtain ⟨⟨r0, r1⟩, r2, r3⟩ := cells2 hres
            have HPH := boxed (put2_heap hres (.slice aL nL cL) (.slice aV nV cV))
            have HPB : Box (Below w.heap.size w (put2 wr rb (.slice aL nL cL) (.slice aV nV cV))) := boxed ((HB1.out.trans (HT.out.chg.below HB1.out.size (fun b hb => by rw [hb]; exact HPG.out))).grown (put2_grown _ _ _ _) (Nat.le_trans HB1.out.size HT.out.size) (fun k hk => by injection hk with hk; rw [← hk]; exact HRB.out))
            obtain ⟨⟨c0, c1⟩, c2, c3⟩ := HT.out.cells

            clear hres
            go_wp2_with fail
            refine bodyPost_ret (v := .tuple #[.agg #[.slice aL nL cL, .slice aV nV cV], .bool false]) ?_ ?_ ?_
            · exact results_row_tmp Tryd.results27 _ _ rb 72 _ (0, 0) _ rfl HPH.out Tryd.underlying72 rfl (by kernel_rfl)
            · rfl
            · exact ⟨rr_no HNO.out _ _ _, HPB.out⟩
          · obtain ⟨m, rfl⟩ : ∃ m, k = m + 1 := ⟨k - 1, by omega⟩
            have tk : (((m : Int) + 1) == 0) = false := by rw [beq_eq_false_iff_ne]; omega
            by_cases hend : m + 1 + 1 = N
            · have HNO : Box (wordT s = none) := boxed (by
                have h := HE.out.2
                rw [HN.out] at h
                refine h ?_
                unfold wfl
                rw [← hend, Nat.add_sub_cancel, rs_get s (m + 1) hlt', h45]
                simp)
              have tq : (((m : Int) + 1) == (N : Int) - 1) = true := by rw [beq_iff_eq]; omega
              clear HX h45 hL45 hcl0 hll hend
              generalize rn s (m + 1) = r at *
              obtain ⟨aL, cL, eL⟩ := own_shape HT.out.oL
              obtain ⟨aV, cV, eV⟩ := own_shape HT.out.oV
              subst eL
              subst eV
              generalize hgL : L.length = nL at *
              replace hgL := boxed hgL
              generalize hgV : A.length = nV at *
              replace hgV := boxed hgV

              have hres := (HT.out.chg.block _ HRL.out HNE.out).trans HRS.out
              obtain ⟨⟨r0, r1⟩, r2, r3⟩ := cells2 hres
              have HPH := boxed (put2_heap hres (.slice aL nL cL) (.slice aV nV cV))
              have HPB : Box (Below w.heap.size w (put2 wr rb (.slice aL nL cL) (.slice aV nV cV))) := boxed ((HB1.out.trans (HT.out.chg.below HB1.out.size (fun b hb => by rw [hb]; exact HPG.out))).grown (put2_grown _ _ _ _) (Nat.le_trans HB1.out.size HT.out.size) (fun k hk => by injection hk with hk; rw [← hk]; exact HRB.out))
              obtain ⟨⟨c0, c1⟩, c2, c3⟩ := HT.out.cells

              clear hres
              go_wp2_with fail
              refine bodyPost_ret (v := .tuple #[.agg #[.slice aL nL cL, .slice aV nV cV], .bool false]) ?_ ?_ ?_
              · exact results_row_tmp Tryd.results27 _ _ rb 72 _ (0, 0) _ rfl HPH.out Tryd.underlying72 rfl (by kernel_rfl)
              · rfl
              · exact ⟨rr_no HNO.out _ _ _, HPB.out⟩
            · have tq : (((m : Int) + 1) == (N : Int) - 1) = false := by rw [beq_eq_false_iff_ne]; omega
              obtain ⟨b', off', e1, hcl1⟩ := HDT.out m (by omega)
              rw [e0] at e1
              injection e1 with e1
              injection e1 with e1 e2
              subst e1; subst e2
              obtain ⟨-, hcp⟩ := hcl1 wr HT.out.chg
              have hmi : (m : Int) < (N : Int) := by omega
              by_cases hpr : rn s m = 45
              · have HNO := boxed (word_stop (by omega) (HX.out.2.2 hL45 (.inr (by unfold wfl; rw [Nat.add_sub_cancel, rs_get s m (by omega), hpr]; simp))))
                have tr : ((rn s m : Int) == 45) = true := by rw [beq_iff_eq]; omega
                clear HX h45 hL45 hcl0 hcl1 hll hend hpr
                generalize rn s (m + 1) = r at *
                generalize rn s m = r' at *
                obtain ⟨aL, cL, eL⟩ := own_shape HT.out.oL
                obtain ⟨aV, cV, eV⟩ := own_shape HT.out.oV
                subst eL
                subst eV
                generalize hgL : L.length = nL at *
                replace hgL := boxed hgL
                generalize hgV : A.length = nV at *
                replace hgV := boxed hgV

                have hres := (HT.out.chg.block _ HRL.out HNE.out).trans HRS.out
                obtain ⟨⟨r0, r1⟩, r2, r3⟩ := cells2 hres
                have HPH := boxed (put2_heap hres (.slice aL nL cL) (.slice aV nV cV))
                have HPB : Box (Below w.heap.size w (put2 wr rb (.slice aL nL cL) (.slice aV nV cV))) := boxed ((HB1.out.trans (HT.out.chg.below HB1.out.size (fun b hb => by rw [hb]; exact HPG.out))).grown (put2_grown _ _ _ _) (Nat.le_trans HB1.out.size HT.out.size) (fun k hk => by injection hk with hk; rw [← hk]; exact HRB.out))
                obtain ⟨⟨c0, c1⟩, c2, c3⟩ := HT.out.cells

                clear hres
                go_wp2_with fail
                refine bodyPost_ret (v := .tuple #[.agg #[.slice aL nL cL, .slice aV nV cV], .bool false]) ?_ ?_ ?_
                · exact results_row_tmp Tryd.results27 _ _ rb 72 _ (0, 0) _ rfl HPH.out Tryd.underlying72 rfl (by kernel_rfl)
                · rfl
                · exact ⟨rr_no HNO.out _ _ _, HPB.out⟩
              · have tr : ((rn s m : Int) == 45) = false := by rw [beq_eq_false_iff_ne]; omega
                obtain ⟨e1, e2⟩ := HX.out.2.1 hL45 h45 (by unfold wfl; rw [Nat.add_sub_cancel, rs_get s m (by omega)]; simp; exact hpr)
                have HW2 := boxed e1
                have HKN2 : Box (m + 1 + 1 = N → N = 0 ∨ wfl s N = true) := boxed (fun h => absurd h hend)
                obtain ⟨aL, cL, rfl⟩ := own_shape HT.out.oL
                obtain ⟨⟨c0, c1⟩, c2, c3⟩ := HT.out.cells
                have HOV := boxed HT.out.oV
                have hszA := HT.out.size
                have hpbl := heap_lt HT.out.box
                obtain ⟨al, hal⟩ : ∃ al, A.length = al := ⟨_, rfl⟩
                have HAL := boxed hal
                rw [hal] at HOV hal2
                clear HX h45 hL45 hcl0 hcl1 hll hend hpr e1 e2 hal
                generalize rn s (m + 1) = r at *
                generalize rn s m = r' at *
                generalize hgL : L.length = nL at *
                replace hgL := boxed hgL
                have H1c : Box (∀ u ∈ ([.int .i64 (nL : Int)] : List Value), u.oneCell' = true) := boxed (by intro u hu; simp at hu; subst hu; rfl)
                have hbz0 : w1.heap.size ≤ (wr.alloc (.cells #[.int .i64 (nL : Int)] 3)).heap.size := by simp; omega
                go_wp2_with (at_builtin; refine wpList_append_apart rfl _ _ 30 rfl w1.heap.size 3 i2 (.int .i64 0) 1 8 Tryd.underlying30 hi2 hz0 hz1 hz2 rfl (by decide) _ _ _ rfl (HOV.out.alloc _) ⟨wr.heap.size, 0, none⟩ 1 1 [.int .i64 (nL : Int)] rfl rfl (one_new wr _ _) H1c.out (by unfold maxLen; omega) (by omega) hbz0 (by omega) ?_)
                intro v5 w5 hown5 hgrow5 hwh5
                obtain ⟨a5, c5, e5⟩ := own_shape hown5
                subst e5
                have HT5 : Box (TwC 72 w1 pb (.slice aL nL cL) (.slice a5 (al + 1) c5) L (A ++ [nL]) (w5.setCell ⟨pb, 1, none⟩ (.slice a5 (al + 1) c5))) := boxed (HT.out.appV (x := nL) (by decide) ((Below.refl _ _).alloc (Nat.le_refl _) _) (by rw [HAL.out]; exact hown5) hgrow5 (by simpa using hwh5))
                have hb0 : w5.heap[pb]? = some (.cells #[.slice aL nL cL, vV] 72 (0, 0)) := by
                  rw [hgrow5.block pb (by simp; omega) (fun c => own_ne HOV.out HT.out.box (by decide) c.symm), Below.heap_alloc _ _ _ hpbl]
                  exact HT.out.box
                obtain ⟨⟨d0, d1⟩, d2, d3⟩ := cells2 hb0
                clear hown5 hgrow5 hwh5 c0 c1 c2 c3 hszA hal2 HOV hb0
                go_wp2_with fail
                go_roundw
                case rel => exact ⟨m + 1 + 1, L, A ++ [nL], _, _, by omega, by go_num, HW2, HKN2, HT5⟩
                case measure => simp [intOf]; omega
        · have t1 : ((rn s k : Int) == 45) = false := by rw [beq_eq_false_iff_ne]; omega
          have hlow := fun W => reflower_any (rn s k) hrl W
          have hlet := fun W => refletter_any (rn s k) hrl W
          cases hL : ltr (rn s k) with
          | false =>
            have HNO := boxed (word_stop (by omega) (HX.out.2.2 hL (.inl h45)))
            rw [hL] at hlet
            clear HX h45 hL hcl0
            generalize rn s k = r at *
            go_wp2_with fail
            refine (hlet _).mono ?_
            rintro e w2 ⟨rfl, hbl2⟩
            have HT2 := boxed (HT.out.below hbl2)
            clear hbl2 hlet HT hcl
            obtain ⟨aL, cL, eL⟩ := own_shape HT2.out.oL
            obtain ⟨aV, cV, eV⟩ := own_shape HT2.out.oV
            subst eL
            subst eV
            generalize hgL : L.length = nL at *
            replace hgL := boxed hgL
            generalize hgV : A.length = nV at *
            replace hgV := boxed hgV

            have hres := (HT2.out.chg.block _ HRL.out HNE.out).trans HRS.out
            obtain ⟨⟨r0, r1⟩, r2, r3⟩ := cells2 hres
            have HPH := boxed (put2_heap hres (.slice aL nL cL) (.slice aV nV cV))
            have HPB : Box (Below w.heap.size w (put2 w2 rb (.slice aL nL cL) (.slice aV nV cV))) := boxed ((HB1.out.trans (HT2.out.chg.below HB1.out.size (fun b hb => by rw [hb]; exact HPG.out))).grown (put2_grown _ _ _ _) (Nat.le_trans HB1.out.size HT2.out.size) (fun k hk => by injection hk with hk; rw [← hk]; exact HRB.out))
            obtain ⟨⟨c0, c1⟩, c2, c3⟩ := HT2.out.cells

            clear hres
            go_wp2_with fail
            refine bodyPost_ret (v := .tuple #[.agg #[.slice aL nL cL, .slice aV nV cV], .bool false]) ?_ ?_ ?_
            · exact results_row_tmp Tryd.results27 _ _ rb 72 _ (0, 0) _ rfl HPH.out Tryd.underlying72 rfl (by kernel_rfl)
            · rfl
            · exact ⟨rr_no HNO.out _ _ _, HPB.out⟩
          | true =>
            obtain ⟨e1, e2⟩ := HX.out.1 hL
            have HW2 := boxed e1
            have HKN2 : Box (k + 1 = N → N = 0 ∨ wfl s N = true) := boxed (fun h => .inr (by rw [← h]; exact e2))
            rw [hL] at hlet
            clear HX h45 hL e1 e2
            have hcl9 := boxed hcl0
            clear hcl0
            generalize rn s k = r at *
            generalize lowr r = l at *
            go_wp2_with fail
            refine (hlet _).mono ?_
            rintro e w2 ⟨rfl, hbl2⟩
            have HT2 := boxed (HT.out.below hbl2)
            obtain ⟨hbl', hcl'⟩ := hcl9.out w2 HT2.out.chg
            clear hbl2 hlet HT hcl hcl9 hbl
            obtain ⟨aL, cL, rfl⟩ := own_shape HT2.out.oL
            obtain ⟨⟨c0, c1⟩, c2, c3⟩ := HT2.out.cells
            have hpbl := heap_lt HT2.out.box
            have hszA := HT2.out.size
            generalize hgL : L.length = nL at *
            replace hgL := boxed hgL
            have hbd : Below w2.heap.size w2 (w2.alloc (.cells #[.int .i64 (l : Int)] 3)).drew := ((Below.refl _ _).alloc (Nat.le_refl _) _).drew
            have HOa := boxed (owns_below HT2.out.oL hbd)
            rw [hgL.out] at HOa
            have HNw : Box (∀ j u, ([.int .i64 (l : Int)] : List Value)[j]? = some u → (w2.alloc (.cells #[.int .i64 (l : Int)] 3)).drew.cell? ((⟨w2.heap.size, 0, none⟩ : Addr).add j) = some u) := boxed (by
              intro j u hj
              rw [World.cell?_drew]
              exact one_new w2 _ _ j u hj)
            have hb0 : w1.heap.size ≤ (w2.alloc (.cells #[.int .i64 (l : Int)] 3)).drew.heap.size := by simp; omega
            have HX : Box (∀ v1 wz, wz.ownsRow w1.heap.size 3 1 v1 (nL + 1) (vals L ++ [.int .i64 (l : Int)]) → (w2.alloc (.cells #[.int .i64 (l : Int)] 3)).drew.grownBy wz (Value.slice aL nL cL).ownBlock → (v1.ownBlock = (Value.slice aL nL cL).ownBlock ∨ v1.ownBlock = some (w2.alloc (.cells #[.int .i64 (l : Int)] 3)).drew.heap.size) →
                (wz.cell? ⟨pb, 0, none⟩ = some (.slice aL nL cL) ∧ wz.frozen? ⟨pb, 0, none⟩ = false) ∧ TwC 72 w1 pb v1 vV (L ++ [l]) A (wz.setCell ⟨pb, 0, none⟩ v1)) := boxed (by
              intro v1 wz ho hg hw
              have hbx : wz.heap[pb]? = some (.cells #[.slice aL nL cL, vV] 72 (0, 0)) := by
                rw [hg.block pb (Nat.lt_of_lt_of_le hpbl hbd.size) (fun c => own_ne HT2.out.oL HT2.out.box (by decide) c.symm), hbd.block pb hpbl]
                exact HT2.out.box
              obtain ⟨⟨d0, -⟩, d2, -⟩ := cells2 hbx
              exact ⟨⟨d0, d2⟩, HT2.out.appL (by decide) hbd (by rw [hgL.out]; exact ho) hg hw⟩)
            have H1c : Box (∀ u ∈ ([.int .i64 (l : Int)] : List Value), u.oneCell' = true) := boxed (by intro u hu; simp at hu; subst hu; rfl)
            replace hbd := boxed hbd
            go_upto_region 14 with fail
            go_region_law
              (first | (refine step_append_apart rfl _ _ 30 rfl w1.heap.size 3 i2 (.int .i64 0) 1 8 Tryd.underlying30 hi2 hz0 hz1 hz2 rfl (by decide) _ _ _ rfl HOa.out ⟨w2.heap.size, 0, none⟩ 1 1 [.int .i64 (l : Int)] rfl rfl HNw.out H1c.out (by unfold maxLen; omega) (by omega) hb0 (by omega) ?_; intro v1 wz hown1 hg1 hw1; obtain ⟨a1, c1', rfl⟩ := own_shape hown1; obtain ⟨⟨p1, p2⟩, hTw⟩ := HX.out _ wz hown1 hg1 hw1; have HTw := boxed hTw; clear hown1 hg1 hw1 hTw) | (refine step_call rfl 21 #[.int .i64 (r : Int)] (by go_simp) _ (hlow _) ?_))
            all_goals
              go_wp2_with fail
              go_roundw
              case rel => exact ⟨k + 1, L ++ [l], A, _, _, by omega, by go_num, HW2, HKN2, HTw⟩
              case measure => simp [intOf]; omega
      · have e : k = N := by omega
        subst e
        by_cases hN0 : k = 0
        · have HO2 : Box (wordT s = none) := boxed (by
            have h := HE.out.2
            rw [HN.out] at h
            exact h (by unfold wfl; rw [hN0]; simp))
          have hLn : L = [] := by
            have : L.length ≤ 0 := by omega
            exact List.eq_nil_of_length_eq_zero (by omega)
          subst hLn
          clear hl1 hl2 hl3 HKN
          obtain ⟨aL, cL, eL⟩ := own_shape HT.out.oL
          obtain ⟨aV, cV, eV⟩ := own_shape HT.out.oV
          subst eL
          subst eV
          generalize hgL : ([] : List Nat).length = nL at *
          replace hgL := boxed hgL
          generalize hgV : A.length = nV at *
          replace hgV := boxed hgV
          have hne1 : rb ≠ pb := HNE.out
          have hne2 : pb ≠ rb := fun h => HNE.out h.symm
          have HTd := boxed (HT.out.below (Below.drew (Below.refl wr.heap.size wr)))
          obtain ⟨⟨e0, e1⟩, e2, e3⟩ := HT.out.cells
          have hres2 := (HT.out.chg.block _ HRL.out HNE.out).trans HRS.out
          obtain ⟨⟨q0, q1⟩, q2, q3⟩ := cells2 hres2

          have hres := (HTd.out.chg.block _ HRL.out HNE.out).trans HRS.out
          obtain ⟨⟨r0, r1⟩, r2, r3⟩ := cells2 hres
          have HPH := boxed (put2_heap hres (.slice aL nL cL) (.slice aV nV cV))
          have HPB : Box (Below w.heap.size w (put2 wr.drew rb (.slice aL nL cL) (.slice aV nV cV))) := boxed ((HB1.out.trans (HTd.out.chg.below HB1.out.size (fun b hb => by rw [hb]; exact HPG.out))).grown (put2_grown _ _ _ _) (Nat.le_trans HB1.out.size HTd.out.size) (fun k hk => by injection hk with hk; rw [← hk]; exact HRB.out))
          obtain ⟨⟨c0, c1⟩, c2, c3⟩ := HTd.out.cells
          have hn0 : nL = 0 := by rw [← hgL.out]; rfl
          have t1 : decide ((0 : Int) < (nL : Int)) = false := decide_eq_false (by omega)
          have t1' : decide (0 < nL) = false := decide_eq_false (by omega)
          clear hres2 hn0
          clear hres
          go_wp2_with fail
          go_region
          all_goals
            go_wp2_with fail
            refine bodyPost_ret (v := .tuple #[.agg #[.slice aL nL cL, .slice aV nV cV], .bool false]) ?_ ?_ ?_
            · exact results_row_tmp Tryd.results27 _ _ rb 72 _ (0, 0) _ rfl HPH.out Tryd.underlying72 rfl (by kernel_rfl)
            · rfl
            · exact ⟨rr_no HO2.out _ _ _, HPB.out⟩
        · have HO2 : Box (wordT s = some (L, A)) := boxed (by
            have h := HE.out.1
            rw [HN.out] at h
            rw [h ((HKN.out rfl).resolve_left hN0)]
            exact HW.out)
          have hLp : 0 < L.length := by
            cases hLL : L with
            | nil => exact absurd hLL (hl3 (by omega))
            | cons a c => simp
          clear hl1 hl2 hl3 HKN
          obtain ⟨aL, cL, eL⟩ := own_shape HT.out.oL
          obtain ⟨aV, cV, eV⟩ := own_shape HT.out.oV
          subst eL
          subst eV
          generalize hgL : L.length = nL at *
          replace hgL := boxed hgL
          generalize hgV : A.length = nV at *
          replace hgV := boxed hgV
          have hne1 : rb ≠ pb := HNE.out
          have hne2 : pb ≠ rb := fun h => HNE.out h.symm
          have HTd := boxed (HT.out.below (Below.drew (Below.refl wr.heap.size wr)))
          obtain ⟨⟨e0, e1⟩, e2, e3⟩ := HT.out.cells
          have hres2 := (HT.out.chg.block _ HRL.out HNE.out).trans HRS.out
          obtain ⟨⟨q0, q1⟩, q2, q3⟩ := cells2 hres2

          have hres := (HTd.out.chg.block _ HRL.out HNE.out).trans HRS.out
          obtain ⟨⟨r0, r1⟩, r2, r3⟩ := cells2 hres
          have HPH := boxed (put2_heap hres (.slice aL nL cL) (.slice aV nV cV))
          have HPB : Box (Below w.heap.size w (put2 wr.drew rb (.slice aL nL cL) (.slice aV nV cV))) := boxed ((HB1.out.trans (HTd.out.chg.below HB1.out.size (fun b hb => by rw [hb]; exact HPG.out))).grown (put2_grown _ _ _ _) (Nat.le_trans HB1.out.size HTd.out.size) (fun k hk => by injection hk with hk; rw [← hk]; exact HRB.out))
          obtain ⟨⟨c0, c1⟩, c2, c3⟩ := HTd.out.cells
          have t1 : decide ((0 : Int) < (nL : Int)) = true := decide_eq_true (by omega)
          have t1' : decide (0 < nL) = true := decide_eq_true hLp
          have HY := boxed (rr_yesC HTd.out (by decide) (rb := rb) hres HO2.out HB1.out.size)
          clear hres2
          clear hres
          go_wp2_with fail
          go_region
          all_goals
            go_wp2_with fail
            refine bodyPost_ret (v := .tuple #[.agg #[.slice aL nL cL, .slice aV nV cV], .bool true]) ?_ ?_ ?_
            · exact results_row_tmp Tryd.results27 _ _ rb 72 _ (0, 0) _ rfl HPH.out Tryd.underlying72 rfl (by kernel_rfl)
            · rfl
            · exact ⟨HY.out, HPB.out⟩
end Go.Proofs.YtflhefgmgdgffaaDoor
