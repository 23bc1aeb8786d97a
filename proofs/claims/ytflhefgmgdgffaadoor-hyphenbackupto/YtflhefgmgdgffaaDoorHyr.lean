/-
  What the document's ReadPattern answers. (Written by mkhyr.py.)
-/
import Derived.Test.YtflhefgmgdgffaaDoorHyq
namespace Go.Proofs.YtflhefgmgdgffaaDoor
open Go.RowKit Go.Maps
set_option linter.unusedSimpArgs false
set_option linter.unusedVariables false

theorem cells2 {w : World} {b : Nat} {v0 v1 : Value} {t : TypeId} (h : w.heap[b]? = some (.cells #[v0, v1] t (0, 0))) : (w.cell? ⟨b, 0, none⟩ = some v0 ∧ w.cell? ⟨b, 1, none⟩ = some v1) ∧ w.frozen? ⟨b, 0, none⟩ = false ∧ w.frozen? ⟨b, 1, none⟩ = false :=
  ⟨⟨by rw [cell_of_row _ _ _ _ _ _ h]; rfl, by rw [cell_of_row _ _ _ _ _ _ h]; rfl⟩, row_free h 0, row_free h 1⟩
/-- What ReadPattern answers. -/
def RrP (o : Option (List Nat × List Nat)) (B : Nat) (e : Ending) (w' : World) : Prop := ∃ (v1 v2 : Value) (b : Bool), e = .returned (.tuple #[.agg #[v1, v2], .bool b]) ∧ (b = true ↔ o ≠ none) ∧ (∃ a n c, v1 = .slice a n c) ∧ (∃ a n c, v2 = .slice a n c) ∧ ∀ L V, o = some (L, V) → ∃ aoL cL aoV cV, v1 = .slice aoL L.length cL ∧ v2 = .slice aoV V.length cV ∧ Dg w' aoL cL L ∧ Dg w' aoV cV V ∧ NewA B aoL ∧ NewA B aoV
theorem rr_no {o : Option (List Nat × List Nat)} (h : o = none) {B : Nat} (v1 v2 : Value) (w' : World) (h1 : ∃ a n c, v1 = .slice a n c := by exact ⟨_, _, _, rfl⟩) (h2 : ∃ a n c, v2 = .slice a n c := by exact ⟨_, _, _, rfl⟩) : RrP o B (.returned (.tuple #[.agg #[v1, v2], .bool false])) w' := ⟨v1, v2, false, rfl, by simp [h], h1, h2, fun L V h' => by rw [h] at h'; cases h'⟩
theorem rr_yes {T : TypeId} {w1 wr : World} {pb rb : Nat} {vL vV : Value} {L V : List Nat} {o : Option (List Nat × List Nat)} (h : Two T w1 pb vL vV L V wr) (hT : T ≠ 3) {x0 x1 : Value} (hr : wr.heap[rb]? = some (.cells #[x0, x1] T (0, 0))) (ho : o = some (L, V)) {B : Nat} (hB : B ≤ w1.heap.size) :
    RrP o B (.returned (.tuple #[.agg #[vL, vV], .bool true])) (put2 wr rb vL vV) := ⟨vL, vV, true, rfl, by simp [ho], by obtain ⟨a, c, e⟩ := own_shape h.oL; exact ⟨a, _, c, e⟩, by obtain ⟨a, c, e⟩ := own_shape h.oV; exact ⟨a, _, c, e⟩, fun L' V' h' => by
  rw [ho] at h'; injection h' with h'; injection h' with h1 h2; subst h1; subst h2
  obtain ⟨aoL, cL, aoV, cV, e1, e2, d1, d2, d3, d4⟩ := two_told h hT hr
  exact ⟨aoL, cL, aoV, cV, e1, e2, d1, d2, fun b o e => Nat.le_trans hB (d3 b o e), fun b o e => Nat.le_trans hB (d4 b o e)⟩⟩
set_option maxRecDepth 100000 in
set_option maxHeartbeats 8000000 in
theorem refpat_any (s : ByteArray) (w : World) (hs : s.size ≤ 1048576) :
    Calls Tryd.prog 26 #[.string s] w fun e w' => RrP (patT s) w.heap.size e w' ∧ Below w.heap.size w w' := by
  obtain ⟨i2, hi2, hz0, hz1, hz2⟩ := info_parts info_int
  have l0 := laid1 w (.cells #[.slice none 0 0, .slice none 0 0] 68)
  obtain ⟨w0, hw0⟩ : ∃ w0, w.alloc (.cells #[.slice none 0 0, .slice none 0 0] 68) = w0 := ⟨_, rfl⟩
  rw [hw0] at l0
  obtain ⟨rb, hrb⟩ : ∃ rb, w.heap.size = rb := ⟨_, rfl⟩
  have HRB : Box (w.heap.size ≤ rb) := boxed (by omega)
  have HR0 : Box (w0.heap[rb]? = some (.cells #[.slice none 0 0, .slice none 0 0] 68 (0, 0))) := boxed (by rw [← hrb]; exact l0.1)
  have HB0 := boxed l0.2.1
  have hru := runes_any s w0 hs (nR s) (nR_cnt s)
  have hnl := nR_le s
  have HBAD := boxed (rt_bad s)
  have HRT := boxed (rt_right (s := s))
  have hbz : badAt s (nR s) = -1 ∨ 0 ≤ badAt s (nR s) := badAt_cases s _
  generalize badAt s (nR s) = bad at *
  replace hw0 := boxed hw0
  replace hrb := boxed hrb
  clear l0
  go_enter Tryd.func26, Tryd.ntmps26
  go_upto_region 1 with fail
  rw [hw0.out]
  have hrb' := hrb.out
  rw [hrb']
  clear hrb' 
  go_wp2_with fail
  refine hru.mono ?_
  rintro e w1 ⟨ao, ca, ao2, ca2, rfl, hd, -, hb1⟩
  have HB1 : Box (Below w.heap.size w w1) := boxed (below_step HB0.out (Nat.le_refl _) hb1)
  have HRS : Box (w1.heap[rb]? = some (.cells #[.slice none 0 0, .slice none 0 0] 68 (0, 0))) := boxed ((hb1.block _ (heap_lt HR0.out)).trans HR0.out)
  have HRL : Box (rb < w1.heap.size) := boxed (heap_lt HRS.out)
  have HD := boxed hd
  clear hb1 hru HR0 HB0 hw0 hd
  have l2 := laid2 w1 (.cells #[.int .i64 0] 3) (.cells #[.slice none 0 0, .slice (some ⟨w1.heap.size, 0, none⟩) 1 1] 68)
  have hlit : (w1.alloc (.cells #[.int .i64 0] 3)).ownsRow w1.heap.size 3 1 (.slice (some ⟨w1.heap.size, 0, none⟩) 1 1) 1 [.int .i64 0] := World.ownsRow_lit w1 #[.int .i64 0] 1 (Nat.le_refl _) (by unfold maxLen; omega) (by simp)
  have HT0 : Box (Two 68 w1 (w1.heap.size + 1) (.slice none 0 0) (.slice (some ⟨w1.heap.size, 0, none⟩) 1 1) [] [0] ((w1.alloc (.cells #[.int .i64 0] 3)).alloc (.cells #[.slice none 0 0, .slice (some ⟨w1.heap.size, 0, none⟩) 1 1] 68))) := boxed ⟨l2.2.2.1, by omega, l2.2.1, World.ownsRow_nil _ _ _ _, hlit.alloc _, .inl rfl⟩
  clear l2 hlit
  obtain ⟨W, hW⟩ : ∃ W, (w1.alloc (.cells #[.int .i64 0] 3)).alloc (.cells #[.slice none 0 0, .slice (some ⟨w1.heap.size, 0, none⟩) 1 1] 68) = W := ⟨_, rfl⟩
  rw [hW] at HT0
  replace hW := boxed hW
  go_upto_region 3 with fail
  rw [hW.out]
  clear hW
  have HT1 := HT0
  clear HT0
  obtain ⟨pb, hpb⟩ : ∃ pb, w1.heap.size + 1 = pb := ⟨_, rfl⟩
  rw [hpb] at HT1 ⊢
  clear hpb
  by_cases hf : fit s = false
  · have HN := boxed (pat_unfit hf)
    have t : decide ((0 : Int) ≤ bad) = true ∨ (decide ((0 : Int) ≤ bad) = false ∧ decide ((256 : Int) < (s.size : Int)) = true ∧ decide (256 < s.size) = true) := by
      rcases hbz with h | h
      · right
        have hr : rt s = true := HBAD.out.1 (by omega)
        unfold fit at hf
        rw [hr] at hf
        simp at hf
        exact ⟨decide_eq_false (by omega), decide_eq_true (by omega), decide_eq_true (by omega)⟩
      · exact .inl (decide_eq_true h)
    clear hf hbz
    rcases t with t1 | ⟨t1, t2, t3⟩
    all_goals
      have hres := (HT1.out.bel.block _ HRL.out).trans HRS.out
      obtain ⟨⟨r0, r1⟩, r2, r3⟩ := cells2 hres
      have HPH := boxed (put2_heap hres (.slice none 0 0) (.slice (some ⟨w1.heap.size, 0, none⟩) 1 1))
      have HPB : Box (Below w.heap.size w (put2 W rb (.slice none 0 0) (.slice (some ⟨w1.heap.size, 0, none⟩) 1 1))) := boxed ((HB1.out.trans (HT1.out.bel.mono HB1.out.size)).grown (put2_grown _ _ _ _) (Nat.le_trans HB1.out.size HT1.out.size) (fun k hk => by injection hk with hk; rw [← hk]; exact HRB.out))
      obtain ⟨⟨c0, c1⟩, c2, c3⟩ := HT1.out.cells
      clear hres
      go_wp2_with fail
      refine bodyPost_ret (v := .tuple #[.agg #[.slice none 0 0, .slice (some ⟨w1.heap.size, 0, none⟩) 1 1], .bool false]) ?_ ?_ ?_
      · exact results_row_tmp Tryd.results26 _ _ rb 68 _ (0, 0) _ rfl HPH.out Tryd.underlying68 rfl (by kernel_rfl)
      · rfl
      · exact ⟨rr_no HN.out _ _ _, HPB.out⟩
  · have hf' : fit s = true := by simpa using hf
    have hrt : rt s = true := by unfold fit at hf'; simp at hf'; exact hf'.2
    have hz : s.size ≤ 256 := by unfold fit at hf'; simp at hf'; exact hf'.1
    have t1 : decide ((0 : Int) ≤ bad) = false := decide_eq_false (by have := HBAD.out.2 hrt; omega)
    have t2 : decide ((256 : Int) < (s.size : Int)) = false := decide_eq_false (by omega)
    have t3 : decide (256 < s.size) = false := decide_eq_false (by omega)
    have HE := boxed (fun p => pat_end (p := p) hf')
    have HDT : Box (∀ i, i < nR s → ∃ b off, ao = some ⟨b, off, none⟩ ∧ ∀ wr, Below w1.heap.size w1 wr → wr.cell? ⟨b, off + i, none⟩ = some (.int .i64 ((rn s i : Nat) : Int))) := boxed (fun i hi => by
      obtain ⟨b, off, e, hbl, hc⟩ := HD.out.at (by rw [rns_len]; omega)
      refine ⟨b, off, e, fun wr hb => ?_⟩
      have := hc i (by rw [rns_len]; exact hi)
      rw [rns_get _ _ _ hi] at this
      exact hold hb this)
    obtain ⟨N, hN⟩ : ∃ N, nR s = N := ⟨_, rfl⟩
    have HN := boxed hN
    rw [hN] at hnl ⊢
    clear hf hf' hrt hbz hN
    go_wp2_with fail
    go_loopw [8, 9] (fun vs vi wr => ∃ (k : Nat) (p : Pt) (vL vV : Value), k ≤ N ∧ vs = .bool p.m ∧ vi = .int .i64 (k : Int) ∧ Box (pst (rs s) k = some p) ∧ Box (Two 68 w1 pb vL vV p.L p.V wr)) (fun _ vi _ => N - (intOf vi).toNat)
    case atStart => exact ⟨0, ⟨[], [0], false⟩, _, _, Nat.zero_le _, rfl, rfl, boxed rfl, HT1⟩
    case round =>
      clear HT1 t1 t2 t3
      obtain ⟨k, p, vL, vV, hk, rfl, rfl, HW, HT⟩ := hrel
      obtain ⟨hl1, hl2, hl9, -, -⟩ := pst_ok _ k p (by rw [rs_len, HN.out]; exact hk) HW.out
      have hv1 : p.L.length < p.V.length := by omega
      have hv2 : p.V.length ≤ 257 := by omega
      have hll2 : p.L.length ≤ 256 := by omega
      clear hl9 hl1 hl2
      by_cases hlt : k < N
      · have hlt' : k < nR s := by rw [HN.out]; exact hlt
        have HX := boxed (pst_next hlt' HW.out)
        have hrl := rn_le s k
        have hll := low_le _ hrl
        obtain ⟨b, off, e0, hcl0⟩ := HDT.out k hlt'
        have hcl := hcl0 wr HT.out.bel
        have hki : (k : Int) < (N : Int) := by omega
        rw [e0]
        cases hD : dig (rn s k) with
        | true =>
          have hd2 := (dig_iff _).1 hD
          have t1 : decide ((48 : Int) ≤ (rn s k : Int)) = true := decide_eq_true (by omega)
          have t1' : decide (48 ≤ rn s k) = true := decide_eq_true (by omega)
          have t2 : decide ((rn s k : Int) ≤ 57) = true := decide_eq_true (by omega)
          have t2' : decide (rn s k ≤ 57) = true := decide_eq_true (by omega)
          cases hB : bdg s k with
          | true =>
            have HNO := boxed (pat_stop (by omega) (HX.out.2.1 hD hB))
            have hB2 := of_decide_eq_true hB
            obtain ⟨m, rfl⟩ : ∃ m, k = m + 1 := ⟨k - 1, by omega⟩
            rw [Nat.add_sub_cancel, rs_get s m (by omega)] at hB2
            have hd3 := (dig_iff _).1 hB2.2
            obtain ⟨b', off', e1, hcl1⟩ := HDT.out m (by omega)
            rw [e0] at e1
            injection e1 with e1
            injection e1 with e1 e2
            subst e1; subst e2
            have hcp := hcl1 wr HT.out.bel
            have t3 : decide ((48 : Int) ≤ (rn s m : Int)) = true := decide_eq_true (by omega)
            have t3' : decide (48 ≤ rn s m) = true := decide_eq_true (by omega)
            have t4 : decide ((rn s m : Int) ≤ 57) = true := decide_eq_true (by omega)
            have t4' : decide (rn s m ≤ 57) = true := decide_eq_true (by omega)
            have hmi : (m : Int) < (N : Int) := by omega
            clear HX hD hB hd2 hd3 hB2 hcl0 hcl1 hll
            generalize rn s (m + 1) = r at *
            generalize rn s m = r' at *
            obtain ⟨aL, cL, eL⟩ := own_shape HT.out.oL
            obtain ⟨aV, cV, eV⟩ := own_shape HT.out.oV
            subst eL
            subst eV
            generalize hgL : p.L.length = nL at *
            replace hgL := boxed hgL
            generalize hgV : p.V.length = nV at *
            replace hgV := boxed hgV
            have hres := (HT.out.bel.block _ HRL.out).trans HRS.out
            obtain ⟨⟨r0, r1⟩, r2, r3⟩ := cells2 hres
            have HPH := boxed (put2_heap hres (.slice aL nL cL) (.slice aV nV cV))
            have HPB : Box (Below w.heap.size w (put2 wr rb (.slice aL nL cL) (.slice aV nV cV))) := boxed ((HB1.out.trans (HT.out.bel.mono HB1.out.size)).grown (put2_grown _ _ _ _) (Nat.le_trans HB1.out.size HT.out.size) (fun k hk => by injection hk with hk; rw [← hk]; exact HRB.out))
            obtain ⟨⟨c0, c1⟩, c2, c3⟩ := HT.out.cells
            clear hres
            go_wp2_with fail
            refine bodyPost_ret (v := .tuple #[.agg #[.slice aL nL cL, .slice aV nV cV], .bool false]) ?_ ?_ ?_
            · exact results_row_tmp Tryd.results26 _ _ rb 68 _ (0, 0) _ rfl HPH.out Tryd.underlying68 rfl (by kernel_rfl)
            · rfl
            · exact ⟨rr_no HNO.out _ _ _, HPB.out⟩
          | false =>
            obtain ⟨e1, e2⟩ := HX.out.1 hD hB
            have HW2 := boxed e1
            obtain ⟨d, hd⟩ : ∃ d : Nat, rn s k = d + 48 := ⟨rn s k - 48, by omega⟩
            have hd9 : d ≤ 9 := by omega
            rw [hd, Nat.add_sub_cancel] at HW2
            obtain ⟨g, cp, rfl, hcap, hvc, hvf⟩ := own_cell HT.out.oV p.L.length hv1
            rw [vals_get _ _ hv1] at hvc
            obtain ⟨voL, vcL, rfl⟩ := own_shape HT.out.oL
            have HT2 := boxed (HT.out.setV rfl (by decide) p.L.length d)
            obtain ⟨⟨c0, c1⟩, c2, c3⟩ := HT.out.cells
            have hB2 := of_decide_eq_false hB
            have tp : k = 0 ∨ ∃ m, k = m + 1 ∧ (decide ((48 : Int) ≤ (rn s m : Int)) = false ∧ decide (48 ≤ rn s m) = false ∨ (decide ((48 : Int) ≤ (rn s m : Int)) = true ∧ decide (48 ≤ rn s m) = true ∧ decide ((rn s m : Int) ≤ 57) = false ∧ decide (rn s m ≤ 57) = false)) := by
              by_cases c : k = 0
              · exact .inl c
              · obtain ⟨m, rfl⟩ : ∃ m, k = m + 1 := ⟨k - 1, by omega⟩
                refine .inr ⟨m, rfl, ?_⟩
                rw [Nat.add_sub_cancel, rs_get s m (by omega)] at hB2
                have : ¬ (48 ≤ rn s m ∧ rn s m ≤ 57) := fun h => hB2 ⟨by omega, (dig_iff _).2 h⟩
                by_cases h1 : 48 ≤ rn s m
                · exact .inr ⟨decide_eq_true (by omega), decide_eq_true h1, decide_eq_false (by omega), decide_eq_false (by omega)⟩
                · exact .inl ⟨decide_eq_false (by omega), decide_eq_false h1⟩
            have HDT2 := HDT
            clear hB2 hB hD hd2 e1 e2 HX hll
            generalize hvl : p.V.length = vl at *
            replace hvl := boxed hvl
            generalize hge : p.L.length = ll at *
            replace hge := boxed hge
            generalize p.V.getD ll 0 = u0 at *
            have hlli : (ll : Int) < (vl : Int) := by omega
            rcases tp with rfl | ⟨m, rfl, tp⟩
            · rw [Nat.add_zero] at hcl
              generalize rn s 0 = r at *
              subst hd
              go_wp2_with fail
              go_roundw
              case rel => exact ⟨0 + 1, ⟨p.L, p.V.set ll d, p.m⟩, _, _, by omega, rfl, by go_num, HW2, HT2⟩
              case measure => simp [intOf]; omega
            · obtain ⟨b', off', e1, hcl1⟩ := HDT2.out m (by omega)
              rw [e0] at e1
              injection e1 with e1
              injection e1 with e1 e2
              subst e1; subst e2
              have hcp := hcl1 wr HT.out.bel
              have hmi : (m : Int) < (N : Int) := by omega
              clear hcl0 hcl1 HDT2
              generalize rn s (m + 1) = r at *
              generalize rn s m = r' at *
              subst hd
              rcases tp with ⟨t3, t3'⟩ | ⟨t3, t3', t4, t4'⟩
              all_goals
                go_wp2_with fail
                go_roundw
                case rel => exact ⟨m + 1 + 1, ⟨p.L, p.V.set ll d, p.m⟩, _, _, by omega, rfl, by go_num, HW2, HT2⟩
                case measure => simp [intOf]; omega
        | false =>
          have hd2 : ¬ (48 ≤ rn s k ∧ rn s k ≤ 57) := fun h => by rw [(dig_iff _).2 h] at hD; cases hD
          have tp : (decide ((48 : Int) ≤ (rn s k : Int)) = false ∧ decide (48 ≤ rn s k) = false) ∨ (decide ((48 : Int) ≤ (rn s k : Int)) = true ∧ decide (48 ≤ rn s k) = true ∧ decide ((rn s k : Int) ≤ 57) = false ∧ decide (rn s k ≤ 57) = false) := by
            by_cases h1 : 48 ≤ rn s k
            · exact .inr ⟨decide_eq_true (by omega), decide_eq_true h1, decide_eq_false (by omega), decide_eq_false (by omega)⟩
            · exact .inl ⟨decide_eq_false (by omega), decide_eq_false h1⟩
          by_cases h46 : rn s k = 46
          · have t1 : ((rn s k : Int) == 46) = true := by rw [beq_iff_eq]; omega
            have t1' : (rn s k == 46) = true := by rw [beq_iff_eq]; omega
            have t3 : decide ((48 : Int) ≤ (rn s k : Int)) = false := decide_eq_false (by omega)
            have t3' : decide (48 ≤ rn s k) = false := decide_eq_false (by omega)
            clear tp
            by_cases hedge : k = 0 ∨ k + 1 = nR s
            · obtain ⟨e1, e2⟩ := HX.out.2.2.1 h46 hedge
              have HW2 := boxed e1
              have t2 : (((k : Int) != 0) = false ∧ (k != 0) = false) ∨ (((k : Int) != 0) = true ∧ (k != 0) = true ∧ ((k : Int) != (N : Int) - 1) = false) := by
                by_cases c : k = 0
                · exact .inl ⟨by simp; omega, by simp [c]⟩
                · refine .inr ⟨by simp; omega, by simp [c], ?_⟩
                  have := HN.out
                  simp; omega
              clear HX hedge hD hd2 e1 e2 h46 hll
              generalize rn s k = r at *
              rcases t2 with ⟨t2, t2'⟩ | ⟨t2, t2', t5⟩
              all_goals
                have HOL := boxed HT.out.oL
                have hszA := HT.out.size
                obtain ⟨⟨c0, c1⟩, c2, c3⟩ := HT.out.cells
                obtain ⟨ll, hll⟩ : ∃ ll, p.L.length = ll := ⟨_, rfl⟩
                have HLL := boxed hll
                have hllb : ll ≤ 256 := by omega
                rw [hll] at HOL
                clear hll
                go_wp2_with (at_builtin; refine wpList_append_apart rfl _ _ 30 rfl w1.heap.size 3 i2 (.int .i64 0) 1 8 Tryd.underlying30 hi2 hz0 hz1 hz2 rfl (by decide) _ _ _ rfl (HOL.out.alloc _) ⟨wr.heap.size, 0, none⟩ 1 1 [.int .i64 (r : Int)] rfl rfl (one_new wr _ _) ?c2 ?c3 ?c4 ?c5 (by omega) ?_)
                case c2 => intro u hu; simp at hu; subst hu; rfl
                case c3 => unfold maxLen; omega
                case c4 => omega
                case c5 => simp; omega
                intro v5 w5 hown5 hgrow5 hwh5
                obtain ⟨a5, c5, e5⟩ := own_shape hown5
                subst e5
                have HT5 : Box (Two 68 w1 pb (.slice a5 (ll + 1) c5) vV (p.L ++ [r]) p.V (w5.setCell ⟨pb, 0, none⟩ (.slice a5 (ll + 1) c5))) := boxed (HT.out.appL (by decide) (by rw [HLL.out]; exact hown5) hgrow5 hwh5)
                have hb0 : w5.heap[pb]? = some (.cells #[vL, vV] 68 (0, 0)) := by
                  rw [hgrow5.block pb (by simp; exact Nat.lt_succ_of_lt (heap_lt HT.out.box)) (fun c => own_ne HOL.out HT.out.box (by decide) c.symm), Below.heap_alloc _ _ _ (heap_lt HT.out.box)]
                  exact HT.out.box
                obtain ⟨⟨d0, d1⟩, d2, d3⟩ := cells2 hb0
                clear hown5 hgrow5 hwh5 c0 c1 c2 c3 hszA hllb HOL
                go_upto_region 21 with fail
                obtain ⟨W5, hW5⟩ : ∃ W5, w5.setCell ⟨pb, 0, none⟩ (.slice a5 (ll + 1) c5) = W5 := ⟨_, rfl⟩
                rw [hW5] at HT5 ⊢
                clear hW5 d0 d1 d2 d3 hb0
                have HOV := boxed HT5.out.oV
                have hszA := HT5.out.size
                obtain ⟨⟨c0, c1⟩, c2, c3⟩ := HT5.out.cells
                obtain ⟨vl, hvl⟩ : ∃ vl, p.V.length = vl := ⟨_, rfl⟩
                have HVL := boxed hvl
                have hvlb : vl ≤ 257 := by omega
                rw [hvl] at HOV
                clear hvl
                go_wp2_with (at_builtin; refine wpList_append_apart rfl _ _ 30 rfl w1.heap.size 3 i2 (.int .i64 0) 1 8 Tryd.underlying30 hi2 hz0 hz1 hz2 rfl (by decide) _ _ _ rfl (HOV.out.alloc _) ⟨W5.heap.size, 0, none⟩ 1 1 [.int .i64 0] rfl rfl (one_new W5 _ _) ?c2 ?c3 ?c4 ?c5 (by omega) ?_)
                case c2 => intro u hu; simp at hu; subst hu; rfl
                case c3 => unfold maxLen; omega
                case c4 => omega
                case c5 => simp; omega
                intro v6 w6 hown6 hgrow6 hwh6
                obtain ⟨a6, c6, e6⟩ := own_shape hown6
                subst e6
                have HT6 : Box (Two 68 w1 pb (.slice a5 (ll + 1) c5) (.slice a6 (vl + 1) c6) (p.L ++ [r]) (p.V ++ [0]) (w6.setCell ⟨pb, 1, none⟩ (.slice a6 (vl + 1) c6))) := boxed (HT5.out.appV (x := 0) (by decide) (by rw [HVL.out]; exact hown6) hgrow6 hwh6)
                have hb0 : w6.heap[pb]? = some (.cells #[.slice a5 (ll + 1) c5, vV] 68 (0, 0)) := by
                  rw [hgrow6.block pb (by simp; exact Nat.lt_succ_of_lt (heap_lt HT5.out.box)) (fun c => own_ne HOV.out HT5.out.box (by decide) c.symm), Below.heap_alloc _ _ _ (heap_lt HT5.out.box)]
                  exact HT5.out.box
                obtain ⟨⟨d0, d1⟩, d2, d3⟩ := cells2 hb0
                clear hown6 hgrow6 hwh6 c0 c1 c2 c3 hszA hvlb HOV hb0
                go_wp2_with fail
                go_roundw
                case rel => exact ⟨k + 1, ⟨p.L ++ [r], p.V ++ [0], p.m⟩, _, _, by omega, rfl, by go_num, HW2, HT6⟩
                case measure => simp [intOf]; omega
            · have HNO := boxed (pat_stop (by omega) (HX.out.2.2.2.1 h46 hedge))
              have t2 : ((k : Int) != 0) = true := by simp; omega
              have t2' : (k != 0) = true := by simp; omega
              have t5 : ((k : Int) != (N : Int) - 1) = true := by have := HN.out; simp; omega
              clear HX hedge hD hd2 h46 hll
              generalize rn s k = r at *
              obtain ⟨aL, cL, eL⟩ := own_shape HT.out.oL
              obtain ⟨aV, cV, eV⟩ := own_shape HT.out.oV
              subst eL
              subst eV
              generalize hgL : p.L.length = nL at *
              replace hgL := boxed hgL
              generalize hgV : p.V.length = nV at *
              replace hgV := boxed hgV
              have hres := (HT.out.bel.block _ HRL.out).trans HRS.out
              obtain ⟨⟨r0, r1⟩, r2, r3⟩ := cells2 hres
              have HPH := boxed (put2_heap hres (.slice aL nL cL) (.slice aV nV cV))
              have HPB : Box (Below w.heap.size w (put2 wr rb (.slice aL nL cL) (.slice aV nV cV))) := boxed ((HB1.out.trans (HT.out.bel.mono HB1.out.size)).grown (put2_grown _ _ _ _) (Nat.le_trans HB1.out.size HT.out.size) (fun k hk => by injection hk with hk; rw [← hk]; exact HRB.out))
              obtain ⟨⟨c0, c1⟩, c2, c3⟩ := HT.out.cells
              clear hres
              go_wp2_with fail
              refine bodyPost_ret (v := .tuple #[.agg #[.slice aL nL cL, .slice aV nV cV], .bool false]) ?_ ?_ ?_
              · exact results_row_tmp Tryd.results26 _ _ rb 68 _ (0, 0) _ rfl HPH.out Tryd.underlying68 rfl (by kernel_rfl)
              · rfl
              · exact ⟨rr_no HNO.out _ _ _, HPB.out⟩
          · have t1 : ((rn s k : Int) == 46) = false := by rw [beq_eq_false_iff_ne]; omega
            have t1' : (rn s k == 46) = false := by rw [beq_eq_false_iff_ne]; omega
            have hlow := fun W => reflower_any (rn s k) hrl W
            have hlet := fun W => refletter_any (rn s k) hrl W
            by_cases hok : ltr (rn s k) = true ∧ lowr (rn s k) = rn s k
            · obtain ⟨e1, e2⟩ := HX.out.2.2.2.2.1 hD h46 hok.1 hok.2
              have HW2 := boxed e1
              rw [hok.1] at hlet
              rw [hok.2] at hlow
              clear HX hok hD hd2 e1 e2 h46 hll
              generalize rn s k = r at *
              rcases tp with ⟨t3, t3'⟩ | ⟨t3, t3', t4, t4'⟩
              all_goals
                go_wp2_with fail
                refine (hlet _).mono ?_
                rintro e w2 ⟨rfl, hbl⟩
                have HT2 := boxed (HT.out.below hbl)
                clear hbl hlet HT
                have HOL := boxed HT2.out.oL
                have hszA := HT2.out.size
                obtain ⟨⟨c0, c1⟩, c2, c3⟩ := HT2.out.cells
                obtain ⟨ll, hll⟩ : ∃ ll, p.L.length = ll := ⟨_, rfl⟩
                have HLL := boxed hll
                have hllb : ll ≤ 256 := by omega
                rw [hll] at HOL
                clear hll
                go_wp2_with (first | (go_at_call 21; refine (hlow _).mono ?_; rintro e w' ⟨rfl, hw'⟩; subst w') | (at_builtin; refine wpList_append_apart rfl _ _ 30 rfl w1.heap.size 3 i2 (.int .i64 0) 1 8 Tryd.underlying30 hi2 hz0 hz1 hz2 rfl (by decide) _ _ _ rfl (HOL.out.alloc _) ⟨w2.heap.size, 0, none⟩ 1 1 [.int .i64 (r : Int)] rfl rfl (one_new w2 _ _) ?c2 ?c3 ?c4 ?c5 (by omega) ?_))
                case c2 => intro u hu; simp at hu; subst hu; rfl
                case c3 => unfold maxLen; omega
                case c4 => omega
                case c5 => simp; omega
                intro v5 w5 hown5 hgrow5 hwh5
                obtain ⟨a5, c5, e5⟩ := own_shape hown5
                subst e5
                have HT5 : Box (Two 68 w1 pb (.slice a5 (ll + 1) c5) vV (p.L ++ [r]) p.V (w5.setCell ⟨pb, 0, none⟩ (.slice a5 (ll + 1) c5))) := boxed (HT2.out.appL (by decide) (by rw [HLL.out]; exact hown5) hgrow5 hwh5)
                have hb0 : w5.heap[pb]? = some (.cells #[vL, vV] 68 (0, 0)) := by
                  rw [hgrow5.block pb (by simp; exact Nat.lt_succ_of_lt (heap_lt HT2.out.box)) (fun c => own_ne HOL.out HT2.out.box (by decide) c.symm), Below.heap_alloc _ _ _ (heap_lt HT2.out.box)]
                  exact HT2.out.box
                obtain ⟨⟨d0, d1⟩, d2, d3⟩ := cells2 hb0
                clear hown5 hgrow5 hwh5 c0 c1 c2 c3 hszA hllb HOL
                go_upto_region 21 with fail
                obtain ⟨W5, hW5⟩ : ∃ W5, w5.setCell ⟨pb, 0, none⟩ (.slice a5 (ll + 1) c5) = W5 := ⟨_, rfl⟩
                rw [hW5] at HT5 ⊢
                clear hW5 d0 d1 d2 d3 hb0
                have HOV := boxed HT5.out.oV
                have hszA := HT5.out.size
                obtain ⟨⟨c0, c1⟩, c2, c3⟩ := HT5.out.cells
                obtain ⟨vl, hvl⟩ : ∃ vl, p.V.length = vl := ⟨_, rfl⟩
                have HVL := boxed hvl
                have hvlb : vl ≤ 257 := by omega
                rw [hvl] at HOV
                clear hvl
                go_wp2_with (at_builtin; refine wpList_append_apart rfl _ _ 30 rfl w1.heap.size 3 i2 (.int .i64 0) 1 8 Tryd.underlying30 hi2 hz0 hz1 hz2 rfl (by decide) _ _ _ rfl (HOV.out.alloc _) ⟨W5.heap.size, 0, none⟩ 1 1 [.int .i64 0] rfl rfl (one_new W5 _ _) ?c2 ?c3 ?c4 ?c5 (by omega) ?_)
                case c2 => intro u hu; simp at hu; subst hu; rfl
                case c3 => unfold maxLen; omega
                case c4 => omega
                case c5 => simp; omega
                intro v6 w6 hown6 hgrow6 hwh6
                obtain ⟨a6, c6, e6⟩ := own_shape hown6
                subst e6
                have HT6 : Box (Two 68 w1 pb (.slice a5 (ll + 1) c5) (.slice a6 (vl + 1) c6) (p.L ++ [r]) (p.V ++ [0]) (w6.setCell ⟨pb, 1, none⟩ (.slice a6 (vl + 1) c6))) := boxed (HT5.out.appV (x := 0) (by decide) (by rw [HVL.out]; exact hown6) hgrow6 hwh6)
                have hb0 : w6.heap[pb]? = some (.cells #[.slice a5 (ll + 1) c5, vV] 68 (0, 0)) := by
                  rw [hgrow6.block pb (by simp; exact Nat.lt_succ_of_lt (heap_lt HT5.out.box)) (fun c => own_ne HOV.out HT5.out.box (by decide) c.symm), Below.heap_alloc _ _ _ (heap_lt HT5.out.box)]
                  exact HT5.out.box
                obtain ⟨⟨d0, d1⟩, d2, d3⟩ := cells2 hb0
                clear hown6 hgrow6 hwh6 c0 c1 c2 c3 hszA hvlb HOV hb0
                go_wp2_with fail
                go_roundw
                case rel => exact ⟨k + 1, ⟨p.L ++ [r], p.V ++ [0], true⟩, _, _, by omega, rfl, by go_num, HW2, HT6⟩
                case measure => simp [intOf]; omega
            · have HNO := boxed (pat_stop (by omega) (HX.out.2.2.2.2.2 hD h46 hok))
              have t2 : ltr (rn s k) = false ∨ (ltr (rn s k) = true ∧ ((lowr (rn s k) : Int) != (rn s k : Int)) = true ∧ (lowr (rn s k) != rn s k) = true) := by
                cases c : ltr (rn s k) with
                | false => exact .inl rfl
                | true =>
                  have : lowr (rn s k) ≠ rn s k := fun x => hok ⟨c, x⟩
                  exact .inr ⟨rfl, by simp; omega, by simp [this]⟩
              clear HX hok hD hd2 h46
              generalize rn s k = r at *
              generalize lowr r = lr at *
              rcases tp with ⟨t3, t3'⟩ | ⟨t3, t3', t4, t4'⟩
              all_goals
                rcases t2 with t2 | ⟨t2, t5, t5'⟩
                all_goals
                  rw [t2] at hlet
                  clear t2
                  go_wp2_with fail
                  refine (hlet _).mono ?_
                  rintro e w2 ⟨rfl, hbl⟩
                  have HT2 := boxed (HT.out.below hbl)
                  clear hbl hlet HT
                  obtain ⟨aL, cL, eL⟩ := own_shape HT2.out.oL
                  obtain ⟨aV, cV, eV⟩ := own_shape HT2.out.oV
                  subst eL
                  subst eV
                  generalize hgL : p.L.length = nL at *
                  replace hgL := boxed hgL
                  generalize hgV : p.V.length = nV at *
                  replace hgV := boxed hgV
                  have hres := (HT2.out.bel.block _ HRL.out).trans HRS.out
                  obtain ⟨⟨r0, r1⟩, r2, r3⟩ := cells2 hres
                  have HPH := boxed (put2_heap hres (.slice aL nL cL) (.slice aV nV cV))
                  have HPB : Box (Below w.heap.size w (put2 w2 rb (.slice aL nL cL) (.slice aV nV cV))) := boxed ((HB1.out.trans (HT2.out.bel.mono HB1.out.size)).grown (put2_grown _ _ _ _) (Nat.le_trans HB1.out.size HT2.out.size) (fun k hk => by injection hk with hk; rw [← hk]; exact HRB.out))
                  obtain ⟨⟨c0, c1⟩, c2, c3⟩ := HT2.out.cells
                  clear hres
                  go_wp2_with (go_at_call 21; refine (hlow _).mono ?_; rintro e w' ⟨rfl, hw'⟩; subst w')
                  refine bodyPost_ret (v := .tuple #[.agg #[.slice aL nL cL, .slice aV nV cV], .bool false]) ?_ ?_ ?_
                  · exact results_row_tmp Tryd.results26 _ _ rb 68 _ (0, 0) _ rfl HPH.out Tryd.underlying68 rfl (by kernel_rfl)
                  · rfl
                  · exact ⟨rr_no HNO.out _ _ _, HPB.out⟩
      · have e : k = N := by omega
        subst e
        have HO := boxed ((HE.out p) (by rw [HN.out]; exact HW.out))
        cases hm : p.m with
        | true =>
          have HO2 : Box (patT s = some (p.L, p.V)) := boxed (by rw [HO.out, if_pos hm])
          clear HO hm
          obtain ⟨aL, cL, eL⟩ := own_shape HT.out.oL
          obtain ⟨aV, cV, eV⟩ := own_shape HT.out.oV
          subst eL
          subst eV
          generalize hgL : p.L.length = nL at *
          replace hgL := boxed hgL
          generalize hgV : p.V.length = nV at *
          replace hgV := boxed hgV
          have hres := (HT.out.bel.block _ HRL.out).trans HRS.out
          obtain ⟨⟨r0, r1⟩, r2, r3⟩ := cells2 hres
          have HPH := boxed (put2_heap hres (.slice aL nL cL) (.slice aV nV cV))
          have HPB : Box (Below w.heap.size w (put2 wr rb (.slice aL nL cL) (.slice aV nV cV))) := boxed ((HB1.out.trans (HT.out.bel.mono HB1.out.size)).grown (put2_grown _ _ _ _) (Nat.le_trans HB1.out.size HT.out.size) (fun k hk => by injection hk with hk; rw [← hk]; exact HRB.out))
          obtain ⟨⟨c0, c1⟩, c2, c3⟩ := HT.out.cells
          have HY := boxed (rr_yes HT.out (by decide) hres HO2.out HB1.out.size)
          clear hres
          go_wp2_with fail
          refine bodyPost_ret (v := .tuple #[.agg #[.slice aL nL cL, .slice aV nV cV], .bool true]) ?_ ?_ ?_
          · exact results_row_tmp Tryd.results26 _ _ rb 68 _ (0, 0) _ rfl HPH.out Tryd.underlying68 rfl (by kernel_rfl)
          · rfl
          · exact ⟨HY.out, HPB.out⟩
        | false =>
          have HO2 : Box (patT s = none) := boxed (by rw [HO.out, if_neg (by rw [hm]; simp)])
          clear HO hm
          obtain ⟨aL, cL, eL⟩ := own_shape HT.out.oL
          obtain ⟨aV, cV, eV⟩ := own_shape HT.out.oV
          subst eL
          subst eV
          generalize hgL : p.L.length = nL at *
          replace hgL := boxed hgL
          generalize hgV : p.V.length = nV at *
          replace hgV := boxed hgV
          have hres := (HT.out.bel.block _ HRL.out).trans HRS.out
          obtain ⟨⟨r0, r1⟩, r2, r3⟩ := cells2 hres
          have HPH := boxed (put2_heap hres (.slice aL nL cL) (.slice aV nV cV))
          have HPB : Box (Below w.heap.size w (put2 wr rb (.slice aL nL cL) (.slice aV nV cV))) := boxed ((HB1.out.trans (HT.out.bel.mono HB1.out.size)).grown (put2_grown _ _ _ _) (Nat.le_trans HB1.out.size HT.out.size) (fun k hk => by injection hk with hk; rw [← hk]; exact HRB.out))
          obtain ⟨⟨c0, c1⟩, c2, c3⟩ := HT.out.cells
          clear hres
          go_wp2_with fail
          refine bodyPost_ret (v := .tuple #[.agg #[.slice aL nL cL, .slice aV nV cV], .bool false]) ?_ ?_ ?_
          · exact results_row_tmp Tryd.results26 _ _ rb 68 _ (0, 0) _ rfl HPH.out Tryd.underlying68 rfl (by kernel_rfl)
          · rfl
          · exact ⟨rr_no HO2.out _ _ _, HPB.out⟩
end Go.Proofs.YtflhefgmgdgffaaDoor
