/-
  Regions done to pages the document's way (regletref14.Patch).
-/
import Derived.Test.YtoodhpgaikmalaaAk
import Derived.Deep.RegionLaw
import Derived.Deep.RegionHeld3
import Derived.Deep.DeepCutAuto
namespace Go.Proofs.Ytoodhpgaikmalaa
open Go.RowKit
set_option linter.unusedSimpArgs false
set_option linter.unusedVariables false

set_option maxRecDepth 100000 in
set_option maxHeartbeats 32000000 in
theorem lawpatch_any (S S' : Nat → Prop) (ao bo : Option Addr) (ps : List (List Key)) (rs : List Rg) (ca cb : Nat) (w : World) (h1 : PsAt S w ao ps) (h2 : RgAt S' w bo rs) (hn : ps.length ≤ 200) (hrn : rs.length ≤ 40) (hm : ∀ (i : Nat) (ks : List Key), ps[i]? = some ks → ks.length ≤ 100) (hrm : ∀ r ∈ rs, r.ls.length ≤ 40) (hsa : Sl ao ca ps.length) (hsb : Sl bo cb rs.length) :
    Calls Try.prog 17 #[.slice ao ps.length ca, .slice bo rs.length cb] w fun e w' => Below w.heap.size w w' ∧
      ((rsf ps ps (-1) (-1) rs = none ∧ e = .returned (.tuple #[.slice none 0 0, .bool false])) ∨
       (∃ Q, rsf ps ps (-1) (-1) rs = some Q ∧ ∃ co cc, e = .returned (.tuple #[.slice co Q.length cc, .bool true]) ∧ PsAt (fun _ => True) w' co Q ∧ Sl co cc Q.length)) := by
  obtain ⟨B, hB⟩ : ∃ B, w.heap.size = B := ⟨_, rfl⟩
  have HBB := boxed hB
  have HP0 : Box (PsAt (fun b => b < B) w ao ps) := boxed (by rw [← hB]; exact psat_lt h1)
  have HR0 : Box (RgAt (fun b => b < B) w bo rs) := boxed (by rw [← hB]; exact rgat_lt h2)
  have HZ := boxed (Pw.zero ps rs)
  have HRs := boxed (fun i (hi : i < rs.length) => (⟨_, List.getElem?_eq_getElem hi⟩ : ∃ r, rs[i]? = some r))
  have HPs := boxed (fun i (hi : i < ps.length) => (⟨_, List.getElem?_eq_getElem hi⟩ : ∃ x, ps[i]? = some x))
  have HM := boxed hm
  have HRM := boxed (fun i r (e : rs[i]? = some r) => hrm r (List.mem_of_getElem? e))
  have HNo := boxed (fun k Q last keep (h : Pw ps rs k Q last keep) r hr hn => h.no r hr hn)
  have HSa := boxed hsa
  have hcb := hsb.1
  obtain ⟨V, hV⟩ : ∃ V, rsf ps ps (-1) (-1) rs = V := ⟨_, rfl⟩
  have HDn := boxed (fun Q last keep (h : Pw ps rs rs.length Q last keep) => h.done)
  rw [hV] at HNo HDn ⊢
  obtain ⟨n, hkn⟩ : ∃ n, ps.length = n := ⟨_, rfl⟩
  obtain ⟨m, hkm⟩ : ∃ m, rs.length = m := ⟨_, rfl⟩
  have HPL := boxed hkn
  rw [hkn] at hn HPs HDn ⊢
  rw [hkm] at hrn hcb HRs HDn ⊢
  clear h1 h2 hm hrm hsa hsb hV hkn hkm
  rw [hB]
  have hBl : B ≤ (w.alloc (.cells #[] 34)).heap.size := by simp; omega
  have HP1 : Box (PsAt (fun b => b < B) (w.alloc (.cells #[] 34)) ao ps) := boxed (HP0.out.below (laid1 w (.cells #[] 34)).2.1)
  have HO1 : Box ((w.alloc (.cells #[] 34)).ownsRow B 34 1 (.slice (some ⟨w.heap.size, 0, none⟩) 0 0) 0 []) := boxed (by rw [← hB]; exact World.ownsRow_made w #[] 0 (Nat.le_refl _) (Nat.zero_le _) rfl)
  have HB1 : Box (Below B w (w.alloc (.cells #[] 34))) := boxed (by rw [← hB]; exact (laid1 w (.cells #[] 34)).2.1)
  clear hB
  go_enter Try.func17, Try.ntmps17
  go_wp2_with (at_builtin; refine wpList_pagesQ rfl _ _ rfl B _ 0 ?p0 HO1.out ao ca ps ?p1 HP1.out HSa.out ?p2 hBl ?_)
  case p0 => rfl
  case p1 => rw [HPL.out] <;> rfl
  case p2 => rw [HPL.out]; omega
  intro co0 cc0 w2 hq2 hb2
  have HQ2 := boxed hq2
  have HB2 := boxed (HB1.out.trans hb2)
  clear hq2 hb2 HO1 HP1 HB1 hBl
  rw [HPL.out]
  go_wp2_with fail
  go_loopw [6, 7, 8, 9] (fun ov lv kv iv wr => ∃ (k : Nat) (Q : List (List Key)) (co : Option Addr) (cc : Nat) (last keep : Int), k ≤ m ∧ iv = .int .i64 (k : Nat) ∧ ov = .slice co Q.length cc ∧ lv = .int .i64 last ∧ kv = .int .i64 keep ∧ Box (PgQ B wr co cc Q) ∧ Box (Pw ps rs k Q last keep) ∧ Box (Below B w wr)) (fun _ _ _ iv _ => m - (intOf iv).toNat)
  case atStart => exact ⟨0, ps, co0, cc0, -1, -1, Nat.zero_le _, rfl, by rw [HPL.out], rfl, rfl, HQ2, HZ, HB2⟩
  case round =>
    obtain ⟨k, Q, co, cc, last, keep, hk, rfl, rfl, rfl, rfl, HQ, HWy, HB⟩ := hrel
    have hl0 := HWy.out.l0
    have hl1 := HWy.out.l1
    have hk0 := HWy.out.k0
    have hk1 := HWy.out.k1
    have hq0 := HWy.out.lo
    have hq1 := HWy.out.hi
    rw [HPL.out] at hk1 hq0 hq1
    by_cases hlt : k < m
    · obtain ⟨r, er⟩ := HRs.out k hlt
      have hbw : Below w.heap.size w wr := by rw [HBB.out]; exact HB.out
      obtain ⟨hok, b', off', la, lc, rfl, -, ⟨r0, r1, r2, r3, r4⟩, hsl4, hls4⟩ := (HR0.out.below hbw) k r er
      have t0 : decide ((k : Int) < (m : Int)) = true := decide_eq_true (by omega)
      have hlt2 : (k : Int) < (m : Int) := by omega
      obtain ⟨wc, hwc, hBc, hwz, hC⟩ := box_region wr r la lc
      obtain ⟨c0, c1, c2, c3, c4⟩ := hC wc (Below.refl _ _)
      have HWC := boxed hwc
      have HCq := boxed hC
      have hBw : B ≤ wr.heap.size := by have := HB.out.size; have := HBB.out; omega
      have HBc := boxed (below_step HB.out (by rw [HBB.out]; exact Nat.le_refl _) hBc)
      have HQc := boxed (HQ.out.keep hBc)
      have HLc := boxed (hls4.below hBc)
      have HSL := boxed hsl4
      have HER := boxed er
      have hrl := HRM.out k r er
      clear er hwc hBc hC hbw hsl4 hls4
      obtain ⟨pg, kd, fr, od, ls⟩ := r
      simp only at r0 r1 r2 r3 r4 c0 c1 c2 c3 c4 hrl HWC HCq HLc HSL HER
      by_cases a1 : pg ≤ last
      · have hno := HNo.out k Q last keep HWy.out _ HER.out (rst_last ps Q last keep _ a1)
        have HNN := boxed hno
        have t1 : decide (pg ≤ last) = true := decide_eq_true a1
        clear hno a1
        go_upto_region 7 with (fail)
        rw [HWC.out]
        go_wp2_with fail
        go_ret2
        exact ⟨HBc.out, Or.inl ⟨HNN.out, rfl⟩⟩
      have t1 : decide (pg ≤ last) = false := decide_eq_false a1
      by_cases k3 : kd = 3
      · subst k3
        as_aux_lemma =>
          have hbwc : Below w.heap.size w wc := by rw [HBB.out]; exact HBc.out
          obtain ⟨ql, hql⟩ : ∃ ql, Q.length = ql := ⟨_, rfl⟩
          have HQL := boxed hql
          have HRG := boxed (fun hc => HNo.out k Q last keep HWy.out _ HER.out (rst_gon ps Q last keep _ rfl hc))
          have hw1 : wrap64 (last + 1) = last + 1 := by unfold wrap64; omega
          rw [hql] at hl1 hq0 hq1 ⊢
          clear hql HQ
          go_upto_region 7 with (fail)
          rw [HWC.out]
          obtain ⟨wy, rfl⟩ : ∃ wy, wy = wc := ⟨_, rfl⟩
          go_cut [37] (fun s37 wx => s37 = .bool false ∧ wy = wx)
          case first =>
            by_cases a2 : 0 ≤ keep
            · have t2 : decide (0 ≤ keep) = true := decide_eq_true a2
              clear a1 a2
              go_wp2_with fail
              go_meet
              case rel => exact ⟨rfl, rfl⟩
            · have t2 : decide (0 ≤ keep) = false := decide_eq_false a2
              have hun : undef = Value.tuple #[] := rfl
              clear a1 a2
              go_wp2_with fail
              go_meet
              case rel => exact ⟨rfl, rfl⟩
          case rest =>
            obtain ⟨rfl, rfl⟩ := hcut
            by_cases g1 : pg < (n : Int)
            rotate_left
            · have HNN := boxed (HRG.out (fun h => g1 (by rw [← HPL.out]; exact h.1)))
              have t6 : decide ((n : Int) ≤ pg) = true := decide_eq_true (by omega)
              have hun : undef = Value.tuple #[] := rfl
              clear HWy a1 g1 hbwc
              go_wp2_with fail
              clear c0 c1 c2 c3 c4
              obtain ⟨c0, c1, c2, c3, c4⟩ := HCq.out _ (Below.refl _ wy)
              go_quiet (fail)
              have HF := boxed (HBc.out.trans (bel_drewN _ wy nq))
              go_wp2_with fail
              go_ret2
              exact ⟨HF.out, Or.inl ⟨HNN.out, rfl⟩⟩
            obtain ⟨p, rfl⟩ : ∃ p : Nat, pg = p := ⟨pg.toNat, by omega⟩
            have hpn : p < n := by omega
            have hpn2 : (p : Int) < (n : Int) := by omega
            obtain ⟨x, ex⟩ := HPs.out p hpn
            obtain ⟨b, off, xa, xc, rfl, hbB, d1, hxs, hxl⟩ := (HP0.out.below hbwc) p x ex
            have hxm := HM.out p x ex
            have HEX := boxed ex
            have HXS := boxed hxs
            have HXL := boxed hxl
            have HCd := boxed (fun W (hb : Below wy.heap.size wy W) => And.intro (HCq.out W hb) (hold hb d1))
            have t6 : decide ((n : Int) ≤ (p : Int)) = false := decide_eq_false (by omega)
            have t6n : decide (n ≤ p) = false := decide_eq_false (by omega)
            clear ex hxs hxl hbwc g1
            have HGD : Box ((ps.getD ((p : Nat) : Int).toNat []).length = x.length) := boxed (by rw [Int.toNat_natCast, List.getD_eq_getElem?_getD, HEX.out]; rfl)
            by_cases b1 : fr = 0
            rotate_left
            · have HNN := boxed (HRG.out (fun h => b1 h.2.1))
              have t7 : (fr != 0) = true := by rw [bne_iff_ne]; exact b1
              generalize x.length = X at *
              have hun : undef = Value.tuple #[] := rfl
              clear HWy a1 b1
              go_wp2_with fail
              clear c0 c1 c2 c3 c4
              obtain ⟨⟨c0, c1, c2, c3, c4⟩, d2⟩ := HCd.out _ (Below.refl _ wy)
              go_quiet (fail)
              have HF := boxed (HBc.out.trans (bel_drewN _ wy nq))
              go_wp2_with fail
              go_ret2
              exact ⟨HF.out, Or.inl ⟨HNN.out, rfl⟩⟩
            have t7 : (fr != 0) = false := by rw [bne_eq_false_iff_eq]; exact b1
            by_cases b2 : od = (x.length : Int)
            rotate_left
            · have HNN := boxed (HRG.out (fun h => b2 (by rw [← HGD.out]; exact h.2.2.1)))
              have t8 : (od != (x.length : Int)) = true := by rw [bne_iff_ne]; exact b2
              generalize x.length = X at *
              have hun : undef = Value.tuple #[] := rfl
              clear HWy a1 b1 b2
              go_wp2_with fail
              clear c0 c1 c2 c3 c4
              obtain ⟨⟨c0, c1, c2, c3, c4⟩, d2⟩ := HCd.out _ (Below.refl _ wy)
              go_quiet (fail)
              have HF := boxed (HBc.out.trans (bel_drewN _ wy nq))
              go_wp2_with fail
              go_ret2
              exact ⟨HF.out, Or.inl ⟨HNN.out, rfl⟩⟩
            have t8 : (od != (x.length : Int)) = false := by rw [bne_eq_false_iff_eq]; exact b2
            by_cases b3 : ls.length = 0
            rotate_left
            · have HNN := boxed (HRG.out (fun h => b3 h.2.2.2.1))
              have t9 : decide ((0 : Int) < (ls.length : Int)) = true := decide_eq_true (by omega)
              have t9n : decide (0 < ls.length) = true := decide_eq_true (by omega)
              generalize x.length = X at *
              generalize ls.length = L at *
              have hun : undef = Value.tuple #[] := rfl
              clear HWy a1 b1 b2 b3
              go_wp2_with fail
              clear c0 c1 c2 c3 c4
              obtain ⟨⟨c0, c1, c2, c3, c4⟩, d2⟩ := HCd.out _ (Below.refl _ wy)
              go_quiet (fail)
              have HF := boxed (HBc.out.trans (bel_drewN _ wy nq))
              go_wp2_with fail
              go_ret2
              exact ⟨HF.out, Or.inl ⟨HNN.out, rfl⟩⟩
            have t9 : decide ((0 : Int) < (ls.length : Int)) = false := decide_eq_false (by omega)
            have t9n : decide (0 < ls.length) = false := decide_eq_false (by omega)
            have hls : ls = [] := List.eq_nil_of_length_eq_zero b3
            have HER3 : Box (rs[k]? = some ⟨(p : Nat), 3, 0, (x.length : Nat), []⟩) := boxed (by rw [HER.out, b1, b2, hls])
            by_cases a2 : 0 ≤ keep
            · have t2 : decide (0 ≤ keep) = true := decide_eq_true a2
              have t11 : decide (keep < 0) = false := decide_eq_false (by omega)
              by_cases b4 : (p : Int) = last + 1
              rotate_left
              · have HNN := boxed (HRG.out (fun h => h.2.2.2.2 ⟨a2, b4⟩))
                have t10 : ((p : Int) != last + 1) = true := by rw [bne_iff_ne]; exact b4
                generalize x.length = X at *
                generalize ls.length = L at *
                have hun : undef = Value.tuple #[] := rfl
                clear HWy a1 a2 b1 b2 b3 b4 hls HER3
                go_wp2_with fail
                clear c0 c1 c2 c3 c4
                obtain ⟨⟨c0, c1, c2, c3, c4⟩, d2⟩ := HCd.out _ (Below.refl _ wy)
                go_quiet (fail)
                have HF := boxed (HBc.out.trans (bel_drewN _ wy nq))
                go_wp2_with fail
                go_ret2
                exact ⟨HF.out, Or.inl ⟨HNN.out, rfl⟩⟩
              have t10 : ((p : Int) != last + 1) = false := by rw [bne_eq_false_iff_eq]; exact b4
              have HWn := boxed (HWy.out.gone p x HER3.out (by omega) HEX.out (fun h => h.2 b4))
              rw [if_neg (by omega)] at HWn
              have hun : undef = Value.tuple #[] := rfl
              generalize x.length = X at *
              generalize ls.length = L at *
              clear HWy a1 b1 b2 b3 hls HRG HNo a2 b4 HER3
              go_wp2_with fail
              clear c0 c1 c2 c3 c4
              obtain ⟨⟨c0, c1, c2, c3, c4⟩, d2⟩ := HCd.out _ (Below.refl _ wy)
              go_quiet (fail)
              have HQn := boxed (HQc.out.keep (bel_drewN _ wy nq))
              have HF := boxed (HBc.out.trans (bel_drewN _ wy nq))
              clear hun
              go_wp2_with fail
              go_roundw
              case rel => exact ⟨k + 1, Q, co, cc, (p : Int), keep, by omega, by go_num, by rw [HQL.out], by first | rfl | go_num, by first | rfl | go_num, HQn, HWn, HF⟩
              case measure => simp [intOf]; omega
            · have t2 : decide (0 ≤ keep) = false := decide_eq_false a2
              have t11 : decide (keep < 0) = true := decide_eq_true (by omega)
              have HWn := boxed (HWy.out.gone p x HER3.out (by omega) HEX.out (fun h => a2 h.1))
              rw [if_pos (by omega)] at HWn
              have hun : undef = Value.tuple #[] := rfl
              generalize x.length = X at *
              generalize ls.length = L at *
              clear HWy a1 b1 b2 b3 hls HRG HNo a2 HER3
              go_wp2_with fail
              clear c0 c1 c2 c3 c4
              obtain ⟨⟨c0, c1, c2, c3, c4⟩, d2⟩ := HCd.out _ (Below.refl _ wy)
              go_quiet (fail)
              have HQn := boxed (HQc.out.keep (bel_drewN _ wy nq))
              have HF := boxed (HBc.out.trans (bel_drewN _ wy nq))
              clear hun
              go_wp2_with fail
              go_roundw
              case rel => exact ⟨k + 1, Q, co, cc, (p : Int), (p : Int), by omega, by go_num, by rw [HQL.out], by first | rfl | go_num, by first | rfl | go_num, HQn, HWn, HF⟩
              case measure => simp [intOf]; omega
      have t3 : (kd != 3) = true := by rw [bne_iff_ne]; exact k3
      have t3e : (kd == 3) = false := by rw [beq_eq_false_iff_ne]; exact k3
      by_cases a2 : 0 ≤ keep
      · have HNN := boxed (HNo.out k Q last keep HWy.out _ HER.out (rst_keep ps Q last keep _ a2 k3))
        have t2 : decide (0 ≤ keep) = true := decide_eq_true a2
        clear a1 a2 k3 t3e
        go_upto_region 7 with (fail)
        rw [HWC.out]
        go_wp2_with fail
        go_ret2
        exact ⟨HBc.out, Or.inl ⟨HNN.out, rfl⟩⟩
      have t2 : decide (0 ≤ keep) = false := decide_eq_false a2
      by_cases k1 : kd = 1
      · subst k1
        as_aux_lemma =>
          have hbwc : Below w.heap.size w wc := by rw [HBB.out]; exact HBc.out
          obtain ⟨ql, hql⟩ : ∃ ql, Q.length = ql := ⟨_, rfl⟩
          have HQL := boxed hql
          by_cases g1 : pg < (n : Int)
          rotate_left
          · have HNN := boxed (HNo.out k Q last keep HWy.out _ HER.out (rst_chg ps Q last keep _ rfl (chg_far ps pg fr od ls (by rw [HPL.out]; exact g1))))
            have t6 : decide ((n : Int) ≤ pg) = true := decide_eq_true (by omega)
            have hun : undef = Value.tuple #[] := rfl
            rw [hql] at hl1 hq0 hq1 ⊢
            clear hql HQ HWy a1 a2 k3 g1 hbwc
            go_upto_region 7 with (fail)
            rw [HWC.out]
            go_wp2_with fail
            clear c0 c1 c2 c3 c4
            obtain ⟨c0, c1, c2, c3, c4⟩ := HCq.out _ (Below.refl _ wc)
            go_quiet (fail)
            have HF := boxed (HBc.out.trans (bel_drewN _ wc nq))
            go_wp2_with fail
            go_ret2
            exact ⟨HF.out, Or.inl ⟨HNN.out, rfl⟩⟩
          obtain ⟨p, rfl⟩ : ∃ p : Nat, pg = p := ⟨pg.toNat, by omega⟩
          have hpn : p < n := by omega
          have hpn2 : (p : Int) < (n : Int) := by omega
          obtain ⟨x, ex⟩ := HPs.out p hpn
          obtain ⟨b, off, xa, xc, rfl, hbB, d1, hxs, hxl⟩ := (HP0.out.below hbwc) p x ex
          have hxm := HM.out p x ex
          have HEX := boxed ex
          have HXS := boxed hxs
          have HXL := boxed hxl
          have HCd := boxed (fun W (hb : Below wc.heap.size wc W) => And.intro (HCq.out W hb) (hold hb d1))
          have t6 : decide ((n : Int) ≤ (p : Int)) = false := decide_eq_false (by omega)
          have t6n : decide (n ≤ p) = false := decide_eq_false (by omega)
          clear ex hxs hxl hbwc g1
          by_cases b1 : fr < 0
          · have HNN := boxed (HNo.out k Q last keep HWy.out _ HER.out (rst_chg ps Q last keep _ rfl (by rw [chg_at ps p x _ _ ls HEX.out]; simp; omega)))
            have t7 : decide (fr < 0) = true := decide_eq_true b1
            generalize x.length = X at *
            have hun : undef = Value.tuple #[] := rfl
            rw [hql] at hl1 hq0 hq1 ⊢
            clear hql HQ HWy a1 a2 k3 b1
            go_upto_region 7 with (fail)
            rw [HWC.out]
            go_wp2_with fail
            clear c0 c1 c2 c3 c4
            obtain ⟨⟨c0, c1, c2, c3, c4⟩, d2⟩ := HCd.out _ (Below.refl _ wc)
            go_quiet (fail)
            have HF := boxed (HBc.out.trans (bel_drewN _ wc nq))
            go_wp2_with fail
            go_ret2
            exact ⟨HF.out, Or.inl ⟨HNN.out, rfl⟩⟩
          have t7 : decide (fr < 0) = false := decide_eq_false b1
          by_cases b2 : od < 0
          · have HNN := boxed (HNo.out k Q last keep HWy.out _ HER.out (rst_chg ps Q last keep _ rfl (by rw [chg_at ps p x _ _ ls HEX.out]; simp; omega)))
            have t8 : decide (od < 0) = true := decide_eq_true b2
            generalize x.length = X at *
            have hun : undef = Value.tuple #[] := rfl
            rw [hql] at hl1 hq0 hq1 ⊢
            clear hql HQ HWy a1 a2 k3 b1 b2
            go_upto_region 7 with (fail)
            rw [HWC.out]
            go_wp2_with fail
            clear c0 c1 c2 c3 c4
            obtain ⟨⟨c0, c1, c2, c3, c4⟩, d2⟩ := HCd.out _ (Below.refl _ wc)
            go_quiet (fail)
            have HF := boxed (HBc.out.trans (bel_drewN _ wc nq))
            go_wp2_with fail
            go_ret2
            exact ⟨HF.out, Or.inl ⟨HNN.out, rfl⟩⟩
          have t8 : decide (od < 0) = false := decide_eq_false b2
          obtain ⟨f, rfl⟩ : ∃ f : Nat, fr = f := ⟨fr.toNat, by omega⟩
          obtain ⟨d, rfl⟩ : ∃ d : Nat, od = d := ⟨od.toNat, by omega⟩
          by_cases b3 : (x.length : Int) < (f : Int)
          · have HNN := boxed (HNo.out k Q last keep HWy.out _ HER.out (rst_chg ps Q last keep _ rfl (by rw [chg_at ps p x _ _ ls HEX.out]; simp; omega)))
            have t9 : decide ((x.length : Int) < (f : Int)) = true := decide_eq_true b3
            have t9n : decide (x.length < f) = true := decide_eq_true (by omega)
            generalize x.length = X at *
            have hun : undef = Value.tuple #[] := rfl
            rw [hql] at hl1 hq0 hq1 ⊢
            clear hql HQ HWy a1 a2 k3 b1 b2 b3
            go_upto_region 7 with (fail)
            rw [HWC.out]
            go_wp2_with fail
            clear c0 c1 c2 c3 c4
            obtain ⟨⟨c0, c1, c2, c3, c4⟩, d2⟩ := HCd.out _ (Below.refl _ wc)
            go_quiet (fail)
            have HF := boxed (HBc.out.trans (bel_drewN _ wc nq))
            go_wp2_with fail
            go_ret2
            exact ⟨HF.out, Or.inl ⟨HNN.out, rfl⟩⟩
          have t9 : decide ((x.length : Int) < (f : Int)) = false := decide_eq_false b3
          have t9n : decide (x.length < f) = false := decide_eq_false (by omega)
          have hwx : wrap64 ((x.length : Int) - (f : Int)) = (x.length : Int) - (f : Int) := by unfold wrap64; omega
          by_cases b4 : (x.length : Int) - (f : Int) < (d : Int)
          · have HNN := boxed (HNo.out k Q last keep HWy.out _ HER.out (rst_chg ps Q last keep _ rfl (by rw [chg_at ps p x _ _ ls HEX.out]; simp; omega)))
            have t10 : decide ((x.length : Int) - (f : Int) < (d : Int)) = true := decide_eq_true b4
            generalize x.length = X at *
            have hun : undef = Value.tuple #[] := rfl
            rw [hql] at hl1 hq0 hq1 ⊢
            clear hql HQ HWy a1 a2 k3 b1 b2 b3 b4
            go_upto_region 7 with (fail)
            rw [HWC.out]
            go_wp2_with fail
            clear c0 c1 c2 c3 c4
            obtain ⟨⟨c0, c1, c2, c3, c4⟩, d2⟩ := HCd.out _ (Below.refl _ wc)
            go_quiet (fail)
            have HF := boxed (HBc.out.trans (bel_drewN _ wc nq))
            go_wp2_with fail
            go_ret2
            exact ⟨HF.out, Or.inl ⟨HNN.out, rfl⟩⟩
          have t10 : decide ((x.length : Int) - (f : Int) < (d : Int)) = false := decide_eq_false b4
          obtain ⟨fd, hfd⟩ : ∃ fd, f + d = fd := ⟨_, rfl⟩
          have hfx : fd ≤ x.length := by omega
          have hfx2 : f ≤ x.length := by omega
          have hpq : p < Q.length := by omega
          obtain ⟨gq, hgq, -, hgr⟩ := HQ.out.form (by omega)
          subst hgq
          obtain ⟨gq', hgq', hgB, hgw⟩ := HQc.out.form (by omega)
          obtain rfl : gq = gq' := by injection hgq' with e; injection e
          clear hgq'
          have HWn := boxed (HWy.out.changed p f d ls x HER.out (by omega) (by omega) HEX.out (by omega))
          rw [hfd] at HWn
          obtain ⟨a3, c3', hs3, hs3l, hs3a, -⟩ := cut_tail xa xc fd x _ wc HXL.out HXS.out hfx
          have hs2 := fun w => slTL xa x.length xc f (f : Int) rfl (by have := HXS.out.1; omega) HXS.out.2 w
          have hs3' := fun w => hs3 w ((fd : Nat) : Int) rfl
          have HTF : Box ((x.take f).length = f) := boxed (by rw [List.length_take]; omega)
          have HTD : Box ((x.drop fd).length = x.length - fd) := boxed (by rw [List.length_drop])
          have hwfd : IntKind.i64.wrap ((f : Int) + (d : Int)) = (fd : Int) := by rw [IntKind.wrap_i64]; omega
          have HT1 := boxed (HXL.out.take f)
          have HT3 := boxed (hs3a _ _ HXL.out)
          have HS1 : Box (Sl xa xc f) := boxed ⟨by have := HXS.out.1; omega, HXS.out.2⟩
          have HS3 := boxed hs3l
          obtain ⟨y, ey⟩ : ∃ y, Q[p]? = some y := ⟨_, List.getElem?_eq_getElem hpq⟩
          have HEY := boxed ey
          have HPQ : Box (p < Q.length) := boxed hpq
          obtain ⟨X, hX⟩ : ∃ X, x.length = X := ⟨_, rfl⟩
          rw [hX] at d1 hs2 hs3' hfx hfx2 hxm HTD HS3 HCd t9 t9n t10 hwx b3 b4
          have hpi : (p : Int) < (ql : Int) := by omega
          have hpi2 : p < ql := by omega
          have hne : wr.heap.size ≠ gq := by omega
          have hne2 : gq ≠ wr.heap.size := by omega
          rw [hql] at hl1 hq0 hq1 ⊢
          clear ey hs3 hs3a hs3l hX hql HQ HWy a1 a2 b1 b2 hpq k3
          go_upto_region 7 with (fail)
          rw [HWC.out]
          go_wp2_with fail
          clear c0 c1 c2 c3 c4
          obtain ⟨⟨c0, c1, c2, c3, c4⟩, d2⟩ := HCd.out _ (Below.refl _ wc)
          go_quiet (fail)
          have hbd := bel_drewN wc.heap.size wc nq
          obtain ⟨wd, hwd⟩ : ∃ wd, wc.drewN nq = wd := ⟨_, rfl⟩
          rw [hwd] at hbd ⊢
          have HBd := boxed (below_step HBc.out (by rw [HBB.out]; exact Nat.le_refl _) hbd)
          have HCe := boxed (fun W (hb : Below wd.heap.size wd W) => HCd.out W (below_step hbd (Nat.le_refl _) hb))
          have HQd := boxed (HQc.out.keep hbd)
          have HT1d := boxed (HT1.out.below hbd)
          have HT3d := boxed (HT3.out.below hbd)
          have HLd := boxed (HLc.out.below hbd)
          have hbz := hbd.size
          have hBd : B ≤ wd.heap.size := by omega
          have hgd : gq < wd.heap.size := by omega
          have HL0 : Box (LnQ B wd.heap.size (wd.alloc (.cells #[] 37)).drew (some ⟨wd.heap.size, 0, none⟩) 0 []) := boxed (LnQ.zero _ _ _ _ _ (owns_below (World.ownsRow_made wd #[] 0 (Nat.le_refl _) (Nat.zero_le _) rfl) (Below.refl _ _).drew))
          have HD : Box (Below wd.heap.size wd wd.drew) := boxed (Below.refl _ _).drew
          have HD0 : Box (Below wd.heap.size wd (wd.alloc (.cells #[] 37)).drew) := boxed (laid1 wd (.cells #[] 37)).2.1.drew
          have hz0 : wd.heap.size ≤ (wd.alloc (.cells #[] 37)).drew.heap.size := by simp
          have HX := boxed (fun W (hb : Below wd.heap.size wd W) => (show W.cell? ⟨wr.heap.size, 0, none⟩ = some (.int .i64 (p : Nat)) ∧ W.cell? ⟨wr.heap.size, 2, none⟩ = some (.int .i64 (f : Nat)) ∧ W.cell? ⟨wr.heap.size, 3, none⟩ = some (.int .i64 (d : Nat)) ∧ W.cell? ⟨b, off + p, none⟩ = some (.slice xa X xc) from ⟨(HCe.out W hb).1.1, (HCe.out W hb).1.2.2.1, (HCe.out W hb).1.2.2.2.1, (HCe.out W hb).2⟩))
          clear hbd hbz hwd c0 c1 c2 c3 c4 d1 d2 t6 t6n t7 t8 t9 t9n t10 hwx HCd
          go_wp2_with fail
          go_region_held3 (fun W => W.cell? ⟨wr.heap.size, 0, none⟩ = some (.int .i64 (p : Nat)) ∧ W.cell? ⟨wr.heap.size, 2, none⟩ = some (.int .i64 (f : Nat)) ∧ W.cell? ⟨wr.heap.size, 3, none⟩ = some (.int .i64 (d : Nat)) ∧ W.cell? ⟨b, off + p, none⟩ = some (.slice xa X xc))
            (first | with_reducible exact HX.out _ HD.out | with_reducible exact HX.out _ HD0.out | with_reducible exact HX.out _ HD1.out)
            (first | (refine step_linesQ rfl _ _ rfl B wd.heap.size hBd _ 0 [] rfl HL0.out xa xc (x.take f) (by rw [HTF.out] <;> rfl) (HT1d.out.below HD0.out) (by rw [HTF.out]; exact HS1.out) (by rw [HTF.out]; simp; omega) hz0 ?_; intro a1 c1' l1 w1 hm1 hq1' hb1; have HD1 : Box (Below wd.heap.size wd w1) := boxed (HD0.out.trans hb1); have HQ1 := boxed hq1'; have HM1 := boxed hm1; clear hm1 hq1' hb1))
          have HN1 : Box (l1.length = f) := boxed (by
            have h9 := congrArg List.length HM1.out
            rw [List.length_append, HTF.out] at h9
            simpa using h9)
          obtain ⟨⟨c0, c1, c2, c3, c4⟩, d2⟩ := HCe.out _ HD1.out
          have hz1 := HD1.out.size
          go_wp2_with (at_builtin; refine wpList_linesQ rfl _ _ rfl B wd.heap.size hBd a1 c1' l1 rfl HQ1.out la lc ls rfl (HLd.out.below HD1.out) HSL.out (by have := HN1.out; omega) hz1 ?_)
          intro a2 c2' l2 w2 hm2 hq2 hb2
          have HD2 : Box (Below wd.heap.size wd w2) := boxed (HD1.out.trans hb2)
          have HD2d : Box (Below wd.heap.size wd w2.drew) := boxed HD2.out.drew
          have HQ2 := boxed hq2
          have HM2 := boxed hm2
          have HN2 : Box (l2.length = f + ls.length) := boxed (by have h8 := congrArg List.length hm2; have h9 := HN1.out; simp at h8; omega)
          have hz2 : wd.heap.size ≤ w2.drew.heap.size := HD2d.out.size
          have HQ2d := boxed (hq2.keep (Below.refl _ w2).drew)
          clear hm2 hq2 hb2 c0 c1 c2 c3 c4 d2
          go_wp2_with fail
          go_region_held3 (fun W => W.cell? ⟨wr.heap.size, 0, none⟩ = some (.int .i64 (p : Nat)) ∧ W.cell? ⟨wr.heap.size, 2, none⟩ = some (.int .i64 (f : Nat)) ∧ W.cell? ⟨wr.heap.size, 3, none⟩ = some (.int .i64 (d : Nat)) ∧ W.cell? ⟨b, off + p, none⟩ = some (.slice xa X xc))
            (first | with_reducible exact HX.out _ HD2d.out | with_reducible exact HX.out _ HD3.out)
            (first | (refine step_linesQ rfl _ _ rfl B wd.heap.size hBd a2 c2' l2 rfl HQ2d.out a3 c3' (x.drop fd) (by rw [HTD.out] <;> rfl) (HT3d.out.below HD2d.out) (by rw [HTD.out]; exact HS3.out) (by rw [HTD.out]; have := HN2.out; omega) hz2 ?_; intro a4 c4' l3 w3 hm3 hq3 hb3; have HD3 : Box (Below wd.heap.size wd w3) := boxed (HD2d.out.trans hb3); have HQ3 := boxed hq3; have HM3 := boxed hm3; clear hm3 hq3 hb3))
          have HMM : Box (l3.map key = x.take f ++ (ls ++ x.drop fd)) := boxed (by rw [HM3.out, HM2.out, HM1.out]; simp)
          obtain ⟨⟨c0, c1, c2, c3, c4⟩, d2⟩ := HCe.out _ HD3.out
          obtain ⟨z0, yla, ylc, z1⟩ := (HQd.out.keep HD3.out).get p y HEY.out
          have HPn : Box (PgQ B (w3.setCell ⟨gq, p, none⟩ (.slice a4 l3.length c4')) (some ⟨gq, 0, none⟩) cc (Q.set p (x.take f ++ (ls ++ x.drop fd)))) := boxed (by
            have := HQd.out.set HD3.out p HPQ.out (l3.map key) a4 c4' (by rw [List.length_map]; exact HQ3.out.cap) (HQ3.out.at (fun b hb => by omega) (fun g _ hg => by omega))
            rw [List.length_map, HMM.out] at this
            exact this)
          have HBn : Box (Below B w (w3.setCell ⟨gq, p, none⟩ (.slice a4 l3.length c4'))) := boxed ((below_step HBd.out (by rw [HBB.out]; exact Nat.le_refl _) HD3.out).setCell (p := ⟨gq, p, none⟩) hgB _)
          have HLn : Box (ql = (Q.set p (x.take f ++ (ls ++ x.drop fd))).length) := boxed (by rw [List.length_set, HQL.out])
          clear c1 c2 c3 c4 d2 hz1 hz2
          go_wp2_with fail
          go_roundw
          case rel => exact ⟨k + 1, _, some ⟨gq, 0, none⟩, cc, (p : Int), keep, by omega, by go_num, by rw [← HLn.out], by first | rfl | go_num, rfl, HPn, HWn, HBn⟩
          case measure => simp [intOf]; omega
      have t4 : (kd == 1) = false := by rw [beq_eq_false_iff_ne]; exact k1
      by_cases k2 : kd = 2
      · subst k2
        obtain ⟨ql, hql⟩ : ∃ ql, Q.length = ql := ⟨_, rfl⟩
        have HQL := boxed hql
        by_cases b1 : pg = (ql : Int)
        rotate_left
        · have HNN := boxed (HNo.out k Q last keep HWy.out _ HER.out (rst_add ps Q last keep _ rfl (fun h => b1 (by rw [← hql]; exact h.1))))
          have t5 : (pg != (ql : Int)) = true := by rw [bne_iff_ne]; exact b1
          have hun : undef = Value.tuple #[] := rfl
          rw [hql] at hl1 hq0 hq1 ⊢
          clear a1 a2 k1 k3 b1 hql HQ HWy
          go_upto_region 7 with (fail)
          rw [HWC.out]
          go_wp2_with fail
          go_ret2
          exact ⟨HBc.out, Or.inl ⟨HNN.out, rfl⟩⟩
        subst b1
        have t5 : ((ql : Int) != (ql : Int)) = false := by simp
        by_cases b2 : fr = 0
        rotate_left
        · have HNN := boxed (HNo.out k Q last keep HWy.out _ HER.out (rst_add ps Q last keep _ rfl (fun h => b2 h.2.1)))
          have t6 : (fr != 0) = true := by rw [bne_iff_ne]; exact b2
          have hun : undef = Value.tuple #[] := rfl
          rw [hql] at hl1 hq0 hq1 ⊢
          clear a1 a2 k1 k3 b2 hql HQ HWy
          go_upto_region 7 with (fail)
          rw [HWC.out]
          go_wp2_with fail
          go_ret2
          exact ⟨HBc.out, Or.inl ⟨HNN.out, rfl⟩⟩
        subst b2
        by_cases b3 : od = 0
        rotate_left
        · have HNN := boxed (HNo.out k Q last keep HWy.out _ HER.out (rst_add ps Q last keep _ rfl (fun h => b3 h.2.2)))
          have t6 : (od != 0) = true := by rw [bne_iff_ne]; exact b3
          have hun : undef = Value.tuple #[] := rfl
          rw [hql] at hl1 hq0 hq1 ⊢
          clear a1 a2 k1 k3 b3 hql HQ HWy
          go_upto_region 7 with (fail)
          rw [HWC.out]
          go_wp2_with fail
          go_ret2
          exact ⟨HBc.out, Or.inl ⟨HNN.out, rfl⟩⟩
        subst b3
        have HWn := boxed (HWy.out.added ls (by rw [hql]; exact HER.out) (by omega))
        have HOB := boxed (fun bb (e : (Value.slice co Q.length cc).ownBlock = some bb) => by
          obtain ⟨vs, ho, -⟩ := HQc.out
          exact (ho.lt bb e).1)
        have HOL := boxed (fun bb (e : (Value.slice co Q.length cc).ownBlock = some bb) => by
          obtain ⟨vs, ho, -⟩ := HQ.out
          exact (ho.lt bb e).2)
        have l1 := laid1 wc (.cells #[.slice la ls.length lc] 34)
        have HX1 := boxed l1
        have HQ3 := boxed (HQc.out.keep l1.2.1)
        have HBx := boxed (below_step HBc.out (by rw [HBB.out]; omega) l1.2.1)
        have HLx := boxed ((HLc.out.below (by exact Below.refl _ _)).kp (S' := fun bb => (Value.slice co Q.length cc).ownBlock ≠ some bb) (w' := wc.alloc (.cells #[.slice la ls.length lc] 34)) (fun bb j u hs hc => ⟨fun e => by have := HOB.out bb e; omega, hold l1.2.1 hc⟩))
        rw [hql] at hl1 hq0 hq1 ⊢
        clear a1 a2 k1 k3 hql HQ HWy l1
        go_upto_region 7 with (fail)
        rw [HWC.out]
        go_wp2_with (at_builtin; refine wpList_pushQ rfl _ _ rfl B co cc Q (by rw [HQL.out] <;> rfl) HQ3.out wc.heap.size 1 rfl ls la lc (by rw [cell_of_row _ _ _ _ _ _ HX1.out.1]; rfl) HSL.out HLx.out (by rw [HQL.out]; omega) (by have := HX1.out.2.2; omega) ?_)
        intro ao' cap' w6 hpn hb6 hg6
        have z0 : w6.cell? ⟨wr.heap.size, 0, none⟩ = some (.int .i64 (ql : Int)) := by
          rw [cell_same (hg6.block wr.heap.size (by have := HX1.out.2.2; omega) (fun e => by have := HOL.out _ e.symm; omega))]
          exact hold HX1.out.2.1 (HCq.out wc (Below.refl _ _)).1
        clear hg6 c0 c1 c2 c3 c4
        have HQn := boxed hpn
        have HBn := boxed (HBx.out.trans hb6)
        have HLn : Box (ql + 1 = (Q ++ [ls]).length) := boxed (by rw [List.length_append, HQL.out]; rfl)
        clear hpn hb6 HQ3 HLx
        rw [HQL.out]
        go_wp2_with fail
        go_roundw
        case rel => exact ⟨k + 1, Q ++ [ls], ao', cap', (ql : Int), keep, by omega, by go_num, by rw [← HLn.out] <;> (first | rfl | go_num), by first | rfl | go_num, rfl, HQn, (by have := HWn.out; rw [HQL.out] at this; exact boxed this), HBn⟩
        case measure => simp [intOf]; omega
      · have HNN := boxed (HNo.out k Q last keep HWy.out _ HER.out (rst_kd ps Q last keep _ k1 k2 k3))
        have t5 : (kd == 2) = false := by rw [beq_eq_false_iff_ne]; exact k2
        clear a1 a2 k1 k2 k3
        go_upto_region 7 with (fail)
        rw [HWC.out]
        go_wp2_with fail
        go_ret2
        exact ⟨HBc.out, Or.inl ⟨HNN.out, rfl⟩⟩
    · obtain rfl : k = m := by omega
      have hv := HDn.out Q last keep HWy.out
      have t0 : decide ((k : Int) < (k : Int)) = false := decide_eq_false (by omega)
      by_cases b1 : 0 ≤ keep
      · have t1 : decide (0 ≤ keep) = true := decide_eq_true b1
        rw [if_pos b1] at hv
        have hwn : wrap64 ((n : Int) - 1) = (n : Int) - 1 := by unfold wrap64; omega
        by_cases b2 : last = (n : Int) - 1
        · rw [if_pos b2] at hv
          obtain ⟨q, rfl⟩ : ∃ q : Nat, keep = q := ⟨keep.toNat, by omega⟩
          rw [Int.toNat_natCast] at hv
          have t2 : (last != ((n : Int) - 1)) = false := by rw [bne_eq_false_iff_eq]; exact b2
          have hcap := HQ.out.cap
          have hs1 := fun w => slTP co Q.length cc q (q : Int) rfl (by have := hcap.1; omega) hcap.2 w
          have hlq : (Q.take q).length = q := by rw [List.length_take]; omega
          have HF : Box (V = some (Q.take q) ∧ PsAt (fun _ => True) wr co (Q.take q) ∧ Sl co cc (Q.take q).length ∧ (Q.take q).length = q) := boxed ⟨hv, HQ.out.at.take q, ⟨by rw [hlq]; have := hcap.1; omega, hcap.2⟩, hlq⟩
          clear hv hcap hlq HQ HWy b1 b2
          go_wp2_with fail
          go_ret2
          exact ⟨HB.out, Or.inr ⟨Q.take q, HF.out.1, co, cc, by rw [HF.out.2.2.2]; rfl, HF.out.2.1, HF.out.2.2.1⟩⟩
        · rw [if_neg b2] at hv
          have HF := boxed hv
          have t2 : (last != ((n : Int) - 1)) = true := by rw [bne_iff_ne]; exact b2
          clear hv HQ HWy b1 b2
          go_wp2_with fail
          go_ret2
          exact ⟨HB.out, Or.inl ⟨HF.out, rfl⟩⟩
      · have t1 : decide (0 ≤ keep) = false := decide_eq_false b1
        rw [if_neg b1] at hv
        have HF : Box (V = some Q ∧ PsAt (fun _ => True) wr co Q ∧ Sl co cc Q.length) := boxed ⟨hv, HQ.out.at, HQ.out.cap⟩
        clear hv HQ HWy b1
        go_wp2_with fail
        go_ret2
        exact ⟨HB.out, Or.inr ⟨Q, HF.out.1, co, cc, rfl, HF.out.2.1, HF.out.2.2⟩⟩
end Go.Proofs.Ytoodhpgaikmalaa
