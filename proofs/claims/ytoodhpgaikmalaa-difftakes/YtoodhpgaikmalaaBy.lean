/-
  Regions done to pages (diff.Patch).
-/
import Derived.Test.YtoodhpgaikmalaaBx
namespace Go.Proofs.Ytoodhpgaikmalaa
open Go.RowKit
set_option linter.unusedSimpArgs false
set_option linter.unusedVariables false

theorem PgO.down {B B' : Nat} {w : World} {ao : Option Addr} {cap : Nat} {ps : List (List Key)} (h : PgO B w ao cap ps) (hB : B' ≤ B) : PgO B' w ao cap ps := by
  obtain ⟨vs, ho, h⟩ := h
  refine ⟨vs, own_down ho hB, fun i ks hi => ?_⟩
  obtain ⟨la, lc, k1, k2, k3⟩ := h i ks hi
  exact ⟨la, lc, k1, k2, k3.keep (kph_weak (fun b hb => ⟨by omega, hb.2⟩))⟩
theorem fits_step (qs : List (List Key)) (rs : List Rg) (k : Nat) (r : Rg) (hr : rs[k]? = some r) (h : fits qs (rs.drop k)) : (r.kd = 1 → 0 ≤ r.pg ∧ 0 ≤ r.fr ∧ 0 ≤ r.od ∧ ∃ x, qs[r.pg.toNat]? = some x ∧ r.fr + r.od ≤ x.length) ∧ fits (app1 qs r) (rs.drop (k + 1)) := by
  have h2 : rs.drop k = r :: rs.drop (k + 1) := by
    have hl := (List.getElem?_eq_some_iff.1 hr).1
    rw [List.drop_eq_getElem_cons hl, (List.getElem?_eq_some_iff.1 hr).2]
  rw [h2] at h
  exact h
theorem own_any' (S : Nat → Prop) (ao : Option Addr) (ks : List Key) (cap : Nat) (w : World) (h : LsAt S w ao ks) (hn : ks.length ≤ 1000) :
    Calls Try.prog 20 #[.slice ao ks.length cap] w fun e w' => ∃ g, e = .returned (.slice (some ⟨g, 0, none⟩) ks.length ks.length) ∧ LO (fun b => w.heap.size ≤ b) w' (some ⟨g, 0, none⟩) ks ∧ Below w.heap.size w w' := by
  refine (own_any S ao ks cap w h hn).mono ?_
  rintro e w' ⟨rfl, h1, h2⟩
  exact ⟨_, rfl, h1, h2⟩
/-- What is known of the pages under way. -/
structure Way (ps : List (List Key)) (rs : List Rg) (s k : Nat) (Q : List (List Key)) : Prop where
  is : Q = appl (ps.take s) (rs.take k)
  fit : fits Q (rs.drop k)
  len : Q.length ≤ 200 + k
  small : ∀ (i : Nat) (ks : List Key), Q[i]? = some ks → ks.length ≤ 100 + k * 40
theorem Way.step {ps : List (List Key)} {rs : List Rg} {s k : Nat} {Q : List (List Key)} (h : Way ps rs s k Q) (r : Rg) (hr : rs[k]? = some r) (hl : r.ls.length ≤ 40) : Way ps rs s (k + 1) (app1 Q r) :=
  ⟨by rw [appl_take _ _ _ _ hr, ← h.is], (fits_step _ _ _ _ hr h.fit).2, by have := app1_len Q r; have := h.len; omega, fun i ks hi => by have := app1_small Q r _ 40 h.small hl i ks hi; omega⟩
set_option maxRecDepth 100000 in
set_option maxHeartbeats 16000000 in
theorem patch_any (S S' : Nat → Prop) (ao bo : Option Addr) (ps : List (List Key)) (rs : List Rg) (ca cb : Nat) (w : World) (h1 : PsAt S w ao ps) (h2 : RgAt S' w bo rs) (hn : ps.length ≤ 200) (hrn : rs.length ≤ 40) (hm : ∀ (i : Nat) (ks : List Key), ps[i]? = some ks → ks.length ≤ 100) (hrm : ∀ r ∈ rs, r.ls.length ≤ 40) (hsa : Sl ao ca ps.length) (hsb : Sl bo cb rs.length) :
    Calls Try.prog 11 #[.slice ao ps.length ca, .slice bo rs.length cb] w fun e w' => Below w.heap.size w w' ∧
      ((stg ps (-1) ps.length rs = none ∧ e = .returned (.tuple #[.slice none 0 0, .int .i64 140])) ∨
       (∃ s, stg ps (-1) ps.length rs = some s ∧ ∃ co cc, e = .returned (.tuple #[.slice co (appl (ps.take s) rs).length cc, .int .i64 0]) ∧ PgO w.heap.size w' co cc (appl (ps.take s) rs))) := by
  have HSt := boxed (staying_any S S' ao bo ps rs ca cb w h1 h2 (by omega) (by omega) (fun i ks e => by have := hm i ks e; omega) hsa hsb)
  cases hR : stg ps (-1) ps.length rs with
  | none =>
    rw [hR] at HSt
    generalize ps.length = n at *
    generalize rs.length = m at *
    clear h1 h2 hm hrm hR hsa hsb
    go_enter Try.func11, Try.ntmps11
    go_wp2_with fail
    refine HSt.out.mono ?_
    rintro e w1 ⟨rfl, hb1⟩
    have HB1 := boxed hb1
    clear hb1 HSt
    simp only [Option.getD_none, Option.isSome_none]
    go_wp2_with fail
    go_ret2
    exact ⟨HB1.out, Or.inl ⟨(by first | rfl | trivial), rfl⟩⟩
  | some s =>
    rw [hR] at HSt
    have hsl := stg_le _ _ _ _ _ hR
    have hfit := stg_fits ps (ps.take s) (-1) ps.length rs s (Int.le_refl _) (by omega) hR (fun j _ h => by rw [List.getElem?_take_of_lt h])
    have htl : (ps.take s).length = s := by rw [List.length_take]; omega
    have HW0 : Box (Way ps rs s 0 (ps.take s)) := boxed ⟨by simp [appl], by simpa using hfit, by omega, fun i ks hi => by
      rw [List.getElem?_take] at hi
      split at hi
      · have := hm i ks hi; omega
      · cases hi⟩
    have HCp := boxed (fun W hb => copy14_any S ao (ps.take s) ca W ((h1.below (w' := W) hb).take s) (by omega) (fun i ks hi => by have := HW0.out.small i ks hi; omega))
    rw [htl] at HCp
    have HTl := boxed htl
    have HRs := boxed (fun i (hi : i < rs.length) => (⟨_, List.getElem?_eq_getElem hi⟩ : ∃ r, rs[i]? = some r))
    have HRT : Box (rs.take rs.length = rs) := boxed (List.take_of_length_le (Nat.le_refl _))
    have HRM := boxed (fun i r (e : rs[i]? = some r) => hrm r (List.mem_of_getElem? e))
    have HH2 := boxed h2
    have hs1 := fun w => slTP ao ps.length ca s (s : Int) rfl (by have := hsa.1; omega) hsa.2 w
    obtain ⟨n, hkn⟩ : ∃ n, ps.length = n := ⟨_, rfl⟩
    obtain ⟨m, hkm⟩ : ∃ m, rs.length = m := ⟨_, rfl⟩
    rw [hkn] at hn HSt hs1 hsl ⊢
    rw [hkm] at hrn HRs HRT HSt ⊢
    have hcb := hsb.1
    simp only [Option.getD_some, Option.isSome_some] at HSt
    clear hkn hkm h1 h2 hm hrm hsa hsb hR hfit htl
    obtain ⟨B, hB⟩ : ∃ B, w.heap.size = B := ⟨_, rfl⟩
    have HBB := boxed hB
    rw [hB]
    clear hB
    go_enter Try.func11, Try.ntmps11
    go_wp2_with fail
    refine HSt.out.mono ?_
    rintro e w1 ⟨rfl, hb1⟩
    have HB1 := boxed hb1
    clear hb1 HSt
    go_wp2_with fail
    refine (HCp.out _ HB1.out).mono ?_
    rintro e w2 ⟨rfl, hpo, hb2⟩
    have HB2 : Box (Below B w w2) := boxed (by rw [← HBB.out]; exact below_step HB1.out (Nat.le_refl _) hb2)
    have HP2 : Box (PgO B w2 (some ⟨w1.heap.size, 0, none⟩) s (ps.take s)) := boxed (hpo.down (by rw [← HBB.out]; exact HB1.out.size))
    clear hpo hb2 HCp hs1
    go_wp2_with fail
    go_loopw [8, 26] (fun pv iv wr => ∃ (k : Nat) (Q : List (List Key)) (co : Option Addr) (cc : Nat), k ≤ m ∧ iv = .int .i64 (k : Nat) ∧ pv = .slice co Q.length cc ∧ Box (PgO B wr co cc Q) ∧ Box (Way ps rs s k Q) ∧ Box (Below B w wr)) (fun _ iv _ => m - (intOf iv).toNat)
    case atStart => exact ⟨0, _, _, _, Nat.zero_le _, rfl, by rw [HTl.out], HP2, HW0, HB2⟩
    case round =>
      obtain ⟨k, Q, co, cc, hk, rfl, rfl, HP, HWy, HB⟩ := hrel
      by_cases hlt : k < m
      · obtain ⟨r, er⟩ := HRs.out k hlt
        have hbw : Below w.heap.size w wr := by rw [HBB.out]; exact HB.out
        obtain ⟨hok, b', off', la, lc, rfl, -, ⟨r0, r1, r2, r3, r4⟩, hsl4, hls4⟩ := (HH2.out.below hbw) k r er
        have hfs := (fits_step _ _ _ _ er HWy.out.fit).1
        have hrl := HRM.out k r er
        have HWn := boxed (HWy.out.step r er hrl)
        have hql := HWy.out.len
        have HQS := boxed HWy.out.small
        have t0 : decide ((k : Int) < (m : Int)) = true := decide_eq_true (by omega)
        have hlt2 : (k : Int) < (m : Int) := by omega
        obtain ⟨wc, hwc, hBc, hwz, hC⟩ := box_region wr r la lc
        obtain ⟨c0, c1, c2, c3, c4⟩ := hC wc (Below.refl _ _)
        have HWC := boxed hwc
        have HCq := boxed hC
        have hBw : B ≤ wr.heap.size := by have := HB.out.size; have := HBB.out; omega
        have HBc := boxed (below_step HB.out (by rw [HBB.out]; exact Nat.le_refl _) hBc)
        have HPc := boxed (HP.out.keep hBc)
        have HPw := boxed (fun h => HP.out.form h)
        have HLc := boxed (hls4.below hBc)
        have HSL := boxed hsl4
        have hBz : B ≤ wc.heap.size := by omega
        clear er hok hwc hBc hC hbw hsl4 hls4 HP HWy
        obtain ⟨pg, kd, fr, od, ls⟩ := r
        simp only at r0 r1 r2 r3 r4 c0 c1 c2 c3 c4 hfs hrl HWn HWC HCq HLc HSL
        by_cases q1 : kd = 1
        · subst q1
          obtain ⟨g1, g2, g3, x, ex, g4⟩ := hfs rfl
          obtain ⟨p, rfl⟩ : ∃ p : Nat, pg = p := ⟨pg.toNat, by omega⟩
          obtain ⟨f, rfl⟩ : ∃ f : Nat, fr = f := ⟨fr.toNat, by omega⟩
          obtain ⟨d, rfl⟩ : ∃ d : Nat, od = d := ⟨od.toNat, by omega⟩
          rw [Int.toNat_natCast] at ex
          have HEX := boxed ex
          have hpq : p < Q.length := (List.getElem?_eq_some_iff.1 ex).1
          obtain ⟨gq, rfl, hgB, hgw⟩ := HPw.out (by omega)
          have hgz : gq < wc.heap.size := by omega
          obtain ⟨-, xa, xc, x0, hxs, hxl⟩ := HPc.out.get p x ex
          have hxm := HQS.out p x ex
          have HNEW : Box (app1 Q ⟨(p : Nat), 1, (f : Nat), (d : Nat), ls⟩ = Q.set p (x.take f ++ (ls ++ x.drop (f + d)))) := boxed (by
            simp only [app1, if_pos, Int.toNat_natCast]
            rw [List.getD_eq_getElem?_getD, ex, Option.getD_some])
          obtain ⟨fd, hfd⟩ : ∃ fd, f + d = fd := ⟨_, rfl⟩
          rw [hfd] at HNEW
          have hfx : fd ≤ x.length := by omega
          obtain ⟨a3, c3', hs3, hs3l, hs3a, -⟩ := cut_tail xa xc fd x _ wc hxl.1 hxs hfx
          have hs2 := fun w => slTL xa x.length xc f (f : Int) rfl (by have := hxs.1; omega) hxs.2 w
          have hs3' := fun w => hs3 w ((fd : Nat) : Int) rfl
          have htf : (x.take f).length = f := by rw [List.length_take]; omega
          have htd : (x.drop fd).length = x.length - fd := by rw [List.length_drop]
          have hwfd : IntKind.i64.wrap ((f : Int) + (d : Int)) = (fd : Int) := by rw [IntKind.wrap_i64]; omega
          have HX := boxed (And.intro hxs hxl)
          have HOW := boxed (fun W hb => own_any' S' la ls lc W (HLc.out.below (w' := W) hb) (by omega))
          have HCO := boxed (fun (W3 : World) (g3 : Nat) (hb3 : Below wc.heap.size wc W3) (hlo : LO (fun b => wc.heap.size ≤ b) W3 (some ⟨g3, 0, none⟩) ls) => by
            have l9 := laid1 W3 (.cells #[.slice xa f xc, .slice (some ⟨g3, 0, none⟩) ls.length ls.length, .slice a3 (x.length - fd) c3'] 32)
            have hc9 := fun i => cell_of_row _ W3.heap.size i _ _ (0, 0) l9.1
            exact concat14_any (fun b => B ≤ b ∧ b ≠ gq) W3.heap.size xa (some ⟨g3, 0, none⟩) a3 (x.take f) ls (x.drop fd) xc ls.length c3' (W3.alloc (.cells #[.slice xa f xc, .slice (some ⟨g3, 0, none⟩) ls.length ls.length, .slice a3 (x.length - fd) c3'] 32))
              (by rw [hc9, htf]; rfl) (by rw [hc9]; rfl) (by rw [hc9, htd]; rfl)
              (((hxl.1.below hb3).below l9.2.1).take f) ((hlo.1.below l9.2.1).kp (fun b j u hs hc => ⟨⟨by omega, by omega⟩, hc⟩)) (hs3a _ _ ((hxl.1.below hb3).below l9.2.1))
              ⟨by rw [htf]; have := hxs.1; omega, hxs.2⟩ ⟨Nat.le_refl _, fun e => by cases e⟩ (by rw [htd]; exact hs3l) (by omega) (by omega) (by omega))
          have HD0 : Box (Below wc.heap.size wc wc.drew) := boxed (Below.refl _ _).drew
          obtain ⟨L, hL⟩ : ∃ L, ls.length = L := ⟨_, rfl⟩
          obtain ⟨X, hX⟩ : ∃ X, x.length = X := ⟨_, rfl⟩
          obtain ⟨ql, hqlq⟩ : ∃ ql, Q.length = ql := ⟨_, rfl⟩
          have HQL := boxed hqlq
          rw [hL] at HOW HCO r4 c4 HCq HWC hrl
          rw [hX] at HCO x0 hs2 hs3' hfx
          obtain ⟨NL, hNL⟩ : ∃ NL, (x.take f ++ (ls ++ x.drop fd)).length = NL := ⟨_, rfl⟩
          rw [hNL] at HCO
          have HNL := boxed hNL
          have hS : Box (∀ W, Below wc.heap.size wc W → W.cell? ⟨wr.heap.size, 0, none⟩ = some (.int .i64 (p : Nat)) ∧ W.cell? ⟨wr.heap.size, 2, none⟩ = some (.int .i64 (f : Nat)) ∧ W.cell? ⟨wr.heap.size, 3, none⟩ = some (.int .i64 (d : Nat)) ∧ W.cell? ⟨wr.heap.size, 4, none⟩ = some (.slice la L lc)) := boxed (fun W hb => ⟨(HCq.out W hb).1, (HCq.out W hb).2.2.1, (HCq.out W hb).2.2.2.1, (HCq.out W hb).2.2.2.2⟩)
          have hgq1 : gq < wc.heap.size := hgz
          have HS2 : Box (∀ W v, Below wc.heap.size wc W → (W.setCell ⟨gq, p, none⟩ v).cell? ⟨wr.heap.size, 0, none⟩ = some (.int .i64 (p : Nat)) ∧ (W.setCell ⟨gq, p, none⟩ v).cell? ⟨wr.heap.size, 2, none⟩ = some (.int .i64 (f : Nat)) ∧ (W.setCell ⟨gq, p, none⟩ v).cell? ⟨wr.heap.size, 3, none⟩ = some (.int .i64 (d : Nat)) ∧ (W.setCell ⟨gq, p, none⟩ v).cell? ⟨wr.heap.size, 4, none⟩ = some (.slice la L lc)) := boxed (fun W v hb => by
            have hne : wr.heap.size ≠ gq := by omega
            refine ⟨?_, ?_, ?_, ?_⟩
            · rw [cell_same (heap_set_far v hne)]; exact (hS.out W hb).1
            · rw [cell_same (heap_set_far v hne)]; exact (hS.out W hb).2.1
            · rw [cell_same (heap_set_far v hne)]; exact (hS.out W hb).2.2.1
            · rw [cell_same (heap_set_far v hne)]; exact (hS.out W hb).2.2.2)
          have hpi : (p : Int) < (ql : Int) := by omega
          have hpi2 : p < ql := by omega
          have HQl : Box (p < Q.length) := boxed hpq
          rw [hqlq] at hql hpq
          clear hxs hxl hs3 hs3a hs3l htf htd hL hX hNL hfd g1 g2 g3 g4 hfs ex HLc hxm
          go_upto_region 8 with (fail)
          rw [HWC.out]
          rw [hqlq]
          clear hqlq r0 r1 r2 r3 r4
          go_wp2_with fail
          go_region_held3 (fun W => W.cell? ⟨wr.heap.size, 0, none⟩ = some (.int .i64 (p : Nat)) ∧ W.cell? ⟨wr.heap.size, 2, none⟩ = some (.int .i64 (f : Nat)) ∧ W.cell? ⟨wr.heap.size, 3, none⟩ = some (.int .i64 (d : Nat)) ∧ W.cell? ⟨wr.heap.size, 4, none⟩ = some (.slice la L lc))
            (first
              | with_reducible exact hS.out _ HD0.out
              | with_reducible exact hS.out _ HB3.out
              | with_reducible exact hS.out _ HB4.out
              | with_reducible exact hS.out _ HB5.out
              | with_reducible exact hS.out _ (HB3.out.alloc HB3.out.size _)
              | with_reducible exact HS2.out _ _ HB5.out)
            (first
              | (go_at_call 20; refine (HOW.out _ HD0.out).mono ?_; rintro e w3 ⟨g3, rfl, hlo, hb3⟩; have HB3 := boxed (below_step HD0.out (Nat.le_refl _) hb3); have HLO := boxed hlo; clear hlo hb3 HOW)
              | (go_at_call 23; refine (HCO.out _ g3 HB3.out (HLO.out)).mono ?_; rintro e w5 ⟨a5, c5, rfl, hs5, hlo5, -, hb5⟩; have HB5 := boxed (below_step (HB3.out.alloc HB3.out.size (.cells #[.slice xa f xc, .slice (some ⟨g3, 0, none⟩) L L, .slice a3 (X - fd) c3'] 32)) (Nat.le_refl _) hb5); have HP5 := boxed (HPc.out.keep HB5.out); obtain ⟨fz5, la5, lc5, x5, -, -⟩ := HP5.out.get p x HEX.out; have HLO5 := boxed (And.intro hs5 hlo5); clear hs5 hlo5 hb5 HCO))
          have hz5 := HB5.out.size
          have hz3 := HB3.out.size
          have hz4 : wc.heap.size ≤ (w3.alloc (.cells #[.slice xa f xc, .slice (some ⟨g3, 0, none⟩) L L, .slice a3 (X - fd) c3'] 32)).heap.size := by simp; omega
          have HPn : Box (PgO B (w5.setCell ⟨gq, p, none⟩ (.slice a5 NL c5)) (some ⟨gq, 0, none⟩) cc (app1 Q ⟨(p : Nat), 1, (f : Nat), (d : Nat), ls⟩)) := boxed (by
            rw [HNEW.out]
            have := HPc.out.set HB5.out p HQl.out (x.take f ++ (ls ++ x.drop fd)) a5 c5 (by rw [HNL.out]; exact HLO5.out.1) (HLO5.out.2.keep (kph_weak (fun b hb => by
              rcases hb with hb | hb
              · exact hb
              · exact ⟨by omega, by omega⟩)))
            rw [HNL.out] at this
            exact this)
          have HBn : Box (Below B w (w5.setCell ⟨gq, p, none⟩ (.slice a5 NL c5))) := boxed ((below_step HBc.out (by rw [HBB.out]; exact Nat.le_refl _) HB5.out).setCell (p := ⟨gq, p, none⟩) hgB _)
          have HLn : Box (ql = (app1 Q ⟨(p : Nat), 1, (f : Nat), (d : Nat), ls⟩).length) := boxed (by rw [HNEW.out, List.length_set, HQL.out])
          clear hz5 hz3 hz4 HLO5 HP5 fz5 x5
          go_wp2_with fail
          go_roundw
          case rel => exact ⟨k + 1, _, some ⟨gq, 0, none⟩, cc, by omega, by go_num, by rw [← HLn.out], HPn, HWn, HBn⟩
          case measure => simp [intOf]; omega
        have t1 : (kd == 1) = false := by rw [beq_eq_false_iff_ne]; exact q1
        by_cases q2 : kd = 2
        · subst q2
          have HNEW : Box (app1 Q ⟨pg, 2, fr, od, ls⟩ = Q ++ [ls]) := boxed (by simp [app1])
          have HOW := boxed (own_any' S' la ls lc wc HLc.out (by omega))
          obtain ⟨L, hL⟩ : ∃ L, ls.length = L := ⟨_, rfl⟩
          rw [hL] at HOW c4 HWC hrl
          have HLL := boxed hL
          obtain ⟨ql, hqlq⟩ : ∃ ql, Q.length = ql := ⟨_, rfl⟩
          have HQL := boxed hqlq
          rw [hqlq] at hql
          have HOB := boxed (fun bb (e : (Value.slice co Q.length cc).ownBlock = some bb) => by
            obtain ⟨vs, ho, -⟩ := HPc.out
            exact (ho.lt bb e).2)
          rw [hL] at r4
          clear hfs q1 hL
          go_upto_region 8 with (fail)
          rw [HWC.out]
          clear r0 r1 r2 r3 r4
          rw [hqlq]
          clear hqlq
          go_wp2_with fail
          refine HOW.out.mono ?_
          rintro e w3 ⟨g3, rfl, hlo, hb3⟩
          have hz3 := hb3.size
          have l1 := laid1 w3 (.cells #[.slice (some ⟨g3, 0, none⟩) L L] 34)
          have HX1 := boxed l1
          have HP3 := boxed ((HPc.out.keep hb3).keep l1.2.1)
          have HBx := boxed (below_step (below_step HBc.out (by rw [HBB.out]; exact Nat.le_refl _) hb3) (by rw [HBB.out]; exact Nat.le_refl _) l1.2.1)
          have HLx := boxed ((hlo.below l1.2.1).keep (S' := fun bb => B ≤ bb ∧ (Value.slice co Q.length cc).ownBlock ≠ some bb) (kph_weak (fun bb hs => ⟨by omega, fun e => by have := HOB.out bb e; omega⟩)))
          clear hlo hb3 HOW l1
          go_wp2_with (at_builtin; refine wpList_push rfl _ _ rfl B co cc Q (by rw [HQL.out] <;> rfl) HP3.out w3.heap.size 1 rfl ls (some ⟨g3, 0, none⟩) L ?q1 ⟨by rw [HLL.out]; exact Nat.le_refl _, fun e => by cases e⟩ HLx.out (by rw [HQL.out]; omega) (by have := HX1.out.2.2; omega) ?_)
          case q1 => rw [cell_of_row _ _ _ _ _ _ HX1.out.1, HLL.out]; rfl
          intro ao' cap' w6 hpn hb6
          have HPn := boxed hpn
          have HBn := boxed (HBx.out.trans hb6)
          have HLn : Box (ql + 1 = (app1 Q ⟨pg, 2, fr, od, ls⟩).length) := boxed (by rw [HNEW.out, List.length_append, HQL.out]; rfl)
          clear hpn hb6 HP3 HLx
          rw [HQL.out]
          go_wp2_with fail
          go_roundw
          case rel => exact ⟨k + 1, _, ao', cap', by omega, by go_num, by rw [← HLn.out] <;> (first | rfl | go_num), boxed (by rw [HNEW.out]; exact HPn.out), HWn, HBn⟩
          case measure => simp [intOf]; omega
        · have t2 : (kd == 2) = false := by rw [beq_eq_false_iff_ne]; exact q2
          have HNEW : Box (app1 Q ⟨pg, kd, fr, od, ls⟩ = Q) := boxed (by simp [app1, q1, q2])
          clear hfs q1 q2
          go_upto_region 8 with (fail)
          rw [HWC.out]
          clear r0 r1 r2 r3 r4
          go_wp2_with fail
          go_roundw
          case rel => exact ⟨k + 1, _, co, cc, by omega, by go_num, by rw [HNEW.out], boxed (by rw [HNEW.out]; exact HPc.out), HWn, HBc⟩
          case measure => simp [intOf]; omega
      · have hke : k = m := by omega
        have hQ : Q = appl (ps.take s) rs := by rw [HWy.out.is, hke, HRT.out]
        have HPF : Box (PgO B wr co cc (appl (ps.take s) rs)) := boxed (by rw [← hQ]; exact HP.out)
        have t0 : decide ((k : Int) < (m : Int)) = false := decide_eq_false (by omega)
        rw [hQ]
        clear hke hQ HWy HP
        go_wp2_with fail
        go_ret2
        exact ⟨HB.out, Or.inr ⟨s, (by first | rfl | trivial), co, cc, rfl, HPF.out⟩⟩
end Go.Proofs.Ytoodhpgaikmalaa
