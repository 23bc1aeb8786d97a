/-
  THE STATEMENT MarksPlay: any calls in any order leave each mark where the document says, or are refused for their first fault; no condition.
-/
import Derived.Test.YtdaccgnfhagoeaaRows
import Derived.WalkKit
import Derived.ProofKit
import Derived.OpenShut
import Derived.SizedLaws
import Derived.ShutString
import Derived.ChangeOld
import Derived.Below
import Derived.Test.YtdaccgnfhagoeaaMkw
import Derived.Deep.RegionWith
namespace Go.Proofs.Ytdaccgnfhagoeaa.marksPlay
open Go.ChangeShapes Go.WideShapes Go.ChangeAt Go.RowKit
open Go.ChangeMaps (open_string shut_string)
set_option linter.unusedVariables false
set_option linter.unusedSimpArgs false

theorem own : ownKnob Try.prog.godebug = none := by kernel_rfl
theorem laidOut : laidOutB Try.prog = true := by kernel_rfl

set_option maxRecDepth 100000 in
set_option maxHeartbeats 16000000 in
theorem walk (w : World) (a0 : Int) (w0 : (Lit.int .i64 a0).wf = true) (ao1 : Option Addr) (n1 cap1 : Nat) (O1 : Nat → Opr) (hO1 : OpsAt w.heap.size w ao1 n1 O1) (a2 : Int) (w2 : (Lit.int .i64 a2).wf = true) :
    Calls Try.prog 3 #[.int .i64 a0, .slice ao1 n1 cap1, .int .i64 a2] w fun e w' => e = .returned (.bool true) ∧ Below w.heap.size w w' := by
  clear w0 w2
  have HA := boxed (awake16_any w)
  go_enter Try.func3, Try.ntmps3
  go_wp2_with fail
  refine HA.out.mono ?_
  rintro e wa ⟨rfl, hba⟩
  have HBa := boxed hba
  clear hba HA
  have hsz0 := size16law_any a0 wa
  by_cases hc : 0 ≤ a0 ∧ a0 ≤ 65536
  rotate_left
  · rw [decide_eq_false hc] at hsz0
    have HSz := boxed hsz0
    have HNb := boxed (new16_bad a0 wa (by omega))
    clear hsz0 hc
    go_wp2_with fail
    refine HSz.out.mono ?_
    rintro e wz ⟨rfl, hwz⟩
    subst wz
    go_wp2_with fail
    refine HNb.out.mono ?_
    rintro e wz ⟨rfl, hwz⟩
    subst wz
    go_wp2_with fail
    go_ret
    exact ⟨rfl, HBa.out⟩
  rw [decide_eq_true hc] at hsz0
  have HSz := boxed hsz0
  have hp := played16_any (c := cap1) ((hO1.below HBa.out (Nat.le_refl _)).mono HBa.out.size) hc.1 hc.2
  have hok := pls_ok a0 O1 hc.1 hc.2 (min n1 80)
  obtain ⟨s, hs⟩ : ∃ s, pls a0 O1 (min n1 80) = s := ⟨_, rfl⟩
  rw [hs] at hp hok
  have hok := hok.mono (show ((min n1 80 : Nat) : Int) ≤ 80 by omega)
  have HPl := boxed hp
  have HOK := boxed hok
  have hlen := hok.len
  clear hsz0 hp hs hok hO1 hc
  go_wp2_with fail
  refine HSz.out.mono ?_
  rintro e wz ⟨rfl, hwz⟩
  subst wz
  go_wp2_with fail
  refine HPl.out.mono ?_
  rintro e w1 ⟨⟨sb, v, x, rfl, hp1, hr1⟩, hb1⟩
  obtain ⟨a1, c1, rfl, hro⟩ := rbox hr1
  have l2 := laid1 w1 (.cells #[.int .i64 s.sz, .int .i64 s.nx, .slice a1 s.L.length c1] 31)
  have hz1 := hb1.size
  generalize hW2 : w1.alloc (.cells #[.int .i64 s.sz, .int .i64 s.nx, .slice a1 s.L.length c1] 31) = w2 at l2
  obtain ⟨lt8, lb2, lz2⟩ := l2
  have HP2 := boxed (hp1.below lb2)
  have HR2 := boxed (hr1.below lb2)
  have HB2 := boxed (below_step (below_step HBa.out (Nat.le_refl _) hb1) (Nat.le_refl _) lb2)
  have HW2 := boxed hW2
  have HT8 := boxed lt8
  have HSiz : Box (∀ q, Calls Try.prog 12 #[.pointer (some ⟨sb, 0, none⟩)] (w2.drewN q) fun e w' => e = .returned (.int .i64 s.sz) ∧ w' = w2.drewN q) := boxed (fun q => size16_any (HP2.out.below (bel_drewN _ _ _)))
  have HCnt : Box (∀ q, Calls Try.prog 13 #[.pointer (some ⟨sb, 0, none⟩)] (w2.drewN q) fun e w' => e = .returned (.int .i64 (s.L.length : Nat)) ∧ w' = w2.drewN q) := boxed (fun q => count16_any (HP2.out.below (bel_drewN _ _ _)))
  obtain ⟨y0, y1, y2⟩ := (cells3 lt8).1
  have hlt82 := heap_lt lt8
  clear hp1 hr1 hb1 hro hW2 lt8 lb2 HPl HSz
  go_upto_region 7 with (fail)
  rw [HW2.out]
  go_quiet (first | (go_at_call 12; exact Calls.quiet_of_same (HSiz.out _)) | (go_at_call 13; exact Calls.quiet_of_same (HCnt.out _)))
  rename_i nq
  obtain ⟨wq, hwq⟩ : ∃ wq, w2.drewN nq = wq := ⟨_, rfl⟩
  have hbq : Below w2.heap.size w2 wq := by rw [← hwq]; exact bel_drewN _ _ _
  have HPq := boxed (HP2.out.below hbq)
  have HRq := boxed (HR2.out.below hbq)
  have HBq := boxed (below_step HB2.out (Nat.le_refl _) hbq)
  have hTq := (hbq.block w1.heap.size hlt82).trans HT8.out
  have HTq := boxed hTq
  have hltq := heap_lt hTq
  rw [hwq]
  have hgt := get16_any HPq.out HOK.out.rise (by omega) a2
  have HRG : Box (∀ w', RS wa.heap.size w' (.agg #[.int .i64 s.sz, .int .i64 s.nx, .slice a1 s.L.length c1]) s → _) := boxed (fun w' h => refget_any (w := w') h (by omega) a2)
  obtain ⟨gm, hgm⟩ : ∃ gm, (s.get a2).1 = gm := ⟨_, rfl⟩
  obtain ⟨gc, hgc⟩ : ∃ gc, (s.get a2).2 = gc := ⟨_, rfl⟩
  rw [hgm, hgc] at hgt HRG
  obtain ⟨gi, gp, gs⟩ := gm
  unfold Mk.val at hgt HRG
  simp only at hgt HRG
  have HGt := boxed hgt
  clear hgt hgm hgc hbq hTq hwq HSiz HCnt y0 y1 y2 HP2 HR2 HT8
  go_wp2_with fail
  refine HGt.out.mono ?_
  rintro e w3 ⟨rfl, hb3⟩
  have l4 := laid1 w3 (.cells #[.int .i64 gi, .int .i64 gp, .bool gs] 36)
  generalize hW4 : w3.alloc (.cells #[.int .i64 gi, .int .i64 gp, .bool gs] 36) = w4 at l4
  obtain ⟨hm4, lb4, lz4⟩ := l4
  have hb34 : Below wq.heap.size wq w4 := hb3.trans (lb4.mono hb3.size)
  have HP4 := boxed (HPq.out.below hb34)
  have HR4 := boxed (HRq.out.below hb34)
  have HB4 := boxed (below_step HBq.out (Nat.le_refl _) hb34)
  have HT4 := boxed ((hb34.block w1.heap.size hltq).trans HTq.out)
  have HM4 := boxed hm4
  have HW4 := boxed hW4
  have hz4 := hb34.size
  have y0 := hold hb3 (cells3 HTq.out).1.1
  have y1 := hold hb3 (cells3 HTq.out).1.2.1
  have y2 := hold hb3 (cells3 HTq.out).1.2.2
  have hlt3 : w1.heap.size < w3.heap.size := by have := hb3.size; omega
  have HG4 := boxed (HRG.out _ HR4.out)
  clear hb3 hW4 hm4 lb4 hb34 HGt HRG HPq HRq
  go_wp2_with fail
  rw [HW4.out]
  refine HG4.out.mono ?_
  rintro e w5 ⟨rfl, hb5⟩
  have l6 := laid1 w5 (.cells #[.int .i64 gi, .int .i64 gp, .bool gs] 39)
  have hz5 := hb5.size
  have hm5 := (hb5.block w3.heap.size (by omega)).trans HM4.out
  obtain ⟨m0, m1, m2⟩ := (cells3 hm5).1
  have hlt35 : w3.heap.size < w5.heap.size := by omega
  generalize hW6 : w5.alloc (.cells #[.int .i64 gi, .int .i64 gp, .bool gs] 39) = w6 at l6
  obtain ⟨-, lb6, lz6⟩ := l6
  have hb46 : Below w4.heap.size w4 w6 := hb5.trans (lb6.mono hb5.size)
  have HP6 := boxed (HP4.out.below hb46)
  have HR6 := boxed (HR4.out.below hb46)
  have HB6 := boxed (below_step HB4.out (Nat.le_refl _) hb46)
  have HT6 := boxed ((hb46.block w1.heap.size (heap_lt HT4.out)).trans HT4.out)
  have HW6 := boxed hW6
  clear hb5 hm5 hW6 lb6 hb46 HG4 HP4 HR4 y0 y1 y2
  go_upto_region 13 with (fail)
  rw [HW6.out]
  have HDr : Box (Below w6.heap.size w6 w6.drew) := boxed (Below.refl _ _).drew
  have HTd : Box (∀ W', Below w6.heap.size w6 W' → W'.cell? ⟨w1.heap.size, 0, none⟩ = some (.int .i64 s.sz) ∧ W'.cell? ⟨w1.heap.size, 1, none⟩ = some (.int .i64 s.nx) ∧ W'.cell? ⟨w1.heap.size, 2, none⟩ = some (.slice a1 s.L.length c1)) := boxed (fun W' hb => (cells3 ((hb.block w1.heap.size (heap_lt HT6.out)).trans HT6.out)).1)
  have HX6 := boxed (HTd.out _ HDr.out)
  have HAl : Box (∀ w', PS wa.heap.size w' sb v s → _) := boxed (fun w' h => all16_any (w := w') h HOK.out)
  have HAr : Box (∀ w', RS wa.heap.size w' (.agg #[.int .i64 s.sz, .int .i64 s.nx, .slice a1 s.L.length c1]) s → _) := boxed (fun w' h => refall_any (w := w') h HOK.out)
  have HAd := boxed (HAl.out _ (HP6.out.below HDr.out))
  clear m0 m1 m2
  go_region_held3 (fun W' => W'.cell? ⟨w1.heap.size, 0, none⟩ = some (.int .i64 s.sz) ∧ W'.cell? ⟨w1.heap.size, 1, none⟩ = some (.int .i64 s.nx) ∧ W'.cell? ⟨w1.heap.size, 2, none⟩ = some (.slice a1 s.L.length c1))
    (first | with_reducible exact HX6.out | with_reducible exact HX7.out | with_reducible exact HX8.out)
    (first
      | (go_at_call 16; refine HAd.out.mono ?_; rintro e' w7 ⟨⟨g, rfl, hg7⟩, hb7⟩; have HB7 := boxed (below_step HDr.out (Nat.le_refl _) hb7); have HX7 := boxed (HTd.out _ HB7.out); have HG7 := boxed hg7; have HR7 := boxed (HAr.out _ (HR6.out.below HB7.out)); have HX8 := boxed trivial; clear hg7 hb7)
      | (go_at_call 17; refine HR7.out.mono ?_; rintro e' w8 ⟨⟨z, rfl, hz8⟩, hb8⟩; have HB8 := boxed (below_step HB7.out (Nat.le_refl _) hb8); have HX8 := boxed (HTd.out _ HB8.out); have HG8 := boxed (owns_below HG7.out hb8); have HZ8 := boxed hz8; have hz87 := hb8.size; clear hz8 hb8))
  have hml := srt_len s.L
  have hg8 : w8.ownsRow w6.heap.size 36 3 (.slice (some ⟨g, 0, none⟩) s.L.length s.L.length) s.L.length (mcs (srt s.L)) := HG8.out
  have hz8 := HZ8.out
  obtain ⟨M, hM⟩ : ∃ M, srt s.L = M := ⟨_, rfl⟩
  rw [hM] at hg8 hz8 hml
  obtain ⟨za, zc, rfl⟩ := own_shape hz8
  have hge := owns_ge hg8 g rfl
  have HP8 := boxed (HP6.out.below HB8.out)
  have HB9 := boxed (below_step HB6.out (Nat.le_refl _) HB8.out)
  have HOw := boxed (fun q (hq : Own sb v q) => show q < w6.heap.size from by
    rcases hq with e | e
    · have := HP6.out.lt; omega
    · exact (HP6.out.own.lt q e).2)
  have HG9 := boxed hg8
  have HZ9 := boxed hz8
  have HML := boxed hml
  have hz68 := HB8.out.size
  have hB6 := HB6.out.size
  have HM2 := boxed hM
  clear hg8 hz8 hml hM HG8 HZ8 HG7 HR7 HX6 HX7 HX8 HAd HAr HTd HR6 HT6 HM4 HT4 HTq
  go_wp2_with fail
  go_loopw [17] (fun va wr => ∃ (i : Nat) (Mi : List Mk), i ≤ s.L.length ∧ va = .int .i64 (i : Nat) ∧ Box (Mi.length = s.L.length ∧ ∀ j, i ≤ j → Mi[j]? = M[j]?) ∧ Box (wr.ownsRow w6.heap.size 36 3 (.slice (some ⟨g, 0, none⟩) s.L.length s.L.length) s.L.length (mcs Mi)) ∧ Box (Chg (fun b => b = g) w8 wr)) (fun va _ => ((s.L.length : Int) - intOf va).toNat)
  case atStart => exact ⟨0, M, Nat.zero_le _, rfl, boxed ⟨HML.out, fun _ _ => rfl⟩, HG9, boxed (Chg.refl _ _)⟩
  case round =>
    obtain ⟨i, Mi, h1, rfl, HMi, HGi, HCi⟩ := hrel
    have HPr := boxed (HP8.out.keep HCi.out (by
      rintro q hO rfl
      have := HOw.out _ hO
      omega))
    have HZr := boxed (chg_own HZ9.out HCi.out (by
      rintro q hq rfl
      exact own_two HG9.out HZ9.out (by decide) _ rfl hq))
    have HBr := boxed (HB9.out.trans (HCi.out.below (by omega) (fun q hq => by omega)))
    by_cases hlt : i < s.L.length
    · have hiM : i < M.length := by rw [HML.out]; exact hlt
      have hiMi : i < Mi.length := by rw [HMi.out.1]; exact hlt
      have hmi : Mi[i]'hiMi = M[i]'hiM := by
        have := HMi.out.2 i (Nat.le_refl _)
        rw [List.getElem?_eq_getElem hiMi, List.getElem?_eq_getElem hiM] at this
        injection this
      have HNx : Box (∀ q, ((wr.drewN q).setCell ⟨g, i * 3 + 1, none⟩ (.int .i64 (-1))).ownsRow w6.heap.size 36 3 (.slice (some ⟨g, 0, none⟩) s.L.length s.L.length) s.L.length (mcs (Mi.set i { Mi[i]'hiMi with pl := -1 })) ∧ Chg (fun b => b = g) w8 ((wr.drewN q).setCell ⟨g, i * 3 + 1, none⟩ (.int .i64 (-1)))) := boxed (fun q => by
        have ho := own_set (owns_below HGi.out (bel_drewN _ wr q)) (j := i * 3 + 1) (.int .i64 (-1)) (by rw [mcs_len]; omega)
        rw [mcs_set_pl Mi i hiMi (-1)] at ho
        exact ⟨ho, (HCi.out.trans (Chg.of_below (bel_drewN _ _ _))).trans (Chg.set _ g _ _ rfl)⟩)
      have HMx : Box ((Mi.set i { Mi[i]'hiMi with pl := -1 }).length = s.L.length ∧ ∀ j, i + 1 ≤ j → (Mi.set i { Mi[i]'hiMi with pl := -1 })[j]? = M[j]?) := boxed (by
        refine ⟨by rw [List.length_set]; exact HMi.out.1, fun j hj => ?_⟩
        rw [List.getElem?_set_ne (by omega)]
        exact HMi.out.2 j (by omega))
      obtain ⟨ga, ca, ea, hca, d0, d1, d2, hfz⟩ := own_mk HGi.out i hiMi
      rw [hmi] at d0 d1 d2
      injection ea with ea1 _ ea3
      injection ea1 with ea1
      injection ea1 with ea1
      subst ea1; subst ea3
      obtain ⟨gb, cb, eb, hcb, f0, f1, f2, -⟩ := own_mk HZr.out i hiM
      injection eb with eb1 _ eb3
      subst eb1; subst eb3
      have hlt2 : (i : Int) < (s.L.length : Int) := by omega
      have hf1 := hfz (i * 3 + 1)
      clear hmi hfz
      generalize (M[i]'hiM).id = I at *
      generalize (M[i]'hiM).pl = P at *
      generalize (M[i]'hiM).st = T at *
      go_wp2
      go_quiet (fail)
      go_wp2_with fail
      go_roundw
      case rel => exact ⟨i + 1, _, by omega, by go_num, HMx, boxed (HNx.out _).1, boxed (HNx.out _).2⟩
      case measure => simp [intOf]; omega
    · have e : i = s.L.length := by omega
      subst e
      by_cases hn0 : s.L.length = 0
      · have HFi : Box (∀ q, Below w.heap.size w (wr.drewN q)) := boxed (fun q => HBr.out.trans (bel_drewN _ _ _))
        go_wp2_with fail
        go_quiet (fail)
        go_wp2_with fail
        go_ret
        exact ⟨rfl, HFi.out _⟩
      · have h0M : 0 < M.length := by rw [HML.out]; omega
        obtain ⟨gb, cb, eb, hcb, f0, f1, f2, -⟩ := own_mk HZr.out 0 h0M
        injection eb with eb1 _ eb3
        subst eb1; subst eb3
        have HDr : Box (Below wr.heap.size wr wr.drew) := boxed (Below.refl _ _).drew
        have HAl9 := boxed (HAl.out _ (HPr.out.below HDr.out))
        have f1' : wr.cell? ⟨gb, 1, none⟩ = some (.int .i64 (M[0]'h0M).pl) := by simpa using f1
        have HF1 := boxed f1'
        have HMe : Box (∀ (w9 : World) (g9 : Nat), w9.ownsRow wr.drew.heap.size 36 3 (.slice (some ⟨g9, 0, none⟩) s.L.length s.L.length) s.L.length (mcs (srt s.L)) → w9.cell? ⟨g9, 1, none⟩ = some (.int .i64 (M[0]'h0M).pl)) := boxed (fun w9 g9 h9 => by
          rw [HM2.out] at h9
          obtain ⟨gc, cc, ec, -, -, q1, -⟩ := own_mk h9 0 h0M
          injection ec with ec1 _ _
          injection ec1 with ec1
          injection ec1 with ec1
          subst ec1
          simpa using q1)
        have u0 : ((s.L.length : Int) == 0) = false := by rw [beq_eq_false_iff_ne]; omega
        have hi0 : (0 : Int) < (s.L.length : Int) := by omega
        clear f0 f1 f2 f1' hn0
        generalize (M[0]'h0M).pl = P0 at *
        have g1 := HF1.out
        go_wp2_with fail
        go_region_with
          (first | (go_at_call 16; with_reducible refine HAl9.out.mono ?_; rintro e' w9 ⟨⟨g9, rfl, hg9⟩, hb9⟩; have hx1 := hold (below_step HDr.out (Nat.le_refl _) hb9) HF1.out; have hx9 := HMe.out _ _ hg9; have HB99 := boxed (HBr.out.trans ((below_step HDr.out (Nat.le_refl _) hb9).mono HBr.out.size)); clear hg9 hb9 g1))
        all_goals
          go_wp2_with fail
          go_ret
          exact ⟨by first | rfl | simp, HB99.out⟩

set_option maxRecDepth 100000 in
theorem lifted (os : Os) (started : os.Started) (H : Type) (enc : TypeId × Value → H) :
    ReturnsInHanded {} Try.checked os 3 .any (Rows.marksPlaySpec.pre6 enc Try.prog Try.f3 Rows.marksPlayRow.domain false) (Rows.marksPlaySpec.post enc Try.prog Try.f3 false true false false) := by
  refine returnsInHanded_of_change_sized (C := Try.checked) own started (by kernel_rfl) Try.func3
    (ChangeSpec.witness6 (enc := enc) (C := Try.checked) false ⟨#[], #[.int .i64 0, .slice none 0 0, .int .i64 0], []⟩ 8 (by kernel_rfl) (by kernel_rfl) (by kernel_rfl) (by kernel_rfl)) ?_
  intro W base args ds gs before hval0 hW hcnd hsz0 _
  have hval : ∀ (j : Nat) t v, Try.f3.params[j]? = some t → args[j]? = some v → Value.okWide Try.prog W .any base t v := hval0
  have hsz : (DataW.weightsEach Try.prog (Try.f3.params.toList ++ Rows.marksPlaySpec.plain.varTypes Try.prog) (ds ++ gs)).all (· ≤ reachBytes) = true := hsz0
  have hW' := hW
  obtain ⟨p, q, hA0, hV, rfl, hfz, hnd⟩ := hW
  have hA : DataW.TrodAll enc Try.prog W 0 (fun _ => true) true Try.f3.params.toList args.toList ds p := hA0
  rw [Try.params3] at hA hval hsz
  obtain ⟨v0, vs0, d0, ds0, p0, q0, hargs, rfl, rfl, h0, r0⟩ := trodAll_cons hA
  obtain ⟨v1, vs1, d1, ds1, p1, q1, rfl, rfl, rfl, h1, r1⟩ := trodAll_cons r0
  obtain ⟨v2, vs2, d2, ds2, p2, q2, rfl, rfl, rfl, h2, r2⟩ := trodAll_cons r1
  obtain ⟨rfl, rfl, rfl⟩ := trodAll_nil r2
  obtain rfl : args = #[v0, v1, v2] := by cases args; simp_all
  obtain ⟨rfl, rfl⟩ := trodVars_none hV
  obtain ⟨a0, rfl, rfl, rfl, w0⟩ := open_int Try.underlying3 (hval 0 3 v0 rfl rfl) h0
  obtain ⟨ao1, n1, cap1, rfl⟩ := okWide_slice Try.underlying22 (hval 1 22 v1 rfl rfl)
  have k1 := h1
  have lt1 : ∀ x ∈ p1, x.block < W.heap.size := by obtain ⟨m, hm⟩ := k1; exact DataW.trod_lt m _ _ _ hm
  obtain ⟨O1, hO1⟩ : ∃ O, OpsAt W.heap.size W ao1 n1 O := by
    obtain ⟨fuel, hf⟩ := k1
    exact open_ops16 hf
  obtain ⟨a2, rfl, rfl, rfl, w2⟩ := open_int Try.underlying3 (hval 2 3 v2 rfl rfl) h2
  clear hA0 hval0
  refine (walk W a0 w0 ao1 n1 cap1 O1 hO1 a2 w2).mono fun e W' ⟨he, hg⟩ => ?_
  subst he
  exact ⟨_, rfl, _, _, _, [], _, [], hW', trodAll_mk1 (shut_bool Try.underlying4 _), (trodAll_cons_mk (shut_int Try.underlying3 w0) (trodAll_cons_mk (Below.trod laidOut (by kernel_rfl) (of_decide_eq_true (by kernel_rfl)) k1 hg lt1) (trodAll_cons_mk (shut_int Try.underlying3 w2) trodAll_mk0))), rfl, hg.frame _, fun h => by cases h⟩

theorem proved : Rows.MarksPlaySaid :=
  OpenClaim.holds_of_wide 3 Try.f3 rfl rfl rfl rfl rfl rfl rfl ⟨rfl, rfl, rfl, rfl, rfl⟩ rfl rfl rfl rfl rfl (by kernel_rfl) Try.func3 (by kernel_rfl)
    (of_decide_eq_true (by kernel_rfl)) (by unfold Func.isWrapper; first | (rw [if_pos (by decide +kernel)]; kernel_rfl) | (rw [if_neg (by decide +kernel)]; exact ⟨rfl, rfl⟩))
    (fun os started H enc _ => lifted os started H enc)
#print axioms proved
end Go.Proofs.Ytdaccgnfhagoeaa.marksPlay
