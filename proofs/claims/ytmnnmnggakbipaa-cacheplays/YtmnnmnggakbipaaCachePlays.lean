/-
  For every room and every script the law CachePlays answers true and leaves its arguments as they were: any calls in any order find what was put last for a key, what was asked for longest ago goes first, and there is never more than there is room for.
-/
import Derived.Test.YtmnnmnggakbipaaRows
import Derived.WalkKit
import Derived.ProofKit
import Derived.OpenShut
import Derived.SizedLaws
import Derived.ShutString
import Derived.ChangeOld
import Derived.Below
import Derived.Test.YtmnnmnggakbipaaSd
import Derived.Test.YtmnnmnggakbipaaSe
import Derived.Deep.RegionHeld3
namespace Go.Proofs.Ytmnnmnggakbipaa.cachePlays
open Go.ChangeShapes Go.WideShapes Go.ChangeAt Go.RowKit
open Go.ChangeMaps (open_string shut_string)
set_option linter.unusedVariables false
set_option linter.unusedSimpArgs false

theorem own : ownKnob Try.prog.godebug = none := by kernel_rfl
theorem laidOut : laidOutB Try.prog = true := by kernel_rfl

set_option maxRecDepth 100000 in
set_option maxHeartbeats 2000000 in
theorem walk (w : World) (a0 : Int) (w0 : (Lit.int .i64 a0).wf = true) (ao1 : Option Addr) (n1 cap1 : Nat) (O1 : Nat → Opr) (hn1 : n1 ≤ maxLen) (hO1 : OpsAt w ao1 n1 O1) :
    Calls Try.prog 3 #[.int .i64 a0, .slice ao1 n1 cap1] w fun e w' => e = .returned (.bool true) ∧ Below w.heap.size w w' := by
  have HPl := boxed (fun W (hb : Below w.heap.size w W) (hr : 0 ≤ a0 ∧ a0 ≤ 64) => played_any W a0 ao1 n1 cap1 O1 (hO1.below hb) hn1 hr)
  clear hO1 hn1 w0
  go_enter Try.func3, Try.ntmps3
  go_wp2_with fail
  refine (awake_any _).mono ?_
  rintro e w1 ⟨rfl, hb1⟩
  have HB1 := boxed hb1
  clear hb1
  by_cases c1 : a0 < 0
  · have t1 : decide (a0 < 0) = true := decide_eq_true c1
    clear c1 HPl
    go_wp2
    go_ret
    exact ⟨rfl, HB1.out⟩
  have t1 : decide (a0 < 0) = false := decide_eq_false c1
  by_cases c2 : 64 < a0
  · have t2 : decide ((64 : Int) < a0) = true := decide_eq_true c2
    clear c1 c2 HPl
    go_wp2
    go_ret
    exact ⟨rfl, HB1.out⟩
  have t2 : decide ((64 : Int) < a0) = false := decide_eq_false c2
  replace HPl := boxed (HPl.out _ HB1.out ⟨by omega, by omega⟩)
  have hr64 : a0 ≤ 64 := by omega
  clear c1 c2
  go_wp2_with fail
  refine HPl.out.mono ?_
  rintro r w2 ⟨F, cb, mb, fo, mi, L, Bk, M, lo, n, lc, es, rfl, hca, hrs, hab, hn, hF, hb, hpl, hnum⟩
  have hb2 : Below w.heap.size w w2 := below_step HB1.out (Nat.le_refl _) hb
  have hnL : n = L.length := by rw [hn]; have := congrArg List.length hab; simpa [abR, abL] using this
  have hn64 : n ≤ 64 := by have := hca.len; omega
  obtain ⟨Z, hZ⟩ : ∃ Z, w2.alloc (.cells #[.int .i64 a0, .slice lo n lc, .int .i64 fo, .int .i64 mi] 27) = Z := ⟨_, rfl⟩
  have hbZ : Below w2.heap.size w2 Z := by rw [← hZ]; exact (Below.refl _ _).alloc (Nat.le_refl _) _
  have HCa := boxed (hca.below hbZ)
  have HRs := boxed (hrs.below hbZ)
  have HBZ := boxed (below_step hb2 (Nat.le_refl _) hbZ)
  have HZ := boxed hZ
  have hZh : Z.heap[w2.heap.size]? = some (.cells #[.int .i64 a0, .slice lo n lc, .int .i64 fo, .int .i64 mi] 27 (0, 0)) := by rw [← hZ]; exact heap_alloc_new w2 _
  have HZh := boxed hZh
  have hlk : es.map (fun e => e.k.ky) = L.map (fun e => e.k.ky) := by have := congrArg (List.map (·.1)) hab; simpa [abL, abR, Function.comp_def] using this
  have HLK := boxed hlk
  have HNe := boxed hn
  have HNL := boxed hnL
  clear hrs hab hn hpl hb2 hb hF hca HPl HB1 hbZ hZ hnum hZh hlk hnL t1 t2
  go_upto_region 6 with fail
  rw [HZ.out]
  clear HZ
  go_wp2_with fail
  refine (keys_any _ F cb mb _ _ _ L Bk M HCa.out).mono ?_
  rintro r w3 ⟨v, ks, rfl, hks, hkm, hb3⟩
  have hkl : ks.length = n := by rw [HNL.out]; have := congrArg List.length hkm; simpa using this
  obtain ⟨kao, kcap, rfl⟩ := own_shape hks.row
  have HKs := boxed hks
  have HKm := boxed (hkm.trans HLK.out.symm)
  have HB3 := boxed hb3
  have HKl := boxed hkl
  rw [hkl] at HKs ⊢
  clear hks hkm hb3 hkl HLK
  go_wp2_with fail
  refine (asked_any (HCa.out.below HB3.out)).mono ?_
  rintro r w4 ⟨rfl, hb4⟩
  have HBZ4 := boxed (below_step HB3.out (Nat.le_refl _) hb4)
  have HKs4 := boxed (HKs.out.below hb4)
  have hS4 := (HBZ4.out.block _ (heap_lt HZh.out)).trans HZh.out
  obtain ⟨l0, l1, l2, l3⟩ := cells4 hS4
  clear hb4 hS4 HKs HB3
  go_wp2_with fail
  refine (room_any (HCa.out.below HBZ4.out)).mono ?_
  rintro r w5 ⟨rfl, rfl⟩
  have HRs4 := boxed (HRs.out.below HBZ4.out)
  have HBw := boxed (below_step HBZ.out (Nat.le_refl _) HBZ4.out)
  have hlt2 := heap_lt HZh.out
  have HL4 := boxed l1
  clear HCa HBZ HZh HBZ4 HRs
  go_wp2_with fail
  go_loopw [10] (fun vi wr => ∃ i : Nat, i ≤ n ∧ vi = .int .i64 (i : Nat) ∧ Box (Below w5.heap.size w5 wr)) (fun vi _ => n - (intOf vi).toNat)
  case atStart => exact ⟨0, Nat.zero_le _, rfl, boxed (Below.refl _ _)⟩
  case round =>
    obtain ⟨i, hin, rfl, HD0⟩ := hrel
    by_cases hlt : i < n
    · have hkl : i < ks.length := by rw [HKl.out]; exact hlt
      have hel : i < es.length := by rw [← HNe.out]; exact hlt
      have hki : ks[i]? = some ks[i] := List.getElem?_eq_getElem hkl
      have hei : es[i]? = some es[i] := List.getElem?_eq_getElem hel
      have hkk : (ks[i]).ky = (es[i]).k.ky := by
        have e1 : (ks.map Kv.ky)[i]? = some (ks[i]).ky := by simp [hki]
        have e2 : (es.map (fun e => e.k.ky))[i]? = some (es[i]).k.ky := by simp [hei]
        rw [HKm.out, e2] at e1
        injection e1 with e1
        exact e1.symm
      generalize ks[i] = x at hki hkk
      generalize es[i] = e at hei hkk
      obtain ⟨kb, koff, hko⟩ := HKs4.out.form (by omega)
      subst hko
      obtain ⟨lb, loff, hlo, -⟩ := HRs4.out.form (by omega)
      subst hlo
      obtain ⟨hxk, hxf, hxc⟩ := HKs4.out.key x (List.mem_of_getElem? hki)
      obtain ⟨hyk, hyf, hyc⟩ := HRs4.out.key e (List.mem_of_getElem? hei)
      obtain ⟨y, ev⟩ := e
      simp only at hyk hyf hyc hkk
      have HRf := boxed (fun W => refk_any x W)
      have HAx : Box (∀ W', Below w5.heap.size w5 W' → Calls Try.prog 14 #[x.val, y.val] W' fun r w' => r = .returned (.bool true) ∧ Below W'.heap.size W' w') := boxed (fun W' hb => (refalike_any x y W' (hxk.weak.below hb) (hyk.weak.below hb) hxf hyf).mono fun r w' ⟨b, hr, hb1, hb2⟩ => ⟨by rw [hr, hb1.2 hkk], hb2⟩)
      have HX2 : Box (∀ W', Below w5.heap.size w5 W' → W'.cell? ⟨kb, koff + i * 11, none⟩ = some (.string x.tx) ∧ W'.cell? ⟨kb, koff + i * 11 + 1, none⟩ = some (.slice x.ra x.rn x.rc) ∧ W'.cell? ⟨kb, koff + i * 11 + 2, none⟩ = some (.int .i64 x.ta) ∧ W'.cell? ⟨kb, koff + i * 11 + 3, none⟩ = some (.int .i64 x.wd) ∧ W'.cell? ⟨kb, koff + i * 11 + 4, none⟩ = some (.int .i64 x.s.t) ∧ W'.cell? ⟨kb, koff + i * 11 + 5, none⟩ = some (.int .i64 x.s.l) ∧ W'.cell? ⟨kb, koff + i * 11 + 6, none⟩ = some (.int .i64 x.s.a) ∧ W'.cell? ⟨kb, koff + i * 11 + 7, none⟩ = some (.int .i64 x.s.d) ∧ W'.cell? ⟨kb, koff + i * 11 + 8, none⟩ = some (.int .i64 x.s.z) ∧ W'.cell? ⟨kb, koff + i * 11 + 9, none⟩ = some (.int .i64 x.s.o) ∧ W'.cell? ⟨kb, koff + i * 11 + 10, none⟩ = some (.int .i64 x.s.i) ∧ W'.cell? ⟨lb, loff + i * 12, none⟩ = some (.string y.tx) ∧ W'.cell? ⟨lb, loff + i * 12 + 1, none⟩ = some (.slice y.ra y.rn y.rc) ∧ W'.cell? ⟨lb, loff + i * 12 + 2, none⟩ = some (.int .i64 y.ta) ∧ W'.cell? ⟨lb, loff + i * 12 + 3, none⟩ = some (.int .i64 y.wd) ∧ W'.cell? ⟨lb, loff + i * 12 + 4, none⟩ = some (.int .i64 y.s.t) ∧ W'.cell? ⟨lb, loff + i * 12 + 5, none⟩ = some (.int .i64 y.s.l) ∧ W'.cell? ⟨lb, loff + i * 12 + 6, none⟩ = some (.int .i64 y.s.a) ∧ W'.cell? ⟨lb, loff + i * 12 + 7, none⟩ = some (.int .i64 y.s.d) ∧ W'.cell? ⟨lb, loff + i * 12 + 8, none⟩ = some (.int .i64 y.s.z) ∧ W'.cell? ⟨lb, loff + i * 12 + 9, none⟩ = some (.int .i64 y.s.o) ∧ W'.cell? ⟨lb, loff + i * 12 + 10, none⟩ = some (.int .i64 y.s.i) ∧ W'.cell? ⟨w2.heap.size, 1, none⟩ = some (.slice (some ⟨lb, loff, none⟩) n lc)) := boxed (fun W' hb => by
        obtain ⟨q0, q1, q2, q3, q4, q5, q6, q7, q8, q9, q10⟩ := (HKs4.out.below hb).get hki
        obtain ⟨r0, r1, r2, r3, r4, r5, r6, r7, r8, r9, r10, -⟩ := (HRs4.out.below hb).get hei
        exact ⟨q0, q1, q2, q3, q4, q5, q6, q7, q8, q9, q10, r0, r1, r2, r3, r4, r5, r6, r7, r8, r9, r10, hold hb HL4.out⟩)
      have HBc : Box (Below w5.heap.size w5 wr.drew) := boxed (below_step HD0.out (Nat.le_refl _) (Below.refl _ _).drew)
      have hlt3 : (i : Int) < (n : Int) := by omega
      unfold Kv.val at HAx HRf
      clear hki hei hkk hxk hxf hxc hyk hyf hyc hkl hel HKs4 HRs4 HL4 HKm HNe HNL HKl HD0 l0 l1 l2 l3
      go_wp2_with fail
      go_region_held3 (fun W' => W'.cell? ⟨kb, koff + i * 11, none⟩ = some (.string x.tx) ∧ W'.cell? ⟨kb, koff + i * 11 + 1, none⟩ = some (.slice x.ra x.rn x.rc) ∧ W'.cell? ⟨kb, koff + i * 11 + 2, none⟩ = some (.int .i64 x.ta) ∧ W'.cell? ⟨kb, koff + i * 11 + 3, none⟩ = some (.int .i64 x.wd) ∧ W'.cell? ⟨kb, koff + i * 11 + 4, none⟩ = some (.int .i64 x.s.t) ∧ W'.cell? ⟨kb, koff + i * 11 + 5, none⟩ = some (.int .i64 x.s.l) ∧ W'.cell? ⟨kb, koff + i * 11 + 6, none⟩ = some (.int .i64 x.s.a) ∧ W'.cell? ⟨kb, koff + i * 11 + 7, none⟩ = some (.int .i64 x.s.d) ∧ W'.cell? ⟨kb, koff + i * 11 + 8, none⟩ = some (.int .i64 x.s.z) ∧ W'.cell? ⟨kb, koff + i * 11 + 9, none⟩ = some (.int .i64 x.s.o) ∧ W'.cell? ⟨kb, koff + i * 11 + 10, none⟩ = some (.int .i64 x.s.i) ∧ W'.cell? ⟨lb, loff + i * 12, none⟩ = some (.string y.tx) ∧ W'.cell? ⟨lb, loff + i * 12 + 1, none⟩ = some (.slice y.ra y.rn y.rc) ∧ W'.cell? ⟨lb, loff + i * 12 + 2, none⟩ = some (.int .i64 y.ta) ∧ W'.cell? ⟨lb, loff + i * 12 + 3, none⟩ = some (.int .i64 y.wd) ∧ W'.cell? ⟨lb, loff + i * 12 + 4, none⟩ = some (.int .i64 y.s.t) ∧ W'.cell? ⟨lb, loff + i * 12 + 5, none⟩ = some (.int .i64 y.s.l) ∧ W'.cell? ⟨lb, loff + i * 12 + 6, none⟩ = some (.int .i64 y.s.a) ∧ W'.cell? ⟨lb, loff + i * 12 + 7, none⟩ = some (.int .i64 y.s.d) ∧ W'.cell? ⟨lb, loff + i * 12 + 8, none⟩ = some (.int .i64 y.s.z) ∧ W'.cell? ⟨lb, loff + i * 12 + 9, none⟩ = some (.int .i64 y.s.o) ∧ W'.cell? ⟨lb, loff + i * 12 + 10, none⟩ = some (.int .i64 y.s.i) ∧ W'.cell? ⟨w2.heap.size, 1, none⟩ = some (.slice (some ⟨lb, loff, none⟩) n lc))
        (with_reducible exact HX2.out _ HBc.out)
        (first
          | (go_at_call 15; refine (HRf.out _).mono ?_; rintro e9 w9 ⟨rfl, hb9⟩; have HBc := boxed (below_step HBc.out (Nat.le_refl _) hb9); clear hb9)
          | (go_at_call 14; refine (HAx.out _ HBc.out).mono ?_; rintro e9 w9 ⟨rfl, hb9⟩; have HBc := boxed (below_step HBc.out (Nat.le_refl _) hb9); clear hb9))
      clear HX2 HAx HRf
      go_wp2_with fail
      go_roundw
      case rel => exact ⟨i + 1, by omega, by go_num, HBc⟩
      case measure => simp [intOf]; omega
    · obtain rfl : n = i := by omega
      have HE := boxed (below_step HBw.out (Nat.le_refl _) HD0.out)
      clear HKs4 HRs4 HL4 HKm HNe HNL HKl l0 l1 l2 l3 HD0
      go_wp2_with fail
      go_ret
      exact ⟨rfl, HE.out⟩

set_option maxRecDepth 100000 in
theorem lifted (os : Os) (started : os.Started) (H : Type) (enc : TypeId × Value → H) :
    ReturnsInHanded {} Try.checked os 3 .any (Rows.cachePlaysSpec.pre6 enc Try.prog Try.f3 Rows.cachePlaysRow.domain false) (Rows.cachePlaysSpec.post enc Try.prog Try.f3 false true false false) := by
  refine returnsInHanded_of_change_sized (C := Try.checked) own started (by kernel_rfl) Try.func3
    (ChangeSpec.witness6 (enc := enc) (C := Try.checked) false ⟨#[], #[.int .i64 0, .slice none 0 0], []⟩ 8 (by kernel_rfl) (by kernel_rfl) (by kernel_rfl) (by kernel_rfl)) ?_
  intro W base args ds gs before hval0 hW hcnd hsz0 _
  have hval : ∀ (j : Nat) t v, Try.f3.params[j]? = some t → args[j]? = some v → Value.okWide Try.prog W .any base t v := hval0
  have hsz : (DataW.weightsEach Try.prog (Try.f3.params.toList ++ Rows.cachePlaysSpec.plain.varTypes Try.prog) (ds ++ gs)).all (· ≤ reachBytes) = true := hsz0
  have hW' := hW
  obtain ⟨p, q, hA0, hV, rfl, hfz, hnd⟩ := hW
  have hA : DataW.TrodAll enc Try.prog W 0 (fun _ => true) true Try.f3.params.toList args.toList ds p := hA0
  rw [Try.params3] at hA hval hsz
  obtain ⟨v0, vs0, d0, ds0, p0, q0, hargs, rfl, rfl, h0, r0⟩ := trodAll_cons hA
  obtain ⟨v1, vs1, d1, ds1, p1, q1, rfl, rfl, rfl, h1, r1⟩ := trodAll_cons r0
  obtain ⟨rfl, rfl, rfl⟩ := trodAll_nil r1
  obtain rfl : args = #[v0, v1] := by cases args; simp_all
  obtain ⟨rfl, rfl⟩ := trodVars_none hV
  obtain ⟨a0, rfl, rfl, rfl, w0⟩ := open_int Try.underlying3 (hval 0 3 v0 rfl rfl) h0
  obtain ⟨ao1, n1, cap1, rfl⟩ := okWide_slice Try.underlying22 (hval 1 22 v1 rfl rfl)
  have k1 := h1
  have lt1 : ∀ x ∈ p1, x.block < W.heap.size := by obtain ⟨m, hm⟩ := k1; exact DataW.trod_lt m _ _ _ hm
  obtain ⟨hn1, O1, hO1⟩ : n1 ≤ maxLen ∧ ∃ O, OpsAt W ao1 n1 O := by
    obtain ⟨fuel, hf⟩ := k1
    exact open_ops hf
  clear hA0 hval0
  refine (walk W a0 w0 ao1 n1 cap1 O1 hn1 hO1).mono fun e W' ⟨he, hg⟩ => ?_
  subst he
  exact ⟨_, rfl, _, _, _, [], _, [], hW', trodAll_mk1 (shut_bool Try.underlying4 _), (trodAll_cons_mk (shut_int Try.underlying3 w0) (trodAll_cons_mk (Below.trod laidOut (by kernel_rfl) (of_decide_eq_true (by kernel_rfl)) k1 hg lt1) trodAll_mk0)), rfl, hg.frame _, fun h => by cases h⟩

theorem proved : Rows.CachePlaysSaid :=
  OpenClaim.holds_of_wide 3 Try.f3 rfl rfl rfl rfl rfl rfl rfl ⟨rfl, rfl, rfl, rfl, rfl⟩ rfl rfl rfl rfl rfl (by kernel_rfl) Try.func3 (by kernel_rfl)
    (of_decide_eq_true (by kernel_rfl)) (by unfold Func.isWrapper; first | (rw [if_pos (by decide +kernel)]; kernel_rfl) | (rw [if_neg (by decide +kernel)]; exact ⟨rfl, rfl⟩))
    (fun os started H enc _ => lifted os started H enc)
#print axioms proved
end Go.Proofs.Ytmnnmnggakbipaa.cachePlays
