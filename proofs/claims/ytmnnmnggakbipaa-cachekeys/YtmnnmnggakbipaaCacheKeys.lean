/-
  For every two keys the law CacheKeys answers true and leaves its arguments as they were: two keys are alike just if all that they have is, and keys alike have one number.
-/
import Derived.Test.YtmnnmnggakbipaaRows
import Derived.WalkKit
import Derived.ProofKit
import Derived.OpenShut
import Derived.SizedLaws
import Derived.ShutString
import Derived.ChangeOld
import Derived.Below
import Derived.Test.YtmnnmnggakbipaaSd
import Derived.Test.YtmnnmnggakbipaaSe
import Derived.Test.YtmnnmnggakbipaaQg
import Derived.Deep.RegionHeld3
import Derived.Lib.QuietBelow
import Derived.BigQuiet
namespace Go.Proofs.Ytmnnmnggakbipaa.cacheKeys
open Go.ChangeShapes Go.WideShapes Go.ChangeAt Go.RowKit
open Go.ChangeMaps (open_string shut_string)
set_option linter.unusedVariables false
set_option linter.unusedSimpArgs false

theorem own : ownKnob Try.prog.godebug = none := by kernel_rfl
theorem laidOut : laidOutB Try.prog = true := by kernel_rfl

set_option maxRecDepth 100000 in
set_option maxHeartbeats 2000000 in
theorem walk (w : World) (x0 : Kv) (hx0 : KvIs w x0) (x1 : Kv) (hx1 : KvIs w x1) :
    Calls Try.prog 5 #[x0.val, x1.val] w fun e w' => e = .returned (.bool true) ∧ Below w.heap.size w w' := by
  obtain ⟨W0, hW⟩ : ∃ W0, (w.alloc (.cells #[.string x0.tx, .slice x0.ra x0.rn x0.rc, .int .i64 x0.ta, .int .i64 x0.wd, .int .i64 x0.s.t, .int .i64 x0.s.l, .int .i64 x0.s.a, .int .i64 x0.s.d, .int .i64 x0.s.z, .int .i64 x0.s.o, .int .i64 x0.s.i] 42)).alloc (.cells #[.string x1.tx, .slice x1.ra x1.rn x1.rc, .int .i64 x1.ta, .int .i64 x1.wd, .int .i64 x1.s.t, .int .i64 x1.s.l, .int .i64 x1.s.a, .int .i64 x1.s.d, .int .i64 x1.s.z, .int .i64 x1.s.o, .int .i64 x1.s.i] 42) = W0 := ⟨_, rfl⟩
  have HQ := laid2 w (.cells #[.string x0.tx, .slice x0.ra x0.rn x0.rc, .int .i64 x0.ta, .int .i64 x0.wd, .int .i64 x0.s.t, .int .i64 x0.s.l, .int .i64 x0.s.a, .int .i64 x0.s.d, .int .i64 x0.s.z, .int .i64 x0.s.o, .int .i64 x0.s.i] 42) (.cells #[.string x1.tx, .slice x1.ra x1.rn x1.rc, .int .i64 x1.ta, .int .i64 x1.wd, .int .i64 x1.s.t, .int .i64 x1.s.l, .int .i64 x1.s.a, .int .i64 x1.s.d, .int .i64 x1.s.z, .int .i64 x1.s.o, .int .i64 x1.s.i] 42)
  rw [hW] at HQ
  obtain ⟨f0, f1, hB, hz⟩ := HQ
  have hBw : ∀ W, Below W0.heap.size W0 W → Below w.heap.size w W := fun W hb => below_step hB (Nat.le_refl _) hb
  have HX : Box (∀ W', Below W0.heap.size W0 W' → W'.cell? ⟨w.heap.size, 0, none⟩ = some (.string x0.tx) ∧ W'.cell? ⟨w.heap.size, 1, none⟩ = some (.slice x0.ra x0.rn x0.rc) ∧ W'.cell? ⟨w.heap.size, 2, none⟩ = some (.int .i64 x0.ta) ∧ W'.cell? ⟨w.heap.size, 3, none⟩ = some (.int .i64 x0.wd) ∧ W'.cell? ⟨w.heap.size, 4, none⟩ = some (.int .i64 x0.s.t) ∧ W'.cell? ⟨w.heap.size, 5, none⟩ = some (.int .i64 x0.s.l) ∧ W'.cell? ⟨w.heap.size, 6, none⟩ = some (.int .i64 x0.s.a) ∧ W'.cell? ⟨w.heap.size, 7, none⟩ = some (.int .i64 x0.s.d) ∧ W'.cell? ⟨w.heap.size, 8, none⟩ = some (.int .i64 x0.s.z) ∧ W'.cell? ⟨w.heap.size, 9, none⟩ = some (.int .i64 x0.s.o) ∧ W'.cell? ⟨w.heap.size, 10, none⟩ = some (.int .i64 x0.s.i) ∧ W'.cell? ⟨w.heap.size + 1, 0, none⟩ = some (.string x1.tx) ∧ W'.cell? ⟨w.heap.size + 1, 1, none⟩ = some (.slice x1.ra x1.rn x1.rc) ∧ W'.cell? ⟨w.heap.size + 1, 2, none⟩ = some (.int .i64 x1.ta) ∧ W'.cell? ⟨w.heap.size + 1, 3, none⟩ = some (.int .i64 x1.wd) ∧ W'.cell? ⟨w.heap.size + 1, 4, none⟩ = some (.int .i64 x1.s.t) ∧ W'.cell? ⟨w.heap.size + 1, 5, none⟩ = some (.int .i64 x1.s.l) ∧ W'.cell? ⟨w.heap.size + 1, 6, none⟩ = some (.int .i64 x1.s.a) ∧ W'.cell? ⟨w.heap.size + 1, 7, none⟩ = some (.int .i64 x1.s.d) ∧ W'.cell? ⟨w.heap.size + 1, 8, none⟩ = some (.int .i64 x1.s.z) ∧ W'.cell? ⟨w.heap.size + 1, 9, none⟩ = some (.int .i64 x1.s.o) ∧ W'.cell? ⟨w.heap.size + 1, 10, none⟩ = some (.int .i64 x1.s.i)) := boxed (fun W' hb => by
    obtain ⟨a0, a1, a2, a3, a4, a5, a6, a7, a8, a9, a10⟩ := cells11 ((hb.block w.heap.size (by omega)).trans f0)
    obtain ⟨b0, b1, b2, b3, b4, b5, b6, b7, b8, b9, b10⟩ := cells11 ((hb.block (w.heap.size + 1) (by omega)).trans f1)
    exact ⟨a0, a1, a2, a3, a4, a5, a6, a7, a8, a9, a10, b0, b1, b2, b3, b4, b5, b6, b7, b8, b9, b10⟩)
  obtain ⟨is, his⟩ : ∃ b : Bool, (b = true ↔ x0.ky = x1.ky) := by
    by_cases c : x0.ky = x1.ky
    · exact ⟨true, by simp [c]⟩
    · exact ⟨false, by simp [c]⟩
  have HF0 := boxed (fun W (hb : Below W0.heap.size W0 W) => fits_any _ x0 W (hx0.kv.below (hBw W hb)))
  have HF1 := boxed (fun W (hb : Below W0.heap.size W0 W) => fits_any _ x1 W (hx1.kv.below (hBw W hb)))
  have HA01 : Box (∀ W, Below W0.heap.size W0 W → Calls Try.prog 22 #[x0.val, x1.val] W fun e w' => e = .returned (.bool is) ∧ Below W.heap.size W w') := boxed (fun W hb => (alike_any x0 x1 W (hx0.kv.below (hBw W hb)) (hx1.kv.below (hBw W hb)) hx0.rn.2 hx1.rn.2).mono fun e w' ⟨r, he, hr, hb'⟩ => ⟨by rw [he, Bool.eq_iff_iff.2 (hr.trans his.symm)], hb'⟩)
  have HA10 : Box (∀ W, Below W0.heap.size W0 W → Calls Try.prog 22 #[x1.val, x0.val] W fun e w' => e = .returned (.bool is) ∧ Below W.heap.size W w') := boxed (fun W hb => (alike_any x1 x0 W (hx1.kv.below (hBw W hb)) (hx0.kv.below (hBw W hb)) hx1.rn.2 hx0.rn.2).mono fun e w' ⟨r, he, hr, hb'⟩ => ⟨by rw [he, Bool.eq_iff_iff.2 (hr.trans (eq_comm.trans his.symm))], hb'⟩)
  have HA00 : Box (∀ W, Below W0.heap.size W0 W → Calls Try.prog 22 #[x0.val, x0.val] W fun e w' => e = .returned (.bool true) ∧ Below W.heap.size W w') := boxed (fun W hb => (alike_any x0 x0 W (hx0.kv.below (hBw W hb)) (hx0.kv.below (hBw W hb)) hx0.rn.2 hx0.rn.2).mono fun e w' ⟨r, he, hr, hb'⟩ => ⟨by rw [he, hr.2 rfl], hb'⟩)
  have HRA : Box (Fits x0 → Fits x1 → ∀ W, Below W0.heap.size W0 W → Calls Try.prog 14 #[x0.val, x1.val] W fun e w' => e = .returned (.bool is) ∧ Below W.heap.size W w') := boxed (fun h0 h1 W hb => (refalike_any x0 x1 W (hx0.kv.below (hBw W hb)) (hx1.kv.below (hBw W hb)) h0 h1).mono fun e w' ⟨r, he, hr, hb'⟩ => ⟨by rw [he, Bool.eq_iff_iff.2 (hr.trans his.symm)], hb'⟩)
  have HH0 : Box (Fits x0 → ∀ W, Below W0.heap.size W0 W → Calls Try.prog 23 #[x0.val] W fun e w' => e = .returned (.int .u64 (hsh x0.ky)) ∧ Below W.heap.size W w') := boxed (fun h0 W hb => hash_any x0 W (hx0.kv.below (hBw W hb)) (by have := h0.tx; omega) hx0.rn.1)
  have HH1 : Box (Fits x1 → ∀ W, Below W0.heap.size W0 W → Calls Try.prog 23 #[x1.val] W fun e w' => e = .returned (.int .u64 (hsh x1.ky)) ∧ Below W.heap.size W w') := boxed (fun h1 W hb => hash_any x1 W (hx1.kv.below (hBw W hb)) (by have := h1.tx; omega) hx1.rn.1)
  have HR0 := boxed (fun W => refk_any x0 W)
  have HR1 := boxed (fun W => refk_any x1 W)
  have HB := boxed hBw
  have HW := boxed hW
  have HE : Box (is = true → hsh x1.ky = hsh x0.ky) := boxed (fun c => by rw [his.1 c])
  clear hx0 hx1 hBw hW f0 f1 hB his
  generalize hsh x0.ky = h0 at *
  generalize hsh x1.ky = h1 at *
  generalize Fits x0 = G0 at *
  generalize Fits x1 = G1 at *
  unfold Kv.val at *
  go_enter Try.func5, Try.ntmps5
  go_wp2_with fail
  rw [HW.out]
  refine (awake_any _).mono ?_
  rintro e w1 ⟨rfl, hb1⟩
  have HB1 := boxed hb1
  obtain ⟨a0, a1, a2, a3, a4, a5, a6, a7, a8, a9, a10, b0, b1, b2, b3, b4, b5, b6, b7, b8, b9, b10⟩ := HX.out _ HB1.out
  clear hb1 HW
  go_wp2_with fail
  refine (HF0.out _ HB1.out).mono ?_
  rintro e w2 ⟨r0, rfl, hr0, hb2⟩
  have HB2 := boxed (below_step HB1.out (Nat.le_refl _) hb2)
  obtain _ | _ := r0
  · have HE2 := boxed (HB.out _ HB2.out)
    clear hr0 hb2 HX HF0 HF1 HA01 HA10 HA00 HRA HH0 HH1 HR0 HR1 HB HE a0 b0 a1 b1 a2 b2 a3 b3 a4 b4 a5 b5 a6 b6 a7 b7 a8 b8 a9 b9 a10 b10
    go_wp2
    go_ret
    exact ⟨rfl, HE2.out⟩
  have g0 := hr0.1 rfl
  clear hb2 a0 b0 a1 b1 a2 b2 a3 b3 a4 b4 a5 b5 a6 b6 a7 b7 a8 b8 a9 b9 a10 b10 hr0
  obtain ⟨a0, a1, a2, a3, a4, a5, a6, a7, a8, a9, a10, b0, b1, b2, b3, b4, b5, b6, b7, b8, b9, b10⟩ := HX.out _ HB2.out
  go_wp2_with fail
  refine (HF1.out _ HB2.out).mono ?_
  rintro e w3 ⟨r1, rfl, hr1, hb3⟩
  have HB3 := boxed (below_step HB2.out (Nat.le_refl _) hb3)
  obtain _ | _ := r1
  · have HE3 := boxed (HB.out _ HB3.out)
    clear hr1 hb3 HX HF0 HF1 HA01 HA10 HA00 HRA HH0 HH1 HR0 HR1 HB HE a0 b0 a1 b1 a2 b2 a3 b3 a4 b4 a5 b5 a6 b6 a7 b7 a8 b8 a9 b9 a10 b10
    go_wp2
    go_ret
    exact ⟨rfl, HE3.out⟩
  have g1 := hr1.1 rfl
  replace HRA := boxed (HRA.out g0 g1)
  replace HH0 := boxed (HH0.out g0)
  replace HH1 := boxed (HH1.out g1)
  clear hb3 a0 b0 a1 b1 a2 b2 a3 b3 a4 b4 a5 b5 a6 b6 a7 b7 a8 b8 a9 b9 a10 b10 hr1 HF0 HF1
  obtain ⟨a0, a1, a2, a3, a4, a5, a6, a7, a8, a9, a10, b0, b1, b2, b3, b4, b5, b6, b7, b8, b9, b10⟩ := HX.out _ HB3.out
  go_wp2_with fail
  refine (HA01.out _ HB3.out).mono ?_
  rintro e w4 ⟨rfl, hb4⟩
  have HB4 := boxed (below_step HB3.out (Nat.le_refl _) hb4)
  clear a0 a1 a2 a3 a4 a5 a6 a7 a8 a9 a10 b0 b1 b2 b3 b4 b5 b6 b7 b8 b9 b10
  obtain ⟨a0, a1, a2, a3, a4, a5, a6, a7, a8, a9, a10, b0, b1, b2, b3, b4, b5, b6, b7, b8, b9, b10⟩ := HX.out _ HB4.out
  have CR0 := boxed (fun d os => Calls.regrown_of (w := w4) (d := d) (os := os) (HR0.out _))
  have CR1 := boxed (fun d os => Calls.regrown_of (w := w4) (d := d) (os := os) (HR1.out _))
  have CRA := boxed (fun d os => Calls.regrown_of (w := w4) (d := d) (os := os) (HRA.out _ (below_step HB4.out (Nat.le_refl _) (below_regrown w4 d os))))
  have CA10 := boxed (fun d os => Calls.regrown_of (w := w4) (d := d) (os := os) (HA10.out _ (below_step HB4.out (Nat.le_refl _) (below_regrown w4 d os))))
  have CA00 := boxed (fun d os => Calls.regrown_of (w := w4) (d := d) (os := os) (HA00.out _ (below_step HB4.out (Nat.le_refl _) (below_regrown w4 d os))))
  have CH0 := boxed (fun d os => Calls.regrown_of (w := w4) (d := d) (os := os) (HH0.out _ (below_step HB4.out (Nat.le_refl _) (below_regrown w4 d os))))
  have CH1 := boxed (fun d os => Calls.regrown_of (w := w4) (d := d) (os := os) (HH1.out _ (below_step HB4.out (Nat.le_refl _) (below_regrown w4 d os))))
  have va0 := cell_regrown a0
  have va1 := cell_regrown a1
  have va2 := cell_regrown a2
  have va3 := cell_regrown a3
  have va4 := cell_regrown a4
  have va5 := cell_regrown a5
  have va6 := cell_regrown a6
  have va7 := cell_regrown a7
  have va8 := cell_regrown a8
  have va9 := cell_regrown a9
  have va10 := cell_regrown a10
  have vb0 := cell_regrown b0
  have vb1 := cell_regrown b1
  have vb2 := cell_regrown b2
  have vb3 := cell_regrown b3
  have vb4 := cell_regrown b4
  have vb5 := cell_regrown b5
  have vb6 := cell_regrown b6
  have vb7 := cell_regrown b7
  have vb8 := cell_regrown b8
  have vb9 := cell_regrown b9
  have vb10 := cell_regrown b10
  have hun : undef = Value.tuple #[] := rfl
  clear hb4 a0 a1 a2 a3 a4 a5 a6 a7 a8 a9 a10 b0 b1 b2 b3 b4 b5 b6 b7 b8 b9 b10 HA01 HX HA10 HA00 HRA HH0 HH1 HR0 HR1
  have HEb : Box (∀ d os, Below w.heap.size w (Go.Sort.grow (redrawn w4 d) os)) := boxed (fun d os => HB.out _ (below_step HB4.out (Nat.le_refl _) (below_regrown w4 d os)))
  clear HB
  obtain _ | _ := is
  · clear HE CH0 CH1
    go_wp2_with fail
    refine wp_region_quiet_below (by kernel_rfl) (by kernel_rfl) ?_
    repeat (go_big_quiet_step (first | (with_reducible exact CR0.out _ _) | (with_reducible exact CR1.out _ _) | (with_reducible exact CRA.out _ _) | (with_reducible exact CA10.out _ _) | (with_reducible exact CA00.out _ _)))
    refine wpQuiet_nil ?_
    intro _ hw'
    obtain ⟨⟨dq, osq⟩, hw''⟩ := hw'
    subst hw''
    have HEc := boxed (HEb.out dq osq)
    clear HEb CR0 CR1 CRA CA10 CA00 va0 va1 va2 va3 va4 va5 va6 va7 va8 va9 va10 vb0 vb1 vb2 vb3 vb4 vb5 vb6 vb7 vb8 vb9 vb10
    generalize Go.Sort.grow (redrawn w4 dq) osq = w9 at *
    go_wp2
    go_ret
    exact ⟨rfl, HEc.out⟩
  · obtain rfl := HE.out rfl
    clear HE
    go_wp2_with fail
    refine wp_region_quiet_below (by kernel_rfl) (by kernel_rfl) ?_
    repeat (go_big_quiet_step (first | (with_reducible exact CR0.out _ _) | (with_reducible exact CR1.out _ _) | (with_reducible exact CRA.out _ _) | (with_reducible exact CA10.out _ _) | (with_reducible exact CA00.out _ _) | (with_reducible exact CH0.out _ _) | (with_reducible exact CH1.out _ _)))
    refine wpQuiet_nil ?_
    intro _ hw'
    obtain ⟨⟨dq, osq⟩, hw''⟩ := hw'
    subst hw''
    have HEc := boxed (HEb.out dq osq)
    clear HEb CR0 CR1 CRA CA10 CA00 CH0 CH1 va0 va1 va2 va3 va4 va5 va6 va7 va8 va9 va10 vb0 vb1 vb2 vb3 vb4 vb5 vb6 vb7 vb8 vb9 vb10
    generalize Go.Sort.grow (redrawn w4 dq) osq = w9 at *
    go_wp2
    go_ret
    exact ⟨rfl, HEc.out⟩

set_option maxRecDepth 100000 in
theorem lifted (os : Os) (started : os.Started) (H : Type) (enc : TypeId × Value → H) :
    ReturnsInHanded {} Try.checked os 5 .any (Rows.cacheKeysSpec.pre6 enc Try.prog Try.f5 Rows.cacheKeysRow.domain false) (Rows.cacheKeysSpec.post enc Try.prog Try.f5 false true false false) := by
  refine returnsInHanded_of_change_sized (C := Try.checked) own started (by kernel_rfl) Try.func5
    (ChangeSpec.witness6 (enc := enc) (C := Try.checked) false ⟨#[], #[.agg #[.string ByteArray.empty, .slice none 0 0, .int .i64 0, .int .i64 0, .int .i64 0, .int .i64 0, .int .i64 0, .int .i64 0, .int .i64 0, .int .i64 0, .int .i64 0], .agg #[.string ByteArray.empty, .slice none 0 0, .int .i64 0, .int .i64 0, .int .i64 0, .int .i64 0, .int .i64 0, .int .i64 0, .int .i64 0, .int .i64 0, .int .i64 0]], []⟩ 8 (by kernel_rfl) (by kernel_rfl) (by kernel_rfl) (by kernel_rfl)) ?_
  intro W base args ds gs before hval0 hW hcnd hsz0 _
  have hval : ∀ (j : Nat) t v, Try.f5.params[j]? = some t → args[j]? = some v → Value.okWide Try.prog W .any base t v := hval0
  have hsz : (DataW.weightsEach Try.prog (Try.f5.params.toList ++ Rows.cacheKeysSpec.plain.varTypes Try.prog) (ds ++ gs)).all (· ≤ reachBytes) = true := hsz0
  have hW' := hW
  obtain ⟨p, q, hA0, hV, rfl, hfz, hnd⟩ := hW
  have hA : DataW.TrodAll enc Try.prog W 0 (fun _ => true) true Try.f5.params.toList args.toList ds p := hA0
  rw [Try.params5] at hA hval hsz
  obtain ⟨v0, vs0, d0, ds0, p0, q0, hargs, rfl, rfl, h0, r0⟩ := trodAll_cons hA
  obtain ⟨v1, vs1, d1, ds1, p1, q1, rfl, rfl, rfl, h1, r1⟩ := trodAll_cons r0
  obtain ⟨rfl, rfl, rfl⟩ := trodAll_nil r1
  obtain rfl : args = #[v0, v1] := by cases args; simp_all
  obtain ⟨rfl, rfl⟩ := trodVars_none hV
  have k0 := h0
  have lt0 : ∀ x ∈ p0, x.block < W.heap.size := by obtain ⟨m, hm⟩ := k0; exact DataW.trod_lt m _ _ _ hm
  obtain ⟨x0, rfl, hx0⟩ : ∃ x : Kv, v0 = x.val ∧ KvIs W x := by
    obtain ⟨fuel, hf⟩ := k0
    exact key_value hf
  have k1 := h1
  have lt1 : ∀ x ∈ p1, x.block < W.heap.size := by obtain ⟨m, hm⟩ := k1; exact DataW.trod_lt m _ _ _ hm
  obtain ⟨x1, rfl, hx1⟩ : ∃ x : Kv, v1 = x.val ∧ KvIs W x := by
    obtain ⟨fuel, hf⟩ := k1
    exact key_value hf
  clear hA0 hval0
  refine (walk W x0 hx0 x1 hx1).mono fun e W' ⟨he, hg⟩ => ?_
  subst he
  exact ⟨_, rfl, _, _, _, [], _, [], hW', trodAll_mk1 (shut_bool Try.underlying4 _), (trodAll_cons_mk (Below.trod laidOut (by kernel_rfl) (of_decide_eq_true (by kernel_rfl)) k0 hg lt0) (trodAll_cons_mk (Below.trod laidOut (by kernel_rfl) (of_decide_eq_true (by kernel_rfl)) k1 hg lt1) trodAll_mk0)), rfl, hg.frame _, fun h => by cases h⟩

theorem proved : Rows.CacheKeysSaid :=
  OpenClaim.holds_of_wide 5 Try.f5 rfl rfl rfl rfl rfl rfl rfl ⟨rfl, rfl, rfl, rfl, rfl⟩ rfl rfl rfl rfl rfl (by kernel_rfl) Try.func5 (by kernel_rfl)
    (of_decide_eq_true (by kernel_rfl)) (by unfold Func.isWrapper; first | (rw [if_pos (by decide +kernel)]; kernel_rfl) | (rw [if_neg (by decide +kernel)]; exact ⟨rfl, rfl⟩))
    (fun os started H enc _ => lifted os started H enc)
#print axioms proved
end Go.Proofs.Ytmnnmnggakbipaa.cacheKeys
