/-
  For every room, every script and every key the law CacheClears answers true and leaves its arguments as they were: what is cleared is empty, and works on.
-/
import Derived.Test.YtmnnmnggakbipaaRows
import Derived.WalkKit
import Derived.ProofKit
import Derived.OpenShut
import Derived.SizedLaws
import Derived.ShutString
import Derived.ChangeOld
import Derived.Below
import Derived.Test.YtmnnmnggakbipaaSd
import Derived.Test.YtmnnmnggakbipaaSf
namespace Go.Proofs.Ytmnnmnggakbipaa.cacheClears
open Go.ChangeShapes Go.WideShapes Go.ChangeAt Go.RowKit
open Go.ChangeMaps (open_string shut_string)
set_option linter.unusedVariables false
set_option linter.unusedSimpArgs false

theorem own : ownKnob Try.prog.godebug = none := by kernel_rfl
theorem laidOut : laidOutB Try.prog = true := by kernel_rfl

set_option maxRecDepth 100000 in
set_option maxHeartbeats 2000000 in
theorem walk (w : World) (a0 : Int) (w0 : (Lit.int .i64 a0).wf = true) (ao1 : Option Addr) (n1 cap1 : Nat) (O1 : Nat → Opr) (hn1 : n1 ≤ maxLen) (hO1 : OpsAt w ao1 n1 O1) (x2 : Kv) (hx2 : KvIs w x2) :
    Calls Try.prog 8 #[.int .i64 a0, .slice ao1 n1 cap1, x2.val] w fun e w' => e = .returned (.bool true) ∧ Below w.heap.size w w' := by
  obtain ⟨W0, hW⟩ : ∃ W0, w.alloc (.cells #[.string x2.tx, .slice x2.ra x2.rn x2.rc, .int .i64 x2.ta, .int .i64 x2.wd, .int .i64 x2.s.t, .int .i64 x2.s.l, .int .i64 x2.s.a, .int .i64 x2.s.d, .int .i64 x2.s.z, .int .i64 x2.s.o, .int .i64 x2.s.i] 42) = W0 := ⟨_, rfl⟩
  have HQ := laid1 w (.cells #[.string x2.tx, .slice x2.ra x2.rn x2.rc, .int .i64 x2.ta, .int .i64 x2.wd, .int .i64 x2.s.t, .int .i64 x2.s.l, .int .i64 x2.s.a, .int .i64 x2.s.d, .int .i64 x2.s.z, .int .i64 x2.s.o, .int .i64 x2.s.i] 42)
  rw [hW] at HQ
  obtain ⟨f0, hB, hz⟩ := HQ
  have hBw : ∀ W, Below W0.heap.size W0 W → Below w.heap.size w W := fun W hb => below_step hB (Nat.le_refl _) hb
  have HF0 := boxed (fun W (hb : Below W0.heap.size W0 W) => fits_any _ x2 W (hx2.kv.below (hBw W hb)))
  have HPl := boxed (fun W (hb : Below W0.heap.size W0 W) (hr : 0 ≤ a0 ∧ a0 ≤ 64) => played_any W a0 ao1 n1 cap1 O1 (hO1.below (hBw W hb)) hn1 hr)
  have HK0 : Box (∀ W, Below W0.heap.size W0 W → W.heap[w.heap.size]? = some (.cells #[.string x2.tx, .slice x2.ra x2.rn x2.rc, .int .i64 x2.ta, .int .i64 x2.wd, .int .i64 x2.s.t, .int .i64 x2.s.l, .int .i64 x2.s.a, .int .i64 x2.s.d, .int .i64 x2.s.z, .int .i64 x2.s.o, .int .i64 x2.s.i] 42 (0, 0))) := boxed (fun W hb => (hb.block _ (by omega)).trans f0)
  have HX2 := boxed hx2
  have HB := boxed hBw
  have HW := boxed hW
  clear hO1 hn1 hx2 f0 hB hBw hW w0
  unfold Kv.val at HF0 ⊢
  go_enter Try.func8, Try.ntmps8
  go_wp2_with fail
  rw [HW.out]
  refine (awake_any _).mono ?_
  rintro e w1 ⟨rfl, hb1⟩
  have HB1 := boxed hb1
  have HE1 := boxed (HB.out _ hb1)
  clear hb1 HW
  by_cases c1 : a0 < 1
  · have t1 : decide (a0 < 1) = true := decide_eq_true c1
    clear c1 HPl HF0 HK0
    go_wp2
    go_ret
    exact ⟨rfl, HE1.out⟩
  have t1 : decide (a0 < 1) = false := decide_eq_false c1
  by_cases c2 : 64 < a0
  · have t2 : decide ((64 : Int) < a0) = true := decide_eq_true c2
    clear c1 c2 HPl HF0 HK0
    go_wp2
    go_ret
    exact ⟨rfl, HE1.out⟩
  have t2 : decide ((64 : Int) < a0) = false := decide_eq_false c2
  have hr64 : 1 ≤ a0 ∧ a0 ≤ 64 := by omega
  have HR64 := boxed hr64
  obtain ⟨b0, b1, b2, b3, b4, b5, b6, b7, b8, b9, b10⟩ := cells11 (HK0.out _ HB1.out)
  clear c1 c2
  go_wp2_with fail
  refine (HF0.out _ HB1.out).mono ?_
  rintro e w2 ⟨r0, rfl, hr0, hb2⟩
  have HB2 := boxed (below_step HB1.out (Nat.le_refl _) hb2)
  obtain _ | _ := r0
  · have HE2 := boxed (HB.out _ HB2.out)
    clear hr0 hb2 HPl HF0 HK0 b0 b1 b2 b3 b4 b5 b6 b7 b8 b9 b10
    go_wp2
    go_ret
    exact ⟨rfl, HE2.out⟩
  have HFk := boxed (hr0.1 rfl)
  replace HPl := boxed (HPl.out _ HB2.out ⟨by omega, by omega⟩)
  clear hb2 hr0 b0 b1 b2 b3 b4 b5 b6 b7 b8 b9 b10 HF0
  go_wp2_with fail
  refine HPl.out.mono ?_
  rintro r w3 ⟨F, cb, mb, fo, mi, L, Bk, M, lo, n, lc, es, rfl, hca, hrs, hab, hn, hF, hb, hpl, hnum⟩
  have HB3 := boxed (below_step HB2.out (Nat.le_refl _) hb)
  have hFW : ∀ b, F b → W0.heap.size ≤ b := fun b hb => by have := hF b hb; have := HB2.out.size; omega
  have HFW := boxed hFW
  have HFl := boxed hca.fl
  obtain ⟨Z, hZ⟩ : ∃ Z, w3.alloc (.cells #[.int .i64 a0, .slice lo n lc, .int .i64 fo, .int .i64 mi] 27) = Z := ⟨_, rfl⟩
  have hbZ : Below w3.heap.size w3 Z := by rw [← hZ]; exact (Below.refl _ _).alloc (Nat.le_refl _) _
  have HCa := boxed (hca.below hbZ)
  have HBZ := boxed (below_step HB3.out (Nat.le_refl _) hbZ)
  have HZ := boxed hZ
  have HZh : Box (Z.heap[w3.heap.size]? = some (.cells #[.int .i64 a0, .slice lo n lc, .int .i64 fo, .int .i64 mi] 27 (0, 0))) := boxed (by rw [← hZ]; exact heap_alloc_new w3 _)
  have HNm := boxed hnum
  have hnum' := hnum
  clear hrs hab hn hpl hb hF hca HPl HB1 hbZ hZ t1 t2 HB3 hFW hnum
  go_upto_region 6 with fail
  rw [HZ.out]
  clear HZ
  have hnF0 : ∀ b, b < W0.heap.size → ¬ F b := fun b hb c => by have := HFW.out b c; omega
  have hnF1 : ¬ F w3.heap.size := fun c => by have := HFl.out _ c; omega
  have HN0 := boxed hnF0
  have HN1 := boxed hnF1
  clear hnF0 hnF1
  go_wp2_with fail
  refine (clear_any _ F cb mb _ _ _ L Bk M HCa.out).mono ?_
  rintro r w4 ⟨rfl, hc4, hg4⟩
  have HC4 := boxed hc4
  have HS4 := boxed ((hg4.block _ (heap_lt HZh.out) HN1.out).trans HZh.out)
  have HB4 := boxed (HBZ.out.trans (hg4.below HBZ.out.size HFW.out))
  clear hc4 hg4 HZh HCa HBZ
  go_wp2_with fail
  refine (len_any HC4.out).mono ?_
  rintro r w5 ⟨rfl, rfl⟩
  simp only [List.length_nil]
  go_wp2_with fail
  refine (keys_any _ F cb mb _ _ _ [] _ _ HC4.out).mono ?_
  rintro r w6 ⟨v, ks, rfl, hks, hkm, hb6⟩
  have hk0 : ks = [] := by simpa using hkm
  subst hk0
  obtain ⟨kao, kcap, rfl⟩ := own_shape hks.row
  simp only [List.length_nil] at *
  have HC6 := boxed (HC4.out.below hb6)
  have HS6 := boxed ((hb6.block _ (heap_lt HS4.out)).trans HS4.out)
  have HB6 := boxed (below_step HB4.out (Nat.le_refl _) hb6)
  clear hks hkm hb6 HC4 HS4 HB4
  obtain ⟨b0, b1, b2, b3, b4, b5, b6, b7, b8, b9, b10⟩ := cells11 (HK0.out _ HB6.out)
  have HG := boxed (get_miss (k := x2) HC6.out (HX2.out.kv.below (HB.out _ HB6.out)) HFk.out HX2.out.rn.2 (by omega) (by omega) (by simp [abL]))
  unfold Kv.val at HG
  go_wp2_with fail
  refine HG.out.mono ?_
  rintro r w7 ⟨rfl, L7, hc7, hl7, hg7⟩
  have HC7 := boxed hc7
  have HL7 := boxed hl7
  have HS7 := boxed ((hg7.block _ (heap_lt HS6.out) HN1.out).trans HS6.out)
  have HB7 := boxed (HB6.out.trans (hg7.below HB6.out.size HFW.out))
  clear hc7 hl7 hg7 HC6 HS6 HB6 HG b0 b1 b2 b3 b4 b5 b6 b7 b8 b9 b10
  obtain ⟨b0, b1, b2, b3, b4, b5, b6, b7, b8, b9, b10⟩ := cells11 (HK0.out _ HB7.out)
  have HPt := boxed (put_any w7 F cb mb _ _ _ L7 _ _ x2 5 HC7.out (HX2.out.kv.outer (HB.out _ HB7.out) (fun b hb => by have := HFW.out b hb; omega)) HFk.out HX2.out.rn.2)
  unfold Kv.val at HPt
  go_wp2_with fail
  refine HPt.out.mono ?_
  rintro r w8 ⟨rfl, F', L8, Bk8, M8, hc8, hp8, hf8, hg8⟩
  have hl8 : abL L8 = [(x2.ky, 5)] := by
    rw [HL7.out] at hp8
    exact PutR.det (l := []) (by simp) hp8 (.inr ⟨by omega, .inr ⟨by simp, .inr ⟨by simp; omega, rfl⟩⟩⟩)
  have HC8 := boxed hc8
  have HL8 := boxed hl8
  have HS8 := boxed ((hg8.block _ (heap_lt HS7.out) HN1.out).trans HS7.out)
  have HB8 := boxed (HB7.out.trans (hg8.below HB7.out.size HFW.out))
  have hls := heap_lt HS7.out
  have HN8 : Box (¬ F' w3.heap.size) := boxed (fun c => by
    rcases hf8 _ c with d | d
    · exact HN1.out d
    · omega)
  have HFW8 : Box (∀ b, F' b → W0.heap.size ≤ b) := boxed (fun b hb => by
    rcases hf8 _ hb with d | d
    · exact HFW.out b d
    · have := HB7.out.size; omega)
  clear hc8 hp8 hl8 hf8 hg8 HC7 HL7 HS7 HB7 HPt b0 b1 b2 b3 b4 b5 b6 b7 b8 b9 b10 hls
  obtain ⟨b0, b1, b2, b3, b4, b5, b6, b7, b8, b9, b10⟩ := cells11 (HK0.out _ HB8.out)
  have HG := boxed (get_hit (k := x2) (v := 5) HC8.out (HX2.out.kv.below (HB.out _ HB8.out)) HFk.out HX2.out.rn.2 (by omega) (by omega) (by rw [HL8.out]; simp))
  unfold Kv.val at HG
  go_wp2_with fail
  refine HG.out.mono ?_
  rintro r w9 ⟨rfl, L9, hc9, hl9, hg9⟩
  have HC9 := boxed hc9
  have hl9' : L9.length = 1 := by rw [hl9]; have := congrArg List.length HL8.out; simpa [abL] using this
  have HL9 := boxed hl9'
  have HS9 := boxed ((hg9.block _ (heap_lt HS8.out) HN8.out).trans HS8.out)
  have HB9 := boxed (HB8.out.trans (hg9.below HB8.out.size HFW8.out))
  clear hc9 hl9 hl9' hg9 HC8 HL8 HS8 HB8 HG b0 b1 b2 b3 b4 b5 b6 b7 b8 b9 b10
  go_wp2_with fail
  refine (asked_any HC9.out).mono ?_
  rintro r w10 ⟨rfl, hb10⟩
  have HC10 := boxed (HC9.out.below hb10)
  have HS10 := boxed ((hb10.block _ (heap_lt HS9.out)).trans HS9.out)
  have HB10 := boxed (below_step HB9.out (Nat.le_refl _) hb10)
  obtain ⟨l0, l1, l2, l3⟩ := cells4 HS10.out
  have HE10 := boxed (HB.out _ HB10.out)
  clear hb10 HC9 HS9 HB9
  go_wp2_with fail
  refine (len_any HC10.out).mono ?_
  rintro r w11 ⟨rfl, rfl⟩
  rw [HL9.out]
  clear HC10 HL9
  go_wp2
  go_ret
  exact ⟨rfl, HE10.out⟩

set_option maxRecDepth 100000 in
theorem lifted (os : Os) (started : os.Started) (H : Type) (enc : TypeId × Value → H) :
    ReturnsInHanded {} Try.checked os 8 .any (Rows.cacheClearsSpec.pre6 enc Try.prog Try.f8 Rows.cacheClearsRow.domain false) (Rows.cacheClearsSpec.post enc Try.prog Try.f8 false true false false) := by
  refine returnsInHanded_of_change_sized (C := Try.checked) own started (by kernel_rfl) Try.func8
    (ChangeSpec.witness6 (enc := enc) (C := Try.checked) false ⟨#[], #[.int .i64 0, .slice none 0 0, .agg #[.string ByteArray.empty, .slice none 0 0, .int .i64 0, .int .i64 0, .int .i64 0, .int .i64 0, .int .i64 0, .int .i64 0, .int .i64 0, .int .i64 0, .int .i64 0]], []⟩ 8 (by kernel_rfl) (by kernel_rfl) (by kernel_rfl) (by kernel_rfl)) ?_
  intro W base args ds gs before hval0 hW hcnd hsz0 _
  have hval : ∀ (j : Nat) t v, Try.f8.params[j]? = some t → args[j]? = some v → Value.okWide Try.prog W .any base t v := hval0
  have hsz : (DataW.weightsEach Try.prog (Try.f8.params.toList ++ Rows.cacheClearsSpec.plain.varTypes Try.prog) (ds ++ gs)).all (· ≤ reachBytes) = true := hsz0
  have hW' := hW
  obtain ⟨p, q, hA0, hV, rfl, hfz, hnd⟩ := hW
  have hA : DataW.TrodAll enc Try.prog W 0 (fun _ => true) true Try.f8.params.toList args.toList ds p := hA0
  rw [Try.params8] at hA hval hsz
  obtain ⟨v0, vs0, d0, ds0, p0, q0, hargs, rfl, rfl, h0, r0⟩ := trodAll_cons hA
  obtain ⟨v1, vs1, d1, ds1, p1, q1, rfl, rfl, rfl, h1, r1⟩ := trodAll_cons r0
  obtain ⟨v2, vs2, d2, ds2, p2, q2, rfl, rfl, rfl, h2, r2⟩ := trodAll_cons r1
  obtain ⟨rfl, rfl, rfl⟩ := trodAll_nil r2
  obtain rfl : args = #[v0, v1, v2] := by cases args; simp_all
  obtain ⟨rfl, rfl⟩ := trodVars_none hV
  obtain ⟨a0, rfl, rfl, rfl, w0⟩ := open_int Try.underlying3 (hval 0 3 v0 rfl rfl) h0
  obtain ⟨ao1, n1, cap1, rfl⟩ := okWide_slice Try.underlying22 (hval 1 22 v1 rfl rfl)
  have k1 := h1
  have lt1 : ∀ x ∈ p1, x.block < W.heap.size := by obtain ⟨m, hm⟩ := k1; exact DataW.trod_lt m _ _ _ hm
  obtain ⟨hn1, O1, hO1⟩ : n1 ≤ maxLen ∧ ∃ O, OpsAt W ao1 n1 O := by
    obtain ⟨fuel, hf⟩ := k1
    exact open_ops hf
  have k2 := h2
  have lt2 : ∀ x ∈ p2, x.block < W.heap.size := by obtain ⟨m, hm⟩ := k2; exact DataW.trod_lt m _ _ _ hm
  obtain ⟨x2, rfl, hx2⟩ : ∃ x : Kv, v2 = x.val ∧ KvIs W x := by
    obtain ⟨fuel, hf⟩ := k2
    exact key_value hf
  clear hA0 hval0
  refine (walk W a0 w0 ao1 n1 cap1 O1 hn1 hO1 x2 hx2).mono fun e W' ⟨he, hg⟩ => ?_
  subst he
  exact ⟨_, rfl, _, _, _, [], _, [], hW', trodAll_mk1 (shut_bool Try.underlying4 _), (trodAll_cons_mk (shut_int Try.underlying3 w0) (trodAll_cons_mk (Below.trod laidOut (by kernel_rfl) (of_decide_eq_true (by kernel_rfl)) k1 hg lt1) (trodAll_cons_mk (Below.trod laidOut (by kernel_rfl) (of_decide_eq_true (by kernel_rfl)) k2 hg lt2) trodAll_mk0))), rfl, hg.frame _, fun h => by cases h⟩

theorem proved : Rows.CacheClearsSaid :=
  OpenClaim.holds_of_wide 8 Try.f8 rfl rfl rfl rfl rfl rfl rfl ⟨rfl, rfl, rfl, rfl, rfl⟩ rfl rfl rfl rfl rfl (by kernel_rfl) Try.func8 (by kernel_rfl)
    (of_decide_eq_true (by kernel_rfl)) (by unfold Func.isWrapper; first | (rw [if_pos (by decide +kernel)]; kernel_rfl) | (rw [if_neg (by decide +kernel)]; exact ⟨rfl, rfl⟩))
    (fun os started H enc _ => lifted os started H enc)
#print axioms proved
end Go.Proofs.Ytmnnmnggakbipaa.cacheClears
