/-
  For every room and every text the law CacheGoes answers true and leaves its arguments as they were: when as many unlike keys as there is room for are put behind a key, it is gone.
-/
import Derived.Test.YtmnnmnggakbipaaRows
import Derived.WalkKit
import Derived.ProofKit
import Derived.OpenShut
import Derived.SizedLaws
import Derived.ShutString
import Derived.ChangeOld
import Derived.Below
import Derived.Test.YtmnnmnggakbipaaSd
import Derived.Test.YtmnnmnggakbipaaSg
namespace Go.Proofs.Ytmnnmnggakbipaa.cacheGoes
open Go.ChangeShapes Go.WideShapes Go.ChangeAt Go.RowKit
open Go.ChangeMaps (open_string shut_string)
set_option linter.unusedVariables false
set_option linter.unusedSimpArgs false

theorem own : ownKnob Try.prog.godebug = none := by kernel_rfl
theorem laidOut : laidOutB Try.prog = true := by kernel_rfl

set_option maxRecDepth 100000 in
set_option maxHeartbeats 2000000 in
theorem walk (w : World) (a0 : Int) (w0 : (Lit.int .i64 a0).wf = true) (a1 : ByteArray) (w1 : a1.size ≤ maxLen) :
    Calls Try.prog 7 #[.int .i64 a0, .string a1] w fun e w' => e = .returned (.bool true) ∧ Below w.heap.size w w' := by
  have htx : ∀ d, (kw a1 d).val = .agg #[.string a1, .slice none 0 0, .int .i64 0, .int .i64 d, .int .i64 0, .int .i64 0, .int .i64 0, .int .i64 0, .int .i64 0, .int .i64 0, .int .i64 0] := fun d => rfl
  have HTX := boxed htx
  have HNw := boxed (fun W => new_any a0 W)
  clear htx w0
  go_enter Try.func7, Try.ntmps7
  go_wp2_with fail
  refine (awake_any _).mono ?_
  rintro e w1 ⟨rfl, hb1⟩
  have HB1 := boxed hb1
  clear hb1
  by_cases c1 : a0 < 0
  · have t1 : decide (a0 < 0) = true := decide_eq_true c1
    clear c1 HNw
    go_wp2
    go_ret
    exact ⟨rfl, HB1.out⟩
  have t1 : decide (a0 < 0) = false := decide_eq_false c1
  by_cases c2 : 64 < a0
  · have t2 : decide ((64 : Int) < a0) = true := decide_eq_true c2
    clear c1 c2 HNw
    go_wp2
    go_ret
    exact ⟨rfl, HB1.out⟩
  have t2 : decide ((64 : Int) < a0) = false := decide_eq_false c2
  obtain ⟨room, rfl⟩ : ∃ n : Nat, a0 = (n : Int) := ⟨a0.toNat, by omega⟩
  have hr64 : room ≤ 64 := by omega
  clear c1 c2
  by_cases c3 : 100 < a1.size
  · have t3 : decide ((100 : Int) < (a1.size : Int)) = true := decide_eq_true (by omega)
    clear c3 HNw
    go_wp2
    go_ret
    exact ⟨rfl, HB1.out⟩
  have t3 : decide ((100 : Int) < (a1.size : Int)) = false := decide_eq_false (by omega)
  have HT := boxed (show a1.size ≤ 200 by omega)
  have HN1 := boxed (HNw.out w1)
  clear HNw c3
  go_wp2_with fail
  refine HN1.out.mono ?_
  rintro r w2 ⟨hb2, ⟨c, rfl⟩ | ⟨-, cb, mb, F, rfl, hF, hca⟩⟩
  · exfalso; omega
  have HB2 := boxed (below_step HB1.out (Nat.le_refl _) hb2)
  have hFW : ∀ b, F b → w.heap.size ≤ b := fun b hb => by have := hF b hb; have := HB1.out.size; omega
  have HFl := boxed hca.fl
  obtain ⟨Z, hZ⟩ : ∃ Z, w2.alloc (.cells #[.string a1, .slice none 0 0, .int .i64 0, .int .i64 0, .int .i64 0, .int .i64 0, .int .i64 0, .int .i64 0, .int .i64 0, .int .i64 0, .int .i64 0] 42) = Z := ⟨_, rfl⟩
  have hbZ : Below w2.heap.size w2 Z := by rw [← hZ]; exact (Below.refl _ _).alloc (Nat.le_refl _) _
  have HCa := boxed (hca.below hbZ)
  have HBZ := boxed (below_step HB2.out (Nat.le_refl _) hbZ)
  have HZ := boxed hZ
  have HZh : Box (Z.heap[w2.heap.size]? = some (.cells #[.string a1, .slice none 0 0, .int .i64 0, .int .i64 0, .int .i64 0, .int .i64 0, .int .i64 0, .int .i64 0, .int .i64 0, .int .i64 0, .int .i64 0] 42 (0, 0))) := boxed (by rw [← hZ]; exact heap_alloc_new w2 _)
  have HN0 : Box (¬ F w2.heap.size) := boxed (fun c => by have := HFl.out _ c; omega)
  have HFW := boxed hFW
  clear hb2 hF hca hFW hbZ hZ HB1 HB2 HN1 HFl t1 t2 t3
  go_upto_region 9 with fail
  rw [HZ.out]
  clear HZ
  obtain ⟨b0, b1, b2, b3, b4, b5, b6, b7, b8, b9, b10⟩ := cells11 HZh.out
  have HPt := boxed (put_any Z F cb mb _ _ _ [] _ _ (kw a1 0) 1 HCa.out (kw_at _ _ _ _) (kw_fits _ _ HT.out) (Nat.le_refl _))
  rw [HTX.out] at HPt
  go_wp2_with fail
  refine HPt.out.mono ?_
  rintro r w3 ⟨rfl, F3, L3, Bk3, M3, hc3, hp3, hf3, hg3⟩
  have HI : Box (∃ F L Bk M, CaAt w3 F cb mb (room : Int) 0 0 L Bk M ∧ abL L = gl room a1 0 ∧ ¬ F w2.heap.size ∧ (∀ b, F b → w.heap.size ≤ b) ∧ w3.heap[w2.heap.size]? = some (.cells #[.string a1, .slice none 0 0, .int .i64 0, .int .i64 0, .int .i64 0, .int .i64 0, .int .i64 0, .int .i64 0, .int .i64 0, .int .i64 0, .int .i64 0] 42 (0, 0)) ∧ Below w.heap.size w w3) := boxed ⟨F3, L3, Bk3, M3, hc3, gl_start hp3, fun c => by
      rcases hf3 _ c with d | d
      · exact HN0.out d
      · have := heap_lt HZh.out; omega, fun b hb => by
      rcases hf3 _ hb with d | d
      · exact HFW.out b d
      · have := HBZ.out.size; omega, (hg3.block _ (heap_lt HZh.out) HN0.out).trans HZh.out, HBZ.out.trans (hg3.below HBZ.out.size HFW.out)⟩
  clear hc3 hp3 hf3 hg3 HPt HCa HBZ HZh HN0 HFW b0 b1 b2 b3 b4 b5 b6 b7 b8 b9 b10
  go_wp2_with fail
  go_loopw [8] (fun vi wr => ∃ i : Nat, i ≤ room ∧ vi = .int .i64 (i : Nat) ∧ Box (∃ F L Bk M, CaAt wr F cb mb (room : Int) 0 0 L Bk M ∧ abL L = gl room a1 i ∧ ¬ F w2.heap.size ∧ (∀ b, F b → w.heap.size ≤ b) ∧ wr.heap[w2.heap.size]? = some (.cells #[.string a1, .slice none 0 0, .int .i64 0, .int .i64 0, .int .i64 0, .int .i64 0, .int .i64 0, .int .i64 0, .int .i64 0, .int .i64 0, .int .i64 0] 42 (0, 0)) ∧ Below w.heap.size w wr)) (fun vi _ => room - (intOf vi).toNat)
  case atStart => exact ⟨0, Nat.zero_le _, rfl, HI⟩
  case round =>
    obtain ⟨i, hin, rfl, HJ⟩ := hrel
    obtain ⟨F, L, Bk, M, hca, hl, hn, hF, hz, hb⟩ := HJ.out
    by_cases hlt : i < room
    · have HPt := boxed (put_any wr F cb mb _ _ _ L _ _ (kw a1 ((i : Int) + 1)) (i : Int) hca (kw_at _ _ _ _) (kw_fits _ _ HT.out) (Nat.le_refl _))
      rw [HTX.out] at HPt
      have HL := boxed hl
      have HN := boxed hn
      have HF := boxed hF
      have HZ := boxed hz
      have HB := boxed hb
      have hlt3 : (i : Int) < (room : Int) := by omega
      clear hca hl hn hF hz hb HJ HI
      go_wp2_with fail
      refine HPt.out.mono ?_
      rintro r w4 ⟨rfl, F4, L4, Bk4, M4, hc4, hp4, hf4, hg4⟩
      rw [HL.out] at hp4
      have HI4 : Box (∃ F L Bk M, CaAt w4 F cb mb (room : Int) 0 0 L Bk M ∧ abL L = gl room a1 (i + 1) ∧ ¬ F w2.heap.size ∧ (∀ b, F b → w.heap.size ≤ b) ∧ w4.heap[w2.heap.size]? = some (.cells #[.string a1, .slice none 0 0, .int .i64 0, .int .i64 0, .int .i64 0, .int .i64 0, .int .i64 0, .int .i64 0, .int .i64 0, .int .i64 0, .int .i64 0] 42 (0, 0)) ∧ Below w.heap.size w w4) := boxed ⟨F4, L4, Bk4, M4, hc4, gl_step hlt hp4, fun c => by
          rcases hf4 _ c with d | d
          · exact HN.out d
          · have := heap_lt HZ.out; omega, fun b hb => by
          rcases hf4 _ hb with d | d
          · exact HF.out b d
          · have := HB.out.size; omega, (hg4.block _ (heap_lt HZ.out) HN.out).trans HZ.out, HB.out.trans (hg4.below HB.out.size HF.out)⟩
      clear hc4 hp4 hf4 hg4 HPt HL HN HF HZ HB
      go_wp2_with fail
      go_roundw
      case rel => exact ⟨i + 1, by omega, by go_num, HI4⟩
      case measure => simp [intOf]; omega
    · obtain rfl : room = i := by omega
      have hl' : abL L = fw a1 room := by rw [hl]; exact if_neg (by omega)
      have hlen : L.length = room := by have := congrArg List.length hl'; rw [abL_len, fw_len] at this; exact this
      have HG := boxed (get_miss (k := kw a1 0) hca (kw_at _ _ _ _) (kw_fits _ _ HT.out) (Nat.le_refl _) (by omega) (by omega) (by rw [hl']; exact fw_ne a1 room 0 (by omega)))
      rw [HTX.out] at HG
      have HL := boxed hlen
      have HF := boxed hF
      have HB := boxed hb
      obtain ⟨b0, b1, b2, b3, b4, b5, b6, b7, b8, b9, b10⟩ := cells11 hz
      clear hca hl hl' hn hF hz hb HJ HI hlen
      go_wp2_with fail
      refine HG.out.mono ?_
      rintro r w5 ⟨rfl, L5, hc5, hl5, hg5⟩
      have hlen5 : L5.length = room := by have := congrArg List.length hl5; rw [abL_len, abL_len, HL.out] at this; exact this
      have HL5 := boxed hlen5
      have HE := boxed (HB.out.trans (hg5.below HB.out.size HF.out))
      have HC5 := boxed hc5
      clear hc5 hl5 hg5 hlen5 HG HL HF HB b0 b1 b2 b3 b4 b5 b6 b7 b8 b9 b10
      go_wp2_with fail
      refine (len_any HC5.out).mono ?_
      rintro r w6 ⟨rfl, rfl⟩
      rw [HL5.out]
      clear HC5 HL5
      go_wp2
      go_ret
      exact ⟨rfl, HE.out⟩

set_option maxRecDepth 100000 in
theorem lifted (os : Os) (started : os.Started) (H : Type) (enc : TypeId × Value → H) :
    ReturnsInHanded {} Try.checked os 7 .any (Rows.cacheGoesSpec.pre6 enc Try.prog Try.f7 Rows.cacheGoesRow.domain false) (Rows.cacheGoesSpec.post enc Try.prog Try.f7 false true false false) := by
  refine returnsInHanded_of_change_sized (C := Try.checked) own started (by kernel_rfl) Try.func7
    (ChangeSpec.witness6 (enc := enc) (C := Try.checked) false ⟨#[], #[.int .i64 0, .string ByteArray.empty], []⟩ 8 (by kernel_rfl) (by kernel_rfl) (by kernel_rfl) (by kernel_rfl)) ?_
  intro W base args ds gs before hval0 hW hcnd hsz0 _
  have hval : ∀ (j : Nat) t v, Try.f7.params[j]? = some t → args[j]? = some v → Value.okWide Try.prog W .any base t v := hval0
  have hsz : (DataW.weightsEach Try.prog (Try.f7.params.toList ++ Rows.cacheGoesSpec.plain.varTypes Try.prog) (ds ++ gs)).all (· ≤ reachBytes) = true := hsz0
  have hW' := hW
  obtain ⟨p, q, hA0, hV, rfl, hfz, hnd⟩ := hW
  have hA : DataW.TrodAll enc Try.prog W 0 (fun _ => true) true Try.f7.params.toList args.toList ds p := hA0
  rw [Try.params7] at hA hval hsz
  obtain ⟨v0, vs0, d0, ds0, p0, q0, hargs, rfl, rfl, h0, r0⟩ := trodAll_cons hA
  obtain ⟨v1, vs1, d1, ds1, p1, q1, rfl, rfl, rfl, h1, r1⟩ := trodAll_cons r0
  obtain ⟨rfl, rfl, rfl⟩ := trodAll_nil r1
  obtain rfl : args = #[v0, v1] := by cases args; simp_all
  obtain ⟨rfl, rfl⟩ := trodVars_none hV
  obtain ⟨a0, rfl, rfl, rfl, w0⟩ := open_int Try.underlying3 (hval 0 3 v0 rfl rfl) h0
  obtain ⟨a1, rfl, rfl, rfl, w1⟩ := open_string Try.underlying9 (hval 1 9 v1 rfl rfl) h1
  clear hA0 hval0
  refine (walk W a0 w0 a1 w1).mono fun e W' ⟨he, hg⟩ => ?_
  subst he
  exact ⟨_, rfl, _, _, _, [], _, [], hW', trodAll_mk1 (shut_bool Try.underlying4 _), (trodAll_cons_mk (shut_int Try.underlying3 w0) (trodAll_cons_mk (shut_string Try.underlying9 w1) trodAll_mk0)), rfl, hg.frame _, fun h => by cases h⟩

theorem proved : Rows.CacheGoesSaid :=
  OpenClaim.holds_of_wide 7 Try.f7 rfl rfl rfl rfl rfl rfl rfl ⟨rfl, rfl, rfl, rfl, rfl⟩ rfl rfl rfl rfl rfl (by kernel_rfl) Try.func7 (by kernel_rfl)
    (of_decide_eq_true (by kernel_rfl)) (by unfold Func.isWrapper; first | (rw [if_pos (by decide +kernel)]; kernel_rfl) | (rw [if_neg (by decide +kernel)]; exact ⟨rfl, rfl⟩))
    (fun os started H enc _ => lifted os started H enc)
#print axioms proved
end Go.Proofs.Ytmnnmnggakbipaa.cacheGoes
