/-
  For every room the law CacheRooms answers true: a cache has any room that may be, or is refused.
-/
import Derived.Test.YtmnnmnggakbipaaRows
import Derived.WalkKit
import Derived.ProofKit
import Derived.OpenShut
import Derived.SizedLaws
import Derived.ShutString
import Derived.ChangeOld
import Derived.Below
import Derived.Test.YtmnnmnggakbipaaSd
import Derived.Test.YtmnnmnggakbipaaSvQs
namespace Go.Proofs.Ytmnnmnggakbipaa.cacheRooms
open Go.ChangeShapes Go.WideShapes Go.ChangeAt Go.RowKit
open Go.ChangeMaps (open_string shut_string)
set_option linter.unusedVariables false
set_option linter.unusedSimpArgs false

theorem own : ownKnob Try.prog.godebug = none := by kernel_rfl
theorem laidOut : laidOutB Try.prog = true := by kernel_rfl

set_option maxRecDepth 100000 in
set_option maxHeartbeats 2000000 in
theorem walk (w : World) (a0 : Int) (w0 : (Lit.int .i64 a0).wf = true) :
    Calls Try.prog 4 #[.int .i64 a0] w fun e w' => e = .returned (.bool true) ∧ Below w.heap.size w w' := by
  have HNw := boxed (fun W => Sv.new_any a0 W)
  have hkz : (kz ⟨#[]⟩).val = .agg #[.string ⟨#[]⟩, .slice none 0 0, .int .i64 0, .int .i64 0, .int .i64 0, .int .i64 0, .int .i64 0, .int .i64 0, .int .i64 0, .int .i64 0, .int .i64 0] := rfl
  have hka : ∀ (S : Nat → Prop) (W : World), KvAt S W (kz ⟨#[]⟩) := fun S W i hi => absurd hi (Nat.not_lt_zero _)
  have HKz := boxed hkz
  have HKa := boxed hka
  clear hkz hka w0
  go_enter Try.func4, Try.ntmps4
  go_wp2_with fail
  refine (awake_any _).mono ?_
  rintro e w1 ⟨rfl, hb1⟩
  have HB1 := boxed hb1
  clear hb1
  go_wp2_with fail
  refine (HNw.out _).mono ?_
  rintro r w2 ⟨hb2, ⟨c, rfl⟩ | ⟨c, cb, mb, F, rfl, hF, hca⟩⟩
  · have HB2 := boxed (below_step HB1.out (Nat.le_refl _) hb2)
    by_cases c1 : a0 < 0
    · have t1 : decide (a0 < 0) = true := decide_eq_true c1
      clear c c1 HNw hb2 HKz HKa
      go_wp2
      go_ret
      exact ⟨rfl, HB2.out⟩
    · have t1 : decide (a0 < 0) = false := decide_eq_false c1
      have t2 : decide ((4096 : Int) < a0) = true := decide_eq_true (by omega)
      clear c c1 HNw hb2 HKz HKa
      go_wp2
      go_ret
      exact ⟨rfl, HB2.out⟩
  have t1 : decide (a0 < 0) = false := decide_eq_false (by omega)
  have t2 : decide ((4096 : Int) < a0) = false := decide_eq_false (by omega)
  have HB2 := boxed (below_step HB1.out (Nat.le_refl _) hb2)
  have HF : Box (∀ b, F b → w.heap.size ≤ b) := boxed (fun b hb => by have := hF b hb; have := HB1.out.size; omega)
  have HCa := boxed hca
  have HC := boxed c
  clear c hb2 hF hca HNw
  go_wp2_with fail
  refine (Sv.room_any HCa.out).mono ?_
  rintro r w3 ⟨rfl, rfl⟩
  go_wp2_with fail
  refine (Sv.len_any HCa.out).mono ?_
  rintro r w4 ⟨rfl, rfl⟩
  simp only [List.length_nil]
  have HPt := boxed (Sv.put_any w4 F cb mb _ _ _ [] _ _ (kz ⟨#[]⟩) ⟨#[120]⟩ HCa.out (HKa.out _ _) (kz_fits _ (by decide)) (Nat.le_refl _))
  rw [HKz.out] at HPt
  go_wp2_with fail
  refine HPt.out.mono ?_
  rintro r w5 ⟨rfl, F5, L5, Bk5, M5, hc5, hp5, hf5, hg5⟩
  have HB5 := boxed (HB2.out.trans (hg5.below HB2.out.size HF.out))
  have HF5 : Box (∀ b, F5 b → w.heap.size ≤ b) := boxed (fun b hb => by
    rcases hf5 b hb with d | d
    · exact HF.out b d
    · have := HB2.out.size; omega)
  have HGt := boxed (Sv.get_any w5 F5 cb mb _ _ _ L5 _ _ (kz ⟨#[]⟩) hc5 (HKa.out _ _) (kz_fits _ (by decide)) (Nat.le_refl _) (by omega) (by omega))
  rw [HKz.out] at HGt
  have HP5 := boxed hp5
  clear hc5 hp5 hf5 hg5 HPt HCa HF HB2
  go_wp2_with fail
  refine HGt.out.mono ?_
  rintro r w6 ⟨o, L6, hr, hc6, hg6, hh6⟩
  have HB6 := boxed (HB5.out.trans (hh6.below HB5.out.size HF5.out))
  have HC6 := boxed hc6
  by_cases c0 : a0 = 0
  · subst c0
    have h5 : Sv.abL L5 = [] := by
      rcases HP5.out with ⟨_, h⟩ | ⟨h, _⟩
      · exact h
      · exact absurd rfl h
    rw [h5] at hg6
    obtain ⟨rfl, h6⟩ : o = none ∧ Sv.abL L6 = [] := by
      rcases hg6 with ⟨i, v0, e, _⟩ | ⟨_, h1, h2⟩
      · simp at e
      · exact ⟨h1, h2⟩
    have hr' : r = .returned (.tuple #[.string ⟨#[]⟩, .bool false]) := hr
    subst hr'
    have hl6 : L6.length = 0 := by have := congrArg List.length h6; simpa [Sv.abL] using this
    have HL6 := boxed hl6
    clear hr hc6 hg6 hh6 HP5 HGt h5 h6 hl6 HF5 HB5 HKz HKa HC
    go_wp2_with fail
    refine (Sv.len_any HC6.out).mono ?_
    rintro r w7 ⟨rfl, rfl⟩
    rw [HL6.out]
    clear HC6 HL6
    go_wp2
    go_ret
    exact ⟨rfl, HB6.out⟩
  · have h5 : Sv.abL L5 = [((kz ⟨#[]⟩).ky, ⟨#[120]⟩)] := by
      rcases HP5.out with ⟨h, _⟩ | ⟨_, h⟩
      · exact absurd h c0
      · rcases h with ⟨i, v0, e, _⟩ | ⟨_, ⟨e, h⟩ | ⟨_, h⟩⟩
        · simp [Sv.abL] at e
        · exfalso; simp [Sv.abL] at e; omega
        · exact h
    rw [h5] at hg6
    obtain ⟨rfl, h6⟩ : o = some ⟨#[120]⟩ ∧ (Sv.abL L6).length = 1 := by
      rcases hg6 with ⟨i, v0, e, h1, h2⟩ | ⟨h, _⟩
      · match i, e with
        | 0, e =>
          simp at e
          subst e
          exact ⟨h1, by rw [h2]; rfl⟩
      · exact absurd rfl (h _ (List.mem_singleton.2 rfl))
    have hr' : r = .returned (.tuple #[.string ⟨#[120]⟩, .bool true]) := hr
    subst hr'
    have hl6 : L6.length = 1 := by simpa [Sv.abL] using h6
    have HL6 := boxed hl6
    have t0 : decide ((0 : Int) < a0) = true := decide_eq_true (by have := HC.out; omega)
    have hmin : min a0 1 = 1 := by have := HC.out; omega
    have h1a : 1 ≤ a0 := by have := HC.out; omega
    clear hr hc6 hg6 hh6 HP5 HGt h5 h6 hl6 HF5 HB5 HKz HKa HC c0
    go_wp2_with fail
    refine (Sv.len_any HC6.out).mono ?_
    rintro r w7 ⟨rfl, rfl⟩
    rw [HL6.out]
    clear HC6 HL6
    go_wp2
    go_ret
    exact ⟨rfl, HB6.out⟩

set_option maxRecDepth 100000 in
theorem lifted (os : Os) (started : os.Started) (H : Type) (enc : TypeId × Value → H) :
    ReturnsInHanded {} Try.checked os 4 .any (Rows.cacheRoomsSpec.pre6 enc Try.prog Try.f4 Rows.cacheRoomsRow.domain false) (Rows.cacheRoomsSpec.post enc Try.prog Try.f4 false true false false) := by
  refine returnsInHanded_of_change_sized (C := Try.checked) own started (by kernel_rfl) Try.func4
    (ChangeSpec.witness6 (enc := enc) (C := Try.checked) false ⟨#[], #[.int .i64 0], []⟩ 8 (by kernel_rfl) (by kernel_rfl) (by kernel_rfl) (by kernel_rfl)) ?_
  intro W base args ds gs before hval0 hW hcnd hsz0 _
  have hval : ∀ (j : Nat) t v, Try.f4.params[j]? = some t → args[j]? = some v → Value.okWide Try.prog W .any base t v := hval0
  have hsz : (DataW.weightsEach Try.prog (Try.f4.params.toList ++ Rows.cacheRoomsSpec.plain.varTypes Try.prog) (ds ++ gs)).all (· ≤ reachBytes) = true := hsz0
  have hW' := hW
  obtain ⟨p, q, hA0, hV, rfl, hfz, hnd⟩ := hW
  have hA : DataW.TrodAll enc Try.prog W 0 (fun _ => true) true Try.f4.params.toList args.toList ds p := hA0
  rw [Try.params4] at hA hval hsz
  obtain ⟨v0, vs0, d0, ds0, p0, q0, hargs, rfl, rfl, h0, r0⟩ := trodAll_cons hA
  obtain ⟨rfl, rfl, rfl⟩ := trodAll_nil r0
  obtain rfl : args = #[v0] := by cases args; simp_all
  obtain ⟨rfl, rfl⟩ := trodVars_none hV
  obtain ⟨a0, rfl, rfl, rfl, w0⟩ := open_int Try.underlying3 (hval 0 3 v0 rfl rfl) h0
  clear hA0 hval0
  refine (walk W a0 w0).mono fun e W' ⟨he, hg⟩ => ?_
  subst he
  exact ⟨_, rfl, _, _, _, [], _, [], hW', trodAll_mk1 (shut_bool Try.underlying4 _), (trodAll_cons_mk (shut_int Try.underlying3 w0) trodAll_mk0), rfl, hg.frame _, fun h => by cases h⟩

theorem proved : Rows.CacheRoomsSaid :=
  OpenClaim.holds_of_wide 4 Try.f4 rfl rfl rfl rfl rfl rfl rfl ⟨rfl, rfl, rfl, rfl, rfl⟩ rfl rfl rfl rfl rfl (by kernel_rfl) Try.func4 (by kernel_rfl)
    (of_decide_eq_true (by kernel_rfl)) (by unfold Func.isWrapper; first | (rw [if_pos (by decide +kernel)]; kernel_rfl) | (rw [if_neg (by decide +kernel)]; exact ⟨rfl, rfl⟩))
    (fun os started H enc _ => lifted os started H enc)
#print axioms proved
end Go.Proofs.Ytmnnmnggakbipaa.cacheRooms
