/-
  ItemsEnds is proved as it stands: for every list of items and every place the program's Legal is the document's, and at each of the first 300 items both Legal and Forced are. No condition.
-/
import Derived.Test.YteckbkcngkppmaaRows
import Derived.WalkKit
import Derived.ProofKit
import Derived.OpenShut
import Derived.SizedLaws
import Derived.ShutString
import Derived.ChangeOld
import Derived.Below
import Derived.Test.YteckbkcngkppmaaJs
import Derived.Test.YteckbkcngkppmaaJe
import Derived.Lib.QuietBelow
import Derived.BigQuiet
namespace Go.Proofs.Yteckbkcngkppmaa.itemsEnds
open Go.ChangeShapes Go.WideShapes Go.ChangeAt Go.RowKit
open Go.ChangeMaps (open_string shut_string)
set_option linter.unusedVariables false
set_option linter.unusedSimpArgs false

theorem own : ownKnob Try.prog.godebug = none := by kernel_rfl
theorem laidOut : laidOutB Try.prog = true := by kernel_rfl

set_option maxRecDepth 100000 in
set_option maxHeartbeats 2000000 in
theorem walk (w : World) (ao0 : Option Addr) (n0 cap0 : Nat) (I0 : Nat → Itm) (hn0 : n0 ≤ maxLen) (hI0 : ItsAt (fun _ => True) w ao0 n0 I0) (a1 : Int) (w1 : (Lit.int .i64 a1).wf = true) :
    Calls Try.prog 6 #[.slice ao0 n0 cap0, .int .i64 a1] w fun e w' => e = .returned (.bool true) ∧ Below w.heap.size w w' := by
  have HA := boxed (awake_any w)
  have HL := boxed (fun w' (hb : Below w.heap.size w w') k => legal_any (fun _ => True) ao0 n0 cap0 I0 w' (hI0.below hb) hn0 k)
  have HM := boxed (fun w' (hb : Below w.heap.size w w') k => reflegal_any (fun _ => True) ao0 n0 cap0 I0 w' (hI0.below hb) hn0 k)
  have HI := boxed hI0
  unfold maxLen at hn0
  clear hI0
  go_enter Try.func6, Try.ntmps6
  go_wp2_with fail
  refine HA.out.mono ?_
  rintro e w1 ⟨rfl, hb1⟩
  have HB1 := boxed hb1
  clear hb1 HA
  have hl1 := HL.out _ HB1.out a1
  have hm1 := fun w' (hb : Below w.heap.size w w') => HM.out w' hb a1
  generalize legl I0 n0 a1 = V at *
  go_wp2_with fail
  refine hl1.mono ?_
  rintro e w2 ⟨rfl, hb2⟩
  have HB2 := boxed (below_step HB1.out (Nat.le_refl _) hb2)
  clear hb2 hl1
  go_wp2_with fail
  refine (hm1 _ HB2.out).mono ?_
  rintro e w3 ⟨rfl, hb3⟩
  have HB3 := boxed (below_step HB2.out (Nat.le_refl _) hb3)
  clear hb3 hm1
  have tv : (V != V) = false := by simp
  go_wp2
  go_loopw [5] (fun i wr => ∃ k : Nat, (k ≤ n0 ∧ k ≤ 300) ∧ i = .int .i64 (k : Int) ∧ Box (Below w.heap.size w wr)) (fun i _ => n0 - (intOf i).toNat)
  case atStart => exact ⟨0, ⟨Nat.zero_le _, Nat.zero_le _⟩, rfl, HB3⟩
  case round =>
    obtain ⟨k, hk, rfl, HB⟩ := hrel
    by_cases hlt : k < n0 ∧ k < 300
    · obtain ⟨hlt1, hlt2⟩ := hlt
      have t3 : decide ((k : Int) < (n0 : Int)) = true := decide_eq_true (by omega)
      have t4 : decide ((k : Int) < 300) = true := decide_eq_true (by omega)
      obtain ⟨b, off, e, -, c0, c1, c2, c3, c4, c5, c6, c7, c8⟩ := (HI.out.below HB.out) k hlt1
      subst e
      have hfa := fun w => forced_any (I0 k) w
      have hfb := fun w => refforced_any (I0 k) w
      simp only [Itm.val] at hfa hfb
      generalize forc (I0 k) = FO at *
      have CL : Box (∀ d os, Calls Try.prog 20 #[.slice (some ⟨b, off, none⟩) n0 cap0, .int .i64 (k : Nat)] (Go.Sort.grow (redrawn wr d) os) fun e w'' => e = .returned (.bool (legl I0 n0 (k : Nat))) ∧ ∃ p : Regrown, w'' = Go.Sort.grow (redrawn wr p.d) p.os) := boxed (fun d os => Calls.regrown_of (HL.out _ (below_step HB.out (Nat.le_refl _) (below_regrown wr d os)) (k : Nat)))
      have CM : Box (∀ d os, Calls Try.prog 21 #[.slice (some ⟨b, off, none⟩) n0 cap0, .int .i64 (k : Nat)] (Go.Sort.grow (redrawn wr d) os) fun e w'' => e = .returned (.bool (legl I0 n0 (k : Nat))) ∧ ∃ p : Regrown, w'' = Go.Sort.grow (redrawn wr p.d) p.os) := boxed (fun d os => Calls.regrown_of (HM.out _ (below_step HB.out (Nat.le_refl _) (below_regrown wr d os)) (k : Nat)))
      generalize legl I0 n0 ((k : Nat) : Int) = LE at *
      generalize I0 k = x at *
      have CF : Box (∀ d os, Calls Try.prog 22 #[.agg #[.int .i64 x.k, .int .i64 x.w, .int .i64 x.st, .int .i64 x.sh, .bool x.fill, .int .i64 x.c, .bool x.flag, .int .i64 x.fr, .int .i64 x.to]] (Go.Sort.grow (redrawn wr d) os) fun e w'' => e = .returned (.bool FO) ∧ ∃ p : Regrown, w'' = Go.Sort.grow (redrawn wr p.d) p.os) := boxed (fun d os => Calls.regrown_of (hfa _))
      have CG : Box (∀ d os, Calls Try.prog 23 #[.agg #[.int .i64 x.k, .int .i64 x.w, .int .i64 x.st, .int .i64 x.sh, .bool x.fill, .int .i64 x.c, .bool x.flag, .int .i64 x.fr, .int .i64 x.to]] (Go.Sort.grow (redrawn wr d) os) fun e w'' => e = .returned (.bool FO) ∧ ∃ p : Regrown, w'' = Go.Sort.grow (redrawn wr p.d) p.os) := boxed (fun d os => Calls.regrown_of (hfb _))
      have vc0 := cell_regrown c0
      have vc1 := cell_regrown c1
      have vc2 := cell_regrown c2
      have vc3 := cell_regrown c3
      have vc4 := cell_regrown c4
      have vc5 := cell_regrown c5
      have vc6 := cell_regrown c6
      have vc7 := cell_regrown c7
      have vc8 := cell_regrown c8
      have tl : (LE != LE) = false := by simp
      have tf : (FO != FO) = false := by simp
      have hun : undef = Value.tuple #[] := rfl
      clear hfa hfb HL HM c0 c1 c2 c3 c4 c5 c6 c7 c8
      go_wp2_with fail
      refine wp_region_quiet_below (by kernel_rfl) (by kernel_rfl) ?_
      repeat (go_big_quiet_step (first | (go_at_call 20; exact CL.out _ _) | (go_at_call 21; exact CM.out _ _) | (go_at_call 22; exact CF.out _ _) | (go_at_call 23; exact CG.out _ _)))
      refine wpQuiet_nil ?_
      intro _ hw'
      obtain ⟨⟨dq, osq⟩, hw''⟩ := hw'
      subst hw''
      have HB6 := boxed (below_step HB.out (Nat.le_refl _) (below_regrown wr dq osq))
      clear vc0 vc1 vc2 vc3 vc4 vc5 vc6 vc7 vc8 CL CM CF CG
      generalize Go.Sort.grow (redrawn wr dq) osq = w5 at *
      go_wp2
      go_roundw
      case rel => first | exact ⟨k + 1, ⟨by omega, by omega⟩, by go_num, HB6⟩ | exact ⟨k + 1, ⟨by omega, by omega⟩, by omega⟩
      case measure => simp [intOf]; omega
    · by_cases hn : k < n0
      · have t3 : decide ((k : Int) < (n0 : Int)) = true := decide_eq_true (by omega)
        have t4 : decide ((k : Int) < 300) = false := decide_eq_false (by omega)
        clear hlt
        go_wp2
        go_ret
        exact ⟨rfl, HB.out⟩
      · have t3 : decide ((k : Int) < (n0 : Int)) = false := decide_eq_false (by omega)
        clear hlt
        go_wp2
        go_ret
        exact ⟨rfl, HB.out⟩

set_option maxRecDepth 100000 in
theorem lifted (os : Os) (started : os.Started) (H : Type) (enc : TypeId × Value → H) :
    ReturnsInHanded {} Try.checked os 6 .any (Rows.itemsEndsSpec.pre6 enc Try.prog Try.f6 Rows.itemsEndsRow.domain false) (Rows.itemsEndsSpec.post enc Try.prog Try.f6 false true false false) := by
  refine returnsInHanded_of_change_sized (C := Try.checked) own started (by kernel_rfl) Try.func6
    (ChangeSpec.witness6 (enc := enc) (C := Try.checked) false ⟨#[], #[.slice none 0 0, .int .i64 0], []⟩ 8 (by kernel_rfl) (by kernel_rfl) (by kernel_rfl) (by kernel_rfl)) ?_
  intro W base args ds gs before hval0 hW hcnd hsz0 _
  have hval : ∀ (j : Nat) t v, Try.f6.params[j]? = some t → args[j]? = some v → Value.okWide Try.prog W .any base t v := hval0
  have hsz : (DataW.weightsEach Try.prog (Try.f6.params.toList ++ Rows.itemsEndsSpec.plain.varTypes Try.prog) (ds ++ gs)).all (· ≤ reachBytes) = true := hsz0
  have hW' := hW
  obtain ⟨p, q, hA0, hV, rfl, hfz, hnd⟩ := hW
  have hA : DataW.TrodAll enc Try.prog W 0 (fun _ => true) true Try.f6.params.toList args.toList ds p := hA0
  rw [Try.params6] at hA hval hsz
  obtain ⟨v0, vs0, d0, ds0, p0, q0, hargs, rfl, rfl, h0, r0⟩ := trodAll_cons hA
  obtain ⟨v1, vs1, d1, ds1, p1, q1, rfl, rfl, rfl, h1, r1⟩ := trodAll_cons r0
  obtain ⟨rfl, rfl, rfl⟩ := trodAll_nil r1
  obtain rfl : args = #[v0, v1] := by cases args; simp_all
  obtain ⟨rfl, rfl⟩ := trodVars_none hV
  obtain ⟨ao0, n0, cap0, rfl⟩ := okWide_slice Try.underlying28 (hval 0 28 v0 rfl rfl)
  have k0 := h0
  have lt0 : ∀ x ∈ p0, x.block < W.heap.size := by obtain ⟨m, hm⟩ := k0; exact DataW.trod_lt m _ _ _ hm
  obtain ⟨hn0, I0, hI0⟩ : n0 ≤ maxLen ∧ ∃ I, ItsAt (fun _ => True) W ao0 n0 I := by
    obtain ⟨fuel, hf⟩ := k0
    exact open_items hf
  obtain ⟨a1, rfl, rfl, rfl, w1⟩ := open_int Try.underlying3 (hval 1 3 v1 rfl rfl) h1
  clear hA0 hval0
  refine (walk W ao0 n0 cap0 I0 hn0 hI0 a1 w1).mono fun e W' ⟨he, hg⟩ => ?_
  subst he
  exact ⟨_, rfl, _, _, _, [], _, [], hW', trodAll_mk1 (shut_bool Try.underlying4 _), (trodAll_cons_mk (Below.trod laidOut (by kernel_rfl) (of_decide_eq_true (by kernel_rfl)) k0 hg lt0) (trodAll_cons_mk (shut_int Try.underlying3 w1) trodAll_mk0)), rfl, hg.frame _, fun h => by cases h⟩

theorem proved : Rows.ItemsEndsSaid :=
  OpenClaim.holds_of_wide 6 Try.f6 rfl rfl rfl rfl rfl rfl rfl ⟨rfl, rfl, rfl, rfl, rfl⟩ rfl rfl rfl rfl rfl (by kernel_rfl) Try.func6 (by kernel_rfl)
    (of_decide_eq_true (by kernel_rfl)) (by unfold Func.isWrapper; first | (rw [if_pos (by decide +kernel)]; kernel_rfl) | (rw [if_neg (by decide +kernel)]; exact ⟨rfl, rfl⟩))
    (fun os started H enc _ => lifted os started H enc)
#print axioms proved
end Go.Proofs.Yteckbkcngkppmaa.itemsEnds
