/-
  For any items and any number the statement MeasureTakes of the program returns true: New takes items just if they may be a paragraph's, tells each as it is, and the places at which a line may end; what was handed in is unchanged, and what Legal tells is the asker's. No condition besides the statement's own.
-/
import Derived.Test.YtkoaoejlbkdkgaaRows
import Derived.WalkKit
import Derived.ProofKit
import Derived.OpenShut
import Derived.SizedLaws
import Derived.ShutString
import Derived.ChangeOld
import Derived.Below
import Derived.Test.YtkoaoejlbkdkgaaFb
import Derived.Test.YtkoaoejlbkdkgaaEl
import Derived.Lib.QuietBelow
import Derived.BigQuiet
namespace Go.Proofs.Ytkoaoejlbkdkgaa.measureTakes
open Go.ChangeShapes Go.WideShapes Go.ChangeAt Go.RowKit
open Go.ChangeMaps (open_string shut_string)
set_option linter.unusedVariables false
set_option linter.unusedSimpArgs false

theorem own : ownKnob Try.prog.godebug = none := by kernel_rfl
theorem laidOut : laidOutB Try.prog = true := by kernel_rfl

set_option maxRecDepth 100000 in
set_option maxHeartbeats 16000000 in
theorem walk (w : World) (ao0 : Option Addr) (n0 cap0 : Nat) (I0 : Nat → Itm) (hn0 : n0 ≤ maxLen) (hI0 : ItsAt (fun _ => True) w ao0 n0 I0) (a1 : Int) (w1 : (Lit.int .i64 a1).wf = true) :
    Calls Try.prog 3 #[.slice ao0 n0 cap0, .int .i64 a1] w fun e w' => e = .returned (.bool true) ∧ Below w.heap.size w w' := by
  have hA := fun w => awake_any w
  have HI := boxed hI0
  have hn1 := boxed hn0
  unfold maxLen at hn0
  cases hg : rgt I0 n0
  · have hN := boxed (fun W (hb : Below w.heap.size w W) => new_bad (fun _ => True) ao0 n0 cap0 I0 W (HI.out.below hb) hn1.out hg)
    have hR := boxed (fun W (hb : Below w.heap.size w W) => refright7_any (fun _ => True) ao0 n0 cap0 I0 W (HI.out.below hb) hn1.out)
    rw [hg] at hR
    clear hI0
    go_enter Try.func3, Try.ntmps3
    go_wp2_with fail
    refine (hA _).mono ?_
    rintro e w1 ⟨rfl, hb1⟩
    have HB1 := boxed hb1
    clear hb1
    go_wp2_with fail
    refine (hN.out _ HB1.out).mono ?_
    rintro e w2 ⟨rfl, hb2⟩
    have HB2 := boxed (below_step HB1.out (Nat.le_refl _) hb2)
    clear hb2
    go_wp2_with fail
    refine (hR.out _ HB2.out).mono ?_
    rintro e w3 ⟨rfl, hb3⟩
    have HB3 := boxed (below_step HB2.out (Nat.le_refl _) hb3)
    clear hb3
    go_wp2_with fail
    go_ret
    exact ⟨rfl, HB3.out⟩
  have hN := boxed (fun W (hb : Below w.heap.size w W) => new_any (fun _ => True) ao0 n0 cap0 I0 W (HI.out.below hb) hn1.out hg)
  have hR := boxed (fun W (hb : Below w.heap.size w W) => refright7_any (fun _ => True) ao0 n0 cap0 I0 W (HI.out.below hb) hn1.out)
  rw [hg] at hR
  obtain ⟨h0, h1, hfo, hok⟩ := (rgt_iff I0 n0).1 hg
  have hlp : 0 < (lgs I0 n0 n0).length := lgs_pos I0 n0 h0 hfo
  have hll := lgs_len I0 n0 n0
  have hL := boxed (fun W (hb : Below w.heap.size w W) => reflegal8_any (fun _ => True) ao0 n0 cap0 I0 W (HI.out.below hb) h1)
  clear hI0 hg hfo
  go_enter Try.func3, Try.ntmps3
  go_wp2_with fail
  refine (hA _).mono ?_
  rintro e w1 ⟨rfl, hb1⟩
  have HB1 := boxed hb1
  clear hb1
  go_wp2_with fail
  refine (hN.out _ HB1.out).mono ?_
  rintro e w2 ⟨pb, rfl, hP, hb2⟩
  have HP2 := boxed hP
  have HB2 := boxed (below_step HB1.out (Nat.le_refl _) hb2)
  clear hb2 hP
  go_wp2_with fail
  refine (hR.out _ HB2.out).mono ?_
  rintro e w3 ⟨rfl, hb3⟩
  have HP3 := boxed (HP2.out.below hb3)
  have HB3 := boxed (below_step HB2.out (Nat.le_refl _) hb3)
  clear hb3 HP2 hA hN hR
  have hit := pitems_any HP3.out h1
  have hpl := plegal_any HP3.out h1 hlp
  go_wp2_with fail
  refine hit.mono ?_
  rintro e w' ⟨rfl, hw'⟩
  subst w'
  clear hit
  go_wp2_with fail
  refine hpl.mono ?_
  rintro e w4 ⟨v4, rfl, hO, hb4⟩
  obtain ⟨g, ec, rfl, hg1, hg2⟩ := own_form hO hlp
  have HO4 := boxed hO
  have HP4 := boxed (HP3.out.below hb4)
  have HB4 := boxed (below_step HB3.out (Nat.le_refl _) hb4)
  have HX4 := boxed hb4
  clear hpl hb4 hO
  go_wp2_with fail
  refine (hL.out _ HB4.out).mono ?_
  rintro e w5 ⟨v5, rfl, hO5, hb5⟩
  obtain ⟨q, rc, rfl, hq1, hq2⟩ := own_form hO5 hlp
  have HR5 := boxed hO5
  have HO5 := boxed (owns_below HO4.out hb5)
  have HP5 := boxed (HP3.out.keep (S' := fun b => b < w3.heap.size) (fun b i u hs hc => ⟨by have := World.block_lt_of_cell? w3 _ hc; simpa using this, hold (below_step HX4.out (Nat.le_refl _) hb5) hc⟩))
  have HB5 := boxed (below_step HB4.out (Nat.le_refl _) hb5)
  have hz5 : w3.heap.size ≤ w4.heap.size ∧ w4.heap.size ≤ w5.heap.size := ⟨HX4.out.size, hb5.size⟩
  clear hL hb5 hO5 HO4 HP4
  have hen := ends_any HP5.out h1
  go_wp2_with fail
  refine hen.mono ?_
  rintro e w' ⟨rfl, hw'⟩
  subst w'
  clear hen
  have HEN := boxed (endN_at (lgs I0 n0 n0))
  have HEo := boxed (fun W (h : ParaAt (fun b => b < w3.heap.size) W pb n0 I0) k => end_any h h1 k)
  have HIt := boxed (fun W (h : ParaAt (fun b => b < w3.heap.size) W pb n0 I0) => item_any h h1 a1)
  have HNG := boxed (fun k (hk : k < (lgs I0 n0 n0).length) => ncs_get (lgs I0 n0 n0) k hk)
  have hNL := ncs_len (lgs I0 n0 n0)
  generalize lgs I0 n0 n0 = L at *
  generalize hm : L.length = m at *
  have HM := boxed hm
  clear hm
  go_wp2_with fail
  go_loopw [9] (fun kv wr => ∃ k : Nat, k ≤ m ∧ kv = .int .i64 (k : Int) ∧ Box (∃ xs : List Value, wr.ownsRow w3.heap.size 3 1 (.slice (some ⟨g, 0, none⟩) m ec) m xs ∧ ∀ i, k ≤ i → i < m → xs[i]? = some (.int .i64 (L.getD i 0 : Nat))) ∧ Box (w5.grownBy wr (some g))) (fun kv _ => m - (intOf kv).toNat)
  case atStart => exact ⟨0, Nat.zero_le _, rfl, boxed ⟨ncs L, HO5.out, fun i _ hi => HNG.out i hi⟩, boxed ⟨rfl, rfl, rfl, Nat.le_refl _, fun _ _ _ => rfl⟩⟩
  case round =>
    obtain ⟨k, hk, rfl, HE, HG⟩ := hrel
    have HPr := boxed (HP5.out.keep (kp_grown HG.out (fun b hb => by omega)))
    have HRr := boxed (HR5.out.kept HG.out (by simp [Value.ownBlock]; omega))
    by_cases hlt : k < m
    · obtain ⟨xs, hox, hxs⟩ := HE.out
      have c0 := (hox.cellAt k (by omega)).trans (hxs k (Nat.le_refl _) hlt)
      have y0 := hox.frozenAt k
      have d0 := (HRr.out.cellAt k (by omega)).trans (HNG.out k hlt)
      have hen : Box (∀ d os, Calls Try.prog 16 #[.pointer (some ⟨pb, 0, none⟩), .int .i64 (k : Int)] (Go.Sort.grow (redrawn wr d) os) fun e w'' => e = .returned (.int .i64 (L.getD k 0 : Nat)) ∧ ∃ p : Regrown, w'' = Go.Sort.grow (redrawn wr p.1) p.2) := boxed (fun d os => by
        refine Calls.regrown_of ((HEo.out _ (HPr.out.below (below_regrown wr d os)) (k : Int)).mono ?_)
        rintro e w' ⟨rfl, rfl⟩
        exact ⟨by rw [HEN.out k hlt], Below.refl _ _⟩)
      have HOX := boxed (And.intro hox hxs)
      have t3 : decide ((k : Int) < (m : Int)) = true := decide_eq_true (by omega)
      have t3' : decide (k < m) = true := decide_eq_true hlt
      have t4 : (k : Int) < (m : Int) := by omega
      have hgq : g ≠ q := by omega
      clear hox hxs HE
      obtain ⟨y, hy⟩ : ∃ y, L.getD k 0 = y := ⟨_, rfl⟩
      rw [hy] at hen c0 d0
      have v0 := cell_regrown c0
      have v1 := cell_regrown d0
      have hKL := boxed (And.intro hk hlt)
      clear c0 d0 y0
      go_wp2_with fail
      refine wp_region_quiet_below (by kernel_rfl) (by kernel_rfl) ?_
      repeat (go_big_quiet_step (first | (go_at_call 16; exact hen.out _ _)))
      refine wpQuiet_nil ?_
      intro _ hw'
      obtain ⟨⟨dq, osq⟩, hw''⟩ := hw'
      subst hw''
      have hb6 := below_regrown wr dq osq
      clear v0 v1 hen
      generalize Go.Sort.grow (redrawn wr dq) osq = w6 at *
      have hox6 := owns_below HOX.out.1 hb6
      have c0 := (hox6.cellAt k (by omega)).trans (HOX.out.2 k (Nat.le_refl _) hlt)
      have y0 := hox6.frozenAt k
      have hst := hox6.stored k (.int .i64 (-7))
      have HX2 : Box (∃ xs : List Value, (w6.setCell ⟨g, k, none⟩ (.int .i64 (-7))).ownsRow w3.heap.size 3 1 (.slice (some ⟨g, 0, none⟩) m ec) m xs ∧ ∀ i, k + 1 ≤ i → i < m → xs[i]? = some (.int .i64 (L.getD i 0 : Nat))) := boxed ⟨_, hst.1, fun i h1 h2 => by
        rw [List.getElem?_set_ne (by omega)]
        exact HOX.out.2 i (by omega) h2⟩
      have HG2 := boxed (grown_trans (grown_trans HG.out (below_grown hb6 (some g))) hst.2)
      clear hst hox6 hb6 HG
      go_wp2_with fail
      go_roundw
      case rel => exact ⟨k + 1, by omega, by go_num, HX2, HG2⟩
      case measure => simp [intOf]; omega
    · obtain rfl : m = k := by omega
      have HBr := boxed (HB5.out.trans (grown_below HG.out (by have := HB3.out.size; omega) HB5.out.size))
      have hit := HIt.out _ HPr.out
      have t3 : decide ((m : Int) < (m : Int)) = false := decide_eq_false (by omega)
      clear HE
      go_wp2_with fail
      refine hit.mono ?_
      rintro e w7 ⟨rfl, hb7⟩
      have HP7 := boxed (HPr.out.below hb7)
      have HB7 := boxed (below_step HBr.out (Nat.le_refl _) hb7)
      have HR7 := boxed (owns_below HRr.out hb7)
      clear hb7 hit
      by_cases ka : 0 ≤ a1 ∧ a1 < (n0 : Int)
      · have ei : itm I0 n0 a1 = I0 a1.toNat := by unfold itm; rw [if_pos ka]
        rw [ei]
        obtain ⟨k, rfl⟩ : ∃ j : Nat, a1 = (j : Int) := ⟨a1.toNat, by omega⟩
        rw [Int.toNat_natCast]
        have hkn : k < n0 := by omega
        have hkn2 : (k : Int) < (n0 : Int) := by omega
        obtain ⟨lb, off, e, -, d0, d1, d2, d3, d4, d5, d6, d7, d8⟩ := (HI.out.below HB7.out) k hkn
        subst e
        have hq := fun w => eqlItem (I0 k) (I0 k) w
        have hlk : (I0 k).like (I0 k) = true := (like_iff _ _).2 rfl
        rw [hlk] at hq
        have hgd := guardItem
        have q5 : lb < w7.heap.size := World.block_lt_of_cell? w7 _ d0
        have q6 : lb ≠ w7.heap.size := by omega
        have e0 := (HR7.out.cellAt 0 (by omega)).trans (HNG.out 0 (by omega))
        have q7 : q < w7.heap.size := World.block_lt_of_cell? w7 _ e0
        have q8 : q ≠ w7.heap.size := by omega
        have t5 : decide ((k : Int) < 0) = false := decide_eq_false (by omega)
        have t6 : decide ((n0 : Int) ≤ (k : Int)) = false := decide_eq_false (by omega)
        have t6' : decide (n0 ≤ k) = false := decide_eq_false (by omega)
        have t7 : ((m : Int) == 0) = false := by rw [beq_eq_false_iff_ne]; omega
        unfold Itm.val at hq ⊢
        generalize I0 k = x at *
        clear ei hlk
        obtain ⟨w8, hw8⟩ : ∃ w8, w7.alloc (.cells #[.int .i64 x.k, .int .i64 x.w, .int .i64 x.st, .int .i64 x.sh, .bool x.fill, .int .i64 x.c, .bool x.flag, .int .i64 x.fr, .int .i64 x.to] 35) = w8 := ⟨_, rfl⟩
        have hb8 : Below w7.heap.size w7 w8 := by rw [← hw8]; exact (Below.refl _ _).alloc (Nat.le_refl _) _
        have hc8 : ∀ j, w8.cell? ⟨w7.heap.size, j, none⟩ = (#[.int .i64 x.k, .int .i64 x.w, .int .i64 x.st, .int .i64 x.sh, .bool x.fill, .int .i64 x.c, .bool x.flag, .int .i64 x.fr, .int .i64 x.to] : Array Value)[j]? := fun j => by rw [← hw8]; exact cell_first _ _ _ _
        have HP8 := HP7.out.below hb8
        have HB8 := boxed (below_step HB7.out (Nat.le_refl _) hb8)
        have hen : Box (∀ d os, Calls Try.prog 16 #[.pointer (some ⟨pb, 0, none⟩), .int .i64 0] (Go.Sort.grow (redrawn w8 d) os) fun e w'' => e = .returned (.int .i64 (L.getD 0 0 : Nat)) ∧ ∃ p : Regrown, w'' = Go.Sort.grow (redrawn w8 p.1) p.2) := boxed (fun d os => by
          refine Calls.regrown_of ((HEo.out _ (HP8.below (below_regrown w8 d os)) 0).mono ?_)
          rintro e w' ⟨rfl, rfl⟩
          exact ⟨by rw [show (0 : Int) = ((0 : Nat) : Int) from rfl, HEN.out 0 (by omega)], Below.refl _ _⟩)
        have v0 := cell_regrown (hold hb8 d0)
        have v1 := cell_regrown (hold hb8 d1)
        have v2 := cell_regrown (hold hb8 d2)
        have v3 := cell_regrown (hold hb8 d3)
        have v4 := cell_regrown (hold hb8 d4)
        have v5 := cell_regrown (hold hb8 d5)
        have v6 := cell_regrown (hold hb8 d6)
        have v7 := cell_regrown (hold hb8 d7)
        have v8 := cell_regrown (hold hb8 d8)
        have v9 := cell_regrown (hold hb8 e0)
        have u0 := cell_regrown (hc8 0)
        have u1 := cell_regrown (hc8 1)
        have u2 := cell_regrown (hc8 2)
        have u3 := cell_regrown (hc8 3)
        have u4 := cell_regrown (hc8 4)
        have u5 := cell_regrown (hc8 5)
        have u6 := cell_regrown (hc8 6)
        have u7 := cell_regrown (hc8 7)
        have u8 := cell_regrown (hc8 8)
        clear hb8 hc8 HP8 d0 d1 d2 d3 d4 d5 d6 d7 d8 e0
        generalize L.getD 0 0 = y at *
        replace hw8 := boxed hw8
        have hun : undef = Value.tuple #[] := rfl
        have hnm : (0 : Int) < (m : Int) := by omega
        go_wp2_with fail
        rw [hw8.out]
        refine wp_region_quiet_below (by kernel_rfl) (by kernel_rfl) ?_
        repeat (go_big_quiet_step (first | (go_at_call 16; exact hen.out _ _)))
        refine wpQuiet_nil ?_
        intro _ hw'
        obtain ⟨⟨dq, osq⟩, hw''⟩ := hw'
        subst hw''
        have HB9 := boxed (below_step HB8.out (Nat.le_refl _) (below_regrown w8 dq osq))
        clear v0 v1 v2 v3 v4 v5 v6 v7 v8 v9 u0 u1 u2 u3 u4 u5 u6 u7 u8 hen
        generalize Go.Sort.grow (redrawn w8 dq) osq = w9 at *
        go_wp2_with fail
        go_ret
        exact ⟨rfl, HB9.out⟩
      · have ei : itm I0 n0 a1 = Itm.zero := by unfold itm; rw [if_neg ka]
        rw [ei]
        unfold Itm.zero Itm.val
        by_cases kn : a1 < 0
        · have t5 : decide (a1 < 0) = true := decide_eq_true kn
          go_wp2_with fail
          go_ret
          exact ⟨rfl, HB7.out.alloc HB7.out.size _⟩
        · have t5 : decide (a1 < 0) = false := decide_eq_false kn
          have t6 : decide ((n0 : Int) ≤ a1) = true := decide_eq_true (by omega)
          have t7 : decide (a1 < (m : Int)) = false := decide_eq_false (by omega)
          have hee : endN L a1 = -1 := by unfold endN; rw [if_neg (by have := HM.out; omega)]
          have hen := HEo.out _ (HP7.out.below ((Below.refl _ _).alloc (Nat.le_refl _) (.cells #[.int .i64 0, .int .i64 0, .int .i64 0, .int .i64 0, .bool false, .int .i64 0, .bool false, .int .i64 0, .int .i64 0] 35))) a1
          rw [hee] at hen
          clear hee
          go_wp2_with fail
          refine hen.mono ?_
          rintro e w8 ⟨rfl, hw8⟩
          subst w8
          go_wp2_with fail
          go_ret
          exact ⟨rfl, HB7.out.alloc HB7.out.size _⟩

set_option maxRecDepth 100000 in
theorem lifted (os : Os) (started : os.Started) (H : Type) (enc : TypeId × Value → H) :
    ReturnsInHanded {} Try.checked os 3 .any (Rows.measureTakesSpec.pre6 enc Try.prog Try.f3 Rows.measureTakesRow.domain false) (Rows.measureTakesSpec.post enc Try.prog Try.f3 false true false false) := by
  refine returnsInHanded_of_change_sized (C := Try.checked) own started (by kernel_rfl) Try.func3
    (ChangeSpec.witness6 (enc := enc) (C := Try.checked) false ⟨#[], #[.slice none 0 0, .int .i64 0], []⟩ 8 (by kernel_rfl) (by kernel_rfl) (by kernel_rfl) (by kernel_rfl)) ?_
  intro W base args ds gs before hval0 hW hcnd hsz0 _
  have hval : ∀ (j : Nat) t v, Try.f3.params[j]? = some t → args[j]? = some v → Value.okWide Try.prog W .any base t v := hval0
  have hsz : (DataW.weightsEach Try.prog (Try.f3.params.toList ++ Rows.measureTakesSpec.plain.varTypes Try.prog) (ds ++ gs)).all (· ≤ reachBytes) = true := hsz0
  have hW' := hW
  obtain ⟨p, q, hA0, hV, rfl, hfz, hnd⟩ := hW
  have hA : DataW.TrodAll enc Try.prog W 0 (fun _ => true) true Try.f3.params.toList args.toList ds p := hA0
  rw [Try.params3] at hA hval hsz
  obtain ⟨v0, vs0, d0, ds0, p0, q0, hargs, rfl, rfl, h0, r0⟩ := trodAll_cons hA
  obtain ⟨v1, vs1, d1, ds1, p1, q1, rfl, rfl, rfl, h1, r1⟩ := trodAll_cons r0
  obtain ⟨rfl, rfl, rfl⟩ := trodAll_nil r1
  obtain rfl : args = #[v0, v1] := by cases args; simp_all
  obtain ⟨rfl, rfl⟩ := trodVars_none hV
  obtain ⟨ao0, n0, cap0, rfl⟩ := okWide_slice Try.underlying22 (hval 0 22 v0 rfl rfl)
  have k0 := h0
  have lt0 : ∀ x ∈ p0, x.block < W.heap.size := by obtain ⟨m, hm⟩ := k0; exact DataW.trod_lt m _ _ _ hm
  obtain ⟨hn0, I0, hI0⟩ : n0 ≤ maxLen ∧ ∃ I, ItsAt (fun _ => True) W ao0 n0 I := by
    obtain ⟨fuel, hf⟩ := k0
    exact open_items hf
  obtain ⟨a1, rfl, rfl, rfl, w1⟩ := open_int Try.underlying3 (hval 1 3 v1 rfl rfl) h1
  clear hA0 hval0
  refine (walk W ao0 n0 cap0 I0 hn0 hI0 a1 w1).mono fun e W' ⟨he, hg⟩ => ?_
  subst he
  exact ⟨_, rfl, _, _, _, [], _, [], hW', trodAll_mk1 (shut_bool Try.underlying4 _), (trodAll_cons_mk (Below.trod laidOut (by kernel_rfl) (of_decide_eq_true (by kernel_rfl)) k0 hg lt0) (trodAll_cons_mk (shut_int Try.underlying3 w1) trodAll_mk0)), rfl, hg.frame _, fun h => by cases h⟩

theorem proved : Rows.MeasureTakesSaid :=
  OpenClaim.holds_of_wide 3 Try.f3 rfl rfl rfl rfl rfl rfl rfl ⟨rfl, rfl, rfl, rfl, rfl⟩ rfl rfl rfl rfl rfl (by kernel_rfl) Try.func3 (by kernel_rfl)
    (of_decide_eq_true (by kernel_rfl)) (by unfold Func.isWrapper; first | (rw [if_pos (by decide +kernel)]; kernel_rfl) | (rw [if_neg (by decide +kernel)]; exact ⟨rfl, rfl⟩))
    (fun os started H enc _ => lifted os started H enc)
#print axioms proved
end Go.Proofs.Ytkoaoejlbkdkgaa.measureTakes
