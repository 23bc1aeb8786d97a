/-
  For any pages and any regions DiffTakes answers true: the regions fit the pages, or they do not, as the document says; where they fit, what the program makes of them is what the document says, and where they do not, it tells ErrPatch and no pages.
  No condition besides the statement's own (layouts above 20 pages, pages and regions above 40 lines, more than 20 regions, lines above 20 runs and runs above 2^40 bytes are let go by the law itself).
-/
import Derived.Test.YtoodhpgaikmalaaRows
import Derived.WalkKit
import Derived.ProofKit
import Derived.OpenShut
import Derived.SizedLaws
import Derived.ShutString
import Derived.ChangeOld
import Derived.Below
import Derived.Test.YtoodhpgaikmalaaAm
namespace Go.Proofs.Ytoodhpgaikmalaa.diffTakes
open Go.ChangeShapes Go.WideShapes Go.ChangeAt Go.RowKit
open Go.ChangeMaps (open_string shut_string)
set_option linter.unusedVariables false
set_option linter.unusedSimpArgs false

theorem own : ownKnob Try.prog.godebug = none := by kernel_rfl
theorem laidOut : laidOutB Try.prog = true := by kernel_rfl

set_option maxRecDepth 100000 in
set_option maxHeartbeats 16000000 in
theorem walk (w : World) (ao0 : Option Addr) (n0 cap0 : Nat) (P0 : Nat → Pgv) (hn0 : n0 ≤ maxLen ∧ Sl ao0 cap0 n0) (hP0 : PgsR (fun _ => True) w ao0 n0 P0) (ao1 : Option Addr) (n1 cap1 : Nat) (P1 : Nat → Rgv) (hn1 : n1 ≤ maxLen ∧ Sl ao1 cap1 n1) (hP1 : RgsR (fun _ => True) w ao1 n1 P1) :
    Calls Try.prog 5 #[.slice ao0 n0 cap0, .slice ao1 n1 cap1] w fun e w' => e = .returned (.bool true) ∧ Below w.heap.size w w' := by
  have HAw := boxed (awake_any w)
  have HFw0 := boxed (fun W (hb : Below w.heap.size w W) => few_any _ ao0 n0 cap0 P0 W (hP0.below hb) hn0.1)
  have HIn0 := boxed (fun W (hb : Below w.heap.size w W) => fun h => pages_in (hP0.below hb) h)
  have HRg := boxed (fun W (hb : Below w.heap.size w W) => hP1.below hb)
  have hsl0 := hn0.2
  have hsl1 := hn1.2
  have hm1 := hn1.1
  unfold maxLen at hm1
  clear hn0 hP0 hn1 hP1
  go_enter Try.func5, Try.ntmps5
  go_wp2_with fail
  refine HAw.out.mono ?_
  rintro e w1 ⟨rfl, hb1⟩
  have HB1 := boxed hb1
  clear hb1 HAw
  go_wp2_with fail
  refine (HFw0.out _ HB1.out).mono ?_
  rintro e w9 ⟨b0, rfl, hq0, rfl⟩
  have HQ0 := boxed hq0
  clear hq0 HFw0
  cases b0 with
  | false =>
    have hun : undef = Value.tuple #[] := rfl
    go_wp2_with fail
    go_ret
    exact ⟨rfl, HB1.out⟩
  | true =>
    obtain ⟨ps0, HPs0, hlp0, hfp0⟩ : ∃ ps : List (List Key), Box (∀ W, Below w.heap.size w W → PsAt (fun _ => True) W ao0 ps) ∧ ps.length = n0 ∧ Few ps := ⟨pgs n0 P0, boxed (fun W hb => (HIn0.out W hb (HQ0.out.1 (by first | rfl | trivial))).1), pgs_len _ _, (HIn0.out w (Below.refl _ _) (HQ0.out.1 (by first | rfl | trivial))).2⟩
    have HLP0 := boxed hlp0
    have HFP0 := boxed hfp0
    have HSL0 := boxed hsl0
    have HSL1 := boxed hsl1
    clear HIn0 HQ0 hlp0 hfp0 hsl0 hsl1
    by_cases c1 : 20 < n1
    · have t1 : decide ((20 : Int) < (n1 : Int)) = true := decide_eq_true (by omega)
      go_wp2_with fail
      go_ret
      exact ⟨rfl, HB1.out⟩
    have t1 : decide ((20 : Int) < (n1 : Int)) = false := decide_eq_false (by omega)
    have hn20 : n1 ≤ 20 := by omega
    clear c1 hm1
    go_wp2_with fail
    clear t1
    go_loopw [5] (fun vi wr => ∃ i : Nat, i ≤ n1 ∧ vi = .int .i64 (i : Nat) ∧ Box (∀ j, j < i → ShortP (P1 j).v.ln (P1 j).v.F) ∧ wr = w9) (fun vi _ => n1 - (intOf vi).toNat)
    case atStart => exact ⟨0, Nat.zero_le _, rfl, boxed (fun j hj => by omega), rfl⟩
    case round =>
      obtain ⟨i, hi, rfl, HS, rfl⟩ := hrel
      by_cases hlt : i < n1
      · obtain ⟨hok, hls, b, off, rfl, -, hc⟩ := HRg.out _ HB1.out i hlt
        have c4 : wr.cell? ⟨b, off + i * 5 + 4, none⟩ = some (.slice (P1 i).v.la (P1 i).v.ln (P1 i).v.lc) := by have := hc 4 (by omega); simpa [Rgv.cells] using this
        have t0 : decide ((i : Int) < (n1 : Int)) = true := decide_eq_true (by omega)
        have hlt2 : (i : Int) < (n1 : Int) := by omega
        have HC := boxed (short_any _ (P1 i).v.la (P1 i).v.ln (P1 i).v.lc (P1 i).v.F wr hls hok.2.ln (fun j hj => (hok.2.all j hj).rn.1))
        have HS2 : Box (ShortP (P1 i).v.ln (P1 i).v.F → ∀ j, j < i + 1 → ShortP (P1 j).v.ln (P1 j).v.F) := boxed (fun hh j hj => by
          by_cases d : j = i
          · subst d; exact hh
          · exact HS.out j (by omega))
        clear HS hls hok hc
        obtain ⟨x, hx⟩ : ∃ x, (P1 i).v = x := ⟨_, rfl⟩
        rw [hx] at HS2 HC c4
        clear hx
        go_wp2_with fail
        refine HC.out.mono ?_
        rintro e w' ⟨q, rfl, hq, rfl⟩
        have HQ := boxed hq
        clear hq HC
        cases q with
        | true =>
          go_wp2_with fail
          go_roundw
          case rel => exact ⟨i + 1, by omega, by go_num, boxed (HS2.out (HQ.out.1 (by first | rfl | trivial))), (by first | rfl | trivial)⟩
          case measure => simp [intOf]; omega
        | false =>
          go_wp2_with fail
          go_ret
          exact ⟨rfl, HB1.out⟩
      · obtain rfl : n1 = i := by omega
        have t0 : decide ((n1 : Int) < (n1 : Int)) = false := decide_eq_false (by omega)
        obtain ⟨rs, HRs, hlr, hrm⟩ : ∃ rs : List Rg, Box (∀ W, Below w.heap.size w W → RgAt (fun _ => True) W ao1 rs) ∧ rs.length = n1 ∧ ∀ r ∈ rs, r.ls.length ≤ 40 := ⟨rgs n1 P1, boxed (fun W hb => (regions_in (HRg.out W hb) HS.out).1), rgs_len _ _, (regions_in (HRg.out _ HB1.out) HS.out).2⟩
        have hlp0 := HLP0.out
        have hfp0 := HFP0.out
        have HPt := boxed (fun W hb => patch_any _ _ ao0 ao1 ps0 rs cap0 cap1 W (HPs0.out W hb) (HRs.out W hb) (by have := hfp0.1; omega) (by omega) (few_len hfp0 100 (by omega)) hrm (by rw [hlp0]; exact HSL0.out) (by rw [hlr]; exact HSL1.out))
        have HLw := boxed (fun W hb => lawpatch_any _ _ ao0 ao1 ps0 rs cap0 cap1 W (HPs0.out W hb) (HRs.out W hb) (by have := hfp0.1; omega) (by omega) (few_len hfp0 100 (by omega)) hrm (by rw [hlp0]; exact HSL0.out) (by rw [hlr]; exact HSL1.out))
        have HTk := boxed (takes_like ps0 rs)
        rw [hlp0] at HPt HLw HTk
        rw [hlr] at HPt HLw
        cases hS : stg ps0 (-1) n0 rs with
        | none =>
          have HR : Box (rsf ps0 ps0 (-1) (-1) rs = none) := boxed (by rw [HTk.out, hS]; rfl)
          have HSn := boxed hS
          clear hS hlp0 hfp0 hlr hrm HS
          go_wp2_with fail
          refine (HPt.out _ HB1.out).mono ?_
          rintro e w2 ⟨hb2, hcase⟩
          obtain rfl : e = .returned (.tuple #[.slice none 0 0, .int .i64 140]) := by
            rcases hcase with ⟨-, h⟩ | ⟨s, h, -⟩
            · exact h
            · rw [HSn.out] at h; cases h
          have HB2 := boxed (below_step HB1.out (Nat.le_refl _) hb2)
          clear hb2 hcase HPt
          go_wp2_with fail
          refine (HLw.out _ HB2.out).mono ?_
          rintro e w3 ⟨hb3, hcase⟩
          obtain rfl : e = .returned (.tuple #[.slice none 0 0, .bool false]) := by
            rcases hcase with ⟨-, h⟩ | ⟨s, h, -⟩
            · exact h
            · rw [HR.out] at h; cases h
          have HB3 := boxed (below_step HB2.out (Nat.le_refl _) hb3)
          clear hb3 hcase HLw
          go_wp2_with fail
          go_ret
          exact ⟨rfl, HB3.out⟩
        | some s =>
          have HR : Box (rsf ps0 ps0 (-1) (-1) rs = some (appl (ps0.take s) rs)) := boxed (by rw [HTk.out, hS]; rfl)
          have HSn := boxed hS
          have hbd := appl_bounds rs (ps0.take s) 40 (fun i ks e => by
            rw [List.getElem?_take] at e
            split at e
            · exact hfp0.2 i ks e
            · cases e) hrm
          have htl : (ps0.take s).length ≤ 20 := by rw [List.length_take]; have := hfp0.1; omega
          have HBd := boxed (show (appl (ps0.take s) rs).length ≤ 3000 ∧ ∀ (i : Nat) (ks : List Key), (appl (ps0.take s) rs)[i]? = some ks → ks.length ≤ 3000 from ⟨by have := hbd.1; omega, fun i ks e => by have := hbd.2 i ks e; omega⟩)
          clear hS hlp0 hfp0 hlr hrm HS hbd htl
          obtain ⟨A, hA⟩ : ∃ A, appl (ps0.take s) rs = A := ⟨_, rfl⟩
          have HAA := boxed hA
          rw [hA] at HR HBd
          clear hA
          have HPg := boxed (fun W S S' co c2 cc d2 h1 h2 => pages_alike S S' co c2 A cc d2 W h1 h2 HBd.out.1 HBd.out.2)
          obtain ⟨L, hL⟩ : ∃ L, A.length = L := ⟨_, rfl⟩
          have HLL := boxed hL
          rw [hL] at HPg
          clear hL
          go_wp2_with fail
          refine (HPt.out _ HB1.out).mono ?_
          rintro e w2 ⟨hb2, hcase⟩
          obtain ⟨co, cc, rfl, HP2⟩ : ∃ co cc, e = .returned (.tuple #[.slice co L cc, .int .i64 0]) ∧ Box (PgO wr.heap.size w2 co cc A) := by
            rcases hcase with ⟨h, -⟩ | ⟨s', h, co, cc, h2, h3⟩
            · rw [HSn.out] at h; cases h
            · rw [HSn.out] at h
              injection h with h
              subst h
              rw [HAA.out] at h2 h3
              rw [HLL.out] at h2
              exact ⟨co, cc, h2, boxed h3⟩
          have HB2 := boxed (below_step HB1.out (Nat.le_refl _) hb2)
          clear hb2 hcase HPt
          go_wp2_with fail
          refine (HLw.out _ HB2.out).mono ?_
          rintro e w3 ⟨hb3, hcase⟩
          obtain ⟨c2, d2, rfl, HP3⟩ : ∃ co cc, e = .returned (.tuple #[.slice co L cc, .bool true]) ∧ Box (PsAt (fun _ => True) w3 co A) := by
            rcases hcase with ⟨h, -⟩ | ⟨Q', h, co, cc, h2, h3, -⟩
            · rw [HR.out] at h; cases h
            · rw [HR.out] at h
              injection h with h
              subst h
              rw [HLL.out] at h2
              exact ⟨co, cc, h2, boxed h3⟩
          have HB3 := boxed (below_step HB2.out (Nat.le_refl _) hb3)
          have HK3 := boxed (HP2.out.at.below hb3)
          clear hb3 hcase HLw
          go_wp2_with fail
          refine (HPg.out _ _ _ co c2 cc d2 HK3.out HP3.out).mono ?_
          rintro e w4 ⟨rfl, hb4⟩
          have HB4 := boxed (below_step HB3.out (Nat.le_refl _) hb4)
          clear hb4
          go_wp2_with fail
          go_ret
          exact ⟨rfl, HB4.out⟩

set_option maxRecDepth 100000 in
theorem lifted (os : Os) (started : os.Started) (H : Type) (enc : TypeId × Value → H) :
    ReturnsInHanded {} Try.checked os 5 .any (Rows.diffTakesSpec.pre6 enc Try.prog Try.f5 Rows.diffTakesRow.domain false) (Rows.diffTakesSpec.post enc Try.prog Try.f5 false true false false) := by
  refine returnsInHanded_of_change_sized (C := Try.checked) own started (by kernel_rfl) Try.func5
    (ChangeSpec.witness6 (enc := enc) (C := Try.checked) false ⟨#[], #[.slice none 0 0, .slice none 0 0], []⟩ 8 (by kernel_rfl) (by kernel_rfl) (by kernel_rfl) (by kernel_rfl)) ?_
  intro W base args ds gs before hval0 hW hcnd hsz0 _
  have hval : ∀ (j : Nat) t v, Try.f5.params[j]? = some t → args[j]? = some v → Value.okWide Try.prog W .any base t v := hval0
  have hsz : (DataW.weightsEach Try.prog (Try.f5.params.toList ++ Rows.diffTakesSpec.plain.varTypes Try.prog) (ds ++ gs)).all (· ≤ reachBytes) = true := hsz0
  have hW' := hW
  obtain ⟨p, q, hA0, hV, rfl, hfz, hnd⟩ := hW
  have hA : DataW.TrodAll enc Try.prog W 0 (fun _ => true) true Try.f5.params.toList args.toList ds p := hA0
  rw [Try.params5] at hA hval hsz
  obtain ⟨v0, vs0, d0, ds0, p0, q0, hargs, rfl, rfl, h0, r0⟩ := trodAll_cons hA
  obtain ⟨v1, vs1, d1, ds1, p1, q1, rfl, rfl, rfl, h1, r1⟩ := trodAll_cons r0
  obtain ⟨rfl, rfl, rfl⟩ := trodAll_nil r1
  obtain rfl : args = #[v0, v1] := by cases args; simp_all
  obtain ⟨rfl, rfl⟩ := trodVars_none hV
  obtain ⟨ao0, n0, cap0, rfl⟩ := okWide_slice Try.underlying22 (hval 0 22 v0 rfl rfl)
  have k0 := h0
  have lt0 : ∀ x ∈ p0, x.block < W.heap.size := by obtain ⟨m, hm⟩ := k0; exact DataW.trod_lt m _ _ _ hm
  obtain ⟨hn0, P0, hP0⟩ : (n0 ≤ maxLen ∧ Sl ao0 cap0 n0) ∧ ∃ P, PgsR (fun _ => True) W ao0 n0 P := by
    obtain ⟨fuel, hf⟩ := k0
    exact open_pages hf (fun n hn => by simpa using List.all_eq_true.1 hsz _ (DataW.weights_mem_each (j := 0) rfl rfl n hn))
  obtain ⟨ao1, n1, cap1, rfl⟩ := okWide_slice Try.underlying26 (hval 1 26 v1 rfl rfl)
  have k1 := h1
  have lt1 : ∀ x ∈ p1, x.block < W.heap.size := by obtain ⟨m, hm⟩ := k1; exact DataW.trod_lt m _ _ _ hm
  obtain ⟨hn1, P1, hP1⟩ : (n1 ≤ maxLen ∧ Sl ao1 cap1 n1) ∧ ∃ P, RgsR (fun _ => True) W ao1 n1 P := by
    obtain ⟨fuel, hf⟩ := k1
    exact open_regions hf (fun n hn => by simpa using List.all_eq_true.1 hsz _ (DataW.weights_mem_each (j := 1) rfl rfl n hn))
  clear hA0 hval0
  refine (walk W ao0 n0 cap0 P0 hn0 hP0 ao1 n1 cap1 P1 hn1 hP1).mono fun e W' ⟨he, hg⟩ => ?_
  subst he
  exact ⟨_, rfl, _, _, _, [], _, [], hW', trodAll_mk1 (shut_bool Try.underlying4 _), (trodAll_cons_mk (Below.trod laidOut (by kernel_rfl) (of_decide_eq_true (by kernel_rfl)) k0 hg lt0) (trodAll_cons_mk (Below.trod laidOut (by kernel_rfl) (of_decide_eq_true (by kernel_rfl)) k1 hg lt1) trodAll_mk0)), rfl, hg.frame _, fun h => by cases h⟩

theorem proved : Rows.DiffTakesSaid :=
  OpenClaim.holds_of_wide 5 Try.f5 rfl rfl rfl rfl rfl rfl rfl ⟨rfl, rfl, rfl, rfl, rfl⟩ rfl rfl rfl rfl rfl (by kernel_rfl) Try.func5 (by kernel_rfl)
    (of_decide_eq_true (by kernel_rfl)) (by unfold Func.isWrapper; first | (rw [if_pos (by decide +kernel)]; kernel_rfl) | (rw [if_neg (by decide +kernel)]; exact ⟨rfl, rfl⟩))
    (fun os started H enc _ => lifted os started H enc)
#print axioms proved
end Go.Proofs.Ytoodhpgaikmalaa.diffTakes
