/-
  For any two layouts DiffPatches answers true: what changed, done to the first layout, gives the second one, and neither of them is touched.
  No condition besides the statement's own (layouts above 20 pages, pages above 40 lines, lines above 20 runs and runs above 2^40 bytes are let go by the law itself).
-/
import Derived.Test.YtoodhpgaikmalaaRows
import Derived.WalkKit
import Derived.ProofKit
import Derived.OpenShut
import Derived.SizedLaws
import Derived.ShutString
import Derived.ChangeOld
import Derived.Below
import Derived.Test.YtoodhpgaikmalaaAa
namespace Go.Proofs.Ytoodhpgaikmalaa.diffPatches
open Go.ChangeShapes Go.WideShapes Go.ChangeAt Go.RowKit
open Go.ChangeMaps (open_string shut_string)
set_option linter.unusedVariables false
set_option linter.unusedSimpArgs false

theorem own : ownKnob Try.prog.godebug = none := by kernel_rfl
theorem laidOut : laidOutB Try.prog = true := by kernel_rfl

set_option maxRecDepth 100000 in
set_option maxHeartbeats 2000000 in
theorem walk (w : World) (ao0 : Option Addr) (n0 cap0 : Nat) (P0 : Nat → Pgv) (hn0 : n0 ≤ maxLen ∧ Sl ao0 cap0 n0) (hP0 : PgsR (fun _ => True) w ao0 n0 P0) (ao1 : Option Addr) (n1 cap1 : Nat) (P1 : Nat → Pgv) (hn1 : n1 ≤ maxLen ∧ Sl ao1 cap1 n1) (hP1 : PgsR (fun _ => True) w ao1 n1 P1) :
    Calls Try.prog 3 #[.slice ao0 n0 cap0, .slice ao1 n1 cap1] w fun e w' => e = .returned (.bool true) ∧ Below w.heap.size w w' := by
  have HAw := boxed (awake_any w)
  have HFw0 := boxed (fun W (hb : Below w.heap.size w W) => few_any _ ao0 n0 cap0 P0 W (hP0.below hb) hn0.1)
  have HIn0 := boxed (fun W (hb : Below w.heap.size w W) => fun h => pages_in (hP0.below hb) h)
  have HFw1 := boxed (fun W (hb : Below w.heap.size w W) => few_any _ ao1 n1 cap1 P1 W (hP1.below hb) hn1.1)
  have HIn1 := boxed (fun W (hb : Below w.heap.size w W) => fun h => pages_in (hP1.below hb) h)
  have hsl0 := hn0.2
  have hsl1 := hn1.2
  clear hn0 hP0 hn1 hP1
  go_enter Try.func3, Try.ntmps3
  go_wp2_with fail
  refine HAw.out.mono ?_
  rintro e w1 ⟨rfl, hb1⟩
  have HB1 := boxed hb1
  clear hb1 HAw
  go_wp2_with fail
  refine (HFw0.out _ HB1.out).mono ?_
  rintro e w9 ⟨b0, rfl, hq0, rfl⟩
  have HQ0 := boxed hq0
  clear hq0 HFw0
  cases b0 with
  | false =>
    have hun : undef = Value.tuple #[] := rfl
    go_wp2_with fail
    go_ret
    exact ⟨rfl, HB1.out⟩
  | true =>
    go_wp2_with fail
    refine (HFw1.out _ HB1.out).mono ?_
    rintro e w9 ⟨b1, rfl, hq1, rfl⟩
    have HQ1 := boxed hq1
    clear hq1 HFw1
    cases b1 with
    | false =>
      have hun : undef = Value.tuple #[] := rfl
      go_wp2_with fail
      go_ret
      exact ⟨rfl, HB1.out⟩
    | true =>
      obtain ⟨ps0, HPs0, hlp0, hfp0⟩ : ∃ ps : List (List Key), Box (∀ W, Below w.heap.size w W → PsAt (fun _ => True) W ao0 ps) ∧ ps.length = n0 ∧ Few ps := ⟨pgs n0 P0, boxed (fun W hb => (HIn0.out W hb (HQ0.out.1 (by first | rfl | trivial))).1), pgs_len _ _, (HIn0.out w (Below.refl _ _) (HQ0.out.1 (by first | rfl | trivial))).2⟩
      obtain ⟨ps1, HPs1, hlp1, hfp1⟩ : ∃ ps : List (List Key), Box (∀ W, Below w.heap.size w W → PsAt (fun _ => True) W ao1 ps) ∧ ps.length = n1 ∧ Few ps := ⟨pgs n1 P1, boxed (fun W hb => (HIn1.out W hb (HQ1.out.1 (by first | rfl | trivial))).1), pgs_len _ _, (HIn1.out w (Below.refl _ _) (HQ1.out.1 (by first | rfl | trivial))).2⟩
      clear HIn0 HQ0 HIn1 HQ1
      have HCp := boxed (fun W hb => copy14_any _ ao0 ps0 cap0 W (HPs0.out W hb) (by have := hfp0.1; omega) (few_len hfp0 1000 (by omega)))
      have HDf := boxed (fun W hb => diff_few _ _ ao0 ao1 ps0 ps1 cap0 cap1 W (HPs0.out W hb) (HPs1.out W hb) hfp0 hfp1)
      have HPt := boxed (fun W ro rc S' hb h hs => patch_dif _ S' ao0 ro ps0 ps1 cap0 rc W (HPs0.out W hb) h hfp0 hfp1 (by rw [hlp0]; exact hsl0) hs)
      have HPg1 := boxed (fun W hb S co cc h => pages_like S _ co ao1 ps1 cc cap1 W h (HPs1.out W hb) hfp1)
      have HPg0 := boxed (fun W hb S co cc h => pages_like S _ co ao0 ps0 cc cap0 W h (HPs0.out W hb) hfp0)
      have HDs1 := boxed (fun W hb => diff_self _ _ ao1 ao1 ps1 cap1 cap1 W (HPs1.out W hb) (HPs1.out W hb) hfp1)
      have HDs0 := boxed (fun W hb S co cc h => diff_self _ S ao0 co ps0 cap0 cc W (HPs0.out W hb) h hfp0)
      have HG1 := boxed (fun i (hi : i < ps1.length) => (⟨_, List.getElem?_eq_getElem hi⟩ : ∃ r, ps1[i]? = some r))
      have hn1 : n1 ≤ 20 := by have := hfp1.1; omega
      have HF1 := boxed hfp1.2
      have HL1 := boxed hlp1
      rw [hlp0] at HCp HDf HPt HPg0 HDs0
      rw [hlp1] at HDf HPt HPg1 HDs1 HG1
      clear hfp0 hfp1 hlp0 hlp1 hsl0 hsl1
      go_wp2_with fail
      refine (HCp.out _ HB1.out).mono ?_
      rintro e w2 ⟨rfl, hpo, hb2⟩
      have HB2 := boxed (below_step HB1.out (Nat.le_refl _) hb2)
      have HK2 := boxed hpo.at
      clear hpo hb2 HCp
      go_wp2_with fail
      refine (HDf.out _ HB2.out).mono ?_
      rintro e w3 ⟨ro, rc, rfl, hrs, hra, hb3⟩
      have HB3 := boxed (below_step HB2.out (Nat.le_refl _) hb3)
      have HK3 := boxed (HK2.out.below hb3)
      have HPt3 := boxed (HPt.out w3 ro rc _ HB3.out hra hrs)
      obtain ⟨dl, hdl⟩ : ∃ dl, (dif ps0 ps1).length = dl := ⟨_, rfl⟩
      rw [hdl] at HPt3
      clear hrs hra hb3 HDf HPt HK2
      go_wp2_with fail
      refine HPt3.out.mono ?_
      rintro e w4 ⟨co, cc, rfl, hpo, hb4⟩
      have HB4 := boxed (below_step HB3.out (Nat.le_refl _) hb4)
      have HB34 := boxed hb4
      have HK4 := boxed (HK3.out.below hb4)
      have HP4 := boxed hpo
      clear hpo hb4 HPt3 hdl
      go_wp2_with fail
      refine (HPg1.out _ HB4.out _ co cc HP4.out.at).mono ?_
      rintro e w5 ⟨rfl, hb5⟩
      have HB5 := boxed (below_step HB4.out (Nat.le_refl _) hb5)
      have HB35 := boxed (below_step HB34.out (Nat.le_refl _) hb5)
      have HK5 := boxed (HK4.out.below hb5)
      have HP5 := boxed (HP4.out.keep hb5)
      clear hb5 HPg1
      go_wp2_with fail
      refine (HPg0.out _ HB5.out _ _ _ HK5.out).mono ?_
      rintro e w6 ⟨rfl, hb6⟩
      have HB36 := boxed (below_step HB35.out (Nat.le_refl _) hb6)
      have HP6 := boxed (HP5.out.keep hb6)
      clear hb6 HB35 HP5 HP4 HK5 HK4
      obtain ⟨g, HCo, HGW⟩ : ∃ g, Box (0 < n1 → co = some ⟨g, 0, none⟩) ∧ Box (0 < n1 → GotW w3.heap.size g w6 ps1) := by
        by_cases c : 0 < n1
        · obtain ⟨g, e, -⟩ := HP6.out.form (by rw [HL1.out]; exact c)
          have hp6 := HP6.out
          rw [e] at hp6
          exact ⟨g, boxed (fun _ => e), boxed (fun _ => hp6.got)⟩
        · exact ⟨0, boxed (fun h => absurd h c), boxed (fun h => absurd h c)⟩
      clear HP6
      go_wp2_with fail
      go_loopw [9, 10] (fun iv kv wr => ∃ i : Nat, i ≤ n1 ∧ iv = .int .i64 (i : Nat) ∧ Box (0 < n1 → GotW w3.heap.size g wr ps1) ∧ Box (Below w3.heap.size w3 wr)) (fun iv _ _ => n1 - (intOf iv).toNat)
      case atStart => exact ⟨0, Nat.zero_le _, rfl, HGW, HB36⟩
      case round =>
        obtain ⟨i, hi, rfl, HW, HB⟩ := hrel
        by_cases hlt : i < n1
        · have hco := HCo.out (by omega)
          subst hco
          obtain ⟨ks, ek⟩ := HG1.out i hlt
          have hkl := HF1.out i ks ek
          have HW1 := boxed (HW.out (by omega))
          obtain ⟨la, lc, c0, -⟩ := HW1.out i ks ek
          have HGet := boxed (fun wq (h : GotW w3.heap.size g wq ps1) => h i ks ek)
          have t0 : decide ((i : Int) < (n1 : Int)) = true := decide_eq_true (by omega)
          have hlt2 : (i : Int) < (n1 : Int) := by omega
          obtain ⟨kl, hkq⟩ : ∃ kl, ks.length = kl := ⟨_, rfl⟩
          rw [hkq] at hkl HGet
          clear ek hkq c0 HW
          go_wp2_with fail
          go_loopw [10] (fun kv wq => ∃ k : Nat, k ≤ kl ∧ kv = .int .i64 (k : Nat) ∧ Box (GotW w3.heap.size g wq ps1) ∧ Box (Below w3.heap.size w3 wq)) (fun kv _ => kl - (intOf kv).toNat)
          case atStart => exact ⟨0, Nat.zero_le _, rfl, HW1, HB⟩
          case round =>
            obtain ⟨k, hk, rfl, HW2, HB⟩ := hrel
            obtain ⟨la, lc, c0, hwr⟩ := HGet.out _ HW2.out
            by_cases hkl2 : k < kl
            · obtain ⟨b, off, arr, rfl, hbG, hbg, hba, hbs⟩ := hwr (by omega)
              have tk : decide ((k : Int) < (kl : Int)) = true := decide_eq_true (by omega)
              have hk2 : (k : Int) < (kl : Int) := by omega
              obtain ⟨x0, d0, f0⟩ : ∃ v, wr.cell? ⟨b, off + k * 9, none⟩ = some v ∧ wr.frozen? ⟨b, off + k * 9, none⟩ = false := ⟨_, arr_at hba (k := off + k * 9) (by omega)⟩
              have HWn := boxed (HW2.out.set b (off + k * 9) (.string ⟨#[115, 112, 111, 105, 108, 116]⟩) hbg)
              have HBn := boxed (HB.out.setCell (p := ⟨b, off + k * 9, none⟩) hbG (.string ⟨#[115, 112, 111, 105, 108, 116]⟩))
              clear hba hbs hwr HW2
              go_wp2_with fail
              go_roundw
              case rel => exact ⟨k + 1, by omega, by go_num, HWn, HBn⟩
              case measure => simp [intOf]; omega
            · have tk : decide ((k : Int) < (kl : Int)) = false := decide_eq_false (by omega)
              clear hwr
              go_wp2_with fail
              go_roundw
              case rel => exact ⟨i + 1, by omega, by go_num, boxed (fun _ => HW2.out), HB⟩
              case measure => simp [intOf]; omega
        · have t0 : decide ((i : Int) < (n1 : Int)) = false := decide_eq_false (by omega)
          have HK7 := boxed (HK3.out.below HB.out)
          have HB7 := boxed (below_step HB3.out (Nat.le_refl _) HB.out)
          clear HW
          go_wp2_with fail
          refine (HPg0.out _ HB7.out _ _ _ HK7.out).mono ?_
          rintro e w8 ⟨rfl, hb8⟩
          have HB8 := boxed (below_step HB7.out (Nat.le_refl _) hb8)
          have HK8 := boxed (HK7.out.below hb8)
          clear hb8 t0
          go_wp2_with fail
          refine (HDs1.out _ HB8.out).mono ?_
          rintro e w10 ⟨r1, c1, rfl, hb10⟩
          have HB10 := boxed (below_step HB8.out (Nat.le_refl _) hb10)
          have HK10 := boxed (HK8.out.below hb10)
          clear hb10
          go_wp2_with fail
          refine (HDs0.out _ HB10.out _ _ _ HK10.out).mono ?_
          rintro e w11 ⟨r2, c2, rfl, hb11⟩
          have HB11 := boxed (below_step HB10.out (Nat.le_refl _) hb11)
          clear hb11
          go_wp2_with fail
          go_ret
          exact ⟨rfl, HB11.out⟩

set_option maxRecDepth 100000 in
theorem lifted (os : Os) (started : os.Started) (H : Type) (enc : TypeId × Value → H) :
    ReturnsInHanded {} Try.checked os 3 .any (Rows.diffPatchesSpec.pre6 enc Try.prog Try.f3 Rows.diffPatchesRow.domain false) (Rows.diffPatchesSpec.post enc Try.prog Try.f3 false true false false) := by
  refine returnsInHanded_of_change_sized (C := Try.checked) own started (by kernel_rfl) Try.func3
    (ChangeSpec.witness6 (enc := enc) (C := Try.checked) false ⟨#[], #[.slice none 0 0, .slice none 0 0], []⟩ 8 (by kernel_rfl) (by kernel_rfl) (by kernel_rfl) (by kernel_rfl)) ?_
  intro W base args ds gs before hval0 hW hcnd hsz0 _
  have hval : ∀ (j : Nat) t v, Try.f3.params[j]? = some t → args[j]? = some v → Value.okWide Try.prog W .any base t v := hval0
  have hsz : (DataW.weightsEach Try.prog (Try.f3.params.toList ++ Rows.diffPatchesSpec.plain.varTypes Try.prog) (ds ++ gs)).all (· ≤ reachBytes) = true := hsz0
  have hW' := hW
  obtain ⟨p, q, hA0, hV, rfl, hfz, hnd⟩ := hW
  have hA : DataW.TrodAll enc Try.prog W 0 (fun _ => true) true Try.f3.params.toList args.toList ds p := hA0
  rw [Try.params3] at hA hval hsz
  obtain ⟨v0, vs0, d0, ds0, p0, q0, hargs, rfl, rfl, h0, r0⟩ := trodAll_cons hA
  obtain ⟨v1, vs1, d1, ds1, p1, q1, rfl, rfl, rfl, h1, r1⟩ := trodAll_cons r0
  obtain ⟨rfl, rfl, rfl⟩ := trodAll_nil r1
  obtain rfl : args = #[v0, v1] := by cases args; simp_all
  obtain ⟨rfl, rfl⟩ := trodVars_none hV
  obtain ⟨ao0, n0, cap0, rfl⟩ := okWide_slice Try.underlying22 (hval 0 22 v0 rfl rfl)
  have k0 := h0
  have lt0 : ∀ x ∈ p0, x.block < W.heap.size := by obtain ⟨m, hm⟩ := k0; exact DataW.trod_lt m _ _ _ hm
  obtain ⟨hn0, P0, hP0⟩ : (n0 ≤ maxLen ∧ Sl ao0 cap0 n0) ∧ ∃ P, PgsR (fun _ => True) W ao0 n0 P := by
    obtain ⟨fuel, hf⟩ := k0
    exact open_pages hf (fun n hn => by simpa using List.all_eq_true.1 hsz _ (DataW.weights_mem_each (j := 0) rfl rfl n hn))
  obtain ⟨ao1, n1, cap1, rfl⟩ := okWide_slice Try.underlying22 (hval 1 22 v1 rfl rfl)
  have k1 := h1
  have lt1 : ∀ x ∈ p1, x.block < W.heap.size := by obtain ⟨m, hm⟩ := k1; exact DataW.trod_lt m _ _ _ hm
  obtain ⟨hn1, P1, hP1⟩ : (n1 ≤ maxLen ∧ Sl ao1 cap1 n1) ∧ ∃ P, PgsR (fun _ => True) W ao1 n1 P := by
    obtain ⟨fuel, hf⟩ := k1
    exact open_pages hf (fun n hn => by simpa using List.all_eq_true.1 hsz _ (DataW.weights_mem_each (j := 1) rfl rfl n hn))
  clear hA0 hval0
  refine (walk W ao0 n0 cap0 P0 hn0 hP0 ao1 n1 cap1 P1 hn1 hP1).mono fun e W' ⟨he, hg⟩ => ?_
  subst he
  exact ⟨_, rfl, _, _, _, [], _, [], hW', trodAll_mk1 (shut_bool Try.underlying4 _), (trodAll_cons_mk (Below.trod laidOut (by kernel_rfl) (of_decide_eq_true (by kernel_rfl)) k0 hg lt0) (trodAll_cons_mk (Below.trod laidOut (by kernel_rfl) (of_decide_eq_true (by kernel_rfl)) k1 hg lt1) trodAll_mk0)), rfl, hg.frame _, fun h => by cases h⟩

theorem proved : Rows.DiffPatchesSaid :=
  OpenClaim.holds_of_wide 3 Try.f3 rfl rfl rfl rfl rfl rfl rfl ⟨rfl, rfl, rfl, rfl, rfl⟩ rfl rfl rfl rfl rfl (by kernel_rfl) Try.func3 (by kernel_rfl)
    (of_decide_eq_true (by kernel_rfl)) (by unfold Func.isWrapper; first | (rw [if_pos (by decide +kernel)]; kernel_rfl) | (rw [if_neg (by decide +kernel)]; exact ⟨rfl, rfl⟩))
    (fun os started H enc _ => lifted os started H enc)
#print axioms proved
end Go.Proofs.Ytoodhpgaikmalaa.diffPatches
