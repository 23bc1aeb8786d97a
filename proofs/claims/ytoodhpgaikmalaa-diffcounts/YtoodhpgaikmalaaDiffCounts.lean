/-
  For any two layouts DiffCounts answers true: regions of their diff put in, less what they take out, as many lines as the second has more than the first.
  No condition besides the statement's own (layouts above 20 pages, pages above 40 lines, lines above 20 runs and runs above 2^40 bytes are let go by the law itself).
-/
import Derived.Test.YtoodhpgaikmalaaRows
import Derived.WalkKit
import Derived.ProofKit
import Derived.OpenShut
import Derived.SizedLaws
import Derived.ShutString
import Derived.ChangeOld
import Derived.Below
import Derived.Test.YtoodhpgaikmalaaBt
namespace Go.Proofs.Ytoodhpgaikmalaa.diffCounts
open Go.ChangeShapes Go.WideShapes Go.ChangeAt Go.RowKit
open Go.ChangeMaps (open_string shut_string)
set_option linter.unusedVariables false
set_option linter.unusedSimpArgs false

theorem own : ownKnob Try.prog.godebug = none := by kernel_rfl
theorem laidOut : laidOutB Try.prog = true := by kernel_rfl

set_option maxRecDepth 100000 in
set_option maxHeartbeats 2000000 in
theorem walk (w : World) (ao0 : Option Addr) (n0 cap0 : Nat) (P0 : Nat → Pgv) (hn0 : n0 ≤ maxLen ∧ Sl ao0 cap0 n0) (hP0 : PgsR (fun _ => True) w ao0 n0 P0) (ao1 : Option Addr) (n1 cap1 : Nat) (P1 : Nat → Pgv) (hn1 : n1 ≤ maxLen ∧ Sl ao1 cap1 n1) (hP1 : PgsR (fun _ => True) w ao1 n1 P1) :
    Calls Try.prog 6 #[.slice ao0 n0 cap0, .slice ao1 n1 cap1] w fun e w' => e = .returned (.bool true) ∧ Below w.heap.size w w' := by
  have HAw := boxed (awake_any w)
  have HFw0 := boxed (fun W (hb : Below w.heap.size w W) => few_any _ ao0 n0 cap0 P0 W (hP0.below hb) hn0.1)
  have HIn0 := boxed (fun W (hb : Below w.heap.size w W) => fun h => pages_in (hP0.below hb) h)
  have HFw1 := boxed (fun W (hb : Below w.heap.size w W) => few_any _ ao1 n1 cap1 P1 W (hP1.below hb) hn1.1)
  have HIn1 := boxed (fun W (hb : Below w.heap.size w W) => fun h => pages_in (hP1.below hb) h)
  have hsl0 := hn0.2
  have hsl1 := hn1.2
  clear hn0 hP0 hn1 hP1
  go_enter Try.func6, Try.ntmps6
  go_wp2_with fail
  refine HAw.out.mono ?_
  rintro e w1 ⟨rfl, hb1⟩
  have HB1 := boxed hb1
  clear hb1 HAw
  go_wp2_with fail
  refine (HFw0.out _ HB1.out).mono ?_
  rintro e w9 ⟨b0, rfl, hq0, rfl⟩
  have HQ0 := boxed hq0
  clear hq0 HFw0
  cases b0 with
  | false =>
    have hun : undef = Value.tuple #[] := rfl
    go_wp2_with fail
    go_ret
    exact ⟨rfl, HB1.out⟩
  | true =>
    go_wp2_with fail
    refine (HFw1.out _ HB1.out).mono ?_
    rintro e w9 ⟨b1, rfl, hq1, rfl⟩
    have HQ1 := boxed hq1
    clear hq1 HFw1
    cases b1 with
    | false =>
      have hun : undef = Value.tuple #[] := rfl
      go_wp2_with fail
      go_ret
      exact ⟨rfl, HB1.out⟩
    | true =>
      obtain ⟨ps0, HPs0, hlp0, hfp0⟩ : ∃ ps : List (List Key), Box (∀ W, Below w.heap.size w W → PsAt (fun _ => True) W ao0 ps) ∧ ps.length = n0 ∧ Few ps := ⟨pgs n0 P0, boxed (fun W hb => (HIn0.out W hb (HQ0.out.1 (by first | rfl | trivial))).1), pgs_len _ _, (HIn0.out w (Below.refl _ _) (HQ0.out.1 (by first | rfl | trivial))).2⟩
      obtain ⟨ps1, HPs1, hlp1, hfp1⟩ : ∃ ps : List (List Key), Box (∀ W, Below w.heap.size w W → PsAt (fun _ => True) W ao1 ps) ∧ ps.length = n1 ∧ Few ps := ⟨pgs n1 P1, boxed (fun W hb => (HIn1.out W hb (HQ1.out.1 (by first | rfl | trivial))).1), pgs_len _ _, (HIn1.out w (Below.refl _ _) (HQ1.out.1 (by first | rfl | trivial))).2⟩
      clear HIn0 HQ0 HIn1 HQ1
      have HDf := boxed (fun W hb => diff_any _ _ ao0 ao1 ps0 ps1 cap0 cap1 W (HPs0.out W hb) (HPs1.out W hb) (by have := hfp0.1; omega) (by have := hfp1.1; omega) (fun i ks e => by have := hfp0.2 i ks e; omega) (fun i ks e => by have := hfp1.2 i ks e; omega))
      have hsm := dif_small ps0 ps1 40 hfp0.2 hfp1.2
      have hlen : (dif ps0 ps1).length ≤ 20 := by have := dU_len ps0 ps1 (max ps0.length ps1.length); have := hfp0.1; have := hfp1.1; unfold dif; omega
      have HCt := boxed (fun W ao cap h => count_any (fun b => w9.heap.size ≤ b) ao (dif ps0 ps1) cap W h (by omega) (fun r hr => by have := hsm r hr; omega))
      have hcn := dif_counts ps0 ps1
      have hbd := outt_bound (dif ps0 ps1) 40 (dif ps0 ps1).length hsm
      rw [List.take_of_length_le (Nat.le_refl _)] at hbd
      have HL0 := boxed (fun k => sumL_le ps0 40 k hfp0.2)
      have HL1 := boxed (fun k => sumL_le ps1 40 k hfp1.2)
      have HS0 := boxed (fun k x e => sumL_step ps0 k x e)
      have HS1 := boxed (fun k x e => sumL_step ps1 k x e)
      have HG0 := boxed (fun i (hi : i < ps0.length) => (⟨_, List.getElem?_eq_getElem hi⟩ : ∃ r, ps0[i]? = some r))
      have HG1 := boxed (fun i (hi : i < ps1.length) => (⟨_, List.getElem?_eq_getElem hi⟩ : ∃ r, ps1[i]? = some r))
      have HT0 : Box (ps0.take n0 = ps0) := boxed (List.take_of_length_le (by omega))
      have HT1 : Box (ps1.take n1 = ps1) := boxed (List.take_of_length_le (by omega))
      have hz0 := sumL_le ps0 40 n0 hfp0.2
      have hz1 := sumL_le ps1 40 n1 hfp1.2
      rw [HT0.out] at hz0
      rw [HT1.out] at hz1
      have hn0 : n0 ≤ 20 := by have := hfp0.1; omega
      have hn1 : n1 ≤ 20 := by have := hfp1.1; omega
      have HF0 := boxed hfp0.2
      have HF1 := boxed hfp1.2
      rw [hlp0] at HDf HG0
      rw [hlp1] at HDf HG1
      obtain ⟨D, hD⟩ : ∃ D, dif ps0 ps1 = D := ⟨_, rfl⟩
      rw [hD] at HDf HCt hcn hbd hlen
      obtain ⟨I, hI⟩ : ∃ I, inn D = I := ⟨_, rfl⟩
      obtain ⟨O, hO⟩ : ∃ O, outt D = O := ⟨_, rfl⟩
      rw [hI, hO] at hcn hbd HCt
      obtain ⟨A, hA⟩ : ∃ A, sumL ps0 = A := ⟨_, rfl⟩
      obtain ⟨B, hB⟩ : ∃ B, sumL ps1 = B := ⟨_, rfl⟩
      have HA := boxed hA
      have HB := boxed hB
      rw [hA] at hcn hz0
      rw [hB] at hcn hz1
      have hbd1 := hbd.1
      have hbd2 : O ≤ 1000 := by have h1 : (D.length : Int) * (40 : Nat) ≤ 20 * 40 := by omega
                                 omega
      have hbd3 : I ≤ 1000 := by omega
      have HCN := boxed hcn
      have hwio : wrap64 ((I : Int) - O) = (I : Int) - O := by unfold wrap64; omega
      have tio : ((I : Int) - O == (B : Int) - (A : Int)) = true := by rw [beq_iff_eq]; omega
      have tou : decide ((0 : Int) ≤ O) = true := decide_eq_true hbd1
      have HFIN := boxed (And.intro hwio (And.intro tio tou))
      clear hD hI hO hA hB hsm hcn hbd hfp0 hfp1 hlp0 hlp1 hwio tio tou
      go_wp2_with fail
      refine (HDf.out _ HB1.out).mono ?_
      rintro e w2 ⟨v, rfl, hrg, hb2⟩
      obtain ⟨ao, cap, rfl, -⟩ := hrg.shape
      have HCt2 := boxed (HCt.out w2 ao cap hrg.at)
      have HB2 := boxed (below_step HB1.out (Nat.le_refl _) hb2)
      obtain ⟨dl, hdl⟩ : ∃ dl, D.length = dl := ⟨_, rfl⟩
      rw [hdl] at HCt2
      clear hrg hb2 HCt HDf
      go_wp2_with fail
      refine HCt2.out.mono ?_
      rintro e w3 ⟨rfl, hb3⟩
      have HB3 := boxed (below_step HB2.out (Nat.le_refl _) hb3)
      clear hb3 HCt2 hdl hlen
      go_wp2_with fail
      go_loopw [7, 8] (fun nv iv wr => ∃ k : Nat, k ≤ n1 ∧ iv = .int .i64 (k : Nat) ∧ nv = .int .i64 (sumL (ps1.take k) : Nat) ∧ Box (Below w.heap.size w wr)) (fun _ iv _ => n1 - (intOf iv).toNat)
      case atStart => exact ⟨0, Nat.zero_le _, rfl, by simp [sumL], HB3⟩
      case round =>
        obtain ⟨k, hk, rfl, rfl, HBw⟩ := hrel
        by_cases hlt : k < n1
        · obtain ⟨x, ex⟩ := HG1.out k hlt
          obtain ⟨b, off, la, lc, rfl, -, c0, -, -⟩ := (HPs1.out _ HBw.out) k x ex
          have t0 : decide ((k : Int) < (n1 : Int)) = true := decide_eq_true (by omega)
          have hlt2 : (k : Int) < (n1 : Int) := by omega
          have h8 := HL1.out k
          have h9 := HF1.out k x ex
          have HSk := boxed (HS1.out k x ex)
          clear ex
          generalize x.length = L at *
          generalize sumL (ps1.take k) = X at *
          have hw1 : wrap64 ((X : Int) + (L : Int)) = (X : Int) + (L : Int) := by unfold wrap64; omega
          go_wp2_with fail
          go_roundw
          case rel => exact ⟨k + 1, by omega, by go_num, by rw [HSk.out] <;> (first | rfl | go_num), HBw⟩
          case measure => simp [intOf]; omega
        · have hke : k = n1 := by omega
          have hst : sumL (ps1.take k) = B := by rw [hke, HT1.out, HB.out]
          have t0 : decide ((k : Int) < (n1 : Int)) = false := decide_eq_false (by omega)
          rw [hst]
          clear hst hke
          go_wp2_with fail
          clear t0
          go_loopw [7, 9] (fun nv iv wr => ∃ k : Nat, k ≤ n0 ∧ iv = .int .i64 (k : Nat) ∧ nv = .int .i64 ((B : Int) - (sumL (ps0.take k) : Nat)) ∧ Box (Below w.heap.size w wr)) (fun _ iv _ => n0 - (intOf iv).toNat)
          case atStart => exact ⟨0, Nat.zero_le _, rfl, by simp [sumL], HBw⟩
          case round =>
            obtain ⟨k, hk, rfl, rfl, HBw⟩ := hrel
            by_cases hlt : k < n0
            · obtain ⟨x, ex⟩ := HG0.out k hlt
              obtain ⟨b, off, la, lc, rfl, -, c0, -, -⟩ := (HPs0.out _ HBw.out) k x ex
              have t0 : decide ((k : Int) < (n0 : Int)) = true := decide_eq_true (by omega)
              have hlt2 : (k : Int) < (n0 : Int) := by omega
              have h8 := HL0.out k
              have h9 := HF0.out k x ex
              have HSk := boxed (HS0.out k x ex)
              clear ex
              generalize x.length = L at *
              generalize sumL (ps0.take k) = X at *
              have hw1 : wrap64 ((B : Int) - (X : Int) - (L : Int)) = (B : Int) - (X : Int) - (L : Int) := by unfold wrap64; omega
              go_wp2_with fail
              go_roundw
              case rel => exact ⟨k + 1, by omega, by go_num, by rw [HSk.out, show (B : Int) - ((X + L : Nat) : Int) = (B : Int) - (X : Int) - (L : Int) by omega], HBw⟩
              case measure => simp [intOf]; omega
            · have hke : k = n0 := by omega
              have hst : sumL (ps0.take k) = A := by rw [hke, HT0.out, HA.out]
              have t0 : decide ((k : Int) < (n0 : Int)) = false := decide_eq_false (by omega)
              rw [hst]
              obtain ⟨hwio, tio, tou⟩ := HFIN.out
              clear hst hke
              go_wp2_with fail
              go_ret
              exact ⟨rfl, HBw.out⟩

set_option maxRecDepth 100000 in
theorem lifted (os : Os) (started : os.Started) (H : Type) (enc : TypeId × Value → H) :
    ReturnsInHanded {} Try.checked os 6 .any (Rows.diffCountsSpec.pre6 enc Try.prog Try.f6 Rows.diffCountsRow.domain false) (Rows.diffCountsSpec.post enc Try.prog Try.f6 false true false false) := by
  refine returnsInHanded_of_change_sized (C := Try.checked) own started (by kernel_rfl) Try.func6
    (ChangeSpec.witness6 (enc := enc) (C := Try.checked) false ⟨#[], #[.slice none 0 0, .slice none 0 0], []⟩ 8 (by kernel_rfl) (by kernel_rfl) (by kernel_rfl) (by kernel_rfl)) ?_
  intro W base args ds gs before hval0 hW hcnd hsz0 _
  have hval : ∀ (j : Nat) t v, Try.f6.params[j]? = some t → args[j]? = some v → Value.okWide Try.prog W .any base t v := hval0
  have hsz : (DataW.weightsEach Try.prog (Try.f6.params.toList ++ Rows.diffCountsSpec.plain.varTypes Try.prog) (ds ++ gs)).all (· ≤ reachBytes) = true := hsz0
  have hW' := hW
  obtain ⟨p, q, hA0, hV, rfl, hfz, hnd⟩ := hW
  have hA : DataW.TrodAll enc Try.prog W 0 (fun _ => true) true Try.f6.params.toList args.toList ds p := hA0
  rw [Try.params6] at hA hval hsz
  obtain ⟨v0, vs0, d0, ds0, p0, q0, hargs, rfl, rfl, h0, r0⟩ := trodAll_cons hA
  obtain ⟨v1, vs1, d1, ds1, p1, q1, rfl, rfl, rfl, h1, r1⟩ := trodAll_cons r0
  obtain ⟨rfl, rfl, rfl⟩ := trodAll_nil r1
  obtain rfl : args = #[v0, v1] := by cases args; simp_all
  obtain ⟨rfl, rfl⟩ := trodVars_none hV
  obtain ⟨ao0, n0, cap0, rfl⟩ := okWide_slice Try.underlying22 (hval 0 22 v0 rfl rfl)
  have k0 := h0
  have lt0 : ∀ x ∈ p0, x.block < W.heap.size := by obtain ⟨m, hm⟩ := k0; exact DataW.trod_lt m _ _ _ hm
  obtain ⟨hn0, P0, hP0⟩ : (n0 ≤ maxLen ∧ Sl ao0 cap0 n0) ∧ ∃ P, PgsR (fun _ => True) W ao0 n0 P := by
    obtain ⟨fuel, hf⟩ := k0
    exact open_pages hf (fun n hn => by simpa using List.all_eq_true.1 hsz _ (DataW.weights_mem_each (j := 0) rfl rfl n hn))
  obtain ⟨ao1, n1, cap1, rfl⟩ := okWide_slice Try.underlying22 (hval 1 22 v1 rfl rfl)
  have k1 := h1
  have lt1 : ∀ x ∈ p1, x.block < W.heap.size := by obtain ⟨m, hm⟩ := k1; exact DataW.trod_lt m _ _ _ hm
  obtain ⟨hn1, P1, hP1⟩ : (n1 ≤ maxLen ∧ Sl ao1 cap1 n1) ∧ ∃ P, PgsR (fun _ => True) W ao1 n1 P := by
    obtain ⟨fuel, hf⟩ := k1
    exact open_pages hf (fun n hn => by simpa using List.all_eq_true.1 hsz _ (DataW.weights_mem_each (j := 1) rfl rfl n hn))
  clear hA0 hval0
  refine (walk W ao0 n0 cap0 P0 hn0 hP0 ao1 n1 cap1 P1 hn1 hP1).mono fun e W' ⟨he, hg⟩ => ?_
  subst he
  exact ⟨_, rfl, _, _, _, [], _, [], hW', trodAll_mk1 (shut_bool Try.underlying4 _), (trodAll_cons_mk (Below.trod laidOut (by kernel_rfl) (of_decide_eq_true (by kernel_rfl)) k0 hg lt0) (trodAll_cons_mk (Below.trod laidOut (by kernel_rfl) (of_decide_eq_true (by kernel_rfl)) k1 hg lt1) trodAll_mk0)), rfl, hg.frame _, fun h => by cases h⟩

theorem proved : Rows.DiffCountsSaid :=
  OpenClaim.holds_of_wide 6 Try.f6 rfl rfl rfl rfl rfl rfl rfl ⟨rfl, rfl, rfl, rfl, rfl⟩ rfl rfl rfl rfl rfl (by kernel_rfl) Try.func6 (by kernel_rfl)
    (of_decide_eq_true (by kernel_rfl)) (by unfold Func.isWrapper; first | (rw [if_pos (by decide +kernel)]; kernel_rfl) | (rw [if_neg (by decide +kernel)]; exact ⟨rfl, rfl⟩))
    (fun os started H enc _ => lifted os started H enc)
#print axioms proved
end Go.Proofs.Ytoodhpgaikmalaa.diffCounts
