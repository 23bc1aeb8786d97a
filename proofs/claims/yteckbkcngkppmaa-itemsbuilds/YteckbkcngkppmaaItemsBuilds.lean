/-
  ItemsBuilds is proved as it stands: for every list of styles, every text and every list of runs: the program's Build tells the items that the document's Build tells, or refuses with its code, and Check answers that code. No condition (texts above 2000 bytes and more than 200 runs the law lets go).
-/
import Derived.Test.YteckbkcngkppmaaRows
import Derived.WalkKit
import Derived.ProofKit
import Derived.OpenShut
import Derived.SizedLaws
import Derived.ShutString
import Derived.ChangeOld
import Derived.Below
import Derived.Test.YteckbkcngkppmaaJt
import Derived.Test.YteckbkcngkppmaaIj
namespace Go.Proofs.Yteckbkcngkppmaa.itemsBuilds
open Go.ChangeShapes Go.WideShapes Go.ChangeAt Go.RowKit
open Go.ChangeMaps (open_string shut_string)
set_option linter.unusedVariables false
set_option linter.unusedSimpArgs false

theorem own : ownKnob Try.prog.godebug = none := by kernel_rfl
theorem laidOut : laidOutB Try.prog = true := by kernel_rfl

set_option maxRecDepth 100000 in
set_option maxHeartbeats 16000000 in
theorem walk (w : World) (ao0 : Option Addr) (n0 cap0 : Nat) (F0 : Nat → Sty) (hn0 : n0 ≤ cap0 ∧ cap0 * 80 ≤ 140737488351232) (hF0 : StysAt (fun _ => True) w ao0 n0 F0) (a1 : ByteArray) (w1 : a1.size ≤ maxLen) (ao2 : Option Addr) (n2 cap2 : Nat) (L2 Y2 : Nat → Int) (hn2 : n2 ≤ maxLen) (hF2 : RunsAt w ao2 n2 L2 Y2) :
    Calls Try.prog 3 #[.slice ao0 n0 cap0, .string a1, .slice ao2 n2 cap2] w fun e w' => e = .returned (.bool true) ∧ Below w.heap.size w w' := by
  have HA := boxed (awake_any w)
  have HT := boxed (fun w' (hb : Below w.heap.size w w') => table_any (fun _ => True) ao0 n0 cap0 F0 w' (hF0.below hb))
  have HFW := boxed (fun w' => few_any a1 w1 ao2 n2 cap2 hn2 w')
  have HF0 := boxed hF0
  have HF2 := boxed hF2
  have hn2' := hn2
  unfold maxLen at hn2'
  clear hF0 hF2
  go_enter Try.func3, Try.ntmps3
  go_wp2_with fail
  refine HA.out.mono ?_
  rintro e w3 ⟨rfl, hb3⟩
  have HB3 := boxed hb3
  clear hb3 HA
  go_wp2_with fail
  refine (HT.out _ HB3.out).mono ?_
  rintro e w4 ⟨hor, hb4⟩
  have HB4 := boxed (below_step HB3.out (Nat.le_refl _) hb4)
  clear hb4 HT
  rcases hor with ⟨hne, rfl⟩ | ⟨hz, tb, G, rfl, hT, hL⟩
  · clear hne
    go_wp2
    go_ret
    exact ⟨rfl, HB4.out⟩
  have hgF := (ckc_good F0 n0 hz).2.2
  have hgG : ∀ i, i < n0 → flt (G i) = 0 := fun i hi => by rw [flt_like (hL i hi)]; exact hgF i hi
  have HT4 := boxed hT
  have HLK := boxed hL
  have HGF := boxed hgF
  have HGG := boxed hgG
  clear hT hL hz hgF hgG
  by_cases hfew : a1.size ≤ 2000 ∧ n2 ≤ 200
  rotate_left
  · have hff : (decide (a1.size ≤ 2000) && decide (n2 ≤ 200)) = false := by
      cases e : (decide (a1.size ≤ 2000) && decide (n2 ≤ 200)) with
      | false => rfl
      | true => simp at e; exact absurd e hfew
    rw [hff] at HFW
    clear hff hfew
    go_wp2_with fail
    refine (HFW.out _).mono ?_
    rintro e w' ⟨rfl, hw'⟩; subst w'
    go_wp2
    go_ret
    exact ⟨rfl, HB4.out⟩
  obtain ⟨hs1, hs2⟩ := hfew
  have hff : (decide (a1.size ≤ 2000) && decide (n2 ≤ 200)) = true := by simp [hs1, hs2]
  rw [hff] at HFW
  clear hff
  obtain ⟨N, hN⟩ := cnt_ex a1
  have HBD := boxed (build_any HT4.out HGG.out a1 N hN (by omega) ao2 n2 cap2 L2 Y2 (HF2.out.below HB4.out) hn2)
  have HRB := boxed (fun w' (hb : Below w.heap.size w w') => refbuild_any (fun _ => True) ao0 n0 cap0 F0 w' (HF0.out.below hb) (by unfold maxLen; omega) a1 N hN (by omega) ao2 n2 cap2 L2 Y2 (HF2.out.below hb) hn2)
  have HCK := boxed (fun w' (hb : Below w4.heap.size w4 w') => check7_any (HT4.out.below hb) a1 N hN (by omega) ao2 n2 cap2 L2 Y2 ((HF2.out.below HB4.out).below hb) hn2)
  rw [fin_like HLK.out] at HBD
  have hNs : N ≤ a1.size := by have h1 := cnt_le a1 N hN; have h2 := it_le a1 N; omega
  have hfl := fin_len F0 n0 a1 (fun a => sta L2 Y2 n2 0 (a : Nat)) N
  generalize ck a1 N n0 n2 L2 Y2 = C at *
  generalize fin F0 n0 a1 (fun a => sta L2 Y2 n2 0 (a : Nat)) N = FL at *
  clear hN
  go_wp2_with fail
  refine (HFW.out _).mono ?_
  rintro e w' ⟨rfl, hw'⟩; subst w'
  go_wp2_with fail
  refine HBD.out.mono ?_
  rintro e w5 ⟨hor, hb5⟩
  have H45 := boxed hb5
  have HB5 := boxed (below_step HB4.out (Nat.le_refl _) hb5)
  clear hb5 HBD
  have tc : (C == C) = true := by simp
  rcases hor with ⟨hne, rfl⟩ | ⟨hz, ao1, cp1, rfl, ho1⟩
  · have HNE := boxed hne
    clear hne
    go_wp2_with fail
    refine (HRB.out _ HB5.out).mono ?_
    rintro e w6 ⟨hor2, hb6⟩
    have H46 := boxed (below_step H45.out (Nat.le_refl _) hb6)
    have HB6 := boxed (below_step HB5.out (Nat.le_refl _) hb6)
    clear hb6 HRB
    rcases hor2 with ⟨hne2, rfl⟩ | ⟨hz2', ao2', cp2, rfl, ho2⟩
    · clear hne2
      go_wp2_with fail
      refine (HCK.out _ H46.out).mono ?_
      rintro e w7 ⟨rfl, hb7⟩
      have HB7 := boxed (below_step HB6.out (Nat.le_refl _) hb7)
      clear hb7 HCK
      have HSM := boxed (same_any (fun _ => True) none 0 0 (fun _ => Itm.zero) none 0 0 (fun _ => Itm.zero) w7 (fun i hi => by omega) (fun i hi => by omega) (by unfold maxLen; omega) (by unfold maxLen; omega))
      rw [sm_refl] at HSM
      go_wp2_with fail
      refine HSM.out.mono ?_
      rintro e w8 ⟨rfl, hb8⟩
      have HB8 := boxed (below_step HB7.out (Nat.le_refl _) hb8)
      clear hb8 HSM
      go_wp2
      go_ret
      exact ⟨rfl, HB8.out⟩
    · exact absurd hz2' HNE.out
  · subst hz
    have hI1 := (own_its ho1 rfl).keep (S' := fun _ => True) (fun b i u hs hc => ⟨trivial, hc⟩)
    have HI1 := boxed hI1
    clear ho1 hI1
    go_wp2_with fail
    refine (HRB.out _ HB5.out).mono ?_
    rintro e w6 ⟨hor2, hb6⟩
    have H46 := boxed (below_step H45.out (Nat.le_refl _) hb6)
    have HI6 := boxed (HI1.out.below hb6)
    have HB6 := boxed (below_step HB5.out (Nat.le_refl _) hb6)
    clear hb6 HRB
    rcases hor2 with ⟨hne2, rfl⟩ | ⟨hz2', ao2', cp2, rfl, ho2⟩
    · exact absurd rfl hne2
    · have hI2 := (own_its ho2 rfl).keep (S' := fun _ => True) (fun b i u hs hc => ⟨trivial, hc⟩)
      have HI2 := boxed hI2
      clear ho2 hI2
      go_wp2_with fail
      refine (HCK.out _ H46.out).mono ?_
      rintro e w7 ⟨rfl, hb7⟩
      have HB7 := boxed (below_step HB6.out (Nat.le_refl _) hb7)
      have HSM := boxed (same_any (fun _ => True) ao1 FL.length cp1 (nth FL) ao2' FL.length cp2 (nth FL) w7 (HI6.out.below hb7) (HI2.out.below hb7) (by unfold maxLen; omega) (by unfold maxLen; omega))
      rw [sm_refl] at HSM
      clear hb7 HCK
      go_wp2_with fail
      refine HSM.out.mono ?_
      rintro e w8 ⟨rfl, hb8⟩
      have HB8 := boxed (below_step HB7.out (Nat.le_refl _) hb8)
      clear hb8 HSM
      go_wp2
      go_ret
      exact ⟨rfl, HB8.out⟩

set_option maxRecDepth 100000 in
theorem lifted (os : Os) (started : os.Started) (H : Type) (enc : TypeId × Value → H) :
    ReturnsInHanded {} Try.checked os 3 .any (Rows.itemsBuildsSpec.pre6 enc Try.prog Try.f3 Rows.itemsBuildsRow.domain false) (Rows.itemsBuildsSpec.post enc Try.prog Try.f3 false true false false) := by
  refine returnsInHanded_of_change_sized (C := Try.checked) own started (by kernel_rfl) Try.func3
    (ChangeSpec.witness6 (enc := enc) (C := Try.checked) false ⟨#[], #[.slice none 0 0, .string ByteArray.empty, .slice none 0 0], []⟩ 8 (by kernel_rfl) (by kernel_rfl) (by kernel_rfl) (by kernel_rfl)) ?_
  intro W base args ds gs before hval0 hW hcnd hsz0 _
  have hval : ∀ (j : Nat) t v, Try.f3.params[j]? = some t → args[j]? = some v → Value.okWide Try.prog W .any base t v := hval0
  have hsz : (DataW.weightsEach Try.prog (Try.f3.params.toList ++ Rows.itemsBuildsSpec.plain.varTypes Try.prog) (ds ++ gs)).all (· ≤ reachBytes) = true := hsz0
  have hW' := hW
  obtain ⟨p, q, hA0, hV, rfl, hfz, hnd⟩ := hW
  have hA : DataW.TrodAll enc Try.prog W 0 (fun _ => true) true Try.f3.params.toList args.toList ds p := hA0
  rw [Try.params3] at hA hval hsz
  obtain ⟨v0, vs0, d0, ds0, p0, q0, hargs, rfl, rfl, h0, r0⟩ := trodAll_cons hA
  obtain ⟨v1, vs1, d1, ds1, p1, q1, rfl, rfl, rfl, h1, r1⟩ := trodAll_cons r0
  obtain ⟨v2, vs2, d2, ds2, p2, q2, rfl, rfl, rfl, h2, r2⟩ := trodAll_cons r1
  obtain ⟨rfl, rfl, rfl⟩ := trodAll_nil r2
  obtain rfl : args = #[v0, v1, v2] := by cases args; simp_all
  obtain ⟨rfl, rfl⟩ := trodVars_none hV
  obtain ⟨ao0, n0, cap0, rfl⟩ := okWide_slice Try.underlying22 (hval 0 22 v0 rfl rfl)
  have k0 := h0
  have lt0 : ∀ x ∈ p0, x.block < W.heap.size := by obtain ⟨m, hm⟩ := k0; exact DataW.trod_lt m _ _ _ hm
  obtain ⟨hn0, -, F0, hF0⟩ : (n0 ≤ cap0 ∧ cap0 * 80 ≤ 140737488351232) ∧ (ao0 = none → n0 = 0 ∧ cap0 = 0) ∧ ∃ F, StysAt (fun _ => True) W ao0 n0 F := by
    obtain ⟨fuel, hf⟩ := k0
    exact open_styles hf (fun n hn => by simpa using List.all_eq_true.1 hsz _ (DataW.weights_mem_each (j := 0) rfl rfl n hn))
  obtain ⟨a1, rfl, rfl, rfl, w1⟩ := open_string Try.underlying9 (hval 1 9 v1 rfl rfl) h1
  obtain ⟨ao2, n2, cap2, rfl⟩ := okWide_slice Try.underlying23 (hval 2 23 v2 rfl rfl)
  have k2 := h2
  have lt2 : ∀ x ∈ p2, x.block < W.heap.size := by obtain ⟨m, hm⟩ := k2; exact DataW.trod_lt m _ _ _ hm
  obtain ⟨hn2, L2, Y2, hF2⟩ : n2 ≤ maxLen ∧ ∃ L Y, RunsAt W ao2 n2 L Y := by
    obtain ⟨fuel, hf⟩ := k2
    exact open_runs hf
  clear hA0 hval0
  refine (walk W ao0 n0 cap0 F0 hn0 hF0 a1 w1 ao2 n2 cap2 L2 Y2 hn2 hF2).mono fun e W' ⟨he, hg⟩ => ?_
  subst he
  exact ⟨_, rfl, _, _, _, [], _, [], hW', trodAll_mk1 (shut_bool Try.underlying4 _), (trodAll_cons_mk (Below.trod laidOut (by kernel_rfl) (of_decide_eq_true (by kernel_rfl)) k0 hg lt0) (trodAll_cons_mk (shut_string Try.underlying9 w1) (trodAll_cons_mk (Below.trod laidOut (by kernel_rfl) (of_decide_eq_true (by kernel_rfl)) k2 hg lt2) trodAll_mk0))), rfl, hg.frame _, fun h => by cases h⟩

theorem proved : Rows.ItemsBuildsSaid :=
  OpenClaim.holds_of_wide 3 Try.f3 rfl rfl rfl rfl rfl rfl rfl ⟨rfl, rfl, rfl, rfl, rfl⟩ rfl rfl rfl rfl rfl (by kernel_rfl) Try.func3 (by kernel_rfl)
    (of_decide_eq_true (by kernel_rfl)) (by unfold Func.isWrapper; first | (rw [if_pos (by decide +kernel)]; kernel_rfl) | (rw [if_neg (by decide +kernel)]; exact ⟨rfl, rfl⟩))
    (fun os started H enc _ => lifted os started H enc)
#print axioms proved
end Go.Proofs.Yteckbkcngkppmaa.itemsBuilds
