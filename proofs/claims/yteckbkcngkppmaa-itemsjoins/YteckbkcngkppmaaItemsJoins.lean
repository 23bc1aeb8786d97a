/-
  ItemsJoins is proved as it stands: for every list of styles, every text and every style: each rune in a run of its own with an empty run ahead of it gives the items, or the refusal, that one run over the whole text gives. No condition (texts above 2000 bytes the law lets go).
-/
import Derived.Test.YteckbkcngkppmaaRows
import Derived.WalkKit
import Derived.ProofKit
import Derived.OpenShut
import Derived.SizedLaws
import Derived.ShutString
import Derived.ChangeOld
import Derived.Below
import Derived.Test.YteckbkcngkppmaaIj
namespace Go.Proofs.Yteckbkcngkppmaa.itemsJoins
open Go.ChangeShapes Go.WideShapes Go.ChangeAt Go.RowKit
open Go.ChangeMaps (open_string shut_string)
set_option linter.unusedVariables false
set_option linter.unusedSimpArgs false

theorem own : ownKnob Try.prog.godebug = none := by kernel_rfl
theorem laidOut : laidOutB Try.prog = true := by kernel_rfl

set_option maxRecDepth 100000 in
set_option maxHeartbeats 16000000 in
theorem walk (w : World) (ao0 : Option Addr) (n0 cap0 : Nat) (F0 : Nat → Sty) (hn0 : n0 ≤ cap0 ∧ cap0 * 80 ≤ 140737488351232) (hF0 : StysAt (fun _ => True) w ao0 n0 F0) (a1 : ByteArray) (w1 : a1.size ≤ maxLen) (a2 : Int) (w2 : (Lit.int .i64 a2).wf = true) :
    Calls Try.prog 7 #[.slice ao0 n0 cap0, .string a1, .int .i64 a2] w fun e w' => e = .returned (.bool true) ∧ Below w.heap.size w w' := by
  have hy64 : I64 a2 := wf_i64 w2
  have HA := boxed (awake_any w)
  have HT := boxed (fun w' (hb : Below w.heap.size w w') => table_any (fun _ => True) ao0 n0 cap0 F0 w' (hF0.below hb))
  have HFW := boxed (fun w' => few_any a1 w1 none 0 0 (by unfold maxLen; omega) w')
  have HF0 := boxed hF0
  clear hF0
  go_enter Try.func7, Try.ntmps7
  go_wp2_with fail
  refine HA.out.mono ?_
  rintro e w3 ⟨rfl, hb3⟩
  have HB3 := boxed hb3
  clear hb3 HA
  go_wp2_with fail
  refine (HT.out _ HB3.out).mono ?_
  rintro e w4 ⟨hor, hb4⟩
  have HB4 := boxed (below_step HB3.out (Nat.le_refl _) hb4)
  clear hb4 HT
  rcases hor with ⟨hne, rfl⟩ | ⟨hz, tb, G, rfl, hT, hL⟩
  · clear hne
    go_wp2
    go_ret
    exact ⟨rfl, HB4.out⟩
  have hgG : ∀ i, i < n0 → flt (G i) = 0 := fun i hi => by rw [flt_like (hL i hi)]; exact (ckc_good F0 n0 hz).2.2 i hi
  have HT4 := boxed hT
  have HGG := boxed hgG
  clear hT hL hz hgG
  by_cases hs1 : a1.size ≤ 2000
  rotate_left
  · have hff : (decide (a1.size ≤ 2000) && decide (0 ≤ 200)) = false := by simp; omega
    rw [hff] at HFW
    clear hff hs1
    go_wp2_with fail
    refine (HFW.out _).mono ?_
    rintro e w' ⟨rfl, hw'⟩; subst w'
    go_wp2
    go_ret
    exact ⟨rfl, HB4.out⟩
  have hff : (decide (a1.size ≤ 2000) && decide (0 ≤ 200)) = true := by simp [hs1]
  rw [hff] at HFW
  clear hff
  obtain ⟨N, hN⟩ := cnt_ex a1
  have HRU := boxed (fun w' => runes_any a1 w' (by omega) N hN)
  have hNs : N ≤ a1.size := by have h1 := cnt_le a1 N hN; have h2 := it_le a1 N; omega
  have HN := boxed hN
  have hbc := Rd.badAt_cases a1 N
  have HRO := boxed (right_of a1 N hN)
  clear hN
  generalize badAt a1 N = BA at *
  go_wp2_with fail
  refine (HFW.out _).mono ?_
  rintro e w' ⟨rfl, hw'⟩; subst w'
  go_wp2_with fail
  refine (HRU.out _).mono ?_
  rintro e w5 ⟨p1, c1, p2, c2, rfl, -, hd2, hb5⟩
  have HD2 := boxed hd2
  have HB5 := boxed (below_step HB4.out (Nat.le_refl _) hb5)
  have H45 := boxed hb5
  clear hd2 hb5 HRU HFW
  rcases hbc with hbc | hbc
  rotate_left
  · have tb' : decide (0 ≤ BA) = true := decide_eq_true hbc
    clear hbc
    go_wp2
    go_ret
    exact ⟨rfl, HB5.out⟩
  subst hbc
  have HR := boxed (HRO.out (by omega))
  have HT5 := boxed (HT4.out.below H45.out)
  clear HRO HT4
  obtain ⟨i0, hi, hz0, hz1, hz2⟩ := info_parts info_run
  go_wp2
  go_loopw [11, 12] (fun cv iv wr => ∃ k : Nat, k ≤ N ∧ iv = .int .i64 (k : Int) ∧ Box (wr.ownsRow w5.heap.size 49 2 cv (2 * k) (rcs a1 a2 k)) ∧ Box (Below w5.heap.size w5 wr)) (fun _ iv _ => N - (intOf iv).toNat)
  case atStart => exact ⟨0, Nat.zero_le _, rfl, boxed (World.ownsRow_nil _ _ _ _), boxed (Below.refl _ _)⟩
  case round =>
    obtain ⟨k, hk, rfl, HO, HB⟩ := hrel
    have hzr := HB.out.size
    by_cases hlt : k < N
    · obtain ⟨⟨-, -⟩, hx | ⟨b2, off2, e2, -, hcell2⟩⟩ := HD2.out.below HB.out
      · exfalso; have := its_len a1 N; rw [hx] at this; simp at this; omega
      subst e2
      have cf := hcell2 k (by rw [its_len]; exact hlt)
      rw [its_get a1 N k hlt] at cf
      have HCT : Box (k + 1 < N → wr.cell? ⟨b2, off2 + (k + 1), none⟩ = some (.int .i64 (it a1 (k + 1) : Nat))) := boxed (fun h => by
        have := hcell2 (k + 1) (by rw [its_len]; exact h)
        rw [its_get a1 N (k + 1) h] at this
        exact this)
      have HTB : Box (k + 1 = N → it a1 (k + 1) = a1.size) := boxed (fun h => by rw [h]; exact HR.out.2)
      clear hcell2
      have hfl := it_le a1 k
      have hTl := it_le a1 (k + 1)
      have hft : it a1 k ≤ it a1 (k + 1) := by simp only [it]; omega
      have HRC : Box (rcs a1 a2 (k + 1) = rcs a1 a2 k ++ [.int .i64 0, .int .i64 a2, .int .i64 ((it a1 (k + 1) : Int) - (it a1 k : Int)), .int .i64 a2]) := boxed rfl
      have q5 : b2 < wr.heap.size := World.block_lt_of_cell? wr _ cf
      have q6 : b2 ≠ wr.heap.size := by omega
      generalize it a1 k = f at *
      have t3 : decide ((k : Int) < (N : Int)) = true := decide_eq_true (by omega)
      by_cases hk1 : k + 1 < N
      · have cT := HCT.out hk1
        have t5 : decide ((k : Int) + 1 < (N : Int)) = true := decide_eq_true (by omega)
        have hk1I : (k : Int) + 1 < (N : Int) := by omega
        generalize it a1 (k + 1) = T at *
        clear HCT HTB
        have hD0 : 0 ≤ (T : Int) - (f : Int) := by omega
        have hD1 : (T : Int) - (f : Int) ≤ 65536 := by omega
        have hown := HO.out
        clear HO
        go_wp2_with (at_builtin; refine wpList_append_own _ rfl _ _ 23 rfl w5.heap.size 49 i0 _ 2 16 Try.underlying23 hi hz0 hz1 hz2 rfl (by decide) _ _ _ rfl (hown.alloc _) ⟨wr.heap.size, 0, none⟩ 2 2 [.int .i64 0, .int .i64 a2, .int .i64 ((T : Int) - (f : Int)), .int .i64 a2] rfl rfl ?c1 ?c2 ?c3 ?c4 ?c5 ?_)
        case c1 =>
          intro j u hj
          rw [Addr.add_lit, Nat.zero_add, cell_first]
          simpa using hj
        case c2 =>
          intro u hu
          simp at hu
          rcases hu with rfl | rfl | rfl | rfl <;> rfl
        case c3 => unfold maxLen; omega
        case c4 => omega
        case c5 => simp; omega
        intro v6 w6 hown6 hg6 _
        have HB6 := boxed ((HB.out.alloc hzr _).grown hg6 (by simp; omega) (fun r hr => (hown.lt r hr).1))
        have HO6 : Box (w6.ownsRow w5.heap.size 49 2 v6 (2 * (k + 1)) (rcs a1 a2 (k + 1))) := boxed (by
          rw [HRC.out, show 2 * (k + 1) = 2 * k + 2 by omega]
          exact hown6)
        clear hown6 hg6 hown
        go_wp2
        go_roundw
        case rel => first | exact ⟨k + 1, by omega, by go_num, HO6, HB6⟩ | exact ⟨k + 1, by omega, by omega, HO6⟩
        case measure => simp [intOf]; omega
      · have hT := HTB.out (by omega)
        have t5 : decide ((k : Int) + 1 < (N : Int)) = false := decide_eq_false (by omega)
        rw [hT] at HRC hft
        clear HCT HTB hT
        have hD0 : 0 ≤ (a1.size : Int) - (f : Int) := by omega
        have hD1 : (a1.size : Int) - (f : Int) ≤ 65536 := by omega
        have hown := HO.out
        clear HO
        go_wp2_with (at_builtin; refine wpList_append_own _ rfl _ _ 23 rfl w5.heap.size 49 i0 _ 2 16 Try.underlying23 hi hz0 hz1 hz2 rfl (by decide) _ _ _ rfl (hown.alloc _) ⟨wr.heap.size, 0, none⟩ 2 2 [.int .i64 0, .int .i64 a2, .int .i64 ((a1.size : Int) - (f : Int)), .int .i64 a2] rfl rfl ?c1 ?c2 ?c3 ?c4 ?c5 ?_)
        case c1 =>
          intro j u hj
          rw [Addr.add_lit, Nat.zero_add, cell_first]
          simpa using hj
        case c2 =>
          intro u hu
          simp at hu
          rcases hu with rfl | rfl | rfl | rfl <;> rfl
        case c3 => unfold maxLen; omega
        case c4 => omega
        case c5 => simp; omega
        intro v6 w6 hown6 hg6 _
        have HB6 := boxed ((HB.out.alloc hzr _).grown hg6 (by simp; omega) (fun r hr => (hown.lt r hr).1))
        have HO6 : Box (w6.ownsRow w5.heap.size 49 2 v6 (2 * (k + 1)) (rcs a1 a2 (k + 1))) := boxed (by
          rw [HRC.out, show 2 * (k + 1) = 2 * k + 2 by omega]
          exact hown6)
        clear hown6 hg6 hown
        go_wp2
        go_roundw
        case rel => first | exact ⟨k + 1, by omega, by go_num, HO6, HB6⟩ | exact ⟨k + 1, by omega, by omega, HO6⟩
        case measure => simp [intOf]; omega
    · have e : k = N := by omega
      subst e
      obtain ⟨ao, cp, e, hra⟩ := own_runs HO.out hy64 (by omega)
      subst e
      have HBD1 := boxed (build_any (HT5.out.below HB.out) HGG.out a1 k HN.out (by omega) ao (2 * k) cp (cutL a1) (fun _ => a2) hra (by unfold maxLen; omega))
      have HB0 := boxed (below_step HB5.out (Nat.le_refl _) HB.out)
      rw [ck_join a1 k n0 HR.out a2, fin_join G n0 a1 k HR.out a2] at HBD1
      have t3 : decide ((k : Int) < (k : Int)) = false := decide_eq_false (by omega)
      have hsI : I64 (a1.size : Int) := by unfold I64; omega
      have HT6 := boxed (HT5.out.below HB.out)
      have HBD2 := boxed (fun w' (hb : Below wr.heap.size wr w') => build_any ((HT6.out.below hb).below ((Below.refl w'.heap.size w').alloc (Nat.le_refl _) (.cells #[.int .i64 (a1.size : Int), .int .i64 a2] 49))) HGG.out a1 k HN.out (by omega) (some ⟨w'.heap.size, 0, none⟩) 1 1 (fun _ => (a1.size : Int)) (fun _ => a2) (one_run_at w' (a1.size : Int) a2 hsI hy64) (by unfold maxLen; omega))
      have hfl := fin_len G n0 a1 (fun a => sta (fun _ => (a1.size : Int)) (fun _ => a2) 1 0 (a : Nat)) k
      generalize ck a1 k n0 1 (fun _ => (a1.size : Int)) (fun _ => a2) = C at *
      generalize fin G n0 a1 (fun a => sta (fun _ => (a1.size : Int)) (fun _ => a2) 1 0 (a : Nat)) k = FL at *
      clear HO hra
      go_wp2_with fail
      refine HBD1.out.mono ?_
      rintro e w6 ⟨hor1, hb6⟩
      have H6 := boxed hb6
      have HB6 := boxed (below_step HB0.out (Nat.le_refl _) hb6)
      clear hb6 HBD1
      have tc : (C == C) = true := by simp
      rcases hor1 with ⟨hne1, rfl⟩ | ⟨hz1', ao1, cp1, rfl, ho1⟩
      · have HNE := boxed hne1
        clear hne1
        go_wp2_with fail
        refine (HBD2.out _ H6.out).mono ?_
        rintro e w7 ⟨hor2, hb7⟩
        have HB7 := boxed (below_step (HB6.out.alloc HB6.out.size _) (Nat.le_refl _) hb7)
        clear hb7 HBD2
        rcases hor2 with ⟨hne2, rfl⟩ | ⟨hz2', ao2, cp2, rfl, ho2⟩
        · clear hne2
          have HSM := boxed (same_any (fun _ => True) none 0 0 (fun _ => Itm.zero) none 0 0 (fun _ => Itm.zero) w7 (fun i hi => by omega) (fun i hi => by omega) (by unfold maxLen; omega) (by unfold maxLen; omega))
          rw [sm_refl] at HSM
          go_wp2_with fail
          refine HSM.out.mono ?_
          rintro e w8 ⟨rfl, hb8⟩
          have HB8 := boxed (below_step HB7.out (Nat.le_refl _) hb8)
          clear hb8 HSM
          go_wp2
          go_ret
          exact ⟨rfl, HB8.out⟩
        · exact absurd hz2' HNE.out
      · subst hz1'
        have hI1 := (own_its ho1 rfl).keep (S' := fun _ => True) (fun b i u hs hc => ⟨trivial, hc⟩)
        have HI1 := boxed hI1
        clear ho1 hI1
        go_wp2_with fail
        refine (HBD2.out _ H6.out).mono ?_
        rintro e w7 ⟨hor2, hb7⟩
        have HB7 := boxed (below_step (HB6.out.alloc HB6.out.size _) (Nat.le_refl _) hb7)
        have H67 : Box (Below w6.heap.size w6 w7) := boxed (below_step ((Below.refl _ _).alloc (Nat.le_refl _) _) (Nat.le_refl _) hb7)
        clear hb7 HBD2
        rcases hor2 with ⟨hne2, rfl⟩ | ⟨hz2', ao2, cp2, rfl, ho2⟩
        · exact absurd rfl hne2
        · have hI2 := (own_its ho2 rfl).keep (S' := fun _ => True) (fun b i u hs hc => ⟨trivial, hc⟩)
          have HSM := boxed (same_any (fun _ => True) ao1 FL.length cp1 (nth FL) ao2 FL.length cp2 (nth FL) w7 (HI1.out.below H67.out) hI2 (by unfold maxLen; omega) (by unfold maxLen; omega))
          rw [sm_refl] at HSM
          clear hI2 ho2
          go_wp2_with fail
          refine HSM.out.mono ?_
          rintro e w8 ⟨rfl, hb8⟩
          have HB8 := boxed (below_step HB7.out (Nat.le_refl _) hb8)
          clear hb8 HSM
          go_wp2
          go_ret
          exact ⟨rfl, HB8.out⟩

set_option maxRecDepth 100000 in
theorem lifted (os : Os) (started : os.Started) (H : Type) (enc : TypeId × Value → H) :
    ReturnsInHanded {} Try.checked os 7 .any (Rows.itemsJoinsSpec.pre6 enc Try.prog Try.f7 Rows.itemsJoinsRow.domain false) (Rows.itemsJoinsSpec.post enc Try.prog Try.f7 false true false false) := by
  refine returnsInHanded_of_change_sized (C := Try.checked) own started (by kernel_rfl) Try.func7
    (ChangeSpec.witness6 (enc := enc) (C := Try.checked) false ⟨#[], #[.slice none 0 0, .string ByteArray.empty, .int .i64 0], []⟩ 8 (by kernel_rfl) (by kernel_rfl) (by kernel_rfl) (by kernel_rfl)) ?_
  intro W base args ds gs before hval0 hW hcnd hsz0 _
  have hval : ∀ (j : Nat) t v, Try.f7.params[j]? = some t → args[j]? = some v → Value.okWide Try.prog W .any base t v := hval0
  have hsz : (DataW.weightsEach Try.prog (Try.f7.params.toList ++ Rows.itemsJoinsSpec.plain.varTypes Try.prog) (ds ++ gs)).all (· ≤ reachBytes) = true := hsz0
  have hW' := hW
  obtain ⟨p, q, hA0, hV, rfl, hfz, hnd⟩ := hW
  have hA : DataW.TrodAll enc Try.prog W 0 (fun _ => true) true Try.f7.params.toList args.toList ds p := hA0
  rw [Try.params7] at hA hval hsz
  obtain ⟨v0, vs0, d0, ds0, p0, q0, hargs, rfl, rfl, h0, r0⟩ := trodAll_cons hA
  obtain ⟨v1, vs1, d1, ds1, p1, q1, rfl, rfl, rfl, h1, r1⟩ := trodAll_cons r0
  obtain ⟨v2, vs2, d2, ds2, p2, q2, rfl, rfl, rfl, h2, r2⟩ := trodAll_cons r1
  obtain ⟨rfl, rfl, rfl⟩ := trodAll_nil r2
  obtain rfl : args = #[v0, v1, v2] := by cases args; simp_all
  obtain ⟨rfl, rfl⟩ := trodVars_none hV
  obtain ⟨ao0, n0, cap0, rfl⟩ := okWide_slice Try.underlying22 (hval 0 22 v0 rfl rfl)
  have k0 := h0
  have lt0 : ∀ x ∈ p0, x.block < W.heap.size := by obtain ⟨m, hm⟩ := k0; exact DataW.trod_lt m _ _ _ hm
  obtain ⟨hn0, -, F0, hF0⟩ : (n0 ≤ cap0 ∧ cap0 * 80 ≤ 140737488351232) ∧ (ao0 = none → n0 = 0 ∧ cap0 = 0) ∧ ∃ F, StysAt (fun _ => True) W ao0 n0 F := by
    obtain ⟨fuel, hf⟩ := k0
    exact open_styles hf (fun n hn => by simpa using List.all_eq_true.1 hsz _ (DataW.weights_mem_each (j := 0) rfl rfl n hn))
  obtain ⟨a1, rfl, rfl, rfl, w1⟩ := open_string Try.underlying9 (hval 1 9 v1 rfl rfl) h1
  obtain ⟨a2, rfl, rfl, rfl, w2⟩ := open_int Try.underlying3 (hval 2 3 v2 rfl rfl) h2
  clear hA0 hval0
  refine (walk W ao0 n0 cap0 F0 hn0 hF0 a1 w1 a2 w2).mono fun e W' ⟨he, hg⟩ => ?_
  subst he
  exact ⟨_, rfl, _, _, _, [], _, [], hW', trodAll_mk1 (shut_bool Try.underlying4 _), (trodAll_cons_mk (Below.trod laidOut (by kernel_rfl) (of_decide_eq_true (by kernel_rfl)) k0 hg lt0) (trodAll_cons_mk (shut_string Try.underlying9 w1) (trodAll_cons_mk (shut_int Try.underlying3 w2) trodAll_mk0))), rfl, hg.frame _, fun h => by cases h⟩

theorem proved : Rows.ItemsJoinsSaid :=
  OpenClaim.holds_of_wide 7 Try.f7 rfl rfl rfl rfl rfl rfl rfl ⟨rfl, rfl, rfl, rfl, rfl⟩ rfl rfl rfl rfl rfl (by kernel_rfl) Try.func7 (by kernel_rfl)
    (of_decide_eq_true (by kernel_rfl)) (by unfold Func.isWrapper; first | (rw [if_pos (by decide +kernel)]; kernel_rfl) | (rw [if_neg (by decide +kernel)]; exact ⟨rfl, rfl⟩))
    (fun os started H enc _ => lifted os started H enc)
#print axioms proved
end Go.Proofs.Yteckbkcngkppmaa.itemsJoins
