/-
  For any items, any width and any settings the statement BreaksAlways of the program returns true: a paragraph's lines end at every place where they must, at places where they may alone, and with the last item. No condition besides the statement's own.
-/
import Derived.Test.YtkmeeblkckfepaaRows
import Derived.WalkKit
import Derived.ProofKit
import Derived.OpenShut
import Derived.SizedLaws
import Derived.ShutString
import Derived.ChangeOld
import Derived.Below
import Derived.Test.YtkmeeblkckfepaaPk18
import Derived.Test.YtkmeeblkckfepaaPk17
import Derived.Test.YtkmeeblkckfepaaPk12
namespace Go.Proofs.Ytkmeeblkckfepaa.breaksAlways
open Go.ChangeShapes Go.WideShapes Go.ChangeAt Go.RowKit
open Go.ChangeMaps (open_string shut_string)
set_option linter.unusedVariables false
set_option linter.unusedSimpArgs false

theorem own : ownKnob Try.prog.godebug = none := by kernel_rfl
theorem laidOut : laidOutB Try.prog = true := by kernel_rfl

set_option maxRecDepth 100000 in
set_option maxHeartbeats 8000000 in
theorem walk (w : World) (ao0 : Option Addr) (n0 cap0 : Nat) (I0 : Nat → Itm) (hn0 : n0 ≤ maxLen) (hI0 : ItsAt (fun _ => True) w ao0 n0 I0) (a1 : Int) (w1 : (Lit.int .i64 a1).wf = true) (s2 : Stg) (hs2 : I64 s2.t ∧ I64 s2.l ∧ I64 s2.a ∧ I64 s2.d ∧ I64 s2.z ∧ I64 s2.o ∧ I64 s2.i) :
    Calls Try.prog 3 #[.slice ao0 n0 cap0, .int .i64 a1, s2.val] w fun e w' => e = .returned (.bool true) ∧ Below w.heap.size w w' := by
  have HA := boxed (And.intro w1 hs2)
  clear w1 hs2
  have HI := boxed hI0
  have hn1 := boxed hn0
  unfold maxLen at hn0
  have KF : Box (∀ W, Below (w.alloc (.cells #[.int .i64 s2.t, .int .i64 s2.l, .int .i64 s2.a, .int .i64 s2.d, .int .i64 s2.z, .int .i64 s2.o, .int .i64 s2.i] 24)).heap.size (w.alloc (.cells #[.int .i64 s2.t, .int .i64 s2.l, .int .i64 s2.a, .int .i64 s2.d, .int .i64 s2.z, .int .i64 s2.o, .int .i64 s2.i] 24)) W → (W.cell? ⟨w.heap.size, 0, none⟩ = some (.int .i64 s2.t) ∧ W.cell? ⟨w.heap.size, 1, none⟩ = some (.int .i64 s2.l) ∧ W.cell? ⟨w.heap.size, 2, none⟩ = some (.int .i64 s2.a) ∧ W.cell? ⟨w.heap.size, 3, none⟩ = some (.int .i64 s2.d) ∧ W.cell? ⟨w.heap.size, 4, none⟩ = some (.int .i64 s2.z) ∧ W.cell? ⟨w.heap.size, 5, none⟩ = some (.int .i64 s2.o) ∧ W.cell? ⟨w.heap.size, 6, none⟩ = some (.int .i64 s2.i)) ∧ Below w.heap.size w W) := boxed (fun W hb => ⟨⟨kept_first hb 0, kept_first hb 1, kept_first hb 2, kept_first hb 3, kept_first hb 4, kept_first hb 5, kept_first hb 6⟩, kept_below (Below.refl _ w) (Nat.le_refl _) hb⟩)
  have hI1 : Box (∀ W, Below (w.alloc (.cells #[.int .i64 s2.t, .int .i64 s2.l, .int .i64 s2.a, .int .i64 s2.d, .int .i64 s2.z, .int .i64 s2.o, .int .i64 s2.i] 24)).heap.size (w.alloc (.cells #[.int .i64 s2.t, .int .i64 s2.l, .int .i64 s2.a, .int .i64 s2.d, .int .i64 s2.z, .int .i64 s2.o, .int .i64 s2.i] 24)) W → ItsAt (fun _ => True) W ao0 n0 I0) := boxed (fun W hb => HI.out.below (KF.out W hb).2)
  have hR := fun W => right9_any a1 s2 W
  clear hI0
  by_cases hp : 400 < n0 ∨ rgt I0 n0 = false ∨ (200 : Int) < nbk I0 n0
  · have hP := boxed (fun W hb => para9_none (fun _ => True) ao0 n0 cap0 I0 W (hI1.out W hb) hn1.out 200 hp)
    unfold Stg.val at *
    clear hp
    go_enter Try.func3, Try.ntmps3
    go_wp2_with fail
    refine (awake9_any _).mono ?_
    rintro e w1 ⟨rfl, hb1⟩
    have HB1 := boxed hb1
    clear hb1
    go_wp2_with fail
    refine (hP.out _ HB1.out).mono ?_
    rintro e w2 ⟨rfl, hb2⟩
    have HB2 := boxed (below_step HB1.out (Nat.le_refl _) hb2)
    clear hb2
    go_wp2_with fail
    go_ret
    exact ⟨rfl, (KF.out _ HB2.out).2⟩
  have hp1 : n0 ≤ 400 := by omega
  have hp2 : rgt I0 n0 = true := by cases h : rgt I0 n0 with | true => rfl | false => exact absurd (.inr (.inl h)) hp
  have hp3 : (nbk I0 n0 : Int) ≤ 200 := by omega
  have hP := boxed (fun W hb => para9_some (fun _ => True) ao0 n0 cap0 I0 W (hI1.out W hb) 200 hp1 hp2 hp3)
  clear hp
  by_cases hr : (okW a1 && okS s2) = false
  · rw [hr] at hR
    unfold Stg.val at *
    go_enter Try.func3, Try.ntmps3
    go_wp2_with fail
    refine (awake9_any _).mono ?_
    rintro e w1 ⟨rfl, hb1⟩
    have HB1 := boxed hb1
    clear hb1
    go_wp2_with fail
    refine (hP.out _ HB1.out).mono ?_
    rintro e w2 ⟨pb, rfl, hpa, hb2⟩
    have HB2 := boxed (below_step HB1.out (Nat.le_refl _) hb2)
    obtain ⟨⟨c0, c1, c2, c3, c4, c5, c6⟩, -⟩ := KF.out _ HB2.out
    clear hb2
    go_wp2_with fail
    refine (hR _).mono ?_
    rintro e w3 ⟨rfl, hb3⟩
    have HB3 := boxed (below_step HB2.out (Nat.le_refl _) hb3)
    clear hb3
    go_wp2_with fail
    go_ret
    exact ⟨rfl, (KF.out _ HB3.out).2⟩
  have hr1 : (okW a1 && okS s2) = true := by simpa using hr
  have hw : 1 ≤ a1 ∧ a1 ≤ 1073741824 := by simp [okW] at hr1; omega
  have hs : okS s2 = true := by simp at hr1; exact hr1.2
  obtain ⟨h0, h1, hfo, hok⟩ := (rgt_iff I0 n0).1 hp2
  have HBR := boxed (fun W pb (h : ParaAt (fun b => (w.alloc (.cells #[.int .i64 s2.t, .int .i64 s2.l, .int .i64 s2.a, .int .i64 s2.d, .int .i64 s2.z, .int .i64 s2.o, .int .i64 s2.i] 24)).heap.size ≤ b) W pb n0 I0) => break_any (s := s2) h h1 hok h0 hfo hw hs)
  rw [hr1] at hR
  clear hr hr1 hw
  unfold Stg.val at *
  go_enter Try.func3, Try.ntmps3
  go_wp2_with fail
  refine (awake9_any _).mono ?_
  rintro e w1 ⟨rfl, hb1⟩
  have HB1 := boxed hb1
  clear hb1
  go_wp2_with fail
  refine (hP.out _ HB1.out).mono ?_
  rintro e w2 ⟨pb, rfl, hpa, hb2⟩
  have HB2 := boxed (below_step HB1.out (Nat.le_refl _) hb2)
  have HP2 := boxed (hpa.keep (kp_more (S' := fun b => (w.alloc (.cells #[.int .i64 s2.t, .int .i64 s2.l, .int .i64 s2.a, .int .i64 s2.d, .int .i64 s2.z, .int .i64 s2.o, .int .i64 s2.i] 24)).heap.size ≤ b) (fun b hb => Nat.le_trans HB1.out.size hb) (Below.refl _ _)))
  obtain ⟨⟨c0, c1, c2, c3, c4, c5, c6⟩, -⟩ := KF.out _ HB2.out
  clear hb2 hpa hP HB1
  go_wp2_with fail
  refine (hR _).mono ?_
  rintro e w3 ⟨rfl, hb3⟩
  have HB3 := boxed (below_step HB2.out (Nat.le_refl _) hb3)
  have hK := HBR.out _ _ (HP2.out.below hb3)
  clear hb3 HBR HP2 HB2 c0 c1 c2 c3 c4 c5 c6 hR
  obtain ⟨⟨c0, c1, c2, c3, c4, c5, c6⟩, -⟩ := KF.out _ HB3.out
  go_wp2_with fail
  refine hK.mono ?_
  rintro e w4 ⟨v, c, l, em, rfl, hB, hne, ho, hb4⟩
  have HB4 := boxed (below_step HB3.out (Nat.le_refl _) hb4)
  have hlm : (l.map (bkn I0 n0)).length = l.length := List.length_map _
  have hl : 0 < l.length := List.length_pos_iff.2 hne
  have hl2 : l.length ≤ 400 := by have := brk_len hB; omega
  have HRW := boxed (brk_row hB)
  have HEN := boxed (brk_end hB h0 hfo)
  have hcs := brk_cost hB h1 hok hs
  clear hb4 HB3 hK c0 c1 c2 c3 c4 c5 c6 hB hne
  generalize l.map (bkn I0 n0) = L at *
  rw [← hlm] at ho hl hl2
  obtain ⟨g, gc, rfl, hg1, hg2⟩ := own_form ho hl
  have hN := own_nat ho rfl
  clear ho hlm
  generalize hM : L.length = M at *
  unfold Awf at hcs
  have d1 : decide (c < 0) = false := decide_eq_false (by omega)
  have d2 : decide (1125899906842624 < c) = false := decide_eq_false (by omega)
  have d3 : ((M : Int) == 0) = false := by rw [beq_eq_false_iff_ne]; omega
  have d4 : decide ((M : Int) - 1 < 0) = false := decide_eq_false (by omega)
  have d5 : decide ((M : Int) ≤ (M : Int) - 1) = false := decide_eq_false (by omega)
  obtain ⟨g', eg, -, hg⟩ := hN.form (by omega)
  obtain rfl : g = g' := by injection eg with eg; injection eg
  rw [hM] at hg
  have gl : ∀ o, (w4.alloc o).cell? ⟨g, M - 1, none⟩ = some (.int .i64 ((n0 : Int) - 1)) := fun o => by
    have := hold ((Below.refl _ w4).alloc (Nat.le_refl _) o) (hg (M - 1) (by omega))
    rw [this, HEN.out]
    congr 2
    omega
  have HC5 : Box (∀ W, Below (w4.alloc (.cells #[.slice (some ⟨g, 0, none⟩) M gc, .int .i64 c, .bool em] 31)).heap.size (w4.alloc (.cells #[.slice (some ⟨g, 0, none⟩) M gc, .int .i64 c, .bool em] 31)) W → (W.cell? ⟨w4.heap.size, 0, none⟩ = some (.slice (some ⟨g, 0, none⟩) M gc)) ∧ (∀ k, k < M → W.cell? ⟨g, k, none⟩ = some (.int .i64 (L.getD k 0 : Nat))) ∧ ItsAt (fun _ => True) W ao0 n0 I0 ∧ Below w.heap.size w W) := boxed (fun W hb => by
    have hb4 : Below w4.heap.size w4 W := ((Below.refl _ w4).alloc (Nat.le_refl _) _).trans (hb.mono (by simp))
    have hb5 := below_step HB4.out (Nat.le_refl _) hb4
    have hE : W.heap[w4.heap.size]? = _ := (hb.block w4.heap.size (by simp)).trans (heap_alloc_new w4 _)
    exact ⟨row_cell hE 0 _ rfl, fun k hk => hold hb4 (hg k hk), hI1.out _ hb5, (KF.out _ hb5).2⟩)
  have h64 : n0 ≤ 9223372036854775807 := by omega
  clear hg hN eg HB4 HI hI1 KF hn1 hn0
  go_wp2_with fail
  go_loopw [10, 11] (fun kv iv wr => ∃ k i : Nat, kv = .int .i64 (k : Int) ∧ iv = .int .i64 (i : Int) ∧ k ≤ M ∧ i ≤ n0 ∧ Box ((∀ j, j < k → L.getD j 0 < i) ∧ (∀ j, k ≤ j → j < M → i ≤ L.getD j 0)) ∧ Box (Below (w4.alloc (.cells #[.slice (some ⟨g, 0, none⟩) M gc, .int .i64 c, .bool em] 31)).heap.size (w4.alloc (.cells #[.slice (some ⟨g, 0, none⟩) M gc, .int .i64 c, .bool em] 31)) wr)) (fun _ iv _ => n0 - (intOf iv).toNat)
  case atStart => exact ⟨0, 0, rfl, rfl, Nat.zero_le _, Nat.zero_le _, boxed ⟨fun j hj => by omega, fun j _ _ => Nat.zero_le _⟩, boxed (Below.refl _ _)⟩
  case round =>
    obtain ⟨k, i, rfl, rfl, hk, hi, HK, HBr⟩ := hrel
    have HLG := boxed (fun W hb => reflegal_any (fun _ => True) ao0 n0 cap0 I0 W (HC5.out W hb).2.2.1 (by unfold maxLen; omega) (i : Int))
    obtain ⟨r0, r1, r2, r3⟩ := HC5.out _ HBr.out
    have R3 := boxed r3
    clear r3 gl
    by_cases hlt : i < n0
    · obtain ⟨b, off, eb, -, x0, x1, x2, x3, x4, x5, x6, x7, x8⟩ := r2 i hlt
      subst eb
      have t1 : decide ((i : Int) < (n0 : Int)) = true := decide_eq_true (by omega)
      have t1' : decide (i < n0) = true := decide_eq_true hlt
      have hfc := fun W => refforced_any (I0 i) W
      have HFO := boxed (HRW.out.2.2 i hlt)
      unfold Itm.val at hfc
      clear r2
      by_cases hkm : k < M
      · have t2 : decide ((k : Int) < (M : Int)) = true := decide_eq_true (by omega)
        have t2' : decide (k < M) = true := decide_eq_true hkm
        have r4 := r1 k hkm
        by_cases hei : L.getD k 0 = i
        · have HL := (HRW.out.1 k hkm).2
          rw [hei] at HL r4
          rw [HL] at HLG
          have HK2 : Box ((∀ j, j < k + 1 → L.getD j 0 < i + 1) ∧ (∀ j, k + 1 ≤ j → j < M → i + 1 ≤ L.getD j 0)) := boxed ⟨fun j hj => by
              by_cases h : j = k
              · rw [h, hei]; omega
              · have := HK.out.1 j (by omega); omega, fun j hj hj2 => by have := HRW.out.2.1 k j (by omega) hj2; omega⟩
          clear r1 HRW HFO HK hei HL
          generalize forc (I0 i) = f at *
          cases f
          all_goals
            go_wp2_with (first | (go_at_call 9; refine (hfc _).mono ?_; rintro e w7 ⟨rfl, hb7⟩; have HB7 := boxed (below_step HBr.out (Nat.le_refl _) hb7); clear hb7) | (go_at_call 10; refine (HLG.out _ HB7.out).mono ?_; rintro e w8 ⟨rfl, hb8⟩; have HB8 := boxed (below_step HB7.out (Nat.le_refl _) hb8); clear hb8))
            go_roundw
            case rel => exact ⟨k + 1, i + 1, by go_num, by go_num, by omega, by omega, HK2, HB8⟩
            case measure => simp [intOf]; omega
        · have t3 : (((L.getD k 0 : Nat) : Int) == (i : Int)) = false := by rw [beq_eq_false_iff_ne]; omega
          have hff : forc (I0 i) = false := by
            cases hq : forc (I0 i) with
            | false => rfl
            | true =>
              obtain ⟨j, hj, ej⟩ := HFO.out hq
              by_cases h : j < k
              · have := HK.out.1 j h; omega
              · have h2 := HK.out.2 k (Nat.le_refl _) hkm
                by_cases h3 : j = k
                · rw [h3] at ej; exact absurd ej hei
                · have := HRW.out.2.1 k j (by omega) hj; omega
          have HK2 : Box ((∀ j, j < k → L.getD j 0 < i + 1) ∧ (∀ j, k ≤ j → j < M → i + 1 ≤ L.getD j 0)) := boxed ⟨fun j hj => by have := HK.out.1 j hj; omega, fun j hj hj2 => by
              have h2 := HK.out.2 k (Nat.le_refl _) hkm
              by_cases h : j = k
              · rw [h]; omega
              · have := HRW.out.2.1 k j (by omega) hj2; omega⟩
          rw [hff] at hfc
          clear r1 HRW HFO HK hei hff HLG
          generalize L.getD k 0 = z at *
          go_wp2_with (first | (go_at_call 9; refine (hfc _).mono ?_; rintro e w7 ⟨rfl, hb7⟩; have HB7 := boxed (below_step HBr.out (Nat.le_refl _) hb7); clear hb7))
          go_roundw
          case rel => exact ⟨k, i + 1, rfl, by go_num, by omega, by omega, HK2, HB7⟩
          case measure => simp [intOf]; omega
      · have hke : k = M := by omega
        have t2 : decide ((k : Int) < (M : Int)) = false := decide_eq_false (by omega)
        have t2' : decide (k < M) = false := decide_eq_false hkm
        have hff : forc (I0 i) = false := by
          cases hq : forc (I0 i) with
          | false => rfl
          | true =>
            obtain ⟨j, hj, ej⟩ := HFO.out hq
            have := HK.out.1 j (by omega); omega
        have HK2 : Box ((∀ j, j < k → L.getD j 0 < i + 1) ∧ (∀ j, k ≤ j → j < M → i + 1 ≤ L.getD j 0)) := boxed ⟨fun j hj => by have := HK.out.1 j hj; omega, fun j hj hj2 => by omega⟩
        rw [hff] at hfc
        clear r1 HRW HFO HK hff HLG hke
        go_wp2_with (first | (go_at_call 9; refine (hfc _).mono ?_; rintro e w7 ⟨rfl, hb7⟩; have HB7 := boxed (below_step HBr.out (Nat.le_refl _) hb7); clear hb7))
        go_roundw
        case rel => exact ⟨k, i + 1, rfl, by go_num, by omega, by omega, HK2, HB7⟩
        case measure => simp [intOf]; omega
    · have e : i = n0 := by omega
      subst e
      have hke : k = M := by
        by_cases h : k < M
        · have := HK.out.2 k (Nat.le_refl _) h
          have := (HRW.out.1 k h).1
          omega
        · omega
      subst hke
      clear r1 r2 HLG HRW HK
      go_wp2_with fail
      go_ret
      exact ⟨rfl, R3.out⟩

set_option maxRecDepth 100000 in
theorem lifted (os : Os) (started : os.Started) (H : Type) (enc : TypeId × Value → H) :
    ReturnsInHanded {} Try.checked os 3 .any (Rows.breaksAlwaysSpec.pre6 enc Try.prog Try.f3 Rows.breaksAlwaysRow.domain false) (Rows.breaksAlwaysSpec.post enc Try.prog Try.f3 false true false false) := by
  refine returnsInHanded_of_change_sized (C := Try.checked) own started (by kernel_rfl) Try.func3
    (ChangeSpec.witness6 (enc := enc) (C := Try.checked) false ⟨#[], #[.slice none 0 0, .int .i64 0, .agg #[.int .i64 0, .int .i64 0, .int .i64 0, .int .i64 0, .int .i64 0, .int .i64 0, .int .i64 0]], []⟩ 8 (by kernel_rfl) (by kernel_rfl) (by kernel_rfl) (by kernel_rfl)) ?_
  intro W base args ds gs before hval0 hW hcnd hsz0 _
  have hval : ∀ (j : Nat) t v, Try.f3.params[j]? = some t → args[j]? = some v → Value.okWide Try.prog W .any base t v := hval0
  have hsz : (DataW.weightsEach Try.prog (Try.f3.params.toList ++ Rows.breaksAlwaysSpec.plain.varTypes Try.prog) (ds ++ gs)).all (· ≤ reachBytes) = true := hsz0
  have hW' := hW
  obtain ⟨p, q, hA0, hV, rfl, hfz, hnd⟩ := hW
  have hA : DataW.TrodAll enc Try.prog W 0 (fun _ => true) true Try.f3.params.toList args.toList ds p := hA0
  rw [Try.params3] at hA hval hsz
  obtain ⟨v0, vs0, d0, ds0, p0, q0, hargs, rfl, rfl, h0, r0⟩ := trodAll_cons hA
  obtain ⟨v1, vs1, d1, ds1, p1, q1, rfl, rfl, rfl, h1, r1⟩ := trodAll_cons r0
  obtain ⟨v2, vs2, d2, ds2, p2, q2, rfl, rfl, rfl, h2, r2⟩ := trodAll_cons r1
  obtain ⟨rfl, rfl, rfl⟩ := trodAll_nil r2
  obtain rfl : args = #[v0, v1, v2] := by cases args; simp_all
  obtain ⟨rfl, rfl⟩ := trodVars_none hV
  obtain ⟨ao0, n0, cap0, rfl⟩ := okWide_slice Try.underlying22 (hval 0 22 v0 rfl rfl)
  have k0 := h0
  have lt0 : ∀ x ∈ p0, x.block < W.heap.size := by obtain ⟨m, hm⟩ := k0; exact DataW.trod_lt m _ _ _ hm
  obtain ⟨hn0, I0, hI0⟩ : n0 ≤ maxLen ∧ ∃ I, ItsAt (fun _ => True) W ao0 n0 I := by
    obtain ⟨fuel, hf⟩ := k0
    exact open_items hf
  obtain ⟨a1, rfl, rfl, rfl, w1⟩ := open_int Try.underlying3 (hval 1 3 v1 rfl rfl) h1
  have k2 := h2
  have lt2 : ∀ x ∈ p2, x.block < W.heap.size := by obtain ⟨m, hm⟩ := k2; exact DataW.trod_lt m _ _ _ hm
  obtain ⟨s2, rfl, hs2⟩ : ∃ x : Stg, v2 = x.val ∧ I64 x.t ∧ I64 x.l ∧ I64 x.a ∧ I64 x.d ∧ I64 x.z ∧ I64 x.o ∧ I64 x.i := by
    obtain ⟨fuel, hf⟩ := k2
    exact sett_value hf
  clear hA0 hval0
  refine (walk W ao0 n0 cap0 I0 hn0 hI0 a1 w1 s2 hs2).mono fun e W' ⟨he, hg⟩ => ?_
  subst he
  exact ⟨_, rfl, _, _, _, [], _, [], hW', trodAll_mk1 (shut_bool Try.underlying4 _), (trodAll_cons_mk (Below.trod laidOut (by kernel_rfl) (of_decide_eq_true (by kernel_rfl)) k0 hg lt0) (trodAll_cons_mk (shut_int Try.underlying3 w1) (trodAll_cons_mk (Below.trod laidOut (by kernel_rfl) (of_decide_eq_true (by kernel_rfl)) k2 hg lt2) trodAll_mk0))), rfl, hg.frame _, fun h => by cases h⟩

theorem proved : Rows.BreaksAlwaysSaid :=
  OpenClaim.holds_of_wide 3 Try.f3 rfl rfl rfl rfl rfl rfl rfl ⟨rfl, rfl, rfl, rfl, rfl⟩ rfl rfl rfl rfl rfl (by kernel_rfl) Try.func3 (by kernel_rfl)
    (of_decide_eq_true (by kernel_rfl)) (by unfold Func.isWrapper; first | (rw [if_pos (by decide +kernel)]; kernel_rfl) | (rw [if_neg (by decide +kernel)]; exact ⟨rfl, rfl⟩))
    (fun os started H enc _ => lifted os started H enc)
#print axioms proved
end Go.Proofs.Ytkmeeblkckfepaa.breaksAlways
