/-
  For any items, any width with settings and any list of numbers the statement BreaksLeast of the program returns true: no way whose lines all do costs less than the program's, and none that costs as much comes ahead in order. No condition besides the statement's own.
-/
import Derived.Test.YtkmeeblkckfepaaGreatRows
import Derived.WalkKit
import Derived.ProofKit
import Derived.OpenShut
import Derived.SizedLaws
import Derived.ShutString
import Derived.ChangeOld
import Derived.Below
import Derived.Test.YtkmeeblkckfepaaGreatPk22
import Derived.Test.YtkmeeblkckfepaaGreatPk24
namespace Go.Proofs.YtkmeeblkckfepaaGreat.breaksLeast
open Go.ChangeShapes Go.WideShapes Go.ChangeAt Go.RowKit
open Go.ChangeMaps (open_string shut_string)
set_option linter.unusedVariables false
set_option linter.unusedSimpArgs false

theorem own : ownKnob Tryz.prog.godebug = none := by kernel_rfl
theorem laidOut : laidOutB Tryz.prog = true := by kernel_rfl

set_option maxRecDepth 100000 in
set_option maxHeartbeats 16000000 in
theorem walk (w : World) (ao0 : Option Addr) (n0 cap0 : Nat) (I0 : Nat → Itm) (hn0 : n0 ≤ maxLen) (hI0 : ItsAt (fun _ => True) w ao0 n0 I0) (wd1 : Int) (s1 : Stg) (hs1 : I64 wd1 ∧ I64 s1.t ∧ I64 s1.l ∧ I64 s1.a ∧ I64 s1.d ∧ I64 s1.z ∧ I64 s1.o ∧ I64 s1.i) (ao2 : Option Addr) (n2 cap2 : Nat) (X2 : Nat → Int) (hn2 : n2 ≤ maxLen) (hX2 : IntsAt w ao2 n2 X2) :
    Calls Tryz.prog 6 #[.slice ao0 n0 cap0, setV wd1 s1, .slice ao2 n2 cap2] w fun e w' => e = .returned (.bool true) ∧ Below w.heap.size w w' := by
  have HA := boxed (And.intro hs1 trivial)
  clear hs1
  have HI := boxed hI0
  have HX0 := boxed hX2
  have hn1 := boxed hn0
  have hn3 := boxed hn2
  unfold maxLen at hn0 hn2
  have KF : Box (∀ W, Below (w.alloc (.cells #[.int .i64 wd1, .int .i64 s1.t, .int .i64 s1.l, .int .i64 s1.a, .int .i64 s1.d, .int .i64 s1.z, .int .i64 s1.o, .int .i64 s1.i] 42)).heap.size (w.alloc (.cells #[.int .i64 wd1, .int .i64 s1.t, .int .i64 s1.l, .int .i64 s1.a, .int .i64 s1.d, .int .i64 s1.z, .int .i64 s1.o, .int .i64 s1.i] 42)) W → (W.cell? ⟨w.heap.size, 0, none⟩ = some (.int .i64 wd1) ∧ W.cell? ⟨w.heap.size, 1, none⟩ = some (.int .i64 s1.t) ∧ W.cell? ⟨w.heap.size, 2, none⟩ = some (.int .i64 s1.l) ∧ W.cell? ⟨w.heap.size, 3, none⟩ = some (.int .i64 s1.a) ∧ W.cell? ⟨w.heap.size, 4, none⟩ = some (.int .i64 s1.d) ∧ W.cell? ⟨w.heap.size, 5, none⟩ = some (.int .i64 s1.z) ∧ W.cell? ⟨w.heap.size, 6, none⟩ = some (.int .i64 s1.o) ∧ W.cell? ⟨w.heap.size, 7, none⟩ = some (.int .i64 s1.i)) ∧ Below w.heap.size w W) := boxed (fun W hb => ⟨⟨kept_first hb 0, kept_first hb 1, kept_first hb 2, kept_first hb 3, kept_first hb 4, kept_first hb 5, kept_first hb 6, kept_first hb 7⟩, kept_below (Below.refl _ w) (Nat.le_refl _) hb⟩)
  have hI1 : Box (∀ W, Below (w.alloc (.cells #[.int .i64 wd1, .int .i64 s1.t, .int .i64 s1.l, .int .i64 s1.a, .int .i64 s1.d, .int .i64 s1.z, .int .i64 s1.o, .int .i64 s1.i] 42)).heap.size (w.alloc (.cells #[.int .i64 wd1, .int .i64 s1.t, .int .i64 s1.l, .int .i64 s1.a, .int .i64 s1.d, .int .i64 s1.z, .int .i64 s1.o, .int .i64 s1.i] 42)) W → ItsAt (fun _ => True) W ao0 n0 I0) := boxed (fun W hb => HI.out.below (KF.out W hb).2)
  have hR := fun W => right9_any wd1 s1 W
  clear hI0
  have hX1 : Box (∀ W, Below (w.alloc (.cells #[.int .i64 wd1, .int .i64 s1.t, .int .i64 s1.l, .int .i64 s1.a, .int .i64 s1.d, .int .i64 s1.z, .int .i64 s1.o, .int .i64 s1.i] 42)).heap.size (w.alloc (.cells #[.int .i64 wd1, .int .i64 s1.t, .int .i64 s1.l, .int .i64 s1.a, .int .i64 s1.d, .int .i64 s1.z, .int .i64 s1.o, .int .i64 s1.i] 42)) W → IntsAt W ao2 n2 X2) := boxed (fun W hb => HX0.out.below (KF.out W hb).2)
  clear hX2
  by_cases hp : 400 < n0 ∨ rgt I0 n0 = false ∨ (120 : Int) < nbk I0 n0
  · have hP := boxed (fun W hb => para9_none (fun _ => True) ao0 n0 cap0 I0 W (hI1.out W hb) hn1.out 120 hp)
    unfold Stg.val setV at *
    clear hp
    go_enter Tryz.func6, Tryz.ntmps6
    go_wp2_with fail
    refine (awake9_any _).mono ?_
    rintro e w1 ⟨rfl, hb1⟩
    have HB1 := boxed hb1
    clear hb1
    go_wp2_with fail
    refine (hP.out _ HB1.out).mono ?_
    rintro e w2 ⟨rfl, hb2⟩
    have HB2 := boxed (below_step HB1.out (Nat.le_refl _) hb2)
    obtain ⟨⟨c0, c1, c2, c3, c4, c5, c6, c7⟩, -⟩ := KF.out _ HB2.out
    clear hb2
    go_wp2_with fail
    go_ret
    exact ⟨rfl, (KF.out _ HB2.out).2⟩
  have hp1 : n0 ≤ 400 := by omega
  have hp2 : rgt I0 n0 = true := by cases h : rgt I0 n0 with | true => rfl | false => exact absurd (.inr (.inl h)) hp
  have hp3 : (nbk I0 n0 : Int) ≤ 120 := by omega
  have hP := boxed (fun W hb => para9_some (fun _ => True) ao0 n0 cap0 I0 W (hI1.out W hb) 120 hp1 hp2 hp3)
  clear hp
  by_cases hr : (okW wd1 && okS s1) = false
  · rw [hr] at hR
    unfold Stg.val setV at *
    go_enter Tryz.func6, Tryz.ntmps6
    go_wp2_with fail
    refine (awake9_any _).mono ?_
    rintro e w1 ⟨rfl, hb1⟩
    have HB1 := boxed hb1
    clear hb1
    go_wp2_with fail
    refine (hP.out _ HB1.out).mono ?_
    rintro e w2 ⟨pb, rfl, hpa, hb2⟩
    have HB2 := boxed (below_step HB1.out (Nat.le_refl _) hb2)
    have HP2 := boxed (hpa.keep (S' := fun b => b < w2.heap.size) (fun b i u hs hc => ⟨by have := World.block_lt_of_cell? w2 _ hc; simpa using this, hc⟩))
    obtain ⟨⟨c0, c1, c2, c3, c4, c5, c6, c7⟩, -⟩ := KF.out _ HB2.out
    clear hb2 hpa hP HB1
    go_wp2_with fail
    refine (hR _).mono ?_
    rintro e w3 ⟨rfl, hb3⟩
    have HB3 := boxed (below_step HB2.out (Nat.le_refl _) hb3)
    have HX3 := boxed hb3
    clear hb3 hR c0 c1 c2 c3 c4 c5 c6 c7
    obtain ⟨⟨c0, c1, c2, c3, c4, c5, c6, c7⟩, -⟩ := KF.out _ HB3.out
    go_wp2_with fail
    go_ret
    exact ⟨rfl, (KF.out _ HB3.out).2⟩
  have hr1 : (okW wd1 && okS s1) = true := by simpa using hr
  have hw : 1 ≤ wd1 ∧ wd1 ≤ 1073741824 := by simp [okW] at hr1; omega
  have hs : okS s1 = true := by simp at hr1; exact hr1.2
  rw [hr1] at hR
  clear hr hr1
  by_cases hm1 : 130 < n2
  · have d1 : decide ((130 : Int) < (n2 : Int)) = true := decide_eq_true (by omega)
    have d1' : decide (130 < n2) = true := decide_eq_true hm1
    unfold Stg.val setV at *
    go_enter Tryz.func6, Tryz.ntmps6
    go_wp2_with fail
    refine (awake9_any _).mono ?_
    rintro e w1 ⟨rfl, hb1⟩
    have HB1 := boxed hb1
    clear hb1
    go_wp2_with fail
    refine (hP.out _ HB1.out).mono ?_
    rintro e w2 ⟨pb, rfl, hpa, hb2⟩
    have HB2 := boxed (below_step HB1.out (Nat.le_refl _) hb2)
    have HP2 := boxed (hpa.keep (S' := fun b => b < w2.heap.size) (fun b i u hs hc => ⟨by have := World.block_lt_of_cell? w2 _ hc; simpa using this, hc⟩))
    obtain ⟨⟨c0, c1, c2, c3, c4, c5, c6, c7⟩, -⟩ := KF.out _ HB2.out
    clear hb2 hpa hP HB1
    go_wp2_with fail
    refine (hR _).mono ?_
    rintro e w3 ⟨rfl, hb3⟩
    have HB3 := boxed (below_step HB2.out (Nat.le_refl _) hb3)
    have HX3 := boxed hb3
    clear hb3 hR c0 c1 c2 c3 c4 c5 c6 c7
    obtain ⟨⟨c0, c1, c2, c3, c4, c5, c6, c7⟩, -⟩ := KF.out _ HB3.out
    go_wp2_with fail
    go_ret
    exact ⟨rfl, (KF.out _ HB3.out).2⟩
  have d1 : decide ((130 : Int) < (n2 : Int)) = false := decide_eq_false (by omega)
  have d1' : decide (130 < n2) = false := decide_eq_false hm1
  obtain ⟨h0, h1, hfo, hok⟩ := (rgt_iff I0 n0).1 hp2
  have HBR := boxed (fun W pb (h : ParaAt (fun b => b < W.heap.size) W pb n0 I0) => break_any (s := s1) h h1 hok h0 hfo hw hs)
  have HPR := boxed (fun W (hb : Below (w.alloc (.cells #[.int .i64 wd1, .int .i64 s1.t, .int .i64 s1.l, .int .i64 s1.a, .int .i64 s1.d, .int .i64 s1.z, .int .i64 s1.o, .int .i64 s1.i] 42)).heap.size (w.alloc (.cells #[.int .i64 wd1, .int .i64 s1.t, .int .i64 s1.l, .int .i64 s1.a, .int .i64 s1.d, .int .i64 s1.z, .int .i64 s1.o, .int .i64 s1.i] 42)) W) (em : Bool) => price_any (S := fun _ => True) (c := cap0) (xc := cap2) (width := wd1) (s := s1) (hI1.out _ hb) h1 hok hw hs em (hX1.out _ hb) (by omega))
  have HOK := boxed (And.intro h1 (And.intro hok hs))
  clear hw hs hfo hok
  unfold Stg.val setV at *
  go_enter Tryz.func6, Tryz.ntmps6
  go_wp2_with fail
  refine (awake9_any _).mono ?_
  rintro e w1 ⟨rfl, hb1⟩
  have HB1 := boxed hb1
  clear hb1
  go_wp2_with fail
  refine (hP.out _ HB1.out).mono ?_
  rintro e w2 ⟨pb, rfl, hpa, hb2⟩
  have HB2 := boxed (below_step HB1.out (Nat.le_refl _) hb2)
  have HP2 := boxed (hpa.keep (S' := fun b => b < w2.heap.size) (fun b i u hs hc => ⟨by have := World.block_lt_of_cell? w2 _ hc; simpa using this, hc⟩))
  obtain ⟨⟨c0, c1, c2, c3, c4, c5, c6, c7⟩, -⟩ := KF.out _ HB2.out
  clear hb2 hpa hP HB1
  go_wp2_with fail
  refine (hR _).mono ?_
  rintro e w3 ⟨rfl, hb3⟩
  have HB3 := boxed (below_step HB2.out (Nat.le_refl _) hb3)
  have HX3 := boxed hb3
  clear hb3 hR c0 c1 c2 c3 c4 c5 c6 c7
  obtain ⟨⟨c0, c1, c2, c3, c4, c5, c6, c7⟩, -⟩ := KF.out _ HB3.out
  have hK := HBR.out _ _ (HP2.out.keep (fun b i u hs hc => ⟨by have := HX3.out.size; omega, hold HX3.out hc⟩))
  clear HBR
  go_wp2_with fail
  refine hK.mono ?_
  rintro e w4 ⟨v, c, l, em, rfl, hB, hne, ho, hb4⟩
  have hlm : (l.map (bkn I0 n0)).length = l.length := List.length_map _
  have hl : 0 < l.length := List.length_pos_iff.2 hne
  have hl2 : l.length ≤ 400 := by have := brk_len hB; omega
  have HBB := boxed (brk_best HOK.out.1 HOK.out.2.1 HOK.out.2.2 hB)
  have HLt := boxed (brk_row hB).1
  obtain ⟨g, gc, rfl, hg1, hg2⟩ := own_form ho hl
  have hN := nat_ints (own_nat ho hlm) (fun k hk => by have := (HLt.out k hk).1; omega)
  rw [hlm] at hN
  have HB4 := boxed (below_step HB3.out (Nat.le_refl _) hb4)
  have HC5 : Box (∀ W, Below (w4.alloc (.cells #[.slice (some ⟨g, 0, none⟩) l.length gc, .int .i64 c, .bool em] 31)).heap.size (w4.alloc (.cells #[.slice (some ⟨g, 0, none⟩) l.length gc, .int .i64 c, .bool em] 31)) W → (W.cell? ⟨w4.heap.size, 0, none⟩ = some (.slice (some ⟨g, 0, none⟩) l.length gc) ∧ W.cell? ⟨w4.heap.size, 1, none⟩ = some (.int .i64 c) ∧ W.cell? ⟨w4.heap.size, 2, none⟩ = some (.bool em)) ∧ Below (w.alloc (.cells #[.int .i64 wd1, .int .i64 s1.t, .int .i64 s1.l, .int .i64 s1.a, .int .i64 s1.d, .int .i64 s1.z, .int .i64 s1.o, .int .i64 s1.i] 42)).heap.size (w.alloc (.cells #[.int .i64 wd1, .int .i64 s1.t, .int .i64 s1.l, .int .i64 s1.a, .int .i64 s1.d, .int .i64 s1.z, .int .i64 s1.o, .int .i64 s1.i] 42)) W ∧ IntsAt W (some ⟨g, 0, none⟩) l.length (fun k => ((l.map (bkn I0 n0)).getD k 0 : Nat))) := boxed (fun W hb => by
    have hb4 : Below w4.heap.size w4 W := ((Below.refl _ w4).alloc (Nat.le_refl _) _).trans (hb.mono (by simp))
    have hb5 := below_step HB4.out (Nat.le_refl _) hb4
    have hE : W.heap[w4.heap.size]? = _ := (hb.block w4.heap.size (by simp)).trans (heap_alloc_new w4 _)
    exact ⟨⟨row_cell hE 0 _ rfl, row_cell hE 1 _ rfl, row_cell hE 2 _ rfl⟩, hb5, hN.below hb4⟩)
  clear c0 c1 c2 c3 c4 c5 c6 c7
  obtain ⟨⟨c0, c1, c2, c3, c4, c5, c6, c7⟩, -⟩ := KF.out _ HB4.out
  have hz1 := World.block_lt_of_cell? w4 _ c0
  simp only at hz1
  have hz2 : w.heap.size ≠ w4.heap.size := by omega
  have hpr := HPR.out _ (HC5.out _ (Below.refl _ _)).2.1 false
  have HWay : Box (∀ T, Prc (PX I0 n0 wd1 s1 em) I0 n0 X2 n2 T true → c < T ∨ (T = c ∧ (∀ i, i < n2 → i < l.length → (∀ k, k < i → X2 k = ((l.map (bkn I0 n0)).getD k 0 : Nat)) → (((l.map (bkn I0 n0)).getD i 0 : Nat) : Int) ≤ X2 i) ∧ ((∀ k, k < n2 → k < l.length → X2 k = ((l.map (bkn I0 n0)).getD k 0 : Nat)) → l.length ≤ n2))) := boxed (fun T h => way_later rfl HBB.out.1 h)
  have HNo : Box (em = true → ∀ T ok, Prc (PX I0 n0 wd1 s1 false) I0 n0 X2 n2 T ok → ok = false) := boxed (fun he T ok h => by
    rcases h with ⟨h1, l', -, -, h4⟩ | ⟨h1, -⟩
    · exact (noway_some (HBB.out.2 he) h4).elim
    · exact h1)
  have hL := boxed hl2
  clear hb4 HB3 hK hB hne ho hN hlm HLt HBB HP2 HX3
  go_wp2_with fail
  refine hpr.mono ?_
  rintro e w6 ⟨T, ok, rfl, hprc, hb6⟩
  have HB6 := boxed hb6
  clear hb6 hpr c0 c1 c2 c3 c4 c5 c6 c7
  cases em
  · clear HNo HPR
    obtain ⟨⟨r0, r1, r2⟩, r3, r4⟩ := HC5.out _ HB6.out
    have R3 := boxed (KF.out _ r3).2
    have hbf := fun h1 h2 => before_any ao2 (some ⟨g, 0, none⟩) n2 l.length cap2 gc X2 _ w6 (hX1.out _ r3) r4 (by omega) (by have := hL.out; omega) h1 h2
    cases ok
    · clear r3 r4 hbf hprc
      go_wp2_with fail
      go_ret
      exact ⟨rfl, R3.out⟩
    · rcases HWay.out _ hprc with h5 | ⟨h5, h6, h7⟩
      · have t1 : decide (c < T) = true := decide_eq_true h5
        clear r3 r4 hbf hprc
        go_wp2_with fail
        go_ret
        exact ⟨rfl, R3.out⟩
      · subst h5
        have hbe := hbf h6 h7
        clear r3 r4 hbf h6 h7 hprc HWay
        go_wp2_with (go_at_call 16; refine hbe.mono ?_; rintro e w9 ⟨rfl, hb9⟩; have HB9 := boxed (below_step R3.out (Nat.le_refl _) hb9); clear hb9)
        go_ret
        exact ⟨rfl, HB9.out⟩
  · obtain rfl := HNo.out rfl _ _ hprc
    obtain ⟨⟨r0, r1, r2⟩, r3, r4⟩ := HC5.out _ HB6.out
    obtain ⟨⟨c0, c1, c2, c3, c4, c5, c6, c7⟩, -⟩ := KF.out _ r3
    have hpr := HPR.out _ r3 true
    clear hprc HNo HPR r3 r4
    go_wp2_with fail
    refine hpr.mono ?_
    rintro e w7 ⟨T2, ok2, rfl, hprc, hb7⟩
    have HB7 := boxed (below_step HB6.out (Nat.le_refl _) hb7)
    clear hb7 hpr c0 c1 c2 c3 c4 c5 c6 c7 r0 r1 r2
    obtain ⟨⟨r0, r1, r2⟩, r3, r4⟩ := HC5.out _ HB7.out
    have R3 := boxed (KF.out _ r3).2
    have hbf := fun h1 h2 => before_any ao2 (some ⟨g, 0, none⟩) n2 l.length cap2 gc X2 _ w7 (hX1.out _ r3) r4 (by omega) (by have := hL.out; omega) h1 h2
    cases ok2
    · clear r3 r4 hbf hprc
      go_wp2_with fail
      go_ret
      exact ⟨rfl, R3.out⟩
    · rcases HWay.out _ hprc with h5 | ⟨h5, h6, h7⟩
      · have t1 : decide (c < T2) = true := decide_eq_true h5
        clear r3 r4 hbf hprc
        go_wp2_with fail
        go_ret
        exact ⟨rfl, R3.out⟩
      · subst h5
        have hbe := hbf h6 h7
        clear r3 r4 hbf h6 h7 hprc HWay
        go_wp2_with (go_at_call 16; refine hbe.mono ?_; rintro e w9 ⟨rfl, hb9⟩; have HB9 := boxed (below_step R3.out (Nat.le_refl _) hb9); clear hb9)
        go_ret
        exact ⟨rfl, HB9.out⟩

set_option maxRecDepth 100000 in
theorem lifted (os : Os) (started : os.Started) (H : Type) (enc : TypeId × Value → H) :
    ReturnsInHanded {} Tryz.checked os 6 .any (Rows.breaksLeastSpec.pre6 enc Tryz.prog Tryz.f6 Rows.breaksLeastRow.domain false) (Rows.breaksLeastSpec.post enc Tryz.prog Tryz.f6 false true false false) := by
  refine returnsInHanded_of_change_sized (C := Tryz.checked) own started (by kernel_rfl) Tryz.func6
    (ChangeSpec.witness6 (enc := enc) (C := Tryz.checked) false ⟨#[], #[.slice none 0 0, .agg #[.int .i64 0, .int .i64 0, .int .i64 0, .int .i64 0, .int .i64 0, .int .i64 0, .int .i64 0, .int .i64 0], .slice none 0 0], []⟩ 8 (by kernel_rfl) (by kernel_rfl) (by kernel_rfl) (by kernel_rfl)) ?_
  intro W base args ds gs before hval0 hW hcnd hsz0 _
  have hval : ∀ (j : Nat) t v, Tryz.f6.params[j]? = some t → args[j]? = some v → Value.okWide Tryz.prog W .any base t v := hval0
  have hsz : (DataW.weightsEach Tryz.prog (Tryz.f6.params.toList ++ Rows.breaksLeastSpec.plain.varTypes Tryz.prog) (ds ++ gs)).all (· ≤ reachBytes) = true := hsz0
  have hW' := hW
  obtain ⟨p, q, hA0, hV, rfl, hfz, hnd⟩ := hW
  have hA : DataW.TrodAll enc Tryz.prog W 0 (fun _ => true) true Tryz.f6.params.toList args.toList ds p := hA0
  rw [Tryz.params6] at hA hval hsz
  obtain ⟨v0, vs0, d0, ds0, p0, q0, hargs, rfl, rfl, h0, r0⟩ := trodAll_cons hA
  obtain ⟨v1, vs1, d1, ds1, p1, q1, rfl, rfl, rfl, h1, r1⟩ := trodAll_cons r0
  obtain ⟨v2, vs2, d2, ds2, p2, q2, rfl, rfl, rfl, h2, r2⟩ := trodAll_cons r1
  obtain ⟨rfl, rfl, rfl⟩ := trodAll_nil r2
  obtain rfl : args = #[v0, v1, v2] := by cases args; simp_all
  obtain ⟨rfl, rfl⟩ := trodVars_none hV
  obtain ⟨ao0, n0, cap0, rfl⟩ := okWide_slice Tryz.underlying22 (hval 0 22 v0 rfl rfl)
  have k0 := h0
  have lt0 : ∀ x ∈ p0, x.block < W.heap.size := by obtain ⟨m, hm⟩ := k0; exact DataW.trod_lt m _ _ _ hm
  obtain ⟨hn0, I0, hI0⟩ : n0 ≤ maxLen ∧ ∃ I, ItsAt (fun _ => True) W ao0 n0 I := by
    obtain ⟨fuel, hf⟩ := k0
    exact open_items hf
  have k1 := h1
  have lt1 : ∀ x ∈ p1, x.block < W.heap.size := by obtain ⟨m, hm⟩ := k1; exact DataW.trod_lt m _ _ _ hm
  obtain ⟨wd1, s1, rfl, hs1⟩ : ∃ (z : Int) (x : Stg), v1 = setV z x ∧ I64 z ∧ I64 x.t ∧ I64 x.l ∧ I64 x.a ∧ I64 x.d ∧ I64 x.z ∧ I64 x.o ∧ I64 x.i := by
    obtain ⟨fuel, hf⟩ := k1
    exact setting_value hf
  obtain ⟨ao2, n2, cap2, rfl⟩ := okWide_slice Tryz.underlying29 (hval 2 29 v2 rfl rfl)
  have k2 := h2
  have lt2 : ∀ x ∈ p2, x.block < W.heap.size := by obtain ⟨m, hm⟩ := k2; exact DataW.trod_lt m _ _ _ hm
  obtain ⟨hn2, X2, hX2⟩ : n2 ≤ maxLen ∧ ∃ X, IntsAt W ao2 n2 X := by
    obtain ⟨fuel, hf⟩ := k2
    exact open_nums hf
  clear hA0 hval0
  refine (walk W ao0 n0 cap0 I0 hn0 hI0 wd1 s1 hs1 ao2 n2 cap2 X2 hn2 hX2).mono fun e W' ⟨he, hg⟩ => ?_
  subst he
  exact ⟨_, rfl, _, _, _, [], _, [], hW', trodAll_mk1 (shut_bool Tryz.underlying4 _), (trodAll_cons_mk (Below.trod laidOut (by kernel_rfl) (of_decide_eq_true (by kernel_rfl)) k0 hg lt0) (trodAll_cons_mk (Below.trod laidOut (by kernel_rfl) (of_decide_eq_true (by kernel_rfl)) k1 hg lt1) (trodAll_cons_mk (Below.trod laidOut (by kernel_rfl) (of_decide_eq_true (by kernel_rfl)) k2 hg lt2) trodAll_mk0))), rfl, hg.frame _, fun h => by cases h⟩

theorem proved : Rows.BreaksLeastSaid :=
  OpenClaim.holds_of_wide 6 Tryz.f6 rfl rfl rfl rfl rfl rfl rfl ⟨rfl, rfl, rfl, rfl, rfl⟩ rfl rfl rfl rfl rfl (by kernel_rfl) Tryz.func6 (by kernel_rfl)
    (of_decide_eq_true (by kernel_rfl)) (by unfold Func.isWrapper; first | (rw [if_pos (by decide +kernel)]; kernel_rfl) | (rw [if_neg (by decide +kernel)]; exact ⟨rfl, rfl⟩))
    (fun os started H enc _ => lifted os started H enc)
#print axioms proved
end Go.Proofs.YtkmeeblkckfepaaGreat.breaksLeast
