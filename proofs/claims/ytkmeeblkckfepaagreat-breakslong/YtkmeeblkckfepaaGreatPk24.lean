/-
  What the statements' own functions of layer 9 do: the page's words, para, Right.
-/
import Derived.Great.Walk
import Derived.Test.YtkmeeblkckfepaaGreatPk18
import Derived.Test.YtkmeeblkckfepaaGreatPk13
namespace Go.Proofs.YtkmeeblkckfepaaGreat
open Go.RowKit
set_option linter.unusedSimpArgs false
set_option linter.unusedVariables false

/-- A word, a space. -/
def bxI (k : Int) : Itm := ⟨1, 30, 0, 0, false, 0, false, k, k + 1⟩
def glI (k : Int) : Itm := ⟨2, 10, 5, 3, false, 0, false, k, k + 1⟩
set_option maxRecDepth 100000 in
theorem box9_any (k : Int) (hk : 0 ≤ k ∧ k ≤ 10) (w : World) : Calls Tryz.prog 38 #[.int .i64 k] w fun e w' => e = .returned (bxI k).val ∧ Below w.heap.size w w' := by
  unfold bxI Itm.val
  go_enter Tryz.func38, Tryz.ntmps38
  go_wp2_with fail
  refine bodyPost_ret (v := .agg #[.int .i64 1, .int .i64 30, .int .i64 0, .int .i64 0, .bool false, .int .i64 0, .bool false, .int .i64 k, .int .i64 (k + 1)]) ?_ ?_ ?_
  · exact results_cell_row Tryz.results38 _ _ w.heap.size 72 _ (0, 0) _ rfl (heap_alloc_new w _) Tryz.underlying72 rfl (by kernel_rfl)
  · rfl
  · exact ⟨rfl, (Below.refl _ _).alloc (Nat.le_refl _) _⟩
set_option maxRecDepth 100000 in
theorem glue9_any (k : Int) (hk : 0 ≤ k ∧ k ≤ 10) (w : World) : Calls Tryz.prog 39 #[.int .i64 k] w fun e w' => e = .returned (glI k).val ∧ Below w.heap.size w w' := by
  unfold glI Itm.val
  go_enter Tryz.func39, Tryz.ntmps39
  go_wp2_with fail
  refine bodyPost_ret (v := .agg #[.int .i64 2, .int .i64 10, .int .i64 5, .int .i64 3, .bool false, .int .i64 0, .bool false, .int .i64 k, .int .i64 (k + 1)]) ?_ ?_ ?_
  · exact results_cell_row Tryz.results39 _ _ w.heap.size 72 _ (0, 0) _ rfl (heap_alloc_new w _) Tryz.underlying72 rfl (by kernel_rfl)
  · rfl
  · exact ⟨rfl, (Below.refl _ _).alloc (Nat.le_refl _) _⟩
/-- The page's words. -/
def wL : List Itm := [⟨1, 30, 0, 0, false, 0, false, 0, 1⟩, ⟨2, 10, 5, 3, false, 0, false, 1, 2⟩, ⟨1, 30, 0, 0, false, 0, false, 2, 3⟩, ⟨2, 10, 5, 3, false, 0, false, 3, 4⟩, ⟨1, 30, 0, 0, false, 0, false, 4, 5⟩, ⟨2, 0, 0, 0, true, 0, false, 5, 5⟩, ⟨3, 0, 0, 0, false, -10000, false, 5, 5⟩]
def wI (k : Nat) : Itm := wL.getD k Itm.zero
set_option maxRecDepth 100000 in
set_option maxHeartbeats 2000000 in
theorem words_any (w : World) : Calls Tryz.prog 17 #[] w fun e w' => ∃ b, e = .returned (.slice (some ⟨b, 0, none⟩) 7 7) ∧ w.heap.size ≤ b ∧ w'.heap[b]? = some (.cells (ics wL).toArray 72 (0, 0)) ∧ Below w.heap.size w w' := by
  have HX := boxed (fun k hk => box9_any k hk)
  have HG := boxed (fun k hk => glue9_any k hk)
  go_enter Tryz.func17, Tryz.ntmps17
  go_wp2_with fail
  refine (HX.out 0 (by omega) _).mono ?_
  rintro e w1 ⟨rfl, hb⟩
  have HB1 := boxed (below_step (Below.refl w.heap.size w) (Nat.le_refl _) hb)
  clear hb
  go_wp2_with fail
  refine (HG.out 1 (by omega) _).mono ?_
  rintro e w2 ⟨rfl, hb⟩
  have HB2 := boxed (below_step (HB1.out) (Nat.le_refl _) hb)
  clear hb
  go_wp2_with fail
  refine (HX.out 2 (by omega) _).mono ?_
  rintro e w3 ⟨rfl, hb⟩
  have HB3 := boxed (below_step (HB2.out) (Nat.le_refl _) hb)
  clear hb
  go_wp2_with fail
  refine (HG.out 3 (by omega) _).mono ?_
  rintro e w4 ⟨rfl, hb⟩
  have HB4 := boxed (below_step (HB3.out) (Nat.le_refl _) hb)
  clear hb
  go_wp2_with fail
  refine (HX.out 4 (by omega) _).mono ?_
  rintro e w5 ⟨rfl, hb⟩
  have HB5 := boxed (below_step (HB4.out) (Nat.le_refl _) hb)
  clear hb
  unfold bxI glI Itm.val
  go_wp2_with (first | (refine Great.wpList_buildSliceTo (t := 22) (e := 72) (len := 7) rfl _ _ _ _ rfl w5.heap.size rfl _ rfl Tryz.underlying22 (ics wL).toArray ?hf ?_))
  go_ret
  exact ⟨_, rfl, HB5.out.size, heap_alloc_new _ _, HB5.out.alloc HB5.out.size _⟩
theorem its_wI {W : World} {b : Nat} {S : Nat → Prop} (hS : S b) (e : W.heap[b]? = some (.cells (ics wL).toArray 72 (0, 0))) : ItsAt S W (some ⟨b, 0, none⟩) 7 wI := by
  intro i hi
  refine ⟨b, 0, rfl, hS, ?_⟩
  rcases i with _ | _ | _ | _ | _ | _ | _ | i
  all_goals first
    | omega
    | exact ⟨row_cell e _ _ rfl, row_cell e _ _ rfl, row_cell e _ _ rfl, row_cell e _ _ rfl, row_cell e _ _ rfl, row_cell e _ _ rfl, row_cell e _ _ rfl, row_cell e _ _ rfl, row_cell e _ _ rfl⟩
/-- The usual settings. -/
def uS : Stg := ⟨200, 10, 10000, 10000, 5000, 2, 2⟩
theorem rgt_wI : rgt wI 7 = true := by decide +kernel
theorem nbk_wI : nbk wI 7 = 3 := by decide +kernel
theorem may0_wI : mayL (PT wI 7 70 uS 200) 0 0 = false := by decide +kernel
theorem may1_wI : mayL (PT wI 7 70 uS 200) 0 1 = true := by decide +kernel
theorem may2_wI : mayL (PT wI 7 70 uS 200) 0 2 = false := by decide +kernel
theorem cw_wI : cw (PT wI 7 70 uS 200) 0 (-1) [1, 2] = some 200 := by decide +kernel
theorem bkn_wI : [1, 2].map (bkn wI 7) = [3, 6] := by decide +kernel
theorem best_wI : Best (PT wI 7 70 uS 200) 0 (-1) 200 [1, 2] := by
  have hm : (PT wI 7 70 uS 200).m = 3 := nbk_wI
  refine ⟨cw_wI, fun l' c' h => ?_⟩
  have hl : l' = [1, 2] := by
    cases l' with
    | nil => simp only [cw] at h; rw [hm] at h; simp at h
    | cons j t =>
      obtain ⟨hs, q, hq, -⟩ := cw_cons _ _ _ _ _ _ h
      have h1 := (mayL_iff _ _ _).1 hs
      rw [hm] at h1
      have : j = 1 := by
        rcases j with _ | _ | _ | j
        · rw [may0_wI] at hs; cases hs
        · rfl
        · rw [may2_wI] at hs; cases hs
        · omega
      subst this
      cases t with
      | nil => simp only [cw] at hq; rw [hm] at hq; simp at hq
      | cons j2 t2 =>
        obtain ⟨hs2, q2, hq2, -⟩ := cw_cons _ _ _ _ _ _ hq
        have h2 := (mayL_iff _ _ _).1 hs2
        rw [hm] at h2
        have : j2 = 2 := by omega
        subst this
        cases t2 with
        | nil => rfl
        | cons j3 t3 =>
          obtain ⟨hs3, -⟩ := cw_cons _ _ _ _ _ _ hq2
          have h3 := (mayL_iff _ _ _).1 hs3
          rw [hm] at h3
          omega
  subst hl
  rw [cw_wI] at h
  injection h with h
  exact .inr ⟨h, lle_refl _⟩
set_option maxRecDepth 100000 in
set_option maxHeartbeats 2000000 in
theorem right9_any (width : Int) (s : Stg) (w : World) : Calls Tryz.prog 9 #[.int .i64 width, s.val] w fun e w' => e = .returned (.bool (okW width && okS s)) ∧ Below w.heap.size w w' := by
  have hc := fun W => refsett_any s W
  have HV := boxed (show okW width = (decide (1 ≤ width) && decide (width ≤ 1073741824)) from rfl)
  generalize okW width = V at *
  generalize okS s = E at *
  unfold Stg.val at *
  by_cases h1 : 1 ≤ width
  · have d1 : decide (1 ≤ width) = true := decide_eq_true h1
    by_cases h2 : width ≤ 1073741824
    · have d2 : decide (width ≤ 1073741824) = true := decide_eq_true h2
      rw [d1, d2] at HV
      go_enter Tryz.func9, Tryz.ntmps9
      go_wp2_with fail
      refine (hc _).mono ?_
      rintro e w1 ⟨rfl, hb⟩
      have HB := boxed (kept_below (Below.refl w.heap.size w) (Nat.le_refl _) hb)
      clear hb hc
      go_wp2_with fail
      go_ret
      exact ⟨by rw [HV.out]; simp, HB.out⟩
    · have d2 : decide (width ≤ 1073741824) = false := decide_eq_false h2
      rw [d1, d2] at HV
      go_enter Tryz.func9, Tryz.ntmps9
      go_wp2_with fail
      go_ret
      exact ⟨by rw [HV.out]; simp, by go_grown⟩
  · have d1 : decide (1 ≤ width) = false := decide_eq_false h1
    rw [d1] at HV
    go_enter Tryz.func9, Tryz.ntmps9
    go_wp2_with fail
    go_ret
    exact ⟨by rw [HV.out]; simp, by go_grown⟩
set_option maxRecDepth 100000 in
set_option maxHeartbeats 2000000 in
theorem para9_none (S : Nat → Prop) (ao : Option Addr) (n c : Nat) (I : Nat → Itm) (w : World) (h : ItsAt S w ao n I) (hn : n ≤ maxLen) (most : Int) (hr : 400 < n ∨ rgt I n = false ∨ most < nbk I n) :
    Calls Tryz.prog 8 #[.slice ao n c, .int .i64 most] w fun e w' => e = .returned (.pointer none) ∧ Below w.heap.size w w' := by
  by_cases c4 : 400 < n
  · have t1 : decide ((400 : Int) < (n : Int)) = true := decide_eq_true (by omega)
    unfold maxLen at hn
    clear h
    go_enter Tryz.func8, Tryz.ntmps8
    go_wp2_with fail
    go_ret
    exact ⟨rfl, Below.refl _ _⟩
  have t1 : decide ((400 : Int) < (n : Int)) = false := decide_eq_false (by omega)
  have hR := refright7_any S ao n c I w h hn
  by_cases c5 : rgt I n = false
  · rw [c5] at hR
    clear h hn hr
    have hn2 : n ≤ 400 := by omega
    go_enter Tryz.func8, Tryz.ntmps8
    go_wp2_with fail
    refine hR.mono ?_
    rintro e w1 ⟨rfl, hb⟩
    have HB := boxed hb
    clear hb hR
    go_wp2_with fail
    go_ret
    exact ⟨rfl, HB.out⟩
  · have c6 : rgt I n = true := by simpa using c5
    have c7 : most < nbk I n := by rcases hr with h | h | h; exact absurd h c4; exact absurd h c5; exact h
    rw [c6] at hR
    have HL := boxed (fun W (hb : Below w.heap.size w W) => reflegal8_any S ao n c I W (h.below hb) (by omega))
    have t2 : decide (most < (nbk I n : Int)) = true := decide_eq_true c7
    have hl := lgs_len I n n
    clear h hn hr c5 c6
    have hn2 : n ≤ 400 := by omega
    unfold nbk at *
    go_enter Tryz.func8, Tryz.ntmps8
    go_wp2_with fail
    refine hR.mono ?_
    rintro e w1 ⟨rfl, hb⟩
    have HB := boxed hb
    clear hb hR
    go_wp2_with fail
    refine (HL.out _ HB.out).mono ?_
    rintro e w2 ⟨v, rfl, ho, hb2⟩
    obtain ⟨a1, c1, rfl⟩ := own_shape ho
    have HB2 := boxed (below_step HB.out (Nat.le_refl _) hb2)
    clear hb2 HL ho
    go_wp2_with fail
    go_ret
    exact ⟨rfl, HB2.out⟩
set_option maxRecDepth 100000 in
set_option maxHeartbeats 2000000 in
theorem para9_some (S : Nat → Prop) (ao : Option Addr) (n c : Nat) (I : Nat → Itm) (w : World) (h : ItsAt S w ao n I) (most : Int) (hn : n ≤ 400) (hr : rgt I n = true) (hm : (nbk I n : Int) ≤ most) :
    Calls Tryz.prog 8 #[.slice ao n c, .int .i64 most] w fun e w' => ∃ pb, e = .returned (.pointer (some ⟨pb, 0, none⟩)) ∧ ParaAt (fun b => w.heap.size ≤ b) w' pb n I ∧ Below w.heap.size w w' := by
  have hR := refright7_any S ao n c I w h (by unfold maxLen; omega)
  rw [hr] at hR
  have hN := boxed (fun W (hb : Below w.heap.size w W) => new_any S ao n c I W (h.below hb) (by unfold maxLen; omega) hr)
  have HL := boxed (fun W (hb : Below w.heap.size w W) => reflegal8_any S ao n c I W (h.below hb) (by omega))
  have t1 : decide ((400 : Int) < (n : Int)) = false := decide_eq_false (by omega)
  have t2 : decide (most < (nbk I n : Int)) = false := decide_eq_false (by omega)
  have hl := lgs_len I n n
  clear h hr
  unfold nbk at *
  go_enter Tryz.func8, Tryz.ntmps8
  go_wp2_with fail
  refine hR.mono ?_
  rintro e w1 ⟨rfl, hb⟩
  have HB := boxed hb
  clear hb hR
  go_wp2_with fail
  refine (HL.out _ HB.out).mono ?_
  rintro e w2 ⟨v, rfl, ho, hb2⟩
  obtain ⟨a1, c1, rfl⟩ := own_shape ho
  have HB2 := boxed (below_step HB.out (Nat.le_refl _) hb2)
  clear hb2 HL ho HB
  go_wp2_with fail
  refine (hN.out _ HB2.out).mono ?_
  rintro e w3 ⟨pb, rfl, hP, hb3⟩
  have HP := boxed (hP.keep (kp_more (S' := fun b => w.heap.size ≤ b) (fun b hb => Nat.le_trans HB2.out.size hb) (Below.refl _ _)))
  have HB3 := boxed (below_step HB2.out (Nat.le_refl _) hb3)
  clear hP hb3
  go_wp2_with fail
  go_ret
  exact ⟨pb, rfl, HP.out, HB3.out⟩
set_option maxRecDepth 100000 in
set_option maxHeartbeats 4000000 in
theorem awake9_any (w : World) : Calls Tryz.prog 7 #[] w fun e w' => e = .returned (.bool true) ∧ Below w.heap.size w w' := by
  have HW := boxed (words_any w)
  have HU := boxed (fun W => usual_any W)
  go_enter Tryz.func7, Tryz.ntmps7
  go_wp2_with fail
  refine HW.out.mono ?_
  rintro e w1 ⟨b, rfl, hb, he, hb1⟩
  have HB1 := boxed hb1
  have hP := para9_some (fun _ => True) (some ⟨b, 0, none⟩) 7 7 wI w1 (its_wI trivial he) 9 (by omega) rgt_wI (by rw [nbk_wI]; decide)
  clear hb1 HW he
  go_wp2_with fail
  refine hP.mono ?_
  rintro e w2 ⟨pb, rfl, hpa, hb2⟩
  have HB2 := boxed (below_step HB1.out (Nat.le_refl _) hb2)
  have HP := boxed hpa
  clear hpa hb2 HB1 hP
  go_wp2_with fail
  refine (HU.out _).mono ?_
  rintro e w3 ⟨rfl, hb3⟩
  have HB3 := boxed (below_step HB2.out (Nat.le_refl _) hb3)
  have hf := (rgt_iff wI 7).1 rgt_wI
  have hK := break_any (s := uS) (HP.out.below hb3) hf.2.1 hf.2.2.2 hf.1 hf.2.2.1 (width := 70) (by omega) (by decide +kernel)
  unfold Stg.val uS at hK
  clear hb3 HP HB2 hf
  go_wp2_with fail
  refine hK.mono ?_
  rintro e w4 ⟨v, c, l, em, rfl, hB, hne, ho, hb4⟩
  have HB4 := boxed (below_step HB3.out (Nat.le_refl _) hb4)
  obtain ⟨he, hc, hl⟩ : em = false ∧ c = 200 ∧ l = [1, 2] := by
    rcases hB with ⟨h1, h2⟩ | ⟨-, h2, -⟩
    · have := h2.one best_wI
      exact ⟨h1, this.1, this.2⟩
    · exact (noway_some h2 cw_wI).elim
  subst he hc hl
  obtain ⟨a1, c1, rfl⟩ := own_shape ho
  have hN := own_nat ho (by rfl)
  rw [bkn_wI] at hN
  obtain ⟨g, e, -, hg⟩ := hN.form (by decide)
  subst e
  have g0 : ∀ o, (w4.alloc o).cell? ⟨g, 0, none⟩ = some (.int .i64 3) := fun o => hold ((Below.refl _ w4).alloc (Nat.le_refl _) o) (hg 0 (by decide))
  have g1 : ∀ o, (w4.alloc o).cell? ⟨g, 1, none⟩ = some (.int .i64 6) := fun o => hold ((Below.refl _ w4).alloc (Nat.le_refl _) o) (hg 1 (by decide))
  simp only [List.length_cons, List.length_nil, Nat.zero_add, Nat.reduceAdd]
  have HB5 := boxed (fun o => HB4.out.alloc HB4.out.size o)
  clear hb4 hN hg HB3 hK hB hne ho
  go_wp2_with fail
  go_ret
  exact ⟨rfl, HB5.out _⟩
end Go.Proofs.YtkmeeblkckfepaaGreat
