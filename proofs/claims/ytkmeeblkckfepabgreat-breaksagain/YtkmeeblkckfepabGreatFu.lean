/-
  What the program's Check, shortest, emergency and Break answer.
-/
import Derived.Test.YtkmeeblkckfepabGreatFt
namespace Go.Proofs.YtkmeeblkckfepabGreat
open Go.RowKit
set_option linter.unusedSimpArgs false
set_option linter.unusedVariables false

/-- May a line be so wide? -/
def okW (width : Int) : Bool := decide (1 ≤ width) && decide (width ≤ 1073741824)
def chkV (width : Int) (s : Stg) : Int := if okW width = true then (if okS s = true then 0 else 80) else 41
set_option maxRecDepth 100000 in
set_option maxHeartbeats 2000000 in
theorem bcheck_any (width : Int) (s : Stg) (w : World) : Calls Tryz.prog 15 #[.int .i64 width, s.val] w fun e w' => e = .returned (.int .i64 (chkV width s)) ∧ Below w.heap.size w w' := by
  have hc := fun W => check_any s W
  have HV := boxed (show chkV width s = if okW width = true then (if okS s = true then 0 else 80) else 41 from rfl)
  generalize chkV width s = V at *
  generalize (if okS s = true then (0 : Int) else 80) = E at *
  unfold Stg.val at *
  by_cases h1 : width < 1
  · have d1 : decide (width < 1) = true := decide_eq_true h1
    go_enter Tryz.func15, Tryz.ntmps15
    go_wp2_with fail
    go_ret
    exact ⟨ret_int (by rw [HV.out, if_neg (by simp [okW]; omega)]), by go_grown⟩
  have d1 : decide (width < 1) = false := decide_eq_false h1
  by_cases h2 : 1073741824 < width
  · have d2 : decide (1073741824 < width) = true := decide_eq_true h2
    go_enter Tryz.func15, Tryz.ntmps15
    go_wp2_with fail
    go_ret
    exact ⟨ret_int (by rw [HV.out, if_neg (by simp [okW]; omega)]), by go_grown⟩
  have d2 : decide (1073741824 < width) = false := decide_eq_false h2
  go_enter Tryz.func15, Tryz.ntmps15
  go_wp2_with fail
  refine (hc _).mono ?_
  rintro e w1 ⟨rfl, hb⟩
  have hb1 := kept_below (Below.refl w.heap.size w) (Nat.le_refl _) hb
  have HB := boxed hb1
  clear hb hb1 hc
  go_wp2_with fail
  go_ret
  exact ⟨ret_int (by rw [HV.out, if_pos (by simp [okW]; omega)]), HB.out⟩
section
variable {w : World} {pb n : Nat} {I : Nat → Itm} {width : Int} {s : Stg} {S : Nat → Prop}
/-- All breaks, one behind the other. -/
theorem all_bk (I : Nat → Itm) (n : Nat) : (List.range (nbk I n)).map (bkn I n) = lgs I n n := by
  apply List.ext_getElem
  · simp [nbk]
  · intro i h1 h2
    simp [bkn, List.getElem?_eq_getElem h2]
set_option maxRecDepth 100000 in
set_option maxHeartbeats 2000000 in
theorem shortest_any (h : ParaAt S w pb n I) (hn : n ≤ 262144) (hl : 0 < nbk I n) : Calls Tryz.prog 36 #[.pointer (some ⟨pb, 0, none⟩)] w fun e w' => ∃ v, e = .returned (.agg #[v, .int .i64 Awf, .bool false]) ∧ w'.ownsRow w.heap.size 3 1 v (nbk I n) (ncs (lgs I n n)) ∧ Below w.heap.size w w' := by
  obtain ⟨w0, hw0, hb0, hz0, HN⟩ := res_any w #[.slice none 0 0, .int .i64 0, .bool false] 33 _ rfl
  replace HN := boxed HN
  have hp := plegal_any (h.below hb0) hn hl
  unfold Awf
  clear h hb0
  go_enter Tryz.func36, Tryz.ntmps36
  go_wp2_with fail
  refine hp.mono ?_
  rintro e w1 ⟨v, rfl, ho, hb1⟩
  obtain ⟨a1, c1, rfl⟩ := own_shape ho
  obtain ⟨HE, HF⟩ := HN.out _ hb1
  obtain ⟨⟨x0, x1, x2⟩, y0, y1, y2⟩ := cells3 HE
  have HF1 : Box (Below w.heap.size w (w1.setCells w.heap.size 0 [.slice a1 (lgs I n n).length c1, .int .i64 1125899906842624, .bool false])) := boxed (HF.trans (sets_below _ _ (Nat.le_refl _) _ _ _))
  have HR1 : Box ((w1.setCells w.heap.size 0 [.slice a1 (lgs I n n).length c1, .int .i64 1125899906842624, .bool false]).heap[w.heap.size]? = some (.cells #[.slice a1 (lgs I n n).length c1, .int .i64 1125899906842624, .bool false] 33 (0, 0))) := boxed (sets_heap _ _ _ 0 _ _ HE)
  have HO1 : Box ((w1.setCells w.heap.size 0 [.slice a1 (lgs I n n).length c1, .int .i64 1125899906842624, .bool false]).ownsRow w.heap.size 3 1 (.slice a1 (lgs I n n).length c1) (nbk I n) (ncs (lgs I n n))) := boxed (by
    simp only [World.setCells]
    have h1 : w.heap.size < w0.heap.size := by omega
    have := ownsRow_setCell_below (ownsRow_setCell_below (ownsRow_setCell_below ho (a := ⟨w.heap.size, 0, none⟩) h1 (.slice a1 (lgs I n n).length c1)) (a := ⟨w.heap.size, 0 + 1, none⟩) h1 (.int .i64 1125899906842624)) (a := ⟨w.heap.size, 0 + 1 + 1, none⟩) h1 (.bool false)
    exact own_mono9 this (by omega))
  simp only [World.setCells, Nat.zero_add, Nat.reduceAdd] at HF1 HR1 HO1
  clear ho hb1 HE HF hp
  generalize (lgs I n n).length = ln at *
  go_wp2_with fail
  refine bodyPost_ret (v := .agg #[.slice a1 ln c1, .int .i64 1125899906842624, .bool false]) ?_ ?_ ?_
  · exact results_cell_row Tryz.results36 _ _ w.heap.size 33 #[.slice a1 ln c1, .int .i64 1125899906842624, .bool false] (0, 0) _ rfl HR1.out Tryz.underlying33 rfl (by kernel_rfl)
  · rfl
  · exact ⟨_, rfl, HO1.out, HF1.out⟩
/-- The tolerance is asked of lines alone. -/
theorem pt_t (I : Nat → Itm) (n : Nat) (width : Int) (s : Stg) (T : Int) : PT I n width { s with t := T } T = PT I n width s T := rfl
/-- By the emergency's rule. -/
def Emg (I : Nat → Itm) (n : Nat) (width : Int) (s : Stg) (c : Int) (l : List Nat) : Prop := Best (PT I n width s 10000) 0 (-1) c l ∨ (Noway (PT I n width s 10000) 0 (-1) ∧ c = Awf ∧ l = List.range (nbk I n))
set_option maxRecDepth 100000 in
set_option maxHeartbeats 4000000 in
theorem emergency_any (h : ParaAt S w pb n I) (hn : n ≤ 262144) (hok : ∀ i, i < n → okI I i = true) (h0 : 0 < n) (hf : forc (I (n - 1)) = true) (hw : 1 ≤ width ∧ width ≤ 1073741824) (hs : okS s = true) :
    Calls Tryz.prog 18 #[.pointer (some ⟨pb, 0, none⟩), .int .i64 width, s.val] w fun e' w' => ∃ v c l, e' = .returned (.agg #[v, .int .i64 c, .bool true]) ∧ Emg I n width s c l ∧ l ≠ [] ∧ w'.ownsRow w.heap.size 3 1 v l.length (ncs (l.map (bkn I n))) ∧ Below w.heap.size w w' := by
  have hs2 : okS { s with t := 10000 } = true := by rw [okS_iff] at hs ⊢; simp only; omega
  have hm1 := (bk_last I n h0 hf).1
  have HCW := boxed (fun W (hb : Below w.heap.size w W) => cheapestWay_any (s := { s with t := 10000 }) (h.below hb) hn hok h0 hf hw hs2)
  have HSH := boxed (fun W (hb : Below w.heap.size w W) => shortest_any (h.below hb) hn hm1)
  unfold Stg.val at *
  simp only at HCW
  clear h
  obtain ⟨q0, q1, q2, q3⟩ := laid2 w (.cells #[.int .i64 10000, .int .i64 s.l, .int .i64 s.a, .int .i64 s.d, .int .i64 s.z, .int .i64 s.o, .int .i64 s.i] 24) (.cells #[.slice none 0 0, .int .i64 0, .bool false] 33)
  have hcw := HCW.out _ q2
  have HQ1 := boxed q1
  have HQ2 := boxed q2
  have HQ3 := boxed q3
  clear q0 q1 q2 q3 HCW
  go_enter Tryz.func18, Tryz.ntmps18
  go_wp2_with fail
  refine hcw.mono ?_
  rintro e' w2 ⟨hb2, hres⟩
  rw [HQ3.out] at hb2
  have hB2 : Below w.heap.size w w2 := HQ2.out.trans (hb2.mono (by omega))
  have hR2 : w2.heap[w.heap.size + 1]? = some (.cells #[.slice none 0 0, .int .i64 0, .bool false] 33 (0, 0)) := (hb2.block _ (by omega)).trans HQ1.out
  have hz2 := heap_lt hR2
  obtain ⟨⟨x0, x1, x2⟩, y0, y1, y2⟩ := cells3 hR2
  have hz3 : w.heap.size + 1 ≠ w2.heap.size := by omega
  rcases hres with ⟨c, l, v, hbe, hne, rfl, ho⟩ | ⟨hno, rfl⟩
  · obtain ⟨a1, c1, rfl⟩ := own_shape ho
    rw [HQ3.out] at ho
    have HBE : Box (Emg I n width s c l) := boxed (.inl hbe)
    have HNE := boxed hne
    have hF0 := hB2.trans (sets_below (w.heap.size + 1) w.heap.size (by omega) [.slice a1 l.length c1, .int .i64 c, .bool true] 0 w2)
    have HF : Box (Below w.heap.size w ((w2.setCells (w.heap.size + 1) 0 [.slice a1 l.length c1, .int .i64 c, .bool true]).alloc (.cells #[.slice a1 l.length c1, .int .i64 c, .bool true] 33))) := boxed (hF0.alloc hF0.size _)
    have HR : Box (((w2.setCells (w.heap.size + 1) 0 [.slice a1 l.length c1, .int .i64 c, .bool true]).alloc (.cells #[.slice a1 l.length c1, .int .i64 c, .bool true] 33)).heap[w.heap.size + 1]? = some (.cells #[.slice a1 l.length c1, .int .i64 c, .bool true] 33 (0, 0))) := boxed (by
      rw [Below.heap_alloc _ _ _ (by rw [sets_size]; exact hz2)]
      exact sets_heap _ _ _ 0 _ _ hR2)
    have HO : Box (((w2.setCells (w.heap.size + 1) 0 [.slice a1 l.length c1, .int .i64 c, .bool true]).alloc (.cells #[.slice a1 l.length c1, .int .i64 c, .bool true] 33)).ownsRow w.heap.size 3 1 (.slice a1 l.length c1) l.length (ncs (l.map (bkn I n)))) := boxed (by
      have h1 : w.heap.size + 1 < w.heap.size + 2 := by omega
      have h2 := ownsRow_setCell_below (ownsRow_setCell_below (ownsRow_setCell_below ho (a := ⟨w.heap.size + 1, 0, none⟩) h1 (.slice a1 l.length c1)) (a := ⟨w.heap.size + 1, 0 + 1, none⟩) h1 (.int .i64 c)) (a := ⟨w.heap.size + 1, 0 + 1 + 1, none⟩) h1 (.bool true)
      have h3 := owns_below (w' := (w2.setCells (w.heap.size + 1) 0 [.slice a1 l.length c1, .int .i64 c, .bool true]).alloc (.cells #[.slice a1 l.length c1, .int .i64 c, .bool true] 33)) h2 ((Below.refl _ _).alloc (Nat.le_refl _) _)
      exact own_mono9 h3 (by omega))
    simp only [World.setCells, Nat.zero_add, Nat.reduceAdd] at HF HR HO
    clear hbe hne ho hF0 hR2 hB2 hb2 HSH hcw
    generalize hln : l.length = ln at *
    replace hln := boxed hln
    go_wp2_with fail
    refine bodyPost_ret (v := .agg #[.slice a1 ln c1, .int .i64 c, .bool true]) ?_ ?_ ?_
    · exact results_cell_row Tryz.results18 _ _ (w.heap.size + 1) 33 #[.slice a1 ln c1, .int .i64 c, .bool true] (0, 0) _ rfl HR.out Tryz.underlying33 rfl (by kernel_rfl)
    · rfl
    · exact ⟨_, c, l, rfl, HBE.out, HNE.out, by rw [hln.out]; exact HO.out, HF.out⟩
  · have HSW := boxed (fun o => HSH.out (w2.alloc o) (hB2.alloc hB2.size o))
    have HNO := boxed hno
    have HB2 := boxed hB2
    have HR2 := boxed hR2
    clear hno hB2 hR2 hb2 HSH hcw x0 x1 x2 y0 y1 y2
    go_wp2_with fail
    refine (HSW.out _).mono ?_
    rintro e' w4 ⟨v, rfl, ho, hb4⟩
    have hz4 : (w2.alloc (.cells #[.slice none 0 0, .int .i64 0, .bool false] 33)).heap.size = w2.heap.size + 1 := by simp
    rw [hz4] at ho hb4
    obtain ⟨a1, c1, rfl⟩ := own_shape ho
    have hE4 : w4.heap[w2.heap.size]? = some (.cells #[.slice none 0 0, .int .i64 0, .bool false] 33 (0, 0)) := by rw [hb4.block _ (by omega)]; exact heap_alloc_new w2 _
    have hR4 : w4.heap[w.heap.size + 1]? = some (.cells #[.slice none 0 0, .int .i64 0, .bool false] 33 (0, 0)) := by rw [hb4.block _ (by omega), Below.heap_alloc _ _ _ hz2]; exact HR2.out
    have hB4 : Below w.heap.size w w4 := (HB2.out.alloc HB2.out.size _).trans (hb4.mono (by have := HB2.out.size; omega))
    obtain ⟨⟨x0, x1, x2⟩, y0, y1, y2⟩ := cells3 hE4
    obtain ⟨⟨p0, p1, p2⟩, r0, r1, r2⟩ := cells3 hR4
    have hS5 := sets_below w2.heap.size w.heap.size (by have := HB2.out.size; omega) [.slice a1 (nbk I n) c1, .int .i64 1125899906842624, .bool false] 0 w4
    have hE5 := arr_set (k := 2) (.bool true) (sets_heap w2.heap.size 33 [.slice a1 (nbk I n) c1, .int .i64 1125899906842624, .bool false] 0 w4 _ hE4)
    have hE6 := (cells3 (v0 := .slice a1 (nbk I n) c1) (v1 := .int .i64 1125899906842624) (v2 := .bool true) hE5).1.2.2
    simp only [World.setCells, Nat.zero_add, Nat.reduceAdd] at hE6
    clear hE5
    obtain ⟨W7, hW7⟩ : ∃ W7, W7 = (((w4.setCells w2.heap.size 0 [.slice a1 (nbk I n) c1, .int .i64 1125899906842624, .bool false]).setCell ⟨w2.heap.size, 2, none⟩ (.bool true)).setCells (w.heap.size + 1) 0 [.slice a1 (nbk I n) c1, .int .i64 1125899906842624, .bool true]) := ⟨_, rfl⟩
    have HF : Box (Below w.heap.size w W7) := boxed (by rw [hW7]; exact ((hB4.trans hS5).setCell (by simp only; have := HB2.out.size; omega) _).trans (sets_below _ _ (by omega) _ _ _))
    have HR : Box (W7.heap[w.heap.size + 1]? = some (.cells #[.slice a1 (nbk I n) c1, .int .i64 1125899906842624, .bool true] 33 (0, 0))) := boxed (by
      rw [hW7]
      refine sets_heap _ _ _ 0 _ #[.slice none 0 0, .int .i64 0, .bool false] ?_
      rw [Below.heap_setCell _ ⟨w2.heap.size, 2, none⟩ _ _ (by simpa using hz3), sets_other _ _ (by omega)]
      exact hR4)
    have HO : Box (W7.ownsRow w.heap.size 3 1 (.slice a1 (nbk I n) c1) (nbk I n) (ncs (lgs I n n))) := boxed (by
      have g1 : w2.heap.size < w2.heap.size + 1 := by omega
      have g2 : w.heap.size + 1 < w2.heap.size + 1 := by omega
      have q1 := ownsRow_setCell_below (ownsRow_setCell_below (ownsRow_setCell_below ho (a := ⟨w2.heap.size, 0, none⟩) g1 (.slice a1 (nbk I n) c1)) (a := ⟨w2.heap.size, 0 + 1, none⟩) g1 (.int .i64 1125899906842624)) (a := ⟨w2.heap.size, 0 + 1 + 1, none⟩) g1 (.bool false)
      have q2 := ownsRow_setCell_below q1 (a := ⟨w2.heap.size, 2, none⟩) g1 (.bool true)
      have q3 := ownsRow_setCell_below (ownsRow_setCell_below (ownsRow_setCell_below q2 (a := ⟨w.heap.size + 1, 0, none⟩) g2 (.slice a1 (nbk I n) c1)) (a := ⟨w.heap.size + 1, 0 + 1, none⟩) g2 (.int .i64 1125899906842624)) (a := ⟨w.heap.size + 1, 0 + 1 + 1, none⟩) g2 (.bool true)
      rw [hW7]
      exact own_mono9 q3 (by have := HB2.out.size; omega))
    simp only [World.setCells, Nat.zero_add, Nat.reduceAdd] at hW7
    subst hW7
    clear hE4 hR4 hB4 hS5 ho hb4 hz4 HSW
    unfold Awf
    go_wp2_with fail
    refine bodyPost_ret (v := .agg #[.slice a1 (nbk I n) c1, .int .i64 1125899906842624, .bool true]) ?_ ?_ ?_
    · exact results_cell_row Tryz.results18 _ _ (w.heap.size + 1) 33 #[.slice a1 (nbk I n) c1, .int .i64 1125899906842624, .bool true] (0, 0) _ rfl HR.out Tryz.underlying33 rfl (by kernel_rfl)
    · rfl
    · refine ⟨_, Awf, List.range (nbk I n), rfl, .inr ⟨HNO.out, rfl, rfl⟩, ?_, ?_, HF.out⟩
      · intro e; have := congrArg List.length e; simp at this; omega
      · rw [all_bk, List.length_range]; exact HO.out
/-- The breaking. -/
def Brk (I : Nat → Itm) (n : Nat) (width : Int) (s : Stg) (c : Int) (l : List Nat) (em : Bool) : Prop := (em = false ∧ Best (PT I n width s s.t) 0 (-1) c l) ∨ (em = true ∧ Noway (PT I n width s s.t) 0 (-1) ∧ Emg I n width s c l)
set_option maxRecDepth 100000 in
set_option maxHeartbeats 4000000 in
theorem break_bad (hv : chkV width s ≠ 0) : Calls Tryz.prog 7 #[.pointer (some ⟨pb, 0, none⟩), .int .i64 width, s.val] w fun e' w' => e' = .returned (.tuple #[.agg #[.slice none 0 0, .int .i64 0, .bool false], .int .i64 (chkV width s)]) ∧ Below w.heap.size w w' := by
  have hc := fun W => bcheck_any width s W
  have HQ := laid2 w (.cells #[.int .i64 s.t, .int .i64 s.l, .int .i64 s.a, .int .i64 s.d, .int .i64 s.z, .int .i64 s.o, .int .i64 s.i] 24) (.cells #[.slice none 0 0, .int .i64 0, .bool false] 33)
  unfold Stg.val at *
  generalize chkV width s = V at *
  have d1 : (V == 0) = false := by simp [hv]
  replace HQ := boxed HQ
  go_enter Tryz.func7, Tryz.ntmps7
  go_wp2_with fail
  refine (hc _).mono ?_
  rintro e' w1 ⟨rfl, hb⟩
  rw [HQ.out.2.2.2] at hb
  have hR := (hb.block (w.heap.size + 1) (by omega)).trans HQ.out.2.1
  have hB : Below w.heap.size w w1 := HQ.out.2.2.1.trans (hb.mono (by omega))
  obtain ⟨⟨x0, x1, x2⟩, y0, y1, y2⟩ := cells3 hR
  have HF : Box (Below w.heap.size w (w1.setCells (w.heap.size + 1) 0 [.slice none 0 0, .int .i64 0, .bool false])) := boxed (hB.trans (sets_below _ _ (by omega) _ _ _))
  have HR : Box ((w1.setCells (w.heap.size + 1) 0 [.slice none 0 0, .int .i64 0, .bool false]).heap[w.heap.size + 1]? = some (.cells #[.slice none 0 0, .int .i64 0, .bool false] 33 (0, 0))) := boxed (sets_heap _ _ _ 0 _ _ hR)
  simp only [World.setCells, Nat.zero_add, Nat.reduceAdd] at HF HR
  clear hb hR hB hc hv
  go_wp2_with fail
  refine bodyPost_ret (v := .tuple #[.agg #[.slice none 0 0, .int .i64 0, .bool false], .int .i64 V]) ?_ ?_ ?_
  · exact results_row_tmp Tryz.results7 _ _ (w.heap.size + 1) 33 #[.slice none 0 0, .int .i64 0, .bool false] (0, 0) _ rfl HR.out Tryz.underlying33 rfl (by kernel_rfl)
  · rfl
  · exact ⟨rfl, HF.out⟩
set_option maxRecDepth 100000 in
set_option maxHeartbeats 4000000 in
theorem break_any (h : ParaAt S w pb n I) (hn : n ≤ 262144) (hok : ∀ i, i < n → okI I i = true) (h0 : 0 < n) (hf : forc (I (n - 1)) = true) (hw : 1 ≤ width ∧ width ≤ 1073741824) (hs : okS s = true) :
    Calls Tryz.prog 7 #[.pointer (some ⟨pb, 0, none⟩), .int .i64 width, s.val] w fun e' w' => ∃ v c l em, e' = .returned (.tuple #[.agg #[v, .int .i64 c, .bool em], .int .i64 0]) ∧ Brk I n width s c l em ∧ l ≠ [] ∧ w'.ownsRow w.heap.size 3 1 v l.length (ncs (l.map (bkn I n))) ∧ Below w.heap.size w w' := by
  have hc := fun W => bcheck_any width s W
  have hv : chkV width s = 0 := by unfold chkV; rw [if_pos (by simp [okW]; omega), if_pos hs]
  rw [hv] at hc
  have hm1 := (bk_last I n h0 hf).1
  have hm : nbk I n ≤ 262144 := by unfold nbk; have := lgs_len I n n; omega
  have HE : Box (∀ W, Below w.heap.size w W → Calls Tryz.prog 16 #[.pointer (some ⟨pb, 0, none⟩)] W fun e w' => e = .returned (.int .i64 (nbk I n : Int)) ∧ w' = W) := boxed (fun W hb => ends_any (h.below hb) hn)
  have HCW := boxed (fun W (hb : Below w.heap.size w W) => cheapestWay_any (s := s) (h.below hb) hn hok h0 hf hw hs)
  have HEM := boxed (fun W (hb : Below w.heap.size w W) => emergency_any (s := s) (h.below hb) hn hok h0 hf hw hs)
  have HQ := laid2 w (.cells #[.int .i64 s.t, .int .i64 s.l, .int .i64 s.a, .int .i64 s.d, .int .i64 s.z, .int .i64 s.o, .int .i64 s.i] 24) (.cells #[.slice none 0 0, .int .i64 0, .bool false] 33)
  unfold Stg.val at *
  have d0 : ((nbk I n : Int) == 0) = false := by rw [beq_eq_false_iff_ne]; omega
  replace HQ := boxed HQ
  clear h hv
  go_enter Tryz.func7, Tryz.ntmps7
  go_wp2_with fail
  refine (hc _).mono ?_
  rintro e' w1 ⟨rfl, hb⟩
  rw [HQ.out.2.2.2] at hb
  have hR := (hb.block (w.heap.size + 1) (by omega)).trans HQ.out.2.1
  have hS1 := (hb.block (w.heap.size) (by omega)).trans HQ.out.1
  have hB : Below w.heap.size w w1 := HQ.out.2.2.1.trans (hb.mono (by omega))
  obtain ⟨⟨s0, s1, s2, s3, s4, s5, s6⟩, -⟩ := cells7 hS1
  have hcw := HCW.out _ hB
  have hen := HE.out _ hB
  have HR1 := boxed hR
  have HS1 := boxed hS1
  have HB1 := boxed hB
  have hz1 := heap_lt hR
  clear hb hR hS1 hB hc HCW HE
  go_wp2_with (go_at_call 16; refine hen.mono ?_; rintro e' w' ⟨rfl, hw'⟩; subst w')
  refine hcw.mono ?_
  rintro e' w2 ⟨hb2, hres⟩
  have hB2 : Below w.heap.size w w2 := HB1.out.trans (hb2.mono HB1.out.size)
  have hR2 : w2.heap[w.heap.size + 1]? = some (.cells #[.slice none 0 0, .int .i64 0, .bool false] 33 (0, 0)) := (hb2.block _ hz1).trans HR1.out
  have hz2 := heap_lt hR2
  obtain ⟨⟨x0, x1, x2⟩, y0, y1, y2⟩ := cells3 hR2
  have hz3 : w.heap.size + 1 ≠ w2.heap.size := by omega
  rcases hres with ⟨c, l, v, hbe, hne, rfl, ho⟩ | ⟨hno, rfl⟩
  · obtain ⟨a1, c1, rfl⟩ := own_shape ho
    have HBE : Box (Brk I n width s c l false) := boxed (.inl ⟨rfl, hbe⟩)
    have HNE := boxed hne
    have hF0 := hB2.trans (sets_below (w.heap.size + 1) w.heap.size (by omega) [.slice a1 l.length c1, .int .i64 c, .bool false] 0 w2)
    obtain ⟨W7, hW7⟩ : ∃ W7, W7 = ((w2.setCells (w.heap.size + 1) 0 [.slice a1 l.length c1, .int .i64 c, .bool false]).alloc (.cells #[.slice a1 l.length c1, .int .i64 c, .bool false] 33)) := ⟨_, rfl⟩
    have HF : Box (Below w.heap.size w W7) := boxed (by rw [hW7]; exact hF0.alloc hF0.size _)
    have HR : Box (W7.heap[w.heap.size + 1]? = some (.cells #[.slice a1 l.length c1, .int .i64 c, .bool false] 33 (0, 0))) := boxed (by
      rw [hW7, Below.heap_alloc _ _ _ (by rw [sets_size]; exact hz2)]
      exact sets_heap _ _ _ 0 _ _ hR2)
    have HO : Box (W7.ownsRow w.heap.size 3 1 (.slice a1 l.length c1) l.length (ncs (l.map (bkn I n)))) := boxed (by
      have h1 : w.heap.size + 1 < w1.heap.size := hz1
      have h2 := ownsRow_setCell_below (ownsRow_setCell_below (ownsRow_setCell_below ho (a := ⟨w.heap.size + 1, 0, none⟩) h1 (.slice a1 l.length c1)) (a := ⟨w.heap.size + 1, 0 + 1, none⟩) h1 (.int .i64 c)) (a := ⟨w.heap.size + 1, 0 + 1 + 1, none⟩) h1 (.bool false)
      have h3 := owns_below (w' := W7) h2 (by rw [hW7]; exact (Below.refl _ _).alloc (Nat.le_refl _) _)
      exact own_mono9 h3 (by omega))
    simp only [World.setCells, Nat.zero_add, Nat.reduceAdd] at hW7
    subst hW7
    clear hbe hne ho hF0 hR2 hB2 hb2 hcw HEM
    generalize hln : l.length = ln at *
    replace hln := boxed hln
    go_wp2_with fail
    refine bodyPost_ret (v := .tuple #[.agg #[.slice a1 ln c1, .int .i64 c, .bool false], .int .i64 0]) ?_ ?_ ?_
    · exact results_row_tmp Tryz.results7 _ _ (w.heap.size + 1) 33 #[.slice a1 ln c1, .int .i64 c, .bool false] (0, 0) _ rfl HR.out Tryz.underlying33 rfl (by kernel_rfl)
    · rfl
    · exact ⟨_, c, l, false, rfl, HBE.out, HNE.out, by rw [hln.out]; exact HO.out, HF.out⟩
  · have HSW := boxed (fun o => HEM.out (w2.alloc o) (hB2.alloc hB2.size o))
    have HNO := boxed hno
    have HB2 := boxed hB2
    have HR2 := boxed hR2
    have hS2 := (hb2.block w.heap.size (by omega)).trans HS1.out
    have hz5 : w.heap.size ≠ w2.heap.size := by omega
    have hS3 : (w2.alloc (.cells #[.slice none 0 0, .int .i64 0, .bool false] 33)).heap[w.heap.size]? = some (.cells #[.int .i64 s.t, .int .i64 s.l, .int .i64 s.a, .int .i64 s.d, .int .i64 s.z, .int .i64 s.o, .int .i64 s.i] 24 (0, 0)) := by
      rw [Below.heap_alloc _ _ _ (by omega)]; exact hS2
    obtain ⟨⟨k0, k1, k2, k3, k4, k5, k6⟩, -⟩ := cells7 hS3
    clear hno hB2 hR2 hb2 hcw x0 x1 x2 y0 y1 y2 HEM hS2 hS3 s0 s1 s2 s3 s4 s5 s6
    go_wp2_with fail
    refine (HSW.out _).mono ?_
    rintro e' w4 ⟨v, c, l, rfl, hem, hne, ho, hb4⟩
    have hz4 : (w2.alloc (.cells #[.slice none 0 0, .int .i64 0, .bool false] 33)).heap.size = w2.heap.size + 1 := by simp
    rw [hz4] at ho hb4
    obtain ⟨a1, c1, rfl⟩ := own_shape ho
    have hR4 : w4.heap[w.heap.size + 1]? = some (.cells #[.slice none 0 0, .int .i64 0, .bool false] 33 (0, 0)) := by rw [hb4.block _ (by omega), Below.heap_alloc _ _ _ hz2]; exact HR2.out
    have hB4 : Below w.heap.size w w4 := (HB2.out.alloc HB2.out.size _).trans (hb4.mono (by have := HB2.out.size; omega))
    have HBE : Box (Brk I n width s c l true) := boxed (.inr ⟨rfl, HNO.out, hem⟩)
    have HNE := boxed hne
    obtain ⟨⟨p0, p1, p2⟩, r0, r1, r2⟩ := cells3 hR4
    obtain ⟨W7, hW7⟩ : ∃ W7, W7 = (w4.setCells (w.heap.size + 1) 0 [.slice a1 l.length c1, .int .i64 c, .bool true]) := ⟨_, rfl⟩
    have HF : Box (Below w.heap.size w W7) := boxed (by rw [hW7]; exact hB4.trans (sets_below _ _ (by omega) _ _ _))
    have HR : Box (W7.heap[w.heap.size + 1]? = some (.cells #[.slice a1 l.length c1, .int .i64 c, .bool true] 33 (0, 0))) := boxed (by
      rw [hW7]
      exact sets_heap _ _ _ 0 _ _ hR4)
    have HO : Box (W7.ownsRow w.heap.size 3 1 (.slice a1 l.length c1) l.length (ncs (l.map (bkn I n)))) := boxed (by
      have g2 : w.heap.size + 1 < w2.heap.size + 1 := by omega
      have q3 := ownsRow_setCell_below (ownsRow_setCell_below (ownsRow_setCell_below ho (a := ⟨w.heap.size + 1, 0, none⟩) g2 (.slice a1 l.length c1)) (a := ⟨w.heap.size + 1, 0 + 1, none⟩) g2 (.int .i64 c)) (a := ⟨w.heap.size + 1, 0 + 1 + 1, none⟩) g2 (.bool true)
      rw [hW7]
      exact own_mono9 q3 (by have := HB2.out.size; omega))
    simp only [World.setCells, Nat.zero_add, Nat.reduceAdd] at hW7
    subst hW7
    clear hR4 hB4 ho hb4 hz4 HSW hem hne
    generalize hln : l.length = ln at *
    replace hln := boxed hln
    go_wp2_with fail
    refine bodyPost_ret (v := .tuple #[.agg #[.slice a1 ln c1, .int .i64 c, .bool true], .int .i64 0]) ?_ ?_ ?_
    · exact results_row_tmp Tryz.results7 _ _ (w.heap.size + 1) 33 #[.slice a1 ln c1, .int .i64 c, .bool true] (0, 0) _ rfl HR.out Tryz.underlying33 rfl (by kernel_rfl)
    · rfl
    · exact ⟨_, c, l, true, rfl, HBE.out, HNE.out, by rw [hln.out]; exact HO.out, HF.out⟩
end
end Go.Proofs.YtkmeeblkckfepabGreat
