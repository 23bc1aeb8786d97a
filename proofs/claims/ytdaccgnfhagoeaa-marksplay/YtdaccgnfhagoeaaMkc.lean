/-
  What the program's New, Size, Count, isOutside, find and Get answer.
-/
import Derived.Test.YtdaccgnfhagoeaaMkb
namespace Go.Proofs.Ytdaccgnfhagoeaa
open Go.RowKit
set_option linter.unusedSimpArgs false
set_option linter.unusedVariables false

/-- The set's cells. -/
theorem PS.cells {B : Nat} {w : World} {sb : Nat} {v : Value} {s : St} (h : PS B w sb v s) : (w.cell? ⟨sb, 0, none⟩ = some (.int .i64 s.sz) ∧ w.cell? ⟨sb, 1, none⟩ = some (.int .i64 s.nx) ∧ w.cell? ⟨sb, 2, none⟩ = some v) ∧ w.frozen? ⟨sb, 0, none⟩ = false ∧ w.frozen? ⟨sb, 1, none⟩ = false ∧ w.frozen? ⟨sb, 2, none⟩ = false := by
  have hb := h.blk
  refine ⟨⟨?_, ?_, ?_⟩, row_free hb 0, row_free hb 1, row_free hb 2⟩
  · simp [World.cell?, hb]
  · simp [World.cell?, hb]
  · simp [World.cell?, hb]
theorem PS.lt {B : Nat} {w : World} {sb : Nat} {v : Value} {s : St} (h : PS B w sb v s) : sb < w.heap.size := heap_lt h.blk

theorem new16_bad (n : Int) (w : World) (c : n < 0 ∨ 65536 < n) : Calls Try.prog 10 #[.int .i64 n] w fun e w' => e = .returned (.tuple #[.pointer none, .int .i64 1]) ∧ w' = w := by
  by_cases c1 : n < 0
  · have t1 : decide (n < 0) = true := decide_eq_true c1
    clear c
    go_enter Try.func10, Try.ntmps10
    go_wp2_with fail
    go_ret2
    exact ⟨rfl, rfl⟩
  · have t1 : decide (n < 0) = false := decide_eq_false c1
    have c2 : 65536 < n := by omega
    have t2 : decide (65536 < n) = true := decide_eq_true c2
    clear c
    go_enter Try.func10, Try.ntmps10
    go_wp2_with fail
    go_ret2
    exact ⟨rfl, rfl⟩
theorem new16_ok (n : Int) (w : World) (c : ¬ (n < 0 ∨ 65536 < n)) : Calls Try.prog 10 #[.int .i64 n] w fun e w' => e = .returned (.tuple #[.pointer (some ⟨w.heap.size, 0, none⟩), .int .i64 0]) ∧ ∀ B, B ≤ w.heap.size → PS B w' w.heap.size (.slice none 0 0) ⟨n, 0, []⟩ ∧ Below w.heap.size w w' := by
  have t1 : decide (n < 0) = false := decide_eq_false (by omega)
  have t2 : decide (65536 < n) = false := decide_eq_false (by omega)
  have h1 : 0 ≤ n := by omega
  have h2 : n ≤ 65536 := by omega
  clear c
  have l1 := laid1 w (.cells #[.int .i64 n, .int .i64 0, .slice none 0 0] 61)
  have HF : Box (∀ B, B ≤ w.heap.size → PS B (w.alloc (.cells #[.int .i64 n, .int .i64 0, .slice none 0 0] 61)) w.heap.size (.slice none 0 0) ⟨n, 0, []⟩ ∧ Below w.heap.size w (w.alloc (.cells #[.int .i64 n, .int .i64 0, .slice none 0 0] 61))) := boxed (fun B hB => ⟨⟨hB, l1.1, rfl, .inl ⟨rfl, rfl⟩⟩, l1.2.1⟩)
  clear l1
  go_enter Try.func10, Try.ntmps10
  go_wp2_with fail
  go_ret2
  exact ⟨rfl, HF.out⟩

section
variable {B : Nat} {w : World} {sb : Nat} {v : Value} {s : St}

theorem size16_any (h : PS B w sb v s) : Calls Try.prog 12 #[.pointer (some ⟨sb, 0, none⟩)] w fun e w' => e = .returned (.int .i64 s.sz) ∧ w' = w := by
  obtain ⟨⟨c0, c1, c2⟩, -⟩ := h.cells
  clear h
  go_enter Try.func12, Try.ntmps12
  go_wp2_with fail
  go_ret
  exact ⟨rfl, rfl⟩
theorem count16_any (h : PS B w sb v s) : Calls Try.prog 13 #[.pointer (some ⟨sb, 0, none⟩)] w fun e w' => e = .returned (.int .i64 (s.L.length : Nat)) ∧ w' = w := by
  obtain ⟨⟨c0, c1, c2⟩, -⟩ := h.cells
  obtain ⟨ao, cap, rfl⟩ := own_shape h.own
  clear h
  go_enter Try.func13, Try.ntmps13
  go_wp2_with fail
  go_ret
  exact ⟨rfl, rfl⟩
theorem outside16_any (h : PS B w sb v s) (a : Int) : Calls Try.prog 34 #[.pointer (some ⟨sb, 0, none⟩), .int .i64 a] w fun e w' => e = .returned (.bool (decide (a < 0 ∨ s.sz < a))) ∧ w' = w := by
  obtain ⟨⟨c0, c1, c2⟩, -⟩ := h.cells
  clear h
  by_cases h1 : a < 0
  · have t1 : decide (a < 0) = true := decide_eq_true h1
    have t3 : decide (a < 0 ∨ s.sz < a) = true := decide_eq_true (.inl h1)
    rw [t3]
    clear h1 t3
    go_enter Try.func34, Try.ntmps34
    go_wp2_with fail
    go_ret
    exact ⟨rfl, rfl⟩
  · have t1 : decide (a < 0) = false := decide_eq_false h1
    have t3 : decide (a < 0 ∨ s.sz < a) = decide (s.sz < a) := by by_cases c : s.sz < a <;> simp [c, h1]
    rw [t3]
    clear h1 t3
    go_enter Try.func34, Try.ntmps34
    go_wp2_with fail
    go_ret
    exact ⟨rfl, rfl⟩
end
def idN (L : List Mk) (k : Nat) : Int := (L.getD k default).id
theorem idN_eq (L : List Mk) (k : Nat) (h : k < L.length) : idN L k = (L[k]'h).id := by unfold idN; rw [getD_at h]
theorem ids_rise {L : List Mk} (h : L.Pairwise (fun x y => x.id < y.id)) : ∀ j k, j ≤ k → k < L.length → idN L j ≤ idN L k := by
  intro j k hj hk
  rw [idN_eq L j (by omega), idN_eq L k hk]
  by_cases c : j = k
  · subst c; exact Int.le_refl _
  · have := List.pairwise_iff_getElem.1 h j k (by omega) hk (by omega); omega
section
variable {B : Nat} {w : World} {sb : Nat} {v : Value} {s : St}
set_option maxRecDepth 100000 in
theorem find1_any (h : PS B w sb v s) (d : Int) (bS bR k : Nat) (hk : k < s.L.length) (cS : w.cell? ⟨bS, 0, none⟩ = some (.pointer (some ⟨sb, 0, none⟩))) (cR : w.cell? ⟨bR, 0, none⟩ = some (.int .i64 d)) :
    Calls Try.prog 40 #[.int .i64 (k : Int), .pointer (some ⟨bS, 0, none⟩), .pointer (some ⟨bR, 0, none⟩)] w fun e w' => e = .returned (.bool (decide (d ≤ idN s.L k))) ∧ Below w.heap.size w w' := by
  obtain ⟨⟨-, -, c2⟩, -⟩ := h.cells
  obtain ⟨g, cap, rfl, hcap, d0, -⟩ := own_mk h.own k hk
  rw [← idN_eq] at d0
  clear h
  generalize idN s.L k = H at *
  generalize s.L.length = n at *
  have hk2 : (k : Int) < (n : Int) := by omega
  go_enter Try.func40, Try.ntmps40
  go_wp2
  go_quiet (fail)
  go_wp2
  go_ret
  exact ⟨rfl, bel_drewN _ _ _⟩
set_option maxRecDepth 100000 in
set_option maxHeartbeats 1000000 in
theorem search16_any (h : PS B w sb v s) (hr : s.L.Pairwise (fun x y => x.id < y.id)) (hn : s.L.length ≤ 1000000) (d : Int) (bS bR : Nat) (cS : w.cell? ⟨bS, 0, none⟩ = some (.pointer (some ⟨sb, 0, none⟩))) (cR : w.cell? ⟨bR, 0, none⟩ = some (.int .i64 d)) :
    Calls Try.prog 39 #[.int .i64 (s.L.length : Int), .func (.func 40) #[] #[.pointer (some ⟨bS, 0, none⟩), .pointer (some ⟨bR, 0, none⟩)]] w fun e w' => (∃ q : Nat, e = .returned (.int .i64 (q : Int)) ∧ q ≤ s.L.length ∧ (∀ j, j < q → idN s.L j < d) ∧ ∀ j, q ≤ j → j < s.L.length → d ≤ idN s.L j) ∧ Below w.heap.size w w' := by
  have HR := boxed h
  have HI := boxed (ids_rise hr)
  have CS := boxed cS
  have CR := boxed cR
  clear h hr cS cR
  obtain ⟨n, hN⟩ : ∃ n, s.L.length = n := ⟨_, rfl⟩
  have HN := boxed hN
  rw [hN] at hn HI ⊢
  clear hN
  go_enter Try.func39, Try.ntmps39
  go_wp2_with fail
  go_loopw [5, 6] (fun a b wr => ∃ i j : Nat, i ≤ j ∧ j ≤ n ∧ a = .int .i64 i ∧ b = .int .i64 j ∧ Box ((∀ q, q < i → idN s.L q < d) ∧ ∀ q, j ≤ q → q < n → d ≤ idN s.L q) ∧ Box (Below w.heap.size w wr)) (fun a b _ => (intOf b - intOf a).toNat)
  case atStart => exact ⟨0, n, by omega, by omega, rfl, rfl, boxed ⟨fun q hq => by omega, fun q h1 h2 => by omega⟩, boxed (Below.refl _ _)⟩
  case round =>
    obtain ⟨i, j, h1, h2, rfl, rfl, HP, HB⟩ := hrel
    by_cases hlt : i < j
    · obtain ⟨m, hm⟩ : ∃ m : Nat, (i + j) / 2 = m := ⟨_, rfl⟩
      have em : ((i : Int) + (j : Int)) / 2 = (m : Int) := by omega
      have m1 : i ≤ m := by omega
      have m2 : m < j := by omega
      clear hm
      have HC := boxed (find1_any (HR.out.below HB.out) d bS bR m (by rw [HN.out]; omega) (hold HB.out CS.out) (hold HB.out CR.out))
      go_wp2_with fail
      refine HC.out.mono ?_
      rintro e w1 ⟨rfl, hb1⟩
      have HB2 := boxed (below_step HB.out (Nat.le_refl _) hb1)
      clear hb1 HC
      by_cases hf : d ≤ idN s.L m
      · have tf : decide (d ≤ idN s.L m) = true := decide_eq_true hf
        have HNx : Box ((∀ q, q < i → idN s.L q < d) ∧ ∀ q, m ≤ q → q < n → d ≤ idN s.L q) := boxed ⟨HP.out.1, fun q hq1 hq2 => by
          have := HI.out m q hq1 hq2
          omega⟩
        clear hf
        generalize decide (d ≤ idN s.L m) = D at *
        go_wp2_with fail
        go_roundw
        case rel => exact ⟨i, m, m1, by omega, rfl, rfl, HNx, HB2⟩
        case measure => simp [intOf]; omega
      · have tf : decide (d ≤ idN s.L m) = false := decide_eq_false hf
        have HNx : Box ((∀ q, q < m + 1 → idN s.L q < d) ∧ ∀ q, j ≤ q → q < n → d ≤ idN s.L q) := boxed ⟨fun q hq => by
          have := HI.out q m (by omega) (by omega)
          omega, HP.out.2⟩
        clear hf
        generalize decide (d ≤ idN s.L m) = D at *
        go_wp2_with fail
        go_roundw
        case rel => exact ⟨m + 1, j, by omega, h2, by go_num, rfl, HNx, HB2⟩
        case measure => simp [intOf]; omega
    · have e : i = j := by omega
      subst e
      go_wp2_with fail
      go_ret
      exact ⟨⟨i, rfl, h2, HP.out.1, HP.out.2⟩, HB.out⟩
/-- What find finds. -/
def FndP (L : List Mk) (d : Int) (q : Nat) (f : Bool) : Prop := q ≤ L.length ∧ f = decide (ix L d < L.length) ∧ (f = true → q = ix L d)
theorem fnd_of (L : List Mk) (d : Int) (q : Nat) (h1 : q ≤ L.length) (h2 : ∀ j, j < q → idN L j < d) (h3 : ∀ j, q ≤ j → j < L.length → d ≤ idN L j) (hr : ∀ j k, j < k → k < L.length → idN L j < idN L k) : (q < L.length → idN L q = d → FndP L d q true) ∧ ((q < L.length → idN L q ≠ d) → FndP L d q false) := by
  constructor
  · intro hq e
    have : ix L d = q := ix_uniq L d q (fun j hj hl c => by have := h2 j hj; rw [idN_eq L j hl] at this; omega) (fun hl => by rw [← idN_eq]; exact e) h1
    exact ⟨h1, by rw [this]; exact (decide_eq_true hq).symm, fun _ => this.symm⟩
  · intro hne
    refine ⟨h1, ?_, fun c => by cases c⟩
    symm
    refine decide_eq_false (fun c => ?_)
    have e := ix_get L d c
    rw [← idN_eq] at e
    by_cases c1 : ix L d < q
    · have := h2 _ c1; omega
    · by_cases c2 : ix L d = q
      · exact hne (by omega) (by rw [← c2]; exact e)
      · have := h3 q (Nat.le_refl _) (by omega)
        have := hr q (ix L d) (by omega) c
        omega
theorem ids_rise' {L : List Mk} (h : L.Pairwise (fun x y => x.id < y.id)) : ∀ j k, j < k → k < L.length → idN L j < idN L k := by
  intro j k hj hk
  rw [idN_eq L j (by omega), idN_eq L k hk]
  exact List.pairwise_iff_getElem.1 h j k (by omega) hk hj
set_option maxRecDepth 100000 in
set_option maxHeartbeats 1000000 in
theorem find16_any (h : PS B w sb v s) (hr : s.L.Pairwise (fun x y => x.id < y.id)) (hn : s.L.length ≤ 1000000) (d : Int) :
    Calls Try.prog 24 #[.pointer (some ⟨sb, 0, none⟩), .int .i64 d] w fun e w' => (∃ (q : Nat) (f : Bool), e = .returned (.tuple #[.int .i64 (q : Nat), .bool f]) ∧ FndP s.L d q f) ∧ Below w.heap.size w w' := by
  have l2 := laid2 w (.cells #[.pointer (some ⟨sb, 0, none⟩)] 25) (.cells #[.int .i64 d] 3)
  have hP := h.below l2.2.2.1
  have k1 : ((w.alloc (.cells #[.pointer (some ⟨sb, 0, none⟩)] 25)).alloc (.cells #[.int .i64 d] 3)).cell? ⟨w.heap.size, 0, none⟩ = some (.pointer (some ⟨sb, 0, none⟩)) := by rw [cell_of_row _ _ _ _ _ _ l2.1]; rfl
  have k2 : ((w.alloc (.cells #[.pointer (some ⟨sb, 0, none⟩)] 25)).alloc (.cells #[.int .i64 d] 3)).cell? ⟨w.heap.size + 1, 0, none⟩ = some (.int .i64 d) := by rw [cell_of_row _ _ _ _ _ _ l2.2.1]; rfl
  have hs := search16_any hP hr hn d w.heap.size (w.heap.size + 1) k1 k2
  have HF := boxed (fun q h1 h2 h3 => fnd_of s.L d q h1 h2 h3 (ids_rise' hr))
  have HB := boxed l2.2.2.1
  obtain ⟨⟨-, -, c2⟩, -⟩ := hP.cells
  obtain ⟨ao, cap, rfl⟩ := own_shape hP.own
  have HP := boxed hP
  clear l2 h hr hP
  generalize hW : ((w.alloc (.cells #[.pointer (some ⟨sb, 0, none⟩)] 25)).alloc (.cells #[.int .i64 d] 3)) = W at *
  have HW := boxed hW
  have K1 := boxed k1
  have K2 := boxed k2
  clear hW k1 k2
  go_enter Try.func24, Try.ntmps24
  go_upto_region 1 with (fail)
  rw [HW.out]
  have k1 := K1.out
  go_wp2_with fail
  refine hs.mono ?_
  rintro e w1 ⟨⟨q, rfl, h1, h2, h3⟩, hb⟩
  have HB2 := boxed (below_step HB.out (Nat.le_refl _) hb)
  have HQ := boxed (HF.out q h1 h2 h3)
  have k1' := hold hb k1
  have k2' := hold hb K2.out
  have c2' := hold hb c2
  have hP1 := HP.out.below hb
  clear hs hb h2 h3 c2 k1 HF
  by_cases hq : q < s.L.length
  · obtain ⟨g, cap', e', hcap, d0, -⟩ := own_mk hP1.own q hq
    injection e' with e1 _ e3
    subst e1; subst e3
    rw [← idN_eq] at d0
    have hq2 : (q : Int) < (s.L.length : Int) := by omega
    by_cases he : idN s.L q = d
    · have HR := boxed (HQ.out.1 hq he)
      have t1 : decide (idN s.L q = d) = true := decide_eq_true he
      clear he
      generalize idN s.L q = I at *
      clear HQ hP1 HP K1 K2 HW
      generalize s.L.length = n at *
      go_wp2
      go_quiet (fail)
      go_wp2
      go_ret2
      exact ⟨⟨q, true, by simpa using of_decide_eq_true t1, HR.out⟩, HB2.out.trans (bel_drewN _ _ _)⟩
    · have HR := boxed (HQ.out.2 (fun _ => he))
      have t1 : decide (idN s.L q = d) = false := decide_eq_false he
      clear he
      generalize idN s.L q = I at *
      clear HQ hP1 HP K1 K2 HW
      generalize s.L.length = n at *
      go_wp2
      go_quiet (fail)
      go_wp2
      go_ret2
      exact ⟨⟨q, false, by simpa using of_decide_eq_false t1, HR.out⟩, HB2.out.trans (bel_drewN _ _ _)⟩
  · have HR := boxed (HQ.out.2 (fun c => absurd c hq))
    have hq2 : ¬ (q : Int) < (s.L.length : Int) := by omega
    have t1 : decide ((q : Int) < (s.L.length : Int)) = false := decide_eq_false hq2
    clear HQ hP1 HP K1 K2 HW
    generalize s.L.length = n at *
    go_wp2
    go_quiet (fail)
    go_wp2
    go_ret2
    exact ⟨⟨q, false, rfl, HR.out⟩, HB2.out.trans (bel_drewN _ _ _)⟩
/-- What Get answers. -/
theorem get16_any (h : PS B w sb v s) (hr : s.L.Pairwise (fun x y => x.id < y.id)) (hn : s.L.length ≤ 1000000) (d : Int) :
    Calls Try.prog 14 #[.pointer (some ⟨sb, 0, none⟩), .int .i64 d] w fun e w' => e = .returned (.tuple #[(s.get d).1.val, .int .i64 (s.get d).2]) ∧ Below w.heap.size w w' := by
  have l1 := laid1 w (.cells #[.int .i64 0, .int .i64 0, .bool false] 36)
  have hP := h.below l1.2.1
  have hf := find16_any hP hr hn d
  have HP := boxed hP
  have HL := boxed l1.1
  have HB := boxed l1.2.1
  have hz := l1.2.2
  clear l1 hP
  generalize hW : (w.alloc (.cells #[.int .i64 0, .int .i64 0, .bool false] 36)) = W at *
  have HW := boxed hW
  clear hW h hr
  go_enter Try.func14, Try.ntmps14
  go_upto_region 1 with (fail)
  rw [HW.out]
  go_wp2_with fail
  refine hf.mono ?_
  rintro e w1 ⟨⟨q, f, rfl, h1, h2, h3⟩, hb⟩
  have HB2 := boxed (below_step HB.out (Nat.le_refl _) hb)
  have hP1 := HP.out.below hb
  have hR1 : w1.heap[w.heap.size]? = some (.cells #[.int .i64 0, .int .i64 0, .bool false] 36 (0, 0)) := by rw [hb.block _ (by omega)]; exact HL.out
  clear hb hf HW HL
  cases f
  · have HG : Box (s.get d = (⟨0, 0, false⟩, 160)) := boxed (by unfold St.get; rw [if_neg (of_decide_eq_false h2.symm)])
    obtain ⟨⟨x0, x1, x2⟩, y0, y1, y2⟩ := cells3 hR1
    have HP3 := boxed (put3_heap hR1 (.int .i64 0) (.int .i64 0) (.bool false))
    have HFr := boxed (put3_below HB2.out (Nat.le_refl _) (Nat.le_refl _) (rb := w.heap.size) (.int .i64 0) (.int .i64 0) (.bool false))
    clear h1 h2 h3 hP1 HP hR1
    go_wp2
    refine bodyPost_ret (v := .tuple #[.agg #[.int .i64 0, .int .i64 0, .bool false], .int .i64 160]) ?_ ?_ ?_
    · exact results_row_tmp Try.results14 _ _ w.heap.size 36 _ (0, 0) _ rfl HP3.out Try.underlying36 rfl (by kernel_rfl)
    · rfl
    · exact ⟨by rw [HG.out]; rfl, HFr.out⟩
  · have hq : q = ix s.L d := h3 rfl
    have hlt : ix s.L d < s.L.length := of_decide_eq_true h2.symm
    subst hq
    have HG : Box (s.get d = (s.L[ix s.L d]'hlt, 0)) := boxed (by unfold St.get; rw [if_pos hlt, getD_at hlt])
    obtain ⟨g, cap, rfl, hcap, d0, d1, d2, -⟩ := own_mk hP1.own _ hlt
    obtain ⟨⟨-, -, c2⟩, -⟩ := hP1.cells
    have hl2 : ((ix s.L d : Nat) : Int) < (s.L.length : Int) := by omega
    clear h1 h2 h3 HP hP1
    generalize s.L[ix s.L d]'hlt = m at *
    generalize ix s.L d = q at *
    generalize s.L.length = n at *
    obtain ⟨i, p, b⟩ := m
    simp only at d0 d1 d2
    obtain ⟨⟨x0, x1, x2⟩, y0, y1, y2⟩ := cells3 hR1
    have HP3 := boxed (put3_heap hR1 (.int .i64 i) (.int .i64 p) (.bool b))
    have HFr := boxed (put3_below HB2.out (Nat.le_refl _) (Nat.le_refl _) (rb := w.heap.size) (.int .i64 i) (.int .i64 p) (.bool b))
    clear hR1 hlt
    go_wp2
    refine bodyPost_ret (v := .tuple #[.agg #[.int .i64 i, .int .i64 p, .bool b], .int .i64 0]) ?_ ?_ ?_
    · exact results_row_tmp Try.results14 _ _ w.heap.size 36 _ (0, 0) _ rfl HP3.out Try.underlying36 rfl (by kernel_rfl)
    · rfl
    · exact ⟨by rw [HG.out]; rfl, HFr.out⟩
end
end Go.Proofs.Ytdaccgnfhagoeaa
