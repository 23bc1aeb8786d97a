/-
  What the document's fill answers.
-/
import Derived.Test.YtkmeeblkckfepaaGreatPkDn
import Derived.Laws.MakeOwn
namespace Go.Proofs.YtkmeeblkckfepaaGreat
open Go.RowKit
set_option linter.unusedSimpArgs false
set_option linter.unusedVariables false

theorem info_tab : (Tryz.prog.info? 107).map (fun i => (i.zero, i.size, i.bytes)) = some (some (.agg #[.int .i64 0, .int .i64 0, .int .i64 0, .int .i64 0]), 4, 32) := by kernel_rfl
/-- The table in its block. -/
def TA (arr : Array Value) (m : Nat) (R : Nat → Nat → Int) : Prop := arr.size = m * 4 ∧ ∀ e c, e < m → c < 4 → arr[e * 4 + c]? = some (.int .i64 (R e c))
theorem TA.at {arr : Array Value} {m : Nat} {R : Nat → Nat → Int} (h : TA arr m R) {w : World} {tb : Nat} {t : TypeId} (he : w.heap[tb]? = some (.cells arr t (0, 0))) : TbAt w tb m R := fun e c h1 h2 => row_cell he _ _ (h.2 e c h1 h2)
theorem ta_zero (m : Nat) : TA (madeCells #[.int .i64 0, .int .i64 0, .int .i64 0, .int .i64 0] (m * 4)) m (fun _ _ => 0) := by
  refine ⟨size_madeCells _ _, fun e c h1 h2 => ?_⟩
  have key : ∀ k, k < m * 4 → (madeCells #[.int .i64 0, .int .i64 0, .int .i64 0, .int .i64 0] (m * 4))[k]? = some (Value.int .i64 0) := by
    intro k hk
    unfold madeCells
    rw [Array.getElem?_map, Array.getElem?_range, if_pos hk]
    simp only [Option.map_some]
    have : k % 4 < 4 := Nat.mod_lt _ (by omega)
    rcases (show k % 4 = 0 ∨ k % 4 = 1 ∨ k % 4 = 2 ∨ k % 4 = 3 by omega) with h | h | h | h <;> simp [h]
  exact key _ (by omega)
/-- One entry set. -/
def setT (R : Nat → Nat → Int) (i c : Nat) (x : Int) : Nat → Nat → Int := fun e d => if e = i ∧ d = c then x else R e d
theorem ta_set {arr : Array Value} {m : Nat} {R : Nat → Nat → Int} (h : TA arr m R) (i c : Nat) (hi : i < m) (hc : c < 4) (x : Int) : TA (arr.setIfInBounds (i * 4 + c) (.int .i64 x)) m (setT R i c x) := by
  refine ⟨by simp [h.1], fun e d h1 h2 => ?_⟩
  have hs := h.1
  by_cases ce : e = i ∧ d = c
  · obtain ⟨rfl, rfl⟩ := ce
    unfold setT
    rw [if_pos ⟨rfl, rfl⟩, Array.getElem?_setIfInBounds]
    simp; omega
  · unfold setT
    rw [if_neg ce, Array.getElem?_setIfInBounds_ne (by omega)]
    exact h.2 e d h1 h2
section
variable {S S' : Nat → Prop} {w : World} {ao eo : Option Addr} {n c ec : Nat} {I : Nat → Itm} {width : Int} {s : Stg}
/-- What holds while the table is filled. -/
structure FiI (w : World) (s : Stg) (G m : Nat) (R : Nat → Nat → Int) (W : World) : Prop where
  bel : Below w.heap.size w W
  sb : W.heap[w.heap.size]? = some (.cells #[.int .i64 s.t, .int .i64 s.l, .int .i64 s.a, .int .i64 s.d, .int .i64 s.z, .int .i64 s.o, .int .i64 s.i] 24 (0, 0))
  ta : ∃ arr, W.heap[G]? = some (.cells arr 107 (0, 0)) ∧ TA arr m R
theorem FiI.next {G m : Nat} {R : Nat → Nat → Int} {W W' : World} (h : FiI w s G m R W) (hb : Below W.heap.size W W') : FiI w s G m R W' where
  bel := h.bel.trans (hb.mono (by have := heap_lt h.sb; omega))
  sb := (hb.block _ (heap_lt h.sb)).trans h.sb
  ta := by
    obtain ⟨arr, h1, h2⟩ := h.ta
    exact ⟨arr, (hb.block _ (heap_lt h1)).trans h1, h2⟩
theorem FiI.put {G m : Nat} {R : Nat → Nat → Int} {W : World} (h : FiI w s G m R W) (hG : w.heap.size < G) (i c : Nat) (hi : i < m) (hc : c < 4) (x : Int) : (∃ v, W.cell? ⟨G, i * 4 + c, none⟩ = some v) ∧ W.frozen? ⟨G, i * 4 + c, none⟩ = false ∧ FiI w s G m (setT R i c x) (W.setCell ⟨G, i * 4 + c, none⟩ (.int .i64 x)) := by
  obtain ⟨arr, h1, h2⟩ := h.ta
  refine ⟨⟨_, row_cell h1 _ _ (h2.2 i c hi hc)⟩, row_free h1 _, ?_, ?_, _, arr_set _ h1, ta_set h2 i c hi hc x⟩
  · exact h.bel.setCell (by simp only; omega) _
  · rw [Below.heap_setCell W ⟨G, i * 4 + c, none⟩ _ _ (by simp only; omega)]; exact h.sb
/-- Is the table right from a break on, and at the break ahead of it up to a class? -/
def TbTo (P : Pr) (R : Nat → Nat → Int) (k x : Nat) : Prop := TbOk P R k ∧ ∀ c, c < x → Lst P k (c : Int) (R (k - 1) c)
theorem tbto_set {P : Pr} {R : Nat → Nat → Int} {k x : Nat} {v : Int} (h : TbTo P R k x) (hk : 0 < k) (hv : Lst P k (x : Int) v) : TbTo P (setT R (k - 1) x v) k (x + 1) := by
  refine ⟨fun e c h1 h2 h3 => ?_, fun c hc => ?_⟩
  · unfold setT; rw [if_neg (by omega)]; exact h.1 e c h1 h2 h3
  · unfold setT
    by_cases q : c = x
    · subst q; rw [if_pos ⟨rfl, rfl⟩]; exact hv
    · rw [if_neg (by omega)]; exact h.2 c (by omega)
theorem tbto_done {P : Pr} {R : Nat → Nat → Int} {k : Nat} (h : TbTo P R k 4) (hk : 0 < k) : TbOk P R (k - 1) := fun e c h1 h2 h3 => by
  by_cases q : e = k - 1
  · subst q
    have := h.2 c h3
    rw [show k - 1 + 1 = k by omega]; exact this
  · exact h.1 e c (by omega) h2 h3
set_option maxRecDepth 100000 in
set_option maxHeartbeats 4000000 in
theorem fill9_any (h : ItsAt S w ao n I) (hn : n ≤ 262144) (hok : ∀ i, i < n → okI I i = true) (he : NAt S' w eo (lgs I n n)) (hw : 1 ≤ width ∧ width ≤ 1073741824) (hs : okS s = true) (em : Bool) (hp : 0 < nbk I n) :
    Calls Tryz.prog 27 #[.slice ao n c, .slice eo (nbk I n) ec, .int .i64 width, s.val, .bool em] w fun e w' => ∃ tb tc R, e = .returned (.slice (some ⟨tb, 0, none⟩) (nbk I n) tc) ∧ (w.heap.size ≤ tb ∧ tb < w'.heap.size) ∧ TbAt w' tb (nbk I n) R ∧ TbOk (PX I n width s em) R 0 ∧ Below w.heap.size w w' := by
  have hl := lgs_len I n n
  have hm : nbk I n ≤ 262144 := by unfold nbk; omega
  obtain ⟨i0, hi, hz0, hz1, hz2⟩ := info_parts info_tab
  have HH := boxed h
  have HE := boxed he
  have hmk : ∀ W : World, (Instr.makeSlice 60 (.int .i64 (nbk I n : Int)) (.int .i64 (nbk I n : Int))).run Tryz.prog W = .ok (.slice (some ⟨W.heap.size, 0, none⟩) (nbk I n) (nbk I n)) (W.alloc (.cells (madeCells #[.int .i64 0, .int .i64 0, .int .i64 0, .int .i64 0] (nbk I n * 4)) 107)) := by
    intro W
    have := run_makeSlice (w := W) 60 107 i0 _ Tryz.underlying60 hi hz0 .i64 .i64 (nbk I n : Int) (nbk I n : Int) (by omega) (by omega) (by rw [hz1]; simp [Value.cells]; omega) (by rw [hz2]; omega) (by omega)
    simpa [Value.cells, hz1] using this
  obtain ⟨q0, q1, q2, q3⟩ := laid2 w (.cells #[.int .i64 s.t, .int .i64 s.l, .int .i64 s.a, .int .i64 s.d, .int .i64 s.z, .int .i64 s.o, .int .i64 s.i] 24) (.cells (madeCells #[.int .i64 0, .int .i64 0, .int .i64 0, .int .i64 0] (nbk I n * 4)) 107)
  have HF0 := boxed (show FiI w s (w.heap.size + 1) (nbk I n) (fun _ _ => 0) _ from ⟨q2, q0, _, q1, ta_zero _⟩)
  have HLe := boxed (fun W R (hf : FiI w s (w.heap.size + 1) (nbk I n) R W) (k : Nat) (hk : k < nbk I n) (hR : TbOk (PX I n width s em) R k) (cls : Int) (hcl : 0 ≤ cls ∧ cls ≤ 3) => least9_any (S := S) (S' := S') (c := c) (ec := ec) (tc := nbk I n) (s := s) (HH.out.below hf.bel) hn hok (HE.out.below hf.bel) hw hs em (by obtain ⟨arr, h1, h2⟩ := hf.ta; exact h2.at h1) k hk hR cls hcl)
  obtain ⟨A0, hA0⟩ : ∃ A0 : Array Value, madeCells #[.int .i64 0, .int .i64 0, .int .i64 0, .int .i64 0] (nbk I n * 4) = A0 := ⟨_, rfl⟩
  rw [hA0] at hmk HF0
  unfold Stg.val at *
  clear h he hA0 q0 q1 q2 q3
  generalize hM : nbk I n = m at *
  replace hM := boxed hM
  go_enter Tryz.func27, Tryz.ntmps27
  go_wp2_with fail
  go_loopw [12] (fun iv wr => ∃ (k : Nat) (R : Nat → Nat → Int), k + 1 ≤ m ∧ iv = .int .i64 ((k : Int) - 1) ∧ Box (FiI w s (w.heap.size + 1) m R wr) ∧ Box (TbOk (PX I n width s em) R k)) (fun iv _ => (intOf iv + 1).toNat)
  case atStart => exact ⟨m - 1, fun _ _ => 0, by omega, by go_num, HF0, boxed (fun e c h1 h2 h3 => by rw [px_m, hM.out] at h2; omega)⟩
  case round =>
    obtain ⟨k, R, hk, rfl, HF, HR⟩ := hrel
    clear HF0
    by_cases hk0 : k = 0
    · subst hk0
      have e1 : ((0 : Nat) : Int) - 1 = -1 := rfl
      rw [e1]
      have HT : Box (TbAt wr (w.heap.size + 1) m R) := boxed (by obtain ⟨arr, h1, h2⟩ := HF.out.ta; exact h2.at h1)
      go_wp2_with fail
      go_ret
      exact ⟨w.heap.size + 1, m, R, rfl, ⟨by omega, by obtain ⟨arr, h1, -⟩ := HF.out.ta; exact heap_lt h1⟩, HT.out, HR.out, HF.out.bel⟩
    obtain ⟨k', rfl⟩ : ∃ k', k = k' + 1 := ⟨k - 1, by omega⟩
    have e1 : ((k' + 1 : Nat) : Int) - 1 = (k' : Int) := by omega
    rw [e1]
    have t1 : decide ((0 : Int) ≤ (k' : Int)) = true := decide_eq_true (by omega)
    have HT0 : Box (TbTo (PX I n width s em) R (k' + 1) 0) := boxed ⟨HR.out, fun c hc => by omega⟩
    go_wp2_with fail
    go_loopw [13] (fun cv wq => ∃ (x : Nat) (R' : Nat → Nat → Int), x ≤ 4 ∧ cv = .int .i64 (x : Int) ∧ Box (FiI w s (w.heap.size + 1) m R' wq) ∧ Box (TbTo (PX I n width s em) R' (k' + 1) x)) (fun cv _ => 4 - (intOf cv).toNat)
    case atStart => exact ⟨0, R, by omega, rfl, HF, HT0⟩
    case round =>
      obtain ⟨x, R', hx, rfl, HF', HT'⟩ := hrel
      clear HF HT0 HR
      by_cases hx4 : x < 4
      · have t2 : decide ((x : Int) < 4) = true := decide_eq_true (by omega)
        have hx42 : (x : Int) < 4 := by omega
        have hk1 : k' < m := by omega
        have hk2 : (k' : Int) < (m : Int) := by omega
        have HF0 : Box (FiI w s (w.heap.size + 1) m R' wr.drew) := boxed (HF'.out.next (Below.refl _ _).drew)
        have hle := HLe.out _ _ HF0.out (k' + 1) (by omega) HT'.out.1 (x : Int) (by omega)
        rw [e1, show ahd (k' + 1) (x : Int) = (x : Int) from rfl] at hle
        have HS : Box (∀ W R2, FiI w s (w.heap.size + 1) m R2 W → W.cell? ⟨w.heap.size, 0, none⟩ = some (.int .i64 s.t) ∧ W.cell? ⟨w.heap.size, 1, none⟩ = some (.int .i64 s.l) ∧ W.cell? ⟨w.heap.size, 2, none⟩ = some (.int .i64 s.a) ∧ W.cell? ⟨w.heap.size, 3, none⟩ = some (.int .i64 s.d) ∧ W.cell? ⟨w.heap.size, 4, none⟩ = some (.int .i64 s.z) ∧ W.cell? ⟨w.heap.size, 5, none⟩ = some (.int .i64 s.o) ∧ W.cell? ⟨w.heap.size, 6, none⟩ = some (.int .i64 s.i)) := boxed (fun W R2 hf => (cells7 hf.sb).1)
        go_wp2_with fail
        go_region_held3 (fun W => W.cell? ⟨w.heap.size, 0, none⟩ = some (.int .i64 s.t) ∧ W.cell? ⟨w.heap.size, 1, none⟩ = some (.int .i64 s.l) ∧ W.cell? ⟨w.heap.size, 2, none⟩ = some (.int .i64 s.a) ∧ W.cell? ⟨w.heap.size, 3, none⟩ = some (.int .i64 s.d) ∧ W.cell? ⟨w.heap.size, 4, none⟩ = some (.int .i64 s.z) ∧ W.cell? ⟨w.heap.size, 5, none⟩ = some (.int .i64 s.o) ∧ W.cell? ⟨w.heap.size, 6, none⟩ = some (.int .i64 s.i))
          (first | with_reducible exact HS.out _ _ HF0.out | with_reducible exact HS.out _ _ HF6.out | with_reducible exact HS.out _ _ HF7.out)
          (first | (go_at_call 28; with_reducible refine hle.mono ?_; rintro e w6 ⟨v, rfl, hls, hb6⟩; have HF6 := boxed (HF0.out.next hb6); obtain ⟨⟨cv0, hcv⟩, hfz, hf7⟩ := HF6.out.put (by omega) k' x hk1 hx4 v; have HF7 := boxed hf7; have HT7 := boxed (tbto_set HT'.out (by omega) hls); clear hb6 hls hf7))
        go_wp2_with fail
        go_roundw
        case rel => exact ⟨x + 1, _, by omega, by go_num, HF7, HT7⟩
        case measure => simp [intOf]; omega
      · obtain rfl : x = 4 := by omega
        have HR2 := boxed (tbto_done HT'.out (by omega))
        have HF2 := boxed HF'.out
        go_wp2_with fail
        go_roundw
        case rel => exact ⟨k', R', by omega, by go_num, HF2, HR2⟩
        case measure => simp [intOf]
end
end Go.Proofs.YtkmeeblkckfepaaGreat
