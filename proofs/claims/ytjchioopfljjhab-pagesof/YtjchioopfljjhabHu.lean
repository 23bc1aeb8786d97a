/-
  Lines as pages: what the program's linesOf and Of make.
-/
import Derived.Test.YtjchioopfljjhabHs
import Derived.Test.YtjchioopfljjhabHn
namespace Go.Proofs.Ytjchioopfljjhab
open Go.RowKit
set_option linter.unusedSimpArgs false
set_option linter.unusedVariables false

theorem LnsAt.part {S : Nat → Prop} {w : World} {b off n : Nat} {F : Nat → Lne} (h : LnsAt S w (some ⟨b, off, none⟩) n F) (a m : Nat) (hm : a + m ≤ n) : LnsAt S w (some ⟨b, off + a * 9, none⟩) m (fun j => F (a + j)) := by
  intro i hi
  obtain ⟨h1, b', off', e, hs, c⟩ := h (a + i) (by omega)
  injection e with e
  injection e with e1 e2 e3
  subst e1; subst e2
  have ee : off + a * 9 + i * 9 = off + (a + i) * 9 := by omega
  refine ⟨h1, b, off + a * 9, rfl, hs, ?_⟩
  rw [ee]
  exact c
theorem sl_midl (b off n cap f t : Nat) (hn : n ≤ cap) (hf : f < t) (ht : t ≤ n) (w : World) : (Instr.slice 22 (.slice (some ⟨b, off, none⟩) n cap) (some (.int .i64 (f : Int))) (some (.int .i64 (t : Int))) none).run Try.prog w = .ok (.slice (some ⟨b, off + f * 9, none⟩) (t - f) (cap - f)) w := by
  have hc : Try.prog.cellsOf 27 = 9 := by kernel_rfl
  have h4 : (f : Int) ≤ (t : Int) := by omega
  have h5 : (t : Int) ≤ (cap : Int) := by omega
  simp [Instr.slice, Instr.sliceBounds, Instr.sliceBound, asIntOf, run_underlying Try.underlying22, go_sem, h4, h5]
  rw [if_pos (by omega : f ≤ t), if_neg (by omega : ¬ cap = f), if_pos (by omega : t ≤ cap)]
set_option maxRecDepth 100000 in
theorem linesofl_any (T : Nat → Prop) (b off n cap : Nat) (so : Option Addr) (sc : Nat) (L : List Nat) (p : Nat) (w : World) (hL : NAt T w so L) (hp : p < L.length) (hl : L.length ≤ 1000000) (hn : n ≤ 1000000) (hcap : n ≤ cap) (h1 : L.getD p 0 < endL L p n) (h2 : endL L p n ≤ n) :
    Calls Try.prog 12 #[.slice (some ⟨b, off, none⟩) n cap, .slice so L.length sc, .int .i64 (p : Nat)] w fun e w' => e = .returned (.slice (some ⟨b, off + L.getD p 0 * 9, none⟩) (endL L p n - L.getD p 0) (cap - L.getD p 0)) ∧ w' = w := by
  have hE := pend_any T so sc L p n w hL hp hl
  obtain ⟨sb, rfl, -, -⟩ := hL.form (by omega)
  have c0 := hL.get p hp
  generalize L.getD p 0 = x at *
  generalize endL L p n = y at *
  generalize L.length = m at *
  have hsl := sl_midl b off n cap x y hcap h1 h2
  have b1 : (p : Int) < (m : Int) := by omega
  have m1 : min (x : Int) (n : Int) = (x : Int) := by omega
  have m2 : max (y : Int) (x : Int) = (y : Int) := by omega
  have m3 : min (y : Int) (n : Int) = (y : Int) := by omega
  clear hL
  go_enter Try.func12, Try.ntmps12
  go_wp2_with fail
  refine hE.mono ?_
  rintro e w1 ⟨rfl, hw1⟩
  subst hw1
  go_wp2_with fail
  go_ret
  exact ⟨rfl, rfl⟩
/-- So many lines a page has. -/
def pl (L : List Nat) (n p : Nat) : Nat := endL L p n - L.getD p 0
/-- The first m of J pages, in a row that lies at G; the blocks of the runs bear their page's and line's numbers, others bear none. -/
structure Bk (w : World) (G J m : Nat) (F : Nat → Lne) (L : List Nat) (n : Nat) (A : Nat → Nat) (R : Nat → Nat → Option Addr) (C : Nat → Nat → Nat) (ν : Nat → Option (Nat × Nat)) : Prop where
  row : ∃ arr : Array Value, w.heap[G]? = some (.cells arr 32 (0, 0)) ∧ arr.size = J ∧ ∀ p, p < m → arr[p]? = some (.slice (some ⟨A p, 0, none⟩) (pl L n p) (pl L n p))
  lns : ∀ p, p < m → G < A p ∧ ν (A p) = none ∧ ∃ arr : Array Value, w.heap[A p]? = some (.cells arr 27 (0, 0)) ∧ ∀ k j, k < pl L n p → j < 9 → arr[k * 9 + j]? = ((cpy (F (L.getD p 0 + k)) (R p k) (C p k) (ys (fun j => F (L.getD p 0 + j)) k)).cells)[j]?
  run : ∀ p k, p < m → k < pl L n p → RunB w (F (L.getD p 0 + k)) (R p k) (fun b => G < b ∧ ν b = some (p, k))
  lab : ∀ b, b ≤ G → ν b = none
theorem Bk.step {w w1 : World} {G J m : Nat} {F : Nat → Lne} {L : List Nat} {n : Nat} {A : Nat → Nat} {R : Nat → Nat → Option Addr} {C : Nat → Nat → Nat} {ν : Nat → Option (Nat × Nat)} (h : Bk w G J m F L n A R C ν) (hm : m < J)
    (hb : Below w.heap.size w w1) {R1 : Nat → Option Addr} {C1 : Nat → Nat} {μ : Nat → Option Nat} (hS : Stk w1 w.heap.size (pl L n m) (pl L n m) (fun j => F (L.getD m 0 + j)) R1 C1 μ) :
    ∃ A' R' C' ν', Bk (w1.setCell ⟨G, m, none⟩ (.slice (some ⟨w.heap.size, 0, none⟩) (pl L n m) (pl L n m))) G J (m + 1) F L n A' R' C' ν' := by
  obtain ⟨arr, e0, hs, hg⟩ := h.row
  have hG := heap_lt e0
  have e1 : w1.heap[G]? = some (.cells arr 32 (0, 0)) := (hb.block G hG).trans e0
  have far : ∀ c, c ≠ G → (w1.setCell ⟨G, m, none⟩ (.slice (some ⟨w.heap.size, 0, none⟩) (pl L n m) (pl L n m))).heap[c]? = w1.heap[c]? := fun c hc => heap_set_far _ hc
  refine ⟨fun p => if p = m then w.heap.size else A p, fun p => if p = m then R1 else R p, fun p => if p = m then C1 else C p, fun b => if w.heap.size ≤ b then (μ b).map (fun k => (m, k)) else ν b, ⟨_, arr_set _ e1, by simp [hs], ?_⟩, ?_, ?_, ?_⟩
  · intro p hp
    by_cases c : p = m
    · subst c
      rw [Array.getElem?_setIfInBounds_self_of_lt (by omega), if_pos rfl]
    · rw [Array.getElem?_setIfInBounds_ne (by omega), if_neg c]
      exact hg p (by omega)
  · intro p hp
    by_cases c : p = m
    · subst c
      obtain ⟨ar, ea, hsa, hga⟩ := hS.row
      simp only [if_pos]
      refine ⟨hG, by rw [if_pos (Nat.le_refl _), hS.lab]; rfl, ar, (far _ (by omega)).trans ea, ?_⟩
      intro k j hk hj
      exact hga k j hk hj
    · obtain ⟨k1, k2, ar, ea, hga⟩ := h.lns p (by omega)
      have hlt := heap_lt ea
      simp only [if_neg c]
      refine ⟨k1, by rw [if_neg (by omega)]; exact k2, ar, ((far _ (by omega)).trans (hb.block _ hlt)).trans ea, hga⟩
  · intro p k hp hk
    by_cases c : p = m
    · subst c
      simp only [if_pos]
      refine (hS.run k hk).kept (fun b hb1 hl => ⟨⟨by omega, ?_⟩, far b (by omega)⟩)
      rw [if_pos (by omega), hb1.2]
      rfl
    · simp only [if_neg c]
      refine (h.run p k (by omega) hk).kept (fun b hb1 hl => ⟨⟨hb1.1, ?_⟩, (far b (by omega)).trans (hb.block b hl)⟩)
      rw [if_neg (by omega)]
      exact hb1.2
  · intro b hb1
    show (if _ then _ else _) = _
    rw [if_neg (by omega)]
    exact h.lab b hb1
theorem info_page : (Try.prog.info? 32).map (fun i => (i.zero, i.size, i.bytes)) = some (some (.agg #[.slice none 0 0]), 1, 24) := by kernel_rfl
set_option maxRecDepth 100000 in
set_option maxHeartbeats 4000000 in
theorem of_any (S T : Nat → Prop) (ao : Option Addr) (n cap : Nat) (F : Nat → Lne) (so : Option Addr) (sc : Nat) (L : List Nat) (w : World) (h : LnsAt S w ao n F) (hL : NAt T w so L) (hf : ∀ j, j < n → LnFit (F j)) (hn : n ≤ 100) (hl : L.length ≤ 100) (hcap : n ≤ cap) (hr : ∀ p, p < L.length → L.getD p 0 < endL L p n ∧ endL L p n ≤ n) :
    Calls Try.prog 5 #[.slice ao n cap, .slice so L.length sc] w fun e w' => e = .returned (.slice (some ⟨w.heap.size, 0, none⟩) L.length L.length) ∧ (∃ A R C ν, Bk w' w.heap.size L.length L.length F L n A R C ν) ∧ Below w.heap.size w w' := by
  obtain ⟨i0, hi, hz0, hz1, hz2⟩ := info_parts info_page
  obtain ⟨J, hJ⟩ : ∃ J, L.length = J := ⟨_, rfl⟩
  have HH := boxed h
  have HL := boxed hL
  have HF := boxed hf
  have HR := boxed hr
  have HJ := boxed hJ
  rw [hJ] at hl HR ⊢
  clear h hL hf hr
  have hmk : ∀ W : World, (Instr.makeSlice 28 (.int .i64 (J : Int)) (.int .i64 (J : Int))).run Try.prog W = .ok (.slice (some ⟨W.heap.size, 0, none⟩) J J) (W.alloc (.cells (madeCells #[Value.slice none 0 0] J) 32)) := by
    intro W
    have := run_makeSlice (w := W) 28 32 i0 _ Try.underlying28 hi hz0 .i64 .i64 (J : Int) (J : Int) (by omega) (by omega) (by rw [hz1]; simp; omega) (by rw [hz2]; omega) (by omega)
    rw [this, hz1]
    simp [Value.cells]
  have hsz : (madeCells #[Value.slice none 0 0] J).size = J := by
    have := congrArg List.length (toList_madeCells_one (Value.slice none 0 0) J)
    simpa using this
  have HB0 : Box (Below w.heap.size w (w.alloc (.cells (madeCells #[Value.slice none 0 0] J) 32))) := boxed ((Below.refl _ w).alloc (Nat.le_refl _) _)
  have HK0 : Box (∃ A R C ν, Bk (w.alloc (.cells (madeCells #[Value.slice none 0 0] J) 32)) w.heap.size J 0 F L n A R C ν) := boxed ⟨fun _ => 0, fun _ _ => none, fun _ _ => 0, fun _ => none, ⟨_, heap_alloc_new w _, hsz, fun p hp => by omega⟩, fun p hp => by omega, fun p k hp => by omega, fun b hb => rfl⟩
  generalize madeCells #[Value.slice none 0 0] J = A0 at *
  clear hJ
  go_enter Try.func5, Try.ntmps5
  go_wp2_with fail
  go_loopw [12] (fun pv wr => ∃ p : Nat, p ≤ J ∧ pv = .int .i64 (p : Nat) ∧ Box (∃ A R C ν, Bk wr w.heap.size J p F L n A R C ν) ∧ Box (Below w.heap.size w wr)) (fun pv _ => J - (intOf pv).toNat)
  case atStart => exact ⟨0, Nat.zero_le _, rfl, HK0, HB0⟩
  case round =>
    obtain ⟨p, hp, rfl, HBk, HB⟩ := hrel
    by_cases hlt : p < J
    · have h12 := HR.out p hlt
      obtain ⟨b, off, rfl, hbw⟩ := HH.out.form (by omega)
      have hlo := linesofl_any T b off n cap so sc L p wr (HL.out.below HB.out) (by rw [HJ.out]; exact hlt) (by rw [HJ.out]; omega) (by omega) hcap h12.1 h12.2
      rw [HJ.out] at hlo
      have hstk := stacked_any S (some ⟨b, off + L.getD p 0 * 9, none⟩) (pl L n p) (cap - L.getD p 0) (fun j => F (L.getD p 0 + j)) wr ((HH.out.below HB.out).part _ _ (by unfold pl; omega)) (fun j hj => HF.out _ (by unfold pl at hj; omega)) (by unfold pl; omega)
      have epl : endL L p n - L.getD p 0 = pl L n p := rfl
      rw [epl] at hlo
      obtain ⟨A, R, C, ν, hBk⟩ := HBk.out
      have HSt := boxed (fun (w1 : World) hb (h : ∃ R1 C1 μ, Stk w1 wr.heap.size (pl L n p) (pl L n p) (fun j => F (L.getD p 0 + j)) R1 C1 μ) => by
        obtain ⟨R1, C1, μ, hS⟩ := h
        exact hBk.step (w1 := w1) hlt hb hS)
      obtain ⟨arr, e0, hsa, -⟩ := hBk.row
      have hGr := heap_lt e0
      have hlt2 : (p : Int) < (J : Int) := by omega
      clear hBk HBk h12 epl HK0 HB0
      generalize L.getD p 0 = a at *
      generalize pl L n p = q at *
      go_wp2_with fail
      refine hlo.mono ?_
      rintro e w1 ⟨rfl, hw1⟩
      subst hw1
      clear hlo
      go_wp2_with fail
      refine hstk.mono ?_
      rintro e w2 ⟨rfl, hS2, hb2⟩
      have HSn := boxed (HSt.out w2 hb2 hS2)
      have e2 := (hb2.block w.heap.size hGr).trans e0
      obtain ⟨a0, a1⟩ := arr_at e2 (k := p) (by omega)
      have HBn : Box (∀ v, Below w.heap.size w (w2.setCell ⟨w.heap.size, p, none⟩ v)) := boxed (fun v => (below_step HB.out (Nat.le_refl _) hb2).setCell (Nat.le_refl _) _)
      clear hS2 hb2 hstk HSt e0 e2
      go_wp2_with fail
      go_roundw
      case rel => exact ⟨p + 1, by omega, by go_num, HSn, boxed (HBn.out _)⟩
      case measure => simp [intOf]; omega
    · obtain rfl : p = J := by omega
      go_wp2_with fail
      go_ret
      exact ⟨rfl, HBk.out, HB.out⟩
end Go.Proofs.Ytjchioopfljjhab
