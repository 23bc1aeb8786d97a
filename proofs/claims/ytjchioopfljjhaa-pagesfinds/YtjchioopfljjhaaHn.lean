/-
  What End of both sides, the program's linesOf and Heights answer.
-/
import Derived.Test.YtjchioopfljjhaaHg
namespace Go.Proofs.Ytjchioopfljjhaa
open Go.RowKit
set_option linter.unusedSimpArgs false
set_option linter.unusedVariables false

/-- With what line the page behind page p begins. -/
def endL (L : List Nat) (p n : Nat) : Nat := if p + 1 < L.length then L.getD (p + 1) 0 else n
set_option maxRecDepth 100000 in
theorem pend_any (S : Nat → Prop) (ao : Option Addr) (c : Nat) (L : List Nat) (p n : Nat) (w : World) (h : NAt S w ao L) (hp : p < L.length) (hl : L.length ≤ 1000000) :
    Calls Try.prog 28 #[.slice ao L.length c, .int .i64 (p : Nat), .int .i64 (n : Nat)] w fun e w' => e = .returned (.int .i64 (endL L p n : Nat)) ∧ w' = w := by
  unfold endL
  obtain ⟨b, rfl, -, -⟩ := h.form (by omega)
  by_cases q : p + 1 < L.length
  · rw [if_pos q]
    have c0 := h.get (p + 1) q
    generalize L.getD (p + 1) 0 = x at *
    generalize L.length = m at *
    have t1 : decide ((p : Int) < 0) = false := decide_eq_false (by omega)
    have t2 : decide ((m : Int) - 1 ≤ (p : Int)) = false := decide_eq_false (by omega)
    have b1 : (p : Int) + 1 < (m : Int) := by omega
    clear h
    go_enter Try.func28, Try.ntmps28
    go_wp2_with fail
    go_ret
    exact ⟨rfl, rfl⟩
  · rw [if_neg q]
    generalize L.length = m at *
    have t1 : decide ((p : Int) < 0) = false := decide_eq_false (by omega)
    have t2 : decide ((m : Int) - 1 ≤ (p : Int)) = true := decide_eq_true (by omega)
    clear h q
    go_enter Try.func28, Try.ntmps28
    go_wp2_with fail
    go_ret
    exact ⟨rfl, rfl⟩
set_option maxRecDepth 100000 in
theorem refend_any (S : Nat → Prop) (ao : Option Addr) (c : Nat) (L : List Nat) (p n : Nat) (w : World) (h : NAt S w ao L) (hp : p < L.length) (hl : L.length ≤ 1000000) :
    Calls Try.prog 22 #[.slice ao L.length c, .int .i64 (p : Nat), .int .i64 (n : Nat)] w fun e w' => e = .returned (.int .i64 (endL L p n : Nat)) ∧ w' = w := by
  unfold endL
  obtain ⟨b, rfl, -, -⟩ := h.form (by omega)
  by_cases q : p + 1 < L.length
  · rw [if_pos q]
    have c0 := h.get (p + 1) q
    generalize L.getD (p + 1) 0 = x at *
    generalize L.length = m at *
    have t2 : decide ((p : Int) < (m : Int) - 1) = true := decide_eq_true (by omega)
    have b1 : (p : Int) + 1 < (m : Int) := by omega
    clear h
    go_enter Try.func22, Try.ntmps22
    go_wp2_with fail
    go_ret
    exact ⟨rfl, rfl⟩
  · rw [if_neg q]
    generalize L.length = m at *
    have t2 : decide ((p : Int) < (m : Int) - 1) = false := decide_eq_false (by omega)
    clear h q
    go_enter Try.func22, Try.ntmps22
    go_wp2_with fail
    go_ret
    exact ⟨rfl, rfl⟩
theorem sl_mid (b off n cap f t : Nat) (hn : n ≤ cap) (hf : f < t) (ht : t ≤ n) (w : World) : (Instr.slice 22 (.slice (some ⟨b, off, none⟩) n cap) (some (.int .i64 (f : Int))) (some (.int .i64 (t : Int))) none).run Try.prog w = .ok (.slice (some ⟨b, off + f * 4, none⟩) (t - f) (cap - f)) w := by
  have hc : Try.prog.cellsOf 45 = 4 := by kernel_rfl
  have h4 : (f : Int) ≤ (t : Int) := by omega
  have h5 : (t : Int) ≤ (cap : Int) := by omega
  simp [Instr.slice, Instr.sliceBounds, Instr.sliceBound, asIntOf, run_underlying Try.underlying22, go_sem, h4, h5]
  rw [if_pos (by omega : f ≤ t), if_neg (by omega : ¬ cap = f), if_pos (by omega : t ≤ cap)]
set_option maxRecDepth 100000 in
theorem linesof_any (S T : Nat → Prop) (b off n cap : Nat) (F : Nat → Slt) (so : Option Addr) (sc : Nat) (L : List Nat) (p : Nat) (w : World) (hL : NAt T w so L) (hp : p < L.length) (hl : L.length ≤ 1000000) (hn : n ≤ 1000000) (hcap : n ≤ cap) (h1 : L.getD p 0 < endL L p n) (h2 : endL L p n ≤ n) :
    Calls Try.prog 34 #[.slice (some ⟨b, off, none⟩) n cap, .slice so L.length sc, .int .i64 (p : Nat)] w fun e w' => e = .returned (.slice (some ⟨b, off + L.getD p 0 * 4, none⟩) (endL L p n - L.getD p 0) (cap - L.getD p 0)) ∧ w' = w := by
  have hE := pend_any T so sc L p n w hL hp hl
  obtain ⟨sb, rfl, -, -⟩ := hL.form (by omega)
  have c0 := hL.get p hp
  generalize L.getD p 0 = x at *
  generalize endL L p n = y at *
  generalize L.length = m at *
  have hsl := sl_mid b off n cap x y hcap h1 h2
  have b1 : (p : Int) < (m : Int) := by omega
  clear hL
  go_enter Try.func34, Try.ntmps34
  go_wp2_with fail
  refine hE.mono ?_
  rintro e w1 ⟨rfl, hw1⟩
  subst hw1
  go_wp2_with fail
  go_ret
  exact ⟨rfl, rfl⟩
/-- Numbers in a block of their own. -/
def RowI (w : World) (G J : Nat) (V : Nat → Int) : Prop := ∃ arr : Array Value, w.heap[G]? = some (.cells arr 3 (0, 0)) ∧ arr.size = J ∧ ∀ i, i < J → arr[i]? = some (.int .i64 (V i))
theorem RowI.get {w : World} {G J : Nat} {V : Nat → Int} (h : RowI w G J V) (i : Nat) (hi : i < J) : w.cell? ⟨G, i, none⟩ = some (.int .i64 (V i)) ∧ w.frozen? ⟨G, i, none⟩ = false := by
  obtain ⟨arr, e, hs, hg⟩ := h
  refine ⟨?_, row_free e i⟩
  rw [cell_of_row w G i arr 3 (0, 0) e]; exact hg i hi
theorem RowI.lt {w : World} {G J : Nat} {V : Nat → Int} (h : RowI w G J V) : G < w.heap.size := by
  obtain ⟨arr, e, -, -⟩ := h
  exact heap_lt e
theorem RowI.block {w w' : World} {G J : Nat} {V : Nat → Int} (h : RowI w G J V) (e : w'.heap[G]? = w.heap[G]?) : RowI w' G J V := by
  obtain ⟨arr, e0, hs, hg⟩ := h
  exact ⟨arr, e.trans e0, hs, hg⟩
theorem RowI.below {w w' : World} {G J : Nat} {V : Nat → Int} (h : RowI w G J V) (hb : Below w.heap.size w w') : RowI w' G J V := h.block (hb.block G h.lt)
theorem RowI.set {w : World} {G J : Nat} {V : Nat → Int} (h : RowI w G J V) (k : Nat) (x : Int) (V' : Nat → Int) (hV : ∀ i, i < J → V' i = if i = k then x else V i) : RowI (w.setCell ⟨G, k, none⟩ (.int .i64 x)) G J V' := by
  obtain ⟨arr, e0, hs, hg⟩ := h
  refine ⟨_, arr_set _ e0, by simp [hs], fun i hi => ?_⟩
  rw [hV i hi]
  by_cases c : i = k
  · subst c
    rw [if_pos rfl, Array.getElem?_setIfInBounds_self_of_lt (by omega)]
  · rw [if_neg c, Array.getElem?_setIfInBounds_ne (by omega)]
    exact hg i hi
/-- How high page p is. -/
def hgt (F : Nat → Slt) (L : List Nat) (n p : Nat) : Int := hi F (L.getD p 0) (endL L p n - L.getD p 0)
/-- The pages' heights while those ahead of p are told, and m lines of it are. -/
def hgs (F : Nat → Slt) (L : List Nat) (n p m i : Nat) : Int := if i < p then hgt F L n i else if i = p then hi F (L.getD p 0) m else 0
theorem hi_part (F : Nat → Slt) (a m : Nat) : hi (fun j => F (a + j)) 0 m = hi F a m := by
  induction m with
  | zero => rfl
  | succ m ih => simp [hi, ih]
set_option maxRecDepth 100000 in
set_option maxHeartbeats 4000000 in
theorem heights_any (S T : Nat → Prop) (ao : Option Addr) (n cap : Nat) (F : Nat → Slt) (so : Option Addr) (sc : Nat) (L : List Nat) (w : World) (h : SltsAt S w ao n F) (hL : NAt T w so L) (hk : ∀ j, j < n → 1 ≤ (F j).h ∧ (F j).h ≤ 1048576) (hn : n ≤ 200) (hl : L.length ≤ 1000) (hcap : n ≤ cap) (hr : ∀ p, p < L.length → L.getD p 0 < endL L p n ∧ endL L p n ≤ n) :
    Calls Try.prog 21 #[.slice ao n cap, .slice so L.length sc] w fun e w' => ∃ G c', e = .returned (.slice (some ⟨G, 0, none⟩) L.length c') ∧ w.heap.size ≤ G ∧ RowI w' G L.length (hgt F L n) ∧ Below w.heap.size w w' := by
  obtain ⟨i0, hi, hz0, hz1, hz2⟩ := info_parts info_int12
  obtain ⟨J, hJ⟩ : ∃ J, L.length = J := ⟨_, rfl⟩
  have HH := boxed h
  have HL := boxed hL
  have HK := boxed hk
  have HR := boxed hr
  have HJ := boxed hJ
  rw [hJ] at hl HR ⊢
  have HBd : Box (∀ p m, p < J → m ≤ endL L p n - L.getD p 0 → 0 ≤ Go.Proofs.Ytjchioopfljjhaa.hi F (L.getD p 0) m ∧ Go.Proofs.Ytjchioopfljjhaa.hi F (L.getD p 0) m ≤ 209715200) := boxed (fun p m hp hm => by
    have h1 := HR.out p hp
    have := hi_bound F n (L.getD p 0) m 1048576 (fun j hj => by have := HK.out j hj; omega) (by omega)
    omega)
  clear h hL hk hr
  have hmk : ∀ W : World, (Instr.makeSlice 26 (.int .i64 (J : Int)) (.int .i64 (J : Int))).run Try.prog W = .ok (.slice (some ⟨W.heap.size, 0, none⟩) J J) (W.alloc (.cells (madeCells #[Value.int .i64 0] J) 3)) := by
    intro W
    have := run_makeSlice (w := W) 26 3 i0 (.int .i64 0) Try.underlying26 hi hz0 .i64 .i64 (J : Int) (J : Int) (by omega) (by omega) (by rw [hz1]; simp; omega) (by rw [hz2]; omega) (by omega)
    rw [this, hz1]
    simp [Value.cells]
  have hR0 : RowI (w.alloc (.cells (madeCells #[Value.int .i64 0] J) 3)) w.heap.size J (hgs F L n 0 0) := by
    have e0 := toList_madeCells_one (Value.int .i64 0) J
    refine ⟨_, heap_alloc_new w _, ?_, fun i hi => ?_⟩
    · have := congrArg List.length e0
      simpa using this
    · rw [← Array.getElem?_toList, e0]
      have ez : hgs F L n 0 0 i = 0 := by
        unfold hgs
        rw [if_neg (by omega)]
        split
        · rfl
        · rfl
      rw [ez]
      simp [hi]
  have HR0 := boxed hR0
  have hB0 : Below w.heap.size w (w.alloc (.cells (madeCells #[Value.int .i64 0] J) 3)) := (Below.refl _ w).alloc (Nat.le_refl _) _
  have HB0 := boxed hB0
  clear hR0 hB0
  generalize madeCells #[Value.int .i64 0] J = A0 at *
  clear hJ
  go_enter Try.func21, Try.ntmps21
  go_wp2_with fail
  go_loopw [14] (fun pv wr => ∃ p : Nat, p ≤ J ∧ pv = .int .i64 (p : Nat) ∧ Box (RowI wr w.heap.size J (hgs F L n p 0)) ∧ Box (Below w.heap.size w wr)) (fun pv _ => J - (intOf pv).toNat)
  case atStart => exact ⟨0, Nat.zero_le _, rfl, HR0, HB0⟩
  case round =>
    obtain ⟨p, hp, rfl, HRo, HB⟩ := hrel
    by_cases hlt : p < J
    · have h12 := HR.out p hlt
      obtain ⟨b, off, rfl, hbw, -⟩ := HH.out.form (by omega)
      have hlo := linesof_any S T b off n cap F so sc L p wr (HL.out.below HB.out) (by rw [HJ.out]; exact hlt) (by rw [HJ.out]; omega) (by omega) hcap h12.1 h12.2
      rw [HJ.out] at hlo
      have HPt := boxed (HH.out.part (L.getD p 0) (endL L p n - L.getD p 0) (by omega))
      obtain ⟨q, hq⟩ : ∃ q, endL L p n - L.getD p 0 = q := ⟨_, rfl⟩
      obtain ⟨a, ha⟩ : ∃ a, L.getD p 0 = a := ⟨_, rfl⟩
      have HQ := boxed hq
      have HA := boxed ha
      have hqn : q ≤ 200 := by omega
      have hlt2 : (p : Int) < (J : Int) := by omega
      rw [hq, ha] at hlo HPt
      clear hq ha h12
      go_wp2_with fail
      refine hlo.mono ?_
      rintro e w1 ⟨rfl, hw1⟩
      subst hw1
      clear hlo
      go_wp2_with fail
      go_loopw [22] (fun kv wx => ∃ k : Nat, k ≤ q ∧ kv = .int .i64 (k : Nat) ∧ Box (RowI wx w.heap.size J (hgs F L n p k)) ∧ Box (Below w.heap.size w wx)) (fun kv _ => q - (intOf kv).toNat)
      case atStart => exact ⟨0, Nat.zero_le _, rfl, HRo, HB⟩
      case round =>
        obtain ⟨k, hk, rfl, HRx, HBx⟩ := hrel
        by_cases hkl : k < q
        · obtain ⟨c0, c1, c2, c3⟩ := (HPt.out.below HBx.out).get k hkl
          obtain ⟨d0, d1⟩ := HRx.out.get p hlt
          have e0 : hgs F L n p k p = Go.Proofs.Ytjchioopfljjhaa.hi F a k := by
            unfold hgs
            rw [if_neg (by omega), if_pos rfl, HA.out]
          rw [e0] at d0
          have hbd := HBd.out p k hlt (by rw [HQ.out]; omega)
          have hFk := HK.out (a + k) (by have := HQ.out; have := HA.out; have := (HR.out p hlt); omega)
          rw [HA.out] at hbd
          have hGl := HRx.out.lt
          have hzx := HBx.out.size
          have HRn : Box (∀ o, RowI (((wr.setCell ⟨w.heap.size, p, none⟩ (.int .i64 (Go.Proofs.Ytjchioopfljjhaa.hi F a k + (F (a + k)).h))).alloc o).drew) w.heap.size J (hgs F L n p (k + 1))) := boxed (fun o => (HRx.out.set p _ _ (fun i hi => by
            unfold hgs
            by_cases i1 : i < p
            · rw [if_pos i1, if_neg (by omega), if_pos i1]
            · by_cases i2 : i = p
              · subst i2
                rw [if_neg i1, if_pos rfl, if_pos rfl, HA.out]
                rfl
              · rw [if_neg i1, if_neg i2, if_neg i2, if_neg i1, if_neg i2])).below (((Below.refl _ _).alloc (Nat.le_refl _) _).drew))
          generalize Go.Proofs.Ytjchioopfljjhaa.hi F a k = X at *
          generalize F (a + k) = x at *
          obtain ⟨xh, xi, xc, xk⟩ := x
          simp only at c0 c1 c2 c3 hFk HRn
          have hne : b ≠ w.heap.size := by omega
          have hne2 : b ≠ wr.heap.size := by omega
          have hne3 : w.heap.size ≠ wr.heap.size := by omega
          have hk2 : (k : Int) < (q : Int) := by omega
          have hbr : b < wr.heap.size := by omega
          have HBy : Box (∀ o v, Below w.heap.size w (((wr.setCell ⟨w.heap.size, p, none⟩ v).alloc o).drew)) := boxed (fun o v => ((HBx.out.setCell (Nat.le_refl _) _).alloc (by simp; omega) _).drew)
          clear e0
          go_wp2_with fail
          go_region
          go_wp2_with fail
          go_roundw
          case rel => exact ⟨k + 1, by omega, by go_num, boxed (HRn.out _), boxed (HBy.out _ _)⟩
          case measure => simp [intOf]; omega
        · obtain rfl : k = q := by omega
          have HRn : Box (RowI wr w.heap.size J (hgs F L n (p + 1) 0)) := boxed (by
            obtain ⟨arr, e0, hs, hg⟩ := HRx.out
            refine ⟨arr, e0, hs, fun i hi => ?_⟩
            rw [hg i hi]
            congr 2
            unfold hgs
            by_cases i1 : i < p
            · rw [if_pos i1, if_pos (by omega)]
            · by_cases i2 : i = p
              · subst i2
                rw [if_neg i1, if_pos rfl, if_pos (by omega)]
                unfold hgt
                rw [HQ.out]
              · rw [if_neg i1, if_neg i2, if_neg (by omega)]
                split <;> rfl)
          go_wp2_with fail
          go_roundw
          case rel => exact ⟨p + 1, by omega, by go_num, HRn, HBx⟩
          case measure => simp [intOf]; omega
    · obtain rfl : p = J := by omega
      have HRn : Box (RowI wr w.heap.size p (hgt F L n)) := boxed (by
        obtain ⟨arr, e0, hs, hg⟩ := HRo.out
        refine ⟨arr, e0, hs, fun i hi => ?_⟩
        rw [hg i hi]
        unfold hgs
        rw [if_pos hi])
      go_wp2_with fail
      go_ret
      exact ⟨_, _, rfl, Nat.le_refl _, HRn.out, HB.out⟩
end Go.Proofs.Ytjchioopfljjhaa
