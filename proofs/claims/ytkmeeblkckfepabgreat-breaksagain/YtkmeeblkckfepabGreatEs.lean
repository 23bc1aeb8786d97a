/-
  What the program's starts and sums make: for each item the first one behind it with which a line may begin, and what those ahead of it come to.
-/
import Derived.Test.YtkmeeblkckfepabGreatEq
namespace Go.Proofs.YtkmeeblkckfepabGreat
open Go.RowKit
set_option linter.unusedSimpArgs false
set_option linter.unusedVariables false

/-- Sums as they lie in memory, in blocks that S names. -/
def SmsAt (S : Nat → Prop) (w : World) (ao : Option Addr) (n : Nat) (P : Nat → Sm) : Prop := ∀ i, i < n → ∃ b, ao = some ⟨b, 0, none⟩ ∧ S b ∧
    w.cell? ⟨b, i * 4, none⟩ = some (.int .i64 (P i).w) ∧ w.cell? ⟨b, i * 4 + 1, none⟩ = some (.int .i64 (P i).st) ∧ w.cell? ⟨b, i * 4 + 2, none⟩ = some (.int .i64 (P i).sh) ∧ w.cell? ⟨b, i * 4 + 3, none⟩ = some (.int .i64 (P i).f)
theorem SmsAt.keep {S S' : Nat → Prop} {w w' : World} {ao : Option Addr} {n : Nat} {P : Nat → Sm} (h : SmsAt S w ao n P) (k : Kp S S' w w') : SmsAt S' w' ao n P := by
  intro i hi
  obtain ⟨b, e, hs, c0, c1, c2, c3⟩ := h i hi
  exact ⟨b, e, (k _ _ _ hs c0).1, (k _ _ _ hs c0).2, (k _ _ _ hs c1).2, (k _ _ _ hs c2).2, (k _ _ _ hs c3).2⟩
/-- A row as it lies in its block. -/
theorem arr_at {W : World} {G k : Nat} {arr : Array Value} {t : TypeId} (e : W.heap[G]? = some (.cells arr t (0, 0))) (hk : k < arr.size) : W.cell? ⟨G, k, none⟩ = some arr[k] ∧ W.frozen? ⟨G, k, none⟩ = false := by
  refine ⟨?_, ?_⟩
  · rw [cell_of_row W G k arr t (0, 0) e]; simp [hk]
  · unfold World.frozen?; rw [e]; simp
theorem arr_set {W : World} {G k : Nat} {arr : Array Value} {t : TypeId} (v : Value) (e : W.heap[G]? = some (.cells arr t (0, 0))) : (W.setCell ⟨G, k, none⟩ v).heap[G]? = some (.cells (arr.setIfInBounds k v) t (0, 0)) := by
  simp [World.setCell, Array.getElem?_modify, e]
/-- Four values put into a row. -/
def set4 (W : World) (G o : Nat) (v0 v1 v2 v3 : Value) : World := (((W.setCell ⟨G, o, none⟩ v0).setCell ⟨G, o + 1, none⟩ v1).setCell ⟨G, o + 2, none⟩ v2).setCell ⟨G, o + 3, none⟩ v3
def ar4 (arr : Array Value) (o : Nat) (v0 v1 v2 v3 : Value) : Array Value := (((arr.setIfInBounds o v0).setIfInBounds (o + 1) v1).setIfInBounds (o + 2) v2).setIfInBounds (o + 3) v3
theorem set4_heap {W : World} {G o : Nat} {arr : Array Value} {t : TypeId} (v0 v1 v2 v3 : Value) (e : W.heap[G]? = some (.cells arr t (0, 0))) : (set4 W G o v0 v1 v2 v3).heap[G]? = some (.cells (ar4 arr o v0 v1 v2 v3) t (0, 0)) := by
  unfold set4 ar4
  exact arr_set _ (arr_set _ (arr_set _ (arr_set _ e)))
theorem set4_grown (W : World) (G o : Nat) (v0 v1 v2 v3 : Value) : W.grownBy (set4 W G o v0 v1 v2 v3) (some G) := by
  unfold set4
  exact grown_trans (grown_trans (grown_trans (grown_set _ _ _ _) (grown_set _ _ _ _)) (grown_set _ _ _ _)) (grown_set _ _ _ _)
theorem ar4_size (arr : Array Value) (o : Nat) (v0 v1 v2 v3 : Value) : (ar4 arr o v0 v1 v2 v3).size = arr.size := by simp [ar4]
theorem ar4_far (arr : Array Value) (o j : Nat) (v0 v1 v2 v3 : Value) (h : j < o) : (ar4 arr o v0 v1 v2 v3)[j]? = arr[j]? := by
  unfold ar4
  rw [Array.getElem?_setIfInBounds_ne (by omega), Array.getElem?_setIfInBounds_ne (by omega), Array.getElem?_setIfInBounds_ne (by omega), Array.getElem?_setIfInBounds_ne (by omega)]
theorem ar4_at (arr : Array Value) (o r : Nat) (v0 v1 v2 v3 : Value) (hr : r < 4) (h : o + 3 < arr.size) : (ar4 arr o v0 v1 v2 v3)[o + r]? = [v0, v1, v2, v3][r]? := by
  unfold ar4
  rcases (show r = 0 ∨ r = 1 ∨ r = 2 ∨ r = 3 by omega) with rfl | rfl | rfl | rfl
  · rw [Array.getElem?_setIfInBounds_ne (by omega), Array.getElem?_setIfInBounds_ne (by omega), Array.getElem?_setIfInBounds_ne (by omega)]
    simp [Array.getElem?_setIfInBounds]; omega
  · rw [Array.getElem?_setIfInBounds_ne (by omega), Array.getElem?_setIfInBounds_ne (by omega)]
    simp [Array.getElem?_setIfInBounds]; omega
  · rw [Array.getElem?_setIfInBounds_ne (by omega)]
    simp [Array.getElem?_setIfInBounds]; omega
  · simp [Array.getElem?_setIfInBounds]; omega
theorem grown_kept8 {a b : World} {F k : Nat} (h : a.grownBy b (some F)) (hk : k < a.heap.size) (hF : k ≠ F) : b.heap[k]? = a.heap[k]? := h.block k hk (fun e => hF (by injection e))
theorem info_sum : (Tryz.prog.info? 88).map (fun i => (i.zero, i.size, i.bytes)) = some (some (.agg #[.int .i64 0, .int .i64 0, .int .i64 0, .int .i64 0]), 4, 32) := by kernel_rfl
theorem nb_step (I : Nat → Itm) (n j : Nat) (h : j < n) : nb I (n - j) j = if beg (I j) = true then j else nb I (n - (j + 1)) (j + 1) := by
  rw [show n - j = (n - (j + 1)) + 1 by omega]
  rfl
set_option maxRecDepth 100000 in
set_option maxHeartbeats 4000000 in
theorem starts_any (S : Nat → Prop) (ao : Option Addr) (n c : Nat) (I : Nat → Itm) (w : World) (h : ItsAt S w ao n I) (hn : 0 < n) (hm : n ≤ 262144) :
    Calls Tryz.prog 27 #[.slice ao n c] w fun e w' => ∃ ao' c', e = .returned (.slice ao' n c') ∧ NAt (fun b => w.heap.size ≤ b) w' ao' ((List.range n).map (nxt I n)) ∧ Below w.heap.size w w' := by
  obtain ⟨i0, hi, hz0, hz1, hz2⟩ := info_parts info_int8
  have hmk : ∀ W : World, (Instr.makeSlice 31 (.int .i64 (n : Int)) (.int .i64 (n : Int))).run Tryz.prog W = .ok (.slice (some ⟨W.heap.size, 0, none⟩) n n) (W.alloc (.cells (madeCells #[Value.int .i64 0] n) 3)) := by
    intro W
    have := run_makeSlice (w := W) 31 3 i0 (.int .i64 0) Tryz.underlying31 hi hz0 .i64 .i64 (n : Int) (n : Int) (by omega) (by omega) (by rw [hz1]; simp; omega) (by rw [hz2]; omega) (by omega)
    rw [this, hz1]
    simp [Value.cells]
  have hsz : (madeCells #[Value.int .i64 0] n).size = n := by
    have := congrArg List.length (toList_madeCells_one (Value.int .i64 0) n)
    simpa using this
  have HH := boxed h
  clear h
  obtain ⟨A0, hA0⟩ : ∃ A0, madeCells #[Value.int .i64 0] n = A0 := ⟨_, rfl⟩
  rw [hA0] at hmk hsz
  clear hA0
  obtain ⟨G, hG⟩ : ∃ G, w.heap.size = G := ⟨_, rfl⟩
  rw [hG]
  have hG2 := boxed hG
  go_enter Tryz.func27, Tryz.ntmps27
  go_wp2_with fail
  go_loopw [4, 5] (fun f kv wr => ∃ j : Nat, j ≤ n ∧ kv = .int .i64 ((j : Int) - 1) ∧ f = .int .i64 (nb I (n - j) j : Nat) ∧ Box (Below G w wr) ∧ Box (∃ arr : Array Value, wr.heap[G]? = some (.cells arr 3 (0, 0)) ∧ arr.size = n ∧ ∀ i, j ≤ i → i < n → arr[i]? = some (.int .i64 (nxt I n i : Nat)))) (fun _ kv _ => (intOf kv + 1).toNat)
  case atStart =>
    refine ⟨n, Nat.le_refl _, rfl, by rw [Nat.sub_self]; rfl, boxed ((Below.refl _ _).alloc (by omega) _), boxed ⟨A0, ?_, hsz, fun i h1 h2 => by omega⟩⟩
    rw [← hG2.out]
    exact heap_alloc_new w _
  case round =>
    obtain ⟨j, hj, rfl, rfl, HB, HE⟩ := hrel
    by_cases hlt : 0 < j
    · obtain ⟨k, rfl⟩ : ∃ k, j = k + 1 := ⟨j - 1, by omega⟩
      obtain ⟨arr, e0, hsa, hget⟩ := HE.out
      obtain ⟨a0, a1⟩ := arr_at e0 (k := k) (by omega)
      obtain ⟨b, off, e, -, c0, c1, c2, c3, c4, c5, c6, c7, c8⟩ := (HH.out.below (by rw [hG2.out]; exact HB.out)) k (by omega)
      obtain ⟨b', off', e', -, d0, -⟩ := HH.out k (by omega)
      have hbG : b < G := by
        have := World.block_lt_of_cell? w _ d0
        rw [e] at e'
        injection e' with e'
        injection e' with e1 e2 e3
        subst e1
        have := hG2.out
        simp at *
        omega
      subst e
      clear e' d0
      have hne : b ≠ G := by omega
      have hne2 : G ≠ b := by omega
      have e5 : ((k + 1 : Nat) : Int) - 1 = (k : Nat) := by omega
      have e6 : (k : Int) + 1 - 1 = (k : Nat) := by omega
      have HE2 : Box ((wr.setCell ⟨G, k, none⟩ (.int .i64 (nb I (n - (k + 1)) (k + 1) : Nat))).heap[G]? = some (.cells (arr.setIfInBounds k (.int .i64 (nb I (n - (k + 1)) (k + 1) : Nat))) 3 (0, 0))) := boxed (arr_set _ e0)
      have HG2 : Box (∀ i, k ≤ i → i < n → (arr.setIfInBounds k (.int .i64 (nb I (n - (k + 1)) (k + 1) : Nat)))[i]? = some (.int .i64 (nxt I n i : Nat))) := boxed (fun i h1 h2 => by
        by_cases c : i = k
        · subst c
          rw [Array.getElem?_setIfInBounds_self_of_lt (by omega)]
          rfl
        · rw [Array.getElem?_setIfInBounds_ne (by omega)]
          exact hget i (by omega) h2)
      have HS2 : Box ((arr.setIfInBounds k (.int .i64 (nb I (n - (k + 1)) (k + 1) : Nat))).size = n) := boxed (by simp [hsa])
      have HN := boxed (nb_step I n k (by omega))
      have hbg := fun w => begins_any (I k) w
      have HBs : Box (Below G w (wr.setCell ⟨G, k, none⟩ (.int .i64 (nb I (n - (k + 1)) (k + 1) : Nat)))) := boxed (HB.out.setCell (by simp) _)
      have hGr : G < wr.heap.size := by
        have := World.block_lt_of_cell? wr _ a0
        simpa using this
      unfold Itm.val at hbg
      clear e0 hget HE HB
      generalize arr.setIfInBounds k (.int .i64 (nb I (n - (k + 1)) (k + 1) : Nat)) = arr2 at *
      obtain ⟨y0, hy0⟩ : ∃ y, arr[k] = y := ⟨_, rfl⟩
      rw [hy0] at a0
      clear hy0 hsa arr
      generalize nb I (n - (k + 1)) (k + 1) = F at *
      cases hbb : beg (I k)
      all_goals
        rw [hbb] at hbg HN
        generalize I k = x at *
        go_wp2_with fail
        refine (hbg _).mono ?_
        rintro e w2 ⟨rfl, hb2⟩
        have HB2 := boxed (HBs.out.trans (hb2.mono (by first | (simp; done) | (simp; omega))))
        have HE3 := boxed ((hb2.block G (by first | (simp; done) | (simp; omega))).trans HE2.out)
        clear hb2 hbg HE2 c0 c1 c2 c3 c4 c5 c6 c7 c8 a0 a1
        go_wp2_with fail
        go_roundw
        case rel => exact ⟨k, by omega, by go_num, by rw [HN.out]; rfl, HB2, boxed ⟨arr2, HE3.out, HS2.out, HG2.out⟩⟩
        case measure => first | (simp [intOf]; done) | (simp [intOf]; omega)
    · obtain rfl : j = 0 := by omega
      go_wp2
      go_ret
      obtain ⟨arr, e0, hsa, hget⟩ := HE.out
      refine ⟨_, _, rfl, fun i hi => ⟨G, rfl, Nat.le_refl _, ?_⟩, HB.out⟩
      have hi' : i < n := by simpa using hi
      rw [cell_of_row wr G i arr 3 (0, 0) e0, hget i (Nat.zero_le _) hi']
      simp [hi']
set_option maxRecDepth 100000 in
set_option maxHeartbeats 4000000 in
theorem sums_any (S : Nat → Prop) (ao : Option Addr) (n c : Nat) (I : Nat → Itm) (w : World) (h : ItsAt S w ao n I) (hn : 0 < n) (hm : n ≤ 262144) (hok : ∀ i, i < n → okI I i = true) :
    Calls Tryz.prog 28 #[.slice ao n c] w fun e w' => ∃ ao' c', e = .returned (.slice ao' n c') ∧ SmsAt (fun b => w.heap.size ≤ b) w' ao' n (pre I) ∧ Below w.heap.size w w' := by
  obtain ⟨i0, hi, hz0, hz1, hz2⟩ := info_parts info_sum
  have hmk : ∀ W : World, (Instr.makeSlice 58 (.int .i64 (n : Int)) (.int .i64 (n : Int))).run Tryz.prog W = .ok (.slice (some ⟨W.heap.size, 0, none⟩) n n) (W.alloc (.cells (madeCells #[Value.int .i64 0, Value.int .i64 0, Value.int .i64 0, Value.int .i64 0] (n * 4)) 88)) := by
    intro W
    have := run_makeSlice (w := W) 58 88 i0 _ Tryz.underlying58 hi hz0 .i64 .i64 (n : Int) (n : Int) (by omega) (by omega) (by rw [hz1]; simp; omega) (by rw [hz2]; omega) (by omega)
    rw [this, hz1]
    simp [Value.cells]
  have hsz : (madeCells #[Value.int .i64 0, Value.int .i64 0, Value.int .i64 0, Value.int .i64 0] (n * 4)).size = n * 4 := by
    simp [madeCells]
  have HH := boxed h
  clear h
  obtain ⟨A0, hA0⟩ : ∃ A0, madeCells #[Value.int .i64 0, Value.int .i64 0, Value.int .i64 0, Value.int .i64 0] (n * 4) = A0 := ⟨_, rfl⟩
  rw [hA0] at hmk hsz
  clear hA0
  obtain ⟨G, hG⟩ : ∃ G, w.heap.size = G := ⟨_, rfl⟩
  rw [hG]
  have hG2 := boxed hG
  go_enter Tryz.func28, Tryz.ntmps28
  go_wp2_with fail
  go_loopw [13] (fun kv wr => ∃ k : Nat, k ≤ n ∧ kv = .int .i64 (k : Int) ∧ Box (Below G w wr) ∧ Box (wr.heap[G + 1]? = some (.cells #[.int .i64 (pre I k).w, .int .i64 (pre I k).st, .int .i64 (pre I k).sh, .int .i64 (pre I k).f] 88 (0, 0))) ∧ Box (∃ arr : Array Value, wr.heap[G]? = some (.cells arr 88 (0, 0)) ∧ arr.size = n * 4 ∧ ∀ i r, i < k → r < 4 → arr[i * 4 + r]? = ((pre I i).cells)[r]?)) (fun kv _ => n - (intOf kv).toNat)
  case atStart =>
    refine ⟨0, Nat.zero_le _, rfl, boxed (((Below.refl _ _).alloc (by omega) _).alloc (by simp; omega) _), boxed ?_, boxed ⟨A0, ?_, hsz, fun i r h1 h2 => by omega⟩⟩
    · have := heap_alloc_new (w.alloc (.cells A0 88)) (.cells #[.int .i64 0, .int .i64 0, .int .i64 0, .int .i64 0] 88)
      rw [World.size_alloc, hG2.out] at this
      exact this
    · rw [Below.heap_alloc _ _ _ (by simp; omega), ← hG2.out]
      exact heap_alloc_new w _
  case round =>
    obtain ⟨k, hk, rfl, HB, HT, HE⟩ := hrel
    by_cases hlt : k < n
    · obtain ⟨arr, e0, hsa, hget⟩ := HE.out
      obtain ⟨v0, a0, y0⟩ : ∃ v, wr.cell? ⟨G, k * 4, none⟩ = some v ∧ wr.frozen? ⟨G, k * 4, none⟩ = false := ⟨_, arr_at e0 (k := k * 4) (by omega)⟩
      obtain ⟨v1, a1, y1⟩ : ∃ v, wr.cell? ⟨G, k * 4 + 1, none⟩ = some v ∧ wr.frozen? ⟨G, k * 4 + 1, none⟩ = false := ⟨_, arr_at e0 (k := k * 4 + 1) (by omega)⟩
      obtain ⟨v2, a2, y2⟩ : ∃ v, wr.cell? ⟨G, k * 4 + 2, none⟩ = some v ∧ wr.frozen? ⟨G, k * 4 + 2, none⟩ = false := ⟨_, arr_at e0 (k := k * 4 + 2) (by omega)⟩
      obtain ⟨v3, a3, y3⟩ : ∃ v, wr.cell? ⟨G, k * 4 + 3, none⟩ = some v ∧ wr.frozen? ⟨G, k * 4 + 3, none⟩ = false := ⟨_, arr_at e0 (k := k * 4 + 3) (by omega)⟩
      obtain ⟨⟨t0, t1, t2, t3⟩, z0, z1, z2, z3⟩ := cells4 HT.out
      obtain ⟨b, off, e, -, c0, c1, c2, c3, c4, c5, c6, c7, c8⟩ := (HH.out.below (by rw [hG2.out]; exact HB.out)) k hlt
      obtain ⟨b', off', e', -, d0, -⟩ := HH.out k hlt
      have hbG : b < G := by
        have := World.block_lt_of_cell? w _ d0
        rw [e] at e'
        injection e' with e'
        injection e' with e1 e2 e3
        subst e1
        have := hG2.out
        simp at *
        omega
      subst e
      clear e' d0
      have hne : b ≠ G := by omega
      have hne2 : G ≠ b := by omega
      have hne3 : b ≠ G + 1 := by omega
      have hGr : G + 1 < wr.heap.size := by
        have := World.block_lt_of_cell? wr _ t0
        simpa using this
      have hGr2 : G < wr.heap.size := by omega
      have hbr : b < wr.heap.size := by omega
      have q6 : b ≠ wr.heap.size := by omega
      have q7 : G ≠ wr.heap.size := by omega
      have q8 : G + 1 ≠ wr.heap.size := by omega
      have t9 : decide ((k : Int) < (n : Int)) = true := decide_eq_true (by omega)
      obtain ⟨p1, p2, p3, p4⟩ := pre_le I n hok k hk
      have hand := fun w => and_any (pre I k) (I k) w (by unfold Sfit; omega) (by have := okI_ms I k (hok k hlt); unfold Ifit; omega)
      have HP : Box (pre I (k + 1) = acc (pre I k) (I k)) := boxed rfl
      have E4 := set4_heap (o := k * 4) (.int .i64 (pre I k).w) (.int .i64 (pre I k).st) (.int .i64 (pre I k).sh) (.int .i64 (pre I k).f) e0
      have G4 := set4_grown wr G (k * 4) (.int .i64 (pre I k).w) (.int .i64 (pre I k).st) (.int .i64 (pre I k).sh) (.int .i64 (pre I k).f)
      have T4 := (grown_kept8 G4 (k := G + 1) hGr (by omega)).trans HT.out
      have B4 := HB.out.trans (grown_below G4 (Nat.le_refl _) (by omega))
      have HG : Box (∀ i r, i < k + 1 → r < 4 → (ar4 arr (k * 4) (.int .i64 (pre I k).w) (.int .i64 (pre I k).st) (.int .i64 (pre I k).sh) (.int .i64 (pre I k).f))[i * 4 + r]? = ((pre I i).cells)[r]?) := boxed (fun i r h1 h2 => by
        by_cases c : i = k
        · subst c
          exact ar4_at arr (i * 4) r _ _ _ _ h2 (by omega)
        · rw [ar4_far _ _ _ _ _ _ _ (by omega)]
          exact hget i r (by omega) h2)
      have HS : Box ((ar4 arr (k * 4) (.int .i64 (pre I k).w) (.int .i64 (pre I k).st) (.int .i64 (pre I k).sh) (.int .i64 (pre I k).f)).size = n * 4) := boxed (by rw [ar4_size]; exact hsa)
      generalize ar4 arr (k * 4) (.int .i64 (pre I k).w) (.int .i64 (pre I k).st) (.int .i64 (pre I k).sh) (.int .i64 (pre I k).f) = arr2 at *
      have hz4 : wr.heap.size = (set4 wr G (k * 4) (.int .i64 (pre I k).w) (.int .i64 (pre I k).st) (.int .i64 (pre I k).sh) (.int .i64 (pre I k).f)).heap.size := by simp [set4]
      unfold set4 at E4 T4 B4 hz4
      replace E4 := boxed E4
      replace T4 := boxed T4
      replace B4 := boxed B4
      replace hz4 := boxed hz4
      clear G4 e0 hget hsa HE HT
      unfold Sm.val Itm.val at hand
      go_wp2_with fail
      refine (hand _).mono ?_
      rintro e w2 ⟨rfl, hb2⟩
      have HB2 := boxed (kept_below B4.out (by have := hz4.out; omega) hb2)
      have E5 := boxed ((hb2.block G (by have := hz4.out; simp; omega)).trans ((Below.heap_alloc _ _ _ (by have := hz4.out; omega)).trans E4.out))
      have T5 := (hb2.block (G + 1) (by have := hz4.out; simp; omega)).trans ((Below.heap_alloc _ _ _ (by have := hz4.out; omega)).trans T4.out)
      have hz2 : G + 1 < w2.heap.size := by have := hb2.size; have := hz4.out; simp at *; omega
      clear hb2 hand E4 T4 B4 hz4 c0 c1 c2 c3 c4 c5 c6 c7 c8 a0 a1 a2 a3 y0 y1 y2 y3 t0 t1 t2 t3 z0 z1 z2 z3
      obtain ⟨⟨t0, t1, t2, t3⟩, z0, z1, z2, z3⟩ := cells4 T5
      have T6 := boxed (put4_heap T5 (.int .i64 (acc (pre I k) (I k)).w) (.int .i64 (acc (pre I k) (I k)).st) (.int .i64 (acc (pre I k) (I k)).sh) (.int .i64 (acc (pre I k) (I k)).f))
      have G6 := boxed (put4_grown w2 (G + 1) (.int .i64 (acc (pre I k) (I k)).w) (.int .i64 (acc (pre I k) (I k)).st) (.int .i64 (acc (pre I k) (I k)).sh) (.int .i64 (acc (pre I k) (I k)).f))
      clear T5
      go_wp2_with fail
      go_roundw
      case rel => exact ⟨k + 1, by omega, by go_num, boxed (HB2.out.trans (grown_below G6.out (by omega) (by omega))), boxed (by rw [HP.out]; exact T6.out), boxed ⟨arr2, (grown_kept8 G6.out (k := G) (by omega) (by omega)).trans E5.out, HS.out, HG.out⟩⟩
      case measure => first | (simp [intOf]; done) | (simp [intOf]; omega)
    · have e : k = n := by omega
      subst e
      go_wp2
      go_ret
      obtain ⟨arr, e0, hsa, hget⟩ := HE.out
      refine ⟨_, _, rfl, fun i hi => ⟨G, rfl, Nat.le_refl _, ?_⟩, HB.out⟩
      have key : ∀ r, r < 4 → wr.cell? ⟨G, i * 4 + r, none⟩ = ((pre I i).cells)[r]? := fun r hr => by
        rw [cell_of_row wr G _ arr 88 (0, 0) e0, hget i r hi hr]
      exact ⟨key 0 (by omega), key 1 (by omega), key 2 (by omega), key 3 (by omega)⟩
end Go.Proofs.YtkmeeblkckfepabGreat
