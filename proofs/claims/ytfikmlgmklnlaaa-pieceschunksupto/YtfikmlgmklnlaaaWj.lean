/-
  What the program's byteAt answers.
-/
import Derived.Deep.LoopGhost
import Derived.Deep.QuietTactic
import Derived.BigQuiet
import Derived.Test.YtfikmlgmklnlaaaWi
namespace Go.Proofs.Ytfikmlgmklnlaaa
open Go.RowKit
set_option linter.unusedSimpArgs false
set_option linter.unusedVariables false

/-- The byte at a place, and whether there is one. -/
def bat (l : List Nat) (a : Int) : Nat × Bool := if 0 ≤ a ∧ a < (l.length : Int) then (l.getD a.toNat 0, true) else (0, false)
theorem bat_nil (a : Int) : bat [] a = (0, false) := by
  unfold bat
  rw [if_neg]
  simp only [List.length_nil]
  omega
theorem bat_low (l m : List Nat) (a : Int) (h : a < (l.length : Int)) : bat (l ++ m) a = bat l a := by
  unfold bat
  by_cases h0 : 0 ≤ a
  · rw [if_pos ⟨h0, by simp; omega⟩, if_pos ⟨h0, h⟩]
    congr 1
    simp only [List.getD_eq_getElem?_getD]
    rw [List.getElem?_append_left (by omega)]
  · rw [if_neg (by omega), if_neg (by omega)]
theorem bat_high (l m : List Nat) (a : Int) (h : (l.length : Int) ≤ a) : bat (l ++ m) a = bat m (a - (l.length : Int)) := by
  unfold bat
  by_cases h0 : a < ((l ++ m).length : Int)
  · have h1 : a - (l.length : Int) < (m.length : Int) := by simp at h0; omega
    rw [if_pos ⟨by omega, h0⟩, if_pos ⟨by omega, h1⟩]
    congr 1
    simp only [List.getD_eq_getElem?_getD]
    rw [List.getElem?_append_right (by omega)]
    congr 2
    omega
  · rw [if_neg (by omega), if_neg (by simp at h0; omega)]
theorem bat_in (l : List Nat) (k : Nat) (h : k < l.length) : bat l (k : Int) = (l.getD k 0, true) := by
  unfold bat; rw [if_pos (by omega)]; simp

theorem bel_drewN2 {B : Nat} {w w' : World} (h : Below B w w') (n : Nat) : Below B w (w'.drewN n) := ⟨h.os, h.tape, h.output, h.size, h.block⟩

set_option maxRecDepth 100000 in
set_option maxHeartbeats 4000000 in
theorem byteAt_any (S : Nat → Nat → Prop) (T : Tr) (x : Option Addr) (a : Int) (w : World) (h : IsT S w x T) (hlen : T.flat.length ≤ 1099511627776) (ha : -9223372036854775808 ≤ a ∧ a ≤ 9223372036854775807) :
    Calls Try.prog 38 #[.pointer x, .int .i64 a] w fun e w' => e = .returned (.tuple #[.int .u8 ((bat T.flat a).1 : Nat), .bool (bat T.flat a).2]) ∧ Below w.heap.size w w' := by
  have HI : Box (IsT S w x T ∧ T.flat.length ≤ 1099511627776) := boxed ⟨h, hlen⟩
  clear h hlen
  go_enter Try.func38, Try.ntmps38
  go_wp2
  go_loopg [0, 1] T.pcs.length (fun k q av wr => Box (Below w.heap.size w wr) ∧ ∃ (t : Tr) (y : Option Addr) (c : Int), q = .pointer y ∧ av = .int .i64 c ∧ Box (IsT S wr y t ∧ t.flat.length ≤ 1099511627776) ∧ Box (t.pcs.length ≤ k) ∧
      (-9223372036854775808 ≤ c ∧ c ≤ 9223372036854775807) ∧ Box (bat T.flat a = bat t.flat c))
  case atStart => exact ⟨boxed (Below.refl _ _), T, x, a, rfl, rfl, HI, boxed (Nat.le_refl _), ha, boxed rfl⟩
  case round =>
    obtain ⟨HB, t, y, c, rfl, rfl, HT, HK, hc, HQ⟩ := hrel
    clear HI ha
    cases t with
    | nil =>
      obtain rfl : y = none := HT.out.1
      have HR : Box (bat T.flat a = (0, false)) := boxed (by rw [HQ.out]; exact bat_nil c)
      clear HT HQ HK
      go_wp2
      refine bodyPost_ret (v := .tuple #[.int .u8 0, .bool false]) (by simp [results, Try.results38, go_sem]) rfl ⟨?_, HB.out⟩
      rw [HR.out]; rfl
    | node l p r =>
      obtain ⟨⟨b, pl, pr, rfl, hs, ⟨c0, c1, c2, c3, -, -, -, -⟩, hp, hl, hr⟩, hlen⟩ := HT.out
      have htot := total_any S l pl wr hl
      rw [flat_node] at hlen
      simp only [List.length_append] at hlen
      have HQ' : Box (bat T.flat a = bat (l.flat ++ (p.l ++ r.flat)) c) := boxed (by rw [HQ.out, flat_node])
      have HK' : Box (l.pcs.length < gk ∧ r.pcs.length < gk) := boxed (by have := HK.out; simp only [Tr.pcs, List.length_append, List.length_cons] at this; omega)
      have HC : Box (∀ w', Below wr.heap.size wr w' → w'.cell? ⟨b, 0, none⟩ = some (.pointer pl) ∧ w'.cell? ⟨b, 1, none⟩ = some (.pointer pr) ∧ w'.cell? ⟨b, 2, none⟩ = some (.slice (some ⟨p.a, p.o, none⟩) p.l.length p.cap)) :=
        boxed (fun w' hb => ⟨hold hb c0, hold hb c1, hold hb c2⟩)
      have HL := boxed hl
      have HR := boxed hr
      have HP := boxed hp
      have hbz : b < wr.heap.size := by have := World.block_lt_of_cell? wr _ c0; simpa using this
      have HLen : Box (l.flat.length ≤ 1099511627776 ∧ r.flat.length ≤ 1099511627776) := boxed (by omega)
      have hb1' : (l.flat.length : Int) ≤ 1099511627776 := by omega
      have hb2' : (p.l.length : Int) ≤ 1099511627776 := by omega
      clear hs hp hl hr HT HQ HK c1 c2 c3 hlen
      have HQ := HQ'
      clear HQ'
      by_cases h1 : c < (l.flat.length : Int)
      · have t1 : decide (c < (l.flat.length : Int)) = true := decide_eq_true h1
        have HQ2 : Box (bat T.flat a = bat l.flat c) := boxed (by rw [HQ.out]; exact bat_low _ _ _ h1)
        clear h1
        generalize hE1 : l.flat.length = L1 at *
        generalize nl l.flat = L2 at *
        generalize hE3 : l.pcs.length = L3 at *
        generalize l.dep = L4 at *
        have HE := boxed hE3
        have HE1 := boxed hE1
        clear hE3 hE1
        go_wp2_with fail
        refine htot.mono ?_
        rintro e w1 ⟨rfl, hb1⟩
        have HB1 := boxed hb1
        have k0 := (HC.out _ hb1).1
        have hz : b < w1.heap.size := Nat.lt_of_lt_of_le hbz hb1.size
        have hz' : w1.heap.size ≠ b := by omega
        clear hb1 htot c0
        go_wp2_with fail
        have hbl := HB1.out.alloc HB1.out.size (Obj.cells #[Value.int .i64 (L1 : Int), Value.int .i64 (L2 : Int), Value.int .i64 (L3 : Int), Value.int .i64 (L4 : Int)] 64)
        go_roundg L3
        case measure => exact HK'.out.1
        case rel => exact ⟨boxed (below_step HB.out (Nat.le_refl _) hbl), l, pl, c, rfl, rfl, boxed ⟨HL.out.below hbl, by have := HLen.out.1; have := HE1.out; omega⟩, boxed (Nat.le_of_eq HE.out), hc, HQ2⟩
      · have t1 : decide (c < (l.flat.length : Int)) = false := decide_eq_false h1
        by_cases h2 : c - (l.flat.length : Int) < (p.l.length : Int)
        · obtain ⟨K, hK⟩ : ∃ K : Nat, c - (l.flat.length : Int) = (K : Int) := ⟨(c - (l.flat.length : Int)).toNat, by omega⟩
          have hKp : K < p.l.length := by omega
          have t2 : decide ((K : Int) < (p.l.length : Int)) = true := decide_eq_true (by omega)
          have t2' : decide (K < p.l.length) = true := decide_eq_true hKp
          have HQ2 : Box (bat T.flat a = (p.l.getD K 0, true)) := boxed (by rw [HQ.out, bat_high _ _ _ (by omega), hK, bat_low _ _ _ (by omega), bat_in _ _ hKp])
          have HPC : Box (∀ w', Below wr.heap.size wr w' → w'.cell? ⟨p.a, p.o + K, none⟩ = some (.int .u8 ((p.l.getD K 0 : Nat) : Int))) := boxed (fun w' hb => hold hb (HP.out.2 K hKp).2)
          have hpa : p.a < wr.heap.size := by have := World.block_lt_of_cell? wr _ (HP.out.2 K hKp).2; simpa using this
          clear h1 h2 HL HR HLen
          generalize l.flat.length = L1 at *
          generalize nl l.flat = L2 at *
          generalize l.pcs.length = L3 at *
          generalize l.dep = L4 at *
          generalize p.l.getD K 0 = V at *
          generalize p.l.length = P at *
          go_wp2_with fail
          refine htot.mono ?_
          rintro e w1 ⟨rfl, hb1⟩
          have HB1 := boxed hb1
          obtain ⟨k0, k1, k2⟩ := HC.out _ hb1
          have kv := HPC.out _ hb1
          have hz : b < w1.heap.size := Nat.lt_of_lt_of_le hbz hb1.size
          have hz' : w1.heap.size ≠ b := by omega
          have hz3 : p.a < w1.heap.size := Nat.lt_of_lt_of_le hpa hb1.size
          have hz2 : w1.heap.size ≠ p.a := by omega
          clear hb1 htot c0
          go_wp2_with fail
          have hbl := HB1.out.alloc HB1.out.size (Obj.cells #[Value.int .i64 (L1 : Int), Value.int .i64 (L2 : Int), Value.int .i64 (L3 : Int), Value.int .i64 (L4 : Int)] 64)
          refine bodyPost_ret (v := .tuple #[.int .u8 V, .bool true]) (by simp [results, Try.results38, go_sem]) rfl ⟨?_, below_step HB.out (Nat.le_refl _) hbl⟩
          rw [HQ2.out]
        · have t2 : decide (c - (l.flat.length : Int) < (p.l.length : Int)) = false := decide_eq_false h2
          have HQ2 : Box (bat T.flat a = bat r.flat (c - (l.flat.length : Int) - (p.l.length : Int))) := boxed (by rw [HQ.out, bat_high _ _ _ (by omega), bat_high _ _ _ (by omega)])
          have hbd : -9223372036854775808 ≤ c - (l.flat.length : Int) - (p.l.length : Int) ∧ c - (l.flat.length : Int) - (p.l.length : Int) ≤ 9223372036854775807 := by omega
          have hbd1 : -9223372036854775808 ≤ c - (l.flat.length : Int) ∧ c - (l.flat.length : Int) ≤ 9223372036854775807 := by omega
          have hw : IntKind.i64.wrap (c - (l.flat.length : Int) - (p.l.length : Int)) = c - (l.flat.length : Int) - (p.l.length : Int) := by rw [IntKind.wrap_i64]; omega
          clear h1 h2 HL HP
          generalize l.flat.length = L1 at *
          generalize nl l.flat = L2 at *
          generalize l.pcs.length = L3 at *
          generalize l.dep = L4 at *
          generalize p.l.length = P at *
          go_wp2_with fail
          refine htot.mono ?_
          rintro e w1 ⟨rfl, hb1⟩
          have HB1 := boxed hb1
          obtain ⟨k0, k1, k2⟩ := HC.out _ hb1
          have hz : b < w1.heap.size := Nat.lt_of_lt_of_le hbz hb1.size
          have hz' : w1.heap.size ≠ b := by omega
          clear hb1 htot c0
          go_wp2_with fail
          go_quiet (fail)
          go_wp2_with fail
          have hbl := HB1.out.alloc HB1.out.size (Obj.cells #[Value.int .i64 (L1 : Int), Value.int .i64 (L2 : Int), Value.int .i64 (L3 : Int), Value.int .i64 (L4 : Int)] 64)
          have hbd2 := bel_drewN2 hbl nq
          go_roundg r.pcs.length
          case measure => exact HK'.out.2
          case rel => exact ⟨boxed (below_step HB.out (Nat.le_refl _) hbd2), r, pr, c - (L1 : Int) - (P : Int), rfl, rfl, boxed ⟨HR.out.below hbd2, HLen.out.2⟩, boxed (Nat.le_refl _), hbd, HQ2⟩
end Go.Proofs.Ytfikmlgmklnlaaa
