/-
  A paragraph as it lies in memory; what the program's New answers.
-/
import Derived.Test.YtkmeeblkckfepabGreatEs
namespace Go.Proofs.YtkmeeblkckfepabGreat
open Go.RowKit
set_option linter.unusedSimpArgs false
set_option linter.unusedVariables false

/-- A paragraph of n items, in blocks that S names. -/
def ParaAt (S : Nat → Prop) (w : World) (pb n : Nat) (I : Nat → Itm) : Prop := ∃ (lo : Option Addr) (lc : Nat) (eo : Option Addr) (ec : Nat) (so : Option Addr) (sc : Nat) (uo : Option Addr) (uc : Nat), S pb ∧
    (w.cell? ⟨pb, 0, none⟩ = some (.slice lo n lc) ∧ w.cell? ⟨pb, 1, none⟩ = some (.slice eo (lgs I n n).length ec) ∧ w.cell? ⟨pb, 2, none⟩ = some (.slice so n sc) ∧ w.cell? ⟨pb, 3, none⟩ = some (.slice uo n uc) ∧ w.cell? ⟨pb, 4, none⟩ = some (.int .i64 (wst I n))) ∧
    ItsAt S w lo n I ∧ NAt S w eo (lgs I n n) ∧ NAt S w so ((List.range n).map (nxt I n)) ∧ SmsAt S w uo n (pre I)
theorem ParaAt.keep {S S' : Nat → Prop} {w w' : World} {pb n : Nat} {I : Nat → Itm} (h : ParaAt S w pb n I) (k : Kp S S' w w') : ParaAt S' w' pb n I := by
  obtain ⟨lo, lc, eo, ec, so, sc, uo, uc, hs, ⟨c0, c1, c2, c3, c4⟩, h1, h2, h3, h4⟩ := h
  exact ⟨lo, lc, eo, ec, so, sc, uo, uc, (k _ _ _ hs c0).1, ⟨(k _ _ _ hs c0).2, (k _ _ _ hs c1).2, (k _ _ _ hs c2).2, (k _ _ _ hs c3).2, (k _ _ _ hs c4).2⟩, h1.keep k, h2.keep k, h3.keep k, h4.keep k⟩
theorem ParaAt.below {S : Nat → Prop} {w w' : World} {pb n : Nat} {I : Nat → Itm} (h : ParaAt S w pb n I) (hb : Below w.heap.size w w') : ParaAt S w' pb n I := h.keep (kp_below hb)
theorem kp_more {S S' : Nat → Prop} {w w' : World} (hS : ∀ b, S b → S' b) (h : Below w.heap.size w w') : Kp S S' w w' := fun b i u hs hc => ⟨hS b hs, hold h hc⟩

set_option maxRecDepth 100000 in
set_option maxHeartbeats 4000000 in
theorem new_bad (S : Nat → Prop) (ao : Option Addr) (n c : Nat) (I : Nat → Itm) (w : World) (h : ItsAt S w ao n I) (hn : n ≤ maxLen) (hr : rgt I n = false) :
    Calls Tryz.prog 13 #[.slice ao n c] w fun e w' => e = .returned (.tuple #[.pointer none, .int .i64 70]) ∧ Below w.heap.size w w' := by
  have hR := right_any S ao n c I w h hn
  rw [hr] at hR
  simp only [rcode] at hR
  clear h
  go_enter Tryz.func13, Tryz.ntmps13
  go_wp2_with fail
  refine hR.mono ?_
  rintro e w1 ⟨rfl, hb1⟩
  have HB1 := boxed hb1
  clear hb1 hR
  go_wp2_with fail
  go_ret2
  exact ⟨rfl, HB1.out⟩
set_option maxRecDepth 100000 in
set_option maxHeartbeats 4000000 in
theorem new_any (S : Nat → Prop) (ao : Option Addr) (n c : Nat) (I : Nat → Itm) (w : World) (h : ItsAt S w ao n I) (hn : n ≤ maxLen) (hr : rgt I n = true) :
    Calls Tryz.prog 13 #[.slice ao n c] w fun e w' => ∃ pb, e = .returned (.tuple #[.pointer (some ⟨pb, 0, none⟩), .int .i64 0]) ∧ ParaAt (fun b => w.heap.size ≤ b) w' pb n I ∧ Below w.heap.size w w' := by
  have hR := right_any S ao n c I w h hn
  rw [hr] at hR
  simp only [rcode] at hR
  obtain ⟨h0, h1, -, hok⟩ := (rgt_iff I n).1 hr
  have HH := boxed h
  clear h hr
  have F1 := boxed (fun W (hb : Below w.heap.size w W) => cloneI_any S ao n c I W (HH.out.below hb) h0 h1)
  have F2 := boxed (fun W (hb : Below w.heap.size w W) => legal8_any S ao n c I W (HH.out.below hb) h1)
  have F3 := boxed (fun W (hb : Below w.heap.size w W) => starts_any S ao n c I W (HH.out.below hb) h0 h1)
  have F4 := boxed (fun W (hb : Below w.heap.size w W) => sums_any S ao n c I W (HH.out.below hb) h0 h1 hok)
  have F5 := boxed (fun W (hb : Below w.heap.size w W) => widest_any S ao n c I W (HH.out.below hb) h1)
  clear HH
  go_enter Tryz.func13, Tryz.ntmps13
  go_wp2_with fail
  refine hR.mono ?_
  rintro e w1 ⟨rfl, hb1⟩
  have HB1 := boxed hb1
  clear hb1 hR
  go_wp2_with fail
  refine (F1.out _ HB1.out).mono ?_
  rintro e w2 ⟨lo, lc, rfl, hI, hb2⟩
  have HI2 := boxed (hI.keep (kp_more (S' := fun b => w.heap.size ≤ b) (fun b hb => Nat.le_trans HB1.out.size hb) (Below.refl _ _)))
  have HB2 := boxed (below_step HB1.out (Nat.le_refl _) hb2)
  clear hI hb2 F1
  go_wp2_with fail
  refine (F2.out _ HB2.out).mono ?_
  rintro e w3 ⟨v3, rfl, hO, hb3⟩
  obtain ⟨eo, ec, rfl⟩ := own_shape hO
  have HN3 := boxed ((own_nat hO rfl).keep (kp_more (S' := fun b => w.heap.size ≤ b) (fun b hb => Nat.le_trans HB2.out.size hb) (Below.refl _ _)))
  have HI3 := boxed (HI2.out.below hb3)
  have HB3 := boxed (below_step HB2.out (Nat.le_refl _) hb3)
  clear hO hb3 F2 HI2
  go_wp2_with fail
  refine (F3.out _ HB3.out).mono ?_
  rintro e w4 ⟨so, sc, rfl, hO, hb4⟩
  have HS4 := boxed (hO.keep (kp_more (S' := fun b => w.heap.size ≤ b) (fun b hb => Nat.le_trans HB3.out.size hb) (Below.refl _ _)))
  have HI4 := boxed (HI3.out.below hb4)
  have HN4 := boxed (HN3.out.below hb4)
  have HB4 := boxed (below_step HB3.out (Nat.le_refl _) hb4)
  clear hO hb4 F3 HI3 HN3
  go_wp2_with fail
  refine (F4.out _ HB4.out).mono ?_
  rintro e w5 ⟨uo, uc, rfl, hO, hb5⟩
  have HU5 := boxed (hO.keep (kp_more (S' := fun b => w.heap.size ≤ b) (fun b hb => Nat.le_trans HB4.out.size hb) (Below.refl _ _)))
  have HI5 := boxed (HI4.out.below hb5)
  have HN5 := boxed (HN4.out.below hb5)
  have HS5 := boxed (HS4.out.below hb5)
  have HB5 := boxed (below_step HB4.out (Nat.le_refl _) hb5)
  clear hO hb5 F4 HI4 HN4 HS4
  go_wp2_with fail
  refine (F5.out _ HB5.out).mono ?_
  rintro e w6 ⟨rfl, hb6⟩
  have HI6 := boxed (HI5.out.below hb6)
  have HN6 := boxed (HN5.out.below hb6)
  have HS6 := boxed (HS5.out.below hb6)
  have HU6 := boxed (HU5.out.keep (kp_below hb6))
  have HB6 := boxed (below_step HB5.out (Nat.le_refl _) hb6)
  clear hb6 F5 HI5 HN5 HS5 HU5
  go_wp2_with fail
  go_ret2
  refine ⟨w6.heap.size, rfl, ?_, HB6.out.alloc HB6.out.size _⟩
  have hb7 : Below w6.heap.size w6 (w6.alloc (.cells #[.slice lo n lc, .slice eo (lgs I n n).length ec, .slice so n sc, .slice uo n uc, .int .i64 (wst I n)] 62)) := (Below.refl _ _).alloc (Nat.le_refl _) _
  exact ⟨lo, lc, eo, ec, so, sc, uo, uc, HB6.out.size, ⟨cell_first _ _ _ 0, cell_first _ _ _ 1, cell_first _ _ _ 2, cell_first _ _ _ 3, cell_first _ _ _ 4⟩, HI6.out.below hb7, HN6.out.below hb7, HS6.out.below hb7, HU6.out.keep (kp_below hb7)⟩
end Go.Proofs.YtkmeeblkckfepabGreat
