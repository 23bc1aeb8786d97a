/-
  What the program's link, leaf, lean, turnLeft and turnRight answer.
-/
import Derived.Test.YtfikmlgmklnlaaaWb
namespace Go.Proofs.Ytfikmlgmklnlaaa
open Go.RowKit
set_option linter.unusedSimpArgs false
set_option linter.unusedVariables false

theorem bcell {W w1 : World} (hb : Below W.heap.size W w1) : (∀ b o, b < W.heap.size → w1.cell? ⟨b, o, none⟩ = W.cell? ⟨b, o, none⟩) ∧ (∀ b o, b < W.heap.size → w1.frozen? ⟨b, o, none⟩ = W.frozen? ⟨b, o, none⟩) :=
  ⟨fun b o h => hb.cell (p := ⟨b, o, none⟩) h, fun b o h => hb.frozen (p := ⟨b, o, none⟩) h⟩

theorem hold {w w' : World} {a : Addr} {v : Value} (hb : Below w.heap.size w w') (h : w.cell? a = some v) : w'.cell? a = some v := by
  rw [hb.cell (World.block_lt_of_cell? w _ h)]; exact h
theorem fld0 (a b c d : Value) (w : World) : (Instr.field 64 (.agg #[a, b, c, d]) 0).run Try.prog w = .ok a w := by kernel_rfl
theorem fld3 (a b c d : Value) (w : World) : (Instr.field 64 (.agg #[a, b, c, d]) 3).run Try.prog w = .ok d w := by kernel_rfl

theorem cell_new (W : World) (b : Nat) (cs : Array Value) (t : TypeId) (i : Nat) (hb : b = W.heap.size) : (W.alloc (.cells cs t)).cell? ⟨b, i, none⟩ = cs[i]? := by
  subst hb
  exact cell_of_row _ _ i cs t (0, 0) (heap_alloc_new W _)

set_option maxRecDepth 100000 in
set_option maxHeartbeats 2000000 in
theorem link_any (S : Nat → Nat → Prop) (l r : Tr) (p : Pc) (pl pr : Option Addr) (w : World) (hl : IsT S w pl l) (hr : IsT S w pr r) (hp : PcAt S w p)
    (hlen : l.flat.length + p.l.length + r.flat.length ≤ 1099511627776) (hS : ∀ b i, w.heap.size ≤ b → S b i) :
    Calls Try.prog 50 #[.pointer pl, .agg #[.slice (some ⟨p.a, p.o, none⟩) p.l.length p.cap, .int .i64 (nl p.l : Nat)], .pointer pr] w
      fun e w' => ∃ q, e = .returned (.pointer q) ∧ IsT S w' q (.node l p r) ∧ Below w.heap.size w w' := by
  have h1 := fun w' (hb : Below w.heap.size w w') => total_any S l pl w' (hl.below hb)
  have h2 := fun w' (hb : Below w.heap.size w w') => total_any S r pr w' (hr.below hb)
  have HF : Box ((Tr.node l p r).flat.length = l.flat.length + p.l.length + r.flat.length ∧ nl (Tr.node l p r).flat = nl l.flat + nl p.l + nl r.flat ∧ (Tr.node l p r).pcs.length = l.pcs.length + 1 + r.pcs.length ∧ (Tr.node l p r).dep = 1 + max l.dep r.dep) := boxed (by
    refine ⟨by rw [flat_node]; simp; omega, by rw [flat_node, nl_app, nl_app]; omega, by simp [Tr.pcs]; omega, rfl⟩)
  have HL := boxed hl
  have HR := boxed hr
  have HP := boxed hp
  obtain ⟨n1, n2, n3⟩ := hl.nums
  obtain ⟨m1, m2, m3⟩ := hr.nums
  have k3 := nl_le p.l
  clear hl hr hp
  generalize hL1 : l.flat.length = L1 at *
  generalize hL2 : nl l.flat = L2 at *
  generalize hL3 : l.pcs.length = L3 at *
  generalize hL4 : l.dep = L4 at *
  generalize hR1 : r.flat.length = R1 at *
  generalize hR2 : nl r.flat = R2 at *
  generalize hR3 : r.pcs.length = R3 at *
  generalize hR4 : r.dep = R4 at *
  generalize hN1 : nl p.l = N at *
  generalize hN2 : p.l.length = P at *
  clear hL1 hL2 hL3 hL4 hR1 hR2 hR3 hR4
  go_enter Try.func50, Try.ntmps50
  go_wp2_with fail
  refine (h1 _ ((Below.refl _ _).alloc (Nat.le_refl _) _)).mono ?_
  rintro e w1 ⟨rfl, hb1⟩
  have hb1' : Below w.heap.size w w1 := ((Below.refl _ _).alloc (Nat.le_refl _) _).trans (hb1.mono (by simp))
  clear h1
  have c0 := hb1.cell (p := ⟨w.heap.size, 0, none⟩) (by simp)
  have c1 := hb1.cell (p := ⟨w.heap.size, 1, none⟩) (by simp)
  have hz1 : w.heap.size < w1.heap.size := by have := hb1.size; simp at this; omega
  simp at c0 c1
  have HB1 := boxed hb1'
  clear hb1 hb1'
  go_wp2_with fail
  refine (h2 _ HB1.out).mono ?_
  rintro e w2 ⟨rfl, hb2⟩
  clear h2
  have d0 := (hb2.cell (p := ⟨w.heap.size, 0, none⟩) hz1).trans c0
  have d1 := (hb2.cell (p := ⟨w.heap.size, 1, none⟩) hz1).trans c1
  have hz2 : w.heap.size < w2.heap.size := by have := hb2.size; omega
  have hz3 : w2.heap.size ≠ w.heap.size := by omega
  have HB2 := boxed (HB1.out.trans (hb2.mono (Nat.le_of_lt hz1)))
  clear hb2 c0 c1 HB1 hz1
  obtain ⟨f1, f2, f3, f4⟩ := HF.out
  have HF' := boxed (And.intro f1 (And.intro f2 (And.intro f3 f4)))
  clear f1 f2 f3 f4 HF
  go_wp2
  all_goals
    go_ret
    have hbb := ((HB2.out.alloc (Nat.le_of_lt hz2) (Obj.cells #[Value.int .i64 (L1 : Int), Value.int .i64 (L2 : Int), Value.int .i64 (L3 : Int), Value.int .i64 (L4 : Int)] 64)).alloc (by simp; omega)
      (Obj.cells #[Value.int .i64 (R1 : Int), Value.int .i64 (R2 : Int), Value.int .i64 (R3 : Int), Value.int .i64 (R4 : Int)] 64))
    refine ⟨_, rfl, ⟨_, pl, pr, rfl, fun i _ => hS _ i (by omega), ⟨cell_new _ _ _ _ _ (by simp), cell_new _ _ _ _ _ (by simp), by rw [cell_new _ _ _ _ _ (by simp), hN2]; rfl, by rw [cell_new _ _ _ _ _ (by simp), hN1]; rfl, ?_, ?_, ?_, ?_⟩, HP.out.below (hbb.alloc (by simp; omega) _), HL.out.below (hbb.alloc (by simp; omega) _), HR.out.below (hbb.alloc (by simp; omega) _)⟩, hbb.alloc (by simp; omega) _⟩
    · rw [HF'.out.1, cell_new _ _ _ _ _ (by simp)]; simp
    · rw [HF'.out.2.1, cell_new _ _ _ _ _ (by simp)]; simp
    · rw [HF'.out.2.2.1, cell_new _ _ _ _ _ (by simp)]; simp
    · rw [HF'.out.2.2.2, cell_new _ _ _ _ _ (by simp)]; simp; omega

theorem depth_lt {l r : Tr} (h : r.dep + 1 < l.dep) : ∃ a p b, l = .node a p b := dep_pos (by omega)

set_option maxRecDepth 100000 in
theorem lean_any (S : Nat → Nat → Prop) (l r : Tr) (pl pr : Option Addr) (w : World) (hl : IsT S w pl l) (hr : IsT S w pr r) (b1 : l.flat.length ≤ 1099511627776) (b2 : r.flat.length ≤ 1099511627776) :
    Calls Try.prog 67 #[.pointer pl, .pointer pr] w fun e w' => e = .returned (.int .i64 ((l.dep : Int) - (r.dep : Int))) ∧ Below w.heap.size w w' := by
  have h1 := total_any S l pl w hl
  have h2 := fun w' (hb : Below w.heap.size w w') => total_any S r pr w' (hr.below hb)
  obtain ⟨n1, n2, n3⟩ := hl.nums
  obtain ⟨m1, m2, m3⟩ := hr.nums
  generalize l.flat.length = L1 at *
  generalize nl l.flat = L2 at *
  generalize l.pcs.length = L3 at *
  generalize l.dep = L4 at *
  generalize r.flat.length = R1 at *
  generalize nl r.flat = R2 at *
  generalize r.pcs.length = R3 at *
  generalize r.dep = R4 at *
  clear hl hr
  have hf3 := fld3
  go_enter Try.func67, Try.ntmps67
  go_wp2_with fail
  refine h1.mono ?_
  rintro e w1 ⟨rfl, hb1⟩
  clear h1
  have HB1 := boxed hb1
  clear hb1
  go_wp2_with fail
  refine (h2 _ HB1.out).mono ?_
  rintro e w2 ⟨rfl, hb2⟩
  clear h2
  have HB2 := boxed (HB1.out.trans (hb2.mono HB1.out.size))
  clear hb2 HB1
  go_wp2
  go_ret
  exact ⟨rfl, HB2.out⟩

set_option maxRecDepth 100000 in
theorem leaf_any (S : Nat → Nat → Prop) (p : Pc) (w : World) (hp : PcAt S w p) (hS : ∀ b i, w.heap.size ≤ b → S b i) :
    Calls Try.prog 33 #[.slice (some ⟨p.a, p.o, none⟩) p.l.length p.cap] w fun e w' => ∃ q, e = .returned (.pointer q) ∧ IsT S w' q (.node .nil p .nil) ∧ Below w.heap.size w w' := by
  have hl : p.l.length ≠ 0 := fun h => hp.1.1 (List.eq_nil_of_length_eq_zero h)
  have hl' : ((p.l.length : Int) == 0) = false := by simp; exact hp.1.1
  have hc := cut_any S p w hp
  have hk := fun w' (hb : Below w.heap.size w w') => link_any S .nil .nil p none none w' rfl rfl (hp.below hb) (by have := hp.1.2.1.2; simp [flat_nil]; omega) (fun b i h => hS b i (Nat.le_trans hb.size h))
  clear hp
  generalize nl p.l = N at *
  generalize p.l.length = L at *
  go_enter Try.func33, Try.ntmps33
  go_wp2_with fail
  refine hc.mono ?_
  rintro e w1 ⟨rfl, hb1⟩
  have HB1 := boxed hb1
  clear hb1 hc
  go_wp2_with fail
  refine (hk _ HB1.out).mono ?_
  rintro e w2 ⟨q, rfl, hT, hb2⟩
  have HT := boxed hT
  have HB2 := boxed (HB1.out.trans (hb2.mono HB1.out.size))
  clear hk hT hb2
  go_wp2
  go_ret
  exact ⟨q, rfl, HT.out, HB2.out⟩

set_option maxRecDepth 100000 in
theorem leaf_none (ao : Option Addr) (cap : Nat) (w : World) :
    Calls Try.prog 33 #[.slice ao 0 cap] w fun e w' => e = .returned (.pointer none) ∧ w' = w := by
  go_enter Try.func33, Try.ntmps33
  go_wp2
  go_ret
  exact ⟨rfl, rfl⟩

set_option maxRecDepth 100000 in
set_option maxHeartbeats 1000000 in
/-- turnLeft of a tree with a right one. -/
theorem turnLeft_any (S : Nat → Nat → Prop) (l rl rr : Tr) (p q : Pc) (x : Option Addr) (w : World) (h : IsT S w x (.node l p (.node rl q rr)))
    (hlen : (Tr.node l p (.node rl q rr)).flat.length ≤ 1099511627776) (hS : ∀ b i, w.heap.size ≤ b → S b i) :
    Calls Try.prog 74 #[.pointer x] w fun e w' => ∃ y, e = .returned (.pointer y) ∧ IsT S w' y (.node (.node l p rl) q rr) ∧ Below w.heap.size w w' := by
  obtain ⟨b, pl, pr, rfl, -, ⟨c0, c1, c2, c3, -, -, -, -⟩, hp, hl, hr⟩ := h
  obtain ⟨d, pl', pr', rfl, -, ⟨d0, d1, d2, d3, -, -, -, -⟩, hq, hrl, hrr⟩ := hr
  simp only [flat_node, List.length_append] at hlen
  have h1 := fun w' (hb : Below w.heap.size w w') => link_any S l rl p pl pl' w' (hl.below hb) (hrl.below hb) (hp.below hb) (by omega) (fun b i h => hS b i (Nat.le_trans hb.size h))
  have h2 := fun w' (hb : Below w.heap.size w w') y (hy : IsT S w' y (.node l p rl)) => link_any S (.node l p rl) rr q y pr' w' hy (hrr.below hb) (hq.below hb) (by simp only [flat_node, List.length_append]; omega) (fun b i h => hS b i (Nat.le_trans hb.size h))
  have HC : Box (∀ w', Below w.heap.size w w' → (w'.cell? ⟨b, 0, none⟩ = some (.pointer pl) ∧ w'.cell? ⟨b, 2, none⟩ = some (.slice (some ⟨p.a, p.o, none⟩) p.l.length p.cap) ∧ w'.cell? ⟨b, 3, none⟩ = some (.int .i64 (nl p.l : Nat))) ∧
      w'.cell? ⟨d, 0, none⟩ = some (.pointer pl') ∧ w'.cell? ⟨d, 1, none⟩ = some (.pointer pr') ∧ w'.cell? ⟨d, 2, none⟩ = some (.slice (some ⟨q.a, q.o, none⟩) q.l.length q.cap) ∧ w'.cell? ⟨d, 3, none⟩ = some (.int .i64 (nl q.l : Nat))) := boxed (fun w' hb =>
    ⟨⟨hold hb c0, hold hb c2, hold hb c3⟩, hold hb d0, hold hb d1, hold hb d2, hold hb d3⟩)
  clear hp hl hq hrl hrr
  generalize nl p.l = N at *
  generalize p.l.length = L at *
  generalize nl q.l = N' at *
  generalize q.l.length = L' at *
  have HB0 : Box (Below w.heap.size w w.drew) := boxed (Below.refl _ _).drew
  go_enter Try.func74, Try.ntmps74
  go_wp2_with fail
  clear c0 c1 c2 c3 d0 d1 d2 d3
  go_region_held3 (fun w' => (w'.cell? ⟨b, 0, none⟩ = some (.pointer pl) ∧ w'.cell? ⟨b, 2, none⟩ = some (.slice (some ⟨p.a, p.o, none⟩) L p.cap) ∧ w'.cell? ⟨b, 3, none⟩ = some (.int .i64 (N : Nat))) ∧
      w'.cell? ⟨d, 0, none⟩ = some (.pointer pl') ∧ w'.cell? ⟨d, 1, none⟩ = some (.pointer pr') ∧ w'.cell? ⟨d, 2, none⟩ = some (.slice (some ⟨q.a, q.o, none⟩) L' q.cap) ∧ w'.cell? ⟨d, 3, none⟩ = some (.int .i64 (N' : Nat)))
    (first | exact HC.out _ HB2.out | exact HC.out _ HB1.out | exact HC.out _ HB0.out)
    (first
      | (go_at_call 50; refine (h1 _ HB0.out).mono ?_; rintro e w1 ⟨y, rfl, hy, hb1⟩; clear h1; have HY := boxed hy; have HB1 := boxed (HB0.out.trans (hb1.mono HB0.out.size)); clear hb1 hy)
      | (go_at_call 50; refine (h2 _ HB1.out _ HY.out).mono ?_; rintro e w2 ⟨z, rfl, hz, hb2⟩; clear h2; have HZ := boxed hz; have HB2 := boxed (HB1.out.trans (hb2.mono HB1.out.size)); clear hb2 hz))
  go_wp2
  go_ret
  exact ⟨_, rfl, HZ.out, HB2.out⟩

end Go.Proofs.Ytfikmlgmklnlaaa
