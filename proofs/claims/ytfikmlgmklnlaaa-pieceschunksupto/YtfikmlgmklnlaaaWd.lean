/-
  What the program's turnRight and balance answer.
-/
import Derived.Test.YtfikmlgmklnlaaaWc
namespace Go.Proofs.Ytfikmlgmklnlaaa
open Go.RowKit
set_option linter.unusedSimpArgs false
set_option linter.unusedVariables false

set_option maxRecDepth 100000 in
set_option maxHeartbeats 1000000 in
/-- turnRight of a tree with a left one. -/
theorem turnRight_any (S : Nat → Nat → Prop) (ll lr r : Tr) (p q : Pc) (x : Option Addr) (w : World) (h : IsT S w x (.node (.node ll q lr) p r))
    (hlen : (Tr.node (.node ll q lr) p r).flat.length ≤ 1099511627776) (hS : ∀ b i, w.heap.size ≤ b → S b i) :
    Calls Try.prog 75 #[.pointer x] w fun e w' => ∃ y, e = .returned (.pointer y) ∧ IsT S w' y (.node ll q (.node lr p r)) ∧ Below w.heap.size w w' := by
  obtain ⟨b, pl, pr, rfl, -, ⟨c0, c1, c2, c3, -, -, -, -⟩, hp, hl, hr⟩ := h
  obtain ⟨d, pl', pr', rfl, -, ⟨d0, d1, d2, d3, -, -, -, -⟩, hq, hll, hlr⟩ := hl
  simp only [flat_node, List.length_append] at hlen
  have h1 := fun w' (hb : Below w.heap.size w w') => link_any S lr r p pr' pr w' (hlr.below hb) (hr.below hb) (hp.below hb) (by omega) (fun b i h => hS b i (Nat.le_trans hb.size h))
  have h2 := fun w' (hb : Below w.heap.size w w') y (hy : IsT S w' y (.node lr p r)) => link_any S ll (.node lr p r) q pl' y w' (hll.below hb) hy (hq.below hb) (by simp only [flat_node, List.length_append]; omega) (fun b i h => hS b i (Nat.le_trans hb.size h))
  have HC : Box (∀ w', Below w.heap.size w w' → (w'.cell? ⟨b, 1, none⟩ = some (.pointer pr) ∧ w'.cell? ⟨b, 2, none⟩ = some (.slice (some ⟨p.a, p.o, none⟩) p.l.length p.cap) ∧ w'.cell? ⟨b, 3, none⟩ = some (.int .i64 (nl p.l : Nat))) ∧
      w'.cell? ⟨d, 0, none⟩ = some (.pointer pl') ∧ w'.cell? ⟨d, 1, none⟩ = some (.pointer pr') ∧ w'.cell? ⟨d, 2, none⟩ = some (.slice (some ⟨q.a, q.o, none⟩) q.l.length q.cap) ∧ w'.cell? ⟨d, 3, none⟩ = some (.int .i64 (nl q.l : Nat))) := boxed (fun w' hb =>
    ⟨⟨hold hb c1, hold hb c2, hold hb c3⟩, hold hb d0, hold hb d1, hold hb d2, hold hb d3⟩)
  clear hp hr hq hll hlr
  generalize nl p.l = N at *
  generalize p.l.length = L at *
  generalize nl q.l = N' at *
  generalize q.l.length = L' at *
  have HB0 : Box (Below w.heap.size w w.drew) := boxed (Below.refl _ _).drew
  go_enter Try.func75, Try.ntmps75
  go_wp2_with fail
  clear c0 c1 c2 c3 d0 d1 d2 d3
  go_region_held3 (fun w' => (w'.cell? ⟨b, 1, none⟩ = some (.pointer pr) ∧ w'.cell? ⟨b, 2, none⟩ = some (.slice (some ⟨p.a, p.o, none⟩) L p.cap) ∧ w'.cell? ⟨b, 3, none⟩ = some (.int .i64 (N : Nat))) ∧
      w'.cell? ⟨d, 0, none⟩ = some (.pointer pl') ∧ w'.cell? ⟨d, 1, none⟩ = some (.pointer pr') ∧ w'.cell? ⟨d, 2, none⟩ = some (.slice (some ⟨q.a, q.o, none⟩) L' q.cap) ∧ w'.cell? ⟨d, 3, none⟩ = some (.int .i64 (N' : Nat)))
    (first | exact HC.out _ HB2.out | exact HC.out _ HB1.out | exact HC.out _ HB0.out)
    (first
      | (go_at_call 50; refine (h1 _ HB0.out).mono ?_; rintro e w1 ⟨y, rfl, hy, hb1⟩; clear h1; have HY := boxed hy; have HB1 := boxed (HB0.out.trans (hb1.mono HB0.out.size)); clear hb1 hy)
      | (go_at_call 50; refine (h2 _ HB1.out _ HY.out).mono ?_; rintro e w2 ⟨z, rfl, hz, hb2⟩; clear h2; have HZ := boxed hz; have HB2 := boxed (HB1.out.trans (hb2.mono HB1.out.size)); clear hb2 hz))
  go_wp2
  go_ret
  exact ⟨_, rfl, HZ.out, HB2.out⟩

theorem flat_turnL (t : Tr) : (turnL t).flat = t.flat := by simp [Tr.flat, turnL_pcs]
theorem flat_turnR (t : Tr) : (turnR t).flat = t.flat := by simp [Tr.flat, turnR_pcs]

/-- What the walks of balance share: the box of the piece. -/
theorem box_kept {w w' : World} {v0 v1 : Value} {t : TypeId} (hb : Below (w.heap.size + 1) (w.alloc (.cells #[v0, v1] t)) w') :
    w'.cell? ⟨w.heap.size, 0, none⟩ = some v0 ∧ w'.cell? ⟨w.heap.size, 1, none⟩ = some v1 := by
  refine ⟨?_, ?_⟩
  · rw [hb.cell (p := ⟨w.heap.size, 0, none⟩) (by simp), cell_new _ _ _ _ _ rfl]; rfl
  · rw [hb.cell (p := ⟨w.heap.size, 1, none⟩) (by simp), cell_new _ _ _ _ _ rfl]; rfl
theorem below_box {w w' : World} {o : Obj} (hb : Below (w.heap.size + 1) (w.alloc o) w') : Below w.heap.size w w' :=
  ((Below.refl _ _).alloc (Nat.le_refl _) _).trans (hb.mono (by omega))
theorem below_step {n : Nat} {a b c : World} (h : Below n a b) (hn : n ≤ a.heap.size) (k : Below b.heap.size b c) : Below n a c := h.trans (k.mono (Nat.le_trans hn h.size))

set_option maxRecDepth 100000 in
set_option maxHeartbeats 4000000 in
/-- balance where neither is deeper by two. -/
theorem balance_flat (S : Nat → Nat → Prop) (l r : Tr) (p : Pc) (pl pr : Option Addr) (w : World) (hl : IsT S w pl l) (hr : IsT S w pr r) (hp : PcAt S w p)
    (hlen : l.flat.length + p.l.length + r.flat.length ≤ 1099511627776) (hS : ∀ b i, w.heap.size ≤ b → S b i) (h1 : ¬ r.dep + 1 < l.dep) (h2 : ¬ l.dep + 1 < r.dep) :
    Calls Try.prog 68 #[.pointer pl, .agg #[.slice (some ⟨p.a, p.o, none⟩) p.l.length p.cap, .int .i64 (nl p.l : Nat)], .pointer pr] w
      fun e w' => ∃ q, e = .returned (.pointer q) ∧ IsT S w' q (.node l p r) ∧ Below w.heap.size w w' := by
  have hln := fun w' (hb : Below w.heap.size w w') => lean_any S l r pl pr w' (hl.below hb) (hr.below hb) (by omega) (by omega)
  have hlk := fun w' (hb : Below w.heap.size w w') => link_any S l r p pl pr w' (hl.below hb) (hr.below hb) (hp.below hb) hlen (fun b i h => hS b i (Nat.le_trans hb.size h))
  have t1 : decide ((1 : Int) < (l.dep : Int) - (r.dep : Int)) = false := decide_eq_false (by omega)
  have t2 : decide ((l.dep : Int) - (r.dep : Int) < -1) = false := decide_eq_false (by omega)
  clear hl hr hp h1 h2
  generalize nl p.l = N at *
  generalize p.l.length = L at *
  generalize (l.dep : Int) - (r.dep : Int) = D at *
  go_enter Try.func68, Try.ntmps68
  go_wp2_with fail
  refine (hln _ ((Below.refl _ _).alloc (Nat.le_refl _) _)).mono ?_
  rintro e w1 ⟨rfl, hb1⟩
  rw [World.size_alloc] at hb1
  obtain ⟨c0, c1⟩ := box_kept hb1
  have HB1 := boxed hb1
  clear hb1 hln
  go_wp2_with fail
  refine (hlk _ (below_box HB1.out)).mono ?_
  rintro e w2 ⟨q, rfl, hT, hb2⟩
  have HT := boxed hT
  have HB2 := boxed (below_step (below_box HB1.out) (Nat.le_refl _) hb2)
  clear hT hb2 hlk
  go_wp2
  go_ret
  exact ⟨q, rfl, HT.out, HB2.out⟩

set_option maxRecDepth 100000 in
set_option maxHeartbeats 4000000 in
/-- balance where the left one is deeper by two. -/
theorem balance_left (S : Nat → Nat → Prop) (ll lr r : Tr) (p lp : Pc) (pl pr : Option Addr) (w : World) (hl : IsT S w pl (.node ll lp lr)) (hr : IsT S w pr r) (hp : PcAt S w p)
    (hlen : (Tr.node ll lp lr).flat.length + p.l.length + r.flat.length ≤ 1099511627776) (hS : ∀ b i, w.heap.size ≤ b → S b i) (h1 : r.dep + 1 < (Tr.node ll lp lr).dep) :
    Calls Try.prog 68 #[.pointer pl, .agg #[.slice (some ⟨p.a, p.o, none⟩) p.l.length p.cap, .int .i64 (nl p.l : Nat)], .pointer pr] w
      fun e w' => ∃ q, e = .returned (.pointer q) ∧ IsT S w' q (turnR (.node (leanL (.node ll lp lr)) p r)) ∧ Below w.heap.size w w' := by
  have hl0 := hl
  have hlen0 := hlen
  simp only [flat_node, List.length_append] at hlen0
  obtain ⟨b, pa, pb, rfl, -, ⟨c0, c1, -, -, -, -, -, -⟩, -, ha, hbb⟩ := hl0
  have hln := fun w' (hb : Below w.heap.size w w') => lean_any S (.node ll lp lr) r (some ⟨b, 0, none⟩) pr w' (hl.below hb) (hr.below hb) (by omega) (by omega)
  have hln2 := fun w' (hb : Below w.heap.size w w') => lean_any S ll lr pa pb w' (ha.below hb) (hbb.below hb) (by omega) (by omega)
  have t1 : decide ((1 : Int) < ((Tr.node ll lp lr).dep : Int) - (r.dep : Int)) = true := decide_eq_true (by omega)
  have HC : Box (∀ w', Below w.heap.size w w' → w'.cell? ⟨b, 0, none⟩ = some (.pointer pa) ∧ w'.cell? ⟨b, 1, none⟩ = some (.pointer pb)) := boxed (fun w' hb => ⟨hold hb c0, hold hb c1⟩)
  have HL := boxed hl
  clear ha hbb c0 c1
  have hlk := fun (l' : Tr) (y : Option Addr) w' (hb : Below w.heap.size w w') (hy : IsT S w' y l') (he : l'.flat.length = (Tr.node ll lp lr).flat.length) => link_any S l' r p y pr w' hy (hr.below hb) (hp.below hb) (by omega) (fun b i h => hS b i (Nat.le_trans hb.size h))
  have htr := fun (a c : Tr) (q : Pc) (y : Option Addr) w' (hb : Below w.heap.size w w') (hy : IsT S w' y (.node (.node a q c) p r)) (he : (Tr.node a q c).flat.length = (Tr.node ll lp lr).flat.length) => turnRight_any S a c r p q y w' hy (by rw [flat_node]; simp only [List.length_append]; omega) (fun b i h => hS b i (Nat.le_trans hb.size h))
  have htl := fun (rl rr : Tr) (q : Pc) w' (hb : Below w.heap.size w w') (e : lr = .node rl q rr) => turnLeft_any S ll rl rr lp q (some ⟨b, 0, none⟩) w' (by rw [← e]; exact HL.out.below hb) (by rw [← e]; omega) (fun b i h => hS b i (Nat.le_trans hb.size h))
  by_cases h2 : ll.dep < lr.dep
  · obtain ⟨rl, q, rr, rfl⟩ := dep_pos (t := lr) (by omega)
    have t2 : decide ((ll.dep : Int) - ((Tr.node rl q rr).dep : Int) < 0) = true := decide_eq_true (by omega)
    have hR : Box (turnR (.node (leanL (.node ll lp (.node rl q rr))) p r) = .node (.node ll lp rl) q (.node rr p r)) := boxed (by simp only [leanL]; rw [if_pos h2]; rfl)
    have hF : Box ((Tr.node (.node ll lp rl) q rr).flat.length = (Tr.node ll lp (.node rl q rr)).flat.length) := boxed (by simp only [flat_node, List.length_append]; omega)
    have htl := fun w' hb => htl rl rr q w' hb rfl
    have hlk := hlk (.node (.node ll lp rl) q rr)
    have htr := htr (.node ll lp rl) rr q
    generalize nl p.l = N at *
    generalize p.l.length = L at *
    generalize ((Tr.node ll lp (.node rl q rr)).dep : Int) - (r.dep : Int) = D at *
    generalize (ll.dep : Int) - ((Tr.node rl q rr).dep : Int) = D2 at *
    clear hl hr hp h1 h2 hlen hlen0
    go_enter Try.func68, Try.ntmps68
    go_wp2_with fail
    refine (hln _ ((Below.refl _ _).alloc (Nat.le_refl _) _)).mono ?_
    rintro e w1 ⟨rfl, hb1⟩
    rw [World.size_alloc] at hb1
    have HB1 := boxed hb1
    have HB1' : Box (Below w.heap.size w w1) := boxed (below_box hb1)
    clear hb1 hln
    go_wp2_with fail
    go_region_held3 (fun w' => w'.cell? ⟨b, 0, none⟩ = some (.pointer pa) ∧ w'.cell? ⟨b, 1, none⟩ = some (.pointer pb))
      (first | exact HC.out _ (below_box HB2.out) | exact HC.out _ HB1'.out.drew)
      (first | (go_at_call 67; refine (hln2 _ HB1'.out.drew).mono ?_; rintro e w2 ⟨rfl, hb2⟩; clear hln2; have HB2 := boxed (below_step HB1.out.drew (by simp) hb2); clear hb2))
    have HB2' := boxed (below_box HB2.out)
    go_wp2_with fail
    refine (htl _ HB2'.out).mono ?_
    rintro e w3 ⟨y, rfl, hy, hb3⟩
    have HY := boxed hy
    have HB3 := boxed (below_step HB2.out (by simp) hb3)
    have HB3' := boxed (below_box HB3.out)
    obtain ⟨x0, x1⟩ := box_kept HB3.out
    clear hy hb3 htl
    go_wp2_with fail
    refine (hlk y _ HB3'.out HY.out hF.out).mono ?_
    rintro e w4 ⟨z, rfl, hz, hb4⟩
    have HZ := boxed hz
    have HB4 := boxed (below_step HB3'.out (Nat.le_refl _) hb4)
    clear hz hb4 hlk
    go_wp2_with fail
    refine (htr z _ HB4.out HZ.out hF.out).mono ?_
    rintro e w5 ⟨u, rfl, hu, hb5⟩
    have HU := boxed hu
    have HB5 := boxed (below_step HB4.out (Nat.le_refl _) hb5)
    clear hu hb5 htr
    go_wp2
    go_ret
    exact ⟨u, rfl, by rw [hR.out]; exact HU.out, HB5.out⟩
  · have t2 : decide ((ll.dep : Int) - (lr.dep : Int) < 0) = false := decide_eq_false (by omega)
    have hR : Box (turnR (.node (leanL (.node ll lp lr)) p r) = .node ll lp (.node lr p r)) := boxed (by simp only [leanL]; rw [if_neg h2]; rfl)
    have hlk := hlk (.node ll lp lr)
    have htr := htr ll lr lp
    generalize nl p.l = N at *
    generalize p.l.length = L at *
    generalize ((Tr.node ll lp lr).dep : Int) - (r.dep : Int) = D at *
    generalize (ll.dep : Int) - (lr.dep : Int) = D2 at *
    clear hl hr hp h1 h2 hlen hlen0 htl
    go_enter Try.func68, Try.ntmps68
    go_wp2_with fail
    refine (hln _ ((Below.refl _ _).alloc (Nat.le_refl _) _)).mono ?_
    rintro e w1 ⟨rfl, hb1⟩
    rw [World.size_alloc] at hb1
    have HB1 := boxed hb1
    have HB1' : Box (Below w.heap.size w w1) := boxed (below_box hb1)
    clear hb1 hln
    go_wp2_with fail
    go_region_held3 (fun w' => w'.cell? ⟨b, 0, none⟩ = some (.pointer pa) ∧ w'.cell? ⟨b, 1, none⟩ = some (.pointer pb))
      (first | exact HC.out _ (below_box HB2.out) | exact HC.out _ HB1'.out.drew)
      (first | (go_at_call 67; refine (hln2 _ HB1'.out.drew).mono ?_; rintro e w2 ⟨rfl, hb2⟩; clear hln2; have HB2 := boxed (below_step HB1.out.drew (by simp) hb2); clear hb2))
    have HB2' := boxed (below_box HB2.out)
    obtain ⟨x0, x1⟩ := box_kept HB2.out
    go_wp2_with fail
    refine (hlk _ _ HB2'.out (HL.out.below HB2'.out) (by first | trivial | rfl)).mono ?_
    rintro e w4 ⟨z, rfl, hz, hb4⟩
    have HZ := boxed hz
    have HB4 := boxed (below_step HB2'.out (Nat.le_refl _) hb4)
    clear hz hb4 hlk
    go_wp2_with fail
    refine (htr z _ HB4.out HZ.out (by first | trivial | rfl)).mono ?_
    rintro e w5 ⟨u, rfl, hu, hb5⟩
    have HU := boxed hu
    have HB5 := boxed (below_step HB4.out (Nat.le_refl _) hb5)
    clear hu hb5 htr
    go_wp2
    go_ret
    exact ⟨u, rfl, by rw [hR.out]; exact HU.out, HB5.out⟩
set_option maxRecDepth 100000 in
set_option maxHeartbeats 4000000 in
/-- balance where the right one is deeper by two. -/
theorem balance_right (S : Nat → Nat → Prop) (l rl rr : Tr) (p rp : Pc) (pl pr : Option Addr) (w : World) (hl : IsT S w pl l) (hr : IsT S w pr (.node rl rp rr)) (hp : PcAt S w p)
    (hlen : l.flat.length + p.l.length + (Tr.node rl rp rr).flat.length ≤ 1099511627776) (hS : ∀ b i, w.heap.size ≤ b → S b i) (h1 : l.dep + 1 < (Tr.node rl rp rr).dep) :
    Calls Try.prog 68 #[.pointer pl, .agg #[.slice (some ⟨p.a, p.o, none⟩) p.l.length p.cap, .int .i64 (nl p.l : Nat)], .pointer pr] w
      fun e w' => ∃ q, e = .returned (.pointer q) ∧ IsT S w' q (turnL (.node l p (leanR (.node rl rp rr)))) ∧ Below w.heap.size w w' := by
  have hl0 := hr
  have hlen0 := hlen
  simp only [flat_node, List.length_append] at hlen0
  obtain ⟨b, pa, pb, rfl, -, ⟨c0, c1, -, -, -, -, -, -⟩, -, ha, hbb⟩ := hl0
  have hln := fun w' (hb : Below w.heap.size w w') => lean_any S l (.node rl rp rr) pl (some ⟨b, 0, none⟩) w' (hl.below hb) (hr.below hb) (by omega) (by omega)
  have hln2 := fun w' (hb : Below w.heap.size w w') => lean_any S rl rr pa pb w' (ha.below hb) (hbb.below hb) (by omega) (by omega)
  have t0 : decide ((1 : Int) < (l.dep : Int) - ((Tr.node rl rp rr).dep : Int)) = false := decide_eq_false (by omega)
  have t1 : decide ((l.dep : Int) - ((Tr.node rl rp rr).dep : Int) < -1) = true := decide_eq_true (by omega)
  have HC : Box (∀ w', Below w.heap.size w w' → w'.cell? ⟨b, 0, none⟩ = some (.pointer pa) ∧ w'.cell? ⟨b, 1, none⟩ = some (.pointer pb)) := boxed (fun w' hb => ⟨hold hb c0, hold hb c1⟩)
  have HL := boxed hr
  clear ha hbb c0 c1
  have hlk := fun (r' : Tr) (y : Option Addr) w' (hb : Below w.heap.size w w') (hy : IsT S w' y r') (he : r'.flat.length = (Tr.node rl rp rr).flat.length) => link_any S l r' p pl y w' (hl.below hb) hy (hp.below hb) (by omega) (fun b i h => hS b i (Nat.le_trans hb.size h))
  have htr := fun (a c : Tr) (q : Pc) (y : Option Addr) w' (hb : Below w.heap.size w w') (hy : IsT S w' y (.node l p (.node a q c))) (he : (Tr.node a q c).flat.length = (Tr.node rl rp rr).flat.length) => turnLeft_any S l a c p q y w' hy (by rw [flat_node]; simp only [List.length_append]; omega) (fun b i h => hS b i (Nat.le_trans hb.size h))
  have htl := fun (ll lr : Tr) (q : Pc) w' (hb : Below w.heap.size w w') (e : rl = .node ll q lr) => turnRight_any S ll lr rr rp q (some ⟨b, 0, none⟩) w' (by rw [← e]; exact HL.out.below hb) (by rw [← e]; omega) (fun b i h => hS b i (Nat.le_trans hb.size h))
  by_cases h2 : rr.dep < rl.dep
  · obtain ⟨ll, q, lr, rfl⟩ := dep_pos (t := rl) (by omega)
    have t2 : decide ((0 : Int) < ((Tr.node ll q lr).dep : Int) - (rr.dep : Int)) = true := decide_eq_true (by omega)
    have hR : Box (turnL (.node l p (leanR (.node (.node ll q lr) rp rr))) = .node (.node l p ll) q (.node lr rp rr)) := boxed (by simp only [leanR]; rw [if_pos h2]; rfl)
    have hF : Box ((Tr.node ll q (.node lr rp rr)).flat.length = (Tr.node (.node ll q lr) rp rr).flat.length) := boxed (by simp only [flat_node, List.length_append]; omega)
    have htl := fun w' hb => htl ll lr q w' hb rfl
    have hlk := hlk (.node ll q (.node lr rp rr))
    have htr := htr ll (.node lr rp rr) q
    generalize nl p.l = N at *
    generalize p.l.length = L at *
    generalize (l.dep : Int) - ((Tr.node (.node ll q lr) rp rr).dep : Int) = D at *
    generalize ((Tr.node ll q lr).dep : Int) - (rr.dep : Int) = D2 at *
    clear hl hr hp h1 h2 hlen hlen0
    go_enter Try.func68, Try.ntmps68
    go_wp2_with fail
    refine (hln _ ((Below.refl _ _).alloc (Nat.le_refl _) _)).mono ?_
    rintro e w1 ⟨rfl, hb1⟩
    rw [World.size_alloc] at hb1
    have HB1 := boxed hb1
    have HB1' : Box (Below w.heap.size w w1) := boxed (below_box hb1)
    clear hb1 hln
    go_wp2_with fail
    go_region_held3 (fun w' => w'.cell? ⟨b, 0, none⟩ = some (.pointer pa) ∧ w'.cell? ⟨b, 1, none⟩ = some (.pointer pb))
      (first | exact HC.out _ (below_box HB2.out) | exact HC.out _ HB1'.out.drew)
      (first | (go_at_call 67; refine (hln2 _ HB1'.out.drew).mono ?_; rintro e w2 ⟨rfl, hb2⟩; clear hln2; have HB2 := boxed (below_step HB1.out.drew (by simp) hb2); clear hb2))
    have HB2' := boxed (below_box HB2.out)
    go_wp2_with fail
    refine (htl _ HB2'.out).mono ?_
    rintro e w3 ⟨y, rfl, hy, hb3⟩
    have HY := boxed hy
    have HB3 := boxed (below_step HB2.out (by simp) hb3)
    have HB3' := boxed (below_box HB3.out)
    obtain ⟨x0, x1⟩ := box_kept HB3.out
    clear hy hb3 htl
    go_wp2_with fail
    refine (hlk y _ HB3'.out HY.out hF.out).mono ?_
    rintro e w4 ⟨z, rfl, hz, hb4⟩
    have HZ := boxed hz
    have HB4 := boxed (below_step HB3'.out (Nat.le_refl _) hb4)
    clear hz hb4 hlk
    go_wp2_with fail
    refine (htr z _ HB4.out HZ.out hF.out).mono ?_
    rintro e w5 ⟨u, rfl, hu, hb5⟩
    have HU := boxed hu
    have HB5 := boxed (below_step HB4.out (Nat.le_refl _) hb5)
    clear hu hb5 htr
    go_wp2
    go_ret
    exact ⟨u, rfl, by rw [hR.out]; exact HU.out, HB5.out⟩
  · have t2 : decide ((0 : Int) < (rl.dep : Int) - (rr.dep : Int)) = false := decide_eq_false (by omega)
    have hR : Box (turnL (.node l p (leanR (.node rl rp rr))) = .node (.node l p rl) rp rr) := boxed (by simp only [leanR]; rw [if_neg h2]; rfl)
    have hlk := hlk (.node rl rp rr)
    have htr := htr rl rr rp
    generalize nl p.l = N at *
    generalize p.l.length = L at *
    generalize (l.dep : Int) - ((Tr.node rl rp rr).dep : Int) = D at *
    generalize (rl.dep : Int) - (rr.dep : Int) = D2 at *
    clear hl hr hp h1 h2 hlen hlen0 htl
    go_enter Try.func68, Try.ntmps68
    go_wp2_with fail
    refine (hln _ ((Below.refl _ _).alloc (Nat.le_refl _) _)).mono ?_
    rintro e w1 ⟨rfl, hb1⟩
    rw [World.size_alloc] at hb1
    have HB1 := boxed hb1
    have HB1' : Box (Below w.heap.size w w1) := boxed (below_box hb1)
    clear hb1 hln
    go_wp2_with fail
    go_region_held3 (fun w' => w'.cell? ⟨b, 0, none⟩ = some (.pointer pa) ∧ w'.cell? ⟨b, 1, none⟩ = some (.pointer pb))
      (first | exact HC.out _ (below_box HB2.out) | exact HC.out _ HB1'.out.drew)
      (first | (go_at_call 67; refine (hln2 _ HB1'.out.drew).mono ?_; rintro e w2 ⟨rfl, hb2⟩; clear hln2; have HB2 := boxed (below_step HB1.out.drew (by simp) hb2); clear hb2))
    have HB2' := boxed (below_box HB2.out)
    obtain ⟨x0, x1⟩ := box_kept HB2.out
    go_wp2_with fail
    refine (hlk _ _ HB2'.out (HL.out.below HB2'.out) (by first | trivial | rfl)).mono ?_
    rintro e w4 ⟨z, rfl, hz, hb4⟩
    have HZ := boxed hz
    have HB4 := boxed (below_step HB2'.out (Nat.le_refl _) hb4)
    clear hz hb4 hlk
    go_wp2_with fail
    refine (htr z _ HB4.out HZ.out (by first | trivial | rfl)).mono ?_
    rintro e w5 ⟨u, rfl, hu, hb5⟩
    have HU := boxed hu
    have HB5 := boxed (below_step HB4.out (Nat.le_refl _) hb5)
    clear hu hb5 htr
    go_wp2
    go_ret
    exact ⟨u, rfl, by rw [hR.out]; exact HU.out, HB5.out⟩

/-- balance of any two trees and a piece. -/
theorem balance_any (S : Nat → Nat → Prop) (l r : Tr) (p : Pc) (pl pr : Option Addr) (w : World) (hl : IsT S w pl l) (hr : IsT S w pr r) (hp : PcAt S w p)
    (hlen : l.flat.length + p.l.length + r.flat.length ≤ 1099511627776) (hS : ∀ b i, w.heap.size ≤ b → S b i) :
    Calls Try.prog 68 #[.pointer pl, .agg #[.slice (some ⟨p.a, p.o, none⟩) p.l.length p.cap, .int .i64 (nl p.l : Nat)], .pointer pr] w
      fun e w' => ∃ q, e = .returned (.pointer q) ∧ IsT S w' q (bal l p r) ∧ Below w.heap.size w w' := by
  unfold bal
  by_cases h1 : r.dep + 1 < l.dep
  · obtain ⟨ll, lp, lr, rfl⟩ := dep_pos (t := l) (by omega)
    rw [if_pos h1]
    exact balance_left S ll lr r p lp pl pr w hl hr hp hlen hS h1
  · rw [if_neg h1]
    by_cases h2 : l.dep + 1 < r.dep
    · obtain ⟨rl, rp, rr, rfl⟩ := dep_pos (t := r) (by omega)
      rw [if_pos h2]
      exact balance_right S l rl rr p rp pl pr w hl hr hp hlen hS h2
    · rw [if_neg h2]
      exact balance_flat S l r p pl pr w hl hr hp hlen hS h1 h2
end Go.Proofs.Ytfikmlgmklnlaaa
