/-
  What the program's split answers.
-/
import Derived.Test.YtfikmlgmklnlaaaWf
namespace Go.Proofs.Ytfikmlgmklnlaaa
open Go.RowKit
set_option linter.unusedSimpArgs false
set_option linter.unusedVariables false

theorem sp_low (l r : Tr) (p : Pc) (a : Int) (h : a - (l.flat.length : Int) ≤ 0) : sp (.node l p r) a = ((sp l a).1, jn (sp l a).2 p r) := by
  rw [sp]; rw [if_pos h]
theorem sp_high (l r : Tr) (p : Pc) (a : Int) (h : ¬ a - (l.flat.length : Int) ≤ 0) (h2 : (p.l.length : Int) ≤ a - (l.flat.length : Int)) :
    sp (.node l p r) a = (jn l p (sp r (a - (l.flat.length : Int) - (p.l.length : Int))).1, (sp r (a - (l.flat.length : Int) - (p.l.length : Int))).2) := by
  rw [sp]; rw [if_neg h, if_pos h2]
theorem sp_mid (l r : Tr) (p : Pc) (a : Int) (h : ¬ a - (l.flat.length : Int) ≤ 0) (h2 : ¬ (p.l.length : Int) ≤ a - (l.flat.length : Int)) :
    sp (.node l p r) a = (jn l (tk p (a - (l.flat.length : Int)).toNat) .nil, jn .nil (dr p (a - (l.flat.length : Int)).toNat) r) := by
  rw [sp]; rw [if_neg h, if_neg h2]
theorem sp_len (t : Tr) (a : Int) : (sp t a).1.flat.length ≤ t.flat.length ∧ (sp t a).2.flat.length ≤ t.flat.length := by
  have h := sp_flat t a
  rw [h.1, h.2]
  simp
  omega
theorem tk_at {S : Nat → Nat → Prop} {w : World} {p : Pc} (h : PcAt S w p) (k : Nat) (h0 : 0 < k) (hk : k < p.l.length) : PcAt S w (tk p k) := by
  obtain ⟨⟨h1, h2, h3, h4⟩, hc⟩ := h
  refine ⟨⟨?_, ?_, h3, ?_⟩, fun i hi => ?_⟩
  · intro he
    have : (p.l.take k).length = 0 := by rw [show p.l.take k = [] from he]; rfl
    rw [List.length_take] at this
    omega
  · simp only [tk, List.length_take]; omega
  · intro x hx; exact h4 x (List.mem_of_mem_take hx)
  · simp only [tk, List.length_take] at hi ⊢
    have := hc i (by omega)
    refine ⟨this.1, ?_⟩
    rw [this.2]
    simp only [List.getD_eq_getElem?_getD, List.getElem?_take]
    rw [if_pos (by omega)]
theorem dr_at {S : Nat → Nat → Prop} {w : World} {p : Pc} (h : PcAt S w p) (k : Nat) (hk : k < p.l.length) : PcAt S w (dr p k) := by
  obtain ⟨⟨h1, h2, h3, h4⟩, hc⟩ := h
  refine ⟨⟨?_, ?_, ?_, ?_⟩, fun i hi => ?_⟩
  · intro he
    have : (p.l.drop k).length = 0 := by rw [show p.l.drop k = [] from he]; rfl
    simp at this
    omega
  · simp only [dr, List.length_drop]; omega
  · simp only [dr]; omega
  · intro x hx; exact h4 x (List.mem_of_mem_drop hx)
  · simp only [dr, List.length_drop] at hi ⊢
    have := hc (k + i) (by omega)
    rw [← Nat.add_assoc] at this
    refine ⟨this.1, ?_⟩
    rw [this.2]
    simp only [List.getD_eq_getElem?_getD, List.getElem?_drop]

/-- What split is asked. -/
def SplitOk (T : Tr) : Prop := ∀ (S : Nat → Nat → Prop) (x : Option Addr) (a : Int) (w : World), IsT S w x T → T.flat.length ≤ 1099511627776 → (-2199023255552 ≤ a ∧ a ≤ 2199023255552) → (∀ b i, w.heap.size ≤ b → S b i) →
    Calls Try.prog 36 #[.pointer x, .int .i64 a] w fun e w' => ∃ y z, e = .returned (.tuple #[.pointer y, .pointer z]) ∧ IsT S w' y (sp T a).1 ∧ IsT S w' z (sp T a).2 ∧ Below w.heap.size w w'

set_option maxRecDepth 100000 in
theorem split_nil : SplitOk .nil := by
  intro S x a w h hlen ha hS
  obtain rfl : x = none := h
  go_enter Try.func36, Try.ntmps36
  go_wp2
  refine bodyPost_ret (v := .tuple #[.pointer none, .pointer none]) (by simp [results, Try.results36, go_sem]) rfl ?_
  exact ⟨none, none, rfl, rfl, rfl, Below.refl _ _⟩

set_option maxRecDepth 100000 in
set_option maxHeartbeats 4000000 in
theorem split_low (l r : Tr) (p : Pc) (ihl : SplitOk l) (S : Nat → Nat → Prop) (x : Option Addr) (a : Int) (w : World) (h : IsT S w x (.node l p r)) (hlen : (Tr.node l p r).flat.length ≤ 1099511627776) (ha : -2199023255552 ≤ a ∧ a ≤ 2199023255552)
    (hS : ∀ b i, w.heap.size ≤ b → S b i) (hlo : a - (l.flat.length : Int) ≤ 0) :
    Calls Try.prog 36 #[.pointer x, .int .i64 a] w fun e w' => ∃ y z, e = .returned (.tuple #[.pointer y, .pointer z]) ∧ IsT S w' y (sp l a).1 ∧ IsT S w' z (jn (sp l a).2 p r) ∧ Below w.heap.size w w' := by
  obtain ⟨b, pl, pr, rfl, -, ⟨c0, c1, c2, c3, -, -, -, -⟩, hp, hl, hr⟩ := h
  rw [flat_node] at hlen
  simp only [List.length_append] at hlen
  have hsl := sp_len l a
  have htot := total_any S l pl w hl
  have hrec := fun w' (hb : Below w.heap.size w w') => ihl S pl a w' (hl.below hb) (by omega) ha (fun b i h => hS b i (Nat.le_trans hb.size h))
  have hjn := fun w' (hb : Below w.heap.size w w') y (hy : IsT S w' y (sp l a).2) => join_any S (sp l a).2 r p y pr w' hy (hr.below hb) (hp.below hb) (by omega) (fun b i h => hS b i (Nat.le_trans hb.size h))
  have HC : Box (∀ w', Below w.heap.size w w' → w'.cell? ⟨b, 1, none⟩ = some (.pointer pr) ∧ w'.cell? ⟨b, 2, none⟩ = some (.slice (some ⟨p.a, p.o, none⟩) p.l.length p.cap) ∧ w'.cell? ⟨b, 3, none⟩ = some (.int .i64 (nl p.l : Nat))) :=
    boxed (fun w' hb => ⟨hold hb c1, hold hb c2, hold hb c3⟩)
  have HC0 : Box (∀ w', Below w.heap.size w w' → w'.cell? ⟨b, 0, none⟩ = some (.pointer pl)) := boxed (fun w' hb => hold hb c0)
  have hl1 : (l.flat.length : Int) ≤ 1099511627776 := by omega
  have t1 : decide (a - (l.flat.length : Int) ≤ 0) = true := decide_eq_true hlo
  clear hl hr hp hsl hlen c1 c2 c3
  have hf0 := fld0
  generalize nl p.l = N at *
  generalize p.l.length = L at *
  generalize l.flat.length = L1 at *
  generalize nl l.flat = L2 at *
  generalize l.pcs.length = L3 at *
  generalize l.dep = L4 at *
  go_enter Try.func36, Try.ntmps36
  go_wp2_with fail
  refine htot.mono ?_
  rintro e w1 ⟨rfl, hb1⟩
  have HB1 := boxed hb1
  have k0 := HC0.out _ HB1.out
  clear hb1 htot
  go_wp2_with fail
  refine (hrec _ HB1.out).mono ?_
  rintro e w2 ⟨y, z, rfl, hy, hz, hb2⟩
  have HY := boxed hy
  have HZ := boxed hz
  have HB2 := boxed (below_step HB1.out (Nat.le_refl _) hb2)
  clear hy hz hb2 hrec
  go_wp2_with fail
  have HZ2 := boxed (HZ.out.below (Below.refl _ w2).drew)
  have HB2d := boxed HB2.out.drew
  go_region_held3 (fun w' => w'.cell? ⟨b, 1, none⟩ = some (.pointer pr) ∧ w'.cell? ⟨b, 2, none⟩ = some (.slice (some ⟨p.a, p.o, none⟩) L p.cap) ∧ w'.cell? ⟨b, 3, none⟩ = some (.int .i64 (N : Nat)))
    (first | exact HC.out _ HB3.out | exact HC.out _ HB2d.out)
    (first | (go_at_call 53; refine (hjn _ HB2d.out _ HZ2.out).mono ?_; rintro e w3 ⟨q, rfl, hq, hb3⟩; clear hjn; have HQ := boxed hq; have HB3 := boxed (below_step HB2d.out (Nat.le_refl _) hb3); have HY2 := boxed ((HY.out.below (Below.refl _ w2).drew).below hb3); clear hb3 hq))
  go_wp2
  refine bodyPost_ret (v := .tuple #[.pointer y, .pointer q]) (by simp [results, Try.results36, go_sem]) rfl ?_
  exact ⟨y, q, rfl, HY2.out, HQ.out, HB3.out⟩

set_option maxRecDepth 100000 in
set_option maxHeartbeats 4000000 in
theorem split_high (l r : Tr) (p : Pc) (ihr : SplitOk r) (S : Nat → Nat → Prop) (x : Option Addr) (a : Int) (w : World) (h : IsT S w x (.node l p r)) (hlen : (Tr.node l p r).flat.length ≤ 1099511627776) (ha : -2199023255552 ≤ a ∧ a ≤ 2199023255552)
    (hS : ∀ b i, w.heap.size ≤ b → S b i) (hlo : ¬ a - (l.flat.length : Int) ≤ 0) (hhi : (p.l.length : Int) ≤ a - (l.flat.length : Int)) :
    Calls Try.prog 36 #[.pointer x, .int .i64 a] w fun e w' => ∃ y z, e = .returned (.tuple #[.pointer y, .pointer z]) ∧
      IsT S w' y (jn l p (sp r (a - (l.flat.length : Int) - (p.l.length : Int))).1) ∧ IsT S w' z (sp r (a - (l.flat.length : Int) - (p.l.length : Int))).2 ∧ Below w.heap.size w w' := by
  obtain ⟨b, pl, pr, rfl, -, ⟨c0, c1, c2, c3, -, -, -, -⟩, hp, hl, hr⟩ := h
  rw [flat_node] at hlen
  simp only [List.length_append] at hlen
  have hsl := sp_len r (a - (l.flat.length : Int) - (p.l.length : Int))
  have htot := total_any S l pl w hl
  have hrec := fun w' (hb : Below w.heap.size w w') => ihr S pr (a - (l.flat.length : Int) - (p.l.length : Int)) w' (hr.below hb) (by omega) (by omega) (fun b i h => hS b i (Nat.le_trans hb.size h))
  have hjn := fun w' (hb : Below w.heap.size w w') y (hy : IsT S w' y (sp r (a - (l.flat.length : Int) - (p.l.length : Int))).1) => join_any S l (sp r (a - (l.flat.length : Int) - (p.l.length : Int))).1 p pl y w' (hl.below hb) hy (hp.below hb) (by omega) (fun b i h => hS b i (Nat.le_trans hb.size h))
  have HC : Box (∀ w', Below w.heap.size w w' → w'.cell? ⟨b, 0, none⟩ = some (.pointer pl) ∧ w'.cell? ⟨b, 1, none⟩ = some (.pointer pr) ∧ w'.cell? ⟨b, 2, none⟩ = some (.slice (some ⟨p.a, p.o, none⟩) p.l.length p.cap) ∧ w'.cell? ⟨b, 3, none⟩ = some (.int .i64 (nl p.l : Nat))) :=
    boxed (fun w' hb => ⟨hold hb c0, hold hb c1, hold hb c2, hold hb c3⟩)
  have hl1 : (l.flat.length : Int) ≤ 1099511627776 := by omega
  have hl2 : (p.l.length : Int) ≤ 1099511627776 := by omega
  have t1 : decide (a - (l.flat.length : Int) ≤ 0) = false := decide_eq_false hlo
  have t2 : decide ((p.l.length : Int) ≤ a - (l.flat.length : Int)) = true := decide_eq_true hhi
  have hw : IntKind.i64.wrap (a - (l.flat.length : Int) - (p.l.length : Int)) = a - (l.flat.length : Int) - (p.l.length : Int) := by rw [IntKind.wrap_i64]; omega
  clear hl hr hp hsl hlen c1 c2 c3 hlo hhi
  have hf0 := fld0
  generalize nl p.l = N at *
  generalize p.l.length = L at *
  generalize l.flat.length = L1 at *
  generalize nl l.flat = L2 at *
  generalize l.pcs.length = L3 at *
  generalize l.dep = L4 at *
  go_enter Try.func36, Try.ntmps36
  go_wp2_with fail
  refine htot.mono ?_
  rintro e w1 ⟨rfl, hb1⟩
  have HB1 := boxed hb1
  obtain ⟨k0, k1, k2, k3⟩ := HC.out _ HB1.out
  clear hb1 htot c0
  go_wp2_with fail
  have HB1d := boxed HB1.out.drew
  go_region_held3 (fun w' => w'.cell? ⟨b, 0, none⟩ = some (.pointer pl) ∧ w'.cell? ⟨b, 1, none⟩ = some (.pointer pr) ∧ w'.cell? ⟨b, 2, none⟩ = some (.slice (some ⟨p.a, p.o, none⟩) L p.cap) ∧ w'.cell? ⟨b, 3, none⟩ = some (.int .i64 (N : Nat)))
    (first | exact HC.out _ HB2.out | exact HC.out _ HB1d.out)
    (first | (go_at_call 36; refine (hrec _ HB1d.out).mono ?_; rintro e w2 ⟨y, z, rfl, hy, hz, hb2⟩; clear hrec; have HY := boxed hy; have HZ := boxed hz; have HB2 := boxed (below_step HB1d.out (Nat.le_refl _) hb2); clear hb2 hy hz))
  go_wp2_with fail
  have HY2 := boxed (HY.out.below (Below.refl _ w2).drew)
  have HB2d := boxed HB2.out.drew
  go_region_held3 (fun w' => w'.cell? ⟨b, 0, none⟩ = some (.pointer pl) ∧ w'.cell? ⟨b, 1, none⟩ = some (.pointer pr) ∧ w'.cell? ⟨b, 2, none⟩ = some (.slice (some ⟨p.a, p.o, none⟩) L p.cap) ∧ w'.cell? ⟨b, 3, none⟩ = some (.int .i64 (N : Nat)))
    (first | exact HC.out _ HB3.out | exact HC.out _ HB2d.out)
    (first | (go_at_call 53; refine (hjn _ HB2d.out _ HY2.out).mono ?_; rintro e w3 ⟨q, rfl, hq, hb3⟩; clear hjn; have HQ := boxed hq; have HB3 := boxed (below_step HB2d.out (Nat.le_refl _) hb3); have HZ2 := boxed ((HZ.out.below (Below.refl _ w2).drew).below hb3); clear hb3 hq))
  go_wp2
  refine bodyPost_ret (v := .tuple #[.pointer q, .pointer z]) (by simp [results, Try.results36, go_sem]) rfl ?_
  exact ⟨q, z, rfl, HQ.out, HZ2.out, HB3.out⟩

theorem slice_head (a o L cap K : Nat) (hk : K ≤ cap) (w : World) : (Instr.slice 60 (.slice (some ⟨a, o, none⟩) L cap) none (some (.int .i64 (K : Int))) none).run Try.prog w = .ok (.slice (some ⟨a, o, none⟩) K cap) w := by
  go_simp
theorem slice_tail (a o L cap K : Nat) (hk : K < L) (hc : L ≤ cap) (w : World) : (Instr.slice 60 (.slice (some ⟨a, o, none⟩) L cap) (some (.int .i64 (K : Int))) none none).run Try.prog w = .ok (.slice (some ⟨a, o + K, none⟩) (L - K) (cap - K)) w := by
  have h1 : cap ≠ K := by omega
  go_simp
  intro h
  omega

set_option maxRecDepth 100000 in
set_option maxHeartbeats 4000000 in
theorem split_mid (l r : Tr) (p : Pc) (S : Nat → Nat → Prop) (x : Option Addr) (K : Nat) (w : World) (h : IsT S w x (.node l p r)) (hlen : (Tr.node l p r).flat.length ≤ 1099511627776)
    (hS : ∀ b i, w.heap.size ≤ b → S b i) (hlo : 0 < K) (hhi : K < p.l.length) :
    Calls Try.prog 36 #[.pointer x, .int .i64 ((l.flat.length : Int) + (K : Int))] w fun e w' => ∃ y z, e = .returned (.tuple #[.pointer y, .pointer z]) ∧
      IsT S w' y (jn l (tk p K) .nil) ∧ IsT S w' z (jn .nil (dr p K) r) ∧ Below w.heap.size w w' := by
  obtain ⟨b, pl, pr, rfl, -, ⟨c0, c1, c2, c3, -, -, -, -⟩, hp, hl, hr⟩ := h
  rw [flat_node] at hlen
  simp only [List.length_append] at hlen
  have htot := total_any S l pl w hl
  have e1 : (tk p K).l.length = K := by simp only [tk, List.length_take]; omega
  have e2 : (dr p K).l.length = p.l.length - K := by simp only [dr, List.length_drop]
  have hcut1 := fun w' (hb : Below w.heap.size w w') => cut_any S (tk p K) w' (tk_at (hp.below hb) K hlo hhi)
  have hcut2 := fun w' (hb : Below w.heap.size w w') => cut_any S (dr p K) w' (dr_at (hp.below hb) K hhi)
  have hj1 := fun w' (hb : Below w.heap.size w w') => join_any S l .nil (tk p K) pl none w' (hl.below hb) rfl (tk_at (hp.below hb) K hlo hhi) (by rw [e1]; simp [flat_nil]; omega) (fun b i h => hS b i (Nat.le_trans hb.size h))
  have hj2 := fun w' (hb : Below w.heap.size w w') => join_any S .nil r (dr p K) none pr w' rfl (hr.below hb) (dr_at (hp.below hb) K hhi) (by rw [e2]; simp [flat_nil]; omega) (fun b i h => hS b i (Nat.le_trans hb.size h))
  rw [e1] at hcut1 hj1
  rw [e2] at hcut2 hj2
  simp only [show (tk p K).a = p.a from rfl, show (tk p K).o = p.o from rfl, show (tk p K).cap = p.cap from rfl, show (dr p K).a = p.a from rfl, show (dr p K).o = p.o + K from rfl, show (dr p K).cap = p.cap - K from rfl] at hcut1 hcut2 hj1 hj2
  have HC : Box (∀ w', Below w.heap.size w w' → w'.cell? ⟨b, 0, none⟩ = some (.pointer pl) ∧ w'.cell? ⟨b, 1, none⟩ = some (.pointer pr) ∧ w'.cell? ⟨b, 2, none⟩ = some (.slice (some ⟨p.a, p.o, none⟩) p.l.length p.cap)) :=
    boxed (fun w' hb => ⟨hold hb c0, hold hb c1, hold hb c2⟩)
  have hsh := slice_head p.a p.o p.l.length p.cap K (by have := hp.1.2.1.1; omega)
  have hst := slice_tail p.a p.o p.l.length p.cap K hhi hp.1.2.1.1
  have hown : (l.flat.length : Int) + (K : Int) - (l.flat.length : Int) = (K : Int) := by omega
  have hl1 : (l.flat.length : Int) ≤ 1099511627776 := by omega
  have hl2 : (K : Int) ≤ 1099511627776 := by omega
  have t1 : decide ((K : Int) ≤ 0) = false := decide_eq_false (by omega)
  have t2 : decide ((p.l.length : Int) ≤ (K : Int)) = false := decide_eq_false (by omega)
  have t2' : decide (p.l.length ≤ K) = false := decide_eq_false (by omega)
  have t1' : (K == 0) = false := by simp; omega
  clear hl hr hp hlen c1 c2 c3 e1 e2
  have hf0 := fld0
  generalize nl (tk p K).l = N1 at *
  generalize nl (dr p K).l = N2 at *
  generalize nl p.l = N at *
  generalize p.l.length = L at *
  generalize hA : (l.flat.length : Int) + (K : Int) = A at *
  have hA' : A ≤ 2199023255552 ∧ -2199023255552 ≤ A := by omega
  clear hA
  generalize l.flat.length = L1 at *
  generalize nl l.flat = L2 at *
  generalize l.pcs.length = L3 at *
  generalize l.dep = L4 at *
  go_enter Try.func36, Try.ntmps36
  go_wp2_with fail
  refine htot.mono ?_
  rintro e w1 ⟨rfl, hb1⟩
  have HB1 := boxed hb1
  obtain ⟨k0, k1, k2⟩ := HC.out _ HB1.out
  clear hb1 htot c0
  go_wp2_with fail
  have HB1d := boxed HB1.out.drew
  go_region_held3 (fun w' => w'.cell? ⟨b, 0, none⟩ = some (.pointer pl) ∧ w'.cell? ⟨b, 1, none⟩ = some (.pointer pr) ∧ w'.cell? ⟨b, 2, none⟩ = some (.slice (some ⟨p.a, p.o, none⟩) L p.cap))
    (first | exact HC.out _ HB5.out | exact HC.out _ HB4.out | exact HC.out _ HB3.out | exact HC.out _ HB2.out | exact HC.out _ HB1d.out)
    (first
      | (go_at_call 51; refine (hcut1 _ HB1d.out).mono ?_; rintro e w2 ⟨rfl, hb2⟩; clear hcut1; have HB2 := boxed (below_step HB1d.out (Nat.le_refl _) hb2); clear hb2)
      | (go_at_call 53; refine (hj1 _ HB2.out).mono ?_; rintro e w3 ⟨y, rfl, hy, hb3⟩; clear hj1; have HY := boxed hy; have HB3 := boxed (below_step HB2.out (Nat.le_refl _) hb3); clear hb3 hy)
      | (go_at_call 51; refine (hcut2 _ HB3.out).mono ?_; rintro e w4 ⟨rfl, hb4⟩; clear hcut2; have HB4 := boxed (below_step HB3.out (Nat.le_refl _) hb4); have HY4 := boxed (HY.out.below hb4); clear hb4)
      | (go_at_call 53; refine (hj2 _ HB4.out).mono ?_; rintro e w5 ⟨z, rfl, hz, hb5⟩; clear hj2; have HZ := boxed hz; have HB5 := boxed (below_step HB4.out (Nat.le_refl _) hb5); have HY5 := boxed (HY4.out.below hb5); clear hb5 hz))
  go_wp2
  refine bodyPost_ret (v := .tuple #[.pointer y, .pointer z]) (by simp [results, Try.results36, go_sem]) rfl ?_
  exact ⟨y, z, rfl, HY5.out, HZ.out, HB5.out⟩

theorem split_any : ∀ T : Tr, SplitOk T
  | .nil => split_nil
  | .node l p r => by
    intro S x a w h hlen ha hS
    by_cases h1 : a - (l.flat.length : Int) ≤ 0
    · rw [sp_low _ _ _ _ h1]
      exact split_low l r p (split_any l) S x a w h hlen ha hS h1
    · by_cases h2 : (p.l.length : Int) ≤ a - (l.flat.length : Int)
      · rw [sp_high _ _ _ _ h1 h2]
        exact split_high l r p (split_any r) S x a w h hlen ha hS h1 h2
      · rw [sp_mid _ _ _ _ h1 h2]
        have hk := split_mid l r p S x (a - (l.flat.length : Int)).toNat w h hlen hS (by omega) (by omega)
        rw [show (l.flat.length : Int) + ((a - (l.flat.length : Int)).toNat : Int) = a by omega] at hk
        exact hk
end Go.Proofs.Ytfikmlgmklnlaaa
