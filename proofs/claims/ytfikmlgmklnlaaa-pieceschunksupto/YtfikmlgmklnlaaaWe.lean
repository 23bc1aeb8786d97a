/-
  What the program's join, shift and meet answer.
-/
import Derived.Test.YtfikmlgmklnlaaaWd
namespace Go.Proofs.Ytfikmlgmklnlaaa
open Go.RowKit
set_option linter.unusedSimpArgs false
set_option linter.unusedVariables false

theorem jn_left (ll lr r : Tr) (lp p : Pc) (h : r.dep + 1 < (Tr.node ll lp lr).dep) : jn (.node ll lp lr) p r = bal ll lp (jn lr p r) := by
  rw [jn.eq_def]; rw [if_pos h]
theorem jn_right (l rl rr : Tr) (rp p : Pc) (h : ¬ (Tr.node rl rp rr).dep + 1 < l.dep) (h2 : l.dep + 1 < (Tr.node rl rp rr).dep) : jn l p (.node rl rp rr) = bal (jn l p rl) rp rr := by
  rw [jn.eq_def]; rw [if_neg h, if_pos h2]
theorem jn_flatt (l r : Tr) (p : Pc) (h : ¬ r.dep + 1 < l.dep) (h2 : ¬ l.dep + 1 < r.dep) : jn l p r = .node l p r := by
  rw [jn.eq_def]; rw [if_neg h, if_neg h2]

/-- What join is asked. -/
def JoinOk (S : Nat → Nat → Prop) (n : Nat) : Prop := ∀ (l r : Tr) (p : Pc) (pl pr : Option Addr) (w : World), l.pcs.length + r.pcs.length ≤ n → IsT S w pl l → IsT S w pr r → PcAt S w p →
    l.flat.length + p.l.length + r.flat.length ≤ 1099511627776 → (∀ b i, w.heap.size ≤ b → S b i) →
    Calls Try.prog 53 #[.pointer pl, .agg #[.slice (some ⟨p.a, p.o, none⟩) p.l.length p.cap, .int .i64 (nl p.l : Nat)], .pointer pr] w
      fun e w' => ∃ q, e = .returned (.pointer q) ∧ IsT S w' q (jn l p r) ∧ Below w.heap.size w w'

set_option maxRecDepth 100000 in
set_option maxHeartbeats 4000000 in
theorem join_flat (S : Nat → Nat → Prop) (l r : Tr) (p : Pc) (pl pr : Option Addr) (w : World) (hl : IsT S w pl l) (hr : IsT S w pr r) (hp : PcAt S w p)
    (hlen : l.flat.length + p.l.length + r.flat.length ≤ 1099511627776) (hS : ∀ b i, w.heap.size ≤ b → S b i) (h1 : ¬ r.dep + 1 < l.dep) (h2 : ¬ l.dep + 1 < r.dep) :
    Calls Try.prog 53 #[.pointer pl, .agg #[.slice (some ⟨p.a, p.o, none⟩) p.l.length p.cap, .int .i64 (nl p.l : Nat)], .pointer pr] w
      fun e w' => ∃ q, e = .returned (.pointer q) ∧ IsT S w' q (.node l p r) ∧ Below w.heap.size w w' := by
  have hln := fun w' (hb : Below w.heap.size w w') => lean_any S l r pl pr w' (hl.below hb) (hr.below hb) (by omega) (by omega)
  have hlk := fun w' (hb : Below w.heap.size w w') => link_any S l r p pl pr w' (hl.below hb) (hr.below hb) (hp.below hb) hlen (fun b i h => hS b i (Nat.le_trans hb.size h))
  have t1 : decide ((1 : Int) < (l.dep : Int) - (r.dep : Int)) = false := decide_eq_false (by omega)
  have t2 : decide ((l.dep : Int) - (r.dep : Int) < -1) = false := decide_eq_false (by omega)
  clear hl hr hp h1 h2
  generalize nl p.l = N at *
  generalize p.l.length = L at *
  generalize (l.dep : Int) - (r.dep : Int) = D at *
  go_enter Try.func53, Try.ntmps53
  go_wp2_with fail
  refine (hln _ ((Below.refl _ _).alloc (Nat.le_refl _) _)).mono ?_
  rintro e w1 ⟨rfl, hb1⟩
  rw [World.size_alloc] at hb1
  obtain ⟨c0, c1⟩ := box_kept hb1
  have HB1 := boxed hb1
  clear hb1 hln
  go_wp2_with fail
  refine (hlk _ (below_box HB1.out)).mono ?_
  rintro e w2 ⟨q, rfl, hT, hb2⟩
  have HT := boxed hT
  have HB2 := boxed (below_step (below_box HB1.out) (Nat.le_refl _) hb2)
  clear hT hb2 hlk
  go_wp2
  go_ret
  exact ⟨q, rfl, HT.out, HB2.out⟩

set_option maxRecDepth 100000 in
set_option maxHeartbeats 4000000 in
theorem join_left (S : Nat → Nat → Prop) (n : Nat) (ih : JoinOk S n) (ll lr r : Tr) (p lp : Pc) (pl pr : Option Addr) (w : World) (hn : lr.pcs.length + r.pcs.length ≤ n) (hl : IsT S w pl (.node ll lp lr)) (hr : IsT S w pr r) (hp : PcAt S w p)
    (hlen : (Tr.node ll lp lr).flat.length + p.l.length + r.flat.length ≤ 1099511627776) (hS : ∀ b i, w.heap.size ≤ b → S b i) (h1 : r.dep + 1 < (Tr.node ll lp lr).dep) :
    Calls Try.prog 53 #[.pointer pl, .agg #[.slice (some ⟨p.a, p.o, none⟩) p.l.length p.cap, .int .i64 (nl p.l : Nat)], .pointer pr] w
      fun e w' => ∃ q, e = .returned (.pointer q) ∧ IsT S w' q (bal ll lp (jn lr p r)) ∧ Below w.heap.size w w' := by
  have hl0 := hl
  have hlen0 := hlen
  simp only [flat_node, List.length_append] at hlen0
  obtain ⟨b, pa, pb, rfl, -, ⟨c0, c1, c2, c3, -, -, -, -⟩, hlp, ha, hbb⟩ := hl0
  have hln := fun w' (hb : Below w.heap.size w w') => lean_any S (.node ll lp lr) r (some ⟨b, 0, none⟩) pr w' (hl.below hb) (hr.below hb) (by omega) (by omega)
  have hjn := fun w' (hb : Below w.heap.size w w') => ih lr r p pb pr w' hn (hbb.below hb) (hr.below hb) (hp.below hb) (by omega) (fun b i h => hS b i (Nat.le_trans hb.size h))
  have hba := fun w' (hb : Below w.heap.size w w') y (hy : IsT S w' y (jn lr p r)) => balance_any S ll (jn lr p r) lp pa y w' (ha.below hb) hy (hlp.below hb) (by rw [jn_flat]; simp only [List.length_append]; omega) (fun b i h => hS b i (Nat.le_trans hb.size h))
  have t1 : decide ((1 : Int) < ((Tr.node ll lp lr).dep : Int) - (r.dep : Int)) = true := decide_eq_true (by omega)
  have HC : Box (∀ w', Below (w.heap.size + 1) (w.alloc (.cells #[.slice (some ⟨p.a, p.o, none⟩) p.l.length p.cap, .int .i64 (nl p.l : Nat)] 91)) w' →
      (w'.cell? ⟨b, 0, none⟩ = some (.pointer pa) ∧ w'.cell? ⟨b, 1, none⟩ = some (.pointer pb) ∧ w'.cell? ⟨b, 2, none⟩ = some (.slice (some ⟨lp.a, lp.o, none⟩) lp.l.length lp.cap) ∧ w'.cell? ⟨b, 3, none⟩ = some (.int .i64 (nl lp.l : Nat))) ∧
      w'.cell? ⟨w.heap.size, 0, none⟩ = some (.slice (some ⟨p.a, p.o, none⟩) p.l.length p.cap) ∧ w'.cell? ⟨w.heap.size, 1, none⟩ = some (.int .i64 (nl p.l : Nat))) :=
    boxed (fun w' hb => ⟨⟨hold (below_box hb) c0, hold (below_box hb) c1, hold (below_box hb) c2, hold (below_box hb) c3⟩, box_kept hb⟩)
  clear ha hbb c0 c1 c2 c3 hl hr hp hlp hlen hlen0 h1 hn
  generalize nl p.l = N at *
  generalize p.l.length = L at *
  generalize nl lp.l = N' at *
  generalize lp.l.length = L' at *
  generalize ((Tr.node ll lp lr).dep : Int) - (r.dep : Int) = D at *
  go_enter Try.func53, Try.ntmps53
  go_wp2_with fail
  refine (hln _ ((Below.refl _ _).alloc (Nat.le_refl _) _)).mono ?_
  rintro e w1 ⟨rfl, hb1⟩
  rw [World.size_alloc] at hb1
  have HB1 := boxed hb1
  clear hb1 hln
  go_wp2_with fail
  go_region_held3 (fun w' => (w'.cell? ⟨b, 0, none⟩ = some (.pointer pa) ∧ w'.cell? ⟨b, 1, none⟩ = some (.pointer pb) ∧ w'.cell? ⟨b, 2, none⟩ = some (.slice (some ⟨lp.a, lp.o, none⟩) L' lp.cap) ∧ w'.cell? ⟨b, 3, none⟩ = some (.int .i64 (N' : Nat))) ∧
      w'.cell? ⟨w.heap.size, 0, none⟩ = some (.slice (some ⟨p.a, p.o, none⟩) L p.cap) ∧ w'.cell? ⟨w.heap.size, 1, none⟩ = some (.int .i64 (N : Nat)))
    (first | exact HC.out _ HB3.out | exact HC.out _ HB2.out | exact HC.out _ HB1.out.drew)
    (first
      | (go_at_call 53; refine (hjn _ (below_box HB1.out.drew)).mono ?_; rintro e w2 ⟨y, rfl, hy, hb2⟩; clear hjn; have HY := boxed hy; have HB2 := boxed (below_step HB1.out.drew (by simp) hb2); clear hb2 hy)
      | (go_at_call 68; refine (hba _ (below_box HB2.out) _ HY.out).mono ?_; rintro e w3 ⟨z, rfl, hz, hb3⟩; clear hba; have HZ := boxed hz; have HB3 := boxed (below_step HB2.out (by simp) hb3); clear hb3 hz))
  go_wp2
  go_ret
  exact ⟨_, rfl, HZ.out, below_box HB3.out⟩

set_option maxRecDepth 100000 in
set_option maxHeartbeats 4000000 in
theorem join_right (S : Nat → Nat → Prop) (n : Nat) (ih : JoinOk S n) (l rl rr : Tr) (p rp : Pc) (pl pr : Option Addr) (w : World) (hn : l.pcs.length + rl.pcs.length ≤ n) (hl : IsT S w pl l) (hr : IsT S w pr (.node rl rp rr)) (hp : PcAt S w p)
    (hlen : l.flat.length + p.l.length + (Tr.node rl rp rr).flat.length ≤ 1099511627776) (hS : ∀ b i, w.heap.size ≤ b → S b i) (h1 : l.dep + 1 < (Tr.node rl rp rr).dep) :
    Calls Try.prog 53 #[.pointer pl, .agg #[.slice (some ⟨p.a, p.o, none⟩) p.l.length p.cap, .int .i64 (nl p.l : Nat)], .pointer pr] w
      fun e w' => ∃ q, e = .returned (.pointer q) ∧ IsT S w' q (bal (jn l p rl) rp rr) ∧ Below w.heap.size w w' := by
  have hl0 := hr
  have hlen0 := hlen
  simp only [flat_node, List.length_append] at hlen0
  obtain ⟨b, pa, pb, rfl, -, ⟨c0, c1, c2, c3, -, -, -, -⟩, hlp, ha, hbb⟩ := hl0
  have hln := fun w' (hb : Below w.heap.size w w') => lean_any S l (.node rl rp rr) pl (some ⟨b, 0, none⟩) w' (hl.below hb) (hr.below hb) (by omega) (by omega)
  have hjn := fun w' (hb : Below w.heap.size w w') => ih l rl p pl pa w' hn (hl.below hb) (ha.below hb) (hp.below hb) (by omega) (fun b i h => hS b i (Nat.le_trans hb.size h))
  have hba := fun w' (hb : Below w.heap.size w w') y (hy : IsT S w' y (jn l p rl)) => balance_any S (jn l p rl) rr rp y pb w' hy (hbb.below hb) (hlp.below hb) (by rw [jn_flat]; simp only [List.length_append]; omega) (fun b i h => hS b i (Nat.le_trans hb.size h))
  have t0 : decide ((1 : Int) < (l.dep : Int) - ((Tr.node rl rp rr).dep : Int)) = false := decide_eq_false (by omega)
  have t1 : decide ((l.dep : Int) - ((Tr.node rl rp rr).dep : Int) < -1) = true := decide_eq_true (by omega)
  have HC : Box (∀ w', Below (w.heap.size + 1) (w.alloc (.cells #[.slice (some ⟨p.a, p.o, none⟩) p.l.length p.cap, .int .i64 (nl p.l : Nat)] 91)) w' →
      (w'.cell? ⟨b, 0, none⟩ = some (.pointer pa) ∧ w'.cell? ⟨b, 1, none⟩ = some (.pointer pb) ∧ w'.cell? ⟨b, 2, none⟩ = some (.slice (some ⟨rp.a, rp.o, none⟩) rp.l.length rp.cap) ∧ w'.cell? ⟨b, 3, none⟩ = some (.int .i64 (nl rp.l : Nat))) ∧
      w'.cell? ⟨w.heap.size, 0, none⟩ = some (.slice (some ⟨p.a, p.o, none⟩) p.l.length p.cap) ∧ w'.cell? ⟨w.heap.size, 1, none⟩ = some (.int .i64 (nl p.l : Nat))) :=
    boxed (fun w' hb => ⟨⟨hold (below_box hb) c0, hold (below_box hb) c1, hold (below_box hb) c2, hold (below_box hb) c3⟩, box_kept hb⟩)
  clear ha hbb c0 c1 c2 c3 hl hr hp hlp hlen hlen0 h1 hn
  generalize nl p.l = N at *
  generalize p.l.length = L at *
  generalize nl rp.l = N' at *
  generalize rp.l.length = L' at *
  generalize (l.dep : Int) - ((Tr.node rl rp rr).dep : Int) = D at *
  go_enter Try.func53, Try.ntmps53
  go_wp2_with fail
  refine (hln _ ((Below.refl _ _).alloc (Nat.le_refl _) _)).mono ?_
  rintro e w1 ⟨rfl, hb1⟩
  rw [World.size_alloc] at hb1
  have HB1 := boxed hb1
  clear hb1 hln
  go_wp2_with fail
  go_region_held3 (fun w' => (w'.cell? ⟨b, 0, none⟩ = some (.pointer pa) ∧ w'.cell? ⟨b, 1, none⟩ = some (.pointer pb) ∧ w'.cell? ⟨b, 2, none⟩ = some (.slice (some ⟨rp.a, rp.o, none⟩) L' rp.cap) ∧ w'.cell? ⟨b, 3, none⟩ = some (.int .i64 (N' : Nat))) ∧
      w'.cell? ⟨w.heap.size, 0, none⟩ = some (.slice (some ⟨p.a, p.o, none⟩) L p.cap) ∧ w'.cell? ⟨w.heap.size, 1, none⟩ = some (.int .i64 (N : Nat)))
    (first | exact HC.out _ HB3.out | exact HC.out _ HB2.out | exact HC.out _ HB1.out.drew)
    (first
      | (go_at_call 53; refine (hjn _ (below_box HB1.out.drew)).mono ?_; rintro e w2 ⟨y, rfl, hy, hb2⟩; clear hjn; have HY := boxed hy; have HB2 := boxed (below_step HB1.out.drew (by simp) hb2); clear hb2 hy)
      | (go_at_call 68; refine (hba _ (below_box HB2.out) _ HY.out).mono ?_; rintro e w3 ⟨z, rfl, hz, hb3⟩; clear hba; have HZ := boxed hz; have HB3 := boxed (below_step HB2.out (by simp) hb3); clear hb3 hz))
  go_wp2
  go_ret
  exact ⟨_, rfl, HZ.out, below_box HB3.out⟩

theorem join_ok (S : Nat → Nat → Prop) : ∀ n, JoinOk S n
  | n, l, r, p, pl, pr, w, hn, hl, hr, hp, hlen, hS => by
    by_cases h1 : r.dep + 1 < l.dep
    · obtain ⟨ll, lp, lr, rfl⟩ := dep_pos (t := l) (by omega)
      match n, hn with
      | 0, hn => simp [Tr.pcs] at hn
      | n + 1, hn =>
        rw [jn_left _ _ _ _ _ h1]
        exact join_left S n (join_ok S n) ll lr r p lp pl pr w (by simp only [Tr.pcs, List.length_append, List.length_cons] at hn; omega) hl hr hp hlen hS h1
    · by_cases h2 : l.dep + 1 < r.dep
      · obtain ⟨rl, rp, rr, rfl⟩ := dep_pos (t := r) (by omega)
        match n, hn with
        | 0, hn => simp [Tr.pcs] at hn
        | n + 1, hn =>
          rw [jn_right _ _ _ _ _ h1 h2]
          exact join_right S n (join_ok S n) l rl rr p rp pl pr w (by simp only [Tr.pcs, List.length_append, List.length_cons] at hn; omega) hl hr hp hlen hS h2
      · rw [jn_flatt _ _ _ h1 h2]
        exact join_flat S l r p pl pr w hl hr hp hlen hS h1 h2

theorem join_any (S : Nat → Nat → Prop) (l r : Tr) (p : Pc) (pl pr : Option Addr) (w : World) (hl : IsT S w pl l) (hr : IsT S w pr r) (hp : PcAt S w p)
    (hlen : l.flat.length + p.l.length + r.flat.length ≤ 1099511627776) (hS : ∀ b i, w.heap.size ≤ b → S b i) :
    Calls Try.prog 53 #[.pointer pl, .agg #[.slice (some ⟨p.a, p.o, none⟩) p.l.length p.cap, .int .i64 (nl p.l : Nat)], .pointer pr] w
      fun e w' => ∃ q, e = .returned (.pointer q) ∧ IsT S w' q (jn l p r) ∧ Below w.heap.size w w' :=
  join_ok S _ l r p pl pr w (Nat.le_refl _) hl hr hp hlen hS
end Go.Proofs.Ytfikmlgmklnlaaa
