/-
  What the program's shift and meet answer.
-/
import Derived.Test.YtfikmlgmklnlaaaWe
namespace Go.Proofs.Ytfikmlgmklnlaaa
open Go.RowKit
set_option linter.unusedSimpArgs false
set_option linter.unusedVariables false

theorem shf_flat (l : Tr) (p : Pc) (r : Tr) : (shf l p r).1.l.length + (shf l p r).2.flat.length = (Tr.node l p r).flat.length := by
  have h := congrArg (fun ps => (flt ps).length) (shf_pcs l p r)
  simp only [flt, List.length_append] at h
  simpa [Tr.flat, Tr.pcs] using h

theorem far2 {w : World} {A b i : Nat} {v0 v1 u : Value} (hne : A ≠ b) (h : w.cell? ⟨b, i, none⟩ = some u) : ((w.setCell ⟨A, 0, none⟩ v0).setCell ⟨A, 1, none⟩ v1).cell? ⟨b, i, none⟩ = some u := by
  rw [World.cell?_setCell_far _ _ _ _ hne, World.cell?_setCell_far _ _ _ _ hne]; exact h
theorem kp_ne {S : Nat → Nat → Prop} {w : World} : Kp S (fun b i => S b i ∧ b ≠ w.heap.size) w w := fun b i u hs hc =>
  ⟨⟨hs, fun h => by have := World.block_lt_of_cell? w _ hc; simp at this; omega⟩, hc⟩
theorem kp_far {S : Nat → Nat → Prop} {w : World} {A : Nat} {v0 v1 : Value} : Kp (fun b i => S b i ∧ b ≠ A) S w ((w.setCell ⟨A, 0, none⟩ v0).setCell ⟨A, 1, none⟩ v1) := fun b i u hs hc =>
  ⟨hs.1, far2 (Ne.symm hs.2) hc⟩
theorem box_frozen {w w' : World} {v0 v1 : Value} {t : TypeId} (hb : Below (w.heap.size + 1) (w.alloc (.cells #[v0, v1] t)) w') :
    w'.frozen? ⟨w.heap.size, 0, none⟩ = false ∧ w'.frozen? ⟨w.heap.size, 1, none⟩ = false := by
  have h : (w.alloc (.cells #[v0, v1] t)).heap[w.heap.size]? = some (.cells #[v0, v1] t (0, 0)) := heap_alloc_new w _
  refine ⟨?_, ?_⟩
  · rw [hb.frozen (p := ⟨w.heap.size, 0, none⟩) (by simp)]; unfold World.frozen?; rw [h]; simp
  · rw [hb.frozen (p := ⟨w.heap.size, 1, none⟩) (by simp)]; unfold World.frozen?; rw [h]; simp

set_option maxRecDepth 100000 in
set_option maxHeartbeats 4000000 in
theorem shift_any : ∀ (l : Tr) (S : Nat → Nat → Prop) (p : Pc) (r : Tr) (x : Option Addr) (w : World), IsT S w x (.node l p r) → (Tr.node l p r).flat.length ≤ 1099511627776 → (∀ b i, w.heap.size ≤ b → S b i) →
    Calls Try.prog 69 #[.pointer x] w fun e w' => ∃ q, e = .returned (.tuple #[.agg #[.slice (some ⟨(shf l p r).1.a, (shf l p r).1.o, none⟩) (shf l p r).1.l.length (shf l p r).1.cap, .int .i64 (nl (shf l p r).1.l : Nat)], .pointer q]) ∧
      PcAt S w' (shf l p r).1 ∧ IsT S w' q (shf l p r).2 ∧ Below w.heap.size w w' := by
  intro l
  induction l with
  | nil =>
    intro S p r x w h hlen hS
    obtain ⟨b, pl, pr, rfl, -, ⟨c0, c1, c2, c3, -, -, -, -⟩, hp, hl, hr⟩ := h
    obtain rfl : pl = none := hl
    have hb := World.block_lt_of_cell? w _ c0
    have hne : w.heap.size ≠ b := by simp at hb; omega
    have HP := boxed hp
    have HR := boxed hr
    clear hp hr hlen
    show Calls _ _ _ _ (fun e w' => ∃ q, e = .returned (.tuple #[.agg #[.slice (some ⟨p.a, p.o, none⟩) p.l.length p.cap, .int .i64 (nl p.l : Nat)], .pointer q]) ∧ PcAt S w' p ∧ IsT S w' q r ∧ Below w.heap.size w w')
    generalize nl p.l = N at *
    generalize p.l.length = L at *
    go_enter Try.func69, Try.ntmps69
    go_wp2
    go_region
    go_wp2
    refine bodyPost_ret (v := .tuple #[.agg #[.slice (some ⟨p.a, p.o, none⟩) L p.cap, .int .i64 N], .pointer pr]) (by simp [results, Try.results69, go_sem]) rfl ⟨pr, rfl, ?_⟩
    have hbl := ((Below.refl w.heap.size w).alloc (Nat.le_refl _) (Obj.cells #[Value.slice (some ⟨p.a, p.o, none⟩) L p.cap, Value.int .i64 (N : Int)] 91)).drew
    exact ⟨HP.out.below hbl, HR.out.below hbl, hbl⟩
  | node ll lp lr ihl ihr =>
    intro S p r x w h hlen hS
    obtain ⟨b, pl, pr, rfl, -, ⟨c0, c1, c2, c3, -, -, -, -⟩, hp, hl, hr⟩ := h
    have hlen0 := hlen
    rw [flat_node] at hlen0
    simp only [List.length_append] at hlen0
    have hfl := shf_flat ll lp lr
    have hk0 : Kp S (fun b i => S b i ∧ b ≠ w.heap.size) w w := kp_ne
    have hrec := fun w' (hb : Below w.heap.size w w') (hz : w.heap.size < w'.heap.size) => ihl (fun b i => S b i ∧ b ≠ w.heap.size) lp lr pl w' ((hl.keep hk0).below hb) (by omega) (fun b i h => ⟨hS b i (Nat.le_trans hb.size h), by omega⟩)
    have hba := fun w' (hb : Below w.heap.size w w') (hz : w.heap.size < w'.heap.size) y (hy : IsT (fun b i => S b i ∧ b ≠ w.heap.size) w' y (shf ll lp lr).2) => balance_any (fun b i => S b i ∧ b ≠ w.heap.size) (shf ll lp lr).2 r p y pr w' hy ((hr.keep hk0).below hb) ((hp.keep hk0).below hb) (by omega) (fun b i h => ⟨hS b i (Nat.le_trans hb.size h), by omega⟩)
    obtain ⟨bl, pll, plr, rfl, -⟩ := hl
    have hb := World.block_lt_of_cell? w _ c0
    have hne : w.heap.size ≠ b := by simp at hb; omega
    clear ihl ihr hlen hlen0 hfl hp hr
    show Calls _ _ _ _ (fun e w' => ∃ q, e = .returned (.tuple #[.agg #[.slice (some ⟨(shf ll lp lr).1.a, (shf ll lp lr).1.o, none⟩) (shf ll lp lr).1.l.length (shf ll lp lr).1.cap, .int .i64 (nl (shf ll lp lr).1.l : Nat)], .pointer q]) ∧
      PcAt S w' (shf ll lp lr).1 ∧ IsT S w' q (bal (shf ll lp lr).2 p r) ∧ Below w.heap.size w w')
    generalize (shf ll lp lr).1 = f at *
    generalize (shf ll lp lr).2 = g at *
    have HC : Box (∀ w', Below w.heap.size w w' → w'.cell? ⟨b, 1, none⟩ = some (.pointer pr) ∧ w'.cell? ⟨b, 2, none⟩ = some (.slice (some ⟨p.a, p.o, none⟩) p.l.length p.cap) ∧ w'.cell? ⟨b, 3, none⟩ = some (.int .i64 (nl p.l : Nat))) :=
      boxed (fun w' hb => ⟨hold hb c1, hold hb c2, hold hb c3⟩)
    generalize nl p.l = N at *
    generalize p.l.length = L at *
    generalize nl f.l = N' at *
    generalize f.l.length = L' at *
    go_enter Try.func69, Try.ntmps69
    go_wp2_with fail
    refine (hrec _ ((Below.refl _ _).alloc (Nat.le_refl _) _) (by simp)).mono ?_
    rintro e w1 ⟨q, rfl, hf, hg, hb1⟩
    rw [World.size_alloc] at hb1
    have HF := boxed hf
    have HG := boxed hg
    have HB1 := boxed hb1
    clear hf hg hrec hb1 c0 c1 c2 c3
    have hz1 : w.heap.size < w1.heap.size := by have := HB1.out.size; simp at this; omega
    have hz2 : w1.heap.size ≠ w.heap.size := by omega
    go_wp2_with fail
    have HB2 : Box (Below (w.heap.size + 1) (w.alloc (.cells #[.slice none 0 0, .int .i64 0] 91)) ((w1.alloc (.cells #[.slice (some ⟨f.a, f.o, none⟩) L' f.cap, .int .i64 (N' : Nat)] 91)).drew)) := boxed ((HB1.out.alloc (by omega) _).drew)
    have HG2 := boxed (HG.out.below (((Below.refl _ _).alloc (Nat.le_refl _) (.cells #[.slice (some ⟨f.a, f.o, none⟩) L' f.cap, .int .i64 (N' : Nat)] 91)).drew))
    go_region_held3 (fun w' => (w'.cell? ⟨b, 1, none⟩ = some (.pointer pr) ∧ w'.cell? ⟨b, 2, none⟩ = some (.slice (some ⟨p.a, p.o, none⟩) L p.cap) ∧ w'.cell? ⟨b, 3, none⟩ = some (.int .i64 (N : Nat))) ∧
        w'.cell? ⟨w1.heap.size, 0, none⟩ = some (.slice (some ⟨f.a, f.o, none⟩) L' f.cap) ∧ w'.cell? ⟨w1.heap.size, 1, none⟩ = some (.int .i64 (N' : Nat)))
      (first | exact KK.out | exact ⟨⟨far2 hne KK.out.1.1, far2 hne KK.out.1.2.1, far2 hne KK.out.1.2.2⟩, far2 (Ne.symm hz2) KK.out.2.1, far2 (Ne.symm hz2) KK.out.2.2⟩ | exact ⟨HC.out _ (below_box HB2.out), by simp, by simp⟩)
      (first
        | (go_at_call 68; refine (hba _ (below_box HB2.out) (by simp; omega) _ HG2.out).mono ?_; rintro e w3 ⟨y, rfl, hy, hb3⟩; clear hba; have HY := boxed hy; have HB3 := boxed (below_step HB2.out (by simp) hb3); have KK := boxed (And.intro (HC.out _ (below_box HB3.out)) (And.intro (hold hb3 (a := ⟨w1.heap.size, 0, none⟩) (v := .slice (some ⟨f.a, f.o, none⟩) L' f.cap) (by simp)) (hold hb3 (a := ⟨w1.heap.size, 1, none⟩) (v := .int .i64 (N' : Nat)) (by simp)))); have HB1b : Box (Below w1.heap.size w1 w3) := boxed (((Below.refl _ _).alloc (Nat.le_refl _) _).drew.trans (hb3.mono (by simp))); obtain ⟨x0, x1⟩ := box_kept HB3.out; obtain ⟨f0, f1⟩ := box_frozen HB3.out; clear hb3 hy))
    go_wp2
    refine bodyPost_ret (v := .tuple #[.agg #[.slice (some ⟨f.a, f.o, none⟩) L' f.cap, .int .i64 N'], .pointer y]) (by simp [results, Try.results69, go_sem, x0, x1]) rfl ⟨y, rfl, ?_⟩
    exact ⟨(HF.out.below HB1b.out).keep kp_far, HY.out.keep kp_far, ((below_box HB3.out).setCell (p := ⟨w.heap.size, 0, none⟩) (Nat.le_refl _) _).setCell (p := ⟨w.heap.size, 1, none⟩) (Nat.le_refl _) _⟩

set_option maxRecDepth 100000 in
set_option maxHeartbeats 1000000 in
theorem meet_any (S : Nat → Nat → Prop) (l r : Tr) (pl pr : Option Addr) (w : World) (hl : IsT S w pl l) (hr : IsT S w pr r) (hlen : l.flat.length + r.flat.length ≤ 1099511627776) (hS : ∀ b i, w.heap.size ≤ b → S b i) :
    Calls Try.prog 58 #[.pointer pl, .pointer pr] w fun e w' => ∃ q, e = .returned (.pointer q) ∧ IsT S w' q (mt l r) ∧ Below w.heap.size w w' := by
  cases r with
  | nil =>
    obtain rfl : pr = none := hr
    have HL := boxed hl
    clear hl hlen
    go_enter Try.func58, Try.ntmps58
    go_wp2
    go_ret
    exact ⟨pl, rfl, HL.out, Below.refl _ _⟩
  | node rl rp rr =>
    have hsh := shift_any rl S rp rr pr w hr (by omega) hS
    have hfl := shf_flat rl rp rr
    obtain ⟨bl, pll, plr, rfl, -⟩ := hr
    have hjn := fun w' (hb : Below w.heap.size w w') y (hf : PcAt S w' (shf rl rp rr).1) (hy : IsT S w' y (shf rl rp rr).2) => join_any S l (shf rl rp rr).2 (shf rl rp rr).1 pl y w' (hl.below hb) hy hf (by omega) (fun b i h => hS b i (Nat.le_trans hb.size h))
    show Calls _ _ _ _ (fun e w' => ∃ q, e = .returned (.pointer q) ∧ IsT S w' q (jn l (shf rl rp rr).1 (shf rl rp rr).2) ∧ Below w.heap.size w w')
    clear hfl hlen hl
    generalize (shf rl rp rr).1 = f at *
    generalize (shf rl rp rr).2 = g at *
    generalize nl f.l = N' at *
    generalize f.l.length = L' at *
    go_enter Try.func58, Try.ntmps58
    go_wp2_with fail
    refine hsh.mono ?_
    rintro e w1 ⟨q, rfl, hf, hg, hb1⟩
    have HF := boxed hf
    have HG := boxed hg
    have HB1 := boxed hb1
    clear hf hg hb1 hsh
    have HB2 : Box (Below w1.heap.size w1 (w1.alloc (.cells #[.slice (some ⟨f.a, f.o, none⟩) L' f.cap, .int .i64 (N' : Nat)] 91))) := boxed ((Below.refl _ _).alloc (Nat.le_refl _) _)
    go_wp2_with fail
    refine (hjn _ (below_step HB1.out (Nat.le_refl _) HB2.out) _ (HF.out.below HB2.out) (HG.out.below HB2.out)).mono ?_
    rintro e w3 ⟨y, rfl, hy, hb3⟩
    have HY := boxed hy
    have HB3 := boxed (below_step (below_step HB1.out (Nat.le_refl _) HB2.out) (Nat.le_refl _) hb3)
    clear hy hb3 hjn
    go_wp2
    go_ret
    exact ⟨y, rfl, HY.out, HB3.out⟩
end Go.Proofs.Ytfikmlgmklnlaaa
