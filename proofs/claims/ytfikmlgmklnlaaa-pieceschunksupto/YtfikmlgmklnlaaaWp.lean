/-
  What an edit leaves alone; what the program's Delete and add do.
-/
import Derived.Test.YtfikmlgmklnlaaaWo
namespace Go.Proofs.Ytfikmlgmklnlaaa
open Go.RowKit
set_option linter.unusedSimpArgs false
set_option linter.unusedVariables false

/-- What an edit of the text at tb leaves alone. -/
structure Edits (tb : Nat) (A : Option (Nat × Nat × Nat)) (w w' : World) : Prop where
  os : w'.os = w.os
  tape : w'.tape = w.tape
  output : w'.output = w.output
  size : w.heap.size ≤ w'.heap.size
  cell : ∀ (b i : Nat) (u : Value), b ≠ tb → Out A b i → w.cell? ⟨b, i, none⟩ = some u → w'.cell? ⟨b, i, none⟩ = some u
  block : ∀ k : Nat, k < w.heap.size → k ≠ tb → Far A k → w'.heap[k]? = w.heap[k]?
  shape : ∀ (k : Nat) (cs : Array Value) (t : TypeId), k ≠ tb → w.heap[k]? = some (.cells cs t (0, 0)) → ∃ cs' : Array Value, w'.heap[k]? = some (.cells cs' t (0, 0)) ∧ cs'.size = cs.size

theorem out_none (b i : Nat) : Out none b i := fun _ _ _ h => by cases h
theorem far_none (k : Nat) : Far none k := fun _ _ _ h => by cases h
theorem Edits.any {tb : Nat} {w w' : World} (h : Edits tb none w w') (A : Option (Nat × Nat × Nat)) : Edits tb A w w' :=
  ⟨h.os, h.tape, h.output, h.size, fun b i u hb _ hc => h.cell b i u hb (out_none _ _) hc, fun k hk hb _ => h.block k hk hb (far_none _), h.shape⟩
theorem Edits.trans {tb : Nat} {A : Option (Nat × Nat × Nat)} {a b c : World} (h : Edits tb A a b) (k : Edits tb A b c) : Edits tb A a c :=
  ⟨k.os.trans h.os, k.tape.trans h.tape, k.output.trans h.output, Nat.le_trans h.size k.size, fun x i u hx ho hc => k.cell x i u hx ho (h.cell x i u hx ho hc),
   fun x hx h1 h2 => (k.block x (Nat.lt_of_lt_of_le hx h.size) h1 h2).trans (h.block x hx h1 h2),
   fun x cs t hx hc => by
    obtain ⟨cs', h1, h2⟩ := h.shape x cs t hx hc
    obtain ⟨cs'', h3, h4⟩ := k.shape x cs' t hx h1
    exact ⟨cs'', h3, h4.trans h2⟩⟩
theorem Edits.of_below {tb : Nat} {w w' : World} (h : Below w.heap.size w w') : Edits tb none w w' :=
  ⟨h.os, h.tape, h.output, h.size, fun b i u _ _ hc => hold h hc, fun k hk _ _ => h.block k hk, fun k cs t _ hk => ⟨cs, by rw [h.block k (Array.getElem?_eq_some_iff.1 hk).1]; exact hk, rfl⟩⟩
theorem Edits.set {tb : Nat} (w : World) (i : Nat) (v : Value) : Edits tb none w (w.setCell ⟨tb, i, none⟩ v) :=
  ⟨rfl, rfl, rfl, by simp [World.setCell], fun b j u hb _ hc => by rw [World.cell?_setCell_far _ _ _ _ (Ne.symm hb)]; exact hc,
   fun k _ hk _ => Below.heap_setCell _ _ _ _ hk, fun k cs t hk hc => ⟨cs, by rw [Below.heap_setCell _ _ _ _ hk]; exact hc, rfl⟩⟩
theorem Edits.below {tb B : Nat} {A : Option (Nat × Nat × Nat)} {w w' : World} (h : Edits tb A w w') (h1 : B ≤ tb) (h2 : AdGe B A) (h3 : B ≤ w.heap.size) : Below B w w' := by
  refine ⟨h.os, h.tape, h.output, h.size, fun k hk => h.block k (by omega) (by omega) ?_⟩
  intro ab l c e
  subst e
  have : B ≤ ab := h2
  omega

theorem far_set {w : World} {A b i j : Nat} {v u : Value} (hne : A ≠ b) (h : w.cell? ⟨b, i, none⟩ = some u) : (w.setCell ⟨A, j, none⟩ v).cell? ⟨b, i, none⟩ = some u := by
  rw [World.cell?_setCell_far _ _ _ _ hne]; exact h
theorem set0_heap {w : World} {b : Nat} {v0 v1 v : Value} {t : TypeId} (h : w.heap[b]? = some (.cells #[v0, v1] t (0, 0))) : (w.setCell ⟨b, 0, none⟩ v).heap[b]? = some (.cells #[v, v1] t (0, 0)) := by
  simp [World.setCell, Array.getElem?_modify, h]
theorem set1_heap {w : World} {b : Nat} {v0 v1 v : Value} {t : TypeId} (h : w.heap[b]? = some (.cells #[v0, v1] t (0, 0))) : (w.setCell ⟨b, 1, none⟩ v).heap[b]? = some (.cells #[v0, v] t (0, 0)) := by
  simp [World.setCell, Array.getElem?_modify, h]
theorem AdAt.other {w : World} {A : Option (Nat × Nat × Nat)} {tb i : Nat} {v : Value} {cs : Array Value} {fz : Nat × Nat} (h : AdAt w A) (hb : w.heap[tb]? = some (.cells cs 62 fz)) : AdAt (w.setCell ⟨tb, i, none⟩ v) A := by
  match A, h with
  | none, _ => trivial
  | some (b, l, c), ⟨cur, h1, h2⟩ =>
    refine ⟨cur, ?_, h2⟩
    rw [Below.heap_setCell _ _ _ _ (fun e => ?_)]
    · exact h1
    · subst e
      rw [h1] at hb
      injection hb with hb
      injection hb with _ e2 _
      exact absurd e2 (by decide)
/-- The text with another tree. -/
theorem TextAt.setRoot {S : Nat → Nat → Prop} {w : World} {tb : Nat} {x y : Option Addr} {A : Option (Nat × Nat × Nat)} {T T' : Tr} (h : TextAt S w tb x A T) (ht : IsT S w y T') (hl : T'.flat.length ≤ 65536) :
    TextAt S (w.setCell ⟨tb, 0, none⟩ (.pointer y)) tb y A T' := by
  refine ⟨set0_heap h.blk, ht.keep (fun b i u hs hc => ⟨hs, far_set (Ne.symm (h.sub b i hs).1) hc⟩), fun b i hb => h.up b i (by simpa [World.setCell] using hb), h.sub, h.ad.other h.blk, hl⟩
theorem TextAt.frozen {S : Nat → Nat → Prop} {w : World} {tb : Nat} {x : Option Addr} {A : Option (Nat × Nat × Nat)} {T : Tr} (h : TextAt S w tb x A T) (i : Nat) : w.frozen? ⟨tb, i, none⟩ = false := by
  unfold World.frozen?; rw [h.blk]; simp

set_option maxRecDepth 100000 in
set_option maxHeartbeats 1000000 in
theorem delete_any {S : Nat → Nat → Prop} {w : World} {tb : Nat} {x : Option Addr} {A : Option (Nat × Nat × Nat)} {T : Tr} (h : TextAt S w tb x A T) (a b : Int) (ha : -9223372036854775808 ≤ a ∧ a ≤ 9223372036854775807) (hbb : -9223372036854775808 ≤ b ∧ b ≤ 9223372036854775807) :
    Calls Try.prog 43 #[.pointer (some ⟨tb, 0, none⟩), .int .i64 a, .int .i64 b] w fun e w' => e = .returned (.int .i64 (spe T.flat a b)) ∧
      ∃ x' T', TextAt S w' tb x' A T' ∧ T'.flat = (if spe T.flat a b = 0 then T.flat.take a.toNat ++ T.flat.drop b.toNat else T.flat) ∧ (T'.pcs.length ≤ T.pcs.length + 2 ∧ (Avl T → Avl T')) ∧ Edits tb A w w' := by
  have hcp := checkPart_any h a b ha hbb
  by_cases h1 : spe T.flat a b = 0
  · have hr : 0 ≤ a ∧ b ≤ (T.flat.length : Int) ∧ a ≤ b := by
      unfold spe at h1
      by_cases c : a < 0 ∨ (T.flat.length : Int) < b ∨ b < a
      · rw [if_pos c] at h1; omega
      · omega
    rw [if_pos h1]
    rw [h1] at hcp
    have hlen := h.len
    by_cases h2 : a = b
    · subst h2
      have HH := boxed h
      clear h
      go_enter Try.func43, Try.ntmps43
      go_wp2_with (go_at_call 35; refine hcp.mono ?_; rintro e w1 ⟨rfl, hb1⟩; have HB := boxed hb1; clear hb1)
      go_ret
      exact ⟨ret_int h1.symm, x, T, HH.out.below HB.out, by rw [List.take_append_drop], ⟨by omega, id⟩, (Edits.of_below HB.out).any _⟩
    · have t2 : (a == b) = false := by simpa using h2
      have hs1 := sp_flat T a
      have hs2 := sp_flat (sp T a).2 (b - a)
      have hl1 := sp_len T a
      have hl2 := sp_len (sp T a).2 (b - a)
      have hsp := fun w' (hb : Below w.heap.size w w') => split_any T S x a w' (h.tree.below hb) (by omega) (by omega) (h.below hb).up
      have hsp2 := fun w' (hb : Below w.heap.size w w') z (hz : IsT S w' z (sp T a).2) => split_any (sp T a).2 S z (b - a) w' hz (by omega) (by omega) (h.below hb).up
      have hmt := fun w' (hb : Below w.heap.size w w') y v (hy : IsT S w' y (sp T a).1) (hv : IsT S w' v (sp (sp T a).2 (b - a)).2) => meet_any S (sp T a).1 (sp (sp T a).2 (b - a)).2 y v w' hy hv (by omega) (h.below hb).up
      have HF : Box ((mt (sp T a).1 (sp (sp T a).2 (b - a)).2).flat = T.flat.take a.toNat ++ T.flat.drop b.toNat) := boxed (by
        rw [mt_flat, hs1.1, hs2.2, hs1.2, List.drop_drop]
        congr 2
        omega)
      have HCn : Box ((mt (sp T a).1 (sp (sp T a).2 (b - a)).2).pcs.length ≤ T.pcs.length + 2 ∧ (Avl T → Avl (mt (sp T a).1 (sp (sp T a).2 (b - a)).2))) := boxed (by
        refine ⟨?_, fun hA => mt_avl _ _ (sp_avl T a hA).1 (sp_avl _ _ (sp_avl T a hA).2).2⟩
        have q1 := sp_cnt T a
        have q2 := sp_cnt (sp T a).2 (b - a)
        rw [mt_cnt]
        omega)
      have HL : Box ((mt (sp T a).1 (sp (sp T a).2 (b - a)).2).flat.length ≤ 65536) := boxed (by rw [mt_flat, List.length_append]; rw [hs1.1, hs2.2, hs1.2]; simp; omega)
      have HH := boxed h
      have hrt : ∀ w', Below w.heap.size w w' → w'.cell? ⟨tb, 0, none⟩ = some (.pointer x) := fun w' hb => hold hb h.root
      have hfz : ∀ w', Below w.heap.size w w' → w'.frozen? ⟨tb, 0, none⟩ = false := fun w' hb => (h.below hb).frozen 0
      clear h hs1 hs2 hl1 hl2 hlen
      have hbd : -9223372036854775808 ≤ b - a ∧ b - a ≤ 9223372036854775807 := by omega
      go_enter Try.func43, Try.ntmps43
      go_wp2_with fail
      refine hcp.mono ?_
      rintro e w1 ⟨rfl, hb1⟩
      have HB1 := boxed hb1
      have c1 := hrt _ hb1
      clear hb1 hcp
      go_wp2_with fail
      refine (hsp _ HB1.out).mono ?_
      rintro e w2 ⟨y, z, rfl, hy, hz, hb2⟩
      have HY := boxed hy
      have HZ := boxed hz
      have HB2 := boxed (below_step HB1.out (Nat.le_refl _) hb2)
      clear hy hz hb2 hsp c1
      go_wp2_with fail
      refine (hsp2 _ HB2.out _ HZ.out).mono ?_
      rintro e w3 ⟨u, v, rfl, hu, hv, hb3⟩
      have HV := boxed hv
      have HY3 := boxed (HY.out.below hb3)
      have HB3 := boxed (below_step HB2.out (Nat.le_refl _) hb3)
      clear hu hv hb3 hsp2
      go_wp2_with fail
      refine (hmt _ HB3.out _ _ HY3.out HV.out).mono ?_
      rintro e w4 ⟨q, rfl, hq, hb4⟩
      have HQ := boxed hq
      have HB4 := boxed (below_step HB3.out (Nat.le_refl _) hb4)
      have c4 := hrt _ HB4.out
      have f4 := hfz _ HB4.out
      clear hq hb4 hmt
      go_wp2
      go_ret
      exact ⟨ret_int h1.symm, q, _, (HH.out.below HB4.out).setRoot HQ.out HL.out, HF.out, HCn.out, ((Edits.of_below HB4.out).trans (Edits.set _ _ _)).any _⟩
  · rw [if_neg h1]
    have t1 : (spe T.flat a b == 0) = false := by simpa using h1
    have t1' : (spe T.flat a b != 0) = true := by simpa using h1
    have HH := boxed h
    clear h h1
    generalize spe T.flat a b = E at *
    go_enter Try.func43, Try.ntmps43
    go_wp2_with (go_at_call 35; refine hcp.mono ?_; rintro e w1 ⟨rfl, hb1⟩; have HB := boxed hb1; clear hb1)
    go_ret
    exact ⟨rfl, x, T, HH.out.below HB.out, rfl, ⟨by omega, id⟩, (Edits.of_below HB.out).any _⟩
end Go.Proofs.Ytfikmlgmklnlaaa
