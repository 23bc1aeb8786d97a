/-
  What is inserted and deleted again, sliced and laid again: plain facts; and what stands while the law does it.
-/
import Derived.Test.YtdchpiihjjjpfaaKc
import Derived.Test.YtdchpiihjjjpfaaKg
namespace Go.Proofs.Ytdchpiihjjjpfaa
open Go.RowKit
set_option linter.unusedSimpArgs false
set_option linter.unusedVariables false

theorem take_mid (x m y : List Int) (k : Nat) (h : k = x.length) : (x ++ m ++ y).take k = x := by subst h; rw [List.append_assoc, List.take_left]
theorem drop_mid (x m y : List Int) (k : Nat) (h : k = x.length + m.length) : (x ++ m ++ y).drop k = y := by subst h; rw [← List.length_append, List.drop_left]
theorem three_back (s : List Int) (a b : Nat) (hab : a ≤ b) : s.take a ++ sub s a b ++ s.drop b = s := by
  unfold sub
  have : s.drop b = (s.drop a).drop (b - a) := by rw [List.drop_drop]; congr 1; omega
  rw [this, List.append_assoc, List.take_append_drop, List.take_append_drop]
theorem ins_facts {s : List Int} {a b : Int} (h : insE s a b = 0) : (0 ≤ a ∧ a ≤ s.length) ∧ 0 ≤ b ∧ b ≤ 65536 - s.length := by
  unfold insE at h
  by_cases c1 : outb s.length a a = true
  · rw [if_pos c1] at h; omega
  · rw [if_neg c1] at h
    have c1' : outb s.length a a = false := by simpa using c1
    obtain ⟨a1, a3, a2⟩ := (outb_iff _ _ _).1 c1'
    by_cases c2 : b < 0
    · rw [if_pos c2] at h; omega
    · rw [if_neg c2] at h
      by_cases c3 : 65536 - (s.length : Int) < b
      · rw [if_pos c3] at h; omega
      · exact ⟨⟨by omega, by omega⟩, by omega, by omega⟩
theorem ins_back {s : List Int} {bare : Int} {a b : Nat} (h : insE s a b = 0) (ha : a ≤ s.length) :
    (insS s bare a b).length = s.length + b ∧ outb (insS s bare a b).length a ((a + b : Nat) : Int) = false ∧ delS (insS s bare a b) a ((a + b : Nat) : Int) = s := by
  have e : insS s bare a b = s.take a ++ List.replicate b (nr s bare a) ++ s.drop a := by unfold insS; rw [if_pos h]; simp
  have el : (insS s bare a b).length = s.length + b := by rw [e]; simp; omega
  have eo : outb (insS s bare a b).length a ((a + b : Nat) : Int) = false := (outb_iff _ _ _).2 ⟨by omega, by omega, by rw [el]; omega⟩
  refine ⟨el, eo, ?_⟩
  unfold delS
  rw [if_neg (by rw [eo]; simp), e]
  simp only [Int.toNat_natCast]
  rw [take_mid _ _ _ a (by simp; omega), drop_mid _ _ _ (a + b) (by simp; omega), List.take_append_drop]
/-- Runs that are laid as they are. -/
theorem lay_good (N a : Nat) (R : List (Nat × Int)) (L Y : Nat → Int) (hL : ∀ i, i < R.length → L i = ((R.getD i (0, 0)).1 : Nat) ∧ Y i = (R.getD i (0, 0)).2) (hs : Sok (flat R)) (hc : Can R) (hN : a + sm R ≤ N) :
    ∀ k, k ≤ R.length → lyf N L Y a k = (0, ((a + Bg R k : Nat) : Int)) ∧ exr L Y k = flat (R.take k) := by
  intro k
  induction k with
  | zero => intro _; simp [lyf, exr, flat, Bg_zero]
  | succ k ih =>
    intro hk
    obtain ⟨h1, h2⟩ := ih (by omega)
    obtain ⟨e1, e2⟩ := hL k (by omega)
    have et : R.take (k + 1) = R.take k ++ [R[k]] := by rw [List.take_succ_eq_append_getElem]
    have eg : R.getD k (0, 0) = R[k] := by simp [List.getD, show k < R.length from by omega]
    have eB : Bg R (k + 1) = Bg R k + (R[k]).1 := by unfold Bg; rw [et, sm_app]; simp [sm]
    have hB := Bg_le R hc (k + 1)
    rw [eg] at e1 e2
    have hy : stb (Y k) = true := by
      rw [e2, stb_iff]
      exact hs _ ((mem_flat R hc _).2 ⟨R[k], List.getElem_mem _, rfl⟩)
    constructor
    · rw [lyf_succ, h1, if_neg (by simp), if_neg (by omega), if_pos hy, if_neg (by simp only; omega)]
      simp only [eB, e1]
      congr 1
      omega
    · rw [exr, h2, et, flat_app, e1, e2]
      simp [flat]
theorem lay_back {s : List Int} (hs : Sok s) {a b : Nat} (hab : a ≤ b) (hb : b ≤ s.length) (L Y : Nat → Int) (hL : ∀ i, i < (enc (sub s a b)).length → L i = (((enc (sub s a b)).getD i (0, 0)).1 : Nat) ∧ Y i = ((enc (sub s a b)).getD i (0, 0)).2) :
    setE s a b 5 = 0 ∧ layE (setS s a b 5) a L Y (enc (sub s a b)).length = 0 ∧ layS (setS s a b 5) a L Y (enc (sub s a b)).length = s := by
  have eo : outb s.length a b = false := (outb_iff _ _ _).2 ⟨by omega, by omega, by omega⟩
  have eE : setE s a b 5 = 0 := by unfold setE; rw [if_neg (by rw [eo]; simp), if_pos (by decide)]
  have eS : setS s a b 5 = s.take a ++ List.replicate (b - a) 5 ++ s.drop b := by
    unfold setS; rw [if_pos eE]
    simp only [Int.toNat_natCast]
    rw [show ((b : Int) - (a : Int)).toNat = b - a from by omega]
  have el : (setS s a b 5).length = s.length := by rw [eS]; simp; omega
  have hsm : sm (enc (sub s a b)) = b - a := by rw [sm_enc, sub_len s a b hb]
  obtain ⟨g1, g2⟩ := lay_good (setS s a b 5).length a (enc (sub s a b)) L Y hL (by rw [flat_enc]; exact sok_sub hs a b) (can_enc _) (by rw [hsm, el]; omega) _ (Nat.le_refl _)
  rw [Bg_all _ _ (Nat.le_refl _), hsm] at g1
  rw [List.take_length, flat_enc] at g2
  have eo2 : outb (setS s a b 5).length a a = false := (outb_iff _ _ _).2 ⟨by omega, by omega, by rw [el]; omega⟩
  have eL : layE (setS s a b 5) a L Y (enc (sub s a b)).length = 0 := by unfold layE; rw [if_neg (by rw [eo2]; simp), g1]
  refine ⟨eE, eL, ?_⟩
  unfold layS
  rw [if_pos eL, g1, g2, eS]
  simp only [Int.toNat_natCast]
  rw [show a + (b - a) = b from by omega]
  rw [take_mid _ _ _ a (by simp; omega), drop_mid _ _ _ b (by simp; omega)]
  exact three_back s a b hab

/-- What stands while the law goes on: the list l, its copy, the runs that were, and the call's numbers. -/
structure BkS (w : World) (A B : Int) (W1 : World) (lb lc Bw : Nat) (was : Value) (s : List Int) (bare : Int) (t : List Int) (W : World) (ao : Option Addr) (cap : Nat) (bt : Int) : Prop where
  l : ListAt W lb ao cap t bt
  c : ∃ ac cc, ListAt W lc ac cc s bare
  was : W.ownsRow Bw 58 2 was (enc s).length (rcs (enc s))
  ca : W.cell? ⟨w.heap.size, 1, none⟩ = some (.int .i64 A)
  cb : W.cell? ⟨w.heap.size, 2, none⟩ = some (.int .i64 B)
  bel : Below (w.heap.size + 1) W1 W
  lt : w.heap.size < lb ∧ lb < Bw
  ne : lb ≠ lc
  sz : w.heap.size + 1 ≤ W1.heap.size ∧ w.heap.size + 1 ≤ W.heap.size
section
variable {w : World} {A B : Int} {W1 : World} {lb lc Bw : Nat} {was : Value} {s : List Int} {bare : Int} {t : List Int} {W : World} {ao : Option Addr} {cap : Nat} {bt : Int}
theorem BkS.next (h : BkS w A B W1 lb lc Bw was s bare t W ao cap bt) {W' : World} (hb : Below W.heap.size W W') : BkS w A B W1 lb lc Bw was s bare t W' ao cap bt := by
  obtain ⟨ac, cc, hc⟩ := h.c
  exact ⟨h.l.below hb, ⟨ac, cc, hc.below hb⟩, owns_below h.was hb, hold hb h.ca, hold hb h.cb, h.bel.trans (hb.mono h.sz.2), h.lt, h.ne, h.sz.1, Nat.le_trans h.sz.2 hb.size⟩
theorem BkS.edit (h : BkS w A B W1 lb lc Bw was s bare t W ao cap bt) {W' : World} {t' : List Int} {ao' : Option Addr} {cap' : Nat} {bt' : Int} (hl : ListAt W' lb ao' cap' t' bt') (hg : W.grownBy W' (some lb)) : BkS w A B W1 lb lc Bw was s bare t' W' ao' cap' bt' := by
  obtain ⟨ac, cc, hc⟩ := h.c
  have hlt := h.lt
  refine ⟨hl, ⟨ac, cc, hc.other h.l.blk h.ne hg⟩, h.was.kept hg ?_, hg.cell h.ca (fun e => by injection e with e; dsimp only at e; omega), hg.cell h.cb (fun e => by injection e with e; dsimp only at e; omega), h.bel.trans (grown_below hg (by omega) h.sz.2), h.lt, h.ne, h.sz.1, Nat.le_trans h.sz.2 hg.size⟩
  cases hv : was.ownBlock with
  | none => exact .inl rfl
  | some r =>
    right
    intro e
    injection e with e
    have := owns_ge h.was r hv
    omega
end
end Go.Proofs.Ytdchpiihjjjpfaa
