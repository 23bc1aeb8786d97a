/-
  What the program's New answers: the first fault, or a table that keeps styles alike in new memory.
-/
import Derived.Test.YtcdcpmcjlchfgaaMe
namespace Go.Proofs.Ytcdcpmcjlchfgaa
open Go.RowKit
set_option linter.unusedSimpArgs false
set_option linter.unusedVariables false

theorem info_style : (Try.prog.info? 73).map (fun i => (i.zero, i.size, i.bytes)) = some (some (.agg #[.int .i64 0, .int .i64 0, .int .i64 0, .int .i64 0, .int .i64 0, .int .i64 0, .slice none 0 0, .bool false]), 8, 80) := by kernel_rfl

/-- A table as it lies in memory, in blocks from B on. -/
def TabAt (B : Nat) (w : World) (tb n : Nat) (G : Nat → Sty) : Prop :=
  (B ≤ tb ∧ n ≤ 32) ∧ ∃ bs, w.cell? ⟨tb, 0, none⟩ = some (.slice (some ⟨bs, 0, none⟩) n n) ∧ StysAt (fun b => B ≤ b) w (some ⟨bs, 0, none⟩) n G
theorem TabAt.keep {B : Nat} {w w' : World} {tb n : Nat} {G : Nat → Sty} (h : TabAt B w tb n G) (k : Kp (fun b => B ≤ b) (fun b => B ≤ b) w w') : TabAt B w' tb n G := by
  obtain ⟨h1, bs, h2, h3⟩ := h
  exact ⟨h1, bs, (k _ _ _ h1.1 h2).2, h3.keep k⟩
theorem TabAt.below {B : Nat} {w w' : World} {tb n : Nat} {G : Nat → Sty} (h : TabAt B w tb n G) (hb : Below w.heap.size w w') : TabAt B w' tb n G := h.keep (kp_below hb)

theorem StyOk.like {s g : Sty} (h : StyOk s) (l : Like s g) (h1 : g.rn ≤ g.rc) (h2 : g.ra = none → g.rn = 0 ∧ g.rc = 0) : StyOk g :=
  ⟨l.h ▸ h.h, l.sp ▸ h.sp, l.st ▸ h.st, l.sh ▸ h.sh, l.hy ▸ h.hy, l.ot ▸ h.ot, ⟨h1, by rw [l.rn]; exact h.rn.2⟩, h2⟩

/-- Eight cells stored, one behind the other. -/
def put8 (w : World) (b o : Nat) (s : Sty) : World :=
  (((((((w.setCell ⟨b, o, none⟩ (.int .i64 s.h)).setCell ⟨b, o + 1, none⟩ (.int .i64 s.sp)).setCell ⟨b, o + 2, none⟩ (.int .i64 s.st)).setCell ⟨b, o + 3, none⟩ (.int .i64 s.sh)).setCell ⟨b, o + 4, none⟩ (.int .i64 s.hy)).setCell ⟨b, o + 5, none⟩ (.int .i64 s.ot)).setCell ⟨b, o + 6, none⟩ (.slice s.ra s.rn s.rc)).setCell ⟨b, o + 7, none⟩ (.bool s.keep)
theorem put8_far (w : World) (b o : Nat) (s : Sty) (c i : Nat) (h : c ≠ b ∨ i < o ∨ o + 8 ≤ i) : (put8 w b o s).cell? ⟨c, i, none⟩ = w.cell? ⟨c, i, none⟩ := by
  unfold put8
  have : ∀ (w : World) (j : Nat) (v : Value), j < 8 → (w.setCell ⟨b, o + j, none⟩ v).cell? ⟨c, i, none⟩ = w.cell? ⟨c, i, none⟩ := by
    intro w j v hj
    apply World.cell?_setCell_other
    intro e
    injection e with e1 e2
    omega
  rw [this _ 7 _ (by omega), this _ 6 _ (by omega), this _ 5 _ (by omega), this _ 4 _ (by omega), this _ 3 _ (by omega), this _ 2 _ (by omega), this _ 1 _ (by omega)]
  exact this _ 0 _ (by omega)
theorem put8_some (w : World) (b o : Nat) (s : Sty) (c i : Nat) (v : Value) (h : w.cell? ⟨c, i, none⟩ = some v) : ∃ v', (put8 w b o s).cell? ⟨c, i, none⟩ = some v' := by
  unfold put8
  obtain ⟨v1, h1⟩ := cell?_setCell_some (p := ⟨b, o, none⟩) (x := .int .i64 s.h) h
  obtain ⟨v2, h2⟩ := cell?_setCell_some (p := ⟨b, o + 1, none⟩) (x := .int .i64 s.sp) h1
  obtain ⟨v3, h3⟩ := cell?_setCell_some (p := ⟨b, o + 2, none⟩) (x := .int .i64 s.st) h2
  obtain ⟨v4, h4⟩ := cell?_setCell_some (p := ⟨b, o + 3, none⟩) (x := .int .i64 s.sh) h3
  obtain ⟨v5, h5⟩ := cell?_setCell_some (p := ⟨b, o + 4, none⟩) (x := .int .i64 s.hy) h4
  obtain ⟨v6, h6⟩ := cell?_setCell_some (p := ⟨b, o + 5, none⟩) (x := .int .i64 s.ot) h5
  obtain ⟨v7, h7⟩ := cell?_setCell_some (p := ⟨b, o + 6, none⟩) (x := .slice s.ra s.rn s.rc) h6
  exact cell?_setCell_some (p := ⟨b, o + 7, none⟩) (x := .bool s.keep) h7
theorem put8_frozen (w : World) (b o : Nat) (s : Sty) (a : Addr) : (put8 w b o s).frozen? a = w.frozen? a := by
  unfold put8
  simp only [World.frozen?_setCell]
theorem put8_at (w : World) (b o : Nat) (s : Sty) (h : ∀ j, j < 8 → ∃ v, w.cell? ⟨b, o + j, none⟩ = some v) :
    (put8 w b o s).cell? ⟨b, o, none⟩ = some (.int .i64 s.h) ∧ (put8 w b o s).cell? ⟨b, o + 1, none⟩ = some (.int .i64 s.sp) ∧ (put8 w b o s).cell? ⟨b, o + 2, none⟩ = some (.int .i64 s.st) ∧ (put8 w b o s).cell? ⟨b, o + 3, none⟩ = some (.int .i64 s.sh) ∧
    (put8 w b o s).cell? ⟨b, o + 4, none⟩ = some (.int .i64 s.hy) ∧ (put8 w b o s).cell? ⟨b, o + 5, none⟩ = some (.int .i64 s.ot) ∧ (put8 w b o s).cell? ⟨b, o + 6, none⟩ = some (.slice s.ra s.rn s.rc) ∧ (put8 w b o s).cell? ⟨b, o + 7, none⟩ = some (.bool s.keep) := by
  have oth : ∀ (w : World) (i j : Nat) (v : Value), i ≠ j → (w.setCell ⟨b, o + j, none⟩ v).cell? ⟨b, o + i, none⟩ = w.cell? ⟨b, o + i, none⟩ := by
    intro w i j v hj
    apply World.cell?_setCell_other
    intro e
    injection e with e1 e2
    omega
  have same : ∀ (w : World) (j : Nat) (v : Value), (∃ u, w.cell? ⟨b, o + j, none⟩ = some u) → (w.setCell ⟨b, o + j, none⟩ v).cell? ⟨b, o + j, none⟩ = some v := by
    intro w j v ⟨u, hu⟩
    exact World.cell?_setCell_same _ _ _ hu
  unfold put8
  rw [show (⟨b, o, none⟩ : Addr) = ⟨b, o + 0, none⟩ from rfl]
  refine ⟨?_, ?_, ?_, ?_, ?_, ?_, ?_, ?_⟩
  · rw [oth _ 0 7 _ (by omega), oth _ 0 6 _ (by omega), oth _ 0 5 _ (by omega), oth _ 0 4 _ (by omega), oth _ 0 3 _ (by omega), oth _ 0 2 _ (by omega), oth _ 0 1 _ (by omega)]
    exact same _ 0 _ (h 0 (by omega))
  · rw [oth _ 1 7 _ (by omega), oth _ 1 6 _ (by omega), oth _ 1 5 _ (by omega), oth _ 1 4 _ (by omega), oth _ 1 3 _ (by omega), oth _ 1 2 _ (by omega)]
    refine same _ 1 _ ?_
    rw [oth _ 1 0 _ (by omega)]; exact h 1 (by omega)
  · rw [oth _ 2 7 _ (by omega), oth _ 2 6 _ (by omega), oth _ 2 5 _ (by omega), oth _ 2 4 _ (by omega), oth _ 2 3 _ (by omega)]
    refine same _ 2 _ ?_
    rw [oth _ 2 1 _ (by omega), oth _ 2 0 _ (by omega)]; exact h 2 (by omega)
  · rw [oth _ 3 7 _ (by omega), oth _ 3 6 _ (by omega), oth _ 3 5 _ (by omega), oth _ 3 4 _ (by omega)]
    refine same _ 3 _ ?_
    rw [oth _ 3 2 _ (by omega), oth _ 3 1 _ (by omega), oth _ 3 0 _ (by omega)]; exact h 3 (by omega)
  · rw [oth _ 4 7 _ (by omega), oth _ 4 6 _ (by omega), oth _ 4 5 _ (by omega)]
    refine same _ 4 _ ?_
    rw [oth _ 4 3 _ (by omega), oth _ 4 2 _ (by omega), oth _ 4 1 _ (by omega), oth _ 4 0 _ (by omega)]; exact h 4 (by omega)
  · rw [oth _ 5 7 _ (by omega), oth _ 5 6 _ (by omega)]
    refine same _ 5 _ ?_
    rw [oth _ 5 4 _ (by omega), oth _ 5 3 _ (by omega), oth _ 5 2 _ (by omega), oth _ 5 1 _ (by omega), oth _ 5 0 _ (by omega)]; exact h 5 (by omega)
  · rw [oth _ 6 7 _ (by omega)]
    refine same _ 6 _ ?_
    rw [oth _ 6 5 _ (by omega), oth _ 6 4 _ (by omega), oth _ 6 3 _ (by omega), oth _ 6 2 _ (by omega), oth _ 6 1 _ (by omega), oth _ 6 0 _ (by omega)]; exact h 6 (by omega)
  · refine same _ 7 _ ?_
    rw [oth _ 7 6 _ (by omega), oth _ 7 5 _ (by omega), oth _ 7 4 _ (by omega), oth _ 7 3 _ (by omega), oth _ 7 2 _ (by omega), oth _ 7 1 _ (by omega), oth _ 7 0 _ (by omega)]; exact h 7 (by omega)
theorem put8_size (w : World) (b o : Nat) (s : Sty) : (put8 w b o s).heap.size = w.heap.size := by unfold put8; simp
theorem put8_below {B : Nat} {a w : World} (h : Below B a w) (b o : Nat) (s : Sty) (hb : B ≤ b) : Below B a (put8 w b o s) := by
  unfold put8
  exact (((((((h.setCell hb _).setCell hb _).setCell hb _).setCell hb _).setCell hb _).setCell hb _).setCell hb _).setCell hb _
end Go.Proofs.Ytcdcpmcjlchfgaa
