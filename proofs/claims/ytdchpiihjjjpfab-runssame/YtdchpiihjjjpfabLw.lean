/-
  One call at both: what the statements' step does.
-/
import Derived.Test.YtdchpiihjjjpfabLq
import Derived.Test.YtdchpiihjjjpfabLr
import Derived.Test.YtdchpiihjjjpfabLs
namespace Go.Proofs.Ytdchpiihjjjpfab
open Go.RowKit
set_option linter.unusedSimpArgs false
set_option linter.unusedVariables false

/-- A call as it is handed in. -/
structure Opr where
  kind : Int
  a : Int
  b : Int
  st : Int
  ro : Option Addr
  rn : Nat
  rc : Nat
  L : Nat → Int
  Y : Nat → Int
def Opr.val (o : Opr) : Value := .agg #[.int .i64 o.kind, .int .i64 o.a, .int .i64 o.b, .int .i64 o.st, .slice o.ro o.rn o.rc]
structure OprOk (S : Nat → Prop) (w : World) (o : Opr) : Prop where
  kind : I64 o.kind
  a : I64 o.a
  b : I64 o.b
  st : I64 o.st
  len : o.rn ≤ maxLen
  runs : P2At S w o.ro o.rn o.L o.Y
theorem OprOk.keep {S S' : Nat → Prop} {w w' : World} {o : Opr} (h : OprOk S w o) (k : Kp S S' w w') : OprOk S' w' o := ⟨h.kind, h.a, h.b, h.st, h.len, h.runs.keep k⟩
/-- The styles, and what an empty list has near it, behind a call. -/
def stp (s : List Int) (bare : Int) (o : Opr) : List Int × Int :=
  if o.kind = 0 then (insS s bare o.a o.b, bare) else if o.kind = 1 then (delS s o.a o.b, delB s bare o.a o.b) else if o.kind = 2 then (setS s o.a o.b o.st, bare)
  else if o.kind = 3 then (if 40 < o.rn then (s, bare) else (layS s o.a o.L o.Y o.rn, bare)) else (s, bare)
def StepP (N : Nat → Prop) (lb : Nat) (w : World) (s : List Int) (bare : Int) (o : Opr) (e : Ending) (w' : World) : Prop :=
  ∃ b off cp ao cap, e = .returned (.tuple #[.agg #[.slice (some ⟨b, off, none⟩) (stp s bare o).1.length cp, .int .i64 (stp s bare o).2], .bool true]) ∧ ListAt w' lb ao cap (stp s bare o).1 (stp s bare o).2 ∧ RfAt N w' b off cp (stp s bare o).1 ∧ w.grownBy w' (some lb)

/-- Parts do not lie in a box of a slice and a number. -/
theorem P2At.notbox {S : Nat → Prop} {w : World} {ao : Option Addr} {n : Nat} {A Y : Nat → Int} (h : P2At S w ao n A Y) {rb : Nat} {so : Option Addr} {sn sc : Nat} {y : Value} {t : TypeId} (hb : w.heap[rb]? = some (.cells #[.slice so sn sc, y] t (0, 0))) : ∀ i, i < n → ∀ b off, ao = some ⟨b, off, none⟩ → b ≠ rb := by
  intro i hi b off e hbr
  subst e; subst hbr
  obtain ⟨c0, c1⟩ := h.get 0 (by omega)
  have g : ∀ j, w.cell? ⟨b, j, none⟩ = (#[Value.slice so sn sc, y] : Array Value)[j]? := fun j => cell_of_row _ _ j _ _ _ hb
  rw [g] at c0 c1
  simp only [Nat.zero_mul, Nat.add_zero] at c0 c1
  match off, c0, c1 with
  | 0, c0, _ => simp at c0
  | 1, _, c1 => simp at c1
  | k + 2, c0, _ => simp at c0
theorem ListAt.other {w w' : World} {lb rb : Nat} {ao : Option Addr} {cap : Nat} {s : List Int} {bare : Int} (h : ListAt w lb ao cap s bare) {so : Option Addr} {sn sc : Nat} {y : Value} {t : TypeId} (hb : w.heap[rb]? = some (.cells #[.slice so sn sc, y] t (0, 0))) (hne : rb ≠ lb) (hg : w.grownBy w' (some rb)) : ListAt w' lb ao cap s bare := by
  refine ⟨by rw [hg.block lb h.lt (fun e => by injection e with e; exact hne e.symm)]; exact h.blk, ?_, h.ok, h.len, h.bare⟩
  intro i hi
  obtain ⟨k1, b, off, e, k2, c0, c1⟩ := h.pts i hi
  have hk := h.pts.notbox hb i hi b off e
  exact ⟨k1, b, off, e, k2, hg.cell c0 (fun e => by injection e with e; exact hk e), hg.cell c1 (fun e => by injection e with e; exact hk e)⟩
/-- The end of a step: the result is stored. -/
theorem step_end {N : Nat → Prop} {lb rb b off cp cap : Nat} {w w3 : World} {ao : Option Addr} {s s' : List Int} {bare bare' : Int} {o : Opr} {so : Option Addr} {sn sc : Nat} {y : Value} (hst : stp s bare o = (s', bare')) (hL : ListAt w3 lb ao cap s' bare') (hR : RfAt (fun k => N k ∧ k ≠ rb) w3 b off cp s') (hbx : w3.heap[rb]? = some (.cells #[.slice so sn sc, y] 33 (0, 0))) (hrb : w.heap.size ≤ rb) (hlb : lb < w.heap.size) (hg : w.grownBy w3 (some lb)) :
    StepP N lb w s bare o (.returned (.tuple #[.agg #[.slice (some ⟨b, off, none⟩) s'.length cp, .int .i64 bare'], .bool true])) ((w3.setCell ⟨rb, 0, none⟩ (.slice (some ⟨b, off, none⟩) s'.length cp)).setCell ⟨rb, 1, none⟩ (.int .i64 bare')) := by
  have HP := put2_all (v0 := .slice (some ⟨b, off, none⟩) s'.length cp) (v1 := .int .i64 bare') hbx
  have hg2 := HP.2.2
  refine ⟨b, off, cp, ao, cap, by rw [hst], by rw [hst]; exact hL.other hbx (by omega) hg2, by rw [hst]; exact (hR.other (fun i hi => (hR.ne i hi).2) hg2).also (fun k hk _ => hk.1), ?_⟩
  exact ⟨hg2.os.trans hg.os, hg2.tape.trans hg.tape, hg2.output.trans hg.output, Nat.le_trans hg.size hg2.size, fun k hk hne => (hg2.block k (Nat.lt_of_lt_of_le hk hg.size) (fun e => by injection e; omega)).trans (hg.block k hk hne)⟩
/-- The boxes of the parameters and of the result. -/
structure B3 (w : World) (x0 x1 o0 o1 o2 o3 o4 : Value) (W : World) : Prop where
  below : Below w.heap.size w W
  size : w.heap.size + 3 ≤ W.heap.size
  x0 : W.cell? ⟨w.heap.size, 0, none⟩ = some x0
  x1 : W.cell? ⟨w.heap.size, 1, none⟩ = some x1
  o0 : W.cell? ⟨w.heap.size + 1, 0, none⟩ = some o0
  o1 : W.cell? ⟨w.heap.size + 1, 1, none⟩ = some o1
  o2 : W.cell? ⟨w.heap.size + 1, 2, none⟩ = some o2
  o3 : W.cell? ⟨w.heap.size + 1, 3, none⟩ = some o3
  o4 : W.cell? ⟨w.heap.size + 1, 4, none⟩ = some o4
  r : W.heap[w.heap.size + 2]? = some (.cells #[.slice none 0 0, .int .i64 0] 33 (0, 0))
theorem b3_new (w : World) (x0 x1 o0 o1 o2 o3 o4 : Value) : B3 w x0 x1 o0 o1 o2 o3 o4 (((w.alloc (.cells #[x0, x1] 33)).alloc (.cells #[o0, o1, o2, o3, o4] 43)).alloc (.cells #[.slice none 0 0, .int .i64 0] 33)) := by
  obtain ⟨h1, h2, h3⟩ := heap3 w (.cells #[x0, x1] 33) (.cells #[o0, o1, o2, o3, o4] 43) (.cells #[.slice none 0 0, .int .i64 0] 33)
  exact ⟨below_three _ _ _ _, by simp, (cell_of_row _ _ 0 _ _ _ h1).trans rfl, (cell_of_row _ _ 1 _ _ _ h1).trans rfl, (cell_of_row _ _ 0 _ _ _ h2).trans rfl, (cell_of_row _ _ 1 _ _ _ h2).trans rfl, (cell_of_row _ _ 2 _ _ _ h2).trans rfl, (cell_of_row _ _ 3 _ _ _ h2).trans rfl, (cell_of_row _ _ 4 _ _ _ h2).trans rfl, h3⟩
theorem B3.next {w W W' : World} {x0 x1 o0 o1 o2 o3 o4 : Value} (h : B3 w x0 x1 o0 o1 o2 o3 o4 W) (hb : Below W.heap.size W W') : B3 w x0 x1 o0 o1 o2 o3 o4 W' :=
  ⟨below_step h.below (Nat.le_refl _) hb, Nat.le_trans h.size hb.size, hold hb h.x0, hold hb h.x1, hold hb h.o0, hold hb h.o1, hold hb h.o2, hold hb h.o3, hold hb h.o4, by rw [hb.block _ (Array.getElem?_eq_some_iff.1 h.r).1]; exact h.r⟩

section
variable {N : Nat → Prop} {lb : Nat} {w : World} {ao : Option Addr} {cap : Nat} {b off cp : Nat} {s : List Int} {bare : Int} {o : Opr}

end
end Go.Proofs.Ytdchpiihjjjpfab
