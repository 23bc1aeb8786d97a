/-
  Rows of runs: put one behind the other, and held against each other.
-/
import Derived.Test.YtdchpiihjjjpfabZb
import Derived.Test.YtdchpiihjjjpfabKg
namespace Go.Proofs.Ytdchpiihjjjpfab
open Go.RowKit
set_option linter.unusedSimpArgs false
set_option linter.unusedVariables false

/-- An owned row is put behind another. -/
theorem step_append_rows {P : Program} {w : World} {ops : Array Oper} {o : Oper} {a : Act} {K : Act → World → Prop} {Q : Exit → Act → World → Prop} {E : Prop} (hgd : o.guard = none) (s x : Operand) (t : TypeId)
    (ho : o.op = .call { callee := .builtin .append, args := #[s, x], argTypes := #[t, t] })
    (base : Nat) (e : TypeId) (i : TypeInfo) (z : Value) (size bytes : Nat) (ht : P.underlying t = some (.slice e)) (hi : P.info? e = some i) (hz : i.zero = some z)
    (hsize : i.size = size) (hby : i.bytes = bytes) (hzs : z.cells.size = size) (hsz : 0 < size)
    (v : Value) (n : Nat) (xs : List Value) (hs : a.eval s = v) (hown : w.ownsRow base e size v n xs)
    (B2 : Nat) (vx : Value) (m : Nat) (ys : List Value) (hx : a.eval x = vx) (hsrc : w.ownsRow B2 e size vx m ys) (h1 : ∀ u ∈ ys, u.oneCell' = true)
    (h63 : n + m ≤ maxLen) (hbytes : (n + m) * bytes ≤ 140737488355328) (hbase : base ≤ w.heap.size)
    (h : ∀ v' w', w'.ownsRow base e size v' (n + m) (xs ++ ys) → w.grownBy w' v.ownBlock → K (a.put o.dst v') w') :
    if Region.wanted o (yielded ops a.tmps) = true then Oper.wp P o a w K Q else E := by
  rcases ownsRow_forms hsrc with ⟨e1, e2⟩ | ⟨g, cap, e1⟩
  · subst e2
    have hl := hsrc.1
    rw [Nat.zero_mul] at hl
    obtain rfl : ys = [] := List.eq_nil_of_length_eq_zero hl
    refine step_append_nothing hgd s x t ho base e i size 0 ht hi v n xs hs hown (by rw [hx, e1]) ?_
    exact h v w (by simpa using hown) (World.grownBy.refl _ _)
  · subst e1
    exact step_append_own hgd s x t ho base e i z size bytes ht hi hz hsize hby hzs hsz v n xs hs hown ⟨g, 0, none⟩ m cap ys hx hsrc.1 (hsrc.cells rfl) h1 h63 hbytes hbase h
theorem wpList_append_rows {P : Program} {w : World} {ops : Array Oper} {rest : List Oper} {o : Oper} {a : Act} {Q : Exit → Act → World → Prop} (hgd : o.guard = none) (s x : Operand) (t : TypeId)
    (ho : o.op = .call { callee := .builtin .append, args := #[s, x], argTypes := #[t, t] })
    (base : Nat) (e : TypeId) (i : TypeInfo) (z : Value) (size bytes : Nat) (ht : P.underlying t = some (.slice e)) (hi : P.info? e = some i) (hz : i.zero = some z)
    (hsize : i.size = size) (hby : i.bytes = bytes) (hzs : z.cells.size = size) (hsz : 0 < size)
    (v : Value) (n : Nat) (xs : List Value) (hs : a.eval s = v) (hown : w.ownsRow base e size v n xs)
    (B2 : Nat) (vx : Value) (m : Nat) (ys : List Value) (hx : a.eval x = vx) (hsrc : w.ownsRow B2 e size vx m ys) (h1 : ∀ u ∈ ys, u.oneCell' = true)
    (h63 : n + m ≤ maxLen) (hbytes : (n + m) * bytes ≤ 140737488355328) (hbase : base ≤ w.heap.size)
    (h : ∀ v' w', w'.ownsRow base e size v' (n + m) (xs ++ ys) → w.grownBy w' v.ownBlock → wpList P ops Q rest (a.put o.dst v') w') : wpList P ops Q (o :: rest) a w := by
  rcases ownsRow_forms hsrc with ⟨e1, e2⟩ | ⟨g, cap, e1⟩
  · subst e2
    have hl := hsrc.1
    rw [Nat.zero_mul] at hl
    obtain rfl : ys = [] := List.eq_nil_of_length_eq_zero hl
    refine wpList_plain hgd fun K hK => ?_
    have hrun := run_append_nothing (P := P) (w := w) base t o.type e i size 0 ht hi v n xs hown
    rw [e1] at hx
    unfold Oper.wp
    simp [execOp, ho, resolve, invoke, builtin, hs, hx, hrun, Result.andThen]
    exact hK _ _ (h v w (by simpa using hown) (World.grownBy.refl _ _))
  · subst e1
    exact wpList_append_own _ hgd s x t ho base e i z size bytes ht hi hz hsize hby hzs hsz v n xs hs hown ⟨g, 0, none⟩ m cap ys hx hsrc.1 (hsrc.cells rfl) h1 h63 hbytes hbase (fun v' w' h2 h3 _ => h v' w' h2 h3)
theorem rcs_one (R : List (Nat × Int)) : ∀ u ∈ rcs R, u.oneCell' = true := by
  induction R with
  | nil => intro u hu; simp [rcs] at hu
  | cons p r ih =>
    intro u hu
    simp only [rcs, List.mem_cons] at hu
    rcases hu with rfl | rfl | hu
    · rfl
    · rfl
    · exact ih u hu
theorem exs_flat (R : List (Nat × Int)) : exs (fun i => ((R.getD i (0, 0)).1 : Nat)) (fun i => Ys R i) R.length = flat R := by
  induction R with
  | nil => rfl
  | cons p r ih =>
    show List.replicate _ _ ++ exs _ _ r.length = List.replicate p.1 p.2 ++ flat r
    rw [← ih]
    simp [Ys]
theorem own_cap {w : World} {base size n : Nat} {e : TypeId} {ao : Option Addr} {m cap : Nat} {xs : List Value} (h : w.ownsRow base e size (.slice ao m cap) n xs) : m ≤ cap := by
  rcases h.2 with ⟨e1, _⟩ | ⟨g, c, cur, e1, _, _, hnc, _⟩
  · injection e1 with a b c; omega
  · injection e1 with a b c; omega
/-- The program's Same of two owned rows of runs. -/
theorem psame_rows (B C : Nat) (w : World) (v1 v2 : Value) (R Q : List (Nat × Int)) (h1 : w.ownsRow B 25 2 v1 R.length (rcs R)) (h2 : w.ownsRow C 25 2 v2 Q.length (rcs Q)) (k1 : ∀ p ∈ R, p.1 ≤ 9223372036854775807 ∧ I64 p.2) (k2 : ∀ p ∈ Q, p.1 ≤ 9223372036854775807 ∧ I64 p.2) :
    Calls Try.prog 6 #[v1, v2] w fun e w' => ∃ r, e = .returned (.bool r) ∧ (r = true ↔ flat R = flat Q) ∧ Below w.heap.size w w' := by
  obtain ⟨ao, ca, rfl⟩ := own_shape h1
  obtain ⟨bo, cb, rfl⟩ := own_shape h2
  have p1 := (own_runs h1 rfl k1).keep (S' := fun _ => True) (w' := w) (fun k i u _ hc => ⟨trivial, hc⟩)
  have p2 := (own_runs h2 rfl k2).keep (S' := fun _ => True) (w' := w) (fun k i u _ hc => ⟨trivial, hc⟩)
  have := psame_any w ao bo R.length ca Q.length cb _ _ _ _ p1 p2 (own_cap h1) (own_cap h2)
  rw [exs_flat, exs_flat] at this
  exact this
end Go.Proofs.Ytdchpiihjjjpfab
