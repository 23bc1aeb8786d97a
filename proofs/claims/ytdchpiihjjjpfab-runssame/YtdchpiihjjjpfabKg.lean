/-
  What the program's Copy does.
-/
import Derived.Test.YtdchpiihjjjpfabLz
import Derived.Deep.RegionHeld3
import Derived.Deep.AppendLies
namespace Go.Proofs.Ytdchpiihjjjpfab
open Go.RowKit
set_option linter.unusedSimpArgs false
set_option linter.unusedVariables false

/-- Nothing is put behind what is owned. -/
theorem run_append_nothing {P : Program} {w : World} (base : Nat) (t ty e : TypeId) (i : TypeInfo) (size c : Nat) (ht : P.underlying t = some (.slice e)) (hi : P.info? e = some i)
    (v : Value) (n : Nat) (xs : List Value) (hown : w.ownsRow base e size v n xs) :
    (Builtin.append_ #[t, t] ty #[v, .slice none 0 c]).run P w = .ok v w := by
  rcases hown.2 with ⟨rfl, rfl⟩ | ⟨g, cap, cur, rfl, _, _, hnc, _⟩
  · simp [Builtin.append_, run_underlying ht, sizeOf, typeInfo, hi, Builtin.lenOf, Builtin.firstCells]
  · simp [Builtin.append_, run_underlying ht, sizeOf, typeInfo, hi, Builtin.lenOf, Builtin.firstCells, hnc, storeCells]
theorem step_append_nothing {P : Program} {w : World} {ops : Array Oper} {o : Oper} {a : Act} {K : Act → World → Prop} {Q : Exit → Act → World → Prop} {E : Prop} (hgd : o.guard = none) (s x : Operand) (t : TypeId)
    (ho : o.op = .call { callee := .builtin .append, args := #[s, x], argTypes := #[t, t] })
    (base : Nat) (e : TypeId) (i : TypeInfo) (size c : Nat) (ht : P.underlying t = some (.slice e)) (hi : P.info? e = some i)
    (v : Value) (n : Nat) (xs : List Value) (hs : a.eval s = v) (hown : w.ownsRow base e size v n xs) (hx : a.eval x = .slice none 0 c)
    (h : K (a.put o.dst v) w) : if Region.wanted o (yielded ops a.tmps) = true then Oper.wp P o a w K Q else E := by
  have hw : Region.wanted o (yielded ops a.tmps) = true := by simp [Region.wanted, hgd]
  rw [if_pos hw]
  have hrun := run_append_nothing (P := P) (w := w) base t o.type e i size c ht hi v n xs hown
  unfold Oper.wp
  simp [execOp, ho, resolve, invoke, builtin, hs, hx, hrun, Result.andThen]
  exact h
theorem step_append_own {P : Program} {w : World} {ops : Array Oper} {o : Oper} {a : Act} {K : Act → World → Prop} {Q : Exit → Act → World → Prop} {E : Prop} (hgd : o.guard = none) (s x : Operand) (t : TypeId)
    (ho : o.op = .call { callee := .builtin .append, args := #[s, x], argTypes := #[t, t] })
    (base : Nat) (e : TypeId) (i : TypeInfo) (z : Value) (size bytes : Nat) (ht : P.underlying t = some (.slice e)) (hi : P.info? e = some i) (hz : i.zero = some z)
    (hsize : i.size = size) (hby : i.bytes = bytes) (hzs : z.cells.size = size) (hsz : 0 < size)
    (v : Value) (n : Nat) (xs : List Value) (hs : a.eval s = v) (hown : w.ownsRow base e size v n xs)
    (ad : Addr) (m c : Nat) (news : List Value) (hx : a.eval x = .slice (some ad) m c) (hl : news.length = m * size) (hnews : ∀ j u, news[j]? = some u → w.cell? (ad.add j) = some u) (h1 : ∀ u ∈ news, u.oneCell' = true)
    (h63 : n + m ≤ maxLen) (hbytes : (n + m) * bytes ≤ 140737488355328) (hbase : base ≤ w.heap.size)
    (h : ∀ v' w', w'.ownsRow base e size v' (n + m) (xs ++ news) → w.grownBy w' v.ownBlock → K (a.put o.dst v') w') :
    if Region.wanted o (yielded ops a.tmps) = true then Oper.wp P o a w K Q else E := by
  have hw : Region.wanted o (yielded ops a.tmps) = true := by simp [Region.wanted, hgd]
  rw [if_pos hw]
  exact wp_append_own w s x t ho base e i z size bytes ht hi hz hsize hby hzs hsz v n xs hs hown ad m c news hx hl hnews h1 h63 hbytes hbase fun v' w' h2 h3 _ => h v' w' h2 h3
theorem pcs_one (a : Nat) (R : List (Nat × Int)) : ∀ u ∈ pcs a R, u.oneCell' = true := by
  induction R generalizing a with
  | nil => intro u hu; simp [pcs] at hu
  | cons p r ih =>
    intro u hu
    simp only [pcs, List.mem_cons] at hu
    rcases hu with rfl | rfl | hu
    · rfl
    · rfl
    · exact ih _ u hu
theorem pcs_cells {S : Nat → Prop} {w : World} {ad : Addr} {s : List Int} (h : PartsAt S w (some ad) s) : ∀ j u, (pcs 0 (enc s))[j]? = some u → w.cell? (ad.add j) = some u := by
  intro j u hj
  have hl : j < (pcs 0 (enc s)).length := (List.getElem?_eq_some_iff.1 hj).1
  rw [pcs_len] at hl
  obtain ⟨p1, p2⟩ := pcs_get 0 (enc s) (j / 2) (by omega)
  obtain ⟨-, b, off, e, -, c0, c1⟩ := h (j / 2) (by omega)
  injection e with e
  subst e
  rw [Addr.add_lit]
  by_cases hp : j % 2 = 0
  · have ej : j = j / 2 * 2 := by omega
    rw [← ej] at p1 c0
    rw [hj] at p1
    rw [c0, p1]; simp
  · have ej : j = j / 2 * 2 + 1 := by omega
    rw [Nat.add_assoc, ← ej] at c1
    rw [← ej] at p2
    rw [hj] at p2
    rw [c1, p2]
def CpyP (s : List Int) (bare : Int) (w : World) (e : Ending) (w' : World) : Prop :=
  ∃ lc ac cc, e = .returned (.pointer (some ⟨lc, 0, none⟩)) ∧ w.heap.size ≤ lc ∧ ListAt w' lc ac cc s bare ∧ PartsAt (fun b => w.heap.size ≤ b) w' ac s ∧ Below w.heap.size w w'
theorem CpyP.drew {s : List Int} {bare : Int} {w w' : World} {e : Ending} (h : CpyP s bare w e w') : CpyP s bare w e w'.drew := by
  obtain ⟨lc, ac, cc, h1, h2, h3, h4, h5⟩ := h
  exact ⟨lc, ac, cc, h1, h2, h3.below (Below.refl _ _).drew, h4.below (Below.refl _ _).drew, h5.drew⟩
end Go.Proofs.Ytdchpiihjjjpfab
