/-
  What the program's New and Copy do.
-/
import Derived.Test.YtholifolkimkdaaGf
namespace Go.Proofs.Ytholifolkimkdaa
open Go.RowKit
set_option linter.unusedSimpArgs false
set_option linter.unusedVariables false

theorem own_mono {w : World} {B C e size n : Nat} {v : Value} {xs : List Value} (h : w.ownsRow B e size v n xs) (hc : C ≤ B) : w.ownsRow C e size v n xs := by
  refine ⟨h.1, ?_⟩
  rcases h.2 with h2 | ⟨g, cap, cur, h1, h2, h3⟩
  · exact .inl h2
  · exact .inr ⟨g, cap, cur, h1, by omega, h3⟩
/-- A new index, all in new memory. -/
def NewP (P : List Nat) (o : Bool) (w : World) (e : Ending) (w' : World) : Prop :=
  ∃ xb ao cap, e = .returned (.pointer (some ⟨xb, 0, none⟩)) ∧ w.heap.size ≤ xb ∧ IxAt w' xb ao cap P o ∧ NAt (fun b => w.heap.size ≤ b) w' ao (ens 0 P) ∧ Below w.heap.size w w'
theorem ix_new {w W : World} {ao : Option Addr} {cap : Nat} {P : List Nat} {o : Bool} (hB : Below w.heap.size w W) (h : W.ownsRow w.heap.size 3 1 (.slice ao P.length cap) P.length (ncs (ens 0 P))) (hp : ∀ n ∈ P, 0 < n) (hl : P.sum ≤ 65536) :
    NewP P o w (.returned (.pointer (some ⟨W.heap.size, 0, none⟩))) (W.alloc (.cells #[.slice ao P.length cap, .bool o] 59)) := by
  have hn : NAt (fun b => w.heap.size ≤ b) W ao (ens 0 P) := own_nat (by rw [ens_len]; exact h)
  have hal : Below W.heap.size W (W.alloc (.cells #[.slice ao P.length cap, .bool o] 59)) := new_below _ _
  refine ⟨W.heap.size, ao, cap, rfl, hB.size, ⟨heap_alloc_new _ _, ?_, hp, hl, own_cap h⟩, hn.below hal, hB.trans (hal.mono hB.size)⟩
  exact hn.keep (fun b i u hs hc => ⟨by have := World.block_lt_of_cell? W _ hc; simp at this; omega, hold hal hc⟩)

set_option maxRecDepth 100000 in
set_option maxHeartbeats 2000000 in
theorem new_any (s : ByteArray) (w : World) (hs : s.size ≤ 65536) : Calls Try.prog 10 #[.string s] w fun e w' => NewP (sp (ln s)) (op (ln s)) w e w' := by
  have hsp := split_any s w (by omega)
  have hsum := sp_sum (ln s)
  have hlen := sp_len (ln s)
  rw [ln_len] at hsum hlen
  have HF : Box (∀ (W : World) v, Below w.heap.size w W → W.ownsRow w.heap.size 3 1 v (sp (ln s)).length (ncs (ens 0 (sp (ln s)))) → ∃ ac cc, v = .slice ac (sp (ln s)).length cc ∧ NewP (sp (ln s)) (op (ln s)) w (.returned (.pointer (some ⟨W.heap.size, 0, none⟩))) (W.alloc (.cells #[.slice ac (sp (ln s)).length cc, .bool (op (ln s))] 59))) := boxed (fun W v hb ho => by
    obtain ⟨ac, cc, rfl⟩ := own_shape ho
    exact ⟨ac, cc, rfl, ix_new hb ho (sp_pos _) (by omega)⟩)
  have HA : Box (∀ (W : World) so sc, Below w.heap.size w W → W.ownsRow w.heap.size 3 1 (.slice so (sp (ln s)).length sc) (sp (ln s)).length (ncs (sp (ln s))) → Calls Try.prog 27 #[.slice none 0 0, .slice so (sp (ln s)).length sc] W fun e w' => ∃ v', e = .returned v' ∧ w'.ownsRow w.heap.size 3 1 v' (sp (ln s)).length (ncs (ens 0 (sp (ln s)))) ∧ Below w.heap.size w w') := boxed (fun W so sc hb ho => by
    have := add_any W.heap.size (.slice none 0 0) [] (sp (ln s)) so sc W (World.ownsRow_nil _ _ _ _) ((own_nat ho).early (Nat.le_refl _)) (Nat.le_refl _) (by simp; omega) (by simp; omega)
    refine this.mono ?_
    rintro e w' ⟨v', rfl, h1, h2⟩
    exact ⟨v', rfl, own_mono h1 hb.size, hb.trans (h2.mono hb.size)⟩)
  generalize sp (ln s) = P at *
  generalize op (ln s) = o at *
  clear hsum hs
  go_enter Try.func10, Try.ntmps10
  go_wp2_with fail
  refine hsp.mono ?_
  rintro e w1 ⟨v, rfl, ho1, hb1⟩
  obtain ⟨so, sc, rfl⟩ := own_shape ho1
  have HA1 := boxed (HA.out _ _ _ hb1 ho1)
  clear hsp HA ho1
  go_wp2_with fail
  refine HA1.out.mono ?_
  rintro e w2 ⟨v', rfl, ho2, hb2⟩
  obtain ⟨ac, cc, rfl, hN⟩ := HF.out _ _ hb2 ho2
  have HN := boxed hN
  clear HA1 HF ho2 hb2 hN hb1
  go_wp2
  go_ret
  exact HN.out

/-- Nothing is put behind what is owned. -/
theorem run_append_nothing {P : Program} {w : World} (base : Nat) (t ty e : TypeId) (i : TypeInfo) (size c : Nat) (ht : P.underlying t = some (.slice e)) (hi : P.info? e = some i)
    (v : Value) (n : Nat) (xs : List Value) (hown : w.ownsRow base e size v n xs) :
    (Builtin.append_ #[t, t] ty #[v, .slice none 0 c]).run P w = .ok v w := by
  rcases hown.2 with ⟨rfl, rfl⟩ | ⟨g, cap, cur, rfl, _, _, hnc, _⟩
  · simp [Builtin.append_, run_underlying ht, sizeOf, typeInfo, hi, Builtin.lenOf, Builtin.firstCells]
  · simp [Builtin.append_, run_underlying ht, sizeOf, typeInfo, hi, Builtin.lenOf, Builtin.firstCells, hnc, storeCells]
/-- What is put behind: a row of numbers as it lies, or nothing. -/
def SrcAt (w : World) (ao : Option Addr) (m : Nat) (news : List Value) : Prop := (ao = none ∧ m = 0 ∧ news = []) ∨ ∃ ad : Addr, ao = some ad ∧ news.length = m * 1 ∧ ∀ j u, news[j]? = some u → w.cell? (ad.add j) = some u
theorem step_append_src {P : Program} {w : World} {ops : Array Oper} {o : Oper} {a : Act} {K : Act → World → Prop} {Q : Exit → Act → World → Prop} {E : Prop} (hgd : o.guard = none) (s x : Operand) (t : TypeId)
    (ho : o.op = .call { callee := .builtin .append, args := #[s, x], argTypes := #[t, t] })
    (base : Nat) (e : TypeId) (i : TypeInfo) (z : Value) (bytes : Nat) (ht : P.underlying t = some (.slice e)) (hi : P.info? e = some i) (hz : i.zero = some z)
    (hsize : i.size = 1) (hby : i.bytes = bytes) (hzs : z.cells.size = 1)
    (v : Value) (n : Nat) (xs : List Value) (hs : a.eval s = v) (hown : w.ownsRow base e 1 v n xs)
    (ao : Option Addr) (m c : Nat) (news : List Value) (hx : a.eval x = .slice ao m c) (hsrc : SrcAt w ao m news) (h1 : ∀ u ∈ news, u.oneCell' = true)
    (h63 : n + m ≤ maxLen) (hbytes : (n + m) * bytes ≤ 140737488355328) (hbase : base ≤ w.heap.size)
    (h : ∀ v' w', w'.ownsRow base e 1 v' (n + m) (xs ++ news) → w.grownBy w' v.ownBlock → K (a.put o.dst v') w') :
    if Region.wanted o (yielded ops a.tmps) = true then Oper.wp P o a w K Q else E := by
  have hw : Region.wanted o (yielded ops a.tmps) = true := by simp [Region.wanted, hgd]
  rw [if_pos hw]
  rcases hsrc with ⟨rfl, rfl, rfl⟩ | ⟨ad, rfl, hl, hnews⟩
  · have hrun := run_append_nothing (P := P) (w := w) base t o.type e i 1 c ht hi v n xs hown
    unfold Oper.wp
    simp [execOp, ho, resolve, invoke, builtin, hs, hx, hrun, Result.andThen]
    exact h v w (by simpa using hown) (World.grownBy.refl _ _)
  · exact wp_append_own w s x t ho base e i z 1 bytes ht hi hz hsize hby hzs (by decide) v n xs hs hown ad m c news hx hl hnews h1 h63 hbytes hbase fun v' w' h2 h3 _ => h v' w' h2 h3
theorem wpList_append_src {P : Program} {w : World} {ops : Array Oper} {rest : List Oper} {o : Oper} {a : Act} {Q : Exit → Act → World → Prop} (hgd : o.guard = none) (s x : Operand) (t : TypeId)
    (ho : o.op = .call { callee := .builtin .append, args := #[s, x], argTypes := #[t, t] })
    (base : Nat) (e : TypeId) (i : TypeInfo) (z : Value) (bytes : Nat) (ht : P.underlying t = some (.slice e)) (hi : P.info? e = some i) (hz : i.zero = some z)
    (hsize : i.size = 1) (hby : i.bytes = bytes) (hzs : z.cells.size = 1)
    (v : Value) (n : Nat) (xs : List Value) (hs : a.eval s = v) (hown : w.ownsRow base e 1 v n xs)
    (ao : Option Addr) (m c : Nat) (news : List Value) (hx : a.eval x = .slice ao m c) (hsrc : SrcAt w ao m news) (h1 : ∀ u ∈ news, u.oneCell' = true)
    (h63 : n + m ≤ maxLen) (hbytes : (n + m) * bytes ≤ 140737488355328) (hbase : base ≤ w.heap.size)
    (h : ∀ v' w', w'.ownsRow base e 1 v' (n + m) (xs ++ news) → w.grownBy w' v.ownBlock → wpList P ops Q rest (a.put o.dst v') w') : wpList P ops Q (o :: rest) a w := by
  refine wpList_plain hgd fun K hK => ?_
  have := step_append_src (P := P) (w := w) (ops := ops) (K := K) (Q := Q) (E := False) hgd s x t ho base e i z bytes ht hi hz hsize hby hzs v n xs hs hown ao m c news hx hsrc h1 h63 hbytes hbase (fun v' w' h2 h3 => hK _ _ (h v' w' h2 h3))
  have hw : Region.wanted o (yielded ops a.tmps) = true := by simp [Region.wanted, hgd]
  rw [if_pos hw] at this
  exact this
theorem NAt.src {S : Nat → Prop} {w : World} {ao : Option Addr} {L : List Nat} (h : NAt S w ao L) (m : Nat) (hm : m ≤ L.length) : SrcAt w ao m (ncs (L.take m)) := by
  cases ao with
  | none =>
    have hz : L.length = 0 := by
      by_cases c : L.length = 0
      · exact c
      · obtain ⟨b, e, -⟩ := h.form (by omega)
        cases e
    have : m = 0 := by omega
    subst this
    exact .inl ⟨rfl, rfl, rfl⟩
  | some ad =>
    refine .inr ⟨ad, rfl, by simp [ncs]; omega, ?_⟩
    intro j u hj
    have hl : j < (ncs (L.take m)).length := (List.getElem?_eq_some_iff.1 hj).1
    rw [ncs_len, List.length_take] at hl
    obtain ⟨b, e, -, c⟩ := h j (by omega)
    injection e with e
    subst e
    rw [ncs_get _ _ (by rw [List.length_take]; omega)] at hj
    injection hj with hj
    rw [Addr.add_lit, Nat.zero_add, c, ← hj]
    simp [List.getElem?_take, show j < m by omega]
theorem NAt.under_src {S : Nat → Prop} {w : World} {ao : Option Addr} {L : List Nat} (h : NAt S w ao L) : SrcAt w ao L.length (ncs L) := by
  have := h.src L.length (Nat.le_refl _)
  rwa [List.take_length] at this
end Go.Proofs.Ytholifolkimkdaa
