/-
  Reading what laws are handed and what Keys answers.
-/
import Derived.Test.YtmnnmnggakbipaaSb
namespace Go.Proofs.Ytmnnmnggakbipaa
open Go.RowKit
set_option linter.unusedSimpArgs false
set_option linter.unusedVariables false

theorem OpsAt.below {w w' : World} {ao : Option Addr} {n : Nat} {O : Nat → Opr} (h : OpsAt w ao n O) (hb : Below w.heap.size w w') : OpsAt w' ao n O := by
  intro i hi
  obtain ⟨⟨h1, h2⟩, b, off, e, c0, c1, c2, c3, c4, c5, c6, c7, c8, c9, c10, c11, c12⟩ := h i hi
  exact ⟨⟨h1.below hb, h2⟩, b, off, e, hold hb c0, hold hb c1, hold hb c2, hold hb c3, hold hb c4, hold hb c5, hold hb c6, hold hb c7, hold hb c8, hold hb c9, hold hb c10, hold hb c11, hold hb c12⟩
theorem KsAt.form {w : World} {ao : Option Addr} {n : Nat} {K : Nat → Kv} (h : KsAt w ao n K) (hn : 0 < n) : ∃ b off, ao = some ⟨b, off, none⟩ := by
  obtain ⟨-, b, off, e, -⟩ := h 0 hn
  exact ⟨b, off, e⟩
theorem KsAt.get {w : World} {b off n : Nat} {K : Nat → Kv} (h : KsAt w (some ⟨b, off, none⟩) n K) {i : Nat} (hi : i < n) : w.cell? ⟨b, off + i * 11, none⟩ = some (.string (K i).tx) ∧ w.cell? ⟨b, off + i * 11 + 1, none⟩ = some (.slice (K i).ra (K i).rn (K i).rc) ∧ w.cell? ⟨b, off + i * 11 + 2, none⟩ = some (.int .i64 (K i).ta) ∧ w.cell? ⟨b, off + i * 11 + 3, none⟩ = some (.int .i64 (K i).wd) ∧ w.cell? ⟨b, off + i * 11 + 4, none⟩ = some (.int .i64 (K i).s.t) ∧ w.cell? ⟨b, off + i * 11 + 5, none⟩ = some (.int .i64 (K i).s.l) ∧ w.cell? ⟨b, off + i * 11 + 6, none⟩ = some (.int .i64 (K i).s.a) ∧ w.cell? ⟨b, off + i * 11 + 7, none⟩ = some (.int .i64 (K i).s.d) ∧ w.cell? ⟨b, off + i * 11 + 8, none⟩ = some (.int .i64 (K i).s.z) ∧ w.cell? ⟨b, off + i * 11 + 9, none⟩ = some (.int .i64 (K i).s.o) ∧ w.cell? ⟨b, off + i * 11 + 10, none⟩ = some (.int .i64 (K i).s.i) := by
  obtain ⟨-, b', off', e, h3⟩ := h i hi
  injection e with e
  injection e with e1 e2
  subst e1; subst e2
  exact ⟨h3 0 _ rfl, h3 1 _ rfl, h3 2 _ rfl, h3 3 _ rfl, h3 4 _ rfl, h3 5 _ rfl, h3 6 _ rfl, h3 7 _ rfl, h3 8 _ rfl, h3 9 _ rfl, h3 10 _ rfl⟩
theorem KysAt.form {B : Nat} {w : World} {ao : Option Addr} {n c : Nat} {ks : List Kv} (h : KysAt B w (.slice ao n c) ks) (hn : 0 < ks.length) : ∃ b off, ao = some ⟨b, off, none⟩ := by
  rcases h.row.2 with ⟨_, h2⟩ | ⟨g, cap, cur, e, _⟩
  · omega
  · injection e with e1 e2 e3
    exact ⟨g, 0, e1⟩
theorem KysAt.get {B : Nat} {w : World} {b off n c : Nat} {ks : List Kv} (h : KysAt B w (.slice (some ⟨b, off, none⟩) n c) ks) {i : Nat} {x : Kv} (hx : ks[i]? = some x) : w.cell? ⟨b, off + i * 11, none⟩ = some (.string x.tx) ∧ w.cell? ⟨b, off + i * 11 + 1, none⟩ = some (.slice x.ra x.rn x.rc) ∧ w.cell? ⟨b, off + i * 11 + 2, none⟩ = some (.int .i64 x.ta) ∧ w.cell? ⟨b, off + i * 11 + 3, none⟩ = some (.int .i64 x.wd) ∧ w.cell? ⟨b, off + i * 11 + 4, none⟩ = some (.int .i64 x.s.t) ∧ w.cell? ⟨b, off + i * 11 + 5, none⟩ = some (.int .i64 x.s.l) ∧ w.cell? ⟨b, off + i * 11 + 6, none⟩ = some (.int .i64 x.s.a) ∧ w.cell? ⟨b, off + i * 11 + 7, none⟩ = some (.int .i64 x.s.d) ∧ w.cell? ⟨b, off + i * 11 + 8, none⟩ = some (.int .i64 x.s.z) ∧ w.cell? ⟨b, off + i * 11 + 9, none⟩ = some (.int .i64 x.s.o) ∧ w.cell? ⟨b, off + i * 11 + 10, none⟩ = some (.int .i64 x.s.i) := by
  have hi : i < ks.length := by obtain ⟨h, -⟩ := List.getElem?_eq_some_iff.1 hx; exact h
  have hb : off = 0 := by
    rcases h.row.2 with ⟨_, h2⟩ | ⟨g, cap, cur, e, _⟩
    · omega
    · injection e with e1 e2 e3
      injection e1 with e1
      injection e1 with _ e1
  subst hb
  have hn : n = ks.length := by
    rcases h.row.2 with ⟨_, h2⟩ | ⟨g, cap, cur, e, _⟩
    · omega
    · injection e with e1 e2 e3
  subst hn
  have hc : ∀ j u, j < 11 → x.cells[j]? = some u → w.cell? ⟨b, 0 + i * 11 + j, none⟩ = some u := fun j u hj hu => by
    have := h.row.cellAt (i * 11 + j) (by omega)
    rw [show 0 + i * 11 + j = i * 11 + j by omega, this, kcs_get ks i x hx j hj, hu]
  exact ⟨hc 0 _ (by omega) rfl, hc 1 _ (by omega) rfl, hc 2 _ (by omega) rfl, hc 3 _ (by omega) rfl, hc 4 _ (by omega) rfl, hc 5 _ (by omega) rfl, hc 6 _ (by omega) rfl, hc 7 _ (by omega) rfl, hc 8 _ (by omega) rfl, hc 9 _ (by omega) rfl, hc 10 _ (by omega) rfl⟩
end Go.Proofs.Ytmnnmnggakbipaa
