/-
  Lines that lie apart.
-/
import Derived.Test.YtdpjaafdpgkclaaTc
import Derived.Laws.Externs
import Derived.Laws.LoneSync
namespace Go.Proofs.Ytdpjaafdpgkclaa
open Go.RowKit
set_option linter.unusedSimpArgs false
set_option linter.unusedVariables false

/-! ### Lines that lie apart -/
theorem run_apart (w : World) (xo yo : Option Addr) (lx cx ly cy : Nat) (h : 0 < lx → 0 < ly → ∃ a b ta ka tb kb, xo = some a ∧ yo = some b ∧ a.block ≠ b.block ∧ w.shape? a.block = some (ta, ka) ∧ w.shape? b.block = some (tb, kb) ∧ ka ≠ 0 ∧ kb ≠ 0 ∧ ((∀ o, w.frozen? ⟨a.block, o, none⟩ = false) ∨ ∀ o, w.frozen? ⟨b.block, o, none⟩ = false) ∧ a.spot = none ∧ b.spot = none) :
    (Extern.SlicesOverlaps.overlaps #[22, 22] #[4] #[.slice xo lx cx, .slice yo ly cy]).run Try.prog w = .ok (.bool false) w := by
  delta Extern.SlicesOverlaps.overlaps
  delta Extern.SlicesOverlaps.overlaps.match_4
  dsimp only [Array.size, Array.getLit]
  simp
  by_cases h0 : lx = 0 ∨ ly = 0
  · cases xo <;> cases yo <;> simp [h0]
  · obtain ⟨⟨ab, ao, asp⟩, ⟨bb, bo, bsp⟩, ta, ka, tb, kb, rfl, rfl, hne, hsa, hsb, hka, hkb, hfr, has, hbs⟩ := h (by omega) (by omega)
    simp only at hne hsa hsb hfr has hbs
    subst has; subst hbs
    have hnb' : (ab == bb) = false := by simpa using hne
    cases ka with
    | zero => exact absurd rfl hka
    | succ ka =>
      cases kb with
      | zero => exact absurd rfl hkb
      | succ kb =>
        rcases hfr with hfr | hfr
        · simp [h0, hnb', hne, frozen, noView, viewAt, mayBeOne, stringish, shape, Sem.run, hsa, hsb, hfr]
        · simp [h0, hnb', hne, frozen, noView, viewAt, mayBeOne, stringish, shape, Sem.run, hsa, hsb, hfr]
theorem lapcall (w : World) (xo yo : Option Addr) (lx cx ly cy : Nat) (h : 0 < lx → 0 < ly → ∃ a b ta ka tb kb, xo = some a ∧ yo = some b ∧ a.block ≠ b.block ∧ w.shape? a.block = some (ta, ka) ∧ w.shape? b.block = some (tb, kb) ∧ ka ≠ 0 ∧ kb ≠ 0 ∧ ((∀ o, w.frozen? ⟨a.block, o, none⟩ = false) ∨ ∀ o, w.frozen? ⟨b.block, o, none⟩ = false) ∧ a.spot = none ∧ b.spot = none) :
    (callFunc 52 #[.slice xo lx cx, .slice yo ly cy]).run Try.prog w = .ok (.value (.bool false)) w := by
  rw [run_callFunc_extern Try.func52 (by kernel_rfl) (by kernel_rfl) (by kernel_rfl) (e := Extern.SlicesOverlaps.overlaps #[22, 22] #[4]) (by kernel_rfl), run_apart w xo yo lx cx ly cy h]
  rfl
theorem row_shape {w : World} {g : Nat} {L : List Value} {t : TypeId} (h : w.heap[g]? = some (.cells L.toArray t (0, 0))) : w.shape? g = some (t, L.length) ∧ ∀ o, w.frozen? ⟨g, o, none⟩ = false := by
  refine ⟨by unfold World.shape?; rw [h]; simp, fun o => by unfold World.frozen?; rw [h]; simp⟩
theorem cell_shape {w : World} {b o : Nat} {v : Value} (h : w.cell? ⟨b, o, none⟩ = some v) : ∃ t k, w.shape? b = some (t, k) ∧ k ≠ 0 := by
  obtain ⟨e, n, h1, h2, h3⟩ := World.shape?_of_cell? h
  exact ⟨e, n, h1, by simp only at h2; omega⟩
end Go.Proofs.Ytdpjaafdpgkclaa
