/-
  Runs with their slices' shapes, and two that are the same.
-/
import Derived.Test.YtdchpiihjjjpfabLz
namespace Go.Proofs.Ytdchpiihjjjpfab
open Go.RowKit
set_option linter.unusedSimpArgs false
set_option linter.unusedVariables false

theorem own_shape {w : World} {base size n : Nat} {e : TypeId} {v : Value} {xs : List Value} (h : w.ownsRow base e size v n xs) : ∃ ao cap, v = .slice ao n cap := by
  rcases ownsRow_forms h with ⟨g1, g2⟩ | ⟨g, cap, g1⟩
  · exact ⟨none, 0, by rw [g2]; exact g1⟩
  · exact ⟨_, _, g1⟩
theorem runs_sh {w : World} {lb : Nat} {ao : Option Addr} {cap : Nat} {s : List Int} {bare : Int} (h : ListAt w lb ao cap s bare) : Calls Try.prog 13 #[.pointer (some ⟨lb, 0, none⟩)] w fun e w' => ∃ so sc, e = .returned (.slice so (enc s).length sc) ∧ w'.ownsRow w.heap.size 25 2 (.slice so (enc s).length sc) (enc s).length (rcs (enc s)) ∧ Below w.heap.size w w' := by
  refine (runs_any h).mono ?_
  rintro e w' ⟨v, rfl, h1, h2⟩
  obtain ⟨so, sc, rfl⟩ := own_shape h1
  exact ⟨so, sc, rfl, h1, h2⟩
theorem same_yes (B C : Nat) (w : World) (v1 v2 : Value) (s : List Int) (hs : Sok s) (hl : s.length ≤ 65536) (h1 : w.ownsRow B 25 2 v1 (enc s).length (rcs (enc s))) (h2 : w.ownsRow C 25 2 v2 (enc s).length (rcs (enc s))) :
    Calls Try.prog 7 #[v1, v2] w fun e w' => e = .returned (.bool true) ∧ Below w.heap.size w w' := by
  have hk := enc_ok hs (by omega)
  refine (rsame_runs B C w v1 v2 (enc s) (enc s) h1 h2 hk hk (by have := enc_len s; omega)).mono ?_
  rintro e w' ⟨r, rfl, hr, hb⟩
  obtain rfl : r = true := hr.2 rfl
  exact ⟨rfl, hb⟩
end Go.Proofs.Ytdchpiihjjjpfab
