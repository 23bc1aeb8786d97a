/-
  Means of the laws' walks.
-/
import Derived.Test.YtdaccgnfhagoeaaMki
import Derived.Test.YtdaccgnfhagoeaaMkp
import Derived.Test.YtdaccgnfhagoeaaMkr
import Derived.Test.YtdaccgnfhagoeaaMkt
import Derived.Test.YtdaccgnfhagoeaaMku
namespace Go.Proofs.Ytdaccgnfhagoeaa
open Go.RowKit
set_option linter.unusedSimpArgs false
set_option linter.unusedVariables false

theorem OpsAt.mono {B C : Nat} {w : World} {so : Option Addr} {m : Nat} {F : Nat → Opr} (h : OpsAt B w so m F) (hC : B ≤ C) : OpsAt C w so m F := by
  intro i hi
  obtain ⟨b, off, e, hl, r⟩ := h i hi
  exact ⟨b, off, e, by omega, r⟩
theorem btw_app (L M : List Mk) (a b : Int) : btw (L ++ M) a b = btw L a b ++ btw M a b := by simp [btw]
/-- The next one between. -/
theorem btw_next {L : List Mk} {a b : Int} {i : Nat} (hi : i < L.length) (h : isBtw a b (L[i]'hi) = true) : ∃ h2 : (btw (L.take i) a b).length < (btw L a b).length, (btw L a b)[(btw (L.take i) a b).length]'h2 = (L[i]'hi).id := by
  have e : btw L a b = btw (L.take i) a b ++ ([(L[i]'hi).id] ++ btw (L.drop (i + 1)) a b) := by
    rw [← List.append_assoc, ← btw_in hi h, ← btw_app, List.take_append_drop]
  refine ⟨by rw [e]; simp, ?_⟩
  have : ∀ (X : List Int) (h2 : (btw (L.take i) a b).length < X.length), X = btw (L.take i) a b ++ ([(L[i]'hi).id] ++ btw (L.drop (i + 1)) a b) → X[(btw (L.take i) a b).length]'h2 = (L[i]'hi).id := by
    intro X h2 eX
    subst eX
    rw [List.getElem_append_right (Nat.le_refl _)]
    simp
  exact this _ _ e
/-- Numbers that may be read. -/
theorem own_int {w : World} {B n : Nat} {u : Value} {l : List Int} (h : w.ownsRow B 3 1 u n (ints l)) (i : Nat) (hi : i < l.length) : ∃ g cap, u = .slice (some ⟨g, 0, none⟩) n cap ∧ n ≤ cap ∧ w.cell? ⟨g, i, none⟩ = some (.int .i64 (l[i]'hi)) := by
  have hl := h.1
  simp [ints] at hl
  rcases h.2 with ⟨rfl, h2⟩ | ⟨g, cap, cur, rfl, hB, hh, hcap, hmx, hsz, hx⟩
  · omega
  · refine ⟨g, cap, rfl, hcap, ?_⟩
    rw [h.cellAt i (by omega)]
    simp [ints, hi]
theorem own_shape1 {w : World} {B n : Nat} {u : Value} {l : List Int} (h : w.ownsRow B 3 1 u n (ints l)) : ∃ ao cap, u = .slice ao n cap := own_shape h
end Go.Proofs.Ytdaccgnfhagoeaa
