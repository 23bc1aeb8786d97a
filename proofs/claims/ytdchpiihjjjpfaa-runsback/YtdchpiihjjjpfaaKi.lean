/-
  Small facts for the law of what goes back.
-/
import Derived.Test.YtdchpiihjjjpfaaKh
import Derived.Test.YtdchpiihjjjpfaaKd
namespace Go.Proofs.Ytdchpiihjjjpfaa
open Go.RowKit
set_option linter.unusedSimpArgs false
set_option linter.unusedVariables false

theorem row_edit {W W' : World} {B e size n lb : Nat} {v : Value} {xs : List Value} (h : W.ownsRow B e size v n xs) (hlt : lb < B) (hg : W.grownBy W' (some lb)) : W'.ownsRow B e size v n xs := by
  refine h.kept hg ?_
  cases hv : v.ownBlock with
  | none => exact .inl rfl
  | some r =>
    right
    intro e
    injection e with e
    have := owns_ge h r hv
    omega
theorem hold4 {w W1 w3 w4 : World} {i : Nat} {u : Value} (hz : W1.heap.size = w.heap.size + 1) (h3 : Below (w.heap.size + 1) W1 w3) (h4 : Below w3.heap.size w3 w4) (hc : W1.cell? ⟨w.heap.size, i, none⟩ = some u) : w4.cell? ⟨w.heap.size, i, none⟩ = some u :=
  hold h4 (hold (w := W1) (by rw [hz]; exact h3) hc)
/-- A part's runs are laid again where they were. -/
theorem lay_again {W : World} {lb : Nat} {ao : Option Addr} {cap : Nat} {s : List Int} {bt : Int} {x y B' : Nat} {so : Option Addr} {sc : Nat} (hl : ListAt W lb ao cap (setS s x y 5) bt) (hs : Sok s) (hn : s.length ≤ 65536) (hxy : x ≤ y) (hy : y ≤ s.length) (hlt : lb < B')
    (ho : W.ownsRow B' 58 2 (.slice so (enc (sub s x y)).length sc) (enc (sub s x y)).length (rcs (enc (sub s x y)))) :
    Calls Try.prog 30 #[.pointer (some ⟨lb, 0, none⟩), .int .i64 (x : Nat), .slice so (enc (sub s x y)).length sc] W fun e w' => e = .returned (.int .i64 0) ∧ ∃ ao' cap', ListAt w' lb ao' cap' s bt ∧ W.grownBy w' (some lb) := by
  have hp := own_runs ho rfl (enc_ok (sok_sub hs x y) (by rw [sub_len s x y hy]; omega))
  obtain ⟨e1, e2, e3⟩ := lay_back hs hxy hy (fun i => (((enc (sub s x y)).getD i (0, 0)).1 : Nat)) (fun i => Ys (enc (sub s x y)) i) (fun i hi => ⟨rfl, rfl⟩)
  have := lay_any hl (x : Int) so (enc (sub s x y)).length sc _ _ (hp.keep (fun k i u hk hc => ⟨by omega, hc⟩)) (by have := enc_len (sub s x y); rw [sub_len s x y hy] at this; omega)
  rw [e2, e3] at this
  exact this
end Go.Proofs.Ytdchpiihjjjpfaa
