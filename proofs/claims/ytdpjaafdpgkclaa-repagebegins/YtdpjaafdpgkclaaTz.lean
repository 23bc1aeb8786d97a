/-
  Means of the statements' walks.
-/
import Derived.Test.YtdpjaafdpgkclaaTw
import Derived.Test.YtdpjaafdpgkclaaTy
namespace Go.Proofs.Ytdpjaafdpgkclaa
open Go.RowKit
set_option linter.unusedSimpArgs false
set_option linter.unusedVariables false

theorem its_small {w : World} {B p : Nat} {ao : Option Addr} {cap : Nat} {so : Option Addr} {sc : Nat} {D : Dc} {g : Stg} {J : Nat} (h : BkC w B p ao cap so sc D g J) : ∀ i, i < J → ((D.its J).getD i 0 : Nat) < 9223372036854775807 := by
  intro i hi
  rw [D.its_get J i hi]
  have h1 := D.it_le i
  have h2 := h.dc.n
  omega
theorem keeps_tail (D : Dc) (J f d m : Nat) (C : Nat → Slt) (J' pg bl : Nat) (hP : D.Pgs J) (hP' : (D.put f d m C).Pgs J') (hfd : f + d ≤ D.n) (hBl : Bl D J f d m C J' pg bl) : J' - pg - bl ≤ J ∧ ∀ i, 1 ≤ i → i ≤ J' - pg - bl → f + m ≤ (D.put f d m C).it (J' - i) ∧ (D.put f d m C).it (J' - i) + d = D.it (J - i) + m := by
  obtain ⟨h1, h2, h3⟩ := hBl
  have hn : (D.put f d m C).n = D.n - d + m := rfl
  rcases h3 with h3 | ⟨k, k1, k2, k3⟩
  · refine ⟨by omega, fun i i1 i2 => by omega⟩
  · have hf := it_found D f d m C hfd (pg + bl) k k2 k3
    have e : J' - (pg + bl) = J - k := by
      have a1 := hf (J - k)
      rw [show k + (J - k) = J by omega, hP.2] at a1
      have a2 : J' ≤ pg + bl + (J - k) := by
        by_cases c : pg + bl + (J - k) < J'
        · have := hP'.1 _ c; omega
        · omega
      have a3 := hf (J' - (pg + bl))
      rw [show pg + bl + (J' - (pg + bl)) = J' by omega, hP'.2] at a3
      have a4 : J ≤ k + (J' - (pg + bl)) := by
        by_cases c : k + (J' - (pg + bl)) < J
        · have := hP.1 _ c; omega
        · omega
      omega
    refine ⟨by omega, fun i i1 i2 => ?_⟩
    have a := hf (J' - i - (pg + bl))
    rw [show pg + bl + (J' - i - (pg + bl)) = J' - i by omega, show k + (J' - i - (pg + bl)) = J - i by omega] at a
    have b : D.it k ≤ D.it (J - i) := D.it_mono (by omega)
    exact ⟨by omega, a⟩
theorem nat_far {S S' : Nat → Prop} {w w' : World} {p : Nat} {lb : Option Nat} {ao : Option Addr} {L : List Nat} (h : NAt S w ao L) (hF : Fr w w' p lb) (hS : ∀ b, S b → (b ≠ p ∧ some b ≠ lb) ∧ S' b) : NAt S' w' ao L :=
  h.keep (fun b i u hs hc => ⟨(hS b hs).2, by
    have hl := World.block_lt_of_cell? w _ hc
    rw [World.cell?_of_block (hF.block b hl (hS b hs).1.1 (hS b hs).1.2)]
    exact hc⟩)
end Go.Proofs.Ytdpjaafdpgkclaa
