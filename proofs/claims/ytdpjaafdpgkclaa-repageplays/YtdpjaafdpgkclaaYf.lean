/-
  Means of the walk of RepagePlays.
-/
import Derived.Test.YtdpjaafdpgkclaaYe
namespace Go.Proofs.Ytdpjaafdpgkclaa
open Go.RowKit
set_option linter.unusedSimpArgs false
set_option linter.unusedVariables false

theorem Dn.wide {w w' : World} {B p : Nat} {D : Dc} {g : Stg} {lo : Option Addr} {c : Nat} {P : Nat → Prop} (h : Dn w B p D g lo c P) (hb : Below w.heap.size w w') : Dn w' B p D g lo c (fun b => P b ∨ (w.heap.size ≤ b ∧ b < w'.heap.size)) := by
  obtain ⟨ao, cap, so, sc, J, h1, h2, h3, h4, h5⟩ := h
  refine ⟨ao, cap, so, sc, J, h1.below hb, h2.keep (fun b i u hs hc => ⟨⟨hs.1, fun e => ?_⟩, hold hb hc⟩), h3, h4, fun b hb' e => ?_⟩
  · have hl := World.block_lt_of_cell? w _ hc
    simp only at hl
    rcases e with e | e
    · exact hs.2 e
    · omega
  · rcases e with e | e
    · exact h5 b hb' e
    · have := (h1.lt b hb').2; omega
theorem Dn.less {w : World} {B p : Nat} {D : Dc} {g : Stg} {lo : Option Addr} {c : Nat} {P P' : Nat → Prop} (h : Dn w B p D g lo c P) (hP : ∀ b, P' b → P b) : Dn w B p D g lo c P' := by
  obtain ⟨ao, cap, so, sc, J, h1, h2, h3, h4, h5⟩ := h
  exact ⟨ao, cap, so, sc, J, h1, h2.keep (fun b i u hs hc => ⟨⟨hs.1, fun e => hs.2 (hP b e)⟩, hc⟩), h3, h4, fun b hb e => h5 b hb (hP b e)⟩
theorem Dn.far {w w' : World} {B p : Nat} {D : Dc} {g : Stg} {lo : Option Addr} {c Q : Nat} {P : Nat → Prop} (h : Dn w B p D g lo c P) (hg : w.grownBy w' (some Q)) (hQ : P Q) : Dn w' B p D g lo c P := by
  obtain ⟨ao, cap, so, sc, J, h1, h2, h3, h4, h5⟩ := h
  refine ⟨ao, cap, so, sc, J, h1.keep (fun b hb => hg.block b (h1.lt b hb).2 (fun e => ?_)), h2.keep (fun b i u hs hc => ⟨hs, far_cell hg hc (fun e => hs.2 (e ▸ hQ))⟩), h3, h4, h5⟩
  have e2 : b = Q := by simpa using e
  exact h5 _ hb (e2 ▸ hQ)
def zr9 : Array Value := #[.slice none 0 0, .int .i64 0, .int .i64 0, .int .i64 0, .int .i64 0, .int .i64 0, .int .i64 0, .int .i64 0, .int .i64 0]
end Go.Proofs.Ytdpjaafdpgkclaa
