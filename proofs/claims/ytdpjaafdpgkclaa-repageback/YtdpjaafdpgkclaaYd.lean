/-
  Lines that are put back: means of the walk of RepageBack.
-/
import Derived.Test.YtdpjaafdpgkclaaTz
namespace Go.Proofs.Ytdpjaafdpgkclaa
open Go.RowKit
set_option linter.unusedSimpArgs false
set_option linter.unusedVariables false

theorem part_mid (S : Nat → Prop) (w0 : World) (ao : Option Addr) (n c f d : Nat) (F : Nat → Slt) (h : SltsAt S w0 ao n F) (hc : n ≤ c) (hq : f + d ≤ n) (z : Int) (hz : z = ((f + d : Nat) : Int)) (hno : ao = none → c = 0) : ∃ ao', (∀ w, (Instr.slice 22 (.slice ao n c) (some (.int .i64 (f : Nat))) (some (.int .i64 z)) none).run Try.prog w = .ok (.slice ao' d (c - f)) w) ∧ (ao' = none → c - f = 0) ∧ ∀ W, SltsAt S W ao n F → SltsAt S W ao' d (fun k => F (f + k)) := by
  subst hz
  by_cases h0 : n = 0
  · subst h0
    obtain rfl : f = 0 := by omega
    obtain rfl : d = 0 := by omega
    cases ao with
    | none =>
      obtain rfl := hno rfl
      exact ⟨none, fun w => by go_simp, fun _ => rfl, fun W hW i hi => absurd hi (Nat.not_lt_zero _)⟩
    | some ad =>
      refine ⟨some (if c = 0 then ad else ad.add 0), fun w => ?_, (fun e => nomatch e), fun W hW i hi => absurd hi (Nat.not_lt_zero _)⟩
      simp [Instr.slice, Instr.sliceBounds, Instr.sliceBound, asIntOf, run_underlying Try.underlying22, go_sem]
  · obtain ⟨b, off, rfl, -, -⟩ := h.form (by omega)
    refine ⟨some ⟨b, sa off f c, none⟩, fun w => ?_, (fun e => nomatch e), fun W hW => ?_⟩
    · have := slM b off n c f (f + d) (by omega) (by omega) w
      rw [this, show f + d - f = d by omega]
    · by_cases e : d = 0
      · subst e
        intro i hi
        omega
      · rw [sa_of (by omega)]
        exact hW.part f d (by omega)
theorem SltsAt.like {S : Nat → Prop} {w : World} {ao : Option Addr} {n : Nat} {F G : Nat → Slt} (h : SltsAt S w ao n F) (e : ∀ k, k < n → F k = G k) : SltsAt S w ao n G := by
  intro i hi
  have := h i hi
  rw [e i hi] at this
  exact this
theorem SltsAt.far {S S' : Nat → Prop} {w w' : World} {p : Nat} {lb : Option Nat} {ao : Option Addr} {n : Nat} {F : Nat → Slt} (h : SltsAt S w ao n F) (hF : Fr w w' p lb) (hS : ∀ b, S b → (b ≠ p ∧ some b ≠ lb) ∧ S' b) : SltsAt S' w' ao n F :=
  h.keep (fun b i u hs hc => ⟨(hS b hs).2, by
    have hl := World.block_lt_of_cell? w _ hc
    rw [World.cell?_of_block (hF.block b hl (hS b hs).1.1 (hS b hs).1.2)]
    exact hc⟩)
/-- Whole paragraphs' lines may be put back. -/
theorem back_ok {D : Dc} {f d m : Nat} {C : Nat → Slt} (hR : Rts D.F D.n 0) (hC : Rts C m 0) (h : f + d ≤ D.n) (h1 : f = D.n ∨ (D.F f).i = 0) (h2 : f + d = D.n ∨ (D.F (f + d)).i = 0) :
    Rts (fun k => D.F (f + k)) d 0 ∧ f + m ≤ (D.put f d m C).n ∧ (f = (D.put f d m C).n ∨ ((D.put f d m C).F f).i = 0) ∧ (f + m = (D.put f d m C).n ∨ ((D.put f d m C).F (f + m)).i = 0) := by
  have hn : (D.put f d m C).n = D.n - d + m := rfl
  have hF : (D.put f d m C).F = put D.F f d m C := rfl
  refine ⟨?_, by omega, ?_, ?_⟩
  · obtain ⟨a, -⟩ := hR.seam f (Nat.zero_le _) (by omega) h1
    obtain ⟨-, b⟩ := a.seam (f + d) (by omega) h h2
    exact b.move _ d 0 (by omega) (fun k hk => by rw [Nat.zero_add])
  · by_cases c : m = 0
    · subst c
      rcases h2 with h2 | h2
      · left; omega
      · right
        have := put_hi (F := D.F) (f := f) (g := d) (m := 0) (C := C) 0
        simp only [Nat.add_zero] at this
        rw [hF, this]
        exact h2
    · right
      have := put_in (F := D.F) (f := f) (g := d) (m := m) (C := C) (k := 0) (by omega)
      simp only [Nat.add_zero] at this
      rw [hF, this]
      obtain ⟨m', k1, k2, k3, k4, k5⟩ := hC.inv (by omega)
      have := (k4 0 (by omega)).2.1
      simpa using this
  · rcases h2 with h2 | h2
    · left; omega
    · right
      have := put_hi (F := D.F) (f := f) (g := d) (m := m) (C := C) 0
      simp only [Nat.add_zero] at this
      rw [hF, this]
      exact h2
theorem back_same {D : Dc} {f d m : Nat} {C : Nat → Slt} (h : f + d ≤ D.n) {J J'' : Nat} (hP : D.Pgs J) (hP' : ((D.put f d m C).put f m d (fun k => D.F (f + k))).Pgs J'') :
    ((D.put f d m C).put f m d (fun k => D.F (f + k))).n = D.n ∧ (∀ k, ((D.put f d m C).put f m d (fun k => D.F (f + k))).F k = D.F k) ∧ J'' = J ∧ ((D.put f d m C).put f m d (fun k => D.F (f + k))).its J'' = D.its J := by
  have hn : ((D.put f d m C).put f m d (fun k => D.F (f + k))).n = D.n := by show D.n - d + m - m + d = D.n; omega
  have hF : ∀ k, ((D.put f d m C).put f m d (fun k => D.F (f + k))).F k = D.F k := fun k => put_back D.F C D.n f d m h k
  have hp := Dc.pgs_like _ D hn rfl rfl rfl (fun k _ => hF k) hP'
  obtain rfl := D.pgs_one hp hP
  exact ⟨hn, hF, rfl, Dc.its_like _ D hn rfl rfl rfl (fun k _ => hF k) _⟩
end Go.Proofs.Ytdpjaafdpgkclaa
