/-
  The search under way as it lies in memory; what its method enter does.
-/
import Derived.Test.YtkmeeblkckfepabGreatFi
import Derived.Test.YtkmeeblkckfepabGreatFj
namespace Go.Proofs.YtkmeeblkckfepabGreat
open Go.RowKit
set_option linter.unusedSimpArgs false
set_option linter.unusedVariables false

/-- The search under way: the struct, the two windows, each in a block of its own. -/
structure SS (B sb pb rb rc m : Nat) (width : Int) (s : Stg) (w : World) (bound near : Int) (v1 v2 : Value) (L1 L2 : List (Nat × Int)) : Prop where
  sr : SrAt w sb pb width s rb m rc bound near v1 v2
  w1 : WinAt B w v1 L1
  w2 : WinAt B w v2 L2
  b1 : ∀ g, wblk v1 = some g → B ≤ g ∧ g < w.heap.size ∧ g ≠ sb ∧ g ≠ rb ∧ wblk v2 ≠ some g
  b2 : ∀ g, wblk v2 = some g → B ≤ g ∧ g < w.heap.size ∧ g ≠ sb ∧ g ≠ rb
  hs : B ≤ sb ∧ sb < w.heap.size ∧ sb ≠ rb ∧ B ≤ rb ∧ rb < w.heap.size
/-- The blocks of the search. -/
def SX (sb : Nat) (v1 v2 : Value) : Nat → Prop := fun k => k = sb ∨ wblk v1 = some k ∨ wblk v2 = some k
theorem SS.below {B sb pb rb rc m : Nat} {width : Int} {s : Stg} {w w' : World} {bound near : Int} {v1 v2 : Value} {L1 L2 : List (Nat × Int)} (h : SS B sb pb rb rc m width s w bound near v1 v2 L1 L2) (hb : Below w.heap.size w w') : SS B sb pb rb rc m width s w' bound near v1 v2 L1 L2 := by
  have hz := hb.size
  refine ⟨?_, h.w1.below hb, h.w2.below hb, fun g hg => ?_, fun g hg => ?_, ?_⟩
  · have := h.sr; unfold SrAt at this ⊢; rw [hb.block sb h.hs.2.1]; exact this
  · obtain ⟨a1, a2, a3⟩ := h.b1 g hg; exact ⟨a1, by omega, a3⟩
  · obtain ⟨a1, a2, a3⟩ := h.b2 g hg; exact ⟨a1, by omega, a3⟩
  · obtain ⟨a1, a2, a3, a4, a5⟩ := h.hs; exact ⟨a1, by omega, a3, a4, by omega⟩
/-- Other blocks may change. -/
theorem SS.oth {B sb pb rb rc m : Nat} {width : Int} {s : Stg} {w w' : World} {bound near : Int} {v1 v2 : Value} {L1 L2 : List (Nat × Int)} {X : Nat → Prop} (h : SS B sb pb rb rc m width s w bound near v1 v2 L1 L2) (hb : Oth X w w') (hX : ∀ k, X k → ¬ SX sb v1 v2 k) : SS B sb pb rb rc m width s w' bound near v1 v2 L1 L2 := by
  have hz := hb.size
  have hk : ∀ k, k < w.heap.size → SX sb v1 v2 k → w'.heap[k]? = w.heap[k]? := fun k hk hs => hb.block k hk (fun hx => hX k hx hs)
  refine ⟨?_, h.w1.keep (fun g hg hl => hk g hl (.inr (.inl hg))), h.w2.keep (fun g hg hl => hk g hl (.inr (.inr hg))), fun g hg => ?_, fun g hg => ?_, ?_⟩
  · have := h.sr; unfold SrAt at this ⊢; rw [hk sb h.hs.2.1 (.inl rfl)]; exact this
  · obtain ⟨a1, a2, a3⟩ := h.b1 g hg; exact ⟨a1, by omega, a3⟩
  · obtain ⟨a1, a2, a3⟩ := h.b2 g hg; exact ⟨a1, by omega, a3⟩
  · obtain ⟨a1, a2, a3, a4, a5⟩ := h.hs; exact ⟨a1, by omega, a3, a4, by omega⟩
theorem SS.c {B sb pb rb rc m : Nat} {width : Int} {s : Stg} {w : World} {bound near : Int} {v1 v2 : Value} {L1 L2 : List (Nat × Int)} (h : SS B sb pb rb rc m width s w bound near v1 v2 L1 L2) :
    (w.cell? ⟨sb, 0, none⟩ = some (.pointer (some ⟨pb, 0, none⟩)) ∧ w.cell? ⟨sb, 1, none⟩ = some (.int .i64 width) ∧ w.cell? ⟨sb, 2, none⟩ = some (.int .i64 s.t) ∧ w.cell? ⟨sb, 9, none⟩ = some (.slice (some ⟨rb, 0, none⟩) m rc) ∧ w.cell? ⟨sb, 10, none⟩ = some (.int .i64 bound) ∧ w.cell? ⟨sb, 11, none⟩ = some (.int .i64 near) ∧ w.cell? ⟨sb, 12, none⟩ = some v1 ∧ w.cell? ⟨sb, 13, none⟩ = some v2) ∧ w.frozen? ⟨sb, 10, none⟩ = false ∧ w.frozen? ⟨sb, 11, none⟩ = false :=
  ⟨⟨row_cell h.sr 0 _ rfl, row_cell h.sr 1 _ rfl, row_cell h.sr 2 _ rfl, row_cell h.sr 9 _ rfl, row_cell h.sr 10 _ rfl, row_cell h.sr 11 _ rfl, row_cell h.sr 12 _ rfl, row_cell h.sr 13 _ rfl⟩, row_free h.sr 10, row_free h.sr 11⟩
/-- The bounds are set. -/
theorem SS.set {B sb pb rb rc m : Nat} {width : Int} {s : Stg} {w : World} {bound near b' n' : Int} {v1 v2 : Value} {L1 L2 : List (Nat × Int)} (h : SS B sb pb rb rc m width s w bound near v1 v2 L1 L2) (w' : World) (hw : w'.heap[sb]? = some (.cells (srA pb width s (.slice (some ⟨rb, 0, none⟩) m rc) b' n' v1 v2) 70 (0, 0))) (hO : Oth (fun k => k = sb) w w') : SS B sb pb rb rc m width s w' b' n' v1 v2 L1 L2 := by
  have hz := hO.size
  refine ⟨hw, h.w1.keep (fun g hg hl => hO.block g hl (h.b1 g hg).2.2.1), h.w2.keep (fun g hg hl => hO.block g hl (h.b2 g hg).2.2.1), fun g hg => ?_, fun g hg => ?_, ?_⟩
  · obtain ⟨a1, a2, a3⟩ := h.b1 g hg; exact ⟨a1, by omega, a3⟩
  · obtain ⟨a1, a2, a3⟩ := h.b2 g hg; exact ⟨a1, by omega, a3⟩
  · obtain ⟨a1, a2, a3, a4, a5⟩ := h.hs; exact ⟨a1, by omega, a3, a4, by omega⟩
section
variable {S : Nat → Prop} {w : World} {B sb pb rb rc n : Nat} {I : Nat → Itm} {width : Int} {s : Stg} {bound near : Int} {v1 v2 : Value} {L1 L2 : List (Nat × Int)}
/-- A window's line comes in: the first window. -/
theorem add1_any (h : SS B sb pb rb rc (nbk I n) width s w bound near v1 v2 L1 L2) (hl : L1.length ≤ 262144) (x : Nat × Int) :
    Calls Tryz.prog 65 #[.pointer (some ⟨sb, 12, none⟩), lnV x.1 wF x.2] w fun e w' => e = .returned (.tuple #[]) ∧ ∃ v', SS B sb pb rb rc (nbk I n) width s w' bound near v' v2 (L1.take (pk L1 x.2 L1.length) ++ [x]) L2 ∧ (∀ k, k < w.heap.size → SX sb v' v2 k → SX sb v1 v2 k) ∧ Oth (SX sb v1 v2) w w' := by
  refine (wadd_any (off := 12) (v := v1) h.sr rfl h.w1 (by have := h.hs; omega) hl (fun e => (h.b1 sb e).2.2.1 rfl) x).mono ?_
  rintro e w' ⟨rfl, v', he, hw, hb, hO⟩
  have hz := hO.size
  have hO2 : Oth (SX sb v1 v2) w w' := hO.mono (fun k _ hk => by rcases hk with hk | hk; exact .inl hk; exact .inr (.inl hk))
  refine ⟨rfl, v', ⟨he, hw, h.w2.keep (fun g hg hl => hO.block g hl (fun hx => by
    rcases hx with hx | hx
    · exact (h.b2 g hg).2.2.1 hx
    · exact (h.b1 g hx).2.2.2.2 hg)), fun g hg => ?_, fun g hg => ?_, ?_⟩, fun k hk hx => ?_, hO2⟩
  · rcases hb with hb | ⟨g1, hb, hlt⟩
    · obtain ⟨a1, a2, a3⟩ := h.b1 g (by rw [← hb]; exact hg); exact ⟨a1, by omega, a3⟩
    · rw [hb] at hg
      injection hg with hg
      subst hg
      have hs := h.hs
      refine ⟨by omega, ?_, by omega, by omega, fun e => by have := (h.b2 g1 e).2.1; omega⟩
      rcases hw with ⟨e1, e2⟩ | ⟨g2, o, cap, e1, -, hc, -, h4, -⟩
      · rw [e1] at hb; simp [wblk] at hb
      · rw [e1] at hb
        simp [wblk] at hb
        subst hb
        simp at hc
        obtain ⟨u, hu⟩ := Option.isSome_iff_exists.1 (h4 0 (by omega)).1
        exact World.block_lt_of_cell? w' _ hu
  · obtain ⟨a1, a2, a3⟩ := h.b2 g hg; exact ⟨a1, by omega, a3⟩
  · obtain ⟨a1, a2, a3, a4, a5⟩ := h.hs; exact ⟨a1, by omega, a3, a4, by omega⟩
  · rcases hx with hx | hx | hx
    · exact .inl hx
    · rcases hb with hb | ⟨g1, hb, hlt⟩
      · exact .inr (.inl (by rw [← hb]; exact hx))
      · rw [hb] at hx; injection hx with hx; omega
    · exact .inr (.inr hx)
/-- The second window. -/
theorem add2_any (h : SS B sb pb rb rc (nbk I n) width s w bound near v1 v2 L1 L2) (hl : L2.length ≤ 262144) (x : Nat × Int) :
    Calls Tryz.prog 65 #[.pointer (some ⟨sb, 13, none⟩), lnV x.1 wF x.2] w fun e w' => e = .returned (.tuple #[]) ∧ ∃ v', SS B sb pb rb rc (nbk I n) width s w' bound near v1 v' L1 (L2.take (pk L2 x.2 L2.length) ++ [x]) ∧ (∀ k, k < w.heap.size → SX sb v1 v' k → SX sb v1 v2 k) ∧ Oth (SX sb v1 v2) w w' := by
  refine (wadd_any (off := 13) (v := v2) h.sr rfl h.w2 (by have := h.hs; omega) hl (fun e => (h.b2 sb e).2.2.1 rfl) x).mono ?_
  rintro e w' ⟨rfl, v', he, hw, hb, hO⟩
  have hz := hO.size
  have hO2 : Oth (SX sb v1 v2) w w' := hO.mono (fun k _ hk => by rcases hk with hk | hk; exact .inl hk; exact .inr (.inr hk))
  refine ⟨rfl, v', ⟨he, h.w1.keep (fun g hg hl => hO.block g hl (fun hx => by
    rcases hx with hx | hx
    · exact (h.b1 g hg).2.2.1 hx
    · exact (h.b1 g hg).2.2.2.2 hx)), hw, fun g hg => ?_, fun g hg => ?_, ?_⟩, fun k hk hx => ?_, hO2⟩
  · obtain ⟨a1, a2, a3, a4, a5⟩ := h.b1 g hg
    refine ⟨a1, by omega, a3, a4, fun e => ?_⟩
    rcases hb with hb | ⟨g1, hb, hlt⟩
    · exact a5 (by rw [← hb]; exact e)
    · rw [hb] at e; injection e with e; omega
  · rcases hb with hb | ⟨g1, hb, hlt⟩
    · obtain ⟨a1, a2, a3⟩ := h.b2 g (by rw [← hb]; exact hg); exact ⟨a1, by omega, a3⟩
    · rw [hb] at hg
      injection hg with hg
      subst hg
      have hs := h.hs
      refine ⟨by omega, ?_, by omega, by omega⟩
      rcases hw with ⟨e1, e2⟩ | ⟨g2, o, cap, e1, -, hc, -, h4, -⟩
      · rw [e1] at hb; simp [wblk] at hb
      · rw [e1] at hb
        simp [wblk] at hb
        subst hb
        simp at hc
        obtain ⟨u, hu⟩ := Option.isSome_iff_exists.1 (h4 0 (by omega)).1
        exact World.block_lt_of_cell? w' _ hu
  · obtain ⟨a1, a2, a3, a4, a5⟩ := h.hs; exact ⟨a1, by omega, a3, a4, by omega⟩
  · rcases hx with hx | hx | hx
    · exact .inl hx
    · exact .inr (.inl hx)
    · rcases hb with hb | ⟨g1, hb, hlt⟩
      · exact .inr (.inr (by rw [← hb]; exact hx))
      · rw [hb] at hx; injection hx with hx; omega
/-- Lines go out of the first window. -/
theorem leave1_any (h : SS B sb pb rb rc (nbk I n) width s w bound near v1 v2 L1 L2) (hl : L1.length ≤ 262144) (en : Int) :
    Calls Tryz.prog 56 #[.pointer (some ⟨sb, 12, none⟩), .int .i64 en] w fun e w' => e = .returned (.tuple #[]) ∧ ∃ v', SS B sb pb rb rc (nbk I n) width s w' bound near v' v2 (L1.dropWhile (fun x => decide (en ≤ (x.1 : Int)))) L2 ∧ (∀ k, SX sb v' v2 k → SX sb v1 v2 k) ∧ Oth (SX sb v1 v2) w w' := by
  refine (leave_any (off := 12) (v := v1) h.sr rfl h.w1 hl (fun e => (h.b1 sb e).2.2.1 rfl) en).mono ?_
  rintro e w' ⟨rfl, v', he, hw, hb, hO⟩
  have hz := hO.size
  refine ⟨rfl, v', ⟨he, hw, h.w2.keep (fun g hg hl => hO.block g hl (fun hx => (h.b2 g hg).2.2.1 hx)), fun g hg => ?_, fun g hg => ?_, ?_⟩, fun k hx => ?_, hO.mono (fun k _ hk => .inl hk)⟩
  · rw [hb] at hg
    obtain ⟨a1, a2, a3⟩ := h.b1 g hg; exact ⟨a1, by omega, a3⟩
  · obtain ⟨a1, a2, a3⟩ := h.b2 g hg; exact ⟨a1, by omega, a3⟩
  · obtain ⟨a1, a2, a3, a4, a5⟩ := h.hs; exact ⟨a1, by omega, a3, a4, by omega⟩
  · unfold SX at hx ⊢; rw [hb] at hx; exact hx
theorem leave2_any (h : SS B sb pb rb rc (nbk I n) width s w bound near v1 v2 L1 L2) (hl : L2.length ≤ 262144) (en : Int) :
    Calls Tryz.prog 56 #[.pointer (some ⟨sb, 13, none⟩), .int .i64 en] w fun e w' => e = .returned (.tuple #[]) ∧ ∃ v', SS B sb pb rb rc (nbk I n) width s w' bound near v1 v' L1 (L2.dropWhile (fun x => decide (en ≤ (x.1 : Int)))) ∧ (∀ k, SX sb v1 v' k → SX sb v1 v2 k) ∧ Oth (SX sb v1 v2) w w' := by
  refine (leave_any (off := 13) (v := v2) h.sr rfl h.w2 hl (fun e => (h.b2 sb e).2.2.1 rfl) en).mono ?_
  rintro e w' ⟨rfl, v', he, hw, hb, hO⟩
  have hz := hO.size
  refine ⟨rfl, v', ⟨he, h.w1.keep (fun g hg hl => hO.block g hl (fun hx => (h.b1 g hg).2.2.1 hx)), hw, fun g hg => ?_, fun g hg => ?_, ?_⟩, fun k hx => ?_, hO.mono (fun k _ hk => .inl hk)⟩
  · obtain ⟨a1, a2, a3, a4, a5⟩ := h.b1 g hg; exact ⟨a1, by omega, a3, a4, by rw [hb]; exact a5⟩
  · rw [hb] at hg
    obtain ⟨a1, a2, a3⟩ := h.b2 g hg; exact ⟨a1, by omega, a3⟩
  · obtain ⟨a1, a2, a3, a4, a5⟩ := h.hs; exact ⟨a1, by omega, a3, a4, by omega⟩
  · unfold SX at hx ⊢; rw [hb] at hx; exact hx
/-- What a hopeless line costs with all behind it. -/
def uC (I : Nat → Itm) (n : Nat) (s : Stg) (fl : Bool) (e : Nat) (r : Int) : Int := tt (cst s wF (itb I n e) (-1) fl (decide (e + 1 = nbk I n))) r
end
end Go.Proofs.YtkmeeblkckfepabGreat
