/-
  For the law on Same: a table or none; what stays while the law writes into its own copies; and what awakeNil answers.
-/
import Derived.Test.YtjfcpbnipkkjbaaMv
namespace Go.Proofs.Ytjfcpbnipkkjbaa
open Go.RowKit
set_option linter.unusedSimpArgs false
set_option linter.unusedVariables false

/-- A table of styles that are right; none of others. -/
def TabOr (B : Nat) (w : World) (p : Option Addr) (F : Nat → Sty) (n : Nat) : Prop :=
  (ckc F n ≠ 0 ∧ p = none) ∨ (ckc F n = 0 ∧ ∃ tb G, p = some ⟨tb, 0, none⟩ ∧ TabAt B w tb n G ∧ ∀ i, i < n → Like (F i) (G i))
theorem TabOr.keep {B : Nat} {w w' : World} {p : Option Addr} {F : Nat → Sty} {n : Nat} (h : TabOr B w p F n) (k : Kp (fun b => B ≤ b) (fun b => B ≤ b) w w') : TabOr B w' p F n := by
  rcases h with h | ⟨h1, tb, G, h2, h3, h4⟩
  · exact Or.inl h
  · exact Or.inr ⟨h1, tb, G, h2, h3.keep k, h4⟩
theorem TabOr.mono {B C : Nat} {w : World} {p : Option Addr} {F : Nat → Sty} {n : Nat} (h : TabOr B w p F n) (hC : C ≤ B) : TabOr C w p F n := by
  rcases h with h | ⟨h1, tb, G, h2, h3, h4⟩
  · exact Or.inl h
  · exact Or.inr ⟨h1, tb, G, h2, h3.mono hC, h4⟩
theorem table_or (S : Nat → Prop) (ao : Option Addr) (n cap : Nat) (F : Nat → Sty) (w : World) (hF : StysAt S w ao n F) :
    Calls Try.prog 13 #[.slice ao n cap] w fun e w' => ∃ p, e = .returned (.pointer p) ∧ TabOr w.heap.size w' p F n ∧ Below w.heap.size w w' := by
  refine (table_any S ao n cap F w hF).mono ?_
  rintro e w' ⟨hor, hb⟩
  rcases hor with ⟨h1, rfl⟩ | ⟨h1, tb, G, rfl, h2, h3⟩
  · exact ⟨none, rfl, Or.inl ⟨h1, rfl⟩, hb⟩
  · exact ⟨_, rfl, Or.inr ⟨h1, tb, G, rfl, h2, h3⟩, hb⟩

set_option maxRecDepth 100000 in
theorem awakeNil_any (p : Option Addr) (w : World) (hp : p = none ∨ ∃ tb, p = some ⟨tb, 0, none⟩) : Calls Try.prog 30 #[.pointer p] w fun e w' => e = .returned (.bool false) ∧ Below w.heap.size w w' := by
  rcases hp with rfl | ⟨tb, rfl⟩
  · have hs := same_none w
    go_enter Try.func30, Try.ntmps30
    go_wp2_with (go_at_call 31; refine hs.mono ?_; rintro e w1 ⟨rfl, hb1⟩; have HB := boxed hb1; clear hb1)
    go_ret
    exact ⟨rfl, HB.out⟩
  · have hs := same_left w tb
    go_enter Try.func30, Try.ntmps30
    go_wp2_with (go_at_call 31; refine hs.mono ?_; rintro e w1 ⟨rfl, hb1⟩; have HB := boxed hb1; clear hb1)
    go_ret
    exact ⟨rfl, HB.out⟩

/-- What stays while the law writes into its own copies. -/
structure Inv (w : World) (A : Nat) (wT : World) (g n : Nat) (H : Nat → Sty) (wr : World) : Prop where
  hi : ∀ b j u, A ≤ b → wT.cell? ⟨b, j, none⟩ = some u → wr.cell? ⟨b, j, none⟩ = some u
  bel : Below w.heap.size w wr
  c6 : ∀ i, i < n → wr.cell? ⟨g, i * 8 + 6, none⟩ = some (.slice (H i).ra (H i).rn (H i).rc)
  c0 : ∀ i, i < n → (∃ v, wr.cell? ⟨g, i * 8, none⟩ = some v) ∧ wr.frozen? ⟨g, i * 8, none⟩ = false
  rg : ∀ i, i < n → ∀ b off, (H i).ra = some ⟨b, off, none⟩ → ∀ j, j < (H i).rn → ((w.heap.size ≤ b ∧ b < A) ∧ b ≠ g) ∧ (∃ v, wr.cell? ⟨b, off + j * 3 + 2, none⟩ = some v) ∧ wr.frozen? ⟨b, off + j * 3 + 2, none⟩ = false
theorem Inv.put0 {w : World} {A : Nat} {wT : World} {g n : Nat} {H : Nat → Sty} {wr : World} (h : Inv w A wT g n H wr) (i : Nat) (hg : w.heap.size ≤ g ∧ g < A) (v : Value) : Inv w A wT g n H (wr.setCell ⟨g, i * 8, none⟩ v) := by
  refine ⟨?_, h.bel.setCell hg.1 _, ?_, ?_, ?_⟩
  · intro b j u hb hc
    rw [World.cell?_setCell_far _ _ _ _ (by show g ≠ b; omega)]
    exact h.hi b j u hb hc
  · intro k hk
    rw [World.cell?_setCell_other]
    · exact h.c6 k hk
    · intro e
      have : i * 8 = k * 8 + 6 := congrArg Addr.off e
      omega
  · intro k hk
    obtain ⟨⟨u, hu⟩, hf⟩ := h.c0 k hk
    exact ⟨cell?_setCell_some hu, by rw [World.frozen?_setCell]; exact hf⟩
  · intro k hk b off e j hj
    obtain ⟨h1, ⟨u, hu⟩, hf⟩ := h.rg k hk b off e j hj
    exact ⟨h1, cell?_setCell_some hu, by rw [World.frozen?_setCell]; exact hf⟩
theorem Inv.putR {w : World} {A : Nat} {wT : World} {g n : Nat} {H : Nat → Sty} {wr : World} (h : Inv w A wT g n H wr) (b0 o0 : Nat) (hb0 : (w.heap.size ≤ b0 ∧ b0 < A) ∧ b0 ≠ g) (v : Value) : Inv w A wT g n H (wr.setCell ⟨b0, o0, none⟩ v) := by
  refine ⟨?_, h.bel.setCell hb0.1.1 _, ?_, ?_, ?_⟩
  · intro b j u hb hc
    rw [World.cell?_setCell_far _ _ _ _ (by show b0 ≠ b; omega)]
    exact h.hi b j u hb hc
  · intro k hk
    rw [World.cell?_setCell_far _ _ _ _ (by show b0 ≠ g; exact hb0.2)]
    exact h.c6 k hk
  · intro k hk
    obtain ⟨⟨u, hu⟩, hf⟩ := h.c0 k hk
    exact ⟨cell?_setCell_some hu, by rw [World.frozen?_setCell]; exact hf⟩
  · intro k hk b off e j hj
    obtain ⟨h1, ⟨u, hu⟩, hf⟩ := h.rg k hk b off e j hj
    exact ⟨h1, cell?_setCell_some hu, by rw [World.frozen?_setCell]; exact hf⟩
theorem Inv.start {F : Nat → Sty} {w w1 wr wT : World} {g n : Nat} {H : Nat → Sty} (hc : Cop F w1.heap.size wr (some g) n H) (hs : StysAt (fun _ => True) wr (some ⟨g, 0, none⟩) n H) (hf : ∀ j, wr.frozen? ⟨g, j, none⟩ = false) (hg : g < wr.heap.size)
    (hw : w.heap.size ≤ w1.heap.size) (hb : Below wr.heap.size wr wT) (hbw : Below w.heap.size w wT) : Inv w wr.heap.size wT g n H wT := by
  refine ⟨fun b j u _ hu => hu, hbw, ?_, ?_, ?_⟩
  · intro i hi
    obtain ⟨-, -, b, off, e, -, c0, c1, c2, c3, c4, c5, c6, c7⟩ := hs i hi
    have e1 : g = b := congrArg Addr.block (Option.some.inj e)
    have e2 : 0 = off := congrArg Addr.off (Option.some.inj e)
    subst e1; subst e2
    rw [Nat.zero_add] at c6
    exact hold hb c6
  · intro i hi
    obtain ⟨-, -, b, off, e, -, c0, c1, c2, c3, c4, c5, c6, c7⟩ := hs i hi
    have e1 : g = b := congrArg Addr.block (Option.some.inj e)
    have e2 : 0 = off := congrArg Addr.off (Option.some.inj e)
    subst e1; subst e2
    rw [Nat.zero_add] at c0
    exact ⟨⟨_, hold hb c0⟩, by rw [hb.frozen (p := ⟨g, i * 8, none⟩) hg]; exact hf _⟩
  · intro i hi b off e j hj
    obtain ⟨-, -, h3, h4⟩ := hc i hi
    obtain ⟨-, b', off', e', hs', -, -, c2⟩ := h3 j hj
    rw [e] at e'
    have e1 : b = b' := congrArg Addr.block (Option.some.inj e')
    have e2 : off = off' := congrArg Addr.off (Option.some.inj e')
    subst e1; subst e2
    have hbl : b < wr.heap.size := World.block_lt_of_cell? wr _ c2
    refine ⟨⟨⟨by omega, hbl⟩, fun c => hs'.2 (by rw [c])⟩, ⟨_, hold hb c2⟩, ?_⟩
    rw [hb.frozen (p := ⟨b, off + j * 3 + 2, none⟩) hbl]
    exact h4 b off e (by omega) _
theorem Inv.tab {w : World} {A : Nat} {wT : World} {g n : Nat} {H : Nat → Sty} {wr : World} (h : Inv w A wT g n H wr) : Kp (fun b => A ≤ b) (fun b => A ≤ b) wT wr := fun b i u hs hc => ⟨hs, h.hi b i u hs hc⟩

/-- The copies, whatever their number. -/
theorem own_any {F : Nat → Sty} {base : Nat} {w : World} {v : Value} {n : Nat} {H : Nat → Sty} (ho : w.ownsRow base 35 8 v n (stv H n)) (hc : Cop F base w v.ownBlock n H) (hk : ∀ i, i < n → StyOk (F i)) :
    ∃ ag cap, v = .slice ag n cap ∧ StysAt (fun _ => True) w ag n H ∧ (0 < n → ∃ g, ag = some ⟨g, 0, none⟩ ∧ base ≤ g ∧ g < w.heap.size ∧ v.ownBlock = some g ∧ ∀ j, w.frozen? ⟨g, j, none⟩ = false) := by
  by_cases h0 : 0 < n
  · obtain ⟨g, cap, e, h1, h2, h3⟩ := own_at ho hc hk h0
    refine ⟨_, cap, e, h2, fun _ => ⟨g, rfl, h1, ?_, by rw [e]; rfl, h3⟩⟩
    exact (ho.lt g (by rw [e]; rfl)).2
  · have e : n = 0 := by omega
    subst e
    rcases ho.2 with ⟨e, _⟩ | ⟨g, cap, cur, e, _⟩
    · exact ⟨none, 0, e, fun i hi => by omega, fun h => by omega⟩
    · exact ⟨_, cap, e, fun i hi => by omega, fun h => by omega⟩
end Go.Proofs.Ytjfcpbnipkkjbaa
