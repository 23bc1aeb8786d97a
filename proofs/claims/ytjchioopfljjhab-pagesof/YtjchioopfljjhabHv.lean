/-
  Pages whose runs are written to: what isn't, is as it was.
-/
import Derived.Test.YtjchioopfljjhabHu
import Derived.Test.YtjchioopfljjhabHp
namespace Go.Proofs.Ytjchioopfljjhab
open Go.RowKit
set_option linter.unusedSimpArgs false
set_option linter.unusedVariables false

/-- Of what was there, only blocks with numbers in E may have changed. -/
structure Ut (w5 w' : World) (ν : Nat → Option (Nat × Nat)) (E : Nat × Nat → Prop) : Prop where
  un : ∀ b, b < w5.heap.size → (∀ z, ν b = some z → ¬ E z) → w'.heap[b]? = w5.heap[b]?
  sz : w5.heap.size ≤ w'.heap.size
theorem Ut.refl (w : World) (ν : Nat → Option (Nat × Nat)) (E : Nat × Nat → Prop) : Ut w w ν E := ⟨fun _ _ _ => rfl, Nat.le_refl _⟩
theorem Ut.mono {w5 w' : World} {ν : Nat → Option (Nat × Nat)} {E E' : Nat × Nat → Prop} (h : Ut w5 w' ν E) (hE : ∀ z, E z → E' z) : Ut w5 w' ν E' :=
  ⟨fun b hb hz => h.un b hb (fun z e c => hz z e (hE z c)), h.sz⟩
theorem Ut.next {w5 w' w'' : World} {ν : Nat → Option (Nat × Nat)} {E : Nat × Nat → Prop} (h : Ut w5 w' ν E) (hb : Below w'.heap.size w' w'') : Ut w5 w'' ν E :=
  ⟨fun b hb1 hz => (hb.block b (by have := h.sz; omega)).trans (h.un b hb1 hz), Nat.le_trans h.sz hb.size⟩
theorem Ut.set {w5 w' : World} {ν : Nat → Option (Nat × Nat)} {E : Nat × Nat → Prop} (h : Ut w5 w' ν E) (b o : Nat) (v : Value) (hE : b < w5.heap.size → ∃ z, ν b = some z ∧ E z) : Ut w5 (w'.setCell ⟨b, o, none⟩ v) ν E :=
  ⟨fun c hc hz => by
    have hne : c ≠ b := fun e => by
      subst e
      obtain ⟨z, h1, h2⟩ := hE hc
      exact hz z h1 h2
    rw [heap_set_far _ hne]
    exact h.un c hc hz, by have := h.sz; simp; exact this⟩
theorem Ut.cell {w5 w' : World} {ν : Nat → Option (Nat × Nat)} {E : Nat × Nat → Prop} (h : Ut w5 w' ν E) {b i : Nat} {v : Value} (hν : ν b = none) (hc : w5.cell? ⟨b, i, none⟩ = some v) : w'.cell? ⟨b, i, none⟩ = some v := by
  have hlt := World.block_lt_of_cell? w5 _ hc
  rw [World.cell?_of_block (w := w5) (h.un b hlt (fun z e => by rw [hν] at e; cases e))]
  exact hc
theorem Ut.kp {w5 w' : World} {ν : Nat → Option (Nat × Nat)} {E : Nat × Nat → Prop} {G : Nat} (h : Ut w5 w' ν E) (hl : ∀ b, b ≤ G → ν b = none) : Kp (fun b => b < G) (fun b => b < G) w5 w' := fun b i u hs hc =>
  ⟨hs, h.cell (hl b (Nat.le_of_lt hs)) hc⟩
/-- A line's nine cells. -/
def Ln9 (W : World) (b o : Nat) (x : Lne) : Prop := W.cell? ⟨b, o, none⟩ = some (.string x.tx) ∧ W.cell? ⟨b, o + 1, none⟩ = some (.slice x.ra x.rn x.rc) ∧ W.cell? ⟨b, o + 2, none⟩ = some (.int .i64 x.num) ∧ W.cell? ⟨b, o + 3, none⟩ = some (.int .i64 x.den) ∧ W.cell? ⟨b, o + 4, none⟩ = some (.int .i64 x.h) ∧ W.cell? ⟨b, o + 5, none⟩ = some (.bool x.hy) ∧ W.cell? ⟨b, o + 6, none⟩ = some (.int .i64 x.y) ∧ W.cell? ⟨b, o + 7, none⟩ = some (.bool x.bg) ∧ W.cell? ⟨b, o + 8, none⟩ = some (.bool x.en)
section
variable {w5 w' : World} {G J : Nat} {F : Nat → Lne} {L : List Nat} {n : Nat} {A : Nat → Nat} {R : Nat → Nat → Option Addr} {C : Nat → Nat → Nat} {ν : Nat → Option (Nat × Nat)} {E : Nat × Nat → Prop}
theorem Bk.page (h : Bk w5 G J J F L n A R C ν) (hU : Ut w5 w' ν E) (p : Nat) (hp : p < J) : w'.cell? ⟨G, p, none⟩ = some (.slice (some ⟨A p, 0, none⟩) (pl L n p) (pl L n p)) := by
  obtain ⟨arr, e0, hs, hg⟩ := h.row
  refine hU.cell (h.lab G (Nat.le_refl _)) ?_
  rw [cell_of_row w5 G p arr _ (0, 0) e0]
  exact hg p hp
theorem Bk.line (h : Bk w5 G J J F L n A R C ν) (hU : Ut w5 w' ν E) (p k : Nat) (hp : p < J) (hk : k < pl L n p) : Ln9 w' (A p) (k * 9) (cpy (F (L.getD p 0 + k)) (R p k) (C p k) (ys (fun j => F (L.getD p 0 + j)) k)) := by
  obtain ⟨h1, h2, arr, e0, hg⟩ := h.lns p hp
  have key : ∀ j, j < 9 → w'.cell? ⟨A p, k * 9 + j, none⟩ = ((cpy (F (L.getD p 0 + k)) (R p k) (C p k) (ys (fun j => F (L.getD p 0 + j)) k)).cells)[j]? := fun j hj => by
    have hh := hg k j hk hj
    rw [← cell_of_row w5 (A p) (k * 9 + j) arr _ (0, 0) e0] at hh
    have hsome : ∃ v, ((cpy (F (L.getD p 0 + k)) (R p k) (C p k) (ys (fun j => F (L.getD p 0 + j)) k)).cells)[j]? = some v := by
      have : j < ((cpy (F (L.getD p 0 + k)) (R p k) (C p k) (ys (fun j => F (L.getD p 0 + j)) k)).cells).length := by simpa [Lne.cells] using hj
      exact ⟨_, List.getElem?_eq_getElem this⟩
    obtain ⟨v, hv⟩ := hsome
    rw [hv] at hh ⊢
    exact hU.cell h2 hh
  exact ⟨key 0 (by omega), key 1 (by omega), key 2 (by omega), key 3 (by omega), key 4 (by omega), key 5 (by omega), key 6 (by omega), key 7 (by omega), key 8 (by omega)⟩
theorem Bk.runs (h : Bk w5 G J J F L n A R C ν) (hU : Ut w5 w' ν E) (p k : Nat) (hp : p < J) (hk : k < pl L n p) (hE : ¬ E (p, k)) : RunB w' (F (L.getD p 0 + k)) (R p k) (fun b => (G < b ∧ b < w5.heap.size) ∧ ν b = some (p, k)) :=
  (h.run p k hp hk).kept (fun b hb hl => ⟨⟨⟨hb.1, hl⟩, hb.2⟩, hU.un b hl (fun z e => by rw [hb.2] at e; injection e with e; subst e; exact hE)⟩)
end
/-- Numbers as they rise. -/
theorem sg_ge (X : Nat → Int) (j : Nat) (h : ∀ k, k < j → 1 ≤ X k) : j ≤ sg X j := by
  induction j with
  | zero => exact Nat.zero_le _
  | succ j ih =>
    have h1 := ih (fun k hk => h k (by omega))
    have h2 := h j (by omega)
    show _ ≤ sg X j + (X j).toNat
    omega
theorem sgs_ends (X : Nat → Int) (J n : Nat) (hX : ∀ k, k < J → 1 ≤ X k) (hn : ∀ k, k < J → sg X k < n) : ∀ p, p < (sgs X J).length → (sgs X J).getD p 0 < endL (sgs X J) p n ∧ endL (sgs X J) p n ≤ n := by
  intro p hp
  rw [sgs_len] at hp
  rw [sgs_get X J p hp]
  unfold endL
  rw [sgs_len]
  by_cases q : p + 1 < J
  · rw [if_pos q, sgs_get X J _ q]
    have h1 := sg_lt X p (p + 1) (by omega) (fun k hk => hX k (by omega))
    have h2 := hn (p + 1) q
    omega
  · rw [if_neg q]
    have h2 := hn p hp
    omega
theorem same10_yes {w : World} (S S' : Nat → Prop) (x : Lne) (ra : Option Addr) (rc : Nat) (y : Int) (hx : P2At S w ra x.rn x.L x.Y) (hy : P2At S' w x.ra x.rn x.L x.Y) (hn : x.rn ≤ 1048576) :
    Calls Try.prog 7 #[(cpy x ra rc y).val, ({ x with y := y } : Lne).val] w fun e w' => e = .returned (.bool true) ∧ Below w.heap.size w w' := by
  refine (refsame10_any S S' (cpy x ra rc y) { x with y := y } hx hy hn).mono ?_
  rintro e w' ⟨r, rfl, hr, hb⟩
  have : r = true := hr.2 ⟨by simp [lnB, cpy], rfl, fun i _ => ⟨rfl, rfl⟩⟩
  subst this
  exact ⟨rfl, hb⟩
end Go.Proofs.Ytjchioopfljjhab
