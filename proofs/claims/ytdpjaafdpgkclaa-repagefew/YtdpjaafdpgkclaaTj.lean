/-
  A book as it lies in memory, and what its reading methods answer.
-/
import Derived.Test.YtdpjaafdpgkclaaTg
import Derived.Test.YtdpjaafdpgkclaaTi
import Derived.Deep.RegionWith
namespace Go.Proofs.Ytdpjaafdpgkclaa
open Go.RowKit
set_option linter.unusedSimpArgs false
set_option linter.unusedVariables false

/-- The cells of a book. -/
def bcs (ao : Option Addr) (n cap : Nat) (so : Option Addr) (J sc : Nat) (H : Int) (g : Stg) : Array Value := #[.slice ao n cap, .slice so J sc, .int .i64 H, .int .i64 g.t, .int .i64 g.l, .int .i64 g.a, .int .i64 g.d, .int .i64 g.z, .int .i64 g.o, .int .i64 g.i]
/-- A book: the lines D in a row of its own, where the J pages begin in another, its height and its settings g, all in blocks from B on. -/
structure BkC (w : World) (B p : Nat) (ao : Option Addr) (cap : Nat) (so : Option Addr) (sc : Nat) (D : Dc) (g : Stg) (J : Nat) : Prop where
  row : w.heap[p]? = some (.cells (bcs ao D.n cap so J sc D.H g) 66 (0, 0))
  own : w.ownsRow B 69 4 (.slice ao D.n cap) D.n (scs D.F D.n)
  npl : ∀ b, (Value.slice ao D.n cap).ownBlock = some b → b ≠ p
  st : w.ownsRow B 3 1 (.slice so J sc) J (ncs (D.its J))
  nps : ∀ b, (Value.slice so J sc).ownBlock = some b → b ≠ p ∧ (Value.slice ao D.n cap).ownBlock ≠ some b
  Bp : B ≤ p
  pgs : D.Pgs J
  dc : DcOk D g
  ck : ckE D.H g = 0
  rts : Rts D.F D.n 0
theorem own_kept {w w' : World} {B e size n : Nat} {v : Value} {xs : List Value} (h : w.ownsRow B e size v n xs) (hk : ∀ b, v.ownBlock = some b → w'.heap[b]? = w.heap[b]?) : w'.ownsRow B e size v n xs := by
  refine ⟨h.1, ?_⟩
  rcases h.2 with h | ⟨g, cap, cur, e1, e2, e3, e4⟩
  · exact .inl h
  · exact .inr ⟨g, cap, cur, e1, e2, by rw [hk g (by rw [e1]; rfl)]; exact e3, e4⟩
section
variable {w w' : World} {B p : Nat} {ao : Option Addr} {cap : Nat} {so : Option Addr} {sc : Nat} {D : Dc} {g : Stg} {J : Nat}
theorem BkC.keep (h : BkC w B p ao cap so sc D g J) (hk : ∀ b, (b = p ∨ (Value.slice ao D.n cap).ownBlock = some b ∨ (Value.slice so J sc).ownBlock = some b) → w'.heap[b]? = w.heap[b]?) : BkC w' B p ao cap so sc D g J :=
  ⟨by rw [hk p (.inl rfl)]; exact h.row, own_kept h.own (fun b e => hk b (.inr (.inl e))), h.npl, own_kept h.st (fun b e => hk b (.inr (.inr e))), h.nps, h.Bp, h.pgs, h.dc, h.ck, h.rts⟩
theorem BkC.lt (h : BkC w B p ao cap so sc D g J) : ∀ b, (b = p ∨ (Value.slice ao D.n cap).ownBlock = some b ∨ (Value.slice so J sc).ownBlock = some b) → B ≤ b ∧ b < w.heap.size := by
  rintro b (rfl | e | e)
  · exact ⟨h.Bp, heap_lt h.row⟩
  · exact h.own.lt b e
  · exact h.st.lt b e
theorem BkC.below (h : BkC w B p ao cap so sc D g J) (hb : Below w.heap.size w w') : BkC w' B p ao cap so sc D g J := h.keep (fun b hb' => hb.block b (h.lt b hb').2)
theorem BkC.i64 (h : BkC w B p ao cap so sc D g J) : ∀ i, i < D.n → I64 (D.F i).h ∧ I64 (D.F i).i ∧ I64 (D.F i).c := by
  intro i hi
  have h1 := h.dc.ok i hi
  have h2 := h.dc.n
  unfold SltOk at h1
  unfold I64
  omega
theorem BkC.slts (h : BkC w B p ao cap so sc D g J) : SltsAt (fun b => (B ≤ b ∧ b ≠ p) ∧ some b = (Value.slice ao D.n cap).ownBlock) w ao D.n D.F :=
  (own_slts h.own h.i64).keep (fun b i u hs hc => ⟨⟨⟨hs.1, h.npl b hs.2.symm⟩, hs.2⟩, hc⟩)
theorem BkC.room (h : BkC w B p ao cap so sc D g J) : D.n ≤ cap := own_room h.own
theorem BkC.ns (h : BkC w B p ao cap so sc D g J) : NAt (fun b => B ≤ b ∧ (Value.slice so J sc).ownBlock = some b) w so (D.its J) := by
  intro i hi
  obtain ⟨b, rfl, hb, hc⟩ := own_nat h.st (D.its_len J) i hi
  exact ⟨b, rfl, ⟨hb, rfl⟩, hc⟩
theorem BkC.jle (h : BkC w B p ao cap so sc D g J) : J ≤ D.n := by
  have := D.it_ge J (h.pgs.1)
  have := D.it_le J
  omega
theorem its_rise (D : Dc) (J : Nat) : ∀ j k, j ≤ k → k < (D.its J).length → (D.its J).getD j 0 ≤ (D.its J).getD k 0 := by
  intro j k h1 h2
  rw [D.its_len] at h2
  rw [D.its_get J j (by omega), D.its_get J k h2]
  exact D.it_mono h1
/-- The cells of a book, one by one. -/
theorem BkC.cells (h : BkC w B p ao cap so sc D g J) : (w.cell? ⟨p, 0, none⟩ = some (.slice ao D.n cap) ∧ w.cell? ⟨p, 1, none⟩ = some (.slice so J sc) ∧ w.cell? ⟨p, 2, none⟩ = some (.int .i64 D.H)) ∧ w.cell? ⟨p, 3, none⟩ = some (.int .i64 g.t) ∧ w.cell? ⟨p, 4, none⟩ = some (.int .i64 g.l) ∧ w.cell? ⟨p, 5, none⟩ = some (.int .i64 g.a) ∧ w.cell? ⟨p, 6, none⟩ = some (.int .i64 g.d) ∧ w.cell? ⟨p, 7, none⟩ = some (.int .i64 g.z) ∧ w.cell? ⟨p, 8, none⟩ = some (.int .i64 g.o) ∧ w.cell? ⟨p, 9, none⟩ = some (.int .i64 g.i) := by
  have hc := fun i => cell_of_row w p i _ _ _ h.row
  exact ⟨⟨hc 0, hc 1, hc 2⟩, hc 3, hc 4, hc 5, hc 6, hc 7, hc 8, hc 9⟩
end
set_option maxRecDepth 100000 in
theorem lines_any {w : World} {B p : Nat} {ao : Option Addr} {cap : Nat} {so : Option Addr} {sc : Nat} {D : Dc} {g : Stg} {J : Nat} (h : BkC w B p ao cap so sc D g J) :
    Calls Try.prog 16 #[.pointer (some ⟨p, 0, none⟩)] w fun e w' => e = .returned (.int .i64 (D.n : Nat)) ∧ w' = w := by
  obtain ⟨⟨c0, -, -⟩, -⟩ := h.cells
  go_enter Try.func16, Try.ntmps16
  go_wp2
  go_ret
  exact ⟨rfl, rfl⟩
set_option maxRecDepth 100000 in
theorem height_any {w : World} {B p : Nat} {ao : Option Addr} {cap : Nat} {so : Option Addr} {sc : Nat} {D : Dc} {g : Stg} {J : Nat} (h : BkC w B p ao cap so sc D g J) :
    Calls Try.prog 17 #[.pointer (some ⟨p, 0, none⟩)] w fun e w' => e = .returned (.int .i64 D.H) ∧ w' = w := by
  obtain ⟨⟨-, -, c0⟩, -⟩ := h.cells
  go_enter Try.func17, Try.ntmps17
  go_wp2
  go_ret
  exact ⟨rfl, rfl⟩
set_option maxRecDepth 100000 in
theorem slots_any {w : World} {B p : Nat} {ao : Option Addr} {cap : Nat} {so : Option Addr} {sc : Nat} {D : Dc} {g : Stg} {J : Nat} (h : BkC w B p ao cap so sc D g J) :
    Calls Try.prog 15 #[.pointer (some ⟨p, 0, none⟩)] w fun e w' => ∃ ao' c', e = .returned (.slice ao' D.n c') ∧ w'.ownsRow w.heap.size 69 4 (.slice ao' D.n c') D.n (scs D.F D.n) ∧ Below w.heap.size w w' := by
  obtain ⟨⟨c0, -, -⟩, -⟩ := h.cells
  have HC := boxed (cloneS_any _ ao D.n cap D.F w h.slts (by have := h.dc.n; omega))
  clear h
  generalize D.n = n at *
  go_enter Try.func15, Try.ntmps15
  go_wp2_with fail
  refine HC.out.mono ?_
  rintro e w1 ⟨ao', c', rfl, h1, h2⟩
  have H1 := boxed h1
  have H2 := boxed h2
  clear h1 h2 c0
  go_wp2_with fail
  go_ret
  exact ⟨ao', c', rfl, H1.out, H2.out⟩
set_option maxRecDepth 100000 in
theorem starts_any {w : World} {B p : Nat} {ao : Option Addr} {cap : Nat} {so : Option Addr} {sc : Nat} {D : Dc} {g : Stg} {J : Nat} (h : BkC w B p ao cap so sc D g J) :
    Calls Try.prog 12 #[.pointer (some ⟨p, 0, none⟩)] w fun e w' => ∃ ao' c', e = .returned (.slice ao' J c') ∧ w'.ownsRow w.heap.size 3 1 (.slice ao' J c') J (ncs (D.its J)) ∧ Below w.heap.size w w' := by
  obtain ⟨⟨-, c0, -⟩, -⟩ := h.cells
  have HC := boxed (cloneN_any _ so J sc (D.its J) (D.its_len J) w h.ns.ns (by have := h.dc.n; have := h.jle; omega))
  clear h
  go_enter Try.func12, Try.ntmps12
  go_wp2_with fail
  refine HC.out.mono ?_
  rintro e w1 ⟨ao', c', rfl, h1, h2⟩
  have H1 := boxed h1
  have H2 := boxed h2
  clear h1 h2 c0
  go_wp2_with fail
  go_ret
  exact ⟨ao', c', rfl, H1.out, H2.out⟩
/-- Does a paragraph begin with a line, or do the lines end ahead of it? -/
def sm (D : Dc) (k : Nat) : Bool := decide (k = D.n ∨ (D.F k).i = 0)
set_option maxRecDepth 100000 in
theorem seam_any {w : World} {B p : Nat} {ao : Option Addr} {cap : Nat} {so : Option Addr} {sc : Nat} {D : Dc} {g : Stg} {J : Nat} (h : BkC w B p ao cap so sc D g J) (k : Nat) (hk : k ≤ D.n) :
    Calls Try.prog 49 #[.pointer (some ⟨p, 0, none⟩), .int .i64 (k : Nat)] w fun e w' => e = .returned (.bool (sm D k)) ∧ w' = w := by
  obtain ⟨⟨c0, -, -⟩, -⟩ := h.cells
  have hun : undef = Value.tuple #[] := rfl
  by_cases hl : k = D.n
  · have e : sm D k = true := decide_eq_true (.inl hl)
    rw [e]
    clear h e
    subst hl
    generalize D.n = n at *
    go_enter Try.func49, Try.ntmps49
    go_wp2
    go_ret
    exact ⟨rfl, rfl⟩
  · obtain ⟨b, off, rfl, -, -⟩ := h.slts.form (by omega)
    obtain ⟨-, c1, -⟩ := h.slts.get k (by omega)
    have e : sm D k = decide ((D.F k).i = 0) := by
      unfold sm
      simp [hl]
    rw [e]
    have t1 : ((k : Int) == (D.n : Int)) = false := by simp; omega
    have hlt : (k : Int) < (D.n : Int) := by omega
    clear h e
    generalize (D.F k).i = x at *
    generalize D.n = n at *
    go_enter Try.func49, Try.ntmps49
    go_wp2
    go_ret
    exact ⟨rfl, rfl⟩
end Go.Proofs.Ytdpjaafdpgkclaa
