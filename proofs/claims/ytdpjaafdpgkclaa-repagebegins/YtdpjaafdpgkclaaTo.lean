/-
  Lines in the place of others, and the pages then: what Replace does.
-/
import Derived.Test.YtdpjaafdpgkclaaTn
import Derived.OwnWalk
namespace Go.Proofs.Ytdpjaafdpgkclaa
open Go.RowKit
set_option linter.unusedSimpArgs false
set_option linter.unusedVariables false

/-- Only block p and the block lb changed, of those that there were. -/
structure Fr (w w' : World) (p : Nat) (lb : Option Nat) : Prop where
  os : w'.os = w.os
  tape : w'.tape = w.tape
  output : w'.output = w.output
  size : w.heap.size ≤ w'.heap.size
  block : ∀ k, k < w.heap.size → k ≠ p → some k ≠ lb → w'.heap[k]? = w.heap[k]?
theorem Fr.of_below {w w' : World} (p : Nat) (lb : Option Nat) (h : Below w.heap.size w w') : Fr w w' p lb := ⟨h.os, h.tape, h.output, h.size, fun k hk _ _ => h.block k hk⟩
theorem Fr.of_grown {w w' : World} (p : Nat) {lb : Option Nat} (h : w.grownBy w' lb) : Fr w w' p lb := ⟨h.os, h.tape, h.output, h.size, fun k hk _ hl => h.block k hk hl⟩
theorem Fr.of_set (w : World) (p i : Nat) (v : Value) (lb : Option Nat) : Fr w (w.setCell ⟨p, i, none⟩ v) p lb :=
  ⟨rfl, rfl, rfl, by simp, fun k _ hk _ => heap_setCell_other w ⟨p, i, none⟩ k v (fun e => hk (by simp [e]))⟩
theorem Fr.trans {a b c : World} {p : Nat} {lb : Option Nat} (h : Fr a b p lb) (k : Fr b c p lb) : Fr a c p lb :=
  ⟨k.os.trans h.os, k.tape.trans h.tape, k.output.trans h.output, Nat.le_trans h.size k.size, fun i hi h1 h2 => (k.block i (Nat.lt_of_lt_of_le hi h.size) h1 h2).trans (h.block i hi h1 h2)⟩
theorem Fr.below {w w' : World} {p B : Nat} {lb : Option Nat} (h : Fr w w' p lb) (hp : B ≤ p) (hl : ∀ k, lb = some k → B ≤ k) (hB : B ≤ w.heap.size) : Below B w w' :=
  ⟨h.os, h.tape, h.output, h.size, fun k hk => h.block k (by omega) (by omega) (fun e => by have := hl k e.symm; omega)⟩
/-- The new rows of a book lie in the old one's list's block, or in new blocks. -/
def Nw (w : World) (lb : Option Nat) (v : Value) : Prop := ∀ b, v.ownBlock = some b → some b = lb ∨ w.heap.size ≤ b
theorem wh_nat {D : Dc} {f d : Int} (h : wh D f d = true) : ∃ a b : Nat, f = (a : Int) ∧ d = (b : Int) ∧ a + b ≤ D.n ∧ (a = D.n ∨ (D.F a).i = 0) ∧ (a + b = D.n ∨ (D.F (a + b)).i = 0) := by
  unfold wh sm at h
  simp only [Bool.and_eq_true, decide_eq_true_eq] at h
  obtain ⟨⟨⟨⟨h1, h2⟩, h3⟩, h4⟩, h5⟩ := h
  refine ⟨f.toNat, d.toNat, by omega, by omega, by omega, h4, ?_⟩
  rw [show f.toNat + d.toNat = (f + d).toNat by omega]
  exact h5
theorem wh_of {D : Dc} {a b : Nat} (h : a + b ≤ D.n) (h1 : a = D.n ∨ (D.F a).i = 0) (h2 : a + b = D.n ∨ (D.F (a + b)).i = 0) : wh D (a : Int) (b : Int) = true := by
  unfold wh sm
  rw [show ((a : Int) + (b : Int)).toNat = a + b by omega, show ((a : Int)).toNat = a by omega]
  simp only [Bool.and_eq_true, decide_eq_true_eq]
  omega
theorem put_ok {D : Dc} {g : Stg} {m f d : Nat} {C : Nat → Slt} (hD : DcOk D g) (hE : ckE D.H g = 0) (hR : Rts D.F D.n 0) (hC : Rts C m 0) (h : f + d ≤ D.n) (h1 : f = D.n ∨ (D.F f).i = 0) (h2 : f + d = D.n ∨ (D.F (f + d)).i = 0) (hn : D.n - d + m ≤ 1000) :
    Rts (D.put f d m C).F (D.put f d m C).n 0 ∧ DcOk (D.put f d m C) g := by
  have r := rts_put hR hC h h1 h2
  refine ⟨r, hD.o, hD.v, hD.go, fun j hj => r.ok j (Nat.zero_le _) hj, hn, hD.H⟩
theorem refuse_any {w : World} {B p : Nat} {ao : Option Addr} {cap : Nat} {so : Option Addr} {sc : Nat} {D : Dc} {g : Stg} {J : Nat} (h : BkC w B p ao cap so sc D g J) (S : Nat → Prop) (bo : Option Addr) (m mc : Nat) (C : Nat → Slt) (hC : SltsAt S w bo m C) (hm : m ≤ 1000) (hmc : m ≤ mc) (f d : Int) (hf : I64 f) (hd : I64 d) (hno : ¬ (wh D f d = true ∧ Rts C m 0)) :
    Calls Try.prog 21 #[.pointer (some ⟨p, 0, none⟩), .int .i64 f, .int .i64 d, .slice bo m mc] w fun e w' => e = .returned (.tuple #[.int .i64 0, .int .i64 0, .int .i64 1]) ∧ Below w.heap.size w w' := by
  have H1 := boxed (whole_any h f d hf hd)
  clear h hf hd
  cases hw : wh D f d with
  | false =>
    rw [hw] at H1
    clear hw hno hC
    go_enter Try.func21, Try.ntmps21
    go_wp2_with fail
    refine H1.out.mono ?_
    rintro e w1 ⟨rfl, rfl⟩
    go_wp2_with fail
    go_ret3
    exact ⟨rfl, Below.refl _ _⟩
  | true =>
    rw [hw] at H1 hno
    have hnR : ¬ Rts C m 0 := fun r => hno ⟨rfl, r⟩
    have H2 := right_any S bo m mc C false (by simp [hnR]) w hC hm hmc
    simp only [Bool.false_eq_true, if_false] at H2
    clear hw hno hC hnR
    go_enter Try.func21, Try.ntmps21
    go_wp2_with fail
    refine H1.out.mono ?_
    rintro e w1 ⟨rfl, rfl⟩
    go_wp2_with fail
    refine H2.mono ?_
    rintro e w2 ⟨rfl, hb⟩
    have HB := boxed hb
    clear hb H2 H1
    go_wp2_with fail
    go_ret3
    exact ⟨rfl, HB.out⟩
end Go.Proofs.Ytdpjaafdpgkclaa
