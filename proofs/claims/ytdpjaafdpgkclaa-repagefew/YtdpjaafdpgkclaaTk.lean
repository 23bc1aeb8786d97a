/-
  Which lines may go, and which page is built first: what areWhole, pageToBuild and lineOf answer.
-/
import Derived.Test.YtdpjaafdpgkclaaTj
namespace Go.Proofs.Ytdpjaafdpgkclaa
open Go.RowKit
set_option linter.unusedSimpArgs false
set_option linter.unusedVariables false

/-- Are there so many lines from f on, and are they whole paragraphs? -/
def wh (D : Dc) (f d : Int) : Bool := decide (0 ≤ f) && decide (0 ≤ d) && decide (f + d ≤ D.n) && sm D f.toNat && sm D (f + d).toNat
set_option maxRecDepth 100000 in
set_option maxHeartbeats 1000000 in
theorem whole_any {w : World} {B p : Nat} {ao : Option Addr} {cap : Nat} {so : Option Addr} {sc : Nat} {D : Dc} {g : Stg} {J : Nat} (h : BkC w B p ao cap so sc D g J) (f d : Int) (hf : I64 f) (hd : I64 d) :
    Calls Try.prog 35 #[.pointer (some ⟨p, 0, none⟩), .int .i64 f, .int .i64 d] w fun e w' => e = .returned (.bool (wh D f d)) ∧ w' = w := by
  obtain ⟨⟨c0, -, -⟩, -⟩ := h.cells
  have hn := h.dc.n
  have hun : undef = Value.tuple #[] := rfl
  unfold I64 at hf hd
  have HS := boxed (fun k hk => seam_any h k hk)
  clear h
  by_cases h1 : f < 0
  · have e : wh D f d = false := by unfold wh; simp; omega
    have t1 : decide (f < 0) = true := decide_eq_true h1
    rw [e]
    clear e
    generalize D.n = n at *
    go_enter Try.func35, Try.ntmps35
    go_wp2_with fail
    go_ret
    exact ⟨rfl, rfl⟩
  · have t1 : decide (f < 0) = false := decide_eq_false h1
    by_cases h2 : d < 0
    · have e : wh D f d = false := by unfold wh; simp; omega
      have t2 : decide (d < 0) = true := decide_eq_true h2
      rw [e]
      clear e
      generalize D.n = n at *
      go_enter Try.func35, Try.ntmps35
      go_wp2_with fail
      go_ret
      exact ⟨rfl, rfl⟩
    · have t2 : decide (d < 0) = false := decide_eq_false h2
      by_cases h3 : (D.n : Int) - f < d
      · have e : wh D f d = false := by unfold wh; simp; omega
        have t3 : decide ((D.n : Int) - f < d) = true := decide_eq_true h3
        rw [e]
        clear e HS
        generalize D.n = n at *
        go_enter Try.func35, Try.ntmps35
        go_wp2_with fail
        go_ret
        exact ⟨rfl, rfl⟩
      · have t3 : decide ((D.n : Int) - f < d) = false := decide_eq_false h3
        have e : wh D f d = (sm D f.toNat && sm D (f + d).toNat) := by
          unfold wh
          rw [decide_eq_true (show 0 ≤ f by omega), decide_eq_true (show 0 ≤ d by omega), decide_eq_true (show f + d ≤ D.n by omega)]
          simp
        rw [e]
        have H1 := HS.out f.toNat (by omega)
        have H2 := HS.out (f + d).toNat (by omega)
        rw [show ((f.toNat : Nat) : Int) = f by omega] at H1
        rw [show (((f + d).toNat : Nat) : Int) = f + d by omega] at H2
        clear e HS
        generalize sm D f.toNat = X at *
        generalize sm D (f + d).toNat = Y at *
        generalize D.n = n at *
        cases X with
        | false =>
          go_enter Try.func35, Try.ntmps35
          go_wp2_with fail
          refine H1.mono ?_
          rintro e w1 ⟨rfl, rfl⟩
          go_wp2_with fail
          go_ret
          exact ⟨rfl, rfl⟩
        | true =>
          go_enter Try.func35, Try.ntmps35
          go_wp2_with fail
          refine H1.mono ?_
          rintro e w1 ⟨rfl, rfl⟩
          go_wp2_with fail
          refine H2.mono ?_
          rintro e w2 ⟨rfl, rfl⟩
          go_wp2_with fail
          go_ret
          exact ⟨by simp, rfl⟩
set_option maxRecDepth 100000 in
set_option maxHeartbeats 1000000 in
theorem page_any {w : World} {B p : Nat} {ao : Option Addr} {cap : Nat} {so : Option Addr} {sc : Nat} {D : Dc} {g : Stg} {J : Nat} (h : BkC w B p ao cap so sc D g J) (f q : Nat) (hq : Upto (D.its J) (f : Int) q) :
    Calls Try.prog 36 #[.pointer (some ⟨p, 0, none⟩), .int .i64 (f : Nat)] w fun e w' => e = .returned (.int .i64 ((q - 2 : Nat) : Int)) ∧ Below w.heap.size w w' := by
  obtain ⟨⟨-, c0, -⟩, -⟩ := h.cells
  have hn := h.dc.n
  have hj := h.jle
  have hl := D.its_len J
  have HF := boxed (find_any _ so sc (D.its J) (f : Int) q hq w h.ns (by omega) (its_rise D J))
  rw [hl] at HF
  have hqJ : q ≤ J := by have := hq.1; omega
  clear h hq hl
  have e1 : ((q - 2 : Nat) : Int) = max ((q : Int) - 1 - 1) 0 := by omega
  rw [e1]
  clear e1
  go_enter Try.func36, Try.ntmps36
  go_wp2_with fail
  refine HF.out.mono ?_
  rintro e w1 ⟨rfl, hb⟩
  have HB := boxed hb
  clear hb HF c0
  go_wp2_with fail
  go_ret
  exact ⟨by simp, HB.out⟩
set_option maxRecDepth 100000 in
set_option maxHeartbeats 1000000 in
theorem lineof_any {w : World} {B p : Nat} {ao : Option Addr} {cap : Nat} {so : Option Addr} {sc : Nat} {D : Dc} {g : Stg} {J : Nat} (h : BkC w B p ao cap so sc D g J) (k : Nat) (hk : k = 0 ∨ k < J) :
    Calls Try.prog 37 #[.pointer (some ⟨p, 0, none⟩), .int .i64 (k : Nat)] w fun e w' => e = .returned (.int .i64 (D.it k : Nat)) ∧ w' = w := by
  obtain ⟨⟨-, c0, -⟩, -⟩ := h.cells
  have hn := h.dc.n
  by_cases h0 : k = 0
  · subst h0
    clear h
    go_enter Try.func37, Try.ntmps37
    go_wp2_with fail
    go_ret
    exact ⟨rfl, rfl⟩
  · have hkJ : k < J := by omega
    have hl := D.its_len J
    obtain ⟨b, rfl, -, -⟩ := h.ns.form (by omega)
    have c1 := h.ns.get k (by omega)
    rw [D.its_get J k hkJ] at c1
    have hk0 : ¬ ((k : Int) = 0) := by omega
    have hkj : (k : Int) < (J : Int) := by omega
    clear h hl hk
    generalize D.it k = x at *
    go_enter Try.func37, Try.ntmps37
    go_wp2_with fail
    go_ret
    exact ⟨rfl, rfl⟩
end Go.Proofs.Ytdpjaafdpgkclaa
