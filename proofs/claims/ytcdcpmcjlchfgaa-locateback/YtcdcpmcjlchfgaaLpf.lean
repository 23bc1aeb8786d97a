/-
  What the program's and the document's Offset answer.
-/
import Derived.Test.YtcdcpmcjlchfgaaLpc
namespace Go.Proofs.Ytcdcpmcjlchfgaa
open Go.RowKit Go.Sort
set_option linter.unusedSimpArgs false
set_option linter.unusedVariables false

theorem slTL (ao : Option Addr) (n cap q : Nat) (z : Int) (hz : z = (q : Int)) (hq : q ≤ cap) (hs : ao = none → cap = 0) (w : World) : (Instr.slice 60 (.slice ao n cap) none (some (.int .i64 z)) none).run Try.prog w = .ok (.slice ao q cap) w := by
  subst hz
  have h4 : (q : Int) ≤ (cap : Int) := by omega
  cases ao with
  | none =>
    have := hs rfl
    subst this
    obtain rfl : q = 0 := by omega
    go_simp
  | some ad => go_simp
theorem slTP (ao : Option Addr) (n cap q : Nat) (z : Int) (hz : z = (q : Int)) (hq : q ≤ cap) (hs : ao = none → cap = 0) (w : World) : (Instr.slice 22 (.slice ao n cap) none (some (.int .i64 z)) none).run Try.prog w = .ok (.slice ao q cap) w := by
  subst hz
  have h4 : (q : Int) ≤ (cap : Int) := by omega
  cases ao with
  | none =>
    have := hs rfl
    subst this
    obtain rfl : q = 0 := by omega
    go_simp
  | some ad => go_simp
theorem ofs_out (n : Nat) (P : Nat → Pgv) (p k : Int) (h : ¬ (0 ≤ p ∧ p < (n : Int) ∧ 0 ≤ k ∧ k < ((P p.toNat).ln : Int))) : ofsV n P p k = .tuple #[.int .i64 0, .bool false] := by unfold ofsV; rw [if_neg h]
set_option maxRecDepth 100000 in
set_option maxHeartbeats 4000000 in
theorem offset_any (S : Nat → Prop) (ao : Option Addr) (n cap : Nat) (P : Nat → Pgv) (p k : Int) (w : World) (h : PgsR S w ao n P) (hn : n ≤ maxLen ∧ Sl ao cap n) (hz : psz P n ≤ 1000000) :
    Calls Try.prog 15 #[.slice ao n cap, .int .i64 p, .int .i64 k] w fun e w' => e = .returned (ofsV n P p k) ∧ Below w.heap.size w w' := by
  obtain ⟨hn, hs1, hs2⟩ := hn
  have hnm := hn
  unfold maxLen at hn
  have H := boxed h
  have hun : undef = Value.tuple #[] := rfl
  by_cases c1 : p < 0
  · have e : ofsV n P p k = .tuple #[.int .i64 0, .bool false] := ofs_out n P p k (by omega)
    have t1 : decide (p < 0) = true := decide_eq_true c1
    rw [e]
    clear h hs2 e c1
    go_enter Try.func15, Try.ntmps15
    go_wp2_with fail
    go_ret2
    exact ⟨rfl, Below.refl _ _⟩
  have t1 : decide (p < 0) = false := decide_eq_false c1
  by_cases c2 : (n : Int) ≤ p
  · have e : ofsV n P p k = .tuple #[.int .i64 0, .bool false] := ofs_out n P p k (by omega)
    have t2 : decide ((n : Int) ≤ p) = true := decide_eq_true c2
    rw [e]
    clear h hs2 e c1 c2
    go_enter Try.func15, Try.ntmps15
    go_wp2_with fail
    go_ret2
    exact ⟨rfl, Below.refl _ _⟩
  have t2 : decide ((n : Int) ≤ p) = false := decide_eq_false c2
  by_cases c3 : k < 0
  · have e : ofsV n P p k = .tuple #[.int .i64 0, .bool false] := ofs_out n P p k (by omega)
    have t3 : decide (k < 0) = true := decide_eq_true c3
    rw [e]
    clear h hs2 e c1 c2 c3
    go_enter Try.func15, Try.ntmps15
    go_wp2_with fail
    go_ret2
    exact ⟨rfl, Below.refl _ _⟩
  have t3 : decide (k < 0) = false := decide_eq_false c3
  obtain ⟨p, rfl⟩ : ∃ q : Nat, p = (q : Int) := ⟨p.toNat, by omega⟩
  obtain ⟨k, rfl⟩ : ∃ q : Nat, k = (q : Int) := ⟨k.toNat, by omega⟩
  obtain ⟨hok, hls, b, off, rfl, -, c0⟩ := H.out p (by omega)
  by_cases c4 : ((P p).ln : Int) ≤ (k : Int)
  · have e : ofsV n P (p : Int) (k : Int) = .tuple #[.int .i64 0, .bool false] := ofs_out n P _ _ (by simp; omega)
    have t4 : decide (((P p).ln : Int) ≤ (k : Int)) = true := decide_eq_true c4
    have t5 : decide ((P p).ln ≤ k) = true := decide_eq_true (by omega)
    have hpn : (p : Int) < (n : Int) := by omega
    rw [e]
    clear h hs2 e c1 c3 c4 hls hok
    generalize P p = X at *
    obtain ⟨la, ln, lc, F⟩ := X
    simp only at *
    go_enter Try.func15, Try.ntmps15
    go_wp2_with fail
    go_ret2
    exact ⟨rfl, Below.refl _ _⟩
  have t4 : decide (((P p).ln : Int) ≤ (k : Int)) = false := decide_eq_false c4
  have t5 : decide ((P p).ln ≤ k) = false := decide_eq_false (by omega)
  rw [ofs_in n P p k (by omega) (by omega)]
  have hpn : (p : Int) < (n : Int) := by omega
  have hm1 := psz_mono P p n (by omega)
  have hm2 := psz_mono P (p + 1) n (by omega)
  have hm3 := lsz_mono (P p).F k (P p).ln (by omega)
  have hm4 : psz P (p + 1) = psz P p + lsz (P p).F (P p).ln := rfl
  have C1 : Box (∀ d os, Calls Try.prog 13 #[.slice (some ⟨b, off, none⟩) p cap] (Go.Sort.grow (redrawn w d) os) fun e w'' => e = .returned (.int .i64 (psz P p : Nat)) ∧ ∃ p : Regrown, w'' = Go.Sort.grow (redrawn w p.d) p.os) := boxed (fun d os => Calls.regrown_of (size_any S _ p cap P _ (fun i hi => (H.out.below (below_regrown w d os)) i (by omega)) (by omega) (by omega)))
  have C2 : Box (∀ d os, Calls Try.prog 28 #[.slice (P p).la k (P p).lc] (Go.Sort.grow (redrawn w d) os) fun e w'' => e = .returned (.int .i64 (lsz (P p).F k : Nat)) ∧ ∃ p : Regrown, w'' = Go.Sort.grow (redrawn w p.d) p.os) := boxed (fun d os => Calls.regrown_of (length_any S _ k _ _ _ (fun i hi => (hls.below (below_regrown w d os)) i (by omega)) (by have := hok.ln; omega) (by omega)))
  have hs1' := hok.sl
  obtain ⟨hl1, hl2⟩ := hs1'
  have hf1 := slTP (some ⟨b, off, none⟩) n cap p (p : Int) rfl (by omega) hs2
  have hf2 := slTL (P p).la (P p).ln (P p).lc k (k : Int) rfl (by omega) hl2
  have vc := cell_regrown c0
  obtain ⟨y, hy⟩ : ∃ y, psz P p = y := ⟨_, rfl⟩
  obtain ⟨z, hz'⟩ : ∃ z, lsz (P p).F k = z := ⟨_, rfl⟩
  have hyz : y + z ≤ 1000000 := by omega
  rw [hy, hz']
  rw [hy] at C1
  rw [hz'] at C2
  clear h hs2 c1 c2 c3 c4 hls hok hm1 hm2 hm3 hm4 hl2 hy hz' hz H
  generalize P p = X at *
  obtain ⟨la, ln, lc, F⟩ := X
  simp only at *
  have hkl : (k : Int) < (ln : Int) := by
    by_cases c : (ln : Int) ≤ (k : Int)
    · rw [decide_eq_true c] at t4; cases t4
    · omega
  go_enter Try.func15, Try.ntmps15
  go_wp2_with fail
  refine wp_region_quiet_below (by kernel_rfl) (by kernel_rfl) ?_
  repeat (go_big_quiet_step (first | (go_at_call 13; exact C1.out _ _) | (go_at_call 28; exact C2.out _ _)))
  refine wpQuiet_nil ?_
  intro _ hw'
  obtain ⟨⟨dq, osq⟩, hw''⟩ := hw'
  subst hw''
  have HB6 := boxed (below_regrown w dq osq)
  clear C1 C2 vc
  generalize Go.Sort.grow (redrawn w dq) osq = w5 at *
  go_wp2_with fail
  go_ret2
  exact ⟨by (first | rfl | (congr 3 <;> omega)), HB6.out⟩
end Go.Proofs.Ytcdcpmcjlchfgaa
