/-
  The first fault of a list of styles, as the document's Check answers it.
-/
import Derived.Test.YtcdcpmcjlchfgaaMc
import Derived.Test.YtcdcpmcjlchfgaaMd
namespace Go.Proofs.Ytcdcpmcjlchfgaa
open Go.RowKit
set_option linter.unusedSimpArgs false
set_option linter.unusedVariables false

/-- The fault of the first of the first k styles that has one, and its place. -/
def ffc (F : Nat → Sty) : Nat → Int
  | 0 => 0
  | k + 1 => if ffc F k = 0 then flt (F k) else ffc F k
def ffp (F : Nat → Sty) : Nat → Nat
  | 0 => 0
  | k + 1 => if ffc F k = 0 then (if flt (F k) = 0 then 0 else k) else ffp F k
theorem ffc_stop (F : Nat → Sty) (k n : Nat) (h : ffc F k ≠ 0) (hk : k ≤ n) : ffc F n = ffc F k ∧ ffp F n = ffp F k := by
  induction n with
  | zero => have : k = 0 := by omega
            subst this; exact ⟨rfl, rfl⟩
  | succ n ih =>
    by_cases c : k = n + 1
    · subst c; exact ⟨rfl, rfl⟩
    · have := ih (by omega)
      show (if ffc F n = 0 then flt (F n) else ffc F n) = _ ∧ (if ffc F n = 0 then (if flt (F n) = 0 then 0 else n) else ffp F n) = _
      rw [this.1, if_neg h, if_neg h]
      exact ⟨rfl, this.2⟩
theorem ffc_hit (F : Nat → Sty) (k n : Nat) (h0 : ffc F k = 0) (h : flt (F k) ≠ 0) (hk : k < n) : ffc F n = flt (F k) ∧ ffp F n = k := by
  have e1 : ffc F (k + 1) = flt (F k) := by show (if ffc F k = 0 then flt (F k) else ffc F k) = _; rw [if_pos h0]
  have e2 : ffp F (k + 1) = k := by show (if ffc F k = 0 then (if flt (F k) = 0 then 0 else k) else ffp F k) = _; rw [if_pos h0, if_neg h]
  have := ffc_stop F (k + 1) n (by rw [e1]; exact h) (by omega)
  rw [this.1, this.2, e1, e2]
  exact ⟨rfl, rfl⟩
theorem ffc_next (F : Nat → Sty) (k : Nat) (h0 : ffc F k = 0) (h : flt (F k) = 0) : ffc F (k + 1) = 0 := by
  show (if ffc F k = 0 then flt (F k) else ffc F k) = _
  rw [if_pos h0, h]
theorem ffc_good (F : Nat → Sty) (n : Nat) (h : ffc F n = 0) : ∀ k, k < n → flt (F k) = 0 := by
  induction n with
  | zero => intro k hk; omega
  | succ n ih =>
    have e : ffc F (n + 1) = if ffc F n = 0 then flt (F n) else ffc F n := rfl
    rw [e] at h
    by_cases c : ffc F n = 0
    · rw [if_pos c] at h
      intro k hk
      by_cases d : k = n
      · subst d; exact h
      · exact ih c k (by omega)
    · rw [if_neg c] at h; exact absurd h c
theorem ffp_good (F : Nat → Sty) (n : Nat) (h : ffc F n = 0) : ffp F n = 0 := by
  induction n with
  | zero => rfl
  | succ n ih =>
    have e : ffc F (n + 1) = if ffc F n = 0 then flt (F n) else ffc F n := rfl
    rw [e] at h
    show (if ffc F n = 0 then (if flt (F n) = 0 then 0 else n) else ffp F n) = 0
    by_cases c : ffc F n = 0
    · rw [if_pos c] at h ⊢
      rw [if_pos h]
    · rw [if_neg c] at h; exact absurd h c
/-- The fault of a list of styles, and its place. -/
def ckc (F : Nat → Sty) (n : Nat) : Int := if n = 0 ∨ 32 < n then 40 else ffc F n
def ckp (F : Nat → Sty) (n : Nat) : Nat := if n = 0 ∨ 32 < n then 0 else ffp F n
theorem ckc_good (F : Nat → Sty) (n : Nat) (h : ckc F n = 0) : (1 ≤ n ∧ n ≤ 32) ∧ ckp F n = 0 ∧ ∀ k, k < n → flt (F k) = 0 := by
  unfold ckc at h
  split at h
  · omega
  · rename_i c
    refine ⟨by omega, ?_, ffc_good F n h⟩
    unfold ckp
    rw [if_neg c]
    exact ffp_good F n h

set_option maxRecDepth 100000 in
set_option maxHeartbeats 2000000 in
theorem refcheck_any (S : Nat → Prop) (ao : Option Addr) (n cap : Nat) (F : Nat → Sty) (w : World) (hF : StysAt S w ao n F) :
    Calls Try.prog 29 #[.slice ao n cap] w fun e w' => e = .returned (.tuple #[.int .i64 (ckc F n), .int .i64 (ckp F n : Nat)]) ∧ Below w.heap.size w w' := by
  by_cases h1 : n = 0
  · subst h1
    go_enter Try.func29, Try.ntmps29
    go_wp2
    refine bodyPost_ret (v := .tuple #[.int .i64 40, .int .i64 0]) (by simp [results, Try.results29, go_sem]) rfl ⟨rfl, Below.refl _ _⟩
  have t1 : ((n : Int) == 0) = false := by rw [beq_eq_false_iff_ne]; omega
  by_cases h2 : 32 < n
  · have t2 : decide ((32 : Int) < (n : Int)) = true := decide_eq_true (by omega)
    have e1 : ckc F n = 40 := by unfold ckc; rw [if_pos (Or.inr h2)]
    have e2 : ckp F n = 0 := by unfold ckp; rw [if_pos (Or.inr h2)]
    rw [e1, e2]
    clear h1 hF
    go_enter Try.func29, Try.ntmps29
    go_wp2
    refine bodyPost_ret (v := .tuple #[.int .i64 40, .int .i64 0]) (by simp [results, Try.results29, go_sem]) rfl ⟨rfl, Below.refl _ _⟩
  have t2 : decide ((32 : Int) < (n : Int)) = false := decide_eq_false (by omega)
  have HC : Box (ckc F n = ffc F n) := boxed (by unfold ckc; rw [if_neg (by omega)])
  have HP : Box (ckp F n = ffp F n) := boxed (by unfold ckp; rw [if_neg (by omega)])
  have HF := boxed hF
  clear hF h1
  go_enter Try.func29, Try.ntmps29
  go_wp2
  go_loopw [4, 5] (fun i _ wr => ∃ k : Nat, k ≤ n ∧ i = .int .i64 (k : Int) ∧ Box (ffc F k = 0) ∧ Box (Below w.heap.size w wr)) (fun i _ _ => n - (intOf i).toNat)
  case atStart => exact ⟨0, Nat.zero_le _, rfl, boxed rfl, boxed (Below.refl _ _)⟩
  case round =>
    obtain ⟨k, hk, rfl, H0, HB⟩ := hrel
    by_cases hlt : k < n
    · obtain ⟨hok, hrg, b, off, e, -, c0, c1, c2, c3, c4, c5, c6, c7⟩ := (HF.out.below HB.out) k hlt
      subst e
      have hst := refstyle_any S (F k) wr hok hrg
      have HH := boxed (fun h => ffc_hit F k n H0.out h hlt)
      have HN := boxed (ffc_next F k H0.out)
      unfold Sty.val at hst
      clear hok hrg
      generalize F k = s at *
      have t3 : decide ((k : Int) < (n : Int)) = true := decide_eq_true (by omega)
      go_wp2_with fail
      refine hst.mono ?_
      rintro e w1 ⟨rfl, hb1⟩
      have HB1 := boxed (below_step HB.out (Nat.le_refl _) hb1)
      clear hst hb1 c0 c1 c2 c3 c4 c5 c6 c7
      by_cases hz : flt s = 0
      · have HZ := boxed hz
        have tz : (flt s != 0) = false := by simpa using hz
        clear hz
        generalize flt s = V at *
        go_wp2
        go_roundw
        case rel => exact ⟨k + 1, by omega, by go_num, boxed (HN.out HZ.out), HB1⟩
        case measure => simp [intOf]; omega
      · have HZ := boxed hz
        have tz : (flt s != 0) = true := by simpa using hz
        clear hz
        have HV := boxed (HH.out HZ.out)
        clear HN HH HZ
        generalize flt s = V at *
        go_wp2
        refine bodyPost_ret (v := .tuple #[.int .i64 V, .int .i64 (k : Int)]) (by simp [results, Try.results29, go_sem]) rfl ⟨by rw [HC.out, HP.out, HV.out.1, HV.out.2], HB1.out⟩
    · have e : k = n := by omega
      subst e
      have HP0 := boxed (ffp_good F k H0.out)
      go_wp2
      refine bodyPost_ret (v := .tuple #[.int .i64 0, .int .i64 0]) (by simp [results, Try.results29, go_sem]) rfl ⟨by rw [HC.out, HP.out, H0.out, HP0.out]; rfl, HB.out⟩
end Go.Proofs.Ytcdcpmcjlchfgaa
