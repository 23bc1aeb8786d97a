/-
  What the program's checkRun and Check answer: the first fault of a text in styles.
-/
import Derived.Test.YteckbkcngkppmaaJj
namespace Go.Proofs.Yteckbkcngkppmaa
open Go.RowKit
set_option linter.unusedSimpArgs false
set_option linter.unusedVariables false

/-- The fault of a run that begins at a place. -/
def crx (t : ByteArray) (N n : Nat) (a l y : Int) : Int :=
  if l < 0 ∨ (t.size : Int) - a < l then 70 else if 0 ≤ y ∧ y < (n : Int) then (if btw t N (a + l) = true then 0 else 21) else 43
theorem cr_crx (t : ByteArray) (N n : Nat) (Ln Ys : Nat → Int) (i : Nat) : cr t N n Ln Ys i = crx t N n (pre Ln i) (Ln i) (Ys i) := rfl

set_option maxRecDepth 100000 in
set_option maxHeartbeats 1000000 in
theorem checkRun_any {B : Nat} {w : World} {tb n : Nat} {G : Nat → Sty} (h : TabAt B w tb n G) (t : ByteArray) (N : Nat) (hN : Right t N) (hs : t.size ≤ 1048576) (a l y : Int) (ha : 0 ≤ a ∧ a ≤ (t.size : Int)) :
    Calls Try.prog 36 #[.pointer (some ⟨tb, 0, none⟩), .string t, .int .i64 a, .agg #[.int .i64 l, .int .i64 y]] w fun e w' => e = .returned (.int .i64 (crx t N n a l y)) ∧ Below w.heap.size w w' := by
  have hck := fun w' (hb : Below w.heap.size w w') => tcheck_any (h.below hb) y
  have hms : t.size ≤ maxLen := by unfold maxLen; omega
  clear h
  by_cases h1 : l < 0
  · have HV : Box (crx t N n a l y = 70) := boxed (by unfold crx; rw [if_pos (by omega)])
    generalize crx t N n a l y = V at *
    have t1 : decide (l < 0) = true := decide_eq_true h1
    clear h1 hck
    go_enter Try.func36, Try.ntmps36
    go_wp2
    go_ret
    exact ⟨ret_int HV.out.symm, by go_grown⟩
  have t1 : decide (l < 0) = false := decide_eq_false h1
  have hw1 : IntKind.i64.wrap ((t.size : Int) - a) = (t.size : Int) - a := by rw [IntKind.wrap_i64]; omega
  by_cases h2 : (t.size : Int) - a < l
  · have HV : Box (crx t N n a l y = 70) := boxed (by unfold crx; rw [if_pos (by omega)])
    generalize crx t N n a l y = V at *
    have t2 : decide ((t.size : Int) - a < l) = true := decide_eq_true h2
    obtain ⟨ha1, ha2⟩ := ha
    clear h1 h2 hck
    go_enter Try.func36, Try.ntmps36
    go_wp2
    go_ret
    exact ⟨ret_int HV.out.symm, by go_grown⟩
  have t2 : decide ((t.size : Int) - a < l) = false := decide_eq_false h2
  obtain ⟨ha1, ha2⟩ := ha
  by_cases h3 : 0 ≤ y ∧ y < (n : Int)
  · have HV : Box (crx t N n a l y = Rd.bnd t (a + l)) := boxed (by
      unfold crx
      rw [if_neg (by omega), if_pos h3, bnd_btw t N hN (a + l) (by omega) (by omega)])
    have hbd := fun w => Rd.boundary_any t (a + l) w hms
    rw [if_pos h3] at hck
    generalize crx t N n a l y = V at *
    generalize Rd.bnd t (a + l) = D at *
    have hw2 : IntKind.i64.wrap (a + l) = a + l := by rw [IntKind.wrap_i64]; omega
    have hal : a + l ≤ (t.size : Int) := by omega
    have hal0 : 0 ≤ a + l := by omega
    clear h1 h2 h3
    go_enter Try.func36, Try.ntmps36
    go_wp2_with fail
    refine (hck _ (by go_grown)).mono ?_
    rintro e w' ⟨rfl, hw'⟩
    subst w'
    go_wp2_with fail
    refine (hbd _).mono ?_
    rintro e w' ⟨rfl, hw'⟩
    subst w'
    go_wp2
    go_ret
    exact ⟨ret_int HV.out.symm, by go_grown⟩
  · have HV : Box (crx t N n a l y = 43) := boxed (by
      unfold crx
      rw [if_neg (by omega), if_neg h3])
    rw [if_neg h3] at hck
    generalize crx t N n a l y = V at *
    clear h1 h2 h3
    go_enter Try.func36, Try.ntmps36
    go_wp2_with fail
    refine (hck _ (by go_grown)).mono ?_
    rintro e w' ⟨rfl, hw'⟩
    subst w'
    go_wp2
    go_ret
    exact ⟨ret_int HV.out.symm, by go_grown⟩

theorem crs_next (t : ByteArray) (N n : Nat) (Ln Ys : Nat → Int) (k : Nat) (h0 : crs t N n Ln Ys k = 0) (h : cr t N n Ln Ys k = 0) : crs t N n Ln Ys (k + 1) = 0 := by
  show (if crs t N n Ln Ys k = 0 then cr t N n Ln Ys k else crs t N n Ln Ys k) = _
  rw [if_pos h0, h]
theorem crs_stop (t : ByteArray) (N n : Nat) (Ln Ys : Nat → Int) (k m : Nat) (h : crs t N n Ln Ys k ≠ 0) (hk : k ≤ m) : crs t N n Ln Ys m = crs t N n Ln Ys k := by
  induction m with
  | zero => have : k = 0 := by omega
            subst this; rfl
  | succ m ih =>
    by_cases c : k = m + 1
    · subst c; rfl
    · have := ih (by omega)
      show (if crs t N n Ln Ys m = 0 then cr t N n Ln Ys m else crs t N n Ln Ys m) = _
      rw [this, if_neg h]
theorem crs_hit (t : ByteArray) (N n : Nat) (Ln Ys : Nat → Int) (k m : Nat) (h0 : crs t N n Ln Ys k = 0) (h : cr t N n Ln Ys k ≠ 0) (hk : k < m) : crs t N n Ln Ys m = cr t N n Ln Ys k := by
  have e : crs t N n Ln Ys (k + 1) = cr t N n Ln Ys k := by show (if crs t N n Ln Ys k = 0 then cr t N n Ln Ys k else crs t N n Ln Ys k) = _; rw [if_pos h0]
  rw [crs_stop t N n Ln Ys (k + 1) m (by rw [e]; exact h) (by omega), e]
theorem crs_less (t : ByteArray) (N n : Nat) (Ln Ys : Nat → Int) (m : Nat) (h : crs t N n Ln Ys m = 0) : ∀ k, k ≤ m → crs t N n Ln Ys k = 0 := by
  intro k hk
  by_cases c : crs t N n Ln Ys k = 0
  · exact c
  · rw [crs_stop t N n Ln Ys k m c hk] at h; exact absurd h c
theorem crs_each (t : ByteArray) (N n : Nat) (Ln Ys : Nat → Int) (m : Nat) (h : crs t N n Ln Ys m = 0) (k : Nat) (hk : k < m) : cr t N n Ln Ys k = 0 := by
  have h1 := crs_less t N n Ln Ys m h k (by omega)
  have h2 := crs_less t N n Ln Ys m h (k + 1) (by omega)
  have e : crs t N n Ln Ys (k + 1) = if crs t N n Ln Ys k = 0 then cr t N n Ln Ys k else crs t N n Ln Ys k := rfl
  rw [e, if_pos h1] at h2
  exact h2
theorem cr_zero {t : ByteArray} {N n : Nat} {Ln Ys : Nat → Int} {k : Nat} (h : cr t N n Ln Ys k = 0) : 0 ≤ Ln k ∧ Ln k ≤ (t.size : Int) - pre Ln k ∧ (0 ≤ Ys k ∧ Ys k < (n : Int)) ∧ btw t N (pre Ln (k + 1)) = true := by
  unfold cr at h
  split at h
  · omega
  · split at h
    · split at h
      · rename_i c1 c2 c3
        exact ⟨by omega, by omega, c2, c3⟩
      · omega
    · omega
theorem pre_in (t : ByteArray) (N n : Nat) (Ln Ys : Nat → Int) (k : Nat) (h : crs t N n Ln Ys k = 0) : 0 ≤ pre Ln k ∧ pre Ln k ≤ (t.size : Int) := by
  induction k with
  | zero => simp [pre]
  | succ k ih =>
    have h1 := ih (crs_less t N n Ln Ys (k + 1) h k (by omega))
    have h2 := cr_zero (crs_each t N n Ln Ys (k + 1) h k (by omega))
    simp only [pre]
    omega
end Go.Proofs.Yteckbkcngkppmaa
