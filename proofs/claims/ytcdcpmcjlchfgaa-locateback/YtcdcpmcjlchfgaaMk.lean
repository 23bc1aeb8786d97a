/-
  How wide a rune is: what the program's width (by halving) and Width, and the document's Width (range by range), answer.
-/
import Derived.Test.YtcdcpmcjlchfgaaMi
import Derived.Test.YtcdcpmcjlchfgaaMj
namespace Go.Proofs.Ytcdcpmcjlchfgaa
open Go.RowKit
set_option linter.unusedSimpArgs false
set_option linter.unusedVariables false

/-- Does the range k have r? -/
def hitR (R : Nat → Rg) (r : Int) (k : Nat) : Bool := decide ((R k).lo ≤ r) && decide (r ≤ (R k).hi)
/-- The first of the first n ranges that has r; n, if none has. -/
def fhit (R : Nat → Rg) (r : Int) : Nat → Nat
  | 0 => 0
  | k + 1 => if fhit R r k < k then fhit R r k else if hitR R r k = true then k else k + 1
theorem fhit_none (R : Nat → Rg) (r : Int) (n : Nat) (h : ∀ j, j < n → hitR R r j = false) : fhit R r n = n := by
  induction n with
  | zero => rfl
  | succ n ih =>
    have e := ih (fun j hj => h j (by omega))
    show (if fhit R r n < n then fhit R r n else if hitR R r n = true then n else n + 1) = _
    rw [e, if_neg (by omega), h n (by omega)]
    simp
theorem fhit_at (R : Nat → Rg) (r : Int) (k n : Nat) (h : ∀ j, j < k → hitR R r j = false) (hk : k < n) (hh : hitR R r k = true) : fhit R r n = k := by
  induction n with
  | zero => omega
  | succ n ih =>
    show (if fhit R r n < n then fhit R r n else if hitR R r n = true then n else n + 1) = _
    by_cases c : k = n
    · subst c
      rw [fhit_none R r k h, if_neg (by omega), if_pos hh]
    · rw [ih (by omega), if_pos (by omega)]
/-- The width of r by the ranges. -/
def rgw (R : Nat → Rg) (n : Nat) (r o : Int) : Int := if fhit R r n < n then (R (fhit R r n)).wd else o
theorem rgw_none {R : Nat → Rg} {n : Nat} {r o : Int} (h : ∀ j, j < n → hitR R r j = false) : rgw R n r o = o := by
  unfold rgw; rw [fhit_none R r n h, if_neg (by omega)]
theorem rgw_at {R : Nat → Rg} {n k : Nat} {r o : Int} (h : ∀ j, j < k → hitR R r j = false) (hk : k < n) (hh : hitR R r k = true) : rgw R n r o = (R k).wd := by
  unfold rgw; rw [fhit_at R r k n h hk hh, if_pos hk]
/-- The width of a rune. -/
def wdS (s : Sty) (r : Int) : Int := if kd r = 1 ∨ kd r = 2 then s.sp else if kd r = 3 ∨ kd r = 4 ∨ kd r = 5 ∨ kd r = 7 ∨ kd r = 8 then 0 else rgw s.R s.rn r s.ot
theorem wdS_like {s g : Sty} (h : Like s g) (r : Int) : wdS g r = wdS s r := by
  unfold wdS; rw [h.sp, h.R, h.rn, h.ot]

/-- Ranges rise. -/
def Rise (R : Nat → Rg) (n : Nat) : Prop := (∀ j, j < n → (R j).lo ≤ (R j).hi) ∧ ∀ j k, j < k → k < n → (R j).hi < (R k).lo
theorem rise_of (R : Nat → Rg) (n : Nat) (h : rfs R n = 0) : Rise R n := by
  have hz : ∀ k, k < n → rfa R k = 0 := by
    induction n with
    | zero => intro k hk; omega
    | succ n ih =>
      have e : rfs R (n + 1) = if rfs R n = 0 then rfa R n else rfs R n := rfl
      rw [e] at h
      by_cases c : rfs R n = 0
      · rw [if_pos c] at h
        intro k hk
        by_cases d : k = n
        · subst d; exact h
        · exact ih c k (by omega)
      · rw [if_neg c] at h; exact absurd h c
  have h1 : ∀ k, k < n → ¬ ((R k).lo ≤ ahd R k ∨ (R k).hi < (R k).lo ∨ 1114111 < (R k).hi) := by
    intro k hk c
    have := hz k hk
    unfold rfa at this
    rw [if_pos c] at this
    omega
  refine ⟨fun j hj => by have := h1 j hj; omega, ?_⟩
  intro j k hjk hk
  induction k with
  | zero => omega
  | succ k ih =>
    have a1 := h1 (k + 1) hk
    have e : ahd R (k + 1) = (R k).hi := by unfold ahd; simp
    rw [e] at a1
    by_cases c : j = k
    · subst c; omega
    · have := ih (by omega) (by omega)
      have a2 := h1 k (by omega)
      omega

set_option maxRecDepth 100000 in
theorem clo_any (S : Nat → Prop) (ra : Option Addr) (rn rc : Nat) (R : Nat → Rg) (r : Int) (bS bR k : Nat) (w : World) (hr : RgsAt S w ra rn R) (hk : k < rn) (cS : w.cell? ⟨bS, 6, none⟩ = some (.slice ra rn rc)) (cR : w.cell? ⟨bR, 0, none⟩ = some (.int .i32 r)) (hrr : -2147483648 ≤ r ∧ r ≤ 2147483647) :
    Calls Try.prog 82 #[.int .i64 (k : Int), .pointer (some ⟨bS, 0, none⟩), .pointer (some ⟨bR, 0, none⟩)] w fun e w' => e = .returned (.bool (decide (r ≤ (R k).hi))) ∧ Below w.heap.size w w' := by
  obtain ⟨-, b, off, rfl, -, c0, c1, c2⟩ := hr k hk
  clear hr
  generalize (R k).hi = H at *
  clear c0 c2
  go_enter Try.func82, Try.ntmps82
  go_wp2
  go_quiet (fail)
  go_wp2
  go_ret
  exact ⟨rfl, bel_drewN _ _ _⟩

set_option maxRecDepth 100000 in
set_option maxHeartbeats 1000000 in
theorem search_any (S : Nat → Prop) (ra : Option Addr) (rn rc : Nat) (R : Nat → Rg) (r : Int) (bS bR : Nat) (w : World) (hr : RgsAt S w ra rn R) (hn : rn * 24 ≤ 140737488351232) (hR : Rise R rn) (cS : w.cell? ⟨bS, 6, none⟩ = some (.slice ra rn rc)) (cR : w.cell? ⟨bR, 0, none⟩ = some (.int .i32 r)) (hrr : -2147483648 ≤ r ∧ r ≤ 2147483647) :
    Calls Try.prog 81 #[.int .i64 (rn : Int), .func (.func 82) #[] #[.pointer (some ⟨bS, 0, none⟩), .pointer (some ⟨bR, 0, none⟩)]] w fun e w' => ∃ q : Nat, e = .returned (.int .i64 (q : Int)) ∧ q ≤ rn ∧ (∀ j, j < q → (R j).hi < r) ∧ (∀ j, q ≤ j → j < rn → r ≤ (R j).hi) ∧ Below w.heap.size w w' := by
  have HR := boxed hr
  have HI := boxed hR
  have CS := boxed cS
  have CR := boxed cR
  have HQ := boxed hrr
  clear hr hR cS cR hrr
  have hn2 : rn ≤ 5864062014800 := by omega
  clear hn
  go_enter Try.func81, Try.ntmps81
  go_wp2_with fail
  go_loopw [5, 6] (fun a b wr => ∃ i j : Nat, i ≤ j ∧ j ≤ rn ∧ a = .int .i64 i ∧ b = .int .i64 j ∧ Box ((∀ q, q < i → (R q).hi < r) ∧ ∀ q, j ≤ q → q < rn → r ≤ (R q).hi) ∧ Box (Below w.heap.size w wr)) (fun a b _ => (intOf b - intOf a).toNat)
  case atStart => exact ⟨0, rn, by omega, by omega, rfl, rfl, boxed ⟨fun q hq => by omega, fun q h1 h2 => by omega⟩, boxed (Below.refl _ _)⟩
  case round =>
    obtain ⟨i, j, h1, h2, rfl, rfl, HP, HB⟩ := hrel
    by_cases hlt : i < j
    · obtain ⟨m, hm⟩ : ∃ m : Nat, (i + j) / 2 = m := ⟨_, rfl⟩
      have em : ((i : Int) + (j : Int)) / 2 = (m : Int) := by omega
      have m1 : i ≤ m := by omega
      have m2 : m < j := by omega
      clear hm
      have HC := boxed (clo_any S ra rn rc R r bS bR m wr (HR.out.below HB.out) (by omega) (hold HB.out CS.out) (hold HB.out CR.out) HQ.out)
      go_wp2_with fail
      refine HC.out.mono ?_
      rintro e w1 ⟨rfl, hb1⟩
      have HB2 := boxed (below_step HB.out (Nat.le_refl _) hb1)
      clear hb1 HC
      by_cases hf : r ≤ (R m).hi
      · have tf : decide (r ≤ (R m).hi) = true := decide_eq_true hf
        have HN : Box ((∀ q, q < i → (R q).hi < r) ∧ ∀ q, m ≤ q → q < rn → r ≤ (R q).hi) := boxed ⟨HP.out.1, fun q hq1 hq2 => by
          by_cases c : q = m
          · subst c; exact hf
          · have := HI.out.2 m q (by omega) hq2
            have := HI.out.1 q hq2
            omega⟩
        clear hf
        generalize decide (r ≤ (R m).hi) = D at *
        go_wp2_with fail
        go_roundw
        case rel => exact ⟨i, m, m1, by omega, rfl, rfl, HN, HB2⟩
        case measure => simp [intOf]; omega
      · have tf : decide (r ≤ (R m).hi) = false := decide_eq_false hf
        have HN : Box ((∀ q, q < m + 1 → (R q).hi < r) ∧ ∀ q, j ≤ q → q < rn → r ≤ (R q).hi) := boxed ⟨fun q hq => by
          by_cases c : q = m
          · subst c; omega
          · have := HI.out.2 q m (by omega) (by omega)
            have := HI.out.1 m (by omega)
            omega, HP.out.2⟩
        clear hf
        generalize decide (r ≤ (R m).hi) = D at *
        go_wp2_with fail
        go_roundw
        case rel => exact ⟨m + 1, j, by omega, h2, by go_num, rfl, HN, HB2⟩
        case measure => simp [intOf]; omega
    · have e : i = j := by omega
      subst e
      go_wp2_with fail
      go_ret
      exact ⟨i, rfl, h2, HP.out.1, HP.out.2, HB.out⟩
end Go.Proofs.Ytcdcpmcjlchfgaa
