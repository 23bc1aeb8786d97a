/-
  What the program's Check answers: the first fault of a text in styles.
-/
import Derived.Test.YteckbkcngkppmaaJk
namespace Go.Proofs.Yteckbkcngkppmaa
open Go.RowKit
set_option linter.unusedSimpArgs false
set_option linter.unusedVariables false

theorem ne_isEmpty (r : ByteArray) (h : r.size ≠ 0) : r.toList.isEmpty = false := by
  rw [ByteArray.toList_eq]
  cases hc : r.data.toList with
  | nil => exact absurd (by have := congrArg List.length hc; simpa using this) h
  | cons a t => rfl
theorem is_empty (r : ByteArray) (h : r.size = 0) : r = ⟨#[]⟩ := by
  obtain ⟨d⟩ := r
  have : d = #[] := Array.eq_empty_of_size_eq_zero h
  rw [this]

set_option maxRecDepth 100000 in
set_option maxHeartbeats 2000000 in
theorem check7_any {B : Nat} {w : World} {tb n : Nat} {G : Nat → Sty} (h : TabAt B w tb n G) (t : ByteArray) (N : Nat) (hN : Cnt t N) (hs : t.size ≤ 1048576) (ao : Option Addr) (m cap : Nat) (Ln Ys : Nat → Int) (hr : RunsAt w ao m Ln Ys) (hm : m ≤ maxLen) :
    Calls Try.prog 13 #[.pointer (some ⟨tb, 0, none⟩), .string t, .slice ao m cap] w fun e w' => e = .returned (.int .i64 (ck t N n m Ln Ys)) ∧ Below w.heap.size w w' := by
  have hms : t.size ≤ maxLen := by unfold maxLen; omega
  have hck := fun w => Rd.check_any t w hms N hN
  unfold Rd.chk at hck
  by_cases hb : badAt t N < 0
  rotate_left
  · have HV : Box (ck t N n m Ln Ys = 20) := boxed (by unfold ck; rw [if_neg hb])
    rw [if_neg hb] at hck
    generalize ck t N n m Ln Ys = V at *
    clear h hr
    go_enter Try.func13, Try.ntmps13
    go_wp2_with (go_at_call 34; refine (hck _).mono ?_; rintro e w1 ⟨rfl, hw'⟩; subst w1)
    go_ret
    exact ⟨ret_int HV.out.symm, Below.refl _ _⟩
  rw [if_pos hb] at hck
  have hR := right_of t N hN hb
  have HC : Box (ck t N n m Ln Ys = if t.size = 0 ∨ early t = true then 70 else if crs t N n Ln Ys m = 0 then (if pre Ln m = (t.size : Int) then 0 else 70) else crs t N n Ln Ys m) := boxed (by unfold ck; rw [if_pos hb])
  generalize ck t N n m Ln Ys = V at *
  by_cases h0 : t.size = 0
  · have HV : Box (V = 70) := boxed (by rw [HC.out, if_pos (Or.inl h0)])
    obtain rfl := is_empty t h0
    clear h hr
    go_enter Try.func13, Try.ntmps13
    go_wp2_with (go_at_call 34; refine (hck _).mono ?_; rintro e w1 ⟨rfl, hw'⟩; subst w1)
    go_ret
    exact ⟨ret_int HV.out.symm, Below.refl _ _⟩
  have hE := ne_isEmpty t h0
  have hea := fun w => early_any t w hms (by omega)
  cases he : early t
  rotate_left
  · have HV : Box (V = 70) := boxed (by rw [HC.out, if_pos (Or.inr he)])
    rw [he] at hea
    clear h hr
    go_enter Try.func13, Try.ntmps13
    go_wp2_with fail
    refine (hck _).mono ?_
    rintro e w1 ⟨rfl, hw'⟩; subst w1
    go_wp2_with (go_at_call 35; refine (hea _).mono ?_; rintro e w1 ⟨rfl, hw'⟩; subst w1)
    go_ret
    exact ⟨ret_int HV.out.symm, Below.refl _ _⟩
  rw [he] at hea
  have HC2 : Box (V = if crs t N n Ln Ys m = 0 then (if pre Ln m = (t.size : Int) then 0 else 70) else crs t N n Ln Ys m) := boxed (by rw [HC.out, if_neg (by rintro (c | c); exact h0 c; rw [he] at c; cases c)])
  have HR := boxed hr
  have HX := boxed (fun w' (hb : Below w.heap.size w w') a l y ha => checkRun_any (h.below hb) t N hR hs a l y ha)
  unfold maxLen at hm
  clear h hr HC hR he hb hN
  go_enter Try.func13, Try.ntmps13
  go_wp2_with fail
  refine (hck _).mono ?_
  rintro e w1 ⟨rfl, hw'⟩; subst w1
  go_wp2_with fail
  refine (hea _).mono ?_
  rintro e w1 ⟨rfl, hw'⟩; subst w1
  clear hck hea
  go_wp2
  go_loopw [8, 10, 11, 25] (fun a _ _ i wr => ∃ k : Nat, k ≤ m ∧ a = .int .i64 (pre Ln k) ∧ i = .int .i64 (k : Int) ∧ Box (crs t N n Ln Ys k = 0) ∧ Box (Below w.heap.size w wr)) (fun _ _ _ i _ => m - (intOf i).toNat)
  case atStart => exact ⟨0, Nat.zero_le _, rfl, rfl, boxed rfl, boxed (Below.refl _ _)⟩
  case round =>
    obtain ⟨k, hk, rfl, rfl, H0, HB⟩ := hrel
    have hpi := pre_in t N n Ln Ys k H0.out
    by_cases hlt : k < m
    · obtain ⟨-, b, off, e, c0, c1⟩ := (HR.out.below HB.out) k hlt
      subst e
      have q5 : b < wr.heap.size := World.block_lt_of_cell? wr _ c0
      have q6 : b ≠ wr.heap.size := by omega
      have hcr := fun w' (hb : Below w.heap.size w w') => HX.out w' hb (pre Ln k) (Ln k) (Ys k) hpi
      rw [← cr_crx] at hcr
      have HH := boxed (fun h => crs_hit t N n Ln Ys k m H0.out h hlt)
      have HN := boxed (crs_next t N n Ln Ys k H0.out)
      have HZ := boxed (fun h => cr_zero (t := t) (N := N) (n := n) (Ln := Ln) (Ys := Ys) (k := k) h)
      have HP : Box (pre Ln (k + 1) = pre Ln k + Ln k) := boxed rfl
      have t3 : decide ((k : Int) < (m : Int)) = true := decide_eq_true (by omega)
      generalize cr t N n Ln Ys k = R at *
      generalize pre Ln k = A at *
      generalize Ln k = l at *
      generalize Ys k = y at *
      obtain ⟨hp1, hp2⟩ := hpi
      have HB2 : Box (Below w.heap.size w (wr.alloc (.cells #[.int .i64 l, .int .i64 y] 49))) := boxed (HB.out.alloc HB.out.size _)
      go_wp2_with fail
      refine (hcr _ HB2.out).mono ?_
      rintro e w1 ⟨rfl, hb1⟩
      have HB3 := boxed (below_step HB2.out (Nat.le_refl _) hb1)
      have d0 : w1.cell? ⟨wr.heap.size, 0, none⟩ = some (.int .i64 l) := hold hb1 (cell_first _ _ _ _)
      clear hcr c0 c1 hb1
      by_cases hz : R = 0
      · subst hz
        have hl := HZ.out rfl
        have hl1 := hl.1
        have hl2 := hl.2.1
        have HN1 := boxed (HN.out rfl)
        clear hl
        go_wp2
        go_roundw
        case rel => exact ⟨k + 1, by omega, by rw [HP.out], by go_num, HN1, HB3⟩
        case measure => simp [intOf]; omega
      · have tz : (R != 0) = true := by simpa using hz
        have HV : Box (V = R) := boxed (by rw [HC2.out, HH.out hz, if_neg hz])
        clear hz
        go_wp2
        go_ret
        exact ⟨ret_int HV.out.symm, HB3.out⟩
    · have e : k = m := by omega
      subst e
      by_cases hp : pre Ln k = (t.size : Int)
      · have HV : Box (V = 0) := boxed (by rw [HC2.out, if_pos H0.out, if_pos hp])
        rw [hp]
        clear hp hpi
        go_wp2
        go_ret
        exact ⟨ret_int HV.out.symm, HB.out⟩
      · have HV : Box (V = 70) := boxed (by rw [HC2.out, if_pos H0.out, if_neg hp])
        have tp : (pre Ln k != (t.size : Int)) = true := by simpa using hp
        clear hp hpi
        generalize pre Ln k = A at *
        go_wp2
        go_ret
        exact ⟨ret_int HV.out.symm, HB.out⟩
end Go.Proofs.Yteckbkcngkppmaa
