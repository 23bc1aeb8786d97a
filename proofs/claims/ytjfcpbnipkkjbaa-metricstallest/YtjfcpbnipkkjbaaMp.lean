/-
  The tallest style of runs, as the program's Tallest and the document's answer it.
-/
import Derived.Test.YtjfcpbnipkkjbaaMi
import Derived.Test.YtjfcpbnipkkjbaaMo
namespace Go.Proofs.Ytjfcpbnipkkjbaa
open Go.RowKit
set_option linter.unusedSimpArgs false
set_option linter.unusedVariables false

/-- The greatest height of the first k runs. -/
def tal (G : Nat → Sty) (n : Nat) (L Y : Nat → Int) : Nat → Int
  | 0 => 0
  | k + 1 => if 0 < L k ∧ tal G n L Y k < (ofS G n (Y k)).h then (ofS G n (Y k)).h else tal G n L Y k
def talT (G : Nat → Sty) (n : Nat) (L Y : Nat → Int) (m : Nat) : Int := if tal G n L Y m = 0 then (ofS G n 0).h else tal G n L Y m
theorem tal_like {F G : Nat → Sty} {n : Nat} (h : ∀ i, i < n → Like (F i) (G i)) (L Y : Nat → Int) (k : Nat) : tal G n L Y k = tal F n L Y k := by
  induction k with
  | zero => rfl
  | succ k ih => simp only [tal]; rw [ih, (ofS_like h (Y k)).h]
theorem talT_like {F G : Nat → Sty} {n : Nat} (h : ∀ i, i < n → Like (F i) (G i)) (L Y : Nat → Int) (m : Nat) : talT G n L Y m = talT F n L Y m := by
  unfold talT; rw [tal_like h, (ofS_like h 0).h]

set_option maxRecDepth 100000 in
set_option maxHeartbeats 1000000 in
theorem tallest_any {B : Nat} {w : World} {tb n : Nat} {G : Nat → Sty} (h : TabAt B w tb n G) (ao : Option Addr) (m cap : Nat) (L Y : Nat → Int) (hm : m ≤ maxLen) (hr : RunsAt w ao m L Y) :
    Calls Try.prog 28 #[.pointer (some ⟨tb, 0, none⟩), .slice ao m cap] w fun e w' => e = .returned (.int .i64 (talT G n L Y m)) ∧ Below w.heap.size w w' := by
  have HH := boxed (fun w' (hb : Below w.heap.size w w') a => height_any (h.below hb) a)
  have HR := boxed hr
  unfold maxLen at hm
  clear h hr
  go_enter Try.func28, Try.ntmps28
  go_wp2
  go_loopw [5, 7, 10] (fun v _ i wr => ∃ k : Nat, k ≤ m ∧ v = .int .i64 (tal G n L Y k) ∧ i = .int .i64 (k : Int) ∧ Box (Below w.heap.size w wr)) (fun _ _ i _ => m - (intOf i).toNat)
  case atStart => exact ⟨0, Nat.zero_le _, rfl, rfl, boxed (Below.refl _ _)⟩
  case round =>
    obtain ⟨k, hk, rfl, rfl, HB⟩ := hrel
    by_cases hlt : k < m
    · obtain ⟨-, b, off, e, c0, c1⟩ := (HR.out.below HB.out) k hlt
      subst e
      have hz := HB.out.size
      have t1 : decide ((k : Int) < (m : Int)) = true := decide_eq_true (by omega)
      have HT : Box (tal G n L Y (k + 1) = if 0 < L k ∧ tal G n L Y k < (ofS G n (Y k)).h then (ofS G n (Y k)).h else tal G n L Y k) := boxed rfl
      have hh := HH.out (wr.alloc (.cells #[.int .i64 (L k), .int .i64 (Y k)] 72)) (HB.out.alloc hz _) (Y k)
      generalize (ofS G n (Y k)).h = H at *
      generalize L k = l at *
      generalize Y k = y at *
      by_cases hl : 0 < l
      · have t2 : decide (0 < l) = true := decide_eq_true hl
        have HV : Box (tal G n L Y (k + 1) = if tal G n L Y k < H then H else tal G n L Y k) := boxed (by
          rw [HT.out]
          by_cases c : tal G n L Y k < H
          · rw [if_pos ⟨hl, c⟩, if_pos c]
          · rw [if_neg (by omega), if_neg c])
        clear hl HT
        generalize tal G n L Y k = T at *
        go_wp2_with fail
        refine hh.mono ?_
        rintro e w1 ⟨rfl, hb1⟩
        have HB1 := boxed (below_step (HB.out.alloc hz _) (Nat.le_refl _) hb1)
        clear hb1 hh c0 c1
        go_wp2
        go_roundw
        case rel => exact ⟨k + 1, by omega, by rw [HV.out], by go_num, HB1⟩
        case measure => simp [intOf]; omega
      · have t2 : decide (0 < l) = false := decide_eq_false hl
        have HV : Box (tal G n L Y (k + 1) = tal G n L Y k) := boxed (by rw [HT.out, if_neg (by omega)])
        clear hl HT hh
        generalize tal G n L Y k = T at *
        go_wp2
        go_roundw
        case rel => exact ⟨k + 1, by omega, by rw [HV.out], by go_num, boxed (by have hb := HB.out; go_grown)⟩
        case measure => simp [intOf]; omega
    · have e : k = m := by omega
      subst e
      have t1 : decide ((k : Int) < (k : Int)) = false := decide_eq_false (by omega)
      have h0 := HH.out wr HB.out 0
      have HT : Box (talT G n L Y k = if tal G n L Y k = 0 then (ofS G n 0).h else tal G n L Y k) := boxed rfl
      generalize (ofS G n 0).h = H at *
      generalize tal G n L Y k = T at *
      by_cases hz : T = 0
      · have HV : Box (talT G n L Y k = H) := boxed (by rw [HT.out, if_pos hz])
        subst hz
        go_wp2_with fail
        refine h0.mono ?_
        rintro e w1 ⟨rfl, hb1⟩
        have HB1 := boxed (below_step HB.out (Nat.le_refl _) hb1)
        clear hb1 h0
        go_wp2
        go_ret
        exact ⟨ret_int HV.out.symm, HB1.out⟩
      · have HV : Box (talT G n L Y k = T) := boxed (by rw [HT.out, if_neg hz])
        have t2 : (T == 0) = false := by simpa using hz
        clear hz h0
        go_wp2
        go_ret
        exact ⟨ret_int HV.out.symm, HB.out⟩

set_option maxRecDepth 100000 in
set_option maxHeartbeats 1000000 in
theorem reftallest_any (S : Nat → Prop) (ao : Option Addr) (n cap : Nat) (F : Nat → Sty) (w : World) (h : StysAt S w ao n F) (ar : Option Addr) (m capr : Nat) (L Y : Nat → Int) (hm : m ≤ maxLen) (hr : RunsAt w ar m L Y) :
    Calls Try.prog 29 #[.slice ao n cap, .slice ar m capr] w fun e w' => e = .returned (.int .i64 (talT F n L Y m)) ∧ Below w.heap.size w w' := by
  have HH := boxed (fun w' (hb : Below w.heap.size w w') a => refof_any S ao n cap F w' (h.below hb) a)
  have HR := boxed hr
  have hf := fld0
  unfold maxLen at hm
  clear h hr
  go_enter Try.func29, Try.ntmps29
  go_wp2
  go_loopw [5, 6, 7] (fun v i _ wr => ∃ k : Nat, k ≤ m ∧ v = .int .i64 (tal F n L Y k) ∧ i = .int .i64 (k : Int) ∧ Box (Below w.heap.size w wr)) (fun _ i _ _ => m - (intOf i).toNat)
  case atStart => exact ⟨0, Nat.zero_le _, rfl, rfl, boxed (Below.refl _ _)⟩
  case round =>
    obtain ⟨k, hk, rfl, rfl, HB⟩ := hrel
    by_cases hlt : k < m
    · obtain ⟨-, b, off, e, c0, c1⟩ := (HR.out.below HB.out) k hlt
      subst e
      have t1 : decide ((k : Int) < (m : Int)) = true := decide_eq_true (by omega)
      have HT : Box (tal F n L Y (k + 1) = if 0 < L k ∧ tal F n L Y k < (ofS F n (Y k)).h then (ofS F n (Y k)).h else tal F n L Y k) := boxed rfl
      have hh := HH.out wr HB.out (Y k)
      unfold Sty.val at hh
      generalize ofS F n (Y k) = s at *
      generalize hl0 : L k = l at *
      generalize Y k = y at *
      generalize tal F n L Y k = T at *
      go_wp2_with fail
      refine hh.mono ?_
      rintro e w1 ⟨rfl, hb1⟩
      have HB1 := boxed (below_step HB.out (Nat.le_refl _) hb1)
      have d0 := hold hb1 c0
      clear hb1 hh c0 c1
      by_cases hl : 0 < l
      · have t2 : decide (0 < l) = true := decide_eq_true hl
        by_cases hg : T < s.h
        · have t3 : decide (T < s.h) = true := decide_eq_true hg
          have HV : Box (tal F n L Y (k + 1) = s.h) := boxed (by rw [HT.out, if_pos ⟨hl, hg⟩])
          clear hl hg HT
          go_wp2
          go_roundw
          case rel => exact ⟨k + 1, by omega, by rw [HV.out], by go_num, HB1⟩
          case measure => simp [intOf]; omega
        · have t3 : decide (T < s.h) = false := decide_eq_false hg
          have HV : Box (tal F n L Y (k + 1) = T) := boxed (by rw [HT.out, if_neg (by omega)])
          clear hl hg HT
          go_wp2
          go_roundw
          case rel => exact ⟨k + 1, by omega, by rw [HV.out], by go_num, HB1⟩
          case measure => simp [intOf]; omega
      · have t2 : decide (0 < l) = false := decide_eq_false hl
        have HV : Box (tal F n L Y (k + 1) = T) := boxed (by rw [HT.out, if_neg (by omega)])
        clear hl HT
        go_wp2
        go_roundw
        case rel => exact ⟨k + 1, by omega, by rw [HV.out], by go_num, HB1⟩
        case measure => simp [intOf]; omega
    · have e : k = m := by omega
      subst e
      have t1 : decide ((k : Int) < (k : Int)) = false := decide_eq_false (by omega)
      have h0 := HH.out wr HB.out 0
      have HT : Box (talT F n L Y k = if tal F n L Y k = 0 then (ofS F n 0).h else tal F n L Y k) := boxed rfl
      unfold Sty.val at h0
      generalize ofS F n 0 = s at *
      generalize tal F n L Y k = T at *
      by_cases hz : T = 0
      · have HV : Box (talT F n L Y k = s.h) := boxed (by rw [HT.out, if_pos hz])
        subst hz
        go_wp2_with fail
        refine h0.mono ?_
        rintro e w1 ⟨rfl, hb1⟩
        have HB1 := boxed (below_step HB.out (Nat.le_refl _) hb1)
        clear hb1 h0
        go_wp2
        go_ret
        exact ⟨ret_int HV.out.symm, HB1.out⟩
      · have HV : Box (talT F n L Y k = T) := boxed (by rw [HT.out, if_neg hz])
        have t2 : (T == 0) = false := by simpa using hz
        clear hz h0
        go_wp2
        go_ret
        exact ⟨ret_int HV.out.symm, HB.out⟩
end Go.Proofs.Ytjfcpbnipkkjbaa
