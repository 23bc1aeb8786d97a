/-
  What the program's small functions of layer 1 answer, each called with any numbers of 64 bits: Clamp, in any world.
-/
import Derived.Test.YtcjcdpfjnomehaaGreatRows
import Derived.WalkKit
import Derived.WalkSpells
import Derived.Deep.QuietTactic
import Derived.BigQuiet
import Derived.Test.YtcjcdpfjnomehaaGreatPk0
namespace Go.Proofs.YtcjcdpfjnomehaaGreat
open Go.RowKit
set_option linter.unusedSimpArgs false
set_option linter.unusedVariables false
theorem ret_int {k : IntKind} {a b : Int} (h : a = b) : Ending.returned (.int k a) = .returned (.int k b) := by rw [h]
theorem bel_drewN (B : Nat) (w : World) (n : Nat) : Below B w (w.drewN n) := ⟨rfl, rfl, rfl, Nat.le_refl _, fun _ _ => rfl⟩
theorem ret_bool {a b : Bool} (h : a = b) : Ending.returned (.bool a) = .returned (.bool b) := by rw [h]
set_option maxRecDepth 100000 in
set_option maxHeartbeats 400000 in
theorem clamp_any (a : Int) (w : World) :
    Calls Tryz.prog 187 #[.int .i64 a] w fun e w' => e = .returned (.int .i64 (cl a)) ∧ w' = w := by
  unfold cl
  by_cases h1 : a < -1152921504606846976
  · go_enter Tryz.func187, Tryz.ntmps187
    go_wp2
    go_ret
    exact ⟨by simp [h1], rfl⟩
  · by_cases h2 : 1152921504606846976 < a
    · go_enter Tryz.func187, Tryz.ntmps187
      go_wp2
      go_ret
      exact ⟨by simp [h1, h2], rfl⟩
    · go_enter Tryz.func187, Tryz.ntmps187
      go_wp2
      go_ret
      exact ⟨by simp [h1, h2], rfl⟩
def dv (a b : Int) : Int := if b = 0 then 0 else (cl a).fdiv (cl b)
def md (a b : Int) : Int := if b = 0 then 0 else (cl a).fmod (cl b)
def nz (b : Int) : Bool := !(b == 0)
theorem nz_t (b : Int) (h : ¬ b = 0) : nz b = true := by unfold nz; simp [h]
theorem nz_f (b : Int) (h : b = 0) : nz b = false := by unfold nz; simp [h]
end Go.Proofs.YtcjcdpfjnomehaaGreat

/-
  What Add (the program's and the document's), the document's Clamp and the program's size answer, for any numbers, and what sums that are never cut off come to: plain arithmetic first, then the walks.
-/
namespace Go.Proofs.YtcjcdpfjnomehaaGreat
open Go.RowKit
set_option linter.unusedSimpArgs false
set_option linter.unusedVariables false
def ad (a b : Int) : Int := cl (cl a + cl b)
def fs (l : List Int) : Int := l.foldl ad 0
def tot (l : List Int) : Int := (l.map cl).sum
set_option maxRecDepth 100000 in
set_option maxHeartbeats 400000 in
theorem add_any (a b : Int) (w : World) :
    Calls Tryz.prog 170 #[.int .i64 a, .int .i64 b] w fun e w' => e = .returned (.int .i64 (ad a b)) ∧ w' = w := by
  unfold ad
  have h1 := cl_le a
  have h2 := cl_le b
  go_enter Tryz.func170, Tryz.ntmps170
  go_wp2_with (go_at_call 187; refine (clamp_any _ _).mono ?_; rintro e w' ⟨rfl, rfl⟩)
  go_ret
  exact ⟨rfl, rfl⟩
set_option maxRecDepth 100000 in
set_option maxHeartbeats 400000 in
theorem size_any (a : Int) (w : World) (h1 : -1152921504606846976 ≤ a) (h2 : a ≤ 1152921504606846976) :
    Calls Tryz.prog 217 #[.int .i64 a] w fun e w' => e = .returned (.int .u64 (a.natAbs : Int)) ∧ w' = w := by
  by_cases h : 0 ≤ a
  · go_enter Tryz.func217, Tryz.ntmps217
    go_wp2
    go_ret
    exact ⟨ret_int (by omega), rfl⟩
  · go_enter Tryz.func217, Tryz.ntmps217
    go_wp2
    go_ret
    exact ⟨ret_int (by omega), rfl⟩
end Go.Proofs.YtcjcdpfjnomehaaGreat

/-
  What Gcd and Lowest (the program's and the document's) answer for any two numbers: the greatest common divisor of the clamped numbers, and the fraction divided by it.
-/
namespace Go.Proofs.YtcjcdpfjnomehaaGreat
open Go.RowKit
set_option linter.unusedSimpArgs false
set_option linter.unusedVariables false
theorem hid_in {p : Prop} (h : p) : Hid p := h
def gc (a b : Int) : Int := (Nat.gcd (cl a).natAbs (cl b).natAbs : Nat)
set_option maxRecDepth 100000 in
set_option maxHeartbeats 400000 in
theorem gcd_any (a b : Int) (w : World) :
    Calls Tryz.prog 209 #[.int .i64 a, .int .i64 b] w fun e w' => e = .returned (.int .i64 (gc a b)) ∧ ∃ n, w' = w.drewN n := by
  have ha := cl_le a
  have hb := cl_le b
  unfold gc
  go_enter Tryz.func209, Tryz.ntmps209
  go_wp2_with (first | (go_at_call 187; refine (clamp_any _ _).mono ?_; rintro e w' ⟨rfl, hw'⟩; subst w') | (go_at_call 217; refine (size_any _ _ (by omega) (by omega)).mono ?_; rintro e w' ⟨rfl, hw'⟩; subst w'))
  have hx : (cl a).natAbs ≤ 1152921504606846976 := by omega
  have hy : (cl b).natAbs ≤ 1152921504606846976 := by omega
  clear ha hb
  generalize hx0 : (cl a).natAbs = x0 at *
  generalize hy0 : (cl b).natAbs = y0 at *
  have HX := hid_in hx0
  have HY0 := hid_in hy0
  clear hx0 hy0
  go_loopw [5, 6] (fun s t wr => ∃ (x y n : Nat), x ≤ 1152921504606846976 ∧ y ≤ 1152921504606846976 ∧ s = .int .u64 x ∧ t = .int .u64 y ∧ Nat.gcd x y = Nat.gcd x0 y0 ∧ wr = w.drewN n) (fun _ t _ => (intOf t).toNat)
  case atStart => exact ⟨x0, y0, 0, hx, hy, rfl, rfl, rfl, rfl⟩
  case round =>
    obtain ⟨x, y, n, h1, h2, rfl, rfl, hg, rfl⟩ := hrel
    have HG := hid_in hg
    clear hg
    by_cases h : y = 0
    · have hb : ((y : Int) != 0) = false := by simpa using h
      have HY := hid_in h
      clear h
      go_wp2
      go_ret
      exact ⟨ret_int (by have := HG.out; rw [HY.out, Nat.gcd_zero_right] at this; rw [this, HX.out, HY0.out]), _, rfl⟩
    · have hb : ((y : Int) != 0) = true := by simpa using h
      go_wp2
      go_quiet (fail)
      go_wp2
      go_roundw
      case rel =>
        refine ⟨y, x % y, n + nq, h2, ?_, rfl, ?_, ?_, World.drewN_drewN _ _ _⟩
        · have := Nat.mod_lt x (Nat.pos_of_ne_zero h); omega
        · rw [Int.natCast_emod]
        · rw [← HG.out, Nat.gcd_comm x y, Nat.gcd_rec y x, Nat.gcd_comm]
      case measure =>
        have h3 := Nat.mod_lt x (Nat.pos_of_ne_zero h)
        simp only [intOf, Array.getD_eq_getD_getElem?]
        have h4 : ((x : Int) % (y : Int)).toNat = x % y := by rw [← Int.natCast_emod]; rfl
        simp [h4]
        omega
theorem gc_cl (a b : Int) : gc (cl a) (cl b) = gc a b := by unfold gc; rw [cl_cl, cl_cl]
theorem gc_pos (a b : Int) (h : ¬ b = 0) : 1 ≤ gc a b ∧ gc a b ≤ 1152921504606846976 := by
  unfold gc
  have hb := cl_le b
  have hn : (cl b).natAbs ≠ 0 := by have := cl_zero b; omega
  have h1 : 0 < Nat.gcd (cl a).natAbs (cl b).natAbs := Nat.gcd_pos_of_pos_right _ (by omega)
  have h2 := Nat.le_of_dvd (by omega) (Nat.gcd_dvd_right (cl a).natAbs (cl b).natAbs)
  omega
def gs (a b : Int) : Int := if cl b < 0 then -gc a b else gc a b
def lo1 (a b : Int) : Int := if b = 0 then 0 else (cl a).tdiv (gs a b)
def lo2 (a b : Int) : Int := if b = 0 then 1 else (cl b).tdiv (gs a b)
set_option maxRecDepth 100000 in
set_option maxHeartbeats 400000 in
theorem lowest_zero (a b : Int) (w : World) (hb : (b == 0) = true) :
    Calls Tryz.prog 188 #[.int .i64 a, .int .i64 b] w fun e w' => e = .returned (.tuple #[.int .i64 0, .int .i64 1]) ∧ ∃ n, w' = w.drewN n := by
  go_enter Tryz.func188, Tryz.ntmps188
  go_wp2_with fail
  go_ret2
  exact ⟨rfl, 0, rfl⟩
set_option maxRecDepth 100000 in
set_option maxHeartbeats 400000 in
theorem lowest_some (a b : Int) (w : World) (hb : (b == 0) = false) (h0 : 1 ≤ gc a b ∧ gc a b ≤ 1152921504606846976) :
    Calls Tryz.prog 188 #[.int .i64 a, .int .i64 b] w fun e w' => e = .returned (.tuple #[.int .i64 ((cl a).tdiv (gs a b)), .int .i64 ((cl b).tdiv (gs a b))]) ∧ ∃ n, w' = w.drewN n := by
  have ha := cl_le a
  have hy := cl_le b
  by_cases s : cl b < 0
  · have e : gs a b = -gc a b := by simp [gs, s]
    have t1 := td_le (cl a) (gc a b)
    have t2 := td_le (cl b) (gc a b)
    rw [e, Int.tdiv_neg, Int.tdiv_neg]
    clear e
    have b1 : -1152921504606846976 ≤ (cl a).tdiv (gc a b) ∧ (cl a).tdiv (gc a b) ≤ 1152921504606846976 := by omega
    have b2 : -1152921504606846976 ≤ (cl b).tdiv (gc a b) ∧ (cl b).tdiv (gc a b) ≤ 1152921504606846976 := by omega
    clear t1 t2
    have hz : ¬ -gc a b = 0 := by omega
    go_enter Tryz.func188, Tryz.ntmps188
    go_wp2_with (go_at_call 187; refine (clamp_any _ _).mono ?_; rintro e w' ⟨rfl, hw'⟩; subst w')
    refine (gcd_any _ _ _).mono ?_
    rintro e w' ⟨rfl, n, rfl⟩
    rw [gc_cl]
    go_wp2_with fail
    go_quiet (fail)
    go_wp2_with fail
    go_ret2
    exact ⟨rfl, _, World.drewN_drewN _ _ _⟩
  · have e : gs a b = gc a b := by simp [gs, s]
    have t1 := td_le (cl a) (gc a b)
    have t2 := td_le (cl b) (gc a b)
    rw [e]
    clear e
    have b1 : -1152921504606846976 ≤ (cl a).tdiv (gc a b) ∧ (cl a).tdiv (gc a b) ≤ 1152921504606846976 := by omega
    have b2 : -1152921504606846976 ≤ (cl b).tdiv (gc a b) ∧ (cl b).tdiv (gc a b) ≤ 1152921504606846976 := by omega
    clear t1 t2
    have hz : ¬ gc a b = 0 := by omega
    go_enter Tryz.func188, Tryz.ntmps188
    go_wp2_with (go_at_call 187; refine (clamp_any _ _).mono ?_; rintro e w' ⟨rfl, hw'⟩; subst w')
    refine (gcd_any _ _ _).mono ?_
    rintro e w' ⟨rfl, n, rfl⟩
    rw [gc_cl]
    go_wp2_with fail
    go_quiet (fail)
    go_wp2_with fail
    go_ret2
    exact ⟨rfl, _, World.drewN_drewN _ _ _⟩
theorem lowest_any (a b : Int) (w : World) :
    Calls Tryz.prog 188 #[.int .i64 a, .int .i64 b] w fun e w' => e = .returned (.tuple #[.int .i64 (lo1 a b), .int .i64 (lo2 a b)]) ∧ ∃ n, w' = w.drewN n := by
  by_cases h : b = 0
  · have e1 : lo1 a b = 0 := by simp [lo1, h]
    have e2 : lo2 a b = 1 := by simp [lo2, h]
    rw [e1, e2]
    exact lowest_zero a b w (by simpa using h)
  · have e1 : lo1 a b = (cl a).tdiv (gs a b) := by simp [lo1, h]
    have e2 : lo2 a b = (cl b).tdiv (gs a b) := by simp [lo2, h]
    rw [e1, e2]
    exact lowest_some a b w (by simpa using h) (gc_pos a b h)
end Go.Proofs.YtcjcdpfjnomehaaGreat

/-
  What the document's Of answers for any number: the digits of the clamped number without its sign, in new memory, with no nought at the end.
-/
namespace Go.Proofs.YtcjcdpfjnomehaaGreat
open Go.RowKit
set_option linter.unusedSimpArgs false
set_option linter.unusedVariables false
theorem info_int : (Tryz.prog.info? 3).map (fun i => (i.zero, i.size, i.bytes)) = some (some (.int .i64 0), 1, 8) := by kernel_rfl
def vals (l : List Nat) : List Value := l.map fun (d : Nat) => Value.int .i64 (d : Int)
theorem vals_len (l : List Nat) : (vals l).length = l.length := by simp [vals]
theorem vals_get (l : List Nat) (j : Nat) (h : j < l.length) : (vals l)[j]? = some (.int .i64 ((l.getD j 0 : Nat) : Int)) := by
  simp [vals, h]
theorem vals_snoc (l : List Nat) (x : Nat) : vals l ++ [.int .i64 (x : Int)] = vals (l ++ [x]) := by simp [vals]
def Dg (w : World) (ao : Option Addr) (cap : Nat) (l : List Nat) : Prop :=
  (l.length ≤ cap ∧ cap ≤ maxLen) ∧ (l = [] ∨ ∃ b off, ao = some ⟨b, off, none⟩ ∧ b < w.heap.size ∧ ∀ i, i < l.length → w.cell? ⟨b, off + i, none⟩ = some (.int .i64 ((l.getD i 0 : Nat) : Int)))
theorem Dg.below {w w' : World} {ao : Option Addr} {cap : Nat} {l : List Nat} (h : Dg w ao cap l) (hb : Below w.heap.size w w') : Dg w' ao cap l := by
  obtain ⟨hc, h⟩ := h
  refine ⟨hc, ?_⟩
  rcases h with h | ⟨b, off, h1, h2, h3⟩
  · exact Or.inl h
  · refine Or.inr ⟨b, off, h1, Nat.lt_of_lt_of_le h2 hb.size, fun i hi => ?_⟩
    rw [hb.cell (p := ⟨b, off + i, none⟩) h2]
    exact h3 i hi
theorem dg_of_owns {w : World} {base n : Nat} {v : Value} {l : List Nat} (h : w.ownsRow base 3 1 v n (vals l)) : n = l.length ∧ ∃ ao cap, v = .slice ao l.length cap ∧ Dg w ao cap l := by
  have hl : l.length = n := by have := h.1; rw [vals_len] at this; omega
  refine ⟨hl.symm, ?_⟩
  subst hl
  rcases h.2 with ⟨rfl, h0⟩ | ⟨g, cap, cur, rfl, hg, hh, hle, hm, hc, ht⟩
  · have : l = [] := List.eq_nil_of_length_eq_zero h0
    subst this
    exact ⟨none, 0, rfl, ⟨by simp, by unfold maxLen; omega⟩, Or.inl rfl⟩
  · refine ⟨some ⟨g, 0, none⟩, cap, rfl, ⟨hle, hm⟩, Or.inr ⟨g, 0, rfl, ?_, fun i hi => ?_⟩⟩
    · exact (h.lt g rfl).2
    · have := h.cellAt i (by omega)
      rw [Nat.zero_add, this, vals_get l i hi]
end Go.Proofs.YtcjcdpfjnomehaaGreat
