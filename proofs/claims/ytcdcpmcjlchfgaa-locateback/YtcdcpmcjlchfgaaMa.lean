/-
  Styles as they lie in memory; the first fault of a style's ranges, of a style and of a list of styles, in plain words; and what the program's unit and rangesFault and the document's fits answer.
-/
import Derived.Test.YtcdcpmcjlchfgaaUa
import Derived.WalkSpells
import Derived.WalkMore
import Derived.Laws.RangeAny
import Derived.Laws.RangeString
import Derived.Deep.QuietTactic
import Derived.BigQuiet
import Derived.Handy
namespace Go.Proofs.Ytcdcpmcjlchfgaa
open Go.RowKit
set_option linter.unusedSimpArgs false
set_option linter.unusedVariables false

theorem ret_int {k : IntKind} {a b : Int} (h : a = b) : Ending.returned (.int k a) = .returned (.int k b) := by rw [h]
theorem ret_bool {a b : Bool} (h : a = b) : Ending.returned (.bool a) = .returned (.bool b) := by rw [h]
theorem ret_two {k k' : IntKind} {a b c d : Int} (h1 : a = c) (h2 : b = d) : Ending.returned (.tuple #[.int k a, .int k' b]) = .returned (.tuple #[.int k c, .int k' d]) := by rw [h1, h2]
theorem bel_drewN (B : Nat) (w : World) (n : Nat) : Below B w (w.drewN n) := ⟨rfl, rfl, rfl, Nat.le_refl _, fun _ _ => rfl⟩
theorem hold {w w' : World} {a : Addr} {v : Value} (hb : Below w.heap.size w w') (h : w.cell? a = some v) : w'.cell? a = some v := by
  rw [hb.cell (World.block_lt_of_cell? w _ h)]; exact h
theorem below_step {B : Nat} {w w1 w2 : World} (h1 : Below B w w1) (hB : B ≤ w.heap.size) (h2 : Below w1.heap.size w1 w2) : Below B w w2 :=
  h1.trans (h2.mono (Nat.le_trans hB h1.size))

def I64 (n : Int) : Prop := -9223372036854775808 ≤ n ∧ n ≤ 9223372036854775807
structure Rg where
  lo : Int
  hi : Int
  wd : Int
def RgOk (r : Rg) : Prop := I64 r.lo ∧ I64 r.hi ∧ I64 r.wd
/-- Ranges as they lie in memory, in blocks that S names. -/
def RgsAt (S : Nat → Prop) (w : World) (ra : Option Addr) (rn : Nat) (R : Nat → Rg) : Prop := ∀ j, j < rn → RgOk (R j) ∧ ∃ b off, ra = some ⟨b, off, none⟩ ∧ S b ∧
    w.cell? ⟨b, off + j * 3, none⟩ = some (.int .i64 (R j).lo) ∧ w.cell? ⟨b, off + j * 3 + 1, none⟩ = some (.int .i64 (R j).hi) ∧ w.cell? ⟨b, off + j * 3 + 2, none⟩ = some (.int .i64 (R j).wd)
/-- What S names, if it is there, is there still, and named. -/
def Kp (S S' : Nat → Prop) (w w' : World) : Prop := ∀ b i u, S b → w.cell? ⟨b, i, none⟩ = some u → S' b ∧ w'.cell? ⟨b, i, none⟩ = some u
theorem kp_below {S : Nat → Prop} {w w' : World} (h : Below w.heap.size w w') : Kp S S w w' := fun b i u hs hc => ⟨hs, hold h hc⟩
theorem RgsAt.keep {S S' : Nat → Prop} {w w' : World} {ra : Option Addr} {rn : Nat} {R : Nat → Rg} (h : RgsAt S w ra rn R) (k : Kp S S' w w') : RgsAt S' w' ra rn R := by
  intro j hj
  obtain ⟨h1, b, off, e, hs, c0, c1, c2⟩ := h j hj
  exact ⟨h1, b, off, e, (k _ _ _ hs c0).1, (k _ _ _ hs c0).2, (k _ _ _ hs c1).2, (k _ _ _ hs c2).2⟩

/-- A style as a value: its ranges are where they are. -/
structure Sty where
  h : Int
  sp : Int
  st : Int
  sh : Int
  hy : Int
  ot : Int
  ra : Option Addr
  rn : Nat
  rc : Nat
  keep : Bool
  R : Nat → Rg
def Sty.val (s : Sty) : Value := .agg #[.int .i64 s.h, .int .i64 s.sp, .int .i64 s.st, .int .i64 s.sh, .int .i64 s.hy, .int .i64 s.ot, .slice s.ra s.rn s.rc, .bool s.keep]
structure StyOk (s : Sty) : Prop where
  h : I64 s.h
  sp : I64 s.sp
  st : I64 s.st
  sh : I64 s.sh
  hy : I64 s.hy
  ot : I64 s.ot
  rn : s.rn ≤ s.rc ∧ s.rn * 24 ≤ 140737488351232
  nil : s.ra = none → s.rn = 0 ∧ s.rc = 0
/-- Styles as they lie in memory. -/
def StysAt (S : Nat → Prop) (w : World) (ao : Option Addr) (n : Nat) (F : Nat → Sty) : Prop := ∀ i, i < n → StyOk (F i) ∧ RgsAt S w (F i).ra (F i).rn (F i).R ∧ ∃ b off, ao = some ⟨b, off, none⟩ ∧ S b ∧
    w.cell? ⟨b, off + i * 8, none⟩ = some (.int .i64 (F i).h) ∧ w.cell? ⟨b, off + i * 8 + 1, none⟩ = some (.int .i64 (F i).sp) ∧ w.cell? ⟨b, off + i * 8 + 2, none⟩ = some (.int .i64 (F i).st) ∧
    w.cell? ⟨b, off + i * 8 + 3, none⟩ = some (.int .i64 (F i).sh) ∧ w.cell? ⟨b, off + i * 8 + 4, none⟩ = some (.int .i64 (F i).hy) ∧ w.cell? ⟨b, off + i * 8 + 5, none⟩ = some (.int .i64 (F i).ot) ∧
    w.cell? ⟨b, off + i * 8 + 6, none⟩ = some (.slice (F i).ra (F i).rn (F i).rc) ∧ w.cell? ⟨b, off + i * 8 + 7, none⟩ = some (.bool (F i).keep)
theorem StysAt.keep {S S' : Nat → Prop} {w w' : World} {ao : Option Addr} {n : Nat} {F : Nat → Sty} (h : StysAt S w ao n F) (k : Kp S S' w w') : StysAt S' w' ao n F := by
  intro i hi
  obtain ⟨h1, h2, b, off, e, hs, c0, c1, c2, c3, c4, c5, c6, c7⟩ := h i hi
  exact ⟨h1, h2.keep k, b, off, e, (k _ _ _ hs c0).1, (k _ _ _ hs c0).2, (k _ _ _ hs c1).2, (k _ _ _ hs c2).2, (k _ _ _ hs c3).2, (k _ _ _ hs c4).2, (k _ _ _ hs c5).2, (k _ _ _ hs c6).2, (k _ _ _ hs c7).2⟩
theorem RgsAt.below {S : Nat → Prop} {w w' : World} {ra : Option Addr} {rn : Nat} {R : Nat → Rg} (h : RgsAt S w ra rn R) (hb : Below w.heap.size w w') : RgsAt S w' ra rn R := h.keep (kp_below hb)
theorem StysAt.below {S : Nat → Prop} {w w' : World} {ao : Option Addr} {n : Nat} {F : Nat → Sty} (h : StysAt S w ao n F) (hb : Below w.heap.size w w') : StysAt S w' ao n F := h.keep (kp_below hb)

/-- May a style have that measure? -/
def un (n : Int) : Bool := decide (0 ≤ n) && decide (n ≤ 1048576)
/-- The Hi of the range ahead. -/
def ahd (R : Nat → Rg) (k : Nat) : Int := if k = 0 then -1 else (R (k - 1)).hi
/-- The fault of the range k. -/
def rfa (R : Nat → Rg) (k : Nat) : Int := if (R k).lo ≤ ahd R k ∨ (R k).hi < (R k).lo ∨ 1114111 < (R k).hi then 42 else if un (R k).wd = true then 0 else 41
/-- The first fault of the first k ranges. -/
def rfs (R : Nat → Rg) : Nat → Int
  | 0 => 0
  | k + 1 => if rfs R k = 0 then rfa R k else rfs R k
theorem rfs_stop (R : Nat → Rg) (k n : Nat) (h : rfs R k ≠ 0) (hk : k ≤ n) : rfs R n = rfs R k := by
  induction n with
  | zero => have : k = 0 := by omega
            subst this; rfl
  | succ n ih =>
    by_cases c : k = n + 1
    · subst c; rfl
    · have := ih (by omega)
      show (if rfs R n = 0 then rfa R n else rfs R n) = _
      rw [this, if_neg h]
theorem rfs_hit (R : Nat → Rg) (k n : Nat) (h0 : rfs R k = 0) (h : rfa R k ≠ 0) (hk : k < n) : rfs R n = rfa R k := by
  have e : rfs R (k + 1) = rfa R k := by show (if rfs R k = 0 then rfa R k else rfs R k) = _; rw [if_pos h0]
  rw [rfs_stop R (k + 1) n (by rw [e]; exact h) (by omega), e]
theorem rfs_next (R : Nat → Rg) (k : Nat) (h0 : rfs R k = 0) (h : rfa R k = 0) : rfs R (k + 1) = 0 := by
  show (if rfs R k = 0 then rfa R k else rfs R k) = _
  rw [if_pos h0, h]

/-- Are a style's measures as they may be? -/
def msr (s : Sty) : Bool := decide (1 ≤ s.h) && decide (s.h ≤ 1048576) && un s.sp && un s.st && un s.sh && un s.hy && un s.ot && decide (s.sh ≤ s.sp)
/-- The first fault of a style. -/
def flt (s : Sty) : Int := if msr s = true then (if 64 < s.rn then 42 else rfs s.R s.rn) else 41

theorem unit_any (n : Int) (w : World) :
    Calls Try.prog 69 #[.int .i64 n] w fun e w' => e = .returned (.bool (un n)) ∧ w' = w := by
  unfold un
  by_cases h : 0 ≤ n
  · go_enter Try.func69, Try.ntmps69
    go_wp2
    go_ret
    exact ⟨by first | (simp [h]; done) | (simp [h]; omega), rfl⟩
  · go_enter Try.func69, Try.ntmps69
    go_wp2
    go_ret
    exact ⟨by first | (simp [h]; done) | (simp [h]; omega), rfl⟩
theorem fits_any (n l : Int) (w : World) :
    Calls Try.prog 68 #[.int .i64 n, .int .i64 l] w fun e w' => e = .returned (.bool (decide (l ≤ n) && decide (n ≤ 1048576))) ∧ w' = w := by
  by_cases h : l ≤ n
  · go_enter Try.func68, Try.ntmps68
    go_wp2
    go_ret
    exact ⟨by first | (simp [h]; done) | (simp [h]; omega), rfl⟩
  · go_enter Try.func68, Try.ntmps68
    go_wp2
    go_ret
    exact ⟨by first | (simp [h]; done) | (simp [h]; omega), rfl⟩

set_option maxRecDepth 100000 in
set_option maxHeartbeats 1000000 in
theorem rangesFault_any (S : Nat → Prop) (ra : Option Addr) (rn rc : Nat) (R : Nat → Rg) (w : World) (hr : RgsAt S w ra rn R) (hn : rn * 24 ≤ 140737488351232) :
    Calls Try.prog 70 #[.slice ra rn rc] w fun e w' => e = .returned (.int .i64 (rfs R rn)) ∧ Below w.heap.size w w' := by
  have HR := boxed hr
  clear hr
  go_enter Try.func70, Try.ntmps70
  go_wp2
  go_loopw [3, 5, 8] (fun a _ i wr => ∃ k : Nat, k ≤ rn ∧ a = .int .i64 (ahd R k) ∧ i = .int .i64 (k : Int) ∧ Box (rfs R k = 0) ∧ Box (Below w.heap.size w wr)) (fun _ _ i _ => rn - (intOf i).toNat)
  case atStart => exact ⟨0, Nat.zero_le _, rfl, rfl, boxed rfl, boxed (Below.refl _ _)⟩
  case round =>
    obtain ⟨k, hk, rfl, rfl, H0, HB⟩ := hrel
    by_cases hlt : k < rn
    · obtain ⟨-, b, off, e, -, c0, c1, c2⟩ := (HR.out.below HB.out) k hlt
      subst e
      have HA : Box (ahd R (k + 1) = (R k).hi) := boxed (by unfold ahd; simp)
      have HF : Box (rfa R k = if (R k).lo ≤ ahd R k ∨ (R k).hi < (R k).lo ∨ 1114111 < (R k).hi then 42 else if un (R k).wd = true then 0 else 41) := boxed rfl
      have HH := boxed (fun h => rfs_hit R k rn H0.out h hlt)
      have HN := boxed (rfs_next R k H0.out)
      generalize ahd R k = A at *
      generalize R k = r at *
      obtain ⟨lo, hi, wd⟩ := r
      simp only at *
      have hu := fun w => unit_any wd w
      by_cases h1 : lo ≤ A
      · have HFV : Box (rfa R k = 42) := boxed (by rw [HF.out]; simp [h1]; try omega)
        go_wp2_with (go_at_call 69; refine (hu _).mono ?_; rintro e w' ⟨rfl, hw'⟩; subst w')
        go_ret
        exact ⟨ret_int (by rw [HH.out (by rw [HFV.out]; decide), HFV.out]), by have hb := HB.out; have hz := HB.out.size; go_grown⟩
      · by_cases h2 : hi < lo
        · have HFV : Box (rfa R k = 42) := boxed (by rw [HF.out]; simp [h2]; try omega)
          go_wp2_with (go_at_call 69; refine (hu _).mono ?_; rintro e w' ⟨rfl, hw'⟩; subst w')
          go_ret
          exact ⟨ret_int (by rw [HH.out (by rw [HFV.out]; decide), HFV.out]), by have hb := HB.out; have hz := HB.out.size; go_grown⟩
        · by_cases h3 : 1114111 < hi
          · have HFV : Box (rfa R k = 42) := boxed (by rw [HF.out]; simp [h3]; try omega)
            go_wp2_with (go_at_call 69; refine (hu _).mono ?_; rintro e w' ⟨rfl, hw'⟩; subst w')
            go_ret
            exact ⟨ret_int (by rw [HH.out (by rw [HFV.out]; decide), HFV.out]), by have hb := HB.out; have hz := HB.out.size; go_grown⟩
          · cases h4 : un wd with
            | false =>
              rw [h4] at hu
              have HFV : Box (rfa R k = 41) := boxed (by rw [HF.out]; simp [h1, h2, h3, h4]; try omega)
              go_wp2_with (go_at_call 69; refine (hu _).mono ?_; rintro e w' ⟨rfl, hw'⟩; subst w')
              go_ret
              exact ⟨ret_int (by rw [HH.out (by rw [HFV.out]; decide), HFV.out]), by have hb := HB.out; have hz := HB.out.size; go_grown⟩
            | true =>
              rw [h4] at hu
              have HFV : Box (rfa R k = 0) := boxed (by rw [HF.out, if_neg (by omega), if_pos h4])
              go_wp2_with (go_at_call 69; refine (hu _).mono ?_; rintro e w' ⟨rfl, hw'⟩; subst w')
              go_roundw
              case rel => exact ⟨k + 1, by omega, by rw [HA.out], by go_num, boxed (HN.out HFV.out), boxed (by have hb := HB.out; have hz := HB.out.size; go_grown)⟩
              case measure => simp [intOf]; omega
    · have e : k = rn := by omega
      subst e
      go_wp2
      go_ret
      exact ⟨ret_int H0.out.symm, HB.out⟩
end Go.Proofs.Ytcdcpmcjlchfgaa
