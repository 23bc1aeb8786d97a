/-
  What the program's Count, lastSeen, lastStyle, glue, width and along answer; rows of pairs.
-/
import Derived.Test.YtcdcpmcjlchfgaaLph
namespace Go.Proofs.Ytcdcpmcjlchfgaa
open Go.RowKit
set_option linter.unusedSimpArgs false
set_option linter.unusedVariables false

set_option maxRecDepth 100000 in
set_option maxHeartbeats 800000 in
theorem count_any (s : ByteArray) (w : World) (hs : s.size ≤ maxLen) (N : Nat) (hN : Right s N) :
    Calls Try.prog 32 #[.string s] w fun e w' => e = .returned (.int .i64 (N : Int)) ∧ Below w.heap.size w w' := by
  have HN := boxed hN
  have hlN : N ≤ s.size := by have := cnt_le s N hN.1; have := it_le s N; omega
  clear hN
  unfold maxLen at hs
  go_enter Try.func32, Try.ntmps32
  go_wp2
  go_loopw [3] (fun n w' => ∃ k : Nat, k ≤ N ∧ w' = w.iter s (it s k) ∧ n = .int .i64 (k : Int)) (fun n _ => N - (intOf n).toNat)
  case atStart => exact ⟨0, Nat.zero_le _, rfl, rfl⟩
  case round =>
    obtain ⟨k, hk, rfl, rfl⟩ := hrel
    by_cases hlt : k < N
    · have hnx := next_run s N k w HN.out.1 hlt
      go_wp2
      go_roundw
      case rel => exact ⟨k + 1, by omega, rfl, by go_num⟩
      case measure => simp [intOf]; omega
    · have hkN : k = N := by omega
      subst hkN
      have hnx := next_end s k w HN.out
      go_wp2
      go_ret
      exact ⟨rfl, bel_iter _ _ _⟩

theorem ls_at (t : ByteArray) (k : Nat) : lsAt t (k + 1) = if sn (rn t k) = true then (it t k : Int) else lsAt t k := by
  unfold lsAt
  simp only [ls]
  split
  · rw [if_neg (by omega)]; simp
  · rfl
set_option maxRecDepth 100000 in
set_option maxHeartbeats 2000000 in
theorem lastseen_any (s : ByteArray) (w : World) (hs : s.size ≤ maxLen) (N : Nat) (hN : Right s N) :
    Calls Try.prog 34 #[.string s] w fun e w' => e = .returned (.int .i64 (lsAt s N)) ∧ Below w.heap.size w w' := by
  have HN := boxed hN
  have hlN : N ≤ s.size := by have := cnt_le s N hN.1; have := it_le s N; omega
  clear hN
  unfold maxLen at hs
  go_enter Try.func34, Try.ntmps34
  go_wp2
  go_loopw [3] (fun n w' => ∃ k : Nat, k ≤ N ∧ w' = w.iter s (it s k) ∧ n = .int .i64 (lsAt s k)) (fun _ w' => s.size - w'.iterPos w.heap.size)
  case atStart => exact ⟨0, Nat.zero_le _, rfl, rfl⟩
  case round =>
    obtain ⟨k, hk, rfl, rfl⟩ := hrel
    by_cases hlt : k < N
    · have hnx := next_run s N k w HN.out.1 hlt
      have HG : Box (it s k < it s (k + 1) ∧ it s (k + 1) ≤ s.size) := boxed (by
        have := HN.out.1.1 k hlt
        have := it_le s (k + 1)
        exact ⟨by simp only [it]; omega, this⟩)
      have HL := boxed (ls_at s k)
      have hkd := fun w => kind_any (rn s k : Int) w
      have hrl := rn_le s k
      have HS : Box (sn (rn s k) = ((kd (rn s k : Int) == 0) || (kd (rn s k : Int) == 2) || (kd (rn s k : Int) == 6))) := boxed (by
        rfl)
      generalize hR : rn s k = R at *
      generalize kd (R : Int) = K at *
      generalize lsAt s k = Q at *
      cases h0 : (K == 0) with
      | true =>
        have HV : Box (lsAt s (k + 1) = (it s k : Int)) := boxed (by rw [HL.out, HS.out, h0]; rfl)
        go_wp2_with (go_at_call 56; refine (hkd _).mono ?_; rintro e w' ⟨rfl, hw'⟩; subst w')
        go_roundw
        case rel => exact ⟨k + 1, by omega, rfl, by rw [HV.out]⟩
        case measure => have := HG.out; simp; omega
      | false =>
        cases h2 : (K == 2) with
        | true =>
          have HV : Box (lsAt s (k + 1) = (it s k : Int)) := boxed (by rw [HL.out, HS.out, h0, h2]; rfl)
          go_wp2_with (go_at_call 56; refine (hkd _).mono ?_; rintro e w' ⟨rfl, hw'⟩; subst w')
          go_roundw
          case rel => exact ⟨k + 1, by omega, rfl, by rw [HV.out]⟩
          case measure => have := HG.out; simp; omega
        | false =>
          cases h6 : (K == 6) with
          | true =>
            have HV : Box (lsAt s (k + 1) = (it s k : Int)) := boxed (by rw [HL.out, HS.out, h0, h2, h6]; rfl)
            go_wp2_with (go_at_call 56; refine (hkd _).mono ?_; rintro e w' ⟨rfl, hw'⟩; subst w')
            go_roundw
            case rel => exact ⟨k + 1, by omega, rfl, by rw [HV.out]⟩
            case measure => have := HG.out; simp; omega
          | false =>
            have HV : Box (lsAt s (k + 1) = Q) := boxed (by rw [HL.out, HS.out, h0, h2, h6]; rfl)
            go_wp2_with (go_at_call 56; refine (hkd _).mono ?_; rintro e w' ⟨rfl, hw'⟩; subst w')
            go_roundw
            case rel => exact ⟨k + 1, by omega, rfl, by rw [HV.out]⟩
            case measure => have := HG.out; simp; omega
    · have hkN : k = N := by omega
      subst hkN
      have hnx := next_end s k w HN.out
      go_wp2
      go_ret
      exact ⟨rfl, bel_iter _ _ _⟩
set_option maxRecDepth 100000 in
set_option maxHeartbeats 2000000 in
theorem laststyle_any (S : Nat → Prop) (ao : Option Addr) (n cap : Nat) (L Y : Nat → Int) (w : World) (h : P2At S w ao n L Y) (hn : n ≤ maxLen) :
    Calls Try.prog 46 #[.slice ao n cap] w fun e w' => e = .returned (.int .i64 (lstS L Y n)) ∧ w' = w := by
  unfold maxLen at hn
  have H := boxed h
  clear h
  go_enter Try.func46, Try.ntmps46
  go_wp2_with fail
  go_loopw [3] (fun kv wr => ∃ k : Int, (-1 ≤ k ∧ k < (n : Int)) ∧ kv = .int .i64 k ∧ Box (lstS L Y n = lstS L Y (k + 1).toNat) ∧ wr = w) (fun kv _ => (intOf kv + 1).toNat)
  case atStart => exact ⟨(n : Int) - 1, by omega, (by first | rfl | go_num), boxed (by congr 1; omega), rfl⟩
  case round =>
    obtain ⟨k, ⟨hk1, hk2⟩, rfl, HL, rfl⟩ := hrel
    by_cases hp : 0 ≤ k
    · obtain ⟨m, rfl⟩ : ∃ m : Nat, k = (m : Int) := ⟨k.toNat, by omega⟩
      have hmn : m < n := by omega
      obtain ⟨b, off, rfl, -⟩ := H.out.form (by omega)
      obtain ⟨c0, c1⟩ := H.out.get m hmn
      have t0 : decide (0 ≤ (m : Int)) = true := decide_eq_true hp
      have HL2 : Box (lstS L Y n = if 0 < L m then Y m else lstS L Y m) := boxed (by rw [HL.out]; rfl)
      by_cases cy : 0 < L m
      · have HL3 : Box (lstS L Y n = Y m) := boxed (by rw [HL2.out, if_pos cy])
        have ty : decide (0 < L m) = true := decide_eq_true cy
        clear cy HL HL2
        generalize L m = q at *
        generalize Y m = r at *
        go_wp2_with fail
        go_ret
        exact ⟨by rw [HL3.out]; rfl, rfl⟩
      · have HL3 : Box (lstS L Y n = lstS L Y m) := boxed (by rw [HL2.out, if_neg cy])
        have ty : decide (0 < L m) = false := decide_eq_false cy
        clear cy HL HL2
        generalize L m = q at *
        generalize Y m = r at *
        go_wp2_with fail
        go_roundw
        case rel => exact ⟨(m : Int) - 1, by omega, rfl, boxed (by rw [HL3.out]; congr 1; omega), (by first | rfl | trivial)⟩
        case measure => simp [intOf] <;> omega
    · have t0 : decide (0 ≤ k) = false := decide_eq_false hp
      have HL2 : Box (lstS L Y n = 0) := boxed (by
        rw [HL.out]
        have : (k + 1).toNat = 0 := by omega
        rw [this]; rfl)
      clear HL
      go_wp2_with fail
      go_ret
      exact ⟨by rw [HL2.out]; rfl, rfl⟩
theorem scl_any (p n d : Int) (w : World) :
    Calls Try.prog 73 #[.int .i64 p, .int .i64 n, .int .i64 d] w fun e w' => e = .returned (.int .i64 (scl p n d)) ∧ Below w.heap.size w w' := by
  unfold scl
  by_cases h : d ≤ 0
  · rw [if_pos h]
    refine (Sc.scale_none p n d w h).mono ?_
    rintro e w' ⟨rfl, q, rfl⟩
    exact ⟨rfl, bel_drewN _ _ _⟩
  · rw [if_neg h]
    refine (Sc.scale_any p n d w (by omega)).mono ?_
    rintro e w' ⟨rfl, q, rfl⟩
    exact ⟨rfl, bel_drewN _ _ _⟩
def LnAt (W : World) (b : Nat) (x : Lne) : Prop := W.heap[b]? = some (.cells #[.string x.tx, .slice x.ra x.rn x.rc, .int .i64 x.num, .int .i64 x.den, .int .i64 x.h, .bool x.hy, .int .i64 x.y, .bool x.bg, .bool x.en] 41 (0, 0))
theorem LnAt.cells {W : World} {b : Nat} {x : Lne} (h : LnAt W b x) : W.cell? ⟨b, 0, none⟩ = some (.string x.tx) ∧ W.cell? ⟨b, 1, none⟩ = some (.slice x.ra x.rn x.rc) ∧ W.cell? ⟨b, 2, none⟩ = some (.int .i64 x.num) ∧ W.cell? ⟨b, 3, none⟩ = some (.int .i64 x.den) ∧ W.cell? ⟨b, 4, none⟩ = some (.int .i64 x.h) ∧ W.cell? ⟨b, 5, none⟩ = some (.bool x.hy) ∧ W.cell? ⟨b, 6, none⟩ = some (.int .i64 x.y) ∧ W.cell? ⟨b, 7, none⟩ = some (.bool x.bg) ∧ W.cell? ⟨b, 8, none⟩ = some (.bool x.en) := by
  refine ⟨?_, ?_, ?_, ?_, ?_, ?_, ?_, ?_, ?_⟩ <;> (rw [cell_of_row _ _ _ _ _ _ h]; rfl)
theorem lnat_new (w : World) (x : Lne) : ∃ w0, w.alloc (.cells #[.string x.tx, .slice x.ra x.rn x.rc, .int .i64 x.num, .int .i64 x.den, .int .i64 x.h, .bool x.hy, .int .i64 x.y, .bool x.bg, .bool x.en] 41) = w0 ∧ Below w.heap.size w w0 ∧ w0.heap.size = w.heap.size + 1 ∧ ∀ W, Below w0.heap.size w0 W → LnAt W w.heap.size x :=
  ⟨_, rfl, (Below.refl _ _).alloc (Nat.le_refl _) _, by simp, fun W hb => by unfold LnAt; rw [hb.block w.heap.size (by simp)]; exact heap_alloc_new w _⟩
set_option maxRecDepth 100000 in
set_option maxHeartbeats 4000000 in
theorem glue_any {B : Nat} {w : World} {tb n : Nat} {G : Nat → Sty} (h : TabAt B w tb n G) (x : Lne) (a : Int) :
    Calls Try.prog 59 #[.pointer (some ⟨tb, 0, none⟩), x.val, .int .i64 a] w fun e w' => e = .returned (.int .i64 (gluP (ofS G n a) x.num x.den)) ∧ Below w.heap.size w w' := by
  obtain ⟨w0, hw0, hB0, hz0, hN⟩ := lnat_new w x
  have hsp := space_any (h.below hB0) a
  have HW0 := boxed hw0
  have HB0 := boxed hB0
  have HN := boxed hN
  clear h hw0 hN hB0
  have HG : Box (gluP (ofS G n a) x.num x.den = if 0 < x.num then ad (ofS G n a).sp (scl (ofS G n a).st x.num x.den) else if x.num < 0 then ad (ofS G n a).sp (scl (ofS G n a).sh x.num x.den) else (ofS G n a).sp) := boxed rfl
  have hsc := fun p w => scl_any p x.num x.den w
  generalize gluP (ofS G n a) x.num x.den = V at *
  generalize ofS G n a = s at *
  obtain ⟨sh0, sp, st, sh, shy, sot, sra, srn, src, skp, sR⟩ := s
  simp only at *
  unfold Lne.val
  go_enter Try.func59, Try.ntmps59
  go_upto_region 1 with (fail)
  rw [HW0.out]
  go_wp2_with fail
  refine hsp.mono ?_
  rintro e w1 ⟨rfl, hb1⟩
  obtain ⟨-, -, c2, c3, -⟩ := (HN.out _ hb1).cells
  have HB1 := boxed (below_step HB0.out (Nat.le_refl _) hb1)
  clear hb1 hsp
  by_cases g1 : 0 < x.num
  · have t1 : decide (0 < x.num) = true := decide_eq_true g1
    have HV : Box (V = ad sp (scl st x.num x.den)) := boxed (by rw [HG.out, if_pos g1])
    have hs2 := hsc st
    clear hsc HG g1
    generalize scl st x.num x.den = Z at *
    generalize x.num = nu at *
    generalize x.den = de at *
    go_wp2_with fail
    refine (hs2 _).mono ?_
    rintro e w2 ⟨rfl, hb2⟩
    have HB2 := boxed (below_step HB1.out (Nat.le_refl _) hb2)
    clear hb2 hs2
    go_wp2_with fail
    refine (add_any sp Z _).mono ?_
    rintro e w3 ⟨rfl, hw3⟩
    subst w3
    go_wp2_with fail
    go_ret
    exact ⟨by rw [HV.out]; rfl, HB2.out⟩
  · have t1 : decide (0 < x.num) = false := decide_eq_false g1
    by_cases g2 : x.num < 0
    · have t2 : decide (x.num < 0) = true := decide_eq_true g2
      have HV : Box (V = ad sp (scl sh x.num x.den)) := boxed (by rw [HG.out, if_neg g1, if_pos g2])
      have hs2 := hsc sh
      clear hsc HG g1 g2
      generalize scl sh x.num x.den = Z at *
      generalize x.num = nu at *
      generalize x.den = de at *
      go_wp2_with fail
      refine (hs2 _).mono ?_
      rintro e w2 ⟨rfl, hb2⟩
      have HB2 := boxed (below_step HB1.out (Nat.le_refl _) hb2)
      clear hb2 hs2
      go_wp2_with fail
      refine (add_any sp Z _).mono ?_
      rintro e w3 ⟨rfl, hw3⟩
      subst w3
      go_wp2_with fail
      go_ret
      exact ⟨by rw [HV.out]; rfl, HB2.out⟩
    · have t2 : decide (x.num < 0) = false := decide_eq_false g2
      have HV : Box (V = sp) := boxed (by rw [HG.out, if_neg g1, if_neg g2])
      clear hsc HG g1 g2
      generalize x.num = nu at *
      generalize x.den = de at *
      go_wp2_with fail
      go_ret
      exact ⟨by rw [HV.out]; rfl, HB1.out⟩
set_option maxRecDepth 100000 in
set_option maxHeartbeats 4000000 in
theorem lwidth_any {B : Nat} {w : World} {tb n : Nat} {G : Nat → Sty} (h : TabAt B w tb n G) (hg : ∀ i, i < n → flt (G i) = 0) (x : Lne) (a r : Int) (b : Bool) (hrr : -2147483648 ≤ r ∧ r ≤ 2147483647) :
    Calls Try.prog 36 #[.pointer (some ⟨tb, 0, none⟩), x.val, .int .i64 a, .int .i32 r, .bool b] w fun e w' => e = .returned (.int .i64 (wdP (ofS G n a) x.num x.den r b)) ∧ Below w.heap.size w w' := by
  obtain ⟨w0, hw0, hB0, hz0, hN⟩ := lnat_new w x
  have htw := twidth_any (h.below hB0) hg a r hrr
  have hgl := glue_any (h.below hB0) x a
  have hkd := fun w => kind_any r w
  have HW0 := boxed hw0
  have HB0 := boxed hB0
  have hC := (hN w0 (Below.refl _ _)).cells
  clear h hw0 hN hB0 hg
  have HG : Box (wdP (ofS G n a) x.num x.den r b = if kd r ≠ 1 then wdS (ofS G n a) r else if b = true then gluP (ofS G n a) x.num x.den else 0) := boxed rfl
  generalize wdP (ofS G n a) x.num x.den r b = V at *
  generalize wdS (ofS G n a) r = V1 at *
  generalize gluP (ofS G n a) x.num x.den = V2 at *
  generalize kd r = K at *
  unfold Lne.val at *
  by_cases hk : K ≠ 1
  · have t1 : (K != 1) = true := by simpa using hk
    have HV : Box (V = V1) := boxed (by rw [HG.out, if_pos hk])
    clear hk HG hgl hC
    go_enter Try.func36, Try.ntmps36
    go_upto_region 1 with (fail)
    rw [HW0.out]
    go_wp2_with (go_at_call 56; refine (hkd _).mono ?_; rintro e w' ⟨rfl, hw'⟩; subst w')
    refine htw.mono ?_
    rintro e w1 ⟨rfl, hb1⟩
    have HB1 := boxed (below_step HB0.out (Nat.le_refl _) hb1)
    clear hb1 htw
    go_wp2_with fail
    go_ret
    exact ⟨by rw [HV.out]; rfl, HB1.out⟩
  · have t1 : (K != 1) = false := by simpa using hk
    cases b with
    | false =>
      have HV : Box (V = 0) := boxed (by rw [HG.out, if_neg hk]; rfl)
      clear hk HG hgl hC htw
      go_enter Try.func36, Try.ntmps36
      go_upto_region 1 with (fail)
      rw [HW0.out]
      go_wp2_with (go_at_call 56; refine (hkd _).mono ?_; rintro e w' ⟨rfl, hw'⟩; subst w')
      go_ret
      exact ⟨by rw [HV.out]; rfl, HB0.out⟩
    | true =>
      have HV : Box (V = V2) := boxed (by rw [HG.out, if_neg hk, if_pos rfl])
      obtain ⟨c0, c1, c2, c3, c4, c5, c6, c7, c8⟩ := hC
      clear hk HG htw
      go_enter Try.func36, Try.ntmps36
      go_upto_region 1 with (fail)
      rw [HW0.out]
      go_wp2_with (go_at_call 56; refine (hkd _).mono ?_; rintro e w' ⟨rfl, hw'⟩; subst w')
      refine hgl.mono ?_
      rintro e w1 ⟨rfl, hb1⟩
      have HB1 := boxed (below_step HB0.out (Nat.le_refl _) hb1)
      clear hb1 hgl
      go_wp2_with fail
      go_ret
      exact ⟨by rw [HV.out]; rfl, HB1.out⟩
set_option maxRecDepth 100000 in
set_option maxHeartbeats 2000000 in
theorem along_new (S : Nat → Prop) (ao : Option Addr) (n cap : Nat) (L Y : Nat → Int) (w : World) (h : P2At S w ao n L Y) (hc : n ≤ cap) :
    Calls Try.prog 33 #[.slice ao n cap] w fun e w' => e = .returned (.func (.func 55) #[] #[.pointer (some ⟨w.heap.size, 0, none⟩), .pointer (some ⟨w.heap.size + 1, 0, none⟩)]) ∧ w'.heap.size = w.heap.size + 2 ∧ AlgAt S w' w.heap.size (w.heap.size + 1) L Y n 0 ∧ Below w.heap.size w w' := by
  have hmf : ∀ (fn : Fn) (first cap : Array Value) (w : World), (Instr.makeFunc fn first cap).run Try.prog w = .ok (.func fn first cap) w := fun _ _ _ _ => rfl
  have L1 := laid2 w (.cells #[.slice ao n cap] 39) (.cells #[.int .i64 0] 3)
  have HF : Box (∀ W, W = (w.alloc (.cells #[.slice ao n cap] 39)).alloc (.cells #[.int .i64 0] 3) → W.heap.size = w.heap.size + 2 ∧ AlgAt S W w.heap.size (w.heap.size + 1) L Y n 0 ∧ Below w.heap.size w W) := boxed (fun W e => by
    subst e
    exact ⟨L1.2.2.2, ⟨0, 0, ao, cap, ⟨L1.1, L1.2.1⟩, alg_zero _ _ _, by simpa using h.below L1.2.2.1, by omega⟩, L1.2.2.1⟩)
  clear h L1
  go_enter Try.func33, Try.ntmps33
  go_wp2_with fail
  go_ret
  refine ⟨?_, HF.out _ ?_⟩
  · simp
  · simp
/-- The cells of a row of pairs. -/
def p2f (A Y : Nat → Int) (n : Nat) : List Value := (List.range n).flatMap fun k => [.int .i64 (A k), .int .i64 (Y k)]
theorem p2f_succ (A Y : Nat → Int) (n : Nat) : p2f A Y (n + 1) = p2f A Y n ++ [.int .i64 (A n), .int .i64 (Y n)] := by simp [p2f, List.range_succ]
theorem p2f_len (A Y : Nat → Int) (n : Nat) : (p2f A Y n).length = n * 2 := by
  induction n with
  | zero => rfl
  | succ n ih => rw [p2f_succ, List.length_append, ih]; simp; omega
theorem p2f_get (A Y : Nat → Int) (n i : Nat) (h : i < n) : (p2f A Y n)[i * 2]? = some (.int .i64 (A i)) ∧ (p2f A Y n)[i * 2 + 1]? = some (.int .i64 (Y i)) := by
  induction n with
  | zero => omega
  | succ n ih =>
    rw [p2f_succ]
    by_cases c : i = n
    · subst c
      rw [List.getElem?_append_right (by rw [p2f_len]; omega), List.getElem?_append_right (by rw [p2f_len]; omega), p2f_len]
      simp
    · obtain ⟨h1, h2⟩ := ih (by omega)
      rw [List.getElem?_append_left (by rw [p2f_len]; omega), List.getElem?_append_left (by rw [p2f_len]; omega)]
      exact ⟨h1, h2⟩
theorem own_p2 {w : World} {B T : Nat} {ao : Option Addr} {n cap : Nat} {A Y : Nat → Int} (h : w.ownsRow B T 2 (.slice ao n cap) n (p2f A Y n)) (hA : ∀ i, i < n → I64 (A i) ∧ I64 (Y i)) : P2At (fun b => B ≤ b) w ao n A Y := by
  intro i hi
  refine ⟨hA i hi, ?_⟩
  rcases ownsRow_forms h with ⟨_, h2⟩ | ⟨g, cp, e⟩
  · omega
  · injection e with e1 e2 e3
    subst e1
    obtain ⟨q0, q1⟩ := p2f_get A Y n i hi
    have r0 := h.cellAt (i * 2) (by omega)
    have r1 := h.cellAt (i * 2 + 1) (by omega)
    rw [q0] at r0
    rw [q1] at r1
    exact ⟨g, 0, rfl, (h.lt g rfl).1, by simpa using r0, by simpa using r1⟩
end Go.Proofs.Ytcdcpmcjlchfgaa
