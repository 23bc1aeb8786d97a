/-
  What the document's Seen, End, style and scale answer.
-/
import Derived.Test.YtcdcpmcjlchfgaaLpi
import Derived.Test.YtcdcpmcjlchfgaaScJ
namespace Go.Proofs.Ytcdcpmcjlchfgaa
open Go.RowKit
set_option linter.unusedSimpArgs false
set_option linter.unusedVariables false

set_option maxRecDepth 100000 in
set_option maxHeartbeats 2000000 in
theorem refseen_any (r : Int) (w : World) :
    Calls Try.prog 61 #[.int .i64 r] w fun e w' => e = .returned (.bool (sn r)) ∧ Below w.heap.size w w' := by
  have hkd := refkind_any r w
  have HS : Box (sn r = ((kd r == 0) || (kd r == 2) || (kd r == 6))) := boxed rfl
  generalize sn r = V at *
  generalize kd r = K at *
  have hun : undef = Value.tuple #[] := rfl
  cases h0 : (K == 0) with
  | true =>
    have HV : Box (V = true) := boxed (by rw [HS.out, h0]; rfl)
    go_enter Try.func61, Try.ntmps61
    go_wp2_with fail
    refine hkd.mono ?_
    rintro e w1 ⟨rfl, hb1⟩
    have HB1 := boxed hb1
    clear hb1 hkd
    go_wp2_with fail
    go_ret
    exact ⟨by rw [HV.out]; rfl, HB1.out⟩
  | false =>
    cases h2 : (K == 2) with
    | true =>
      have HV : Box (V = true) := boxed (by rw [HS.out, h0, h2]; rfl)
      go_enter Try.func61, Try.ntmps61
      go_wp2_with fail
      refine hkd.mono ?_
      rintro e w1 ⟨rfl, hb1⟩
      have HB1 := boxed hb1
      clear hb1 hkd
      go_wp2_with fail
      go_ret
      exact ⟨by rw [HV.out]; rfl, HB1.out⟩
    | false =>
      cases h6 : (K == 6) with
      | true =>
        have HV : Box (V = true) := boxed (by rw [HS.out, h0, h2, h6]; rfl)
        go_enter Try.func61, Try.ntmps61
        go_wp2_with fail
        refine hkd.mono ?_
        rintro e w1 ⟨rfl, hb1⟩
        have HB1 := boxed hb1
        clear hb1 hkd
        go_wp2_with fail
        go_ret
        exact ⟨by rw [HV.out]; rfl, HB1.out⟩
      | false =>
        have HV : Box (V = false) := boxed (by rw [HS.out, h0, h2, h6]; rfl)
        go_enter Try.func61, Try.ntmps61
        go_wp2_with fail
        refine hkd.mono ?_
        rintro e w1 ⟨rfl, hb1⟩
        have HB1 := boxed hb1
        clear hb1 hkd
        go_wp2_with fail
        go_ret
        exact ⟨by rw [HV.out]; rfl, HB1.out⟩
theorem Dg.get {w : World} {ao : Option Addr} {cap : Nat} {l : List Nat} (h : Dg w ao cap l) (i : Nat) (hi : i < l.length) : ∃ b off, ao = some ⟨b, off, none⟩ ∧ b < w.heap.size ∧ w.cell? ⟨b, off + i, none⟩ = some (.int .i64 ((l.getD i 0 : Nat) : Int)) := by
  rcases h.2 with e | ⟨b, off, e, hl, hc⟩
  · subst e; simp at hi
  · exact ⟨b, off, e, hl, hc i hi⟩
set_option maxRecDepth 100000 in
set_option maxHeartbeats 4000000 in
theorem refend_any (t : ByteArray) (w : World) (hs : t.size ≤ 1000) (N : Nat) (hN : Right t N) :
    Calls Try.prog 38 #[.string t] w fun e w' => e = .returned (.int .i64 (it t (ls t N) : Int)) ∧ Below w.heap.size w w' := by
  have hru := runes_any t w (by omega) N hN.1
  have hNs : N ≤ 1000 := by have := cnt_le t N hN.1; have := it_le t N; omega
  have HN := boxed hN
  have HS := boxed hs
  have HIL := boxed (it_le t)
  clear hN
  generalize badAt t N = Bd at *
  go_enter Try.func38, Try.ntmps38
  go_wp2_with fail
  refine hru.mono ?_
  rintro e w1 ⟨ao1, c1, ao2, c2, rfl, hd1, hd2, hb1⟩
  have HD1 := boxed hd1
  have HD2 := boxed hd2
  have HB1 := boxed hb1
  clear hd1 hd2 hb1 hru
  go_wp2_with fail
  go_loopw [6, 7] (fun nv iv wr => ∃ i : Nat, i ≤ N ∧ iv = .int .i64 (i : Nat) ∧ nv = .int .i64 (it t (ls t i) : Int) ∧ Box (Below w1.heap.size w1 wr)) (fun _ iv _ => N - (intOf iv).toNat)
  case atStart => exact ⟨0, Nat.zero_le _, rfl, rfl, boxed (Below.refl _ _)⟩
  case round =>
    obtain ⟨i, hi, rfl, rfl, HB⟩ := hrel
    by_cases hlt : i < N
    · have t0 : decide ((i : Int) < (N : Int)) = true := decide_eq_true (by omega)
      have hlt2 : (i : Int) < (N : Int) := by omega
      obtain ⟨b, off, rfl, hbl, q0⟩ := (HD1.out.below HB.out).get i (by rw [rns_len]; exact hlt)
      rw [rns_get t N i hlt] at q0
      have hrn := rn_le t i
      have hse := fun W => refseen_any (rn t i : Int) W
      have HLS : Box (ls t (i + 1) = if sn (rn t i) = true then i + 1 else ls t i) := boxed rfl
      have hq := HIL.out (ls t i)
      generalize rn t i = r at *
      go_wp2_with fail
      refine (hse _).mono ?_
      rintro e w2 ⟨rfl, hb2⟩
      have HB2 := boxed (below_step HB.out (Nat.le_refl _) hb2)
      clear hb2 hse q0
      cases hsn : sn (r : Int) with
      | false =>
        have HV : Box (ls t (i + 1) = ls t i) := boxed (by rw [HLS.out, hsn]; rfl)
        obtain ⟨q, hqq⟩ : ∃ q, it t (ls t i) = q := ⟨_, rfl⟩
        rw [hqq]
        have HQ : Box (it t (ls t (i + 1)) = q) := boxed (by rw [HV.out, hqq])
        clear hqq hq
        go_wp2_with fail
        go_roundw
        case rel => exact ⟨i + 1, by omega, by go_num, by rw [HQ.out], HB2⟩
        case measure => simp [intOf] <;> omega
      | true =>
        have HV : Box (ls t (i + 1) = i + 1) := boxed (by rw [HLS.out, hsn]; rfl)
        by_cases h1 : i + 1 < N
        · have t1 : decide ((i : Int) + 1 < (N : Int)) = true := decide_eq_true (by omega)
          have h12 : (i : Int) + 1 < (N : Int) := by omega
          obtain ⟨b', off', rfl, hbl', q1⟩ := (HD2.out.below HB2.out).get (i + 1) (by rw [its_len]; exact h1)
          rw [its_get t N (i + 1) h1] at q1
          generalize it t (ls t i) = q at *
          go_wp2_with fail
          go_roundw
          case rel => exact ⟨i + 1, by omega, by go_num, by rw [HV.out], HB2⟩
          case measure => simp [intOf] <;> omega
        · have t1 : decide ((i : Int) + 1 < (N : Int)) = false := decide_eq_false (by omega)
          have HE : Box (it t (i + 1) = t.size) := boxed (by rw [show i + 1 = N by omega, HN.out.2])
          generalize it t (ls t i) = q at *
          go_wp2_with fail
          go_roundw
          case rel => exact ⟨i + 1, by omega, by go_num, by rw [HV.out, HE.out], HB2⟩
          case measure => simp [intOf] <;> omega
    · obtain rfl : i = N := by omega
      have t0 : decide ((i : Int) < (i : Int)) = false := decide_eq_false (by omega)
      go_wp2_with fail
      go_ret
      exact ⟨rfl, below_step HB1.out (Nat.le_refl _) HB.out⟩
set_option maxRecDepth 100000 in
set_option maxHeartbeats 4000000 in
theorem refrun_any (S : Nat → Prop) (ao : Option Addr) (n cap : Nat) (L Y : Nat → Int) (a0 : Int) (w : World) (h : P2At S w ao n L Y) (hn : n ≤ maxLen) (ha : 0 ≤ a0 ∧ a0 ≤ 4294967296) :
    Calls Try.prog 39 #[.slice ao n cap, .int .i64 a0] w fun e w' => e = .returned (.int .i64 (rs L Y n 0 a0)) ∧ w' = w := by
  unfold maxLen at hn
  have H := boxed h
  clear h
  go_enter Try.func39, Try.ntmps39
  go_wp2_with fail
  go_loopw [1, 5] (fun av iv wr => ∃ (i : Nat) (a : Int), i ≤ n ∧ iv = .int .i64 (i : Nat) ∧ av = .int .i64 a ∧ (0 ≤ a ∧ a ≤ 4294967296) ∧ Box (rs L Y n 0 a0 = rs L Y n i a) ∧ wr = w) (fun _ iv _ => n - (intOf iv).toNat)
  case atStart => exact ⟨0, a0, Nat.zero_le _, rfl, rfl, ha, boxed rfl, rfl⟩
  case round =>
    obtain ⟨i, a, hi, rfl, rfl, hab, HR, rfl⟩ := hrel
    by_cases hlt : i < n
    · have t0 : decide ((i : Int) < (n : Int)) = true := decide_eq_true (by omega)
      have hlt2 : (i : Int) < (n : Int) := by omega
      obtain ⟨b, off, rfl, -⟩ := H.out.form (by omega)
      obtain ⟨c0, c1⟩ := H.out.get i hlt
      by_cases h1 : L i ≤ 0
      · have t1 : decide (L i ≤ 0) = true := decide_eq_true h1
        have HV : Box (rs L Y n 0 a0 = rs L Y n (i + 1) a) := boxed (by rw [HR.out, rs_none L Y n i a hlt h1])
        clear h1
        generalize L i = l at *
        go_wp2_with fail
        go_roundw
        case rel => exact ⟨i + 1, a, by omega, by go_num, rfl, hab, HV, (by first | rfl | trivial)⟩
        case measure => simp [intOf] <;> omega
      · have t1 : decide (L i ≤ 0) = false := decide_eq_false h1
        by_cases h2 : a < L i
        · have t2 : decide (a < L i) = true := decide_eq_true h2
          have HV : Box (rs L Y n 0 a0 = Y i) := boxed (by rw [HR.out, rs_here L Y n i a hlt (by omega) h2])
          clear h1 h2
          generalize L i = l at *
          generalize Y i = y at *
          go_wp2_with fail
          go_ret
          exact ⟨by rw [HV.out]; rfl, rfl⟩
        · have t2 : decide (a < L i) = false := decide_eq_false h2
          have HV : Box (rs L Y n 0 a0 = rs L Y n (i + 1) (a - L i)) := boxed (by rw [HR.out, rs_far L Y n i a hlt (by omega) (by omega)])
          have hl : 0 < L i ∧ L i ≤ a := by omega
          clear h1 h2
          generalize L i = l at *
          go_wp2_with fail
          go_roundw
          case rel => exact ⟨i + 1, a - l, by omega, by go_num, rfl, by omega, HV, (by first | rfl | trivial)⟩
          case measure => simp [intOf] <;> omega
    · obtain rfl : i = n := by omega
      have t0 : decide ((i : Int) < (i : Int)) = false := decide_eq_false (by omega)
      have HV : Box (rs L Y i 0 a0 = 0) := boxed (by rw [HR.out, rs_end])
      go_wp2_with fail
      go_ret
      exact ⟨by rw [HV.out]; rfl, rfl⟩
set_option maxRecDepth 100000 in
set_option maxHeartbeats 1000000 in
theorem refscale_any (p n d : Int) (w : World) :
    Calls Try.prog 44 #[.int .i64 p, .int .i64 n, .int .i64 d] w fun e w' => e = .returned (.int .i64 (scl p n d)) ∧ Below w.heap.size w w' := by
  unfold scl
  by_cases h : d ≤ 0
  · rw [if_pos h]
    have t0 : decide (d ≤ 0) = true := decide_eq_true h
    go_enter Try.func44, Try.ntmps44
    go_wp2_with fail
    go_ret
    exact ⟨rfl, Below.refl _ _⟩
  · rw [if_neg h]
    have t0 : decide (d ≤ 0) = false := decide_eq_false h
    have hm := Sc.refmuldiv_any p n d w
    clear h
    generalize Sc.mdv p n d = V at *
    generalize Sc.nz d = z at *
    go_enter Try.func44, Try.ntmps44
    go_wp2_with fail
    refine hm.mono ?_
    rintro e w1 ⟨rfl, hb1⟩
    have HB1 := boxed hb1
    clear hb1 hm
    go_wp2_with fail
    go_ret
    exact ⟨rfl, HB1.out⟩
end Go.Proofs.Ytcdcpmcjlchfgaa
