/-
  What the document's Offset answers.
-/
import Derived.Test.YtcdcpmcjlchfgaaLpf
namespace Go.Proofs.Ytcdcpmcjlchfgaa
open Go.RowKit
set_option linter.unusedSimpArgs false
set_option linter.unusedVariables false

/-- How many bytes are ahead of page i, while those ahead of line k of page p are counted. -/
def upTo (P : Nat → Pgv) (p k i : Nat) : Nat := if i ≤ p then psz P i else psz P p + lsz (P p).F k
set_option maxRecDepth 100000 in
set_option maxHeartbeats 8000000 in
theorem refoffset_any (S : Nat → Prop) (ao : Option Addr) (n cap : Nat) (P : Nat → Pgv) (p k : Int) (w : World) (h : PgsR S w ao n P) (hn : n ≤ maxLen) (hz : psz P n ≤ 1000000) :
    Calls Try.prog 16 #[.slice ao n cap, .int .i64 p, .int .i64 k] w fun e w' => e = .returned (ofsV n P p k) ∧ w' = w := by
  unfold maxLen at hn
  have H := boxed h
  have hun : undef = Value.tuple #[] := rfl
  by_cases c1 : p < 0
  · have e : ofsV n P p k = .tuple #[.int .i64 0, .bool false] := ofs_out n P p k (by omega)
    have t1 : decide (p < 0) = true := decide_eq_true c1
    rw [e]
    clear h e c1
    go_enter Try.func16, Try.ntmps16
    go_wp2_with fail
    go_ret2
    exact ⟨rfl, rfl⟩
  have t1 : decide (p < 0) = false := decide_eq_false c1
  by_cases c2 : (n : Int) ≤ p
  · have e : ofsV n P p k = .tuple #[.int .i64 0, .bool false] := ofs_out n P p k (by omega)
    have t2 : decide ((n : Int) ≤ p) = true := decide_eq_true c2
    rw [e]
    clear h e c1 c2
    go_enter Try.func16, Try.ntmps16
    go_wp2_with fail
    go_ret2
    exact ⟨rfl, rfl⟩
  have t2 : decide ((n : Int) ≤ p) = false := decide_eq_false c2
  by_cases c3 : k < 0
  · have e : ofsV n P p k = .tuple #[.int .i64 0, .bool false] := ofs_out n P p k (by omega)
    have t3 : decide (k < 0) = true := decide_eq_true c3
    rw [e]
    clear h e c1 c2 c3
    go_enter Try.func16, Try.ntmps16
    go_wp2_with fail
    go_ret2
    exact ⟨rfl, rfl⟩
  have t3 : decide (k < 0) = false := decide_eq_false c3
  obtain ⟨p, rfl⟩ : ∃ q : Nat, p = (q : Int) := ⟨p.toNat, by omega⟩
  obtain ⟨k, rfl⟩ : ∃ q : Nat, k = (q : Int) := ⟨k.toNat, by omega⟩
  obtain ⟨hok, hls, b, off, rfl, -, c0⟩ := H.out p (by omega)
  have hpn : (p : Int) < (n : Int) := by omega
  have hpn' : p < n := by omega
  by_cases c4 : ((P p).ln : Int) ≤ (k : Int)
  · have e : ofsV n P (p : Int) (k : Int) = .tuple #[.int .i64 0, .bool false] := ofs_out n P _ _ (by simp; omega)
    have t4 : decide (((P p).ln : Int) ≤ (k : Int)) = true := decide_eq_true c4
    have t5 : decide ((P p).ln ≤ k) = true := decide_eq_true (by omega)
    rw [e]
    clear h e c1 c3 c4 hls hok
    generalize P p = X at *
    obtain ⟨la, ln, lc, F⟩ := X
    simp only at *
    go_enter Try.func16, Try.ntmps16
    go_wp2_with fail
    go_ret2
    exact ⟨rfl, rfl⟩
  have t4 : decide (((P p).ln : Int) ≤ (k : Int)) = false := decide_eq_false c4
  have t5 : decide ((P p).ln ≤ k) = false := decide_eq_false (by omega)
  rw [ofs_in n P p k (by omega) (by omega)]
  have hkl : k < (P p).ln := by omega
  have HZ := boxed (fun i (hi : i ≤ n) => Nat.le_trans (psz_mono P i n hi) hz)
  have HU0 : Box (upTo P p k 0 = 0) := boxed (by unfold upTo; rw [if_pos (Nat.zero_le _)]; rfl)
  have HU1 : Box (∀ i, i < p → upTo P p k (i + 1) = psz P i + lsz (P i).F (P i).ln) := boxed (fun i hi => by unfold upTo; rw [if_pos (by omega)]; rfl)
  have HU2 : Box (upTo P p k (p + 1) = psz P p + lsz (P p).F k) := boxed (by unfold upTo; rw [if_neg (by omega)])
  have HUi : Box (∀ i, i ≤ p → upTo P p k i = psz P i) := boxed (fun i hi => by unfold upTo; rw [if_pos hi])
  have HKL := boxed hkl
  clear h c1 c2 c3 c4 hls hok hz
  obtain ⟨V, hV⟩ : ∃ V, psz P p + lsz (P p).F k = V := ⟨_, rfl⟩
  have HV := boxed hV
  rw [hV]
  clear hV
  have c0' := c0
  obtain ⟨X, hX⟩ : ∃ X, P p = X := ⟨_, rfl⟩
  have HXp := boxed hX
  rw [hX] at c0' t4 t5 hkl
  clear c0 hX
  obtain ⟨la, ln, lc, F⟩ := X
  simp only at *
  have hkl2 : (k : Int) < (ln : Int) := by omega
  go_enter Try.func16, Try.ntmps16
  go_wp2_with fail
  clear hun t1 t2 t3 t4 t5 c0'
  go_loopw [8, 9] (fun sv iv wr => ∃ i : Nat, i ≤ p + 1 ∧ iv = .int .i64 (i : Nat) ∧ sv = .int .i64 (upTo P p k i : Nat) ∧ wr = w) (fun _ iv _ => p + 1 - (intOf iv).toNat)
  case atStart => exact ⟨0, Nat.zero_le _, rfl, by rw [HU0.out]; rfl, rfl⟩
  case round =>
    obtain ⟨i, hi, rfl, rfl, rfl⟩ := hrel
    by_cases hip : i ≤ p
    · have t0 : decide ((i : Int) ≤ (p : Int)) = true := decide_eq_true (by omega)
      have t0n : decide (i ≤ p) = true := decide_eq_true hip
      obtain ⟨hok, hls, b', off', e, -, c0⟩ := H.out i (by omega)
      injection e with e
      injection e with e1 e2
      subst e1; subst e2
      have hin : (i : Int) < (n : Int) := by omega
      have hin' : i < n := by omega
      have hml := hok.ln
      simp only [maxLen] at hml
      have hz1 := HZ.out (i + 1) (by omega)
      have HLS := boxed hls
      have hpz : psz P (i + 1) = psz P i + lsz (P i).F (P i).ln := rfl
      have HLM := boxed (fun j (hj : j ≤ (P i).ln) => lsz_mono (P i).F j (P i).ln hj)
      obtain ⟨m, hm⟩ : ∃ m, (if i < p then (P i).ln else k) = m := ⟨_, rfl⟩
      have hmle : m ≤ (P i).ln := by
        rw [← hm]
        split
        · exact Nat.le_refl _
        · have : i = p := by omega
          subst this
          have := HKL.out
          omega
      have HUn : Box (upTo P p k (i + 1) = psz P i + lsz (P i).F m) := boxed (by
        rw [← hm]
        split
        · rename_i hlt; rw [HU1.out i hlt]
        · have : i = p := by omega
          subst this
          exact HU2.out)
      have HTEST : Box ((i < p ∧ m = (P i).ln) ∨ (i = p ∧ m = k ∧ k < (P i).ln)) := boxed (by
        by_cases c : i < p
        · exact Or.inl ⟨c, by rw [← hm, if_pos c]⟩
        · have e2 : i = p := by omega
          subst e2
          exact Or.inr ⟨rfl, by rw [← hm, if_neg c], HKL.out⟩)
      rw [HUi.out i hip]
      clear hok hls hm hpz
      obtain ⟨z, hz⟩ : ∃ z, psz P i = z := ⟨_, rfl⟩
      rw [hz] at HUn ⊢
      have hzz : z + lsz (P i).F (P i).ln ≤ 1000000 := by rw [← hz]; exact hz1
      clear hz hz1
      obtain ⟨Xi, hXi⟩ : ∃ Xi, P i = Xi := ⟨_, rfl⟩
      rw [hXi] at c0 hml HLS HLM hmle HUn HTEST hzz
      clear hXi
      obtain ⟨la2, ln2, lc2, F2⟩ := Xi
      simp only at *
      go_wp2_with fail
      clear t0 t0n
      go_loopw [8, 10] (fun sv kv wq => ∃ j : Nat, j ≤ m ∧ kv = .int .i64 (j : Nat) ∧ sv = .int .i64 (z + lsz F2 j : Nat) ∧ wq = wr) (fun _ kv _ => m - (intOf kv).toNat)
      case atStart => exact ⟨0, Nat.zero_le _, rfl, rfl, rfl⟩
      case round =>
        obtain ⟨j, hj, rfl, rfl, rfl⟩ := hrel
        by_cases hjm : j < m
        · have hjl : j < ln2 := by omega
          have hjl2 : (j : Int) < (ln2 : Int) := by omega
          obtain ⟨bl, ol, rfl, -⟩ := HLS.out.form (by omega)
          obtain ⟨-, d0, -⟩ := HLS.out.get j hjl
          have HE : Box (lsz F2 (j + 1) = lsz F2 j + (F2 j).tx.size) := boxed rfl
          have hl1 := HLM.out (j + 1) hjl
          rw [HE.out] at hl1
          generalize (F2 j).tx = tx at *
          obtain ⟨sz, hsz⟩ : ∃ sz, tx.size = sz := ⟨_, rfl⟩
          rw [hsz] at HE hl1
          generalize lsz F2 j = y at *
          have tA : decide ((j : Int) < (ln2 : Int)) = true := decide_eq_true hjl2
          have tAn : decide (j < ln2) = true := decide_eq_true hjl
          have hun : undef = Value.tuple #[] := rfl
          by_cases c : i < p
          · have tB : decide ((i : Int) < (p : Int)) = true := decide_eq_true (by omega)
            have tBn : decide (i < p) = true := decide_eq_true c
            clear c
            go_wp2_with fail
            clear hun
            go_roundw
            case rel => exact ⟨j + 1, by omega, by go_num, by rw [HE.out]; (first | rfl | go_num), (by first | rfl | trivial)⟩
            case measure => simp [intOf] <;> omega
          · have hh := HTEST.out
            have tB : decide ((i : Int) < (p : Int)) = false := decide_eq_false (by omega)
            have tBn : decide (i < p) = false := decide_eq_false c
            have hjk : j < k := by omega
            have tC : decide ((j : Int) < (k : Int)) = true := decide_eq_true (by omega)
            have tCn : decide (j < k) = true := decide_eq_true hjk
            clear c hh
            go_wp2_with fail
            clear hun
            go_roundw
            case rel => exact ⟨j + 1, by omega, by go_num, by rw [HE.out]; (first | rfl | go_num), (by first | rfl | trivial)⟩
            case measure => simp [intOf] <;> omega
        · obtain rfl : j = m := by omega
          have hun : undef = Value.tuple #[] := rfl
          by_cases c : i < p
          · have hh := HTEST.out
            have hjl : ¬ j < ln2 := by omega
            have tA : decide ((j : Int) < (ln2 : Int)) = false := decide_eq_false (by omega)
            have tAn : decide (j < ln2) = false := decide_eq_false hjl
            clear c hh hjl
            go_wp2_with fail
            clear hun
            go_roundw
            case rel => exact ⟨i + 1, by omega, by go_num, by rw [HUn.out], (by first | rfl | trivial)⟩
            case measure => simp [intOf] <;> omega
          · have hh := HTEST.out
            have hjl : j < ln2 := by omega
            have tA : decide ((j : Int) < (ln2 : Int)) = true := decide_eq_true (by omega)
            have tAn : decide (j < ln2) = true := decide_eq_true hjl
            have tB : decide ((i : Int) < (p : Int)) = false := decide_eq_false (by omega)
            have tBn : decide (i < p) = false := decide_eq_false c
            have tC : decide ((j : Int) < (k : Int)) = false := decide_eq_false (by omega)
            have tCn : decide (j < k) = false := decide_eq_false (by omega)
            clear c hh hjl
            go_wp2_with fail
            clear hun
            go_roundw
            case rel => exact ⟨i + 1, by omega, by go_num, by rw [HUn.out], (by first | rfl | trivial)⟩
            case measure => simp [intOf] <;> omega
    · obtain rfl : i = p + 1 := by omega
      have t0 : decide (((p + 1 : Nat) : Int) ≤ (p : Int)) = false := decide_eq_false (by omega)
      have t0n : decide (p + 1 ≤ p) = false := decide_eq_false (by omega)
      have t0m : decide ((p : Int) + 1 ≤ (p : Int)) = false := decide_eq_false (by omega)
      have HE : Box (upTo P p k (p + 1) = V) := boxed (by rw [HU2.out, HV.out])
      go_wp2_with fail
      go_ret2
      exact ⟨by rw [HE.out]; rfl, rfl⟩
end Go.Proofs.Ytcdcpmcjlchfgaa
