/-
  What the document's Check, Span, Insert and Delete answer.
-/
import Derived.Test.YtfikmlgmklnlaaaWr
namespace Go.Proofs.Ytfikmlgmklnlaaa
open Go.RowKit
set_option linter.unusedSimpArgs false
set_option linter.unusedVariables false

theorem bl_app (s t : ByteArray) : bl (s ++ t) = bl s ++ bl t := by simp [bl]
theorem bl_ext (s : ByteArray) (i j : Nat) : bl (s.extract i j) = ((bl s).take j).drop i := by
  simp [bl, List.drop_take]

theorem bat_bl (s : ByteArray) (k : Nat) (h : k < s.size) : bat (bl s) (k : Int) = (bt s k, true) := by
  rw [bat_in _ _ (by rw [bl_len]; exact h), bl_bt s k h]
theorem bat_end (l : List Nat) : bat l (l.length : Int) = (0, false) := by unfold bat; rw [if_neg (by omega)]

set_option maxRecDepth 100000 in
set_option maxHeartbeats 1000000 in
theorem refCheck_any (s : ByteArray) (a : Int) (w : World) (hs : s.size ≤ 1048576) :
    Calls Try.prog 21 #[.string s, .int .i64 a] w fun e w' => e = .returned (.int .i64 (cke (bl s) a)) ∧ w' = w := by
  have hun : undef = Value.tuple #[] := rfl
  by_cases h1 : a < 0
  · have hv : Box (cke (bl s) a = 30) := boxed (by unfold cke; rw [if_pos (Or.inl h1)])
    have t1 : decide (a < 0) = true := decide_eq_true h1
    go_enter Try.func21, Try.ntmps21
    go_wp2
    go_ret
    exact ⟨ret_int hv.out.symm, rfl⟩
  have t1 : decide (a < 0) = false := decide_eq_false h1
  by_cases h2 : (s.size : Int) < a
  · have hv : Box (cke (bl s) a = 30) := boxed (by unfold cke; rw [bl_len, if_pos (Or.inr h2)])
    have t2 : decide ((s.size : Int) < a) = true := decide_eq_true h2
    go_enter Try.func21, Try.ntmps21
    go_wp2
    go_ret
    exact ⟨ret_int hv.out.symm, rfl⟩
  obtain ⟨k, rfl⟩ : ∃ k : Nat, a = (k : Int) := ⟨a.toNat, by omega⟩
  have hv0 : Box (cke (bl s) (k : Int) = if (bat (bl s) (k : Int)).2 = true ∧ ins ((bat (bl s) (k : Int)).1 : Int) = true then 21 else 0) := boxed (by unfold cke; rw [bl_len, if_neg (by omega)])
  have t2 : decide ((s.size : Int) < (k : Int)) = false := decide_eq_false h2
  have t2' : decide (s.size < k) = false := decide_eq_false (by omega)
  have t1' : decide ((k : Int) < 0) = false := decide_eq_false (by omega)
  by_cases h3 : k < s.size
  · have hx := idx s k h3 (k : Int) rfl
    have t3 : decide ((k : Int) < (s.size : Int)) = true := decide_eq_true (by omega)
    have t3' : decide (k < s.size) = true := decide_eq_true h3
    have hv : Box (cke (bl s) (k : Int) = if ins (bt s k : Int) = true then 21 else 0) := boxed (by rw [hv0.out, bat_bl s k h3]; simp)
    clear hv0 h1 h2
    generalize bt s k = V at *
    by_cases h4 : 128 ≤ V
    · have t4 : decide ((128 : Int) ≤ (V : Int)) = true := decide_eq_true (by omega)
      by_cases h5 : V < 192
      · have t5 : decide ((V : Int) < 192) = true := decide_eq_true (by omega)
        have hi : ins (V : Int) = true := by rw [ins_nat]; omega
        rw [hi] at hv
        go_enter Try.func21, Try.ntmps21
        go_wp2
        go_ret
        exact ⟨ret_int (by rw [hv.out]; rfl), rfl⟩
      · have t5 : decide ((V : Int) < 192) = false := decide_eq_false (by omega)
        have hi : ins (V : Int) = false := by cases hc : ins (V : Int) with | false => rfl | true => rw [ins_nat] at hc; omega
        rw [hi] at hv
        go_enter Try.func21, Try.ntmps21
        go_wp2
        go_ret
        exact ⟨ret_int (by rw [hv.out]; rfl), rfl⟩
    · have t4 : decide ((128 : Int) ≤ (V : Int)) = false := decide_eq_false (by omega)
      have hi : ins (V : Int) = false := by cases hc : ins (V : Int) with | false => rfl | true => rw [ins_nat] at hc; omega
      rw [hi] at hv
      go_enter Try.func21, Try.ntmps21
      go_wp2
      go_ret
      exact ⟨ret_int (by rw [hv.out]; rfl), rfl⟩
  · have hk : k = s.size := by omega
    have hv : Box (cke (bl s) (k : Int) = 0) := boxed (by rw [hv0.out, hk, ← bl_len s, bat_end]; simp)
    have t3 : decide ((k : Int) < (s.size : Int)) = false := decide_eq_false (by omega)
    have t3' : decide (k < s.size) = false := decide_eq_false h3
    clear hv0 h1 h2 hk
    go_enter Try.func21, Try.ntmps21
    go_wp2
    go_ret
    exact ⟨ret_int hv.out.symm, rfl⟩

set_option maxRecDepth 100000 in
set_option maxHeartbeats 1000000 in
theorem refSpan_any (s : ByteArray) (a b : Int) (w : World) (hs : s.size ≤ 1048576) :
    Calls Try.prog 19 #[.string s, .int .i64 a, .int .i64 b] w fun e w' => e = .returned (.int .i64 (spe (bl s) a b)) ∧ w' = w := by
  have hca := fun w => refCheck_any s a w hs
  have hcb := fun w => refCheck_any s b w hs
  have hun : undef = Value.tuple #[] := rfl
  by_cases h1 : a < 0
  · have hv : Box (spe (bl s) a b = 30) := boxed (by unfold spe; rw [if_pos (Or.inl h1)])
    have t1 : decide (a < 0) = true := decide_eq_true h1
    go_enter Try.func19, Try.ntmps19
    go_wp2_with fail
    go_ret
    exact ⟨ret_int hv.out.symm, rfl⟩
  have t1 : decide (a < 0) = false := decide_eq_false h1
  by_cases h2 : (s.size : Int) < b
  · have hv : Box (spe (bl s) a b = 30) := boxed (by unfold spe; rw [bl_len, if_pos (Or.inr (Or.inl h2))])
    have t2 : decide ((s.size : Int) < b) = true := decide_eq_true h2
    go_enter Try.func19, Try.ntmps19
    go_wp2_with fail
    go_ret
    exact ⟨ret_int hv.out.symm, rfl⟩
  have t2 : decide ((s.size : Int) < b) = false := decide_eq_false h2
  by_cases h3 : b < a
  · have hv : Box (spe (bl s) a b = 30) := boxed (by unfold spe; rw [if_pos (Or.inr (Or.inr h3))])
    have t3 : decide (b < a) = true := decide_eq_true h3
    go_enter Try.func19, Try.ntmps19
    go_wp2_with fail
    go_ret
    exact ⟨ret_int hv.out.symm, rfl⟩
  have t3 : decide (b < a) = false := decide_eq_false h3
  have hcv : Box (spe (bl s) a b = if cke (bl s) a ≠ 0 then cke (bl s) a else cke (bl s) b) := boxed (by unfold spe; rw [bl_len, if_neg (by omega)])
  clear h1 h2 h3
  generalize cke (bl s) a = CA at *
  generalize cke (bl s) b = CB at *
  by_cases h4 : CA = 0
  · subst h4
    go_enter Try.func19, Try.ntmps19
    go_wp2_with fail
    refine (hca _).mono ?_
    rintro e w' ⟨rfl, hw'⟩
    subst w'
    clear hca
    go_wp2_with fail
    refine (hcb _).mono ?_
    rintro e w' ⟨rfl, hw'⟩
    subst w'
    go_wp2
    go_ret
    exact ⟨ret_int (by rw [hcv.out]; simp), rfl⟩
  · have t4 : (CA == 0) = false := by simpa using h4
    have t4' : (CA != 0) = true := by simpa using h4
    go_enter Try.func19, Try.ntmps19
    go_wp2_with fail
    refine (hca _).mono ?_
    rintro e w' ⟨rfl, hw'⟩
    subst w'
    go_wp2
    go_ret
    exact ⟨ret_int (by rw [hcv.out]; simp [h4]), rfl⟩

theorem spe_zero (l : List Nat) (a b : Int) (h : spe l a b = 0) : 0 ≤ a ∧ b ≤ (l.length : Int) ∧ a ≤ b := by
  unfold spe at h
  by_cases c : a < 0 ∨ (l.length : Int) < b ∨ b < a
  · rw [if_pos c] at h; omega
  · omega
theorem cke_zero (l : List Nat) (a : Int) (h : cke l a = 0) : 0 ≤ a ∧ a ≤ (l.length : Int) := by
  unfold cke at h
  by_cases c : a < 0 ∨ (l.length : Int) < a
  · rw [if_pos c] at h; omega
  · omega

set_option maxRecDepth 100000 in
set_option maxHeartbeats 1000000 in
theorem refDelete_any (s : ByteArray) (a b : Int) (w : World) (hs : s.size ≤ 65536) :
    Calls Try.prog 42 #[.string s, .int .i64 a, .int .i64 b] w fun e w' => ∃ r, e = .returned (.tuple #[.string r, .int .i64 (spe (bl s) a b)]) ∧ bl r = (if spe (bl s) a b = 0 then (bl s).take a.toNat ++ (bl s).drop b.toNat else bl s) ∧ Below w.heap.size w w' := by
  have hsp := refSpan_any s a b w (by omega)
  by_cases h1 : spe (bl s) a b = 0
  · rw [h1] at hsp
    have hz := spe_zero _ _ _ h1
    rw [bl_len] at hz
    obtain ⟨i, rfl⟩ : ∃ i : Nat, a = (i : Int) := ⟨a.toNat, by omega⟩
    obtain ⟨j, rfl⟩ : ∃ j : Nat, b = (j : Int) := ⟨b.toNat, by omega⟩
    have s1 : ∀ w, (Instr.slice 9 (.string s) none (some (.int .i64 (i : Int))) none).run Try.prog w = .ok (.string (s.extract 0 i)) w := fun w => by
      simpa using run_slice_string_h (P := Try.prog) w 9 s Try.underlying9 .i64 (i : Int) (by omega) (by omega)
    have s2 : ∀ w, (Instr.slice 9 (.string s) (some (.int .i64 (j : Int))) none none).run Try.prog w = .ok (.string (s.extract j s.size)) w := fun w => by
      simpa using run_slice_string_l (P := Try.prog) w 9 s Try.underlying9 .i64 (j : Int) (by omega) (by omega)
    have e1 : (s.extract 0 i).size ≤ 65536 := by rw [← bl_len, bl_ext]; simp [bl_len]; omega
    have e2 : (s.extract j s.size).size ≤ 65536 := by rw [← bl_len, bl_ext]; simp [bl_len]; omega
    have HR : Box (bl (s.extract 0 i ++ s.extract j s.size) = (bl s).take i ++ (bl s).drop j) := boxed (by
      rw [bl_app, bl_ext, bl_ext, List.drop_zero]
      congr 2
      rw [← bl_len s, List.take_length])
    generalize s.extract 0 i = s1' at *
    generalize s.extract j s.size = s2' at *
    rw [if_pos h1, h1]
    clear hz h1
    go_enter Try.func42, Try.ntmps42
    go_wp2_with (go_at_call 19; refine hsp.mono ?_; rintro e w' ⟨rfl, hw'⟩; subst w')
    go_quiet (fail)
    go_wp2
    refine bodyPost_ret (v := .tuple #[.string (s1' ++ s2'), .int .i64 0]) (by simp [results, Try.results42, go_sem]) rfl ⟨_, rfl, by simpa using HR.out, bel_drewN _ _ _⟩
  · rw [if_neg h1]
    have t1 : (spe (bl s) a b == 0) = false := by simpa using h1
    have t1' : (spe (bl s) a b != 0) = true := by simpa using h1
    generalize spe (bl s) a b = E at *
    clear h1
    go_enter Try.func42, Try.ntmps42
    go_wp2_with (go_at_call 19; refine hsp.mono ?_; rintro e w' ⟨rfl, hw'⟩; subst w')
    refine bodyPost_ret (v := .tuple #[.string s, .int .i64 E]) (by simp [results, Try.results42, go_sem]) rfl ⟨_, rfl, rfl, Below.refl _ _⟩
end Go.Proofs.Ytfikmlgmklnlaaa
