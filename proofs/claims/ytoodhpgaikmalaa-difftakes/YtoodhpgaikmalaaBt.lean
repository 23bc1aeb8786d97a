/-
  How many lines regions put in and take out (diff.Count), and what that comes to for a diff.
-/
import Derived.Test.YtoodhpgaikmalaaBr
import Derived.Test.YtoodhpgaikmalaaBs
namespace Go.Proofs.Ytoodhpgaikmalaa
open Go.RowKit
set_option linter.unusedSimpArgs false
set_option linter.unusedVariables false

def inn (rs : List Rg) : Nat := (rs.map (fun r => r.ls.length)).sum
def outt (rs : List Rg) : Int := (rs.map (fun r => r.od)).sum
def sumL (ps : List (List Key)) : Nat := (ps.map (fun x => x.length)).sum
theorem inn_app (a b : List Rg) : inn (a ++ b) = inn a + inn b := by simp [inn]
theorem outt_app (a b : List Rg) : outt (a ++ b) = outt a + outt b := by simp [outt]
theorem sumL_app (a b : List (List Key)) : sumL (a ++ b) = sumL a + sumL b := by simp [sumL]
theorem take_one {α : Type} (l : List α) (k : Nat) (x : α) (h : l[k]? = some x) : l.take (k + 1) = l.take k ++ [x] := by
  rw [List.take_add_one, h]; rfl
theorem inn_step (rs : List Rg) (k : Nat) (r : Rg) (h : rs[k]? = some r) : inn (rs.take (k + 1)) = inn (rs.take k) + r.ls.length := by
  rw [take_one _ _ _ h, inn_app]; simp [inn]
theorem outt_step (rs : List Rg) (k : Nat) (r : Rg) (h : rs[k]? = some r) : outt (rs.take (k + 1)) = outt (rs.take k) + r.od := by
  rw [take_one _ _ _ h, outt_app]; simp [outt]
theorem sumL_step (ps : List (List Key)) (k : Nat) (x : List Key) (h : ps[k]? = some x) : sumL (ps.take (k + 1)) = sumL (ps.take k) + x.length := by
  rw [take_one _ _ _ h, sumL_app]; simp [sumL]
theorem sumL_le (ps : List (List Key)) (M k : Nat) (h : ∀ (i : Nat) (x : List Key), ps[i]? = some x → x.length ≤ M) : sumL (ps.take k) ≤ k * M := by
  induction k with
  | zero => simp [sumL]
  | succ k ih =>
    cases hx : ps[k]? with
    | none => rw [List.take_of_length_le (by have := List.getElem?_eq_none_iff.1 hx; omega)]; rw [List.take_of_length_le (List.getElem?_eq_none_iff.1 hx)] at ih; rw [Nat.add_mul]; omega
    | some x => rw [sumL_step _ _ _ hx]; have := h k x hx; rw [Nat.add_mul]; omega
theorem dat_small (ps qs : List (List Key)) (M n : Nat) (hp : ∀ (i : Nat) (x : List Key), ps[i]? = some x → x.length ≤ M) (hq : ∀ (i : Nat) (x : List Key), qs[i]? = some x → x.length ≤ M) : ∀ r ∈ dat ps qs n, 0 ≤ r.od ∧ r.od ≤ M ∧ r.ls.length ≤ M := by
  intro r hr
  unfold dat at hr
  cases hx : ps[n]? with
  | none =>
    cases hy : qs[n]? with
    | none => simp [hx, hy] at hr
    | some y => have := hq n y hy; simp [hx, hy] at hr; subst hr; simp only; omega
  | some x =>
    have h1 := hp n x hx
    cases hy : qs[n]? with
    | none => simp [hx, hy] at hr; subst hr; simp only [List.length_nil]; omega
    | some y =>
      have h2 := hq n y hy
      simp only [hx, hy, reg] at hr
      split at hr
      · simp at hr
      · simp at hr
        subst hr
        have := now_len x y
        simp only [oldN]
        omega
theorem dif_small (ps qs : List (List Key)) (M : Nat) (hp : ∀ (i : Nat) (x : List Key), ps[i]? = some x → x.length ≤ M) (hq : ∀ (i : Nat) (x : List Key), qs[i]? = some x → x.length ≤ M) : ∀ r ∈ dif ps qs, 0 ≤ r.od ∧ r.od ≤ M ∧ r.ls.length ≤ M := by
  intro r hr
  simp only [dif, dU, List.mem_flatMap] at hr
  obtain ⟨n, -, h⟩ := hr
  exact dat_small ps qs M n hp hq r h
theorem dU_counts (ps qs : List (List Key)) (n : Nat) : ((inn (dU ps qs n) : Nat) : Int) - outt (dU ps qs n) = (sumL (qs.take n) : Nat) - (sumL (ps.take n) : Nat) := by
  induction n with
  | zero => simp [dU, inn, outt, sumL]
  | succ n ih =>
    rw [dU_succ, inn_app, outt_app]
    unfold dat
    cases hx : ps[n]? with
    | none =>
      have e1 : ps.take (n + 1) = ps.take n := by rw [List.take_of_length_le (by have := List.getElem?_eq_none_iff.1 hx; omega), List.take_of_length_le (List.getElem?_eq_none_iff.1 hx)]
      rw [e1]
      cases hy : qs[n]? with
      | none =>
        have e2 : qs.take (n + 1) = qs.take n := by rw [List.take_of_length_le (by have := List.getElem?_eq_none_iff.1 hy; omega), List.take_of_length_le (List.getElem?_eq_none_iff.1 hy)]
        rw [e2]
        simp [inn, outt] at ih ⊢
        omega
      | some y =>
        rw [sumL_step _ _ _ hy]
        simp [inn, outt] at ih ⊢
        omega
    | some x =>
      rw [sumL_step _ _ _ hx]
      cases hy : qs[n]? with
      | none =>
        have e2 : qs.take (n + 1) = qs.take n := by rw [List.take_of_length_le (by have := List.getElem?_eq_none_iff.1 hy; omega), List.take_of_length_le (List.getElem?_eq_none_iff.1 hy)]
        rw [e2]
        simp [inn, outt] at ih ⊢
        omega
      | some y =>
        rw [sumL_step _ _ _ hy]
        simp only [reg]
        split
        · next e => subst e; simp [inn, outt] at ih ⊢; omega
        · have h1 := now_len x y
          have h2 := bck_le x y
          simp [inn, outt, oldN] at ih ⊢
          omega
theorem dif_counts (ps qs : List (List Key)) : ((inn (dif ps qs) : Nat) : Int) - outt (dif ps qs) = (sumL qs : Nat) - (sumL ps : Nat) := by
  have := dU_counts ps qs (max ps.length qs.length)
  rw [List.take_of_length_le (by omega), List.take_of_length_le (by omega)] at this
  exact this
theorem outt_bound (rs : List Rg) (M k : Nat) (h : ∀ r ∈ rs, 0 ≤ r.od ∧ r.od ≤ M ∧ r.ls.length ≤ M) : 0 ≤ outt (rs.take k) ∧ outt (rs.take k) ≤ k * M ∧ inn (rs.take k) ≤ k * M := by
  induction k with
  | zero => simp [outt, inn]
  | succ k ih =>
    cases hx : rs[k]? with
    | none =>
      have e1 : rs.take (k + 1) = rs.take k := by rw [List.take_of_length_le (by have := List.getElem?_eq_none_iff.1 hx; omega), List.take_of_length_le (List.getElem?_eq_none_iff.1 hx)]
      rw [e1]
      have : ((k + 1 : Nat) : Int) * M = k * M + M := by simp [Int.add_mul]
      rw [this, Nat.add_mul]
      omega
    | some r =>
      obtain ⟨h1, h2, h3⟩ := h r (List.mem_of_getElem? hx)
      rw [outt_step _ _ _ hx, inn_step _ _ _ hx]
      have : ((k + 1 : Nat) : Int) * M = k * M + M := by simp [Int.add_mul]
      rw [this, Nat.add_mul]
      omega
set_option maxRecDepth 100000 in
set_option maxHeartbeats 8000000 in
theorem count_any (S : Nat → Prop) (ao : Option Addr) (rs : List Rg) (cap : Nat) (w : World) (h : RgAt S w ao rs) (hn : rs.length ≤ 1000) (hb : ∀ r ∈ rs, 0 ≤ r.od ∧ r.od ≤ (1000 : Nat) ∧ r.ls.length ≤ 1000) :
    Calls Try.prog 18 #[.slice ao rs.length cap] w fun e w' => e = .returned (.tuple #[.int .i64 (inn rs : Nat), .int .i64 (outt rs)]) ∧ Below w.heap.size w w' := by
  have HPs := boxed (fun i (hi : i < rs.length) => (⟨_, List.getElem?_eq_getElem hi⟩ : ∃ r, rs[i]? = some r))
  have HB := boxed (fun k => outt_bound rs 1000 k hb)
  have HI := boxed (fun k r e => inn_step rs k r e)
  have HO := boxed (fun k r e => outt_step rs k r e)
  have HT : Box (rs.take rs.length = rs) := boxed (List.take_of_length_le (Nat.le_refl _))
  have HM := boxed (fun i r (e : rs[i]? = some r) => hb r (List.mem_of_getElem? e))
  have HH := boxed h
  obtain ⟨n, hkn⟩ : ∃ n, rs.length = n := ⟨_, rfl⟩
  rw [hkn] at hn HPs HT ⊢
  clear hkn h hb
  go_enter Try.func18, Try.ntmps18
  go_wp2_with fail
  go_loopw [4, 5, 10] (fun xv yv iv wr => ∃ k : Nat, k ≤ n ∧ iv = .int .i64 (k : Nat) ∧ xv = .int .i64 (inn (rs.take k) : Nat) ∧ yv = .int .i64 (outt (rs.take k)) ∧ Box (Below w.heap.size w wr)) (fun _ _ iv _ => n - (intOf iv).toNat)
  case atStart => exact ⟨0, Nat.zero_le _, rfl, by simp [inn], by simp [outt], boxed (Below.refl _ _)⟩
  case round =>
    obtain ⟨k, hk, rfl, rfl, rfl, HBw⟩ := hrel
    by_cases hlt : k < n
    · obtain ⟨r, er⟩ := HPs.out k hlt
      obtain ⟨-, b, off, la, lc, rfl, -, ⟨r0, r1, r2, r3, r4⟩, -, -⟩ := (HH.out.below HBw.out) k r er
      have hbd := HB.out k
      have h9 := HM.out k r er
      have HIk := boxed (HI.out k r er)
      have HOk := boxed (HO.out k r er)
      have t0 : decide ((k : Int) < (n : Int)) = true := decide_eq_true (by omega)
      have hlt2 : (k : Int) < (n : Int) := by omega
      obtain ⟨pg, kd, fr, od, ls⟩ := r
      simp only at r0 r1 r2 r3 r4 h9 HIk HOk
      clear er
      generalize ls.length = L at *
      generalize inn (rs.take k) = X at *
      generalize outt (rs.take k) = Y at *
      have hw1 : wrap64 ((X : Int) + (L : Int)) = (X : Int) + (L : Int) := by unfold wrap64; omega
      have hw2 : wrap64 (Y + od) = Y + od := by unfold wrap64; omega
      have l1 := laid1 wr (.cells #[.int .i64 pg, .int .i64 kd, .int .i64 fr, .int .i64 od, .slice la L lc] 39)
      obtain ⟨W1, hW1⟩ : ∃ W1, wr.alloc (.cells #[.int .i64 pg, .int .i64 kd, .int .i64 fr, .int .i64 od, .slice la L lc] 39) = W1 := ⟨_, rfl⟩
      rw [hW1] at l1
      have HW1 := boxed hW1
      obtain ⟨⟨c0, c1, c2, c3, c4⟩, -⟩ := cells5 l1.1
      have HBn := boxed (below_step HBw.out (Nat.le_refl _) l1.2.1)
      clear hW1 l1
      go_upto_region 5 with (fail)
      rw [HW1.out]
      go_wp2_with fail
      go_roundw
      case rel => exact ⟨k + 1, by omega, by go_num, by rw [HIk.out] <;> (first | rfl | go_num), by rw [HOk.out], HBn⟩
      case measure => simp [intOf]; omega
    · obtain rfl : k = n := by omega
      have t0 : decide ((k : Int) < (k : Int)) = false := decide_eq_false (by omega)
      rw [HT.out]
      go_wp2_with fail
      go_ret2
      exact ⟨rfl, HBw.out⟩
end Go.Proofs.Ytoodhpgaikmalaa
