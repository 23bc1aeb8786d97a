/-
  What the program's begins, added, and, less, widest and legal answer.
-/
import Derived.Test.YtkmeeblkckfepabGreatEp
import Derived.Test.YtkmeeblkckfepabGreatEk
namespace Go.Proofs.YtkmeeblkckfepabGreat
open Go.RowKit
set_option linter.unusedSimpArgs false
set_option linter.unusedVariables false

theorem grown_any {w w' : World} {B e size n : Nat} {v : Value} {xs : List Value} {o : Obj} (h : w.ownsRow B e size v n xs) (hB : B ≤ w.heap.size) (hg : (w.alloc o).grownBy w' v.ownBlock) : Below B w w' := by
  refine ((Below.refl B w).alloc hB o).grown hg (by simp; omega) ?_
  intro r hr
  exact (h.lt r hr).1
set_option maxRecDepth 100000 in
set_option maxHeartbeats 1000000 in
theorem begins_any (x : Itm) (w : World) : Calls Tryz.prog 41 #[x.val] w fun e w' => e = .returned (.bool (beg x)) ∧ Below w.heap.size w w' := by
  have hf := fun w => forced_any x w
  obtain ⟨f, hF⟩ : ∃ f, forc x = f := ⟨_, rfl⟩
  have HV : Box (beg x = ((x.k == 1) || f || ((x.k == 2) && x.fill))) := boxed (by unfold beg; rw [hF])
  rw [hF] at hf
  generalize beg x = V at *
  unfold Itm.val at hf ⊢
  obtain ⟨k, wd, st, sh, fl, c, fg, fr, to⟩ := x
  simp only at hf HV ⊢
  clear hF
  cases h1 : (k == 1)
  rotate_left
  · go_enter Tryz.func41, Tryz.ntmps41
    go_wp2_with fail
    go_ret
    exact ⟨ret_bool (by rw [HV.out, h1]; rfl), by go_grown⟩
  rw [h1] at HV
  cases f
  all_goals cases h2 : (k == 2)
  all_goals
    rw [h2] at HV
    go_enter Tryz.func41, Tryz.ntmps41
    go_wp2_with fail
    refine (hf _).mono ?_
    rintro e w1 ⟨rfl, hb1⟩
    have c0 := kept_first hb1 0
    have c4 := kept_first hb1 4
    simp at c0 c4
    have HB := boxed (kept_below (Below.refl _ w) (Nat.le_refl _) hb1)
    clear hb1 hf
    go_wp2_with fail
    go_ret
    exact ⟨ret_bool (by rw [HV.out]; simp), HB.out⟩
set_option maxRecDepth 100000 in
set_option maxHeartbeats 1000000 in
theorem added_any (x : Itm) (w : World) : Calls Tryz.prog 43 #[x.val] w fun e w' => e = .returned (.int .i64 (addd x)) ∧ Below w.heap.size w w' := by
  unfold addd Itm.val
  obtain ⟨k, wd, st, sh, fl, c, fg, fr, to⟩ := x
  simp only
  cases h1 : (k == 3)
  · have e : ¬ k = 3 := by simpa using h1
    go_enter Tryz.func43, Tryz.ntmps43
    go_wp2
    go_ret
    exact ⟨ret_int (by first | rfl | (rw [if_neg e])), by go_grown⟩
  · have e : k = 3 := by simpa using h1
    go_enter Tryz.func43, Tryz.ntmps43
    go_wp2
    go_ret
    exact ⟨ret_int (by first | rfl | (rw [if_pos e])), by go_grown⟩
/-- Numbers that sums and items may have. -/
def Sfit (s : Sm) : Prop := (0 ≤ s.w ∧ s.w ≤ 36028797018963968) ∧ (0 ≤ s.st ∧ s.st ≤ 36028797018963968) ∧ (0 ≤ s.sh ∧ s.sh ≤ 36028797018963968) ∧ (0 ≤ s.f ∧ s.f ≤ 36028797018963968)
def Ifit (x : Itm) : Prop := (0 ≤ x.w ∧ x.w ≤ 68719476736) ∧ (0 ≤ x.st ∧ x.st ≤ 68719476736) ∧ (0 ≤ x.sh ∧ x.sh ≤ 68719476736)
set_option maxRecDepth 100000 in
set_option maxHeartbeats 2000000 in
theorem and_any (s : Sm) (x : Itm) (w : World) (hs : Sfit s) (hx : Ifit x) : Calls Tryz.prog 42 #[s.val, x.val] w fun e w' => e = .returned (acc s x).val ∧ Below w.heap.size w w' := by
  unfold Sfit Ifit at *
  unfold acc Sm.val Itm.val
  obtain ⟨k, wd, st, sh, fl, c, fg, fr, to⟩ := x
  obtain ⟨s1, s2, s3, s4⟩ := s
  simp only at *
  cases h1 : (k == 3)
  · have e : ¬ k = 3 := by simpa using h1
    rw [if_neg e]
    have g1 : (k != 3) = true := by simpa using e
    clear e h1
    cases fl
    · go_enter Tryz.func42, Tryz.ntmps42
      go_wp2
      refine bodyPost_ret (v := .agg #[.int .i64 (s1 + wd), .int .i64 (s2 + st), .int .i64 (s3 + sh), .int .i64 s4]) (by simp [results, Tryz.results42, go_sem]) rfl ⟨rfl, by go_grown⟩
    · go_enter Tryz.func42, Tryz.ntmps42
      go_wp2
      refine bodyPost_ret (v := .agg #[.int .i64 (s1 + wd), .int .i64 (s2 + st), .int .i64 (s3 + sh), .int .i64 (s4 + 1)]) (by simp [results, Tryz.results42, go_sem]) rfl ⟨rfl, by go_grown⟩
  · have e : k = 3 := by simpa using h1
    rw [if_pos e]
    have g1 : (k != 3) = false := by simpa using e
    clear e h1
    cases fl
    · go_enter Tryz.func42, Tryz.ntmps42
      go_wp2
      refine bodyPost_ret (v := .agg #[.int .i64 s1, .int .i64 (s2 + st), .int .i64 (s3 + sh), .int .i64 s4]) (by simp [results, Tryz.results42, go_sem]) rfl ⟨rfl, by go_grown⟩
    · go_enter Tryz.func42, Tryz.ntmps42
      go_wp2
      refine bodyPost_ret (v := .agg #[.int .i64 s1, .int .i64 (s2 + st), .int .i64 (s3 + sh), .int .i64 (s4 + 1)]) (by simp [results, Tryz.results42, go_sem]) rfl ⟨rfl, by go_grown⟩
set_option maxRecDepth 100000 in
set_option maxHeartbeats 2000000 in
theorem less_any (s t : Sm) (w : World) (hs : Sfit s) (ht : Sfit t) : Calls Tryz.prog 81 #[s.val, t.val] w fun e w' => e = .returned (s.sub t).val ∧ Below w.heap.size w w' := by
  unfold Sfit at *
  unfold Sm.sub Sm.val
  obtain ⟨t1, t2, t3, t4⟩ := t
  obtain ⟨s1, s2, s3, s4⟩ := s
  simp only at *
  go_enter Tryz.func81, Tryz.ntmps81
  go_wp2
  refine bodyPost_ret (v := .agg #[.int .i64 (s1 - t1), .int .i64 (s2 - t2), .int .i64 (s3 - t3), .int .i64 (s4 - t4)]) (by simp [results, Tryz.results81, go_sem]) rfl ⟨rfl, by go_grown⟩
set_option maxRecDepth 100000 in
set_option maxHeartbeats 4000000 in
theorem widest_any (S : Nat → Prop) (ao : Option Addr) (n c : Nat) (I : Nat → Itm) (w : World) (h : ItsAt S w ao n I) (hm : n ≤ 262144) :
    Calls Tryz.prog 29 #[.slice ao n c] w fun e w' => e = .returned (.int .i64 (wst I n)) ∧ Below w.heap.size w w' := by
  have HH := boxed h
  clear h
  go_enter Tryz.func29, Tryz.ntmps29
  go_wp2_with fail
  go_loopw [3, 8] (fun m i wr => ∃ k : Nat, k ≤ n ∧ m = .int .i64 (wst I k) ∧ i = .int .i64 (k : Int) ∧ Box (Below w.heap.size w wr)) (fun _ i _ => n - (intOf i).toNat)
  case atStart => exact ⟨0, Nat.zero_le _, rfl, rfl, boxed (Below.refl _ _)⟩
  case round =>
    obtain ⟨k, hk, rfl, rfl, HB⟩ := hrel
    by_cases hlt : k < n
    · obtain ⟨b, off, e, -, c0, c1, c2, c3, c4, c5, c6, c7, c8⟩ := (HH.out.below HB.out) k hlt
      subst e
      have q5 : b < wr.heap.size := World.block_lt_of_cell? wr _ c0
      have q6 : b ≠ wr.heap.size := by omega
      have t3 : decide ((k : Int) < (n : Int)) = true := decide_eq_true (by omega)
      have HW : Box (wst I (k + 1) = max (wst I k) (addd (I k))) := boxed rfl
      have hadd := fun w => added_any (I k) w
      unfold Itm.val at hadd
      generalize wst I k = A at *
      generalize addd (I k) = D at *
      generalize I k = x at *
      go_wp2_with fail
      refine (hadd _).mono ?_
      rintro e w2 ⟨rfl, hb2⟩
      have HB2 := boxed (kept_below HB.out (Nat.le_refl _) hb2)
      clear hb2 hadd c0 c1 c2 c3 c4 c5 c6 c7 c8
      go_wp2_with fail
      all_goals
        go_roundw
        case rel => exact ⟨k + 1, by omega, by first | (rw [HW.out]; done) | (rw [HW.out]; congr 1; (try split) <;> omega), by go_num, HB2⟩
        case measure => simp [intOf]; omega
    · have e : k = n := by omega
      subst e
      go_wp2
      go_ret
      exact ⟨rfl, HB.out⟩
set_option maxRecDepth 100000 in
set_option maxHeartbeats 4000000 in
theorem legal8_any (S : Nat → Prop) (ao : Option Addr) (n c : Nat) (I : Nat → Itm) (w : World) (h : ItsAt S w ao n I) (hm : n ≤ 262144) :
    Calls Tryz.prog 26 #[.slice ao n c] w fun e w' => ∃ v', e = .returned v' ∧ w'.ownsRow w.heap.size 3 1 v' (lgs I n n).length (ncs (lgs I n n)) ∧ Below w.heap.size w w' := by
  obtain ⟨i0, hi, hz0, hz1, hz2⟩ := info_parts info_int8
  have HH := boxed h
  clear h
  obtain ⟨B, hB⟩ : ∃ B, w.heap.size = B := ⟨_, rfl⟩
  rw [hB]
  go_enter Tryz.func26, Tryz.ntmps26
  go_wp2_with fail
  go_loopw [3, 7] (fun v i wr => ∃ k : Nat, k ≤ n ∧ i = .int .i64 (k : Int) ∧ Box (wr.ownsRow B 3 1 v (lgs I n k).length (ncs (lgs I n k))) ∧ Box (Below B w wr)) (fun _ i _ => n - (intOf i).toNat)
  case atStart => exact ⟨0, Nat.zero_le _, rfl, boxed (World.ownsRow_nil _ _ _ _), boxed (Below.refl _ _)⟩
  case round =>
    obtain ⟨k, hk, rfl, HO, HB⟩ := hrel
    by_cases hlt : k < n
    · have hbs : B ≤ wr.heap.size := by have := HB.out.size; omega
      have hl := legal_any S ao n c I wr (HH.out.below (by rw [hB]; exact HB.out)) (by unfold maxLen; omega) k
      have t3 : decide ((k : Int) < (n : Int)) = true := decide_eq_true (by omega)
      have hlen := lgs_len I n k
      have HE := boxed (show lgs I n (k + 1) = if legl I n k = true then lgs I n k ++ [k] else lgs I n k from rfl)
      cases hg : legl I n k
      · rw [hg] at hl HE
        have HE2 : Box (lgs I n (k + 1) = lgs I n k) := boxed (by rw [HE.out]; rfl)
        clear hg HE
        generalize lgs I n k = L at *
        go_wp2_with fail
        refine hl.mono ?_
        rintro e w2 ⟨rfl, hb2⟩
        have HB2 := boxed (HB.out.trans (hb2.mono hbs))
        have HO2 := boxed (owns_below HO.out hb2)
        clear hb2 hl
        go_wp2_with fail
        go_roundw
        case rel => exact ⟨k + 1, by omega, by go_num, by rw [HE2.out]; exact HO2, HB2⟩
        case measure => simp [intOf]; omega
      · rw [hg] at hl HE
        have HE2 : Box (lgs I n (k + 1) = lgs I n k ++ [k]) := boxed (by rw [HE.out]; rfl)
        clear hg HE
        generalize lgs I n k = L at *
        go_wp2_with fail
        refine hl.mono ?_
        rintro e w2 ⟨rfl, hb2⟩
        have HB2 := boxed (HB.out.trans (hb2.mono hbs))
        have hown := owns_below HO.out hb2
        have hbs2 : B ≤ w2.heap.size := Nat.le_trans hbs hb2.size
        clear hb2 hl HO HB
        generalize hM : L.length = M at *
        go_wp2_with (first | (at_builtin; refine wpList_append_own _ rfl _ _ 31 rfl B 3 i0 _ 1 8 Tryz.underlying31 hi hz0 hz1 hz2 rfl (by decide) _ _ _ rfl (hown.alloc _) ⟨w2.heap.size, 0, none⟩ 1 1 [.int .i64 (k : Nat)] rfl rfl ?c1 ?c2 ?c3 ?c4 ?c5 ?_))
        case c1 =>
          intro j u hj
          match j, hj with
          | 0, hj => simp at hj; subst hj; simp [Addr.add]
        case c2 => intro u hu; simp at hu; subst hu; rfl
        case c3 => unfold maxLen; omega
        case c4 => omega
        case c5 => simp; omega
        intro v' w6 hown6 hgrow6 _
        have HO6 := boxed hown6
        have HG6 := boxed (HB2.out.trans (grown_any hown hbs2 hgrow6))
        clear hown6 hgrow6 hown
        go_wp2_with fail
        go_roundw
        case rel => exact ⟨k + 1, by omega, by go_num, boxed (by rw [HE2.out, ncs_app, List.length_append, hM]; exact HO6.out), HG6⟩
        case measure => simp [intOf]; omega
    · have e : k = n := by omega
      subst e
      go_wp2
      go_ret
      exact ⟨_, rfl, HO.out, HB.out⟩
end Go.Proofs.YtkmeeblkckfepabGreat
