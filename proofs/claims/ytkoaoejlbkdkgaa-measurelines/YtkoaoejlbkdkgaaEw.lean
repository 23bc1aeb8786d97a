/-
  What the document's Legal and Start answer; what the statements' para does.
-/
import Derived.Test.YtkoaoejlbkdkgaaEv
import Derived.Test.YtkoaoejlbkdkgaaJe
import Derived.Test.YtkoaoejlbkdkgaaJi
import Derived.Lib.QuietBelow
import Derived.BigQuiet
namespace Go.Proofs.Ytkoaoejlbkdkgaa
open Go.RowKit
set_option linter.unusedSimpArgs false
set_option linter.unusedVariables false

set_option maxRecDepth 100000 in
set_option maxHeartbeats 4000000 in
theorem reflegal8_any (S : Nat → Prop) (ao : Option Addr) (n c : Nat) (I : Nat → Itm) (w : World) (h : ItsAt S w ao n I) (hm : n ≤ 262144) :
    Calls Try.prog 14 #[.slice ao n c] w fun e w' => ∃ v', e = .returned v' ∧ w'.ownsRow w.heap.size 3 1 v' (lgs I n n).length (ncs (lgs I n n)) ∧ Below w.heap.size w w' := by
  obtain ⟨i0, hi, hz0, hz1, hz2⟩ := info_parts info_int8
  have HH := boxed h
  clear h
  obtain ⟨B, hB⟩ : ∃ B, w.heap.size = B := ⟨_, rfl⟩
  rw [hB]
  go_enter Try.func14, Try.ntmps14
  go_wp2_with fail
  go_loopw [3, 4] (fun v i wr => ∃ k : Nat, k ≤ n ∧ i = .int .i64 (k : Int) ∧ Box (wr.ownsRow B 3 1 v (lgs I n k).length (ncs (lgs I n k))) ∧ Box (Below B w wr)) (fun _ i _ => n - (intOf i).toNat)
  case atStart => exact ⟨0, Nat.zero_le _, rfl, boxed (World.ownsRow_nil _ _ _ _), boxed (Below.refl _ _)⟩
  case round =>
    obtain ⟨k, hk, rfl, HO, HB⟩ := hrel
    by_cases hlt : k < n
    · have hbs : B ≤ wr.heap.size := by have := HB.out.size; omega
      have hl := reflegal_any S ao n c I wr (HH.out.below (by rw [hB]; exact HB.out)) (by unfold maxLen; omega) k
      have t3 : decide ((k : Int) < (n : Int)) = true := decide_eq_true (by omega)
      have hlen := lgs_len I n k
      have HE := boxed (show lgs I n (k + 1) = if legl I n k = true then lgs I n k ++ [k] else lgs I n k from rfl)
      cases hg : legl I n k
      · rw [hg] at hl HE
        have HE2 : Box (lgs I n (k + 1) = lgs I n k) := boxed (by rw [HE.out]; rfl)
        clear hg HE
        generalize lgs I n k = L at *
        go_wp2_with fail
        refine hl.mono ?_
        rintro e w2 ⟨rfl, hb2⟩
        have HB2 := boxed (HB.out.trans (hb2.mono hbs))
        have HO2 := boxed (owns_below HO.out hb2)
        clear hb2 hl
        go_wp2_with fail
        go_roundw
        case rel => exact ⟨k + 1, by omega, by go_num, by rw [HE2.out]; exact HO2, HB2⟩
        case measure => simp [intOf]; omega
      · rw [hg] at hl HE
        have HE2 : Box (lgs I n (k + 1) = lgs I n k ++ [k]) := boxed (by rw [HE.out]; rfl)
        clear hg HE
        generalize lgs I n k = L at *
        go_wp2_with fail
        refine hl.mono ?_
        rintro e w2 ⟨rfl, hb2⟩
        have HB2 := boxed (HB.out.trans (hb2.mono hbs))
        have hown := owns_below HO.out hb2
        have hbs2 : B ≤ w2.heap.size := Nat.le_trans hbs hb2.size
        clear hb2 hl HO HB
        generalize hM : L.length = M at *
        go_wp2_with (first | (at_builtin; refine wpList_append_own _ rfl _ _ 30 rfl B 3 i0 _ 1 8 Try.underlying30 hi hz0 hz1 hz2 rfl (by decide) _ _ _ rfl (hown.alloc _) ⟨w2.heap.size, 0, none⟩ 1 1 [.int .i64 (k : Nat)] rfl rfl ?c1 ?c2 ?c3 ?c4 ?c5 ?_))
        case c1 =>
          intro j u hj
          match j, hj with
          | 0, hj => simp at hj; subst hj; simp [Addr.add]
        case c2 => intro u hu; simp at hu; subst hu; rfl
        case c3 => unfold maxLen; omega
        case c4 => omega
        case c5 => simp; omega
        intro v' w6 hown6 hgrow6 _
        have HO6 := boxed hown6
        have HG6 := boxed (HB2.out.trans (grown_any hown hbs2 hgrow6))
        clear hown6 hgrow6 hown
        go_wp2_with fail
        go_roundw
        case rel => exact ⟨k + 1, by omega, by go_num, boxed (by rw [HE2.out, ncs_app, List.length_append, hM]; exact HO6.out), HG6⟩
        case measure => simp [intOf]; omega
    · have e : k = n := by omega
      subst e
      go_wp2
      go_ret
      exact ⟨_, rfl, HO.out, HB.out⟩
set_option maxRecDepth 100000 in
set_option maxHeartbeats 2000000 in
theorem para_none (S : Nat → Prop) (ao : Option Addr) (n c : Nat) (I : Nat → Itm) (w : World) (h : ItsAt S w ao n I) (hn : n ≤ maxLen) (hr : 400 < n ∨ rgt I n = false) :
    Calls Try.prog 18 #[.slice ao n c] w fun e w' => e = .returned (.pointer none) ∧ Below w.heap.size w w' := by
  by_cases c4 : 400 < n
  · have t1 : decide ((400 : Int) < (n : Int)) = true := decide_eq_true (by omega)
    unfold maxLen at hn
    clear h
    go_enter Try.func18, Try.ntmps18
    go_wp2_with fail
    go_ret
    exact ⟨rfl, Below.refl _ _⟩
  · have hR := refright7_any S ao n c I w h hn
    have hf : rgt I n = false := by rcases hr with h | h; exact absurd h c4; exact h
    rw [hf] at hR
    have t1 : decide ((400 : Int) < (n : Int)) = false := decide_eq_false (by omega)
    clear h hn
    have hn2 : n ≤ 400 := by omega
    go_enter Try.func18, Try.ntmps18
    go_wp2_with fail
    refine hR.mono ?_
    rintro e w1 ⟨rfl, hb⟩
    have HB := boxed hb
    clear hb hR
    go_wp2_with fail
    go_ret
    exact ⟨rfl, HB.out⟩
set_option maxRecDepth 100000 in
set_option maxHeartbeats 2000000 in
theorem para_some (S : Nat → Prop) (ao : Option Addr) (n c : Nat) (I : Nat → Itm) (w : World) (h : ItsAt S w ao n I) (hn : n ≤ 400) (hr : rgt I n = true) :
    Calls Try.prog 18 #[.slice ao n c] w fun e w' => ∃ pb, e = .returned (.pointer (some ⟨pb, 0, none⟩)) ∧ ParaAt (fun b => w.heap.size ≤ b) w' pb n I ∧ Below w.heap.size w w' := by
  have hR := refright7_any S ao n c I w h (by unfold maxLen; omega)
  rw [hr] at hR
  have hN := boxed (fun W (hb : Below w.heap.size w W) => new_any S ao n c I W (h.below hb) (by unfold maxLen; omega) hr)
  have t1 : decide ((400 : Int) < (n : Int)) = false := decide_eq_false (by omega)
  clear h hr
  go_enter Try.func18, Try.ntmps18
  go_wp2_with fail
  refine hR.mono ?_
  rintro e w1 ⟨rfl, hb⟩
  have HB := boxed hb
  clear hb hR
  go_wp2_with fail
  refine (hN.out _ HB.out).mono ?_
  rintro e w2 ⟨pb, rfl, hP, hb2⟩
  have HP := boxed (hP.keep (kp_more (S' := fun b => w.heap.size ≤ b) (fun b hb => Nat.le_trans HB.out.size hb) (Below.refl _ _)))
  have HB2 := boxed (below_step HB.out (Nat.le_refl _) hb2)
  clear hP hb2
  go_wp2_with fail
  go_ret
  exact ⟨pb, rfl, HP.out, HB2.out⟩
set_option maxRecDepth 100000 in
set_option maxHeartbeats 4000000 in
theorem refstart_any (S : Nat → Prop) (ao : Option Addr) (n c : Nat) (I : Nat → Itm) (w : World) (h : ItsAt S w ao n I) (hn : n ≤ 262144) (a : Int) :
    Calls Try.prog 24 #[.slice ao n c, .int .i64 a] w fun e w' => e = .returned (.int .i64 (sta I n a : Nat)) ∧ Below w.heap.size w w' := by
  by_cases a0 : a < 0
  · have e : sta I n a = 0 := by unfold sta; rw [if_pos a0]
    rw [e]
    have t1 : decide (a < 0) = true := decide_eq_true a0
    clear h
    go_enter Try.func24, Try.ntmps24
    go_wp2_with fail
    go_ret
    exact ⟨rfl, Below.refl _ _⟩
  have t1 : decide (a < 0) = false := decide_eq_false a0
  by_cases a1 : (n : Int) ≤ a
  · have e : sta I n a = n := by unfold sta; rw [if_neg a0, if_neg (by omega)]
    rw [e]
    have t2 : decide (a < (n : Int)) = false := decide_eq_false (by omega)
    clear h
    go_enter Try.func24, Try.ntmps24
    go_wp2_with fail
    go_rounds 1
    all_goals
      go_ret
      exact ⟨rfl, Below.refl _ _⟩
  obtain ⟨s, rfl⟩ : ∃ j : Nat, a = (j : Int) := ⟨a.toNat, by omega⟩
  have hs : s < n := by omega
  have e : sta I n (s : Int) = nxt I n s := by unfold sta; rw [if_neg a0, if_pos (by omega), Int.toNat_natCast]
  rw [e]
  have HH := boxed h
  clear h e
  go_enter Try.func24, Try.ntmps24
  go_wp2_with fail
  go_loopw [5] (fun kv wr => ∃ k : Nat, s ≤ k ∧ k ≤ n ∧ kv = .int .i64 (k : Int) ∧ Box (k = s ∨ nxt I n s = nb I (n - k) k) ∧ Box (Below w.heap.size w wr)) (fun kv _ => n - (intOf kv).toNat)
  case atStart => exact ⟨s, Nat.le_refl _, by omega, rfl, boxed (.inl rfl), boxed (Below.refl _ _)⟩
  case round =>
    obtain ⟨k, hk1, hk, rfl, HK, HB⟩ := hrel
    by_cases hlt : k < n
    · obtain ⟨b, off, e, -, c0, c1, c2, c3, c4, c5, c6, c7, c8⟩ := (HH.out.below HB.out) k hlt
      subst e
      have t3 : decide ((k : Int) < (n : Int)) = true := decide_eq_true (by omega)
      have t3' : decide (k < n) = true := decide_eq_true hlt
      have HNB := boxed (nb_step I n k hlt)
      have HKL := boxed (And.intro hk1 (And.intro hk hlt))
      by_cases hks : k = s
      · have t4 : decide ((s : Int) < (k : Int)) = false := decide_eq_false (by omega)
        have t4' : decide (s < k) = false := decide_eq_false (by omega)
        have HN1 : Box (k + 1 = s ∨ nxt I n s = nb I (n - (k + 1)) (k + 1)) := boxed (.inr (by rw [hks]; rfl))
        clear hks c0 c1 c2 c3 c4 c5 c6 c7 c8
        go_wp2_with fail
        go_roundw
        case rel => exact ⟨k + 1, by omega, by omega, by go_num, HN1, HB⟩
        case measure => simp [intOf]; omega
      · have t4 : decide ((s : Int) < (k : Int)) = true := decide_eq_true (by omega)
        have t4' : decide (s < k) = true := decide_eq_true (by omega)
        have HN0 : Box (nxt I n s = nb I (n - k) k) := boxed (by rcases HK.out with h | h; exact absurd h hks; exact h)
        have hfo := fun w => refforced_any (I k) w
        have HBg : Box (beg (I k) = (((I k).k == 1) || forc (I k) || (((I k).k == 2) && (I k).fill))) := boxed rfl
        unfold Itm.val at hfo
        clear hks HK
        generalize forc (I k) = f at *
        generalize beg (I k) = V at *
        generalize I k = x at *
        obtain ⟨x1, x2, x3, x4, x5, x6, x7, x8, x9⟩ := x
        simp only at *
        cases g1 : (x1 == 1)
        all_goals cases f
        all_goals cases g2 : (x1 == 2)
        all_goals cases x5
        all_goals
          rw [g1, g2] at HBg
          simp only [Bool.true_or, Bool.false_or, Bool.or_true, Bool.or_false, Bool.true_and, Bool.false_and, Bool.and_true, Bool.and_false] at HBg
          first
          | (have HN2 : Box (nxt I n s = k) := boxed (by rw [HN0.out, HNB.out, HBg.out]; rfl)
             go_wp2_with (go_at_call 39; refine (hfo _).mono ?_; rintro e w5 ⟨rfl, hb5⟩; have k0 := hold hb5 c0; have k4 := hold hb5 c4; have HB5 := boxed (below_step HB.out (Nat.le_refl _) hb5); clear hb5)
             go_ret
             exact ⟨ret_int (by rw [HN2.out]), by first | exact HB5.out | exact HB.out⟩)
          | (have HN2 : Box (k + 1 = s ∨ nxt I n s = nb I (n - (k + 1)) (k + 1)) := boxed (.inr (by rw [HN0.out, HNB.out, HBg.out]; rfl))
             go_wp2_with (go_at_call 39; refine (hfo _).mono ?_; rintro e w5 ⟨rfl, hb5⟩; have k0 := hold hb5 c0; have k4 := hold hb5 c4; have HB5 := boxed (below_step HB.out (Nat.le_refl _) hb5); clear hb5)
             go_roundw
             case rel => exact ⟨k + 1, by have := HKL.out; omega, by have := HKL.out; omega, by go_num, HN2, by first | exact HB5 | exact HB⟩
             case measure => have := HKL.out; simp [intOf]; omega)
    · have e : k = n := by omega
      subst e
      have HN2 : Box (nxt I k s = k) := boxed (by
        rcases HK.out with h | h
        · omega
        · rw [h, Nat.sub_self]; rfl)
      go_wp2_with fail
      go_ret
      exact ⟨ret_int (by rw [HN2.out]), HB.out⟩
end Go.Proofs.Ytkoaoejlbkdkgaa
