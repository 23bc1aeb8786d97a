/-
  How a line's glue is set: what the program's loose, tight, over, stretched, shrunk and Set answer.
-/
import Derived.Laws.AppendOwnNone
import Derived.Lib.SliceRun
import Derived.Laws.StructEq
import Derived.Test.YtcjcdpfjnomehaaGreatPx6
import Derived.Test.YtcjcdpfjnomehaaGreatPx8
namespace Go.Proofs.YtcjcdpfjnomehaaGreat
open Go.RowKit
set_option linter.unusedSimpArgs false
set_option linter.unusedVariables false
theorem loose_any (n : Int) (w : World) : Calls Tryz.prog 190 #[.int .i64 n] w fun e w' => e = .returned (.int .i64 (loo n)) ∧ w' = w := by
  unfold loo
  by_cases h1 : 99 < n
  · go_enter Tryz.func190, Tryz.ntmps190
    go_wp2
    go_ret
    exact ⟨ret_int (by simp [h1]), rfl⟩
  by_cases h2 : 12 < n
  all_goals
    go_enter Tryz.func190, Tryz.ntmps190
    go_wp2
    go_ret
    exact ⟨ret_int (by simp [h1, h2]), rfl⟩
theorem tight_any (n : Int) (w : World) : Calls Tryz.prog 192 #[.int .i64 n] w fun e w' => e = .returned (.int .i64 (tig n)) ∧ w' = w := by
  unfold tig
  by_cases h2 : 12 < n
  all_goals
    go_enter Tryz.func192, Tryz.ntmps192
    go_wp2
    go_ret
    exact ⟨ret_int (by simp [h2]), rfl⟩
set_option maxRecDepth 100000 in
set_option maxHeartbeats 1000000 in
theorem over_any (s : Int) (w : World) : Calls Tryz.prog 191 #[.int .i64 s] w fun e w' => e = .returned (ovF s).val ∧ Below w.heap.size w w' := by
  cases h1 : (s == 0)
  · have e : ¬ s = 0 := by simpa using h1
    go_enter Tryz.func191, Tryz.ntmps191
    go_wp2
    refine bodyPost_ret (v := (ovF s).val) (by simp [results, Tryz.results191, go_sem, ovF, Ft.val, e]) rfl ⟨rfl, by go_grown⟩
  · have e : s = 0 := by simpa using h1
    go_enter Tryz.func191, Tryz.ntmps191
    go_wp2
    refine bodyPost_ret (v := (ovF 0).val) (by simp [results, Tryz.results191, go_sem, ovF, Ft.val, e]) rfl ⟨by rw [e], by go_grown⟩
set_option maxRecDepth 100000 in
set_option maxHeartbeats 1000000 in
theorem stretched_any (l s : Int) (w : World) : Calls Tryz.prog 157 #[.int .i64 l, .int .i64 s] w fun e w' => e = .returned (stF l s).val ∧ Below w.heap.size w w' := by
  cases h1 : (s == 0)
  · have e : ¬ s = 0 := by simpa using h1
    unfold stF
    rw [if_neg e]
    unfold Ft.val
    clear e
    obtain ⟨w0, hw0, hb0, hz0, HN⟩ := res5 w _ rfl
    replace HN := boxed HN
    clear hb0
    go_enter Tryz.func157, Tryz.ntmps157
    go_wp2_with fail
    refine (lowest_any _ _ _).mono ?_
    rintro e w1 ⟨rfl, n, hw⟩
    have HB := boxed (show Below w0.heap.size w0 w1 by subst hw; exact bel_drewN _ _ _)
    clear hw
    go_wp2_with fail
    refine (bad_any _ _ _).mono ?_
    rintro e w2 ⟨rfl, hb2⟩
    have HB2 := boxed (below_step HB.out (Nat.le_refl _) hb2)
    clear hb2
    obtain ⟨⟨⟨d0, d1, d2, d3, d4⟩, g0, g1, g2, g3, g4⟩, HQ, HF, -⟩ := HN.out _ HB2.out (.int .i64 (lo1 l s)) (.int .i64 (lo2 l s)) (.int .i64 (bd l s)) (.int .i64 (loo (bd l s))) (.bool false)
    replace HQ := boxed HQ
    replace HF := boxed HF
    go_wp2_with (go_at_call 190; refine (loose_any _ _).mono ?_; rintro e w' ⟨rfl, hw'⟩; subst w')
    refine bodyPost_ret (v := .agg #[.int .i64 (lo1 l s), .int .i64 (lo2 l s), .int .i64 (bd l s), .int .i64 (loo (bd l s)), .bool false]) (by have q := HQ.out; simp only [put5] at q; simp [results, Tryz.results157, go_sem, q]) rfl ⟨rfl, HF.out⟩
  · have e : s = 0 := by simpa using h1
    unfold stF
    rw [if_pos e]
    unfold Ft.val
    clear e
    go_enter Tryz.func157, Tryz.ntmps157
    go_wp2
    refine bodyPost_ret (v := .agg #[.int .i64 0, .int .i64 1, .int .i64 10000, .int .i64 3, .bool false]) (by simp [results, Tryz.results157, go_sem]) rfl ⟨rfl, by go_grown⟩
set_option maxRecDepth 100000 in
set_option maxHeartbeats 1000000 in
theorem shrunk_any (x s : Int) (w : World) (hx : -1152921504606846976 ≤ x ∧ x ≤ 1152921504606846976) : Calls Tryz.prog 158 #[.int .i64 x, .int .i64 s] w fun e w' => e = .returned (shF x s).val ∧ Below w.heap.size w w' := by
  obtain ⟨w0, hw0, hb0, hz0, HN⟩ := res5 w _ rfl
  replace HN := boxed HN
  clear hb0
  by_cases h1 : s < x
  · unfold shF
    rw [if_pos h1]
    obtain ⟨f0, f1, f2, f3, f4, hF⟩ : ∃ a b c d e, ovF s = ⟨a, b, c, d, e⟩ := ⟨_, _, _, _, _, rfl⟩
    have hov := fun w => over_any s w
    rw [hF] at hov ⊢
    unfold Ft.val at hov ⊢
    simp only at hov ⊢
    clear hF
    go_enter Tryz.func158, Tryz.ntmps158
    go_wp2_with fail
    refine (hov _).mono ?_
    rintro e w1 ⟨rfl, hb⟩
    have HB := boxed hb
    clear hb hov
    obtain ⟨⟨⟨d0, d1, d2, d3, d4⟩, g0, g1, g2, g3, g4⟩, HQ, HF, -⟩ := HN.out _ HB.out (.int .i64 f0) (.int .i64 f1) (.int .i64 f2) (.int .i64 f3) (.bool f4)
    replace HQ := boxed HQ
    replace HF := boxed HF
    go_wp2_with fail
    refine bodyPost_ret (v := .agg #[.int .i64 f0, .int .i64 f1, .int .i64 f2, .int .i64 f3, .bool f4]) (by have q := HQ.out; simp only [put5] at q; simp [results, Tryz.results158, go_sem, q]) rfl ⟨rfl, HF.out⟩
  · unfold shF
    rw [if_neg h1]
    unfold Ft.val
    go_enter Tryz.func158, Tryz.ntmps158
    go_wp2_with fail
    refine (lowest_any _ _ _).mono ?_
    rintro e w1 ⟨rfl, n, hw⟩
    have HB := boxed (show Below w0.heap.size w0 w1 by subst hw; exact bel_drewN _ _ _)
    clear hw
    go_wp2_with fail
    refine (bad_any _ _ _).mono ?_
    rintro e w2 ⟨rfl, hb2⟩
    have HB2 := boxed (below_step HB.out (Nat.le_refl _) hb2)
    clear hb2
    obtain ⟨⟨⟨d0, d1, d2, d3, d4⟩, g0, g1, g2, g3, g4⟩, HQ, HF, -⟩ := HN.out _ HB2.out (.int .i64 (lo1 (-x) s)) (.int .i64 (lo2 (-x) s)) (.int .i64 (bd x s)) (.int .i64 (tig (bd x s))) (.bool false)
    replace HQ := boxed HQ
    replace HF := boxed HF
    go_wp2_with (go_at_call 192; refine (tight_any _ _).mono ?_; rintro e w' ⟨rfl, hw'⟩; subst w')
    refine bodyPost_ret (v := .agg #[.int .i64 (lo1 (-x) s), .int .i64 (lo2 (-x) s), .int .i64 (bd x s), .int .i64 (tig (bd x s)), .bool false]) (by have q := HQ.out; simp only [put5] at q; simp [results, Tryz.results158, go_sem, q]) rfl ⟨rfl, HF.out⟩
def SmOk (s : Sm) (width : Int) : Prop := (-144115188075855872 ≤ s.w ∧ s.w ≤ 144115188075855872) ∧ (-144115188075855872 ≤ width ∧ width ≤ 144115188075855872)
set_option maxRecDepth 100000 in
set_option maxHeartbeats 1000000 in
theorem set_any (s : Sm) (width : Int) (w : World) (h : SmOk s width) : Calls Tryz.prog 112 #[s.val, .int .i64 width] w fun e w' => e = .returned (setF s width).val ∧ Below w.heap.size w w' := by
  unfold SmOk at h
  obtain ⟨sw, st, sh, sf⟩ := s
  simp only at h
  unfold Sm.val setF
  simp only
  have HS : cl (cl width - cl sw) = width - sw := by rw [cl_same width (by omega) (by omega), cl_same sw (by omega) (by omega), cl_same _ (by omega) (by omega)]
  have HB : -288230376151711744 ≤ width - sw ∧ width - sw ≤ 288230376151711744 := by omega
  clear h
  by_cases h1 : width - sw = 0
  · rw [if_pos (.inl h1)]
    unfold Ft.val
    have HS2 : cl (cl width - cl sw) = 0 := by rw [HS, h1]
    clear HS HB h1
    go_enter Tryz.func112, Tryz.ntmps112
    go_wp2_with (go_at_call 156; refine (sub_any _ _ _).mono ?_; rintro e w' ⟨rfl, hw'⟩; subst w'; rw [HS2])
    refine bodyPost_ret (v := .agg #[.int .i64 0, .int .i64 1, .int .i64 0, .int .i64 1, .bool false]) (by simp [results, Tryz.results112, go_sem]) rfl ⟨rfl, by go_grown⟩
  by_cases h2 : 0 < width - sw
  · by_cases h3 : 0 < sf
    · rw [if_pos (.inr ⟨h2, h3⟩)]
      unfold Ft.val
      generalize width - sw = S at *
      have t1 : (S == 0) = false := by simpa using h1
      clear h1
      go_enter Tryz.func112, Tryz.ntmps112
      go_wp2_with (go_at_call 156; refine (sub_any _ _ _).mono ?_; rintro e w' ⟨rfl, hw'⟩; subst w'; rw [HS])
      refine bodyPost_ret (v := .agg #[.int .i64 0, .int .i64 1, .int .i64 0, .int .i64 1, .bool false]) (by simp [results, Tryz.results112, go_sem]) rfl ⟨rfl, by go_grown⟩
    · rw [if_neg (by omega), if_pos h2]
      generalize width - sw = S at *
      have t1 : (S == 0) = false := by simpa using h1
      clear h1
      obtain ⟨f0, f1, f2, f3, f4, hF⟩ : ∃ a b c d e, stF S st = ⟨a, b, c, d, e⟩ := ⟨_, _, _, _, _, rfl⟩
      have hov := fun w => stretched_any S st w
      rw [hF] at hov ⊢
      unfold Ft.val at hov ⊢
      simp only at hov ⊢
      clear hF
      obtain ⟨wS, hwS⟩ : ∃ wS, w.alloc (.cells #[.int .i64 sw, .int .i64 st, .int .i64 sh, .int .i64 sf] 170) = wS := ⟨_, rfl⟩
      have hbS : Below w.heap.size w wS := by rw [← hwS]; exact (Below.refl _ _).alloc (Nat.le_refl _) _
      have hzS : wS.heap.size = w.heap.size + 1 := by rw [← hwS]; simp
      obtain ⟨w0, hw0, hb0, hz0, HN⟩ := res5 wS _ hzS
      rw [← hwS] at hw0
      replace hw0 := boxed hw0
      replace HN := boxed HN
      replace hbS := boxed hbS
      clear hb0 hwS
      go_enter Tryz.func112, Tryz.ntmps112
      go_wp2_with (go_at_call 156; refine (sub_any _ _ _).mono ?_; rintro e w' ⟨rfl, hw'⟩; subst w'; rw [HS])
      rw [hw0.out]
      refine (hov _).mono ?_
      rintro e w1 ⟨rfl, hb⟩
      have HB1 := boxed hb
      clear hb hov
      obtain ⟨⟨⟨d0, d1, d2, d3, d4⟩, g0, g1, g2, g3, g4⟩, HQ, HF, -⟩ := HN.out _ HB1.out (.int .i64 f0) (.int .i64 f1) (.int .i64 f2) (.int .i64 f3) (.bool f4)
      replace HQ := boxed HQ
      replace HF := boxed HF
      go_wp2_with fail
      refine bodyPost_ret (v := .agg #[.int .i64 f0, .int .i64 f1, .int .i64 f2, .int .i64 f3, .bool f4]) (by have q := HQ.out; simp only [put5] at q; simp [results, Tryz.results112, go_sem, q]) rfl ⟨rfl, hbS.out.trans (HF.out.mono (by omega))⟩
  · rw [if_neg (by omega), if_neg h2]
    generalize width - sw = S at *
    have t1 : (S == 0) = false := by simpa using h1
    have t2 : decide (0 < S) = false := decide_eq_false h2
    have HX : -1152921504606846976 ≤ -S ∧ -S ≤ 1152921504606846976 := by omega
    clear h1
    obtain ⟨f0, f1, f2, f3, f4, hF⟩ : ∃ a b c d e, shF (-S) sh = ⟨a, b, c, d, e⟩ := ⟨_, _, _, _, _, rfl⟩
    have hov := fun w => shrunk_any (-S) sh w HX
    rw [hF] at hov ⊢
    unfold Ft.val at hov ⊢
    simp only at hov ⊢
    clear hF
    obtain ⟨wS, hwS⟩ : ∃ wS, w.alloc (.cells #[.int .i64 sw, .int .i64 st, .int .i64 sh, .int .i64 sf] 170) = wS := ⟨_, rfl⟩
    have hbS : Below w.heap.size w wS := by rw [← hwS]; exact (Below.refl _ _).alloc (Nat.le_refl _) _
    have hzS : wS.heap.size = w.heap.size + 1 := by rw [← hwS]; simp
    obtain ⟨w0, hw0, hb0, hz0, HN⟩ := res5 wS _ hzS
    rw [← hwS] at hw0
    replace hw0 := boxed hw0
    replace HN := boxed HN
    replace hbS := boxed hbS
    clear hb0 hwS
    go_enter Tryz.func112, Tryz.ntmps112
    go_wp2_with (go_at_call 156; refine (sub_any _ _ _).mono ?_; rintro e w' ⟨rfl, hw'⟩; subst w'; rw [HS])
    rw [hw0.out]
    refine (hov _).mono ?_
    rintro e w1 ⟨rfl, hb⟩
    have HB1 := boxed hb
    clear hb hov
    obtain ⟨⟨⟨d0, d1, d2, d3, d4⟩, g0, g1, g2, g3, g4⟩, HQ, HF, -⟩ := HN.out _ HB1.out (.int .i64 f0) (.int .i64 f1) (.int .i64 f2) (.int .i64 f3) (.bool f4)
    replace HQ := boxed HQ
    replace HF := boxed HF
    go_wp2_with fail
    refine bodyPost_ret (v := .agg #[.int .i64 f0, .int .i64 f1, .int .i64 f2, .int .i64 f3, .bool f4]) (by have q := HQ.out; simp only [put5] at q; simp [results, Tryz.results112, go_sem, q]) rfl ⟨rfl, hbS.out.trans (HF.out.mono (by omega))⟩
end Go.Proofs.YtcjcdpfjnomehaaGreat

/-
  A paragraph as it lies in memory: rows of numbers, of items and of sums; what slices.Clone makes of the first two.
-/
namespace Go.Proofs.YtcjcdpfjnomehaaGreat
open Go.RowKit
set_option linter.unusedSimpArgs false
set_option linter.unusedVariables false
theorem info_item : (Tryz.prog.info? 80).map (fun i => (i.zero, i.size, i.bytes)) = some (some (.agg #[.int .i64 0, .int .i64 0, .int .i64 0, .int .i64 0, .bool false, .int .i64 0, .bool false, .int .i64 0, .int .i64 0]), 9, 72) := by kernel_rfl
theorem info_int8 : (Tryz.prog.info? 3).map (fun i => (i.zero, i.size, i.bytes)) = some (some (.int .i64 0), 1, 8) := by kernel_rfl
def NAt (S : Nat → Prop) (w : World) (ao : Option Addr) (L : List Nat) : Prop := ∀ i, i < L.length → ∃ b, ao = some ⟨b, 0, none⟩ ∧ S b ∧ w.cell? ⟨b, i, none⟩ = some (.int .i64 (L.getD i 0 : Nat))
theorem NAt.keep {S S' : Nat → Prop} {w w' : World} {ao : Option Addr} {L : List Nat} (h : NAt S w ao L) (k : Kp S S' w w') : NAt S' w' ao L := by
  intro i hi
  obtain ⟨b, e, hs, c0⟩ := h i hi
  exact ⟨b, e, (k _ _ _ hs c0).1, (k _ _ _ hs c0).2⟩
theorem NAt.below {S : Nat → Prop} {w w' : World} {ao : Option Addr} {L : List Nat} (h : NAt S w ao L) (hb : Below w.heap.size w w') : NAt S w' ao L := h.keep (kp_below hb)
theorem NAt.form {S : Nat → Prop} {w : World} {ao : Option Addr} {L : List Nat} (h : NAt S w ao L) (hn : 0 < L.length) : ∃ b, ao = some ⟨b, 0, none⟩ ∧ S b ∧ ∀ i, i < L.length → w.cell? ⟨b, i, none⟩ = some (.int .i64 (L.getD i 0 : Nat)) := by
  obtain ⟨b, e, hs, -⟩ := h 0 hn
  subst e
  refine ⟨b, rfl, hs, fun i hi => ?_⟩
  obtain ⟨b', e, -, c0⟩ := h i hi
  injection e with e
  injection e with e1 e2 e3
  subst e1
  exact c0
theorem ItsAt.form {S : Nat → Prop} {w : World} {ao : Option Addr} {n : Nat} {I : Nat → Itm} (h : ItsAt S w ao n I) (hn : 0 < n) : ∃ b off, ao = some ⟨b, off, none⟩ ∧ S b ∧ ∀ i j, i < n → j < 9 → w.cell? ⟨b, off + (i * 9 + j), none⟩ = ((I i).cells)[j]? := by
  obtain ⟨b, off, e, hs, -⟩ := h 0 hn
  subst e
  refine ⟨b, off, rfl, hs, fun i j hi hj => ?_⟩
  obtain ⟨b', off', e, -, c0, c1, c2, c3, c4, c5, c6, c7, c8⟩ := h i hi
  injection e with e
  injection e with e1 e2 e3
  subst e1; subst e2
  rcases (show j = 0 ∨ j = 1 ∨ j = 2 ∨ j = 3 ∨ j = 4 ∨ j = 5 ∨ j = 6 ∨ j = 7 ∨ j = 8 by omega) with rfl | rfl | rfl | rfl | rfl | rfl | rfl | rfl | rfl
  · exact c0
  · exact c1
  · exact c2
  · exact c3
  · exact c4
  · exact c5
  · exact c6
  · exact c7
  · exact c8
def ncs (L : List Nat) : List Value := L.map fun n => .int .i64 (n : Nat)
theorem ncs_len (L : List Nat) : (ncs L).length = L.length := by simp [ncs]
theorem ncs_app (L M : List Nat) : ncs (L ++ M) = ncs L ++ ncs M := by simp [ncs]
theorem ncs_one (L : List Nat) : ∀ u ∈ ncs L, u.oneCell' = true := by
  intro u hu
  simp only [ncs, List.mem_map] at hu
  obtain ⟨n, -, rfl⟩ := hu
  rfl
theorem ncs_get (L : List Nat) (i : Nat) (h : i < L.length) : (ncs L)[i]? = some (.int .i64 (L.getD i 0 : Nat)) := by
  simp [ncs, List.getElem?_eq_getElem h]
theorem owns_below {w w' : World} {B e size n : Nat} {v : Value} {xs : List Value} (h : w.ownsRow B e size v n xs) (hb : Below w.heap.size w w') : w'.ownsRow B e size v n xs :=
  h.kept (row := none) ⟨hb.os, hb.tape, hb.output, hb.size, fun k hk _ => hb.block k hk⟩ (by cases hv : v.ownBlock <;> simp)
theorem own_nat {w : World} {B : Nat} {ao : Option Addr} {n cap : Nat} {L : List Nat} (h : w.ownsRow B 3 1 (.slice ao n cap) n (ncs L)) (hl : L.length = n) : NAt (fun b => B ≤ b) w ao L := by
  intro i hi
  rcases ownsRow_forms h with ⟨_, h2⟩ | ⟨g, cap', e⟩
  · omega
  · injection e with e1 e2 e3
    subst e1; subst e3
    have hB := h.lt g rfl
    refine ⟨g, rfl, hB.1, ?_⟩
    rw [h.cellAt i (by omega), ncs_get L i hi]
def itl (I : Nat → Itm) (n : Nat) : List Itm := (List.range n).map I
theorem itl_len (I : Nat → Itm) (n : Nat) : (itl I n).length = n := by simp [itl]
theorem itl_nth (I : Nat → Itm) (n i : Nat) (h : i < n) : nth (itl I n) i = I i := by simp [nth, itl, h]
theorem ItsAt.swap {S : Nat → Prop} {w : World} {ao : Option Addr} {n : Nat} {I J : Nat → Itm} (h : ItsAt S w ao n I) (e : ∀ i, i < n → I i = J i) : ItsAt S w ao n J := by
  intro i hi
  obtain ⟨b, off, e', hs, c0, c1, c2, c3, c4, c5, c6, c7, c8⟩ := h i hi
  rw [e i hi] at c0 c1 c2 c3 c4 c5 c6 c7 c8
  exact ⟨b, off, e', hs, c0, c1, c2, c3, c4, c5, c6, c7, c8⟩
set_option maxHeartbeats 2000000 in
set_option maxRecDepth 100000 in
theorem cloneI_any (S : Nat → Prop) (ao : Option Addr) (n c : Nat) (I : Nat → Itm) (w : World) (h : ItsAt S w ao n I) (hn : 0 < n) (hm : n ≤ 262144) :
    Calls Tryz.prog 59 #[.slice ao n c] w fun e w' => ∃ ao' c', e = .returned (.slice ao' n c') ∧ ItsAt (fun b => w.heap.size ≤ b) w' ao' n I ∧ Below w.heap.size w w' := by
  obtain ⟨b, off, rfl, -, hc⟩ := h.form hn
  obtain ⟨i0, hi, hz0, hz1, hz2⟩ := info_parts info_item
  have q22 : ∀ (w : World) (a : Option Addr) (n c n' c' : Nat), (binOp .eql 39 (.slice a n c) (.slice none n' c')).run Tryz.prog w = .ok (.bool a.isNone) w := fun w a n c n' c' => Lib.run_eql_slice_nil w _ _ a n c n' c' Tryz.underlying39
  have u22 : ∀ w, Sem.run Tryz.prog (underlying 39) w = .ok (TypeDesc.slice 80) w := run_underlying Tryz.underlying39
  replace hc := boxed hc
  clear h
  go_enter Tryz.func59, Tryz.ntmps59
  go_wp2_with (at_builtin; refine wpList_append_own _ rfl _ _ 39 rfl w.heap.size 80 i0 _ 9 72 Tryz.underlying39 hi hz0 hz1 hz2 rfl (by decide) _ _ _ rfl (World.ownsRow_made w #[] 0 (Nat.le_refl _) (Nat.zero_le _) rfl) ⟨b, off, none⟩ n c (ics (itl I n)) rfl ?qc1 ?qc2 ?qc3 ?qc4 ?qc5 ?qc6 ?_)
  case qc1 => rw [ics_len, itl_len]
  case qc2 =>
    intro j u hj
    have hjn : j < n * 9 := by
      have := (List.getElem?_eq_some_iff.1 hj).1
      rw [ics_len, itl_len] at this
      omega
    rw [Addr.add_lit]
    refine Lib.cell?_alloc_some _ ?_
    obtain ⟨q, r, hr, rfl⟩ : ∃ q r, r < 9 ∧ j = q * 9 + r := ⟨j / 9, j % 9, by omega, by omega⟩
    have hq : q < n := by omega
    rw [hc.out q r hq hr, ← hj, ics_get _ _ _ (by rw [itl_len]; exact hq) hr]
    have := itl_nth I n q hq
    unfold nth at this
    rw [this]
  case qc3 => exact ics_cell _
  case qc4 => unfold maxLen; omega
  case qc5 => omega
  case qc6 => simp
  intro v' w1 hown hgrow hnil
  have hown2 : w1.ownsRow w.heap.size 80 9 v' n (ics (itl I n)) := by simpa using hown
  obtain ⟨ao', c', rfl⟩ := own_shape hown2
  have HI := boxed ((own_its hown2 (itl_len I n)).swap (itl_nth I n))
  have HB := boxed (((Below.refl _ w).alloc (Nat.le_refl _) _).grown hgrow (by simp) (by intro k hk; simp [Value.ownBlock] at hk; omega))
  clear hown hown2 hgrow hnil
  go_wp2
  go_ret
  exact ⟨ao', c', rfl, HI.out, HB.out⟩
set_option maxHeartbeats 2000000 in
set_option maxRecDepth 100000 in
theorem cloneN_any (S : Nat → Prop) (ao : Option Addr) (c : Nat) (L : List Nat) (w : World) (h : NAt S w ao L) (hn : 0 < L.length) (hm : L.length ≤ 262144) :
    Calls Tryz.prog 207 #[.slice ao L.length c] w fun e w' => ∃ v', e = .returned v' ∧ w'.ownsRow w.heap.size 3 1 v' L.length (ncs L) ∧ Below w.heap.size w w' := by
  obtain ⟨b, rfl, -, hc⟩ := h.form hn
  obtain ⟨i0, hi, hz0, hz1, hz2⟩ := info_parts info_int8
  have q22 : ∀ (w : World) (a : Option Addr) (n c n' c' : Nat), (binOp .eql 33 (.slice a n c) (.slice none n' c')).run Tryz.prog w = .ok (.bool a.isNone) w := fun w a n c n' c' => Lib.run_eql_slice_nil w _ _ a n c n' c' Tryz.underlying33
  have u22 : ∀ w, Sem.run Tryz.prog (underlying 33) w = .ok (TypeDesc.slice 3) w := run_underlying Tryz.underlying33
  replace hc := boxed hc
  clear h
  generalize hN : L.length = n at *
  go_enter Tryz.func207, Tryz.ntmps207
  go_wp2_with (at_builtin; refine wpList_append_own _ rfl _ _ 33 rfl w.heap.size 3 i0 _ 1 8 Tryz.underlying33 hi hz0 hz1 hz2 rfl (by decide) _ _ _ rfl (World.ownsRow_made w #[] 0 (Nat.le_refl _) (Nat.zero_le _) rfl) ⟨b, 0, none⟩ n c (ncs L) rfl ?qc1 ?qc2 ?qc3 ?qc4 ?qc5 ?qc6 ?_)
  case qc1 => rw [ncs_len]; omega
  case qc2 =>
    intro j u hj
    have hjn : j < L.length := by
      have := (List.getElem?_eq_some_iff.1 hj).1
      rw [ncs_len] at this
      exact this
    rw [Addr.add_lit]
    refine Lib.cell?_alloc_some _ ?_
    rw [Nat.zero_add, hc.out j (by omega), ← hj, ncs_get L j hjn]
  case qc3 => exact ncs_one _
  case qc4 => unfold maxLen; omega
  case qc5 => omega
  case qc6 => simp
  intro v' w1 hown hgrow hnil
  have HO : Box (w1.ownsRow w.heap.size 3 1 v' n (ncs L)) := boxed (by simpa using hown)
  have HB := boxed (((Below.refl _ w).alloc (Nat.le_refl _) _).grown hgrow (by simp) (by intro k hk; simp [Value.ownBlock] at hk; omega))
  clear hown hgrow hnil
  go_wp2
  go_ret
  exact ⟨v', rfl, HO.out, HB.out⟩
end Go.Proofs.YtcjcdpfjnomehaaGreat

/-
  What '==' says of two fits and of two sums.
-/
namespace Go.Proofs.YtcjcdpfjnomehaaGreat
open Go.RowKit
set_option linter.unusedSimpArgs false
set_option linter.unusedVariables false
end Go.Proofs.YtcjcdpfjnomehaaGreat

/-
  What the program's Usual and the statements' awake answer.
-/
namespace Go.Proofs.YtcjcdpfjnomehaaGreat
open Go.RowKit
set_option linter.unusedSimpArgs false
set_option linter.unusedVariables false
theorem kept_first {w w2 : World} {cs : Array Value} {t : TypeId} (hb : Below (w.alloc (.cells cs t)).heap.size (w.alloc (.cells cs t)) w2) (j : Nat) : w2.cell? ⟨w.heap.size, j, none⟩ = cs[j]? := by
  rw [hb.cell (p := ⟨w.heap.size, j, none⟩) (by simp)]
  exact cell_first _ _ _ _
theorem kept_below {B : Nat} {w w1 w2 : World} {o : Obj} (h1 : Below B w w1) (hB : B ≤ w.heap.size) (hb : Below (w1.alloc o).heap.size (w1.alloc o) w2) : Below B w w2 := by
  have hz := Nat.le_trans hB h1.size
  exact (h1.alloc hz _).trans (hb.mono (by simp; omega))
theorem set_one : setF ⟨90, 20, 0, 0⟩ 100 = ⟨1, 2, 12, 1, false⟩ := by kernel_rfl
end Go.Proofs.YtcjcdpfjnomehaaGreat

/-
  What the program's begins, added, and, less, widest and legal answer.
-/
namespace Go.Proofs.YtcjcdpfjnomehaaGreat
open Go.RowKit
set_option linter.unusedSimpArgs false
set_option linter.unusedVariables false
theorem grown_any {w w' : World} {B e size n : Nat} {v : Value} {xs : List Value} {o : Obj} (h : w.ownsRow B e size v n xs) (hB : B ≤ w.heap.size) (hg : (w.alloc o).grownBy w' v.ownBlock) : Below B w w' := by
  refine ((Below.refl B w).alloc hB o).grown hg (by simp; omega) ?_
  intro r hr
  exact (h.lt r hr).1
set_option maxRecDepth 100000 in
set_option maxHeartbeats 1000000 in
theorem begins_any (x : Itm) (w : World) : Calls Tryz.prog 105 #[x.val] w fun e w' => e = .returned (.bool (beg x)) ∧ Below w.heap.size w w' := by
  have hf := fun w => forced_any x w
  obtain ⟨f, hF⟩ : ∃ f, forc x = f := ⟨_, rfl⟩
  have HV : Box (beg x = ((x.k == 1) || f || ((x.k == 2) && x.fill))) := boxed (by unfold beg; rw [hF])
  rw [hF] at hf
  generalize beg x = V at *
  unfold Itm.val at hf ⊢
  obtain ⟨k, wd, st, sh, fl, c, fg, fr, to⟩ := x
  simp only at hf HV ⊢
  clear hF
  cases h1 : (k == 1)
  rotate_left
  · go_enter Tryz.func105, Tryz.ntmps105
    go_wp2_with fail
    go_ret
    exact ⟨ret_bool (by rw [HV.out, h1]; rfl), by go_grown⟩
  rw [h1] at HV
  cases f
  all_goals cases h2 : (k == 2)
  all_goals
    rw [h2] at HV
    go_enter Tryz.func105, Tryz.ntmps105
    go_wp2_with fail
    refine (hf _).mono ?_
    rintro e w1 ⟨rfl, hb1⟩
    have c0 := kept_first hb1 0
    have c4 := kept_first hb1 4
    simp at c0 c4
    have HB := boxed (kept_below (Below.refl _ w) (Nat.le_refl _) hb1)
    clear hb1 hf
    go_wp2_with fail
    go_ret
    exact ⟨ret_bool (by rw [HV.out]; simp), HB.out⟩
set_option maxRecDepth 100000 in
set_option maxHeartbeats 1000000 in
theorem added_any (x : Itm) (w : World) : Calls Tryz.prog 107 #[x.val] w fun e w' => e = .returned (.int .i64 (addd x)) ∧ Below w.heap.size w w' := by
  unfold addd Itm.val
  obtain ⟨k, wd, st, sh, fl, c, fg, fr, to⟩ := x
  simp only
  cases h1 : (k == 3)
  · have e : ¬ k = 3 := by simpa using h1
    go_enter Tryz.func107, Tryz.ntmps107
    go_wp2
    go_ret
    exact ⟨ret_int (by first | rfl | (rw [if_neg e])), by go_grown⟩
  · have e : k = 3 := by simpa using h1
    go_enter Tryz.func107, Tryz.ntmps107
    go_wp2
    go_ret
    exact ⟨ret_int (by first | rfl | (rw [if_pos e])), by go_grown⟩
def Sfit (s : Sm) : Prop := (0 ≤ s.w ∧ s.w ≤ 36028797018963968) ∧ (0 ≤ s.st ∧ s.st ≤ 36028797018963968) ∧ (0 ≤ s.sh ∧ s.sh ≤ 36028797018963968) ∧ (0 ≤ s.f ∧ s.f ≤ 36028797018963968)
def Ifit (x : Itm) : Prop := (0 ≤ x.w ∧ x.w ≤ 68719476736) ∧ (0 ≤ x.st ∧ x.st ≤ 68719476736) ∧ (0 ≤ x.sh ∧ x.sh ≤ 68719476736)
set_option maxRecDepth 100000 in
set_option maxHeartbeats 2000000 in
theorem and_any (s : Sm) (x : Itm) (w : World) (hs : Sfit s) (hx : Ifit x) : Calls Tryz.prog 106 #[s.val, x.val] w fun e w' => e = .returned (acc s x).val ∧ Below w.heap.size w w' := by
  unfold Sfit Ifit at *
  unfold acc Sm.val Itm.val
  obtain ⟨k, wd, st, sh, fl, c, fg, fr, to⟩ := x
  obtain ⟨s1, s2, s3, s4⟩ := s
  simp only at *
  cases h1 : (k == 3)
  · have e : ¬ k = 3 := by simpa using h1
    rw [if_neg e]
    have g1 : (k != 3) = true := by simpa using e
    clear e h1
    cases fl
    · go_enter Tryz.func106, Tryz.ntmps106
      go_wp2
      refine bodyPost_ret (v := .agg #[.int .i64 (s1 + wd), .int .i64 (s2 + st), .int .i64 (s3 + sh), .int .i64 s4]) (by simp [results, Tryz.results106, go_sem]) rfl ⟨rfl, by go_grown⟩
    · go_enter Tryz.func106, Tryz.ntmps106
      go_wp2
      refine bodyPost_ret (v := .agg #[.int .i64 (s1 + wd), .int .i64 (s2 + st), .int .i64 (s3 + sh), .int .i64 (s4 + 1)]) (by simp [results, Tryz.results106, go_sem]) rfl ⟨rfl, by go_grown⟩
  · have e : k = 3 := by simpa using h1
    rw [if_pos e]
    have g1 : (k != 3) = false := by simpa using e
    clear e h1
    cases fl
    · go_enter Tryz.func106, Tryz.ntmps106
      go_wp2
      refine bodyPost_ret (v := .agg #[.int .i64 s1, .int .i64 (s2 + st), .int .i64 (s3 + sh), .int .i64 s4]) (by simp [results, Tryz.results106, go_sem]) rfl ⟨rfl, by go_grown⟩
    · go_enter Tryz.func106, Tryz.ntmps106
      go_wp2
      refine bodyPost_ret (v := .agg #[.int .i64 s1, .int .i64 (s2 + st), .int .i64 (s3 + sh), .int .i64 (s4 + 1)]) (by simp [results, Tryz.results106, go_sem]) rfl ⟨rfl, by go_grown⟩
set_option maxRecDepth 100000 in
set_option maxHeartbeats 2000000 in
theorem less_any (s t : Sm) (w : World) (hs : Sfit s) (ht : Sfit t) : Calls Tryz.prog 193 #[s.val, t.val] w fun e w' => e = .returned (s.sub t).val ∧ Below w.heap.size w w' := by
  unfold Sfit at *
  unfold Sm.sub Sm.val
  obtain ⟨t1, t2, t3, t4⟩ := t
  obtain ⟨s1, s2, s3, s4⟩ := s
  simp only at *
  go_enter Tryz.func193, Tryz.ntmps193
  go_wp2
  refine bodyPost_ret (v := .agg #[.int .i64 (s1 - t1), .int .i64 (s2 - t2), .int .i64 (s3 - t3), .int .i64 (s4 - t4)]) (by simp [results, Tryz.results193, go_sem]) rfl ⟨rfl, by go_grown⟩
set_option maxRecDepth 100000 in
set_option maxHeartbeats 4000000 in
theorem widest_any (S : Nat → Prop) (ao : Option Addr) (n c : Nat) (I : Nat → Itm) (w : World) (h : ItsAt S w ao n I) (hm : n ≤ 262144) :
    Calls Tryz.prog 63 #[.slice ao n c] w fun e w' => e = .returned (.int .i64 (wst I n)) ∧ Below w.heap.size w w' := by
  have HH := boxed h
  clear h
  go_enter Tryz.func63, Tryz.ntmps63
  go_wp2_with fail
  go_loopw [3, 8] (fun m i wr => ∃ k : Nat, k ≤ n ∧ m = .int .i64 (wst I k) ∧ i = .int .i64 (k : Int) ∧ Box (Below w.heap.size w wr)) (fun _ i _ => n - (intOf i).toNat)
  case atStart => exact ⟨0, Nat.zero_le _, rfl, rfl, boxed (Below.refl _ _)⟩
  case round =>
    obtain ⟨k, hk, rfl, rfl, HB⟩ := hrel
    by_cases hlt : k < n
    · obtain ⟨b, off, e, -, c0, c1, c2, c3, c4, c5, c6, c7, c8⟩ := (HH.out.below HB.out) k hlt
      subst e
      have q5 : b < wr.heap.size := World.block_lt_of_cell? wr _ c0
      have q6 : b ≠ wr.heap.size := by omega
      have t3 : decide ((k : Int) < (n : Int)) = true := decide_eq_true (by omega)
      have HW : Box (wst I (k + 1) = max (wst I k) (addd (I k))) := boxed rfl
      have hadd := fun w => added_any (I k) w
      unfold Itm.val at hadd
      generalize wst I k = A at *
      generalize addd (I k) = D at *
      generalize I k = x at *
      go_wp2_with fail
      refine (hadd _).mono ?_
      rintro e w2 ⟨rfl, hb2⟩
      have HB2 := boxed (kept_below HB.out (Nat.le_refl _) hb2)
      clear hb2 hadd c0 c1 c2 c3 c4 c5 c6 c7 c8
      go_wp2_with fail
      all_goals
        go_roundw
        case rel => exact ⟨k + 1, by omega, by first | (rw [HW.out]; done) | (rw [HW.out]; congr 1; (try split) <;> omega), by go_num, HB2⟩
        case measure => simp [intOf]; omega
    · have e : k = n := by omega
      subst e
      go_wp2
      go_ret
      exact ⟨rfl, HB.out⟩
set_option maxRecDepth 100000 in
set_option maxHeartbeats 4000000 in
theorem legal8_any (S : Nat → Prop) (ao : Option Addr) (n c : Nat) (I : Nat → Itm) (w : World) (h : ItsAt S w ao n I) (hm : n ≤ 262144) :
    Calls Tryz.prog 60 #[.slice ao n c] w fun e w' => ∃ v', e = .returned v' ∧ w'.ownsRow w.heap.size 3 1 v' (lgs I n n).length (ncs (lgs I n n)) ∧ Below w.heap.size w w' := by
  obtain ⟨i0, hi, hz0, hz1, hz2⟩ := info_parts info_int8
  have HH := boxed h
  clear h
  obtain ⟨B, hB⟩ : ∃ B, w.heap.size = B := ⟨_, rfl⟩
  rw [hB]
  go_enter Tryz.func60, Tryz.ntmps60
  go_wp2_with fail
  go_loopw [3, 7] (fun v i wr => ∃ k : Nat, k ≤ n ∧ i = .int .i64 (k : Int) ∧ Box (wr.ownsRow B 3 1 v (lgs I n k).length (ncs (lgs I n k))) ∧ Box (Below B w wr)) (fun _ i _ => n - (intOf i).toNat)
  case atStart => exact ⟨0, Nat.zero_le _, rfl, boxed (World.ownsRow_nil _ _ _ _), boxed (Below.refl _ _)⟩
  case round =>
    obtain ⟨k, hk, rfl, HO, HB⟩ := hrel
    by_cases hlt : k < n
    · have hbs : B ≤ wr.heap.size := by have := HB.out.size; omega
      have hl := legal_any S ao n c I wr (HH.out.below (by rw [hB]; exact HB.out)) (by unfold maxLen; omega) k
      have t3 : decide ((k : Int) < (n : Int)) = true := decide_eq_true (by omega)
      have hlen := lgs_len I n k
      have HE := boxed (show lgs I n (k + 1) = if legl I n k = true then lgs I n k ++ [k] else lgs I n k from rfl)
      cases hg : legl I n k
      · rw [hg] at hl HE
        have HE2 : Box (lgs I n (k + 1) = lgs I n k) := boxed (by rw [HE.out]; rfl)
        clear hg HE
        generalize lgs I n k = L at *
        go_wp2_with fail
        refine hl.mono ?_
        rintro e w2 ⟨rfl, hb2⟩
        have HB2 := boxed (HB.out.trans (hb2.mono hbs))
        have HO2 := boxed (owns_below HO.out hb2)
        clear hb2 hl
        go_wp2_with fail
        go_roundw
        case rel => exact ⟨k + 1, by omega, by go_num, by rw [HE2.out]; exact HO2, HB2⟩
        case measure => simp [intOf]; omega
      · rw [hg] at hl HE
        have HE2 : Box (lgs I n (k + 1) = lgs I n k ++ [k]) := boxed (by rw [HE.out]; rfl)
        clear hg HE
        generalize lgs I n k = L at *
        go_wp2_with fail
        refine hl.mono ?_
        rintro e w2 ⟨rfl, hb2⟩
        have HB2 := boxed (HB.out.trans (hb2.mono hbs))
        have hown := owns_below HO.out hb2
        have hbs2 : B ≤ w2.heap.size := Nat.le_trans hbs hb2.size
        clear hb2 hl HO HB
        generalize hM : L.length = M at *
        go_wp2_with (first | (at_builtin; refine wpList_append_own _ rfl _ _ 33 rfl B 3 i0 _ 1 8 Tryz.underlying33 hi hz0 hz1 hz2 rfl (by decide) _ _ _ rfl (hown.alloc _) ⟨w2.heap.size, 0, none⟩ 1 1 [.int .i64 (k : Nat)] rfl rfl ?c1 ?c2 ?c3 ?c4 ?c5 ?_))
        case c1 =>
          intro j u hj
          match j, hj with
          | 0, hj => simp at hj; subst hj; simp [Addr.add]
        case c2 => intro u hu; simp at hu; subst hu; rfl
        case c3 => unfold maxLen; omega
        case c4 => omega
        case c5 => simp; omega
        intro v' w6 hown6 hgrow6 _
        have HO6 := boxed hown6
        have HG6 := boxed (HB2.out.trans (grown_any hown hbs2 hgrow6))
        clear hown6 hgrow6 hown
        go_wp2_with fail
        go_roundw
        case rel => exact ⟨k + 1, by omega, by go_num, boxed (by rw [HE2.out, ncs_app, List.length_append, hM]; exact HO6.out), HG6⟩
        case measure => simp [intOf]; omega
    · have e : k = n := by omega
      subst e
      go_wp2
      go_ret
      exact ⟨_, rfl, HO.out, HB.out⟩
end Go.Proofs.YtcjcdpfjnomehaaGreat

/-
  What the program's starts and sums make: for each item the first one behind it with which a line may begin, and what those ahead of it come to.
-/
namespace Go.Proofs.YtcjcdpfjnomehaaGreat
open Go.RowKit
set_option linter.unusedSimpArgs false
set_option linter.unusedVariables false
def SmsAt (S : Nat → Prop) (w : World) (ao : Option Addr) (n : Nat) (P : Nat → Sm) : Prop := ∀ i, i < n → ∃ b, ao = some ⟨b, 0, none⟩ ∧ S b ∧
    w.cell? ⟨b, i * 4, none⟩ = some (.int .i64 (P i).w) ∧ w.cell? ⟨b, i * 4 + 1, none⟩ = some (.int .i64 (P i).st) ∧ w.cell? ⟨b, i * 4 + 2, none⟩ = some (.int .i64 (P i).sh) ∧ w.cell? ⟨b, i * 4 + 3, none⟩ = some (.int .i64 (P i).f)
theorem SmsAt.keep {S S' : Nat → Prop} {w w' : World} {ao : Option Addr} {n : Nat} {P : Nat → Sm} (h : SmsAt S w ao n P) (k : Kp S S' w w') : SmsAt S' w' ao n P := by
  intro i hi
  obtain ⟨b, e, hs, c0, c1, c2, c3⟩ := h i hi
  exact ⟨b, e, (k _ _ _ hs c0).1, (k _ _ _ hs c0).2, (k _ _ _ hs c1).2, (k _ _ _ hs c2).2, (k _ _ _ hs c3).2⟩
theorem arr_at {W : World} {G k : Nat} {arr : Array Value} {t : TypeId} (e : W.heap[G]? = some (.cells arr t (0, 0))) (hk : k < arr.size) : W.cell? ⟨G, k, none⟩ = some arr[k] ∧ W.frozen? ⟨G, k, none⟩ = false := by
  refine ⟨?_, ?_⟩
  · rw [cell_of_row W G k arr t (0, 0) e]; simp [hk]
  · unfold World.frozen?; rw [e]; simp
theorem arr_set {W : World} {G k : Nat} {arr : Array Value} {t : TypeId} (v : Value) (e : W.heap[G]? = some (.cells arr t (0, 0))) : (W.setCell ⟨G, k, none⟩ v).heap[G]? = some (.cells (arr.setIfInBounds k v) t (0, 0)) := by
  simp [World.setCell, Array.getElem?_modify, e]
def set4 (W : World) (G o : Nat) (v0 v1 v2 v3 : Value) : World := (((W.setCell ⟨G, o, none⟩ v0).setCell ⟨G, o + 1, none⟩ v1).setCell ⟨G, o + 2, none⟩ v2).setCell ⟨G, o + 3, none⟩ v3
def ar4 (arr : Array Value) (o : Nat) (v0 v1 v2 v3 : Value) : Array Value := (((arr.setIfInBounds o v0).setIfInBounds (o + 1) v1).setIfInBounds (o + 2) v2).setIfInBounds (o + 3) v3
theorem set4_heap {W : World} {G o : Nat} {arr : Array Value} {t : TypeId} (v0 v1 v2 v3 : Value) (e : W.heap[G]? = some (.cells arr t (0, 0))) : (set4 W G o v0 v1 v2 v3).heap[G]? = some (.cells (ar4 arr o v0 v1 v2 v3) t (0, 0)) := by
  unfold set4 ar4
  exact arr_set _ (arr_set _ (arr_set _ (arr_set _ e)))
theorem set4_grown (W : World) (G o : Nat) (v0 v1 v2 v3 : Value) : W.grownBy (set4 W G o v0 v1 v2 v3) (some G) := by
  unfold set4
  exact grown_trans (grown_trans (grown_trans (grown_set _ _ _ _) (grown_set _ _ _ _)) (grown_set _ _ _ _)) (grown_set _ _ _ _)
theorem ar4_size (arr : Array Value) (o : Nat) (v0 v1 v2 v3 : Value) : (ar4 arr o v0 v1 v2 v3).size = arr.size := by simp [ar4]
theorem ar4_far (arr : Array Value) (o j : Nat) (v0 v1 v2 v3 : Value) (h : j < o) : (ar4 arr o v0 v1 v2 v3)[j]? = arr[j]? := by
  unfold ar4
  rw [Array.getElem?_setIfInBounds_ne (by omega), Array.getElem?_setIfInBounds_ne (by omega), Array.getElem?_setIfInBounds_ne (by omega), Array.getElem?_setIfInBounds_ne (by omega)]
theorem ar4_at (arr : Array Value) (o r : Nat) (v0 v1 v2 v3 : Value) (hr : r < 4) (h : o + 3 < arr.size) : (ar4 arr o v0 v1 v2 v3)[o + r]? = [v0, v1, v2, v3][r]? := by
  unfold ar4
  rcases (show r = 0 ∨ r = 1 ∨ r = 2 ∨ r = 3 by omega) with rfl | rfl | rfl | rfl
  · rw [Array.getElem?_setIfInBounds_ne (by omega), Array.getElem?_setIfInBounds_ne (by omega), Array.getElem?_setIfInBounds_ne (by omega)]
    simp [Array.getElem?_setIfInBounds]; omega
  · rw [Array.getElem?_setIfInBounds_ne (by omega), Array.getElem?_setIfInBounds_ne (by omega)]
    simp [Array.getElem?_setIfInBounds]; omega
  · rw [Array.getElem?_setIfInBounds_ne (by omega)]
    simp [Array.getElem?_setIfInBounds]; omega
  · simp [Array.getElem?_setIfInBounds]; omega
theorem grown_kept8 {a b : World} {F k : Nat} (h : a.grownBy b (some F)) (hk : k < a.heap.size) (hF : k ≠ F) : b.heap[k]? = a.heap[k]? := h.block k hk (fun e => hF (by injection e))
theorem info_sum : (Tryz.prog.info? 170).map (fun i => (i.zero, i.size, i.bytes)) = some (some (.agg #[.int .i64 0, .int .i64 0, .int .i64 0, .int .i64 0]), 4, 32) := by kernel_rfl
theorem nb_step (I : Nat → Itm) (n j : Nat) (h : j < n) : nb I (n - j) j = if beg (I j) = true then j else nb I (n - (j + 1)) (j + 1) := by
  rw [show n - j = (n - (j + 1)) + 1 by omega]
  rfl
set_option maxRecDepth 100000 in
set_option maxHeartbeats 4000000 in
theorem starts_any (S : Nat → Prop) (ao : Option Addr) (n c : Nat) (I : Nat → Itm) (w : World) (h : ItsAt S w ao n I) (hn : 0 < n) (hm : n ≤ 262144) :
    Calls Tryz.prog 61 #[.slice ao n c] w fun e w' => ∃ ao' c', e = .returned (.slice ao' n c') ∧ NAt (fun b => w.heap.size ≤ b) w' ao' ((List.range n).map (nxt I n)) ∧ Below w.heap.size w w' := by
  obtain ⟨i0, hi, hz0, hz1, hz2⟩ := info_parts info_int8
  have hmk : ∀ W : World, (Instr.makeSlice 33 (.int .i64 (n : Int)) (.int .i64 (n : Int))).run Tryz.prog W = .ok (.slice (some ⟨W.heap.size, 0, none⟩) n n) (W.alloc (.cells (madeCells #[Value.int .i64 0] n) 3)) := by
    intro W
    have := run_makeSlice (w := W) 33 3 i0 (.int .i64 0) Tryz.underlying33 hi hz0 .i64 .i64 (n : Int) (n : Int) (by omega) (by omega) (by rw [hz1]; simp; omega) (by rw [hz2]; omega) (by omega)
    rw [this, hz1]
    simp [Value.cells]
  have hsz : (madeCells #[Value.int .i64 0] n).size = n := by
    have := congrArg List.length (toList_madeCells_one (Value.int .i64 0) n)
    simpa using this
  have HH := boxed h
  clear h
  obtain ⟨A0, hA0⟩ : ∃ A0, madeCells #[Value.int .i64 0] n = A0 := ⟨_, rfl⟩
  rw [hA0] at hmk hsz
  clear hA0
  obtain ⟨G, hG⟩ : ∃ G, w.heap.size = G := ⟨_, rfl⟩
  rw [hG]
  have hG2 := boxed hG
  go_enter Tryz.func61, Tryz.ntmps61
  go_wp2_with fail
  go_loopw [4, 5] (fun f kv wr => ∃ j : Nat, j ≤ n ∧ kv = .int .i64 ((j : Int) - 1) ∧ f = .int .i64 (nb I (n - j) j : Nat) ∧ Box (Below G w wr) ∧ Box (∃ arr : Array Value, wr.heap[G]? = some (.cells arr 3 (0, 0)) ∧ arr.size = n ∧ ∀ i, j ≤ i → i < n → arr[i]? = some (.int .i64 (nxt I n i : Nat)))) (fun _ kv _ => (intOf kv + 1).toNat)
  case atStart =>
    refine ⟨n, Nat.le_refl _, rfl, by rw [Nat.sub_self]; rfl, boxed ((Below.refl _ _).alloc (by omega) _), boxed ⟨A0, ?_, hsz, fun i h1 h2 => by omega⟩⟩
    rw [← hG2.out]
    exact heap_alloc_new w _
  case round =>
    obtain ⟨j, hj, rfl, rfl, HB, HE⟩ := hrel
    by_cases hlt : 0 < j
    · obtain ⟨k, rfl⟩ : ∃ k, j = k + 1 := ⟨j - 1, by omega⟩
      obtain ⟨arr, e0, hsa, hget⟩ := HE.out
      obtain ⟨a0, a1⟩ := arr_at e0 (k := k) (by omega)
      obtain ⟨b, off, e, -, c0, c1, c2, c3, c4, c5, c6, c7, c8⟩ := (HH.out.below (by rw [hG2.out]; exact HB.out)) k (by omega)
      obtain ⟨b', off', e', -, d0, -⟩ := HH.out k (by omega)
      have hbG : b < G := by
        have := World.block_lt_of_cell? w _ d0
        rw [e] at e'
        injection e' with e'
        injection e' with e1 e2 e3
        subst e1
        have := hG2.out
        simp at *
        omega
      subst e
      clear e' d0
      have hne : b ≠ G := by omega
      have hne2 : G ≠ b := by omega
      have e5 : ((k + 1 : Nat) : Int) - 1 = (k : Nat) := by omega
      have e6 : (k : Int) + 1 - 1 = (k : Nat) := by omega
      have HE2 : Box ((wr.setCell ⟨G, k, none⟩ (.int .i64 (nb I (n - (k + 1)) (k + 1) : Nat))).heap[G]? = some (.cells (arr.setIfInBounds k (.int .i64 (nb I (n - (k + 1)) (k + 1) : Nat))) 3 (0, 0))) := boxed (arr_set _ e0)
      have HG2 : Box (∀ i, k ≤ i → i < n → (arr.setIfInBounds k (.int .i64 (nb I (n - (k + 1)) (k + 1) : Nat)))[i]? = some (.int .i64 (nxt I n i : Nat))) := boxed (fun i h1 h2 => by
        by_cases c : i = k
        · subst c
          rw [Array.getElem?_setIfInBounds_self_of_lt (by omega)]
          rfl
        · rw [Array.getElem?_setIfInBounds_ne (by omega)]
          exact hget i (by omega) h2)
      have HS2 : Box ((arr.setIfInBounds k (.int .i64 (nb I (n - (k + 1)) (k + 1) : Nat))).size = n) := boxed (by simp [hsa])
      have HN := boxed (nb_step I n k (by omega))
      have hbg := fun w => begins_any (I k) w
      have HBs : Box (Below G w (wr.setCell ⟨G, k, none⟩ (.int .i64 (nb I (n - (k + 1)) (k + 1) : Nat)))) := boxed (HB.out.setCell (by simp) _)
      have hGr : G < wr.heap.size := by
        have := World.block_lt_of_cell? wr _ a0
        simpa using this
      unfold Itm.val at hbg
      clear e0 hget HE HB
      generalize arr.setIfInBounds k (.int .i64 (nb I (n - (k + 1)) (k + 1) : Nat)) = arr2 at *
      obtain ⟨y0, hy0⟩ : ∃ y, arr[k] = y := ⟨_, rfl⟩
      rw [hy0] at a0
      clear hy0 hsa arr
      generalize nb I (n - (k + 1)) (k + 1) = F at *
      cases hbb : beg (I k)
      all_goals
        rw [hbb] at hbg HN
        generalize I k = x at *
        go_wp2_with fail
        refine (hbg _).mono ?_
        rintro e w2 ⟨rfl, hb2⟩
        have HB2 := boxed (HBs.out.trans (hb2.mono (by first | (simp; done) | (simp; omega))))
        have HE3 := boxed ((hb2.block G (by first | (simp; done) | (simp; omega))).trans HE2.out)
        clear hb2 hbg HE2 c0 c1 c2 c3 c4 c5 c6 c7 c8 a0 a1
        go_wp2_with fail
        go_roundw
        case rel => exact ⟨k, by omega, by go_num, by rw [HN.out]; rfl, HB2, boxed ⟨arr2, HE3.out, HS2.out, HG2.out⟩⟩
        case measure => first | (simp [intOf]; done) | (simp [intOf]; omega)
    · obtain rfl : j = 0 := by omega
      go_wp2
      go_ret
      obtain ⟨arr, e0, hsa, hget⟩ := HE.out
      refine ⟨_, _, rfl, fun i hi => ⟨G, rfl, Nat.le_refl _, ?_⟩, HB.out⟩
      have hi' : i < n := by simpa using hi
      rw [cell_of_row wr G i arr 3 (0, 0) e0, hget i (Nat.zero_le _) hi']
      simp [hi']
set_option maxRecDepth 100000 in
set_option maxHeartbeats 4000000 in
theorem sums_any (S : Nat → Prop) (ao : Option Addr) (n c : Nat) (I : Nat → Itm) (w : World) (h : ItsAt S w ao n I) (hn : 0 < n) (hm : n ≤ 262144) (hok : ∀ i, i < n → okI I i = true) :
    Calls Tryz.prog 62 #[.slice ao n c] w fun e w' => ∃ ao' c', e = .returned (.slice ao' n c') ∧ SmsAt (fun b => w.heap.size ≤ b) w' ao' n (pre I) ∧ Below w.heap.size w w' := by
  obtain ⟨i0, hi, hz0, hz1, hz2⟩ := info_parts info_sum
  have hmk : ∀ W : World, (Instr.makeSlice 114 (.int .i64 (n : Int)) (.int .i64 (n : Int))).run Tryz.prog W = .ok (.slice (some ⟨W.heap.size, 0, none⟩) n n) (W.alloc (.cells (madeCells #[Value.int .i64 0, Value.int .i64 0, Value.int .i64 0, Value.int .i64 0] (n * 4)) 170)) := by
    intro W
    have := run_makeSlice (w := W) 114 170 i0 _ Tryz.underlying114 hi hz0 .i64 .i64 (n : Int) (n : Int) (by omega) (by omega) (by rw [hz1]; simp; omega) (by rw [hz2]; omega) (by omega)
    rw [this, hz1]
    simp [Value.cells]
  have hsz : (madeCells #[Value.int .i64 0, Value.int .i64 0, Value.int .i64 0, Value.int .i64 0] (n * 4)).size = n * 4 := by
    simp [madeCells]
  have HH := boxed h
  clear h
  obtain ⟨A0, hA0⟩ : ∃ A0, madeCells #[Value.int .i64 0, Value.int .i64 0, Value.int .i64 0, Value.int .i64 0] (n * 4) = A0 := ⟨_, rfl⟩
  rw [hA0] at hmk hsz
  clear hA0
  obtain ⟨G, hG⟩ : ∃ G, w.heap.size = G := ⟨_, rfl⟩
  rw [hG]
  have hG2 := boxed hG
  go_enter Tryz.func62, Tryz.ntmps62
  go_wp2_with fail
  go_loopw [13] (fun kv wr => ∃ k : Nat, k ≤ n ∧ kv = .int .i64 (k : Int) ∧ Box (Below G w wr) ∧ Box (wr.heap[G + 1]? = some (.cells #[.int .i64 (pre I k).w, .int .i64 (pre I k).st, .int .i64 (pre I k).sh, .int .i64 (pre I k).f] 170 (0, 0))) ∧ Box (∃ arr : Array Value, wr.heap[G]? = some (.cells arr 170 (0, 0)) ∧ arr.size = n * 4 ∧ ∀ i r, i < k → r < 4 → arr[i * 4 + r]? = ((pre I i).cells)[r]?)) (fun kv _ => n - (intOf kv).toNat)
  case atStart =>
    refine ⟨0, Nat.zero_le _, rfl, boxed (((Below.refl _ _).alloc (by omega) _).alloc (by simp; omega) _), boxed ?_, boxed ⟨A0, ?_, hsz, fun i r h1 h2 => by omega⟩⟩
    · have := heap_alloc_new (w.alloc (.cells A0 170)) (.cells #[.int .i64 0, .int .i64 0, .int .i64 0, .int .i64 0] 170)
      rw [World.size_alloc, hG2.out] at this
      exact this
    · rw [Below.heap_alloc _ _ _ (by simp; omega), ← hG2.out]
      exact heap_alloc_new w _
  case round =>
    obtain ⟨k, hk, rfl, HB, HT, HE⟩ := hrel
    by_cases hlt : k < n
    · obtain ⟨arr, e0, hsa, hget⟩ := HE.out
      obtain ⟨v0, a0, y0⟩ : ∃ v, wr.cell? ⟨G, k * 4, none⟩ = some v ∧ wr.frozen? ⟨G, k * 4, none⟩ = false := ⟨_, arr_at e0 (k := k * 4) (by omega)⟩
      obtain ⟨v1, a1, y1⟩ : ∃ v, wr.cell? ⟨G, k * 4 + 1, none⟩ = some v ∧ wr.frozen? ⟨G, k * 4 + 1, none⟩ = false := ⟨_, arr_at e0 (k := k * 4 + 1) (by omega)⟩
      obtain ⟨v2, a2, y2⟩ : ∃ v, wr.cell? ⟨G, k * 4 + 2, none⟩ = some v ∧ wr.frozen? ⟨G, k * 4 + 2, none⟩ = false := ⟨_, arr_at e0 (k := k * 4 + 2) (by omega)⟩
      obtain ⟨v3, a3, y3⟩ : ∃ v, wr.cell? ⟨G, k * 4 + 3, none⟩ = some v ∧ wr.frozen? ⟨G, k * 4 + 3, none⟩ = false := ⟨_, arr_at e0 (k := k * 4 + 3) (by omega)⟩
      obtain ⟨⟨t0, t1, t2, t3⟩, z0, z1, z2, z3⟩ := cells4 HT.out
      obtain ⟨b, off, e, -, c0, c1, c2, c3, c4, c5, c6, c7, c8⟩ := (HH.out.below (by rw [hG2.out]; exact HB.out)) k hlt
      obtain ⟨b', off', e', -, d0, -⟩ := HH.out k hlt
      have hbG : b < G := by
        have := World.block_lt_of_cell? w _ d0
        rw [e] at e'
        injection e' with e'
        injection e' with e1 e2 e3
        subst e1
        have := hG2.out
        simp at *
        omega
      subst e
      clear e' d0
      have hne : b ≠ G := by omega
      have hne2 : G ≠ b := by omega
      have hne3 : b ≠ G + 1 := by omega
      have hGr : G + 1 < wr.heap.size := by
        have := World.block_lt_of_cell? wr _ t0
        simpa using this
      have hGr2 : G < wr.heap.size := by omega
      have hbr : b < wr.heap.size := by omega
      have q6 : b ≠ wr.heap.size := by omega
      have q7 : G ≠ wr.heap.size := by omega
      have q8 : G + 1 ≠ wr.heap.size := by omega
      have t9 : decide ((k : Int) < (n : Int)) = true := decide_eq_true (by omega)
      obtain ⟨p1, p2, p3, p4⟩ := pre_le I n hok k hk
      have hand := fun w => and_any (pre I k) (I k) w (by unfold Sfit; omega) (by have := okI_ms I k (hok k hlt); unfold Ifit; omega)
      have HP : Box (pre I (k + 1) = acc (pre I k) (I k)) := boxed rfl
      have E4 := set4_heap (o := k * 4) (.int .i64 (pre I k).w) (.int .i64 (pre I k).st) (.int .i64 (pre I k).sh) (.int .i64 (pre I k).f) e0
      have G4 := set4_grown wr G (k * 4) (.int .i64 (pre I k).w) (.int .i64 (pre I k).st) (.int .i64 (pre I k).sh) (.int .i64 (pre I k).f)
      have T4 := (grown_kept8 G4 (k := G + 1) hGr (by omega)).trans HT.out
      have B4 := HB.out.trans (grown_below G4 (Nat.le_refl _) (by omega))
      have HG : Box (∀ i r, i < k + 1 → r < 4 → (ar4 arr (k * 4) (.int .i64 (pre I k).w) (.int .i64 (pre I k).st) (.int .i64 (pre I k).sh) (.int .i64 (pre I k).f))[i * 4 + r]? = ((pre I i).cells)[r]?) := boxed (fun i r h1 h2 => by
        by_cases c : i = k
        · subst c
          exact ar4_at arr (i * 4) r _ _ _ _ h2 (by omega)
        · rw [ar4_far _ _ _ _ _ _ _ (by omega)]
          exact hget i r (by omega) h2)
      have HS : Box ((ar4 arr (k * 4) (.int .i64 (pre I k).w) (.int .i64 (pre I k).st) (.int .i64 (pre I k).sh) (.int .i64 (pre I k).f)).size = n * 4) := boxed (by rw [ar4_size]; exact hsa)
      generalize ar4 arr (k * 4) (.int .i64 (pre I k).w) (.int .i64 (pre I k).st) (.int .i64 (pre I k).sh) (.int .i64 (pre I k).f) = arr2 at *
      have hz4 : wr.heap.size = (set4 wr G (k * 4) (.int .i64 (pre I k).w) (.int .i64 (pre I k).st) (.int .i64 (pre I k).sh) (.int .i64 (pre I k).f)).heap.size := by simp [set4]
      unfold set4 at E4 T4 B4 hz4
      replace E4 := boxed E4
      replace T4 := boxed T4
      replace B4 := boxed B4
      replace hz4 := boxed hz4
      clear G4 e0 hget hsa HE HT
      unfold Sm.val Itm.val at hand
      go_wp2_with fail
      refine (hand _).mono ?_
      rintro e w2 ⟨rfl, hb2⟩
      have HB2 := boxed (kept_below B4.out (by have := hz4.out; omega) hb2)
      have E5 := boxed ((hb2.block G (by have := hz4.out; simp; omega)).trans ((Below.heap_alloc _ _ _ (by have := hz4.out; omega)).trans E4.out))
      have T5 := (hb2.block (G + 1) (by have := hz4.out; simp; omega)).trans ((Below.heap_alloc _ _ _ (by have := hz4.out; omega)).trans T4.out)
      have hz2 : G + 1 < w2.heap.size := by have := hb2.size; have := hz4.out; simp at *; omega
      clear hb2 hand E4 T4 B4 hz4 c0 c1 c2 c3 c4 c5 c6 c7 c8 a0 a1 a2 a3 y0 y1 y2 y3 t0 t1 t2 t3 z0 z1 z2 z3
      obtain ⟨⟨t0, t1, t2, t3⟩, z0, z1, z2, z3⟩ := cells4 T5
      have T6 := boxed (put4_heap T5 (.int .i64 (acc (pre I k) (I k)).w) (.int .i64 (acc (pre I k) (I k)).st) (.int .i64 (acc (pre I k) (I k)).sh) (.int .i64 (acc (pre I k) (I k)).f))
      have G6 := boxed (put4_grown w2 (G + 1) (.int .i64 (acc (pre I k) (I k)).w) (.int .i64 (acc (pre I k) (I k)).st) (.int .i64 (acc (pre I k) (I k)).sh) (.int .i64 (acc (pre I k) (I k)).f))
      clear T5
      go_wp2_with fail
      go_roundw
      case rel => exact ⟨k + 1, by omega, by go_num, boxed (HB2.out.trans (grown_below G6.out (by omega) (by omega))), boxed (by rw [HP.out]; exact T6.out), boxed ⟨arr2, (grown_kept8 G6.out (k := G) (by omega) (by omega)).trans E5.out, HS.out, HG.out⟩⟩
      case measure => first | (simp [intOf]; done) | (simp [intOf]; omega)
    · have e : k = n := by omega
      subst e
      go_wp2
      go_ret
      obtain ⟨arr, e0, hsa, hget⟩ := HE.out
      refine ⟨_, _, rfl, fun i hi => ⟨G, rfl, Nat.le_refl _, ?_⟩, HB.out⟩
      have key : ∀ r, r < 4 → wr.cell? ⟨G, i * 4 + r, none⟩ = ((pre I i).cells)[r]? := fun r hr => by
        rw [cell_of_row wr G _ arr 170 (0, 0) e0, hget i r hi hr]
      exact ⟨key 0 (by omega), key 1 (by omega), key 2 (by omega), key 3 (by omega)⟩
end Go.Proofs.YtcjcdpfjnomehaaGreat

/-
  A paragraph as it lies in memory; what the program's New answers.
-/
namespace Go.Proofs.YtcjcdpfjnomehaaGreat
open Go.RowKit
set_option linter.unusedSimpArgs false
set_option linter.unusedVariables false
def ParaAt (S : Nat → Prop) (w : World) (pb n : Nat) (I : Nat → Itm) : Prop := ∃ (lo : Option Addr) (lc : Nat) (eo : Option Addr) (ec : Nat) (so : Option Addr) (sc : Nat) (uo : Option Addr) (uc : Nat), S pb ∧
    (w.cell? ⟨pb, 0, none⟩ = some (.slice lo n lc) ∧ w.cell? ⟨pb, 1, none⟩ = some (.slice eo (lgs I n n).length ec) ∧ w.cell? ⟨pb, 2, none⟩ = some (.slice so n sc) ∧ w.cell? ⟨pb, 3, none⟩ = some (.slice uo n uc) ∧ w.cell? ⟨pb, 4, none⟩ = some (.int .i64 (wst I n))) ∧
    ItsAt S w lo n I ∧ NAt S w eo (lgs I n n) ∧ NAt S w so ((List.range n).map (nxt I n)) ∧ SmsAt S w uo n (pre I)
theorem ParaAt.keep {S S' : Nat → Prop} {w w' : World} {pb n : Nat} {I : Nat → Itm} (h : ParaAt S w pb n I) (k : Kp S S' w w') : ParaAt S' w' pb n I := by
  obtain ⟨lo, lc, eo, ec, so, sc, uo, uc, hs, ⟨c0, c1, c2, c3, c4⟩, h1, h2, h3, h4⟩ := h
  exact ⟨lo, lc, eo, ec, so, sc, uo, uc, (k _ _ _ hs c0).1, ⟨(k _ _ _ hs c0).2, (k _ _ _ hs c1).2, (k _ _ _ hs c2).2, (k _ _ _ hs c3).2, (k _ _ _ hs c4).2⟩, h1.keep k, h2.keep k, h3.keep k, h4.keep k⟩
theorem ParaAt.below {S : Nat → Prop} {w w' : World} {pb n : Nat} {I : Nat → Itm} (h : ParaAt S w pb n I) (hb : Below w.heap.size w w') : ParaAt S w' pb n I := h.keep (kp_below hb)
theorem kp_more {S S' : Nat → Prop} {w w' : World} (hS : ∀ b, S b → S' b) (h : Below w.heap.size w w') : Kp S S' w w' := fun b i u hs hc => ⟨hS b hs, hold h hc⟩
set_option maxRecDepth 100000 in
set_option maxHeartbeats 4000000 in
theorem new_any (S : Nat → Prop) (ao : Option Addr) (n c : Nat) (I : Nat → Itm) (w : World) (h : ItsAt S w ao n I) (hn : n ≤ maxLen) (hr : rgt I n = true) :
    Calls Tryz.prog 19 #[.slice ao n c] w fun e w' => ∃ pb, e = .returned (.tuple #[.pointer (some ⟨pb, 0, none⟩), .int .i64 0]) ∧ ParaAt (fun b => w.heap.size ≤ b) w' pb n I ∧ Below w.heap.size w w' := by
  have hR := right_any S ao n c I w h hn
  rw [hr] at hR
  simp only [rcode] at hR
  obtain ⟨h0, h1, -, hok⟩ := (rgt_iff I n).1 hr
  have HH := boxed h
  clear h hr
  have F1 := boxed (fun W (hb : Below w.heap.size w W) => cloneI_any S ao n c I W (HH.out.below hb) h0 h1)
  have F2 := boxed (fun W (hb : Below w.heap.size w W) => legal8_any S ao n c I W (HH.out.below hb) h1)
  have F3 := boxed (fun W (hb : Below w.heap.size w W) => starts_any S ao n c I W (HH.out.below hb) h0 h1)
  have F4 := boxed (fun W (hb : Below w.heap.size w W) => sums_any S ao n c I W (HH.out.below hb) h0 h1 hok)
  have F5 := boxed (fun W (hb : Below w.heap.size w W) => widest_any S ao n c I W (HH.out.below hb) h1)
  clear HH
  go_enter Tryz.func19, Tryz.ntmps19
  go_wp2_with fail
  refine hR.mono ?_
  rintro e w1 ⟨rfl, hb1⟩
  have HB1 := boxed hb1
  clear hb1 hR
  go_wp2_with fail
  refine (F1.out _ HB1.out).mono ?_
  rintro e w2 ⟨lo, lc, rfl, hI, hb2⟩
  have HI2 := boxed (hI.keep (kp_more (S' := fun b => w.heap.size ≤ b) (fun b hb => Nat.le_trans HB1.out.size hb) (Below.refl _ _)))
  have HB2 := boxed (below_step HB1.out (Nat.le_refl _) hb2)
  clear hI hb2 F1
  go_wp2_with fail
  refine (F2.out _ HB2.out).mono ?_
  rintro e w3 ⟨v3, rfl, hO, hb3⟩
  obtain ⟨eo, ec, rfl⟩ := own_shape hO
  have HN3 := boxed ((own_nat hO rfl).keep (kp_more (S' := fun b => w.heap.size ≤ b) (fun b hb => Nat.le_trans HB2.out.size hb) (Below.refl _ _)))
  have HI3 := boxed (HI2.out.below hb3)
  have HB3 := boxed (below_step HB2.out (Nat.le_refl _) hb3)
  clear hO hb3 F2 HI2
  go_wp2_with fail
  refine (F3.out _ HB3.out).mono ?_
  rintro e w4 ⟨so, sc, rfl, hO, hb4⟩
  have HS4 := boxed (hO.keep (kp_more (S' := fun b => w.heap.size ≤ b) (fun b hb => Nat.le_trans HB3.out.size hb) (Below.refl _ _)))
  have HI4 := boxed (HI3.out.below hb4)
  have HN4 := boxed (HN3.out.below hb4)
  have HB4 := boxed (below_step HB3.out (Nat.le_refl _) hb4)
  clear hO hb4 F3 HI3 HN3
  go_wp2_with fail
  refine (F4.out _ HB4.out).mono ?_
  rintro e w5 ⟨uo, uc, rfl, hO, hb5⟩
  have HU5 := boxed (hO.keep (kp_more (S' := fun b => w.heap.size ≤ b) (fun b hb => Nat.le_trans HB4.out.size hb) (Below.refl _ _)))
  have HI5 := boxed (HI4.out.below hb5)
  have HN5 := boxed (HN4.out.below hb5)
  have HS5 := boxed (HS4.out.below hb5)
  have HB5 := boxed (below_step HB4.out (Nat.le_refl _) hb5)
  clear hO hb5 F4 HI4 HN4 HS4
  go_wp2_with fail
  refine (F5.out _ HB5.out).mono ?_
  rintro e w6 ⟨rfl, hb6⟩
  have HI6 := boxed (HI5.out.below hb6)
  have HN6 := boxed (HN5.out.below hb6)
  have HS6 := boxed (HS5.out.below hb6)
  have HU6 := boxed (HU5.out.keep (kp_below hb6))
  have HB6 := boxed (below_step HB5.out (Nat.le_refl _) hb6)
  clear hb6 F5 HI5 HN5 HS5 HU5
  go_wp2_with fail
  go_ret2
  refine ⟨w6.heap.size, rfl, ?_, HB6.out.alloc HB6.out.size _⟩
  have hb7 : Below w6.heap.size w6 (w6.alloc (.cells #[.slice lo n lc, .slice eo (lgs I n n).length ec, .slice so n sc, .slice uo n uc, .int .i64 (wst I n)] 118)) := (Below.refl _ _).alloc (Nat.le_refl _) _
  exact ⟨lo, lc, eo, ec, so, sc, uo, uc, HB6.out.size, ⟨cell_first _ _ _ 0, cell_first _ _ _ 1, cell_first _ _ _ 2, cell_first _ _ _ 3, cell_first _ _ _ 4⟩, HI6.out.below hb7, HN6.out.below hb7, HS6.out.below hb7, HU6.out.keep (kp_below hb7)⟩
end Go.Proofs.YtcjcdpfjnomehaaGreat

/-
  What the methods of a paragraph answer: Items, has, Item, Legal, Ends, End, Start.
-/
namespace Go.Proofs.YtcjcdpfjnomehaaGreat
open Go.RowKit
set_option linter.unusedSimpArgs false
set_option linter.unusedVariables false
section
variable {S : Nat → Prop} {w : World} {pb n : Nat} {I : Nat → Itm}
theorem pitems_any (h : ParaAt S w pb n I) (hn : n ≤ 262144) : Calls Tryz.prog 120 #[.pointer (some ⟨pb, 0, none⟩)] w fun e w' => e = .returned (.int .i64 (n : Int)) ∧ w' = w := by
  obtain ⟨lo, lc, eo, ec, so, sc, uo, uc, hs, ⟨c0, c1, c2, c3, c4⟩, h1, h2, h3, h4⟩ := h
  clear h1 h2 h3 h4
  go_enter Tryz.func120, Tryz.ntmps120
  go_wp2
  go_ret
  exact ⟨rfl, rfl⟩
def hasI (n : Nat) (k : Int) : Bool := decide (0 ≤ k) && decide (k < (n : Int))
theorem has_any (h : ParaAt S w pb n I) (hn : n ≤ 262144) (k : Int) : Calls Tryz.prog 119 #[.pointer (some ⟨pb, 0, none⟩), .int .i64 k] w fun e w' => e = .returned (.bool (hasI n k)) ∧ w' = w := by
  obtain ⟨lo, lc, eo, ec, so, sc, uo, uc, hs, ⟨c0, c1, c2, c3, c4⟩, h1, h2, h3, h4⟩ := h
  clear h1 h2 h3 h4
  unfold hasI
  by_cases c : 0 ≤ k
  all_goals
    go_enter Tryz.func119, Tryz.ntmps119
    go_wp2
    go_ret
    exact ⟨ret_bool (by first | (simp [c]; done) | (simp [c]; omega)), rfl⟩
theorem ends_any (h : ParaAt S w pb n I) (hn : n ≤ 262144) : Calls Tryz.prog 93 #[.pointer (some ⟨pb, 0, none⟩)] w fun e w' => e = .returned (.int .i64 ((lgs I n n).length : Nat)) ∧ w' = w := by
  obtain ⟨lo, lc, eo, ec, so, sc, uo, uc, hs, ⟨c0, c1, c2, c3, c4⟩, h1, h2, h3, h4⟩ := h
  clear h1 h2 h3 h4
  have hl := lgs_len I n n
  generalize (lgs I n n).length = m at *
  go_enter Tryz.func93, Tryz.ntmps93
  go_wp2
  go_ret
  exact ⟨rfl, rfl⟩
def endN (L : List Nat) (k : Int) : Int := if 0 ≤ k ∧ k < (L.length : Int) then (L.getD k.toNat 0 : Nat) else -1
theorem end_any (h : ParaAt S w pb n I) (hn : n ≤ 262144) (k : Int) : Calls Tryz.prog 177 #[.pointer (some ⟨pb, 0, none⟩), .int .i64 k] w fun e w' => e = .returned (.int .i64 (endN (lgs I n n) k)) ∧ w' = w := by
  obtain ⟨lo, lc, eo, ec, so, sc, uo, uc, hs, ⟨c0, c1, c2, c3, c4⟩, h1, h2, h3, h4⟩ := h
  have hl := lgs_len I n n
  clear h1 h3 h4
  generalize lgs I n n = L at *
  unfold endN
  by_cases k0 : k < 0
  · rw [if_neg (by omega)]
    have t1 : decide (k < 0) = true := decide_eq_true k0
    clear h2
    generalize L.length = m at *
    go_enter Tryz.func177, Tryz.ntmps177
    go_wp2
    go_ret
    exact ⟨rfl, rfl⟩
  have t1 : decide (k < 0) = false := decide_eq_false k0
  by_cases k1 : (L.length : Int) ≤ k
  · rw [if_neg (by omega)]
    have t2 : decide ((L.length : Int) ≤ k) = true := decide_eq_true k1
    clear h2
    generalize L.length = m at *
    go_enter Tryz.func177, Tryz.ntmps177
    go_wp2
    go_ret
    exact ⟨rfl, rfl⟩
  rw [if_pos (by omega)]
  obtain ⟨k, rfl⟩ : ∃ j : Nat, k = (j : Int) := ⟨k.toNat, by omega⟩
  have hk : k < L.length := by omega
  have t2 : decide ((L.length : Int) ≤ (k : Int)) = false := decide_eq_false (by omega)
  have t3 : decide (L.length ≤ k) = false := decide_eq_false (by omega)
  obtain ⟨b, e, -, d0⟩ := h2 k hk
  subst e
  rw [Int.toNat_natCast]
  clear h2
  generalize L.getD k 0 = y at *
  generalize L.length = m at *
  go_enter Tryz.func177, Tryz.ntmps177
  go_wp2
  go_ret
  exact ⟨rfl, rfl⟩
set_option maxRecDepth 100000 in
theorem plegal_any (h : ParaAt S w pb n I) (hn : n ≤ 262144) (hl : 0 < (lgs I n n).length) : Calls Tryz.prog 179 #[.pointer (some ⟨pb, 0, none⟩)] w fun e w' => ∃ v', e = .returned v' ∧ w'.ownsRow w.heap.size 3 1 v' (lgs I n n).length (ncs (lgs I n n)) ∧ Below w.heap.size w w' := by
  obtain ⟨lo, lc, eo, ec, so, sc, uo, uc, hs, ⟨c0, c1, c2, c3, c4⟩, h1, h2, h3, h4⟩ := h
  have hcl := cloneN_any S eo ec (lgs I n n) w h2 hl (by have := lgs_len I n n; omega)
  clear h1 h2 h3 h4
  go_enter Tryz.func179, Tryz.ntmps179
  go_wp2_with fail
  refine hcl.mono ?_
  rintro e w1 ⟨v', rfl, ho, hb⟩
  have HO := boxed ho
  have HB := boxed hb
  clear ho hb hcl
  go_wp2_with fail
  go_ret
  exact ⟨v', rfl, HO.out, HB.out⟩
set_option maxRecDepth 100000 in
set_option maxHeartbeats 2000000 in
theorem item_any (h : ParaAt S w pb n I) (hn : n ≤ 262144) (k : Int) : Calls Tryz.prog 73 #[.pointer (some ⟨pb, 0, none⟩), .int .i64 k] w fun e w' => e = .returned (itm I n k).val ∧ Below w.heap.size w w' := by
  have hh := fun W (hb : Below w.heap.size w W) => has_any (h.below hb) hn k
  obtain ⟨lo, lc, eo, ec, so, sc, uo, uc, hs, ⟨c0, c1, c2, c3, c4⟩, h1, h2, h3, h4⟩ := h
  clear h2 h3 h4
  have q1 : pb < w.heap.size := World.block_lt_of_cell? w _ c0
  have q2 : pb ≠ w.heap.size := by omega
  unfold itm hasI at *
  by_cases c : 0 ≤ k ∧ k < (n : Int)
  · rw [if_pos c]
    have e1 : (decide (0 ≤ k) && decide (k < (n : Int))) = true := by simp [c]
    rw [e1] at hh
    obtain ⟨k, rfl⟩ : ∃ j : Nat, k = (j : Int) := ⟨k.toNat, by omega⟩
    have hk : k < n := by omega
    obtain ⟨b, off, e, -, d0, d1, d2, d3, d4, d5, d6, d7, d8⟩ := h1 k hk
    subst e
    have q3 : b < w.heap.size := World.block_lt_of_cell? w _ d0
    have q4 : b ≠ w.heap.size := by omega
    rw [Int.toNat_natCast]
    replace hh := boxed hh
    clear h1 e1
    unfold Itm.val
    generalize I k = x at *
    go_enter Tryz.func73, Tryz.ntmps73
    go_wp2_with (go_at_call 119; refine (hh.out _ ((Below.refl _ _).alloc (Nat.le_refl _) _)).mono ?_; rintro e w' ⟨rfl, hw'⟩; subst w')
    refine bodyPost_ret (v := .agg #[.int .i64 x.k, .int .i64 x.w, .int .i64 x.st, .int .i64 x.sh, .bool x.fill, .int .i64 x.c, .bool x.flag, .int .i64 x.fr, .int .i64 x.to]) (by simp [results, Tryz.results73, go_sem]) rfl ⟨rfl, by go_grown⟩
  · rw [if_neg c]
    have e1 : (decide (0 ≤ k) && decide (k < (n : Int))) = false := by simp; omega
    rw [e1] at hh
    replace hh := boxed hh
    clear h1 e1
    unfold Itm.val Itm.zero
    go_enter Tryz.func73, Tryz.ntmps73
    go_wp2_with (go_at_call 119; refine (hh.out _ ((Below.refl _ _).alloc (Nat.le_refl _) _)).mono ?_; rintro e w' ⟨rfl, hw'⟩; subst w')
    refine bodyPost_ret (v := .agg #[.int .i64 0, .int .i64 0, .int .i64 0, .int .i64 0, .bool false, .int .i64 0, .bool false, .int .i64 0, .int .i64 0]) (by simp [results, Tryz.results73, go_sem]) rfl ⟨rfl, by go_grown⟩
set_option maxHeartbeats 1000000 in
theorem start_any (h : ParaAt S w pb n I) (hn : n ≤ 262144) (a : Int) : Calls Tryz.prog 74 #[.pointer (some ⟨pb, 0, none⟩), .int .i64 a] w fun e w' => e = .returned (.int .i64 (sta I n a : Nat)) ∧ w' = w := by
  have hh := has_any h hn a
  have hi := pitems_any h hn
  obtain ⟨lo, lc, eo, ec, so, sc, uo, uc, hs, ⟨c0, c1, c2, c3, c4⟩, h1, h2, h3, h4⟩ := h
  clear h1 h2 h4
  unfold sta
  unfold hasI at hh
  by_cases a0 : a < 0
  · rw [if_pos a0]
    have t1 : decide (a < 0) = true := decide_eq_true a0
    clear h3
    go_enter Tryz.func74, Tryz.ntmps74
    go_wp2_with fail
    go_ret
    exact ⟨rfl, rfl⟩
  rw [if_neg a0]
  have t1 : decide (a < 0) = false := decide_eq_false a0
  by_cases a1 : a < (n : Int)
  · rw [if_pos a1]
    have e1 : (decide (0 ≤ a) && decide (a < (n : Int))) = true := by simp; omega
    rw [e1] at hh
    obtain ⟨k, rfl⟩ : ∃ j : Nat, a = (j : Int) := ⟨a.toNat, by omega⟩
    have hk : k < n := by omega
    obtain ⟨b, e, -, d0⟩ := h3 k (by simpa using hk)
    subst e
    rw [Int.toNat_natCast]
    have e2 : ((List.range n).map (nxt I n)).getD k 0 = nxt I n k := by simp [hk]
    rw [e2] at d0
    clear h3 e1 e2 hi
    generalize nxt I n k = y at *
    go_enter Tryz.func74, Tryz.ntmps74
    go_wp2_with (go_at_call 119; refine hh.mono ?_; rintro e w' ⟨rfl, hw'⟩; subst w')
    go_ret
    exact ⟨rfl, rfl⟩
  · rw [if_neg a1]
    have e1 : (decide (0 ≤ a) && decide (a < (n : Int))) = false := by simp; omega
    rw [e1] at hh
    clear h3 e1
    go_enter Tryz.func74, Tryz.ntmps74
    go_wp2_with (first | (go_at_call 119; refine hh.mono ?_; rintro e w' ⟨rfl, hw'⟩; subst w') | (go_at_call 120; refine hi.mono ?_; rintro e w' ⟨rfl, hw'⟩; subst w'))
    go_ret
    exact ⟨rfl, rfl⟩
end
end Go.Proofs.YtcjcdpfjnomehaaGreat
