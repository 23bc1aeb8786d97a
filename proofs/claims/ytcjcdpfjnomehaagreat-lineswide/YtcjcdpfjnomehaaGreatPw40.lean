/-
  A line of the cheapest way by a tolerance less than the greatest badness: its glue, set as told, makes it just as wide as it should be; and the document's Items.
-/
import Derived.Test.YtcjcdpfjnomehaaGreatPw6
import Derived.Test.YtcjcdpfjnomehaaGreatPw36
import Derived.Test.YtcjcdpfjnomehaaGreatPw23
import Derived.Test.YtcjcdpfjnomehaaGreatPw11
import Derived.Test.YtcjcdpfjnomehaaGreatPw35
import Derived.Test.YtcjcdpfjnomehaaGreatPw37
namespace Go.Proofs.YtcjcdpfjnomehaaGreat
open Go.RowKit
set_option linter.unusedSimpArgs false
set_option linter.unusedVariables false
theorem map_getY (l : List Nat) (f : Nat → Nat) (k : Nat) (h : k < l.length) : (l.map f).getD k 0 = f (l.getD k 0) := by
  simp [List.getD_eq_getElem?_getD, h]
theorem way_at (P : Pr) (l : List Nat) : ∀ (i : Nat) (a c : Int), cw P i a l = some c → ∀ k, k < l.length → mayL P (if k = 0 then i else l.getD (k - 1) 0 + 1) (l.getD k 0) = true := by
  induction l with
  | nil => intro i a c h k hk; simp at hk
  | cons j t ih =>
    intro i a c h k hk
    obtain ⟨h1, r, h2, -⟩ := cw_cons P i j a c t h
    cases k with
    | zero => simpa using h1
    | succ k =>
      have := ih (j + 1) _ _ h2 k (by simpa using hk)
      cases k with
      | zero => simpa using this
      | succ k => simpa using this
theorem set_id (s : Sm) (width : Int) (hw : 0 ≤ s.w ∧ s.w ≤ 144115188075855872) (hs : 0 ≤ s.st ∧ s.st ≤ 144115188075855872) (hh : 0 ≤ s.sh ∧ s.sh ≤ 144115188075855872) (hd : 0 ≤ width ∧ width ≤ 144115188075855872)
    (ho : (setF s width).over = false) (hq : ¬ (s.w < width ∧ (0 < s.f ∨ s.st = 0))) : s.w * (setF s width).den + (if (setF s width).num < 0 then s.sh else s.st) * (setF s width).num = width * (setF s width).den := by
  have key : (width - s.w) * (setF s width).den = (if (setF s width).num < 0 then s.sh else s.st) * (setF s width).num := by
    unfold setF at *
    by_cases c1 : width - s.w = 0 ∨ (0 < width - s.w ∧ 0 < s.f)
    · rw [if_pos c1]
      have : width - s.w = 0 := by omega
      rw [this]; simp
    rw [if_neg c1] at ho ⊢
    by_cases c2 : 0 < width - s.w
    · rw [if_pos c2] at ho ⊢
      unfold stF
      by_cases c3 : s.st = 0
      · exact absurd ⟨by omega, .inr c3⟩ hq
      · rw [if_neg c3]
        have hb := lo_bounds (width - s.w) s.st (by omega) (by omega) (by omega)
        have hm := lo_mul (width - s.w) s.st (by omega) (by omega) (by omega)
        simp only
        rw [if_neg (by omega)]
        exact hm
    · rw [if_neg c2] at ho ⊢
      unfold shF at *
      by_cases c3 : s.sh < -(width - s.w)
      · rw [if_pos c3] at ho
        cases ho
      · rw [if_neg c3, Int.neg_neg]
        have hb := lo_bounds (width - s.w) s.sh (by omega) (by omega) (by omega)
        have hm := lo_mul (width - s.w) s.sh (by omega) (by omega) (by omega)
        simp only
        rw [if_pos (by omega)]
        exact hm
  rw [← key, Int.sub_mul]
  omega
theorem lin_in (I : Nat → Itm) (n : Nat) (hn : n ≤ 262144) (hok : ∀ i, i < n → okI I i = true) (a b : Int) : (0 ≤ (lin I n a b).w ∧ (lin I n a b).w ≤ 144115188075855872) ∧ (0 ≤ (lin I n a b).st ∧ (lin I n a b).st ≤ 144115188075855872) ∧ (0 ≤ (lin I n a b).sh ∧ (lin I n a b).sh ≤ 144115188075855872) ∧ 0 ≤ (lin I n a b).f := by
  have hadd : 0 ≤ addd (itm I n b) ∧ addd (itm I n b) ≤ 68719476736 := by
    unfold itm
    split
    · have := okI_ms I b.toNat (hok _ (by omega))
      unfold addd
      split <;> omega
    · simp [addd, Itm.zero]
  unfold lin upt
  split
  · rename_i c
    have h1 := pre_le I n hok b.toNat (by omega)
    have h2 := pre_mono I n hok (sta I n a) b.toNat (by omega) (by omega)
    have h3 := pre_le I n hok (sta I n a) (by have := sta_le I n a; omega)
    simp only [Sm.sub]
    omega
  · simp only [Sm.zero]
    omega
theorem wide_line {I : Nat → Itm} {n : Nat} {width : Int} {s : Stg} {c : Int} {l : List Nat} (hb : Best (PT I n width s s.t) 0 (-1) c l) (hT : s.t < 10000) (hn : n ≤ 262144) (hok : ∀ i, i < n → okI I i = true) (hd : 0 ≤ width ∧ width ≤ 1099511627776) (k : Nat) (hk : k < l.length)
    (hf : ¬ 0 < (lin I n (lnA (l.map (bkn I n)) k) ((l.map (bkn I n)).getD k 0 : Nat)).f) :
    (lin I n (lnA (l.map (bkn I n)) k) ((l.map (bkn I n)).getD k 0 : Nat)).w * (setF (lin I n (lnA (l.map (bkn I n)) k) ((l.map (bkn I n)).getD k 0 : Nat)) width).den + (if (setF (lin I n (lnA (l.map (bkn I n)) k) ((l.map (bkn I n)).getD k 0 : Nat)) width).num < 0 then (lin I n (lnA (l.map (bkn I n)) k) ((l.map (bkn I n)).getD k 0 : Nat)).sh else (lin I n (lnA (l.map (bkn I n)) k) ((l.map (bkn I n)).getD k 0 : Nat)).st) * (setF (lin I n (lnA (l.map (bkn I n)) k) ((l.map (bkn I n)).getD k 0 : Nat)) width).num = width * (setF (lin I n (lnA (l.map (bkn I n)) k) ((l.map (bkn I n)).getD k 0 : Nat)) width).den := by
  have hm := way_at _ l 0 (-1) c hb.1
  obtain ⟨-, h2, h3, -⟩ := (mayL_iff _ _ _).1 (hm k hk)
  have e1 : bk I n (((if k = 0 then 0 else l.getD (k - 1) 0 + 1 : Nat) : Int) - 1) = lnA (l.map (bkn I n)) k := by
    unfold lnA
    by_cases c : k = 0
    · rw [if_pos c, if_pos c]; simp [bk, endN]
    · rw [if_neg c, if_neg c]
      have h4 := ((mayL_iff _ _ _).1 (hm (k - 1) (by omega))).2.1
      rw [map_getY l _ (k - 1) (by omega)]
      rw [show (((l.getD (k - 1) 0 + 1 : Nat) : Int) - 1) = ((l.getD (k - 1) 0 : Nat) : Int) by omega]
      exact bk_bkn I n _ h4
  have e2 : bk I n ((l.getD k 0 : Nat) : Int) = ((l.map (bkn I n)).getD k 0 : Nat) := by
    rw [map_getY l _ k hk]; exact bk_bkn I n _ h2
  have h3' : (!(setF (lin I n (lnA (l.map (bkn I n)) k) ((l.map (bkn I n)).getD k 0 : Nat)) width).over && decide ((setF (lin I n (lnA (l.map (bkn I n)) k) ((l.map (bkn I n)).getD k 0 : Nat)) width).bad ≤ s.t)) = true := by
    have : (PT I n width s s.t).dz (if k = 0 then 0 else l.getD (k - 1) 0 + 1) (l.getD k 0) = (!(setF (lin I n (bk I n (((if k = 0 then 0 else l.getD (k - 1) 0 + 1 : Nat) : Int) - 1)) (bk I n ((l.getD k 0 : Nat) : Int))) width).over && decide ((setF (lin I n (bk I n (((if k = 0 then 0 else l.getD (k - 1) 0 + 1 : Nat) : Int) - 1)) (bk I n ((l.getD k 0 : Nat) : Int))) width).bad ≤ s.t)) := rfl
    rw [e1, e2] at this
    rw [← this]; exact h3
  have hl := lin_in I n hn hok (lnA (l.map (bkn I n)) k) ((l.map (bkn I n)).getD k 0 : Nat)
  generalize lin I n (lnA (l.map (bkn I n)) k) ((l.map (bkn I n)).getD k 0 : Nat) = S at *
  simp only [Bool.and_eq_true, Bool.not_eq_true', decide_eq_true_eq] at h3'
  refine set_id S width hl.1 hl.2.1 hl.2.2.1 (by omega) h3'.1 ?_
  rintro ⟨q1, q2⟩
  have q3 : S.st = 0 := by omega
  have : (setF S width).bad = 10000 := by
    unfold setF
    rw [if_neg (by omega), if_pos (by omega)]
    unfold stF
    rw [if_pos q3]
  omega
theorem wrap_same (a b c : Int) (h : a + b = c) : (IntKind.i64.wrap (IntKind.i64.wrap a + IntKind.i64.wrap b) != IntKind.i64.wrap c) = false := by
  have e : IntKind.i64.wrap (IntKind.i64.wrap a + IntKind.i64.wrap b) = IntKind.i64.wrap c := by
    subst h
    simp only [IntKind.wrap_i64]
    omega
  rw [e]; simp
theorem wrap_same64 (a b c : Int) (h : a + b = c) : (wrap64 (wrap64 a + wrap64 b) != wrap64 c) = false := by
  have e := wrap_same a b c h
  simpa only [IntKind.wrap_i64, wrap64] using e
set_option maxRecDepth 100000 in
theorem refitems10_any (S : Nat → Prop) (so : Option Addr) (n sc : Nat) (F : Nat → It.Sty) (w : World) (hF : It.StysAt S w so n F) (hn : n ≤ maxLen) (t : ByteArray) (N : Nat) (hN : It.Cnt t N) (hs : t.size ≤ 65536) (ao : Option Addr) (m cap : Nat) (Ln Ys : Nat → Int) (hr : It.RunsAt w ao m Ln Ys) (hm : m ≤ maxLen) :
    Calls Tryz.prog 35 #[.slice so n sc, .string t, .slice ao m cap] w fun e w' =>
      ((It.ck t N n m Ln Ys ≠ 0 ∧ e = .returned (.slice none 0 0)) ∨
       (It.ck t N n m Ln Ys = 0 ∧ ∃ ao' cap', e = .returned (.slice ao' (It.fin F n t (fun a => It.sta Ln Ys m 0 (a : Nat)) N).length cap') ∧ w'.ownsRow w.heap.size 80 9 (.slice ao' (It.fin F n t (fun a => It.sta Ln Ys m 0 (a : Nat)) N).length cap') (It.fin F n t (fun a => It.sta Ln Ys m 0 (a : Nat)) N).length (It.ics (It.fin F n t (fun a => It.sta Ln Ys m 0 (a : Nat)) N)))) ∧ Below w.heap.size w w' := by
  have hb := It.refbuild_any S so n sc F w hF hn t N hN hs ao m cap Ln Ys hr hm
  generalize It.ck t N n m Ln Ys = V at *
  generalize It.fin F n t (fun a => It.sta Ln Ys m 0 (a : Nat)) N = R at *
  clear hF hn hN hs hr hm
  go_enter Tryz.func35, Tryz.ntmps35
  go_wp2_with fail
  refine hb.mono ?_
  rintro e w1 ⟨⟨h1, rfl⟩ | ⟨h1, ia, ic, rfl, ho⟩, hb1⟩
  · have HB := boxed (And.intro h1 hb1)
    clear h1 hb1 hb
    go_wp2_with fail
    go_ret
    exact ⟨.inl ⟨HB.out.1, rfl⟩, HB.out.2⟩
  · have HB := boxed (And.intro h1 (And.intro ho hb1))
    clear h1 ho hb1 hb
    generalize hrl : R.length = rl at *
    replace hrl := boxed hrl
    go_wp2_with fail
    go_ret
    rw [hrl.out]
    exact ⟨.inr ⟨HB.out.1, _, _, rfl, HB.out.2.1⟩, HB.out.2.2⟩
end Go.Proofs.YtcjcdpfjnomehaaGreat
