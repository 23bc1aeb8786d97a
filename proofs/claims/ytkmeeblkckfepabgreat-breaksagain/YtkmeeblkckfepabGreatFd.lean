/-
  The lines of a paragraph as ways through its breaks: what they cost stays within bounds; lines that are hopeless, and lines that are too wide. No program in it.
-/
import Derived.Test.YtkmeeblkckfepabGreatFc
import Derived.Test.YtkmeeblkckfepabGreatFa
import Derived.Test.YtkmeeblkckfepabGreatEm
namespace Go.Proofs.YtkmeeblkckfepabGreat
set_option linter.unusedSimpArgs false
set_option linter.unusedVariables false

/-- The numbers of legal items rise. -/
theorem lgs_facts (I : Nat → Itm) (n k : Nat) : (∀ j, j < (lgs I n k).length → (lgs I n k).getD j 0 < k ∧ legl I n ((lgs I n k).getD j 0 : Nat) = true) ∧ (∀ i j, i < j → j < (lgs I n k).length → (lgs I n k).getD i 0 < (lgs I n k).getD j 0) := by
  induction k with
  | zero => simp [lgs]
  | succ k ih =>
    obtain ⟨h1, h2⟩ := ih
    simp only [lgs]
    by_cases c : legl I n k = true
    · rw [if_pos c]
      have e : ∀ j, (lgs I n k ++ [k]).getD j 0 = if j < (lgs I n k).length then (lgs I n k).getD j 0 else if j = (lgs I n k).length then k else 0 := by
        intro j
        simp only [List.getD_eq_getElem?_getD]
        by_cases hj : j < (lgs I n k).length
        · rw [if_pos hj, List.getElem?_append_left hj]
        · rw [if_neg hj, List.getElem?_append_right (by omega)]
          by_cases hj2 : j = (lgs I n k).length
          · rw [if_pos hj2, hj2]; simp
          · rw [if_neg hj2, List.getElem?_eq_none (by simp; omega)]; rfl
      rw [List.length_append, List.length_cons, List.length_nil]
      refine ⟨fun j hj => ?_, fun i j hij hj => ?_⟩
      · rw [e]
        by_cases hj2 : j < (lgs I n k).length
        · rw [if_pos hj2]; exact ⟨by have := (h1 j hj2).1; omega, (h1 j hj2).2⟩
        · rw [if_neg hj2, if_pos (by omega)]; exact ⟨by omega, c⟩
      · rw [e, e, if_pos (by omega)]
        by_cases hj2 : j < (lgs I n k).length
        · rw [if_pos hj2]; exact h2 i j hij hj2
        · rw [if_neg hj2, if_pos (by omega)]; exact (h1 i (by omega)).1
    · rw [if_neg c]
      exact ⟨fun j hj => ⟨by have := (h1 j hj).1; omega, (h1 j hj).2⟩, h2⟩
/-- Every legal item is among them. -/
theorem lgs_mem (I : Nat → Itm) (n k j : Nat) (hj : j < k) (h : legl I n j = true) : ∃ i, i < (lgs I n k).length ∧ (lgs I n k).getD i 0 = j := by
  induction k with
  | zero => omega
  | succ k ih =>
    simp only [lgs]
    by_cases hjk : j = k
    · subst hjk
      rw [if_pos h]
      exact ⟨(lgs I n j).length, by simp, by simp [List.getD_eq_getElem?_getD]⟩
    · obtain ⟨i, h1, h2⟩ := ih (by omega)
      split
      · refine ⟨i, by simp; omega, ?_⟩
        rw [List.getD_eq_getElem?_getD, List.getElem?_append_left h1, ← List.getD_eq_getElem?_getD]
        exact h2
      · exact ⟨i, h1, h2⟩
section
variable (I : Nat → Itm) (n : Nat) (width : Int) (s : Stg)
/-- How many breaks. -/
def nbk : Nat := (lgs I n n).length
/-- Break number k's item. -/
def bk (k : Int) : Int := endN (lgs I n n) k
def itb (k : Int) : Itm := itm I n (bk I n k)
/-- The line from behind break k up to break j. -/
def ftb (k j : Int) : Ft := setF (lin I n (bk I n k) (bk I n j)) width
/-- Those whose lines do by a tolerance. -/
def PT (T : Int) : Pr where
  m := nbk I n
  dz i j := !(ftb I n width ((i : Int) - 1) j).over && decide ((ftb I n width ((i : Int) - 1) j).bad ≤ T)
  kl i j := (ftb I n width ((i : Int) - 1) j).cls
  ct i j a := cst s (ftb I n width ((i : Int) - 1) j) (itb I n j) a (itb I n ((i : Int) - 1)).flag (decide (j + 1 = nbk I n))
  fo j := forc (itb I n j)
/-- Those whose lines do by the emergency's rule. -/
def PE : Pr where
  m := nbk I n
  dz i j := !(ftb I n width ((i : Int) - 1) j).over || decide (j = i)
  kl i j := (ftb I n width ((i : Int) - 1) j).cls
  ct i j a := cst s (ftb I n width ((i : Int) - 1) j) (itb I n j) a (itb I n ((i : Int) - 1)).flag (decide (j + 1 = nbk I n))
  fo j := forc (itb I n j)
end
theorem setF_cls (x : Sm) (width : Int) : 0 ≤ (setF x width).cls ∧ (setF x width).cls ≤ 3 ∧ 0 ≤ (setF x width).bad ∧ (setF x width).bad ≤ 10000 := by
  have hb := fun a b => bd_le a b
  unfold setF
  split
  · simp
  · split
    · unfold stF
      split
      · simp
      · have := hb (width - x.w) x.st
        unfold loo
        simp only
        repeat' split
        all_goals omega
    · unfold shF
      split
      · simp [ovF]
      · have := hb (-(width - x.w)) x.sh
        unfold tig
        simp only
        repeat' split
        all_goals omega
theorem ftb_cls (I : Nat → Itm) (n : Nat) (width k j : Int) : 0 ≤ (ftb I n width k j).cls ∧ (ftb I n width k j).cls ≤ 3 ∧ 0 ≤ (ftb I n width k j).bad ∧ (ftb I n width k j).bad ≤ 10000 := setF_cls _ _
/-- The square of a number that isn't great. -/
theorem ml_sq (x B : Int) (h0 : 0 ≤ x) (h : x ≤ B) (hB : B ≤ 20000) : ml x x = x * x ∧ 0 ≤ x * x ∧ x * x ≤ B * B := by
  have h1 : 0 ≤ x * x := Int.mul_nonneg h0 h0
  have h2 : x * x ≤ B * B := Int.mul_le_mul h h h0 (by omega)
  have h3 : B * B ≤ 20000 * 20000 := Int.mul_le_mul hB hB (by omega) (by omega)
  refine ⟨?_, h1, h2⟩
  unfold ml
  rw [cl_same x (by omega) (by omega), cl_same _ (by omega) (by omega)]
theorem ad_same (a b : Int) (h1 : -576460752303423488 ≤ a ∧ a ≤ 576460752303423488) (h2 : -576460752303423488 ≤ b ∧ b ≤ 576460752303423488) : ad a b = a + b := by
  unfold ad
  rw [cl_same a (by omega) (by omega), cl_same b (by omega) (by omega), cl_same _ (by omega) (by omega)]
theorem dm_le (l b p : Int) (hl : 0 ≤ l ∧ l ≤ 10000) (hb : 0 ≤ b ∧ b ≤ 10000) (hp : -10000 ≤ p ∧ p ≤ 10000) : 0 ≤ dm l b p ∧ dm l b p ≤ 500000000 := by
  have e1 : ad l b = l + b := ad_same l b (by omega) (by omega)
  obtain ⟨q1, q2, q3⟩ := ml_sq (l + b) 20000 (by omega) (by omega) (by omega)
  have hpp : 0 ≤ ml p p ∧ ml p p ≤ 100000000 := by
    by_cases c : 0 ≤ p
    · obtain ⟨w1, w2, w3⟩ := ml_sq p 10000 c hp.2 (by omega)
      rw [w1]; omega
    · obtain ⟨w1, w2, w3⟩ := ml_sq (-p) 10000 (by omega) (by omega) (by omega)
      have e : ml p p = ml (-p) (-p) := by
        unfold ml
        rw [cl_same p (by omega) (by omega), cl_same (-p) (by omega) (by omega), Int.neg_mul_neg]
      rw [e, w1]; omega
  unfold dm dt
  rw [e1, q1]
  generalize (l + b) * (l + b) = Q at *
  have e2 : ad Q (ml p p) = Q + ml p p := ad_same _ _ (by omega) (by omega)
  have e3 : cl Q = Q := cl_same _ (by omega) (by omega)
  have e4 : cl (ml p p) = ml p p := cl_same _ (by omega) (by omega)
  have e5 : cl (Q - ml p p) = Q - ml p p := cl_same _ (by omega) (by omega)
  rw [e2, e3, e4, e5]
  repeat' split
  all_goals omega
/-- What a line costs, whatever is ahead of it. -/
def bas (s : Stg) (f : Ft) (x : Itm) (flag last : Bool) : Int := dm s.l f.bad x.c + (if (flag && x.flag) = true then s.d else 0) + (if (flag && last) = true then s.z else 0)
/-- What the class ahead adds. -/
def adj (s : Stg) (a c : Int) : Int := if (decide (0 ≤ a) && un a c) = true then s.a else 0
theorem okS_iff (s : Stg) : okS s = true ↔ ((0 ≤ s.t ∧ s.t ≤ 10000) ∧ (0 ≤ s.l ∧ s.l ≤ 10000) ∧ (0 ≤ s.a ∧ s.a ≤ 1048576) ∧ (0 ≤ s.d ∧ s.d ≤ 1048576) ∧ (0 ≤ s.z ∧ s.z ≤ 1048576) ∧ (1 ≤ s.o ∧ s.o ≤ 100) ∧ (1 ≤ s.i ∧ s.i ≤ 100)) := by
  simp [okS, wi]; omega
theorem cst_parts (s : Stg) (f : Ft) (x : Itm) (a : Int) (flag last : Bool) (hs : okS s = true) (hb : 0 ≤ f.bad ∧ f.bad ≤ 10000) (hx : -10000 ≤ x.c ∧ x.c ≤ 10000) (ho : f.over = false) :
    cst s f x a flag last = bas s f x flag last + adj s a f.cls ∧ (0 ≤ bas s f x flag last ∧ bas s f x flag last ≤ 530000000) ∧ 0 ≤ adj s a f.cls ∧ adj s a f.cls ≤ 1048576 := by
  obtain ⟨h1, h2, h3, h4, h5, -, -⟩ := (okS_iff s).1 hs
  have hd := dm_le s.l f.bad x.c h2 hb hx
  unfold cst bas adj
  rw [ho]
  generalize dm s.l f.bad x.c = D at *
  have e1 : ad D s.a = D + s.a := ad_same _ _ (by omega) (by omega)
  have e2 : ad D s.d = D + s.d := ad_same _ _ (by omega) (by omega)
  have e3 : ad D s.z = D + s.z := ad_same _ _ (by omega) (by omega)
  have e4 : ad (D + s.a) s.d = D + s.a + s.d := ad_same _ _ (by omega) (by omega)
  have e5 : ad (D + s.a) s.z = D + s.a + s.z := ad_same _ _ (by omega) (by omega)
  have e6 : ad (D + s.d) s.z = D + s.d + s.z := ad_same _ _ (by omega) (by omega)
  have e7 : ad (D + s.a + s.d) s.z = D + s.a + s.d + s.z := ad_same _ _ (by omega) (by omega)
  rw [if_neg (by simp)]
  refine ⟨?_, ?_, ?_⟩
  · cases (flag && last) <;> cases (flag && x.flag) <;> cases (decide (0 ≤ a) && un a f.cls) <;> simp [e1, e2, e3, e4, e5, e6, e7] <;> omega
  · cases (flag && last) <;> cases (flag && x.flag) <;> simp <;> omega
  · cases (decide (0 ≤ a) && un a f.cls) <;> simp <;> omega
theorem cst_over (s : Stg) (f : Ft) (x : Itm) (a : Int) (flag last : Bool) (ho : f.over = true) : cst s f x a flag last = Awf := by
  unfold cst
  rw [if_pos ho]
/-- Cost asks of a line only whether it is too wide, how bad it is, and its class. -/
theorem cst_like (s : Stg) (f g : Ft) (x : Itm) (a : Int) (flag last : Bool) (h1 : f.over = g.over) (h2 : f.bad = g.bad) (h3 : f.cls = g.cls) : cst s f x a flag last = cst s g x a flag last := by
  unfold cst
  rw [h1, h2, h3]
theorem itb_c (I : Nat → Itm) (n : Nat) (hok : ∀ i, i < n → okI I i = true) (k : Int) : -10000 ≤ (itb I n k).c ∧ (itb I n k).c ≤ 10000 := by
  unfold itb itm
  split
  · rename_i c
    have h := hok (bk I n k).toNat (by omega)
    generalize (bk I n k).toNat = j at *
    simp [okI, ofk] at h
    have := h.2
    repeat' split at this
    all_goals (try simp at this)
    all_goals omega
  · simp [Itm.zero]
theorem bnd_of (I : Nat → Itm) (n : Nat) (width : Int) (s : Stg) (T : Int) (hn : n ≤ 262144) (hok : ∀ i, i < n → okI I i = true) (hs : okS s = true) : Bnd (PT I n width s T) := by
  refine ⟨by have := lgs_len I n n; simp only [PT, nbk]; omega, fun i j a h => ?_⟩
  obtain ⟨-, -, h3, -⟩ := (mayL_iff _ _ _).1 h
  simp [PT] at h3
  have hc := ftb_cls I n width ((i : Int) - 1) j
  have hx := itb_c I n hok j
  have := cst_parts s (ftb I n width ((i : Int) - 1) j) (itb I n j) a (itb I n ((i : Int) - 1)).flag (decide (j + 1 = nbk I n)) hs hc.2.2 hx h3.1
  simp only [PT]
  omega
/-- A break's item. -/
theorem bk_at (I : Nat → Itm) (n j : Nat) (h : j < nbk I n) : ∃ b : Nat, bk I n j = b ∧ b < n ∧ legl I n b = true ∧ (lgs I n n).getD j 0 = b := by
  have := (lgs_facts I n n).1 j h
  refine ⟨(lgs I n n).getD j 0, ?_, this.1, this.2, rfl⟩
  unfold bk endN
  rw [if_pos (by unfold nbk at h; omega), Int.toNat_natCast]
theorem bk_less (I : Nat → Itm) (n i j : Nat) (hij : i < j) (h : j < nbk I n) : bk I n i < bk I n j := by
  obtain ⟨b, e, -, -, e2⟩ := bk_at I n j h
  obtain ⟨b', e', -, -, e2'⟩ := bk_at I n i (by omega)
  rw [e, e', ← e2, ← e2']
  have := (lgs_facts I n n).2 i j hij h
  omega
/-- Is a line hopeless? -/
def hpl (I : Nat → Itm) (n : Nat) (width k j : Int) : Bool := !decide (0 < (upt I n (bk I n k) (bk I n j)).f) && decide ((upt I n (bk I n k) (bk I n j)).w + 5 * (upt I n (bk I n k) (bk I n j)).st + wst I n < width)
theorem upt_later (I : Nat → Itm) (n : Nat) (hok : ∀ i, i < n → okI I i = true) (a : Int) (k d : Nat) (hk : k + d < n) :
    (upt I n a (k : Int)).w - (upt I n a (k : Int)).sh ≤ (upt I n a ((k + d : Nat) : Int)).w - (upt I n a ((k + d : Nat) : Int)).sh ∧
    (upt I n a (k : Int)).w + 5 * (upt I n a (k : Int)).st ≤ (upt I n a ((k + d : Nat) : Int)).w + 5 * (upt I n a ((k + d : Nat) : Int)).st ∧
    (upt I n a (k : Int)).f ≤ (upt I n a ((k + d : Nat) : Int)).f := by
  induction d with
  | zero => simp
  | succ d ih =>
    have h1 := ih (by omega)
    have h2 := upt_mono I n hok a (k + d) (by omega)
    have e : k + (d + 1) = k + d + 1 := by omega
    rw [e]
    omega
theorem upt_bk (I : Nat → Itm) (n : Nat) (hok : ∀ i, i < n → okI I i = true) (a : Int) (i j : Nat) (hij : i ≤ j) (h : j < nbk I n) :
    (upt I n a (bk I n i)).w - (upt I n a (bk I n i)).sh ≤ (upt I n a (bk I n j)).w - (upt I n a (bk I n j)).sh ∧
    (upt I n a (bk I n i)).w + 5 * (upt I n a (bk I n i)).st ≤ (upt I n a (bk I n j)).w + 5 * (upt I n a (bk I n j)).st ∧
    (upt I n a (bk I n i)).f ≤ (upt I n a (bk I n j)).f := by
  by_cases c : i = j
  · subst c; simp
  · have hl := bk_less I n i j (by omega) h
    obtain ⟨b, e, hb, -, -⟩ := bk_at I n j h
    obtain ⟨b', e', -, -, -⟩ := bk_at I n i (by omega)
    rw [e, e'] at hl ⊢
    have := upt_later I n hok a b' (b - b') (by omega)
    rw [show b' + (b - b') = b by omega] at this
    exact this
/-- A shorter one is hopeless, too. -/
theorem hpl_less (I : Nat → Itm) (n : Nat) (hok : ∀ i, i < n → okI I i = true) (width k : Int) (i j : Nat) (hij : i ≤ j) (h : j < nbk I n) (hh : hpl I n width k j = true) : hpl I n width k i = true := by
  have := upt_bk I n hok (bk I n k) i j hij h
  simp [hpl] at hh ⊢
  omega
theorem setF_hope (x : Sm) (width : Int) (h1 : ¬ 0 < x.f) (h2 : x.w + 5 * x.st < width) (h3 : 0 ≤ x.st) (hb : width ≤ 1099511627776 ∧ -1152921504606846976 ≤ x.w - width ∧ x.w - width ≤ 1152921504606846976 ∧ x.st ≤ 1152921504606846976) : (setF x width).bad = 10000 ∧ (setF x width).cls = 3 ∧ (setF x width).over = false := by
  unfold setF
  rw [if_neg (by omega), if_pos (by omega)]
  unfold stF
  split
  · exact ⟨rfl, rfl, rfl⟩
  · have e : bd (width - x.w) x.st = 10000 := by
      unfold bd
      rw [cl_same (width - x.w) (by omega) (by omega), cl_same x.st (by omega) (by omega), if_neg (by omega), if_neg (by omega), bw_great _ _ (by omega) (by omega)]
      rfl
    simp only
    rw [e]
    simp [loo]
theorem hpl_fit (I : Nat → Itm) (n : Nat) (hn : n ≤ 262144) (hok : ∀ i, i < n → okI I i = true) (width k : Int) (j : Nat) (hw : 1 ≤ width ∧ width ≤ 1073741824) (h : j < nbk I n) (hh : hpl I n width k j = true) : (ftb I n width k j).bad = 10000 ∧ (ftb I n width k j).cls = 3 ∧ (ftb I n width k j).over = false := by
  obtain ⟨b, e, hb, -, -⟩ := bk_at I n j h
  simp [hpl] at hh
  have h1 := upt_le I n hn hok (bk I n k) (bk I n j)
  have h2 := itm_add I n hok b hb
  rw [← e] at h2
  unfold ftb
  refine setF_hope _ _ ?_ ?_ ?_ ?_
  all_goals
    unfold lin
    simp only
    omega
/-- What can't be narrow enough is too wide, and longer lines are, too. -/
theorem wide_over (I : Nat → Itm) (n : Nat) (hn : n ≤ 262144) (hok : ∀ i, i < n → okI I i = true) (width k : Int) (i j : Nat) (hij : i ≤ j) (h : j < nbk I n)
    (hh : width < (upt I n (bk I n k) (bk I n i)).w - (upt I n (bk I n k) (bk I n i)).sh) : (ftb I n width k j).over = true := by
  have h1 := upt_bk I n hok (bk I n k) i j hij h
  obtain ⟨b, e, hb, -, -⟩ := bk_at I n j h
  unfold ftb
  rw [e] at h1 ⊢
  exact fit_over I n hn hok _ b hb width (by omega)
/-- The last break is forced, and is the last item. -/
theorem bk_last (I : Nat → Itm) (n : Nat) (h0 : 0 < n) (hf : forc (I (n - 1)) = true) : 0 < nbk I n ∧ bk I n ((nbk I n - 1 : Nat) : Int) = ((n - 1 : Nat) : Int) ∧ forc (itb I n ((nbk I n - 1 : Nat) : Int)) = true := by
  obtain ⟨m, rfl⟩ : ∃ m, n = m + 1 := ⟨n - 1, by omega⟩
  simp only [Nat.add_sub_cancel] at hf ⊢
  have hl : legl I (m + 1) m = true := by
    simp [forc] at hf
    simp [legl, hf.1]
    omega
  have e : lgs I (m + 1) (m + 1) = lgs I (m + 1) m ++ [m] := by simp only [lgs]; rw [if_pos hl]
  have hm : nbk I (m + 1) = (lgs I (m + 1) m).length + 1 := by unfold nbk; rw [e]; simp
  have hb : bk I (m + 1) ((nbk I (m + 1) - 1 : Nat) : Int) = (m : Int) := by
    unfold bk endN
    rw [if_pos (by unfold nbk at hm ⊢; omega), Int.toNat_natCast, hm, e]
    simp [List.getD_eq_getElem?_getD]
  refine ⟨by omega, hb, ?_⟩
  unfold itb itm
  rw [hb, if_pos (by omega), Int.toNat_natCast]
  exact hf
end Go.Proofs.YtkmeeblkckfepabGreat
