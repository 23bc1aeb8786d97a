/-
  The lines of a paragraph as ways through its breaks: what they cost stays within bounds; lines that are hopeless, and lines that are too wide. No program in it.
-/
import Derived.Deep.RegionHeld3
import Derived.Lib.QuietBelow
import Derived.BigQuiet
import Derived.Laws.IdiomCopy
import Derived.Test.YtcjcdpfjnomehaaGreatPk30
import Derived.Test.YtcjcdpfjnomehaaGreatPk10
namespace Go.Proofs.YtcjcdpfjnomehaaGreat
set_option linter.unusedSimpArgs false
set_option linter.unusedVariables false
theorem lgs_facts (I : Nat → Itm) (n k : Nat) : (∀ j, j < (lgs I n k).length → (lgs I n k).getD j 0 < k ∧ legl I n ((lgs I n k).getD j 0 : Nat) = true) ∧ (∀ i j, i < j → j < (lgs I n k).length → (lgs I n k).getD i 0 < (lgs I n k).getD j 0) := by
  induction k with
  | zero => simp [lgs]
  | succ k ih =>
    obtain ⟨h1, h2⟩ := ih
    simp only [lgs]
    by_cases c : legl I n k = true
    · rw [if_pos c]
      have e : ∀ j, (lgs I n k ++ [k]).getD j 0 = if j < (lgs I n k).length then (lgs I n k).getD j 0 else if j = (lgs I n k).length then k else 0 := by
        intro j
        simp only [List.getD_eq_getElem?_getD]
        by_cases hj : j < (lgs I n k).length
        · rw [if_pos hj, List.getElem?_append_left hj]
        · rw [if_neg hj, List.getElem?_append_right (by omega)]
          by_cases hj2 : j = (lgs I n k).length
          · rw [if_pos hj2, hj2]; simp
          · rw [if_neg hj2, List.getElem?_eq_none (by simp; omega)]; rfl
      rw [List.length_append, List.length_cons, List.length_nil]
      refine ⟨fun j hj => ?_, fun i j hij hj => ?_⟩
      · rw [e]
        by_cases hj2 : j < (lgs I n k).length
        · rw [if_pos hj2]; exact ⟨by have := (h1 j hj2).1; omega, (h1 j hj2).2⟩
        · rw [if_neg hj2, if_pos (by omega)]; exact ⟨by omega, c⟩
      · rw [e, e, if_pos (by omega)]
        by_cases hj2 : j < (lgs I n k).length
        · rw [if_pos hj2]; exact h2 i j hij hj2
        · rw [if_neg hj2, if_pos (by omega)]; exact (h1 i (by omega)).1
    · rw [if_neg c]
      exact ⟨fun j hj => ⟨by have := (h1 j hj).1; omega, (h1 j hj).2⟩, h2⟩
section
variable (I : Nat → Itm) (n : Nat) (width : Int) (s : Stg)
def nbk : Nat := (lgs I n n).length
def bk (k : Int) : Int := endN (lgs I n n) k
def itb (k : Int) : Itm := itm I n (bk I n k)
def ftb (k j : Int) : Ft := setF (lin I n (bk I n k) (bk I n j)) width
def PT (T : Int) : Pr where
  m := nbk I n
  dz i j := !(ftb I n width ((i : Int) - 1) j).over && decide ((ftb I n width ((i : Int) - 1) j).bad ≤ T)
  kl i j := (ftb I n width ((i : Int) - 1) j).cls
  ct i j a := cst s (ftb I n width ((i : Int) - 1) j) (itb I n j) a (itb I n ((i : Int) - 1)).flag (decide (j + 1 = nbk I n))
  fo j := forc (itb I n j)
def PE : Pr where
  m := nbk I n
  dz i j := !(ftb I n width ((i : Int) - 1) j).over || decide (j = i)
  kl i j := (ftb I n width ((i : Int) - 1) j).cls
  ct i j a := cst s (ftb I n width ((i : Int) - 1) j) (itb I n j) a (itb I n ((i : Int) - 1)).flag (decide (j + 1 = nbk I n))
  fo j := forc (itb I n j)
end
theorem setF_cls (x : Sm) (width : Int) : 0 ≤ (setF x width).cls ∧ (setF x width).cls ≤ 3 ∧ 0 ≤ (setF x width).bad ∧ (setF x width).bad ≤ 10000 := by
  have hb := fun a b => bd_le a b
  unfold setF
  split
  · simp
  · split
    · unfold stF
      split
      · simp
      · have := hb (width - x.w) x.st
        unfold loo
        simp only
        repeat' split
        all_goals omega
    · unfold shF
      split
      · simp [ovF]
      · have := hb (-(width - x.w)) x.sh
        unfold tig
        simp only
        repeat' split
        all_goals omega
theorem ftb_cls (I : Nat → Itm) (n : Nat) (width k j : Int) : 0 ≤ (ftb I n width k j).cls ∧ (ftb I n width k j).cls ≤ 3 ∧ 0 ≤ (ftb I n width k j).bad ∧ (ftb I n width k j).bad ≤ 10000 := setF_cls _ _
theorem ml_sq (x B : Int) (h0 : 0 ≤ x) (h : x ≤ B) (hB : B ≤ 20000) : ml x x = x * x ∧ 0 ≤ x * x ∧ x * x ≤ B * B := by
  have h1 : 0 ≤ x * x := Int.mul_nonneg h0 h0
  have h2 : x * x ≤ B * B := Int.mul_le_mul h h h0 (by omega)
  have h3 : B * B ≤ 20000 * 20000 := Int.mul_le_mul hB hB (by omega) (by omega)
  refine ⟨?_, h1, h2⟩
  unfold ml
  rw [cl_same x (by omega) (by omega), cl_same _ (by omega) (by omega)]
theorem ad_same (a b : Int) (h1 : -576460752303423488 ≤ a ∧ a ≤ 576460752303423488) (h2 : -576460752303423488 ≤ b ∧ b ≤ 576460752303423488) : ad a b = a + b := by
  unfold ad
  rw [cl_same a (by omega) (by omega), cl_same b (by omega) (by omega), cl_same _ (by omega) (by omega)]
theorem dm_le (l b p : Int) (hl : 0 ≤ l ∧ l ≤ 10000) (hb : 0 ≤ b ∧ b ≤ 10000) (hp : -10000 ≤ p ∧ p ≤ 10000) : 0 ≤ dm l b p ∧ dm l b p ≤ 500000000 := by
  have e1 : ad l b = l + b := ad_same l b (by omega) (by omega)
  obtain ⟨q1, q2, q3⟩ := ml_sq (l + b) 20000 (by omega) (by omega) (by omega)
  have hpp : 0 ≤ ml p p ∧ ml p p ≤ 100000000 := by
    by_cases c : 0 ≤ p
    · obtain ⟨w1, w2, w3⟩ := ml_sq p 10000 c hp.2 (by omega)
      rw [w1]; omega
    · obtain ⟨w1, w2, w3⟩ := ml_sq (-p) 10000 (by omega) (by omega) (by omega)
      have e : ml p p = ml (-p) (-p) := by
        unfold ml
        rw [cl_same p (by omega) (by omega), cl_same (-p) (by omega) (by omega), Int.neg_mul_neg]
      rw [e, w1]; omega
  unfold dm dt
  rw [e1, q1]
  generalize (l + b) * (l + b) = Q at *
  have e2 : ad Q (ml p p) = Q + ml p p := ad_same _ _ (by omega) (by omega)
  have e3 : cl Q = Q := cl_same _ (by omega) (by omega)
  have e4 : cl (ml p p) = ml p p := cl_same _ (by omega) (by omega)
  have e5 : cl (Q - ml p p) = Q - ml p p := cl_same _ (by omega) (by omega)
  rw [e2, e3, e4, e5]
  repeat' split
  all_goals omega
def bas (s : Stg) (f : Ft) (x : Itm) (flag last : Bool) : Int := dm s.l f.bad x.c + (if (flag && x.flag) = true then s.d else 0) + (if (flag && last) = true then s.z else 0)
def adj (s : Stg) (a c : Int) : Int := if (decide (0 ≤ a) && un a c) = true then s.a else 0
theorem okS_iff (s : Stg) : okS s = true ↔ ((0 ≤ s.t ∧ s.t ≤ 10000) ∧ (0 ≤ s.l ∧ s.l ≤ 10000) ∧ (0 ≤ s.a ∧ s.a ≤ 1048576) ∧ (0 ≤ s.d ∧ s.d ≤ 1048576) ∧ (0 ≤ s.z ∧ s.z ≤ 1048576) ∧ (1 ≤ s.o ∧ s.o ≤ 100) ∧ (1 ≤ s.i ∧ s.i ≤ 100)) := by
  simp [okS, wi]; omega
theorem cst_parts (s : Stg) (f : Ft) (x : Itm) (a : Int) (flag last : Bool) (hs : okS s = true) (hb : 0 ≤ f.bad ∧ f.bad ≤ 10000) (hx : -10000 ≤ x.c ∧ x.c ≤ 10000) (ho : f.over = false) :
    cst s f x a flag last = bas s f x flag last + adj s a f.cls ∧ (0 ≤ bas s f x flag last ∧ bas s f x flag last ≤ 530000000) ∧ 0 ≤ adj s a f.cls ∧ adj s a f.cls ≤ 1048576 := by
  obtain ⟨h1, h2, h3, h4, h5, -, -⟩ := (okS_iff s).1 hs
  have hd := dm_le s.l f.bad x.c h2 hb hx
  unfold cst bas adj
  rw [ho]
  generalize dm s.l f.bad x.c = D at *
  have e1 : ad D s.a = D + s.a := ad_same _ _ (by omega) (by omega)
  have e2 : ad D s.d = D + s.d := ad_same _ _ (by omega) (by omega)
  have e3 : ad D s.z = D + s.z := ad_same _ _ (by omega) (by omega)
  have e4 : ad (D + s.a) s.d = D + s.a + s.d := ad_same _ _ (by omega) (by omega)
  have e5 : ad (D + s.a) s.z = D + s.a + s.z := ad_same _ _ (by omega) (by omega)
  have e6 : ad (D + s.d) s.z = D + s.d + s.z := ad_same _ _ (by omega) (by omega)
  have e7 : ad (D + s.a + s.d) s.z = D + s.a + s.d + s.z := ad_same _ _ (by omega) (by omega)
  rw [if_neg (by simp)]
  refine ⟨?_, ?_, ?_⟩
  · cases (flag && last) <;> cases (flag && x.flag) <;> cases (decide (0 ≤ a) && un a f.cls) <;> simp [e1, e2, e3, e4, e5, e6, e7] <;> omega
  · cases (flag && last) <;> cases (flag && x.flag) <;> simp <;> omega
  · cases (decide (0 ≤ a) && un a f.cls) <;> simp <;> omega
theorem cst_like (s : Stg) (f g : Ft) (x : Itm) (a : Int) (flag last : Bool) (h1 : f.over = g.over) (h2 : f.bad = g.bad) (h3 : f.cls = g.cls) : cst s f x a flag last = cst s g x a flag last := by
  unfold cst
  rw [h1, h2, h3]
theorem itb_c (I : Nat → Itm) (n : Nat) (hok : ∀ i, i < n → okI I i = true) (k : Int) : -10000 ≤ (itb I n k).c ∧ (itb I n k).c ≤ 10000 := by
  unfold itb itm
  split
  · rename_i c
    have h := hok (bk I n k).toNat (by omega)
    generalize (bk I n k).toNat = j at *
    simp [okI, ofk] at h
    have := h.2
    repeat' split at this
    all_goals (try simp at this)
    all_goals omega
  · simp [Itm.zero]
theorem bnd_of (I : Nat → Itm) (n : Nat) (width : Int) (s : Stg) (T : Int) (hn : n ≤ 262144) (hok : ∀ i, i < n → okI I i = true) (hs : okS s = true) : Bnd (PT I n width s T) := by
  refine ⟨by have := lgs_len I n n; simp only [PT, nbk]; omega, fun i j a h => ?_⟩
  obtain ⟨-, -, h3, -⟩ := (mayL_iff _ _ _).1 h
  simp [PT] at h3
  have hc := ftb_cls I n width ((i : Int) - 1) j
  have hx := itb_c I n hok j
  have := cst_parts s (ftb I n width ((i : Int) - 1) j) (itb I n j) a (itb I n ((i : Int) - 1)).flag (decide (j + 1 = nbk I n)) hs hc.2.2 hx h3.1
  simp only [PT]
  omega
theorem bk_at (I : Nat → Itm) (n j : Nat) (h : j < nbk I n) : ∃ b : Nat, bk I n j = b ∧ b < n ∧ legl I n b = true ∧ (lgs I n n).getD j 0 = b := by
  have := (lgs_facts I n n).1 j h
  refine ⟨(lgs I n n).getD j 0, ?_, this.1, this.2, rfl⟩
  unfold bk endN
  rw [if_pos (by unfold nbk at h; omega), Int.toNat_natCast]
theorem bk_less (I : Nat → Itm) (n i j : Nat) (hij : i < j) (h : j < nbk I n) : bk I n i < bk I n j := by
  obtain ⟨b, e, -, -, e2⟩ := bk_at I n j h
  obtain ⟨b', e', -, -, e2'⟩ := bk_at I n i (by omega)
  rw [e, e', ← e2, ← e2']
  have := (lgs_facts I n n).2 i j hij h
  omega
def hpl (I : Nat → Itm) (n : Nat) (width k j : Int) : Bool := !decide (0 < (upt I n (bk I n k) (bk I n j)).f) && decide ((upt I n (bk I n k) (bk I n j)).w + 5 * (upt I n (bk I n k) (bk I n j)).st + wst I n < width)
theorem upt_later (I : Nat → Itm) (n : Nat) (hok : ∀ i, i < n → okI I i = true) (a : Int) (k d : Nat) (hk : k + d < n) :
    (upt I n a (k : Int)).w - (upt I n a (k : Int)).sh ≤ (upt I n a ((k + d : Nat) : Int)).w - (upt I n a ((k + d : Nat) : Int)).sh ∧
    (upt I n a (k : Int)).w + 5 * (upt I n a (k : Int)).st ≤ (upt I n a ((k + d : Nat) : Int)).w + 5 * (upt I n a ((k + d : Nat) : Int)).st ∧
    (upt I n a (k : Int)).f ≤ (upt I n a ((k + d : Nat) : Int)).f := by
  induction d with
  | zero => simp
  | succ d ih =>
    have h1 := ih (by omega)
    have h2 := upt_mono I n hok a (k + d) (by omega)
    have e : k + (d + 1) = k + d + 1 := by omega
    rw [e]
    omega
theorem upt_bk (I : Nat → Itm) (n : Nat) (hok : ∀ i, i < n → okI I i = true) (a : Int) (i j : Nat) (hij : i ≤ j) (h : j < nbk I n) :
    (upt I n a (bk I n i)).w - (upt I n a (bk I n i)).sh ≤ (upt I n a (bk I n j)).w - (upt I n a (bk I n j)).sh ∧
    (upt I n a (bk I n i)).w + 5 * (upt I n a (bk I n i)).st ≤ (upt I n a (bk I n j)).w + 5 * (upt I n a (bk I n j)).st ∧
    (upt I n a (bk I n i)).f ≤ (upt I n a (bk I n j)).f := by
  by_cases c : i = j
  · subst c; simp
  · have hl := bk_less I n i j (by omega) h
    obtain ⟨b, e, hb, -, -⟩ := bk_at I n j h
    obtain ⟨b', e', -, -, -⟩ := bk_at I n i (by omega)
    rw [e, e'] at hl ⊢
    have := upt_later I n hok a b' (b - b') (by omega)
    rw [show b' + (b - b') = b by omega] at this
    exact this
theorem hpl_less (I : Nat → Itm) (n : Nat) (hok : ∀ i, i < n → okI I i = true) (width k : Int) (i j : Nat) (hij : i ≤ j) (h : j < nbk I n) (hh : hpl I n width k j = true) : hpl I n width k i = true := by
  have := upt_bk I n hok (bk I n k) i j hij h
  simp [hpl] at hh ⊢
  omega
theorem setF_hope (x : Sm) (width : Int) (h1 : ¬ 0 < x.f) (h2 : x.w + 5 * x.st < width) (h3 : 0 ≤ x.st) (hb : width ≤ 1099511627776 ∧ -1152921504606846976 ≤ x.w - width ∧ x.w - width ≤ 1152921504606846976 ∧ x.st ≤ 1152921504606846976) : (setF x width).bad = 10000 ∧ (setF x width).cls = 3 ∧ (setF x width).over = false := by
  unfold setF
  rw [if_neg (by omega), if_pos (by omega)]
  unfold stF
  split
  · exact ⟨rfl, rfl, rfl⟩
  · have e : bd (width - x.w) x.st = 10000 := by
      unfold bd
      rw [cl_same (width - x.w) (by omega) (by omega), cl_same x.st (by omega) (by omega), if_neg (by omega), if_neg (by omega), bw_great _ _ (by omega) (by omega)]
      rfl
    simp only
    rw [e]
    simp [loo]
theorem hpl_fit (I : Nat → Itm) (n : Nat) (hn : n ≤ 262144) (hok : ∀ i, i < n → okI I i = true) (width k : Int) (j : Nat) (hw : 1 ≤ width ∧ width ≤ 1073741824) (h : j < nbk I n) (hh : hpl I n width k j = true) : (ftb I n width k j).bad = 10000 ∧ (ftb I n width k j).cls = 3 ∧ (ftb I n width k j).over = false := by
  obtain ⟨b, e, hb, -, -⟩ := bk_at I n j h
  simp [hpl] at hh
  have h1 := upt_le I n hn hok (bk I n k) (bk I n j)
  have h2 := itm_add I n hok b hb
  rw [← e] at h2
  unfold ftb
  refine setF_hope _ _ ?_ ?_ ?_ ?_
  all_goals
    unfold lin
    simp only
    omega
theorem wide_over (I : Nat → Itm) (n : Nat) (hn : n ≤ 262144) (hok : ∀ i, i < n → okI I i = true) (width k : Int) (i j : Nat) (hij : i ≤ j) (h : j < nbk I n)
    (hh : width < (upt I n (bk I n k) (bk I n i)).w - (upt I n (bk I n k) (bk I n i)).sh) : (ftb I n width k j).over = true := by
  have h1 := upt_bk I n hok (bk I n k) i j hij h
  obtain ⟨b, e, hb, -, -⟩ := bk_at I n j h
  unfold ftb
  rw [e] at h1 ⊢
  exact fit_over I n hn hok _ b hb width (by omega)
theorem bk_last (I : Nat → Itm) (n : Nat) (h0 : 0 < n) (hf : forc (I (n - 1)) = true) : 0 < nbk I n ∧ bk I n ((nbk I n - 1 : Nat) : Int) = ((n - 1 : Nat) : Int) ∧ forc (itb I n ((nbk I n - 1 : Nat) : Int)) = true := by
  obtain ⟨m, rfl⟩ : ∃ m, n = m + 1 := ⟨n - 1, by omega⟩
  simp only [Nat.add_sub_cancel] at hf ⊢
  have hl : legl I (m + 1) m = true := by
    simp [forc] at hf
    simp [legl, hf.1]
    omega
  have e : lgs I (m + 1) (m + 1) = lgs I (m + 1) m ++ [m] := by simp only [lgs]; rw [if_pos hl]
  have hm : nbk I (m + 1) = (lgs I (m + 1) m).length + 1 := by unfold nbk; rw [e]; simp
  have hb : bk I (m + 1) ((nbk I (m + 1) - 1 : Nat) : Int) = (m : Int) := by
    unfold bk endN
    rw [if_pos (by unfold nbk at hm ⊢; omega), Int.toNat_natCast, hm, e]
    simp [List.getD_eq_getElem?_getD]
  refine ⟨by omega, hb, ?_⟩
  unfold itb itm
  rw [hb, if_pos (by omega), Int.toNat_natCast]
  exact hf
end Go.Proofs.YtcjcdpfjnomehaaGreat

/-
  The search for a paragraph's lines as it lies in memory; what its methods last, item, fit, ahead, short and narrowest answer.
-/
namespace Go.Proofs.YtcjcdpfjnomehaaGreat
open Go.RowKit
set_option linter.unusedSimpArgs false
set_option linter.unusedVariables false
theorem row_cell {W : World} {b : Nat} {arr : Array Value} {t : TypeId} (e : W.heap[b]? = some (.cells arr t (0, 0))) (k : Nat) (v : Value) (h : arr[k]? = some v) : W.cell? ⟨b, k, none⟩ = some v := by
  rw [cell_of_row W b k arr t (0, 0) e]; exact h
theorem row_free {W : World} {b : Nat} {arr : Array Value} {t : TypeId} (e : W.heap[b]? = some (.cells arr t (0, 0))) (k : Nat) : W.frozen? ⟨b, k, none⟩ = false := by
  unfold World.frozen?; rw [e]; simp
theorem res_any (w : World) (zs : Array Value) (t : TypeId) (rb : Nat) (hrb : w.heap.size = rb) : ∃ w0, w.alloc (.cells zs t) = w0 ∧ Below rb w w0 ∧ w0.heap.size = rb + 1 ∧ ∀ W, Below w0.heap.size w0 W → W.heap[rb]? = some (.cells zs t (0, 0)) ∧ Below rb w W := by
  subst hrb
  refine ⟨_, rfl, (Below.refl _ _).alloc (Nat.le_refl _) _, by simp, fun W hb => ⟨?_, ?_⟩⟩
  · rw [hb.block w.heap.size (by simp)]; exact heap_alloc_new w _
  · exact ((Below.refl _ _).alloc (Nat.le_refl _) _).trans (hb.mono (by simp))
def srA (pb : Nat) (width : Int) (s : Stg) (rv : Value) (bound near : Int) (v1 v2 : Value) : Array Value :=
  #[.pointer (some ⟨pb, 0, none⟩), .int .i64 width, .int .i64 s.t, .int .i64 s.l, .int .i64 s.a, .int .i64 s.d, .int .i64 s.z, .int .i64 s.o, .int .i64 s.i, rv, .int .i64 bound, .int .i64 near, v1, v2]
section
variable {S : Nat → Prop} {w : World} {pb n sb : Nat} {I : Nat → Itm} {width : Int}
set_option maxRecDepth 100000 in
set_option maxHeartbeats 1000000 in
theorem last_any (h : ParaAt S w pb n I) (hn : n ≤ 262144) (c0 : w.cell? ⟨sb, 0, none⟩ = some (.pointer (some ⟨pb, 0, none⟩))) : Calls Tryz.prog 138 #[.pointer (some ⟨sb, 0, none⟩)] w fun e w' => e = .returned (.int .i64 ((nbk I n : Int) - 1)) ∧ w' = w := by
  have he := ends_any h hn
  have hl := lgs_len I n n
  unfold nbk
  generalize (lgs I n n).length = m at *
  clear h
  go_enter Tryz.func138, Tryz.ntmps138
  go_wp2_with (go_at_call 93; refine he.mono ?_; rintro e w' ⟨rfl, hw'⟩; subst w')
  go_ret
  exact ⟨rfl, rfl⟩
set_option maxRecDepth 100000 in
set_option maxHeartbeats 2000000 in
theorem item9_any (h : ParaAt S w pb n I) (hn : n ≤ 262144) (c0 : w.cell? ⟨sb, 0, none⟩ = some (.pointer (some ⟨pb, 0, none⟩))) (k : Int) : Calls Tryz.prog 176 #[.pointer (some ⟨sb, 0, none⟩), .int .i64 k] w fun e w' => e = .returned (itb I n k).val ∧ Below w.heap.size w w' := by
  obtain ⟨w0, hw0, hb0, hz0, HN⟩ := res9 w _ rfl
  replace HN := boxed HN
  have HX : Box (∀ W, Below w.heap.size w W → W.cell? ⟨sb, 0, none⟩ = some (.pointer (some ⟨pb, 0, none⟩))) := boxed (fun W hb => hold hb c0)
  have HD : Box (Below w0.heap.size w0 w0.drew) := boxed (Below.refl _ _).drew
  have HDw : Box (Below w.heap.size w w0.drew) := boxed hb0.drew
  have he := boxed (fun W (hb : Below w0.heap.size w0 W) => end_any ((h.below hb0).below hb) hn k)
  have hi := boxed (fun W (hb : Below w0.heap.size w0 W) => item_any ((h.below hb0).below hb) hn (bk I n k))
  unfold itb
  unfold bk at *
  generalize endN (lgs I n n) k = y at *
  unfold Itm.val at *
  generalize itm I n y = x at *
  have hb0' := boxed hb0
  clear h hb0 c0
  go_enter Tryz.func176, Tryz.ntmps176
  go_wp2_with fail
  go_region_held3 (fun W => W.cell? ⟨sb, 0, none⟩ = some (.pointer (some ⟨pb, 0, none⟩)))
    (first | with_reducible exact HX.out _ HDw.out | with_reducible exact HX.out _ HB1w.out | with_reducible exact HX.out _ HF.out)
    (first
      | (go_at_call 177; refine (he.out _ HD.out).mono ?_; rintro e w' ⟨rfl, hw'⟩; subst w')
      | (go_at_call 73; refine (hi.out _ HD.out).mono ?_; rintro e w1 ⟨rfl, hb1⟩; have HB1 := boxed (below_step HD.out (Nat.le_refl _) hb1); have HB1w := boxed (hb0'.out.trans (HB1.out.mono (by have := hb0'.out.size; omega))); obtain ⟨⟨⟨x0, x1, x2, x3, x4, x5, x6, x7, x8⟩, y0, y1, y2, y3, y4, y5, y6, y7, y8⟩, HQ, HF, -⟩ := HN.out _ HB1.out (.int .i64 x.k) (.int .i64 x.w) (.int .i64 x.st) (.int .i64 x.sh) (.bool x.fill) (.int .i64 x.c) (.bool x.flag) (.int .i64 x.fr) (.int .i64 x.to); simp only [put9] at HQ HF; replace HQ := boxed HQ; replace HF := boxed HF; clear hb1))
  go_wp2_with fail
  refine bodyPost_ret (v := .agg #[.int .i64 x.k, .int .i64 x.w, .int .i64 x.st, .int .i64 x.sh, .bool x.fill, .int .i64 x.c, .bool x.flag, .int .i64 x.fr, .int .i64 x.to]) (by have q := HQ.out; simp [results, Tryz.results176, go_sem, q]) rfl ⟨rfl, HF.out⟩
set_option maxRecDepth 100000 in
set_option maxHeartbeats 2000000 in
theorem fit9_any (h : ParaAt S w pb n I) (hn : n ≤ 262144) (hok : ∀ i, i < n → okI I i = true) (hw : 1 ≤ width ∧ width ≤ 1073741824) (c0 : w.cell? ⟨sb, 0, none⟩ = some (.pointer (some ⟨pb, 0, none⟩))) (c1 : w.cell? ⟨sb, 1, none⟩ = some (.int .i64 width)) (a b : Int) :
    Calls Tryz.prog 178 #[.pointer (some ⟨sb, 0, none⟩), .int .i64 a, .int .i64 b] w fun e w' => e = .returned (ftb I n width a b).val ∧ Below w.heap.size w w' := by
  obtain ⟨w0, hw0, hb0, hz0, HN⟩ := res5 w _ rfl
  replace HN := boxed HN
  have HX : Box (∀ W, Below w.heap.size w W → W.cell? ⟨sb, 0, none⟩ = some (.pointer (some ⟨pb, 0, none⟩)) ∧ W.cell? ⟨sb, 1, none⟩ = some (.int .i64 width)) := boxed (fun W hb => ⟨hold hb c0, hold hb c1⟩)
  have HD : Box (Below w0.heap.size w0 w0.drew) := boxed (Below.refl _ _).drew
  have HDw : Box (Below w.heap.size w w0.drew) := boxed hb0.drew
  have ea := boxed (fun W (hb : Below w0.heap.size w0 W) => end_any ((h.below hb0).below hb) hn a)
  have eb := boxed (fun W (hb : Below w0.heap.size w0 W) => end_any ((h.below hb0).below hb) hn b)
  have hi := boxed (fun W (hb : Below w0.heap.size w0 W) => pfit_any ((h.below hb0).below hb) hn hok (bk I n a) (bk I n b) width (by omega))
  unfold ftb
  unfold bk at *
  generalize endN (lgs I n n) a = ya at *
  generalize endN (lgs I n n) b = yb at *
  obtain ⟨f0, f1, f2, f3, f4, hF⟩ : ∃ a b c d e, setF (lin I n ya yb) width = ⟨a, b, c, d, e⟩ := ⟨_, _, _, _, _, rfl⟩
  rw [hF] at hi ⊢
  unfold Ft.val at *
  simp only at hi ⊢
  have hb0' := boxed hb0
  clear h hb0 hF c0 c1
  go_enter Tryz.func178, Tryz.ntmps178
  go_wp2_with fail
  go_region_held3 (fun W => W.cell? ⟨sb, 0, none⟩ = some (.pointer (some ⟨pb, 0, none⟩)) ∧ W.cell? ⟨sb, 1, none⟩ = some (.int .i64 width))
    (first | with_reducible exact HX.out _ HDw.out | with_reducible exact HX.out _ HB1w.out | with_reducible exact HX.out _ HF.out)
    (first
      | (go_at_call 177; (first | (with_reducible refine (ea.out _ HD.out).mono ?_) | (with_reducible refine (eb.out _ HD.out).mono ?_)); rintro e w' ⟨rfl, hw'⟩; subst w')
      | (go_at_call 69; refine (hi.out _ HD.out).mono ?_; rintro e w1 ⟨rfl, hb1⟩; have HB1 := boxed (below_step HD.out (Nat.le_refl _) hb1); have HB1w := boxed (hb0'.out.trans (HB1.out.mono (by have := hb0'.out.size; omega))); obtain ⟨⟨⟨d0, d1, d2, d3, d4⟩, g0, g1, g2, g3, g4⟩, HQ, HF, -⟩ := HN.out _ HB1.out (.int .i64 f0) (.int .i64 f1) (.int .i64 f2) (.int .i64 f3) (.bool f4); simp only [put5] at HQ HF; replace HQ := boxed HQ; replace HF := boxed HF; clear hb1))
  go_wp2_with fail
  refine bodyPost_ret (v := .agg #[.int .i64 f0, .int .i64 f1, .int .i64 f2, .int .i64 f3, .bool f4]) (by have q := HQ.out; simp [results, Tryz.results178, go_sem, q]) rfl ⟨rfl, HF.out⟩
theorem fldI (a b c d e f g h i : Value) (w : World) : (Instr.field 80 (.agg #[a, b, c, d, e, f, g, h, i]) 6).run Tryz.prog w = .ok g w := by kernel_rfl
def aheV (a : Int) (f : Bool) : Value := .agg #[.int .i64 a, .bool f]
set_option maxRecDepth 100000 in
set_option maxHeartbeats 2000000 in
theorem ahead_any (h : ParaAt S w pb n I) (hn : n ≤ 262144) (c0 : w.cell? ⟨sb, 0, none⟩ = some (.pointer (some ⟨pb, 0, none⟩))) (k a : Int) :
    Calls Tryz.prog 141 #[.pointer (some ⟨sb, 0, none⟩), .int .i64 k, .int .i64 a] w fun e w' => e = .returned (aheV a (itb I n k).flag) ∧ Below w.heap.size w w' := by
  unfold aheV
  obtain ⟨w0, hw0, hb0, hz0, HN⟩ := res_any w #[.int .i64 0, .bool false] 213 _ rfl
  replace HN := boxed HN
  have hi := item9_any (h.below hb0) hn (hold hb0 c0) k
  unfold Itm.val at *
  generalize itb I n k = x at *
  clear h hb0 c0
  go_enter Tryz.func141, Tryz.ntmps141
  go_wp2_with fail
  refine hi.mono ?_
  rintro e w1 ⟨rfl, hb1⟩
  obtain ⟨HE, HF⟩ := HN.out _ hb1
  have x0 := row_cell HE 0 _ rfl
  have x1 := row_cell HE 1 _ rfl
  have y0 := row_free HE 0
  have y1 := row_free HE 1
  replace HF := boxed HF
  replace HE := boxed HE
  clear hb1 hi
  have fl := fldI
  simp at x0 x1
  go_wp2_with fail
  refine bodyPost_ret (v := .agg #[.int .i64 a, .bool x.flag]) (by simp [results, Tryz.results141, go_sem, x0, x1]) rfl ⟨rfl, ?_⟩
  exact (HF.out.setCell (by simp) _).setCell (by simp) _
set_option maxRecDepth 100000 in
set_option maxHeartbeats 2000000 in
theorem short_any (h : ParaAt S w pb n I) (hn : n ≤ 262144) (hok : ∀ i, i < n → okI I i = true) (c0 : w.cell? ⟨sb, 0, none⟩ = some (.pointer (some ⟨pb, 0, none⟩))) (c1 : w.cell? ⟨sb, 1, none⟩ = some (.int .i64 width)) (a b : Int) :
    Calls Tryz.prog 200 #[.pointer (some ⟨sb, 0, none⟩), .int .i64 a, .int .i64 b] w fun e w' => e = .returned (.bool (hpl I n width a b)) ∧ Below w.heap.size w w' := by
  have HX : Box (∀ W, Below w.heap.size w W → W.cell? ⟨sb, 0, none⟩ = some (.pointer (some ⟨pb, 0, none⟩)) ∧ W.cell? ⟨sb, 1, none⟩ = some (.int .i64 width)) := boxed (fun W hb => ⟨hold hb c0, hold hb c1⟩)
  have HD : Box (Below w.heap.size w w.drew) := boxed (Below.refl _ _).drew
  have ea := boxed (fun W (hb : Below w.heap.size w W) => end_any (h.below hb) hn a)
  have eb := boxed (fun W (hb : Below w.heap.size w W) => end_any (h.below hb) hn b)
  have hi := boxed (fun W (hb : Below w.heap.size w W) => bounds_any (h.below hb) hn hok (bk I n a) (bk I n b))
  unfold hpl
  unfold bk at *
  generalize endN (lgs I n n) a = ya at *
  generalize endN (lgs I n n) b = yb at *
  generalize (upt I n ya yb).w - (upt I n ya yb).sh = lo at *
  generalize (upt I n ya yb).w + 5 * (upt I n ya yb).st + wst I n = hi at *
  generalize decide (0 < (upt I n ya yb).f) = fl at *
  clear h c0 c1
  go_enter Tryz.func200, Tryz.ntmps200
  go_wp2_with fail
  go_region_held3 (fun W => W.cell? ⟨sb, 0, none⟩ = some (.pointer (some ⟨pb, 0, none⟩)) ∧ W.cell? ⟨sb, 1, none⟩ = some (.int .i64 width))
    (first | with_reducible exact HX.out _ HD.out | with_reducible exact HX.out _ HB1.out)
    (first
      | (go_at_call 177; (first | (with_reducible refine (ea.out _ HD.out).mono ?_) | (with_reducible refine (eb.out _ HD.out).mono ?_)); rintro e w' ⟨rfl, hw'⟩; subst w')
      | (go_at_call 214; refine (hi.out _ HD.out).mono ?_; rintro e w1 ⟨rfl, hb1⟩; have HB1 := boxed (below_step HD.out (Nat.le_refl _) hb1); clear hb1))
  obtain ⟨k0, k1⟩ := HX.out _ HB1.out
  cases fl
  all_goals
    go_wp2_with fail
    go_ret
    exact ⟨ret_bool (by simp), HB1.out⟩
set_option maxRecDepth 100000 in
set_option maxHeartbeats 2000000 in
theorem narrowest_any (h : ParaAt S w pb n I) (hn : n ≤ 262144) (hok : ∀ i, i < n → okI I i = true) (c0 : w.cell? ⟨sb, 0, none⟩ = some (.pointer (some ⟨pb, 0, none⟩))) (a b : Int) :
    Calls Tryz.prog 204 #[.pointer (some ⟨sb, 0, none⟩), .int .i64 a, .int .i64 b] w fun e w' => e = .returned (.int .i64 ((upt I n (bk I n a) (bk I n b)).w - (upt I n (bk I n a) (bk I n b)).sh)) ∧ Below w.heap.size w w' := by
  have HX : Box (∀ W, Below w.heap.size w W → W.cell? ⟨sb, 0, none⟩ = some (.pointer (some ⟨pb, 0, none⟩))) := boxed (fun W hb => hold hb c0)
  have HD : Box (Below w.heap.size w w.drew) := boxed (Below.refl _ _).drew
  have ea := boxed (fun W (hb : Below w.heap.size w W) => end_any (h.below hb) hn a)
  have eb := boxed (fun W (hb : Below w.heap.size w W) => end_any (h.below hb) hn b)
  have hi := boxed (fun W (hb : Below w.heap.size w W) => bounds_any (h.below hb) hn hok (bk I n a) (bk I n b))
  unfold bk at *
  generalize endN (lgs I n n) a = ya at *
  generalize endN (lgs I n n) b = yb at *
  generalize (upt I n ya yb).w - (upt I n ya yb).sh = lo at *
  generalize (upt I n ya yb).w + 5 * (upt I n ya yb).st + wst I n = hi at *
  generalize decide (0 < (upt I n ya yb).f) = fl at *
  clear h c0
  go_enter Tryz.func204, Tryz.ntmps204
  go_wp2_with fail
  go_region_held3 (fun W => W.cell? ⟨sb, 0, none⟩ = some (.pointer (some ⟨pb, 0, none⟩)))
    (first | with_reducible exact HX.out _ HD.out | with_reducible exact HX.out _ HB1.out)
    (first
      | (go_at_call 177; (first | (with_reducible refine (ea.out _ HD.out).mono ?_) | (with_reducible refine (eb.out _ HD.out).mono ?_)); rintro e w' ⟨rfl, hw'⟩; subst w')
      | (go_at_call 214; refine (hi.out _ HD.out).mono ?_; rintro e w1 ⟨rfl, hb1⟩; have HB1 := boxed (below_step HD.out (Nat.le_refl _) hb1); clear hb1))
  go_wp2_with fail
  go_ret
  exact ⟨rfl, HB1.out⟩
end
end Go.Proofs.YtcjcdpfjnomehaaGreat

/-
  What a line costs with all behind it: what the search's cost and worst answer.
-/
namespace Go.Proofs.YtcjcdpfjnomehaaGreat
open Go.RowKit
set_option linter.unusedSimpArgs false
set_option linter.unusedVariables false
def setA : Array Value → Nat → List Value → Array Value
  | arr, _, [] => arr
  | arr, o, v :: r => setA (arr.setIfInBounds o v) (o + 1) r
theorem sets_heap (b : Nat) (t : TypeId) : ∀ (vs : List Value) (o : Nat) (w : World) (arr : Array Value), w.heap[b]? = some (.cells arr t (0, 0)) → (w.setCells b o vs).heap[b]? = some (.cells (setA arr o vs) t (0, 0))
  | [], _, _, _, e => e
  | v :: r, o, w, arr, e => by
    rw [World.setCells, setA]
    exact sets_heap b t r (o + 1) _ _ (arr_set v e)
theorem sets_other (b k : Nat) (hk : k ≠ b) : ∀ (vs : List Value) (o : Nat) (w : World), (w.setCells b o vs).heap[k]? = w.heap[k]?
  | [], _, _ => rfl
  | v :: r, o, w => by rw [World.setCells, sets_other b k hk r]; exact Below.heap_setCell w ⟨b, o, none⟩ v k hk
theorem sets_below (b B : Nat) (hB : B ≤ b) : ∀ (vs : List Value) (o : Nat) (w : World), Below B w (w.setCells b o vs)
  | [], _, _ => Below.refl _ _
  | v :: r, o, w => by rw [World.setCells]; exact ((Below.refl B w).setCell (p := ⟨b, o, none⟩) hB v).trans (sets_below b B hB r (o + 1) _)
theorem sets_size (b : Nat) : ∀ (vs : List Value) (o : Nat) (w : World), (w.setCells b o vs).heap.size = w.heap.size
  | [], _, _ => rfl
  | v :: r, o, w => by rw [World.setCells, sets_size b r]; simp
theorem cells2 {W : World} {rb : Nat} {v0 v1 : Value} {t : TypeId} (e : W.heap[rb]? = some (.cells #[v0, v1] t (0, 0))) : (W.cell? ⟨rb, 0, none⟩ = some v0 ∧ W.cell? ⟨rb, 1, none⟩ = some v1) ∧ W.frozen? ⟨rb, 0, none⟩ = false ∧ W.frozen? ⟨rb, 1, none⟩ = false :=
  ⟨⟨row_cell e 0 _ rfl, row_cell e 1 _ rfl⟩, row_free e 0, row_free e 1⟩
theorem cells3 {W : World} {rb : Nat} {v0 v1 v2 : Value} {t : TypeId} (e : W.heap[rb]? = some (.cells #[v0, v1, v2] t (0, 0))) : (W.cell? ⟨rb, 0, none⟩ = some v0 ∧ W.cell? ⟨rb, 1, none⟩ = some v1 ∧ W.cell? ⟨rb, 2, none⟩ = some v2) ∧ W.frozen? ⟨rb, 0, none⟩ = false ∧ W.frozen? ⟨rb, 1, none⟩ = false ∧ W.frozen? ⟨rb, 2, none⟩ = false :=
  ⟨⟨row_cell e 0 _ rfl, row_cell e 1 _ rfl, row_cell e 2 _ rfl⟩, row_free e 0, row_free e 1, row_free e 2⟩
theorem cells7 {W : World} {rb : Nat} {v0 v1 v2 v3 v4 v5 v6 : Value} {t : TypeId} (e : W.heap[rb]? = some (.cells #[v0, v1, v2, v3, v4, v5, v6] t (0, 0))) : (W.cell? ⟨rb, 0, none⟩ = some v0 ∧ W.cell? ⟨rb, 1, none⟩ = some v1 ∧ W.cell? ⟨rb, 2, none⟩ = some v2 ∧ W.cell? ⟨rb, 3, none⟩ = some v3 ∧ W.cell? ⟨rb, 4, none⟩ = some v4 ∧ W.cell? ⟨rb, 5, none⟩ = some v5 ∧ W.cell? ⟨rb, 6, none⟩ = some v6) ∧ W.frozen? ⟨rb, 0, none⟩ = false ∧ W.frozen? ⟨rb, 1, none⟩ = false ∧ W.frozen? ⟨rb, 2, none⟩ = false ∧ W.frozen? ⟨rb, 3, none⟩ = false ∧ W.frozen? ⟨rb, 4, none⟩ = false ∧ W.frozen? ⟨rb, 5, none⟩ = false ∧ W.frozen? ⟨rb, 6, none⟩ = false :=
  ⟨⟨row_cell e 0 _ rfl, row_cell e 1 _ rfl, row_cell e 2 _ rfl, row_cell e 3 _ rfl, row_cell e 4 _ rfl, row_cell e 5 _ rfl, row_cell e 6 _ rfl⟩, row_free e 0, row_free e 1, row_free e 2, row_free e 3, row_free e 4, row_free e 5, row_free e 6⟩
theorem laid2 (w : World) (A B : Obj) : ((w.alloc A).alloc B).heap[w.heap.size]? = some A ∧ ((w.alloc A).alloc B).heap[w.heap.size + 1]? = some B ∧ Below w.heap.size w ((w.alloc A).alloc B) ∧ ((w.alloc A).alloc B).heap.size = w.heap.size + 2 := by
  refine ⟨?_, ?_, ?_, by simp⟩
  · rw [Below.heap_alloc _ _ _ (by simp)]; exact heap_alloc_new w A
  · have := heap_alloc_new (w.alloc A) B
    simpa using this
  · exact ((Below.refl _ _).alloc (Nat.le_refl _) _).alloc (by simp) _
section
variable {S : Nat → Prop} {w : World} {pb n sb rb rc : Nat} {I : Nat → Itm} {width : Int} {s : Stg} {bound near : Int} {v1 v2 : Value}
def SrAt (w : World) (sb pb : Nat) (width : Int) (s : Stg) (rb m rc : Nat) (bound near : Int) (v1 v2 : Value) : Prop :=
  w.heap[sb]? = some (.cells (srA pb width s (.slice (some ⟨rb, 0, none⟩) m rc) bound near v1 v2) 202 (0, 0))
set_option maxRecDepth 100000 in
set_option maxHeartbeats 4000000 in
theorem cost9_any (h : ParaAt S w pb n I) (hn : n ≤ 262144) (hsr : SrAt w sb pb width s rb (nbk I n) rc bound near v1 v2) (e c : Nat) (he : e < nbk I n) (hc : c < 4) (r : Int) (hr : w.cell? ⟨rb, e * 8 + c * 2, none⟩ = some (.int .i64 r))
    (f1 f2 f3 : Int) (f5 : Bool) (a : Int) (ha : -1000 ≤ a ∧ a ≤ 1000) (fl : Bool) :
    Calls Tryz.prog 175 #[.pointer (some ⟨sb, 0, none⟩), .agg #[.int .i64 f1, .int .i64 f2, .int .i64 f3, .int .i64 (c : Int), .bool f5], .int .i64 (e : Int), aheV a fl] w fun e' w' =>
      e' = .returned (.int .i64 (tt (cst s ⟨f1, f2, f3, (c : Int), f5⟩ (itb I n e) a fl (decide (e + 1 = nbk I n))) r)) ∧ Below w.heap.size w w' := by
  unfold aheV
  have HC := fun W => cost_any s ⟨f1, f2, f3, (c : Int), f5⟩ (itb I n e) a fl (decide (e + 1 = nbk I n)) W ha (by simp only; omega)
  have hl := lgs_len I n n
  have hm : nbk I n ≤ 262144 := by unfold nbk; omega
  have he2 : (e : Int) < (nbk I n : Int) := by omega
  have hc2 : (c : Int) < 4 := by omega
  obtain ⟨lb, hlb⟩ : ∃ lb, decide (e + 1 = nbk I n) = lb := ⟨_, rfl⟩
  have hlb2 : ((e : Int) == (nbk I n : Int) - 1) = lb := by rw [← hlb]; rw [Bool.eq_iff_iff]; simp; omega
  rw [hlb] at HC ⊢
  have HI := boxed (fun W (hb : Below w.heap.size w W) => item9_any (sb := sb) (h.below hb) hn (hold hb (row_cell hsr 0 _ rfl)) e)
  have HL := boxed (fun W (hb : Below w.heap.size w W) => last_any (sb := sb) (h.below hb) hn (hold hb (row_cell hsr 0 _ rfl)))
  unfold Stg.val Ft.val Itm.val at *
  simp only at HC
  generalize cst s ⟨f1, f2, f3, (c : Int), f5⟩ (itb I n e) a fl lb = C at *
  have HT := fun W => total_any C r W
  generalize tt C r = T at *
  generalize itb I n e = x at *
  generalize nbk I n = m at *
  obtain ⟨q0, q1, q2, q3⟩ := laid2 w (.cells #[.int .i64 f1, .int .i64 f2, .int .i64 f3, .int .i64 (c : Int), .bool f5] 105) (.cells #[.int .i64 a, .bool fl] 213)
  obtain ⟨wZ, hwZ⟩ : ∃ wZ, (w.alloc (.cells #[.int .i64 f1, .int .i64 f2, .int .i64 f3, .int .i64 (c : Int), .bool f5] 105)).alloc (.cells #[.int .i64 a, .bool fl] 213) = wZ := ⟨_, rfl⟩
  rw [hwZ] at q0 q1 q2 q3
  have HX : Box (∀ W, Below wZ.heap.size wZ W → (W.cell? ⟨sb, 0, none⟩ = some (.pointer (some ⟨pb, 0, none⟩)) ∧ W.cell? ⟨sb, 2, none⟩ = some (.int .i64 s.t) ∧ W.cell? ⟨sb, 3, none⟩ = some (.int .i64 s.l) ∧ W.cell? ⟨sb, 4, none⟩ = some (.int .i64 s.a) ∧ W.cell? ⟨sb, 5, none⟩ = some (.int .i64 s.d) ∧ W.cell? ⟨sb, 6, none⟩ = some (.int .i64 s.z) ∧ W.cell? ⟨sb, 7, none⟩ = some (.int .i64 s.o) ∧ W.cell? ⟨sb, 8, none⟩ = some (.int .i64 s.i) ∧ W.cell? ⟨sb, 9, none⟩ = some (.slice (some ⟨rb, 0, none⟩) m rc) ∧ W.cell? ⟨rb, e * 8 + c * 2, none⟩ = some (.int .i64 r)) ∧ (W.cell? ⟨w.heap.size, 0, none⟩ = some (.int .i64 f1) ∧ W.cell? ⟨w.heap.size, 1, none⟩ = some (.int .i64 f2) ∧ W.cell? ⟨w.heap.size, 2, none⟩ = some (.int .i64 f3) ∧ W.cell? ⟨w.heap.size, 3, none⟩ = some (.int .i64 (c : Int)) ∧ W.cell? ⟨w.heap.size, 4, none⟩ = some (.bool f5) ∧ W.cell? ⟨w.heap.size + 1, 0, none⟩ = some (.int .i64 a) ∧ W.cell? ⟨w.heap.size + 1, 1, none⟩ = some (.bool fl))) :=
    boxed (fun W hb => ⟨⟨hold (q2.trans (hb.mono q2.size)) (row_cell hsr 0 _ rfl), hold (q2.trans (hb.mono q2.size)) (row_cell hsr 2 _ rfl), hold (q2.trans (hb.mono q2.size)) (row_cell hsr 3 _ rfl), hold (q2.trans (hb.mono q2.size)) (row_cell hsr 4 _ rfl), hold (q2.trans (hb.mono q2.size)) (row_cell hsr 5 _ rfl), hold (q2.trans (hb.mono q2.size)) (row_cell hsr 6 _ rfl), hold (q2.trans (hb.mono q2.size)) (row_cell hsr 7 _ rfl), hold (q2.trans (hb.mono q2.size)) (row_cell hsr 8 _ rfl), hold (q2.trans (hb.mono q2.size)) (row_cell hsr 9 _ rfl), hold (q2.trans (hb.mono q2.size)) hr⟩, row_cell ((hb.block _ (by rw [q3]; omega)).trans q0) 0 _ rfl, row_cell ((hb.block _ (by rw [q3]; omega)).trans q0) 1 _ rfl, row_cell ((hb.block _ (by rw [q3]; omega)).trans q0) 2 _ rfl, row_cell ((hb.block _ (by rw [q3]; omega)).trans q0) 3 _ rfl, row_cell ((hb.block _ (by rw [q3]; omega)).trans q0) 4 _ rfl, row_cell ((hb.block _ (by rw [q3]; omega)).trans q1) 0 _ rfl, row_cell ((hb.block _ (by rw [q3]; omega)).trans q1) 1 _ rfl⟩)
  have HZ : Box (∀ W, Below wZ.heap.size wZ W → Below w.heap.size w W) := boxed (fun W hb => q2.trans (hb.mono q2.size))
  obtain ⟨⟨c0, c1, c2, c3, c4, c5, c6, c7, c8, c9⟩, c10, c11, c12, c13, c14, c15, c16⟩ := HX.out _ (Below.refl _ _)
  have vc0 := cell_regrown c0
  have vc1 := cell_regrown c1
  have vc2 := cell_regrown c2
  have vc3 := cell_regrown c3
  have vc4 := cell_regrown c4
  have vc5 := cell_regrown c5
  have vc6 := cell_regrown c6
  have vc7 := cell_regrown c7
  have vc8 := cell_regrown c8
  have vc9 := cell_regrown c9
  have vc10 := cell_regrown c10
  have vc11 := cell_regrown c11
  have vc12 := cell_regrown c12
  have vc13 := cell_regrown c13
  have vc14 := cell_regrown c14
  have vc15 := cell_regrown c15
  have vc16 := cell_regrown c16
  have CI : Box (∀ d os, Calls Tryz.prog 176 #[.pointer (some ⟨sb, 0, none⟩), .int .i64 (e : Int)] (Go.Sort.grow (redrawn wZ d) os) fun e' w'' => e' = .returned (.agg #[.int .i64 x.k, .int .i64 x.w, .int .i64 x.st, .int .i64 x.sh, .bool x.fill, .int .i64 x.c, .bool x.flag, .int .i64 x.fr, .int .i64 x.to]) ∧ ∃ p : Regrown, w'' = Go.Sort.grow (redrawn wZ p.d) p.os) := boxed (fun d os => Calls.regrown_of (HI.out _ (HZ.out _ (below_regrown _ _ _))))
  have CL : Box (∀ d os, Calls Tryz.prog 138 #[.pointer (some ⟨sb, 0, none⟩)] (Go.Sort.grow (redrawn wZ d) os) fun e' w'' => e' = .returned (.int .i64 ((m : Int) - 1)) ∧ ∃ p : Regrown, w'' = Go.Sort.grow (redrawn wZ p.d) p.os) := boxed (fun d os => Calls.regrown_of ((HL.out _ (HZ.out _ (below_regrown _ _ _))).mono (fun e' w' h => ⟨h.1, by rw [h.2]; exact Below.refl _ _⟩)))
  have CC : Box (∀ d os, Calls Tryz.prog 206 #[.agg #[.int .i64 s.t, .int .i64 s.l, .int .i64 s.a, .int .i64 s.d, .int .i64 s.z, .int .i64 s.o, .int .i64 s.i], .agg #[.int .i64 f1, .int .i64 f2, .int .i64 f3, .int .i64 (c : Int), .bool f5], .agg #[.int .i64 x.k, .int .i64 x.w, .int .i64 x.st, .int .i64 x.sh, .bool x.fill, .int .i64 x.c, .bool x.flag, .int .i64 x.fr, .int .i64 x.to], .agg #[.int .i64 a, .bool fl], .bool lb] (Go.Sort.grow (redrawn wZ d) os) fun e' w'' => e' = .returned (.int .i64 C) ∧ ∃ p : Regrown, w'' = Go.Sort.grow (redrawn wZ p.d) p.os) := boxed (fun d os => Calls.regrown_of (HC _))
  have CT : Box (∀ d os, Calls Tryz.prog 205 #[.int .i64 C, .int .i64 r] (Go.Sort.grow (redrawn wZ d) os) fun e' w'' => e' = .returned (.int .i64 T) ∧ ∃ p : Regrown, w'' = Go.Sort.grow (redrawn wZ p.d) p.os) := boxed (fun d os => Calls.regrown_of ((HT _).mono (fun e' w' h => ⟨h.1, by rw [h.2]; exact Below.refl _ _⟩)))
  clear h hsr hr hl q0 q1 q2 q3 HX HI HL HC HT c0 c1 c2 c3 c4 c5 c6 c7 c8 c9 c10 c11 c12 c13 c14 c15 c16
  go_enter Tryz.func175, Tryz.ntmps175
  go_wp2_with fail
  refine wp_region_quiet_below (by kernel_rfl) (by kernel_rfl) ?_
  repeat (go_big_quiet_step (first | (go_at_call 176; exact CI.out _ _) | (go_at_call 138; exact CL.out _ _) | (go_at_call 206; exact CC.out _ _) | (go_at_call 205; exact CT.out _ _)))
  refine wpQuiet_nil ?_
  intro _ hw'
  obtain ⟨⟨dq, osq⟩, hw''⟩ := hw'
  subst hw''
  have HB6 := boxed (HZ.out _ (below_regrown wZ dq osq))
  generalize Go.Sort.grow (redrawn wZ dq) osq = w5 at *
  go_wp2_with fail
  go_ret
  exact ⟨rfl, HB6.out⟩
def lnV (e : Int) (f : Ft) (c : Int) : Value := .agg #[.int .i64 e, .int .i64 f.num, .int .i64 f.den, .int .i64 f.bad, .int .i64 f.cls, .bool f.over, .int .i64 c]
def wF : Ft := ⟨0, 0, 10000, 3, false⟩
set_option maxRecDepth 100000 in
set_option maxHeartbeats 4000000 in
theorem worst_any (h : ParaAt S w pb n I) (hn : n ≤ 262144) (hsr : SrAt w sb pb width s rb (nbk I n) rc bound near v1 v2) (e : Nat) (he : e < nbk I n) (r : Int) (hr : w.cell? ⟨rb, e * 8 + 6, none⟩ = some (.int .i64 r)) (fl : Bool) :
    Calls Tryz.prog 213 #[.pointer (some ⟨sb, 0, none⟩), .int .i64 (e : Int), .bool fl] w fun e' w' =>
      e' = .returned (lnV e wF (tt (cst s wF (itb I n e) (-1) fl (decide (e + 1 = nbk I n))) r)) ∧ Below w.heap.size w w' := by
  obtain ⟨w0, hw0, hb0, hz0, HN⟩ := res_any w #[.int .i64 0, .int .i64 0, .int .i64 0, .int .i64 0, .int .i64 0, .bool false, .int .i64 0] 204 _ rfl
  replace HN := boxed HN
  have HC := boxed (fun W (hb : Below w0.heap.size w0 W) => cost9_any (sb := sb) (rb := rb) (rc := rc) (width := width) (bound := bound) (near := near) (v1 := v1) (v2 := v2) (s := s) ((h.below hb0).below hb) hn (by
    unfold SrAt at hsr ⊢
    have hlt : sb < w.heap.size := World.block_lt_of_cell? w _ (row_cell hsr 0 _ rfl)
    rw [hb.block sb (by omega), hb0.block sb hlt]
    exact hsr) e 3 he (by omega) r (hold hb (hold hb0 hr)) 0 0 10000 false (-1) (by omega) fl)
  unfold lnV wF
  simp only
  unfold aheV at HC
  generalize hG : tt (cst s ⟨0, 0, 10000, 3, false⟩ (itb I n e) (-1) fl (decide (e + 1 = nbk I n))) r = T
  have e3 : (((3 : Nat) : Int)) = 3 := rfl
  rw [e3, hG] at HC
  clear h hsr hr hG
  go_enter Tryz.func213, Tryz.ntmps213
  go_wp2_with fail
  obtain ⟨wS, hwS⟩ : ∃ wS, w0.alloc (.cells #[.int .i64 0, .int .i64 0, .int .i64 10000, .int .i64 3, .bool false] 105) = wS := ⟨_, rfl⟩
  have hbS : Below w0.heap.size w0 wS := by rw [← hwS]; exact (Below.refl _ _).alloc (Nat.le_refl _) _
  have heS : wS.heap[w.heap.size + 1]? = some (.cells #[.int .i64 0, .int .i64 0, .int .i64 10000, .int .i64 3, .bool false] 105 (0, 0)) := by rw [← hwS, ← hz0]; exact heap_alloc_new w0 _
  have hzS : wS.heap.size = w.heap.size + 2 := by rw [← hwS]; simp [hz0]
  have HY : Box (∀ W : World, W.heap[w.heap.size + 1]? = some (.cells #[.int .i64 0, .int .i64 0, .int .i64 10000, .int .i64 3, .bool false] 105 (0, 0)) → W.cell? ⟨w.heap.size + 1, 0, none⟩ = some (.int .i64 0) ∧ W.cell? ⟨w.heap.size + 1, 1, none⟩ = some (.int .i64 0) ∧ W.cell? ⟨w.heap.size + 1, 2, none⟩ = some (.int .i64 10000) ∧ W.cell? ⟨w.heap.size + 1, 3, none⟩ = some (.int .i64 3) ∧ W.cell? ⟨w.heap.size + 1, 4, none⟩ = some (.bool false)) := boxed (fun W he => ⟨row_cell he 0 _ rfl, row_cell he 1 _ rfl, row_cell he 2 _ rfl, row_cell he 3 _ rfl, row_cell he 4 _ rfl⟩)
  have HK : Box (∀ W, Below wS.heap.size wS W → W.heap[w.heap.size + 1]? = some (.cells #[.int .i64 0, .int .i64 0, .int .i64 10000, .int .i64 3, .bool false] 105 (0, 0)) ∧ Below w0.heap.size w0 W) := boxed (fun W hb => ⟨(hb.block _ (by omega)).trans heS, below_step hbS (Nat.le_refl _) hb⟩)
  have HD : Box (Below wS.heap.size wS wS.drew) := boxed (Below.refl _ _).drew
  clear heS hbS
  rw [hwS]
  clear hwS
  go_region_held3 (fun W => W.cell? ⟨w.heap.size + 1, 0, none⟩ = some (.int .i64 0) ∧ W.cell? ⟨w.heap.size + 1, 1, none⟩ = some (.int .i64 0) ∧ W.cell? ⟨w.heap.size + 1, 2, none⟩ = some (.int .i64 10000) ∧ W.cell? ⟨w.heap.size + 1, 3, none⟩ = some (.int .i64 3) ∧ W.cell? ⟨w.heap.size + 1, 4, none⟩ = some (.bool false))
    (first | with_reducible exact HY.out _ (HK.out _ HD.out).1 | with_reducible exact HY.out _ (HK.out _ HB1.out).1 | with_reducible exact HXf.out)
    (first
      | (go_at_call 175; with_reducible refine (HC.out _ (HK.out _ HD.out).2).mono ?_; rintro e' w1 ⟨rfl, hb1⟩; have HB1 := boxed (below_step HD.out (Nat.le_refl _) hb1); clear hb1
         obtain ⟨HE, HF⟩ := HN.out _ (HK.out _ HB1.out).2
         obtain ⟨⟨x0, x1, x2, x3, x4, x5, x6⟩, y0, y1, y2, y3, y4, y5, y6⟩ := cells7 HE
         have HP := sets_heap w.heap.size 204 [.int .i64 (e : Int), .int .i64 0, .int .i64 0, .int .i64 10000, .int .i64 3, .bool false, .int .i64 T] 0 w1 _ HE
         have HXf := HY.out _ ((sets_other w.heap.size (w.heap.size + 1) (by omega) [.int .i64 (e : Int), .int .i64 0, .int .i64 0, .int .i64 10000, .int .i64 3, .bool false, .int .i64 T] 0 w1).trans (HK.out _ HB1.out).1)
         have HFf := HF.trans (sets_below w.heap.size w.heap.size (Nat.le_refl _) [.int .i64 (e : Int), .int .i64 0, .int .i64 0, .int .i64 10000, .int .i64 3, .bool false, .int .i64 T] 0 w1)
         simp only [World.setCells, Nat.zero_add, Nat.reduceAdd] at HP HXf HFf
         replace HP := boxed HP; replace HXf := boxed HXf; replace HFf := boxed HFf
         clear HE HF))
  go_wp2_with fail
  refine bodyPost_ret (v := .agg #[.int .i64 (e : Int), .int .i64 0, .int .i64 0, .int .i64 10000, .int .i64 3, .bool false, .int .i64 T]) ?_ rfl ⟨rfl, HFf.out⟩
  have HP2 : _ = some (Obj.cells #[.int .i64 (e : Int), .int .i64 0, .int .i64 0, .int .i64 10000, .int .i64 3, .bool false, .int .i64 T] 204 (0, 0)) := HP.out
  obtain ⟨⟨q0, q1, q2, q3, q4, q5, q6⟩, -⟩ := cells7 HP2
  simp [results, Tryz.results213, go_sem, q0, q1, q2, q3, q4, q5, q6]
end
end Go.Proofs.YtcjcdpfjnomehaaGreat

/-
  The window of hopeless lines as it lies in memory; what its methods least and leave do.
-/
namespace Go.Proofs.YtcjcdpfjnomehaaGreat
open Go.RowKit
set_option linter.unusedSimpArgs false
set_option linter.unusedVariables false
def lnc (x : Nat × Int) : List Value := [.int .i64 (x.1 : Int), .int .i64 0, .int .i64 0, .int .i64 10000, .int .i64 3, .bool false, .int .i64 x.2]
def lcs (L : List (Nat × Int)) : List Value := L.flatMap lnc
theorem lcs_len (L : List (Nat × Int)) : (lcs L).length = L.length * 7 := by
  induction L with
  | nil => rfl
  | cons x L ih => simp only [lcs, List.flatMap_cons, List.length_append, List.length_cons] at *; rw [ih]; simp [lnc]; omega
theorem lcs_app (L M : List (Nat × Int)) : lcs (L ++ M) = lcs L ++ lcs M := by simp [lcs]
theorem lcs_one (L : List (Nat × Int)) (k r : Nat) (h : k < L.length) (hr : r < 7) : (lcs L)[k * 7 + r]? = (lnc L[k])[r]? := by
  induction L generalizing k with
  | nil => simp at h
  | cons x L ih =>
    simp only [lcs, List.flatMap_cons]
    cases k with
    | zero =>
      rw [List.getElem?_append_left (by simp [lnc]; omega)]
      simp
    | succ k =>
      rw [List.getElem?_append_right (by simp [lnc]; omega)]
      have := ih k (by simpa using h)
      simp only [lcs] at this
      rw [show (k + 1) * 7 + r - (lnc x).length = k * 7 + r by simp [lnc]; omega, this]
      rfl
def WinAt (B : Nat) (w : World) (v : Value) (L : List (Nat × Int)) : Prop := (v = .slice none 0 0 ∧ L = []) ∨ ∃ g o cap, v = .slice (some ⟨g, o, none⟩) L.length cap ∧ B ≤ g ∧ L.length ≤ cap ∧ cap ≤ maxLen ∧
    (∀ j, j < cap * 7 → (w.cell? ⟨g, o + j, none⟩).isSome = true ∧ w.frozen? ⟨g, o + j, none⟩ = false) ∧ ∀ j u, (lcs L)[j]? = some u → w.cell? ⟨g, o + j, none⟩ = some u
def wblk : Value → Option Nat
  | .slice (some a) _ _ => some a.block
  | _ => none
theorem WinAt.keep {B : Nat} {w w' : World} {v : Value} {L : List (Nat × Int)} (h : WinAt B w v L) (hk : ∀ g, wblk v = some g → g < w.heap.size → w'.heap[g]? = w.heap[g]?) : WinAt B w' v L := by
  rcases h with h | ⟨g, o, cap, rfl, h1, h2, h3, h4, h5⟩
  · exact .inl h
  · by_cases hg : g < w.heap.size
    · have e := hk g rfl hg
      refine .inr ⟨g, o, cap, rfl, h1, h2, h3, fun j hj => ?_, fun j u hj => ?_⟩
      · rw [World.cell?_of_block (w := w) (a := ⟨g, o + j, none⟩) e, World.frozen?_of_block (w := w) (a := ⟨g, o + j, none⟩) e]; exact h4 j hj
      · rw [World.cell?_of_block (w := w) (a := ⟨g, o + j, none⟩) e]; exact h5 j u hj
    · have hz : cap = 0 := by
        by_cases hc : cap = 0
        · exact hc
        · exfalso
          have := (h4 0 (by omega)).1
          obtain ⟨u, hu⟩ := Option.isSome_iff_exists.1 this
          have := World.block_lt_of_cell? w _ hu
          simp at this
          omega
      refine .inr ⟨g, o, cap, rfl, h1, h2, h3, fun j hj => by omega, fun j u hj => ?_⟩
      exfalso
      have : L = [] := List.eq_nil_of_length_eq_zero (by omega)
      subst this
      simp [lcs] at hj
theorem WinAt.below {B : Nat} {w w' : World} {v : Value} {L : List (Nat × Int)} (h : WinAt B w v L) (hb : Below w.heap.size w w') : WinAt B w' v L := h.keep (fun g _ hg => hb.block g hg)
theorem win_len {B : Nat} {w : World} {v : Value} {L : List (Nat × Int)} (h : WinAt B w v L) : ∃ ao cap, v = .slice ao L.length cap ∧ L.length ≤ cap ∧ cap ≤ maxLen ∧ (ao = none → L = []) := by
  rcases h with ⟨rfl, rfl⟩ | ⟨g, o, cap, rfl, h1, h2, h3, -⟩
  · exact ⟨none, 0, rfl, by simp, by unfold maxLen; omega, fun _ => rfl⟩
  · exact ⟨_, _, rfl, h2, h3, fun h => by cases h⟩
theorem win_at {B : Nat} {w : World} {v : Value} {L : List (Nat × Int)} (h : WinAt B w v L) (k : Nat) (hk : k < L.length) : ∃ g o cap, v = .slice (some ⟨g, o, none⟩) L.length cap ∧ B ≤ g ∧ g < w.heap.size ∧ L.length ≤ cap ∧ cap ≤ maxLen ∧ w.cell? ⟨g, o + k * 7, none⟩ = some (.int .i64 (L[k].1 : Int)) ∧ w.cell? ⟨g, o + k * 7 + 1, none⟩ = some (.int .i64 0) ∧ w.cell? ⟨g, o + k * 7 + 2, none⟩ = some (.int .i64 0) ∧ w.cell? ⟨g, o + k * 7 + 3, none⟩ = some (.int .i64 10000) ∧ w.cell? ⟨g, o + k * 7 + 4, none⟩ = some (.int .i64 3) ∧ w.cell? ⟨g, o + k * 7 + 5, none⟩ = some (.bool false) ∧ w.cell? ⟨g, o + k * 7 + 6, none⟩ = some (.int .i64 L[k].2) := by
  rcases h with ⟨rfl, rfl⟩ | ⟨g, o, cap, rfl, h1, h2, h3, h4, h5⟩
  · simp at hk
  · have e := fun r hr => lcs_one L k r hk hr
    have c0 := h5 (k * 7 + 0) _ (e 0 (by omega))
    have c1 := h5 (k * 7 + 1) _ (e 1 (by omega))
    have c2 := h5 (k * 7 + 2) _ (e 2 (by omega))
    have c3 := h5 (k * 7 + 3) _ (e 3 (by omega))
    have c4 := h5 (k * 7 + 4) _ (e 4 (by omega))
    have c5 := h5 (k * 7 + 5) _ (e 5 (by omega))
    have c6 := h5 (k * 7 + 6) _ (e 6 (by omega))
    simp only [← Nat.add_assoc, Nat.add_zero] at c0 c1 c2 c3 c4 c5 c6
    have := World.block_lt_of_cell? w _ c0
    exact ⟨g, o, cap, rfl, h1, this, h2, h3, c0, c1, c2, c3, c4, c5, c6⟩
theorem slice_one (g o n cap : Nat) (hn : 0 < n) (hc : n ≤ cap) : ∃ o', (∀ w : World, (Instr.slice 198 (.slice (some ⟨g, o, none⟩) n cap) (some (.int .i64 1)) none none).run Tryz.prog w = .ok (.slice (some ⟨g, o', none⟩) (n - 1) (cap - 1)) w) ∧ (1 < cap → o' = o + 7) := by
  have h1 : (1 : Int) ≤ (n : Int) := by omega
  have h5 : (n : Int) ≤ (cap : Int) := by omega
  by_cases c : 1 < cap
  · refine ⟨o + 7, fun w => ?_, fun _ => rfl⟩
    go_simp
    intro h; omega
  · obtain rfl : cap = 1 := by omega
    obtain rfl : n = 1 := by omega
    refine ⟨o, fun w => ?_, fun h => absurd h c⟩
    go_simp
theorem slice_upto (ao : Option Addr) (n cap k : Nat) (hn : n ≤ cap) (hf : k ≤ n) (hz : ao = none → n = 0) (w : World) : (Instr.slice 198 (.slice ao n cap) none (some (.int .i64 (k : Int))) none).run Tryz.prog w = .ok (.slice ao k cap) w := by
  have h4 : (k : Int) ≤ (cap : Int) := by omega
  cases ao with
  | none =>
    have := hz rfl
    subst this
    obtain rfl : k = 0 := by omega
    go_simp
  | some ad => go_simp
theorem win_tail {B : Nat} {w : World} {g o cap o' : Nat} {x : Nat × Int} {L : List (Nat × Int)} (h : WinAt B w (.slice (some ⟨g, o, none⟩) (L.length + 1) cap) (x :: L)) (ho : 1 < cap → o' = o + 7) : WinAt B w (.slice (some ⟨g, o', none⟩) L.length (cap - 1)) L := by
  rcases h with h | ⟨g1, o1, cap1, e, h1, h2, h3, h4, h5⟩
  · cases h.1
  · injection e with e1 e2 e3
    injection e1 with e1
    injection e1 with e1 e4 e5
    subst e1; subst e4; subst e3
    simp only [List.length_cons] at h2
    refine .inr ⟨g, o', cap - 1, rfl, h1, by omega, by omega, fun j hj => ?_, fun j u hj => ?_⟩
    · have := ho (by omega)
      subst this
      rw [Nat.add_assoc]
      exact h4 (7 + j) (by omega)
    · have hj2 : j < (lcs L).length := (List.getElem?_eq_some_iff.1 hj).1
      rw [lcs_len] at hj2
      have := ho (by omega)
      subst this
      rw [Nat.add_assoc]
      refine h5 (7 + j) u ?_
      simp only [lcs, List.flatMap_cons]
      rw [List.getElem?_append_right (by simp [lnc])]
      rw [show 7 + j - (lnc x).length = j by simp [lnc]]
      exact hj
section
variable {w : World} {B sb off : Nat} {v : Value} {L : List (Nat × Int)}
set_option maxRecDepth 100000 in
set_option maxHeartbeats 2000000 in
theorem least_nil (c : w.cell? ⟨sb, off, none⟩ = some v) (h : WinAt B w v []) : Calls Tryz.prog 203 #[.pointer (some ⟨sb, off, none⟩)] w fun e w' => e = .returned (lnV 0 ⟨0, 0, 0, 0, false⟩ Awf) ∧ Below w.heap.size w w' := by
  obtain ⟨ao, cap, rfl, -, -, -⟩ := win_len h
  unfold lnV Awf
  have q1 : sb < w.heap.size := World.block_lt_of_cell? w _ c
  have q2 : sb ≠ w.heap.size := by omega
  clear h
  simp only [List.length_nil] at c
  go_enter Tryz.func203, Tryz.ntmps203
  go_wp2
  refine bodyPost_ret (v := .agg #[.int .i64 0, .int .i64 0, .int .i64 0, .int .i64 0, .int .i64 0, .bool false, .int .i64 1125899906842624]) (by simp [results, Tryz.results203, go_sem]) rfl ⟨rfl, by go_grown⟩
set_option maxRecDepth 100000 in
set_option maxHeartbeats 2000000 in
theorem least_cons (x : Nat × Int) (c : w.cell? ⟨sb, off, none⟩ = some v) (h : WinAt B w v (x :: L)) (hl : L.length ≤ 262144) : Calls Tryz.prog 203 #[.pointer (some ⟨sb, off, none⟩)] w fun e w' => e = .returned (lnV x.1 wF x.2) ∧ Below w.heap.size w w' := by
  obtain ⟨g, o, cap, rfl, -, hg, hc, -, c0, c1, c2, c3, c4, c5, c6⟩ := win_at h 0 (by simp)
  simp only [List.length_cons, Nat.zero_mul, Nat.add_zero, List.getElem_cons_zero] at c c0 c1 c2 c3 c4 c5 c6 hc
  unfold lnV wF
  simp only
  have q1 : sb < w.heap.size := World.block_lt_of_cell? w _ c
  have q2 : sb ≠ w.heap.size := by omega
  have q4 : g ≠ w.heap.size := by omega
  clear h
  obtain ⟨m, hm⟩ : ∃ m, L.length + 1 = m := ⟨_, rfl⟩
  have m0 : 0 < m := by omega
  have m1 : (0 : Int) < (m : Int) := by omega
  have m2 : ¬ m = 0 := by omega
  have m3 : m ≤ 262145 := by omega
  rw [hm] at c hc
  go_enter Tryz.func203, Tryz.ntmps203
  go_wp2
  refine bodyPost_ret (v := .agg #[.int .i64 (x.1 : Int), .int .i64 0, .int .i64 0, .int .i64 10000, .int .i64 3, .bool false, .int .i64 x.2]) (by simp [results, Tryz.results203, go_sem]) rfl ⟨rfl, by go_grown⟩
end
end Go.Proofs.YtcjcdpfjnomehaaGreat
