/-
  Pages as lists of lists: what two of them begin and end with alike, what changed, and what comes of regions. No program in it.
-/
import Derived.Test.YtoodhpgaikmalaaOc
namespace Go.Proofs.Ytoodhpgaikmalaa
set_option linter.unusedSimpArgs false
set_option linter.unusedVariables false

section
variable {α : Type} [DecidableEq α]
/-- With how many alike two lists begin. -/
def pre : List α → List α → Nat
  | a :: s, b :: t => if a = b then pre s t + 1 else 0
  | [], _ => 0
  | _ :: _, [] => 0
theorem pre_le (x y : List α) : pre x y ≤ x.length ∧ pre x y ≤ y.length := by
  induction x generalizing y with
  | nil => simp [pre]
  | cons a s ih =>
    cases y with
    | nil => simp [pre]
    | cons b t =>
      have := ih t
      simp only [pre, List.length_cons]
      split <;> omega
theorem pre_take (x y : List α) : x.take (pre x y) = y.take (pre x y) := by
  induction x generalizing y with
  | nil => simp [pre]
  | cons a s ih =>
    cases y with
    | nil => simp [pre]
    | cons b t =>
      simp only [pre]
      split
      · next e => subst e; simp [ih t]
      · simp
theorem pre_stop (x y : List α) (a b : α) (ha : x[pre x y]? = some a) (hb : y[pre x y]? = some b) : a ≠ b := by
  induction x generalizing y with
  | nil => simp [pre] at ha
  | cons c s ih =>
    cases y with
    | nil => simp [pre] at hb
    | cons d t =>
      simp only [pre] at ha hb
      split at ha
      · next e =>
        rw [if_pos e] at hb
        exact ih t (by simpa using ha) (by simpa using hb)
      · next e =>
        rw [if_neg e] at hb
        simp at ha hb
        subst ha; subst hb
        exact e
theorem pre_is (x y : List α) (k : Nat) (hx : k ≤ x.length) (hy : k ≤ y.length) (h : ∀ i, i < k → x[i]? = y[i]?) (st : k = x.length ∨ k = y.length ∨ x[k]? ≠ y[k]?) : pre x y = k := by
  induction k generalizing x y with
  | zero =>
    cases x with
    | nil => simp [pre]
    | cons a s =>
      cases y with
      | nil => simp [pre]
      | cons b t =>
        rcases st with st | st | st
        · simp at st
        · simp at st
        · have : a ≠ b := fun e => st (by simp [e])
          simp [pre, this]
  | succ k ih =>
    cases x with
    | nil => simp at hx
    | cons a s =>
      cases y with
      | nil => simp at hy
      | cons b t =>
        have e : a = b := by have := h 0 (by omega); simpa using this
        subst e
        simp only [pre, if_pos]
        rw [ih s t (by simpa using hx) (by simpa using hy) (fun i hi => by have := h (i + 1) (by omega); simpa using this) (by simpa using st)]
theorem pre_self (x : List α) : pre x x = x.length := pre_is x x _ (Nat.le_refl _) (Nat.le_refl _) (fun _ _ => rfl) (Or.inl rfl)
/-- With how many alike they end, behind those. -/
def bck (x y : List α) : Nat := pre (x.drop (pre x y)).reverse (y.drop (pre x y)).reverse
theorem bck_le (x y : List α) : pre x y + bck x y ≤ x.length ∧ pre x y + bck x y ≤ y.length := by
  have h1 := pre_le x y
  have h2 := pre_le (x.drop (pre x y)).reverse (y.drop (pre x y)).reverse
  simp only [List.length_reverse, List.length_drop] at h2
  unfold bck
  omega
theorem bck_is (x y : List α) (k : Nat) (hx : pre x y + k ≤ x.length) (hy : pre x y + k ≤ y.length) (h : ∀ i, i < k → x[x.length - 1 - i]? = y[y.length - 1 - i]?) (st : pre x y + k = x.length ∨ pre x y + k = y.length ∨ x[x.length - 1 - k]? ≠ y[y.length - 1 - k]?) : bck x y = k := by
  have g : ∀ (z : List α) (i : Nat), pre x y + i < z.length → (z.drop (pre x y)).reverse[i]? = z[z.length - 1 - i]? := by
    intro z i hi
    rw [List.getElem?_reverse (by simp; omega), List.getElem?_drop, List.length_drop]
    congr 1; omega
  refine pre_is _ _ k (by simp; omega) (by simp; omega) (fun i hi => ?_) ?_
  · rw [g x i (by omega), g y i (by omega)]; exact h i hi
  · by_cases c1 : pre x y + k = x.length
    · exact Or.inl (by simp; omega)
    by_cases c2 : pre x y + k = y.length
    · exact Or.inr (Or.inl (by simp; omega))
    refine Or.inr (Or.inr ?_)
    rw [g x k (by omega), g y k (by omega)]
    rcases st with st | st | st
    · exact absurd st c1
    · exact absurd st c2
    · exact st
theorem bck_suf (x y : List α) : x.drop (x.length - bck x y) = y.drop (y.length - bck x y) := by
  have h := pre_take (x.drop (pre x y)).reverse (y.drop (pre x y)).reverse
  have hl := bck_le x y
  change List.take (bck x y) _ = List.take (bck x y) _ at h
  rw [List.take_reverse, List.take_reverse] at h
  have h2 := List.reverse_inj.1 h
  rw [List.drop_drop, List.drop_drop, List.length_drop, List.length_drop] at h2
  rw [show pre x y + (x.length - pre x y - bck x y) = x.length - bck x y by omega, show pre x y + (y.length - pre x y - bck x y) = y.length - bck x y by omega] at h2
  exact h2
/-- What lies between. -/
def oldN (x y : List α) : Nat := x.length - bck x y - pre x y
def nowL (x y : List α) : List α := (y.drop (pre x y)).take (y.length - bck x y - pre x y)
theorem now_len (x y : List α) : (nowL x y).length = y.length - bck x y - pre x y := by
  have := bck_le x y
  unfold nowL
  rw [List.length_take, List.length_drop]; omega
theorem put_now (x y : List α) : x.take (pre x y) ++ (nowL x y ++ x.drop (pre x y + oldN x y)) = y := by
  have hl := bck_le x y
  have e : pre x y + oldN x y = x.length - bck x y := by unfold oldN; omega
  rw [e, bck_suf x y, pre_take]
  unfold nowL
  have e2 : y.drop (y.length - bck x y) = (y.drop (pre x y)).drop (y.length - bck x y - pre x y) := by
    rw [List.drop_drop]; congr 1; omega
  rw [e2, List.take_append_drop, List.take_append_drop]
theorem none_iff (x y : List α) : x = y ↔ oldN x y = 0 ∧ (nowL x y).length = 0 := by
  constructor
  · intro h
    subst h
    have h1 := pre_self x
    have h2 := bck_le x x
    rw [now_len]
    unfold oldN
    omega
  · rintro ⟨h1, h2⟩
    have h3 := put_now x y
    rw [h1, List.eq_nil_of_length_eq_zero h2, List.nil_append, Nat.add_zero, List.take_append_drop] at h3
    exact h3
/-- What differs at the ends of what lies between. -/
theorem first_differs (x y : List α) (a b : α) (h1 : 0 < oldN x y) (h2 : 0 < (nowL x y).length) (ha : x[pre x y]? = some a) (hb : (nowL x y)[0]? = some b) : a ≠ b := by
  refine pre_stop x y a b ha ?_
  unfold nowL at hb
  rw [now_len] at h2
  rw [List.getElem?_take_of_lt h2, List.getElem?_drop] at hb
  simpa using hb
theorem last_differs (x y : List α) (a b : α) (h1 : 0 < oldN x y) (h2 : 0 < (nowL x y).length) (ha : x[pre x y + oldN x y - 1]? = some a) (hb : (nowL x y)[(nowL x y).length - 1]? = some b) : a ≠ b := by
  have hl := bck_le x y
  refine pre_stop (x.drop (pre x y)).reverse (y.drop (pre x y)).reverse a b ?_ ?_
  · change ((x.drop (pre x y)).reverse)[bck x y]? = _
    unfold oldN at h1 ha
    rw [List.getElem?_reverse (by simp; omega), List.getElem?_drop, List.length_drop]
    rw [← ha]; congr 1; omega
  · change ((y.drop (pre x y)).reverse)[bck x y]? = _
    rw [now_len] at h2 hb
    unfold nowL at hb
    rw [List.getElem?_take_of_lt (by omega), List.getElem?_drop] at hb
    rw [List.getElem?_reverse (by simp; omega), List.getElem?_drop, List.length_drop]
    rw [← hb]; congr 1; omega
end
/-- A region. -/
structure Rgn (α : Type) where
  pg : Int
  kd : Int
  fr : Int
  od : Int
  ls : List α
section
variable {α : Type}
/-- A page's region, if it differs. -/
def reg [DecidableEq α] (n : Nat) (x y : List α) : List (Rgn α) := if x = y then [] else [⟨n, 1, pre x y, oldN x y, nowL x y⟩]
/-- What changed of page n. -/
def dat [DecidableEq α] (ps qs : List (List α)) (n : Nat) : List (Rgn α) :=
  match ps[n]?, qs[n]? with
  | some x, some y => reg n x y
  | none, some y => [⟨n, 2, 0, 0, y⟩]
  | some x, none => [⟨n, 3, 0, x.length, []⟩]
  | none, none => []
/-- What changed of the first n pages. -/
def dU [DecidableEq α] (ps qs : List (List α)) (n : Nat) : List (Rgn α) := (List.range n).flatMap (dat ps qs)
theorem dU_succ [DecidableEq α] (ps qs : List (List α)) (n : Nat) : dU ps qs (n + 1) = dU ps qs n ++ dat ps qs n := by
  simp [dU, List.range_succ]
def dif [DecidableEq α] (ps qs : List (List α)) : List (Rgn α) := dU ps qs (max ps.length qs.length)
theorem dat_len [DecidableEq α] (ps qs : List (List α)) (n : Nat) : (dat ps qs n).length ≤ 1 := by
  unfold dat reg
  split <;> (try split) <;> simp
theorem dU_len [DecidableEq α] (ps qs : List (List α)) (n : Nat) : (dU ps qs n).length ≤ n := by
  induction n with
  | zero => simp [dU]
  | succ n ih => rw [dU_succ, List.length_append]; have := dat_len ps qs n; omega
/-- One region done to pages. -/
def app1 (qs : List (List α)) (r : Rgn α) : List (List α) :=
  if r.kd = 1 then qs.set r.pg.toNat ((qs.getD r.pg.toNat []).take r.fr.toNat ++ (r.ls ++ (qs.getD r.pg.toNat []).drop (r.fr.toNat + r.od.toNat)))
  else if r.kd = 2 then qs ++ [r.ls] else qs
def appl (qs : List (List α)) (rs : List (Rgn α)) : List (List α) := rs.foldl app1 qs
theorem appl_app (qs : List (List α)) (rs ts : List (Rgn α)) : appl qs (rs ++ ts) = appl (appl qs rs) ts := by simp [appl]
/-- What changed, done to the first pages, gives the second ones. -/
theorem appl_dU [DecidableEq α] (ps qs : List (List α)) (n : Nat) : appl (ps.take (min ps.length qs.length)) (dU ps qs n) = qs.take n ++ (ps.take (min ps.length qs.length)).drop n := by
  induction n with
  | zero => simp [dU, appl]
  | succ n ih =>
    rw [dU_succ, appl_app, ih]
    unfold dat
    cases hx : ps[n]? with
    | none =>
      have hn : ps.length ≤ n := by simpa using hx
      have hd : ∀ k, n ≤ k → (ps.take (min ps.length qs.length)).drop k = [] := fun k hk => by
        rw [List.drop_eq_nil_iff, List.length_take]; omega
      cases hy : qs[n]? with
      | none =>
        have hm : qs.length ≤ n := by simpa using hy
        have hq : ∀ k, n ≤ k → qs.take k = qs := fun k hk => List.take_of_length_le (by omega)
        simp only [appl, List.foldl_nil]
        rw [hd _ (Nat.le_refl _), hd _ (by omega), hq _ (Nat.le_refl _), hq _ (by omega)]
      | some y =>
        simp only [appl, List.foldl_cons, List.foldl_nil, app1]
        rw [hd _ (Nat.le_refl _), hd _ (by omega)]
        simp [List.take_add_one, hy]
    | some x =>
      have hn : n < ps.length := (List.getElem?_eq_some_iff.1 hx).1
      cases hy : qs[n]? with
      | none =>
        have hm : qs.length ≤ n := by simpa using hy
        have hd : ∀ k, n ≤ k → (ps.take (min ps.length qs.length)).drop k = [] := fun k hk => by
          rw [List.drop_eq_nil_iff, List.length_take]; omega
        have hq : ∀ k, n ≤ k → qs.take k = qs := fun k hk => List.take_of_length_le (by omega)
        simp only [appl, List.foldl_cons, List.foldl_nil, app1]
        rw [hd _ (Nat.le_refl _), hd _ (by omega), hq _ (Nat.le_refl _), hq _ (by omega)]
        simp
      | some y =>
        have hm : n < qs.length := (List.getElem?_eq_some_iff.1 hy).1
        have hdr : (ps.take (min ps.length qs.length)).drop n = x :: (ps.take (min ps.length qs.length)).drop (n + 1) := by
          rw [List.drop_eq_getElem_cons (by rw [List.length_take]; omega)]
          congr 1
          rw [List.getElem_take]
          exact (List.getElem?_eq_some_iff.1 hx).2
        have htk : qs.take (n + 1) = qs.take n ++ [y] := by simp [List.take_add_one, hy]
        have hl : (qs.take n).length = n := by rw [List.length_take]; omega
        simp only [reg]
        split
        · next e =>
          subst e
          simp only [appl, List.foldl_nil]
          rw [hdr, htk, List.append_assoc]
          rfl
        · simp only [appl, List.foldl_cons, List.foldl_nil, app1, if_pos, Int.toNat_natCast]
          rw [hdr, htk]
          have hg : (qs.take n ++ x :: (ps.take (min ps.length qs.length)).drop (n + 1)).getD n [] = x := by
            rw [List.getD_eq_getElem?_getD, List.getElem?_append_right (by omega), hl]
            simp
          rw [hg, put_now, List.set_append_right _ _ (by omega), hl]
          simp
theorem appl_dif [DecidableEq α] (ps qs : List (List α)) : appl (ps.take (min ps.length qs.length)) (dif ps qs) = qs := by
  unfold dif
  rw [appl_dU, List.take_of_length_le (by omega)]
  have : (ps.take (min ps.length qs.length)).drop (max ps.length qs.length) = [] := by
    rw [List.drop_eq_nil_iff, List.length_take]; omega
  rw [this, List.append_nil]
/-- What the program's looks ask. -/
def chg (ps : List (List α)) (r : Rgn α) : Bool := r.kd == 1 && decide (r.pg < ps.length) && decide (0 ≤ r.fr) && decide (0 ≤ r.od) && decide (r.od ≤ ((ps.getD r.pg.toNat []).length : Int) - r.fr)
def add (r : Rgn α) (next : Int) : Bool := r.kd == 2 && r.pg == next && r.fr == 0 && r.od == 0
def gon (x : List α) (n : Int) (r : Rgn α) : Bool := r.kd == 3 && r.pg == n && r.fr == 0 && r.od == (x.length : Int) && r.ls.length == 0
def alg : List (List α) → Int → List (Rgn α) → Bool
  | [], _, [] => true
  | x :: s, n, r :: t => gon x n r && alg s (n + 1) t
  | [], _, _ :: _ => false
  | _ :: _, _, [] => false
def stg (ps : List (List α)) : Int → Int → List (Rgn α) → Option Nat
  | _, _, [] => some ps.length
  | last, next, r :: t => if r.pg ≤ last then none else
      if chg ps r then stg ps r.pg next t else if add r next then stg ps r.pg (next + 1) t
      else if r.pg < ps.length ∧ alg (ps.drop r.pg.toNat) r.pg (r :: t) = true then some r.pg.toNat else none
theorem alg_len (s : List (List α)) (n : Int) (t : List (Rgn α)) (h : alg s n t = true) : t.length = s.length := by
  induction s generalizing n t with
  | nil => cases t <;> simp_all [alg]
  | cons x s ih =>
    cases t with
    | nil => simp [alg] at h
    | cons r t =>
      simp only [alg, Bool.and_eq_true] at h
      simp [ih _ _ h.2]
theorem alg_kd (s : List (List α)) (n : Int) (t : List (Rgn α)) (h : alg s n t = true) : ∀ r ∈ t, r.kd = 3 := by
  induction s generalizing n t with
  | nil => cases t <;> simp_all [alg]
  | cons x s ih =>
    cases t with
    | nil => simp
    | cons r t =>
      simp only [alg, gon, Bool.and_eq_true, beq_iff_eq] at h
      intro q hq
      rcases List.mem_cons.1 hq with rfl | hq
      · exact h.1.1.1.1.1
      · exact ih _ _ h.2 q hq
/-- Regions that can be done one behind the other. -/
def fits : List (List α) → List (Rgn α) → Prop
  | _, [] => True
  | qs, r :: t => (r.kd = 1 → 0 ≤ r.pg ∧ 0 ≤ r.fr ∧ 0 ≤ r.od ∧ ∃ x, qs[r.pg.toNat]? = some x ∧ r.fr + r.od ≤ x.length) ∧ fits (app1 qs r) t
theorem fits_gone (qs : List (List α)) (rs : List (Rgn α)) (h : ∀ r ∈ rs, r.kd = 3) : fits qs rs := by
  induction rs generalizing qs with
  | nil => trivial
  | cons r t ih =>
    have h3 := h r (by simp)
    exact ⟨fun e => by omega, ih _ (fun q hq => h q (by simp [hq]))⟩
theorem stg_le (ps : List (List α)) (last next : Int) (rs : List (Rgn α)) (s : Nat) (h : stg ps last next rs = some s) : s ≤ ps.length := by
  induction rs generalizing last next with
  | nil => simp [stg] at h; omega
  | cons r t ih =>
    simp only [stg] at h
    split at h
    · cases h
    · split at h
      · exact ih _ _ h
      · split at h
        · exact ih _ _ h
        · split at h
          · next c => injection h with h; omega
          · cases h
theorem stg_far (ps : List (List α)) (last next : Int) (rs : List (Rgn α)) (s : Nat) (hl : (ps.length : Int) ≤ last) (h : stg ps last next rs = some s) : s = ps.length := by
  induction rs generalizing last next with
  | nil => simp [stg] at h; omega
  | cons r t ih =>
    simp only [stg] at h
    split at h
    · cases h
    · next c1 =>
      split at h
      · next c => simp [chg] at c; omega
      · split at h
        · exact ih _ _ (by omega) h
        · split at h
          · next c => omega
          · cases h
theorem stg_gt (ps : List (List α)) (last next : Int) (rs : List (Rgn α)) (s : Nat) (hn : (ps.length : Int) ≤ next) (hl : last < ps.length) (h : stg ps last next rs = some s) (h0 : -1 ≤ last) : last < s := by
  induction rs generalizing last next with
  | nil => simp [stg] at h; omega
  | cons r t ih =>
    simp only [stg] at h
    split at h
    · cases h
    · next c1 =>
      split at h
      · next c =>
        simp [chg] at c
        have := ih _ _ hn (by omega) h (by omega)
        omega
      · split at h
        · next c =>
          simp [add] at c
          have := stg_far _ _ _ _ _ (by omega) h
          omega
        · split at h
          · next c => injection h with h; omega
          · cases h
theorem stg_fits (ps qs : List (List α)) (last next : Int) (rs : List (Rgn α)) (s : Nat) (hn : (ps.length : Int) ≤ next) (h0 : -1 ≤ last) (h : stg ps last next rs = some s) (hq : ∀ j : Nat, last < j → j < s → qs[j]? = ps[j]?) : fits qs rs := by
  induction rs generalizing last next qs with
  | nil => trivial
  | cons r t ih =>
    simp only [stg] at h
    split at h
    · cases h
    · next c1 =>
      split at h
      · next c =>
        simp [chg] at c
        obtain ⟨⟨⟨⟨k1, k2⟩, k3⟩, k4⟩, k5⟩ := c
        have hs := stg_gt _ _ _ _ _ hn k2 h (by omega)
        have hqr := hq r.pg.toNat (by omega) (by omega)
        have hlt : r.pg.toNat < ps.length := by omega
        rw [List.getElem?_eq_getElem hlt] at hqr k5
        refine ⟨fun _ => ⟨by omega, k3, k4, _, hqr, by simp at k5; omega⟩, ih _ _ _ hn (by omega) h (fun j h1 h2 => ?_)⟩
        rw [app1, if_pos k1, List.getElem?_set_ne (by omega)]
        exact hq j (by omega) h2
      · split at h
        · next c =>
          simp [add] at c
          have hk : r.kd = 2 := c.1.1.1
          have hs := stg_far _ _ _ _ _ (by omega) h
          refine ⟨fun e => by omega, ih _ _ _ (by omega) (by omega) h (fun j h1 h2 => ?_)⟩
          omega
        · split at h
          · next c => exact fits_gone _ _ (alg_kd _ _ _ c.2)
          · cases h
end
end Go.Proofs.Ytoodhpgaikmalaa
