/-
  What lines cost: what the program's Total, unlike and Cost and the document's Total and Cost answer.
-/
import Derived.Test.YtcjcdpfjnomehaaGreatPw10
import Derived.Test.YtcjcdpfjnomehaaGreatPw24
import Derived.Test.YtcjcdpfjnomehaaGreatPw8
namespace Go.Proofs.YtcjcdpfjnomehaaGreat
open Go.RowKit
set_option linter.unusedSimpArgs false
set_option linter.unusedVariables false
def tt (a b : Int) : Int := min (ad a b) 1125899906842624
set_option maxHeartbeats 400000 in
theorem total_any (a b : Int) (w : World) : Calls Tryz.prog 205 #[.int .i64 a, .int .i64 b] w fun e w' => e = .returned (.int .i64 (tt a b)) ∧ w' = w := by
  unfold tt
  go_enter Tryz.func205, Tryz.ntmps205
  go_wp2_with (go_at_call 170; refine (add_any _ _ _).mono ?_; rintro e w' ⟨rfl, hw'⟩; subst w')
  all_goals
    go_ret
    exact ⟨ret_int (by omega), rfl⟩
def un (a b : Int) : Bool := decide (b + 1 < a) || decide (a + 1 < b)
set_option maxHeartbeats 1000000 in
theorem unlike_any (a b : Int) (w : World) (ha : -1000 ≤ a ∧ a ≤ 1000) (hb : -1000 ≤ b ∧ b ≤ 1000) : Calls Tryz.prog 216 #[.int .i64 a, .int .i64 b] w fun e w' => e = .returned (.bool (un a b)) ∧ w' = w := by
  unfold un
  by_cases h : a ≤ b
  all_goals
    go_enter Tryz.func216, Tryz.ntmps216
    go_wp2
    go_ret
    exact ⟨ret_bool (by rw [Bool.eq_iff_iff]; simp only [IntKind.wrap_u64, decide_eq_true_eq, Bool.or_eq_true]; omega), rfl⟩
def cst (s : Stg) (f : Ft) (x : Itm) (ahead : Int) (flag last : Bool) : Int :=
  if f.over = true then 1125899906842624 else
    min (if (flag && last) = true then ad (if (flag && x.flag) = true then ad (if (decide (0 ≤ ahead) && un ahead f.cls) = true then ad (dm s.l f.bad x.c) s.a else dm s.l f.bad x.c) s.d else (if (decide (0 ≤ ahead) && un ahead f.cls) = true then ad (dm s.l f.bad x.c) s.a else dm s.l f.bad x.c)) s.z
      else (if (flag && x.flag) = true then ad (if (decide (0 ≤ ahead) && un ahead f.cls) = true then ad (dm s.l f.bad x.c) s.a else dm s.l f.bad x.c) s.d else (if (decide (0 ≤ ahead) && un ahead f.cls) = true then ad (dm s.l f.bad x.c) s.a else dm s.l f.bad x.c))) 1125899906842624
set_option maxRecDepth 100000 in
set_option maxHeartbeats 8000000 in
theorem cost_any (s : Stg) (f : Ft) (x : Itm) (ahead : Int) (flag last : Bool) (w : World) (ha : -1000 ≤ ahead ∧ ahead ≤ 1000) (hb : -1000 ≤ f.cls ∧ f.cls ≤ 1000) :
    Calls Tryz.prog 206 #[s.val, f.val, x.val, .agg #[.int .i64 ahead, .bool flag], .bool last] w fun e w' => e = .returned (.int .i64 (cst s f x ahead flag last)) ∧ Below w.heap.size w w' := by
  have HU := fun w => unlike_any ahead f.cls w ha hb
  obtain ⟨s1, s2, s3, s4, s5, s6, s7⟩ := s
  obtain ⟨f1, f2, f3, f4, f5⟩ := f
  obtain ⟨x1, x2, x3, x4, x5, x6, x7, x8, x9⟩ := x
  simp only at HU hb
  generalize HC : cst _ _ _ _ _ _ = C at *
  replace HC := boxed HC
  unfold Stg.val Ft.val Itm.val
  simp only
  cases f5
  rotate_left
  · go_enter Tryz.func206, Tryz.ntmps206
    go_wp2_with fail
    go_ret
    exact ⟨ret_int (by rw [← HC.out]; rfl), by go_grown⟩
  have hd := fun w => demerits_any s2 f3 x6 w
  obtain ⟨D, hD⟩ : ∃ D, dm s2 f3 x6 = D := ⟨_, rfl⟩
  rw [hD] at hd
  replace hD := boxed hD
  obtain ⟨u, hu⟩ : ∃ u, un ahead f4 = u := ⟨_, rfl⟩
  rw [hu] at HU
  replace hu := boxed hu
  cases flag
  all_goals cases x7
  all_goals cases last
  all_goals cases u
  all_goals by_cases h0 : 0 ≤ ahead
  all_goals
    go_enter Tryz.func206, Tryz.ntmps206
    go_wp2_with (first | (go_at_call 215; refine (hd _).mono ?_; rintro e w' ⟨rfl, n, rfl⟩) | (go_at_call 216; refine (HU _).mono ?_; rintro e w' ⟨rfl, hw'⟩; subst w') | (go_at_call 170; refine (add_any _ _ _).mono ?_; rintro e w' ⟨rfl, hw'⟩; subst w'))
    go_ret
    refine ⟨ret_int ?_, Below.trans (by go_grown) (bel_drewN _ _ _)⟩
    rw [← HC.out]
    have hD := hD.out
    have hu := hu.out
    first | (simp [cst, hD, hu, h0]; done) | (have h1 : ¬ 0 ≤ ahead := by omega
                                              simp [cst, hD, hu, h1]; done)
end Go.Proofs.YtcjcdpfjnomehaaGreat

/-
  Ways through breaks in plain words: what a way costs, which one is best, and how the best one follows from the rests behind each break. No program in it.
-/
namespace Go.Proofs.YtcjcdpfjnomehaaGreat
set_option linter.unusedSimpArgs false
set_option linter.unusedVariables false
abbrev Awf : Int := 1125899906842624
theorem tt_sum (a b : Int) (ha : 0 ≤ a) (hb : 0 ≤ b) : tt a b = min (a + b) Awf := by
  unfold tt ad cl
  repeat' split
  all_goals (unfold Awf; omega)
structure Pr where
  m : Nat
  dz : Nat → Nat → Bool
  kl : Nat → Nat → Int
  ct : Nat → Nat → Int → Int
  fo : Nat → Bool
def mayL (P : Pr) (i j : Nat) : Bool := decide (i ≤ j) && decide (j < P.m) && P.dz i j && decide (∀ k, k < j → i ≤ k → P.fo k = false)
theorem mayL_iff (P : Pr) (i j : Nat) : mayL P i j = true ↔ i ≤ j ∧ j < P.m ∧ P.dz i j = true ∧ ∀ k, k < j → i ≤ k → P.fo k = false := by
  simp [mayL, and_assoc]
def cw (P : Pr) : Nat → Int → List Nat → Option Int
  | i, _, [] => if i = P.m then some 0 else none
  | i, a, j :: t => if mayL P i j = true then (cw P (j + 1) (P.kl i j) t).map (fun c => tt (P.ct i j a) c) else none
def lle : List Nat → List Nat → Bool
  | [], _ => true
  | _ :: _, [] => false
  | x :: s, y :: t => decide (x < y) || (decide (x = y) && lle s t)
theorem lle_anti (s t : List Nat) (h1 : lle s t = true) (h2 : lle t s = true) : s = t := by
  induction s generalizing t with
  | nil => cases t with
    | nil => rfl
    | cons y t => simp [lle] at h2
  | cons x s ih => cases t with
    | nil => simp [lle] at h1
    | cons y t =>
      simp [lle] at h1 h2
      have : x = y := by omega
      subst this
      simp at h1 h2
      rw [ih t h1 h2]
def Bnd (P : Pr) : Prop := P.m ≤ 262144 ∧ ∀ i j a, mayL P i j = true → 0 ≤ P.ct i j a ∧ P.ct i j a ≤ 536870912
theorem cw_bnd (P : Pr) (hB : Bnd P) (l : List Nat) : ∀ (i : Nat) (a c : Int), cw P i a l = some c → i ≤ P.m ∧ 0 ≤ c ∧ c ≤ ((P.m - i : Nat) : Int) * 536870912 := by
  induction l with
  | nil =>
    intro i a c h
    simp only [cw] at h
    split at h
    · injection h with h; subst h; rename_i e; subst e; simp
    · cases h
  | cons j t ih =>
    intro i a c h
    simp only [cw] at h
    split at h
    · rename_i hs
      obtain ⟨h1, h2, -⟩ := (mayL_iff P i j).1 hs
      cases hr : cw P (j + 1) (P.kl i j) t with
      | none => rw [hr] at h; cases h
      | some r =>
        rw [hr] at h
        simp only [Option.map_some, Option.some.injEq] at h
        have h3 := ih _ _ _ hr
        have h4 := hB.2 i j a hs
        rw [tt_sum _ _ h4.1 h3.2.1] at h
        unfold Awf at h
        have h5 := hB.1
        refine ⟨by omega, by omega, by omega⟩
    · cases h
theorem cw_less (P : Pr) (hB : Bnd P) (l : List Nat) (i : Nat) (a c : Int) (h : cw P i a l = some c) : 0 ≤ c ∧ c ≤ 140737488355328 := by
  have h1 := cw_bnd P hB l i a c h
  have h2 := hB.1
  omega
theorem cw_cons (P : Pr) (i j : Nat) (a c : Int) (t : List Nat) (h : cw P i a (j :: t) = some c) : mayL P i j = true ∧ ∃ r, cw P (j + 1) (P.kl i j) t = some r ∧ c = tt (P.ct i j a) r := by
  simp only [cw] at h
  split at h
  · rename_i hs
    cases hr : cw P (j + 1) (P.kl i j) t with
    | none => rw [hr] at h; cases h
    | some r => rw [hr] at h; simp only [Option.map_some, Option.some.injEq] at h; exact ⟨hs, r, rfl, h.symm⟩
  · cases h
theorem cw_mk (P : Pr) (i j : Nat) (a r : Int) (t : List Nat) (hs : mayL P i j = true) (h : cw P (j + 1) (P.kl i j) t = some r) : cw P i a (j :: t) = some (tt (P.ct i j a) r) := by
  simp only [cw]
  rw [if_pos hs, h]
  rfl
def Best (P : Pr) (i : Nat) (a c : Int) (l : List Nat) : Prop := cw P i a l = some c ∧ ∀ l' c', cw P i a l' = some c' → c < c' ∨ (c = c' ∧ lle l l' = true)
theorem Best.one {P : Pr} {i : Nat} {a c c' : Int} {l l' : List Nat} (h : Best P i a c l) (h' : Best P i a c' l') : c = c' ∧ l = l' := by
  have h1 := h.2 _ _ h'.1
  have h2 := h'.2 _ _ h.1
  have : c = c' := by omega
  refine ⟨this, lle_anti _ _ ?_ ?_⟩
  · rcases h1 with h1 | h1; omega; exact h1.2
  · rcases h2 with h2 | h2; omega; exact h2.2
def Noway (P : Pr) (i : Nat) (a : Int) : Prop := ∀ l, cw P i a l = none
theorem noway_some {P : Pr} {i : Nat} {a c : Int} {l : List Nat} (h : Noway P i a) (h' : cw P i a l = some c) : False := by rw [h l] at h'; cases h'
def Rst (P : Pr) (i : Nat) (a c : Int) (nx : Nat) : Prop := (c = Awf ∧ Noway P i a) ∨ (c < Awf ∧ i = P.m ∧ c = 0) ∨ (c < Awf ∧ i < P.m ∧ ∃ t, Best P i a c (nx :: t))
theorem rst_end (P : Pr) (a : Int) (nx : Nat) : Rst P P.m a 0 nx := .inr (.inl ⟨by unfold Awf; omega, rfl, rfl⟩)
theorem best_end (P : Pr) (a : Int) : Best P P.m a 0 [] := by
  refine ⟨by simp [cw], fun l' c' h => ?_⟩
  cases l' with
  | nil => simp [cw] at h; exact .inr ⟨h, rfl⟩
  | cons j t =>
    obtain ⟨hs, -⟩ := cw_cons P _ _ _ _ _ h
    have := (mayL_iff P _ _).1 hs
    omega
theorem rst_best {P : Pr} {i : Nat} {a c : Int} {nx : Nat} (h : Rst P i a c nx) (hc : c ≠ Awf) : ∃ t, Best P i a c t ∧ (i < P.m → ∃ t', t = nx :: t') := by
  rcases h with h | h | h
  · exact absurd h.1 hc
  · obtain ⟨-, rfl, rfl⟩ := h
    exact ⟨[], best_end P a, fun h => absurd h (by omega)⟩
  · obtain ⟨-, -, t, ht⟩ := h
    exact ⟨_, ht, fun _ => ⟨t, rfl⟩⟩
theorem rst_bnd {P : Pr} (hB : Bnd P) {i : Nat} {a c : Int} {nx : Nat} (h : Rst P i a c nx) : c = Awf ∨ (0 ≤ c ∧ c ≤ 140737488355328) := by
  by_cases hc : c = Awf
  · exact .inl hc
  · obtain ⟨t, ht, -⟩ := rst_best h hc
    exact .inr (cw_less P hB _ _ _ _ ht.1)
theorem rst_step (P : Pr) (hB : Bnd P) (i : Nat) (hi : i < P.m) (a : Int) (r : Nat → Int) (nx : Nat → Nat)
    (hr : ∀ j, mayL P i j = true → Rst P (j + 1) (P.kl i j) (r j) (nx j)) (c : Int) (b : Nat)
    (h : (c = Awf ∧ ∀ j, mayL P i j = true → r j = Awf) ∨ (mayL P i b = true ∧ r b ≠ Awf ∧ c = tt (P.ct i b a) (r b) ∧ ∀ j, mayL P i j = true → r j ≠ Awf → c < tt (P.ct i j a) (r j) ∨ (c = tt (P.ct i j a) (r j) ∧ b ≤ j))) : Rst P i a c b := by
  rcases h with ⟨h1, h2⟩ | ⟨h1, h2, h3, h4⟩
  · refine .inl ⟨h1, fun l => ?_⟩
    cases hc : cw P i a l with
    | none => rfl
    | some c' =>
      exfalso
      cases l with
      | nil => simp only [cw] at hc; rw [if_neg (by omega)] at hc; cases hc
      | cons j t =>
        obtain ⟨hs, q, hq, -⟩ := cw_cons P _ _ _ _ _ hc
        have h5 := hr j hs
        rw [h2 j hs] at h5
        rcases h5 with h5 | h5 | h5
        · exact noway_some h5.2 hq
        · exact absurd h5.1 (Int.lt_irrefl _)
        · exact absurd h5.1 (Int.lt_irrefl _)
  · obtain ⟨t, ht, -⟩ := rst_best (hr b h1) h2
    have hc := cw_mk P i b a _ t h1 ht.1
    have hl := cw_less P hB _ _ _ _ hc
    refine .inr (.inr ⟨by unfold Awf; omega, hi, t, by rw [h3]; exact hc, fun l' c' hc' => ?_⟩)
    cases l' with
    | nil => simp only [cw] at hc'; rw [if_neg (by omega)] at hc'; cases hc'
    | cons j t' =>
      obtain ⟨hs, q, hq, e⟩ := cw_cons P _ _ _ _ _ hc'
      by_cases hn : r j = Awf
      · exfalso
        have h5 := hr j hs
        rw [hn] at h5
        rcases h5 with h5 | h5 | h5
        · exact noway_some h5.2 hq
        · exact absurd h5.1 (Int.lt_irrefl _)
        · exact absurd h5.1 (Int.lt_irrefl _)
      · obtain ⟨t2, ht2, -⟩ := rst_best (hr j hs) hn
        have h6 := ht2.2 _ _ hq
        have h7 := h4 j hs hn
        have b1 := hB.2 i j a hs
        have b2 := cw_less P hB _ _ _ _ hq
        have b3 := cw_less P hB _ _ _ _ ht2.1
        rw [tt_sum _ _ b1.1 b2.1] at e
        rw [tt_sum _ _ b1.1 b3.1] at h7
        unfold Awf at e h7
        by_cases hcc : c = c'
        · refine .inr ⟨hcc, ?_⟩
          have hbj : b ≤ j := by omega
          simp only [lle, Bool.or_eq_true, Bool.and_eq_true, decide_eq_true_eq]
          by_cases hbe : b = j
          · subst hbe
            refine .inr ⟨rfl, ?_⟩
            obtain ⟨e1, e2⟩ := ht.one ht2
            subst e2
            rcases h6 with h6 | h6
            · omega
            · exact h6.2
          · exact .inl (by omega)
        · exact .inl (by omega)
theorem best_tail (P : Pr) (hB : Bnd P) (i j : Nat) (a c : Int) (t : List Nat) (h : Best P i a c (j :: t)) : mayL P i j = true ∧ ∃ r, Best P (j + 1) (P.kl i j) r t ∧ c = tt (P.ct i j a) r := by
  obtain ⟨hs, r, hr, e⟩ := cw_cons P _ _ _ _ _ h.1
  refine ⟨hs, r, ⟨hr, fun l' c' hc' => ?_⟩, e⟩
  have h2 := h.2 _ _ (cw_mk P i j a c' l' hs hc')
  have b1 := hB.2 i j a hs
  have b2 := cw_less P hB _ _ _ _ hr
  have b3 := cw_less P hB _ _ _ _ hc'
  rw [tt_sum _ _ b1.1 b2.1] at e
  rw [tt_sum _ _ b1.1 b3.1] at h2
  unfold Awf at e h2
  rcases h2 with h2 | ⟨h2, h3⟩
  · exact .inl (by omega)
  · by_cases hx : r = c'
    · refine .inr ⟨hx, ?_⟩
      simp [lle] at h3
      exact h3
    · exact .inl (by omega)
end Go.Proofs.YtcjcdpfjnomehaaGreat

/-
  Settings: what the program's within and Check and the document's Settings answer; which sums and widths the statements call fair.
-/
namespace Go.Proofs.YtcjcdpfjnomehaaGreat
open Go.RowKit
set_option linter.unusedSimpArgs false
set_option linter.unusedVariables false
def wi (n a b : Int) : Bool := decide (a ≤ n) && decide (n ≤ b)
theorem within_any (n a b : Int) (w : World) : Calls Tryz.prog 137 #[.int .i64 n, .int .i64 a, .int .i64 b] w fun e w' => e = .returned (.bool (wi n a b)) ∧ w' = w := by
  unfold wi
  by_cases h : a ≤ n
  all_goals
    go_enter Tryz.func137, Tryz.ntmps137
    go_wp2
    go_ret
    exact ⟨ret_bool (by first | (simp [h]; done) | (simp [h]; omega)), rfl⟩
def okS (s : Stg) : Bool := (wi s.t 0 10000 && wi s.l 0 10000) && ((wi s.a 0 1048576 && wi s.d 0 1048576) && wi s.z 0 1048576) && (wi s.o 1 100 && wi s.i 1 100)
set_option maxRecDepth 100000 in
set_option maxHeartbeats 8000000 in
theorem check_any (s : Stg) (w : World) : Calls Tryz.prog 92 #[s.val] w fun e w' => e = .returned (.int .i64 (if okS s = true then 0 else 80)) ∧ Below w.heap.size w w' := by
  unfold okS Stg.val
  obtain ⟨t, l, a, d, z, o, i⟩ := s
  simp only
  have c1 := fun w => within_any t 0 10000 w
  have c2 := fun w => within_any l 0 10000 w
  have c3 := fun w => within_any a 0 1048576 w
  have c4 := fun w => within_any d 0 1048576 w
  have c5 := fun w => within_any z 0 1048576 w
  have c6 := fun w => within_any o 1 100 w
  have c7 := fun w => within_any i 1 100 w
  generalize wi t 0 10000 = b1 at *
  generalize wi l 0 10000 = b2 at *
  generalize wi a 0 1048576 = b3 at *
  generalize wi d 0 1048576 = b4 at *
  generalize wi z 0 1048576 = b5 at *
  generalize wi o 1 100 = b6 at *
  generalize wi i 1 100 = b7 at *
  cases b1 <;> cases b2
  all_goals
    go_enter Tryz.func92, Tryz.ntmps92
    go_wp2_with (go_at_call 137; (first | (with_reducible refine (c1 _).mono ?_) | (with_reducible refine (c2 _).mono ?_) | (with_reducible refine (c3 _).mono ?_) | (with_reducible refine (c4 _).mono ?_) | (with_reducible refine (c5 _).mono ?_) | (with_reducible refine (c6 _).mono ?_) | (with_reducible refine (c7 _).mono ?_)); rintro e w' ⟨rfl, hw'⟩; subst w')
    all_goals
      go_ret
      exact ⟨ret_int (by simp_all), by go_grown⟩
def frS (s : Sm) (width : Int) : Bool := wi s.w (-144115188075855872) 144115188075855872 && wi s.st 0 144115188075855872 && wi s.sh 0 144115188075855872 && wi width (-144115188075855872) 144115188075855872
end Go.Proofs.YtcjcdpfjnomehaaGreat
