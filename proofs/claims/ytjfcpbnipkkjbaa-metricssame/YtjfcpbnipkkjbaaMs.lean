/-
  Whether two tables are alike, as the program's Same answers it, with alike and the library's Equal and EqualFunc.
-/
import Derived.Test.YtjfcpbnipkkjbaaMq
import Derived.Test.YtjfcpbnipkkjbaaMi
namespace Go.Proofs.Ytjfcpbnipkkjbaa
open Go.RowKit
set_option linter.unusedSimpArgs false
set_option linter.unusedVariables false

set_option maxRecDepth 100000 in
set_option maxHeartbeats 2000000 in
theorem slicesEqual_any (S : Nat → Prop) (ra ra' : Option Addr) (rn rc rn' rc' : Nat) (R R' : Nat → Rg) (w : World) (h1 : RgsAt S w ra rn R) (h2 : RgsAt S w ra' rn' R') (hn : rn * 24 ≤ 140737488351232) :
    Calls Try.prog 54 #[.slice ra rn rc, .slice ra' rn' rc'] w fun e w' => e = .returned (.bool (decide (rn = rn') && eqR R R' rn)) ∧ Below w.heap.size w w' := by
  by_cases hnm : rn = rn'
  · subst hnm
    have HV : Box ((decide (rn = rn) && eqR R R' rn) = eqR R R' rn) := boxed (by simp)
    generalize (decide (rn = rn) && eqR R R' rn) = V at *
    have H1 := boxed h1
    have H2 := boxed h2
    clear h1 h2
    have tn : ((rn : Int) != (rn : Int)) = false := by simp
    go_enter Try.func54, Try.ntmps54
    go_wp2
    go_loopw [5, 13] (fun _ i wr => ∃ k : Nat, k ≤ rn ∧ i = .int .i64 (k : Int) ∧ Box (eqR R R' k = true) ∧ Box (Below w.heap.size w wr)) (fun _ i _ => rn - (intOf i).toNat)
    case atStart => exact ⟨0, Nat.zero_le _, rfl, boxed rfl, boxed (Below.refl _ _)⟩
    case round =>
      obtain ⟨j, hj, rfl, HR, HB⟩ := hrel
      by_cases hjl : j < rn
      · obtain ⟨-, p1, f1, e1, -, u0, u1, u2⟩ := (H1.out.below HB.out) j hjl
        obtain ⟨-, p2, f2, e2, -, v0, v1, v2⟩ := (H2.out.below HB.out) j hjl
        subst e1; subst e2
        have t2 : decide ((j : Int) < (rn : Int)) = true := decide_eq_true (by omega)
        have HG : Box (eqR R R' (j + 1) = (eqR R R' j && eqG (R j) (R' j))) := boxed rfl
        have HS := boxed (fun h => eqR_stop R R' (j + 1) rn h (by omega))
        generalize R j = r at *
        generalize R' j = r' at *
        obtain ⟨lo, hi, wd⟩ := r
        obtain ⟨lo', hi', wd'⟩ := r'
        simp only at *
        have hgd := guardRange
        have heq := fun w => eqRange lo hi wd lo' hi' wd' w
        have hne := fun w => neqRange lo hi wd lo' hi' wd' w
        have HGG : Box (eqG ⟨lo, hi, wd⟩ ⟨lo', hi', wd'⟩ = (lo == lo' && hi == hi' && wd == wd')) := boxed rfl
        cases hB : (lo == lo' && hi == hi' && wd == wd') with
        | true =>
          rw [hB] at heq hne
          have HN : Box (eqR R R' (j + 1) = true) := boxed (by rw [HG.out, HR.out, HGG.out, hB]; rfl)
          clear hB
          go_wp2
          go_quiet (fail)
          go_wp2
          go_roundw
          case rel => exact ⟨j + 1, by omega, by go_num, HN, boxed (HB.out.trans (bel_drewN _ _ _))⟩
          case measure => simp [intOf]; omega
        | false =>
          rw [hB] at heq hne
          have HX : Box (V = false) := boxed (by rw [HV.out]; exact HS.out (by rw [HG.out, HGG.out, hB]; simp))
          clear hB
          go_wp2
          go_quiet (fail)
          go_wp2
          go_ret
          exact ⟨ret_bool HX.out.symm, HB.out.trans (bel_drewN _ _ _)⟩
      · have e : j = rn := by omega
        subst e
        have t2 : decide ((j : Int) < (j : Int)) = false := decide_eq_false (by omega)
        go_wp2
        go_ret
        exact ⟨ret_bool (by rw [HV.out, HR.out]), HB.out⟩
  · have tn : ((rn : Int) != (rn' : Int)) = true := by rw [bne_iff_ne]; omega
    have tn2 : (rn != rn') = true := by rw [bne_iff_ne]; exact hnm
    have tn3 : ((rn : Int) == (rn' : Int)) = false := by rw [beq_eq_false_iff_ne]; omega
    have HV : Box ((decide (rn = rn') && eqR R R' rn) = false) := boxed (by simp [hnm])
    clear h1 h2
    go_enter Try.func54, Try.ntmps54
    go_wp2
    go_ret
    exact ⟨ret_bool HV.out.symm, Below.refl _ _⟩

set_option maxRecDepth 100000 in
set_option maxHeartbeats 2000000 in
theorem alike_any (S : Nat → Prop) (s g : Sty) (w : World) (hs : StyOk s) (h1 : RgsAt S w s.ra s.rn s.R) (h2 : RgsAt S w g.ra g.rn g.R) :
    Calls Try.prog 42 #[s.val, g.val] w fun e w' => e = .returned (.bool (eqS s g)) ∧ Below w.heap.size w w' := by
  have HE := boxed (fun w' (hb : Below w.heap.size w w') => slicesEqual_any S s.ra g.ra s.rn s.rc g.rn g.rc s.R g.R w' (h1.below hb) (h2.below hb) hs.rn.2)
  clear h1 h2 hs
  unfold Sty.val
  have HV : Box (eqS s g = (eqM s g && eqR s.R g.R s.rn)) := boxed rfl
  generalize eqS s g = V at *
  obtain ⟨h, sp, st, sh, hy, ot, ra, rn, rc, kp, R⟩ := s
  obtain ⟨h', sp', st', sh', hy', ot', ra', rn', rc', kp', R'⟩ := g
  simp only at *
  by_cases qh : h = h'
  rotate_left
  · have HX : Box (V = false) := boxed (by rw [HV.out]; unfold eqM; simp [qh])
    have nh : (h == h') = false := by simpa using qh
    clear qh HV HE
    go_enter Try.func42, Try.ntmps42
    go_wp2
    go_ret
    exact ⟨ret_bool HX.out.symm, by go_grown⟩
  have nh : (h == h') = true := by simpa using qh
  have Qh := boxed qh
  clear qh
  by_cases qsp : sp = sp'
  rotate_left
  · have HX : Box (V = false) := boxed (by rw [HV.out]; unfold eqM; simp [qsp])
    have nsp : (sp == sp') = false := by simpa using qsp
    clear qsp HV HE
    go_enter Try.func42, Try.ntmps42
    go_wp2
    go_ret
    exact ⟨ret_bool HX.out.symm, by go_grown⟩
  have nsp : (sp == sp') = true := by simpa using qsp
  have Qsp := boxed qsp
  clear qsp
  by_cases qst : st = st'
  rotate_left
  · have HX : Box (V = false) := boxed (by rw [HV.out]; unfold eqM; simp [qst])
    have nst : (st == st') = false := by simpa using qst
    clear qst HV HE
    go_enter Try.func42, Try.ntmps42
    go_wp2
    go_ret
    exact ⟨ret_bool HX.out.symm, by go_grown⟩
  have nst : (st == st') = true := by simpa using qst
  have Qst := boxed qst
  clear qst
  by_cases qsh : sh = sh'
  rotate_left
  · have HX : Box (V = false) := boxed (by rw [HV.out]; unfold eqM; simp [qsh])
    have nsh : (sh == sh') = false := by simpa using qsh
    clear qsh HV HE
    go_enter Try.func42, Try.ntmps42
    go_wp2
    go_ret
    exact ⟨ret_bool HX.out.symm, by go_grown⟩
  have nsh : (sh == sh') = true := by simpa using qsh
  have Qsh := boxed qsh
  clear qsh
  by_cases qhy : hy = hy'
  rotate_left
  · have HX : Box (V = false) := boxed (by rw [HV.out]; unfold eqM; simp [qhy])
    have nhy : (hy == hy') = false := by simpa using qhy
    clear qhy HV HE
    go_enter Try.func42, Try.ntmps42
    go_wp2
    go_ret
    exact ⟨ret_bool HX.out.symm, by go_grown⟩
  have nhy : (hy == hy') = true := by simpa using qhy
  have Qhy := boxed qhy
  clear qhy
  by_cases qot : ot = ot'
  rotate_left
  · have HX : Box (V = false) := boxed (by rw [HV.out]; unfold eqM; simp [qot])
    have not : (ot == ot') = false := by simpa using qot
    clear qot HV HE
    go_enter Try.func42, Try.ntmps42
    go_wp2
    go_ret
    exact ⟨ret_bool HX.out.symm, by go_grown⟩
  have not : (ot == ot') = true := by simpa using qot
  have Qot := boxed qot
  clear qot
  by_cases qk : kp = kp'
  rotate_left
  · have HX : Box (V = false) := boxed (by rw [HV.out]; unfold eqM; simp [qk])
    clear HV HE
    rcases (show (kp = true ∧ kp' = false) ∨ (kp = false ∧ kp' = true) by revert qk; cases kp <;> cases kp' <;> simp) with ⟨rfl, rfl⟩ | ⟨rfl, rfl⟩
    all_goals clear qk
    all_goals (go_enter Try.func42, Try.ntmps42)
    all_goals (go_wp2)
    all_goals (go_ret)
    all_goals (exact ⟨ret_bool HX.out.symm, by go_grown⟩)
  subst qk
  have nk : (kp == kp) = true := by simp
  have HM : Box (eqM ⟨h, sp, st, sh, hy, ot, ra, rn, rc, kp, R⟩ ⟨h', sp', st', sh', hy', ot', ra', rn', rc', kp, R'⟩ = decide (rn = rn')) := boxed (by unfold eqM; simp [Qh.out, Qsp.out, Qst.out, Qsh.out, Qhy.out, Qot.out])
  have HX : Box (V = (decide (rn = rn') && eqR R R' rn)) := boxed (by rw [HV.out, HM.out])
  clear HV HM
  generalize (decide (rn = rn') && eqR R R' rn) = E at *
  go_enter Try.func42, Try.ntmps42
  go_wp2_with fail
  refine (HE.out _ (by go_grown)).mono ?_
  rintro e w1 ⟨rfl, hb1⟩
  have HB : Box (Below w.heap.size w w1) := boxed (below_step (by go_grown) (Nat.le_refl _) hb1)
  clear hb1 HE
  go_wp2
  go_ret
  exact ⟨ret_bool (by rw [HX.out]; try simp), HB.out⟩

set_option maxRecDepth 100000 in
set_option maxHeartbeats 2000000 in
theorem equalFunc_any (S : Nat → Prop) (a1 : Option Addr) (n c1 : Nat) (F : Nat → Sty) (a2 : Option Addr) (m c2 : Nat) (G : Nat → Sty) (w : World) (h1 : StysAt S w a1 n F) (h2 : StysAt S w a2 m G) (hn : n ≤ 32) :
    Calls Try.prog 41 #[.slice a1 n c1, .slice a2 m c2, .func (.func 42) #[] #[]] w fun e w' => e = .returned (.bool (sameS F n G m)) ∧ Below w.heap.size w w' := by
  by_cases hnm : n = m
  · subst hnm
    have HV : Box (sameS F n G n = eqF F G n) := boxed (by unfold sameS; simp)
    generalize sameS F n G n = V at *
    have H1 := boxed h1
    have H2 := boxed h2
    clear h1 h2
    have tn : ((n : Int) != (n : Int)) = false := by simp
    go_enter Try.func41, Try.ntmps41
    go_wp2
    go_loopw [7, 8, 9, 17] (fun _ _ _ i wr => ∃ k : Nat, k ≤ n ∧ i = .int .i64 (k : Int) ∧ Box (eqF F G k = true) ∧ Box (Below w.heap.size w wr)) (fun _ _ _ i _ => n - (intOf i).toNat)
    case atStart => exact ⟨0, Nat.zero_le _, rfl, boxed rfl, boxed (Below.refl _ _)⟩
    case round =>
      obtain ⟨k, hk, rfl, HE, HB⟩ := hrel
      by_cases hlt : k < n
      · obtain ⟨ok1, rg1, b1, o1, e1, -, x0, x1, x2, x3, x4, x5, x6, x7⟩ := (H1.out.below HB.out) k hlt
        obtain ⟨ok2, rg2, b2, o2, e2, -, y0, y1, y2, y3, y4, y5, y6, y7⟩ := (H2.out.below HB.out) k hlt
        subst e1; subst e2
        have hb1 : b1 < wr.heap.size := World.block_lt_of_cell? wr _ x0
        have hb2 : b2 < wr.heap.size := World.block_lt_of_cell? wr _ y0
        have nb1 : b1 ≠ wr.heap.size := by omega
        have nb2 : b2 ≠ wr.heap.size := by omega
        have hz := HB.out.size
        have t1 : decide ((k : Int) < (n : Int)) = true := decide_eq_true (by omega)
        have HS : Box (eqF F G (k + 1) = (eqF F G k && eqS (F k) (G k))) := boxed rfl
        have HST := boxed (fun h => eqF_stop F G (k + 1) n h (by omega))
        have HA := boxed (fun w' (hb : Below wr.heap.size wr w') => alike_any S (F k) (G k) w' ok1 (rg1.below hb) (rg2.below hb))
        simp only [Sty.val] at HA
        clear ok1 ok2 rg1 rg2
        generalize F k = s at *
        generalize G k = g at *
        generalize eqS s g = E at *
        go_wp2_with fail
        refine (HA.out _ (by go_grown)).mono ?_
        rintro e w1 ⟨rfl, hb1⟩
        have HB1 : Box (Below w.heap.size w w1) := boxed (below_step ((HB.out.alloc hz _).alloc (by simp; omega) _) (Nat.le_refl _) hb1)
        clear hb1 HA x0 x1 x2 x3 x4 x5 x6 x7 y0 y1 y2 y3 y4 y5 y6 y7
        cases E with
        | true =>
          have HN : Box (eqF F G (k + 1) = true) := boxed (by rw [HS.out, HE.out]; rfl)
          go_wp2
          go_roundw
          case rel => exact ⟨k + 1, by omega, by go_num, HN, HB1⟩
          case measure => simp [intOf]; omega
        | false =>
          have HX : Box (V = false) := boxed (by rw [HV.out]; exact HST.out (by rw [HS.out]; simp))
          go_wp2
          go_ret
          exact ⟨ret_bool HX.out.symm, HB1.out⟩
      · have e : k = n := by omega
        subst e
        have t1 : decide ((k : Int) < (k : Int)) = false := decide_eq_false (by omega)
        go_wp2
        go_ret
        exact ⟨ret_bool (by rw [HV.out, HE.out]), HB.out⟩
  · have tn : ((n : Int) != (m : Int)) = true := by rw [bne_iff_ne]; omega
    have tn2 : (n != m) = true := by rw [bne_iff_ne]; exact hnm
    have tn3 : ((n : Int) == (m : Int)) = false := by rw [beq_eq_false_iff_ne]; omega
    have HV : Box (sameS F n G m = false) := boxed (by unfold sameS; simp [hnm])
    clear h1 h2
    go_enter Try.func41, Try.ntmps41
    go_wp2
    go_ret
    exact ⟨ret_bool HV.out.symm, Below.refl _ _⟩

set_option maxRecDepth 100000 in
theorem same_none (w : World) : Calls Try.prog 31 #[.pointer none, .pointer none] w fun e w' => e = .returned (.bool true) ∧ Below w.heap.size w w' := by
  go_enter Try.func31, Try.ntmps31
  go_wp2
  go_ret
  exact ⟨rfl, Below.refl _ _⟩
set_option maxRecDepth 100000 in
theorem same_left (w : World) (tb : Nat) : Calls Try.prog 31 #[.pointer none, .pointer (some ⟨tb, 0, none⟩)] w fun e w' => e = .returned (.bool false) ∧ Below w.heap.size w w' := by
  have he : ∀ w, (binOp .eql 24 (.pointer none) (.pointer (some ⟨tb, 0, none⟩))).run Try.prog w = .ok (.bool false) w := fun _ => by kernel_rfl
  go_enter Try.func31, Try.ntmps31
  go_wp2
  go_ret
  exact ⟨rfl, Below.refl _ _⟩
set_option maxRecDepth 100000 in
theorem same_right (w : World) (tb : Nat) : Calls Try.prog 31 #[.pointer (some ⟨tb, 0, none⟩), .pointer none] w fun e w' => e = .returned (.bool false) ∧ Below w.heap.size w w' := by
  have he : ∀ w, (binOp .eql 24 (.pointer (some ⟨tb, 0, none⟩)) (.pointer none)).run Try.prog w = .ok (.bool false) w := fun _ => by kernel_rfl
  go_enter Try.func31, Try.ntmps31
  go_wp2
  go_ret
  exact ⟨rfl, Below.refl _ _⟩
set_option maxRecDepth 100000 in
set_option maxHeartbeats 1000000 in
theorem same_any {B C : Nat} {w : World} {ta tc n m : Nat} {F G : Nat → Sty} (h1 : TabAt B w ta n F) (h2 : TabAt C w tc m G) :
    Calls Try.prog 31 #[.pointer (some ⟨ta, 0, none⟩), .pointer (some ⟨tc, 0, none⟩)] w fun e w' => e = .returned (.bool (sameS F n G m)) ∧ Below w.heap.size w w' := by
  obtain ⟨q1, b1, c1, s1⟩ := h1
  obtain ⟨q2, b2, c2, s2⟩ := h2
  have s1' : StysAt (fun _ => True) w (some ⟨b1, 0, none⟩) n F := s1.keep (fun b i u _ hc => ⟨trivial, hc⟩)
  have s2' : StysAt (fun _ => True) w (some ⟨b2, 0, none⟩) m G := s2.keep (fun b i u _ hc => ⟨trivial, hc⟩)
  have HE := boxed (fun w' (hb : Below w.heap.size w w') => equalFunc_any (fun _ => True) (some ⟨b1, 0, none⟩) n n F (some ⟨b2, 0, none⟩) m m G w' (s1'.below hb) (s2'.below hb) q1.2)
  have HC : Box (∀ w', Below w.heap.size w w' → w'.cell? ⟨ta, 0, none⟩ = some (.slice (some ⟨b1, 0, none⟩) n n) ∧ w'.cell? ⟨tc, 0, none⟩ = some (.slice (some ⟨b2, 0, none⟩) m m)) := boxed (fun w' hb => ⟨hold hb c1, hold hb c2⟩)
  have HB0 : Box (Below w.heap.size w w.drew) := boxed (Below.refl _ _).drew
  clear s1 s2 s1' s2' c1 c2
  generalize sameS F n G m = V at *
  go_enter Try.func31, Try.ntmps31
  go_wp2_with fail
  go_region_held3 (fun w' => w'.cell? ⟨ta, 0, none⟩ = some (.slice (some ⟨b1, 0, none⟩) n n) ∧ w'.cell? ⟨tc, 0, none⟩ = some (.slice (some ⟨b2, 0, none⟩) m m))
    (first | (with_reducible exact HC.out _ HB5.out) | (with_reducible exact HC.out _ HB0.out))
    (first | (go_at_call 41; refine (HE.out _ HB0.out).mono ?_; rintro e w5 ⟨rfl, hb5⟩; have HB5 := boxed (below_step HB0.out (Nat.le_refl _) hb5); clear HE hb5))
  go_wp2
  go_ret
  exact ⟨rfl, HB5.out⟩
end Go.Proofs.Ytjfcpbnipkkjbaa
