/-
  Whether two lists of styles are alike, as the document's Same answers it.
-/
import Derived.Test.YtjfcpbnipkkjbaaMr
import Derived.BigRegion
namespace Go.Proofs.Ytjfcpbnipkkjbaa
open Go.RowKit
set_option linter.unusedSimpArgs false
set_option linter.unusedVariables false

def eqG (a b : Rg) : Bool := (a.lo == b.lo && a.hi == b.hi && a.wd == b.wd)
/-- Are the first k ranges alike? -/
def eqR (R R' : Nat → Rg) : Nat → Bool
  | 0 => true
  | k + 1 => eqR R R' k && eqG (R k) (R' k)
/-- Are the measures alike, and the ranges as many? -/
def eqM (s g : Sty) : Bool := decide (s.h = g.h) && decide (s.sp = g.sp) && decide (s.st = g.st) && decide (s.sh = g.sh) && decide (s.hy = g.hy) && decide (s.ot = g.ot) && (s.keep == g.keep) && decide (s.rn = g.rn)
def eqS (s g : Sty) : Bool := eqM s g && eqR s.R g.R s.rn
/-- Are the first k styles alike? -/
def eqF (F G : Nat → Sty) : Nat → Bool
  | 0 => true
  | k + 1 => eqF F G k && eqS (F k) (G k)
def sameS (F : Nat → Sty) (n : Nat) (G : Nat → Sty) (m : Nat) : Bool := decide (n = m) && eqF F G n
theorem eqR_stop (R R' : Nat → Rg) (k n : Nat) (h : eqR R R' k = false) (hk : k ≤ n) : eqR R R' n = false := by
  induction n with
  | zero => have : k = 0 := by omega
            subst this; exact h
  | succ n ih =>
    by_cases c : k = n + 1
    · subst c; exact h
    · show (eqR R R' n && eqG (R n) (R' n)) = false
      rw [ih (by omega)]; rfl
theorem eqF_stop (F G : Nat → Sty) (k n : Nat) (h : eqF F G k = false) (hk : k ≤ n) : eqF F G n = false := by
  induction n with
  | zero => have : k = 0 := by omega
            subst this; exact h
  | succ n ih =>
    by_cases c : k = n + 1
    · subst c; exact h
    · show (eqF F G n && eqS (F n) (G n)) = false
      rw [ih (by omega)]; rfl

set_option maxRecDepth 100000 in
set_option maxHeartbeats 4000000 in
theorem refsame_any (S : Nat → Prop) (a1 : Option Addr) (n c1 : Nat) (F : Nat → Sty) (a2 : Option Addr) (m c2 : Nat) (G : Nat → Sty) (w : World) (h1 : StysAt S w a1 n F) (h2 : StysAt S w a2 m G) (hn : n ≤ maxLen) :
    Calls Try.prog 21 #[.slice a1 n c1, .slice a2 m c2] w fun e w' => e = .returned (.bool (sameS F n G m)) ∧ Below w.heap.size w w' := by
  by_cases hnm : n = m
  · subst hnm
    have HV : Box (sameS F n G n = eqF F G n) := boxed (by unfold sameS; simp)
    generalize sameS F n G n = V at *
    have H1 := boxed h1
    have H2 := boxed h2
    unfold maxLen at hn
    clear h1 h2
    have tn : ((n : Int) != (n : Int)) = false := by simp
    go_enter Try.func21, Try.ntmps21
    go_wp2
    go_loopw [5, 6, 7, 8] (fun i _ _ _ wr => ∃ k : Nat, k ≤ n ∧ i = .int .i64 (k : Int) ∧ Box (eqF F G k = true) ∧ Box (Below w.heap.size w wr)) (fun i _ _ _ _ => n - (intOf i).toNat)
    case atStart => exact ⟨0, Nat.zero_le _, rfl, boxed rfl, boxed (Below.refl _ _)⟩
    case round =>
      obtain ⟨k, hk, rfl, HE, HB⟩ := hrel
      by_cases hlt : k < n
      · obtain ⟨ok1, rg1, b1, o1, e1, -, x0, x1, x2, x3, x4, x5, x6, x7⟩ := (H1.out.below HB.out) k hlt
        obtain ⟨ok2, rg2, b2, o2, e2, -, y0, y1, y2, y3, y4, y5, y6, y7⟩ := (H2.out.below HB.out) k hlt
        subst e1; subst e2
        have hb1 : b1 < wr.heap.size := World.block_lt_of_cell? wr _ x0
        have hb2 : b2 < wr.heap.size := World.block_lt_of_cell? wr _ y0
        have nb1 : b1 ≠ wr.heap.size := by omega
        have nb2 : b2 ≠ wr.heap.size := by omega
        have t1 : decide ((k : Int) < (n : Int)) = true := decide_eq_true (by omega)
        have HS : Box (eqF F G (k + 1) = (eqF F G k && eqS (F k) (G k))) := boxed rfl
        generalize F k = s at *
        generalize G k = g at *
        have HFV : Box (eqS s g = false → V = false) := boxed (fun h => by rw [HV.out]; exact eqF_stop F G (k + 1) n (by rw [HS.out, h]; simp) (by omega))
        have HTV : Box (eqS s g = true → eqF F G (k + 1) = true) := boxed (fun h => by rw [HS.out, h, HE.out]; rfl)
        have RG1 := boxed rg1
        have RG2 := boxed rg2
        have hrn := ok1.rn
        clear ok1 ok2 rg1 rg2 HS
        obtain ⟨h, sp, st, sh, hy, ot, ra, rn, rc, kp, R⟩ := s
        obtain ⟨h', sp', st', sh', hy', ot', ra', rn', rc', kp', R'⟩ := g
        simp only at *
        go_wp2
        go_region
        · by_cases qh : h = h'
          rotate_left
          · have HX : Box (V = false) := boxed (HFV.out (by unfold eqS eqM; simp [qh]))
            have nh : (h != h') = true := by simpa using qh
            clear qh HFV HTV
            go_wp2
            go_ret
            exact ⟨ret_bool HX.out.symm, by have hb := HB.out; have hz := HB.out.size; go_grown⟩
          have nh : (h != h') = false := by simpa using qh
          have Qh := boxed qh
          clear qh
          by_cases qsp : sp = sp'
          rotate_left
          · have HX : Box (V = false) := boxed (HFV.out (by unfold eqS eqM; simp [qsp]))
            have nsp : (sp != sp') = true := by simpa using qsp
            clear qsp HFV HTV
            go_wp2
            go_ret
            exact ⟨ret_bool HX.out.symm, by have hb := HB.out; have hz := HB.out.size; go_grown⟩
          have nsp : (sp != sp') = false := by simpa using qsp
          have Qsp := boxed qsp
          clear qsp
          by_cases qst : st = st'
          rotate_left
          · have HX : Box (V = false) := boxed (HFV.out (by unfold eqS eqM; simp [qst]))
            have nst : (st != st') = true := by simpa using qst
            clear qst HFV HTV
            go_wp2
            go_ret
            exact ⟨ret_bool HX.out.symm, by have hb := HB.out; have hz := HB.out.size; go_grown⟩
          have nst : (st != st') = false := by simpa using qst
          have Qst := boxed qst
          clear qst
          by_cases qsh : sh = sh'
          rotate_left
          · have HX : Box (V = false) := boxed (HFV.out (by unfold eqS eqM; simp [qsh]))
            have nsh : (sh != sh') = true := by simpa using qsh
            clear qsh HFV HTV
            go_wp2
            go_ret
            exact ⟨ret_bool HX.out.symm, by have hb := HB.out; have hz := HB.out.size; go_grown⟩
          have nsh : (sh != sh') = false := by simpa using qsh
          have Qsh := boxed qsh
          clear qsh
          by_cases qhy : hy = hy'
          rotate_left
          · have HX : Box (V = false) := boxed (HFV.out (by unfold eqS eqM; simp [qhy]))
            have nhy : (hy != hy') = true := by simpa using qhy
            clear qhy HFV HTV
            go_wp2
            go_ret
            exact ⟨ret_bool HX.out.symm, by have hb := HB.out; have hz := HB.out.size; go_grown⟩
          have nhy : (hy != hy') = false := by simpa using qhy
          have Qhy := boxed qhy
          clear qhy
          by_cases qot : ot = ot'
          rotate_left
          · have HX : Box (V = false) := boxed (HFV.out (by unfold eqS eqM; simp [qot]))
            have not : (ot != ot') = true := by simpa using qot
            clear qot HFV HTV
            go_wp2
            go_ret
            exact ⟨ret_bool HX.out.symm, by have hb := HB.out; have hz := HB.out.size; go_grown⟩
          have not : (ot != ot') = false := by simpa using qot
          have Qot := boxed qot
          clear qot
          by_cases qk : kp = kp'
          rotate_left
          · have HX : Box (V = false) := boxed (HFV.out (by unfold eqS eqM; simp [qk]))
            clear HFV HTV
            rcases (show (kp = true ∧ kp' = false) ∨ (kp = false ∧ kp' = true) by revert qk; cases kp <;> cases kp' <;> simp) with ⟨rfl, rfl⟩ | ⟨rfl, rfl⟩
            all_goals clear qk
            all_goals go_wp2
            all_goals (go_ret)
            all_goals (exact ⟨ret_bool HX.out.symm, by have hb := HB.out; have hz := HB.out.size; go_grown⟩)
          subst qk
          have nk : (kp != kp) = false := by simp
          by_cases qn : rn = rn'
          rotate_left
          · have HX : Box (V = false) := boxed (HFV.out (by unfold eqS eqM; simp [qn]))
            have nn : ((rn : Int) != (rn' : Int)) = true := by rw [bne_iff_ne]; omega
            have nn2 : (rn != rn') = true := by rw [bne_iff_ne]; exact qn
            have nn3 : ((rn : Int) == (rn' : Int)) = false := by rw [beq_eq_false_iff_ne]; omega
            have nn4 : decide (rn = rn') = false := decide_eq_false qn
            clear HFV HTV
            go_wp2
            go_ret
            exact ⟨ret_bool HX.out.symm, by have hb := HB.out; have hz := HB.out.size; go_grown⟩
          have nn : ((rn : Int) != (rn' : Int)) = false := by simp [qn]
          have nn2 : (rn != rn') = false := by simp [qn]
          have HM : Box (eqM ⟨h, sp, st, sh, hy, ot, ra, rn, rc, kp, R⟩ ⟨h', sp', st', sh', hy', ot', ra', rn', rc', kp, R'⟩ = true) := boxed (by unfold eqM; simp [Qh.out, Qsp.out, Qst.out, Qsh.out, Qhy.out, Qot.out, qn])
          have Qn := boxed qn
          clear qn
          obtain ⟨wo, rfl⟩ : ∃ wo : World, wo = wr := ⟨_, rfl⟩
          have hz := HB.out.size
          have cX : (((wo.alloc (.cells #[.int .i64 h, .int .i64 sp, .int .i64 st, .int .i64 sh, .int .i64 hy, .int .i64 ot, .slice ra rn rc, .bool kp] 35)).alloc (.cells #[.int .i64 h', .int .i64 sp', .int .i64 st', .int .i64 sh', .int .i64 hy', .int .i64 ot', .slice ra' rn' rc', .bool kp] 35)).drew).cell? ⟨wo.heap.size, 6, none⟩ = some (.slice ra rn rc) := by rw [show (((wo.alloc (.cells #[.int .i64 h, .int .i64 sp, .int .i64 st, .int .i64 sh, .int .i64 hy, .int .i64 ot, .slice ra rn rc, .bool kp] 35)).alloc (.cells #[.int .i64 h', .int .i64 sp', .int .i64 st', .int .i64 sh', .int .i64 hy', .int .i64 ot', .slice ra' rn' rc', .bool kp] 35)).drew).cell? ⟨wo.heap.size, 6, none⟩ = (((wo.alloc (.cells #[.int .i64 h, .int .i64 sp, .int .i64 st, .int .i64 sh, .int .i64 hy, .int .i64 ot, .slice ra rn rc, .bool kp] 35)).alloc (.cells #[.int .i64 h', .int .i64 sp', .int .i64 st', .int .i64 sh', .int .i64 hy', .int .i64 ot', .slice ra' rn' rc', .bool kp] 35))).cell? ⟨wo.heap.size, 6, none⟩ from rfl]; exact hold ((Below.refl _ _).alloc (Nat.le_refl _) _) (cell_first _ _ _ _)
          have cY : (((wo.alloc (.cells #[.int .i64 h, .int .i64 sp, .int .i64 st, .int .i64 sh, .int .i64 hy, .int .i64 ot, .slice ra rn rc, .bool kp] 35)).alloc (.cells #[.int .i64 h', .int .i64 sp', .int .i64 st', .int .i64 sh', .int .i64 hy', .int .i64 ot', .slice ra' rn' rc', .bool kp] 35)).drew).cell? ⟨wo.heap.size + 1, 6, none⟩ = some (.slice ra' rn' rc') := by rw [show (((wo.alloc (.cells #[.int .i64 h, .int .i64 sp, .int .i64 st, .int .i64 sh, .int .i64 hy, .int .i64 ot, .slice ra rn rc, .bool kp] 35)).alloc (.cells #[.int .i64 h', .int .i64 sp', .int .i64 st', .int .i64 sh', .int .i64 hy', .int .i64 ot', .slice ra' rn' rc', .bool kp] 35)).drew).cell? ⟨wo.heap.size + 1, 6, none⟩ = (((wo.alloc (.cells #[.int .i64 h, .int .i64 sp, .int .i64 st, .int .i64 sh, .int .i64 hy, .int .i64 ot, .slice ra rn rc, .bool kp] 35)).alloc (.cells #[.int .i64 h', .int .i64 sp', .int .i64 st', .int .i64 sh', .int .i64 hy', .int .i64 ot', .slice ra' rn' rc', .bool kp] 35))).cell? ⟨wo.heap.size + 1, 6, none⟩ from rfl]; exact cell_second _ _ _ _ _
          have HBW : Box (Below wo.heap.size wo (((wo.alloc (.cells #[.int .i64 h, .int .i64 sp, .int .i64 st, .int .i64 sh, .int .i64 hy, .int .i64 ot, .slice ra rn rc, .bool kp] 35)).alloc (.cells #[.int .i64 h', .int .i64 sp', .int .i64 st', .int .i64 sh', .int .i64 hy', .int .i64 ot', .slice ra' rn' rc', .bool kp] 35)).drew)) := boxed (by go_grown)
          have CX := boxed cX
          have CY := boxed cY
          clear cX cY x0 x1 x2 x3 x4 x5 x6 x7 y0 y1 y2 y3 y4 y5 y6 y7
          go_wp2
          generalize hWW : (((wo.alloc (.cells #[.int .i64 h, .int .i64 sp, .int .i64 st, .int .i64 sh, .int .i64 hy, .int .i64 ot, .slice ra rn rc, .bool kp] 35)).alloc (.cells #[.int .i64 h', .int .i64 sp', .int .i64 st', .int .i64 sh', .int .i64 hy', .int .i64 ot', .slice ra' rn' rc', .bool kp] 35)).drew) = W2 at *
          clear hWW
          go_loopw [8] (fun i wq => ∃ j : Nat, j ≤ rn ∧ i = .int .i64 (j : Int) ∧ Box (eqR R R' j = true) ∧ Box (Below W2.heap.size W2 wq)) (fun i _ => rn - (intOf i).toNat)
          case atStart => exact ⟨0, Nat.zero_le _, rfl, boxed rfl, boxed (Below.refl _ _)⟩
          case round =>
            obtain ⟨wq, rfl⟩ : ∃ wq : World, wq = wr := ⟨_, rfl⟩
            obtain ⟨j, hj, rfl, HR, HQ⟩ := hrel
            have cX := hold HQ.out CX.out
            have cY := hold HQ.out CY.out
            have HBQ : Box (Below wo.heap.size wo wq) := boxed (below_step HBW.out (Nat.le_refl _) HQ.out)
            by_cases hjl : j < rn
            · obtain ⟨-, p1, f1, e1, -, u0, u1, u2⟩ := (RG1.out.below HBQ.out) j hjl
              obtain ⟨-, p2, f2, e2, -, v0, v1, v2⟩ := (RG2.out.below HBQ.out) j (by have := Qn.out; omega)
              subst e1; subst e2
              have t2 : decide ((j : Int) < (rn : Int)) = true := decide_eq_true (by omega)
              have hj' : (j : Int) < (rn' : Int) := by have := Qn.out; omega
              have HG : Box (eqR R R' (j + 1) = (eqR R R' j && eqG (R j) (R' j))) := boxed rfl
              generalize R j = r at *
              generalize R' j = r' at *
              obtain ⟨lo, hi, wd⟩ := r
              obtain ⟨lo', hi', wd'⟩ := r'
              simp only at *
              have hgd := guardRange
              have heq := fun w => eqRange lo hi wd lo' hi' wd' w
              have hne := fun w => neqRange lo hi wd lo' hi' wd' w
              have HGG : Box (eqG ⟨lo, hi, wd⟩ ⟨lo', hi', wd'⟩ = (lo == lo' && hi == hi' && wd == wd')) := boxed rfl
              cases hB : (lo == lo' && hi == hi' && wd == wd') with
              | true =>
                rw [hB] at heq hne
                have HN : Box (eqR R R' (j + 1) = true) := boxed (by rw [HG.out, HR.out, HGG.out, hB]; rfl)
                clear hB
                go_wp2
                go_quiet (fail)
                go_wp2
                go_roundw
                case rel => exact ⟨j + 1, by omega, by go_num, HN, boxed (HQ.out.trans (bel_drewN _ _ _))⟩
                case measure => simp [intOf]; omega
              | false =>
                rw [hB] at heq hne
                have HX : Box (V = false) := boxed (HFV.out (by unfold eqS; rw [eqR_stop R R' (j + 1) rn (by rw [HG.out, HGG.out, hB]; simp) (by omega)]; simp))
                clear hB
                go_wp2
                go_quiet (fail)
                go_wp2
                go_ret
                exact ⟨ret_bool HX.out.symm, (below_step HB.out (Nat.le_refl _) HBQ.out).trans (bel_drewN _ _ _)⟩
            · have e : j = rn := by omega
              subst e
              have t2 : decide ((j : Int) < (j : Int)) = false := decide_eq_false (by omega)
              have HN := boxed (HTV.out (by unfold eqS; rw [HM.out, HR.out]; rfl))
              have HBF := boxed (below_step HB.out (Nat.le_refl _) HBQ.out)
              go_wp2
              go_roundw
              case rel => exact ⟨k + 1, by omega, by go_num, HN, HBF⟩
              case measure => simp [intOf]; omega
        · by_cases qh : h = h'
          rotate_left
          · have HX : Box (V = false) := boxed (HFV.out (by unfold eqS eqM; simp [qh]))
            have nh : (h != h') = true := by simpa using qh
            clear qh HFV HTV
            go_wp2
            go_ret
            exact ⟨ret_bool HX.out.symm, by have hb := HB.out; have hz := HB.out.size; go_grown⟩
          have nh : (h != h') = false := by simpa using qh
          have Qh := boxed qh
          clear qh
          by_cases qsp : sp = sp'
          rotate_left
          · have HX : Box (V = false) := boxed (HFV.out (by unfold eqS eqM; simp [qsp]))
            have nsp : (sp != sp') = true := by simpa using qsp
            clear qsp HFV HTV
            go_wp2
            go_ret
            exact ⟨ret_bool HX.out.symm, by have hb := HB.out; have hz := HB.out.size; go_grown⟩
          have nsp : (sp != sp') = false := by simpa using qsp
          have Qsp := boxed qsp
          clear qsp
          by_cases qst : st = st'
          rotate_left
          · have HX : Box (V = false) := boxed (HFV.out (by unfold eqS eqM; simp [qst]))
            have nst : (st != st') = true := by simpa using qst
            clear qst HFV HTV
            go_wp2
            go_ret
            exact ⟨ret_bool HX.out.symm, by have hb := HB.out; have hz := HB.out.size; go_grown⟩
          have nst : (st != st') = false := by simpa using qst
          have Qst := boxed qst
          clear qst
          by_cases qsh : sh = sh'
          rotate_left
          · have HX : Box (V = false) := boxed (HFV.out (by unfold eqS eqM; simp [qsh]))
            have nsh : (sh != sh') = true := by simpa using qsh
            clear qsh HFV HTV
            go_wp2
            go_ret
            exact ⟨ret_bool HX.out.symm, by have hb := HB.out; have hz := HB.out.size; go_grown⟩
          have nsh : (sh != sh') = false := by simpa using qsh
          have Qsh := boxed qsh
          clear qsh
          by_cases qhy : hy = hy'
          rotate_left
          · have HX : Box (V = false) := boxed (HFV.out (by unfold eqS eqM; simp [qhy]))
            have nhy : (hy != hy') = true := by simpa using qhy
            clear qhy HFV HTV
            go_wp2
            go_ret
            exact ⟨ret_bool HX.out.symm, by have hb := HB.out; have hz := HB.out.size; go_grown⟩
          have nhy : (hy != hy') = false := by simpa using qhy
          have Qhy := boxed qhy
          clear qhy
          by_cases qot : ot = ot'
          rotate_left
          · have HX : Box (V = false) := boxed (HFV.out (by unfold eqS eqM; simp [qot]))
            have not : (ot != ot') = true := by simpa using qot
            clear qot HFV HTV
            go_wp2
            go_ret
            exact ⟨ret_bool HX.out.symm, by have hb := HB.out; have hz := HB.out.size; go_grown⟩
          have not : (ot != ot') = false := by simpa using qot
          have Qot := boxed qot
          clear qot
          by_cases qk : kp = kp'
          rotate_left
          · have HX : Box (V = false) := boxed (HFV.out (by unfold eqS eqM; simp [qk]))
            clear HFV HTV
            rcases (show (kp = true ∧ kp' = false) ∨ (kp = false ∧ kp' = true) by revert qk; cases kp <;> cases kp' <;> simp) with ⟨rfl, rfl⟩ | ⟨rfl, rfl⟩
            all_goals clear qk
            all_goals go_wp2
            all_goals (go_ret)
            all_goals (exact ⟨ret_bool HX.out.symm, by have hb := HB.out; have hz := HB.out.size; go_grown⟩)
          subst qk
          have nk : (kp != kp) = false := by simp
          by_cases qn : rn = rn'
          rotate_left
          · have HX : Box (V = false) := boxed (HFV.out (by unfold eqS eqM; simp [qn]))
            have nn : ((rn : Int) != (rn' : Int)) = true := by rw [bne_iff_ne]; omega
            have nn2 : (rn != rn') = true := by rw [bne_iff_ne]; exact qn
            have nn3 : ((rn : Int) == (rn' : Int)) = false := by rw [beq_eq_false_iff_ne]; omega
            have nn4 : decide (rn = rn') = false := decide_eq_false qn
            clear HFV HTV
            go_wp2
            go_ret
            exact ⟨ret_bool HX.out.symm, by have hb := HB.out; have hz := HB.out.size; go_grown⟩
          have nn : ((rn : Int) != (rn' : Int)) = false := by simp [qn]
          have nn2 : (rn != rn') = false := by simp [qn]
          have HM : Box (eqM ⟨h, sp, st, sh, hy, ot, ra, rn, rc, kp, R⟩ ⟨h', sp', st', sh', hy', ot', ra', rn', rc', kp, R'⟩ = true) := boxed (by unfold eqM; simp [Qh.out, Qsp.out, Qst.out, Qsh.out, Qhy.out, Qot.out, qn])
          have Qn := boxed qn
          clear qn
          obtain ⟨wo, rfl⟩ : ∃ wo : World, wo = wr := ⟨_, rfl⟩
          have hz := HB.out.size
          have cX : (((wo.alloc (.cells #[.int .i64 h', .int .i64 sp', .int .i64 st', .int .i64 sh', .int .i64 hy', .int .i64 ot', .slice ra' rn' rc', .bool kp] 35)).alloc (.cells #[.int .i64 h, .int .i64 sp, .int .i64 st, .int .i64 sh, .int .i64 hy, .int .i64 ot, .slice ra rn rc, .bool kp] 35)).drew).cell? ⟨wo.heap.size + 1, 6, none⟩ = some (.slice ra rn rc) := by rw [show (((wo.alloc (.cells #[.int .i64 h', .int .i64 sp', .int .i64 st', .int .i64 sh', .int .i64 hy', .int .i64 ot', .slice ra' rn' rc', .bool kp] 35)).alloc (.cells #[.int .i64 h, .int .i64 sp, .int .i64 st, .int .i64 sh, .int .i64 hy, .int .i64 ot, .slice ra rn rc, .bool kp] 35)).drew).cell? ⟨wo.heap.size + 1, 6, none⟩ = (((wo.alloc (.cells #[.int .i64 h', .int .i64 sp', .int .i64 st', .int .i64 sh', .int .i64 hy', .int .i64 ot', .slice ra' rn' rc', .bool kp] 35)).alloc (.cells #[.int .i64 h, .int .i64 sp, .int .i64 st, .int .i64 sh, .int .i64 hy, .int .i64 ot, .slice ra rn rc, .bool kp] 35))).cell? ⟨wo.heap.size + 1, 6, none⟩ from rfl]; exact cell_second _ _ _ _ _
          have cY : (((wo.alloc (.cells #[.int .i64 h', .int .i64 sp', .int .i64 st', .int .i64 sh', .int .i64 hy', .int .i64 ot', .slice ra' rn' rc', .bool kp] 35)).alloc (.cells #[.int .i64 h, .int .i64 sp, .int .i64 st, .int .i64 sh, .int .i64 hy, .int .i64 ot, .slice ra rn rc, .bool kp] 35)).drew).cell? ⟨wo.heap.size, 6, none⟩ = some (.slice ra' rn' rc') := by rw [show (((wo.alloc (.cells #[.int .i64 h', .int .i64 sp', .int .i64 st', .int .i64 sh', .int .i64 hy', .int .i64 ot', .slice ra' rn' rc', .bool kp] 35)).alloc (.cells #[.int .i64 h, .int .i64 sp, .int .i64 st, .int .i64 sh, .int .i64 hy, .int .i64 ot, .slice ra rn rc, .bool kp] 35)).drew).cell? ⟨wo.heap.size, 6, none⟩ = (((wo.alloc (.cells #[.int .i64 h', .int .i64 sp', .int .i64 st', .int .i64 sh', .int .i64 hy', .int .i64 ot', .slice ra' rn' rc', .bool kp] 35)).alloc (.cells #[.int .i64 h, .int .i64 sp, .int .i64 st, .int .i64 sh, .int .i64 hy, .int .i64 ot, .slice ra rn rc, .bool kp] 35))).cell? ⟨wo.heap.size, 6, none⟩ from rfl]; exact hold ((Below.refl _ _).alloc (Nat.le_refl _) _) (cell_first _ _ _ _)
          have HBW : Box (Below wo.heap.size wo (((wo.alloc (.cells #[.int .i64 h', .int .i64 sp', .int .i64 st', .int .i64 sh', .int .i64 hy', .int .i64 ot', .slice ra' rn' rc', .bool kp] 35)).alloc (.cells #[.int .i64 h, .int .i64 sp, .int .i64 st, .int .i64 sh, .int .i64 hy, .int .i64 ot, .slice ra rn rc, .bool kp] 35)).drew)) := boxed (by go_grown)
          have CX := boxed cX
          have CY := boxed cY
          clear cX cY x0 x1 x2 x3 x4 x5 x6 x7 y0 y1 y2 y3 y4 y5 y6 y7
          go_wp2
          generalize hWW : (((wo.alloc (.cells #[.int .i64 h', .int .i64 sp', .int .i64 st', .int .i64 sh', .int .i64 hy', .int .i64 ot', .slice ra' rn' rc', .bool kp] 35)).alloc (.cells #[.int .i64 h, .int .i64 sp, .int .i64 st, .int .i64 sh, .int .i64 hy, .int .i64 ot, .slice ra rn rc, .bool kp] 35)).drew) = W2 at *
          clear hWW
          go_loopw [8] (fun i wq => ∃ j : Nat, j ≤ rn ∧ i = .int .i64 (j : Int) ∧ Box (eqR R R' j = true) ∧ Box (Below W2.heap.size W2 wq)) (fun i _ => rn - (intOf i).toNat)
          case atStart => exact ⟨0, Nat.zero_le _, rfl, boxed rfl, boxed (Below.refl _ _)⟩
          case round =>
            obtain ⟨wq, rfl⟩ : ∃ wq : World, wq = wr := ⟨_, rfl⟩
            obtain ⟨j, hj, rfl, HR, HQ⟩ := hrel
            have cX := hold HQ.out CX.out
            have cY := hold HQ.out CY.out
            have HBQ : Box (Below wo.heap.size wo wq) := boxed (below_step HBW.out (Nat.le_refl _) HQ.out)
            by_cases hjl : j < rn
            · obtain ⟨-, p1, f1, e1, -, u0, u1, u2⟩ := (RG1.out.below HBQ.out) j hjl
              obtain ⟨-, p2, f2, e2, -, v0, v1, v2⟩ := (RG2.out.below HBQ.out) j (by have := Qn.out; omega)
              subst e1; subst e2
              have t2 : decide ((j : Int) < (rn : Int)) = true := decide_eq_true (by omega)
              have hj' : (j : Int) < (rn' : Int) := by have := Qn.out; omega
              have HG : Box (eqR R R' (j + 1) = (eqR R R' j && eqG (R j) (R' j))) := boxed rfl
              generalize R j = r at *
              generalize R' j = r' at *
              obtain ⟨lo, hi, wd⟩ := r
              obtain ⟨lo', hi', wd'⟩ := r'
              simp only at *
              have hgd := guardRange
              have heq := fun w => eqRange lo hi wd lo' hi' wd' w
              have hne := fun w => neqRange lo hi wd lo' hi' wd' w
              have HGG : Box (eqG ⟨lo, hi, wd⟩ ⟨lo', hi', wd'⟩ = (lo == lo' && hi == hi' && wd == wd')) := boxed rfl
              cases hB : (lo == lo' && hi == hi' && wd == wd') with
              | true =>
                rw [hB] at heq hne
                have HN : Box (eqR R R' (j + 1) = true) := boxed (by rw [HG.out, HR.out, HGG.out, hB]; rfl)
                clear hB
                go_wp2
                go_quiet (fail)
                go_wp2
                go_roundw
                case rel => exact ⟨j + 1, by omega, by go_num, HN, boxed (HQ.out.trans (bel_drewN _ _ _))⟩
                case measure => simp [intOf]; omega
              | false =>
                rw [hB] at heq hne
                have HX : Box (V = false) := boxed (HFV.out (by unfold eqS; rw [eqR_stop R R' (j + 1) rn (by rw [HG.out, HGG.out, hB]; simp) (by omega)]; simp))
                clear hB
                go_wp2
                go_quiet (fail)
                go_wp2
                go_ret
                exact ⟨ret_bool HX.out.symm, (below_step HB.out (Nat.le_refl _) HBQ.out).trans (bel_drewN _ _ _)⟩
            · have e : j = rn := by omega
              subst e
              have t2 : decide ((j : Int) < (j : Int)) = false := decide_eq_false (by omega)
              have HN := boxed (HTV.out (by unfold eqS; rw [HM.out, HR.out]; rfl))
              have HBF := boxed (below_step HB.out (Nat.le_refl _) HBQ.out)
              go_wp2
              go_roundw
              case rel => exact ⟨k + 1, by omega, by go_num, HN, HBF⟩
              case measure => simp [intOf]; omega
      · have e : k = n := by omega
        subst e
        have t1 : decide ((k : Int) < (k : Int)) = false := decide_eq_false (by omega)
        go_wp2
        go_ret
        exact ⟨ret_bool (by rw [HV.out, HE.out]), HB.out⟩
  · have tn : ((n : Int) != (m : Int)) = true := by rw [bne_iff_ne]; omega
    have HV : Box (sameS F n G m = false) := boxed (by unfold sameS; simp [hnm])
    clear h1 h2
    go_enter Try.func21, Try.ntmps21
    go_wp2
    go_ret
    exact ⟨ret_bool HV.out.symm, Below.refl _ _⟩
end Go.Proofs.Ytjfcpbnipkkjbaa
