/-
  How wide a rune is: what the program's width and Width, and the document's Width, answer.
-/
import Derived.Test.YtcdcpmcjlchfgaaMk
namespace Go.Proofs.Ytcdcpmcjlchfgaa
open Go.RowKit
set_option linter.unusedSimpArgs false
set_option linter.unusedVariables false

theorem kd_nine (r : Int) : kd r = 1 ∨ kd r = 2 ∨ kd r = 3 ∨ kd r = 4 ∨ kd r = 5 ∨ kd r = 7 ∨ kd r = 8 ∨ kd r = 0 ∨ kd r = 6 := by
  unfold kd
  repeat' split
  all_goals omega
theorem wdS_sp {s : Sty} {r : Int} (h : kd r = 1 ∨ kd r = 2) : wdS s r = s.sp := by unfold wdS; rw [if_pos h]
theorem wdS_no {s : Sty} {r : Int} (h : kd r = 3 ∨ kd r = 4 ∨ kd r = 5 ∨ kd r = 7 ∨ kd r = 8) : wdS s r = 0 := by unfold wdS; rw [if_neg (by omega), if_pos h]
theorem wdS_rg {s : Sty} {r : Int} (h : kd r = 0 ∨ kd r = 6) : wdS s r = rgw s.R s.rn r s.ot := by unfold wdS; rw [if_neg (by omega), if_neg (by omega)]

theorem hitR_hi {R : Nat → Rg} {r : Int} {j : Nat} (h : (R j).hi < r) : hitR R r j = false := by
  unfold hitR
  have : decide (r ≤ (R j).hi) = false := decide_eq_false (by omega)
  rw [this]; simp
theorem hitR_lo {R : Nat → Rg} {r : Int} {j : Nat} (h : r < (R j).lo) : hitR R r j = false := by
  unfold hitR
  have : decide ((R j).lo ≤ r) = false := decide_eq_false (by omega)
  rw [this]; simp
theorem hitR_in {R : Nat → Rg} {r : Int} {j : Nat} (h1 : (R j).lo ≤ r) (h2 : r ≤ (R j).hi) : hitR R r j = true := by
  unfold hitR
  rw [decide_eq_true h1, decide_eq_true h2]; rfl

set_option maxRecDepth 100000 in
set_option maxHeartbeats 2000000 in
theorem width_any (S : Nat → Prop) (s : Sty) (r : Int) (w : World) (hs : StyOk s) (hr : RgsAt S w s.ra s.rn s.R) (hR : Rise s.R s.rn) (hrr : -2147483648 ≤ r ∧ r ≤ 2147483647) :
    Calls Try.prog 71 #[s.val, .int .i32 r] w fun e w' => e = .returned (.int .i64 (wdS s r)) ∧ Below w.heap.size w w' := by
  have hmf : ∀ (fn : Fn) (first cap : Array Value) (w : World), (Instr.makeFunc fn first cap).run Try.prog w = .ok (.func fn first cap) w := fun _ _ _ _ => rfl
  have hkd := fun w => kind_any r w
  have HSR := boxed (fun (w' : World) (hb : Below w.heap.size w w') bS bR cS cR => search_any S s.ra s.rn s.rc s.R r bS bR w' (hr.below hb) hs.rn.2 hR cS cR hrr)
  have HRG := boxed hr
  have HRI := boxed hR
  have hn := hs.rn
  clear hs hr hR
  have h1 : Box (kd r = 1 ∨ kd r = 2 → wdS s r = s.sp) := boxed wdS_sp
  have h2 : Box (kd r = 3 ∨ kd r = 4 ∨ kd r = 5 ∨ kd r = 7 ∨ kd r = 8 → wdS s r = 0) := boxed wdS_no
  have h3 : Box (kd r = 0 ∨ kd r = 6 → wdS s r = rgw s.R s.rn r s.ot) := boxed wdS_rg
  have h9 := kd_nine r
  unfold Sty.val
  generalize kd r = K at *
  generalize wdS s r = V at *
  obtain ⟨h, sp, st, sh, hy, ot, ra, rn, rc, kp, R⟩ := s
  simp only at *
  rcases h9 with e | e | e | e | e | e | e | e | e
  · subst e
    have HV := boxed (h1.out (by omega))
    clear h1 h2 h3 HSR
    go_enter Try.func71, Try.ntmps71
    go_wp2_with (go_at_call 56; refine (hkd _).mono ?_; rintro e w' ⟨rfl, hw'⟩; subst w')
    go_ret
    exact ⟨ret_int HV.out.symm, by go_grown⟩
  · subst e
    have HV := boxed (h1.out (by omega))
    clear h1 h2 h3 HSR
    go_enter Try.func71, Try.ntmps71
    go_wp2_with (go_at_call 56; refine (hkd _).mono ?_; rintro e w' ⟨rfl, hw'⟩; subst w')
    go_ret
    exact ⟨ret_int HV.out.symm, by go_grown⟩
  · subst e
    have HV := boxed (h2.out (by omega))
    clear h1 h2 h3 HSR
    go_enter Try.func71, Try.ntmps71
    go_wp2_with (go_at_call 56; refine (hkd _).mono ?_; rintro e w' ⟨rfl, hw'⟩; subst w')
    go_ret
    exact ⟨ret_int HV.out.symm, by go_grown⟩
  · subst e
    have HV := boxed (h2.out (by omega))
    clear h1 h2 h3 HSR
    go_enter Try.func71, Try.ntmps71
    go_wp2_with (go_at_call 56; refine (hkd _).mono ?_; rintro e w' ⟨rfl, hw'⟩; subst w')
    go_ret
    exact ⟨ret_int HV.out.symm, by go_grown⟩
  · subst e
    have HV := boxed (h2.out (by omega))
    clear h1 h2 h3 HSR
    go_enter Try.func71, Try.ntmps71
    go_wp2_with (go_at_call 56; refine (hkd _).mono ?_; rintro e w' ⟨rfl, hw'⟩; subst w')
    go_ret
    exact ⟨ret_int HV.out.symm, by go_grown⟩
  · subst e
    have HV := boxed (h2.out (by omega))
    clear h1 h2 h3 HSR
    go_enter Try.func71, Try.ntmps71
    go_wp2_with (go_at_call 56; refine (hkd _).mono ?_; rintro e w' ⟨rfl, hw'⟩; subst w')
    go_ret
    exact ⟨ret_int HV.out.symm, by go_grown⟩
  · subst e
    have HV := boxed (h2.out (by omega))
    clear h1 h2 h3 HSR
    go_enter Try.func71, Try.ntmps71
    go_wp2_with (go_at_call 56; refine (hkd _).mono ?_; rintro e w' ⟨rfl, hw'⟩; subst w')
    go_ret
    exact ⟨ret_int HV.out.symm, by go_grown⟩
  · subst e
    have HV := boxed (h3.out (by omega))
    clear h1 h2 h3
    go_enter Try.func71, Try.ntmps71
    go_wp2_with (go_at_call 56; refine (hkd _).mono ?_; rintro e w' ⟨rfl, hw'⟩; subst w')
    have cS : ∀ j, ((w.alloc (.cells #[.int .i64 h, .int .i64 sp, .int .i64 st, .int .i64 sh, .int .i64 hy, .int .i64 ot, .slice ra rn rc, .bool kp] 73)).alloc (.cells #[.int .i32 r] 21)).cell? ⟨w.heap.size, j, none⟩ = (#[.int .i64 h, .int .i64 sp, .int .i64 st, .int .i64 sh, .int .i64 hy, .int .i64 ot, .slice ra rn rc, .bool kp] : Array Value)[j]? := by
      intro j
      rw [((Below.refl _ _).alloc (Nat.le_refl _) _ : Below (w.alloc (.cells #[.int .i64 h, .int .i64 sp, .int .i64 st, .int .i64 sh, .int .i64 hy, .int .i64 ot, .slice ra rn rc, .bool kp] 73)).heap.size _ _).cell (p := ⟨w.heap.size, j, none⟩) (by simp)]
      exact cell_first _ _ _ _
    have cR : ((w.alloc (.cells #[.int .i64 h, .int .i64 sp, .int .i64 st, .int .i64 sh, .int .i64 hy, .int .i64 ot, .slice ra rn rc, .bool kp] 73)).alloc (.cells #[.int .i32 r] 21)).cell? ⟨w.heap.size + 1, 0, none⟩ = some (.int .i32 r) := cell_second _ _ _ _ _
    refine (HSR.out _ (by go_grown) _ _ (cS 6) cR).mono ?_
    rintro e w1 ⟨q, rfl, hq, hq1, hq2, hb1⟩
    have d6 := hold hb1 (cS 6)
    have d5 := hold hb1 (cS 5)
    have dR := hold hb1 cR
    have HB : Box (Below w.heap.size w w1) := boxed (below_step (by go_grown) (Nat.le_refl _) hb1)
    have HQ1 := boxed hq1
    have HQ2 := boxed hq2
    clear hb1 cS cR HSR hq1 hq2
    simp at d6 d5
    by_cases hlt : q < rn
    · obtain ⟨-, b, off, e, -, c0, c1, c2⟩ := (HRG.out.below HB.out) q hlt
      subst e
      have HLO : Box ((R q).lo ≤ r → V = (R q).wd) := boxed (fun hl => by rw [HV.out]; exact rgw_at (fun j hj => hitR_hi (HQ1.out j hj)) hlt (hitR_in hl (HQ2.out q (Nat.le_refl _) hlt)))
      have HNO : Box (r < (R q).lo → V = ot) := boxed (fun hl => by
        rw [HV.out]
        refine rgw_none (fun j hj => ?_)
        by_cases c : j < q
        · exact hitR_hi (HQ1.out j c)
        · refine hitR_lo ?_
          by_cases d : j = q
          · subst d; exact hl
          · have := HRI.out.2 q j (by omega) hj
            have := HRI.out.1 q hlt
            omega)
      have t1 : decide ((q : Int) < (rn : Int)) = true := decide_eq_true (by omega)
      generalize (R q).lo = lo at *
      generalize (R q).wd = wd at *
      clear c1
      by_cases hl : lo ≤ r
      · have t2 : decide (lo ≤ r) = true := decide_eq_true hl
        have HV2 := boxed (HLO.out hl)
        clear hl HLO HNO
        go_wp2
        go_quiet (fail)
        go_wp2
        go_ret
        exact ⟨ret_int HV2.out.symm, HB.out.trans (bel_drewN _ _ _)⟩
      · have t2 : decide (lo ≤ r) = false := decide_eq_false hl
        have HV2 := boxed (HNO.out (by omega))
        clear hl HLO HNO
        go_wp2
        go_quiet (fail)
        go_wp2
        go_ret
        exact ⟨ret_int HV2.out.symm, HB.out.trans (bel_drewN _ _ _)⟩
    · have HV2 : Box (V = ot) := boxed (by rw [HV.out]; exact rgw_none (fun j hj => hitR_hi (HQ1.out j (by omega))))
      have t1 : decide ((q : Int) < (rn : Int)) = false := decide_eq_false (by omega)
      have t1' : decide (q < rn) = false := decide_eq_false hlt
      clear hlt
      go_wp2
      go_quiet (fail)
      go_wp2
      go_ret
      exact ⟨ret_int HV2.out.symm, HB.out.trans (bel_drewN _ _ _)⟩
  · subst e
    have HV := boxed (h3.out (by omega))
    clear h1 h2 h3
    go_enter Try.func71, Try.ntmps71
    go_wp2_with (go_at_call 56; refine (hkd _).mono ?_; rintro e w' ⟨rfl, hw'⟩; subst w')
    have cS : ∀ j, ((w.alloc (.cells #[.int .i64 h, .int .i64 sp, .int .i64 st, .int .i64 sh, .int .i64 hy, .int .i64 ot, .slice ra rn rc, .bool kp] 73)).alloc (.cells #[.int .i32 r] 21)).cell? ⟨w.heap.size, j, none⟩ = (#[.int .i64 h, .int .i64 sp, .int .i64 st, .int .i64 sh, .int .i64 hy, .int .i64 ot, .slice ra rn rc, .bool kp] : Array Value)[j]? := by
      intro j
      rw [((Below.refl _ _).alloc (Nat.le_refl _) _ : Below (w.alloc (.cells #[.int .i64 h, .int .i64 sp, .int .i64 st, .int .i64 sh, .int .i64 hy, .int .i64 ot, .slice ra rn rc, .bool kp] 73)).heap.size _ _).cell (p := ⟨w.heap.size, j, none⟩) (by simp)]
      exact cell_first _ _ _ _
    have cR : ((w.alloc (.cells #[.int .i64 h, .int .i64 sp, .int .i64 st, .int .i64 sh, .int .i64 hy, .int .i64 ot, .slice ra rn rc, .bool kp] 73)).alloc (.cells #[.int .i32 r] 21)).cell? ⟨w.heap.size + 1, 0, none⟩ = some (.int .i32 r) := cell_second _ _ _ _ _
    refine (HSR.out _ (by go_grown) _ _ (cS 6) cR).mono ?_
    rintro e w1 ⟨q, rfl, hq, hq1, hq2, hb1⟩
    have d6 := hold hb1 (cS 6)
    have d5 := hold hb1 (cS 5)
    have dR := hold hb1 cR
    have HB : Box (Below w.heap.size w w1) := boxed (below_step (by go_grown) (Nat.le_refl _) hb1)
    have HQ1 := boxed hq1
    have HQ2 := boxed hq2
    clear hb1 cS cR HSR hq1 hq2
    simp at d6 d5
    by_cases hlt : q < rn
    · obtain ⟨-, b, off, e, -, c0, c1, c2⟩ := (HRG.out.below HB.out) q hlt
      subst e
      have HLO : Box ((R q).lo ≤ r → V = (R q).wd) := boxed (fun hl => by rw [HV.out]; exact rgw_at (fun j hj => hitR_hi (HQ1.out j hj)) hlt (hitR_in hl (HQ2.out q (Nat.le_refl _) hlt)))
      have HNO : Box (r < (R q).lo → V = ot) := boxed (fun hl => by
        rw [HV.out]
        refine rgw_none (fun j hj => ?_)
        by_cases c : j < q
        · exact hitR_hi (HQ1.out j c)
        · refine hitR_lo ?_
          by_cases d : j = q
          · subst d; exact hl
          · have := HRI.out.2 q j (by omega) hj
            have := HRI.out.1 q hlt
            omega)
      have t1 : decide ((q : Int) < (rn : Int)) = true := decide_eq_true (by omega)
      generalize (R q).lo = lo at *
      generalize (R q).wd = wd at *
      clear c1
      by_cases hl : lo ≤ r
      · have t2 : decide (lo ≤ r) = true := decide_eq_true hl
        have HV2 := boxed (HLO.out hl)
        clear hl HLO HNO
        go_wp2
        go_quiet (fail)
        go_wp2
        go_ret
        exact ⟨ret_int HV2.out.symm, HB.out.trans (bel_drewN _ _ _)⟩
      · have t2 : decide (lo ≤ r) = false := decide_eq_false hl
        have HV2 := boxed (HNO.out (by omega))
        clear hl HLO HNO
        go_wp2
        go_quiet (fail)
        go_wp2
        go_ret
        exact ⟨ret_int HV2.out.symm, HB.out.trans (bel_drewN _ _ _)⟩
    · have HV2 : Box (V = ot) := boxed (by rw [HV.out]; exact rgw_none (fun j hj => hitR_hi (HQ1.out j (by omega))))
      have t1 : decide ((q : Int) < (rn : Int)) = false := decide_eq_false (by omega)
      have t1' : decide (q < rn) = false := decide_eq_false hlt
      clear hlt
      go_wp2
      go_quiet (fail)
      go_wp2
      go_ret
      exact ⟨ret_int HV2.out.symm, HB.out.trans (bel_drewN _ _ _)⟩

theorem flt_rise {s : Sty} (h : flt s = 0) : Rise s.R s.rn := by
  unfold flt at h
  split at h
  · split at h
    · omega
    · exact rise_of _ _ h
  · omega
theorem rise_ofS {G : Nat → Sty} {n : Nat} (hg : ∀ i, i < n → flt (G i) = 0) (a : Int) : Rise (ofS G n a).R (ofS G n a).rn := by
  unfold ofS
  split
  · rename_i c; exact flt_rise (hg _ (by omega))
  · exact ⟨fun j hj => absurd hj (by show ¬ j < 0; omega), fun j k _ hk => absurd hk (by show ¬ k < 0; omega)⟩
theorem rfs_congr (R R' : Nat → Rg) (n : Nat) (h : R = R') : rfs R n = rfs R' n := by rw [h]
theorem flt_like {s g : Sty} (h : Like s g) : flt g = flt s := by
  unfold flt msr
  rw [h.h, h.sp, h.st, h.sh, h.hy, h.ot, h.rn, h.R]

set_option maxRecDepth 100000 in
theorem twidth_any {B : Nat} {w : World} {tb n : Nat} {G : Nat → Sty} (h : TabAt B w tb n G) (hg : ∀ i, i < n → flt (G i) = 0) (a r : Int) (hrr : -2147483648 ≤ r ∧ r ≤ 2147483647) :
    Calls Try.prog 58 #[.pointer (some ⟨tb, 0, none⟩), .int .i64 a, .int .i32 r] w fun e w' => e = .returned (.int .i64 (wdS (ofS G n a) r)) ∧ Below w.heap.size w w' := by
  have hl := look_any h a
  have hw := fun w' (hb : Below w.heap.size w w') => width_any (fun b => B ≤ b) (ofS G n a) r w' (h.of a).1 ((h.of a).2.below hb) (rise_ofS hg a) hrr
  simp only [Sty.val] at *
  clear h hg
  generalize wdS (ofS G n a) r = V at *
  generalize ofS G n a = s at *
  go_enter Try.func58, Try.ntmps58
  go_wp2_with fail
  refine hl.mono ?_
  rintro e w1 ⟨rfl, hb1⟩
  have HB1 := boxed hb1
  clear hb1 hl
  go_wp2_with fail
  refine (hw _ HB1.out).mono ?_
  rintro e w2 ⟨rfl, hb2⟩
  have HB2 := boxed (below_step HB1.out (Nat.le_refl _) hb2)
  clear hb2 hw
  go_wp2
  go_ret
  exact ⟨rfl, HB2.out⟩

set_option maxRecDepth 100000 in
set_option maxHeartbeats 2000000 in
theorem refwidth_any (S : Nat → Prop) (ao : Option Addr) (n cap : Nat) (F : Nat → Sty) (w : World) (h : StysAt S w ao n F) (a r : Int) :
    Calls Try.prog 43 #[.slice ao n cap, .int .i64 a, .int .i64 r] w fun e w' => e = .returned (.int .i64 (wdS (ofS F n a) r)) ∧ Below w.heap.size w w' := by
  have hof := refof_any S ao n cap F w h a
  have hok := (ofS_at h a).1
  have HR := boxed (ofS_at h a).2
  have hkd := fun w => refkind_any r w
  clear h
  have h1 : Box (kd r = 1 ∨ kd r = 2 → wdS (ofS F n a) r = (ofS F n a).sp) := boxed wdS_sp
  have h2 : Box (kd r = 3 ∨ kd r = 4 ∨ kd r = 5 ∨ kd r = 7 ∨ kd r = 8 → wdS (ofS F n a) r = 0) := boxed wdS_no
  have h3 : Box (kd r = 0 ∨ kd r = 6 → wdS (ofS F n a) r = rgw (ofS F n a).R (ofS F n a).rn r (ofS F n a).ot) := boxed wdS_rg
  have h9 := kd_nine r
  simp only [Sty.val] at *
  generalize ofS F n a = s at *
  generalize kd r = K at *
  generalize wdS s r = V at *
  have hn := hok.rn
  clear hok
  obtain ⟨h, sp, st, sh, hy, ot, ra, rn, rc, kp, R⟩ := s
  simp only at *
  go_enter Try.func43, Try.ntmps43
  go_wp2_with fail
  refine hof.mono ?_
  rintro e w1 ⟨rfl, hb1⟩
  have HB1 := boxed hb1
  clear hb1 hof
  go_wp2_with fail
  refine (hkd _).mono ?_
  rintro e w2 ⟨rfl, hb2⟩
  have cS : ∀ j, w2.cell? ⟨w1.heap.size, j, none⟩ = (#[.int .i64 h, .int .i64 sp, .int .i64 st, .int .i64 sh, .int .i64 hy, .int .i64 ot, .slice ra rn rc, .bool kp] : Array Value)[j]? := by
    intro j
    rw [hb2.cell (p := ⟨w1.heap.size, j, none⟩) (by simp)]
    exact cell_first _ _ _ _
  have d1 := cS 1
  have d5 := cS 5
  have d6 := cS 6
  simp at d1 d5 d6
  have HB2 := boxed (below_step (HB1.out.alloc HB1.out.size _) (Nat.le_refl _) hb2)
  have hsz : w1.heap.size < w2.heap.size := by have := hb2.size; simp at this; omega
  clear hb2 hkd cS
  rcases h9 with e | e | e | e | e | e | e | e | e
  · subst e
    have HV := boxed (h1.out (by omega))
    clear h1 h2 h3
    go_wp2
    go_ret
    exact ⟨ret_int HV.out.symm, HB2.out⟩
  · subst e
    have HV := boxed (h1.out (by omega))
    clear h1 h2 h3
    go_wp2
    go_ret
    exact ⟨ret_int HV.out.symm, HB2.out⟩
  · subst e
    have HV := boxed (h2.out (by omega))
    clear h1 h2 h3
    go_wp2
    go_ret
    exact ⟨ret_int HV.out.symm, HB2.out⟩
  · subst e
    have HV := boxed (h2.out (by omega))
    clear h1 h2 h3
    go_wp2
    go_ret
    exact ⟨ret_int HV.out.symm, HB2.out⟩
  · subst e
    have HV := boxed (h2.out (by omega))
    clear h1 h2 h3
    go_wp2
    go_ret
    exact ⟨ret_int HV.out.symm, HB2.out⟩
  · subst e
    have HV := boxed (h2.out (by omega))
    clear h1 h2 h3
    go_wp2
    go_ret
    exact ⟨ret_int HV.out.symm, HB2.out⟩
  · subst e
    have HV := boxed (h2.out (by omega))
    clear h1 h2 h3
    go_wp2
    go_ret
    exact ⟨ret_int HV.out.symm, HB2.out⟩
  · subst e
    have HV := boxed (h3.out (by omega))
    clear h1 h2 h3
    go_wp2
    go_loop [8] (fun i => ∃ k : Nat, k ≤ rn ∧ i = .int .i64 (k : Int) ∧ Box (∀ j, j < k → hitR R r j = false)) (fun i => rn - (intOf i).toNat)
    case atStart => exact ⟨0, Nat.zero_le _, rfl, boxed (fun j hj => by omega)⟩
    case round =>
      obtain ⟨k, hk, rfl, HH⟩ := hrel
      by_cases hlt : k < rn
      · obtain ⟨-, b, off, e, -, c0, c1, c2⟩ := (HR.out.below HB2.out) k hlt
        subst e
        have t1 : decide ((k : Int) < (rn : Int)) = true := decide_eq_true (by omega)
        have HIN : Box ((R k).lo ≤ r → r ≤ (R k).hi → V = (R k).wd) := boxed (fun a b => by rw [HV.out]; exact rgw_at HH.out hlt (hitR_in a b))
        have HLO : Box (r < (R k).lo → ∀ j, j < k + 1 → hitR R r j = false) := boxed (fun a j hj => by
          by_cases c : j = k
          · subst c; exact hitR_lo a
          · exact HH.out j (by omega))
        have HHI : Box ((R k).hi < r → ∀ j, j < k + 1 → hitR R r j = false) := boxed (fun a j hj => by
          by_cases c : j = k
          · subst c; exact hitR_hi a
          · exact HH.out j (by omega))
        generalize (R k).lo = lo at *
        generalize (R k).hi = hi at *
        generalize (R k).wd = wd at *
        by_cases g1 : lo ≤ r
        · have t2 : decide (lo ≤ r) = true := decide_eq_true g1
          by_cases g2 : r ≤ hi
          · have t3 : decide (r ≤ hi) = true := decide_eq_true g2
            have HV2 := boxed (HIN.out g1 g2)
            clear g1 g2 HIN HLO HHI
            go_wp2
            go_ret
            exact ⟨ret_int HV2.out.symm, HB2.out⟩
          · have t3 : decide (r ≤ hi) = false := decide_eq_false g2
            have HN := boxed (HHI.out (by omega))
            clear g1 g2 HIN HLO HHI
            go_wp2
            go_round
            case rel => exact ⟨k + 1, by omega, by go_num, HN⟩
            case measure => simp [intOf]; omega
        · have t2 : decide (lo ≤ r) = false := decide_eq_false g1
          have HN := boxed (HLO.out (by omega))
          clear g1 HIN HLO HHI
          go_wp2
          go_round
          case rel => exact ⟨k + 1, by omega, by go_num, HN⟩
          case measure => simp [intOf]; omega
      · have e : k = rn := by omega
        subst e
        have HV2 : Box (V = ot) := boxed (by rw [HV.out]; exact rgw_none HH.out)
        go_wp2
        go_ret
        exact ⟨ret_int HV2.out.symm, HB2.out⟩
  · subst e
    have HV := boxed (h3.out (by omega))
    clear h1 h2 h3
    go_wp2
    go_loop [8] (fun i => ∃ k : Nat, k ≤ rn ∧ i = .int .i64 (k : Int) ∧ Box (∀ j, j < k → hitR R r j = false)) (fun i => rn - (intOf i).toNat)
    case atStart => exact ⟨0, Nat.zero_le _, rfl, boxed (fun j hj => by omega)⟩
    case round =>
      obtain ⟨k, hk, rfl, HH⟩ := hrel
      by_cases hlt : k < rn
      · obtain ⟨-, b, off, e, -, c0, c1, c2⟩ := (HR.out.below HB2.out) k hlt
        subst e
        have t1 : decide ((k : Int) < (rn : Int)) = true := decide_eq_true (by omega)
        have HIN : Box ((R k).lo ≤ r → r ≤ (R k).hi → V = (R k).wd) := boxed (fun a b => by rw [HV.out]; exact rgw_at HH.out hlt (hitR_in a b))
        have HLO : Box (r < (R k).lo → ∀ j, j < k + 1 → hitR R r j = false) := boxed (fun a j hj => by
          by_cases c : j = k
          · subst c; exact hitR_lo a
          · exact HH.out j (by omega))
        have HHI : Box ((R k).hi < r → ∀ j, j < k + 1 → hitR R r j = false) := boxed (fun a j hj => by
          by_cases c : j = k
          · subst c; exact hitR_hi a
          · exact HH.out j (by omega))
        generalize (R k).lo = lo at *
        generalize (R k).hi = hi at *
        generalize (R k).wd = wd at *
        by_cases g1 : lo ≤ r
        · have t2 : decide (lo ≤ r) = true := decide_eq_true g1
          by_cases g2 : r ≤ hi
          · have t3 : decide (r ≤ hi) = true := decide_eq_true g2
            have HV2 := boxed (HIN.out g1 g2)
            clear g1 g2 HIN HLO HHI
            go_wp2
            go_ret
            exact ⟨ret_int HV2.out.symm, HB2.out⟩
          · have t3 : decide (r ≤ hi) = false := decide_eq_false g2
            have HN := boxed (HHI.out (by omega))
            clear g1 g2 HIN HLO HHI
            go_wp2
            go_round
            case rel => exact ⟨k + 1, by omega, by go_num, HN⟩
            case measure => simp [intOf]; omega
        · have t2 : decide (lo ≤ r) = false := decide_eq_false g1
          have HN := boxed (HLO.out (by omega))
          clear g1 HIN HLO HHI
          go_wp2
          go_round
          case rel => exact ⟨k + 1, by omega, by go_num, HN⟩
          case measure => simp [intOf]; omega
      · have e : k = rn := by omega
        subst e
        have HV2 : Box (V = ot) := boxed (by rw [HV.out]; exact rgw_none HH.out)
        go_wp2
        go_ret
        exact ⟨ret_int HV2.out.symm, HB2.out⟩
end Go.Proofs.Ytcdcpmcjlchfgaa
