/-
  The law RunsEach, walked: a range over the runs that may be left.
-/
import Derived.Test.YtdchpiihjjjpfaaKl
import Derived.Test.YtdchpiihjjjpfaaKd
namespace Go.Proofs.Ytdchpiihjjjpfaa
open Go.RowKit Go.Shelf
set_option linter.unusedSimpArgs false
set_option linter.unusedVariables false
attribute [local go_sem] Oper.semAt_some

set_option maxRecDepth 100000 in
set_option maxHeartbeats 8000000 in
theorem each_law (a0 : Int) (w0 : I64 a0) (ao1 : Option Addr) (n1 cap1 : Nat) (O1 : Nat → Opr) (w : World) (hn1 : n1 ≤ maxLen) (hO1 : OpsAt (fun _ => True) w ao1 n1 O1) (a2 : Int) (b2 : I64 a2) :
    Calls Try.prog 7 #[.int .i64 a0, .slice ao1 n1 cap1, .int .i64 a2] w fun e w' => e = .returned (.bool true) ∧ Below w.heap.size w w' := by
  have hs := small_any a0 1
  refine (callsIn_wide (n := 5)).1 ?_
  have hro : (Fence.wide).round = none := rfl
  have hd : (Fence.wide).depth = none := rfl
  refine callsIn_of_wp_marks Try.func7 rfl trivial ?_ hro
  simp only [Try.ntmps7, List.size_toArray, List.length_cons, List.length_nil, Nat.reduceAdd, Nat.reduceSub, Array.replicate_succ, Array.replicate_zero, List.push_toArray, List.append_toArray, List.nil_append, List.cons_append]
  obtain ⟨W1, hW1⟩ : ∃ W1, (w.alloc (.cells #[.int .i64 a2] 3)).alloc (.cells #[.bool false] 4) = W1 := ⟨_, rfl⟩
  have hz1 : W1.heap.size = w.heap.size + 2 := by rw [← hW1]; simp
  have HW1 : Box (Below w.heap.size w W1) := boxed (by rw [← hW1]; exact ((Below.refl _ w).alloc (Nat.le_refl _) _).alloc (by simp) _)
  have HL1 : Box (W1.heap[w.heap.size]? = some (.cells #[.int .i64 a2] 3 (0, 0)) ∧ W1.heap[w.heap.size + 1]? = some (.cells #[.bool false] 4 (0, 0))) := boxed (by
    constructor
    · rw [← hW1, Below.heap_alloc _ _ _ (by simp)]; exact heap_alloc_new w _
    · have := heap_alloc_new (w.alloc (.cells #[.int .i64 a2] 3)) (.cells #[.bool false] 4)
      rw [World.size_alloc] at this
      rw [← hW1]; exact this)
  by_cases hsm : smb a0 1 = true
  · obtain ⟨⟨q1, q2⟩, -⟩ := (smb_iff _ _).1 hsm
    rw [hsm] at hs
    obtain ⟨n, rfl⟩ : ∃ n : Nat, a0 = n := ⟨a0.toNat, by omega⟩
    have hp := fun w' (hb : Below w.heap.size w w') => played_any n 1 (by omega) ⟨by omega, by omega⟩ ao1 n1 cap1 O1 w' hn1 (hO1.keep (fun k i u _ hc => ⟨trivial, hold hb hc⟩))
    have HP := boxed hp
    clear hp hsm hO1
    gi_wp2_with fail
    refine ⟨trivial, (callsIn_wide.2 (awake_any _)).mono ?_⟩
    rintro e w1 ⟨rfl, hb1⟩
    have HB1 : Box (Below W1.heap.size W1 w1) := boxed hb1
    clear hb1
    gi_wp2_with fail
    refine ⟨trivial, (callsIn_wide.2 (hs _)).mono ?_⟩
    rintro e w1' ⟨rfl, hw'⟩
    subst w1'
    gi_wp2_with fail
    refine ⟨trivial, (callsIn_wide.2 (HP.out _ (below_step HW1.out (by omega) HB1.out))).mono ?_⟩
    rintro e w2 ⟨lb, b, off, cp, aL, capL, k, s, bare, -, -, -, rfl, hlb, hL, hr, hb2⟩
    have HB2 := boxed (below_step HB1.out (Nat.le_refl _) hb2)
    have HL := boxed hL
    have HR := boxed hr
    clear hL hr hb2 HP
    have hlt2 := HL.out.lt
    have hlen := HL.out.len
    have HSK := boxed HL.out.ok
    have hB2z := HB2.out.size
    obtain ⟨wx, hwx⟩ : ∃ wx, w2.alloc (.cells #[.slice (some ⟨b, off, none⟩) s.length cp, .int .i64 bare] 28) = wx := ⟨_, rfl⟩
    have hbx : Below w2.heap.size w2 wx := by rw [← hwx]; exact (Below.refl _ _).alloc (Nat.le_refl _) _
    have hc0 : wx.cell? ⟨w2.heap.size, 0, none⟩ = some (.slice (some ⟨b, off, none⟩) s.length cp) := by rw [← hwx, cell_new _ _ _ _ _ rfl]; rfl
    have HRR := boxed (rruns_sh wx b off cp s (HR.out.below hbx).cells HR.out.len HR.out.ok)
    have HBx := boxed hbx
    clear hbx HR
    gi_wp2_with fail
    refine ⟨trivial, (callsIn_wide.2 HRR.out).mono ?_⟩
    rintro e w4 ⟨so4, sc4, rfl, ho4, hb4⟩
    have HO4 := boxed ho4
    have HB4 := boxed (below_step HBx.out (Nat.le_refl _) hb4)
    clear ho4 hb4 HRR hc0 HBx
    have hB4z := HB4.out.size
    have HL4 := boxed (HL.out.below HB4.out)
    obtain ⟨w5, hw5⟩ : ∃ w5, ((w4.alloc (.cells #[.slice so4 (enc s).length sc4] 33)).alloc (.cells #[.int .i64 0] 3)).alloc (.cells #[.int .i64 0] 3) = w5 := ⟨_, rfl⟩
    have h3 := heap3 w4 (.cells #[.slice so4 (enc s).length sc4] 33) (.cells #[.int .i64 0] 3) (.cells #[.int .i64 0] 3)
    have hb5 : Below w4.heap.size w4 w5 := by rw [← hw5]; exact ((((Below.refl _ w4).alloc (Nat.le_refl _) _).alloc (by simp) _).alloc (by simp; omega) _)
    have hz5 : w5.heap.size = w4.heap.size + 3 := by rw [← hw5]; simp
    rw [hw5] at h3
    have HH5 := boxed h3
    have HL5 := boxed (HL4.out.below hb5)
    have HB5 := boxed hb5
    have HP5 : Box (PartsAt (· < w4.heap.size) w5 aL s) := boxed (HL4.out.pts.keep (fun k i u hs hc => ⟨World.block_lt_of_cell? w4 ⟨k, i, none⟩ hc, hold hb5 hc⟩))
    have HW5 := boxed hw5
    clear hb5 h3 HL4 HL hw5
    gi_wp2_with fail
    rw [HW5.out]
    refine ⟨trivial, (each_in _ w4.heap.size HL5.out HP5.out).mono ?_⟩
    rintro e w6 ⟨Bf, Bp, Bt, rfl, ⟨z1, z2, z3⟩, hV, hb6⟩
    have HV6 := boxed hV
    have HB6 := boxed hb6
    clear hV hb6
    gi_wp2_with fail
    have hB6z := HB6.out.size
    have HV0 := HV6
    have hk4 : w.heap.size + 2 ≤ w4.heap.size := by omega
    have HE0 : Box (Ev w5 s (w4.heap.size + 1) [] w6) := boxed ⟨⟨by rw [HB6.out.block _ (by omega)]; exact HH5.out.2.1, by rw [HB6.out.block _ (by omega)]; exact HH5.out.2.2, List.nil_prefix⟩, HB6.out.mono (by omega)⟩
    have HCL : Box (∀ W', Below (w4.heap.size + 1) w5 W' → W'.heap[w.heap.size]? = some (.cells #[.int .i64 a2] 3 (0, 0)) ∧ W'.heap[w.heap.size + 1]? = some (.cells #[.bool false] 4 (0, 0)) ∧ W'.heap[w4.heap.size]? = some (.cells #[.slice so4 (enc s).length sc4] 33 (0, 0)) ∧ Below w.heap.size w W') := boxed (fun W' hb => by
      have hb4 : Below w4.heap.size w4 W' := HB5.out.trans (hb.mono (by omega))
      have hb2 : Below w2.heap.size w2 W' := below_step HB4.out (Nat.le_refl _) hb4
      have hb1 : Below W1.heap.size W1 W' := below_step HB2.out (Nat.le_refl _) hb2
      exact ⟨by rw [hb1.block _ (by omega)]; exact HL1.out.1, by rw [hb1.block _ (by omega)]; exact HL1.out.2, by rw [hb.block _ (by omega)]; exact HH5.out.1, below_step HW1.out (by omega) hb1⟩)
    have HRW : Box (∀ W', Below (w4.heap.size + 1) w5 W' → P2At (fun _ => True) W' so4 (enc s).length (fun i => (((enc s).getD i (0, 0)).1 : Nat)) (fun i => Ys (enc s) i)) := boxed (fun W' hb => by
      have hb4 : Below w4.heap.size w4 W' := HB5.out.trans (hb.mono (by omega))
      exact (own_runs HO4.out rfl (enc_ok HSK.out (by omega))).keep (fun k i u _ hc => ⟨trivial, hold hb4 hc⟩))
    have hgl := gv_all_len s
    have hel := enc_len s
    clear HH5 HL5 HP5 HW5 HB4 HB5 HO4 HL1
    refine wp_btw w4.heap.size Bf Bp Bt aL capL s 0 s.length (Nat.zero_le _) (Nat.le_refl _) hlen HSK.out rfl HV6.out (by omega) rfl
      (Ev w5 s (w4.heap.size + 1)) (Ex w5 s (w4.heap.size + 1) a2) (Ev.own _ _ _ _ (by omega) (by omega)) (fun c => Ex.own _ _ _ _ c _ (by omega) (by omega)) HE0.out
      (fun x a' W => ∃ rb, a' = { tmps := #[.int .i64 (n : Nat), .slice ao1 n1 cap1, .int .i64 a2, undef, undef, .pointer (some ⟨w.heap.size, 0, none⟩), .pointer (some ⟨w.heap.size + 1, 0, none⟩), .pointer (some ⟨lb, 0, none⟩), .pointer (some ⟨w2.heap.size, 0, none⟩), .pointer (some ⟨w4.heap.size, 0, none⟩), .pointer (some ⟨w4.heap.size + 1, 0, none⟩), .pointer (some ⟨w4.heap.size + 1 + 1, 0, none⟩), .int .i64 (x.1.1 : Nat), .pointer (some ⟨rb, 0, none⟩), .bool true, .bool false, .int .i64 (n : Nat), .bool true, .bool false, .tuple #[.pointer (some ⟨lb, 0, none⟩), .agg #[.slice (some ⟨b, off, none⟩) s.length cp, .int .i64 bare]], .int .i64 (n : Nat), .slice ao1 n1 cap1, .tuple #[.pointer (some ⟨lb, 0, none⟩), .agg #[.slice (some ⟨b, off, none⟩) s.length cp, .int .i64 bare]], .pointer (some ⟨lb, 0, none⟩), .agg #[.slice (some ⟨b, off, none⟩) s.length cp, .int .i64 bare], .pointer (some ⟨lb, 0, none⟩), .bool false, .pointer (some ⟨w2.heap.size, 0, none⟩), .slice (some ⟨b, off, none⟩) s.length cp, .slice so4 (enc s).length sc4, .pointer (some ⟨lb, 0, none⟩),
        .func (.func 50) #[] #[.pointer (some ⟨Bf, 0, none⟩), .pointer (some ⟨Bp, 0, none⟩), .pointer (some ⟨Bt, 0, none⟩)], .int .i64 (x.1.1 : Nat), .agg #[.int .i64 (x.1.2.1 : Nat), .int .i64 x.1.2.2], undef, undef, undef, undef, undef, undef, undef, undef, undef, undef, undef, undef, undef, undef, undef, undef, undef, undef, undef, undef, undef, undef, undef, undef, undef, undef, undef, undef, undef, undef, undef, undef, undef, undef, undef], defers := [] } ∧ W.heap[rb]? = some (.cells #[.int .i64 (x.1.2.1 : Nat), .int .i64 x.1.2.2] 58 (0, 0)))
      (fun x a' _ W W' row h hg hr => by obtain ⟨rb, e, hb⟩ := h; exact ⟨rb, e, blk_turn hb hg (fun r e => (hr r e).2)⟩) ?assign ?body ?done ?stop
    case assign =>
      intro l pre x W K hI hV hK
      have HI := boxed hI
      have HVx := boxed hV
      have HKx := boxed hK
      clear hI hV hK
      gi_wp2
      have hBA := (Below.refl W.heap.size W).alloc (Nat.le_refl _) (Obj.cells #[Value.int IntKind.i64 (x.1.2.1 : Nat), Value.int IntKind.i64 x.1.2.2] 58)
      exact HKx.out _ _ ((KeepsOthers.alloc _ _).from _) (HVx.out.below hBA) (HI.out.next hBA) ⟨W.heap.size, rfl, heap_alloc_new _ _⟩
    case body =>
      rintro l pre x a' W hl' hEv hV ⟨rb, rfl, hrb⟩ hlt'
      rw [hgl] at hlt'
      obtain ⟨e1, e2, e3, -⟩ := HCL.out _ hEv.2
      have cL := cell_one e1
      have cS := cell_one e2
      have fS := frz_one e2
      have cW := cell_one e3
      have cK := cell_one hEv.1.1
      have fK := frz_one hEv.1.1
      have cA := cell_one hEv.1.2.1
      have fA := frz_one hEv.1.2.1
      have cr0 : W.cell? ⟨rb, 0, none⟩ = some (.int .i64 (x.1.2.1 : Nat)) := by simp [World.cell?, hrb]
      have cr1 : W.cell? ⟨rb, 1, none⟩ = some (.int .i64 x.1.2.2) := by simp [World.cell?, hrb]
      have hRW := HRW.out _ hEv.2
      obtain ⟨rw0, rof0, rfl, -⟩ := hRW.form (by omega)
      obtain ⟨p0, p1⟩ := hRW.get pre.length hlt'
      have hx := x.2
      have hBl := Bg_le (enc s) (can_enc s) pre.length
      rw [sm_enc] at hBl
      have hgd := guardRun
      have hne := fun w => neqRun (x.1.2.1 : Nat) x.1.2.2 (((enc s).getD pre.length (0, 0)).1 : Nat) (Ys (enc s) pre.length) w
      have HG := boxed (each_good (x := x) HSK.out hlen hEv.1.2.2 hlt')
      have HEv := boxed hEv
      have HVx := boxed hV
      clear hV hEv e1 e2 e3 hrb hRW
      by_cases ce : x.1.2.1 = ((enc s).getD pre.length (0, 0)).1 ∧ x.1.2.2 = Ys (enc s) pre.length
      · have te : (!(((x.1.2.1 : Nat) : Int) == (((enc s).getD pre.length (0, 0)).1 : Nat) && x.1.2.2 == Ys (enc s) pre.length)) = false := by simp [ce.1, ce.2]
        simp only [te] at hne
        by_cases cf : x.1.1 = Bg (enc s) pre.length
        · have HGo : Box (pre ++ [x] <+: gv s 0 s.length) := boxed (HG.out.2 (by rw [← cf, ← ce.1, ← ce.2]))
          have HSt := boxed (fun W' (h : Below W.heap.size W W') => (HEv.out.next h).step hlt' HGo.out ce.1)
          have HVs := boxed (fun W' (h : Below W.heap.size W W') => (HVx.out.below h).step (kb := w4.heap.size + 1) (by omega) (by omega) (by omega) (by omega))
          have tf : ((((x.1.1 : Nat) : Int)) == ((Bg (enc s) pre.length : Nat) : Int)) = true := by rw [cf]; simp
          have hsum : IntKind.i64.wrap (((Bg (enc s) pre.length : Nat) : Int) + ((x.1.2.1 : Nat) : Int)) = ((Bg (enc s) pre.length : Nat) : Int) + ((x.1.2.1 : Nat) : Int) := by rw [IntKind.wrap_i64]; omega
          clear HG ce te cf
          generalize ((enc s).getD pre.length (0, 0)).1 = R1 at *
          generalize Ys (enc s) pre.length = Y1 at *
          --BODY
          by_cases cg : (pre.length : Int) + 1 = a2
          · have tg : ((pre.length : Int) + 1 == a2) = true := by simpa using cg
            have tl : decide ((enc s).length ≤ pre.length) = false := decide_eq_false (by omega)
            gi_wp2_with fail
            refine wpIn_region_round_lit l rfl (by kernel_rfl) (by kernel_rfl) (by kernel_rfl) ?_
            repeat (gi_big_quiet_step (fail))
            refine wpQuietIn_nil ?_
            intro _ hw'
            obtain ⟨nq, hw''⟩ := hw'
            subst hw''
            have hbq : Below W.heap.size W (W.drewN nq) := bel_drewN _ _ _
            have kdr : KeepsOthers W (W.drewN nq) := ⟨Nat.le_refl _, fun _ _ h _ => h⟩
            have dL : (W.drewN nq).cell? _ = _ := cL
            have dS : (W.drewN nq).cell? _ = _ := cS
            have gS : (W.drewN nq).frozen? _ = _ := fS
            have dK : (W.drewN nq).cell? _ = _ := cK
            have gK : (W.drewN nq).frozen? _ = _ := fK
            have dA : (W.drewN nq).cell? _ = _ := cA
            have gA : (W.drewN nq).frozen? _ = _ := fA
            have dr0 : (W.drewN nq).cell? _ = _ := cr0
            gi_wp2
            exact ⟨((kdr.trans (KeepsOthers.setCell _ _ _)).trans (KeepsOthers.setCell _ _ _)).from _, .inr ⟨rfl, by simp; exact cg, by have h7 := HSt.out _ hbq; rw [cg] at h7; exact h7⟩⟩
          · have tg : ((pre.length : Int) + 1 == a2) = false := by simpa using cg
            have tl : decide ((enc s).length ≤ pre.length) = false := decide_eq_false (by omega)
            gi_wp2_with fail
            refine wpIn_region_round_lit l rfl (by kernel_rfl) (by kernel_rfl) (by kernel_rfl) ?_
            repeat (gi_big_quiet_step (fail))
            refine wpQuietIn_nil ?_
            intro _ hw'
            obtain ⟨nq, hw''⟩ := hw'
            subst hw''
            have hbq : Below W.heap.size W (W.drewN nq) := bel_drewN _ _ _
            have kdr : KeepsOthers W (W.drewN nq) := ⟨Nat.le_refl _, fun _ _ h _ => h⟩
            have dL : (W.drewN nq).cell? _ = _ := cL
            have dS : (W.drewN nq).cell? _ = _ := cS
            have gS : (W.drewN nq).frozen? _ = _ := fS
            have dK : (W.drewN nq).cell? _ = _ := cK
            have gK : (W.drewN nq).frozen? _ = _ := fK
            have dA : (W.drewN nq).cell? _ = _ := cA
            have gA : (W.drewN nq).frozen? _ = _ := fA
            have dr0 : (W.drewN nq).cell? _ = _ := cr0
            gi_wp2
            exact ⟨((kdr.trans (KeepsOthers.setCell _ _ _)).trans (KeepsOthers.setCell _ _ _)).from _, HVs.out _ hbq _ _, HSt.out _ hbq⟩
        · have HNo : Box (¬ pre ++ [x] <+: gv s 0 s.length) := boxed (fun h => cf (by have := HG.out.1 h; rw [this]))
          have tf : ((((x.1.1 : Nat) : Int)) == ((Bg (enc s) pre.length : Nat) : Int)) = false := by rw [beq_eq_false_iff_ne]; omega
          clear HG ce te
          generalize ((enc s).getD pre.length (0, 0)).1 = R1 at *
          generalize Ys (enc s) pre.length = Y1 at *
          have tl : decide ((enc s).length ≤ pre.length) = false := decide_eq_false (by omega)
          gi_wp2_with fail
          refine wpIn_region_round_lit l rfl (by kernel_rfl) (by kernel_rfl) (by kernel_rfl) ?_
          repeat (gi_big_quiet_step (fail))
          refine wpQuietIn_nil ?_
          intro _ hw'
          obtain ⟨nq, hw''⟩ := hw'
          subst hw''
          have hbq : Below W.heap.size W (W.drewN nq) := bel_drewN _ _ _
          have kdr : KeepsOthers W (W.drewN nq) := ⟨Nat.le_refl _, fun _ _ h _ => h⟩
          have dL : (W.drewN nq).cell? _ = _ := cL
          have dS : (W.drewN nq).cell? _ = _ := cS
          have gS : (W.drewN nq).frozen? _ = _ := fS
          have dK : (W.drewN nq).cell? _ = _ := cK
          have gK : (W.drewN nq).frozen? _ = _ := fK
          have dA : (W.drewN nq).cell? _ = _ := cA
          have gA : (W.drewN nq).frozen? _ = _ := fA
          have dr0 : (W.drewN nq).cell? _ = _ := cr0
          gi_wp2
          exact ⟨(kdr.trans (KeepsOthers.setCell _ _ _)).from _, .inl ⟨rfl, HNo.out⟩⟩
      · have HNo : Box (¬ pre ++ [x] <+: gv s 0 s.length) := boxed (fun h => ce (by have := HG.out.1 h; rw [this]; exact ⟨rfl, rfl⟩))
        have te : (!(((x.1.2.1 : Nat) : Int) == (((enc s).getD pre.length (0, 0)).1 : Nat) && x.1.2.2 == Ys (enc s) pre.length)) = true := by
          by_cases c1 : x.1.2.1 = ((enc s).getD pre.length (0, 0)).1
          · have c2 : x.1.2.2 ≠ Ys (enc s) pre.length := fun e => ce ⟨c1, e⟩
            simp [c2]
          · have c1' : (((x.1.2.1 : Nat) : Int) == (((enc s).getD pre.length (0, 0)).1 : Nat)) = false := by rw [beq_eq_false_iff_ne]; omega
            rw [c1']; rfl
        simp only [te] at hne
        clear HG ce te
        generalize ((enc s).getD pre.length (0, 0)).1 = R1 at *
        generalize Ys (enc s) pre.length = Y1 at *
        have tl : decide ((enc s).length ≤ pre.length) = false := decide_eq_false (by omega)
        gi_wp2_with fail
        refine wpIn_region_round_lit l rfl (by kernel_rfl) (by kernel_rfl) (by kernel_rfl) ?_
        repeat (gi_big_quiet_step (fail))
        refine wpQuietIn_nil ?_
        intro _ hw'
        obtain ⟨nq, hw''⟩ := hw'
        subst hw''
        have hbq : Below W.heap.size W (W.drewN nq) := bel_drewN _ _ _
        have kdr : KeepsOthers W (W.drewN nq) := ⟨Nat.le_refl _, fun _ _ h _ => h⟩
        have dL : (W.drewN nq).cell? _ = _ := cL
        have dS : (W.drewN nq).cell? _ = _ := cS
        have gS : (W.drewN nq).frozen? _ = _ := fS
        have dK : (W.drewN nq).cell? _ = _ := cK
        have gK : (W.drewN nq).frozen? _ = _ := fK
        have dA : (W.drewN nq).cell? _ = _ := cA
        have gA : (W.drewN nq).frozen? _ = _ := fA
        have dr0 : (W.drewN nq).cell? _ = _ := cr0
        gi_wp2
        exact ⟨(kdr.trans (KeepsOthers.setCell _ _ _)).from _, .inl ⟨rfl, HNo.out⟩⟩
    case done =>
      rintro D W hD hEv hV hK
      rw [show Ev w5 s (w4.heap.size + 1) (gv s 0 s.length) W ↔ Ev w5 s (w4.heap.size + 1) (gv s 0 s.length) W from Iff.rfl] at hEv
      obtain ⟨e1, e2, e3, hBW⟩ := HCL.out _ hEv.2
      have HBW := boxed hBW
      have cL := cell_one e1
      have cS := cell_one e2
      have fS := frz_one e2
      have cW := cell_one e3
      have cK := cell_one hEv.1.1
      rw [hgl] at cK
      clear hEv hV e1 e2 e3 hBW
      gi_wp2_with fail
      have hK' := (KeepsOthers.setCell W ⟨w.heap.size + 1, 0, none⟩ (.bool true)).same D _ hK rfl
      have hc5 := cell_kept (World.cell?_setCell_same' W ⟨w.heap.size + 1, 0, none⟩ (.bool true) (by rw [cS]; rfl)) (grownBy_putObj' _ D (.deferred none)) (fun r e => by cases e; exact ⟨_, hK', rfl⟩)
      refine ⟨by simp, .inl ⟨_, _, rfl, run_takeDeferred hK', ?_⟩⟩
      refine ⟨.bool true, ?_, rfl, (HBW.out.setCell (p := ⟨w.heap.size + 1, 0, none⟩) (by show w.heap.size ≤ w.heap.size + 1; omega) _).trans (belowK_b (w := w) (Nat.le_refl _) _ D _ _ (by omega) hK' rfl rfl)⟩
      simp [results, Try.f7, go_sem, hc5]
    case stop =>
      rintro D c pre W hD hpre hX hK
      rcases hX with ⟨rfl, hno⟩ | ⟨rfl, hq, hEv⟩
      · exact absurd hpre hno
      · obtain ⟨e1, e2, e3, hBW⟩ := HCL.out _ hEv.2
        have HBW := boxed hBW
        have cL := cell_one e1
        have cS := cell_one e2
        have fS := frz_one e2
        have cW := cell_one e3
        have cK := cell_one hEv.1.1
        have tq : ((pre.length : Int) == a2) = true := by simpa using hq
        clear hEv e1 e2 e3 hBW hq
        by_cases ck : (pre.length : Int) = ((enc s).length : Nat)
        · have tk : ((pre.length : Int) == ((enc s).length : Nat)) = true := by simpa using ck
          gi_wp2_with fail
          have hK' := (KeepsOthers.setCell W ⟨w.heap.size + 1, 0, none⟩ (.bool true)).same D _ hK rfl
          have hc5 := cell_kept (World.cell?_setCell_same' W ⟨w.heap.size + 1, 0, none⟩ (.bool true) (by rw [cS]; rfl)) (grownBy_putObj' _ D (.deferred none)) (fun r e => by cases e; exact ⟨_, hK', rfl⟩)
          refine ⟨by simp, .inl ⟨_, _, rfl, run_takeDeferred hK', ?_⟩⟩
          refine ⟨.bool true, ?_, rfl, (HBW.out.setCell (p := ⟨w.heap.size + 1, 0, none⟩) (by show w.heap.size ≤ w.heap.size + 1; omega) _).trans (belowK_b (w := w) (Nat.le_refl _) _ D _ _ (by omega) hK' rfl rfl)⟩
          simp [results, Try.f7, go_sem, hc5]
        · have tk : ((pre.length : Int) == ((enc s).length : Nat)) = false := by simpa using ck
          gi_wp2_with fail
          have hK' := (KeepsOthers.setCell W ⟨w.heap.size + 1, 0, none⟩ (.bool true)).same D _ hK rfl
          have hc5 := cell_kept (World.cell?_setCell_same' W ⟨w.heap.size + 1, 0, none⟩ (.bool true) (by rw [cS]; rfl)) (grownBy_putObj' _ D (.deferred none)) (fun r e => by cases e; exact ⟨_, hK', rfl⟩)
          refine ⟨by simp, .inl ⟨_, _, rfl, run_takeDeferred hK', ?_⟩⟩
          refine ⟨.bool true, ?_, rfl, (HBW.out.setCell (p := ⟨w.heap.size + 1, 0, none⟩) (by show w.heap.size ≤ w.heap.size + 1; omega) _).trans (belowK_b (w := w) (Nat.le_refl _) _ D _ _ (by omega) hK' rfl rfl)⟩
          simp [results, Try.f7, go_sem, hc5]
  · have hsm' : smb a0 1 = false := by simpa using hsm
    rw [hsm'] at hs
    clear hsm hsm' hO1
    gi_wp2_with fail
    refine ⟨trivial, (callsIn_wide.2 (awake_any _)).mono ?_⟩
    rintro e w1 ⟨rfl, hb1⟩
    have HB1 : Box (Below W1.heap.size W1 w1) := boxed hb1
    have HR1 : Box (w1.heap[w.heap.size + 1]? = some (.cells #[.bool false] 4 (0, 0))) := boxed (by rw [hb1.block _ (by omega)]; exact HL1.out.2)
    clear hb1
    have cS := cell_one HR1.out
    have fS := frz_one HR1.out
    gi_wp2_with fail
    refine ⟨trivial, (callsIn_wide.2 (hs _)).mono ?_⟩
    rintro e w1' ⟨rfl, hw'⟩
    subst w1'
    gi_wp2
    have hc5 := World.cell?_setCell_same' w1 ⟨w.heap.size + 1, 0, none⟩ (.bool true) (by rw [cS]; rfl)
    refine ⟨.bool true, ?_, rfl, (below_step HW1.out (by omega) HB1.out).setCell (p := ⟨w.heap.size + 1, 0, none⟩) (by show w.heap.size ≤ w.heap.size + 1; omega) _⟩
    simp [results, Try.f7, go_sem, hc5]
end Go.Proofs.Ytdchpiihjjjpfaa
