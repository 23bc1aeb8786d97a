/-
  For every list of styles and every line the law LocateStops answers true: each rune stands where the document says, and the line is as wide as it says.
  No condition besides the statement's own (styles that aren't right, and lines that aren't tried, are let go by the law itself).
-/
import Derived.Test.YtcdcpmcjlchfgaaRows
import Derived.WalkKit
import Derived.ProofKit
import Derived.OpenShut
import Derived.SizedLaws
import Derived.ShutString
import Derived.ChangeOld
import Derived.Below
import Derived.Test.YtcdcpmcjlchfgaaLpm
import Derived.Test.YtcdcpmcjlchfgaaLpn
import Derived.Test.YtcdcpmcjlchfgaaLpr
import Derived.Deep.Cut
import Derived.Deep.RegionHeld3
import Derived.Lib.QuietBelow
import Derived.BigQuiet
namespace Go.Proofs.Ytcdcpmcjlchfgaa.locateStops
open Go.ChangeShapes Go.WideShapes Go.ChangeAt Go.RowKit
open Go.ChangeMaps (open_string shut_string)
set_option linter.unusedVariables false
set_option linter.unusedSimpArgs false

theorem own : ownKnob Try.prog.godebug = none := by kernel_rfl
theorem laidOut : laidOutB Try.prog = true := by kernel_rfl

set_option maxRecDepth 100000 in
set_option maxHeartbeats 8000000 in
theorem walk (w : World) (ao0 : Option Addr) (n0 cap0 : Nat) (F0 : Nat → Sty) (hn0 : n0 ≤ cap0 ∧ cap0 * 80 ≤ 140737488351232) (hF0 : StysAt (fun _ => True) w ao0 n0 F0) (x1 : Lne) (hx1 : LneOk x1) (hp1 : P2At (fun _ => True) w x1.ra x1.rn x1.L x1.Y) :
    Calls Try.prog 4 #[.slice ao0 n0 cap0, x1.val] w fun e w' => e = .returned (.bool true) ∧ Below w.heap.size w w' := by
  have htb := boxed (fun W (hb : Below w.heap.size w W) => table_any (fun _ => True) ao0 n0 cap0 F0 W (hF0.below hb))
  have HF0 := boxed hF0
  have HP1 := boxed hp1
  have hrn := hx1.rn
  have HRN := boxed hrn
  have HTr := boxed (fun W (hb : Below w.heap.size w W) => tried_any (fun _ => True) x1 W (hp1.below hb) hx1)
  obtain ⟨w0, hw0, hB0, hz0, hLn⟩ := lnat_new w x1
  have HW0 := boxed hw0
  have HB0 := boxed hB0
  have HLn := boxed hLn
  have HAw := boxed (fun W => awake_any W)
  clear hF0 hp1 hx1 hw0 hB0 hLn hrn
  unfold Lne.val at HTr ⊢
  go_enter Try.func4, Try.ntmps4
  go_upto_region 1 with (fail)
  rw [HW0.out]
  go_wp2_with fail
  refine (HAw.out _).mono ?_
  rintro e w1 ⟨rfl, hb1⟩
  have HB1 := boxed (below_step HB0.out (Nat.le_refl _) hb1)
  have HLn1 := boxed (fun W (hb : Below w1.heap.size w1 W) => HLn.out W (below_step hb1 (Nat.le_refl _) hb))
  clear hb1 HAw HLn
  go_wp2_with fail
  refine (htb.out _ HB1.out).mono ?_
  rintro e w2 ⟨hor, hb2⟩
  have HB2 := boxed (below_step HB1.out (Nat.le_refl _) hb2)
  have HLn2 := boxed (fun W (hb : Below w2.heap.size w2 W) => HLn1.out W (below_step hb2 (Nat.le_refl _) hb))
  clear hb2 htb HLn1
  have hun : undef = Value.tuple #[] := rfl
  rcases hor with ⟨hne, rfl⟩ | ⟨hz, tb, G, rfl, hT, hL⟩
  · go_wp2_with fail
    go_ret
    exact ⟨rfl, HB2.out⟩
  have hg : ∀ i, i < n0 → flt (G i) = 0 := fun i hi => by rw [flt_like (hL i hi)]; exact (ckc_good F0 n0 hz).2.2 i hi
  have hgF : ∀ i, i < n0 → flt (F0 i) = 0 := (ckc_good F0 n0 hz).2.2
  have HT := boxed (hT.mono HB1.out.size)
  have HG := boxed hg
  have HGF := boxed hgF
  have HLk : Box (∀ a, Like (ofS F0 n0 a) (ofS G n0 a)) := boxed (ofS_like hL)
  clear hT hL hz hg hgF
  obtain ⟨c0, c1, c2, c3, c4, c5, c6, c7, c8⟩ := (HLn2.out w2 (Below.refl _ _)).cells
  go_wp2_with fail
  refine (HTr.out _ HB2.out).mono ?_
  rintro e w3 ⟨⟨b, rfl, hb⟩, hb3⟩
  have HB3 := boxed (below_step HB2.out (Nat.le_refl _) hb3)
  have HLn3 := boxed (fun W (hb : Below w3.heap.size w3 W) => HLn2.out W (below_step hb3 (Nat.le_refl _) hb))
  have HT3 := boxed (HT.out.below hb3)
  have HBb := boxed hb
  clear hb hb3 HLn2 HTr c0 c1 c2 c3 c4 c5 c6 c7 c8 HT
  cases b with
  | false =>
    go_wp2_with fail
    go_ret
    exact ⟨rfl, HB3.out⟩
  | true =>
    obtain ⟨N, hN⟩ := HBb.out (by first | rfl | trivial)
    have htx := hN.tx
    have hNs : N ≤ 200 := by have := cnt_le x1.tx N hN.ok.1; have := it_le x1.tx N; omega
    have HSt := boxed (fun W (hb : Below w3.heap.size w3 W) => stops_any (HT3.out.below hb) HG.out (fun _ => True) x1 (HP1.out.below (below_step HB3.out (Nat.le_refl _) hb)) HRN.out N hN.ok (by omega))
    have HRs := boxed (fun W (hb : Below w3.heap.size w3 W) => refstops_any (fun _ => True) ao0 n0 cap0 F0 W (HF0.out.below (below_step HB3.out (Nat.le_refl _) hb)) HGF.out (fun _ => True) x1 (HP1.out.below (below_step HB3.out (Nat.le_refl _) hb)) HRN.out N hN.ok (by omega))
    have HWd := boxed (fun W (hb : Below w3.heap.size w3 W) => pwidth_any (HT3.out.below hb) HG.out (fun _ => True) x1 (HP1.out.below (below_step HB3.out (Nat.le_refl _) hb)) HRN.out N hN.ok (by omega))
    have HRw := boxed (fun W (hb : Below w3.heap.size w3 W) => rwidth_any (fun _ => True) ao0 n0 cap0 F0 W (HF0.out.below (below_step HB3.out (Nat.le_refl _) hb)) HGF.out (fun _ => True) x1 (HP1.out.below (below_step HB3.out (Nat.le_refl _) hb)) HRN.out N hN.ok (by omega))
    have HXe : Box (∀ k, xs (ofS G n0) x1.L x1.Y x1.rn x1.num x1.den x1.tx N k = xs (ofS F0 n0) x1.L x1.Y x1.rn x1.num x1.den x1.tx N k) := boxed (fun k => xs_like HLk.out _ _ _ _ _ _ _ k)
    have HWe : Box (wdT (ofS G n0) x1 N = wdT (ofS F0 n0) x1 N) := boxed (wdT_like HLk.out x1 N)
    have HXf : Box ((fun k => xs (ofS G n0) x1.L x1.Y x1.rn x1.num x1.den x1.tx N k) = fun k => xs (ofS F0 n0) x1.L x1.Y x1.rn x1.num x1.den x1.tx N k) := boxed (funext HXe.out)
    rw [HXf.out] at HSt
    rw [HWe.out] at HWd
    generalize (fun k => xs (ofS F0 n0) x1.L x1.Y x1.rn x1.num x1.den x1.tx N k) = X at *
    generalize wdT (ofS F0 n0) x1 N = WD at *
    obtain ⟨M, hM⟩ : ∃ M, N + 1 = M := ⟨_, rfl⟩
    rw [hM] at HSt HRs
    have hM1 : M ≤ 201 := by omega
    clear hN HBb HXe HWe HXf HLk hM htx hNs
    unfold Lne.val at HSt HRs HWd HRw
    go_wp2_with fail
    have HD : Box (Below w3.heap.size w3 w3.drew) := boxed (Below.refl _ _).drew
    have HC : Box (∀ W, Below w3.heap.size w3 W → W.cell? ⟨w.heap.size, 0, none⟩ = some (.string x1.tx) ∧ W.cell? ⟨w.heap.size, 1, none⟩ = some (.slice x1.ra x1.rn x1.rc) ∧ W.cell? ⟨w.heap.size, 2, none⟩ = some (.int .i64 x1.num) ∧ W.cell? ⟨w.heap.size, 3, none⟩ = some (.int .i64 x1.den) ∧ W.cell? ⟨w.heap.size, 4, none⟩ = some (.int .i64 x1.h) ∧ W.cell? ⟨w.heap.size, 5, none⟩ = some (.bool x1.hy) ∧ W.cell? ⟨w.heap.size, 6, none⟩ = some (.int .i64 x1.y) ∧ W.cell? ⟨w.heap.size, 7, none⟩ = some (.bool x1.bg) ∧ W.cell? ⟨w.heap.size, 8, none⟩ = some (.bool x1.en)) := boxed (fun W hb => (HLn3.out W hb).cells)
    go_region_held3 (fun W => W.cell? ⟨w.heap.size, 0, none⟩ = some (.string x1.tx) ∧ W.cell? ⟨w.heap.size, 1, none⟩ = some (.slice x1.ra x1.rn x1.rc) ∧ W.cell? ⟨w.heap.size, 2, none⟩ = some (.int .i64 x1.num) ∧ W.cell? ⟨w.heap.size, 3, none⟩ = some (.int .i64 x1.den) ∧ W.cell? ⟨w.heap.size, 4, none⟩ = some (.int .i64 x1.h) ∧ W.cell? ⟨w.heap.size, 5, none⟩ = some (.bool x1.hy) ∧ W.cell? ⟨w.heap.size, 6, none⟩ = some (.int .i64 x1.y) ∧ W.cell? ⟨w.heap.size, 7, none⟩ = some (.bool x1.bg) ∧ W.cell? ⟨w.heap.size, 8, none⟩ = some (.bool x1.en))
      (first | with_reducible exact HC.out _ HD.out | with_reducible exact HC.out _ HB4.out | with_reducible exact HC.out _ HB5.out)
      (first
        | (go_at_call 19; refine (HSt.out _ HD.out).mono ?_; rintro e w4 ⟨⟨mb, rfl, hp4⟩, hb4⟩; have HB4 := boxed (below_step HD.out (Nat.le_refl _) hb4); have HP4 := boxed hp4; clear hb4 hp4)
        | (go_at_call 20; refine (HRs.out _ HB4.out).mono ?_; rintro e w5 ⟨⟨ro, rc, rfl, hp5⟩, hb5⟩; have HB5 := boxed (below_step HB4.out (Nat.le_refl _) hb5); have HP45 := boxed (HP4.out.below hb5); have HP5 := boxed hp5; clear hb5 hp5))
    clear HSt HRs HP4 HB4 HD
    obtain ⟨c0, c1, c2, c3, c4, c5, c6, c7, c8⟩ := HC.out _ HB5.out
    have vc0 := cell_regrown c0
    have vc1 := cell_regrown c1
    have vc2 := cell_regrown c2
    have vc3 := cell_regrown c3
    have vc4 := cell_regrown c4
    have vc5 := cell_regrown c5
    have vc6 := cell_regrown c6
    have vc7 := cell_regrown c7
    have vc8 := cell_regrown c8
    have C1 : Box (∀ d os, Calls Try.prog 21 #[.pointer (some ⟨tb, 0, none⟩), .agg #[.string x1.tx, .slice x1.ra x1.rn x1.rc, .int .i64 x1.num, .int .i64 x1.den, .int .i64 x1.h, .bool x1.hy, .int .i64 x1.y, .bool x1.bg, .bool x1.en]] (Go.Sort.grow (redrawn w5 d) os) fun e w'' => e = .returned (.int .i64 WD) ∧ ∃ p : Regrown, w'' = Go.Sort.grow (redrawn w5 p.d) p.os) := boxed (fun d os => Calls.regrown_of (HWd.out _ (below_step HB5.out (Nat.le_refl _) (below_regrown w5 d os))))
    have C2 : Box (∀ d os, Calls Try.prog 22 #[.slice ao0 n0 cap0, .agg #[.string x1.tx, .slice x1.ra x1.rn x1.rc, .int .i64 x1.num, .int .i64 x1.den, .int .i64 x1.h, .bool x1.hy, .int .i64 x1.y, .bool x1.bg, .bool x1.en]] (Go.Sort.grow (redrawn w5 d) os) fun e w'' => e = .returned (.int .i64 WD) ∧ ∃ p : Regrown, w'' = Go.Sort.grow (redrawn w5 p.d) p.os) := boxed (fun d os => Calls.regrown_of (HRw.out _ (below_step HB5.out (Nat.le_refl _) (below_regrown w5 d os))))
    clear HWd HRw c0 c1 c2 c3 c4 c5 c6 c7 c8 HC HLn3
    go_wp2_with fail
    refine wp_region_quiet_below (by kernel_rfl) (by kernel_rfl) ?_
    repeat (go_big_quiet_step (first | (go_at_call 21; exact C1.out _ _) | (go_at_call 22; exact C2.out _ _)))
    refine wpQuiet_nil ?_
    intro _ hw'
    obtain ⟨⟨dq, osq⟩, hw''⟩ := hw'
    subst hw''
    have HB6 := boxed (below_step HB3.out (Nat.le_refl _) (below_step HB5.out (Nat.le_refl _) (below_regrown w5 dq osq)))
    have HPa := boxed (HP45.out.below (below_regrown w5 dq osq))
    have HPb := boxed (HP5.out.below (below_regrown w5 dq osq))
    clear vc0 vc1 vc2 vc3 vc4 vc5 vc6 vc7 vc8 C1 C2 HP45 HP5
    generalize Go.Sort.grow (redrawn w5 dq) osq = w6 at *
    clear hun
    go_wp2_with fail
    go_loopw [8] (fun iv wr => ∃ i : Nat, i ≤ M ∧ iv = .int .i64 (i : Nat) ∧ Box (Below w6.heap.size w6 wr)) (fun iv _ => M - (intOf iv).toNat)
    case atStart => exact ⟨0, Nat.zero_le _, rfl, boxed (Below.refl _ _)⟩
    case round =>
      obtain ⟨i, hi, rfl, HB⟩ := hrel
      by_cases hlt : i < M
      · have t0 : decide ((i : Int) < (M : Int)) = true := decide_eq_true (by omega)
        have hlt2 : (i : Int) < (M : Int) := by omega
        have hpb := HPb.out.below HB.out
        obtain ⟨rb, rf, rfl, -⟩ := hpb.form (by omega)
        obtain ⟨q0, q1⟩ := (HPa.out.below HB.out).get i hlt
        obtain ⟨q2, q3⟩ := hpb.get i hlt
        simp only [Nat.zero_add] at q0 q1
        clear hpb
        generalize it x1.tx i = A at *
        generalize X i = Y at *
        go_wp2_with fail
        go_quiet (fail)
        have HBn := boxed (HB.out.trans (bel_drewN _ wr nq))
        go_wp2_with fail
        go_roundw
        case rel => exact ⟨i + 1, by omega, by go_num, HBn⟩
        case measure => simp [intOf] <;> omega
      · obtain rfl : i = M := by omega
        have t0 : decide ((i : Int) < (i : Int)) = false := decide_eq_false (by omega)
        have HF := boxed (below_step HB6.out (Nat.le_refl _) HB.out)
        go_wp2_with fail
        go_ret
        exact ⟨rfl, HF.out⟩

set_option maxRecDepth 100000 in
theorem lifted (os : Os) (started : os.Started) (H : Type) (enc : TypeId × Value → H) :
    ReturnsInHanded {} Try.checked os 4 .any (Rows.locateStopsSpec.pre6 enc Try.prog Try.f4 Rows.locateStopsRow.domain false) (Rows.locateStopsSpec.post enc Try.prog Try.f4 false true false false) := by
  refine returnsInHanded_of_change_sized (C := Try.checked) own started (by kernel_rfl) Try.func4
    (ChangeSpec.witness6 (enc := enc) (C := Try.checked) false ⟨#[], #[.slice none 0 0, .agg #[.string ByteArray.empty, .slice none 0 0, .int .i64 0, .int .i64 0, .int .i64 0, .bool false, .int .i64 0, .bool false, .bool false]], []⟩ 8 (by kernel_rfl) (by kernel_rfl) (by kernel_rfl) (by kernel_rfl)) ?_
  intro W base args ds gs before hval0 hW hcnd hsz0 _
  have hval : ∀ (j : Nat) t v, Try.f4.params[j]? = some t → args[j]? = some v → Value.okWide Try.prog W .any base t v := hval0
  have hsz : (DataW.weightsEach Try.prog (Try.f4.params.toList ++ Rows.locateStopsSpec.plain.varTypes Try.prog) (ds ++ gs)).all (· ≤ reachBytes) = true := hsz0
  have hW' := hW
  obtain ⟨p, q, hA0, hV, rfl, hfz, hnd⟩ := hW
  have hA : DataW.TrodAll enc Try.prog W 0 (fun _ => true) true Try.f4.params.toList args.toList ds p := hA0
  rw [Try.params4] at hA hval hsz
  obtain ⟨v0, vs0, d0, ds0, p0, q0, hargs, rfl, rfl, h0, r0⟩ := trodAll_cons hA
  obtain ⟨v1, vs1, d1, ds1, p1, q1, rfl, rfl, rfl, h1, r1⟩ := trodAll_cons r0
  obtain ⟨rfl, rfl, rfl⟩ := trodAll_nil r1
  obtain rfl : args = #[v0, v1] := by cases args; simp_all
  obtain ⟨rfl, rfl⟩ := trodVars_none hV
  obtain ⟨ao0, n0, cap0, rfl⟩ := okWide_slice Try.underlying38 (hval 0 38 v0 rfl rfl)
  have k0 := h0
  have lt0 : ∀ x ∈ p0, x.block < W.heap.size := by obtain ⟨m, hm⟩ := k0; exact DataW.trod_lt m _ _ _ hm
  obtain ⟨hn0, -, F0, hF0⟩ : (n0 ≤ cap0 ∧ cap0 * 80 ≤ 140737488351232) ∧ (ao0 = none → n0 = 0 ∧ cap0 = 0) ∧ ∃ F, StysAt (fun _ => True) W ao0 n0 F := by
    obtain ⟨fuel, hf⟩ := k0
    exact open_styles hf (fun n hn => by simpa using List.all_eq_true.1 hsz _ (DataW.weights_mem_each (j := 0) rfl rfl n hn))
  have k1 := h1
  have lt1 : ∀ x ∈ p1, x.block < W.heap.size := by obtain ⟨m, hm⟩ := k1; exact DataW.trod_lt m _ _ _ hm
  obtain ⟨x1, rfl, hx1, hp1⟩ : ∃ x : Lne, v1 = x.val ∧ LneOk x ∧ P2At (fun _ => True) W x.ra x.rn x.L x.Y := by
    obtain ⟨fuel, hf⟩ := k1
    exact line15_value hf (fun n hn => by simpa using List.all_eq_true.1 hsz _ (DataW.weights_mem_each (j := 1) rfl rfl n hn))
  clear hA0 hval0
  refine (walk W ao0 n0 cap0 F0 hn0 hF0 x1 hx1 hp1).mono fun e W' ⟨he, hg⟩ => ?_
  subst he
  exact ⟨_, rfl, _, _, _, [], _, [], hW', trodAll_mk1 (shut_bool Try.underlying4 _), (trodAll_cons_mk (Below.trod laidOut (by kernel_rfl) (of_decide_eq_true (by kernel_rfl)) k0 hg lt0) (trodAll_cons_mk (Below.trod laidOut (by kernel_rfl) (of_decide_eq_true (by kernel_rfl)) k1 hg lt1) trodAll_mk0)), rfl, hg.frame _, fun h => by cases h⟩

theorem proved : Rows.LocateStopsSaid :=
  OpenClaim.holds_of_wide 4 Try.f4 rfl rfl rfl rfl rfl rfl rfl ⟨rfl, rfl, rfl, rfl, rfl⟩ rfl rfl rfl rfl rfl (by kernel_rfl) Try.func4 (by kernel_rfl)
    (of_decide_eq_true (by kernel_rfl)) (by unfold Func.isWrapper; first | (rw [if_pos (by decide +kernel)]; kernel_rfl) | (rw [if_neg (by decide +kernel)]; exact ⟨rfl, rfl⟩))
    (fun os started H enc _ => lifted os started H enc)
#print axioms proved
end Go.Proofs.Ytcdcpmcjlchfgaa.locateStops
