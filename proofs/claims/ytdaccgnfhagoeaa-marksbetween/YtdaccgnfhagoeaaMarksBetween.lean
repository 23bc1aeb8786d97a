/-
  THE STATEMENT MarksBetween: the marks from a place up to another one are told by their places; no condition.
-/
import Derived.Test.YtdaccgnfhagoeaaRows
import Derived.WalkKit
import Derived.ProofKit
import Derived.OpenShut
import Derived.SizedLaws
import Derived.ShutString
import Derived.ChangeOld
import Derived.Below
import Derived.Test.YtdaccgnfhagoeaaMkw
namespace Go.Proofs.Ytdaccgnfhagoeaa.marksBetween
open Go.ChangeShapes Go.WideShapes Go.ChangeAt Go.RowKit
open Go.ChangeMaps (open_string shut_string)
set_option linter.unusedVariables false
set_option linter.unusedSimpArgs false

theorem own : ownKnob Try.prog.godebug = none := by kernel_rfl
theorem laidOut : laidOutB Try.prog = true := by kernel_rfl

set_option maxRecDepth 100000 in
set_option maxHeartbeats 2000000 in
theorem walk (w : World) (a0 : Int) (w0 : (Lit.int .i64 a0).wf = true) (ao1 : Option Addr) (n1 cap1 : Nat) (O1 : Nat → Opr) (hO1 : OpsAt w.heap.size w ao1 n1 O1) (x2 y2 : Int) (hx2 : I64 x2 ∧ I64 y2) :
    Calls Try.prog 4 #[.int .i64 a0, .slice ao1 n1 cap1, .agg #[.int .i64 x2, .int .i64 y2]] w fun e w' => e = .returned (.bool true) ∧ Below w.heap.size w w' := by
  clear w0
  have l1 := laid1 w (.cells #[.int .i64 x2, .int .i64 y2] 46)
  generalize hW : w.alloc (.cells #[.int .i64 x2, .int .i64 y2] 46) = W at l1
  obtain ⟨l0, lb, lz⟩ := l1
  have HW := boxed hW
  have HB0 := boxed lb
  have HA := boxed (awake16_any W)
  have HL0 := boxed l0
  clear hW lb l0
  go_enter Try.func4, Try.ntmps4
  go_upto_region 1 with (fail)
  rw [HW.out]
  go_wp2_with fail
  refine HA.out.mono ?_
  rintro e wa ⟨rfl, hba⟩
  have HBa := boxed (below_step HB0.out (Nat.le_refl _) hba)
  have HLa := boxed ((hba.block w.heap.size (by omega)).trans HL0.out)
  have hltb := heap_lt HLa.out
  clear hba HA HB0 HL0
  have hsz0 := size16law_any a0 wa
  by_cases hc : 0 ≤ a0 ∧ a0 ≤ 65536
  rotate_left
  · rw [decide_eq_false hc] at hsz0
    have HSz := boxed hsz0
    clear hsz0
    go_wp2_with fail
    refine HSz.out.mono ?_
    rintro e wz ⟨rfl, hwz⟩
    subst wz
    go_wp2_with fail
    go_ret
    exact ⟨rfl, HBa.out⟩
  rw [decide_eq_true hc] at hsz0
  have HSz := boxed hsz0
  have hp := played16_any (c := cap1) ((hO1.below HBa.out (Nat.le_refl _)).mono HBa.out.size) hc.1 hc.2
  have hok := pls_ok a0 O1 hc.1 hc.2 (min n1 80)
  obtain ⟨s, hs⟩ : ∃ s, pls a0 O1 (min n1 80) = s := ⟨_, rfl⟩
  rw [hs] at hp hok
  have hok := hok.mono (show ((min n1 80 : Nat) : Int) ≤ 80 by omega)
  have HPl := boxed hp
  have HOK := boxed hok
  have hlen := hok.len
  clear hsz0 hp hs hok hO1 hc
  go_wp2_with fail
  refine HSz.out.mono ?_
  rintro e wz ⟨rfl, hwz⟩
  subst wz
  go_wp2_with fail
  refine HPl.out.mono ?_
  rintro e w1 ⟨⟨sb, v, x, rfl, hp1, hr1⟩, hb1⟩
  obtain ⟨a1, c1, rfl, hro⟩ := rbox hr1
  have l2 := laid1 w1 (.cells #[.int .i64 s.sz, .int .i64 s.nx, .slice a1 s.L.length c1] 31)
  have hz1 := hb1.size
  generalize hW2 : w1.alloc (.cells #[.int .i64 s.sz, .int .i64 s.nx, .slice a1 s.L.length c1] 31) = w2 at l2
  obtain ⟨lt8, lb2, lz2⟩ := l2
  have HP2 := boxed (hp1.below lb2)
  have HR2 := boxed (hr1.below lb2)
  have HB2 := boxed (below_step (below_step HBa.out (Nat.le_refl _) hb1) (Nat.le_refl _) lb2)
  have HW2 := boxed hW2
  have HT8 := boxed lt8
  have hL2 := (lb2.block w.heap.size (by omega)).trans ((hb1.block w.heap.size (by omega)).trans HLa.out)
  have HL2 := boxed hL2
  have hL1 := (hb1.block w.heap.size (by omega)).trans HLa.out
  have hlt1 := heap_lt hL1
  have x0 : w1.cell? ⟨w.heap.size, 0, none⟩ = some (.int .i64 x2) := by simp [World.cell?, hL1]
  have x1 : w1.cell? ⟨w.heap.size, 1, none⟩ = some (.int .i64 y2) := by simp [World.cell?, hL1]
  clear hL1
  have HBt := boxed (between16_any HP2.out HOK.out x2 y2)
  clear hp1 hr1 hb1 hro hW2 lt8 lb2 HPl HSz hL2
  go_wp2_with fail
  rw [HW2.out]
  refine HBt.out.mono ?_
  rintro e w3 ⟨⟨u, rfl, hu⟩, hb3⟩
  have HU3 := boxed hu
  have HB3 := boxed (below_step HB2.out (Nat.le_refl _) hb3)
  have hT3 := (hb3.block w1.heap.size (by omega)).trans HT8.out
  obtain ⟨y0, y1, y2'⟩ := (cells3 hT3).1
  have HAl := boxed (refall_any (HR2.out.below hb3) HOK.out)
  have HL3 := boxed ((hb3.block w.heap.size (by omega)).trans HL2.out)
  have hz3 := hb3.size
  clear hu hb3 hT3 x0 x1 HBt
  go_wp2_with fail
  refine HAl.out.mono ?_
  rintro e w4 ⟨⟨z, rfl, hz⟩, hb4⟩
  have HB4 := boxed (below_step HB3.out (Nat.le_refl _) hb4)
  have hu4 := owns_below HU3.out hb4
  have hL4 := (hb4.block w.heap.size (by omega)).trans HL3.out
  have x0 : w4.cell? ⟨w.heap.size, 0, none⟩ = some (.int .i64 x2) := by simp [World.cell?, hL4]
  have x1 : w4.cell? ⟨w.heap.size, 1, none⟩ = some (.int .i64 y2) := by simp [World.cell?, hL4]
  have hml := srt_len s.L
  obtain ⟨M, hM⟩ : ∃ M, srt s.L = M := ⟨_, rfl⟩
  obtain ⟨n, hn⟩ : ∃ n, s.L.length = n := ⟨_, rfl⟩
  rw [hM] at hz hml hu4
  rw [hn] at hz hml hlen
  have HZ4 := boxed hz
  have HU4 := boxed hu4
  obtain ⟨G, hG⟩ : ∃ G, btw M x2 y2 = G := ⟨_, rfl⟩
  have hGl := btw_len M x2 y2
  rw [hG] at HU4 hGl
  obtain ⟨gl, hgl⟩ : ∃ gl, G.length = gl := ⟨_, rfl⟩
  rw [hgl] at HU4 hGl
  obtain ⟨za, zc, rfl⟩ := own_shape HZ4.out
  obtain ⟨ga, gc, rfl⟩ := own_shape1 HU4.out
  have HG := boxed hG
  have HGL := boxed hgl
  have HML := boxed hml
  clear hz hb4 hu4 hL4 HAl HL3 HU3 y0 y1 y2' hM hn hG hgl hml HR2 HP2 HT8 HL2
  go_wp2_with fail
  go_loopw [11, 12] (fun va vb wr => ∃ (k i : Nat), i ≤ n ∧ vb = .int .i64 (i : Nat) ∧ va = .int .i64 (k : Nat) ∧ Box ((btw (M.take i) x2 y2).length = k) ∧ Box (∃ q, wr = w4.drewN q)) (fun _ vb _ => ((n : Int) - intOf vb).toNat)
  case atStart => exact ⟨0, 0, Nat.zero_le _, rfl, rfl, boxed (by simp [btw]), boxed ⟨0, rfl⟩⟩
  case round =>
    obtain ⟨k, i, h1, rfl, rfl, HKi, HQ⟩ := hrel
    obtain ⟨q, rfl⟩ := HQ.out
    have hkn : k ≤ i := by
      have := btw_len (M.take i) x2 y2
      rw [HKi.out] at this
      simp at this; omega
    by_cases hlt : i < n
    · have hiM : i < M.length := by rw [HML.out]; exact hlt
      obtain ⟨g, cap, e', hcap, d0, d1, d2, -⟩ := own_mk HZ4.out i hiM
      injection e' with e1 _ e3
      subst e1; subst e3
      have hlt2 : (i : Int) < (n : Int) := by omega
      have HIn := boxed (btw_in (a := x2) (b := y2) hiM)
      have HOut := boxed (btw_out (a := x2) (b := y2) hiM)
      have hib : isBtw x2 y2 (M[i]'hiM) = decide (x2 ≤ (M[i]'hiM).pl ∧ (M[i]'hiM).pl ≤ y2) := rfl
      have HNx : Box (x2 ≤ (M[i]'hiM).pl ∧ (M[i]'hiM).pl ≤ y2 → ∃ g2 c2, Value.slice ga gl gc = .slice (some ⟨g2, 0, none⟩) gl c2 ∧ k < gl ∧ w4.cell? ⟨g2, k, none⟩ = some (.int .i64 (M[i]'hiM).id)) := boxed (fun hin => by
        obtain ⟨h2, e2⟩ := btw_next (a := x2) (b := y2) hiM (by rw [hib]; exact decide_eq_true hin)
        have h3 : k < G.length := by rw [← HG.out, ← HKi.out]; exact h2
        obtain ⟨g2, c2, e3, -, hc⟩ := own_int HU4.out k h3
        refine ⟨g2, c2, e3, by rw [← HGL.out]; exact h3, ?_⟩
        rw [hc]
        have : G[k]'h3 = (M[i]'hiM).id := by
          rw [← e2]
          simp only [← HG.out, ← HKi.out]
        rw [this])
      rw [hib] at HIn HOut
      clear d2 hib
      generalize (M[i]'hiM).id = I at *
      generalize (M[i]'hiM).pl = P at *
      by_cases c0 : P < x2
      · have t0 : decide (P < x2) = true := decide_eq_true c0
        have HK2 : Box ((btw (M.take (i + 1)) x2 y2).length = k) := boxed (by rw [HOut.out (decide_eq_false (fun h => by omega))]; exact HKi.out)
        clear c0 HIn HOut HNx
        go_wp2
        go_quiet (fail)
        go_wp2_with fail
        go_roundw
        case rel => exact ⟨k, i + 1, by omega, by go_num, rfl, HK2, boxed ⟨_, rfl⟩⟩
        case measure => simp [intOf]; omega
      have t0 : decide (P < x2) = false := decide_eq_false c0
      by_cases c1 : y2 < P
      · have t1 : decide (y2 < P) = true := decide_eq_true c1
        have HK2 : Box ((btw (M.take (i + 1)) x2 y2).length = k) := boxed (by rw [HOut.out (decide_eq_false (fun h => by omega))]; exact HKi.out)
        clear c0 c1 HIn HOut HNx
        go_wp2
        go_quiet (fail)
        go_wp2_with fail
        go_roundw
        case rel => exact ⟨k, i + 1, by omega, by go_num, rfl, HK2, boxed ⟨_, rfl⟩⟩
        case measure => simp [intOf]; omega
      have t1 : decide (y2 < P) = false := decide_eq_false c1
      obtain ⟨g2, c2, e2, hkg, hck⟩ := HNx.out ⟨by omega, by omega⟩
      injection e2 with e2a _ e2c
      subst e2a; subst e2c
      have hkg2 : (k : Int) < (gl : Int) := by omega
      have HK2 : Box ((btw (M.take (i + 1)) x2 y2).length = k + 1) := boxed (by rw [HIn.out (decide_eq_true ⟨by omega, by omega⟩)]; simp [HKi.out])
      clear c0 c1 HIn HOut HNx
      go_wp2
      go_quiet (fail)
      go_wp2_with fail
      go_quiet (fail)
      go_wp2_with fail
      go_roundw
      case rel => exact ⟨k + 1, i + 1, by omega, by go_num, by go_num, HK2, boxed ⟨_, rfl⟩⟩
      case measure => simp [intOf]; omega
    · have e : i = n := by omega
      have hk9 := HKi.out
      rw [e, List.take_of_length_le (by rw [HML.out]; omega), HG.out, HGL.out] at hk9
      have HF : Box (Below w.heap.size w (w4.drewN q)) := boxed (HB4.out.trans (bel_drewN _ _ _))
      subst e; subst hk9
      clear HKi HQ
      go_wp2_with fail
      go_ret
      exact ⟨by first | rfl | simp, HF.out⟩

set_option maxRecDepth 100000 in
theorem lifted (os : Os) (started : os.Started) (H : Type) (enc : TypeId × Value → H) :
    ReturnsInHanded {} Try.checked os 4 .any (Rows.marksBetweenSpec.pre6 enc Try.prog Try.f4 Rows.marksBetweenRow.domain false) (Rows.marksBetweenSpec.post enc Try.prog Try.f4 false true false false) := by
  refine returnsInHanded_of_change_sized (C := Try.checked) own started (by kernel_rfl) Try.func4
    (ChangeSpec.witness6 (enc := enc) (C := Try.checked) false ⟨#[], #[.int .i64 0, .slice none 0 0, .agg #[.int .i64 0, .int .i64 0]], []⟩ 8 (by kernel_rfl) (by kernel_rfl) (by kernel_rfl) (by kernel_rfl)) ?_
  intro W base args ds gs before hval0 hW hcnd hsz0 _
  have hval : ∀ (j : Nat) t v, Try.f4.params[j]? = some t → args[j]? = some v → Value.okWide Try.prog W .any base t v := hval0
  have hsz : (DataW.weightsEach Try.prog (Try.f4.params.toList ++ Rows.marksBetweenSpec.plain.varTypes Try.prog) (ds ++ gs)).all (· ≤ reachBytes) = true := hsz0
  have hW' := hW
  obtain ⟨p, q, hA0, hV, rfl, hfz, hnd⟩ := hW
  have hA : DataW.TrodAll enc Try.prog W 0 (fun _ => true) true Try.f4.params.toList args.toList ds p := hA0
  rw [Try.params4] at hA hval hsz
  obtain ⟨v0, vs0, d0, ds0, p0, q0, hargs, rfl, rfl, h0, r0⟩ := trodAll_cons hA
  obtain ⟨v1, vs1, d1, ds1, p1, q1, rfl, rfl, rfl, h1, r1⟩ := trodAll_cons r0
  obtain ⟨v2, vs2, d2, ds2, p2, q2, rfl, rfl, rfl, h2, r2⟩ := trodAll_cons r1
  obtain ⟨rfl, rfl, rfl⟩ := trodAll_nil r2
  obtain rfl : args = #[v0, v1, v2] := by cases args; simp_all
  obtain ⟨rfl, rfl⟩ := trodVars_none hV
  obtain ⟨a0, rfl, rfl, rfl, w0⟩ := open_int Try.underlying3 (hval 0 3 v0 rfl rfl) h0
  obtain ⟨ao1, n1, cap1, rfl⟩ := okWide_slice Try.underlying22 (hval 1 22 v1 rfl rfl)
  have k1 := h1
  have lt1 : ∀ x ∈ p1, x.block < W.heap.size := by obtain ⟨m, hm⟩ := k1; exact DataW.trod_lt m _ _ _ hm
  obtain ⟨O1, hO1⟩ : ∃ O, OpsAt W.heap.size W ao1 n1 O := by
    obtain ⟨fuel, hf⟩ := k1
    exact open_ops16 hf
  have k2 := h2
  have lt2 : ∀ x ∈ p2, x.block < W.heap.size := by obtain ⟨m, hm⟩ := k2; exact DataW.trod_lt m _ _ _ hm
  obtain ⟨x2, y2, rfl, hx2⟩ : ∃ x y : Int, v2 = .agg #[.int .i64 x, .int .i64 y] ∧ (-9223372036854775808 ≤ x ∧ x ≤ 9223372036854775807) ∧ -9223372036854775808 ≤ y ∧ y ≤ 9223372036854775807 := by
    obtain ⟨fuel, hf⟩ := k2
    exact pair_value Try.underlying46 (by kernel_rfl) hf
  clear hA0 hval0
  refine (walk W a0 w0 ao1 n1 cap1 O1 hO1 x2 y2 hx2).mono fun e W' ⟨he, hg⟩ => ?_
  subst he
  exact ⟨_, rfl, _, _, _, [], _, [], hW', trodAll_mk1 (shut_bool Try.underlying4 _), (trodAll_cons_mk (shut_int Try.underlying3 w0) (trodAll_cons_mk (Below.trod laidOut (by kernel_rfl) (of_decide_eq_true (by kernel_rfl)) k1 hg lt1) (trodAll_cons_mk (Below.trod laidOut (by kernel_rfl) (of_decide_eq_true (by kernel_rfl)) k2 hg lt2) trodAll_mk0))), rfl, hg.frame _, fun h => by cases h⟩

theorem proved : Rows.MarksBetweenSaid :=
  OpenClaim.holds_of_wide 4 Try.f4 rfl rfl rfl rfl rfl rfl rfl ⟨rfl, rfl, rfl, rfl, rfl⟩ rfl rfl rfl rfl rfl (by kernel_rfl) Try.func4 (by kernel_rfl)
    (of_decide_eq_true (by kernel_rfl)) (by unfold Func.isWrapper; first | (rw [if_pos (by decide +kernel)]; kernel_rfl) | (rw [if_neg (by decide +kernel)]; exact ⟨rfl, rfl⟩))
    (fun os started H enc _ => lifted os started H enc)
#print axioms proved
end Go.Proofs.Ytdaccgnfhagoeaa.marksBetween
