/-
  'regletlaw17.HyphenCase': the program's Points of a text and of its great letters, by its contract: both are told by the same small letters.
-/
import Derived.Test.YtflhefgmgdgffabRows
import Derived.WalkKit
import Derived.ProofKit
import Derived.OpenShut
import Derived.JoinedCond
import Derived.ChangeOld
import Derived.Below
import Derived.Test.YtflhefgmgdgffabHca
import Derived.Test.YtflhefgmgdgffabHyz
namespace Go.Proofs.Ytflhefgmgdgffab.hyphenCase
open Go.ChangeShapes Go.WideShapes Go.ChangeAt Go.RowKit
open Go.ChangeMaps (open_string shut_string)
set_option linter.unusedVariables false
set_option linter.unusedSimpArgs false

theorem own : ownKnob Try.prog.godebug = none := by kernel_rfl
theorem laidOut : laidOutB Try.prog = true := by kernel_rfl

set_option maxRecDepth 100000 in
set_option maxHeartbeats 8000000 in
theorem walk (w : World) (ao0 : Option Addr) (n0 cap0 : Nat) (bo0 : Option Addr) (m0 cbp0 : Nat) (l0 r0 : Int) (S0 T0 : Nat → ByteArray) (hn0 : n0 ≤ maxLen ∧ m0 ≤ maxLen) (hS0 : StrsAt w ao0 n0 S0) (hT0 : StrsAt w bo0 m0 T0) (hl0 : I64 l0 ∧ I64 r0) (a1 : ByteArray) (w1 : a1.size ≤ maxLen) (z1 : a1.size ≤ 1048576) :
    Calls Try.prog 3 #[listsV ao0 n0 cap0 bo0 m0 cbp0 l0 r0, .string a1] w fun e w' => e = .returned (.bool true) ∧ Below w.heap.size w w' := by
  unfold listsV
  have hn2 := hn0
  unfold maxLen at hn2
  have l1 := laid1 w (.cells #[.slice ao0 n0 cap0, .slice bo0 m0 cbp0, .int .i64 l0, .int .i64 r0] 24)
  obtain ⟨W1, hW1⟩ : ∃ W1, w.alloc (.cells #[.slice ao0 n0 cap0, .slice bo0 m0 cbp0, .int .i64 l0, .int .i64 r0] 24) = W1 := ⟨_, rfl⟩
  rw [hW1] at l1
  have HB1 := boxed l1.2.1
  have HX1 := boxed l1.1
  have HS := boxed hS0
  have HTT := boxed hT0
  have HA := boxed (awake_any W1)
  obtain ⟨xb, hxb⟩ : ∃ xb, w.heap.size = xb := ⟨_, rfl⟩
  rw [hxb] at HX1
  replace hW1 := boxed hW1
  replace hxb := boxed hxb
  clear l1 hS0 hT0
  go_enter Try.func3, Try.ntmps3
  go_upto_region 1 with fail
  rw [hW1.out]
  have hxb' := hxb.out
  rw [hxb']
  clear hxb' hW1
  go_wp2_with fail
  refine HA.out.mono ?_
  rintro e w2 ⟨rfl, hb2⟩
  have HB2 : Box (Below w.heap.size w w2) := boxed (below_step HB1.out (Nat.le_refl _) hb2)
  have HX2 : Box (w2.heap[xb]? = some (.cells #[.slice ao0 n0 cap0, .slice bo0 m0 cbp0, .int .i64 l0, .int .i64 r0] 24 (0, 0))) := boxed ((hb2.block _ (heap_lt HX1.out)).trans HX1.out)
  have hbk := book17_any w2 ao0 bo0 n0 m0 cap0 cbp0 S0 T0 l0 r0 (HS.out.below HB2.out) (HTT.out.below HB2.out) hn0.1 hn0.2
  unfold listsV at hbk
  have c0 : w2.cell? ⟨xb, 0, none⟩ = some (.slice ao0 n0 cap0) := by rw [cell_of_row _ _ _ _ _ _ HX2.out]; rfl
  have c1 : w2.cell? ⟨xb, 1, none⟩ = some (.slice bo0 m0 cbp0) := by rw [cell_of_row _ _ _ _ _ _ HX2.out]; rfl
  have c2 : w2.cell? ⟨xb, 2, none⟩ = some (.int .i64 l0) := by rw [cell_of_row _ _ _ _ _ _ HX2.out]; rfl
  have c3 : w2.cell? ⟨xb, 3, none⟩ = some (.int .i64 r0) := by rw [cell_of_row _ _ _ _ _ _ HX2.out]; rfl
  clear hb2 HA HX1 HB1
  go_wp2_with fail
  refine hbk.mono ?_
  rintro e w3 ⟨hB, hb3⟩
  have HB3 : Box (Below w.heap.size w w3) := boxed (below_step HB2.out (Nat.le_refl _) hb3)
  have HX3 : Box (w3.heap[xb]? = some (.cells #[.slice ao0 n0 cap0, .slice bo0 m0 cbp0, .int .i64 l0, .int .i64 r0] 24 (0, 0))) := boxed ((hb3.block _ (heap_lt HX2.out)).trans HX2.out)
  clear hbk hb3 c0 c1 c2 c3 HX2 HB2
  rcases hB with ⟨-, rfl⟩ | ⟨hG, bp, eb, lb, wb, Nd, Z, Y, rfl, hbk, hz1, hz2⟩
  · go_wp2_with fail
    go_ret
    exact ⟨rfl, HB3.out⟩
  by_cases h300 : 300 < a1.size
  · have t1 : decide ((300 : Int) < (a1.size : Int)) = true := decide_eq_true (by omega)
    have t2 : decide (300 < a1.size) = true := decide_eq_true h300
    clear hbk hz1 hz2
    go_wp2_with fail
    go_ret
    exact ⟨rfl, HB3.out⟩
  have t1 : decide ((300 : Int) < (a1.size : Int)) = false := decide_eq_false (by omega)
  have t2 : decide (300 < a1.size) = false := decide_eq_false h300
  obtain ⟨⟨h60, h30⟩, hmay, hpo, hwo⟩ := hG
  obtain ⟨hl, hr⟩ : (1 ≤ l0 ∧ l0 ≤ 100) ∧ (1 ≤ r0 ∧ r0 ≤ 100) := by
    rcases may_four l0 r0 with ⟨_, h⟩ | ⟨h, _⟩
    · exact h
    · rw [h] at hmay; cases hmay
  obtain ⟨L, hL⟩ : ∃ L : Nat, l0 = (L : Int) := ⟨l0.toNat, by omega⟩
  obtain ⟨R, hR⟩ : ∃ R : Nat, r0 = (R : Int) := ⟨r0.toNat, by omega⟩
  subst hL hR
  have HPT : Box (∀ W t, Below w3.heap.size w3 W → t.size ≤ 300 → Calls Try.prog 7 #[.pointer (some ⟨bp, 0, none⟩), .string t] W fun e w' => ∃ out v, e = .returned v ∧ w'.ownsRow W.heap.size 3 1 v out.length (vals out) ∧ PtsS (zQ Z) (zQ Y) L R t out ∧ Below W.heap.size W w') := boxed (fun W t hW ht =>
    points_any W bp eb lb wb L R Nd Z Y t (by simpa using hbk.below hW) (by unfold maxLen; omega) (by omega) (by omega))
  have hcv : (convert 9 28 (.string a1)).run Try.prog w3 = .ok (.slice (some ⟨w3.heap.size, 0, none⟩) a1.size (grownCap w3 a1.size 0 5)) (Lib.bytesWorld w3 5 a1) := Lib.run_convert_string_bytes w3 9 _ 5 a1 Try.underlying9 Try.underlying28 Try.underlying5
  have HY0 := boxed (byw_new w3 a1)
  have HB0 := boxed (below_bytes w3 a1)
  have HZ0 : Box ((Lib.bytesWorld w3 5 a1).heap.size = w3.heap.size + 1) := boxed (Lib.bytesWorld_size w3 5 a1)
  obtain ⟨W0, hW0⟩ : ∃ W0, Lib.bytesWorld w3 5 a1 = W0 := ⟨_, rfl⟩
  obtain ⟨cap, hcap⟩ : ∃ cap, grownCap w3 a1.size 0 5 = cap := ⟨_, rfl⟩
  rw [hW0] at hcv HY0 HB0 HZ0
  rw [hcap] at hcv
  have HSZ : Box (a1.size ≤ 300) := boxed (by omega)
  have HUP := boxed (upk_bt a1)
  have HBL := boxed (bl_lt a1)
  have HLN := boxed (bl_len a1)
  obtain ⟨l, hl⟩ : ∃ l, bl a1 = l := ⟨_, rfl⟩
  rw [hl] at HY0 HUP HBL HLN
  obtain ⟨n, hn⟩ : ∃ n, a1.size = n := ⟨_, rfl⟩
  have HN := boxed hn
  have hn300 : n ≤ 300 := by have := HSZ.out; omega
  rw [hn] at hcv HUP HLN
  clear hbk hz1 hz2 hpo hwo hmay HX3 hl hcap hW0 t1 t2 h300
  have t1 : decide ((300 : Int) < (n : Int)) = false := decide_eq_false (by omega)
  have t2 : decide (300 < n) = false := decide_eq_false (by omega)
  go_wp2_with fail
  clear hcv t1 t2
  go_loopw [7] (fun vi wr => ∃ k : Nat, k ≤ n ∧ vi = .int .i64 (k : Int) ∧ Box (ByW wr w3.heap.size (upk l k)) ∧ Box (Chg (fun x => x = w3.heap.size) W0 wr)) (fun vi _ => n - (intOf vi).toNat)
  case atStart => exact ⟨0, Nat.zero_le _, rfl, boxed (by rw [upk_zero]; exact HY0.out), boxed (Chg.refl _ _)⟩
  case round =>
    clear HY0
    obtain ⟨k, hk, rfl, HY, HC⟩ := hrel
    by_cases hlt : k < n
    · have hkl : k < l.length := by rw [HLN.out]; exact hlt
      obtain ⟨hcl, hfr⟩ := HY.out.cell k (by rw [upk_len]; exact hkl)
      rw [upk_at l k hkl] at hcl
      have HU := boxed (upk_up l k hkl)
      have hx := HBL.out _ (getD_mem l k hkl)
      have hki : (k : Int) < (n : Int) := by omega
      clear hkl
      obtain ⟨x, hxx⟩ : ∃ x, l.getD k 0 = x := ⟨_, rfl⟩
      have HX := boxed hxx
      rw [hxx] at hcl HU hx
      clear hxx
      have hxc := up_cases x
      by_cases h1 : 97 ≤ x
      · have t1 : decide ((97 : Int) ≤ (x : Int)) = true := decide_eq_true (by omega)
        have t1' : decide (97 ≤ x) = true := decide_eq_true (by omega)
        by_cases h2 : x ≤ 122
        · have t2 : decide ((x : Int) ≤ 122) = true := decide_eq_true (by omega)
          have t2' : decide (x ≤ 122) = true := decide_eq_true (by omega)
          obtain ⟨y, hy⟩ : ∃ y, x - 32 = y := ⟨_, rfl⟩
          have HXY : Box (up x = y) := boxed (by rcases hxc with ⟨_, e⟩ | ⟨c, _⟩; rw [e, hy]; exact absurd ⟨h1, h2⟩ c)
          have hsub : (x : Int) - 32 = (y : Int) := by omega
          have hwr8 : IntKind.u8.wrap (y : Int) = (y : Int) := by simp [IntKind.wrap, IntKind.bits, IntKind.signed]; omega
          have HS := boxed (HY.out.set k y)
          have HC2 : Box (Chg (fun x => x = w3.heap.size) W0 (wr.setCell ⟨w3.heap.size, k, none⟩ (.int .u8 (y : Int)))) := boxed (HC.out.trans (Chg.set _ _ _ _ rfl))
          clear hxc h1 h2 hy HY HC hx
          go_wp2_with fail
          go_roundw
          case rel => exact ⟨k + 1, by omega, by go_num, boxed (by rw [HU.out, HXY.out]; exact HS.out), HC2⟩
          case measure => simp [intOf]; omega
        · have t2 : decide ((x : Int) ≤ 122) = false := decide_eq_false (by omega)
          have t2' : decide (x ≤ 122) = false := decide_eq_false (by omega)
          have HXY : Box (upk l (k + 1) = upk l k) := boxed (upk_same l k (by rw [HLN.out]; exact hlt) (by rw [HX.out]; rcases hxc with ⟨⟨_, c⟩, _⟩ | ⟨_, e⟩; exact absurd c h2; exact e))
          clear hxc h1 h2 hx
          go_wp2_with fail
          go_roundw
          case rel => exact ⟨k + 1, by omega, by go_num, boxed (by rw [HXY.out]; exact HY.out), HC⟩
          case measure => simp [intOf]; omega
      · have t1 : decide ((97 : Int) ≤ (x : Int)) = false := decide_eq_false (by omega)
        have t1' : decide (97 ≤ x) = false := decide_eq_false (by omega)
        have HXY : Box (upk l (k + 1) = upk l k) := boxed (upk_same l k (by rw [HLN.out]; exact hlt) (by rw [HX.out]; rcases hxc with ⟨⟨c, _⟩, _⟩ | ⟨_, e⟩; exact absurd c h1; exact e))
        clear hxc h1 hx
        go_wp2_with fail
        go_roundw
        case rel => exact ⟨k + 1, by omega, by go_num, boxed (by rw [HXY.out]; exact HY.out), HC⟩
        case measure => simp [intOf]; omega
    · have e : k = n := by omega
      rw [e] at HY
      have HCB : Box (Below w3.heap.size w3 wr) := boxed (HB0.out.trans (HC.out.below (by have := HZ0.out; omega) (fun b hb => by rw [hb]; exact Nat.le_refl _)))
      have hll := upk_len l n
      rw [HLN.out] at hll
      have HK : Box (∀ W, Below wr.heap.size wr W → (convert 28 9 (.slice (some ⟨w3.heap.size, 0, none⟩) n cap)).run Try.prog W = .ok (.string (tx (upk l n))) W) := boxed (fun W hW => by
        obtain ⟨arr, fz, g1, g2, g3, g4⟩ := HY.out
        have := conv_byw (W := W) ⟨arr, fz, (hW.block _ (heap_lt g1)).trans g1, g2, g3, g4⟩ cap HUP.out.2.2
        rw [hll] at this
        exact this)
      have HPP : Box (∀ out, PtsS (zQ Z) (zQ Y) L R (tx (upk l n)) out → PtsS (zQ Z) (zQ Y) L R a1 out) := boxed (fun out h => up_pts HUP.out.1 (by rw [HUP.out.2.1, HN.out]) h)
      have HTZ : Box ((tx (upk l n)).size ≤ 300) := boxed (by rw [HUP.out.2.1]; exact hn300)
      generalize tx (upk l n) = T at *
      subst e
      clear HC HY hll HUP
      go_wp2_with fail
      have HD0 : Box (Below wr.heap.size wr wr.drew) := boxed (Below.refl _ _).drew
      go_region_held3 (fun W => (convert 28 9 (.slice (some ⟨w3.heap.size, 0, none⟩) k cap)).run Try.prog W = .ok (.string T) W)
        (first | with_reducible exact HK.out _ HD0.out | with_reducible exact HK.out _ HD4.out | with_reducible exact HK.out _ HD5.out | with_reducible exact HK.out _ HD6.out)
        (first
          | (go_at_call 6; refine HSM.out.mono ?_; rintro e' w6 ⟨rfl, q, rfl⟩; have HD6 := boxed (HD5.out.trans (bel_drewN _ _ q)))
          | (go_at_call 7; refine (HPT.out _ T (HCB.out.trans (HD4.out.mono HCB.out.size)) HTZ.out).mono ?_; rintro e' w5 ⟨out2, v2, rfl, ho2, hp2, hb5⟩; have he := (HPP.out _ hp2).uniq HP4.out; subst he; obtain ⟨-, ao5, cap5, rfl, hd5⟩ := dg_of_owns ho2; have HSM := boxed (same17_any _ _ _ _ _ _ _ (HO4.out.below hb5) hd5); have HD5 := boxed (below_step HD4.out (Nat.le_refl _) hb5); clear hb5 ho2 hp2 hd5)
          | (go_at_call 7; refine (HPT.out _ a1 (HCB.out.trans (HD0.out.mono HCB.out.size)) HSZ.out).mono ?_; rintro e' w4 ⟨out, v, rfl, ho, hp, hb4⟩; obtain ⟨-, ao4, cap4, rfl, hd4⟩ := dg_of_owns ho; have HO4 := boxed hd4; have HP4 := boxed hp; have HD4 := boxed (below_step HD0.out (Nat.le_refl _) hb4); clear hb4 ho hp hd4)
          )
      all_goals
        go_wp2
        go_ret
        exact ⟨by simp, (below_step HB3.out (Nat.le_refl _) HCB.out).trans (HD6.out.mono (Nat.le_trans HB3.out.size HCB.out.size))⟩

set_option maxRecDepth 100000 in
theorem lifted (os : Os) (started : os.Started) (H : Type) (enc : TypeId × Value → H) (F : Stop.Interp) :
    ReturnsInHanded {} Try.checked os 3 .any ((Rows.OpenSpec.upto Rows.hyphenCaseSpec).pre6 enc Try.prog Try.f3 Rows.hyphenCaseUptoRow.domain false) (((Rows.OpenSpec.upto Rows.hyphenCaseSpec).at F).post enc Try.prog Try.f3 false true false false) := by
  refine returnsInHanded_of_cond (C := Try.checked) (s := Rows.OpenSpec.upto Rows.hyphenCaseSpec) (k := Rows.uptoSmall) rfl own started (by kernel_rfl) Try.func3
    (OpenSpec.witness (enc := enc) (C := Try.checked) (s := Rows.OpenSpec.upto Rows.hyphenCaseSpec) (k := Rows.uptoSmall) rfl false ⟨#[], #[.agg #[.slice none 0 0, .slice none 0 0, .int .i64 0, .int .i64 0], .string ByteArray.empty], []⟩ 8 (by kernel_rfl) (by kernel_rfl) (by kernel_rfl)
      (x := ([.agg [.nil, .nil, .lit (.int .i64 0), .lit (.int .i64 0)], .lit (.string [])], [], [])) (by kernel_rfl) rfl (by kernel_rfl)) ?_
  intro W base args ds gs before hval0 hW _ hk _
  have hval : ∀ (j : Nat) t v, Try.f3.params[j]? = some t → args[j]? = some v → Value.okWide Try.prog W .any base t v := hval0
  have hW' := hW
  obtain ⟨p, q, hA0, hV, rfl, hfz, hnd⟩ := hW
  have hA : DataW.TrodAll enc Try.prog W 0 (fun _ => true) true Try.f3.params.toList args.toList ds p := hA0
  rw [Try.params3] at hA hval
  obtain ⟨v0, vs0, d0, ds0, p0, q0, hargs, rfl, rfl, h0, rr0⟩ := trodAll_cons hA
  obtain ⟨v1, vs1, d1, ds1, p1, q1, rfl, rfl, rfl, h1, rr1⟩ := trodAll_cons rr0
  obtain ⟨rfl, rfl, rfl⟩ := trodAll_nil rr1
  obtain rfl : args = #[v0, v1] := by cases args; simp_all
  obtain ⟨rfl, rfl⟩ := trodVars_none hV
  simp only [List.append_nil] at hW' hk
  have hb0 : Rows.uptoBulk d0 ≤ 1048576 := Nat.le_trans (bulk_part (by simp)) (of_decide_eq_true hk : Rows.uptoBulkAll _ ≤ 1048576)
  have k0 := h0
  have lt0 : ∀ x ∈ p0, x.block < W.heap.size := by obtain ⟨m, hm⟩ := k0; exact DataW.trod_lt m _ _ _ hm
  obtain ⟨ao0, n0, cap0, bo0, m0, cbp0, l0, r0, S0, T0, rfl, hn0, hS0, hT0, hl0⟩ : ∃ (ao : Option Addr) (n cap : Nat) (ao' : Option Addr) (n' cap' : Nat) (l r : Int) (S T : Nat → ByteArray), v0 = listsV ao n cap ao' n' cap' l r ∧ (n ≤ maxLen ∧ n' ≤ maxLen) ∧ StrsAt W ao n S ∧ StrsAt W ao' n' T ∧ I64 l ∧ I64 r := by
    obtain ⟨fuel, hf⟩ := k0
    exact lists_value hf hb0
  have hb1 : Rows.uptoBulk d1 ≤ 1048576 := Nat.le_trans (bulk_part (by simp)) (of_decide_eq_true hk : Rows.uptoBulkAll _ ≤ 1048576)
  obtain ⟨a1, rfl, rfl, rfl, w1⟩ := open_string Try.underlying9 (hval 1 9 v1 rfl rfl) h1
  have z1 : a1.size ≤ 1048576 := by have := bulk_text (H := H) (b := a1) rfl; omega
  clear hA0 hval0
  refine (walk W ao0 n0 cap0 bo0 m0 cbp0 l0 r0 S0 T0 hn0 hS0 hT0 hl0 a1 w1 z1).mono fun e W' ⟨he, hg⟩ => ?_
  subst he
  exact ⟨_, rfl, _, _, _, [], _, [], hW', trodAll_mk1 (shut_bool Try.underlying4 _), (trodAll_cons_mk (Below.trod laidOut (by kernel_rfl) (of_decide_eq_true (by kernel_rfl)) k0 hg lt0) (trodAll_cons_mk (shut_string Try.underlying9 w1) trodAll_mk0)), rfl, hg.frame _, fun h => by cases h⟩

theorem proved : Rows.HyphenCaseUptoSaid :=
  OpenClaim.holds_of_cond 3 Try.f3 rfl rfl rfl rfl rfl rfl rfl ⟨rfl, rfl, rfl, rfl, rfl⟩ rfl rfl rfl rfl rfl (by kernel_rfl) Try.func3 (by kernel_rfl)
    (of_decide_eq_true (by kernel_rfl)) (by unfold Func.isWrapper; first | (rw [if_pos (by decide +kernel)]; kernel_rfl) | (rw [if_neg (by decide +kernel)]; exact ⟨rfl, rfl⟩))
    (fun os started H enc _ F => lifted os started H enc F)
#print axioms proved
end Go.Proofs.Ytflhefgmgdgffab.hyphenCase
