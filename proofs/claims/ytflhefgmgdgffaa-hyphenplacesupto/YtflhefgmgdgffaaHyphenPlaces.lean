/-
  'regletlaw17.HyphenPlaces': the program's Places and Put and the document's Places, by their contracts.
-/
import Derived.Test.YtflhefgmgdgffaaRows
import Derived.WalkKit
import Derived.ProofKit
import Derived.OpenShut
import Derived.JoinedCond
import Derived.ChangeOld
import Derived.Below
import Derived.Test.YtflhefgmgdgffaaHzh
import Derived.Test.YtflhefgmgdgffaaHzi
import Derived.Test.YtflhefgmgdgffaaHyz
namespace Go.Proofs.Ytflhefgmgdgffaa.hyphenPlaces
open Go.ChangeShapes Go.WideShapes Go.ChangeAt Go.RowKit
open Go.ChangeMaps (open_string shut_string)
set_option linter.unusedVariables false
set_option linter.unusedSimpArgs false

theorem own : ownKnob Try.prog.godebug = none := by kernel_rfl
theorem laidOut : laidOutB Try.prog = true := by kernel_rfl

set_option maxRecDepth 100000 in
set_option maxHeartbeats 8000000 in
theorem walk (w : World) (ao0 : Option Addr) (n0 cap0 : Nat) (bo0 : Option Addr) (m0 cbp0 : Nat) (l0 r0 : Int) (S0 T0 : Nat → ByteArray) (hn0 : n0 ≤ maxLen ∧ m0 ≤ maxLen) (hS0 : StrsAt w ao0 n0 S0) (hT0 : StrsAt w bo0 m0 T0) (hl0 : I64 l0 ∧ I64 r0) (a1 : ByteArray) (w1 : a1.size ≤ maxLen) (z1 : a1.size ≤ 1048576) :
    Calls Try.prog 6 #[listsV ao0 n0 cap0 bo0 m0 cbp0 l0 r0, .string a1] w fun e w' => e = .returned (.bool true) ∧ Below w.heap.size w w' := by
  unfold listsV
  have hn2 := hn0
  unfold maxLen at hn2
  have l1 := laid1 w (.cells #[.slice ao0 n0 cap0, .slice bo0 m0 cbp0, .int .i64 l0, .int .i64 r0] 24)
  obtain ⟨W1, hW1⟩ : ∃ W1, w.alloc (.cells #[.slice ao0 n0 cap0, .slice bo0 m0 cbp0, .int .i64 l0, .int .i64 r0] 24) = W1 := ⟨_, rfl⟩
  rw [hW1] at l1
  have HB1 := boxed l1.2.1
  have HX1 := boxed l1.1
  have HS := boxed hS0
  have HTT := boxed hT0
  have HA := boxed (awake_any W1)
  obtain ⟨xb, hxb⟩ : ∃ xb, w.heap.size = xb := ⟨_, rfl⟩
  rw [hxb] at HX1
  replace hW1 := boxed hW1
  replace hxb := boxed hxb
  clear l1 hS0 hT0
  go_enter Try.func6, Try.ntmps6
  go_upto_region 1 with fail
  rw [hW1.out]
  have hxb' := hxb.out
  rw [hxb']
  clear hxb' hW1
  go_wp2_with fail
  refine HA.out.mono ?_
  rintro e w2 ⟨rfl, hb2⟩
  have HB2 : Box (Below w.heap.size w w2) := boxed (below_step HB1.out (Nat.le_refl _) hb2)
  have HX2 : Box (w2.heap[xb]? = some (.cells #[.slice ao0 n0 cap0, .slice bo0 m0 cbp0, .int .i64 l0, .int .i64 r0] 24 (0, 0))) := boxed ((hb2.block _ (heap_lt HX1.out)).trans HX1.out)
  have hbk := book17_any w2 ao0 bo0 n0 m0 cap0 cbp0 S0 T0 l0 r0 (HS.out.below HB2.out) (HTT.out.below HB2.out) hn0.1 hn0.2
  unfold listsV at hbk
  have c0 : w2.cell? ⟨xb, 0, none⟩ = some (.slice ao0 n0 cap0) := by rw [cell_of_row _ _ _ _ _ _ HX2.out]; rfl
  have c1 : w2.cell? ⟨xb, 1, none⟩ = some (.slice bo0 m0 cbp0) := by rw [cell_of_row _ _ _ _ _ _ HX2.out]; rfl
  have c2 : w2.cell? ⟨xb, 2, none⟩ = some (.int .i64 l0) := by rw [cell_of_row _ _ _ _ _ _ HX2.out]; rfl
  have c3 : w2.cell? ⟨xb, 3, none⟩ = some (.int .i64 r0) := by rw [cell_of_row _ _ _ _ _ _ HX2.out]; rfl
  clear hb2 HA HX1 HB1
  go_wp2_with fail
  refine hbk.mono ?_
  rintro e w3 ⟨hB, hb3⟩
  have HB3 : Box (Below w.heap.size w w3) := boxed (below_step HB2.out (Nat.le_refl _) hb3)
  have HX3 : Box (w3.heap[xb]? = some (.cells #[.slice ao0 n0 cap0, .slice bo0 m0 cbp0, .int .i64 l0, .int .i64 r0] 24 (0, 0))) := boxed ((hb3.block _ (heap_lt HX2.out)).trans HX2.out)
  clear hbk hb3 c0 c1 c2 c3 HX2 HB2
  rcases hB with ⟨-, rfl⟩ | ⟨hG, bp, eb, lb, wb, Nd, Z, Y, rfl, hbk, hz1, hz2⟩
  · go_wp2_with fail
    go_ret
    exact ⟨rfl, HB3.out⟩
  by_cases h300 : 300 < a1.size
  · have t1 : decide ((300 : Int) < (a1.size : Int)) = true := decide_eq_true (by omega)
    have t2 : decide (300 < a1.size) = true := decide_eq_true h300
    clear hbk hz1 hz2
    go_wp2_with fail
    go_ret
    exact ⟨rfl, HB3.out⟩
  have t1 : decide ((300 : Int) < (a1.size : Int)) = false := decide_eq_false (by omega)
  have t2 : decide (300 < a1.size) = false := decide_eq_false h300
  obtain ⟨⟨h60, h30⟩, hmay, hpo, hwo⟩ := hG
  obtain ⟨hl, hr⟩ : (1 ≤ l0 ∧ l0 ≤ 100) ∧ (1 ≤ r0 ∧ r0 ≤ 100) := by
    rcases may_four l0 r0 with ⟨_, h⟩ | ⟨h, _⟩
    · exact h
    · rw [h] at hmay; cases hmay
  obtain ⟨L, hL⟩ : ∃ L : Nat, l0 = (L : Int) := ⟨l0.toNat, by omega⟩
  obtain ⟨R, hR⟩ : ∃ R : Nat, r0 = (R : Int) := ⟨r0.toNat, by omega⟩
  subst hL hR
  have HPT : Box (∀ W, Below w3.heap.size w3 W → Calls Try.prog 18 #[.pointer (some ⟨bp, 0, none⟩), .string a1] W fun e w' => ∃ out v, e = .returned v ∧ w'.ownsRow W.heap.size 3 1 v out.length (vals out) ∧ PlcP (qS S0 n0) (yS T0 m0) L R a1 out ∧ Below W.heap.size W w') := boxed (fun W hW => by
    have := places_any W bp eb lb wb L R Nd Z Y a1 (by simpa using hbk.below hW) (by omega) (by omega) (by omega)
    rw [hz1, hz2] at this
    exact this)
  have HPU : Box (∀ W, Below w3.heap.size w3 W → Calls Try.prog 20 #[.pointer (some ⟨bp, 0, none⟩), .string a1] W fun e w' => (∃ out, PlcP (qS S0 n0) (yS T0 m0) L R a1 out ∧ e = .returned (.string (put17 a1 out))) ∧ Below W.heap.size W w') := boxed (fun W hW => by
    have := put_any W bp eb lb wb L R Nd Z Y a1 (by simpa using hbk.below hW) (by omega) (by omega) (by omega)
    rw [hz1, hz2] at this
    exact this)
  have HRF : Box (∀ W, Below w3.heap.size w3 W → Calls Try.prog 19 #[.slice ao0 n0 cap0, .slice bo0 m0 cbp0, .int .i64 (L : Int), .int .i64 (R : Int), .string a1] W fun e w' => ∃ out v, e = .returned v ∧ w'.ownsRow W.heap.size 3 1 v out.length (vals out) ∧ PlcP (qS S0 n0) (yS T0 m0) L R a1 out ∧ Below W.heap.size W w') := boxed (fun W hW => by
    have hw : Below w.heap.size w W := below_step HB3.out (Nat.le_refl _) hW
    exact refplaces_any W ao0 bo0 n0 m0 cap0 cbp0 S0 T0 L R a1 (HS.out.below hw) (HTT.out.below hw) (by omega) (by omega) hpo hwo (by omega) (by omega) (by omega))
  have HSZ : Box (a1.size ≤ 300) := boxed (by omega)
  have hpt := HPT.out w3 (Below.refl _ _)
  clear hbk hz1 hz2 hpo hwo hmay
  go_wp2_with fail
  refine hpt.mono ?_
  rintro e w4 ⟨out, v, rfl, ho4, hp4, hb4⟩
  have HB4 := boxed hb4
  have HP4 := boxed hp4
  obtain ⟨-, ao4, cap4, rfl, hd4⟩ := dg_of_owns ho4
  have HO4 := boxed hd4
  have HX4 := boxed ((hb4.block _ (heap_lt HX3.out)).trans HX3.out)
  have c0 : w4.cell? ⟨xb, 0, none⟩ = some (.slice ao0 n0 cap0) := by rw [cell_of_row _ _ _ _ _ _ HX4.out]; rfl
  have c1 : w4.cell? ⟨xb, 1, none⟩ = some (.slice bo0 m0 cbp0) := by rw [cell_of_row _ _ _ _ _ _ HX4.out]; rfl
  have c2 : w4.cell? ⟨xb, 2, none⟩ = some (.int .i64 (L : Int)) := by rw [cell_of_row _ _ _ _ _ _ HX4.out]; rfl
  have c3 : w4.cell? ⟨xb, 3, none⟩ = some (.int .i64 (R : Int)) := by rw [cell_of_row _ _ _ _ _ _ HX4.out]; rfl
  have hrf := HRF.out w4 HB4.out
  clear hb4 hp4 ho4 hd4 hpt HPT HX3 t1 t2
  go_wp2_with fail
  refine hrf.mono ?_
  rintro e w5 ⟨out2, v2, rfl, ho5, hp5, hb5⟩
  have he := hp5.uniq HP4.out
  subst he
  have HB5 : Box (Below w3.heap.size w3 w5) := boxed (below_step HB4.out (Nat.le_refl _) hb5)
  obtain ⟨-, ao5, cap5, rfl, hd5⟩ := dg_of_owns ho5
  have HO5 := boxed (HO4.out.below hb5)
  have HSM := boxed (same17_any _ _ _ _ _ _ _ HO5.out hd5)
  have hsm : Calls Try.prog 12 #[.slice ao4 out2.length cap4, .slice ao5 out2.length cap5] w5 fun e w' => e = .returned (.bool true) ∧ ∃ n, w' = w5.drewN n := by
    have := HSM.out
    simpa using this
  clear hb5 hp5 ho5 hd5 hrf HRF HO4 HSM HB4 HX4 c0 c1 c2 c3
  obtain ⟨n, hn⟩ : ∃ n, out2.length = n := ⟨_, rfl⟩
  have HN := boxed hn
  rw [hn] at hsm ⊢
  have HRS := boxed HP4.out.rise
  have hnl := HP4.out.len
  rw [hn] at hnl
  clear hn
  go_wp2_with fail
  refine hsm.mono ?_
  rintro e w6 ⟨rfl, q, hw6⟩
  have hb6 : Below w5.heap.size w5 w6 := by rw [hw6]; exact bel_drewN _ _ _
  have HB6 : Box (Below w3.heap.size w3 w6) := boxed (below_step HB5.out (Nat.le_refl _) hb6)
  have HO6 := boxed (HO5.out.below hb6)
  clear hw6 hb6 hsm HO5 HB5
  go_wp2_with fail
  go_loopw [7, 8, 9] (fun vw vf vk wr => ∃ k : Nat, k ≤ n ∧ vw = .string (pw a1 out2 k) ∧ vf = .int .i64 ((fr out2 k : Nat) : Int) ∧ vk = .int .i64 (k : Int) ∧ Box (wr = w6)) (fun _ _ vk _ => n - (intOf vk).toNat)
  case atStart => exact ⟨0, Nat.zero_le _, rfl, rfl, rfl, boxed rfl⟩
  case round =>
    obtain ⟨k, hk, rfl, rfl, rfl, hww⟩ := hrel
    obtain rfl := hww.out
    have hpz := pw_size HRS.out k (by rw [HN.out]; exact hk)
    have hs300 := HSZ.out
    by_cases hlt : k < n
    · obtain ⟨bb, off, rfl, hbl, hcl0⟩ := HO6.out.at (by rw [HN.out]; omega)
      have hcl := hcl0 k (by rw [HN.out]; exact hlt)
      have hfl := fr_le HRS.out k (by rw [HN.out]; exact hlt)
      have HFN : Box (fr out2 (k + 1) = out2.getD k 0) := boxed rfl
      have HPN : Box (pw a1 out2 (k + 1) = pw a1 out2 k ++ a1.extract (fr out2 k) (out2.getD k 0) ++ soft) := boxed rfl
      have hki : (k : Int) < (n : Int) := by omega
      clear hcl0
      generalize pw a1 out2 k = B at *
      generalize fr out2 k = F at *
      generalize out2.getD k 0 = A at *
      have hct := fun W => str_cut a1 F A hfl.1 hfl.2 W
      have hxz : (a1.extract F A).size = A - F := by rw [ByteArray.size_extract]; omega
      generalize a1.extract F A = X at *
      have hbx : (B ++ X).size ≤ 1000000 := by rw [ByteArray.size_append]; omega
      have hbz : B.size ≤ 1000000 := by omega
      have hxz2 : X.size ≤ 1000000 := by omega
      clear hxz hpz
      go_wp2_with fail
      go_roundw
      case rel => exact ⟨k + 1, by omega, by rw [HPN.out]; rfl, by rw [HFN.out], by go_num, boxed trivial⟩
      case measure => simp [intOf]; omega
    · have e : n = k := by omega
      subst e
      have hfe := fr_end HRS.out n (by rw [HN.out]; exact Nat.le_refl _)
      have hPE : pw a1 out2 n ++ a1.extract (fr out2 n) a1.size = put17 a1 out2 := by unfold put17; rw [HN.out]
      generalize pw a1 out2 n = B at *
      generalize fr out2 n = F at *
      have hct : ∀ W, (Instr.slice 9 (.string a1) (some (.int .i64 (F : Int))) none none).run Try.prog W = .ok (.string (a1.extract F a1.size)) W := fun W => by
        have := run_slice_string_l (P := Try.prog) (w := W) (t := 9) (s := a1) Try.underlying9 .i64 (F : Int) (by omega) (by omega)
        simpa using this
      have hxz : (a1.extract F a1.size).size = a1.size - F := by rw [ByteArray.size_extract]; omega
      generalize a1.extract F a1.size = X at *
      have hbz : B.size ≤ 1000000 := by omega
      have hxz2 : X.size ≤ 1000000 := by omega
      have HPQ : Box (∀ out', PlcP (qS S0 n0) (yS T0 m0) L R a1 out' → put17 a1 out' = put17 a1 out2) := boxed (fun out' h => by rw [h.uniq HP4.out])
      generalize put17 a1 out2 = PT at *
      have hadd : ∀ W, (Op.stringOp .add B X).run Try.prog W = .ok (.string PT) W := fun W => by rw [run_string_add_sum W B X (by omega), hPE]
      have HD0 : Box (Below w3.heap.size w3 wr.drew) := boxed (HB6.out.trans (Below.refl _ _).drew)
      clear hxz hpz hPE hbz hxz2
      go_wp2_with fail
      go_region_held3 (fun W => True) (trivial)
        (first | (go_at_call 20; refine (HPU.out _ HD0.out).mono ?_; rintro e' w7 ⟨⟨out', hp', rfl⟩, hb7⟩; have hq := HPQ.out out' hp'; rw [hq]; have HB7 := boxed (below_step HD0.out (Nat.le_refl _) hb7); clear hb7 hp' hq))
      go_wp2
      go_ret
      exact ⟨by simp, below_step HB3.out (Nat.le_refl _) HB7.out⟩

set_option maxRecDepth 100000 in
theorem lifted (os : Os) (started : os.Started) (H : Type) (enc : TypeId × Value → H) (F : Stop.Interp) :
    ReturnsInHanded {} Try.checked os 6 .any ((Rows.OpenSpec.upto Rows.hyphenPlacesSpec).pre6 enc Try.prog Try.f6 Rows.hyphenPlacesUptoRow.domain false) (((Rows.OpenSpec.upto Rows.hyphenPlacesSpec).at F).post enc Try.prog Try.f6 false true false false) := by
  refine returnsInHanded_of_cond (C := Try.checked) (s := Rows.OpenSpec.upto Rows.hyphenPlacesSpec) (k := Rows.uptoSmall) rfl own started (by kernel_rfl) Try.func6
    (OpenSpec.witness (enc := enc) (C := Try.checked) (s := Rows.OpenSpec.upto Rows.hyphenPlacesSpec) (k := Rows.uptoSmall) rfl false ⟨#[], #[.agg #[.slice none 0 0, .slice none 0 0, .int .i64 0, .int .i64 0], .string ByteArray.empty], []⟩ 8 (by kernel_rfl) (by kernel_rfl) (by kernel_rfl)
      (x := ([.agg [.nil, .nil, .lit (.int .i64 0), .lit (.int .i64 0)], .lit (.string [])], [], [])) (by kernel_rfl) rfl (by kernel_rfl)) ?_
  intro W base args ds gs before hval0 hW _ hk _
  have hval : ∀ (j : Nat) t v, Try.f6.params[j]? = some t → args[j]? = some v → Value.okWide Try.prog W .any base t v := hval0
  have hW' := hW
  obtain ⟨p, q, hA0, hV, rfl, hfz, hnd⟩ := hW
  have hA : DataW.TrodAll enc Try.prog W 0 (fun _ => true) true Try.f6.params.toList args.toList ds p := hA0
  rw [Try.params6] at hA hval
  obtain ⟨v0, vs0, d0, ds0, p0, q0, hargs, rfl, rfl, h0, rr0⟩ := trodAll_cons hA
  obtain ⟨v1, vs1, d1, ds1, p1, q1, rfl, rfl, rfl, h1, rr1⟩ := trodAll_cons rr0
  obtain ⟨rfl, rfl, rfl⟩ := trodAll_nil rr1
  obtain rfl : args = #[v0, v1] := by cases args; simp_all
  obtain ⟨rfl, rfl⟩ := trodVars_none hV
  simp only [List.append_nil] at hW' hk
  have hb0 : Rows.uptoBulk d0 ≤ 1048576 := Nat.le_trans (bulk_part (by simp)) (of_decide_eq_true hk : Rows.uptoBulkAll _ ≤ 1048576)
  have k0 := h0
  have lt0 : ∀ x ∈ p0, x.block < W.heap.size := by obtain ⟨m, hm⟩ := k0; exact DataW.trod_lt m _ _ _ hm
  obtain ⟨ao0, n0, cap0, bo0, m0, cbp0, l0, r0, S0, T0, rfl, hn0, hS0, hT0, hl0⟩ : ∃ (ao : Option Addr) (n cap : Nat) (ao' : Option Addr) (n' cap' : Nat) (l r : Int) (S T : Nat → ByteArray), v0 = listsV ao n cap ao' n' cap' l r ∧ (n ≤ maxLen ∧ n' ≤ maxLen) ∧ StrsAt W ao n S ∧ StrsAt W ao' n' T ∧ I64 l ∧ I64 r := by
    obtain ⟨fuel, hf⟩ := k0
    exact lists_value hf hb0
  have hb1 : Rows.uptoBulk d1 ≤ 1048576 := Nat.le_trans (bulk_part (by simp)) (of_decide_eq_true hk : Rows.uptoBulkAll _ ≤ 1048576)
  obtain ⟨a1, rfl, rfl, rfl, w1⟩ := open_string Try.underlying9 (hval 1 9 v1 rfl rfl) h1
  have z1 : a1.size ≤ 1048576 := by have := bulk_text (H := H) (b := a1) rfl; omega
  clear hA0 hval0
  refine (walk W ao0 n0 cap0 bo0 m0 cbp0 l0 r0 S0 T0 hn0 hS0 hT0 hl0 a1 w1 z1).mono fun e W' ⟨he, hg⟩ => ?_
  subst he
  exact ⟨_, rfl, _, _, _, [], _, [], hW', trodAll_mk1 (shut_bool Try.underlying4 _), (trodAll_cons_mk (Below.trod laidOut (by kernel_rfl) (of_decide_eq_true (by kernel_rfl)) k0 hg lt0) (trodAll_cons_mk (shut_string Try.underlying9 w1) trodAll_mk0)), rfl, hg.frame _, fun h => by cases h⟩

theorem proved : Rows.HyphenPlacesUptoSaid :=
  OpenClaim.holds_of_cond 6 Try.f6 rfl rfl rfl rfl rfl rfl rfl ⟨rfl, rfl, rfl, rfl, rfl⟩ rfl rfl rfl rfl rfl (by kernel_rfl) Try.func6 (by kernel_rfl)
    (of_decide_eq_true (by kernel_rfl)) (by unfold Func.isWrapper; first | (rw [if_pos (by decide +kernel)]; kernel_rfl) | (rw [if_neg (by decide +kernel)]; exact ⟨rfl, rfl⟩))
    (fun os started H enc _ F => lifted os started H enc F)
#print axioms proved
end Go.Proofs.Ytflhefgmgdgffaa.hyphenPlaces
