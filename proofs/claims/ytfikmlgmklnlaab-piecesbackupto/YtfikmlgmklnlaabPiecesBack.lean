/-
  For every text, every edits and every edit more, of at most 1048576 values and letters together, the law PiecesBack answers true and leaves its arguments as they were: what goes in and is taken out again leaves the text that was there, and so does a part that is taken out and put in again.
-/
import Derived.Test.YtfikmlgmklnlaabRows
import Derived.WalkKit
import Derived.ProofKit
import Derived.OpenShut
import Derived.ShutString
import Derived.ChangeOld
import Derived.Below
import Derived.Test.YtfikmlgmklnlaabXg
namespace Go.Proofs.Ytfikmlgmklnlaab.piecesBack
open Go.ChangeShapes Go.WideShapes Go.ChangeAt Go.RowKit
open Go.ChangeMaps (open_string shut_string)
set_option linter.unusedVariables false
set_option linter.unusedSimpArgs false

theorem own : ownKnob Try.prog.godebug = none := by kernel_rfl
theorem laidOut : laidOutB Try.prog = true := by kernel_rfl

set_option maxRecDepth 100000 in
set_option maxHeartbeats 6000000 in
theorem walk (w : World) (a0 : ByteArray) (w0 : a0.size ≤ maxLen) (hs0 : a0.size ≤ 1048576) (ao1 : Option Addr) (n1 cap1 : Nat) (O1 : Nat → Opr) (hn1 : n1 ≤ 1048576) (hO1 : OpsAt w ao1 n1 O1) (o2 : Opr) (ho2 : OprOk o2) :
    Calls Try.prog 3 #[.string a0, .slice ao1 n1 cap1, .agg #[.bool o2.out, .int .i64 o2.a, .int .i64 o2.b, .string o2.m]] w fun e w' => e = .returned (.bool true) ∧ Below w.heap.size w w' := by
  obtain ⟨N, hN⟩ := cnt_ex a0
  have hri := fun w => right_any a0 w N hN hs0
  by_cases hr : a0.size ≤ 4096 ∧ badAt a0 N < 0
  · rw [decide_eq_true hr] at hri
    have hpl := fun w' (hb : Below w.heap.size w w') => played_any a0 ao1 n1 cap1 O1 w' (hO1.below hb) N hN (by omega) hr.2 hn1
    have hRL : RL (bl a0) := ⟨a0, N, rfl, right_of a0 N hN hr.2⟩
    have HRL := boxed hRL
    clear hN hr hO1 hRL
    go_enter Try.func3, Try.ntmps3
    go_wp2_with fail
    refine (awake_any _).mono ?_
    rintro e w1 ⟨rfl, hb1⟩
    rw [World.size_alloc] at hb1
    have HB1 := boxed hb1
    clear hb1
    go_wp2_with fail
    refine (hri _).mono ?_
    rintro e w2 ⟨rfl, hb2⟩
    have HB2 := boxed (below_step HB1.out (by simp) hb2)
    clear hb2 hri
    go_wp2_with fail
    refine (hpl _ (below_box HB2.out)).mono ?_
    rintro e w3 ⟨tb, r, rfl, hply, hl⟩
    have hrs := hl.size
    obtain ⟨NR, hNR⟩ : ∃ N, Right r N := RL.right (by rw [hply]; exact HRL.out.ply _ _)
    have HNR := boxed hNR
    have HA := boxed hl.alive
    have HBX : Box (∀ w', Below w2.heap.size w2 w' → Below (w.heap.size + 1) (w.alloc (.cells #[.bool o2.out, .int .i64 o2.a, .int .i64 o2.b, .string o2.m] 24)) w') := boxed (fun w' hb => below_step HB2.out (by simp) hb)
    obtain ⟨c0, c1, c2, c3⟩ := box4_kept (HBX.out _ HA.out.frame)
    have hun : undef = Value.tuple #[] := rfl
    obtain ⟨NM, hNM⟩ := cnt_ex o2.m
    have hin := al_insert HA.out o2.a o2.m NM hNM ho2.2.2 ho2.1
    have HNM := boxed hNM
    have HOK := boxed ho2
    clear hl hply hNR hNM hpl HB1 ho2 HRL
    by_cases hI : ine (bl r) o2.a o2.m NM = 0
    · rw [hI, if_pos rfl] at hin
      have pI : cke (bl r) o2.a = 0 := by
        unfold ine at hI
        by_cases e : cke (bl r) o2.a = 0
        · exact e
        · rw [if_pos e] at hI; exact hI
      have hMr : Right o2.m NM := by
        unfold ine at hI
        rw [if_neg (by simpa using pI)] at hI
        have p2 : chk o2.m NM = 0 := by
          by_cases e : chk o2.m NM = 0
          · exact e
          · rw [if_pos e] at hI; exact hI
        refine right_of _ _ HNM.out ?_
        unfold chk at p2
        by_cases e : badAt o2.m NM < 0
        · exact e
        · rw [if_neg e] at p2; omega
      have hz := cke_zero _ _ pI
      rw [bl_len] at hz
      obtain ⟨i, hi⟩ : ∃ i : Nat, o2.a = (i : Int) := ⟨o2.a.toNat, by omega⟩
      have hms : o2.m.size ≤ 1048576 := HOK.out.2.2
      rw [hi] at hin c1 pI
      rw [Int.toNat_natCast] at hin
      have hoa := out_again r o2.m NR NM HNR.out hMr i pI
      have esum0 : Box ((i : Int) + (o2.m.size : Int) = ((i + o2.m.size : Nat) : Int)) := boxed (by omega)
      have HOA := boxed hoa
      have hib : i ≤ 65536 := by omega
      clear hI pI hMr hoa HNM
      go_wp2_with fail
      refine hin.mono ?_
      rintro e w4 ⟨rfl, hA4⟩
      have HA4 := boxed hA4
      obtain ⟨d0, d1, d2, d3⟩ := box4_kept (HBX.out _ hA4.frame)
      rw [hi] at d1
      have hde := al_delete hA4 (i : Int) ((i + o2.m.size : Nat) : Int) (by omega) (by omega)
      rw [HOA.out.1, if_pos rfl, Int.toNat_natCast, Int.toNat_natCast, HOA.out.2] at hde
      rw [← esum0.out] at hde
      clear hA4 hin c0 c1 c2 c3
      go_wp2_with fail
      refine hde.mono ?_
      rintro e w5 ⟨rfl, hA5⟩
      have HA5 := boxed hA5
      have hst5 := al_string hA5
      rw [tx_bl] at hst5
      clear hA5 hde
      go_wp2_with fail
      refine hst5.mono ?_
      rintro e w6 ⟨rfl, hA6⟩
      have HA6 := boxed hA6
      obtain ⟨f0, f1, f2, f3⟩ := box4_kept (HBX.out _ hA6.frame)
      have hrd := al_read hA6 o2.a o2.b HOK.out.1 HOK.out.2.1
      rw [hi] at f1 hrd
      clear hA6 hst5 d0 d1 d2 d3 HOA
      by_cases hE : spe (bl r) (i : Int) o2.b = 0
      · have hzz := spe_zero _ _ _ hE
        rw [bl_len] at hzz
        obtain ⟨i', hi'⟩ : ∃ i' : Nat, (i : Int) = (i' : Int) := ⟨((i : Int)).toNat, by omega⟩
        obtain ⟨j, hj⟩ : ∃ j : Nat, o2.b = (j : Int) := ⟨o2.b.toNat, by omega⟩
        have ea : o2.a = (i' : Int) := by first | exact hi' | (rw [hi]; exact hi')
        rw [hi'] at hrd hE f1 hzz
        rw [hj] at hrd hE f2 hzz
        have e1 : rdp (bl r) (i' : Int) (j : Int) = ((bl r).drop i').take (j - i') := by
          unfold rdp
          rw [if_pos hE]
          congr 1
          omega
        rw [e1, part_ext, hE] at hrd
        obtain ⟨M, hM, hI1, hI2⟩ := in_again r NR HNR.out i' j hE hrs
        have z2 : (r.extract i' j).size = j - i' := by rw [← bl_len, bl_ext, List.length_drop, List.length_take, bl_len]; omega
        have HM := boxed hM
        have HI1 := boxed hI1
        have HI2 := boxed hI2
        have HE0 := boxed hE
        have hll : ((bl r).take i' ++ (bl r).drop j).length = r.size - (j - i') := by
          simp only [List.length_append, List.length_take, List.length_drop, bl_len]
          omega
        have HLL := boxed hll
        clear hM hI1 hI2 hE e1 hll
        go_wp2_with fail
        refine hrd.mono ?_
        rintro e w7 ⟨rfl, hA7⟩
        obtain ⟨g0, g1, g2, g3⟩ := box4_kept (HBX.out _ hA7.frame)
        rw [ea] at g1
        rw [hj] at g2
        have hde7 := al_delete hA7 (i' : Int) (j : Int) (by omega) (by omega)
        rw [HE0.out, if_pos rfl, Int.toNat_natCast, Int.toNat_natCast] at hde7
        clear hA7 hrd f0 f1 f2 f3
        go_wp2_with fail
        refine hde7.mono ?_
        rintro e w8 ⟨rfl, hA8⟩
        have hln8 := al_len hA8
        rw [HLL.out] at hln8
        clear hA8 hde7
        have ez : ((r.size - (j - i') : Nat) : Int) = (r.size : Int) - ((r.extract i' j).size : Int) := by rw [z2]; omega
        have hzb : (r.extract i' j).size ≤ 65536 := by omega
        go_wp2_with fail
        refine hln8.mono ?_
        rintro e w9 ⟨rfl, hA9⟩
        obtain ⟨k0, k1, k2, k3⟩ := box4_kept (HBX.out _ hA9.frame)
        rw [ea] at k1
        have hin9 := al_insert hA9 (i' : Int) (r.extract i' j) M HM.out (by omega) (by omega)
        rw [HI1.out, if_pos rfl, Int.toNat_natCast, HI2.out] at hin9
        clear hA9 hln8 g0 g1 g2 g3
        rw [ez]
        generalize r.extract i' j = PT at *
        go_wp2_with fail
        refine hin9.mono ?_
        rintro e w10 ⟨rfl, hA10⟩
        have hst10 := al_string hA10
        rw [tx_bl] at hst10
        clear hA10 hin9
        go_wp2_with fail
        refine hst10.mono ?_
        rintro e w11 ⟨rfl, hA11⟩
        have HF := boxed (below_box (HBX.out _ hA11.frame))
        clear hA11 hst10
        go_wp2
        go_ret
        exact ⟨by simp, HF.out⟩
      · have tE : (spe (bl r) (i : Int) o2.b == 0) = false := by simpa using hE
        have tE' : (spe (bl r) (i : Int) o2.b != 0) = true := by simpa using hE
        clear hE
        generalize spe (bl r) (i : Int) o2.b = SE at *
        go_wp2_with fail
        refine hrd.mono ?_
        rintro e w7 ⟨rfl, hA7⟩
        have hst7 := al_string hA7
        rw [tx_bl] at hst7
        clear hA7 hrd
        go_wp2_with fail
        refine hst7.mono ?_
        rintro e w8 ⟨rfl, hA8⟩
        have HF := boxed (below_box (HBX.out _ hA8.frame))
        clear hA8 hst7
        go_wp2
        go_ret
        exact ⟨by simp, HF.out⟩
    · rw [if_neg hI] at hin
      have tI : (ine (bl r) o2.a o2.m NM == 0) = false := by simpa using hI
      clear hI HNM
      generalize ine (bl r) o2.a o2.m NM = IE at *
      go_wp2_with fail
      refine hin.mono ?_
      rintro e w4 ⟨rfl, hA4⟩
      obtain ⟨f0, f1, f2, f3⟩ := box4_kept (HBX.out _ hA4.frame)
      have hrd := al_read hA4 o2.a o2.b HOK.out.1 HOK.out.2.1
      clear hA4 hin c0 c1 c2 c3
      by_cases hE : spe (bl r) o2.a o2.b = 0
      · have hzz := spe_zero _ _ _ hE
        rw [bl_len] at hzz
        obtain ⟨i', hi'⟩ : ∃ i' : Nat, o2.a = (i' : Int) := ⟨(o2.a).toNat, by omega⟩
        obtain ⟨j, hj⟩ : ∃ j : Nat, o2.b = (j : Int) := ⟨o2.b.toNat, by omega⟩
        have ea : o2.a = (i' : Int) := by first | exact hi' | (rw [hi]; exact hi')
        rw [hi'] at hrd hE f1 hzz
        rw [hj] at hrd hE f2 hzz
        have e1 : rdp (bl r) (i' : Int) (j : Int) = ((bl r).drop i').take (j - i') := by
          unfold rdp
          rw [if_pos hE]
          congr 1
          omega
        rw [e1, part_ext, hE] at hrd
        obtain ⟨M, hM, hI1, hI2⟩ := in_again r NR HNR.out i' j hE hrs
        have z2 : (r.extract i' j).size = j - i' := by rw [← bl_len, bl_ext, List.length_drop, List.length_take, bl_len]; omega
        have HM := boxed hM
        have HI1 := boxed hI1
        have HI2 := boxed hI2
        have HE0 := boxed hE
        have hll : ((bl r).take i' ++ (bl r).drop j).length = r.size - (j - i') := by
          simp only [List.length_append, List.length_take, List.length_drop, bl_len]
          omega
        have HLL := boxed hll
        clear hM hI1 hI2 hE e1 hll
        go_wp2_with fail
        refine hrd.mono ?_
        rintro e w7 ⟨rfl, hA7⟩
        obtain ⟨g0, g1, g2, g3⟩ := box4_kept (HBX.out _ hA7.frame)
        rw [ea] at g1
        rw [hj] at g2
        have hde7 := al_delete hA7 (i' : Int) (j : Int) (by omega) (by omega)
        rw [HE0.out, if_pos rfl, Int.toNat_natCast, Int.toNat_natCast] at hde7
        clear hA7 hrd f0 f1 f2 f3
        go_wp2_with fail
        refine hde7.mono ?_
        rintro e w8 ⟨rfl, hA8⟩
        have hln8 := al_len hA8
        rw [HLL.out] at hln8
        clear hA8 hde7
        have ez : ((r.size - (j - i') : Nat) : Int) = (r.size : Int) - ((r.extract i' j).size : Int) := by rw [z2]; omega
        have hzb : (r.extract i' j).size ≤ 65536 := by omega
        go_wp2_with fail
        refine hln8.mono ?_
        rintro e w9 ⟨rfl, hA9⟩
        obtain ⟨k0, k1, k2, k3⟩ := box4_kept (HBX.out _ hA9.frame)
        rw [ea] at k1
        have hin9 := al_insert hA9 (i' : Int) (r.extract i' j) M HM.out (by omega) (by omega)
        rw [HI1.out, if_pos rfl, Int.toNat_natCast, HI2.out] at hin9
        clear hA9 hln8 g0 g1 g2 g3
        rw [ez]
        generalize r.extract i' j = PT at *
        go_wp2_with fail
        refine hin9.mono ?_
        rintro e w10 ⟨rfl, hA10⟩
        have hst10 := al_string hA10
        rw [tx_bl] at hst10
        clear hA10 hin9
        go_wp2_with fail
        refine hst10.mono ?_
        rintro e w11 ⟨rfl, hA11⟩
        have HF := boxed (below_box (HBX.out _ hA11.frame))
        clear hA11 hst10
        go_wp2
        go_ret
        exact ⟨by simp, HF.out⟩
      · have tE : (spe (bl r) o2.a o2.b == 0) = false := by simpa using hE
        have tE' : (spe (bl r) o2.a o2.b != 0) = true := by simpa using hE
        clear hE
        generalize spe (bl r) o2.a o2.b = SE at *
        go_wp2_with fail
        refine hrd.mono ?_
        rintro e w7 ⟨rfl, hA7⟩
        have hst7 := al_string hA7
        rw [tx_bl] at hst7
        clear hA7 hrd
        go_wp2_with fail
        refine hst7.mono ?_
        rintro e w8 ⟨rfl, hA8⟩
        have HF := boxed (below_box (HBX.out _ hA8.frame))
        clear hA8 hst7
        go_wp2
        go_ret
        exact ⟨by simp, HF.out⟩
  · rw [decide_eq_false hr] at hri
    clear hN hr hO1
    go_enter Try.func3, Try.ntmps3
    go_wp2_with fail
    refine (awake_any _).mono ?_
    rintro e w1 ⟨rfl, hb1⟩
    rw [World.size_alloc] at hb1
    have HB1 := boxed hb1
    clear hb1
    go_wp2_with fail
    refine (hri _).mono ?_
    rintro e w2 ⟨rfl, hb2⟩
    have HB2 := boxed (below_step HB1.out (by simp) hb2)
    clear hb2 hri
    go_wp2
    go_ret
    exact ⟨rfl, below_box HB2.out⟩

set_option maxRecDepth 100000 in
theorem contract (H : Type) (enc : TypeId × Value → H) (W : World) (base : Nat) (args : Array Value) (ds gs : List (DataW H)) (before : List MemPlace)
    (hval0 : ∀ (j : Nat) t v, Try.f3.params[j]? = some t → args[j]? = some v → Value.okWide Try.prog W .any base t v)
    (hW : DataW.Whole enc Try.prog Try.f3.params.toList Rows.piecesBackSpec.vars false W args.toList ds gs before) (hk : Rows.uptoSmall H (ds ++ gs) = true) :
    Calls Try.prog 3 args W fun e W' => ∃ v, e = .returned v ∧ Rows.piecesBackSpec.post enc Try.prog Try.f3 false true false false W args v W' := by
  have hval : ∀ (j : Nat) t v, Try.f3.params[j]? = some t → args[j]? = some v → Value.okWide Try.prog W .any base t v := hval0
  have hW' := hW
  obtain ⟨p, q, hA0, hV, rfl, hfz, hnd⟩ := hW
  have hA : DataW.TrodAll enc Try.prog W 0 (fun _ => true) true Try.f3.params.toList args.toList ds p := hA0
  rw [Try.params3] at hA hval
  obtain ⟨v0, vs0, d0, ds0, p0, q0, hargs, rfl, rfl, h0, r0⟩ := trodAll_cons hA
  obtain ⟨v1, vs1, d1, ds1, p1, q1, rfl, rfl, rfl, h1, r1⟩ := trodAll_cons r0
  obtain ⟨v2, vs2, d2, ds2, p2, q2, rfl, rfl, rfl, h2, r2⟩ := trodAll_cons r1
  obtain ⟨rfl, rfl, rfl⟩ := trodAll_nil r2
  obtain rfl : args = #[v0, v1, v2] := by cases args; simp_all
  obtain ⟨rfl, rfl⟩ := trodVars_none hV
  obtain ⟨a0, rfl, rfl, rfl, w0⟩ := open_string Try.underlying9 (hval 0 9 v0 rfl rfl) h0
  obtain ⟨ao1, n1, cap1, rfl⟩ := okWide_slice Try.underlying22 (hval 1 22 v1 rfl rfl)
  have k1 := h1
  have lt1 : ∀ x ∈ p1, x.block < W.heap.size := by obtain ⟨m, hm⟩ := k1; exact DataW.trod_lt m _ _ _ hm
  have k2 := h2
  have lt2 : ∀ x ∈ p2, x.block < W.heap.size := by obtain ⟨m, hm⟩ := k2; exact DataW.trod_lt m _ _ _ hm
  clear hA0 hval0
  simp only [List.append_nil] at hW' hk
  have bulk := of_decide_eq_true hk
  obtain ⟨hn1, O1, hO1⟩ : n1 ≤ 1048576 ∧ ∃ O, OpsAt W ao1 n1 O := by
    obtain ⟨fuel, hf⟩ := k1
    exact open_ops hf (by have := bulk; simp only [Rows.uptoBulkAll] at this; omega)
  obtain ⟨o2, rfl, ho2⟩ : ∃ o : Opr, v2 = .agg #[.bool o.out, .int .i64 o.a, .int .i64 o.b, .string o.m] ∧ OprOk o := by
    obtain ⟨fuel, hf⟩ := k2
    exact op_value hf (by have := bulk; simp only [Rows.uptoBulkAll] at this; omega)
  refine (walk W a0 w0 (by have := bulk; simp only [Rows.uptoBulkAll, Rows.uptoBulk, Array.length_toList] at this; show a0.data.size ≤ _; omega) ao1 n1 cap1 O1 hn1 hO1 o2 ho2).mono fun e W' ⟨he, hg⟩ => ?_
  subst he
  exact ⟨_, rfl, _, _, _, [], _, [], hW', trodAll_mk1 (shut_bool Try.underlying4 _), (trodAll_cons_mk (shut_string Try.underlying9 w0) (trodAll_cons_mk (Below.trod laidOut (by kernel_rfl) (of_decide_eq_true (by kernel_rfl)) k1 hg lt1) (trodAll_cons_mk (Below.trod laidOut (by kernel_rfl) (of_decide_eq_true (by kernel_rfl)) k2 hg lt2) trodAll_mk0))), rfl, hg.frame _, fun h => by cases h⟩

set_option maxRecDepth 100000 in
theorem lifted (os : Os) (started : os.Started) (H : Type) (enc : TypeId × Value → H) (F : Stop.Interp) :
    ReturnsInHanded {} Try.checked os 3 .any ((Rows.OpenSpec.upto Rows.piecesBackSpec).pre6 enc Try.prog Try.f3 Rows.piecesBackUptoRow.domain false) (((Rows.OpenSpec.upto Rows.piecesBackSpec).at F).post enc Try.prog Try.f3 false true false false) := by
  refine returnsInHanded_of_cond (C := Try.checked) (s := Rows.OpenSpec.upto Rows.piecesBackSpec) (k := Rows.uptoSmall) rfl own started (by kernel_rfl) Try.func3
    (OpenSpec.witness (enc := enc) (C := Try.checked) (s := Rows.OpenSpec.upto Rows.piecesBackSpec) (k := Rows.uptoSmall) rfl false ⟨#[], #[.string ByteArray.empty, .slice none 0 0, .agg #[.bool false, .int .i64 0, .int .i64 0, .string ByteArray.empty]], []⟩ 8 (by kernel_rfl) (by kernel_rfl) (by kernel_rfl)
      (x := ([.lit (.string []), .nil, .agg [.lit (.bool false), .lit (.int .i64 0), .lit (.int .i64 0), .lit (.string [])]], [], [])) (by kernel_rfl) rfl (by kernel_rfl)) ?_
  intro W base args ds gs before hval hW _ hk _
  exact contract H enc W base args ds gs before hval hW hk

theorem proved : Rows.PiecesBackUptoSaid :=
  OpenClaim.holds_of_cond 3 Try.f3 rfl rfl rfl rfl rfl rfl rfl ⟨rfl, rfl, rfl, rfl, rfl⟩ rfl rfl rfl rfl rfl (by kernel_rfl) Try.func3 (by kernel_rfl)
    (of_decide_eq_true (by kernel_rfl)) (by unfold Func.isWrapper; first | (rw [if_pos (by decide +kernel)]; kernel_rfl) | (rw [if_neg (by decide +kernel)]; exact ⟨rfl, rfl⟩))
    (fun os started H enc _ F => lifted os started H enc F)
#print axioms proved
end Go.Proofs.Ytfikmlgmklnlaab.piecesBack
