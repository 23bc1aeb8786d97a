/-
  For every list of numbers and every line PagesFinds answers true: of pages that begin one so many lines behind the other Find tells the last one that begins at most with the line, and End where it ends.
  No condition besides the statement's own.
-/
import Derived.Test.YtjchioopfljjhaaRows
import Derived.WalkKit
import Derived.ProofKit
import Derived.OpenShut
import Derived.SizedLaws
import Derived.ShutString
import Derived.ChangeOld
import Derived.Below
import Derived.Test.YtjchioopfljjhaaHj
import Derived.Test.YtjchioopfljjhaaHp
namespace Go.Proofs.Ytjchioopfljjhaa.pagesFinds
open Go.ChangeShapes Go.WideShapes Go.ChangeAt Go.RowKit
open Go.ChangeMaps (open_string shut_string)
set_option linter.unusedVariables false
set_option linter.unusedSimpArgs false

theorem own : ownKnob Try.prog.godebug = none := by kernel_rfl
theorem laidOut : laidOutB Try.prog = true := by kernel_rfl

set_option maxRecDepth 100000 in
set_option maxHeartbeats 2000000 in
theorem walk (w : World) (ao0 : Option Addr) (n0 cap0 : Nat) (X0 : Nat → Int) (hn0 : n0 ≤ maxLen) (hX0 : IntsAt w ao0 n0 X0) (a1 : Int) (w1 : (Lit.int .i64 a1).wf = true) :
    Calls Try.prog 8 #[.slice ao0 n0 cap0, .int .i64 a1] w fun e w' => e = .returned (.bool true) ∧ Below w.heap.size w w' := by
  have hN : (n0 : Int) ≤ 9223372036854775807 := by unfold maxLen at hn0; omega
  by_cases hl : 200 < n0
  · have t1 : decide (200 < (n0 : Int)) = true := decide_eq_true (by omega)
    clear hX0 hn0 hl
    go_enter Try.func8, Try.ntmps8
    go_wp2_with fail
    refine (awake_any _).mono ?_
    rintro e w1 ⟨rfl, hb1⟩
    have HB1 := boxed hb1
    clear hb1
    go_wp2_with fail
    go_ret
    exact ⟨rfl, HB1.out⟩
  have hl2 : n0 ≤ 200 := by omega
  have t1 : decide (200 < (n0 : Int)) = false := decide_eq_false (by omega)
  obtain ⟨i0, hif, hz0, hz1, hz2⟩ := info_parts info_int12
  have HX := boxed hX0
  have w1' := boxed w1
  clear hX0 hn0 hl w1
  go_enter Try.func8, Try.ntmps8
  go_wp2_with fail
  refine (awake_any _).mono ?_
  rintro e w2 ⟨rfl, hb2⟩
  have HB2 := boxed hb2
  have HX2 := boxed (HX.out.below hb2)
  have hzw := hb2.size
  clear hb2 HX
  go_wp2_with fail
  go_loopw [5, 6, 7] (fun sv av iv wr => ∃ i : Nat, i ≤ n0 ∧ av = .int .i64 (sg X0 i : Nat) ∧ iv = .int .i64 (i : Nat) ∧ Box (∀ j, j < i → 1 ≤ X0 j ∧ X0 j ≤ 1099511627776) ∧ Box (wr.ownsRow w2.heap.size 3 1 sv i (ncs (sgs X0 i))) ∧ Box (Below w2.heap.size w2 wr)) (fun _ _ iv _ => n0 - (intOf iv).toNat)
  case atStart => exact ⟨0, Nat.zero_le _, rfl, rfl, boxed (fun j hj => by omega), boxed (World.ownsRow_nil _ _ _ _), boxed (Below.refl _ _)⟩
  case round =>
    obtain ⟨i, hi, rfl, rfl, HG, HO, HB⟩ := hrel
    have hsb := sg_bound X0 1099511627776 i (fun k hk => (HG.out k hk).2)
    by_cases hlt : i < n0
    · obtain ⟨b, off, rfl, c0, hI⟩ := (HX2.out.below HB.out) i hlt
      have hlt2 : (i : Int) < (n0 : Int) := by omega
      by_cases g1 : X0 i < 1
      · have t2 : decide (X0 i < 1) = true := decide_eq_true g1
        have HE := boxed (below_step HB2.out (Nat.le_refl _) HB.out)
        generalize X0 i = x at *
        clear g1 hI
        go_wp2_with fail
        go_ret
        exact ⟨rfl, HE.out⟩
      by_cases g2 : 1099511627776 < X0 i
      · have t2 : decide (X0 i < 1) = false := decide_eq_false g1
        have t3 : decide (1099511627776 < X0 i) = true := decide_eq_true g2
        have HE := boxed (below_step HB2.out (Nat.le_refl _) HB.out)
        generalize X0 i = x at *
        clear g1 g2 hI
        go_wp2_with fail
        go_ret
        exact ⟨rfl, HE.out⟩
      · have t2 : decide (X0 i < 1) = false := decide_eq_false g1
        have t3 : decide (1099511627776 < X0 i) = false := decide_eq_false g2
        have HG2 : Box (∀ j, j < i + 1 → 1 ≤ X0 j ∧ X0 j ≤ 1099511627776) := boxed (fun j hj => by
          by_cases d : j = i
          · subst d; omega
          · exact HG.out j (by omega))
        have hown := HO.out
        have hzr := HB.out.size
        have HSn := boxed (sgs_snoc X0 i)
        have HSg : Box (sg X0 (i + 1) = sg X0 i + (X0 i).toNat) := boxed rfl
        have HC : Box (∀ W, Below w2.heap.size w2 W → W.cell? ⟨b, off + i, none⟩ = some (.int .i64 (X0 i))) := boxed (fun W hb => by
          obtain ⟨b', off', e, c, -⟩ := (HX2.out.below hb) i hlt
          injection e with e
          injection e with e1 e2 e3
          subst e1; subst e2
          exact c)
        generalize hsx : sg X0 i = sx at *
        obtain ⟨x, hx⟩ : ∃ x : Nat, X0 i = (x : Int) := ⟨(X0 i).toNat, by omega⟩
        rw [hx] at HSg HC c0 t2 t3
        have hxb : (x : Int) ≤ 1099511627776 := by omega
        have HXx := boxed hx
        clear hsx hx g1 g2 hI HO HG
        go_wp2_with (first | (at_builtin; refine wpList_append_own _ rfl _ _ 26 rfl w2.heap.size 3 i0 _ 1 8 Try.underlying26 hif hz0 hz1 hz2 rfl (by decide) _ _ _ rfl (hown.alloc _) ⟨wr.heap.size, 0, none⟩ 1 1 [.int .i64 (sx : Nat)] rfl rfl ?c1 ?c2 ?c3 ?c4 ?c5 ?_))
        case c1 =>
          intro j u hj
          match j, hj with
          | 0, hj => simp at hj; subst hj; simp [Addr.add]
        case c2 => intro u hu; simp at hu; subst hu; rfl
        case c3 => unfold maxLen; omega
        case c4 => omega
        case c5 => simp; omega
        intro v' w6 hown6 hgrow6 _
        have HO6 : Box (w6.ownsRow w2.heap.size 3 1 v' (i + 1) (ncs (sgs X0 (i + 1)))) := boxed (by rw [HSn.out, ncs_app]; exact hown6)
        have HG6 := boxed (HB.out.trans (grown_any hown hzr hgrow6))
        have c1 := HC.out w6 HG6.out
        clear hown6 hgrow6 hown c0 t2 t3
        go_wp2_with fail
        go_roundw
        case rel => exact ⟨i + 1, by omega, by rw [HSg.out, Int.toNat_natCast] <;> first | rfl | go_num, by go_num, HG2, HO6, HG6⟩
        case measure => simp [intOf]; omega
    · obtain rfl : i = n0 := by omega
      obtain ⟨ao', c', rfl⟩ := own_shape HO.out
      have HF := boxed (own_nat HO.out (sgs_len X0 i))
      obtain ⟨q, hq⟩ := upto_some (sgs X0 i) a1 (sgs_rise X0 i)
      have HQ := boxed hq
      have hqn := hq.1
      rw [sgs_len] at hqn
      have HLt : Box (∀ j, j < i → (sgs X0 i).getD j 0 < 1000000000000000) := boxed (fun j hj => by
        rw [sgs_get X0 i j hj]
        have h1 := sg_le X0 j i (by omega)
        have h2 : i * 1099511627776 ≤ 200 * 1099511627776 := Nat.mul_le_mul_right _ hl2
        omega)
      have hI1 : -9223372036854775808 ≤ a1 ∧ a1 ≤ 9223372036854775807 := wf_i64 w1'.out
      have t2 : decide ((i : Int) < (i : Int)) = false := decide_eq_false (by omega)
      have hsb2 : sg X0 i ≤ 1000000000000000 := by
        have h2 : i * 1099511627776 ≤ 200 * 1099511627776 := Nat.mul_le_mul_right _ hl2
        omega
      generalize hsx : sg X0 i = sx at *
      clear hq hsb hsx HG HO
      have HFd : Box (∀ W, Below wr.heap.size wr W → Calls Try.prog 27 #[.slice ao' i c', .int .i64 a1] W fun e w' => e = .returned (.int .i64 ((q : Int) - 1)) ∧ Below W.heap.size W w') := boxed (fun W hb => by
        have := find_any _ ao' c' (sgs X0 i) a1 q HQ.out W (HF.out.below hb) (by rw [sgs_len]; omega) (sgs_rise X0 i)
        rw [sgs_len] at this
        exact this)
      have HE1 : Box (∀ W p, p < i → Below wr.heap.size wr W → Calls Try.prog 28 #[.slice ao' i c', .int .i64 (p : Nat), .int .i64 (sx : Nat)] W fun e w' => e = .returned (.int .i64 (endL (sgs X0 i) p sx : Nat)) ∧ w' = W) := boxed (fun W p hp hb => by
        have := pend_any _ ao' c' (sgs X0 i) p sx W (HF.out.below hb) (by rw [sgs_len]; omega) (by rw [sgs_len]; omega)
        rw [sgs_len] at this
        exact this)
      have HE2 : Box (∀ W p, p < i → Below wr.heap.size wr W → Calls Try.prog 22 #[.slice ao' i c', .int .i64 (p : Nat), .int .i64 (sx : Nat)] W fun e w' => e = .returned (.int .i64 (endL (sgs X0 i) p sx : Nat)) ∧ w' = W) := boxed (fun W p hp hb => by
        have := refend_any _ ao' c' (sgs X0 i) p sx W (HF.out.below hb) (by rw [sgs_len]; omega) (by rw [sgs_len]; omega)
        rw [sgs_len] at this
        exact this)
      have HBw := boxed (below_step HB2.out (Nat.le_refl _) HB.out)
      clear HB HX2
      generalize wr = wA at *
      go_wp2_with fail
      go_loopw [8, 9] (fun av iv wx => ∃ k : Nat, k ≤ i ∧ av = .int .i64 (((min k q : Nat) : Int) - 1) ∧ iv = .int .i64 (k : Nat) ∧ wx = wA) (fun _ iv _ => i - (intOf iv).toNat)
      case atStart => exact ⟨0, Nat.zero_le _, by simp, rfl, rfl⟩
      case round =>
        obtain ⟨k, hk, rfl, rfl, rfl⟩ := hrel
        by_cases hkl : k < i
        · obtain ⟨b, rfl, hbw, -⟩ := HF.out.form (by rw [sgs_len]; omega)
          have c0 := HF.out.get k (by rw [sgs_len]; omega)
          have hlt3 := HLt.out k hkl
          have hkl2 : (k : Int) < (i : Int) := by omega
          have hqa := HQ.out.2.1 k
          have hqb := HQ.out.2.2 k
          rw [sgs_len] at hqb
          generalize (sgs X0 i).getD k 0 = v at *
          by_cases hkq : k < q
          · have h1 := hqa hkq
            have t3 : decide ((v : Int) ≤ a1) = true := decide_eq_true h1
            have e1 : min (k + 1) q = k + 1 := by omega
            obtain ⟨z, hz⟩ : ∃ z : Int, ((min k q : Nat) : Int) - 1 = z := ⟨_, rfl⟩
            rw [hz]
            clear h1 hqa hqb hz
            go_wp2_with fail
            go_roundw
            case rel => exact ⟨k + 1, by omega, by rw [e1]; first | rfl | (congr 1; omega) | go_num, by go_num, trivial⟩
            case measure => simp [intOf]; omega
          · have h1 := hqb (by omega) hkl
            have t3 : decide ((v : Int) ≤ a1) = false := decide_eq_false (by omega)
            have e1 : min (k + 1) q = min k q := by omega
            obtain ⟨z, hz⟩ : ∃ z : Int, ((min k q : Nat) : Int) - 1 = z := ⟨_, rfl⟩
            rw [hz]
            have hz2 := boxed hz
            clear h1 hqa hqb hz
            go_wp2_with fail
            go_roundw
            case rel => exact ⟨k + 1, by omega, by rw [e1, hz2.out], by go_num, trivial⟩
            case measure => simp [intOf]; omega
        · obtain rfl : k = i := by omega
          rw [show min k q = q by omega]
          have hfd := HFd.out wr (Below.refl _ _)
          clear HFd
          go_wp2_with fail
          refine hfd.mono ?_
          rintro e w8 ⟨rfl, hb8⟩
          have HB8 := boxed hb8
          have HBf := boxed (below_step HBw.out (Nat.le_refl _) hb8)
          clear hb8 hfd
          by_cases h0 : q = 0
          · subst h0
            go_wp2_with fail
            go_ret
            exact ⟨rfl, HBf.out⟩
          · obtain ⟨m, rfl⟩ : ∃ m, q = m + 1 := ⟨q - 1, by omega⟩
            have he1 := fun W hb => HE1.out W m (by omega) hb
            have he2 := fun W hb => HE2.out W m (by omega) hb
            generalize endL (sgs X0 k) m sx = V at *
            have e5 : ((m + 1 : Nat) : Int) - 1 = (m : Int) := by omega
            have e6 : (m : Int) + 1 - 1 = (m : Int) := by omega
            have t5 : decide ((m : Int) < 0) = false := decide_eq_false (by omega)
            have h1 := he1 w8 HB8.out
            have h2 := he2 w8 HB8.out
            clear he1 he2 HE1 HE2
            go_wp2_with fail
            refine h1.mono ?_
            rintro e w9 ⟨rfl, hw9⟩
            subst hw9
            go_wp2_with fail
            refine h2.mono ?_
            rintro e w9 ⟨rfl, hw9⟩
            subst hw9
            go_wp2_with fail
            go_ret
            exact ⟨ret_bool (by simp), HBf.out⟩

set_option maxRecDepth 100000 in
theorem lifted (os : Os) (started : os.Started) (H : Type) (enc : TypeId × Value → H) :
    ReturnsInHanded {} Try.checked os 8 .any (Rows.pagesFindsSpec.pre6 enc Try.prog Try.f8 Rows.pagesFindsRow.domain false) (Rows.pagesFindsSpec.post enc Try.prog Try.f8 false true false false) := by
  refine returnsInHanded_of_change_sized (C := Try.checked) own started (by kernel_rfl) Try.func8
    (ChangeSpec.witness6 (enc := enc) (C := Try.checked) false ⟨#[], #[.slice none 0 0, .int .i64 0], []⟩ 8 (by kernel_rfl) (by kernel_rfl) (by kernel_rfl) (by kernel_rfl)) ?_
  intro W base args ds gs before hval0 hW hcnd hsz0 _
  have hval : ∀ (j : Nat) t v, Try.f8.params[j]? = some t → args[j]? = some v → Value.okWide Try.prog W .any base t v := hval0
  have hsz : (DataW.weightsEach Try.prog (Try.f8.params.toList ++ Rows.pagesFindsSpec.plain.varTypes Try.prog) (ds ++ gs)).all (· ≤ reachBytes) = true := hsz0
  have hW' := hW
  obtain ⟨p, q, hA0, hV, rfl, hfz, hnd⟩ := hW
  have hA : DataW.TrodAll enc Try.prog W 0 (fun _ => true) true Try.f8.params.toList args.toList ds p := hA0
  rw [Try.params8] at hA hval hsz
  obtain ⟨v0, vs0, d0, ds0, p0, q0, hargs, rfl, rfl, h0, r0⟩ := trodAll_cons hA
  obtain ⟨v1, vs1, d1, ds1, p1, q1, rfl, rfl, rfl, h1, r1⟩ := trodAll_cons r0
  obtain ⟨rfl, rfl, rfl⟩ := trodAll_nil r1
  obtain rfl : args = #[v0, v1] := by cases args; simp_all
  obtain ⟨rfl, rfl⟩ := trodVars_none hV
  obtain ⟨ao0, n0, cap0, rfl⟩ := okWide_slice Try.underlying26 (hval 0 26 v0 rfl rfl)
  have k0 := h0
  have lt0 : ∀ x ∈ p0, x.block < W.heap.size := by obtain ⟨m, hm⟩ := k0; exact DataW.trod_lt m _ _ _ hm
  obtain ⟨hn0, X0, hX0⟩ : n0 ≤ maxLen ∧ ∃ X, IntsAt W ao0 n0 X := by
    obtain ⟨fuel, hf⟩ := k0
    exact open_nums hf
  obtain ⟨a1, rfl, rfl, rfl, w1⟩ := open_int Try.underlying3 (hval 1 3 v1 rfl rfl) h1
  clear hA0 hval0
  refine (walk W ao0 n0 cap0 X0 hn0 hX0 a1 w1).mono fun e W' ⟨he, hg⟩ => ?_
  subst he
  exact ⟨_, rfl, _, _, _, [], _, [], hW', trodAll_mk1 (shut_bool Try.underlying4 _), (trodAll_cons_mk (Below.trod laidOut (by kernel_rfl) (of_decide_eq_true (by kernel_rfl)) k0 hg lt0) (trodAll_cons_mk (shut_int Try.underlying3 w1) trodAll_mk0)), rfl, hg.frame _, fun h => by cases h⟩

theorem proved : Rows.PagesFindsSaid :=
  OpenClaim.holds_of_wide 8 Try.f8 rfl rfl rfl rfl rfl rfl rfl ⟨rfl, rfl, rfl, rfl, rfl⟩ rfl rfl rfl rfl rfl (by kernel_rfl) Try.func8 (by kernel_rfl)
    (of_decide_eq_true (by kernel_rfl)) (by unfold Func.isWrapper; first | (rw [if_pos (by decide +kernel)]; kernel_rfl) | (rw [if_neg (by decide +kernel)]; exact ⟨rfl, rfl⟩))
    (fun os started H enc _ => lifted os started H enc)
#print axioms proved
end Go.Proofs.Ytjchioopfljjhaa.pagesFinds
