/-
  For every list of styles, every number of a style and every text the law MetricsTexts answers true and leaves its arguments as they were: of styles that are right a right text of at most 4096 bytes is as wide as the document says, and as its two parts wherever it is cut between runes (of other texts the law asks nothing).
-/
import Derived.Test.YtjfcpbnipkkjbaaRows
import Derived.WalkKit
import Derived.ProofKit
import Derived.OpenShut
import Derived.SizedLaws
import Derived.ShutString
import Derived.ChangeOld
import Derived.Below
import Derived.Test.YtjfcpbnipkkjbaaMn
import Derived.Test.YtjfcpbnipkkjbaaMo
import Derived.Test.YtjfcpbnipkkjbaaNf
namespace Go.Proofs.Ytjfcpbnipkkjbaa.metricsTexts
open Go.ChangeShapes Go.WideShapes Go.ChangeAt Go.RowKit
open Go.ChangeMaps (open_string shut_string)
set_option linter.unusedVariables false
set_option linter.unusedSimpArgs false

theorem own : ownKnob Try.prog.godebug = none := by kernel_rfl
theorem laidOut : laidOutB Try.prog = true := by kernel_rfl

set_option maxRecDepth 100000 in
set_option maxHeartbeats 4000000 in
theorem walk (w : World) (ao0 : Option Addr) (n0 cap0 : Nat) (F0 : Nat → Sty) (hn0 : n0 ≤ cap0 ∧ cap0 * 80 ≤ 140737488351232) (hF0 : StysAt (fun _ => True) w ao0 n0 F0) (a1 : Int) (w1 : (Lit.int .i64 a1).wf = true) (a2 : ByteArray) (w2 : a2.size ≤ maxLen) :
    Calls Try.prog 6 #[.slice ao0 n0 cap0, .int .i64 a1, .string a2] w fun e w' => e = .returned (.bool true) ∧ Below w.heap.size w w' := by
  have htb := fun w' (hb : Below w.heap.size w w') => table_any (fun _ => True) ao0 n0 cap0 F0 w' (hF0.below hb)
  have HF0 := boxed hF0
  have hun : undef = Value.tuple #[] := rfl
  clear hF0
  go_enter Try.func6, Try.ntmps6
  go_wp2_with fail
  refine (awake_any _).mono ?_
  rintro e w1 ⟨rfl, hb1⟩
  have HB1 := boxed hb1
  clear hb1
  go_wp2_with fail
  refine (htb _ HB1.out).mono ?_
  rintro e w2 ⟨hor, hb2⟩
  have HB2 := boxed (below_step HB1.out (Nat.le_refl _) hb2)
  clear hb2 htb
  rcases hor with ⟨hne, rfl⟩ | ⟨hz, tb, G, rfl, hT, hL⟩
  · go_wp2
    go_ret
    exact ⟨rfl, HB2.out⟩
  · by_cases hs : 4096 < a2.size
    · have t1 : decide ((4096 : Int) < (a2.size : Int)) = true := decide_eq_true (by omega)
      have t1' : decide (4096 < a2.size) = true := decide_eq_true hs
      clear hT hL hz hs
      go_wp2
      go_ret
      exact ⟨rfl, HB2.out⟩
    · have t1 : decide ((4096 : Int) < (a2.size : Int)) = false := decide_eq_false (by omega)
      have t1' : decide (4096 < a2.size) = false := decide_eq_false hs
      have hg : ∀ i, i < n0 → flt (G i) = 0 := fun i hi => by rw [flt_like (hL i hi)]; exact (ckc_good F0 n0 hz).2.2 i hi
      obtain ⟨N, hN⟩ := cnt_ex a2
      have hri := refright_any a2 w2 (by omega) N hN
      by_cases hbad : badAt a2 N < 0
      · have hR := right_of a2 N hN hbad
        have hs2 : a2.size ≤ 4096 := by omega
        have hNl : N ≤ a2.size := by have := cnt_le a2 N hN; have := it_le a2 N; omega
        have tb' : decide (badAt a2 N < 0) = true := decide_eq_true hbad
        rw [tb'] at hri
        have HTX := boxed (fun w' (hb : Below w2.heap.size w2 w') t M (hM : Right t M) => text_any (hT.below hb) hg a1 t M hM)
        have HRT := boxed (fun w' (hb : Below w.heap.size w w') => reftext_any (fun _ => True) ao0 n0 cap0 F0 w' (HF0.out.below hb) a1 a2 N (by omega) hN)
        have HLK := boxed (fun t M => txw_like (ofS_like hL a1) t M)
        have hbd : Bnd (ofS F0 n0 a1) := ofS_bnd (fun i hi => (ckc_good F0 n0 hz).2.2 i hi) a1
        have HBD := boxed hbd
        have HR := boxed hR
        have HN := boxed hN
        clear hT hL hz hs hbad tb' hg hbd hR hN
        generalize ofS G n0 a1 = sg at *
        generalize ofS F0 n0 a1 = sf at *
        go_wp2_with fail
        refine hri.mono ?_
        rintro e w3 ⟨rfl, hb3⟩
        have H23 := boxed hb3
        clear hb3 hri
        go_wp2_with fail
        refine (HTX.out _ H23.out a2 N HR.out).mono ?_
        rintro e w4 ⟨rfl, hb4⟩
        have H24 := boxed (below_step H23.out (Nat.le_refl _) hb4)
        clear hb4 H23
        rw [HLK.out]
        have hru := runes_any a2 w4 (by omega) N HN.out
        rw [right_bad _ _ HR.out] at hru
        have HI : Box (∀ j, j < N → (its a2 N).getD j 0 = it a2 j) := boxed (fun j hj => its_get _ _ _ hj)
        have HIL := boxed (its_len a2 N)
        generalize its a2 N = IL at *
        generalize rns a2 N = RL at *
        have HVI := boxed (txw_in HBD.out a2 N (by omega))
        have HPA := boxed (fun K hK => txw_parts HBD.out a2 N K HR.out hK (by omega))
        generalize hV : txw sf a2 N = V at *
        clear hV
        go_wp2_with fail
        refine hru.mono ?_
        rintro e w5 ⟨p1, c1, p2, c2, rfl, -, hd2, hb5⟩
        have H25 := boxed (below_step H24.out (Nat.le_refl _) hb5)
        have HD := boxed hd2
        clear hru hd2 hb5 H24 hun
        go_wp2
        go_loopw [12] (fun i wr => ∃ k : Nat, k ≤ N ∧ k ≤ 30 ∧ i = .int .i64 (k : Int) ∧ Box (Below w5.heap.size w5 wr)) (fun i _ => 30 - (intOf i).toNat)
        case atStart => exact ⟨0, Nat.zero_le _, by omega, rfl, boxed (Below.refl _ _)⟩
        case round =>
          obtain ⟨k, hk, hk30, rfl, HB⟩ := hrel
          by_cases hlt : k < N
          · have q1 : decide ((k : Int) < (N : Int)) = true := decide_eq_true (by omega)
            have q1' : decide (k < N) = true := decide_eq_true hlt
            by_cases hl2 : k < 30
            · have q2 : decide ((k : Int) < 30) = true := decide_eq_true (by omega)
              have q2' : decide (k < 30) = true := decide_eq_true hl2
              obtain ⟨-, hx | ⟨b, off, e, hbl, hcell⟩⟩ := HD.out.below HB.out
              · exfalso; have := HIL.out; rw [hx] at this; simp at this; omega
              subst e
              have hc0 := hcell k (by rw [HIL.out]; exact hlt)
              rw [HI.out k hlt] at hc0
              have hcr := cut_right a2 N k HR.out (by omega)
              have hle := it_le a2 k
              have HC : Box (∀ w', Below wr.heap.size wr w' → w'.cell? ⟨b, off + k, none⟩ = some (.int .i64 (it a2 k : Nat))) := boxed (fun w' hb => hold hb hc0)
              have h1 := boxed (fun w' (hb : Below wr.heap.size wr w') => HTX.out w' (below_step (below_step H25.out (Nat.le_refl _) HB.out) (Nat.le_refl _) hb) _ _ hcr.1)
              have h2 := boxed (fun w' (hb : Below wr.heap.size wr w') => HTX.out w' (below_step (below_step H25.out (Nat.le_refl _) HB.out) (Nat.le_refl _) hb) _ _ hcr.2)
              simp only [HLK.out] at h1 h2
              have i1 := txw_in HBD.out (a2.extract 0 (it a2 k)) k (by omega)
              have i2 := txw_in HBD.out (a2.extract (it a2 k) a2.size) (N - k) (by omega)
              have hsum := HPA.out k (by omega)
              have HB0 : Box (Below wr.heap.size wr wr.drew) := boxed (Below.refl _ _).drew
              have hltI : (k : Int) < (N : Int) := by omega
              clear hcell hcr
              generalize txw sf (a2.extract 0 (it a2 k)) k = P1 at *
              generalize txw sf (a2.extract (it a2 k) a2.size) (N - k) = P2 at *
              have j1 : 0 ≤ P1 ∧ P1 ≤ 8589934592 := by omega
              have j2 : 0 ≤ P2 ∧ P2 ≤ 8589934592 := by omega
              have hwr : IntKind.i64.wrap (P1 + P2) = V := by rw [IntKind.wrap_i64]; omega
              clear i1 i2 hc0 hsum
              have hle' : (it a2 k : Int) ≤ (a2.size : Int) := by omega
              generalize it a2 k = A at *
              go_wp2
              go_region_held3 (fun w' => w'.cell? ⟨b, off + k, none⟩ = some (.int .i64 (A : Nat)))
                (first | (with_reducible exact HC.out _ HB6.out) | (with_reducible exact HC.out _ HB5.out) | (with_reducible exact HC.out _ HB0.out))
                (first
                  | (go_at_call 25; refine (h1.out _ HB0.out).mono ?_; rintro e w6 ⟨rfl, hb6⟩; have HB5 := boxed (below_step HB0.out (Nat.le_refl _) hb6); clear h1 hb6)
                  | (go_at_call 25; refine (h2.out _ HB5.out).mono ?_; rintro e w7 ⟨rfl, hb7⟩; have HB6 := boxed (below_step HB5.out (Nat.le_refl _) hb7); clear h2 hb7))
              go_wp2
              go_roundw
              case rel => exact ⟨k + 1, by omega, by omega, by go_num, boxed (below_step HB.out (Nat.le_refl _) HB6.out)⟩
              case measure => simp [intOf]; omega
            · have q2 : decide ((k : Int) < 30) = false := decide_eq_false (by omega)
              have q2' : decide (k < 30) = false := decide_eq_false hl2
              have hw5 := below_step (below_step HB2.out (Nat.le_refl _) H25.out) (Nat.le_refl _) HB.out
              have hrt := HRT.out _ hw5
              have HWF := boxed hw5
              clear hw5
              go_wp2_with fail
              refine hrt.mono ?_
              rintro e w8 ⟨rfl, hb8⟩
              have HB8 := boxed (below_step HWF.out (Nat.le_refl _) hb8)
              clear hb8 hrt
              go_wp2
              go_ret
              exact ⟨by simp, HB8.out⟩
          · have q1 : decide ((k : Int) < (N : Int)) = false := decide_eq_false (by omega)
            have q1' : decide (k < N) = false := decide_eq_false hlt
            have hw5 := below_step (below_step HB2.out (Nat.le_refl _) H25.out) (Nat.le_refl _) HB.out
            have hrt := HRT.out _ hw5
            have HWF := boxed hw5
            clear hw5
            go_wp2_with fail
            refine hrt.mono ?_
            rintro e w8 ⟨rfl, hb8⟩
            have HB8 := boxed (below_step HWF.out (Nat.le_refl _) hb8)
            clear hb8 hrt
            go_wp2
            go_ret
            exact ⟨by simp, HB8.out⟩
      · have tb' : decide (badAt a2 N < 0) = false := decide_eq_false hbad
        rw [tb'] at hri
        clear hT hL hz hs hbad tb' hg hN
        go_wp2_with fail
        refine hri.mono ?_
        rintro e w3 ⟨rfl, hb3⟩
        have H3 := boxed (below_step HB2.out (Nat.le_refl _) hb3)
        clear hb3 hri
        go_wp2
        go_ret
        exact ⟨rfl, H3.out⟩

set_option maxRecDepth 100000 in
theorem lifted (os : Os) (started : os.Started) (H : Type) (enc : TypeId × Value → H) :
    ReturnsInHanded {} Try.checked os 6 .any (Rows.metricsTextsSpec.pre6 enc Try.prog Try.f6 Rows.metricsTextsRow.domain false) (Rows.metricsTextsSpec.post enc Try.prog Try.f6 false true false false) := by
  refine returnsInHanded_of_change_sized (C := Try.checked) own started (by kernel_rfl) Try.func6
    (ChangeSpec.witness6 (enc := enc) (C := Try.checked) false ⟨#[], #[.slice none 0 0, .int .i64 0, .string ByteArray.empty], []⟩ 8 (by kernel_rfl) (by kernel_rfl) (by kernel_rfl) (by kernel_rfl)) ?_
  intro W base args ds gs before hval0 hW hcnd hsz0 _
  have hval : ∀ (j : Nat) t v, Try.f6.params[j]? = some t → args[j]? = some v → Value.okWide Try.prog W .any base t v := hval0
  have hsz : (DataW.weightsEach Try.prog (Try.f6.params.toList ++ Rows.metricsTextsSpec.plain.varTypes Try.prog) (ds ++ gs)).all (· ≤ reachBytes) = true := hsz0
  have hW' := hW
  obtain ⟨p, q, hA0, hV, rfl, hfz, hnd⟩ := hW
  have hA : DataW.TrodAll enc Try.prog W 0 (fun _ => true) true Try.f6.params.toList args.toList ds p := hA0
  rw [Try.params6] at hA hval hsz
  obtain ⟨v0, vs0, d0, ds0, p0, q0, hargs, rfl, rfl, h0, r0⟩ := trodAll_cons hA
  obtain ⟨v1, vs1, d1, ds1, p1, q1, rfl, rfl, rfl, h1, r1⟩ := trodAll_cons r0
  obtain ⟨v2, vs2, d2, ds2, p2, q2, rfl, rfl, rfl, h2, r2⟩ := trodAll_cons r1
  obtain ⟨rfl, rfl, rfl⟩ := trodAll_nil r2
  obtain rfl : args = #[v0, v1, v2] := by cases args; simp_all
  obtain ⟨rfl, rfl⟩ := trodVars_none hV
  obtain ⟨ao0, n0, cap0, rfl⟩ := okWide_slice Try.underlying22 (hval 0 22 v0 rfl rfl)
  have k0 := h0
  have lt0 : ∀ x ∈ p0, x.block < W.heap.size := by obtain ⟨m, hm⟩ := k0; exact DataW.trod_lt m _ _ _ hm
  obtain ⟨hn0, -, F0, hF0⟩ : (n0 ≤ cap0 ∧ cap0 * 80 ≤ 140737488351232) ∧ (ao0 = none → n0 = 0 ∧ cap0 = 0) ∧ ∃ F, StysAt (fun _ => True) W ao0 n0 F := by
    obtain ⟨fuel, hf⟩ := k0
    exact open_styles hf (fun n hn => by simpa using List.all_eq_true.1 hsz _ (DataW.weights_mem_each (j := 0) rfl rfl n hn))
  obtain ⟨a1, rfl, rfl, rfl, w1⟩ := open_int Try.underlying3 (hval 1 3 v1 rfl rfl) h1
  obtain ⟨a2, rfl, rfl, rfl, w2⟩ := open_string Try.underlying9 (hval 2 9 v2 rfl rfl) h2
  clear hA0 hval0
  refine (walk W ao0 n0 cap0 F0 hn0 hF0 a1 w1 a2 w2).mono fun e W' ⟨he, hg⟩ => ?_
  subst he
  exact ⟨_, rfl, _, _, _, [], _, [], hW', trodAll_mk1 (shut_bool Try.underlying4 _), (trodAll_cons_mk (Below.trod laidOut (by kernel_rfl) (of_decide_eq_true (by kernel_rfl)) k0 hg lt0) (trodAll_cons_mk (shut_int Try.underlying3 w1) (trodAll_cons_mk (shut_string Try.underlying9 w2) trodAll_mk0))), rfl, hg.frame _, fun h => by cases h⟩

theorem proved : Rows.MetricsTextsSaid :=
  OpenClaim.holds_of_wide 6 Try.f6 rfl rfl rfl rfl rfl rfl rfl ⟨rfl, rfl, rfl, rfl, rfl⟩ rfl rfl rfl rfl rfl (by kernel_rfl) Try.func6 (by kernel_rfl)
    (of_decide_eq_true (by kernel_rfl)) (by unfold Func.isWrapper; first | (rw [if_pos (by decide +kernel)]; kernel_rfl) | (rw [if_neg (by decide +kernel)]; exact ⟨rfl, rfl⟩))
    (fun os started H enc _ => lifted os started H enc)
#print axioms proved
end Go.Proofs.Ytjfcpbnipkkjbaa.metricsTexts
