/-
  For every number and style the law RunsBegins answers true: a list begins with so many bytes of one style, or is refused.
-/
import Derived.Test.YtdchpiihjjjpfaaRows
import Derived.WalkKit
import Derived.ProofKit
import Derived.OpenShut
import Derived.SizedLaws
import Derived.ShutString
import Derived.ChangeOld
import Derived.Below
import Derived.Test.YtdchpiihjjjpfaaLv
import Derived.Test.YtdchpiihjjjpfaaLz
import Derived.Test.YtdchpiihjjjpfaaKb
import Derived.Test.YtdchpiihjjjpfaaKc
import Derived.Test.YtdchpiihjjjpfaaKd
import Derived.Test.YtdchpiihjjjpfaaKe
namespace Go.Proofs.Ytdchpiihjjjpfaa.runsBegins
open Go.ChangeShapes Go.WideShapes Go.ChangeAt Go.RowKit
open Go.ChangeMaps (open_string shut_string)
set_option linter.unusedVariables false
set_option linter.unusedSimpArgs false

theorem own : ownKnob Try.prog.godebug = none := by kernel_rfl
theorem laidOut : laidOutB Try.prog = true := by kernel_rfl

set_option maxRecDepth 100000 in
set_option maxHeartbeats 2000000 in
theorem walk (w : World) (a0 : Int) (w0 : (Lit.int .i64 a0).wf = true) (a1 : Int) (w1 : (Lit.int .i64 a1).wf = true) :
    Calls Try.prog 4 #[.int .i64 a0, .int .i64 a1] w fun e w' => e = .returned (.bool true) ∧ Below w.heap.size w w' := by
  have HNW := boxed (fun (w1 : World) => new_any a0 a1 w1 (wf_i64 w0))
  have HRN := boxed (fun (w1 : World) => rnew_any a0 a1 w1 (wf_i64 w0))
  go_enter Try.func4, Try.ntmps4
  go_wp2_with fail
  refine (awake_any _).mono ?_
  rintro e w1 ⟨rfl, hb1⟩
  have HB1 := boxed hb1
  clear hb1
  go_wp2_with fail
  refine (HNW.out _).mono ?_
  rintro e w2 hn2
  rcases hn2 with ⟨hne, rfl, hb2⟩ | ⟨hz, lb, ao, cap, rfl, hlb, hL, hb2⟩
  · have HB2 := boxed (below_step HB1.out (Nat.le_refl _) hb2)
    clear hb2
    go_wp2_with fail
    refine (HRN.out _).mono ?_
    rintro e w3 hn3
    rcases hn3 with ⟨-, rfl, hb3⟩ | ⟨hz, -⟩
    · have HB3 := boxed (below_step HB2.out (Nat.le_refl _) hb3)
      clear hb3
      have hne' : (newE a0 a1 == 0) = false := by simpa using hne
      have hne2 : (newE a0 a1 != 0) = true := by simpa using hne
      clear hne
      generalize newE a0 a1 = E at *
      go_wp2
      go_ret
      exact ⟨rfl, HB3.out.alloc HB3.out.size _⟩
    · exact absurd hz hne
  · have HB2 := boxed (below_step HB1.out (Nat.le_refl _) hb2)
    have HL := boxed hL
    clear hb2 hL
    go_wp2_with fail
    refine (HRN.out _).mono ?_
    rintro e w3 hn3
    rcases hn3 with ⟨hne, -⟩ | hn3
    · exact absurd hz hne
    · obtain ⟨-, b, cp, rfl, -, hb3⟩ := hn3
      obtain ⟨⟨q1, q2⟩, q3⟩ : (0 ≤ a0 ∧ a0 ≤ 65536) ∧ stb a1 = true := by
        unfold newE at hz
        by_cases c : a0 < 0 ∨ 65536 < a0
        · rw [if_pos c] at hz; omega
        · rw [if_neg c] at hz
          by_cases d : stb a1 = true
          · exact ⟨⟨by omega, by omega⟩, d⟩
          · rw [if_neg d] at hz; omega
      have hy := (stb_iff _).1 q3
      obtain ⟨n, rfl⟩ : ∃ n : Nat, a0 = n := ⟨a0.toNat, by omega⟩
      have en : ((n : Int)).toNat = n := by simp
      rw [en] at HL ⊢
      have hbx : Below w2.heap.size w2 (w3.alloc (.cells #[.slice (some ⟨b, 0, none⟩) (List.replicate n a1).length cp, .int .i64 a1] 28)) := hb3.alloc hb3.size _
      generalize (List.replicate n a1).length = N0 at hbx ⊢
      obtain ⟨wx, hwx⟩ : ∃ wx, w3.alloc (.cells #[.slice (some ⟨b, 0, none⟩) N0 cp, .int .i64 a1] 28) = wx := ⟨_, rfl⟩
      rw [hwx] at hbx
      have HBx := boxed (below_step HB2.out (Nat.le_refl _) hbx)
      have hLx := HL.out.below hbx
      have HLN := boxed (fun w' (hb : Below wx.heap.size wx w') => len_any (hLx.below hb))
      have HNR := boxed (near_any hLx 0 ⟨by omega, by omega⟩)
      have HCT := boxed (fun w' (hb : Below wx.heap.size wx w') => count_any (hLx.below hb))
      have HMO := boxed (fun w' (hb : Below wx.heap.size wx w') => most_any (hLx.below hb))
      have e1 : nr (List.replicate n a1) a1 0 = a1 := by
        unfold nr
        rw [if_neg (by unfold outb; simp)]
        by_cases c : n = 0
        · subst c; simp
        · rw [if_neg (by simpa using c)]; simp [List.getD]; rw [List.getElem?_replicate, if_pos (by omega)]; rfl
      have e2 : outb (List.replicate n a1).length 0 0 = false := by unfold outb; simp
      rw [e1, e2] at HNR
      have eo : ofs false = 0 := rfl
      rw [eo] at HNR
      clear hb3 hbx hLx HL HNW HRN e1 e2 hz q3
      have el : (List.replicate n a1).length = n := by simp
      rw [el] at HLN
      by_cases c : n = 0
      · subst c
        have ec : (enc (List.replicate 0 a1)).length = 0 := rfl
        rw [ec] at HCT
        have em : ∀ m, IsMx (List.replicate 0 a1) m → m = -1 := fun m h => by rcases h.2 with e | e; exact e; simp at e
        have HMM := boxed em
        clear em ec el
        go_wp2_with fail
        refine HNR.out.mono ?_
        rintro e w4 ⟨rfl, hb4⟩
        have HD4 := boxed hb4
        clear hb4
        go_wp2_with fail
        refine (HLN.out _ HD4.out).mono ?_
        rintro e w5 ⟨rfl, hb5⟩
        have HD5 := boxed (below_step HD4.out (Nat.le_refl _) hb5)
        clear hb5
        go_wp2_with (go_at_call 16; refine (HCT.out _ HD5.out).mono ?_; rintro e w7' ⟨rfl, hw7⟩; subst w7')
        refine (HMO.out _ HD5.out).mono ?_
        rintro e w6 ⟨m, rfl, hm, hb6⟩
        obtain rfl := HMM.out m hm
        have HD6 := boxed (below_step HD5.out (Nat.le_refl _) hb6)
        clear hb6 hm
        go_wp2
        go_ret
        exact ⟨by simp, below_step HBx.out (Nat.le_refl _) HD6.out⟩
      · have ec : (enc (List.replicate n a1)).length = 1 := by rw [enc_add_nil n a1 (by omega)]; rfl
        rw [ec] at HCT
        have em : ∀ m, IsMx (List.replicate n a1) m → m = a1 := fun m h => by
          have := h.1 a1 (List.mem_replicate.2 ⟨c, rfl⟩)
          rcases h.2 with e | e
          · omega
          · exact (List.mem_replicate.1 e).2
        have HMM := boxed em
        have z1 : ((n : Int) == 0) = false := by rw [beq_eq_false_iff_ne]; omega
        have z2 : decide ((0 : Int) < (n : Int)) = true := decide_eq_true (by omega)
        clear em ec el
        go_wp2_with fail
        refine HNR.out.mono ?_
        rintro e w4 ⟨rfl, hb4⟩
        have HD4 := boxed hb4
        clear hb4
        go_wp2_with fail
        refine (HLN.out _ HD4.out).mono ?_
        rintro e w5 ⟨rfl, hb5⟩
        have HD5 := boxed (below_step HD4.out (Nat.le_refl _) hb5)
        clear hb5
        go_wp2_with (go_at_call 16; refine (HCT.out _ HD5.out).mono ?_; rintro e w7' ⟨rfl, hw7⟩; subst w7')
        refine (HMO.out _ HD5.out).mono ?_
        rintro e w6 ⟨m, rfl, hm, hb6⟩
        obtain rfl := HMM.out m hm
        have HD6 := boxed (below_step HD5.out (Nat.le_refl _) hb6)
        clear hb6 hm
        go_wp2
        go_ret
        exact ⟨by simp, below_step HBx.out (Nat.le_refl _) HD6.out⟩

set_option maxRecDepth 100000 in
theorem lifted (os : Os) (started : os.Started) (H : Type) (enc : TypeId × Value → H) :
    ReturnsInHanded {} Try.checked os 4 .any (Rows.runsBeginsSpec.pre6 enc Try.prog Try.f4 Rows.runsBeginsRow.domain false) (Rows.runsBeginsSpec.post enc Try.prog Try.f4 false true false false) := by
  refine returnsInHanded_of_change_sized (C := Try.checked) own started (by kernel_rfl) Try.func4
    (ChangeSpec.witness6 (enc := enc) (C := Try.checked) false ⟨#[], #[.int .i64 0, .int .i64 0], []⟩ 8 (by kernel_rfl) (by kernel_rfl) (by kernel_rfl) (by kernel_rfl)) ?_
  intro W base args ds gs before hval0 hW hcnd hsz0 _
  have hval : ∀ (j : Nat) t v, Try.f4.params[j]? = some t → args[j]? = some v → Value.okWide Try.prog W .any base t v := hval0
  have hsz : (DataW.weightsEach Try.prog (Try.f4.params.toList ++ Rows.runsBeginsSpec.plain.varTypes Try.prog) (ds ++ gs)).all (· ≤ reachBytes) = true := hsz0
  have hW' := hW
  obtain ⟨p, q, hA0, hV, rfl, hfz, hnd⟩ := hW
  have hA : DataW.TrodAll enc Try.prog W 0 (fun _ => true) true Try.f4.params.toList args.toList ds p := hA0
  rw [Try.params4] at hA hval hsz
  obtain ⟨v0, vs0, d0, ds0, p0, q0, hargs, rfl, rfl, h0, r0⟩ := trodAll_cons hA
  obtain ⟨v1, vs1, d1, ds1, p1, q1, rfl, rfl, rfl, h1, r1⟩ := trodAll_cons r0
  obtain ⟨rfl, rfl, rfl⟩ := trodAll_nil r1
  obtain rfl : args = #[v0, v1] := by cases args; simp_all
  obtain ⟨rfl, rfl⟩ := trodVars_none hV
  obtain ⟨a0, rfl, rfl, rfl, w0⟩ := open_int Try.underlying3 (hval 0 3 v0 rfl rfl) h0
  obtain ⟨a1, rfl, rfl, rfl, w1⟩ := open_int Try.underlying3 (hval 1 3 v1 rfl rfl) h1
  clear hA0 hval0
  refine (walk W a0 w0 a1 w1).mono fun e W' ⟨he, hg⟩ => ?_
  subst he
  exact ⟨_, rfl, _, _, _, [], _, [], hW', trodAll_mk1 (shut_bool Try.underlying4 _), (trodAll_cons_mk (shut_int Try.underlying3 w0) (trodAll_cons_mk (shut_int Try.underlying3 w1) trodAll_mk0)), rfl, hg.frame _, fun h => by cases h⟩

theorem proved : Rows.RunsBeginsSaid :=
  OpenClaim.holds_of_wide 4 Try.f4 rfl rfl rfl rfl rfl rfl rfl ⟨rfl, rfl, rfl, rfl, rfl⟩ rfl rfl rfl rfl rfl (by kernel_rfl) Try.func4 (by kernel_rfl)
    (of_decide_eq_true (by kernel_rfl)) (by unfold Func.isWrapper; first | (rw [if_pos (by decide +kernel)]; kernel_rfl) | (rw [if_neg (by decide +kernel)]; exact ⟨rfl, rfl⟩))
    (fun os started H enc _ => lifted os started H enc)
#print axioms proved
end Go.Proofs.Ytdchpiihjjjpfaa.runsBegins
