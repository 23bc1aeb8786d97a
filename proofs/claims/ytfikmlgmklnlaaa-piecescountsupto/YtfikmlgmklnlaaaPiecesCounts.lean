/-
  For every text, every edits and every number, of at most 1048576 values and letters together, the law PiecesCounts answers true and leaves its arguments as they were: how many line ends stand ahead of a place, and where each stands, is told as the document tells it.
-/
import Derived.Test.YtfikmlgmklnlaaaRows
import Derived.WalkKit
import Derived.ProofKit
import Derived.OpenShut
import Derived.ShutString
import Derived.ChangeOld
import Derived.Below
import Derived.Test.YtfikmlgmklnlaaaXd
namespace Go.Proofs.Ytfikmlgmklnlaaa.piecesCounts
open Go.ChangeShapes Go.WideShapes Go.ChangeAt Go.RowKit
open Go.ChangeMaps (open_string shut_string)
set_option linter.unusedVariables false
set_option linter.unusedSimpArgs false

theorem own : ownKnob Try.prog.godebug = none := by kernel_rfl
theorem laidOut : laidOutB Try.prog = true := by kernel_rfl

set_option maxRecDepth 100000 in
set_option maxHeartbeats 6000000 in
theorem walk (w : World) (a0 : ByteArray) (w0 : a0.size ≤ maxLen) (hs0 : a0.size ≤ 1048576) (ao1 : Option Addr) (n1 cap1 : Nat) (O1 : Nat → Opr) (hn1 : n1 ≤ 1048576) (hO1 : OpsAt w ao1 n1 O1) (a2 : Int) (w2 : (Lit.int .i64 a2).wf = true) :
    Calls Try.prog 6 #[.string a0, .slice ao1 n1 cap1, .int .i64 a2] w fun e w' => e = .returned (.bool true) ∧ Below w.heap.size w w' := by
  obtain ⟨N, hN⟩ := cnt_ex a0
  have hri := fun w => right_any a0 w N hN hs0
  have ha2 := wf_i64 w2
  clear w2
  by_cases hr : a0.size ≤ 4096 ∧ badAt a0 N < 0
  · rw [decide_eq_true hr] at hri
    have hpl := fun w' (hb : Below w.heap.size w w') => played_any a0 ao1 n1 cap1 O1 w' (hO1.below hb) N hN (by omega) hr.2 hn1
    clear hN hr hO1
    go_enter Try.func6, Try.ntmps6
    go_wp2_with fail
    refine (awake_any _).mono ?_
    rintro e w1 ⟨rfl, hb1⟩
    have HB1 := boxed hb1
    clear hb1
    go_wp2_with fail
    refine (hri _).mono ?_
    rintro e w2 ⟨rfl, hb2⟩
    have HB2 := boxed (below_step HB1.out (Nat.le_refl _) hb2)
    clear hb2 hri
    go_wp2_with fail
    refine (hpl _ HB2.out).mono ?_
    rintro e w3 ⟨tb, r, rfl, -, hl⟩
    have HB3 := boxed (below_step HB2.out (Nat.le_refl _) hl.frame)
    have hrs := hl.size
    obtain ⟨S, x, A, T, t1, -, t3, -⟩ := hl
    have HT := boxed t1
    have HF := boxed t3
    clear t1 t3 hpl
    go_wp2_with fail
    refine (ends_any r _ (by omega)).mono ?_
    rintro e w4 ⟨ae, ce, rfl, hdg, hb4⟩
    have HB4 := boxed (below_step HB3.out (Nat.le_refl _) hb4)
    have hT4 := HT.out.below hb4
    have HDG := boxed hdg
    have hnl := fun (a : Int) (ha : -9223372036854775808 ≤ a ∧ a ≤ 9223372036854775807) w' (hb : Below w4.heap.size w4 w') => newline_any (hT4.below hb) a ha
    have hbo := fun hno => before_out hT4 a2 hno
    have hbi := fun (k : Nat) hk => before_in hT4 k hk
    rw [HF.out] at hnl hbo hbi
    rw [bl_len] at hbo hbi
    have hlall := les_all (bl r)
    rw [bl_len] at hlall
    have hles := les_le (bl r) r.size
    have hfin : ∀ k : Nat, k < (les (bl r) r.size).length → fe (bl r) (k : Int) = ((les (bl r) r.size).getD k 0, true) := by
      intro k hk
      have := fe_in (bl r) k (by omega)
      rw [bl_len] at this
      exact this
    have hfout : ∀ a : Int, (a < 0 ∨ ((les (bl r) r.size).length : Int) ≤ a) → fe (bl r) a = (0, false) := by
      intro a h
      unfold fe
      rw [if_neg (by omega)]
    have HNL := boxed hnl
    have HFI := boxed hfin
    have HFO := boxed hfout
    have HHL := boxed hlall
    have hun : undef = Value.tuple #[] := rfl
    clear HT HF hdg hb4 hT4 hnl hfin hfout hlall
    generalize hLS : les (bl r) r.size = LS at *
    have HLS := boxed hLS
    clear hLS
    have hLb : LS.length ≤ 65536 := by omega
    by_cases c1 : a2 < 0
    · have hbe := hbo (.inl c1)
      have p1 : decide (a2 < 0) = true := decide_eq_true c1
      have p3 : decide ((0 : Int) ≤ a2) = false := decide_eq_false (by omega)
      have HLast : Box (fe (bl r) a2 = (0, false)) := boxed (HFO.out a2 (.inl c1))
      clear hbo hbi c1
      go_wp2_with fail
      refine hbe.mono ?_
      rintro e w5 ⟨rfl, hb5⟩
      have HB5 := boxed hb5
      clear hb5 hbe
      go_wp2_with fail
      clear hun
      go_loopw [13] (fun iv wr => ∃ k : Nat, k ≤ LS.length ∧ iv = .int .i64 (k : Nat) ∧ Box (Below w4.heap.size w4 wr)) (fun iv _ => LS.length - (intOf iv).toNat)
      case atStart => exact ⟨0, Nat.zero_le _, rfl, HB5⟩
      case round =>
        obtain ⟨k, hk, rfl, HBr⟩ := hrel
        by_cases hlt : k < LS.length
        · have hne := HNL.out (k : Int) (by omega) wr HBr.out
          rw [HFI.out k hlt] at hne
          obtain ⟨-, hor⟩ := HDG.out.below HBr.out
          rcases hor with hem | ⟨bb, off, rfl, hbb, hcc⟩
          · rw [hem] at hlt; simp at hlt
          have hcell : Box (∀ w', Below wr.heap.size wr w' → w'.cell? ⟨bb, off + k, none⟩ = some (.int .i64 ((LS.getD k 0 : Nat) : Int))) := boxed (fun w' hb => hold hb (hcc k hlt))
          have q1 : decide ((k : Int) < (LS.length : Int)) = true := decide_eq_true (by omega)
          have q1' : decide (k < LS.length) = true := decide_eq_true hlt
          clear hcc hbb
          generalize LS.getD k 0 = G at *
          go_wp2_with fail
          refine hne.mono ?_
          rintro e w7 ⟨rfl, hb7⟩
          have HB7 := boxed (below_step HBr.out (Nat.le_refl _) hb7)
          have hc7 := hcell.out _ hb7
          clear hb7 hne hcell
          go_wp2
          go_roundw
          case rel => exact ⟨k + 1, by omega, by go_num, HB7⟩
          case measure => simp [intOf]; omega
        · have hkN : k = LS.length := by omega
          have q1 : decide ((k : Int) < (LS.length : Int)) = false := decide_eq_false (by omega)
          have q1' : decide (k < LS.length) = false := decide_eq_false hlt
          have hun : undef = Value.tuple #[] := rfl
          have hne := HNL.out a2 (by omega) wr HBr.out
          rw [HLast.out] at hne
          clear hlt
          go_wp2_with fail
          refine hne.mono ?_
          rintro e w7 ⟨rfl, hb7⟩
          have HB7 := boxed (below_step HBr.out (Nat.le_refl _) hb7)
          clear hb7 hne
          go_wp2
          go_ret
          exact ⟨by simp, below_step HB4.out (Nat.le_refl _) HB7.out⟩
    · have p1 : decide (a2 < 0) = false := decide_eq_false c1
      have p3 : decide ((0 : Int) ≤ a2) = true := decide_eq_true (by omega)
      by_cases c2 : (r.size : Int) < a2
      · have hbe := hbo (.inr c2)
        have p2 : decide ((r.size : Int) < a2) = true := decide_eq_true c2
        have p4 : decide (a2 < (LS.length : Int)) = false := decide_eq_false (by omega)
        have HLast : Box (fe (bl r) a2 = (0, false)) := boxed (HFO.out a2 (.inr (by omega)))
        clear hbo hbi c1 c2
        go_wp2_with fail
        refine hbe.mono ?_
        rintro e w5 ⟨rfl, hb5⟩
        have HB5 := boxed hb5
        clear hb5 hbe
        go_wp2_with fail
        clear hun
        go_loopw [13] (fun iv wr => ∃ k : Nat, k ≤ LS.length ∧ iv = .int .i64 (k : Nat) ∧ Box (Below w4.heap.size w4 wr)) (fun iv _ => LS.length - (intOf iv).toNat)
        case atStart => exact ⟨0, Nat.zero_le _, rfl, HB5⟩
        case round =>
          obtain ⟨k, hk, rfl, HBr⟩ := hrel
          by_cases hlt : k < LS.length
          · have hne := HNL.out (k : Int) (by omega) wr HBr.out
            rw [HFI.out k hlt] at hne
            obtain ⟨-, hor⟩ := HDG.out.below HBr.out
            rcases hor with hem | ⟨bb, off, rfl, hbb, hcc⟩
            · rw [hem] at hlt; simp at hlt
            have hcell : Box (∀ w', Below wr.heap.size wr w' → w'.cell? ⟨bb, off + k, none⟩ = some (.int .i64 ((LS.getD k 0 : Nat) : Int))) := boxed (fun w' hb => hold hb (hcc k hlt))
            have q1 : decide ((k : Int) < (LS.length : Int)) = true := decide_eq_true (by omega)
            have q1' : decide (k < LS.length) = true := decide_eq_true hlt
            clear hcc hbb
            generalize LS.getD k 0 = G at *
            go_wp2_with fail
            refine hne.mono ?_
            rintro e w7 ⟨rfl, hb7⟩
            have HB7 := boxed (below_step HBr.out (Nat.le_refl _) hb7)
            have hc7 := hcell.out _ hb7
            clear hb7 hne hcell
            go_wp2
            go_roundw
            case rel => exact ⟨k + 1, by omega, by go_num, HB7⟩
            case measure => simp [intOf]; omega
          · have hkN : k = LS.length := by omega
            have q1 : decide ((k : Int) < (LS.length : Int)) = false := decide_eq_false (by omega)
            have q1' : decide (k < LS.length) = false := decide_eq_false hlt
            have hun : undef = Value.tuple #[] := rfl
            have hne := HNL.out a2 (by omega) wr HBr.out
            rw [HLast.out] at hne
            clear hlt
            go_wp2_with fail
            refine hne.mono ?_
            rintro e w7 ⟨rfl, hb7⟩
            have HB7 := boxed (below_step HBr.out (Nat.le_refl _) hb7)
            clear hb7 hne
            go_wp2
            go_ret
            exact ⟨by simp, below_step HB4.out (Nat.le_refl _) HB7.out⟩
      · obtain ⟨K, hK⟩ : ∃ K : Nat, a2 = (K : Int) := ⟨a2.toNat, by omega⟩
        subst hK
        have hKs : K ≤ r.size := by omega
        have hbe := hbi K hKs
        have p2 : decide ((r.size : Int) < (K : Int)) = false := decide_eq_false c2
        have p2' : decide (r.size < K) = false := decide_eq_false (by omega)
        have s1 : ∀ w, (Instr.slice 9 (.string r) none (some (.int .i64 (K : Int))) none).run Try.prog w = .ok (.string (r.extract 0 K)) w := fun w => by
          simpa using run_slice_string_h (P := Try.prog) w 9 r Try.underlying9 .i64 (K : Int) (by omega) (by omega)
        have e1 : bl (r.extract 0 K) = (bl r).take K := by rw [bl_ext, List.drop_zero]
        have hen := fun w => ends_any (r.extract 0 K) w (by rw [← bl_len, e1]; simp [bl_len]; omega)
        have e2 : (les (bl (r.extract 0 K)) (r.extract 0 K).size).length = nl ((bl r).take K) := by rw [← e1, ← bl_len (r.extract 0 K), les_all]
        have HE2 := boxed e2
        have hnb : nl ((bl r).take K) ≤ 65536 := by have := nl_le ((bl r).take K); simp [bl_len] at this; omega
        clear hbo hbi c1 c2 e1 e2
        generalize les (bl (r.extract 0 K)) (r.extract 0 K).size = LK at *
        have hlk : LK.length = nl ((bl r).take K) := HE2.out
        generalize nl ((bl r).take K) = NK at *
        generalize r.extract 0 K = RK at *
        by_cases c3 : K < LS.length
        · have p4 : decide ((K : Int) < (LS.length : Int)) = true := decide_eq_true (by omega)
          have p4' : decide (K < LS.length) = true := decide_eq_true c3
          have HLast : Box (fe (bl r) (K : Int) = (LS.getD K 0, true)) := boxed (HFI.out K c3)
          go_wp2_with fail
          refine hbe.mono ?_
          rintro e w5 ⟨rfl, hb5⟩
          have HB5 := boxed hb5
          clear hb5 hbe
          go_wp2_with fail
          refine (hen _).mono ?_
          rintro e w6 ⟨ak, ck, rfl, -, hb6⟩
          have HB6 := boxed (below_step HB5.out (Nat.le_refl _) hb6)
          clear hb6 hen
          rw [hlk]
          clear hlk HE2
          go_wp2_with fail
          clear hun
          go_loopw [13] (fun iv wr => ∃ k : Nat, k ≤ LS.length ∧ iv = .int .i64 (k : Nat) ∧ Box (Below w4.heap.size w4 wr)) (fun iv _ => LS.length - (intOf iv).toNat)
          case atStart => exact ⟨0, Nat.zero_le _, rfl, HB6⟩
          case round =>
            obtain ⟨k, hk, rfl, HBr⟩ := hrel
            by_cases hlt : k < LS.length
            · have hne := HNL.out (k : Int) (by omega) wr HBr.out
              rw [HFI.out k hlt] at hne
              obtain ⟨-, hor⟩ := HDG.out.below HBr.out
              rcases hor with hem | ⟨bb, off, rfl, hbb, hcc⟩
              · rw [hem] at hlt; simp at hlt
              have hcell : Box (∀ w', Below wr.heap.size wr w' → w'.cell? ⟨bb, off + k, none⟩ = some (.int .i64 ((LS.getD k 0 : Nat) : Int))) := boxed (fun w' hb => hold hb (hcc k hlt))
              have q1 : decide ((k : Int) < (LS.length : Int)) = true := decide_eq_true (by omega)
              have q1' : decide (k < LS.length) = true := decide_eq_true hlt
              clear hcc hbb
              generalize LS.getD k 0 = G at *
              go_wp2_with fail
              refine hne.mono ?_
              rintro e w7 ⟨rfl, hb7⟩
              have HB7 := boxed (below_step HBr.out (Nat.le_refl _) hb7)
              have hc7 := hcell.out _ hb7
              clear hb7 hne hcell
              go_wp2
              go_roundw
              case rel => exact ⟨k + 1, by omega, by go_num, HB7⟩
              case measure => simp [intOf]; omega
            · have hkN : k = LS.length := by omega
              have q1 : decide ((k : Int) < (LS.length : Int)) = false := decide_eq_false (by omega)
              have q1' : decide (k < LS.length) = false := decide_eq_false hlt
              have hun : undef = Value.tuple #[] := rfl
              have hne := HNL.out (K : Int) (by omega) wr HBr.out
              rw [HLast.out] at hne
              clear hlt
              go_wp2_with fail
              refine hne.mono ?_
              rintro e w7 ⟨rfl, hb7⟩
              have HB7 := boxed (below_step HBr.out (Nat.le_refl _) hb7)
              clear hb7 hne
              go_wp2
              go_ret
              exact ⟨by simp, below_step HB4.out (Nat.le_refl _) HB7.out⟩
        · have p4 : decide ((K : Int) < (LS.length : Int)) = false := decide_eq_false (by omega)
          have p4' : decide (K < LS.length) = false := decide_eq_false c3
          have HLast : Box (fe (bl r) (K : Int) = (0, false)) := boxed (HFO.out _ (.inr (by omega)))
          go_wp2_with fail
          refine hbe.mono ?_
          rintro e w5 ⟨rfl, hb5⟩
          have HB5 := boxed hb5
          clear hb5 hbe
          go_wp2_with fail
          refine (hen _).mono ?_
          rintro e w6 ⟨ak, ck, rfl, -, hb6⟩
          have HB6 := boxed (below_step HB5.out (Nat.le_refl _) hb6)
          clear hb6 hen
          rw [hlk]
          clear hlk HE2
          go_wp2_with fail
          clear hun
          go_loopw [13] (fun iv wr => ∃ k : Nat, k ≤ LS.length ∧ iv = .int .i64 (k : Nat) ∧ Box (Below w4.heap.size w4 wr)) (fun iv _ => LS.length - (intOf iv).toNat)
          case atStart => exact ⟨0, Nat.zero_le _, rfl, HB6⟩
          case round =>
            obtain ⟨k, hk, rfl, HBr⟩ := hrel
            by_cases hlt : k < LS.length
            · have hne := HNL.out (k : Int) (by omega) wr HBr.out
              rw [HFI.out k hlt] at hne
              obtain ⟨-, hor⟩ := HDG.out.below HBr.out
              rcases hor with hem | ⟨bb, off, rfl, hbb, hcc⟩
              · rw [hem] at hlt; simp at hlt
              have hcell : Box (∀ w', Below wr.heap.size wr w' → w'.cell? ⟨bb, off + k, none⟩ = some (.int .i64 ((LS.getD k 0 : Nat) : Int))) := boxed (fun w' hb => hold hb (hcc k hlt))
              have q1 : decide ((k : Int) < (LS.length : Int)) = true := decide_eq_true (by omega)
              have q1' : decide (k < LS.length) = true := decide_eq_true hlt
              clear hcc hbb
              generalize LS.getD k 0 = G at *
              go_wp2_with fail
              refine hne.mono ?_
              rintro e w7 ⟨rfl, hb7⟩
              have HB7 := boxed (below_step HBr.out (Nat.le_refl _) hb7)
              have hc7 := hcell.out _ hb7
              clear hb7 hne hcell
              go_wp2
              go_roundw
              case rel => exact ⟨k + 1, by omega, by go_num, HB7⟩
              case measure => simp [intOf]; omega
            · have hkN : k = LS.length := by omega
              have q1 : decide ((k : Int) < (LS.length : Int)) = false := decide_eq_false (by omega)
              have q1' : decide (k < LS.length) = false := decide_eq_false hlt
              have hun : undef = Value.tuple #[] := rfl
              have hne := HNL.out (K : Int) (by omega) wr HBr.out
              rw [HLast.out] at hne
              clear hlt
              go_wp2_with fail
              refine hne.mono ?_
              rintro e w7 ⟨rfl, hb7⟩
              have HB7 := boxed (below_step HBr.out (Nat.le_refl _) hb7)
              clear hb7 hne
              go_wp2
              go_ret
              exact ⟨by simp, below_step HB4.out (Nat.le_refl _) HB7.out⟩
  · rw [decide_eq_false hr] at hri
    clear hN hr hO1
    go_enter Try.func6, Try.ntmps6
    go_wp2_with fail
    refine (awake_any _).mono ?_
    rintro e w1 ⟨rfl, hb1⟩
    have HB1 := boxed hb1
    clear hb1
    go_wp2_with fail
    refine (hri _).mono ?_
    rintro e w2 ⟨rfl, hb2⟩
    have HB2 := boxed (below_step HB1.out (Nat.le_refl _) hb2)
    clear hb2 hri
    go_wp2
    go_ret
    exact ⟨rfl, HB2.out⟩

set_option maxRecDepth 100000 in
theorem contract (H : Type) (enc : TypeId × Value → H) (W : World) (base : Nat) (args : Array Value) (ds gs : List (DataW H)) (before : List MemPlace)
    (hval0 : ∀ (j : Nat) t v, Try.f6.params[j]? = some t → args[j]? = some v → Value.okWide Try.prog W .any base t v)
    (hW : DataW.Whole enc Try.prog Try.f6.params.toList Rows.piecesCountsSpec.vars false W args.toList ds gs before) (hk : Rows.uptoSmall H (ds ++ gs) = true) :
    Calls Try.prog 6 args W fun e W' => ∃ v, e = .returned v ∧ Rows.piecesCountsSpec.post enc Try.prog Try.f6 false true false false W args v W' := by
  have hval : ∀ (j : Nat) t v, Try.f6.params[j]? = some t → args[j]? = some v → Value.okWide Try.prog W .any base t v := hval0
  have hW' := hW
  obtain ⟨p, q, hA0, hV, rfl, hfz, hnd⟩ := hW
  have hA : DataW.TrodAll enc Try.prog W 0 (fun _ => true) true Try.f6.params.toList args.toList ds p := hA0
  rw [Try.params6] at hA hval
  obtain ⟨v0, vs0, d0, ds0, p0, q0, hargs, rfl, rfl, h0, r0⟩ := trodAll_cons hA
  obtain ⟨v1, vs1, d1, ds1, p1, q1, rfl, rfl, rfl, h1, r1⟩ := trodAll_cons r0
  obtain ⟨v2, vs2, d2, ds2, p2, q2, rfl, rfl, rfl, h2, r2⟩ := trodAll_cons r1
  obtain ⟨rfl, rfl, rfl⟩ := trodAll_nil r2
  obtain rfl : args = #[v0, v1, v2] := by cases args; simp_all
  obtain ⟨rfl, rfl⟩ := trodVars_none hV
  obtain ⟨a0, rfl, rfl, rfl, w0⟩ := open_string Try.underlying9 (hval 0 9 v0 rfl rfl) h0
  obtain ⟨ao1, n1, cap1, rfl⟩ := okWide_slice Try.underlying22 (hval 1 22 v1 rfl rfl)
  have k1 := h1
  have lt1 : ∀ x ∈ p1, x.block < W.heap.size := by obtain ⟨m, hm⟩ := k1; exact DataW.trod_lt m _ _ _ hm
  obtain ⟨a2, rfl, rfl, rfl, w2⟩ := open_int Try.underlying3 (hval 2 3 v2 rfl rfl) h2
  clear hA0 hval0
  simp only [List.append_nil] at hW' hk
  have bulk := of_decide_eq_true hk
  obtain ⟨hn1, O1, hO1⟩ : n1 ≤ 1048576 ∧ ∃ O, OpsAt W ao1 n1 O := by
    obtain ⟨fuel, hf⟩ := k1
    exact open_ops hf (by have := bulk; simp only [Rows.uptoBulkAll] at this; omega)
  refine (walk W a0 w0 (by have := bulk; simp only [Rows.uptoBulkAll, Rows.uptoBulk, Array.length_toList] at this; show a0.data.size ≤ _; omega) ao1 n1 cap1 O1 hn1 hO1 a2 w2).mono fun e W' ⟨he, hg⟩ => ?_
  subst he
  exact ⟨_, rfl, _, _, _, [], _, [], hW', trodAll_mk1 (shut_bool Try.underlying4 _), (trodAll_cons_mk (shut_string Try.underlying9 w0) (trodAll_cons_mk (Below.trod laidOut (by kernel_rfl) (of_decide_eq_true (by kernel_rfl)) k1 hg lt1) (trodAll_cons_mk (shut_int Try.underlying3 w2) trodAll_mk0))), rfl, hg.frame _, fun h => by cases h⟩

set_option maxRecDepth 100000 in
theorem lifted (os : Os) (started : os.Started) (H : Type) (enc : TypeId × Value → H) (F : Stop.Interp) :
    ReturnsInHanded {} Try.checked os 6 .any ((Rows.OpenSpec.upto Rows.piecesCountsSpec).pre6 enc Try.prog Try.f6 Rows.piecesCountsUptoRow.domain false) (((Rows.OpenSpec.upto Rows.piecesCountsSpec).at F).post enc Try.prog Try.f6 false true false false) := by
  refine returnsInHanded_of_cond (C := Try.checked) (s := Rows.OpenSpec.upto Rows.piecesCountsSpec) (k := Rows.uptoSmall) rfl own started (by kernel_rfl) Try.func6
    (OpenSpec.witness (enc := enc) (C := Try.checked) (s := Rows.OpenSpec.upto Rows.piecesCountsSpec) (k := Rows.uptoSmall) rfl false ⟨#[], #[.string ByteArray.empty, .slice none 0 0, .int .i64 0], []⟩ 8 (by kernel_rfl) (by kernel_rfl) (by kernel_rfl)
      (x := ([.lit (.string []), .nil, .lit (.int .i64 0)], [], [])) (by kernel_rfl) rfl (by kernel_rfl)) ?_
  intro W base args ds gs before hval hW _ hk _
  exact contract H enc W base args ds gs before hval hW hk

theorem proved : Rows.PiecesCountsUptoSaid :=
  OpenClaim.holds_of_cond 6 Try.f6 rfl rfl rfl rfl rfl rfl rfl ⟨rfl, rfl, rfl, rfl, rfl⟩ rfl rfl rfl rfl rfl (by kernel_rfl) Try.func6 (by kernel_rfl)
    (of_decide_eq_true (by kernel_rfl)) (by unfold Func.isWrapper; first | (rw [if_pos (by decide +kernel)]; kernel_rfl) | (rw [if_neg (by decide +kernel)]; exact ⟨rfl, rfl⟩))
    (fun os started H enc _ F => lifted os started H enc F)
#print axioms proved
end Go.Proofs.Ytfikmlgmklnlaaa.piecesCounts
