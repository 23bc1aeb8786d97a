/-
  For every two numbers the law PiecesSize answers true and leaves its arguments as they were: a text may have 65536 bytes and no more, whether it begins with them or comes to them (of numbers below 0 or above 70000 the law asks nothing).
  (The frame of this text was written by the program proof-skeleton.mjs; the walk is ours.)
-/
import Derived.Test.YtfikmlgmklnlaabRows
import Derived.WalkKit
import Derived.ProofKit
import Derived.OpenShut
import Derived.Test.YtfikmlgmklnlaabUa
import Derived.Test.YtfikmlgmklnlaabUb
import Derived.Test.YtfikmlgmklnlaabUc
import Derived.Test.YtfikmlgmklnlaabUd
import Derived.Test.YtfikmlgmklnlaabUe
import Derived.Test.YtfikmlgmklnlaabVf
import Derived.Test.YtfikmlgmklnlaabVi
import Derived.Test.YtfikmlgmklnlaabVj
import Derived.Test.YtfikmlgmklnlaabVk
import Derived.Test.YtfikmlgmklnlaabVl
import Derived.Test.YtfikmlgmklnlaabVn
import Derived.Test.YtfikmlgmklnlaabWa
import Derived.Test.YtfikmlgmklnlaabWb
import Derived.Test.YtfikmlgmklnlaabWc
import Derived.Test.YtfikmlgmklnlaabWd
import Derived.Test.YtfikmlgmklnlaabWe
import Derived.Test.YtfikmlgmklnlaabWf
import Derived.Test.YtfikmlgmklnlaabWg
import Derived.Test.YtfikmlgmklnlaabWm
import Derived.Test.YtfikmlgmklnlaabWh
import Derived.Test.YtfikmlgmklnlaabWi
import Derived.Test.YtfikmlgmklnlaabWj
import Derived.Test.YtfikmlgmklnlaabWk
import Derived.Test.YtfikmlgmklnlaabWl
import Derived.Test.YtfikmlgmklnlaabWo
import Derived.Test.YtfikmlgmklnlaabWp
import Derived.Test.YtfikmlgmklnlaabWq
import Derived.Test.YtfikmlgmklnlaabWr
import Derived.Test.YtfikmlgmklnlaabWs
import Derived.Test.YtfikmlgmklnlaabWt
import Derived.Test.YtfikmlgmklnlaabWu
import Derived.Test.YtfikmlgmklnlaabWv
import Derived.Test.YtfikmlgmklnlaabWy
import Derived.Test.YtfikmlgmklnlaabWz
import Derived.Test.YtfikmlgmklnlaabXb
import Derived.Test.YtfikmlgmklnlaabXf
import Derived.Test.YtfikmlgmklnlaabXg
import Derived.Test.YtfikmlgmklnlaabXh
import Derived.ShutString
namespace Go.Proofs.Ytfikmlgmklnlaab.piecesSize
open Go.ChangeShapes Go.WideShapes Go.ChangeAt Go.RowKit
open Go.ChangeMaps (open_string shut_string)
set_option linter.unusedVariables false      -- a walk need not use every 'w<i>' (that an integer argument fits its kind)

theorem own : ownKnob Try.prog.godebug = none := by kernel_rfl

/-! ### STEP 1: THE WALK: the Go text returns true. 'Grown w w'': the world has at most new blocks (Derived/RowKit3.lean). Part the cases AHEAD of 'go_enter' where a test parts the walk; take each callee by a contract of your own. -/
set_option maxRecDepth 100000 in
set_option maxHeartbeats 8000000 in
theorem walk (a0 : Int) (a1 : Int) (w0 : (Lit.int .i64 a0).wf = true) (w1 : (Lit.int .i64 a1).wf = true) (w : World) :
    Calls Try.prog 5 #[.int .i64 a0, .int .i64 a1] w fun e w' => e = .returned (.bool true) ∧ Below w.heap.size w w' := by
  have b0 := wf_i64 w0
  have b1 := wf_i64 w1
  have hun : undef = Value.tuple #[] := rfl
  by_cases c0 : a0 < 0
  · have t0 : decide (a0 < 0) = true := decide_eq_true c0
    go_enter Try.func5, Try.ntmps5
    go_wp2_with fail
    refine (awake_any _).mono ?_
    rintro e w1 ⟨rfl, hb1⟩
    have HB1 := boxed hb1
    clear hb1
    go_wp2
    go_ret
    exact ⟨rfl, HB1.out⟩
  have t0 : decide (a0 < 0) = false := decide_eq_false c0
  by_cases c1 : a1 < 0
  · have t1 : decide (a1 < 0) = true := decide_eq_true c1
    go_enter Try.func5, Try.ntmps5
    go_wp2_with fail
    refine (awake_any _).mono ?_
    rintro e w1 ⟨rfl, hb1⟩
    have HB1 := boxed hb1
    clear hb1
    go_wp2
    go_ret
    exact ⟨rfl, HB1.out⟩
  have t1 : decide (a1 < 0) = false := decide_eq_false c1
  by_cases c2 : 70000 < a0
  · have t2 : decide ((70000 : Int) < a0) = true := decide_eq_true c2
    go_enter Try.func5, Try.ntmps5
    go_wp2_with fail
    refine (awake_any _).mono ?_
    rintro e w1 ⟨rfl, hb1⟩
    have HB1 := boxed hb1
    clear hb1
    go_wp2
    go_ret
    exact ⟨rfl, HB1.out⟩
  have t2 : decide ((70000 : Int) < a0) = false := decide_eq_false c2
  by_cases c3 : 70000 < a1
  · have t3 : decide ((70000 : Int) < a1) = true := decide_eq_true c3
    go_enter Try.func5, Try.ntmps5
    go_wp2_with fail
    refine (awake_any _).mono ?_
    rintro e w1 ⟨rfl, hb1⟩
    have HB1 := boxed hb1
    clear hb1
    go_wp2
    go_ret
    exact ⟨rfl, HB1.out⟩
  have t3 : decide ((70000 : Int) < a1) = false := decide_eq_false c3
  obtain ⟨n, rfl⟩ : ∃ n : Nat, a0 = (n : Int) := ⟨a0.toNat, by omega⟩
  obtain ⟨m, rfl⟩ : ∃ m : Nat, a1 = (m : Int) := ⟨a1.toNat, by omega⟩
  have hn : n ≤ 70000 := by omega
  have hm : m ≤ 70000 := by omega
  have hmk1 := run_make_row' (P := Try.prog) 44 5 (.int .u8 0) 1 Try.underlying44 info_byte1 rfl .i64 .i64 n (by omega) (by omega)
  have hmk2 := run_make_row' (P := Try.prog) 44 5 (.int .u8 0) 1 Try.underlying44 info_byte1 rfl .i64 .i64 m (by omega) (by omega)
  clear c0 c1 c2 c3 b0 b1 w0 w1
  go_enter Try.func5, Try.ntmps5
  go_wp2_with fail
  refine (awake_any _).mono ?_
  rintro e w1 ⟨rfl, hb1⟩
  have HB1 := boxed hb1
  clear hb1
  go_wp2_with fail
  clear hun
  have hr1 : ((w1.alloc (.cells (madeCells #[.int .u8 0] n) 5)).alloc (.cells (madeCells #[.int .u8 0] m) 5)).rowIs w1.heap.size 5 n (fun _ => .int .u8 0) := (World.rowIs_made w1 _ n 5).alloc _
  have hr2 : ((w1.alloc (.cells (madeCells #[.int .u8 0] n) 5)).alloc (.cells (madeCells #[.int .u8 0] m) 5)).rowIs (w1.heap.size + 1) 5 m (fun _ => .int .u8 0) := by
    have := World.rowIs_made (w1.alloc (.cells (madeCells #[.int .u8 0] n) 5)) (.int .u8 0) m 5
    rwa [World.size_alloc] at this
  have hbA : Below w1.heap.size w1 ((w1.alloc (.cells (madeCells #[.int .u8 0] n) 5)).alloc (.cells (madeCells #[.int .u8 0] m) 5)) := ((Below.refl _ _).alloc (Nat.le_refl _) _).alloc (by simp) _
  have HS := boxed (And.intro hr1 (And.intro hr2 hbA))
  clear hr1 hr2 hbA hmk1 hmk2
  go_loopw [7] (fun iv wr => ∃ k : Nat, k ≤ n ∧ iv = .int .i64 (k : Nat) ∧ Box (wr.rowIs w1.heap.size 5 n (fun j => if j < k then .int .u8 97 else .int .u8 0) ∧ wr.rowIs (w1.heap.size + 1) 5 m (fun _ => .int .u8 0) ∧ Below w1.heap.size w1 wr)) (fun iv _ => n - (intOf iv).toNat)
  case atStart => exact ⟨0, Nat.zero_le _, rfl, boxed ⟨HS.out.1.congr (fun i _ => by simp), HS.out.2⟩⟩
  case round =>
    obtain ⟨k, hk, rfl, HR⟩ := hrel
    clear HS
    by_cases hlt : k < n
    · have hcell := HR.out.1.cell hlt
      have hfz := HR.out.1.frozen k
      have q1 : decide ((k : Int) < (n : Int)) = true := decide_eq_true (by omega)
      have q1' : decide (k < n) = true := decide_eq_true hlt
      rw [if_neg (by omega)] at hcell
      have HR2 : Box ((wr.setCell ⟨w1.heap.size, k, none⟩ (.int .u8 97)).rowIs w1.heap.size 5 n (fun j => if j < k + 1 then .int .u8 97 else .int .u8 0) ∧ (wr.setCell ⟨w1.heap.size, k, none⟩ (.int .u8 97)).rowIs (w1.heap.size + 1) 5 m (fun _ => .int .u8 0) ∧ Below w1.heap.size w1 (wr.setCell ⟨w1.heap.size, k, none⟩ (.int .u8 97))) := boxed (by
        refine ⟨(HR.out.1.set k _).congr (fun i hi => ?_), HR.out.2.1.setOther (by show _ ≠ w1.heap.size; omega) _, HR.out.2.2.setCell (p := ⟨w1.heap.size, k, none⟩) (Nat.le_refl _) _⟩
        by_cases e : i = k
        · subst e; simp
        · simp only [if_neg e]
          by_cases e2 : i < k
          · rw [if_pos e2, if_pos (by omega)]
          · rw [if_neg e2, if_neg (by omega)])
      clear HR
      go_wp2
      go_roundw
      case rel => exact ⟨k + 1, by omega, by go_num, HR2⟩
      case measure => simp [intOf]; omega
    · have hkn : k = n := by omega
      have q1 : decide ((k : Int) < (n : Int)) = false := decide_eq_false (by omega)
      have q1' : decide (k < n) = false := decide_eq_false hlt
      have HR3 : Box (wr.rowIs w1.heap.size 5 n (fun _ => .int .u8 97) ∧ wr.rowIs (w1.heap.size + 1) 5 m (fun _ => .int .u8 0) ∧ Below w1.heap.size w1 wr) := boxed ⟨HR.out.1.congr (fun i hi => by rw [if_pos (by omega)]), HR.out.2⟩
      clear HR
      go_wp2_with fail
      go_loopw [8] (fun iv wq => ∃ k : Nat, k ≤ m ∧ iv = .int .i64 (k : Nat) ∧ Box (wq.rowIs w1.heap.size 5 n (fun _ => .int .u8 97) ∧ wq.rowIs (w1.heap.size + 1) 5 m (fun j => if j < k then .int .u8 10 else .int .u8 0) ∧ Below w1.heap.size w1 wq)) (fun iv _ => m - (intOf iv).toNat)
      case atStart => exact ⟨0, Nat.zero_le _, rfl, boxed ⟨HR3.out.1, HR3.out.2.1.congr (fun i _ => by simp), HR3.out.2.2⟩⟩
      case round =>
        obtain ⟨k2, hk2, rfl, HR⟩ := hrel
        clear HR3
        by_cases hlt2 : k2 < m
        · have hcell := HR.out.2.1.cell hlt2
          have hfz := HR.out.2.1.frozen k2
          have p1 : decide ((k2 : Int) < (m : Int)) = true := decide_eq_true (by omega)
          have p1' : decide (k2 < m) = true := decide_eq_true hlt2
          rw [if_neg (by omega)] at hcell
          have HR2 : Box ((wr.setCell ⟨w1.heap.size + 1, k2, none⟩ (.int .u8 10)).rowIs w1.heap.size 5 n (fun _ => .int .u8 97) ∧ (wr.setCell ⟨w1.heap.size + 1, k2, none⟩ (.int .u8 10)).rowIs (w1.heap.size + 1) 5 m (fun j => if j < k2 + 1 then .int .u8 10 else .int .u8 0) ∧ Below w1.heap.size w1 (wr.setCell ⟨w1.heap.size + 1, k2, none⟩ (.int .u8 10))) := boxed (by
            refine ⟨HR.out.1.setOther (by show _ ≠ w1.heap.size + 1; omega) _, (HR.out.2.1.set k2 _).congr (fun i hi => ?_), HR.out.2.2.setCell (p := ⟨w1.heap.size + 1, k2, none⟩) (by show _ ≤ w1.heap.size + 1; omega) _⟩
            by_cases e : i = k2
            · subst e; simp
            · simp only [if_neg e]
              by_cases e2 : i < k2
              · rw [if_pos e2, if_pos (by omega)]
              · rw [if_neg e2, if_neg (by omega)])
          clear HR
          go_wp2
          go_roundw
          case rel => exact ⟨k2 + 1, by omega, by go_num, HR2⟩
          case measure => simp [intOf]; omega
        · have p1 : decide ((k2 : Int) < (m : Int)) = false := decide_eq_false (by omega)
          have p1' : decide (k2 < m) = false := decide_eq_false hlt2
          have hcv1 := conv_rep (v := 97) (by decide) HR.out.1 (fun _ _ => rfl)
          have hcv2 : ∀ w', Below wr.heap.size wr w' → (convert 44 9 (.slice (some ⟨w1.heap.size + 1, 0, none⟩) m m)).run Try.prog w' = .ok (.string (tx (List.replicate m 10))) w' := fun w' hb =>
            conv_rep (v := 10) (by decide) (HR.out.2.1.of_block (hb.block _ HR.out.2.1.lt)) (fun i hi => by rw [if_pos (by omega)]; rfl)
          have HBr := boxed (below_step HB1.out (Nat.le_refl _) HR.out.2.2)
          have hun : undef = Value.tuple #[] := rfl
          have hszB := rep_size n 97
          have hszC := rep_size m 10
          have hblB := bl_rep n 97 (by decide)
          clear HR
          by_cases hbig : 65536 < n
          · have d1 : decide ((65536 : Int) < (n : Int)) = true := decide_eq_true (by omega)
            have d1' : decide (65536 < n) = true := decide_eq_true hbig
            have hnb := new_bad (tx (List.replicate n 97)) wr (cN _) (cN_ok _) (by rw [hszB]; unfold maxLen; omega) (.inl (by rw [hszB]; exact hbig))
            rw [hszB, if_pos hbig] at hnb
            generalize tx (List.replicate n 97) = SB at *
            go_wp2_with (go_at_call 18; refine hnb.mono ?_; rintro e w' ⟨rfl, hw'⟩; subst w')
            go_ret
            exact ⟨by simp, HBr.out⟩
          · have d1 : decide ((65536 : Int) < (n : Int)) = false := decide_eq_false (by omega)
            have d1' : decide (65536 < n) = false := decide_eq_false hbig
            have hnw := new_ok (tx (List.replicate n 97)) wr (cN _) (cN_ok _) (by rw [hszB]; omega) (ascii_lit _ (rep_asc n 97 (by decide)) _ (cN_ok _))
            rw [hblB] at hnw
            have hic := cN_ok (tx (List.replicate m 10))
            have hie := ine_rep n m (n / 2) (by omega)
            have hli := len_in n m (n / 2) (by omega)
            have hni := nl_in n m (n / 2) (by omega)
            have hn97 := nl_rep97 n
            have hl97 : (List.replicate n 97).length = n := by simp
            have e2 : (n : Int).tdiv 2 = ((n / 2 : Nat) : Int) := by rw [Int.tdiv_eq_ediv_of_nonneg (by omega)]; omega
            have hHb : n / 2 ≤ 70000 := by omega
            generalize cN (tx (List.replicate m 10)) = NC at *
            generalize tx (List.replicate n 97) = SB at *
            generalize tx (List.replicate m 10) = SC at *
            generalize List.replicate n 97 = LN at *
            generalize n / 2 = H at *
            go_wp2_with fail
            refine hnw.mono ?_
            rintro e w5 ⟨tb, x, T, rfl, z1, z2, z3, z4, z5⟩
            have hA : Alive wr w5 tb LN := ⟨_, x, none, T, z2, by simp [adl], z3, z1, trivial, z5⟩
            have hcv2' := hcv2 _ z5
            have hin := al_insert hA (H : Int) SC NC hic (by omega) (by omega)
            rw [hie, Int.toNat_natCast] at hin
            clear hnw z1 z2 z3 z4 z5 hA hcv1 hcv2 hic hie
            by_cases hov : 65536 < n + m
            · rw [if_pos hov, if_neg (by decide)] at hin
              have d2 : decide ((65536 : Int) < (n : Int) + (m : Int)) = true := decide_eq_true (by omega)
              go_wp2_with fail
              refine hin.mono ?_
              rintro e w6 ⟨rfl, hA6⟩
              have hln := al_len hA6
              rw [hl97] at hln
              clear hA6 hin
              go_wp2_with fail
              refine hln.mono ?_
              rintro e w7 ⟨rfl, hA7⟩
              have hls := al_lines hA7
              rw [hn97] at hls
              clear hA7 hln
              go_wp2_with fail
              refine hls.mono ?_
              rintro e w8 ⟨rfl, hA8⟩
              have HF := boxed (below_step HBr.out (Nat.le_refl _) hA8.frame)
              clear hA8 hls
              go_wp2
              go_ret
              exact ⟨by simp, HF.out⟩
            · rw [if_neg hov, if_pos rfl] at hin
              have d2 : decide ((65536 : Int) < (n : Int) + (m : Int)) = false := decide_eq_false (by omega)
              go_wp2_with fail
              refine hin.mono ?_
              rintro e w6 ⟨rfl, hA6⟩
              have hln := al_len hA6
              rw [hli] at hln
              clear hin
              go_wp2_with fail
              refine hln.mono ?_
              rintro e w7 ⟨rfl, hA7⟩
              have hls := al_lines hA7
              rw [hni] at hls
              clear hA7 hln hA6
              go_wp2_with fail
              refine hls.mono ?_
              rintro e w8 ⟨rfl, hA8⟩
              have HF := boxed (below_step HBr.out (Nat.le_refl _) hA8.frame)
              clear hA8 hls
              go_wp2
              go_ret
              exact ⟨by simp, HF.out⟩

/-! ### THE ROW's STEP: WRITTEN OUT: LEAVE IT -/
set_option maxRecDepth 100000 in
theorem lifted (os : Os) (started : os.Started) (H : Type) (enc : TypeId × Value → H) :
    ReturnsInHanded {} Try.checked os 5 .any (Rows.piecesSizeSpec.pre6 enc Try.prog Try.f5 Rows.piecesSizeRow.domain false) (Rows.piecesSizeSpec.post enc Try.prog Try.f5 false true false false) := by
  refine returnsInHanded_of_change (C := Try.checked) own started (by kernel_rfl) Try.func5
    (ChangeSpec.witness6 (enc := enc) (C := Try.checked) false ⟨#[], #[.int .i64 0, .int .i64 0], []⟩ 8 (by kernel_rfl) (by kernel_rfl) (by kernel_rfl) (by kernel_rfl)) ?_
  intro W base args ds gs before hval0 hW hcnd _
  have hval : ∀ (j : Nat) t v, Try.f5.params[j]? = some t → args[j]? = some v → Value.okWide Try.prog W .any base t v := hval0
  have hW' := hW
  obtain ⟨p, q, hA0, hV, rfl, hfz, hnd⟩ := hW
  have hA : DataW.TrodAll enc Try.prog W 0 (fun _ => true) true Try.f5.params.toList args.toList ds p := hA0
  rw [Try.params5] at hA hval
  obtain ⟨v0, vs0, d0, ds0, p0, q0, hargs, rfl, rfl, h0, r0⟩ := trodAll_cons hA
  obtain ⟨v1, vs1, d1, ds1, p1, q1, rfl, rfl, rfl, h1, r1⟩ := trodAll_cons r0
  obtain ⟨rfl, rfl, rfl⟩ := trodAll_nil r1
  obtain rfl : args = #[v0, v1] := by cases args; simp_all
  obtain ⟨rfl, rfl⟩ := trodVars_none hV
  obtain ⟨a0, rfl, rfl, rfl, w0⟩ := open_int Try.underlying3 (hval 0 3 v0 rfl rfl) h0
  obtain ⟨a1, rfl, rfl, rfl, w1⟩ := open_int Try.underlying3 (hval 1 3 v1 rfl rfl) h1
  clear hA0 hval0
  simp only [List.append_nil] at hW'
  refine (walk a0 a1 w0 w1 W).mono fun e W' ⟨he, hg⟩ => ?_
  subst he
  exact ⟨_, rfl, _, _, _, [], [], [], hW', trodAll_mk1 (shut_bool Try.underlying4 _), (trodAll_cons_mk (shut_int Try.underlying3 w0) (trodAll_cons_mk (shut_int Try.underlying3 w1) trodAll_mk0)), rfl, hg.frame _, fun h => by cases h⟩

theorem over : Rows.piecesSizeRow.holds Try.pinned (OpenSpec.ofChange Rows.piecesSizeSpec) :=
  OpenClaim.holds_of_wide 5 Try.f5 rfl rfl rfl rfl rfl rfl rfl ⟨rfl, rfl, rfl, rfl, rfl⟩ rfl rfl rfl rfl rfl (by kernel_rfl) Try.func5 (by kernel_rfl)
    (of_decide_eq_true (by kernel_rfl)) (by unfold Func.isWrapper; first | (rw [if_pos (by decide +kernel)]; kernel_rfl) | (rw [if_neg (by decide +kernel)]; exact ⟨rfl, rfl⟩))
    (fun os started H enc _ => lifted os started H enc)

/-- ████ THE STATEMENT ████ -/
theorem proved : Rows.PiecesSizeSaid :=
  over
#print axioms proved
end Go.Proofs.Ytfikmlgmklnlaab.piecesSize
