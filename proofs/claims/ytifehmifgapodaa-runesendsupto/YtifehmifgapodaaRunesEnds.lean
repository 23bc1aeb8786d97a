/-
  For every text of at most 1048575 bytes the law RunesEnds answers true and leaves its argument as it was: First, Last, Count and Lines of a right text tell its first and last rune with their bytes' numbers, how many runes it has and how many of them are line ends. Condition: the bound of the statement RunesEndsUptoSaid.
  (The frame of this text is after the one that the program proof-skeleton.mjs wrote; the walk is ours.)
-/
import Derived.Test.YtifehmifgapodaaRows
import Derived.WalkKit
import Derived.ProofKit
import Derived.OpenShut
import Derived.JoinedCond
import Derived.Test.YtifehmifgapodaaUh
import Derived.Test.YtifehmifgapodaaUo
import Derived.ShutString
namespace Go.Proofs.Ytifehmifgapodaa.runesEnds
open Go.ChangeShapes Go.WideShapes Go.ChangeAt Go.RowKit
open Go.ChangeMaps (open_string shut_string)
set_option linter.unusedVariables false      -- a walk need not use every 'w<i>' (that an integer argument fits its kind)

theorem own : ownKnob Try.prog.godebug = none := by kernel_rfl

/-- What the bound gives: the length of each text. -/
theorem short {H : Type} {a0 : ByteArray} (hk : Rows.uptoSmall H [DataW.lit (H := H) (.string a0.data.toList)] = true) : a0.size ≤ 1048576 := by
  have h : Rows.uptoBulkAll [DataW.lit (H := H) (.string a0.data.toList)] ≤ 1048576 := of_decide_eq_true hk
  simp only [Rows.uptoBulkAll, Rows.uptoBulk] at h
  have ea0 : a0.data.toList.length = a0.size := by rw [Array.length_toList]; rfl
  omega

theorem walk (a0 : ByteArray) (w0 : a0.size ≤ maxLen) (hk : a0.size ≤ 1048576) (w : World) :
    Calls Try.prog 6 #[.string a0] w fun e w' => e = .returned (.bool true) ∧ Below w.heap.size w w' := by
  obtain ⟨N, hN⟩ := cnt_ex a0
  have hru := runes_any a0 w hk N hN
  have hB := badAt_cases a0 N
  have hNl : N ≤ a0.size := by have := cnt_le a0 N hN; have := it_le a0 N; omega
  have HT : Box (badAt a0 N = -1 → Right a0 N) := boxed (fun c => right_of a0 N hN (by omega))
  have hl1 := rns_len a0 N
  have hl2 := its_len a0 N
  have hfi := fun w => first_any a0 w w0
  have hla := fun w => last_any a0 w w0
  generalize badAt a0 N = B at *
  clear hN
  rcases hB with hB | hB
  rotate_left
  · generalize dc a0 0 = D0 at *
    generalize dc a0 (lastAt a0) = D1 at *
    go_enter Try.func6, Try.ntmps6
    go_wp2_with fail
    refine (awake_any _).mono ?_
    rintro e w' ⟨rfl, hw'⟩
    subst w'
    go_wp2_with fail
    refine hru.mono ?_
    rintro e w1 ⟨p1, c1, p2, c2, rfl, -, -, hb⟩
    have HB := boxed hb
    clear hb hru
    go_wp2_with fail
    refine (hfi _).mono ?_
    rintro e w' ⟨rfl, hw'⟩
    subst w'
    go_wp2_with fail
    refine (hla _).mono ?_
    rintro e w' ⟨rfl, hw'⟩
    subst w'
    go_wp2
    go_ret
    exact ⟨rfl, HB.out⟩
  replace HT := boxed (HT.out hB)
  subst hB
  have hco := fun w => count_any a0 w w0 N HT.out
  have hli := fun w => lines_any a0 w w0 N HT.out
  have HA : Box (dc a0 0 = dc a0 0) := boxed rfl
  have hd0 := dc_le a0 0 (Nat.zero_le _)
  have hd1 := dc_le a0 (lastAt a0) (by have := dn_le a0 (a0.size - 1); unfold lastAt; omega)
  have HF : Box (N = 0 → dc a0 0 = (0, 0) ∧ dc a0 (lastAt a0) = (0, 0)) := boxed (by
    intro c
    subst c
    have hz : a0.size = 0 := by have := HT.out.2; simp only [it] at this; omega
    exact ⟨dc_out a0 0 (by omega), dc_out a0 _ (by omega)⟩)
  have HG : Box (∀ M, N = M + 1 → (dc a0 0).1 = rn a0 0 ∧ (dc a0 (lastAt a0)).1 = rn a0 M ∧ (dc a0 (lastAt a0)).2 = a0.size - it a0 M ∧ it a0 M ≤ a0.size ∧ (M = 0 → (dc a0 0).2 = a0.size) ∧ (dc a0 0).2 = it a0 1) := boxed (by
    intro M c
    subst c
    have hl := last_run a0 (M + 1) HT.out (by omega)
    rw [show M + 1 - 1 = M by omega] at hl
    have h1 : it a0 1 = (dc a0 0).2 := by simp [it]
    refine ⟨rfl, by rw [hl.1]; rfl, by rw [hl.1]; exact hl.2, it_le a0 M, ?_, h1.symm⟩
    intro c
    subst c
    rw [← h1]
    exact HT.out.2)
  generalize dc a0 0 = D0 at *
  generalize dc a0 (lastAt a0) = D1 at *
  obtain ⟨x0, y0⟩ := D0
  obtain ⟨x1, y1⟩ := D1
  simp only at *
  clear HA
  go_enter Try.func6, Try.ntmps6
  go_wp2_with fail
  refine (awake_any _).mono ?_
  rintro e w' ⟨rfl, hw'⟩
  subst w'
  go_wp2_with fail
  refine hru.mono ?_
  rintro e w1 ⟨p1, c1, p2, c2, rfl, hdg1, hdg2, hb⟩
  have HB := boxed hb
  have HD1 := boxed hdg1
  have HD2 := boxed hdg2
  have q1 := hdg1.1
  have q2 := hdg2.1
  rw [hl1] at q1
  rw [hl2] at q2
  unfold maxLen at q1 q2
  clear hb hru hdg1 hdg2
  go_wp2_with fail
  refine (hfi _).mono ?_
  rintro e w' ⟨rfl, hw'⟩
  subst w'
  go_wp2_with fail
  refine (hla _).mono ?_
  rintro e w' ⟨rfl, hw'⟩
  subst w'
  clear hfi hla
  go_wp2
  go_loop [10, 11] (fun b i => ∃ k : Nat, k ≤ N ∧ i = .int .i64 (k : Int) ∧ b = .int .i64 (lns a0 k : Int)) (fun _ i => N - (intOf i).toNat)
  case atStart => exact ⟨0, Nat.zero_le _, rfl, rfl⟩
  case round =>
    obtain ⟨k, hkk, rfl, rfl⟩ := hrel
    have hll := lns_le a0 k
    by_cases hlt : k < N
    · obtain ⟨-, hx | ⟨g, off, hp, hg, hc⟩⟩ := HD1.out
      · exfalso; rw [hx] at hl1; simp at hl1; omega
      subst hp
      have hcell := hc k (by omega)
      rw [rns_get a0 N k hlt] at hcell
      clear hc
      have hle := rn_le a0 k
      have HS : Box (lns a0 (k + 1) = lns a0 k + if rn a0 k = 10 then 1 else 0) := boxed rfl
      by_cases hc : rn a0 k = 10
      · have HV : Box (lns a0 (k + 1) = lns a0 k + 1) := boxed (by rw [HS.out, if_pos hc])
        have d5 : ((rn a0 k : Int) == 10) = true := by rw [beq_iff_eq]; omega
        clear hc
        generalize rn a0 k = A at *
        go_wp2
        go_round
        case rel => exact ⟨k + 1, by omega, by go_num, by rw [HV.out]; go_num⟩
        case measure => simp [intOf]; omega
      · have HV : Box (lns a0 (k + 1) = lns a0 k) := boxed (by rw [HS.out, if_neg hc]; rfl)
        have d5 : ((rn a0 k : Int) == 10) = false := by rw [beq_eq_false_iff_ne]; omega
        clear hc
        generalize rn a0 k = A at *
        go_wp2
        go_round
        case rel => exact ⟨k + 1, by omega, by go_num, by rw [HV.out]⟩
        case measure => simp [intOf]; omega
    · have hkN : k = N := by omega
      subst hkN
      have n1 : ((k : Int) != (k : Int)) = false := by simp
      have n2 : ((lns a0 k : Int) != (lns a0 k : Int)) = false := by simp
      go_wp2_with fail
      refine (hco _).mono ?_
      rintro e w2 ⟨rfl, p, hw2⟩
      have HB2 : Box (Below w1.heap.size w1 w2) := boxed (by rw [hw2]; exact bel_iter w1 a0 p)
      clear hw2
      go_wp2_with fail
      refine (hli _).mono ?_
      rintro e w3 ⟨rfl, p', hw3⟩
      have HB3 : Box (Below w1.heap.size w1 w3) := boxed (by rw [hw3]; exact HB2.out.trans ((bel_iter w2 a0 p').mono HB2.out.size))
      clear hw3 HB2 hco hli
      generalize lns a0 k = Z at *
      by_cases h0 : k = 0
      · obtain ⟨f1, f2⟩ := HF.out h0
        simp only [Prod.mk.injEq] at f1 f2
        obtain ⟨rfl, rfl⟩ := f1
        obtain ⟨rfl, rfl⟩ := f2
        subst h0
        clear HD1 HD2 HF HG
        go_wp2
        go_ret
        exact ⟨rfl, HB.out.trans (HB3.out.mono HB.out.size)⟩
      · obtain ⟨M, rfl⟩ : ∃ M, k = M + 1 := ⟨k - 1, by omega⟩
        obtain ⟨g1, g2, g3, g4, g5, g6⟩ := HG.out M rfl
        obtain ⟨-, hx | ⟨b1, o1, hp, hg1, hc1⟩⟩ := HD1.out.below HB3.out
        · exfalso; rw [hx] at hl1; simp at hl1
        subst hp
        obtain ⟨-, hx | ⟨b2, o2, hp, hg2, hc2⟩⟩ := HD2.out.below HB3.out
        · exfalso; rw [hx] at hl2; simp at hl2
        subst hp
        have e10 := hc1 0 (by omega)
        have e1k := hc1 M (by omega)
        have e2k := hc2 M (by omega)
        rw [rns_get a0 (M + 1) 0 (by omega), Nat.add_zero, ← g1] at e10
        rw [rns_get a0 (M + 1) M (by omega), ← g2] at e1k
        rw [its_get a0 (M + 1) M (by omega)] at e2k
        have nz : (((M + 1 : Nat) : Int) == 0) = false := by rw [beq_eq_false_iff_ne]; omega
        have e7 : ((y1 : Int) == (a0.size : Int) - (it a0 M : Int)) = true := by rw [beq_iff_eq]; omega
        clear HD1 HD2 HF HG g1 g2
        by_cases hM : M = 0
        · have g7 := g5 hM
          have e8 : ((y0 : Int) == (a0.size : Int)) = true := by rw [beq_iff_eq]; omega
          have dk : ((M : Int) == 0) = true := by rw [beq_iff_eq]; omega
          clear g5 g3 g6 hc1 hc2 h0 hM g7 hl1 hl2
          generalize it a0 M = A at *
          generalize it a0 1 = A1 at *
          go_wp2
          go_ret
          exact ⟨by try simp [*], HB.out.trans (HB3.out.mono HB.out.size)⟩
        · have e21 := hc2 1 (by omega)
          rw [its_get a0 (M + 1) 1 (by omega), ← g6] at e21
          have dk : ((M : Int) == 0) = false := by rw [beq_eq_false_iff_ne]; omega
          have dg : decide ((0 : Int) < (M : Int)) = true := decide_eq_true (by omega)
          have dg' : decide (0 < M) = true := decide_eq_true (by omega)
          clear g5 g3 g6 hc1 hc2 h0 hl1 hl2
          generalize it a0 M = A at *
          generalize it a0 1 = A1 at *
          go_wp2
          go_ret
          exact ⟨by try simp [*], HB.out.trans (HB3.out.mono HB.out.size)⟩

theorem contract (H : Type) (enc : TypeId × Value → H) (W : World) (base : Nat) (args : Array Value) (ds gs : List (DataW H)) (before : List MemPlace)
    (hval0 : ∀ (j : Nat) t v, Try.f6.params[j]? = some t → args[j]? = some v → Value.okWide Try.prog W .any base t v)
    (hW : DataW.Whole enc Try.prog Try.f6.params.toList Rows.runesEndsSpec.vars false W args.toList ds gs before) (hk : Rows.uptoSmall H (ds ++ gs) = true) :
    Calls Try.prog 6 args W fun e W' => ∃ v, e = .returned v ∧ Rows.runesEndsSpec.post enc Try.prog Try.f6 false true false false W args v W' := by
  have hval : ∀ (j : Nat) t v, Try.f6.params[j]? = some t → args[j]? = some v → Value.okWide Try.prog W .any base t v := hval0
  have hW' := hW
  obtain ⟨p, q, hA0, hV, rfl, hfz, hnd⟩ := hW
  have hA : DataW.TrodAll enc Try.prog W 0 (fun _ => true) true Try.f6.params.toList args.toList ds p := hA0
  rw [Try.params6] at hA hval
  obtain ⟨v0, vs0, d0, ds0, p0, q0, hargs, rfl, rfl, h0, r0⟩ := trodAll_cons hA
  obtain ⟨rfl, rfl, rfl⟩ := trodAll_nil r0
  obtain rfl : args = #[v0] := by cases args; simp_all
  obtain ⟨rfl, rfl⟩ := trodVars_none hV
  obtain ⟨a0, rfl, rfl, rfl, w0⟩ := open_string Try.underlying9 (hval 0 9 v0 rfl rfl) h0
  clear hA0 hval0
  simp only [List.append_nil] at hW' hk
  refine (walk a0 w0 (short hk) W).mono fun e W' ⟨he, hg⟩ => ?_
  subst he
  exact ⟨_, rfl, _, _, _, [], [], [], hW', trodAll_mk1 (shut_bool Try.underlying4 _), (trodAll_cons_mk (shut_string Try.underlying9 w0) trodAll_mk0), rfl, hg.frame _, fun h => by cases h⟩

set_option maxRecDepth 100000 in
theorem lifted (os : Os) (started : os.Started) (H : Type) (enc : TypeId × Value → H) (F : Stop.Interp) :
    ReturnsInHanded {} Try.checked os 6 .any ((Rows.OpenSpec.upto Rows.runesEndsSpec).pre6 enc Try.prog Try.f6 Rows.runesEndsUptoRow.domain false) (((Rows.OpenSpec.upto Rows.runesEndsSpec).at F).post enc Try.prog Try.f6 false true false false) := by
  refine returnsInHanded_of_cond (C := Try.checked) (s := Rows.OpenSpec.upto Rows.runesEndsSpec) (k := Rows.uptoSmall) rfl own started (by kernel_rfl) Try.func6
    (OpenSpec.witness (enc := enc) (C := Try.checked) (s := Rows.OpenSpec.upto Rows.runesEndsSpec) (k := Rows.uptoSmall) rfl false ⟨#[], #[.string ByteArray.empty], []⟩ 8 (by kernel_rfl) (by kernel_rfl) (by kernel_rfl)
      (x := ([.lit (.string [])], [], [])) (by kernel_rfl) rfl (by kernel_rfl)) ?_
  intro W base args ds gs before hval hW _ hk _
  exact contract H enc W base args ds gs before hval hW hk

theorem proved : Rows.RunesEndsUptoSaid :=
  OpenClaim.holds_of_cond 6 Try.f6 rfl rfl rfl rfl rfl rfl rfl ⟨rfl, rfl, rfl, rfl, rfl⟩ rfl rfl rfl rfl rfl (by kernel_rfl) Try.func6 (by kernel_rfl)
    (of_decide_eq_true (by kernel_rfl)) (by unfold Func.isWrapper; first | (rw [if_pos (by decide +kernel)]; kernel_rfl) | (rw [if_neg (by decide +kernel)]; exact ⟨rfl, rfl⟩))
    (fun os started H enc _ F => lifted os started H enc F)
#print axioms proved
end Go.Proofs.Ytifehmifgapodaa.runesEnds
