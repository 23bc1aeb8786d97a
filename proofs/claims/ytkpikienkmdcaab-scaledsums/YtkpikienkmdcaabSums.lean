/-
  Proved: for every list of numbers the statement ScaledSums answers true: Sum is each number in turn by Add, and where nothing is cut off the list summed up from its end gives the same. No condition.
  (The frame of this text was written by the program proof-skeleton.mjs; the walk is ours.)
-/
import Derived.Test.YtkpikienkmdcaabRows
import Derived.WalkKit
import Derived.ProofKit
import Derived.OpenShut
import Derived.ShutString
import Derived.ChangeOld
import Derived.Below
import Derived.Test.YtkpikienkmdcaabS
namespace Go.Proofs.Ytkpikienkmdcaab.scaledSums
open Go.ChangeShapes Go.WideShapes Go.ChangeAt Go.RowKit
open Go.ChangeMaps (open_string shut_string)
set_option linter.unusedVariables false

theorem own : ownKnob Try.prog.godebug = none := by kernel_rfl
theorem laidOut : laidOutB Try.prog = true := by kernel_rfl

/-- WHAT THE WALK IS TOLD OF A SLICE OF INTEGERS THAT CAME IN: it is nil; or it leads to a row of 'cap' cells, the numbers 'zs' (the first 'len' are its elements, the rest its spare room), each fitting its kind. -/
def IsRow (k : IntKind) (w : World) (a : Option Addr) (len cap : Nat) (zs : List Int) : Prop :=
  (a = none ∧ len = 0 ∧ cap = 0 ∧ zs = []) ∨
  ∃ x, a = some x ∧ len ≤ cap ∧ cap ≤ maxLen ∧ zs.length = cap ∧ (∀ i, i < zs.length → w.cell? (x.add i) = some (.int k (zs.getD i 0))) ∧ ∀ n ∈ zs, (Lit.int k n).wf = true

theorem hide2 {p : Prop} (h : p) : Hid p := h

/-- What holds of the sums behind k rounds: where nothing was cut off, they are the exact ones. -/
def Fine (l : List Int) (k : Nat) : Prop := fs (l.take k) = tot (l.take k) ∧ fs (l.reverse.take k) = tot (l.reverse.take k)

theorem fine_next (l : List Int) (k : Nat) (h : k < l.length) (hf : Fine l k)
    (h1 : fs (l.take (k + 1)) ≠ 1152921504606846976) (h2 : fs (l.take (k + 1)) ≠ -1152921504606846976)
    (h3 : fs (l.reverse.take (k + 1)) ≠ 1152921504606846976) (h4 : fs (l.reverse.take (k + 1)) ≠ -1152921504606846976) : Fine l (k + 1) := by
  obtain ⟨f1, f2⟩ := hf
  have hr : k < l.reverse.length := by simpa using h
  have b1 := fs_le (l.take k)
  have b2 := fs_le (l.reverse.take k)
  constructor
  · rw [fs_succ l k h] at *
    rw [ad_exact _ _ b1.1 b1.2 h1 h2, tot_succ l k h, f1]
  · rw [fs_succ l.reverse k hr] at *
    rw [ad_exact _ _ b2.1 b2.2 h3 h4, tot_succ l.reverse k hr, f2]

theorem fine_end (l : List Int) (hf : Fine l l.length) : fs l = fs l.reverse := by
  obtain ⟨f1, f2⟩ := hf
  rw [List.take_of_length_le (Nat.le_refl _)] at f1
  rw [List.take_of_length_le (by simp)] at f2
  rw [f1, f2, tot_rev]

/-! ### STEP 1: THE WALK -/
set_option maxHeartbeats 400000 in
theorem walk_nil (a0 : Option Addr) (cap0 : Nat) (w : World) :
    Calls Try.prog 5 #[.slice a0 0 cap0] w fun e w' => e = .returned (.bool true) ∧ Below w.heap.size w w' := by
  go_enter Try.func5, Try.ntmps5
  go_wp2_with fail
  refine (awake_any _).mono ?_
  rintro e w' ⟨rfl, n, rfl⟩
  go_wp2_with fail
  go_loop [3, 4, 5, 6] (fun s b c i => s = .int .i64 0 ∧ b = .int .i64 0 ∧ c = .bool false ∧ i = .int .i64 0) (fun _ _ _ _ => 0)
  case atStart => exact ⟨rfl, rfl, rfl, rfl⟩
  case round =>
    obtain ⟨rfl, rfl, rfl, rfl⟩ := hrel
    go_wp2_with (go_at_call 13; refine (sum_nil _ _ _).mono ?_; rintro e w' ⟨rfl, rfl⟩)
    go_ret
    exact ⟨rfl, bel_drewN _ _ _⟩

set_option maxHeartbeats 400000 in
theorem walk_some (b off len cap : Nat) (zs : List Int) (w : World) (hm : len ≤ 9223372036854775807) (hz : zs.length = len)
    (hc : ∀ i, i < len → w.cell? ⟨b, off + i, none⟩ = some (.int .i64 (zs.getD i 0))) :
    Calls Try.prog 5 #[.slice (some ⟨b, off, none⟩) len cap] w fun e w' => e = .returned (.bool true) ∧ Below w.heap.size w w' := by
  have HC : Hid (∀ i, i < len → w.cell? ⟨b, off + i, none⟩ = some (.int .i64 (zs.getD i 0))) := hc
  clear hc
  have HZ : Hid (zs.length = len) := hz
  clear hz
  go_enter Try.func5, Try.ntmps5
  go_wp2_with fail
  refine (awake_any _).mono ?_
  rintro e w' ⟨rfl, n, rfl⟩
  go_wp2_with fail
  go_loop [3, 4, 5, 6] (fun s b c i => ∃ (k : Nat) (cut : Bool), k ≤ len ∧ i = .int .i64 k ∧ s = .int .i64 (fs (zs.take k)) ∧ b = .int .i64 (fs (zs.reverse.take k)) ∧ c = .bool cut ∧ (cut = false → Fine zs k)) (fun _ _ _ i => len - (intOf i).toNat)
  case atStart => exact ⟨0, false, Nat.zero_le _, rfl, rfl, rfl, rfl, fun _ => ⟨rfl, rfl⟩⟩
  case round =>
    obtain ⟨k, cut, hk, rfl, rfl, rfl, rfl, hf⟩ := hrel
    have HF : Hid (cut = false → Fine zs k) := hf
    clear hf
    by_cases hlt : k < len
    · have hcell := HC.out k (by omega)
      have hcell2 := HC.out (len - 1 - k) (by omega)
      have HS : Hid (fs (zs.take (k + 1)) = ad (fs (zs.take k)) (zs[k]?.getD 0)) := fs_succ zs k (by have := HZ.out; omega)
      have HR : Hid (fs (zs.reverse.take (k + 1)) = ad (fs (zs.reverse.take k)) (zs[len - 1 - k]?.getD 0)) := by
        have hz := HZ.out
        show _ = _
        rw [fs_succ zs.reverse k (by simp; omega), List.getElem?_reverse (by omega), hz]
      go_wp2_with fail
      refine (refadd_any _ _ _).mono ?_
      rintro e w' ⟨rfl, rfl⟩
      go_wp2_with fail
      refine (refadd_any _ _ _).mono ?_
      rintro e w' ⟨rfl, rfl⟩
      rw [← HS.out, ← HR.out]
      have hn : ∀ h : cut = false, fs (zs.take (k + 1)) ≠ 1152921504606846976 → fs (zs.take (k + 1)) ≠ -1152921504606846976 →
          fs (zs.reverse.take (k + 1)) ≠ 1152921504606846976 → fs (zs.reverse.take (k + 1)) ≠ -1152921504606846976 → Fine zs (k + 1) :=
        fun h => fine_next zs k (by have := HZ.out; omega) (HF.out h)
      clear HS HR hcell hcell2
      have HN := hide2 hn
      clear hn
      generalize hs : fs (zs.take (k + 1)) = s at HN ⊢
      generalize hb : fs (zs.reverse.take (k + 1)) = t at HN ⊢
      have HS := hide2 hs
      have HB := hide2 hb
      clear hs hb
      cases cut with
      | true =>
        go_wp2_with fail
        go_round
        case rel => exact ⟨k + 1, true, by omega, by go_num, by rw [HS.out], by rw [HB.out], rfl, fun h => by cases h⟩
        case measure => simp [intOf]; omega
      | false =>
        by_cases g1 : s = 1152921504606846976
        · have b1 : (s == 1152921504606846976) = true := by simpa using g1
          clear g1
          go_wp2_with fail
          go_round
          case rel => exact ⟨k + 1, true, by omega, by go_num, by rw [HS.out], by rw [HB.out], rfl, fun h => by cases h⟩
          case measure => simp [intOf]; omega
        have b1 : (s == 1152921504606846976) = false := by simpa using g1
        have n1 := hide2 g1
        clear g1
        by_cases g2 : s = (-1152921504606846976)
        · have b2 : (s == -1152921504606846976) = true := by simpa using g2
          clear g2
          go_wp2_with fail
          go_round
          case rel => exact ⟨k + 1, true, by omega, by go_num, by rw [HS.out], by rw [HB.out], rfl, fun h => by cases h⟩
          case measure => simp [intOf]; omega
        have b2 : (s == -1152921504606846976) = false := by simpa using g2
        have n2 := hide2 g2
        clear g2
        by_cases g3 : t = 1152921504606846976
        · have b3 : (t == 1152921504606846976) = true := by simpa using g3
          clear g3
          go_wp2_with fail
          go_round
          case rel => exact ⟨k + 1, true, by omega, by go_num, by rw [HS.out], by rw [HB.out], rfl, fun h => by cases h⟩
          case measure => simp [intOf]; omega
        have b3 : (t == 1152921504606846976) = false := by simpa using g3
        have n3 := hide2 g3
        clear g3
        by_cases g4 : t = (-1152921504606846976)
        · have b4 : (t == -1152921504606846976) = true := by simpa using g4
          clear g4
          go_wp2_with fail
          go_round
          case rel => exact ⟨k + 1, true, by omega, by go_num, by rw [HS.out], by rw [HB.out], rfl, fun h => by cases h⟩
          case measure => simp [intOf]; omega
        have b4 : (t == -1152921504606846976) = false := by simpa using g4
        have n4 := hide2 g4
        clear g4
        go_wp2_with fail
        go_round
        case rel => exact ⟨k + 1, false, by omega, by go_num, by rw [HS.out], by rw [HB.out], rfl, fun _ => HN.out (by trivial) n1 n2 n3 n4⟩
        case measure => simp [intOf]; omega
    · have e : k = len := by omega
      subst e
      have e1 : fs (zs.take k) = fs zs := by rw [List.take_of_length_le (by have := HZ.out; omega)]
      have e2 : fs (zs.reverse.take k) = fs zs.reverse := by rw [List.take_of_length_le (by have := HZ.out; simp; omega)]
      rw [e1, e2]
      cases cut with
      | true =>
        go_wp2_with fail
        refine (sum_any b off k cap zs _ hm HZ.out (by simpa using HC.out)).mono ?_
        rintro e w' ⟨rfl, rfl⟩
        go_wp2_with fail
        go_ret
        exact ⟨rfl, bel_drewN _ _ _⟩
      | false =>
        have e3 : (fs zs == fs zs.reverse) = true := by
          rw [fine_end zs (by rw [HZ.out]; exact HF.out rfl)]; simp
        generalize fs zs.reverse = t at *
        go_wp2_with fail
        refine (sum_any b off k cap zs _ hm HZ.out (by simpa using HC.out)).mono ?_
        rintro e w' ⟨rfl, rfl⟩
        generalize fs zs = s at *
        go_wp2_with fail
        go_ret
        exact ⟨rfl, bel_drewN _ _ _⟩

theorem walk (a0 : Option Addr) (len0 cap0 : Nat) (z0 : List Int) (w : World) (w0 : IsRow .i64 w a0 len0 cap0 z0) :
    Calls Try.prog 5 #[.slice a0 len0 cap0] w fun e w' => e = .returned (.bool true) ∧ Below w.heap.size w w' := by
  by_cases h0 : len0 = 0
  · subst h0; exact walk_nil _ _ _
  rcases w0 with ⟨_, h, _⟩ | ⟨x, rfl, hl, hm, hz, hc, hwz⟩
  · exact absurd h h0
  · unfold maxLen at hm
    obtain ⟨b, off, rfl, hc'⟩ := ints_at hc (by omega)
    refine walk_some b off len0 cap0 (z0.take len0) w (by omega) (by rw [List.length_take]; omega) fun i hi => ?_
    rw [hc' i (by omega)]
    simp [hi]

/-! ### THE ROW's STEP: WRITTEN OUT: LEAVE IT -/
set_option maxRecDepth 100000 in
theorem lifted (os : Os) (started : os.Started) (H : Type) (enc : TypeId × Value → H) :
    ReturnsInHanded {} Try.checked os 5 .any (Rows.scaledSumsSpec.pre6 enc Try.prog Try.f5 Rows.scaledSumsRow.domain false) (Rows.scaledSumsSpec.post enc Try.prog Try.f5 false true false false) := by
  refine returnsInHanded_of_change (C := Try.checked) own started (by kernel_rfl) Try.func5
    (ChangeSpec.witness6 (enc := enc) (C := Try.checked) false ⟨#[], #[.slice none 0 0], []⟩ 8 (by kernel_rfl) (by kernel_rfl) (by kernel_rfl) (by kernel_rfl)) ?_
  intro W base args ds gs before hval0 hW hcnd _
  have hval : ∀ (j : Nat) t v, Try.f5.params[j]? = some t → args[j]? = some v → Value.okWide Try.prog W .any base t v := hval0
  have hW' := hW
  obtain ⟨p, q, hA0, hV, rfl, hfz, hnd⟩ := hW
  have hA : DataW.TrodAll enc Try.prog W 0 (fun _ => true) true Try.f5.params.toList args.toList ds p := hA0
  rw [Try.params5] at hA hval
  obtain ⟨v0, vs0, d0, ds0, p0, q0, hargs, rfl, rfl, h0, r0⟩ := trodAll_cons hA
  obtain ⟨rfl, rfl, rfl⟩ := trodAll_nil r0
  obtain rfl : args = #[v0] := by cases args; simp_all
  obtain ⟨rfl, rfl⟩ := trodVars_none hV
  obtain ⟨a0, len0, cap0, rfl⟩ := okWide_slice Try.underlying27 (hval 0 27 v0 rfl rfl)
  have k0 := h0
  have lt0 : ∀ x ∈ p0, x.block < W.heap.size := by obtain ⟨m, hm⟩ := k0; exact DataW.trod_lt m _ _ _ hm
  obtain ⟨z0, w0⟩ : ∃ zs, IsRow .i64 W a0 len0 cap0 zs := by
    obtain ⟨fuel, hf⟩ := h0
    rcases open_ints Try.underlying27 Try.underlying3 (by kernel_rfl) hf with ⟨hcs, _⟩ | ⟨x, l, c, zs, hcs, _, hl, hm, hz, _, hcell, hwz⟩
    · simp [Value.cells] at hcs
      obtain ⟨rfl, rfl, rfl⟩ := hcs
      exact ⟨[], .inl ⟨rfl, rfl, rfl, rfl⟩⟩
    · simp [Value.cells] at hcs
      obtain ⟨rfl, rfl, rfl⟩ := hcs
      exact ⟨zs, .inr ⟨_, rfl, hl, hm, by simpa using hz, hcell, hwz⟩⟩
  clear hA0 hval0
  refine (walk a0 len0 cap0 z0 W w0).mono fun e W' ⟨he, bel⟩ => ?_
  subst he
  exact ⟨_, rfl, _, _, _, [], _, [], hW', trodAll_mk1 (shut_bool Try.underlying4 _), (trodAll_cons_mk (Below.trod laidOut (by kernel_rfl) (of_decide_eq_true (by kernel_rfl)) k0 bel lt0) trodAll_mk0), rfl, bel.frame _, fun h => by cases h⟩

theorem over : Rows.scaledSumsRow.holds Try.pinned (OpenSpec.ofChange Rows.scaledSumsSpec) :=
  OpenClaim.holds_of_wide 5 Try.f5 rfl rfl rfl rfl rfl rfl rfl ⟨rfl, rfl, rfl, rfl, rfl⟩ rfl rfl rfl rfl rfl (by kernel_rfl) Try.func5 (by kernel_rfl)
    (of_decide_eq_true (by kernel_rfl)) (by unfold Func.isWrapper; first | (rw [if_pos (by decide +kernel)]; kernel_rfl) | (rw [if_neg (by decide +kernel)]; exact ⟨rfl, rfl⟩))
    (fun os started H enc _ => lifted os started H enc)

/-- ████ THE STATEMENT ████ -/
theorem proved : Rows.ScaledSumsSaid := over
#print axioms proved
end Go.Proofs.Ytkpikienkmdcaab.scaledSums
