/-
  Copies of lines and of numbers, and where a number lies among numbers that rise (slices.Clone, slices.BinarySearch).
-/
import Derived.Test.YtdpjaafdpgkclaaTb
import Derived.Test.YtdpjaafdpgkclaaTf
import Derived.Lib.Walk
namespace Go.Proofs.Ytdpjaafdpgkclaa
open Go.RowKit
set_option linter.unusedSimpArgs false
set_option linter.unusedVariables false

/-- Numbers as they lie in memory, from some place of a block on. -/
def NsAt (S : Nat → Prop) (w : World) (ao : Option Addr) (L : List Nat) : Prop := ∀ i, i < L.length → ∃ b off, ao = some ⟨b, off, none⟩ ∧ S b ∧ w.cell? ⟨b, off + i, none⟩ = some (.int .i64 (L.getD i 0 : Nat))
theorem NsAt.keep {S S' : Nat → Prop} {w w' : World} {ao : Option Addr} {L : List Nat} (h : NsAt S w ao L) (k : Kp S S' w w') : NsAt S' w' ao L := by
  intro i hi
  obtain ⟨b, off, e, hs, c0⟩ := h i hi
  exact ⟨b, off, e, (k _ _ _ hs c0).1, (k _ _ _ hs c0).2⟩
theorem NsAt.below {S : Nat → Prop} {w w' : World} {ao : Option Addr} {L : List Nat} (h : NsAt S w ao L) (hb : Below w.heap.size w w') : NsAt S w' ao L := h.keep (kp_below hb)
theorem NsAt.form {S : Nat → Prop} {w : World} {ao : Option Addr} {L : List Nat} (h : NsAt S w ao L) (hn : 0 < L.length) : ∃ b off, ao = some ⟨b, off, none⟩ ∧ b < w.heap.size ∧ S b := by
  obtain ⟨b, off, e, hs, c0⟩ := h 0 hn
  exact ⟨b, off, e, World.block_lt_of_cell? w _ c0, hs⟩
theorem NsAt.get {S : Nat → Prop} {w : World} {b off : Nat} {L : List Nat} (h : NsAt S w (some ⟨b, off, none⟩) L) (i : Nat) (hi : i < L.length) : w.cell? ⟨b, off + i, none⟩ = some (.int .i64 (L.getD i 0 : Nat)) := by
  obtain ⟨b', off', e, -, c0⟩ := h i hi
  injection e with e
  injection e with e1 e2 e3
  subst e1; subst e2
  exact c0
theorem NAt.ns {S : Nat → Prop} {w : World} {ao : Option Addr} {L : List Nat} (h : NAt S w ao L) : NsAt S w ao L := by
  intro i hi
  obtain ⟨b, e, hs, c0⟩ := h i hi
  exact ⟨b, 0, e, hs, by rw [Nat.zero_add]; exact c0⟩
theorem NsAt.cells {S : Nat → Prop} {w : World} {b off : Nat} {L : List Nat} (h : NsAt S w (some ⟨b, off, none⟩) L) : ∀ (j : Nat) (u : Value), (ncs L)[j]? = some u → w.cell? ⟨b, off + j, none⟩ = some u := by
  intro j u hj
  have hjn : j < L.length := by
    have := (List.getElem?_eq_some_iff.1 hj).1
    rw [ncs_len] at this
    exact this
  rw [h.get j hjn, ← hj, ncs_get L j hjn]
/-- A row of its own, of numbers. -/
theorem own_ns {w : World} {B : Nat} {ao : Option Addr} {n cap : Nat} {L : List Nat} (h : w.ownsRow B 3 1 (.slice ao n cap) n (ncs L)) (hl : L.length = n) : NAt (fun b => B ≤ b) w ao L := own_nat h hl
set_option maxHeartbeats 2000000 in
set_option maxRecDepth 100000 in
theorem cloneN_any (S : Nat → Prop) (ao : Option Addr) (n c : Nat) (L : List Nat) (hL : L.length = n) (w : World) (h : NsAt S w ao L) (hm : n ≤ 262144) :
    Calls Try.prog 28 #[.slice ao n c] w fun e w' => ∃ ao' c', e = .returned (.slice ao' n c') ∧ w'.ownsRow w.heap.size 3 1 (.slice ao' n c') n (ncs L) ∧ Below w.heap.size w w' := by
  obtain ⟨i0, hi, hz0, hz1, hz2⟩ := info_parts info_int12
  have q22 : ∀ (w : World) (a : Option Addr) (n c n' c' : Nat), (binOp .eql 39 (.slice a n c) (.slice none n' c')).run Try.prog w = .ok (.bool a.isNone) w := fun w a n c n' c' => Lib.run_eql_slice_nil w _ _ a n c n' c' Try.underlying39
  have u22 : ∀ w, Sem.run Try.prog (underlying 39) w = .ok (TypeDesc.slice 3) w := run_underlying Try.underlying39
  have hnl := ncs_len L
  cases ao with
  | none =>
    have h0 : n = 0 := by
      by_cases c : n = 0
      · exact c
      · obtain ⟨b, off, e, -⟩ := h 0 (by omega)
        cases e
    subst h0
    have hcs : ncs L = [] := List.eq_nil_of_length_eq_zero (by omega)
    rw [hcs]
    clear h hcs hnl hL
    go_enter Try.func28, Try.ntmps28
    go_wp2_with fail
    go_ret
    exact ⟨_, _, rfl, World.ownsRow_nil _ _ _ _, Below.refl _ _⟩
  | some ad =>
    have HC : Box (∀ W, Below w.heap.size w W → ∀ j u, (ncs L)[j]? = some u → W.cell? (ad.add j) = some u) := boxed (by
      intro W hb j u hj
      have hl : j < (ncs L).length := (List.getElem?_eq_some_iff.1 hj).1
      obtain ⟨b, off, e, -⟩ := h.form (by omega)
      injection e with e
      subst e
      rw [Addr.add_lit]
      exact (h.below hb).cells j u hj)
    have HL := boxed hnl
    have HLl := boxed hL
    clear h hnl hL
    by_cases h0 : n = 0
    · subst h0
      have hcs : ncs L = [] := List.eq_nil_of_length_eq_zero (by have := HL.out; have := HLl.out; omega)
      rw [hcs]
      have hb1 : Below w.heap.size w (w.alloc (.cells #[] 3)) := (Below.refl _ w).alloc (Nat.le_refl _) _
      have hmade := World.ownsRow_made (base := w.heap.size) (e := 3) (size := 1) w #[] 0 (Nat.le_refl _) (Nat.zero_le _) rfl
      clear hcs
      go_enter Try.func28, Try.ntmps28
      go_wp2_with fail
      go_ret
      exact ⟨_, _, rfl, hmade, hb1⟩
    · go_enter Try.func28, Try.ntmps28
      go_wp2_with (at_builtin; refine wpList_append_own _ rfl _ _ 39 rfl w.heap.size 3 i0 _ 1 8 Try.underlying39 hi hz0 hz1 hz2 rfl (by decide) _ _ _ rfl (World.ownsRow_made w #[] 0 (Nat.le_refl _) (Nat.zero_le _) rfl) ad n c (ncs L) rfl ?qc1 ?qc2 ?qc3 ?qc4 ?qc5 ?qc6 ?_)
      case qc1 => rw [HL.out, HLl.out]; omega
      case qc2 => exact HC.out _ ((Below.refl _ w).alloc (Nat.le_refl _) _)
      case qc3 => exact ncs_one _
      case qc4 => unfold maxLen; omega
      case qc5 => omega
      case qc6 => simp
      intro v' w1 hown hgrow hnil
      have hown2 : w1.ownsRow w.heap.size 3 1 v' n (ncs L) := by simpa using hown
      obtain ⟨ao', c', rfl⟩ := own_shape hown2
      have HO := boxed hown2
      have HB := boxed (((Below.refl _ w).alloc (Nat.le_refl _) _).grown hgrow (by simp) (by intro k hk; simp [Value.ownBlock] at hk; omega))
      clear hown hown2 hgrow hnil
      go_wp2
      go_ret
      exact ⟨ao', c', rfl, HO.out, HB.out⟩
set_option maxHeartbeats 2000000 in
set_option maxRecDepth 100000 in
theorem cloneS_any (S : Nat → Prop) (ao : Option Addr) (n c : Nat) (F : Nat → Slt) (w : World) (h : SltsAt S w ao n F) (hm : n ≤ 262144) :
    Calls Try.prog 30 #[.slice ao n c] w fun e w' => ∃ ao' c', e = .returned (.slice ao' n c') ∧ w'.ownsRow w.heap.size 69 4 (.slice ao' n c') n (scs F n) ∧ Below w.heap.size w w' := by
  obtain ⟨i0, hi, hz0, hz1, hz2⟩ := info_parts info_slot
  have q22 : ∀ (w : World) (a : Option Addr) (n c n' c' : Nat), (binOp .eql 22 (.slice a n c) (.slice none n' c')).run Try.prog w = .ok (.bool a.isNone) w := fun w a n c n' c' => Lib.run_eql_slice_nil w _ _ a n c n' c' Try.underlying22
  have u22 : ∀ w, Sem.run Try.prog (underlying 22) w = .ok (TypeDesc.slice 69) w := run_underlying Try.underlying22
  have hnl := scs_len F n
  cases ao with
  | none =>
    have h0 : n = 0 := by
      by_cases c : n = 0
      · exact c
      · obtain ⟨-, b, off, e, -⟩ := h 0 (by omega)
        cases e
    subst h0
    clear h hnl
    go_enter Try.func30, Try.ntmps30
    go_wp2_with fail
    go_ret
    exact ⟨_, _, rfl, World.ownsRow_nil _ _ _ _, Below.refl _ _⟩
  | some ad =>
    have HC : Box (∀ W, Below w.heap.size w W → ∀ j u, (scs F n)[j]? = some u → W.cell? (ad.add j) = some u) := boxed (by
      intro W hb j u hj
      have hl : j < (scs F n).length := (List.getElem?_eq_some_iff.1 hj).1
      obtain ⟨b, off, e, -, hc⟩ := (h.below hb).cell (by omega)
      injection e with e
      subst e
      rw [Addr.add_lit]
      exact hc j u hj)
    have HL := boxed hnl
    clear h hnl
    by_cases h0 : n = 0
    · subst h0
      have hb1 : Below w.heap.size w (w.alloc (.cells #[] 69)) := (Below.refl _ w).alloc (Nat.le_refl _) _
      have hmade := World.ownsRow_made (base := w.heap.size) (e := 69) (size := 4) w #[] 0 (Nat.le_refl _) (Nat.zero_le _) rfl
      go_enter Try.func30, Try.ntmps30
      go_wp2_with fail
      go_ret
      exact ⟨_, _, rfl, hmade, hb1⟩
    · go_enter Try.func30, Try.ntmps30
      go_wp2_with (at_builtin; refine wpList_append_own _ rfl _ _ 22 rfl w.heap.size 69 i0 _ 4 32 Try.underlying22 hi hz0 hz1 hz2 rfl (by decide) _ _ _ rfl (World.ownsRow_made w #[] 0 (Nat.le_refl _) (Nat.zero_le _) rfl) ad n c (scs F n) rfl ?qc1 ?qc2 ?qc3 ?qc4 ?qc5 ?qc6 ?_)
      case qc1 => rw [HL.out]
      case qc2 => exact HC.out _ ((Below.refl _ w).alloc (Nat.le_refl _) _)
      case qc3 => exact scs_one _ _
      case qc4 => unfold maxLen; omega
      case qc5 => omega
      case qc6 => simp
      intro v' w1 hown hgrow hnil
      have hown2 : w1.ownsRow w.heap.size 69 4 v' n (scs F n) := by simpa using hown
      obtain ⟨ao', c', rfl⟩ := own_shape hown2
      have HO := boxed hown2
      have HB := boxed (((Below.refl _ w).alloc (Nat.le_refl _) _).grown hgrow (by simp) (by intro k hk; simp [Value.ownBlock] at hk; omega))
      clear hown hown2 hgrow hnil
      go_wp2
      go_ret
      exact ⟨ao', c', rfl, HO.out, HB.out⟩
theorem nan1_any (x : Int) (w : World) : Calls Try.prog 67 #[.int .i64 x] w fun e w' => e = .returned (.bool false) ∧ w' = w := by
  go_enter Try.func67, Try.ntmps67
  go_wp2
  go_ret
  exact ⟨by simp, rfl⟩
theorem nan2_any (x : Int) (w : World) : Calls Try.prog 64 #[.int .i64 x] w fun e w' => e = .returned (.bool false) ∧ w' = w := by
  go_enter Try.func64, Try.ntmps64
  go_wp2
  go_ret
  exact ⟨by simp, rfl⟩
theorem less_any (x y : Int) (w : World) : Calls Try.prog 63 #[.int .i64 x, .int .i64 y] w fun e w' => e = .returned (.bool (decide (x < y))) ∧ w' = w := by
  have hc := nan1_any x
  go_enter Try.func63, Try.ntmps63
  go_wp2_with fail
  refine (hc _).mono ?_
  rintro e w' ⟨rfl, rfl⟩
  go_wp2_with fail
  go_ret
  exact ⟨rfl, rfl⟩
/-- So many of the numbers are less than x. -/
def Lss (L : List Nat) (x q : Nat) : Prop := q ≤ L.length ∧ (∀ j, j < q → L.getD j 0 < x) ∧ ∀ j, q ≤ j → j < L.length → x ≤ L.getD j 0
set_option maxRecDepth 100000 in
set_option maxHeartbeats 2000000 in
theorem bins_any (S : Nat → Prop) (ao : Option Addr) (n c : Nat) (L : List Nat) (hL : L.length = n) (x : Nat) (w : World) (h : NsAt S w ao L) (hn : n ≤ 1000000) (hM : ∀ j k, j ≤ k → k < L.length → L.getD j 0 ≤ L.getD k 0) :
    Calls Try.prog 55 #[.slice ao n c, .int .i64 (x : Nat)] w fun e w' => ∃ q : Nat, e = .returned (.tuple #[.int .i64 (q : Nat), .bool (decide (q < n ∧ L.getD q 0 = x))]) ∧ Lss L x q ∧ Below w.heap.size w w' := by
  have HR := boxed h
  have HI := boxed hM
  have HL := boxed hL
  have hls := less_any
  have hnn := nan2_any
  clear h hM hL
  go_enter Try.func55, Try.ntmps55
  go_wp2_with fail
  go_loopw [7, 8] (fun a b wr => ∃ i j : Nat, i ≤ j ∧ j ≤ n ∧ a = .int .i64 i ∧ b = .int .i64 j ∧ Box ((∀ q, q < i → L.getD q 0 < x) ∧ ∀ q, j ≤ q → q < n → x ≤ L.getD q 0) ∧ Box (Below w.heap.size w wr)) (fun a b _ => (intOf b - intOf a).toNat)
  case atStart => exact ⟨0, n, by omega, by omega, rfl, rfl, boxed ⟨fun q hq => by omega, fun q h1 h2 => by omega⟩, boxed (Below.refl _ _)⟩
  case round =>
    obtain ⟨i, j, h1, h2, rfl, rfl, HP, HB⟩ := hrel
    by_cases hlt : i < j
    · obtain ⟨m, hm⟩ : ∃ m : Nat, (i + j) / 2 = m := ⟨_, rfl⟩
      have em : ((i : Int) + (j : Int)) / 2 = (m : Int) := by omega
      have m1 : i ≤ m := by omega
      have m2 : m < j := by omega
      clear hm
      obtain ⟨b, off, rfl, -, -⟩ := HR.out.form (by rw [HL.out]; omega)
      have c0 := (HR.out.below HB.out).get m (by rw [HL.out]; omega)
      by_cases hf : L.getD m 0 < x
      · have HNx : Box ((∀ q, q < m + 1 → L.getD q 0 < x) ∧ ∀ q, j ≤ q → q < n → x ≤ L.getD q 0) := boxed ⟨fun q hq => by
          have := HI.out q m (by omega) (by rw [HL.out]; omega)
          omega, HP.out.2⟩
        generalize L.getD m 0 = y at *
        have tf : decide ((y : Int) < (x : Int)) = true := decide_eq_true (by omega)
        have tf2 : decide (y < x) = true := decide_eq_true (by omega)
        go_wp2_with fail
        refine (hls _ _ _).mono ?_
        rintro e w1 ⟨rfl, rfl⟩
        go_wp2_with fail
        go_roundw
        case rel => exact ⟨m + 1, j, by omega, h2, by go_num, rfl, HNx, HB⟩
        case measure => simp [intOf]; omega
      · have HNx : Box ((∀ q, q < i → L.getD q 0 < x) ∧ ∀ q, m ≤ q → q < n → x ≤ L.getD q 0) := boxed ⟨HP.out.1, fun q hq1 hq2 => by
          have := HI.out m q hq1 (by rw [HL.out]; omega)
          omega⟩
        generalize L.getD m 0 = y at *
        have tf : decide ((y : Int) < (x : Int)) = false := decide_eq_false (by omega)
        have tf2 : decide (y < x) = false := decide_eq_false (by omega)
        go_wp2_with fail
        refine (hls _ _ _).mono ?_
        rintro e w1 ⟨rfl, rfl⟩
        go_wp2_with fail
        go_roundw
        case rel => exact ⟨i, m, m1, by omega, rfl, rfl, HNx, HB⟩
        case measure => simp [intOf]; omega
    · have e : i = j := by omega
      subst e
      have HQ : Box (Lss L x i) := boxed ⟨by rw [HL.out]; exact h2, HP.out.1, by rw [HL.out]; exact HP.out.2⟩
      by_cases hin : i < n
      · obtain ⟨b, off, rfl, -, -⟩ := HR.out.form (by rw [HL.out]; omega)
        have c0 := (HR.out.below HB.out).get i (by rw [HL.out]; omega)
        by_cases hx : L.getD i 0 = x
        · have HE : Box (decide (i < n ∧ L.getD i 0 = x) = true) := boxed (decide_eq_true ⟨hin, hx⟩)
          rw [hx] at c0
          clear hx
          go_wp2_with fail
          go_ret2
          refine ⟨i, ?_, HQ.out, HB.out⟩
          rw [HE.out]; rfl
        · have HE : Box (decide (i < n ∧ L.getD i 0 = x) = false) := boxed (decide_eq_false (fun q => hx q.2))
          obtain ⟨y, hy⟩ : ∃ y, L.getD i 0 = y := ⟨_, rfl⟩
          rw [hy] at c0 hx
          have hx1 : ((y : Int) == (x : Int)) = false := by simp; omega
          have hx2 : ¬ ((y : Int) = (x : Int)) := by omega
          clear hy
          go_wp2_with fail
          refine (hnn _ _).mono ?_
          rintro e w1 ⟨rfl, rfl⟩
          go_wp2_with fail
          go_ret2
          refine ⟨i, ?_, HQ.out, HB.out⟩
          rw [HE.out]; rfl
      · have HE : Box (decide (i < n ∧ L.getD i 0 = x) = false) := boxed (decide_eq_false (fun q => hin q.1))
        have t1 : decide ((i : Int) < (n : Int)) = false := decide_eq_false (by omega)
        go_wp2_with fail
        go_ret2
        refine ⟨i, ?_, HQ.out, HB.out⟩
        rw [HE.out]; rfl
end Go.Proofs.Ytdpjaafdpgkclaa
