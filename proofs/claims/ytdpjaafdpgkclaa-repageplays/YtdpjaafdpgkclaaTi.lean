/-
  Rows of numbers one behind the other (slices.Grow, slices.Concat).
-/
import Derived.Test.YtdpjaafdpgkclaaTh
import Derived.Lib.AppendZeros
namespace Go.Proofs.Ytdpjaafdpgkclaa
open Go.RowKit
set_option linter.unusedSimpArgs false
set_option linter.unusedVariables false

set_option maxHeartbeats 2000000 in
set_option maxRecDepth 100000 in
theorem grow_any (k : Nat) (hk : k ≤ 1000000) (w : World) :
    Calls Try.prog 56 #[.slice none 0 0, .int .i64 (k : Nat)] w fun e w' => ∃ ao c, e = .returned (.slice ao 0 c) ∧ w'.ownsRow w.heap.size 3 1 (.slice ao 0 c) 0 [] ∧ Below w.heap.size w w' := by
  obtain ⟨i0, hi, hz0, hz1, hz2⟩ := info_parts info_int12
  by_cases h0 : k = 0
  · subst h0
    go_enter Try.func56, Try.ntmps56
    go_wp2_with fail
    go_ret
    exact ⟨_, _, rfl, World.ownsRow_nil _ _ _ _, Below.refl _ _⟩
  · have t1 : decide ((k : Int) < 0) = false := decide_eq_false (by omega)
    have t2 : decide ((0 : Int) < (k : Int)) = true := decide_eq_true (by omega)
    have hr := fun ty kq => Lib.run_append_nil_zeros (P := Try.prog) w 39 3 ty 3 i0 _ kq .i64 Try.underlying39 Try.underlying3 hi hz0 k (by omega) (by omega) (by omega) (by rw [hz2]; omega)
    have HR := boxed hr
    have hg := grownCap_ge w k 0 3
    have hm := grownCap_le_maxLen w k 0 3 (by unfold maxLen; omega)
    have HW : Box ((w.drew.alloc (.cells (Builtin.zeroCells (Value.int .i64 0).cells k ++ Builtin.zeroCells (Value.int .i64 0).cells (grownCap w k 0 3 - k)) 3)).ownsRow w.heap.size 3 1 (.slice (some ⟨w.heap.size, 0, none⟩) 0 (grownCap w k 0 3)) 0 [] ∧ Below w.heap.size w (w.drew.alloc (.cells (Builtin.zeroCells (Value.int .i64 0).cells k ++ Builtin.zeroCells (Value.int .i64 0).cells (grownCap w k 0 3 - k)) 3))) := boxed ⟨World.ownsRow_made w.drew _ _ (Nat.le_refl _) hm (by rw [Array.size_append, size_zeroCells, size_zeroCells]; show k * 1 + (_ - k) * 1 = _ * 1; omega), (show Below w.heap.size w w.drew from ⟨rfl, rfl, rfl, Nat.le_refl _, fun _ _ => rfl⟩).alloc (Nat.le_refl _) _⟩
    generalize grownCap w k 0 3 = G at *
    generalize (w.drew.alloc (.cells (Builtin.zeroCells (Value.int .i64 0).cells k ++ Builtin.zeroCells (Value.int .i64 0).cells (G - k)) 3)) = W1 at *
    clear hr
    go_enter Try.func56, Try.ntmps56
    go_wp2_with (first | (at_builtin; refine Lib.wpList_append_run _ rfl _ _ 39 3 rfl _ _ rfl rfl _ _ (HR.out _ _) ?_))
    go_wp2_with fail
    go_ret
    exact ⟨_, _, rfl, HW.out.1, HW.out.2⟩
/-- How many numbers the first i rows have. -/
def tl (Ls : Nat → List Nat) : Nat → Nat
  | 0 => 0
  | i + 1 => tl Ls i + (Ls i).length
/-- The numbers of the first i rows. -/
def cat (Ls : Nat → List Nat) : Nat → List Nat
  | 0 => []
  | i + 1 => cat Ls i ++ Ls i
theorem cat_len (Ls : Nat → List Nat) (i : Nat) : (cat Ls i).length = tl Ls i := by
  induction i with
  | zero => rfl
  | succ i ih => simp only [cat, tl, List.length_append, ih]
theorem tl_le (Ls : Nat → List Nat) (N i : Nat) (h : ∀ k, k < i → (Ls k).length ≤ N) : tl Ls i ≤ i * N := by
  induction i with
  | zero => exact Nat.zero_le _
  | succ i ih =>
    have h1 := ih (fun k hk => h k (by omega))
    have h2 := h i (by omega)
    show tl Ls i + _ ≤ _
    rw [Nat.add_mul]; omega
set_option maxHeartbeats 2000000 in
set_option maxRecDepth 100000 in
theorem concat_any (S : Nat → Prop) (G : Nat) (A : Nat → Option Addr) (Ls : Nat → List Nat) (Cs : Nat → Nat) (w : World) (hG : ∀ k, k < 3 → w.cell? ⟨G, k, none⟩ = some (.slice (A k) (Ls k).length (Cs k))) (hA : ∀ k, k < 3 → NsAt S w (A k) (Ls k)) (hc : ∀ k, k < 3 → A k = none → Cs k = 0) (hl : ∀ k, k < 3 → (Ls k).length ≤ 100000) :
    Calls Try.prog 41 #[.slice (some ⟨G, 0, none⟩) 3 3] w fun e w' => ∃ ao c, e = .returned (.slice ao (tl Ls 3) c) ∧ w'.ownsRow w.heap.size 3 1 (.slice ao (tl Ls 3) c) (tl Ls 3) (ncs (cat Ls 3)) ∧ Below w.heap.size w w' := by
  obtain ⟨i0, hi, hz0, hz1, hz2⟩ := info_parts info_int12
  have HG := boxed hG
  have HA := boxed hA
  have HC := boxed hc
  have HL := boxed hl
  have HT := boxed (fun i (h : i ≤ 3) => tl_le Ls 100000 i (fun k hk => hl k (by omega)))
  clear hG hA hc hl
  go_enter Try.func41, Try.ntmps41
  go_wp2_with fail
  go_loopw [3, 11] (fun sv iv wr => ∃ i : Nat, i ≤ 3 ∧ iv = .int .i64 (i : Nat) ∧ sv = .int .i64 (tl Ls i : Nat) ∧ Box (Below w.heap.size w wr)) (fun _ iv _ => 3 - (intOf iv).toNat)
  case atStart => exact ⟨0, by omega, rfl, rfl, boxed (Below.refl _ _)⟩
  case round =>
    obtain ⟨i, hi3, rfl, rfl, HB0⟩ := hrel
    by_cases hlt : i < 3
    · have c0 := hold HB0.out (HG.out i hlt)
      have h1 := HT.out i (by omega)
      have h2 := HL.out i hlt
      have HE : Box (tl Ls (i + 1) = tl Ls i + (Ls i).length) := boxed rfl
      have t0 : decide ((i : Int) < 3) = true := decide_eq_true (by omega)
      generalize (Ls i).length = y at *
      generalize tl Ls i = x at *
      have t1 : decide ((x : Int) + (y : Int) < 0) = false := decide_eq_false (by omega)
      go_wp2_with fail
      go_roundw
      case rel => exact ⟨i + 1, by omega, by go_num, by rw [HE.out] <;> (first | rfl | go_num), HB0⟩
      case measure => simp [intOf]; omega
    · obtain rfl : i = 3 := by omega
      have h1 := HT.out 3 (by omega)
      have hgr := grow_any (tl Ls 3) (by omega)
      obtain ⟨T3, hT3⟩ : ∃ T3, tl Ls 3 = T3 := ⟨_, rfl⟩
      have HT3 := boxed hT3
      rw [hT3] at hgr ⊢
      clear hT3 h1
      go_wp2_with fail
      refine (hgr _).mono ?_
      rintro e w1 ⟨go, gc, rfl, hown, hb⟩
      have hz0r := HB0.out.size
      have HO := boxed (own_down hown (B' := w.heap.size) hz0r)
      have HB := boxed (below_step HB0.out (Nat.le_refl _) hb)
      clear hown hb hgr HB0
      go_wp2_with fail
      go_loopw [6, 27] (fun sv iv wr => ∃ i : Nat, i ≤ 3 ∧ iv = .int .i64 (i : Nat) ∧ Box (∃ ao c, sv = .slice ao (tl Ls i) c) ∧ Box (wr.ownsRow w.heap.size 3 1 sv (tl Ls i) (ncs (cat Ls i))) ∧ Box (Below w.heap.size w wr)) (fun _ iv _ => 3 - (intOf iv).toNat)
      case atStart => exact ⟨0, by omega, rfl, boxed ⟨_, _, rfl⟩, HO, HB⟩
      case round =>
        obtain ⟨i, hi3, rfl, HV, HO1, HB1⟩ := hrel
        by_cases hlt : i < 3
        · have c0 := hold HB1.out (HG.out i hlt)
          have h1 := HT.out i (by omega)
          have h2 := HL.out i hlt
          have HE : Box (tl Ls (i + 1) = tl Ls i + (Ls i).length) := boxed rfl
          have HF : Box (ncs (cat Ls (i + 1)) = ncs (cat Ls i) ++ ncs (Ls i)) := boxed (ncs_app _ _)
          have HS := boxed ((HA.out i hlt).below HB1.out)
          have hnl := ncs_len (Ls i)
          have t0 : decide ((i : Int) < 3) = true := decide_eq_true (by omega)
          obtain ⟨ao1, c1, hsv⟩ := HV.out
          subst hsv
          have hown := HO1.out
          have hzr := HB1.out.size
          cases hAi : A i with
          | none =>
            have h0 : (Ls i).length = 0 := by
              by_cases c : 0 < (Ls i).length
              · obtain ⟨b, off, e, -⟩ := HS.out.form c
                rw [hAi] at e; cases e
              · omega
            rw [hAi, h0, HC.out i hlt hAi] at c0
            have hcs : ncs (Ls i) = [] := List.eq_nil_of_length_eq_zero (by omega)
            have HO2 : Box (wr.ownsRow w.heap.size 3 1 (.slice ao1 (tl Ls i) c1) (tl Ls (i + 1)) (ncs (cat Ls (i + 1)))) := boxed (by rw [HE.out, HF.out, hcs, h0]; simpa using hown)
            have HV2 : Box (∃ ao c, Value.slice ao1 (tl Ls i) c1 = Value.slice ao (tl Ls (i + 1)) c) := boxed (by rw [HE.out, h0]; exact ⟨_, _, rfl⟩)
            clear hcs h0 hnl hAi HS HF HE
            go_wp2_with (first | (at_builtin; refine wpList_append_own_none rfl _ _ 39 rfl w.heap.size 3 i0 1 Try.underlying39 hi _ _ _ rfl hown rfl ?_))
            go_wp2_with fail
            go_roundw
            case rel => exact ⟨i + 1, by omega, by go_num, HV2, HO2, HB1⟩
            case measure => simp [intOf]; omega
          | some ad =>
            rw [hAi] at c0 HS
            have HN : Box (∀ j u, (ncs (Ls i))[j]? = some u → wr.cell? (ad.add j) = some u) := boxed (by
              intro j u hj
              have hl : j < (ncs (Ls i)).length := (List.getElem?_eq_some_iff.1 hj).1
              obtain ⟨b, off, e, -⟩ := HS.out.form (by omega)
              injection e with e
              subst e
              rw [Addr.add_lit]
              exact HS.out.cells j u hj)
            generalize hN : (Ls i).length = y at *
            have HNy := boxed hN
            clear hN
            go_wp2_with (first | (at_builtin; refine wpList_append_own _ rfl _ _ 39 rfl w.heap.size 3 i0 _ 1 8 Try.underlying39 hi hz0 hz1 hz2 rfl (by decide) _ _ _ rfl hown ad y (Cs i) (ncs (Ls i)) rfl (by omega) HN.out (ncs_one _) (by unfold maxLen; omega) (by omega) (by omega) ?_))
            intro v' w6 hown6 hgrow6 _
            have HO2 : Box (w6.ownsRow w.heap.size 3 1 v' (tl Ls (i + 1)) (ncs (cat Ls (i + 1)))) := boxed (by rw [HE.out, HF.out]; exact hown6)
            have HB2 := boxed (HB1.out.grown hgrow6 (by omega) (fun r e => owns_ge hown r e))
            have HV2 : Box (∃ ao c, v' = Value.slice ao (tl Ls (i + 1)) c) := boxed (own_shape HO2.out)
            clear hown6 hgrow6 hown
            go_wp2_with fail
            go_roundw
            case rel => exact ⟨i + 1, by omega, by go_num, HV2, HO2, HB2⟩
            case measure => simp [intOf]; omega
        · obtain rfl : i = 3 := by omega
          have t0 : decide ((3 : Int) < 3) = false := decide_eq_false (by omega)
          obtain ⟨ao, c, rfl⟩ := HV.out
          have e3 := HT3.out
          subst e3
          go_wp2_with fail
          go_ret
          exact ⟨ao, c, rfl, HO1.out, HB1.out⟩
end Go.Proofs.Ytdpjaafdpgkclaa
