/-
  Which part has a byte: what the program's holder (by halving), At, Near and Most answer.
-/
import Derived.Test.YtdchpiihjjjpfabLb
namespace Go.Proofs.Ytdchpiihjjjpfab
open Go.RowKit
set_option linter.unusedSimpArgs false
set_option linter.unusedVariables false

set_option maxRecDepth 100000 in
theorem holds1_any (S : Nat → Prop) (ao : Option Addr) (n cap : Nat) (A Y : Nat → Int) (at_ : Int) (bS bR k : Nat) (w : World) (hr : P2At S w ao n A Y) (hk : k < n) (cS : w.cell? ⟨bS, 0, none⟩ = some (.slice ao n cap)) (cR : w.cell? ⟨bR, 0, none⟩ = some (.int .i64 at_)) :
    Calls Try.prog 45 #[.int .i64 (k : Int), .pointer (some ⟨bS, 0, none⟩), .pointer (some ⟨bR, 0, none⟩)] w fun e w' => e = .returned (.bool (decide (at_ < A k))) ∧ Below w.heap.size w w' := by
  obtain ⟨-, b, off, rfl, -, c0, -⟩ := hr k hk
  clear hr
  generalize A k = H at *
  go_enter Try.func45, Try.ntmps45
  go_wp2
  go_quiet (fail)
  go_wp2
  go_ret
  exact ⟨rfl, bel_drewN _ _ _⟩

set_option maxRecDepth 100000 in
set_option maxHeartbeats 1000000 in
theorem search_any (S : Nat → Prop) (ao : Option Addr) (n cap : Nat) (A Y : Nat → Int) (r : Int) (bS bR : Nat) (w : World) (hr : P2At S w ao n A Y) (hn : n ≤ 8589934592) (hM : ∀ j k, j ≤ k → k < n → A j ≤ A k) (cS : w.cell? ⟨bS, 0, none⟩ = some (.slice ao n cap)) (cR : w.cell? ⟨bR, 0, none⟩ = some (.int .i64 r)) :
    Calls Try.prog 44 #[.int .i64 (n : Int), .func (.func 45) #[] #[.pointer (some ⟨bS, 0, none⟩), .pointer (some ⟨bR, 0, none⟩)]] w fun e w' => ∃ q : Nat, e = .returned (.int .i64 (q : Int)) ∧ q ≤ n ∧ (∀ j, j < q → A j ≤ r) ∧ (∀ j, q ≤ j → j < n → r < A j) ∧ Below w.heap.size w w' := by
  have HR := boxed hr
  have HI := boxed hM
  have CS := boxed cS
  have CR := boxed cR
  clear hr hM cS cR
  go_enter Try.func44, Try.ntmps44
  go_wp2_with fail
  go_loopw [5, 6] (fun a b wr => ∃ i j : Nat, i ≤ j ∧ j ≤ n ∧ a = .int .i64 i ∧ b = .int .i64 j ∧ Box ((∀ q, q < i → A q ≤ r) ∧ ∀ q, j ≤ q → q < n → r < A q) ∧ Box (Below w.heap.size w wr)) (fun a b _ => (intOf b - intOf a).toNat)
  case atStart => exact ⟨0, n, by omega, by omega, rfl, rfl, boxed ⟨fun q hq => by omega, fun q h1 h2 => by omega⟩, boxed (Below.refl _ _)⟩
  case round =>
    obtain ⟨i, j, h1, h2, rfl, rfl, HP, HB⟩ := hrel
    by_cases hlt : i < j
    · obtain ⟨m, hm⟩ : ∃ m : Nat, (i + j) / 2 = m := ⟨_, rfl⟩
      have em : ((i : Int) + (j : Int)) / 2 = (m : Int) := by omega
      have m1 : i ≤ m := by omega
      have m2 : m < j := by omega
      clear hm
      have HC := boxed (holds1_any S ao n cap A Y r bS bR m wr (HR.out.below HB.out) (by omega) (hold HB.out CS.out) (hold HB.out CR.out))
      go_wp2_with fail
      refine HC.out.mono ?_
      rintro e w1 ⟨rfl, hb1⟩
      have HB2 := boxed (below_step HB.out (Nat.le_refl _) hb1)
      clear hb1 HC
      by_cases hf : r < A m
      · have tf : decide (r < A m) = true := decide_eq_true hf
        have HN : Box ((∀ q, q < i → A q ≤ r) ∧ ∀ q, m ≤ q → q < n → r < A q) := boxed ⟨HP.out.1, fun q hq1 hq2 => by
          have := HI.out m q hq1 hq2
          omega⟩
        clear hf
        generalize decide (r < A m) = D at *
        go_wp2_with fail
        go_roundw
        case rel => exact ⟨i, m, m1, by omega, rfl, rfl, HN, HB2⟩
        case measure => simp [intOf]; omega
      · have tf : decide (r < A m) = false := decide_eq_false hf
        have HN : Box ((∀ q, q < m + 1 → A q ≤ r) ∧ ∀ q, j ≤ q → q < n → r < A q) := boxed ⟨fun q hq => by
          have := HI.out q m (by omega) (by omega)
          omega, HP.out.2⟩
        clear hf
        generalize decide (r < A m) = D at *
        go_wp2_with fail
        go_roundw
        case rel => exact ⟨m + 1, j, by omega, h2, by go_num, rfl, HN, HB2⟩
        case measure => simp [intOf]; omega
    · have e : i = j := by omega
      subst e
      go_wp2_with fail
      go_ret
      exact ⟨i, rfl, h2, HP.out.1, HP.out.2, HB.out⟩

theorem below_two (w : World) (o1 o2 : Obj) : Below w.heap.size w ((w.alloc o1).alloc o2) := ((Below.refl _ w).alloc (Nat.le_refl _) _).alloc (by simp) _
theorem cell1 (w : World) (v : Value) (t : TypeId) (o : Obj) : ((w.alloc (.cells #[v] t)).alloc o).cell? ⟨w.heap.size, 0, none⟩ = some v := by
  have h : (w.alloc (.cells #[v] t)).cell? ⟨w.heap.size, 0, none⟩ = some v := by rw [cell_new _ _ _ _ _ rfl]; rfl
  exact hold ((Below.refl _ _).alloc (Nat.le_refl _) o) h
theorem cell2 (w : World) (v : Value) (t : TypeId) (o : Obj) : ((w.alloc o).alloc (.cells #[v] t)).cell? ⟨w.heap.size + 1, 0, none⟩ = some v := by
  have := cell_new (w.alloc o) (w.alloc o).heap.size #[v] t 0 rfl
  rw [World.size_alloc] at this
  rw [this]; rfl

set_option maxRecDepth 100000 in
set_option maxHeartbeats 1000000 in
theorem holder_any (S : Nat → Prop) (ao : Option Addr) (cap : Nat) (s : List Int) (a : Nat) (w : World) (h : PartsAt S w ao s) (hl : s.length ≤ 8589934592) :
    Calls Try.prog 43 #[.slice ao (enc s).length cap, .int .i64 (a : Nat)] w fun e w' => ∃ q : Nat, e = .returned (.int .i64 (q : Nat)) ∧ ((s.length ≤ a ∧ q = (enc s).length) ∨ (q < (enc s).length ∧ Bg (enc s) q ≤ a ∧ a < Bg (enc s) (q + 1))) ∧ Below w.heap.size w w' := by
  have hle := enc_len s
  have hM : ∀ j k, j ≤ k → k < (enc s).length → ((Bg (enc s) (j + 1) : Nat) : Int) ≤ (Bg (enc s) (k + 1) : Nat) := fun j k h1 _ => by have := Bg_mono _ (can_enc s) (j + 1) (k + 1) (by omega); omega
  have hS := search_any S ao (enc s).length cap _ _ (a : Nat) w.heap.size (w.heap.size + 1) ((w.alloc (.cells #[.slice ao (enc s).length cap] 55)).alloc (.cells #[.int .i64 (a : Nat)] 3)) (h.below (below_two _ _ _)) (by omega) hM (cell1 _ _ _ _) (cell2 _ _ _ _)
  have HX : Box (∀ q : Nat, q ≤ (enc s).length → (∀ j, j < q → ((Bg (enc s) (j + 1) : Nat) : Int) ≤ (a : Nat)) → (∀ j, q ≤ j → j < (enc s).length → ((a : Nat) : Int) < (Bg (enc s) (j + 1) : Nat)) → ((s.length ≤ a ∧ q = (enc s).length) ∨ (q < (enc s).length ∧ Bg (enc s) q ≤ a ∧ a < Bg (enc s) (q + 1)))) := boxed (fun q h1 h2 h3 => by
    by_cases c : q = (enc s).length
    · left
      refine ⟨?_, c⟩
      by_cases d : q = 0
      · have := (enc_nil s).1 (by omega); omega
      · have := h2 (q - 1) (by omega)
        rw [Nat.sub_add_cancel (by omega), c, Bg_all _ _ (Nat.le_refl _), sm_enc] at this
        omega
    · right
      have := h3 q (Nat.le_refl _) (by omega)
      refine ⟨by omega, ?_, by omega⟩
      by_cases d : q = 0
      · subst d; rw [Bg_zero]; omega
      · have := h2 (q - 1) (by omega)
        rw [Nat.sub_add_cancel (by omega)] at this
        omega)
  clear h hM
  generalize (enc s).length = n at *
  go_enter Try.func43, Try.ntmps43
  go_wp2_with fail
  refine hS.mono ?_
  rintro e w1 ⟨q, rfl, h1, h2, h3, hb⟩
  have HB := boxed ((below_two w _ _).trans (hb.mono (by simp; omega)))
  have HQ := boxed (HX.out q h1 h2 h3)
  clear hS h2 h3 hb
  go_wp2
  go_ret
  exact ⟨q, rfl, HQ.out, HB.out⟩

section
variable {w : World} {lb : Nat} {ao : Option Addr} {cap : Nat} {s : List Int} {bare : Int}

theorem ListAt.sty (h : ListAt w lb ao cap s bare) {q a : Nat} (h1 : q < (enc s).length) (h2 : Bg (enc s) q ≤ a) (h3 : a < Bg (enc s) (q + 1)) : Ys (enc s) q = s.getD a 0 := by
  have := get_of (enc s) q a h1 h2 h3
  rw [flat_enc] at this
  simp [List.getD, this]

end
end Go.Proofs.Ytdchpiihjjjpfab
