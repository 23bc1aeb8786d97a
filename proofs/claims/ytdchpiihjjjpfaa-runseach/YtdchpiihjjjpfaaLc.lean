/-
  Which part has a byte: what the program's holder (by halving), At, Near and Most answer.
-/
import Derived.Test.YtdchpiihjjjpfaaLb
namespace Go.Proofs.Ytdchpiihjjjpfaa
open Go.RowKit
set_option linter.unusedSimpArgs false
set_option linter.unusedVariables false

set_option maxRecDepth 100000 in
theorem holds1_any (S : Nat → Prop) (ao : Option Addr) (n cap : Nat) (A Y : Nat → Int) (at_ : Int) (bS bR k : Nat) (w : World) (hr : P2At S w ao n A Y) (hk : k < n) (cS : w.cell? ⟨bS, 0, none⟩ = some (.slice ao n cap)) (cR : w.cell? ⟨bR, 0, none⟩ = some (.int .i64 at_)) :
    Calls Try.prog 49 #[.int .i64 (k : Int), .pointer (some ⟨bS, 0, none⟩), .pointer (some ⟨bR, 0, none⟩)] w fun e w' => e = .returned (.bool (decide (at_ < A k))) ∧ Below w.heap.size w w' := by
  obtain ⟨-, b, off, rfl, -, c0, -⟩ := hr k hk
  clear hr
  generalize A k = H at *
  go_enter Try.func49, Try.ntmps49
  go_wp2
  go_quiet (fail)
  go_wp2
  go_ret
  exact ⟨rfl, bel_drewN _ _ _⟩

set_option maxRecDepth 100000 in
set_option maxHeartbeats 1000000 in
theorem search_any (S : Nat → Prop) (ao : Option Addr) (n cap : Nat) (A Y : Nat → Int) (r : Int) (bS bR : Nat) (w : World) (hr : P2At S w ao n A Y) (hn : n ≤ 8589934592) (hM : ∀ j k, j ≤ k → k < n → A j ≤ A k) (cS : w.cell? ⟨bS, 0, none⟩ = some (.slice ao n cap)) (cR : w.cell? ⟨bR, 0, none⟩ = some (.int .i64 r)) :
    Calls Try.prog 48 #[.int .i64 (n : Int), .func (.func 49) #[] #[.pointer (some ⟨bS, 0, none⟩), .pointer (some ⟨bR, 0, none⟩)]] w fun e w' => ∃ q : Nat, e = .returned (.int .i64 (q : Int)) ∧ q ≤ n ∧ (∀ j, j < q → A j ≤ r) ∧ (∀ j, q ≤ j → j < n → r < A j) ∧ Below w.heap.size w w' := by
  have HR := boxed hr
  have HI := boxed hM
  have CS := boxed cS
  have CR := boxed cR
  clear hr hM cS cR
  go_enter Try.func48, Try.ntmps48
  go_wp2_with fail
  go_loopw [5, 6] (fun a b wr => ∃ i j : Nat, i ≤ j ∧ j ≤ n ∧ a = .int .i64 i ∧ b = .int .i64 j ∧ Box ((∀ q, q < i → A q ≤ r) ∧ ∀ q, j ≤ q → q < n → r < A q) ∧ Box (Below w.heap.size w wr)) (fun a b _ => (intOf b - intOf a).toNat)
  case atStart => exact ⟨0, n, by omega, by omega, rfl, rfl, boxed ⟨fun q hq => by omega, fun q h1 h2 => by omega⟩, boxed (Below.refl _ _)⟩
  case round =>
    obtain ⟨i, j, h1, h2, rfl, rfl, HP, HB⟩ := hrel
    by_cases hlt : i < j
    · obtain ⟨m, hm⟩ : ∃ m : Nat, (i + j) / 2 = m := ⟨_, rfl⟩
      have em : ((i : Int) + (j : Int)) / 2 = (m : Int) := by omega
      have m1 : i ≤ m := by omega
      have m2 : m < j := by omega
      clear hm
      have HC := boxed (holds1_any S ao n cap A Y r bS bR m wr (HR.out.below HB.out) (by omega) (hold HB.out CS.out) (hold HB.out CR.out))
      go_wp2_with fail
      refine HC.out.mono ?_
      rintro e w1 ⟨rfl, hb1⟩
      have HB2 := boxed (below_step HB.out (Nat.le_refl _) hb1)
      clear hb1 HC
      by_cases hf : r < A m
      · have tf : decide (r < A m) = true := decide_eq_true hf
        have HN : Box ((∀ q, q < i → A q ≤ r) ∧ ∀ q, m ≤ q → q < n → r < A q) := boxed ⟨HP.out.1, fun q hq1 hq2 => by
          have := HI.out m q hq1 hq2
          omega⟩
        clear hf
        generalize decide (r < A m) = D at *
        go_wp2_with fail
        go_roundw
        case rel => exact ⟨i, m, m1, by omega, rfl, rfl, HN, HB2⟩
        case measure => simp [intOf]; omega
      · have tf : decide (r < A m) = false := decide_eq_false hf
        have HN : Box ((∀ q, q < m + 1 → A q ≤ r) ∧ ∀ q, j ≤ q → q < n → r < A q) := boxed ⟨fun q hq => by
          have := HI.out q m (by omega) (by omega)
          omega, HP.out.2⟩
        clear hf
        generalize decide (r < A m) = D at *
        go_wp2_with fail
        go_roundw
        case rel => exact ⟨m + 1, j, by omega, h2, by go_num, rfl, HN, HB2⟩
        case measure => simp [intOf]; omega
    · have e : i = j := by omega
      subst e
      go_wp2_with fail
      go_ret
      exact ⟨i, rfl, h2, HP.out.1, HP.out.2, HB.out⟩

theorem below_two (w : World) (o1 o2 : Obj) : Below w.heap.size w ((w.alloc o1).alloc o2) := ((Below.refl _ w).alloc (Nat.le_refl _) _).alloc (by simp) _
theorem cell1 (w : World) (v : Value) (t : TypeId) (o : Obj) : ((w.alloc (.cells #[v] t)).alloc o).cell? ⟨w.heap.size, 0, none⟩ = some v := by
  have h : (w.alloc (.cells #[v] t)).cell? ⟨w.heap.size, 0, none⟩ = some v := by rw [cell_new _ _ _ _ _ rfl]; rfl
  exact hold ((Below.refl _ _).alloc (Nat.le_refl _) o) h
theorem cell2 (w : World) (v : Value) (t : TypeId) (o : Obj) : ((w.alloc o).alloc (.cells #[v] t)).cell? ⟨w.heap.size + 1, 0, none⟩ = some v := by
  have := cell_new (w.alloc o) (w.alloc o).heap.size #[v] t 0 rfl
  rw [World.size_alloc] at this
  rw [this]; rfl

set_option maxRecDepth 100000 in
set_option maxHeartbeats 1000000 in
theorem holder_any (S : Nat → Prop) (ao : Option Addr) (cap : Nat) (s : List Int) (a : Nat) (w : World) (h : PartsAt S w ao s) (hl : s.length ≤ 8589934592) :
    Calls Try.prog 39 #[.slice ao (enc s).length cap, .int .i64 (a : Nat)] w fun e w' => ∃ q : Nat, e = .returned (.int .i64 (q : Nat)) ∧ ((s.length ≤ a ∧ q = (enc s).length) ∨ (q < (enc s).length ∧ Bg (enc s) q ≤ a ∧ a < Bg (enc s) (q + 1))) ∧ Below w.heap.size w w' := by
  have hle := enc_len s
  have hM : ∀ j k, j ≤ k → k < (enc s).length → ((Bg (enc s) (j + 1) : Nat) : Int) ≤ (Bg (enc s) (k + 1) : Nat) := fun j k h1 _ => by have := Bg_mono _ (can_enc s) (j + 1) (k + 1) (by omega); omega
  have hS := search_any S ao (enc s).length cap _ _ (a : Nat) w.heap.size (w.heap.size + 1) ((w.alloc (.cells #[.slice ao (enc s).length cap] 71)).alloc (.cells #[.int .i64 (a : Nat)] 3)) (h.below (below_two _ _ _)) (by omega) hM (cell1 _ _ _ _) (cell2 _ _ _ _)
  have HX : Box (∀ q : Nat, q ≤ (enc s).length → (∀ j, j < q → ((Bg (enc s) (j + 1) : Nat) : Int) ≤ (a : Nat)) → (∀ j, q ≤ j → j < (enc s).length → ((a : Nat) : Int) < (Bg (enc s) (j + 1) : Nat)) → ((s.length ≤ a ∧ q = (enc s).length) ∨ (q < (enc s).length ∧ Bg (enc s) q ≤ a ∧ a < Bg (enc s) (q + 1)))) := boxed (fun q h1 h2 h3 => by
    by_cases c : q = (enc s).length
    · left
      refine ⟨?_, c⟩
      by_cases d : q = 0
      · have := (enc_nil s).1 (by omega); omega
      · have := h2 (q - 1) (by omega)
        rw [Nat.sub_add_cancel (by omega), c, Bg_all _ _ (Nat.le_refl _), sm_enc] at this
        omega
    · right
      have := h3 q (Nat.le_refl _) (by omega)
      refine ⟨by omega, ?_, by omega⟩
      by_cases d : q = 0
      · subst d; rw [Bg_zero]; omega
      · have := h2 (q - 1) (by omega)
        rw [Nat.sub_add_cancel (by omega)] at this
        omega)
  clear h hM
  generalize (enc s).length = n at *
  go_enter Try.func39, Try.ntmps39
  go_wp2_with fail
  refine hS.mono ?_
  rintro e w1 ⟨q, rfl, h1, h2, h3, hb⟩
  have HB := boxed ((below_two w _ _).trans (hb.mono (by simp; omega)))
  have HQ := boxed (HX.out q h1 h2 h3)
  clear hS h2 h3 hb
  go_wp2
  go_ret
  exact ⟨q, rfl, HQ.out, HB.out⟩

section
variable {w : World} {lb : Nat} {ao : Option Addr} {cap : Nat} {s : List Int} {bare : Int}

theorem ListAt.sty (h : ListAt w lb ao cap s bare) {q a : Nat} (h1 : q < (enc s).length) (h2 : Bg (enc s) q ≤ a) (h3 : a < Bg (enc s) (q + 1)) : Ys (enc s) q = s.getD a 0 := by
  have := get_of (enc s) q a h1 h2 h3
  rw [flat_enc] at this
  simp [List.getD, this]

set_option maxRecDepth 100000 in
set_option maxHeartbeats 2000000 in
theorem at_any (h : ListAt w lb ao cap s bare) (a : Int) : Calls Try.prog 21 #[.pointer (some ⟨lb, 0, none⟩), .int .i64 a] w fun e w' =>
    e = .returned (.tuple #[.int .i64 (if 0 ≤ a ∧ a < s.length then s.getD a.toNat 0 else 0), .bool (decide (0 ≤ a ∧ a < s.length))]) ∧ Below w.heap.size w w' := by
  have hs := fun w' (hb : Below w.heap.size w w') => len_any (h.below hb)
  by_cases c : 0 ≤ a ∧ a < s.length
  · rw [if_pos c, decide_eq_true c]
    obtain ⟨k, rfl⟩ : ∃ k : Nat, a = k := ⟨a.toNat, by omega⟩
    have c3 : k < s.length := by omega
    have hn : 0 < (enc s).length := by have := enc_nil s; omega
    obtain ⟨b, off, rfl, hbl⟩ := h.pts.form hn
    have hc := fun w' (hb : Below w.heap.size w w') => (h.below hb).c0
    have hh := fun w' (hb : Below w.heap.size w w') => (holder_any (· ≠ lb) (some ⟨b, off, none⟩) cap s k w' (h.pts.below hb) (by have := h.len; omega)).mono (R' := fun e w'' => ∃ q : Nat, e = .returned (.int .i64 (q : Nat)) ∧ q < (enc s).length ∧ Box (Ys (enc s) q = s.getD k 0) ∧ Below w'.heap.size w' w'') (by
      rintro e w'' ⟨q, rfl, hq, hb2⟩
      obtain ⟨q1, q2, q3⟩ := hq.resolve_left (by omega)
      exact ⟨q, rfl, q1, boxed (h.sty q1 q2 q3), hb2⟩)
    have hy := fun w' (hb : Below w.heap.size w w') q (hq : q < (enc s).length) => ((h.pts.below hb).get q hq).2
    have hl := h.len
    have hle := enc_len s
    have t1 : decide ((s.length : Int) ≤ (k : Int)) = false := decide_eq_false (by omega)
    have t1' : decide (s.length ≤ k) = false := decide_eq_false (by omega)
    have HG : Box (s.getD ((k : Int).toNat) 0 = s.getD k 0) := boxed (by simp)
    rw [HG.out]
    generalize s.getD k 0 = V at *
    generalize (enc s).length = n at *
    clear h HG c
    generalize Ys (enc s) = Y at *
    go_enter Try.func21, Try.ntmps21
    go_wp2_with fail
    refine (hs _ (Below.refl _ _)).mono ?_
    rintro e w1 ⟨rfl, hb1⟩
    have HB1 := boxed hb1
    clear hb1 hs
    go_wp2_with fail
    have HB0 : Box (Below w.heap.size w w1.drew) := boxed (HB1.out.trans ((Below.refl _ _).drew))
    go_region_held3 (fun w' => w'.cell? ⟨lb, 0, none⟩ = some (.slice (some ⟨b, off, none⟩) n cap) ∧ ∀ q, q < n → w'.cell? ⟨b, off + q * 2 + 1, none⟩ = some (.int .i64 (Y q)))
      (first | with_reducible exact ⟨hc _ HB0.out, hy _ HB0.out⟩ | with_reducible exact ⟨hc _ HB5.out, hy _ HB5.out⟩)
      (first | (go_at_call 39; refine (hh _ HB0.out).mono ?_; rintro e w5 ⟨q, rfl, hq, cq, hb5⟩; have HB5 := boxed (HB0.out.trans (hb5.mono HB0.out.size)); clear hb5 hh))
    go_wp2
    go_ret2
    exact ⟨by rw [cq.out]; rfl, HB5.out⟩
  · rw [if_neg c, decide_eq_false c]
    clear h
    by_cases c1 : a < 0
    · clear hs
      go_enter Try.func21, Try.ntmps21
      go_wp2
      go_ret2
      exact ⟨rfl, Below.refl _ _⟩
    · have t1 : decide ((s.length : Int) ≤ a) = true := decide_eq_true (by omega)
      clear c
      go_enter Try.func21, Try.ntmps21
      go_wp2_with fail
      refine (hs _ (Below.refl _ _)).mono ?_
      rintro e w1 ⟨rfl, hb1⟩
      clear hs
      go_wp2
      go_ret2
      exact ⟨rfl, hb1⟩
end
end Go.Proofs.Ytdchpiihjjjpfaa
