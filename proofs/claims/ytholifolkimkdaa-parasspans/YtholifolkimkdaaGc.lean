/-
  Which paragraph has a byte: what the program's holder (by halving), Span, Find, Over and touched answer.
-/
import Derived.Test.YtholifolkimkdaaGb
namespace Go.Proofs.Ytholifolkimkdaa
open Go.RowKit
set_option linter.unusedSimpArgs false
set_option linter.unusedVariables false

section
variable {w w' : World} {xb : Nat} {ao : Option Addr} {cap : Nat} {P : List Nat} {o : Bool}

set_option maxRecDepth 100000 in
theorem holds1_any (h : IxAt w xb ao cap P o) (at_ : Int) (bS bR k : Nat) (hk : k < P.length) (cS : w.cell? ⟨bS, 0, none⟩ = some (.pointer (some ⟨xb, 0, none⟩))) (cR : w.cell? ⟨bR, 0, none⟩ = some (.int .i64 at_)) :
    Calls Try.prog 41 #[.int .i64 (k : Int), .pointer (some ⟨bS, 0, none⟩), .pointer (some ⟨bR, 0, none⟩)] w fun e w' => e = .returned (.bool (decide (at_ < (Bg P (k + 1) : Nat)))) ∧ Below w.heap.size w w' := by
  obtain ⟨b, rfl, -, c0⟩ := h.pts k (by rw [ens_len]; exact hk)
  rw [ens_get 0 P k hk, Nat.zero_add] at c0
  have d0 := h.c0
  have hm := h.many
  clear h
  generalize Bg P (k + 1) = H at *
  generalize P.length = n at *
  go_enter Try.func41, Try.ntmps41
  go_wp2
  go_quiet (fail)
  go_wp2
  go_ret
  exact ⟨rfl, bel_drewN _ _ _⟩

set_option maxRecDepth 100000 in
set_option maxHeartbeats 1000000 in
theorem search_any (h : IxAt w xb ao cap P o) (r : Int) (bS bR : Nat) (cS : w.cell? ⟨bS, 0, none⟩ = some (.pointer (some ⟨xb, 0, none⟩))) (cR : w.cell? ⟨bR, 0, none⟩ = some (.int .i64 r)) :
    Calls Try.prog 40 #[.int .i64 (P.length : Nat), .func (.func 41) #[] #[.pointer (some ⟨bS, 0, none⟩), .pointer (some ⟨bR, 0, none⟩)]] w fun e w' => ∃ q : Nat, e = .returned (.int .i64 (q : Int)) ∧ q ≤ P.length ∧ (∀ j, j < q → ((Bg P (j + 1) : Nat) : Int) ≤ r) ∧ (∀ j, q ≤ j → j < P.length → r < (Bg P (j + 1) : Nat)) ∧ Below w.heap.size w w' := by
  have HR := boxed h
  have hM : ∀ j k, j ≤ k → ((Bg P (j + 1) : Nat) : Int) ≤ (Bg P (k + 1) : Nat) := fun j k h1 => by have := Bg_mono P (j + 1) (k + 1) (by omega); omega
  have HI := boxed hM
  have CS := boxed cS
  have CR := boxed cR
  have hn := h.many
  clear h hM cS cR
  generalize hN : P.length = n at *
  go_enter Try.func40, Try.ntmps40
  go_wp2_with fail
  go_loopw [5, 6] (fun a b wr => ∃ i j : Nat, i ≤ j ∧ j ≤ n ∧ a = .int .i64 i ∧ b = .int .i64 j ∧ Box ((∀ q, q < i → ((Bg P (q + 1) : Nat) : Int) ≤ r) ∧ ∀ q, j ≤ q → q < n → r < (Bg P (q + 1) : Nat)) ∧ Box (Below w.heap.size w wr)) (fun a b _ => (intOf b - intOf a).toNat)
  case atStart => exact ⟨0, n, by omega, by omega, rfl, rfl, boxed ⟨fun q hq => by omega, fun q h1 h2 => by omega⟩, boxed (Below.refl _ _)⟩
  case round =>
    obtain ⟨i, j, h1, h2, rfl, rfl, HP, HB⟩ := hrel
    by_cases hlt : i < j
    · obtain ⟨m, hm⟩ : ∃ m : Nat, (i + j) / 2 = m := ⟨_, rfl⟩
      have em : ((i : Int) + (j : Int)) / 2 = (m : Int) := by omega
      have m1 : i ≤ m := by omega
      have m2 : m < j := by omega
      clear hm
      have HC := boxed (holds1_any (HR.out.below HB.out) r bS bR m (by omega) (hold HB.out CS.out) (hold HB.out CR.out))
      go_wp2_with fail
      refine HC.out.mono ?_
      rintro e w1 ⟨rfl, hb1⟩
      have HB2 := boxed (below_step HB.out (Nat.le_refl _) hb1)
      clear hb1 HC
      by_cases hf : r < (Bg P (m + 1) : Nat)
      · have tf : decide (r < (Bg P (m + 1) : Nat)) = true := decide_eq_true hf
        have HN : Box ((∀ q, q < i → ((Bg P (q + 1) : Nat) : Int) ≤ r) ∧ ∀ q, m ≤ q → q < n → r < (Bg P (q + 1) : Nat)) := boxed ⟨HP.out.1, fun q hq1 hq2 => by
          have := HI.out m q hq1
          omega⟩
        clear hf
        generalize decide (r < (Bg P (m + 1) : Nat)) = D at *
        go_wp2_with fail
        go_roundw
        case rel => exact ⟨i, m, m1, by omega, rfl, rfl, HN, HB2⟩
        case measure => simp [intOf]; omega
      · have tf : decide (r < (Bg P (m + 1) : Nat)) = false := decide_eq_false hf
        have HN : Box ((∀ q, q < m + 1 → ((Bg P (q + 1) : Nat) : Int) ≤ r) ∧ ∀ q, j ≤ q → q < n → r < (Bg P (q + 1) : Nat)) := boxed ⟨fun q hq => by
          have := HI.out q m (by omega)
          omega, HP.out.2⟩
        clear hf
        generalize decide (r < (Bg P (m + 1) : Nat)) = D at *
        go_wp2_with fail
        go_roundw
        case rel => exact ⟨m + 1, j, by omega, h2, by go_num, rfl, HN, HB2⟩
        case measure => simp [intOf]; omega
    · have e : i = j := by omega
      subst e
      go_wp2_with fail
      go_ret
      exact ⟨i, rfl, h2, HP.out.1, HP.out.2, HB.out⟩

theorem below_two (w : World) (o1 o2 : Obj) : Below w.heap.size w ((w.alloc o1).alloc o2) := ((Below.refl _ w).alloc (Nat.le_refl _) _).alloc (by simp) _
theorem cell1 (w : World) (v : Value) (t : TypeId) (o : Obj) : ((w.alloc (.cells #[v] t)).alloc o).cell? ⟨w.heap.size, 0, none⟩ = some v := by
  have h : (w.alloc (.cells #[v] t)).cell? ⟨w.heap.size, 0, none⟩ = some v := by rw [cell_new _ _ _ _ _ rfl]; rfl
  exact hold ((Below.refl _ _).alloc (Nat.le_refl _) o) h
theorem cell2 (w : World) (v : Value) (t : TypeId) (o : Obj) : ((w.alloc o).alloc (.cells #[v] t)).cell? ⟨w.heap.size + 1, 0, none⟩ = some v := by
  have := cell_new (w.alloc o) (w.alloc o).heap.size #[v] t 0 rfl
  rw [World.size_alloc] at this
  rw [this]; rfl
/-- The paragraph q has the byte a, or all end ahead of it. -/
def Hd (P : List Nat) (a q : Nat) : Prop := (P.sum ≤ a ∧ q = P.length) ∨ (q < P.length ∧ Bg P q ≤ a ∧ a < Bg P (q + 1))
theorem hd_of (P : List Nat) (a q : Nat) (h1 : q ≤ P.length) (h2 : ∀ j, j < q → ((Bg P (j + 1) : Nat) : Int) ≤ (a : Nat)) (h3 : ∀ j, q ≤ j → j < P.length → ((a : Nat) : Int) < (Bg P (j + 1) : Nat)) : Hd P a q := by
  by_cases c : q = P.length
  · left
    refine ⟨?_, c⟩
    by_cases d : q = 0
    · have : P = [] := List.eq_nil_of_length_eq_zero (by omega)
      subst this; simp
    · have := h2 (q - 1) (by omega)
      rw [Nat.sub_add_cancel (by omega), c, Bg_all _ _ (Nat.le_refl _)] at this
      omega
  · right
    have := h3 q (Nat.le_refl _) (by omega)
    refine ⟨by omega, ?_, by omega⟩
    by_cases d : q = 0
    · subst d; rw [Bg_zero]; omega
    · have := h2 (q - 1) (by omega)
      rw [Nat.sub_add_cancel (by omega)] at this
      omega

set_option maxRecDepth 100000 in
set_option maxHeartbeats 1000000 in
theorem holder_any (h : IxAt w xb ao cap P o) (a : Nat) :
    Calls Try.prog 32 #[.pointer (some ⟨xb, 0, none⟩), .int .i64 (a : Nat)] w fun e w' => ∃ q : Nat, e = .returned (.int .i64 (q : Nat)) ∧ q ≤ P.length ∧ Hd P a q ∧ Below w.heap.size w w' := by
  obtain ⟨w2, hw2⟩ : ∃ w2, (w.alloc (.cells #[.pointer (some ⟨xb, 0, none⟩)] 24)).alloc (.cells #[.int .i64 (a : Nat)] 3) = w2 := ⟨_, rfl⟩
  have hb2 : Below w.heap.size w w2 := by rw [← hw2]; exact below_two _ _ _
  have e1 : w2.cell? ⟨w.heap.size, 0, none⟩ = some (.pointer (some ⟨xb, 0, none⟩)) := by rw [← hw2]; exact cell1 _ _ _ _
  have e2 : w2.cell? ⟨w.heap.size + 1, 0, none⟩ = some (.int .i64 (a : Nat)) := by rw [← hw2]; exact cell2 _ _ _ _
  have hS := fun W (hb : Below w2.heap.size w2 W) => search_any ((h.below hb2).below hb) (a : Nat) w.heap.size (w.heap.size + 1) (hold hb e1) (hold hb e2)
  have hC := fun W (hb : Below w2.heap.size w2 W) => ((h.below hb2).below hb).c0
  have hE := fun W (hb : Below w2.heap.size w2 W) => hold hb e1
  have HS := boxed hS
  have HB2 := boxed hb2
  have HC := boxed hC
  have HE := boxed hE
  have HX := boxed (fun q => hd_of P a q)
  have hc := hC _ (Below.refl _ _)
  clear h hS hb2 hC hE e2
  generalize P.length = n at *
  go_enter Try.func32, Try.ntmps32
  go_wp2_with fail
  refine (HS.out _ (Below.refl _ _)).mono ?_
  rintro e w3 ⟨q, rfl, h1, h2, h3, hb⟩
  have HB3 := boxed (below_step HB2.out (Nat.le_refl _) hb)
  have HQ := boxed (HX.out q h1 h2 h3)
  clear HS h2 h3 hb
  go_wp2
  go_ret
  exact ⟨q, rfl, h1, HQ.out, HB3.out⟩

set_option maxRecDepth 100000 in
set_option maxHeartbeats 1000000 in
theorem span_in (h : IxAt w xb ao cap P o) (k : Nat) (hk : k < P.length) : Calls Try.prog 17 #[.pointer (some ⟨xb, 0, none⟩), .int .i64 (k : Nat)] w fun e w' =>
    e = .returned (.tuple #[.int .i64 (Bg P k : Nat), .int .i64 (Bg P (k + 1) : Nat), .bool true]) ∧ Below w.heap.size w w' := by
  obtain ⟨b, rfl, -, d0⟩ := h.pts k (by rw [ens_len]; exact hk)
  rw [ens_get 0 P k hk, Nat.zero_add] at d0
  have c0 := h.c0
  have hct := count_any h
  have hbg := fun W (hb : Below w.heap.size w W) => begin_any (h.below hb) k (by omega)
  have HX : Box (∀ W, Below w.heap.size w W → W.cell? ⟨xb, 0, none⟩ = some (.slice (some ⟨b, 0, none⟩) P.length cap) ∧ W.cell? ⟨b, k, none⟩ = some (.int .i64 (Bg P (k + 1) : Nat))) := boxed (fun W hb => ⟨hold hb c0, hold hb d0⟩)
  have t1 : decide ((P.length : Int) ≤ (k : Int)) = false := decide_eq_false (by omega)
  have t1' : decide (P.length ≤ k) = false := decide_eq_false (by omega)
  have hm := h.many
  have HB0 : Box (Below w.heap.size w w.drew) := boxed (Below.refl _ _).drew
  have HBG := boxed hbg
  clear h hbg c0 d0
  generalize P.length = n at *
  generalize Bg P k = A at *
  generalize Bg P (k + 1) = C at *
  go_enter Try.func17, Try.ntmps17
  go_wp2_with (go_at_call 25; refine hct.mono ?_; rintro e w1' ⟨rfl, hw'⟩; subst w1')
  go_region_held3 (fun W => W.cell? ⟨xb, 0, none⟩ = some (.slice (some ⟨b, 0, none⟩) n cap) ∧ W.cell? ⟨b, k, none⟩ = some (.int .i64 (C : Nat)))
    (first | with_reducible exact HX.out _ HB0.out | with_reducible exact HX.out _ HB5.out)
    (first | (go_at_call 33; refine (HBG.out _ HB0.out).mono ?_; rintro e w5 ⟨rfl, hb5⟩; have HB5 := boxed (below_step HB0.out (Nat.le_refl _) hb5); clear hb5))
  go_wp2
  refine bodyPost_ret (v := .tuple #[.int .i64 (A : Nat), .int .i64 (C : Nat), .bool true]) (by simp [results, Try.results17, go_sem]) rfl ⟨rfl, HB5.out⟩

set_option maxRecDepth 100000 in
set_option maxHeartbeats 1000000 in
theorem span_out (h : IxAt w xb ao cap P o) (k : Int) (hk : k < 0 ∨ (P.length : Int) ≤ k) : Calls Try.prog 17 #[.pointer (some ⟨xb, 0, none⟩), .int .i64 k] w fun e w' =>
    e = .returned (.tuple #[.int .i64 0, .int .i64 0, .bool false]) ∧ Below w.heap.size w w' := by
  have hct := count_any h
  clear h
  by_cases c : k < 0
  · clear hct
    go_enter Try.func17, Try.ntmps17
    go_wp2
    refine bodyPost_ret (v := .tuple #[.int .i64 0, .int .i64 0, .bool false]) (by simp [results, Try.results17, go_sem]) rfl ⟨rfl, Below.refl _ _⟩
  · have t1 : decide ((P.length : Int) ≤ k) = true := decide_eq_true (by omega)
    clear hk
    generalize P.length = n at *
    go_enter Try.func17, Try.ntmps17
    go_wp2_with (go_at_call 25; refine hct.mono ?_; rintro e w1' ⟨rfl, hw'⟩; subst w1')
    refine bodyPost_ret (v := .tuple #[.int .i64 0, .int .i64 0, .bool false]) (by simp [results, Try.results17, go_sem]) rfl ⟨rfl, Below.refl _ _⟩
set_option maxRecDepth 100000 in
set_option maxHeartbeats 1000000 in
theorem find_in (h : IxAt w xb ao cap P o) (k : Nat) (hk : k < P.sum) : Calls Try.prog 16 #[.pointer (some ⟨xb, 0, none⟩), .int .i64 (k : Nat)] w fun e w' =>
    ∃ q : Nat, e = .returned (.tuple #[.int .i64 (q : Nat), .bool true]) ∧ Hd P k q ∧ Below w.heap.size w w' := by
  have hs := size_any h
  have HH := boxed (fun W (hb : Below w.heap.size w W) => holder_any (h.below hb) k)
  have t1 : decide ((P.sum : Int) ≤ (k : Int)) = false := decide_eq_false (by omega)
  have t1' : decide (P.sum ≤ k) = false := decide_eq_false (by omega)
  clear h
  generalize P.sum = n at *
  go_enter Try.func16, Try.ntmps16
  go_wp2_with fail
  refine hs.mono ?_
  rintro e w1 ⟨rfl, hb1⟩
  have HB1 := boxed hb1
  clear hb1 hs
  go_wp2_with fail
  refine (HH.out _ HB1.out).mono ?_
  rintro e w2 ⟨q, rfl, -, hq, hb2⟩
  have HB2 := boxed (below_step HB1.out (Nat.le_refl _) hb2)
  have HQ := boxed hq
  clear hb2 HH hq
  go_wp2
  go_ret2
  exact ⟨q, rfl, HQ.out, HB2.out⟩

set_option maxRecDepth 100000 in
set_option maxHeartbeats 1000000 in
theorem find_out (h : IxAt w xb ao cap P o) (k : Int) (hk : k < 0 ∨ (P.sum : Int) ≤ k) : Calls Try.prog 16 #[.pointer (some ⟨xb, 0, none⟩), .int .i64 k] w fun e w' =>
    e = .returned (.tuple #[.int .i64 0, .bool false]) ∧ Below w.heap.size w w' := by
  have hs := size_any h
  clear h
  by_cases c : k < 0
  · clear hs
    go_enter Try.func16, Try.ntmps16
    go_wp2
    go_ret2
    exact ⟨rfl, Below.refl _ _⟩
  · have t1 : decide ((P.sum : Int) ≤ k) = true := decide_eq_true (by omega)
    clear hk
    generalize P.sum = n at *
    go_enter Try.func16, Try.ntmps16
    go_wp2_with fail
    refine hs.mono ?_
    rintro e w1 ⟨rfl, hb1⟩
    clear hs
    go_wp2
    go_ret2
    exact ⟨rfl, hb1⟩
end
end Go.Proofs.Ytholifolkimkdaa
