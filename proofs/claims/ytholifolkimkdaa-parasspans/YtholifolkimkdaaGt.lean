/-
  What the law's is and awake answer.
-/
import Derived.Test.YtholifolkimkdaaGs
namespace Go.Proofs.Ytholifolkimkdaa
open Go.RowKit
set_option linter.unusedSimpArgs false
set_option linter.unusedVariables false

section
variable {w : World} {xb : Nat} {ao : Option Addr} {cap : Nat} {s : ByteArray}

set_option maxRecDepth 100000 in
set_option maxHeartbeats 4000000 in
theorem is_any (h : TxAt w xb ao cap (ln s)) : Calls Try.prog 11 #[.pointer (some ⟨xb, 0, none⟩), .string s] w fun e w' => e = .returned (.bool true) ∧ Below w.heap.size w w' := by
  have hs : s.size ≤ 65536 := by have := h.len; rw [sp_sum, ln_len] at this; exact this
  have hst := starts_any s w (by omega)
  have hct := fun W (hb : Below w.heap.size w W) => count_any (h.below hb)
  have hsz := fun W (hb : Below w.heap.size w W) => size_any (h.below hb)
  have hop := fun W (hb : Below w.heap.size w W) => open_any (h.below hb)
  have hro := fun W => ropen_any s W (by omega)
  have hsp := fun k (hk : k < (sp (ln s)).length) W (hb : Below w.heap.size w W) => span_in (h.below hb) k hk
  rw [sp_sum, ln_len] at hsz
  have hln := sts_len (ln s)
  have hg := fun k (hk : k ≤ (sp (ln s)).length) => sts_get (ln s) k hk
  have hll := sp_len (ln s)
  rw [ln_len] at hll
  have hbg : ∀ k, Bg (sp (ln s)) k ≤ 65536 := fun k => by have := Bg_le (sp (ln s)) k; rw [sp_sum, ln_len] at this; omega
  clear h
  generalize sts (ln s) = SS at *
  generalize Bg (sp (ln s)) = BB at *
  generalize (sp (ln s)).length = NN at *
  generalize op (ln s) = OP at *
  go_enter Try.func11, Try.ntmps11
  go_wp2_with fail
  refine hst.mono ?_
  rintro e w1 ⟨v, rfl, ho, hb1⟩
  rw [hln] at ho
  obtain ⟨g, cg, rfl, -⟩ := own_form ho (by omega)
  have HB1 := boxed hb1
  have HL : Box (∀ W, Below w1.heap.size w1 W → ∀ k, k ≤ NN → W.cell? ⟨g, k, none⟩ = some (.int .i64 (BB k : Nat))) := boxed (fun W hb k hk => by
    have h1 := (owns_below ho hb).cellAt k (by omega)
    rw [ncs_get SS k (by omega), hg k hk] at h1
    exact h1)
  clear ho hb1 hst hg
  have tz : ((NN : Int) == (NN : Int)) = true := by simp
  go_wp2_with (first | (go_at_call 25; refine (hct _ HB1.out).mono ?_; rintro e w1' ⟨rfl, hw'⟩; subst w1'))
  refine (hsz _ HB1.out).mono ?_
  rintro e w2 ⟨rfl, hb2⟩
  have HB2 := boxed (below_step HB1.out (Nat.le_refl _) hb2)
  have HE2 := boxed hb2
  clear hb2 hct hsz
  go_wp2_with (first | (go_at_call 26; refine (hop _ HB2.out).mono ?_; rintro e w1' ⟨rfl, hw'⟩; subst w1') | (go_at_call 15; refine (hro _).mono ?_; rintro e w1' ⟨rfl, hw'⟩; subst w1'))
  clear hop hro tz
  go_loopw [6] (fun iv wr => ∃ k : Nat, k ≤ NN ∧ iv = .int .i64 (k : Nat) ∧ Box (Below w1.heap.size w1 wr)) (fun iv _ => NN - (intOf iv).toNat)
  case atStart => exact ⟨0, Nat.zero_le _, rfl, HE2⟩
  case round =>
    obtain ⟨k, hk, rfl, HEr⟩ := hrel
    by_cases hlt : k < NN
    · have hcall := hsp k hlt wr (HB1.out.trans (HEr.out.mono HB1.out.size))
      have t1 : decide ((k : Int) + 1 < (NN : Int) + 1) = true := decide_eq_true (by omega)
      have hb1' := hbg k
      have hb2' := hbg (k + 1)
      have HK := boxed (HL.out)
      generalize hA : BB k = A at *
      generalize hC : BB (k + 1) = C at *
      go_wp2_with fail
      refine hcall.mono ?_
      rintro e w3 ⟨rfl, hb3⟩
      have HE3 := boxed (below_step HEr.out (Nat.le_refl _) hb3)
      have x1 := HK.out _ HE3.out k (by omega)
      have x2 := HK.out _ HE3.out (k + 1) (by omega)
      rw [hA] at x1
      rw [hC] at x2
      clear hcall hb3 HK hA hC
      go_wp2_with fail
      go_roundw
      case rel => exact ⟨k + 1, by omega, by go_num, HE3⟩
      case measure => simp [intOf]; omega
    · obtain rfl : k = NN := by omega
      have t1 : decide ((k : Int) + 1 < (k : Int) + 1) = false := decide_eq_false (by omega)
      go_wp2
      go_ret
      exact ⟨rfl, HB1.out.trans (HEr.out.mono HB1.out.size)⟩
end

set_option maxRecDepth 100000 in
set_option maxHeartbeats 4000000 in
theorem awake_any (w : World) : Calls Try.prog 9 #[] w fun e w' => e = .returned (.bool true) ∧ Below w.heap.size w w' := by
  have hn := fun W => new_any ⟨#[97, 98, 10, 99, 100]⟩ W (by decide)
  have e1 : sp (ln ⟨#[97, 98, 10, 99, 100]⟩) = [3, 2] := by decide
  have e2 : op (ln ⟨#[97, 98, 10, 99, 100]⟩) = true := by decide
  have hins := fun W xb ao cap (h : TxAt W xb ao cap (ln ⟨#[97, 98, 10, 99, 100]⟩)) => insert_any h 1 ⟨#[120, 10]⟩ (by decide)
  have f1 : insF (ln ⟨#[97, 98, 10, 99, 100]⟩) 1 (ln ⟨#[120, 10]⟩) = 0 := by decide
  have f2 : insO (ln ⟨#[97, 98, 10, 99, 100]⟩) 1 (ln ⟨#[120, 10]⟩) = 1 := by decide
  have f3 : insN (ln ⟨#[97, 98, 10, 99, 100]⟩) 1 (ln ⟨#[120, 10]⟩) = 2 := by decide
  have f4 : insE (ln ⟨#[97, 98, 10, 99, 100]⟩) 1 (ByteArray.mk #[120, 10]).size = 0 := by decide
  have f5 : (sp (insL (ln ⟨#[97, 98, 10, 99, 100]⟩) 1 (ln ⟨#[120, 10]⟩))).length = 3 := by decide
  simp only [f1, f2, f3, f4] at hins
  have heq := eqlItv
  have hgd := guardItv
  have HC1 := boxed (fun W xb ao cap (h : TxAt W xb ao cap (ln ⟨#[97, 98, 10, 99, 100]⟩)) => And.intro (count_any h) (open_any h))
  rw [e1, e2] at HC1
  have HN := boxed hn
  have HI := boxed hins
  clear hn hins
  go_enter Try.func9, Try.ntmps9
  go_wp2_with fail
  refine (HN.out _).mono ?_
  rintro e w1 ⟨xb, ao, cap, rfl, hxb, hx, -, hb1⟩
  obtain ⟨hc1, ho1⟩ := HC1.out _ _ _ _ hx
  have hI1 := HI.out _ _ _ _ hx
  have HB1 := boxed hb1
  clear hb1 HN HC1 HI e1 e2 f1 f2 f3 f4 hx
  go_wp2_with (first | (go_at_call 25; refine hc1.mono ?_; rintro e w1' ⟨rfl, hw'⟩; subst w1') | (go_at_call 26; refine ho1.mono ?_; rintro e w1' ⟨rfl, hw'⟩; subst w1'))
  refine hI1.mono ?_
  rintro e w2 ⟨rfl, hg2, a2, c2, hx2, -⟩
  have hB2 : Below w.heap.size w w2 := HB1.out.trans (grown_below hg2 hxb HB1.out.size)
  have HB2 := boxed hB2
  obtain ⟨w3, hw3⟩ : ∃ w3, w2.alloc (.cells #[.int .i64 0, .int .i64 1, .int .i64 2] 30) = w3 := ⟨_, rfl⟩
  have hb3 : Below w2.heap.size w2 w3 := by rw [← hw3]; exact new_below _ _
  have HI3 : Box (w3.heap[w2.heap.size]? = some (.cells #[.int .i64 0, .int .i64 1, .int .i64 2] 30 (0, 0))) := boxed (by rw [← hw3]; exact heap_alloc_new w2 _)
  have hc3 := fun W (hb : Below w3.heap.size w3 W) => count_any ((hx2.below hb3).below hb)
  rw [f5] at hc3
  have HB3 := boxed (below_step hB2 (Nat.le_refl _) hb3)
  obtain ⟨⟨y0, y1, y2⟩, -⟩ := cells3 HI3.out
  clear hI1 hg2 hx2 hB2 hb3 hc1 ho1 f5
  go_wp2_with fail
  refine (hc3 _ (Below.refl _ _)).mono ?_
  rintro e w4 ⟨rfl, hw'⟩
  subst w4
  go_wp2
  go_ret
  exact ⟨rfl, HB3.out⟩
end Go.Proofs.Ytholifolkimkdaa
