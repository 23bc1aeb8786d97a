/-
  The page's example: awake answers true.
-/
import Derived.Test.YtoodhpgaikmalaaBq
namespace Go.Proofs.Ytoodhpgaikmalaa
open Go.RowKit
set_option linter.unusedSimpArgs false
set_option linter.unusedVariables false

theorem dif_one (a b c x : Key) (h : b ≠ x) : dif [[a, b, c]] [[a, x, c]] = [⟨0, 1, 1, 1, [x]⟩] := by
  simp [dif, dU, dat, reg, pre, bck, oldN, nowL, h]
def T1 (i : Nat) : ByteArray := if i = 0 then ⟨#[97]⟩ else if i = 1 then ⟨#[98]⟩ else ⟨#[99]⟩
def T2 (i : Nat) : ByteArray := if i = 0 then ⟨#[97]⟩ else if i = 1 then ⟨#[120]⟩ else ⟨#[99]⟩
theorem keys_T1 : (pls T1 3).map key = [key (pl T1 0), key (pl T1 1), key (pl T1 2)] := rfl
theorem keys_T2 : (pls T2 3).map key = [key (pl T1 0), key (pl T2 1), key (pl T1 2)] := rfl
theorem keys_ne : key (pl T1 1) ≠ key (pl T2 1) := by
  intro h
  have := congrArg Prod.fst h
  simp [key, pl, T1, T2] at this
theorem text_x (y : Lne) (h : key y = key (pl T2 1)) : (y.tx.toList == [120]) = true := by
  have := congrArg Prod.fst h
  simp only [key] at this
  rw [bytes_inj] at this
  rw [this]
  simp [pl, T2]
theorem pl_ok (w0 : World) (T : Nat → ByteArray) (n : Nat) (hT : ∀ i, (T i).size ≤ 1) : ∀ x ∈ pls T n, LnOk x ∧ P2At (fun _ => True) w0 x.ra x.rn x.L x.Y := by
  intro x hx
  simp only [pls, List.mem_map] at hx
  obtain ⟨i, -, rfl⟩ := hx
  exact ⟨⟨by have := hT i; simp only [pl]; omega, by simp [pl], by simp [pl], fun j hj => by simp [pl] at hj⟩, fun j hj => by simp [pl] at hj⟩
/-- A page of lines with texts, in a row of one page. -/
theorem pages_one {w : World} {B g : Nat} {ao : Option Addr} {cap : Nat} {T : Nat → ByteArray} {n : Nat} (hT : ∀ i, (T i).size ≤ 1) (ho : w.ownsRow B 37 9 (.slice ao n cap) n (lnec (pls T n))) (hc : w.cell? ⟨g, 0, none⟩ = some (.slice ao n cap)) : PsAt (fun _ => True) w (some ⟨g, 0, none⟩) [(pls T n).map key] := by
  intro i ks hi
  have hl := (List.getElem?_eq_some_iff.1 hi).1
  obtain rfl : i = 0 := by simp at hl; omega
  simp at hi
  subst hi
  have hn : (pls T n).length = n := pls_len T n
  have ho2 : w.ownsRow B 37 9 (.slice ao (pls T n).length cap) (pls T n).length (lnec (pls T n)) := by rw [hn]; exact ho
  refine ⟨g, 0, ao, cap, rfl, trivial, by simpa [hn] using hc, by simpa [hn] using sl_own' ho, (own_ls ho2 (fun _ _ _ => trivial) (pl_ok w T n hT)).1⟩
theorem T1_le (i : Nat) : (T1 i).size ≤ 1 := by unfold T1; split <;> (try split) <;> decide
theorem T2_le (i : Nat) : (T2 i).size ≤ 1 := by unfold T2; split <;> (try split) <;> decide
set_option maxRecDepth 100000 in
set_option maxHeartbeats 8000000 in
theorem awake_any (w : World) : Calls Try.prog 7 #[] w fun e w' => e = .returned (.bool true) ∧ Below w.heap.size w w' := by
  have L1 := laid1 w (.cells #[.string ⟨#[97]⟩, .string ⟨#[98]⟩, .string ⟨#[99]⟩] 9)
  obtain ⟨W1, hW1⟩ : ∃ W1, w.alloc (.cells #[.string ⟨#[97]⟩, .string ⟨#[98]⟩, .string ⟨#[99]⟩] 9) = W1 := ⟨_, rfl⟩
  rw [hW1] at L1
  have HW1 := boxed hW1
  have HB1 := boxed L1.2.1
  have HP1 := boxed (lpage_any w.heap.size 3 T1 W1 (fun i hi => by
    rw [cell_of_row _ _ _ _ _ _ L1.1]
    rcases (show i = 0 ∨ i = 1 ∨ i = 2 by omega) with rfl | rfl | rfl <;> rfl) (by omega))
  clear hW1 L1
  go_enter Try.func7, Try.ntmps7
  go_wp2_with fail
  rw [HW1.out]
  refine HP1.out.mono ?_
  rintro e w2 ⟨a2, c2, rfl, ho2, hb2⟩
  have HB2 := boxed (below_step HB1.out (Nat.le_refl _) hb2)
  have HO2 := boxed ho2
  have L3 := laid2 w2 (.cells #[.slice a2 3 c2] 34) (.cells #[.string ⟨#[97]⟩, .string ⟨#[120]⟩, .string ⟨#[99]⟩] 9)
  obtain ⟨W3, hW3⟩ : ∃ W3, (w2.alloc (.cells #[.slice a2 3 c2] 34)).alloc (.cells #[.string ⟨#[97]⟩, .string ⟨#[120]⟩, .string ⟨#[99]⟩] 9) = W3 := ⟨_, rfl⟩
  rw [hW3] at L3
  have HL3 := boxed L3
  have HW3 := boxed hW3
  have HP3 := boxed (lpage_any (w2.heap.size + 1) 3 T2 W3 (fun i hi => by
    rw [cell_of_row _ _ _ _ _ _ L3.2.1]
    rcases (show i = 0 ∨ i = 1 ∨ i = 2 by omega) with rfl | rfl | rfl <;> rfl) (by omega))
  clear hW3 L3 ho2 hb2 HP1
  go_wp2_with fail
  have hsz : (w2.alloc (.cells #[.slice a2 3 c2] 34)).heap.size = w2.heap.size + 1 := by simp
  rw [HW3.out]
  refine HP3.out.mono ?_
  rintro e w4 ⟨a4, c4, rfl, ho4, hb4⟩
  have L5 := laid1 w4 (.cells #[.slice a4 3 c4] 34)
  obtain ⟨W5, hW5⟩ : ∃ W5, w4.alloc (.cells #[.slice a4 3 c4] 34) = W5 := ⟨_, rfl⟩
  rw [hW5] at L5
  have HW5 := boxed hW5
  have hz4 := hb4.size
  have hz3 := HL3.out.2.2.2
  have hb45 := below_step hb4 (Nat.le_refl _) L5.2.1
  have hb25 := below_step HL3.out.2.2.1 (Nat.le_refl _) hb45
  have e2 : W5.heap[w2.heap.size]? = some (.cells #[.slice a2 3 c2] 34 (0, 0)) := (hb45.block _ (by omega)).trans HL3.out.1
  have HF5 := boxed (below_step HB2.out (Nat.le_refl _) hb25)
  have hp2 := pages_one (g := w2.heap.size) T1_le (owns_below HO2.out hb25) (by rw [cell_of_row _ _ _ _ _ _ e2]; rfl)
  have hp4 := pages_one (g := w4.heap.size) T2_le (owns_below ho4 L5.2.1) (by rw [cell_of_row _ _ _ _ _ _ L5.1]; rfl)
  have HDF := boxed (diff_any _ _ _ _ [(pls T1 3).map key] [(pls T2 3).map key] 1 1 W5 hp2 hp4 (by simp) (by simp) (fun i ks h => by
    have hl := (List.getElem?_eq_some_iff.1 h).1
    obtain rfl : i = 0 := by simp at hl; omega
    simp at h; subst h; simp [pls]) (fun i ks h => by
    have hl := (List.getElem?_eq_some_iff.1 h).1
    obtain rfl : i = 0 := by simp at hl; omega
    simp at h; subst h; simp [pls]))
  rw [keys_T1, keys_T2, dif_one _ _ _ _ keys_ne] at HDF
  simp only [List.length_cons, List.length_nil, Nat.zero_add] at HDF
  clear hW5 L5 hz4 hz3 hb45 hb25 e2 hp2 hp4 ho4 hb4 HP3 HB2 HB1
  go_wp2_with fail
  rw [HW5.out]
  refine HDF.out.mono ?_
  rintro e w6 ⟨v, rfl, hrg, hb6⟩
  obtain ⟨co, cc, rfl, -⟩ := hrg.shape
  have hat := hrg.at
  obtain ⟨gb, go, rfl, -, -⟩ := hat.form (by simp)
  obtain ⟨-, la, lc, ⟨r0, r1, r2, r3, r4⟩, hsl, hls⟩ := hat.get 0 _ rfl
  obtain ⟨x, ⟨kx, ex⟩, -, xb, xo, rfl, x0, -⟩ := hls.line 0 (by simp)
  have hk : key x = key (pl T2 1) := by simpa using ex.symm
  have htx := text_x x hk
  have HF6 := boxed (below_step HF5.out (Nat.le_refl _) hb6)
  simp only [List.length_cons, List.length_nil, Nat.zero_add, Nat.zero_mul, Nat.add_zero] at r0 r1 r2 r3 r4 x0 ⊢
  clear hat hrg hb6 HDF hls hsl kx ex hk
  go_wp2_with fail
  go_ret
  exact ⟨rfl, HF6.out⟩
end Go.Proofs.Ytoodhpgaikmalaa
