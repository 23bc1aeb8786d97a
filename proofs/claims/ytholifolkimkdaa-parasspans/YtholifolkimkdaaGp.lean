/-
  What the document's Insert answers.
-/
import Derived.Test.YtholifolkimkdaaGn
import Derived.Test.YtholifolkimkdaaGk
namespace Go.Proofs.Ytholifolkimkdaa
open Go.RowKit
set_option linter.unusedSimpArgs false
set_option linter.unusedVariables false

/-- What the document tells of an edit. -/
def RefP (w : World) (r : ByteArray) (f k n c : Nat) (e : Ending) (w' : World) : Prop :=
  e = .returned (.tuple #[.string r, itv f k n, .int .i64 (c : Nat)]) ∧ Below w.heap.size w w'

theorem ib_set {W : World} {ib : Nat} {x y z : Value} {t : TypeId} (h : W.heap[ib]? = some (.cells #[x, y, z] t (0, 0))) (v : Value) :
    (W.setCell ⟨ib, 0, none⟩ v).heap[ib]? = some (.cells #[v, y, z] t (0, 0)) ∧ (W.setCell ⟨ib, 1, none⟩ v).heap[ib]? = some (.cells #[x, v, z] t (0, 0)) ∧ (W.setCell ⟨ib, 2, none⟩ v).heap[ib]? = some (.cells #[x, y, v] t (0, 0)) := by
  refine ⟨?_, ?_, ?_⟩ <;> simp [World.setCell, Array.getElem?_modify, h]
theorem below_set {B : Nat} {w W : World} (h : Below B w W) (ib i : Nat) (hi : B ≤ ib) (v : Value) : Below B w (W.setCell ⟨ib, i, none⟩ v) := h.setCell hi v

set_option maxRecDepth 100000 in
set_option maxHeartbeats 4000000 in
theorem rinsert_ok (s : ByteArray) (a : Nat) (m : ByteArray) (w : World) (ha : a ≤ s.size) (h0 : m.size ≠ 0) (hsz : s.size + m.size ≤ 65536) :
    Calls Try.prog 30 #[.string s, .int .i64 (a : Nat), .string m] w fun e w' => ∃ r, ln r = (ln s).take a ++ ln m ++ (ln s).drop a ∧ r = s.extract 0 a ++ m ++ s.extract a s.size ∧ RefP w r (fst (ln s) a) (old (ln s) a) (Z2 (ln s) (ln m) a).length 0 e w' := by
  have hE := ne_isEmpty m h0
  have tl : decide ((65536 : Int) - (s.size : Int) < (m.size : Int)) = false := decide_eq_false (by omega)
  have t1 : decide ((a : Int) < 0) = false := decide_eq_false (by omega)
  have t2 : decide ((s.size : Int) < (a : Int)) = false := decide_eq_false (by omega)
  have t2' : decide (s.size < a) = false := decide_eq_false (by omega)
  obtain ⟨w0, hw0⟩ : ∃ w0, w.alloc (.cells #[.int .i64 0, .int .i64 0, .int .i64 0] 30) = w0 := ⟨_, rfl⟩
  have hb0 : Below w.heap.size w w0 := by rw [← hw0]; exact new_below _ _
  have hzs0 : w0.heap.size = w.heap.size + 1 := by rw [← hw0]; exact new_size _ _
  have HN : Box (∀ W, Below w0.heap.size w0 W → W.heap[w.heap.size]? = some (.cells #[.int .i64 0, .int .i64 0, .int .i64 0] 30 (0, 0))) := boxed (fun W hb => by rw [hb.block w.heap.size (by omega), ← hw0]; exact heap_alloc_new w _)
  have HB0 := boxed hb0
  have hmne : ln m ≠ [] := by intro e; have := congrArg List.length e; rw [ln_len] at this; exact h0 this
  have hZl := Z2_len (ln s) (ln m) a (by rw [ln_len]; exact ha) hmne
  obtain ⟨r, hr⟩ : ∃ r, s.extract 0 a ++ m ++ s.extract a s.size = r := ⟨_, rfl⟩
  have hlr : ln r = (ln s).take a ++ ln m ++ (ln s).drop a := by
    rw [← hr, ln_app, ln_app, ln_ext, ln_ext, List.drop_zero, List.take_of_length_le (i := s.size) (by rw [ln_len]; exact Nat.le_refl _)]
  have hrs : r.size = s.size + m.size := by rw [← ln_len r, hlr]; simp [ln_len]; omega
  rw [← hlr] at hZl
  have hcs := fun W => rcount_any s W (by omega)
  have hcr := fun W => rcount_any r W (by omega)
  have hfd := fun W => rfind_any s a W (by omega) ha
  have hop := fun W => ropen_any s W (by omega)
  have hsl := sp_len (ln s)
  have hsr := sp_len (ln r)
  rw [ln_len] at hsl hsr
  have HLR := boxed hlr
  clear hb0 hmne hlr
  have q1 : (s.extract 0 a).size = a := by rw [ByteArray.size_extract]; omega
  have q2 : (s.extract a s.size).size = s.size - a := by rw [ByteArray.size_extract]; omega
  go_enter Try.func30, Try.ntmps30
  go_wp2_with fail
  go_quiet (fail)
  have HD0 : Box (Below w0.heap.size w0 (w0.drewN nq)) := boxed (bel_drewN _ _ _)
  generalize w0.drewN nq = w1 at *
  generalize hNS : (sp (ln s)).length = NS at *
  generalize hNR : (sp (ln r)).length = NR at *
  replace hr := boxed hr
  go_wp2_with fail
  refine (hcs _).mono ?_
  rintro e w2 ⟨rfl, hb2⟩
  have HD2 := boxed (below_step HD0.out (Nat.le_refl _) hb2)
  clear hb2 HD0
  obtain ⟨w3, hw3⟩ : ∃ w3, w2.alloc (.cells #[.int .i64 (NS : Nat), .int .i64 0, .int .i64 0] 30) = w3 := ⟨_, rfl⟩
  have hb3 : Below w2.heap.size w2 w3 := by rw [← hw3]; exact new_below _ _
  have hz3 : w3.heap.size = w2.heap.size + 1 := by rw [← hw3]; exact new_size _ _
  have HD3 := boxed (below_step HD2.out (Nat.le_refl _) hb3)
  have HI3 : Box (w3.heap[w2.heap.size]? = some (.cells #[.int .i64 (NS : Nat), .int .i64 0, .int .i64 0] 30 (0, 0))) := boxed (by rw [← hw3]; exact heap_alloc_new w2 _)
  have hs2 := HD2.out.size
  clear hb3
  by_cases c : a < s.size
  · have hF : fst (ln s) a = fnd (ln s) a := by unfold fst; rw [if_pos (by rw [ln_len]; exact c)]
    have hO : old (ln s) a = 1 := by unfold old; rw [if_pos (by rw [ln_len]; exact c)]
    rw [hO] at hZl
    have HFO := boxed (And.intro hF hO)
    clear hF hO
    have tc : decide ((a : Int) < (s.size : Int)) = true := decide_eq_true (by omega)
    have tc' : decide (a < s.size) = true := decide_eq_true c
    obtain ⟨⟨y0, y1, y2⟩, g0, g1, g2⟩ := cells3 HI3.out
    clear hop
    go_wp2_with fail
    have h4a := (ib_set (ib_set (ib_set HI3.out (.int .i64 0)).2.1 (.int .i64 0)).2.2 (.int .i64 1)).2.1
    have h4b := below_set (below_set (below_set HD3.out w2.heap.size 1 hs2 (.int .i64 0)) w2.heap.size 2 hs2 (.int .i64 0)) w2.heap.size 1 hs2 (.int .i64 1)
    obtain ⟨w4, hw4⟩ : ∃ w4, ((w3.setCell ⟨w2.heap.size, 1, none⟩ (.int .i64 0)).setCell ⟨w2.heap.size, 2, none⟩ (.int .i64 0)).setCell ⟨w2.heap.size, 1, none⟩ (.int .i64 1) = w4 := ⟨_, rfl⟩
    rw [hw4] at h4a h4b ⊢
    refine (hcs _).mono ?_
    rintro e w5 ⟨rfl, hb5⟩
    have HD5 := boxed (below_step h4b (Nat.le_refl _) hb5)
    have HI5 : Box (w5.heap[w2.heap.size]? = some (.cells #[.int .i64 (NS : Nat), .int .i64 1, .int .i64 0] 30 (0, 0))) := boxed (by rw [hb5.block _ (Array.getElem?_eq_some_iff.1 h4a).1]; exact h4a)
    clear h4a h4b hw4 hb5 y0 y1 y2 g0 g1 g2 HI3 HD3
    obtain ⟨⟨y0, y1, y2⟩, g0, g1, g2⟩ := cells3 HI5.out
    generalize hFN : fnd (ln s) a = FN at *
    clear hFN
    go_wp2_with (go_at_call 19; refine (hfd _).mono ?_; rintro e w5' ⟨rfl, hw'⟩; subst w5')
    have h6a := (ib_set (ib_set HI5.out (.int .i64 ((NS : Int) - 1))).1 (.int .i64 (FN : Nat))).1
    have h6b := below_set (below_set HD5.out w2.heap.size 0 hs2 (.int .i64 ((NS : Int) - 1))) w2.heap.size 0 hs2 (.int .i64 (FN : Nat))
    obtain ⟨w6, hw6⟩ : ∃ w6, (w5.setCell ⟨w2.heap.size, 0, none⟩ (.int .i64 ((NS : Int) - 1))).setCell ⟨w2.heap.size, 0, none⟩ (.int .i64 (FN : Nat)) = w6 := ⟨_, rfl⟩
    rw [hw6] at h6a h6b ⊢
    have HI6 := boxed h6a
    have HD6 := boxed h6b
    clear h6a h6b hw6 HI5 HD5 y0 y1 y2 g0 g1 g2
    obtain ⟨⟨y0, y1, y2⟩, g0, g1, g2⟩ := cells3 HI6.out
    have HD6d : Box (Below w0.heap.size w0 w6.drew) := boxed HD6.out.drew
    have hsz6 : w2.heap.size < w6.heap.size := (Array.getElem?_eq_some_iff.1 HI6.out).1
    have HE6 : Box (∀ W, Below w6.heap.size w6 W → W.heap[w2.heap.size]? = some (.cells #[.int .i64 (FN : Nat), .int .i64 (1 : Int), .int .i64 0] 30 (0, 0))) := boxed (fun W hb => by rw [hb.block _ hsz6]; exact HI6.out)
    have HC6 : Box (∀ W, Below w6.heap.size w6 W → W.cell? ⟨w2.heap.size, 1, none⟩ = some (.int .i64 (1 : Int))) := boxed (fun W hb => (cells3 (HE6.out W hb)).1.2.1)
    have HE6d : Box (Below w6.heap.size w6 w6.drew) := boxed (Below.refl _ _).drew
    obtain ⟨NZ, hNZ⟩ : ∃ NZ, (Z2 (ln s) (ln m) a).length = NZ := ⟨_, rfl⟩
    rw [hNZ] at hZl
    obtain ⟨D, hD⟩ : ∃ D : Int, (NZ : Int) - (1 : Int) = D := ⟨_, rfl⟩
    have hw1 : IntKind.i64.wrap ((NR : Int) - (NS : Int)) = D := by rw [IntKind.wrap_i64]; omega
    have hw2 : IntKind.i64.wrap (D + (1 : Int)) = (NZ : Nat) := by rw [IntKind.wrap_i64]; omega
    clear hD
    have HNZ := boxed hNZ
    have HSET : Box (∀ W, Below w6.heap.size w6 W → (W.setCell ⟨w2.heap.size, 2, none⟩ (.int .i64 (NZ : Nat))).cell? ⟨w2.heap.size, 1, none⟩ = some (.int .i64 (1 : Int))) := boxed (fun W hb => (cells3 (ib_set (HE6.out W hb) (.int .i64 (NZ : Nat))).2.2).1.2.1)
    clear y0 y1 y2 g0 g1 g2 hNZ
    go_region_held3 (fun W => W.cell? ⟨w2.heap.size, 1, none⟩ = some (.int .i64 (1 : Int)))
      (first | with_reducible exact HC6.out _ HE6d.out | with_reducible exact HC6.out _ HE7.out | with_reducible exact HC6.out _ HE8.out | with_reducible exact HSET.out _ HE8.out)
      (first
        | (go_at_call_of 18 (Value.string r); refine (hcr _).mono ?_; rintro e w7 ⟨rfl, hb7⟩; have HE7 := boxed (below_step HE6d.out (Nat.le_refl _) hb7); clear hb7)
        | (go_at_call_of 18 (Value.string s); refine (hcs _).mono ?_; rintro e w8 ⟨rfl, hb8⟩; have HE8 := boxed (below_step HE7.out (Nat.le_refl _) hb8); obtain ⟨⟨y0, y1, y2⟩, g0, g1, g2⟩ := cells3 (HE6.out _ HE8.out); clear hb8))
    have h9a := (ib_set (HE6.out _ HE8.out) (.int .i64 (NZ : Nat))).2.2
    have h9b := below_set (HD6.out.trans (HE8.out.mono HD6.out.size)) w2.heap.size 2 hs2 (.int .i64 (NZ : Nat))
    obtain ⟨w9, hw9⟩ : ∃ w9, w8.setCell ⟨w2.heap.size, 2, none⟩ (.int .i64 (NZ : Nat)) = w9 := ⟨_, rfl⟩
    rw [hw9] at h9a h9b ⊢
    have HD9 := boxed h9b
    obtain ⟨⟨x0, x1, x2⟩, -⟩ := cells3 h9a
    obtain ⟨⟨d0, d1, d2⟩, e0, e1, e2⟩ := cells3 (HN.out _ HD9.out)
    have HT := put3_all (HN.out _ HD9.out) (.int .i64 (FN : Nat)) (.int .i64 (1 : Int)) (.int .i64 (NZ : Nat))
    have HB9 := boxed (HB0.out.trans (HD9.out.mono (by omega)))
    have HFB := boxed (HB9.out.trans (grown_below HT.2.1 (Nat.le_refl _) HB9.out.size))
    obtain ⟨⟨j0, j1, j2⟩, -, -⟩ := HT
    have HR := boxed (And.intro j0 (And.intro j1 j2))
    clear h9a h9b hw9 y0 y1 y2 g0 g1 g2 j0 j1 j2 hcr hcs hw1 hw2
    go_wp2_with fail
    go_region
    go_wp2
    refine bodyPost_ret (v := .tuple #[.string r, .agg #[.int .i64 (FN : Nat), .int .i64 (1 : Int), .int .i64 (NZ : Nat)], .int .i64 0]) (by simp [results, Try.results30, go_sem, HR.out.1, HR.out.2.1, HR.out.2.2]) rfl ?_
    exact ⟨r, HLR.out, hr.out.symm, by rw [HFO.out.1, HFO.out.2, HNZ.out]; rfl, HFB.out.drew⟩
  · obtain rfl : a = s.size := by omega
    have hF0 : fst (ln s) s.size = NS - (op (ln s)).toNat := by unfold fst; rw [if_neg (by rw [ln_len]; omega), hNS]
    have hO0 : old (ln s) s.size = (op (ln s)).toNat := by unfold old; rw [if_neg (by rw [ln_len]; omega)]
    have hop1 : op (ln s) = true → 0 < NS := fun e => by have := op_pos _ e; have := sp_nil (ln s); omega
    have tc : decide ((s.size : Int) < (s.size : Int)) = false := decide_eq_false (by omega)
    have tc' : decide (s.size < s.size) = false := decide_eq_false (by omega)
    obtain ⟨⟨y0, y1, y2⟩, g0, g1, g2⟩ := cells3 HI3.out
    have h3a := (ib_set (ib_set HI3.out (.int .i64 0)).2.1 (.int .i64 0)).2.2
    have h3b := below_set (below_set HD3.out w2.heap.size 1 hs2 (.int .i64 0)) w2.heap.size 2 hs2 (.int .i64 0)
    clear hfd
    generalize op (ln s) = os at *
    cases os with
    | true =>
      obtain ⟨N1, hN1⟩ : ∃ N1, NS = N1 + 1 := ⟨NS - 1, by have := hop1 rfl; omega⟩
      have HFO : Box (fst (ln s) s.size = N1 ∧ old (ln s) s.size = 1) := boxed ⟨by rw [hF0, hN1]; rfl, hO0⟩
      have eN1 : (NS : Int) - 1 = (N1 : Nat) := by omega
      rw [hO0] at hZl
      replace hN1 := boxed hN1
      clear hF0 hO0 hop1
      have hZl' : NR + 1 = NS + (Z2 (ln s) (ln m) s.size).length := hZl
      clear hZl
      have hZl := hZl'
      have h4a := (ib_set h3a (.int .i64 1)).2.1
      have h4b := below_set h3b w2.heap.size 1 hs2 (.int .i64 1)
      go_wp2_with (go_at_call 15; refine (hop _).mono ?_; rintro e w5' ⟨rfl, hw'⟩; subst w5')
      obtain ⟨w4, hw4⟩ : ∃ w4, ((w3.setCell ⟨w2.heap.size, 1, none⟩ (.int .i64 0)).setCell ⟨w2.heap.size, 2, none⟩ (.int .i64 0)).setCell ⟨w2.heap.size, 1, none⟩ (.int .i64 1) = w4 := ⟨_, rfl⟩
      rw [hw4] at h4a h4b ⊢
      refine (hcs _).mono ?_
      rintro e w5 ⟨rfl, hb5⟩
      have HD5 := boxed (below_step h4b (Nat.le_refl _) hb5)
      have HI5 : Box (w5.heap[w2.heap.size]? = some (.cells #[.int .i64 (NS : Nat), .int .i64 1, .int .i64 0] 30 (0, 0))) := boxed (by rw [hb5.block _ (Array.getElem?_eq_some_iff.1 h4a).1]; exact h4a)
      clear h4a h4b hw4 hb5 y0 y1 y2 g0 g1 g2 HI3 HD3 h3a h3b
      obtain ⟨⟨y0, y1, y2⟩, g0, g1, g2⟩ := cells3 HI5.out
      go_wp2_with fail
      have h6a := (ib_set HI5.out (.int .i64 (N1 : Nat))).1
      have h6b := below_set HD5.out w2.heap.size 0 hs2 (.int .i64 (N1 : Nat))
      obtain ⟨w6, hw6⟩ : ∃ w6, w5.setCell ⟨w2.heap.size, 0, none⟩ (.int .i64 (N1 : Nat)) = w6 := ⟨_, rfl⟩
      rw [hw6] at h6a h6b ⊢
      have HI6 := boxed h6a
      have HD6 := boxed h6b
      clear h6a h6b hw6 HI5 HD5 y0 y1 y2 g0 g1 g2
      obtain ⟨⟨y0, y1, y2⟩, g0, g1, g2⟩ := cells3 HI6.out
      have HD6d : Box (Below w0.heap.size w0 w6.drew) := boxed HD6.out.drew
      have hsz6 : w2.heap.size < w6.heap.size := (Array.getElem?_eq_some_iff.1 HI6.out).1
      have HE6 : Box (∀ W, Below w6.heap.size w6 W → W.heap[w2.heap.size]? = some (.cells #[.int .i64 (N1 : Nat), .int .i64 (1 : Int), .int .i64 0] 30 (0, 0))) := boxed (fun W hb => by rw [hb.block _ hsz6]; exact HI6.out)
      have HC6 : Box (∀ W, Below w6.heap.size w6 W → W.cell? ⟨w2.heap.size, 1, none⟩ = some (.int .i64 (1 : Int))) := boxed (fun W hb => (cells3 (HE6.out W hb)).1.2.1)
      have HE6d : Box (Below w6.heap.size w6 w6.drew) := boxed (Below.refl _ _).drew
      obtain ⟨NZ, hNZ⟩ : ∃ NZ, (Z2 (ln s) (ln m) s.size).length = NZ := ⟨_, rfl⟩
      rw [hNZ] at hZl
      obtain ⟨D, hD⟩ : ∃ D : Int, (NZ : Int) - (1 : Int) = D := ⟨_, rfl⟩
      have hw1 : IntKind.i64.wrap ((NR : Int) - (NS : Int)) = D := by rw [IntKind.wrap_i64]; omega
      have hw2 : IntKind.i64.wrap (D + (1 : Int)) = (NZ : Nat) := by rw [IntKind.wrap_i64]; omega
      clear hD
      have HNZ := boxed hNZ
      have HSET : Box (∀ W, Below w6.heap.size w6 W → (W.setCell ⟨w2.heap.size, 2, none⟩ (.int .i64 (NZ : Nat))).cell? ⟨w2.heap.size, 1, none⟩ = some (.int .i64 (1 : Int))) := boxed (fun W hb => (cells3 (ib_set (HE6.out W hb) (.int .i64 (NZ : Nat))).2.2).1.2.1)
      clear y0 y1 y2 g0 g1 g2 hNZ
      go_region_held3 (fun W => W.cell? ⟨w2.heap.size, 1, none⟩ = some (.int .i64 (1 : Int)))
        (first | with_reducible exact HC6.out _ HE6d.out | with_reducible exact HC6.out _ HE7.out | with_reducible exact HC6.out _ HE8.out | with_reducible exact HSET.out _ HE8.out)
        (first
          | (go_at_call_of 18 (Value.string r); refine (hcr _).mono ?_; rintro e w7 ⟨rfl, hb7⟩; have HE7 := boxed (below_step HE6d.out (Nat.le_refl _) hb7); clear hb7)
          | (go_at_call_of 18 (Value.string s); refine (hcs _).mono ?_; rintro e w8 ⟨rfl, hb8⟩; have HE8 := boxed (below_step HE7.out (Nat.le_refl _) hb8); obtain ⟨⟨y0, y1, y2⟩, g0, g1, g2⟩ := cells3 (HE6.out _ HE8.out); clear hb8))
      have h9a := (ib_set (HE6.out _ HE8.out) (.int .i64 (NZ : Nat))).2.2
      have h9b := below_set (HD6.out.trans (HE8.out.mono HD6.out.size)) w2.heap.size 2 hs2 (.int .i64 (NZ : Nat))
      obtain ⟨w9, hw9⟩ : ∃ w9, w8.setCell ⟨w2.heap.size, 2, none⟩ (.int .i64 (NZ : Nat)) = w9 := ⟨_, rfl⟩
      rw [hw9] at h9a h9b ⊢
      have HD9 := boxed h9b
      obtain ⟨⟨x0, x1, x2⟩, -⟩ := cells3 h9a
      obtain ⟨⟨d0, d1, d2⟩, e0, e1, e2⟩ := cells3 (HN.out _ HD9.out)
      have HT := put3_all (HN.out _ HD9.out) (.int .i64 (N1 : Nat)) (.int .i64 (1 : Int)) (.int .i64 (NZ : Nat))
      have HB9 := boxed (HB0.out.trans (HD9.out.mono (by omega)))
      have HFB := boxed (HB9.out.trans (grown_below HT.2.1 (Nat.le_refl _) HB9.out.size))
      obtain ⟨⟨j0, j1, j2⟩, -, -⟩ := HT
      have HR := boxed (And.intro j0 (And.intro j1 j2))
      clear h9a h9b hw9 y0 y1 y2 g0 g1 g2 j0 j1 j2 hcr hcs hw1 hw2
      go_wp2_with fail
      go_region
      go_wp2
      refine bodyPost_ret (v := .tuple #[.string r, .agg #[.int .i64 (N1 : Nat), .int .i64 (1 : Int), .int .i64 (NZ : Nat)], .int .i64 0]) (by simp [results, Try.results30, go_sem, HR.out.1, HR.out.2.1, HR.out.2.2]) rfl ?_
      exact ⟨r, HLR.out, hr.out.symm, by rw [HFO.out.1, HFO.out.2, HNZ.out]; rfl, HFB.out.drew⟩
    | false =>
      have HFO : Box (fst (ln s) s.size = NS ∧ old (ln s) s.size = 0) := boxed ⟨by rw [hF0]; rfl, hO0⟩
      rw [hO0] at hZl
      clear hF0 hO0 hop1
      have hZl' : NR + 0 = NS + (Z2 (ln s) (ln m) s.size).length := hZl
      clear hZl
      have hZl := hZl'
      go_wp2_with (go_at_call 15; refine (hop _).mono ?_; rintro e w5' ⟨rfl, hw'⟩; subst w5')
      obtain ⟨w6, hw6⟩ : ∃ w6, (w3.setCell ⟨w2.heap.size, 1, none⟩ (.int .i64 0)).setCell ⟨w2.heap.size, 2, none⟩ (.int .i64 0) = w6 := ⟨_, rfl⟩
      rw [hw6] at h3a h3b ⊢
      have HI6 := boxed h3a
      have HD6 := boxed h3b
      clear h3a h3b hw6 HI3 HD3 y0 y1 y2 g0 g1 g2
      obtain ⟨⟨y0, y1, y2⟩, g0, g1, g2⟩ := cells3 HI6.out
      have HD6d : Box (Below w0.heap.size w0 w6.drew) := boxed HD6.out.drew
      have hsz6 : w2.heap.size < w6.heap.size := (Array.getElem?_eq_some_iff.1 HI6.out).1
      have HE6 : Box (∀ W, Below w6.heap.size w6 W → W.heap[w2.heap.size]? = some (.cells #[.int .i64 (NS : Nat), .int .i64 (0 : Int), .int .i64 0] 30 (0, 0))) := boxed (fun W hb => by rw [hb.block _ hsz6]; exact HI6.out)
      have HC6 : Box (∀ W, Below w6.heap.size w6 W → W.cell? ⟨w2.heap.size, 1, none⟩ = some (.int .i64 (0 : Int))) := boxed (fun W hb => (cells3 (HE6.out W hb)).1.2.1)
      have HE6d : Box (Below w6.heap.size w6 w6.drew) := boxed (Below.refl _ _).drew
      obtain ⟨NZ, hNZ⟩ : ∃ NZ, (Z2 (ln s) (ln m) s.size).length = NZ := ⟨_, rfl⟩
      rw [hNZ] at hZl
      obtain ⟨D, hD⟩ : ∃ D : Int, (NZ : Int) - (0 : Int) = D := ⟨_, rfl⟩
      have hw1 : IntKind.i64.wrap ((NR : Int) - (NS : Int)) = D := by rw [IntKind.wrap_i64]; omega
      have hw2 : IntKind.i64.wrap D = (NZ : Nat) := by rw [IntKind.wrap_i64]; omega
      clear hD
      have HNZ := boxed hNZ
      have HSET : Box (∀ W, Below w6.heap.size w6 W → (W.setCell ⟨w2.heap.size, 2, none⟩ (.int .i64 (NZ : Nat))).cell? ⟨w2.heap.size, 1, none⟩ = some (.int .i64 (0 : Int))) := boxed (fun W hb => (cells3 (ib_set (HE6.out W hb) (.int .i64 (NZ : Nat))).2.2).1.2.1)
      clear y0 y1 y2 g0 g1 g2 hNZ
      go_region_held3 (fun W => W.cell? ⟨w2.heap.size, 1, none⟩ = some (.int .i64 (0 : Int)))
        (first | with_reducible exact HC6.out _ HE6d.out | with_reducible exact HC6.out _ HE7.out | with_reducible exact HC6.out _ HE8.out | with_reducible exact HSET.out _ HE8.out)
        (first
          | (go_at_call_of 18 (Value.string r); refine (hcr _).mono ?_; rintro e w7 ⟨rfl, hb7⟩; have HE7 := boxed (below_step HE6d.out (Nat.le_refl _) hb7); clear hb7)
          | (go_at_call_of 18 (Value.string s); refine (hcs _).mono ?_; rintro e w8 ⟨rfl, hb8⟩; have HE8 := boxed (below_step HE7.out (Nat.le_refl _) hb8); obtain ⟨⟨y0, y1, y2⟩, g0, g1, g2⟩ := cells3 (HE6.out _ HE8.out); clear hb8))
      have h9a := (ib_set (HE6.out _ HE8.out) (.int .i64 (NZ : Nat))).2.2
      have h9b := below_set (HD6.out.trans (HE8.out.mono HD6.out.size)) w2.heap.size 2 hs2 (.int .i64 (NZ : Nat))
      obtain ⟨w9, hw9⟩ : ∃ w9, w8.setCell ⟨w2.heap.size, 2, none⟩ (.int .i64 (NZ : Nat)) = w9 := ⟨_, rfl⟩
      rw [hw9] at h9a h9b ⊢
      have HD9 := boxed h9b
      obtain ⟨⟨x0, x1, x2⟩, -⟩ := cells3 h9a
      obtain ⟨⟨d0, d1, d2⟩, e0, e1, e2⟩ := cells3 (HN.out _ HD9.out)
      have HT := put3_all (HN.out _ HD9.out) (.int .i64 (NS : Nat)) (.int .i64 (0 : Int)) (.int .i64 (NZ : Nat))
      have HB9 := boxed (HB0.out.trans (HD9.out.mono (by omega)))
      have HFB := boxed (HB9.out.trans (grown_below HT.2.1 (Nat.le_refl _) HB9.out.size))
      obtain ⟨⟨j0, j1, j2⟩, -, -⟩ := HT
      have HR := boxed (And.intro j0 (And.intro j1 j2))
      clear h9a h9b hw9 y0 y1 y2 g0 g1 g2 j0 j1 j2 hcr hcs hw1 hw2
      go_wp2_with fail
      go_region
      go_wp2
      refine bodyPost_ret (v := .tuple #[.string r, .agg #[.int .i64 (NS : Nat), .int .i64 (0 : Int), .int .i64 (NZ : Nat)], .int .i64 0]) (by simp [results, Try.results30, go_sem, HR.out.1, HR.out.2.1, HR.out.2.2]) rfl ?_
      exact ⟨r, HLR.out, hr.out.symm, by rw [HFO.out.1, HFO.out.2, HNZ.out]; rfl, HFB.out.drew⟩
end Go.Proofs.Ytholifolkimkdaa
