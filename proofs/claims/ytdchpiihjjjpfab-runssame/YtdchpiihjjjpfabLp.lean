/-
  What the document's Insert answers.
-/
import Derived.Test.YtdchpiihjjjpfabLo
namespace Go.Proofs.Ytdchpiihjjjpfab
open Go.RowKit
set_option linter.unusedSimpArgs false
set_option linter.unusedVariables false

theorem far2 {w : World} {a r : Nat} {u0 u1 v0 v1 : Value} (h : r ≠ a) (c0 : w.cell? ⟨a, 0, none⟩ = some v0) (c1 : w.cell? ⟨a, 1, none⟩ = some v1) :
    ((w.setCell ⟨r, 0, none⟩ u0).setCell ⟨r, 1, none⟩ u1).cell? ⟨a, 0, none⟩ = some v0 ∧ ((w.setCell ⟨r, 0, none⟩ u0).setCell ⟨r, 1, none⟩ u1).cell? ⟨a, 1, none⟩ = some v1 := by
  constructor
  · rw [World.cell?_setCell_far _ _ _ _ h, World.cell?_setCell_far _ _ _ _ h]; exact c0
  · rw [World.cell?_setCell_far _ _ _ _ h, World.cell?_setCell_far _ _ _ _ h]; exact c1
section
variable {N : Nat → Prop} {w : World} {b off cap : Nat} {s : List Int} {base : Int}

set_option maxRecDepth 100000 in
set_option maxHeartbeats 2000000 in
theorem rinsert_any (h : RfAt N w b off cap s) (hlb : ∀ k, w.heap.size ≤ k → N k) (hbase : 0 ≤ base ∧ base < 32) (a n : Int) (ha : I64 a) (hn : I64 n) : Calls Try.prog 26 #[.agg #[.slice (some ⟨b, off, none⟩) s.length cap, .int .i64 base], .int .i64 a, .int .i64 n] w fun e w' =>
    ∃ b' off' cap', e = .returned (.tuple #[.agg #[.slice (some ⟨b', off', none⟩) (insS s base a n).length cap', .int .i64 base], .int .i64 (insE s a n)]) ∧ RfAt N w' b' off' cap' (insS s base a n) ∧ Below w.heap.size w w' := by
  have hnr := fun (w' : World) (hb : Below w.heap.size w w') => rnear_any (base := base) (h.below hb) a ha
  have hl := h.len
  have hcp := h.cap
  have HH := boxed h
  obtain ⟨W0, hW0⟩ : ∃ W0, (w.alloc (.cells #[.slice (some ⟨b, off, none⟩) s.length cap, .int .i64 base] 33)).alloc (.cells #[.slice none 0 0, .int .i64 0] 33) = W0 := ⟨_, rfl⟩
  obtain ⟨hA0, hz0, px0, px1, hr0⟩ := boxes w (.slice (some ⟨b, off, none⟩) s.length cap) (.int .i64 base)
  rw [hW0] at hA0 hz0 px0 px1 hr0
  have HA0 := boxed hA0
  have hbl : ∀ i, i < s.length → b ≠ w.heap.size + 1 := fun i hi => by have := World.block_lt_of_cell? w _ (h.cells i hi); simp at this; omega
  unfold insS insE
  by_cases c1 : outb s.length a a = true
  · rw [if_pos c1, if_neg (by omega)]
    rw [c1] at hnr
    have e30 : ofs true = 30 := rfl
    clear h
    go_enter Try.func26, Try.ntmps26
    go_wp2_with fail
    refine (hnr _ HA0.out).mono ?_
    rintro e w1 ⟨rfl, hb1⟩
    obtain ⟨HB1, r1, d0, d1, f0, f1, x0, x1⟩ := after hA0 hz0 px0 px1 hr0 hb1
    clear hb1 hnr
    go_wp2
    have HP := put2_all (v0 := .slice (some ⟨b, off, none⟩) s.length cap) (v1 := .int .i64 base) r1.out
    refine bodyPost_ret (v := .tuple #[.agg #[.slice (some ⟨b, off, none⟩) s.length cap, .int .i64 base], .int .i64 30]) (by simp [results, Try.results26, go_sem, HP.1, HP.2.1]) rfl ?_
    exact ⟨b, off, cap, rfl, (HH.out.below HB1.out).other hbl HP.2.2, HB1.out.trans (grown_below HP.2.2 (by omega) HB1.out.size)⟩
  · rw [if_neg c1]
    have c1' : outb s.length a a = false := by simpa using c1
    obtain ⟨a1, -, a2⟩ := (outb_iff _ _ _).1 c1'
    rw [c1'] at hnr
    have e0 : ofs false = 0 := rfl
    by_cases c2 : n < 0
    · rw [if_pos c2, if_neg (by omega)]
      clear h c1 c1'
      go_enter Try.func26, Try.ntmps26
      go_wp2_with fail
      refine (hnr _ HA0.out).mono ?_
      rintro e w1 ⟨rfl, hb1⟩
      obtain ⟨HB1, r1, d0, d1, f0, f1, x0, x1⟩ := after hA0 hz0 px0 px1 hr0 hb1
      clear hb1 hnr
      go_wp2
      have HP := put2_all (v0 := .slice (some ⟨b, off, none⟩) s.length cap) (v1 := .int .i64 base) r1.out
      refine bodyPost_ret (v := .tuple #[.agg #[.slice (some ⟨b, off, none⟩) s.length cap, .int .i64 base], .int .i64 1]) (by simp [results, Try.results26, go_sem, HP.1, HP.2.1]) rfl ?_
      exact ⟨b, off, cap, rfl, (HH.out.below HB1.out).other hbl HP.2.2, HB1.out.trans (grown_below HP.2.2 (by omega) HB1.out.size)⟩
    · rw [if_neg c2]
      have hw : IntKind.i64.wrap (65536 - (s.length : Int)) = 65536 - (s.length : Int) := by rw [IntKind.wrap_i64]; omega
      by_cases c3 : 65536 - (s.length : Int) < n
      · rw [if_pos c3, if_neg (by omega)]
        clear h c1 c1'
        go_enter Try.func26, Try.ntmps26
        go_wp2_with fail
        refine (hnr _ HA0.out).mono ?_
        rintro e w1 ⟨rfl, hb1⟩
        obtain ⟨HB1, r1, d0, d1, f0, f1, x0, x1⟩ := after hA0 hz0 px0 px1 hr0 hb1
        clear hb1 hnr
        go_wp2
        have HP := put2_all (v0 := .slice (some ⟨b, off, none⟩) s.length cap) (v1 := .int .i64 base) r1.out
        refine bodyPost_ret (v := .tuple #[.agg #[.slice (some ⟨b, off, none⟩) s.length cap, .int .i64 base], .int .i64 31]) (by simp [results, Try.results26, go_sem, HP.1, HP.2.1]) rfl ?_
        exact ⟨b, off, cap, rfl, (HH.out.below HB1.out).other hbl HP.2.2, HB1.out.trans (grown_below HP.2.2 (by omega) HB1.out.size)⟩
      · rw [if_neg c3, if_pos rfl]
        obtain ⟨k, rfl⟩ : ∃ k : Nat, a = k := ⟨a.toNat, by omega⟩
        obtain ⟨m, rfl⟩ : ∃ m : Nat, n = m := ⟨n.toNat, by omega⟩
        have e1 : ((k : Int)).toNat = k := by simp
        have e2 : ((m : Int)).toNat = m := by simp
        rw [e1, e2]
        have hy := nr_ok (a := k) h.ok hbase
        clear h c1 c1' e1 e2
        generalize nr s base k = V at *
        obtain ⟨Q9, hQ9⟩ : ∃ Q9, s.take k ++ List.replicate m V ++ s.drop k = Q9 := ⟨_, rfl⟩
        rw [hQ9]
        have HQ9 := boxed hQ9
        clear hQ9
        go_enter Try.func26, Try.ntmps26
        go_wp2_with fail
        refine (hnr _ HA0.out).mono ?_
        rintro e w1 ⟨rfl, hb1⟩
        obtain ⟨HB1, r1, d0, d1, f0, f1, x0, x1⟩ := after hA0 hz0 px0 px1 hr0 hb1
        clear hb1 hnr
        go_wp2_with fail
        have HX : Box (∀ w', Below w1.heap.size w1 w' → w'.cell? ⟨w.heap.size, 0, none⟩ = some (.slice (some ⟨b, off, none⟩) s.length cap) ∧ w'.cell? ⟨w.heap.size, 1, none⟩ = some (.int .i64 base)) := boxed (fun w' hb => ⟨hold hb x0, hold hb x1⟩)
        have HXS : Box (∀ w' u0 u1, Below w1.heap.size w1 w' → ((w'.setCell ⟨w.heap.size + 1, 0, none⟩ u0).setCell ⟨w.heap.size + 1, 1, none⟩ u1).cell? ⟨w.heap.size, 0, none⟩ = some (.slice (some ⟨b, off, none⟩) s.length cap) ∧ ((w'.setCell ⟨w.heap.size + 1, 0, none⟩ u0).setCell ⟨w.heap.size + 1, 1, none⟩ u1).cell? ⟨w.heap.size, 1, none⟩ = some (.int .i64 base)) := boxed (fun w' u0 u1 hb => far2 (by omega) (HX.out w' hb).1 (HX.out w' hb).2)
        have HD0 : Box (Below w1.heap.size w1 w1.drew) := boxed (Below.refl _ _).drew
        have hmm : m ≤ 65536 := by omega
        have hsl1 := sl_front b off s.length cap k (by omega) hcp
        have hsl2 := sl_back b off s.length cap k (by omega) hcp
        have HTH : Box (∀ (w2 : World) (gm cm : Nat), Below w1.heap.size w1 w2 → w2.ownsRow w1.drew.heap.size 3 1 (.slice (some ⟨gm, 0, none⟩) m cm) m (ints (List.replicate m V)) → Calls Try.prog 36 #[.slice (some ⟨b, off, none⟩) k cap, .slice (some ⟨gm, 0, none⟩) m cm, .slice (some (bkA b off cap k)) (s.length - k) (cap - k)] w2 fun e w3 =>
            ∃ g cg, e = .returned (.slice (some ⟨g, 0, none⟩) Q9.length cg) ∧ Box (∀ w4, w3.grownBy w4 (some (w.heap.size + 1)) → RfAt N w4 g 0 cg Q9) ∧ Below w2.heap.size w2 w3) := boxed (fun w2 gm cm hb2 ho2 => by
          rw [← HQ9.out]
          have hc2 := (HH.out.below (HB1.out.trans (hb2.mono HB1.out.size))).cells
          refine (three_at w2 (s.take k) (List.replicate m V) (s.drop k) k m (s.length - k) (by simp; omega) (by simp) (by simp) ⟨b, off, none⟩ (bkA b off cap k) cap cm (cap - k) (some ⟨gm, 0, none⟩) (front_cells hc2 k (by omega)) (back_cells hc2 k (by omega) hcp) (.inr ⟨_, rfl, row_cells ho2⟩) (by omega)).mono ?_
          rintro e w3 ⟨g, cg, rfl, hown, hb3⟩
          have hg3 := (hown.lt g rfl).1
          have hb2z := hb2.size
          have hb1z := HB1.out.size
          have hr1z := (Array.getElem?_eq_some_iff.1 r1.out).1
          have hrf := own_rf (N := N) hown (fun k hk => hlb k (by omega)) (sok_app (sok_app (fun y hy => HH.out.ok y (List.mem_of_mem_take hy)) (sok_rep hy)) (fun y hy => HH.out.ok y (List.mem_of_mem_drop hy))) (by simp; omega)
          exact ⟨g, cg, rfl, boxed (fun w4 h4 => hrf.other (fun i _ => by omega) h4), hb3⟩)
        have HR1 : Box (∀ w', Below w1.heap.size w1 w' → w'.heap[w.heap.size + 1]? = some (.cells #[.slice none 0 0, .int .i64 0] 33 (0, 0))) := boxed (fun w' hb => by rw [hb.block _ (Array.getElem?_eq_some_iff.1 r1.out).1]; exact r1.out)
        clear x0 x1 d0 d1 f0 f1
        go_region_held3 (fun w' => w'.cell? ⟨w.heap.size, 0, none⟩ = some (.slice (some ⟨b, off, none⟩) s.length cap) ∧ w'.cell? ⟨w.heap.size, 1, none⟩ = some (.int .i64 base))
          (first | with_reducible exact HX.out _ HD0.out | with_reducible exact HX.out _ HD2.out | with_reducible exact HX.out _ HD3.out | with_reducible exact HXS.out _ _ _ HD3.out)
          (first | (go_at_call 25; refine (many_any m V w1.drew hmm).mono ?_; rintro e w2 ⟨gm, cm, rfl, hom, hbm⟩; have HD2 := boxed (HD0.out.trans (hbm.mono HD0.out.size)); have HOM := boxed hom; clear hom hbm) | (go_at_call 36; refine (HTH.out w2 gm cm HD2.out HOM.out).mono ?_; rintro e w3 ⟨g, cg, rfl, HRF, hb3⟩; have HD3 := boxed (HD2.out.trans (hb3.mono HD2.out.size)); clear hb3; obtain ⟨d0, d1, f0, f1⟩ := box_facts (HR1.out _ HD3.out)))
        go_wp2
        have HP := put2_all (v0 := .slice (some ⟨g, 0, none⟩) Q9.length cg) (v1 := .int .i64 base) (HR1.out _ HD3.out)
        refine bodyPost_ret (v := .tuple #[.agg #[.slice (some ⟨g, 0, none⟩) Q9.length cg, .int .i64 base], .int .i64 0]) (by simp [results, Try.results26, go_sem, HP.1, HP.2.1]) rfl ?_
        exact ⟨g, 0, cg, rfl, HRF.out _ HP.2.2, (HB1.out.trans (HD3.out.mono HB1.out.size)).trans (grown_below HP.2.2 (by omega) (HB1.out.trans (HD3.out.mono HB1.out.size)).size)⟩
end
end Go.Proofs.Ytdchpiihjjjpfab
