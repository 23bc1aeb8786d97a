/-
  What the document's Delete answers.
-/
import Derived.Test.YtdchpiihjjjpfabLp
namespace Go.Proofs.Ytdchpiihjjjpfab
open Go.RowKit
set_option linter.unusedSimpArgs false
set_option linter.unusedVariables false

section
variable {N : Nat → Prop} {w : World} {b off cap : Nat} {s : List Int} {base : Int}

set_option maxRecDepth 100000 in
set_option maxHeartbeats 2000000 in
theorem rdelete_any (h : RfAt N w b off cap s) (hlb : ∀ k, w.heap.size ≤ k → N k) (x y : Int) (hx : I64 x) (hy : I64 y) : Calls Try.prog 28 #[.agg #[.slice (some ⟨b, off, none⟩) s.length cap, .int .i64 base], .int .i64 x, .int .i64 y] w fun e w' =>
    ∃ b' off' cap', e = .returned (.tuple #[.agg #[.slice (some ⟨b', off', none⟩) (delS s x y).length cap', .int .i64 (delB s base x y)], .int .i64 (ofs (outb s.length x y))]) ∧ RfAt N w' b' off' cap' (delS s x y) ∧ Below w.heap.size w w' := by
  have hsp := fun (w' : World) (hb : Below w.heap.size w w') => span_any (base := base) (h.below hb) x y
  have hl := h.len
  have hcp := h.cap
  have HH := boxed h
  obtain ⟨W0, hW0⟩ : ∃ W0, (w.alloc (.cells #[.slice (some ⟨b, off, none⟩) s.length cap, .int .i64 base] 33)).alloc (.cells #[.slice none 0 0, .int .i64 0] 33) = W0 := ⟨_, rfl⟩
  obtain ⟨hA0, hz0, px0, px1, hr0⟩ := boxes w (.slice (some ⟨b, off, none⟩) s.length cap) (.int .i64 base)
  rw [hW0] at hA0 hz0 px0 px1 hr0
  have HA0 := boxed hA0
  have hbl : ∀ i, i < s.length → b ≠ w.heap.size + 1 := fun i hi => by have := World.block_lt_of_cell? w _ (h.cells i hi); simp at this; omega
  unfold delS delB
  by_cases c1 : outb s.length x y = true
  · rw [if_pos c1, if_pos c1, c1]
    rw [c1] at hsp
    have e30 : ofs true = 30 := rfl
    clear h c1
    go_enter Try.func28, Try.ntmps28
    go_wp2_with fail
    refine (hsp _ HA0.out).mono ?_
    rintro e w1 ⟨rfl, hb1⟩
    obtain ⟨HB1, r1, d0, d1, f0, f1, x0, x1⟩ := after hA0 hz0 px0 px1 hr0 hb1
    clear hb1 hsp
    go_wp2
    have HP := put2_all (v0 := .slice (some ⟨b, off, none⟩) s.length cap) (v1 := .int .i64 base) r1.out
    refine bodyPost_ret (v := .tuple #[.agg #[.slice (some ⟨b, off, none⟩) s.length cap, .int .i64 base], .int .i64 30]) (by simp [results, Try.results28, go_sem, HP.1, HP.2.1]) rfl ?_
    exact ⟨b, off, cap, rfl, (HH.out.below HB1.out).other hbl HP.2.2, HB1.out.trans (grown_below HP.2.2 (by omega) HB1.out.size)⟩
  · rw [if_neg c1, if_neg c1]
    have c1' : outb s.length x y = false := by simpa using c1
    obtain ⟨a1, a3, a2⟩ := (outb_iff _ _ _).1 c1'
    rw [c1'] at hsp ⊢
    have e0 : ofs false = 0 := rfl
    obtain ⟨k, rfl⟩ : ∃ k : Nat, x = k := ⟨x.toNat, by omega⟩
    obtain ⟨m, rfl⟩ : ∃ m : Nat, y = m := ⟨y.toNat, by omega⟩
    have e1 : ((k : Int)).toNat = k := by simp
    have e2 : ((m : Int)).toNat = m := by simp
    rw [e1, e2]
    obtain ⟨V, hV⟩ : ∃ V, (if s.length = 0 then base else s.getD 0 0) = V := ⟨_, rfl⟩
    rw [hV]
    obtain ⟨Q9, hQ9⟩ : ∃ Q9, s.take k ++ s.drop m = Q9 := ⟨_, rfl⟩
    rw [hQ9]
    have HQ9 := boxed hQ9
    have HV := boxed hV
    have hsl1 := sl_front b off s.length cap k (by omega) hcp
    have hsl2 := sl_back b off s.length cap m (by omega) hcp
    have hsn : 0 < s.length → ∀ w', Below w.heap.size w w' → w'.cell? ⟨b, off, none⟩ = some (.int .i64 (s.getD 0 0)) := fun hp w' hb => by have := hold hb (h.cells 0 hp); simpa using this
    have HSN := boxed hsn
    clear h c1 c1' e1 e2 hQ9 hV hsn
    go_enter Try.func28, Try.ntmps28
    go_wp2_with fail
    refine (hsp _ HA0.out).mono ?_
    rintro e w1 ⟨rfl, hb1⟩
    obtain ⟨HB1, r1, d0, d1, f0, f1, x0, x1⟩ := after hA0 hz0 px0 px1 hr0 hb1
    clear hb1 hsp
    have HX : Box (∀ w', Below w1.heap.size w1 w' → w'.cell? ⟨w.heap.size, 0, none⟩ = some (.slice (some ⟨b, off, none⟩) s.length cap)) := boxed (fun w' hb => hold hb x0)
    have HXS : Box (∀ w' u0 u1, Below w1.heap.size w1 w' → ((w'.setCell ⟨w.heap.size + 1, 0, none⟩ u0).setCell ⟨w.heap.size + 1, 1, none⟩ u1).cell? ⟨w.heap.size, 0, none⟩ = some (.slice (some ⟨b, off, none⟩) s.length cap)) := boxed (fun w' u0 u1 hb => (far2 (by omega) (hold hb x0) (hold hb x1)).1)
    have HD0 : Box (Below w1.heap.size w1 w1.drew) := boxed (Below.refl _ _).drew
    have HTH : Box (∀ (w2 : World), Below w1.heap.size w1 w2 → Calls Try.prog 36 #[.slice (some ⟨b, off, none⟩) k cap, .slice none 0 0, .slice (some (bkA b off cap m)) (s.length - m) (cap - m)] w2 fun e w3 =>
        ∃ g cg, e = .returned (.slice (some ⟨g, 0, none⟩) Q9.length cg) ∧ Box (∀ w4, w3.grownBy w4 (some (w.heap.size + 1)) → RfAt N w4 g 0 cg Q9) ∧ Below w2.heap.size w2 w3) := boxed (fun w2 hb2 => by
      rw [← HQ9.out]
      have hc2 := (HH.out.below (HB1.out.trans (hb2.mono HB1.out.size))).cells
      have hth := three_at w2 (s.take k) [] (s.drop m) k 0 (s.length - m) (by simp; omega) rfl (by simp) ⟨b, off, none⟩ (bkA b off cap m) cap 0 (cap - m) none (front_cells hc2 k (by omega)) (back_cells hc2 m (by omega) hcp) (.inl ⟨rfl, rfl, rfl⟩) (by omega)
      rw [List.append_nil] at hth
      refine hth.mono ?_
      rintro e w3 ⟨g, cg, rfl, hown, hb3⟩
      have hg3 := (hown.lt g rfl).1
      have hb2z := hb2.size
      have hb1z := HB1.out.size
      have hr1z := (Array.getElem?_eq_some_iff.1 r1.out).1
      have hrf := own_rf (N := N) hown (fun k hk => hlb k (by omega)) (sok_app (fun y hy => HH.out.ok y (List.mem_of_mem_take hy)) (fun y hy => HH.out.ok y (List.mem_of_mem_drop hy))) (by simp; omega)
      exact ⟨g, cg, rfl, boxed (fun w4 h4 => hrf.other (fun i _ => by omega) h4), hb3⟩)
    have HR1 : Box (∀ w', Below w1.heap.size w1 w' → w'.heap[w.heap.size + 1]? = some (.cells #[.slice none 0 0, .int .i64 0] 33 (0, 0))) := boxed (fun w' hb => by rw [hb.block _ (Array.getElem?_eq_some_iff.1 r1.out).1]; exact r1.out)
    by_cases cz : s.length = 0
    · have t0 : decide ((0 : Int) < (s.length : Int)) = false := decide_eq_false (by omega)
      have t0' : decide (0 < s.length) = false := decide_eq_false (by omega)
      have hVe : base = V := by rw [← HV.out, if_pos cz]
      subst hVe
      clear d0 d1 f0 f1 cz
      go_wp2_with fail
      go_region_held3 (fun w' => w'.cell? ⟨w.heap.size, 0, none⟩ = some (.slice (some ⟨b, off, none⟩) s.length cap))
        (first | with_reducible exact HX.out _ HD0.out | with_reducible exact HX.out _ HD3.out | with_reducible exact HXS.out _ _ _ HD3.out)
        (first | (go_at_call 36; refine (HTH.out _ HD0.out).mono ?_; rintro e w3 ⟨g, cg, rfl, HRF, hb3⟩; have HD3 := boxed (HD0.out.trans (hb3.mono HD0.out.size)); clear hb3; obtain ⟨d0, d1, f0, f1⟩ := box_facts (HR1.out _ HD3.out)))
      go_wp2
      have HP := put2_all (v0 := .slice (some ⟨g, 0, none⟩) Q9.length cg) (v1 := .int .i64 base) (HR1.out _ HD3.out)
      refine bodyPost_ret (v := .tuple #[.agg #[.slice (some ⟨g, 0, none⟩) Q9.length cg, .int .i64 base], .int .i64 0]) (by simp [results, Try.results28, go_sem, HP.1, HP.2.1]) rfl ?_
      exact ⟨g, 0, cg, rfl, HRF.out _ HP.2.2, (HB1.out.trans (HD3.out.mono HB1.out.size)).trans (grown_below HP.2.2 (by omega) (HB1.out.trans (HD3.out.mono HB1.out.size)).size)⟩
    · have t0 : decide ((0 : Int) < (s.length : Int)) = true := decide_eq_true (by omega)
      have t0' : decide (0 < s.length) = true := decide_eq_true (by omega)
      have hVe : s.getD 0 0 = V := by rw [← HV.out, if_neg cz]
      have hs0 := HSN.out (by omega) w1 HB1.out
      rw [hVe] at hs0
      have hs1 : s.length ≠ 0 := cz
      clear d0 d1 f0 f1 cz hVe HV
      go_wp2_with fail
      go_region_held3 (fun w' => w'.cell? ⟨w.heap.size, 0, none⟩ = some (.slice (some ⟨b, off, none⟩) s.length cap))
        (first | with_reducible exact HX.out _ HD0.out | with_reducible exact HX.out _ HD3.out | with_reducible exact HXS.out _ _ _ HD3.out)
        (first | (go_at_call 36; refine (HTH.out _ HD0.out).mono ?_; rintro e w3 ⟨g, cg, rfl, HRF, hb3⟩; have HD3 := boxed (HD0.out.trans (hb3.mono HD0.out.size)); clear hb3; obtain ⟨d0, d1, f0, f1⟩ := box_facts (HR1.out _ HD3.out)))
      go_wp2
      have HP := put2_all (v0 := .slice (some ⟨g, 0, none⟩) Q9.length cg) (v1 := .int .i64 V) (HR1.out _ HD3.out)
      refine bodyPost_ret (v := .tuple #[.agg #[.slice (some ⟨g, 0, none⟩) Q9.length cg, .int .i64 V], .int .i64 0]) (by simp [results, Try.results28, go_sem, HP.1, HP.2.1]) rfl ?_
      exact ⟨g, 0, cg, rfl, HRF.out _ HP.2.2, (HB1.out.trans (HD3.out.mono HB1.out.size)).trans (grown_below HP.2.2 (by omega) (HB1.out.trans (HD3.out.mono HB1.out.size)).size)⟩
end
end Go.Proofs.Ytdchpiihjjjpfab
