/-
  What the document's Set answers.
-/
import Derived.Test.YtdchpiihjjjpfabLp
namespace Go.Proofs.Ytdchpiihjjjpfab
open Go.RowKit
set_option linter.unusedSimpArgs false
set_option linter.unusedVariables false

section
variable {N : Nat → Prop} {w : World} {b off cap : Nat} {s : List Int} {base : Int}

theorem sub_snoc (s : List Int) (k i : Nat) (hk : k ≤ i) (hi : i < s.length) : sub s k (i + 1) = sub s k i ++ [s.getD i 0] := by
  apply List.ext_getElem?
  intro j
  rw [sub_get]
  by_cases c : j < i - k
  · rw [List.getElem?_append_left (by rw [sub_len s k i (by omega)]; exact c), sub_get, if_pos c, if_pos (by omega)]
  · rw [List.getElem?_append_right (by rw [sub_len s k i (by omega)]; omega), sub_len s k i (by omega)]
    by_cases d : j = i - k
    · subst d
      rw [if_pos (by omega), show k + (i - k) = i from by omega]
      simp [List.getD, hi]
    · rw [if_neg (by omega)]
      have : j - (i - k) ≠ 0 := by omega
      cases hh : j - (i - k) with
      | zero => omega
      | succ n => simp

set_option maxRecDepth 100000 in
set_option maxHeartbeats 2000000 in
theorem rset_any (h : RfAt N w b off cap s) (hlb : ∀ k, w.heap.size ≤ k → N k) (x y st : Int) (hx : I64 x) (hy : I64 y) : Calls Try.prog 30 #[.agg #[.slice (some ⟨b, off, none⟩) s.length cap, .int .i64 base], .int .i64 x, .int .i64 y, .int .i64 st] w fun e w' =>
    ∃ b' off' cap' r, e = .returned (.tuple #[.agg #[.slice (some ⟨b', off', none⟩) (setS s x y st).length cap', .int .i64 base], .bool r, .int .i64 (setE s x y st)]) ∧ (r = true ↔ setE s x y st = 0 ∧ ¬ ∀ z ∈ sub s x.toNat y.toNat, z = st) ∧ RfAt N w' b' off' cap' (setS s x y st) ∧ Below w.heap.size w w' := by
  have hsp := fun (w' : World) (hb : Below w.heap.size w w') => span_any (base := base) (h.below hb) x y
  have hl := h.len
  have hcp := h.cap
  have HH := boxed h
  obtain ⟨W0, hW0⟩ : ∃ W0, (w.alloc (.cells #[.slice (some ⟨b, off, none⟩) s.length cap, .int .i64 base] 33)).alloc (.cells #[.slice none 0 0, .int .i64 0] 33) = W0 := ⟨_, rfl⟩
  obtain ⟨hA0, hz0, px0, px1, hr0⟩ := boxes w (.slice (some ⟨b, off, none⟩) s.length cap) (.int .i64 base)
  rw [hW0] at hA0 hz0 px0 px1 hr0
  have HA0 := boxed hA0
  have hbl : ∀ i, i < s.length → b ≠ w.heap.size + 1 := fun i hi => by have := World.block_lt_of_cell? w _ (h.cells i hi); simp at this; omega
  unfold setS setE
  by_cases c1 : outb s.length x y = true
  · rw [if_pos c1, if_neg (by omega)]
    rw [c1] at hsp
    have e30 : ofs true = 30 := rfl
    clear h c1
    go_enter Try.func30, Try.ntmps30
    go_wp2_with fail
    refine (hsp _ HA0.out).mono ?_
    rintro e w1 ⟨rfl, hb1⟩
    obtain ⟨HB1, r1, d0, d1, f0, f1, x0, x1⟩ := after hA0 hz0 px0 px1 hr0 hb1
    clear hb1 hsp
    go_wp2
    have HP := put2_all (v0 := .slice (some ⟨b, off, none⟩) s.length cap) (v1 := .int .i64 base) r1.out
    refine bodyPost_ret (v := .tuple #[.agg #[.slice (some ⟨b, off, none⟩) s.length cap, .int .i64 base], .bool false, .int .i64 30]) (by simp [results, Try.results30, go_sem, HP.1, HP.2.1]) rfl ?_
    exact ⟨b, off, cap, false, rfl, by simp, (HH.out.below HB1.out).other hbl HP.2.2, HB1.out.trans (grown_below HP.2.2 (by omega) HB1.out.size)⟩
  · rw [if_neg c1]
    have c1' : outb s.length x y = false := by simpa using c1
    obtain ⟨a1, a3, a2⟩ := (outb_iff _ _ _).1 c1'
    rw [c1'] at hsp
    have e0 : ofs false = 0 := rfl
    have hst := style_any st
    by_cases c2 : stb st = true
    · rw [if_pos c2, if_pos rfl]
      rw [c2] at hst
      have hyy := (stb_iff st).1 c2
      obtain ⟨k, rfl⟩ : ∃ k : Nat, x = k := ⟨x.toNat, by omega⟩
      obtain ⟨m, rfl⟩ : ∃ m : Nat, y = m := ⟨y.toNat, by omega⟩
      have e1 : ((k : Int)).toNat = k := by simp
      have e2 : ((m : Int)).toNat = m := by simp
      obtain ⟨d, hd⟩ : ∃ d : Nat, m - k = d := ⟨_, rfl⟩
      have e3 : ((m : Int) - (k : Int)).toNat = d := by omega
      have e4 : (m : Int) - (k : Int) = (d : Int) := by omega
      rw [e1, e2, e3]
      obtain ⟨Q9, hQ9⟩ : ∃ Q9, s.take k ++ List.replicate d st ++ s.drop m = Q9 := ⟨_, rfl⟩
      rw [hQ9]
      have HQ9 := boxed hQ9
      have hsl1 := sl_front b off s.length cap k (by omega) hcp
      have hsl2 := sl_back b off s.length cap m (by omega) hcp
      have HC := boxed (fun w' (hb : Below w.heap.size w w') => (h.below hb).cells)
      clear h c1 c1' e1 e2 e3 hQ9 c2
      go_enter Try.func30, Try.ntmps30
      go_wp2_with fail
      refine (hsp _ HA0.out).mono ?_
      rintro e w1 ⟨rfl, hb1⟩
      obtain ⟨HB1, r1, d0, d1, f0, f1, x0, x1⟩ := after hA0 hz0 px0 px1 hr0 hb1
      clear hb1 hsp
      go_wp2_with (go_at_call 16; refine (hst _).mono ?_; rintro e w1' ⟨rfl, hw'⟩; subst w1')
      have HX : Box (∀ w', Below w1.heap.size w1 w' → w'.cell? ⟨w.heap.size, 0, none⟩ = some (.slice (some ⟨b, off, none⟩) s.length cap) ∧ w'.cell? ⟨w.heap.size, 1, none⟩ = some (.int .i64 base)) := boxed (fun w' hb => ⟨hold hb x0, hold hb x1⟩)
      have HXS : Box (∀ w' u0 u1, Below w1.heap.size w1 w' → ((w'.setCell ⟨w.heap.size + 1, 0, none⟩ u0).setCell ⟨w.heap.size + 1, 1, none⟩ u1).cell? ⟨w.heap.size, 0, none⟩ = some (.slice (some ⟨b, off, none⟩) s.length cap) ∧ ((w'.setCell ⟨w.heap.size + 1, 0, none⟩ u0).setCell ⟨w.heap.size + 1, 1, none⟩ u1).cell? ⟨w.heap.size, 1, none⟩ = some (.int .i64 base)) := boxed (fun w' u0 u1 hb => far2 (by omega) (HX.out w' hb).1 (HX.out w' hb).2)
      have HTH : Box (∀ (w2 : World) (gm cm : Nat), Below w1.heap.size w1 w2 → w2.ownsRow w1.drew.heap.size 3 1 (.slice (some ⟨gm, 0, none⟩) d cm) d (ints (List.replicate d st)) → Calls Try.prog 36 #[.slice (some ⟨b, off, none⟩) k cap, .slice (some ⟨gm, 0, none⟩) d cm, .slice (some (bkA b off cap m)) (s.length - m) (cap - m)] w2 fun e w3 =>
          ∃ g cg, e = .returned (.slice (some ⟨g, 0, none⟩) Q9.length cg) ∧ Box (∀ w4, w3.grownBy w4 (some (w.heap.size + 1)) → RfAt N w4 g 0 cg Q9) ∧ Below w2.heap.size w2 w3) := boxed (fun w2 gm cm hb2 ho2 => by
        rw [← HQ9.out]
        have hc2 := (HH.out.below (HB1.out.trans (hb2.mono HB1.out.size))).cells
        refine (three_at w2 (s.take k) (List.replicate d st) (s.drop m) k d (s.length - m) (by simp; omega) (by simp) (by simp) ⟨b, off, none⟩ (bkA b off cap m) cap cm (cap - m) (some ⟨gm, 0, none⟩) (front_cells hc2 k (by omega)) (back_cells hc2 m (by omega) hcp) (.inr ⟨_, rfl, row_cells ho2⟩) (by omega)).mono ?_
        rintro e w3 ⟨g, cg, rfl, hown, hb3⟩
        have hg3 := (hown.lt g rfl).1
        have hb2z := hb2.size
        have hb1z := HB1.out.size
        have hr1z := (Array.getElem?_eq_some_iff.1 r1.out).1
        have hrf := own_rf (N := N) hown (fun k hk => hlb k (by omega)) (sok_app (sok_app (fun y hy => HH.out.ok y (List.mem_of_mem_take hy)) (sok_rep hyy)) (fun y hy => HH.out.ok y (List.mem_of_mem_drop hy))) (by simp; omega)
        exact ⟨g, cg, rfl, boxed (fun w4 h4 => hrf.other (fun i _ => by omega) h4), hb3⟩)
      have HR1 : Box (∀ w', Below w1.heap.size w1 w' → w'.heap[w.heap.size + 1]? = some (.cells #[.slice none 0 0, .int .i64 0] 33 (0, 0))) := boxed (fun w' hb => by rw [hb.block _ (Array.getElem?_eq_some_iff.1 r1.out).1]; exact r1.out)
      have HCW := boxed (HC.out w1 HB1.out)
      clear d0 d1 f0 f1
      go_loopw [12, 13] (fun vc vi wr => ∃ (c : Bool) (i : Nat), k ≤ i ∧ i ≤ m ∧ vc = .bool c ∧ vi = .int .i64 (i : Nat) ∧ Box (c = true ↔ ¬ ∀ z ∈ sub s k i, z = st) ∧ wr = w1) (fun _ vi _ => m - (intOf vi).toNat)
      case atStart => exact ⟨false, k, Nat.le_refl _, by omega, rfl, rfl, boxed (by rw [sub_none s k k (Nat.le_refl _)]; simp), rfl⟩
      case round =>
        obtain ⟨c, i, hki, him, rfl, rfl, HR, hwr⟩ := hrel
        subst wr
        by_cases hlt : i < m
        · have hci := HCW.out i (by omega)
          have HSN := boxed (sub_snoc s k i hki (by omega))
          have hun : undef = Value.tuple #[] := rfl
          cases c with
          | true =>
            have HR2 : Box (true = true ↔ ¬ ∀ z ∈ sub s k (i + 1), z = st) := boxed (by rw [HSN.out]; exact ⟨fun _ hh => (HR.out.1 rfl) (fun z hz => hh z (List.mem_append.2 (.inl hz))), fun _ => rfl⟩)
            go_wp2
            go_roundw
            case rel => exact ⟨true, i + 1, by omega, by omega, rfl, by go_num, HR2, by first | rfl | trivial⟩
            case measure => simp [intOf]; omega
          | false =>
            have hall : ∀ z ∈ sub s k i, z = st := by
              by_cases hh : ∀ z ∈ sub s k i, z = st
              · exact hh
              · have := HR.out.2 hh; cases this
            have HAL := boxed hall
            clear hall
            by_cases ce : s.getD i 0 = st
            · have HR2 : Box (false = true ↔ ¬ ∀ z ∈ sub s k (i + 1), z = st) := boxed (by
                rw [HSN.out]
                refine ⟨(fun h => by cases h), fun hh => absurd (fun z hz => ?_) hh⟩
                rcases List.mem_append.1 hz with hz | hz
                · exact HAL.out z hz
                · simp only [List.mem_singleton] at hz; rw [hz, ce])
              have te : (s.getD i 0 == st) = true := by simpa using ce
              generalize s.getD i 0 = V at *
              clear ce
              go_wp2
              go_roundw
              case rel => exact ⟨false, i + 1, by omega, by omega, by rw [show (V != st) = false from by simp [bne, te]], by go_num, HR2, by first | rfl | trivial⟩
              case measure => simp [intOf]; omega
            · have HR2 : Box (true = true ↔ ¬ ∀ z ∈ sub s k (i + 1), z = st) := boxed (by
                rw [HSN.out]
                exact ⟨fun _ hh => ce (hh _ (List.mem_append.2 (.inr (by simp)))), fun _ => rfl⟩)
              have te : (s.getD i 0 == st) = false := by simpa using ce
              generalize s.getD i 0 = V at *
              clear ce
              go_wp2
              go_roundw
              case rel => exact ⟨true, i + 1, by omega, by omega, by rw [show (V != st) = true from by simp [bne, te]], by go_num, HR2, by first | rfl | trivial⟩
              case measure => simp [intOf]; omega
        · obtain rfl : i = m := by omega
          have HD0 : Box (Below w1.heap.size w1 w1.drew) := boxed (Below.refl _ _).drew
          have hdd : d ≤ 65536 := by omega
          have hwd : IntKind.i64.wrap ((i : Int) - (k : Int)) = (d : Int) := by rw [IntKind.wrap_i64]; omega
          clear x0 x1 e4 him hlt hki HC HCW
          go_wp2_with fail
          go_region_held3 (fun w' => w'.cell? ⟨w.heap.size, 0, none⟩ = some (.slice (some ⟨b, off, none⟩) s.length cap) ∧ w'.cell? ⟨w.heap.size, 1, none⟩ = some (.int .i64 base))
            (first | with_reducible exact HX.out _ HD0.out | with_reducible exact HX.out _ HD2.out | with_reducible exact HX.out _ HD3.out | with_reducible exact HXS.out _ _ _ HD3.out)
            (first | (go_at_call 25; refine (many_any d st w1.drew hdd).mono ?_; rintro e w2 ⟨gm, cm, rfl, hom, hbm⟩; have HD2 := boxed (HD0.out.trans (hbm.mono HD0.out.size)); have HOM := boxed hom; clear hom hbm) | (go_at_call 36; refine (HTH.out w2 gm cm HD2.out HOM.out).mono ?_; rintro e w3 ⟨g, cg, rfl, HRF, hb3⟩; have HD3 := boxed (HD2.out.trans (hb3.mono HD2.out.size)); clear hb3; obtain ⟨d0, d1, f0, f1⟩ := box_facts (HR1.out _ HD3.out)))
          go_wp2
          have HP := put2_all (v0 := .slice (some ⟨g, 0, none⟩) Q9.length cg) (v1 := .int .i64 base) (HR1.out _ HD3.out)
          refine bodyPost_ret (v := .tuple #[.agg #[.slice (some ⟨g, 0, none⟩) Q9.length cg, .int .i64 base], .bool c, .int .i64 0]) (by simp [results, Try.results30, go_sem, HP.1, HP.2.1]) rfl ?_
          exact ⟨g, 0, cg, c, rfl, by simpa using HR.out, HRF.out _ HP.2.2, (HB1.out.trans (HD3.out.mono HB1.out.size)).trans (grown_below HP.2.2 (by omega) (HB1.out.trans (HD3.out.mono HB1.out.size)).size)⟩
    · have c2' : stb st = false := by simpa using c2
      rw [if_neg c2, if_neg (by omega)]
      rw [c2'] at hst
      clear h c1 c1' c2 c2'
      go_enter Try.func30, Try.ntmps30
      go_wp2_with fail
      refine (hsp _ HA0.out).mono ?_
      rintro e w1 ⟨rfl, hb1⟩
      obtain ⟨HB1, r1, d0, d1, f0, f1, x0, x1⟩ := after hA0 hz0 px0 px1 hr0 hb1
      clear hb1 hsp
      go_wp2_with (go_at_call 16; refine (hst _).mono ?_; rintro e w1' ⟨rfl, hw'⟩; subst w1')
      have HP := put2_all (v0 := .slice (some ⟨b, off, none⟩) s.length cap) (v1 := .int .i64 base) r1.out
      refine bodyPost_ret (v := .tuple #[.agg #[.slice (some ⟨b, off, none⟩) s.length cap, .int .i64 base], .bool false, .int .i64 43]) (by simp [results, Try.results30, go_sem, HP.1, HP.2.1]) rfl ?_
      exact ⟨b, off, cap, false, rfl, by simp, (HH.out.below HB1.out).other hbl HP.2.2, HB1.out.trans (grown_below HP.2.2 (by omega) HB1.out.size)⟩
end
end Go.Proofs.Ytdchpiihjjjpfab
