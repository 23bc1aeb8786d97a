/-
  What the search's method enter does.
-/
import Derived.Test.YtkmeeblkckfepabGreatFk
import Derived.Deep.RegionWith
namespace Go.Proofs.YtkmeeblkckfepabGreat
open Go.RowKit
set_option linter.unusedSimpArgs false
set_option linter.unusedVariables false

theorem kp_lt {B : Nat} {w w' : World} (h : Below B w w') : Kp (fun b => b < B) (fun b => b < B) w w' := fun b i u hs hc => ⟨hs, by rw [h.cell (p := ⟨b, i, none⟩) hs]; exact hc⟩
theorem Oth.trans2 {X Y : Nat → Prop} {a b c : World} (h : Oth X a b) (k : Oth Y b c) (hxy : ∀ i, i < a.heap.size → Y i → X i) : Oth X a c := ⟨k.os.trans h.os, k.tape.trans h.tape, k.output.trans h.output, Nat.le_trans h.size k.size, fun i hi hx => (k.block i (Nat.lt_of_lt_of_le hi h.size) (fun hy => hx (hxy i hi hy))).trans (h.block i hi hx)⟩
section
variable {w : World} {B sb pb rb rc n : Nat} {I : Nat → Itm} {width : Int} {s : Stg} {bound near : Int} {v1 v2 : Value} {L1 L2 : List (Nat × Int)}
theorem SX_below (h : SS B sb pb rb rc (nbk I n) width s w bound near v1 v2 L1 L2) {w' : World} (hO : Oth (SX sb v1 v2) w w') : Below B w w' := hO.below (fun k hk => by
  rcases hk with hk | hk | hk
  · rw [hk]; exact h.hs.1
  · exact (h.b1 k hk).1
  · exact (h.b2 k hk).1) (by have := h.hs; omega)
theorem SX_rb (h : SS B sb pb rb rc (nbk I n) width s w bound near v1 v2 L1 L2) : ¬ SX sb v1 v2 rb := fun hk => by
  rcases hk with hk | hk | hk
  · exact h.hs.2.2.1 hk.symm
  · exact (h.b1 rb hk).2.2.2.1 rfl
  · exact (h.b2 rb hk).2.2.2 rfl
/-- The windows behind a new line. -/
def ent (s : Stg) (L : List (Nat × Int)) (x : Nat × Int) : List (Nat × Int) := if s.t = 10000 then L.take (pk L x.2 L.length) ++ [x] else L
set_option maxRecDepth 100000 in
set_option maxHeartbeats 8000000 in
theorem enter_any (h : ParaAt (fun b => b < B) w pb n I) (hn : n ≤ 262144) (hss : SS B sb pb rb rc (nbk I n) width s w bound near v1 v2 L1 L2) (e : Nat) (he : e < nbk I n) (r : Int) (hr : w.cell? ⟨rb, e * 8 + 6, none⟩ = some (.int .i64 r)) (hl1 : L1.length ≤ 262144) (hl2 : L2.length ≤ 262144) :
    Calls Tryz.prog 54 #[.pointer (some ⟨sb, 0, none⟩), .int .i64 (e : Int)] w fun e' w' => e' = .returned (.tuple #[]) ∧ ∃ v1' v2', SS B sb pb rb rc (nbk I n) width s w' (if forc (itb I n e) = true then (e : Int) + 1 else bound) (if forc (itb I n e) = true then (e : Int) + 1 else near) v1' v2' (ent s L1 (e, uC I n s false e r)) (ent s L2 (e, uC I n s true e r)) ∧ (∀ k, k < w.heap.size → SX sb v1' v2' k → SX sb v1 v2 k) ∧ Oth (SX sb v1 v2) w w' := by
  have hm : nbk I n ≤ 262144 := by unfold nbk; have := lgs_len I n n; omega
  have hrb := hss.hs.2.2.2.2
  -- what stays
  have F1 : Box (∀ (W : World) (b' n' : Int) (u1 u2 : Value) (M1 M2 : List (Nat × Int)), SS B sb pb rb rc (nbk I n) width s W b' n' u1 u2 M1 M2 → Below B w W → W.heap[rb]? = w.heap[rb]? → ∀ fl, Calls Tryz.prog 66 #[.pointer (some ⟨sb, 0, none⟩), .int .i64 (e : Int), .bool fl] W fun e' w' => e' = .returned (lnV e wF (uC I n s fl e r)) ∧ Below W.heap.size W w') := boxed (fun W b' n' u1 u2 M1 M2 hS hb hrk fl =>
    worst_any (h.keep (kp_lt hb)) hn hS.sr e he r (by rw [World.cell?_of_block (w := w) (a := ⟨rb, e * 8 + 6, none⟩) hrk]; exact hr) fl)
  have HI := item9_any (sb := sb) h hn hss.c.1.1 e
  have HF := fun W => forced_any (itb I n e) W
  have HS0 := boxed hss
  have hne := hss.hs
  generalize forc (itb I n e) = fo at *
  unfold Itm.val at HI HF
  generalize itb I n e = x at *
  have hcell := boxed (fun (W : World) (hb : Below w.heap.size w W) => (HS0.out.below hb).c)
  clear h hr
  by_cases ht : s.t = 10000
  · have e1 : ∀ L x, ent s L x = L.take (pk L x.2 L.length) ++ [x] := fun L x => if_pos ht
    rw [e1, e1]
    cases fo
    · simp only [Bool.false_eq_true, if_false]
      have ht2 : (s.t == 10000) = true := by simp [ht]
      go_enter Tryz.func54, Tryz.ntmps54
      go_wp2_with fail
      refine HI.mono ?_
      rintro e' w1 ⟨rfl, hb1⟩
      have HB1 := boxed hb1
      clear hb1 HI
      go_wp2_with fail
      refine (HF _).mono ?_
      rintro e' w2 ⟨rfl, hb2⟩
      have HB2 := boxed (below_step HB1.out (Nat.le_refl _) hb2)
      have HS2 := boxed (HS0.out.below HB2.out)
      clear hb2 HF HB1
      obtain ⟨⟨c0, c1, c2, c9, c10, c11, c12, c13⟩, f10, f11⟩ := HS2.out.c
      have HSW := HS2
      have HOW : Box (Oth (SX sb v1 v2) w w2) := boxed (Oth.of HB2.out)
      clear HS2
      have HSD := boxed (HSW.out.below (Below.refl _ _).drew)
      have HOD := boxed HOW.out.drew
      go_wp2_with fail
      go_region_with (first
        | (go_at_call 66; refine (F1.out _ _ _ _ _ _ _ HSD.out (SX_below HS0.out HOD.out) (HOD.out.block rb hrb (SX_rb HS0.out)) false).mono ?_; rintro e' w3 ⟨rfl, hb3⟩; have HS3 := boxed (HSD.out.below hb3); have HO3 := boxed (HOD.out.trans (Oth.of hb3)); clear hb3)
        | (go_at_call 65; refine (add1_any HS3.out hl1 (e, uC I n s false e r)).mono ?_; rintro e' w4 ⟨rfl, v', hS4, hx4, hO4⟩; have HS4 := boxed hS4; have HX4 := boxed (fun k (hk : k < w.heap.size) => hx4 k (Nat.lt_of_lt_of_le hk HO3.out.size)); have HO4 := boxed (HO3.out.trans hO4); clear hS4 hx4 hO4))
      have HSE := boxed (HS4.out.below (Below.refl _ _).drew)
      have HOE := boxed HO4.out.drew
      go_wp2_with fail
      go_region_with (first
        | (go_at_call 66; refine (F1.out _ _ _ _ _ _ _ HSE.out (SX_below HS0.out HOE.out) (HOE.out.block rb hrb (SX_rb HS0.out)) true).mono ?_; rintro e' w5 ⟨rfl, hb5⟩; have HS5 := boxed (HSE.out.below hb5); have HO5 := boxed (HOE.out.trans (Oth.of hb5)); clear hb5)
        | (go_at_call 65; refine (add2_any HS5.out hl2 (e, uC I n s true e r)).mono ?_; rintro e' w6 ⟨rfl, v'', hS6, hx6, hO6⟩; have HS6 := boxed hS6; have HX6 := boxed (fun k (hk : k < w.heap.size) hx => HX4.out k hk (hx6 k (Nat.lt_of_lt_of_le hk HO5.out.size) hx)); have HO6 := boxed (HO5.out.trans2 hO6 HX4.out); clear hS6 hx6 hO6))
      go_wp2_with fail
      refine bodyPost_end (results_none rfl _ _ _) rfl ?_
      exact ⟨rfl, v', v'', HS6.out, HX6.out, HO6.out⟩
    · simp only [if_true]
      have ht2 : (s.t == 10000) = true := by simp [ht]
      go_enter Tryz.func54, Tryz.ntmps54
      go_wp2_with fail
      refine HI.mono ?_
      rintro e' w1 ⟨rfl, hb1⟩
      have HB1 := boxed hb1
      clear hb1 HI
      go_wp2_with fail
      refine (HF _).mono ?_
      rintro e' w2 ⟨rfl, hb2⟩
      have HB2 := boxed (below_step HB1.out (Nat.le_refl _) hb2)
      have HS2 := boxed (HS0.out.below HB2.out)
      clear hb2 HF HB1
      obtain ⟨⟨c0, c1, c2, c9, c10, c11, c12, c13⟩, f10, f11⟩ := HS2.out.c
      have HW : Box (((w2.setCell ⟨sb, 10, none⟩ (.int .i64 ((e : Int) + 1))).setCell ⟨sb, 11, none⟩ (.int .i64 ((e : Int) + 1))).heap[sb]? = some (.cells (srA pb width s (.slice (some ⟨rb, 0, none⟩) (nbk I n) rc) ((e : Int) + 1) ((e : Int) + 1) v1 v2) 70 (0, 0))) := boxed (arr_set _ (arr_set _ HS2.out.sr))
      have HOs : Box (Oth (fun k => k = sb) w2 ((w2.setCell ⟨sb, 10, none⟩ (.int .i64 ((e : Int) + 1))).setCell ⟨sb, 11, none⟩ (.int .i64 ((e : Int) + 1)))) := boxed (Oth.set (X := fun k => k = sb) (Oth.set (X := fun k => k = sb) (Oth.refl _ _) _ rfl) _ rfl)
      have HSW := boxed (HS2.out.set _ HW.out HOs.out)
      have HOW : Box (Oth (SX sb v1 v2) w ((w2.setCell ⟨sb, 10, none⟩ (.int .i64 ((e : Int) + 1))).setCell ⟨sb, 11, none⟩ (.int .i64 ((e : Int) + 1)))) := boxed ((Oth.of HB2.out).trans (HOs.out.mono (fun k _ hk => .inl hk)))
      clear HS2
      have HSD := boxed (HSW.out.below (Below.refl _ _).drew)
      have HOD := boxed HOW.out.drew
      go_wp2_with fail
      go_region_with (first
        | (go_at_call 66; refine (F1.out _ _ _ _ _ _ _ HSD.out (SX_below HS0.out HOD.out) (HOD.out.block rb hrb (SX_rb HS0.out)) false).mono ?_; rintro e' w3 ⟨rfl, hb3⟩; have HS3 := boxed (HSD.out.below hb3); have HO3 := boxed (HOD.out.trans (Oth.of hb3)); clear hb3)
        | (go_at_call 65; refine (add1_any HS3.out hl1 (e, uC I n s false e r)).mono ?_; rintro e' w4 ⟨rfl, v', hS4, hx4, hO4⟩; have HS4 := boxed hS4; have HX4 := boxed (fun k (hk : k < w.heap.size) => hx4 k (Nat.lt_of_lt_of_le hk HO3.out.size)); have HO4 := boxed (HO3.out.trans hO4); clear hS4 hx4 hO4))
      have HSE := boxed (HS4.out.below (Below.refl _ _).drew)
      have HOE := boxed HO4.out.drew
      go_wp2_with fail
      go_region_with (first
        | (go_at_call 66; refine (F1.out _ _ _ _ _ _ _ HSE.out (SX_below HS0.out HOE.out) (HOE.out.block rb hrb (SX_rb HS0.out)) true).mono ?_; rintro e' w5 ⟨rfl, hb5⟩; have HS5 := boxed (HSE.out.below hb5); have HO5 := boxed (HOE.out.trans (Oth.of hb5)); clear hb5)
        | (go_at_call 65; refine (add2_any HS5.out hl2 (e, uC I n s true e r)).mono ?_; rintro e' w6 ⟨rfl, v'', hS6, hx6, hO6⟩; have HS6 := boxed hS6; have HX6 := boxed (fun k (hk : k < w.heap.size) hx => HX4.out k hk (hx6 k (Nat.lt_of_lt_of_le hk HO5.out.size) hx)); have HO6 := boxed (HO5.out.trans2 hO6 HX4.out); clear hS6 hx6 hO6))
      go_wp2_with fail
      refine bodyPost_end (results_none rfl _ _ _) rfl ?_
      exact ⟨rfl, v', v'', HS6.out, HX6.out, HO6.out⟩
  · have e1 : ∀ L x, ent s L x = L := fun L x => if_neg ht
    rw [e1, e1]
    cases fo
    · simp only [Bool.false_eq_true, if_false]
      have ht2 : (s.t == 10000) = false := by simp [ht]
      go_enter Tryz.func54, Tryz.ntmps54
      go_wp2_with fail
      refine HI.mono ?_
      rintro e' w1 ⟨rfl, hb1⟩
      have HB1 := boxed hb1
      clear hb1 HI
      go_wp2_with fail
      refine (HF _).mono ?_
      rintro e' w2 ⟨rfl, hb2⟩
      have HB2 := boxed (below_step HB1.out (Nat.le_refl _) hb2)
      have HS2 := boxed (HS0.out.below HB2.out)
      clear hb2 HF HB1
      obtain ⟨⟨c0, c1, c2, c9, c10, c11, c12, c13⟩, f10, f11⟩ := HS2.out.c
      have HSW := HS2
      have HOW : Box (Oth (SX sb v1 v2) w w2) := boxed (Oth.of HB2.out)
      clear HS2
      go_wp2_with fail
      refine bodyPost_end (results_none rfl _ _ _) rfl ?_
      exact ⟨rfl, v1, v2, HSW.out, fun k _ hk => hk, HOW.out⟩
    · simp only [if_true]
      have ht2 : (s.t == 10000) = false := by simp [ht]
      go_enter Tryz.func54, Tryz.ntmps54
      go_wp2_with fail
      refine HI.mono ?_
      rintro e' w1 ⟨rfl, hb1⟩
      have HB1 := boxed hb1
      clear hb1 HI
      go_wp2_with fail
      refine (HF _).mono ?_
      rintro e' w2 ⟨rfl, hb2⟩
      have HB2 := boxed (below_step HB1.out (Nat.le_refl _) hb2)
      have HS2 := boxed (HS0.out.below HB2.out)
      clear hb2 HF HB1
      obtain ⟨⟨c0, c1, c2, c9, c10, c11, c12, c13⟩, f10, f11⟩ := HS2.out.c
      have HW : Box (((w2.setCell ⟨sb, 10, none⟩ (.int .i64 ((e : Int) + 1))).setCell ⟨sb, 11, none⟩ (.int .i64 ((e : Int) + 1))).heap[sb]? = some (.cells (srA pb width s (.slice (some ⟨rb, 0, none⟩) (nbk I n) rc) ((e : Int) + 1) ((e : Int) + 1) v1 v2) 70 (0, 0))) := boxed (arr_set _ (arr_set _ HS2.out.sr))
      have HOs : Box (Oth (fun k => k = sb) w2 ((w2.setCell ⟨sb, 10, none⟩ (.int .i64 ((e : Int) + 1))).setCell ⟨sb, 11, none⟩ (.int .i64 ((e : Int) + 1)))) := boxed (Oth.set (X := fun k => k = sb) (Oth.set (X := fun k => k = sb) (Oth.refl _ _) _ rfl) _ rfl)
      have HSW := boxed (HS2.out.set _ HW.out HOs.out)
      have HOW : Box (Oth (SX sb v1 v2) w ((w2.setCell ⟨sb, 10, none⟩ (.int .i64 ((e : Int) + 1))).setCell ⟨sb, 11, none⟩ (.int .i64 ((e : Int) + 1)))) := boxed ((Oth.of HB2.out).trans (HOs.out.mono (fun k _ hk => .inl hk)))
      clear HS2
      go_wp2_with fail
      refine bodyPost_end (results_none rfl _ _ _) rfl ?_
      exact ⟨rfl, v1, v2, HSW.out, fun k _ hk => hk, HOW.out⟩
end
end Go.Proofs.YtkmeeblkckfepabGreat
