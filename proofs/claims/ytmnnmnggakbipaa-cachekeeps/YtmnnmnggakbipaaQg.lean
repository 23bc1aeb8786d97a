/-
  What the document's Alike answers of two keys.
-/
import Derived.Test.YtmnnmnggakbipaaQf
namespace Go.Proofs.Ytmnnmnggakbipaa
open Go.RowKit
set_option linter.unusedSimpArgs false
set_option linter.unusedVariables false

set_option maxRecDepth 100000 in
set_option maxHeartbeats 4000000 in
theorem refalike_any (x y : Kv) (w : World) (hx : KvAt (fun _ => True) w x) (hy : KvAt (fun _ => True) w y) (fx : Fits x) (fy : Fits y) :
    Calls Try.prog 14 #[x.val, y.val] w fun e w' => ∃ r, e = .returned (.bool r) ∧ (r = true ↔ x.ky = y.ky) ∧ Below w.heap.size w w' := by
  have HM0 := boxed (fun W (hb : Below w.heap.size w W) => merged_any W x.ra x.rn x.rc x.L x.Y (hx.below hb) (by have := fx.rn; omega) fx.L)
  have HM1 := boxed (fun W (hb : Below w.heap.size w W) => merged_any W y.ra y.rn y.rc y.L y.Y (hy.below hb) (by have := fy.rn; omega) fy.L)
  have HQ0 := boxed (enc_ok2 (s := exr x.L x.Y x.rn) (by have := exr_len2 x.L x.Y x.rn x.rn (Nat.le_refl _) fx.L; have := fx.rn; omega) (exr_i64 x.L x.Y x.rn x.rn (Nat.le_refl _) (fun i hi => (hx i hi).1.2)))
  have HQ1 := boxed (enc_ok2 (s := exr y.L y.Y y.rn) (by have := exr_len2 y.L y.Y y.rn y.rn (Nat.le_refl _) fy.L; have := fy.rn; omega) (exr_i64 y.L y.Y y.rn y.rn (Nat.le_refl _) (fun i hi => (hy i hi).1.2)))
  have HEC := boxed (show (enc (exr x.L x.Y x.rn)).length ≤ 1048576 by have := exr_count x.L x.Y x.rn; have := fx.rn; omega)
  have HI := boxed (ky_iff x y)
  have HL := boxed (show alB x y = ((x.ta == y.ta) && (x.wd == y.wd) && stgB x.s y.s && (x.tx.toList == y.tx.toList)) from rfl)
  have heq := fun w => eqlStg x.s y.s w
  have hgd := guardStg
  generalize (x.ky = y.ky) = KE at *
  generalize stgB x.s y.s = SB at *
  generalize alB x y = V at *
  generalize exr x.L x.Y x.rn = ex at *
  generalize exr y.L y.Y y.rn = ey at *
  clear hx hy fx fy
  obtain ⟨xtx, xra, xrn, xrc, xta, xwd, ⟨xs1, xs2, xs3, xs4, xs5, xs6, xs7⟩, xL, xY⟩ := x
  obtain ⟨ytx, yra, yrn, yrc, yta, ywd, ⟨ys1, ys2, ys3, ys4, ys5, ys6, ys7⟩, yL, yY⟩ := y
  simp only [Kv.val] at *
  clear xL xY yL yY
  obtain ⟨W, hW⟩ : ∃ W, (w.alloc (.cells #[.string xtx, .slice xra xrn xrc, .int .i64 xta, .int .i64 xwd, .int .i64 xs1, .int .i64 xs2, .int .i64 xs3, .int .i64 xs4, .int .i64 xs5, .int .i64 xs6, .int .i64 xs7] 40)).alloc (.cells #[.string ytx, .slice yra yrn yrc, .int .i64 yta, .int .i64 ywd, .int .i64 ys1, .int .i64 ys2, .int .i64 ys3, .int .i64 ys4, .int .i64 ys5, .int .i64 ys6, .int .i64 ys7] 40) = W := ⟨_, rfl⟩
  have HQ := laid2 w (.cells #[.string xtx, .slice xra xrn xrc, .int .i64 xta, .int .i64 xwd, .int .i64 xs1, .int .i64 xs2, .int .i64 xs3, .int .i64 xs4, .int .i64 xs5, .int .i64 xs6, .int .i64 xs7] 40) (.cells #[.string ytx, .slice yra yrn yrc, .int .i64 yta, .int .i64 ywd, .int .i64 ys1, .int .i64 ys2, .int .i64 ys3, .int .i64 ys4, .int .i64 ys5, .int .i64 ys6, .int .i64 ys7] 40)
  rw [hW] at HQ
  obtain ⟨f0, f1, hB, hz⟩ := HQ
  have HB := boxed hB
  have hBD : Box (∀ n, Below w.heap.size w (W.drewN n)) := boxed (fun n => hB.trans (bel_drewN _ _ _))
  have HX : Box (∀ W', Below W.heap.size W W' → W'.cell? ⟨w.heap.size, 0, none⟩ = some (.string xtx) ∧ W'.cell? ⟨w.heap.size, 1, none⟩ = some (.slice xra xrn xrc) ∧ W'.cell? ⟨w.heap.size, 2, none⟩ = some (.int .i64 xta) ∧ W'.cell? ⟨w.heap.size, 3, none⟩ = some (.int .i64 xwd) ∧ W'.cell? ⟨w.heap.size, 4, none⟩ = some (.int .i64 xs1) ∧ W'.cell? ⟨w.heap.size, 5, none⟩ = some (.int .i64 xs2) ∧ W'.cell? ⟨w.heap.size, 6, none⟩ = some (.int .i64 xs3) ∧ W'.cell? ⟨w.heap.size, 7, none⟩ = some (.int .i64 xs4) ∧ W'.cell? ⟨w.heap.size, 8, none⟩ = some (.int .i64 xs5) ∧ W'.cell? ⟨w.heap.size, 9, none⟩ = some (.int .i64 xs6) ∧ W'.cell? ⟨w.heap.size, 10, none⟩ = some (.int .i64 xs7) ∧ W'.cell? ⟨w.heap.size + 1, 0, none⟩ = some (.string ytx) ∧ W'.cell? ⟨w.heap.size + 1, 1, none⟩ = some (.slice yra yrn yrc) ∧ W'.cell? ⟨w.heap.size + 1, 2, none⟩ = some (.int .i64 yta) ∧ W'.cell? ⟨w.heap.size + 1, 3, none⟩ = some (.int .i64 ywd) ∧ W'.cell? ⟨w.heap.size + 1, 4, none⟩ = some (.int .i64 ys1) ∧ W'.cell? ⟨w.heap.size + 1, 5, none⟩ = some (.int .i64 ys2) ∧ W'.cell? ⟨w.heap.size + 1, 6, none⟩ = some (.int .i64 ys3) ∧ W'.cell? ⟨w.heap.size + 1, 7, none⟩ = some (.int .i64 ys4) ∧ W'.cell? ⟨w.heap.size + 1, 8, none⟩ = some (.int .i64 ys5) ∧ W'.cell? ⟨w.heap.size + 1, 9, none⟩ = some (.int .i64 ys6) ∧ W'.cell? ⟨w.heap.size + 1, 10, none⟩ = some (.int .i64 ys7)) := boxed (fun W' hb => by
    obtain ⟨p0, p1, p2, p3, p4, p5, p6, p7, p8, p9, p10⟩ := cells11 f0
    obtain ⟨q0, q1, q2, q3, q4, q5, q6, q7, q8, q9, q10⟩ := cells11 f1
    exact ⟨hold hb p0, hold hb p1, hold hb p2, hold hb p3, hold hb p4, hold hb p5, hold hb p6, hold hb p7, hold hb p8, hold hb p9, hold hb p10, hold hb q0, hold hb q1, hold hb q2, hold hb q3, hold hb q4, hold hb q5, hold hb q6, hold hb q7, hold hb q8, hold hb q9, hold hb q10⟩)
  have HD : Box (Below W.heap.size W W.drew) := boxed (Below.refl _ _).drew
  clear f0 f1 hB hz
  by_cases ct : (xtx.toList == ytx.toList) = true
  rotate_left
  · have t1 : (xtx.toList == ytx.toList) = false := by simpa using ct
    have HN : Box (¬ KE) := boxed (fun h => by have := (HI.out.1 h).1; rw [HL.out, t1] at this; simp at this)
    obtain ⟨p0, p1, p2, p3, p4, p5, p6, p7, p8, p9, p10, q0, q1, q2, q3, q4, q5, q6, q7, q8, q9, q10⟩ := HX.out W (Below.refl _ _)
    clear ct HI HL HM0 HM1 HX
    go_enter Try.func14, Try.ntmps14
    go_wp2_with fail
    go_quiet (fail)
    go_wp2_with fail
    go_ret
    exact ⟨false, rfl, ⟨(fun h => by cases h), fun h => absurd h HN.out⟩, hBD.out _⟩
  by_cases ca : (xta == yta) = true
  rotate_left
  · have t1 : (xta == yta) = false := by simpa using ca
    have HN : Box (¬ KE) := boxed (fun h => by have := (HI.out.1 h).1; rw [HL.out, t1] at this; simp at this)
    obtain ⟨p0, p1, p2, p3, p4, p5, p6, p7, p8, p9, p10, q0, q1, q2, q3, q4, q5, q6, q7, q8, q9, q10⟩ := HX.out W (Below.refl _ _)
    clear ca HI HL HM0 HM1 HX
    go_enter Try.func14, Try.ntmps14
    go_wp2_with fail
    go_quiet (fail)
    go_wp2_with fail
    go_ret
    exact ⟨false, rfl, ⟨(fun h => by cases h), fun h => absurd h HN.out⟩, hBD.out _⟩
  by_cases cw : (xwd == ywd) = true
  rotate_left
  · have t1 : (xwd == ywd) = false := by simpa using cw
    have HN : Box (¬ KE) := boxed (fun h => by have := (HI.out.1 h).1; rw [HL.out, t1] at this; simp at this)
    obtain ⟨p0, p1, p2, p3, p4, p5, p6, p7, p8, p9, p10, q0, q1, q2, q3, q4, q5, q6, q7, q8, q9, q10⟩ := HX.out W (Below.refl _ _)
    clear cw HI HL HM0 HM1 HX
    go_enter Try.func14, Try.ntmps14
    go_wp2_with fail
    go_quiet (fail)
    go_wp2_with fail
    go_ret
    exact ⟨false, rfl, ⟨(fun h => by cases h), fun h => absurd h HN.out⟩, hBD.out _⟩
  cases SB
  · have HN : Box (¬ KE) := boxed (fun h => by have := (HI.out.1 h).1; rw [HL.out] at this; simp at this)
    obtain ⟨p0, p1, p2, p3, p4, p5, p6, p7, p8, p9, p10, q0, q1, q2, q3, q4, q5, q6, q7, q8, q9, q10⟩ := HX.out W (Below.refl _ _)
    clear HI HL HM0 HM1 HX
    go_enter Try.func14, Try.ntmps14
    go_wp2_with fail
    go_quiet (fail)
    go_wp2_with fail
    go_ret
    exact ⟨false, rfl, ⟨(fun h => by cases h), fun h => absurd h HN.out⟩, hBD.out _⟩
  have HV : Box (KE ↔ ex = ey) := boxed (by
    have : V = true := by rw [HL.out, ct, ca, cw]; rfl
    rw [HI.out]; exact ⟨fun h => h.2, fun h => ⟨this, h⟩⟩)
  clear HI HL
  go_enter Try.func14, Try.ntmps14
  go_wp2_with fail
  go_region_held3 (fun W' => W'.cell? ⟨w.heap.size, 0, none⟩ = some (.string xtx) ∧ W'.cell? ⟨w.heap.size, 1, none⟩ = some (.slice xra xrn xrc) ∧ W'.cell? ⟨w.heap.size, 2, none⟩ = some (.int .i64 xta) ∧ W'.cell? ⟨w.heap.size, 3, none⟩ = some (.int .i64 xwd) ∧ W'.cell? ⟨w.heap.size, 4, none⟩ = some (.int .i64 xs1) ∧ W'.cell? ⟨w.heap.size, 5, none⟩ = some (.int .i64 xs2) ∧ W'.cell? ⟨w.heap.size, 6, none⟩ = some (.int .i64 xs3) ∧ W'.cell? ⟨w.heap.size, 7, none⟩ = some (.int .i64 xs4) ∧ W'.cell? ⟨w.heap.size, 8, none⟩ = some (.int .i64 xs5) ∧ W'.cell? ⟨w.heap.size, 9, none⟩ = some (.int .i64 xs6) ∧ W'.cell? ⟨w.heap.size, 10, none⟩ = some (.int .i64 xs7) ∧ W'.cell? ⟨w.heap.size + 1, 0, none⟩ = some (.string ytx) ∧ W'.cell? ⟨w.heap.size + 1, 1, none⟩ = some (.slice yra yrn yrc) ∧ W'.cell? ⟨w.heap.size + 1, 2, none⟩ = some (.int .i64 yta) ∧ W'.cell? ⟨w.heap.size + 1, 3, none⟩ = some (.int .i64 ywd) ∧ W'.cell? ⟨w.heap.size + 1, 4, none⟩ = some (.int .i64 ys1) ∧ W'.cell? ⟨w.heap.size + 1, 5, none⟩ = some (.int .i64 ys2) ∧ W'.cell? ⟨w.heap.size + 1, 6, none⟩ = some (.int .i64 ys3) ∧ W'.cell? ⟨w.heap.size + 1, 7, none⟩ = some (.int .i64 ys4) ∧ W'.cell? ⟨w.heap.size + 1, 8, none⟩ = some (.int .i64 ys5) ∧ W'.cell? ⟨w.heap.size + 1, 9, none⟩ = some (.int .i64 ys6) ∧ W'.cell? ⟨w.heap.size + 1, 10, none⟩ = some (.int .i64 ys7))
    (first | with_reducible exact HX.out _ HD.out | with_reducible exact HX.out _ HB2.out | with_reducible exact HX.out _ HB3.out | with_reducible exact HX.out _ HB4.out)
    (first
      | (go_at_call 32; refine (rsame_runs _ _ _ _ _ _ _ HV3.out.1 HV3.out.2 HQ0.out HQ1.out HEC.out).mono ?_; rintro e w4 ⟨r, rfl, hr, hb4⟩; have HR := boxed hr; have HB4 := boxed (below_step HB3.out (Nat.le_refl _) hb4); clear hb4 hr)
      | (go_at_call 33; refine (HM1.out _ (HB.out.trans (HB2.out.mono HB.out.size))).mono ?_; rintro e w3 ⟨v3, rfl, hv3, hb3⟩; have HV3 := boxed (And.intro (owns_below HV2.out hb3) hv3); have HB3 := boxed (below_step HB2.out (Nat.le_refl _) hb3); clear hb3 hv3)
      | (go_at_call 33; refine (HM0.out _ (HB.out.trans (HD.out.mono HB.out.size))).mono ?_; rintro e w2 ⟨v2, rfl, hv2, hb2⟩; have HV2 := boxed hv2; have HB2 := boxed (below_step HD.out (Nat.le_refl _) hb2); clear hb2 hv2))
  have HF : Box (Below w.heap.size w w4) := boxed (HB.out.trans (HB4.out.mono HB.out.size))
  clear HX HM0 HM1
  go_wp2_with fail
  go_ret
  exact ⟨r, rfl, by rw [HR.out, HV.out]; exact ⟨fun h => enc_inj h, fun h => by rw [h]⟩, HF.out⟩
end Go.Proofs.Ytmnnmnggakbipaa
