/-
  What the program's Alike and Hash answer of keys.
-/
import Derived.Test.YtmnnmnggakbipaaQe
import Derived.LoopN
namespace Go.Proofs.Ytmnnmnggakbipaa
open Go.RowKit
set_option linter.unusedSimpArgs false
set_option linter.unusedVariables false

theorem tx_iff (x y : ByteArray) : (x.toList == y.toList) = true ↔ x = y := by
  rw [beq_iff_eq, ByteArray.toList_eq, ByteArray.toList_eq]
  constructor
  · intro h
    apply ByteArray.ext
    exact Array.ext' h
  · intro h; rw [h]
/-- Keys alike but for their runs. -/
def alB (x y : Kv) : Bool := (x.ta == y.ta) && (x.wd == y.wd) && stgB x.s y.s && (x.tx.toList == y.tx.toList)
theorem ky_iff (x y : Kv) : x.ky = y.ky ↔ (alB x y = true ∧ exr x.L x.Y x.rn = exr y.L y.Y y.rn) := by
  unfold Kv.ky alB
  rw [Bool.and_eq_true, tx_iff]
  simp only [Ky.mk.injEq, Bool.and_eq_true, stgB_iff, beq_iff_eq]
  constructor
  · rintro ⟨a, b, c, d, e⟩; exact ⟨⟨⟨⟨c, d⟩, e⟩, a⟩, b⟩
  · rintro ⟨⟨⟨⟨c, d⟩, e⟩, a⟩, b⟩; exact ⟨a, b, c, d, e⟩

set_option maxRecDepth 100000 in
set_option maxHeartbeats 4000000 in
theorem alike_any (x y : Kv) (w : World) (hx : KvAt (fun _ => True) w x) (hy : KvAt (fun _ => True) w y) (kx : x.rn ≤ x.rc) (ky : y.rn ≤ y.rc) :
    Calls Try.prog 22 #[x.val, y.val] w fun e w' => ∃ r, e = .returned (.bool r) ∧ (r = true ↔ x.ky = y.ky) ∧ Below w.heap.size w w' := by
  have HS := boxed (fun W (hb : Below w.heap.size w W) => psame_any W x.ra y.ra x.rn x.rc y.rn y.rc x.L x.Y y.L y.Y (hx.below hb) (hy.below hb) kx ky)
  simp only [ky_iff]
  rw [exs_exr, exs_exr] at HS
  have HL := boxed (show alB x y = ((x.ta == y.ta) && (x.wd == y.wd) && stgB x.s y.s && (x.tx.toList == y.tx.toList)) from rfl)
  have heq := fun w => eqlStg x.s y.s w
  have hgd := guardStg
  generalize stgB x.s y.s = SB at *
  generalize alB x y = V at *
  clear hx hy kx ky
  obtain ⟨D, hD⟩ : ∃ D : Prop, (exr x.L x.Y x.rn = exr y.L y.Y y.rn) = D := ⟨_, rfl⟩
  rw [hD] at HS ⊢
  clear hD
  obtain ⟨tx, ra, rn, rc, ta, wd, ⟨s1, s2, s3, s4, s5, s6, s7⟩, L, Y⟩ := x
  obtain ⟨ux, va, vn, vc, ua, ud, ⟨r1, r2, r3, r4, r5, r6, r7⟩, L', Y'⟩ := y
  simp only [Kv.val] at *
  clear L Y L' Y'
  go_enter Try.func22, Try.ntmps22
  go_wp2_with fail
  all_goals first
    | (go_ret; exact ⟨_, rfl, by rw [HL.out]; simp [*], by go_grown⟩)
    | (refine (HS.out _ (by go_grown)).mono ?_; rintro e w1 ⟨r, rfl, hr, hb1⟩; have HF := boxed (And.intro hr (below_step (B := w.heap.size) (w := w) (by go_grown) (Nat.le_refl _) hb1)); clear hr hb1 HS; go_wp2_with fail; go_ret; exact ⟨r, rfl, by rw [HL.out, HF.out.1]; simp [*], HF.out.2⟩)

/-- A key's number. -/
def hsh (k : Ky) : Int := mx (mx (mx (mx (mx (mx (mx (mx (mx (mr (mt 0 k.tx) k.sl) (IntKind.u64.wrap k.ta)) (IntKind.u64.wrap k.wd)) (IntKind.u64.wrap k.s.t)) (IntKind.u64.wrap k.s.l)) (IntKind.u64.wrap k.s.a)) (IntKind.u64.wrap k.s.d)) (IntKind.u64.wrap k.s.z)) (IntKind.u64.wrap k.s.o)) (IntKind.u64.wrap k.s.i)
theorem hsh_U64 (k : Ky) : U64 (hsh k) := mx_U64 _ _
theorem mt_U64 (h : Int) (s : ByteArray) : U64 (mt h s) := mx_U64 _ _
theorem mr_U64 (h : Int) (l : List Int) : U64 (mr h l) := mx_U64 _ _

section
variable (a0 a1 a2 a3 a4 a5 a6 a7 a8 : Int) (W : World)
theorem idx0 : (Instr.index 92 (.agg #[.int .i64 a0, .int .i64 a1, .int .i64 a2, .int .i64 a3, .int .i64 a4, .int .i64 a5, .int .i64 a6, .int .i64 a7, .int .i64 a8]) (.int .i64 0)).run Try.prog W = .ok (.int .i64 a0) W := by kernel_rfl
theorem idx1 : (Instr.index 92 (.agg #[.int .i64 a0, .int .i64 a1, .int .i64 a2, .int .i64 a3, .int .i64 a4, .int .i64 a5, .int .i64 a6, .int .i64 a7, .int .i64 a8]) (.int .i64 1)).run Try.prog W = .ok (.int .i64 a1) W := by kernel_rfl
theorem idx2 : (Instr.index 92 (.agg #[.int .i64 a0, .int .i64 a1, .int .i64 a2, .int .i64 a3, .int .i64 a4, .int .i64 a5, .int .i64 a6, .int .i64 a7, .int .i64 a8]) (.int .i64 2)).run Try.prog W = .ok (.int .i64 a2) W := by kernel_rfl
theorem idx3 : (Instr.index 92 (.agg #[.int .i64 a0, .int .i64 a1, .int .i64 a2, .int .i64 a3, .int .i64 a4, .int .i64 a5, .int .i64 a6, .int .i64 a7, .int .i64 a8]) (.int .i64 3)).run Try.prog W = .ok (.int .i64 a3) W := by kernel_rfl
theorem idx4 : (Instr.index 92 (.agg #[.int .i64 a0, .int .i64 a1, .int .i64 a2, .int .i64 a3, .int .i64 a4, .int .i64 a5, .int .i64 a6, .int .i64 a7, .int .i64 a8]) (.int .i64 4)).run Try.prog W = .ok (.int .i64 a4) W := by kernel_rfl
theorem idx5 : (Instr.index 92 (.agg #[.int .i64 a0, .int .i64 a1, .int .i64 a2, .int .i64 a3, .int .i64 a4, .int .i64 a5, .int .i64 a6, .int .i64 a7, .int .i64 a8]) (.int .i64 5)).run Try.prog W = .ok (.int .i64 a5) W := by kernel_rfl
theorem idx6 : (Instr.index 92 (.agg #[.int .i64 a0, .int .i64 a1, .int .i64 a2, .int .i64 a3, .int .i64 a4, .int .i64 a5, .int .i64 a6, .int .i64 a7, .int .i64 a8]) (.int .i64 6)).run Try.prog W = .ok (.int .i64 a6) W := by kernel_rfl
theorem idx7 : (Instr.index 92 (.agg #[.int .i64 a0, .int .i64 a1, .int .i64 a2, .int .i64 a3, .int .i64 a4, .int .i64 a5, .int .i64 a6, .int .i64 a7, .int .i64 a8]) (.int .i64 7)).run Try.prog W = .ok (.int .i64 a7) W := by kernel_rfl
theorem idx8 : (Instr.index 92 (.agg #[.int .i64 a0, .int .i64 a1, .int .i64 a2, .int .i64 a3, .int .i64 a4, .int .i64 a5, .int .i64 a6, .int .i64 a7, .int .i64 a8]) (.int .i64 8)).run Try.prog W = .ok (.int .i64 a8) W := by kernel_rfl
end
set_option maxRecDepth 100000 in
set_option maxHeartbeats 4000000 in
theorem hash_any (x : Kv) (w : World) (hx : KvAt (fun _ => True) w x) (ht : x.tx.size ≤ 140737488351232) (hn : x.rn ≤ maxLen) :
    Calls Try.prog 23 #[x.val] w fun e w' => e = .returned (.int .u64 (hsh x.ky)) ∧ Below w.heap.size w w' := by
  have HM := boxed (fun W (hb : Below w.heap.size w W) => mixRuns_any _ (mt 0 x.tx) x.ra x.rn x.rc x.L x.Y (mt_U64 _ _) W (hx.below hb) hn)
  have HTx := boxed (fun W => mixText_any 0 x.tx (by unfold U64; omega) ht W)
  have HH := boxed (show hsh x.ky = mx (mx (mx (mx (mx (mx (mx (mx (mx (mr (mt 0 x.tx) (exr x.L x.Y x.rn)) (IntKind.u64.wrap x.ta)) (IntKind.u64.wrap x.wd)) (IntKind.u64.wrap x.s.t)) (IntKind.u64.wrap x.s.l)) (IntKind.u64.wrap x.s.a)) (IntKind.u64.wrap x.s.d)) (IntKind.u64.wrap x.s.z)) (IntKind.u64.wrap x.s.o)) (IntKind.u64.wrap x.s.i) from rfl)
  generalize hsh x.ky = HV at *
  obtain ⟨h0, hh0⟩ : ∃ h0, mr (mt 0 x.tx) (exr x.L x.Y x.rn) = h0 := ⟨_, rfl⟩
  have hU0 : U64 h0 := by rw [← hh0]; exact mr_U64 _ _
  rw [hh0] at HH HM
  obtain ⟨h1, hh1⟩ : ∃ h1, mt 0 x.tx = h1 := ⟨_, rfl⟩
  rw [hh1] at HM HTx
  clear hx hh0 hh1 hn
  obtain ⟨tx, ra, rn, rc, ta, wd, ⟨s1, s2, s3, s4, s5, s6, s7⟩, L, Y⟩ := x
  simp only [Kv.val] at *
  obtain ⟨W, hW⟩ : ∃ W, w.alloc (.cells #[.string tx, .slice ra rn rc, .int .i64 ta, .int .i64 wd, .int .i64 s1, .int .i64 s2, .int .i64 s3, .int .i64 s4, .int .i64 s5, .int .i64 s6, .int .i64 s7] 42) = W := ⟨_, rfl⟩
  have HQ := laid1 w (.cells #[.string tx, .slice ra rn rc, .int .i64 ta, .int .i64 wd, .int .i64 s1, .int .i64 s2, .int .i64 s3, .int .i64 s4, .int .i64 s5, .int .i64 s6, .int .i64 s7] 42)
  rw [hW] at HQ
  obtain ⟨f0, hB, hz⟩ := HQ
  have HF0 := boxed f0
  have HX : Box (∀ W', Below W.heap.size W W' → W'.cell? ⟨w.heap.size, 0, none⟩ = some (.string tx) ∧ W'.cell? ⟨w.heap.size, 1, none⟩ = some (.slice ra rn rc)) := boxed (fun W' hb => by
    obtain ⟨q0, q1, -⟩ := cells11 f0
    exact ⟨hold hb q0, hold hb q1⟩)
  have HD : Box (Below W.heap.size W W.drew) := boxed (Below.refl _ _).drew
  have HB := boxed hB
  clear f0 hB
  go_enter Try.func23, Try.ntmps23
  go_wp2_with fail
  go_region_held3 (fun W' => W'.cell? ⟨w.heap.size, 0, none⟩ = some (.string tx) ∧ W'.cell? ⟨w.heap.size, 1, none⟩ = some (.slice ra rn rc))
    (first | with_reducible exact HX.out _ HD.out | with_reducible exact HX.out _ HB2.out)
    (first
      | (go_at_call 40; refine (HTx.out _).mono ?_; rintro e w1 ⟨rfl, hw1⟩; subst hw1)
      | (go_at_call 39; refine (HM.out _ (HB.out.trans (HD.out.mono HB.out.size))).mono ?_; rintro e w2 ⟨rfl, hb2⟩; have HB2 := boxed (below_step HD.out (Nat.le_refl _) hb2); clear hb2))
  have HC := boxed (HB2.out.block w.heap.size (by omega))
  rw [HF0.out] at HC
  obtain ⟨q0, q1, q2, q3, q4, q5, q6, q7, q8, q9, q10⟩ := cells11 HC.out
  have hzl := heap_lt HC.out
  have HB3 : Box (Below w.heap.size w w2) := boxed (HB.out.trans (HB2.out.mono HB.out.size))
  have HB4 : Box (Below w.heap.size w (w2.alloc (.cells #[.int .i64 s1, .int .i64 s2, .int .i64 s3, .int .i64 s4, .int .i64 s5, .int .i64 s6, .int .i64 s7] 38))) := boxed (HB3.out.alloc HB3.out.size _)
  clear HM HTx HX HC HF0
  go_wp2_with fail
  have i0 := fun W => idx0 ta wd s1 s2 s3 s4 s5 s6 s7 W
  have i1 := fun W => idx1 ta wd s1 s2 s3 s4 s5 s6 s7 W
  have i2 := fun W => idx2 ta wd s1 s2 s3 s4 s5 s6 s7 W
  have i3 := fun W => idx3 ta wd s1 s2 s3 s4 s5 s6 s7 W
  have i4 := fun W => idx4 ta wd s1 s2 s3 s4 s5 s6 s7 W
  have i5 := fun W => idx5 ta wd s1 s2 s3 s4 s5 s6 s7 W
  have i6 := fun W => idx6 ta wd s1 s2 s3 s4 s5 s6 s7 W
  have i7 := fun W => idx7 ta wd s1 s2 s3 s4 s5 s6 s7 W
  have i8 := fun W => idx8 ta wd s1 s2 s3 s4 s5 s6 s7 W
  refine wp_loop_rounds 10 ?_
  iterate 9 (rw [rounds_succ]; go_wp2_with fail; refine (mix_any _ _ (by first | exact hU0 | exact mx_U64 _ _) (wrap_U64 _) _).mono ?_; rintro e w9 ⟨rfl, hw9⟩; subst hw9; go_wp2_with fail)
  rw [rounds_succ]
  go_wp2_with fail
  go_ret
  exact ⟨by rw [HH.out]; rfl, HB4.out⟩
end Go.Proofs.Ytmnnmnggakbipaa
