/-
  The search for a paragraph's lines as it lies in memory; what its methods last, item, fit, ahead, short and narrowest answer.
-/
import Derived.Test.YtkmeeblkckfepabGreatFd
import Derived.Test.YtkmeeblkckfepabGreatFb
import Derived.Deep.RegionHeld3
namespace Go.Proofs.YtkmeeblkckfepabGreat
open Go.RowKit
set_option linter.unusedSimpArgs false
set_option linter.unusedVariables false

/-- What a row's block holds, cell by cell. -/
theorem row_cell {W : World} {b : Nat} {arr : Array Value} {t : TypeId} (e : W.heap[b]? = some (.cells arr t (0, 0))) (k : Nat) (v : Value) (h : arr[k]? = some v) : W.cell? ⟨b, k, none⟩ = some v := by
  rw [cell_of_row W b k arr t (0, 0) e]; exact h
theorem row_free {W : World} {b : Nat} {arr : Array Value} {t : TypeId} (e : W.heap[b]? = some (.cells arr t (0, 0))) (k : Nat) : W.frozen? ⟨b, k, none⟩ = false := by
  unfold World.frozen?; rw [e]; simp
/-- A result of any values: its block is laid first, and written last. -/
theorem res_any (w : World) (zs : Array Value) (t : TypeId) (rb : Nat) (hrb : w.heap.size = rb) : ∃ w0, w.alloc (.cells zs t) = w0 ∧ Below rb w w0 ∧ w0.heap.size = rb + 1 ∧ ∀ W, Below w0.heap.size w0 W → W.heap[rb]? = some (.cells zs t (0, 0)) ∧ Below rb w W := by
  subst hrb
  refine ⟨_, rfl, (Below.refl _ _).alloc (Nat.le_refl _) _, by simp, fun W hb => ⟨?_, ?_⟩⟩
  · rw [hb.block w.heap.size (by simp)]; exact heap_alloc_new w _
  · exact ((Below.refl _ _).alloc (Nat.le_refl _) _).trans (hb.mono (by simp))
/-- The search's cells. -/
def srA (pb : Nat) (width : Int) (s : Stg) (rv : Value) (bound near : Int) (v1 v2 : Value) : Array Value :=
  #[.pointer (some ⟨pb, 0, none⟩), .int .i64 width, .int .i64 s.t, .int .i64 s.l, .int .i64 s.a, .int .i64 s.d, .int .i64 s.z, .int .i64 s.o, .int .i64 s.i, rv, .int .i64 bound, .int .i64 near, v1, v2]
section
variable {S : Nat → Prop} {w : World} {pb n sb : Nat} {I : Nat → Itm} {width : Int}

set_option maxRecDepth 100000 in
set_option maxHeartbeats 1000000 in
theorem last_any (h : ParaAt S w pb n I) (hn : n ≤ 262144) (c0 : w.cell? ⟨sb, 0, none⟩ = some (.pointer (some ⟨pb, 0, none⟩))) : Calls Tryz.prog 31 #[.pointer (some ⟨sb, 0, none⟩)] w fun e w' => e = .returned (.int .i64 ((nbk I n : Int) - 1)) ∧ w' = w := by
  have he := ends_any h hn
  have hl := lgs_len I n n
  unfold nbk
  generalize (lgs I n n).length = m at *
  clear h
  go_enter Tryz.func31, Tryz.ntmps31
  go_wp2_with (go_at_call 16; refine he.mono ?_; rintro e w' ⟨rfl, hw'⟩; subst w')
  go_ret
  exact ⟨rfl, rfl⟩
set_option maxRecDepth 100000 in
set_option maxHeartbeats 2000000 in
theorem item9_any (h : ParaAt S w pb n I) (hn : n ≤ 262144) (c0 : w.cell? ⟨sb, 0, none⟩ = some (.pointer (some ⟨pb, 0, none⟩))) (k : Int) : Calls Tryz.prog 49 #[.pointer (some ⟨sb, 0, none⟩), .int .i64 k] w fun e w' => e = .returned (itb I n k).val ∧ Below w.heap.size w w' := by
  obtain ⟨w0, hw0, hb0, hz0, HN⟩ := res9 w _ rfl
  replace HN := boxed HN
  have HX : Box (∀ W, Below w.heap.size w W → W.cell? ⟨sb, 0, none⟩ = some (.pointer (some ⟨pb, 0, none⟩))) := boxed (fun W hb => hold hb c0)
  have HD : Box (Below w0.heap.size w0 w0.drew) := boxed (Below.refl _ _).drew
  have HDw : Box (Below w.heap.size w w0.drew) := boxed hb0.drew
  have he := boxed (fun W (hb : Below w0.heap.size w0 W) => end_any ((h.below hb0).below hb) hn k)
  have hi := boxed (fun W (hb : Below w0.heap.size w0 W) => item_any ((h.below hb0).below hb) hn (bk I n k))
  unfold itb
  unfold bk at *
  generalize endN (lgs I n n) k = y at *
  unfold Itm.val at *
  generalize itm I n y = x at *
  have hb0' := boxed hb0
  clear h hb0 c0
  go_enter Tryz.func49, Tryz.ntmps49
  go_wp2_with fail
  go_region_held3 (fun W => W.cell? ⟨sb, 0, none⟩ = some (.pointer (some ⟨pb, 0, none⟩)))
    (first | with_reducible exact HX.out _ HDw.out | with_reducible exact HX.out _ HB1w.out | with_reducible exact HX.out _ HF.out)
    (first
      | (go_at_call 50; refine (he.out _ HD.out).mono ?_; rintro e w' ⟨rfl, hw'⟩; subst w')
      | (go_at_call 62; refine (hi.out _ HD.out).mono ?_; rintro e w1 ⟨rfl, hb1⟩; have HB1 := boxed (below_step HD.out (Nat.le_refl _) hb1); have HB1w := boxed (hb0'.out.trans (HB1.out.mono (by have := hb0'.out.size; omega))); obtain ⟨⟨⟨x0, x1, x2, x3, x4, x5, x6, x7, x8⟩, y0, y1, y2, y3, y4, y5, y6, y7, y8⟩, HQ, HF, -⟩ := HN.out _ HB1.out (.int .i64 x.k) (.int .i64 x.w) (.int .i64 x.st) (.int .i64 x.sh) (.bool x.fill) (.int .i64 x.c) (.bool x.flag) (.int .i64 x.fr) (.int .i64 x.to); simp only [put9] at HQ HF; replace HQ := boxed HQ; replace HF := boxed HF; clear hb1))
  go_wp2_with fail
  refine bodyPost_ret (v := .agg #[.int .i64 x.k, .int .i64 x.w, .int .i64 x.st, .int .i64 x.sh, .bool x.fill, .int .i64 x.c, .bool x.flag, .int .i64 x.fr, .int .i64 x.to]) (by have q := HQ.out; simp [results, Tryz.results49, go_sem, q]) rfl ⟨rfl, HF.out⟩
set_option maxRecDepth 100000 in
set_option maxHeartbeats 2000000 in
theorem fit9_any (h : ParaAt S w pb n I) (hn : n ≤ 262144) (hok : ∀ i, i < n → okI I i = true) (hw : 1 ≤ width ∧ width ≤ 1073741824) (c0 : w.cell? ⟨sb, 0, none⟩ = some (.pointer (some ⟨pb, 0, none⟩))) (c1 : w.cell? ⟨sb, 1, none⟩ = some (.int .i64 width)) (a b : Int) :
    Calls Tryz.prog 51 #[.pointer (some ⟨sb, 0, none⟩), .int .i64 a, .int .i64 b] w fun e w' => e = .returned (ftb I n width a b).val ∧ Below w.heap.size w w' := by
  obtain ⟨w0, hw0, hb0, hz0, HN⟩ := res5 w _ rfl
  replace HN := boxed HN
  have HX : Box (∀ W, Below w.heap.size w W → W.cell? ⟨sb, 0, none⟩ = some (.pointer (some ⟨pb, 0, none⟩)) ∧ W.cell? ⟨sb, 1, none⟩ = some (.int .i64 width)) := boxed (fun W hb => ⟨hold hb c0, hold hb c1⟩)
  have HD : Box (Below w0.heap.size w0 w0.drew) := boxed (Below.refl _ _).drew
  have HDw : Box (Below w.heap.size w w0.drew) := boxed hb0.drew
  have ea := boxed (fun W (hb : Below w0.heap.size w0 W) => end_any ((h.below hb0).below hb) hn a)
  have eb := boxed (fun W (hb : Below w0.heap.size w0 W) => end_any ((h.below hb0).below hb) hn b)
  have hi := boxed (fun W (hb : Below w0.heap.size w0 W) => pfit_any ((h.below hb0).below hb) hn hok (bk I n a) (bk I n b) width (by omega))
  unfold ftb
  unfold bk at *
  generalize endN (lgs I n n) a = ya at *
  generalize endN (lgs I n n) b = yb at *
  obtain ⟨f0, f1, f2, f3, f4, hF⟩ : ∃ a b c d e, setF (lin I n ya yb) width = ⟨a, b, c, d, e⟩ := ⟨_, _, _, _, _, rfl⟩
  rw [hF] at hi ⊢
  unfold Ft.val at *
  simp only at hi ⊢
  have hb0' := boxed hb0
  clear h hb0 hF c0 c1
  go_enter Tryz.func51, Tryz.ntmps51
  go_wp2_with fail
  go_region_held3 (fun W => W.cell? ⟨sb, 0, none⟩ = some (.pointer (some ⟨pb, 0, none⟩)) ∧ W.cell? ⟨sb, 1, none⟩ = some (.int .i64 width))
    (first | with_reducible exact HX.out _ HDw.out | with_reducible exact HX.out _ HB1w.out | with_reducible exact HX.out _ HF.out)
    (first
      | (go_at_call 50; (first | (with_reducible refine (ea.out _ HD.out).mono ?_) | (with_reducible refine (eb.out _ HD.out).mono ?_)); rintro e w' ⟨rfl, hw'⟩; subst w')
      | (go_at_call 63; refine (hi.out _ HD.out).mono ?_; rintro e w1 ⟨rfl, hb1⟩; have HB1 := boxed (below_step HD.out (Nat.le_refl _) hb1); have HB1w := boxed (hb0'.out.trans (HB1.out.mono (by have := hb0'.out.size; omega))); obtain ⟨⟨⟨d0, d1, d2, d3, d4⟩, g0, g1, g2, g3, g4⟩, HQ, HF, -⟩ := HN.out _ HB1.out (.int .i64 f0) (.int .i64 f1) (.int .i64 f2) (.int .i64 f3) (.bool f4); simp only [put5] at HQ HF; replace HQ := boxed HQ; replace HF := boxed HF; clear hb1))
  go_wp2_with fail
  refine bodyPost_ret (v := .agg #[.int .i64 f0, .int .i64 f1, .int .i64 f2, .int .i64 f3, .bool f4]) (by have q := HQ.out; simp [results, Tryz.results51, go_sem, q]) rfl ⟨rfl, HF.out⟩
theorem fldI (a b c d e f g h i : Value) (w : World) : (Instr.field 52 (.agg #[a, b, c, d, e, f, g, h, i]) 6).run Tryz.prog w = .ok g w := by kernel_rfl
/-- What a line behind a break has ahead of it. -/
def aheV (a : Int) (f : Bool) : Value := .agg #[.int .i64 a, .bool f]
set_option maxRecDepth 100000 in
set_option maxHeartbeats 2000000 in
theorem ahead_any (h : ParaAt S w pb n I) (hn : n ≤ 262144) (c0 : w.cell? ⟨sb, 0, none⟩ = some (.pointer (some ⟨pb, 0, none⟩))) (k a : Int) :
    Calls Tryz.prog 34 #[.pointer (some ⟨sb, 0, none⟩), .int .i64 k, .int .i64 a] w fun e w' => e = .returned (aheV a (itb I n k).flag) ∧ Below w.heap.size w w' := by
  unfold aheV
  obtain ⟨w0, hw0, hb0, hz0, HN⟩ := res_any w #[.int .i64 0, .bool false] 83 _ rfl
  replace HN := boxed HN
  have hi := item9_any (h.below hb0) hn (hold hb0 c0) k
  unfold Itm.val at *
  generalize itb I n k = x at *
  clear h hb0 c0
  go_enter Tryz.func34, Tryz.ntmps34
  go_wp2_with fail
  refine hi.mono ?_
  rintro e w1 ⟨rfl, hb1⟩
  obtain ⟨HE, HF⟩ := HN.out _ hb1
  have x0 := row_cell HE 0 _ rfl
  have x1 := row_cell HE 1 _ rfl
  have y0 := row_free HE 0
  have y1 := row_free HE 1
  replace HF := boxed HF
  replace HE := boxed HE
  clear hb1 hi
  have fl := fldI
  simp at x0 x1
  go_wp2_with fail
  refine bodyPost_ret (v := .agg #[.int .i64 a, .bool x.flag]) (by simp [results, Tryz.results34, go_sem, x0, x1]) rfl ⟨rfl, ?_⟩
  exact (HF.out.setCell (by simp) _).setCell (by simp) _
set_option maxRecDepth 100000 in
set_option maxHeartbeats 2000000 in
theorem short_any (h : ParaAt S w pb n I) (hn : n ≤ 262144) (hok : ∀ i, i < n → okI I i = true) (c0 : w.cell? ⟨sb, 0, none⟩ = some (.pointer (some ⟨pb, 0, none⟩))) (c1 : w.cell? ⟨sb, 1, none⟩ = some (.int .i64 width)) (a b : Int) :
    Calls Tryz.prog 55 #[.pointer (some ⟨sb, 0, none⟩), .int .i64 a, .int .i64 b] w fun e w' => e = .returned (.bool (hpl I n width a b)) ∧ Below w.heap.size w w' := by
  have HX : Box (∀ W, Below w.heap.size w W → W.cell? ⟨sb, 0, none⟩ = some (.pointer (some ⟨pb, 0, none⟩)) ∧ W.cell? ⟨sb, 1, none⟩ = some (.int .i64 width)) := boxed (fun W hb => ⟨hold hb c0, hold hb c1⟩)
  have HD : Box (Below w.heap.size w w.drew) := boxed (Below.refl _ _).drew
  have ea := boxed (fun W (hb : Below w.heap.size w W) => end_any (h.below hb) hn a)
  have eb := boxed (fun W (hb : Below w.heap.size w W) => end_any (h.below hb) hn b)
  have hi := boxed (fun W (hb : Below w.heap.size w W) => bounds_any (h.below hb) hn hok (bk I n a) (bk I n b))
  unfold hpl
  unfold bk at *
  generalize endN (lgs I n n) a = ya at *
  generalize endN (lgs I n n) b = yb at *
  generalize (upt I n ya yb).w - (upt I n ya yb).sh = lo at *
  generalize (upt I n ya yb).w + 5 * (upt I n ya yb).st + wst I n = hi at *
  generalize decide (0 < (upt I n ya yb).f) = fl at *
  clear h c0 c1
  go_enter Tryz.func55, Tryz.ntmps55
  go_wp2_with fail
  go_region_held3 (fun W => W.cell? ⟨sb, 0, none⟩ = some (.pointer (some ⟨pb, 0, none⟩)) ∧ W.cell? ⟨sb, 1, none⟩ = some (.int .i64 width))
    (first | with_reducible exact HX.out _ HD.out | with_reducible exact HX.out _ HB1.out)
    (first
      | (go_at_call 50; (first | (with_reducible refine (ea.out _ HD.out).mono ?_) | (with_reducible refine (eb.out _ HD.out).mono ?_)); rintro e w' ⟨rfl, hw'⟩; subst w')
      | (go_at_call 67; refine (hi.out _ HD.out).mono ?_; rintro e w1 ⟨rfl, hb1⟩; have HB1 := boxed (below_step HD.out (Nat.le_refl _) hb1); clear hb1))
  obtain ⟨k0, k1⟩ := HX.out _ HB1.out
  cases fl
  all_goals
    go_wp2_with fail
    go_ret
    exact ⟨ret_bool (by simp), HB1.out⟩
set_option maxRecDepth 100000 in
set_option maxHeartbeats 2000000 in
theorem narrowest_any (h : ParaAt S w pb n I) (hn : n ≤ 262144) (hok : ∀ i, i < n → okI I i = true) (c0 : w.cell? ⟨sb, 0, none⟩ = some (.pointer (some ⟨pb, 0, none⟩))) (a b : Int) :
    Calls Tryz.prog 59 #[.pointer (some ⟨sb, 0, none⟩), .int .i64 a, .int .i64 b] w fun e w' => e = .returned (.int .i64 ((upt I n (bk I n a) (bk I n b)).w - (upt I n (bk I n a) (bk I n b)).sh)) ∧ Below w.heap.size w w' := by
  have HX : Box (∀ W, Below w.heap.size w W → W.cell? ⟨sb, 0, none⟩ = some (.pointer (some ⟨pb, 0, none⟩))) := boxed (fun W hb => hold hb c0)
  have HD : Box (Below w.heap.size w w.drew) := boxed (Below.refl _ _).drew
  have ea := boxed (fun W (hb : Below w.heap.size w W) => end_any (h.below hb) hn a)
  have eb := boxed (fun W (hb : Below w.heap.size w W) => end_any (h.below hb) hn b)
  have hi := boxed (fun W (hb : Below w.heap.size w W) => bounds_any (h.below hb) hn hok (bk I n a) (bk I n b))
  unfold bk at *
  generalize endN (lgs I n n) a = ya at *
  generalize endN (lgs I n n) b = yb at *
  generalize (upt I n ya yb).w - (upt I n ya yb).sh = lo at *
  generalize (upt I n ya yb).w + 5 * (upt I n ya yb).st + wst I n = hi at *
  generalize decide (0 < (upt I n ya yb).f) = fl at *
  clear h c0
  go_enter Tryz.func59, Tryz.ntmps59
  go_wp2_with fail
  go_region_held3 (fun W => W.cell? ⟨sb, 0, none⟩ = some (.pointer (some ⟨pb, 0, none⟩)))
    (first | with_reducible exact HX.out _ HD.out | with_reducible exact HX.out _ HB1.out)
    (first
      | (go_at_call 50; (first | (with_reducible refine (ea.out _ HD.out).mono ?_) | (with_reducible refine (eb.out _ HD.out).mono ?_)); rintro e w' ⟨rfl, hw'⟩; subst w')
      | (go_at_call 67; refine (hi.out _ HD.out).mono ?_; rintro e w1 ⟨rfl, hb1⟩; have HB1 := boxed (below_step HD.out (Nat.le_refl _) hb1); clear hb1))
  go_wp2_with fail
  go_ret
  exact ⟨rfl, HB1.out⟩
end
end Go.Proofs.YtkmeeblkckfepabGreat
