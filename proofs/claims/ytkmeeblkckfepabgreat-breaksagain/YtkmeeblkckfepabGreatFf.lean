/-
  What a line costs with all behind it: what the search's cost and worst answer.
-/
import Derived.Test.YtkmeeblkckfepabGreatFe
import Derived.Lib.QuietBelow
import Derived.BigQuiet
import Derived.Laws.IdiomCopy
namespace Go.Proofs.YtkmeeblkckfepabGreat
open Go.RowKit
set_option linter.unusedSimpArgs false
set_option linter.unusedVariables false
/-- Values put into a row, one behind the other. -/
def setA : Array Value → Nat → List Value → Array Value
  | arr, _, [] => arr
  | arr, o, v :: r => setA (arr.setIfInBounds o v) (o + 1) r
theorem sets_heap (b : Nat) (t : TypeId) : ∀ (vs : List Value) (o : Nat) (w : World) (arr : Array Value), w.heap[b]? = some (.cells arr t (0, 0)) → (w.setCells b o vs).heap[b]? = some (.cells (setA arr o vs) t (0, 0))
  | [], _, _, _, e => e
  | v :: r, o, w, arr, e => by
    rw [World.setCells, setA]
    exact sets_heap b t r (o + 1) _ _ (arr_set v e)
theorem sets_other (b k : Nat) (hk : k ≠ b) : ∀ (vs : List Value) (o : Nat) (w : World), (w.setCells b o vs).heap[k]? = w.heap[k]?
  | [], _, _ => rfl
  | v :: r, o, w => by rw [World.setCells, sets_other b k hk r]; exact Below.heap_setCell w ⟨b, o, none⟩ v k hk
theorem sets_below (b B : Nat) (hB : B ≤ b) : ∀ (vs : List Value) (o : Nat) (w : World), Below B w (w.setCells b o vs)
  | [], _, _ => Below.refl _ _
  | v :: r, o, w => by rw [World.setCells]; exact ((Below.refl B w).setCell (p := ⟨b, o, none⟩) hB v).trans (sets_below b B hB r (o + 1) _)
theorem sets_size (b : Nat) : ∀ (vs : List Value) (o : Nat) (w : World), (w.setCells b o vs).heap.size = w.heap.size
  | [], _, _ => rfl
  | v :: r, o, w => by rw [World.setCells, sets_size b r]; simp
/-- 2 values in a block. -/
theorem cells2 {W : World} {rb : Nat} {v0 v1 : Value} {t : TypeId} (e : W.heap[rb]? = some (.cells #[v0, v1] t (0, 0))) : (W.cell? ⟨rb, 0, none⟩ = some v0 ∧ W.cell? ⟨rb, 1, none⟩ = some v1) ∧ W.frozen? ⟨rb, 0, none⟩ = false ∧ W.frozen? ⟨rb, 1, none⟩ = false :=
  ⟨⟨row_cell e 0 _ rfl, row_cell e 1 _ rfl⟩, row_free e 0, row_free e 1⟩
/-- 3 values in a block. -/
theorem cells3 {W : World} {rb : Nat} {v0 v1 v2 : Value} {t : TypeId} (e : W.heap[rb]? = some (.cells #[v0, v1, v2] t (0, 0))) : (W.cell? ⟨rb, 0, none⟩ = some v0 ∧ W.cell? ⟨rb, 1, none⟩ = some v1 ∧ W.cell? ⟨rb, 2, none⟩ = some v2) ∧ W.frozen? ⟨rb, 0, none⟩ = false ∧ W.frozen? ⟨rb, 1, none⟩ = false ∧ W.frozen? ⟨rb, 2, none⟩ = false :=
  ⟨⟨row_cell e 0 _ rfl, row_cell e 1 _ rfl, row_cell e 2 _ rfl⟩, row_free e 0, row_free e 1, row_free e 2⟩
/-- 7 values in a block. -/
theorem cells7 {W : World} {rb : Nat} {v0 v1 v2 v3 v4 v5 v6 : Value} {t : TypeId} (e : W.heap[rb]? = some (.cells #[v0, v1, v2, v3, v4, v5, v6] t (0, 0))) : (W.cell? ⟨rb, 0, none⟩ = some v0 ∧ W.cell? ⟨rb, 1, none⟩ = some v1 ∧ W.cell? ⟨rb, 2, none⟩ = some v2 ∧ W.cell? ⟨rb, 3, none⟩ = some v3 ∧ W.cell? ⟨rb, 4, none⟩ = some v4 ∧ W.cell? ⟨rb, 5, none⟩ = some v5 ∧ W.cell? ⟨rb, 6, none⟩ = some v6) ∧ W.frozen? ⟨rb, 0, none⟩ = false ∧ W.frozen? ⟨rb, 1, none⟩ = false ∧ W.frozen? ⟨rb, 2, none⟩ = false ∧ W.frozen? ⟨rb, 3, none⟩ = false ∧ W.frozen? ⟨rb, 4, none⟩ = false ∧ W.frozen? ⟨rb, 5, none⟩ = false ∧ W.frozen? ⟨rb, 6, none⟩ = false :=
  ⟨⟨row_cell e 0 _ rfl, row_cell e 1 _ rfl, row_cell e 2 _ rfl, row_cell e 3 _ rfl, row_cell e 4 _ rfl, row_cell e 5 _ rfl, row_cell e 6 _ rfl⟩, row_free e 0, row_free e 1, row_free e 2, row_free e 3, row_free e 4, row_free e 5, row_free e 6⟩
/-- 14 values in a block. -/
theorem cells14 {W : World} {rb : Nat} {v0 v1 v2 v3 v4 v5 v6 v7 v8 v9 v10 v11 v12 v13 : Value} {t : TypeId} (e : W.heap[rb]? = some (.cells #[v0, v1, v2, v3, v4, v5, v6, v7, v8, v9, v10, v11, v12, v13] t (0, 0))) : (W.cell? ⟨rb, 0, none⟩ = some v0 ∧ W.cell? ⟨rb, 1, none⟩ = some v1 ∧ W.cell? ⟨rb, 2, none⟩ = some v2 ∧ W.cell? ⟨rb, 3, none⟩ = some v3 ∧ W.cell? ⟨rb, 4, none⟩ = some v4 ∧ W.cell? ⟨rb, 5, none⟩ = some v5 ∧ W.cell? ⟨rb, 6, none⟩ = some v6 ∧ W.cell? ⟨rb, 7, none⟩ = some v7 ∧ W.cell? ⟨rb, 8, none⟩ = some v8 ∧ W.cell? ⟨rb, 9, none⟩ = some v9 ∧ W.cell? ⟨rb, 10, none⟩ = some v10 ∧ W.cell? ⟨rb, 11, none⟩ = some v11 ∧ W.cell? ⟨rb, 12, none⟩ = some v12 ∧ W.cell? ⟨rb, 13, none⟩ = some v13) ∧ W.frozen? ⟨rb, 0, none⟩ = false ∧ W.frozen? ⟨rb, 1, none⟩ = false ∧ W.frozen? ⟨rb, 2, none⟩ = false ∧ W.frozen? ⟨rb, 3, none⟩ = false ∧ W.frozen? ⟨rb, 4, none⟩ = false ∧ W.frozen? ⟨rb, 5, none⟩ = false ∧ W.frozen? ⟨rb, 6, none⟩ = false ∧ W.frozen? ⟨rb, 7, none⟩ = false ∧ W.frozen? ⟨rb, 8, none⟩ = false ∧ W.frozen? ⟨rb, 9, none⟩ = false ∧ W.frozen? ⟨rb, 10, none⟩ = false ∧ W.frozen? ⟨rb, 11, none⟩ = false ∧ W.frozen? ⟨rb, 12, none⟩ = false ∧ W.frozen? ⟨rb, 13, none⟩ = false :=
  ⟨⟨row_cell e 0 _ rfl, row_cell e 1 _ rfl, row_cell e 2 _ rfl, row_cell e 3 _ rfl, row_cell e 4 _ rfl, row_cell e 5 _ rfl, row_cell e 6 _ rfl, row_cell e 7 _ rfl, row_cell e 8 _ rfl, row_cell e 9 _ rfl, row_cell e 10 _ rfl, row_cell e 11 _ rfl, row_cell e 12 _ rfl, row_cell e 13 _ rfl⟩, row_free e 0, row_free e 1, row_free e 2, row_free e 3, row_free e 4, row_free e 5, row_free e 6, row_free e 7, row_free e 8, row_free e 9, row_free e 10, row_free e 11, row_free e 12, row_free e 13⟩
/-- Two blocks laid. -/
theorem laid2 (w : World) (A B : Obj) : ((w.alloc A).alloc B).heap[w.heap.size]? = some A ∧ ((w.alloc A).alloc B).heap[w.heap.size + 1]? = some B ∧ Below w.heap.size w ((w.alloc A).alloc B) ∧ ((w.alloc A).alloc B).heap.size = w.heap.size + 2 := by
  refine ⟨?_, ?_, ?_, by simp⟩
  · rw [Below.heap_alloc _ _ _ (by simp)]; exact heap_alloc_new w A
  · have := heap_alloc_new (w.alloc A) B
    simpa using this
  · exact ((Below.refl _ _).alloc (Nat.le_refl _) _).alloc (by simp) _
section
variable {S : Nat → Prop} {w : World} {pb n sb rb rc : Nat} {I : Nat → Itm} {width : Int} {s : Stg} {bound near : Int} {v1 v2 : Value}
/-- The search as it lies in memory. -/
def SrAt (w : World) (sb pb : Nat) (width : Int) (s : Stg) (rb m rc : Nat) (bound near : Int) (v1 v2 : Value) : Prop :=
  w.heap[sb]? = some (.cells (srA pb width s (.slice (some ⟨rb, 0, none⟩) m rc) bound near v1 v2) 70 (0, 0))
set_option maxRecDepth 100000 in
set_option maxHeartbeats 4000000 in
theorem cost9_any (h : ParaAt S w pb n I) (hn : n ≤ 262144) (hsr : SrAt w sb pb width s rb (nbk I n) rc bound near v1 v2) (e c : Nat) (he : e < nbk I n) (hc : c < 4) (r : Int) (hr : w.cell? ⟨rb, e * 8 + c * 2, none⟩ = some (.int .i64 r))
    (f1 f2 f3 : Int) (f5 : Bool) (a : Int) (ha : -1000 ≤ a ∧ a ≤ 1000) (fl : Bool) :
    Calls Tryz.prog 48 #[.pointer (some ⟨sb, 0, none⟩), .agg #[.int .i64 f1, .int .i64 f2, .int .i64 f3, .int .i64 (c : Int), .bool f5], .int .i64 (e : Int), aheV a fl] w fun e' w' =>
      e' = .returned (.int .i64 (tt (cst s ⟨f1, f2, f3, (c : Int), f5⟩ (itb I n e) a fl (decide (e + 1 = nbk I n))) r)) ∧ Below w.heap.size w w' := by
  unfold aheV
  have HC := fun W => cost_any s ⟨f1, f2, f3, (c : Int), f5⟩ (itb I n e) a fl (decide (e + 1 = nbk I n)) W ha (by simp only; omega)
  have hl := lgs_len I n n
  have hm : nbk I n ≤ 262144 := by unfold nbk; omega
  have he2 : (e : Int) < (nbk I n : Int) := by omega
  have hc2 : (c : Int) < 4 := by omega
  obtain ⟨lb, hlb⟩ : ∃ lb, decide (e + 1 = nbk I n) = lb := ⟨_, rfl⟩
  have hlb2 : ((e : Int) == (nbk I n : Int) - 1) = lb := by rw [← hlb]; rw [Bool.eq_iff_iff]; simp; omega
  rw [hlb] at HC ⊢
  have HI := boxed (fun W (hb : Below w.heap.size w W) => item9_any (sb := sb) (h.below hb) hn (hold hb (row_cell hsr 0 _ rfl)) e)
  have HL := boxed (fun W (hb : Below w.heap.size w W) => last_any (sb := sb) (h.below hb) hn (hold hb (row_cell hsr 0 _ rfl)))
  unfold Stg.val Ft.val Itm.val at *
  simp only at HC
  generalize cst s ⟨f1, f2, f3, (c : Int), f5⟩ (itb I n e) a fl lb = C at *
  have HT := fun W => total_any C r W
  generalize tt C r = T at *
  generalize itb I n e = x at *
  generalize nbk I n = m at *
  obtain ⟨q0, q1, q2, q3⟩ := laid2 w (.cells #[.int .i64 f1, .int .i64 f2, .int .i64 f3, .int .i64 (c : Int), .bool f5] 72) (.cells #[.int .i64 a, .bool fl] 83)
  obtain ⟨wZ, hwZ⟩ : ∃ wZ, (w.alloc (.cells #[.int .i64 f1, .int .i64 f2, .int .i64 f3, .int .i64 (c : Int), .bool f5] 72)).alloc (.cells #[.int .i64 a, .bool fl] 83) = wZ := ⟨_, rfl⟩
  rw [hwZ] at q0 q1 q2 q3
  have HX : Box (∀ W, Below wZ.heap.size wZ W → (W.cell? ⟨sb, 0, none⟩ = some (.pointer (some ⟨pb, 0, none⟩)) ∧ W.cell? ⟨sb, 2, none⟩ = some (.int .i64 s.t) ∧ W.cell? ⟨sb, 3, none⟩ = some (.int .i64 s.l) ∧ W.cell? ⟨sb, 4, none⟩ = some (.int .i64 s.a) ∧ W.cell? ⟨sb, 5, none⟩ = some (.int .i64 s.d) ∧ W.cell? ⟨sb, 6, none⟩ = some (.int .i64 s.z) ∧ W.cell? ⟨sb, 7, none⟩ = some (.int .i64 s.o) ∧ W.cell? ⟨sb, 8, none⟩ = some (.int .i64 s.i) ∧ W.cell? ⟨sb, 9, none⟩ = some (.slice (some ⟨rb, 0, none⟩) m rc) ∧ W.cell? ⟨rb, e * 8 + c * 2, none⟩ = some (.int .i64 r)) ∧ (W.cell? ⟨w.heap.size, 0, none⟩ = some (.int .i64 f1) ∧ W.cell? ⟨w.heap.size, 1, none⟩ = some (.int .i64 f2) ∧ W.cell? ⟨w.heap.size, 2, none⟩ = some (.int .i64 f3) ∧ W.cell? ⟨w.heap.size, 3, none⟩ = some (.int .i64 (c : Int)) ∧ W.cell? ⟨w.heap.size, 4, none⟩ = some (.bool f5) ∧ W.cell? ⟨w.heap.size + 1, 0, none⟩ = some (.int .i64 a) ∧ W.cell? ⟨w.heap.size + 1, 1, none⟩ = some (.bool fl))) :=
    boxed (fun W hb => ⟨⟨hold (q2.trans (hb.mono q2.size)) (row_cell hsr 0 _ rfl), hold (q2.trans (hb.mono q2.size)) (row_cell hsr 2 _ rfl), hold (q2.trans (hb.mono q2.size)) (row_cell hsr 3 _ rfl), hold (q2.trans (hb.mono q2.size)) (row_cell hsr 4 _ rfl), hold (q2.trans (hb.mono q2.size)) (row_cell hsr 5 _ rfl), hold (q2.trans (hb.mono q2.size)) (row_cell hsr 6 _ rfl), hold (q2.trans (hb.mono q2.size)) (row_cell hsr 7 _ rfl), hold (q2.trans (hb.mono q2.size)) (row_cell hsr 8 _ rfl), hold (q2.trans (hb.mono q2.size)) (row_cell hsr 9 _ rfl), hold (q2.trans (hb.mono q2.size)) hr⟩, row_cell ((hb.block _ (by rw [q3]; omega)).trans q0) 0 _ rfl, row_cell ((hb.block _ (by rw [q3]; omega)).trans q0) 1 _ rfl, row_cell ((hb.block _ (by rw [q3]; omega)).trans q0) 2 _ rfl, row_cell ((hb.block _ (by rw [q3]; omega)).trans q0) 3 _ rfl, row_cell ((hb.block _ (by rw [q3]; omega)).trans q0) 4 _ rfl, row_cell ((hb.block _ (by rw [q3]; omega)).trans q1) 0 _ rfl, row_cell ((hb.block _ (by rw [q3]; omega)).trans q1) 1 _ rfl⟩)
  have HZ : Box (∀ W, Below wZ.heap.size wZ W → Below w.heap.size w W) := boxed (fun W hb => q2.trans (hb.mono q2.size))
  obtain ⟨⟨c0, c1, c2, c3, c4, c5, c6, c7, c8, c9⟩, c10, c11, c12, c13, c14, c15, c16⟩ := HX.out _ (Below.refl _ _)
  have vc0 := cell_regrown c0
  have vc1 := cell_regrown c1
  have vc2 := cell_regrown c2
  have vc3 := cell_regrown c3
  have vc4 := cell_regrown c4
  have vc5 := cell_regrown c5
  have vc6 := cell_regrown c6
  have vc7 := cell_regrown c7
  have vc8 := cell_regrown c8
  have vc9 := cell_regrown c9
  have vc10 := cell_regrown c10
  have vc11 := cell_regrown c11
  have vc12 := cell_regrown c12
  have vc13 := cell_regrown c13
  have vc14 := cell_regrown c14
  have vc15 := cell_regrown c15
  have vc16 := cell_regrown c16
  have CI : Box (∀ d os, Calls Tryz.prog 49 #[.pointer (some ⟨sb, 0, none⟩), .int .i64 (e : Int)] (Go.Sort.grow (redrawn wZ d) os) fun e' w'' => e' = .returned (.agg #[.int .i64 x.k, .int .i64 x.w, .int .i64 x.st, .int .i64 x.sh, .bool x.fill, .int .i64 x.c, .bool x.flag, .int .i64 x.fr, .int .i64 x.to]) ∧ ∃ p : Regrown, w'' = Go.Sort.grow (redrawn wZ p.d) p.os) := boxed (fun d os => Calls.regrown_of (HI.out _ (HZ.out _ (below_regrown _ _ _))))
  have CL : Box (∀ d os, Calls Tryz.prog 31 #[.pointer (some ⟨sb, 0, none⟩)] (Go.Sort.grow (redrawn wZ d) os) fun e' w'' => e' = .returned (.int .i64 ((m : Int) - 1)) ∧ ∃ p : Regrown, w'' = Go.Sort.grow (redrawn wZ p.d) p.os) := boxed (fun d os => Calls.regrown_of ((HL.out _ (HZ.out _ (below_regrown _ _ _))).mono (fun e' w' h => ⟨h.1, by rw [h.2]; exact Below.refl _ _⟩)))
  have CC : Box (∀ d os, Calls Tryz.prog 61 #[.agg #[.int .i64 s.t, .int .i64 s.l, .int .i64 s.a, .int .i64 s.d, .int .i64 s.z, .int .i64 s.o, .int .i64 s.i], .agg #[.int .i64 f1, .int .i64 f2, .int .i64 f3, .int .i64 (c : Int), .bool f5], .agg #[.int .i64 x.k, .int .i64 x.w, .int .i64 x.st, .int .i64 x.sh, .bool x.fill, .int .i64 x.c, .bool x.flag, .int .i64 x.fr, .int .i64 x.to], .agg #[.int .i64 a, .bool fl], .bool lb] (Go.Sort.grow (redrawn wZ d) os) fun e' w'' => e' = .returned (.int .i64 C) ∧ ∃ p : Regrown, w'' = Go.Sort.grow (redrawn wZ p.d) p.os) := boxed (fun d os => Calls.regrown_of (HC _))
  have CT : Box (∀ d os, Calls Tryz.prog 60 #[.int .i64 C, .int .i64 r] (Go.Sort.grow (redrawn wZ d) os) fun e' w'' => e' = .returned (.int .i64 T) ∧ ∃ p : Regrown, w'' = Go.Sort.grow (redrawn wZ p.d) p.os) := boxed (fun d os => Calls.regrown_of ((HT _).mono (fun e' w' h => ⟨h.1, by rw [h.2]; exact Below.refl _ _⟩)))
  clear h hsr hr hl q0 q1 q2 q3 HX HI HL HC HT c0 c1 c2 c3 c4 c5 c6 c7 c8 c9 c10 c11 c12 c13 c14 c15 c16
  go_enter Tryz.func48, Tryz.ntmps48
  go_wp2_with fail
  refine wp_region_quiet_below (by kernel_rfl) (by kernel_rfl) ?_
  repeat (go_big_quiet_step (first | (go_at_call 49; exact CI.out _ _) | (go_at_call 31; exact CL.out _ _) | (go_at_call 61; exact CC.out _ _) | (go_at_call 60; exact CT.out _ _)))
  refine wpQuiet_nil ?_
  intro _ hw'
  obtain ⟨⟨dq, osq⟩, hw''⟩ := hw'
  subst hw''
  have HB6 := boxed (HZ.out _ (below_regrown wZ dq osq))
  generalize Go.Sort.grow (redrawn wZ dq) osq = w5 at *
  go_wp2_with fail
  go_ret
  exact ⟨rfl, HB6.out⟩
/-- A line. -/
def lnV (e : Int) (f : Ft) (c : Int) : Value := .agg #[.int .i64 e, .int .i64 f.num, .int .i64 f.den, .int .i64 f.bad, .int .i64 f.cls, .bool f.over, .int .i64 c]
/-- How a hopeless line is set. -/
def wF : Ft := ⟨0, 0, 10000, 3, false⟩
set_option maxRecDepth 100000 in
set_option maxHeartbeats 4000000 in
theorem worst_any (h : ParaAt S w pb n I) (hn : n ≤ 262144) (hsr : SrAt w sb pb width s rb (nbk I n) rc bound near v1 v2) (e : Nat) (he : e < nbk I n) (r : Int) (hr : w.cell? ⟨rb, e * 8 + 6, none⟩ = some (.int .i64 r)) (fl : Bool) :
    Calls Tryz.prog 66 #[.pointer (some ⟨sb, 0, none⟩), .int .i64 (e : Int), .bool fl] w fun e' w' =>
      e' = .returned (lnV e wF (tt (cst s wF (itb I n e) (-1) fl (decide (e + 1 = nbk I n))) r)) ∧ Below w.heap.size w w' := by
  obtain ⟨w0, hw0, hb0, hz0, HN⟩ := res_any w #[.int .i64 0, .int .i64 0, .int .i64 0, .int .i64 0, .int .i64 0, .bool false, .int .i64 0] 74 _ rfl
  replace HN := boxed HN
  have HC := boxed (fun W (hb : Below w0.heap.size w0 W) => cost9_any (sb := sb) (rb := rb) (rc := rc) (width := width) (bound := bound) (near := near) (v1 := v1) (v2 := v2) (s := s) ((h.below hb0).below hb) hn (by
    unfold SrAt at hsr ⊢
    have hlt : sb < w.heap.size := World.block_lt_of_cell? w _ (row_cell hsr 0 _ rfl)
    rw [hb.block sb (by omega), hb0.block sb hlt]
    exact hsr) e 3 he (by omega) r (hold hb (hold hb0 hr)) 0 0 10000 false (-1) (by omega) fl)
  unfold lnV wF
  simp only
  unfold aheV at HC
  generalize hG : tt (cst s ⟨0, 0, 10000, 3, false⟩ (itb I n e) (-1) fl (decide (e + 1 = nbk I n))) r = T
  have e3 : (((3 : Nat) : Int)) = 3 := rfl
  rw [e3, hG] at HC
  clear h hsr hr hG
  go_enter Tryz.func66, Tryz.ntmps66
  go_wp2_with fail
  obtain ⟨wS, hwS⟩ : ∃ wS, w0.alloc (.cells #[.int .i64 0, .int .i64 0, .int .i64 10000, .int .i64 3, .bool false] 72) = wS := ⟨_, rfl⟩
  have hbS : Below w0.heap.size w0 wS := by rw [← hwS]; exact (Below.refl _ _).alloc (Nat.le_refl _) _
  have heS : wS.heap[w.heap.size + 1]? = some (.cells #[.int .i64 0, .int .i64 0, .int .i64 10000, .int .i64 3, .bool false] 72 (0, 0)) := by rw [← hwS, ← hz0]; exact heap_alloc_new w0 _
  have hzS : wS.heap.size = w.heap.size + 2 := by rw [← hwS]; simp [hz0]
  have HY : Box (∀ W : World, W.heap[w.heap.size + 1]? = some (.cells #[.int .i64 0, .int .i64 0, .int .i64 10000, .int .i64 3, .bool false] 72 (0, 0)) → W.cell? ⟨w.heap.size + 1, 0, none⟩ = some (.int .i64 0) ∧ W.cell? ⟨w.heap.size + 1, 1, none⟩ = some (.int .i64 0) ∧ W.cell? ⟨w.heap.size + 1, 2, none⟩ = some (.int .i64 10000) ∧ W.cell? ⟨w.heap.size + 1, 3, none⟩ = some (.int .i64 3) ∧ W.cell? ⟨w.heap.size + 1, 4, none⟩ = some (.bool false)) := boxed (fun W he => ⟨row_cell he 0 _ rfl, row_cell he 1 _ rfl, row_cell he 2 _ rfl, row_cell he 3 _ rfl, row_cell he 4 _ rfl⟩)
  have HK : Box (∀ W, Below wS.heap.size wS W → W.heap[w.heap.size + 1]? = some (.cells #[.int .i64 0, .int .i64 0, .int .i64 10000, .int .i64 3, .bool false] 72 (0, 0)) ∧ Below w0.heap.size w0 W) := boxed (fun W hb => ⟨(hb.block _ (by omega)).trans heS, below_step hbS (Nat.le_refl _) hb⟩)
  have HD : Box (Below wS.heap.size wS wS.drew) := boxed (Below.refl _ _).drew
  clear heS hbS
  rw [hwS]
  clear hwS
  go_region_held3 (fun W => W.cell? ⟨w.heap.size + 1, 0, none⟩ = some (.int .i64 0) ∧ W.cell? ⟨w.heap.size + 1, 1, none⟩ = some (.int .i64 0) ∧ W.cell? ⟨w.heap.size + 1, 2, none⟩ = some (.int .i64 10000) ∧ W.cell? ⟨w.heap.size + 1, 3, none⟩ = some (.int .i64 3) ∧ W.cell? ⟨w.heap.size + 1, 4, none⟩ = some (.bool false))
    (first | with_reducible exact HY.out _ (HK.out _ HD.out).1 | with_reducible exact HY.out _ (HK.out _ HB1.out).1 | with_reducible exact HXf.out)
    (first
      | (go_at_call 48; with_reducible refine (HC.out _ (HK.out _ HD.out).2).mono ?_; rintro e' w1 ⟨rfl, hb1⟩; have HB1 := boxed (below_step HD.out (Nat.le_refl _) hb1); clear hb1
         obtain ⟨HE, HF⟩ := HN.out _ (HK.out _ HB1.out).2
         obtain ⟨⟨x0, x1, x2, x3, x4, x5, x6⟩, y0, y1, y2, y3, y4, y5, y6⟩ := cells7 HE
         have HP := sets_heap w.heap.size 74 [.int .i64 (e : Int), .int .i64 0, .int .i64 0, .int .i64 10000, .int .i64 3, .bool false, .int .i64 T] 0 w1 _ HE
         have HXf := HY.out _ ((sets_other w.heap.size (w.heap.size + 1) (by omega) [.int .i64 (e : Int), .int .i64 0, .int .i64 0, .int .i64 10000, .int .i64 3, .bool false, .int .i64 T] 0 w1).trans (HK.out _ HB1.out).1)
         have HFf := HF.trans (sets_below w.heap.size w.heap.size (Nat.le_refl _) [.int .i64 (e : Int), .int .i64 0, .int .i64 0, .int .i64 10000, .int .i64 3, .bool false, .int .i64 T] 0 w1)
         simp only [World.setCells, Nat.zero_add, Nat.reduceAdd] at HP HXf HFf
         replace HP := boxed HP; replace HXf := boxed HXf; replace HFf := boxed HFf
         clear HE HF))
  go_wp2_with fail
  refine bodyPost_ret (v := .agg #[.int .i64 (e : Int), .int .i64 0, .int .i64 0, .int .i64 10000, .int .i64 3, .bool false, .int .i64 T]) ?_ rfl ⟨rfl, HFf.out⟩
  have HP2 : _ = some (Obj.cells #[.int .i64 (e : Int), .int .i64 0, .int .i64 0, .int .i64 10000, .int .i64 3, .bool false, .int .i64 T] 74 (0, 0)) := HP.out
  obtain ⟨⟨q0, q1, q2, q3, q4, q5, q6⟩, -⟩ := cells7 HP2
  simp [results, Tryz.results66, go_sem, q0, q1, q2, q3, q4, q5, q6]
end
end Go.Proofs.YtkmeeblkckfepabGreat
