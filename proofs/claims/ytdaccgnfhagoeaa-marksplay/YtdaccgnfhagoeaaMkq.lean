/-
  The law's step: a call at the program's set and at the document's.
-/
import Derived.Test.YtdaccgnfhagoeaaMki
import Derived.Test.YtdaccgnfhagoeaaMkm
import Derived.Test.YtdaccgnfhagoeaaMko
namespace Go.Proofs.Ytdaccgnfhagoeaa
open Go.RowKit
set_option linter.unusedSimpArgs false
set_option linter.unusedVariables false

/-- A call: its kind, its numbers, whether the mark stays. -/
structure Opr where
  k : Int
  a : Int
  b : Int
  t : Bool
def Opr.val (o : Opr) : Value := .agg #[.int .i64 o.k, .int .i64 o.a, .int .i64 o.b, .bool o.t]
/-- The set behind a call. -/
def stp (s : St) (o : Opr) : St := if o.k = 0 then (s.put o.a o.t).1 else if o.k = 1 then (s.ins o.a o.b).1 else if o.k = 2 then (s.del o.a o.b).1 else if o.k = 3 then (s.move o.a o.b).1 else if o.k = 4 then (s.drop o.a).1 else s
theorem stp_ok {s : St} {N : Int} (h : s.ok N) (o : Opr) : (stp s o).ok (N + 1) := by
  unfold stp
  split
  · exact h.put _ _
  split
  · exact (h.ins _ _).mono (by omega)
  split
  · exact (h.del _ _).mono (by omega)
  split
  · exact (h.move _ _).mono (by omega)
  split
  · exact (h.drop _).mono (by omega)
  · exact h.mono (by omega)
theorem cells4 {W : World} {rb : Nat} {v0 v1 v2 v3 : Value} {t : TypeId} (e : W.heap[rb]? = some (.cells #[v0, v1, v2, v3] t (0, 0))) : W.cell? ⟨rb, 0, none⟩ = some v0 ∧ W.cell? ⟨rb, 1, none⟩ = some v1 ∧ W.cell? ⟨rb, 2, none⟩ = some v2 ∧ W.cell? ⟨rb, 3, none⟩ = some v3 := by
  refine ⟨?_, ?_, ?_, ?_⟩ <;> simp [World.cell?, e]
theorem laid3 (w : World) (A B C : Obj) : (((w.alloc A).alloc B).alloc C).heap[w.heap.size]? = some A ∧ (((w.alloc A).alloc B).alloc C).heap[w.heap.size + 1]? = some B ∧ (((w.alloc A).alloc B).alloc C).heap[w.heap.size + 2]? = some C ∧ Below w.heap.size w (((w.alloc A).alloc B).alloc C) ∧ (((w.alloc A).alloc B).alloc C).heap.size = w.heap.size + 3 := by
  obtain ⟨h0, h1, hb, hz⟩ := laid2 w A B
  have l := laid1 ((w.alloc A).alloc B) C
  rw [hz] at l
  exact ⟨by rw [l.2.1.block _ (by omega)]; exact h0, by rw [l.2.1.block _ (by omega)]; exact h1, l.1, hb.trans (l.2.1.mono (by omega)), l.2.2⟩
theorem put3_other {w : World} {rb k : Nat} (h : k ≠ rb) (v0 v1 v2 : Value) : (put3 w rb v0 v1 v2).heap[k]? = w.heap[k]? := by
  unfold put3
  rw [heap_setCell_other _ _ _ _ (by exact h), heap_setCell_other _ _ _ _ (by exact h), heap_setCell_other _ _ _ _ (by exact h)]
section
variable {B : Nat} {w : World} {sb : Nat} {v x : Value} {s : St} {N : Int}
set_option maxRecDepth 100000 in
set_option maxHeartbeats 16000000 in
theorem step16_any (h : PS B w sb v s) (hr : RS B w x s) (hB : B ≤ w.heap.size) (hk : s.ok N) (hN : N ≤ 1000000) (op : Opr) : Calls Try.prog 19 #[.pointer (some ⟨sb, 0, none⟩), x, op.val] w fun e w' => (∃ x' v', e = .returned (.tuple #[x', .bool true]) ∧ PS B w' sb v' (stp s op) ∧ RS B w' x' (stp s op)) ∧ Chg (Own sb v) w w' := by
  obtain ⟨k, a, b, t⟩ := op
  unfold Opr.val
  obtain ⟨ao, cap, rfl, ho⟩ := rbox hr
  have l3 := laid3 w (.cells #[.int .i64 s.sz, .int .i64 s.nx, .slice ao s.L.length cap] 31) (.cells #[.int .i64 k, .int .i64 a, .int .i64 b, .bool t] 51) (.cells #[.int .i64 0, .int .i64 0, .slice none 0 0] 31)
  generalize hW : ((w.alloc (.cells #[.int .i64 s.sz, .int .i64 s.nx, .slice ao s.L.length cap] 31)).alloc (.cells #[.int .i64 k, .int .i64 a, .int .i64 b, .bool t] 51)).alloc (.cells #[.int .i64 0, .int .i64 0, .slice none 0 0] 31) = W at l3
  obtain ⟨l0, l1, l2, lb, lz⟩ := l3
  obtain ⟨⟨k0, k1, k2⟩, -⟩ := cells3 l0
  obtain ⟨o0, o1, o2, o3⟩ := cells4 l1
  obtain ⟨⟨x0, x1, x2⟩, z0, z1, z2⟩ := cells3 l2
  have hsb := h.lt
  have HP := boxed (h.below lb)
  have HR := boxed (hr.below lb)
  have hBW : B ≤ W.heap.size := by omega
  have HW := boxed hW
  have HK := boxed hk
  have HX1 : Box (∀ (w1 : World) (s1 : St) (a1 : Option Addr) (c1 : Nat), Below W.heap.size W w1 → ∀ W', Below (w1.heap.size + 1) (w1.alloc (.cells #[.int .i64 s1.sz, .int .i64 s1.nx, .slice a1 s1.L.length c1] 31)) W' →
      (W'.cell? ⟨w1.heap.size, 0, none⟩ = some (.int .i64 s1.sz) ∧ W'.cell? ⟨w1.heap.size, 1, none⟩ = some (.int .i64 s1.nx) ∧ W'.cell? ⟨w1.heap.size, 2, none⟩ = some (.slice a1 s1.L.length c1) ∧ W'.cell? ⟨w.heap.size + 1, 1, none⟩ = some (.int .i64 a) ∧ W'.cell? ⟨w.heap.size + 1, 2, none⟩ = some (.int .i64 b)) ∧ W'.cell? ⟨w.heap.size + 1, 3, none⟩ = some (.bool t)) := boxed (by
    intro w1 s1 a1 c1 hb1 W' hb2
    have hz1 := hb1.size
    have e0 : W'.heap[w1.heap.size]? = some (.cells #[.int .i64 s1.sz, .int .i64 s1.nx, .slice a1 s1.L.length c1] 31 (0, 0)) := by rw [hb2.block _ (by omega)]; exact heap_alloc_new _ _
    have e1 : W'.heap[w.heap.size + 1]? = some (.cells #[.int .i64 k, .int .i64 a, .int .i64 b, .bool t] 51 (0, 0)) := by rw [hb2.block _ (by omega), heap_alloc_old _ _ (by omega), hb1.block _ (by omega)]; exact l1
    obtain ⟨g0, g1, g2⟩ := (cells3 e0).1
    obtain ⟨p0, p1, p2, p3⟩ := cells4 e1
    exact ⟨⟨g0, g1, g2, p1, p2⟩, p3⟩)
  have HFin : Box (∀ (w1 : World) (s1 : St) (a1 : Option Addr) (c1 : Nat) (W' w5 : World) (v' : Value), Below W.heap.size W w1 → RS B w1 (.agg #[.int .i64 s1.sz, .int .i64 s1.nx, .slice a1 s1.L.length c1]) s1 → Below (w1.heap.size + 1) (w1.alloc (.cells #[.int .i64 s1.sz, .int .i64 s1.nx, .slice a1 s1.L.length c1] 31)) W' → PS B w5 sb v' s1 → Chg (Own sb v) W' w5 →
      (w5.cell? ⟨w1.heap.size, 0, none⟩ = some (.int .i64 s1.sz) ∧ w5.cell? ⟨w1.heap.size, 1, none⟩ = some (.int .i64 s1.nx) ∧ w5.cell? ⟨w1.heap.size, 2, none⟩ = some (.slice a1 s1.L.length c1) ∧ w5.cell? ⟨w.heap.size + 1, 1, none⟩ = some (.int .i64 a) ∧ w5.cell? ⟨w.heap.size + 1, 2, none⟩ = some (.int .i64 b)) ∧
      ((w5.cell? ⟨w.heap.size + 2, 0, none⟩ = some (.int .i64 0) ∧ w5.cell? ⟨w.heap.size + 2, 1, none⟩ = some (.int .i64 0) ∧ w5.cell? ⟨w.heap.size + 2, 2, none⟩ = some (.slice none 0 0)) ∧ w5.frozen? ⟨w.heap.size + 2, 0, none⟩ = false ∧ w5.frozen? ⟨w.heap.size + 2, 1, none⟩ = false ∧ w5.frozen? ⟨w.heap.size + 2, 2, none⟩ = false) ∧
      Box ((((w5.setCell ⟨w.heap.size + 2, 0, none⟩ (.int .i64 s1.sz)).setCell ⟨w.heap.size + 2, 1, none⟩ (.int .i64 s1.nx)).setCell ⟨w.heap.size + 2, 2, none⟩ (.slice a1 s1.L.length c1)).cell? ⟨w1.heap.size, 0, none⟩ = some (.int .i64 s1.sz) ∧ (((w5.setCell ⟨w.heap.size + 2, 0, none⟩ (.int .i64 s1.sz)).setCell ⟨w.heap.size + 2, 1, none⟩ (.int .i64 s1.nx)).setCell ⟨w.heap.size + 2, 2, none⟩ (.slice a1 s1.L.length c1)).cell? ⟨w1.heap.size, 1, none⟩ = some (.int .i64 s1.nx) ∧ (((w5.setCell ⟨w.heap.size + 2, 0, none⟩ (.int .i64 s1.sz)).setCell ⟨w.heap.size + 2, 1, none⟩ (.int .i64 s1.nx)).setCell ⟨w.heap.size + 2, 2, none⟩ (.slice a1 s1.L.length c1)).cell? ⟨w1.heap.size, 2, none⟩ = some (.slice a1 s1.L.length c1) ∧ (((w5.setCell ⟨w.heap.size + 2, 0, none⟩ (.int .i64 s1.sz)).setCell ⟨w.heap.size + 2, 1, none⟩ (.int .i64 s1.nx)).setCell ⟨w.heap.size + 2, 2, none⟩ (.slice a1 s1.L.length c1)).cell? ⟨w.heap.size + 1, 1, none⟩ = some (.int .i64 a) ∧ (((w5.setCell ⟨w.heap.size + 2, 0, none⟩ (.int .i64 s1.sz)).setCell ⟨w.heap.size + 2, 1, none⟩ (.int .i64 s1.nx)).setCell ⟨w.heap.size + 2, 2, none⟩ (.slice a1 s1.L.length c1)).cell? ⟨w.heap.size + 1, 2, none⟩ = some (.int .i64 b)) ∧
      Box ((put3 w5 (w.heap.size + 2) (.int .i64 s1.sz) (.int .i64 s1.nx) (.slice a1 s1.L.length c1)).heap[w.heap.size + 2]? = some (.cells #[.int .i64 s1.sz, .int .i64 s1.nx, .slice a1 s1.L.length c1] 31 (0, 0)) ∧ PS B (put3 w5 (w.heap.size + 2) (.int .i64 s1.sz) (.int .i64 s1.nx) (.slice a1 s1.L.length c1)) sb v' s1 ∧ RS B (put3 w5 (w.heap.size + 2) (.int .i64 s1.sz) (.int .i64 s1.nx) (.slice a1 s1.L.length c1)) (.agg #[.int .i64 s1.sz, .int .i64 s1.nx, .slice a1 s1.L.length c1]) s1 ∧ Chg (Own sb v) w (put3 w5 (w.heap.size + 2) (.int .i64 s1.sz) (.int .i64 s1.nx) (.slice a1 s1.L.length c1)))) := boxed (by
    intro w1 s1 a1 c1 W' w5 v' hb1 hr1 hb2 hp5 hc5
    have hz1 := hb1.size
    have hz2 := hb2.size
    simp at hz2
    have hbA : Below w1.heap.size w1 W' := ((Below.refl _ w1).alloc (Nat.le_refl _) _).trans (hb2.mono (by omega))
    have hbW : Below W.heap.size W W' := hb1.trans (hbA.mono (by omega))
    have e0 : W'.heap[w1.heap.size]? = some (.cells #[.int .i64 s1.sz, .int .i64 s1.nx, .slice a1 s1.L.length c1] 31 (0, 0)) := by rw [hb2.block _ (by omega)]; exact heap_alloc_new _ _
    have e1 : W'.heap[w.heap.size + 1]? = some (.cells #[.int .i64 k, .int .i64 a, .int .i64 b, .bool t] 51 (0, 0)) := by rw [hbW.block _ (by omega)]; exact l1
    have e2 : W'.heap[w.heap.size + 2]? = some (.cells #[.int .i64 0, .int .i64 0, .slice none 0 0] 31 (0, 0)) := by rw [hbW.block _ (by omega)]; exact l2
    have hpW := HP.out.below hbW
    have hne : ∀ (q : Nat) (cs : Array Value) (ty : TypeId), W'.heap[q]? = some (.cells cs ty (0, 0)) → q ≠ sb → ty ≠ 36 → ¬ Own sb v q := by
      intro q cs ty hq hqs hty hO
      rcases hO with e | e
      · exact hqs e
      · exact own_ne hpW.own hq hty e
    have f0 := (hc5.block _ (heap_lt e0) (hne _ _ _ e0 (by omega) (by decide))).trans e0
    have f1 := (hc5.block _ (heap_lt e1) (hne _ _ _ e1 (by omega) (by decide))).trans e1
    have f2 := (hc5.block _ (heap_lt e2) (hne _ _ _ e2 (by omega) (by decide))).trans e2
    have hrW := hr1.below hbA
    have hr5 := hrW.keep hpW hc5
    have g0 : (put3 w5 (w.heap.size + 2) (.int .i64 s1.sz) (.int .i64 s1.nx) (.slice a1 s1.L.length c1)).heap[w1.heap.size]? = _ := (put3_other (by omega) _ _ _).trans f0
    have g1 : (put3 w5 (w.heap.size + 2) (.int .i64 s1.sz) (.int .i64 s1.nx) (.slice a1 s1.L.length c1)).heap[w.heap.size + 1]? = _ := (put3_other (by omega) _ _ _).trans f1
    obtain ⟨c0, c1', c2⟩ := (cells3 f0).1
    obtain ⟨q0, q1, q2, q3⟩ := cells4 f1
    obtain ⟨d0, d1, d2⟩ := (cells3 g0).1
    obtain ⟨r0, r1, r2, r3⟩ := cells4 g1
    have hch : Chg (fun q => q = w.heap.size + 2) w5 (put3 w5 (w.heap.size + 2) (.int .i64 s1.sz) (.int .i64 s1.nx) (.slice a1 s1.L.length c1)) := Chg.of_grown (put3_grown _ _ _ _ _) (fun g e => by injection e with e; exact e.symm)
    refine ⟨⟨c0, c1', c2, q1, q2⟩, cells3 f2, boxed ⟨d0, d1, d2, r1, r2⟩, boxed ⟨put3_heap f2 _ _ _, ?_, ?_, ?_⟩⟩
    · refine hp5.keep hch ?_
      rintro q hO rfl
      rcases hO with e | e
      · omega
      · exact own_ne hp5.own f2 (by decide) e
    · obtain ⟨u, eu, hu⟩ := hr5
      refine ⟨u, eu, chg_own hu hch ?_⟩
      rintro q hq rfl
      exact own_ne hu f2 (by decide) hq
    · have m1 : Chg (fun q => Own sb v q ∨ q = w.heap.size + 2) w W' := Chg.of_below (lb.trans (hbW.mono (by omega)))
      have m2 : Chg (fun q => Own sb v q ∨ q = w.heap.size + 2) W' w5 := hc5.mono (fun q _ hq => .inl hq)
      have m3 : Chg (fun q => Own sb v q ∨ q = w.heap.size + 2) w5 (put3 w5 (w.heap.size + 2) (.int .i64 s1.sz) (.int .i64 s1.nx) (.slice a1 s1.L.length c1)) := hch.mono (fun q _ hq => .inr hq)
      exact ((m1.trans m2).trans m3).mono (fun q hq hO => by
        rcases hO with hO | hO
        · exact hO
        · omega))
  by_cases c0 : k = 0
  · have HS : Box (stp s ⟨k, a, b, t⟩ = (s.put a t).1) := boxed (by unfold stp; simp only; rw [if_pos c0])
    have y0 : (k == 0) = true := by simpa using c0
    have HRC := boxed (refput_any HR.out hBW HK.out hN a t)
    have HPC : Box (∀ W1, PS B W1 sb v s → B ≤ W1.heap.size → Calls Try.prog 22 #[.pointer (some ⟨sb, 0, none⟩), .int .i64 a, .bool t] W1 fun e w' => e = .returned (.tuple #[.int .i64 (s.put a t).2.1, .int .i64 (s.put a t).2.2]) ∧ (∃ v', PS B w' sb v' (s.put a t).1) ∧ Chg (Own sb v) W1 w') := boxed (fun W1 hp hb => put16_any hp hb HK.out hN a t)
    generalize (s.put a t).2.1 = M at *
    generalize (s.put a t).2.2 = E at *
    generalize (s.put a t).1 = s1 at *
    clear c0 l0 l1 l2 lb ho hr h hW hk x0 x1 x2 z0 z1 z2
    go_enter Try.func19, Try.ntmps19
    go_upto_region 1 with (fail)
    rw [HW.out]
    go_wp2_with fail
    refine HRC.out.mono ?_
    rintro e w1 ⟨⟨xx, rfl, hr1⟩, hb1⟩
    obtain ⟨a1, c1, rfl, -⟩ := rbox hr1
    have HR1 := boxed hr1
    have HB1 := boxed hb1
    clear hr1 hb1 HRC
    have HA : Box (Below w1.heap.size w1 (w1.alloc (.cells #[.int .i64 s1.sz, .int .i64 s1.nx, .slice a1 s1.L.length c1] 31))) := boxed ((Below.refl _ _).alloc (Nat.le_refl _) _)
    have HPS := boxed (HP.out.below (HB1.out.trans (HA.out.mono HB1.out.size)))
    have hb9 : B ≤ (w1.alloc (.cells #[.int .i64 s1.sz, .int .i64 s1.nx, .slice a1 s1.L.length c1] 31)).heap.size := by have := HB1.out.size; simp; omega
    obtain ⟨⟨p0, p1, p2, p3, p4⟩, p5⟩ := HX1.out w1 s1 a1 c1 HB1.out _ (Below.refl _ _)
    go_wp2_with fail
    refine (HPC.out _ HPS.out hb9).mono ?_
    rintro e w5 ⟨rfl, ⟨v', hp5⟩, hc5⟩
    obtain ⟨⟨r0, r1, r2, r3, r4⟩, ⟨⟨x0, x1, x2⟩, z0, z1, z2⟩, -, HQ⟩ := HFin.out w1 s1 a1 c1 _ w5 v' HB1.out HR1.out (Below.refl _ _) hp5 hc5
    clear hp5 hc5 HFin HX1 HPC HPS p0 p1 p2 p3 p4 p5 k0 k1 k2 o0 o1 o2 o3
    go_wp2_with fail
    refine bodyPost_ret (v := .tuple #[.agg #[.int .i64 s1.sz, .int .i64 s1.nx, .slice a1 s1.L.length c1], .bool true]) ?_ ?_ ?_
    · exact results_row_tmp Try.results19 _ _ (w.heap.size + 2) 31 _ (0, 0) _ rfl HQ.out.1 Try.underlying31 rfl (by kernel_rfl)
    · first | rfl | simp
    · exact ⟨⟨_, v', rfl, by rw [HS.out]; exact HQ.out.2.1, by rw [HS.out]; exact HQ.out.2.2.1⟩, HQ.out.2.2.2⟩
  by_cases c1 : k = 1
  · have HS : Box (stp s ⟨k, a, b, t⟩ = (s.ins a b).1) := boxed (by unfold stp; simp only; rw [if_neg c0, if_pos c1])
    have n0 : (k == 0) = false := by simpa using c0
    have y1 : (k == 1) = true := by simpa using c1
    have HRC := boxed (refinsert_any HR.out hBW HK.out a b)
    have HPC : Box (∀ W1, PS B W1 sb v s → B ≤ W1.heap.size → Calls Try.prog 20 #[.pointer (some ⟨sb, 0, none⟩), .int .i64 a, .int .i64 b] W1 fun e w' => e = .returned (.int .i64 (s.ins a b).2) ∧ (∃ v', PS B w' sb v' (s.ins a b).1) ∧ Chg (Own sb v) W1 w') := boxed (fun W1 hp hb => (insert16_any hp hb HK.out a b).mono (fun e w' hh => ⟨hh.1, ⟨v, hh.2.1⟩, hh.2.2⟩))
    generalize (s.ins a b).2 = E at *
    generalize (s.ins a b).1 = s1 at *
    clear c0 c1 l0 l1 l2 lb ho hr h hW hk x0 x1 x2 z0 z1 z2
    go_enter Try.func19, Try.ntmps19
    go_upto_region 1 with (fail)
    rw [HW.out]
    go_wp2_with fail
    refine HRC.out.mono ?_
    rintro e w1 ⟨⟨xx, rfl, hr1⟩, hb1⟩
    obtain ⟨a1, c1, rfl, -⟩ := rbox hr1
    have HR1 := boxed hr1
    have HB1 := boxed hb1
    clear hr1 hb1 HRC
    have HA : Box (Below w1.heap.size w1 (w1.alloc (.cells #[.int .i64 s1.sz, .int .i64 s1.nx, .slice a1 s1.L.length c1] 31))) := boxed ((Below.refl _ _).alloc (Nat.le_refl _) _)
    have HPS := boxed ((HP.out.below (HB1.out.trans (HA.out.mono HB1.out.size))).below (Below.refl _ _).drew)
    have hb9 : B ≤ (w1.alloc (.cells #[.int .i64 s1.sz, .int .i64 s1.nx, .slice a1 s1.L.length c1] 31)).drew.heap.size := by have := HB1.out.size; simp; omega
    have HDr : Box (Below (w1.heap.size + 1) (w1.alloc (.cells #[.int .i64 s1.sz, .int .i64 s1.nx, .slice a1 s1.L.length c1] 31)) (w1.alloc (.cells #[.int .i64 s1.sz, .int .i64 s1.nx, .slice a1 s1.L.length c1] 31)).drew) := boxed ((Below.refl _ _).drew)
    have HXd := boxed (HX1.out w1 s1 a1 c1 HB1.out _ HDr.out).1
    go_wp2_with fail
    go_region_held3 (fun W' => W'.cell? ⟨w1.heap.size, 0, none⟩ = some (.int .i64 s1.sz) ∧ W'.cell? ⟨w1.heap.size, 1, none⟩ = some (.int .i64 s1.nx) ∧ W'.cell? ⟨w1.heap.size, 2, none⟩ = some (.slice a1 s1.L.length c1) ∧ W'.cell? ⟨w.heap.size + 1, 1, none⟩ = some (.int .i64 a) ∧ W'.cell? ⟨w.heap.size + 1, 2, none⟩ = some (.int .i64 b))
      (first | with_reducible exact HXd.out | with_reducible exact HX5.out | with_reducible exact HX6.out)
      (first | (go_at_call 20; refine (HPC.out _ HPS.out hb9).mono ?_; rintro e' w5 ⟨rfl, ⟨v', hp5⟩, hc5⟩; obtain ⟨hx5, ⟨⟨x0, x1, x2⟩, z0, z1, z2⟩, HX6, HQ⟩ := HFin.out w1 s1 a1 c1 _ w5 v' HB1.out HR1.out HDr.out hp5 hc5; have HX5 := boxed hx5; clear hp5 hc5 hx5))
    go_wp2_with fail
    refine bodyPost_ret (v := .tuple #[.agg #[.int .i64 s1.sz, .int .i64 s1.nx, .slice a1 s1.L.length c1], .bool true]) ?_ ?_ ?_
    · exact results_row_tmp Try.results19 _ _ (w.heap.size + 2) 31 _ (0, 0) _ rfl HQ.out.1 Try.underlying31 rfl (by kernel_rfl)
    · first | rfl | simp
    · exact ⟨⟨_, v', rfl, by rw [HS.out]; exact HQ.out.2.1, by rw [HS.out]; exact HQ.out.2.2.1⟩, HQ.out.2.2.2⟩
  by_cases c2 : k = 2
  · have HS : Box (stp s ⟨k, a, b, t⟩ = (s.del a b).1) := boxed (by unfold stp; simp only; rw [if_neg c0, if_neg c1, if_pos c2])
    have n0 : (k == 0) = false := by simpa using c0
    have n1 : (k == 1) = false := by simpa using c1
    have y2 : (k == 2) = true := by simpa using c2
    have HRC := boxed (refdelete_any HR.out hBW HK.out a b)
    have HPC : Box (∀ W1, PS B W1 sb v s → B ≤ W1.heap.size → Calls Try.prog 21 #[.pointer (some ⟨sb, 0, none⟩), .int .i64 a, .int .i64 b] W1 fun e w' => e = .returned (.int .i64 (s.del a b).2) ∧ (∃ v', PS B w' sb v' (s.del a b).1) ∧ Chg (Own sb v) W1 w') := boxed (fun W1 hp hb => (delete16_any hp hb HK.out a b).mono (fun e w' hh => ⟨hh.1, ⟨v, hh.2.1⟩, hh.2.2⟩))
    generalize (s.del a b).2 = E at *
    generalize (s.del a b).1 = s1 at *
    clear c0 c1 c2 l0 l1 l2 lb ho hr h hW hk x0 x1 x2 z0 z1 z2
    go_enter Try.func19, Try.ntmps19
    go_upto_region 1 with (fail)
    rw [HW.out]
    go_wp2_with fail
    refine HRC.out.mono ?_
    rintro e w1 ⟨⟨xx, rfl, hr1⟩, hb1⟩
    obtain ⟨a1, c1, rfl, -⟩ := rbox hr1
    have HR1 := boxed hr1
    have HB1 := boxed hb1
    clear hr1 hb1 HRC
    have HA : Box (Below w1.heap.size w1 (w1.alloc (.cells #[.int .i64 s1.sz, .int .i64 s1.nx, .slice a1 s1.L.length c1] 31))) := boxed ((Below.refl _ _).alloc (Nat.le_refl _) _)
    have HPS := boxed ((HP.out.below (HB1.out.trans (HA.out.mono HB1.out.size))).below (Below.refl _ _).drew)
    have hb9 : B ≤ (w1.alloc (.cells #[.int .i64 s1.sz, .int .i64 s1.nx, .slice a1 s1.L.length c1] 31)).drew.heap.size := by have := HB1.out.size; simp; omega
    have HDr : Box (Below (w1.heap.size + 1) (w1.alloc (.cells #[.int .i64 s1.sz, .int .i64 s1.nx, .slice a1 s1.L.length c1] 31)) (w1.alloc (.cells #[.int .i64 s1.sz, .int .i64 s1.nx, .slice a1 s1.L.length c1] 31)).drew) := boxed ((Below.refl _ _).drew)
    have HXd := boxed (HX1.out w1 s1 a1 c1 HB1.out _ HDr.out).1
    go_wp2_with fail
    go_region_held3 (fun W' => W'.cell? ⟨w1.heap.size, 0, none⟩ = some (.int .i64 s1.sz) ∧ W'.cell? ⟨w1.heap.size, 1, none⟩ = some (.int .i64 s1.nx) ∧ W'.cell? ⟨w1.heap.size, 2, none⟩ = some (.slice a1 s1.L.length c1) ∧ W'.cell? ⟨w.heap.size + 1, 1, none⟩ = some (.int .i64 a) ∧ W'.cell? ⟨w.heap.size + 1, 2, none⟩ = some (.int .i64 b))
      (first | with_reducible exact HXd.out | with_reducible exact HX5.out | with_reducible exact HX6.out)
      (first | (go_at_call 21; refine (HPC.out _ HPS.out hb9).mono ?_; rintro e' w5 ⟨rfl, ⟨v', hp5⟩, hc5⟩; obtain ⟨hx5, ⟨⟨x0, x1, x2⟩, z0, z1, z2⟩, HX6, HQ⟩ := HFin.out w1 s1 a1 c1 _ w5 v' HB1.out HR1.out HDr.out hp5 hc5; have HX5 := boxed hx5; clear hp5 hc5 hx5))
    go_wp2_with fail
    refine bodyPost_ret (v := .tuple #[.agg #[.int .i64 s1.sz, .int .i64 s1.nx, .slice a1 s1.L.length c1], .bool true]) ?_ ?_ ?_
    · exact results_row_tmp Try.results19 _ _ (w.heap.size + 2) 31 _ (0, 0) _ rfl HQ.out.1 Try.underlying31 rfl (by kernel_rfl)
    · first | rfl | simp
    · exact ⟨⟨_, v', rfl, by rw [HS.out]; exact HQ.out.2.1, by rw [HS.out]; exact HQ.out.2.2.1⟩, HQ.out.2.2.2⟩
  by_cases c3 : k = 3
  · have HS : Box (stp s ⟨k, a, b, t⟩ = (s.move a b).1) := boxed (by unfold stp; simp only; rw [if_neg c0, if_neg c1, if_neg c2, if_pos c3])
    have n0 : (k == 0) = false := by simpa using c0
    have n1 : (k == 1) = false := by simpa using c1
    have n2 : (k == 2) = false := by simpa using c2
    have y3 : (k == 3) = true := by simpa using c3
    have HRC := boxed (refmove_any HR.out hBW HK.out a b)
    have HPC : Box (∀ W1, PS B W1 sb v s → B ≤ W1.heap.size → Calls Try.prog 32 #[.pointer (some ⟨sb, 0, none⟩), .int .i64 a, .int .i64 b] W1 fun e w' => e = .returned (.int .i64 (s.move a b).2) ∧ (∃ v', PS B w' sb v' (s.move a b).1) ∧ Chg (Own sb v) W1 w') := boxed (fun W1 hp hb => (move16_any hp hb HK.out a b).mono (fun e w' hh => ⟨hh.1, ⟨v, hh.2.1⟩, hh.2.2⟩))
    generalize (s.move a b).2 = E at *
    generalize (s.move a b).1 = s1 at *
    clear c0 c1 c2 c3 l0 l1 l2 lb ho hr h hW hk x0 x1 x2 z0 z1 z2
    go_enter Try.func19, Try.ntmps19
    go_upto_region 1 with (fail)
    rw [HW.out]
    go_wp2_with fail
    refine HRC.out.mono ?_
    rintro e w1 ⟨⟨xx, rfl, hr1⟩, hb1⟩
    obtain ⟨a1, c1, rfl, -⟩ := rbox hr1
    have HR1 := boxed hr1
    have HB1 := boxed hb1
    clear hr1 hb1 HRC
    have HA : Box (Below w1.heap.size w1 (w1.alloc (.cells #[.int .i64 s1.sz, .int .i64 s1.nx, .slice a1 s1.L.length c1] 31))) := boxed ((Below.refl _ _).alloc (Nat.le_refl _) _)
    have HPS := boxed ((HP.out.below (HB1.out.trans (HA.out.mono HB1.out.size))).below (Below.refl _ _).drew)
    have hb9 : B ≤ (w1.alloc (.cells #[.int .i64 s1.sz, .int .i64 s1.nx, .slice a1 s1.L.length c1] 31)).drew.heap.size := by have := HB1.out.size; simp; omega
    have HDr : Box (Below (w1.heap.size + 1) (w1.alloc (.cells #[.int .i64 s1.sz, .int .i64 s1.nx, .slice a1 s1.L.length c1] 31)) (w1.alloc (.cells #[.int .i64 s1.sz, .int .i64 s1.nx, .slice a1 s1.L.length c1] 31)).drew) := boxed ((Below.refl _ _).drew)
    have HXd := boxed (HX1.out w1 s1 a1 c1 HB1.out _ HDr.out).1
    go_wp2_with fail
    go_region_held3 (fun W' => W'.cell? ⟨w1.heap.size, 0, none⟩ = some (.int .i64 s1.sz) ∧ W'.cell? ⟨w1.heap.size, 1, none⟩ = some (.int .i64 s1.nx) ∧ W'.cell? ⟨w1.heap.size, 2, none⟩ = some (.slice a1 s1.L.length c1) ∧ W'.cell? ⟨w.heap.size + 1, 1, none⟩ = some (.int .i64 a) ∧ W'.cell? ⟨w.heap.size + 1, 2, none⟩ = some (.int .i64 b))
      (first | with_reducible exact HXd.out | with_reducible exact HX5.out | with_reducible exact HX6.out)
      (first | (go_at_call 32; refine (HPC.out _ HPS.out hb9).mono ?_; rintro e' w5 ⟨rfl, ⟨v', hp5⟩, hc5⟩; obtain ⟨hx5, ⟨⟨x0, x1, x2⟩, z0, z1, z2⟩, HX6, HQ⟩ := HFin.out w1 s1 a1 c1 _ w5 v' HB1.out HR1.out HDr.out hp5 hc5; have HX5 := boxed hx5; clear hp5 hc5 hx5))
    go_wp2_with fail
    refine bodyPost_ret (v := .tuple #[.agg #[.int .i64 s1.sz, .int .i64 s1.nx, .slice a1 s1.L.length c1], .bool true]) ?_ ?_ ?_
    · exact results_row_tmp Try.results19 _ _ (w.heap.size + 2) 31 _ (0, 0) _ rfl HQ.out.1 Try.underlying31 rfl (by kernel_rfl)
    · first | rfl | simp
    · exact ⟨⟨_, v', rfl, by rw [HS.out]; exact HQ.out.2.1, by rw [HS.out]; exact HQ.out.2.2.1⟩, HQ.out.2.2.2⟩
  by_cases c4 : k = 4
  · have HS : Box (stp s ⟨k, a, b, t⟩ = (s.drop a).1) := boxed (by unfold stp; simp only; rw [if_neg c0, if_neg c1, if_neg c2, if_neg c3, if_pos c4])
    have n0 : (k == 0) = false := by simpa using c0
    have n1 : (k == 1) = false := by simpa using c1
    have n2 : (k == 2) = false := by simpa using c2
    have n3 : (k == 3) = false := by simpa using c3
    have y4 : (k == 4) = true := by simpa using c4
    have HRC := boxed (refdrop_any HR.out hBW HK.out a)
    have HPC : Box (∀ W1, PS B W1 sb v s → B ≤ W1.heap.size → Calls Try.prog 23 #[.pointer (some ⟨sb, 0, none⟩), .int .i64 a] W1 fun e w' => e = .returned (.int .i64 (s.drop a).2) ∧ (∃ v', PS B w' sb v' (s.drop a).1) ∧ Chg (Own sb v) W1 w') := boxed (fun W1 hp hb => drop16_any hp hb HK.out a)
    generalize (s.drop a).2 = E at *
    generalize (s.drop a).1 = s1 at *
    clear c0 c1 c2 c3 c4 l0 l1 l2 lb ho hr h hW hk x0 x1 x2 z0 z1 z2
    go_enter Try.func19, Try.ntmps19
    go_upto_region 1 with (fail)
    rw [HW.out]
    go_wp2_with fail
    refine HRC.out.mono ?_
    rintro e w1 ⟨⟨xx, rfl, hr1⟩, hb1⟩
    obtain ⟨a1, c1, rfl, -⟩ := rbox hr1
    have HR1 := boxed hr1
    have HB1 := boxed hb1
    clear hr1 hb1 HRC
    have HA : Box (Below w1.heap.size w1 (w1.alloc (.cells #[.int .i64 s1.sz, .int .i64 s1.nx, .slice a1 s1.L.length c1] 31))) := boxed ((Below.refl _ _).alloc (Nat.le_refl _) _)
    have HPS := boxed ((HP.out.below (HB1.out.trans (HA.out.mono HB1.out.size))).below (Below.refl _ _).drew)
    have hb9 : B ≤ (w1.alloc (.cells #[.int .i64 s1.sz, .int .i64 s1.nx, .slice a1 s1.L.length c1] 31)).drew.heap.size := by have := HB1.out.size; simp; omega
    have HDr : Box (Below (w1.heap.size + 1) (w1.alloc (.cells #[.int .i64 s1.sz, .int .i64 s1.nx, .slice a1 s1.L.length c1] 31)) (w1.alloc (.cells #[.int .i64 s1.sz, .int .i64 s1.nx, .slice a1 s1.L.length c1] 31)).drew) := boxed ((Below.refl _ _).drew)
    have HXd := boxed (HX1.out w1 s1 a1 c1 HB1.out _ HDr.out).1
    go_wp2_with fail
    go_region_held3 (fun W' => W'.cell? ⟨w1.heap.size, 0, none⟩ = some (.int .i64 s1.sz) ∧ W'.cell? ⟨w1.heap.size, 1, none⟩ = some (.int .i64 s1.nx) ∧ W'.cell? ⟨w1.heap.size, 2, none⟩ = some (.slice a1 s1.L.length c1) ∧ W'.cell? ⟨w.heap.size + 1, 1, none⟩ = some (.int .i64 a) ∧ W'.cell? ⟨w.heap.size + 1, 2, none⟩ = some (.int .i64 b))
      (first | with_reducible exact HXd.out | with_reducible exact HX5.out | with_reducible exact HX6.out)
      (first | (go_at_call 23; refine (HPC.out _ HPS.out hb9).mono ?_; rintro e' w5 ⟨rfl, ⟨v', hp5⟩, hc5⟩; obtain ⟨hx5, ⟨⟨x0, x1, x2⟩, z0, z1, z2⟩, HX6, HQ⟩ := HFin.out w1 s1 a1 c1 _ w5 v' HB1.out HR1.out HDr.out hp5 hc5; have HX5 := boxed hx5; clear hp5 hc5 hx5))
    go_wp2_with fail
    refine bodyPost_ret (v := .tuple #[.agg #[.int .i64 s1.sz, .int .i64 s1.nx, .slice a1 s1.L.length c1], .bool true]) ?_ ?_ ?_
    · exact results_row_tmp Try.results19 _ _ (w.heap.size + 2) 31 _ (0, 0) _ rfl HQ.out.1 Try.underlying31 rfl (by kernel_rfl)
    · first | rfl | simp
    · exact ⟨⟨_, v', rfl, by rw [HS.out]; exact HQ.out.2.1, by rw [HS.out]; exact HQ.out.2.2.1⟩, HQ.out.2.2.2⟩
  have HS : Box (stp s ⟨k, a, b, t⟩ = s) := boxed (by unfold stp; simp only; rw [if_neg c0, if_neg c1, if_neg c2, if_neg c3, if_neg c4])
  have n0 : (k == 0) = false := by simpa using c0
  have n1 : (k == 1) = false := by simpa using c1
  have n2 : (k == 2) = false := by simpa using c2
  have n3 : (k == 3) = false := by simpa using c3
  have n4 : (k == 4) = false := by simpa using c4
  have hw0 : Box ((put3 W (w.heap.size + 2) (.int .i64 s.sz) (.int .i64 s.nx) (.slice ao s.L.length cap)).heap[w.heap.size + 2]? = some (.cells #[.int .i64 s.sz, .int .i64 s.nx, .slice ao s.L.length cap] 31 (0, 0)) ∧ PS B (put3 W (w.heap.size + 2) (.int .i64 s.sz) (.int .i64 s.nx) (.slice ao s.L.length cap)) sb v s ∧ RS B (put3 W (w.heap.size + 2) (.int .i64 s.sz) (.int .i64 s.nx) (.slice ao s.L.length cap)) (.agg #[.int .i64 s.sz, .int .i64 s.nx, .slice ao s.L.length cap]) s ∧ Chg (Own sb v) w (put3 W (w.heap.size + 2) (.int .i64 s.sz) (.int .i64 s.nx) (.slice ao s.L.length cap))) := boxed (by
    have hb := put3_below lb (show w.heap.size ≤ w.heap.size + 2 by omega) (Nat.le_refl _) (.int .i64 s.sz) (.int .i64 s.nx) (.slice ao s.L.length cap)
    exact ⟨put3_heap l2 _ _ _, h.below hb, hr.below hb, Chg.of_below hb⟩)
  clear c0 c1 c2 c3 c4 l0 l1 l2 lb ho hr h hW hk HFin HX1
  go_enter Try.func19, Try.ntmps19
  go_upto_region 1 with (fail)
  rw [HW.out]
  go_wp2_with fail
  refine bodyPost_ret (v := .tuple #[.agg #[.int .i64 s.sz, .int .i64 s.nx, .slice ao s.L.length cap], .bool true]) ?_ ?_ ?_
  · exact results_row_tmp Try.results19 _ _ (w.heap.size + 2) 31 _ (0, 0) _ rfl hw0.out.1 Try.underlying31 rfl (by kernel_rfl)
  · rfl
  · exact ⟨⟨_, v, rfl, by rw [HS.out]; exact hw0.out.2.1, by rw [HS.out]; exact hw0.out.2.2.1⟩, hw0.out.2.2.2⟩
end
end Go.Proofs.Ytdaccgnfhagoeaa
