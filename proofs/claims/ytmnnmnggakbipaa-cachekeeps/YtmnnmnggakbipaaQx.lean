/-
  What the document's Get answers.
-/
import Derived.Test.YtmnnmnggakbipaaQw
namespace Go.Proofs.Ytmnnmnggakbipaa
open Go.RowKit
set_option linter.unusedSimpArgs false
set_option linter.unusedVariables false

/-- What Get answers. -/
def RGetP (S : Nat → Prop) (w : World) (room ht ms : Int) (es : List Re) (k : Ky) (r : Ending) (w' : World) : Prop :=
  ∃ (o : Option Int) (lo' : Option Addr) (n' lc' : Nat) (es' : List Re), r = .returned (.tuple #[stV room lo' n' lc' (ht + if o.isSome then 1 else 0) (ms + if o.isSome then 0 else 1), .int .i64 (o.getD 0), .bool o.isSome]) ∧ n' = es'.length ∧ RsAt S w' lo' es' ∧ GetR (abR es) k o (abR es') ∧ Below w.heap.size w w'

set_option maxRecDepth 100000 in
set_option maxHeartbeats 4000000 in
theorem rget_any (S : Nat → Prop) (w : World) (room : Int) (lo : Option Addr) (lc : Nat) (ht ms : Int) (es : List Re) (k : Kv) (h : RsAt S w lo es) (hS : ∀ b, w.heap.size ≤ b → S b) (hl : es.length ≤ 100) (hht : 0 ≤ ht ∧ ht < 1000000) (hms : 0 ≤ ms ∧ ms < 1000000) (hk : KvAt S w k) (hf : Fits k) :
    Calls Try.prog 30 #[stV room lo es.length lc ht ms, k.val] w fun r w' => RGetP S w room ht ms es k.ky r w' := by
  obtain ⟨n, hn⟩ : ∃ n, es.length = n := ⟨_, rfl⟩
  have HNn := boxed hn
  have HFd := boxed (fun W (hb : Below w.heap.size w W) => rfind_any S W room lo lc ht ms es k (h.below hb) (by omega) (hk.below hb) hf)
  rw [hn] at HFd hl ⊢
  unfold stV Kv.val at HFd
  unfold Kv.val
  rw [show stV room lo n lc ht ms = .agg #[.int .i64 room, .slice lo n lc, .int .i64 ht, .int .i64 ms] from rfl]
  obtain ⟨W, hW⟩ : ∃ W, ((w.alloc (.cells #[.int .i64 room, .slice lo n lc, .int .i64 ht, .int .i64 ms] 27)).alloc (.cells #[.string k.tx, .slice k.ra k.rn k.rc, .int .i64 k.ta, .int .i64 k.wd, .int .i64 k.s.t, .int .i64 k.s.l, .int .i64 k.s.a, .int .i64 k.s.d, .int .i64 k.s.z, .int .i64 k.s.o, .int .i64 k.s.i] 40)).alloc (.cells #[.int .i64 0, .slice none 0 0, .int .i64 0, .int .i64 0] 27) = W := ⟨_, rfl⟩
  have HQ := laid3 w (.cells #[.int .i64 room, .slice lo n lc, .int .i64 ht, .int .i64 ms] 27) (.cells #[.string k.tx, .slice k.ra k.rn k.rc, .int .i64 k.ta, .int .i64 k.wd, .int .i64 k.s.t, .int .i64 k.s.l, .int .i64 k.s.a, .int .i64 k.s.d, .int .i64 k.s.z, .int .i64 k.s.o, .int .i64 k.s.i] 40) (.cells #[.int .i64 0, .slice none 0 0, .int .i64 0, .int .i64 0] 27)
  rw [hW] at HQ
  obtain ⟨f0, f1, f2, hB, hz⟩ := HQ
  have F0 := boxed f0
  have F2 := boxed f2
  have HB := boxed hB
  have HR := boxed h
  have HS := boxed hS
  clear h hS hk hf hB hn
  obtain ⟨p0, p1, p2, p3⟩ := cells4 f0
  obtain ⟨j0, j1, j2, j3, j4, j5, j6, j7, j8, j9, j10⟩ := cells11 f1
  have hFd := HFd.out W HB.out
  clear f0 f1 f2 HFd
  go_enter Try.func30, Try.ntmps30
  go_wp2_with fail
  refine hFd.mono ?_
  rintro r w1 ⟨hb1, hcs⟩
  have E0 := boxed ((hb1.block w.heap.size (heap_lt F0.out)).trans F0.out)
  have E2 := boxed ((hb1.block (w.heap.size + 1 + 1) (heap_lt F2.out)).trans F2.out)
  have HB1 := boxed (HB.out.trans (hb1.mono HB.out.size))
  clear hb1 hFd F0 F2 HB p0 p1 p2 p3 j0 j1 j2 j3 j4 j5 j6 j7 j8 j9 j10
  rcases hcs with ⟨i, e, rfl, hei, hky⟩ | ⟨rfl, hno⟩
  · have hin : i < n := by rw [← HNn.out]; exact (List.getElem?_eq_some_iff.1 hei).1
    have hi2 : (i : Int) < (n : Int) := by omega
    obtain ⟨lb, loff, hlo, -⟩ := HR.out.form (by rw [HNn.out]; omega)
    subst hlo
    have HEi := boxed hei
    have HKy := boxed hky
    have HKe := boxed (HR.out.key e (List.mem_of_getElem? hei))
    obtain ⟨ek, ev⟩ := e
    simp only at *
    have hwh : IntKind.i64.wrap (ht + 1) = ht + 1 := by rw [IntKind.wrap_i64]; omega
    obtain ⟨x0, x1, x2, x3⟩ := cells4 E0.out
    have xf := row_free E0.out 2
    obtain ⟨w2, hw2⟩ : ∃ w2, w1.setCell ⟨w.heap.size, 2, none⟩ (.int .i64 (ht + 1)) = w2 := ⟨_, rfl⟩
    have g0 : w2.heap[w.heap.size]? = some (.cells #[.int .i64 room, .slice (some ⟨lb, loff, none⟩) n lc, .int .i64 (ht + 1), .int .i64 ms] 27 (0, 0)) := by rw [← hw2]; exact arr_set _ E0.out
    have g2 : w2.heap[w.heap.size + 1 + 1]? = some (.cells #[.int .i64 0, .slice none 0 0, .int .i64 0, .int .i64 0] 27 (0, 0)) := by rw [← hw2, Below.heap_setCell _ _ _ _ (by show w.heap.size + 1 + 1 ≠ w.heap.size; omega)]; exact E2.out
    have hB2 : Below w.heap.size w w2 := by rw [← hw2]; exact HB1.out.setCell (Nat.le_refl _) _
    have G0 := boxed g0
    have G2 := boxed g2
    have HB2 := boxed hB2
    obtain ⟨u0, u1, u2, u3⟩ := cells4 g0
    obtain ⟨y0, y1, y2, y3, y4, y5, y6, y7, y8, y9, y10, y11⟩ := (HR.out.below HB2.out).get HEi.out
    obtain ⟨w3, hw3⟩ : ∃ w3, w2.alloc (.cells #[.string ek.tx, .slice ek.ra ek.rn ek.rc, .int .i64 ek.ta, .int .i64 ek.wd, .int .i64 ek.s.t, .int .i64 ek.s.l, .int .i64 ek.s.a, .int .i64 ek.s.d, .int .i64 ek.s.z, .int .i64 ek.s.o, .int .i64 ek.s.i, .int .i64 ev] 44) = w3 := ⟨_, rfl⟩
    have hq3 := laid1 w2 (.cells #[.string ek.tx, .slice ek.ra ek.rn ek.rc, .int .i64 ek.ta, .int .i64 ek.wd, .int .i64 ek.s.t, .int .i64 ek.s.l, .int .i64 ek.s.a, .int .i64 ek.s.d, .int .i64 ek.s.z, .int .i64 ek.s.o, .int .i64 ek.s.i, .int .i64 ev] 44)
    rw [hw3] at hq3
    have HB3 := boxed (hB2.trans (hq3.2.1.mono hB2.size))
    have H30 := boxed ((hq3.2.1.block w.heap.size (heap_lt g0)).trans g0)
    have H32 := boxed ((hq3.2.1.block (w.heap.size + 1 + 1) (heap_lt g2)).trans g2)
    have H38 := boxed hq3.1
    obtain ⟨v0, v1, v2, v3⟩ := cells4 H30.out
    obtain ⟨s0, s1, s2, s3, s4, s5, s6, s7, s8, s9, s10, s11⟩ := cells12 H38.out
    have HFr := boxed (front_any S w3 _ lc es (i : Nat) ⟨ek, ev⟩ (HR.out.below HB3.out) (by rw [HNn.out]; omega))
    simp only [Re.val] at HFr
    rw [HNn.out] at HFr
    have hs2 := heap_lt g2
    have hz3 := hq3.2.2
    clear g0 g2 hB2 hei hky hq3 E0 E2
    go_wp2_with fail
    refine HFr.out.mono ?_
    rintro r w4 ⟨ao, m, cap, rfl, hm, ho4, hb4⟩
    have e0 := (hb4.block w.heap.size (heap_lt H30.out)).trans H30.out
    have e2 := (hb4.block (w.heap.size + 1 + 1) (heap_lt H32.out)).trans H32.out
    have e8 := (hb4.block w2.heap.size (heap_lt H38.out)).trans H38.out
    have HB4 := boxed (below_step HB3.out (Nat.le_refl _) hb4)
    have hz4 := heap_lt e8
    obtain ⟨k0, k1, k2, k3⟩ := cells4 e0
    have kf := row_free e0 1
    obtain ⟨W5, hW5⟩ : ∃ W5, w4.setCell ⟨w.heap.size, 1, none⟩ (.slice ao m cap) = W5 := ⟨_, rfl⟩
    have f0 : W5.heap[w.heap.size]? = some (.cells #[.int .i64 room, .slice ao m cap, .int .i64 (ht + 1), .int .i64 ms] 27 (0, 0)) := by rw [← hW5]; exact arr_set _ e0
    have f2 : W5.heap[w.heap.size + 1 + 1]? = some (.cells #[.int .i64 0, .slice none 0 0, .int .i64 0, .int .i64 0] 27 (0, 0)) := by rw [← hW5, Below.heap_setCell _ _ _ _ (by show w.heap.size + 1 + 1 ≠ w.heap.size; omega)]; exact e2
    have f8 : W5.heap[w2.heap.size]? = some (.cells #[.string ek.tx, .slice ek.ra ek.rn ek.rc, .int .i64 ek.ta, .int .i64 ek.wd, .int .i64 ek.s.t, .int .i64 ek.s.l, .int .i64 ek.s.a, .int .i64 ek.s.d, .int .i64 ek.s.z, .int .i64 ek.s.o, .int .i64 ek.s.i, .int .i64 ev] 44 (0, 0)) := by rw [← hW5, Below.heap_setCell _ _ _ _ (by show w2.heap.size ≠ w.heap.size; omega)]; exact e8
    have hB5 : Below w.heap.size w W5 := by rw [← hW5]; exact HB4.out.setCell (Nat.le_refl _) _
    have hg5 : w4.grownBy W5 (some w.heap.size) := by rw [← hW5]; exact grown_set _ _ _ _
    obtain ⟨l0, l1, l2, l3⟩ := cells4 f0
    obtain ⟨r0, r1, r2, r3⟩ := cells4 f2
    obtain ⟨-, -, -, -, -, -, -, -, -, -, -, t11⟩ := cells12 f8
    have z0 := row_free f2 0
    have z1 := row_free f2 1
    have z2 := row_free f2 2
    have z3 := row_free f2 3
    have HRh := put4_heap f2 (.int .i64 room) (.slice ao m cap) (.int .i64 (ht + 1)) (.int .i64 ms)
    have hG6 := put4_grown W5 (w.heap.size + 1 + 1) (.int .i64 room) (.slice ao m cap) (.int .i64 (ht + 1)) (.int .i64 ms)
    have hRs : RsAt (fun b => S b ∧ b ≠ w.heap.size ∧ b ≠ w.heap.size + 1 + 1) w4 ao (⟨ek, ev⟩ :: wou es (i : Nat)) := by
      refine rs_own (B := w3.heap.size) (by rw [← hm]; exact ho4) (fun b hb => ⟨HS.out b (by omega), by omega, by omega⟩) ?_
      intro x hx
      have hx2 : ∃ x' ∈ es, x'.k = x.k := by
        rcases List.mem_cons.1 hx with rfl | hx
        · exact ⟨⟨ek, ev⟩, List.mem_of_getElem? HEi.out, rfl⟩
        · rw [wou_at] at hx; exact ⟨x, (List.eraseIdx_sublist _ _).subset hx, rfl⟩
      obtain ⟨x', hx', hxk⟩ := hx2
      rw [← hxk]
      refine ⟨P2At.keep (HR.out.key x' hx').1 (fun b q u hs hc => ?_), (HR.out.key x' hx').2⟩
      have hlt := World.block_lt_of_cell? w _ hc
      simp only at hlt
      exact ⟨⟨hs, by omega, by omega⟩, hold HB4.out hc⟩
    have hR6 : RsAt S (put4 W5 (w.heap.size + 1 + 1) (.int .i64 room) (.slice ao m cap) (.int .i64 (ht + 1)) (.int .i64 ms)).drew ao (⟨ek, ev⟩ :: wou es (i : Nat)) := hRs.keep (fun b q u hs hc => ⟨hs.1, by
      have c4 := hg5.cell hc (fun c => hs.2.1 (by injection c))
      exact hG6.cell c4 (fun c => hs.2.2 (by injection c))⟩)
    have HF : Box (RGetP S w room ht ms es k.ky (.returned (.tuple #[.agg #[.int .i64 room, .slice ao m cap, .int .i64 (ht + 1), .int .i64 ms], .int .i64 ev, .bool true])) (put4 W5 (w.heap.size + 1 + 1) (.int .i64 room) (.slice ao m cap) (.int .i64 (ht + 1)) (.int .i64 ms)).drew) := boxed ⟨some ev, ao, m, cap, _, by simp [stV], hm, hR6, .inl ⟨i, ev, by rw [← HKy.out]; exact abR_get HEi.out, rfl, by rw [wou_at]; show (ek.ky, ev) :: abR (es.eraseIdx i) = _; rw [abR_erase, HKy.out]⟩, (hB5.trans (grown_below hG6 (by omega) hB5.size)).drew⟩
    obtain ⟨a0, a1, a2, a3⟩ := cells4 (show (put4 W5 (w.heap.size + 1 + 1) (.int .i64 room) (.slice ao m cap) (.int .i64 (ht + 1)) (.int .i64 ms)).drew.heap[w.heap.size + 1 + 1]? = _ from HRh)
    have hgE : (put4 W5 (w.heap.size + 1 + 1) (.int .i64 room) (.slice ao m cap) (.int .i64 (ht + 1)) (.int .i64 ms)).drew.cell? ⟨w2.heap.size, 11, none⟩ = some (.int .i64 ev) := hG6.cell t11 (fun c => by injection c with c; simp only at c; omega)
    unfold put4 at HF a0 a1 a2 a3 hgE
    have HA := boxed (And.intro a0 (And.intro a1 (And.intro a2 a3)))
    clear hm ho4 hb4 e0 e2 e8 f0 f2 f8 HRh hG6 hRs hR6 hB5 hg5 HFr a0 a1 a2 a3 H30 H32 H38 G0 G2
    go_wp2_with fail
    go_region
    go_wp2_with fail
    refine bodyPost_ret (v := .tuple #[.agg #[.int .i64 room, .slice ao m cap, .int .i64 (ht + 1), .int .i64 ms], .int .i64 ev, .bool true]) ?_ ?_ HF.out
    · obtain ⟨a0, a1, a2, a3⟩ := HA.out
      simp [results, Try.results30, go_sem, a0, a1, a2, a3]
    · rfl
  · have hwm : IntKind.i64.wrap (ms + 1) = ms + 1 := by rw [IntKind.wrap_i64]; omega
    obtain ⟨x0, x1, x2, x3⟩ := cells4 E0.out
    have xf := row_free E0.out 3
    obtain ⟨W5, hW5⟩ : ∃ W5, w1.setCell ⟨w.heap.size, 3, none⟩ (.int .i64 (ms + 1)) = W5 := ⟨_, rfl⟩
    have f0 : W5.heap[w.heap.size]? = some (.cells #[.int .i64 room, .slice lo n lc, .int .i64 ht, .int .i64 (ms + 1)] 27 (0, 0)) := by rw [← hW5]; exact arr_set _ E0.out
    have f2 : W5.heap[w.heap.size + 1 + 1]? = some (.cells #[.int .i64 0, .slice none 0 0, .int .i64 0, .int .i64 0] 27 (0, 0)) := by rw [← hW5, Below.heap_setCell _ _ _ _ (by show w.heap.size + 1 + 1 ≠ w.heap.size; omega)]; exact E2.out
    have hB5 : Below w.heap.size w W5 := by rw [← hW5]; exact HB1.out.setCell (Nat.le_refl _) _
    obtain ⟨l0, l1, l2, l3⟩ := cells4 f0
    obtain ⟨r0, r1, r2, r3⟩ := cells4 f2
    have z0 := row_free f2 0
    have z1 := row_free f2 1
    have z2 := row_free f2 2
    have z3 := row_free f2 3
    have HRh := put4_heap f2 (.int .i64 room) (.slice lo n lc) (.int .i64 ht) (.int .i64 (ms + 1))
    have hG6 := put4_grown W5 (w.heap.size + 1 + 1) (.int .i64 room) (.slice lo n lc) (.int .i64 ht) (.int .i64 (ms + 1))
    have hB6 := hB5.trans (grown_below hG6 (by omega) hB5.size)
    have HF : Box (RGetP S w room ht ms es k.ky (.returned (.tuple #[.agg #[.int .i64 room, .slice lo n lc, .int .i64 ht, .int .i64 (ms + 1)], .int .i64 0, .bool false])) (put4 W5 (w.heap.size + 1 + 1) (.int .i64 room) (.slice lo n lc) (.int .i64 ht) (.int .i64 (ms + 1)))) := boxed ⟨none, lo, n, lc, es, by simp [stV], HNn.out.symm, HR.out.below hB6, .inr ⟨abR_none hno, rfl, rfl⟩, hB6⟩
    obtain ⟨a0, a1, a2, a3⟩ := cells4 HRh
    unfold put4 at HF a0 a1 a2 a3
    have HA := boxed (And.intro a0 (And.intro a1 (And.intro a2 a3)))
    clear f0 f2 HRh hG6 hB5 hB6 a0 a1 a2 a3 E0 E2 hno
    go_wp2_with fail
    refine bodyPost_ret (v := .tuple #[.agg #[.int .i64 room, .slice lo n lc, .int .i64 ht, .int .i64 (ms + 1)], .int .i64 0, .bool false]) ?_ ?_ HF.out
    · obtain ⟨a0, a1, a2, a3⟩ := HA.out
      simp [results, Try.results30, go_sem, a0, a1, a2, a3]
    · rfl
end Go.Proofs.Ytmnnmnggakbipaa
