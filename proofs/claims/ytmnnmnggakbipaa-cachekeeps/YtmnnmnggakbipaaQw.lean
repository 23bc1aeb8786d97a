/-
  What the document's Put and Get answer.
-/
import Derived.Test.YtmnnmnggakbipaaQv
import Derived.Deep.Cut
namespace Go.Proofs.Ytmnnmnggakbipaa
open Go.RowKit
set_option linter.unusedSimpArgs false
set_option linter.unusedVariables false

def abR (es : List Re) : List (Ky × Int) := es.map fun e => (e.k.ky, e.v)
theorem abR_len (es : List Re) : (abR es).length = es.length := by simp [abR]
theorem abR_get {es : List Re} {i : Nat} {e : Re} (h : es[i]? = some e) : (abR es)[i]? = some (e.k.ky, e.v) := by simp [abR, h]
theorem abR_erase (es : List Re) (i : Nat) : abR (es.eraseIdx i) = (abR es).eraseIdx i := by
  unfold abR
  apply List.ext_getElem?
  intro t
  simp only [List.getElem?_map, List.getElem?_eraseIdx]
  split <;> rfl
theorem abR_none {es : List Re} {k : Ky} (h : ∀ e ∈ es, e.k.ky ≠ k) : ∀ p ∈ abR es, p.1 ≠ k := fun p hp => by
  obtain ⟨e, he, rfl⟩ := List.mem_map.1 hp
  exact h e he
theorem RsAt.take {S : Nat → Prop} {w : World} {ao : Option Addr} {es : List Re} (h : RsAt S w ao es) (r : Nat) : RsAt S w ao (es.take r) :=
  ⟨fun i e he => h.row i e (by rw [List.getElem?_take] at he; split at he; exact he; cases he), fun e he => h.key e (List.mem_of_mem_take he)⟩
theorem laid3 (w : World) (A B C : Obj) : (((w.alloc A).alloc B).alloc C).heap[w.heap.size]? = some A ∧ (((w.alloc A).alloc B).alloc C).heap[w.heap.size + 1]? = some B ∧ (((w.alloc A).alloc B).alloc C).heap[w.heap.size + 1 + 1]? = some C ∧ Below w.heap.size w (((w.alloc A).alloc B).alloc C) ∧ (((w.alloc A).alloc B).alloc C).heap.size = w.heap.size + 3 := by
  obtain ⟨h1, h2, h3, h4⟩ := laid2 w A B
  obtain ⟨k1, k2, k3⟩ := laid1 ((w.alloc A).alloc B) C
  rw [h4] at k1 k2 k3
  refine ⟨(k2.block _ (by omega)).trans h1, (k2.block _ (by omega)).trans h2, k1, h3.trans (k2.mono (by omega)), by omega⟩
theorem slice_hiR (g m cap r : Nat) (h : r ≤ cap) (w : World) : (Instr.slice 25 (.slice (some ⟨g, 0, none⟩) m cap) none (some (.int .i64 (r : Nat))) none).run Try.prog w = .ok (.slice (some ⟨g, 0, none⟩) r cap) w := by
  have h4 : (r : Int) ≤ (cap : Int) := by omega
  go_simp
/-- What Put answers. -/
def RPutP (S : Nat → Prop) (w : World) (room ht ms : Int) (es : List Re) (k : Ky) (v : Int) (r : Ending) (w' : World) : Prop :=
  ∃ lo' n' lc' es', r = .returned (stV room lo' n' lc' ht ms) ∧ n' = es'.length ∧ RsAt S w' lo' es' ∧ PutR room (abR es) k v (abR es') ∧ Below w.heap.size w w'

set_option maxRecDepth 100000 in
set_option maxHeartbeats 8000000 in
theorem rput_any (S : Nat → Prop) (w : World) (room : Int) (lo : Option Addr) (lc : Nat) (ht ms : Int) (es : List Re) (k : Kv) (v : Int) (h : RsAt S w lo es) (hS : ∀ b, w.heap.size ≤ b → S b) (hl : es.length ≤ 100) (hlr : ((es.length : Nat) : Int) ≤ room) (hro : 0 ≤ room ∧ room ≤ 4096) (hk : KvAt S w k) (hf : Fits k) (hkc : k.rn ≤ k.rc) :
    Calls Try.prog 29 #[stV room lo es.length lc ht ms, k.val, .int .i64 v] w fun r w' => RPutP S w room ht ms es k.ky v r w' := by
  obtain ⟨n, hn⟩ : ∃ n, es.length = n := ⟨_, rfl⟩
  have HNn := boxed hn
  have HFd := boxed (fun W (hb : Below w.heap.size w W) => rfind_any S W room lo lc ht ms es k (h.below hb) (by omega) (hk.below hb) hf)
  rw [hn] at HFd hl hlr ⊢
  unfold stV Kv.val at HFd
  unfold Kv.val
  rw [show stV room lo n lc ht ms = .agg #[.int .i64 room, .slice lo n lc, .int .i64 ht, .int .i64 ms] from rfl]
  obtain ⟨W, hW⟩ : ∃ W, ((w.alloc (.cells #[.int .i64 room, .slice lo n lc, .int .i64 ht, .int .i64 ms] 27)).alloc (.cells #[.string k.tx, .slice k.ra k.rn k.rc, .int .i64 k.ta, .int .i64 k.wd, .int .i64 k.s.t, .int .i64 k.s.l, .int .i64 k.s.a, .int .i64 k.s.d, .int .i64 k.s.z, .int .i64 k.s.o, .int .i64 k.s.i] 40)).alloc (.cells #[.int .i64 0, .slice none 0 0, .int .i64 0, .int .i64 0] 27) = W := ⟨_, rfl⟩
  have HQ := laid3 w (.cells #[.int .i64 room, .slice lo n lc, .int .i64 ht, .int .i64 ms] 27) (.cells #[.string k.tx, .slice k.ra k.rn k.rc, .int .i64 k.ta, .int .i64 k.wd, .int .i64 k.s.t, .int .i64 k.s.l, .int .i64 k.s.a, .int .i64 k.s.d, .int .i64 k.s.z, .int .i64 k.s.o, .int .i64 k.s.i] 40) (.cells #[.int .i64 0, .slice none 0 0, .int .i64 0, .int .i64 0] 27)
  rw [hW] at HQ
  obtain ⟨f0, f1, f2, hB, hz⟩ := HQ
  have F0 := boxed f0
  have F1 := boxed f1
  have F2 := boxed f2
  have HB := boxed hB
  have HR := boxed h
  have HS := boxed hS
  have HKv := boxed (And.intro hk (And.intro hf hkc))
  clear h hS hk hf hkc hB hn
  obtain ⟨p0, p1, p2, p3⟩ := cells4 f0
  by_cases c0 : room = 0
  · subst c0
    obtain ⟨r0, r1, r2, r3⟩ := cells4 f2
    have z0 := row_free f2 0
    have z1 := row_free f2 1
    have z2 := row_free f2 2
    have z3 := row_free f2 3
    have HRh := put4_heap f2 (.int .i64 0) (.slice lo n lc) (.int .i64 ht) (.int .i64 ms)
    have hG5 := put4_grown W (w.heap.size + 1 + 1) (.int .i64 0) (.slice lo n lc) (.int .i64 ht) (.int .i64 ms)
    have hB5 := HB.out.trans (grown_below hG5 (by omega) HB.out.size)
    have HF : Box (RPutP S w 0 ht ms es k.ky v (.returned (stV 0 lo n lc ht ms)) (put4 W (w.heap.size + 1 + 1) (.int .i64 0) (.slice lo n lc) (.int .i64 ht) (.int .i64 ms))) := boxed ⟨lo, n, lc, es, rfl, HNn.out.symm, HR.out.below hB5, .inl ⟨rfl, rfl⟩, hB5⟩
    unfold put4 at HRh HF
    have HRh2 := boxed HRh
    clear HRh hG5 hB5 HFd f0 f1 f2
    go_enter Try.func29, Try.ntmps29
    go_wp2_with fail
    refine bodyPost_ret (v := stV 0 lo n lc ht ms) ?_ ?_ HF.out
    · exact results_cell_row Try.results29 _ _ (w.heap.size + 1 + 1) 27 _ (0, 0) _ rfl HRh2.out Try.underlying27 rfl (by kernel_rfl)
    · rfl
  have t0 : (room == 0) = false := by rw [beq_eq_false_iff_ne]; exact c0
  have HC0 := boxed c0
  obtain ⟨j0, j1, j2, j3, j4, j5, j6, j7, j8, j9, j10⟩ := cells11 f1
  have hFd := HFd.out W HB.out
  clear f0 f1 f2 HFd c0
  go_enter Try.func29, Try.ntmps29
  go_wp2_with fail
  refine hFd.mono ?_
  rintro r w1 ⟨hb1, hcs⟩
  have E0w := boxed ((hb1.block w.heap.size (heap_lt F0.out)).trans F0.out)
  have E1w := boxed ((hb1.block (w.heap.size + 1) (heap_lt F1.out)).trans F1.out)
  have E2w := boxed ((hb1.block (w.heap.size + 1 + 1) (heap_lt F2.out)).trans F2.out)
  have HB1 := boxed (HB.out.trans (hb1.mono HB.out.size))
  clear hb1 hFd F0 F1 F2 HB p0 p1 p2 p3 j0 j1 j2 j3 j4 j5 j6 j7 j8 j9 j10
  rcases hcs with ⟨i, e, rfl, hei, hky⟩ | ⟨rfl, hno⟩
  · have hin : i < n := by rw [← HNn.out]; exact (List.getElem?_eq_some_iff.1 hei).1
    obtain ⟨lb, loff, hlo, -⟩ := HR.out.form (by rw [HNn.out]; omega)
    subst hlo
    obtain ⟨y0, y1, y2, y3, y4, y5, y6, y7, y8, y9, y10, y11⟩ := (HR.out.below HB1.out).get hei
    obtain ⟨x0, x1, x2, x3⟩ := cells4 E0w.out
    obtain ⟨j0, j1, j2, j3, j4, j5, j6, j7, j8, j9, j10⟩ := cells11 E1w.out
    have z0 := row_free E1w.out 0
    have z1 := row_free E1w.out 1
    have z2 := row_free E1w.out 2
    have z3 := row_free E1w.out 3
    have z4 := row_free E1w.out 4
    have z5 := row_free E1w.out 5
    have z6 := row_free E1w.out 6
    have z7 := row_free E1w.out 7
    have z8 := row_free E1w.out 8
    have z9 := row_free E1w.out 9
    have z10 := row_free E1w.out 10
    have HKe := boxed (HR.out.key e (List.mem_of_getElem? hei))
    have HEi := boxed hei
    have HKy := boxed hky
    obtain ⟨ek, ev⟩ := e
    simp only at *
    obtain ⟨w2, hw2⟩ : ∃ w2, put11 w1 (w.heap.size + 1) (.string ek.tx) (.slice ek.ra ek.rn ek.rc) (.int .i64 ek.ta) (.int .i64 ek.wd) (.int .i64 ek.s.t) (.int .i64 ek.s.l) (.int .i64 ek.s.a) (.int .i64 ek.s.d) (.int .i64 ek.s.z) (.int .i64 ek.s.o) (.int .i64 ek.s.i) = w2 := ⟨_, rfl⟩
    have hg2 : w1.grownBy w2 (some (w.heap.size + 1)) := by rw [← hw2]; exact put11_grown _ _ _ _ _ _ _ _ _ _ _ _ _
    have E1 := boxed (show w2.heap[w.heap.size + 1]? = some (.cells #[.string ek.tx, .slice ek.ra ek.rn ek.rc, .int .i64 ek.ta, .int .i64 ek.wd, .int .i64 ek.s.t, .int .i64 ek.s.l, .int .i64 ek.s.a, .int .i64 ek.s.d, .int .i64 ek.s.z, .int .i64 ek.s.o, .int .i64 ek.s.i] 40 (0, 0)) by rw [← hw2]; exact put11_heap E1w.out _ _ _ _ _ _ _ _ _ _ _)
    have E0 := boxed ((hg2.block w.heap.size (heap_lt E0w.out) (fun c => by injection c; omega)).trans E0w.out)
    have E2 := boxed ((hg2.block (w.heap.size + 1 + 1) (heap_lt E2w.out) (fun c => by injection c; omega)).trans E2w.out)
    have HB2 : Box (Below w.heap.size w w2) := boxed (HB1.out.trans (grown_below hg2 (by omega) HB1.out.size))
    have HR2 := boxed (HR.out.below HB2.out)
    have hi2 : (i : Int) < (n : Int) := by omega
    unfold put11 at hw2
    have HW2 := boxed hw2
    clear hw2 hg2 hei hky E0w E1w E2w
    go_upto_region 6 with fail
    rw [HW2.out]
    clear HW2 x0 x1 x2 x3 j0 j1 j2 j3 j4 j5 j6 j7 j8 j9 j10 y0 y1 y2 y3 y4 y5 y6 y7 y8 y9 y10 y11 z0 z1 z2 z3 z4 z5 z6 z7 z8 z9 z10
    obtain ⟨x0, x1, x2, x3⟩ := cells4 E0.out
    obtain ⟨q0, q1, q2, q3, q4, q5, q6, q7, q8, q9, q10⟩ := cells11 E1.out
    have HFr := boxed (front_any S w2 _ lc es ((i : Nat)) ⟨ek, v⟩ HR2.out (by rw [HNn.out]; omega))
    simp only [Re.val] at HFr
    rw [HNn.out] at HFr
    go_wp2_with fail
    refine HFr.out.mono ?_
    rintro r w3 ⟨ao, m, cap, rfl, hm, ho3, hb3⟩
    have e0 := (hb3.block w.heap.size (heap_lt E0.out)).trans E0.out
    have e2 := (hb3.block (w.heap.size + 1 + 1) (heap_lt E2.out)).trans E2.out
    have HB3 := boxed (below_step HB2.out (Nat.le_refl _) hb3)
    have hz3 := heap_lt e2
    have hs2 := heap_lt E2.out
    obtain ⟨y0, y1, y2, y3⟩ := cells4 e0
    have yf := row_free e0 1
    obtain ⟨g3, cap3, hsh3⟩ := ownsRow_form ho3 (by rw [hm]; simp)
    injection hsh3 with hs_a hs_b hs_c
    subst hs_a; subst hs_c
    have hg3 := (ho3.lt g3 rfl).1
    have hcap : m ≤ cap := by
      rcases ho3.2 with ⟨e, h0⟩ | ⟨g, cp, cur, e, _, _, h1, _⟩
      · cases e
      · injection e with _ _ e3; omega

    have hmn : m = n := by
      rw [hm, wou_at, List.length_cons, List.length_eraseIdx, if_pos (by rw [HNn.out]; exact hin), HNn.out]; omega
    have tg : decide (room < (m : Int)) = false := decide_eq_false (by omega)
    clear hmn
    replace hm := boxed hm
    have HRs : Box (RsAt (fun b => S b ∧ b ≠ w.heap.size ∧ b ≠ w.heap.size + 1 + 1) w3 (some ⟨g3, 0, none⟩) (⟨ek, v⟩ :: wou es (i : Nat))) := boxed (by
      refine rs_own (B := w2.heap.size) (by rw [← hm.out]; exact ho3) (fun b hb => ⟨HS.out b (by omega), by omega, by omega⟩) ?_
      intro x hx
      have hx2 : ∃ x' ∈ es, x'.k = x.k := by
        rcases List.mem_cons.1 hx with rfl | hx
        · exact ⟨⟨ek, ev⟩, List.mem_of_getElem? HEi.out, rfl⟩
        · rw [wou_at] at hx; exact ⟨x, (List.eraseIdx_sublist _ _).subset hx, rfl⟩
      obtain ⟨x', hx', hxk⟩ := hx2
      rw [← hxk]
      refine ⟨P2At.keep (HR.out.key x' hx').1 (fun b q u hs hc => ?_), (HR.out.key x' hx').2⟩
      have hlt := World.block_lt_of_cell? w _ hc
      simp only at hlt
      exact ⟨⟨hs, by omega, by omega⟩, hold HB3.out hc⟩)
    obtain ⟨W4, hW4⟩ : ∃ W4, w3.setCell ⟨w.heap.size, 1, none⟩ (.slice (some ⟨g3, 0, none⟩) m cap) = W4 := ⟨_, rfl⟩
    have f0 : W4.heap[w.heap.size]? = some (.cells #[.int .i64 room, .slice (some ⟨g3, 0, none⟩) m cap, .int .i64 ht, .int .i64 ms] 27 (0, 0)) := by rw [← hW4]; exact arr_set _ e0
    have f2 : W4.heap[w.heap.size + 1 + 1]? = some (.cells #[.int .i64 0, .slice none 0 0, .int .i64 0, .int .i64 0] 27 (0, 0)) := by rw [← hW4, Below.heap_setCell _ _ _ _ (by show w.heap.size + 1 + 1 ≠ w.heap.size; omega)]; exact e2
    have hB4 : Below w.heap.size w W4 := by rw [← hW4]; exact HB3.out.setCell (Nat.le_refl _) _
    have hg4 : w3.grownBy W4 (some w.heap.size) := by rw [← hW4]; exact grown_set _ _ _ _
    obtain ⟨p0, p1, p2, p3⟩ := cells4 f0
    obtain ⟨r0, r1, r2, r3⟩ := cells4 f2
    have z0 := row_free f2 0
    have z1 := row_free f2 1
    have z2 := row_free f2 2
    have z3 := row_free f2 3
    have HRh := put4_heap f2 (.int .i64 room) (.slice (some ⟨g3, 0, none⟩) m cap) (.int .i64 ht) (.int .i64 ms)
    have hG5 := put4_grown W4 (w.heap.size + 1 + 1) (.int .i64 room) (.slice (some ⟨g3, 0, none⟩) m cap) (.int .i64 ht) (.int .i64 ms)
    have hR5 : RsAt S (put4 W4 (w.heap.size + 1 + 1) (.int .i64 room) (.slice (some ⟨g3, 0, none⟩) m cap) (.int .i64 ht) (.int .i64 ms)) (some ⟨g3, 0, none⟩) ((⟨ek, v⟩ :: wou es (i : Nat))) := by
      have k3 := HRs.out
      refine k3.keep (fun b i u hs hc => ⟨hs.1, ?_⟩)
      have c4 := hg4.cell hc (fun c => hs.2.1 (by injection c))
      exact hG5.cell c4 (fun c => hs.2.2 (by injection c))
    have HF : Box (RPutP S w room ht ms es k.ky v (.returned (stV room (some ⟨g3, 0, none⟩) m cap ht ms)) (put4 W4 (w.heap.size + 1 + 1) (.int .i64 room) (.slice (some ⟨g3, 0, none⟩) m cap) (.int .i64 ht) (.int .i64 ms))) := boxed ⟨(some ⟨g3, 0, none⟩), m, cap, (⟨ek, v⟩ :: wou es (i : Nat)), rfl, hm.out, hR5, .inr ⟨HC0.out, .inl ⟨i, ev, by rw [← HKy.out]; exact abR_get HEi.out, by rw [wou_at]; show (ek.ky, v) :: abR (es.eraseIdx i) = _; rw [abR_erase, HKy.out]⟩⟩, hB4.trans (grown_below hG5 (by omega) hB4.size)⟩
    unfold put4 at HRh HF
    have HRh2 := boxed HRh
    clear HRh hG5 hR5 f0 f2 hB4 hg4 HRs ho3 hb3 e0 e2
    go_wp2_with fail
    refine bodyPost_ret (v := stV room (some ⟨g3, 0, none⟩) m cap ht ms) ?_ ?_ HF.out
    · exact results_cell_row Try.results29 _ _ (w.heap.size + 1 + 1) 27 _ (0, 0) _ rfl HRh2.out Try.underlying27 rfl (by kernel_rfl)
    · rfl

  · have HR2 := boxed (HR.out.below HB1.out)
    have HNo := boxed hno
    have HKn : Box (KvAt S w1 k ∧ Fits k ∧ k.rn ≤ k.rc) := boxed ⟨HKv.out.1.below HB1.out, HKv.out.2⟩
    clear hno
    obtain ⟨x0, x1, x2, x3⟩ := cells4 E0w.out
    obtain ⟨q0, q1, q2, q3, q4, q5, q6, q7, q8, q9, q10⟩ := cells11 E1w.out
    have HFr := boxed (front_any S w1 _ lc es (-1) ⟨k, v⟩ HR2.out (by rw [HNn.out]; omega))
    simp only [Re.val] at HFr
    rw [HNn.out] at HFr
    go_wp2_with fail
    refine HFr.out.mono ?_
    rintro r w3 ⟨ao, m, cap, rfl, hm, ho3, hb3⟩
    have e0 := (hb3.block w.heap.size (heap_lt E0w.out)).trans E0w.out
    have e2 := (hb3.block (w.heap.size + 1 + 1) (heap_lt E2w.out)).trans E2w.out
    have HB3 := boxed (below_step HB1.out (Nat.le_refl _) hb3)
    have hz3 := heap_lt e2
    have hs2 := heap_lt E2w.out
    obtain ⟨y0, y1, y2, y3⟩ := cells4 e0
    have yf := row_free e0 1
    obtain ⟨g3, cap3, hsh3⟩ := ownsRow_form ho3 (by rw [hm]; simp)
    injection hsh3 with hs_a hs_b hs_c
    subst hs_a; subst hs_c
    have hg3 := (ho3.lt g3 rfl).1
    have hcap : m ≤ cap := by
      rcases ho3.2 with ⟨e, h0⟩ | ⟨g, cp, cur, e, _, _, h1, _⟩
      · cases e
      · injection e with _ _ e3; omega

    have hmn : m = n + 1 := by rw [hm, wou_none, List.length_cons, HNn.out]
    have HRs0 : Box (RsAt (fun b => S b ∧ b ≠ w.heap.size ∧ b ≠ w.heap.size + 1 + 1) w3 (some ⟨g3, 0, none⟩) (⟨k, v⟩ :: es)) := boxed (by
      have hw := wou_none es
      rw [hw] at hm ho3
      refine rs_own (B := w1.heap.size) (by rw [← hm]; exact ho3) (fun b hb => ⟨HS.out b (by omega), by omega, by omega⟩) ?_
      intro x hx
      have hx2 : KvAt S w x.k ∧ Fits x.k ∧ x.k.rn ≤ x.k.rc := by
        rcases List.mem_cons.1 hx with rfl | hx
        · exact HKv.out
        · exact HR.out.key x hx
      refine ⟨P2At.keep hx2.1 (fun b q u hs hc => ?_), hx2.2⟩
      have hlt := World.block_lt_of_cell? w _ hc
      simp only at hlt
      exact ⟨⟨hs, by omega, by omega⟩, hold HB3.out hc⟩)
    by_cases cc : ((n : Nat) : Int) = room
    · obtain ⟨rm, hrm⟩ : ∃ rm : Nat, room = (rm : Nat) := ⟨room.toNat, by omega⟩
      subst hrm
      have hnr : n = rm := by omega
      subst hnr
      have tg : decide (((n : Nat) : Int) < (m : Int)) = true := decide_eq_true (by omega)
      have tg2 : decide (n < m) = true := decide_eq_true (by omega)
      have tg3 : n < m := by omega
      have hsl := fun w => slice_hiR g3 m cap n (by omega) w
      have HRs : Box (RsAt (fun b => S b ∧ b ≠ w.heap.size ∧ b ≠ w.heap.size + 1 + 1) w3 (some ⟨g3, 0, none⟩) ((⟨k, v⟩ :: es).take n)) := boxed (HRs0.out.take n)
      have HEl : Box (n = ((⟨k, v⟩ :: es).take n).length) := boxed (by simp [HNn.out])
      have HPu : Box (abR ((⟨k, v⟩ :: es).take n) = (k.ky, v) :: (abR es).dropLast) := boxed (by
        obtain ⟨n', hn'⟩ : ∃ n', n = n' + 1 := ⟨n - 1, by have := HC0.out; omega⟩
        have hd : (abR es).dropLast = (abR es).take n' := by rw [List.dropLast_eq_take, abR_len, HNn.out, hn']; rfl
        rw [hd, hn', List.take_succ_cons]
        simp [abR, List.map_take])
      clear HRs0 hmn hm cc
      obtain ⟨W4, hW4⟩ : ∃ W4, w3.setCell ⟨w.heap.size, 1, none⟩ (.slice (some ⟨g3, 0, none⟩) n cap) = W4 := ⟨_, rfl⟩
      have f0 : W4.heap[w.heap.size]? = some (.cells #[.int .i64 ((n : Nat) : Int), .slice (some ⟨g3, 0, none⟩) n cap, .int .i64 ht, .int .i64 ms] 27 (0, 0)) := by rw [← hW4]; exact arr_set _ e0
      have f2 : W4.heap[w.heap.size + 1 + 1]? = some (.cells #[.int .i64 0, .slice none 0 0, .int .i64 0, .int .i64 0] 27 (0, 0)) := by rw [← hW4, Below.heap_setCell _ _ _ _ (by show w.heap.size + 1 + 1 ≠ w.heap.size; omega)]; exact e2
      have hB4 : Below w.heap.size w W4 := by rw [← hW4]; exact HB3.out.setCell (Nat.le_refl _) _
      have hg4 : w3.grownBy W4 (some w.heap.size) := by rw [← hW4]; exact grown_set _ _ _ _
      obtain ⟨p0, p1, p2, p3⟩ := cells4 f0
      obtain ⟨r0, r1, r2, r3⟩ := cells4 f2
      have z0 := row_free f2 0
      have z1 := row_free f2 1
      have z2 := row_free f2 2
      have z3 := row_free f2 3
      have HRh := put4_heap f2 (.int .i64 ((n : Nat) : Int)) (.slice (some ⟨g3, 0, none⟩) n cap) (.int .i64 ht) (.int .i64 ms)
      have hG5 := put4_grown W4 (w.heap.size + 1 + 1) (.int .i64 ((n : Nat) : Int)) (.slice (some ⟨g3, 0, none⟩) n cap) (.int .i64 ht) (.int .i64 ms)
      have hR5 : RsAt S (put4 W4 (w.heap.size + 1 + 1) (.int .i64 ((n : Nat) : Int)) (.slice (some ⟨g3, 0, none⟩) n cap) (.int .i64 ht) (.int .i64 ms)) (some ⟨g3, 0, none⟩) (((⟨k, v⟩ :: es).take n)) := by
        have k3 := HRs.out
        refine k3.keep (fun b i u hs hc => ⟨hs.1, ?_⟩)
        have c4 := hg4.cell hc (fun c => hs.2.1 (by injection c))
        exact hG5.cell c4 (fun c => hs.2.2 (by injection c))
      have HF : Box (RPutP S w ((n : Nat) : Int) ht ms es k.ky v (.returned (stV ((n : Nat) : Int) (some ⟨g3, 0, none⟩) n cap ht ms)) (put4 W4 (w.heap.size + 1 + 1) (.int .i64 ((n : Nat) : Int)) (.slice (some ⟨g3, 0, none⟩) n cap) (.int .i64 ht) (.int .i64 ms))) := boxed ⟨(some ⟨g3, 0, none⟩), n, cap, ((⟨k, v⟩ :: es).take n), rfl, HEl.out, hR5, .inr ⟨HC0.out, .inr ⟨abR_none HNo.out, .inl ⟨by rw [abR_len, HNn.out], HPu.out⟩⟩⟩, hB4.trans (grown_below hG5 (by omega) hB4.size)⟩
      unfold put4 at HRh HF
      have HRh2 := boxed HRh
      clear HRh hG5 hR5 f0 f2 hB4 hg4 HRs ho3 hb3 e0 e2
      go_wp2_with fail
      refine bodyPost_ret (v := stV ((n : Nat) : Int) (some ⟨g3, 0, none⟩) n cap ht ms) ?_ ?_ HF.out
      · exact results_cell_row Try.results29 _ _ (w.heap.size + 1 + 1) 27 _ (0, 0) _ rfl HRh2.out Try.underlying27 rfl (by kernel_rfl)
      · rfl

    · have tg : decide (room < (m : Int)) = false := decide_eq_false (by omega)
      have HRs := HRs0
      have HMl : Box (m = (⟨k, v⟩ :: es : List Re).length) := boxed (by rw [hmn, List.length_cons, HNn.out])
      have hlt9 : ((n : Nat) : Int) < room := by omega
      have HLt := boxed hlt9
      clear HRs0 hmn hm cc hlt9
      obtain ⟨W4, hW4⟩ : ∃ W4, w3.setCell ⟨w.heap.size, 1, none⟩ (.slice (some ⟨g3, 0, none⟩) m cap) = W4 := ⟨_, rfl⟩
      have f0 : W4.heap[w.heap.size]? = some (.cells #[.int .i64 room, .slice (some ⟨g3, 0, none⟩) m cap, .int .i64 ht, .int .i64 ms] 27 (0, 0)) := by rw [← hW4]; exact arr_set _ e0
      have f2 : W4.heap[w.heap.size + 1 + 1]? = some (.cells #[.int .i64 0, .slice none 0 0, .int .i64 0, .int .i64 0] 27 (0, 0)) := by rw [← hW4, Below.heap_setCell _ _ _ _ (by show w.heap.size + 1 + 1 ≠ w.heap.size; omega)]; exact e2
      have hB4 : Below w.heap.size w W4 := by rw [← hW4]; exact HB3.out.setCell (Nat.le_refl _) _
      have hg4 : w3.grownBy W4 (some w.heap.size) := by rw [← hW4]; exact grown_set _ _ _ _
      obtain ⟨p0, p1, p2, p3⟩ := cells4 f0
      obtain ⟨r0, r1, r2, r3⟩ := cells4 f2
      have z0 := row_free f2 0
      have z1 := row_free f2 1
      have z2 := row_free f2 2
      have z3 := row_free f2 3
      have HRh := put4_heap f2 (.int .i64 room) (.slice (some ⟨g3, 0, none⟩) m cap) (.int .i64 ht) (.int .i64 ms)
      have hG5 := put4_grown W4 (w.heap.size + 1 + 1) (.int .i64 room) (.slice (some ⟨g3, 0, none⟩) m cap) (.int .i64 ht) (.int .i64 ms)
      have hR5 : RsAt S (put4 W4 (w.heap.size + 1 + 1) (.int .i64 room) (.slice (some ⟨g3, 0, none⟩) m cap) (.int .i64 ht) (.int .i64 ms)) (some ⟨g3, 0, none⟩) ((⟨k, v⟩ :: es)) := by
        have k3 := HRs.out
        refine k3.keep (fun b i u hs hc => ⟨hs.1, ?_⟩)
        have c4 := hg4.cell hc (fun c => hs.2.1 (by injection c))
        exact hG5.cell c4 (fun c => hs.2.2 (by injection c))
      have HF : Box (RPutP S w room ht ms es k.ky v (.returned (stV room (some ⟨g3, 0, none⟩) m cap ht ms)) (put4 W4 (w.heap.size + 1 + 1) (.int .i64 room) (.slice (some ⟨g3, 0, none⟩) m cap) (.int .i64 ht) (.int .i64 ms))) := boxed ⟨(some ⟨g3, 0, none⟩), m, cap, (⟨k, v⟩ :: es), rfl, HMl.out, hR5, .inr ⟨HC0.out, .inr ⟨abR_none HNo.out, .inr ⟨by rw [abR_len, HNn.out]; exact HLt.out, rfl⟩⟩⟩, hB4.trans (grown_below hG5 (by omega) hB4.size)⟩
      unfold put4 at HRh HF
      have HRh2 := boxed HRh
      clear HRh hG5 hR5 f0 f2 hB4 hg4 HRs ho3 hb3 e0 e2
      go_wp2_with fail
      refine bodyPost_ret (v := stV room (some ⟨g3, 0, none⟩) m cap ht ms) ?_ ?_ HF.out
      · exact results_cell_row Try.results29 _ _ (w.heap.size + 1 + 1) 27 _ (0, 0) _ rfl HRh2.out Try.underlying27 rfl (by kernel_rfl)
      · rfl

end Go.Proofs.Ytmnnmnggakbipaa
