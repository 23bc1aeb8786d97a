/-
  What Put leaves in an empty cache: the key that it keeps lies in memory of its own.
-/
import Derived.Test.YtmnnmnggakbipaaSg
namespace Go.Proofs.Ytmnnmnggakbipaa
open Go.RowKit
set_option linter.unusedSimpArgs false
set_option linter.unusedVariables false

/-- What Put leaves in an empty cache: one entry, its key's runs in new memory. -/
def PutF (w : World) (F : Nat → Prop) (cb mb : Nat) (room fo mi : Int) (k : Ky) (v : Int) (w' : World) : Prop :=
  ∃ F' e Bk' M', CaAt w' F' cb mb room fo mi [e] Bk' M' ∧ (e.k.ky = k ∧ e.v = v) ∧ (∀ b off, e.k.ra = some ⟨b, off, none⟩ → 0 < e.k.rn → w.heap.size ≤ b) ∧ (∀ b, F' b → F b ∨ w.heap.size ≤ b) ∧ Chg F w w'
set_option maxRecDepth 100000 in
set_option maxHeartbeats 4000000 in
theorem put_fresh (w : World) (F : Nat → Prop) (cb mb : Nat) (room fo mi : Int) (Bk : Int → List Nat) (M : Int → Option Value) (k : Kv) (v : Int) (h : CaAt w F cb mb room fo mi [] Bk M) (hroom : 1 ≤ room) (hk : KvAt (fun b => ¬ F b) w k) (hf : Fits k) (hkc : k.rn ≤ k.rc) :
    Calls Try.prog 25 #[.pointer (some ⟨cb, 0, none⟩), k.val, .int .i64 v] w fun r w' => r = .returned (.tuple #[]) ∧ PutF w F cb mb room fo mi k.ky v w' := by
  have HH := boxed h
  have hrn := hf.rn
  have htx := hf.tx
  have HFt := boxed hf
  obtain ⟨W, hW⟩ : ∃ W, w.alloc (.cells #[.string k.tx, .slice k.ra k.rn k.rc, .int .i64 k.ta, .int .i64 k.wd, .int .i64 k.s.t, .int .i64 k.s.l, .int .i64 k.s.a, .int .i64 k.s.d, .int .i64 k.s.z, .int .i64 k.s.o, .int .i64 k.s.i] 42) = W := ⟨_, rfl⟩
  have HQ := laid1 w (.cells #[.string k.tx, .slice k.ra k.rn k.rc, .int .i64 k.ta, .int .i64 k.wd, .int .i64 k.s.t, .int .i64 k.s.l, .int .i64 k.s.a, .int .i64 k.s.d, .int .i64 k.s.z, .int .i64 k.s.o, .int .i64 k.s.i] 42)
  rw [hW] at HQ
  obtain ⟨f0, hB, hz⟩ := HQ
  have HB := boxed hB
  have HF0 := boxed f0
  have HKw := boxed hk
  have HHs := boxed (fun W' (hb : Below W.heap.size W W') => hash_any k W' ((hk.weak.below hB).below hb) (by omega) (by unfold maxLen; omega))
  have HFn := boxed (fun W' (hb : Below W.heap.size W W') => find_any W' F cb mb room fo mi [] Bk M k ((h.below hB).below hb) ((hk.weak.below hB).below hb) hkc)
  have H1 := boxed (h.below hB)
  have k0 := H1.out.ca.cells.1
  have hro := h.room
  unfold Kv.val at HHs HFn ⊢
  clear h hk hf hkc hB f0 hz
  have c0 : room ≠ 0 := by omega
  have t0 : (room == 0) = false := by rw [beq_eq_false_iff_ne]; exact c0
  obtain ⟨q0, q1, q2, q3, q4, q5, q6, q7, q8, q9, q10⟩ := cells11 HF0.out
  obtain ⟨g, hg⟩ : ∃ g, hsh k.ky = g := ⟨_, rfl⟩
  rw [hg] at HHs HFn
  have HHg := boxed hg
  have HC0 := boxed c0
  clear hg c0
  have hHs := HHs.out W (Below.refl _ _)
  go_enter Try.func25, Try.ntmps25
  go_wp2_with fail
  refine hHs.mono ?_
  rintro r w1 ⟨rfl, hb1⟩
  have HB1 := boxed hb1
  have hF1 := (hb1.block w.heap.size (heap_lt HF0.out)).trans HF0.out
  obtain ⟨p0, p1, p2, p3, p4, p5, p6, p7, p8, p9, p10⟩ := cells11 hF1
  clear hb1 hHs HHs hF1 q0 q1 q2 q3 q4 q5 q6 q7 q8 q9 q10
  go_wp2_with fail
  refine (HFn.out _ HB1.out).mono ?_
  rintro r w2 ⟨o, rfl, hfp, hb2⟩
  have HP := boxed hfp
  have HB2 := boxed (below_step HB1.out (Nat.le_refl _) hb2)
  clear hb2 hfp HFn HB1 p0 p1 p2 p3 p4 p5 p6 p7 p8 p9 p10
  have H2 := boxed (H1.out.below HB2.out)
  have HBw : Box (Below w.heap.size w w2) := boxed (HB.out.trans (HB2.out.mono HB.out.size))
  have HK2 : Box (w2.heap[w.heap.size]? = some (.cells #[.string k.tx, .slice k.ra k.rn k.rc, .int .i64 k.ta, .int .i64 k.wd, .int .i64 k.s.t, .int .i64 k.s.l, .int .i64 k.s.a, .int .i64 k.s.d, .int .i64 k.s.z, .int .i64 k.s.o, .int .i64 k.s.i] 42 (0, 0))) := boxed ((HB2.out.block _ (heap_lt HF0.out)).trans HF0.out)
  clear HF0 HB2 H1 HB
  cases o with
  | some e =>
    obtain ⟨hm, hky⟩ := HP.out
    cases hm
  | none =>
    have hno := HP.out
    have m0 := H2.out.ca.cells.1
    have m1 := H2.out.ca.cells.2.1
    have hll := H2.out.len
    unfold pt
    simp only [Option.map_none]
    · have tf : ((0 : Int) == room) = false := by rw [beq_eq_false_iff_ne]; omega
      have HLt : Box (((([] : List En).length : Nat) : Int) < room) := boxed (by simp; omega)
      have HNk := boxed hno
      clear HP hno hll
      go_wp2_with fail
      go_quiet (fail)
      have hch' : Chg F w (w2.drewN nq) := Chg.of_below (HBw.out.trans (bel_drewN _ _ _))
      have H3 := boxed (H2.out.below (bel_drewN w2.heap.size w2 nq))
      have HKv3 : Box (KvAt (fun b => ¬ F b) (w2.drewN nq) k) := boxed (P2At.keep (HKw.out) hch'.kp)
      have HK3 : Box ((w2.drewN nq).heap[w.heap.size]? = some (.cells #[.string k.tx, .slice k.ra k.rn k.rc, .int .i64 k.ta, .int .i64 k.wd, .int .i64 k.s.t, .int .i64 k.s.l, .int .i64 k.s.a, .int .i64 k.s.d, .int .i64 k.s.z, .int .i64 k.s.o, .int .i64 k.s.i] 42 (0, 0))) := HK2
      have hsz3 := hch'.size
      have HFin : Box (∀ (w6 : World) (F' : Nat → Prop) (Bk' : Int → List Nat) (M' : Int → Option Value) (b6 : Nat) (ao' : Option Addr) (c' : Nat), (∀ b off, ao' = some ⟨b, off, none⟩ → 0 < k.rn → (w2.drewN nq).heap.size ≤ b) → CaAt w6 F' cb mb room fo mi [⟨b6, { k with ra := ao', rc := c' }, v⟩] Bk' M' → (∀ b, F' b → F b ∨ (w2.drewN nq).heap.size ≤ b) → Chg F (w2.drewN nq) w6 → PutF w F cb mb room fo mi k.ky v w6) := boxed (fun w6 F' Bk' M' b6 ao' c' d0 d1 d2 d3 =>
        ⟨F', _, Bk', M', d1, ⟨rfl, rfl⟩, fun b off e hn => Nat.le_trans hsz3 (d0 b off e hn), fun b hb => (d2 b hb).imp id (fun c => by omega), hch'.trans d3⟩)
      clear hch' HKw HK2 HBw HH H2 m0 m1
      generalize w2.drewN nq = w3 at *
      obtain ⟨q0, q1, q2, q3, q4, q5, q6, q7, q8, q9, q10⟩ := cells11 HK3.out
      have HOw := boxed (own_any _ k w3 HKv3.out (by omega) (by omega))
      have HAd := boxed (fun ao' c' w4 hb4 hk' hc => put_add (cb := cb) (mb := mb) (room := room) (fo := fo) (mi := mi) H3.out HLt.out k HFt.out HNk.out v ao' c' w4 hb4 hk' hc)
      simp only [enC, pt, Option.map_none, ky_cp, HHg.out] at HAd
      simp only [Kv.val] at HOw
      clear H3 HKv3 HK3 HNk
      go_wp2_with fail
      refine HOw.out.mono ?_
      rintro r w4 ⟨ao', c', rfl, -, hk4, hc4, hb4⟩
      have HA4 := boxed (HAd.out ao' c' w4 hb4 hk4 hc4)
      have HD0 : Box (∀ b off, ao' = some ⟨b, off, none⟩ → 0 < k.rn → w3.heap.size ≤ b) := boxed (fun b off e hn => by
        obtain ⟨-, b', off', e', hs, -⟩ := hk4 0 hn
        have e2 : ao' = some ⟨b', off', none⟩ := e'
        rw [e] at e2
        injection e2 with e2
        injection e2 with e2 _
        subst e2
        exact hs)
      clear hk4 hc4 hb4 HOw HAd
      go_wp2_with fail
      refine HA4.out.mono ?_
      rintro r w6 ⟨rfl, F', Bk', M', d1, d2, d3⟩
      have HF := boxed (HFin.out w6 F' Bk' M' _ _ _ HD0.out d1 d2 d3)
      clear d1 d2 d3 HA4 HFin
      go_wp2_with fail
      exact bodyPost_end (results_none rfl _ _ _) rfl ⟨rfl, HF.out⟩
end Go.Proofs.Ytmnnmnggakbipaa
