/-
  What Put leaves.
-/
import Derived.Test.YtmnnmnggakbipaaQr
namespace Go.Proofs.Ytmnnmnggakbipaa
open Go.RowKit
set_option linter.unusedSimpArgs false
set_option linter.unusedVariables false

theorem ky_cp (k : Kv) (a : Option Addr) (c : Nat) : Kv.ky ⟨k.tx, a, k.rn, c, k.ta, k.wd, k.s, k.L, k.Y⟩ = k.ky := rfl
/-- What Put leaves. -/
def PutP (w : World) (F : Nat → Prop) (cb mb : Nat) (room fo mi : Int) (L : List En) (k : Ky) (v : Int) (w' : World) : Prop :=
  ∃ F' L' Bk' M', CaAt w' F' cb mb room fo mi L' Bk' M' ∧ PutR room (abL L) k v (abL L') ∧ (∀ b, F' b → F b ∨ w.heap.size ≤ b) ∧ Chg F w w'
theorem put_add {w3 : World} {F : Nat → Prop} {cb mb : Nat} {room fo mi : Int} {A : List En} {Bk : Int → List Nat} {M : Int → Option Value} (h : CaAt w3 F cb mb room fo mi A Bk M) (hlen : ((A.length : Nat) : Int) < room) (k : Kv) (hf : Fits k) (hky : ∀ x ∈ A, x.k.ky ≠ k.ky) (v : Int) (ao' : Option Addr) (c' : Nat)
    (w4 : World) (hb4 : Below w3.heap.size w3 w4) (hk' : KvAt (fun b => w3.heap.size ≤ b) w4 { k with ra := ao', rc := c' }) (hc : k.rn ≤ c') :
    Calls Try.prog 45 #[.pointer (some ⟨cb, 0, none⟩), .pointer (some ⟨w4.heap.size, 0, none⟩)] (w4.alloc (.cells (enC ⟨w4.heap.size, { k with ra := ao', rc := c' }, v⟩ none none) 78)) fun r w' => r = .returned (.tuple #[]) ∧ ∃ F' Bk' M', CaAt w' F' cb mb room fo mi (⟨w4.heap.size, { k with ra := ao', rc := c' }, v⟩ :: A) Bk' M' ∧ (∀ b, F' b → F b ∨ w3.heap.size ≤ b) ∧ Chg F w3 w' := by
  obtain ⟨l1, l2, l3⟩ := laid1 w4 (.cells (enC ⟨w4.heap.size, { k with ra := ao', rc := c' }, v⟩ none none) 78)
  have hb5 : Below w3.heap.size w3 (w4.alloc (.cells (enC ⟨w4.heap.size, { k with ra := ao', rc := c' }, v⟩ none none) 78)) := hb4.alloc hb4.size _
  have h5 := h.below hb5
  have hFn : ¬ F w4.heap.size := fun c => by have := h.fl _ c; have := hb4.size; omega
  refine (add_any _ F cb mb room fo mi A ⟨w4.heap.size, { k with ra := ao', rc := c' }, v⟩ Bk M none none h5 l1 hFn ⟨?_, ⟨hf.tx, hf.rn, hf.L⟩, hc⟩ ?_ hky hlen).mono ?_
  · refine P2At.keep hk' (fun b i u hs hcl => ?_)
    have hlt := World.block_lt_of_cell? w4 _ hcl
    simp only at hlt
    refine ⟨⟨⟨fun c => by have := h.fl _ c; omega, by have := heap_lt h.ca; omega⟩, fun c => by change b = w4.heap.size at c; omega⟩, hold l2 hcl⟩
  · intro x hx
    refine P2At.keep (h.key x hx).1 (fun b i u hs hcl => ?_)
    have hlt := World.block_lt_of_cell? w3 _ hcl
    simp only at hlt
    have := hb4.size
    exact ⟨⟨hs, fun c => by change b = w4.heap.size at c; omega⟩, hold hb5 hcl⟩
  · rintro r w' ⟨rfl, F', Bk', M', d1, d2, d3⟩
    have hsz := hb4.size
    refine ⟨rfl, F', Bk', M', d1, fun b hb => ?_, ⟨d3.os.trans hb5.os, d3.tape.trans hb5.tape, d3.output.trans hb5.output, Nat.le_trans hb5.size d3.size, fun b hb hn => ?_⟩⟩
    · rcases d2 b hb with c | c | c
      · exact .inl c
      · exact .inr (by simp only at c; omega)
      · exact .inr (by rw [l3] at c; omega)
    · refine (d3.block b (Nat.lt_of_lt_of_le hb hb5.size) (fun c => ?_)).trans (hb5.block b hb)
      rcases c with c | c
      · exact hn c
      · change b = w4.heap.size at c; omega

set_option maxRecDepth 100000 in
set_option maxHeartbeats 4000000 in
theorem put_any (w : World) (F : Nat → Prop) (cb mb : Nat) (room fo mi : Int) (L : List En) (Bk : Int → List Nat) (M : Int → Option Value) (k : Kv) (v : Int) (h : CaAt w F cb mb room fo mi L Bk M) (hk : KvAt (fun b => ¬ F b) w k) (hf : Fits k) (hkc : k.rn ≤ k.rc) :
    Calls Try.prog 25 #[.pointer (some ⟨cb, 0, none⟩), k.val, (.int .i64 v)] w fun r w' => r = .returned (.tuple #[]) ∧ PutP w F cb mb room fo mi L k.ky v w' := by
  have HH := boxed h
  have hrn := hf.rn
  have htx := hf.tx
  have HFt := boxed hf
  obtain ⟨W, hW⟩ : ∃ W, w.alloc (.cells #[.string k.tx, .slice k.ra k.rn k.rc, .int .i64 k.ta, .int .i64 k.wd, .int .i64 k.s.t, .int .i64 k.s.l, .int .i64 k.s.a, .int .i64 k.s.d, .int .i64 k.s.z, .int .i64 k.s.o, .int .i64 k.s.i] 42) = W := ⟨_, rfl⟩
  have HQ := laid1 w (.cells #[.string k.tx, .slice k.ra k.rn k.rc, .int .i64 k.ta, .int .i64 k.wd, .int .i64 k.s.t, .int .i64 k.s.l, .int .i64 k.s.a, .int .i64 k.s.d, .int .i64 k.s.z, .int .i64 k.s.o, .int .i64 k.s.i] 42)
  rw [hW] at HQ
  obtain ⟨f0, hB, hz⟩ := HQ
  have HB := boxed hB
  have HF0 := boxed f0
  have HKw := boxed hk
  have HHs := boxed (fun W' (hb : Below W.heap.size W W') => hash_any k W' ((hk.weak.below hB).below hb) (by omega) (by unfold maxLen; omega))
  have HFn := boxed (fun W' (hb : Below W.heap.size W W') => find_any W' F cb mb room fo mi L Bk M k ((h.below hB).below hb) ((hk.weak.below hB).below hb) hkc)
  have H1 := boxed (h.below hB)
  have k0 := H1.out.ca.cells.1
  have hro := h.room
  unfold Kv.val at HHs HFn ⊢
  clear h hk hf hkc hB f0 hz
  by_cases c0 : room = 0
  · subst c0
    have HF : Box (PutP w F cb mb 0 fo mi L k.ky v W) := boxed ⟨F, L, Bk, M, H1.out, .inl ⟨rfl, rfl⟩, fun b hb => .inl hb, Chg.of_below HB.out⟩
    clear HHs HFn
    go_enter Try.func25, Try.ntmps25
    go_wp2_with fail
    exact bodyPost_ret (results_none rfl _ _ _) rfl ⟨rfl, HF.out⟩
  have t0 : (room == 0) = false := by rw [beq_eq_false_iff_ne]; exact c0
  obtain ⟨q0, q1, q2, q3, q4, q5, q6, q7, q8, q9, q10⟩ := cells11 HF0.out
  obtain ⟨g, hg⟩ : ∃ g, hsh k.ky = g := ⟨_, rfl⟩
  rw [hg] at HHs HFn
  have HHg := boxed hg
  have HC0 := boxed c0
  clear hg c0
  have hHs := HHs.out W (Below.refl _ _)
  go_enter Try.func25, Try.ntmps25
  go_wp2_with fail
  refine hHs.mono ?_
  rintro r w1 ⟨rfl, hb1⟩
  have HB1 := boxed hb1
  have hF1 := (hb1.block w.heap.size (heap_lt HF0.out)).trans HF0.out
  obtain ⟨p0, p1, p2, p3, p4, p5, p6, p7, p8, p9, p10⟩ := cells11 hF1
  clear hb1 hHs HHs hF1 q0 q1 q2 q3 q4 q5 q6 q7 q8 q9 q10
  go_wp2_with fail
  refine (HFn.out _ HB1.out).mono ?_
  rintro r w2 ⟨o, rfl, hfp, hb2⟩
  have HP := boxed hfp
  have HB2 := boxed (below_step HB1.out (Nat.le_refl _) hb2)
  clear hb2 hfp HFn HB1 p0 p1 p2 p3 p4 p5 p6 p7 p8 p9 p10
  have H2 := boxed (H1.out.below HB2.out)
  have HBw : Box (Below w.heap.size w w2) := boxed (HB.out.trans (HB2.out.mono HB.out.size))
  have HK2 : Box (w2.heap[w.heap.size]? = some (.cells #[.string k.tx, .slice k.ra k.rn k.rc, .int .i64 k.ta, .int .i64 k.wd, .int .i64 k.s.t, .int .i64 k.s.l, .int .i64 k.s.a, .int .i64 k.s.d, .int .i64 k.s.z, .int .i64 k.s.o, .int .i64 k.s.i] 42 (0, 0))) := boxed ((HB2.out.block _ (heap_lt HF0.out)).trans HF0.out)
  clear HF0 HB2 H1 HB
  cases o with
  | some e =>
    obtain ⟨hm, hky⟩ := HP.out
    obtain ⟨A, B, hAB⟩ := List.append_of_mem hm
    subst hAB
    obtain ⟨p, q, hE⟩ := H2.out.seg.get e hm
    have x11 := hE.cells.2.2.2.2.2.2.2.2.2.2.2.1
    have z11 := row_free hE 11
    have hV := H2.out.val v
    have HV := boxed hV
    have HBt := boxed (btf_any _ cb room ((A ++ { e with v := v } :: B).length : Nat) fo mi mb A { e with v := v } B hV.ca hV.seg hV.nd)
    have HFe : Box (∀ b, (b = cb ∨ b ∈ (A ++ { e with v := v } :: B).map En.b) → F b) := boxed (fun b hb => by
      rcases hb with rfl | hb
      · exact HH.out.fc
      · obtain ⟨x, hx, rfl⟩ := List.mem_map.1 hb; exact hV.fe x hx)
    have HC4 : Box (Chg F w (w2.setCell ⟨e.b, 11, none⟩ (.int .i64 v))) := boxed ((Chg.of_below HBw.out).trans (Chg.set _ _ _ _ (HH.out.fe e hm)))
    have HR := boxed (abL_move A B e { e with v := v } rfl)
    rw [hky] at HR
    unfold pt
    simp only [Option.map_some] at HBt ⊢
    clear HP H2 HH HBw hm hky hV hE HK2 HKw
    go_wp2_with fail
    refine HBt.out.mono ?_
    rintro r w5 ⟨rfl, b1, b2, b3⟩
    have hlen : (({ e with v := v } : En) :: (A ++ B)).length = (A ++ { e with v := v } :: B).length := by simp; omega
    have H5 := HV.out.move (perm_mid A B _) (by rw [hlen]; exact b1) b2 b3
    have HF : Box (PutP w F cb mb room fo mi (A ++ e :: B) k.ky v w5) := boxed (by
      obtain ⟨i, v0, g1, g2, g3⟩ := HR.out
      exact ⟨F, _, Bk, M, H5, .inr ⟨HC0.out, .inl ⟨i, v0, g1, g3⟩⟩, fun b hb => .inl hb, HC4.out.trans (b3.mono (fun b _ hb => HFe.out b hb))⟩)
    clear b1 b2 b3 H5 HBt HV HFe HC4 HR
    go_wp2_with fail
    exact bodyPost_ret (results_none rfl _ _ _) rfl ⟨rfl, HF.out⟩
  | none =>
    have hno := HP.out
    have m0 := H2.out.ca.cells.1
    have m1 := H2.out.ca.cells.2.1
    have hll := H2.out.len
    unfold pt
    simp only [Option.map_none]
    by_cases cf : ((L.length : Nat) : Int) = room
    · have tf : (((L.length : Nat) : Int) == room) = true := by simpa using cf
      obtain ⟨A, e, hAe⟩ : ∃ A e, L = A ++ [e] := by
        rcases List.eq_nil_or_concat L with hL | ⟨A, e, hL⟩
        · exfalso
          rw [hL] at cf
          exact HC0.out cf.symm
        · exact ⟨A, e, by rw [hL, List.concat_eq_append]⟩
      subst hAe
      have HDr := boxed (fun n => drop_any (w2.drewN n) F cb mb room fo mi A e Bk M (H2.out.below (bel_drewN _ _ _)))
      have m6 : ∀ n, (w2.drewN n).cell? ⟨cb, 6, none⟩ = some (.pointer (some ⟨e.b, 0, none⟩)) := fun n => by
        have := H2.out.ca.cells.2.2.2.2.2.2
        rw [lst_app] at this
        exact this
      have HLx : Box (((A.length : Nat) : Int) < room) := boxed (by rw [← cf]; simp; omega)
      have HCl : Box (((A.length : Nat) : Int) + 1 = room) := boxed (by rw [← cf]; simp)
      have HNo := boxed hno
      have HCf := boxed cf
      clear HP hno cf hll H2
      generalize ((A ++ [e]).length : Nat) = ll at *
      go_wp2_with fail
      go_quiet (fail)
      go_wp2_with fail
      have m6' := m6 nq
      refine (HDr.out _).mono ?_
      rintro r w3 ⟨rfl, Bk3, M3, h3, hch⟩
      have hch' : Chg F w w3 := (Chg.of_below (HBw.out.trans (bel_drewN _ _ _))).trans hch
      have hch2 : Chg F w2 w3 := (Chg.of_below (bel_drewN _ _ _)).trans hch
      have HLt := HLx
      have H3 := boxed h3
      have HKv3 : Box (KvAt (fun b => ¬ F b) w3 k) := boxed (P2At.keep (HKw.out) hch'.kp)
      have hFw : ¬ F w.heap.size := fun c => by have := HH.out.fl _ c; omega
      have HK3 : Box (w3.heap[w.heap.size]? = some (.cells #[.string k.tx, .slice k.ra k.rn k.rc, .int .i64 k.ta, .int .i64 k.wd, .int .i64 k.s.t, .int .i64 k.s.l, .int .i64 k.s.a, .int .i64 k.s.d, .int .i64 k.s.z, .int .i64 k.s.o, .int .i64 k.s.i] 42 (0, 0))) := boxed ((hch2.block _ (heap_lt HK2.out) hFw).trans HK2.out)
      have HNk : Box (∀ x ∈ A, x.k.ky ≠ k.ky) := boxed (fun x hx => HNo.out x (by simp [hx]))
      have hsz3 := hch'.size
      have HFin : Box (∀ (w6 : World) (F' : Nat → Prop) (Bk' : Int → List Nat) (M' : Int → Option Value) (b6 : Nat) (ao' : Option Addr) (c' : Nat), CaAt w6 F' cb mb room fo mi (⟨b6, { k with ra := ao', rc := c' }, v⟩ :: A) Bk' M' → (∀ b, F' b → F b ∨ w3.heap.size ≤ b) → Chg F w3 w6 → PutP w F cb mb room fo mi (A ++ [e]) k.ky v w6) := boxed (fun w6 F' Bk' M' b6 ao' c' d1 d2 d3 =>
        ⟨F', _, Bk', M', d1, .inr ⟨HC0.out, .inr ⟨abL_none HNo.out, .inl ⟨by rw [← HCl.out]; simp [abL], by simp [abL, Kv.ky]⟩⟩⟩, fun b hb => (d2 b hb).imp id (fun c => by omega), hch'.trans d3⟩)
      clear h3 hch hch' hch2 HDr HLx HNo HKw HK2 HBw HH hFw hsz3 m6 m6' m0 m1
      obtain ⟨q0, q1, q2, q3, q4, q5, q6, q7, q8, q9, q10⟩ := cells11 HK3.out
      have HOw := boxed (own_any _ k w3 HKv3.out (by omega) (by omega))
      have HAd := boxed (fun ao' c' w4 hb4 hk' hc => put_add (cb := cb) (mb := mb) (room := room) (fo := fo) (mi := mi) H3.out HLt.out k HFt.out HNk.out v ao' c' w4 hb4 hk' hc)
      simp only [enC, pt, Option.map_none, ky_cp, HHg.out] at HAd
      simp only [Kv.val] at HOw
      clear H3 HKv3 HK3 HNk
      go_wp2_with fail
      refine HOw.out.mono ?_
      rintro r w4 ⟨ao', c', rfl, -, hk4, hc4, hb4⟩
      have HA4 := boxed (HAd.out ao' c' w4 hb4 hk4 hc4)
      clear hk4 hc4 hb4 HOw HAd
      go_wp2_with fail
      refine HA4.out.mono ?_
      rintro r w6 ⟨rfl, F', Bk', M', d1, d2, d3⟩
      have HF := boxed (HFin.out w6 F' Bk' M' _ _ _ d1 d2 d3)
      clear d1 d2 d3 HA4 HFin
      go_wp2_with fail
      exact bodyPost_end (results_none rfl _ _ _) rfl ⟨rfl, HF.out⟩
    · have tf : (((L.length : Nat) : Int) == room) = false := by rw [beq_eq_false_iff_ne]; exact cf
      have HLt : Box (((L.length : Nat) : Int) < room) := boxed (by omega)
      have HNk := boxed hno
      clear HP hno cf hll
      go_wp2_with fail
      go_quiet (fail)
      have hch' : Chg F w (w2.drewN nq) := Chg.of_below (HBw.out.trans (bel_drewN _ _ _))
      have H3 := boxed (H2.out.below (bel_drewN w2.heap.size w2 nq))
      have HKv3 : Box (KvAt (fun b => ¬ F b) (w2.drewN nq) k) := boxed (P2At.keep (HKw.out) hch'.kp)
      have HK3 : Box ((w2.drewN nq).heap[w.heap.size]? = some (.cells #[.string k.tx, .slice k.ra k.rn k.rc, .int .i64 k.ta, .int .i64 k.wd, .int .i64 k.s.t, .int .i64 k.s.l, .int .i64 k.s.a, .int .i64 k.s.d, .int .i64 k.s.z, .int .i64 k.s.o, .int .i64 k.s.i] 42 (0, 0))) := HK2
      have hsz3 := hch'.size
      have HFin : Box (∀ (w6 : World) (F' : Nat → Prop) (Bk' : Int → List Nat) (M' : Int → Option Value) (b6 : Nat) (ao' : Option Addr) (c' : Nat), CaAt w6 F' cb mb room fo mi (⟨b6, { k with ra := ao', rc := c' }, v⟩ :: L) Bk' M' → (∀ b, F' b → F b ∨ (w2.drewN nq).heap.size ≤ b) → Chg F (w2.drewN nq) w6 → PutP w F cb mb room fo mi L k.ky v w6) := boxed (fun w6 F' Bk' M' b6 ao' c' d1 d2 d3 =>
        ⟨F', _, Bk', M', d1, .inr ⟨HC0.out, .inr ⟨abL_none HNk.out, .inr ⟨by simpa [abL] using HLt.out, by simp [abL, Kv.ky]⟩⟩⟩, fun b hb => (d2 b hb).imp id (fun c => by omega), hch'.trans d3⟩)
      clear hch' HKw HK2 HBw HH H2 m0 m1
      generalize w2.drewN nq = w3 at *
      obtain ⟨q0, q1, q2, q3, q4, q5, q6, q7, q8, q9, q10⟩ := cells11 HK3.out
      have HOw := boxed (own_any _ k w3 HKv3.out (by omega) (by omega))
      have HAd := boxed (fun ao' c' w4 hb4 hk' hc => put_add (cb := cb) (mb := mb) (room := room) (fo := fo) (mi := mi) H3.out HLt.out k HFt.out HNk.out v ao' c' w4 hb4 hk' hc)
      simp only [enC, pt, Option.map_none, ky_cp, HHg.out] at HAd
      simp only [Kv.val] at HOw
      clear H3 HKv3 HK3 HNk
      go_wp2_with fail
      refine HOw.out.mono ?_
      rintro r w4 ⟨ao', c', rfl, -, hk4, hc4, hb4⟩
      have HA4 := boxed (HAd.out ao' c' w4 hb4 hk4 hc4)
      clear hk4 hc4 hb4 HOw HAd
      go_wp2_with fail
      refine HA4.out.mono ?_
      rintro r w6 ⟨rfl, F', Bk', M', d1, d2, d3⟩
      have HF := boxed (HFin.out w6 F' Bk' M' _ _ _ d1 d2 d3)
      clear d1 d2 d3 HA4 HFin
      go_wp2_with fail
      exact bodyPost_end (results_none rfl _ _ _) rfl ⟨rfl, HF.out⟩
end Go.Proofs.Ytmnnmnggakbipaa
