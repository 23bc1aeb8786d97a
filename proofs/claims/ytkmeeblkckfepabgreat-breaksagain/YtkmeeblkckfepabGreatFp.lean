/-
  What the search's method lines answers.
-/
import Derived.Test.YtkmeeblkckfepabGreatFo
namespace Go.Proofs.YtkmeeblkckfepabGreat
open Go.RowKit
set_option linter.unusedSimpArgs false
set_option linter.unusedVariables false

section
variable {w : World} {B sb pb rb rc n : Nat} {I : Nat → Itm} {width : Int} {s : Stg} {v1 v2 : Value} {L1 L2 : List (Nat × Int)} {R : Nat → Nat → Int × Nat}
set_option maxRecDepth 100000 in
set_option maxHeartbeats 8000000 in
theorem lines_any (h : ParaAt (fun b => b < B) w pb n I) (hn : n ≤ 262144) (hok : ∀ i, i < n → okI I i = true) (hw : 1 ≤ width ∧ width ≤ 1073741824) (i nr bd : Nat) (k : Int) (hk : k + 1 = (i : Int)) (hi : i < nbk I n) (hss : SS B sb pb rb rc (nbk I n) width s w (bd : Int) (nr : Int) v1 v2 L1 L2) (hnr : forc (itb I n i) = true ∨ (i + 1 ≤ nr ∧ nr ≤ bd)) (hnm : bd ≤ nbk I n) (hr : RsAt w rb (nbk I n) R) (hl1 : L1.length ≤ 262143) (hl2 : L2.length ≤ 262143) (hnrm : nr ≤ nbk I n) :
    Calls Tryz.prog 32 #[.pointer (some ⟨sb, 0, none⟩), .int .i64 k] w fun e' w' => ∃ v1' v2' nr' st, e' = .returned (.agg (chA (hfu I n width s R k nr' st (hop (fun _ => Ln.none) (sel (itb I n k).flag (dr nr' (ent s L2 (i, uC I n s true i (R i 3).1))) (dr nr' (ent s L1 (i, uC I n s false i (R i 3).1)))))))) ∧
      (i ≤ nr' ∧ nr' ≤ (if forc (itb I n i) = true then i + 1 else nr) ∧ (nr' = i ∨ hpl I n width k ((nr' - 1 : Nat) : Int) = true)) ∧
      (nr' ≤ st ∧ st ≤ (if forc (itb I n i) = true then i + 1 else bd) ∧ (st = (if forc (itb I n i) = true then i + 1 else bd) ∨ width < (upt I n (bk I n k) (bk I n st)).w - (upt I n (bk I n k) (bk I n st)).sh)) ∧
      SS B sb pb rb rc (nbk I n) width s w' ((if forc (itb I n i) = true then i + 1 else bd : Nat) : Int) (nr' : Int) v1' v2' (dr nr' (ent s L1 (i, uC I n s false i (R i 3).1))) (dr nr' (ent s L2 (i, uC I n s true i (R i 3).1))) ∧ (∀ q, q < w.heap.size → SX sb v1' v2' q → SX sb v1 v2 q) ∧ Oth (SX sb v1 v2) w w' := by
  have hm : nbk I n ≤ 262144 := by unfold nbk; have := lgs_len I n n; omega
  have hsz := choice_size (fun _ => Ln.none)
  have h1 := chA_one (fun _ => Ln.none)
  have HN := fun W => none_any W
  obtain ⟨A, hA⟩ : ∃ A, chA (fun _ => Ln.none) = A := ⟨_, rfl⟩
  rw [hA] at hsz h1 HN
  obtain ⟨nr0, hnr0⟩ : ∃ nr0, (if forc (itb I n i) = true then i + 1 else nr) = nr0 := ⟨_, rfl⟩
  obtain ⟨bd0, hbd0⟩ : ∃ bd0, (if forc (itb I n i) = true then i + 1 else bd) = bd0 := ⟨_, rfl⟩
  have hord : nr0 ≤ bd0 ∧ bd0 ≤ nbk I n := by
    rw [← hnr0, ← hbd0]
    split
    · omega
    · rename_i hf; rcases hnr with h | h; exact absurd h hf; omega
  have HH := boxed (fun (W : World) (cb : Nat) (h : ParaAt (fun b => b < B) W pb n I) hss r hr hc hcx hcr hcB => hopeless_any (w := W) (cb := cb) (C := fun _ => Ln.none) (v1 := v1) (v2 := v2) (L1 := L1) (L2 := L2) (rb := rb) (sb := sb) (rc := rc) (s := s) (r := r) h hn hok hw i nr bd k hk hi hss (by rcases hnr with h | h; exact .inl h; exact .inr h.1) hnrm hr hl1 hl2 hc (by show Awf ≤ Awf; omega) hcx hcr hcB)
  rw [hnr0, hbd0] at HH ⊢
  clear hnr0 hbd0
  have HS0 := boxed hss
  have HP : Box (∀ W, Below B w W → ParaAt (fun b => b < B) W pb n I) := boxed (fun W hb => h.keep (kp_lt hb))
  have HR0 := boxed hr
  have hlt : ∀ q, SX sb v1 v2 q → B ≤ q ∧ q < w.heap.size := fun q hq => by
    rcases hq with hq | hq | hq
    · rw [hq]; exact ⟨hss.hs.1, hss.hs.2.1⟩
    · exact ⟨(hss.b1 q hq).1, (hss.b1 q hq).2.1⟩
    · exact ⟨(hss.b2 q hq).1, (hss.b2 q hq).2.1⟩
  have hrb := hss.hs.2.2.2.2
  have hB0 : B ≤ w.heap.size := by have := hss.hs; omega
  have HLT := boxed hlt
  clear h hss hr hlt hnr
  go_enter Tryz.func32, Tryz.ntmps32
  go_wp2_with fail
  refine (HN _).mono ?_
  rintro e' w1 ⟨rfl, hb1⟩
  have hz0 : (w.alloc (.cells #[.int .i64 0, .int .i64 0, .int .i64 0, .int .i64 0, .int .i64 0, .bool false, .int .i64 0, .int .i64 0, .int .i64 0, .int .i64 0, .int .i64 0, .int .i64 0, .bool false, .int .i64 0, .int .i64 0, .int .i64 0, .int .i64 0, .int .i64 0, .int .i64 0, .bool false, .int .i64 0, .int .i64 0, .int .i64 0, .int .i64 0, .int .i64 0, .int .i64 0, .bool false, .int .i64 0] 76)).heap.size = w.heap.size + 1 := by simp
  rw [hz0] at hb1
  have HZ1 : Box (w1.heap[w.heap.size]? = some (.cells (nA 0) 76 (0, 0))) := boxed (by rw [hb1.block _ (by omega), nA_zero]; exact heap_alloc_new w _)
  have HB1 : Box (Below w.heap.size w w1) := boxed (((Below.refl _ _).alloc (Nat.le_refl _) _).trans (hb1.mono (by omega)))
  have hz1 := heap_lt HZ1.out
  have HT1 : Box ((w1.alloc (.cells #[.int .i64 0, .int .i64 0, .int .i64 0, .int .i64 0, .int .i64 0, .bool false, .int .i64 0, .int .i64 0, .int .i64 0, .int .i64 0, .int .i64 0, .int .i64 0, .bool false, .int .i64 0, .int .i64 0, .int .i64 0, .int .i64 0, .int .i64 0, .int .i64 0, .bool false, .int .i64 0, .int .i64 0, .int .i64 0, .int .i64 0, .int .i64 0, .int .i64 0, .bool false, .int .i64 0] 76)).there w1.heap.size 0 A.size) := boxed (fun j hj => by
    rw [Nat.zero_add]
    have he := heap_alloc_new w1 (.cells #[.int .i64 0, .int .i64 0, .int .i64 0, .int .i64 0, .int .i64 0, .bool false, .int .i64 0, .int .i64 0, .int .i64 0, .int .i64 0, .int .i64 0, .int .i64 0, .bool false, .int .i64 0, .int .i64 0, .int .i64 0, .int .i64 0, .int .i64 0, .int .i64 0, .bool false, .int .i64 0, .int .i64 0, .int .i64 0, .int .i64 0, .int .i64 0, .int .i64 0, .bool false, .int .i64 0] 76)
    rw [← nA_zero] at he ⊢
    have hj2 : j < (nA 0).size := by rw [← hA] at hj; exact hj
    exact ⟨by rw [row_cell he j (nA 0)[j] (by simp [hj2])]; rfl, row_free he j⟩)
  have HE2 : Box (((w1.alloc (.cells #[.int .i64 0, .int .i64 0, .int .i64 0, .int .i64 0, .int .i64 0, .bool false, .int .i64 0, .int .i64 0, .int .i64 0, .int .i64 0, .int .i64 0, .int .i64 0, .bool false, .int .i64 0, .int .i64 0, .int .i64 0, .int .i64 0, .int .i64 0, .int .i64 0, .bool false, .int .i64 0, .int .i64 0, .int .i64 0, .int .i64 0, .int .i64 0, .int .i64 0, .bool false, .int .i64 0] 76)).setCells w1.heap.size 0 A.toList).heap[w1.heap.size]? = some (.cells A 76 (0, 0))) := boxed (by
    rw [sets_heap w1.heap.size 76 _ 0 _ _ (heap_alloc_new w1 _), ← hA]
    simp [setA, chA, Ln.cells, Ln.none])
  clear hb1 hz0
  go_wp2_with (first | (refine wpList_store_mid rfl 76 _ _ rfl _ 0 A rfl rfl HT1.out hsz h1 ?_))
  obtain ⟨w2, hw2⟩ : ∃ w2, (w1.alloc (.cells #[.int .i64 0, .int .i64 0, .int .i64 0, .int .i64 0, .int .i64 0, .bool false, .int .i64 0, .int .i64 0, .int .i64 0, .int .i64 0, .int .i64 0, .int .i64 0, .bool false, .int .i64 0, .int .i64 0, .int .i64 0, .int .i64 0, .int .i64 0, .int .i64 0, .bool false, .int .i64 0, .int .i64 0, .int .i64 0, .int .i64 0, .int .i64 0, .int .i64 0, .bool false, .int .i64 0] 76)).setCells w1.heap.size 0 A.toList = w2 := ⟨_, rfl⟩
  rw [hw2] at HE2 ⊢
  have hb2 : Below w1.heap.size w1 w2 := by rw [← hw2]; exact ((Below.refl _ _).alloc (Nat.le_refl _) _).trans (sets_below _ _ (Nat.le_refl _) _ _ _)
  obtain ⟨cb, hcb⟩ : ∃ cb, w1.heap.size = cb := ⟨_, rfl⟩
  rw [hcb] at HE2 hb2 hz1 ⊢
  have hb2w : Below w.heap.size w w2 := HB1.out.trans (hb2.mono (by omega))
  have HZ2 : Box (w2.heap[w.heap.size]? = some (.cells (nA 0) 76 (0, 0))) := boxed ((hb2.block _ hz1).trans HZ1.out)
  have hcz := heap_lt HE2.out
  have hX2 : ¬ SX sb v1 v2 cb := fun hx => by have := HLT.out cb hx; omega
  have HB2 := boxed hb2w
  have hho := HH.out w2 cb (HP.out _ (hb2w.mono hB0)) (HS0.out.below hb2w) (R i 3).1 (by
    have := (HR0.out.keep (hb2w.block rb hrb)) i 3 hi (by omega)
    simpa using this.1) (by rw [HE2.out, ← hA]) hX2 (by omega) (by omega)
  clear hw2 HT1 hb2 hb2w HH
  refine hho.mono ?_
  rintro e' w3 ⟨rfl, u1, u2, nr', hn3, hS3, hc3, hx3, hO3⟩
  have HX3 : Box (∀ q, q < w2.heap.size → SX sb u1 u2 q → SX sb v1 v2 q) := boxed hx3
  have HO3 := boxed hO3
  have HS3 := boxed hS3
  have HC3 := boxed hc3
  have HN3 := boxed hn3
  have hz2 := HB2.out.size
  have hBw3 : Below B w w3 := (HB2.out.mono hB0).trans (hO3.below (fun q hq => by rcases hq with hq | hq; exact (HLT.out q hq).1; omega) (by omega))
  have hr3 : w3.heap[rb]? = w.heap[rb]? := (hO3.block rb (by omega) (fun hx => by rcases hx with hx | hx; exact SX_rb HS0.out hx; omega)).trans (HB2.out.block rb hrb)
  have hZ3 : w3.heap[w.heap.size]? = some (.cells (nA 0) 76 (0, 0)) := (hO3.block _ (by omega) (fun hx => by rcases hx with hx | hx; have := (HLT.out _ hx).2; omega; omega)).trans HZ2.out
  have hX3 : ¬ SX sb u1 u2 cb := fun hx => hX2 (hx3 cb hcz hx)
  have hho2 := hopeful_any (cb := cb) (HP.out _ hBw3) hn hok hw nr' bd0 k hS3 (by omega) hord.2 (HR0.out.keep hr3) hc3 hX3 (by omega) (by omega)
  have HZ3 := boxed hZ3
  clear hc3 hx3 hO3 hS3 hn3 hBw3 hr3 hZ3 hho
  go_wp2_with fail
  refine hho2.mono ?_
  rintro e' w4 ⟨rfl, ⟨st, hst, hc4⟩, hO4⟩
  have HC4 := boxed hc4
  have HST := boxed hst
  have HS4 := boxed (HS3.out.oth hO4 (fun q hq hx => hX3 (by rw [← hq]; exact hx)))
  have HO4 := boxed hO4
  have z3 := HO3.out.size
  have z4 := hO4.size
  have hZ4 : w4.heap[w.heap.size]? = some (.cells (nA 0) 76 (0, 0)) := (hO4.block _ (heap_lt HZ3.out) (by omega)).trans HZ3.out
  obtain ⟨D, hD⟩ : ∃ D, hfu I n width s R k nr' st (hop (fun _ => Ln.none) (sel (itb I n k).flag (dr nr' (ent s L2 (i, uC I n s true i (R i 3).1))) (dr nr' (ent s L1 (i, uC I n s false i (R i 3).1))))) = D := ⟨_, rfl⟩
  have HD := boxed hD
  have hsz2 := choice_size D
  have h12 := chA_one D
  have hc5 := hc4
  rw [hD] at hc5
  have HT4 : Box (w4.there w.heap.size 0 (chA D).size) := boxed (fun j hj => by
    rw [Nat.zero_add]
    have hj2 : j < (nA 0).size := hj
    exact ⟨by rw [row_cell hZ4 j (nA 0)[j] (by simp [hj2])]; rfl, row_free hZ4 j⟩)
  have HP5 : Box ((w4.setCells w.heap.size 0 (chA D).toList).heap[w.heap.size]? = some (.cells (chA D) 76 (0, 0))) := boxed (by
    rw [sets_heap w.heap.size 76 _ 0 w4 _ hZ4]
    simp [setA, nA, chA, Ln.cells, Ln.zero])
  have HO5 : Box (Oth (fun q => q = w.heap.size) w4 (w4.setCells w.heap.size 0 (chA D).toList)) := boxed (by
    have h2 := sets_below w.heap.size 0 (by omega) (chA D).toList 0 w4
    exact ⟨h2.os, h2.tape, h2.output, h2.size, fun b _ hb => sets_other _ b hb _ _ _⟩)
  have HS5 := boxed (HS4.out.oth HO5.out (fun q hq hx => by
    rw [hq] at hx
    have := HX3.out _ (by omega) hx
    have := (HLT.out _ this).2
    omega))
  have HOF : Box (Oth (SX sb v1 v2) w (w4.setCells w.heap.size 0 (chA D).toList)) := boxed (by
    refine ⟨HO5.out.os.trans (HO4.out.os.trans (HO3.out.os.trans HB2.out.os)), HO5.out.tape.trans (HO4.out.tape.trans (HO3.out.tape.trans HB2.out.tape)), HO5.out.output.trans (HO4.out.output.trans (HO3.out.output.trans HB2.out.output)), ?_, fun q hq hx => ?_⟩
    · have := HO5.out.size; omega
    · rw [HO5.out.block q (by omega) (by omega), HO4.out.block q (by omega) (by omega), HO3.out.block q (by omega) (fun h => by rcases h with h | h; exact hx h; omega), HB2.out.block q hq])
  have HC5 := boxed hc5
  clear hD hc4 hc5 hO4 hst hZ4 HC4
  obtain ⟨E, hE⟩ : ∃ E, chA D = E := ⟨_, rfl⟩
  rw [hE] at hsz2 h12 HT4 HP5 HO5 HS5 HOF HC5
  have HEE := boxed hE
  clear hE
  go_wp2_with (first | (refine wpList_load_row rfl 76 _ rfl cb rfl 76 E (0, 0) _ HC5.out Tryz.underlying76 rfl hsz2 ?_) | (refine wpList_store_mid rfl 76 _ _ rfl w.heap.size 0 E rfl rfl HT4.out hsz2 h12 ?_))
  refine bodyPost_ret (v := .agg E) ?_ ?_ ?_
  · exact results_cell_row Tryz.results32 _ _ w.heap.size 76 E (0, 0) _ rfl HP5.out Tryz.underlying76 rfl hsz2
  · rfl
  · exact ⟨u1, u2, nr', st, by rw [HD.out, HEE.out], HN3.out, HST.out, HS5.out, fun q hq hx => HX3.out q (by omega) hx, HOF.out⟩
end
end Go.Proofs.YtkmeeblkckfepabGreat
