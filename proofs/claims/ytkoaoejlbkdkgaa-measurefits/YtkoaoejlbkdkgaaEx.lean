/-
  What the document's Line, Whole and Fit answer.
-/
import Derived.Test.YtkoaoejlbkdkgaaEw
namespace Go.Proofs.Ytkoaoejlbkdkgaa
open Go.RowKit
set_option linter.unusedSimpArgs false
set_option linter.unusedVariables false

/-- What the items from item s on come to, up to item k. -/
def seg (I : Nat → Itm) (s k : Nat) : Sm := (pre I k).sub (pre I s)
theorem seg_self (I : Nat → Itm) (s : Nat) : seg I s s = Sm.zero := by simp [seg, Sm.sub, Sm.zero]
theorem seg_next (I : Nat → Itm) (s k : Nat) : seg I s (k + 1) = acc (seg I s k) (I k) := by
  simp only [seg, Sm.sub, pre, acc]
  congr 1
  · split <;> omega
  · omega
  · omega
  · split <;> omega
theorem upd {w wr : World} {G i : Nat} {o : Obj} {arr : Array Value} {t : TypeId} (v : Value) (e1 : wr.heap[G]? = some o) (e2 : wr.heap[G + 1]? = some (.cells arr t (0, 0))) (hb : Below G w wr) :
    (wr.setCell ⟨G + 1, i, none⟩ v).drew.heap[G]? = some o ∧ (wr.setCell ⟨G + 1, i, none⟩ v).drew.heap[G + 1]? = some (.cells (arr.setIfInBounds i v) t (0, 0)) ∧ Below G w (wr.setCell ⟨G + 1, i, none⟩ v).drew := by
  refine ⟨?_, arr_set (W := wr) _ e2, (hb.setCell (by simp) _).drew⟩
  show (wr.setCell ⟨G + 1, i, none⟩ v).heap[G]? = some o
  rw [heap_setCell_other _ ⟨G + 1, i, none⟩ G _ (by simp)]
  exact e1
theorem updp {w wr : World} {G i : Nat} {o : Obj} {arr : Array Value} {t : TypeId} (v : Value) (e1 : wr.heap[G]? = some o) (e2 : wr.heap[G + 1]? = some (.cells arr t (0, 0))) (hb : Below G w wr) :
    (wr.setCell ⟨G + 1, i, none⟩ v).heap[G]? = some o ∧ (wr.setCell ⟨G + 1, i, none⟩ v).heap[G + 1]? = some (.cells (arr.setIfInBounds i v) t (0, 0)) ∧ Below G w (wr.setCell ⟨G + 1, i, none⟩ v) ∧ (wr.setCell ⟨G + 1, i, none⟩ v).heap.size = wr.heap.size := by
  refine ⟨?_, arr_set _ e2, hb.setCell (by simp) _, by simp⟩
  rw [heap_setCell_other _ ⟨G + 1, i, none⟩ G _ (by simp)]
  exact e1
theorem seg_le (I : Nat → Itm) (n : Nat) (hok : ∀ i, i < n → okI I i = true) (s k : Nat) (h1 : s ≤ k) (h2 : k ≤ n) (hn : n ≤ 262144) : (0 ≤ (seg I s k).w ∧ (seg I s k).w ≤ 18014398509481984) ∧ (0 ≤ (seg I s k).st ∧ (seg I s k).st ≤ 18014398509481984) ∧ (0 ≤ (seg I s k).sh ∧ (seg I s k).sh ≤ 18014398509481984) ∧ (0 ≤ (seg I s k).f ∧ (seg I s k).f ≤ 262144) := by
  have h3 := pre_le I n hok k h2
  have h4 := pre_le I n hok s (by omega)
  have h5 := pre_mono I n hok s k h1 h2
  simp only [seg, Sm.sub]
  omega
set_option maxRecDepth 100000 in
set_option maxHeartbeats 8000000 in
theorem refline_any (S : Nat → Prop) (ao : Option Addr) (n c : Nat) (I : Nat → Itm) (w : World) (h : ItsAt S w ao n I) (hn : n ≤ 262144) (hok : ∀ i, i < n → okI I i = true) (a b : Int) :
    Calls Try.prog 21 #[.slice ao n c, .int .i64 a, .int .i64 b] w fun e w' => e = .returned (.tuple #[(upt I n a b).val, .bool (hasI n b)]) ∧ Below w.heap.size w w' := by
  have hst := fun W (hb : Below w.heap.size w W) => refstart_any S ao n c I W (h.below hb) hn a
  by_cases g : 0 ≤ b ∧ b < (n : Int)
  · have e1 : hasI n b = true := by unfold hasI; simp [g]
    obtain ⟨b, rfl⟩ : ∃ j : Nat, b = (j : Int) := ⟨b.toNat, by omega⟩
    rw [e1]
    have hbn : b < n := by omega
    have hsl := sta_le I n a
    have HU : Box (upt I n a (b : Int) = if sta I n a < b then seg I (sta I n a) b else Sm.zero) := boxed (by
      unfold upt seg
      rw [Int.toNat_natCast]
      by_cases q : sta I n a < b
      · rw [if_pos (by omega), if_pos q]
      · rw [if_neg (by omega), if_neg q])
    generalize sta I n a = s at *
    generalize upt I n a (b : Int) = U at *
    have HH := boxed h
    replace hst := boxed hst
    clear h e1
    have t0 : decide ((b : Int) < 0) = false := decide_eq_false (by omega)
    have t0' : decide (n ≤ b) = false := decide_eq_false (by omega)
    obtain ⟨W0, hW0⟩ : ∃ W0, (w.alloc (.cells #[.int .i64 0, .int .i64 0, .int .i64 0, .int .i64 0] 42)).alloc (.cells #[.int .i64 0, .int .i64 0, .int .i64 0, .int .i64 0] 42) = W0 := ⟨_, rfl⟩
    have hE1 : W0.heap[w.heap.size]? = some (.cells #[.int .i64 0, .int .i64 0, .int .i64 0, .int .i64 0] 42 (0, 0)) := by
      rw [← hW0, Below.heap_alloc _ _ _ (by simp)]; exact heap_alloc_new w _
    have hE2 : W0.heap[w.heap.size + 1]? = some (.cells #[.int .i64 0, .int .i64 0, .int .i64 0, .int .i64 0] 42 (0, 0)) := by
      have := heap_alloc_new (w.alloc (.cells #[.int .i64 0, .int .i64 0, .int .i64 0, .int .i64 0] 42)) (.cells #[.int .i64 0, .int .i64 0, .int .i64 0, .int .i64 0] 42)
      rw [World.size_alloc, hW0] at this
      exact this
    have hz0 : W0.heap.size = w.heap.size + 2 := by rw [← hW0]; simp
    have hb0 : Below w.heap.size w W0 := by rw [← hW0]; exact ((Below.refl _ _).alloc (Nat.le_refl _) _).alloc (by simp) _
    obtain ⟨G, hG⟩ : ∃ G, w.heap.size = G := ⟨_, rfl⟩
    rw [hG] at hE1 hE2 hz0
    have hG2 := boxed hG
    have HB0 := boxed hb0
    have HE1 := boxed hE1
    have HE2 := boxed hE2
    clear hb0 hE1 hE2
    go_enter Try.func21, Try.ntmps21
    go_wp2_with fail
    refine (hst.out _ HB0.out).mono ?_
    rintro e w1 ⟨rfl, hb1⟩
    have HB1 := boxed (below_step HB0.out (Nat.le_refl _) hb1)
    have HF1 := boxed ((hb1.block G (by omega)).trans HE1.out)
    have HF2 := boxed ((hb1.block (G + 1) (by omega)).trans HE2.out)
    have hz1 : G + 2 ≤ w1.heap.size := by have := hb1.size; omega
    clear hb1 hst HB0 HE1 HE2 hW0
    go_wp2_with fail
    go_loopw [9] (fun kv wr => ∃ k : Nat, s ≤ k ∧ (k ≤ b ∨ k = s) ∧ kv = .int .i64 (k : Int) ∧ Box (wr.heap[G]? = some (.cells #[.int .i64 0, .int .i64 0, .int .i64 0, .int .i64 0] 42 (0, 0)) ∧ wr.heap[G + 1]? = some (.cells #[.int .i64 (seg I s k).w, .int .i64 (seg I s k).st, .int .i64 (seg I s k).sh, .int .i64 (seg I s k).f] 42 (0, 0))) ∧ Box (Below G w wr)) (fun kv _ => b - (intOf kv).toNat)
    case atStart => exact ⟨s, Nat.le_refl _, .inr rfl, rfl, boxed ⟨HF1.out, by rw [seg_self]; exact HF2.out⟩, boxed (by rw [← hG2.out]; exact HB1.out)⟩
    case round =>
      clear HF1 HF2 HB1 hz1
      obtain ⟨k, hk1, hk2, rfl, HE, HB⟩ := hrel
      by_cases hlt : k < b
      · have hkn : k < n := by omega
        have hle := seg_le I n hok s k hk1 (by omega) hn
        have hms := okI_ms I k (hok k hkn)
        have HS := boxed (seg_next I s k)
        have t3 : decide ((k : Int) < (b : Int)) = true := decide_eq_true (by omega)
        have t3' : decide (k < b) = true := decide_eq_true hlt
        have hkn2 : (k : Int) < (n : Int) := by omega
        obtain ⟨lb, off, e, -, c0, c1, c2, c3, c4, c5, c6, c7, c8⟩ := (HH.out.below (by rw [hG2.out]; exact HB.out)) k hkn
        obtain ⟨lb', off', e', -, d0, -⟩ := HH.out k hkn
        have hbG : lb < G := by
          have := World.block_lt_of_cell? w _ d0
          rw [e] at e'
          injection e' with e'
          injection e' with e1 e2 e3
          subst e1
          have := hG2.out
          simp at *
          omega
        have HC : Box (∀ W, Below G w W → (W.cell? ⟨lb, off + k * 9, none⟩ = some (.int .i64 (I k).k) ∧ W.cell? ⟨lb, off + k * 9 + 1, none⟩ = some (.int .i64 (I k).w) ∧ W.cell? ⟨lb, off + k * 9 + 2, none⟩ = some (.int .i64 (I k).st) ∧ W.cell? ⟨lb, off + k * 9 + 3, none⟩ = some (.int .i64 (I k).sh) ∧ W.cell? ⟨lb, off + k * 9 + 4, none⟩ = some (.bool (I k).fill))) := boxed (fun W hW => by
          obtain ⟨l2, o2, e2, -, c0, c1, c2, c3, c4, -⟩ := (HH.out.below (w' := W) (by rw [hG2.out]; exact hW)) k hkn
          rw [e] at e2
          injection e2 with e2
          injection e2 with q1 q2 q3
          subst q1; subst q2
          exact ⟨c0, c1, c2, c3, c4⟩)
        subst e
        have hne : lb ≠ G + 1 := by omega
        have hne2 : G + 1 ≠ lb := by omega
        clear e' d0 c0 c1 c2 c3 c4 c5 c6 c7 c8
        obtain ⟨E1, E2⟩ := HE.out
        clear HE
        generalize hSeg : seg I s k = P at *
        generalize I k = x at *
        obtain ⟨c0, c1, c2, c3, c4⟩ := HC.out _ HB.out
        obtain ⟨⟨t0, t1, t2, t4⟩, z0, z1, z2, z3⟩ := cells4 E2
        cases hk3 : (x.k == 3)
        · have hk3' : ¬ x.k = 3 := by simpa using hk3
          have g1 : (x.k != 3) = true := by simpa using hk3'
          clear hk3
          have HA : Box (acc P x = ⟨P.w + x.w, P.st + x.st, P.sh + x.sh, if x.fill = true then P.f + 1 else P.f⟩) := boxed (by unfold acc; rw [if_neg hk3'])
          replace E1 := boxed E1
          replace E2 := boxed E2
          clear hk3'
          go_wp2_with fail
          go_region
          obtain ⟨E1, E2, hb0⟩ := upd (i := 0) (.int .i64 (P.w + x.w)) E1.out E2.out HB.out
          replace E2 : ((wr.setCell ⟨G + 1, 0, none⟩ (.int .i64 (P.w + x.w))).drew).heap[G + 1]? = some (.cells #[.int .i64 (P.w + x.w), .int .i64 (P.st), .int .i64 (P.sh), .int .i64 (P.f)] 42 (0, 0)) := E2
          clear c0 c1 c2 c3 c4 t0 t1 t2 t4 z0 z1 z2 z3
          generalize (wr.setCell ⟨G + 1, 0, none⟩ (.int .i64 (P.w + x.w))).drew = w8 at *
          obtain ⟨c0, c1, c2, c3, c4⟩ := HC.out _ hb0
          obtain ⟨⟨t0, t1, t2, t4⟩, z0, z1, z2, z3⟩ := cells4 E2
          replace E1 := boxed E1
          replace E2 := boxed E2
          replace hb0 := boxed hb0
          go_wp2_with fail
          go_region
          obtain ⟨E1, E2, hb1⟩ := upd (i := 1) (.int .i64 (P.st + x.st)) E1.out E2.out hb0.out
          replace E2 : ((w8.setCell ⟨G + 1, 1, none⟩ (.int .i64 (P.st + x.st))).drew).heap[G + 1]? = some (.cells #[.int .i64 (P.w + x.w), .int .i64 (P.st + x.st), .int .i64 (P.sh), .int .i64 (P.f)] 42 (0, 0)) := E2
          clear c0 c1 c2 c3 c4 t0 t1 t2 t4 z0 z1 z2 z3
          generalize (w8.setCell ⟨G + 1, 1, none⟩ (.int .i64 (P.st + x.st))).drew = w9 at *
          obtain ⟨c0, c1, c2, c3, c4⟩ := HC.out _ hb1
          obtain ⟨⟨t0, t1, t2, t4⟩, z0, z1, z2, z3⟩ := cells4 E2
          replace E1 := boxed E1
          replace E2 := boxed E2
          replace hb1 := boxed hb1
          go_wp2_with fail
          go_region
          obtain ⟨E1, E2, hb2⟩ := upd (i := 2) (.int .i64 (P.sh + x.sh)) E1.out E2.out hb1.out
          replace E2 : ((w9.setCell ⟨G + 1, 2, none⟩ (.int .i64 (P.sh + x.sh))).drew).heap[G + 1]? = some (.cells #[.int .i64 (P.w + x.w), .int .i64 (P.st + x.st), .int .i64 (P.sh + x.sh), .int .i64 (P.f)] 42 (0, 0)) := E2
          clear c0 c1 c2 c3 c4 t0 t1 t2 t4 z0 z1 z2 z3
          generalize (w9.setCell ⟨G + 1, 2, none⟩ (.int .i64 (P.sh + x.sh))).drew = w10 at *
          obtain ⟨c0, c1, c2, c3, c4⟩ := HC.out _ hb2
          obtain ⟨⟨t0, t1, t2, t4⟩, z0, z1, z2, z3⟩ := cells4 E2
          replace E1 := boxed E1
          replace E2 := boxed E2
          replace hb2 := boxed hb2
          cases hfi : x.fill
          · rw [hfi] at c4 HA
            go_wp2_with fail
            go_roundw
            case rel => exact ⟨k + 1, by omega, by omega, by go_num, boxed ⟨E1.out, by rw [HS.out, HA.out]; exact E2.out⟩, hb2⟩
            case measure => simp [intOf]; omega
          · rw [hfi] at c4 HA
            obtain ⟨K1, K2, K3, -⟩ := updp (i := 3) (.int .i64 (P.f + 1)) E1.out E2.out hb2.out
            replace K1 := boxed K1
            replace K2 := boxed K2
            replace K3 := boxed K3
            go_wp2_with fail
            go_roundw
            case rel => exact ⟨k + 1, by omega, by omega, by go_num, boxed ⟨K1.out, by rw [HS.out, HA.out]; exact K2.out⟩, K3⟩
            case measure => simp [intOf]; omega
        · have hk3' : x.k = 3 := by simpa using hk3
          have g1 : (x.k != 3) = false := by simpa using hk3'
          obtain ⟨m1, m2, m3⟩ := hms.2.2.2.2 hk3'
          have HA : Box (acc P x = ⟨P.w, P.st, P.sh, P.f⟩) := boxed (by unfold acc; rw [if_pos hk3', m1, m2, m3]; simp)
          rw [m3] at c4
          replace E1 := boxed E1
          replace E2 := boxed E2
          clear hk3' hk3
          go_wp2_with fail
          go_roundw
          case rel => exact ⟨k + 1, by omega, by omega, by go_num, boxed ⟨E1.out, by rw [HS.out, HA.out]; exact E2.out⟩, HB⟩
          case measure => simp [intOf]; omega
      · obtain ⟨E1, E2⟩ := HE.out
        have hUk : U = seg I s k := by
          rw [HU.out]
          rcases hk2 with q | q
          · by_cases q2 : s < b
            · rw [if_pos q2, show k = b by omega]
            · rw [if_neg q2, show k = s by omega, seg_self]
          · by_cases q2 : s < b
            · omega
            · rw [if_neg q2, q, seg_self]
        replace hUk := boxed hUk
        generalize seg I s k = P at *
        have t3 : decide ((k : Int) < (b : Int)) = false := decide_eq_false (by omega)
        have t3' : decide (k < b) = false := decide_eq_false hlt
        obtain ⟨⟨r0, r1, r2, r3⟩, y0, y1, y2, y3⟩ := cells4 E1
        obtain ⟨⟨t0, t1, t2, t4⟩, z0, z1, z2, z3⟩ := cells4 E2
        have hK := (cells4 (put4_heap E1 (.int .i64 P.w) (.int .i64 P.st) (.int .i64 P.sh) (.int .i64 P.f))).1
        have hF := HB.out.trans (grown_below (put4_grown wr G (.int .i64 P.w) (.int .i64 P.st) (.int .i64 P.sh) (.int .i64 P.f)) (Nat.le_refl _) (by have := HB.out.size; have := hG2.out; omega))
        simp only [put4] at hK hF
        replace hK := boxed hK
        replace hF := boxed hF
        clear E1 E2
        go_wp2_with fail
        refine bodyPost_ret (v := .tuple #[.agg #[.int .i64 P.w, .int .i64 P.st, .int .i64 P.sh, .int .i64 P.f], .bool true]) (by have q := hK.out; simp [results, Try.results21, go_sem, q]) rfl ⟨by rw [hUk.out]; rfl, by rw [hG2.out]; exact hF.out⟩
  · have e1 : hasI n b = false := by unfold hasI; simp; omega
    have hU : upt I n a b = Sm.zero := by unfold upt; rw [if_neg (by omega)]
    rw [e1, hU]
    unfold Sm.val Sm.zero
    clear h hst
    by_cases g1 : b < 0
    · have t1 : decide (b < 0) = true := decide_eq_true g1
      go_enter Try.func21, Try.ntmps21
      go_wp2_with fail
      refine bodyPost_ret (v := .tuple #[.agg #[.int .i64 0, .int .i64 0, .int .i64 0, .int .i64 0], .bool false]) (by simp [results, Try.results21, go_sem]) rfl ⟨rfl, by go_grown⟩
    · have t1 : decide (b < 0) = false := decide_eq_false g1
      have t2 : decide ((n : Int) ≤ b) = true := decide_eq_true (by omega)
      go_enter Try.func21, Try.ntmps21
      go_wp2_with fail
      refine bodyPost_ret (v := .tuple #[.agg #[.int .i64 0, .int .i64 0, .int .i64 0, .int .i64 0], .bool false]) (by simp [results, Try.results21, go_sem]) rfl ⟨rfl, by go_grown⟩
end Go.Proofs.Ytkoaoejlbkdkgaa
