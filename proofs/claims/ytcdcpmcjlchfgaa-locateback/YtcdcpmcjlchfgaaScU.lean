/-
  What the document's Times answers: the product's digits, in new memory, with no nought at the end.
-/
import Derived.Test.YtcdcpmcjlchfgaaScF
import Derived.Test.YtcdcpmcjlchfgaaScT
namespace Go.Proofs.Ytcdcpmcjlchfgaa.Sc
open Go.RowKit
set_option linter.unusedSimpArgs false
set_option linter.unusedVariables false

theorem vals_set (l : List Nat) (j x : Nat) : (vals l).set j (.int .i64 (x : Int)) = vals (l.set j x) := by simp [vals, List.map_set]

theorem made_zero (n : Nat) : (madeCells #[Value.int .i64 0] n).toList = vals (List.replicate n 0) := by
  rw [toList_madeCells_one]
  simp [vals]

theorem cell_of {w : World} {base g n : Nat} {l : List Nat} (h : w.ownsRow base 3 1 (.slice (some ⟨g, 0, none⟩) n n) n (vals l)) (hl : l.length = n) (j : Nat) (hj : j < n) :
    w.cell? ⟨g, j, none⟩ = some (.int .i64 ((l.getD j 0 : Nat) : Int)) := by
  rw [h.cellAt j (by omega), vals_get l j (by omega)]

theorem store_one {w : World} {G n : Nat} {o : List Nat} (h : w.ownsRow G 3 1 (.slice (some ⟨G, 0, none⟩) n n) n (vals o)) (p a : Nat) (V : Int) (e : V = (a : Int)) :
    (w.setCell ⟨G, p, none⟩ (.int .i64 V)).ownsRow G 3 1 (.slice (some ⟨G, 0, none⟩) n n) n (vals (o.set p a)) := by
  subst e
  rw [← vals_set]
  exact (h.stored p _).1

set_option maxRecDepth 100000 in
set_option maxHeartbeats 2000000 in
theorem times_any (ao1 : Option Addr) (cap1 : Nat) (a : List Nat) (ao2 : Option Addr) (cap2 : Nat) (b : List Nat) (w : World)
    (hd1 : Dg w ao1 cap1 a) (hl1 : a.length ≤ 400) (hs1 : ∀ d ∈ a, d < 1000) (hd2 : Dg w ao2 cap2 b) (hl2 : b.length ≤ 400) (hs2 : ∀ d ∈ b, d < 1000) :
    Calls Try.prog 78 #[.slice ao1 a.length cap1, .slice ao2 b.length cap2] w fun e w' => ∃ ao cap r, e = .returned (.slice ao r.length cap) ∧ Dg w' ao cap r ∧ Cn r ∧ vl r = vl a * vl b ∧ Below w.heap.size w w' := by
  obtain ⟨i0, hi, hz0, hz1, hz2⟩ := info_parts info_int
  have HD1 := hid hd1
  have HD2 := hid hd2
  have HS1 := hid hs1
  have HS2 := hid hs2
  clear hd1 hd2 hs1 hs2
  go_enter Try.func78, Try.ntmps78
  go_wp2_with (at_make; refine wpList_make_full _ rfl _ _ 125 rfl w.heap.size 3 i0 (.int .i64 0) 1 Try.underlying125 hi hz0 hz1 .i64 .i64 _ _ (a.length + b.length + 1) rfl rfl (by omega) (by omega) (by rw [hz2]; omega) (by unfold maxLen; omega) (Nat.le_refl _) ?_)
  intro w1 hown hgrow
  rw [made_zero] at hown
  have hb1 : Below w.heap.size w w1 := (Below.refl _ _).grown hgrow (Nat.le_refl _) (fun q hq => by cases hq)
  have HB1 := hid hb1
  have HO1 := hid hown
  clear hb1 hown hgrow
  generalize hn : a.length + b.length + 1 = n at *
  have HN := hid hn
  have hn1 : n ≤ 801 := by omega
  generalize hG : w.heap.size = G at *
  have HG := hid hG
  clear hn hG
  go_wp2_with fail
  go_loopw [6] (fun t wr => ∃ (i : Nat) (o : List Nat), i ≤ a.length ∧ t = .int .i64 i ∧ Hid (wr.ownsRow G 3 1 (.slice (some ⟨G, 0, none⟩) n n) n (vals o)) ∧ Hid (Below G w wr) ∧ Hid (InO a b i o)) (fun t _ => a.length - (intOf t).toNat)
  case atStart => exact ⟨0, _, Nat.zero_le _, rfl, HO1, HB1, (by have h := InO.first a b; rw [HN.out] at h; exact h)⟩
  case round =>
    obtain ⟨i, o, hia, rfl, HO, HB, HI⟩ := hrel
    by_cases hlt : i < a.length
    · go_wp2_with fail
      go_loopw [7] (fun t wr => ∃ (k : Nat) (o : List Nat), k ≤ b.length ∧ t = .int .i64 k ∧ Hid (wr.ownsRow G 3 1 (.slice (some ⟨G, 0, none⟩) n n) n (vals o)) ∧ Hid (Below G w wr) ∧ Hid (InI a b i k o)) (fun t _ => b.length - (intOf t).toNat)
      case atStart => exact ⟨0, o, Nat.zero_le _, rfl, HO, HB, HI.out.enter⟩
      case round =>
        clear HO HB HI o
        obtain ⟨k, o, hkb, rfl, HO, HB, HI⟩ := hrel
        by_cases hkt : k < b.length
        · rcases HD1.out.2 with h | ⟨g1, o1, e1, q1, cc1⟩
          · exfalso; rw [h] at hlt; simp at hlt
          rcases HD2.out.2 with h | ⟨g2, o2, e2, q2, cc2⟩
          · exfalso; rw [h] at hkt; simp at hkt
          subst e1 e2
          have hnn : a.length + b.length + 1 ≤ n := by have := HN.out; omega
          have f1 := (HB.out.cell (p := ⟨g1, o1 + i, none⟩) (by have := HG.out; simp only; omega)).trans (cc1 i hlt)
          have f2 := (HB.out.cell (p := ⟨g2, o2 + k, none⟩) (by have := HG.out; simp only; omega)).trans (cc2 k hkt)
          have hol : o.length = n := by have := HI.out.len; have := HN.out; omega
          have f3 := cell_of HO.out hol (i + k) (by omega)
          have f4 := cell_of HO.out hol (i + k + 1) (by omega)
          have z3 := HO.out.frozenAt (i + k)
          have z4 := HO.out.frozenAt (i + k + 1)
          have HX := hid (mul_le_dig _ _ (getD_dig HS1.out i) (getD_dig HS2.out k))
          have hm := HI.out.mid
          have hlo := HI.out.low (i + k + 1) (by omega)
          have HNX := hid (HI.out.next hlt hkt HS1.out HS2.out)
          unfold stp at HNX
          have HL := hid hol
          clear cc1 cc2 hol
          generalize a.getD i 0 = x at *
          generalize b.getD k 0 = y at *
          generalize o.getD (i + k) 0 = u at *
          generalize o.getD (i + k + 1) 0 = v at *
          have hxy : (0 : Int) ≤ (x : Int) * (y : Int) ∧ (x : Int) * (y : Int) ≤ 998001 := by
            have := HX.out
            rw [← Int.natCast_mul]; omega
          go_wp2_with fail
          go_region
          go_wp2_with fail
          go_region
          go_wp2_with fail
          go_roundw
          case rel =>
            refine ⟨k + 1, _, by omega, by go_num, ?_, ?_, HNX⟩
            · exact store_one (store_one (store_one HO.out (i + k) (u + x * y) _ (by rw [← Int.natCast_mul]; omega)) (i + k + 1) (v + (u + x * y) / 1000) _ (by rw [← Int.natCast_mul]; omega)) (i + k) ((u + x * y) % 1000) _ (by rw [← Int.natCast_mul]; omega)
            · show Below G w _
              refine (Below.setCell (Below.setCell (Below.setCell HB.out ?_ _) ?_ _) ?_ _).drew.drew <;> exact Nat.le_refl _
          case measure => simp [intOf]; omega
        · have e : k = b.length := by omega
          have HI2 := hid (by rw [e] at HI; exact HI.out.leave hlt : InO a b (i + 1) o)
          clear HI
          go_wp2_with fail
          go_roundw
          case rel => exact ⟨i + 1, o, by omega, by go_num, HO, HB, HI2⟩
          case measure => simp [intOf]; omega
    · have e : i = a.length := by omega
      have HT := hid (by rw [e] at HI; exact HI.out.last : InT (a.length + b.length + 1) (vl a * vl b) 0 o)
      rw [HN.out] at HT
      clear HI e
      go_wp2_with fail
      go_loopw [8] (fun t wr => ∃ (j : Nat) (o : List Nat), j + 1 ≤ n ∧ t = .int .i64 j ∧ Hid (wr.ownsRow G 3 1 (.slice (some ⟨G, 0, none⟩) n n) n (vals o)) ∧ Hid (Below G w wr) ∧ Hid (InT n (vl a * vl b) j o)) (fun t _ => n - (intOf t).toNat)
      case atStart => exact ⟨0, o, by have := HN.out; omega, rfl, HO, HB, HT⟩
      case round =>
        clear HO HB HT o
        obtain ⟨j, o, hj, rfl, HO, HB, HT⟩ := hrel
        by_cases hjt : j + 1 < n
        · have hol : o.length = n := HT.out.len
          have f3 := cell_of HO.out hol j (by omega)
          have f4 := cell_of HO.out hol (j + 1) (by omega)
          have z3 := HO.out.frozenAt j
          have z4 := HO.out.frozenAt (j + 1)
          have hm := HT.out.here
          have hlo := HT.out.rest (j + 1) (by omega)
          have HNX := hid (HT.out.next hjt)
          unfold stq at HNX
          clear hol
          generalize o.getD j 0 = u at *
          generalize o.getD (j + 1) 0 = v at *
          go_wp2_with fail
          go_region
          go_wp2_with fail
          go_roundw
          case rel =>
            refine ⟨j + 1, _, by omega, by go_num, ?_, ?_, HNX⟩
            · exact store_one (store_one HO.out (j + 1) (v + u / 1000) _ (by omega)) j (u % 1000) _ (by omega)
            · show Below G w _
              refine (Below.setCell (Below.setCell HB.out ?_ _) ?_ _).drew <;> exact Nat.le_refl _
          case measure => simp [intOf]; omega
        · have e : j = a.length + b.length := by have := HN.out; omega
          have HA : Hid (∀ d ∈ o, d < 1000) := by
            have h := HT.out
            rw [e, ← HN.out] at h
            exact InT.all HS1.out HS2.out h
          have hol : o.length = n := HT.out.len
          obtain ⟨_, ao, cap, hv, hd⟩ := dg_of_owns HO.out
          simp only [Value.slice.injEq] at hv
          have HD : Hid (Dg wr (some ⟨G, 0, none⟩) n o) := by
            obtain ⟨e1, e2, e3⟩ := hv
            rw [e1, e3]; exact hd
          clear hv hd e
          have HL := hid hol
          clear hol
          go_wp2_with fail
          rw [← HL.out]
          refine (bare_any _ _ o _ (by rw [HL.out]; exact HD.out) (by have := HL.out; omega) HA.out).mono ?_
          rintro e w2 ⟨ao', cap', r, rfl, hd', hc', hv', hb'⟩
          go_wp2_with fail
          go_ret
          refine ⟨ao', cap', r, rfl, hd', hc', ?_, ?_⟩
          · rw [hv']; exact HT.out.val
          · rw [HG.out]; exact HB.out.trans (hb'.mono (by have := HB.out.size; have := HG.out; omega))
end Go.Proofs.Ytcdcpmcjlchfgaa.Sc
