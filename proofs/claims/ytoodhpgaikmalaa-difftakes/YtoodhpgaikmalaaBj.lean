/-
  Whether pages are alike, as the document's Page and Pages and the program's Alike answer it.
-/
import Derived.Test.YtoodhpgaikmalaaBg
namespace Go.Proofs.Ytoodhpgaikmalaa
open Go.RowKit
set_option linter.unusedSimpArgs false
set_option linter.unusedVariables false

theorem key_ext {ks ls : List Key} (hl : ks.length = ls.length) (h : ∀ j, j < ks.length → ks[j]? = ls[j]?) : ks = ls := by
  apply List.ext_getElem?
  intro i
  by_cases c : i < ks.length
  · exact h i c
  · rw [List.getElem?_eq_none (by omega), List.getElem?_eq_none (by omega)]
set_option maxRecDepth 100000 in
set_option maxHeartbeats 8000000 in
theorem refpage_any (S S' : Nat → Prop) (la lb : Option Addr) (ks ls : List Key) (lc ld : Nat) (w : World) (h1 : LsAt S w la ks) (h2 : LsAt S' w lb ls) (hn : ks.length ≤ 3000) :
    Calls Try.prog 13 #[.agg #[.slice la ks.length lc], .agg #[.slice lb ls.length ld]] w fun e w' => e = .returned (.bool (decide (ks = ls))) ∧ Below w.heap.size w w' := by
  by_cases hl : ks.length = ls.length
  · have HEX := boxed (fun h => key_ext hl h)
    have HNO := boxed (fun (j : Nat) (h : ks[j]? ≠ ls[j]?) => (show decide (ks = ls) = false from decide_eq_false (fun e => h (by rw [e]))))
    rw [← hl]
    have hl2 := boxed hl
    clear hl
    obtain ⟨n, hkn⟩ : ∃ n, ks.length = n := ⟨_, rfl⟩
    have L0 := boxed (laid2 w (.cells #[.slice la n lc] 34) (.cells #[.slice lb n ld] 34))
    have H1 := boxed h1
    have H2 := boxed h2
    rw [hkn] at hn HEX ⊢
    have HKN := boxed hkn
    clear hkn h1 h2
    obtain ⟨p, hp⟩ : ∃ p, w.heap.size = p := ⟨_, rfl⟩
    obtain ⟨wc, hwc⟩ : ∃ wc, (w.alloc (.cells #[.slice la n lc] 34)).alloc (.cells #[.slice lb n ld] 34) = wc := ⟨_, rfl⟩
    rw [hwc] at L0
    have HWC := boxed hwc
    have HB0 : Box (Below w.heap.size w wc) := boxed L0.out.2.2.1
    have HC : Box (∀ W, Below wc.heap.size wc W → W.cell? ⟨p, 0, none⟩ = some (.slice la n lc) ∧ W.cell? ⟨p + 1, 0, none⟩ = some (.slice lb n ld)) := boxed (fun W hb => by
      have hz := L0.out.2.2.2
      rw [← hp]
      refine ⟨?_, ?_⟩
      · rw [cell_of_row _ _ _ _ _ _ ((hb.block _ (by omega)).trans L0.out.1)]; rfl
      · rw [cell_of_row _ _ _ _ _ _ ((hb.block _ (by omega)).trans L0.out.2.1)]; rfl)
    have HP := boxed hp
    clear hwc L0
    obtain ⟨a0, b0⟩ := HC.out _ (Below.refl _ wc)
    obtain ⟨V, hV⟩ : ∃ V, decide (ks = ls) = V := ⟨_, rfl⟩
    rw [hV] at HNO ⊢
    have HV := boxed hV
    clear hV
    have tn : ((n : Int) != (n : Int)) = false := by simp
    go_enter Try.func13, Try.ntmps13
    go_upto_region 1 with (fail)
    rw [HWC.out]
    go_wp2_with fail
    clear a0 b0 tn
    go_loopw [5] (fun vi wr => ∃ i : Nat, i ≤ n ∧ vi = .int .i64 (i : Nat) ∧ Box (∀ j, j < i → ks[j]? = ls[j]?) ∧ Box (Below wc.heap.size wc wr)) (fun vi _ => n - (intOf vi).toNat)
    case atStart => exact ⟨0, Nat.zero_le _, rfl, boxed (fun j hj => by omega), boxed (Below.refl _ _)⟩
    case round =>
      obtain ⟨i, hi, rfl, HS, HB⟩ := hrel
      obtain ⟨a0, b0⟩ := HC.out _ HB.out
      by_cases hlt : i < n
      · have hbw := below_step HB0.out (Nat.le_refl _) HB.out
        obtain ⟨b, o, rfl, -⟩ := H1.out.form (by have := HKN.out; omega)
        obtain ⟨b', o', rfl, -⟩ := H2.out.form (by have := HKN.out; have := hl2.out; omega)
        obtain ⟨x, ⟨kx, ex⟩, px, x0, x1, x2, x3, x4, x5, x6, x7, x8⟩ := (H1.out.below hbw).get i (by have := HKN.out; omega)
        obtain ⟨y, ⟨ky, ey⟩, py, y0, y1, y2, y3, y4, y5, y6, y7, y8⟩ := (H2.out.below hbw).get i (by have := HKN.out; have := hl2.out; omega)
        have hlt2 : (i : Int) < (n : Int) := by omega
        have t0 : decide ((i : Int) < (n : Int)) = true := decide_eq_true (by omega)
        have va := cell_regrown a0
        have vb := cell_regrown b0
        have vx0 := cell_regrown x0
        have vx1 := cell_regrown x1
        have vx2 := cell_regrown x2
        have vx3 := cell_regrown x3
        have vx4 := cell_regrown x4
        have vx5 := cell_regrown x5
        have vx6 := cell_regrown x6
        have vx7 := cell_regrown x7
        have vx8 := cell_regrown x8
        have vy0 := cell_regrown y0
        have vy1 := cell_regrown y1
        have vy2 := cell_regrown y2
        have vy3 := cell_regrown y3
        have vy4 := cell_regrown y4
        have vy5 := cell_regrown y5
        have vy6 := cell_regrown y6
        have vy7 := cell_regrown y7
        have vy8 := cell_regrown y8
        have CS := boxed (fun d os => Calls.regrown_of (w := wr) (d := d) (os := os) (line14_any x y (px.below (below_regrown wr d os)) (py.below (below_regrown wr d os)) kx ky))
        have HK : Box (decide (key x = key y) = true → ∀ j, j < i + 1 → ks[j]? = ls[j]?) := boxed (fun e j hj => by
          by_cases c : j = i
          · subst c; rw [ex, ey, of_decide_eq_true e]
          · exact HS.out j (by omega))
        have HK2 : Box (decide (key x = key y) = false → V = false) := boxed (fun e => HNO.out i (by rw [ex, ey]; exact fun c => of_decide_eq_false e (Option.some.inj c)))
        generalize decide (key x = key y) = R at *
        simp only [Lne.val] at CS
        clear px py kx ky ex ey x0 x1 x2 x3 x4 x5 x6 x7 x8 y0 y1 y2 y3 y4 y5 y6 y7 y8 hbw
        go_upto_region 6 with (fail)
        refine wp_region_quiet_below (by kernel_rfl) (by kernel_rfl) ?_
        repeat (go_big_quiet_step (with_reducible exact CS.out _ _))
        refine wpQuiet_nil ?_
        intro _ hw'
        obtain ⟨⟨dq, osq⟩, hw''⟩ := hw'
        subst hw''
        have HB6 := boxed (below_step HB.out (Nat.le_refl _) (below_regrown wr dq osq))
        clear va vb vx0 vx1 vx2 vx3 vx4 vx5 vx6 vx7 vx8 vy0 vy1 vy2 vy3 vy4 vy5 vy6 vy7 vy8 CS
        generalize Go.Sort.grow (redrawn wr dq) osq = w5 at *
        cases R with
        | true =>
          go_wp2_with fail
          go_roundw
          case rel => exact ⟨i + 1, by omega, by go_num, boxed (HK.out (by first | rfl | trivial)), HB6⟩
          case measure => simp [intOf]; omega
        | false =>
          have hv := HK2.out (by first | rfl | trivial)
          have HF := boxed (below_step HB0.out (Nat.le_refl _) HB6.out)
          go_wp2_with fail
          go_ret
          exact ⟨(by first | rfl | exact ret_bool hv.symm | exact ret_bool (by simp [hv])), (by first | exact HF.out | (have h9 := HF.out; rw [HP.out] at h9; exact h9))⟩
      · obtain rfl : i = n := by omega
        have t0 : decide ((i : Int) < (i : Int)) = false := decide_eq_false (by omega)
        have hv : V = true := by rw [← HV.out]; exact decide_eq_true (HEX.out HS.out)
        have HF := boxed (below_step HB0.out (Nat.le_refl _) HB.out)
        go_wp2_with fail
        go_ret
        exact ⟨(by first | rfl | exact ret_bool hv.symm | exact ret_bool (by simp [hv])), (by first | exact HF.out | (have h9 := HF.out; rw [HP.out] at h9; exact h9))⟩
  · have t : ((ks.length : Int) != (ls.length : Int)) = true := by rw [bne_iff_ne]; omega
    have t2 : (ks.length != ls.length) = true := by rw [bne_iff_ne]; omega
    have hv : decide (ks = ls) = false := decide_eq_false (fun e => hl (by rw [e]))
    generalize decide (ks = ls) = V at *
    generalize ks.length = n at *
    generalize ls.length = m at *
    clear h1 h2 hl
    have HF : Box (Below w.heap.size w ((w.alloc (.cells #[.slice la n lc] 34)).alloc (.cells #[.slice lb m ld] 34))) := boxed (laid2 w _ _).2.2.1
    go_enter Try.func13, Try.ntmps13
    go_wp2_with fail
    go_ret
    exact ⟨(by first | rfl | exact ret_bool hv.symm | exact ret_bool (by simp [hv])), (by first | exact HF.out | (have h9 := HF.out; rw [HP.out] at h9; exact h9))⟩
set_option maxRecDepth 100000 in
set_option maxHeartbeats 8000000 in
theorem refpages_any (S S' : Nat → Prop) (ao bo : Option Addr) (ps qs : List (List Key)) (ca cb : Nat) (w : World) (h1 : PsAt S w ao ps) (h2 : PsAt S' w bo qs) (hn : ps.length ≤ 3000) (hm : ∀ (i : Nat) (ks : List Key), ps[i]? = some ks → ks.length ≤ 3000) :
    Calls Try.prog 12 #[.slice ao ps.length ca, .slice bo qs.length cb] w fun e w' => e = .returned (.bool (decide (ps = qs))) ∧ Below w.heap.size w w' := by
  by_cases hl : ps.length = qs.length
  · have HEX := boxed (fun (h : ∀ j, j < ps.length → ps[j]? = qs[j]?) => (show ps = qs from List.ext_getElem? (fun i => by
      by_cases c : i < ps.length
      · exact h i c
      · rw [List.getElem?_eq_none (by omega), List.getElem?_eq_none (by omega)])))
    have HNO := boxed (fun (j : Nat) (h : ps[j]? ≠ qs[j]?) => (show decide (ps = qs) = false from decide_eq_false (fun e => h (by rw [e]))))
    have HPs := boxed (fun i (hi : i < ps.length) => (⟨_, List.getElem?_eq_getElem hi⟩ : ∃ ks, ps[i]? = some ks))
    have HQs := boxed (fun i (hi : i < ps.length) => (⟨_, List.getElem?_eq_getElem (by rw [← hl]; exact hi)⟩ : ∃ ks, qs[i]? = some ks))
    rw [← hl]
    clear hl
    obtain ⟨n, hkn⟩ : ∃ n, ps.length = n := ⟨_, rfl⟩
    have H1 := boxed h1
    have H2 := boxed h2
    have HM := boxed hm
    rw [hkn] at hn HEX HPs HQs ⊢
    clear hkn h1 h2 hm
    obtain ⟨V, hV⟩ : ∃ V, decide (ps = qs) = V := ⟨_, rfl⟩
    rw [hV] at HNO ⊢
    have HV := boxed hV
    clear hV
    have tn : ((n : Int) != (n : Int)) = false := by simp
    go_enter Try.func12, Try.ntmps12
    go_wp2_with fail
    clear tn
    go_loopw [5] (fun vi wr => ∃ i : Nat, i ≤ n ∧ vi = .int .i64 (i : Nat) ∧ Box (∀ j, j < i → ps[j]? = qs[j]?) ∧ Box (Below w.heap.size w wr)) (fun vi _ => n - (intOf vi).toNat)
    case atStart => exact ⟨0, Nat.zero_le _, rfl, boxed (fun j hj => by omega), boxed (Below.refl _ _)⟩
    case round =>
      obtain ⟨i, hi, rfl, HS, HB⟩ := hrel
      by_cases hlt : i < n
      · obtain ⟨ks, ek⟩ := HPs.out i hlt
        obtain ⟨ls, el⟩ := HQs.out i hlt
        obtain ⟨b, o, la, lc, rfl, -, c0, -, hla⟩ := (H1.out.below HB.out) i ks ek
        obtain ⟨b', o', lb, ld, rfl, -, c1, -, hlb⟩ := (H2.out.below HB.out) i ls el
        have hlt2 : (i : Int) < (n : Int) := by omega
        have t0 : decide ((i : Int) < (n : Int)) = true := decide_eq_true (by omega)
        have va := cell_regrown c0
        have vb := cell_regrown c1
        have CS := boxed (fun d os => Calls.regrown_of (w := wr) (d := d) (os := os) (refpage_any S S' la lb ks ls lc ld _ (hla.below (below_regrown wr d os)) (hlb.below (below_regrown wr d os)) (HM.out i ks ek)))
        have HK : Box (decide (ks = ls) = true → ∀ j, j < i + 1 → ps[j]? = qs[j]?) := boxed (fun e j hj => by
          by_cases c : j = i
          · subst c; rw [ek, el, of_decide_eq_true e]
          · exact HS.out j (by omega))
        have HK2 : Box (decide (ks = ls) = false → V = false) := boxed (fun e => HNO.out i (by rw [ek, el]; exact fun c => of_decide_eq_false e (Option.some.inj c)))
        generalize decide (ks = ls) = R at *
        generalize ks.length = mk at *
        generalize ls.length = ml at *
        clear hla hlb ek el c0 c1
        go_upto_region 6 with (fail)
        refine wp_region_quiet_below (by kernel_rfl) (by kernel_rfl) ?_
        repeat (go_big_quiet_step (with_reducible exact CS.out _ _))
        refine wpQuiet_nil ?_
        intro _ hw'
        obtain ⟨⟨dq, osq⟩, hw''⟩ := hw'
        subst hw''
        have HB6 := boxed (below_step HB.out (Nat.le_refl _) (below_regrown wr dq osq))
        clear va vb CS
        generalize Go.Sort.grow (redrawn wr dq) osq = w5 at *
        cases R with
        | true =>
          go_wp2_with fail
          go_roundw
          case rel => exact ⟨i + 1, by omega, by go_num, boxed (HK.out (by first | rfl | trivial)), HB6⟩
          case measure => simp [intOf]; omega
        | false =>
          have hv := HK2.out (by first | rfl | trivial)
          go_wp2_with fail
          go_ret
          exact ⟨(by first | rfl | exact ret_bool hv.symm | exact ret_bool (by simp [hv])), HB6.out⟩
      · obtain rfl : i = n := by omega
        have t0 : decide ((i : Int) < (i : Int)) = false := decide_eq_false (by omega)
        have hv : V = true := by rw [← HV.out]; exact decide_eq_true (HEX.out HS.out)
        go_wp2_with fail
        go_ret
        exact ⟨(by first | rfl | exact ret_bool hv.symm | exact ret_bool (by simp [hv])), HB.out⟩
  · have t : ((ps.length : Int) != (qs.length : Int)) = true := by rw [bne_iff_ne]; omega
    have t2 : (ps.length != qs.length) = true := by rw [bne_iff_ne]; omega
    have hv : decide (ps = qs) = false := decide_eq_false (fun e => hl (by rw [e]))
    generalize decide (ps = qs) = V at *
    generalize ps.length = n at *
    generalize qs.length = m at *
    clear h1 h2 hl hm
    go_enter Try.func12, Try.ntmps12
    go_wp2_with fail
    go_ret
    exact ⟨(by first | rfl | exact ret_bool hv.symm | exact ret_bool (by simp [hv])), Below.refl _ _⟩
end Go.Proofs.Ytoodhpgaikmalaa
