/-
  With how many lines two pages begin and end alike (diff.Ends); whether they are alike (diff.Alike).
-/
import Derived.Test.YtoodhpgaikmalaaBj
namespace Go.Proofs.Ytoodhpgaikmalaa
open Go.RowKit
set_option linter.unusedSimpArgs false
set_option linter.unusedVariables false

/-- One of the lines, with where they lie. -/
theorem LsAt.line {S : Nat → Prop} {w : World} {ao : Option Addr} {ks : List Key} (h : LsAt S w ao ks) (i : Nat) (hi : i < ks.length) : ∃ x : Lne, (LnOk x ∧ ks[i]? = some (key x)) ∧ P2At S w x.ra x.rn x.L x.Y ∧ ∃ b off, ao = some ⟨b, off, none⟩ ∧
    w.cell? ⟨b, off + i * 9, none⟩ = some (.string x.tx) ∧ w.cell? ⟨b, off + i * 9 + 1, none⟩ = some (.slice x.ra x.rn x.rc) ∧ w.cell? ⟨b, off + i * 9 + 2, none⟩ = some (.int .i64 x.num) ∧ w.cell? ⟨b, off + i * 9 + 3, none⟩ = some (.int .i64 x.den) ∧ w.cell? ⟨b, off + i * 9 + 4, none⟩ = some (.int .i64 x.h) ∧ w.cell? ⟨b, off + i * 9 + 5, none⟩ = some (.bool x.hy) ∧ w.cell? ⟨b, off + i * 9 + 6, none⟩ = some (.int .i64 x.y) ∧ w.cell? ⟨b, off + i * 9 + 7, none⟩ = some (.bool x.bg) ∧ w.cell? ⟨b, off + i * 9 + 8, none⟩ = some (.bool x.en) := by
  obtain ⟨F, h1, h2⟩ := h
  obtain ⟨hr, b, off, e, -, c⟩ := h1 i hi
  exact ⟨F i, h2 i hi, hr, b, off, e, c⟩
theorem box_page (W : World) (b : Nat) (v : Value) (h : W.heap[b]? = some (.cells #[v] 34 (0, 0))) : W.cell? ⟨b, 0, none⟩ = some v := by
  rw [cell_of_row _ _ _ _ _ _ h]; rfl
/-- Two pages handed over, in blocks of their own. -/
theorem two_pages (w : World) (u v : Value) : ∃ wc, (w.alloc (.cells #[u] 34)).alloc (.cells #[v] 34) = wc ∧ Below w.heap.size w wc ∧ w.heap.size + 2 = wc.heap.size ∧ ∀ W, Below wc.heap.size wc W → W.cell? ⟨w.heap.size, 0, none⟩ = some u ∧ W.cell? ⟨w.heap.size + 1, 0, none⟩ = some v := by
  have L0 := laid2 w (.cells #[u] 34) (.cells #[v] 34)
  refine ⟨_, rfl, L0.2.2.1, L0.2.2.2.symm, fun W hb => ?_⟩
  have hz := L0.2.2.2
  exact ⟨box_page _ _ _ ((hb.block _ (by omega)).trans L0.1), box_page _ _ _ ((hb.block _ (by omega)).trans L0.2.1)⟩
set_option maxRecDepth 100000 in
set_option maxHeartbeats 16000000 in
theorem ends_any (S S' : Nat → Prop) (la lb : Option Addr) (ks ls : List Key) (lc ld : Nat) (w : World) (h1 : LsAt S w la ks) (h2 : LsAt S' w lb ls) (hn : ks.length ≤ 3000) (hm : ls.length ≤ 3000) :
    Calls Try.prog 29 #[.agg #[.slice la ks.length lc], .agg #[.slice lb ls.length ld]] w fun e w' => e = .returned (.tuple #[.int .i64 (pre ks ls : Nat), .int .i64 (bck ks ls : Nat)]) ∧ Below w.heap.size w w' := by
  obtain ⟨wc, hwc, hB0, hZ0, hC0⟩ := two_pages w (.slice la ks.length lc) (.slice lb ls.length ld)
  have HPI := boxed (fun k hx hy h st => pre_is ks ls k hx hy h st)
  have HBI := boxed (fun k hx hy h st => bck_is ks ls k hx hy h st)
  have HH1 := boxed h1
  have HH2 := boxed h2
  obtain ⟨n, hkn⟩ : ∃ n, ks.length = n := ⟨_, rfl⟩
  obtain ⟨m, hkm⟩ : ∃ m, ls.length = m := ⟨_, rfl⟩
  rw [hkn] at hn hwc hC0 HPI HBI ⊢
  rw [hkm] at hm hwc hC0 HPI HBI ⊢
  have HKN := boxed hkn
  have HKM := boxed hkm
  obtain ⟨q, hq, hqn, hqm, hqx⟩ : ∃ q : Nat, min (n : Int) (m : Int) = (q : Int) ∧ q ≤ n ∧ q ≤ m ∧ (q = n ∨ q = m) := ⟨min n m, by omega, by omega, by omega, by omega⟩
  have HQX := boxed hqx
  have HWC := boxed hwc
  have HB0 := boxed hB0
  have HC := boxed hC0
  clear hwc hB0 hC0 hZ0 hqx hkn hkm h1 h2
  obtain ⟨P, hP⟩ : ∃ P, pre ks ls = P := ⟨_, rfl⟩
  obtain ⟨B, hB⟩ : ∃ B, bck ks ls = B := ⟨_, rfl⟩
  rw [hP] at HPI HBI ⊢
  rw [hB] at HBI ⊢
  clear hP hB
  obtain ⟨a0, b0⟩ := HC.out _ (Below.refl _ wc)
  obtain ⟨G, hG⟩ : ∃ G, w.heap.size = G := ⟨_, rfl⟩
  have HG := boxed hG
  rw [hG] at HB0 HC a0 b0 ⊢
  clear hG
  go_enter Try.func29, Try.ntmps29
  go_upto_region 1 with (fail)
  rw [HWC.out, HG.out]
  go_quiet (fail)
  have HBQ : Box (Below wc.heap.size wc (wc.drewN nq)) := boxed (bel_drewN _ _ _)
  generalize wc.drewN nq = wq at *
  clear a0 b0
  go_wp2_with fail
  go_loopw [8] (fun fv wr => ∃ f : Nat, f ≤ q ∧ fv = .int .i64 (f : Nat) ∧ Box (∀ j, j < f → ks[j]? = ls[j]?) ∧ Box (Below wc.heap.size wc wr)) (fun fv _ => q - (intOf fv).toNat)
  case atStart => exact ⟨0, Nat.zero_le _, rfl, boxed (fun j hj => by omega), HBQ⟩
  case round =>
    obtain ⟨f, hf, rfl, HS, HB⟩ := hrel
    obtain ⟨a0, b0⟩ := HC.out _ HB.out
    by_cases hlt : f < q
    · have hbw := below_step HB0.out (by rw [← HG.out]; exact Nat.le_refl _) HB.out
      obtain ⟨x, ⟨kx, ex⟩, px, b, o, ela, x0, x1, x2, x3, x4, x5, x6, x7, x8⟩ := (HH1.out.below (w' := wr) (by rw [HG.out]; exact hbw)).line f (by rw [HKN.out]; omega)
      obtain ⟨y, ⟨ky, ey⟩, py, b', o', elb, y0, y1, y2, y3, y4, y5, y6, y7, y8⟩ := (HH2.out.below (w' := wr) (by rw [HG.out]; exact hbw)).line f (by rw [HKM.out]; omega)
      rw [ela] at a0
      rw [elb] at b0
      have hf1 : (f : Int) < (n : Int) := by omega
      have hf2 : (f : Int) < (m : Int) := by omega
      have hf3 : f < n := by omega
      have hf4 : f < m := by omega
      have t0 : decide ((f : Int) < (q : Int)) = true := decide_eq_true (by omega)
      have va := cell_regrown a0
      have vb := cell_regrown b0
      have vx0 := cell_regrown x0
      have vx1 := cell_regrown x1
      have vx2 := cell_regrown x2
      have vx3 := cell_regrown x3
      have vx4 := cell_regrown x4
      have vx5 := cell_regrown x5
      have vx6 := cell_regrown x6
      have vx7 := cell_regrown x7
      have vx8 := cell_regrown x8
      have vy0 := cell_regrown y0
      have vy1 := cell_regrown y1
      have vy2 := cell_regrown y2
      have vy3 := cell_regrown y3
      have vy4 := cell_regrown y4
      have vy5 := cell_regrown y5
      have vy6 := cell_regrown y6
      have vy7 := cell_regrown y7
      have vy8 := cell_regrown y8
      have CS := boxed (fun d os => Calls.regrown_of (w := wr) (d := d) (os := os) (same14_any x y (px.below (below_regrown wr d os)) (py.below (below_regrown wr d os)) kx ky))
      have HK : Box (decide (key x = key y) = true → ∀ j, j < f + 1 → ks[j]? = ls[j]?) := boxed (fun e j hj => by
        by_cases c : j = f
        · subst c; rw [ex, ey, of_decide_eq_true e]
        · exact HS.out j (by omega))
      have HK2 : Box (decide (key x = key y) = false → P = f) := boxed (fun e => HPI.out f (by omega) (by omega) HS.out (Or.inr (Or.inr (by rw [ex, ey]; exact fun c => of_decide_eq_false e (Option.some.inj c)))))
      generalize decide (key x = key y) = R at *
      simp only [Lne.val] at CS
      clear px py kx ky ex ey x0 x1 x2 x3 x4 x5 x6 x7 x8 y0 y1 y2 y3 y4 y5 y6 y7 y8 hbw HS
      go_upto_region 3 with (fail)
      refine wp_region_quiet_below (by kernel_rfl) (by kernel_rfl) ?_
      repeat (go_big_quiet_step (with_reducible exact CS.out _ _))
      refine wpQuiet_nil ?_
      intro _ hw'
      obtain ⟨⟨dq, osq⟩, hw''⟩ := hw'
      subst hw''
      have HB6 := boxed (below_step HB.out (Nat.le_refl _) (below_regrown wr dq osq))
      clear vx0 vx1 vx2 vx3 vx4 vx5 vx6 vx7 vx8 vy0 vy1 vy2 vy3 vy4 vy5 vy6 vy7 vy8 va vb CS a0 b0
      generalize Go.Sort.grow (redrawn wr dq) osq = w5 at *
      cases R with
      | true =>
        go_wp2_with fail
        go_roundw
        case rel => exact ⟨f + 1, by omega, by go_num, boxed (HK.out (by first | rfl | trivial)), HB6⟩
        case measure => simp [intOf]; omega
      | false =>
        have hPf := boxed (HK2.out (by first | rfl | trivial))
        clear HK HK2
        go_wp2_with fail
        go_loopw [9] (fun gv wr => ∃ g : Nat, f + g ≤ q ∧ gv = .int .i64 (g : Nat) ∧ Box (∀ j, j < g → ks[n - 1 - j]? = ls[m - 1 - j]?) ∧ Box (Below wc.heap.size wc wr)) (fun gv _ => q - f - (intOf gv).toNat)
        case atStart => exact ⟨0, by omega, rfl, boxed (fun j hj => by omega), HB6⟩
        case round =>
          obtain ⟨g, hg, rfl, HS, HB⟩ := hrel
          obtain ⟨a0, b0⟩ := HC.out _ HB.out
          have hw1 : IntKind.i64.wrap ((q : Int) - (f : Int)) = (q : Int) - (f : Int) := by rw [IntKind.wrap_i64]; omega
          have hw1' : wrap64 ((q : Int) - (f : Int)) = (q : Int) - (f : Int) := by unfold wrap64; omega
          by_cases hlt : f + g < q
          · have hbw := below_step HB0.out (by rw [← HG.out]; exact Nat.le_refl _) HB.out
            obtain ⟨ia, hia⟩ : ∃ ia : Nat, n - 1 - g = ia := ⟨_, rfl⟩
            obtain ⟨ib, hib⟩ : ∃ ib : Nat, m - 1 - g = ib := ⟨_, rfl⟩
            have HIA := boxed (And.intro hia hib)
            have hia2 : ia < n := by omega
            have hib2 : ib < m := by omega
            have hia3 : (ia : Int) < (n : Int) := by omega
            have hib3 : (ib : Int) < (m : Int) := by omega
            have hw2 : IntKind.i64.wrap ((n : Int) - 1) = (n : Int) - 1 := by rw [IntKind.wrap_i64]; omega
            have hw3 : IntKind.i64.wrap ((m : Int) - 1) = (m : Int) - 1 := by rw [IntKind.wrap_i64]; omega
            have hw4 : IntKind.i64.wrap ((n : Int) - 1 - (g : Int)) = (ia : Int) := by rw [IntKind.wrap_i64]; omega
            have hw5 : IntKind.i64.wrap ((m : Int) - 1 - (g : Int)) = (ib : Int) := by rw [IntKind.wrap_i64]; omega
            clear hia hib
            obtain ⟨x, ⟨kx, ex⟩, px, b, o, ela, x0, x1, x2, x3, x4, x5, x6, x7, x8⟩ := (HH1.out.below (w' := wr) (by rw [HG.out]; exact hbw)).line ia (by rw [HKN.out]; omega)
            obtain ⟨y, ⟨ky, ey⟩, py, b', o', elb, y0, y1, y2, y3, y4, y5, y6, y7, y8⟩ := (HH2.out.below (w' := wr) (by rw [HG.out]; exact hbw)).line ib (by rw [HKM.out]; omega)
            rw [ela] at a0
            rw [elb] at b0
            have t0 : decide ((g : Int) < (q : Int) - (f : Int)) = true := decide_eq_true (by omega)
            have va := cell_regrown a0
            have vb := cell_regrown b0
            have vx0 := cell_regrown x0
            have vx1 := cell_regrown x1
            have vx2 := cell_regrown x2
            have vx3 := cell_regrown x3
            have vx4 := cell_regrown x4
            have vx5 := cell_regrown x5
            have vx6 := cell_regrown x6
            have vx7 := cell_regrown x7
            have vx8 := cell_regrown x8
            have vy0 := cell_regrown y0
            have vy1 := cell_regrown y1
            have vy2 := cell_regrown y2
            have vy3 := cell_regrown y3
            have vy4 := cell_regrown y4
            have vy5 := cell_regrown y5
            have vy6 := cell_regrown y6
            have vy7 := cell_regrown y7
            have vy8 := cell_regrown y8
            have CS := boxed (fun d os => Calls.regrown_of (w := wr) (d := d) (os := os) (same14_any x y (px.below (below_regrown wr d os)) (py.below (below_regrown wr d os)) kx ky))
            have HK : Box (decide (key x = key y) = true → ∀ j, j < g + 1 → ks[n - 1 - j]? = ls[m - 1 - j]?) := boxed (fun e j hj => by
              by_cases c : j = g
              · rw [c, HIA.out.1, HIA.out.2, ex, ey, of_decide_eq_true e]
              · exact HS.out j (by omega))
            have HK2 : Box (decide (key x = key y) = false → B = g) := boxed (fun e => HBI.out g (by rw [hPf.out]; omega) (by rw [hPf.out]; omega) HS.out (Or.inr (Or.inr (by rw [HIA.out.1, HIA.out.2, ex, ey]; exact fun c => of_decide_eq_false e (Option.some.inj c)))))
            generalize decide (key x = key y) = R at *
            simp only [Lne.val] at CS
            clear px py kx ky ex ey x0 x1 x2 x3 x4 x5 x6 x7 x8 y0 y1 y2 y3 y4 y5 y6 y7 y8 hbw HS
            go_upto_region 6 with (fail)
            refine wp_region_quiet_below (by kernel_rfl) (by kernel_rfl) ?_
            repeat (go_big_quiet_step (with_reducible exact CS.out _ _))
            refine wpQuiet_nil ?_
            intro _ hw'
            obtain ⟨⟨dq, osq⟩, hw''⟩ := hw'
            subst hw''
            have HB8 := boxed (below_step HB.out (Nat.le_refl _) (below_regrown wr dq osq))
            clear vx0 vx1 vx2 vx3 vx4 vx5 vx6 vx7 vx8 vy0 vy1 vy2 vy3 vy4 vy5 vy6 vy7 vy8 va vb CS a0 b0
            generalize Go.Sort.grow (redrawn wr dq) osq = w8 at *
            cases R with
            | true =>
              go_wp2_with fail
              go_roundw
              case rel => exact ⟨g + 1, by omega, by go_num, boxed (HK.out (by first | rfl | trivial)), HB8⟩
              case measure => simp [intOf]; omega
            | false =>
              have hBg := HK2.out (by first | rfl | trivial)
              have hPg := hPf.out
              have HF := boxed (below_step HB0.out (by rw [← HG.out]; exact Nat.le_refl _) HB8.out)
              go_wp2_with fail
              go_ret2
              exact ⟨(by first | rfl | (subst hBg; subst hPg; rfl) | rw [hPg, hBg]), HF.out⟩
          · have hBg : B = g := HBI.out g (by rw [hPf.out]; omega) (by rw [hPf.out]; omega) HS.out (HQX.out.elim (fun c => Or.inl (by rw [hPf.out]; omega)) (fun c => Or.inr (Or.inl (by rw [hPf.out]; omega))))
            have hPg := hPf.out
            have t0 : decide ((g : Int) < (q : Int) - (f : Int)) = false := decide_eq_false (by omega)
            have hun : undef = Value.tuple #[] := rfl
            go_wp2_with fail
            go_quiet (fail)
            clear hun
            have HF : Box (Below G w (wr.drewN nq)) := boxed (below_step HB0.out (by rw [← HG.out]; exact Nat.le_refl _) (HB.out.trans (bel_drewN _ _ _)))
            go_wp2_with fail
            go_ret2
            exact ⟨(by first | rfl | (subst hBg; subst hPg; rfl) | rw [hPg, hBg]), HF.out⟩
    · have hfq : f = q := by omega
      have hPf : Box (P = f) := boxed (HPI.out f (by omega) (by omega) HS.out (HQX.out.elim (fun c => Or.inl (by omega)) (fun c => Or.inr (Or.inl (by omega)))))
      have t0 : decide ((f : Int) < (q : Int)) = false := decide_eq_false (by omega)
      have hun : undef = Value.tuple #[] := rfl
      go_wp2_with fail
      go_quiet (fail)
      clear hun
      have HB6 : Box (Below wc.heap.size wc (wr.drewN nq)) := boxed (HB.out.trans (bel_drewN _ _ _))
      generalize wr.drewN nq = w5 at *
      have HFQ := boxed hfq
      clear a0 b0 t0 hfq
      go_wp2_with fail
      go_loopw [9] (fun gv wr => ∃ g : Nat, f + g ≤ q ∧ gv = .int .i64 (g : Nat) ∧ Box (∀ j, j < g → ks[n - 1 - j]? = ls[m - 1 - j]?) ∧ Box (Below wc.heap.size wc wr)) (fun gv _ => q - f - (intOf gv).toNat)
      case atStart => exact ⟨0, by omega, rfl, boxed (fun j hj => by omega), HB6⟩
      case round =>
        obtain ⟨g, hg, rfl, HS, HB⟩ := hrel
        obtain ⟨a0, b0⟩ := HC.out _ HB.out
        have hw1 : IntKind.i64.wrap ((q : Int) - (f : Int)) = (q : Int) - (f : Int) := by rw [IntKind.wrap_i64]; omega
        have hw1' : wrap64 ((q : Int) - (f : Int)) = (q : Int) - (f : Int) := by unfold wrap64; omega
        by_cases hlt : f + g < q
        · exact absurd hlt (by have := HFQ.out; omega)
        · have hBg : B = g := HBI.out g (by rw [hPf.out]; omega) (by rw [hPf.out]; omega) HS.out (HQX.out.elim (fun c => Or.inl (by rw [hPf.out]; omega)) (fun c => Or.inr (Or.inl (by rw [hPf.out]; omega))))
          have hPg := hPf.out
          have t0 : decide ((g : Int) < (q : Int) - (f : Int)) = false := decide_eq_false (by omega)
          have hun : undef = Value.tuple #[] := rfl
          go_wp2_with fail
          go_quiet (fail)
          clear hun
          have HF : Box (Below G w (wr.drewN nq)) := boxed (below_step HB0.out (by rw [← HG.out]; exact Nat.le_refl _) (HB.out.trans (bel_drewN _ _ _)))
          go_wp2_with fail
          go_ret2
          exact ⟨(by first | rfl | (subst hBg; subst hPg; rfl) | rw [hPg, hBg]), HF.out⟩
end Go.Proofs.Ytoodhpgaikmalaa
