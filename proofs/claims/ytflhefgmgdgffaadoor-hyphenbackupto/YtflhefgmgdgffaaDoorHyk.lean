/-
  What the program's tree.highest answers: the greatest level ahead of each sign of a row.
-/
import Derived.Test.YtflhefgmgdgffaaDoorHyj
namespace Go.Proofs.YtflhefgmgdgffaaDoor
open Go.RowKit Go.Maps
set_option linter.unusedSimpArgs false
set_option linter.unusedVariables false

theorem rune_lo (b n cap q : Nat) (hn : n ≤ cap) (hf : q < n) (w : World) : (Instr.slice 55 (.slice (some ⟨b, 0, none⟩) n cap) (some (.int .i64 (q : Int))) none none).run Tryd.prog w = .ok (.slice (some ⟨b, q, none⟩) (n - q) (cap - q)) w := by
  have h4 : (q : Int) ≤ (n : Int) := by omega
  have h5 : (n : Int) ≤ (cap : Int) := by omega
  go_simp
  intro h; omega
/-- While the row is gone through. -/
structure HiS (w : World) (eb lb N1 : Nat) (X : List Nat) (wr : World) : Prop where
  bel : Below w.heap.size w wr
  box : wr.heap[w.heap.size]? = some (.cells #[.map (some eb), .map (some lb)] 62 (0, 0))
  own : wr.ownsRow (w.heap.size + 1) 5 1 (.slice (some ⟨w.heap.size + 1, 0, none⟩) N1 N1) N1 (bvals X)
theorem HiS.put {w wr : World} {eb lb N1 : Nat} {X : List Nat} (h : HiS w eb lb N1 X wr) (q m : Nat) : HiS w eb lb N1 (X.set q m) (wr.setCell ⟨w.heap.size + 1, q, none⟩ (.int .u8 (m : Int))) := by
  obtain ⟨h1, h2⟩ := h.own.stored q (.int .u8 (m : Int))
  rw [bvals_set] at h1
  exact ⟨h.bel.grown h2 h.bel.size (fun k hk => by injection hk with hk; omega), (h2.block _ (heap_lt h.box) (by intro x; injection x with x; omega)).trans h.box, h1⟩
set_option maxRecDepth 100000 in
set_option maxHeartbeats 4000000 in
theorem highest_any (w : World) (eb lb B : Nat) (Nd : List (List Nat)) (Z : ZL) (row : List Nat) (vr : Value) (hT : TrAt w eb lb Nd (zV Z)) (hZ : ZOk w Z) (hr : w.ownsRow B 21 1 vr row.length (rvals row)) (hl : row.length ≤ 1000) (hl0 : 0 < row.length) (hc : ∀ c ∈ row, c ≤ 1114111) (hz : Nd.length ≤ 900000) :
    Calls Tryd.prog 44 #[.agg #[.map (some eb), .map (some lb)], vr] w fun e w' => (∃ X g cap, e = .returned (.slice (some ⟨g, 0, none⟩) (row.length + 1) cap) ∧ w'.ownsRow w.heap.size 5 1 (.slice (some ⟨g, 0, none⟩) (row.length + 1) cap) (row.length + 1) (bvals X) ∧ LvIs (zQ Z) row (fun _ _ _ => True) X) ∧ Below w.heap.size w w' := by
  obtain ⟨i2, hi2, hz0, hz1, hz2⟩ := info_parts info_byte
  obtain ⟨N, hN⟩ : ∃ N, row.length = N := ⟨_, rfl⟩
  have HN := boxed hN
  rw [hN] at hr hl hl0
  rw [hN]
  have hmk : ∀ W : World, (Instr.makeSlice 43 (.int .i64 ((N : Int) + 1)) (.int .i64 ((N : Int) + 1))).run Tryd.prog W = .ok (.slice (some ⟨W.heap.size, 0, none⟩) (N + 1) (N + 1)) (W.alloc (.cells (madeCells #[Value.int .u8 0] (N + 1)) 5)) := by
    intro W
    have := run_makeSlice (w := W) 43 5 i2 (.int .u8 0) Tryd.underlying43 hi2 hz0 .i64 .i64 ((N : Int) + 1) ((N : Int) + 1) (by omega) (by omega) (by rw [hz1]; simp; omega) (by rw [hz2]; omega) (by omega)
    rw [this, hz1]
    have e : ((N : Int) + 1).toNat = N + 1 := by omega
    simp [Value.cells, e]
  have hA : (madeCells #[Value.int .u8 0] (N + 1)).toList = bvals (List.replicate (N + 1) 0) := by
    have := toList_madeCells_one (Value.int .u8 0) (N + 1)
    rw [this]; simp [bvals]
  have hA2 : (madeCells #[Value.int .u8 0] (N + 1)).size = N + 1 := by
    have := congrArg List.length hA
    simpa [bvals] using this
  obtain ⟨A0, hA0⟩ : ∃ A0, madeCells #[Value.int .u8 0] (N + 1) = A0 := ⟨_, rfl⟩
  rw [hA0] at hmk hA hA2
  clear hA0 hN
  have HA := boxed hA
  have HA2 := boxed hA2
  obtain ⟨N1, hN1⟩ : ∃ N1, N + 1 = N1 := ⟨_, rfl⟩
  have HN1 := boxed hN1
  have hN2 : (N : Int) < (N1 : Int) := by omega
  rw [hN1] at hmk HA HA2
  rw [hN1]
  clear hN1 hA hA2
  have HT := boxed hT
  have HZ := boxed hZ
  have HR := boxed hr
  have HCC := boxed hc
  have HLE : Box (LvIs (zQ Z) row (C1 0) (List.replicate N1 0)) := boxed (by have := lv_none (zQ Z) row; rw [HN.out, HN1.out] at this; exact this)
  obtain ⟨g, cap, e0, hcap, -⟩ := own_cell hr 0 hl0
  subst e0
  clear hT hZ hr hc
  go_enter Tryd.func44, Tryd.ntmps44
  go_wp2_with fail
  go_loopw [20] (fun vf wr => ∃ (F : Nat) (X : List Nat), F ≤ N ∧ vf = .int .i64 (F : Int) ∧ Box (LvIs (zQ Z) row (C1 F) X) ∧ Box (HiS w eb lb N1 X wr)) (fun vf _ => N - (intOf vf).toNat)
  case atStart =>
    have l2 := laid2 w (.cells #[.map (some eb), .map (some lb)] 62) (.cells A0 5)
    refine ⟨0, _, Nat.zero_le _, rfl, HLE, boxed ⟨l2.2.2.1, l2.1, ?_⟩⟩
    have := World.ownsRow_lit (base := w.heap.size + 1) (e := 5) (size := 1) (w.alloc (.cells #[.map (some eb), .map (some lb)] 62)) A0 N1 (by simp) (by unfold maxLen; have := HN1.out; omega) (by rw [HA2.out]; simp)
    rw [HA.out] at this
    simpa using this
  case round =>
    obtain ⟨F, X0, hF, rfl, HX0, HS0⟩ := hrel
    by_cases hlt : F < N
    · have hsl := fun W => rune_lo g N cap F hcap hlt W
      have HX1 := boxed (HX0.out.same (fun i a k h => c_start HZ.out.ne F i a k h))
      clear HX0
      go_wp2_with fail
      go_loopw [7, 27] (fun vn vd wr2 => ∃ (D nd : Nat) (X : List Nat), D ≤ N - F ∧ vn = .int .i64 (nd : Int) ∧ vd = .int .i64 (D : Int) ∧ Box (Nd[nd]? = some ((row.drop F).take D)) ∧ Box (LvIs (zQ Z) row (C2 (zQ Z) F D) X) ∧ Box (HiS w eb lb N1 X wr2)) (fun _ vd _ => (N - F) - (intOf vd).toNat)
      case atStart => exact ⟨0, 0, X0, Nat.zero_le _, rfl, rfl, boxed (by rw [List.take_zero]; exact HT.out.ok.root), HX1, HS0⟩
      case round =>
        clear HX1 HS0 hsl
        obtain ⟨D, nd, X, hD, rfl, rfl, HND, HX, HS⟩ := hrel
        by_cases hlt2 : D < N - F
        · have hFD : F + D < row.length := by rw [HN.out]; omega
          have HTK := boxed (drop_take_snoc row F D hFD)
          obtain ⟨g', cap', e1, -, hcl, -⟩ := own_cell (owns_below HR.out HS.out.bel) (F + D) (by omega)
          injection e1 with e1 e2 e3
          injection e1 with e1
          injection e1 with e1
          subst e1
          clear e3
          rw [rvals_get _ _ hFD] at hcl
          have hcle := HCC.out _ (getD_mem row (F + D) hFD)
          obtain ⟨c, hcd⟩ : ∃ c, row.getD (F + D) 0 = c := ⟨_, rfl⟩
          rw [hcd] at hcl hcle HTK
          clear hcd
          have hD2 : (D : Int) < ((N - F : Nat) : Int) := by omega
          have HT1 := boxed (HT.out.below HS.out.bel)
          have k2 : wr.cell? ⟨w.heap.size, 0, none⟩ = some (.map (some eb)) := by rw [cell_of_row _ _ _ _ _ _ HS.out.box]; rfl
          have k3 : wr.cell? ⟨w.heap.size, 1, none⟩ = some (.map (some lb)) := by rw [cell_of_row _ _ _ _ _ _ HS.out.box]; rfl
          have hnds := nd_small HND.out (by omega)
          obtain ⟨kl, hkl⟩ := edge_key nd c hnds hcle
          by_cases hex : ∃ t : Nat, Nd[t]? = some ((row.drop F).take D ++ [c])
          · obtain ⟨t, ht⟩ := hex
            have hlk := (HT1.out.edges.hit keyE Tryd.underlying59 hkl (er_hit HND.out ht)).1
            unfold edgeV at hlk
            have HN2 : Box (Nd[t]? = some ((row.drop F).take (D + 1))) := boxed (by rw [HTK.out]; exact ht)
            obtain ⟨V, vv, vo, vc, hvv, hzq, hzv, hv9, hv257, hvne, Bv, hvo⟩ := zlook HZ.out ((row.drop F).take (D + 1))
            obtain ⟨kt, hkt⟩ := int_key t (nd_small HN2.out (by omega))
            have hlv : (Instr.lookup 60 (.map (some lb)) (.int .i64 (t : Int)) false).run Tryd.prog wr = .ok vv wr := by
              obtain ⟨m, hm⟩ := HT1.out.levels
              rcases hzv with hzv | ⟨hzv, e⟩
              · exact (hm.hit keyI Tryd.underlying60 hkt ((lr_iff HN2.out vv).2 hzv)).2
              · rw [e]
                exact (hm.miss keyI Tryd.underlying60 (z := .slice none 0 0) (fun w => by kernel_rfl) hkt (fun v hv => by rw [lr_iff HN2.out v, hzv] at hv; cases hv)).2
            subst hvv
            have HX3 : Box (LvIs (zQ Z) row (C3 (zQ Z) F D 0) X) := boxed (HX.out.same (fun i a k h => c_in F D i a k))
            have HDN := boxed (fun i a k h => c_done (Q := zQ Z) (row := row) (F := F) (D := D) (V := V) hFD hzq i a k h)
            have HZQ := boxed hzq
            have HV9 := boxed hv9
            have HVO := boxed hvo
            have HVN : Box (V ≠ [] → V.length = D + 2) := boxed (fun h => by have := hvne h; rw [this]; simp; rw [HN.out]; omega)
            obtain ⟨M, hM⟩ : ∃ M, V.length = M := ⟨_, rfl⟩
            have HM := boxed hM
            rw [hM] at hlv hv257 HVO
            clear hM hzq hzv hv9 hvne hvo HX ht hkl hkt HTK HT1
            go_wp2_with fail
            go_loopw [48] (fun vk wr3 => ∃ (K : Nat) (X' : List Nat), K ≤ M ∧ vk = .int .i64 (K : Int) ∧ Box (LvIs (zQ Z) row (C3 (zQ Z) F D K) X') ∧ Box (HiS w eb lb N1 X' wr3)) (fun vk _ => M - (intOf vk).toNat)
            case atStart => exact ⟨0, X, Nat.zero_le _, rfl, HX3, HS⟩
            case round =>
              clear k2 k3 hlk hlv hcl HX3 HS HND
              obtain ⟨K, X', hK, rfl, HX', HS'⟩ := hrel
              by_cases hlt3 : K < M
              · obtain ⟨gv, vc', e2, hcv, hvl, -⟩ := own_cell (owns_below HVO.out HS'.out.bel) K hlt3
                injection e2 with e2 e3 e4
                subst e2; subst e4
                clear e3
                have hVl : K < V.length := by rw [HM.out]; exact hlt3
                have hM2 := HVN.out (by intro c; rw [c] at hVl; simp at hVl)
                rw [HM.out] at hM2
                rw [bvals_get _ _ hVl] at hvl
                have hq1 : F + K < row.length + 1 := by rw [HN.out]; omega
                have hq2 : F + K < N1 := by have := HN1.out; omega
                have hXl : X'.length = N1 := by rw [HX'.out.1, HN.out, HN1.out]
                have hx9 := HX'.out.le HZ.out.nine (F + K) hq1
                have hv9 : V.getD K 0 ≤ 9 := HV9.out _ (getD_mem V K hVl)
                have hxc := HS'.out.own.cellAt (F + K) (by omega)
                rw [bvals_get _ _ (by omega)] at hxc
                have hxf := HS'.out.own.frozenAt (F + K)
                have hz' : lookL (zQ Z) ((row.drop F).take (D + 1)) = some V := by
                  rcases HZQ.out with h | ⟨_, h⟩
                  · exact h
                  · rw [h] at hVl; simp at hVl
                obtain ⟨i0, q1, q2, q3⟩ := cnts_of_look _ _ _ hz'
                have hst : Std (zQ Z) row i0 F K := by
                  refine ⟨q1, q2, ?_, ?_, ?_⟩
                  · rw [q3]; simp; omega
                  · rw [q3]; simp only [List.length_take, List.length_drop]
                    rw [show min (D + 1) (row.length - F) = D + 1 by omega]
                  · rw [q3]; exact hVl
                have HXN : Box (LvIs (zQ Z) row (C3 (zQ Z) F D (K + 1)) (X'.set (F + K) (max (X'.getD (F + K) 0) (V.getD K 0)))) := boxed (by
                  have := HX'.out.put hst hq1 (fun i a k h => c_next q1 q2 q3 hFD i a k h)
                  rw [q3] at this
                  exact this)
                have HSN := boxed (HS'.out.put (F + K) (max (X'.getD (F + K) 0) (V.getD K 0)))
                have hmx : max ((X'.getD (F + K) 0 : Nat) : Int) ((V.getD K 0 : Nat) : Int) = ((max (X'.getD (F + K) 0) (V.getD K 0) : Nat) : Int) := by omega
                clear hz' q1 q2 q3 hst HX' HS' hM2 hVl hXl HVN HVO HN2
                obtain ⟨q, hq⟩ : ∃ q, F + K = q := ⟨_, rfl⟩
                rw [hq] at hq2 hxc hxf hmx HXN HSN hx9
                have hqi : (F : Int) + (K : Int) = (q : Int) := by omega
                have hqN : (q : Int) < (N1 : Int) := by omega
                clear hq hq1
                generalize X'.getD q 0 = x at *
                generalize V.getD K 0 = v at *
                generalize max x v = m at *
                have hKM : (K : Int) < (M : Int) := by omega
                go_wp2_with fail
                go_roundw
                case rel => exact ⟨K + 1, _, by omega, by go_num, HXN, HSN⟩
                case measure => simp [intOf]; omega
              · have e : K = M := by omega
                subst e
                have HX4 : Box (LvIs (zQ Z) row (C2 (zQ Z) F (D + 1)) X') := boxed (HX'.out.same (fun i a k h => by have := HDN.out i a k h; rw [HM.out] at this; exact this))
                clear HX' HDN HVN HVO HZQ HM
                go_wp2_with fail
                go_roundw
                case rel => exact ⟨D + 1, t, X', by omega, rfl, by go_num, HN2, HX4, HS'⟩
                case measure => simp [intOf]; omega
          · have hno : ∀ t : Nat, Nd[t]? ≠ some ((row.drop F).take D ++ [c]) := fun t ht => hex ⟨t, ht⟩
            have hmiss : ∀ v, ¬ ER Nd (edgeV nd c) v := fun v hv => by
              obtain ⟨t, -, ht⟩ := (er_iff HND.out v).1 hv
              exact hno t ht
            have hlk := (HT1.out.edges.miss keyE Tryd.underlying59 (z := .int .i64 0) (fun w => by kernel_rfl) hkl hmiss).1
            unfold edgeV at hlk
            have HX2 : Box (LvIs (zQ Z) row (C1 (F + 1)) X) := boxed (HX.out.same (fun i a k h => c_break (zends HT.out.ends) HT.out.ok F D hFD (fun t ht => hno t (by rw [← HTK.out]; exact ht)) i a k h))
            clear hno hex hmiss HTK HX hkl HT1 HND
            go_wp2_with fail
            go_roundw
            case rel => exact ⟨F + 1, X, by omega, by go_num, HX2, HS⟩
            case measure => simp [intOf]; omega
        · have e : D = N - F := by omega
          subst e
          have HX2 : Box (LvIs (zQ Z) row (C1 (F + 1)) X) := boxed (HX.out.same (fun i a k h => by have := c_end (Q := zQ Z) F i a k h; rw [HN.out] at this; exact this))
          clear HND HX hD
          generalize N - F = NF at *
          go_wp2_with fail
          go_roundw
          case rel => exact ⟨F + 1, X, by omega, by go_num, HX2, HS⟩
          case measure => simp [intOf]; omega
    · have e : F = N := by omega
      subst e
      have HX2 : Box (LvIs (zQ Z) row (fun _ _ _ => True) X0) := boxed (HX0.out.same (fun i a k h => by have := c_all HZ.out.ne i a k h; rw [HN.out] at this; exact this))
      clear HX0
      go_wp2_with fail
      go_ret
      exact ⟨⟨X0, _, _, rfl, own_down HS0.out.own (by omega), HX2.out⟩, HS0.out.bel⟩
end Go.Proofs.YtflhefgmgdgffaaDoor
