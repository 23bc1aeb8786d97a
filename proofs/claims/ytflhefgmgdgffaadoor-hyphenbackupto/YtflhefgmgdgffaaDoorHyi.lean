/-
  What the program's tree.put leaves.
-/
import Derived.Test.YtflhefgmgdgffaaDoorHyh
namespace Go.Proofs.YtflhefgmgdgffaaDoor
open Go.RowKit Go.Maps
set_option linter.unusedSimpArgs false
set_option linter.unusedVariables false

theorem own_chg {D : Nat → Prop} {w w' : World} {B e size n : Nat} {v : Value} {xs : List Value} (h : w.ownsRow B e size v n xs) (hc : Chg D w w') (hn : ∀ g, v.ownBlock = some g → ¬ D g) : w'.ownsRow B e size v n xs := by
  obtain ⟨h1, h2⟩ := h
  refine ⟨h1, ?_⟩
  rcases h2 with h2 | ⟨g, cap, cur, e, hB, hh, r⟩
  · exact .inl h2
  · exact .inr ⟨g, cap, cur, e, hB, by rw [hc.block g (heap_lt hh) (hn g (by rw [e]; rfl))]; exact hh, r⟩
theorem own_not_map {P : Program} {k : TypeId} {w : World} {mb m : Nat} {R : Value → Value → Prop} {B e size n : Nat} {v : Value} {xs : List Value} (h : w.ownsRow B e size v n xs) (hm : MapR P k w mb m R) : v.ownBlock ≠ some mb := by
  obtain ⟨es, clock, hb, -⟩ := hm
  intro c
  rcases h.2 with ⟨rfl, _⟩ | ⟨g, cap, cur, rfl, _, hh, _⟩
  · cases c
  · have : g = mb := by simpa [Value.ownBlock] using c
    subst this
    rw [hb] at hh; cases hh
theorem own_cell {w : World} {B e n : Nat} {v : Value} {xs : List Value} (h : w.ownsRow B e 1 v n xs) (j : Nat) (hj : j < n) : ∃ g cap, v = .slice (some ⟨g, 0, none⟩) n cap ∧ n ≤ cap ∧ w.cell? ⟨g, j, none⟩ = xs[j]? ∧ w.frozen? ⟨g, j, none⟩ = false := by
  rcases h.2 with ⟨_, h0⟩ | ⟨g, cap, cur, rfl, _, _, hc, _⟩
  · omega
  · exact ⟨g, cap, rfl, hc, h.cellAt j (by omega), h.frozenAt j⟩
theorem take_snoc (L : List Nat) (j : Nat) (h : j < L.length) : L.take (j + 1) = L.take j ++ [L.getD j 0] := by
  rw [List.take_succ_eq_append_getElem h]; simp [List.getD_eq_getElem?_getD, h]
/-- The tree's own two blocks. -/
def TD (eb lb : Nat) (b : Nat) : Prop := b = eb ∨ b = lb
set_option maxRecDepth 100000 in
set_option maxHeartbeats 4000000 in
theorem tput_any (w : World) (eb lb : Nat) (Nd : List (List Nat)) (Q : List (List Nat × Value)) (L : List Nat) (B : Nat) (vl u : Value) (h : TrAt w eb lb Nd Q) (hz : Nd.length + L.length ≤ 900000) (hL : w.ownsRow B 21 1 vl L.length (rvals L)) (hc : ∀ c ∈ L, c ≤ 1114111) :
    Calls Tryd.prog 31 #[.agg #[.map (some eb), .map (some lb)], vl, u] w fun e w' => e = .returned (.tuple #[]) ∧ ∃ Nd', TrAt w' eb lb Nd' (Q ++ [(L, u)]) ∧ Nd'.length ≤ Nd.length + L.length ∧ Chg (TD eb lb) w w' := by
  have l1 := laid1 w (.cells #[.map (some eb), .map (some lb)] 62)
  have HT0 := boxed (h.below l1.2.1)
  have HC0 : Box (Chg (TD eb lb) w (w.alloc (.cells #[.map (some eb), .map (some lb)] 62))) := boxed (Chg.of_below l1.2.1)
  have HL0 := boxed (owns_below hL l1.2.1)
  have HX0 := boxed l1.1
  have HCC := boxed hc
  obtain ⟨vo, vc, rfl⟩ := own_shape hL
  clear l1 h hL hc
  go_enter Tryd.func31, Tryd.ntmps31
  go_wp2_with fail
  go_loopw [6, 14] (fun vn vi wr => ∃ (j nd : Nat) (Nd' : List (List Nat)), j ≤ L.length ∧ vn = .int .i64 (nd : Int) ∧ vi = .int .i64 (j : Int) ∧ Box (Nd'[nd]? = some (L.take j)) ∧ Box (TrAt wr eb lb Nd' Q) ∧ Nd'.length ≤ Nd.length + j ∧ Box (Chg (TD eb lb) w wr) ∧ Box (wr.heap[w.heap.size]? = some (.cells #[.map (some eb), .map (some lb)] 62 (0, 0))) ∧ Box (wr.ownsRow B 21 1 (.slice vo L.length vc) L.length (rvals L))) (fun _ vi _ => L.length - (intOf vi).toNat)
  case atStart => exact ⟨0, 0, Nd, Nat.zero_le _, rfl, rfl, boxed (by rw [List.take_zero]; exact HT0.out.ok.root), HT0, Nat.le_refl _, HC0, HX0, HL0⟩
  case round =>
    obtain ⟨j, nd, Nd', hj, rfl, rfl, HN, HT, hnl, HC, HX, HL⟩ := hrel
    by_cases hlt : j < L.length
    · obtain ⟨g, cap, e0, hcap, hcl, hfz⟩ := own_cell HL.out j hlt
      injection e0 with e1 e2 e3
      subst e1; subst e3
      rw [rvals_get _ _ hlt] at hcl
      have hcle := HCC.out _ (getD_mem L j hlt)
      have hjl : (j : Int) < (L.length : Int) := by omega
      obtain ⟨c, hcd⟩ : ∃ c, L.getD j 0 = c := ⟨_, rfl⟩
      rw [hcd] at hcl hcle
      have HTK := boxed (take_snoc L j hlt)
      rw [hcd] at HTK
      have HTS := boxed (show w.heap.size < wr.heap.size from heap_lt HX.out)
      obtain ⟨W, hW⟩ : ∃ W, wr.alloc (.cells #[.int .i64 (nd : Int), .int .i32 (c : Int)] 96) = W := ⟨_, rfl⟩
      have l1 := laid1 wr (.cells #[.int .i64 (nd : Int), .int .i32 (c : Int)] 96)
      rw [hW] at l1
      replace hW := boxed hW
      have HT1 := boxed (HT.out.below l1.2.1)
      have HL1 := boxed (owns_below HL.out l1.2.1)
      have HX1 : Box (W.heap[w.heap.size]? = some (.cells #[.map (some eb), .map (some lb)] 62 (0, 0))) := boxed ((l1.2.1.block _ HTS.out).trans HX.out)
      have HY1 := boxed l1.1
      have HC1 : Box (Chg (TD eb lb) w W) := boxed (HC.out.trans (Chg.of_below l1.2.1))
      have k0 : W.cell? ⟨wr.heap.size, 0, none⟩ = some (.int .i64 (nd : Int)) := by rw [cell_of_row _ _ _ _ _ _ l1.1]; rfl
      have k1 : W.cell? ⟨wr.heap.size, 1, none⟩ = some (.int .i32 (c : Int)) := by rw [cell_of_row _ _ _ _ _ _ l1.1]; rfl
      have k2 : W.cell? ⟨w.heap.size, 0, none⟩ = some (.map (some eb)) := by rw [cell_of_row _ _ _ _ _ _ HX1.out]; rfl
      have k3 : W.cell? ⟨w.heap.size, 1, none⟩ = some (.map (some lb)) := by rw [cell_of_row _ _ _ _ _ _ HX1.out]; rfl
      have hnds := nd_small HN.out (by omega)
      obtain ⟨kl, hkl⟩ := edge_key nd c hnds hcle
      by_cases hex : ∃ t : Nat, Nd'[t]? = some (L.take j ++ [c])
      · obtain ⟨t, ht⟩ := hex
        have hlk := (HT1.out.edges.hit keyE Tryd.underlying59 hkl (er_hit HN.out ht)).1
        unfold edgeV at hlk
        have HN2 : Box (Nd'[t]? = some (L.take (j + 1))) := boxed (by rw [HTK.out]; exact ht)
        clear ht l1 hkl HN HTK HT HC HX HL
        go_upto_region 6 with fail
        rw [hW.out]
        go_wp2_with fail
        go_roundw
        case rel => exact ⟨j + 1, t, Nd', by omega, rfl, by go_num, HN2, HT1, by omega, HC1, HX1, HL1⟩
        case measure => simp [intOf]; omega
      · have hno : ∀ t : Nat, Nd'[t]? ≠ some (L.take j ++ [c]) := fun t ht => hex ⟨t, ht⟩
        have hmiss : ∀ v, ¬ ER Nd' (edgeV nd c) v := fun v hv => by
          obtain ⟨t, -, ht⟩ := (er_iff HN.out v).1 hv
          exact hno t ht
        have hlk := (HT1.out.edges.miss keyE Tryd.underlying59 (z := .int .i64 0) (fun w => by kernel_rfl) hkl hmiss).1
        unfold edgeV at hlk
        have hp := HT1.out.ok.pos
        have hsz := size17_any W eb (.map (some lb)) (Nd'.length - 1) (ER Nd') HT1.out.edges (by omega)
        rw [show (((Nd'.length - 1 : Nat) : Int) + 1) = (Nd'.length : Int) by omega] at hsz
        have HTN : Box (TrOk (Nd' ++ [L.take j ++ [c]])) := boxed (tr_add HT1.out.ok HN.out hno)
        have HN2 : Box ((Nd' ++ [L.take j ++ [c]])[Nd'.length]? = some (L.take (j + 1))) := boxed (by rw [HTK.out]; exact nd_new _ _)
        have HMI := boxed hmiss
        have HER := boxed (fun a v => er_add HT1.out.ok HN.out hno a v)
        have HLR := boxed (fun a v => lr_add HT1.out.ends hno a v)
        clear hno hex hmiss l1 HN HTK HT HC HX HL hp
        replace hkl := boxed hkl
        go_upto_region 6 with fail
        rw [hW.out]
        go_wp2_with fail
        refine hsz.mono ?_
        rintro e w2 ⟨rfl, hb⟩
        have HT2 := boxed (HT1.out.below hb)
        have HL2 := boxed (owns_below HL1.out hb)
        have HX2 : Box (w2.heap[w.heap.size]? = some (.cells #[.map (some eb), .map (some lb)] 62 (0, 0))) := boxed ((hb.block _ (heap_lt HX1.out)).trans HX1.out)
        have HC2 : Box (Chg (TD eb lb) w w2) := boxed (HC1.out.trans (Chg.of_below hb))
        have k0' := hold hb k0
        have k1' := hold hb k1
        have k2' := hold hb k2
        obtain ⟨w3, n3, hrun, hM, hg, -, hn3⟩ := HT2.out.edges.put keyE Tryd.underlying59 hkl.out (.int .i64 (Nd'.length : Int))
        unfold edgeV at hrun
        have hn3' := hn3 HMI.out
        have HT3 : Box (TrAt w3 eb lb (Nd' ++ [L.take j ++ [c]]) Q) := boxed ⟨HTN.out, by
            have e : (Nd' ++ [L.take j ++ [c]]).length - 1 = n3 := by rw [hn3']; have := HT2.out.ok.pos; simp; omega
            rw [e]; exact hM.same (fun a v => HER.out a v), by
            obtain ⟨m, hm⟩ := HT2.out.levels
            exact ⟨m, (hm.keep (hg.block _ hm.lt (by intro x; injection x with x; exact HT2.out.ne x.symm))).same (fun a v => HLR.out a v)⟩, fun e he => by
            obtain ⟨t, ht⟩ := HT2.out.ends e he
            exact ⟨t, nd_app ht⟩, HT2.out.ne⟩
        have HC3 : Box (Chg (TD eb lb) w w3) := boxed (HC2.out.trans (Chg.of_grown hg (fun g hg => by injection hg with hg; exact .inl hg.symm)))
        have hne : w.heap.size ≠ eb := by
          intro e
          obtain ⟨es, clock, hh, -⟩ := HT2.out.edges
          rw [← e, HX2.out] at hh; cases hh
        have HX3 : Box (w3.heap[w.heap.size]? = some (.cells #[.map (some eb), .map (some lb)] 62 (0, 0))) := boxed ((hg.block _ (heap_lt HX2.out) (by intro x; injection x with x; exact hne x)).trans HX2.out)
        have HL3 := boxed (HL2.out.kept hg (.inr (own_not_map HL2.out HT2.out.edges)))
        have hnl3 : (Nd' ++ [L.take j ++ [c]]).length ≤ Nd.length + (j + 1) := by simp; omega
        clear hn3 hn3' hM hg hne k0 k1 k2 hb hsz HT2 HC2 HX2 HL2 HT1 HC1 HX1 HL1 HY1 hlk k3 hW HER HLR HMI HTN
        generalize Nd'.length = nl at *
        go_wp2_with fail
        go_roundw
        case rel => exact ⟨j + 1, nl, _, by omega, rfl, by go_num, HN2, HT3, hnl3, HC3, HX3, HL3⟩
        case measure => simp [intOf]; omega
    · have e : j = L.length := by omega
      subst e
      obtain ⟨m, hm⟩ := HT.out.levels
      obtain ⟨kl, hkl⟩ := int_key nd (nd_small HN.out (by omega))
      obtain ⟨w3, n3, hrun, hM, hg, -, -⟩ := hm.put keyI Tryd.underlying60 hkl u
      have hN := HN.out
      rw [List.take_length] at hN
      have HT3 : Box (TrAt w3 eb lb Nd' (Q ++ [(L, u)])) := boxed ⟨HT.out.ok, HT.out.edges.keep (hg.block _ HT.out.edges.lt (by intro x; injection x with x; exact HT.out.ne x)), ⟨n3, hM.same (fun a v => lr_put HT.out.ok hN u a v)⟩, fun e he => by
        rcases List.mem_append.1 he with he | he
        · exact HT.out.ends e he
        · simp at he; subst he; exact ⟨nd, hN⟩, HT.out.ne⟩
      have HC3 : Box (Chg (TD eb lb) w w3) := boxed (HC.out.trans (Chg.of_grown hg (fun g hg => by injection hg with hg; exact .inr hg.symm)))
      have k2 : wr.cell? ⟨w.heap.size, 0, none⟩ = some (.map (some eb)) := by rw [cell_of_row _ _ _ _ _ _ HX.out]; rfl
      have k3 : wr.cell? ⟨w.heap.size, 1, none⟩ = some (.map (some lb)) := by rw [cell_of_row _ _ _ _ _ _ HX.out]; rfl
      clear hm hkl hM hg hN HN HT HC HX HL
      go_wp2_with fail
      refine bodyPost_end (results_none rfl _ _ _) rfl ?_
      exact ⟨rfl, Nd', HT3.out, hnl, HC3.out⟩
end Go.Proofs.YtflhefgmgdgffaaDoor
