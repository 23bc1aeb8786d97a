/-
  What the program's tree.odd answers: the places of a word at which the greatest level is odd.
-/
import Derived.Test.YtflhefgmgdgffaaDoorHyk
namespace Go.Proofs.YtflhefgmgdgffaaDoor
open Go.RowKit Go.Maps
set_option linter.unusedSimpArgs false
set_option linter.unusedVariables false

/-- The numbers below n at which a row of levels is odd. -/
def odds (X : List Nat) (n : Nat) : List Nat := (List.range n).filter fun i => decide (X.getD (i + 1) 0 % 2 = 1)
theorem odds_succ (X : List Nat) (n : Nat) : odds X (n + 1) = if X.getD (n + 1) 0 % 2 = 1 then odds X n ++ [n] else odds X n := by
  unfold odds
  rw [List.range_succ, List.filter_append]
  by_cases c : X.getD (n + 1) 0 % 2 = 1
  · rw [if_pos c, List.filter_cons, if_pos (decide_eq_true c)]; rfl
  · rw [if_neg c, List.filter_cons, if_neg (by rw [decide_eq_false c]; simp)]; simp
theorem odds_len (X : List Nat) (n : Nat) : (odds X n).length ≤ n := by
  have := List.length_filter_le (fun i => decide (X.getD (i + 1) 0 % 2 = 1)) (List.range n)
  simpa [odds] using this
theorem own_news {w : World} {B e n : Nat} {v : Value} {xs : List Value} (h : w.ownsRow B e 1 v n xs) (hn : 0 < n) : ∃ g cap, v = .slice (some ⟨g, 0, none⟩) n cap ∧ ∀ j u, xs[j]? = some u → w.cell? ((⟨g, 0, none⟩ : Addr).add j) = some u := by
  obtain ⟨g, cap, rfl, -⟩ := own_cell h 0 hn
  exact ⟨g, cap, rfl, h.cells rfl⟩
theorem rvals_one (L : List Nat) : ∀ u ∈ rvals L, u.oneCell' = true := by
  intro u hu
  simp only [rvals, List.mem_map] at hu
  obtain ⟨d, _, rfl⟩ := hu
  rfl
set_option maxRecDepth 100000 in
set_option maxHeartbeats 4000000 in
theorem odd_any (w : World) (eb lb B : Nat) (Nd : List (List Nat)) (Z : ZL) (L : List Nat) (vl : Value) (hT : TrAt w eb lb Nd (zV Z)) (hZ : ZOk w Z) (hL : w.ownsRow B 21 1 vl L.length (rvals L)) (hl : L.length ≤ 256) (hl0 : 0 < L.length) (hc : ∀ c ∈ L, c ≤ 1114111) (hz : Nd.length ≤ 900000) :
    Calls Tryd.prog 24 #[.agg #[.map (some eb), .map (some lb)], vl] w fun e w' => (∃ X v, e = .returned v ∧ w'.ownsRow w.heap.size 3 1 v (odds X L.length).length (vals (odds X L.length)) ∧ LvIs (zQ Z) (46 :: (L ++ [46])) (fun _ _ _ => True) X) ∧ Below w.heap.size w w' := by
  obtain ⟨i1, hi1, hy0, hy1, hy2⟩ := info_parts info_rune
  obtain ⟨i2, hi2, hz0, hz1, hz2⟩ := info_parts info_int
  obtain ⟨g, cap, rfl, hnw⟩ := own_news hL hl0
  obtain ⟨N, hN⟩ : ∃ N, L.length = N := ⟨_, rfl⟩
  have HN := boxed hN
  rw [hN] at hl hl0 ⊢
  clear hN
  have HT := boxed hT
  have HZ := boxed hZ
  have HCC := boxed hc
  have HNW := boxed hnw
  have l1 := laid1 w (.cells #[.map (some eb), .map (some lb)] 62)
  have HB1 := boxed l1.2.1
  have HX1 := boxed l1.1
  have hsz1 := l1.2.2
  obtain ⟨W1, hW1⟩ : ∃ W1, w.alloc (.cells #[.map (some eb), .map (some lb)] 62) = W1 := ⟨_, rfl⟩
  rw [hW1] at HB1 HX1 hsz1
  replace hW1 := boxed hW1
  have hsz1' : w.heap.size < W1.heap.size := by omega
  clear hsz1
  clear l1 hT hZ hc hnw hL
  go_enter Tryd.func24, Tryd.ntmps24
  go_upto_region 1 with fail
  rw [hW1.out]
  have HLT : Box ((W1.alloc (.cells #[.int .i32 46] 21)).ownsRow w.heap.size 21 1 (.slice (some ⟨W1.heap.size, 0, none⟩) 1 1) 1 [.int .i32 46]) := boxed (by
    have := World.ownsRow_lit (base := w.heap.size) (e := 21) (size := 1) W1 #[.int .i32 46] 1 (by omega) (by unfold maxLen; omega) (by simp)
    simpa using this)
  have HN2 : Box (∀ j u, (rvals L)[j]? = some u → (W1.alloc (.cells #[.int .i32 46] 21)).cell? ((⟨g, 0, none⟩ : Addr).add j) = some u) := boxed (fun j u hj => hold (below_step HB1.out (Nat.le_refl _) ((Below.refl _ _).alloc (Nat.le_refl _) _)) (HNW.out j u hj))
  go_wp2_with (at_builtin; refine wpList_append_apart rfl _ _ 55 rfl w.heap.size 21 i1 (.int .i32 0) 1 4 Tryd.underlying55 hi1 hy0 hy1 hy2 rfl (by decide) _ _ _ rfl HLT.out ⟨g, 0, none⟩ N cap (rvals L) rfl (by rw [rvals_len, HN.out]; omega) HN2.out (rvals_one L) ?c3 ?c4 ?c5 hl0 ?_)
  case c3 => unfold maxLen; omega
  case c4 => omega
  case c5 => simp; omega
  intro v2 w2 hown2 hgrow2 _
  have hb2 : Below W1.heap.size W1 w2 := ((Below.refl _ W1).alloc (Nat.le_refl _) _).grown hgrow2 (by simp) (fun k hk => (by simpa [Value.ownBlock] using hk : W1.heap.size = k) ▸ Nat.le_refl _)
  have HB2 : Box (Below w.heap.size w w2) := boxed (below_step HB1.out (Nat.le_refl _) hb2)
  have HX2 : Box (w2.heap[w.heap.size]? = some (.cells #[.map (some eb), .map (some lb)] 62 (0, 0))) := boxed ((hb2.block _ (by omega)).trans HX1.out)
  have HO2 := boxed hown2
  have hsz2 : w.heap.size < w2.heap.size := heap_lt HX2.out
  clear hown2 hgrow2 hb2 HLT HN2
  obtain ⟨a2, c2, rfl⟩ := own_shape HO2.out
  obtain ⟨N1, hN1⟩ : ∃ N1, 1 + N = N1 := ⟨_, rfl⟩
  have HN1 := boxed hN1
  have hN1l : N1 ≤ 257 := by omega
  rw [hN1] at HO2 ⊢
  clear hN1
  go_wp2_with (at_builtin; refine wpList_append_apart rfl _ _ 55 rfl w.heap.size 21 i1 (.int .i32 0) 1 4 Tryd.underlying55 hi1 hy0 hy1 hy2 rfl (by decide) _ _ _ rfl (HO2.out.alloc _) ⟨w2.heap.size, 0, none⟩ 1 1 [.int .i32 46] rfl rfl (one_new w2 _ _) ?c2 ?c3 ?c4 ?c5 (by omega) ?_)
  case c2 => intro u hu; simp at hu; subst hu; rfl
  case c3 => unfold maxLen; omega
  case c4 => omega
  case c5 => simp; omega
  intro v3 w3 hown3 hgrow3 _
  have hb3 : Below w2.heap.size w2 w3 ∨ True := .inr trivial
  have hx3 : w3.heap[w.heap.size]? = some (.cells #[.map (some eb), .map (some lb)] 62 (0, 0)) := by
    rw [hgrow3.block w.heap.size (by simp; omega) ?_]
    · rw [Below.heap_alloc _ _ _ (by omega)]; exact HX2.out
    · intro c
      have := own_ne HO2.out HX2.out (by decide)
      exact this c.symm
  have HX3 := boxed hx3
  have HB3 : Box (Below w.heap.size w w3) := boxed ((HB2.out.alloc (by omega) _).grown hgrow3 (by simp; omega) (fun k hk => (HO2.out.lt k hk).1))
  have HO3 : Box (w3.ownsRow w.heap.size 21 1 v3 (46 :: (L ++ [46])).length (rvals (46 :: (L ++ [46])))) := boxed (by
    have e1 : (46 :: (L ++ [46])).length = N1 + 1 := by simp; rw [HN.out]; have := HN1.out; omega
    have e2 : rvals (46 :: (L ++ [46])) = [.int .i32 46] ++ rvals L ++ [.int .i32 46] := by simp [rvals]
    rw [e1, e2]; exact hown3)
  have hsz3 := heap_lt hx3
  have hhi := highest_any w3 eb lb w.heap.size Nd Z (46 :: (L ++ [46])) v3 (HT.out.below HB3.out) (HZ.out.below HB3.out) HO3.out (by simp; rw [HN.out]; omega) (by simp) (by
    intro c hc
    simp at hc
    rcases hc with hc | hc | hc
    · omega
    · exact HCC.out c hc
    · omega) hz
  clear hown3 hgrow3 hb3 HX2 HO2 HB2 hx3
  have HW3 := boxed hsz3
  have k0 : w3.cell? ⟨w.heap.size, 0, none⟩ = some (.map (some eb)) := by rw [cell_of_row _ _ _ _ _ _ HX3.out]; rfl
  have k1 : w3.cell? ⟨w.heap.size, 1, none⟩ = some (.map (some lb)) := by rw [cell_of_row _ _ _ _ _ _ HX3.out]; rfl
  go_wp2_with fail
  refine hhi.mono ?_
  rintro e w4 ⟨⟨X, gx, cx, rfl, hox, hlx⟩, hb4⟩
  have HB4 := boxed (below_step HB3.out (Nat.le_refl _) hb4)
  have HOX := boxed hox
  have HLX := boxed hlx
  have hrl : (46 :: (L ++ [46])).length + 1 = N + 3 := by simp; rw [HN.out]
  rw [hrl] at HOX ⊢
  obtain ⟨N3, hN3⟩ : ∃ N3, N + 3 = N3 := ⟨_, rfl⟩
  have HN3 := boxed hN3
  rw [hN3] at HOX ⊢
  have hXl : Box (X.length = N3) := boxed (by rw [hlx.1, hrl, hN3])
  have hX9 : Box (∀ j, j < N3 → X.getD j 0 ≤ 9) := boxed (fun j hj => hlx.le HZ.out.nine j (by rw [hrl, hN3]; exact hj))
  clear hN3 hrl hox hlx hb4 hhi k0 k1 HX3 HO3 HT HZ HCC HNW HX1 hW1 HB1
  go_wp2_with fail
  go_loopw [7, 20] (fun vp vn wr => ∃ n : Nat, n ≤ N ∧ vn = .int .i64 (n : Int) ∧ Box (wr.ownsRow w.heap.size 3 1 vp (odds X n).length (vals (odds X n))) ∧ Box (wr.ownsRow w.heap.size 5 1 (.slice (some ⟨gx, 0, none⟩) N3 cx) N3 (bvals X)) ∧ Box (Below w.heap.size w wr)) (fun _ vn _ => N - (intOf vn).toNat)
  case atStart => exact ⟨0, Nat.zero_le _, rfl, boxed (World.ownsRow_nil _ _ _ _), boxed (own_down HOX.out (by omega)), HB4⟩
  case round =>
    clear HOX HB4
    obtain ⟨n, hn, rfl, HP, HX, HB⟩ := hrel
    by_cases hlt : n < N
    · have hx9 := hX9.out (n + 1) (by have := HN3.out; omega)
      have hcl := HX.out.cellAt (n + 1) (by have := HN3.out; omega)
      rw [bvals_get _ _ (by rw [hXl.out]; have := HN3.out; omega)] at hcl
      have hn1 : ((n : Int) + 1) < (N3 : Int) := by have := HN3.out; omega
      have HS := boxed (odds_succ X n)
      have hpl := odds_len X n
      have hszr := HB.out.size
      obtain ⟨q, hq⟩ : ∃ q, n + 1 = q := ⟨_, rfl⟩
      rw [hq] at hx9 hcl HS
      have hqi : (n : Int) + 1 = (q : Int) := by omega
      have hqn : (q : Int) < (N3 : Int) := by omega
      replace hq := boxed hq
      clear hn1
      generalize X.getD q 0 = x at *
      by_cases hod : x % 2 = 1
      · have t1 : (((x : Int) % 2) == 1) = true := by rw [beq_iff_eq]; omega
        have HS2 : Box (odds X q = odds X n ++ [n]) := boxed (by rw [HS.out, if_pos hod])
        have HVS := boxed (vals_snoc (odds X n) n)
        obtain ⟨pl, hpl2⟩ : ∃ pl, (odds X n).length = pl := ⟨_, rfl⟩
        have HPL := boxed hpl2
        rw [hpl2] at HP hpl
        clear hpl2 hod HS
        go_wp2_with (at_builtin; refine wpList_append_apart rfl _ _ 30 rfl w.heap.size 3 i2 (.int .i64 0) 1 8 Tryd.underlying30 hi2 hz0 hz1 hz2 rfl (by decide) _ _ _ rfl (HP.out.alloc _) ⟨wr.heap.size, 0, none⟩ 1 1 [.int .i64 (n : Int)] rfl rfl (one_new wr _ _) ?c2 ?c3 ?c4 ?c5 (by omega) ?_)
        case c2 => intro u hu; simp at hu; subst hu; rfl
        case c3 => unfold maxLen; omega
        case c4 => omega
        case c5 => simp; omega
        intro v5 w5 hown5 hgrow5 _
        have HX5 := boxed (own_beside (HP.out.alloc _) (by decide) (HX.out.alloc _) hgrow5)
        have HB5 : Box (Below w.heap.size w w5) := boxed ((HB.out.alloc (by omega) _).grown hgrow5 (by simp; omega) (fun k hk => (HP.out.lt k hk).1))
        rw [HVS.out] at hown5
        have HP5 : Box (w5.ownsRow w.heap.size 3 1 v5 (odds X q).length (vals (odds X q))) := boxed (by rw [HS2.out, List.length_append, HPL.out]; exact hown5)
        clear hown5 hgrow5 HP HX HB
        go_wp2
        go_roundw
        case rel => exact ⟨n + 1, by omega, by go_num, boxed (by rw [hq.out]; exact HP5.out), HX5, HB5⟩
        case measure => simp [intOf]; omega
      · have t1 : (((x : Int) % 2) == 1) = false := by rw [beq_eq_false_iff_ne]; omega
        have HS2 : Box (odds X q = odds X n) := boxed (by rw [HS.out, if_neg hod])
        clear hod HS
        go_wp2_with fail
        go_roundw
        case rel => exact ⟨n + 1, by omega, by go_num, boxed (by rw [hq.out, HS2.out]; exact HP.out), HX, HB⟩
        case measure => simp [intOf]; omega
    · have e : n = N := by omega
      subst e
      go_wp2_with fail
      go_ret
      exact ⟨⟨X, _, rfl, HP.out, HLX.out⟩, HB.out⟩
end Go.Proofs.YtflhefgmgdgffaaDoor
