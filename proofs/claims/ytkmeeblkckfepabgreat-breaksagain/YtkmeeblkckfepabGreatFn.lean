/-
  What the search's method hopeful does.
-/
import Derived.Test.YtkmeeblkckfepabGreatDa
namespace Go.Proofs.YtkmeeblkckfepabGreat
open Go.RowKit
set_option linter.unusedSimpArgs false
set_option linter.unusedVariables false

/-- The rests as they lie in memory: for each break and class what the lines behind cost, and where the first of them ends. -/
def RsAt (w : World) (rb m : Nat) (R : Nat → Nat → Int × Nat) : Prop := ∀ e c, e < m → c < 4 → w.cell? ⟨rb, e * 8 + c * 2, none⟩ = some (.int .i64 (R e c).1) ∧ w.cell? ⟨rb, e * 8 + c * 2 + 1, none⟩ = some (.int .i64 ((R e c).2 : Int))
theorem RsAt.keep {w w' : World} {rb m : Nat} {R : Nat → Nat → Int × Nat} (h : RsAt w rb m R) (hb : w'.heap[rb]? = w.heap[rb]?) : RsAt w' rb m R := fun e c he hc => by
  rw [World.cell?_of_block (w := w) (a := ⟨rb, _, none⟩) hb, World.cell?_of_block (w := w) (a := ⟨rb, _, none⟩) hb]
  exact h e c he hc
section
variable (I : Nat → Itm) (n : Nat) (width : Int) (s : Stg) (R : Nat → Nat → Int × Nat) (k : Int)
/-- What the line up to break j costs with all behind it, as if none were ahead of it. -/
def vC (j : Nat) : Int := tt (cst s (ftb I n width k j) (itb I n j) (-1) (itb I n k).flag (decide (j + 1 = nbk I n))) (R j (ftb I n width k j).cls.toNat).1
/-- Does it do? -/
def doz (j : Nat) : Bool := !(ftb I n width k j).over && decide ((ftb I n width k j).bad ≤ s.t)
/-- The line up to break j is looked at. -/
def hst (j : Nat) (C : Nat → Ln) : Nat → Ln := if doz I n width s k j = true then tkC C ⟨j, ftb I n width k j, vC I n width s R k j⟩ (ftb I n width k j).cls.toNat else C
def hfu (nr : Nat) : Nat → (Nat → Ln) → Nat → Ln
  | 0, C => C
  | j + 1, C => if nr ≤ j then hst I n width s R k j (hfu nr j C) else C
theorem hfu_le (nr j : Nat) (h : j ≤ nr) (C : Nat → Ln) : hfu I n width s R k nr j C = C := by
  cases j with
  | zero => rfl
  | succ j => simp only [hfu]; rw [if_neg (by omega)]
theorem hfu_step (nr j : Nat) (h : nr ≤ j) (C : Nat → Ln) : hfu I n width s R k nr (j + 1) C = hst I n width s R k j (hfu I n width s R k nr j C) := by
  simp only [hfu]; rw [if_pos h]
end
section
variable {w : World} {B sb pb rb rc n cb : Nat} {I : Nat → Itm} {width : Int} {s : Stg} {bound near : Int} {v1 v2 : Value} {L1 L2 : List (Nat × Int)} {C : Nat → Ln} {R : Nat → Nat → Int × Nat}
set_option maxRecDepth 100000 in
set_option maxHeartbeats 8000000 in
theorem hopeful_any (h : ParaAt (fun b => b < B) w pb n I) (hn : n ≤ 262144) (hok : ∀ i, i < n → okI I i = true) (hw : 1 ≤ width ∧ width ≤ 1073741824) (nr bd : Nat) (k : Int) (hss : SS B sb pb rb rc (nbk I n) width s w (bd : Int) (nr : Int) v1 v2 L1 L2) (hnr : nr ≤ bd) (hbd : bd ≤ nbk I n) (hr : RsAt w rb (nbk I n) R)
    (hc : w.heap[cb]? = some (.cells (chA C) 76 (0, 0))) (hcx : ¬ SX sb v1 v2 cb) (hcr : cb ≠ rb) (hcB : B ≤ cb) :
    Calls Tryz.prog 47 #[.pointer (some ⟨sb, 0, none⟩), .int .i64 k, .pointer (some ⟨cb, 0, none⟩)] w fun e' w' => e' = .returned (.tuple #[]) ∧ (∃ st, (nr ≤ st ∧ st ≤ bd ∧ (st = bd ∨ width < (upt I n (bk I n k) (bk I n st)).w - (upt I n (bk I n k) (bk I n st)).sh)) ∧
      w'.heap[cb]? = some (.cells (chA (hfu I n width s R k nr st C)) 76 (0, 0))) ∧ Oth (fun q => q = cb) w w' := by
  have hm : nbk I n ≤ 262144 := by unfold nbk; have := lgs_len I n n; omega
  have HA := ahead_any (sb := sb) h hn hss.c.1.1 k (-1)
  have HP : Box (∀ W, Oth (fun q => q = cb) w W → ParaAt (fun b => b < B) W pb n I ∧ SS B sb pb rb rc (nbk I n) width s W (bd : Int) (nr : Int) v1 v2 L1 L2 ∧ RsAt W rb (nbk I n) R) := boxed (fun W hO => ⟨h.keep (kp_lt (hO.below (fun q hq => by rw [hq]; exact hcB) (by have := hss.hs; omega))), hss.oth hO (fun q hq hx => hcx (by rw [← hq]; exact hx)), hr.keep (hO.block rb hss.hs.2.2.2.2 (fun e => hcr e.symm))⟩)
  have HC0 := boxed hc
  have hcs := heap_lt hc
  obtain ⟨fl, hfl⟩ : ∃ fl, (itb I n k).flag = fl := ⟨_, rfl⟩
  have HFL := boxed hfl
  unfold aheV at HA
  rw [hfl] at HA
  clear hc hss h hr hfl hcx
  go_enter Tryz.func47, Tryz.ntmps47
  refine wp_scope_hops (fun J hJ => ?_)
  go_wp2_with fail
  refine HA.mono ?_
  rintro e' w1 ⟨rfl, hb1⟩
  have HO1 := boxed (Oth.of (X := fun q => q = cb) hb1)
  have HC1 : Box (w1.heap[cb]? = some (.cells (chA C) 76 (0, 0))) := boxed ((hb1.block cb hcs).trans HC0.out)
  obtain ⟨⟨c0, c1, c2, c9, c10, c11, c12, c13⟩, f10, f11⟩ := (HP.out _ HO1.out).2.1.c
  have q1 : sb < w1.heap.size := World.block_lt_of_cell? w1 _ c0
  clear hb1 HA
  go_wp2_with fail
  refine wp_label ?_
  obtain ⟨wA, hwA⟩ : ∃ wA, w1.alloc (.cells #[.int .i64 (-1), .bool fl] 83) = wA := ⟨_, rfl⟩
  have hbA : Below w1.heap.size w1 wA := by rw [← hwA]; exact (Below.refl _ _).alloc (Nat.le_refl _) _
  have HEA : Box (wA.heap[w1.heap.size]? = some (.cells #[.int .i64 (-1), .bool fl] 83 (0, 0))) := boxed (by rw [← hwA]; exact heap_alloc_new w1 _)
  rw [hwA]
  obtain ⟨AB, hAB⟩ : ∃ AB, w1.heap.size = AB := ⟨_, rfl⟩
  have HOA := boxed (HO1.out.trans (Oth.of hbA))
  have HCA : Box (wA.heap[cb]? = some (.cells (chA C) 76 (0, 0))) := boxed ((hbA.block cb (heap_lt HC1.out)).trans HC1.out)
  have hAc : AB ≠ cb := by rw [← hAB]; have := heap_lt HC1.out; omega
  rw [hAB] at HEA ⊢
  clear hbA hwA HC1 HO1 c0 c1 c2 c9 c10 c11 c12 c13 f10 f11 q1
  clear hAB
  obtain ⟨⟨c0, c1, c2, c9, c10, c11, c12, c13⟩, f10, f11⟩ := (HP.out _ HOA.out).2.1.c
  go_wp2_with fail
  clear c0 c1 c2 c9 c10 c11 c12 c13 f10 f11
  go_loopw [7] (fun ev wr => ∃ j : Nat, nr ≤ j ∧ j ≤ bd ∧ ev = .int .i64 (j : Int) ∧ Box (wr.heap[cb]? = some (.cells (chA (hfu I n width s R k nr j C)) 76 (0, 0)) ∧ wr.heap[AB]? = some (.cells #[.int .i64 (-1), .bool fl] 83 (0, 0)) ∧ Oth (fun q => q = cb) w wr)) (fun ev _ => bd - (intOf ev).toNat)
  case atStart => exact ⟨nr, Nat.le_refl _, hnr, rfl, boxed ⟨by rw [hfu_le I n width s R k nr nr (Nat.le_refl _) C]; exact HCA.out, HEA.out, HOA.out⟩⟩
  case round =>
    obtain ⟨j, hj1, hj2, rfl, HR⟩ := hrel
    obtain ⟨hcr', har, hOr⟩ := HR.out
    obtain ⟨hPr, hSr, hRr⟩ := HP.out _ hOr
    obtain ⟨⟨c0, c1, c2, c9, c10, c11, c12, c13⟩, f10, f11⟩ := hSr.c
    by_cases hlt : j < bd
    · have t1 : decide ((j : Int) < (bd : Int)) = true := decide_eq_true (by omega)
      have hfi := fit9_any hPr hn hok hw c0 c1 k (j : Int)
      have HL1 := boxed (hfu_step I n width s R k nr j hj1 C)
      have hcl := ftb_cls I n width k (j : Int)
      obtain ⟨f0, f1, f2, f3, f4, hF⟩ : ∃ a b c d e, ftb I n width k (j : Int) = ⟨a, b, c, d, e⟩ := ⟨_, _, _, _, _, rfl⟩
      have HF := boxed hF
      rw [hF] at hfi hcl
      simp only at hcl
      obtain ⟨c, rfl⟩ : ∃ c : Nat, f3 = (c : Int) := ⟨f3.toNat, by omega⟩
      have hc4 : c < 4 := by omega
      unfold Ft.val at hfi
      simp only at hfi
      have HRr := boxed hRr
      have HCr := boxed hcr'
      have HAr := boxed har
      have HOr := boxed hOr
      clear hF hcr' har hOr hPr hSr hRr HR c0 c1 c2 c9 c11 c12 c13 f10 f11
      have q0 := heap_lt HCr.out
      have q1 := heap_lt HAr.out
      go_wp2_with fail
      refine hfi.mono ?_
      rintro e' w2 ⟨rfl, hb2⟩
      obtain ⟨wF, hwF⟩ : ∃ wF, w2.alloc (.cells #[.int .i64 f0, .int .i64 f1, .int .i64 f2, .int .i64 (c : Int), .bool f4] 72) = wF := ⟨_, rfl⟩
      obtain ⟨FB, hFB⟩ : ∃ FB, w2.heap.size = FB := ⟨_, rfl⟩
      have hbF : Below wr.heap.size wr wF := by rw [← hwF]; exact hb2.alloc hb2.size _
      have heF : wF.heap[FB]? = some (.cells #[.int .i64 f0, .int .i64 f1, .int .i64 f2, .int .i64 (c : Int), .bool f4] 72 (0, 0)) := by rw [← hwF, ← hFB]; exact heap_alloc_new w2 _
      have hz : wr.heap.size ≤ FB := by rw [← hFB]; exact hb2.size
      have HBF := boxed hbF
      have HEF := boxed heF
      have HK : Box (∀ W, Below wF.heap.size wF W → (W.heap[FB]? = some (.cells #[.int .i64 f0, .int .i64 f1, .int .i64 f2, .int .i64 (c : Int), .bool f4] 72 (0, 0)) ∧ W.heap[AB]? = some (.cells #[.int .i64 (-1), .bool fl] 83 (0, 0)) ∧ W.heap[cb]? = some (.cells (chA (hfu I n width s R k nr j C)) 76 (0, 0)) ∧ Oth (fun q => q = cb) w W)) := boxed (fun W hb =>
        ⟨(hb.block FB (heap_lt heF)).trans heF, (hb.block AB (by have := hbF.size; omega)).trans ((hbF.block AB q1).trans HAr.out), (hb.block cb (by have := hbF.size; omega)).trans ((hbF.block cb q0).trans HCr.out), (HOr.out.trans (Oth.of hbF)).trans (Oth.of hb)⟩)
      have HY : Box (∀ W : World, W.heap[FB]? = some (.cells #[.int .i64 f0, .int .i64 f1, .int .i64 f2, .int .i64 (c : Int), .bool f4] 72 (0, 0)) → W.heap[AB]? = some (.cells #[.int .i64 (-1), .bool fl] 83 (0, 0)) → W.cell? ⟨FB, 0, none⟩ = some (.int .i64 f0) ∧ W.cell? ⟨FB, 1, none⟩ = some (.int .i64 f1) ∧ W.cell? ⟨FB, 2, none⟩ = some (.int .i64 f2) ∧ W.cell? ⟨FB, 3, none⟩ = some (.int .i64 (c : Int)) ∧ W.cell? ⟨FB, 4, none⟩ = some (.bool f4) ∧ W.cell? ⟨AB, 0, none⟩ = some (.int .i64 (-1)) ∧ W.cell? ⟨AB, 1, none⟩ = some (.bool fl)) := boxed (fun W h1 h2 => ⟨row_cell h1 0 _ rfl, row_cell h1 1 _ rfl, row_cell h1 2 _ rfl, row_cell h1 3 _ rfl, row_cell h1 4 _ rfl, row_cell h2 0 _ rfl, row_cell h2 1 _ rfl⟩)
      have HD : Box (Below wF.heap.size wF wF.drew) := boxed (Below.refl _ _).drew
      have HX1 : Box (∀ W, Below wF.heap.size wF W → W.cell? ⟨sb, 1, none⟩ = some (.int .i64 width)) := boxed (fun W hb => (HP.out _ (HK.out _ hb).2.2.2).2.1.c.1.2.1)
      have HNR : Box (∀ W, Below wF.heap.size wF W → Calls Tryz.prog 59 #[.pointer (some ⟨sb, 0, none⟩), .int .i64 k, .int .i64 (j : Int)] W fun e w' => e = .returned (.int .i64 ((upt I n (bk I n k) (bk I n (j : Int))).w - (upt I n (bk I n k) (bk I n (j : Int))).sh)) ∧ Below W.heap.size W w') := boxed (fun W hb => narrowest_any (HP.out _ (HK.out _ hb).2.2.2).1 hn hok (HP.out _ (HK.out _ hb).2.2.2).2.1.c.1.1 k (j : Int))
      have HLO : Box (∀ lo, (upt I n (bk I n k) (bk I n (j : Int))).w - (upt I n (bk I n k) (bk I n (j : Int))).sh = lo → width < lo → width < (upt I n (bk I n k) (bk I n (j : Int))).w - (upt I n (bk I n k) (bk I n (j : Int))).sh) := boxed (fun lo e h => by rw [e]; exact h)
      obtain ⟨lo, hlo⟩ : ∃ lo, (upt I n (bk I n k) (bk I n (j : Int))).w - (upt I n (bk I n k) (bk I n (j : Int))).sh = lo := ⟨_, rfl⟩
      rw [hlo] at HNR
      replace HLO := boxed (HLO.out lo hlo)
      clear hb2 hbF heF hlo hfi
      go_wp2_with fail
      try rw [hwF]
      clear hwF
      go_region_held3 (fun W => W.cell? ⟨sb, 1, none⟩ = some (.int .i64 width))
        (first | with_reducible exact HX1.out _ HD.out | with_reducible exact HX1.out _ HB3.out)
        (first
          | (go_at_call 59; refine (HNR.out _ HD.out).mono ?_; rintro e' w3 ⟨rfl, hb3⟩; have HB3 := boxed (below_step HD.out (Nat.le_refl _) hb3); clear hb3))
      obtain ⟨k1, k2, k3, k4⟩ := HK.out _ HB3.out
      obtain ⟨x0, x1, x2, x3, x4, x5, x6⟩ := HY.out _ k1 k2
      have c2 := (HP.out _ k4).2.1.c.1.2.2.1
      clear k1 k2 k3 k4
      by_cases hov : width < lo
      · have t2 : decide (width < lo) = true := decide_eq_true hov
        go_wp2_with fail
        rw [jumps_normal]
        refine bodyPost_end (results_none rfl _ _ _) rfl ?_
        exact ⟨rfl, ⟨j, ⟨hj1, by omega, .inr (HLO.out hov)⟩, (HK.out _ HB3.out).2.2.1⟩, (HK.out _ HB3.out).2.2.2⟩
      · have t2 : decide (width < lo) = false := decide_eq_false hov
        cases f4
        rotate_left
        · go_wp2_with fail
          go_quiet (fail)
          go_wp2_with fail
          go_roundw
          case rel => exact ⟨j + 1, by omega, by omega, by go_num, boxed (by
            obtain ⟨k1, k2, k3, k4⟩ := HK.out _ (HB3.out.trans (bel_drewN _ _ _))
            refine ⟨?_, k2, k4⟩
            rw [HL1.out, show hst I n width s R k j (hfu I n width s R k nr j C) = hfu I n width s R k nr j C from if_neg (by unfold doz; rw [HF.out]; simp)]
            exact k3)⟩
          case measure => simp [intOf]; omega
        by_cases hbt : f2 ≤ s.t
        rotate_left
        · have t3 : decide (s.t < f2) = true := decide_eq_true (by omega)
          go_wp2_with fail
          go_quiet (fail)
          go_wp2_with fail
          go_roundw
          case rel => exact ⟨j + 1, by omega, by omega, by go_num, boxed (by
            obtain ⟨k1, k2, k3, k4⟩ := HK.out _ (HB3.out.trans (bel_drewN _ _ _))
            refine ⟨?_, k2, k4⟩
            rw [HL1.out, show hst I n width s R k j (hfu I n width s R k nr j C) = hfu I n width s R k nr j C from if_neg (by unfold doz; rw [HF.out]; simp; omega)]
            exact k3)⟩
          case measure => simp [intOf]; omega
        have t3 : decide (s.t < f2) = false := decide_eq_false (by omega)
        go_wp2_with fail
        go_quiet (fail)
        go_wp2_with fail
        obtain ⟨W, hW⟩ : ∃ W, w3.drewN nq = W := ⟨_, rfl⟩
        rw [hW]
        have HBW : Box (Below wF.heap.size wF W) := boxed (by rw [← hW]; exact HB3.out.trans (bel_drewN _ _ _))
        clear hW HB3 HNR HX1 c2 x0 x1 x2 x3 x4 x5 x6
        have HBD : Box (Below wF.heap.size wF W.drew) := boxed HBW.out.drew
        have HCO : Box (∀ W, Below wF.heap.size wF W → Calls Tryz.prog 48 #[.pointer (some ⟨sb, 0, none⟩), .agg #[.int .i64 f0, .int .i64 f1, .int .i64 f2, .int .i64 (c : Int), .bool false], .int .i64 (j : Int), .agg #[.int .i64 (-1), .bool fl]] W fun e' w' => e' = .returned (.int .i64 (vC I n width s R k j)) ∧ Below W.heap.size W w') := boxed (fun W hb => by
          obtain ⟨kP, kS, kR⟩ := HP.out _ (HK.out _ hb).2.2.2
          have hv : vC I n width s R k j = tt (cst s ⟨f0, f1, f2, (c : Int), false⟩ (itb I n j) (-1) fl (decide (j + 1 = nbk I n))) (R j c).1 := by unfold vC; rw [HF.out, HFL.out]; simp
          rw [hv]
          exact cost9_any kP hn kS.sr j c (by omega) hc4 _ (kR j c (by omega) hc4).1 f0 f1 f2 false (-1) (by omega) fl)
        have HH : Box (hfu I n width s R k nr (j + 1) C = tkC (hfu I n width s R k nr j C) ⟨j, ⟨f0, f1, f2, (c : Int), false⟩, vC I n width s R k j⟩ c) := boxed (by
          rw [HL1.out]
          unfold hst
          rw [if_pos (by unfold doz; rw [HF.out]; simp [hbt]), HF.out]
          simp)
        have e7 : (⟨j, ⟨f0, f1, f2, (c : Int), false⟩, vC I n width s R k j⟩ : Ln).cells = [.int .i64 (j : Int), .int .i64 f0, .int .i64 f1, .int .i64 f2, .int .i64 (c : Int), .bool false, .int .i64 (vC I n width s R k j)] := rfl
        have HTK : Box (∀ W, Below wF.heap.size wF W → Calls Tryz.prog 57 #[.pointer (some ⟨cb, 0, none⟩), .agg #[.int .i64 (j : Int), .int .i64 f0, .int .i64 f1, .int .i64 f2, .int .i64 (c : Int), .bool false, .int .i64 (vC I n width s R k j)]] W fun e w' => e = .returned (.tuple #[]) ∧ w'.heap[cb]? = some (.cells (chA (hfu I n width s R k nr (j + 1) C)) 76 (0, 0)) ∧ Oth (fun b => b = cb) W w') := boxed (fun W hb => by
          have := take_any (x := ⟨j, ⟨f0, f1, f2, (c : Int), false⟩, vC I n width s R k j⟩) (k := c) (HK.out _ hb).2.2.1 hc4 rfl
          rw [← HH.out, e7] at this
          exact this)
        have hFc : FB ≠ cb := by omega
        clear HH HL1 HF e7
        generalize vC I n width s R k j = V at *
        go_region_held3 (fun W => W.cell? ⟨FB, 0, none⟩ = some (.int .i64 f0) ∧ W.cell? ⟨FB, 1, none⟩ = some (.int .i64 f1) ∧ W.cell? ⟨FB, 2, none⟩ = some (.int .i64 f2) ∧ W.cell? ⟨FB, 3, none⟩ = some (.int .i64 (c : Int)) ∧ W.cell? ⟨FB, 4, none⟩ = some (.bool false) ∧ W.cell? ⟨AB, 0, none⟩ = some (.int .i64 (-1)) ∧ W.cell? ⟨AB, 1, none⟩ = some (.bool fl))
          (first | with_reducible exact HY.out _ (HK.out _ HBD.out).1 (HK.out _ HBD.out).2.1 | with_reducible exact HY.out _ (HK.out _ HB5.out).1 (HK.out _ HB5.out).2.1 | with_reducible exact HXf.out)
          (first
            | (go_at_call 48; with_reducible refine (HCO.out _ HBD.out).mono ?_; rintro e' w5 ⟨rfl, hb5⟩; have HB5 := boxed (below_step HBD.out (Nat.le_refl _) hb5); clear hb5)
            | (go_at_call 57; with_reducible refine (HTK.out _ HB5.out).mono ?_; rintro e' w6 ⟨rfl, hc6, hO6⟩; have HC6 := boxed hc6; have HA6 := boxed ((hO6.block AB (heap_lt (HK.out _ HB5.out).2.1) hAc).trans (HK.out _ HB5.out).2.1); have HXf := boxed (HY.out w6 ((hO6.block FB (heap_lt (HK.out _ HB5.out).1) hFc).trans (HK.out _ HB5.out).1) HA6.out); have HO6 := boxed ((HK.out _ HB5.out).2.2.2.trans hO6); clear hc6 hO6))
        go_wp2_with fail
        go_roundw
        case rel => exact ⟨j + 1, by omega, by omega, by go_num, boxed ⟨HC6.out, HA6.out, HO6.out⟩⟩
        case measure => simp [intOf]; omega
    · obtain rfl : j = bd := by omega
      have t1 : decide ((j : Int) < (j : Int)) = false := by simp
      clear hcr' har hOr hPr hSr hRr
      go_wp2_with fail
      rw [jumps_normal]
      refine bodyPost_end (results_none rfl _ _ _) rfl ?_
      exact ⟨rfl, ⟨j, ⟨hj1, Nat.le_refl _, .inl rfl⟩, HR.out.1⟩, HR.out.2.2⟩
end
end Go.Proofs.YtkmeeblkckfepabGreat
