/-
  What the search's method hopeless does.
-/
import Derived.Test.YtkmeeblkckfepabGreatFl
namespace Go.Proofs.YtkmeeblkckfepabGreat
open Go.RowKit
set_option linter.unusedSimpArgs false
set_option linter.unusedVariables false

/-- The number in a cell. -/
def rdI (sb off : Nat) (W : World) : Nat := match W.cell? ⟨sb, off, none⟩ with | some (.int _ n) => n.toNat | _ => 0
theorem rdI_eq {sb off : Nat} {W : World} {k : IntKind} {n : Int} (h : W.cell? ⟨sb, off, none⟩ = some (.int k n)) : rdI sb off W = n.toNat := by unfold rdI; rw [h]
/-- The cheapest hopeless line is taken. -/
def hop (C : Nat → Ln) : List (Nat × Int) → Nat → Ln
  | [] => C
  | x :: _ => tkC C ⟨x.1, wF, x.2⟩ 3
/-- The lines that end ahead of a break. -/
def dr (nr : Nat) (L : List (Nat × Int)) : List (Nat × Int) := L.dropWhile (fun x => decide ((nr : Int) ≤ (x.1 : Int)))
def sel (b : Bool) (A B : List (Nat × Int)) : List (Nat × Int) := if b = true then A else B
section
variable {w : World} {B sb pb rb rc n cb : Nat} {I : Nat → Itm} {width : Int} {s : Stg} {bound near : Int} {v1 v2 : Value} {L1 L2 : List (Nat × Int)} {C : Nat → Ln}
/-- The least of a window is taken. -/
theorem hop_any (hc : w.heap[cb]? = some (.cells (chA C) 76 (0, 0))) (hC : (C 0).c ≤ Awf) (L : List (Nat × Int)) : ∀ x : Ln, (L = [] → x = ⟨0, ⟨0, 0, 0, 0, false⟩, Awf⟩) → (∀ y M, L = y :: M → x = ⟨y.1, wF, y.2⟩) →
    Calls Tryz.prog 57 #[.pointer (some ⟨cb, 0, none⟩), .agg x.cells.toArray] w fun e w' => e = .returned (.tuple #[]) ∧ w'.heap[cb]? = some (.cells (chA (hop C L)) 76 (0, 0)) ∧ Oth (fun b => b = cb) w w' := by
  intro x h0 h1
  cases L with
  | nil =>
    rw [h0 rfl]
    refine (take_any (k := 0) hc (by omega) rfl).mono ?_
    rintro e w' ⟨rfl, h2, h3⟩
    refine ⟨rfl, ?_, h3⟩
    rw [h2]
    have : tkC C ⟨0, ⟨0, 0, 0, 0, false⟩, Awf⟩ 0 = C := by unfold tkC; rw [if_neg (by show ¬ (Awf < (C 0).c); omega)]
    rw [this]
    rfl
  | cons y M =>
    rw [h1 y M rfl]
    exact take_any (k := 3) hc (by omega) rfl
/-- The least line of a window, or none. -/
theorem least_any {off : Nat} {v : Value} {L : List (Nat × Int)} (c : w.cell? ⟨sb, off, none⟩ = some v) (h : WinAt B w v L) (hl : L.length ≤ 262144) : Calls Tryz.prog 58 #[.pointer (some ⟨sb, off, none⟩)] w fun e w' => ∃ x : Ln, e = .returned (.agg x.cells.toArray) ∧ (L = [] → x = ⟨0, ⟨0, 0, 0, 0, false⟩, Awf⟩) ∧ (∀ y M, L = y :: M → x = ⟨y.1, wF, y.2⟩) ∧ Below w.heap.size w w' := by
  cases L with
  | nil =>
    refine (least_nil c h).mono ?_
    rintro e w' ⟨rfl, hb⟩
    exact ⟨⟨0, ⟨0, 0, 0, 0, false⟩, Awf⟩, rfl, fun _ => rfl, fun y M e => by (cases e), hb⟩
  | cons y M =>
    refine (least_cons y c h (by simp at hl; omega)).mono ?_
    rintro e w' ⟨rfl, hb⟩
    refine ⟨⟨y.1, wF, y.2⟩, rfl, fun e => by (cases e), fun y' M' e => ?_, hb⟩
    injection e with e1 e2
    rw [e1]
theorem dw_len (L : List (Nat × Int)) (p : Nat × Int → Bool) : (L.dropWhile p).length ≤ L.length := (List.dropWhile_sublist p).length_le
set_option maxRecDepth 100000 in
set_option maxHeartbeats 8000000 in
theorem hopeless_any (h : ParaAt (fun b => b < B) w pb n I) (hn : n ≤ 262144) (hok : ∀ i, i < n → okI I i = true) (hw : 1 ≤ width ∧ width ≤ 1073741824) (i nr bd : Nat) (k : Int) (hk : k + 1 = (i : Int)) (hi : i < nbk I n) (hss : SS B sb pb rb rc (nbk I n) width s w (bd : Int) (nr : Int) v1 v2 L1 L2) (hnr : forc (itb I n i) = true ∨ i + 1 ≤ nr) (hnm : nr ≤ nbk I n) (r : Int) (hr : w.cell? ⟨rb, i * 8 + 6, none⟩ = some (.int .i64 r)) (hl1 : L1.length ≤ 262143) (hl2 : L2.length ≤ 262143)
    (hc : w.heap[cb]? = some (.cells (chA C) 76 (0, 0))) (hC : (C 0).c ≤ Awf) (hcx : ¬ SX sb v1 v2 cb) (hcr : cb ≠ rb) (hcB : B ≤ cb) :
    Calls Tryz.prog 46 #[.pointer (some ⟨sb, 0, none⟩), .int .i64 k, .pointer (some ⟨cb, 0, none⟩)] w fun e' w' => e' = .returned (.tuple #[]) ∧ ∃ v1' v2' nr', (i ≤ nr' ∧ nr' ≤ (if forc (itb I n i) = true then i + 1 else nr) ∧ (nr' = i ∨ hpl I n width k ((nr' - 1 : Nat) : Int) = true)) ∧
      SS B sb pb rb rc (nbk I n) width s w' ((if forc (itb I n i) = true then i + 1 else bd : Nat) : Int) (nr' : Int) v1' v2' (dr nr' (ent s L1 (i, uC I n s false i r))) (dr nr' (ent s L2 (i, uC I n s true i r))) ∧
      w'.heap[cb]? = some (.cells (chA (hop C (sel (itb I n k).flag (dr nr' (ent s L2 (i, uC I n s true i r))) (dr nr' (ent s L1 (i, uC I n s false i r)))))) 76 (0, 0)) ∧ (∀ q, q < w.heap.size → SX sb v1' v2' q → SX sb v1 v2 q) ∧ Oth (fun q => SX sb v1 v2 q ∨ q = cb) w w' := by
  have hm : nbk I n ≤ 262144 := by unfold nbk; have := lgs_len I n n; omega
  have HE := enter_any h hn hss i hi r hr (by omega) (by omega)
  have hE1 : (ent s L1 (i, uC I n s false i r)).length ≤ 262144 := by
    unfold ent
    split
    · have := pk_le L1 (uC I n s false i r) L1.length
      rw [List.length_append, List.length_take, List.length_cons, List.length_nil]; omega
    · omega
  have hE2 : (ent s L2 (i, uC I n s true i r)).length ≤ 262144 := by
    unfold ent
    split
    · have := pk_le L2 (uC I n s true i r) L2.length
      rw [List.length_append, List.length_take, List.length_cons, List.length_nil]; omega
    · omega
  generalize ent s L1 (i, uC I n s false i r) = M1 at *
  generalize ent s L2 (i, uC I n s true i r) = M2 at *
  have HP : Box (∀ W, Below B w W → ParaAt (fun b => b < B) W pb n I) := boxed (fun W hb => h.keep (kp_lt hb))
  have HS0 := boxed hss
  have hcs := heap_lt hc
  -- the two bounds behind enter
  obtain ⟨nr0, hnr0⟩ : ∃ nr0, (if forc (itb I n i) = true then i + 1 else nr) = nr0 := ⟨_, rfl⟩
  obtain ⟨bd0, hbd0⟩ : ∃ bd0, (if forc (itb I n i) = true then i + 1 else bd) = bd0 := ⟨_, rfl⟩
  have en : (if forc (itb I n i) = true then (i : Int) + 1 else (nr : Int)) = (nr0 : Int) := by rw [← hnr0]; split <;> simp
  have eb : (if forc (itb I n i) = true then (i : Int) + 1 else (bd : Int)) = (bd0 : Int) := by rw [← hbd0]; split <;> simp
  rw [en, eb] at HE
  rw [hnr0, hbd0]
  have hi0 : i + 1 ≤ nr0 := by rw [← hnr0]; split <;> first | omega | (rcases hnr with h | h; exact absurd h (by assumption); exact h)
  have him : nr0 ≤ nbk I n := by rw [← hnr0]; split <;> omega
  clear hnr0 hbd0 en eb hnr h hr hss
  have HC0 := boxed hc
  have HCX := boxed hcx
  clear hc hcx
  go_enter Tryz.func46, Tryz.ntmps46
  go_wp2_with fail
  refine HE.mono ?_
  rintro e' w1 ⟨rfl, u1, u2, hS1, hx1, hO1⟩
  have HS1 := boxed hS1
  have HX1 := boxed hx1
  have HO1 := boxed hO1
  have HC1 : Box (w1.heap[cb]? = some (.cells (chA C) 76 (0, 0))) := boxed ((hO1.block cb hcs HCX.out).trans HC0.out)
  clear hS1 hx1 hO1 HE
  go_wp2_with fail
  go_loopw [] (fun wr => Box (∃ nr' : Nat, i ≤ nr' ∧ nr' ≤ nr0 ∧ SS B sb pb rb rc (nbk I n) width s wr (bd0 : Int) (nr' : Int) u1 u2 M1 M2 ∧ wr.heap[cb]? = some (.cells (chA C) 76 (0, 0)) ∧ Oth (SX sb v1 v2) w wr)) (fun wr => rdI sb 11 wr)
  case atStart => exact boxed ⟨nr0, by omega, Nat.le_refl _, HS1.out, HC1.out, HO1.out⟩
  case round =>
    obtain ⟨nr', g1, g2, hSr, hcr', hOr⟩ := hrel.out
    clear hrel
    obtain ⟨⟨c0, c1, c2, c9, c10, c11, c12, c13⟩, f10, f11⟩ := hSr.c
    have HSr := boxed hSr
    have HCr := boxed hcr'
    have HOr := boxed hOr
    clear hSr hcr' hOr
    have hPr := HP.out wr (SX_below HS0.out HOr.out)
    have hk1 : -1 ≤ k ∧ k ≤ 262144 := by omega
    by_cases hq : nr' = i
    · subst hq
      have t1 : decide ((nr' : Int) < (nr' : Int)) = false := by simp
      clear hPr
      have HSD := boxed (HSr.out.below (Below.refl _ _).drew)
      have HOD := boxed HOr.out.drew
      have HCD : Box (wr.drew.heap[cb]? = some (.cells (chA C) 76 (0, 0))) := HCr
      go_wp2_with fail
      go_region_with (first
        | (go_at_call 56; refine (leave1_any HSD.out hE1 ((nr' : Int))).mono ?_; rintro e' w3 ⟨rfl, y1, hS3, hx3, hO3⟩; have HS3 := boxed hS3; have HX3 := boxed (fun q (hq : q < w.heap.size) hx => HX1.out q hq (hx3 q hx)); have HO3 := boxed (HOD.out.trans2 hO3 HX1.out); have HC3 : Box (w3.heap[cb]? = some (.cells (chA C) 76 (0, 0))) := boxed ((hO3.block cb (heap_lt HCD.out) (fun hx => HCX.out (HX1.out cb hcs hx))).trans HCD.out); clear hS3 hx3 hO3))
      all_goals
        obtain ⟨⟨d0, -, -, -, -, d11, -, -⟩, -⟩ := HS3.out.c
        have HSE := boxed (HS3.out.below (Below.refl _ _).drew)
        have HOE := boxed HO3.out.drew
        have HCE : Box (w3.drew.heap[cb]? = some (.cells (chA C) 76 (0, 0))) := HC3
        go_wp2_with fail
        go_region_with (first
          | (go_at_call 56; refine (leave2_any HSE.out hE2 ((nr' : Int))).mono ?_; rintro e' w4 ⟨rfl, y2, hS4, hx4, hO4⟩; have HS4 := boxed hS4; have HX4 := boxed (fun q (hq : q < w.heap.size) hx => HX3.out q hq (hx4 q hx)); have HO4 := boxed (HOE.out.trans2 hO4 HX3.out); have HC4 : Box (w4.heap[cb]? = some (.cells (chA C) 76 (0, 0))) := boxed ((hO4.block cb (heap_lt HCE.out) (fun hx => HCX.out (HX3.out cb hcs hx))).trans HCE.out); clear hS4 hx4 hO4))
        all_goals
          have HIT := item9_any (sb := sb) (HP.out w4 (SX_below HS0.out HO4.out)) hn HS4.out.c.1.1 k
          unfold Itm.val at HIT
          obtain ⟨fl, HFL⟩ : ∃ fl, (itb I n k).flag = fl := ⟨_, rfl⟩
          rw [HFL] at HIT
          replace HFL := boxed HFL
          have hfi := fldI
          go_wp2_with fail
          refine HIT.mono ?_
          rintro e' w5 ⟨rfl, hb5⟩
          have HS5 := boxed (HS4.out.below hb5)
          have HO5 := boxed (HO4.out.trans (Oth.of hb5))
          have HC5 : Box (w5.heap[cb]? = some (.cells (chA C) 76 (0, 0))) := boxed ((hb5.block cb (heap_lt HC4.out)).trans HC4.out)
          clear hb5 HIT
          cases fl
          · go_wp2_with (first
              | (go_at_call 58; refine (least_any HS5.out.c.1.2.2.2.2.2.2.1 HS5.out.w1 (Nat.le_trans (dw_len _ _) hE1)).mono ?_; rintro e' w6 ⟨x6, rfl, h60, h61, hb6⟩; have HS6 := boxed (HS5.out.below hb6); have HO6 := boxed (HO5.out.trans (Oth.of hb6)); have HC6 : Box (w6.heap[cb]? = some (.cells (chA C) 76 (0, 0))) := boxed ((hb6.block cb (heap_lt HC5.out)).trans HC5.out); have H60 := boxed h60; have H61 := boxed h61; clear hb6 h60 h61)
              | (go_at_call 57; refine (hop_any HC6.out hC _ x6 H60.out H61.out).mono ?_; rintro e' w7 ⟨rfl, hc7, hO7⟩; have HC7 := boxed hc7; have HS7 := boxed (HS6.out.oth hO7 (fun q hq hx => by rw [hq] at hx; exact HCX.out (HX4.out cb hcs hx))); have HO7 : Box (Oth (fun q => SX sb v1 v2 q ∨ q = cb) w w7) := boxed ((HO6.out.mono (fun q _ hq => .inl hq)).trans (hO7.mono (fun q _ hq => .inr hq))); clear hc7 hO7))
            all_goals
              go_wp2_with fail
              refine bodyPost_end (results_none rfl _ _ _) rfl ?_
              exact ⟨rfl, y1, y2, nr', ⟨by omega, by omega, .inl rfl⟩, HS7.out, by rw [HFL.out]; exact HC7.out, HX4.out, HO7.out⟩
          · go_wp2_with (first
              | (go_at_call 58; refine (least_any HS5.out.c.1.2.2.2.2.2.2.2 HS5.out.w2 (Nat.le_trans (dw_len _ _) hE2)).mono ?_; rintro e' w6 ⟨x6, rfl, h60, h61, hb6⟩; have HS6 := boxed (HS5.out.below hb6); have HO6 := boxed (HO5.out.trans (Oth.of hb6)); have HC6 : Box (w6.heap[cb]? = some (.cells (chA C) 76 (0, 0))) := boxed ((hb6.block cb (heap_lt HC5.out)).trans HC5.out); have H60 := boxed h60; have H61 := boxed h61; clear hb6 h60 h61)
              | (go_at_call 57; refine (hop_any HC6.out hC _ x6 H60.out H61.out).mono ?_; rintro e' w7 ⟨rfl, hc7, hO7⟩; have HC7 := boxed hc7; have HS7 := boxed (HS6.out.oth hO7 (fun q hq hx => by rw [hq] at hx; exact HCX.out (HX4.out cb hcs hx))); have HO7 : Box (Oth (fun q => SX sb v1 v2 q ∨ q = cb) w w7) := boxed ((HO6.out.mono (fun q _ hq => .inl hq)).trans (hO7.mono (fun q _ hq => .inr hq))); clear hc7 hO7))
            all_goals
              go_wp2_with fail
              refine bodyPost_end (results_none rfl _ _ _) rfl ?_
              exact ⟨rfl, y1, y2, nr', ⟨by omega, by omega, .inl rfl⟩, HS7.out, by rw [HFL.out]; exact HC7.out, HX4.out, HO7.out⟩
    · obtain ⟨q, rfl⟩ : ∃ q, nr' = q + 1 := ⟨nr' - 1, by omega⟩
      have t1 : decide ((i : Int) < ((q : Int) + 1)) = true := decide_eq_true (by omega)
      have t2 : (i : Int) < ((q : Int) + 1) := by omega
      have hsh := short_any hPr hn hok c0 c1 k (q : Int)
      obtain ⟨hp, hhp⟩ : ∃ hp, hpl I n width k (q : Int) = hp := ⟨_, rfl⟩
      rw [hhp] at hsh
      have HHP := boxed hhp
      clear hhp hPr
      simp only [Int.natCast_add, Int.natCast_one] at c11
      go_wp2_with fail
      refine hsh.mono ?_
      rintro e' w2 ⟨rfl, hb2⟩
      have HS2 := boxed (HSr.out.below hb2)
      have HC2 : Box (w2.heap[cb]? = some (.cells (chA C) 76 (0, 0))) := boxed ((hb2.block cb (heap_lt HCr.out)).trans HCr.out)
      have HO2 := boxed (HOr.out.trans (Oth.of hb2))
      have HCL := boxed c11
      clear hb2 hsh c0 c1 c2 c9 c10 c11 c12 c13 f10 f11
      obtain ⟨⟨c0, c1, c2, c9, c10, c11, c12, c13⟩, f10, f11⟩ := HS2.out.c
      simp only [Int.natCast_add, Int.natCast_one] at c11
      cases hp
      · have HN : Box (∃ nr' : Nat, i ≤ nr' ∧ nr' ≤ nr0 ∧ SS B sb pb rb rc (nbk I n) width s (w2.setCell ⟨sb, 11, none⟩ (.int .i64 (q : Int))) (bd0 : Int) (nr' : Int) u1 u2 M1 M2 ∧ (w2.setCell ⟨sb, 11, none⟩ (.int .i64 (q : Int))).heap[cb]? = some (.cells (chA C) 76 (0, 0)) ∧ Oth (SX sb v1 v2) w (w2.setCell ⟨sb, 11, none⟩ (.int .i64 (q : Int)))) := boxed (by
          refine ⟨q, by omega, by omega, HS2.out.set _ (arr_set _ HS2.out.sr) (Oth.set (X := fun k => k = sb) (Oth.refl _ _) _ rfl), ?_, HO2.out.set _ (.inl rfl)⟩
          rw [Below.heap_setCell w2 ⟨sb, 11, none⟩ _ cb (fun e => HCX.out (.inl e))]
          exact HC2.out)
        have HM : Box (rdI sb 11 (w2.setCell ⟨sb, 11, none⟩ (.int .i64 (q : Int))) < rdI sb 11 wr) := boxed (by
          rw [rdI_eq (World.cell?_setCell_same w2 _ _ c11), rdI_eq HCL.out]; omega)
        have hq1 : -1 ≤ (q : Int) ∧ (q : Int) ≤ 262144 := by omega
        clear HS2 HC2 HO2 HSr HCr HOr
        go_wp2
        go_roundw
        case rel => exact HN
        case measure => exact HM.out
      · clear HSr HCr HOr
        have HSD := boxed (HS2.out.below (Below.refl _ _).drew)
        have HOD := boxed HO2.out.drew
        have HCD : Box (w2.drew.heap[cb]? = some (.cells (chA C) 76 (0, 0))) := HC2
        go_wp2_with fail
        go_region_with (first
          | (go_at_call 56; refine (leave1_any HSD.out hE1 ((q : Int) + 1)).mono ?_; rintro e' w3 ⟨rfl, y1, hS3, hx3, hO3⟩; have HS3 := boxed hS3; have HX3 := boxed (fun q (hq : q < w.heap.size) hx => HX1.out q hq (hx3 q hx)); have HO3 := boxed (HOD.out.trans2 hO3 HX1.out); have HC3 : Box (w3.heap[cb]? = some (.cells (chA C) 76 (0, 0))) := boxed ((hO3.block cb (heap_lt HCD.out) (fun hx => HCX.out (HX1.out cb hcs hx))).trans HCD.out); clear hS3 hx3 hO3))
        all_goals
          obtain ⟨⟨d0, -, -, -, -, d11, -, -⟩, -⟩ := HS3.out.c
          have HSE := boxed (HS3.out.below (Below.refl _ _).drew)
          have HOE := boxed HO3.out.drew
          have HCE : Box (w3.drew.heap[cb]? = some (.cells (chA C) 76 (0, 0))) := HC3
          simp only [Int.natCast_add, Int.natCast_one] at d11
          go_wp2_with fail
          go_region_with (first
            | (go_at_call 56; refine (leave2_any HSE.out hE2 ((q : Int) + 1)).mono ?_; rintro e' w4 ⟨rfl, y2, hS4, hx4, hO4⟩; have HS4 := boxed hS4; have HX4 := boxed (fun q (hq : q < w.heap.size) hx => HX3.out q hq (hx4 q hx)); have HO4 := boxed (HOE.out.trans2 hO4 HX3.out); have HC4 : Box (w4.heap[cb]? = some (.cells (chA C) 76 (0, 0))) := boxed ((hO4.block cb (heap_lt HCE.out) (fun hx => HCX.out (HX3.out cb hcs hx))).trans HCE.out); clear hS4 hx4 hO4))
          all_goals
            have HIT := item9_any (sb := sb) (HP.out w4 (SX_below HS0.out HO4.out)) hn HS4.out.c.1.1 k
            unfold Itm.val at HIT
            obtain ⟨fl, HFL⟩ : ∃ fl, (itb I n k).flag = fl := ⟨_, rfl⟩
            rw [HFL] at HIT
            replace HFL := boxed HFL
            have hfi := fldI
            go_wp2_with fail
            refine HIT.mono ?_
            rintro e' w5 ⟨rfl, hb5⟩
            have HS5 := boxed (HS4.out.below hb5)
            have HO5 := boxed (HO4.out.trans (Oth.of hb5))
            have HC5 : Box (w5.heap[cb]? = some (.cells (chA C) 76 (0, 0))) := boxed ((hb5.block cb (heap_lt HC4.out)).trans HC4.out)
            clear hb5 HIT
            cases fl
            · go_wp2_with (first
                | (go_at_call 58; refine (least_any HS5.out.c.1.2.2.2.2.2.2.1 HS5.out.w1 (Nat.le_trans (dw_len _ _) hE1)).mono ?_; rintro e' w6 ⟨x6, rfl, h60, h61, hb6⟩; have HS6 := boxed (HS5.out.below hb6); have HO6 := boxed (HO5.out.trans (Oth.of hb6)); have HC6 : Box (w6.heap[cb]? = some (.cells (chA C) 76 (0, 0))) := boxed ((hb6.block cb (heap_lt HC5.out)).trans HC5.out); have H60 := boxed h60; have H61 := boxed h61; clear hb6 h60 h61)
                | (go_at_call 57; refine (hop_any HC6.out hC _ x6 H60.out H61.out).mono ?_; rintro e' w7 ⟨rfl, hc7, hO7⟩; have HC7 := boxed hc7; have HS7 := boxed (HS6.out.oth hO7 (fun q hq hx => by rw [hq] at hx; exact HCX.out (HX4.out cb hcs hx))); have HO7 : Box (Oth (fun q => SX sb v1 v2 q ∨ q = cb) w w7) := boxed ((HO6.out.mono (fun q _ hq => .inl hq)).trans (hO7.mono (fun q _ hq => .inr hq))); clear hc7 hO7))
              all_goals
                go_wp2_with fail
                refine bodyPost_end (results_none rfl _ _ _) rfl ?_
                exact ⟨rfl, y1, y2, q + 1, ⟨by omega, by omega, .inr HHP.out⟩, HS7.out, by rw [HFL.out]; exact HC7.out, HX4.out, HO7.out⟩
            · go_wp2_with (first
                | (go_at_call 58; refine (least_any HS5.out.c.1.2.2.2.2.2.2.2 HS5.out.w2 (Nat.le_trans (dw_len _ _) hE2)).mono ?_; rintro e' w6 ⟨x6, rfl, h60, h61, hb6⟩; have HS6 := boxed (HS5.out.below hb6); have HO6 := boxed (HO5.out.trans (Oth.of hb6)); have HC6 : Box (w6.heap[cb]? = some (.cells (chA C) 76 (0, 0))) := boxed ((hb6.block cb (heap_lt HC5.out)).trans HC5.out); have H60 := boxed h60; have H61 := boxed h61; clear hb6 h60 h61)
                | (go_at_call 57; refine (hop_any HC6.out hC _ x6 H60.out H61.out).mono ?_; rintro e' w7 ⟨rfl, hc7, hO7⟩; have HC7 := boxed hc7; have HS7 := boxed (HS6.out.oth hO7 (fun q hq hx => by rw [hq] at hx; exact HCX.out (HX4.out cb hcs hx))); have HO7 : Box (Oth (fun q => SX sb v1 v2 q ∨ q = cb) w w7) := boxed ((HO6.out.mono (fun q _ hq => .inl hq)).trans (hO7.mono (fun q _ hq => .inr hq))); clear hc7 hO7))
              all_goals
                go_wp2_with fail
                refine bodyPost_end (results_none rfl _ _ _) rfl ?_
                exact ⟨rfl, y1, y2, q + 1, ⟨by omega, by omega, .inr HHP.out⟩, HS7.out, by rw [HFL.out]; exact HC7.out, HX4.out, HO7.out⟩
end
end Go.Proofs.YtkmeeblkckfepabGreat
