/-
  What the program's Build answers: the first fault, or the items of the text.
-/
import Derived.Test.YteckbkcngkppmaaJp
namespace Go.Proofs.Yteckbkcngkppmaa
open Go.RowKit
set_option linter.unusedSimpArgs false
set_option linter.unusedVariables false

/-- A place between runes is where one begins, or the end. -/
theorem btw_it (t : ByteArray) (N : Nat) (hN : Right t N) (a : Int) (h : btw t N a = true) : ∃ K, K ≤ N ∧ (it t K : Int) = a := by
  unfold btw at h
  simp only [Bool.or_eq_true, decide_eq_true_eq, beq_iff_eq] at h
  rcases h with ⟨j, hj, e⟩ | e
  · exact ⟨j, by omega, e⟩
  · exact ⟨N, Nat.le_refl _, by rw [hN.2]; exact e.symm⟩
theorem it_lt_iff (t : ByteArray) (N : Nat) (hN : Right t N) (j k : Nat) (hj : j ≤ N) (hk : k ≤ N) : it t j < it t k ↔ j < k := by
  constructor
  · intro h
    by_cases c : j < k
    · exact c
    · by_cases d : j = k
      · subst d; omega
      · have := it_mono t N hN.1.1 k j (by omega) hj; omega
  · intro h; exact it_mono t N hN.1.1 j k h hk
theorem it_inj (t : ByteArray) (N : Nat) (hN : Right t N) (j k : Nat) (hj : j ≤ N) (hk : k ≤ N) (h : it t j = it t k) : j = k := by
  rcases Nat.lt_trichotomy j k with c | c | c
  · have := it_mono t N hN.1.1 j k c hk; omega
  · exact c
  · have := it_mono t N hN.1.1 k j c hj; omega

theorem BS.at {w0 : Bse} {tb bb : Nat} {w : World} {L : List Itm} {a : Nat} {sy : Int} (h : BS w0 tb bb w L a sy) : w.cell? ⟨bb, 2, none⟩ = some (.int .i64 (a : Nat)) := by
  obtain ⟨_, v, hblk, _⟩ := h
  exact row_cell hblk 2
theorem BS.list {w0 : Bse} {tb bb : Nat} {w : World} {L : List Itm} {a : Nat} {sy : Int} (h : BS w0 tb bb w L a sy) : ∃ ao cap, w.cell? ⟨bb, 1, none⟩ = some (.slice ao L.length cap) ∧ w.ownsRow w0.w.heap.size 40 9 (.slice ao L.length cap) L.length (ics L) := by
  obtain ⟨_, v, hblk, hown⟩ := h
  obtain ⟨ao, cap, rfl⟩ := own_shape hown
  exact ⟨ao, cap, row_cell hblk 1, hown⟩
/-- The place that is reached. -/
def atOf (w : World) (bb : Nat) : Nat := match w.cell? ⟨bb, 2, none⟩ with
  | some v => (intOf v).toNat
  | none => 0
theorem atOf_bs {w0 : Bse} {tb bb : Nat} {w : World} {L : List Itm} {a : Nat} {sy : Int} (h : BS w0 tb bb w L a sy) : atOf w bb = a := by
  unfold atOf
  rw [h.at]
  simp [intOf]
theorem bs_start {w : World} {tb : Nat} : BS ⟨w, 0, none⟩ tb w.heap.size (w.alloc (.cells #[.pointer (some ⟨tb, 0, none⟩), .slice none 0 0, .int .i64 0, .int .i64 0] 59)) [] 0 0 :=
  ⟨⟨Nat.le_refl _, (Below.refl _ _).alloc (Nat.le_refl _) _, fun p hp => by cases hp⟩, .slice none 0 0, heap_alloc_new _ _, World.ownsRow_nil _ _ _ _⟩

theorem BS.to {w1 : World} {r0 : Nat} {p0 : Option (Value × Value)} {tb bb : Nat} {w : World} {L : List Itm} {a : Nat} {sy : Int} (h : BS ⟨w1, r0, p0⟩ tb bb w L a sy) (rb : Nat) (ro : Option (Value × Value)) (hk : Bse.kr ⟨w1, rb, ro⟩ w) : BS ⟨w1, rb, ro⟩ tb bb w L a sy := by
  obtain ⟨⟨b1, b2, _⟩, v, hblk, hown⟩ := h
  exact ⟨⟨b1, b2, hk⟩, v, hblk, hown⟩
theorem BS.drop {w1 : World} {r0 : Nat} {p0 : Option (Value × Value)} {tb bb : Nat} {w : World} {L : List Itm} {a : Nat} {sy : Int} (h : BS ⟨w1, r0, p0⟩ tb bb w L a sy) : BS ⟨w1, 0, none⟩ tb bb w L a sy := h.to 0 none (fun p hp => by cases hp)
theorem BS.run {w1 : World} {rb : Nat} {l y : Value} {tb bb : Nat} {w : World} {L : List Itm} {a : Nat} {sy : Int} (h : BS ⟨w1, rb, some (l, y)⟩ tb bb w L a sy) : w.cell? ⟨rb, 1, none⟩ = some y := row_cell (h.1.2.2 (l, y) rfl) 1

set_option maxRecDepth 100000 in
set_option maxHeartbeats 4000000 in
theorem build_any {B : Nat} {w : World} {tb n : Nat} {G : Nat → Sty} (hT : TabAt B w tb n G) (hg : ∀ i, i < n → flt (G i) = 0) (t : ByteArray) (N : Nat) (hN : Cnt t N) (hs : t.size ≤ 65536) (ao : Option Addr) (m cap : Nat) (Ln Ys : Nat → Int) (hr : RunsAt w ao m Ln Ys) (hm : m ≤ maxLen) :
    Calls Try.prog 11 #[.pointer (some ⟨tb, 0, none⟩), .string t, .slice ao m cap] w fun e w' =>
      ((ck t N n m Ln Ys ≠ 0 ∧ e = .returned (.tuple #[.slice none 0 0, .int .i64 (ck t N n m Ln Ys)])) ∨
       (ck t N n m Ln Ys = 0 ∧ ∃ ao' cap', e = .returned (.tuple #[.slice ao' (fin G n t (fun a => sta Ln Ys m 0 (a : Nat)) N).length cap', .int .i64 0]) ∧ w'.ownsRow w.heap.size 40 9 (.slice ao' (fin G n t (fun a => sta Ln Ys m 0 (a : Nat)) N).length cap') (fin G n t (fun a => sta Ln Ys m 0 (a : Nat)) N).length (ics (fin G n t (fun a => sta Ln Ys m 0 (a : Nat)) N)))) ∧ Below w.heap.size w w' := by
  have hck := check7_any hT t N hN (by omega) ao m cap Ln Ys hr hm
  by_cases hz : ck t N n m Ln Ys = 0
  rotate_left
  · have HZ := boxed hz
    have tz : (ck t N n m Ln Ys != 0) = true := by simpa using hz
    clear hz
    generalize ck t N n m Ln Ys = C at *
    generalize fin G n t (fun a => sta Ln Ys m 0 (a : Nat)) N = FL at *
    clear hT hr hN
    go_enter Try.func11, Try.ntmps11
    go_wp2_with fail
    refine hck.mono ?_
    rintro e w1 ⟨rfl, hb1⟩
    have HB1 := boxed hb1
    clear hb1 hck
    go_wp2
    go_ret2
    exact ⟨Or.inl ⟨HZ.out, rfl⟩, HB1.out⟩
  have hbad : badAt t N < 0 := by
    by_cases c : badAt t N < 0
    · exact c
    · unfold ck at hz; rw [if_neg c] at hz; omega
  have hR := right_of t N hN hbad
  have h0 : 0 < t.size := by
    by_cases c : t.size = 0
    · unfold ck at hz; rw [if_pos hbad, if_pos (Or.inl c)] at hz; omega
    · omega
  have hcrs : crs t N n Ln Ys m = 0 ∧ pre Ln m = (t.size : Int) := by
    unfold ck at hz
    rw [if_pos hbad] at hz
    split at hz
    · omega
    · split at hz
      · split at hz
        · rename_i c1 c2 c3; exact ⟨c2, c3⟩
        · omega
      · rename_i c1 c2; exact absurd hz c2
  rw [hz] at hck ⊢
  have HR := boxed hr
  have HRT := boxed hR
  have HCR := boxed hcrs.1
  have HPM := boxed hcrs.2
  have HT := boxed hT
  have HG := boxed hg
  have hms : t.size ≤ maxLen := by unfold maxLen; omega
  have HY : Box (∀ i a, i < m → pre Ln i ≤ a → a < pre Ln (i + 1) → sta Ln Ys m 0 a = Ys i) := boxed (fun i a hi h1 h2 => by
    have hn : ∀ j, j < m → 0 ≤ Ln j := fun j hj => (cr_zero (crs_each t N n Ln Ys m hcrs.1 j hj)).1
    have := sta_at Ln Ys m i a hn hi h1 h2 0 (by omega)
    simpa [pre] using this)
  obtain ⟨Y, hY⟩ : ∃ Y : Nat → Int, (fun a : Nat => sta Ln Ys m 0 (a : Nat)) = Y := ⟨_, rfl⟩
  rw [hY]
  have HYY : Box (∀ a : Nat, Y a = sta Ln Ys m 0 (a : Nat)) := boxed (fun a => by rw [← hY])
  clear hY
  clear hT hr hcrs hz hbad hN hR hg
  go_enter Try.func11, Try.ntmps11
  go_wp2_with fail
  refine hck.mono ?_
  rintro e w1 ⟨rfl, hb1⟩
  have HB1 := boxed hb1
  clear hb1 hck
  go_wp2
  have hNs : N ≤ t.size := by have h1 := cnt_le t N HRT.out.1; have h2 := it_le t N; omega
  have HT1 := boxed (HT.out.below HB1.out)
  have HF : Box (∀ (W : World) L a sy, BS ⟨w1, 0, none⟩ tb w1.heap.size W L a sy → L = fin G n t Y N → ∃ ao' cap', W.cell? ⟨w1.heap.size, 1, none⟩ = some (.slice ao' (fin G n t Y N).length cap') ∧ W.ownsRow w.heap.size 40 9 (.slice ao' (fin G n t Y N).length cap') (fin G n t Y N).length (ics (fin G n t Y N)) ∧ Below w.heap.size w W) := boxed (by
    intro W L a sy h e
    subst e
    obtain ⟨ao', cap', h1, h2⟩ := h.list
    refine ⟨ao', cap', h1, ?_, below_step HB1.out (Nat.le_refl _) h.bel⟩
    refine ⟨h2.1, ?_⟩
    rcases h2.2 with h3 | ⟨g, cp, cur, e1, e2, e3⟩
    · exact .inl h3
    · exact .inr ⟨g, cp, cur, e1, Nat.le_trans HB1.out.size e2, e3⟩)
  generalize hbb : w1.heap.size = bb at *
  replace hbb := boxed hbb
  go_loopw [11, 12, 13, 14, 26] (fun _ _ _ _ i wr => ∃ k j : Nat, k ≤ m ∧ i = .int .i64 (k : Int) ∧ j ≤ N ∧ Box ((it t j : Int) = pre Ln k) ∧ Box (BS ⟨w1, 0, none⟩ tb bb wr (bs G n t Y j).1 (it t j) (bs G n t Y j).2)) (fun _ _ _ _ i _ => m - (intOf i).toNat)
  case atStart => exact ⟨0, 0, Nat.zero_le _, rfl, Nat.zero_le _, boxed (by simp [it, pre]), boxed (by rw [← hbb.out]; exact bs_start)⟩
  case round =>
    obtain ⟨k, j, hk, rfl, hj, HJ, HBS⟩ := hrel
    unfold maxLen at hm
    have hle := it_le t j
    by_cases hlt : k < m
    · obtain ⟨-, b, off, e, c0, c1⟩ := (HR.out.below (below_step HB1.out (Nat.le_refl _) HBS.out.bel)) k hlt
      subst e
      have q5 : b < wr.heap.size := World.block_lt_of_cell? wr _ c0
      have q6 : b ≠ wr.heap.size := by omega
      have q7 : bb < wr.heap.size := HBS.out.len
      have q8 : bb ≠ wr.heap.size := by omega
      have hz := cr_zero (crs_each t N n Ln Ys m HCR.out k hlt)
      obtain ⟨K, hK, hKe⟩ := btw_it t N HRT.out _ hz.2.2.2
      have t3 : decide ((k : Int) < (m : Int)) = true := decide_eq_true (by omega)
      have cA := HBS.out.at
      have HYk : Box (∀ i, j ≤ i → i < K → Y (it t i) = Ys k) := boxed (fun i h1 h2 => by
        rw [HYY.out]
        refine HY.out k _ hlt ?_ ?_
        · rw [← HJ.out]
          by_cases d : j = i
          · subst d; exact Int.le_refl _
          · have := it_mono t N HRT.out.1.1 j i (by omega) (by omega); omega
        · rw [← hKe]
          have := it_mono t N HRT.out.1.1 i K h2 hK; omega)
      have hKl := it_le t K
      have hend : (it t j : Int) + Ln k = (it t K : Nat) := by rw [hKe, HJ.out]; rfl
      have hjK : j ≤ K := by
        by_cases c : j ≤ K
        · exact c
        · have := it_mono t N HRT.out.1.1 K j (by omega) hj; omega
      have HKE := boxed hKe
      clear hz hKe
      generalize Ln k = l at *
      generalize Ys k = y at *
      obtain ⟨Aj, hAj⟩ : ∃ Aj, it t j = Aj := ⟨_, rfl⟩
      obtain ⟨AK, hAK⟩ : ∃ AK, it t K = AK := ⟨_, rfl⟩
      rw [hAj] at cA hend hle
      rw [hAK] at hend hKl
      have HAJ := boxed hAj
      have HAK := boxed hAK
      clear hAj hAK
      go_wp2_with fail
      have HBS0 : Box (BS ⟨w1, wr.heap.size, some (.int .i64 l, .int .i64 y)⟩ tb bb (wr.alloc (.cells #[.int .i64 l, .int .i64 y] 49)) (bs G n t Y j).1 (it t j) (bs G n t Y j).2) := boxed ((HBS.out.below ((Below.refl _ _).alloc (Nat.le_refl _) _)).to _ _ (fun p hp => by
        injection hp with hp
        subst hp
        exact heap_alloc_new _ _))
      generalize hrb : wr.heap.size = rb at *
      generalize wr.alloc (.cells #[.int .i64 l, .int .i64 y] 49) = wa at *
      replace hrb := boxed hrb
      clear c0 c1 cA
      have HTK := boxed (fun w' L a sy (h : BS ⟨w1, rb, some (.int .i64 l, .int .i64 y)⟩ tb bb w' L a sy) r size hr ha hsz ha2 hL => take_any (w0 := ⟨w1, rb, some (.int .i64 l, .int .i64 y)⟩) HT1.out HG.out h r size y hr ha hsz ha2 hL)
      go_hide hQ
      go_loopw [13, 14] (fun _ _ ws => ∃ i : Nat, (j ≤ i ∧ i ≤ K) ∧ Box (BS ⟨w1, rb, some (.int .i64 l, .int .i64 y)⟩ tb bb ws (bs G n t Y i).1 (it t i) (bs G n t Y i).2)) (fun _ _ ws => t.size - atOf ws bb)
      case atStart => exact ⟨j, ⟨Nat.le_refl _, hjK⟩, HBS0⟩
      case round =>
        obtain ⟨ws, rfl⟩ : ∃ ws : World, ws = wr := ⟨_, rfl⟩
        obtain ⟨i, hi, HBi⟩ := hrel
        have cA := HBi.out.at
        have cR := HBi.out.run
        have hAi := it_le t i
        have HAT := boxed (atOf_bs HBi.out)
        by_cases hiK : i < K
        · have hp := HRT.out.1.1 i (by omega)
          have hd := dc_le t (it t i) hAi
          have hfi := fun w => Rd.first_any (t.extract (it t i) t.size) w (by rw [ext_size t _ t.size (Nat.le_refl _)]; omega)
          rw [dc_tail] at hfi
          simp only [Nat.add_zero] at hfi
          have hlt2 := it_mono t N HRT.out.1.1 i K hiK hK
          rw [HAK.out] at hlt2
          have hnx : it t (i + 1) = it t i + (dc t (it t i)).2 := rfl
          have hln := bs_len G n t Y i
          have HST : Box (bs G n t Y (i + 1) = nx (ofS G n y) (bs G n t Y i).1 (bs G n t Y i).2 ((dc t (it t i)).1 : Nat) y (it t i : Nat) (it t i + (dc t (it t i)).2 : Nat)) := boxed (by
            show nx (ofS G n (Y (it t i))) _ _ _ _ _ _ = _
            rw [HYk.out i hi.1 hiK]
            rfl)
          have htk := HTK.out ws _ _ _ HBi.out (dc t (it t i)).1 (dc t (it t i)).2 hd.2.2 (by omega) (by omega) (by omega) (by omega)
          rw [← HST.out, ← hnx] at htk
          have HNX : Box (it t i < it t (i + 1) ∧ it t i < t.size) := boxed ⟨by omega, by omega⟩
          have t4 : decide ((it t i : Int) < (AK : Int)) = true := decide_eq_true (by omega)
          have t4' : decide (it t i < AK) = true := decide_eq_true (by omega)
          have hlI : (it t i : Int) ≤ (t.size : Int) := by omega
          clear hnx HST hln hd
          generalize dc t (it t i) = D at *
          obtain ⟨r, sz⟩ := D
          simp only at *
          generalize hA : it t i = A at *
          replace hA := boxed hA
          go_wp2_with fail
          refine (hfi _).mono ?_
          rintro e w' ⟨rfl, hw'⟩; subst w'
          go_wp2_with fail
          refine htk.mono ?_
          rintro e w5 ⟨rfl, hb5⟩
          have HB5 := boxed hb5
          clear hb5 htk hfi
          go_wp2
          go_roundw
          case rel => exact ⟨i + 1, ⟨by omega, by omega⟩, HB5⟩
          case measure =>
            rw [atOf_bs HB5.out, HAT.out]
            have := HNX.out
            omega
        · obtain rfl : i = K := by omega
          have t4 : decide ((it t i : Int) < (AK : Int)) = false := decide_eq_false (by rw [HAK.out]; omega)
          have t4' : decide (it t i < AK) = false := decide_eq_false (by rw [HAK.out]; omega)
          have HD := boxed HBi.out.drop
          generalize hA : it t i = A at *
          replace hA := boxed hA
          go_wp2
          subst hQ
          go_wp2
          go_roundw
          case rel => exact ⟨k + 1, i, by omega, by go_num, hK, boxed (by rw [hA.out]; exact HKE.out), boxed (by rw [hA.out]; exact HD.out)⟩
          case measure => simp [intOf]; omega
    · have e : k = m := by omega
      subst e
      have hjs : it t j = t.size := by have h1 := HJ.out; have h2 := HPM.out; rw [h2] at h1; omega
      have hjN : j = N := it_inj t N HRT.out j N hj (Nat.le_refl _) (by rw [hjs, HRT.out.2])
      obtain ⟨q, hq⟩ : ∃ q, t.size - 1 = q := ⟨_, rfl⟩
      have hx := idx t q (by omega)
      have eq1 : (t.size : Int) - 1 = (q : Nat) := by omega
      have hqI : (q : Int) < (t.size : Int) := by omega
      have hqN : q < t.size := by omega
      have hbl := bt_lt t q hqN
      rw [hjN, HRT.out.2] at HBS
      have hln := bs_len G n t Y N
      have t3 : decide ((k : Int) < (k : Int)) = false := decide_eq_false (by omega)
      by_cases g : bt t q = 10
      · have HFI : Box ((bs G n t Y N).1 = fin G n t Y N) := boxed (by unfold fin; rw [hq, if_pos g])
        obtain ⟨ao', cap', cL, ho, hb⟩ := HF.out _ _ _ _ HBS.out HFI.out
        obtain ⟨FL, hFL⟩ : ∃ FL, fin G n t Y N = FL := ⟨_, rfl⟩
        rw [hFL] at cL ho
        have HFL := boxed hFL
        have HOW := boxed ho
        have HBW := boxed hb
        rw [g] at hx
        clear hFL
        clear ho hb g hbl hln hjs hjN
        go_wp2
        refine bodyPost_ret (v := .tuple #[.slice ao' FL.length cap', .int .i64 0]) (by simp [results, Try.results11, go_sem]) rfl ?_
        exact ⟨Or.inr ⟨by simp, ao', cap', by rw [HFL.out], by rw [HFL.out]; exact HOW.out⟩, HBW.out⟩
      · have HEN := boxed (end7_any HBS.out 0 (by omega) (by omega) (by omega))
        have HFI : Box ((bs G n t Y N).1 ++ [flI (t.size : Nat), pnI 0 (-10000) false (t.size : Nat) (t.size + 0 : Nat)] = fin G n t Y N) := boxed (by unfold fin; rw [hq, if_neg g]; rfl)
        rw [HFI.out] at HEN
        have tg : ((bt t q : Int) != 10) = true := by simp; omega
        generalize bt t q = X at *
        clear g hln hjs hjN hbl
        go_wp2_with fail
        refine HEN.out.mono ?_
        rintro e w5 ⟨rfl, hb5⟩
        obtain ⟨ao', cap', cL, ho, hb⟩ := HF.out _ _ _ _ hb5 rfl
        obtain ⟨FL, hFL⟩ : ∃ FL, fin G n t Y N = FL := ⟨_, rfl⟩
        rw [hFL] at cL ho
        have HFL := boxed hFL
        have HOW := boxed ho
        have HBW := boxed hb
        clear hFL
        clear ho hb hb5 HEN
        go_wp2
        refine bodyPost_ret (v := .tuple #[.slice ao' FL.length cap', .int .i64 0]) (by simp [results, Try.results11, go_sem]) rfl ?_
        exact ⟨Or.inr ⟨by simp, ao', cap', by rw [HFL.out], by rw [HFL.out]; exact HOW.out⟩, HBW.out⟩
end Go.Proofs.Yteckbkcngkppmaa
