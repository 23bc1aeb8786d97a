/-
  What the program's readPattern answers: a pattern's letters and points, and its levels, in rows of its own.
-/
import Derived.Test.YtflhefgmgdgffaaDoorHyd
namespace Go.Proofs.YtflhefgmgdgffaaDoor
open Go.RowKit
set_option linter.unusedSimpArgs false
set_option linter.unusedVariables false

/-- What readPattern answers. -/
def RpP (s : ByteArray) (B : Nat) (e : Ending) (w' : World) : Prop :=
  (patT s = none ∧ ∃ v1 v2, e = .returned (.tuple #[v1, v2, .bool false])) ∨
  (∃ L V v1 v2, patT s = some (L, V) ∧ e = .returned (.tuple #[v1, v2, .bool true]) ∧ w'.ownsRow B 21 1 v1 L.length (rvals L) ∧ w'.ownsRow B 5 1 v2 V.length (bvals V))
def bdg (s : ByteArray) (k : Nat) : Bool := decide (k ≠ 0 ∧ dig ((rs s).getD (k - 1) 0) = true)
theorem pst_next {s : ByteArray} {k : Nat} (hk : k < nR s) {p : Pt} (h : pst (rs s) k = some p) :
    (dig (rn s k) = true → bdg s k = false → pst (rs s) (k + 1) = some ⟨p.L, p.V.set p.L.length (rn s k - 48), p.m⟩ ∧ bdg s (k + 1) = true) ∧
    (dig (rn s k) = true → bdg s k = true → pst (rs s) (k + 1) = none) ∧
    (rn s k = 46 → (k = 0 ∨ k + 1 = nR s) → pst (rs s) (k + 1) = some ⟨p.L ++ [rn s k], p.V ++ [0], p.m⟩ ∧ bdg s (k + 1) = false) ∧
    (rn s k = 46 → ¬ (k = 0 ∨ k + 1 = nR s) → pst (rs s) (k + 1) = none) ∧
    (dig (rn s k) = false → rn s k ≠ 46 → ltr (rn s k) = true → lowr (rn s k) = rn s k → pst (rs s) (k + 1) = some ⟨p.L ++ [rn s k], p.V ++ [0], true⟩ ∧ bdg s (k + 1) = false) ∧
    (dig (rn s k) = false → rn s k ≠ 46 → ¬ (ltr (rn s k) = true ∧ lowr (rn s k) = rn s k) → pst (rs s) (k + 1) = none) := by
  have e : pst (rs s) (k + 1) = pstep (rs s) k p := by
    have : pst (rs s) (k + 1) = (pst (rs s) k).bind (pstep (rs s) k) := rfl
    rw [this, h]; rfl
  have f : bdg s (k + 1) = dig (rn s k) := by
    unfold bdg; rw [Nat.add_sub_cancel, rs_get s k hk]; simp
  rw [e, f]
  unfold pstep
  rw [rs_get s k hk, rs_len]
  have h46 : rn s k = 46 → dig (rn s k) = false := fun c => by rw [c]; decide
  generalize rn s k = r at *
  refine ⟨fun h1 h2 => ?_, fun h1 h2 => ?_, fun h1 h2 => ?_, fun h1 h2 => ?_, fun h1 h2 h3 h4 => ?_, fun h1 h2 h3 => ?_⟩
  · exact ⟨by rw [if_pos h1, if_neg (of_decide_eq_false h2)], h1⟩
  · rw [if_pos h1, if_pos (of_decide_eq_true h2)]
  · exact ⟨by rw [if_neg (by rw [h46 h1]; simp), if_pos h1, if_pos h2], h46 h1⟩
  · rw [if_neg (by rw [h46 h1]; simp), if_pos h1, if_neg h2]
  · exact ⟨by rw [if_neg (by rw [h1]; simp), if_neg h2, if_pos ⟨h3, h4⟩], h1⟩
  · rw [if_neg (by rw [h1]; simp), if_neg h2, if_neg h3]
theorem pat_stop {s : ByteArray} {k : Nat} (hk : k ≤ nR s) (h : pst (rs s) k = none) : patT s = none := by
  unfold patT
  split
  · exact pat_none _ k (by rw [rs_len]; exact hk) h
  · rfl
theorem pat_end {s : ByteArray} (hf : fit s = true) {p : Pt} (h : pst (rs s) (nR s) = some p) : patT s = if p.m = true then some (p.L, p.V) else none := by
  unfold patT pat
  rw [if_pos hf, rs_len, h]; rfl
theorem dc_small (s : ByteArray) (a : Nat) (h : 0 < (dc s a).2) (h1 : (dc s a).1 < 128) : (dc s a).2 = 1 := by
  unfold dc at *
  generalize bt s a = b0 at *
  generalize bt s (a + 1) = b1 at *
  generalize bt s (a + 2) = b2 at *
  generalize bt s (a + 3) = b3 at *
  rcases dec_cases b0 b1 b2 b3 with ⟨q, e⟩ | ⟨q, e⟩ | ⟨q, e⟩ | ⟨q, e⟩ | e
  · rw [e]
  all_goals (rw [e] at h h1; simp only at h h1; omega)
/-- A rune of one byte stands at the beginning, or at the end, just if it is the first, or the last. -/
theorem edge_iff (s : ByteArray) (k : Nat) (hr : rt s = true) (hk : k < nR s) (h1 : rn s k < 128) : (it s k = 0 ↔ k = 0) ∧ (it s k + 1 = s.size ↔ k + 1 = nR s) := by
  have hc := nR_cnt s
  have hg := it_grow s (nR s) hc.1
  have hN := (rt_right hr).2
  have hp := hc.1 k hk
  have h2 := dc_small s (it s k) hp h1
  have e : it s (k + 1) = it s k + 1 := by show it s k + (dc s (it s k)).2 = _; rw [h2]
  constructor
  · constructor
    · intro c; have := hg k (by omega) 0 (by omega); simp [it] at this; omega
    · intro c; subst c; rfl
  · constructor
    · intro c
      have := hg (nR s) (Nat.le_refl _) (k + 1) (by omega)
      omega
    · intro c
      rw [← c] at hN
      omega
set_option maxRecDepth 100000 in
set_option maxHeartbeats 4000000 in
theorem readpattern_any (s : ByteArray) (w : World) (hs : s.size ≤ maxLen) :
    Calls Tryd.prog 30 #[.string s] w fun e w' => RpP s w.heap.size e w' ∧ Below w.heap.size w w' := by
  obtain ⟨i1, hi1, hy0, hy1, hy2⟩ := info_parts info_rune
  obtain ⟨i2, hi2, hz0, hz1, hz2⟩ := info_parts info_byte
  have hfi := fits_any s w hs
  cases hft : fit s with
  | false =>
    rw [hft] at hfi
    have HN := boxed (pat_unfit hft)
    clear hs hft
    go_enter Tryd.func30, Tryd.ntmps30
    go_wp2_with (go_at_call 41; refine hfi.mono ?_; rintro e w' ⟨rfl, hw'⟩; subst w')
    go_ret3
    exact ⟨.inl ⟨HN.out, _, _, rfl⟩, Below.refl _ _⟩
  | true =>
  rw [hft] at hfi
  have HE := boxed (fun p => pat_end (p := p) hft)
  have hz : s.size ≤ 256 := by unfold fit at hft; simp at hft; exact hft.1
  have hrt : rt s = true := by unfold fit at hft; simp at hft; exact hft.2
  have HR := boxed hrt
  have hnl := nR_le s
  clear hs hft hrt
  go_enter Tryd.func30, Tryd.ntmps30
  go_wp2_with (go_at_call 41; refine hfi.mono ?_; rintro e w' ⟨rfl, hw'⟩; subst w')
  clear hfi
  go_loopw [5, 6, 7, 8] (fun vl vv vn vf wr => ∃ (k : Nat) (p : Pt) (n : Nat) (g cp : Nat), k ≤ nR s ∧ Box (pst (rs s) k = some p) ∧ vf = .bool (bdg s k) ∧ vn = .int .i64 (n : Int) ∧ n ≤ k ∧ Box (p.m = decide (0 < n)) ∧ vv = .slice (some ⟨g, 0, none⟩) p.V.length cp ∧ Box (wr.ownsRow w.heap.size 21 1 vl p.L.length (rvals p.L)) ∧ Box (wr.ownsRow w.heap.size 5 1 (.slice (some ⟨g, 0, none⟩) p.V.length cp) p.V.length (bvals p.V)) ∧ Box (Itr w (w.heap.size + 1) s (it s k) wr)) (fun _ _ _ _ wr => s.size - wr.iterPos (w.heap.size + 1))
  case atStart =>
    have hI := itr_start (w.alloc (.cells #[.int .u8 0] 5)) s
    have hO : (w.alloc (.cells #[.int .u8 0] 5)).ownsRow w.heap.size 5 1 (.slice (some ⟨w.heap.size, 0, none⟩) 1 1) 1 [.int .u8 0] := World.ownsRow_lit w #[.int .u8 0] 1 (Nat.le_refl _) (by unfold maxLen; omega) (by simp)
    have e1 : (w.alloc (.cells #[.int .u8 0] 5)).heap.size = w.heap.size + 1 := by simp
    refine ⟨0, ⟨[], [0], false⟩, 0, w.heap.size, 1, Nat.zero_le _, boxed rfl, rfl, rfl, Nat.le_refl _, boxed rfl, rfl, boxed (World.ownsRow_nil _ _ _ _), boxed (owns_below hO (bel_iter _ s 0)), boxed ⟨?_, by omega, ?_⟩⟩
    · rw [← e1]; exact hI.itr
    · exact ((Below.refl _ _).alloc (Nat.le_refl _) _).trans (hI.bel.mono (by omega))
  case round =>
    obtain ⟨k, p, n, g, cp, hk, HW, rfl, rfl, hn, HM0, rfl, HL, HV, HI⟩ := hrel
    obtain ⟨hl1, hl2, hl9, -, -⟩ := pst_ok _ k p (by rw [rs_len]; exact hk) HW.out
    have hv1 : p.L.length < p.V.length := by omega
    have hv2 : p.V.length ≤ 257 := by omega
    clear hl9 hl1
    by_cases hlt : k < nR s
    · have hnx := fun ty => next_at s w (w.heap.size + 1) k wr HI.out hlt ty
      have hit := it_lt s k hlt
      have HX := boxed (pst_next hlt HW.out)
      have HED := boxed (edge_iff s k HR.out hlt)
      have hrr := rn_isR s k ((nR_cnt s).1 k hlt)
      have hrl := rn_le s k
      have hlow := fun W => lower_any (rn s k) hrl W
      have hlet := fun W => letter_any (rn s k) hrr W
      have hdig := fun W => digit_any (rn s k) hrl W
      have HI1 := boxed (HI.out.next (it s (k + 1)))
      have HL1 := boxed (own_iter (p' := it s (k + 1)) HL.out HI.out.itr)
      have HV1 := boxed (own_iter (p' := it s (k + 1)) HV.out HI.out.itr)
      have HM : Box (∀ W', Itr w (w.heap.size + 1) s (it s (k + 1)) W' → s.size - W'.iterPos (w.heap.size + 1) < s.size - wr.iterPos (w.heap.size + 1)) := boxed (fun W' h => by rw [h.pos, HI.out.pos]; omega)
      have hll := low_le _ hrl
      have hsz1 : (it s k : Int) < s.size := by omega
      generalize hW1 : wr.iterAt (w.heap.size + 1) s (it s (k + 1)) = W1 at *
      clear HW HI HL HV hW1 hrr hit
      have hsz := HI1.out.size
      have hlt1 := HI1.out.lt
      cases hD : dig (rn s k) with
      | true =>
        rw [hD] at hdig
        have hd2 := (dig_iff _).1 hD
        cases hB : bdg s k with
        | true =>
          have HN := boxed (pat_stop (by omega) (HX.out.2.1 hD hB))
          have t1 : ((rn s k : Int) == 46) = false := by rw [beq_eq_false_iff_ne]; omega
          rw [ltr_no _ (by omega)] at hlet
          clear HX hD hB HED
          generalize rn s k = r at *
          generalize it s k = A0 at *
          go_wp2_with (first | (go_at_call 45; refine (hdig _).mono ?_; rintro e w' ⟨rfl, hw'⟩; subst w') | (go_at_call 42; refine (hlet _).mono ?_; rintro e w' ⟨rfl, hw'⟩; subst w'))
          go_ret3
          exact ⟨.inl ⟨HN.out, _, _, rfl⟩, HI1.out.bel⟩
        | false =>
          obtain ⟨e1, e2⟩ := HX.out.1 hD hB
          have HW2 := boxed e1
          have HF2 := boxed e2
          obtain ⟨d, hd⟩ : ∃ d : Nat, rn s k = d + 48 := ⟨rn s k - 48, by omega⟩
          have hd9 : d ≤ 9 := by omega
          rw [hd, Nat.add_sub_cancel] at HW2
          have HLS := boxed (bvals_set p.V p.L.length d)
          have HST := boxed (HV1.out.stored p.L.length (.int .u8 (d : Int)))
          have hcl := HV1.out.cellAt p.L.length (by omega)
          have hfz := HV1.out.frozenAt p.L.length
          obtain ⟨vo, vc, hvo⟩ := own_shape HL1.out
          subst hvo
          have hcl2 : W1.cell? ⟨g, p.L.length, none⟩ = some (.int .u8 ((p.V.getD p.L.length 0 : Nat) : Int)) := by rw [hcl, bvals_get _ _ (by omega)]
          clear hcl HX hD hB HED hd2 e1 e2
          rw [hd] at hdig
          rw [hd] at hnx
          have hd3 : ((d + 48 : Nat) : Int) - 48 = (d : Int) := by omega
          have HMW := HM
          have HB0 := HM0
          have HL2 : Box ((W1.setCell ⟨g, p.L.length, none⟩ (.int .u8 (d : Int))).ownsRow w.heap.size 21 1 (.slice vo p.L.length vc) p.L.length (rvals p.L)) := boxed (own_beside HV1.out (by decide) HL1.out HST.out.2)
          have HV2 : Box ((W1.setCell ⟨g, p.L.length, none⟩ (.int .u8 (d : Int))).ownsRow w.heap.size 5 1 (.slice (some ⟨g, 0, none⟩) p.V.length cp) p.V.length (bvals (p.V.set p.L.length d))) := boxed (by rw [← HLS.out]; exact HST.out.1)
          have HI2 : Box (Itr w (w.heap.size + 1) s (it s (k + 1)) (W1.setCell ⟨g, p.L.length, none⟩ (.int .u8 (d : Int)))) := boxed (HI1.out.grown HV1.out HST.out.2)
          clear HST HLS HL1 HV1 hlow hlet hd
          generalize hvl : p.V.length = vl at *
          replace hvl := boxed hvl
          generalize hge : p.L.length = ll at *
          replace hge := boxed hge
          generalize p.V.getD ll 0 = u0 at *
          generalize it s k = A0 at *
          go_wp2_with (go_at_call 45; refine (hdig _).mono ?_; rintro e w' ⟨rfl, hw'⟩; subst w')
          go_roundw
          case rel =>
            refine ⟨k + 1, _, n, g, cp, by omega, HW2, by rw [HF2.out], rfl, by omega, HB0, ?_, boxed ?_, boxed ?_, HI2⟩
            · rw [List.length_set, hvl.out]
            · rw [hge.out]; exact HL2.out
            · simp only [List.length_set]; rw [hvl.out]; exact HV2.out
          case measure => exact HMW.out _ HI2.out
      | false =>
        rw [hD] at hdig
        -- what both that go on have in common
        have HAP : ∀ (r : Nat) (b : Bool) (m : Nat), Box (pst (rs s) (k + 1) = some ⟨p.L ++ [r], p.V ++ [0], b⟩) → True := fun _ _ _ _ => trivial
        clear HAP
        by_cases h46 : rn s k = 46
        · have t1 : ((rn s k : Int) == 46) = true := by rw [beq_iff_eq]; omega
          have hE := HED.out (by omega)
          by_cases hedge : k = 0 ∨ k + 1 = nR s
          · obtain ⟨e1, e2⟩ := HX.out.2.2.1 h46 hedge
            have HW2 := boxed e1
            have HF2 := boxed e2
            have t2 : ((it s k : Int) == 0) = true ∨ (((it s k : Int) == 0) = false ∧ ((it s k : Int) == (s.size : Int) - 1) = true) := by
              by_cases c : k = 0
              · exact .inl (by rw [beq_iff_eq]; have := hE.1.2 c; omega)
              · refine .inr ⟨by rw [beq_eq_false_iff_ne]; intro x; exact c (hE.1.1 (by omega)), ?_⟩
                have := hE.2.2 (by omega)
                rw [beq_iff_eq]; omega
            have HSL := boxed (rvals_snoc p.L (rn s k))
            have HSV := boxed (bvals_snoc p.V 0)
            clear HX HED hE hedge hD hlet hlow e1 e2 h46 hll
            generalize rn s k = r at *
            generalize it s k = A0 at *
            obtain ⟨vl, hvl⟩ : ∃ vl, p.V.length = vl := ⟨_, rfl⟩
            obtain ⟨ll, hge⟩ : ∃ ll, p.L.length = ll := ⟨_, rfl⟩
            rw [hvl] at HV1 hv1 hv2 ⊢
            rw [hge] at HL1 hl2 hv1
            replace hge := boxed hge
            replace hvl := boxed hvl
            rcases t2 with t2 | ⟨t2, t3⟩
            all_goals
              go_wp2_with (first | (go_at_call 45; refine (hdig _).mono ?_; rintro e w' ⟨rfl, hw'⟩; subst w') | (at_builtin; refine wpList_append_apart rfl _ _ 55 rfl w.heap.size 21 i1 (.int .i32 0) 1 4 Tryd.underlying55 hi1 hy0 hy1 hy2 rfl (by decide) _ _ _ rfl (HL1.out.alloc _) ⟨W1.heap.size, 0, none⟩ 1 1 [.int .i32 (r : Int)] rfl rfl (one_new W1 _ _) ?c2 ?c3 ?c4 ?c5 (by omega) ?_))
              case c2 => intro u hu; simp at hu; subst hu; rfl
              case c3 => unfold maxLen; omega
              case c4 => omega
              case c5 => simp; omega
              intro v' w2 hown2 hgrow2 _
              have HI2 := boxed ((HI1.out.alloc _).grown (HL1.out.alloc _) hgrow2)
              have HV2 := boxed (own_beside (HL1.out.alloc _) (by decide) (HV1.out.alloc _) hgrow2)
              rw [HSL.out] at hown2
              have HL2 : Box (w2.ownsRow w.heap.size 21 1 v' (p.L ++ [r]).length (rvals (p.L ++ [r]))) := boxed (by rw [List.length_append, hge.out]; exact hown2)
              have hsz2 := HI2.out.size
              clear hown2 hgrow2
              go_wp2_with (at_builtin; refine wpList_append_apart rfl _ _ 43 rfl w.heap.size 5 i2 (.int .u8 0) 1 1 Tryd.underlying43 hi2 hz0 hz1 hz2 rfl (by decide) _ _ _ rfl (HV2.out.alloc _) ⟨w2.heap.size, 0, none⟩ 1 1 [.int .u8 0] rfl rfl (one_new w2 _ _) ?c2 ?c3 ?c4 ?c5 (by omega) ?_)
              case c2 => intro u hu; simp at hu; subst hu; rfl
              case c3 => unfold maxLen; omega
              case c4 => omega
              case c5 => simp; omega
              intro v'' w3 hown3 hgrow3 _
              have HI3 := boxed ((HI2.out.alloc _).grown (HV2.out.alloc _) hgrow3)
              have HL3 := boxed (own_beside (HV2.out.alloc _) (by decide) (HL2.out.alloc _) hgrow3)
              rw [show ([.int .u8 0] : List Value) = [.int .u8 ((0 : Nat) : Int)] from rfl, HSV.out] at hown3
              have hown4 : w3.ownsRow w.heap.size 5 1 v'' (p.V ++ [0]).length (bvals (p.V ++ [0])) := by rw [List.length_append, hvl.out]; exact hown3
              rcases ownsRow_forms hown4 with ⟨-, h0⟩ | ⟨g3, cp3, rfl⟩
              · simp at h0
              have HV3 := boxed hown4
              clear hown3 hown4 hgrow3
              go_wp2
              go_roundw
              case rel => exact ⟨k + 1, _, n, g3, cp3, by omega, HW2, by rw [HF2.out], rfl, by omega, HM0, rfl, HL3, HV3, HI3⟩
              case measure => exact HM.out _ HI3.out
          · have HN := boxed (pat_stop (by omega) (HX.out.2.2.2.1 h46 hedge))
            have t2 : ((it s k : Int) == 0) = false := by rw [beq_eq_false_iff_ne]; intro x; exact hedge (.inl (hE.1.1 (by omega)))
            have t3 : ((it s k : Int) == (s.size : Int) - 1) = false := by rw [beq_eq_false_iff_ne]; intro x; exact hedge (.inr (hE.2.1 (by omega)))
            rw [ltr_no _ (by omega)] at hlet
            clear HX HED hE hedge hD hlow h46 hll
            generalize rn s k = r at *
            generalize it s k = A0 at *
            go_wp2_with (first | (go_at_call 45; refine (hdig _).mono ?_; rintro e w' ⟨rfl, hw'⟩; subst w') | (go_at_call 42; refine (hlet _).mono ?_; rintro e w' ⟨rfl, hw'⟩; subst w'))
            go_ret3
            exact ⟨.inl ⟨HN.out, _, _, rfl⟩, HI1.out.bel⟩
        · have t1 : ((rn s k : Int) == 46) = false := by rw [beq_eq_false_iff_ne]; omega
          by_cases hok : ltr (rn s k) = true ∧ lowr (rn s k) = rn s k
          · obtain ⟨e1, e2⟩ := HX.out.2.2.2.2.1 hD h46 hok.1 hok.2
            have HW2 := boxed e1
            have HF2 := boxed e2
            rw [hok.1] at hlet
            rw [hok.2] at hlow
            have HSL := boxed (rvals_snoc p.L (rn s k))
            have HSV := boxed (bvals_snoc p.V 0)
            have HM1 : Box (true = decide (0 < n + 1)) := boxed (by simp)
            clear HX HED hok hD e1 e2 h46 hll HM0
            generalize rn s k = r at *
            generalize it s k = A0 at *
            obtain ⟨vl, hvl⟩ : ∃ vl, p.V.length = vl := ⟨_, rfl⟩
            obtain ⟨ll, hge⟩ : ∃ ll, p.L.length = ll := ⟨_, rfl⟩
            rw [hvl] at HV1 hv1 hv2 ⊢
            rw [hge] at HL1 hl2 hv1
            replace hge := boxed hge
            replace hvl := boxed hvl
            go_wp2_with (first | (go_at_call 45; refine (hdig _).mono ?_; rintro e w' ⟨rfl, hw'⟩; subst w') | (go_at_call 42; refine (hlet _).mono ?_; rintro e w' ⟨rfl, hw'⟩; subst w') | (go_at_call 43; refine (hlow _).mono ?_; rintro e w' ⟨rfl, hw'⟩; subst w') | (at_builtin; refine wpList_append_apart rfl _ _ 55 rfl w.heap.size 21 i1 (.int .i32 0) 1 4 Tryd.underlying55 hi1 hy0 hy1 hy2 rfl (by decide) _ _ _ rfl (HL1.out.alloc _) ⟨W1.heap.size, 0, none⟩ 1 1 [.int .i32 (r : Int)] rfl rfl (one_new W1 _ _) ?c2 ?c3 ?c4 ?c5 (by omega) ?_))
            case c2 => intro u hu; simp at hu; subst hu; rfl
            case c3 => unfold maxLen; omega
            case c4 => omega
            case c5 => simp; omega
            intro v' w2 hown2 hgrow2 _
            have HI2 := boxed ((HI1.out.alloc _).grown (HL1.out.alloc _) hgrow2)
            have HV2 := boxed (own_beside (HL1.out.alloc _) (by decide) (HV1.out.alloc _) hgrow2)
            rw [HSL.out] at hown2
            have HL2 : Box (w2.ownsRow w.heap.size 21 1 v' (p.L ++ [r]).length (rvals (p.L ++ [r]))) := boxed (by rw [List.length_append, hge.out]; exact hown2)
            have hsz2 := HI2.out.size
            clear hown2 hgrow2
            go_wp2_with (at_builtin; refine wpList_append_apart rfl _ _ 43 rfl w.heap.size 5 i2 (.int .u8 0) 1 1 Tryd.underlying43 hi2 hz0 hz1 hz2 rfl (by decide) _ _ _ rfl (HV2.out.alloc _) ⟨w2.heap.size, 0, none⟩ 1 1 [.int .u8 0] rfl rfl (one_new w2 _ _) ?c2 ?c3 ?c4 ?c5 (by omega) ?_)
            case c2 => intro u hu; simp at hu; subst hu; rfl
            case c3 => unfold maxLen; omega
            case c4 => omega
            case c5 => simp; omega
            intro v'' w3 hown3 hgrow3 _
            have HI3 := boxed ((HI2.out.alloc _).grown (HV2.out.alloc _) hgrow3)
            have HL3 := boxed (own_beside (HV2.out.alloc _) (by decide) (HL2.out.alloc _) hgrow3)
            rw [show ([.int .u8 0] : List Value) = [.int .u8 ((0 : Nat) : Int)] from rfl, HSV.out] at hown3
            have hown4 : w3.ownsRow w.heap.size 5 1 v'' (p.V ++ [0]).length (bvals (p.V ++ [0])) := by rw [List.length_append, hvl.out]; exact hown3
            rcases ownsRow_forms hown4 with ⟨-, h0⟩ | ⟨g3, cp3, rfl⟩
            · simp at h0
            have HV3 := boxed hown4
            clear hown3 hown4 hgrow3
            go_wp2
            go_roundw
            case rel => exact ⟨k + 1, _, n + 1, g3, cp3, by omega, HW2, by rw [HF2.out], by go_num, by omega, HM1, rfl, HL3, HV3, HI3⟩
            case measure => exact HM.out _ HI3.out
          · have HN := boxed (pat_stop (by omega) (HX.out.2.2.2.2.2 hD h46 hok))
            have t2 : ltr (rn s k) = false ∨ (ltr (rn s k) = true ∧ ((lowr (rn s k) : Int) == (rn s k : Int)) = false) := by
              cases c : ltr (rn s k) with
              | false => exact .inl rfl
              | true => exact .inr ⟨rfl, by rw [beq_eq_false_iff_ne]; intro x; exact hok ⟨c, by omega⟩⟩
            clear HX HED hok hD h46
            generalize rn s k = r at *
            generalize lowr r = l at *
            generalize it s k = A0 at *
            rcases t2 with t2 | ⟨t2, t3⟩
            all_goals
              rw [t2] at hlet
              clear t2
              go_wp2_with (first | (go_at_call 45; refine (hdig _).mono ?_; rintro e w' ⟨rfl, hw'⟩; subst w') | (go_at_call 42; refine (hlet _).mono ?_; rintro e w' ⟨rfl, hw'⟩; subst w') | (go_at_call 43; refine (hlow _).mono ?_; rintro e w' ⟨rfl, hw'⟩; subst w'))
              go_ret3
              exact ⟨.inl ⟨HN.out, _, _, rfl⟩, HI1.out.bel⟩
    · have e : k = nR s := by omega
      subst e
      have hnx := fun ty => next_stop s w (w.heap.size + 1) wr HR.out HI.out ty
      have HO := boxed ((HE.out p) HW.out)
      by_cases hp : 0 < n
      · have t1 : decide ((0 : Int) < (n : Int)) = true := decide_eq_true (by omega)
        have t1' : decide (0 < n) = true := decide_eq_true hp
        have HO2 : Box (patT s = some (p.L, p.V)) := boxed (by rw [HO.out, if_pos (by rw [HM0.out]; exact decide_eq_true hp)])
        clear hp HO HM0
        go_wp2
        go_ret3
        exact ⟨.inr ⟨p.L, p.V, _, _, HO2.out, rfl, HL.out, HV.out⟩, HI.out.bel⟩
      · have t1 : decide ((0 : Int) < (n : Int)) = false := decide_eq_false (by omega)
        have t1' : decide (0 < n) = false := decide_eq_false hp
        have HO2 : Box (patT s = none) := boxed (by rw [HO.out, if_neg (by rw [HM0.out]; simp; omega)])
        clear hp HO HM0
        go_wp2
        go_ret3
        exact ⟨.inl ⟨HO2.out, _, _, rfl⟩, HI.out.bel⟩
end Go.Proofs.YtflhefgmgdgffaaDoor
