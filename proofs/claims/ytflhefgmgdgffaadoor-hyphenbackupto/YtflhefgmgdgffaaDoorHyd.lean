/-
  What the program's readWord answers: a word's small letters and its hyphens, in rows of its own.
-/
import Derived.Test.YtflhefgmgdgffaaDoorHyc
namespace Go.Proofs.YtflhefgmgdgffaaDoor
open Go.RowKit
set_option linter.unusedSimpArgs false
set_option linter.unusedVariables false

/-- What readWord answers. -/
def RwP (s : ByteArray) (B : Nat) (e : Ending) (w' : World) : Prop :=
  (wordT s = none ∧ ∃ v1 v2, e = .returned (.tuple #[v1, v2, .bool false])) ∨
  (∃ L A v1 v2, wordT s = some (L, A) ∧ e = .returned (.tuple #[v1, v2, .bool true]) ∧ w'.ownsRow B 21 1 v1 L.length (rvals L) ∧ w'.ownsRow B 3 1 v2 A.length (vals A))
def wfl (s : ByteArray) (k : Nat) : Bool := decide (k ≠ 0 ∧ (rs s).getD (k - 1) 0 ≠ 45)
theorem wst_next {s : ByteArray} {k : Nat} (hk : k < nR s) {L A : List Nat} (h : wst (rs s) k = some (L, A)) :
    (ltr (rn s k) = true → wst (rs s) (k + 1) = some (L ++ [lowr (rn s k)], A) ∧ wfl s (k + 1) = true) ∧
    (ltr (rn s k) = false → rn s k = 45 → wfl s k = true → wst (rs s) (k + 1) = some (L, A ++ [L.length]) ∧ wfl s (k + 1) = false) ∧
    (ltr (rn s k) = false → (rn s k ≠ 45 ∨ wfl s k = false) → wst (rs s) (k + 1) = none) := by
  have e : wst (rs s) (k + 1) = wstep (rs s) k (L, A) := by
    have : wst (rs s) (k + 1) = (wst (rs s) k).bind (wstep (rs s) k) := rfl
    rw [this, h]; rfl
  have f : wfl s (k + 1) = decide (rn s k ≠ 45) := by
    unfold wfl; rw [Nat.add_sub_cancel, rs_get s k hk]; simp
  rw [e, f]
  unfold wstep
  rw [rs_get s k hk]
  generalize rn s k = r at *
  refine ⟨fun h1 => ?_, fun h1 h2 h3 => ?_, fun h1 h2 => ?_⟩
  · refine ⟨if_pos h1, decide_eq_true (fun c => ?_)⟩
    subst c; exact absurd h1 (by decide)
  · have h3' := of_decide_eq_true h3
    refine ⟨?_, by simp [h2]⟩
    rw [if_neg (by rw [h1]; simp), if_pos ⟨h2, h3'.1, h3'.2⟩]
  · rw [if_neg (by rw [h1]; simp), if_neg ?_]
    rintro ⟨c1, c2, c3⟩
    rcases h2 with h2 | h2
    · exact h2 c1
    · exact of_decide_eq_false h2 ⟨c2, c3⟩
theorem word_end {s : ByteArray} (hf : fit s = true) : (wfl s (nR s) = true → wordT s = wst (rs s) (nR s)) ∧ (wfl s (nR s) = false → wordT s = none) := by
  unfold wordT wfl word
  rw [if_pos hf, rs_len]
  constructor
  · intro h; exact if_pos (of_decide_eq_true h)
  · intro h; exact if_neg (of_decide_eq_false h)
theorem word_stop {s : ByteArray} {k : Nat} (hk : k ≤ nR s) (h : wst (rs s) k = none) : wordT s = none := by
  unfold wordT
  split
  · exact word_none _ k (by rw [rs_len]; exact hk) h
  · rfl
theorem word_unfit {s : ByteArray} (hf : fit s = false) : wordT s = none := if_neg (by rw [hf]; simp)
theorem pat_unfit {s : ByteArray} (hf : fit s = false) : patT s = none := if_neg (by rw [hf]; simp)

set_option maxRecDepth 100000 in
set_option maxHeartbeats 4000000 in
theorem readword_any (s : ByteArray) (w : World) (hs : s.size ≤ maxLen) :
    Calls Tryd.prog 23 #[.string s] w fun e w' => RwP s w.heap.size e w' ∧ Below w.heap.size w w' := by
  obtain ⟨i1, hi1, hy0, hy1, hy2⟩ := info_parts info_rune
  obtain ⟨i2, hi2, hz0, hz1, hz2⟩ := info_parts info_int
  have hfi := fits_any s w hs
  cases hft : fit s with
  | false =>
    rw [hft] at hfi
    have HN := boxed (word_unfit hft)
    clear hs hft
    go_enter Tryd.func23, Tryd.ntmps23
    go_wp2_with (go_at_call 41; refine hfi.mono ?_; rintro e w' ⟨rfl, hw'⟩; subst w')
    go_ret3
    exact ⟨.inl ⟨HN.out, _, _, rfl⟩, Below.refl _ _⟩
  | true =>
  rw [hft] at hfi
  have HE := boxed (word_end hft)
  have hz : s.size ≤ 256 := by unfold fit at hft; simp at hft; exact hft.1
  have hrt : rt s = true := by unfold fit at hft; simp at hft; exact hft.2
  have HR := boxed hrt
  have hnl := nR_le s
  clear hs hft hrt
  go_enter Tryd.func23, Tryd.ntmps23
  go_wp2_with (go_at_call 41; refine hfi.mono ?_; rintro e w' ⟨rfl, hw'⟩; subst w')
  clear hfi
  go_loopw [5, 6, 7] (fun vl va vf wr => ∃ (k : Nat) (L A : List Nat), k ≤ nR s ∧ Box (wst (rs s) k = some (L, A)) ∧ vf = .bool (wfl s k) ∧ Box (wr.ownsRow w.heap.size 21 1 vl L.length (rvals L)) ∧ Box (wr.ownsRow w.heap.size 3 1 va A.length (vals A)) ∧ Box (Itr w w.heap.size s (it s k) wr)) (fun _ _ _ wr => s.size - wr.iterPos w.heap.size)
  case atStart => exact ⟨0, [], [], Nat.zero_le _, boxed rfl, rfl, boxed (World.ownsRow_nil _ _ _ _), boxed (World.ownsRow_nil _ _ _ _), boxed (itr_start w s)⟩
  case round =>
    obtain ⟨k, L, A, hk, HW, rfl, HL, HA, HI⟩ := hrel
    obtain ⟨hl1, hl2, -, -, -, -, hl7⟩ := wst_ok _ k L A (by rw [rs_len]; exact hk) HW.out
    clear hl7
    by_cases hlt : k < nR s
    · have hnx := fun ty => next_at s w w.heap.size k wr HI.out hlt ty
      have hit := it_lt s k hlt
      have HX := boxed (wst_next hlt HW.out)
      have hrr := rn_isR s k ((nR_cnt s).1 k hlt)
      have hrl := rn_le s k
      have hlow := fun W => lower_any (rn s k) hrl W
      have hlet := fun W => letter_any (rn s k) hrr W
      have HI1 := boxed (HI.out.next (it s (k + 1)))
      have HL1 := boxed (own_iter (p' := it s (k + 1)) HL.out HI.out.itr)
      have HA1 := boxed (own_iter (p' := it s (k + 1)) HA.out HI.out.itr)
      have HM : Box (∀ W', Itr w w.heap.size s (it s (k + 1)) W' → s.size - W'.iterPos w.heap.size < s.size - wr.iterPos w.heap.size) := boxed (fun W' h => by rw [h.pos, HI.out.pos]; omega)
      have hll := low_le _ hrl
      generalize hW1 : wr.iterAt w.heap.size s (it s (k + 1)) = W1 at *
      clear HW HI HL HA hW1 hrr hit
      generalize it s k = A0 at *
      cases hL : ltr (rn s k) with
      | true =>
        obtain ⟨e1, e2⟩ := HX.out.1 hL
        have HW2 := boxed e1
        have HF2 := boxed e2
        rw [hL] at hlet
        have hsz := HI1.out.size
        have HSN := boxed (rvals_snoc L (lowr (rn s k)))
        clear HX hL e1 e2
        generalize rn s k = r at *
        generalize lowr r = l at *
        obtain ⟨ll, hll2⟩ : ∃ ll, L.length = ll := ⟨_, rfl⟩
        have HLL := boxed hll2
        rw [hll2] at HL1 hl1
        clear hll2
        go_wp2_with (first | (go_at_call 42; refine (hlet _).mono ?_; rintro e w' ⟨rfl, hw'⟩; subst w') | (go_at_call 43; refine (hlow _).mono ?_; rintro e w' ⟨rfl, hw'⟩; subst w') | (at_builtin; refine wpList_append_apart rfl _ _ 55 rfl w.heap.size 21 i1 (.int .i32 0) 1 4 Tryd.underlying55 hi1 hy0 hy1 hy2 rfl (by decide) _ _ _ rfl (HL1.out.alloc _) ⟨W1.heap.size, 0, none⟩ 1 1 [.int .i32 (l : Int)] rfl rfl (one_new W1 _ _) ?c2 ?c3 ?c4 ?c5 (by omega) ?_))
        case c2 => intro u hu; simp at hu; subst hu; rfl
        case c3 => unfold maxLen; omega
        case c4 => omega
        case c5 => simp; omega
        intro v' w2 hown2 hgrow2 _
        have HI2 := boxed ((HI1.out.alloc _).grown (HL1.out.alloc _) hgrow2)
        have HA2 := boxed (own_beside (HL1.out.alloc _) (by decide) (HA1.out.alloc _) hgrow2)
        rw [HSN.out] at hown2
        have HL2 : Box (w2.ownsRow w.heap.size 21 1 v' (L ++ [l]).length (rvals (L ++ [l]))) := boxed (by rw [List.length_append, HLL.out]; exact hown2)
        clear hown2 hgrow2 HL1 HA1 HI1
        go_wp2
        go_roundw
        case rel => exact ⟨k + 1, _, _, by omega, HW2, by rw [HF2.out], HL2, HA2, HI2⟩
        case measure => exact HM.out _ HI2.out
      | false =>
        rw [hL] at hlet
        by_cases h45 : rn s k = 45
        · cases hf : wfl s k with
          | true =>
            obtain ⟨e1, e2⟩ := HX.out.2.1 hL h45 hf
            have HW2 := boxed e1
            have HF2 := boxed e2
            have hsz := HI1.out.size
            have HSN := boxed (vals_snoc A L.length)
            have t1 : ((rn s k : Int) == 45) = true := by rw [beq_iff_eq]; omega
            clear HX hL e1 e2 hlow h45 hll hrl hf
            generalize rn s k = r at *
            obtain ⟨al, hal2⟩ : ∃ al, A.length = al := ⟨_, rfl⟩
            have HAL := boxed hal2
            rw [hal2] at HA1 hl2
            clear hal2
            obtain ⟨vo, vc, rfl⟩ := own_shape HL1.out
            generalize hge : L.length = ll at *
            have HLE := boxed hge
            clear hge
            go_wp2_with (first | (go_at_call 42; refine (hlet _).mono ?_; rintro e w' ⟨rfl, hw'⟩; subst w') | (at_builtin; refine wpList_append_apart rfl _ _ 30 rfl w.heap.size 3 i2 (.int .i64 0) 1 8 Tryd.underlying30 hi2 hz0 hz1 hz2 rfl (by decide) _ _ _ rfl (HA1.out.alloc _) ⟨W1.heap.size, 0, none⟩ 1 1 [.int .i64 (ll : Int)] rfl rfl (one_new W1 _ _) ?c2 ?c3 ?c4 ?c5 (by omega) ?_))
            case c2 => intro u hu; simp at hu; subst hu; rfl
            case c3 => unfold maxLen; omega
            case c4 => omega
            case c5 => simp; omega
            intro v' w2 hown2 hgrow2 _
            have HI2 := boxed ((HI1.out.alloc _).grown (HA1.out.alloc _) hgrow2)
            have HL2 := boxed (own_beside (HA1.out.alloc _) (by decide) (HL1.out.alloc _) hgrow2)
            rw [HSN.out] at hown2
            have HA2 : Box (w2.ownsRow w.heap.size 3 1 v' (A ++ [ll]).length (vals (A ++ [ll]))) := boxed (by rw [List.length_append, HAL.out]; exact hown2)
            clear hown2 hgrow2 HL1 HA1 HI1
            go_wp2
            go_roundw
            case rel => exact ⟨k + 1, _, _, by omega, HW2, by rw [HF2.out], boxed (by rw [HLE.out]; exact HL2.out), HA2, HI2⟩
            case measure => exact HM.out _ HI2.out
          | false =>
            have HN := boxed (word_stop (by omega) (HX.out.2.2 hL (.inr hf)))
            have t1 : ((rn s k : Int) == 45) = true := by rw [beq_iff_eq]; omega
            clear HX hL hlow h45 hll hrl hf
            generalize rn s k = r at *
            go_wp2_with (go_at_call 42; refine (hlet _).mono ?_; rintro e w' ⟨rfl, hw'⟩; subst w')
            go_ret3
            exact ⟨.inl ⟨HN.out, _, _, rfl⟩, HI1.out.bel⟩
        · have HN := boxed (word_stop (by omega) (HX.out.2.2 hL (.inl h45)))
          have t1 : ((rn s k : Int) == 45) = false := by rw [beq_eq_false_iff_ne]; omega
          clear HX hL hlow h45 hll hrl
          generalize rn s k = r at *
          go_wp2_with (go_at_call 42; refine (hlet _).mono ?_; rintro e w' ⟨rfl, hw'⟩; subst w')
          go_ret3
          exact ⟨.inl ⟨HN.out, _, _, rfl⟩, HI1.out.bel⟩
    · have e : k = nR s := by omega
      subst e
      have hnx := fun ty => next_stop s w w.heap.size wr HR.out HI.out ty
      cases hf : wfl s (nR s) with
      | true =>
        have HO : Box (wordT s = some (L, A)) := boxed ((HE.out.1 hf).trans HW.out)
        clear hf
        go_wp2
        go_ret3
        exact ⟨.inr ⟨L, A, _, _, HO.out, rfl, HL.out, HA.out⟩, HI.out.bel⟩
      | false =>
        have HO := boxed (HE.out.2 hf)
        clear hf
        go_wp2
        go_ret3
        exact ⟨.inl ⟨HO.out, _, _, rfl⟩, HI.out.bel⟩
end Go.Proofs.YtflhefgmgdgffaaDoor
