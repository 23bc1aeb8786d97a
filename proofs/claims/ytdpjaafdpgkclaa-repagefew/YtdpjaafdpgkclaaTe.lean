/-
  Lines put in among others: what slices.Insert does with a row of lines.
-/
import Derived.Test.YtdpjaafdpgkclaaTd
namespace Go.Proofs.Ytdpjaafdpgkclaa
open Go.RowKit
set_option linter.unusedSimpArgs false
set_option linter.unusedVariables false

/-- What slices.Insert and slices.Replace come to. -/
def RepP (w : World) (B : Nat) (ao : Option Addr) (n cap : Nat) (F : Nat → Slt) (f g m : Nat) (C : Nat → Slt) (e : Ending) (w' : World) : Prop :=
  ∃ ao' cap', e = .returned (.slice ao' (n - g + m : Nat) cap') ∧ w'.ownsRow B 69 4 (.slice ao' (n - g + m) cap') (n - g + m) (scs (put F f g m C) (n - g + m)) ∧ w.grownBy w' (Value.slice ao n cap).ownBlock ∧ (ao' = ao ∨ ∃ h, ao' = some ⟨h, 0, none⟩ ∧ w.heap.size ≤ h)
theorem put_none (F C : Nat → Slt) (n f : Nat) : scs (put F f 0 0 C) n = scs F n := scs_like n (fun k hk => by
  unfold put
  by_cases c : k < f
  · rw [if_pos c]
  · rw [if_neg c, if_neg (by omega)]; rfl)
/-- A new row. -/
theorem rep_new {w w' : World} {B n f g m cap cap' : Nat} {ao : Option Addr} {F C : Nat → Slt} {L : List Value} (hfg : f + g ≤ n) (hB : B ≤ w.heap.size) (hg : w'.heap[w.heap.size]? = some (.cells L.toArray 69 (0, 0))) (hn : n - g + m ≤ cap') (hc : cap' ≤ maxLen) (hl : L.length = cap' * 4)
    (ht : L.take ((n - g + m) * 4) = scs F f ++ (scs C m ++ scs (fun k => F (f + g + k)) (n - (f + g)))) (hb : w.grownBy w' (Value.slice ao n cap).ownBlock) : RepP w B ao n cap F f g m C (.returned (.slice (some ⟨w.heap.size, 0, none⟩) (n - g + m) cap')) w' :=
  ⟨_, _, rfl, own_mk hB hg hn hc hl (by rw [ht, scs_put F C n f g m hfg]), hb, .inr ⟨_, rfl, Nat.le_refl _⟩⟩
/-- In place. -/
theorem rep_old {w w' : World} {B n f g m cap b : Nat} {F C : Nat → Slt} {L : List Value} (hfg : f + g ≤ n) (hB : B ≤ b) (hg : w'.heap[b]? = some (.cells L.toArray 69 (0, 0))) (hn : n - g + m ≤ cap) (hc : cap ≤ maxLen) (hl : L.length = cap * 4)
    (ht : L.take ((n - g + m) * 4) = scs F f ++ (scs C m ++ scs (fun k => F (f + g + k)) (n - (f + g)))) (hb : w.grownBy w' (some b)) : RepP w B (some ⟨b, 0, none⟩) n cap F f g m C (.returned (.slice (some ⟨b, 0, none⟩) (n - g + m) cap)) w' :=
  ⟨_, _, rfl, own_mk hB hg hn hc hl (by rw [ht, scs_put F C n f g m hfg]), hb, .inl rfl⟩
theorem grown_seq {a b c : World} {r : Option Nat} (h : a.grownBy b r) (k : b.grownBy c r) : a.grownBy c r := grown_trans h k
theorem far_cell {w w' : World} {g b o : Nat} {v : Value} (h : w.grownBy w' (some g)) (hc : w.cell? ⟨b, o, none⟩ = some v) (hb : b ≠ g) : w'.cell? ⟨b, o, none⟩ = some v :=
  h.cell hc (by simpa using hb)
theorem tail_cell {L : List Value} {F : Nat → Slt} {n f : Nat} (ht : L.take (n * 4) = scs F n) (hf : f ≤ n) : ∀ (j : Nat) (v : Value), (scs (fun k => F (f + k)) (n - f))[j]? = some v → L[f * 4 + j]? = some v := by
  intro j v hj
  rw [← scs_drop F n f hf, List.getElem?_drop, ← ht, List.getElem?_take] at hj
  split at hj
  · exact hj
  · cases hj
theorem head_cell {L : List Value} {F : Nat → Slt} {n f : Nat} (ht : L.take (n * 4) = scs F n) (hf : f ≤ n) : L.take (f * 4) = scs F f ∧ ∀ (j : Nat) (v : Value), (scs F f)[j]? = some v → L[j]? = some v := by
  have e : L.take (f * 4) = scs F f := by
    rw [← scs_take F n f hf, ← ht, List.take_take, Nat.min_eq_left (by omega)]
  refine ⟨e, fun j v hj => ?_⟩
  rw [← e, List.getElem?_take] at hj
  split at hj
  · exact hj
  · cases hj
set_option maxRecDepth 100000 in
set_option maxHeartbeats 4000000 in
theorem insert_any (S : Nat → Prop) (B : Nat) (ao bo : Option Addr) (n cap m mc f : Nat) (F C : Nat → Slt) (w : World) (ho : w.ownsRow B 69 4 (.slice ao n cap) n (scs F n)) (hC : SltsAt S w bo m C) (hS : ∀ b, S b → some b ≠ (Value.slice ao n cap).ownBlock) (hB : B ≤ w.heap.size) (hf : f ≤ n) (hn : n ≤ 1000) (hm : m ≤ 1000) :
    Calls Try.prog 51 #[.slice ao n cap, .int .i64 (f : Nat), .slice bo m mc] w fun e w' => RepP w B ao n cap F f 0 m C e w' := by
  rcases own_row ho with ⟨e, h0⟩ | ⟨g, cap', L, e, hBg, hg, hnc, hcm, hL, ht⟩
  · injection e with e1 e2 e3
    subst e1; subst e3; subst h0
    obtain rfl : f = 0 := by omega
    by_cases hm0 : m = 0
    · subst hm0
      have HP : Box (RepP w B none 0 0 F 0 0 0 C (.returned (.slice none 0 0)) w) := boxed ⟨none, 0, rfl, by rw [put_none]; exact ho, grown_refl _ _, .inl rfl⟩
      clear ho hC hS
      go_enter Try.func51, Try.ntmps51
      go_wp2_with fail
      go_ret
      exact HP.out
    · obtain ⟨b, off, rfl, hb, hc⟩ := hC.cell (by omega)
      have HC := boxed hc
      have HG := boxed (fun (W : World) (cap' : Nat) (cur : List Value) h1 h2 h3 h4 h5 (h6 : Below w.heap.size w W) => rep_new (w := w) (w' := W) (B := B) (n := 0) (f := 0) (g := 0) (m := m) (cap := 0) (cap' := cap') (ao := none) (F := F) (C := C) (L := cur) (by omega) hB h1 h2 h3 h4 h5 (grown_below2 _ h6))
      have hz : ¬ ((m : Int) = 0) := by omega
      clear ho hC hS hc
      go_enter Try.func51, Try.ntmps51
      go_wp2_with (first | (at_builtin; refine wpList_growW rfl _ _ rfl none 0 0 m mc b off rfl rfl [] (scs C m) rfl (.inl ⟨rfl, rfl⟩) (scs_len C m) HC.out (by omega) (by omega) (scs_one C m) ?_))
      intro w2 cap2 cur2 h1 h2 h3 h4 h5 h6
      go_wp2_with fail
      go_ret
      have := HG.out w2 cap2 cur2 h3.out (by omega) h2 h4 (by rw [show (0 - 0 + m) * 4 = m * 4 by omega]; refine Eq.trans ?_ (Eq.trans h5 ?_) <;> simp [scs]) h6.out
      simpa using this
  · injection e with e1 e2 e3
    subst e1; subst e3
    have s1 := slF g 0 n cap f (f : Int) rfl hnc hf
    by_cases hm0 : m = 0
    · subst hm0
      have HP : Box (RepP w B (some ⟨g, 0, none⟩) n cap F f 0 0 C (.returned (.slice (some ⟨g, 0, none⟩) n cap)) w) := boxed ⟨_, cap, rfl, by rw [put_none]; exact ho, grown_refl _ _, .inl rfl⟩
      clear ho hC hS hg ht
      go_enter Try.func51, Try.ntmps51
      go_wp2_with fail
      go_ret
      exact HP.out
    · obtain ⟨b, off, rfl, hb, hc⟩ := hC.cell (by omega)
      have hbg : b ≠ g := fun e => hS b hb (by rw [e]; rfl)
      have HC := boxed hc
      have HG0 := boxed hg
      have HT := boxed ht
      have hz : ¬ ((m : Int) = 0) := by omega
      have HN := boxed (fun (W : World) (cap' : Nat) (cur : List Value) h1 h2 h3 h4 h5 (h6 : w.grownBy W (some g)) => rep_new (w := w) (w' := W) (B := B) (n := n) (f := f) (g := 0) (m := m) (cap := cap) (cap' := cap') (ao := some ⟨g, 0, none⟩) (F := F) (C := C) (L := cur) (by omega) hB h1 h2 h3 h4 h5 h6)
      have HO := boxed (fun (W : World) (cur : List Value) h1 h2 h4 h5 (h6 : w.grownBy W (some g)) => rep_old (w := w) (w' := W) (B := B) (n := n) (f := f) (g := 0) (m := m) (cap := cap) (b := g) (F := F) (C := C) (L := cur) (by omega) hBg h1 h2 hcm h4 h5 h6)
      have HS : Box (∃ t k, w.shape? b = some (t, k) ∧ k ≠ 0) := boxed (by
        obtain ⟨-, b', off', e, -, c0, -⟩ := hC 0 (by omega)
        injection e with e; injection e with e1 e2 e3; subst e1
        exact cell_shape c0)
      have hl1 := scs_len C m
      clear ho hC hS hc hg ht
      by_cases hfn : f = n
      · subst hfn
        by_cases hroom : f + m ≤ cap
        · go_enter Try.func51, Try.ntmps51
          go_wp2_with (first | (at_builtin; refine wpList_roomW rfl _ _ rfl g f cap m mc (some ⟨b, off, none⟩) rfl rfl L (scs C m) HG0.out (scs_len C m) (fun _ => ⟨b, off, rfl, HC.out⟩) hroom hL (scs_one C m) ?_))
          intro w2 h1 h2
          go_wp2_with fail
          go_ret
          have := HO.out w2 _ h1.out (by omega) (by rw [splice_len _ _ _ (by omega)]; exact hL) (by
            have h3 := splice_take L (f * 4) (scs C m) (by omega)
            rw [show (f - 0 + m) * 4 = f * 4 + (scs C m).length by omega, h3, HT.out]
            simp [scs]) h2.out
          simpa using this
        · go_enter Try.func51, Try.ntmps51
          go_wp2_with (first | (at_builtin; refine wpList_growW rfl _ _ rfl (some ⟨g, 0, none⟩) f cap m mc b off rfl rfl (scs F f) (scs C m) (scs_len F f) (.inr ⟨g, rfl, fun j v hj => by rw [row_cell HG0.out]; exact (head_cell HT.out (Nat.le_refl _)).2 j v hj⟩) (scs_len C m) HC.out (by omega) (by omega) (scs_one C m) ?_))
          intro w2 cap2 cur2 h1 h2 h3 h4 h5 h6
          go_wp2_with fail
          go_ret
          have := HN.out w2 cap2 cur2 h3.out (by omega) h2 h4 (by rw [show f - 0 + m = f + m by omega, h5]; simp [scs]) (grown_below2 _ h6.out)
          simpa using this
      · have hne : ¬ ((f : Int) = (n : Int)) := by omega
        have hl2 := scs_len (fun k => F (f + k)) (n - f)
        by_cases hroom : n + m ≤ cap
        · have t1 : decide ((cap : Int) < (n : Int) + (m : Int)) = false := decide_eq_false (by omega)
          have s2 := slT g 0 n cap (n + m) ((n : Int) + (m : Int)) (by omega) hroom
          have s3 := slF g 0 (n + m) cap (f + m) ((f : Int) + (m : Int)) (by omega) hroom (by omega)
          have s4 := slF g 0 (n + m) cap f (f : Int) rfl hroom (by omega)
          simp only [sa_of (show f + m < cap by omega), sa_of (show f < cap by omega), Nat.zero_add, show n + m - (f + m) = n - f by omega] at s3 s4
          have hov : ∀ cb, (callFunc 52 #[.slice (some ⟨b, off, none⟩) m mc, .slice (some ⟨g, (f + m) * 4, none⟩) (n - f) cb]).run Try.prog w = .ok (.value (.bool false)) w := fun cb =>
            lapcall w _ _ m mc (n - f) cb (fun _ _ => by
              obtain ⟨tb, kb, hb1, hb2⟩ := HS.out
              obtain ⟨r1, r2⟩ := row_shape HG0.out
              exact ⟨_, _, tb, kb, _, _, rfl, rfl, hbg, hb1, r1, hb2, by omega, .inr r2, rfl, rfl⟩)
          go_enter Try.func51, Try.ntmps51
          go_wp2_with (simp only [hov])
          have hw1 : IntKind.i64.wrap ((f : Int) + (m : Int)) = (f : Int) + (m : Int) := by rw [IntKind.wrap_i64]; omega
          have hb1 : (0 : Int) ≤ (f : Int) + (m : Int) := by omega
          have htn : ((f : Int) + (m : Int)).toNat = f + m := by omega
          have hb2 : ¬ (cap = f + m) := by omega
          have hb3 : (f : Int) ≤ (n : Int) + (m : Int) := by omega
          have hb4 : ¬ (cap = f) := by omega
          go_region_law (refine step_copyW rfl (.tmp 73) (.tmp 76) rfl (some ⟨g, (f + m) * 4, none⟩) (some ⟨g, f * 4, none⟩) (n - f) (cap - (f + m)) (n + m - f) (cap - f) (by simp [Act.eval, Act.put]) (by simp [Act.eval, Act.put]) g ((f + m) * 4) (n - f) L (scs (fun k => F (f + k)) (n - f)) (by exact HG0.out) (by simp only [Nat.min_def]; split <;> omega) hl2 (fun _ => ⟨rfl, g, f * 4, rfl, fun j v hj => by refine Eq.trans (row_cell HG0.out _) ?_; exact tail_cell HT.out hf j v hj⟩) (by omega) (scs_one _ _) ?_; intro w2 h1 h2)
          have hov2 := boxed hov
          have h3 := splice_len L ((f + m) * 4) (scs (fun k => F (f + k)) (n - f)) (by omega)
          have h4 := splice_swap L (f * 4) (scs C m) (scs (fun k => F (f + k)) (n - f)) (by omega)
          have H4 := boxed h4
          have H3 := boxed h3
          clear hov h4 h3
          have HC2 : Box (∀ (j : Nat) (v : Value), (scs C m)[j]? = some v → w2.cell? ⟨b, off + j, none⟩ = some v) := boxed (fun j v hj => far_cell h2.out (HC.out j v hj) hbg)
          have HK : Box (Nat.min m (n + m - f) = m) := boxed (by simp only [Nat.min_def]; split <;> omega)
          have HF : Box (f * 4 + (scs C m).length ≤ (splice L ((f + m) * 4) (scs (fun k => F (f + k)) (n - f))).length) := boxed (by rw [H3.out]; omega)
          go_wp2_with (first | (with_reducible (show wpList _ _ _ ({ dst := _, op := Op.call { callee := Callee.builtin Builtin.copy, args := _, argTypes := _ }, type := _, pos := _, after := _, guard := _ } :: _) _ _); refine wpList_copyW rfl _ _ rfl (some ⟨g, f * 4, none⟩) (some ⟨b, off, none⟩) (n + m - f) (cap - f) m mc rfl rfl g (f * 4) m _ (scs C m) h1.out HK.out hl1 (fun _ => ⟨rfl, b, off, rfl, HC2.out⟩) HF.out (scs_one _ _) ?_))
          intro w3 h5 h6
          go_wp2_with fail
          go_ret
          have := HO.out w3 _ h5.out (by omega) (by rw [splice_len _ _ _ (by rw [H3.out]; omega), H3.out]; exact hL) (by
            have h7 := H4.out
            rw [show f * 4 + (scs C m).length = (f + m) * 4 by omega] at h7
            rw [show (n - 0 + m) * 4 = (f + m) * 4 + (scs (fun k => F (f + k)) (n - f)).length by omega, h7, (head_cell HT.out hf).1]
            rfl) (grown_trans (b := w2) ⟨h2.out.os, h2.out.tape, h2.out.output, h2.out.size, h2.out.block⟩ h6.out)
          simpa using this
        · have t1 : decide ((cap : Int) < (n : Int) + (m : Int)) = true := decide_eq_true (by omega)
          have s2 := slT g 0 n cap f (f : Int) rfl (by omega)
          go_enter Try.func51, Try.ntmps51
          go_wp2_with (first | (at_builtin; refine wpList_zeroW rfl _ _ rfl g f cap (n + m - f) _ _ rfl rfl (by first | omega | (rw [IntKind.wrap_i64]; omega)) (scs F f) (scs_len F f) (fun j v hj => by rw [row_cell HG0.out]; exact (head_cell HT.out hf).2 j v hj) (by omega) (by omega) (by omega) ?_))
          rw [show f + (n + m - f) = n + m by omega]
          intro w2 cap2 cur2 h1 h2 h3 h4 h5 h6
          have hgw : g < w.heap.size := heap_lt HG0.out
          have hbw : b < w.heap.size := by
            have hx : 0 < (scs C m).length := by omega
            exact World.block_lt_of_cell? w ⟨b, off + 0, none⟩ (HC.out 0 _ (List.getElem?_eq_getElem hx))
          obtain ⟨Hn, hHn⟩ : ∃ Hn, w.heap.size = Hn := ⟨_, rfl⟩
          have HHn := boxed hHn
          rw [hHn] at h3 hgw hbw ⊢
          have s5 := slF Hn 0 (n + m) cap2 f (f : Int) rfl (by omega) (by omega)
          simp only [sa_of (show f < cap2 by omega), Nat.zero_add] at s5
          have HC2 : Box (∀ (j : Nat) (v : Value), (scs C m)[j]? = some v → w2.cell? ⟨b, off + j, none⟩ = some v) := boxed (fun j v hj => hold h6.out (HC.out j v hj))
          have HT2 : Box (∀ (j : Nat) (v : Value), (scs (fun k => F (f + k)) (n - f))[j]? = some v → w2.cell? ⟨g, f * 4 + j, none⟩ = some v) := boxed (fun j v hj => hold h6.out (by rw [row_cell HG0.out]; exact tail_cell HT.out hf j v hj))
          have HK : Box (Nat.min m (n + m - f) = m) := boxed (by simp only [Nat.min_def]; split <;> omega)
          have HF : Box (f * 4 + (scs C m).length ≤ cur2.length) := boxed (by omega)
          clear hHn
          go_wp2_with (first | (with_reducible (show wpList _ _ _ ({ dst := _, op := Op.call { callee := Callee.builtin Builtin.copy, args := _, argTypes := _ }, type := _, pos := _, after := _, guard := _ } :: _) _ _); refine wpList_copyW rfl _ _ rfl (some ⟨Hn, f * 4, none⟩) (some ⟨b, off, none⟩) (n + m - f) (cap2 - f) m mc rfl rfl Hn (f * 4) m _ (scs C m) h3.out HK.out hl1 (fun _ => ⟨rfl, b, off, rfl, HC2.out⟩) HF.out (scs_one _ _) ?_))
          intro w3 h7 h8
          have HT3 : Box (∀ (j : Nat) (v : Value), (scs (fun k => F (f + k)) (n - f))[j]? = some v → w3.cell? ⟨g, f * 4 + j, none⟩ = some v) := boxed (fun j v hj => far_cell h8.out (HT2.out j v hj) (by omega))
          have h9 := splice_len cur2 (f * 4) (scs C m) (by omega)
          have hw1 : IntKind.i64.wrap ((f : Int) + (m : Int)) = (f : Int) + (m : Int) := by rw [IntKind.wrap_i64]; omega
          have hb1 : (0 : Int) ≤ (f : Int) + (m : Int) := by omega
          have htn : ((f : Int) + (m : Int)).toNat = f + m := by omega
          have hb2 : ¬ (cap2 = f + m) := by omega
          have hb4 : ¬ (cap = f) := by omega
          have hb5 : ¬ (cap2 = f) := by omega
          have hsu : n + m - (f + m) = n - f := by omega
          have HK2 : Box (Nat.min (n - f) (n - f) = n - f) := boxed (by simp only [Nat.min_def]; split <;> omega)
          have HF2 : Box ((f + m) * 4 + (scs (fun k => F (f + k)) (n - f)).length ≤ (splice cur2 (f * 4) (scs C m)).length) := boxed (by rw [h9]; omega)
          clear s1 s2 s5
          go_wp2_with fail
          go_region_law (refine step_copyW rfl (.tmp 50) (.tmp 53) rfl (some ⟨Hn, (f + m) * 4, none⟩) (some ⟨g, f * 4, none⟩) (n - f) (cap2 - (f + m)) (n - f) (cap - f) (by simp [Act.eval, Act.put]) (by simp [Act.eval, Act.put]) Hn ((f + m) * 4) (n - f) (splice cur2 (f * 4) (scs C m)) (scs (fun k => F (f + k)) (n - f)) (by exact h7.out) HK2.out hl2 (fun _ => ⟨rfl, g, f * 4, rfl, fun j v hj => by exact HT3.out j v hj⟩) HF2.out (scs_one _ _) ?_; intro w4 h10 h11)
          go_wp2_with fail
          go_ret
          have e := HHn.out
          subst e
          have := HN.out w4 cap2 _ h10.out (by omega) h2 (by rw [splice_len _ _ _ HF2.out, h9]; exact h4) (by
            have h12 := splice_two cur2 (f * 4) (scs C m) (scs (fun k => F (f + k)) (n - f)) (by omega)
            rw [show f * 4 + (scs C m).length = (f + m) * 4 by omega] at h12
            rw [show (n - 0 + m) * 4 = (f + m) * 4 + (scs (fun k => F (f + k)) (n - f)).length by omega, h12, h5]
            rfl) (grown_below2 _ ⟨h11.out.os.trans (h8.out.os.trans h6.out.os), h11.out.tape.trans (h8.out.tape.trans h6.out.tape), h11.out.output.trans (h8.out.output.trans h6.out.output), by have q1 := h6.out.size; have q2 := h8.out.size; have q3 : w3.heap.size ≤ w4.heap.size := h11.out.size; omega, fun k hk => by
              have q1 := h6.out.size
              have q2 := h8.out.size
              have e3 : w4.heap[k]? = w3.heap[k]? := h11.out.block k (by show k < w3.heap.size; omega) (by simp; omega)
              rw [e3, h8.out.block k (by omega) (by simp; omega), h6.out.block k hk]⟩)
          simpa using this
end Go.Proofs.Ytdpjaafdpgkclaa
