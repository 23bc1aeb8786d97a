/-
  Lines in the place of others: what slices.Replace does with a row of lines.
-/
import Derived.Test.YtdpjaafdpgkclaaTe
namespace Go.Proofs.Ytdpjaafdpgkclaa
open Go.RowKit
set_option linter.unusedSimpArgs false
set_option linter.unusedVariables false

theorem grown_shift {a b c : World} {g : Nat} (h : Below a.heap.size a b) (k : b.grownBy c (some g)) (hg : a.heap.size ≤ g) : Below a.heap.size a c :=
  ⟨k.os.trans h.os, k.tape.trans h.tape, k.output.trans h.output, Nat.le_trans h.size k.size, fun i hi => (k.block i (Nat.lt_of_lt_of_le hi h.size) (by simp; omega)).trans (h.block i hi)⟩
theorem dr_heap {w : World} {g : Nat} {o : Obj} (h : w.heap[g]? = some o) (n : Nat) : (w.drewN n).heap[g]? = some o := h
theorem dr_size (w : World) (n : Nat) : (w.drewN n).heap.size = w.heap.size := rfl
theorem dr_grown (w : World) (n : Nat) (r : Option Nat) : w.grownBy (w.drewN n) r := ⟨rfl, rfl, rfl, Nat.le_refl _, fun _ _ _ => rfl⟩
theorem dr_cell {w : World} {b o : Nat} {v : Value} (h : w.cell? ⟨b, o, none⟩ = some v) (n : Nat) : (w.drewN n).cell? ⟨b, o, none⟩ = some v := h
set_option maxRecDepth 100000 in
set_option maxHeartbeats 8000000 in
theorem replace_any (S : Nat → Prop) (B : Nat) (ao bo : Option Addr) (n cap m mc f d j : Nat) (F C : Nat → Slt) (w : World) (ho : w.ownsRow B 69 4 (.slice ao n cap) n (scs F n)) (hC : SltsAt S w bo m C) (hS : ∀ b, S b → some b ≠ (Value.slice ao n cap).ownBlock) (hB : B ≤ w.heap.size) (hj : j = f + d) (hjn : j ≤ n) (hn : n ≤ 1000) (hm : m ≤ 1000) :
    Calls Try.prog 39 #[.slice ao n cap, .int .i64 (f : Nat), .int .i64 (j : Nat), .slice bo m mc] w fun e w' => RepP w B ao n cap F f d m C e w' := by
  have hcap := own_room ho
  by_cases hd : d = 0
  · subst hd
    obtain rfl : j = f := by omega
    clear hj
    have HI := insert_any S B ao bo n cap m mc j F C w ho hC hS hB hjn hn hm
    rcases own_row ho with ⟨e, h0⟩ | ⟨g, cap', L, e, hBg, hg, hnc, hcm, hL, ht⟩
    · injection e with e1 e2 e3
      subst e1; subst e3; subst h0
      obtain rfl : j = 0 := by omega
      clear ho hC hS
      go_enter Try.func39, Try.ntmps39
      go_wp2_with fail
      refine HI.mono ?_
      rintro e w1 ⟨ao', cap', rfl, h1, h2, h3⟩
      have HP := boxed (show RepP w B none 0 0 F 0 0 m C (.returned (.slice ao' (0 - 0 + m) cap')) w1 from ⟨ao', cap', rfl, h1, h2, h3⟩)
      clear h1 h2 h3 HI
      go_wp2_with fail
      go_ret
      simpa using HP.out
    · injection e with e1 e2 e3
      subst e1; subst e3
      have s1 := slM g 0 n cap j j (Nat.le_refl _) (by omega)
      clear ho hC hS hg ht
      go_enter Try.func39, Try.ntmps39
      go_wp2_with fail
      refine HI.mono ?_
      rintro e w1 ⟨ao', cap', rfl, h1, h2, h3⟩
      have HP := boxed (show RepP w B (some ⟨g, 0, none⟩) n cap F j 0 m C (.returned (.slice ao' (n - 0 + m) cap')) w1 from ⟨ao', cap', rfl, h1, h2, h3⟩)
      clear h1 h2 h3 HI
      go_wp2_with fail
      go_ret
      simpa using HP.out
  · rcases own_row ho with ⟨e, h0⟩ | ⟨g, cap', L, e, hBg, hg, hnc, hcm, hL, ht⟩
    · omega
    · injection e with e1 e2 e3
      subst e1; subst e3
      have hj1 : j ≤ f + d := by omega
      have hj2 : f + d ≤ j := by omega
      clear hj
      have HC : Box (0 < m → ∃ b off, bo = some ⟨b, off, none⟩ ∧ b ≠ g ∧ ∀ (j : Nat) (v : Value), (scs C m)[j]? = some v → w.cell? ⟨b, off + j, none⟩ = some v) := boxed (fun h => by
        obtain ⟨b, off, rfl, hb, hc⟩ := hC.cell h
        exact ⟨b, off, rfl, fun e => hS b hb (by rw [e]; rfl), hc⟩)
      have HG0 := boxed hg
      have HT := boxed ht
      have HN := boxed (fun (W : World) (cap' : Nat) (cur : List Value) h1 h2 h3 h4 h5 (h6 : w.grownBy W (some g)) => rep_new (w := w) (w' := W) (B := B) (n := n) (f := f) (g := d) (m := m) (cap := cap) (cap' := cap') (ao := some ⟨g, 0, none⟩) (F := F) (C := C) (L := cur) (by omega) hB h1 h2 h3 h4 h5 h6)
      have HO := boxed (fun (W : World) (cur : List Value) h1 h2 h4 h5 (h6 : w.grownBy W (some g)) => rep_old (w := w) (w' := W) (B := B) (n := n) (f := f) (g := d) (m := m) (cap := cap) (b := g) (F := F) (C := C) (L := cur) (by omega) hBg h1 h2 hcm h4 h5 h6)
      have hl1 := scs_len C m
      have hfj : ¬ ((f : Int) = (j : Int)) := by omega
      have s1 := slM g 0 n cap f j (by omega) (by omega)
      have s2 := slT g 0 n cap f (f : Int) rfl (by omega)
      have HH := head_cell ht (show f ≤ n by omega)
      have HH1 := boxed HH.1
      have HH2 := boxed HH.2
      clear ho hC hS hg ht HH
      by_cases hjn2 : j = n
      · subst hjn2
        have hm0 : j - d + m = f + m := by omega
        have hm1 : j - (f + d) = 0 := by omega
        by_cases hroom : f + m ≤ cap
        · by_cases hlt : f + m < j
          · have t1 : decide ((f : Int) + (m : Int) < (j : Int)) = true := decide_eq_true (by omega)
            have s3 := slF g 0 j cap (f + m) ((f : Int) + (m : Int)) (by omega) hnc (by omega)
            simp only [sa_of (show f + m < cap by omega), Nat.zero_add] at s3
            go_enter Try.func39, Try.ntmps39
            go_wp2_with (first | (at_builtin; refine wpList_roomW rfl _ _ rfl g f cap m mc bo rfl rfl L (scs C m) HG0.out (scs_len C m) (fun h => by obtain ⟨b, off, e1, -, e2⟩ := HC.out h; exact ⟨b, off, e1, e2⟩) hroom hL (scs_one C m) ?_))
            intro w2 h1 h2
            have h3 := splice_len L (f * 4) (scs C m) (by omega)
            have HF : Box ((f + m) * 4 + (j - (f + m)) * 4 ≤ (splice L (f * 4) (scs C m)).length) := boxed (by rw [h3]; omega)
            go_wp2_with (first | (with_reducible (show wpList _ _ _ ({ dst := _, op := Op.call { callee := Callee.builtin Builtin.clear, args := _, argTypes := _ }, type := _, pos := _, after := _, guard := _ } :: _) _ _); refine wpList_clearW rfl _ rfl (some ⟨g, (f + m) * 4, none⟩) (j - (f + m)) (cap - (f + m)) rfl g ((f + m) * 4) _ h1.out (fun _ => rfl) HF.out ?_))
            intro w3 cs h4 h5 h6
            go_wp2_with fail
            go_ret
            have := HO.out w3 _ h5.out (by omega) (by rw [splice_len _ _ _ (by rw [h3]; omega), h3]; exact hL) (by
              have h7 := splice_take L (f * 4) (scs C m) (by omega)
              rw [hm0, splice_low _ _ _ _ (Nat.le_refl _) (by rw [h3]; omega), show (f + m) * 4 = f * 4 + (scs C m).length by omega, h7, HH1.out, hm1]
              simp [scs]) (grown_trans h2.out h6.out)
            rw [hm0] at this
            exact this
          · have t1 : decide ((f : Int) + (m : Int) < (j : Int)) = false := decide_eq_false (by omega)
            go_enter Try.func39, Try.ntmps39
            go_wp2_with (first | (at_builtin; refine wpList_roomW rfl _ _ rfl g f cap m mc bo rfl rfl L (scs C m) HG0.out (scs_len C m) (fun h => by obtain ⟨b, off, e1, -, e2⟩ := HC.out h; exact ⟨b, off, e1, e2⟩) hroom hL (scs_one C m) ?_))
            intro w2 h1 h2
            go_wp2_with fail
            go_ret
            have := HO.out w2 _ h1.out (by omega) (by rw [splice_len _ _ _ (by omega)]; exact hL) (by
              have h7 := splice_take L (f * 4) (scs C m) (by omega)
              rw [hm0, show (f + m) * 4 = f * 4 + (scs C m).length by omega, h7, HH1.out, hm1]
              simp [scs]) h2.out
            rw [hm0] at this
            exact this
        · have t1 : decide ((f : Int) + (m : Int) < (j : Int)) = false := decide_eq_false (by omega)
          obtain ⟨b, off, rfl, hbg, hc⟩ := HC.out (by omega)
          have HC1 := boxed hc
          clear hc HC
          go_enter Try.func39, Try.ntmps39
          go_wp2_with (first | (at_builtin; refine wpList_growW rfl _ _ rfl (some ⟨g, 0, none⟩) f cap m mc b off rfl rfl (scs F f) (scs C m) (scs_len F f) (.inr ⟨g, rfl, fun j v hj => by rw [row_cell HG0.out]; exact HH2.out j v hj⟩) (scs_len C m) HC1.out (by omega) (by omega) (scs_one C m) ?_))
          intro w2 cap2 cur2 h1 h2 h3 h4 h5 h6
          go_wp2_with fail
          go_ret
          have := HN.out w2 cap2 cur2 h3.out (by omega) h2 h4 (by rw [hm0, h5, hm1]; simp [scs]) (grown_below2 _ h6.out)
          rw [hm0] at this
          exact this
      · obtain ⟨r, hr⟩ : ∃ r, n - j = r := ⟨_, rfl⟩
        obtain ⟨tot, htot⟩ : ∃ tot, f + m + r = tot := ⟨_, rfl⟩
        have htw : (f : Int) + (m : Int) + (r : Int) = (tot : Int) := by omega
        have htn2 : n - d + m = tot := by omega
        have HTn := boxed htn2
        have HTo := boxed htot
        have hto1 : tot ≤ f + m + r := by omega
        have hto2 : f + m + r ≤ tot := by omega
        have hr1 : n ≤ j + r := by omega
        have hr2 : j + r ≤ n := by omega
        have hre : n - (f + d) = r := by omega
        have HRe := boxed hre
        clear htn2 htot hre
        have hjn3 : ¬ ((j : Int) = (n : Int)) := by omega
        have hl2 : (scs (fun k => F (j + k)) r).length = r * 4 := scs_len _ _
        have HTl : Box (∀ (i : Nat) (v : Value), (scs (fun k => F (j + k)) r)[i]? = some v → L[j * 4 + i]? = some v) := boxed (by
          have := tail_cell HT.out hjn
          rwa [hr] at this)
        have HTe : Box (scs (fun k => F (f + d + k)) (n - (f + d)) = scs (fun k => F (j + k)) r) := boxed (by rw [HRe.out, show f + d = j by omega])
        have hw1 : IntKind.i64.wrap ((f : Int) + (m : Int)) = (f : Int) + (m : Int) := by rw [IntKind.wrap_i64]; omega
        have hw2 : IntKind.i64.wrap (tot : Int) = (tot : Int) := by rw [IntKind.wrap_i64]; omega
        have hb1 : (0 : Int) ≤ (f : Int) + (m : Int) := by omega
        have htn : ((f : Int) + (m : Int)).toNat = f + m := by omega
        have hb6 : (f : Int) + (m : Int) ≤ (tot : Int) := by omega
        have hb7 : ¬ (cap = j) := by omega
        have hfc : f ≤ cap := by omega
        have hfn : f ≤ n := by omega
        have hsu : tot - (f + m) = r := by omega
        by_cases hroom : tot ≤ cap
        · have t1 : decide ((cap : Int) < (tot : Int)) = false := decide_eq_false (by omega)
          have s3 := slT g 0 n cap tot (tot : Int) rfl hroom
          have s4 := slF g 0 tot cap f (f : Int) rfl hroom (by omega)
          simp only [sa_of (show f < cap by omega), Nat.zero_add] at s4
          have hb2 : ¬ (cap = f + m) := by omega
          by_cases hfit : f + m ≤ j
          · have t2 : decide ((f : Int) + (m : Int) ≤ (j : Int)) = true := decide_eq_true (by omega)
            have s5 := slF g 0 n cap tot (tot : Int) rfl hnc (by omega)
            have h3 := splice_len L (f * 4) (scs C m) (by omega)
            have HK : Box (Nat.min m (tot - f) = m) := boxed (by simp only [Nat.min_def]; split <;> omega)
            have HF : Box (f * 4 + (scs C m).length ≤ L.length) := boxed (by omega)
            have HK2 : Box (Nat.min r r = r) := boxed (by simp only [Nat.min_def]; split <;> omega)
            have HF2 : Box ((f + m) * 4 + (scs (fun k => F (j + k)) r).length ≤ (splice L (f * 4) (scs C m)).length) := boxed (by rw [h3]; omega)
            have h4 := splice_len (splice L (f * 4) (scs C m)) ((f + m) * 4) (scs (fun k => F (j + k)) r) HF2.out
            have HF3 : Box (tot * 4 + (n - tot) * 4 ≤ (splice (splice L (f * 4) (scs C m)) ((f + m) * 4) (scs (fun k => F (j + k)) r)).length) := boxed (by rw [h4, h3]; omega)
            go_enter Try.func39, Try.ntmps39
            go_wp2_with fail
            go_quiet (fail)
            have HGd := boxed (dr_heap HG0.out nq)
            have HDd := boxed (dr_grown w nq (some g))
            have HCd := boxed (fun b o v h => dr_cell (w := w) (b := b) (o := o) (v := v) h nq)
            generalize w.drewN nq = W1 at *
            go_wp2_with (first | (with_reducible (show wpList _ _ _ ({ dst := _, op := Op.call { callee := Callee.builtin Builtin.copy, args := _, argTypes := _ }, type := _, pos := _, after := _, guard := _ } :: _) _ _); refine wpList_copyW rfl _ _ rfl (some ⟨g, f * 4, none⟩) bo (tot - f) (cap - f) m mc rfl rfl g (f * 4) m L (scs C m) HGd.out HK.out hl1 (fun h => ⟨rfl, by obtain ⟨b, off, e1, -, e2⟩ := HC.out h; exact ⟨b, off, e1, fun j v hj => HCd.out _ _ _ (e2 j v hj)⟩⟩) HF.out (scs_one _ _) ?_))
            intro w2 h5 h6
            go_wp2_with fail
            have HTd : Box (∀ (i : Nat) (v : Value), (scs (fun k => F (j + k)) r)[i]? = some v → w2.cell? ⟨g, j * 4 + i, none⟩ = some v) := boxed (fun i v hi => by
              rw [row_cell h5.out, splice_get L _ _ _ (by omega) (by omega)]; exact HTl.out i v hi)
            go_region_law (refine step_copyW rfl (.tmp 103) (.tmp 106) rfl (some ⟨g, (f + m) * 4, none⟩) (some ⟨g, j * 4, none⟩) r (cap - (f + m)) r (cap - j) (by simp [Act.eval, Act.put]) (by simp [Act.eval, Act.put]) g ((f + m) * 4) r (splice L (f * 4) (scs C m)) (scs (fun k => F (j + k)) r) (by exact h5.out) HK2.out hl2 (fun _ => ⟨rfl, g, j * 4, rfl, fun i v hi => by exact HTd.out i v hi⟩) HF2.out (scs_one _ _) ?_; intro w3 h7 h8)
            go_wp2_with (first | (with_reducible (show wpList _ _ _ ({ dst := _, op := Op.call { callee := Callee.builtin Builtin.clear, args := _, argTypes := _ }, type := _, pos := _, after := _, guard := _ } :: _) _ _); refine wpList_clearW rfl _ rfl _ (n - tot) (cap - tot) rfl g (tot * 4) _ h7.out (fun h => by rw [sa_of (by omega), Nat.zero_add]) HF3.out ?_))
            intro w4 cs h9 h10 h11
            go_wp2_with fail
            go_ret
            have h12 := splice_two L (f * 4) (scs C m) (scs (fun k => F (j + k)) r) (by omega)
            rw [show f * 4 + (scs C m).length = (f + m) * 4 by omega] at h12
            have := HO.out w4 _ h10.out (by rw [HTn.out]; exact hroom) (by rw [splice_len _ _ _ (by rw [h4, h3]; omega), h4, h3]; exact hL) (by
              rw [HTn.out, splice_low _ _ _ _ (Nat.le_refl _) (by rw [h4, h3]; omega), show tot * 4 = (f + m) * 4 + (scs (fun k => F (j + k)) r).length by omega, h12, HH1.out, HTe.out])
              (grown_trans HDd.out (grown_trans h6.out (grown_trans (b := w3) ⟨h8.out.os, h8.out.tape, h8.out.output, h8.out.size, h8.out.block⟩ h11.out)))
            rw [HTn.out] at this
            exact this
          · have t2 : decide ((f : Int) + (m : Int) ≤ (j : Int)) = false := decide_eq_false (by omega)
            obtain ⟨b, off, rfl, hbg, hc⟩ := HC.out (by omega)
            have HC1 := boxed hc
            clear hc HC
            have s6 := slF g 0 tot cap (f + m) ((f : Int) + (m : Int)) (by omega) hroom (by omega)
            simp only [sa_of (show f + m < cap by omega), Nat.zero_add, hsu] at s6
            have h3 := splice_len L ((f + m) * 4) (scs (fun k => F (j + k)) r) (by omega)
            have HK : Box (Nat.min m (tot - f) = m) := boxed (by simp only [Nat.min_def]; split <;> omega)
            have HF : Box (f * 4 + (scs C m).length ≤ (splice L ((f + m) * 4) (scs (fun k => F (j + k)) r)).length) := boxed (by rw [h3]; omega)
            have HK2 : Box (Nat.min r r = r) := boxed (by simp only [Nat.min_def]; split <;> omega)
            have HF2 : Box ((f + m) * 4 + (scs (fun k => F (j + k)) r).length ≤ L.length) := boxed (by omega)
            go_enter Try.func39, Try.ntmps39
            go_wp2_with fail
            go_quiet (fail)
            have HGd := boxed (dr_heap HG0.out nq)
            have HDd := boxed (dr_grown w nq (some g))
            have HCd := boxed (fun b o v h => dr_cell (w := w) (b := b) (o := o) (v := v) h nq)
            generalize w.drewN nq = W1 at *
            have hov : ∀ cb, (callFunc 52 #[.slice (some ⟨g, (f + m) * 4, none⟩) r cb, .slice (some ⟨b, off, none⟩) m mc]).run Try.prog W1 = .ok (.value (.bool false)) W1 := fun cb =>
              lapcall W1 _ _ r cb m mc (fun _ _ => by
                have hx : 0 < (scs C m).length := by omega
                obtain ⟨tb, kb, hb1, hb2⟩ := cell_shape (HCd.out b (off + 0) _ (HC1.out 0 _ (List.getElem?_eq_getElem hx)))
                obtain ⟨r1, r2⟩ := row_shape HGd.out
                exact ⟨_, _, _, _, tb, kb, rfl, rfl, fun e => hbg e.symm, r1, hb1, by omega, hb2, .inl r2, rfl, rfl⟩)
            go_wp2_with (simp only [hov])
            have HTd : Box (∀ (i : Nat) (v : Value), (scs (fun k => F (j + k)) r)[i]? = some v → W1.cell? ⟨g, j * 4 + i, none⟩ = some v) := boxed (fun i v hi => by
              rw [row_cell HGd.out]; exact HTl.out i v hi)
            clear hov
            go_region_law (refine step_copyW rfl (.tmp 126) (.tmp 129) rfl (some ⟨g, (f + m) * 4, none⟩) (some ⟨g, j * 4, none⟩) r (cap - (f + m)) r (cap - j) (by simp [Act.eval, Act.put]) (by simp [Act.eval, Act.put]) g ((f + m) * 4) r L (scs (fun k => F (j + k)) r) (by exact HGd.out) HK2.out hl2 (fun _ => ⟨rfl, g, j * 4, rfl, fun i v hi => by exact HTd.out i v hi⟩) HF2.out (scs_one _ _) ?_; intro w2 h5 h6)
            have HC2 : Box (∀ (i : Nat) (v : Value), (scs C m)[i]? = some v → w2.cell? ⟨b, off + i, none⟩ = some v) := boxed (fun i v hi => far_cell h6.out (HCd.out _ _ _ (HC1.out i v hi)) hbg)
            go_wp2_with (first | (with_reducible (show wpList _ _ _ ({ dst := _, op := Op.call { callee := Callee.builtin Builtin.copy, args := _, argTypes := _ }, type := _, pos := _, after := _, guard := _ } :: _) _ _); refine wpList_copyW rfl _ _ rfl (some ⟨g, f * 4, none⟩) (some ⟨b, off, none⟩) (tot - f) (cap - f) m mc rfl rfl g (f * 4) m _ (scs C m) h5.out HK.out hl1 (fun h => ⟨rfl, b, off, rfl, HC2.out⟩) HF.out (scs_one _ _) ?_))
            intro w3 h7 h8
            go_wp2_with fail
            go_ret
            have h12 := splice_swap L (f * 4) (scs C m) (scs (fun k => F (j + k)) r) (by omega)
            rw [show f * 4 + (scs C m).length = (f + m) * 4 by omega] at h12
            have := HO.out w3 _ h7.out (by rw [HTn.out]; exact hroom) (by rw [splice_len _ _ _ HF.out, h3]; exact hL) (by
              rw [HTn.out, show tot * 4 = (f + m) * 4 + (scs (fun k => F (j + k)) r).length by omega, h12, HH1.out, HTe.out])
              (grown_trans HDd.out (grown_trans (b := w2) ⟨h6.out.os, h6.out.tape, h6.out.output, h6.out.size, h6.out.block⟩ h8.out))
            rw [HTn.out] at this
            exact this
        · have t1 : decide ((cap : Int) < (tot : Int)) = true := decide_eq_true (by omega)
          go_enter Try.func39, Try.ntmps39
          go_wp2_with fail
          go_quiet (fail)
          have HGd := boxed (dr_heap HG0.out nq)
          have HDd := boxed (dr_grown w nq (some g))
          have HSd := boxed (dr_size w nq)
          have HCd := boxed (fun b o v h => dr_cell (w := w) (b := b) (o := o) (v := v) h nq)
          generalize w.drewN nq = W1 at *
          go_wp2_with (first | (at_builtin; refine wpList_zeroW rfl _ _ rfl g f cap (tot - f) _ _ rfl rfl (by first | omega | (rw [IntKind.wrap_i64]; omega)) (scs F f) (scs_len F f) (fun j v hj => by rw [row_cell HGd.out]; exact HH2.out j v hj) (by omega) (by omega) (by omega) ?_))
          rw [show f + (tot - f) = tot by omega]
          intro w2 cap2 cur2 h1 h2 h3 h4 h5 h6
          have hgw : g < W1.heap.size := heap_lt HGd.out
          obtain ⟨Hn, hHn⟩ : ∃ Hn, W1.heap.size = Hn := ⟨_, rfl⟩
          have HHn := boxed hHn
          rw [hHn] at h3 hgw ⊢
          have s5 := slF Hn 0 tot cap2 f (f : Int) rfl (by omega) (by omega)
          simp only [sa_of (show f < cap2 by omega), Nat.zero_add] at s5
          have HT2 : Box (∀ (i : Nat) (v : Value), (scs (fun k => F (j + k)) r)[i]? = some v → w2.cell? ⟨g, j * 4 + i, none⟩ = some v) := boxed (fun i v hi => hold h6.out (by rw [row_cell HGd.out]; exact HTl.out i v hi))
          have HK : Box (Nat.min m (tot - f) = m) := boxed (by simp only [Nat.min_def]; split <;> omega)
          have HF : Box (f * 4 + (scs C m).length ≤ cur2.length) := boxed (by omega)
          clear hHn
          go_wp2_with (first | (with_reducible (show wpList _ _ _ ({ dst := _, op := Op.call { callee := Callee.builtin Builtin.copy, args := _, argTypes := _ }, type := _, pos := _, after := _, guard := _ } :: _) _ _); refine wpList_copyW rfl _ _ rfl (some ⟨Hn, f * 4, none⟩) bo (tot - f) (cap2 - f) m mc rfl rfl Hn (f * 4) m _ (scs C m) h3.out HK.out hl1 (fun h => ⟨rfl, by obtain ⟨b, off, e1, -, e2⟩ := HC.out h; exact ⟨b, off, e1, fun j v hj => hold h6.out (HCd.out _ _ _ (e2 j v hj))⟩⟩) HF.out (scs_one _ _) ?_))
          intro w3 h7 h8
          have HT3 : Box (∀ (i : Nat) (v : Value), (scs (fun k => F (j + k)) r)[i]? = some v → w3.cell? ⟨g, j * 4 + i, none⟩ = some v) := boxed (fun i v hi => far_cell h8.out (HT2.out i v hi) (by omega))
          have h9 := splice_len cur2 (f * 4) (scs C m) (by omega)
          have hb2 : ¬ (cap2 = f + m) := by omega
          have HK2 : Box (Nat.min r r = r) := boxed (by simp only [Nat.min_def]; split <;> omega)
          have HF2 : Box ((f + m) * 4 + (scs (fun k => F (j + k)) r).length ≤ (splice cur2 (f * 4) (scs C m)).length) := boxed (by rw [h9]; omega)
          clear s1 s2 s5
          go_wp2_with fail
          go_region_law (refine step_copyW rfl (.tmp 78) (.tmp 81) rfl (some ⟨Hn, (f + m) * 4, none⟩) (some ⟨g, j * 4, none⟩) r (cap2 - (f + m)) r (cap - j) (by simp [Act.eval, Act.put]) (by simp [Act.eval, Act.put]) Hn ((f + m) * 4) r (splice cur2 (f * 4) (scs C m)) (scs (fun k => F (j + k)) r) (by exact h7.out) HK2.out hl2 (fun _ => ⟨rfl, g, j * 4, rfl, fun i v hi => by exact HT3.out i v hi⟩) HF2.out (scs_one _ _) ?_; intro w4 h10 h11)
          go_wp2_with fail
          go_ret
          have h12 := splice_two cur2 (f * 4) (scs C m) (scs (fun k => F (j + k)) r) (by omega)
          rw [show f * 4 + (scs C m).length = (f + m) * 4 by omega] at h12
          have hHw : w.heap.size = Hn := by rw [← HHn.out, HSd.out]
          have hHW : W1.heap.size ≤ Hn := by rw [HHn.out]; exact Nat.le_refl _
          have hBl : Below W1.heap.size W1 w4 := grown_shift (grown_shift h6.out h8.out hHW) ⟨h11.out.os, h11.out.tape, h11.out.output, h11.out.size, h11.out.block⟩ hHW
          subst hHw
          have := HN.out w4 cap2 _ h10.out (by rw [HTn.out]; exact h1) h2 (by rw [splice_len _ _ _ HF2.out, h9]; exact h4) (by
            rw [HTn.out, show tot * 4 = (f + m) * 4 + (scs (fun k => F (j + k)) r).length by omega, h12, h5, HTe.out])
            (grown_trans HDd.out (grown_below2 _ hBl))
          rw [HTn.out] at this
          exact this
end Go.Proofs.Ytdpjaafdpgkclaa
