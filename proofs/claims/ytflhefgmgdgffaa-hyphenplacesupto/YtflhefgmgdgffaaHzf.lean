/-
  What the program's Places answers.
-/
import Derived.Test.YtflhefgmgdgffaaHze
import Derived.Test.YtflhefgmgdgffaaHzb
import Derived.Test.YtflhefgmgdgffaaHyp
namespace Go.Proofs.Ytflhefgmgdgffaa
open Go.RowKit Go.Maps
set_option linter.unusedSimpArgs false
set_option linter.unusedVariables false

/-- What is told of a text's places. -/
def PlcP (Q W : PL) (l r : Nat) (s : ByteArray) (out : List Nat) : Prop := (rt s = false ∧ out = []) ∨ (rt s = true ∧ ∃ f, PcOk Q W l r f s (Wds s) ∧ out = plc f s (Wds s))
theorem PlcP.uniq {Q W : PL} {l r : Nat} {s : ByteArray} {a b : List Nat} (h : PlcP Q W l r s a) (g : PlcP Q W l r s b) : a = b := by
  rcases h with ⟨h1, h2⟩ | ⟨h1, f, hf, h2⟩
  · rcases g with ⟨g1, g2⟩ | ⟨g1, -, g2⟩
    · rw [h2, g2]
    · rw [h1] at g1; cases g1
  · rcases g with ⟨g1, g2⟩ | ⟨g1, k, hk, g2⟩
    · rw [h1] at g1; cases g1
    · rw [h2, g2]
      exact plc_same (fun p hp => (hf p hp).uniq (hk p hp))
theorem PlcP.rise {Q W : PL} {l r : Nat} {s : ByteArray} {a : List Nat} (h : PlcP Q W l r s a) : Rise s a := by
  rcases h with ⟨-, h2⟩ | ⟨-, f, h1, h2⟩
  · rw [h2]; exact rise_nil s
  · rw [h2]; exact plc_text h1
theorem PlcP.len {Q W : PL} {l r : Nat} {s : ByteArray} {a : List Nat} (h : PlcP Q W l r s a) : a.length ≤ s.size * 256 := by
  rcases h with ⟨-, h2⟩ | ⟨-, f, h1, h2⟩
  · rw [h2]; exact Nat.zero_le _
  · have h3 := plc_len h1
    have h4 := wds_len s
    have h5 := nR_le s
    rw [h2]
    exact Nat.le_trans h3 (Nat.mul_le_mul_right _ (Nat.le_trans h4 h5))
theorem str_cut (s : ByteArray) (i j : Nat) (h1 : i ≤ j) (h2 : j ≤ s.size) (w : World) : (Instr.slice 9 (.string s) (some (.int .i64 (i : Int))) (some (.int .i64 (j : Int))) none).run Try.prog w = .ok (.string (s.extract i j)) w := by
  have := run_slice_string (P := Try.prog) (w := w) 9 s .i64 .i64 (i : Int) (j : Int) Try.underlying9 (by omega) (by omega) (by omega)
  simpa using this
theorem atv_in (t : ByteArray) (n : Nat) (h : n < nR t) : atv t (nR t) (n : Int) = ((it t n : Int), true) := by
  unfold atv; rw [if_pos (by omega)]; simp
set_option maxRecDepth 100000 in
set_option maxHeartbeats 8000000 in
theorem places_any (w : World) (bp eb lb wb l r : Nat) (Nd : List (List Nat)) (Z Y : ZL) (s : ByteArray) (h : BkAt w bp eb lb wb l r Nd Z Y) (hs : s.size ≤ 1048576) (hl : l ≤ 100) (hr : r ≤ 100) :
    Calls Try.prog 18 #[.pointer (some ⟨bp, 0, none⟩), .string s] w fun e w' => ∃ out v, e = .returned v ∧ w'.ownsRow w.heap.size 3 1 v out.length (vals out) ∧ PlcP (zQ Z) (zQ Y) l r s out ∧ Below w.heap.size w w' := by
  obtain ⟨i2, hi2, hz0, hz1, hz2⟩ := info_parts info_int
  have hs' : s.size ≤ maxLen := by unfold maxLen; omega
  have hc := check_any s w hs' (nR s) (nR_cnt s)
  have hk : (chk s (nR s) = 0 ∧ rt s = true) ∨ (chk s (nR s) = 20 ∧ rt s = false) := by
    unfold chk
    by_cases c : badAt s (nR s) < 0
    · exact .inl ⟨if_pos c, (rt_bad s).1 c⟩
    · refine .inr ⟨if_neg c, ?_⟩
      cases h : rt s
      · rfl
      · exact absurd ((rt_bad s).2 h) c
  rcases hk with ⟨e1, e2⟩ | ⟨e1, e2⟩
  rotate_left
  · rw [e1] at hc
    have HP : Box (PlcP (zQ Z) (zQ Y) l r s []) := boxed (.inl ⟨e2, rfl⟩)
    clear e1 e2 h hs hs'
    go_enter Try.func18, Try.ntmps18
    go_wp2_with (go_at_call 37; refine hc.mono ?_; rintro e w' ⟨rfl, hw'⟩; subst w')
    go_ret
    exact ⟨[], _, rfl, World.ownsRow_nil _ _ _ _, HP.out, Below.refl _ _⟩
  rw [e1] at hc
  obtain ⟨f, hf⟩ := pts_fun (zQ Z) (zQ Y) l r
  have HF := boxed hf
  clear hf
  have HRT := boxed e2
  have HBK := boxed h
  have HSZ := boxed hs
  have hws := words_any s w hs e2
  clear e1 e2 h
  go_enter Try.func18, Try.ntmps18
  go_wp2_with (first | (go_at_call 37; refine hc.mono ?_; rintro e w' ⟨rfl, hw'⟩; subst w'))
  refine hws.mono ?_
  rintro e w1 ⟨vw, rfl, how, hb1⟩
  have HB1 := boxed hb1
  have HW := boxed how
  have HWL : Box ((Wds s).length ≤ 1048576) := boxed (by have := wds_len s; have := nR_le s; omega)
  have HWO := boxed (wds_ok s)
  clear hws hb1 how hc hs hs'
  obtain ⟨P, hP⟩ : ∃ P, Wds s = P := ⟨_, rfl⟩
  rw [hP] at HW HWL HWO
  obtain ⟨n, hn⟩ : ∃ n, P.length = n := ⟨_, rfl⟩
  have HN := boxed hn
  have HPP := boxed hP
  rw [hn] at HW HWL
  clear hn hP
  have hnb := HWL.out
  obtain ⟨wo, wc, rfl⟩ := own_shape HW.out
  go_wp2_with fail
  go_loopw [5, 19] (fun vq vk wr => ∃ k : Nat, k ≤ n ∧ vk = .int .i64 (k : Int) ∧ Box (PcOk (zQ Z) (zQ Y) l r f s (P.take k)) ∧ Box (wr.ownsRow w1.heap.size 3 1 vq (plc f s (P.take k)).length (vals (plc f s (P.take k)))) ∧ Box (Below w1.heap.size w1 wr)) (fun _ vk _ => n - (intOf vk).toNat)
  case atStart => exact ⟨0, Nat.zero_le _, rfl, boxed (fun p hp => by simp at hp), boxed (World.ownsRow_nil _ _ _ _), boxed (Below.refl _ _)⟩
  case round =>
    obtain ⟨k, hk, rfl, HPC, HQ, HB2⟩ := hrel
    obtain ⟨wo, hwo⟩ : ∃ wo, wo = wr := ⟨_, rfl⟩
    subst hwo
    by_cases hlt : k < n
    · have HWr := boxed (owns_below HW.out HB2.out)
      obtain ⟨g, cap, e1, hcap⟩ := own_cell2 HWr.out (by omega)
      injection e1 with e1 e2 e3
      subst e1
      clear e2 e3
      have hki : (k : Int) < (n : Int) := by omega
      obtain ⟨p1, p2⟩ := pvals_get P k (by rw [HN.out]; exact hlt)
      have c1 := HWr.out.cellAt (k * 2) (by omega)
      have c2 := HWr.out.cellAt (k * 2 + 1) (by omega)
      rw [p1] at c1
      rw [p2] at c2
      have HTK : Box (P.take (k + 1) = P.take k ++ [P.getD k (0, 0)]) := boxed (by
        have hh : k < P.length := by rw [HN.out]; exact hlt
        rw [List.take_add_one, List.getElem?_eq_getElem hh, List.getD_eq_getElem?_getD, List.getElem?_eq_getElem hh]; rfl)
      have hbd : (P.getD k (0, 0)).1 ≤ (P.getD k (0, 0)).2 ∧ (P.getD k (0, 0)).2 ≤ s.size := by
        have hh : k < P.length := by rw [HN.out]; exact hlt
        refine HWO.out _ ?_
        rw [List.getD_eq_getElem?_getD, List.getElem?_eq_getElem hh]; exact List.getElem_mem hh
      generalize P.getD k (0, 0) = pr at *
      obtain ⟨x, y⟩ := pr
      simp only at c1 c2 hbd p1 p2
      have hct := fun W => str_cut s x y hbd.1 hbd.2 W
      have HTX : Box (s.extract x y = wtx s (x, y)) := boxed rfl
      have hts : (s.extract x y).size ≤ 1048576 := by have := wtx_size s (x, y) hbd; have := HSZ.out; unfold wtx at *; simp only at *; omega
      have HPL := boxed (fun (out : List Nat) (h : PtsS (zQ Z) (zQ Y) l r (wtx s (x, y)) out) => pcok_snoc HF.out HPC.out h)
      have HPS : Box (∀ out : List Nat, PtsS (zQ Z) (zQ Y) l r (wtx s (x, y)) out → plc f s (P.take (k + 1)) = plc f s (P.take k) ++ out.map fun m => x + it (wtx s (x, y)) m) := boxed (fun out h => by
        rw [HTK.out, plc_snoc]; unfold plw; rw [← HF.out _ _ h])
      have HLN := boxed (plc_len HPC.out)
      have HXB : Box (∀ m, x + it (wtx s (x, y)) m ≤ 1048576) := boxed (fun m => by
        have := it_le (wtx s (x, y)) m; have := wtx_size s (x, y) hbd; have := HSZ.out; simp only at *; omega)
      have hl1 := (HTK.out ▸ HPL.out : ∀ out : List Nat, PtsS (zQ Z) (zQ Y) l r (wtx s (x, y)) out → PcOk (zQ Z) (zQ Y) l r f s (P.take (k + 1)))
      have HPL2 := boxed hl1
      have htl : (P.take k).length ≤ 1048576 := by rw [List.length_take]; have := HWL.out; omega
      clear hl1 HPL HTK p1 p2
      rw [HTX.out] at hct hts
      have hbk := HBK.out.below (HB1.out.trans (HB2.out.mono HB1.out.size))
      have hal := (Below.refl wo.heap.size wo).alloc (Nat.le_refl _) (.cells #[.int .i64 (x : Int), .int .i64 (y : Int)] 43)
      have hpt := points_any _ bp eb lb wb l r Nd Z Y (wtx s (x, y)) (hbk.below hal) (by unfold maxLen; omega) hl hr
      have HAL := boxed hal
      clear hbk hal HTX hbd
      obtain ⟨PK, hPK⟩ : ∃ PK, plc f s (P.take k) = PK := ⟨_, rfl⟩
      rw [hPK] at HQ HPS HLN
      clear hPK
      generalize wtx s (x, y) = t at *
      go_wp2_with fail
      refine hpt.mono ?_
      rintro e w2 ⟨out, vp, rfl, hop, hps, hb2⟩
      have HPO := boxed (pts_in hps)
      have HPE := boxed (HPS.out out hps)
      have HPC2 := boxed (HPL2.out out hps)
      have HB3 : Box (Below wo.heap.size wo w2) := boxed (HAL.out.trans (hb2.mono HAL.out.size))
      have HQ3 := boxed (owns_below HQ.out HB3.out)
      have HP3 := boxed (own_down hop (show wo.heap.size ≤ _ from HAL.out.size))
      have HAP : Box (vp.ownBlock = none ∨ vp.ownBlock ≠ u5.ownBlock) := boxed (by
        cases c : vp.ownBlock with
        | none => exact .inl rfl
        | some b =>
          right
          intro e
          have h1 := owns_ge hop b c
          have h2 := (HQ.out.lt b e.symm).2
          simp at h1
          omega)
      have HEE : Box (w2.heap[wo.heap.size]? = some (.cells #[.int .i64 (x : Int), .int .i64 (y : Int)] 43 (0, 0))) := boxed ((hb2.block _ (by simp)).trans (heap_alloc_new wo _))
      clear hpt hb2 hop hps HAL HPS HPL2 c1 c2 hct hcap HQ
      obtain ⟨m, hm⟩ : ∃ m, out.length = m := ⟨_, rfl⟩
      have HM := boxed hm
      have hm256 : m ≤ 256 := by have := HPO.out.1; omega
      rw [hm] at HP3
      obtain ⟨po, pc, rfl⟩ := own_shape HP3.out
      obtain ⟨M, hM⟩ : ∃ M, (out.map fun m => x + it t m) = M := ⟨_, rfl⟩
      rw [hM] at HPE
      have HMM := boxed hM
      have HML : Box (M.length = m) := boxed (by rw [← hM, List.length_map]; exact hm)
      clear hm hM
      go_wp2_with fail
      have HE3 : Box (w2.heap[wo.heap.size]? = some (.cells #[.int .i64 (x : Int), .int .i64 (y : Int)] 43 (0, 0))) := HEE
      go_loopw [5, 33] (fun vq vj wr => ∃ j : Nat, j ≤ m ∧ vj = .int .i64 (j : Int) ∧ Box (wr.ownsRow w1.heap.size 3 1 vq (PK ++ M.take j).length (vals (PK ++ M.take j))) ∧ Box (wr.ownsRow wo.heap.size 3 1 (.slice po m pc) m (vals out)) ∧ Box ((Value.slice po m pc).ownBlock = none ∨ (Value.slice po m pc).ownBlock ≠ vq.ownBlock) ∧ Box (wr.heap[wo.heap.size]? = some (.cells #[.int .i64 (x : Int), .int .i64 (y : Int)] 43 (0, 0))) ∧ Box (Below w1.heap.size w1 wr)) (fun _ vj _ => m - (intOf vj).toNat)
      case atStart => exact ⟨0, Nat.zero_le _, rfl, boxed (by simpa using HQ3.out), HP3, HAP, HE3, boxed (below_step HB2.out (Nat.le_refl _) HB3.out)⟩
      case round =>
        clear HQ3 HP3 HAP HE3 HEE
        obtain ⟨j, hj, rfl, HQ4, HP4, HAP4, HE4, HB4⟩ := hrel
        by_cases hjm : j < m
        · obtain ⟨gp, pc', e1, -, hcl, -⟩ := own_cell HP4.out j hjm
          injection e1 with e1 e2 e3
          subst e1
          clear e2 e3
          rw [vals_get _ _ (by rw [HM.out]; exact hjm)] at hcl
          have hin := HPO.out.2.2 (out.getD j 0) (getD_mem out j (by rw [HM.out]; exact hjm))
          have hat := at_any t (out.getD j 0 : Int) wr (by unfold maxLen; omega) (nR t) (rt_right hin.1)
          rw [atv_in t _ hin.2] at hat
          have hgm : M.getD j 0 = x + it t (out.getD j 0) := by
            rw [← HMM.out]
            have hh : j < out.length := by rw [HM.out]; exact hjm
            simp [List.getD_eq_getElem?_getD, hh]
          have HMS : Box (PK ++ M.take (j + 1) = (PK ++ M.take j) ++ [x + it t (out.getD j 0)]) := boxed (by
            rw [take_snoc M j (by rw [HML.out]; exact hjm), hgm, List.append_assoc])
          have hql : (PK ++ M.take j).length ≤ 268435456 + 256 := by
            rw [List.length_append, List.length_take]
            have := HLN.out
            have : (P.take k).length * 256 ≤ 1048576 * 256 := Nat.mul_le_mul_right _ htl
            omega
          have hxs := HXB.out (out.getD j 0)
          have hji : (j : Int) < (m : Int) := by omega
          clear hin hgm
          obtain ⟨q, hq⟩ : ∃ q, out.getD j 0 = q := ⟨_, rfl⟩
          rw [hq] at hcl hat HMS hxs
          clear hq
          obtain ⟨A, hA⟩ : ∃ A, it t q = A := ⟨_, rfl⟩
          rw [hA] at hat HMS hxs
          clear hA
          obtain ⟨U, hU⟩ : ∃ U, x + A = U := ⟨_, rfl⟩
          rw [hU] at HMS hxs
          have hsum : (x : Int) + (A : Int) = (U : Int) := by omega
          obtain ⟨QL, hQL⟩ : ∃ QL, PK ++ M.take j = QL := ⟨_, rfl⟩
          rw [hQL] at HQ4 HMS hql
          clear hQL hU
          obtain ⟨ql, hqn⟩ : ∃ ql, QL.length = ql := ⟨_, rfl⟩
          have HQN := boxed hqn
          rw [hqn] at HQ4 hql
          have HVS := boxed (vals_snoc QL U)
          clear hqn
          go_wp2_with fail
          refine hat.mono ?_
          rintro e w5 ⟨rfl, p, hw5⟩
          have hb5 : Below wr.heap.size wr w5 := by rw [hw5]; exact bel_iter _ _ _
          have HB5 : Box (Below w1.heap.size w1 w5) := boxed (below_step HB4.out (Nat.le_refl _) hb5)
          have HQ5 := boxed (owns_below HQ4.out hb5)
          have HP5 := boxed (owns_below HP4.out hb5)
          have HE5 : Box (w5.heap[wo.heap.size]? = some (.cells #[.int .i64 (x : Int), .int .i64 (y : Int)] 43 (0, 0))) := boxed ((hb5.block _ (heap_lt HE4.out)).trans HE4.out)
          have hx5 : w5.cell? ⟨wo.heap.size, 0, none⟩ = some (.int .i64 (x : Int)) := by rw [cell_of_row _ _ _ _ _ _ HE5.out]; rfl
          have hx5' : wo.heap.size < w5.heap.size := heap_lt HE5.out
          have hsz5 := HB5.out.size
          clear hat hb5 hw5 HQ4 HP4 HE4 hcl HB4
          go_wp2_with (at_builtin; refine wpList_append_apart rfl _ _ 36 rfl w1.heap.size 3 i2 (.int .i64 0) 1 8 Try.underlying36 hi2 hz0 hz1 hz2 rfl (by decide) _ _ _ rfl (HQ5.out.alloc _) ⟨w5.heap.size, 0, none⟩ 1 1 [.int .i64 (U : Int)] rfl rfl (one_new w5 _ _) ?c2 ?c3 ?c4 ?c5 (by omega) ?_)
          case c2 => intro u hu; simp at hu; subst hu; rfl
          case c3 => unfold maxLen; omega
          case c4 => omega
          case c5 => simp; omega
          intro v6 w6 hown6 hgrow6 hwh6
          have HB6 : Box (Below w1.heap.size w1 w6) := boxed ((HB5.out.alloc (by omega) _).grown hgrow6 (by simp; omega) (fun k hk => (HQ5.out.lt k hk).1))
          rw [HVS.out] at hown6
          have HQ6 : Box (w6.ownsRow w1.heap.size 3 1 v6 (PK ++ M.take (j + 1)).length (vals (PK ++ M.take (j + 1)))) := boxed (by rw [HMS.out, List.length_append, HQN.out]; exact hown6)
          have HP6 := boxed ((HP5.out.alloc _).kept hgrow6 HAP4.out)
          have HAP6 : Box ((Value.slice (some ⟨gp, 0, none⟩) m pc).ownBlock = none ∨ (Value.slice (some ⟨gp, 0, none⟩) m pc).ownBlock ≠ v6.ownBlock) := boxed (by
            rcases hwh6 with c | c
            · rw [c]; exact HAP4.out
            · right
              rw [c]
              intro e
              have h5 := (HP5.out.lt _ e).2
              have h6 := (World.grownBy_alloc w5 (.cells #[.int .i64 (U : Int)] 3) none).size
              omega)
          have HE6 : Box (w6.heap[wo.heap.size]? = some (.cells #[.int .i64 (x : Int), .int .i64 (y : Int)] 43 (0, 0))) := boxed (by
            rw [hgrow6.block _ (by simp; omega) (fun c => own_ne HQ5.out HE5.out (by decide) c.symm), Below.heap_alloc _ _ _ hx5']
            exact HE5.out)
          clear hown6 hgrow6 hwh6 HQ5 HP5 HAP4 HE5 hx5 HB5
          go_wp2
          go_roundw
          case rel => exact ⟨j + 1, by omega, by go_num, HQ6, HP6, HAP6, HE6, HB6⟩
          case measure => simp [intOf]; omega
        · have e : j = m := by omega
          subst e
          have HQE : Box (wr.ownsRow w1.heap.size 3 1 u5 (plc f s (P.take (k + 1))).length (vals (plc f s (P.take (k + 1))))) := boxed (by
            rw [HPE.out]
            have := HQ4.out
            rw [List.take_of_length_le (by rw [HML.out]; exact Nat.le_refl _)] at this
            exact this)
          clear HQ4 HP4 HAP4 HE4
          go_wp2_with fail
          go_roundw
          case rel => exact ⟨k + 1, by omega, by go_num, HPC2, HQE, HB4⟩
          case measure => simp [intOf]; omega
    · have e : k = n := by omega
      have HE : Box (P.take k = Wds s) := boxed (by rw [HPP.out, List.take_of_length_le (by rw [HN.out]; omega)])
      have HPO : Box (PlcP (zQ Z) (zQ Y) l r s (plc f s (P.take k))) := boxed (.inr ⟨HRT.out, f, by rw [← HE.out]; exact HPC.out, by rw [HE.out]⟩)
      have HQ2 := boxed (own_down HQ.out HB1.out.size)
      subst e
      clear HQ
      go_wp2_with fail
      go_ret
      exact ⟨_, _, rfl, HQ2.out, HPO.out, below_step HB1.out (Nat.le_refl _) HB2.out⟩
end Go.Proofs.Ytflhefgmgdgffaa
