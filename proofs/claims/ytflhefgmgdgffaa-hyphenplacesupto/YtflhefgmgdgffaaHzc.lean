/-
  What the document's Words answers of a right text.
-/
import Derived.Test.YtflhefgmgdgffaaHzb
import Derived.Test.YtflhefgmgdgffaaHys
import Derived.BigQuiet
import Derived.Laws.Runes
namespace Go.Proofs.Ytflhefgmgdgffaa
open Go.RowKit Go.Maps
set_option linter.unusedSimpArgs false
set_option linter.unusedVariables false

set_option maxRecDepth 100000 in
theorem end_any (s : ByteArray) (w : World) (ao : Option Addr) (cap N i : Nat) (hd : Dg w ao cap (its s N)) (hi : i < N) (hN : N ≤ 1048576) (he : it s N = s.size) :
    Calls Try.prog 36 #[.string s, .slice ao N cap, .int .i64 (i : Int)] w fun e w' => e = .returned (.int .i64 ((it s (i + 1) : Nat) : Int)) ∧ w' = w := by
  obtain ⟨b, off, rfl, hbl, hc⟩ := hd.at (by rw [its_len]; omega)
  rw [its_len] at hc
  by_cases h : i + 1 < N
  · have hcl := hc (i + 1) h
    rw [its_get _ _ _ h] at hcl
    obtain ⟨q, hq⟩ : ∃ q, i + 1 = q := ⟨_, rfl⟩
    rw [hq] at hcl h ⊢
    have hqi : (i : Int) + 1 = (q : Int) := by omega
    have hqN : (q : Int) < (N : Int) := by omega
    clear hc hq
    go_enter Try.func36, Try.ntmps36
    go_wp2
    go_ret
    exact ⟨rfl, rfl⟩
  · have e : i + 1 = N := by omega
    rw [e, he]
    have hqi : (i : Int) + 1 = (N : Int) := by omega
    clear hc
    go_enter Try.func36, Try.ntmps36
    go_wp2
    go_ret
    exact ⟨rfl, rfl⟩
theorem last_end (F : PR) (hF : F ≠ []) : (pvals F)[(F.length - 1) * 2 + 1]? = some (.int .i64 ((F.getD (F.length - 1) (0, 0)).2 : Nat)) ∧ F.getD (F.length - 1) (0, 0) ∈ F := by
  have hl : 0 < F.length := List.length_pos_iff.2 hF
  refine ⟨(pvals_get F (F.length - 1) (by omega)).2, ?_⟩
  rw [List.getD_eq_getElem?_getD, List.getElem?_eq_getElem (by omega)]
  exact List.getElem_mem _
set_option maxRecDepth 100000 in
set_option maxHeartbeats 8000000 in
theorem refwords_any (s : ByteArray) (w : World) (hs : s.size ≤ 1048576) (hr : rt s = true) :
    Calls Try.prog 17 #[.string s] w fun e w' => ∃ v, e = .returned v ∧ w'.ownsRow w.heap.size 43 2 v (Wds s).length (pvals (Wds s)) ∧ Below w.heap.size w w' := by
  obtain ⟨i2, hi2, hz0, hz1, hz2⟩ := info_parts info_pair
  have hnl := nR_le s
  have HSZ := boxed (rt_right hr).2
  have hru := runes_any s w hs (nR s) (nR_cnt s)
  generalize badAt s (nR s) = bad at *
  clear hr
  go_enter Try.func17, Try.ntmps17
  go_wp2_with fail
  refine hru.mono ?_
  rintro e w1 ⟨aa, ca, aa2, ca2, rfl, hd1, hd2, hb1⟩
  have HB1 := boxed hb1
  have HD1 := boxed hd1
  have HD2 := boxed hd2
  clear hb1 hru hd1 hd2
  obtain ⟨N, hN⟩ : ∃ N, nR s = N := ⟨_, rfl⟩
  have HN := boxed hN
  rw [hN] at hnl HSZ HD1 HD2 ⊢
  clear hN
  go_wp2_with fail
  go_loopw [6, 7] (fun vw vi wr => ∃ (k : Nat) (F : PR) (o : Option Nat), k ≤ N ∧ vi = .int .i64 (k : Int) ∧ Box (ws s k = (F, o)) ∧ Box (wr.ownsRow w1.heap.size 43 2 vw (wsl (F, o) (it s k)).length (pvals (wsl (F, o) (it s k)))) ∧ Box (Below w1.heap.size w1 wr)) (fun _ vi _ => N - (intOf vi).toNat)
  case atStart => exact ⟨0, [], none, Nat.zero_le _, rfl, boxed rfl, boxed (World.ownsRow_nil _ _ _ _), boxed (Below.refl _ _)⟩
  case round =>
    obtain ⟨k, F, o, hk, rfl, HW, HL, HB2⟩ := hrel
    by_cases hlt : k < N
    · have hlt' : k < nR s := by rw [HN.out]; exact hlt
      obtain ⟨b, off, rfl, hbl, hcl1⟩ := HD1.out.at (by rw [rns_len]; omega)
      have hcr := hcl1 k (by rw [rns_len]; exact hlt)
      rw [rns_get _ _ _ hlt] at hcr
      replace hcr := hold HB2.out hcr
      have hwl := ws_len s k
      rw [HW.out] at hwl
      have hwo := ws_ok s k (by omega)
      rw [HW.out] at hwo
      have hki : (k : Int) < (N : Int) := by omega
      have hlet := fun W => refletter_any (rn s k) (rn_le s k) W
      clear hcl1
      cases hL : ltr (rn s k) with
      | false =>
        have HW2 : Box (∃ F' o', ws s (k + 1) = (F', o') ∧ wsl (F', o') (it s (k + 1)) = wsl (F, o) (it s k)) := boxed (by
          cases o with
          | none => exact ⟨F, none, ws_out s k HW.out hL, rfl⟩
          | some c => exact ⟨_, none, ws_end s k HW.out hL, rfl⟩)
        rw [hL] at hlet
        clear hL hwo hwl
        generalize rn s k = r at *
        go_wp2_with fail
        refine (hlet _).mono ?_
        rintro e w2 ⟨rfl, hbl2⟩
        have HB3 := boxed (below_step HB2.out (Nat.le_refl _) hbl2)
        have HL3 := boxed (owns_below HL.out hbl2)
        clear hlet hbl2 hcr HL HB2
        go_wp2
        go_roundw
        case rel =>
          obtain ⟨F', o', h1, h2⟩ := HW2.out
          exact ⟨k + 1, F', o', by omega, by go_num, boxed h1, boxed (by rw [h2]; exact HL3.out), HB3⟩
        case measure => simp [intOf]; omega
      | true =>
        rw [hL] at hlet
        have hit := it_lt s k hlt'
        have hitk := it_le s k
        obtain ⟨b2, off2, rfl, hbl2, hcl2⟩ := HD2.out.at (by rw [its_len]; omega)
        have hca := hcl2 k (by rw [its_len]; exact hlt)
        rw [its_get _ _ _ hlt] at hca
        have HEN : Box (∀ W, Below w1.heap.size w1 W → Calls Try.prog 36 #[.string s, .slice (some ⟨b2, off2, none⟩) N ca2, .int .i64 (k : Int)] W fun e w' => e = .returned (.int .i64 ((it s (k + 1) : Nat) : Int)) ∧ w' = W) := boxed (fun W hW => end_any s W _ ca2 N k (HD2.out.below hW) hlt (by omega) HSZ.out)
        have HWI := boxed (fun c (h : o = some c) => ws_in s k (by rw [HW.out, h]) hL)
        have HWG := boxed (fun (h : o = none) => ws_go s k (by rw [HW.out, h]) hL)
        clear hL hcl2
        obtain ⟨A0, hA0⟩ : ∃ A0, it s k = A0 := ⟨_, rfl⟩
        obtain ⟨E0, hE0⟩ : ∃ E0, it s (k + 1) = E0 := ⟨_, rfl⟩
        rw [hA0] at hit hwo hca HL HWG hitk
        rw [hE0] at hit HEN
        replace hA0 := boxed hA0
        replace hE0 := boxed hE0
        generalize rn s k = r at *
        go_wp2_with fail
        refine (hlet _).mono ?_
        rintro e w2 ⟨rfl, hbl2'⟩
        have HB3 := boxed (below_step HB2.out (Nat.le_refl _) hbl2')
        have HL3 := boxed (owns_below HL.out hbl2')
        replace hca := hold HB3.out hca
        have hsz3 := HB3.out.size
        clear hlet hbl2' hcr HL HB2
        cases o with
        | none =>
          rw [wsl_none] at HL3
          have HW2 := boxed (HWG.out rfl)
          simp only [Option.isSome_none, Option.isSome_some, Bool.toNat_false, Bool.toNat_true] at hwl
          have H1c : Box (∀ u ∈ ([.int .i64 (A0 : Int), .int .i64 (E0 : Int)] : List Value), u.oneCell' = true) := boxed (by intro u hu; simp at hu; rcases hu with rfl | rfl <;> rfl)
          have HSN := boxed (pvals_snoc F A0 E0)
          by_cases hF : F = []
          · have hl0 : F.length = 0 := by rw [hF]; rfl
            have HLL := boxed hl0
            rw [hl0] at HL3 hwl
            obtain ⟨vo, vc, rfl⟩ := own_shape HL3.out
            clear hl0 hF hwo HWG HWI
            go_wp2_with fail
            go_quiet (fail)
            obtain ⟨W3, hW3⟩ : ∃ W3, w2.drewN nq = W3 := ⟨_, rfl⟩
            have hb23 : Below w2.heap.size w2 W3 := by rw [← hW3]; exact bel_drewN _ _ _
            rw [hW3]
            clear hW3
            have HB4 := boxed (below_step HB3.out (Nat.le_refl _) hb23)
            replace hca := hold hb23 hca
            have hbd : Below W3.heap.size W3 ((W3.alloc (.cells #[.int .i64 (A0 : Int), .int .i64 (E0 : Int)] 43)).drew) := ((Below.refl _ _).alloc (Nat.le_refl _) _).drew
            have HOa := boxed (owns_below (owns_below HL3.out hb23) hbd)
            have HNw : Box (∀ j u, ([.int .i64 (A0 : Int), .int .i64 (E0 : Int)] : List Value)[j]? = some u → ((W3.alloc (.cells #[.int .i64 (A0 : Int), .int .i64 (E0 : Int)] 43)).drew).cell? ((⟨W3.heap.size, 0, none⟩ : Addr).add j) = some u) := boxed (by
              intro j u hj
              rw [World.cell?_drew]
              exact two_new W3 _ _ _ j u hj)
            have hsz4 := HB4.out.size
            have hb0 : w1.heap.size ≤ ((W3.alloc (.cells #[.int .i64 (A0 : Int), .int .i64 (E0 : Int)] 43)).drew).heap.size := by simp; omega
            have HBd := boxed (below_step HB4.out (Nat.le_refl _) hbd)
            have HEND := boxed (HEN.out W3.drew (below_step HB4.out (Nat.le_refl _) (Below.refl _ _).drew))
            clear hb23 hbd HL3 HB3 HEN
            go_wp2_with fail
            go_region_law
              (first | (refine step_append_apart rfl _ _ 41 rfl w1.heap.size 43 i2 (.agg #[.int .i64 0, .int .i64 0]) 2 16 Try.underlying41 hi2 hz0 hz1 hz2 rfl (by decide) _ _ _ rfl HOa.out ⟨W3.heap.size, 0, none⟩ 1 1 [.int .i64 (A0 : Int), .int .i64 (E0 : Int)] rfl rfl HNw.out H1c.out (by unfold maxLen; omega) (by omega) hb0 (by omega) ?_; intro v5 w5 hown5 hgrow5 _; have HO5 := boxed hown5; have HB5 := boxed (HBd.out.grown hgrow5 HBd.out.size (fun k hk => (HOa.out.lt k hk).1)); clear hown5 hgrow5) | (refine step_call rfl 36 #[.string s, .slice (some ⟨b2, off2, none⟩) N ca2, .int .i64 (k : Int)] (by go_simp) _ HEND.out ?_))
            all_goals
              go_wp2_with fail
              go_roundw
              case rel => exact ⟨k + 1, F, some A0, by omega, by go_num, HW2, boxed (by rw [hE0.out, wsl_some, List.length_append, HLL.out, ← HSN.out]; exact HO5.out), HB5⟩
              case measure => simp [intOf]; omega
          · obtain ⟨hlc, hmem⟩ := last_end F hF
            have hx := (hwo.1 _ hmem).2
            obtain ⟨p, hp⟩ : ∃ p, F.length = p + 1 := ⟨F.length - 1, by have := List.length_pos_iff.2 hF; omega⟩
            rw [show F.length - 1 = p by omega] at hlc hx
            generalize (F.getD p (0, 0)).2 = x at *
            obtain ⟨ll, hll⟩ : ∃ ll, F.length = ll := ⟨_, rfl⟩
            have HLL := boxed hll
            rw [hll] at HL3 hwl hp
            have hpi : (ll : Int) - 1 = (p : Int) := by omega
            have hpl : (p : Int) < (ll : Int) := by omega
            have t1 : decide ((0 : Int) < (ll : Int)) = true := decide_eq_true (by omega)
            have t1' : decide (0 < ll) = true := decide_eq_true (by omega)
            have t2 : ((x : Int) == (A0 : Int)) = false := by rw [beq_eq_false_iff_ne]; omega
            have t2' : (x == A0) = false := by rw [beq_eq_false_iff_ne]; omega
            obtain ⟨g, cap, rfl, hcap⟩ := own_cell2 HL3.out (by omega)
            have hoc := HL3.out.cellAt (p * 2 + 1) (by omega)
            rw [hlc] at hoc
            replace hp := boxed hp
            clear hlc hmem hwo HWG HWI hll hF
            go_wp2_with fail
            go_quiet (fail)
            clear hoc t1 t1' t2 t2' hpi hpl
            obtain ⟨W3, hW3⟩ : ∃ W3, w2.drewN nq = W3 := ⟨_, rfl⟩
            have hb23 : Below w2.heap.size w2 W3 := by rw [← hW3]; exact bel_drewN _ _ _
            rw [hW3]
            clear hW3
            have HB4 := boxed (below_step HB3.out (Nat.le_refl _) hb23)
            replace hca := hold hb23 hca
            have hbd : Below W3.heap.size W3 ((W3.alloc (.cells #[.int .i64 (A0 : Int), .int .i64 (E0 : Int)] 43)).drew) := ((Below.refl _ _).alloc (Nat.le_refl _) _).drew
            have HOa := boxed (owns_below (owns_below HL3.out hb23) hbd)
            have HNw : Box (∀ j u, ([.int .i64 (A0 : Int), .int .i64 (E0 : Int)] : List Value)[j]? = some u → ((W3.alloc (.cells #[.int .i64 (A0 : Int), .int .i64 (E0 : Int)] 43)).drew).cell? ((⟨W3.heap.size, 0, none⟩ : Addr).add j) = some u) := boxed (by
              intro j u hj
              rw [World.cell?_drew]
              exact two_new W3 _ _ _ j u hj)
            have hsz4 := HB4.out.size
            have hb0 : w1.heap.size ≤ ((W3.alloc (.cells #[.int .i64 (A0 : Int), .int .i64 (E0 : Int)] 43)).drew).heap.size := by simp; omega
            have HBd := boxed (below_step HB4.out (Nat.le_refl _) hbd)
            have HEND := boxed (HEN.out W3.drew (below_step HB4.out (Nat.le_refl _) (Below.refl _ _).drew))
            clear hb23 hbd HL3 HB3 HEN
            go_wp2_with fail
            go_region_law
              (first | (refine step_append_apart rfl _ _ 41 rfl w1.heap.size 43 i2 (.agg #[.int .i64 0, .int .i64 0]) 2 16 Try.underlying41 hi2 hz0 hz1 hz2 rfl (by decide) _ _ _ rfl HOa.out ⟨W3.heap.size, 0, none⟩ 1 1 [.int .i64 (A0 : Int), .int .i64 (E0 : Int)] rfl rfl HNw.out H1c.out (by unfold maxLen; omega) (by omega) hb0 (by omega) ?_; intro v5 w5 hown5 hgrow5 _; have HO5 := boxed hown5; have HB5 := boxed (HBd.out.grown hgrow5 HBd.out.size (fun k hk => (HOa.out.lt k hk).1)); clear hown5 hgrow5) | (refine step_call rfl 36 #[.string s, .slice (some ⟨b2, off2, none⟩) N ca2, .int .i64 (k : Int)] (by go_simp) _ HEND.out ?_))
            all_goals
              go_wp2_with fail
              go_roundw
              case rel => exact ⟨k + 1, F, some A0, by omega, by go_num, HW2, boxed (by rw [hE0.out, wsl_some, List.length_append, HLL.out, ← HSN.out]; exact HO5.out), HB5⟩
              case measure => simp [intOf]; omega
        | some c =>
          rw [wsl_some] at HL3
          have HW2 := boxed (HWI.out c rfl)
          simp only [Option.isSome_none, Option.isSome_some, Bool.toNat_false, Bool.toNat_true] at hwl
          have hlen : (F ++ [(c, A0)]).length = F.length + 1 := by simp
          rw [hlen] at HL3
          obtain ⟨g, cap, rfl, hcap⟩ := own_cell2 HL3.out (by omega)
          have hoc := HL3.out.cellAt (F.length * 2 + 1) (by omega)
          rw [(pvals_get (F ++ [(c, A0)]) F.length (by simp)).2] at hoc
          have hgd : ((F ++ [(c, A0)]).getD F.length (0, 0)).2 = A0 := by simp [List.getD_eq_getElem?_getD]
          rw [hgd] at hoc
          have HPE := boxed (fun e => pvals_end F c A0 e)
          obtain ⟨p, hp⟩ : ∃ p, F.length = p := ⟨_, rfl⟩
          have HPL := boxed hp
          rw [hp] at HL3 hwl hoc HPE ⊢
          obtain ⟨ll, hll⟩ : ∃ ll, p + 1 = ll := ⟨_, rfl⟩
          have HLL := boxed hll
          have hpi : (ll : Int) - 1 = (p : Int) := by omega
          have hpl : (p : Int) < (ll : Int) := by omega
          have t1 : decide ((0 : Int) < (ll : Int)) = true := decide_eq_true (by omega)
          have t1' : decide (0 < ll) = true := decide_eq_true (by omega)
          rw [hll] at HL3
          have hll2 : ll ≤ 1048577 := by omega
          have hwr : IntKind.i64.wrap ((p : Nat) : Int) = (p : Int) := by first | (exact wrap_small _ (by omega) (by omega)) | (unfold IntKind.wrap; simp; omega) | (simp [IntKind.wrap]; omega)
          simp only [hll]
          clear hll hlen hgd hp hwo HWG HWI
          go_wp2_with fail
          go_quiet (fail)
          obtain ⟨W3, hW3⟩ : ∃ W3, w2.drewN nq = W3 := ⟨_, rfl⟩
          have hb23 : Below w2.heap.size w2 W3 := by rw [← hW3]; exact bel_drewN _ _ _
          rw [hW3]
          clear hW3 t1 t1'
          have HB4 := boxed (below_step HB3.out (Nat.le_refl _) hb23)
          replace hoc := hold hb23 hoc
          have HL4 := boxed (owns_below (owns_below HL3.out hb23) (show Below W3.heap.size W3 W3.drew from (Below.refl _ _).drew))
          have HBd : Box (Below w1.heap.size w1 W3.drew) := boxed (below_step HB4.out (Nat.le_refl _) (Below.refl _ _).drew)
          have hof := (owns_below HL3.out hb23).frozenAt (p * 2 + 1)
          have HST := boxed (HL4.out.stored (p * 2 + 1) (.int .i64 (E0 : Int)))
          rw [HPE.out E0] at HST
          have HEND := boxed (HEN.out W3.drew (below_step HB4.out (Nat.le_refl _) (Below.refl _ _).drew))
          clear hb23 HL3 HB3 HEN HPE
          go_wp2_with fail
          go_region_law (refine step_call rfl 36 #[.string s, .slice (some ⟨b2, off2, none⟩) N ca2, .int .i64 (k : Int)] (by go_simp) _ HEND.out ?_)
          all_goals
            go_wp2_with fail
            go_roundw
            case rel => exact ⟨k + 1, F, some c, by omega, by go_num, HW2, boxed (by rw [hE0.out, wsl_some, List.length_append, HPL.out, show p + [(c, E0)].length = ll from HLL.out]; exact HST.out.1), boxed (HBd.out.grown HST.out.2 HBd.out.size (fun k hk => (HL4.out.lt k hk).1))⟩
            case measure => simp [intOf]; omega
    · have e : N = k := by omega
      subst e
      have HO : Box (wsl (F, o) (it s N) = Wds s) := boxed (by unfold Wds; rw [HN.out, HW.out])
      go_wp2
      go_ret
      exact ⟨_, rfl, by rw [← HO.out]; exact own_down HL.out HB1.out.size, HB1.out.trans (HB2.out.mono HB1.out.size)⟩
end Go.Proofs.Ytflhefgmgdgffaa
