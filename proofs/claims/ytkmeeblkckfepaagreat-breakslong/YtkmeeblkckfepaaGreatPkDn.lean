/-
  What the document's least answers.
-/
import Derived.Test.YtkmeeblkckfepaaGreatPkDm
namespace Go.Proofs.YtkmeeblkckfepaaGreat
open Go.RowKit
set_option linter.unusedSimpArgs false
set_option linter.unusedVariables false

section
variable {S S' : Nat → Prop} {w : World} {ao eo : Option Addr} {n c ec tb tc : Nat} {I : Nat → Itm} {width : Int} {s : Stg} {R : Nat → Nat → Int}
/-- What the table says from a break on. -/
def TbOk (P : Pr) (R : Nat → Nat → Int) (i : Nat) : Prop := ∀ (e c : Nat), i ≤ e → e + 1 < P.m → c < 4 → Lst P (e + 1) (c : Int) (R e c)
theorem rsv_lst {P : Pr} {R : Nat → Nat → Int} {i j : Nat} (h : TbOk P R i) (hij : i ≤ j) (hj : j < P.m) (c : Nat) (hc : c < 4) : Lst P (j + 1) (c : Int) (rsv R P.m j c) := by
  unfold rsv
  by_cases q : j + 1 = P.m
  · rw [if_pos q, q]; exact lst_end P _
  · rw [if_neg q]; exact h j c hij (by omega) hc
set_option maxRecDepth 100000 in
set_option maxHeartbeats 8000000 in
theorem least9_any (h : ItsAt S w ao n I) (hn : n ≤ 262144) (hok : ∀ i, i < n → okI I i = true) (he : NAt S' w eo (lgs I n n)) (hw : 1 ≤ width ∧ width ≤ 1073741824) (hs : okS s = true) (em : Bool) (ht : TbAt w tb (nbk I n) R) (i : Nat) (hi : i < nbk I n) (hR : TbOk (PX I n width s em) R i) (cls : Int) (hcl : 0 ≤ cls ∧ cls ≤ 3) :
    Calls Tryz.prog 28 #[.slice (some ⟨tb, 0, none⟩) (nbk I n) tc, .slice ao n c, .slice eo (nbk I n) ec, .int .i64 ((i : Int) - 1), .int .i64 cls, .int .i64 width, s.val, .bool em] w fun e w' => ∃ v, e = .returned (.int .i64 v) ∧ Lst (PX I n width s em) i (ahd i cls) v ∧ Below w.heap.size w w' := by
  have hl := lgs_len I n n
  have hm : nbk I n ≤ 262144 := by unfold nbk; omega
  have HH := boxed h
  have HE := boxed he
  have HT := boxed ht
  have HR := boxed hR
  have HNn := boxed (px_nn I n width s em hok hs)
  obtain ⟨w0, hw0⟩ : ∃ w0, w.alloc (.cells #[.int .i64 s.t, .int .i64 s.l, .int .i64 s.a, .int .i64 s.d, .int .i64 s.z, .int .i64 s.o, .int .i64 s.i] 24) = w0 := ⟨_, rfl⟩
  have hb0 : Below w.heap.size w w0 := by rw [← hw0]; exact (Below.refl _ _).alloc (Nat.le_refl _) _
  have HC0 : Box (∀ W, Below w0.heap.size w0 W → (W.cell? ⟨w.heap.size, 0, none⟩ = some (.int .i64 s.t) ∧ W.cell? ⟨w.heap.size, 1, none⟩ = some (.int .i64 s.l) ∧ W.cell? ⟨w.heap.size, 2, none⟩ = some (.int .i64 s.a) ∧ W.cell? ⟨w.heap.size, 3, none⟩ = some (.int .i64 s.d) ∧ W.cell? ⟨w.heap.size, 4, none⟩ = some (.int .i64 s.z) ∧ W.cell? ⟨w.heap.size, 5, none⟩ = some (.int .i64 s.o) ∧ W.cell? ⟨w.heap.size, 6, none⟩ = some (.int .i64 s.i)) ∧ Below w.heap.size w W) := boxed (fun W hb => by
    subst hw0
    exact ⟨⟨kept_first hb 0, kept_first hb 1, kept_first hb 2, kept_first hb 3, kept_first hb 4, kept_first hb 5, kept_first hb 6⟩, below_step hb0 (Nat.le_refl _) hb⟩)
  have HLi := boxed (fun W (hb : Below w0.heap.size w0 W) (j : Nat) (hj : j < nbk I n) => line9_any (c := c) (ec := ec) (s := s) (HH.out.below (HC0.out _ hb).2) hn hok (HE.out.below (HC0.out _ hb).2) hw i j (by omega) hj cls (by omega) em)
  have HRe := boxed (fun W (hb : Below w0.heap.size w0 W) (j x : Nat) (hj : j < nbk I n) (hx : x < 4) => rest9_any W tb (nbk I n) tc R eo ec (HT.out.below (HC0.out _ hb).2) hm j x hj hx)
  have HFc := boxed (fun W (hb : Below w0.heap.size w0 W) (j : Nat) (hj : j < nbk I n) => (HH.out.below (HC0.out _ hb).2) (bkn I n j) (itb_at I n j hj).2)
  have HEn := boxed (fun W (hb : Below w0.heap.size w0 W) (j : Nat) (hj : j < nbk I n) => (HE.out.below (HC0.out _ hb).2) j hj)
  unfold Stg.val at *
  clear h he ht hR hb0
  have e0 : ((i : Int) - 1) + 1 = (i : Int) := by omega
  have HZ : Box (LsJ (PX I n width s em) i (ahd i cls) i (-1)) := boxed (lsj_zero _ _ _)
  generalize hM : nbk I n = m at *
  replace hM := boxed hM
  go_enter Tryz.func28, Tryz.ntmps28
  go_wp2_with fail
  go_loopw [17, 18] (fun bv jv wr => ∃ (j : Nat) (v : Int), i ≤ j ∧ j ≤ m ∧ bv = .int .i64 v ∧ jv = .int .i64 (j : Int) ∧ Box (LsJ (PX I n width s em) i (ahd i cls) j v) ∧ Box (∀ q, q < j → i ≤ q → forc (itb I n q) = false) ∧ Box (Below w0.heap.size w0 wr)) (fun _ jv _ => m - (intOf jv).toNat)
  case atStart => exact ⟨i, -1, Nat.le_refl _, by omega, rfl, by go_num, HZ, boxed (fun q h1 h2 => by omega), boxed (Below.refl _ _)⟩
  case round =>
    obtain ⟨j, v, hij, hjm, rfl, rfl, HL, HFo, HBr⟩ := hrel
    clear HZ
    by_cases hlt : j < m
    · have t1 : decide ((j : Int) < (m : Int)) = true := decide_eq_true (by omega)
      have t1' : decide (j < m) = true := decide_eq_true hlt
      obtain ⟨⟨s0, s1, s2, s3, s4, s5, s6⟩, -⟩ := HC0.out _ HBr.out
      have hli := HLi.out _ HBr.out j hlt
      cases hD : (PX I n width s em).dz i j
      · rw [hD, if_neg (by simp), if_neg (by simp)] at hli
        have HL2 : Box (LsJ (PX I n width s em) i (ahd i cls) (j + 1) v) := boxed (lsj_not HL.out (fun t x hx => by
          obtain ⟨hs', -⟩ := cw_cons _ _ _ _ _ _ hx
          have := ((mayL_iff _ _ _).1 hs').2.2.1
          rw [hD] at this
          cases this))
        clear hD
        go_wp2_with fail
        refine hli.mono ?_
        rintro e w2 ⟨rfl, hb2⟩
        have HB2 := boxed (below_step HBr.out (Nat.le_refl _) hb2)
        clear hb2 hli s0 s1 s2 s3 s4 s5 s6
        obtain ⟨ge, ee, -, ce⟩ := HEn.out _ HB2.out j hlt
        rw [show (lgs I n n).getD j 0 = bkn I n j from rfl] at ce
        obtain ⟨hx1, hx2⟩ := itb_at I n j (by rw [hM.out]; exact hlt)
        obtain ⟨ib, ifo, ei, -, x0, x1, x2, x3, x4, x5, x6, x7, x8⟩ := HFc.out _ HB2.out j hlt
        subst ee
        subst ei
        have hfc := fun W => refforced_any (itb I n j) W
        rw [← hx1] at x0 x1 x2 x3 x4 x5 x6 x7 x8
        have hjm2 : (j : Int) < (m : Int) := by omega
        have hx3 : ((bkn I n j : Nat) : Int) < (n : Int) := by omega
        unfold Itm.val at hfc
        clear hx1
        cases hfo : forc (itb I n j)
        · have HFo2 : Box (∀ q, q < j + 1 → i ≤ q → forc (itb I n q) = false) := boxed (fun q h1 h2 => by
            by_cases e : q = j
            · rw [e]; exact hfo
            · exact HFo.out q (by omega) h2)
          rw [hfo] at hfc
          clear hfo HFo HLi HRe HFc HEn
          generalize itb I n j = y at *
          generalize bkn I n j = z at *
          go_wp2_with (go_at_call 35; refine (hfc _).mono ?_; rintro e w9 ⟨rfl, hb9⟩; have HB9 := boxed (below_step HB2.out (Nat.le_refl _) hb9); clear hb9)
          go_roundw
          case rel => exact ⟨j + 1, v, by omega, by omega, rfl, by go_num, HL2, HFo2, HB9⟩
          case measure => simp [intOf]; omega
        · have HLa := boxed (lsj_all (by rw [px_m, hM.out]; exact hi) hij (.inl hfo) HL2.out)
          rw [hfo] at hfc
          clear hfo HFo HLi HRe HFc HEn
          generalize itb I n j = y at *
          generalize bkn I n j = z at *
          go_wp2_with (go_at_call 35; refine (hfc _).mono ?_; rintro e w9 ⟨rfl, hb9⟩; have HB9 := boxed (below_step HB2.out (Nat.le_refl _) hb9); clear hb9)
          go_ret
          exact ⟨v, rfl, HLa.out, (HC0.out _ HB9.out).2⟩
      · rw [hD, if_pos rfl, if_pos rfl] at hli
        have HMy : Box (mayL (PX I n width s em) i j = true) := boxed ((mayL_iff _ _ _).2 ⟨hij, by show j < nbk I n; rw [hM.out]; exact hlt, hD, HFo.out⟩)
        clear hD
        have hct := (HNn.out i j (ahd i cls) HMy.out)
        have hkl : 0 ≤ (PX I n width s em).kl i j ∧ (PX I n width s em).kl i j ≤ 3 := by have := ftb_cls I n width ((i : Int) - 1) j; exact ⟨this.1, this.2.1⟩
        obtain ⟨kc, hkc⟩ : ∃ kc : Nat, (PX I n width s em).kl i j = (kc : Int) := ⟨((PX I n width s em).kl i j).toNat, by omega⟩
        have hkc4 : kc < 4 := by omega
        have HRl : Box (Lst (PX I n width s em) (j + 1) ((PX I n width s em).kl i j) (rsv R m j kc)) := boxed (by
          have := rsv_lst HR.out hij (by rw [px_m, hM.out]; exact hlt) kc hkc4
          rw [px_m, hM.out] at this
          rw [hkc]; exact this)
        have hrb := lst_bnd HNn.out HRl.out
        unfold Awf at hct hrb
        rw [hkc] at hli
        have HKc := boxed hkc
        clear hkc hkl
        have HCt : Box (∃ ct, ct = (PX I n width s em).ct i j (ahd i cls)) := boxed ⟨_, rfl⟩
        go_wp2_with fail
        refine hli.mono ?_
        rintro e w2 ⟨rfl, hb2⟩
        have HB2 := boxed (below_step HBr.out (Nat.le_refl _) hb2)
        clear hb2 hli s0 s1 s2 s3 s4 s5 s6
        have hre := HRe.out _ HB2.out j kc hlt hkc4
        have t2 : decide (0 ≤ (PX I n width s em).ct i j (ahd i cls)) = true := decide_eq_true hct.1
        have HNs := boxed (fun h => nxt_some (a := ahd i cls) HNn.out HMy.out HRl.out h)
        have HNo := boxed (nxt_not (a := ahd i cls) HRl.out)
        have hto := fun W => reftotal_any ((PX I n width s em).ct i j (ahd i cls)) (rsv R m j kc) W
        have HTb : Box (0 ≤ rsv R m j kc → 0 ≤ tt ((PX I n width s em).ct i j (ahd i cls)) (rsv R m j kc)) := boxed (fun h => (tt_bnd _ _ hct.1 h).1)
        generalize (PX I n width s em).ct i j (ahd i cls) = ct at *
        generalize rsv R m j kc = r at *
        generalize tt ct r = u at *
        clear HRl HKc HMy HCt
        go_wp2_with fail
        refine hre.mono ?_
        rintro e w3 ⟨rfl, hb3⟩
        have HB3 := boxed (below_step HB2.out (Nat.le_refl _) hb3)
        clear hb3 hre
        by_cases hr0 : r < 0
        · have t3 : decide (0 ≤ r) = false := decide_eq_false (by omega)
          have HL2 := boxed (lsj_not HL.out (HNo.out hr0))
          obtain ⟨ge, ee, -, ce⟩ := HEn.out _ HB3.out j hlt
          rw [show (lgs I n n).getD j 0 = bkn I n j from rfl] at ce
          obtain ⟨hx1, hx2⟩ := itb_at I n j (by rw [hM.out]; exact hlt)
          obtain ⟨ib, ifo, ei, -, x0, x1, x2, x3, x4, x5, x6, x7, x8⟩ := HFc.out _ HB3.out j hlt
          subst ee
          subst ei
          have hfc := fun W => refforced_any (itb I n j) W
          rw [← hx1] at x0 x1 x2 x3 x4 x5 x6 x7 x8
          have hjm2 : (j : Int) < (m : Int) := by omega
          have hx3 : ((bkn I n j : Nat) : Int) < (n : Int) := by omega
          unfold Itm.val at hfc
          clear hx1
          cases hfo : forc (itb I n j)
          · have HFo2 : Box (∀ q, q < j + 1 → i ≤ q → forc (itb I n q) = false) := boxed (fun q h1 h2 => by
              by_cases e : q = j
              · rw [e]; exact hfo
              · exact HFo.out q (by omega) h2)
            rw [hfo] at hfc
            clear hfo HFo HLi HRe HFc HEn
            generalize itb I n j = y at *
            generalize bkn I n j = z at *
            go_wp2_with (go_at_call 35; refine (hfc _).mono ?_; rintro e w9 ⟨rfl, hb9⟩; have HB9 := boxed (below_step HB3.out (Nat.le_refl _) hb9); clear hb9)
            go_roundw
            case rel => exact ⟨j + 1, v, by omega, by omega, rfl, by go_num, HL2, HFo2, HB9⟩
            case measure => simp [intOf]; omega
          · have HLa := boxed (lsj_all (by rw [px_m, hM.out]; exact hi) hij (.inl hfo) HL2.out)
            rw [hfo] at hfc
            clear hfo HFo HLi HRe HFc HEn
            generalize itb I n j = y at *
            generalize bkn I n j = z at *
            go_wp2_with (go_at_call 35; refine (hfc _).mono ?_; rintro e w9 ⟨rfl, hb9⟩; have HB9 := boxed (below_step HB3.out (Nat.le_refl _) hb9); clear hb9)
            go_ret
            exact ⟨v, rfl, HLa.out, (HC0.out _ HB9.out).2⟩
        · have t3 : decide (0 ≤ r) = true := decide_eq_true (by omega)
          have hr1 : 0 ≤ r := by omega
          by_cases hv0 : v < 0
          · have t4 : decide (v < 0) = true := decide_eq_true hv0
            have HL2 := boxed (lsj_take HL.out (.inl hv0) (HTb.out hr1) (HNs.out hr1))
            obtain ⟨ge, ee, -, ce⟩ := HEn.out _ HB3.out j hlt
            rw [show (lgs I n n).getD j 0 = bkn I n j from rfl] at ce
            obtain ⟨hx1, hx2⟩ := itb_at I n j (by rw [hM.out]; exact hlt)
            obtain ⟨ib, ifo, ei, -, x0, x1, x2, x3, x4, x5, x6, x7, x8⟩ := HFc.out _ HB3.out j hlt
            subst ee
            subst ei
            have hfc := fun W => refforced_any (itb I n j) W
            rw [← hx1] at x0 x1 x2 x3 x4 x5 x6 x7 x8
            have hjm2 : (j : Int) < (m : Int) := by omega
            have hx3 : ((bkn I n j : Nat) : Int) < (n : Int) := by omega
            unfold Itm.val at hfc
            clear hx1
            cases hfo : forc (itb I n j)
            · have HFo2 : Box (∀ q, q < j + 1 → i ≤ q → forc (itb I n q) = false) := boxed (fun q h1 h2 => by
                by_cases e : q = j
                · rw [e]; exact hfo
                · exact HFo.out q (by omega) h2)
              rw [hfo] at hfc
              clear hfo HFo HLi HRe HFc HEn
              generalize itb I n j = y at *
              generalize bkn I n j = z at *
              go_wp2_with (first | (go_at_call 31; refine (hto _).mono ?_; rintro e w' ⟨rfl, hw'⟩; subst w') | (go_at_call 35; refine (hfc _).mono ?_; rintro e w9 ⟨rfl, hb9⟩; have HB9 := boxed (below_step HB3.out (Nat.le_refl _) hb9); clear hb9))
              go_roundw
              case rel => exact ⟨j + 1, u, by omega, by omega, rfl, by go_num, HL2, HFo2, HB9⟩
              case measure => simp [intOf]; omega
            · have HLa := boxed (lsj_all (by rw [px_m, hM.out]; exact hi) hij (.inl hfo) HL2.out)
              rw [hfo] at hfc
              clear hfo HFo HLi HRe HFc HEn
              generalize itb I n j = y at *
              generalize bkn I n j = z at *
              go_wp2_with (first | (go_at_call 31; refine (hto _).mono ?_; rintro e w' ⟨rfl, hw'⟩; subst w') | (go_at_call 35; refine (hfc _).mono ?_; rintro e w9 ⟨rfl, hb9⟩; have HB9 := boxed (below_step HB3.out (Nat.le_refl _) hb9); clear hb9))
              go_ret
              exact ⟨u, rfl, HLa.out, (HC0.out _ HB9.out).2⟩
          · have t4 : decide (v < 0) = false := decide_eq_false hv0
            by_cases huv : u < v
            · have t5 : decide (u < v) = true := decide_eq_true huv
              have HL2 := boxed (lsj_take HL.out (.inr huv) (HTb.out hr1) (HNs.out hr1))
              obtain ⟨ge, ee, -, ce⟩ := HEn.out _ HB3.out j hlt
              rw [show (lgs I n n).getD j 0 = bkn I n j from rfl] at ce
              obtain ⟨hx1, hx2⟩ := itb_at I n j (by rw [hM.out]; exact hlt)
              obtain ⟨ib, ifo, ei, -, x0, x1, x2, x3, x4, x5, x6, x7, x8⟩ := HFc.out _ HB3.out j hlt
              subst ee
              subst ei
              have hfc := fun W => refforced_any (itb I n j) W
              rw [← hx1] at x0 x1 x2 x3 x4 x5 x6 x7 x8
              have hjm2 : (j : Int) < (m : Int) := by omega
              have hx3 : ((bkn I n j : Nat) : Int) < (n : Int) := by omega
              unfold Itm.val at hfc
              clear hx1
              cases hfo : forc (itb I n j)
              · have HFo2 : Box (∀ q, q < j + 1 → i ≤ q → forc (itb I n q) = false) := boxed (fun q h1 h2 => by
                  by_cases e : q = j
                  · rw [e]; exact hfo
                  · exact HFo.out q (by omega) h2)
                rw [hfo] at hfc
                clear hfo HFo HLi HRe HFc HEn
                generalize itb I n j = y at *
                generalize bkn I n j = z at *
                go_wp2_with (first | (go_at_call 31; refine (hto _).mono ?_; rintro e w' ⟨rfl, hw'⟩; subst w') | (go_at_call 35; refine (hfc _).mono ?_; rintro e w9 ⟨rfl, hb9⟩; have HB9 := boxed (below_step HB3.out (Nat.le_refl _) hb9); clear hb9))
                go_roundw
                case rel => exact ⟨j + 1, u, by omega, by omega, rfl, by go_num, HL2, HFo2, HB9⟩
                case measure => simp [intOf]; omega
              · have HLa := boxed (lsj_all (by rw [px_m, hM.out]; exact hi) hij (.inl hfo) HL2.out)
                rw [hfo] at hfc
                clear hfo HFo HLi HRe HFc HEn
                generalize itb I n j = y at *
                generalize bkn I n j = z at *
                go_wp2_with (first | (go_at_call 31; refine (hto _).mono ?_; rintro e w' ⟨rfl, hw'⟩; subst w') | (go_at_call 35; refine (hfc _).mono ?_; rintro e w9 ⟨rfl, hb9⟩; have HB9 := boxed (below_step HB3.out (Nat.le_refl _) hb9); clear hb9))
                go_ret
                exact ⟨u, rfl, HLa.out, (HC0.out _ HB9.out).2⟩
            · have t5 : decide (u < v) = false := decide_eq_false huv
              have HL2 := boxed (lsj_keep HL.out (by omega) (by omega) (HNs.out hr1).2)
              obtain ⟨ge, ee, -, ce⟩ := HEn.out _ HB3.out j hlt
              rw [show (lgs I n n).getD j 0 = bkn I n j from rfl] at ce
              obtain ⟨hx1, hx2⟩ := itb_at I n j (by rw [hM.out]; exact hlt)
              obtain ⟨ib, ifo, ei, -, x0, x1, x2, x3, x4, x5, x6, x7, x8⟩ := HFc.out _ HB3.out j hlt
              subst ee
              subst ei
              have hfc := fun W => refforced_any (itb I n j) W
              rw [← hx1] at x0 x1 x2 x3 x4 x5 x6 x7 x8
              have hjm2 : (j : Int) < (m : Int) := by omega
              have hx3 : ((bkn I n j : Nat) : Int) < (n : Int) := by omega
              unfold Itm.val at hfc
              clear hx1
              cases hfo : forc (itb I n j)
              · have HFo2 : Box (∀ q, q < j + 1 → i ≤ q → forc (itb I n q) = false) := boxed (fun q h1 h2 => by
                  by_cases e : q = j
                  · rw [e]; exact hfo
                  · exact HFo.out q (by omega) h2)
                rw [hfo] at hfc
                clear hfo HFo HLi HRe HFc HEn
                generalize itb I n j = y at *
                generalize bkn I n j = z at *
                go_wp2_with (first | (go_at_call 31; refine (hto _).mono ?_; rintro e w' ⟨rfl, hw'⟩; subst w') | (go_at_call 35; refine (hfc _).mono ?_; rintro e w9 ⟨rfl, hb9⟩; have HB9 := boxed (below_step HB3.out (Nat.le_refl _) hb9); clear hb9))
                go_roundw
                case rel => exact ⟨j + 1, v, by omega, by omega, rfl, by go_num, HL2, HFo2, HB9⟩
                case measure => simp [intOf]; omega
              · have HLa := boxed (lsj_all (by rw [px_m, hM.out]; exact hi) hij (.inl hfo) HL2.out)
                rw [hfo] at hfc
                clear hfo HFo HLi HRe HFc HEn
                generalize itb I n j = y at *
                generalize bkn I n j = z at *
                go_wp2_with (first | (go_at_call 31; refine (hto _).mono ?_; rintro e w' ⟨rfl, hw'⟩; subst w') | (go_at_call 35; refine (hfc _).mono ?_; rintro e w9 ⟨rfl, hb9⟩; have HB9 := boxed (below_step HB3.out (Nat.le_refl _) hb9); clear hb9))
                go_ret
                exact ⟨v, rfl, HLa.out, (HC0.out _ HB9.out).2⟩
    · obtain rfl : j = m := by omega
      have t1 : decide ((j : Int) < (j : Int)) = false := decide_eq_false (by omega)
      have t1' : decide (j < j) = false := decide_eq_false (by omega)
      have HLa : Box (Lst (PX I n width s em) i (ahd i cls) v) := boxed (by
        obtain ⟨j0, rfl⟩ : ∃ j0, j = j0 + 1 := ⟨j - 1, by omega⟩
        exact lsj_all (by rw [px_m, hM.out]; omega) (by omega) (.inr (by rw [px_m, hM.out]; omega)) HL.out)
      go_wp2_with fail
      go_ret
      exact ⟨v, rfl, HLa.out, (HC0.out _ HBr.out).2⟩
end
end Go.Proofs.YtkmeeblkckfepaaGreat
