/-
  The document's Replace: the lines then, the page that is told, and how many are built.
-/
import Derived.Test.YtdpjaafdpgkclaaTt
namespace Go.Proofs.Ytdpjaafdpgkclaa
open Go.RowKit
set_option linter.unusedSimpArgs false
set_option linter.unusedVariables false

theorem put_put (D : Dc) (f d m : Nat) (C : Nat → Slt) (h : f + d ≤ D.n) : ∀ k, k < (D.put f d m C).n → put (put D.F f 0 m C) (f + m) 0 (D.n - (f + d)) (fun k => D.F (f + d + k)) k = (D.put f d m C).F k := by
  intro k hk
  have hn : (D.put f d m C).n = D.n - d + m := rfl
  show _ = put D.F f d m C k
  by_cases c : k < f
  · rw [put_lo (by omega), put_lo c, put_lo c]
  · by_cases e : k < f + m
    · obtain ⟨x, rfl⟩ : ∃ x, k = f + x := ⟨k - f, by omega⟩
      rw [put_lo e, put_in (by omega), put_in (by omega)]
    · obtain ⟨x, rfl⟩ : ∃ x, k = f + m + x := ⟨k - (f + m), by omega⟩
      rw [put_in (by omega), put_hi]
theorem kn_in {D : Dc} {J f d m x : Nat} (hx : f + m ≤ x) : Kn D J f d m x ↔ ∃ j, j < J ∧ ((D.its J).getD j 0 : Int) = (x : Int) - (m : Int) + (d : Int) := by
  constructor
  · rintro ⟨j, h1, h2, h3⟩
    exact ⟨j, h1, by rw [D.its_get J j h1]; omega⟩
  · rintro ⟨j, h1, h2⟩
    rw [D.its_get J j h1] at h2
    exact ⟨j, h1, by omega, by omega⟩
theorem kn_ge {D : Dc} {J f d m x : Nat} (h : Kn D J f d m x) : f + m ≤ x := by
  obtain ⟨j, h1, h2, h3⟩ := h
  omega
set_option maxRecDepth 100000 in
set_option maxHeartbeats 8000000 in
theorem refrep_any (D : Dc) (g : Stg) (hD : DcOk D g) (S T : Nat → Prop) (lo bo : Option Addr) (c m mc : Nat) (C : Nat → Slt) (f d : Nat) (w : World) (h : SltsAt S w lo D.n D.F) (hC : SltsAt T w bo m C) (hc : D.n ≤ c) (hmc : m ≤ mc) (hlo : lo = none → c = 0) (hbo : bo = none → mc = 0) (hm : m ≤ 1000) (hfd : f + d ≤ D.n) (hD' : DcOk (D.put f d m C) g)
    (J J' q bl : Nat) (hP : D.Pgs J) (hP' : (D.put f d m C).Pgs J') (hq : Upto (D.its J) (f : Int) q) (hBl : Bl D J f d m C J' (q - 2) bl) :
    Calls Try.prog 27 #[rbv lo D.n c D.H g, .int .i64 (f : Nat), .int .i64 (d : Nat), .slice bo m mc] w fun e w' => ∃ lo' c', e = .returned (.tuple #[rbv lo' (D.put f d m C).n c' D.H g, .int .i64 ((q - 2 : Nat) : Int), .int .i64 (bl : Nat)]) ∧ w'.ownsRow w.heap.size 69 4 (.slice lo' (D.put f d m C).n c') (D.put f d m C).n (scs (D.put f d m C).F (D.put f d m C).n) ∧ Below w.heap.size w w' := by
  have hn := hD.n
  have hn' := hD'.n
  have hen : (D.put f d m C).n = D.n - d + m := rfl
  have hqJ : q ≤ J := by have := hq.1; rw [D.its_len] at this; exact this
  have hJn : J ≤ D.n := by have := D.it_ge J hP.1; have := D.it_le J; omega
  have hJn' : J' ≤ (D.put f d m C).n := by have := (D.put f d m C).it_ge J' hP'.1; have := (D.put f d m C).it_le J'; omega
  obtain ⟨l0, l1, l2, l3⟩ := laid2 w (.cells (rbc lo D.n c D.H g) 31) (.cells #[.slice none 0 0, .int .i64 0, .int .i64 0, .int .i64 0, .int .i64 0, .int .i64 0, .int .i64 0, .int .i64 0, .int .i64 0] 31)
  obtain ⟨W0, hW0⟩ : ∃ W0, (w.alloc (.cells (rbc lo D.n c D.H g) 31)).alloc (.cells #[.slice none 0 0, .int .i64 0, .int .i64 0, .int .i64 0, .int .i64 0, .int .i64 0, .int .i64 0, .int .i64 0, .int .i64 0] 31) = W0 := ⟨_, rfl⟩
  rw [hW0] at l0 l1 l2 l3
  have HX : Box (∀ W, Below W0.heap.size W0 W → W.cell? ⟨w.heap.size, 0, none⟩ = some (.slice lo D.n c) ∧ W.cell? ⟨w.heap.size, 1, none⟩ = some (.int .i64 D.H) ∧ W.cell? ⟨w.heap.size, 2, none⟩ = some (.int .i64 g.t) ∧ W.cell? ⟨w.heap.size, 3, none⟩ = some (.int .i64 g.l) ∧ W.cell? ⟨w.heap.size, 4, none⟩ = some (.int .i64 g.a) ∧ W.cell? ⟨w.heap.size, 5, none⟩ = some (.int .i64 g.d) ∧ W.cell? ⟨w.heap.size, 6, none⟩ = some (.int .i64 g.z) ∧ W.cell? ⟨w.heap.size, 7, none⟩ = some (.int .i64 g.o) ∧ W.cell? ⟨w.heap.size, 8, none⟩ = some (.int .i64 g.i)) := boxed (fun W hb => by
    have e : W.heap[w.heap.size]? = some (.cells (rbc lo D.n c D.H g) 31 (0, 0)) := (hb.block _ (by omega)).trans l0
    exact (cells9 e).1)
  have HR1 : Box (∀ W, Below W0.heap.size W0 W → W.heap[w.heap.size + 1]? = some (.cells #[.slice none 0 0, .int .i64 0, .int .i64 0, .int .i64 0, .int .i64 0, .int .i64 0, .int .i64 0, .int .i64 0, .int .i64 0] 31 (0, 0))) := boxed (fun W hb => (hb.block _ (by omega)).trans l1)
  have HL0 := boxed (fun W (hb : Below W0.heap.size W0 W) => h.below (below_step l2 (Nat.le_refl _) hb))
  have HC0 := boxed (fun W (hb : Below W0.heap.size W0 W) => hC.below (below_step l2 (Nat.le_refl _) hb))
  have HB0 := boxed l2
  have HW0 := boxed hW0
  have HZ0 := boxed l3
  have hn1 := part_hi lo D.n c f (by omega) (f : Int) rfl
  obtain ⟨lo2, hn2, hno2, HP2⟩ := part_lo S w lo D.n c (f + d) D.F h hc hfd ((f : Int) + (d : Int)) (by omega) hlo
  have HPt := boxed HP2
  have HPg := boxed (fun W S ao c h => refpag_any D g hD S ao c W h)
  have HPg' := boxed (fun W S ao c h => refpag_any (D.put f d m C) g hD' S ao c W h)
  have HP := boxed hP
  have HP' := boxed hP'
  have HQ := boxed hq
  have HBl := boxed hBl
  have HPP := boxed (put_put D f d m C hfd)
  have HE' : Box ((D.put f d m C).H = D.H) := boxed rfl
  rw [HE'.out] at HPg'
  have HEn := boxed hen
  have hnm : D.n - d + m ≤ 1000 := by omega
  have hJn2 : J' ≤ D.n - d + m := by omega
  clear h hC HP2 l0 l1 l2 l3 hW0 hP hP' hq hBl hen hn' hJn'
  unfold rbc at HW0
  unfold rbv
  unfold Stg.val at *
  go_enter Try.func27, Try.ntmps27
  go_upto_region 1 with fail
  rw [HW0.out]
  obtain ⟨c0, -⟩ := HX.out W0 (Below.refl _ _)
  have hm0 := World.ownsRow_made (base := W0.heap.size) (e := 69) (size := 4) W0 #[] 0 (Nat.le_refl _) (Nat.zero_le _) rfl
  have c0' := hold ((Below.refl W0.heap.size W0).alloc (Nat.le_refl _) (.cells #[] 69)) c0
  have HS1 := (HL0.out _ ((Below.refl W0.heap.size W0).alloc (Nat.le_refl _) (.cells #[] 69))).less (show f ≤ D.n by omega)
  go_wp2_with (first | (at_builtin; refine wpList_appW rfl _ _ rfl W0.heap.size _ 0 D.F rfl hm0 lo f c rfl D.F S HS1 hlo (by omega) (by simp) ?_))
  intro a1 k1 w1 h1 h1g
  have HO1 : Box (w1.ownsRow W0.heap.size 69 4 (.slice a1 f k1) f (scs D.F f)) := boxed (by
    rw [show scs D.F f = scs (put D.F 0 0 f D.F) f from scs_like f (fun k hk => by have := put_in (F := D.F) (f := 0) (g := 0) (m := f) (C := D.F) hk; rw [Nat.zero_add] at this; exact this.symm)]
    exact h1.out)
  have HB1 := boxed (((Below.refl W0.heap.size W0).alloc (Nat.le_refl _) _).grown h1g.out (by simp) (by intro k hk; simp [Value.ownBlock] at hk; omega))
  have hzz1 := HB1.out.size
  have HS2 := HC0.out w1 HB1.out
  clear h1 h1g HS1 hm0 c0 c0' hn1
  go_wp2_with (first | (at_builtin; refine wpList_appW rfl _ _ rfl W0.heap.size _ f D.F rfl HO1.out bo m mc rfl C T HS2 hbo (by omega) hzz1 ?_))
  intro a2 k2 w2 h2 h2g
  have HB2 := boxed (HB1.out.grown h2g.out hzz1 (fun r e => owns_ge HO1.out r e))
  have hzz2 := HB2.out.size
  obtain ⟨c0, -⟩ := HX.out w2 HB2.out
  have HS3 := HPt.out w2 (HL0.out w2 HB2.out)
  clear h2g HS2
  go_wp2_with (first | (at_builtin; refine wpList_appW rfl _ _ rfl W0.heap.size _ (f + m) (put D.F f 0 m C) rfl h2.out lo2 (D.n - (f + d)) (c - (f + d)) rfl (fun k => D.F (f + d + k)) S HS3 hno2 (by omega) hzz2 ?_))
  intro a3 k3 w3 h3 h3g
  have HB3 := boxed (HB2.out.grown h3g.out hzz2 (fun r e => owns_ge h2.out r e))
  have hlen : f + m + (D.n - (f + d)) = (D.put f d m C).n := by rw [HEn.out]; omega
  rw [hlen] at h3 ⊢
  have HO3 : Box (w3.ownsRow W0.heap.size 69 4 (.slice a3 (D.put f d m C).n k3) (D.put f d m C).n (scs (D.put f d m C).F (D.put f d m C).n)) := boxed (by
    rw [show scs (D.put f d m C).F (D.put f d m C).n = scs (put (put D.F f 0 m C) (f + m) 0 (D.n - (f + d)) (fun k => D.F (f + d + k))) (D.put f d m C).n from scs_like _ (fun k hk => (HPP.out k hk).symm)]
    exact h3.out)
  have hi64 : ∀ i, i < (D.put f d m C).n → I64 ((D.put f d m C).F i).h ∧ I64 ((D.put f d m C).F i).i ∧ I64 ((D.put f d m C).F i).c := fun i hi => by
    have k1 := hD'.ok i hi
    have k2 := hD'.n
    unfold SltOk at k1
    unfold I64
    omega
  have HS4 := boxed (own_slts HO3.out hi64)
  have hpag := HPg.out w3 S lo c (HL0.out w3 HB3.out)
  obtain ⟨x0, x1, x2, x3, x4, x5, x6, x7, x8⟩ := HX.out w3 HB3.out
  clear h3 h3g h2 HO1 hlen hi64 c0 HS3 HPt HPP hn2 hno2 HPg HC0
  go_wp2_with fail
  refine hpag.mono ?_
  rintro e w4 ⟨J0, b1, kb1, rfl, hp4, hn4, hb4⟩
  obtain rfl := D.pgs_one hp4 HP.out
  have HB4 := boxed (below_step HB3.out (Nat.le_refl _) hb4)
  have HN4 := boxed hn4
  have hpag' := HPg'.out w4 _ a3 k3 (HS4.out.below hb4)
  have HO4 := boxed (owns_below HO3.out hb4)
  clear x0 x1 x2 x3 x4 x5 x6 x7 x8 hpag hp4 hn4 hb4 HPg' HS4 HO3
  obtain ⟨x0, x1, x2, x3, x4, x5, x6, x7, x8⟩ := HX.out w4 HB4.out
  go_wp2_with fail
  refine hpag'.mono ?_
  rintro e w5 ⟨J1, b2, kb2, rfl, hp5, hn5, hb5⟩
  obtain rfl := (D.put f d m C).pgs_one hp5 HP'.out
  have HB5 := boxed (below_step HB4.out (Nat.le_refl _) hb5)
  have HN5 := boxed hn5
  have HNw := boxed (HN4.out.below hb5)
  have HO5 := boxed (owns_below HO4.out hb5)
  clear x0 x1 x2 x3 x4 x5 x6 x7 x8 hpag' hp5 hn5 hb5 HN4 HO4
  go_wp2_with fail
  go_loopw [14, 15] (fun gv iv wr => ∃ i : Nat, i ≤ J0 ∧ gv = .int .i64 ((min i q - 2 : Nat) : Int) ∧ iv = .int .i64 (i : Nat) ∧ Box (Below w5.heap.size w5 wr)) (fun _ iv _ => J0 - (intOf iv).toNat)
  case atStart => exact ⟨0, Nat.zero_le _, by simp, rfl, boxed (Below.refl _ _)⟩
  case round =>
    obtain ⟨i, hi, rfl, rfl, HB6⟩ := hrel
    by_cases hlt : i < J0
    · have hl0 := D.its_len J0
      obtain ⟨ab, rfl, -, -⟩ := HNw.out.form (by omega)
      have cc := (HNw.out.below HB6.out).get i (by omega)
      have hiJ : (i : Int) < (J0 : Int) := by omega
      have hcmp : (D.it i ≤ f) ↔ i < q := by
        constructor
        · intro hle
          by_cases cq : i < q
          · exact cq
          · have := HQ.out.2.2 i (by omega) (by omega)
            rw [D.its_get J0 i hlt] at this
            omega
        · intro hlq
          have := HQ.out.2.1 i hlq
          rw [D.its_get J0 i hlt] at this
          omega
      rw [D.its_get J0 i hlt] at cc
      have hxb := D.it_le i
      generalize D.it i = x at *
      by_cases hiq : i < q
      · have t1 : decide ((x : Int) ≤ (f : Int)) = true := decide_eq_true (by have := hcmp.2 hiq; omega)
        have t2 : decide (x ≤ f) = true := decide_eq_true (hcmp.2 hiq)
        clear hl0
        by_cases hi0 : i = 0
        · subst hi0
          clear hcmp
          go_wp2_with fail
          go_roundw
          case rel => exact ⟨1, by omega, by congr 2; omega, by go_num, HB6⟩
          case measure => simp [intOf]; omega
        · have t3 : decide ((0 : Int) < (i : Int)) = true := decide_eq_true (by omega)
          have t4 : decide (0 < i) = true := decide_eq_true (by omega)
          clear hcmp
          go_wp2_with fail
          go_roundw
          case rel => exact ⟨i + 1, by omega, by congr 1; omega, by go_num, HB6⟩
          case measure => simp [intOf]; omega
      · have t1 : decide ((x : Int) ≤ (f : Int)) = false := decide_eq_false (fun e => hiq (hcmp.1 (by omega)))
        have t2 : decide (x ≤ f) = false := decide_eq_false (fun e => hiq (hcmp.1 e))
        clear hl0 hcmp
        go_wp2_with fail
        go_roundw
        case rel => exact ⟨i + 1, by omega, by congr 2; omega, by go_num, HB6⟩
        case measure => simp [intOf]; omega
    · obtain rfl : i = J0 := by omega
      rw [show min i q - 2 = q - 2 by omega]
      have t1 : decide ((i : Int) < (i : Int)) = false := decide_eq_false (by omega)
      have HB8 := HB6
      clear HB6
      obtain ⟨pg, hpg⟩ : ∃ pg, q - 2 = pg := ⟨_, rfl⟩
      have HPG := boxed hpg
      rw [hpg] at HBl ⊢
      clear hpg
      have hbl1 := HBl.out.1
      go_wp2_with fail
      clear t1
      go_loopw [16, 17] (fun bv pv wx => ∃ r : Nat, r ≤ bl ∧ bv = .int .i64 (r : Nat) ∧ pv = .int .i64 ((pg + r : Nat) : Int) ∧ Box (Below w5.heap.size w5 wx)) (fun _ pv _ => J1 - (intOf pv).toNat)
      case atStart => exact ⟨0, Nat.zero_le _, rfl, rfl, HB8⟩
      case round =>
        obtain ⟨r, hrb, rfl, rfl, HB7⟩ := hrel
        by_cases hlt : pg + r < J1
        · obtain ⟨ab, rfl, -, -⟩ := HN5.out.form (by rw [(D.put f d m C).its_len]; omega)
          have cc := (HN5.out.below HB7.out).get (pg + r) (by rw [(D.put f d m C).its_len]; omega)
          rw [(D.put f d m C).its_get J1 _ hlt] at cc
          have hxb := (D.put f d m C).it_le (pg + r)
          rw [HEn.out] at hxb
          obtain ⟨x, hx⟩ : ∃ x, (D.put f d m C).it (pg + r) = x := ⟨_, rfl⟩
          obtain ⟨y, hy⟩ : ∃ y, pg + r = y := ⟨_, rfl⟩
          have HKn : Box (r < bl → ¬ Kn D i f d m x) := boxed (fun h1 => by rw [← hx]; exact HBl.out.2.1 r h1)
          have HKe : Box (r = bl → Kn D i f d m x) := boxed (fun h1 => by
            rcases HBl.out.2.2 with h2 | h2
            · omega
            · rw [← hx, h1]; exact h2)
          have hin := fun V hV => in_any _ b1 i kb1 (D.its i) (D.its_len i) ((x : Int) - (m : Int) + (d : Int)) V hV wr (HNw.out.below HB7.out) (by omega)
          rw [hx] at cc hxb
          rw [hy] at cc hlt ⊢
          have HY := boxed hy
          clear hx hy
          have hyJ : (y : Int) < (J1 : Int) := by omega
          by_cases hbe : r = bl
          · subst hbe
            have hK := HKe.out rfl
            have hge := kn_ge hK
            have t1 : decide ((f : Int) + (m : Int) ≤ (x : Int)) = true := decide_eq_true (by omega)
            have hi1 := hin true ⟨fun _ => (kn_in hge).1 hK, fun _ => rfl⟩
            clear hin HKn HKe hK
            go_wp2_with fail
            refine hi1.mono ?_
            rintro e w6 ⟨rfl, hw6⟩
            rw [hw6]
            clear hi1 hw6 cc
            have HBx := boxed (below_step HB5.out (Nat.le_refl _) HB7.out)
            obtain ⟨x0, x1, x2, x3, x4, x5, x6, x7, x8⟩ := HX.out wr HBx.out
            have hr := HR1.out wr HBx.out
            obtain ⟨⟨y0, y1, y2, y3, y4, y5, y6, y7, y8⟩, z0, z1, z2, z3, z4, z5, z6, z7, z8⟩ := cells9 hr
            have HRr := put9_heap hr (.slice a3 (D.put f d m C).n k3) (.int .i64 D.H) (.int .i64 g.t) (.int .i64 g.l) (.int .i64 g.a) (.int .i64 g.d) (.int .i64 g.z) (.int .i64 g.o) (.int .i64 g.i)
            have HGr := put9_grown wr (w.heap.size + 1) (.slice a3 (D.put f d m C).n k3) (.int .i64 D.H) (.int .i64 g.t) (.int .i64 g.l) (.int .i64 g.a) (.int .i64 g.d) (.int .i64 g.z) (.int .i64 g.o) (.int .i64 g.i)
            have hbw : Below w.heap.size w wr := below_step HB0.out (Nat.le_refl _) HBx.out
            have HFr := hbw.trans (grown_below HGr (by omega) hbw.size)
            have hox := owns_below HO5.out HB7.out
            have HOr := own_down (own_kept hox (fun b hb => HGr.block b (hox.lt b hb).2 (fun e => by have k1 := (hox.lt b hb).1; have k2 := HZ0.out; simp at e; omega))) (show w.heap.size ≤ W0.heap.size by have := HZ0.out; omega)
            unfold put9 at HRr HFr HOr
            replace HRr := boxed HRr
            replace HFr := boxed HFr
            replace HOr := boxed HOr
            clear hr HGr hbw hox
            go_wp2_with fail
            refine bodyPost_ret (v := .tuple #[.agg #[.slice a3 (D.put f d m C).n k3, .int .i64 D.H, .int .i64 g.t, .int .i64 g.l, .int .i64 g.a, .int .i64 g.d, .int .i64 g.z, .int .i64 g.o, .int .i64 g.i], .int .i64 (pg : Nat), .int .i64 (r : Nat)]) ?_ ?_ ?_
            · exact results_row_tmp_tmp Try.results27 _ _ (w.heap.size + 1) 31 _ (0, 0) _ rfl HRr.out Try.underlying31 rfl (by kernel_rfl)
            · rfl
            · exact ⟨a3, k3, by rw [HPG.out], HOr.out, HFr.out⟩
          · have hnk := HKn.out (by omega)
            by_cases hge : f + m ≤ x
            · have t1 : decide ((f : Int) + (m : Int) ≤ (x : Int)) = true := decide_eq_true (by omega)
              have hi1 := hin false ⟨(fun e => by cases e), fun e => absurd ((kn_in hge).2 e) hnk⟩
              clear hin HKn HKe hnk
              go_wp2_with fail
              refine hi1.mono ?_
              rintro e w6 ⟨rfl, hw6⟩
              rw [hw6]
              clear hi1 hw6 cc
              go_wp2_with fail
              go_roundw
              case rel => exact ⟨r + 1, by omega, by go_num, by rw [show pg + (r + 1) = y + 1 by have := HY.out; omega] <;> (first | rfl | go_num), HB7⟩
              case measure => simp [intOf]; omega
            · have t1 : decide ((f : Int) + (m : Int) ≤ (x : Int)) = false := decide_eq_false (by omega)
              clear hin HKn HKe hnk
              go_wp2_with fail
              go_roundw
              case rel => exact ⟨r + 1, by omega, by go_num, by rw [show pg + (r + 1) = y + 1 by have := HY.out; omega] <;> (first | rfl | go_num), HB7⟩
              case measure => simp [intOf]; omega
        · obtain rfl : r = bl := by omega
          have t1 : decide (((pg + r : Nat) : Int) < (J1 : Int)) = false := decide_eq_false (by omega)
          obtain ⟨y, hy⟩ : ∃ y, pg + r = y := ⟨_, rfl⟩
          rw [hy] at t1 ⊢
          have t2 : decide (y < J1) = false := decide_eq_false (by omega)
          clear hy
          have HBx := boxed (below_step HB5.out (Nat.le_refl _) HB7.out)
          obtain ⟨x0, x1, x2, x3, x4, x5, x6, x7, x8⟩ := HX.out wr HBx.out
          have hr := HR1.out wr HBx.out
          obtain ⟨⟨y0, y1, y2, y3, y4, y5, y6, y7, y8⟩, z0, z1, z2, z3, z4, z5, z6, z7, z8⟩ := cells9 hr
          have HRr := put9_heap hr (.slice a3 (D.put f d m C).n k3) (.int .i64 D.H) (.int .i64 g.t) (.int .i64 g.l) (.int .i64 g.a) (.int .i64 g.d) (.int .i64 g.z) (.int .i64 g.o) (.int .i64 g.i)
          have HGr := put9_grown wr (w.heap.size + 1) (.slice a3 (D.put f d m C).n k3) (.int .i64 D.H) (.int .i64 g.t) (.int .i64 g.l) (.int .i64 g.a) (.int .i64 g.d) (.int .i64 g.z) (.int .i64 g.o) (.int .i64 g.i)
          have hbw : Below w.heap.size w wr := below_step HB0.out (Nat.le_refl _) HBx.out
          have HFr := hbw.trans (grown_below HGr (by omega) hbw.size)
          have hox := owns_below HO5.out HB7.out
          have HOr := own_down (own_kept hox (fun b hb => HGr.block b (hox.lt b hb).2 (fun e => by have k1 := (hox.lt b hb).1; have k2 := HZ0.out; simp at e; omega))) (show w.heap.size ≤ W0.heap.size by have := HZ0.out; omega)
          unfold put9 at HRr HFr HOr
          replace HRr := boxed HRr
          replace HFr := boxed HFr
          replace HOr := boxed HOr
          clear hr HGr hbw hox
          go_wp2_with fail
          refine bodyPost_ret (v := .tuple #[.agg #[.slice a3 (D.put f d m C).n k3, .int .i64 D.H, .int .i64 g.t, .int .i64 g.l, .int .i64 g.a, .int .i64 g.d, .int .i64 g.z, .int .i64 g.o, .int .i64 g.i], .int .i64 (pg : Nat), .int .i64 (r : Nat)]) ?_ ?_ ?_
          · exact results_row_tmp_tmp Try.results27 _ _ (w.heap.size + 1) 31 _ (0, 0) _ rfl HRr.out Try.underlying31 rfl (by kernel_rfl)
          · rfl
          · exact ⟨a3, k3, by rw [HPG.out], HOr.out, HFr.out⟩
end Go.Proofs.Ytdpjaafdpgkclaa
