/-
  Where pages begin: what the program's Paginate and the document's Paginate and Same answer.
-/
import Derived.Test.YtdpjaafdpgkclaaHf
import Derived.Test.YtdpjaafdpgkclaaHd
import Derived.Test.YtdpjaafdpgkclaaHg
namespace Go.Proofs.Ytdpjaafdpgkclaa
open Go.RowKit
set_option linter.unusedSimpArgs false
set_option linter.unusedVariables false

theorem grown_any {w w' : World} {B e size n : Nat} {v : Value} {xs : List Value} (h : w.ownsRow B e size v n xs) (hB : B ≤ w.heap.size) {o : Obj} (hg : (w.alloc o).grownBy w' v.ownBlock) : Below B w w' :=
  ((Below.refl B w).alloc hB o).grown hg (by simp; omega) (fun r e => owns_ge h r e)
theorem own_room {w : World} {B e size n m cap : Nat} {ao : Option Addr} {xs : List Value} (h : w.ownsRow B e size (.slice ao m cap) n xs) : m ≤ cap := by
  rcases h.2 with ⟨e, h0⟩ | ⟨g, cp, cur, e, hB, hh, hc, -⟩
  · injection e with e1 e2 e3; omega
  · injection e with e1 e2 e3; omega
theorem lists_eq (L M : List Nat) (h : L.length = M.length) : L = M ↔ ∀ i, i < L.length → L.getD i 0 = M.getD i 0 := by
  constructor
  · rintro rfl; intro i _; rfl
  · intro q
    apply List.ext_getElem h
    intro i h1 h2
    have := q i h1
    simpa [List.getD, h1, h2] using this
set_option maxRecDepth 100000 in
set_option maxHeartbeats 1000000 in
theorem same12_any (S T : Nat → Prop) (ao bo : Option Addr) (ca cb : Nat) (L M : List Nat) (w : World) (h1 : NAt S w ao L) (h2 : NAt T w bo M) (hn : L.length ≤ 1000000) (hs : ∀ i, i < L.length → (L.getD i 0 : Nat) < 9223372036854775807) :
    Calls Try.prog 11 #[.slice ao L.length ca, .slice bo M.length cb] w fun e w' => e = .returned (.bool (decide (L = M))) ∧ Below w.heap.size w w' := by
  have H1 := boxed h1
  have H2 := boxed h2
  clear h1 h2
  by_cases hl : L.length = M.length
  · have HE := boxed (lists_eq L M hl)
    have HV : Box (∃ V, decide (L = M) = V) := boxed ⟨_, rfl⟩
    have HT : Box (L = M → decide (L = M) = true) := boxed (fun e => decide_eq_true e)
    have HF : Box (¬ L = M → decide (L = M) = false) := boxed (fun e => decide_eq_false e)
    generalize decide (L = M) = V at *
    rw [← hl]
    have hl2 := boxed hl
    clear hl
    generalize hN : L.length = n at *
    have hN2 := boxed hN
    clear hN
    go_enter Try.func11, Try.ntmps11
    go_wp2_with fail
    go_loopw [5] (fun iv wr => ∃ i : Nat, i ≤ n ∧ iv = .int .i64 (i : Nat) ∧ Box (∀ j, j < i → L.getD j 0 = M.getD j 0) ∧ Box (Below w.heap.size w wr)) (fun iv _ => n - (intOf iv).toNat)
    case atStart => exact ⟨0, Nat.zero_le _, rfl, boxed (fun j hj => by omega), boxed (Below.refl _ _)⟩
    case round =>
      obtain ⟨i, hi, rfl, HS, HB⟩ := hrel
      by_cases hlt : i < n
      · obtain ⟨b1, rfl, -⟩ := H1.out.form (by rw [hN2.out]; omega)
        obtain ⟨b2, rfl, -⟩ := H2.out.form (by rw [← hl2.out]; omega)
        have p0 := (H1.out.below HB.out).get i (by rw [hN2.out]; omega)
        have q0 := (H2.out.below HB.out).get i (by rw [← hl2.out]; omega)
        by_cases ce : L.getD i 0 = M.getD i 0
        · have HS2 : Box (∀ j, j < i + 1 → L.getD j 0 = M.getD j 0) := boxed (fun j hj => by
            by_cases d : j = i
            · subst d; exact ce
            · exact HS.out j (by omega))
          rw [ce] at p0
          generalize M.getD i 0 = y at *
          clear ce HS
          go_wp2_with fail
          go_quiet (fail)
          go_wp2_with fail
          go_roundw
          case rel => exact ⟨i + 1, by omega, by go_num, HS2, boxed (HB.out.trans (bel_drewN _ _ _))⟩
          case measure => simp [intOf]; omega
        · have HX := boxed (HF.out (fun e => ce (by rw [e])))
          have t1 : (((L.getD i 0 : Nat) : Int) == ((M.getD i 0 : Nat) : Int)) = false := by rw [beq_eq_false_iff_ne]; omega
          have t2 : (((L.getD i 0 : Nat) : Int) != ((M.getD i 0 : Nat) : Int)) = true := by rw [bne_iff_ne]; omega
          generalize L.getD i 0 = x at *
          generalize M.getD i 0 = y at *
          clear ce HS
          go_wp2_with fail
          go_quiet (fail)
          go_wp2_with fail
          go_ret
          exact ⟨by rw [HX.out]; rfl, HB.out.trans (bel_drewN _ _ _)⟩
      · obtain rfl : n = i := by omega
        have HX := boxed (HT.out (HE.out.2 HS.out))
        go_wp2_with fail
        go_ret
        exact ⟨by rw [HX.out]; rfl, HB.out⟩
  · have hd : decide (L = M) = false := decide_eq_false (fun e => hl (by rw [e]))
    rw [hd]
    have t : ((L.length : Int) == (M.length : Int)) = false := by rw [beq_eq_false_iff_ne]; omega
    generalize L.length = a at *
    generalize M.length = b at *
    clear hd hl
    go_enter Try.func11, Try.ntmps11
    go_wp2
    go_ret
    exact ⟨rfl, Below.refl _ _⟩
set_option maxRecDepth 100000 in
theorem pag_bad (H : Int) (g : Stg) (hE : ckE H g ≠ 0) (ao : Option Addr) (n c : Nat) (w : World) :
    Calls Try.prog 19 #[.slice ao n c, .int .i64 H, g.val] w fun e w' => e = .returned (.tuple #[.slice none 0 0, .int .i64 (ckE H g)]) ∧ Below w.heap.size w w' := by
  have hc := fun W => pcheck_any H g W
  have t1 : (ckE H g == 0) = false := by rw [beq_eq_false_iff_ne]; exact hE
  have t2 : (ckE H g != 0) = true := by rw [bne_iff_ne]; exact hE
  generalize ckE H g = E at *
  unfold Stg.val at *
  go_enter Try.func19, Try.ntmps19
  go_wp2_with fail
  refine (hc _).mono ?_
  rintro e w1 ⟨rfl, hb⟩
  have HB := boxed (kept_below (Below.refl _ _) (Nat.le_refl _) hb)
  clear hb hc
  go_wp2_with fail
  go_ret2
  exact ⟨rfl, HB.out⟩
set_option maxRecDepth 100000 in
theorem pag_wrong (H : Int) (g : Stg) (hE : ckE H g = 0) (S : Nat → Prop) (ao : Option Addr) (n c : Nat) (F : Nat → Slt) (hR : ¬ Rts F n 0) (w : World) (h : SltsAt S w ao n F) (hn : n ≤ 1000) (hcap : n ≤ c) :
    Calls Try.prog 19 #[.slice ao n c, .int .i64 H, g.val] w fun e w' => e = .returned (.tuple #[.slice none 0 0, .int .i64 1]) ∧ Below w.heap.size w w' := by
  have hc := fun W => pcheck_any H g W
  have hr := fun W (hb : Below w.heap.size w W) => right_any S ao n c F false (by simp [hR]) W (h.below hb) hn hcap
  rw [hE] at hc
  clear hE h
  simp only [Bool.false_eq_true, if_false] at hr
  unfold Stg.val at *
  go_enter Try.func19, Try.ntmps19
  go_wp2_with fail
  refine (hc _).mono ?_
  rintro e w1 ⟨rfl, hb⟩
  have HB := boxed (kept_below (Below.refl _ _) (Nat.le_refl _) hb)
  have hr1 := hr _ HB.out
  clear hb hc hr
  go_wp2_with fail
  refine hr1.mono ?_
  rintro e w2 ⟨rfl, hb⟩
  have HB2 := boxed (below_step HB.out (Nat.le_refl _) hb)
  clear hb hr1
  go_wp2_with fail
  go_ret2
  exact ⟨rfl, HB2.out⟩
theorem ck_ok {H : Int} {g : Stg} (h : ckE H g = 0) : (1 ≤ H ∧ H ≤ 1073741824) ∧ okS g = true := by
  unfold ckE at h
  split at h
  · next q =>
    split at h
    · next q2 => exact ⟨q, q2⟩
    · omega
  · omega
theorem dcok_of {F : Nat → Slt} {n : Nat} {H : Int} {g : Stg} (h : ckE H g = 0) (hR : Rts F n 0) (hn : n ≤ 1000) : DcOk ⟨F, n, g.o, g.i, H⟩ g := by
  obtain ⟨h1, h2⟩ := ck_ok h
  have h3 := okS_oi h2
  exact ⟨rfl, rfl, ⟨⟨by omega, by omega⟩, by omega, by omega⟩, fun j hj => hR.ok j (Nat.zero_le _) hj, hn, by simp only; omega⟩
set_option maxRecDepth 100000 in
set_option maxHeartbeats 2000000 in
theorem pag_cap (D : Dc) (g : Stg) (hD : DcOk D g) (hE : ckE D.H g = 0) (hR : Rts D.F D.n 0) (S : Nat → Prop) (ao : Option Addr) (c : Nat) (w : World) (h : SltsAt S w ao D.n D.F) (hcap : D.n ≤ c) :
    Calls Try.prog 19 #[.slice ao D.n c, .int .i64 D.H, g.val] w fun e w' => ∃ J ao' c', e = .returned (.tuple #[.slice ao' J c', .int .i64 0]) ∧ D.Pgs J ∧ w'.ownsRow w.heap.size 3 1 (.slice ao' J c') J (ncs (D.its J)) ∧ Below w.heap.size w w' := by
  obtain ⟨i0, hi, hz0, hz1, hz2⟩ := info_parts info_int12
  have hc := fun W => pcheck_any D.H g W
  have hr := fun W (hb : Below w.heap.size w W) => right_any S ao D.n c D.F true (by simp [hR]) W (h.below hb) (by have := hD.n; omega) hcap
  have HN := boxed (fun a W (hb : Below w.heap.size w W) (ha : a ≤ D.n) => next_any D g hD S ao c a W (h.below hb) ha)
  have HST := boxed (fun W (hb : Below (w.alloc (.cells #[.int .i64 g.t, .int .i64 g.l, .int .i64 g.a, .int .i64 g.d, .int .i64 g.z, .int .i64 g.o, .int .i64 g.i] 24)).heap.size (w.alloc (.cells #[.int .i64 g.t, .int .i64 g.l, .int .i64 g.a, .int .i64 g.d, .int .i64 g.z, .int .i64 g.o, .int .i64 g.i] 24)) W) => (stc_new w g).below hb)
  have hn := hD.n
  rw [hE] at hc
  clear hE h hR hD
  simp only [if_true] at hr
  unfold Stg.val at *
  go_enter Try.func19, Try.ntmps19
  go_wp2_with fail
  refine (hc _).mono ?_
  rintro e w1 ⟨rfl, hb⟩
  have HB := boxed (kept_below (Below.refl _ _) (Nat.le_refl _) hb)
  have HS1 := boxed hb
  have hr1 := hr _ HB.out
  clear hb hc hr
  go_wp2_with fail
  refine hr1.mono ?_
  rintro e w2 ⟨rfl, hb⟩
  have HB2 := boxed (below_step HB.out (Nat.le_refl _) hb)
  have HS2 := boxed (below_step HS1.out (Nat.le_refl _) hb)
  clear hb hr1 HB HS1
  have HOx := boxed (HST.out w2 HS2.out)
  have HBx : Box (∀ W, Below w2.heap.size w2 W → Below w.heap.size w W) := boxed (fun W hb => below_step HB2.out (Nat.le_refl _) hb)
  have hz := HB2.out.size
  clear HST HS2 HB2
  go_wp2_with fail
  go_loopw [10, 11] (fun sv lv wr => ∃ j : Nat, (∀ i, i < j → D.it i < D.n) ∧ lv = .int .i64 (D.it j : Nat) ∧ Box (wr.ownsRow w2.heap.size 3 1 sv j (ncs (D.its j))) ∧ Box (Below w2.heap.size w2 wr)) (fun _ lv _ => D.n - (intOf lv).toNat)
  case atStart => exact ⟨0, fun i hi => by omega, rfl, boxed (World.ownsRow_nil _ _ _ _), boxed (Below.refl _ _)⟩
  case round =>
    obtain ⟨j, hj, rfl, HO, HB⟩ := hrel
    have hle := D.it_le j
    by_cases hlt : D.it j < D.n
    · have hge := D.it_ge j hj
      have HJ : Box (∀ i, i < j + 1 → D.it i < D.n) := boxed (fun i hi => by
        by_cases d : i = j
        · subst d; exact hlt
        · exact hj i (by omega))
      have HM := boxed (show D.it (j + 1) = D.nx (D.it j) from rfl)
      have HG := boxed (D.nx_gt (D.it j) hlt)
      have hx := fun W hb => HN.out (D.it j) W hb (by omega)
      have HI := boxed (D.its_snoc j)
      have hown := HO.out
      have hzr := HB.out.size
      generalize hX : D.it j = x at *
      have HX := boxed hX
      clear hX hj HO HN
      go_wp2_with (first | (at_builtin; refine wpList_append_own _ rfl _ _ 39 rfl w2.heap.size 3 i0 _ 1 8 Try.underlying39 hi hz0 hz1 hz2 rfl (by decide) _ _ _ rfl (hown.alloc _) ⟨wr.heap.size, 0, none⟩ 1 1 [.int .i64 (x : Nat)] rfl rfl ?c1 ?c2 ?c3 ?c4 ?c5 ?_))
      case c1 =>
        intro j u hj
        match j, hj with
        | 0, hj => simp at hj; subst hj; simp [Addr.add]
      case c2 => intro u hu; simp at hu; subst hu; rfl
      case c3 => unfold maxLen; omega
      case c4 => omega
      case c5 => simp; omega
      intro v' w6 hown6 hgrow6 _
      have HO6 : Box (w6.ownsRow w2.heap.size 3 1 v' (j + 1) (ncs (D.its (j + 1)))) := boxed (by rw [HI.out, ncs_app]; exact hown6)
      have HG6 := boxed (HB.out.trans (grown_any hown hzr hgrow6))
      have hx1 := hx w6 (HBx.out _ HG6.out)
      obtain ⟨s0, s1, s2, s3, s4, s5, s6⟩ := HOx.out.below HG6.out
      clear hown6 hgrow6 hown hx
      go_wp2_with fail
      refine hx1.mono ?_
      rintro e w7 ⟨rfl, hb7⟩
      have HB7 := boxed (below_step HG6.out (Nat.le_refl _) hb7)
      have HO7 := boxed (owns_below HO6.out hb7)
      clear hb7 hx1 s0 s1 s2 s3 s4 s5 s6
      go_wp2_with fail
      go_roundw
      case rel => exact ⟨j + 1, HJ.out, by rw [HM.out], HO7, HB7⟩
      case measure => have := HG.out; simp [intOf]; omega
    · have e : D.it j = D.n := by omega
      obtain ⟨ao', c', rfl⟩ := own_shape HO.out
      have HF := boxed (own_down HO.out (B' := w.heap.size) (by omega))
      have HP : Box (D.Pgs j) := boxed ⟨hj, e⟩
      rw [e]
      clear hj hlt e hle HO
      have t1 : decide ((D.n : Int) < (D.n : Int)) = false := decide_eq_false (by omega)
      go_wp2_with fail
      go_ret2
      exact ⟨j, ao', c', rfl, HP.out, HF.out, HBx.out _ HB.out⟩
theorem pag_ok (D : Dc) (g : Stg) (hD : DcOk D g) (hE : ckE D.H g = 0) (hR : Rts D.F D.n 0) (S : Nat → Prop) (ao : Option Addr) (c : Nat) (w : World) (h : SltsAt S w ao D.n D.F) (hcap : D.n ≤ c) :
    Calls Try.prog 19 #[.slice ao D.n c, .int .i64 D.H, g.val] w fun e w' => ∃ J ao' c', e = .returned (.tuple #[.slice ao' J c', .int .i64 0]) ∧ D.Pgs J ∧ NAt (fun b => w.heap.size ≤ b) w' ao' (D.its J) ∧ Below w.heap.size w w' :=
  (pag_cap D g hD hE hR S ao c w h hcap).mono fun _ _ ⟨J, ao', c', h1, h2, h3, h4⟩ => ⟨J, ao', c', h1, h2, own_nat h3 (D.its_len J), h4⟩
set_option maxRecDepth 100000 in
set_option maxHeartbeats 2000000 in
theorem refpag_any (D : Dc) (g : Stg) (hD : DcOk D g) (S : Nat → Prop) (ao : Option Addr) (c : Nat) (w : World) (h : SltsAt S w ao D.n D.F) :
    Calls Try.prog 13 #[.slice ao D.n c, .int .i64 D.H, g.val] w fun e w' => ∃ J ao' c', e = .returned (.slice ao' J c') ∧ D.Pgs J ∧ NAt (fun b => w.heap.size ≤ b) w' ao' (D.its J) ∧ Below w.heap.size w w' := by
  obtain ⟨i0, hi, hz0, hz1, hz2⟩ := info_parts info_int12
  have HN := boxed (fun a W (hb : Below w.heap.size w W) (ha : a ≤ D.n) => refnext_any D g hD S ao c a W (h.below hb) ha)
  obtain ⟨w2, hW0⟩ : ∃ W0, w.alloc (.cells #[.int .i64 g.t, .int .i64 g.l, .int .i64 g.a, .int .i64 g.d, .int .i64 g.z, .int .i64 g.o, .int .i64 g.i] 24) = W0 := ⟨_, rfl⟩
  have hst := stc_new w g
  have hB0 := (laid1 w (.cells #[.int .i64 g.t, .int .i64 g.l, .int .i64 g.a, .int .i64 g.d, .int .i64 g.z, .int .i64 g.o, .int .i64 g.i] 24)).2.1
  rw [hW0] at hst hB0
  have HOx := boxed hst
  have HW0 := boxed hW0
  have hn := hD.n
  have HBx : Box (∀ W, Below w2.heap.size w2 W → Below w.heap.size w W) := boxed (fun W hb => below_step hB0 (Nat.le_refl _) hb)
  have hz := hB0.size
  clear h hD hB0 hst hW0
  unfold Stg.val at *
  go_enter Try.func13, Try.ntmps13
  go_upto_region 1 with fail
  rw [HW0.out]
  go_wp2_with fail
  go_loopw [7, 8] (fun sv lv wr => ∃ j : Nat, (∀ i, i < j → D.it i < D.n) ∧ lv = .int .i64 (D.it j : Nat) ∧ Box (wr.ownsRow w2.heap.size 3 1 sv j (ncs (D.its j))) ∧ Box (Below w2.heap.size w2 wr)) (fun _ lv _ => D.n - (intOf lv).toNat)
  case atStart => exact ⟨0, fun i hi => by omega, rfl, boxed (World.ownsRow_nil _ _ _ _), boxed (Below.refl _ _)⟩
  case round =>
    obtain ⟨j, hj, rfl, HO, HB⟩ := hrel
    have hle := D.it_le j
    by_cases hlt : D.it j < D.n
    · have hge := D.it_ge j hj
      have HJ : Box (∀ i, i < j + 1 → D.it i < D.n) := boxed (fun i hi => by
        by_cases d : i = j
        · subst d; exact hlt
        · exact hj i (by omega))
      have HM := boxed (show D.it (j + 1) = D.nx (D.it j) from rfl)
      have HG := boxed (D.nx_gt (D.it j) hlt)
      have hx := fun W hb => HN.out (D.it j) W hb (by omega)
      have HI := boxed (D.its_snoc j)
      have hown := HO.out
      have hzr := HB.out.size
      generalize hX : D.it j = x at *
      have HX := boxed hX
      clear hX hj HO HN
      go_wp2_with (first | (at_builtin; refine wpList_append_own _ rfl _ _ 39 rfl w2.heap.size 3 i0 _ 1 8 Try.underlying39 hi hz0 hz1 hz2 rfl (by decide) _ _ _ rfl (hown.alloc _) ⟨wr.heap.size, 0, none⟩ 1 1 [.int .i64 (x : Nat)] rfl rfl ?c1 ?c2 ?c3 ?c4 ?c5 ?_))
      case c1 =>
        intro j u hj
        match j, hj with
        | 0, hj => simp at hj; subst hj; simp [Addr.add]
      case c2 => intro u hu; simp at hu; subst hu; rfl
      case c3 => unfold maxLen; omega
      case c4 => omega
      case c5 => simp; omega
      intro v' w6 hown6 hgrow6 _
      have HO6 : Box (w6.ownsRow w2.heap.size 3 1 v' (j + 1) (ncs (D.its (j + 1)))) := boxed (by rw [HI.out, ncs_app]; exact hown6)
      have HG6 := boxed (HB.out.trans (grown_any hown hzr hgrow6))
      have hx1 := hx w6 (HBx.out _ HG6.out)
      obtain ⟨s0, s1, s2, s3, s4, s5, s6⟩ := HOx.out.below HG6.out
      clear hown6 hgrow6 hown hx
      go_wp2_with fail
      refine hx1.mono ?_
      rintro e w7 ⟨rfl, hb7⟩
      have HB7 := boxed (below_step HG6.out (Nat.le_refl _) hb7)
      have HO7 := boxed (owns_below HO6.out hb7)
      clear hb7 hx1 s0 s1 s2 s3 s4 s5 s6
      go_wp2_with fail
      go_roundw
      case rel => exact ⟨j + 1, HJ.out, by rw [HM.out], HO7, HB7⟩
      case measure => have := HG.out; simp [intOf]; omega
    · have e : D.it j = D.n := by omega
      obtain ⟨ao', c', rfl⟩ := own_shape HO.out
      have HF := boxed ((own_nat HO.out (D.its_len j)).keep (S' := fun b => w.heap.size ≤ b) (fun b i u hs hc => ⟨by have h0 : w2.heap.size ≤ b := hs; omega, hc⟩))
      have HP : Box (D.Pgs j) := boxed ⟨hj, e⟩
      rw [e]
      clear hj hlt e hle HO
      have t1 : decide ((D.n : Int) < (D.n : Int)) = false := decide_eq_false (by omega)
      go_wp2_with fail
      go_ret
      exact ⟨j, ao', c', rfl, HP.out, HF.out, HBx.out _ HB.out⟩
end Go.Proofs.Ytdpjaafdpgkclaa
