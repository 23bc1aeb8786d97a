/-
  What the program's Next and the document's Next answer: where the next page begins.
-/
import Derived.Test.YtdpjaafdpgkclaaHe
namespace Go.Proofs.Ytdpjaafdpgkclaa
open Go.RowKit
set_option linter.unusedSimpArgs false
set_option linter.unusedVariables false

theorem Dc.nxr_yes (D : Dc) (a m : Nat) (h : D.cut (a + m + 1) = true) (h2 : D.nxr a m = a ∨ hi D.F a (m + 1) ≤ D.H) : D.nxr a (m + 1) = a + m + 1 := by
  have e : D.nxr a (m + 1) = if D.cut (a + m + 1) = true ∧ (D.nxr a m = a ∨ hi D.F a (m + 1) ≤ D.H) then a + m + 1 else D.nxr a m := rfl
  rw [e, if_pos ⟨h, h2⟩]
theorem Dc.nxr_no (D : Dc) (a m : Nat) (h : D.cut (a + m + 1) = false ∨ (D.nxr a m ≠ a ∧ D.H < hi D.F a (m + 1))) : D.nxr a (m + 1) = D.nxr a m := by
  have e : D.nxr a (m + 1) = if D.cut (a + m + 1) = true ∧ (D.nxr a m = a ∨ hi D.F a (m + 1) ≤ D.H) then a + m + 1 else D.nxr a m := rfl
  rw [e, if_neg ?_]
  rintro ⟨h1, h2⟩
  rcases h with h | h
  · rw [h1] at h; cases h
  · omega
/-- What the walks need of lines, settings and a height. -/
structure DcOk (D : Dc) (g : Stg) : Prop where
  o : g.o = D.o
  v : g.i = D.v
  go : I64 g.o ∧ I64 g.i
  ok : ∀ j, j < D.n → SltOk D.n (D.F j)
  n : D.n ≤ 1000
  H : 0 ≤ D.H ∧ D.H ≤ 1073741824
theorem DcOk.pos {D : Dc} {g : Stg} (h : DcOk D g) : ∀ j, j < D.n → 1 ≤ (D.F j).h := fun j hj => (h.ok j hj).1.1
theorem DcOk.hi {D : Dc} {g : Stg} (h : DcOk D g) (a m : Nat) (hn : a + m ≤ D.n) : 0 ≤ hi D.F a m ∧ hi D.F a m ≤ 1048576000 := by
  have h1 := hi_bound D.F D.n a m 1048576 (fun j hj => by have := (h.ok j hj).1; omega) hn
  have h2 := h.n
  omega
set_option maxRecDepth 100000 in
set_option maxHeartbeats 2000000 in
theorem next_any (D : Dc) (g : Stg) (hD : DcOk D g) (S : Nat → Prop) (ao : Option Addr) (c a : Nat) (w : World) (h : SltsAt S w ao D.n D.F) (ha : a ≤ D.n) :
    Calls Try.prog 33 #[.slice ao D.n c, .int .i64 (a : Nat), .int .i64 D.H, g.val] w fun e w' => e = .returned (.int .i64 (D.nx a : Nat)) ∧ Below w.heap.size w w' := by
  obtain ⟨W0, hW0⟩ : ∃ W0, w.alloc (.cells #[.int .i64 g.t, .int .i64 g.l, .int .i64 g.a, .int .i64 g.d, .int .i64 g.z, .int .i64 g.o, .int .i64 g.i] 24) = W0 := ⟨_, rfl⟩
  have hst := stc_new w g
  have hB0 := (laid1 w (.cells #[.int .i64 g.t, .int .i64 g.l, .int .i64 g.a, .int .i64 g.d, .int .i64 g.z, .int .i64 g.o, .int .i64 g.i] 24)).2.1
  rw [hW0] at hst hB0
  have HH := boxed (h.below hB0)
  have HS := boxed hst
  have HB0 := boxed hB0
  have HW0 := boxed hW0
  have HM := boxed (fun (line : Nat) (hl : line < D.n) (W : World) (hb : Below W0.heap.size W0 W) => mayend_any D g hD.o hD.v hD.go S ao c line W (HH.out.below hb) hl (by have := hD.n; omega))
  have HD := boxed hD
  have hn := hD.n
  clear h hst hB0 hW0 hD
  unfold Stg.val at *
  have hH := HD.out.H
  go_enter Try.func33, Try.ntmps33
  go_upto_region 1 with fail
  rw [HW0.out]
  go_wp2_with fail
  go_loopw [9, 10, 11] (fun nv hv lv wr => ∃ m : Nat, a + m ≤ D.n ∧ nv = .int .i64 (D.nxr a m : Nat) ∧ hv = .int .i64 (hi D.F a m) ∧ lv = .int .i64 ((a + m : Nat) : Int) ∧ Box (Below W0.heap.size W0 wr)) (fun _ _ lv _ => D.n - (intOf lv).toNat)
  case atStart => exact ⟨0, by omega, rfl, rfl, rfl, boxed (Below.refl _ _)⟩
  case round =>
    obtain ⟨m, hm, rfl, rfl, rfl, HB⟩ := hrel
    by_cases hlt : a + m < D.n
    · obtain ⟨b, off, rfl, -, -⟩ := HH.out.form (by omega)
      obtain ⟨c0, -, -, -⟩ := (HH.out.below HB.out).get (a + m) hlt
      obtain ⟨s0, s1, s2, s3, s4, s5, s6⟩ := HS.out.below HB.out
      have h1 := HD.out.hi a m (by omega)
      have h2 := (HD.out.ok (a + m) hlt).1
      have hc := HM.out (a + m) hlt wr HB.out
      have HN : Box (hi D.F a (m + 1) = hi D.F a m + (D.F (a + m)).h) := boxed rfl
      have HL := D.nxr_le a m
      have HY := boxed (D.nxr_yes a m)
      have HO := boxed (D.nxr_no a m)
      have HSt := boxed (fun q => D.nxr_stay a m (D.n - a) HD.out.pos (by omega) q)
      rw [HN.out] at HY HO HSt
      obtain ⟨q, hq⟩ : ∃ q : Nat, a + m = q := ⟨_, rfl⟩
      have HQ := boxed hq
      rw [hq] at c0 hc HY HO h2 hm hlt ⊢
      rw [hq] at HN HSt
      generalize hi D.F a m = X at *
      generalize (D.F q).h = Y at *
      generalize hC : D.cut (q + 1) = C at *
      generalize hx : D.nxr a m = x at *
      have hx2 := boxed hx
      have hC2 := boxed hC
      clear hx hC hq HM
      have q1 : (q : Int) < (D.n : Int) := by omega
      by_cases hbr : D.H < X + Y ∧ a < x
      · have HE : Box (D.nx a = x) := boxed (by unfold Dc.nx; exact HSt.out (by omega) hbr.1 (by have := HQ.out; omega))
        have t1 : decide (D.H < X + Y) = true := decide_eq_true hbr.1
        have t2 : decide ((a : Int) < (x : Int)) = true := decide_eq_true (by omega)
        have t3 : decide (a < x) = true := decide_eq_true (by omega)
        clear HY HO HN HSt hbr HL hc
        go_wp2_with fail
        go_ret
        exact ⟨by rw [HE.out]; rfl, HB0.out.trans (HB.out.mono (by have := HB0.out.size; omega))⟩
      · have hun : undef = Value.tuple #[] := rfl
        have HNb : Box (x = a ∨ X + Y ≤ D.H) := boxed (by omega)
        have tz : ∃ B : Bool, decide (D.H < X + Y) = B ∧ (B = true → decide ((a : Int) < (x : Int)) = false ∧ decide (a < x) = false) := by
          by_cases u : D.H < X + Y
          · exact ⟨true, decide_eq_true u, fun _ => ⟨decide_eq_false (by omega), decide_eq_false (by omega)⟩⟩
          · exact ⟨false, decide_eq_false u, fun e => by cases e⟩
        obtain ⟨B, t1, t2⟩ := tz
        have hXY : wrap64 (X + Y) = X + Y := by unfold wrap64; omega
        clear hbr HSt
        cases B with
        | true =>
          obtain ⟨t3, t4⟩ := t2 rfl
          clear hun
          go_wp2_with fail
          refine hc.mono ?_
          rintro e w2 ⟨rfl, hb2⟩
          have HB2 := boxed (below_step HB.out (Nat.le_refl _) hb2)
          clear hb2 hc
          cases C with
          | true =>
            have HE := boxed (HY.out rfl HNb.out)
            clear HY HO t1 t3 t4
            go_wp2_with fail
            go_roundw
            case rel => exact ⟨m + 1, by have := HQ.out; omega, by rw [HE.out] <;> (first | rfl | go_num), by rw [HN.out], by rw [show a + (m + 1) = q + 1 by have := HQ.out; omega] <;> (first | rfl | go_num), HB2⟩
            case measure => simp [intOf]; omega
          | false =>
            have HE := boxed (HO.out (.inl rfl))
            clear HY HO t1 t3 t4
            go_wp2_with fail
            go_roundw
            case rel => exact ⟨m + 1, by have := HQ.out; omega, by rw [HE.out], by rw [HN.out], by rw [show a + (m + 1) = q + 1 by have := HQ.out; omega] <;> (first | rfl | go_num), HB2⟩
            case measure => simp [intOf]; omega
        | false =>
          clear t2 hun
          go_wp2_with fail
          refine hc.mono ?_
          rintro e w2 ⟨rfl, hb2⟩
          have HB2 := boxed (below_step HB.out (Nat.le_refl _) hb2)
          clear hb2 hc
          cases C with
          | true =>
            have HE := boxed (HY.out rfl HNb.out)
            clear HY HO t1
            go_wp2_with fail
            go_roundw
            case rel => exact ⟨m + 1, by have := HQ.out; omega, by rw [HE.out] <;> (first | rfl | go_num), by rw [HN.out], by rw [show a + (m + 1) = q + 1 by have := HQ.out; omega] <;> (first | rfl | go_num), HB2⟩
            case measure => simp [intOf]; omega
          | false =>
            have HE := boxed (HO.out (.inl rfl))
            clear HY HO t1
            go_wp2_with fail
            go_roundw
            case rel => exact ⟨m + 1, by have := HQ.out; omega, by rw [HE.out], by rw [HN.out], by rw [show a + (m + 1) = q + 1 by have := HQ.out; omega] <;> (first | rfl | go_num), HB2⟩
            case measure => simp [intOf]; omega
    · have e : a + m = D.n := by omega
      have HE : Box (D.nx a = D.nxr a m) := boxed (by unfold Dc.nx; rw [show D.n - a = m by omega])
      rw [e]
      have t1 : decide ((D.n : Int) < (D.n : Int)) = false := decide_eq_false (by omega)
      go_wp2_with fail
      go_ret
      exact ⟨by rw [HE.out]; rfl, HB0.out.trans (HB.out.mono (by have := HB0.out.size; omega))⟩
set_option maxRecDepth 100000 in
set_option maxHeartbeats 2000000 in
theorem refnext_any (D : Dc) (g : Stg) (hD : DcOk D g) (S : Nat → Prop) (ao : Option Addr) (c a : Nat) (w : World) (h : SltsAt S w ao D.n D.F) (ha : a ≤ D.n) :
    Calls Try.prog 29 #[.slice ao D.n c, .int .i64 (a : Nat), .int .i64 D.H, g.val] w fun e w' => e = .returned (.int .i64 (D.nx a : Nat)) ∧ Below w.heap.size w w' := by
  obtain ⟨W0, hW0⟩ : ∃ W0, w.alloc (.cells #[.int .i64 g.t, .int .i64 g.l, .int .i64 g.a, .int .i64 g.d, .int .i64 g.z, .int .i64 g.o, .int .i64 g.i] 24) = W0 := ⟨_, rfl⟩
  have hst := stc_new w g
  have hB0 := (laid1 w (.cells #[.int .i64 g.t, .int .i64 g.l, .int .i64 g.a, .int .i64 g.d, .int .i64 g.z, .int .i64 g.o, .int .i64 g.i] 24)).2.1
  rw [hW0] at hst hB0
  have HH := boxed (h.below hB0)
  have HS := boxed hst
  have HB0 := boxed hB0
  have HW0 := boxed hW0
  have HM := boxed (fun (k : Nat) (hl : k ≤ D.n) (W : World) (hb : Below W0.heap.size W0 W) => refcut_any D g hD.o hD.v S ao c k W (HH.out.below hb) hD.ok hl (by have := hD.n; omega))
  have HG := boxed (fun (m : Nat) (hl : a + m ≤ D.n) (W : World) (hb : Below W0.heap.size W0 W) => refhigh_any D.F D.n S ao c a m W (HH.out.below hb) hD.ok hl (by have := hD.n; omega))
  have HD := boxed hD
  have hn := hD.n
  clear h hst hB0 hW0 hD
  unfold Stg.val at *
  go_enter Try.func29, Try.ntmps29
  go_upto_region 1 with fail
  rw [HW0.out]
  go_wp2_with fail
  go_loopw [9, 10] (fun nv kv wr => ∃ m : Nat, a + m ≤ D.n ∧ nv = .int .i64 (D.nxr a m : Nat) ∧ kv = .int .i64 ((a + m + 1 : Nat) : Int) ∧ Box (Below W0.heap.size W0 wr)) (fun _ kv _ => D.n + 1 - (intOf kv).toNat)
  case atStart => exact ⟨0, by omega, rfl, rfl, boxed (Below.refl _ _)⟩
  case round =>
    obtain ⟨m, hm, rfl, rfl, HB⟩ := hrel
    by_cases hlt : a + m < D.n
    · obtain ⟨s0, s1, s2, s3, s4, s5, s6⟩ := HS.out.below HB.out
      have hc := HM.out (a + m + 1) hlt wr HB.out
      have HL := D.nxr_le a m
      have HY := boxed (D.nxr_yes a m)
      have HO := boxed (D.nxr_no a m)
      have HG2 := boxed (fun W hb => HG.out (m + 1) (by omega) W hb)
      obtain ⟨q, hq⟩ : ∃ q : Nat, a + m + 1 = q := ⟨_, rfl⟩
      have HQ := boxed hq
      rw [show a + (m + 1) = q by omega] at HG2
      rw [hq] at hc HY HO ⊢
      generalize hi D.F a (m + 1) = X at *
      generalize D.cut q = C at *
      have HX : Box (D.nxr a m = D.nxr a m) := boxed rfl
      generalize hx : D.nxr a m = x at *
      clear hx hq HM HG HX
      have q1 : (q : Int) ≤ (D.n : Int) := by have := HQ.out; omega
      have q2 : q ≤ D.n := by have := HQ.out; omega
      go_wp2_with fail
      refine hc.mono ?_
      rintro e w2 ⟨rfl, hb2⟩
      have HB2 := boxed (below_step HB.out (Nat.le_refl _) hb2)
      clear hb2 hc
      cases C with
      | false =>
        have HE := boxed (HO.out (.inl rfl))
        clear HY HO HG2
        go_wp2_with fail
        go_roundw
        case rel => exact ⟨m + 1, by have := HQ.out; omega, by rw [HE.out], by rw [show a + (m + 1) + 1 = q + 1 by have := HQ.out; omega] <;> rfl, HB2⟩
        case measure => simp [intOf]; omega
      | true =>
        by_cases ce : x = a
        · have HE := boxed (HY.out rfl (.inl ce))
          have t1 : ((x : Int) == (a : Int)) = true := by rw [beq_iff_eq]; omega
          clear HY HO HG2 ce HL
          go_wp2_with fail
          go_roundw
          case rel => exact ⟨m + 1, by have := HQ.out; omega, by rw [HE.out], by rw [show a + (m + 1) + 1 = q + 1 by have := HQ.out; omega] <;> rfl, HB2⟩
          case measure => simp [intOf]; omega
        · have t1 : ((x : Int) == (a : Int)) = false := by rw [beq_eq_false_iff_ne]; omega
          have hg := HG2.out w2 HB2.out
          clear HG2
          by_cases cX : X ≤ D.H
          · have HE := boxed (HY.out rfl (.inr cX))
            have t2 : decide (X ≤ D.H) = true := decide_eq_true cX
            clear HY HO ce HL cX
            go_wp2_with fail
            refine hg.mono ?_
            rintro e w3 ⟨rfl, hw3⟩
            subst hw3
            go_wp2_with fail
            go_roundw
            case rel => exact ⟨m + 1, by have := HQ.out; omega, by rw [HE.out], by rw [show a + (m + 1) + 1 = q + 1 by have := HQ.out; omega] <;> rfl, HB2⟩
            case measure => simp [intOf]; omega
          · have HE := boxed (HO.out (.inr ⟨ce, by omega⟩))
            have t2 : decide (X ≤ D.H) = false := decide_eq_false cX
            clear HY HO ce HL cX
            go_wp2_with fail
            refine hg.mono ?_
            rintro e w3 ⟨rfl, hw3⟩
            subst hw3
            go_wp2_with fail
            go_roundw
            case rel => exact ⟨m + 1, by have := HQ.out; omega, by rw [HE.out], by rw [show a + (m + 1) + 1 = q + 1 by have := HQ.out; omega] <;> rfl, HB2⟩
            case measure => simp [intOf]; omega
    · have HE : Box (D.nx a = D.nxr a m) := boxed (by unfold Dc.nx; rw [show D.n - a = m by omega])
      rw [show a + m + 1 = D.n + 1 by omega]
      have t1 : decide ((D.n : Int) + 1 ≤ (D.n : Int)) = false := decide_eq_false (by omega)
      have t2 : decide (((D.n + 1 : Nat) : Int) ≤ (D.n : Int)) = false := decide_eq_false (by omega)
      go_wp2_with fail
      go_ret
      exact ⟨by rw [HE.out]; rfl, HB0.out.trans (HB.out.mono (by have := HB0.out.size; omega))⟩
end Go.Proofs.Ytdpjaafdpgkclaa
