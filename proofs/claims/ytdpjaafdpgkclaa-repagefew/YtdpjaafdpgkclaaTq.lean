/-
  Books that begin, copies of books, and pages of another height: what New, Copy and Resize do.
-/
import Derived.Test.YtdpjaafdpgkclaaTp
namespace Go.Proofs.Ytdpjaafdpgkclaa
open Go.RowKit
set_option linter.unusedSimpArgs false
set_option linter.unusedVariables false

/-- What Paginate tells besides the pages. -/
def pgE (H : Int) (g : Stg) (R : Bool) : Int := if ckE H g = 0 then (if R = true then 0 else 1) else ckE H g
theorem pag_no (H : Int) (g : Stg) (S : Nat → Prop) (ao : Option Addr) (n c : Nat) (F : Nat → Slt) (R : Bool) (hR : R = true ↔ Rts F n 0) (hE : pgE H g R ≠ 0) (w : World) (h : SltsAt S w ao n F) (hn : n ≤ 1000) (hcap : n ≤ c) :
    Calls Try.prog 19 #[.slice ao n c, .int .i64 H, g.val] w fun e w' => e = .returned (.tuple #[.slice none 0 0, .int .i64 (pgE H g R)]) ∧ Below w.heap.size w w' := by
  unfold pgE at *
  by_cases h0 : ckE H g = 0
  · rw [if_pos h0] at hE ⊢
    cases R with
    | true => simp at hE
    | false => exact pag_wrong H g h0 S ao n c F (fun r => by have := hR.2 r; cases this) w h hn hcap
  · rw [if_neg h0] at hE ⊢
    exact pag_bad H g h0 ao n c w
theorem ok_of {H : Int} {g : Stg} {R : Bool} (h : pgE H g R = 0) : ckE H g = 0 ∧ R = true := by
  unfold pgE at h
  by_cases h0 : ckE H g = 0
  · rw [if_pos h0] at h
    cases R with
    | true => exact ⟨h0, rfl⟩
    | false => simp at h
  · rw [if_neg h0] at h; exact absurd h h0
theorem bk_new {w : World} {B B1 : Nat} {ao : Option Addr} {cap : Nat} {so : Option Addr} {sc : Nat} {D : Dc} {g : Stg} {J : Nat} (ho : w.ownsRow B 69 4 (.slice ao D.n cap) D.n (scs D.F D.n)) (hs : w.ownsRow B 3 1 (.slice so J sc) J (ncs (D.its J))) (hd : ∀ b, (Value.slice so J sc).ownBlock = some b → (Value.slice ao D.n cap).ownBlock ≠ some b) (hB : B ≤ w.heap.size) (hP : D.Pgs J) (hD : DcOk D g) (hE : ckE D.H g = 0) (hR : Rts D.F D.n 0) :
    BkC (w.alloc (.cells (bcs ao D.n cap so J sc D.H g) 66)) B w.heap.size ao cap so sc D g J :=
  ⟨heap_alloc_new _ _, ho.alloc _, fun b hb => by have := (ho.lt b hb).2; omega, hs.alloc _, fun b hb => ⟨by have := (hs.lt b hb).2; omega, hd b hb⟩, hB, hP, hD, hE, hR⟩
set_option maxRecDepth 100000 in
set_option maxHeartbeats 2000000 in
theorem new_no (H : Int) (g : Stg) (S : Nat → Prop) (ao : Option Addr) (n c : Nat) (F : Nat → Slt) (R : Bool) (hR : R = true ↔ Rts F n 0) (hE : pgE H g R ≠ 0) (w : World) (h : SltsAt S w ao n F) (hn : n ≤ 1000) (hcap : n ≤ c) :
    Calls Try.prog 18 #[.slice ao n c, .int .i64 H, g.val] w fun e w' => e = .returned (.tuple #[.pointer none, .int .i64 (pgE H g R)]) ∧ Below w.heap.size w w' := by
  obtain ⟨W0, hW0⟩ : ∃ W0, w.alloc (.cells #[.int .i64 g.t, .int .i64 g.l, .int .i64 g.a, .int .i64 g.d, .int .i64 g.z, .int .i64 g.o, .int .i64 g.i] 24) = W0 := ⟨_, rfl⟩
  have hst := stc_new w g
  have hB0 := (laid1 w (.cells #[.int .i64 g.t, .int .i64 g.l, .int .i64 g.a, .int .i64 g.d, .int .i64 g.z, .int .i64 g.o, .int .i64 g.i] 24)).2.1
  rw [hW0] at hst hB0
  have HP := boxed (pag_no H g S ao n c F R hR hE W0 (h.below hB0) hn hcap)
  have HB0 := boxed hB0
  have HW0 := boxed hW0
  obtain ⟨s0, s1, s2, s3, s4, s5, s6⟩ := hst
  have t2 : (pgE H g R != 0) = true := by rw [bne_iff_ne]; exact hE
  have t1 : (pgE H g R == 0) = false := by rw [beq_eq_false_iff_ne]; exact hE
  clear h hB0 hW0 hE hR
  generalize pgE H g R = E at *
  unfold Stg.val at *
  go_enter Try.func18, Try.ntmps18
  go_upto_region 1 with fail
  rw [HW0.out]
  go_wp2_with fail
  refine HP.out.mono ?_
  rintro e w1 ⟨rfl, hb⟩
  have HB := boxed (below_step HB0.out (Nat.le_refl _) hb)
  clear hb HP s0 s1 s2 s3 s4 s5 s6
  go_wp2_with fail
  go_ret2
  exact ⟨rfl, HB.out⟩
set_option maxRecDepth 100000 in
set_option maxHeartbeats 4000000 in
theorem new_ok (D : Dc) (g : Stg) (hD : DcOk D g) (hE : ckE D.H g = 0) (hR : Rts D.F D.n 0) (S : Nat → Prop) (lo : Option Addr) (c : Nat) (w : World) (h : SltsAt S w lo D.n D.F) (hcap : D.n ≤ c) :
    Calls Try.prog 18 #[.slice lo D.n c, .int .i64 D.H, g.val] w fun e w' => ∃ p ao cap so sc J, e = .returned (.tuple #[.pointer (some ⟨p, 0, none⟩), .int .i64 0]) ∧ BkC w' w.heap.size p ao cap so sc D g J ∧ Below w.heap.size w w' := by
  obtain ⟨W0, hW0⟩ : ∃ W0, w.alloc (.cells #[.int .i64 g.t, .int .i64 g.l, .int .i64 g.a, .int .i64 g.d, .int .i64 g.z, .int .i64 g.o, .int .i64 g.i] 24) = W0 := ⟨_, rfl⟩
  have hst := stc_new w g
  have hB0 := (laid1 w (.cells #[.int .i64 g.t, .int .i64 g.l, .int .i64 g.a, .int .i64 g.d, .int .i64 g.z, .int .i64 g.o, .int .i64 g.i] 24)).2.1
  rw [hW0] at hst hB0
  have HP := boxed (pag_cap D g hD hE hR S lo c W0 (h.below hB0) hcap)
  have HC := boxed (fun W (hb : Below w.heap.size w W) => cloneS_any S lo D.n c D.F W (h.below hb) (by have := hD.n; omega))
  have HB0 := boxed hB0
  have HW0 := boxed hW0
  have HS := boxed hst
  have HD := boxed hD
  have HE := boxed hE
  have HR := boxed hR
  have hz0 := hB0.size
  obtain ⟨s0, s1, s2, s3, s4, s5, s6⟩ := hst
  clear h hB0 hW0 hE hR hD
  unfold Stg.val at *
  go_enter Try.func18, Try.ntmps18
  go_upto_region 1 with fail
  rw [HW0.out]
  go_wp2_with fail
  refine HP.out.mono ?_
  rintro e w1 ⟨J, so, sc, rfl, hP, hs, hb⟩
  have HB := boxed (below_step HB0.out (Nat.le_refl _) hb)
  have HPg := boxed hP
  have HSt := boxed hs
  have HS1 := boxed (HS.out.below hb)
  have hz1 := hb.size
  clear hb HP hP hs s0 s1 s2 s3 s4 s5 s6 HS
  have HD1 : Box (Below w1.heap.size w1 w1.drew) := boxed (Below.refl _ _).drew
  have HD2 := boxed (below_step HB.out (Nat.le_refl _) HD1.out)
  obtain ⟨s0, s1, s2, s3, s4, s5, s6⟩ := HS1.out.below HD1.out
  go_wp2_with fail
  go_region_with (first
    | (go_at_call 30; refine (HC.out _ HD2.out).mono ?_; rintro e w2 ⟨ao, cap, rfl, ho, hb2⟩; have HO := boxed ho; have HB2 := boxed (below_step HD1.out (Nat.le_refl _) hb2); obtain ⟨r0, r1, r2, r3, r4, r5, r6⟩ := HS1.out.below HB2.out; clear ho hb2))
  all_goals
    have hzd : w1.heap.size ≤ w2.heap.size := HB2.out.size
    have ho1 : w2.ownsRow w1.heap.size 69 4 (.slice ao D.n cap) D.n (scs D.F D.n) := HO.out
    have HBk := boxed (bk_new (w := w2) (B := w.heap.size) (B1 := 0) (own_down ho1 (by omega)) (own_down (owns_below HSt.out HB2.out) (by omega)) (fun b hb e => by
      have k1 := (HSt.out.lt b hb).2
      have k2 := (ho1.lt b e).1
      omega) (by omega) HPg.out HD.out HE.out HR.out)
    have HBf := boxed ((below_step HB.out (Nat.le_refl _) HB2.out).alloc (by omega) (.cells (bcs ao D.n cap so J sc D.H g) 66))
    clear ho1 s0 s1 s2 s3 s4 s5 s6 r0 r1 r2 r3 r4 r5 r6
    go_wp2_with fail
    go_ret2
    exact ⟨w2.heap.size, ao, cap, so, sc, J, rfl, HBk.out, HBf.out⟩
set_option maxRecDepth 100000 in
set_option maxHeartbeats 8000000 in
theorem copy_any {w : World} {B p : Nat} {ao : Option Addr} {cap : Nat} {so : Option Addr} {sc : Nat} {D : Dc} {g : Stg} {J : Nat} (h : BkC w B p ao cap so sc D g J) :
    Calls Try.prog 22 #[.pointer (some ⟨p, 0, none⟩)] w fun e w' => ∃ p' ao' cap' so' sc', e = .returned (.pointer (some ⟨p', 0, none⟩)) ∧ BkC w' w.heap.size p' ao' cap' so' sc' D g J ∧ Below w.heap.size w w' := by
  have HBk := boxed (fun W (hb : Below w.heap.size w W) => h.below hb)
  have HD0 : Box (Below w.heap.size w w.drew) := boxed (Below.refl _ _).drew
  obtain ⟨⟨c0, c1, c2⟩, c3, c4, c5, c6, c7, c8, c9⟩ := (HBk.out _ HD0.out).cells
  have HP := boxed h.pgs
  have HD := boxed h.dc
  have HE := boxed h.ck
  have HR := boxed h.rts
  clear h
  go_enter Try.func22, Try.ntmps22
  go_wp2_with fail
  go_region_with (first
    | (go_at_call 15; refine (slots_any (HBk.out _ HD0.out)).mono ?_; rintro e w1 ⟨ao', cap', rfl, ho, hb1⟩; have HO1 := boxed ho; have HB1 := boxed (below_step HD0.out (Nat.le_refl _) hb1); obtain ⟨⟨d0, d1, d2⟩, d3, d4, d5, d6, d7, d8, d9⟩ := (HBk.out _ HB1.out).cells; clear ho hb1)
    | (go_at_call 12; refine (starts_any (HBk.out _ HB1.out)).mono ?_; rintro e w2 ⟨so', sc', rfl, ho, hb2⟩; have HO2 := boxed ho; have HX2 := boxed hb2; have HB2 := boxed (below_step HB1.out (Nat.le_refl _) hb2); obtain ⟨⟨e0, e1, e2⟩, e3, e4, e5, e6, e7, e8, e9⟩ := (HBk.out _ HB2.out).cells; clear ho hb2))
  all_goals
    have hz1 := HB1.out.size
    have hz2 := HX2.out.size
    have ho1 : w1.ownsRow w.heap.size 69 4 (.slice ao' D.n cap') D.n (scs D.F D.n) := HO1.out
    have HK := boxed (bk_new (w := w2) (B := w.heap.size) (B1 := 0) (owns_below ho1 HX2.out) (own_down HO2.out (by omega)) (fun b hb e => by
      have k1 := (HO2.out.lt b hb).1
      have k2 := (ho1.lt b e).2
      omega) (by omega) HP.out HD.out HE.out HR.out)
    have HBf := boxed (HB2.out.alloc (by omega) (.cells (bcs ao' D.n cap' so' J sc' D.H g) 66))
    clear ho1 c0 c1 c2 c3 c4 c5 c6 c7 c8 c9 d0 d1 d2 d3 d4 d5 d6 d7 d8 d9 e0 e1 e2 e3 e4 e5 e6 e7 e8 e9
    go_wp2_with fail
    go_ret
    exact ⟨w2.heap.size, ao', cap', so', sc', rfl, HK.out, HBf.out⟩
end Go.Proofs.Ytdpjaafdpgkclaa
