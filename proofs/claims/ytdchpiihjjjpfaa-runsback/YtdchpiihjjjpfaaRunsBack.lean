/-
  For every number, script and call the law RunsBack answers true and leaves its arguments as they were: what is inserted and deleted again leaves the list; what is sliced and laid again too; a copy goes its own way.
-/
import Derived.Test.YtdchpiihjjjpfaaRows
import Derived.WalkKit
import Derived.ProofKit
import Derived.OpenShut
import Derived.SizedLaws
import Derived.ShutString
import Derived.ChangeOld
import Derived.Below
import Derived.Test.YtdchpiihjjjpfaaLv
import Derived.Test.YtdchpiihjjjpfaaLz
import Derived.Test.YtdchpiihjjjpfaaKb
import Derived.Test.YtdchpiihjjjpfaaKc
import Derived.Test.YtdchpiihjjjpfaaKd
import Derived.Test.YtdchpiihjjjpfaaKg
import Derived.Test.YtdchpiihjjjpfaaKh
import Derived.Test.YtdchpiihjjjpfaaKi
namespace Go.Proofs.Ytdchpiihjjjpfaa.runsBack
open Go.ChangeShapes Go.WideShapes Go.ChangeAt Go.RowKit
open Go.ChangeMaps (open_string shut_string)
set_option linter.unusedVariables false
set_option linter.unusedSimpArgs false

theorem own : ownKnob Try.prog.godebug = none := by kernel_rfl
theorem laidOut : laidOutB Try.prog = true := by kernel_rfl

set_option maxRecDepth 100000 in
set_option maxHeartbeats 6000000 in
theorem walk (w : World) (a0 : Int) (w0 : (Lit.int .i64 a0).wf = true) (ao1 : Option Addr) (n1 cap1 : Nat) (O1 : Nat → Opr) (hn1 : n1 ≤ maxLen) (hO1 : OpsAt (fun _ => True) w ao1 n1 O1) (o2 : Opr) (ho2 : OprOk (fun _ => True) w o2) :
    Calls Try.prog 8 #[.int .i64 a0, .slice ao1 n1 cap1, .agg #[.int .i64 o2.kind, .int .i64 o2.a, .int .i64 o2.b, .int .i64 o2.st, .slice o2.ro o2.rn o2.rc]] w fun e w' => e = .returned (.bool true) ∧ Below w.heap.size w w' := by
  have hs := small_any a0 1
  by_cases hsm : smb a0 1 = true
  · obtain ⟨⟨q1, q2⟩, -⟩ := (smb_iff _ _).1 hsm
    rw [hsm] at hs
    obtain ⟨n, rfl⟩ : ∃ n : Nat, a0 = n := ⟨a0.toNat, by omega⟩
    have hp := fun w' (hb : Below w.heap.size w w') => played_any n 1 (by omega) ⟨by omega, by omega⟩ ao1 n1 cap1 O1 w' hn1 (hO1.keep (fun k i u _ hc => ⟨trivial, hold hb hc⟩))
    have HP := boxed hp
    have hA := ho2.a
    have hB := ho2.b
    clear hp hsm hO1 ho2
    generalize o2.a = A at *
    generalize o2.b = B at *
    generalize o2.kind = ok at *
    generalize o2.st = os at *
    generalize o2.ro = oro at *
    generalize o2.rn = orn at *
    generalize o2.rc = orc at *
    obtain ⟨W1, hW1⟩ : ∃ W1, w.alloc (.cells #[.int .i64 ok, .int .i64 A, .int .i64 B, .int .i64 os, .slice oro orn orc] 60) = W1 := ⟨_, rfl⟩
    have u1 : W1.cell? ⟨w.heap.size, 1, none⟩ = some (.int .i64 A) := by rw [← hW1, cell_new _ _ _ _ _ rfl]; rfl
    have u2 : W1.cell? ⟨w.heap.size, 2, none⟩ = some (.int .i64 B) := by rw [← hW1, cell_new _ _ _ _ _ rfl]; rfl
    have hz1 : W1.heap.size = w.heap.size + 1 := by rw [← hW1]; simp
    have HBW : Box (∀ W', Below (w.heap.size + 1) W1 W' → Below w.heap.size w W') := boxed (fun W' hb => by rw [← hW1] at hb; exact below_box hb)
    go_enter Try.func8, Try.ntmps8
    go_wp2_with fail
    refine (awake_any _).mono ?_
    rintro e w1 ⟨rfl, hb1⟩
    rw [hz1] at hb1
    have HB1 := boxed hb1
    clear hb1
    go_wp2_with (go_at_call 10; refine (hs _).mono ?_; rintro e w1' ⟨rfl, hw'⟩; subst w1')
    refine (HP.out _ (HBW.out _ HB1.out)).mono ?_
    rintro e w2 ⟨lb, b, off, cp, aL, capL, k, s, bare, -, -, -, rfl, hlb, hL, hr, hb2⟩
    have HB2 := boxed (below_step HB1.out (by omega) hb2)
    have HL := boxed hL
    clear hL hr hb2 HP
    have hlb2 := HL.out.lt
    have hlen := HL.out.len
    have HSK := boxed HL.out.ok
    obtain ⟨wx, hwx⟩ : ∃ wx, w2.alloc (.cells #[.slice (some ⟨b, off, none⟩) s.length cp, .int .i64 bare] 28) = wx := ⟨_, rfl⟩
    have hbx : Below w2.heap.size w2 wx := by rw [← hwx]; exact (Below.refl _ _).alloc (Nat.le_refl _) _
    have HLx := boxed (HL.out.below hbx)
    have HBx := boxed (below_step HB2.out (by omega) hbx)
    have hzx := hbx.size
    clear hbx HL
    go_wp2_with fail
    refine (runs_sh HLx.out).mono ?_
    rintro e w3 ⟨so3, sc3, rfl, ho3, hb3⟩
    have HO3 := boxed ho3
    have HL3 := boxed (HLx.out.below hb3)
    have HB3 := boxed (below_step HBx.out (by omega) hb3)
    have hz3 := hb3.size
    clear hb3 ho3
    go_wp2_with fail
    refine (copy_any HL3.out).mono ?_
    rintro e w4 ⟨lc, ac, cc, rfl, hlc, hLc, -, hb4⟩
    have hb1z := HB1.out.size
    have HS : Box (BkS w A B W1 lb lc wx.heap.size (.slice so3 (enc s).length sc3) s bare s w4 aL capL bare) := boxed ⟨HL3.out.below hb4, ⟨ac, cc, hLc⟩, owns_below HO3.out hb4, hold4 hz1 HB3.out hb4 u1, hold4 hz1 HB3.out hb4 u2, below_step HB3.out (by omega) hb4, ⟨by omega, by omega⟩, by omega, by omega, by have := hb4.size; omega⟩
    clear hb4 hLc HLx HBx HL3 HB3 HO3 u1 u2
    have ca := HS.out.ca
    have cb := HS.out.cb
    by_cases c1 : B < 0
    · have z1 : decide ((0 : Int) ≤ B) = false := decide_eq_false (by omega)
      clear c1
      have ca := HS.out.ca
      have cb := HS.out.cb
      go_wp2_with fail
      refine (slice_any HS.out.l A B).mono ?_
      rintro e waa hsl
      rcases hsl with ⟨hout, rfl, hb⟩ | ⟨hout, v8, rfl, hv8, hb⟩
      · have HSx := boxed (HS.out.next hb)
        clear hb hout ca cb
        go_wp2_with fail
        refine (len_any HSx.out.l).mono ?_
        rintro e wa1 ⟨rfl, hb⟩
        have HSx1 := boxed (HSx.out.next hb)
        clear hb
        go_wp2_with fail
        refine (set_any HSx1.out.l 0 (s.length : Nat) 7 ⟨by omega, by omega⟩ ⟨by omega, by omega⟩).mono ?_
        rintro e wa2 ⟨r7, rfl, -, ao7, cap7, hl7, hg7⟩
        have HSx2 := boxed (HSx1.out.edit hl7 hg7)
        clear hl7 hg7
        go_wp2_with fail
        obtain ⟨ac7, cc7, hcc⟩ := HSx2.out.c
        have HCC := boxed (runs_sh hcc)
        clear hcc
        refine HCC.out.mono ?_
        rintro e wa3 ⟨so7, sc7, rfl, ho7, hb⟩
        have HO7 := boxed (And.intro ho7 (owns_below HSx2.out.was hb))
        have HSx3 := boxed (HSx2.out.next hb)
        clear hb ho7 HCC
        go_wp2_with fail
        refine (same_yes _ _ _ _ _ s HSK.out hlen HO7.out.1 HO7.out.2).mono ?_
        rintro e wa4 ⟨rfl, hb⟩
        have HSx4 := boxed (HSx3.out.next hb)
        clear hb
        go_wp2
        go_ret
        exact ⟨rfl, HBW.out _ HSx4.out.bel⟩
      · have HSx := boxed (HS.out.next hb)
        obtain ⟨so8, sc8, rfl⟩ := own_shape hv8
        have HV8 := boxed hv8
        have hlt8 : lb < w4.heap.size := HS.out.l.lt
        obtain ⟨p1, p3, p2⟩ := (outb_iff _ _ _).1 hout
        obtain ⟨x, rfl⟩ : ∃ x : Nat, A = x := ⟨A.toNat, by omega⟩
        obtain ⟨y, rfl⟩ : ∃ y : Nat, B = y := ⟨B.toNat, by omega⟩
        have ex : ((x : Int)).toNat = x := by simp
        have ey : ((y : Int)).toNat = y := by simp
        rw [ex, ey] at HV8 ⊢
        have ca := HSx.out.ca
        have cb := HSx.out.cb
        clear hb hv8 hout ex ey
        go_wp2_with fail
        refine (set_any HSx.out.l (x : Int) (y : Int) 5 hA hB).mono ?_
        rintro e wab ⟨r5, rfl, -, ao5, cap5, hl5, hg5⟩
        have HL5 := boxed hl5
        have HSb := boxed (HSx.out.edit hl5 hg5)
        have HV9 := boxed (row_edit HV8.out hlt8 hg5)
        clear hl5 hg5
        have ca := HSb.out.ca
        have cb := HSb.out.cb
        have HLY := boxed (lay_again HL5.out HSK.out hlen (by omega) (by omega) hlt8 HV9.out)
        generalize (enc (sub s x y)).length = M8 at *
        go_wp2_with fail
        refine HLY.out.mono ?_
        rintro e wac ⟨rfl, aoc, capc, hlc, hgc⟩
        have HSc := boxed (HSb.out.edit hlc hgc)
        clear hlc hgc HLY
        go_wp2_with fail
        refine (runs_sh HSc.out.l).mono ?_
        rintro e wad ⟨sod, scd, rfl, hod, hb⟩
        have HOd := boxed (And.intro hod (owns_below HSc.out.was hb))
        have HSd := boxed (HSc.out.next hb)
        clear hb hod
        go_wp2_with fail
        refine (same_yes _ _ _ _ _ s HSK.out hlen HOd.out.1 HOd.out.2).mono ?_
        rintro e wae ⟨rfl, hb⟩
        have HSe := boxed (HSd.out.next hb)
        clear hb ca cb
        go_wp2_with fail
        refine (len_any HSe.out.l).mono ?_
        rintro e wa1 ⟨rfl, hb⟩
        have HSe1 := boxed (HSe.out.next hb)
        clear hb
        go_wp2_with fail
        refine (set_any HSe1.out.l 0 (s.length : Nat) 7 ⟨by omega, by omega⟩ ⟨by omega, by omega⟩).mono ?_
        rintro e wa2 ⟨r7, rfl, -, ao7, cap7, hl7, hg7⟩
        have HSe2 := boxed (HSe1.out.edit hl7 hg7)
        clear hl7 hg7
        go_wp2_with fail
        obtain ⟨ac7, cc7, hcc⟩ := HSe2.out.c
        have HCC := boxed (runs_sh hcc)
        clear hcc
        refine HCC.out.mono ?_
        rintro e wa3 ⟨so7, sc7, rfl, ho7, hb⟩
        have HO7 := boxed (And.intro ho7 (owns_below HSe2.out.was hb))
        have HSe3 := boxed (HSe2.out.next hb)
        clear hb ho7 HCC
        go_wp2_with fail
        refine (same_yes _ _ _ _ _ s HSK.out hlen HO7.out.1 HO7.out.2).mono ?_
        rintro e wa4 ⟨rfl, hb⟩
        have HSe4 := boxed (HSe3.out.next hb)
        clear hb
        go_wp2
        go_ret
        exact ⟨rfl, HBW.out _ HSe4.out.bel⟩
    · have z1 : decide ((0 : Int) ≤ B) = true := decide_eq_true (by omega)
      by_cases c2 : 1000 ≤ B
      · have z2 : decide (B < (1000 : Int)) = false := decide_eq_false (by omega)
        clear c1 c2
        have ca := HS.out.ca
        have cb := HS.out.cb
        go_wp2_with fail
        refine (slice_any HS.out.l A B).mono ?_
        rintro e wba hsl
        rcases hsl with ⟨hout, rfl, hb⟩ | ⟨hout, v8, rfl, hv8, hb⟩
        · have HSx := boxed (HS.out.next hb)
          clear hb hout ca cb
          go_wp2_with fail
          refine (len_any HSx.out.l).mono ?_
          rintro e wb1 ⟨rfl, hb⟩
          have HSx1 := boxed (HSx.out.next hb)
          clear hb
          go_wp2_with fail
          refine (set_any HSx1.out.l 0 (s.length : Nat) 7 ⟨by omega, by omega⟩ ⟨by omega, by omega⟩).mono ?_
          rintro e wb2 ⟨r7, rfl, -, ao7, cap7, hl7, hg7⟩
          have HSx2 := boxed (HSx1.out.edit hl7 hg7)
          clear hl7 hg7
          go_wp2_with fail
          obtain ⟨ac7, cc7, hcc⟩ := HSx2.out.c
          have HCC := boxed (runs_sh hcc)
          clear hcc
          refine HCC.out.mono ?_
          rintro e wb3 ⟨so7, sc7, rfl, ho7, hb⟩
          have HO7 := boxed (And.intro ho7 (owns_below HSx2.out.was hb))
          have HSx3 := boxed (HSx2.out.next hb)
          clear hb ho7 HCC
          go_wp2_with fail
          refine (same_yes _ _ _ _ _ s HSK.out hlen HO7.out.1 HO7.out.2).mono ?_
          rintro e wb4 ⟨rfl, hb⟩
          have HSx4 := boxed (HSx3.out.next hb)
          clear hb
          go_wp2
          go_ret
          exact ⟨rfl, HBW.out _ HSx4.out.bel⟩
        · have HSx := boxed (HS.out.next hb)
          obtain ⟨so8, sc8, rfl⟩ := own_shape hv8
          have HV8 := boxed hv8
          have hlt8 : lb < w4.heap.size := HS.out.l.lt
          obtain ⟨p1, p3, p2⟩ := (outb_iff _ _ _).1 hout
          obtain ⟨x, rfl⟩ : ∃ x : Nat, A = x := ⟨A.toNat, by omega⟩
          obtain ⟨y, rfl⟩ : ∃ y : Nat, B = y := ⟨B.toNat, by omega⟩
          have ex : ((x : Int)).toNat = x := by simp
          have ey : ((y : Int)).toNat = y := by simp
          rw [ex, ey] at HV8 ⊢
          have ca := HSx.out.ca
          have cb := HSx.out.cb
          clear hb hv8 hout ex ey
          go_wp2_with fail
          refine (set_any HSx.out.l (x : Int) (y : Int) 5 hA hB).mono ?_
          rintro e wbb ⟨r5, rfl, -, ao5, cap5, hl5, hg5⟩
          have HL5 := boxed hl5
          have HSb := boxed (HSx.out.edit hl5 hg5)
          have HV9 := boxed (row_edit HV8.out hlt8 hg5)
          clear hl5 hg5
          have ca := HSb.out.ca
          have cb := HSb.out.cb
          have HLY := boxed (lay_again HL5.out HSK.out hlen (by omega) (by omega) hlt8 HV9.out)
          generalize (enc (sub s x y)).length = M8 at *
          go_wp2_with fail
          refine HLY.out.mono ?_
          rintro e wbc ⟨rfl, aoc, capc, hlc, hgc⟩
          have HSc := boxed (HSb.out.edit hlc hgc)
          clear hlc hgc HLY
          go_wp2_with fail
          refine (runs_sh HSc.out.l).mono ?_
          rintro e wbd ⟨sod, scd, rfl, hod, hb⟩
          have HOd := boxed (And.intro hod (owns_below HSc.out.was hb))
          have HSd := boxed (HSc.out.next hb)
          clear hb hod
          go_wp2_with fail
          refine (same_yes _ _ _ _ _ s HSK.out hlen HOd.out.1 HOd.out.2).mono ?_
          rintro e wbe ⟨rfl, hb⟩
          have HSe := boxed (HSd.out.next hb)
          clear hb ca cb
          go_wp2_with fail
          refine (len_any HSe.out.l).mono ?_
          rintro e wb1 ⟨rfl, hb⟩
          have HSe1 := boxed (HSe.out.next hb)
          clear hb
          go_wp2_with fail
          refine (set_any HSe1.out.l 0 (s.length : Nat) 7 ⟨by omega, by omega⟩ ⟨by omega, by omega⟩).mono ?_
          rintro e wb2 ⟨r7, rfl, -, ao7, cap7, hl7, hg7⟩
          have HSe2 := boxed (HSe1.out.edit hl7 hg7)
          clear hl7 hg7
          go_wp2_with fail
          obtain ⟨ac7, cc7, hcc⟩ := HSe2.out.c
          have HCC := boxed (runs_sh hcc)
          clear hcc
          refine HCC.out.mono ?_
          rintro e wb3 ⟨so7, sc7, rfl, ho7, hb⟩
          have HO7 := boxed (And.intro ho7 (owns_below HSe2.out.was hb))
          have HSe3 := boxed (HSe2.out.next hb)
          clear hb ho7 HCC
          go_wp2_with fail
          refine (same_yes _ _ _ _ _ s HSK.out hlen HO7.out.1 HO7.out.2).mono ?_
          rintro e wb4 ⟨rfl, hb⟩
          have HSe4 := boxed (HSe3.out.next hb)
          clear hb
          go_wp2
          go_ret
          exact ⟨rfl, HBW.out _ HSe4.out.bel⟩
      · have z2 : decide (B < (1000 : Int)) = true := decide_eq_true (by omega)
        go_wp2_with fail
        refine (insert_any HS.out.l A B hA hB).mono ?_
        rintro e w5 ⟨rfl, ao5, cap5, hL5, hg5⟩
        have HI := boxed (HS.out.edit hL5 hg5)
        clear hL5 hg5 ca cb
        by_cases hE : insE s A B = 0
        · obtain ⟨⟨f1, f2⟩, f3, f4⟩ := ins_facts hE
          obtain ⟨x0, rfl⟩ : ∃ x : Nat, A = x := ⟨A.toNat, by omega⟩
          obtain ⟨y0, rfl⟩ : ∃ y : Nat, B = y := ⟨B.toNat, by omega⟩
          have hib := ins_back (s := s) (bare := bare) (a := x0) (b := y0) hE (by omega)
          rw [hE]
          rw [show ((x0 + y0 : Nat) : Int) = (x0 : Int) + (y0 : Int) from by omega] at hib
          obtain ⟨i1, i2, i3⟩ := hib
          have w1a : IntKind.i64.wrap ((s.length : Int) + (y0 : Int)) = ((s.length + y0 : Nat) : Int) := by rw [IntKind.wrap_i64]; omega
          have w2a : IntKind.i64.wrap ((x0 : Int) + (y0 : Int)) = (x0 : Int) + (y0 : Int) := by rw [IntKind.wrap_i64]; omega
          have HLN1 := boxed (fun W' (hb : Below w5.heap.size w5 W') => len_any (HI.out.l.below hb))
          rw [i1] at HLN1
          obtain ⟨ac5, cc5, hc5⟩ := HI.out.c
          have HLN2 := boxed (fun W' (hb : Below w5.heap.size w5 W') => len_any (hc5.below hb))
          have HDL := boxed (fun W' (hb : Below w5.heap.size w5 W') => delete_any (HI.out.l.below hb) (x0 : Int) ((x0 : Int) + (y0 : Int)) hA ⟨by omega, by omega⟩)
          rw [i2, i3] at HDL
          have eo : ofs false = 0 := rfl
          rw [eo] at HDL
          have HX : Box (∀ W', Below w5.heap.size w5 W' → W'.cell? ⟨w.heap.size, 1, none⟩ = some (.int .i64 (x0 : Nat)) ∧ W'.cell? ⟨w.heap.size, 2, none⟩ = some (.int .i64 (y0 : Nat))) := boxed (fun W' hb => ⟨hold hb HI.out.ca, hold hb HI.out.cb⟩)
          have HD0 : Box (Below w5.heap.size w5 w5.drew) := boxed (Below.refl _ _).drew
          clear hc5 i1 i2 i3 hE
          go_wp2_with fail
          go_region_held3 (fun W' => W'.cell? ⟨w.heap.size, 1, none⟩ = some (.int .i64 (x0 : Nat)) ∧ W'.cell? ⟨w.heap.size, 2, none⟩ = some (.int .i64 (y0 : Nat)))
            (first | with_reducible exact HX.out _ HD0.out | with_reducible exact HX.out _ HD6.out | with_reducible exact HX.out _ HD7.out | with_reducible exact ⟨HI8.out.ca, HI8.out.cb⟩ | with_reducible exact ⟨HI9.out.ca, HI9.out.cb⟩ | with_reducible exact ⟨HI10.out.ca, HI10.out.cb⟩)
            (first
              | (go_at_call 12; refine (HLN1.out _ HD0.out).mono ?_; rintro e w6 ⟨rfl, hb6⟩; have HD6 := boxed (below_step HD0.out (Nat.le_refl _) hb6); clear hb6)
              | (go_at_call 12; refine (HLN2.out _ HD6.out).mono ?_; rintro e w7 ⟨rfl, hb7⟩; have HD7 := boxed (below_step HD6.out (Nat.le_refl _) hb7); clear hb7)
              | (go_at_call 28; refine (HDL.out _ HD7.out).mono ?_; rintro e w8 ⟨rfl, ao8, cap8, hL8, hg8⟩; have HI8 := boxed ((HI.out.next HD7.out).edit hL8 hg8); clear hL8 hg8)
              | (go_at_call 14; refine (runs_sh HI8.out.l).mono ?_; rintro e w9 ⟨so9, sc9, rfl, ho9, hb9⟩; have HO9 := boxed (And.intro ho9 (owns_below HI8.out.was hb9)); have HI9 := boxed (HI8.out.next hb9); clear ho9 hb9)
              | (go_at_call 13; refine (same_yes _ _ _ _ _ s HSK.out hlen HO9.out.1 HO9.out.2).mono ?_; rintro e w10 ⟨rfl, hb10⟩; have HI10 := boxed (HI9.out.next hb10); clear hb10))
          have ca := HI10.out.ca
          have cb := HI10.out.cb
          go_wp2_with fail
          refine (slice_any HI10.out.l (x0 : Int) (y0 : Int)).mono ?_
          rintro e wca hsl
          rcases hsl with ⟨hout, rfl, hb⟩ | ⟨hout, v8, rfl, hv8, hb⟩
          · have HI10x := boxed (HI10.out.next hb)
            clear hb hout ca cb
            go_wp2_with fail
            refine (len_any HI10x.out.l).mono ?_
            rintro e wc1 ⟨rfl, hb⟩
            have HI10x1 := boxed (HI10x.out.next hb)
            clear hb
            go_wp2_with fail
            refine (set_any HI10x1.out.l 0 (s.length : Nat) 7 ⟨by omega, by omega⟩ ⟨by omega, by omega⟩).mono ?_
            rintro e wc2 ⟨r7, rfl, -, ao7, cap7, hl7, hg7⟩
            have HI10x2 := boxed (HI10x1.out.edit hl7 hg7)
            clear hl7 hg7
            go_wp2_with fail
            obtain ⟨ac7, cc7, hcc⟩ := HI10x2.out.c
            have HCC := boxed (runs_sh hcc)
            clear hcc
            refine HCC.out.mono ?_
            rintro e wc3 ⟨so7, sc7, rfl, ho7, hb⟩
            have HO7 := boxed (And.intro ho7 (owns_below HI10x2.out.was hb))
            have HI10x3 := boxed (HI10x2.out.next hb)
            clear hb ho7 HCC
            go_wp2_with fail
            refine (same_yes _ _ _ _ _ s HSK.out hlen HO7.out.1 HO7.out.2).mono ?_
            rintro e wc4 ⟨rfl, hb⟩
            have HI10x4 := boxed (HI10x3.out.next hb)
            clear hb
            go_wp2
            go_ret
            exact ⟨rfl, HBW.out _ HI10x4.out.bel⟩
          · have HI10x := boxed (HI10.out.next hb)
            obtain ⟨so8, sc8, rfl⟩ := own_shape hv8
            have HV8 := boxed hv8
            have hlt8 : lb < w10.heap.size := HI10.out.l.lt
            obtain ⟨p1, p3, p2⟩ := (outb_iff _ _ _).1 hout
            have ex : ((x0 : Int)).toNat = x0 := by simp
            have ey : ((y0 : Int)).toNat = y0 := by simp
            rw [ex, ey] at HV8 ⊢
            have ca := HI10x.out.ca
            have cb := HI10x.out.cb
            clear hb hv8 hout ex ey
            go_wp2_with fail
            refine (set_any HI10x.out.l (x0 : Int) (y0 : Int) 5 hA hB).mono ?_
            rintro e wcb ⟨r5, rfl, -, ao5, cap5, hl5, hg5⟩
            have HL5 := boxed hl5
            have HI10b := boxed (HI10x.out.edit hl5 hg5)
            have HV9 := boxed (row_edit HV8.out hlt8 hg5)
            clear hl5 hg5
            have ca := HI10b.out.ca
            have cb := HI10b.out.cb
            have HLY := boxed (lay_again HL5.out HSK.out hlen (by omega) (by omega) hlt8 HV9.out)
            generalize (enc (sub s x0 y0)).length = M8 at *
            go_wp2_with fail
            refine HLY.out.mono ?_
            rintro e wcc ⟨rfl, aoc, capc, hlc, hgc⟩
            have HI10c := boxed (HI10b.out.edit hlc hgc)
            clear hlc hgc HLY
            go_wp2_with fail
            refine (runs_sh HI10c.out.l).mono ?_
            rintro e wcd ⟨sod, scd, rfl, hod, hb⟩
            have HOd := boxed (And.intro hod (owns_below HI10c.out.was hb))
            have HI10d := boxed (HI10c.out.next hb)
            clear hb hod
            go_wp2_with fail
            refine (same_yes _ _ _ _ _ s HSK.out hlen HOd.out.1 HOd.out.2).mono ?_
            rintro e wce ⟨rfl, hb⟩
            have HI10e := boxed (HI10d.out.next hb)
            clear hb ca cb
            go_wp2_with fail
            refine (len_any HI10e.out.l).mono ?_
            rintro e wc1 ⟨rfl, hb⟩
            have HI10e1 := boxed (HI10e.out.next hb)
            clear hb
            go_wp2_with fail
            refine (set_any HI10e1.out.l 0 (s.length : Nat) 7 ⟨by omega, by omega⟩ ⟨by omega, by omega⟩).mono ?_
            rintro e wc2 ⟨r7, rfl, -, ao7, cap7, hl7, hg7⟩
            have HI10e2 := boxed (HI10e1.out.edit hl7 hg7)
            clear hl7 hg7
            go_wp2_with fail
            obtain ⟨ac7, cc7, hcc⟩ := HI10e2.out.c
            have HCC := boxed (runs_sh hcc)
            clear hcc
            refine HCC.out.mono ?_
            rintro e wc3 ⟨so7, sc7, rfl, ho7, hb⟩
            have HO7 := boxed (And.intro ho7 (owns_below HI10e2.out.was hb))
            have HI10e3 := boxed (HI10e2.out.next hb)
            clear hb ho7 HCC
            go_wp2_with fail
            refine (same_yes _ _ _ _ _ s HSK.out hlen HO7.out.1 HO7.out.2).mono ?_
            rintro e wc4 ⟨rfl, hb⟩
            have HI10e4 := boxed (HI10e3.out.next hb)
            clear hb
            go_wp2
            go_ret
            exact ⟨rfl, HBW.out _ HI10e4.out.bel⟩
        · have eS : insS s bare A B = s := by unfold insS; rw [if_neg hE]
          rw [eS] at HI
          have hE' : (insE s A B == 0) = false := by simpa using hE
          clear eS hE
          generalize insE s A B = E5 at *
          have ca := HI.out.ca
          have cb := HI.out.cb
          go_wp2_with fail
          refine (slice_any HI.out.l A B).mono ?_
          rintro e wda hsl
          rcases hsl with ⟨hout, rfl, hb⟩ | ⟨hout, v8, rfl, hv8, hb⟩
          · have HIx := boxed (HI.out.next hb)
            clear hb hout ca cb
            go_wp2_with fail
            refine (len_any HIx.out.l).mono ?_
            rintro e wd1 ⟨rfl, hb⟩
            have HIx1 := boxed (HIx.out.next hb)
            clear hb
            go_wp2_with fail
            refine (set_any HIx1.out.l 0 (s.length : Nat) 7 ⟨by omega, by omega⟩ ⟨by omega, by omega⟩).mono ?_
            rintro e wd2 ⟨r7, rfl, -, ao7, cap7, hl7, hg7⟩
            have HIx2 := boxed (HIx1.out.edit hl7 hg7)
            clear hl7 hg7
            go_wp2_with fail
            obtain ⟨ac7, cc7, hcc⟩ := HIx2.out.c
            have HCC := boxed (runs_sh hcc)
            clear hcc
            refine HCC.out.mono ?_
            rintro e wd3 ⟨so7, sc7, rfl, ho7, hb⟩
            have HO7 := boxed (And.intro ho7 (owns_below HIx2.out.was hb))
            have HIx3 := boxed (HIx2.out.next hb)
            clear hb ho7 HCC
            go_wp2_with fail
            refine (same_yes _ _ _ _ _ s HSK.out hlen HO7.out.1 HO7.out.2).mono ?_
            rintro e wd4 ⟨rfl, hb⟩
            have HIx4 := boxed (HIx3.out.next hb)
            clear hb
            go_wp2
            go_ret
            exact ⟨rfl, HBW.out _ HIx4.out.bel⟩
          · have HIx := boxed (HI.out.next hb)
            obtain ⟨so8, sc8, rfl⟩ := own_shape hv8
            have HV8 := boxed hv8
            have hlt8 : lb < w5.heap.size := HI.out.l.lt
            obtain ⟨p1, p3, p2⟩ := (outb_iff _ _ _).1 hout
            obtain ⟨x, rfl⟩ : ∃ x : Nat, A = x := ⟨A.toNat, by omega⟩
            obtain ⟨y, rfl⟩ : ∃ y : Nat, B = y := ⟨B.toNat, by omega⟩
            have ex : ((x : Int)).toNat = x := by simp
            have ey : ((y : Int)).toNat = y := by simp
            rw [ex, ey] at HV8 ⊢
            have ca := HIx.out.ca
            have cb := HIx.out.cb
            clear hb hv8 hout ex ey
            go_wp2_with fail
            refine (set_any HIx.out.l (x : Int) (y : Int) 5 hA hB).mono ?_
            rintro e wdb ⟨r5, rfl, -, ao5, cap5, hl5, hg5⟩
            have HL5 := boxed hl5
            have HIb := boxed (HIx.out.edit hl5 hg5)
            have HV9 := boxed (row_edit HV8.out hlt8 hg5)
            clear hl5 hg5
            have ca := HIb.out.ca
            have cb := HIb.out.cb
            have HLY := boxed (lay_again HL5.out HSK.out hlen (by omega) (by omega) hlt8 HV9.out)
            generalize (enc (sub s x y)).length = M8 at *
            go_wp2_with fail
            refine HLY.out.mono ?_
            rintro e wdc ⟨rfl, aoc, capc, hlc, hgc⟩
            have HIc := boxed (HIb.out.edit hlc hgc)
            clear hlc hgc HLY
            go_wp2_with fail
            refine (runs_sh HIc.out.l).mono ?_
            rintro e wdd ⟨sod, scd, rfl, hod, hb⟩
            have HOd := boxed (And.intro hod (owns_below HIc.out.was hb))
            have HId := boxed (HIc.out.next hb)
            clear hb hod
            go_wp2_with fail
            refine (same_yes _ _ _ _ _ s HSK.out hlen HOd.out.1 HOd.out.2).mono ?_
            rintro e wde ⟨rfl, hb⟩
            have HIe := boxed (HId.out.next hb)
            clear hb ca cb
            go_wp2_with fail
            refine (len_any HIe.out.l).mono ?_
            rintro e wd1 ⟨rfl, hb⟩
            have HIe1 := boxed (HIe.out.next hb)
            clear hb
            go_wp2_with fail
            refine (set_any HIe1.out.l 0 (s.length : Nat) 7 ⟨by omega, by omega⟩ ⟨by omega, by omega⟩).mono ?_
            rintro e wd2 ⟨r7, rfl, -, ao7, cap7, hl7, hg7⟩
            have HIe2 := boxed (HIe1.out.edit hl7 hg7)
            clear hl7 hg7
            go_wp2_with fail
            obtain ⟨ac7, cc7, hcc⟩ := HIe2.out.c
            have HCC := boxed (runs_sh hcc)
            clear hcc
            refine HCC.out.mono ?_
            rintro e wd3 ⟨so7, sc7, rfl, ho7, hb⟩
            have HO7 := boxed (And.intro ho7 (owns_below HIe2.out.was hb))
            have HIe3 := boxed (HIe2.out.next hb)
            clear hb ho7 HCC
            go_wp2_with fail
            refine (same_yes _ _ _ _ _ s HSK.out hlen HO7.out.1 HO7.out.2).mono ?_
            rintro e wd4 ⟨rfl, hb⟩
            have HIe4 := boxed (HIe3.out.next hb)
            clear hb
            go_wp2
            go_ret
            exact ⟨rfl, HBW.out _ HIe4.out.bel⟩
  · have hsm' : smb a0 1 = false := by simpa using hsm
    rw [hsm'] at hs
    clear hsm hsm' hO1
    generalize o2.a = A at *
    generalize o2.b = B at *
    generalize o2.kind = ok at *
    generalize o2.st = os at *
    generalize o2.ro = oro at *
    generalize o2.rn = orn at *
    generalize o2.rc = orc at *
    go_enter Try.func8, Try.ntmps8
    go_wp2_with fail
    refine (awake_any _).mono ?_
    rintro e w1 ⟨rfl, hb1⟩
    rw [World.size_alloc] at hb1
    have HB1 := boxed hb1
    clear hb1
    go_wp2_with (go_at_call 10; refine (hs _).mono ?_; rintro e w1' ⟨rfl, hw'⟩; subst w1')
    go_ret
    exact ⟨rfl, below_box HB1.out⟩

set_option maxRecDepth 100000 in
theorem lifted (os : Os) (started : os.Started) (H : Type) (enc : TypeId × Value → H) :
    ReturnsInHanded {} Try.checked os 8 .any (Rows.runsBackSpec.pre6 enc Try.prog Try.f8 Rows.runsBackRow.domain false) (Rows.runsBackSpec.post enc Try.prog Try.f8 false true false false) := by
  refine returnsInHanded_of_change_sized (C := Try.checked) own started (by kernel_rfl) Try.func8
    (ChangeSpec.witness6 (enc := enc) (C := Try.checked) false ⟨#[], #[.int .i64 0, .slice none 0 0, .agg #[.int .i64 0, .int .i64 0, .int .i64 0, .int .i64 0, .slice none 0 0]], []⟩ 8 (by kernel_rfl) (by kernel_rfl) (by kernel_rfl) (by kernel_rfl)) ?_
  intro W base args ds gs before hval0 hW hcnd hsz0 _
  have hval : ∀ (j : Nat) t v, Try.f8.params[j]? = some t → args[j]? = some v → Value.okWide Try.prog W .any base t v := hval0
  have hsz : (DataW.weightsEach Try.prog (Try.f8.params.toList ++ Rows.runsBackSpec.plain.varTypes Try.prog) (ds ++ gs)).all (· ≤ reachBytes) = true := hsz0
  have hW' := hW
  obtain ⟨p, q, hA0, hV, rfl, hfz, hnd⟩ := hW
  have hA : DataW.TrodAll enc Try.prog W 0 (fun _ => true) true Try.f8.params.toList args.toList ds p := hA0
  rw [Try.params8] at hA hval hsz
  obtain ⟨v0, vs0, d0, ds0, p0, q0, hargs, rfl, rfl, h0, r0⟩ := trodAll_cons hA
  obtain ⟨v1, vs1, d1, ds1, p1, q1, rfl, rfl, rfl, h1, r1⟩ := trodAll_cons r0
  obtain ⟨v2, vs2, d2, ds2, p2, q2, rfl, rfl, rfl, h2, r2⟩ := trodAll_cons r1
  obtain ⟨rfl, rfl, rfl⟩ := trodAll_nil r2
  obtain rfl : args = #[v0, v1, v2] := by cases args; simp_all
  obtain ⟨rfl, rfl⟩ := trodVars_none hV
  obtain ⟨a0, rfl, rfl, rfl, w0⟩ := open_int Try.underlying3 (hval 0 3 v0 rfl rfl) h0
  obtain ⟨ao1, n1, cap1, rfl⟩ := okWide_slice Try.underlying22 (hval 1 22 v1 rfl rfl)
  have k1 := h1
  have lt1 : ∀ x ∈ p1, x.block < W.heap.size := by obtain ⟨m, hm⟩ := k1; exact DataW.trod_lt m _ _ _ hm
  obtain ⟨hn1, O1, hO1⟩ : n1 ≤ maxLen ∧ ∃ O, OpsAt (fun _ => True) W ao1 n1 O := by
    obtain ⟨fuel, hf⟩ := k1
    exact open_ops hf
  have k2 := h2
  have lt2 : ∀ x ∈ p2, x.block < W.heap.size := by obtain ⟨m, hm⟩ := k2; exact DataW.trod_lt m _ _ _ hm
  obtain ⟨o2, rfl, ho2⟩ : ∃ o : Opr, v2 = .agg #[.int .i64 o.kind, .int .i64 o.a, .int .i64 o.b, .int .i64 o.st, .slice o.ro o.rn o.rc] ∧ OprOk (fun _ => True) W o := by
    obtain ⟨fuel, hf⟩ := k2
    exact op_value hf
  clear hA0 hval0
  refine (walk W a0 w0 ao1 n1 cap1 O1 hn1 hO1 o2 ho2).mono fun e W' ⟨he, hg⟩ => ?_
  subst he
  exact ⟨_, rfl, _, _, _, [], _, [], hW', trodAll_mk1 (shut_bool Try.underlying4 _), (trodAll_cons_mk (shut_int Try.underlying3 w0) (trodAll_cons_mk (Below.trod laidOut (by kernel_rfl) (of_decide_eq_true (by kernel_rfl)) k1 hg lt1) (trodAll_cons_mk (Below.trod laidOut (by kernel_rfl) (of_decide_eq_true (by kernel_rfl)) k2 hg lt2) trodAll_mk0))), rfl, hg.frame _, fun h => by cases h⟩

theorem proved : Rows.RunsBackSaid :=
  OpenClaim.holds_of_wide 8 Try.f8 rfl rfl rfl rfl rfl rfl rfl ⟨rfl, rfl, rfl, rfl, rfl⟩ rfl rfl rfl rfl rfl (by kernel_rfl) Try.func8 (by kernel_rfl)
    (of_decide_eq_true (by kernel_rfl)) (by unfold Func.isWrapper; first | (rw [if_pos (by decide +kernel)]; kernel_rfl) | (rw [if_neg (by decide +kernel)]; exact ⟨rfl, rfl⟩))
    (fun os started H enc _ => lifted os started H enc)
#print axioms proved
end Go.Proofs.Ytdchpiihjjjpfaa.runsBack
