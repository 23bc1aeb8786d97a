/- What the document's Bad answers for any two numbers: the same as the program's. -/
import Derived.Test.YtcjcdpfjnomehaaGreatPl5
import Derived.Test.YtcjcdpfjnomehaaGreatPl8
namespace Go.Proofs.YtcjcdpfjnomehaaGreat
set_option maxRecDepth 100000
set_option maxHeartbeats 40000000
open Go.RowKit
set_option linter.unusedSimpArgs false
set_option linter.unusedVariables false
def vlx (n:Nat):Nat := n
theorem len_of {r:List Nat} (hc:Cn r) (n B:Nat) (hv:vl r ≤ B) (hB:B < 1000 ^ n):r.length ≤ n := hc.len n (by omega)
theorem bw_worst (t s:Nat) (hs:0 < s) (h:s * s * s * 10000 ≤ t * t * t * 100):bw t s = 10000 := by
 unfold bw
 refine Nat.min_eq_right ((Nat.le_div_iff_mul_le (cube_pos s hs)).2 ?_)
 generalize s * s * s = c at *
 generalize t * t * t = d at *
 omega
theorem bw_quot (t s:Nat) (hs:0 < s) (h:¬ s * s * s * 10000 ≤ t * t * t * 100):bw t s = qt (t * t * t * 100) (s * s * s) := by
 unfold bw qt
 have:t * t * t * 100 / (s * s * s) < 10000 := (Nat.div_lt_iff_lt_mul (cube_pos s hs)).2 (by rw [Nat.mul_comm 10000];omega)
 rw [Nat.mul_comm 100]
 generalize t * t * t * 100 / (s * s * s) = q at *
 omega
theorem refbad_core (t s:Int) (T S:Nat) (w:World) (ht:cl t = (T:Int)) (hs:cl s = (S:Int)) (hT:0 < T) (hS:0 < S) :
  Calls Tryz.prog 146 #[.int .i64 t,.int .i64 s] w fun e w' => e = .returned (.int .i64 (bw T S:Nat)) ∧ Below w.heap.size w w' := by
 have hTl:T ≤ 1152921504606846976 := by have := cl_le t;omega
 have hSl:S ≤ 1152921504606846976 := by have := cl_le s;omega
 have T2:T * T ≤ 1329227995784915872903807060280344576 := Nat.mul_le_mul hTl hTl
 have T3:T * T * T ≤ 1532495540865888858358347027150309183618739122183602176 := Nat.mul_le_mul T2 hTl
 have S2:S * S ≤ 1329227995784915872903807060280344576 := Nat.mul_le_mul hSl hSl
 have S3:S * S * S ≤ 1532495540865888858358347027150309183618739122183602176 := Nat.mul_le_mul S2 hSl
 have BT2 := hidq T2
 have BT3 := hidq T3
 have BS2 := hidq S2
 have BS3 := hidq S3
 have HS0 := hidq hS
 have e1:vlx T = (cl (T:Int)).natAbs := by rw [cl_same (T:Int) (by omega) (by omega)];unfold vlx;omega
 have e2:vlx S = (cl (S:Int)).natAbs := by rw [cl_same (S:Int) (by omega) (by omega)];unfold vlx;omega
 have HE1 := hidq e1
 have HE2 := hidq e2
 clear e1 e2 T2 T3 S2 S3
 go_enter Tryz.func146,Tryz.ntmps146
 go_wp2_with (go_at_call 98;refine (refclamp_any _ _).mono ?_;rintro e w' ⟨rfl,hw'⟩;subst w')
 refine (of_any _ _).mono ?_
 rintro e w1 ⟨ao1,cap1,r1,rfl,hd1,hc1,hv1,hb1⟩
 rw [← HE1.out] at hv1
 unfold vlx at hv1
 have k1:r1.length ≤ 7 := dig7 hc1 (by omega)
 have HD1 := hid hd1
 have HC1 := hid hc1
 have HV1 := hidq hv1
 have HB1 := hid hb1
 clear hd1 hc1 hv1 hb1
 go_wp2_with fail
 refine (of_any _ _).mono ?_
 rintro e w2 ⟨ao2,cap2,r2,rfl,hd2,hc2,hv2,hb2⟩
 rw [← HE1.out] at hv2
 unfold vlx at hv2
 have k2:r2.length ≤ 7 := dig7 hc2 (by omega)
 have HD2 := hid hd2
 have HC2 := hid hc2
 have HV2 := hidq hv2
 have HB2:Hid (Below w.heap.size w w2) := HB1.out.trans (hb2.mono HB1.out.size)
 have HD1 := hid (HD1.out.below hb2)
 clear hd2 hc2 hv2 hb2
 go_wp2_with fail
 refine (times_any _ _ r1 _ _ r2 _ HD1.out (by omega) HC1.out.1 HD2.out (by omega) HC2.out.1).mono ?_
 rintro e w3 ⟨ao3,cap3,r3,rfl,hd3,hc3,hv3,hb3⟩
 rw [HV1.out,HV2.out] at hv3
 have k3:r3.length ≤ 14 := len_of hc3 14 1329227995784915872903807060280344576 (by rw [hv3];exact BT2.out) (by decide)
 have HD3 := hid hd3
 have HC3 := hid hc3
 have HV3 := hidq hv3
 have HB3:Hid (Below w.heap.size w w3) := HB2.out.trans (hb3.mono HB2.out.size)
 clear hd3 hc3 hv3 hb3
 go_wp2_with fail
 refine (of_any _ _).mono ?_
 rintro e w4 ⟨ao4,cap4,r4,rfl,hd4,hc4,hv4,hb4⟩
 rw [← HE1.out] at hv4
 unfold vlx at hv4
 have k4:r4.length ≤ 7 := dig7 hc4 (by omega)
 have HD4 := hid hd4
 have HC4 := hid hc4
 have HV4 := hidq hv4
 have HB4:Hid (Below w.heap.size w w4) := HB3.out.trans (hb4.mono HB3.out.size)
 have HD3 := hid (HD3.out.below hb4)
 clear hd4 hc4 hv4 hb4
 go_wp2_with fail
 refine (times_any _ _ r3 _ _ r4 _ HD3.out (by omega) HC3.out.1 HD4.out (by omega) HC4.out.1).mono ?_
 rintro e w5 ⟨ao5,cap5,r5,rfl,hd5,hc5,hv5,hb5⟩
 rw [HV3.out,HV4.out] at hv5
 have k5:r5.length ≤ 21 := len_of hc5 21 1532495540865888858358347027150309183618739122183602176 (by rw [hv5];exact BT3.out) (by decide)
 have HD5 := hid hd5
 have HC5 := hid hc5
 have HV5 := hidq hv5
 have HB5:Hid (Below w.heap.size w w5) := HB4.out.trans (hb5.mono HB4.out.size)
 clear hd5 hc5 hv5 hb5
 go_wp2_with fail
 refine (of_any _ _).mono ?_
 rintro e w6 ⟨ao6,cap6,r6,rfl,hd6,hc6,hv6,hb6⟩
 have hv6:vl r6 = 100 := by rw [hv6];decide
 have k6:r6.length ≤ 7 := dig7 hc6 (by omega)
 have HD6 := hid hd6
 have HC6 := hid hc6
 have HV6 := hidq hv6
 have HB6:Hid (Below w.heap.size w w6) := HB5.out.trans (hb6.mono HB5.out.size)
 have HD5 := hid (HD5.out.below hb6)
 clear hd6 hc6 hv6 hb6
 go_wp2_with fail
 refine (times_any _ _ r5 _ _ r6 _ HD5.out (by omega) HC5.out.1 HD6.out (by omega) HC6.out.1).mono ?_
 rintro e w7 ⟨ao7,cap7,r7,rfl,hd7,hc7,hv7,hb7⟩
 rw [HV5.out,HV6.out] at hv7
 have k7:r7.length ≤ 22 := len_of hc7 22 (1532495540865888858358347027150309183618739122183602176 * 100) (by rw [hv7];exact Nat.mul_le_mul_right _ BT3.out) (by decide)
 have HD7 := hid hd7
 have HC7 := hid hc7
 have HV7 := hidq hv7
 have HB7:Hid (Below w.heap.size w w7) := HB6.out.trans (hb7.mono HB6.out.size)
 clear hd7 hc7 hv7 hb7
 go_wp2_with fail
 refine (of_any _ _).mono ?_
 rintro e w8 ⟨ao8,cap8,r8,rfl,hd8,hc8,hv8,hb8⟩
 rw [← HE2.out] at hv8
 unfold vlx at hv8
 have k8:r8.length ≤ 7 := dig7 hc8 (by omega)
 have HD8 := hid hd8
 have HC8 := hid hc8
 have HV8 := hidq hv8
 have HB8:Hid (Below w.heap.size w w8) := HB7.out.trans (hb8.mono HB7.out.size)
 have HD7 := hid (HD7.out.below hb8)
 clear hd8 hc8 hv8 hb8
 go_wp2_with fail
 refine (of_any _ _).mono ?_
 rintro e w9 ⟨ao9,cap9,r9,rfl,hd9,hc9,hv9,hb9⟩
 rw [← HE2.out] at hv9
 unfold vlx at hv9
 have k9:r9.length ≤ 7 := dig7 hc9 (by omega)
 have HD9 := hid hd9
 have HC9 := hid hc9
 have HV9 := hidq hv9
 have HB9:Hid (Below w.heap.size w w9) := HB8.out.trans (hb9.mono HB8.out.size)
 have HD7 := hid (HD7.out.below hb9)
 have HD8 := hid (HD8.out.below hb9)
 clear hd9 hc9 hv9 hb9
 go_wp2_with fail
 refine (times_any _ _ r8 _ _ r9 _ HD8.out (by omega) HC8.out.1 HD9.out (by omega) HC9.out.1).mono ?_
 rintro e w10 ⟨ao10,cap10,r10,rfl,hd10,hc10,hv10,hb10⟩
 rw [HV8.out,HV9.out] at hv10
 have k10:r10.length ≤ 14 := len_of hc10 14 1329227995784915872903807060280344576 (by rw [hv10];exact BS2.out) (by decide)
 have HD10 := hid hd10
 have HC10 := hid hc10
 have HV10 := hidq hv10
 have HB10:Hid (Below w.heap.size w w10) := HB9.out.trans (hb10.mono HB9.out.size)
 have HD7 := hid (HD7.out.below hb10)
 clear hd10 hc10 hv10 hb10
 go_wp2_with fail
 refine (of_any _ _).mono ?_
 rintro e w11 ⟨ao11,cap11,r11,rfl,hd11,hc11,hv11,hb11⟩
 rw [← HE2.out] at hv11
 unfold vlx at hv11
 have k11:r11.length ≤ 7 := dig7 hc11 (by omega)
 have HD11 := hid hd11
 have HC11 := hid hc11
 have HV11 := hidq hv11
 have HB11:Hid (Below w.heap.size w w11) := HB10.out.trans (hb11.mono HB10.out.size)
 have HD7 := hid (HD7.out.below hb11)
 have HD10 := hid (HD10.out.below hb11)
 clear hd11 hc11 hv11 hb11
 go_wp2_with fail
 refine (times_any _ _ r10 _ _ r11 _ HD10.out (by omega) HC10.out.1 HD11.out (by omega) HC11.out.1).mono ?_
 rintro e w12 ⟨ao12,cap12,r12,rfl,hd12,hc12,hv12,hb12⟩
 rw [HV10.out,HV11.out] at hv12
 have k12:r12.length ≤ 21 := len_of hc12 21 1532495540865888858358347027150309183618739122183602176 (by rw [hv12];exact BS3.out) (by decide)
 have HD12 := hid hd12
 have HC12 := hid hc12
 have HV12 := hidq hv12
 have HB12:Hid (Below w.heap.size w w12) := HB11.out.trans (hb12.mono HB11.out.size)
 have HD7 := hid (HD7.out.below hb12)
 clear hd12 hc12 hv12 hb12
 go_wp2_with fail
 refine (of_any _ _).mono ?_
 rintro e w13 ⟨ao13,cap13,r13,rfl,hd13,hc13,hv13,hb13⟩
 have hv13:vl r13 = 10000 := by rw [hv13];decide
 have k13:r13.length ≤ 7 := dig7 hc13 (by omega)
 have HD13 := hid hd13
 have HC13 := hid hc13
 have HV13 := hidq hv13
 have HB13:Hid (Below w.heap.size w w13) := HB12.out.trans (hb13.mono HB12.out.size)
 have HD7 := hid (HD7.out.below hb13)
 have HD12 := hid (HD12.out.below hb13)
 clear hd13 hc13 hv13 hb13
 go_wp2_with fail
 refine (times_any _ _ r12 _ _ r13 _ HD12.out (by omega) HC12.out.1 HD13.out (by omega) HC13.out.1).mono ?_
 rintro e w14 ⟨ao14,cap14,r14,rfl,hd14,hc14,hv14,hb14⟩
 rw [HV12.out,HV13.out] at hv14
 have k14:r14.length ≤ 22 := len_of hc14 22 (1532495540865888858358347027150309183618739122183602176 * 10000) (by rw [hv14];exact Nat.mul_le_mul_right _ BS3.out) (by decide)
 have HD14 := hid hd14
 have HC14 := hid hc14
 have HV14 := hidq hv14
 have HB14:Hid (Below w.heap.size w w14) := HB13.out.trans (hb14.mono HB13.out.size)
 have HD7 := hid (HD7.out.below hb14)
 have HD12 := hid (HD12.out.below hb14)
 clear hd14 hc14 hv14 hb14
 go_wp2_with fail
 refine (compare_any _ _ r14 _ _ r7 _ HD14.out (by omega) HC14.out.1 HD7.out (by omega) HC7.out.1).mono ?_
 rintro e w15 ⟨rfl,hb15⟩
 have HB15:Hid (Below w.heap.size w w15) := HB14.out.trans (hb15.mono HB14.out.size)
 have HD7 := hid (HD7.out.below hb15)
 have HD12 := hid (HD12.out.below hb15)
 rw [HV14.out,HV7.out]
 clear hb15 k1 k2 k3 k4 k5 k6 k8 k9 k10 k11 k13 k14
 by_cases c:S * S * S * 10000 ≤ T * T * T * 100
 ·have HW := hidq (bw_worst T S HS0.out c)
  have g:cp (S * S * S * 10000) (T * T * T * 100) ≤ 0 := by
   rcases Nat.lt_or_ge (S * S * S * 10000) (T * T * T * 100) with h | h
   ·rw [cp_lt h];omega
   ·rw [cp_eq (Nat.le_antisymm c h)];omega
  clear c
  generalize cp (S * S * S * 10000) (T * T * T * 100) = cc at *
  go_wp2_with fail
  go_ret
  exact ⟨ret_int (by rw [HW.out];rfl),HB15.out⟩
 ·have HW := hidq (bw_quot T S HS0.out c)
  have g:¬ cp (S * S * S * 10000) (T * T * T * 100) ≤ 0 := by
   rw [cp_gt (Nat.lt_of_not_le c)];omega
  clear c
  generalize cp (S * S * S * 10000) (T * T * T * 100) = cc at *
  go_wp2_with fail
  refine (quotient_any _ _ r7 _ _ r12 _ HD7.out (by omega) HC7.out.1 HD12.out (by omega) HC12.out.1 (by rw [HV12.out];exact cube_pos S HS0.out)).mono ?_
  rintro e w16 ⟨rfl,hb16⟩
  have HB16:Hid (Below w.heap.size w w16) := HB15.out.trans (hb16.mono HB15.out.size)
  clear hb16
  rw [HV7.out,HV12.out,← HW.out]
  generalize ex (T * T * T * 100) (S * S * S) = xx
  go_wp2_with fail
  go_ret
  exact ⟨rfl,HB16.out⟩
theorem refbad_any (t s:Int) (w:World) :
  Calls Tryz.prog 146 #[.int .i64 t,.int .i64 s] w fun e w' => e = .returned (.int .i64 (bd t s)) ∧ Below w.heap.size w w' := by
 by_cases h1:cl t ≤ 0
 ·have e:bd t s = 0 := by simp [bd,h1]
  rw [e]
  clear e
  go_enter Tryz.func146,Tryz.ntmps146
  go_wp2_with (go_at_call 98;refine (refclamp_any _ _).mono ?_;rintro e w' ⟨rfl,hw'⟩;subst w')
  go_ret
  exact ⟨rfl,Below.refl _ _⟩
 ·by_cases h2:cl s ≤ 0
  ·have e:bd t s = 10000 := by simp [bd,h1,h2]
   rw [e]
   clear e
   go_enter Tryz.func146,Tryz.ntmps146
   go_wp2_with (go_at_call 98;refine (refclamp_any _ _).mono ?_;rintro e w' ⟨rfl,hw'⟩;subst w')
   go_ret
   exact ⟨rfl,Below.refl _ _⟩
  ·have e:bd t s = ((bw (cl t).toNat (cl s).toNat:Nat):Int) := by simp [bd,h1,h2]
   rw [e]
   exact refbad_core t s _ _ w (by omega) (by omega) (by omega) (by omega)
end Go.Proofs.YtcjcdpfjnomehaaGreat
