/- Styles as they lie in memory; the first fault of a style's ranges, of a style and of a list of styles, in plain words -/
import Derived.WalkSpells
import Derived.WalkMore
import Derived.Laws.RangeAny
import Derived.Laws.RangeString
import Derived.Deep.QuietTactic
import Derived.BigQuiet
import Derived.Handy
import Derived.ScopeJumps
import Derived.Laws.BitsLemmas
import Derived.Laws.Bits
import Derived.Test.YtcjcdpfjnomehaaGreatPl12
namespace Go.Proofs.YtcjcdpfjnomehaaGreat.It
set_option maxRecDepth 100000
set_option maxHeartbeats 40000000
open Go.RowKit
set_option linter.unusedSimpArgs false
set_option linter.unusedVariables false
theorem ret_int {k:IntKind} {a b:Int} (h:a = b):Ending.returned (.int k a) = .returned (.int k b) := by rw [h]
theorem ret_bool {a b:Bool} (h:a = b):Ending.returned (.bool a) = .returned (.bool b) := by rw [h]
theorem ret_two {k k':IntKind} {a b c d:Int} (h1:a = c) (h2:b = d):Ending.returned (.tuple #[.int k a,.int k' b]) = .returned (.tuple #[.int k c,.int k' d]) := by rw [h1,h2]
theorem bel_drewN (B:Nat) (w:World) (n:Nat):Below B w (w.drewN n) := ⟨rfl,rfl,rfl,Nat.le_refl _,fun _ _ => rfl⟩
theorem hold {w w':World} {a:Addr} {v:Value} (hb:Below w.heap.size w w') (h:w.cell? a = some v):w'.cell? a = some v := by
 rw [hb.cell (World.block_lt_of_cell? w _ h)];exact h
theorem below_step {B:Nat} {w w1 w2:World} (h1:Below B w w1) (hB:B ≤ w.heap.size) (h2:Below w1.heap.size w1 w2):Below B w w2 :=
 h1.trans (h2.mono (Nat.le_trans hB h1.size))
def I64 (n:Int):Prop := -9223372036854775808 ≤ n ∧ n ≤ 9223372036854775807
structure Rg where
 lo:Int
 hi:Int
 wd:Int
def RgOk (r:Rg):Prop := I64 r.lo ∧ I64 r.hi ∧ I64 r.wd
def RgsAt (S:Nat → Prop) (w:World) (ra:Option Addr) (rn:Nat) (R:Nat → Rg):Prop := ∀ j,j < rn → RgOk (R j) ∧ ∃ b off,ra = some ⟨b,off,none⟩ ∧ S b ∧
  w.cell? ⟨b,off + j * 3,none⟩ = some (.int .i64 (R j).lo) ∧ w.cell? ⟨b,off + j * 3 + 1,none⟩ = some (.int .i64 (R j).hi) ∧ w.cell? ⟨b,off + j * 3 + 2,none⟩ = some (.int .i64 (R j).wd)
def Kp (S S':Nat → Prop) (w w':World):Prop := ∀ b i u,S b → w.cell? ⟨b,i,none⟩ = some u → S' b ∧ w'.cell? ⟨b,i,none⟩ = some u
theorem kp_below {S:Nat → Prop} {w w':World} (h:Below w.heap.size w w'):Kp S S w w' := fun b i u hs hc => ⟨hs,hold h hc⟩
theorem RgsAt.keep {S S':Nat → Prop} {w w':World} {ra:Option Addr} {rn:Nat} {R:Nat → Rg} (h:RgsAt S w ra rn R) (k:Kp S S' w w'):RgsAt S' w' ra rn R := by
 intro j hj
 obtain ⟨h1,b,off,e,hs,c0,c1,c2⟩ := h j hj
 exact ⟨h1,b,off,e,(k _ _ _ hs c0).1,(k _ _ _ hs c0).2,(k _ _ _ hs c1).2,(k _ _ _ hs c2).2⟩
structure Sty where
 h:Int
 sp:Int
 st:Int
 sh:Int
 hy:Int
 ot:Int
 ra:Option Addr
 rn:Nat
 rc:Nat
 keep:Bool
 R:Nat → Rg
def Sty.val (s:Sty):Value := .agg #[.int .i64 s.h,.int .i64 s.sp,.int .i64 s.st,.int .i64 s.sh,.int .i64 s.hy,.int .i64 s.ot,.slice s.ra s.rn s.rc,.bool s.keep]
structure StyOk (s:Sty):Prop where
 h:I64 s.h
 sp:I64 s.sp
 st:I64 s.st
 sh:I64 s.sh
 hy:I64 s.hy
 ot:I64 s.ot
 rn:s.rn ≤ s.rc ∧ s.rn * 24 ≤ 140737488351232
 nil:s.ra = none → s.rn = 0 ∧ s.rc = 0
def StysAt (S:Nat → Prop) (w:World) (ao:Option Addr) (n:Nat) (F:Nat → Sty):Prop := ∀ i,i < n → StyOk (F i) ∧ RgsAt S w (F i).ra (F i).rn (F i).R ∧ ∃ b off,ao = some ⟨b,off,none⟩ ∧ S b ∧
  w.cell? ⟨b,off + i * 8,none⟩ = some (.int .i64 (F i).h) ∧ w.cell? ⟨b,off + i * 8 + 1,none⟩ = some (.int .i64 (F i).sp) ∧ w.cell? ⟨b,off + i * 8 + 2,none⟩ = some (.int .i64 (F i).st) ∧
  w.cell? ⟨b,off + i * 8 + 3,none⟩ = some (.int .i64 (F i).sh) ∧ w.cell? ⟨b,off + i * 8 + 4,none⟩ = some (.int .i64 (F i).hy) ∧ w.cell? ⟨b,off + i * 8 + 5,none⟩ = some (.int .i64 (F i).ot) ∧
  w.cell? ⟨b,off + i * 8 + 6,none⟩ = some (.slice (F i).ra (F i).rn (F i).rc) ∧ w.cell? ⟨b,off + i * 8 + 7,none⟩ = some (.bool (F i).keep)
theorem StysAt.keep {S S':Nat → Prop} {w w':World} {ao:Option Addr} {n:Nat} {F:Nat → Sty} (h:StysAt S w ao n F) (k:Kp S S' w w'):StysAt S' w' ao n F := by
 intro i hi
 obtain ⟨h1,h2,b,off,e,hs,c0,c1,c2,c3,c4,c5,c6,c7⟩ := h i hi
 exact ⟨h1,h2.keep k,b,off,e,(k _ _ _ hs c0).1,(k _ _ _ hs c0).2,(k _ _ _ hs c1).2,(k _ _ _ hs c2).2,(k _ _ _ hs c3).2,(k _ _ _ hs c4).2,(k _ _ _ hs c5).2,(k _ _ _ hs c6).2,(k _ _ _ hs c7).2⟩
theorem RgsAt.below {S:Nat → Prop} {w w':World} {ra:Option Addr} {rn:Nat} {R:Nat → Rg} (h:RgsAt S w ra rn R) (hb:Below w.heap.size w w'):RgsAt S w' ra rn R := h.keep (kp_below hb)
theorem StysAt.below {S:Nat → Prop} {w w':World} {ao:Option Addr} {n:Nat} {F:Nat → Sty} (h:StysAt S w ao n F) (hb:Below w.heap.size w w'):StysAt S w' ao n F := h.keep (kp_below hb)
def un (n:Int):Bool := decide (0 ≤ n) && decide (n ≤ 1048576)
def ahd (R:Nat → Rg) (k:Nat):Int := if k = 0 then -1 else (R (k - 1)).hi
def rfa (R:Nat → Rg) (k:Nat):Int := if (R k).lo ≤ ahd R k ∨ (R k).hi < (R k).lo ∨ 1114111 < (R k).hi then 42 else if un (R k).wd = true then 0 else 41
def rfs (R:Nat → Rg):Nat → Int
 | 0 => 0
 | k + 1 => if rfs R k = 0 then rfa R k else rfs R k
theorem rfs_stop (R : Nat → Rg) (k n : Nat) (h : rfs R k ≠ 0) (hk : k ≤ n) : rfs R n = rfs R k := by
  induction n with
  | zero => have : k = 0 := by omega
            subst this; rfl
  | succ n ih =>
    by_cases c : k = n + 1
    · subst c; rfl
    · have := ih (by omega)
      show (if rfs R n = 0 then rfa R n else rfs R n) = _
      rw [this, if_neg h]
theorem rfs_hit (R:Nat → Rg) (k n:Nat) (h0:rfs R k = 0) (h:rfa R k ≠ 0) (hk:k < n):rfs R n = rfa R k := by
 have e:rfs R (k + 1) = rfa R k := by show (if rfs R k = 0 then rfa R k else rfs R k) = _;rw [if_pos h0]
 rw [rfs_stop R (k + 1) n (by rw [e];exact h) (by omega),e]
theorem rfs_next (R:Nat → Rg) (k:Nat) (h0:rfs R k = 0) (h:rfa R k = 0):rfs R (k + 1) = 0 := by
 show (if rfs R k = 0 then rfa R k else rfs R k) = _
 rw [if_pos h0,h]
def msr (s:Sty):Bool := decide (1 ≤ s.h) && decide (s.h ≤ 1048576) && un s.sp && un s.st && un s.sh && un s.hy && un s.ot && decide (s.sh ≤ s.sp)
def flt (s:Sty):Int := if msr s = true then (if 64 < s.rn then 42 else rfs s.R s.rn) else 41
theorem unit_any (n:Int) (w:World) :
  Calls Tryz.prog 126 #[.int .i64 n] w fun e w' => e = .returned (.bool (un n)) ∧ w' = w := by
 unfold un
 by_cases h:0 ≤ n
 ·go_enter Tryz.func126,Tryz.ntmps126
  go_wp2
  go_ret
  exact ⟨by first | (simp [h];done) | (simp [h];omega),rfl⟩
 ·go_enter Tryz.func126,Tryz.ntmps126
  go_wp2
  go_ret
  exact ⟨by first | (simp [h];done) | (simp [h];omega),rfl⟩
theorem fits_any (n l:Int) (w:World) :
  Calls Tryz.prog 125 #[.int .i64 n,.int .i64 l] w fun e w' => e = .returned (.bool (decide (l ≤ n) && decide (n ≤ 1048576))) ∧ w' = w := by
 by_cases h:l ≤ n
 ·go_enter Tryz.func125,Tryz.ntmps125
  go_wp2
  go_ret
  exact ⟨by first | (simp [h];done) | (simp [h];omega),rfl⟩
 ·go_enter Tryz.func125,Tryz.ntmps125
  go_wp2
  go_ret
  exact ⟨by first | (simp [h];done) | (simp [h];omega),rfl⟩
theorem rangesFault_any (S:Nat → Prop) (ra:Option Addr) (rn rc:Nat) (R:Nat → Rg) (w:World) (hr:RgsAt S w ra rn R) (hn:rn * 24 ≤ 140737488351232) :
  Calls Tryz.prog 127 #[.slice ra rn rc] w fun e w' => e = .returned (.int .i64 (rfs R rn)) ∧ Below w.heap.size w w' := by
 have HR := boxed hr
 clear hr
 go_enter Tryz.func127,Tryz.ntmps127
 go_wp2
 go_loopw [3,5,8] (fun a _ i wr => ∃ k:Nat,k ≤ rn ∧ a = .int .i64 (ahd R k) ∧ i = .int .i64 (k:Int) ∧ Box (rfs R k = 0) ∧ Box (Below w.heap.size w wr)) (fun _ _ i _ => rn - (intOf i).toNat)
 case atStart => exact ⟨0,Nat.zero_le _,rfl,rfl,boxed rfl,boxed (Below.refl _ _)⟩
 case round =>
  obtain ⟨k,hk,rfl,rfl,H0,HB⟩ := hrel
  by_cases hlt:k < rn
  ·obtain ⟨-,b,off,e,-,c0,c1,c2⟩ := (HR.out.below HB.out) k hlt
   subst e
   have HA:Box (ahd R (k + 1) = (R k).hi) := boxed (by unfold ahd;simp)
   have HF:Box (rfa R k = if (R k).lo ≤ ahd R k ∨ (R k).hi < (R k).lo ∨ 1114111 < (R k).hi then 42 else if un (R k).wd = true then 0 else 41) := boxed rfl
   have HH := boxed (fun h => rfs_hit R k rn H0.out h hlt)
   have HN := boxed (rfs_next R k H0.out)
   generalize ahd R k = A at *
   generalize R k = r at *
   obtain ⟨lo,hi,wd⟩ := r
   simp only at *
   have hu := fun w => unit_any wd w
   by_cases h1:lo ≤ A
   ·have HFV:Box (rfa R k = 42) := boxed (by rw [HF.out];simp [h1];try omega)
    go_wp2_with (go_at_call 126;refine (hu _).mono ?_;rintro e w' ⟨rfl,hw'⟩;subst w')
    go_ret
    exact ⟨ret_int (by rw [HH.out (by rw [HFV.out];decide),HFV.out]),by have hb := HB.out;have hz := HB.out.size;go_grown⟩
   ·by_cases h2:hi < lo
    ·have HFV:Box (rfa R k = 42) := boxed (by rw [HF.out];simp [h2];try omega)
     go_wp2_with (go_at_call 126;refine (hu _).mono ?_;rintro e w' ⟨rfl,hw'⟩;subst w')
     go_ret
     exact ⟨ret_int (by rw [HH.out (by rw [HFV.out];decide),HFV.out]),by have hb := HB.out;have hz := HB.out.size;go_grown⟩
    ·by_cases h3:1114111 < hi
     ·have HFV:Box (rfa R k = 42) := boxed (by rw [HF.out];simp [h3];try omega)
      go_wp2_with (go_at_call 126;refine (hu _).mono ?_;rintro e w' ⟨rfl,hw'⟩;subst w')
      go_ret
      exact ⟨ret_int (by rw [HH.out (by rw [HFV.out];decide),HFV.out]),by have hb := HB.out;have hz := HB.out.size;go_grown⟩
     ·cases h4:un wd with
      | false =>
       rw [h4] at hu
       have HFV:Box (rfa R k = 41) := boxed (by rw [HF.out];simp [h1,h2,h3,h4];try omega)
       go_wp2_with (go_at_call 126;refine (hu _).mono ?_;rintro e w' ⟨rfl,hw'⟩;subst w')
       go_ret
       exact ⟨ret_int (by rw [HH.out (by rw [HFV.out];decide),HFV.out]),by have hb := HB.out;have hz := HB.out.size;go_grown⟩
      | true =>
       rw [h4] at hu
       have HFV:Box (rfa R k = 0) := boxed (by rw [HF.out,if_neg (by omega),if_pos h4])
       go_wp2_with (go_at_call 126;refine (hu _).mono ?_;rintro e w' ⟨rfl,hw'⟩;subst w')
       go_roundw
       case rel => exact ⟨k + 1,by omega,by rw [HA.out],by go_num,boxed (HN.out HFV.out),boxed (by have hb := HB.out;have hz := HB.out.size;go_grown)⟩
       case measure => simp [intOf];omega
  ·have e:k = rn := by omega
   subst e
   go_wp2
   go_ret
   exact ⟨ret_int H0.out.symm,HB.out⟩
theorem un_t {n:Int} (h:un n = true):0 ≤ n ∧ n ≤ 1048576 := by simpa [un] using h
theorem un_f {n:Int} (h:un n = false):¬ (0 ≤ n ∧ n ≤ 1048576) := by simp [un] at h;omega
theorem fault_any (S:Nat → Prop) (s:Sty) (w:World) (hs:StyOk s) (hr:RgsAt S w s.ra s.rn s.R) :
  Calls Tryz.prog 86 #[s.val] w fun e w' => e = .returned (.int .i64 (flt s)) ∧ Below w.heap.size w w' := by
 have hn:s.rn * 24 ≤ 140737488351232 := by have := hs.rn;omega
 have hrf := fun w' (hb:Below w.heap.size w w') => rangesFault_any S s.ra s.rn s.rc s.R w' (hr.below hb) hn
 have HF:Box (flt s = if msr s = true then (if 64 < s.rn then 42 else rfs s.R s.rn) else 41) := boxed rfl
 have HM:Box (msr s = (decide (1 ≤ s.h) && decide (s.h ≤ 1048576) && un s.sp && un s.st && un s.sh && un s.hy && un s.ot && decide (s.sh ≤ s.sp))) := boxed rfl
 clear hr hs
 unfold Sty.val
 generalize flt s = V at *
 generalize msr s = M at *
 generalize rfs s.R s.rn = RF at *
 obtain ⟨h,sp,st,sh,hy,ot,ra,rn,rc,kp,R⟩ := s
 simp only at *
 by_cases h0:h = 0
 ·subst h0
  have HV:Box (V = 41) := boxed (by rw [HF.out,HM.out];simp)
  go_enter Tryz.func86,Tryz.ntmps86
  go_wp2
  go_ret
  exact ⟨ret_int HV.out.symm,by go_grown⟩
 have t0:(h == 0) = false := by simpa using h0
 cases g0:un h with
 | false =>
  have HV:Box (V = 41) := boxed (by have := un_f g0;rw [HF.out,HM.out,if_neg];simp;intros;omega)
  go_enter Tryz.func86,Tryz.ntmps86
  go_wp2_with (go_at_call 126;refine (unit_any _ _).mono ?_;rintro e w' ⟨rfl,hw'⟩;subst w')
  go_ret
  exact ⟨ret_int HV.out.symm,by go_grown⟩
 | true =>
  have hh:(decide (1 ≤ h) && decide (h ≤ 1048576)) = true := by have := un_t g0;simp;omega
  cases gsp:un sp with
  | false =>
   have HV:Box (V = 41) := boxed (by rw [HF.out,HM.out,if_neg];simp [gsp])
   go_enter Tryz.func86,Tryz.ntmps86
   go_wp2_with (go_at_call 126;refine (unit_any _ _).mono ?_;rintro e w' ⟨rfl,hw'⟩;subst w')
   go_ret
   exact ⟨ret_int HV.out.symm,by go_grown⟩
  | true =>
   cases gst:un st with
   | false =>
    have HV:Box (V = 41) := boxed (by rw [HF.out,HM.out,if_neg];simp [gst])
    go_enter Tryz.func86,Tryz.ntmps86
    go_wp2_with (go_at_call 126;refine (unit_any _ _).mono ?_;rintro e w' ⟨rfl,hw'⟩;subst w')
    go_ret
    exact ⟨ret_int HV.out.symm,by go_grown⟩
   | true =>
    cases gsh:un sh with
    | false =>
     have HV:Box (V = 41) := boxed (by rw [HF.out,HM.out,if_neg];simp [gsh])
     go_enter Tryz.func86,Tryz.ntmps86
     go_wp2_with (go_at_call 126;refine (unit_any _ _).mono ?_;rintro e w' ⟨rfl,hw'⟩;subst w')
     go_ret
     exact ⟨ret_int HV.out.symm,by go_grown⟩
    | true =>
     cases ghy:un hy with
     | false =>
      have HV:Box (V = 41) := boxed (by rw [HF.out,HM.out,if_neg];simp [ghy])
      go_enter Tryz.func86,Tryz.ntmps86
      go_wp2_with (go_at_call 126;refine (unit_any _ _).mono ?_;rintro e w' ⟨rfl,hw'⟩;subst w')
      go_ret
      exact ⟨ret_int HV.out.symm,by go_grown⟩
     | true =>
      cases got:un ot with
      | false =>
       have HV:Box (V = 41) := boxed (by rw [HF.out,HM.out,if_neg];simp [got])
       go_enter Tryz.func86,Tryz.ntmps86
       go_wp2_with (go_at_call 126;refine (unit_any _ _).mono ?_;rintro e w' ⟨rfl,hw'⟩;subst w')
       go_ret
       exact ⟨ret_int HV.out.symm,by go_grown⟩
      | true =>
       by_cases g7:sp < sh
       ·have HV:Box (V = 41) := boxed (by rw [HF.out,HM.out,if_neg];simp;intros;omega)
        go_enter Tryz.func86,Tryz.ntmps86
        go_wp2_with (go_at_call 126;refine (unit_any _ _).mono ?_;rintro e w' ⟨rfl,hw'⟩;subst w')
        go_ret
        exact ⟨ret_int HV.out.symm,by go_grown⟩
       have HMt:Box (M = true) := boxed (by rw [HM.out,hh,gsp,gst,gsh,ghy,got];simp;omega)
       by_cases g8:64 < rn
       ·have HV:Box (V = 42) := boxed (by rw [HF.out,HMt.out,if_pos rfl,if_pos g8])
        go_enter Tryz.func86,Tryz.ntmps86
        go_wp2_with (go_at_call 126;refine (unit_any _ _).mono ?_;rintro e w' ⟨rfl,hw'⟩;subst w')
        go_ret
        exact ⟨ret_int HV.out.symm,by go_grown⟩
       have HV:Box (V = RF) := boxed (by rw [HF.out,HMt.out,if_pos rfl,if_neg g8])
       go_enter Tryz.func86,Tryz.ntmps86
       go_wp2_with (first | (go_at_call 126;refine (unit_any _ _).mono ?_;rintro e w' ⟨rfl,hw'⟩;subst w'))
       refine (hrf _ (by go_grown)).mono ?_
       rintro e w1 ⟨rfl,hb1⟩
       have HB := boxed (below_step ((Below.refl w.heap.size w).alloc (Nat.le_refl _) _) (Nat.le_refl _) hb1)
       clear hb1 hrf
       go_wp2
       go_ret
       exact ⟨ret_int HV.out.symm,HB.out⟩
theorem fits0_any (n:Int) (w:World) :
  Calls Tryz.prog 125 #[.int .i64 n,.int .i64 0] w fun e w' => e = .returned (.bool (un n)) ∧ w' = w := fits_any n 0 w
theorem fits1_any (n:Int) (w:World) :
  Calls Tryz.prog 125 #[.int .i64 n,.int .i64 1] w fun e w' => e = .returned (.bool (decide (1 ≤ n) && decide (n ≤ 1048576))) ∧ w' = w := fits_any n 1 w
theorem cell_first (w:World) (cs:Array Value) (t:TypeId) (i:Nat):(w.alloc (.cells cs t)).cell? ⟨w.heap.size,i,none⟩ = cs[i]? := by
 rw [cell_of_row _ _ _ _ _ _ (heap_alloc_new w (.cells cs t))]
theorem cell_second (w:World) (A:Obj) (cs:Array Value) (t:TypeId) (i:Nat):((w.alloc A).alloc (.cells cs t)).cell? ⟨w.heap.size + 1,i,none⟩ = cs[i]? := by
 have := cell_first (w.alloc A) cs t i
 rw [World.size_alloc] at this
 exact this
def five (a b c d e:Int):Nat → Int
 | 0 => a
 | 1 => b
 | 2 => c
 | 3 => d
 | _ => e
theorem refstyle_any (S:Nat → Prop) (s:Sty) (w:World) (hs:StyOk s) (hr:RgsAt S w s.ra s.rn s.R) :
  Calls Tryz.prog 85 #[s.val] w fun e w' => e = .returned (.int .i64 (flt s)) ∧ Below w.heap.size w w' := by
 have hn:s.rn * 24 ≤ 140737488351232 := by have := hs.rn;omega
 have HR := boxed hr
 have HF:Box (flt s = if msr s = true then (if 64 < s.rn then 42 else rfs s.R s.rn) else 41) := boxed rfl
 have HM:Box (msr s = (decide (1 ≤ s.h) && decide (s.h ≤ 1048576) && un s.sp && un s.st && un s.sh && un s.hy && un s.ot && decide (s.sh ≤ s.sp))) := boxed rfl
 clear hr hs
 unfold Sty.val
 generalize flt s = V at *
 generalize msr s = M at *
 obtain ⟨h,sp,st,sh,hy,ot,ra,rn,rc,kp,R⟩ := s
 simp only at *
 go_enter Tryz.func85,Tryz.ntmps85
 go_wp2
 go_loop [4] (fun t => ∃ k:Nat,k ≤ 5 ∧ t = .int .i64 (k:Int) ∧ Box (∀ j,j < k → un (five sp st sh hy ot j) = true)) (fun t => 5 - (intOf t).toNat)
 case atStart => exact ⟨0,by omega,rfl,boxed (fun j hj => by omega)⟩
 case round =>
  obtain ⟨k,hk,rfl,HU⟩ := hrel
  by_cases hlt:k < 5
  ·have hcell:(((w.alloc (.cells #[.int .i64 h,.int .i64 sp,.int .i64 st,.int .i64 sh,.int .i64 hy,.int .i64 ot,.slice ra rn rc,.bool kp] 83)).alloc (.cells #[.int .i64 sp,.int .i64 st,.int .i64 sh,.int .i64 hy,.int .i64 ot] 3)).cell? ⟨w.heap.size + 1,k,none⟩ = some (.int .i64 (five sp st sh hy ot k))) := by
    refine (cell_second _ _ _ _ _).trans ?_
    rcases (show k = 0 ∨ k = 1 ∨ k = 2 ∨ k = 3 ∨ k = 4 by omega) with rfl | rfl | rfl | rfl | rfl <;> rfl
   have HV41:Box (un (five sp st sh hy ot k) = false → V = 41) := boxed (by
    intro g
    rw [HF.out,HM.out,if_neg]
    rcases (show k = 0 ∨ k = 1 ∨ k = 2 ∨ k = 3 ∨ k = 4 by omega) with rfl | rfl | rfl | rfl | rfl <;> simp [five] at g <;> simp [g])
   cases g:un (five sp st sh hy ot k) with
   | false =>
    generalize five sp st sh hy ot k = X at *
    go_wp2_with (go_at_call 125;refine (fits0_any _ _).mono ?_;rintro e w' ⟨rfl,hw'⟩;subst w')
    go_ret
    exact ⟨ret_int (HV41.out g).symm,by go_grown⟩
   | true =>
    have HU':Box (∀ j,j < k + 1 → un (five sp st sh hy ot j) = true) := boxed (by
     intro j hj
     by_cases c:j = k
     ·subst c;exact g
     ·exact HU.out j (by omega))
    generalize five sp st sh hy ot k = X at *
    go_wp2_with (go_at_call 125;refine (fits0_any _ _).mono ?_;rintro e w' ⟨rfl,hw'⟩;subst w')
    go_round
    case rel => exact ⟨k + 1,by omega,by go_num,HU'⟩
    case measure => simp [intOf];omega
  ·have e:k = 5 := by omega
   subst e
   have g1:Box (un sp = true) := boxed (HU.out 0 (by omega))
   have g2:Box (un st = true) := boxed (HU.out 1 (by omega))
   have g3:Box (un sh = true) := boxed (HU.out 2 (by omega))
   have g4:Box (un hy = true) := boxed (HU.out 3 (by omega))
   have g5:Box (un ot = true) := boxed (HU.out 4 (by omega))
   cases g6:(decide (1 ≤ h) && decide (h ≤ 1048576)) with
   | false =>
    have HV:Box (V = 41) := boxed (by rw [HF.out,HM.out,g6];simp)
    go_wp2_with (go_at_call 125;refine (fits1_any _ _).mono ?_;rw [g6];rintro e w' ⟨rfl,hw'⟩;subst w')
    go_ret
    exact ⟨ret_int HV.out.symm,by go_grown⟩
   | true =>
    by_cases g7:sp < sh
    ·have HV:Box (V = 41) := boxed (by rw [HF.out,HM.out,if_neg];simp;intros;omega)
     go_wp2_with (go_at_call 125;refine (fits1_any _ _).mono ?_;rw [g6];rintro e w' ⟨rfl,hw'⟩;subst w')
     go_ret
     exact ⟨ret_int HV.out.symm,by go_grown⟩
    have HMt:Box (M = true) := boxed (by rw [HM.out,g6,g1.out,g2.out,g3.out,g4.out,g5.out];simp;omega)
    by_cases g8:64 < rn
    ·have HV:Box (V = 42) := boxed (by rw [HF.out,HMt.out,if_pos rfl,if_pos g8])
     go_wp2_with (go_at_call 125;refine (fits1_any _ _).mono ?_;rw [g6];rintro e w' ⟨rfl,hw'⟩;subst w')
     go_ret
     exact ⟨ret_int HV.out.symm,by go_grown⟩
    have HV:Box (V = rfs R rn) := boxed (by rw [HF.out,HMt.out,if_pos rfl,if_neg g8])
    clear HF HM HU
    go_wp2_with (go_at_call 125;refine (fits1_any _ _).mono ?_;rw [g6];rintro e w' ⟨rfl,hw'⟩;subst w')
    go_loopw [5,6] (fun i _ wr => ∃ k:Nat,k ≤ rn ∧ i = .int .i64 (k:Int) ∧ Box (rfs R k = 0) ∧ Box (Below w.heap.size w wr) ∧ wr.cell? ⟨w.heap.size,6,none⟩ = some (.slice ra rn rc) ∧ w.heap.size < wr.heap.size) (fun i _ _ => rn - (intOf i).toNat)
    case atStart =>
     refine ⟨0,Nat.zero_le _,rfl,boxed rfl,boxed (by go_grown),?_,by simp;omega⟩
     exact hold ((Below.refl _ _).alloc (Nat.le_refl _) _) (cell_first _ _ _ _)
    case round =>
     obtain ⟨k,hk,rfl,H0,HB,c6,hsz⟩ := hrel
     have hszn:w.heap.size ≠ wr.heap.size := by omega
     by_cases hlt:k < rn
     ·obtain ⟨-,b,off,e,-,c0,c1,c2⟩ := (HR.out.below HB.out) k hlt
      have HP:Box (0 < k → wr.cell? ⟨b,off + (k - 1) * 3 + 1,none⟩ = some (.int .i64 (ahd R k))) := boxed (by
       intro hp
       obtain ⟨-,b',off',e',-,-,c1',-⟩ := (HR.out.below HB.out) (k - 1) (by omega)
       rw [e] at e'
       injection e' with e'
       injection e' with e1 e2
       subst e1;subst e2
       rw [c1']
       unfold ahd
       rw [if_neg (by omega)])
      subst e
      have hbl:b < wr.heap.size := World.block_lt_of_cell? wr _ c0
      have hbn:b ≠ wr.heap.size := by omega
      have HF:Box (rfa R k = if (R k).lo ≤ ahd R k ∨ (R k).hi < (R k).lo ∨ 1114111 < (R k).hi then 42 else if un (R k).wd = true then 0 else 41) := boxed rfl
      have HH := boxed (fun h => rfs_hit R k rn H0.out h hlt)
      have HN := boxed (rfs_next R k H0.out)
      have HA0:Box (k = 0 → ahd R k = -1) := boxed (by intro h;subst h;rfl)
      generalize ahd R k = A at *
      generalize R k = r at *
      obtain ⟨lo,hi,wd⟩ := r
      simp only at *
      have hun:undef = Value.tuple #[] := rfl
      by_cases hk0:k = 0
      ·have hA := HA0.out hk0
       subst hA
       have k1:((k:Int) == 0) = true := by simpa using hk0
       have k2:decide (0 < (k:Int)) = false := decide_eq_false (by omega)
       have k3:decide (0 < k) = false := decide_eq_false (by omega)
       clear hk0 HP HA0
       by_cases h1:lo < 0
       ·have d1:decide (lo < 0) = true := decide_eq_true h1
        have HFV:Box (rfa R k = 42) := boxed (by rw [HF.out];rw [if_pos (by omega)])
        clear HF h1
        go_wp2
        go_quiet (fail)
        go_wp2
        go_ret
        exact ⟨ret_int (by rw [HV.out,HH.out (by rw [HFV.out];decide),HFV.out]),by have hb := HB.out;have hz := HB.out.size;first | (refine Below.trans ?_ (bel_drewN _ _ _);go_grown;done) | go_grown⟩
       have d1:decide (lo < 0) = false := decide_eq_false h1
       by_cases h2:hi < lo
       ·have d2:decide (hi < lo) = true := decide_eq_true h2
        have HFV:Box (rfa R k = 42) := boxed (by rw [HF.out];rw [if_pos (by omega)])
        clear HF h1 h2
        go_wp2
        go_quiet (fail)
        go_wp2
        go_ret
        exact ⟨ret_int (by rw [HV.out,HH.out (by rw [HFV.out];decide),HFV.out]),by have hb := HB.out;have hz := HB.out.size;first | (refine Below.trans ?_ (bel_drewN _ _ _);go_grown;done) | go_grown⟩
       have d2:decide (hi < lo) = false := decide_eq_false h2
       by_cases h3:(1114111:Int) < hi
       ·have d3:decide ((1114111:Int) < hi) = true := decide_eq_true h3
        have HFV:Box (rfa R k = 42) := boxed (by rw [HF.out];rw [if_pos (by omega)])
        clear HF h1 h2 h3
        go_wp2
        go_quiet (fail)
        go_wp2
        go_ret
        exact ⟨ret_int (by rw [HV.out,HH.out (by rw [HFV.out];decide),HFV.out]),by have hb := HB.out;have hz := HB.out.size;first | (refine Below.trans ?_ (bel_drewN _ _ _);go_grown;done) | go_grown⟩
       have d3:decide ((1114111:Int) < hi) = false := decide_eq_false h3
       cases h4:un wd with
       | false =>
        have HFV:Box (rfa R k = 41) := boxed (by rw [HF.out];rw [if_neg (by omega),h4];rfl)
        clear HF h1 h2 h3
        go_wp2
        go_quiet (fail)
        go_wp2_with (go_at_call 125;refine (fits0_any _ _).mono ?_;rintro e w' ⟨rfl,hw'⟩;subst w')
        go_ret
        exact ⟨ret_int (by rw [HV.out,HH.out (by rw [HFV.out];decide),HFV.out]),by have hb := HB.out;have hz := HB.out.size;first | (refine Below.trans ?_ (bel_drewN _ _ _);go_grown;done) | go_grown⟩
       | true =>
        have HFV:Box (rfa R k = 0) := boxed (by rw [HF.out];rw [if_neg (by omega),h4];rfl)
        clear HF h1 h2 h3
        go_wp2
        go_quiet (fail)
        go_wp2_with (go_at_call 125;refine (fits0_any _ _).mono ?_;rintro e w' ⟨rfl,hw'⟩;subst w')
        go_roundw
        case rel => exact ⟨k + 1,by omega,by go_num,boxed (HN.out HFV.out),boxed (by have hb := HB.out;have hz := HB.out.size;first | (refine Below.trans ?_ (bel_drewN _ _ _);go_grown;done) | go_grown),hold (((Below.refl _ _).alloc (Nat.le_refl _) _).trans (bel_drewN _ _ _)) c6,by simp;omega⟩
        case measure => simp [intOf];omega
      ·obtain ⟨m,rfl⟩:∃ m,k = m + 1 := ⟨k - 1,by omega⟩
       have cp := HP.out (by omega)
       rw [show m + 1 - 1 = m by omega] at cp
       have k1:(((m:Int) + 1) == 0) = false := by rw [beq_eq_false_iff_ne];omega
       have k2:decide (0 < (m:Int) + 1) = true := decide_eq_true (by omega)
       clear HP HA0 hk0
       by_cases h1:lo ≤ A
       ·have d1:decide (lo ≤ A) = true := decide_eq_true h1
        have HFV:Box (rfa R (m + 1) = 42) := boxed (by rw [HF.out];rw [if_pos (by omega)])
        clear HF h1
        go_wp2
        go_quiet (fail)
        go_wp2
        go_ret
        exact ⟨ret_int (by rw [HV.out,HH.out (by rw [HFV.out];decide),HFV.out]),by have hb := HB.out;have hz := HB.out.size;first | (refine Below.trans ?_ (bel_drewN _ _ _);go_grown;done) | go_grown⟩
       have d1:decide (lo ≤ A) = false := decide_eq_false h1
       by_cases h2:hi < lo
       ·have d2:decide (hi < lo) = true := decide_eq_true h2
        have HFV:Box (rfa R (m + 1) = 42) := boxed (by rw [HF.out];rw [if_pos (by omega)])
        clear HF h1 h2
        go_wp2
        go_quiet (fail)
        go_wp2
        go_ret
        exact ⟨ret_int (by rw [HV.out,HH.out (by rw [HFV.out];decide),HFV.out]),by have hb := HB.out;have hz := HB.out.size;first | (refine Below.trans ?_ (bel_drewN _ _ _);go_grown;done) | go_grown⟩
       have d2:decide (hi < lo) = false := decide_eq_false h2
       by_cases h3:(1114111:Int) < hi
       ·have d3:decide ((1114111:Int) < hi) = true := decide_eq_true h3
        have HFV:Box (rfa R (m + 1) = 42) := boxed (by rw [HF.out];rw [if_pos (by omega)])
        clear HF h1 h2 h3
        go_wp2
        go_quiet (fail)
        go_wp2
        go_ret
        exact ⟨ret_int (by rw [HV.out,HH.out (by rw [HFV.out];decide),HFV.out]),by have hb := HB.out;have hz := HB.out.size;first | (refine Below.trans ?_ (bel_drewN _ _ _);go_grown;done) | go_grown⟩
       have d3:decide ((1114111:Int) < hi) = false := decide_eq_false h3
       cases h4:un wd with
       | false =>
        have HFV:Box (rfa R (m + 1) = 41) := boxed (by rw [HF.out];rw [if_neg (by omega),h4];rfl)
        clear HF h1 h2 h3
        go_wp2
        go_quiet (fail)
        go_wp2_with (go_at_call 125;refine (fits0_any _ _).mono ?_;rintro e w' ⟨rfl,hw'⟩;subst w')
        go_ret
        exact ⟨ret_int (by rw [HV.out,HH.out (by rw [HFV.out];decide),HFV.out]),by have hb := HB.out;have hz := HB.out.size;first | (refine Below.trans ?_ (bel_drewN _ _ _);go_grown;done) | go_grown⟩
       | true =>
        have HFV:Box (rfa R (m + 1) = 0) := boxed (by rw [HF.out];rw [if_neg (by omega),h4];rfl)
        clear HF h1 h2 h3
        go_wp2
        go_quiet (fail)
        go_wp2_with (go_at_call 125;refine (fits0_any _ _).mono ?_;rintro e w' ⟨rfl,hw'⟩;subst w')
        go_roundw
        case rel => exact ⟨(m + 1) + 1,by omega,by go_num,boxed (HN.out HFV.out),boxed (by have hb := HB.out;have hz := HB.out.size;first | (refine Below.trans ?_ (bel_drewN _ _ _);go_grown;done) | go_grown),hold (((Below.refl _ _).alloc (Nat.le_refl _) _).trans (bel_drewN _ _ _)) c6,by simp;omega⟩
        case measure => simp [intOf];omega
     ·have e:k = rn := by omega
      subst e
      go_wp2
      go_ret
      exact ⟨ret_int (by rw [HV.out,H0.out]),HB.out⟩
def kd (r:Int):Int := if r = 32 then 1 else if r = 9 then 1 else if r = 160 then 2 else if r = 8239 then 2 else if r = 173 then 3 else if r = 8203 then 4 else if r = 8288 then 5 else if r = 65279 then 5 else if r = 45 then 6 else if r = 8208 then 6 else if r = 8232 then 7 else if r = 10 then 8 else 0
theorem kd_cases (r:Int):(r = 32 ∨ r = 9 ∨ r = 160 ∨ r = 8239 ∨ r = 173 ∨ r = 8203 ∨ r = 8288 ∨ r = 65279 ∨ r = 45 ∨ r = 8208 ∨ r = 8232 ∨ r = 10) ∨ ((r == 32) = false ∧ (r == 9) = false ∧ (r == 160) = false ∧ (r == 8239) = false ∧ (r == 173) = false ∧ (r == 8203) = false ∧ (r == 8288) = false ∧ (r == 65279) = false ∧ (r == 45) = false ∧ (r == 8208) = false ∧ (r == 8232) = false ∧ (r == 10) = false) := by
 simp only [beq_eq_false_iff_ne,ne_eq]
 omega
theorem kind_any (r:Int) (w:World) :
  Calls Tryz.prog 78 #[.int .i32 r] w fun e w' => e = .returned (.int .i64 (kd r)) ∧ w' = w := by
 rcases kd_cases r with (rfl | rfl | rfl | rfl | rfl | rfl | rfl | rfl | rfl | rfl | rfl | rfl) | ⟨h0,h1,h2,h3,h4,h5,h6,h7,h8,h9,h10,h11⟩
 all_goals
  go_enter Tryz.func78,Tryz.ntmps78
  go_wp2
  go_ret
  refine ⟨ret_int ?_,rfl⟩
  first
   | rfl
   | (simp only [beq_eq_false_iff_ne,ne_eq] at *;unfold kd;simp [*])
def Right (s:ByteArray) (N:Nat):Prop := Cnt s N ∧ it s N = s.size
def tab:Nat → List Nat
 | 1 => [32,9]
 | 2 => [160,8239]
 | 3 => [173]
 | 4 => [8203]
 | 5 => [8288,65279]
 | 6 => [45,8208]
 | 7 => [8232]
 | 8 => [10]
 | _ => []
def Tab (w:World) (h:Nat):Prop :=
 (∀ k,1 ≤ k → k ≤ 8 → w.cell? ⟨h + 1 + 1 + 1 + 1 + 1 + 1 + 1 + 1 + 1,k,none⟩ = some (.slice (some ⟨h + k,0,none⟩) (tab k).length (tab k).length)) ∧
 ∀ k i,1 ≤ k → k ≤ 8 → i < (tab k).length → w.cell? ⟨h + k,i,none⟩ = some (.int .i64 (((tab k).getD i 0:Nat):Int))
theorem eight (k:Nat) (h1:1 ≤ k) (h2:k ≤ 8):k = 1 ∨ k = 2 ∨ k = 3 ∨ k = 4 ∨ k = 5 ∨ k = 6 ∨ k = 7 ∨ k = 8 := by omega
theorem blk_old:∀ (l:List Obj) (w:World) (k:Nat),k < w.heap.size → (l.foldl World.alloc w).heap[k]? = w.heap[k]?
 | [],_,_,_ => rfl
 | o :: l,w,k,h => by
  rw [List.foldl_cons,blk_old l (w.alloc o) k (by simp;omega),heap_alloc_old w o h]
theorem blk_new:∀ (l:List Obj) (w:World) (i:Nat) (h:i < l.length),(l.foldl World.alloc w).heap[w.heap.size + i]? = some l[i]
 | o :: l,w,0,h => by
  rw [List.foldl_cons,Nat.add_zero,blk_old l (w.alloc o) w.heap.size (by simp),heap_alloc_new];rfl
 | o :: l,w,i + 1,h => by
  have := blk_new l (w.alloc o) i (by simpa using h)
  rw [show (w.alloc o).heap.size + i = w.heap.size + (i + 1) by simp;omega] at this
  exact this
def tabObjs (w:World):List Obj := [.cells #[] 3,.cells #[.int .i64 32,.int .i64 9] 3,.cells #[.int .i64 160,.int .i64 8239] 3,.cells #[.int .i64 173] 3,.cells #[.int .i64 8203] 3,.cells #[.int .i64 8288,.int .i64 65279] 3,.cells #[.int .i64 45,.int .i64 8208] 3,.cells #[.int .i64 8232] 3,.cells #[.int .i64 10] 3,.cells #[.slice (some ⟨w.heap.size,0,none⟩) 0 0,.slice (some ⟨w.heap.size + 1,0,none⟩) 2 2,.slice (some ⟨w.heap.size + 1 + 1,0,none⟩) 2 2,.slice (some ⟨w.heap.size + 1 + 1 + 1,0,none⟩) 1 1,.slice (some ⟨w.heap.size + 1 + 1 + 1 + 1,0,none⟩) 1 1,.slice (some ⟨w.heap.size + 1 + 1 + 1 + 1 + 1,0,none⟩) 2 2,.slice (some ⟨w.heap.size + 1 + 1 + 1 + 1 + 1 + 1,0,none⟩) 2 2,.slice (some ⟨w.heap.size + 1 + 1 + 1 + 1 + 1 + 1 + 1,0,none⟩) 1 1,.slice (some ⟨w.heap.size + 1 + 1 + 1 + 1 + 1 + 1 + 1 + 1,0,none⟩) 1 1] 33]
theorem tab_made (w:World):Tab ((((((((((w.alloc (.cells #[] 3)).alloc (.cells #[.int .i64 32,.int .i64 9] 3)).alloc (.cells #[.int .i64 160,.int .i64 8239] 3)).alloc (.cells #[.int .i64 173] 3)).alloc (.cells #[.int .i64 8203] 3)).alloc (.cells #[.int .i64 8288,.int .i64 65279] 3)).alloc (.cells #[.int .i64 45,.int .i64 8208] 3)).alloc (.cells #[.int .i64 8232] 3)).alloc (.cells #[.int .i64 10] 3)).alloc (.cells #[.slice (some ⟨w.heap.size,0,none⟩) 0 0,.slice (some ⟨w.heap.size + 1,0,none⟩) 2 2,.slice (some ⟨w.heap.size + 1 + 1,0,none⟩) 2 2,.slice (some ⟨w.heap.size + 1 + 1 + 1,0,none⟩) 1 1,.slice (some ⟨w.heap.size + 1 + 1 + 1 + 1,0,none⟩) 1 1,.slice (some ⟨w.heap.size + 1 + 1 + 1 + 1 + 1,0,none⟩) 2 2,.slice (some ⟨w.heap.size + 1 + 1 + 1 + 1 + 1 + 1,0,none⟩) 2 2,.slice (some ⟨w.heap.size + 1 + 1 + 1 + 1 + 1 + 1 + 1,0,none⟩) 1 1,.slice (some ⟨w.heap.size + 1 + 1 + 1 + 1 + 1 + 1 + 1 + 1,0,none⟩) 1 1] 33)) w.heap.size := by
 have hall := blk_new (tabObjs w) w
 have hlen:(tabObjs w).length = 10 := rfl
 have e9 := hall 9 (by omega)
 constructor
 ·intro k h1 h2
  have := cell_of_row _ (w.heap.size + 9) k _ _ _ e9
  refine Eq.trans this ?_
  rcases eight k h1 h2 with rfl | rfl | rfl | rfl | rfl | rfl | rfl | rfl <;> rfl
 ·intro k i h1 h2 h3
  rcases eight k h1 h2 with rfl | rfl | rfl | rfl | rfl | rfl | rfl | rfl
  ·refine Eq.trans (cell_of_row _ (w.heap.size + 1) i _ _ _ (hall 1 (by omega))) ?_
   simp [tab] at h3
   have hi:i = 0 ∨ i = 1 := by omega
   rcases hi with rfl | rfl <;> rfl
  ·refine Eq.trans (cell_of_row _ (w.heap.size + 2) i _ _ _ (hall 2 (by omega))) ?_
   simp [tab] at h3
   have hi:i = 0 ∨ i = 1 := by omega
   rcases hi with rfl | rfl <;> rfl
  ·refine Eq.trans (cell_of_row _ (w.heap.size + 3) i _ _ _ (hall 3 (by omega))) ?_
   simp [tab] at h3
   subst h3;rfl
  ·refine Eq.trans (cell_of_row _ (w.heap.size + 4) i _ _ _ (hall 4 (by omega))) ?_
   simp [tab] at h3
   subst h3;rfl
  ·refine Eq.trans (cell_of_row _ (w.heap.size + 5) i _ _ _ (hall 5 (by omega))) ?_
   simp [tab] at h3
   have hi:i = 0 ∨ i = 1 := by omega
   rcases hi with rfl | rfl <;> rfl
  ·refine Eq.trans (cell_of_row _ (w.heap.size + 6) i _ _ _ (hall 6 (by omega))) ?_
   simp [tab] at h3
   have hi:i = 0 ∨ i = 1 := by omega
   rcases hi with rfl | rfl <;> rfl
  ·refine Eq.trans (cell_of_row _ (w.heap.size + 7) i _ _ _ (hall 7 (by omega))) ?_
   simp [tab] at h3
   subst h3;rfl
  ·refine Eq.trans (cell_of_row _ (w.heap.size + 8) i _ _ _ (hall 8 (by omega))) ?_
   simp [tab] at h3
   subst h3;rfl
theorem tab_short (k:Nat) (h1:1 ≤ k) (h2:k ≤ 8):(tab k).length ≤ 2 := by
 rcases eight k h1 h2 with rfl | rfl | rfl | rfl | rfl | rfl | rfl | rfl <;> decide
theorem tab_kd (k i : Nat) (h1 : 1 ≤ k) (h2 : k ≤ 8) (h3 : i < (tab k).length) : kd (((tab k).getD i 0 : Nat) : Int) = k ∧ (tab k).getD i 0 ≤ 65279 := by
  rcases eight k h1 h2 with rfl | rfl | rfl | rfl | rfl | rfl | rfl | rfl <;> simp [tab] at h3 ⊢
  all_goals
    first
      | (subst h3; decide)
      | (have hi : i = 0 ∨ i = 1 := by omega
         rcases hi with rfl | rfl <;> decide)
theorem tab_none (r:Int) (h:∀ k,1 ≤ k → k ≤ 8 → ∀ i,i < (tab k).length → (((tab k).getD i 0:Nat):Int) ≠ r):kd r = 0 := by
 rcases kd_cases r with (rfl | rfl | rfl | rfl | rfl | rfl | rfl | rfl | rfl | rfl | rfl | rfl) | ⟨h0,h1,h2,h3,h4,h5,h6,h7,h8,h9,h10,h11⟩
 ·exact absurd rfl (h 1 (by omega) (by omega) 0 (by decide))
 ·exact absurd rfl (h 1 (by omega) (by omega) 1 (by decide))
 ·exact absurd rfl (h 2 (by omega) (by omega) 0 (by decide))
 ·exact absurd rfl (h 2 (by omega) (by omega) 1 (by decide))
 ·exact absurd rfl (h 3 (by omega) (by omega) 0 (by decide))
 ·exact absurd rfl (h 4 (by omega) (by omega) 0 (by decide))
 ·exact absurd rfl (h 5 (by omega) (by omega) 0 (by decide))
 ·exact absurd rfl (h 5 (by omega) (by omega) 1 (by decide))
 ·exact absurd rfl (h 6 (by omega) (by omega) 0 (by decide))
 ·exact absurd rfl (h 6 (by omega) (by omega) 1 (by decide))
 ·exact absurd rfl (h 7 (by omega) (by omega) 0 (by decide))
 ·exact absurd rfl (h 8 (by omega) (by omega) 0 (by decide))
 ·simp only [beq_eq_false_iff_ne,ne_eq] at *
  unfold kd
  simp [*]
theorem refkind_any (r:Int) (w:World) :
  Calls Tryz.prog 47 #[.int .i64 r] w fun e w' => e = .returned (.int .i64 (kd r)) ∧ Below w.heap.size w w' := by
 go_enter Tryz.func47,Tryz.ntmps47
 go_wp2
 go_loopw [4,5] (fun t _ wr => ∃ k:Nat,(1 ≤ k ∧ k ≤ 9) ∧ t = .int .i64 (k:Int) ∧ Box (∀ j,1 ≤ j → j < k → ∀ i,i < (tab j).length → (((tab j).getD i 0:Nat):Int) ≠ r) ∧ Box (Tab wr w.heap.size) ∧ Box (Below w.heap.size w wr)) (fun t _ _ => 9 - (intOf t).toNat)
 case atStart => exact ⟨1,by omega,rfl,boxed (by intro j h1 h2;omega),boxed (tab_made w),boxed (by repeat (first | exact Below.refl _ _ | refine Below.alloc ?_ (by simp <;> omega) _))⟩
 case round =>
  obtain ⟨k,hk,rfl,HK,HT,HB⟩ := hrel
  by_cases h8:k ≤ 8
  ·have hrow := HT.out.1 k hk.1 h8
   have hsh := tab_short k hk.1 h8
   have HC := boxed (fun i => HT.out.2 k i hk.1 h8)
   have HX := boxed (fun i => tab_kd k i hk.1 h8)
   have hl9:decide ((k:Int) < 9) = true := decide_eq_true (by omega)
   have HL:Box ((tab k).length = (tab k).length) := boxed rfl
   generalize hn:(tab k).length = n at *
   replace hn := boxed hn
   go_wp2
   go_hide hQ
   go_loop [5] (fun t => ∃ i:Nat,i ≤ n ∧ t = .int .i64 (i:Int) ∧ Box (∀ j,j < i → (((tab k).getD j 0:Nat):Int) ≠ r)) (fun t => n - (intOf t).toNat)
   case atStart => exact ⟨0,Nat.zero_le _,rfl,boxed (by intro j hj;omega)⟩
   case round =>
    obtain ⟨i,hi,rfl,HI⟩ := hrel
    by_cases hlt:i < n
    ·have hcell := HC.out i hlt
     obtain ⟨x1,x2⟩ := HX.out i hlt
     have HX1 := boxed x1
     clear x1
     generalize hv:(tab k).getD i 0 = v at *
     replace hv := boxed hv
     cases he:((v:Int) == r) with
     | true =>
      have HE:Box ((v:Int) = r) := boxed (by simpa using he)
      go_wp2
      subst hQ
      go_wp2
      go_ret
      exact ⟨ret_int (by rw [← HE.out,HX1.out]),HB.out⟩
     | false =>
      have HE:Box ((v:Int) ≠ r) := boxed (by simpa using he)
      go_wp2
      go_round
      case rel =>
       refine ⟨i + 1,by omega,by go_num,boxed ?_⟩
       intro j hj
       by_cases c:j = i
       ·subst c;rw [hv.out];exact HE.out
       ·exact HI.out j (by omega)
      case measure => simp [intOf];omega
    ·go_wp2
     subst hQ
     go_wp2
     go_roundw
     case rel =>
      refine ⟨k + 1,by omega,by go_num,boxed ?_,HT,HB⟩
      intro j h1 h2 i' hi'
      by_cases c:j = k
      ·subst c;exact HI.out i' (by have := hn.out;omega)
      ·exact HK.out j h1 (by omega) i' hi'
     case measure => simp [intOf];omega
  ·have hl9:decide ((k:Int) < 9) = false := decide_eq_false (by omega)
   go_wp2
   go_ret
   exact ⟨ret_int (tab_none r (fun j h1 h2 => HK.out j h1 (by omega))).symm,HB.out⟩
end Go.Proofs.YtcjcdpfjnomehaaGreat.It
namespace Go.Proofs.YtcjcdpfjnomehaaGreat.It.Rd
set_option maxRecDepth 100000
set_option maxHeartbeats 40000000
open Go.RowKit
set_option linter.unusedSimpArgs false
set_option linter.unusedVariables false
theorem ret_int {k:IntKind} {a b:Int} (h:a = b):Ending.returned (.int k a) = .returned (.int k b) := by rw [h]
theorem ret_bool {a b:Bool} (h:a = b):Ending.returned (.bool a) = .returned (.bool b) := by rw [h]
theorem ret_two {k k':IntKind} {a b c d:Int} (h1:a = c) (h2:b = d):Ending.returned (.tuple #[.int k a,.int k' b]) = .returned (.tuple #[.int k c,.int k' d]) := by rw [h1,h2]
theorem bel_drewN (B:Nat) (w:World) (n:Nat):Below B w (w.drewN n) := ⟨rfl,rfl,rfl,Nat.le_refl _,fun _ _ => rfl⟩
def Jumps (J:Nat → Act → World → Prop) (Q:Exit → Act → World → Prop):Exit → Act → World → Prop
 | .goto l,a,w => J l a w
 | e,a,w => Q e a w
theorem jumps_ret (J:Nat → Act → World → Prop) (Q:Exit → Act → World → Prop) (a:Act) (w:World):Jumps J Q .ret a w = Q .ret a w := rfl
theorem wp_scope_hops {P:Program} {c:Code} {Q:Exit → Act → World → Prop} {a:Act} {w:World}
  (h:∀ J:Nat → Act → World → Prop,(∀ l rest a w,findLabel c l = some rest → rest.wp P (Jumps J Q) a w → J l a w) → c.wp P (Jumps J Q) a w):(Code.scope c).wp P Q a w := by
 intro b k cs
 have glue:∀ (l:Nat) (rest:Code) (a:Act) (w:World) (e:Exit) (a₁:Act) (w₁:World),findLabel c l = some rest →
   Jumps (fun l a w => ∃ rest,findLabel c l = some rest ∧ ∃ e a' w',Q e a' w' ∧ Arrives P (lone (b.at a (.code rest :: .inScope c :: k)) cs w) b k cs e a' w') Q e a₁ w₁ →
   Arrives P (lone (b.at a (.code rest :: .inScope c :: k)) cs w) b (.inScope c :: k) cs e a₁ w₁ →
   ∃ e a' w',Q e a' w' ∧ Arrives P (lone (b.at a (.code rest :: .inScope c :: k)) cs w) b k cs e a' w' := by
  intro l rest a w e a₁ w₁ hf hq harr
  cases e with
  | normal => exact ⟨.normal,a₁,w₁,hq,Steps.trans harr (.one step_inScope)⟩
  | exit id => exact ⟨.exit id,a₁,w₁,hq,fun k' hk => harr k' (by simp [exitTo,hk])⟩
  | goto l' =>
   obtain ⟨rest',hf',e₂,a₂,w₂,hq₂,harr₂⟩ := hq
   exact ⟨e₂,a₂,w₂,hq₂,.of_steps (harr _ (by simp [gotoIn,hf'])) harr₂⟩
  | ret => exact ⟨_,a₁,w₁,hq,harr⟩
  | panic ch => exact ⟨_,a₁,w₁,hq,harr⟩
  | outgrown => exact ⟨_,a₁,w₁,hq,harr⟩
 have hcl := h (fun l a w => ∃ rest,findLabel c l = some rest ∧ ∃ e a' w',Q e a' w' ∧ Arrives P (lone (b.at a (.code rest :: .inScope c :: k)) cs w) b k cs e a' w') ?_
 ·obtain ⟨e,a₁,w₁,hq,harr⟩ := hcl b (.inScope c :: k) cs
  cases e with
  | normal => exact ⟨.normal,a₁,w₁,hq,.head step_scope (Steps.trans harr (.one step_inScope))⟩
  | exit id => exact ⟨.exit id,a₁,w₁,hq,fun k' hk => .head step_scope (harr k' (by simp [exitTo,hk]))⟩
  | goto l' =>
   obtain ⟨rest',hf',e₂,a₂,w₂,hq₂,harr₂⟩ := hq
   exact ⟨e₂,a₂,w₂,hq₂,.of_steps (.head step_scope (harr _ (by simp [gotoIn,hf']))) harr₂⟩
  | ret => exact ⟨_,a₁,w₁,hq,.of_steps (.one step_scope) harr⟩
  | panic ch => exact ⟨_,a₁,w₁,hq,.of_steps (.one step_scope) harr⟩
  | outgrown => exact ⟨_,a₁,w₁,hq,.of_steps (.one step_scope) harr⟩
 ·intro l rest a w hf hw
  obtain ⟨e,a₁,w₁,hq,harr⟩ := hw b (.inScope c :: k) cs
  exact ⟨rest,hf,glue l rest a w e a₁ w₁ hf hq harr⟩
def ins (c:Int):Bool := decide (128 ≤ c) && decide (c ≤ 191)
theorem ins_nat (c:Nat):ins (c:Int) = true ↔ (128 ≤ c ∧ c < 192) := by simp [ins];omega
theorem inside_any (c:Int) (w:World) :
  Calls Tryz.prog 168 #[.int .u8 c] w fun e w' => e = .returned (.bool (ins c)) ∧ w' = w := by
 unfold ins
 by_cases h1:128 ≤ c
 all_goals
  go_enter Tryz.func168,Tryz.ntmps168
  go_wp2
  go_ret
  exact ⟨ret_bool (by simp [h1] <;> omega),rfl⟩
def isR (r:Int):Bool := decide (0 ≤ r) && decide (r ≤ 1114111) && (decide (r < 55296) || decide (57343 < r))
theorem isR_t (r:Int) (h:isR r = true):0 ≤ r ∧ r ≤ 1114111 ∧ (r < 55296 ∨ 57343 < r) := by simp [isR] at h;omega
theorem isR_f (r:Int) (h:isR r = false):¬ (0 ≤ r ∧ r ≤ 1114111 ∧ (r < 55296 ∨ 57343 < r)) := by
 intro c
 have:isR r = true := by simp [isR];omega
 rw [this] at h;exact absurd h (by simp)
theorem isR_mk (r:Int) (h:0 ≤ r ∧ r ≤ 1114111 ∧ (r < 55296 ∨ 57343 < r)):isR r = true := by simp [isR];omega
theorem exists_any (r:Int) (w:World) :
  Calls Tryz.prog 169 #[.int .i32 r] w fun e w' => e = .returned (.bool (isR r)) ∧ w' = w := by
 unfold isR
 by_cases h1:0 ≤ r
 all_goals
  by_cases h2:r ≤ 1114111
  all_goals
   by_cases h3:r < 55296
   all_goals
    go_enter Tryz.func169,Tryz.ntmps169
    go_wp2
    go_ret
    exact ⟨ret_bool (by simp [h1,h2,h3] <;> omega),rfl⟩
theorem not_empty (s:ByteArray) (h:0 < s.size):s.toList.isEmpty = false := by
 rw [← decide_eq_emptyBytes]
 simp only [decide_eq_false_iff_not]
 intro c;rw [c] at h;simp at h
def Rdz (s:ByteArray) (w:World) (r n:Int):Prop := Calls Tryz.prog 131 #[.string s] w fun e w' => e = .returned (.tuple #[.int .i32 r,.int .i64 n]) ∧ w' = w
theorem read_all (s:ByteArray) (w:World) (hs:s.size ≤ maxLen) :
  (∀ (he:s.toList.isEmpty = true),Rdz s w 0 0) ∧
  (∀ (he:s.toList.isEmpty = false) (b0:Nat) (k0:0 < s.size) (e0:s[0].toNat = b0) (h:b0 < 128) (x:isR (b0:Int) = true),Rdz s w b0 1) ∧
  (∀ (he:s.toList.isEmpty = false) (b0:Nat) (k0:0 < s.size) (e0:s[0].toNat = b0) (h:128 ≤ b0 ∧ b0 < 192),Rdz s w 0 0) ∧
  (∀ (he:s.toList.isEmpty = false) (b0:Nat) (k0:0 < s.size) (e0:s[0].toNat = b0) (h:248 ≤ b0 ∧ b0 < 256),Rdz s w 0 0) ∧
  (∀ (he:s.toList.isEmpty = false) (b0:Nat) (k0:0 < s.size) (e0:s[0].toNat = b0) (h:192 ≤ b0 ∧ b0 < 224) (n1:((1:Int) == (s.size:Int)) = true),Rdz s w 0 0) ∧
  (∀ (he:s.toList.isEmpty = false) (b0 b1:Nat) (k0:1 < s.size) (e0:s[0].toNat = b0) (e1:s[1].toNat = b1) (h:192 ≤ b0 ∧ b0 < 224) (n1:((1:Int) == (s.size:Int)) = false) (i1:ins (b1:Int) = false),Rdz s w 0 0) ∧
  (∀ (he:s.toList.isEmpty = false) (b0 b1:Nat) (k0:1 < s.size) (e0:s[0].toNat = b0) (e1:s[1].toNat = b1) (h:192 ≤ b0 ∧ b0 < 224) (n1:((1:Int) == (s.size:Int)) = false) (i1:ins (b1:Int) = true) (j1:128 ≤ b1 ∧ b1 < 192) (g:decide ((128:Int) ≤ ((b0:Int) % 32) * 64 + (b1:Int) % 64) = false),Rdz s w 0 0) ∧
  (∀ (he:s.toList.isEmpty = false) (b0 b1:Nat) (k0:1 < s.size) (e0:s[0].toNat = b0) (e1:s[1].toNat = b1) (h:192 ≤ b0 ∧ b0 < 224) (n1:((1:Int) == (s.size:Int)) = false) (i1:ins (b1:Int) = true) (j1:128 ≤ b1 ∧ b1 < 192) (g:decide ((128:Int) ≤ ((b0:Int) % 32) * 64 + (b1:Int) % 64) = true) (x:isR (((b0:Int) % 32) * 64 + (b1:Int) % 64) = false),Rdz s w 0 0) ∧
  (∀ (he:s.toList.isEmpty = false) (b0 b1:Nat) (k0:1 < s.size) (e0:s[0].toNat = b0) (e1:s[1].toNat = b1) (h:192 ≤ b0 ∧ b0 < 224) (n1:((1:Int) == (s.size:Int)) = false) (i1:ins (b1:Int) = true) (j1:128 ≤ b1 ∧ b1 < 192) (g:decide ((128:Int) ≤ ((b0:Int) % 32) * 64 + (b1:Int) % 64) = true) (x:isR (((b0:Int) % 32) * 64 + (b1:Int) % 64) = true),Rdz s w ((((b0:Int) % 32) * 64 + (b1:Int) % 64)) 2) ∧
  (∀ (he:s.toList.isEmpty = false) (b0:Nat) (k0:0 < s.size) (e0:s[0].toNat = b0) (h:224 ≤ b0 ∧ b0 < 240) (n1:((1:Int) == (s.size:Int)) = true),Rdz s w 0 0) ∧
  (∀ (he:s.toList.isEmpty = false) (b0 b1:Nat) (k0:1 < s.size) (e0:s[0].toNat = b0) (e1:s[1].toNat = b1) (h:224 ≤ b0 ∧ b0 < 240) (n1:((1:Int) == (s.size:Int)) = false) (i1:ins (b1:Int) = false),Rdz s w 0 0) ∧
  (∀ (he:s.toList.isEmpty = false) (b0 b1:Nat) (k0:1 < s.size) (e0:s[0].toNat = b0) (e1:s[1].toNat = b1) (h:224 ≤ b0 ∧ b0 < 240) (n1:((1:Int) == (s.size:Int)) = false) (i1:ins (b1:Int) = true) (j1:128 ≤ b1 ∧ b1 < 192) (n2:((2:Int) == (s.size:Int)) = true),Rdz s w 0 0) ∧
  (∀ (he:s.toList.isEmpty = false) (b0 b1 b2:Nat) (k0:2 < s.size) (e0:s[0].toNat = b0) (e1:s[1].toNat = b1) (e2:s[2].toNat = b2) (h:224 ≤ b0 ∧ b0 < 240) (n1:((1:Int) == (s.size:Int)) = false) (i1:ins (b1:Int) = true) (j1:128 ≤ b1 ∧ b1 < 192) (n2:((2:Int) == (s.size:Int)) = false) (i2:ins (b2:Int) = false),Rdz s w 0 0) ∧
  (∀ (he:s.toList.isEmpty = false) (b0 b1 b2:Nat) (k0:2 < s.size) (e0:s[0].toNat = b0) (e1:s[1].toNat = b1) (e2:s[2].toNat = b2) (h:224 ≤ b0 ∧ b0 < 240) (n1:((1:Int) == (s.size:Int)) = false) (i1:ins (b1:Int) = true) (j1:128 ≤ b1 ∧ b1 < 192) (n2:((2:Int) == (s.size:Int)) = false) (i2:ins (b2:Int) = true) (j2:128 ≤ b2 ∧ b2 < 192) (g:decide ((2048:Int) ≤ (((b0:Int) % 16) * 64 + (b1:Int) % 64) * 64 + (b2:Int) % 64) = false),Rdz s w 0 0) ∧
  (∀ (he:s.toList.isEmpty = false) (b0 b1 b2:Nat) (k0:2 < s.size) (e0:s[0].toNat = b0) (e1:s[1].toNat = b1) (e2:s[2].toNat = b2) (h:224 ≤ b0 ∧ b0 < 240) (n1:((1:Int) == (s.size:Int)) = false) (i1:ins (b1:Int) = true) (j1:128 ≤ b1 ∧ b1 < 192) (n2:((2:Int) == (s.size:Int)) = false) (i2:ins (b2:Int) = true) (j2:128 ≤ b2 ∧ b2 < 192) (g:decide ((2048:Int) ≤ (((b0:Int) % 16) * 64 + (b1:Int) % 64) * 64 + (b2:Int) % 64) = true) (x:isR ((((b0:Int) % 16) * 64 + (b1:Int) % 64) * 64 + (b2:Int) % 64) = false),Rdz s w 0 0) ∧
  (∀ (he:s.toList.isEmpty = false) (b0 b1 b2:Nat) (k0:2 < s.size) (e0:s[0].toNat = b0) (e1:s[1].toNat = b1) (e2:s[2].toNat = b2) (h:224 ≤ b0 ∧ b0 < 240) (n1:((1:Int) == (s.size:Int)) = false) (i1:ins (b1:Int) = true) (j1:128 ≤ b1 ∧ b1 < 192) (n2:((2:Int) == (s.size:Int)) = false) (i2:ins (b2:Int) = true) (j2:128 ≤ b2 ∧ b2 < 192) (g:decide ((2048:Int) ≤ (((b0:Int) % 16) * 64 + (b1:Int) % 64) * 64 + (b2:Int) % 64) = true) (x:isR ((((b0:Int) % 16) * 64 + (b1:Int) % 64) * 64 + (b2:Int) % 64) = true),Rdz s w (((((b0:Int) % 16) * 64 + (b1:Int) % 64) * 64 + (b2:Int) % 64)) 3) ∧
  (∀ (he:s.toList.isEmpty = false) (b0:Nat) (k0:0 < s.size) (e0:s[0].toNat = b0) (h:240 ≤ b0 ∧ b0 < 248) (n1:((1:Int) == (s.size:Int)) = true),Rdz s w 0 0) ∧
  (∀ (he:s.toList.isEmpty = false) (b0 b1:Nat) (k0:1 < s.size) (e0:s[0].toNat = b0) (e1:s[1].toNat = b1) (h:240 ≤ b0 ∧ b0 < 248) (n1:((1:Int) == (s.size:Int)) = false) (i1:ins (b1:Int) = false),Rdz s w 0 0) ∧
  (∀ (he:s.toList.isEmpty = false) (b0 b1:Nat) (k0:1 < s.size) (e0:s[0].toNat = b0) (e1:s[1].toNat = b1) (h:240 ≤ b0 ∧ b0 < 248) (n1:((1:Int) == (s.size:Int)) = false) (i1:ins (b1:Int) = true) (j1:128 ≤ b1 ∧ b1 < 192) (n2:((2:Int) == (s.size:Int)) = true),Rdz s w 0 0) ∧
  (∀ (he:s.toList.isEmpty = false) (b0 b1 b2:Nat) (k0:2 < s.size) (e0:s[0].toNat = b0) (e1:s[1].toNat = b1) (e2:s[2].toNat = b2) (h:240 ≤ b0 ∧ b0 < 248) (n1:((1:Int) == (s.size:Int)) = false) (i1:ins (b1:Int) = true) (j1:128 ≤ b1 ∧ b1 < 192) (n2:((2:Int) == (s.size:Int)) = false) (i2:ins (b2:Int) = false),Rdz s w 0 0) ∧
  (∀ (he:s.toList.isEmpty = false) (b0 b1 b2:Nat) (k0:2 < s.size) (e0:s[0].toNat = b0) (e1:s[1].toNat = b1) (e2:s[2].toNat = b2) (h:240 ≤ b0 ∧ b0 < 248) (n1:((1:Int) == (s.size:Int)) = false) (i1:ins (b1:Int) = true) (j1:128 ≤ b1 ∧ b1 < 192) (n2:((2:Int) == (s.size:Int)) = false) (i2:ins (b2:Int) = true) (j2:128 ≤ b2 ∧ b2 < 192) (n3:((3:Int) == (s.size:Int)) = true),Rdz s w 0 0) ∧
  (∀ (he:s.toList.isEmpty = false) (b0 b1 b2 b3:Nat) (k0:3 < s.size) (e0:s[0].toNat = b0) (e1:s[1].toNat = b1) (e2:s[2].toNat = b2) (e3:s[3].toNat = b3) (h:240 ≤ b0 ∧ b0 < 248) (n1:((1:Int) == (s.size:Int)) = false) (i1:ins (b1:Int) = true) (j1:128 ≤ b1 ∧ b1 < 192) (n2:((2:Int) == (s.size:Int)) = false) (i2:ins (b2:Int) = true) (j2:128 ≤ b2 ∧ b2 < 192) (n3:((3:Int) == (s.size:Int)) = false) (i3:ins (b3:Int) = false),Rdz s w 0 0) ∧
  (∀ (he:s.toList.isEmpty = false) (b0 b1 b2 b3:Nat) (k0:3 < s.size) (e0:s[0].toNat = b0) (e1:s[1].toNat = b1) (e2:s[2].toNat = b2) (e3:s[3].toNat = b3) (h:240 ≤ b0 ∧ b0 < 248) (n1:((1:Int) == (s.size:Int)) = false) (i1:ins (b1:Int) = true) (j1:128 ≤ b1 ∧ b1 < 192) (n2:((2:Int) == (s.size:Int)) = false) (i2:ins (b2:Int) = true) (j2:128 ≤ b2 ∧ b2 < 192) (n3:((3:Int) == (s.size:Int)) = false) (i3:ins (b3:Int) = true) (j3:128 ≤ b3 ∧ b3 < 192) (g:decide ((65536:Int) ≤ ((((b0:Int) % 8) * 64 + (b1:Int) % 64) * 64 + (b2:Int) % 64) * 64 + (b3:Int) % 64) = false),Rdz s w 0 0) ∧
  (∀ (he:s.toList.isEmpty = false) (b0 b1 b2 b3:Nat) (k0:3 < s.size) (e0:s[0].toNat = b0) (e1:s[1].toNat = b1) (e2:s[2].toNat = b2) (e3:s[3].toNat = b3) (h:240 ≤ b0 ∧ b0 < 248) (n1:((1:Int) == (s.size:Int)) = false) (i1:ins (b1:Int) = true) (j1:128 ≤ b1 ∧ b1 < 192) (n2:((2:Int) == (s.size:Int)) = false) (i2:ins (b2:Int) = true) (j2:128 ≤ b2 ∧ b2 < 192) (n3:((3:Int) == (s.size:Int)) = false) (i3:ins (b3:Int) = true) (j3:128 ≤ b3 ∧ b3 < 192) (g:decide ((65536:Int) ≤ ((((b0:Int) % 8) * 64 + (b1:Int) % 64) * 64 + (b2:Int) % 64) * 64 + (b3:Int) % 64) = true) (x:isR (((((b0:Int) % 8) * 64 + (b1:Int) % 64) * 64 + (b2:Int) % 64) * 64 + (b3:Int) % 64) = false),Rdz s w 0 0) ∧
  (∀ (he:s.toList.isEmpty = false) (b0 b1 b2 b3:Nat) (k0:3 < s.size) (e0:s[0].toNat = b0) (e1:s[1].toNat = b1) (e2:s[2].toNat = b2) (e3:s[3].toNat = b3) (h:240 ≤ b0 ∧ b0 < 248) (n1:((1:Int) == (s.size:Int)) = false) (i1:ins (b1:Int) = true) (j1:128 ≤ b1 ∧ b1 < 192) (n2:((2:Int) == (s.size:Int)) = false) (i2:ins (b2:Int) = true) (j2:128 ≤ b2 ∧ b2 < 192) (n3:((3:Int) == (s.size:Int)) = false) (i3:ins (b3:Int) = true) (j3:128 ≤ b3 ∧ b3 < 192) (g:decide ((65536:Int) ≤ ((((b0:Int) % 8) * 64 + (b1:Int) % 64) * 64 + (b2:Int) % 64) * 64 + (b3:Int) % 64) = true) (x:isR (((((b0:Int) % 8) * 64 + (b1:Int) % 64) * 64 + (b2:Int) % 64) * 64 + (b3:Int) % 64) = true),Rdz s w ((((((b0:Int) % 8) * 64 + (b1:Int) % 64) * 64 + (b2:Int) % 64) * 64 + (b3:Int) % 64)) 4) := by
 unfold maxLen at hs
 refine ⟨?_,?_,?_,?_,?_,?_,?_,?_,?_,?_,?_,?_,?_,?_,?_,?_,?_,?_,?_,?_,?_,?_,?_,?_,?_⟩
 all_goals
  intros
  unfold Rdz
  go_enter Tryz.func131,Tryz.ntmps131
  go_wp2
  refine wp_scope_hops fun J hJ => ?_
  replace hJ := boxed hJ
  go_wp2
  repeat
   go_step3
   try refine hJ.out _ _ _ _ rfl ?_
   go_wp2_with (first | (go_at_call 168;refine (inside_any _ _).mono ?_;rintro e w' ⟨rfl,hw'⟩;subst w') | (go_at_call 169;refine (exists_any _ _).mono ?_;rintro e w' ⟨rfl,hw'⟩;subst w'))
  rw [jumps_ret]
  go_ret2
  exact ⟨rfl,rfl⟩
theorem beq_t (k n:Nat) (h:n = k):((k:Int) == (n:Int)) = true := by subst h;simp
theorem beq_f (k n:Nat) (h:n ≠ k):((k:Int) == (n:Int)) = false := by simp;omega
theorem ins_nf (c:Nat) (h:¬ (128 ≤ c ∧ c < 192)):ins (c:Int) = false := by
 cases e:ins (c:Int) with
 | false => rfl
 | true => exact absurd ((ins_nat c).1 e) h
theorem read_any (s:ByteArray) (w:World) (hs:s.size ≤ maxLen) :
  Calls Tryz.prog 131 #[.string s] w fun e w' => e = .returned (.tuple #[.int .i32 ((dc s 0).1:Int),.int .i64 ((dc s 0).2:Int)]) ∧ w' = w := by
 obtain ⟨read_e,read_1,read_x,read_y,read_2s1,read_2n1,read_2g,read_2r,read_2ok,read_3s1,read_3n1,read_3s2,read_3n2,read_3g,read_3r,read_3ok,read_4s1,read_4n1,read_4s2,read_4n2,read_4s3,read_4n3,read_4g,read_4r,read_4ok⟩ := read_all s w hs
 have zero:dc s 0 = (0,0) → (Calls Tryz.prog 131 #[.string s] w fun e w' => e = .returned (.tuple #[.int .i32 0,.int .i64 0]) ∧ w' = w) →
   Calls Tryz.prog 131 #[.string s] w fun e w' => e = .returned (.tuple #[.int .i32 ((dc s 0).1:Int),.int .i64 ((dc s 0).2:Int)]) ∧ w' = w := by
  intro h1 h2;rw [h1];exact h2
 have some:∀ (v:Int) (r n:Nat),dc s 0 = (r,n) → v = (r:Int) → (Calls Tryz.prog 131 #[.string s] w fun e w' => e = .returned (.tuple #[.int .i32 v,.int .i64 n]) ∧ w' = w) →
   Calls Tryz.prog 131 #[.string s] w fun e w' => e = .returned (.tuple #[.int .i32 ((dc s 0).1:Int),.int .i64 ((dc s 0).2:Int)]) ∧ w' = w := by
  intro v r n h1 h2 h3;rw [h1];subst h2;exact h3
 by_cases k0:0 < s.size
 rotate_left
 ·refine zero (dc_out s 0 k0) (read_e ?_)
  rw [← decide_eq_emptyBytes]
  simp only [decide_eq_true_eq]
  have:s.size = 0 := by omega
  exact ByteArray.ext (Array.eq_empty_of_size_eq_zero this)
 have he := not_empty s k0
 have q0 := bt_in s 0 k0
 have l0 := bt_lt s 0 k0
 have D:dc s 0 = dec (bt s 0) (bt s 1) (bt s 2) (bt s 3) := rfl
 obtain ⟨b0,B0⟩:∃ b,bt s 0 = b := ⟨_,rfl⟩
 obtain ⟨b1,B1⟩:∃ b,bt s 1 = b := ⟨_,rfl⟩
 obtain ⟨b2,B2⟩:∃ b,bt s 2 = b := ⟨_,rfl⟩
 obtain ⟨b3,B3⟩:∃ b,bt s 3 = b := ⟨_,rfl⟩
 rw [B0,B1,B2,B3] at D
 rw [B0] at q0 l0
 by_cases c0:b0 < 128
 ·exact some _ _ 1 (D.trans (dec1 c0)) rfl (read_1 he b0 k0 q0.symm c0 (isR_mk _ (by omega)))
 by_cases c1:b0 < 192
 ·exact zero (D.trans (dec0 (by omega) (by omega) (by omega) (by omega))) (read_x he b0 k0 q0.symm ⟨by omega,c1⟩)
 by_cases c2:248 ≤ b0
 ·exact zero (D.trans (dec0 (by omega) (by omega) (by omega) (by omega))) (read_y he b0 k0 q0.symm ⟨by omega,by omega⟩)
 by_cases k1:1 < s.size
 rotate_left
 ·have hb1 := bt_out s 1 k1
  have Z := zero (D.trans (dec0 (by omega) (by omega) (by omega) (by omega)))
  have n1 := beq_t 1 s.size (by omega)
  by_cases c3:b0 < 224
  ·exact Z (read_2s1 he b0 k0 q0.symm ⟨by omega,c3⟩ n1)
  by_cases c4:b0 < 240
  ·exact Z (read_3s1 he b0 k0 q0.symm ⟨by omega,c4⟩ n1)
  ·exact Z (read_4s1 he b0 k0 q0.symm ⟨by omega,by omega⟩ n1)
 have n1 := beq_f 1 s.size (by omega)
 have q1 := bt_in s 1 k1
 have l1 := bt_lt s 1 k1
 rw [B1] at q1 l1
 by_cases c3:b0 < 224
 ·by_cases i1:128 ≤ b1 ∧ b1 < 192
  rotate_left
  ·exact zero (D.trans (dec0 (by omega) (by omega) (by omega) (by omega))) (read_2n1 he b0 b1 k1 q0.symm q1.symm ⟨by omega,c3⟩ n1 (ins_nf b1 i1))
  by_cases g:128 ≤ (b0 - 192) * 64 + (b1 - 128)
  ·exact some _ _ 2 (D.trans (dec2 ⟨by omega,c3⟩ i1 g)) (by omega) (read_2ok he b0 b1 k1 q0.symm q1.symm ⟨by omega,c3⟩ n1 ((ins_nat b1).2 i1) i1 (decide_eq_true (by omega)) (isR_mk _ (by omega)))
  ·exact zero (D.trans (dec0 (by omega) (by omega) (by omega) (by omega))) (read_2g he b0 b1 k1 q0.symm q1.symm ⟨by omega,c3⟩ n1 ((ins_nat b1).2 i1) i1 (decide_eq_false (by omega)))
 by_cases i1:128 ≤ b1 ∧ b1 < 192
 rotate_left
 ·have Z := zero (D.trans (dec0 (by omega) (by omega) (by omega) (by omega)))
  by_cases c4:b0 < 240
  ·exact Z (read_3n1 he b0 b1 k1 q0.symm q1.symm ⟨by omega,c4⟩ n1 (ins_nf b1 i1))
  ·exact Z (read_4n1 he b0 b1 k1 q0.symm q1.symm ⟨by omega,by omega⟩ n1 (ins_nf b1 i1))
 have I1 := (ins_nat b1).2 i1
 by_cases k2:2 < s.size
 rotate_left
 ·have hb2 := bt_out s 2 k2
  have Z := zero (D.trans (dec0 (by omega) (by omega) (by omega) (by omega)))
  have n2 := beq_t 2 s.size (by omega)
  by_cases c4:b0 < 240
  ·exact Z (read_3s2 he b0 b1 k1 q0.symm q1.symm ⟨by omega,c4⟩ n1 I1 i1 n2)
  ·exact Z (read_4s2 he b0 b1 k1 q0.symm q1.symm ⟨by omega,by omega⟩ n1 I1 i1 n2)
 have n2 := beq_f 2 s.size (by omega)
 have q2 := bt_in s 2 k2
 rw [B2] at q2
 by_cases i2:128 ≤ b2 ∧ b2 < 192
 rotate_left
 ·have Z := zero (D.trans (dec0 (by omega) (by omega) (by omega) (by omega)))
  by_cases c4:b0 < 240
  ·exact Z (read_3n2 he b0 b1 b2 k2 q0.symm q1.symm q2.symm ⟨by omega,c4⟩ n1 I1 i1 n2 (ins_nf b2 i2))
  ·exact Z (read_4n2 he b0 b1 b2 k2 q0.symm q1.symm q2.symm ⟨by omega,by omega⟩ n1 I1 i1 n2 (ins_nf b2 i2))
 have I2 := (ins_nat b2).2 i2
 by_cases c4:b0 < 240
 ·by_cases g:2048 ≤ (b0 - 224) * 4096 + (b1 - 128) * 64 + (b2 - 128)
  rotate_left
  ·exact zero (D.trans (dec0 (by omega) (by omega) (by omega) (by omega))) (read_3g he b0 b1 b2 k2 q0.symm q1.symm q2.symm ⟨by omega,c4⟩ n1 I1 i1 n2 I2 i2 (decide_eq_false (by omega)))
  have G:decide ((2048:Int) ≤ (((b0:Int) % 16) * 64 + (b1:Int) % 64) * 64 + (b2:Int) % 64) = true := decide_eq_true (by omega)
  cases x:isR ((((b0:Int) % 16) * 64 + (b1:Int) % 64) * 64 + (b2:Int) % 64) with
  | true =>
   have := isR_t _ x
   exact some _ _ 3 (D.trans (dec3 ⟨by omega,c4⟩ i1 i2 g (by omega))) (by omega) (read_3ok he b0 b1 b2 k2 q0.symm q1.symm q2.symm ⟨by omega,c4⟩ n1 I1 i1 n2 I2 i2 G x)
  | false =>
   have := isR_f _ x
   exact zero (D.trans (dec0 (by omega) (by omega) (by omega) (by omega))) (read_3r he b0 b1 b2 k2 q0.symm q1.symm q2.symm ⟨by omega,c4⟩ n1 I1 i1 n2 I2 i2 G x)
 by_cases k3:3 < s.size
 rotate_left
 ·have hb3 := bt_out s 3 k3
  exact zero (D.trans (dec0 (by omega) (by omega) (by omega) (by omega))) (read_4s3 he b0 b1 b2 k2 q0.symm q1.symm q2.symm ⟨by omega,by omega⟩ n1 I1 i1 n2 I2 i2 (beq_t 3 s.size (by omega)))
 have n3 := beq_f 3 s.size (by omega)
 have q3 := bt_in s 3 k3
 rw [B3] at q3
 by_cases i3:128 ≤ b3 ∧ b3 < 192
 rotate_left
 ·exact zero (D.trans (dec0 (by omega) (by omega) (by omega) (by omega))) (read_4n3 he b0 b1 b2 b3 k3 q0.symm q1.symm q2.symm q3.symm ⟨by omega,by omega⟩ n1 I1 i1 n2 I2 i2 n3 (ins_nf b3 i3))
 have I3 := (ins_nat b3).2 i3
 by_cases g:65536 ≤ (b0 - 240) * 262144 + (b1 - 128) * 4096 + (b2 - 128) * 64 + (b3 - 128)
 rotate_left
 ·exact zero (D.trans (dec0 (by omega) (by omega) (by omega) (by omega))) (read_4g he b0 b1 b2 b3 k3 q0.symm q1.symm q2.symm q3.symm ⟨by omega,by omega⟩ n1 I1 i1 n2 I2 i2 n3 I3 i3 (decide_eq_false (by omega)))
 have G:decide ((65536:Int) ≤ ((((b0:Int) % 8) * 64 + (b1:Int) % 64) * 64 + (b2:Int) % 64) * 64 + (b3:Int) % 64) = true := decide_eq_true (by omega)
 cases x:isR (((((b0:Int) % 8) * 64 + (b1:Int) % 64) * 64 + (b2:Int) % 64) * 64 + (b3:Int) % 64) with
 | true =>
  have := isR_t _ x
  exact some _ _ 4 (D.trans (dec4 ⟨by omega,by omega⟩ i1 i2 i3 g (by omega))) (by omega) (read_4ok he b0 b1 b2 b3 k3 q0.symm q1.symm q2.symm q3.symm ⟨by omega,by omega⟩ n1 I1 i1 n2 I2 i2 n3 I3 i3 G x)
 | false =>
  have := isR_f _ x
  exact zero (D.trans (dec0 (by omega) (by omega) (by omega) (by omega))) (read_4r he b0 b1 b2 b3 k3 q0.symm q1.symm q2.symm q3.symm ⟨by omega,by omega⟩ n1 I1 i1 n2 I2 i2 n3 I3 i3 G x)
theorem ext_size (s:ByteArray) (a b:Nat) (h:b ≤ s.size):(s.extract a b).size = b - a := by
 rw [ByteArray.size_extract];omega
theorem bt_ext (s:ByteArray) (a b k:Nat) (h:b ≤ s.size):bt (s.extract a b) k = if a + k < b then bt s (a + k) else 256 := by
 have hz := ext_size s a b h
 by_cases c:a + k < b
 ·rw [if_pos c,bt_in _ _ (by omega),bt_in _ _ (by omega),ByteArray.getElem_extract]
 ·rw [if_neg c,bt_out _ _ (by omega)]
theorem bt_tail (s:ByteArray) (a k:Nat):bt (s.extract a s.size) k = bt s (a + k) := by
 rw [bt_ext s a s.size k (Nat.le_refl _)]
 split
 ·rfl
 ·rw [bt_out s _ (by assumption)]
theorem dc_tail (s:ByteArray) (a k:Nat):dc (s.extract a s.size) k = dc s (a + k) := by
 unfold dc;rw [bt_tail,bt_tail,bt_tail,bt_tail];rfl
theorem read_at (s:ByteArray) (a:Nat) (w:World) (hs:s.size ≤ maxLen) :
  Calls Tryz.prog 131 #[.string (s.extract a s.size)] w fun e w' => e = .returned (.tuple #[.int .i32 ((dc s a).1:Int),.int .i64 ((dc s a).2:Int)]) ∧ w' = w := by
 have h := read_any (s.extract a s.size) w (by rw [ext_size s a s.size (Nat.le_refl _)];omega)
 rw [dc_tail] at h
 exact h
theorem bad_any (s:ByteArray) (w:World) (hs:s.size ≤ maxLen) (N:Nat) (hN:Cnt s N) :
  Calls Tryz.prog 164 #[.string s] w fun e w' => e = .returned (.int .i64 (badAt s N)) ∧ w' = w := by
 have HN := boxed hN
 have HS := boxed hs
 clear hN
 unfold maxLen at hs
 go_enter Tryz.func164,Tryz.ntmps164
 go_wp2
 go_loop [3] (fun i => ∃ k:Nat,k ≤ N ∧ i = .int .i64 (it s k)) (fun i => s.size - (intOf i).toNat)
 case atStart => exact ⟨0,Nat.zero_le _,rfl⟩
 case round =>
  obtain ⟨k,hk,rfl⟩ := hrel
  have hle := it_le s k
  have hr := fun w => read_at s (it s k) w HS.out
  have hd := dc_le s (it s k) (it_le s k)
  have hnx:it s (k + 1) = it s k + (dc s (it s k)).2 := rfl
  replace hnx := boxed hnx
  by_cases hlt:k < N
  ·have hp := HN.out.1 k hlt
   have hin := dc_pos s _ hp
   have hz:((((dc s (it s k)).2:Nat):Int) == 0) = false := by simp;omega
   generalize hA:it s k = A at *
   generalize dc s A = D at *
   obtain ⟨r,n⟩ := D
   simp only at *
   go_wp2_with (go_at_call 131;refine (hr _).mono ?_;rintro e w' ⟨rfl,hw'⟩;subst w')
   go_round
   case rel => exact ⟨k + 1,by omega,by rw [hnx.out];go_num⟩
   case measure => simp [intOf];omega
  ·have hkN:k = N := by omega
   subst hkN
   have hp := HN.out.2
   by_cases hin:it s k < s.size
   ·have hz:((((dc s (it s k)).2:Nat):Int) == 0) = true := by simp;omega
    have hb:Box (badAt s k = (it s k:Int)) := boxed (by unfold badAt;rw [if_pos hin])
    generalize hA:it s k = A at *
    generalize dc s A = D at *
    obtain ⟨r,n⟩ := D
    simp only at *
    go_wp2_with (go_at_call 131;refine (hr _).mono ?_;rintro e w' ⟨rfl,hw'⟩;subst w')
    go_ret
    exact ⟨ret_int hb.out.symm,rfl⟩
   ·have hb:Box (badAt s k = -1) := boxed (by unfold badAt;rw [if_neg hin])
    generalize hA:it s k = A at *
    clear hr hd hp
    go_wp2
    go_ret
    exact ⟨ret_int hb.out.symm,rfl⟩
def chk (s:ByteArray) (N:Nat):Int := if badAt s N < 0 then 0 else 20
theorem badAt_cases (s:ByteArray) (N:Nat):badAt s N = -1 ∨ 0 ≤ badAt s N := by unfold badAt;split <;> omega
theorem check_any (s:ByteArray) (w:World) (hs:s.size ≤ maxLen) (N:Nat) (hN:Cnt s N) :
  Calls Tryz.prog 128 #[.string s] w fun e w' => e = .returned (.int .i64 (chk s N)) ∧ w' = w := by
 have hb := bad_any s w hs N hN
 clear hN
 unfold chk
 have hc := badAt_cases s N
 generalize badAt s N = B at *
 rcases hc with hc | hc
 all_goals
  go_enter Tryz.func128,Tryz.ntmps128
  go_wp2_with (go_at_call 164;refine hb.mono ?_;rintro e w' ⟨rfl,hw'⟩;subst w')
  go_ret
  exact ⟨ret_int (by first | rfl | rw [if_pos (by omega)] | rw [if_neg (by omega)]),rfl⟩
theorem first_any (s:ByteArray) (w:World) (hs:s.size ≤ maxLen) :
  Calls Tryz.prog 89 #[.string s] w fun e w' => e = .returned (.tuple #[.int .i32 ((dc s 0).1:Int),.int .i64 ((dc s 0).2:Int)]) ∧ w' = w := by
 have hb := read_any s w hs
 go_enter Tryz.func89,Tryz.ntmps89
 go_wp2_with (go_at_call 131;refine hb.mono ?_;rintro e w' ⟨rfl,hw'⟩;subst w')
 go_ret2
 exact ⟨rfl,rfl⟩
def bnd (s:ByteArray) (a:Int):Int := if a < 0 ∨ (s.size:Int) < a then 30 else if a < (s.size:Int) ∧ ins (bt s a.toNat:Int) = true then 21 else 0
theorem boundary_any (s:ByteArray) (a:Int) (w:World) (hs:s.size ≤ maxLen) :
  Calls Tryz.prog 167 #[.string s,.int .i64 a] w fun e w' => e = .returned (.int .i64 (bnd s a)) ∧ w' = w := by
 unfold maxLen at hs
 by_cases h1:a < 0
 ·have hv:Box (bnd s a = 30) := boxed (by unfold bnd;rw [if_pos (Or.inl h1)])
  go_enter Tryz.func167,Tryz.ntmps167
  go_wp2
  go_ret
  exact ⟨ret_int hv.out.symm,rfl⟩
 by_cases h2:(s.size:Int) < a
 ·have hv:Box (bnd s a = 30) := boxed (by unfold bnd;rw [if_pos (Or.inr h2)])
  have d1:decide (a < 0) = false := by simp;omega
  go_enter Tryz.func167,Tryz.ntmps167
  go_wp2
  go_ret
  exact ⟨ret_int hv.out.symm,rfl⟩
 obtain ⟨k,rfl⟩:∃ k:Nat,a = (k:Int) := ⟨a.toNat,by omega⟩
 have d1:decide ((k:Int) < 0) = false := decide_eq_false (by omega)
 have d2:decide ((s.size:Int) < (k:Int)) = false := decide_eq_false (by omega)
 have d2':decide (s.size < k) = false := decide_eq_false (by omega)
 by_cases h3:k < s.size
 ·have hb := bt_in s k h3
  have d3:decide ((k:Int) < (s.size:Int)) = true := decide_eq_true (by omega)
  have d3':decide (k < s.size) = true := decide_eq_true h3
  cases hi:ins (s[k].toNat:Int) with
  | true =>
   have hv:Box (bnd s k = 21) := boxed (by unfold bnd;rw [if_neg (by omega),if_pos ⟨by omega,by simpa [hb] using hi⟩])
   clear hb h1 h2
   go_enter Tryz.func167,Tryz.ntmps167
   go_wp2_with (go_at_call 168;refine (inside_any _ _).mono ?_;rintro e w' ⟨rfl,hw'⟩;subst w')
   go_ret
   exact ⟨ret_int hv.out.symm,rfl⟩
  | false =>
   have hv:Box (bnd s k = 0) := boxed (by unfold bnd;rw [if_neg (by omega),if_neg (by rintro ⟨_,c⟩;simp [hb,hi] at c)])
   clear hb h1 h2
   go_enter Tryz.func167,Tryz.ntmps167
   go_wp2_with (go_at_call 168;refine (inside_any _ _).mono ?_;rintro e w' ⟨rfl,hw'⟩;subst w')
   go_ret
   exact ⟨ret_int hv.out.symm,rfl⟩
 ·have hv:Box (bnd s k = 0) := boxed (by unfold bnd;rw [if_neg (by omega),if_neg (by omega)])
  have d3:decide ((k:Int) < (s.size:Int)) = false := decide_eq_false (by omega)
  have d3':decide (k < s.size) = false := decide_eq_false h3
  clear h1 h2
  go_enter Tryz.func167,Tryz.ntmps167
  go_wp2
  go_ret
  exact ⟨ret_int hv.out.symm,rfl⟩
end Go.Proofs.YtcjcdpfjnomehaaGreat.It.Rd
