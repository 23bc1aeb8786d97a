/- What the document's New, Near, Span, Insert, Delete and Set answer. -/
import Derived.Laws.StructEq
import Derived.Test.YtcjcdpfjnomehaaGreatPl15
import Derived.Test.YtcjcdpfjnomehaaGreatPl21
namespace Go.Proofs.YtcjcdpfjnomehaaGreat.Ru
set_option maxRecDepth 100000
set_option maxHeartbeats 40000000
open Go.RowKit
set_option linter.unusedSimpArgs false
set_option linter.unusedVariables false
structure RfAt (N:Nat → Prop) (w:World) (b off cap:Nat) (s:List Int):Prop where
 ne:∀ i,i < s.length → N b
 cap:s.length ≤ cap
 cells:∀ i,i < s.length → w.cell? ⟨b,off + i,none⟩ = some (.int .i64 (s.getD i 0))
 ok:Sok s
 len:s.length ≤ 65536
theorem RfAt.keep {N:Nat → Prop} {w w':World} {b off cap:Nat} {s:List Int} (h:RfAt N w b off cap s) (k:Kp N N w w'):RfAt N w' b off cap s :=
 ⟨h.ne,h.cap,fun i hi => (k _ _ _ (h.ne i hi) (h.cells i hi)).2,h.ok,h.len⟩
theorem RfAt.below {N:Nat → Prop} {w w':World} {b off cap:Nat} {s:List Int} (h:RfAt N w b off cap s) (hb:Below w.heap.size w w'):RfAt N w' b off cap s := h.keep (kp_below hb)
theorem RfAt.other {N:Nat → Prop} {rb:Nat} {w w':World} {b off cap:Nat} {s:List Int} (h:RfAt N w b off cap s) (hb:∀ i,i < s.length → b ≠ rb) (hg:w.grownBy w' (some rb)):RfAt N w' b off cap s :=
 ⟨h.ne,h.cap,fun i hi => hg.cell (h.cells i hi) (fun e => by injection e with e;exact hb i hi e),h.ok,h.len⟩
theorem put2_all {w:World} {rb:Nat} {x y v0 v1:Value} {t:TypeId} (h:w.heap[rb]? = some (.cells #[x,y] t (0,0))) :
  ((w.setCell ⟨rb,0,none⟩ v0).setCell ⟨rb,1,none⟩ v1).cell? ⟨rb,0,none⟩ = some v0 ∧ ((w.setCell ⟨rb,0,none⟩ v0).setCell ⟨rb,1,none⟩ v1).cell? ⟨rb,1,none⟩ = some v1 ∧ w.grownBy ((w.setCell ⟨rb,0,none⟩ v0).setCell ⟨rb,1,none⟩ v1) (some rb) := by
 have h2 := set1_heap (v := v1) (set0_heap (v := v0) h)
 exact ⟨by simp [World.cell?,h2],by simp [World.cell?,h2],grown_trans (grown_set _ _ _ _) (grown_set _ _ _ _)⟩
theorem own_rf {B:Nat} {N:Nat → Prop} {w:World} {g cap:Nat} {s:List Int} (h:w.ownsRow B 3 1 (.slice (some ⟨g,0,none⟩) s.length cap) s.length (ints s)) (hl:∀ k,B ≤ k → N k) (hs:Sok s) (hn:s.length ≤ 65536):RfAt N w g 0 cap s := by
 refine ⟨fun _ _ => hl g (h.lt g rfl).1,?_,fun i hi => ?_,hs,hn⟩
 ·rcases h.2 with ⟨h',_⟩ | ⟨g',cap',cur,h',_,_,hc,_⟩
  ·simp at h'
  ·injection h' with _ _ e;omega
 ·have := h.cellAt i (by omega)
  rw [Nat.zero_add,this,ints_get s i hi]
section
variable {N:Nat → Prop} {w:World} {b off cap:Nat} {s:List Int} {base:Int}
end
end Go.Proofs.YtcjcdpfjnomehaaGreat.Ru
namespace Go.Proofs.YtcjcdpfjnomehaaGreat.Ru
set_option maxRecDepth 100000
set_option maxHeartbeats 40000000
open Go.RowKit
set_option linter.unusedSimpArgs false
set_option linter.unusedVariables false
def RunsIn (w:World) (ao:Option Addr) (R:List (Nat × Int)):Prop := P2At (fun _ => True) w ao R.length (fun i => ((R.getD i (0,0)).1:Nat)) (fun i => Ys R i)
theorem own_runs {w:World} {B:Nat} {ao:Option Addr} {cap n:Nat} {R:List (Nat × Int)} (h:w.ownsRow B 61 2 (.slice ao n cap) R.length (rcs R)) (hn:n = R.length) (hl:∀ p ∈ R,p.1 ≤ 9223372036854775807 ∧ I64 p.2):P2At (fun b => B ≤ b) w ao R.length (fun i => ((R.getD i (0,0)).1:Nat)) (fun i => Ys R i) := by
 subst hn
 intro i hi
 obtain ⟨g,cap',e⟩ := ownsRow_form h (by omega)
 injection e with e1 e2 e3
 subst e1;subst e3
 obtain ⟨p1,p2⟩ := rcs_get R i hi
 have hb := h.lt g rfl
 have hm:R.getD i (0,0) ∈ R := by simp [List.getD,hi]
 have hp := hl _ hm
 refine ⟨⟨⟨?_,?_⟩,hp.2⟩,g,0,rfl,hb.1,?_,?_⟩
 ·show (_:Int) ≤ (((R.getD i (0,0)).1:Nat):Int);omega
 ·show (((R.getD i (0,0)).1:Nat):Int) ≤ _;omega
 ·rw [Nat.zero_add,h.cellAt (i * 2) (by omega),p1]
 ·rw [Nat.zero_add,h.cellAt (i * 2 + 1) (by omega),p2]
theorem enc_ok {s:List Int} (hs:Sok s) (hl:s.length ≤ 8589934592):∀ p ∈ enc s,p.1 ≤ 9223372036854775807 ∧ I64 p.2 := by
 intro p hp
 obtain ⟨i,hi,e⟩ := List.getElem_of_mem hp
 have h1:sm (enc s) = s.length := sm_enc s
 have h2:∀ (R:List (Nat × Int)),p ∈ R → p.1 ≤ sm R := by
  intro R
  induction R with
  | nil => intro h;cases h
  | cons q r ih =>
   intro h
   simp only [sm]
   rcases List.mem_cons.1 h with rfl | h
   ·omega
   ·have := ih h;omega
 have h3 := h2 _ hp
 have h4:p.2 ∈ s := by
  have := Ys_in s i hi
  have e2:Ys (enc s) i = p.2 := by simp [Ys,List.getD,hi,e]
  rwa [e2] at this
 have := hs _ h4
 exact ⟨by omega,by omega,by omega⟩
theorem guardR:Tryz.prog.eqGuardType Tryz.prog.depth 61 = false := by kernel_rfl
theorem eqRun (a b d e:Int) (w:World):(Op.equalIn 10000 61 (.agg #[.int .i64 a,.int .i64 b]) (.agg #[.int .i64 d,.int .i64 e])).run Tryz.prog w = .ok (a == d && b == e) w := by
 have u3 := Tryz.underlying3
 have hS:Tryz.prog.underlying 61 = some (.struct (Tryz.prog.fieldsOf 61)) := by kernel_rfl
 have hp:Tryz.prog.stoodInHeld 61 = false := by kernel_rfl
 rw [show (10000:Nat) = 9999 + 1 from rfl,run_equalIn_agg w 9999 61 _ _ hS hp]
 simp only [Program.fieldsOf,Tryz.underlying61]
 go_simp
 by_cases h1:a = d <;> by_cases h2:b = e <;> simp [h1,h2]
theorem neqRun (a b d e:Int) (w:World):(binOp .neq 61 (.agg #[.int .i64 a,.int .i64 b]) (.agg #[.int .i64 d,.int .i64 e])).run Tryz.prog w = .ok (.bool (!(a == d && b == e))) w := by
 rw [run_neq_struct,eqRun]
 rfl
theorem guardRun (op:BinOp) (x y:Operand) (xs ys:Array Value) (w:World):(eqGuard op 61 x y (.agg xs) (.agg ys)).run Tryz.prog w = .ok () w := run_eqGuard_agg w op 61 x y xs ys guardR
theorem rsame_any (A B:Nat → Prop) (w:World) (ao bo:Option Addr) (na nb ca cb:Nat) (L1 Y1 L2 Y2:Nat → Int) (h1:P2At A w ao na L1 Y1) (h2:P2At B w bo nb L2 Y2) (hn:na ≤ 1048576):Calls Tryz.prog 27 #[.slice ao na ca,.slice bo nb cb] w fun e w' => ∃ r,e = .returned (.bool r) ∧ (r = true ↔ na = nb ∧ ∀ i,i < na → L1 i = L2 i ∧ Y1 i = Y2 i) ∧ Below w.heap.size w w' := by
 have H1 := boxed h1
 have H2 := boxed h2
 clear h1 h2
 by_cases c:na = nb
 ·subst c
  go_enter Tryz.func27,Tryz.ntmps27
  go_wp2_with fail
  go_loopw [5] (fun vi wr => ∃ i:Nat,i ≤ na ∧ vi = .int .i64 (i:Nat) ∧ Box (∀ j,j < i → L1 j = L2 j ∧ Y1 j = Y2 j) ∧ Box (Below w.heap.size w wr)) (fun vi _ => na - (intOf vi).toNat)
  case atStart => exact ⟨0,Nat.zero_le _,rfl,boxed (fun j hj => by omega),boxed (Below.refl _ _)⟩
  case round =>
   obtain ⟨i,hi,rfl,HS,HB⟩ := hrel
   by_cases hlt:i < na
   ·obtain ⟨b1,o1,rfl,-⟩ := H1.out.form (by omega)
    obtain ⟨b2,o2,rfl,-⟩ := H2.out.form (by omega)
    obtain ⟨p0,p1⟩ := (H1.out.below HB.out).get i hlt
    obtain ⟨q0,q1⟩ := (H2.out.below HB.out).get i hlt
    have hgd := guardRun
    have hne := fun w => neqRun (L1 i) (Y1 i) (L2 i) (Y2 i) w
    by_cases ce:L1 i = L2 i ∧ Y1 i = Y2 i
    ·have te:(!(L1 i == L2 i && Y1 i == Y2 i)) = false := by simp [ce.1,ce.2]
     simp only [te] at hne
     have HS2:Box (∀ j,j < i + 1 → L1 j = L2 j ∧ Y1 j = Y2 j) := boxed (fun j hj => by
      by_cases d:j = i
      ·subst d;exact ce
      ·exact HS.out j (by omega))
     clear ce te HS
     generalize L1 i = l1 at *
     generalize Y1 i = y1 at *
     generalize L2 i = l2 at *
     generalize Y2 i = y2 at *
     go_wp2_with fail
     go_quiet (fail)
     go_wp2_with fail
     go_roundw
     case rel => exact ⟨i + 1,by omega,by go_num,HS2,boxed (HB.out.trans (bel_drewN _ _ _))⟩
     case measure => simp [intOf];omega
    ·have te:(!(L1 i == L2 i && Y1 i == Y2 i)) = true := by
      by_cases c1:L1 i = L2 i
      ·have c2:Y1 i ≠ Y2 i := fun e => ce ⟨c1,e⟩
       simp [c2]
      ·simp [c1]
     simp only [te] at hne
     have HS2:Box (¬ ∀ j,j < na → L1 j = L2 j ∧ Y1 j = Y2 j) := boxed (fun hh => ce (hh i hlt))
     clear ce te HS
     generalize L1 i = l1 at *
     generalize Y1 i = y1 at *
     generalize L2 i = l2 at *
     generalize Y2 i = y2 at *
     go_wp2_with fail
     go_quiet (fail)
     go_wp2_with fail
     go_ret
     exact ⟨false,rfl,⟨(fun h => by cases h),(fun h => absurd h.2 HS2.out)⟩,HB.out.trans (bel_drewN _ _ _)⟩
   ·obtain rfl:i = na := by omega
    go_wp2_with fail
    go_ret
    exact ⟨true,rfl,⟨fun _ => ⟨by first | rfl | trivial,HS.out⟩,fun _ => rfl⟩,HB.out⟩
 ·have t:((na:Int) == (nb:Int)) = false := by rw [beq_eq_false_iff_ne];omega
  have c' := boxed c
  clear c
  go_enter Tryz.func27,Tryz.ntmps27
  go_wp2
  go_ret
  exact ⟨false,rfl,by simp [c'.out],Below.refl _ _⟩
def exs:(Nat → Int) → (Nat → Int) → Nat → List Int
 | _,_,0 => []
 | L,Y,m + 1 => List.replicate (L 0).toNat (Y 0) ++ exs (fun i => L (i + 1)) (fun i => Y (i + 1)) m
def bk2 (off cap:Nat):Nat := if cap = 1 then off else off + 2
theorem P2At.tail {S:Nat → Prop} {w:World} {b off m cap:Nat} {L Y:Nat → Int} (h:P2At S w (some ⟨b,off,none⟩) (m + 1) L Y) (hc:m + 1 ≤ cap):P2At S w (some ⟨b,bk2 off cap,none⟩) m (fun i => L (i + 1)) (fun i => Y (i + 1)) := by
 intro i hi
 obtain ⟨h1,b',off',e,h2,c0,c1⟩ := h (i + 1) (by omega)
 injection e with e
 injection e with e1 e2 e3
 subst e1;subst e2
 have eo:bk2 off cap = off + 2 := if_neg (by omega)
 rw [eo]
 refine ⟨h1,b,off + 2,rfl,h2,?_,?_⟩
 ·rw [show off + 2 + i * 2 = off + (i + 1) * 2 from by omega];exact c0
 ·rw [show off + 2 + i * 2 + 1 = off + (i + 1) * 2 + 1 from by omega];exact c1
def pz (l:Int):Nat := if 0 < l then 1 else 0
theorem pz_le (l:Int):pz l ≤ 1 := by unfold pz;split <;> omega
structure UwI (S:Nat → Prop) (w:World) (D:List Int) (m:Nat) (wr:World) (l y:Int) (ao:Option Addr) (k cap:Nat) (L Y:Nat → Int):Prop where
 lf:wr.heap[w.heap.size]? = some (.cells #[.int .i64 l,.int .i64 y] 61 (0,0))
 rs:wr.heap[w.heap.size + 1]? = some (.cells #[.int .i64 0,.int .i64 0] 61 (0,0))
 at_:P2At (fun b => S b ∧ b < w.heap.size) wr ao k L Y
 cap:k ≤ cap
 le:2 * k + pz l ≤ m
 i64:I64 l ∧ I64 y
 den:List.replicate l.toNat y ++ exs L Y k = D
 bel:Below w.heap.size w wr
theorem UwI.drew {S:Nat → Prop} {w:World} {D:List Int} {m:Nat} {wr:World} {l y:Int} {ao:Option Addr} {k cap:Nat} {L Y:Nat → Int} (h:UwI S w D m wr l y ao k cap L Y):UwI S w D m wr.drew l y ao k cap L Y :=
 ⟨h.lf,h.rs,h.at_.below (Below.refl _ _).drew,h.cap,h.le,h.i64,h.den,h.bel.drew⟩
theorem UwI.step {S:Nat → Prop} {w:World} {D:List Int} {m:Nat} {wr:World} {l y:Int} {b off:Nat} {k cap:Nat} {L Y:Nat → Int} (h:UwI S w D m wr l y (some ⟨b,off,none⟩) (k + 1) cap L Y) (hl:l ≤ 0) :
  UwI S w D m ((wr.setCell ⟨w.heap.size,0,none⟩ (.int .i64 (L 0))).setCell ⟨w.heap.size,1,none⟩ (.int .i64 (Y 0))) (L 0) (Y 0) (some ⟨b,bk2 off cap,none⟩) k (cap - 1) (fun i => L (i + 1)) (fun i => Y (i + 1)) := by
 have hd := h.den
 have hc := h.cap
 have hle := h.le
 have hpz := pz_le (L 0)
 refine ⟨set1_heap (set0_heap h.lf),?_,?_,by omega,by omega,(h.at_ 0 (by omega)).1,?_,?_⟩
 ·rw [heap_setCell_other _ _ _ _ (by simp),heap_setCell_other _ _ _ _ (by simp)];exact h.rs
 ·refine (h.at_.tail h.cap).keep (fun b i u hs hc => ⟨hs,?_⟩)
  rw [World.cell?_setCell_far _ _ _ _ (by show w.heap.size ≠ b;have := hs.2;omega),World.cell?_setCell_far _ _ _ _ (by show w.heap.size ≠ b;have := hs.2;omega)]
  exact hc
 ·rw [← hd,show l.toNat = 0 from by omega];simp [exs]
 ·exact (h.bel.setCell (p := ⟨w.heap.size,0,none⟩) (Nat.le_refl _) _).setCell (p := ⟨w.heap.size,1,none⟩) (Nat.le_refl _) _
def UwP (S:Nat → Prop) (w:World) (D:List Int) (m:Nat) (e:Ending) (w':World):Prop :=
 ∃ l' y' ao' m' cap' L' Y',e = .returned (.tuple #[.agg #[.int .i64 l',.int .i64 y'],.slice ao' m' cap']) ∧ P2At S w' ao' m' L' Y' ∧ m' ≤ cap' ∧ 2 * m' + pz l' ≤ m ∧ (I64 l' ∧ I64 y') ∧
   List.replicate l'.toNat y' ++ exs L' Y' m' = D ∧ (0 < l' ∨ (l' ≤ 0 ∧ m' = 0)) ∧ Below w.heap.size w w'
theorem UwI.done {S:Nat → Prop} {w:World} {D:List Int} {m:Nat} {wr:World} {l y:Int} {ao:Option Addr} {k cap:Nat} {L Y:Nat → Int} (h:UwI S w D m wr l y ao k cap L Y) (hd:0 < l ∨ (l ≤ 0 ∧ k = 0)) :
  UwP S w D m (.returned (.tuple #[.agg #[.int .i64 l,.int .i64 y],.slice ao k cap])) ((wr.setCell ⟨w.heap.size + 1,0,none⟩ (.int .i64 l)).setCell ⟨w.heap.size + 1,1,none⟩ (.int .i64 y)) := by
 have hg := (put2_all (v0 := .int .i64 l) (v1 := .int .i64 y) h.rs).2.2
 exact ⟨l,y,ao,k,cap,L,Y,rfl,h.at_.keep (fun b i u hs hc => ⟨hs.1,hg.cell hc (fun e => by injection e with e;dsimp only at e;have := hs.2;omega)⟩),h.cap,h.le,h.i64,h.den,hd,h.bel.trans (grown_below hg (by omega) h.bel.size)⟩
structure Side where
 l:Int
 y:Int
 ao:Option Addr
 m:Nat
 cap:Nat
 L:Nat → Int
 Y:Nat → Int
def Side.den (z:Side):List Int := List.replicate z.l.toNat z.y ++ exs z.L z.Y z.m
def Side.mu (z:Side):Nat := 2 * z.m + pz z.l
structure SdAt (n₀:Nat) (W:World) (q:Nat) (z:Side):Prop where
 bx:W.heap[q]? = some (.cells #[.int .i64 z.l,.int .i64 z.y] 61 (0,0))
 at_:P2At (· < n₀) W z.ao z.m z.L z.Y
 cap:z.m ≤ z.cap
 i64:I64 z.l ∧ I64 z.y
theorem SdAt.below {n₀:Nat} {W W':World} {q:Nat} {z:Side} (h:SdAt n₀ W q z) (hb:Below W.heap.size W W'):SdAt n₀ W' q z :=
 ⟨by rw [hb.block _ (Array.getElem?_eq_some_iff.1 h.bx).1];exact h.bx,h.at_.below hb,h.cap,h.i64⟩
theorem SdAt.other {n₀:Nat} {W W':World} {q r:Nat} {z:Side} (h:SdAt n₀ W q z) (hg:W.grownBy W' (some r)) (hr:n₀ ≤ r) (hne:q ≠ r):SdAt n₀ W' q z :=
 ⟨by rw [hg.block _ (Array.getElem?_eq_some_iff.1 h.bx).1 (fun e => by injection e;omega)];exact h.bx,h.at_.keep (fun b i u hs hc => ⟨hs,hg.cell hc (fun e => by injection e with e;dsimp only at e;omega)⟩),h.cap,h.i64⟩
theorem SdAt.put {n₀:Nat} {W:World} {q:Nat} {x0 x1:Value} (hb:W.heap[q]? = some (.cells #[x0,x1] 61 (0,0))) (z:Side) (h:P2At (· < n₀) W z.ao z.m z.L z.Y) (hc:z.m ≤ z.cap) (hi:I64 z.l ∧ I64 z.y) (hq:n₀ ≤ q) :
  SdAt n₀ ((W.setCell ⟨q,0,none⟩ (.int .i64 z.l)).setCell ⟨q,1,none⟩ (.int .i64 z.y)) q z := by
 have hg := (put2_all (v0 := .int .i64 z.l) (v1 := .int .i64 z.y) hb).2.2
 exact ⟨set1_heap (set0_heap hb),h.keep (fun b i u hs hc => ⟨hs,hg.cell hc (fun e => by injection e with e;dsimp only at e;omega)⟩),hc,hi⟩
structure SmI (w:World) (D1 D2:List Int) (W:World) (z1 z2:Side):Prop where
 s1:SdAt w.heap.size W w.heap.size z1
 s2:SdAt w.heap.size W (w.heap.size + 1) z2
 eq:z1.den = z2.den ↔ D1 = D2
 bel:Below w.heap.size w W
theorem SmI.below {w:World} {D1 D2:List Int} {W W':World} {z1 z2:Side} (h:SmI w D1 D2 W z1 z2) (hb:Below W.heap.size W W'):SmI w D1 D2 W' z1 z2 :=
 ⟨h.s1.below hb,h.s2.below hb,h.eq,h.bel.trans (hb.mono h.bel.size)⟩
theorem SmI.one {w:World} {D1 D2:List Int} {W:World} {z1 z2 z:Side} (h:SmI w D1 D2 W z1 z2) (ha:P2At (· < w.heap.size) W z.ao z.m z.L z.Y) (hc:z.m ≤ z.cap) (hi:I64 z.l ∧ I64 z.y) (hd:z.den = z2.den ↔ z1.den = z2.den) :
  SmI w D1 D2 ((W.setCell ⟨w.heap.size,0,none⟩ (.int .i64 z.l)).setCell ⟨w.heap.size,1,none⟩ (.int .i64 z.y)) z z2 := by
 have hg := (put2_all (v0 := .int .i64 z.l) (v1 := .int .i64 z.y) h.s1.bx).2.2
 exact ⟨SdAt.put h.s1.bx z ha hc hi (Nat.le_refl _),h.s2.other hg (Nat.le_refl _) (by omega),hd.trans h.eq,h.bel.trans (grown_below hg (Nat.le_refl _) h.bel.size)⟩
theorem SmI.two {w:World} {D1 D2:List Int} {W:World} {z1 z2 z:Side} (h:SmI w D1 D2 W z1 z2) (ha:P2At (· < w.heap.size) W z.ao z.m z.L z.Y) (hc:z.m ≤ z.cap) (hi:I64 z.l ∧ I64 z.y) (hd:z1.den = z.den ↔ z1.den = z2.den) :
  SmI w D1 D2 ((W.setCell ⟨w.heap.size + 1,0,none⟩ (.int .i64 z.l)).setCell ⟨w.heap.size + 1,1,none⟩ (.int .i64 z.y)) z1 z := by
 have hg := (put2_all (v0 := .int .i64 z.l) (v1 := .int .i64 z.y) h.s2.bx).2.2
 exact ⟨h.s1.other hg (by omega) (by omega),SdAt.put h.s2.bx z ha hc hi (by omega),hd.trans h.eq,h.bel.trans (grown_below hg (by omega) h.bel.size)⟩
def rdL (W:World) (q:Nat):Int := match W.cell? ⟨q,0,none⟩ with | some (.int _ v) => v | _ => 0
def smu (w:World) (va vb:Value) (W:World):Nat := (match va with | .slice _ k _ => 2 * k | _ => 0) + (match vb with | .slice _ k _ => 2 * k | _ => 0) + pz (rdL W w.heap.size) + pz (rdL W (w.heap.size + 1))
theorem SmI.cut {w:World} {D1 D2:List Int} {W:World} {z1 z2:Side} (h:SmI w D1 D2 W z1 z2) (n:Int) (hn:n ≤ z1.l ∧ n ≤ z2.l ∧ 0 ≤ n) (hy:z1.y = z2.y) :
  SmI w D1 D2 ((W.setCell ⟨w.heap.size,0,none⟩ (.int .i64 (z1.l - n))).setCell ⟨w.heap.size + 1,0,none⟩ (.int .i64 (z2.l - n))) { z1 with l := z1.l - n } { z2 with l := z2.l - n } := by
 have g1:W.grownBy (W.setCell ⟨w.heap.size,0,none⟩ (.int .i64 (z1.l - n))) (some w.heap.size) := grown_set _ _ _ _
 have g2 := grown_set (W.setCell ⟨w.heap.size,0,none⟩ (.int .i64 (z1.l - n))) (w.heap.size + 1) 0 (.int .i64 (z2.l - n))
 have a1 := h.s1.i64
 have a2 := h.s2.i64
 have s1':SdAt w.heap.size (W.setCell ⟨w.heap.size,0,none⟩ (.int .i64 (z1.l - n))) w.heap.size { z1 with l := z1.l - n } :=
  ⟨set0_heap h.s1.bx,h.s1.at_.keep (fun b i u hs hc => ⟨hs,g1.cell hc (fun e => by injection e with e;dsimp only at e;omega)⟩),h.s1.cap,⟨by have := a1.1.1;have := a1.1.2;show _ ≤ z1.l - n;omega,by have := a1.1.2;show z1.l - n ≤ _;omega⟩,a1.2⟩
 have s2' := h.s2.other g1 (Nat.le_refl _) (by omega)
 have hd:({ z1 with l := z1.l - n }:Side).den = ({ z2 with l := z2.l - n }:Side).den ↔ z1.den = z2.den := by
  unfold Side.den
  dsimp only
  rw [show z1.l.toNat = n.toNat + (z1.l - n).toNat from by omega,show z2.l.toNat = n.toNat + (z2.l - n).toNat from by omega,← hy,← List.replicate_append_replicate,← List.replicate_append_replicate,List.append_assoc,List.append_assoc,List.append_right_inj]
 refine ⟨s1'.other g2 (by omega) (by omega),⟨set0_heap s2'.bx,s2'.at_.keep (fun b i u hs hc => ⟨hs,g2.cell hc (fun e => by injection e with e;dsimp only at e;omega)⟩),s2'.cap,⟨by have := a2.1.1;have := a2.1.2;show _ ≤ z2.l - n;omega,by have := a2.1.2;show z2.l - n ≤ _;omega⟩,a2.2⟩,hd.trans h.eq,?_⟩
 exact (h.bel.setCell (p := ⟨w.heap.size,0,none⟩) (Nat.le_refl _) _).setCell (p := ⟨w.heap.size + 1,0,none⟩) (by show w.heap.size ≤ w.heap.size + 1;omega) _
theorem take_one (s:List Int) (i:Nat) (h:i < s.length):s.take (i + 1) = s.take i ++ List.replicate 1 (s.getD i 0) := by
 rw [List.take_succ_eq_append_getElem h]
 simp [List.getD,h]
theorem rruns_any (w:World) (b off c:Nat) (s:List Int) (hc:∀ i,i < s.length → w.cell? ⟨b,off + i,none⟩ = some (.int .i64 (s.getD i 0))) (hl:s.length ≤ 65536) (hs:Sok s) :
  Calls Tryz.prog 65 #[.slice (some ⟨b,off,none⟩) s.length c] w fun e w' => ∃ v,e = .returned v ∧ w'.ownsRow w.heap.size 61 2 v (enc s).length (rcs (enc s)) ∧ Below w.heap.size w w' := by
 obtain ⟨i0,hi,hi0,hi1,hi2⟩ := info_parts info_run
 have HC := boxed hc
 have HS := boxed hs
 clear hc hs
 go_enter Tryz.func65,Tryz.ntmps65
 go_wp2_with fail
 go_loopw [3,4] (fun vo vi wr => ∃ (i:Nat) (ao:Option Addr) (cp:Nat),i ≤ s.length ∧ vi = .int .i64 (i:Nat) ∧ vo = .slice ao (enc (s.take i)).length cp ∧ Box (wr.ownsRow w.heap.size 61 2 (.slice ao (enc (s.take i)).length cp) (enc (s.take i)).length (rcs (enc (s.take i)))) ∧ Box (Below w.heap.size w wr)) (fun _ vi _ => s.length - (intOf vi).toNat)
 case atStart => exact ⟨0,none,0,Nat.zero_le _,rfl,rfl,boxed (World.ownsRow_nil _ _ _ _),boxed (Below.refl _ _)⟩
 case round =>
  obtain ⟨i,ao,cp,hin,rfl,rfl,HO,HB⟩ := hrel
  by_cases hlt:i < s.length
  ·have hci := hold HB.out (HC.out i hlt)
   have HT := boxed (take_one s i hlt)
   have hen := enc_len (s.take i)
   have htl:(s.take i).length = i := by simp;omega
   rw [htl] at hen
   have hun:undef = Value.tuple #[] := rfl
   generalize s.getD i 0 = y at *
   by_cases c1:(enc (s.take i)).length = 0
   ·have e1:s.take i = [] := List.length_eq_zero_iff.1 ((enc_nil _).1 c1)
    rw [c1]
    have HO:Box (wr.ownsRow w.heap.size 61 2 (.slice ao 0 cp) 0 []) := boxed (by have := HO.out;rw [e1] at this;exact this)
    have HN:Box ((enc (s.take (i + 1))).length = 0 + 1 ∧ rcs (enc (s.take (i + 1))) = [] ++ [.int .i64 1,.int .i64 y]) := boxed (by rw [HT.out,e1,List.nil_append,enc_add_nil 1 y (by omega)];simp [rcs])
    clear c1 e1 HT hen htl
    go_wp2_with fail
    go_quiet (fail)
    clear hun
    have HB7:Box (Below w.heap.size w (wr.drewN nq)) := boxed (HB.out.trans (bel_drewN _ _ _))
    have hown7:(wr.drewN nq).ownsRow _ _ _ _ _ _ := HO.out
    have hci7:(wr.drewN nq).cell? _ = _ := hci
    have hz7:w.heap.size ≤ (wr.drewN nq).heap.size := HB7.out.size
    generalize wr.drewN nq = w7 at *
    go_wp2_with (at_builtin;refine wpList_append_own _ rfl _ _ 23 rfl w.heap.size 61 i0 _ 2 16 Tryz.underlying23 hi hi0 hi1 hi2 rfl (by decide) _ _ _ rfl (hown7.alloc _) ⟨w7.heap.size,0,none⟩ 1 1 [.int .i64 1,.int .i64 y] rfl rfl ?c1 ?c2 ?c3 ?c4 ?c5 ?_)
    case c1 =>
     intro j u hj
     match j,hj with
     | 0,hj => simp at hj;subst hj;simp [Addr.add]
     | 1,hj => simp at hj;subst hj;simp [Addr.add]
    case c2 => intro u hu;simp at hu;rcases hu with rfl | rfl <;> rfl
    case c3 => unfold maxLen;omega
    case c4 => omega
    case c5 => simp;omega
    intro v' w6 hown6 hgrow6 _
    have HB6:Box (Below w.heap.size w w6) := boxed ((HB7.out.alloc hz7 _).grown hgrow6 (by simp;omega) (fun r e => (owns_ge hown7 r e)))
    have HO6:Box (w6.ownsRow w.heap.size 61 2 v' (enc (s.take (i + 1))).length (rcs (enc (s.take (i + 1))))) := boxed (by rw [HN.out.1,HN.out.2];exact hown6)
    obtain ⟨ao6,cp6,rfl⟩:∃ ao6 cp6,v' = .slice ao6 (enc (s.take (i + 1))).length cp6 := by
     rcases ownsRow_forms HO6.out with ⟨g1,g2⟩ | ⟨g,cap,g1⟩
     ·exact ⟨none,0,by rw [g2];exact g1⟩
     ·exact ⟨_,_,g1⟩
    clear hown6 hgrow6 hown7 HN HB7
    go_wp2_with fail
    go_roundw
    case rel => exact ⟨i + 1,ao6,cp6,by omega,by go_num,rfl,HO6,HB6⟩
    case measure => simp [intOf];omega
   ·obtain ⟨R0,⟨l0,z⟩,hR⟩ := snoc_of (enc (s.take i)) (by omega)
    have hn:(enc (s.take i)).length = R0.length + 1 := by rw [hR];simp
    have hrc:rcs (enc (s.take i)) = rcs R0 ++ [.int .i64 (l0:Nat),.int .i64 z] := by rw [hR,rcs_app];simp [rcs]
    have hpl := rcs_len R0
    have hmb:R0.length ≤ 65536 := by omega
    obtain ⟨g,hg⟩:∃ g,ao = some ⟨g,0,none⟩ := by
     obtain ⟨g,cap',e⟩ := ownsRow_form HO.out (by omega)
     injection e with e1 e2 e3
     exact ⟨g,e1⟩
    subst hg
    have hown := HO.out
    rw [hn,hrc] at hown
    have hlast:(rcs R0 ++ [Value.int .i64 (l0:Nat),Value.int .i64 z])[R0.length * 2 + 1]? = some (.int .i64 z) := by
     rw [List.getElem?_append_right (by omega),hpl];simp
    have hlast0:(rcs R0 ++ [Value.int .i64 (l0:Nat),Value.int .i64 z])[R0.length * 2]? = some (.int .i64 (l0:Nat)) := by
     rw [List.getElem?_append_right (by omega),hpl];simp
    have hx1 := hown.cellAt (R0.length * 2 + 1) (by omega)
    have hx0 := hown.cellAt (R0.length * 2) (by omega)
    rw [hlast] at hx1
    rw [hlast0] at hx0
    have hf0 := hown.frozenAt (R0.length * 2)
    have HO := boxed hown
    have hsm:sm R0 + l0 = i := by have := sm_enc (s.take i);rw [hR,sm_app,htl] at this;simpa [sm] using this
    rw [hn]
    by_cases c2:z = y
    ·subst c2
     have HN:Box ((enc (s.take (i + 1))).length = R0.length + 1 ∧ rcs (enc (s.take (i + 1))) = (rcs R0 ++ [Value.int .i64 (l0:Nat),Value.int .i64 z]).set (R0.length * 2) (.int .i64 ((l0 + 1:Nat):Int))) := boxed (by
      rw [HT.out,enc_add_like _ R0 l0 1 z hR]
      refine ⟨by simp,?_⟩
      rw [List.set_append_right _ _ (by omega),hpl,rcs_app]
      simp [rcs])
     clear hown hlast hlast0 hR hrc hn c1
     generalize R0.length = m at *
     have hwm:IntKind.i64.wrap ((m:Int) + 1 - 1) = (m:Int) := by rw [IntKind.wrap_i64];omega
     have t0:decide ((0:Int) < (m:Int) + 1) = true := decide_eq_true (by omega)
     go_wp2_with fail
     go_quiet (fail)
     clear hun
     have HB7:Box (Below w.heap.size w (wr.drewN nq)) := boxed (HB.out.trans (bel_drewN _ _ _))
     have HO7:Box ((wr.drewN nq).ownsRow _ _ _ _ _ _) := boxed HO.out
     have dx0:(wr.drewN nq).cell? ⟨g,m * 2,none⟩ = some (.int .i64 (l0:Nat)) := hx0
     have df0:(wr.drewN nq).frozen? ⟨g,m * 2,none⟩ = false := hf0
     generalize wr.drewN nq = w7 at *
     have hgB := (HO7.out.lt g rfl).1
     have HO8:Box ((w7.setCell ⟨g,m * 2,none⟩ (.int .i64 ((l0:Int) + 1))).ownsRow w.heap.size 61 2 (.slice (some ⟨g,0,none⟩) (m + 1) cp) (enc (s.take (i + 1))).length (rcs (enc (s.take (i + 1))))) := boxed (by
      rw [HN.out.1,HN.out.2]
      have := (HO7.out.stored (m * 2) (.int .i64 ((l0 + 1:Nat):Int))).1
      simpa using this)
     have HN1:Box ((enc (s.take (i + 1))).length = m + 1) := boxed HN.out.1
     have HO8':Box ((w7.setCell ⟨g,m * 2,none⟩ (.int .i64 ((l0:Int) + 1))).ownsRow w.heap.size 61 2 (.slice (some ⟨g,0,none⟩) (m + 1) cp) (m + 1) (rcs (enc (s.take (i + 1))))) := boxed (by have := HO8.out;rw [HN1.out] at this;exact this)
     have HB8:Box (Below w.heap.size w (w7.setCell ⟨g,m * 2,none⟩ (.int .i64 ((l0:Int) + 1)))) := boxed (HB7.out.setCell (p := ⟨g,m * 2,none⟩) hgB _)
     clear HN HO7 HB7
     go_wp2_with fail
     go_roundw
     case rel => exact ⟨i + 1,some ⟨g,0,none⟩,cp,by omega,by go_num,by rw [HN1.out],by rw [HN1.out];exact HO8',HB8⟩
     case measure => simp [intOf];omega
    ·have HN:Box ((enc (s.take (i + 1))).length = R0.length + 1 + 1 ∧ rcs (enc (s.take (i + 1))) = rcs R0 ++ [Value.int .i64 (l0:Nat),Value.int .i64 z,.int .i64 1,.int .i64 y]) := boxed (by
      rw [HT.out,enc_add_new _ 1 y (by omega) (by rw [hR];simp;exact c2),hR]
      refine ⟨by simp,?_⟩
      rw [rcs_app,rcs_app]
      simp [rcs])
     have tz:(z == y) = false := by simpa using c2
     clear hown hlast hlast0 hR hrc hn c1 c2
     generalize R0.length = m at *
     have hwm:IntKind.i64.wrap ((m:Int) + 1 - 1) = (m:Int) := by rw [IntKind.wrap_i64];omega
     have t0:decide ((0:Int) < (m:Int) + 1) = true := decide_eq_true (by omega)
     go_wp2_with fail
     go_quiet (fail)
     clear hun
     have HB7:Box (Below w.heap.size w (wr.drewN nq)) := boxed (HB.out.trans (bel_drewN _ _ _))
     have hown7:(wr.drewN nq).ownsRow _ _ _ _ _ _ := HO.out
     have hci7:(wr.drewN nq).cell? _ = _ := hci
     have hz7:w.heap.size ≤ (wr.drewN nq).heap.size := HB7.out.size
     generalize wr.drewN nq = w7 at *
     go_wp2_with (at_builtin;refine wpList_append_own _ rfl _ _ 23 rfl w.heap.size 61 i0 _ 2 16 Tryz.underlying23 hi hi0 hi1 hi2 rfl (by decide) _ _ _ rfl (hown7.alloc _) ⟨w7.heap.size,0,none⟩ 1 1 [.int .i64 1,.int .i64 y] rfl rfl ?c1 ?c2 ?c3 ?c4 ?c5 ?_)
     case c1 =>
      intro j u hj
      match j,hj with
      | 0,hj => simp at hj;subst hj;simp [Addr.add]
      | 1,hj => simp at hj;subst hj;simp [Addr.add]
     case c2 => intro u hu;simp at hu;rcases hu with rfl | rfl <;> rfl
     case c3 => unfold maxLen;omega
     case c4 => omega
     case c5 => simp;omega
     intro v' w6 hown6 hgrow6 _
     have HB6:Box (Below w.heap.size w w6) := boxed ((HB7.out.alloc hz7 _).grown hgrow6 (by simp;omega) (fun r e => (owns_ge hown7 r e)))
     have HO6:Box (w6.ownsRow w.heap.size 61 2 v' (enc (s.take (i + 1))).length (rcs (enc (s.take (i + 1))))) := boxed (by rw [HN.out.1,HN.out.2];exact hown6)
     obtain ⟨ao6,cp6,rfl⟩:∃ ao6 cp6,v' = .slice ao6 (enc (s.take (i + 1))).length cp6 := by
      rcases ownsRow_forms HO6.out with ⟨g1,g2⟩ | ⟨g,cap,g1⟩
      ·exact ⟨none,0,by rw [g2];exact g1⟩
      ·exact ⟨_,_,g1⟩
     clear hown6 hgrow6 hown7 HN HB7
     go_wp2_with fail
     go_roundw
     case rel => exact ⟨i + 1,ao6,cp6,by omega,by go_num,rfl,HO6,HB6⟩
     case measure => simp [intOf];omega
  ·obtain rfl:i = s.length := by omega
   have hown := HO.out
   rw [List.take_length] at hown
   have HO2 := boxed hown
   clear hown
   go_wp2_with fail
   go_ret
   exact ⟨.slice ao (enc s).length cp,by show Ending.returned (.slice ao (enc (s.take s.length)).length cp) = _;rw [List.take_length],HO2.out,HB.out⟩
def bkO (off cap k:Nat):Nat := if cap = k then off else off + k
theorem sl_mid (b off N cap k m:Nat) (h:k ≤ m) (hm:m ≤ N) (hc:N ≤ cap) (wx:World):(Instr.slice 33 (.slice (some ⟨b,off,none⟩) N cap) (some (.int .i64 (k:Nat))) (some (.int .i64 (m:Nat))) none).run Tryz.prog wx = .ok (.slice (some ⟨b,bkO off cap k,none⟩) (m - k) (cap - k)) wx := by
 have h2:(0:Int) ≤ (k:Int) := by omega
 have h3:(0:Int) ≤ (m:Int) := by omega
 have h4:¬ cap < m := by omega
 have h5:¬ m < k := by omega
 simp [Instr.slice,Instr.sliceBounds,Instr.sliceBound,asIntOf,run_underlying Tryz.underlying33,go_sem,h2,h3,h4,h5,h]
 unfold bkO
 split <;> simp_all
 split <;> rfl
theorem rruns_mid (N:Nat → Prop) (w:World) (b off cp:Nat) (s:List Int) (h:RfAt N w b off cp s) (k m:Nat) (hk:k ≤ m) (hm:m ≤ s.length) :
  Calls Tryz.prog 65 #[.slice (some ⟨b,bkO off cp k,none⟩) (m - k) (cp - k)] w fun e w' => ∃ v,e = .returned v ∧ w'.ownsRow w.heap.size 61 2 v (enc (sub s k m)).length (rcs (enc (sub s k m))) ∧ Below w.heap.size w w' := by
 have hl := sub_len s k m hm
 have := rruns_any w b (bkO off cp k) (cp - k) (sub s k m) (fun i hi => by
  have hcap := h.cap
  have e:bkO off cp k = off + k := if_neg (by omega)
  have := h.cells (k + i) (by omega)
  rw [e,Nat.add_assoc,this]
  congr 2
  simp only [List.getD]
  rw [sub_get,if_pos (by omega)]) (by have := h.len;omega) (fun y hy => h.ok y (sub_mem s k m y hy))
 rw [hl] at this
 exact this
theorem exr_part (L Y : Nat → Int) (m i : Nat) (h : i ≤ m) : (exr L Y i).length ≤ (exr L Y m).length := by
  induction m with
  | zero => obtain rfl : i = 0 := by omega
            exact Nat.le_refl _
  | succ m ih =>
    by_cases c : i = m + 1
    · subst c; exact Nat.le_refl _
    · have := ih (by omega)
      simp only [exr, List.length_append]
      omega
theorem rstyles_any (w:World) (ro:Option Addr) (m rc:Nat) (L Y:Nat → Int) (h:P2At (fun _ => True) w ro m L Y) (hm:m ≤ 65536) (hL:(exr L Y m).length ≤ 65536) :
  Calls Tryz.prog 64 #[.slice ro m rc] w fun e w' => ∃ v,e = .returned v ∧ w'.ownsRow w.heap.size 3 1 v (exr L Y m).length (ints (exr L Y m)) ∧ Below w.heap.size w w' := by
 obtain ⟨i0,hi,hi0,hi1,hi2⟩ := info_parts info_int
 have HP := boxed h
 have HE := boxed (fun i (h:i ≤ m) => exr_part L Y m i h)
 clear h
 go_enter Tryz.func64,Tryz.ntmps64
 go_wp2_with fail
 go_loopw [3,4] (fun vo vi wr => ∃ (i:Nat) (ao:Option Addr) (cp:Nat),i ≤ m ∧ vi = .int .i64 (i:Nat) ∧ vo = .slice ao (exr L Y i).length cp ∧ Box (wr.ownsRow w.heap.size 3 1 (.slice ao (exr L Y i).length cp) (exr L Y i).length (ints (exr L Y i))) ∧ Box (Below w.heap.size w wr)) (fun _ vi _ => m - (intOf vi).toNat)
 case atStart => exact ⟨0,none,0,Nat.zero_le _,rfl,rfl,boxed (World.ownsRow_nil _ _ _ _),boxed (Below.refl _ _)⟩
 case round =>
  obtain ⟨i,ao,cp,hin,rfl,rfl,HO,HB⟩ := hrel
  by_cases hlt:i < m
  ·obtain ⟨lbk,loff,rfl,-⟩ := HP.out.form (by omega)
   obtain ⟨s,hs⟩:∃ s,exr L Y i = s := ⟨_,rfl⟩
   have HT:Box (exr L Y (i + 1) = s ++ List.replicate (L i).toNat (Y i)) := boxed (by rw [← hs];rfl)
   have hE1 := HE.out (i + 1) (by omega)
   rw [HT.out] at hE1
   simp only [List.length_append,List.length_replicate] at hE1
   rw [hs] at HO ⊢
   have HG := boxed (fun W (hb:Below w.heap.size w W) => (HP.out.below hb).get i hlt)
   obtain ⟨l,hl⟩:∃ l,L i = l := ⟨_,rfl⟩
   obtain ⟨y,hy⟩:∃ y,Y i = y := ⟨_,rfl⟩
   rw [hl,hy] at HG HT
   rw [hl] at hE1
   obtain ⟨k,hk⟩:∃ k,s.length = k := ⟨_,rfl⟩
   rw [hk] at HO hE1 ⊢
   have HK := boxed hk
   clear hs hl hy hk HE
   have hun:undef = Value.tuple #[] := rfl
   obtain ⟨c0,c1⟩ := HG.out _ HB.out
   go_wp2_with fail
   clear hun
   go_loopw [3,5] (fun vo vn w2 => ∃ (q:Nat) (ao:Option Addr) (cp:Nat),q ≤ l.toNat ∧ vn = .int .i64 (q:Nat) ∧ vo = .slice ao (k + q) cp ∧ Box (w2.ownsRow w.heap.size 3 1 (.slice ao (k + q) cp) (k + q) (ints (s ++ List.replicate q y))) ∧ Box (Below w.heap.size w w2)) (fun _ vn _ => l.toNat - (intOf vn).toNat)
   case atStart => exact ⟨0,ao,cp,Nat.zero_le _,rfl,rfl,by simpa using HO,HB⟩
   case round =>
    clear c0 c1 HO HB
    obtain ⟨q,ao,cp,hq,rfl,rfl,HO,HB⟩ := hrel
    obtain ⟨c0,c1⟩ := HG.out _ HB.out
    by_cases hql:(q:Int) < l
    ·have t1:decide ((q:Int) < l) = true := decide_eq_true hql
     have hown := HO.out
     have hz := HB.out.size
     go_wp2_with (at_builtin;refine wpList_append_own _ rfl _ _ 33 rfl w.heap.size 3 i0 _ 1 8 Tryz.underlying33 hi hi0 hi1 hi2 rfl (by decide) _ _ _ rfl (hown.alloc _) ⟨wr.heap.size,0,none⟩ 1 1 [.int .i64 y] rfl rfl ?c1 ?c2 ?c3 ?c4 ?c5 ?_)
     case c1 =>
      intro j u hj
      match j,hj with
      | 0,hj => simp at hj;subst hj;simp [Addr.add]
     case c2 => intro u hu;simp at hu;subst hu;rfl
     case c3 => unfold maxLen;omega
     case c4 => omega
     case c5 => simp;omega
     intro v' w6 hown6 hgrow6 _
     have HB6:Box (Below w.heap.size w w6) := boxed ((HB.out.alloc hz _).grown hgrow6 (by simp;omega) (fun r e => (owns_ge hown r e)))
     have e6:ints (s ++ List.replicate q y) ++ [.int .i64 y] = ints (s ++ List.replicate (q + 1) y) := by rw [List.replicate_succ',← List.append_assoc,ints_app _ [y]];rfl
     rw [e6] at hown6
     obtain ⟨ao6,cp6,rfl⟩:∃ ao6 cp6,v' = .slice ao6 (k + q + 1) cp6 := by
      rcases ownsRow_forms hown6 with ⟨g1,g2⟩ | ⟨g,cap,g1⟩
      ·exact ⟨none,0,by rw [g2];exact g1⟩
      ·exact ⟨_,_,g1⟩
     have HO6 := boxed hown6
     clear hown6 hgrow6 hown e6 HO HB
     go_wp2_with fail
     go_roundw
     case rel => exact ⟨q + 1,ao6,cp6,by omega,by go_num,rfl,HO6,HB6⟩
     case measure => simp [intOf];omega
    ·have t1:decide ((q:Int) < l) = false := decide_eq_false hql
     have hq2:q = l.toNat := by omega
     have HO2:Box (wr.ownsRow w.heap.size 3 1 (.slice ao (exr L Y (i + 1)).length cp) (exr L Y (i + 1)).length (ints (exr L Y (i + 1)))) := boxed (by
      rw [HT.out,← hq2]
      simp only [List.length_append,List.length_replicate]
      rw [HK.out]
      exact HO.out)
     have HN:Box ((exr L Y (i + 1)).length = k + q) := boxed (by rw [HT.out,← hq2];simp [HK.out])
     clear HO
     go_wp2_with fail
     go_roundw
     case rel => exact ⟨i + 1,ao,cp,by omega,by go_num,by rw [HN.out],HO2,HB⟩
     case measure => simp [intOf];omega
  ·obtain rfl:m = i := by omega
   go_wp2
   go_ret
   exact ⟨_,rfl,HO.out,HB.out⟩
end Go.Proofs.YtcjcdpfjnomehaaGreat.Ru
