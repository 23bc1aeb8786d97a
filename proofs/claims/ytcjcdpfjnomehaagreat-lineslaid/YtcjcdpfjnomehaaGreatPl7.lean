/- What the document's bare and Compare answer: bare: the same number without noughts at the end, in new memory; Compare -/
import Derived.Laws.AppendOwnNone
import Derived.Test.YtcjcdpfjnomehaaGreatPl1
import Derived.Test.YtcjcdpfjnomehaaGreatPl0
namespace Go.Proofs.YtcjcdpfjnomehaaGreat
set_option maxRecDepth 100000
set_option maxHeartbeats 40000000
open Go.RowKit
set_option linter.unusedSimpArgs false
set_option linter.unusedVariables false
theorem vl_zeros (l:List Nat) (k:Nat) (hk:k ≤ l.length) (h:∀ j,k ≤ j → j < l.length → l.getD j 0 = 0):vl (l.take k) = vl l := by
 have h1 := vl_split l k hk
 have h2:vl (l.drop k) = 0 := by
  have:∀ (m:List Nat),(∀ d ∈ m,d = 0) → vl m = 0 := by
   intro m
   induction m with
   | nil => intro _;rfl
   | cons d r ih => intro h;simp only [vl];rw [h d (List.mem_cons_self),ih (fun x hx => h x (List.mem_cons_of_mem _ hx))]
  apply this
  intro d hd
  obtain ⟨i,hi,rfl⟩ := List.getElem_of_mem hd
  simp only [List.length_drop] at hi
  have := h (k + i) (by omega) (by omega)
  rw [List.getElem_drop]
  rw [getD_at _ _ (by omega)] at this
  exact this
 rw [h2] at h1;omega
theorem bare_any (ao:Option Addr) (cap:Nat) (l:List Nat) (w:World) (hd:Dg w ao cap l) (hl:l.length ≤ 1000) (hs:∀ d ∈ l,d < 1000) :
  Calls Tryz.prog 208 #[.slice ao l.length cap] w fun e w' => ∃ ao cap r,e = .returned (.slice ao r.length cap) ∧ Dg w' ao cap r ∧ Cn r ∧ vl r = vl l ∧ Below w.heap.size w w' := by
 obtain ⟨i0,hi,hz0,hz1,hz2x⟩ := info_parts info_int
 obtain ⟨⟨hc1,hc2⟩,hd⟩ := hd
 unfold maxLen at hc2
 have HD := hid hd
 have HS := hid hs
 clear hd hs
 go_enter Tryz.func208,Tryz.ntmps208
 go_wp2
 go_loop [3] (fun t => ∃ k:Nat,k ≤ l.length ∧ t = .int .i64 k ∧ Hid (∀ j,k ≤ j → j < l.length → l.getD j 0 = 0)) (fun t => (intOf t).toNat)
 case atStart => exact ⟨l.length,Nat.le_refl _,rfl,fun j h1 h2 => by omega⟩
 case round =>
  obtain ⟨k,hk,rfl,HZ⟩ := hrel
  by_cases h0:k = 0
  ·subst h0
   have hlt:¬ ((0:Nat):Int) > 0 := by omega
   cases ao with
   | none =>
    go_wp2
    go_ret
    exact ⟨some ⟨w.heap.size,0,none⟩,0,[],rfl,⟨⟨Nat.le_refl _,by unfold maxLen;omega⟩,Or.inl rfl⟩,⟨by simp,by simp⟩,(vl_zeros l 0 (by omega) HZ.out),(Below.refl _ _).alloc (Nat.le_refl _) _⟩
   | some ad =>
    go_wp2
    go_ret
    exact ⟨some ⟨w.heap.size,0,none⟩,0,[],rfl,⟨⟨Nat.le_refl _,by unfold maxLen;omega⟩,Or.inl rfl⟩,⟨by simp,by simp⟩,(vl_zeros l 0 (by omega) HZ.out),(Below.refl _ _).alloc (Nat.le_refl _) _⟩
  ·rcases HD.out with h | ⟨b,off,rfl,hb,hcell⟩
   ·exfalso;rw [h] at hk;simp at hk;omega
   have hc := hcell (k - 1) (by omega)
   by_cases hz:l.getD (k - 1) 0 = 0
   ·rw [hz] at hc
    clear hcell
    have HZ2 := hid hz
    clear hz
    go_wp2
    go_round
    case rel =>
     refine ⟨k - 1,by omega,by go_num,fun j h1 h2 => ?_⟩
     by_cases e:j = k - 1
     ·rw [e];exact HZ2.out
     ·exact HZ.out j (by omega) h2
    case measure => simp [intOf];omega
   ·have hz2:(((l.getD (k - 1) 0:Nat):Int) == 0) = false := by simpa using hz
    have HC := hid hcell
    clear hcell
    have HZ2 := hid hz
    clear hz
    generalize he:l.getD (k - 1) 0 = dd at *
    have HE := hid he
    clear he
    have hown0:(w.alloc (.cells #[] 3)).ownsRow w.heap.size 3 1 (.slice (some ⟨w.heap.size,0,none⟩) 0 0) 0 [] := World.ownsRow_lit w #[] 0 (Nat.le_refl _) (by unfold maxLen;omega) (by simp)
    have HO := hid hown0
    clear hown0
    go_wp2_with (at_builtin;refine wpList_append_own _ rfl _ _ 252 rfl w.heap.size 3 i0 (.int .i64 0) 1 8 Tryz.underlying252 hi hz0 hz1 hz2x rfl (by decide) _ _ _ rfl HO.out ⟨b,off,none⟩ k cap (vals (l.take k)) rfl ?c0 ?c1 ?c2 ?c3 ?c4 ?c5 ?_)
    case c0 => rw [vals_len,List.length_take];omega
    case c1 =>
     intro j u hj
     have hjl:j < (l.take k).length := by
      by_cases c:j < (l.take k).length
      ·exact c
      ·rw [List.getElem?_eq_none (by rw [vals_len];omega)] at hj;cases hj
     rw [vals_get _ _ hjl] at hj
     simp only [Option.some.injEq] at hj
     subst hj
     have hjk:j < k := by rw [List.length_take] at hjl;omega
     rw [HC.out j (by omega)]
     simp [hjk]
    case c2 =>
     intro u hu
     simp only [vals,List.mem_map] at hu
     obtain ⟨d,_,rfl⟩ := hu
     rfl
    case c3 => unfold maxLen;omega
    case c4 => omega
    intro v' w1 hown' hgrow _
    have hb1:Below w.heap.size w w1 := ((Below.refl _ _).alloc (Nat.le_refl _) _).grown hgrow (by simp) (fun q hq => by simp [Value.ownBlock] at hq;omega)
    obtain ⟨hkl,ao',cap',hv',hd'⟩ := dg_of_owns hown'
    subst hv'
    clear hown' hgrow
    go_wp2
    go_ret
    refine ⟨ao',cap',l.take k,rfl,hd',⟨fun d h => HS.out d (List.mem_of_mem_take h),fun hp => ?_⟩,vl_zeros l k hk HZ.out,hb1⟩
    have e1:(l.take k).length = k := by rw [List.length_take];omega
    have e2:(l.take k)[(l.take k).length - 1] = dd := by
     rw [List.getElem_take,← HE.out,getD_at _ _ (by omega)]
     simp only [e1]
    rw [e2]
    exact HZ2.out
def cp (x y:Nat):Int := if x < y then -1 else if y < x then 1 else 0
theorem cp_lt {x y:Nat} (h:x < y):cp x y = -1 := by simp [cp,h]
theorem cp_gt {x y:Nat} (h:y < x):cp x y = 1 := by unfold cp;rw [if_neg (by omega),if_pos h]
theorem cp_eq {x y:Nat} (h:x = y):cp x y = 0 := by unfold cp;rw [if_neg (by omega),if_neg (by omega)]
theorem drop_eq_step (a b:List Nat) (k:Nat) (hl:a.length = b.length) (hk:k < a.length) (h:a.drop (k + 1) = b.drop (k + 1)) (e:a.getD k 0 = b.getD k 0):a.drop k = b.drop k := by
 rw [getD_at _ _ hk,getD_at _ _ (by omega)] at e
 rw [List.drop_eq_getElem_cons hk,List.drop_eq_getElem_cons (by omega:k < b.length),h,e]
theorem compare_any (ao1:Option Addr) (cap1:Nat) (l1:List Nat) (ao2:Option Addr) (cap2:Nat) (l2:List Nat) (w:World)
  (hd1:Dg w ao1 cap1 l1) (hl1:l1.length ≤ 1000) (hs1:∀ d ∈ l1,d < 1000) (hd2:Dg w ao2 cap2 l2) (hl2:l2.length ≤ 1000) (hs2:∀ d ∈ l2,d < 1000) :
  Calls Tryz.prog 182 #[.slice ao1 l1.length cap1,.slice ao2 l2.length cap2] w fun e w' => e = .returned (.int .i64 (cp (vl l1) (vl l2))) ∧ Below w.heap.size w w' := by
 have HD1 := hid hd1
 have HD2 := hid hd2
 have HS1 := hid hs1
 have HS2 := hid hs2
 clear hd1 hd2 hs1 hs2
 go_enter Tryz.func182,Tryz.ntmps182
 go_wp2_with fail
 refine (bare_any ao1 cap1 l1 _ HD1.out hl1 HS1.out).mono ?_
 rintro e w1 ⟨b1,c1,r1,rfl,hd1,hc1,hv1,hb1⟩
 have HE1 := hid hd1
 have HC1 := hid hc1
 have HV1 := hid hv1
 clear hd1 hc1 hv1
 go_wp2_with fail
 refine (bare_any ao2 cap2 l2 _ (HD2.out.below hb1) hl2 HS2.out).mono ?_
 rintro e w2 ⟨b2,c2,r2,rfl,hd2,hc2,hv2,hb2⟩
 have hd1 := HE1.out.below hb2
 have HB:Hid (Below w.heap.size w w2) := hb1.trans (hb2.mono hb1.size)
 have HC2 := hid hc2
 have HV2 := hid hv2
 obtain ⟨⟨n1,m1⟩,hd1⟩ := hd1
 obtain ⟨⟨n2,m2⟩,hd2⟩ := hd2
 have HX1 := hid hd1
 have HX2 := hid hd2
 clear hd1 hd2 hc2 hv2 HE1 hb1 hb2 HD1 HD2
 unfold maxLen at m1 m2
 rcases Nat.lt_trichotomy r1.length r2.length with h | h | h
 ·have hne:((r1.length:Int) != (r2.length:Int)) = true := by simp;omega
  go_wp2_with fail
  go_ret
  refine ⟨ret_int ?_,HB.out⟩
  rw [← HV1.out,← HV2.out,cp_lt (HC1.out.shorter HC2.out h)]
 ·have hne:((r1.length:Int) != (r2.length:Int)) = false := by simp [h]
  have HL := hid h
  have h1:r2.length ≤ r1.length := by omega
  have h2:r1.length ≤ r2.length := by omega
  clear h
  go_wp2_with fail
  go_loopw [5] (fun t wr => ∃ (k n:Nat),k ≤ r1.length ∧ t = .int .i64 ((k:Int) - 1) ∧ Hid (r1.drop k = r2.drop k) ∧ wr = w2.drewN n) (fun t _ => (intOf t + 1).toNat)
  case atStart => exact ⟨r1.length,0,Nat.le_refl _,rfl,(by show _ = _;rw [List.drop_of_length_le (Nat.le_refl _),List.drop_of_length_le (by omega)]),rfl⟩
  case round =>
   obtain ⟨k,n,hk,rfl,HK,rfl⟩ := hrel
   by_cases h0:k = 0
   ·have hlt:((k:Int) - 1) < 0 := by omega
    go_wp2_with fail
    go_ret
    refine ⟨ret_int ?_,(HB.out.trans (bel_drewN _ _ _))⟩
    have := HK.out
    rw [h0,List.drop_zero,List.drop_zero] at this
    rw [← HV1.out,← HV2.out,cp_eq (by rw [this])]
   ·rcases HX1.out with h | ⟨g1,o1,e1,q1,cc1⟩
    ·exfalso;rw [h] at hk;simp at hk;omega
    have hkk:k ≤ r2.length := by have := HL.out;omega
    rcases HX2.out with h | ⟨g2,o2,e2,q2,cc2⟩
    ·exfalso;rw [h] at hkk;simp at hkk;omega
    subst e1 e2
    have f1 := cc1 (k - 1) (by omega)
    have f2 := cc2 (k - 1) (by omega)
    clear cc1 cc2
    have HK':Hid (r1.drop (k - 1 + 1) = r2.drop (k - 1 + 1)) := by rw [show k - 1 + 1 = k by omega];exact HK
    have HD:Hid (∀ (h1:k - 1 < r1.length) (h2:k - 1 < r2.length),r1[k - 1] < r2[k - 1] ↔ r1.getD (k - 1) 0 < r2.getD (k - 1) 0) := by
     intro h1 h2;rw [getD_at _ _ h1,getD_at _ _ h2]
    have HD2:Hid (∀ (h1:k - 1 < r1.length) (h2:k - 1 < r2.length),r2[k - 1] < r1[k - 1] ↔ r2.getD (k - 1) 0 < r1.getD (k - 1) 0) := by
     intro h1 h2;rw [getD_at _ _ h1,getD_at _ _ h2]
    have HD3:Hid (r1.getD (k - 1) 0 = r2.getD (k - 1) 0 → r1.drop (k - 1) = r2.drop (k - 1)) := drop_eq_step r1 r2 (k - 1) HL.out (by omega) HK'.out
    generalize r1.getD (k - 1) 0 = x at *
    generalize r2.getD (k - 1) 0 = y at *
    rcases Nat.lt_trichotomy x y with g | g | g
    ·have g':(x:Int) < (y:Int) := by omega
     go_wp2_with fail
     go_quiet (fail)
     go_wp2_with fail
     go_ret
     refine ⟨ret_int ?_,(HB.out.trans (bel_drewN _ _ _)).trans (bel_drewN _ _ _)⟩
     rw [← HV1.out,← HV2.out,cp_lt (vl_less HC1.out.1 (k - 1) HL.out (by omega) HK'.out ((HD.out (by omega) (by omega)).2 g))]
    ·subst g
     go_wp2_with fail
     go_quiet (fail)
     go_wp2_with fail
     go_quiet (fail)
     go_wp2_with fail
     go_roundw
     case rel => exact ⟨k - 1,_,by omega,by go_num,HD3.out (by trivial),rfl⟩
     case measure => simp [intOf];omega
    ·have g':(y:Int) < (x:Int) := by omega
     go_wp2_with fail
     go_quiet (fail)
     go_wp2_with fail
     go_quiet (fail)
     go_wp2_with fail
     go_ret
     refine ⟨ret_int ?_,((HB.out.trans (bel_drewN _ _ _)).trans (bel_drewN _ _ _)).trans (bel_drewN _ _ _)⟩
     rw [← HV1.out,← HV2.out,cp_gt (vl_less HC2.out.1 (k - 1) HL.out.symm (by omega) HK'.out.symm ((HD2.out (by omega) (by omega)).2 g))]
 ·have hne:((r1.length:Int) != (r2.length:Int)) = true := by simp;omega
  go_wp2_with fail
  go_ret
  refine ⟨ret_int ?_,HB.out⟩
  rw [← HV1.out,← HV2.out,cp_gt (HC2.out.shorter HC1.out h)]
theorem vals_set (l:List Nat) (j x:Nat):(vals l).set j (.int .i64 (x:Int)) = vals (l.set j x) := by simp [vals,List.map_set]
theorem made_zero (n:Nat):(madeCells #[Value.int .i64 0] n).toList = vals (List.replicate n 0) := by
 rw [toList_madeCells_one]
 simp [vals]
theorem cell_of {w:World} {base g n:Nat} {l:List Nat} (h:w.ownsRow base 3 1 (.slice (some ⟨g,0,none⟩) n n) n (vals l)) (hl:l.length = n) (j:Nat) (hj:j < n) :
  w.cell? ⟨g,j,none⟩ = some (.int .i64 ((l.getD j 0:Nat):Int)) := by
 rw [h.cellAt j (by omega),vals_get l j (by omega)]
theorem store_one {w:World} {G n:Nat} {o:List Nat} (h:w.ownsRow G 3 1 (.slice (some ⟨G,0,none⟩) n n) n (vals o)) (p a:Nat) (V:Int) (e:V = (a:Int)) :
  (w.setCell ⟨G,p,none⟩ (.int .i64 V)).ownsRow G 3 1 (.slice (some ⟨G,0,none⟩) n n) n (vals (o.set p a)) := by
 subst e
 rw [← vals_set]
 exact (h.stored p _).1
theorem times_any (ao1:Option Addr) (cap1:Nat) (a:List Nat) (ao2:Option Addr) (cap2:Nat) (b:List Nat) (w:World)
  (hd1:Dg w ao1 cap1 a) (hl1:a.length ≤ 400) (hs1:∀ d ∈ a,d < 1000) (hd2:Dg w ao2 cap2 b) (hl2:b.length ≤ 400) (hs2:∀ d ∈ b,d < 1000) :
  Calls Tryz.prog 180 #[.slice ao1 a.length cap1,.slice ao2 b.length cap2] w fun e w' => ∃ ao cap r,e = .returned (.slice ao r.length cap) ∧ Dg w' ao cap r ∧ Cn r ∧ vl r = vl a * vl b ∧ Below w.heap.size w w' := by
 obtain ⟨i0,hi,hz0,hz1,hz2⟩ := info_parts info_int
 have HD1 := hid hd1
 have HD2 := hid hd2
 have HS1 := hid hs1
 have HS2 := hid hs2
 clear hd1 hd2 hs1 hs2
 go_enter Tryz.func180,Tryz.ntmps180
 go_wp2_with (at_make;refine wpList_make_full _ rfl _ _ 252 rfl w.heap.size 3 i0 (.int .i64 0) 1 Tryz.underlying252 hi hz0 hz1 .i64 .i64 _ _ (a.length + b.length + 1) rfl rfl (by omega) (by omega) (by rw [hz2];omega) (by unfold maxLen;omega) (Nat.le_refl _) ?_)
 intro w1 hown hgrow
 rw [made_zero] at hown
 have hb1:Below w.heap.size w w1 := (Below.refl _ _).grown hgrow (Nat.le_refl _) (fun q hq => by cases hq)
 have HB1 := hid hb1
 have HO1 := hid hown
 clear hb1 hown hgrow
 generalize hn:a.length + b.length + 1 = n at *
 have HN := hid hn
 have hn1:n ≤ 801 := by omega
 generalize hG:w.heap.size = G at *
 have HG := hid hG
 clear hn hG
 go_wp2_with fail
 go_loopw [6] (fun t wr => ∃ (i:Nat) (o:List Nat),i ≤ a.length ∧ t = .int .i64 i ∧ Hid (wr.ownsRow G 3 1 (.slice (some ⟨G,0,none⟩) n n) n (vals o)) ∧ Hid (Below G w wr) ∧ Hid (InO a b i o)) (fun t _ => a.length - (intOf t).toNat)
 case atStart => exact ⟨0,_,Nat.zero_le _,rfl,HO1,HB1,(by have h := InO.first a b;rw [HN.out] at h;exact h)⟩
 case round =>
  obtain ⟨i,o,hia,rfl,HO,HB,HI⟩ := hrel
  by_cases hlt:i < a.length
  ·go_wp2_with fail
   go_loopw [7] (fun t wr => ∃ (k:Nat) (o:List Nat),k ≤ b.length ∧ t = .int .i64 k ∧ Hid (wr.ownsRow G 3 1 (.slice (some ⟨G,0,none⟩) n n) n (vals o)) ∧ Hid (Below G w wr) ∧ Hid (InI a b i k o)) (fun t _ => b.length - (intOf t).toNat)
   case atStart => exact ⟨0,o,Nat.zero_le _,rfl,HO,HB,HI.out.enter⟩
   case round =>
    clear HO HB HI o
    obtain ⟨k,o,hkb,rfl,HO,HB,HI⟩ := hrel
    by_cases hkt:k < b.length
    ·rcases HD1.out.2 with h | ⟨g1,o1,e1,q1,cc1⟩
     ·exfalso;rw [h] at hlt;simp at hlt
     rcases HD2.out.2 with h | ⟨g2,o2,e2,q2,cc2⟩
     ·exfalso;rw [h] at hkt;simp at hkt
     subst e1 e2
     have hnn:a.length + b.length + 1 ≤ n := by have := HN.out;omega
     have f1 := (HB.out.cell (p := ⟨g1,o1 + i,none⟩) (by have := HG.out;simp only;omega)).trans (cc1 i hlt)
     have f2 := (HB.out.cell (p := ⟨g2,o2 + k,none⟩) (by have := HG.out;simp only;omega)).trans (cc2 k hkt)
     have hol:o.length = n := by have := HI.out.len;have := HN.out;omega
     have f3 := cell_of HO.out hol (i + k) (by omega)
     have f4 := cell_of HO.out hol (i + k + 1) (by omega)
     have z3 := HO.out.frozenAt (i + k)
     have z4 := HO.out.frozenAt (i + k + 1)
     have HX := hid (mul_le_dig _ _ (getD_dig HS1.out i) (getD_dig HS2.out k))
     have hm := HI.out.mid
     have hlo := HI.out.low (i + k + 1) (by omega)
     have HNX := hid (HI.out.next hlt hkt HS1.out HS2.out)
     unfold stp at HNX
     have HL := hid hol
     clear cc1 cc2 hol
     generalize a.getD i 0 = x at *
     generalize b.getD k 0 = y at *
     generalize o.getD (i + k) 0 = u at *
     generalize o.getD (i + k + 1) 0 = v at *
     have hxy:(0:Int) ≤ (x:Int) * (y:Int) ∧ (x:Int) * (y:Int) ≤ 998001 := by
      have := HX.out
      rw [← Int.natCast_mul];omega
     go_wp2_with fail
     go_region
     go_wp2_with fail
     go_region
     go_wp2_with fail
     go_roundw
     case rel =>
      refine ⟨k + 1,_,by omega,by go_num,?_,?_,HNX⟩
      ·exact store_one (store_one (store_one HO.out (i + k) (u + x * y) _ (by rw [← Int.natCast_mul];omega)) (i + k + 1) (v + (u + x * y) / 1000) _ (by rw [← Int.natCast_mul];omega)) (i + k) ((u + x * y) % 1000) _ (by rw [← Int.natCast_mul];omega)
      ·show Below G w _
       refine (Below.setCell (Below.setCell (Below.setCell HB.out ?_ _) ?_ _) ?_ _).drew.drew <;> exact Nat.le_refl _
     case measure => simp [intOf];omega
    ·have e:k = b.length := by omega
     have HI2 := hid (by rw [e] at HI;exact HI.out.leave hlt:InO a b (i + 1) o)
     clear HI
     go_wp2_with fail
     go_roundw
     case rel => exact ⟨i + 1,o,by omega,by go_num,HO,HB,HI2⟩
     case measure => simp [intOf];omega
  ·have e:i = a.length := by omega
   have HT := hid (by rw [e] at HI;exact HI.out.last:InT (a.length + b.length + 1) (vl a * vl b) 0 o)
   rw [HN.out] at HT
   clear HI e
   go_wp2_with fail
   go_loopw [8] (fun t wr => ∃ (j:Nat) (o:List Nat),j + 1 ≤ n ∧ t = .int .i64 j ∧ Hid (wr.ownsRow G 3 1 (.slice (some ⟨G,0,none⟩) n n) n (vals o)) ∧ Hid (Below G w wr) ∧ Hid (InT n (vl a * vl b) j o)) (fun t _ => n - (intOf t).toNat)
   case atStart => exact ⟨0,o,by have := HN.out;omega,rfl,HO,HB,HT⟩
   case round =>
    clear HO HB HT o
    obtain ⟨j,o,hj,rfl,HO,HB,HT⟩ := hrel
    by_cases hjt:j + 1 < n
    ·have hol:o.length = n := HT.out.len
     have f3 := cell_of HO.out hol j (by omega)
     have f4 := cell_of HO.out hol (j + 1) (by omega)
     have z3 := HO.out.frozenAt j
     have z4 := HO.out.frozenAt (j + 1)
     have hm := HT.out.here
     have hlo := HT.out.rest (j + 1) (by omega)
     have HNX := hid (HT.out.next hjt)
     unfold stq at HNX
     clear hol
     generalize o.getD j 0 = u at *
     generalize o.getD (j + 1) 0 = v at *
     go_wp2_with fail
     go_region
     go_wp2_with fail
     go_roundw
     case rel =>
      refine ⟨j + 1,_,by omega,by go_num,?_,?_,HNX⟩
      ·exact store_one (store_one HO.out (j + 1) (v + u / 1000) _ (by omega)) j (u % 1000) _ (by omega)
      ·show Below G w _
       refine (Below.setCell (Below.setCell HB.out ?_ _) ?_ _).drew <;> exact Nat.le_refl _
     case measure => simp [intOf];omega
    ·have e:j = a.length + b.length := by have := HN.out;omega
     have HA:Hid (∀ d ∈ o,d < 1000) := by
      have h := HT.out
      rw [e,← HN.out] at h
      exact InT.all HS1.out HS2.out h
     have hol:o.length = n := HT.out.len
     obtain ⟨_,ao,cap,hv,hd⟩ := dg_of_owns HO.out
     simp only [Value.slice.injEq] at hv
     have HD:Hid (Dg wr (some ⟨G,0,none⟩) n o) := by
      obtain ⟨e1,e2,e3⟩ := hv
      rw [e1,e3];exact hd
     clear hv hd e
     have HL := hid hol
     clear hol
     go_wp2_with fail
     rw [← HL.out]
     refine (bare_any _ _ o _ (by rw [HL.out];exact HD.out) (by have := HL.out;omega) HA.out).mono ?_
     rintro e w2 ⟨ao',cap',r,rfl,hd',hc',hv',hb'⟩
     go_wp2_with fail
     go_ret
     refine ⟨ao',cap',r,rfl,hd',hc',?_,?_⟩
     ·rw [hv'];exact HT.out.val
     ·rw [HG.out];exact HB.out.trans (hb'.mono (by have := HB.out.size;have := HG.out;omega))
theorem vl_drop_le (l:List Nat) (k:Nat):vl (l.drop k) ≤ vl l := by
 by_cases h:k ≤ l.length
 ·have h1 := vl_split l k h
  have h2:1 * vl (l.drop k) ≤ 1000 ^ k * vl (l.drop k) := Nat.mul_le_mul_right _ (Nat.pow_pos (by omega))
  omega
 ·rw [List.drop_of_length_le (by omega)];simp [vl]
theorem vl_drop (l:List Nat) (k:Nat) (h:k < l.length):vl (l.drop k) = vl (l.drop (k + 1)) * 1000 + l.getD k 0 := by
 rw [List.drop_eq_getElem_cons h,getD_at _ _ h]
 simp only [vl]
 omega
theorem back_any (ao:Option Addr) (cap:Nat) (l:List Nat) (w:World) (hd:Dg w ao cap l) (hl:l.length ≤ 1000) (hs:∀ d ∈ l,d < 1000) :
  Calls Tryz.prog 185 #[.slice ao l.length cap] w fun e w' => e = .returned (.int .i64 ((min (vl l) 1152921504606846976:Nat):Int)) ∧ Below w.heap.size w w' := by
 have HD := hid hd
 have HS := hid hs
 clear hd hs
 go_enter Tryz.func185,Tryz.ntmps185
 go_wp2_with fail
 refine (of_any _ _).mono ?_
 rintro e w1 ⟨ao1,cap1,r,rfl,hd1,hc1,hv1,hb1⟩
 have HE1 := hid hd1
 have HC1 := hid hc1
 have hv1:vl r = 1152921504606846976 := by rw [hv1];decide
 have hr:r.length ≤ 7 := hc1.len 7 (by rw [hv1];decide)
 have HV1 := hid hv1
 have HB1 := hid hb1
 clear hd1 hc1 hv1 hb1
 go_wp2_with fail
 refine (compare_any _ _ l _ _ r _ (HD.out.below HB1.out) hl HS.out HE1.out (by omega) HC1.out.1).mono ?_
 rintro e w2 ⟨rfl,hb2⟩
 have HB:Hid (Below w.heap.size w w2) := HB1.out.trans (hb2.mono HB1.out.size)
 clear hb2
 rw [HV1.out]
 have hd2 := (HD.out.below HB.out).2
 by_cases hc:vl l < 1152921504606846976
 ·rw [cp_lt hc]
  have HM:Hid (min (vl l) 1152921504606846976 = vl l) := Nat.min_eq_left (by omega)
  go_wp2_with fail
  have HD2 := hid hd2
  clear hd2
  go_loop [3,4] (fun t i => ∃ k:Nat,k ≤ l.length ∧ i = .int .i64 ((k:Int) - 1) ∧ t = .int .i64 (vl (l.drop k):Nat)) (fun _ i => (intOf i + 1).toNat)
  case atStart => exact ⟨l.length,Nat.le_refl _,rfl,by rw [List.drop_of_length_le (Nat.le_refl _)];rfl⟩
  case round =>
   obtain ⟨k,hk,rfl,rfl⟩ := hrel
   by_cases h0:k = 0
   ·have hlt:((k:Int) - 1) < 0 := by omega
    go_wp2_with fail
    go_ret
    refine ⟨ret_int ?_,HB.out⟩
    rw [HM.out]
   ·rcases HD2.out with h | ⟨g1,o1,e1,q1,cc1⟩
    ·exfalso;rw [h] at hk;simp at hk;omega
    subst e1
    have f1 := cc1 (k - 1) (by omega)
    have hv := vl_drop l (k - 1) (by omega)
    have hle := vl_drop_le l (k - 1)
    rw [show k - 1 + 1 = k by omega] at hv
    have HV := hid hv
    have hb:(vl (l.drop k)) * 1000 + l.getD (k - 1) 0 < 1152921504606846976 := by omega
    clear cc1 hv hle
    generalize l.getD (k - 1) 0 = d at *
    generalize vl (l.drop k) = t at *
    go_wp2_with fail
    go_round
    case rel => exact ⟨k - 1,by omega,by go_num,by rw [HV.out];go_num⟩
    case measure => simp [intOf];omega
 ·have hge:0 ≤ cp (vl l) 1152921504606846976 := by unfold cp;rw [if_neg hc];split <;> omega
  have HM:Hid (min (vl l) 1152921504606846976 = 1152921504606846976) := Nat.min_eq_right (by omega)
  generalize cp (vl l) 1152921504606846976 = c at *
  go_wp2_with fail
  go_ret
  exact ⟨ret_int (by rw [HM.out];rfl),HB.out⟩
def ml (a b:Int):Int := cl (cl a * cl b)
theorem ml_pos (x y:Int) (h:0 ≤ x * y):cl (x * y) = ((min (x.natAbs * y.natAbs) 1152921504606846976:Nat):Int) := by
 have e:x.natAbs * y.natAbs = (x * y).natAbs := (Int.natAbs_mul x y).symm
 rw [e]
 generalize x * y = z at *
 unfold cl
 split
 ·omega
 ·split <;> omega
theorem ml_neg (x y:Int) (h:x * y ≤ 0):cl (x * y) = -((min (x.natAbs * y.natAbs) 1152921504606846976:Nat):Int) := by
 have e:x.natAbs * y.natAbs = (x * y).natAbs := (Int.natAbs_mul x y).symm
 rw [e]
 generalize x * y = z at *
 unfold cl
 split
 ·omega
 ·split <;> omega
theorem dig7 {r:List Nat} (hc:Cn r) (hv:vl r ≤ 1152921504606846976):r.length ≤ 7 := hc.len 7 (by
 have:(1000:Nat) ^ 7 = 1000000000000000000000 := by decide
 omega)
theorem refmul_any (a b:Int) (w:World) :
  Calls Tryz.prog 149 #[.int .i64 a,.int .i64 b] w fun e w' => e = .returned (.int .i64 (ml a b)) ∧ Below w.heap.size w w' := by
 have ha := cl_le a
 have hb := cl_le b
 go_enter Tryz.func149,Tryz.ntmps149
 go_wp2_with (go_at_call 98;refine (refclamp_any _ _).mono ?_;rintro e w' ⟨rfl,hw'⟩;subst w')
 refine (of_any _ _).mono ?_
 rintro e w1 ⟨ao1,cap1,r1,rfl,hd1,hc1,hv1,hb1⟩
 rw [cl_cl] at hv1
 have k1:r1.length ≤ 7 := dig7 hc1 (by omega)
 have HD1 := hid hd1
 have HC1 := hid hc1
 have HV1 := hid hv1
 have HB1 := hid hb1
 clear hd1 hc1 hv1 hb1
 go_wp2_with fail
 refine (of_any _ _).mono ?_
 rintro e w2 ⟨ao2,cap2,r2,rfl,hd2,hc2,hv2,hb2⟩
 rw [cl_cl] at hv2
 have k2:r2.length ≤ 7 := dig7 hc2 (by omega)
 have HD2 := hid hd2
 have HC2 := hid hc2
 have HV2 := hid hv2
 have HB2 := hid hb2
 clear hd2 hc2 hv2 hb2
 go_wp2_with fail
 refine (times_any _ _ r1 _ _ r2 _ (HD1.out.below HB2.out) (by omega) HC1.out.1 HD2.out (by omega) HC2.out.1).mono ?_
 rintro e w3 ⟨ao3,cap3,r3,rfl,hd3,hc3,hv3,hb3⟩
 have k3:r3.length ≤ 14 := by
  refine hc3.len 14 ?_
  rw [hv3,HV1.out,HV2.out]
  have h1:(cl a).natAbs * (cl b).natAbs ≤ 1152921504606846976 * 1152921504606846976 := Nat.mul_le_mul (by omega) (by omega)
  have h2:(1000:Nat) ^ 14 = 1000000000000000000000000000000000000000000 := by decide
  omega
 have HD3 := hid hd3
 have HC3 := hid hc3
 have HV3:Hid (vl r3 = (cl a).natAbs * (cl b).natAbs) := by show _ = _;rw [hv3,HV1.out,HV2.out]
 have HB3 := hid hb3
 clear hd3 hc3 hv3 hb3
 go_wp2_with fail
 refine (back_any _ _ r3 _ HD3.out (by omega) HC3.out.1).mono ?_
 rintro e w4 ⟨rfl,hb4⟩
 have HB:Hid (Below w.heap.size w w4) := by
  have a1 := HB1.out
  have a2 := a1.trans (HB2.out.mono a1.size)
  have a3 := a2.trans (HB3.out.mono a2.size)
  exact a3.trans (hb4.mono a3.size)
 rw [HV3.out]
 have HP:Hid (0 ≤ cl a * cl b → ml a b = ((min ((cl a).natAbs * (cl b).natAbs) 1152921504606846976:Nat):Int)) := fun h => ml_pos _ _ h
 have HQ:Hid (cl a * cl b ≤ 0 → ml a b = -((min ((cl a).natAbs * (cl b).natAbs) 1152921504606846976:Nat):Int)) := fun h => ml_neg _ _ h
 have hm:min ((cl a).natAbs * (cl b).natAbs) 1152921504606846976 ≤ 1152921504606846976 := Nat.min_le_right _ _
 clear hb4 k1 k2 k3
 generalize min ((cl a).natAbs * (cl b).natAbs) 1152921504606846976 = m at *
 by_cases s1:cl a < 0
 ·by_cases s2:0 < cl b
  ·go_wp2_with fail
   go_ret
   exact ⟨ret_int (by rw [HQ.out (Int.mul_nonpos_of_nonpos_of_nonneg (by omega) (by omega))]),HB.out⟩
  ·go_wp2_with fail
   go_ret
   exact ⟨ret_int (by rw [HP.out (Int.mul_nonneg_of_nonpos_of_nonpos (by omega) (by omega))]),HB.out⟩
 ·by_cases s3:0 < cl a
  ·by_cases s2:cl b < 0
   ·go_wp2_with fail
    go_ret
    exact ⟨ret_int (by rw [HQ.out (Int.mul_nonpos_of_nonneg_of_nonpos (by omega) (by omega))]),HB.out⟩
   ·go_wp2_with fail
    go_ret
    exact ⟨ret_int (by rw [HP.out (Int.mul_nonneg (by omega) (by omega))]),HB.out⟩
  ·have z:cl a = 0 := by omega
   have HZ:Hid (0 ≤ cl a * cl b) := by rw [z,Int.zero_mul];show (0:Int) ≤ 0;omega
   clear z
   go_wp2_with fail
   go_ret
   exact ⟨ret_int (by rw [HP.out HZ.out]),HB.out⟩
end Go.Proofs.YtcjcdpfjnomehaaGreat
