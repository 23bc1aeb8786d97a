/- What the document's Fast answers. -/
import Derived.Test.YtcjcdpfjnomehabGreatPk41
import Derived.Test.YtcjcdpfjnomehabGreatPk33
namespace Go.Proofs.YtcjcdpfjnomehabGreat
set_option maxRecDepth 100000
set_option maxHeartbeats 40000000
open Go.RowKit
set_option linter.unusedSimpArgs false
set_option linter.unusedVariables false
section
variable {S : Nat → Prop} {w : World} {ao : Option Addr} {n c : Nat} {I : Nat → Itm} {width : Int} {s : Stg}
theorem fast1_any (h : ItsAt S w ao n I) (hn : n ≤ 262144) (hok : ∀ i,i < n → okI I i = true) (hw : 1 ≤ width ∧ width ≤ 1073741824) (hs : okS s = true) (hm : 0 < nbk I n) (c0 : Int) (l0 : List Nat) (hB : Best (PX I n width s true) 0 (-1) c0 l0) (hno : Noway (PX I n width s false) 0 (-1)) (hc0 : 0 ≤ c0 ∧ c0 ≤ Awf) :
  Calls Tryz.prog 10 #[.slice ao n c,.int .i64 width,s.val] w fun e w' => ∃ bo bc,e = .returned (.agg #[.slice bo l0.length bc,.int .i64 c0,.bool true]) ∧ NAt (fun _ => True) w' bo (l0.map (bkn I n)) ∧ Below w.heap.size w w' := by
 have hl := lgs_len I n n
 have hm262 : nbk I n ≤ 262144 := by unfold nbk;omega
 unfold Awf at hc0
 obtain ⟨q0,q1,q2,q3⟩ := laid2 w (.cells #[.int .i64 s.t,.int .i64 s.l,.int .i64 s.a,.int .i64 s.d,.int .i64 s.z,.int .i64 s.o,.int .i64 s.i] 25) (.cells #[.slice none 0 0,.int .i64 0,.bool false] 39)
 have HH := boxed h
 have hL := reflegal8_any S ao n c I _ (h.below q2) hn
 have HQ := boxed (And.intro q0 (And.intro q1 (And.intro q2 q3)))
 rw [q3,show (lgs I n n).length = nbk I n from rfl] at hL
 unfold Stg.val
 clear h q0 q1 q2 q3
 go_enter Tryz.func10,Tryz.ntmps10
 go_wp2_with fail
 refine hL.mono ?_
 rintro e w1 ⟨v1,rfl,ho,hb1⟩
 obtain ⟨eo,ec,rfl⟩ := own_shape ho
 have hen1 := own_nat ho rfl
 have hbw1 : Below w.heap.size w w1 := HQ.out.2.2.1.trans (hb1.mono (by omega))
 have hsb1 := (hb1.block w.heap.size (by omega)).trans HQ.out.1
 have hrb1 := (hb1.block (w.heap.size + 1) (by omega)).trans HQ.out.2.1
 obtain ⟨⟨s0,s1,s2,s3,s4,s5,s6⟩,-⟩ := cells7 hsb1
 have hz1 := heap_lt hrb1
 have hfi := fill9_any (S := S) (c := c) (ec := ec) (s := s) (HH.out.below hbw1) hn hok hen1 hw hs false hm
 unfold Stg.val at hfi
 have HZ1 := boxed (And.intro hen1 (And.intro hbw1 (And.intro hsb1 hrb1)))
 clear ho hb1 hL hen1 hbw1 hsb1 hrb1 HQ
 go_wp2_with fail
 refine hfi.mono ?_
 rintro e w2 ⟨tb,tc,R,rfl,htb,hta,htk,hb2⟩
 obtain ⟨hen1,hbw1,hsb1,hrb1⟩ := HZ1.out
 have hbw2 : Below w.heap.size w w2 := below_step hbw1 (Nat.le_refl _) hb2
 have hsb2 := (hb2.block _ (heap_lt hsb1)).trans hsb1
 have hrb2 := (hb2.block _ (heap_lt hrb1)).trans hrb1
 have hen2 := hen1.below hb2
 have hle := least9_any (S := S) (c := c) (ec := ec) (tc := tc) (s := s) (HH.out.below hbw2) hn hok hen2 hw hs false hta 0 hm htk 0 (by omega)
 rw [show ((0 : Nat) : Int) - 1 = -1 from rfl,show ahd 0 0 = -1 from rfl] at hle
 unfold Stg.val at hle
 clear s0 s1 s2 s3 s4 s5 s6 hfi hen1 hbw1 hsb1 hrb1 HZ1
 obtain ⟨⟨s0,s1,s2,s3,s4,s5,s6⟩,-⟩ := cells7 hsb2
 have HZ2 := boxed (And.intro hen2 (And.intro hbw2 (And.intro hsb2 (And.intro hrb2 (And.intro hta (And.intro htk (And.intro htb hb2)))))))
 clear hen2 hbw2 hsb2 hrb2 hta htk htb hb2
 go_wp2_with fail
 refine hle.mono ?_
 rintro e w3 ⟨v,rfl,hv,hb3⟩
 obtain rfl : v = -1 := lst_noway hv hno
 obtain ⟨hen2,hbw2,hsb2,hrb2,hta2,htk2,htb2,hb2⟩ := HZ2.out
 have hbw3 : Below w.heap.size w w3 := below_step hbw2 (Nat.le_refl _) hb3
 have hsb3 := (hb3.block _ (heap_lt hsb2)).trans hsb2
 have hrb3 := (hb3.block _ (heap_lt hrb2)).trans hrb2
 have hen3 := hen2.below hb3
 clear hen2 hbw2 hsb2 hrb2 hta2 htk2 htb2 hb2 HZ2 hb3 hle s0 s1 s2 s3 s4 s5 s6 hv
 obtain ⟨⟨s0,s1,s2,s3,s4,s5,s6⟩,-⟩ := cells7 hsb3
 have hfi := fill9_any (S := S) (c := c) (ec := ec) (s := s) (HH.out.below hbw3) hn hok hen3 hw hs true hm
 unfold Stg.val at hfi
 have HZ1 := boxed (And.intro hen3 (And.intro hbw3 (And.intro hsb3 hrb3)))
 have hz3 := heap_lt hrb3
 clear hen3 hbw3 hsb3 hrb3
 go_wp2_with fail
 refine hfi.mono ?_
 rintro e w4 ⟨tb4,tc4,R4,rfl,htb,hta,htk,hb2⟩
 obtain ⟨hen1,hbw1,hsb1,hrb1⟩ := HZ1.out
 have hbw2 : Below w.heap.size w w4 := below_step hbw1 (Nat.le_refl _) hb2
 have hsb2 := (hb2.block _ (heap_lt hsb1)).trans hsb1
 have hrb2 := (hb2.block _ (heap_lt hrb1)).trans hrb1
 have hen2 := hen1.below hb2
 have hle := least9_any (S := S) (c := c) (ec := ec) (tc := tc4) (s := s) (HH.out.below hbw2) hn hok hen2 hw hs true hta 0 hm htk 0 (by omega)
 rw [show ((0 : Nat) : Int) - 1 = -1 from rfl,show ahd 0 0 = -1 from rfl] at hle
 unfold Stg.val at hle
 clear s0 s1 s2 s3 s4 s5 s6 hfi hen1 hbw1 hsb1 hrb1 HZ1
 obtain ⟨⟨s0,s1,s2,s3,s4,s5,s6⟩,-⟩ := cells7 hsb2
 have HZ2 := boxed (And.intro hen2 (And.intro hbw2 (And.intro hsb2 (And.intro hrb2 (And.intro hta (And.intro htk (And.intro htb hb2)))))))
 clear hen2 hbw2 hsb2 hrb2 hta htk htb hb2
 go_wp2_with fail
 refine hle.mono ?_
 rintro e w5 ⟨v,rfl,hv,hb3⟩
 obtain rfl : c0 = v := (lst_best hv hB hc0.1).symm
 obtain ⟨W3,hW3⟩ : ∃ W3,W3 = w5 := ⟨_,rfl⟩
 subst hW3
 obtain ⟨hen2,hbw2,hsb2,hrb2,hta2,htk2,htb2,hb2⟩ := HZ2.out
 have hbw3 : Below w.heap.size w W3 := below_step hbw2 (Nat.le_refl _) hb3
 have hsb3 := (hb3.block _ (heap_lt hsb2)).trans hsb2
 have hrb3 := (hb3.block _ (heap_lt hrb2)).trans hrb2
 have hen3 := hen2.below hb3
 have hta3 := hta2.below hb3
 have htk3 := htk2
 have htb : w.heap.size + 2 ≤ tb4 ∧ tb4 < W3.heap.size := ⟨by omega,by have := hb3.size;omega⟩
 clear hen2 hbw2 hsb2 hrb2 hta2 htk2 htb2 hb2 HZ2 hb3 hle s0 s1 s2 s3 s4 s5 s6 hv
 have HNn := boxed (px_nn I n width s true hok hs)
 have hz0 := heap_lt hrb3
 have HA0 : Box (FaI w s I n W3.heap.size eo tb4 R4 c0 true (.slice none 0 0) [] (W3.alloc (.cells #[.slice none 0 0,.int .i64 c0,.bool true] 39))) := boxed (by
  have hba : Below W3.heap.size W3 (W3.alloc (.cells #[.slice none 0 0,.int .i64 c0,.bool true] 39)) := (Below.refl _ _).alloc (Nat.le_refl _) _
  refine ⟨hbw3.alloc hbw3.size _,(hba.block _ (heap_lt hsb3)).trans hsb3,(hba.block _ hz0).trans hrb3,heap_alloc_new W3 _,World.ownsRow_nil _ _ _ _,?_,hta3.below hba,⟨htb.2,htb.1,by omega⟩⟩
  intro i hi
  obtain ⟨b,e,hb,hc⟩ := hen3 i hi
  exact ⟨b,e,⟨hb,by have := World.block_lt_of_cell? W3 _ hc;simpa using this⟩,hold hba hc⟩)
 have HP0 := boxed (fap_zero hB)
 have HTk := boxed htk3
 have HLi := boxed (fun W v p (hf : FaI w s I n W3.heap.size eo tb4 R4 c0 true v p W) (st j : Nat) (hst : st ≤ nbk I n) (hj : j < nbk I n) (cl : Int) (hcl : -1 ≤ cl ∧ cl ≤ 3) => line9_any (S := S) (c := c) (ec := ec) (s := s) (HH.out.below hf.bel) hn hok hf.en hw st j hst hj cl hcl true)
 have HRe := boxed (fun W v p (hf : FaI w s I n W3.heap.size eo tb4 R4 c0 true v p W) (j x : Nat) (hj : j < nbk I n) (hx : x < 4) => rest9_any W tb4 (nbk I n) tc4 R4 eo ec hf.ta hm262 j x hj hx)
 have HCl : Box (∀ i j : Nat,0 ≤ (PX I n width s true).kl i j ∧ (PX I n width s true).kl i j ≤ 3) := boxed (fun i j => by have := ftb_cls I n width ((i : Int) - 1) j;exact ⟨this.1,this.2.1⟩)
 have HMp : Box ((PX I n width s true).m = nbk I n) := boxed rfl
 generalize hM : nbk I n = m at *
 replace hM := boxed hM
 clear hbw3 hsb3 hrb3 hta3 hen3 htk3 htb hB
 unfold Stg.val at HLi
 go_wp2_with fail
 go_loopw [12,13,14] (fun sv cv iv wr => ∃ (p : List Nat) (st : Nat) (a t cl : Int) (v : Value),st ≤ m ∧ sv = .int .i64 t ∧ cv = .int .i64 cl ∧ iv = .int .i64 ((st : Int) - 1) ∧ Box (FaP (PX I n width s true) c0 l0 p st a t cl) ∧ Box (FaI w s I n W3.heap.size eo tb4 R4 c0 true v p wr)) (fun _ _ iv _ => m - (intOf iv + 1).toNat)
 case atStart => exact ⟨[],0,-1,0,0,_,Nat.zero_le _,rfl,rfl,rfl,HP0,HA0⟩
 case round =>
  obtain ⟨p,st,a,t,cl,v,hst,rfl,rfl,rfl,HP,HA⟩ := hrel
  clear HP0 HA0
  by_cases hsm : st < m
  ·have t1 : decide ((st : Int) - 1 < (m : Int) - 1) = true := decide_eq_true (by omega)
   obtain ⟨x,hx1,hx2,hmx,hnx,hfx⟩ := fap_next HNn.out HP.out (by rw [HMp.out];exact hsm)
   rw [HMp.out] at hx2
   have HNx := boxed hnx
   have HFx := boxed (hfx (HCl.out st x).1 (HCl.out st x).2)
   have hcl := HP.out.2.2.2.2
   have ha := HP.out.2.2.2.1
   have htb := (pf_cost (r := []) HNn.out HP.out.2.2.1).1
   unfold Awf at htb
   have HAh := boxed ha
   clear hnx hfx hmx ha HP
   have u0 : ((st : Int) - 1) + 1 = (st : Int) := by omega
   go_wp2_with fail
   go_loopw [12,13,14,16] (fun sv cv iv jv wq => sv = .int .i64 t ∧ cv = .int .i64 cl ∧ iv = .int .i64 ((st : Int) - 1) ∧ ∃ j : Nat,st ≤ j ∧ j ≤ x ∧ jv = .int .i64 (j : Int) ∧ Box (FaI w s I n W3.heap.size eo tb4 R4 c0 true v p wq)) (fun _ _ _ jv _ => m - (intOf jv).toNat)
   case atStart => exact ⟨rfl,rfl,rfl,st,Nat.le_refl _,hx1,by go_num,HA⟩
   case round =>
    obtain ⟨rfl,rfl,rfl,j,hj1,hj2,rfl,HA1⟩ := hrel
    clear HA
    have hjm : j < m := by omega
    have t2 : decide ((j : Int) < (m : Int)) = true := decide_eq_true (by omega)
    have t2' : decide (j < m) = true := decide_eq_true hjm
    have hli := HLi.out _ _ _ HA1.out st j hst hjm cl (by omega)
    rw [HAh.out] at hli
    obtain ⟨⟨s0,s1,s2,s3,s4,s5,s6⟩,-⟩ := cells7 HA1.out.sb
    obtain ⟨kc,hkc⟩ : ∃ kc : Nat,(PX I n width s true).kl st j = (kc : Int) := ⟨((PX I n width s true).kl st j).toNat,by have := HCl.out st j;omega⟩
    have hkc4 : kc < 4 := by have := HCl.out st j;omega
    have HRl : Box (Lst (PX I n width s true) (j + 1) ((PX I n width s true).kl st j) (rsv R4 m j kc)) := boxed (by
     have := rsv_lst HTk.out (Nat.zero_le j) (by rw [HMp.out];exact hjm) kc hkc4
     rw [HMp.out] at this
     rw [hkc];exact this)
    have hnx := HNx.out j _ hj1 hj2 HRl.out
    cases hD : (PX I n width s true).dz st j
    ·rw [hD,if_neg (by simp),if_neg (by simp)] at hli
     have hjx : j ≠ x := fun e => by have := (hnx.2.2 e).1;rw [hD] at this;cases this
     clear hD hnx HRl hkc
     go_wp2_with fail
     refine hli.mono ?_
     rintro e w2 ⟨rfl,hb2⟩
     have HA2 := boxed (HA1.out.next hb2)
     clear hb2 hli s0 s1 s2 s3 s4 s5 s6
     go_wp2_with fail
     go_roundw
     case rel => exact ⟨rfl,rfl,rfl,j + 1,by omega,by omega,by go_num,HA2⟩
     case measure => simp [intOf];omega
    ·rw [hD,if_pos rfl,if_pos rfl] at hli
     have hmy := hnx.1 hD
     have hct := HNn.out st j a hmy
     have hrb := lst_bnd HNn.out HRl.out
     unfold Awf at hct hrb
     have HIf : Box ((0 ≤ rsv R4 m j kc ∧ tt (tt t ((PX I n width s true).ct st j a)) (rsv R4 m j kc) = c0) ↔ j = x) := boxed ⟨fun h => hnx.2.1 ⟨hD,h.1,h.2⟩,fun h => (hnx.2.2 h).2⟩
     have HKc := boxed hkc
     rw [hkc] at hli
     have t3 : decide ((PX I n width s true).ct st j a < 0) = false := decide_eq_false (by omega)
     have hto1 := fun W => reftotal_any t ((PX I n width s true).ct st j a) W
     have hto2 := fun W => reftotal_any (tt t ((PX I n width s true).ct st j a)) (rsv R4 m j kc) W
     have hre0 := fun W v p hf => HRe.out W v p hf j kc hjm hkc4
     have HRe0 := boxed hre0
     have HCt : Box (∃ ct,(PX I n width s true).ct st j a = ct) := boxed ⟨_,rfl⟩
     have HFy : Box (j = x → FaP (PX I n width s true) c0 l0 (p ++ [j]) (j + 1) (kc : Int) (tt t ((PX I n width s true).ct st j a)) (kc : Int)) := boxed (fun e => by subst e;have := HFx.out;rw [HKc.out] at this;exact this)
     clear hD hnx HRl hkc hmy hre0 HKc HCt
     generalize (PX I n width s true).ct st j a = ct at *
     generalize rsv R4 m j kc = r at *
     generalize tt t ct = u at *
     generalize tt u r = q at *
     go_wp2_with fail
     refine hli.mono ?_
     rintro e w2 ⟨rfl,hb2⟩
     have HA2 := boxed (HA1.out.next hb2)
     have hre := HRe0.out _ _ _ HA2.out
     clear hb2 hli s0 s1 s2 s3 s4 s5 s6
     go_wp2_with fail
     refine hre.mono ?_
     rintro e w3 ⟨rfl,hb3⟩
     have HA3 := boxed (HA2.out.next hb3)
     clear hb3 hre HRe0
     by_cases hr0 : r < 0
     ·have t4 : decide (0 ≤ r) = false := decide_eq_false (by omega)
      have hjx : j ≠ x := fun e => by have := (HIf.out.2 e).1;omega
      go_wp2_with fail
      go_roundw
      case rel => exact ⟨rfl,rfl,rfl,j + 1,by omega,by omega,by go_num,HA3⟩
      case measure => simp [intOf];omega
     have t4 : decide (0 ≤ r) = true := decide_eq_true (by omega)
     by_cases hq : q = c0
     ·have hjx : j = x := HIf.out.1 ⟨by omega,hq⟩
      have t5 : (q == c0) = true := by rw [beq_iff_eq];exact hq
      have HPn := boxed (HFy.out hjx)
      clear HIf HFy hq hjx
      go_wp2_with (first | (go_at_call 35;with_reducible refine (hto1 _).mono ?_;rintro e w' ⟨rfl,hw'⟩;subst w') | (go_at_call 35;with_reducible refine (hto2 _).mono ?_;rintro e w' ⟨rfl,hw'⟩;subst w'))
      obtain ⟨a1,c1,rfl⟩ := own_shape HA3.out.ow
      obtain ⟨i0,hi,hz0,hz1,hz2⟩ := info_parts info_int8
      obtain ⟨ge,ee,hgS,ce⟩ := HA3.out.en j (by show j < nbk I n;rw [hM.out];exact hjm)
      rw [show (lgs I n n).getD j 0 = bkn I n j from rfl] at ce
      subst ee
      obtain ⟨y,hy⟩ : ∃ y,bkn I n j = y := ⟨_,rfl⟩
      rw [hy] at ce
      obtain ⟨⟨r0,r1,r2⟩,r3,-⟩ := cells3 HA3.out.ob
      have hGz := heap_lt HA3.out.ob
      have hgz := World.block_lt_of_cell? w3 _ ce
      simp only at hgz
      have n1 : W3.heap.size ≠ w3.heap.size := by omega
      have n2 : ge ≠ w3.heap.size := by omega
      have hjm2 : (j : Int) < (m : Int) := by omega
      have hbase : W3.heap.size + 1 ≤ (w3.alloc (.cells #[.int .i64 (y : Int)] 3)).drew.heap.size := by simp [World.drew];omega
      have HOW : Box ((w3.alloc (.cells #[.int .i64 (y : Int)] 3)).drew.ownsRow (W3.heap.size + 1) 3 1 (.slice a1 p.length c1) p.length (ncs (p.map (bkn I n)))) := boxed (owns_below HA3.out.ow (((Below.refl _ _).alloc (Nat.le_refl _) _).drew))
      have HNW : Box (∀ q u,([.int .i64 (y : Int)] : List Value)[q]? = some u → (w3.alloc (.cells #[.int .i64 (y : Int)] 3)).drew.cell? ((⟨w3.heap.size,0,none⟩ : Addr).add q) = some u) := boxed (by
       intro q u hq
       rw [Addr.add_lit,Nat.zero_add,World.cell?_drew,cell_first]
       simpa using hq)
      have HF : Box (∀ v1 z,(w3.alloc (.cells #[.int .i64 (y : Int)] 3)).drew.grownBy z (Value.slice a1 p.length c1).ownBlock → z.ownsRow (W3.heap.size + 1) 3 1 v1 (p.length + 1) (ncs (p.map (bkn I n)) ++ [.int .i64 (y : Int)]) → (z.cell? ⟨W3.heap.size,0,none⟩ = some (.slice a1 p.length c1) ∧ z.frozen? ⟨W3.heap.size,0,none⟩ = false) ∧ FaI w s I n W3.heap.size (some ⟨ge,0,none⟩) tb4 R4 c0 true v1 (p ++ [j]) (z.setCell ⟨W3.heap.size,0,none⟩ v1)) := boxed (fun v1 z hg ho => HA3.out.grow (((Below.refl _ _).alloc (Nat.le_refl _) _).drew) hg j y hy ho)
      have hpl : p.length ≤ 262144 := by
       have h1 := cw_len _ _ _ _ _ HPn.out.1.1
       obtain ⟨qq,e2⟩ := HPn.out.2.1
       rw [e2] at h1
       simp only [List.length_append] at h1
       rw [HMp.out] at h1
       omega
      have hnl : p.length + 1 ≤ maxLen := by unfold maxLen;omega
      have t6 : ((j : Int) == (st : Int) - 1) = false := by rw [beq_eq_false_iff_ne];omega
      clear r1 r2 HA3 HA2 HA1
      generalize p.length = pl at *
      go_region_law
       (first
        | (refine step_append_own9 rfl _ _ 37 rfl (W3.heap.size + 1) 3 i0 _ 1 8 Tryz.underlying37 hi hz0 hz1 hz2 rfl (by decide) _ _ _ rfl HOW.out ⟨w3.heap.size,0,none⟩ 1 1 [.int .i64 (y : Int)] rfl rfl HNW.out (by intro u hu;simp at hu;subst hu;rfl) hnl (by omega) hbase ?_;intro z1 z2 ho1 hg1;obtain ⟨a2,c2,rfl⟩ := own_shape ho1;obtain ⟨⟨k1,k2⟩,k3⟩ := HF.out _ z2 hg1 ho1;have HK3 := boxed k3;clear k3 ho1 hg1))
      all_goals
       go_wp2_with (go_at_call 35;with_reducible refine (hto1 _).mono ?_;rintro e w' ⟨rfl,hw'⟩;subst w')
       go_roundw
       case rel => exact ⟨p ++ [j],j + 1,(kc : Int),u,(kc : Int),_,by omega,rfl,rfl,congrArg _ (by omega),HPn,HK3⟩
       case measure => simp [intOf];omega
     ·have hjx : j ≠ x := fun e => hq (HIf.out.2 e).2
      have t5 : (q == c0) = false := by rw [beq_eq_false_iff_ne];exact hq
      clear HIf HFy hq
      go_wp2_with (first | (go_at_call 35;with_reducible refine (hto1 _).mono ?_;rintro e w' ⟨rfl,hw'⟩;subst w') | (go_at_call 35;with_reducible refine (hto2 _).mono ?_;rintro e w' ⟨rfl,hw'⟩;subst w'))
      go_roundw
      case rel => exact ⟨rfl,rfl,rfl,j + 1,by omega,by omega,by go_num,HA3⟩
      case measure => simp [intOf];omega
  ·obtain rfl : st = m := by omega
   have t1 : decide ((st : Int) - 1 < (st : Int) - 1) = false := decide_eq_false (by omega)
   obtain rfl := fap_end HNn.out HP.out (by rw [HMp.out];omega)
   obtain ⟨bo,bc,rfl⟩ := own_shape HA.out.ow
   obtain ⟨⟨r0,r1,r2⟩,-⟩ := cells3 HA.out.ob
   obtain ⟨⟨p0,p1,p2⟩,p3,p4,p5⟩ := cells3 HA.out.rb
   have HA7 := HA.out.out
   simp only [World.setCells,Nat.zero_add,Nat.reduceAdd] at HA7
   replace HA7 := boxed HA7
   clear HA HP
   generalize hll : l0.length = ll at *
   replace hll := boxed hll
   go_wp2_with fail
   refine bodyPost_ret (v := .agg #[.slice bo ll bc,.int .i64 c0,.bool true]) ?_ ?_ ?_
   ·exact results_cell_row Tryz.results10 _ _ (w.heap.size + 1) 39 #[.slice bo ll bc,.int .i64 c0,.bool true] (0,0) _ rfl HA7.out.1 Tryz.underlying39 rfl (by kernel_rfl)
   ·rfl
   ·exact ⟨bo,bc,by rw [hll.out],(own_nat HA7.out.2.2 (by rw [List.length_map,hll.out])).keep (kp_more (fun _ _ => trivial) (Below.refl _ _)),HA7.out.2.1⟩
end
end Go.Proofs.YtcjcdpfjnomehabGreat
namespace Go.Proofs.YtcjcdpfjnomehabGreat
set_option maxRecDepth 100000
set_option maxHeartbeats 40000000
set_option linter.unusedSimpArgs false
set_option linter.unusedVariables false
open Go.RowKit
theorem fast_any {S : Nat → Prop} {w : World} {ao : Option Addr} {n c : Nat} {I : Nat → Itm} {width : Int} {s : Stg} (h : ItsAt S w ao n I) (hn : n ≤ 262144) (hok : ∀ i,i < n → okI I i = true) (hw : 1 ≤ width ∧ width ≤ 1073741824) (hs : okS s = true) (hm : 0 < nbk I n) (em : Bool) (c0 : Int) (l0 : List Nat) (hB : Best (PX I n width s em) 0 (-1) c0 l0) (hno : em = true → Noway (PX I n width s false) 0 (-1)) :
  Calls Tryz.prog 10 #[.slice ao n c,.int .i64 width,s.val] w fun e w' => ∃ bo bc,e = .returned (.agg #[.slice bo l0.length bc,.int .i64 c0,.bool em]) ∧ NAt (fun _ => True) w' bo (l0.map (bkn I n)) ∧ Below w.heap.size w w' := by
 have hc := cw_nn (px_nn I n width s em hok hs) _ _ _ _ hB.1
 cases em
 ·exact fast0_any h hn hok hw hs hm c0 l0 hB hc
 ·exact fast1_any h hn hok hw hs hm c0 l0 hB (hno rfl) hc
end Go.Proofs.YtcjcdpfjnomehabGreat
