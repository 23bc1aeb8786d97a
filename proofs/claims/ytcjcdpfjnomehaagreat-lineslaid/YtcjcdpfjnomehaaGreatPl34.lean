/- What the search's method lines answers. -/
import Derived.ScopeJumps
import Derived.Deep.RegionLaw
import Derived.Test.YtcjcdpfjnomehaaGreatPl33
namespace Go.Proofs.YtcjcdpfjnomehaaGreat
set_option maxRecDepth 100000
set_option maxHeartbeats 40000000
open Go.RowKit
set_option linter.unusedSimpArgs false
set_option linter.unusedVariables false
section
variable {w:World} {B sb pb rb rc n:Nat} {I:Nat → Itm} {width:Int} {s:Stg} {v1 v2:Value} {L1 L2:List (Nat × Int)} {R:Nat → Nat → Int × Nat}
theorem lines_any (h:ParaAt (fun b => b < B) w pb n I) (hn:n ≤ 262144) (hok:∀ i,i < n → okI I i = true) (hw:1 ≤ width ∧ width ≤ 1073741824) (i nr bd:Nat) (k:Int) (hk:k + 1 = (i:Int)) (hi:i < nbk I n) (hss:SS B sb pb rb rc (nbk I n) width s w (bd:Int) (nr:Int) v1 v2 L1 L2) (hnr:forc (itb I n i) = true ∨ (i + 1 ≤ nr ∧ nr ≤ bd)) (hnm:bd ≤ nbk I n) (hr:RsAt w rb (nbk I n) R) (hl1:L1.length ≤ 262143) (hl2:L2.length ≤ 262143) (hnrm:nr ≤ nbk I n) :
  Calls Tryz.prog 139 #[.pointer (some ⟨sb,0,none⟩),.int .i64 k] w fun e' w' => ∃ v1' v2' nr' st,e' = .returned (.agg (chA (hfu I n width s R k nr' st (hop (fun _ => Ln.none) (sel (itb I n k).flag (dr nr' (ent s L2 (i,uC I n s true i (R i 3).1))) (dr nr' (ent s L1 (i,uC I n s false i (R i 3).1)))))))) ∧
   (i ≤ nr' ∧ nr' ≤ (if forc (itb I n i) = true then i + 1 else nr) ∧ (nr' = i ∨ hpl I n width k ((nr' - 1:Nat):Int) = true)) ∧
   (nr' ≤ st ∧ st ≤ (if forc (itb I n i) = true then i + 1 else bd) ∧ (st = (if forc (itb I n i) = true then i + 1 else bd) ∨ width < (upt I n (bk I n k) (bk I n st)).w - (upt I n (bk I n k) (bk I n st)).sh)) ∧
   SS B sb pb rb rc (nbk I n) width s w' ((if forc (itb I n i) = true then i + 1 else bd:Nat):Int) (nr':Int) v1' v2' (dr nr' (ent s L1 (i,uC I n s false i (R i 3).1))) (dr nr' (ent s L2 (i,uC I n s true i (R i 3).1))) ∧ (∀ q,q < w.heap.size → SX sb v1' v2' q → SX sb v1 v2 q) ∧ Oth (SX sb v1 v2) w w' := by
 have hm:nbk I n ≤ 262144 := by unfold nbk;have := lgs_len I n n;omega
 have hsz := choice_size (fun _ => Ln.none)
 have h1 := chA_one (fun _ => Ln.none)
 have HN := fun W => none_any W
 obtain ⟨A,hA⟩:∃ A,chA (fun _ => Ln.none) = A := ⟨_,rfl⟩
 rw [hA] at hsz h1 HN
 obtain ⟨nr0,hnr0⟩:∃ nr0,(if forc (itb I n i) = true then i + 1 else nr) = nr0 := ⟨_,rfl⟩
 obtain ⟨bd0,hbd0⟩:∃ bd0,(if forc (itb I n i) = true then i + 1 else bd) = bd0 := ⟨_,rfl⟩
 have hord:nr0 ≤ bd0 ∧ bd0 ≤ nbk I n := by
  rw [← hnr0,← hbd0]
  split
  ·omega
  ·rename_i hf;rcases hnr with h | h;exact absurd h hf;omega
 have HH := boxed (fun (W:World) (cb:Nat) (h:ParaAt (fun b => b < B) W pb n I) hss r hr hc hcx hcr hcB => hopeless_any (w := W) (cb := cb) (C := fun _ => Ln.none) (v1 := v1) (v2 := v2) (L1 := L1) (L2 := L2) (rb := rb) (sb := sb) (rc := rc) (s := s) (r := r) h hn hok hw i nr bd k hk hi hss (by rcases hnr with h | h;exact .inl h;exact .inr h.1) hnrm hr hl1 hl2 hc (by show Awf ≤ Awf;omega) hcx hcr hcB)
 rw [hnr0,hbd0] at HH ⊢
 clear hnr0 hbd0
 have HS0 := boxed hss
 have HP:Box (∀ W,Below B w W → ParaAt (fun b => b < B) W pb n I) := boxed (fun W hb => h.keep (kp_lt hb))
 have HR0 := boxed hr
 have hlt:∀ q,SX sb v1 v2 q → B ≤ q ∧ q < w.heap.size := fun q hq => by
  rcases hq with hq | hq | hq
  ·rw [hq];exact ⟨hss.hs.1,hss.hs.2.1⟩
  ·exact ⟨(hss.b1 q hq).1,(hss.b1 q hq).2.1⟩
  ·exact ⟨(hss.b2 q hq).1,(hss.b2 q hq).2.1⟩
 have hrb := hss.hs.2.2.2.2
 have hB0:B ≤ w.heap.size := by have := hss.hs;omega
 have HLT := boxed hlt
 clear h hss hr hlt hnr
 go_enter Tryz.func139,Tryz.ntmps139
 go_wp2_with fail
 refine (HN _).mono ?_
 rintro e' w1 ⟨rfl,hb1⟩
 have hz0:(w.alloc (.cells #[.int .i64 0,.int .i64 0,.int .i64 0,.int .i64 0,.int .i64 0,.bool false,.int .i64 0,.int .i64 0,.int .i64 0,.int .i64 0,.int .i64 0,.int .i64 0,.bool false,.int .i64 0,.int .i64 0,.int .i64 0,.int .i64 0,.int .i64 0,.int .i64 0,.bool false,.int .i64 0,.int .i64 0,.int .i64 0,.int .i64 0,.int .i64 0,.int .i64 0,.bool false,.int .i64 0] 206)).heap.size = w.heap.size + 1 := by simp
 rw [hz0] at hb1
 have HZ1:Box (w1.heap[w.heap.size]? = some (.cells (nA 0) 206 (0,0))) := boxed (by rw [hb1.block _ (by omega),nA_zero];exact heap_alloc_new w _)
 have HB1:Box (Below w.heap.size w w1) := boxed (((Below.refl _ _).alloc (Nat.le_refl _) _).trans (hb1.mono (by omega)))
 have hz1 := heap_lt HZ1.out
 have HT1:Box ((w1.alloc (.cells #[.int .i64 0,.int .i64 0,.int .i64 0,.int .i64 0,.int .i64 0,.bool false,.int .i64 0,.int .i64 0,.int .i64 0,.int .i64 0,.int .i64 0,.int .i64 0,.bool false,.int .i64 0,.int .i64 0,.int .i64 0,.int .i64 0,.int .i64 0,.int .i64 0,.bool false,.int .i64 0,.int .i64 0,.int .i64 0,.int .i64 0,.int .i64 0,.int .i64 0,.bool false,.int .i64 0] 206)).there w1.heap.size 0 A.size) := boxed (fun j hj => by
  rw [Nat.zero_add]
  have he := heap_alloc_new w1 (.cells #[.int .i64 0,.int .i64 0,.int .i64 0,.int .i64 0,.int .i64 0,.bool false,.int .i64 0,.int .i64 0,.int .i64 0,.int .i64 0,.int .i64 0,.int .i64 0,.bool false,.int .i64 0,.int .i64 0,.int .i64 0,.int .i64 0,.int .i64 0,.int .i64 0,.bool false,.int .i64 0,.int .i64 0,.int .i64 0,.int .i64 0,.int .i64 0,.int .i64 0,.bool false,.int .i64 0] 206)
  rw [← nA_zero] at he ⊢
  have hj2:j < (nA 0).size := by rw [← hA] at hj;exact hj
  exact ⟨by rw [row_cell he j (nA 0)[j] (by simp [hj2])];rfl,row_free he j⟩)
 have HE2:Box (((w1.alloc (.cells #[.int .i64 0,.int .i64 0,.int .i64 0,.int .i64 0,.int .i64 0,.bool false,.int .i64 0,.int .i64 0,.int .i64 0,.int .i64 0,.int .i64 0,.int .i64 0,.bool false,.int .i64 0,.int .i64 0,.int .i64 0,.int .i64 0,.int .i64 0,.int .i64 0,.bool false,.int .i64 0,.int .i64 0,.int .i64 0,.int .i64 0,.int .i64 0,.int .i64 0,.bool false,.int .i64 0] 206)).setCells w1.heap.size 0 A.toList).heap[w1.heap.size]? = some (.cells A 206 (0,0))) := boxed (by
  rw [sets_heap w1.heap.size 206 _ 0 _ _ (heap_alloc_new w1 _),← hA]
  simp [setA,chA,Ln.cells,Ln.none])
 clear hb1 hz0
 go_wp2_with (first | (refine wpList_store_mid rfl 206 _ _ rfl _ 0 A rfl rfl HT1.out hsz h1 ?_))
 obtain ⟨w2,hw2⟩:∃ w2,(w1.alloc (.cells #[.int .i64 0,.int .i64 0,.int .i64 0,.int .i64 0,.int .i64 0,.bool false,.int .i64 0,.int .i64 0,.int .i64 0,.int .i64 0,.int .i64 0,.int .i64 0,.bool false,.int .i64 0,.int .i64 0,.int .i64 0,.int .i64 0,.int .i64 0,.int .i64 0,.bool false,.int .i64 0,.int .i64 0,.int .i64 0,.int .i64 0,.int .i64 0,.int .i64 0,.bool false,.int .i64 0] 206)).setCells w1.heap.size 0 A.toList = w2 := ⟨_,rfl⟩
 rw [hw2] at HE2 ⊢
 have hb2:Below w1.heap.size w1 w2 := by rw [← hw2];exact ((Below.refl _ _).alloc (Nat.le_refl _) _).trans (sets_below _ _ (Nat.le_refl _) _ _ _)
 obtain ⟨cb,hcb⟩:∃ cb,w1.heap.size = cb := ⟨_,rfl⟩
 rw [hcb] at HE2 hb2 hz1 ⊢
 have hb2w:Below w.heap.size w w2 := HB1.out.trans (hb2.mono (by omega))
 have HZ2:Box (w2.heap[w.heap.size]? = some (.cells (nA 0) 206 (0,0))) := boxed ((hb2.block _ hz1).trans HZ1.out)
 have hcz := heap_lt HE2.out
 have hX2:¬ SX sb v1 v2 cb := fun hx => by have := HLT.out cb hx;omega
 have HB2 := boxed hb2w
 have hho := HH.out w2 cb (HP.out _ (hb2w.mono hB0)) (HS0.out.below hb2w) (R i 3).1 (by
  have := (HR0.out.keep (hb2w.block rb hrb)) i 3 hi (by omega)
  simpa using this.1) (by rw [HE2.out,← hA]) hX2 (by omega) (by omega)
 clear hw2 HT1 hb2 hb2w HH
 refine hho.mono ?_
 rintro e' w3 ⟨rfl,u1,u2,nr',hn3,hS3,hc3,hx3,hO3⟩
 have HX3:Box (∀ q,q < w2.heap.size → SX sb u1 u2 q → SX sb v1 v2 q) := boxed hx3
 have HO3 := boxed hO3
 have HS3 := boxed hS3
 have HC3 := boxed hc3
 have HN3 := boxed hn3
 have hz2 := HB2.out.size
 have hBw3:Below B w w3 := (HB2.out.mono hB0).trans (hO3.below (fun q hq => by rcases hq with hq | hq;exact (HLT.out q hq).1;omega) (by omega))
 have hr3:w3.heap[rb]? = w.heap[rb]? := (hO3.block rb (by omega) (fun hx => by rcases hx with hx | hx;exact SX_rb HS0.out hx;omega)).trans (HB2.out.block rb hrb)
 have hZ3:w3.heap[w.heap.size]? = some (.cells (nA 0) 206 (0,0)) := (hO3.block _ (by omega) (fun hx => by rcases hx with hx | hx;have := (HLT.out _ hx).2;omega;omega)).trans HZ2.out
 have hX3:¬ SX sb u1 u2 cb := fun hx => hX2 (hx3 cb hcz hx)
 have hho2 := hopeful_any (cb := cb) (HP.out _ hBw3) hn hok hw nr' bd0 k hS3 (by omega) hord.2 (HR0.out.keep hr3) hc3 hX3 (by omega) (by omega)
 have HZ3 := boxed hZ3
 clear hc3 hx3 hO3 hS3 hn3 hBw3 hr3 hZ3 hho
 go_wp2_with fail
 refine hho2.mono ?_
 rintro e' w4 ⟨rfl,⟨st,hst,hc4⟩,hO4⟩
 have HC4 := boxed hc4
 have HST := boxed hst
 have HS4 := boxed (HS3.out.oth hO4 (fun q hq hx => hX3 (by rw [← hq];exact hx)))
 have HO4 := boxed hO4
 have z3 := HO3.out.size
 have z4 := hO4.size
 have hZ4:w4.heap[w.heap.size]? = some (.cells (nA 0) 206 (0,0)) := (hO4.block _ (heap_lt HZ3.out) (by omega)).trans HZ3.out
 obtain ⟨D,hD⟩:∃ D,hfu I n width s R k nr' st (hop (fun _ => Ln.none) (sel (itb I n k).flag (dr nr' (ent s L2 (i,uC I n s true i (R i 3).1))) (dr nr' (ent s L1 (i,uC I n s false i (R i 3).1))))) = D := ⟨_,rfl⟩
 have HD := boxed hD
 have hsz2 := choice_size D
 have h12 := chA_one D
 have hc5 := hc4
 rw [hD] at hc5
 have HT4:Box (w4.there w.heap.size 0 (chA D).size) := boxed (fun j hj => by
  rw [Nat.zero_add]
  have hj2:j < (nA 0).size := hj
  exact ⟨by rw [row_cell hZ4 j (nA 0)[j] (by simp [hj2])];rfl,row_free hZ4 j⟩)
 have HP5:Box ((w4.setCells w.heap.size 0 (chA D).toList).heap[w.heap.size]? = some (.cells (chA D) 206 (0,0))) := boxed (by
  rw [sets_heap w.heap.size 206 _ 0 w4 _ hZ4]
  simp [setA,nA,chA,Ln.cells,Ln.zero])
 have HO5:Box (Oth (fun q => q = w.heap.size) w4 (w4.setCells w.heap.size 0 (chA D).toList)) := boxed (by
  have h2 := sets_below w.heap.size 0 (by omega) (chA D).toList 0 w4
  exact ⟨h2.os,h2.tape,h2.output,h2.size,fun b _ hb => sets_other _ b hb _ _ _⟩)
 have HS5 := boxed (HS4.out.oth HO5.out (fun q hq hx => by
  rw [hq] at hx
  have := HX3.out _ (by omega) hx
  have := (HLT.out _ this).2
  omega))
 have HOF:Box (Oth (SX sb v1 v2) w (w4.setCells w.heap.size 0 (chA D).toList)) := boxed (by
  refine ⟨HO5.out.os.trans (HO4.out.os.trans (HO3.out.os.trans HB2.out.os)),HO5.out.tape.trans (HO4.out.tape.trans (HO3.out.tape.trans HB2.out.tape)),HO5.out.output.trans (HO4.out.output.trans (HO3.out.output.trans HB2.out.output)),?_,fun q hq hx => ?_⟩
  ·have := HO5.out.size;omega
  ·rw [HO5.out.block q (by omega) (by omega),HO4.out.block q (by omega) (by omega),HO3.out.block q (by omega) (fun h => by rcases h with h | h;exact hx h;omega),HB2.out.block q hq])
 have HC5 := boxed hc5
 clear hD hc4 hc5 hO4 hst hZ4 HC4
 obtain ⟨E,hE⟩:∃ E,chA D = E := ⟨_,rfl⟩
 rw [hE] at hsz2 h12 HT4 HP5 HO5 HS5 HOF HC5
 have HEE := boxed hE
 clear hE
 go_wp2_with (first | (refine wpList_load_row rfl 206 _ rfl cb rfl 206 E (0,0) _ HC5.out Tryz.underlying206 rfl hsz2 ?_) | (refine wpList_store_mid rfl 206 _ _ rfl w.heap.size 0 E rfl rfl HT4.out hsz2 h12 ?_))
 refine bodyPost_ret (v := .agg E) ?_ ?_ ?_
 ·exact results_cell_row Tryz.results139 _ _ w.heap.size 206 E (0,0) _ rfl HP5.out Tryz.underlying206 rfl hsz2
 ·rfl
 ·exact ⟨u1,u2,nr',st,by rw [HD.out,HEE.out],HN3.out,HST.out,HS5.out,fun q hq hx => HX3.out q (by omega) hx,HOF.out⟩
end
end Go.Proofs.YtcjcdpfjnomehaaGreat
namespace Go.Proofs.YtcjcdpfjnomehaaGreat
set_option maxRecDepth 100000
set_option maxHeartbeats 40000000
set_option linter.unusedSimpArgs false
set_option linter.unusedVariables false
def Good (u:Nat → Int) (lo hi:Nat) (L:List (Nat × Int)):Prop := (∀ x ∈ L,lo ≤ x.1 ∧ x.1 < hi ∧ x.2 = u x.1) ∧ L.Pairwise (fun x y => y.1 < x.1 ∧ x.2 < y.2) ∧ ∀ e,lo ≤ e → e < hi → ∃ x ∈ L,x.1 ≤ e ∧ x.2 ≤ u e
theorem good_nil (u:Nat → Int) (lo hi:Nat) (h:hi ≤ lo):Good u lo hi [] := ⟨fun x hx => by (cases hx),List.Pairwise.nil,fun e h1 h2 => by omega⟩
theorem good_empty {u:Nat → Int} {lo hi:Nat} (h:Good u lo hi []):hi ≤ lo := by
 by_cases c:hi ≤ lo
 ·exact c
 ·obtain ⟨x,hx,-⟩ := h.2.2 lo (Nat.le_refl _) (by omega)
  cases hx
theorem good_head {u:Nat → Int} {lo hi:Nat} {x:Nat × Int} {M:List (Nat × Int)} (h:Good u lo hi (x :: M)):(lo ≤ x.1 ∧ x.1 < hi ∧ x.2 = u x.1) ∧ ∀ e,lo ≤ e → e < hi → x.2 < u e ∨ (x.2 = u e ∧ x.1 ≤ e) := by
 refine ⟨h.1 x (by simp),fun e h1 h2 => ?_⟩
 obtain ⟨y,hy,h3,h4⟩ := h.2.2 e h1 h2
 rcases List.mem_cons.1 hy with rfl | hy
 ·omega
 ·have := (List.pairwise_cons.1 h.2.1).1 y hy
  omega
theorem good_len {u:Nat → Int} {lo hi:Nat} {L:List (Nat × Int)} (h:Good u lo hi L):L.length ≤ hi - lo := by
 have key:∀ (L:List (Nat × Int)) (hi:Nat),(∀ x ∈ L,lo ≤ x.1 ∧ x.1 < hi) → L.Pairwise (fun x y => y.1 < x.1 ∧ x.2 < y.2) → L.length ≤ hi - lo := by
  intro L
  induction L with
  | nil => intro hi _ _;simp
  | cons x M ih =>
   intro hi h1 h2
   have h3 := List.pairwise_cons.1 h2
   have h4 := h1 x (by simp)
   have h5 := ih x.1 (fun y hy => ⟨(h1 y (by simp [hy])).1,(h3.1 y hy).1⟩) h3.2
   simp only [List.length_cons]
   omega
 exact key L hi (fun x hx => ⟨(h.1 x hx).1,(h.1 x hx).2.1⟩) h.2.1
theorem pk_facts (L:List (Nat × Int)) (c:Int) (k:Nat) (hk:k ≤ L.length):(∀ j,pk L c k ≤ j → j < k → c ≤ (L.getD j (0,0)).2) ∧ (0 < pk L c k → (L.getD (pk L c k - 1) (0,0)).2 < c) := by
 induction k with
 | zero => simp [pk]
 | succ k ih =>
  have h1 := ih (by omega)
  have h2 := pk_le L c k
  simp only [pk]
  split
  ·rename_i hc
   refine ⟨fun j hj1 hj2 => ?_,h1.2⟩
   by_cases e:j = k
   ·subst e;exact hc
   ·exact h1.1 j hj1 (by omega)
  ·rename_i hc
   exact ⟨fun j hj1 hj2 => by omega,fun _ => by simpa using hc⟩
theorem pw_get {L:List (Nat × Int)} (h:L.Pairwise (fun x y => y.1 < x.1 ∧ x.2 < y.2)) (i j:Nat) (hij:i < j) (hj:j < L.length):(L.getD j (0,0)).1 < (L.getD i (0,0)).1 ∧ (L.getD i (0,0)).2 < (L.getD j (0,0)).2 := by
 have := (List.pairwise_iff_getElem.1 h) i j (by omega) hj hij
 rw [List.getD_eq_getElem?_getD,List.getD_eq_getElem?_getD,List.getElem?_eq_getElem hj,List.getElem?_eq_getElem (show i < L.length by omega)]
 exact this
theorem good_add {u:Nat → Int} {i hi:Nat} {L:List (Nat × Int)} (h:Good u (i + 1) hi L) (hi':i < hi):Good u i hi (L.take (pk L (u i) L.length) ++ [(i,u i)]) := by
 obtain ⟨p1,p2⟩ := pk_facts L (u i) L.length (Nat.le_refl _)
 have hp := pk_le L (u i) L.length
 generalize pk L (u i) L.length = p at *
 have htake:∀ x ∈ L.take p,x.2 < u i := by
  intro x hx
  obtain ⟨j,hj,e⟩ := List.mem_iff_getElem.1 hx
  rw [List.length_take] at hj
  rw [List.getElem_take] at e
  have hpp:0 < p := by omega
  have h3 := p2 hpp
  by_cases c:j = p - 1
  ·subst c
   rw [List.getD_eq_getElem?_getD,List.getElem?_eq_getElem (by omega)] at h3
   rw [← e];exact h3
  ·have := (pw_get h.2.1 j (p - 1) (by omega) (by omega)).2
   rw [List.getD_eq_getElem?_getD,List.getElem?_eq_getElem (show j < L.length by omega)] at this
   simp only [Option.getD_some] at this
   rw [e] at this
   omega
 refine ⟨fun x hx => ?_,?_,fun e h1 h2 => ?_⟩
 ·rcases List.mem_append.1 hx with hx | hx
  ·have := h.1 x (List.mem_of_mem_take hx)
   exact ⟨by omega,this.2⟩
  ·simp at hx;subst hx;exact ⟨Nat.le_refl _,hi',rfl⟩
 ·rw [List.pairwise_append]
  refine ⟨h.2.1.sublist (List.take_sublist _ _),by simp,fun x hx y hy => ?_⟩
  simp at hy
  subst hy
  exact ⟨by have := (h.1 x (List.mem_of_mem_take hx)).1;simp only;omega,htake x hx⟩
 ·by_cases c:e = i
  ·subst c
   exact ⟨(e,u e),by simp,Nat.le_refl _,Int.le_refl _⟩
  ·obtain ⟨x,hx,h3,h4⟩ := h.2.2 e (by omega) h2
   obtain ⟨j,hj,ej⟩ := List.mem_iff_getElem.1 hx
   by_cases cj:j < p
   ·refine ⟨x,?_,h3,h4⟩
    rw [List.mem_append]
    left
    rw [List.mem_iff_getElem]
    exact ⟨j,by rw [List.length_take];omega,by rw [List.getElem_take];exact ej⟩
   ·have := p1 j (by omega) hj
    rw [List.getD_eq_getElem?_getD,List.getElem?_eq_getElem hj] at this
    simp only [Option.getD_some] at this
    rw [ej] at this
    exact ⟨(i,u i),by simp,by simp only;omega,by simp only;omega⟩
theorem good_dr {u:Nat → Int} {lo hi nr:Nat} {L:List (Nat × Int)} (h:Good u lo hi L) (hn:nr ≤ hi):Good u lo nr (dr nr L) := by
 have key:∀ (L:List (Nat × Int)),L.Pairwise (fun x y => y.1 < x.1 ∧ x.2 < y.2) → ∀ x,x ∈ dr nr L ↔ x ∈ L ∧ x.1 < nr := by
  intro L
  induction L with
  | nil => intro _ x;simp [dr]
  | cons y M ih =>
   intro hp x
   have hp2 := List.pairwise_cons.1 hp
   have h1 := ih hp2.2 x
   unfold dr at h1 ⊢
   rw [List.dropWhile_cons]
   by_cases c:nr ≤ y.1
   ·rw [if_pos (by simp;omega),h1,List.mem_cons]
    constructor
    ·rintro ⟨a,b⟩;exact ⟨.inr a,b⟩
    ·rintro ⟨a | a,b⟩
     ·subst a;omega
     ·exact ⟨a,b⟩
   ·rw [if_neg (by simp;omega)]
    constructor
    ·intro hx
     refine ⟨hx,?_⟩
     rcases List.mem_cons.1 hx with rfl | hx
     ·omega
     ·have := hp2.1 x hx;omega
    ·exact fun hx => hx.1
 have hk := key L h.2.1
 refine ⟨fun x hx => ?_,h.2.1.sublist (List.dropWhile_sublist _),fun e h1 h2 => ?_⟩
 ·have := (hk x).1 hx
  have h3 := h.1 x this.1
  exact ⟨h3.1,this.2,h3.2.2⟩
 ·obtain ⟨x,hx,h3,h4⟩ := h.2.2 e h1 (by omega)
  exact ⟨x,(hk x).2 ⟨hx,by omega⟩,h3,h4⟩
section
variable (I:Nat → Itm) (n:Nat) (width:Int) (s:Stg) (R:Nat → Nat → Int × Nat) (i:Nat)
def rj (j:Nat):Int := (R j (ftb I n width ((i:Int) - 1) j).cls.toNat).1
def ChS (C:Nat → Ln) (e:Nat):Prop := ∀ c,c < 4 → ((C c).c = Awf ∧ ∀ j,i ≤ j → j < e → doz I n width s ((i:Int) - 1) j = true → (ftb I n width ((i:Int) - 1) j).cls = (c:Int) → rj I n width R i j = Awf) ∨
 (∃ j,i ≤ j ∧ j < e ∧ doz I n width s ((i:Int) - 1) j = true ∧ (ftb I n width ((i:Int) - 1) j).cls = (c:Int) ∧ rj I n width R i j ≠ Awf ∧ (C c).e = (j:Int) ∧ (C c).c = vC I n width s R ((i:Int) - 1) j ∧ ((C c).f.over = (ftb I n width ((i:Int) - 1) j).over ∧ (C c).f.bad = (ftb I n width ((i:Int) - 1) j).bad ∧ (C c).f.cls = (ftb I n width ((i:Int) - 1) j).cls) ∧
  ∀ j',i ≤ j' → j' < e → doz I n width s ((i:Int) - 1) j' = true → (ftb I n width ((i:Int) - 1) j').cls = (c:Int) → rj I n width R i j' ≠ Awf → vC I n width s R ((i:Int) - 1) j < vC I n width s R ((i:Int) - 1) j' ∨ (vC I n width s R ((i:Int) - 1) j = vC I n width s R ((i:Int) - 1) j' ∧ j ≤ j'))
end
section
variable {I:Nat → Itm} {n:Nat} {width:Int} {s:Stg} {R:Nat → Nat → Int × Nat} {i:Nat}
theorem chs_start:ChS I n width s R i (fun _ => Ln.none) i := fun c hc => .inl ⟨rfl,fun j h1 h2 => by omega⟩
theorem vC_less (hn:n ≤ 262144) (hok:∀ i,i < n → okI I i = true) (hs:okS s = true) (a:Int) (j:Nat) (hd:doz I n width s ((i:Int) - 1) j = true) (r:Int) (hr:r = Awf ∨ (0 ≤ r ∧ r ≤ 140737488355328)) :
  ((r = Awf ∧ tt (cst s (ftb I n width ((i:Int) - 1) j) (itb I n j) a (itb I n ((i:Int) - 1)).flag (decide (j + 1 = nbk I n))) r = Awf) ∨ (r ≠ Awf ∧ tt (cst s (ftb I n width ((i:Int) - 1) j) (itb I n j) a (itb I n ((i:Int) - 1)).flag (decide (j + 1 = nbk I n))) r = bas s (ftb I n width ((i:Int) - 1) j) (itb I n j) (itb I n ((i:Int) - 1)).flag (decide (j + 1 = nbk I n)) + adj s a (ftb I n width ((i:Int) - 1) j).cls + r ∧ tt (cst s (ftb I n width ((i:Int) - 1) j) (itb I n j) a (itb I n ((i:Int) - 1)).flag (decide (j + 1 = nbk I n))) r < Awf)) := by
 have hb := ftb_cls I n width ((i:Int) - 1) j
 simp [doz] at hd
 obtain ⟨e,b1,b2⟩ := cst_parts s (ftb I n width ((i:Int) - 1) j) (itb I n j) a (itb I n ((i:Int) - 1)).flag (decide (j + 1 = nbk I n)) hs hb.2.2 (itb_c I n hok j) hd.1
 rw [e]
 rcases hr with rfl | hr
 ·left
  refine ⟨rfl,?_⟩
  rw [tt_sum _ _ (by omega) (by unfold Awf;omega)]
  unfold Awf;omega
 ·right
  have hne:r ≠ Awf := by unfold Awf;omega
  refine ⟨hne,?_⟩
  rw [tt_sum _ _ (by omega) hr.1]
  unfold Awf;omega
end
end Go.Proofs.YtcjcdpfjnomehaaGreat
namespace Go.Proofs.YtcjcdpfjnomehaaGreat
set_option maxRecDepth 100000
set_option maxHeartbeats 40000000
set_option linter.unusedSimpArgs false
set_option linter.unusedVariables false
section
variable {I:Nat → Itm} {n:Nat} {width:Int} {s:Stg} {R:Nat → Nat → Int × Nat} {i:Nat}
theorem rj_bnd {j:Nat} (hR:∀ c,c < 4 → (R j c).1 = Awf ∨ (0 ≤ (R j c).1 ∧ (R j c).1 ≤ 140737488355328)):rj I n width R i j = Awf ∨ (0 ≤ rj I n width R i j ∧ rj I n width R i j ≤ 140737488355328) := by
 have := ftb_cls I n width ((i:Int) - 1) j
 exact hR _ (by omega)
theorem chs_skip {C:Nat → Ln} {e:Nat} (h:ChS I n width s R i C e) (hd:doz I n width s ((i:Int) - 1) e = false):ChS I n width s R i C (e + 1) := by
 intro c hc
 rcases h c hc with ⟨h1,h2⟩ | ⟨j,j1,j2,j3,j4,j5,j6,j7,j8,j9⟩
 ·refine .inl ⟨h1,fun j h3 h4 h5 h6 => ?_⟩
  by_cases ce:j = e
  ·subst ce;rw [hd] at h5;cases h5
  ·exact h2 j h3 (by omega) h5 h6
 ·refine .inr ⟨j,j1,by omega,j3,j4,j5,j6,j7,j8,fun j' h3 h4 h5 h6 h7 => ?_⟩
  by_cases ce:j' = e
  ·subst ce;rw [hd] at h5;cases h5
  ·exact j9 j' h3 (by omega) h5 h6 h7
theorem chs_take (hn:n ≤ 262144) (hok:∀ i,i < n → okI I i = true) (hs:okS s = true) {C:Nat → Ln} {e:Nat} (h:ChS I n width s R i C e) (hie:i ≤ e) (hd:doz I n width s ((i:Int) - 1) e = true) (hR:∀ c,c < 4 → (R e c).1 = Awf ∨ (0 ≤ (R e c).1 ∧ (R e c).1 ≤ 140737488355328)) (x:Ln)
  (hx1:x.e = (e:Int)) (hx2:x.c = vC I n width s R ((i:Int) - 1) e) (hx3:x.f.over = (ftb I n width ((i:Int) - 1) e).over ∧ x.f.bad = (ftb I n width ((i:Int) - 1) e).bad ∧ x.f.cls = (ftb I n width ((i:Int) - 1) e).cls) :
  ChS I n width s R i (tkC C x (ftb I n width ((i:Int) - 1) e).cls.toNat) (e + 1) := by
 have hcl := ftb_cls I n width ((i:Int) - 1) e
 have hv := vC_less (i := i) hn hok hs (-1) e hd _ (rj_bnd (I := I) (n := n) (width := width) (i := i) hR)
 have hvc:vC I n width s R ((i:Int) - 1) e = tt (cst s (ftb I n width ((i:Int) - 1) e) (itb I n e) (-1) (itb I n ((i:Int) - 1)).flag (decide (e + 1 = nbk I n))) (rj I n width R i e) := rfl
 rw [← hvc] at hv
 generalize hk:(ftb I n width ((i:Int) - 1) e).cls.toNat = k at *
 have hkc:(ftb I n width ((i:Int) - 1) e).cls = (k:Int) := by omega
 have hk4:k < 4 := by omega
 intro c hc
 by_cases ck:c = k
 ·subst ck
  unfold tkC
  rcases h c hc with ⟨h1,h2⟩ | ⟨j,j1,j2,j3,j4,j5,j6,j7,j8,j9⟩
  ·by_cases ct:x.c < (C c).c
   ·rw [if_pos ct]
    rw [hx2,h1] at ct
    have hne:rj I n width R i e ≠ Awf := by
     rcases hv with hv | hv
     ·rw [hv.2] at ct;exact absurd ct (Int.lt_irrefl _)
     ·exact hv.1
    refine .inr ⟨e,hie,by omega,hd,hkc,hne,by simp [hx1],by simp [hx2],by simp [hx3],fun j' h3 h4 h5 h6 h7 => ?_⟩
    by_cases ce:j' = e
    ·subst ce;exact .inr ⟨rfl,Nat.le_refl _⟩
    ·exact absurd (h2 j' h3 (by omega) h5 h6) h7
   ·rw [if_neg ct]
    rw [hx2,h1] at ct
    refine .inl ⟨h1,fun j h3 h4 h5 h6 => ?_⟩
    by_cases ce:j = e
    ·subst ce
     rcases hv with hv | hv
     ·exact hv.1
     ·exact absurd hv.2.2 ct
    ·exact h2 j h3 (by omega) h5 h6
  ·by_cases ct:x.c < (C c).c
   ·rw [if_pos ct]
    rw [hx2,j7] at ct
    have hvj:vC I n width s R ((i:Int) - 1) e < Awf := by
     rcases hv with hv | hv
     ·exfalso
      rw [hv.2] at ct
      have:vC I n width s R ((i:Int) - 1) j ≤ Awf := Int.min_le_right _ _
      omega
     ·exact hv.2.2
    have hne:rj I n width R i e ≠ Awf := by
     rcases hv with hv | hv
     ·rw [hv.2] at hvj;exact absurd hvj (Int.lt_irrefl _)
     ·exact hv.1
    refine .inr ⟨e,hie,by omega,hd,hkc,hne,by simp [hx1],by simp [hx2],by simp [hx3],fun j' h3 h4 h5 h6 h7 => ?_⟩
    by_cases ce:j' = e
    ·subst ce;exact .inr ⟨rfl,Nat.le_refl _⟩
    ·have := j9 j' h3 (by omega) h5 h6 h7
     left;omega
   ·rw [if_neg ct]
    rw [hx2,j7] at ct
    refine .inr ⟨j,j1,by omega,j3,j4,j5,j6,j7,j8,fun j' h3 h4 h5 h6 h7 => ?_⟩
    by_cases ce:j' = e
    ·subst ce;omega
    ·exact j9 j' h3 (by omega) h5 h6 h7
 ·have hC:tkC C x k c = C c := by
   unfold tkC
   split
   ·simp [ck]
   ·rfl
  rcases h c hc with ⟨h1,h2⟩ | ⟨j,j1,j2,j3,j4,j5,j6,j7,j8,j9⟩
  ·rw [hC]
   refine .inl ⟨h1,fun j h3 h4 h5 h6 => ?_⟩
   by_cases ce:j = e
   ·subst ce;omega
   ·exact h2 j h3 (by omega) h5 h6
  ·rw [hC]
   refine .inr ⟨j,j1,by omega,j3,j4,j5,j6,j7,j8,fun j' h3 h4 h5 h6 h7 => ?_⟩
   by_cases ce:j' = e
   ·subst ce;omega
   ·exact j9 j' h3 (by omega) h5 h6 h7
theorem chs_hfu (hn:n ≤ 262144) (hok:∀ i,i < n → okI I i = true) (hs:okS s = true) {C:Nat → Ln} {nr:Nat} (h:ChS I n width s R i C nr) (hi:i ≤ nr) (e:Nat) (he:nr ≤ e) (hR:∀ j,i ≤ j → j < e → ∀ c,c < 4 → (R j c).1 = Awf ∨ (0 ≤ (R j c).1 ∧ (R j c).1 ≤ 140737488355328)):ChS I n width s R i (hfu I n width s R ((i:Int) - 1) nr e C) e := by
 induction e with
 | zero =>
  have:nr = 0 := by omega
  subst this
  exact h
 | succ e ih =>
  by_cases c:nr ≤ e
  ·have h1 := ih c (fun j hj1 hj2 => hR j hj1 (by omega))
   rw [hfu_step I n width s R ((i:Int) - 1) nr e c]
   unfold hst
   cases hd:doz I n width s ((i:Int) - 1) e
   ·rw [if_neg (by simp)];exact chs_skip h1 hd
   ·rw [if_pos rfl];exact chs_take hn hok hs h1 (by omega) hd (hR e (by omega) (by omega)) _ rfl rfl ⟨rfl,rfl,rfl⟩
  ·have:nr = e + 1 := by omega
   subst this
   rw [hfu_le I n width s R ((i:Int) - 1) (e + 1) (e + 1) (Nat.le_refl _)]
   exact h
theorem chs_hop (hn:n ≤ 262144) (hok:∀ i,i < n → okI I i = true) (hs:okS s = true) (hw:1 ≤ width ∧ width ≤ 1073741824) {nr:Nat} (hi:i ≤ nr) (hnm:nr ≤ nbk I n) (hh:nr = i ∨ hpl I n width ((i:Int) - 1) ((nr - 1:Nat):Int) = true) (hR:∀ j,i ≤ j → j < nr → ∀ c,c < 4 → (R j c).1 = Awf ∨ (0 ≤ (R j c).1 ∧ (R j c).1 ≤ 140737488355328)) (L:List (Nat × Int))
  (hL:(s.t = 10000 ∧ Good (fun e => uC I n s (itb I n ((i:Int) - 1)).flag e (R e 3).1) i nr L) ∨ (s.t ≠ 10000 ∧ L = [])):ChS I n width s R i (hop (fun _ => Ln.none) L) nr := by
 have hst := (okS_iff s).1 hs
 -- all of them are hopeless
 have hall:∀ j,i ≤ j → j < nr → (ftb I n width ((i:Int) - 1) j).bad = 10000 ∧ (ftb I n width ((i:Int) - 1) j).cls = 3 ∧ (ftb I n width ((i:Int) - 1) j).over = false := by
  intro j h1 h2
  rcases hh with hh | hh
  ·omega
  ·exact hpl_fit I n hn hok width _ j hw (by omega) (hpl_less I n hok width _ j (nr - 1) (by omega) (by omega) hh)
 rcases hL with ⟨ht,hG⟩ | ⟨ht,rfl⟩
 ·have hdo:∀ j,i ≤ j → j < nr → doz I n width s ((i:Int) - 1) j = true := by
   intro j h1 h2
   obtain ⟨a1,a2,a3⟩ := hall j h1 h2
   simp [doz,a1,a3,ht]
  have hvu:∀ j,i ≤ j → j < nr → vC I n width s R ((i:Int) - 1) j = uC I n s (itb I n ((i:Int) - 1)).flag j (R j 3).1 ∧ rj I n width R i j = (R j 3).1 := by
   intro j h1 h2
   obtain ⟨a1,a2,a3⟩ := hall j h1 h2
   unfold vC uC rj
   rw [cst_like s (ftb I n width ((i:Int) - 1) j) wF (itb I n j) (-1) (itb I n ((i:Int) - 1)).flag (decide (j + 1 = nbk I n)) a3 a1 a2,a2]
   exact ⟨rfl,rfl⟩
  cases L with
  | nil =>
   have := good_empty hG
   obtain rfl:nr = i := by omega
   exact chs_start
  | cons x M =>
   obtain ⟨⟨x1,x2,x3⟩,hmin⟩ := good_head hG
   have hvx := vC_less (i := i) hn hok hs (-1) x.1 (hdo x.1 x1 x2) _ (rj_bnd (I := I) (n := n) (width := width) (i := i) (hR x.1 x1 x2))
   have hvc:vC I n width s R ((i:Int) - 1) x.1 = tt (cst s (ftb I n width ((i:Int) - 1) x.1) (itb I n x.1) (-1) (itb I n ((i:Int) - 1)).flag (decide (x.1 + 1 = nbk I n))) (rj I n width R i x.1) := rfl
   rw [← hvc] at hvx
   have hxv:x.2 = vC I n width s R ((i:Int) - 1) x.1 := by rw [(hvu x.1 x1 x2).1];exact x3
   obtain ⟨a1,a2,a3⟩ := hall x.1 x1 x2
   show ChS I n width s R i (tkC (fun _ => Ln.none) ⟨x.1,wF,x.2⟩ 3) nr
   unfold tkC
   by_cases ct:x.2 < Awf
   ·rw [if_pos (by show x.2 < Awf;exact ct)]
    have hne:rj I n width R i x.1 ≠ Awf := by
     rcases hvx with hvx | hvx
     ·rw [hxv,hvx.2] at ct;exact absurd ct (Int.lt_irrefl _)
     ·exact hvx.1
    intro c hc
    by_cases ck:c = 3
    ·subst ck
     refine .inr ⟨x.1,x1,x2,hdo x.1 x1 x2,by rw [a2];rfl,hne,by simp,by simp [hxv],by simp [wF,a1,a2,a3],fun j' h3 h4 h5 h6 h7 => ?_⟩
     have := hmin j' h3 h4
     rw [← (hvu j' h3 h4).1,hxv] at this
     exact this
    ·simp only [if_neg ck]
     refine .inl ⟨rfl,fun j h3 h4 h5 h6 => ?_⟩
     have := (hall j h3 h4).2.1
     omega
   ·rw [if_neg (by show ¬ x.2 < Awf;exact ct)]
    intro c hc
    refine .inl ⟨rfl,fun j h3 h4 h5 h6 => ?_⟩
    have h7 := hmin j h3 h4
    rw [← (hvu j h3 h4).1] at h7
    have hvj := vC_less (i := i) hn hok hs (-1) j h5 _ (rj_bnd (I := I) (n := n) (width := width) (i := i) (hR j h3 h4))
    have hvc:vC I n width s R ((i:Int) - 1) j = tt (cst s (ftb I n width ((i:Int) - 1) j) (itb I n j) (-1) (itb I n ((i:Int) - 1)).flag (decide (j + 1 = nbk I n))) (rj I n width R i j) := rfl
    rw [← hvc] at hvj
    rcases hvj with hvj | hvj
    ·exact hvj.1
    ·omega
 ·intro c hc
  refine .inl ⟨rfl,fun j h3 h4 h5 h6 => ?_⟩
  obtain ⟨a1,a2,a3⟩ := hall j h3 h4
  simp [doz,a1] at h5
  omega
theorem chs_wide (hn:n ≤ 262144) (hok:∀ i,i < n → okI I i = true) {C:Nat → Ln} {st bd:Nat} (h:ChS I n width s R i C st) (hb:bd ≤ nbk I n) (hsb:st ≤ bd) (hst:st = bd ∨ width < (upt I n (bk I n ((i:Int) - 1)) (bk I n st)).w - (upt I n (bk I n ((i:Int) - 1)) (bk I n st)).sh):ChS I n width s R i C bd := by
 rcases hst with rfl | hst
 ·exact h
 ·have hno:∀ j,st ≤ j → j < bd → doz I n width s ((i:Int) - 1) j = false := by
   intro j h1 h2
   have := wide_over I n hn hok width ((i:Int) - 1) st j h1 (by omega) hst
   simp [doz,this]
  intro c hc
  rcases h c hc with ⟨h1,h2⟩ | ⟨j,j1,j2,j3,j4,j5,j6,j7,j8,j9⟩
  ·refine .inl ⟨h1,fun j h3 h4 h5 h6 => ?_⟩
   by_cases ce:j < st
   ·exact h2 j h3 ce h5 h6
   ·rw [hno j (by omega) h4] at h5;cases h5
  ·refine .inr ⟨j,j1,by omega,j3,j4,j5,j6,j7,j8,fun j' h3 h4 h5 h6 h7 => ?_⟩
   by_cases ce:j' < st
   ·exact j9 j' h3 ce h5 h6 h7
   ·rw [hno j' (by omega) h4] at h5;cases h5
theorem chp_rst (hn:n ≤ 262144) (hok:∀ i,i < n → okI I i = true) (hs:okS s = true) {C:Nat → Ln} {bd:Nat} (h:ChS I n width s R i C bd) (hi:i < bd) (hb:bd ≤ nbk I n) (hf1:∀ q,i ≤ q → q + 1 < bd → forc (itb I n q) = false) (hf2:forc (itb I n ((bd - 1:Nat):Int)) = true)
  (hR:∀ j,i ≤ j → j < nbk I n → ∀ c:Nat,c < 4 → Rst (PT I n width s s.t) (j + 1) (c:Int) (R j c).1 (R j c).2) (a:Int) :
  ∃ nx:Nat,(chp I n s R C a (itb I n ((i:Int) - 1)).flag 4).2 = (nx:Int) ∧ Rst (PT I n width s s.t) i a (chp I n s R C a (itb I n ((i:Int) - 1)).flag 4).1 nx := by
 have hB := bnd_of I n width s s.t hn hok hs
 have hRb:∀ j,i ≤ j → j < nbk I n → ∀ c,c < 4 → (R j c).1 = Awf ∨ (0 ≤ (R j c).1 ∧ (R j c).1 ≤ 140737488355328) := fun j h1 h2 c hc => rst_bnd hB (hR j h1 h2 c hc)
 -- which lines there may be
 have hmay:∀ j,mayL (PT I n width s s.t) i j = true ↔ i ≤ j ∧ j < bd ∧ doz I n width s ((i:Int) - 1) j = true := by
  intro j
  rw [mayL_iff]
  constructor
  ·rintro ⟨h1,h2,h3,h4⟩
   refine ⟨h1,?_,h3⟩
   by_cases c:j < bd
   ·exact c
   ·have := h4 (bd - 1) (by omega) (by omega)
    simp only [PT] at this
    rw [hf2] at this;cases this
  ·rintro ⟨h1,h2,h3⟩
   exact ⟨h1,by simp only [PT];omega,h3,fun q hq1 hq2 => hf1 q hq2 (by omega)⟩
 have hct:∀ j,(PT I n width s s.t).ct i j a = cst s (ftb I n width ((i:Int) - 1) j) (itb I n j) a (itb I n ((i:Int) - 1)).flag (decide (j + 1 = nbk I n)) := fun j => rfl
 -- what a class's line costs
 have hcq:∀ c,c < 4 → (C c).c ≠ Awf → ∃ j,(i ≤ j ∧ j < bd ∧ doz I n width s ((i:Int) - 1) j = true) ∧ (ftb I n width ((i:Int) - 1) j).cls = (c:Int) ∧ rj I n width R i j ≠ Awf ∧ (C c).e = (j:Int) ∧ cq I n s R C a (itb I n ((i:Int) - 1)).flag c = tt ((PT I n width s s.t).ct i j a) (rj I n width R i j) ∧ cq I n s R C a (itb I n ((i:Int) - 1)).flag c < Awf ∧
   ∀ j',i ≤ j' → j' < bd → doz I n width s ((i:Int) - 1) j' = true → (ftb I n width ((i:Int) - 1) j').cls = (c:Int) → rj I n width R i j' ≠ Awf → cq I n s R C a (itb I n ((i:Int) - 1)).flag c < tt ((PT I n width s s.t).ct i j' a) (rj I n width R i j') ∨ (cq I n s R C a (itb I n ((i:Int) - 1)).flag c = tt ((PT I n width s s.t).ct i j' a) (rj I n width R i j') ∧ j ≤ j') := by
  intro c hc hA
  rcases h c hc with ⟨h1,h2⟩ | ⟨j,j1,j2,j3,j4,j5,j6,j7,⟨j8,j8b,j8c⟩,j9⟩
  ·exact absurd h1 hA
  ·have e1:cq I n s R C a (itb I n ((i:Int) - 1)).flag c = tt ((PT I n width s s.t).ct i j a) (rj I n width R i j) := by
    unfold cq rj
    rw [hct,j6,cst_like s (C c).f (ftb I n width ((i:Int) - 1) j) (itb I n j) a (itb I n ((i:Int) - 1)).flag _ j8 j8b j8c,j8c]
    simp only [Int.toNat_natCast]
    congr 2
    rw [Bool.eq_iff_iff];simp;omega
   have hv := vC_less (i := i) hn hok hs a j j3 _ (rj_bnd (I := I) (n := n) (width := width) (i := i) (hRb j j1 (by omega)))
   rw [← hct] at hv
   have hv1 := vC_less (i := i) hn hok hs (-1) j j3 _ (rj_bnd (I := I) (n := n) (width := width) (i := i) (hRb j j1 (by omega)))
   have hvc:∀ j,vC I n width s R ((i:Int) - 1) j = tt (cst s (ftb I n width ((i:Int) - 1) j) (itb I n j) (-1) (itb I n ((i:Int) - 1)).flag (decide (j + 1 = nbk I n))) (rj I n width R i j) := fun j => rfl
   rw [← hvc] at hv1
   rcases hv with hv | ⟨-,hv2,hv3⟩
   ·exact absurd hv.1 j5
   rcases hv1 with hv1 | ⟨-,hv12,hv13⟩
   ·exact absurd hv1.1 j5
   refine ⟨j,⟨j1,j2,j3⟩,j4,j5,j6,e1,by rw [e1];exact hv3,fun j' h3 h4 h5 h6 h7 => ?_⟩
   have hw := vC_less (i := i) hn hok hs a j' h5 _ (rj_bnd (I := I) (n := n) (width := width) (i := i) (hRb j' h3 (by omega)))
   rw [← hct] at hw
   have hw1 := vC_less (i := i) hn hok hs (-1) j' h5 _ (rj_bnd (I := I) (n := n) (width := width) (i := i) (hRb j' h3 (by omega)))
   rw [← hvc] at hw1
   rcases hw with hw | ⟨-,hw2,hw3⟩
   ·exact absurd hw.1 h7
   rcases hw1 with hw1 | ⟨-,hw12,hw13⟩
   ·exact absurd hw1.1 h7
   have := j9 j' h3 h4 h5 h6 h7
   rw [e1,hv2,hw2]
   rw [hv12,hw12] at this
   rw [j4] at this ⊢
   rw [h6] at this ⊢
   omega
 -- the cheapest of the first classes
 have hchp:∀ k,k ≤ 4 → ((chp I n s R C a (itb I n ((i:Int) - 1)).flag k = (Awf,0) ∧ ∀ c,c < k → (C c).c = Awf) ∨ ∃ c,c < k ∧ (C c).c ≠ Awf ∧ chp I n s R C a (itb I n ((i:Int) - 1)).flag k = (cq I n s R C a (itb I n ((i:Int) - 1)).flag c,(C c).e) ∧ ∀ c',c' < k → (C c').c ≠ Awf → cq I n s R C a (itb I n ((i:Int) - 1)).flag c < cq I n s R C a (itb I n ((i:Int) - 1)).flag c' ∨ (cq I n s R C a (itb I n ((i:Int) - 1)).flag c = cq I n s R C a (itb I n ((i:Int) - 1)).flag c' ∧ (C c).e ≤ (C c').e)) := by
  intro k
  induction k with
  | zero => intro _;exact .inl ⟨rfl,fun c hc => by omega⟩
  | succ k ih =>
   intro hk
   simp only [chp]
   by_cases cA:(C k).c = Awf
   ·rw [if_pos cA]
    rcases ih (by omega) with ⟨h1,h2⟩ | ⟨c,h1,h2,h3,h4⟩
    ·refine .inl ⟨h1,fun c hc => ?_⟩
     by_cases ce:c = k
     ·subst ce;exact cA
     ·exact h2 c (by omega)
    ·refine .inr ⟨c,by omega,h2,h3,fun c' hc' hA' => ?_⟩
     by_cases ce:c' = k
     ·subst ce;exact absurd cA hA'
     ·exact h4 c' (by omega) hA'
   ·rw [if_neg cA]
    have hlt:cq I n s R C a (itb I n ((i:Int) - 1)).flag k < Awf := by obtain ⟨j,-,-,-,-,-,h6,-⟩ := hcq k (by omega) cA;exact h6
    rcases ih (by omega) with ⟨h1,h2⟩ | ⟨c,h1,h2,h3,h4⟩
    ·rw [h1,if_pos (.inl hlt)]
     refine .inr ⟨k,by omega,cA,rfl,fun c' hc' hA' => ?_⟩
     by_cases ce:c' = k
     ·subst ce;exact .inr ⟨rfl,Int.le_refl _⟩
     ·exact absurd (h2 c' (by omega)) hA'
    ·rw [h3]
     simp only
     split
     ·rename_i hcond
      refine .inr ⟨k,by omega,cA,rfl,fun c' hc' hA' => ?_⟩
      by_cases ce:c' = k
      ·subst ce;exact .inr ⟨rfl,Int.le_refl _⟩
      ·have := h4 c' (by omega) hA'
       omega
     ·rename_i hcond
      refine .inr ⟨c,by omega,h2,rfl,fun c' hc' hA' => ?_⟩
      by_cases ce:c' = k
      ·subst ce;omega
      ·exact h4 c' (by omega) hA'
 have hRs:∀ j,mayL (PT I n width s s.t) i j = true → Rst (PT I n width s s.t) (j + 1) ((PT I n width s s.t).kl i j) (rj I n width R i j) (R j (ftb I n width ((i:Int) - 1) j).cls.toNat).2 := by
  intro j hj
  obtain ⟨h1,h2,-⟩ := (hmay j).1 hj
  have hcl := ftb_cls I n width ((i:Int) - 1) j
  have := hR j h1 (by omega) (ftb I n width ((i:Int) - 1) j).cls.toNat (by omega)
  rw [show (((ftb I n width ((i:Int) - 1) j).cls.toNat:Nat):Int) = (ftb I n width ((i:Int) - 1) j).cls by omega] at this
  exact this
 have hcls:∀ j,∃ c:Nat,c < 4 ∧ (ftb I n width ((i:Int) - 1) j).cls = (c:Int) := fun j => ⟨(ftb I n width ((i:Int) - 1) j).cls.toNat,by have := ftb_cls I n width ((i:Int) - 1) j;omega,by have := ftb_cls I n width ((i:Int) - 1) j;omega⟩
 rcases hchp 4 (Nat.le_refl _) with ⟨h1,h2⟩ | ⟨c,h1,h2,h3,h4⟩
 ·refine ⟨0,by rw [h1];rfl,rst_step _ hB i (by simp only [PT];omega) a (rj I n width R i) _ hRs _ 0 (.inl ⟨by rw [h1],fun j hj => ?_⟩)⟩
  obtain ⟨a1,a2,a3⟩ := (hmay j).1 hj
  obtain ⟨c,hc,ec⟩ := hcls j
  rcases h c hc with ⟨q1,q2⟩ | ⟨j',p1,p2,p3,p4,p5,p6,p7,p8,p9⟩
  ·exact q2 j a1 a2 a3 ec
  ·exfalso
   have := vC_less (i := i) hn hok hs (-1) j' p3 _ (rj_bnd (I := I) (n := n) (width := width) (i := i) (hRb j' p1 (by omega)))
   rcases this with this | ⟨-,-,this⟩
   ·exact p5 this.1
   ·have hcc := h2 c hc
    rw [p7] at hcc
    have e:vC I n width s R ((i:Int) - 1) j' = tt (cst s (ftb I n width ((i:Int) - 1) j') (itb I n j') (-1) (itb I n ((i:Int) - 1)).flag (decide (j' + 1 = nbk I n))) (rj I n width R i j') := rfl
    rw [← e,hcc] at this
    exact absurd this (Int.lt_irrefl _)
 ·obtain ⟨j,q1,q2,q3,q4,q5,q6,q7⟩ := hcq c h1 h2
  refine ⟨j,by rw [h3];exact q4,rst_step _ hB i (by simp only [PT];omega) a (rj I n width R i) _ hRs _ j (.inr ⟨(hmay j).2 q1,q3,by rw [h3];exact q5,fun j' hj' hne => ?_⟩)⟩
  rw [h3]
  simp only
  obtain ⟨a1,a2,a3⟩ := (hmay j').1 hj'
  obtain ⟨c',hc',ec'⟩ := hcls j'
  have hA':(C c').c ≠ Awf := by
   rcases h c' hc' with ⟨p1,p2⟩ | ⟨j2,p1,p2,p3,p4,p5,p6,p7,p8,p9⟩
   ·exact absurd (p2 j' a1 a2 a3 ec') hne
   ·have := vC_less (i := i) hn hok hs (-1) j2 p3 _ (rj_bnd (I := I) (n := n) (width := width) (i := i) (hRb j2 p1 (by omega)))
    rcases this with this | ⟨-,-,this⟩
    ·exact absurd this.1 p5
    ·rw [p7]
     intro e
     have e2:vC I n width s R ((i:Int) - 1) j2 = tt (cst s (ftb I n width ((i:Int) - 1) j2) (itb I n j2) (-1) (itb I n ((i:Int) - 1)).flag (decide (j2 + 1 = nbk I n))) (rj I n width R i j2) := rfl
     rw [← e2,e] at this
     exact absurd this (Int.lt_irrefl _)
  obtain ⟨j2,p1,p2,p3,p4,p5,p6,p7⟩ := hcq c' hc' hA'
  have r1 := h4 c' hc' hA'
  have r2 := p7 j' a1 a2 a3 ec' hne
  rw [q4,p4] at r1
  omega
end
end Go.Proofs.YtcjcdpfjnomehaaGreat
namespace Go.Proofs.YtcjcdpfjnomehaaGreat
set_option maxRecDepth 100000
set_option maxHeartbeats 40000000
set_option linter.unusedSimpArgs false
set_option linter.unusedVariables false
def BdOk (I:Nat → Itm) (n i bd:Nat):Prop := i < bd ∧ bd ≤ nbk I n ∧ (∀ q:Nat,i ≤ q → q + 1 < bd → forc (itb I n q) = false) ∧ forc (itb I n ((bd - 1:Nat):Int)) = true
def nr0 (I:Nat → Itm) (n i nr:Nat):Nat := if forc (itb I n i) = true then i + 1 else nr
structure Inv (I:Nat → Itm) (n:Nat) (width:Int) (s:Stg) (i nr bd:Nat) (L1 L2:List (Nat × Int)) (R:Nat → Nat → Int × Nat):Prop where
 hrs:∀ j,i ≤ j → j < nbk I n → ∀ c:Nat,c < 4 → Rst (PT I n width s s.t) (j + 1) (c:Int) (R j c).1 (R j c).2
 hbd:forc (itb I n i) = true ∨ (i + 1 ≤ nr ∧ nr ≤ bd ∧ BdOk I n (i + 1) bd)
 hle:bd ≤ nbk I n ∧ nr ≤ nbk I n
 hws:(s.t = 10000 ∧ ∃ hi,nr0 I n i nr ≤ hi ∧ hi ≤ nbk I n ∧ Good (fun e => uC I n s false e (R e 3).1) (i + 1) hi L1 ∧ Good (fun e => uC I n s true e (R e 3).1) (i + 1) hi L2) ∨ (s.t ≠ 10000 ∧ L1 = [] ∧ L2 = [])
section
variable {I:Nat → Itm} {n:Nat} {width:Int} {s:Stg} {i nr bd:Nat} {L1 L2:List (Nat × Int)} {R:Nat → Nat → Int × Nat}
theorem Inv.start (h0:0 < n) (hf:forc (I (n - 1)) = true):Inv I n width s (nbk I n - 1) 0 0 [] [] (fun _ _ => (0,0)) := by
 obtain ⟨h1,h2,h3⟩ := bk_last I n h0 hf
 refine ⟨fun j hj1 hj2 c hc => ?_,.inl h3,⟨by omega,by omega⟩,?_⟩
 ·have e:j + 1 = (PT I n width s s.t).m := by simp only [PT];omega
  rw [e]
  exact rst_end _ _ _
 ·by_cases ht:s.t = 10000
  ·refine .inl ⟨ht,nbk I n,by unfold nr0;rw [if_pos h3];omega,Nat.le_refl _,good_nil _ _ _ (by omega),good_nil _ _ _ (by omega)⟩
  ·exact .inr ⟨ht,rfl,rfl⟩
theorem Inv.len (hm:nbk I n ≤ 262144) (h:Inv I n width s i nr bd L1 L2 R):L1.length ≤ 262143 ∧ L2.length ≤ 262143 := by
 rcases h.hws with ⟨-,hi,h1,h2,h3,h4⟩ | ⟨-,rfl,rfl⟩
 ·have := good_len h3
  have := good_len h4
  omega
 ·simp
theorem Inv.bound (h:Inv I n width s i nr bd L1 L2 R) (hi:i < nbk I n):BdOk I n i (if forc (itb I n i) = true then i + 1 else bd) := by
 split
 ·rename_i hf
  exact ⟨by omega,by omega,fun q h1 h2 => by omega,by simpa using hf⟩
 ·rename_i hf
  rcases h.hbd with hb | ⟨h1,h2,h3,h4,h5,h6⟩
  ·exact absurd hb hf
  ·refine ⟨by omega,h4,fun q hq1 hq2 => ?_,h6⟩
   by_cases c:q = i
   ·subst c;simpa using hf
   ·exact h5 q (by omega) hq2
theorem Inv.nrs (h:Inv I n width s i nr bd L1 L2 R) (hi:i < nbk I n):i + 1 ≤ nr0 I n i nr ∧ nr0 I n i nr ≤ nbk I n := by
 unfold nr0
 split
 ·omega
 ·rename_i hf
  rcases h.hbd with hb | ⟨h1,h2,-⟩
  ·exact absurd hb hf
  ·have := h.hle;omega
theorem Inv.win (h:Inv I n width s i nr bd L1 L2 R) (hi:i < nbk I n) (nr':Nat) (h1:nr' ≤ nr0 I n i nr) :
  (s.t = 10000 ∧ Good (fun e => uC I n s false e (R e 3).1) i nr' (dr nr' (ent s L1 (i,uC I n s false i (R i 3).1))) ∧ Good (fun e => uC I n s true e (R e 3).1) i nr' (dr nr' (ent s L2 (i,uC I n s true i (R i 3).1)))) ∨ (s.t ≠ 10000 ∧ dr nr' (ent s L1 (i,uC I n s false i (R i 3).1)) = [] ∧ dr nr' (ent s L2 (i,uC I n s true i (R i 3).1)) = []) := by
 have hnr := h.nrs hi
 rcases h.hws with ⟨ht,hi',q1,q2,q3,q4⟩ | ⟨ht,rfl,rfl⟩
 ·left
  have e1:∀ L x,ent s L x = L.take (pk L x.2 L.length) ++ [x] := fun L x => if_pos ht
  rw [e1,e1]
  exact ⟨ht,good_dr (good_add (u := fun e => uC I n s false e (R e 3).1) q3 (by omega)) (by omega),good_dr (good_add (u := fun e => uC I n s true e (R e 3).1) q4 (by omega)) (by omega)⟩
 ·right
  have e1:∀ L x,ent s L x = L := fun L x => if_neg ht
  rw [e1,e1]
  exact ⟨ht,rfl,rfl⟩
theorem Inv.choice (hn:n ≤ 262144) (hok:∀ i,i < n → okI I i = true) (hs:okS s = true) (hw:1 ≤ width ∧ width ≤ 1073741824) (h:Inv I n width s i nr bd L1 L2 R) (hi:i < nbk I n) (nr' st:Nat)
  (h1:i ≤ nr' ∧ nr' ≤ (if forc (itb I n i) = true then i + 1 else nr) ∧ (nr' = i ∨ hpl I n width ((i:Int) - 1) ((nr' - 1:Nat):Int) = true))
  (h2:nr' ≤ st ∧ st ≤ (if forc (itb I n i) = true then i + 1 else bd) ∧ (st = (if forc (itb I n i) = true then i + 1 else bd) ∨ width < (upt I n (bk I n ((i:Int) - 1)) (bk I n st)).w - (upt I n (bk I n ((i:Int) - 1)) (bk I n st)).sh)) :
  ChS I n width s R i (hfu I n width s R ((i:Int) - 1) nr' st (hop (fun _ => Ln.none) (sel (itb I n ((i:Int) - 1)).flag (dr nr' (ent s L2 (i,uC I n s true i (R i 3).1))) (dr nr' (ent s L1 (i,uC I n s false i (R i 3).1)))))) (if forc (itb I n i) = true then i + 1 else bd) := by
 have hB := bnd_of I n width s s.t hn hok hs
 have hRb:∀ j,i ≤ j → j < nbk I n → ∀ c,c < 4 → (R j c).1 = Awf ∨ (0 ≤ (R j c).1 ∧ (R j c).1 ≤ 140737488355328) := fun j h1 h2 c hc => rst_bnd hB (h.hrs j h1 h2 c hc)
 have hbo := h.bound hi
 have hnr := h.nrs hi
 have hnb := hbo.2.1
 have hnm:nr' ≤ nbk I n := Nat.le_trans h1.2.1 hnr.2
 have hG := h.win hi nr' h1.2.1
 refine chs_wide hn hok (chs_hfu hn hok hs (chs_hop hn hok hs hw h1.1 hnm h1.2.2 (fun j a b => hRb j a (by omega)) _ ?_) h1.1 st h2.1 (fun j a b => hRb j a (by omega))) hnb h2.2.1 h2.2.2
 rcases hG with ⟨ht,g1,g2⟩ | ⟨ht,g1,g2⟩
 ·left
  refine ⟨ht,?_⟩
  unfold sel
  cases (itb I n ((i:Int) - 1)).flag
  ·simpa using g1
  ·simpa using g2
 ·right
  refine ⟨ht,?_⟩
  unfold sel
  split
  ·exact g2
  ·exact g1
theorem chs_congr {R':Nat → Nat → Int × Nat} {C:Nat → Ln} {e:Nat} (h:ChS I n width s R i C e) (hR:∀ j,i ≤ j → ∀ c,R' j c = R j c):ChS I n width s R' i C e := by
 have e1:∀ j,i ≤ j → rj I n width R' i j = rj I n width R i j := fun j hj => by unfold rj;rw [hR j hj]
 have e2:∀ j,i ≤ j → vC I n width s R' ((i:Int) - 1) j = vC I n width s R ((i:Int) - 1) j := fun j hj => by unfold vC;rw [hR j hj]
 intro c hc
 rcases h c hc with ⟨h1,h2⟩ | ⟨j,j1,j2,j3,j4,j5,j6,j7,j8,j9⟩
 ·exact .inl ⟨h1,fun j a1 a2 a3 a4 => by rw [e1 j a1];exact h2 j a1 a2 a3 a4⟩
 ·refine .inr ⟨j,j1,j2,j3,j4,by rw [e1 j j1];exact j5,j6,by rw [e2 j j1];exact j7,j8,fun j' a1 a2 a3 a4 a5 => ?_⟩
  rw [e1 j' a1] at a5
  rw [e2 j j1,e2 j' a1]
  exact j9 j' a1 a2 a3 a4 a5
theorem chs_ok {C:Nat → Ln} {e:Nat} (h:ChS I n width s R i C e) (he:e ≤ nbk I n):∀ k,k < 4 → (C k).c ≠ Awf → (0 ≤ (C k).e ∧ (C k).e < (nbk I n:Int)) ∧ 0 ≤ (C k).f.cls ∧ (C k).f.cls < 4 := by
 intro k hk hA
 rcases h k hk with ⟨h1,-⟩ | ⟨j,j1,j2,j3,j4,j5,j6,j7,j8,j9⟩
 ·exact absurd h1 hA
 ·have := ftb_cls I n width ((i:Int) - 1) j
  rw [j6,j8.2.2]
  omega
theorem Inv.next {R':Nat → Nat → Int × Nat} (h:Inv I n width s (i + 1) nr bd L1 L2 R) (hi:i + 1 < nbk I n) (nr':Nat) (h1:i + 1 ≤ nr' ∧ nr' ≤ (if forc (itb I n ((i + 1:Nat):Int)) = true then i + 1 + 1 else nr))
  (hR:∀ j,i + 1 ≤ j → ∀ c,R' j c = R j c) (hN:∀ c:Nat,c < 4 → Rst (PT I n width s s.t) (i + 1) (c:Int) (R' i c).1 (R' i c).2) :
  Inv I n width s i nr' (if forc (itb I n ((i + 1:Nat):Int)) = true then i + 1 + 1 else bd) (dr nr' (ent s L1 (i + 1,uC I n s false (i + 1) (R (i + 1) 3).1))) (dr nr' (ent s L2 (i + 1,uC I n s true (i + 1) (R (i + 1) 3).1))) R' := by
 have hbo := h.bound hi
 have hnr := h.nrs hi
 have hW := h.win hi nr' h1.2
 have hnb:nr' ≤ (if forc (itb I n ((i + 1:Nat):Int)) = true then i + 1 + 1 else bd) := by
  have := h1.2
  split at this
  ·rename_i hf;rw [if_pos hf];exact this
  ·rename_i hf
   rw [if_neg hf]
   rcases h.hbd with hb | ⟨a1,a2,-⟩
   ·exact absurd hb hf
   ·omega
 have hle:nr' ≤ nbk I n := Nat.le_trans h1.2 hnr.2
 refine ⟨fun j a1 a2 c hc => ?_,.inr ⟨h1.1,hnb,hbo⟩,⟨hbo.2.1,hle⟩,?_⟩
 ·by_cases e:j = i
  ·subst e;exact hN c hc
  ·rw [hR j (by omega)];exact h.hrs j (by omega) a2 c hc
 ·rcases hW with ⟨ht,g1,g2⟩ | ⟨ht,g1,g2⟩
  ·left
   refine ⟨ht,nr',?_,hle,?_,?_⟩
   ·unfold nr0;split <;> omega
   ·refine ⟨fun x hx => ?_,g1.2.1,fun e a1 a2 => ?_⟩
    ·have := g1.1 x hx;simp only [hR x.1 this.1];exact this
    ·simp only [hR e a1];exact g1.2.2 e a1 a2
   ·refine ⟨fun x hx => ?_,g2.2.1,fun e a1 a2 => ?_⟩
    ·have := g2.1 x hx;simp only [hR x.1 this.1];exact this
    ·simp only [hR e a1];exact g2.2.2 e a1 a2
  ·exact .inr ⟨ht,g1,g2⟩
end
end Go.Proofs.YtcjcdpfjnomehaaGreat
namespace Go.Proofs.YtcjcdpfjnomehaaGreat
set_option maxRecDepth 100000
set_option maxHeartbeats 40000000
open Go.RowKit
set_option linter.unusedSimpArgs false
set_option linter.unusedVariables false
def bkn (I:Nat → Itm) (n j:Nat):Nat := (lgs I n n).getD j 0
theorem bk_bkn (I:Nat → Itm) (n j:Nat) (h:j < nbk I n):bk I n (j:Int) = (bkn I n j:Int) := by
 obtain ⟨b,e,-,-,e2⟩ := bk_at I n j h
 unfold bkn;rw [e,e2]
theorem step_append_own9 {P:Program} {w:World} {ops:Array Oper} {o:Oper} {a:Act} {K:Act → World → Prop} {Q:Exit → Act → World → Prop} {E:Prop} (hgd:o.guard = none) (s x:Operand) (t:TypeId)
  (ho:o.op = .call { callee := .builtin .append,args := #[s,x],argTypes := #[t,t] })
  (base:Nat) (e:TypeId) (i:TypeInfo) (z:Value) (size bytes:Nat) (ht:P.underlying t = some (.slice e)) (hi:P.info? e = some i) (hz:i.zero = some z)
  (hsize:i.size = size) (hby:i.bytes = bytes) (hzs:z.cells.size = size) (hsz:0 < size)
  (v:Value) (n:Nat) (xs:List Value) (hs:a.eval s = v) (hown:w.ownsRow base e size v n xs)
  (ad:Addr) (m c:Nat) (news:List Value) (hx:a.eval x = .slice (some ad) m c) (hl:news.length = m * size) (hnews:∀ j u,news[j]? = some u → w.cell? (ad.add j) = some u) (h1:∀ u ∈ news,u.oneCell' = true)
  (h63:n + m ≤ maxLen) (hbytes:(n + m) * bytes ≤ 140737488355328) (hbase:base ≤ w.heap.size)
  (h:∀ v' w',w'.ownsRow base e size v' (n + m) (xs ++ news) → w.grownBy w' v.ownBlock → K (a.put o.dst v') w') :
  if Region.wanted o (yielded ops a.tmps) = true then Oper.wp P o a w K Q else E := by
 have hw:Region.wanted o (yielded ops a.tmps) = true := by simp [Region.wanted,hgd]
 rw [if_pos hw]
 exact wp_append_own w s x t ho base e i z size bytes ht hi hz hsize hby hzs hsz v n xs hs hown ad m c news hx hl hnews h1 h63 hbytes hbase fun v' w' h2 h3 _ => h v' w' h2 h3
theorem laid3 (w:World) (A B C:Obj):(((w.alloc A).alloc B).alloc C).heap[w.heap.size]? = some A ∧ (((w.alloc A).alloc B).alloc C).heap[w.heap.size + 1]? = some B ∧ (((w.alloc A).alloc B).alloc C).heap[w.heap.size + 1 + 1]? = some C ∧ Below w.heap.size w (((w.alloc A).alloc B).alloc C) ∧ (((w.alloc A).alloc B).alloc C).heap.size = w.heap.size + 1 + 1 + 1 := by
 obtain ⟨a1,a2,a3,a4⟩ := laid2 w A B
 have hs:((w.alloc A).alloc B).heap.size = w.heap.size + 1 + 1 := by simp
 refine ⟨(Below.heap_alloc _ _ _ (by omega)).trans a1,(Below.heap_alloc _ _ _ (by omega)).trans a2,?_,a3.alloc a3.size _,by simp⟩
 have := heap_alloc_new ((w.alloc A).alloc B) C
 rw [hs] at this
 exact this
theorem own_mono9 {w:World} {b b' e size n:Nat} {v:Value} {xs:List Value} (h:w.ownsRow b e size v n xs) (hb:b' ≤ b):w.ownsRow b' e size v n xs := by
 refine ⟨h.1,?_⟩
 rcases h.2 with h | ⟨g,cap,cur,h1,h2,h3⟩
 ·exact .inl h
 ·exact .inr ⟨g,cap,cur,h1,by omega,h3⟩
theorem fldF (a b c d e:Value) (w:World):(Instr.field 105 (.agg #[a,b,c,d,e]) 3).run Tryz.prog w = .ok d w := by kernel_rfl
section
variable {w:World} {B sb pb rb rc n:Nat} {I:Nat → Itm} {width:Int} {s:Stg} {bound near:Int} {v1 v2:Value} {L1 L2:List (Nat × Int)} {R:Nat → Nat → Int × Nat}
def WyI (w:World) (I:Nat → Itm) (n:Nat) (width:Int) (s:Stg) (c:Int) (l:List Nat) (FB RB BB base:Nat) (fr:Int) (to:Nat) (W:World):Prop :=
 ∃ (i:Nat) (a c':Int) (D t:List Nat) (v:Value),fr + 1 = (i:Int) ∧ l = D ++ (to :: t) ∧ Best (PT I n width s s.t) i a c' (to :: t) ∧ D.length ≤ to ∧ to < nbk I n ∧ i ≤ to ∧
  W.heap[BB]? = some (.cells #[v,.int .i64 c,.bool false] 35 (0,0)) ∧ W.heap[RB]? = some (.cells #[.slice none 0 0,.int .i64 0,.bool false] 35 (0,0)) ∧ W.ownsRow base 3 1 v D.length (ncs (D.map (bkn I n))) ∧ Below w.heap.size w W ∧ base ≤ W.heap.size
theorem way_any (h:ParaAt (fun b => b < B) w pb n I) (hn:n ≤ 262144) (hok:∀ i,i < n → okI I i = true) (hw:1 ≤ width ∧ width ≤ 1073741824) (hs:okS s = true) (hss:SS B sb pb rb rc (nbk I n) width s w bound near v1 v2 L1 L2) (hr:RsAt w rb (nbk I n) R)
  (hR:∀ j,j < nbk I n → ∀ c:Nat,c < 4 → Rst (PT I n width s s.t) (j + 1) (c:Int) (R j c).1 (R j c).2) (c:Int) (nx:Nat) (tl:List Nat) (hB:Best (PT I n width s s.t) 0 (-1) c (nx :: tl)) :
  Calls Tryz.prog 142 #[.pointer (some ⟨sb,0,none⟩),.agg #[.int .i64 c,.int .i64 (nx:Int)]] w fun e' w' => ∃ v,e' = .returned (.agg #[v,.int .i64 c,.bool false]) ∧ w'.ownsRow w.heap.size 3 1 v (nx :: tl).length (ncs ((nx :: tl).map (bkn I n))) ∧ Below w.heap.size w w' := by
 obtain ⟨i0,hi,hz0,hz1,hz2⟩ := info_parts info_int8
 have hm:nbk I n ≤ 262144 := by unfold nbk;have := lgs_len I n n;omega
 have hBn := bnd_of I n width s s.t hn hok hs
 have HP:Box (∀ W,Below w.heap.size w W → ParaAt (fun b => b < B) W pb n I ∧ SS B sb pb rb rc (nbk I n) width s W bound near v1 v2 L1 L2 ∧ RsAt W rb (nbk I n) R) := boxed (fun W hb => ⟨h.keep (kp_lt (hb.mono (by have := hss.hs;omega))),hss.below hb,hr.keep (hb.block rb hss.hs.2.2.2.2)⟩)
 have hst0 := (best_tail _ hBn 0 nx (-1) c tl hB).1
 have hnx:nx < nbk I n := by have := ((mayL_iff _ _ _).1 hst0).2.1;simpa [PT] using this
 obtain ⟨l,hl⟩:∃ l,nx :: tl = l := ⟨_,rfl⟩
 rw [hl]
 clear h hss hr
 go_enter Tryz.func142,Tryz.ntmps142
 go_wp2_with fail
 refine wp_scope_jumps 0 (fun a' W => ∃ (fr:Int) (to:Nat) (u8 u9 u10 u11 u12 u13 u14 u15 u16 u17 u18 u19 u20 u21 u22 u23 u24 u25 u26 u27 u28 u29 u30 u31 u32 u33 u34 u35 u36 u37 u38 u39 u40 u41 u42 u43:Value),WyI w I n width s c l w.heap.size (w.heap.size + 1) (w.heap.size + 1 + 1) (w.heap.size + 1 + 1 + 1) fr to W ∧ a' = { tmps := #[.pointer (some ⟨sb,0,none⟩),.agg #[.int .i64 c,.int .i64 (nx:Int)],undef,.pointer (some ⟨w.heap.size,0,none⟩),.pointer (some ⟨w.heap.size + 1,0,none⟩),.pointer (some ⟨w.heap.size + 1 + 1,0,none⟩),.int .i64 fr,.int .i64 (to:Int),u8,u9,u10,u11,u12,u13,u14,u15,u16,u17,u18,u19,u20,u21,u22,u23,u24,u25,u26,u27,u28,u29,u30,u31,u32,u33,u34,u35,u36,u37,u38,u39,u40,u41,u42,u43],defers := [] }) (fun a' _ => nbk I n - (intOf (a'.tmps.getD 7 undef)).toNat) rfl ?_ ?_
 ·have hL4 := laid3 w (.cells #[.int .i64 c,.int .i64 (nx:Int)] 209) (.cells #[.slice none 0 0,.int .i64 0,.bool false] 35) (.cells #[.slice none 0 0,.int .i64 c,.bool false] 35)
  go_wp2_with fail
  go_quiet (fail)
  go_wp2_with fail
  refine wp_label ?_
  go_wp2_with fail
  obtain ⟨W,hW⟩:∃ W,(((w.alloc (.cells #[.int .i64 c,.int .i64 (nx:Int)] 209)).alloc (.cells #[.slice none 0 0,.int .i64 0,.bool false] 35)).alloc (.cells #[.slice none 0 0,.int .i64 c,.bool false] 35)).drewN nq = W := ⟨_,rfl⟩
  rw [hW]
  have hI:WyI w I n width s c l w.heap.size (w.heap.size + 1) (w.heap.size + 1 + 1) (w.heap.size + 1 + 1 + 1) (-1) nx W := by
   rw [← hW]
   refine ⟨0,-1,c,[],tl,.slice none 0 0,by omega,hl.symm,hB,by simp,hnx,by omega,hL4.2.2.1,hL4.2.1,World.ownsRow_nil _ _ _ _,hL4.2.2.2.1.trans (bel_drewN _ _ _),?_⟩
   have := hL4.2.2.2.2
   simp [World.drewN,this]
  clear hW hL4
  obtain ⟨i,a,c',D,t,v,w1,w2,w3,w4,w5,w6,w7,w8,w9,w10,w11⟩ := hI
  obtain ⟨kP,kS,kR⟩ := HP.out _ w10
  have c0 := kS.c.1.1
  have hDl:D.length ≤ 262144 := by omega
  obtain ⟨ao,cap,rfl⟩ := own_shape w9
  obtain ⟨⟨x0,x1,x2⟩,y0,y1,y2⟩ := cells3 w7
  have hBW := heap_lt w7
  have hRW := heap_lt w8
  have he := bk_bkn I n nx w5
  have HEN:Box (∀ W',Below W.heap.size W W' → Calls Tryz.prog 177 #[.pointer (some ⟨pb,0,none⟩),.int .i64 (nx:Int)] W' fun e w' => e = .returned (.int .i64 (bkn I n nx:Int)) ∧ w' = W') := boxed (fun W' hb => by
   have := end_any (HP.out _ (w10.trans (hb.mono w10.size))).1 hn (nx:Int)
   have e2:endN (lgs I n n) (nx:Int) = (bkn I n nx:Int) := he
   rw [e2] at this
   exact this)
  obtain ⟨y,hy⟩:∃ y,bkn I n nx = y := ⟨_,rfl⟩
  rw [hy] at HEN
  have hsbW:sb < W.heap.size := kS.hs.2.1
  have n1:sb ≠ W.heap.size := by omega
  have n2:w.heap.size + 1 + 1 ≠ W.heap.size := by omega
  -- behind the append and the store
  have hbase:w.heap.size + 1 + 1 + 1 ≤ (W.alloc (.cells #[.int .i64 (y:Int)] 3)).drew.heap.size := by simp [World.drew];omega
  have HOW:Box ((W.alloc (.cells #[.int .i64 (y:Int)] 3)).drew.ownsRow (w.heap.size + 1 + 1 + 1) 3 1 (.slice ao D.length cap) D.length (ncs (D.map (bkn I n)))) := boxed (owns_below w9 (((Below.refl _ _).alloc (Nat.le_refl _) _).drew))
  have HNW:Box (∀ j u,([.int .i64 (y:Int)]:List Value)[j]? = some u → (W.alloc (.cells #[.int .i64 (y:Int)] 3)).drew.cell? ((⟨W.heap.size,0,none⟩:Addr).add j) = some u) := boxed (by
   intro j u hj
   rw [Addr.add_lit,Nat.zero_add,World.cell?_drew,cell_first]
   simpa using hj)
  have HF:Box (∀ v1 w1,(W.alloc (.cells #[.int .i64 (y:Int)] 3)).drew.grownBy w1 (Value.slice ao D.length cap).ownBlock → w1.ownsRow (w.heap.size + 1 + 1 + 1) 3 1 v1 (D.length + 1) (ncs (D.map (bkn I n)) ++ [.int .i64 (y:Int)]) → (w1.cell? ⟨w.heap.size + 1 + 1,0,none⟩ = some (.slice ao D.length cap) ∧ w1.frozen? ⟨w.heap.size + 1 + 1,0,none⟩ = false) ∧
    ((w1.setCell ⟨w.heap.size + 1 + 1,0,none⟩ v1).heap[w.heap.size + 1 + 1]? = some (.cells #[v1,.int .i64 c,.bool false] 35 (0,0)) ∧ (w1.setCell ⟨w.heap.size + 1 + 1,0,none⟩ v1).heap[w.heap.size + 1]? = some (.cells #[.slice none 0 0,.int .i64 0,.bool false] 35 (0,0)) ∧ (w1.setCell ⟨w.heap.size + 1 + 1,0,none⟩ v1).ownsRow (w.heap.size + 1 + 1 + 1) 3 1 v1 (D ++ [nx]).length (ncs ((D ++ [nx]).map (bkn I n))) ∧ Below w.heap.size w (w1.setCell ⟨w.heap.size + 1 + 1,0,none⟩ v1) ∧ w.heap.size + 1 + 1 + 1 ≤ (w1.setCell ⟨w.heap.size + 1 + 1,0,none⟩ v1).heap.size)) := boxed (by
   intro z1 z2 hg ho
   have hrow:∀ q,q < w.heap.size + 1 + 1 + 1 → some q ≠ (Value.slice ao D.length cap).ownBlock := fun q hq e => by
    have := (w9.lt q e.symm).1;omega
   have hbl:∀ q,q < w.heap.size + 1 + 1 + 1 → z2.heap[q]? = W.heap[q]? := fun q hq => by
    rw [hg.block q (by simp [World.drew];omega) (hrow q hq)]
    show (W.alloc _).heap[q]? = _
    exact heap_alloc_old _ _ (by omega)
   have e1:z2.heap[w.heap.size + 1 + 1]? = some (.cells #[.slice ao D.length cap,.int .i64 c,.bool false] 35 (0,0)) := (hbl _ (by omega)).trans w7
   have hne1:∀ q,z1.ownBlock = some q → w.heap.size + 1 + 1 + 1 ≤ q := fun q e => (ho.lt q e).1
   refine ⟨⟨row_cell e1 0 _ rfl,row_free e1 0⟩,arr_set z1 e1,?_,?_,?_,?_⟩
   ·rw [Below.heap_setCell z2 ⟨w.heap.size + 1 + 1,0,none⟩ z1 _ (by simp)];exact (hbl _ (by omega)).trans w8
   ·have := ownsRow_setCell_below ho (a := ⟨w.heap.size + 1 + 1,0,none⟩) (by simp) z1
    rw [List.length_append,List.map_append,ncs_app]
    simpa [ncs,hy] using this
   ·have b1:Below w.heap.size w z2 := ⟨hg.os.trans w10.os,hg.tape.trans w10.tape,hg.output.trans w10.output,by have := hg.size;have := w10.size;simp [World.drew] at *;omega,fun q hq => (hbl q (by omega)).trans (w10.block q hq)⟩
    exact b1.setCell (by simp only;omega) _
   ·have := hg.size;simp [World.drew] at this ⊢;omega)
  have hnl:D.length + 1 ≤ maxLen := by unfold maxLen;omega
  have HI := boxed (And.intro w1 (And.intro w2 (And.intro w3 (And.intro w4 w6))))
  have HW10 := boxed w10
  clear w1 w2 w3 w4 w6 w7 w8 w9 kP kS kR
  generalize hdlD:D.length = dl at *
  go_wp2_with fail
  go_region_law
   (first
    | (refine step_append_own9 rfl _ _ 33 rfl (w.heap.size + 1 + 1 + 1) 3 i0 _ 1 8 Tryz.underlying33 hi hz0 hz1 hz2 rfl (by decide) _ _ _ rfl HOW.out ⟨W.heap.size,0,none⟩ 1 1 [.int .i64 (y:Int)] rfl rfl HNW.out (by intro u hu;simp at hu;subst hu;rfl) hnl (by omega) hbase ?_;intro z1 z2 ho1 hg1;obtain ⟨a1,c1,rfl⟩ := own_shape ho1;obtain ⟨⟨k1,k2⟩,k3⟩ := HF.out _ z2 hg1 ho1;have HK3 := boxed k3;clear k3 ho1 hg1)
    | (go_simp;go_at_call 177;refine (HEN.out _ (Below.refl _ _).drew).mono ?_;rintro e' w' ⟨rfl,hw'⟩;subst w';go_wp2_with fail))
  all_goals
   obtain ⟨W2,hW2⟩:∃ W2,z2.setCell ⟨w.heap.size + 1 + 1,0,none⟩ (.slice a1 (dl + 1) c1) = W2 := ⟨_,rfl⟩
   rw [hW2] at HK3
   try rw [hW2]
   clear hW2 k1 k2 HF HOW HNW HEN c0 x0 x1 x2 y0 y1 y2
   obtain ⟨kP,kS,kR⟩ := HP.out _ HK3.out.2.2.2.1
   have hla := last_any (sb := sb) kP hn kS.c.1.1
   obtain ⟨j1,j2,j3,j4,j5⟩ := HI.out
   have J2 := boxed j2
   clear j2
   obtain ⟨hmy,r,hbt,-⟩ := best_tail _ hBn _ _ _ _ _ j3
   by_cases hlast:nx + 1 = nbk I n
   ·have t1:((nx:Int) == (nbk I n:Int) - 1) = true := by rw [beq_iff_eq];omega
    have ht:t = [] := by
     cases t with
     | nil => rfl
     | cons q t' =>
      exfalso
      have := (best_tail _ hBn _ _ _ _ _ hbt).1
      have := (mayL_iff _ _ _).1 this
      have h2 := this.2.1
      simp only [PT] at h2
      omega
    have hlD := boxed (show l = D ++ [nx] by rw [J2.out,ht])
    obtain ⟨⟨g0,g1,g2⟩,e0,e1,e2⟩ := cells3 HK3.out.1
    obtain ⟨⟨p0,p1,p2⟩,r0,r1,r2⟩ := cells3 HK3.out.2.1
    have HP5:Box ((W2.setCells (w.heap.size + 1) 0 [.slice a1 (dl + 1) c1,.int .i64 c,.bool false]).heap[w.heap.size + 1]? = some (.cells #[.slice a1 (dl + 1) c1,.int .i64 c,.bool false] 35 (0,0))) := boxed (sets_heap _ _ _ 0 W2 _ HK3.out.2.1)
    have HF5 := boxed (HK3.out.2.2.2.1.trans (sets_below (w.heap.size + 1) w.heap.size (by omega) [.slice a1 (dl + 1) c1,.int .i64 c,.bool false] 0 W2))
    have HO5:Box ((W2.setCells (w.heap.size + 1) 0 [.slice a1 (dl + 1) c1,.int .i64 c,.bool false]).ownsRow w.heap.size 3 1 (.slice a1 (dl + 1) c1) l.length (ncs (l.map (bkn I n)))) := boxed (by
     rw [hlD.out]
     have h5 := HK3.out.2.2.1
     simp only [World.setCells]
     have := ownsRow_setCell_below (ownsRow_setCell_below (ownsRow_setCell_below h5 (a := ⟨w.heap.size + 1,0,none⟩) (by simp only;omega) (.slice a1 (dl + 1) c1)) (a := ⟨w.heap.size + 1,0 + 1,none⟩) (by simp only;omega) (.int .i64 c)) (a := ⟨w.heap.size + 1,0 + 1 + 1,none⟩) (by simp only;omega) (.bool false)
     exact own_mono9 this (by omega))
    simp only [World.setCells,Nat.zero_add,Nat.reduceAdd] at HP5 HF5 HO5
    clear kP kS kR HK3 hmy hbt
    go_wp2_with fail
    refine hla.mono ?_
    rintro e' w' ⟨rfl,hw'⟩
    subst w'
    clear hla
    go_wp2_with fail
    simp only [Exit.jump]
    refine bodyPost_ret (v := .agg #[.slice a1 (dl + 1) c1,.int .i64 c,.bool false]) ?_ ?_ ?_
    ·exact results_cell_row Tryz.results142 _ _ (w.heap.size + 1) 35 #[.slice a1 (dl + 1) c1,.int .i64 c,.bool false] (0,0) _ rfl HP5.out Tryz.underlying35 rfl (by kernel_rfl)
    ·rfl
    ·exact ⟨_,rfl,HO5.out,HF5.out⟩
   ·have t1:((nx:Int) == (nbk I n:Int) - 1) = false := by rw [beq_eq_false_iff_ne];omega
    have hcl := ftb_cls I n width (-1:Int) (nx:Int)
    obtain ⟨c5,hc5⟩:∃ c5:Nat,(ftb I n width (-1:Int) (nx:Int)).cls = (c5:Int) := ⟨(ftb I n width (-1:Int) (nx:Int)).cls.toNat,by omega⟩
    have hc54:c5 < 4 := by omega
    have hkl:(PT I n width s s.t).kl i nx = (c5:Int) := by
     show (ftb I n width ((i:Int) - 1) nx).cls = (c5:Int)
     rw [show ((i:Int) - 1) = (-1:Int) by omega];exact hc5
    rw [hkl] at hbt
    obtain ⟨nx2,hnx2⟩:∃ nx2,(R nx c5).2 = nx2 := ⟨_,rfl⟩
    have hrs := hR nx w5 c5 hc54
    rw [hnx2] at hrs
    obtain ⟨t',ht'⟩:∃ t',t = nx2 :: t' := by
     rcases hrs with ⟨-,hno⟩ | ⟨-,he,-⟩ | ⟨-,-,t',hb'⟩
     ·exact (noway_some hno hbt.1).elim
     ·exact absurd he hlast
     ·exact ⟨t',(hbt.one hb').2⟩
    have hbt2 := hbt
    rw [ht'] at hbt2
    have hmy2 := (mayL_iff _ _ _).1 (best_tail _ hBn _ _ _ _ _ hbt2).1
    have hn1:nx + 1 ≤ nx2 := hmy2.1
    have hn2:nx2 < nbk I n := by have := hmy2.2.1;simpa [PT] using this
    have hto3:(nx:Int) < (nbk I n:Int) := by omega
    have hc55:(c5:Int) < 4 := by omega
    have hdl:D.length = dl := hdlD
    have HNI:Box (∀ W',Below W2.heap.size W2 W' → WyI w I n width s c l w.heap.size (w.heap.size + 1) (w.heap.size + 1 + 1) (w.heap.size + 1 + 1 + 1) (nx:Int) nx2 W') := boxed (fun W' hb => by
     obtain ⟨z1',z2',z3',z4',z5'⟩ := HK3.out
     exact ⟨nx + 1,(c5:Int),r,D ++ [nx],t',.slice a1 (dl + 1) c1,by omega,by rw [J2.out,ht'];simp,hbt2,by simp;omega,hn2,hn1,(hb.block _ (heap_lt z1')).trans z1',(hb.block _ (heap_lt z2')).trans z2',owns_below z3' hb,z4'.trans (hb.mono z4'.size),Nat.le_trans z5' hb.size⟩)
    obtain ⟨f0,f1,f2,f3,f4,hF⟩:∃ a b c d e,ftb I n width (-1:Int) (nx:Int) = ⟨a,b,c,d,e⟩ := ⟨_,_,_,_,_,rfl⟩
    have hf3:f3 = (c5:Int) := by rw [hF] at hc5;exact hc5
    have HFI:Box (∀ W',Below W2.heap.size W2 W' → Calls Tryz.prog 178 #[.pointer (some ⟨sb,0,none⟩),.int .i64 (-1:Int),.int .i64 (nx:Int)] W' fun e w' => e = .returned (.agg #[.int .i64 f0,.int .i64 f1,.int .i64 f2,.int .i64 (c5:Int),.bool f4]) ∧ Below W'.heap.size W' w') := boxed (fun W' hb => by
     obtain ⟨kP',kS',-⟩ := HP.out W' (HK3.out.2.2.2.1.trans (hb.mono HK3.out.2.2.2.1.size))
     have := fit9_any kP' hn hok hw kS'.c.1.1 kS'.c.1.2.1 (-1:Int) (nx:Int)
     rw [hF,hf3] at this
     exact this)
    have HX:Box (∀ W',Below W2.heap.size W2 W' → W'.cell? ⟨sb,9,none⟩ = some (.slice (some ⟨rb,0,none⟩) (nbk I n) rc) ∧ W'.cell? ⟨rb,nx * 8 + c5 * 2 + 1,none⟩ = some (.int .i64 (nx2:Int))) := boxed (fun W' hb => by
     obtain ⟨kP',kS',kR'⟩ := HP.out W' (HK3.out.2.2.2.1.trans (hb.mono HK3.out.2.2.2.1.size))
     exact ⟨kS'.c.1.2.2.2.1,by have := (kR' nx c5 w5 hc54).2;rw [hnx2] at this;exact this⟩)
    have HD:Box (Below W2.heap.size W2 W2.drew) := boxed (Below.refl _ _).drew
    have hfl := fldF
    clear kP kS kR HK3 hmy hbt hbt2 hmy2 hrs hF hf3 hc5 hkl hcl J2 ht' HI hnx2 hdl
    go_wp2_with fail
    refine hla.mono ?_
    rintro e' w' ⟨rfl,hw'⟩
    subst w'
    clear hla
    go_wp2_with fail
    go_region_held3 (fun W' => W'.cell? ⟨sb,9,none⟩ = some (.slice (some ⟨rb,0,none⟩) (nbk I n) rc) ∧ W'.cell? ⟨rb,nx * 8 + c5 * 2 + 1,none⟩ = some (.int .i64 (nx2:Int)))
     (first | with_reducible exact HX.out _ HD.out | with_reducible exact HX.out _ HB5.out)
     (first
      | (go_at_call 178;with_reducible refine (HFI.out _ HD.out).mono ?_;rintro e' w5' ⟨rfl,hb5⟩;have HB5 := boxed (below_step HD.out (Nat.le_refl _) hb5);clear hb5))
    all_goals
     go_wp2_with fail
     go_step3
     exact ⟨rfl,(nx:Int),nx2,_,_,_,_,_,_,_,_,_,_,_,_,_,_,_,_,_,_,_,_,_,_,_,_,_,_,_,_,_,_,_,_,_,_,_,_,HNI.out _ HB5.out,rfl⟩
 ·rintro a' W ⟨fr,to,u8,u9,u10,u11,u12,u13,u14,u15,u16,u17,u18,u19,u20,u21,u22,u23,u24,u25,u26,u27,u28,u29,u30,u31,u32,u33,u34,u35,u36,u37,u38,u39,u40,u41,u42,u43,hI,rfl⟩
  obtain ⟨i,a,c',D,t,v,w1,w2,w3,w4,w5,w6,w7,w8,w9,w10,w11⟩ := hI
  obtain ⟨kP,kS,kR⟩ := HP.out _ w10
  have c0 := kS.c.1.1
  have hDl:D.length ≤ 262144 := by omega
  obtain ⟨ao,cap,rfl⟩ := own_shape w9
  obtain ⟨⟨x0,x1,x2⟩,y0,y1,y2⟩ := cells3 w7
  have hBW := heap_lt w7
  have hRW := heap_lt w8
  have he := bk_bkn I n to w5
  have HEN:Box (∀ W',Below W.heap.size W W' → Calls Tryz.prog 177 #[.pointer (some ⟨pb,0,none⟩),.int .i64 (to:Int)] W' fun e w' => e = .returned (.int .i64 (bkn I n to:Int)) ∧ w' = W') := boxed (fun W' hb => by
   have := end_any (HP.out _ (w10.trans (hb.mono w10.size))).1 hn (to:Int)
   have e2:endN (lgs I n n) (to:Int) = (bkn I n to:Int) := he
   rw [e2] at this
   exact this)
  obtain ⟨y,hy⟩:∃ y,bkn I n to = y := ⟨_,rfl⟩
  rw [hy] at HEN
  have hsbW:sb < W.heap.size := kS.hs.2.1
  have n1:sb ≠ W.heap.size := by omega
  have n2:w.heap.size + 1 + 1 ≠ W.heap.size := by omega
  -- behind the append and the store
  have hbase:w.heap.size + 1 + 1 + 1 ≤ (W.alloc (.cells #[.int .i64 (y:Int)] 3)).drew.heap.size := by simp [World.drew];omega
  have HOW:Box ((W.alloc (.cells #[.int .i64 (y:Int)] 3)).drew.ownsRow (w.heap.size + 1 + 1 + 1) 3 1 (.slice ao D.length cap) D.length (ncs (D.map (bkn I n)))) := boxed (owns_below w9 (((Below.refl _ _).alloc (Nat.le_refl _) _).drew))
  have HNW:Box (∀ j u,([.int .i64 (y:Int)]:List Value)[j]? = some u → (W.alloc (.cells #[.int .i64 (y:Int)] 3)).drew.cell? ((⟨W.heap.size,0,none⟩:Addr).add j) = some u) := boxed (by
   intro j u hj
   rw [Addr.add_lit,Nat.zero_add,World.cell?_drew,cell_first]
   simpa using hj)
  have HF:Box (∀ v1 w1,(W.alloc (.cells #[.int .i64 (y:Int)] 3)).drew.grownBy w1 (Value.slice ao D.length cap).ownBlock → w1.ownsRow (w.heap.size + 1 + 1 + 1) 3 1 v1 (D.length + 1) (ncs (D.map (bkn I n)) ++ [.int .i64 (y:Int)]) → (w1.cell? ⟨w.heap.size + 1 + 1,0,none⟩ = some (.slice ao D.length cap) ∧ w1.frozen? ⟨w.heap.size + 1 + 1,0,none⟩ = false) ∧
    ((w1.setCell ⟨w.heap.size + 1 + 1,0,none⟩ v1).heap[w.heap.size + 1 + 1]? = some (.cells #[v1,.int .i64 c,.bool false] 35 (0,0)) ∧ (w1.setCell ⟨w.heap.size + 1 + 1,0,none⟩ v1).heap[w.heap.size + 1]? = some (.cells #[.slice none 0 0,.int .i64 0,.bool false] 35 (0,0)) ∧ (w1.setCell ⟨w.heap.size + 1 + 1,0,none⟩ v1).ownsRow (w.heap.size + 1 + 1 + 1) 3 1 v1 (D ++ [to]).length (ncs ((D ++ [to]).map (bkn I n))) ∧ Below w.heap.size w (w1.setCell ⟨w.heap.size + 1 + 1,0,none⟩ v1) ∧ w.heap.size + 1 + 1 + 1 ≤ (w1.setCell ⟨w.heap.size + 1 + 1,0,none⟩ v1).heap.size)) := boxed (by
   intro z1 z2 hg ho
   have hrow:∀ q,q < w.heap.size + 1 + 1 + 1 → some q ≠ (Value.slice ao D.length cap).ownBlock := fun q hq e => by
    have := (w9.lt q e.symm).1;omega
   have hbl:∀ q,q < w.heap.size + 1 + 1 + 1 → z2.heap[q]? = W.heap[q]? := fun q hq => by
    rw [hg.block q (by simp [World.drew];omega) (hrow q hq)]
    show (W.alloc _).heap[q]? = _
    exact heap_alloc_old _ _ (by omega)
   have e1:z2.heap[w.heap.size + 1 + 1]? = some (.cells #[.slice ao D.length cap,.int .i64 c,.bool false] 35 (0,0)) := (hbl _ (by omega)).trans w7
   have hne1:∀ q,z1.ownBlock = some q → w.heap.size + 1 + 1 + 1 ≤ q := fun q e => (ho.lt q e).1
   refine ⟨⟨row_cell e1 0 _ rfl,row_free e1 0⟩,arr_set z1 e1,?_,?_,?_,?_⟩
   ·rw [Below.heap_setCell z2 ⟨w.heap.size + 1 + 1,0,none⟩ z1 _ (by simp)];exact (hbl _ (by omega)).trans w8
   ·have := ownsRow_setCell_below ho (a := ⟨w.heap.size + 1 + 1,0,none⟩) (by simp) z1
    rw [List.length_append,List.map_append,ncs_app]
    simpa [ncs,hy] using this
   ·have b1:Below w.heap.size w z2 := ⟨hg.os.trans w10.os,hg.tape.trans w10.tape,hg.output.trans w10.output,by have := hg.size;have := w10.size;simp [World.drew] at *;omega,fun q hq => (hbl q (by omega)).trans (w10.block q hq)⟩
    exact b1.setCell (by simp only;omega) _
   ·have := hg.size;simp [World.drew] at this ⊢;omega)
  have hnl:D.length + 1 ≤ maxLen := by unfold maxLen;omega
  have HI := boxed (And.intro w1 (And.intro w2 (And.intro w3 (And.intro w4 w6))))
  have HW10 := boxed w10
  clear w1 w2 w3 w4 w6 w7 w8 w9 kP kS kR
  generalize hdlD:D.length = dl at *
  go_wp2_with fail
  go_region_law
   (first
    | (refine step_append_own9 rfl _ _ 33 rfl (w.heap.size + 1 + 1 + 1) 3 i0 _ 1 8 Tryz.underlying33 hi hz0 hz1 hz2 rfl (by decide) _ _ _ rfl HOW.out ⟨W.heap.size,0,none⟩ 1 1 [.int .i64 (y:Int)] rfl rfl HNW.out (by intro u hu;simp at hu;subst hu;rfl) hnl (by omega) hbase ?_;intro z1 z2 ho1 hg1;obtain ⟨a1,c1,rfl⟩ := own_shape ho1;obtain ⟨⟨k1,k2⟩,k3⟩ := HF.out _ z2 hg1 ho1;have HK3 := boxed k3;clear k3 ho1 hg1)
    | (go_simp;go_at_call 177;refine (HEN.out _ (Below.refl _ _).drew).mono ?_;rintro e' w' ⟨rfl,hw'⟩;subst w';go_wp2_with fail))
  all_goals
   obtain ⟨W2,hW2⟩:∃ W2,z2.setCell ⟨w.heap.size + 1 + 1,0,none⟩ (.slice a1 (dl + 1) c1) = W2 := ⟨_,rfl⟩
   rw [hW2] at HK3
   try rw [hW2]
   clear hW2 k1 k2 HF HOW HNW HEN c0 x0 x1 x2 y0 y1 y2
   obtain ⟨kP,kS,kR⟩ := HP.out _ HK3.out.2.2.2.1
   have hla := last_any (sb := sb) kP hn kS.c.1.1
   obtain ⟨j1,j2,j3,j4,j5⟩ := HI.out
   have J2 := boxed j2
   clear j2
   obtain ⟨hmy,r,hbt,-⟩ := best_tail _ hBn _ _ _ _ _ j3
   by_cases hlast:to + 1 = nbk I n
   ·have t1:((to:Int) == (nbk I n:Int) - 1) = true := by rw [beq_iff_eq];omega
    have ht:t = [] := by
     cases t with
     | nil => rfl
     | cons q t' =>
      exfalso
      have := (best_tail _ hBn _ _ _ _ _ hbt).1
      have := (mayL_iff _ _ _).1 this
      have h2 := this.2.1
      simp only [PT] at h2
      omega
    have hlD := boxed (show l = D ++ [to] by rw [J2.out,ht])
    obtain ⟨⟨g0,g1,g2⟩,e0,e1,e2⟩ := cells3 HK3.out.1
    obtain ⟨⟨p0,p1,p2⟩,r0,r1,r2⟩ := cells3 HK3.out.2.1
    have HP5:Box ((W2.setCells (w.heap.size + 1) 0 [.slice a1 (dl + 1) c1,.int .i64 c,.bool false]).heap[w.heap.size + 1]? = some (.cells #[.slice a1 (dl + 1) c1,.int .i64 c,.bool false] 35 (0,0))) := boxed (sets_heap _ _ _ 0 W2 _ HK3.out.2.1)
    have HF5 := boxed (HK3.out.2.2.2.1.trans (sets_below (w.heap.size + 1) w.heap.size (by omega) [.slice a1 (dl + 1) c1,.int .i64 c,.bool false] 0 W2))
    have HO5:Box ((W2.setCells (w.heap.size + 1) 0 [.slice a1 (dl + 1) c1,.int .i64 c,.bool false]).ownsRow w.heap.size 3 1 (.slice a1 (dl + 1) c1) l.length (ncs (l.map (bkn I n)))) := boxed (by
     rw [hlD.out]
     have h5 := HK3.out.2.2.1
     simp only [World.setCells]
     have := ownsRow_setCell_below (ownsRow_setCell_below (ownsRow_setCell_below h5 (a := ⟨w.heap.size + 1,0,none⟩) (by simp only;omega) (.slice a1 (dl + 1) c1)) (a := ⟨w.heap.size + 1,0 + 1,none⟩) (by simp only;omega) (.int .i64 c)) (a := ⟨w.heap.size + 1,0 + 1 + 1,none⟩) (by simp only;omega) (.bool false)
     exact own_mono9 this (by omega))
    simp only [World.setCells,Nat.zero_add,Nat.reduceAdd] at HP5 HF5 HO5
    clear kP kS kR HK3 hmy hbt
    go_wp2_with fail
    refine hla.mono ?_
    rintro e' w' ⟨rfl,hw'⟩
    subst w'
    clear hla
    go_wp2_with fail
    simp only [Exit.jump]
    refine bodyPost_ret (v := .agg #[.slice a1 (dl + 1) c1,.int .i64 c,.bool false]) ?_ ?_ ?_
    ·exact results_cell_row Tryz.results142 _ _ (w.heap.size + 1) 35 #[.slice a1 (dl + 1) c1,.int .i64 c,.bool false] (0,0) _ rfl HP5.out Tryz.underlying35 rfl (by kernel_rfl)
    ·rfl
    ·exact ⟨_,rfl,HO5.out,HF5.out⟩
   ·have t1:((to:Int) == (nbk I n:Int) - 1) = false := by rw [beq_eq_false_iff_ne];omega
    have hcl := ftb_cls I n width fr (to:Int)
    obtain ⟨c5,hc5⟩:∃ c5:Nat,(ftb I n width fr (to:Int)).cls = (c5:Int) := ⟨(ftb I n width fr (to:Int)).cls.toNat,by omega⟩
    have hc54:c5 < 4 := by omega
    have hkl:(PT I n width s s.t).kl i to = (c5:Int) := by
     show (ftb I n width ((i:Int) - 1) to).cls = (c5:Int)
     rw [show ((i:Int) - 1) = fr by omega];exact hc5
    rw [hkl] at hbt
    obtain ⟨nx2,hnx2⟩:∃ nx2,(R to c5).2 = nx2 := ⟨_,rfl⟩
    have hrs := hR to w5 c5 hc54
    rw [hnx2] at hrs
    obtain ⟨t',ht'⟩:∃ t',t = nx2 :: t' := by
     rcases hrs with ⟨-,hno⟩ | ⟨-,he,-⟩ | ⟨-,-,t',hb'⟩
     ·exact (noway_some hno hbt.1).elim
     ·exact absurd he hlast
     ·exact ⟨t',(hbt.one hb').2⟩
    have hbt2 := hbt
    rw [ht'] at hbt2
    have hmy2 := (mayL_iff _ _ _).1 (best_tail _ hBn _ _ _ _ _ hbt2).1
    have hn1:to + 1 ≤ nx2 := hmy2.1
    have hn2:nx2 < nbk I n := by have := hmy2.2.1;simpa [PT] using this
    have hto3:(to:Int) < (nbk I n:Int) := by omega
    have hc55:(c5:Int) < 4 := by omega
    have hdl:D.length = dl := hdlD
    have HNI:Box (∀ W',Below W2.heap.size W2 W' → WyI w I n width s c l w.heap.size (w.heap.size + 1) (w.heap.size + 1 + 1) (w.heap.size + 1 + 1 + 1) (to:Int) nx2 W') := boxed (fun W' hb => by
     obtain ⟨z1',z2',z3',z4',z5'⟩ := HK3.out
     exact ⟨to + 1,(c5:Int),r,D ++ [to],t',.slice a1 (dl + 1) c1,by omega,by rw [J2.out,ht'];simp,hbt2,by simp;omega,hn2,hn1,(hb.block _ (heap_lt z1')).trans z1',(hb.block _ (heap_lt z2')).trans z2',owns_below z3' hb,z4'.trans (hb.mono z4'.size),Nat.le_trans z5' hb.size⟩)
    obtain ⟨f0,f1,f2,f3,f4,hF⟩:∃ a b c d e,ftb I n width fr (to:Int) = ⟨a,b,c,d,e⟩ := ⟨_,_,_,_,_,rfl⟩
    have hf3:f3 = (c5:Int) := by rw [hF] at hc5;exact hc5
    have HFI:Box (∀ W',Below W2.heap.size W2 W' → Calls Tryz.prog 178 #[.pointer (some ⟨sb,0,none⟩),.int .i64 fr,.int .i64 (to:Int)] W' fun e w' => e = .returned (.agg #[.int .i64 f0,.int .i64 f1,.int .i64 f2,.int .i64 (c5:Int),.bool f4]) ∧ Below W'.heap.size W' w') := boxed (fun W' hb => by
     obtain ⟨kP',kS',-⟩ := HP.out W' (HK3.out.2.2.2.1.trans (hb.mono HK3.out.2.2.2.1.size))
     have := fit9_any kP' hn hok hw kS'.c.1.1 kS'.c.1.2.1 fr (to:Int)
     rw [hF,hf3] at this
     exact this)
    have HX:Box (∀ W',Below W2.heap.size W2 W' → W'.cell? ⟨sb,9,none⟩ = some (.slice (some ⟨rb,0,none⟩) (nbk I n) rc) ∧ W'.cell? ⟨rb,to * 8 + c5 * 2 + 1,none⟩ = some (.int .i64 (nx2:Int))) := boxed (fun W' hb => by
     obtain ⟨kP',kS',kR'⟩ := HP.out W' (HK3.out.2.2.2.1.trans (hb.mono HK3.out.2.2.2.1.size))
     exact ⟨kS'.c.1.2.2.2.1,by have := (kR' to c5 w5 hc54).2;rw [hnx2] at this;exact this⟩)
    have HD:Box (Below W2.heap.size W2 W2.drew) := boxed (Below.refl _ _).drew
    have hfl := fldF
    clear kP kS kR HK3 hmy hbt hbt2 hmy2 hrs hF hf3 hc5 hkl hcl J2 ht' HI hnx2 hdl
    go_wp2_with fail
    refine hla.mono ?_
    rintro e' w' ⟨rfl,hw'⟩
    subst w'
    clear hla
    go_wp2_with fail
    go_region_held3 (fun W' => W'.cell? ⟨sb,9,none⟩ = some (.slice (some ⟨rb,0,none⟩) (nbk I n) rc) ∧ W'.cell? ⟨rb,to * 8 + c5 * 2 + 1,none⟩ = some (.int .i64 (nx2:Int)))
     (first | with_reducible exact HX.out _ HD.out | with_reducible exact HX.out _ HB5.out)
     (first
      | (go_at_call 178;with_reducible refine (HFI.out _ HD.out).mono ?_;rintro e' w5' ⟨rfl,hb5⟩;have HB5 := boxed (below_step HD.out (Nat.le_refl _) hb5);clear hb5))
    all_goals
     go_wp2_with fail
     go_step3
     refine ⟨rfl,⟨(to:Int),nx2,_,_,_,_,_,_,_,_,_,_,_,_,_,_,_,_,_,_,_,_,_,_,_,_,_,_,_,_,_,_,_,_,_,_,_,_,HNI.out _ HB5.out,rfl⟩,?_⟩
     simp [intOf]
     omega
end
end Go.Proofs.YtcjcdpfjnomehaaGreat
