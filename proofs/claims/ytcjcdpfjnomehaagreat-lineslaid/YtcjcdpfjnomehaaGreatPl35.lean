/- What cheapestWay does up to the loop's end: the rests behind every break. -/
import Derived.Laws.ResultCell
import Derived.Test.YtcjcdpfjnomehaaGreatPl34
namespace Go.Proofs.YtcjcdpfjnomehaaGreat
set_option maxRecDepth 100000
set_option maxHeartbeats 40000000
open Go.RowKit
set_option linter.unusedSimpArgs false
set_option linter.unusedVariables false
theorem info_rests:(Tryz.prog.info? 210).map (fun i => (i.zero,i.size,i.bytes)) = some (some (.agg #[.int .i64 0,.int .i64 0,.int .i64 0,.int .i64 0,.int .i64 0,.int .i64 0,.int .i64 0,.int .i64 0]),8,64) := by kernel_rfl
def RA (arr:Array Value) (m:Nat) (R:Nat → Nat → Int × Nat):Prop := arr.size = m * 8 ∧ ∀ e c,e < m → c < 4 → arr[e * 8 + c * 2]? = some (.int .i64 (R e c).1) ∧ arr[e * 8 + c * 2 + 1]? = some (.int .i64 ((R e c).2:Int))
theorem RA.at {arr:Array Value} {m:Nat} {R:Nat → Nat → Int × Nat} (h:RA arr m R) {w:World} {rb:Nat} {t:TypeId} (he:w.heap[rb]? = some (.cells arr t (0,0))):RsAt w rb m R := fun e c h1 h2 => ⟨row_cell he _ _ (h.2 e c h1 h2).1,row_cell he _ _ (h.2 e c h1 h2).2⟩
theorem ra_zero (m:Nat):RA (madeCells #[.int .i64 0,.int .i64 0,.int .i64 0,.int .i64 0,.int .i64 0,.int .i64 0,.int .i64 0,.int .i64 0] (m * 8)) m (fun _ _ => (0,0)) := by
 refine ⟨size_madeCells _ _,fun e c h1 h2 => ?_⟩
 have key:∀ k,k < m * 8 → (madeCells #[.int .i64 0,.int .i64 0,.int .i64 0,.int .i64 0,.int .i64 0,.int .i64 0,.int .i64 0,.int .i64 0] (m * 8))[k]? = some (Value.int .i64 0) := by
  intro k hk
  unfold madeCells
  rw [Array.getElem?_map,Array.getElem?_range,if_pos hk]
  simp only [Option.map_some]
  have:k % 8 < 8 := Nat.mod_lt _ (by omega)
  rcases (show k % 8 = 0 ∨ k % 8 = 1 ∨ k % 8 = 2 ∨ k % 8 = 3 ∨ k % 8 = 4 ∨ k % 8 = 5 ∨ k % 8 = 6 ∨ k % 8 = 7 by omega) with h | h | h | h | h | h | h | h <;> simp [h]
 exact ⟨key _ (by omega),key _ (by omega)⟩
def setR (R:Nat → Nat → Int × Nat) (i c:Nat) (x:Int × Nat):Nat → Nat → Int × Nat := fun e d => if e = i ∧ d = c then x else R e d
theorem ra_set {arr:Array Value} {m:Nat} {R:Nat → Nat → Int × Nat} (h:RA arr m R) (i c:Nat) (hi:i < m) (hc:c < 4) (x:Int × Nat):RA (setA arr (i * 8 + c * 2) [.int .i64 x.1,.int .i64 (x.2:Int)]) m (setR R i c x) := by
 unfold setA setA setA
 refine ⟨by simp [h.1],fun e d h1 h2 => ?_⟩
 have hs := h.1
 by_cases ce:e = i ∧ d = c
 ·obtain ⟨rfl,rfl⟩ := ce
  unfold setR
  rw [if_pos ⟨rfl,rfl⟩]
  refine ⟨?_,?_⟩
  ·rw [Array.getElem?_setIfInBounds_ne (by omega),Array.getElem?_setIfInBounds]
   simp;omega
  ·rw [Array.getElem?_setIfInBounds]
   simp;omega
 ·unfold setR
  rw [if_neg ce]
  have hne:e * 8 + d * 2 ≠ i * 8 + c * 2 := by omega
  refine ⟨?_,?_⟩
  ·rw [Array.getElem?_setIfInBounds_ne (by omega),Array.getElem?_setIfInBounds_ne (by omega)];exact (h.2 e d h1 h2).1
  ·rw [Array.getElem?_setIfInBounds_ne (by omega),Array.getElem?_setIfInBounds_ne (by omega)];exact (h.2 e d h1 h2).2
theorem para_all {S:Nat → Prop} {w:World} {pb n:Nat} {I:Nat → Itm} (h:ParaAt S w pb n I):ParaAt (fun b => b < w.heap.size) w pb n I := h.keep (fun b i u _ hc => ⟨World.block_lt_of_cell? w _ hc,hc⟩)
def Ent (CB:Nat) (A:Array Value) (W:World):Prop := W.heap[CB]? = some (.cells A 206 (0,0))
section
variable {w:World} {pb n:Nat} {I:Nat → Itm} {width:Int} {s:Stg} {S:Nat → Prop}
theorem results_row_tmp {P:Program} {fn:Func} {p u:Tmp} {ty:TypeId} (h:fn.results = #[.cell p ty,.tmp u]) (tmps:Array Value) (w:World) (g:Nat) (t:TypeId) (cs:Array Value) (fr:Nat × Nat) (d:TypeDesc)
  (hp:tmps.getD p undef = .pointer (some ⟨g,0,none⟩)) (hg:w.heap[g]? = some (.cells cs t fr))
  (hu:P.underlying ty = some d) (hd:(match d with | .struct _ | .array _ _ => true | _ => false) = true) (hi:(P.info? ty).map (·.size) = some cs.size) :
  (results fn tmps).run P w = .ok (.tuple #[.agg cs,tmps.getD u undef]) w := by
 rw [results_cell_tmp h,hp]
 simp [asAddr,run_loadVar_row w g t ty cs fr d hg hu hd hi]
def CwP (I : Nat → Itm) (n : Nat) (width : Int) (s : Stg) (w : World) (e' : Ending) (w' : World) : Prop := Below w.heap.size w w' ∧
  ((∃ c l v, Best (PT I n width s s.t) 0 (-1) c l ∧ l ≠ [] ∧ e' = .returned (.tuple #[.agg #[v, .int .i64 c, .bool false], .bool true]) ∧ w'.ownsRow w.heap.size 3 1 v l.length (ncs (l.map (bkn I n)))) ∨
   (Noway (PT I n width s s.t) 0 (-1) ∧ e' = .returned (.tuple #[.agg #[.slice none 0 0, .int .i64 0, .bool false], .bool false])))
theorem cheapestWay_any (h':ParaAt S w pb n I) (hn:n ≤ 262144) (hok:∀ i,i < n → okI I i = true) (h0:0 < n) (hf:forc (I (n - 1)) = true) (hw:1 ≤ width ∧ width ≤ 1073741824) (hs:okS s = true) :
  Calls Tryz.prog 94 #[.pointer (some ⟨pb,0,none⟩),.int .i64 width,s.val] w fun e' w' => CwP I n width s w e' w' := by
 have h := para_all h'
 have hm:nbk I n ≤ 262144 := by unfold nbk;have := lgs_len I n n;omega
 have HE:Box (∀ W,Below w.heap.size w W → Calls Tryz.prog 93 #[.pointer (some ⟨pb,0,none⟩)] W fun e w' => e = .returned (.int .i64 (nbk I n:Int)) ∧ w' = W) := boxed (fun W hb => ends_any (h.below hb) hn)
 obtain ⟨i0,hi,hz0,hz1,hz2⟩ := info_parts info_rests
 have hmk:∀ W:World,(Instr.makeSlice 197 (.int .i64 (nbk I n:Int)) (.int .i64 (nbk I n:Int))).run Tryz.prog W = .ok (.slice (some ⟨W.heap.size,0,none⟩) (nbk I n) (nbk I n)) (W.alloc (.cells (madeCells #[.int .i64 0,.int .i64 0,.int .i64 0,.int .i64 0,.int .i64 0,.int .i64 0,.int .i64 0,.int .i64 0] (nbk I n * 8)) 210)) := by
  intro W
  have := run_makeSlice (w := W) 197 210 i0 _ Tryz.underlying197 hi hz0 .i64 .i64 (nbk I n:Int) (nbk I n:Int) (by omega) (by omega) (by rw [hz1];simp [Value.cells];omega) (by rw [hz2];omega) (by omega)
  rw [this,hz1]
  simp [Value.cells]
 obtain ⟨A0,hA0⟩:∃ A0,madeCells #[.int .i64 0,.int .i64 0,.int .i64 0,.int .i64 0,.int .i64 0,.int .i64 0,.int .i64 0,.int .i64 0] (nbk I n * 8) = A0 := ⟨_,rfl⟩
 have HA0:Box (RA A0 (nbk I n) (fun _ _ => (0,0))) := boxed (by rw [← hA0];exact ra_zero _)
 rw [hA0] at hmk
 unfold Stg.val
 clear hA0
 obtain ⟨q0,q1,q2,q3⟩ := laid2 w (.cells #[.int .i64 s.t,.int .i64 s.l,.int .i64 s.a,.int .i64 s.d,.int .i64 s.z,.int .i64 s.o,.int .i64 s.i] 25) (.cells #[.slice none 0 0,.int .i64 0,.bool false] 35)
 go_enter Tryz.func94,Tryz.ntmps94
 go_wp2_with fail
 obtain ⟨w2,hw2⟩:∃ w2,(w.alloc (.cells #[.int .i64 s.t,.int .i64 s.l,.int .i64 s.a,.int .i64 s.d,.int .i64 s.z,.int .i64 s.o,.int .i64 s.i] 25)).alloc (.cells #[.slice none 0 0,.int .i64 0,.bool false] 35) = w2 := ⟨_,rfl⟩
 rw [hw2] at q0 q1 q2 q3 ⊢
 have HX:Box (∀ W,Below w2.heap.size w2 W → W.cell? ⟨w.heap.size,0,none⟩ = some (.int .i64 s.t) ∧ W.cell? ⟨w.heap.size,1,none⟩ = some (.int .i64 s.l) ∧ W.cell? ⟨w.heap.size,2,none⟩ = some (.int .i64 s.a) ∧ W.cell? ⟨w.heap.size,3,none⟩ = some (.int .i64 s.d) ∧ W.cell? ⟨w.heap.size,4,none⟩ = some (.int .i64 s.z) ∧ W.cell? ⟨w.heap.size,5,none⟩ = some (.int .i64 s.o) ∧ W.cell? ⟨w.heap.size,6,none⟩ = some (.int .i64 s.i)) := boxed (fun W hb => (cells7 ((hb.block _ (by omega)).trans q0)).1)
 have HD:Box (Below w2.heap.size w2 w2.drew) := boxed (Below.refl _ _).drew
 have HDw:Box (Below w.heap.size w w2.drew) := boxed q2.drew
 have HR2 := boxed q1
 have HB2 := boxed q2
 clear q0 q1 q2 hw2
 go_region_held3 (fun W => W.cell? ⟨w.heap.size,0,none⟩ = some (.int .i64 s.t) ∧ W.cell? ⟨w.heap.size,1,none⟩ = some (.int .i64 s.l) ∧ W.cell? ⟨w.heap.size,2,none⟩ = some (.int .i64 s.a) ∧ W.cell? ⟨w.heap.size,3,none⟩ = some (.int .i64 s.d) ∧ W.cell? ⟨w.heap.size,4,none⟩ = some (.int .i64 s.z) ∧ W.cell? ⟨w.heap.size,5,none⟩ = some (.int .i64 s.o) ∧ W.cell? ⟨w.heap.size,6,none⟩ = some (.int .i64 s.i))
  (first | with_reducible exact HX.out _ HD.out | exact HX.out _ (((Below.refl _ _).alloc (Nat.le_refl _) _).drew) | exact HX.out _ ((((Below.refl _ _).alloc (Nat.le_refl _) _).alloc (by simp) _).drew))
  (first
   | (go_at_call 93;refine (HE.out _ HDw.out).mono ?_;rintro e' w' ⟨rfl,hw'⟩;subst w'))
 obtain ⟨w3,hw3⟩:∃ w3,((w2.alloc (.cells A0 210)).alloc (.cells #[.pointer (some ⟨pb,0,none⟩),.int .i64 width,.int .i64 s.t,.int .i64 s.l,.int .i64 s.a,.int .i64 s.d,.int .i64 s.z,.int .i64 s.o,.int .i64 s.i,.slice (some ⟨w.heap.size + 2,0,none⟩) (nbk I n) (nbk I n),.int .i64 0,.int .i64 0,.slice none 0 0,.slice none 0 0] 202)).drew = w3 := ⟨_,rfl⟩
 rw [hw3]
 obtain ⟨p0,p1,p2,p3⟩ := laid2 w2 (.cells A0 210) (.cells #[.pointer (some ⟨pb,0,none⟩),.int .i64 width,.int .i64 s.t,.int .i64 s.l,.int .i64 s.a,.int .i64 s.d,.int .i64 s.z,.int .i64 s.o,.int .i64 s.i,.slice (some ⟨w.heap.size + 2,0,none⟩) (nbk I n) (nbk I n),.int .i64 0,.int .i64 0,.slice none 0 0,.slice none 0 0] 202)
 rw [q3] at p0 p1
 have e0:w3.heap[w.heap.size + 2]? = some (.cells A0 210 (0,0)) := by rw [← hw3,heap_drew];exact p0
 have e1:w3.heap[w.heap.size + 2 + 1]? = some (.cells (srA pb width s (.slice (some ⟨w.heap.size + 2,0,none⟩) (nbk I n) (nbk I n)) 0 0 (.slice none 0 0) (.slice none 0 0)) 202 (0,0)) := by rw [← hw3,heap_drew];exact p1
 have e2:Below w2.heap.size w2 w3 := by rw [← hw3];exact p2.drew
 have e3:w3.heap.size = w.heap.size + 4 := by rw [← hw3];simp [World.drew,q3]
 obtain ⟨rb,hrb⟩:∃ rb,w.heap.size + 2 = rb := ⟨_,rfl⟩
 obtain ⟨sb,hsb⟩:∃ sb,rb + 1 = sb := ⟨_,rfl⟩
 have HBk:Box (Below w.heap.size w w3) := boxed (HB2.out.trans (e2.mono (by omega)))
 have HRz:Box (w3.heap[w.heap.size + 1]? = some (.cells #[.slice none 0 0,.int .i64 0,.bool false] 35 (0,0))) := boxed ((e2.block _ (by omega)).trans HR2.out)
 rw [hrb] at e0 e1 ⊢
 rw [hsb] at e1 ⊢
 have HS3:Box (SS w.heap.size sb pb rb (nbk I n) (nbk I n) width s w3 ((0:Nat):Int) ((0:Nat):Int) (.slice none 0 0) (.slice none 0 0) [] []) := boxed ⟨e1,.inl ⟨rfl,rfl⟩,.inl ⟨rfl,rfl⟩,fun g hg => by (cases hg),fun g hg => by (cases hg),by omega⟩
 have HRA3 := boxed e0
 have hrz:w.heap.size + 1 ≠ rb ∧ w.heap.size + 1 ≠ sb ∧ w.heap.size + 1 < w3.heap.size := by omega
 have hrs:w.heap.size ≤ rb ∧ w.heap.size ≤ sb := by omega
 clear hw3 p0 p1 p2 p3 e0 e1 e2 hmk HX HD HDw HR2 HB2 HE hrb hsb
 have HP := boxed (fun W (hb:Below w.heap.size w W) => h.keep (kp_lt hb))
 have hla := last_any (sb := sb) (HP.out _ HBk.out) hn HS3.out.c.1.1
 have hlp := bk_last I n h0 hf
 have hm1:0 < nbk I n := hlp.1
 go_wp2_with fail
 refine hla.mono ?_
 rintro e' w' ⟨rfl,hw'⟩
 subst w'
 clear hla
 go_wp2_with fail
 go_loopw [9] (fun nv wr => ∃ (i:Nat) (k:Int),i < nbk I n ∧ k + 1 = (i:Int) ∧ nv = .int .i64 k ∧ Box (∃ nr bd v1 v2 L1 L2 R arr,SS w.heap.size sb pb rb (nbk I n) (nbk I n) width s wr ((bd:Nat):Int) ((nr:Nat):Int) v1 v2 L1 L2 ∧ wr.heap[rb]? = some (.cells arr 210 (0,0)) ∧ RA arr (nbk I n) R ∧ Inv I n width s i nr bd L1 L2 R ∧ Below w.heap.size w wr ∧ wr.heap[w.heap.size + 1]? = some (.cells #[.slice none 0 0,.int .i64 0,.bool false] 35 (0,0)) ∧ ¬ SX sb v1 v2 (w.heap.size + 1))) (fun nv _ => (intOf nv + 1).toNat)
 case atStart =>
  refine ⟨nbk I n - 1,(nbk I n:Int) - 1 - 1,by omega,by omega,rfl,boxed ⟨0,0,.slice none 0 0,.slice none 0 0,[],[],fun _ _ => (0,0),A0,HS3.out,HRA3.out,HA0.out,Inv.start h0 hf,HBk.out,HRz.out,fun hx => ?_⟩⟩
  rcases hx with hx | hx | hx
  ·omega
  ·cases hx
  ·cases hx
 case round =>
  obtain ⟨i,k,hil,hki,rfl,HR⟩ := hrel
  obtain ⟨nr,bd,v1,v2,L1,L2,R,arr,hSr,hAr,hRAr,hIv,hBr,hZr,hXr⟩ := HR.out
  clear HR
  by_cases hi0:i = 0
  ·subst hi0
   obtain rfl:k = -1 := by omega
   have t1:decide ((0:Int) ≤ -1) = false := by decide
   have hln := hIv.len hm
   have hli := lines_any (HP.out _ hBr) hn hok hw 0 nr bd (-1) (by omega) hil hSr (by rcases hIv.hbd with h | h;exact .inl h;exact .inr ⟨h.1,h.2.1⟩) hIv.hle.1 (hRAr.at hAr) hln.1 hln.2 hIv.hle.2
   have HSr := boxed hSr
   have HAr := boxed hAr
   have HRAr := boxed hRAr
   have HIv := boxed hIv
   have HBr := boxed hBr
   have HZr := boxed hZr
   have HXr := boxed hXr
   clear hSr hAr hRAr hIv hBr hZr hXr hln
   go_wp2_with fail
   refine hli.mono ?_
   rintro e' w4 ⟨u1,u2,nr',st,rfl,hn4,hst4,hS4,hx4,hO4⟩
   have ei:((0:Nat):Int) - 1 = (-1:Int) := by omega
   have hCh := HIv.out.choice hn hok hs hw hil nr' st (by rw [ei];exact hn4) (by rw [ei];exact hst4)
   have hbo := HIv.out.bound hil
   obtain ⟨nx,hnx,hrst⟩ := chp_rst hn hok hs hCh hbo.1 hbo.2.1 hbo.2.2.1 hbo.2.2.2 HIv.out.hrs (-1)
   rw [ei] at hCh hnx hrst
   obtain ⟨C,hC⟩:∃ C,hfu I n width s R (-1) nr' st (hop (fun _ => Ln.none) (sel (itb I n (-1)).flag (dr nr' (ent s L2 (0,uC I n s true 0 (R 0 3).1))) (dr nr' (ent s L1 (0,uC I n s false 0 (R 0 3).1))))) = C := ⟨_,rfl⟩
   rw [hC] at hCh hnx hrst ⊢
   have z0 := heap_lt HAr.out
   have z1 := heap_lt HZr.out
   have hB4:Below w.heap.size w w4 := HBr.out.trans (SX_below HSr.out hO4)
   have hA4:w4.heap[rb]? = some (.cells arr 210 (0,0)) := (hO4.block rb z0 (SX_rb HSr.out)).trans HAr.out
   have hZ4:w4.heap[w.heap.size + 1]? = some (.cells #[.slice none 0 0,.int .i64 0,.bool false] 35 (0,0)) := (hO4.block _ z1 HXr.out).trans HZr.out
   have HK:Box (∀ W,Below w4.heap.size w4 W → SS w.heap.size sb pb rb (nbk I n) (nbk I n) width s W ((if forc (itb I n ((0:Nat):Int)) = true then 0 + 1 else bd:Nat):Int) ((nr':Nat):Int) u1 u2 (dr nr' (ent s L1 (0,uC I n s false 0 (R 0 3).1))) (dr nr' (ent s L2 (0,uC I n s true 0 (R 0 3).1))) ∧ RsAt W rb (nbk I n) R ∧ Below w.heap.size w W ∧ W.heap[w.heap.size + 1]? = some (.cells #[.slice none 0 0,.int .i64 0,.bool false] 35 (0,0)) ∧ ParaAt (fun b => b < w.heap.size) W pb n I) := boxed (fun W hb => ⟨hS4.below hb,(HRAr.out.at hA4).keep (hb.block _ (heap_lt hA4)),hB4.trans (hb.mono hB4.size),(hb.block _ (heap_lt hZ4)).trans hZ4,HP.out _ (hB4.trans (hb.mono hB4.size))⟩)
   have HGO := ahead_any (HK.out _ (Below.refl _ _)).2.2.2.2 hn (HK.out _ (Below.refl _ _)).1.c.1.1 (-1) (-1)
   have HGC:Box (∀ W,Below w4.heap.size w4 W → Calls Tryz.prog 140 #[.pointer (some ⟨sb,0,none⟩),.agg (chA C),.agg #[.int .i64 (-1),.bool (itb I n (-1)).flag]] W fun e w' => e = .returned (.agg #[.int .i64 (chp I n s R C (-1) (itb I n (-1)).flag 4).1,.int .i64 (nx:Int)]) ∧ Below W.heap.size W w') := boxed (fun W hb => by
    obtain ⟨y1,y2,y3,y4,y5⟩ := HK.out W hb
    have := cheapest_any (C := C) y5 hn y1 y2 (chs_ok hCh hbo.2.1) (-1) (by omega) (itb I n (-1)).flag
    rw [hnx] at this
    exact this)
   have HRs := boxed HIv.out.hrs
   unfold aheV at HGO
   generalize (itb I n (-1)).flag = fl at *
   generalize (chp I n s R C (-1) fl 4).1 = Q at *
   obtain ⟨A,hA⟩:∃ A,chA C = A := ⟨_,rfl⟩
   rw [hA] at HGC ⊢
   have HRT := boxed hrst
   clear hli hn4 hst4 hS4 hx4 hO4 hCh hbo hnx hC hA hA4 hZ4 hB4 HSr HAr HRAr HIv HBr HZr HXr z0 z1 hrst
   go_wp2_with fail
   refine HGO.mono ?_
   rintro e' w5 ⟨rfl,hb5⟩
   have HB5 := boxed hb5
   clear hb5 HGO
   go_wp2_with fail
   refine (HGC.out _ HB5.out).mono ?_
   rintro e' w6 ⟨rfl,hb6⟩
   have HB6 := boxed (below_step HB5.out (Nat.le_refl _) hb6)
   clear hb6 HGC HB5
   -- where the first line ends
   have HB7:Box (∀ o,Below w4.heap.size w4 (w6.alloc o)) := boxed (fun o => HB6.out.alloc HB6.out.size _)
   have hz6 := heap_lt (HK.out _ HB6.out).2.2.2.1
   have hz7:w.heap.size + 1 ≠ w6.heap.size := by omega
   by_cases hA:Q = 1125899906842624
   ·have d1:(Q == 1125899906842624) = true := by simp [hA]
    have HNO:Box (Noway (PT I n width s s.t) 0 (-1)) := boxed (by
     rcases HRT.out with h | h | h
     ·exact h.2
     ·exact absurd h.1 (by rw [hA];exact Int.lt_irrefl _)
     ·exact absurd h.1 (by rw [hA];exact Int.lt_irrefl _))
    obtain ⟨⟨p0,p1,p2⟩,r0,r1,r2⟩ := cells3 (HK.out _ HB6.out).2.2.2.1
    obtain ⟨o,ho⟩:∃ o,o = Obj.cells #[.int .i64 Q,.int .i64 (nx:Int)] 209 (0,0) := ⟨_,rfl⟩
    have hF0 := (HK.out _ HB6.out).2.2.1.trans (sets_below (w.heap.size + 1) w.heap.size (by omega) [.slice none 0 0,.int .i64 0,.bool false] 0 w6)
    have HF:Box (Below w.heap.size w ((w6.setCells (w.heap.size + 1) 0 [.slice none 0 0,.int .i64 0,.bool false]).alloc (.cells #[.int .i64 Q,.int .i64 (nx:Int)] 209))) := boxed (hF0.alloc hF0.size _)
    have HR:Box (((w6.setCells (w.heap.size + 1) 0 [.slice none 0 0,.int .i64 0,.bool false]).alloc (.cells #[.int .i64 Q,.int .i64 (nx:Int)] 209)).heap[w.heap.size + 1]? = some (.cells #[.slice none 0 0,.int .i64 0,.bool false] 35 (0,0))) := boxed (by
     rw [Below.heap_alloc _ _ _ (by rw [sets_size];exact hz6)]
     exact sets_heap _ _ _ 0 _ _ (HK.out _ HB6.out).2.2.2.1)
    clear hF0
    simp only [World.setCells,Nat.zero_add,Nat.reduceAdd] at HF HR
    clear hA
    go_wp2_with fail
    refine bodyPost_ret (v := .tuple #[.agg #[.slice none 0 0,.int .i64 0,.bool false],.bool false]) ?_ ?_ ?_
    ·exact results_row_tmp Tryz.results94 _ _ (w.heap.size + 1) 35 #[.slice none 0 0,.int .i64 0,.bool false] (0,0) _ rfl HR.out Tryz.underlying35 rfl (by kernel_rfl)
    ·rfl
    ·exact ⟨HF.out,.inr ⟨HNO.out,rfl⟩⟩
   ·have d1:(Q == 1125899906842624) = false := by simp [hA]
    obtain ⟨tl,hbest⟩:∃ tl,Best (PT I n width s s.t) 0 (-1) Q (nx :: tl) := by
     rcases HRT.out with h | h | h
     ·exact absurd h.1 hA
     ·have := h.2.1;simp only [PT] at this;omega
     ·exact h.2.2
    have HBE := boxed hbest
    obtain ⟨y1,y2,y3,y4,y5⟩ := HK.out _ (HB7.out (.cells #[.int .i64 Q,.int .i64 (nx:Int)] 209))
    have hwy := way_any y5 hn hok hw hs y1 y2 (fun j hj c hc => HRs.out j (by omega) hj c hc) Q nx tl hbest
    have hb7:Below w.heap.size w (w6.alloc (.cells #[.int .i64 Q,.int .i64 (nx:Int)] 209)) := y3
    have hz8:(w6.alloc (.cells #[.int .i64 Q,.int .i64 (nx:Int)] 209)).heap.size = w6.heap.size + 1 := by simp
    have HY4 := boxed y4
    have HB8 := boxed hb7
    clear hbest y1 y2 y3 y4 y5 hb7 hA HRT
    go_wp2_with fail
    refine hwy.mono ?_
    rintro e' w8 ⟨v8,rfl,ho8,hb8⟩
    have hZ8:w8.heap[w.heap.size + 1]? = some (.cells #[.slice none 0 0,.int .i64 0,.bool false] 35 (0,0)) := (hb8.block _ (by omega)).trans HY4.out
    have hB8:Below w.heap.size w w8 := HB8.out.trans (hb8.mono (by have := HB8.out.size;omega))
    obtain ⟨a1,c1,rfl⟩ := own_shape ho8
    obtain ⟨⟨p0,p1,p2⟩,r0,r1,r2⟩ := cells3 hZ8
    have HF:Box (Below w.heap.size w (w8.setCells (w.heap.size + 1) 0 [.slice a1 (nx :: tl).length c1,.int .i64 Q,.bool false])) := boxed (hB8.trans (sets_below _ _ (by omega) _ _ _))
    have HR:Box ((w8.setCells (w.heap.size + 1) 0 [.slice a1 (nx :: tl).length c1,.int .i64 Q,.bool false]).heap[w.heap.size + 1]? = some (.cells #[.slice a1 (nx :: tl).length c1,.int .i64 Q,.bool false] 35 (0,0))) := boxed (sets_heap _ _ _ 0 _ _ hZ8)
    have HO:Box ((w8.setCells (w.heap.size + 1) 0 [.slice a1 (nx :: tl).length c1,.int .i64 Q,.bool false]).ownsRow w.heap.size 3 1 (.slice a1 (nx :: tl).length c1) (nx :: tl).length (ncs ((nx :: tl).map (bkn I n)))) := boxed (by
     simp only [World.setCells]
     have h1:w.heap.size + 1 < (w6.alloc (.cells #[.int .i64 Q,.int .i64 (nx:Int)] 209)).heap.size := by omega
     have := ownsRow_setCell_below (ownsRow_setCell_below (ownsRow_setCell_below ho8 (a := ⟨w.heap.size + 1,0,none⟩) h1 (.slice a1 (nx :: tl).length c1)) (a := ⟨w.heap.size + 1,0 + 1,none⟩) h1 (.int .i64 Q)) (a := ⟨w.heap.size + 1,0 + 1 + 1,none⟩) h1 (.bool false)
     exact own_mono9 this (by omega))
    simp only [World.setCells,Nat.zero_add,Nat.reduceAdd] at HF HR HO
    obtain ⟨ln,hln⟩:∃ ln,(nx :: tl).length = ln := ⟨_,rfl⟩
    rw [hln] at HF HR HO ⊢
    have HLN := boxed hln
    clear hln ho8 hb8 hZ8 hB8 hwy
    go_wp2_with fail
    refine bodyPost_ret (v := .tuple #[.agg #[.slice a1 ln c1,.int .i64 Q,.bool false],.bool true]) ?_ ?_ ?_
    ·exact results_row_tmp Tryz.results94 _ _ (w.heap.size + 1) 35 #[.slice a1 ln c1,.int .i64 Q,.bool false] (0,0) _ rfl HR.out Tryz.underlying35 rfl (by kernel_rfl)
    ·rfl
    ·exact ⟨HF.out,.inl ⟨Q,nx :: tl,.slice a1 ln c1,HBE.out,by simp,rfl,by rw [HLN.out];exact HO.out⟩⟩
  ·obtain ⟨i,rfl⟩:∃ i',i = i' + 1 := ⟨i - 1,by omega⟩
   obtain rfl:k = (i:Int) := by omega
   have t1:decide ((0:Int) ≤ (i:Int)) = true := decide_eq_true (by omega)
   have hln := hIv.len hm
   have hli := lines_any (HP.out _ hBr) hn hok hw (i + 1) nr bd (i:Int) (by omega) hil hSr (by rcases hIv.hbd with h | h;exact .inl h;exact .inr ⟨h.1,h.2.1⟩) hIv.hle.1 (hRAr.at hAr) hln.1 hln.2 hIv.hle.2
   have HSr := boxed hSr
   have HAr := boxed hAr
   have HRAr := boxed hRAr
   have HIv := boxed hIv
   have HBr := boxed hBr
   have HZr := boxed hZr
   have HXr := boxed hXr
   clear hSr hAr hRAr hIv hBr hZr hXr hln
   go_wp2_with fail
   refine hli.mono ?_
   rintro e' w4 ⟨u1,u2,nr',st,rfl,hn4,hst4,hS4,hx4,hO4⟩
   have ei:((i + 1:Nat):Int) - 1 = (i:Int) := by omega
   have hCh := HIv.out.choice hn hok hs hw hil nr' st (by rw [ei];exact hn4) (by rw [ei];exact hst4)
   rw [ei] at hCh
   obtain ⟨C,hC⟩:∃ C,hfu I n width s R (i:Int) nr' st (hop (fun _ => Ln.none) (sel (itb I n (i:Int)).flag (dr nr' (ent s L2 (i + 1,uC I n s true (i + 1) (R (i + 1) 3).1))) (dr nr' (ent s L1 (i + 1,uC I n s false (i + 1) (R (i + 1) 3).1))))) = C := ⟨_,rfl⟩
   rw [hC] at hCh
   have hA1 := HAr.out
   have z0 := heap_lt HAr.out
   have z1 := heap_lt HZr.out
   have hB4:Below w.heap.size w w4 := HBr.out.trans (SX_below HSr.out hO4)
   have hA4:w4.heap[rb]? = some (.cells arr 210 (0,0)) := (hO4.block rb z0 (SX_rb HSr.out)).trans HAr.out
   have hZ4:w4.heap[w.heap.size + 1]? = some (.cells #[.slice none 0 0,.int .i64 0,.bool false] 35 (0,0)) := (hO4.block _ z1 HXr.out).trans HZr.out
   have hX4:¬ SX sb u1 u2 (w.heap.size + 1) := fun hx => HXr.out (hx4 _ z1 hx)
   -- the choice's block
   obtain ⟨cs,hA⟩:∃ cs:List Value,chA C = List.toArray cs := ⟨(chA C).toList,rfl⟩
   have hsz := choice_size C
   have h1 := chA_one C
   rw [hA] at hsz h1
   have HT4:Box ((w4.alloc (.cells #[.int .i64 0,.int .i64 0,.int .i64 0,.int .i64 0,.int .i64 0,.bool false,.int .i64 0,.int .i64 0,.int .i64 0,.int .i64 0,.int .i64 0,.int .i64 0,.bool false,.int .i64 0,.int .i64 0,.int .i64 0,.int .i64 0,.int .i64 0,.int .i64 0,.bool false,.int .i64 0,.int .i64 0,.int .i64 0,.int .i64 0,.int .i64 0,.int .i64 0,.bool false,.int .i64 0] 206)).there w4.heap.size 0 (List.toArray cs).size) := boxed (fun j hj => by
    rw [Nat.zero_add]
    have he := heap_alloc_new w4 (.cells #[.int .i64 0,.int .i64 0,.int .i64 0,.int .i64 0,.int .i64 0,.bool false,.int .i64 0,.int .i64 0,.int .i64 0,.int .i64 0,.int .i64 0,.int .i64 0,.bool false,.int .i64 0,.int .i64 0,.int .i64 0,.int .i64 0,.int .i64 0,.int .i64 0,.bool false,.int .i64 0,.int .i64 0,.int .i64 0,.int .i64 0,.int .i64 0,.int .i64 0,.bool false,.int .i64 0] 206)
    rw [← nA_zero] at he ⊢
    have hj2:j < (nA 0).size := by rw [← hA] at hj;exact hj
    exact ⟨by rw [row_cell he j (nA 0)[j] (by simp [hj2])];rfl,row_free he j⟩)
   have hE5:((w4.alloc (.cells #[.int .i64 0,.int .i64 0,.int .i64 0,.int .i64 0,.int .i64 0,.bool false,.int .i64 0,.int .i64 0,.int .i64 0,.int .i64 0,.int .i64 0,.int .i64 0,.bool false,.int .i64 0,.int .i64 0,.int .i64 0,.int .i64 0,.int .i64 0,.int .i64 0,.bool false,.int .i64 0,.int .i64 0,.int .i64 0,.int .i64 0,.int .i64 0,.int .i64 0,.bool false,.int .i64 0] 206)).setCells w4.heap.size 0 cs).heap[w4.heap.size]? = some (.cells (List.toArray cs) 206 (0,0)) := by
    have hcl:cs = (chA C).toList := by rw [hA]
    rw [sets_heap w4.heap.size 206 _ 0 _ _ (heap_alloc_new w4 _),← hA,hcl]
    simp [setA,chA,Ln.cells]
   have hb5:Below w4.heap.size w4 ((w4.alloc (.cells #[.int .i64 0,.int .i64 0,.int .i64 0,.int .i64 0,.int .i64 0,.bool false,.int .i64 0,.int .i64 0,.int .i64 0,.int .i64 0,.int .i64 0,.int .i64 0,.bool false,.int .i64 0,.int .i64 0,.int .i64 0,.int .i64 0,.int .i64 0,.int .i64 0,.bool false,.int .i64 0,.int .i64 0,.int .i64 0,.int .i64 0,.int .i64 0,.int .i64 0,.bool false,.int .i64 0] 206)).setCells w4.heap.size 0 cs) := ((Below.refl _ _).alloc (Nat.le_refl _) _).trans (sets_below _ _ (Nat.le_refl _) _ _ _)
   rw [hC,hA]
   go_wp2_with (first | (refine wpList_store_mid rfl 206 _ _ rfl _ 0 (List.toArray cs) rfl rfl HT4.out hsz h1 ?_))
   obtain ⟨w5,hw5⟩:∃ w5,(w4.alloc (.cells #[.int .i64 0,.int .i64 0,.int .i64 0,.int .i64 0,.int .i64 0,.bool false,.int .i64 0,.int .i64 0,.int .i64 0,.int .i64 0,.int .i64 0,.int .i64 0,.bool false,.int .i64 0,.int .i64 0,.int .i64 0,.int .i64 0,.int .i64 0,.int .i64 0,.bool false,.int .i64 0,.int .i64 0,.int .i64 0,.int .i64 0,.int .i64 0,.int .i64 0,.bool false,.int .i64 0] 206)).setCells w4.heap.size 0 cs = w5 := ⟨_,rfl⟩
   obtain ⟨CB,hCB⟩:∃ CB,w4.heap.size = CB := ⟨_,rfl⟩
   rw [hw5] at hE5 hb5 ⊢
   rw [hCB] at hE5 ⊢
   have hz5 := hb5.size
   have HI5:Box (∃ R' arr',SS w.heap.size sb pb rb (nbk I n) (nbk I n) width s w5 ((if forc (itb I n ((i + 1:Nat):Int)) = true then i + 1 + 1 else bd:Nat):Int) ((nr':Nat):Int) u1 u2 (dr nr' (ent s L1 (i + 1,uC I n s false (i + 1) (R (i + 1) 3).1))) (dr nr' (ent s L2 (i + 1,uC I n s true (i + 1) (R (i + 1) 3).1))) ∧ w5.heap[rb]? = some (.cells arr' 210 (0,0)) ∧ RA arr' (nbk I n) R' ∧ (∀ j,i + 1 ≤ j → ∀ c,R' j c = R j c) ∧ (∀ c:Nat,c < 0 → Rst (PT I n width s s.t) (i + 1) (c:Int) (R' i c).1 (R' i c).2) ∧ w5.heap[CB]? = some (.cells (List.toArray cs) 206 (0,0)) ∧ Below w.heap.size w w5 ∧ w5.heap[w.heap.size + 1]? = some (.cells #[.slice none 0 0,.int .i64 0,.bool false] 35 (0,0))) := boxed ⟨R,arr,hS4.below hb5,(hb5.block rb (heap_lt hA4)).trans hA4,HRAr.out,fun _ _ _ => rfl,fun c hc => by omega,hE5,hB4.trans (hb5.mono (by have := hB4.size;omega)),(hb5.block _ (heap_lt hZ4)).trans hZ4⟩
   have HN4 := boxed hn4
   have HCh := boxed hCh
   have HX4 := boxed hX4
   have HA := boxed hA
   have hCBr:CB ≠ rb ∧ CB ≠ w.heap.size + 1 := by have := heap_lt hA4;have := heap_lt hZ4;omega
   have hCBx:¬ SX sb u1 u2 CB := fun hx => by
    have hq:CB < w4.heap.size := by
     rcases hx with hx | hx | hx
     ·rw [hx];exact hS4.hs.2.1
     ·exact (hS4.b1 _ hx).2.1
     ·exact (hS4.b2 _ hx).2.1
    omega
   have HCBx := boxed hCBx
   clear hw5 hE5 hb5 hCB HT4 hA4 hZ4 hB4 hS4 hO4 hx4 hst4 hn4 hCh hX4 hA hC hA1 HAr HZr hCBx hli HSr HBr HXr z0 z1 hz5
   have hbo := HIv.out.bound hil
   generalize hbd0:(if forc (itb I n ((i + 1:Nat):Int)) = true then i + 1 + 1 else bd) = bd0 at *
   generalize hD1:dr nr' (ent s L1 (i + 1,uC I n s false (i + 1) (R (i + 1) 3).1)) = D1 at *
   generalize hD2:dr nr' (ent s L2 (i + 1,uC I n s true (i + 1) (R (i + 1) 3).1)) = D2 at *
   have HD1 := boxed hD1
   have HD2 := boxed hD2
   clear hD1 hD2
   have HIv2 := boxed hbd0
   clear hbd0
   go_wp2_with fail
   go_loopw [31] (fun cv wr => ∃ cl:Nat,cl ≤ 4 ∧ cv = .int .i64 (cl:Int) ∧ Box (∃ R' arr',SS w.heap.size sb pb rb (nbk I n) (nbk I n) width s wr ((bd0:Nat):Int) ((nr':Nat):Int) u1 u2 D1 D2 ∧ wr.heap[rb]? = some (.cells arr' 210 (0,0)) ∧ RA arr' (nbk I n) R' ∧ (∀ j,i + 1 ≤ j → ∀ c,R' j c = R j c) ∧ (∀ c:Nat,c < cl → Rst (PT I n width s s.t) (i + 1) (c:Int) (R' i c).1 (R' i c).2) ∧ wr.heap[CB]? = some (.cells (List.toArray cs) 206 (0,0)) ∧ Below w.heap.size w wr ∧ wr.heap[w.heap.size + 1]? = some (.cells #[.slice none 0 0,.int .i64 0,.bool false] 35 (0,0)))) (fun cv _ => 4 - (intOf cv).toNat)
   case atStart => exact ⟨0,by omega,rfl,HI5⟩
   case round =>
    obtain ⟨cl,hcl,rfl,HR⟩ := hrel
    obtain ⟨R',arr',k1,k2,k3,k4,k5,k6,k7,k8⟩ := HR.out
    clear HR
    by_cases hc4:cl < 4
    ·have t2:decide ((cl:Int) < 4) = true := decide_eq_true (by omega)
     have t3:(cl:Int) < 4 := by omega
     have hil2:i < nbk I n := by omega
     have hil3:(i:Int) < (nbk I n:Int) := by omega
     have hCh' := chs_congr HCh.out k4
     obtain ⟨nx,hnx,hrst⟩ := chp_rst hn hok hs hCh' hbo.1 hbo.2.1 hbo.2.2.1 hbo.2.2.2 (fun j a1 a2 c hc => by rw [k4 j a1];exact HIv.out.hrs j a1 a2 c hc) (cl:Int)
     rw [show ((i + 1:Nat):Int) - 1 = (i:Int) by omega] at hnx hrst
     have HGO:Box (∀ W,Below wr.heap.size wr W → Calls Tryz.prog 141 #[.pointer (some ⟨sb,0,none⟩),.int .i64 (i:Int),.int .i64 (cl:Int)] W fun e w' => e = .returned (.agg #[.int .i64 (cl:Int),.bool (itb I n (i:Int)).flag]) ∧ Below W.heap.size W w') := boxed (fun W hb => ahead_any (HP.out _ (k7.trans (hb.mono k7.size))) hn (k1.below hb).c.1.1 (i:Int) (cl:Int))
     have HGC:Box (∀ W,Below wr.heap.size wr W → Calls Tryz.prog 140 #[.pointer (some ⟨sb,0,none⟩),.agg (List.toArray cs),.agg #[.int .i64 (cl:Int),.bool (itb I n (i:Int)).flag]] W fun e w' => e = .returned (.agg #[.int .i64 (chp I n s R' C (cl:Int) (itb I n (i:Int)).flag 4).1,.int .i64 (nx:Int)]) ∧ Below W.heap.size W w') := boxed (fun W hb => by
      have := cheapest_any (C := C) (HP.out _ (k7.trans (hb.mono k7.size))) hn (k1.below hb) ((k3.at k2).keep (hb.block rb (heap_lt k2))) (chs_ok hCh' hbo.2.1) (cl:Int) (by omega) (itb I n (i:Int)).flag
      rw [HA.out,hnx] at this
      exact this)
     generalize (itb I n (i:Int)).flag = fl at *
     generalize hQ:(chp I n s R' C (cl:Int) fl 4).1 = Q at *
     clear hnx hQ
     -- what holds at every world on the way
     have HK:Box (∀ W,Below wr.heap.size wr W → SS w.heap.size sb pb rb (nbk I n) (nbk I n) width s W ((bd0:Nat):Int) ((nr':Nat):Int) u1 u2 D1 D2 ∧ W.heap[rb]? = some (.cells arr' 210 (0,0)) ∧ RA arr' (nbk I n) R' ∧ (∀ j,i + 1 ≤ j → ∀ c,R' j c = R j c) ∧ (∀ c:Nat,c < cl → Rst (PT I n width s s.t) (i + 1) (c:Int) (R' i c).1 (R' i c).2) ∧ W.heap[CB]? = some (.cells (List.toArray cs) 206 (0,0)) ∧ Below w.heap.size w W ∧ W.heap[w.heap.size + 1]? = some (.cells #[.slice none 0 0,.int .i64 0,.bool false] 35 (0,0))) := boxed (fun W hb => ⟨k1.below hb,(hb.block _ (heap_lt k2)).trans k2,k3,k4,k5,(hb.block _ (heap_lt k6)).trans k6,k7.trans (hb.mono k7.size),(hb.block _ (heap_lt k8)).trans k8⟩)
     have HXR:Box (∀ W,Below wr.heap.size wr W → W.cell? ⟨sb,9,none⟩ = some (.slice (some ⟨rb,0,none⟩) (nbk I n) (nbk I n)) ∧ W.rangeAt CB 0 cs) := boxed (fun W hb => ⟨(HK.out W hb).1.c.1.2.2.2.1,fun j v hv => by rw [Nat.zero_add];exact row_cell (HK.out W hb).2.2.2.2.2.1 j v (by simpa using hv)⟩)
     have HD:Box (Below wr.heap.size wr wr.drew) := boxed (Below.refl _ _).drew
     have hsz':(Tryz.prog.info? 206).map (·.size) = some cs.length := by rw [hsz];simp
     clear k1 k2 k3 k4 k5 k6 k7 k8 HI5
     go_wp2_with fail
     refine wp_region_held_drew (S := fun W => W.cell? ⟨sb,9,none⟩ = some (.slice (some ⟨rb,0,none⟩) (nbk I n) (nbk I n)) ∧ W.rangeAt CB 0 cs) (by kernel_rfl) (HXR.out _ HD.out) (fun hHeld => ?_)
     refine' wpAnyH_take (i := 0) (v := _) rfl (by kernel_rfl) (by kernel_rfl) (by kernel_rfl) (fun _ _ _ h => h) (Or.inl ⟨by rfl,?hy1⟩) (by assumption) ?rest1
     case hy1 => (intro w' hSw;(try dsimp only at hSw);go_simp;try with_reducible rfl)
     try simp only [Act.put,List.setIfInBounds_toArray,List.set_cons_zero,List.set_cons_succ]
     refine' wpAnyH_take (i := 1) (v := _) rfl (by kernel_rfl) (by kernel_rfl) (by kernel_rfl) (fun _ _ _ h => h) (Or.inl ⟨by rfl,?hy2⟩) (by assumption) ?rest2
     case hy2 => (intro w' hSw;(try dsimp only at hSw);go_simp;try with_reducible rfl)
     try simp only [Act.put,List.setIfInBounds_toArray,List.set_cons_zero,List.set_cons_succ]
     refine' wpAnyH_take (i := 2) (v := _) rfl (by kernel_rfl) (by kernel_rfl) (by kernel_rfl) (fun _ _ _ h => h) (Or.inl ⟨by rfl,?hy3⟩) (by assumption) ?rest3
     case hy3 => (intro w' hSw;(try dsimp only at hSw);go_simp;try with_reducible rfl)
     try simp only [Act.put,List.setIfInBounds_toArray,List.set_cons_zero,List.set_cons_succ]
     refine' wpAnyH_take (i := 3) (v := _) rfl (by kernel_rfl) (by kernel_rfl) (by kernel_rfl) (fun _ _ _ h => h) (Or.inl ⟨by rfl,?hy4⟩) (by assumption) ?rest4
     case hy4 => (intro w' hSw;(try dsimp only at hSw);go_simp;try with_reducible rfl)
     try simp only [Act.put,List.setIfInBounds_toArray,List.set_cons_zero,List.set_cons_succ]
     refine' wpAnyH_take (i := 4) (v := _) rfl (by kernel_rfl) (by kernel_rfl) (by kernel_rfl) (fun _ _ _ h => h) (Or.inl ⟨by rfl,?hy5⟩) (by assumption) ?rest5
     case hy5 => (intro w' hSw;(try dsimp only at hSw);go_simp;try with_reducible rfl)
     try simp only [Act.put,List.setIfInBounds_toArray,List.set_cons_zero,List.set_cons_succ]
     refine' wpAnyH_take (i := 5) (v := _) rfl (by kernel_rfl) (by kernel_rfl) (by kernel_rfl) (fun _ _ _ h => h) (Or.inl ⟨by rfl,?hy6⟩) (by assumption) ?rest6
     case hy6 => (intro w' hSw;(try dsimp only at hSw);go_simp;try with_reducible rfl)
     try simp only [Act.put,List.setIfInBounds_toArray,List.set_cons_zero,List.set_cons_succ]
     refine' wpAnyH_take (i := 6) (v := _) rfl (by kernel_rfl) (by kernel_rfl) (by kernel_rfl) (fun _ _ _ h => h) (Or.inl ⟨by rfl,?hy7⟩) (by assumption) ?rest7
     case hy7 => (intro w' hSw;(try dsimp only at hSw);go_simp;try with_reducible rfl)
     try simp only [Act.put,List.setIfInBounds_toArray,List.set_cons_zero,List.set_cons_succ]
     refine' wpAnyH_take (i := 7) (v := _) rfl (by kernel_rfl) (by kernel_rfl) (by kernel_rfl) (fun _ _ _ h => h) (yieldsIf_load_mid (by rfl) _ _ rfl _ _ rfl cs _ (fun W hS => hS.2) Tryz.underlying206 rfl hsz') (by assumption) ?rest8
     try simp only [Act.put,List.setIfInBounds_toArray,List.set_cons_zero,List.set_cons_succ]
     refine' wpAnyH_take (i := 8) (v := _) rfl (by kernel_rfl) (by kernel_rfl) (by kernel_rfl) (fun _ _ _ h => h) (Or.inl ⟨by rfl,?hy9⟩) (by assumption) ?rest9
     case hy9 => (intro w' hSw;(try dsimp only at hSw);go_simp;try with_reducible rfl)
     try simp only [Act.put,List.setIfInBounds_toArray,List.set_cons_zero,List.set_cons_succ]
     refine' wpAnyH_take (i := 9) (v := _) rfl (by kernel_rfl) (by kernel_rfl) (by kernel_rfl) (fun _ _ _ h => h) (Or.inl ⟨by rfl,?hy10⟩) (by assumption) ?rest10
     case hy10 => (intro w' hSw;(try dsimp only at hSw);go_simp;try with_reducible rfl)
     try simp only [Act.put,List.setIfInBounds_toArray,List.set_cons_zero,List.set_cons_succ]
     refine' wpAnyH_take (i := 10) (v := _) rfl (by kernel_rfl) (by kernel_rfl) (by kernel_rfl) (fun _ _ _ h => h) (Or.inl ⟨by rfl,?hy11⟩) (by assumption) ?rest11
     case hy11 => (intro w' hSw;(try dsimp only at hSw);go_simp;try with_reducible rfl)
     try simp only [Act.put,List.setIfInBounds_toArray,List.set_cons_zero,List.set_cons_succ]
     refine' wpAnyH_take (i := 13) (v := _) rfl (by kernel_rfl) (by kernel_rfl) (by kernel_rfl) (fun _ _ _ h => h) (Or.inl ⟨by rfl,?hy12⟩) (by assumption) ?rest12
     case hy12 => (intro w' hSw;(try dsimp only at hSw);go_simp;try with_reducible rfl)
     try simp only [Act.put,List.setIfInBounds_toArray,List.set_cons_zero,List.set_cons_succ]
     refine wpAnyH_ready (rs := [11]) (by kernel_rfl) (by simp) ?_
     refine AllReadyH.cons rfl (fun K hK => ?_) AllReadyH.nil
     go_simp
     refine (HGO.out _ HD.out).mono ?_
     rintro e' wa ⟨rfl,hba⟩
     have HBa := boxed (below_step HD.out (Nat.le_refl _) hba)
     clear hba hHeld
     go_wp2_with fail
     refine hK.out _ _ ?_ (fun hHeld => ?_)
     ·exact HXR.out _ HBa.out
     clear hK K
     try simp only [Act.put,List.setIfInBounds_toArray,List.set_cons_zero,List.set_cons_succ]
     refine wpAnyH_ready (rs := [12]) (by kernel_rfl) (by simp) ?_
     refine AllReadyH.cons rfl (fun K hK => ?_) AllReadyH.nil
     go_simp
     refine (HGC.out _ HBa.out).mono ?_
     rintro e' wc ⟨rfl,hbc⟩
     have HBc := boxed (below_step HBa.out (Nat.le_refl _) hbc)
     clear hbc hHeld
     go_wp2_with fail
     refine hK.out _ _ ?_ (fun hHeld => ?_)
     ·exact HXR.out _ HBc.out
     clear hK K
     try simp only [Act.put,List.setIfInBounds_toArray,List.set_cons_zero,List.set_cons_succ]
     refine' wpAnyH_take (i := 14) (v := _) rfl (by kernel_rfl) (by kernel_rfl) (by kernel_rfl) (fun _ _ _ h => h) (Or.inl ⟨by rfl,?hy13⟩) (by assumption) ?rest13
     case hy13 => (intro w' hSw;(try dsimp only at hSw);go_simp;try with_reducible rfl)
     try simp only [Act.put,List.setIfInBounds_toArray,List.set_cons_zero,List.set_cons_succ]
     obtain ⟨y1,y2,y3,y4,y5,y6,y7,y8⟩ := HK.out _ HBc.out
     have g0 := row_cell y2 (i * 8 + cl * 2) _ (y3.2 i cl hil2 hc4).1
     have g1 := row_cell y2 (i * 8 + cl * 2 + 1) _ (y3.2 i cl hil2 hc4).2
     have f0 := row_free y2 (i * 8 + cl * 2)
     have f1 := row_free y2 (i * 8 + cl * 2 + 1)
     have x1 := sets_other rb sb y1.hs.2.2.1 [.int .i64 Q,.int .i64 (nx:Int)] (i * 8 + cl * 2) wc
     have x2 := sets_other rb CB hCBr.1 [.int .i64 Q,.int .i64 (nx:Int)] (i * 8 + cl * 2) wc
     have xq := HXR.out _ HBc.out
     have HXf := (show (wc.setCells rb (i * 8 + cl * 2) [.int .i64 Q,.int .i64 (nx:Int)]).cell? ⟨sb,9,none⟩ = some (.slice (some ⟨rb,0,none⟩) (nbk I n) (nbk I n)) ∧ (wc.setCells rb (i * 8 + cl * 2) [.int .i64 Q,.int .i64 (nx:Int)]).rangeAt CB 0 cs from ⟨(World.cell?_of_block (w := wc) (a := ⟨sb,9,none⟩) x1).trans xq.1,fun j v hv => (World.cell?_of_block (w := wc) (a := ⟨CB,0 + j,none⟩) x2).trans (xq.2 j v hv)⟩)
     have HNW := (show ∃ R' arr',SS w.heap.size sb pb rb (nbk I n) (nbk I n) width s (wc.setCells rb (i * 8 + cl * 2) [.int .i64 Q,.int .i64 (nx:Int)]) ((bd0:Nat):Int) ((nr':Nat):Int) u1 u2 D1 D2 ∧ (wc.setCells rb (i * 8 + cl * 2) [.int .i64 Q,.int .i64 (nx:Int)]).heap[rb]? = some (.cells arr' 210 (0,0)) ∧ RA arr' (nbk I n) R' ∧ (∀ j,i + 1 ≤ j → ∀ c,R' j c = R j c) ∧ (∀ c:Nat,c < cl + 1 → Rst (PT I n width s s.t) (i + 1) (c:Int) (R' i c).1 (R' i c).2) ∧ (wc.setCells rb (i * 8 + cl * 2) [.int .i64 Q,.int .i64 (nx:Int)]).heap[CB]? = some (.cells (List.toArray cs) 206 (0,0)) ∧ Below w.heap.size w (wc.setCells rb (i * 8 + cl * 2) [.int .i64 Q,.int .i64 (nx:Int)]) ∧ (wc.setCells rb (i * 8 + cl * 2) [.int .i64 Q,.int .i64 (nx:Int)]).heap[w.heap.size + 1]? = some (.cells #[.slice none 0 0,.int .i64 0,.bool false] 35 (0,0)) from ⟨setR R' i cl (Q,nx),setA arr' (i * 8 + cl * 2) [.int .i64 Q,.int .i64 (nx:Int)],y1.oth (X := fun q => q = rb) ⟨(sets_below rb 0 (by omega) _ _ _).os,(sets_below rb 0 (by omega) _ _ _).tape,(sets_below rb 0 (by omega) _ _ _).output,(sets_below rb 0 (by omega) _ _ _).size,fun b _ hb => sets_other rb b hb _ _ _⟩ (fun q hq hx => SX_rb y1 (by rw [← hq];exact hx)),sets_heap rb _ _ _ wc _ y2,ra_set y3 i cl hil2 hc4 (Q,nx),fun j hj c => by unfold setR;rw [if_neg (by omega)];exact y4 j hj c,fun c hc => by unfold setR;by_cases e:c = cl;(subst e;rw [if_pos ⟨rfl,rfl⟩];exact hrst);(rw [if_neg (by omega)];exact y5 c (by omega)),x2.trans y6,y7.trans (sets_below rb _ hrs.1 _ _ _),(sets_other rb _ hrz.1 _ _ _).trans y8⟩)
     simp only [World.setCells] at HXf HNW
     replace HXf := boxed HXf
     replace HNW := boxed HNW
     clear y1 y2 y3 y4 y5 y6 y7 y8 x1 x2 xq hHeld
     refine wpAnyH_ready (rs := [15]) (by kernel_rfl) (by simp) ?_
     refine AllReadyH.cons rfl (fun K hK => ?_) AllReadyH.nil
     go_simp
     refine hK.out _ _ ?_ (fun hHeld => ?_)
     ·exact HXf.out
     clear hK K
     try simp only [Act.put,List.setIfInBounds_toArray,List.set_cons_zero,List.set_cons_succ]
     refine wpAnyH_done (by kernel_rfl) ?_ _
     go_wp2_with fail
     go_roundw
     case rel => first | exact ⟨cl + 1,by omega,by go_num,HNW⟩ | exact ⟨_,_,_,_,_,_,_,_,_,_,_,_,_,_,_,_,_,_,_,_,⟨cl + 1,by omega,by go_num,HNW⟩,rfl⟩
     case measure => (first | (simp [intOf];done) | (simp [intOf];omega))
    ·obtain rfl:cl = 4 := by omega
     have t2:decide (((4:Nat):Int) < 4) = false := by simp
     have HNX:Box (∃ nr bd v1 v2 L1 L2 R arr,SS w.heap.size sb pb rb (nbk I n) (nbk I n) width s wr ((bd:Nat):Int) ((nr:Nat):Int) v1 v2 L1 L2 ∧ wr.heap[rb]? = some (.cells arr 210 (0,0)) ∧ RA arr (nbk I n) R ∧ Inv I n width s i nr bd L1 L2 R ∧ Below w.heap.size w wr ∧ wr.heap[w.heap.size + 1]? = some (.cells #[.slice none 0 0,.int .i64 0,.bool false] 35 (0,0)) ∧ ¬ SX sb v1 v2 (w.heap.size + 1)) := boxed ⟨nr',bd0,u1,u2,D1,D2,R',arr',k1,k2,k3,by
      have := HIv.out.next hil nr' ⟨HN4.out.1,HN4.out.2.1⟩ k4 k5
      rw [HIv2.out] at this
      rw [← HD1.out,← HD2.out]
      exact this,k7,k8,HX4.out⟩
     have hq1:-1 ≤ (i:Int) ∧ (i:Int) ≤ 262144 := by omega
     clear k1 k2 k3 k4 k5 k6 k7 k8
     go_wp2_with fail
     go_roundw
     case rel => exact ⟨i,(i:Int) - 1,by omega,by omega,by go_num,HNX⟩
     case measure => (first | (simp [intOf];done) | (simp [intOf];omega))
end
end Go.Proofs.YtcjcdpfjnomehaaGreat
namespace Go.Proofs.YtcjcdpfjnomehaaGreat
set_option maxRecDepth 100000
set_option maxHeartbeats 40000000
open Go.RowKit
set_option linter.unusedSimpArgs false
set_option linter.unusedVariables false
def okW (width:Int):Bool := decide (1 ≤ width) && decide (width ≤ 1073741824)
def chkV (width:Int) (s:Stg):Int := if okW width = true then (if okS s = true then 0 else 80) else 41
theorem bcheck_any (width:Int) (s:Stg) (w:World):Calls Tryz.prog 41 #[.int .i64 width,s.val] w fun e w' => e = .returned (.int .i64 (chkV width s)) ∧ Below w.heap.size w w' := by
 have hc := fun W => check_any s W
 have HV := boxed (show chkV width s = if okW width = true then (if okS s = true then 0 else 80) else 41 from rfl)
 generalize chkV width s = V at *
 generalize (if okS s = true then (0:Int) else 80) = E at *
 unfold Stg.val at *
 by_cases h1:width < 1
 ·have d1:decide (width < 1) = true := decide_eq_true h1
  go_enter Tryz.func41,Tryz.ntmps41
  go_wp2_with fail
  go_ret
  exact ⟨ret_int (by rw [HV.out,if_neg (by simp [okW];omega)]),by go_grown⟩
 have d1:decide (width < 1) = false := decide_eq_false h1
 by_cases h2:1073741824 < width
 ·have d2:decide (1073741824 < width) = true := decide_eq_true h2
  go_enter Tryz.func41,Tryz.ntmps41
  go_wp2_with fail
  go_ret
  exact ⟨ret_int (by rw [HV.out,if_neg (by simp [okW];omega)]),by go_grown⟩
 have d2:decide (1073741824 < width) = false := decide_eq_false h2
 go_enter Tryz.func41,Tryz.ntmps41
 go_wp2_with fail
 refine (hc _).mono ?_
 rintro e w1 ⟨rfl,hb⟩
 have hb1 := kept_below (Below.refl w.heap.size w) (Nat.le_refl _) hb
 have HB := boxed hb1
 clear hb hb1 hc
 go_wp2_with fail
 go_ret
 exact ⟨ret_int (by rw [HV.out,if_pos (by simp [okW];omega)]),HB.out⟩
section
variable {w:World} {pb n:Nat} {I:Nat → Itm} {width:Int} {s:Stg} {S:Nat → Prop}
theorem all_bk (I:Nat → Itm) (n:Nat):(List.range (nbk I n)).map (bkn I n) = lgs I n n := by
 apply List.ext_getElem
 ·simp [nbk]
 ·intro i h1 h2
  simp [bkn,List.getElem?_eq_getElem h2]
theorem shortest_any (h:ParaAt S w pb n I) (hn:n ≤ 262144) (hl:0 < nbk I n):Calls Tryz.prog 143 #[.pointer (some ⟨pb,0,none⟩)] w fun e w' => ∃ v,e = .returned (.agg #[v,.int .i64 Awf,.bool false]) ∧ w'.ownsRow w.heap.size 3 1 v (nbk I n) (ncs (lgs I n n)) ∧ Below w.heap.size w w' := by
 obtain ⟨w0,hw0,hb0,hz0,HN⟩ := res_any w #[.slice none 0 0,.int .i64 0,.bool false] 35 _ rfl
 replace HN := boxed HN
 have hp := plegal_any (h.below hb0) hn hl
 unfold Awf
 clear h hb0
 go_enter Tryz.func143,Tryz.ntmps143
 go_wp2_with fail
 refine hp.mono ?_
 rintro e w1 ⟨v,rfl,ho,hb1⟩
 obtain ⟨a1,c1,rfl⟩ := own_shape ho
 obtain ⟨HE,HF⟩ := HN.out _ hb1
 obtain ⟨⟨x0,x1,x2⟩,y0,y1,y2⟩ := cells3 HE
 have HF1:Box (Below w.heap.size w (w1.setCells w.heap.size 0 [.slice a1 (lgs I n n).length c1,.int .i64 1125899906842624,.bool false])) := boxed (HF.trans (sets_below _ _ (Nat.le_refl _) _ _ _))
 have HR1:Box ((w1.setCells w.heap.size 0 [.slice a1 (lgs I n n).length c1,.int .i64 1125899906842624,.bool false]).heap[w.heap.size]? = some (.cells #[.slice a1 (lgs I n n).length c1,.int .i64 1125899906842624,.bool false] 35 (0,0))) := boxed (sets_heap _ _ _ 0 _ _ HE)
 have HO1:Box ((w1.setCells w.heap.size 0 [.slice a1 (lgs I n n).length c1,.int .i64 1125899906842624,.bool false]).ownsRow w.heap.size 3 1 (.slice a1 (lgs I n n).length c1) (nbk I n) (ncs (lgs I n n))) := boxed (by
  simp only [World.setCells]
  have h1:w.heap.size < w0.heap.size := by omega
  have := ownsRow_setCell_below (ownsRow_setCell_below (ownsRow_setCell_below ho (a := ⟨w.heap.size,0,none⟩) h1 (.slice a1 (lgs I n n).length c1)) (a := ⟨w.heap.size,0 + 1,none⟩) h1 (.int .i64 1125899906842624)) (a := ⟨w.heap.size,0 + 1 + 1,none⟩) h1 (.bool false)
  exact own_mono9 this (by omega))
 simp only [World.setCells,Nat.zero_add,Nat.reduceAdd] at HF1 HR1 HO1
 clear ho hb1 HE HF hp
 generalize (lgs I n n).length = ln at *
 go_wp2_with fail
 refine bodyPost_ret (v := .agg #[.slice a1 ln c1,.int .i64 1125899906842624,.bool false]) ?_ ?_ ?_
 ·exact results_cell_row Tryz.results143 _ _ w.heap.size 35 #[.slice a1 ln c1,.int .i64 1125899906842624,.bool false] (0,0) _ rfl HR1.out Tryz.underlying35 rfl (by kernel_rfl)
 ·rfl
 ·exact ⟨_,rfl,HO1.out,HF1.out⟩
def Emg (I:Nat → Itm) (n:Nat) (width:Int) (s:Stg) (c:Int) (l:List Nat):Prop := Best (PT I n width s 10000) 0 (-1) c l ∨ (Noway (PT I n width s 10000) 0 (-1) ∧ c = Awf ∧ l = List.range (nbk I n))
theorem emergency_any (h:ParaAt S w pb n I) (hn:n ≤ 262144) (hok:∀ i,i < n → okI I i = true) (h0:0 < n) (hf:forc (I (n - 1)) = true) (hw:1 ≤ width ∧ width ≤ 1073741824) (hs:okS s = true) :
  Calls Tryz.prog 95 #[.pointer (some ⟨pb,0,none⟩),.int .i64 width,s.val] w fun e' w' => ∃ v c l,e' = .returned (.agg #[v,.int .i64 c,.bool true]) ∧ Emg I n width s c l ∧ l ≠ [] ∧ w'.ownsRow w.heap.size 3 1 v l.length (ncs (l.map (bkn I n))) ∧ Below w.heap.size w w' := by
 have hs2:okS { s with t := 10000 } = true := by rw [okS_iff] at hs ⊢;simp only;omega
 have hm1 := (bk_last I n h0 hf).1
 have HCW := boxed (fun W (hb:Below w.heap.size w W) => cheapestWay_any (s := { s with t := 10000 }) (h.below hb) hn hok h0 hf hw hs2)
 have HSH := boxed (fun W (hb:Below w.heap.size w W) => shortest_any (h.below hb) hn hm1)
 unfold Stg.val at *
 simp only at HCW
 clear h
 obtain ⟨q0,q1,q2,q3⟩ := laid2 w (.cells #[.int .i64 10000,.int .i64 s.l,.int .i64 s.a,.int .i64 s.d,.int .i64 s.z,.int .i64 s.o,.int .i64 s.i] 25) (.cells #[.slice none 0 0,.int .i64 0,.bool false] 35)
 have hcw := HCW.out _ q2
 have HQ1 := boxed q1
 have HQ2 := boxed q2
 have HQ3 := boxed q3
 clear q0 q1 q2 q3 HCW
 go_enter Tryz.func95,Tryz.ntmps95
 go_wp2_with fail
 refine hcw.mono ?_
 rintro e' w2 ⟨hb2,hres⟩
 rw [HQ3.out] at hb2
 have hB2:Below w.heap.size w w2 := HQ2.out.trans (hb2.mono (by omega))
 have hR2:w2.heap[w.heap.size + 1]? = some (.cells #[.slice none 0 0,.int .i64 0,.bool false] 35 (0,0)) := (hb2.block _ (by omega)).trans HQ1.out
 have hz2 := heap_lt hR2
 obtain ⟨⟨x0,x1,x2⟩,y0,y1,y2⟩ := cells3 hR2
 have hz3:w.heap.size + 1 ≠ w2.heap.size := by omega
 rcases hres with ⟨c,l,v,hbe,hne,rfl,ho⟩ | ⟨hno,rfl⟩
 ·obtain ⟨a1,c1,rfl⟩ := own_shape ho
  rw [HQ3.out] at ho
  have HBE:Box (Emg I n width s c l) := boxed (.inl hbe)
  have HNE := boxed hne
  have hF0 := hB2.trans (sets_below (w.heap.size + 1) w.heap.size (by omega) [.slice a1 l.length c1,.int .i64 c,.bool true] 0 w2)
  have HF:Box (Below w.heap.size w ((w2.setCells (w.heap.size + 1) 0 [.slice a1 l.length c1,.int .i64 c,.bool true]).alloc (.cells #[.slice a1 l.length c1,.int .i64 c,.bool true] 35))) := boxed (hF0.alloc hF0.size _)
  have HR:Box (((w2.setCells (w.heap.size + 1) 0 [.slice a1 l.length c1,.int .i64 c,.bool true]).alloc (.cells #[.slice a1 l.length c1,.int .i64 c,.bool true] 35)).heap[w.heap.size + 1]? = some (.cells #[.slice a1 l.length c1,.int .i64 c,.bool true] 35 (0,0))) := boxed (by
   rw [Below.heap_alloc _ _ _ (by rw [sets_size];exact hz2)]
   exact sets_heap _ _ _ 0 _ _ hR2)
  have HO:Box (((w2.setCells (w.heap.size + 1) 0 [.slice a1 l.length c1,.int .i64 c,.bool true]).alloc (.cells #[.slice a1 l.length c1,.int .i64 c,.bool true] 35)).ownsRow w.heap.size 3 1 (.slice a1 l.length c1) l.length (ncs (l.map (bkn I n)))) := boxed (by
   have h1:w.heap.size + 1 < w.heap.size + 2 := by omega
   have h2 := ownsRow_setCell_below (ownsRow_setCell_below (ownsRow_setCell_below ho (a := ⟨w.heap.size + 1,0,none⟩) h1 (.slice a1 l.length c1)) (a := ⟨w.heap.size + 1,0 + 1,none⟩) h1 (.int .i64 c)) (a := ⟨w.heap.size + 1,0 + 1 + 1,none⟩) h1 (.bool true)
   have h3 := owns_below (w' := (w2.setCells (w.heap.size + 1) 0 [.slice a1 l.length c1,.int .i64 c,.bool true]).alloc (.cells #[.slice a1 l.length c1,.int .i64 c,.bool true] 35)) h2 ((Below.refl _ _).alloc (Nat.le_refl _) _)
   exact own_mono9 h3 (by omega))
  simp only [World.setCells,Nat.zero_add,Nat.reduceAdd] at HF HR HO
  clear hbe hne ho hF0 hR2 hB2 hb2 HSH hcw
  generalize hln:l.length = ln at *
  replace hln := boxed hln
  go_wp2_with fail
  refine bodyPost_ret (v := .agg #[.slice a1 ln c1,.int .i64 c,.bool true]) ?_ ?_ ?_
  ·exact results_cell_row Tryz.results95 _ _ (w.heap.size + 1) 35 #[.slice a1 ln c1,.int .i64 c,.bool true] (0,0) _ rfl HR.out Tryz.underlying35 rfl (by kernel_rfl)
  ·rfl
  ·exact ⟨_,c,l,rfl,HBE.out,HNE.out,by rw [hln.out];exact HO.out,HF.out⟩
 ·have HSW := boxed (fun o => HSH.out (w2.alloc o) (hB2.alloc hB2.size o))
  have HNO := boxed hno
  have HB2 := boxed hB2
  have HR2 := boxed hR2
  clear hno hB2 hR2 hb2 HSH hcw x0 x1 x2 y0 y1 y2
  go_wp2_with fail
  refine (HSW.out _).mono ?_
  rintro e' w4 ⟨v,rfl,ho,hb4⟩
  have hz4:(w2.alloc (.cells #[.slice none 0 0,.int .i64 0,.bool false] 35)).heap.size = w2.heap.size + 1 := by simp
  rw [hz4] at ho hb4
  obtain ⟨a1,c1,rfl⟩ := own_shape ho
  have hE4:w4.heap[w2.heap.size]? = some (.cells #[.slice none 0 0,.int .i64 0,.bool false] 35 (0,0)) := by rw [hb4.block _ (by omega)];exact heap_alloc_new w2 _
  have hR4:w4.heap[w.heap.size + 1]? = some (.cells #[.slice none 0 0,.int .i64 0,.bool false] 35 (0,0)) := by rw [hb4.block _ (by omega),Below.heap_alloc _ _ _ hz2];exact HR2.out
  have hB4:Below w.heap.size w w4 := (HB2.out.alloc HB2.out.size _).trans (hb4.mono (by have := HB2.out.size;omega))
  obtain ⟨⟨x0,x1,x2⟩,y0,y1,y2⟩ := cells3 hE4
  obtain ⟨⟨p0,p1,p2⟩,r0,r1,r2⟩ := cells3 hR4
  have hS5 := sets_below w2.heap.size w.heap.size (by have := HB2.out.size;omega) [.slice a1 (nbk I n) c1,.int .i64 1125899906842624,.bool false] 0 w4
  have hE5 := arr_set (k := 2) (.bool true) (sets_heap w2.heap.size 35 [.slice a1 (nbk I n) c1,.int .i64 1125899906842624,.bool false] 0 w4 _ hE4)
  have hE6 := (cells3 (v0 := .slice a1 (nbk I n) c1) (v1 := .int .i64 1125899906842624) (v2 := .bool true) hE5).1.2.2
  simp only [World.setCells,Nat.zero_add,Nat.reduceAdd] at hE6
  clear hE5
  obtain ⟨W7,hW7⟩:∃ W7,W7 = (((w4.setCells w2.heap.size 0 [.slice a1 (nbk I n) c1,.int .i64 1125899906842624,.bool false]).setCell ⟨w2.heap.size,2,none⟩ (.bool true)).setCells (w.heap.size + 1) 0 [.slice a1 (nbk I n) c1,.int .i64 1125899906842624,.bool true]) := ⟨_,rfl⟩
  have HF:Box (Below w.heap.size w W7) := boxed (by rw [hW7];exact ((hB4.trans hS5).setCell (by simp only;have := HB2.out.size;omega) _).trans (sets_below _ _ (by omega) _ _ _))
  have HR:Box (W7.heap[w.heap.size + 1]? = some (.cells #[.slice a1 (nbk I n) c1,.int .i64 1125899906842624,.bool true] 35 (0,0))) := boxed (by
   rw [hW7]
   refine sets_heap _ _ _ 0 _ #[.slice none 0 0,.int .i64 0,.bool false] ?_
   rw [Below.heap_setCell _ ⟨w2.heap.size,2,none⟩ _ _ (by simpa using hz3),sets_other _ _ (by omega)]
   exact hR4)
  have HO:Box (W7.ownsRow w.heap.size 3 1 (.slice a1 (nbk I n) c1) (nbk I n) (ncs (lgs I n n))) := boxed (by
   have g1:w2.heap.size < w2.heap.size + 1 := by omega
   have g2:w.heap.size + 1 < w2.heap.size + 1 := by omega
   have q1 := ownsRow_setCell_below (ownsRow_setCell_below (ownsRow_setCell_below ho (a := ⟨w2.heap.size,0,none⟩) g1 (.slice a1 (nbk I n) c1)) (a := ⟨w2.heap.size,0 + 1,none⟩) g1 (.int .i64 1125899906842624)) (a := ⟨w2.heap.size,0 + 1 + 1,none⟩) g1 (.bool false)
   have q2 := ownsRow_setCell_below q1 (a := ⟨w2.heap.size,2,none⟩) g1 (.bool true)
   have q3 := ownsRow_setCell_below (ownsRow_setCell_below (ownsRow_setCell_below q2 (a := ⟨w.heap.size + 1,0,none⟩) g2 (.slice a1 (nbk I n) c1)) (a := ⟨w.heap.size + 1,0 + 1,none⟩) g2 (.int .i64 1125899906842624)) (a := ⟨w.heap.size + 1,0 + 1 + 1,none⟩) g2 (.bool true)
   rw [hW7]
   exact own_mono9 q3 (by have := HB2.out.size;omega))
  simp only [World.setCells,Nat.zero_add,Nat.reduceAdd] at hW7
  subst hW7
  clear hE4 hR4 hB4 hS5 ho hb4 hz4 HSW
  unfold Awf
  go_wp2_with fail
  refine bodyPost_ret (v := .agg #[.slice a1 (nbk I n) c1,.int .i64 1125899906842624,.bool true]) ?_ ?_ ?_
  ·exact results_cell_row Tryz.results95 _ _ (w.heap.size + 1) 35 #[.slice a1 (nbk I n) c1,.int .i64 1125899906842624,.bool true] (0,0) _ rfl HR.out Tryz.underlying35 rfl (by kernel_rfl)
  ·rfl
  ·refine ⟨_,Awf,List.range (nbk I n),rfl,.inr ⟨HNO.out,rfl,rfl⟩,?_,?_,HF.out⟩
   ·intro e;have := congrArg List.length e;simp at this;omega
   ·rw [all_bk,List.length_range];exact HO.out
def Brk (I:Nat → Itm) (n:Nat) (width:Int) (s:Stg) (c:Int) (l:List Nat) (em:Bool):Prop := (em = false ∧ Best (PT I n width s s.t) 0 (-1) c l) ∨ (em = true ∧ Noway (PT I n width s s.t) 0 (-1) ∧ Emg I n width s c l)
theorem break_any (h:ParaAt S w pb n I) (hn:n ≤ 262144) (hok:∀ i,i < n → okI I i = true) (h0:0 < n) (hf:forc (I (n - 1)) = true) (hw:1 ≤ width ∧ width ≤ 1073741824) (hs:okS s = true) :
  Calls Tryz.prog 42 #[.pointer (some ⟨pb,0,none⟩),.int .i64 width,s.val] w fun e' w' => ∃ v c l em,e' = .returned (.tuple #[.agg #[v,.int .i64 c,.bool em],.int .i64 0]) ∧ Brk I n width s c l em ∧ l ≠ [] ∧ w'.ownsRow w.heap.size 3 1 v l.length (ncs (l.map (bkn I n))) ∧ Below w.heap.size w w' := by
 have hc := fun W => bcheck_any width s W
 have hv:chkV width s = 0 := by unfold chkV;rw [if_pos (by simp [okW];omega),if_pos hs]
 rw [hv] at hc
 have hm1 := (bk_last I n h0 hf).1
 have hm:nbk I n ≤ 262144 := by unfold nbk;have := lgs_len I n n;omega
 have HE:Box (∀ W,Below w.heap.size w W → Calls Tryz.prog 93 #[.pointer (some ⟨pb,0,none⟩)] W fun e w' => e = .returned (.int .i64 (nbk I n:Int)) ∧ w' = W) := boxed (fun W hb => ends_any (h.below hb) hn)
 have HCW := boxed (fun W (hb:Below w.heap.size w W) => cheapestWay_any (s := s) (h.below hb) hn hok h0 hf hw hs)
 have HEM := boxed (fun W (hb:Below w.heap.size w W) => emergency_any (s := s) (h.below hb) hn hok h0 hf hw hs)
 have HQ := laid2 w (.cells #[.int .i64 s.t,.int .i64 s.l,.int .i64 s.a,.int .i64 s.d,.int .i64 s.z,.int .i64 s.o,.int .i64 s.i] 25) (.cells #[.slice none 0 0,.int .i64 0,.bool false] 35)
 unfold Stg.val at *
 have d0:((nbk I n:Int) == 0) = false := by rw [beq_eq_false_iff_ne];omega
 replace HQ := boxed HQ
 clear h hv
 go_enter Tryz.func42,Tryz.ntmps42
 go_wp2_with fail
 refine (hc _).mono ?_
 rintro e' w1 ⟨rfl,hb⟩
 rw [HQ.out.2.2.2] at hb
 have hR := (hb.block (w.heap.size + 1) (by omega)).trans HQ.out.2.1
 have hS1 := (hb.block (w.heap.size) (by omega)).trans HQ.out.1
 have hB:Below w.heap.size w w1 := HQ.out.2.2.1.trans (hb.mono (by omega))
 obtain ⟨⟨s0,s1,s2,s3,s4,s5,s6⟩,-⟩ := cells7 hS1
 have hcw := HCW.out _ hB
 have hen := HE.out _ hB
 have HR1 := boxed hR
 have HS1 := boxed hS1
 have HB1 := boxed hB
 have hz1 := heap_lt hR
 clear hb hR hS1 hB hc HCW HE
 go_wp2_with (go_at_call 93;refine hen.mono ?_;rintro e' w' ⟨rfl,hw'⟩;subst w')
 refine hcw.mono ?_
 rintro e' w2 ⟨hb2,hres⟩
 have hB2:Below w.heap.size w w2 := HB1.out.trans (hb2.mono HB1.out.size)
 have hR2:w2.heap[w.heap.size + 1]? = some (.cells #[.slice none 0 0,.int .i64 0,.bool false] 35 (0,0)) := (hb2.block _ hz1).trans HR1.out
 have hz2 := heap_lt hR2
 obtain ⟨⟨x0,x1,x2⟩,y0,y1,y2⟩ := cells3 hR2
 have hz3:w.heap.size + 1 ≠ w2.heap.size := by omega
 rcases hres with ⟨c,l,v,hbe,hne,rfl,ho⟩ | ⟨hno,rfl⟩
 ·obtain ⟨a1,c1,rfl⟩ := own_shape ho
  have HBE:Box (Brk I n width s c l false) := boxed (.inl ⟨rfl,hbe⟩)
  have HNE := boxed hne
  have hF0 := hB2.trans (sets_below (w.heap.size + 1) w.heap.size (by omega) [.slice a1 l.length c1,.int .i64 c,.bool false] 0 w2)
  obtain ⟨W7,hW7⟩:∃ W7,W7 = ((w2.setCells (w.heap.size + 1) 0 [.slice a1 l.length c1,.int .i64 c,.bool false]).alloc (.cells #[.slice a1 l.length c1,.int .i64 c,.bool false] 35)) := ⟨_,rfl⟩
  have HF:Box (Below w.heap.size w W7) := boxed (by rw [hW7];exact hF0.alloc hF0.size _)
  have HR:Box (W7.heap[w.heap.size + 1]? = some (.cells #[.slice a1 l.length c1,.int .i64 c,.bool false] 35 (0,0))) := boxed (by
   rw [hW7,Below.heap_alloc _ _ _ (by rw [sets_size];exact hz2)]
   exact sets_heap _ _ _ 0 _ _ hR2)
  have HO:Box (W7.ownsRow w.heap.size 3 1 (.slice a1 l.length c1) l.length (ncs (l.map (bkn I n)))) := boxed (by
   have h1:w.heap.size + 1 < w1.heap.size := hz1
   have h2 := ownsRow_setCell_below (ownsRow_setCell_below (ownsRow_setCell_below ho (a := ⟨w.heap.size + 1,0,none⟩) h1 (.slice a1 l.length c1)) (a := ⟨w.heap.size + 1,0 + 1,none⟩) h1 (.int .i64 c)) (a := ⟨w.heap.size + 1,0 + 1 + 1,none⟩) h1 (.bool false)
   have h3 := owns_below (w' := W7) h2 (by rw [hW7];exact (Below.refl _ _).alloc (Nat.le_refl _) _)
   exact own_mono9 h3 (by omega))
  simp only [World.setCells,Nat.zero_add,Nat.reduceAdd] at hW7
  subst hW7
  clear hbe hne ho hF0 hR2 hB2 hb2 hcw HEM
  generalize hln:l.length = ln at *
  replace hln := boxed hln
  go_wp2_with fail
  refine bodyPost_ret (v := .tuple #[.agg #[.slice a1 ln c1,.int .i64 c,.bool false],.int .i64 0]) ?_ ?_ ?_
  ·exact results_row_tmp Tryz.results42 _ _ (w.heap.size + 1) 35 #[.slice a1 ln c1,.int .i64 c,.bool false] (0,0) _ rfl HR.out Tryz.underlying35 rfl (by kernel_rfl)
  ·rfl
  ·exact ⟨_,c,l,false,rfl,HBE.out,HNE.out,by rw [hln.out];exact HO.out,HF.out⟩
 ·have HSW := boxed (fun o => HEM.out (w2.alloc o) (hB2.alloc hB2.size o))
  have HNO := boxed hno
  have HB2 := boxed hB2
  have HR2 := boxed hR2
  have hS2 := (hb2.block w.heap.size (by omega)).trans HS1.out
  have hz5:w.heap.size ≠ w2.heap.size := by omega
  have hS3:(w2.alloc (.cells #[.slice none 0 0,.int .i64 0,.bool false] 35)).heap[w.heap.size]? = some (.cells #[.int .i64 s.t,.int .i64 s.l,.int .i64 s.a,.int .i64 s.d,.int .i64 s.z,.int .i64 s.o,.int .i64 s.i] 25 (0,0)) := by
   rw [Below.heap_alloc _ _ _ (by omega)];exact hS2
  obtain ⟨⟨k0,k1,k2,k3,k4,k5,k6⟩,-⟩ := cells7 hS3
  clear hno hB2 hR2 hb2 hcw x0 x1 x2 y0 y1 y2 HEM hS2 hS3 s0 s1 s2 s3 s4 s5 s6
  go_wp2_with fail
  refine (HSW.out _).mono ?_
  rintro e' w4 ⟨v,c,l,rfl,hem,hne,ho,hb4⟩
  have hz4:(w2.alloc (.cells #[.slice none 0 0,.int .i64 0,.bool false] 35)).heap.size = w2.heap.size + 1 := by simp
  rw [hz4] at ho hb4
  obtain ⟨a1,c1,rfl⟩ := own_shape ho
  have hR4:w4.heap[w.heap.size + 1]? = some (.cells #[.slice none 0 0,.int .i64 0,.bool false] 35 (0,0)) := by rw [hb4.block _ (by omega),Below.heap_alloc _ _ _ hz2];exact HR2.out
  have hB4:Below w.heap.size w w4 := (HB2.out.alloc HB2.out.size _).trans (hb4.mono (by have := HB2.out.size;omega))
  have HBE:Box (Brk I n width s c l true) := boxed (.inr ⟨rfl,HNO.out,hem⟩)
  have HNE := boxed hne
  obtain ⟨⟨p0,p1,p2⟩,r0,r1,r2⟩ := cells3 hR4
  obtain ⟨W7,hW7⟩:∃ W7,W7 = (w4.setCells (w.heap.size + 1) 0 [.slice a1 l.length c1,.int .i64 c,.bool true]) := ⟨_,rfl⟩
  have HF:Box (Below w.heap.size w W7) := boxed (by rw [hW7];exact hB4.trans (sets_below _ _ (by omega) _ _ _))
  have HR:Box (W7.heap[w.heap.size + 1]? = some (.cells #[.slice a1 l.length c1,.int .i64 c,.bool true] 35 (0,0))) := boxed (by
   rw [hW7]
   exact sets_heap _ _ _ 0 _ _ hR4)
  have HO:Box (W7.ownsRow w.heap.size 3 1 (.slice a1 l.length c1) l.length (ncs (l.map (bkn I n)))) := boxed (by
   have g2:w.heap.size + 1 < w2.heap.size + 1 := by omega
   have q3 := ownsRow_setCell_below (ownsRow_setCell_below (ownsRow_setCell_below ho (a := ⟨w.heap.size + 1,0,none⟩) g2 (.slice a1 l.length c1)) (a := ⟨w.heap.size + 1,0 + 1,none⟩) g2 (.int .i64 c)) (a := ⟨w.heap.size + 1,0 + 1 + 1,none⟩) g2 (.bool true)
   rw [hW7]
   exact own_mono9 q3 (by have := HB2.out.size;omega))
  simp only [World.setCells,Nat.zero_add,Nat.reduceAdd] at hW7
  subst hW7
  clear hR4 hB4 ho hb4 hz4 HSW hem hne
  generalize hln:l.length = ln at *
  replace hln := boxed hln
  go_wp2_with fail
  refine bodyPost_ret (v := .tuple #[.agg #[.slice a1 ln c1,.int .i64 c,.bool true],.int .i64 0]) ?_ ?_ ?_
  ·exact results_row_tmp Tryz.results42 _ _ (w.heap.size + 1) 35 #[.slice a1 ln c1,.int .i64 c,.bool true] (0,0) _ rfl HR.out Tryz.underlying35 rfl (by kernel_rfl)
  ·rfl
  ·exact ⟨_,c,l,true,rfl,HBE.out,HNE.out,by rw [hln.out];exact HO.out,HF.out⟩
end
end Go.Proofs.YtcjcdpfjnomehaaGreat
namespace Go.Proofs.YtcjcdpfjnomehaaGreat
set_option maxRecDepth 100000
set_option maxHeartbeats 40000000
set_option linter.unusedSimpArgs false
set_option linter.unusedVariables false
def Wy (m:Nat) (fo:Nat → Bool) (i:Nat) (l:List Nat):Prop := (∀ j,j ∈ l → i ≤ j ∧ j < m) ∧ l.Pairwise (· < ·) ∧ ∀ k,i ≤ k → k < m → fo k = true → k ∈ l
theorem cw_wy (P:Pr) (l:List Nat):∀ (i:Nat) (a c:Int),cw P i a l = some c → Wy P.m P.fo i l := by
 induction l with
 | nil =>
  intro i a c h
  simp only [cw] at h
  split at h
  ·rename_i e
   exact ⟨by simp,List.Pairwise.nil,fun k h1 h2 => by omega⟩
  ·cases h
 | cons j t ih =>
  intro i a c h
  obtain ⟨hs,r,hr,-⟩ := cw_cons P _ _ _ _ _ h
  obtain ⟨h1,h2,-,h4⟩ := (mayL_iff P _ _).1 hs
  obtain ⟨g1,g2,g3⟩ := ih _ _ _ hr
  refine ⟨fun x hx => ?_,List.Pairwise.cons (fun x hx => by have := g1 x hx;omega) g2,fun k k1 k2 k3 => ?_⟩
  ·rcases List.mem_cons.1 hx with rfl | hx
   ·exact ⟨h1,h2⟩
   ·have := g1 x hx;omega
  ·by_cases c1:k < j
   ·rw [h4 k c1 k1] at k3;cases k3
   ·by_cases c2:k = j
    ·subst c2;simp
    ·exact List.mem_cons_of_mem _ (g3 k (by omega) k2 k3)
theorem range_wy (m:Nat) (fo:Nat → Bool):Wy m fo 0 (List.range m) := ⟨fun j hj => ⟨Nat.zero_le _,List.mem_range.1 hj⟩,List.pairwise_lt_range,fun k _ h _ => List.mem_range.2 h⟩
section
variable {I:Nat → Itm} {n:Nat} {width:Int} {s:Stg} {c:Int} {l:List Nat} {em:Bool}
theorem brk_wy (h:Brk I n width s c l em):Wy (nbk I n) (fun j => forc (itb I n j)) 0 l := by
 rcases h with ⟨-,h⟩ | ⟨-,-,h | ⟨-,-,h⟩⟩
 ·exact cw_wy _ _ _ _ _ h.1
 ·exact cw_wy _ _ _ _ _ h.1
 ·rw [h];exact range_wy _ _
theorem bkn_at (I:Nat → Itm) (n j:Nat) (h:j < nbk I n):bk I n j = (bkn I n j:Nat) ∧ bkn I n j < n ∧ legl I n (bkn I n j:Nat) = true := by
 obtain ⟨b,e,h1,h2,h3⟩ := bk_at I n j h
 have:bkn I n j = b := by
  have := bk_bkn I n j h
  omega
 rw [this]
 exact ⟨e,h1,h2⟩
theorem bkn_less (I:Nat → Itm) (n i j:Nat) (hij:i < j) (h:j < nbk I n):bkn I n i < bkn I n j := by
 have := bk_less I n i j hij h
 rw [(bkn_at I n j h).1,(bkn_at I n i (by omega)).1] at this
 omega
theorem forc_legl (I:Nat → Itm) (n i:Nat) (hi:i < n) (h:forc (I i) = true):legl I n i = true := by
 simp [forc] at h
 simp [legl,h.1]
 omega
theorem brk_row (h:Brk I n width s c l em):(∀ j,j < (l.map (bkn I n)).length → (l.map (bkn I n)).getD j 0 < n ∧ legl I n ((l.map (bkn I n)).getD j 0:Nat) = true) ∧ (∀ i j,i < j → j < (l.map (bkn I n)).length → (l.map (bkn I n)).getD i 0 < (l.map (bkn I n)).getD j 0) ∧ (∀ i,i < n → forc (I i) = true → ∃ j,j < (l.map (bkn I n)).length ∧ (l.map (bkn I n)).getD j 0 = i) := by
 obtain ⟨w1,w2,w3⟩ := brk_wy h
 have hg:∀ j (hj:j < l.length),(l.map (bkn I n)).getD j 0 = bkn I n l[j] := fun j hj => by
  rw [List.getD_eq_getElem?_getD,List.getElem?_map,List.getElem?_eq_getElem hj];rfl
 rw [List.length_map]
 refine ⟨fun j hj => ?_,fun i j hij hj => ?_,fun i hi hf => ?_⟩
 ·rw [hg j hj]
  exact (bkn_at I n _ (w1 _ (List.getElem_mem hj)).2).2
 ·rw [hg j hj,hg i (by omega)]
  exact bkn_less I n _ _ (List.pairwise_iff_getElem.1 w2 i j (by omega) hj hij) (w1 _ (List.getElem_mem hj)).2
 ·obtain ⟨k,hk,e⟩ := lgs_mem I n n i hi (forc_legl I n i hi hf)
  have hb := bkn_at I n k hk
  obtain ⟨b,e2,-,-,e3⟩ := bk_at I n k hk
  have hbk:bk I n k = (i:Nat) := by omega
  have hm := w3 k (Nat.zero_le _) hk (by
   show forc (itb I n (k:Int)) = true
   unfold itb itm
   rw [hbk,if_pos (by omega),Int.toNat_natCast]
   exact hf)
  obtain ⟨j,hj,ej⟩ := List.getElem_of_mem hm
  refine ⟨j,hj,?_⟩
  rw [hg j hj,ej]
  omega
end
end Go.Proofs.YtcjcdpfjnomehaaGreat
namespace Go.Proofs.YtcjcdpfjnomehaaGreat
set_option maxRecDepth 100000
set_option maxHeartbeats 40000000
set_option linter.unusedSimpArgs false
set_option linter.unusedVariables false
section
variable {I:Nat → Itm} {n:Nat} {width:Int} {s:Stg}
end
end Go.Proofs.YtcjcdpfjnomehaaGreat
namespace Go.Proofs.YtcjcdpfjnomehaaGreat
set_option maxRecDepth 100000
set_option maxHeartbeats 40000000
set_option linter.unusedSimpArgs false
set_option linter.unusedVariables false
section
variable (I:Nat → Itm) (n:Nat) (width:Int) (s:Stg)
def PX (em:Bool):Pr where
 m := nbk I n
 dz i j := cond em (!(ftb I n width ((i:Int) - 1) j).over || decide (j = i)) (!(ftb I n width ((i:Int) - 1) j).over && decide ((ftb I n width ((i:Int) - 1) j).bad ≤ s.t))
 kl i j := (ftb I n width ((i:Int) - 1) j).cls
 ct i j a := cst s (ftb I n width ((i:Int) - 1) j) (itb I n j) a (itb I n ((i:Int) - 1)).flag (decide (j + 1 = nbk I n))
 fo j := forc (itb I n j)
end
def Nn (P:Pr):Prop := ∀ i j a,mayL P i j = true → 0 ≤ P.ct i j a ∧ P.ct i j a ≤ Awf
theorem px_nn (I:Nat → Itm) (n:Nat) (width:Int) (s:Stg) (em:Bool) (hok:∀ i,i < n → okI I i = true) (hs:okS s = true):Nn (PX I n width s em) := by
 intro i j a h
 have hc := ftb_cls I n width ((i:Int) - 1) j
 have hx := itb_c I n hok j
 simp only [PX]
 cases ho:(ftb I n width ((i:Int) - 1) j).over
 ·have := cst_parts s (ftb I n width ((i:Int) - 1) j) (itb I n j) a (itb I n ((i:Int) - 1)).flag (decide (j + 1 = nbk I n)) hs hc.2.2 hx ho
  unfold Awf
  omega
 ·rw [cst_over _ _ _ _ _ _ ho]
  unfold Awf
  omega
theorem tt_bnd (a b:Int) (ha:0 ≤ a) (hb:0 ≤ b):0 ≤ tt a b ∧ tt a b ≤ Awf := by
 rw [tt_sum a b ha hb];unfold Awf;omega
theorem cw_nn {P:Pr} (hN:Nn P) (l:List Nat):∀ (i:Nat) (a c:Int),cw P i a l = some c → 0 ≤ c ∧ c ≤ Awf := by
 induction l with
 | nil =>
  intro i a c h
  simp only [cw] at h
  split at h
  ·injection h with h;subst h;unfold Awf;omega
  ·cases h
 | cons j t ih =>
  intro i a c h
  obtain ⟨hs,r,hr,e⟩ := cw_cons P _ _ _ _ _ h
  rw [e]
  exact tt_bnd _ _ (hN _ _ _ hs).1 (ih _ _ _ hr).1
section
variable {I:Nat → Itm} {n:Nat} {width:Int} {s:Stg}
theorem cw_pt_pe (hT:True) (l:List Nat):∀ (i:Nat) (a c:Int),cw (PT I n width s 10000) i a l = some c → cw (PX I n width s true) i a l = some c := by
 induction l with
 | nil => intro i a c h;exact h
 | cons j t ih =>
  intro i a c h
  obtain ⟨hs,r,hr,e⟩ := cw_cons _ _ _ _ _ _ h
  rw [e]
  refine cw_mk (PX I n width s true) _ _ _ _ _ ?_ (ih _ _ _ hr)
  obtain ⟨h1,h2,h3,h4⟩ := (mayL_iff _ _ _).1 hs
  refine (mayL_iff _ _ _).2 ⟨h1,h2,?_,h4⟩
  simp only [PT,Bool.and_eq_true] at h3
  simp only [PX,cond_true,Bool.or_eq_true]
  exact .inl h3.1
theorem cw_pe_cases (hN:Nn (PX I n width s true)) (l:List Nat):∀ (i:Nat) (a c:Int),cw (PX I n width s true) i a l = some c → cw (PT I n width s 10000) i a l = some c ∨ c = Awf := by
 induction l with
 | nil => intro i a c h;exact .inl h
 | cons j t ih =>
  intro i a c h
  obtain ⟨hs,r,hr,e⟩ := cw_cons _ _ _ _ _ _ h
  obtain ⟨h1,h2,h3,h4⟩ := (mayL_iff _ _ _).1 hs
  have hr0 := cw_nn hN _ _ _ _ hr
  have hc0 := hN i j a hs
  have e1 := tt_sum _ _ hc0.1 hr0.1
  cases ho:(ftb I n width ((i:Int) - 1) j).over
  ·rcases ih _ _ _ hr with h5 | h5
   ·left
    rw [e]
    refine cw_mk (PT I n width s 10000) _ _ _ _ _ ((mayL_iff _ _ _).2 ⟨h1,h2,?_,h4⟩) h5
    have hb := ftb_cls I n width ((i:Int) - 1) j
    simp only [PT,ho,Bool.not_false,Bool.true_and,decide_eq_true_eq]
    omega
   ·right
    rw [e,e1,h5]
    omega
  ·right
   have e2:(PX I n width s true).ct i j a = Awf := by simp only [PX];exact cst_over _ _ _ _ _ _ ho
   rw [e,e1,e2]
   omega
theorem cw_short (d:Nat):∀ (i:Nat) (a:Int),i + d = nbk I n → ∃ c,cw (PX I n width s true) i a (List.range' i d) = some c := by
 induction d with
 | zero =>
  intro i a h
  refine ⟨0,?_⟩
  simp only [List.range'_zero,cw]
  rw [if_pos]
  exact h
 | succ d ih =>
  intro i a h
  obtain ⟨c,hc⟩ := ih (i + 1) ((PX I n width s true).kl i i) (by omega)
  rw [List.range'_succ]
  refine ⟨_,cw_mk (PX I n width s true) _ _ _ _ _ ((mayL_iff _ _ _).2 ⟨Nat.le_refl _,?_,?_,?_⟩) hc⟩
  ·show i < nbk I n
   omega
  ·simp [PX]
  ·intro k h1 h2
   omega
end
theorem lle_short (P:Pr) (l:List Nat):∀ (i d:Nat) (a c:Int),i + d = P.m → cw P i a l = some c → lle (List.range' i d) l = true := by
 induction l with
 | nil =>
  intro i d a c h hc
  simp only [cw] at hc
  split at hc
  ·obtain rfl:d = 0 := by omega
   rfl
  ·cases hc
 | cons j t ih =>
  intro i d a c h hc
  obtain ⟨hs,r,hr,e⟩ := cw_cons _ _ _ _ _ _ hc
  obtain ⟨h1,h2,-,-⟩ := (mayL_iff _ _ _).1 hs
  obtain ⟨d,rfl⟩:∃ d',d = d' + 1 := ⟨d - 1,by omega⟩
  rw [List.range'_succ]
  simp only [lle,Bool.or_eq_true,Bool.and_eq_true,decide_eq_true_eq]
  by_cases q:i < j
  ·exact .inl q
  ·have:i = j := by omega
   subst this
   exact .inr ⟨rfl,ih (i + 1) d _ _ (by omega) hr⟩
section
variable {I:Nat → Itm} {n:Nat} {width:Int} {s:Stg} {c:Int} {l:List Nat} {em:Bool}
theorem emg_best (hn:n ≤ 262144) (hok:∀ i,i < n → okI I i = true) (hs:okS s = true) (h:Emg I n width s c l):Best (PX I n width s true) 0 (-1) c l := by
 have hN := px_nn I n width s true hok hs
 rcases h with h | ⟨h1,h2,h3⟩
 ·refine ⟨cw_pt_pe trivial _ _ _ _ h.1,fun l' c' hc => ?_⟩
  rcases cw_pe_cases hN _ _ _ _ hc with h4 | h4
  ·exact h.2 _ _ h4
  ·have := cw_less _ (bnd_of I n width s 10000 hn hok hs) _ _ _ _ h.1
   refine .inl ?_
   rw [h4];unfold Awf;omega
 ·obtain ⟨c1,hc1⟩ := cw_short (I := I) (n := n) (width := width) (s := s) (nbk I n) 0 (-1) (by omega)
  have e:l = List.range' 0 (nbk I n) := by rw [h3,List.range_eq_range']
  have hA:∀ l' c',cw (PX I n width s true) 0 (-1) l' = some c' → c' = Awf := fun l' c' hc => by
   rcases cw_pe_cases hN _ _ _ _ hc with h4 | h4
   ·exact (noway_some h1 h4).elim
   ·exact h4
  have e2 := hA _ _ hc1
  subst e2
  rw [h2,e]
  refine ⟨hc1,fun l' c' hc => .inr ⟨(hA _ _ hc).symm,?_⟩⟩
  exact lle_short (PX I n width s true) l' 0 (nbk I n) _ _ (by show 0 + nbk I n = nbk I n;omega) hc
theorem brk_best (hn:n ≤ 262144) (hok:∀ i,i < n → okI I i = true) (hs:okS s = true) (h:Brk I n width s c l em):Best (PX I n width s em) 0 (-1) c l ∧ (em = true → Noway (PX I n width s false) 0 (-1)) := by
 rcases h with ⟨h1,h2⟩ | ⟨h1,h2,h3⟩
 ·subst h1
  exact ⟨h2,fun h => by cases h⟩
 ·subst h1
  exact ⟨emg_best hn hok hs h3,fun _ => h2⟩
end
def pf (P:Pr):Nat → Int → Int → List Nat → Option (Nat × Int × Int)
 | i,a,t,[] => some (i,a,t)
 | i,a,t,j :: l => if mayL P i j = true then pf P (j + 1) (P.kl i j) (tt t (P.ct i j a)) l else none
theorem pf_snoc (P:Pr) (l:List Nat):∀ (i:Nat) (a t:Int) (i':Nat) (a' t':Int) (j:Nat),pf P i a t l = some (i',a',t') → mayL P i' j = true → pf P i a t (l ++ [j]) = some (j + 1,P.kl i' j,tt t' (P.ct i' j a')) := by
 induction l with
 | nil =>
  intro i a t i' a' t' j h hm
  simp only [pf,Option.some.injEq,Prod.mk.injEq] at h
  obtain ⟨rfl,rfl,rfl⟩ := h
  simp only [List.nil_append,pf]
  rw [if_pos hm]
 | cons x l ih =>
  intro i a t i' a' t' j h hm
  simp only [pf] at h
  split at h
  ·rename_i hx
   simp only [List.cons_append,pf]
   rw [if_pos hx]
   exact ih _ _ _ _ _ _ _ h hm
  ·cases h
theorem pf_app {P:Pr} (hN:Nn P) (l:List Nat):∀ (i:Nat) (a t:Int) (i':Nat) (a' t':Int),0 ≤ t → t ≤ Awf → pf P i a t l = some (i',a',t') →
  (0 ≤ t' ∧ t' ≤ Awf) ∧ ∀ (r:List Nat),(∀ c,cw P i' a' r = some c → ∃ c0,cw P i a (l ++ r) = some c0 ∧ tt t c0 = tt t' c) ∧ (∀ c0,cw P i a (l ++ r) = some c0 → ∃ c,cw P i' a' r = some c ∧ tt t c0 = tt t' c) := by
 induction l with
 | nil =>
  intro i a t i' a' t' ht ht2 h
  simp only [pf,Option.some.injEq,Prod.mk.injEq] at h
  obtain ⟨rfl,rfl,rfl⟩ := h
  exact ⟨⟨ht,ht2⟩,fun r => ⟨fun c hc => ⟨c,hc,rfl⟩,fun c hc => ⟨c,hc,rfl⟩⟩⟩
 | cons x l ih =>
  intro i a t i' a' t' ht ht2 h
  simp only [pf] at h
  split at h
  ·rename_i hx
   have hx0 := hN i x a hx
   have hb := tt_bnd t _ ht hx0.1
   obtain ⟨h1,h2⟩ := ih _ _ _ _ _ _ hb.1 hb.2 h
   have key:∀ y,0 ≤ y → tt (tt t (P.ct i x a)) y = tt t (tt (P.ct i x a) y) := fun y hy => by
    rw [tt_sum t _ ht hx0.1,tt_sum _ y (by unfold Awf;omega) hy,tt_sum _ y hx0.1 hy,tt_sum t _ ht (by unfold Awf;omega)]
    unfold Awf
    omega
   refine ⟨h1,fun r => ⟨fun c hc => ?_,fun c0 hc0 => ?_⟩⟩
   ·obtain ⟨c0,q1,q2⟩ := (h2 r).1 c hc
    have := cw_nn hN _ _ _ _ q1
    exact ⟨_,cw_mk P _ _ _ _ _ hx q1,by rw [← key _ this.1];exact q2⟩
   ·obtain ⟨hs,q,hq,e⟩ := cw_cons P _ _ _ _ _ hc0
    obtain ⟨c,q1,q2⟩ := (h2 r).2 q hq
    have := cw_nn hN _ _ _ _ hq
    exact ⟨c,q1,by rw [e,← key _ this.1];exact q2⟩
  ·cases h
theorem tt_zero (c:Int) (h:0 ≤ c ∧ c ≤ Awf):tt 0 c = c := by rw [tt_sum 0 c (by omega) h.1];omega
theorem tt_zero' (c:Int) (h:0 ≤ c ∧ c ≤ Awf):tt c 0 = c := by rw [tt_sum c 0 h.1 (by omega)];omega
theorem pf_end {P:Pr} (hN:Nn P) {l:List Nat} {a' t':Int} (h:pf P 0 (-1) 0 l = some (P.m,a',t')):cw P 0 (-1) l = some t' := by
 obtain ⟨h1,h2⟩ := pf_app hN l 0 (-1) 0 _ _ _ (by omega) (by unfold Awf;omega) h
 obtain ⟨c0,q1,q2⟩ := (h2 []).1 0 (by simp [cw])
 rw [List.append_nil] at q1
 have := cw_nn hN _ _ _ _ q1
 rw [tt_zero _ this,tt_zero' _ h1] at q2
 rw [q1,q2]
theorem pf_cost {P:Pr} (hN:Nn P) {l r:List Nat} {i':Nat} {a' t':Int} (h:pf P 0 (-1) 0 l = some (i',a',t')) :
  (0 ≤ t' ∧ t' ≤ Awf) ∧ (∀ c,cw P i' a' r = some c → cw P 0 (-1) (l ++ r) = some (tt t' c)) ∧ (∀ c0,cw P 0 (-1) (l ++ r) = some c0 → ∃ c,cw P i' a' r = some c ∧ c0 = tt t' c) := by
 obtain ⟨h1,h2⟩ := pf_app hN l 0 (-1) 0 _ _ _ (by omega) (by unfold Awf;omega) h
 refine ⟨h1,fun c hc => ?_,fun c0 hc0 => ?_⟩
 ·obtain ⟨c0,q1,q2⟩ := (h2 r).1 c hc
  rw [tt_zero _ (cw_nn hN _ _ _ _ q1)] at q2
  rw [q1,q2]
 ·obtain ⟨c,q1,q2⟩ := (h2 r).2 c0 hc0
  rw [tt_zero _ (cw_nn hN _ _ _ _ hc0)] at q2
  exact ⟨c,q1,q2⟩
theorem pf_le (P:Pr) (l:List Nat):∀ (i:Nat) (a t:Int) (i':Nat) (a' t':Int),i ≤ P.m → pf P i a t l = some (i',a',t') → i' ≤ P.m ∧ ∀ x ∈ l,x < P.m := by
 induction l with
 | nil =>
  intro i a t i' a' t' hi h
  simp only [pf,Option.some.injEq,Prod.mk.injEq] at h
  obtain ⟨rfl,rfl,rfl⟩ := h
  exact ⟨hi,by simp⟩
 | cons x l ih =>
  intro i a t i' a' t' hi h
  simp only [pf] at h
  split at h
  ·rename_i hx
   obtain ⟨h1,h2,-,-⟩ := (mayL_iff _ _ _).1 hx
   obtain ⟨g1,g2⟩ := ih _ _ _ _ _ _ (by omega) h
   refine ⟨g1,fun y hy => ?_⟩
   rcases List.mem_cons.1 hy with rfl | hy
   ·exact h2
   ·exact g2 y hy
  ·cases h
end Go.Proofs.YtcjcdpfjnomehaaGreat
namespace Go.Proofs.YtcjcdpfjnomehaaGreat
set_option maxRecDepth 100000
set_option maxHeartbeats 40000000
set_option linter.unusedSimpArgs false
set_option linter.unusedVariables false
def Upd (P:Pr) (A:List Nat → Prop) (b b':Option (Int × List Nat)):Prop :=
 (b' = b ∧ ∀ l c,A l → cw P 0 (-1) l = some c → ∃ x,b = some x ∧ x.1 ≤ c) ∨
 (∃ l c,A l ∧ cw P 0 (-1) l = some c ∧ b' = some (c,l) ∧ (∀ x,b = some x → c < x.1) ∧ ∀ l' c',A l' → cw P 0 (-1) l' = some c' → c < c' ∨ (c = c' ∧ lle l l' = true))
theorem upd_none {P:Pr} {A:List Nat → Prop} (b:Option (Int × List Nat)) (h:∀ l c,A l → cw P 0 (-1) l = some c → False):Upd P A b b := .inl ⟨rfl,fun l c h1 h2 => (h l c h1 h2).elim⟩
theorem upd_then {P:Pr} {A B:List Nat → Prop} {b b1 b2:Option (Int × List Nat)} (h1:Upd P A b b1) (h2:Upd P B b1 b2) (ho:∀ x y,A x → B y → lle x y = true):Upd P (fun l => A l ∨ B l) b b2 := by
 rcases h1 with ⟨e1,p1⟩ | ⟨l1,c1,a1,k1,e1,p1,q1⟩
 ·subst e1
  rcases h2 with ⟨e2,p2⟩ | ⟨l2,c2,a2,k2,e2,p2,q2⟩
  ·subst e2
   refine .inl ⟨rfl,fun l c h hc => ?_⟩
   rcases h with h | h
   ·exact p1 l c h hc
   ·exact p2 l c h hc
  ·refine .inr ⟨l2,c2,.inr a2,k2,e2,p2,fun l' c' h hc => ?_⟩
   rcases h with h | h
   ·obtain ⟨x,hx,hl⟩ := p1 l' c' h hc
    have := p2 x hx
    exact .inl (by omega)
   ·exact q2 l' c' h hc
 ·rcases h2 with ⟨e2,p2⟩ | ⟨l2,c2,a2,k2,e2,p2,q2⟩
  ·subst e2
   refine .inr ⟨l1,c1,.inl a1,k1,e1,p1,fun l' c' h hc => ?_⟩
   rcases h with h | h
   ·exact q1 l' c' h hc
   ·obtain ⟨x,hx,hl⟩ := p2 l' c' h hc
    rw [e1] at hx
    injection hx with hx
    subst hx
    simp only at hl
    by_cases e:c1 = c'
    ·exact .inr ⟨e,ho _ _ a1 h⟩
    ·exact .inl (by omega)
  ·have h3 := p2 _ e1
   simp only at h3
   refine .inr ⟨l2,c2,.inr a2,k2,e2,fun x hx => by have := p1 x hx;omega,fun l' c' h hc => ?_⟩
   rcases h with h | h
   ·have := q1 l' c' h hc
    exact .inl (by omega)
   ·exact q2 l' c' h hc
theorem upd_mono {P:Pr} {A B:List Nat → Prop} {b b':Option (Int × List Nat)} (h:Upd P A b b') (hab:∀ l c,cw P 0 (-1) l = some c → (A l ↔ B l)):Upd P B b b' := by
 rcases h with ⟨e1,p1⟩ | ⟨l1,c1,a1,k1,e1,p1,q1⟩
 ·exact .inl ⟨e1,fun l c h hc => p1 l c ((hab l c hc).2 h) hc⟩
 ·exact .inr ⟨l1,c1,(hab _ _ k1).1 a1,k1,e1,p1,fun l c h hc => q1 l c ((hab l c hc).2 h) hc⟩
theorem upd_one {P:Pr} (l:List Nat) (c:Int) (b:Option (Int × List Nat)) (hc:cw P 0 (-1) l = some c) (h:∀ x,b = some x → c < x.1):Upd P (fun l' => l' = l) b (some (c,l)) :=
 .inr ⟨l,c,rfl,hc,rfl,h,fun l' c' e hc' => by subst e;rw [hc] at hc';injection hc' with e;exact .inr ⟨e,lle_refl _⟩⟩
theorem upd_not {P:Pr} (l:List Nat) (c:Int) (x:Int × List Nat) (hc:cw P 0 (-1) l = some c) (h:x.1 ≤ c):Upd P (fun l' => l' = l) (some x) (some x) :=
 .inl ⟨rfl,fun l' c' e hc' => by subst e;rw [hc] at hc';injection hc' with e;subst e;exact ⟨x,rfl,h⟩⟩
theorem upd_all {P:Pr} {b':Option (Int × List Nat)} (h:Upd P (fun _ => True) none b'):(b' = none ∧ Noway P 0 (-1)) ∨ ∃ c l,b' = some (c,l) ∧ Best P 0 (-1) c l := by
 rcases h with ⟨e1,p1⟩ | ⟨l1,c1,a1,k1,e1,p1,q1⟩
 ·refine .inl ⟨e1,fun l => ?_⟩
  cases hc:cw P 0 (-1) l with
  | none => rfl
  | some c => obtain ⟨x,hx,-⟩ := p1 l c trivial hc;cases hx
 ·exact .inr ⟨c1,l1,e1,k1,fun l' c' hc => q1 l' c' trivial hc⟩
theorem lle_pre (p:List Nat) (x y:Nat) (s t:List Nat) (h:x < y):lle (p ++ x :: s) (p ++ y :: t) = true := by
 induction p with
 | nil => simp [lle,h]
 | cons z p ih => simp [lle,ih]
def Ext (p:List Nat) (j:Nat):List Nat → Prop := fun l => ∃ x t,x < j ∧ l = p ++ x :: t
theorem ext_zero {P:Pr} {p:List Nat} {k:Nat} {a t:Int} (hN:Nn P) (hp:pf P 0 (-1) 0 p = some (k,a,t)) (b:Option (Int × List Nat)):Upd P (Ext p k) b b :=
 upd_none b (fun l c h hc => by
  obtain ⟨x,t',hx,rfl⟩ := h
  obtain ⟨c',h1,-⟩ := (pf_cost hN hp).2.2 _ hc
  obtain ⟨hs,-⟩ := cw_cons P _ _ _ _ _ h1
  have := ((mayL_iff P _ _).1 hs).1
  omega)
theorem ext_not {P:Pr} {p:List Nat} {k j:Nat} {a t:Int} (hN:Nn P) (hp:pf P 0 (-1) 0 p = some (k,a,t)) {b b':Option (Int × List Nat)} (h:Upd P (Ext p j) b b') (hd:mayL P k j = false):Upd P (Ext p (j + 1)) b b' := by
 refine upd_mono h (fun l c hc => ⟨fun ⟨x,t',hx,e⟩ => ⟨x,t',by omega,e⟩,fun ⟨x,t',hx,e⟩ => ?_⟩)
 subst e
 obtain ⟨c',h1,-⟩ := (pf_cost hN hp).2.2 _ hc
 obtain ⟨hs,-⟩ := cw_cons P _ _ _ _ _ h1
 by_cases q:x = j
 ·subst q;rw [hd] at hs;cases hs
 ·exact ⟨x,t',by omega,rfl⟩
theorem ext_next {P:Pr} {p:List Nat} {j:Nat} {b b1 b2:Option (Int × List Nat)} (h:Upd P (Ext p j) b b1) (h2:Upd P (fun l => ∃ t,l = (p ++ [j]) ++ t) b1 b2):Upd P (Ext p (j + 1)) b b2 := by
 refine upd_mono (upd_then h h2 ?_) (fun l c hc => ?_)
 ·rintro _ _ ⟨x,t,hx,rfl⟩ ⟨t',rfl⟩
  rw [List.append_assoc]
  exact lle_pre _ _ _ _ _ hx
 ·constructor
  ·rintro (⟨x,t,hx,e⟩ | ⟨t,e⟩)
   ·exact ⟨x,t,by omega,e⟩
   ·exact ⟨j,t,by omega,by rw [e];simp⟩
  ·rintro ⟨x,t,hx,e⟩
   by_cases q:x = j
   ·subst q;exact .inr ⟨t,by rw [e];simp⟩
   ·exact .inl ⟨x,t,by omega,e⟩
theorem ext_last {P:Pr} {p:List Nat} {k j:Nat} {a t:Int} (hN:Nn P) (hp:pf P 0 (-1) 0 p = some (k,a,t)) (hd:mayL P k j = true) (hj:j + 1 = P.m) {b b':Option (Int × List Nat)} (h:Upd P (fun l => l = p ++ [j]) b b'):Upd P (fun l => ∃ t,l = (p ++ [j]) ++ t) b b' := by
 refine upd_mono h (fun l c hc => ⟨fun e => ⟨[],by rw [e];simp⟩,fun ⟨r,e⟩ => ?_⟩)
 subst e
 have h2 := pf_snoc P p 0 (-1) 0 k a t j hp hd
 obtain ⟨c',h1,-⟩ := (pf_cost hN h2).2.2 _ hc
 cases r with
 | nil => simp
 | cons x r =>
  obtain ⟨hs,-⟩ := cw_cons P _ _ _ _ _ h1
  have := (mayL_iff P _ _).1 hs
  omega
theorem ext_all {P:Pr} {p:List Nat} {k j:Nat} {a t:Int} (hN:Nn P) (hp:pf P 0 (-1) 0 p = some (k,a,t)) (hk:k < P.m) (hkj:k ≤ j) (hf:P.fo j = true ∨ P.m ≤ j + 1) {b b':Option (Int × List Nat)} (h:Upd P (Ext p (j + 1)) b b'):Upd P (fun l => ∃ t,l = p ++ t) b b' := by
 refine upd_mono h (fun l c hc => ⟨fun ⟨x,t,_,e⟩ => ⟨x :: t,e⟩,fun ⟨r,e⟩ => ?_⟩)
 subst e
 obtain ⟨c',h1,-⟩ := (pf_cost hN hp).2.2 _ hc
 cases r with
 | nil =>
  simp only [cw] at h1
  rw [if_neg (by omega)] at h1
  cases h1
 | cons x r =>
  obtain ⟨hs,-⟩ := cw_cons P _ _ _ _ _ h1
  obtain ⟨q1,q2,q3,q4⟩ := (mayL_iff P _ _).1 hs
  refine ⟨x,r,?_,rfl⟩
  by_cases c:x < j + 1
  ·exact c
  ·rcases hf with hf | hf
   ·have := q4 j (by omega) hkj
    rw [hf] at this
    cases this
   ·omega
def Lst (P:Pr) (i:Nat) (a v:Int):Prop := (v = -1 ∧ Noway P i a) ∨ (0 ≤ v ∧ (∃ l,cw P i a l = some v) ∧ ∀ l c,cw P i a l = some c → v ≤ c)
def LsJ (P:Pr) (i:Nat) (a:Int) (j:Nat) (v:Int):Prop := (v = -1 ∧ ∀ x t c,x < j → cw P i a (x :: t) = some c → False) ∨ (0 ≤ v ∧ (∃ x t,x < j ∧ cw P i a (x :: t) = some v) ∧ ∀ x t c,x < j → cw P i a (x :: t) = some c → v ≤ c)
theorem bkn_inj (I:Nat → Itm) (n i j:Nat) (hi:i < nbk I n) (hj:j < nbk I n) (h:bkn I n i = bkn I n j):i = j := by
 rcases Nat.lt_trichotomy i j with q | q | q
 ·have := bkn_less I n i j q hj;omega
 ·exact q
 ·have := bkn_less I n j i q hi;omega
theorem cw_lt {P:Pr} {l:List Nat} {c:Int} (h:cw P 0 (-1) l = some c) (k:Nat) (hk:k < l.length):l.getD k 0 < P.m := by
 have := (cw_wy P l 0 (-1) c h).1 (l.getD k 0) (by rw [List.getD_eq_getElem?_getD,List.getElem?_eq_getElem hk];exact List.getElem_mem hk)
 exact this.2
theorem way_one {I:Nat → Itm} {n:Nat} {l l':List Nat} (hl:l.length = l'.length) (h1:∀ k,k < l.length → l.getD k 0 < nbk I n) (h2:∀ k,k < l.length → l'.getD k 0 < nbk I n) (h:∀ k,k < l.length → bkn I n (l.getD k 0) = bkn I n (l'.getD k 0)):l = l' := by
 apply List.ext_getElem hl
 intro k hk hk'
 have e1:l.getD k 0 = l[k] := by rw [List.getD_eq_getElem?_getD,List.getElem?_eq_getElem hk];rfl
 have e2:l'.getD k 0 = l'[k] := by rw [List.getD_eq_getElem?_getD,List.getElem?_eq_getElem hk'];rfl
 have := bkn_inj I n _ _ (h1 k hk) (h2 k hk) (h k hk)
 rw [e1,e2] at this
 exact this
def Prc (P:Pr) (I:Nat → Itm) (n:Nat) (X:Nat → Int) (N:Nat) (T:Int) (ok:Bool):Prop :=
 (ok = true ∧ ∃ l:List Nat,l.length = N ∧ (∀ k,k < N → X k = (bkn I n (l.getD k 0):Nat)) ∧ cw P 0 (-1) l = some T) ∨
 (ok = false ∧ ∀ l:List Nat,l.length = N → (∀ k,k < N → X k = (bkn I n (l.getD k 0):Nat)) → cw P 0 (-1) l = none)
theorem prc_way {P:Pr} {I:Nat → Itm} {n:Nat} (hm:P.m = nbk I n) {X:Nat → Int} {N:Nat} {T:Int} {ok:Bool} (h:Prc P I n X N T ok) {l:List Nat} {c:Int} (hl:l.length = N) (hX:∀ k,k < N → X k = (bkn I n (l.getD k 0):Nat)) (hc:cw P 0 (-1) l = some c):ok = true ∧ T = c := by
 rcases h with ⟨h1,l',h2,h3,h4⟩ | ⟨h1,h2⟩
 ·refine ⟨h1,?_⟩
  have:l = l' := way_one (I := I) (n := n) (by omega) (fun k hk => hm ▸ cw_lt hc k hk) (fun k hk => hm ▸ cw_lt h4 k (by omega)) (fun k hk => by have := hX k (by omega);have := h3 k (by omega);omega)
  subst this
  rw [hc] at h4
  injection h4 with h4
  exact h4.symm
 ·rw [h2 l hl hX] at hc
  cases hc
open Go.RowKit
theorem same9_any (S S':Nat → Prop) (ao bo:Option Addr) (L:List Nat) (ca cb:Nat) (T:Int) (em:Bool) (w:World) (ha:NAt S w ao L) (hb:NAt S' w bo L) (hm:L.length ≤ 262144) :
  Calls Tryz.prog 17 #[.agg #[.slice ao L.length ca,.int .i64 T,.bool em],.agg #[.slice bo L.length cb,.int .i64 T,.bool em]] w fun e w' => e = .returned (.bool true) ∧ Below w.heap.size w w' := by
 have HA := boxed ha
 have HB := boxed hb
 clear ha hb
 obtain ⟨q0,q1,q2,q3⟩ := laid2 w (.cells #[.slice ao L.length ca,.int .i64 T,.bool em] 35) (.cells #[.slice bo L.length cb,.int .i64 T,.bool em] 35)
 obtain ⟨⟨x0,x1,x2⟩,-⟩ := cells3 q0
 obtain ⟨⟨y0,y1,y2⟩,-⟩ := cells3 q1
 have HW := boxed q2
 have HN:Box (∀ i,i < L.length → ∃ g g',ao = some ⟨g,0,none⟩ ∧ bo = some ⟨g',0,none⟩ ∧ ((w.alloc (.cells #[.slice ao L.length ca,.int .i64 T,.bool em] 35)).alloc (.cells #[.slice bo L.length cb,.int .i64 T,.bool em] 35)).cell? ⟨g,i,none⟩ = some (.int .i64 (L.getD i 0:Nat)) ∧ ((w.alloc (.cells #[.slice ao L.length ca,.int .i64 T,.bool em] 35)).alloc (.cells #[.slice bo L.length cb,.int .i64 T,.bool em] 35)).cell? ⟨g',i,none⟩ = some (.int .i64 (L.getD i 0:Nat))) := boxed (fun i hi => by
  obtain ⟨g,e,-,h1⟩ := HA.out i hi
  obtain ⟨g',e',-,h2⟩ := HB.out i hi
  exact ⟨g,g',e,e',hold q2 h1,hold q2 h2⟩)
 clear q0 q1 q2 q3 HA HB
 generalize hM:L.length = M at *
 replace hM := boxed hM
 go_enter Tryz.func17,Tryz.ntmps17
 go_wp2_with fail
 generalize hW0:((w.alloc (.cells #[.slice ao M ca,.int .i64 T,.bool em] 35)).alloc (.cells #[.slice bo M cb,.int .i64 T,.bool em] 35)) = W0 at *
 clear hW0
 have HX0 := boxed x0
 have HY0 := boxed y0
 clear x0 x1 x2 y0 y1 y2
 go_loopw [5] (fun iv wr => ∃ i:Nat,i ≤ M ∧ iv = .int .i64 (i:Int) ∧ Box (Below W0.heap.size W0 wr)) (fun iv _ => M - (intOf iv).toNat)
 case atStart => exact ⟨0,Nat.zero_le _,rfl,boxed (Below.refl _ _)⟩
 case round =>
  obtain ⟨i,hi,rfl,HBr⟩ := hrel
  have x0 := hold HBr.out HX0.out
  have y0 := hold HBr.out HY0.out
  by_cases hlt:i < M
  ·obtain ⟨g,g',rfl,rfl,h1,h2⟩ := HN.out i hlt
   replace h1 := hold HBr.out h1
   replace h2 := hold HBr.out h2
   have t1:decide ((i:Int) < (M:Int)) = true := decide_eq_true (by omega)
   have t1':decide (i < M) = true := decide_eq_true hlt
   clear HN HX0 HY0
   generalize L.getD i 0 = z at *
   go_wp2_with fail
   go_quiet (fail)
   have HB2:Box (Below W0.heap.size W0 (wr.drewN nq)) := boxed (HBr.out.trans (bel_drewN _ _ _))
   go_wp2_with fail
   go_roundw
   case rel => exact ⟨i + 1,by omega,by go_num,HB2⟩
   case measure => simp [intOf];omega
  ·have e:i = M := by omega
   subst e
   go_wp2_with fail
   go_ret
   exact ⟨rfl,HW.out.trans (HBr.out.mono HW.out.size)⟩
end Go.Proofs.YtcjcdpfjnomehaaGreat
