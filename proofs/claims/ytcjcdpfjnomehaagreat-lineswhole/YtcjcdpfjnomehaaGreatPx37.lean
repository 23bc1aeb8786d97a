/-
  What the program's Paragraph tells: a paragraph's lines and its breaking, or its first fault.
-/
import Derived.Test.YtcjcdpfjnomehaaGreatPx28
import Derived.Test.YtcjcdpfjnomehaaGreatPx35
import Derived.Test.YtcjcdpfjnomehaaGreatPx36
namespace Go.Proofs.YtcjcdpfjnomehaaGreat
open Go.RowKit
set_option linter.unusedSimpArgs false
set_option linter.unusedVariables false
theorem results_tmp_row_tmp {P : Program} {fn : Func} {a p u : Tmp} {ty : TypeId} (h : fn.results = #[.tmp a, .cell p ty, .tmp u]) (tmps : Array Value) (w : World) (g : Nat) (t : TypeId) (cs : Array Value) (fr : Nat × Nat) (d : TypeDesc)
    (hp : tmps.getD p undef = .pointer (some ⟨g, 0, none⟩)) (hg : w.heap[g]? = some (.cells cs t fr))
    (hu : P.underlying ty = some d) (hd : (match d with | .struct _ | .array _ _ => true | _ => false) = true) (hi : (P.info? ty).map (·.size) = some cs.size) :
    (results fn tmps).run P w = .ok (.tuple #[tmps.getD a undef, .agg cs, tmps.getD u undef]) w := by
  simp only [results, h]
  simp [Sem.run_bind, Result.andThen]
  rw [show tmps[p]?.getD undef = .pointer (some ⟨g, 0, none⟩) by simpa using hp]
  simp [asAddr, run_loadVar_row w g t ty cs fr d hg hu hd hi]
def itls (G : Nat → It.Sty) (ns : Nat) (t : ByteArray) (N m : Nat) (L Y : Nat → Int) : List Itm := (It.fin G ns t (fun a => It.sta L Y m 0 (a : Nat)) N).map toI
theorem itls_chn {G : Nat → It.Sty} {ns : Nat} (hg : ∀ i, i < ns → It.flt (G i) = 0) (t : ByteArray) (N m : Nat) (L Y : Nat → Int) (hN : It.Right t N) (hs : t.size ≤ 8192) (h0 : 0 < t.size) :
    rgt (nth (itls G ns t N m L Y)) (itls G ns t N m L Y).length = true ∧ Chn (nth (itls G ns t N m L Y)) (itls G ns t N m L Y).length t.size := by
  obtain ⟨h1, h2, h3, h4⟩ := It.fin_rgt hg t (fun a => It.sta L Y m 0 (a : Nat)) N hN hs h0
  have e : rgt (nth (itls G ns t N m L Y)) (itls G ns t N m L Y).length = true := by
    unfold itls
    rw [toI_nth', List.length_map, toI_rgt]
    exact h1
  obtain ⟨g1, g2, g3, g4⟩ := (rgt_iff _ _).1 e
  refine ⟨e, g1, g2, g4, g3, ?_⟩
  unfold itls
  rw [toI_nth, List.length_map]
  exact h3
def ParP (G : Nat → It.Sty) (ns : Nat) (t : ByteArray) (N m : Nat) (L Y : Nat → Int) (width : Int) (s : Stg) (w : World) (e : Ending) (w' : World) : Prop := Below w.heap.size w w' ∧
  ((It.ck t N ns m L Y ≠ 0 ∧ e = .returned (.tuple #[.slice none 0 0, .agg #[.slice none 0 0, .int .i64 0, .bool false], .int .i64 (It.ck t N ns m L Y)])) ∨
   (It.ck t N ns m L Y = 0 ∧ chkV width s ≠ 0 ∧ e = .returned (.tuple #[.slice none 0 0, .agg #[.slice none 0 0, .int .i64 0, .bool false], .int .i64 (chkV width s)])) ∨
   (It.ck t N ns m L Y = 0 ∧ chkV width s = 0 ∧ ∃ bo bc c l em ao cap ls, e = .returned (.tuple #[.slice ao l.length cap, .agg #[.slice bo l.length bc, .int .i64 c, .bool em], .int .i64 0]) ∧
      Brk (nth (itls G ns t N m L Y)) (itls G ns t N m L Y).length width s c l em ∧ l ≠ [] ∧ w'.ownsRow w.heap.size 3 1 (.slice bo l.length bc) l.length (ncs (l.map (bkn (nth (itls G ns t N m L Y)) (itls G ns t N m L Y).length))) ∧
      LnsAt (fun b => w.heap.size ≤ b) w' ao l.length (nthL ls) ∧ ∀ i, i < l.length → Laid (nth (itls G ns t N m L Y)) (itls G ns t N m L Y).length (l.map (bkn (nth (itls G ns t N m L Y)) (itls G ns t N m L Y).length)) t (Ru.exr L Y m) G ns width i (nthL ls i)))
section
variable {w : World} {B tb ns : Nat} {G : Nat → It.Sty} {t : ByteArray} {N : Nat} {ro : Option Addr} {m rc : Nat} {L Y : Nat → Int} {width : Int} {s : Stg}
set_option maxRecDepth 100000 in
set_option maxHeartbeats 4000000 in
theorem par_fault (hT : It.TabAt B w tb ns G) (hg : ∀ i, i < ns → It.flt (G i) = 0) (hN : It.Cnt t N) (hs : t.size ≤ 8192) (hr : It.RunsAt w ro m L Y) (hm : m ≤ 65536) (hk : It.ck t N ns m L Y ≠ 0) :
    Calls Tryz.prog 12 #[.pointer (some ⟨tb, 0, none⟩), .string t, .slice ro m rc, .int .i64 width, s.val] w fun e w' => e = .returned (.tuple #[.slice none 0 0, .agg #[.slice none 0 0, .int .i64 0, .bool false], .int .i64 (It.ck t N ns m L Y)]) ∧ Below w.heap.size w w' := by
  have HQ := laid2 w (.cells #[.int .i64 s.t, .int .i64 s.l, .int .i64 s.a, .int .i64 s.d, .int .i64 s.z, .int .i64 s.o, .int .i64 s.i] 25) (.cells #[.slice none 0 0, .int .i64 0, .bool false] 35)
  have hB := It.build_any (hT.below HQ.2.2.1) hg t N hN (by omega) ro m rc L Y (hr.below HQ.2.2.1) (by unfold maxLen; omega)
  generalize It.ck t N ns m L Y = V at *
  have d1 : (V == 0) = false := by simp [hk]
  have d2 : (V != 0) = true := by simp [hk]
  unfold Stg.val
  rw [HQ.2.2.2] at hB
  replace HQ := boxed HQ
  clear hT hr
  go_enter Tryz.func12, Tryz.ntmps12
  go_wp2_with fail
  refine hB.mono ?_
  rintro e w1 ⟨⟨-, rfl⟩ | ⟨h1, -⟩, hb⟩
  rotate_left
  · exact absurd h1 hk
  have hR := (hb.block (w.heap.size + 1) (by omega)).trans HQ.out.2.1
  have hB1 : Below w.heap.size w w1 := HQ.out.2.2.1.trans (hb.mono (by omega))
  obtain ⟨⟨x0, x1, x2⟩, y0, y1, y2⟩ := cells3 hR
  have HF : Box (Below w.heap.size w (w1.setCells (w.heap.size + 1) 0 [.slice none 0 0, .int .i64 0, .bool false])) := boxed (hB1.trans (sets_below _ _ (by omega) _ _ _))
  have HR : Box ((w1.setCells (w.heap.size + 1) 0 [.slice none 0 0, .int .i64 0, .bool false]).heap[w.heap.size + 1]? = some (.cells #[.slice none 0 0, .int .i64 0, .bool false] 35 (0, 0))) := boxed (sets_heap _ _ _ 0 _ _ hR)
  simp only [World.setCells, Nat.zero_add, Nat.reduceAdd] at HF HR
  clear hb hR hB hB1
  go_wp2_with fail
  refine bodyPost_ret (v := .tuple #[.slice none 0 0, .agg #[.slice none 0 0, .int .i64 0, .bool false], .int .i64 V]) ?_ ?_ ?_
  · exact results_tmp_row_tmp Tryz.results12 _ _ (w.heap.size + 1) 35 #[.slice none 0 0, .int .i64 0, .bool false] (0, 0) _ rfl HR.out Tryz.underlying35 rfl (by kernel_rfl)
  · rfl
  · exact ⟨rfl, HF.out⟩
set_option maxRecDepth 100000 in
set_option maxHeartbeats 4000000 in
theorem par_check (hT : It.TabAt B w tb ns G) (hg : ∀ i, i < ns → It.flt (G i) = 0) (hN : It.Cnt t N) (hs : t.size ≤ 8192) (hr : It.RunsAt w ro m L Y) (hm : m ≤ 65536) (hk : It.ck t N ns m L Y = 0) (hv : chkV width s ≠ 0) :
    Calls Tryz.prog 12 #[.pointer (some ⟨tb, 0, none⟩), .string t, .slice ro m rc, .int .i64 width, s.val] w fun e w' => e = .returned (.tuple #[.slice none 0 0, .agg #[.slice none 0 0, .int .i64 0, .bool false], .int .i64 (chkV width s)]) ∧ Below w.heap.size w w' := by
  have HQ := laid2 w (.cells #[.int .i64 s.t, .int .i64 s.l, .int .i64 s.a, .int .i64 s.d, .int .i64 s.z, .int .i64 s.o, .int .i64 s.i] 25) (.cells #[.slice none 0 0, .int .i64 0, .bool false] 35)
  have hB := It.build_any (hT.below HQ.2.2.1) hg t N hN (by omega) ro m rc L Y (hr.below HQ.2.2.1) (by unfold maxLen; omega)
  have hc := fun W => bcheck_any width s W
  generalize chkV width s = V at *
  generalize It.fin G ns t (fun a => It.sta L Y m 0 (a : Nat)) N = FL at *
  have d1 : (V == 0) = false := by simp [hv]
  have d2 : (V != 0) = true := by simp [hv]
  unfold Stg.val at *
  rw [HQ.2.2.2] at hB
  replace HQ := boxed HQ
  clear hT hr
  go_enter Tryz.func12, Tryz.ntmps12
  go_wp2_with fail
  refine hB.mono ?_
  rintro e w1 ⟨⟨h1, -⟩ | ⟨-, ao1, cap1, rfl, ho⟩, hb⟩
  · exact absurd hk h1
  have hR := (hb.block (w.heap.size + 1) (by omega)).trans HQ.out.2.1
  have hS1 := (hb.block w.heap.size (by omega)).trans HQ.out.1
  have hB1 : Below w.heap.size w w1 := HQ.out.2.2.1.trans (hb.mono (by omega))
  obtain ⟨⟨s0, s1, s2, s3, s4, s5, s6⟩, -⟩ := cells7 hS1
  have HR1 := boxed hR
  have HB1 := boxed hB1
  have hz1 := heap_lt hR
  clear hb hR hS1 hB1 hB ho
  go_wp2_with fail
  refine (hc _).mono ?_
  rintro e w2 ⟨rfl, hb2⟩
  have hR := (hb2.block (w.heap.size + 1) (by omega)).trans HR1.out
  have hB2 : Below w.heap.size w w2 := HB1.out.trans (hb2.mono HB1.out.size)
  obtain ⟨⟨x0, x1, x2⟩, y0, y1, y2⟩ := cells3 hR
  have HF : Box (Below w.heap.size w (w2.setCells (w.heap.size + 1) 0 [.slice none 0 0, .int .i64 0, .bool false])) := boxed (hB2.trans (sets_below _ _ (by omega) _ _ _))
  have HR : Box ((w2.setCells (w.heap.size + 1) 0 [.slice none 0 0, .int .i64 0, .bool false]).heap[w.heap.size + 1]? = some (.cells #[.slice none 0 0, .int .i64 0, .bool false] 35 (0, 0))) := boxed (sets_heap _ _ _ 0 _ _ hR)
  simp only [World.setCells, Nat.zero_add, Nat.reduceAdd] at HF HR
  clear hb2 hR hB2 hc s0 s1 s2 s3 s4 s5 s6
  go_wp2_with fail
  refine bodyPost_ret (v := .tuple #[.slice none 0 0, .agg #[.slice none 0 0, .int .i64 0, .bool false], .int .i64 V]) ?_ ?_ ?_
  · exact results_tmp_row_tmp Tryz.results12 _ _ (w.heap.size + 1) 35 #[.slice none 0 0, .int .i64 0, .bool false] (0, 0) _ rfl HR.out Tryz.underlying35 rfl (by kernel_rfl)
  · rfl
  · exact ⟨rfl, HF.out⟩
end
end Go.Proofs.YtcjcdpfjnomehaaGreat

/-
  What the program's Paragraph tells where nothing is wrong.
-/
namespace Go.Proofs.YtcjcdpfjnomehaaGreat
open Go.RowKit
set_option linter.unusedSimpArgs false
set_option linter.unusedVariables false
theorem kp_sets10 {S : Nat → Prop} (g : Nat) (vs : List Value) (W : World) (hS : ∀ x, S x → x ≠ g) : Kp S S W (W.setCells g 0 vs) := fun x i u hs hc => ⟨hs, by
  rw [World.cell?_of_block (a := ⟨x, i, none⟩) (sets_other g x (hS x hs) vs 0 W)]; exact hc⟩
theorem own_cap10 {w : World} {base size n : Nat} {e : TypeId} {ao : Option Addr} {m cap : Nat} {xs : List Value} (h : w.ownsRow base e size (.slice ao m cap) n xs) : m ≤ cap := by
  rcases h.2 with ⟨e1, e2⟩ | ⟨g, c, cur, e1, _, _, hnc, _⟩
  · injection e1 with e1 e3 e4; omega
  · injection e1 with e1 e3 e4; subst e3; subst e4; exact hnc
section
variable {w : World} {B tb ns : Nat} {G : Nat → It.Sty} {t : ByteArray} {N : Nat} {ro : Option Addr} {m rc : Nat} {L Y : Nat → Int} {width : Int} {s : Stg}
set_option maxRecDepth 100000 in
set_option maxHeartbeats 8000000 in
theorem par_lines (hT : It.TabAt B w tb ns G) (hg : ∀ i, i < ns → It.flt (G i) = 0) (hns : ns ≤ 32) (hN : It.Cnt t N) (hs : t.size ≤ 8192) (hr : It.RunsAt w ro m L Y) (hm : m ≤ 65536) (hk : It.ck t N ns m L Y = 0) (hv : chkV width s = 0) :
    Calls Tryz.prog 12 #[.pointer (some ⟨tb, 0, none⟩), .string t, .slice ro m rc, .int .i64 width, s.val] w fun e w' => ∃ bo bc c l em ao cap ls, e = .returned (.tuple #[.slice ao l.length cap, .agg #[.slice bo l.length bc, .int .i64 c, .bool em], .int .i64 0]) ∧
      Brk (nth (itls G ns t N m L Y)) (itls G ns t N m L Y).length width s c l em ∧ l ≠ [] ∧ w'.ownsRow w.heap.size 3 1 (.slice bo l.length bc) l.length (ncs (l.map (bkn (nth (itls G ns t N m L Y)) (itls G ns t N m L Y).length))) ∧
      LnsAt (fun b => w.heap.size ≤ b) w' ao l.length (nthL ls) ∧ (∀ i, i < l.length → Laid (nth (itls G ns t N m L Y)) (itls G ns t N m L Y).length (l.map (bkn (nth (itls G ns t N m L Y)) (itls G ns t N m L Y).length)) t (Ru.exr L Y m) G ns width i (nthL ls i)) ∧ Below w.heap.size w w' := by
  have HQ := laid2 w (.cells #[.int .i64 s.t, .int .i64 s.l, .int .i64 s.a, .int .i64 s.d, .int .i64 s.z, .int .i64 s.o, .int .i64 s.i] 25) (.cells #[.slice none 0 0, .int .i64 0, .bool false] 35)
  have hB := It.build_any (hT.below HQ.2.2.1) hg t N hN (by omega) ro m rc L Y (hr.below HQ.2.2.1) (by unfold maxLen; omega)
  have hc := fun W => bcheck_any width s W
  obtain ⟨hR, h0, -, hcr, hpr⟩ := It.ck_zero hN hk
  obtain ⟨hrg, hch⟩ := itls_chn hg t N m L Y hR hs h0
  have hfit : Ru.lyf t.size L Y 0 m = (0, (t.size : Int)) := by
    have := (runs_fit hns hcr m (Nat.le_refl _)).2
    rw [hpr] at this
    exact this
  have hww : 1 ≤ width ∧ width ≤ 1073741824 ∧ okS s = true := by
    unfold chkV okW at hv
    split at hv
    · rename_i h
      simp at h
      split at hv
      · rename_i h2; exact ⟨h.1, h.2, h2⟩
      · omega
    · omega
  rw [hv] at hc
  have hit : (itls G ns t N m L Y).length = (It.fin G ns t (fun a => It.sta L Y m 0 (a : Nat)) N).length := by unfold itls; simp
  have hic : It.ics (It.fin G ns t (fun a => It.sta L Y m 0 (a : Nat)) N) = ics (itls G ns t N m L Y) := by unfold itls; rw [toI_ics]
  rw [← hit, hic] at hB
  generalize itls G ns t N m L Y = IL at *
  have hv3 := s.val
  unfold Stg.val at hc ⊢
  rw [HQ.2.2.2] at hB
  have HT := boxed (hT.below HQ.2.2.1)
  have HRn := boxed (hr.below HQ.2.2.1)
  replace HQ := boxed HQ
  have HRG := boxed hrg
  have HCH := boxed hch
  have HFT := boxed hfit
  have hnl := hch.le
  obtain ⟨n, hn⟩ : ∃ n, IL.length = n := ⟨_, rfl⟩
  rw [hn] at hB HRG HCH hnl ⊢
  have HN := boxed hn
  clear hT hr hrg hch hfit hit hic hv3 hn hN hcr hpr
  go_enter Tryz.func12, Tryz.ntmps12
  go_wp2_with fail
  refine hB.mono ?_
  rintro e w1 ⟨⟨h1, -⟩ | ⟨-, ao1, cap1, rfl, ho⟩, hb⟩
  · exact absurd hk h1
  have hR1 := (hb.block (w.heap.size + 1) (by omega)).trans HQ.out.2.1
  have hS1 := (hb.block w.heap.size (by omega)).trans HQ.out.1
  have hb' := hb
  rw [← HQ.out.2.2.2] at hb'
  obtain ⟨⟨s0, s1, s2, s3, s4, s5, s6⟩, -⟩ := cells7 hS1
  have HR1 := boxed hR1
  have HS1 := boxed hS1
  have HB1 : Box (Below w.heap.size w w1) := boxed (HQ.out.2.2.1.trans (hb.mono (by omega)))
  have hz1 := heap_lt hR1
  have HT1 := boxed (HT.out.below hb')
  have HRn1 := boxed (HRn.out.below hb')
  have HO1 := boxed ho
  clear hb hb' hR1 hS1 hB ho HT HRn HQ
  go_wp2_with fail
  refine (hc _).mono ?_
  rintro e w2 ⟨rfl, hb2⟩
  have HB2 := boxed (below_step HB1.out (Nat.le_refl _) hb2)
  have HR2 := boxed ((hb2.block (w.heap.size + 1) (by omega)).trans HR1.out)
  have HS2 := boxed ((hb2.block w.heap.size (by omega)).trans HS1.out)
  have HT2 := boxed (HT1.out.below hb2)
  have HRn2 := boxed (HRn1.out.below hb2)
  have hI2 := own_its (owns_below HO1.out hb2) HN.out
  have hNw := new_any (fun b => w.heap.size + 2 ≤ b) ao1 n cap1 (nth IL) w2 hI2 (by unfold maxLen; omega) HRG.out
  clear hb2 hc hI2 HB1 HR1 HS1 HT1 HRn1 HO1 s0 s1 s2 s3 s4 s5 s6
  go_wp2_with fail
  refine hNw.mono ?_
  rintro e w3 ⟨pb, rfl, hP, hb3⟩
  have hz2 := heap_lt HR2.out
  have HB3 := boxed (below_step HB2.out (Nat.le_refl _) hb3)
  have HR3 := boxed ((hb3.block (w.heap.size + 1) (by omega)).trans HR2.out)
  have hS3 := (hb3.block w.heap.size (by omega)).trans HS2.out
  have HT3 := boxed (HT2.out.below hb3)
  have HRn3 := boxed (HRn2.out.below hb3)
  have hBk := break_any (s := s) (width := width) hP hnl HCH.out.ok HCH.out.pos HCH.out.fo ⟨hww.1, hww.2.1⟩ hww.2.2
  obtain ⟨⟨s0, s1, s2, s3, s4, s5, s6⟩, -⟩ := cells7 hS3
  have HP := boxed hP
  unfold Stg.val at hBk
  clear hb3 hNw HB2 HR2 HS2 HT2 HRn2 hP hS3
  go_wp2_with fail
  refine hBk.mono ?_
  rintro e w4 ⟨v, c, l, em, rfl, hbr, hne, ho4, hb4⟩
  obtain ⟨bo, bc, rfl⟩ := own_shape ho4
  have hcap := own_cap10 ho4
  have hNA := own_nat ho4 (by simp)
  have hwb := brk_wb hbr hne
  have hz3 := heap_lt HR3.out
  have HB4 := boxed (below_step HB3.out (Nat.le_refl _) hb4)
  have HR4 := boxed ((hb4.block (w.heap.size + 1) (by omega)).trans HR3.out)
  have hlm : (l.map (bkn (nth IL) n)).length = l.length := by simp
  have hLy := fun (W : World) (hb : Below w4.heap.size w4 W) => lay10_any (rc := rc) (tot := c) (em := em) (bc := bc) (width := width) ((HT3.out.below hb4).below hb) ((HRn3.out.below hb4).below hb) hm HFT.out ((HP.out.below hb4).below hb) hwb HCH.out h0 (hNA.below hb) (by rw [hlm]; exact hcap) (by omega)
  rw [hlm] at hLy
  have HBR := boxed hbr
  have HNE := boxed hne
  have HO4 := boxed ho4
  obtain ⟨ln, hln⟩ : ∃ ln, l.length = ln := ⟨_, rfl⟩
  rw [hln] at hLy HO4 ⊢
  have HLN := boxed hln
  have hz4 := heap_lt HR4.out
  obtain ⟨W4, hW4, hBW, hNW⟩ : ∃ W4, w4.alloc (.cells #[.slice bo ln bc, .int .i64 c, .bool em] 35) = W4 ∧ Below w4.heap.size w4 W4 ∧ W4.heap[w4.heap.size]? = some (.cells #[.slice bo ln bc, .int .i64 c, .bool em] 35 (0, 0)) := ⟨_, rfl, (Below.refl _ _).alloc (Nat.le_refl _) _, heap_alloc_new w4 _⟩
  have HX : Box (∀ W, Below W4.heap.size W4 W → W.cell? ⟨w4.heap.size, 0, none⟩ = some (.slice bo ln bc) ∧ W.cell? ⟨w4.heap.size, 1, none⟩ = some (.int .i64 c) ∧ W.cell? ⟨w4.heap.size, 2, none⟩ = some (.bool em)) := boxed (fun W hb => ⟨hold hb (cell_of_row _ _ _ _ _ _ hNW), hold hb (cell_of_row _ _ _ _ _ _ hNW), hold hb (cell_of_row _ _ _ _ _ _ hNW)⟩)
  have HD : Box (Below W4.heap.size W4 W4.drew) := boxed (Below.refl _ _).drew
  have HD4 : Box (Below w4.heap.size w4 W4.drew) := boxed hBW.drew
  have HLy := boxed hLy
  clear hbr hne ho4 hb4 hBk HB3 HR3 HT3 HRn3 HP hln hlm hcap hNA hwb hLy s0 s1 s2 s3 s4 s5 s6 hBW hNW
  have HZ3 := boxed hz3
  go_wp2_with fail
  go_region_held3 (fun W => W.cell? ⟨w4.heap.size, 0, none⟩ = some (.slice bo ln bc) ∧ W.cell? ⟨w4.heap.size, 1, none⟩ = some (.int .i64 c) ∧ W.cell? ⟨w4.heap.size, 2, none⟩ = some (.bool em))
    (first | with_reducible exact HX.out _ HD.out | with_reducible exact HX.out _ HB5.out | with_reducible exact HX6.out)
    (first
      | (go_at_call 22; refine (HLy.out _ HD4.out).mono ?_; rintro e w5 ⟨ao5, cap5, ls, rfl, hl5, ho5, hr5, hd5, hb5⟩; have HB5 := boxed (below_step HD.out (Nat.le_refl _) hb5); have HC5 := boxed (below_step HD4.out (Nat.le_refl _) hb5); have HZ5 := boxed (And.intro hl5 (And.intro ho5 (And.intro hr5 hd5))); have hR5 := (HC5.out.block (w.heap.size + 1) hz4).trans HR4.out; obtain ⟨⟨x0, x1, x2⟩, y0, y1, y2⟩ := cells3 hR5; have HR : Box ((w5.setCells (w.heap.size + 1) 0 [.slice bo ln bc, .int .i64 c, .bool em]).heap[w.heap.size + 1]? = some (.cells #[.slice bo ln bc, .int .i64 c, .bool em] 35 (0, 0))) := boxed (sets_heap _ _ _ 0 _ _ hR5); have HX6 : Box ((w5.setCells (w.heap.size + 1) 0 [.slice bo ln bc, .int .i64 c, .bool em]).cell? ⟨w4.heap.size, 0, none⟩ = some (.slice bo ln bc) ∧ (w5.setCells (w.heap.size + 1) 0 [.slice bo ln bc, .int .i64 c, .bool em]).cell? ⟨w4.heap.size, 1, none⟩ = some (.int .i64 c) ∧ (w5.setCells (w.heap.size + 1) 0 [.slice bo ln bc, .int .i64 c, .bool em]).cell? ⟨w4.heap.size, 2, none⟩ = some (.bool em)) := boxed (by obtain ⟨q1, q2, q3⟩ := HX.out _ HB5.out; exact ⟨(kp_sets10 (S := fun x => x ≠ w.heap.size + 1) _ _ _ (fun x hx => hx) _ _ _ (by omega) q1).2, (kp_sets10 (S := fun x => x ≠ w.heap.size + 1) _ _ _ (fun x hx => hx) _ _ _ (by omega) q2).2, (kp_sets10 (S := fun x => x ≠ w.heap.size + 1) _ _ _ (fun x hx => hx) _ _ _ (by omega) q3).2⟩); simp only [World.setCells, Nat.zero_add, Nat.reduceAdd] at HR HX6; clear hl5 ho5 hr5 hd5 hb5 hR5))
  clear HX HX6 HLy x0 x1 x2 y0 y1 y2
  go_wp2_with fail
  refine bodyPost_ret (v := .tuple #[.slice ao5 ln cap5, .agg #[.slice bo ln bc, .int .i64 c, .bool em], .int .i64 0]) ?_ ?_ ?_
  · exact results_tmp_row_tmp Tryz.results12 _ _ (w.heap.size + 1) 35 #[.slice bo ln bc, .int .i64 c, .bool em] (0, 0) _ rfl HR.out Tryz.underlying35 rfl (by kernel_rfl)
  · rfl
  · obtain ⟨hl5, ho5, hr5, hd5⟩ := HZ5.out
    have hbf := HB4.out.trans (HC5.out.mono HB4.out.size)
    have hls : ls.length = ln := hl5.trans (by first | rfl | simp [HLN.out])
    have hW4s : w.heap.size + 1 < W4.drew.heap.size := Nat.lt_of_lt_of_le hz4 HD4.out.size
    refine ⟨bo, bc, c, l, em, ao5, cap5, ls, by rw [HLN.out], HBR.out, HNE.out, ?_, ?_, ?_, ?_⟩
    · have o5 := owns_below HO4.out HC5.out
      have h1 := HZ3.out
      have o6 := ownsRow_setCell_below (ownsRow_setCell_below (ownsRow_setCell_below o5 (a := ⟨w.heap.size + 1, 0, none⟩) h1 (.slice bo ln bc)) (a := ⟨w.heap.size + 1, 1, none⟩) h1 (.int .i64 c)) (a := ⟨w.heap.size + 1, 2, none⟩) h1 (.bool em)
      rw [HLN.out]
      exact own_down o6 (by omega)
    · have h5 := own_lns (l := ls) (cap := cap5) (ao := ao5) (B := W4.drew.heap.size) (by rw [hls]; exact ho5) (by rw [hls]; exact hr5)
      rw [hls] at h5
      have h6 := h5.keep (kp_sets10 (S := fun b => W4.drew.heap.size ≤ b) (w.heap.size + 1) [.slice bo ln bc, .int .i64 c, .bool em] w5 (fun x hx => by omega))
      simp only [World.setCells, Nat.zero_add, Nat.reduceAdd] at h6
      rw [HLN.out]
      exact h6.keep (fun b i u hs hc => ⟨by omega, hc⟩)
    · rw [HLN.out]; exact hd5
    · have := hbf.trans (sets_below (w.heap.size + 1) w.heap.size (by omega) [.slice bo ln bc, .int .i64 c, .bool em] 0 w5)
      simp only [World.setCells, Nat.zero_add, Nat.reduceAdd] at this
      exact this
end
end Go.Proofs.YtcjcdpfjnomehaaGreat

/-
  What the program's Paragraph answers, all ways together.
-/
namespace Go.Proofs.YtcjcdpfjnomehaaGreat
open Go.RowKit
set_option linter.unusedSimpArgs false
set_option linter.unusedVariables false
theorem paragraph_any {w : World} {B tb ns : Nat} {G : Nat → It.Sty} {t : ByteArray} {N : Nat} {ro : Option Addr} {m rc : Nat} {L Y : Nat → Int} {width : Int} {s : Stg} (hT : It.TabAt B w tb ns G) (hg : ∀ i, i < ns → It.flt (G i) = 0) (hns : ns ≤ 32) (hN : It.Cnt t N) (hs : t.size ≤ 8192) (hr : It.RunsAt w ro m L Y) (hm : m ≤ 65536) :
    Calls Tryz.prog 12 #[.pointer (some ⟨tb, 0, none⟩), .string t, .slice ro m rc, .int .i64 width, s.val] w fun e w' => ParP G ns t N m L Y width s w e w' := by
  by_cases h1 : It.ck t N ns m L Y = 0
  · by_cases h2 : chkV width s = 0
    · refine (par_lines (rc := rc) hT hg hns hN hs hr hm h1 h2).mono ?_
      rintro e w' ⟨bo, bc, c, l, em, ao, cap, ls, g1, g2, g3, g4, g5, g6, g7⟩
      exact ⟨g7, .inr (.inr ⟨h1, h2, bo, bc, c, l, em, ao, cap, ls, g1, g2, g3, g4, g5, g6⟩)⟩
    · refine (par_check (rc := rc) hT hg hN hs hr hm h1 h2).mono ?_
      rintro e w' ⟨g1, g2⟩
      exact ⟨g2, .inr (.inl ⟨h1, h2, g1⟩)⟩
  · refine (par_fault (rc := rc) hT hg hN hs hr hm h1).mono ?_
    rintro e w' ⟨g1, g2⟩
    exact ⟨g2, .inl ⟨h1, g1⟩⟩
theorem chk_parts (width : Int) (s : Stg) : (okW width = false ∧ chkV width s = 41) ∨ (okW width = true ∧ okS s = false ∧ chkV width s = 80) ∨ (okW width = true ∧ okS s = true ∧ chkV width s = 0) := by
  unfold chkV
  cases okW width <;> cases okS s <;> simp
end Go.Proofs.YtcjcdpfjnomehaaGreat

/-
  The page's example: what the statements' awake answers.
-/
namespace Go.Proofs.YtcjcdpfjnomehaaGreat
open Go.RowKit
set_option linter.unusedSimpArgs false
set_option linter.unusedVariables false
theorem hgt_like {F G : Nat → It.Sty} {ns : Nat} (h : ∀ i, i < ns → It.Like (F i) (G i)) (s : List Int) (a b : Nat) : hgt G ns s a b = hgt F ns s a b := by
  unfold hgt
  rw [It.talT_like h, (It.ofS_like h _).h]
theorem itls_like {F G : Nat → It.Sty} {ns : Nat} (h : ∀ i, i < ns → It.Like (F i) (G i)) (t : ByteArray) (N m : Nat) (L Y : Nat → Int) : itls G ns t N m L Y = itls F ns t N m L Y := by
  unfold itls; rw [It.fin_like h]
theorem laid_like {I : Nat → Itm} {n : Nat} {bs : List Nat} {t : ByteArray} {s : List Int} {F G : Nat → It.Sty} {ns : Nat} {width : Int} {i : Nat} {x : Lne} (h : ∀ i, i < ns → It.Like (F i) (G i)) (hl : Laid I n bs t s G ns width i x) : Laid I n bs t s F ns width i x := by
  obtain ⟨h1, h2, h3, h4, h5, h6, h7, h8, h9, h10, h11⟩ := hl
  exact ⟨h1, h2, h3, h4, h5, h6, by rw [h7, hgt_like h], h8, h9, h10, h11⟩
def exS10 : It.Sty := ⟨10, 6, 3, 2, 6, 6, none, 0, 0, false, fun _ => ⟨0, 0, 0⟩⟩
def exT10 : ByteArray := ⟨#[97, 97, 32, 98, 98, 10]⟩
def exL10 : List Itm := [⟨1, 12, 0, 0, false, 0, false, 0, 2⟩, ⟨2, 6, 3, 2, false, 0, false, 2, 3⟩, ⟨1, 12, 0, 0, false, 0, false, 3, 5⟩, ⟨2, 0, 0, 0, true, 0, false, 5, 5⟩, ⟨3, 0, 0, 0, false, -10000, false, 5, 6⟩]
def exG10 : Stg := ⟨200, 10, 0, 0, 0, 1, 1⟩
theorem exS10_ok : It.StyOk exS10 := by
  constructor <;> first | (unfold exS10 It.I64; simp; done) | (unfold exS10; simp; done) | (unfold exS10 maxLen; simp; done)
theorem exS10_ck : It.ckc (fun _ => exS10) 1 = 0 := by decide
theorem exT10_cnt : It.Cnt exT10 6 := by unfold It.Cnt exT10; decide +kernel
theorem exT10_ck : It.ck exT10 6 1 1 (fun _ => 6) (fun _ => 0) = 0 := by decide +kernel
theorem exL10_its : itls (fun _ => exS10) 1 exT10 6 1 (fun _ => 6) (fun _ => 0) = exL10 := by kernel_rfl
theorem exG10_chk : chkV 20 exG10 = 0 := by decide +kernel
theorem ex_nbk : nbk (nth exL10) 5 = 2 := by decide +kernel
theorem ex_bkn : [0, 1].map (bkn (nth exL10) 5) = [1, 4] := by decide +kernel
theorem ex_may0 : mayL (PT (nth exL10) 5 20 exG10 200) 0 0 = false := by decide +kernel
theorem ex_may1 : mayL (PT (nth exL10) 5 20 exG10 200) 0 1 = false := by decide +kernel
theorem ex_mayE : mayL (PT (nth exL10) 5 20 exG10 10000) 0 1 = false := by decide +kernel
theorem ex_brk {c : Int} {l : List Nat} {em : Bool} (h : Brk (nth exL10) 5 20 exG10 c l em) : l = [0, 1] := by
  have hm : ∀ T, (PT (nth exL10) 5 20 exG10 T).m = 2 := fun T => ex_nbk
  have key : ∀ T c, mayL (PT (nth exL10) 5 20 exG10 T) 0 1 = false → cw (PT (nth exL10) 5 20 exG10 T) 0 (-1) l = some c → l = [0, 1] ∧ mayL (PT (nth exL10) 5 20 exG10 T) 0 0 = true := by
    intro T c h1 hc
    cases l with
    | nil => simp only [cw] at hc; rw [hm] at hc; simp at hc
    | cons j r =>
      obtain ⟨hs, q, hq, -⟩ := cw_cons _ _ _ _ _ _ hc
      have g1 := (mayL_iff _ _ _).1 hs
      rw [hm] at g1
      have : j = 0 := by
        rcases j with _ | _ | j
        · rfl
        · rw [h1] at hs; cases hs
        · omega
      subst this
      refine ⟨?_, hs⟩
      cases r with
      | nil => simp only [cw] at hq; rw [hm] at hq; simp at hq
      | cons j2 r2 =>
        obtain ⟨hs2, q2, hq2, -⟩ := cw_cons _ _ _ _ _ _ hq
        have g2 := (mayL_iff _ _ _).1 hs2
        rw [hm] at g2
        have : j2 = 1 := by omega
        subst this
        cases r2 with
        | nil => rfl
        | cons j3 r3 =>
          obtain ⟨hs3, -⟩ := cw_cons _ _ _ _ _ _ hq2
          have g3 := (mayL_iff _ _ _).1 hs3
          rw [hm] at g3
          omega
  rcases h with ⟨-, h⟩ | ⟨-, -, h | ⟨-, -, h⟩⟩
  · have := (key _ _ ex_may1 h.1).2
    rw [ex_may0] at this
    cases this
  · exact (key _ _ ex_mayE h.1).1
  · rw [h, ex_nbk]; rfl
theorem ex_ln : lnF (nth exL10) 5 [1, 4] 6 0 = 0 ∧ lnC (nth exL10) 5 [1, 4] 6 0 = 3 ∧ lnF (nth exL10) 5 [1, 4] 6 1 = 3 ∧ lnC (nth exL10) 5 [1, 4] 6 1 = 6 := by decide +kernel
theorem ex_hgt : hgt (fun _ => exS10) 1 (Ru.exr (fun _ => 6) (fun _ => 0) 1) 0 3 = 10 := by decide +kernel
theorem exS10_at (w : World) : It.StysAt (fun _ => True) (w.alloc (.cells #[.int .i64 10, .int .i64 6, .int .i64 3, .int .i64 2, .int .i64 6, .int .i64 6, .slice none 0 0, .bool false] 83)) (some ⟨w.heap.size, 0, none⟩) 1 (fun _ => exS10) := by
  intro i hi
  obtain rfl : i = 0 := by omega
  refine ⟨exS10_ok, fun j hj => absurd hj (by show ¬ j < 0; omega), w.heap.size, 0, rfl, trivial, ?_⟩
  exact ⟨cell_first _ _ _ _, cell_first _ _ _ _, cell_first _ _ _ _, cell_first _ _ _ _, cell_first _ _ _ _, cell_first _ _ _ _, cell_first _ _ _ _, cell_first _ _ _ _⟩
theorem exR10_at (w : World) : It.RunsAt (w.alloc (.cells #[.int .i64 6, .int .i64 0] 61)) (some ⟨w.heap.size, 0, none⟩) 1 (fun _ => 6) (fun _ => 0) := by
  intro i hi
  obtain rfl : i = 0 := by omega
  exact ⟨⟨by unfold It.I64; simp, by unfold It.I64; simp⟩, w.heap.size, 0, rfl, cell_first _ _ _ _, cell_first _ _ _ _⟩
set_option maxRecDepth 100000 in
set_option maxHeartbeats 4000000 in
theorem awake10_any (w : World) : Calls Tryz.prog 9 #[] w fun e w' => e = .returned (.bool true) ∧ Below w.heap.size w w' := by
  have HX := boxed (It.table_any (fun _ => True) (some ⟨w.heap.size, 0, none⟩) 1 1 (fun _ => exS10) _ (exS10_at w))
  go_enter Tryz.func9, Tryz.ntmps9
  go_wp2_with fail
  refine HX.out.mono ?_
  rintro e w1 ⟨hor, hb1⟩
  have HB1 : Box (Below w.heap.size w w1) := boxed (below_step (by go_grown) (Nat.le_refl _) hb1)
  rcases hor with ⟨hne, -⟩ | ⟨-, tb, G, rfl, hT, hL⟩
  · exact absurd exS10_ck hne
  have hg : ∀ i, i < 1 → It.flt (G i) = 0 := by
    intro i hi
    rw [It.flt_like (hL i hi)]
    decide
  have hpl := par_lines (s := exG10) (width := 20) (rc := 1) (hT.below ((Below.refl w1.heap.size w1).alloc (Nat.le_refl _) (.cells #[.int .i64 6, .int .i64 0] 61))) hg (by omega) exT10_cnt (by decide) (exR10_at w1) (by omega) exT10_ck exG10_chk
  rw [itls_like hL, exL10_its] at hpl
  have hpl2 := hpl.mono (fun e w' (h : _) => (by
    obtain ⟨bo, bc, c, l, em, ao, cap, ls, h1, h2, h3, h4, h5, h6, h7⟩ := h
    obtain rfl := ex_brk h2
    rw [show exL10.length = 5 from rfl, ex_bkn] at h6
    have g0 := laid_like hL (h6 0 (by decide))
    have g1 := laid_like hL (h6 1 (by decide))
    obtain ⟨q1, q2, q3, q4⟩ := ex_ln
    have e6 : exT10.size = 6 := rfl
    have t0 := g0.tx
    have t1 := g1.tx
    have hh := g0.h
    rw [e6, q1, q2] at t0 hh
    rw [e6, q3, q4] at t1
    rw [ex_hgt] at hh
    have en1 := g1.en
    exact (⟨bo, bc, c, em, ao, cap, nthL ls, h1, h5, t0, t1, hh, en1, h7⟩ : ∃ bo bc c em ao cap F, e = .returned (.tuple #[.slice ao 2 cap, .agg #[.slice bo 2 bc, .int .i64 c, .bool em], .int .i64 0]) ∧ LnsAt (fun b => (w1.alloc (.cells #[.int .i64 6, .int .i64 0] 61)).heap.size ≤ b) w' ao 2 F ∧ (F 0).tx = exT10.extract 0 3 ∧ (F 1).tx = exT10.extract 3 6 ∧ (F 0).h = 10 ∧ (F 1).en = decide (1 + 1 = [1, 4].length) ∧ Below (w1.alloc (.cells #[.int .i64 6, .int .i64 0] 61)).heap.size (w1.alloc (.cells #[.int .i64 6, .int .i64 0] 61)) w')))
  unfold exT10 Stg.val exG10 at hpl2
  have HPL := boxed hpl2
  clear hpl hpl2 hb1 hT hL hg HX
  go_wp2_with fail
  refine HPL.out.mono ?_
  rintro e w2 ⟨bo, bc, c, em, ao, cap, F, rfl, hF, t0, t1, hh, en1, hb2⟩
  have HB2 : Box (Below w.heap.size w w2) := boxed (below_step (HB1.out.alloc HB1.out.size _) (Nat.le_refl _) hb2)
  obtain ⟨-, b0, o0, e0, -, c0, c1, c2, c3, c4, c5, c6, c7, c8⟩ := hF 0 (by omega)
  obtain ⟨-, b1, o1, e1, -, d0, d1, d2, d3, d4, d5, d6, d7, d8⟩ := hF 1 (by omega)
  subst e0
  injection e1 with e1; injection e1 with e1a e1b
  subst e1a; subst e1b
  rw [t0] at c0
  rw [hh] at c4
  rw [t1] at d0
  rw [en1] at d8
  simp only [Nat.zero_mul, Nat.one_mul, Nat.add_zero] at c0 c4 d0 d8
  clear hF HPL hb2
  have x0 : (⟨#[97, 97, 32, 98, 98, 10]⟩ : ByteArray).extract 0 3 = ⟨#[97, 97, 32]⟩ := by decide +kernel
  have x1 : (⟨#[97, 97, 32, 98, 98, 10]⟩ : ByteArray).extract 3 6 = ⟨#[98, 98, 10]⟩ := by decide +kernel
  rw [x0] at c0
  rw [x1] at d0
  have e1 : decide (1 + 1 = [1, 4].length) = true := rfl
  rw [e1] at d8
  have k0 := fun o => hold ((Below.refl _ w2).alloc (Nat.le_refl _) o) c0
  have k4 := fun o => hold ((Below.refl _ w2).alloc (Nat.le_refl _) o) c4
  have n0 := fun o => hold ((Below.refl _ w2).alloc (Nat.le_refl _) o) d0
  have n8 := fun o => hold ((Below.refl _ w2).alloc (Nat.le_refl _) o) d8
  have HB3 := boxed (fun o => HB2.out.alloc HB2.out.size o)
  clear c0 c1 c2 c3 c4 c5 c6 c7 c8 d0 d1 d2 d3 d4 d5 d6 d7 d8 t0 t1 hh en1 x0 x1 e1
  go_wp2_with fail
  go_ret
  exact ⟨rfl, HB3.out _⟩
end Go.Proofs.YtcjcdpfjnomehaaGreat
