/-
  The law PiecesChunks, walked: a range over the pieces' texts that may be left.
-/
import Derived.Test.YtfikmlgmklnlaaaWz
namespace Go.Proofs.Ytfikmlgmklnlaaa
open Go.RowKit Go.Shelf
set_option linter.unusedSimpArgs false
set_option linter.unusedVariables false
attribute [local go_sem] Oper.semAt_some

theorem cellN (W : World) (v : Value) (t : TypeId) : (W.alloc (.cells #[v] t)).cell? ⟨W.heap.size, 0, none⟩ = some v ∧ (W.alloc (.cells #[v] t)).frozen? ⟨W.heap.size, 0, none⟩ = false := by
  constructor
  · rw [cell_new _ _ _ _ _ rfl]; rfl
  · unfold World.frozen?
    rw [heap_alloc_new]
    rfl
theorem cellA {W : World} {a : Addr} {v : Value} (o : Obj) (h : W.cell? a = some v) : (W.alloc o).cell? a = some v := hold ((Below.refl _ W).alloc (Nat.le_refl _) o) h
theorem frozB {n : Nat} {A B : World} {a : Addr} (h : Below n A B) (ha : a.block < n) (hf : A.frozen? a = false) : B.frozen? a = false := by
  unfold World.frozen? at *
  rw [h.block _ ha]; exact hf
theorem frozA {W : World} {a : Addr} {v : Value} (o : Obj) (h : W.cell? a = some v) (hf : W.frozen? a = false) : (W.alloc o).frozen? a = false :=
  frozB ((Below.refl _ W).alloc (Nat.le_refl _) o) (by have := World.block_lt_of_cell? W _ h; simpa using this) hf

set_option maxRecDepth 100000 in
theorem chunksM_in {S : Nat → Nat → Prop} {w : World} {tb : Nat} {x : Option Addr} {A : Option (Nat × Nat × Nat)} {T : Tr} (n : Nat) (c0 : w.cell? ⟨tb, 0, none⟩ = some (.pointer x)) :
    CallsIn Fence.wide n Try.prog 28 #[.pointer (some ⟨tb, 0, none⟩)] w fun e w' => e = .returned (.func (.func 56) #[] #[.pointer (some ⟨w.heap.size, 0, none⟩)]) ∧ w' = w.alloc (.cells #[.pointer x] 59) := by
  refine callsIn_wide.2 ?_
  go_enter Try.func28, Try.ntmps28
  go_wp2_with (go_at_call 41; refine (callsIn_wide.1 (chunks_in Fence.wide 5 trivial rfl x w)).mono ?_; rintro e w' ⟨rfl, rfl⟩)
  go_ret
  exact ⟨rfl, rfl⟩

theorem size0 {s : ByteArray} (h : s.toList.isEmpty = true) : s.size = 0 := by
  by_cases c : s.size = 0
  · exact c
  · rw [not_empty s (by omega)] at h
    cases h

/-- The text of chunks. -/
def gt (pre : List Ch) : ByteArray := ⟨(cat pre).toArray⟩
theorem gt_snoc (pre : List Ch) (x : Ch) : gt pre ++ x.1 = gt (pre ++ [x]) := by
  apply ByteArray.ext
  simp [gt, cat_app, cat]
theorem gt_size (pre : List Ch) : (gt pre).size = (cat pre).length := by
  show (cat pre).toArray.size = _
  simp
theorem gt_pre {pre xs : List Ch} (h : pre <+: xs) : (gt pre).size ≤ (gt xs).size ∧ (gt xs).extract 0 (gt pre).size = gt pre := by
  obtain ⟨r, rfl⟩ := h
  refine ⟨by rw [gt_size, gt_size, cat_app]; simp, ?_⟩
  rw [gt_size]
  apply ByteArray.ext
  simp [gt, cat_app]
theorem gt_all {T : Tr} {r : ByteArray} (h : T.flat = bl r) (hl : T.flat.length ≤ 1048576) : gt T.chs = r := by
  have := cat_pcs T.pcs (fun p hp => Nat.le_trans (len_flt _ p hp) hl)
  unfold gt
  rw [show cat T.chs = _ from this]
  show tx T.flat = r
  rw [h, tx_bl]

/-- What holds ahead of a round: the number, the text so far, and nothing old turned. -/
def Iv (w3 : World) (pre : List Ch) (W : World) : Prop :=
  ((W.cell? ⟨w3.heap.size, 0, none⟩ = some (.int .i64 (pre.length : Nat)) ∧ W.frozen? ⟨w3.heap.size, 0, none⟩ = false) ∧ W.cell? ⟨w3.heap.size + 1, 0, none⟩ = some (.string (gt pre)) ∧ W.frozen? ⟨w3.heap.size + 1, 0, none⟩ = false) ∧ Below w3.heap.size w3 W
theorem Iv.own {w3 : World} {B : Nat} (h : w3.heap.size ≤ B) : OwnFrom B (Iv w3) :=
  OwnFrom.and (Own.from (fun s A B row hs hg hr => ⟨⟨cell_kept hs.1.1 hg hr, (frozen_kept hs.1.1 hg hr).trans hs.1.2⟩, cell_kept hs.2.1 hg hr, (frozen_kept hs.2.1 hg hr).trans hs.2.2⟩) _) (ownFrom_below (Nat.le_refl _) h)

theorem Iv.step {w3 : World} {pre : List Ch} {W : World} (h : Iv w3 pre W) (c : Ch) :
    Iv w3 (pre ++ [c]) ((W.setCell ⟨w3.heap.size + 1, 0, none⟩ (.string (gt pre ++ c.1))).setCell ⟨w3.heap.size, 0, none⟩ (.int .i64 ((pre.length : Int) + 1))) := by
  obtain ⟨⟨⟨cn, fn⟩, cg, fg⟩, hB⟩ := h
  have hn : (W.setCell ⟨w3.heap.size + 1, 0, none⟩ (.string (gt pre ++ c.1))).cell? ⟨w3.heap.size, 0, none⟩ = some (.int .i64 (pre.length : Nat)) := by
    rw [World.cell?_setCell_other _ _ _ _ (by simp)]; exact cn
  refine ⟨⟨⟨?_, ?_⟩, ?_, ?_⟩, ?_⟩
  · rw [World.cell?_setCell_same' _ _ _ (by rw [hn]; rfl)]; simp
  · rw [World.frozen?_setCell, World.frozen?_setCell]; exact fn
  · rw [World.cell?_setCell_other _ _ _ _ (by simp), World.cell?_setCell_same' _ _ _ (by rw [cg]; rfl), gt_snoc]
  · rw [World.frozen?_setCell, World.frozen?_setCell]; exact fg
  · exact (hB.setCell (p := ⟨w3.heap.size + 1, 0, none⟩) (by show w3.heap.size ≤ w3.heap.size + 1; omega) _).setCell (p := ⟨w3.heap.size, 0, none⟩) (Nat.le_refl _) _
theorem Iv.keeps {w3 : World} {pre : List Ch} {W : World} (c : Ch) :
    KeepsOthers W ((W.setCell ⟨w3.heap.size + 1, 0, none⟩ (.string (gt pre ++ c.1))).setCell ⟨w3.heap.size, 0, none⟩ (.int .i64 ((pre.length : Int) + 1))) ∧
    Below w3.heap.size W ((W.setCell ⟨w3.heap.size + 1, 0, none⟩ (.string (gt pre ++ c.1))).setCell ⟨w3.heap.size, 0, none⟩ (.int .i64 ((pre.length : Int) + 1))) :=
  ⟨(KeepsOthers.setCell _ _ _).trans (KeepsOthers.setCell _ _ _), ((Below.refl _ W).setCell (p := ⟨w3.heap.size + 1, 0, none⟩) (by show w3.heap.size ≤ w3.heap.size + 1; omega) _).setCell (p := ⟨w3.heap.size, 0, none⟩) (Nat.le_refl _) _⟩

set_option maxRecDepth 100000 in
set_option maxHeartbeats 8000000 in
theorem chunks_law (a0 : ByteArray) (hs0 : a0.size ≤ 1048576) (ao1 : Option Addr) (n1 cap1 : Nat) (O1 : Nat → Opr) (w : World) (hn1 : n1 ≤ 1048576) (hO1 : OpsAt w ao1 n1 O1) (a2 : Int) (b2 : -9223372036854775808 ≤ a2 ∧ a2 ≤ 9223372036854775807) :
    Calls Try.prog 8 #[.string a0, .slice ao1 n1 cap1, .int .i64 a2] w fun e w' => e = .returned (.bool true) ∧ Below w.heap.size w w' := by
  obtain ⟨N, hN⟩ := cnt_ex a0
  have hri := fun w => right_any a0 w N hN hs0
  refine (callsIn_wide (n := 5)).1 ?_
  have hro : (Fence.wide).round = none := rfl
  have hd : (Fence.wide).depth = none := rfl
  refine callsIn_of_wp_marks Try.func8 rfl trivial ?_ hro
  simp only [Try.ntmps8, List.size_toArray, List.length_cons, List.length_nil, Nat.reduceAdd, Nat.reduceSub, Array.replicate_succ, Array.replicate_zero, List.push_toArray, List.append_toArray, List.nil_append, List.cons_append]
  by_cases hr : a0.size ≤ 4096 ∧ badAt a0 N < 0
  · rw [decide_eq_true hr] at hri
    have hpl := fun w' (hb : Below w.heap.size w w') => played_any a0 ao1 n1 cap1 O1 w' (hO1.below hb) N hN (by omega) hr.2 hn1
    clear hN hr hO1
    gi_wp2_with fail
    refine ⟨trivial, (callsIn_wide.2 (awake_any _)).mono ?_⟩
    rintro e w1 ⟨rfl, hb1⟩
    have HB1 : Box (Below w.heap.size w w1) := boxed (((((Below.refl _ w).alloc (Nat.le_refl _) _).alloc (by simp) _).trans (hb1.mono (by simp; omega))))
    have z1 : w.heap.size + 2 ≤ w1.heap.size := by have := hb1.size; simp at this; omega
    have HL1 : Box (w1.cell? ⟨w.heap.size, 0, none⟩ = some (.int .i64 a2)) := boxed ((hb1.cell (p := ⟨w.heap.size, 0, none⟩) (by simp; omega)).trans (cellA _ (cellN _ _ _).1))
    have HR1 : Box (w1.cell? ⟨w.heap.size + 1, 0, none⟩ = some (.bool false) ∧ w1.frozen? ⟨w.heap.size + 1, 0, none⟩ = false) := boxed (by
      have := cellN (w.alloc (Obj.cells #[Value.int .i64 a2] 3)) (.bool false) 4
      rw [World.size_alloc] at this
      exact ⟨(hb1.cell (p := ⟨w.heap.size + 1, 0, none⟩) (by simp)).trans this.1, frozB hb1 (by simp) this.2⟩)
    clear hb1
    gi_wp2_with fail
    refine ⟨trivial, (callsIn_wide.2 (hri _)).mono ?_⟩
    rintro e w2 ⟨rfl, hb2⟩
    have HB2 := boxed (below_step HB1.out (Nat.le_refl _) hb2)
    have HB12 := boxed hb2
    clear hb2 hri
    gi_wp2_with fail
    refine ⟨trivial, (callsIn_wide.2 (hpl _ HB2.out)).mono ?_⟩
    rintro e w3 ⟨tb, r, rfl, -, hl⟩
    have HB3 := boxed (below_step HB2.out (Nat.le_refl _) hl.frame)
    have HB13 : Box (Below w1.heap.size w1 w3) := boxed (below_step HB12.out (Nat.le_refl _) hl.frame)
    have z3 : w.heap.size + 2 ≤ w3.heap.size := by have := HB13.out.size; omega
    have HL3 : Box (w3.cell? ⟨w.heap.size, 0, none⟩ = some (.int .i64 a2)) := boxed ((HB13.out.cell (p := ⟨w.heap.size, 0, none⟩) (by show w.heap.size < _; omega)).trans HL1.out)
    have HR3 : Box (w3.cell? ⟨w.heap.size + 1, 0, none⟩ = some (.bool false) ∧ w3.frozen? ⟨w.heap.size + 1, 0, none⟩ = false) := boxed ⟨(HB13.out.cell (p := ⟨w.heap.size + 1, 0, none⟩) (by show w.heap.size + 1 < _; omega)).trans HR1.out.1, frozB HB13.out (by show w.heap.size + 1 < _; omega) HR1.out.2⟩
    clear HL1 HR1 HB1 HB12 HB2 HB13 z1
    have hrs := hl.size
    obtain ⟨S, x, A, T, t1, -, t3, t4, -⟩ := hl
    have c0 := t1.root
    have hlen : T.flat.length ≤ 1048576 := by have := t1.len; omega
    have HG : Box (gt T.chs = r) := boxed (gt_all t3 hlen)
    have hPl : T.chs.length = T.pcs.length := by simp [Tr.chs]
    have hPb : T.pcs.length ≤ 65536 := by have := t1.tree.nums.1; have := t1.len; omega
    have HNE : Box (∀ c ∈ T.chs, 0 < c.1.size) := boxed (by
      intro c hc
      simp only [Tr.chs, List.mem_map] at hc
      obtain ⟨p, hp, rfl⟩ := hc
      rw [toC_val _ (Nat.le_trans (len_flt _ p hp) hlen), tx_size]
      exact List.length_pos_iff.2 (t1.tree.ne p hp).1)
    have hkp : Kp S (fun b _ => b < w3.heap.size) w3 w3 := fun b i u hs hc => ⟨by have := World.block_lt_of_cell? w3 _ hc; simpa using this, hc⟩
    have HT2 := boxed (t1.tree.keep hkp)
    have hct : (((w3.alloc (Obj.cells #[Value.int .i64 0] 3)).alloc (Obj.cells #[Value.string ⟨#[]⟩] 9))).cell? ⟨tb, 0, none⟩ = some (.pointer x) := cellA _ (cellA _ c0)
    have HPC := boxed (fun w' (hb : Below w3.heap.size w3 w') => pieces_any (t1.below hb))
    clear t3 t4 hkp c0 hpl
    gi_wp2_with fail
    refine ⟨trivial, (chunksM_in (S := S) (A := A) (T := T) _ hct).mono ?_⟩
    rintro e w' ⟨rfl, rfl⟩
    simp only [World.size_alloc]
    have hB0 : Below w3.heap.size w3 (((w3.alloc (Obj.cells #[Value.int .i64 0] 3)).alloc (Obj.cells #[Value.string ⟨#[]⟩] 9)).alloc (.cells #[.pointer x] 59)) := ((((Below.refl _ w3).alloc (Nat.le_refl _) _).alloc (by simp) _).alloc (by simp; omega) _)
    have cR := (cellN (((w3.alloc (Obj.cells #[Value.int .i64 0] 3)).alloc (Obj.cells #[Value.string ⟨#[]⟩] 9))) (.pointer x) 59).1
    have cG := cellN (w3.alloc (Obj.cells #[Value.int .i64 0] 3)) (.string ⟨#[]⟩) 9
    have cN0 := cellN w3 (.int .i64 0) 3
    simp only [World.size_alloc] at cR cG
    have HI0 := boxed (And.intro (And.intro (cellA (.cells #[.pointer x] 59) (cellA (Obj.cells #[Value.string ⟨#[]⟩] 9) cN0.1)) (frozA (.cells #[.pointer x] 59) (cellA (Obj.cells #[Value.string ⟨#[]⟩] 9) cN0.1) (frozA _ cN0.1 cN0.2))) (And.intro (cellA (.cells #[.pointer x] 59) cG.1) (frozA (.cells #[.pointer x] 59) cG.1 cG.2)))
    clear hct cG cN0
    gi_wp2_with fail
    refine wpIn_rangeFunc_ownF hro (by omega : 1 ≤ 5) (gf := 56) (lb := #[.pointer (some ⟨w3.heap.size + 1 + 1, 0, none⟩)]) rfl trivial (enters_of Try.func56 (by kernel_rfl) rfl)
      (chunks_stops Fence.wide hd (5 - 1) trivial trivial hro (w3.heap.size + 1 + 1) w3.heap.size x T _ (by simp) (by simp; omega) cR (HT2.out.keep (kp_lt hB0)) hlen) belowK_t (belowK_b (by simp; omega)) (Below.refl _ _) (fun _ => rfl)
      (Iv w3)
      (fun c pre W => (c = .ret ∧ ∃ y ∈ pre, y.1.size = 0) ∨ (c = .exit 0 ∧ (pre.length : Int) = a2 ∧ Iv w3 pre W))
      (Iv.own (by simp; omega))
      (fun c s A B row hs hg hr => hs.elim (fun h => .inl h) (fun h => .inr ⟨h.1, h.2.1, Iv.own (by simp; omega) s A B row h.2.2 hg hr⟩))
      ⟨HI0.out, hB0⟩
      (fun c => { tmps := #[.string a0, .slice ao1 n1 cap1, .int .i64 a2, undef, undef, .pointer (some ⟨w.heap.size, 0, none⟩), .pointer (some ⟨w.heap.size + 1, 0, none⟩), .pointer (some ⟨tb, 0, none⟩), .string r, .int .i64 (min n1 60 : Nat), .pointer (some ⟨w3.heap.size, 0, none⟩), .pointer (some ⟨w3.heap.size + 1, 0, none⟩), .string c.1, .bool true, .bool false, .string a0, .bool true, .bool false, .tuple #[.pointer (some ⟨tb, 0, none⟩), .string r, .int .i64 (min n1 60 : Nat)], .string a0, .slice ao1 n1 cap1, .tuple #[.pointer (some ⟨tb, 0, none⟩), .string r, .int .i64 (min n1 60 : Nat)], .pointer (some ⟨tb, 0, none⟩), .string r, .int .i64 (min n1 60 : Nat), .pointer (some ⟨tb, 0, none⟩), .bool false, .pointer (some ⟨tb, 0, none⟩), .func (.func 56) #[] #[.pointer (some ⟨w3.heap.size + 1 + 1, 0, none⟩)], .string c.1, undef, undef, undef, undef, undef, undef, undef, undef, undef, undef, undef, undef, undef, undef, undef, undef, undef, undef, undef, undef, undef, undef, undef, undef, undef, undef, undef, undef, undef, undef, undef, undef, undef, undef, undef, undef, undef, undef, undef, undef, undef], defers := [] }) ?assign ?body ?done ?stop
    case assign =>
      intro l x W K hK
      gi_wp2
      exact hK
    case body =>
      rintro l pre c W hIv hlt
      have hIv' := hIv
      obtain ⟨⟨⟨cn, fn⟩, cg, fg⟩, hB⟩ := hIv'
      have hcl := cat_len pre
      rw [← gt_size] at hcl
      have hx := c.2
      have cL := (hB.cell (p := ⟨w.heap.size, 0, none⟩) (by show w.heap.size < _; omega)).trans HL3.out
      have cS := (hB.cell (p := ⟨w.heap.size + 1, 0, none⟩) (by show w.heap.size + 1 < _; omega)).trans HR3.out.1
      have fS := frozB hB (a := ⟨w.heap.size + 1, 0, none⟩) (by show w.heap.size + 1 < _; omega) HR3.out.2
      have HI := boxed (hIv.step c)
      have HK := boxed (Iv.keeps (w3 := w3) (pre := pre) (W := W) c)
      clear hB hIv
      rw [hPl] at hlt
      gi_wp2
      · rename_i he
        refine ⟨KeepsOthers.setCell _ _ _, .inl ⟨rfl, c, by simp, size0 he⟩⟩
      · rename_i he
        have he2 : (pre.length : Int) + 1 = a2 := eq_of_beq he
        exact ⟨HK.out.1, .inr ⟨rfl, by simp; exact he2, HI.out⟩⟩
      · exact ⟨HK.out.1, HK.out.2, HI.out⟩
    case done =>
      rintro D ys W hD rfl hIv hK
      obtain ⟨⟨⟨cn, fn⟩, cg, fg⟩, hB⟩ := hIv
      have cL := (hB.cell (p := ⟨w.heap.size, 0, none⟩) (by show w.heap.size < _; omega)).trans HL3.out
      have cS := (hB.cell (p := ⟨w.heap.size + 1, 0, none⟩) (by show w.heap.size + 1 < _; omega)).trans HR3.out.1
      have fS := frozB hB (a := ⟨w.heap.size + 1, 0, none⟩) (by show w.heap.size + 1 < _; omega) HR3.out.2
      have hpc := fun w' (hb : Below W.heap.size W w') => HPC.out w' (hB.trans (hb.mono hB.size))
      have HB := boxed hB
      clear hB HPC
      by_cases hq : (T.chs.length : Int) = a2
      · skip
        have hnP : T.chs.length ≤ T.pcs.length := by rw [← hPl]; exact (List.prefix_refl T.chs).length_le
        have hGs : (gt T.chs).size ≤ r.size := by rw [HG.out]; exact Nat.le_refl _
        have hGx : r.extract 0 (gt T.chs).size = gt T.chs := by have := (gt_pre (List.prefix_refl T.chs)).2; rw [HG.out] at this ⊢; exact this
        clear HG
        generalize gt T.chs = G at *
        clear hPl
        generalize T.pcs.length = P at *
        generalize T.chs.length = n at *
        subst hq
        have q1 : decide ((n : Int) ≤ (P : Int)) = true := decide_eq_true (by omega)
        have q1' : decide (n ≤ P) = true := decide_eq_true hnP
        have q2 : decide ((G.size : Int) ≤ (r.size : Int)) = true := decide_eq_true (by omega)
        have q2' : decide (G.size ≤ r.size) = true := decide_eq_true hGs
        gi_wp2_with fail
        refine wpIn_wide.2 ?_
        have HC : Box (∀ w', Below W.heap.size W w' → w'.cell? ⟨w3.heap.size, 0, none⟩ = some (.int .i64 (n : Nat)) ∧ w'.cell? ⟨w3.heap.size + 1, 0, none⟩ = some (.string G) ∧ w'.cell? ⟨w.heap.size + 1, 0, none⟩ = some (.bool false) ∧ w'.frozen? ⟨w.heap.size + 1, 0, none⟩ = false) := boxed (fun w' hb =>
          ⟨hold hb cn, hold hb cg, hold hb cS, frozB hb (by have := World.block_lt_of_cell? W _ cS; simpa using this) fS⟩)
        have HB0 : Box (Below W.heap.size W W.drew) := boxed (Below.refl _ _).drew
        have hne1 : (⟨w.heap.size + 1, 0, none⟩ : Addr).block ≠ (⟨w3.heap.size, 0, none⟩ : Addr).block := by show w.heap.size + 1 ≠ w3.heap.size; omega
        have hne2 : (⟨w.heap.size + 1, 0, none⟩ : Addr).block ≠ (⟨w3.heap.size + 1, 0, none⟩ : Addr).block := by show w.heap.size + 1 ≠ w3.heap.size + 1; omega
        clear cn cg cS fS cL fn fg
        go_region_held3 (fun w' => w'.cell? ⟨w3.heap.size, 0, none⟩ = some (.int .i64 (n : Nat)) ∧ w'.cell? ⟨w3.heap.size + 1, 0, none⟩ = some (.string G))
          (first | exact ⟨(HC.out _ HB5.out).1, (HC.out _ HB5.out).2.1⟩ | exact ⟨(HC.out _ HB0.out).1, (HC.out _ HB0.out).2.1⟩ | exact ⟨(World.cell?_setCell_far _ _ _ _ hne1).trans (HC.out _ HB5.out).1, (World.cell?_setCell_far _ _ _ _ hne2).trans (HC.out _ HB5.out).2.1⟩)
          (first | (go_at_call 25; refine (hpc _ HB0.out).mono ?_; rintro e w5 ⟨rfl, hb5⟩; clear hpc; have HB5 := boxed (HB0.out.trans (hb5.mono HB0.out.size)); clear hb5; have cS5 := (HC.out _ HB5.out).2.2.1; have fS5 := (HC.out _ HB5.out).2.2.2))
        gi_wp2
        have hDw : D < W.heap.size := (Array.getElem?_eq_some_iff.1 hK).1
        have hK5 : w5.heap[D]? = some (.deferred (some [])) := by rw [HB5.out.block D hDw]; exact hK
        have hK' := (KeepsOthers.setCell w5 ⟨w.heap.size + 1, 0, none⟩ (.bool true)).same D _ hK5 rfl
        have hc5 := cell_kept (World.cell?_setCell_same' w5 ⟨w.heap.size + 1, 0, none⟩ (.bool true) (by rw [cS5]; rfl)) (grownBy_putObj' _ D (.deferred none)) (fun r e => by cases e; exact ⟨_, hK', rfl⟩)
        refine ⟨by simp, .inl ⟨_, _, rfl, run_takeDeferred hK', ?_⟩⟩
        have hDz : w.heap.size ≤ D := by simp at hD; omega
        have hz3 := HB3.out.size
        have HW : Below w.heap.size w w5 := (HB3.out.trans (HB.out.mono hz3)).trans (HB5.out.mono (Nat.le_trans hz3 HB.out.size))
        refine ⟨.bool true, ?_, rfl, (HW.setCell (p := ⟨w.heap.size + 1, 0, none⟩) (by show w.heap.size ≤ w.heap.size + 1; omega) _).trans (belowK_b (w := w) (Nat.le_refl _) _ D _ _ hDz hK' rfl rfl)⟩
        simp [results, Try.f8, go_sem, hc5]
      · rw [hPl] at hq cn
        rw [HG.out] at cg
        have q0 : ((T.pcs.length : Int) == a2) = false := by simpa using hq
        generalize T.pcs.length = P at *
        gi_wp2_with fail
        refine wpIn_wide.2 ?_
        have HC : Box (∀ w', Below W.heap.size W w' → w'.cell? ⟨w3.heap.size, 0, none⟩ = some (.int .i64 (P : Nat)) ∧ w'.cell? ⟨w3.heap.size + 1, 0, none⟩ = some (.string r) ∧ w'.cell? ⟨w.heap.size + 1, 0, none⟩ = some (.bool false) ∧ w'.frozen? ⟨w.heap.size + 1, 0, none⟩ = false) := boxed (fun w' hb =>
          ⟨hold hb cn, hold hb cg, hold hb cS, frozB hb (by have := World.block_lt_of_cell? W _ cS; simpa using this) fS⟩)
        have HB0 : Box (Below W.heap.size W W.drew) := boxed (Below.refl _ _).drew
        have hne1 : (⟨w.heap.size + 1, 0, none⟩ : Addr).block ≠ (⟨w3.heap.size, 0, none⟩ : Addr).block := by show w.heap.size + 1 ≠ w3.heap.size; omega
        have hne2 : (⟨w.heap.size + 1, 0, none⟩ : Addr).block ≠ (⟨w3.heap.size + 1, 0, none⟩ : Addr).block := by show w.heap.size + 1 ≠ w3.heap.size + 1; omega
        clear cn cg cS fS cL fn fg
        go_region_held3 (fun w' => w'.cell? ⟨w3.heap.size, 0, none⟩ = some (.int .i64 (P : Nat)) ∧ w'.cell? ⟨w3.heap.size + 1, 0, none⟩ = some (.string r))
          (first | exact ⟨(HC.out _ HB5.out).1, (HC.out _ HB5.out).2.1⟩ | exact ⟨(HC.out _ HB0.out).1, (HC.out _ HB0.out).2.1⟩ | exact ⟨(World.cell?_setCell_far _ _ _ _ hne1).trans (HC.out _ HB5.out).1, (World.cell?_setCell_far _ _ _ _ hne2).trans (HC.out _ HB5.out).2.1⟩)
          (first | (go_at_call 25; refine (hpc _ HB0.out).mono ?_; rintro e w5 ⟨rfl, hb5⟩; clear hpc; have HB5 := boxed (HB0.out.trans (hb5.mono HB0.out.size)); clear hb5; have cS5 := (HC.out _ HB5.out).2.2.1; have fS5 := (HC.out _ HB5.out).2.2.2))
        gi_wp2
        have hDw : D < W.heap.size := (Array.getElem?_eq_some_iff.1 hK).1
        have hK5 : w5.heap[D]? = some (.deferred (some [])) := by rw [HB5.out.block D hDw]; exact hK
        have hK' := (KeepsOthers.setCell w5 ⟨w.heap.size + 1, 0, none⟩ (.bool true)).same D _ hK5 rfl
        have hc5 := cell_kept (World.cell?_setCell_same' w5 ⟨w.heap.size + 1, 0, none⟩ (.bool true) (by rw [cS5]; rfl)) (grownBy_putObj' _ D (.deferred none)) (fun r e => by cases e; exact ⟨_, hK', rfl⟩)
        refine ⟨by simp, .inl ⟨_, _, rfl, run_takeDeferred hK', ?_⟩⟩
        have hDz : w.heap.size ≤ D := by simp at hD; omega
        have hz3 := HB3.out.size
        have HW : Below w.heap.size w w5 := (HB3.out.trans (HB.out.mono hz3)).trans (HB5.out.mono (Nat.le_trans hz3 HB.out.size))
        refine ⟨.bool true, ?_, rfl, (HW.setCell (p := ⟨w.heap.size + 1, 0, none⟩) (by show w.heap.size ≤ w.heap.size + 1; omega) _).trans (belowK_b (w := w) (Nat.le_refl _) _ D _ _ hDz hK' rfl rfl)⟩
        simp [results, Try.f8, go_sem, hc5]
    case stop =>
      rintro D c pre W hD hpre (⟨rfl, y, hy, hy0⟩ | ⟨rfl, hq, hIv⟩) hK
      · have := HNE.out y (hpre.subset hy)
        omega
      · obtain ⟨⟨⟨cn, fn⟩, cg, fg⟩, hB⟩ := hIv
        have cL := (hB.cell (p := ⟨w.heap.size, 0, none⟩) (by show w.heap.size < _; omega)).trans HL3.out
        have cS := (hB.cell (p := ⟨w.heap.size + 1, 0, none⟩) (by show w.heap.size + 1 < _; omega)).trans HR3.out.1
        have fS := frozB hB (a := ⟨w.heap.size + 1, 0, none⟩) (by show w.heap.size + 1 < _; omega) HR3.out.2
        have hpc := fun w' (hb : Below W.heap.size W w') => HPC.out w' (hB.trans (hb.mono hB.size))
        have HB := boxed hB
        clear hB HPC
        have hnP : pre.length ≤ T.pcs.length := by rw [← hPl]; exact hpre.length_le
        obtain ⟨hGs, hGx⟩ := gt_pre hpre
        rw [HG.out] at hGs hGx
        generalize T.pcs.length = P at *
        generalize pre.length = n at *
        generalize gt pre = G at *
        subst hq
        have q1 : decide ((n : Int) ≤ (P : Int)) = true := decide_eq_true (by omega)
        have q1' : decide (n ≤ P) = true := decide_eq_true hnP
        have q2 : decide ((G.size : Int) ≤ (r.size : Int)) = true := decide_eq_true (by omega)
        have q2' : decide (G.size ≤ r.size) = true := decide_eq_true hGs
        gi_wp2_with fail
        refine wpIn_wide.2 ?_
        have HC : Box (∀ w', Below W.heap.size W w' → w'.cell? ⟨w3.heap.size, 0, none⟩ = some (.int .i64 (n : Nat)) ∧ w'.cell? ⟨w3.heap.size + 1, 0, none⟩ = some (.string G) ∧ w'.cell? ⟨w.heap.size + 1, 0, none⟩ = some (.bool false) ∧ w'.frozen? ⟨w.heap.size + 1, 0, none⟩ = false) := boxed (fun w' hb =>
          ⟨hold hb cn, hold hb cg, hold hb cS, frozB hb (by have := World.block_lt_of_cell? W _ cS; simpa using this) fS⟩)
        have HB0 : Box (Below W.heap.size W W.drew) := boxed (Below.refl _ _).drew
        have hne1 : (⟨w.heap.size + 1, 0, none⟩ : Addr).block ≠ (⟨w3.heap.size, 0, none⟩ : Addr).block := by show w.heap.size + 1 ≠ w3.heap.size; omega
        have hne2 : (⟨w.heap.size + 1, 0, none⟩ : Addr).block ≠ (⟨w3.heap.size + 1, 0, none⟩ : Addr).block := by show w.heap.size + 1 ≠ w3.heap.size + 1; omega
        clear cn cg cS fS cL fn fg
        go_region_held3 (fun w' => w'.cell? ⟨w3.heap.size, 0, none⟩ = some (.int .i64 (n : Nat)) ∧ w'.cell? ⟨w3.heap.size + 1, 0, none⟩ = some (.string G))
          (first | exact ⟨(HC.out _ HB5.out).1, (HC.out _ HB5.out).2.1⟩ | exact ⟨(HC.out _ HB0.out).1, (HC.out _ HB0.out).2.1⟩ | exact ⟨(World.cell?_setCell_far _ _ _ _ hne1).trans (HC.out _ HB5.out).1, (World.cell?_setCell_far _ _ _ _ hne2).trans (HC.out _ HB5.out).2.1⟩)
          (first | (go_at_call 25; refine (hpc _ HB0.out).mono ?_; rintro e w5 ⟨rfl, hb5⟩; clear hpc; have HB5 := boxed (HB0.out.trans (hb5.mono HB0.out.size)); clear hb5; have cS5 := (HC.out _ HB5.out).2.2.1; have fS5 := (HC.out _ HB5.out).2.2.2))
        gi_wp2
        have hDw : D < W.heap.size := (Array.getElem?_eq_some_iff.1 hK).1
        have hK5 : w5.heap[D]? = some (.deferred (some [])) := by rw [HB5.out.block D hDw]; exact hK
        have hK' := (KeepsOthers.setCell w5 ⟨w.heap.size + 1, 0, none⟩ (.bool true)).same D _ hK5 rfl
        have hc5 := cell_kept (World.cell?_setCell_same' w5 ⟨w.heap.size + 1, 0, none⟩ (.bool true) (by rw [cS5]; rfl)) (grownBy_putObj' _ D (.deferred none)) (fun r e => by cases e; exact ⟨_, hK', rfl⟩)
        refine ⟨by simp, .inl ⟨_, _, rfl, run_takeDeferred hK', ?_⟩⟩
        have hDz : w.heap.size ≤ D := by simp at hD; omega
        have hz3 := HB3.out.size
        have HW : Below w.heap.size w w5 := (HB3.out.trans (HB.out.mono hz3)).trans (HB5.out.mono (Nat.le_trans hz3 HB.out.size))
        refine ⟨.bool true, ?_, rfl, (HW.setCell (p := ⟨w.heap.size + 1, 0, none⟩) (by show w.heap.size ≤ w.heap.size + 1; omega) _).trans (belowK_b (w := w) (Nat.le_refl _) _ D _ _ hDz hK' rfl rfl)⟩
        simp [results, Try.f8, go_sem, hc5]
  · rw [decide_eq_false hr] at hri
    clear hN hr hO1
    gi_wp2_with fail
    refine ⟨trivial, (callsIn_wide.2 (awake_any _)).mono ?_⟩
    rintro e w1 ⟨rfl, hb1⟩
    have HB1 : Box (Below w.heap.size w w1) := boxed (((((Below.refl _ w).alloc (Nat.le_refl _) _).alloc (by simp) _).trans (hb1.mono (by simp; omega))))
    have z1 : w.heap.size + 2 ≤ w1.heap.size := by have := hb1.size; simp at this; omega
    have HR1 : Box (w1.cell? ⟨w.heap.size + 1, 0, none⟩ = some (.bool false) ∧ w1.frozen? ⟨w.heap.size + 1, 0, none⟩ = false) := boxed (by
      have := cellN (w.alloc (Obj.cells #[Value.int .i64 a2] 3)) (.bool false) 4
      rw [World.size_alloc] at this
      exact ⟨(hb1.cell (p := ⟨w.heap.size + 1, 0, none⟩) (by simp)).trans this.1, frozB hb1 (by simp) this.2⟩)
    clear hb1
    gi_wp2_with fail
    refine ⟨trivial, (callsIn_wide.2 (hri _)).mono ?_⟩
    rintro e w2 ⟨rfl, hb2⟩
    have HB2 := boxed (below_step HB1.out (Nat.le_refl _) hb2)
    have cS := (hb2.cell (p := ⟨w.heap.size + 1, 0, none⟩) (by show w.heap.size + 1 < _; omega)).trans HR1.out.1
    have fS := frozB hb2 (a := ⟨w.heap.size + 1, 0, none⟩) (by show w.heap.size + 1 < _; omega) HR1.out.2
    clear hb2 hri
    gi_wp2
    have hc5 := World.cell?_setCell_same' w2 ⟨w.heap.size + 1, 0, none⟩ (.bool true) (by rw [cS]; rfl)
    refine ⟨.bool true, ?_, rfl, HB2.out.setCell (p := ⟨w.heap.size + 1, 0, none⟩) (by show w.heap.size ≤ w.heap.size + 1; omega) _⟩
    simp [results, Try.f8, go_sem, hc5]
end Go.Proofs.Ytfikmlgmklnlaaa
