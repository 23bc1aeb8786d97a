/-
  What the program's whole answers: the pieces' texts, put together.
-/
import Derived.RangeFuncFrom
import Derived.Test.YtfikmlgmklnlaaaWh
namespace Go.Proofs.Ytfikmlgmklnlaaa
open Go.RowKit Go.Shelf
set_option linter.unusedSimpArgs false
set_option linter.unusedVariables false
attribute [local go_sem] Oper.semAt_some

/-- The bytes of texts, one behind the other. -/
def cat : List Ch → List UInt8
  | [] => []
  | c :: cs => c.1.data.toList ++ cat cs
theorem cat_app (a b : List Ch) : cat (a ++ b) = cat a ++ cat b := by
  induction a with
  | nil => rfl
  | cons c cs ih => simp [cat, ih]
theorem cat_len (a : List Ch) : (cat a).length ≤ a.length * 1048576 := by
  induction a with
  | nil => simp [cat]
  | cons c cs ih =>
    have := c.2
    have h : c.1.data.toList.length = c.1.size := by rw [Array.length_toList]; rfl
    simp only [cat, List.length_append, List.length_cons, h, Nat.add_mul]
    omega
theorem cat_pcs : ∀ ps : List Pc, (∀ p ∈ ps, p.l.length ≤ 1048576) → cat (ps.map fun p => toC p.l) = (flt ps).map (fun d => UInt8.ofNat d)
  | [], _ => rfl
  | p :: ps, h => by
    simp only [List.map_cons, cat, flt, List.map_append]
    rw [toC_val _ (h p List.mem_cons_self), cat_pcs ps (fun q hq => h q (List.mem_cons_of_mem _ hq))]
    simp [tx]
theorem len_flt : ∀ (ps : List Pc) (p : Pc), p ∈ ps → p.l.length ≤ (flt ps).length
  | q :: ps, p, h => by
    simp only [flt, List.length_append]
    rcases List.mem_cons.1 h with rfl | h
    · omega
    · have := len_flt ps p h; omega

theorem isBuilder_own (T B b : Nat) (f : List Ch → List Value) : Own (fun pre W => Lib.IsBuilderF T 5 B b (f pre) W) := by
  intro s A A' row hs hg hr
  have key : ∀ p, Lib.BuilderAtF T 5 B b p (f s) A → Lib.BuilderAtF T 5 B b p (f s) A' := by
    rintro p ⟨hB, v, hb, hown, hne⟩
    refine ⟨hB, v, ?_, hown.kept hg ?_, hne⟩
    · rw [grownBy_keeps_cells hg hr hb rfl]; exact hb
    · rcases hown.2 with ⟨rfl, _⟩ | ⟨g, cap, cur, fz, rfl, _, hgb, _⟩
      · exact .inl rfl
      · refine .inr fun e' => ?_
        obtain ⟨o, ho, hc⟩ := hr g (by simpa [Value.ownBlock] using e'.symm)
        rw [hgb] at ho; cases ho; cases hc
  rcases hs with h | h
  · exact .inl (key _ h)
  · exact .inr (key _ h)
theorem keeps_of {b : Nat} {W W' : World} {cs : Array Value} {t : TypeId} {fz : Nat × Nat} (h : Lib.OthersKept 5 (some b) W W') (hs : W.heap.size ≤ W'.heap.size) (hb : W.heap[b]? = some (.cells cs t fz)) : KeepsOthers W W' := by
  refine ⟨hs, fun k o hk hc => ?_⟩
  refine h k o hk (fun e => ?_) (fun c fz' e => ?_)
  · injection e with e; subst e; rw [hb] at hk; cases hk; cases hc
  · subst e; cases hc
theorem isF_block {T B b : Nat} {bs : List Value} {W : World} (h : Lib.IsBuilderF T 5 B b bs W) : ∃ cs fz, W.heap[b]? = some (.cells cs T fz) := by
  rcases h with ⟨_, v, hb, _⟩ | ⟨_, v, hb, _⟩ <;> exact ⟨_, _, hb⟩

set_option maxRecDepth 100000 in
set_option maxHeartbeats 4000000 in
theorem whole_in (p0 : Option Addr) (T : Tr) (S : Nat → Nat → Prop) (w : World) (hT : IsT S w p0 T) (hlen : T.flat.length ≤ 1048576) :
    CallsIn Fence.wide 5 Try.prog 30 #[.pointer p0] w fun e w' => e = .returned (.string (tx T.flat)) ∧ Below w.heap.size w w' := by
  have hro : (Fence.wide).round = none := rfl
  have hd : (Fence.wide).depth = none := rfl
  have hcat : Box (cat T.chs = (T.flat).map (fun d => UInt8.ofNat d)) := boxed (cat_pcs T.pcs (fun p hp => Nat.le_trans (len_flt _ p hp) hlen))
  have hN : T.chs.length ≤ 1048576 := by have := hT.nums.1; simp only [Tr.chs, List.length_map]; omega
  have htot := fun w' (hb : Below w.heap.size w w') => total_any S T p0 w' (hT.below hb)
  have hkp : Kp S (fun b _ => b < w.heap.size) w w := fun b i u hs hc => ⟨by have := World.block_lt_of_cell? w _ hc; simpa using this, hc⟩
  have hT2 := hT.keep hkp
  have hf0 := fld0
  generalize hL1 : T.flat.length = L1 at *
  generalize nl T.flat = L2 at *
  generalize T.pcs.length = L3 at *
  generalize T.dep = L4 at *
  refine callsIn_of_wp_marks Try.func30 rfl trivial ?_ hro
  simp only [Try.ntmps30, List.size_toArray, List.length_cons, List.length_nil, Nat.reduceAdd, Nat.reduceSub, Array.replicate_succ, Array.replicate_zero, List.push_toArray, List.append_toArray, List.nil_append, List.cons_append]
  gi_wp2_with fail
  refine ⟨trivial, (callsIn_wide.2 (htot _ ((Below.refl _ _).alloc (Nat.le_refl _) _))).mono ?_⟩
  rintro e w1 ⟨rfl, hb1⟩
  have hbk : w1.heap[w.heap.size]? = some (.cells #[.pointer none, .slice none 0 0] 84 (0, 0)) := by
    rw [hb1.block w.heap.size (by simp)]; exact heap_alloc_new w _
  have hz1 : w.heap.size < w1.heap.size := by have := hb1.size; simp at this; omega
  have HB1 : Box (Below w.heap.size w w1) := boxed (below_box (by simpa using hb1))
  clear hb1 htot
  gi_wp2_with fail
  refine ⟨trivial, (callsIn_wide.2 (Try.Builder_Grow_fresh w.heap.size w.heap.size L1 w1 (Nat.le_refl _) hbk (Nat.le_of_lt hz1) (by omega))).mono ?_⟩
  rintro e w2 ⟨rfl, hbu, hb2⟩
  have HB2 : Box (Below w.heap.size w w2) := boxed (HB1.out.trans hb2)
  have HU : Box (Lib.IsBuilderF 84 5 w.heap.size w.heap.size (Lib.byteCells (cat [])) w2) := boxed (.of (.inr hbu))
  have hz2 : w.heap.size < w2.heap.size := by have := hb2.size; omega
  clear hbu hb2 hbk
  gi_wp2_with fail
  refine ⟨trivial, (chunks_in Fence.wide _ trivial rfl p0 w2).mono ?_⟩
  rintro e w' ⟨rfl, rfl⟩
  have hB0 : Below w.heap.size w (w2.alloc (.cells #[.pointer p0] 59)) := HB2.out.alloc (by omega) _
  have hcb : (w2.alloc (.cells #[.pointer p0] 59)).cell? ⟨w2.heap.size, 0, none⟩ = some (.pointer p0) := cell_new _ _ _ _ _ rfl
  gi_wp2_with fail
  refine wpIn_rangeFunc_ownF hro (by omega : 1 ≤ 5) (gf := 56) (lb := #[.pointer (some ⟨w2.heap.size, 0, none⟩)]) rfl trivial (enters_of Try.func56 (by kernel_rfl) rfl)
    (chunks_stops Fence.wide hd (5 - 1) trivial trivial hro w2.heap.size w.heap.size p0 T _ (by simp) (by simp; omega) hcb (hT2.keep (kp_lt hB0)) (by omega)) belowK_t (belowK_b (by simp; omega)) (Below.refl _ _) (fun _ => rfl)
    (fun pre W => Lib.IsBuilderF 84 5 w.heap.size w.heap.size (Lib.byteCells (cat pre)) W ∧ Below w.heap.size w W)
    (fun _ _ _ => False)
    (OwnFrom.and (Own.from (isBuilder_own 84 w.heap.size w.heap.size (fun pre => Lib.byteCells (cat pre))) _) (ownFrom_below (Nat.le_refl _) (by simp; omega)))
    (fun _ _ _ _ _ hs _ _ => hs)
    ⟨Lib.IsBuilderF.alloc HU.out _, hB0⟩
    (fun x => { tmps := #[.pointer p0, undef, .string ⟨#[]⟩, .pointer (some ⟨w.heap.size, 0, none⟩), .string x.1, .pointer p0, .agg #[.int .i64 (L1 : Nat), .int .i64 (L2 : Nat), .int .i64 (L3 : Nat), .int .i64 (L4 : Nat)], .int .i64 (L1 : Nat), .tuple #[], .pointer p0, .func (.func 56) #[] #[.pointer (some ⟨w2.heap.size, 0, none⟩)], .string x.1, undef, undef, undef], defers := [] }) ?assign ?body ?done ?stop
  case assign =>
    intro l x W K hK
    gi_wp2
    exact hK
  case body =>
    rintro l pre x W ⟨hU, hB⟩ hlt
    have hcl := cat_len pre
    have hx := x.2
    gi_wp2_with fail
    refine ⟨trivial, (CallsIn.inRound l (callsIn_wide.2 (Try.Builder_WriteString_k w.heap.size w.heap.size (Lib.byteCells (cat pre)) x.1 W hU ?_ hB.size))).mono ?_⟩
    · rw [Lib.byteCells_length]; omega
    rintro e W1 ⟨rfl, hU1, hB1, hk1⟩
    obtain ⟨cs, fz, hblk⟩ := isF_block hU
    have HK := boxed (keeps_of hk1 hB1.size hblk)
    have HU1 : Box (Lib.IsBuilderF 84 5 w.heap.size w.heap.size (Lib.byteCells (cat (pre ++ [x]))) W1) := boxed (by
      rw [cat_app]
      have e1 : Lib.byteCells (cat pre ++ cat [x]) = Lib.byteCells (cat pre) ++ Lib.strCells x.1 := by simp [Lib.byteCells, Lib.strCells, cat]
      rw [e1]
      exact .inr hU1)
    have HB1 := boxed hB1
    have HBB := boxed (hB.trans hB1)
    clear hU hB hU1 hB1 hk1 hblk
    gi_wp2
    exact ⟨HK.out, HB1.out, HU1.out, HBB.out⟩
  case done =>
    rintro D ys W hD rfl ⟨hU, hB⟩ hK
    gi_wp2_with fail
    refine ⟨trivial, (callsIn_wide.2 (Try.Builder_String_any_k w.heap.size w.heap.size (cat T.chs) W hU hB.size)).mono ?_⟩
    rintro e W1 ⟨rfl, hU1, hB1, hk1⟩
    obtain ⟨cs, fz, hblk⟩ := isF_block hU
    have hK1 : W1.heap[D]? = some (.deferred (some [])) := hk1 D _ hK (fun e => by injection e with e; subst e; rw [hblk] at hK; cases hK) (fun c fz e => by cases e)
    have HB := boxed (hB.trans hB1)
    have hD' : w.heap.size ≤ D := by simp at hD; omega
    clear hU hB hU1 hB1 hk1 hblk
    gi_wp2
    refine ⟨by simp, .inl ⟨_, _, rfl, run_takeDeferred hK1, ?_⟩⟩
    refine ⟨_, results_tmp rfl _ _ _, ?_, HB.out.trans (belowK_b (w := w) (Nat.le_refl _) W1 D _ _ hD' hK1 rfl rfl)⟩
    show _ = Ending.returned (.string (tx T.flat))
    unfold tx
    rw [← hcat.out]
    rfl
  case stop =>
    rintro D c pre W _ _ h _
    exact h.elim

theorem whole_any (p0 : Option Addr) (T : Tr) (S : Nat → Nat → Prop) (w : World) (hT : IsT S w p0 T) (hlen : T.flat.length ≤ 1048576) :
    Calls Try.prog 30 #[.pointer p0] w fun e w' => e = .returned (.string (tx T.flat)) ∧ Below w.heap.size w w' :=
  callsIn_wide.1 (whole_in p0 T S w hT hlen)
end Go.Proofs.Ytfikmlgmklnlaaa
