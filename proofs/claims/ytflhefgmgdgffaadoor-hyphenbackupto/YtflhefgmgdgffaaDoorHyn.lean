/-
  What the program's mayLeave and newTree answer; the words of which hyphens are known, in a map; a book.
-/
import Derived.Test.YtflhefgmgdgffaaDoorHym
namespace Go.Proofs.YtflhefgmgdgffaaDoor
open Go.RowKit Go.Maps
set_option linter.unusedSimpArgs false
set_option linter.unusedVariables false

/-- May so many runes be left? -/
def mayL (n : Int) : Bool := decide (1 ≤ n) && decide (n ≤ 100)
set_option maxRecDepth 100000 in
theorem may_any (n : Int) (w : World) : Calls Tryd.prog 28 #[.int .i64 n] w fun e w' => e = .returned (.bool (mayL n)) ∧ w' = w := by
  unfold mayL
  by_cases h1 : 1 ≤ n
  all_goals
    by_cases h2 : n ≤ 100
    all_goals
      go_enter Tryd.func28, Tryd.ntmps28
      go_wp2
      go_ret
      exact ⟨ret_bool (by simp [h1, h2]), rfl⟩
theorem er_root (a v : Value) : ER [[]] a v ↔ False := by
  constructor
  · rintro ⟨f, c, t, p, -, -, -, h⟩
    have := nd_lt h
    simp at this
    subst this
    simp at h
  · exact False.elim
theorem lr_root (a v : Value) : LR [[]] [] a v ↔ False := by
  constructor
  · rintro ⟨t, p, -, -, h⟩; simp [lookL] at h
  · exact False.elim
set_option maxRecDepth 100000 in
set_option maxHeartbeats 1000000 in
theorem newtree_any (w : World) : Calls Tryd.prog 29 #[] w fun e w' => ∃ eb lb : Nat, e = .returned (.agg #[.map (some eb), .map (some lb)]) ∧ w.heap.size ≤ eb ∧ w.heap.size ≤ lb ∧ TrAt w' eb lb [[]] [] ∧ Below w.heap.size w w' := by
  have l0 := laid1 w (.cells #[.map (some (w.heap.size + 1)), .map (some (w.heap.size + 1 + 1))] 62)
  have l2 := laid2 (w.alloc (.cells #[.map (some (w.heap.size + 1)), .map (some (w.heap.size + 1 + 1))] 62)) (.map #[] 0) (.map #[] 0)
  rw [l0.2.2] at l2
  have HB : Box (Below w.heap.size w (((w.alloc (.cells #[.map (some (w.heap.size + 1)), .map (some (w.heap.size + 1 + 1))] 62)).alloc (.map #[] 0)).alloc (.map #[] 0))) := boxed (below_step l0.2.1 (Nat.le_refl _) ((l2.2.2.1).mono (by omega)))
  have HT : Box (TrAt (((w.alloc (.cells #[.map (some (w.heap.size + 1)), .map (some (w.heap.size + 1 + 1))] 62)).alloc (.map #[] 0)).alloc (.map #[] 0)) (w.heap.size + 1) (w.heap.size + 1 + 1) [[]] []) := boxed ⟨tr_new,
    ⟨#[], 0, l2.1, rfl, by simp, fun a v h => ((er_root a v).1 h).elim, by simp⟩,
    ⟨0, #[], 0, l2.2.1, rfl, by simp, fun a v h => ((lr_root a v).1 h).elim, by simp⟩, by simp, by omega⟩
  clear l0 l2
  have hmk : ∀ (ty : TypeId) (W : World), (Instr.makeMap ty none).run Tryd.prog W = .ok (.map (some W.heap.size)) (W.alloc (.map #[] 0)) := fun ty W => by rfl
  go_enter Tryd.func29, Tryd.ntmps29
  go_wp2_with fail
  refine bodyPost_ret (v := .agg #[.map (some (w.heap.size + 1)), .map (some (w.heap.size + 1 + 1))]) (by simp [results, Tryd.results29, go_sem]) rfl ⟨w.heap.size + 1, w.heap.size + 1 + 1, rfl, by omega, by omega, HT.out, HB.out⟩

/-! ### Known words -/
def WR (Y : List (List Nat × Value)) (a v : Value) : Prop := ∃ x, a = .string (encT x) ∧ lookL Y x = some v
theorem wr_iff {Y : List (List Nat × Value)} (hY : ∀ e ∈ Y, ∀ c ∈ e.1, isR (c : Int) = true) {L : List Nat} (hL : ∀ c ∈ L, isR (c : Int) = true) (v : Value) : WR Y (.string (encT L)) v ↔ lookL Y L = some v := by
  constructor
  · rintro ⟨x, e, h⟩
    injection e with e
    rw [encT_inj hL (hY _ (lookL_mem Y x v h)) e]; exact h
  · intro h; exact ⟨L, rfl, h⟩
theorem wr_put {Y : List (List Nat × Value)} (hY : ∀ e ∈ Y, ∀ c ∈ e.1, isR (c : Int) = true) {L : List Nat} (hL : ∀ c ∈ L, isR (c : Int) = true) (u a v : Value) : WR (Y ++ [(L, u)]) a v ↔ rput (WR Y) (.string (encT L)) u a v := by
  constructor
  · rintro ⟨x, rfl, h⟩
    rw [lookL_snoc] at h
    by_cases c : L = x
    · subst c; simp at h; exact .inl ⟨rfl, h.symm⟩
    · simp only [c, if_false] at h
      refine .inr ⟨fun e => ?_, x, rfl, h⟩
      injection e with e
      exact c (encT_inj hL (hY _ (lookL_mem Y x v h)) e.symm)
  · rintro (⟨rfl, rfl⟩ | ⟨hne, x, rfl, h⟩)
    · exact ⟨L, rfl, by rw [lookL_snoc]; simp⟩
    · refine ⟨x, rfl, ?_⟩
      rw [lookL_snoc, if_neg, h]
      intro e; subst e; exact hne rfl
/-- The known words are such, and their hyphens can be read. -/
def YOk (w : World) (Y : ZL) : Prop := ∀ e ∈ Y, e.1 ≠ [] ∧ (∀ c ∈ e.1, isR (c : Int) = true) ∧ e.2.1.Pairwise (· < ·) ∧ (∀ a ∈ e.2.1, a < e.1.length) ∧ e.1.length ≤ 256 ∧ ∃ B, w.ownsRow B 3 1 e.2.2 e.2.1.length (vals e.2.1)
theorem YOk.below {w w' : World} {Y : ZL} (h : YOk w Y) (hb : Below w.heap.size w w') : YOk w' Y := fun e he => by
  obtain ⟨h1, h2, h3, h4, h5, B, h6⟩ := h e he
  exact ⟨h1, h2, h3, h4, h5, B, owns_below h6 hb⟩
theorem YOk.isr {w : World} {Y : ZL} (h : YOk w Y) : ∀ e ∈ zV Y, ∀ c ∈ e.1, isR (c : Int) = true := fun e he => by
  obtain ⟨x, hx, rfl⟩ := List.mem_map.1 he
  exact (h x hx).2.1
/-- A book as it lies in memory: what it was made of. -/
structure BkAt (w : World) (bp eb lb wb : Nat) (l r : Nat) (Nd : List (List Nat)) (Z Y : ZL) : Prop where
  box : w.heap[bp]? = some (.cells #[.int .i64 (l : Int), .int .i64 (r : Int), .map (some eb), .map (some lb), .map (some wb)] 65 (0, 0))
  tr : TrAt w eb lb Nd (zV Z)
  zok : ZOk w Z
  small : Nd.length ≤ 900000
  words : ∃ n, MapR Tryd.prog 9 w wb n (WR (zV Y))
  yok : YOk w Y
theorem BkAt.below {w w' : World} {bp eb lb wb l r : Nat} {Nd : List (List Nat)} {Z Y : ZL} (h : BkAt w bp eb lb wb l r Nd Z Y) (hb : Below w.heap.size w w') : BkAt w' bp eb lb wb l r Nd Z Y :=
  ⟨(hb.block _ (heap_lt h.box)).trans h.box, h.tr.below hb, h.zok.below hb, h.small, h.words.imp fun n hn => hn.keep (hb.block _ hn.lt), h.yok.below hb⟩
/-- Texts as they lie in memory. -/
def StrsAt (w : World) (ao : Option Addr) (n : Nat) (S : Nat → ByteArray) : Prop := (n = 0 ∨ ∃ b off, ao = some ⟨b, off, none⟩ ∧ b < w.heap.size ∧ ∀ i, i < n → w.cell? ⟨b, off + i, none⟩ = some (.string (S i))) ∧ ∀ i, i < n → (S i).size ≤ 1048576
theorem StrsAt.below {w w' : World} {ao : Option Addr} {n : Nat} {S : Nat → ByteArray} (h : StrsAt w ao n S) (hb : Below w.heap.size w w') : StrsAt w' ao n S := by
  obtain ⟨h, h2⟩ := h
  refine ⟨?_, h2⟩
  rcases h with h | ⟨b, off, h1, h3, h4⟩
  · exact .inl h
  · exact .inr ⟨b, off, h1, Nat.lt_of_lt_of_le h3 hb.size, fun i hi => hold hb (h4 i hi)⟩
/-- What the texts are as patterns, as words. -/
def qS (S : Nat → ByteArray) (n : Nat) : PL := (List.range n).map fun i => (patT (S i)).getD default
def yS (S : Nat → ByteArray) (n : Nat) : PL := (List.range n).map fun i => (wordT (S i)).getD default
theorem qS_succ (S : Nat → ByteArray) (n : Nat) {P V : List Nat} (h : patT (S n) = some (P, V)) : qS S (n + 1) = qS S n ++ [(P, V)] := by
  unfold qS; rw [List.range_succ, List.map_append]; simp [h]
theorem yS_succ (S : Nat → ByteArray) (n : Nat) {P V : List Nat} (h : wordT (S n) = some (P, V)) : yS S (n + 1) = yS S n ++ [(P, V)] := by
  unfold yS; rw [List.range_succ, List.map_append]; simp [h]
end Go.Proofs.YtflhefgmgdgffaaDoor
