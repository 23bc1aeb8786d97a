/-
  What the program's all answers: has a part one style throughout?
-/
import Derived.Test.YtdchpiihjjjpfabLg
namespace Go.Proofs.Ytdchpiihjjjpfab
open Go.RowKit Go.Shelf
set_option linter.unusedSimpArgs false
set_option linter.unusedVariables false
attribute [local go_sem] Oper.semAt_some

/-- What holds ahead of a round of all; how it is left. -/
def Av (w : World) (st : Int) (pre : List X) (W : World) : Prop := (W.heap[w.heap.size]? = some (.cells #[.int .i64 st] 3 (0, 0)) ∧ W.heap[w.heap.size + 1]? = some (.cells #[.bool false] 4 (0, 0)) ∧ ∀ x ∈ pre, x.1.2.2 = st) ∧ Below w.heap.size w W
def Ax0 (w : World) (st : Int) (c : Code) (pre : List X) (W : World) : Prop := (c = .ret ∧ W.heap[w.heap.size + 1]? = some (.cells #[.bool false] 4 (0, 0)) ∧ ∃ x ∈ pre, x.1.2.2 ≠ st) ∧ Below w.heap.size w W
theorem Av.own (w : World) (st : Int) (B : Nat) (hB : w.heap.size ≤ B) : OwnFrom B (Av w st) := by
  rintro pre W W' row ⟨⟨h1, h2, h4⟩, h3⟩ hg hr
  exact ⟨⟨blk_turn h1 hg (fun r e => (hr r e).2), blk_turn h2 hg (fun r e => (hr r e).2), h4⟩, h3.grown hg h3.size (fun r e => by have := (hr r e).1; omega)⟩
theorem Ax0.own (w : World) (st : Int) (c : Code) (B : Nat) (hB : w.heap.size ≤ B) : OwnFrom B (Ax0 w st c) := by
  rintro pre W W' row ⟨⟨h1, h2, h4⟩, h3⟩ hg hr
  exact ⟨⟨h1, blk_turn h2 hg (fun r e => (hr r e).2), h4⟩, h3.grown hg h3.size (fun r e => by have := (hr r e).1; omega)⟩
theorem mem_flat (R : List (Nat × Int)) (hc : Can R) (y : Int) : y ∈ flat R ↔ ∃ p ∈ R, p.2 = y := by
  induction R with
  | nil => simp [flat]
  | cons p r ih =>
    obtain ⟨h1, _, h3⟩ := hc
    simp only [flat, List.mem_append, List.mem_replicate, List.mem_cons, ih h3]
    constructor
    · rintro (⟨_, rfl⟩ | ⟨q, hq, rfl⟩)
      · exact ⟨p, .inl rfl, rfl⟩
      · exact ⟨q, .inr hq, rfl⟩
    · rintro ⟨q, rfl | hq, rfl⟩
      · exact .inl ⟨by omega, rfl⟩
      · exact .inr ⟨q, hq, rfl⟩
theorem gv_mem {s : List Int} (h : Sok s) (a b : Nat) (hab : a ≤ b) (hb : b ≤ s.length) (hl : s.length ≤ 65536) (y : Int) : y ∈ sub s a b ↔ ∃ x ∈ gv s a b, x.1.2.2 = y := by
  have e := gv_rof h a b hab hb hl
  have h1 := mem_flat (enc (sub s a b)) (can_enc _) y
  rw [flat_enc, ← e] at h1
  rw [h1]
  unfold rof
  simp only [List.mem_map]
  constructor
  · rintro ⟨p, ⟨x, hx, rfl⟩, rfl⟩; exact ⟨x, hx, rfl⟩
  · rintro ⟨x, hx, rfl⟩; exact ⟨_, ⟨x, hx, rfl⟩, rfl⟩

set_option maxRecDepth 100000 in
set_option maxHeartbeats 4000000 in
theorem all_in {w : World} {lb : Nat} {ao : Option Addr} {cap : Nat} {s : List Int} {bare : Int} (h : ListAt w lb ao cap s bare) (a b : Nat) (hab : a ≤ b) (hb : b ≤ s.length) (st : Int) :
    CallsIn Fence.wide 5 Try.prog 40 #[.pointer (some ⟨lb, 0, none⟩), .int .i64 (a : Nat), .int .i64 (b : Nat), .int .i64 st] w fun e w' => ∃ r, e = .returned (.bool r) ∧ (r = true ↔ ∀ y ∈ sub s a b, y = st) ∧ Below w.heap.size w w' := by
  have hro : (Fence.wide).round = none := rfl
  have hd : (Fence.wide).depth = none := rfl
  have c0 := h.c0
  have hlt := h.lt
  have hne : lb ≠ w.heap.size := by omega
  have hne2 : lb ≠ w.heap.size + 1 := by omega
  have hl := h.len
  have HS := boxed h.ok
  have HP := boxed h.pts
  clear h
  refine callsIn_of_wp_marks Try.func40 rfl trivial ?_ hro
  simp only [Try.ntmps40, List.size_toArray, List.length_cons, List.length_nil, Nat.reduceAdd, Nat.reduceSub, Array.replicate_succ, Array.replicate_zero, List.push_toArray, List.append_toArray, List.nil_append, List.cons_append]
  gi_wp2_with fail
  refine ⟨trivial, (between_in _ ao (enc s).length cap _ _ _).mono ?_⟩
  rintro e w' ⟨rfl, hw'⟩
  gi_wp2_with fail
  clear hw'
  generalize hw3 : (((((w.alloc (Obj.cells #[Value.int IntKind.i64 st] 3)).alloc (Obj.cells #[Value.bool false] 4)).alloc (Obj.cells #[Value.slice ao (enc s).length cap] 55)).alloc (Obj.cells #[Value.int IntKind.i64 (a : Nat)] 3)).alloc (Obj.cells #[Value.int IntKind.i64 (b : Nat)] 3)) = w3
  have hz3 : w3.heap.size = w.heap.size + 5 := by rw [← hw3]; simp
  have HB3 : Box (Below w.heap.size w w3) := boxed (by rw [← hw3]; exact ((((((Below.refl _ w).alloc (Nat.le_refl _) _).alloc (by simp) _).alloc (by simp; omega) _).alloc (by simp; omega) _).alloc (by simp; omega) _))
  have HV3 : Vw w.heap.size (w.heap.size + 1 + 1 + 1) (w.heap.size + 1 + 1) (w.heap.size + 1 + 1 + 2) ao cap s a b w3 := by
    have h3 := heap3 ((w.alloc (Obj.cells #[Value.int IntKind.i64 st] 3)).alloc (Obj.cells #[Value.bool false] 4)) (Obj.cells #[Value.slice ao (enc s).length cap] 55) (Obj.cells #[Value.int IntKind.i64 (a : Nat)] 3) (Obj.cells #[Value.int IntKind.i64 (b : Nat)] 3)
    rw [World.size_alloc, World.size_alloc, hw3] at h3
    exact ⟨h3.2.1, h3.1, h3.2.2, HP.out.keep (fun k i u hs hc => ⟨World.block_lt_of_cell? w ⟨k, i, none⟩ hc, hold HB3.out hc⟩)⟩
  have HT3 : Av w st [] w3 := by
    refine ⟨⟨?_, ?_, by simp⟩, HB3.out⟩
    · rw [← hw3, Below.heap_alloc _ _ _ (by simp; omega), Below.heap_alloc _ _ _ (by simp; omega), Below.heap_alloc _ _ _ (by simp; omega), Below.heap_alloc _ _ _ (by simp)]
      exact heap_alloc_new w _
    · rw [← hw3, Below.heap_alloc _ _ _ (by simp <;> omega), Below.heap_alloc _ _ _ (by simp <;> omega), Below.heap_alloc _ _ _ (by simp)]
      have := heap_alloc_new (w.alloc (Obj.cells #[Value.int IntKind.i64 st] 3)) (Obj.cells #[Value.bool false] 4)
      rwa [World.size_alloc] at this
  clear hw3
  refine wp_btw w.heap.size (w.heap.size + 1 + 1 + 1) (w.heap.size + 1 + 1) (w.heap.size + 1 + 1 + 2) ao cap s a b hab hb hl HS.out rfl HV3 (by omega) rfl
    (Av w st) (Ax0 w st) (Av.own w st _ (by omega)) (fun c => Ax0.own w st c _ (by omega)) HT3
    (fun x a' W => ∃ rb, a' = { tmps := #[.pointer (some ⟨lb, 0, none⟩), .int .i64 (a : Nat), .int .i64 (b : Nat), .int .i64 st, undef, undef, undef, .pointer (some ⟨w.heap.size, 0, none⟩), .pointer (some ⟨w.heap.size + 1, 0, none⟩), undef, .pointer (some ⟨rb, 0, none⟩), .pointer (some ⟨lb, 0, none⟩), .pointer (some ⟨lb, 0, none⟩), .pointer (some ⟨lb, 0, none⟩), .slice ao (enc s).length cap, .int .i64 (a : Nat), .int .i64 (b : Nat),
      .func (.func 42) #[] #[.pointer (some ⟨w.heap.size + 1 + 1 + 1, 0, none⟩), .pointer (some ⟨w.heap.size + 1 + 1, 0, none⟩), .pointer (some ⟨w.heap.size + 1 + 1 + 2, 0, none⟩)], .int .i64 (x.1.1 : Nat), .agg #[.int .i64 (x.1.2.1 : Nat), .int .i64 x.1.2.2], undef, undef, undef, undef], defers := [] } ∧ W.heap[rb]? = some (.cells #[.int .i64 (x.1.2.1 : Nat), .int .i64 x.1.2.2] 25 (0, 0)))
    (fun x a' _ W W' row h hg hr => by obtain ⟨rb, e, hb⟩ := h; exact ⟨rb, e, blk_turn hb hg (fun r e => (hr r e).2)⟩) ?assign ?body ?done ?stop
  case assign =>
    intro l pre x W K hI hV hK
    have HI := boxed hI
    have HVx := boxed hV
    have HKx := boxed hK
    clear hI hV hK
    gi_wp2
    obtain ⟨⟨hv, hv2, hall⟩, hB⟩ := HI.out
    have hBA := (Below.refl W.heap.size W).alloc (Nat.le_refl _) (Obj.cells #[Value.int IntKind.i64 (x.1.2.1 : Nat), Value.int IntKind.i64 x.1.2.2] 25)
    exact HKx.out _ _ ((KeepsOthers.alloc _ _).from _) (HVx.out.below hBA) ⟨⟨by rw [hBA.block _ (Array.getElem?_eq_some_iff.1 hv).1]; exact hv, by rw [hBA.block _ (Array.getElem?_eq_some_iff.1 hv2).1]; exact hv2, hall⟩, hB.alloc hB.size _⟩ ⟨W.heap.size, rfl, heap_alloc_new _ _⟩
  case body =>
    rintro l pre x a' W hl' ⟨⟨hv, hv2, hall⟩, hB⟩ hV ⟨rb, rfl, hrb⟩ hlt'
    have cv := cell_one hv
    have cv2 := cell_one hv2
    have fv2 := frz_one hv2
    have cr0 : W.cell? ⟨rb, 0, none⟩ = some (.int .i64 (x.1.2.1 : Nat)) := by simp [World.cell?, hrb]
    have cr1 : W.cell? ⟨rb, 1, none⟩ = some (.int .i64 x.1.2.2) := by simp [World.cell?, hrb]
    have HVx := boxed hV
    have HH := boxed (And.intro hv hv2)
    have HA := boxed hall
    have HBx := boxed hB
    clear hV hv hv2 hB hrb hall
    by_cases hx : x.1.2.2 = st
    · have hx' : (x.1.2.2 == st) = true := by simpa using hx
      gi_wp2
      exact ⟨KeepsFrom.refl _ _, HVx.out, ⟨HH.out.1, HH.out.2, fun y hy => by rcases List.mem_append.1 hy with h | h; exact HA.out y h; simp at h; subst h; exact hx⟩, HBx.out⟩
    · have hx' : (x.1.2.2 == st) = false := by simpa using hx
      gi_wp2
      exact ⟨(KeepsOthers.setCell _ _ _).from _, ⟨rfl, set_one HH.out.2, x, by simp, hx⟩, HBx.out.setCell (p := ⟨w.heap.size + 1, 0, none⟩) (by show w.heap.size ≤ w.heap.size + 1; omega) _⟩
  case done =>
    rintro D W hD ⟨⟨hv, hv2, hall⟩, hB⟩ hV hK
    have cv2 := cell_one hv2
    have fv2 := frz_one hv2
    have HBx := boxed hB
    have HR : Box (∀ y ∈ sub s a b, y = st) := boxed (fun y hy => by
      obtain ⟨x, hx, rfl⟩ := (gv_mem HS.out a b hab hb hl y).1 hy
      exact hall x hx)
    clear hB hV hall
    gi_wp2
    have hK' := (KeepsOthers.setCell W ⟨w.heap.size + 1, 0, none⟩ (.bool true)).same D _ hK rfl
    refine ⟨by simp, .inl ⟨_, _, rfl, run_takeDeferred hK', ?_⟩⟩
    have hc5 := cell_kept (World.cell?_setCell_same' W ⟨w.heap.size + 1, 0, none⟩ (.bool true) (by rw [cv2]; rfl)) (grownBy_putObj' _ D (.deferred none)) (fun r e => by cases e; exact ⟨_, hK', rfl⟩)
    refine ⟨.bool true, ?_, true, rfl, ⟨fun _ => HR.out, fun _ => rfl⟩, (HBx.out.setCell (p := ⟨w.heap.size + 1, 0, none⟩) (by show w.heap.size ≤ w.heap.size + 1; omega) _).trans (belowK_b (w := w) (Nat.le_refl _) _ D _ _ (by omega) hK' rfl rfl)⟩
    simp [results, Try.f40, go_sem, hc5]
  case stop =>
    rintro D c pre W hD hpre ⟨⟨rfl, hv2, x, hx, hne⟩, hB⟩ hK
    have cv2 := cell_one hv2
    have HR : Box (¬ ∀ y ∈ sub s a b, y = st) := boxed (fun h => hne (h _ ((gv_mem HS.out a b hab hb hl _).2 ⟨x, hpre.subset hx, rfl⟩)))
    gi_wp2
    refine ⟨by simp, .inl ⟨_, _, rfl, run_takeDeferred hK, ?_⟩⟩
    have hc5 := cell_kept cv2 (grownBy_putObj' _ D (.deferred none)) (fun r e => by cases e; exact ⟨_, hK, rfl⟩)
    refine ⟨.bool false, ?_, false, rfl, ⟨(fun h => by cases h), (fun h => absurd h HR.out)⟩, hB.trans (belowK_b (w := w) (Nat.le_refl _) W D _ _ (by omega) hK rfl rfl)⟩
    simp [results, Try.f40, go_sem, hc5]

theorem all_any {w : World} {lb : Nat} {ao : Option Addr} {cap : Nat} {s : List Int} {bare : Int} (h : ListAt w lb ao cap s bare) (a b : Nat) (hab : a ≤ b) (hb : b ≤ s.length) (st : Int) :
    Calls Try.prog 40 #[.pointer (some ⟨lb, 0, none⟩), .int .i64 (a : Nat), .int .i64 (b : Nat), .int .i64 st] w fun e w' => ∃ r, e = .returned (.bool r) ∧ (r = true ↔ ∀ y ∈ sub s a b, y = st) ∧ Below w.heap.size w w' :=
  callsIn_wide.1 (all_in h a b hab hb st)
end Go.Proofs.Ytdchpiihjjjpfab
