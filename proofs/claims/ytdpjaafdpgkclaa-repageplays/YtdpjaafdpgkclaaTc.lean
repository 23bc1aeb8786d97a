/-
  Steps of a walk over rows of lines: copy, clear, append; parts of rows; lines that lie apart.
-/
import Derived.Test.YtdpjaafdpgkclaaTb
namespace Go.Proofs.Ytdpjaafdpgkclaa
open Go.RowKit
set_option linter.unusedSimpArgs false
set_option linter.unusedVariables false

theorem splice_len {α : Type} (L : List α) (o : Nat) (V : List α) (h : o + V.length ≤ L.length) : (splice L o V).length = L.length := length_splice L o V h
theorem splice_take {α : Type} (L : List α) (a : Nat) (V : List α) (h : a + V.length ≤ L.length) : (splice L a V).take (a + V.length) = L.take a ++ V := by
  unfold splice
  rw [← List.append_assoc, List.take_append_of_le_length (by simp; omega)]
  exact List.take_of_length_le (by simp only [List.length_append, List.length_take]; omega)
theorem splice_low {α : Type} (L : List α) (o k : Nat) (V : List α) (hk : k ≤ o) (h : o ≤ L.length) : (splice L o V).take k = L.take k := by
  unfold splice
  rw [List.take_append_of_le_length (by simp; omega), List.take_take, Nat.min_eq_left hk]
theorem splice_two {α : Type} (L : List α) (a : Nat) (V T : List α) (h : a + V.length + T.length ≤ L.length) : (splice (splice L a V) (a + V.length) T).take (a + V.length + T.length) = L.take a ++ (V ++ T) := by
  rw [splice_take _ _ _ (by rw [splice_len L a V (by omega)]; omega), splice_take L a V (by omega), List.append_assoc]
theorem splice_swap {α : Type} (L : List α) (a : Nat) (V T : List α) (h : a + V.length + T.length ≤ L.length) : (splice (splice L (a + V.length) T) a V).take (a + V.length + T.length) = L.take a ++ (V ++ T) := by
  have e1 : (splice L (a + V.length) T).take a = L.take a := splice_low L _ a T (by omega) (by omega)
  have e2 : ((splice L (a + V.length) T).drop (a + V.length)).take T.length = T := by
    unfold splice
    have hl : (L.take (a + V.length)).length = a + V.length := by simp; omega
    rw [List.drop_append_of_le_length (by omega), List.drop_of_length_le (by omega), List.nil_append, List.take_left]
  show ((splice L (a + V.length) T).take a ++ (V ++ (splice L (a + V.length) T).drop (a + V.length))).take (a + V.length + T.length) = _
  rw [e1]
  have hl : (L.take a).length = a := by simp; omega
  have : a + V.length + T.length = (L.take a).length + (V.length + T.length) := by omega
  rw [this, List.take_length_add_append, List.take_length_add_append, e2]
/-- What lies behind a place is there still when something was laid ahead of it. -/
theorem splice_get {α : Type} (L : List α) (o j : Nat) (V : List α) (h : o + V.length ≤ j) (hL : o + V.length ≤ L.length) : (splice L o V)[j]? = L[j]? := by
  unfold splice
  have hl : (L.take o).length = o := by simp; omega
  rw [List.getElem?_append_right (by omega), hl, List.getElem?_append_right (by omega), List.getElem?_drop]
  congr 1
  omega
theorem row_cell {w : World} {g : Nat} {L : List Value} {t : TypeId} (h : w.heap[g]? = some (.cells L.toArray t (0, 0))) (j : Nat) : w.cell? ⟨g, j, none⟩ = L[j]? := by
  rw [cell_of_row _ _ _ _ _ _ h]; simp
/-- An owned row, laid open. -/
theorem own_row {w : World} {B n : Nat} {v : Value} {F : Nat → Slt} (h : w.ownsRow B 69 4 v n (scs F n)) : (v = .slice none 0 0 ∧ n = 0) ∨ ∃ (g cap : Nat) (L : List Value), v = .slice (some ⟨g, 0, none⟩) n cap ∧ B ≤ g ∧ w.heap[g]? = some (.cells L.toArray 69 (0, 0)) ∧ n ≤ cap ∧ cap ≤ maxLen ∧ L.length = cap * 4 ∧ L.take (n * 4) = scs F n := by
  rcases h.2 with h | ⟨g, cap, cur, h1, h2, h3, h4, h5, h6, h7⟩
  · exact .inl h
  · exact .inr ⟨g, cap, cur.toList, h1, h2, by simpa using h3, h4, h5, by simpa using h6, h7⟩
theorem own_mk {w : World} {B n g cap : Nat} {L : List Value} {F : Nat → Slt} (hB : B ≤ g) (hg : w.heap[g]? = some (.cells L.toArray 69 (0, 0))) (hn : n ≤ cap) (hc : cap ≤ maxLen) (hl : L.length = cap * 4) (ht : L.take (n * 4) = scs F n) : w.ownsRow B 69 4 (.slice (some ⟨g, 0, none⟩) n cap) n (scs F n) :=
  ⟨scs_len F n, .inr ⟨g, cap, L.toArray, rfl, hB, hg, hn, hc, by simpa using hl, by simpa using ht⟩⟩
theorem grown_drew (w : World) (n : Nat) (r : Option Nat) : w.grownBy (w.drewN n) r := ⟨rfl, rfl, rfl, Nat.le_refl _, fun _ _ _ => rfl⟩

/-! ### The operations -/
section
variable {w : World} {ops : Array Oper} {rest : List Oper} {o : Oper} {a : Act} {K : Act → World → Prop} {Q : Exit → Act → World → Prop} {E : Prop}
theorem wpList_copyW (hgd : o.guard = none) (d s : Operand) (ho : o.op = .call { callee := .builtin .copy, args := #[d, s], argTypes := #[22, 22] })
    (dp sp : Option Addr) (dLen dCap sLen sCap : Nat) (hd : a.eval d = .slice dp dLen dCap) (hs : a.eval s = .slice sp sLen sCap)
    (g off k : Nat) (cur cs : List Value) (hg : w.heap[g]? = some (.cells cur.toArray 69 (0, 0)))
    (hk : Nat.min sLen dLen = k) (hl : cs.length = k * 4) (hpos : 0 < k → dp = some ⟨g, off, none⟩ ∧ ∃ b o, sp = some ⟨b, o, none⟩ ∧ ∀ j v, cs[j]? = some v → w.cell? ⟨b, o + j, none⟩ = some v) (hfit : off + cs.length ≤ cur.length) (h1 : ∀ v ∈ cs, v.oneCell' = true)
    (h : ∀ w', Box (w'.heap[g]? = some (.cells (splice cur off cs).toArray 69 (0, 0))) → Box (w.grownBy w' (some g)) → wpList Try.prog ops Q rest (a.put o.dst (goInt k)) w') : wpList Try.prog ops Q (o :: rest) a w := by
  obtain ⟨w', hr, h2, h3⟩ := run_copyW w o.type dp sp dLen dCap sLen sCap g off k cur cs hg hk hl hpos hfit h1
  refine wpList_plain hgd fun K hK => ?_
  unfold Oper.wp execOp
  simp only [ho, resolve, invoke, builtin, Sem.run_bind, Sem.run_pure, Result.andThen_ok, List.map_toArray, List.map_cons, List.map_nil, hd, hs, hr]
  exact hK _ _ (h w' (boxed h2) (boxed h3))
theorem step_copyW (hgd : o.guard = none) (d s : Operand) (ho : o.op = .call { callee := .builtin .copy, args := #[d, s], argTypes := #[22, 22] })
    (dp sp : Option Addr) (dLen dCap sLen sCap : Nat) (hd : a.eval d = .slice dp dLen dCap) (hs : a.eval s = .slice sp sLen sCap)
    (g off k : Nat) (cur cs : List Value) (hg : w.heap[g]? = some (.cells cur.toArray 69 (0, 0)))
    (hk : Nat.min sLen dLen = k) (hl : cs.length = k * 4) (hpos : 0 < k → dp = some ⟨g, off, none⟩ ∧ ∃ b o, sp = some ⟨b, o, none⟩ ∧ ∀ j v, cs[j]? = some v → w.cell? ⟨b, o + j, none⟩ = some v) (hfit : off + cs.length ≤ cur.length) (h1 : ∀ v ∈ cs, v.oneCell' = true)
    (h : ∀ w', Box (w'.heap[g]? = some (.cells (splice cur off cs).toArray 69 (0, 0))) → Box (w.grownBy w' (some g)) → K (a.put o.dst (goInt k)) w') : if Region.wanted o (yielded ops a.tmps) = true then Oper.wp Try.prog o a w K Q else E := by
  have hw : Region.wanted o (yielded ops a.tmps) = true := by simp [Region.wanted, hgd]
  rw [if_pos hw]
  obtain ⟨w', hr, h2, h3⟩ := run_copyW w o.type dp sp dLen dCap sLen sCap g off k cur cs hg hk hl hpos hfit h1
  unfold Oper.wp
  simp [execOp, ho, resolve, invoke, builtin, hd, hs, hr, Result.andThen]
  exact h w' (boxed h2) (boxed h3)
theorem wpList_clearW (hgd : o.guard = none) (d : Operand) (ho : o.op = .call { callee := .builtin .clear, args := #[d], argTypes := #[22] })
    (dp : Option Addr) (n c : Nat) (hd : a.eval d = .slice dp n c) (g off : Nat) (cur : List Value) (hg : w.heap[g]? = some (.cells cur.toArray 69 (0, 0)))
    (hpos : 0 < n → dp = some ⟨g, off, none⟩) (hfit : off + n * 4 ≤ cur.length)
    (h : ∀ w' cs, cs.length = n * 4 → Box (w'.heap[g]? = some (.cells (splice cur off cs).toArray 69 (0, 0))) → Box (w.grownBy w' (some g)) → wpList Try.prog ops Q rest (a.put o.dst (.tuple #[])) w') : wpList Try.prog ops Q (o :: rest) a w := by
  obtain ⟨w', cs, h0, hr, h2, h3⟩ := run_clearW w o.type dp n c g off cur hg hpos hfit
  refine wpList_plain hgd fun K hK => ?_
  unfold Oper.wp execOp
  simp only [ho, resolve, invoke, builtin, Sem.run_bind, Sem.run_pure, Result.andThen_ok, List.map_toArray, List.map_cons, List.map_nil, hd, hr]
  exact hK _ _ (h w' cs h0 (boxed h2) (boxed h3))
/-- append of lines where there is room. -/
theorem wpList_roomW (hgd : o.guard = none) (s x : Operand) (ho : o.op = .call { callee := .builtin .append, args := #[s, x], argTypes := #[22, 22] })
    (g n cap m c : Nat) (xo : Option Addr) (hs : a.eval s = .slice (some ⟨g, 0, none⟩) n cap) (hx : a.eval x = .slice xo m c) (cur cs : List Value) (hg : w.heap[g]? = some (.cells cur.toArray 69 (0, 0)))
    (hl : cs.length = m * 4) (hpos : 0 < m → ∃ b o, xo = some ⟨b, o, none⟩ ∧ ∀ j v, cs[j]? = some v → w.cell? ⟨b, o + j, none⟩ = some v) (hroom : n + m ≤ cap) (hcur : cur.length = cap * 4) (h1 : ∀ v ∈ cs, v.oneCell' = true)
    (h : ∀ w', Box (w'.heap[g]? = some (.cells (splice cur (n * 4) cs).toArray 69 (0, 0))) → Box (w.grownBy w' (some g)) → wpList Try.prog ops Q rest (a.put o.dst (.slice (some ⟨g, 0, none⟩) (n + m) cap)) w') : wpList Try.prog ops Q (o :: rest) a w := by
  obtain ⟨i0, hi, hz0, hz1, hz2⟩ := info_parts info_slot
  by_cases h0 : m = 0
  · subst h0
    have hcs : cs = [] := List.eq_nil_of_length_eq_zero (by omega)
    subst hcs
    have hld : ∀ (x : Addr), (loadCells x 0).run Try.prog w = .ok #[] w := fun x => by simpa using run_loadCells_list (P := Try.prog) w x [] (by simp)
    refine Lib.wpList_append_run w hgd s x 22 22 ho _ _ hs hx (.slice (some ⟨g, 0, none⟩) (n + 0) cap) w ?_ (h w (boxed (by rw [splice_nil]; exact hg)) (boxed (grown_refl _ _)))
    have hr : n ≤ cap := by omega
    cases xo <;> simp [Builtin.append_, run_underlying Try.underlying22, Builtin.lenOf, Builtin.firstCells, sizeOf, typeInfo, hi, storeCells, hld, hr]
  · obtain ⟨b, off, rfl, hsrc⟩ := hpos (by omega)
    have hr := run_append_room (P := Try.prog) w 22 o.type 69 i0 Try.underlying22 hi g n cap cur.toArray hg ⟨b, off, none⟩ m c cs (by rw [hz1]; exact hl) (fun j u hj => by rw [add_lit]; exact hsrc j u hj) h1 hroom (by rw [hz1, hl]; simp only [List.size_toArray]; omega)
    refine Lib.wpList_append_run w hgd s x 22 22 ho _ _ hs hx _ _ hr (h _ (boxed ?_) (boxed (grown_row w g _)))
    rw [setRow_heap w g _ _ _ _ hg, hz1]
    simp [splice]
/-- append of lines where there is none: a new row. -/
theorem wpList_growW (hgd : o.guard = none) (s x : Operand) (ho : o.op = .call { callee := .builtin .append, args := #[s, x], argTypes := #[22, 22] })
    (base : Option Addr) (n cap m c : Nat) (b off : Nat) (hs : a.eval s = .slice base n cap) (hx : a.eval x = .slice (some ⟨b, off, none⟩) m c) (olds cs : List Value) (holds : olds.length = n * 4)
    (hold : (base = none ∧ n = 0) ∨ ∃ g, base = some ⟨g, 0, none⟩ ∧ ∀ j v, olds[j]? = some v → w.cell? ⟨g, j, none⟩ = some v)
    (hl : cs.length = m * 4) (hsrc : ∀ j v, cs[j]? = some v → w.cell? ⟨b, off + j, none⟩ = some v) (hroom : cap < n + m) (hbig : n + m ≤ 100000) (h1 : ∀ v ∈ cs, v.oneCell' = true)
    (h : ∀ w' cap' cur', n + m ≤ cap' → cap' ≤ maxLen → Box (w'.heap[w.heap.size]? = some (.cells (List.toArray cur') 69 (0, 0))) → cur'.length = cap' * 4 → cur'.take ((n + m) * 4) = olds ++ cs → Box (Below w.heap.size w w') → wpList Try.prog ops Q rest (a.put o.dst (.slice (some ⟨w.heap.size, 0, none⟩) (n + m) cap')) w') : wpList Try.prog ops Q (o :: rest) a w := by
  obtain ⟨i0, hi, hz0, hz1, hz2⟩ := info_parts info_slot
  have hold' : (Builtin.firstCells i0.size n (.slice base n cap)).run Try.prog w.drew = .ok olds.toArray w.drew := by
    rcases hold with ⟨rfl, rfl⟩ | ⟨g, rfl, hc⟩
    · have : olds = [] := List.eq_nil_of_length_eq_zero (by omega)
      subst this; rfl
    · show (loadCells ⟨g, 0, none⟩ (n * i0.size)).run Try.prog w.drew = _
      rw [hz1, ← holds]
      exact run_loadCells_list (P := Try.prog) w.drew ⟨g, 0, none⟩ olds (fun j v hj => by rw [add_lit, Nat.zero_add]; exact hc j v hj)
  have hfit : Builtin.nextslicecap (n + m) cap * i0.bytes ≤ 281474976710656 := growslice_fits_wide hroom (by rw [hz2]; omega)
  have hr := run_append_grow_src (P := Try.prog) w 22 22 o.type 69 i0 _ Try.underlying22 hi hz0 base n cap olds hold' (.slice (some ⟨b, off, none⟩) m c) m cs
    (Src.ofSlice w Try.underlying22 ⟨b, off, none⟩ m c cs (by rw [hz1]; exact hl) (fun j u hj => by rw [add_lit]; exact hsrc j u hj) h1) hroom (by omega) hfit
  have hcg := grownCap_ge w (n + m) cap 69
  refine Lib.wpList_append_run w hgd s x 22 22 ho _ _ hs hx _ _ hr (h _ _ (olds ++ cs ++ (Builtin.zeroCells (Value.agg #[.int .i64 0, .int .i64 0, .int .i64 0, .bool false]).cells (grownCap w (n + m) cap 69 - (n + m))).toList) hcg (grownCap_le_maxLen w _ _ _ (by unfold maxLen; omega)) (boxed ?_) ?_ ?_ (boxed ?_))
  · have := heap_alloc_new w.drew (.cells ((olds ++ cs).toArray ++ Builtin.zeroCells (Value.agg #[.int .i64 0, .int .i64 0, .int .i64 0, .bool false]).cells (grownCap w (n + m) cap 69 - (n + m))) 69)
    refine Eq.trans this ?_
    congr 2
    apply Array.ext'
    simp
  · have hz := zero_len (grownCap w (n + m) cap 69 - (n + m))
    rw [← Array.length_toList] at hz
    rw [List.length_append, List.length_append, hz, holds, hl]; omega
  · rw [show (n + m) * 4 = (olds ++ cs).length by rw [List.length_append, holds, hl]; omega, List.take_left]
  · have hd : Below w.heap.size w w.drew := ⟨rfl, rfl, rfl, Nat.le_refl _, fun _ _ => rfl⟩
    exact hd.alloc (Nat.le_refl _) _
/-- append of so many lines that are nothing, where there is no room: a new row. -/
theorem wpList_zeroW (hgd : o.guard = none) (s x : Operand) (ho : o.op = .call { callee := .builtin .append, args := #[s, x], argTypes := #[22, 3] })
    (g n cap k : Nat) (kq : IntKind) (zk : Int) (hs : a.eval s = .slice (some ⟨g, 0, none⟩) n cap) (hx : a.eval x = .int kq zk) (hzk : zk = (k : Int)) (olds : List Value) (holds : olds.length = n * 4)
    (hold : ∀ j v, olds[j]? = some v → w.cell? ⟨g, j, none⟩ = some v) (h0 : 0 < k)
    (hroom : cap < n + k) (hbig : n + k ≤ 100000)
    (h : ∀ w' cap' cur', n + k ≤ cap' → cap' ≤ maxLen → Box (w'.heap[w.heap.size]? = some (.cells (List.toArray cur') 69 (0, 0))) → cur'.length = cap' * 4 → cur'.take (n * 4) = olds → Box (Below w.heap.size w w') → wpList Try.prog ops Q rest (a.put o.dst (.slice (some ⟨w.heap.size, 0, none⟩) (n + k) cap')) w') : wpList Try.prog ops Q (o :: rest) a w := by
  subst hzk
  obtain ⟨i0, hi, hz0, hz1, hz2⟩ := info_parts info_slot
  have hold' : (Builtin.firstCells i0.size n (.slice (some ⟨g, 0, none⟩) n cap)).run Try.prog w.drew = .ok olds.toArray w.drew := by
    show (loadCells ⟨g, 0, none⟩ (n * i0.size)).run Try.prog w.drew = _
    rw [hz1, ← holds]
    exact run_loadCells_list (P := Try.prog) w.drew ⟨g, 0, none⟩ olds (fun j v hj => by rw [add_lit, Nat.zero_add]; exact hold j v hj)
  have hfit : Builtin.nextslicecap (n + k) cap * i0.bytes ≤ 281474976710656 := growslice_fits_wide hroom (by rw [hz2]; omega)
  have hr := Lib.run_append_grow_zeros (P := Try.prog) w 22 3 o.type 69 i0 _ kq .i64 Try.underlying22 Try.underlying3 hi hz0 (some ⟨g, 0, none⟩) n cap olds hold' k h0 (by omega) hroom (by omega) (by rw [hz2]; omega) hfit
  have hcg := grownCap_ge w (n + k) cap 69
  refine Lib.wpList_append_run w hgd s x 22 3 ho _ _ hs hx _ _ hr (h _ _ (olds ++ (Builtin.zeroCells (Value.agg #[.int .i64 0, .int .i64 0, .int .i64 0, .bool false]).cells k).toList ++ (Builtin.zeroCells (Value.agg #[.int .i64 0, .int .i64 0, .int .i64 0, .bool false]).cells (grownCap w (n + k) cap 69 - (n + k))).toList) hcg (grownCap_le_maxLen w _ _ _ (by unfold maxLen; omega)) (boxed ?_) ?_ ?_ (boxed ?_))
  · refine Eq.trans (heap_alloc_new w.drew _) ?_
    congr 2
    apply Array.ext'
    simp
  · have hz := zero_len (grownCap w (n + k) cap 69 - (n + k))
    have hz' := zero_len k
    rw [← Array.length_toList] at hz hz'
    rw [List.length_append, List.length_append, hz, hz', holds]; omega
  · rw [List.append_assoc, ← holds, List.take_left]
  · have hd : Below w.heap.size w w.drew := ⟨rfl, rfl, rfl, Nat.le_refl _, fun _ _ => rfl⟩
    exact hd.alloc (Nat.le_refl _) _
end

/-! ### Parts -/
def sa (off q cap : Nat) : Nat := if cap = q then off else off + q * 4
theorem sa_of {off q cap : Nat} (h : q < cap) : sa off q cap = off + q * 4 := by unfold sa; rw [if_neg (by omega)]
theorem slF (b off n cap q : Nat) (z : Int) (hz : z = (q : Int)) (hn : n ≤ cap) (hq : q ≤ n) (w : World) : (Instr.slice 22 (.slice (some ⟨b, off, none⟩) n cap) (some (.int .i64 z)) none none).run Try.prog w = .ok (.slice (some ⟨b, sa off q cap, none⟩) (n - q) (cap - q)) w := by
  subst hz
  have hc : Try.prog.cellsOf 69 = 4 := by kernel_rfl
  have h4 : (q : Int) ≤ (n : Int) := by omega
  have h5 : (n : Int) ≤ (cap : Int) := by omega
  unfold sa
  simp [Instr.slice, Instr.sliceBounds, Instr.sliceBound, asIntOf, run_underlying Try.underlying22, go_sem, h4, h5]
  rw [if_pos (by omega : q ≤ n)]
  by_cases c : cap = q
  · rw [if_pos c, if_pos c]
  · rw [if_neg c, if_neg c]
theorem slT (b off n cap q : Nat) (z : Int) (hz : z = (q : Int)) (hq : q ≤ cap) (w : World) : (Instr.slice 22 (.slice (some ⟨b, off, none⟩) n cap) none (some (.int .i64 z)) none).run Try.prog w = .ok (.slice (some ⟨b, off, none⟩) q cap) w := by
  subst hz
  have h4 : (q : Int) ≤ (cap : Int) := by omega
  go_simp
theorem slM (b off n cap i j : Nat) (hi : i ≤ j) (hj : j ≤ cap) (w : World) : (Instr.slice 22 (.slice (some ⟨b, off, none⟩) n cap) (some (.int .i64 (i : Int))) (some (.int .i64 (j : Int))) none).run Try.prog w = .ok (.slice (some ⟨b, sa off i cap, none⟩) (j - i) (cap - i)) w := by
  have hc : Try.prog.cellsOf 69 = 4 := by kernel_rfl
  have h4 : (i : Int) ≤ (j : Int) := by omega
  have h5 : (j : Int) ≤ (cap : Int) := by omega
  unfold sa
  simp [Instr.slice, Instr.sliceBounds, Instr.sliceBound, asIntOf, run_underlying Try.underlying22, go_sem, h4, h5]
  rw [if_pos hj, if_pos hi]
  by_cases c : cap = i
  · rw [if_pos c, if_pos c]
  · rw [if_neg c, if_neg c]

end Go.Proofs.Ytdpjaafdpgkclaa
