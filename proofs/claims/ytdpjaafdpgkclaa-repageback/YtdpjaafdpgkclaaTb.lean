/-
  Lines in a row of their own: their cells, and what copy, clear and append do with them.
-/
import Derived.Test.YtdpjaafdpgkclaaHi
import Derived.Test.YtdpjaafdpgkclaaTa
import Derived.Laws.CopyOwn
import Derived.Lib.AppendZerosOnto
import Derived.Deep.DeepAppendWide
import Derived.Lib.Overlaps
namespace Go.Proofs.Ytdpjaafdpgkclaa
open Go.RowKit
set_option linter.unusedSimpArgs false
set_option linter.unusedVariables false

def Slt.cells (s : Slt) : List Value := [.int .i64 s.h, .int .i64 s.i, .int .i64 s.c, .bool s.k]
/-- The cells of lines. -/
def scs (F : Nat → Slt) : Nat → List Value
  | 0 => []
  | k + 1 => scs F k ++ (F k).cells
theorem scs_len (F : Nat → Slt) (n : Nat) : (scs F n).length = n * 4 := by
  induction n with
  | zero => rfl
  | succ n ih => simp [scs, ih, Slt.cells]; omega
theorem scs_get (F : Nat → Slt) (n i j : Nat) (h : i < n) (hj : j < 4) : (scs F n)[i * 4 + j]? = ((F i).cells)[j]? := by
  induction n with
  | zero => omega
  | succ n ih =>
    have hl := scs_len F n
    simp only [scs]
    by_cases c : i < n
    · rw [List.getElem?_append_left (by omega)]
      exact ih c
    · obtain rfl : i = n := by omega
      rw [List.getElem?_append_right (by omega), hl, show i * 4 + j - i * 4 = j by omega]
theorem scs_one (F : Nat → Slt) (n : Nat) : ∀ u ∈ scs F n, u.oneCell' = true := by
  induction n with
  | zero => intro u hu; simp [scs] at hu
  | succ n ih =>
    intro u hu
    simp only [scs, List.mem_append, Slt.cells, List.mem_cons, List.not_mem_nil, or_false] at hu
    rcases hu with hu | rfl | rfl | rfl | rfl
    · exact ih u hu
    all_goals rfl
theorem scs_add (F : Nat → Slt) (a b : Nat) : scs F (a + b) = scs F a ++ scs (fun k => F (a + k)) b := by
  induction b with
  | zero => simp [scs]
  | succ b ih => rw [Nat.add_succ]; simp only [scs, ih, List.append_assoc]
theorem scs_like {F G : Nat → Slt} (n : Nat) (h : ∀ k, k < n → F k = G k) : scs F n = scs G n := by
  induction n with
  | zero => rfl
  | succ n ih => simp only [scs]; rw [ih (fun k hk => h k (by omega)), h n (by omega)]
theorem scs_take (F : Nat → Slt) (n a : Nat) (h : a ≤ n) : (scs F n).take (a * 4) = scs F a := by
  obtain ⟨b, rfl⟩ : ∃ b, n = a + b := ⟨n - a, by omega⟩
  rw [scs_add, ← scs_len F a, List.take_left]
theorem scs_drop (F : Nat → Slt) (n a : Nat) (h : a ≤ n) : (scs F n).drop (a * 4) = scs (fun k => F (a + k)) (n - a) := by
  obtain ⟨b, rfl⟩ : ∃ b, n = a + b := ⟨n - a, by omega⟩
  rw [scs_add, ← scs_len F a, List.drop_left, show a + b - a = b by omega]
theorem scs_put (F C : Nat → Slt) (n f g m : Nat) (h : f + g ≤ n) : scs (put F f g m C) (n - g + m) = scs F f ++ (scs C m ++ scs (fun k => F (f + g + k)) (n - (f + g))) := by
  rw [show n - g + m = f + (m + (n - (f + g))) by omega, scs_add, scs_add]
  congr 1
  · exact scs_like f (fun k hk => put_lo hk)
  · congr 1
    · exact scs_like m (fun k hk => put_in hk)
    · exact scs_like _ (fun k hk => by show put F f g m C (f + (m + k)) = _; rw [← Nat.add_assoc, put_hi])
theorem own_slts {w : World} {B n cap : Nat} {ao : Option Addr} {F : Nat → Slt} (h : w.ownsRow B 69 4 (.slice ao n cap) n (scs F n)) (hi : ∀ i, i < n → I64 (F i).h ∧ I64 (F i).i ∧ I64 (F i).c) : SltsAt (fun b => B ≤ b ∧ some b = (Value.slice ao n cap).ownBlock) w ao n F := by
  intro i hin
  rcases ownsRow_forms h with ⟨e, h0⟩ | ⟨g, cp, e⟩
  · omega
  · injection e with e1 e2 e3
    subst e1
    have hc : ∀ j, j < 4 → w.cell? ⟨g, 0 + i * 4 + j, none⟩ = ((F i).cells)[j]? := fun j hj => by
      have := h.cellAt (i * 4 + j) (by omega)
      rw [show 0 + i * 4 + j = i * 4 + j by omega, this]
      exact scs_get F n i j hin hj
    exact ⟨hi i hin, _, 0, rfl, ⟨(h.lt _ rfl).1, rfl⟩, hc 0 (by omega), hc 1 (by omega), hc 2 (by omega), hc 3 (by omega)⟩
/-- The cells of lines that lie in memory. -/
theorem SltsAt.cell {S : Nat → Prop} {w : World} {ao : Option Addr} {n : Nat} {F : Nat → Slt} (h : SltsAt S w ao n F) (hn : 0 < n) : ∃ b off, ao = some ⟨b, off, none⟩ ∧ S b ∧ ∀ j v, (scs F n)[j]? = some v → w.cell? ⟨b, off + j, none⟩ = some v := by
  obtain ⟨b, off, rfl, -, hS⟩ := h.form hn
  refine ⟨b, off, rfl, hS, fun j v hj => ?_⟩
  have hl := scs_len F n
  have hj4 : j < n * 4 := by
    rcases Nat.lt_or_ge j (n * 4) with c | c
    · exact c
    · rw [List.getElem?_eq_none (by omega)] at hj; cases hj
  obtain ⟨i, r, rfl, hr⟩ : ∃ i r, j = i * 4 + r ∧ r < 4 := ⟨j / 4, j % 4, by omega, by omega⟩
  obtain ⟨c0, c1, c2, c3⟩ := h.get i (by omega)
  rw [scs_get F n i r (by omega) hr] at hj
  rw [← Nat.add_assoc]
  match r, hr with
  | 0, _ => simp [Slt.cells] at hj; rw [Nat.add_zero, c0, hj]
  | 1, _ => simp [Slt.cells] at hj; rw [c1, hj]
  | 2, _ => simp [Slt.cells] at hj; rw [c2, hj]
  | 3, _ => simp [Slt.cells] at hj; rw [c3, hj]

/-! ### A row of cells -/
theorem add_lit (b off j : Nat) : (⟨b, off, none⟩ : Addr).add j = ⟨b, off + j, none⟩ := Addr.add_lit ..
theorem grown_row (w : World) (g : Nat) (cs : Array Value) : w.grownBy (w.setRow g cs) (some g) :=
  ⟨rfl, rfl, rfl, by simp [World.setRow], fun k _ hk => setRow_other w g k cs (fun e => hk (by simp [e]))⟩
theorem grown_refl (w : World) (r : Option Nat) : w.grownBy w r := ⟨rfl, rfl, rfl, Nat.le_refl _, fun _ _ _ => rfl⟩
theorem grown_below2 {w w' : World} (r : Option Nat) (h : Below w.heap.size w w') : w.grownBy w' r := ⟨h.os, h.tape, h.output, h.size, fun k hk _ => h.block k hk⟩
theorem splice_nil {α : Type} (L : List α) (o : Nat) : splice L o [] = L := by simp [splice]
set_option maxRecDepth 100000 in
theorem run_copyW (w : World) (ty : TypeId) (dp sp : Option Addr) (dLen dCap sLen sCap g off k : Nat) (cur cs : List Value) (hg : w.heap[g]? = some (.cells cur.toArray 69 (0, 0)))
    (hk : Nat.min sLen dLen = k) (hl : cs.length = k * 4) (hpos : 0 < k → dp = some ⟨g, off, none⟩ ∧ ∃ b o, sp = some ⟨b, o, none⟩ ∧ ∀ j v, cs[j]? = some v → w.cell? ⟨b, o + j, none⟩ = some v) (hfit : off + cs.length ≤ cur.length) (h1 : ∀ v ∈ cs, v.oneCell' = true) :
    ∃ w', (Builtin.copy_ #[22, 22] ty #[.slice dp dLen dCap, .slice sp sLen sCap]).run Try.prog w = .ok (goInt k) w' ∧ w'.heap[g]? = some (.cells (splice cur off cs).toArray 69 (0, 0)) ∧ w.grownBy w' (some g) := by
  obtain ⟨i0, hi, hz0, hz1, hz2⟩ := info_parts info_slot
  by_cases h0 : k = 0
  · subst h0
    have hcs : cs = [] := List.eq_nil_of_length_eq_zero (by omega)
    subst hcs
    have hld : ∀ (x : Addr), (loadCells x 0).run Try.prog w = .ok #[] w := fun x => by simpa using run_loadCells_list (P := Try.prog) w x [] (by simp)
    refine ⟨w, ?_, by rw [splice_nil]; exact hg, grown_refl _ _⟩
    cases dp <;> cases sp <;> simp [Builtin.copy_, run_underlying Try.underlying22, Builtin.lenOf, Builtin.firstCells, sizeOf, typeInfo, hi, hk, storeCells, hld]
  · obtain ⟨rfl, b, o, rfl, hsrc⟩ := hpos (by omega)
    have hld := run_loadCells_list (P := Try.prog) w ⟨b, o, none⟩ cs (fun j v hj => by rw [add_lit]; exact hsrc j v hj)
    have hst := run_storeCells_at Try.prog g off 69 cs 0 cur.toArray w hg (by simpa using hfit) h1
    rw [hl] at hld
    refine ⟨_, ?_, setRow_heap w g _ _ _ _ hg, grown_row w g _⟩
    simp [Builtin.copy_, run_underlying Try.underlying22, Builtin.lenOf, Builtin.firstCells, sizeOf, typeInfo, hi, hz1, hk, hld, hst, splice]
theorem zero_one (n : Nat) : ∀ u ∈ (Builtin.zeroCells (Value.agg #[.int .i64 0, .int .i64 0, .int .i64 0, .bool false]).cells n).toList, u.oneCell' = true := by
  intro u hu
  simp only [Builtin.zeroCells, Array.toList_map, List.mem_map] at hu
  obtain ⟨i, -, rfl⟩ := hu
  have h4 : (Value.agg #[.int .i64 0, .int .i64 0, .int .i64 0, .bool false]).cells = #[.int .i64 0, .int .i64 0, .int .i64 0, .bool false] := by rfl
  rw [h4]
  show (#[Value.int .i64 0, .int .i64 0, .int .i64 0, .bool false] : Array Value)[i % 4]!.oneCell' = true
  have : i % 4 = 0 ∨ i % 4 = 1 ∨ i % 4 = 2 ∨ i % 4 = 3 := by omega
  rcases this with e | e | e | e <;> rw [e] <;> rfl
theorem zero_len (n : Nat) : (Builtin.zeroCells (Value.agg #[.int .i64 0, .int .i64 0, .int .i64 0, .bool false]).cells n).size = n * 4 := by
  rw [size_zeroCells]; rfl
set_option maxRecDepth 100000 in
theorem run_clearW (w : World) (ty : TypeId) (dp : Option Addr) (n c g off : Nat) (cur : List Value) (hg : w.heap[g]? = some (.cells cur.toArray 69 (0, 0)))
    (hpos : 0 < n → dp = some ⟨g, off, none⟩) (hfit : off + n * 4 ≤ cur.length) :
    ∃ w' cs, cs.length = n * 4 ∧ (Builtin.clear_ #[22] ty #[.slice dp n c]).run Try.prog w = .ok (.tuple #[]) w' ∧ w'.heap[g]? = some (.cells (splice cur off cs).toArray 69 (0, 0)) ∧ w.grownBy w' (some g) := by
  obtain ⟨i0, hi, hz0, hz1, hz2⟩ := info_parts info_slot
  by_cases h0 : n = 0
  · subst h0
    refine ⟨w, [], rfl, ?_, by rw [splice_nil]; exact hg, grown_refl _ _⟩
    cases dp <;> simp [Builtin.clear_, run_underlying Try.underlying22]
  · obtain rfl := hpos (by omega)
    obtain ⟨k, rfl⟩ : ∃ k, n = k + 1 := ⟨n - 1, by omega⟩
    have hl := zero_len (k + 1)
    have hst := run_storeCells_at Try.prog g off 69 (Builtin.zeroCells (Value.agg #[.int .i64 0, .int .i64 0, .int .i64 0, .bool false]).cells (k + 1)).toList 0 cur.toArray w hg (by rw [Array.length_toList, hl]; simpa using hfit) (zero_one (k + 1))
    refine ⟨_, (Builtin.zeroCells (Value.agg #[.int .i64 0, .int .i64 0, .int .i64 0, .bool false]).cells (k + 1)).toList, by rw [Array.length_toList, hl], ?_, setRow_heap w g _ _ _ _ hg, grown_row w g _⟩
    simp only [Nat.add_zero] at hst
    simp [Builtin.clear_, run_underlying Try.underlying22, zeroValue, typeInfo, hi, hz0, hst, splice]
end Go.Proofs.Ytdpjaafdpgkclaa
