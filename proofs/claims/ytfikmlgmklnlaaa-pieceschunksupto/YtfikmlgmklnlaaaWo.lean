/-
  What appending a text to what was added does to memory: the bytes lie behind what was there, in its room or in new memory, and nothing else is changed.
-/
import Derived.Lib.AppendStr
import Derived.Test.YtfikmlgmklnlaaaWl
namespace Go.Proofs.Ytfikmlgmklnlaaa
open Go.RowKit
set_option linter.unusedSimpArgs false
set_option linter.unusedVariables false

theorem info_byte : (Try.prog.info? 5).map (fun i => (i.zero, i.size, i.bytes)) = some (some (.int .u8 0), 1, 1) := by kernel_rfl

def adl : Option (Nat × Nat × Nat) → Nat
  | none => 0
  | some (_, l, _) => l
/-- Outside the room behind what was added. -/
def Out (A : Option (Nat × Nat × Nat)) (b i : Nat) : Prop := ∀ ab l c, A = some (ab, l, c) → b = ab → (i < l ∨ c ≤ i)
/-- Not the block of what was added. -/
def Far (A : Option (Nat × Nat × Nat)) (k : Nat) : Prop := ∀ ab l c, A = some (ab, l, c) → k ≠ ab

structure Apd (A : Option (Nat × Nat × Nat)) (w : World) (s : ByteArray) (ab ac : Nat) (W : World) : Prop where
  os : W.os = w.os
  tape : W.tape = w.tape
  output : W.output = w.output
  size : w.heap.size ≤ W.heap.size
  ad : ∃ cur : Array Value, W.heap[ab]? = some (.cells cur 5 (0, 0)) ∧ adl A + s.size ≤ ac ∧ ac ≤ cur.size ∧ cur.size ≤ maxLen
  new : ∀ i : Nat, i < s.size → W.cell? ⟨ab, adl A + i, none⟩ = some (.int .u8 ((bl s).getD i 0 : Nat))
  cell : ∀ (b i : Nat) (u : Value), Out A b i → w.cell? ⟨b, i, none⟩ = some u → W.cell? ⟨b, i, none⟩ = some u
  block : ∀ k : Nat, k < w.heap.size → Far A k → W.heap[k]? = w.heap[k]?
  shape : ∀ (k : Nat) (cs : Array Value) (t : TypeId), w.heap[k]? = some (.cells cs t (0, 0)) → ∃ cs' : Array Value, W.heap[k]? = some (.cells cs' t (0, 0)) ∧ cs'.size = cs.size
  place : A = some (ab, adl A, ac) ∨ w.heap.size ≤ ab

theorem strCells_get (s : ByteArray) (i : Nat) (h : i < s.size) : (Lib.strCells s)[i]? = some (.int .u8 ((bl s).getD i 0 : Nat)) := by
  have h' : i < s.data.size := h
  rw [bl_get s i h]
  simp [Lib.strCells, List.getD, Array.getElem?_eq_getElem h']

theorem apd_new {A : Option (Nat × Nat × Nat)} {w : World} {s : ByteArray} (olds : List Value) (ho : olds.length = adl A) (cap : Nat) (zs : Array Value) (hz : cap = olds.length + s.size + zs.size) (hm : cap ≤ maxLen) :
    Apd A w s w.heap.size cap (w.drew.alloc (.cells (olds.toArray ++ (Lib.strCells s).toArray ++ zs) 5)) := by
  have hnew : (w.drew.alloc (.cells (olds.toArray ++ (Lib.strCells s).toArray ++ zs) 5)).heap[w.heap.size]? = some (.cells (olds.toArray ++ (Lib.strCells s).toArray ++ zs) 5 (0, 0)) := heap_alloc_new w.drew _
  have hb : Below w.heap.size w (w.drew.alloc (.cells (olds.toArray ++ (Lib.strCells s).toArray ++ zs) 5)) := (Below.refl w.heap.size w).drew.alloc (Nat.le_refl _) _
  have hsz : (olds.toArray ++ (Lib.strCells s).toArray ++ zs).size = cap := by simp [Lib.strCells_length]; omega
  refine ⟨rfl, rfl, rfl, by simp, ⟨_, hnew, ?_, ?_, ?_⟩, fun i hi => ?_, fun b i u _ hc => hold hb hc, fun k hk _ => hb.block k hk, fun k cs t hk => ⟨cs, ?_, rfl⟩, .inr (Nat.le_refl _)⟩
  · omega
  · rw [hsz]; exact Nat.le_refl _
  · rw [hsz]; exact hm
  · rw [cell_of_row _ _ _ _ _ _ hnew, ← strCells_get s i hi]
    rw [Array.getElem?_append_left (by simp [Lib.strCells_length]; omega), Array.getElem?_append_right (by simp; omega)]
    simp [ho]
  · rw [hb.block k (Array.getElem?_eq_some_iff.1 hk).1]; exact hk

theorem run_append_added (A : Option (Nat × Nat × Nat)) (w : World) (h : AdAt w A) (s : ByteArray) (h0 : s.size ≠ 0) (hs : s.size ≤ 65536) :
    ∃ ab ac W, (Builtin.append_ #[60, 9] 60 #[adv A, .string s]).run Try.prog w = .ok (.slice (some ⟨ab, 0, none⟩) (adl A + s.size) ac) W ∧ Apd A w s ab ac W := by
  obtain ⟨i0, hi, hz0, hz1, hz2⟩ := info_parts info_byte
  match A, h with
  | none, _ =>
    have hr := run_append_nil_string (P := Try.prog) w 60 9 60 5 i0 (.int .u8 0) Try.underlying60 Try.underlying9 hi hz0 s (by omega) (by omega) (by rw [hz2]; omega)
    have e1 : (s.data.map fun b => Value.int .u8 b.toNat) = (Lib.strCells s).toArray := by
      apply Array.ext'
      simp [Lib.strCells]
    rw [e1] at hr
    have ha := apd_new (A := none) (w := w) (s := s) [] rfl (grownCap w s.size 0 5) (Builtin.zeroCells (Value.int .u8 0).cells (grownCap w s.size 0 5 - s.size)) (by
      have := grownCap_ge w s.size 0 5
      rw [size_zeroCells]
      show _ = 0 + _ + _ * 1
      omega) (grownCap_le_maxLen w _ _ _ (by unfold maxLen; omega))
    simp only [Array.empty_append, List.append_toArray, List.nil_append] at ha
    refine ⟨_, _, _, ?_, ha⟩
    rw [show adl none + s.size = s.size from Nat.zero_add _]
    exact hr
  | some (b, l, c), ⟨cur, hcur, h1, h2, h3, h4⟩ =>
    by_cases hroom : l + s.size ≤ c
    · have hr := Lib.run_append_room_string (P := Try.prog) w 60 9 60 5 i0 Try.underlying60 Try.underlying9 hi hz1 b l c cur hcur s hroom (by omega)
      refine ⟨_, _, _, hr, ?_⟩
      have hset := setRow_heap w b cur (cur.toList.take l ++ Lib.strCells s ++ cur.toList.drop (l + s.size)).toArray 5 _ hcur
      have hsz : (cur.toList.take l ++ Lib.strCells s ++ cur.toList.drop (l + s.size)).toArray.size = cur.size := by simp [Lib.strCells_length]; omega
      have htl : (cur.toList.take l).length = l := by simp; omega
      refine ⟨rfl, rfl, rfl, by simp [World.setRow], ⟨_, hset, hroom, by rw [hsz]; exact h2, by rw [hsz]; exact h3⟩, fun i hi => ?_, fun b' i u ho hc => ?_, fun k hk hf => setRow_other _ _ _ _ (hf _ _ _ rfl), fun k cs t hk => ?_, .inl rfl⟩
      · have e := cell_of_row _ b (l + i) _ 5 (0, 0) hset
        show (w.setRow b _).cell? ⟨b, l + i, none⟩ = _
        rw [e, ← strCells_get s i hi]
        simp only [List.getElem?_toArray]
        rw [List.getElem?_append_left (by simp only [List.length_append, Lib.strCells_length, htl]; omega), List.getElem?_append_right (by rw [htl]; omega), htl, Nat.add_sub_cancel_left]
      · by_cases hb : b' = b
        · subst hb
          rw [cell_of_row w _ _ _ _ _ hcur] at hc
          rw [cell_of_row _ _ _ _ _ _ hset]
          simp only [List.getElem?_toArray]
          rcases ho _ _ _ rfl rfl with hlt | hge
          · rw [List.getElem?_append_left (by simp only [List.length_append, Lib.strCells_length, htl]; omega), List.getElem?_append_left (by rw [htl]; omega), List.getElem?_take, if_pos hlt]
            simpa using hc
          · rw [List.getElem?_append_right (by simp only [List.length_append, Lib.strCells_length, htl]; omega), List.getElem?_drop]
            simp only [List.length_append, Lib.strCells_length, htl]
            rw [show l + s.size + (i - (l + s.size)) = i by omega]
            simpa using hc
        · rw [World.cell?_of_block (w := w) (setRow_other w b b' _ hb)]; exact hc
      · by_cases hb : k = b
        · subst hb
          rw [hcur] at hk
          injection hk with hk
          injection hk with e1 e2 e3
          subst e1; subst e2
          exact ⟨_, hset, hsz⟩
        · exact ⟨cs, by rw [setRow_other w b k _ hb]; exact hk, rfl⟩
    · have holds : ∀ j v, (cur.toList.take l)[j]? = some v → w.cell? ((⟨b, 0, none⟩ : Addr).add j) = some v := by
        intro j v hj
        rw [Addr.add_lit, Nat.zero_add, cell_of_row w b j _ _ _ hcur]
        rw [List.getElem?_take] at hj
        split at hj
        · simpa using hj
        · cases hj
      have htl : (cur.toList.take l).length = l := by simp; omega
      have hr := Lib.run_append_grow_string (P := Try.prog) w 60 9 60 5 i0 (.int .u8 0) Try.underlying60 Try.underlying9 hi hz0 ⟨b, 0, none⟩ l c (cur.toList.take l) (by rw [hz1, htl]; omega) holds s (by omega) (by omega)
        (by rw [hz2]; exact growslice_fits (by omega) (by omega))
      refine ⟨_, _, _, hr, apd_new (A := some (b, l, c)) (cur.toList.take l) htl _ _ ?_ (grownCap_le_maxLen w _ _ _ (by unfold maxLen; omega))⟩
      have := grownCap_ge w (l + s.size) c 5
      rw [size_zeroCells, htl]
      show _ = _ + _ + _ * 1
      omega
end Go.Proofs.Ytfikmlgmklnlaaa
