/-
  Lines by what they are the same by, pages and regions, as they lie in memory.
-/
import Derived.Test.YtoodhpgaikmalaaBc
namespace Go.Proofs.Ytoodhpgaikmalaa
open Go.RowKit
set_option linter.unusedSimpArgs false
set_option linter.unusedVariables false

/-- What lies in blocks that S names lies there still. -/
def KpH (S S' : Nat → Prop) (w w' : World) : Prop := ∀ b, S b → b < w.heap.size → S' b ∧ w'.heap[b]? = w.heap[b]?
theorem cell_same {w w' : World} {b i : Nat} (h : w'.heap[b]? = w.heap[b]?) : w'.cell? ⟨b, i, none⟩ = w.cell? ⟨b, i, none⟩ := by
  unfold World.cell?
  simp only [h]
theorem KpH.kp {S S' : Nat → Prop} {w w' : World} (h : KpH S S' w w') : Kp S S' w w' := fun b i u hs hc => by
  obtain ⟨h1, h2⟩ := h b hs (World.block_lt_of_cell? w _ hc)
  exact ⟨h1, by rw [cell_same h2]; exact hc⟩
theorem kph_below {S : Nat → Prop} {w w' : World} (h : Below w.heap.size w w') : KpH S S w w' := fun b hs hl => ⟨hs, h.block b hl⟩
theorem kph_weak {S S' : Nat → Prop} {w : World} (h : ∀ b, S b → S' b) : KpH S S' w w := fun b hs _ => ⟨h b hs, rfl⟩
/-- Lines, by what they are the same by. -/
def LsAt (S : Nat → Prop) (w : World) (ao : Option Addr) (ks : List Key) : Prop := ∃ F : Nat → Lne, LnsAt S w ao ks.length F ∧ ∀ i, i < ks.length → LnOk (F i) ∧ ks[i]? = some (key (F i))
theorem LsAt.kp {S S' : Nat → Prop} {w w' : World} {ao : Option Addr} {ks : List Key} (h : LsAt S w ao ks) (k : Kp S S' w w') : LsAt S' w' ao ks := by
  obtain ⟨F, h1, h2⟩ := h
  exact ⟨F, h1.keep k, h2⟩
theorem LsAt.below {S : Nat → Prop} {w w' : World} {ao : Option Addr} {ks : List Key} (h : LsAt S w ao ks) (hb : Below w.heap.size w w') : LsAt S w' ao ks := h.kp (kp_below hb)
theorem LsAt.form {S : Nat → Prop} {w : World} {ao : Option Addr} {ks : List Key} (h : LsAt S w ao ks) (hn : 0 < ks.length) : ∃ b off, ao = some ⟨b, off, none⟩ ∧ b < w.heap.size ∧ S b := by
  obtain ⟨F, h1, -⟩ := h
  obtain ⟨-, b, off, e, hs, c0, -⟩ := h1 0 hn
  exact ⟨b, off, e, World.block_lt_of_cell? w _ c0, hs⟩
theorem LsAt.nil {S : Nat → Prop} {w : World} {ao : Option Addr} : LsAt S w ao [] := ⟨fun _ => Lne.zero, fun i hi => by simp at hi, fun i hi => by simp at hi⟩
/-- One of them. -/
theorem LsAt.get {S : Nat → Prop} {w : World} {b off : Nat} {ks : List Key} (h : LsAt S w (some ⟨b, off, none⟩) ks) (i : Nat) (hi : i < ks.length) : ∃ x : Lne, (LnOk x ∧ ks[i]? = some (key x)) ∧ P2At S w x.ra x.rn x.L x.Y ∧
    w.cell? ⟨b, off + i * 9, none⟩ = some (.string x.tx) ∧ w.cell? ⟨b, off + i * 9 + 1, none⟩ = some (.slice x.ra x.rn x.rc) ∧ w.cell? ⟨b, off + i * 9 + 2, none⟩ = some (.int .i64 x.num) ∧ w.cell? ⟨b, off + i * 9 + 3, none⟩ = some (.int .i64 x.den) ∧ w.cell? ⟨b, off + i * 9 + 4, none⟩ = some (.int .i64 x.h) ∧ w.cell? ⟨b, off + i * 9 + 5, none⟩ = some (.bool x.hy) ∧ w.cell? ⟨b, off + i * 9 + 6, none⟩ = some (.int .i64 x.y) ∧ w.cell? ⟨b, off + i * 9 + 7, none⟩ = some (.bool x.bg) ∧ w.cell? ⟨b, off + i * 9 + 8, none⟩ = some (.bool x.en) := by
  obtain ⟨F, h1, h2⟩ := h
  exact ⟨F i, h2 i hi, h1.get i hi⟩
/-- A part of lines. -/
theorem LsAt.part {S : Nat → Prop} {w : World} {b off : Nat} {ks : List Key} (h : LsAt S w (some ⟨b, off, none⟩) ks) (a m : Nat) (hm : a + m ≤ ks.length) : LsAt S w (some ⟨b, off + a * 9, none⟩) ((ks.drop a).take m) := by
  obtain ⟨F, h1, h2⟩ := h
  have hl : ((ks.drop a).take m).length = m := by rw [List.length_take, List.length_drop]; omega
  refine ⟨fun j => F (a + j), ?_, ?_⟩
  · intro i hi
    rw [hl] at hi
    obtain ⟨hr, b', off', e, hs, c⟩ := h1 (a + i) (by omega)
    injection e with e
    injection e with e1 e2 e3
    subst e1; subst e2
    have ee : off + a * 9 + i * 9 = off + (a + i) * 9 := by omega
    refine ⟨hr, b, off + a * 9, rfl, hs, ?_⟩
    rw [ee]
    exact c
  · intro i hi
    rw [hl] at hi
    obtain ⟨k1, k2⟩ := h2 (a + i) (by omega)
    exact ⟨k1, by rw [List.getElem?_take_of_lt hi, List.getElem?_drop]; exact k2⟩
/-- Lines that may be written. -/
def LnW (w : World) (ao : Option Addr) (n : Nat) : Prop := 0 < n → ∃ b off arr, ao = some ⟨b, off, none⟩ ∧ w.heap[b]? = some (.cells arr 37 (0, 0)) ∧ off + n * 9 ≤ arr.size
def LO (S : Nat → Prop) (w : World) (ao : Option Addr) (ks : List Key) : Prop := LsAt S w ao ks ∧ LnW w ao ks.length
theorem LO.keep {S S' : Nat → Prop} {w w' : World} {ao : Option Addr} {ks : List Key} (h : LO S w ao ks) (k : KpH S S' w w') : LO S' w' ao ks := by
  refine ⟨h.1.kp k.kp, fun hn => ?_⟩
  obtain ⟨b, off, arr, e, h1, h2⟩ := h.2 hn
  obtain ⟨b', off', e', -, hs⟩ := h.1.form hn
  rw [e] at e'
  injection e' with e'
  injection e' with e1 e2 e3
  subst e1
  exact ⟨b, off, arr, e, (k b hs (heap_lt h1)).2.trans h1, h2⟩
theorem LO.below {S : Nat → Prop} {w w' : World} {ao : Option Addr} {ks : List Key} (h : LO S w ao ks) (hb : Below w.heap.size w w') : LO S w' ao ks := h.keep (kph_below hb)
theorem LO.nil {S : Nat → Prop} {w : World} {ao : Option Addr} : LO S w ao [] := ⟨LsAt.nil, fun h => by simp at h⟩
theorem LO.part {S : Nat → Prop} {w : World} {b off : Nat} {ks : List Key} (h : LO S w (some ⟨b, off, none⟩) ks) (a m : Nat) (hm : a + m ≤ ks.length) : LO S w (some ⟨b, off + a * 9, none⟩) ((ks.drop a).take m) := by
  refine ⟨h.1.part a m hm, fun hn => ?_⟩
  have hl : ((ks.drop a).take m).length = m := by rw [List.length_take, List.length_drop]; omega
  rw [hl] at hn ⊢
  obtain ⟨b', off', arr, e, h1, h2⟩ := h.2 (by omega)
  injection e with e
  injection e with e1 e2 e3
  subst e1; subst e2
  exact ⟨b, off + a * 9, arr, rfl, h1, by omega⟩
theorem keys_get (l : List Lne) (i : Nat) (hi : i < l.length) : (l.map key)[i]? = some (key (nthL l i)) := by
  unfold nthL
  rw [List.getElem?_map, List.getD_eq_getElem?_getD, List.getElem?_eq_getElem hi]
  rfl
/-- What lies in a row of one's own. -/
theorem own_ls {S : Nat → Prop} {w : World} {B : Nat} {ao : Option Addr} {cap : Nat} {l : List Lne} (h : w.ownsRow B 37 9 (.slice ao l.length cap) l.length (lnec l)) (hS : ∀ g, ao = some ⟨g, 0, none⟩ → B ≤ g → S g) (hr : ∀ x ∈ l, LnOk x ∧ P2At S w x.ra x.rn x.L x.Y) : LO S w ao (l.map key) := by
  have hm : ∀ i, i < l.length → nthL l i ∈ l := fun i hi => by unfold nthL; simp [List.getD_eq_getElem?_getD, hi]
  refine ⟨⟨nthL l, ?_, ?_⟩, ?_⟩
  · intro i hi
    rw [List.length_map] at hi
    refine ⟨(hr _ (hm i hi)).2, ?_⟩
    rcases ownsRow_forms h with ⟨e, h0⟩ | ⟨g, cp, e⟩
    · omega
    · injection e with e1 e2 e3
      subst e1
      have hc : ∀ j, j < 9 → w.cell? ⟨g, 0 + i * 9 + j, none⟩ = ((nthL l i).cells)[j]? := by
        intro j hj
        have := h.cellAt (i * 9 + j) (by omega)
        rw [show 0 + i * 9 + j = i * 9 + j by omega, this]
        exact lnec_get l i j hi hj
      exact ⟨g, 0, rfl, hS g rfl (h.lt g rfl).1, hc 0 (by omega), hc 1 (by omega), hc 2 (by omega), hc 3 (by omega), hc 4 (by omega), hc 5 (by omega), hc 6 (by omega), hc 7 (by omega), hc 8 (by omega)⟩
  · intro i hi
    rw [List.length_map] at hi
    exact ⟨(hr _ (hm i hi)).1, keys_get l i hi⟩
  · intro hn
    rw [List.length_map] at hn ⊢
    rcases h.2 with ⟨e, h0⟩ | ⟨g, cp, cur, e, hB, hh, hcap, hmx, hsz, hx⟩
    · omega
    · injection e with e1 e2 e3
      subst e1
      exact ⟨g, 0, cur, rfl, hh, by rw [hsz]; omega⟩
/-- Copies under way, in a row that lies at G. -/
structure OwnP (w : World) (G n m : Nat) (F F' : Nat → Lne) : Prop where
  row : ∃ arr : Array Value, w.heap[G]? = some (.cells arr 37 (0, 0)) ∧ arr.size = n * 9 ∧ ∀ k j, k < m → j < 9 → arr[k * 9 + j]? = ((F' k).cells)[j]?
  run : ∀ k, k < m → (LnOk (F' k) ∧ key (F' k) = key (F k)) ∧ P2At (fun b => G < b) w (F' k).ra (F' k).rn (F' k).L (F' k).Y
theorem OwnP.step {w w' : World} {G n m : Nat} {F F' : Nat → Lne} (h : OwnP w G n m F F') (hm : m < n) (x : Lne) (hx : LnOk x ∧ key x = key (F m))
    (k1 : ∀ b, b < w.heap.size → b ≠ G → w'.heap[b]? = w.heap[b]?)
    (k2 : ∀ arr : Array Value, w.heap[G]? = some (.cells arr 37 (0, 0)) → w'.heap[G]? = some (.cells (ar9 arr (m * 9) (.string x.tx) (.slice x.ra x.rn x.rc) (.int .i64 x.num) (.int .i64 x.den) (.int .i64 x.h) (.bool x.hy) (.int .i64 x.y) (.bool x.bg) (.bool x.en)) 37 (0, 0)))
    (k3 : P2At (fun b => G < b) w' x.ra x.rn x.L x.Y) : ∃ F'', OwnP w' G n (m + 1) F F'' := by
  obtain ⟨arr, e0, hs, hg⟩ := h.row
  refine ⟨fun j => if j = m then x else F' j, ⟨_, k2 arr e0, by rw [ar9_size, hs], ?_⟩, ?_⟩
  · intro k j hk hj
    by_cases c : k = m
    · subst c
      rw [ar9_at _ _ _ _ _ _ _ _ _ _ _ _ hj (by omega), if_pos rfl]
      rfl
    · rw [ar9_far _ _ _ _ _ _ _ _ _ _ _ _ (by omega), if_neg c]
      exact hg k j (by omega) hj
  · intro k hk
    by_cases c : k = m
    · subst c
      simp only [if_pos]
      exact ⟨hx, k3⟩
    · simp only [if_neg c]
      obtain ⟨h1, h2⟩ := h.run k (by omega)
      exact ⟨h1, h2.keep (KpH.kp (fun b hb hl => ⟨hb, k1 b hl (by omega)⟩))⟩
/-- All of them. -/
theorem OwnP.done {w : World} {G n : Nat} {F F' : Nat → Lne} (h : OwnP w G n n F F') (ks : List Key) (hk : ks.length = n) (hF : ∀ i, i < n → ks[i]? = some (key (F i))) : LO (fun b => G ≤ b) w (some ⟨G, 0, none⟩) ks := by
  obtain ⟨arr, e0, hs, hg⟩ := h.row
  refine ⟨⟨F', ?_, ?_⟩, ?_⟩
  · intro i hi
    refine ⟨(h.run i (by omega)).2.keep (fun b _ _ hs hc => ⟨Nat.le_of_lt hs, hc⟩), G, 0, rfl, Nat.le_refl _, ?_⟩
    have hc : ∀ j, j < 9 → w.cell? ⟨G, 0 + i * 9 + j, none⟩ = ((F' i).cells)[j]? := by
      intro j hj
      rw [show 0 + i * 9 + j = i * 9 + j by omega, cell_of_row w G _ arr _ (0, 0) e0]
      exact hg i j (by omega) hj
    exact ⟨hc 0 (by omega), hc 1 (by omega), hc 2 (by omega), hc 3 (by omega), hc 4 (by omega), hc 5 (by omega), hc 6 (by omega), hc 7 (by omega), hc 8 (by omega)⟩
  · intro i hi
    obtain ⟨⟨h1, h2⟩, -⟩ := h.run i (by omega)
    exact ⟨h1, by rw [h2]; exact hF i (by omega)⟩
  · intro hn
    exact ⟨G, 0, arr, rfl, e0, by omega⟩
end Go.Proofs.Ytoodhpgaikmalaa
