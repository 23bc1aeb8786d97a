/-
  Plain: great letters for small ones in a text: it has the same runes but for that, and the same points. And bytes that a call may write.
-/
import Derived.Test.YtflhefgmgdgffabHyp
import Derived.Lib.ConvBytes
namespace Go.Proofs.Ytflhefgmgdgffab
open Go.RowKit Go.Maps
set_option linter.unusedSimpArgs false
set_option linter.unusedVariables false

/-- Of a small letter from a to z the great one. -/
def up (r : Nat) : Nat := if 97 ≤ r ∧ r ≤ 122 then r - 32 else r
theorem up_cases (r : Nat) : ((97 ≤ r ∧ r ≤ 122) ∧ up r = r - 32) ∨ (¬ (97 ≤ r ∧ r ≤ 122) ∧ up r = r) := by
  unfold up
  by_cases c : 97 ≤ r ∧ r ≤ 122
  · exact .inl ⟨c, if_pos c⟩
  · exact .inr ⟨c, if_neg c⟩
theorem up_far (r : Nat) (h : 123 ≤ r) : up r = r := by unfold up; rw [if_neg (by omega)]
theorem up_low (r : Nat) : lowr (up r) = lowr r := by
  rcases up_cases r with ⟨h, e⟩ | ⟨h, e⟩
  · rw [e]; unfold lowr; rw [if_pos (by omega), if_neg (by omega)]; omega
  · rw [e]
theorem up_ltr (r : Nat) : ltr (up r) = ltr r := by
  rw [← ltr_low (up r), up_low, ltr_low]
theorem up_hy (r : Nat) : (up r = 45) ↔ r = 45 := by
  rcases up_cases r with ⟨h, e⟩ | ⟨h, e⟩ <;> rw [e] <;> omega
set_option maxRecDepth 100000 in
theorem up_dec (b0 b1 b2 b3 : Nat) : dec (up b0) (up b1) (up b2) (up b3) = (up (dec b0 b1 b2 b3).1, (dec b0 b1 b2 b3).2) := by
  have key : ∀ b, (128 ≤ up b ∧ up b < 192) ↔ (128 ≤ b ∧ b < 192) := fun b => by rcases up_cases b with ⟨h, e⟩ | ⟨h, e⟩ <;> rw [e] <;> omega
  have hi : ∀ b, 128 ≤ b → up b = b := fun b h => up_far b (by omega)
  by_cases c0 : b0 < 128
  · rw [dec1 c0]
    have : up b0 < 128 := by rcases up_cases b0 with ⟨h, e⟩ | ⟨h, e⟩ <;> rw [e] <;> omega
    rw [dec1 this]
  · rw [hi b0 (by omega)]
    have e1 : ∀ b, 128 ≤ b ∧ b < 192 → up b = b := fun b h => hi b h.1
    by_cases k1 : 128 ≤ b1 ∧ b1 < 192
    · rw [e1 b1 k1]
      by_cases k2 : 128 ≤ b2 ∧ b2 < 192
      · rw [e1 b2 k2]
        by_cases k3 : 128 ≤ b3 ∧ b3 < 192
        · rw [e1 b3 k3]
          rcases dec_cases b0 b1 b2 b3 with ⟨h, e⟩ | ⟨h, e⟩ | ⟨h, e⟩ | ⟨h, e⟩ | e
          · omega
          · rw [e, hi ((b0 - 192) * 64 + (b1 - 128)) (by omega)]
          · rw [e, hi ((b0 - 224) * 4096 + (b1 - 128) * 64 + (b2 - 128)) (by omega)]
          · rw [e, hi ((b0 - 240) * 262144 + (b1 - 128) * 4096 + (b2 - 128) * 64 + (b3 - 128)) (by omega)]
          · rw [e]; rfl
        · have n3 : ¬ (128 ≤ up b3 ∧ up b3 < 192) := fun h => k3 ((key b3).1 h)
          rcases dec_cases b0 b1 b2 b3 with ⟨h, e⟩ | ⟨h, e⟩ | ⟨h, e⟩ | ⟨h, e⟩ | e
          · omega
          · rw [e]; simp only; rw [hi ((b0 - 192) * 64 + (b1 - 128)) (by omega)]; exact dec2 h.1 h.2.1 h.2.2
          · rw [e]; simp only; rw [hi ((b0 - 224) * 4096 + (b1 - 128) * 64 + (b2 - 128)) (by omega)]; exact dec3 h.1 h.2.1 h.2.2.1 h.2.2.2.1 h.2.2.2.2
          · exact absurd h.2.2.2.1 k3
          · rw [e]
            rcases dec_cases b0 b1 b2 (up b3) with ⟨h, e'⟩ | ⟨h, e'⟩ | ⟨h, e'⟩ | ⟨h, e'⟩ | e'
            · omega
            · rw [dec2 h.1 h.2.1 h.2.2] at e; exact absurd (congrArg Prod.snd e) (by simp)
            · rw [dec3 h.1 h.2.1 h.2.2.1 h.2.2.2.1 h.2.2.2.2] at e; exact absurd (congrArg Prod.snd e) (by simp)
            · exact absurd h.2.2.2.1 n3
            · exact e'
      · have n2 : ¬ (128 ≤ up b2 ∧ up b2 < 192) := fun h => k2 ((key b2).1 h)
        rcases dec_cases b0 b1 b2 b3 with ⟨h, e⟩ | ⟨h, e⟩ | ⟨h, e⟩ | ⟨h, e⟩ | e
        · omega
        · rw [e]; simp only; rw [hi ((b0 - 192) * 64 + (b1 - 128)) (by omega)]; exact dec2 h.1 h.2.1 h.2.2
        · exact absurd h.2.2.1 k2
        · exact absurd h.2.2.1 k2
        · rw [e]
          rcases dec_cases b0 b1 (up b2) (up b3) with ⟨h, e'⟩ | ⟨h, e'⟩ | ⟨h, e'⟩ | ⟨h, e'⟩ | e'
          · omega
          · rw [dec2 h.1 h.2.1 h.2.2] at e; exact absurd (congrArg Prod.snd e) (by simp)
          · exact absurd h.2.2.1 n2
          · exact absurd h.2.2.1 n2
          · exact e'
    · have n1 : ¬ (128 ≤ up b1 ∧ up b1 < 192) := fun h => k1 ((key b1).1 h)
      rcases dec_cases b0 b1 b2 b3 with ⟨h, e⟩ | ⟨h, e⟩ | ⟨h, e⟩ | ⟨h, e⟩ | e
      · omega
      · exact absurd h.2.1 k1
      · exact absurd h.2.1 k1
      · exact absurd h.2.1 k1
      · rw [e]
        rcases dec_cases b0 (up b1) (up b2) (up b3) with ⟨h, e'⟩ | ⟨h, e'⟩ | ⟨h, e'⟩ | ⟨h, e'⟩ | e'
        · omega
        · exact absurd h.2.1 n1
        · exact absurd h.2.1 n1
        · exact absurd h.2.1 n1
        · exact e'
section
variable {s t : ByteArray} (h : ∀ i, bt t i = up (bt s i))
include h
theorem up_dc (a : Nat) : dc t a = (up (dc s a).1, (dc s a).2) := by unfold dc; rw [h, h, h, h]; exact up_dec _ _ _ _
theorem up_it : ∀ k, it t k = it s k := by
  intro k
  induction k with
  | zero => rfl
  | succ k ih => simp only [it, ih, up_dc h]
theorem up_cnt (N : Nat) (hN : Cnt s N) : Cnt t N := by
  refine ⟨fun j hj => ?_, ?_⟩
  · rw [up_it h, up_dc h]; exact hN.1 j hj
  · rw [up_it h, up_dc h]; exact hN.2
theorem up_nR : nR t = nR s := nR_eq t _ (up_cnt h _ (nR_cnt s))
theorem up_rn (k : Nat) : rn t k = up (rn s k) := by unfold rn; rw [up_it h, up_dc h]
theorem up_rs : rs t = (rs s).map up := by
  unfold rs rns
  rw [up_nR h, List.map_map]
  apply List.map_congr_left
  intro k _
  exact up_rn h k
theorem up_fit (hz : t.size = s.size) : fit t = fit s := by unfold fit rt; rw [hz, up_nR h, up_it h]
theorem up_wordT (hz : t.size = s.size) : wordT t = wordT s := by
  have hg : ∀ k, ((rs s).map up).getD k 0 = up ((rs s).getD k 0) := fun k => by
    simp only [List.getD_eq_getElem?_getD, List.getElem?_map]
    cases (rs s)[k]? <;> rfl
  have hstep : ∀ k p, wstep ((rs s).map up) k p = wstep (rs s) k p := fun k p => by
    unfold wstep
    simp only [hg, up_ltr, up_low, up_hy, ne_eq]
  have hst : ∀ k, wst ((rs s).map up) k = wst (rs s) k := by
    intro k
    induction k with
    | zero => rfl
    | succ k ih =>
      show (wst ((rs s).map up) k).bind (wstep ((rs s).map up) k) = (wst (rs s) k).bind (wstep (rs s) k)
      rw [ih]
      congr 1
      funext p
      exact hstep k p
  unfold wordT
  rw [up_fit h hz, up_rs h]
  unfold word
  simp only [List.length_map, hst, hg, up_hy, ne_eq]
/-- Great letters are told the same numbers as small ones. -/
theorem up_pts (hz : t.size = s.size) {Q W : PL} {l r : Nat} {out : List Nat} (hp : PtsS Q W l r t out) : PtsS Q W l r s out := by
  unfold PtsS at hp ⊢
  rw [up_wordT h hz] at hp
  exact hp
end
/-! ### Bytes in a block of their own -/
/-- A text's bytes. -/
def bl (s : ByteArray) : List Nat := s.data.toList.map fun b => b.toNat
theorem bl_len (s : ByteArray) : (bl s).length = s.size := by unfold bl; rw [List.length_map, Array.length_toList]; rfl
theorem bl_lt (s : ByteArray) : ∀ d ∈ bl s, d < 256 := by
  intro d hd
  obtain ⟨b, -, rfl⟩ := List.mem_map.1 hd
  exact b.toNat_lt
theorem bl_get (s : ByteArray) (i : Nat) (h : i < s.size) : (bl s).getD i 0 = bt s i := by
  rw [bt_in s i h]
  unfold bl
  rw [List.getD_eq_getElem?_getD, List.getElem?_map]
  have : s.data.toList[i]? = some s[i] := by
    rw [Array.getElem?_toList]
    exact Array.getElem?_eq_getElem h
  rw [this]; rfl
/-- With the first k of them great. -/
def upk (l : List Nat) (k : Nat) : List Nat := (l.take k).map up ++ l.drop k
theorem upk_len (l : List Nat) (k : Nat) : (upk l k).length = l.length := by unfold upk; simp; omega
theorem upk_zero (l : List Nat) : upk l 0 = l := by simp [upk]
theorem upk_get (l : List Nat) (k i : Nat) (h : k ≤ l.length) (hi : i < l.length) : (upk l k).getD i 0 = if i < k then up (l.getD i 0) else l.getD i 0 := by
  unfold upk
  by_cases c : i < k
  · rw [if_pos c]
    simp only [List.getD_eq_getElem?_getD]
    rw [List.getElem?_append_left (by simp; omega), List.getElem?_map, List.getElem?_take_of_lt c, List.getElem?_eq_getElem hi]; rfl
  · rw [if_neg c]
    simp only [List.getD_eq_getElem?_getD]
    rw [List.getElem?_append_right (by simp; omega), List.getElem?_drop]
    congr 2
    simp; omega
theorem upk_up (l : List Nat) (k : Nat) (h : k < l.length) : upk l (k + 1) = (upk l k).set k (up (l.getD k 0)) := by
  have h1 := upk_len l (k + 1)
  have h2 := upk_len l k
  apply List.ext_getElem
  · simp [h1, h2]
  · intro i hi1 hi2
    have hi : i < l.length := by omega
    have g1 := upk_get l (k + 1) i (by omega) hi
    have g2 := upk_get l k i (by omega) hi
    rw [List.getD_eq_getElem?_getD, List.getElem?_eq_getElem hi1] at g1
    rw [List.getD_eq_getElem?_getD, List.getElem?_eq_getElem (by omega)] at g2
    simp only [Option.getD_some] at g1 g2
    rw [g1, List.getElem_set]
    by_cases c : k = i
    · subst c; simp
    · rw [if_neg c, g2]
      by_cases d : i < k
      · rw [if_pos d, if_pos (by omega)]
      · rw [if_neg d, if_neg (by omega)]
theorem upk_at (l : List Nat) (k : Nat) (h : k < l.length) : (upk l k).getD k 0 = l.getD k 0 := by
  rw [upk_get l k k (by omega) h, if_neg (by omega)]
theorem upk_same (l : List Nat) (k : Nat) (h : k < l.length) (e : up (l.getD k 0) = l.getD k 0) : upk l (k + 1) = upk l k := by
  rw [upk_up l k h, e, ← upk_at l k h]
  have h2 := upk_len l k
  apply List.ext_getElem
  · simp
  · intro i hi1 hi2
    rw [List.getElem_set]
    by_cases c : k = i
    · subst c
      rw [if_pos rfl, List.getD_eq_getElem?_getD, List.getElem?_eq_getElem hi2]; rfl
    · rw [if_neg c]
/-- The text of all of them great. -/
theorem upk_bt (s : ByteArray) : (∀ i, bt (tx (upk (bl s) s.size)) i = up (bt s i)) ∧ (tx (upk (bl s) s.size)).size = s.size ∧ ∀ d ∈ upk (bl s) s.size, d < 256 := by
  have hl := bl_len s
  have hk := upk_len (bl s) s.size
  have h256 : ∀ d ∈ upk (bl s) s.size, d < 256 := by
    intro d hd
    unfold upk at hd
    rcases List.mem_append.1 hd with c | c
    · obtain ⟨x, hx, rfl⟩ := List.mem_map.1 c
      have := bl_lt s x (List.mem_of_mem_take hx)
      rcases up_cases x with ⟨_, e⟩ | ⟨_, e⟩ <;> rw [e] <;> omega
    · exact bl_lt s d (List.mem_of_mem_drop c)
  refine ⟨fun i => ?_, by rw [tx_size, hk, hl], h256⟩
  by_cases c : i < s.size
  · rw [tx_bt _ h256 i (by omega), upk_get _ _ _ (by omega) (by omega), if_pos c, bl_get s i c]
  · rw [bt_out s i c, bt_out _ i (by rw [tx_size]; omega)]; rfl
/-- Bytes in a block that a call may write. -/
def ByW (W : World) (b : Nat) (l : List Nat) : Prop := ∃ arr fz, W.heap[b]? = some (.cells arr 5 (fz, fz + 1)) ∧ l.length ≤ fz ∧ fz = arr.size ∧ ∀ j, j < l.length → arr[j]? = some (.int .u8 ((l.getD j 0 : Nat) : Int))
theorem ByW.cell {W : World} {b : Nat} {l : List Nat} (h : ByW W b l) (j : Nat) (hj : j < l.length) : W.cell? ⟨b, j, none⟩ = some (.int .u8 ((l.getD j 0 : Nat) : Int)) ∧ W.frozen? ⟨b, j, none⟩ = false := by
  obtain ⟨arr, fz, h1, h2, h3, h4⟩ := h
  refine ⟨?_, ?_⟩
  · rw [cell_of_row W b j arr 5 _ h1, h4 j hj]
  · unfold World.frozen?
    rw [h1]
    simp
    omega
theorem ByW.set {W : World} {b : Nat} {l : List Nat} (h : ByW W b l) (k x : Nat) : ByW (W.setCell ⟨b, k, none⟩ (.int .u8 (x : Int))) b (l.set k x) := by
  obtain ⟨arr, fz, h1, h2, h3, h4⟩ := h
  refine ⟨arr.setIfInBounds k (.int .u8 (x : Int)), fz, ?_, by simpa using h2, by simpa using h3, fun j hj => ?_⟩
  · simp [World.setCell, Array.getElem?_modify, h1]
  · have hj' : j < l.length := by simpa using hj
    rw [Array.getElem?_setIfInBounds]
    by_cases c : k = j
    · subst c
      rw [if_pos rfl, if_pos (by omega)]
      simp [List.getD_eq_getElem?_getD, hj']
    · rw [if_neg c, h4 j hj']
      simp [List.getD_eq_getElem?_getD, c, hj']
theorem conv_byw {W : World} {b : Nat} {l : List Nat} (h : ByW W b l) (cap : Nat) (hb : ∀ d ∈ l, d < 256) : (convert 28 9 (.slice (some ⟨b, 0, none⟩) l.length cap)).run Try.prog W = .ok (.string (tx l)) W := by
  have hlen : (l.map (fun d => UInt8.ofNat d)).length = l.length := by simp
  have h := run_convert_bytes_back (P := Try.prog) W 28 9 5 ⟨b, 0, none⟩ cap (l.map (fun d => UInt8.ofNat d)) Try.underlying28 Try.underlying5 Try.underlying9 (by
    intro j hj
    have hj' : j < l.length := by simpa using hj
    have hlt := hb l[j] (List.getElem_mem hj')
    rw [Addr.add_lit, Nat.zero_add, (h.cell j hj').1]
    simp [hj']
    omega)
  rw [hlen] at h
  exact h
theorem byw_new (w : World) (s : ByteArray) : ByW (Lib.bytesWorld w 5 s) w.heap.size (bl s) := by
  refine ⟨_, _, Lib.bytesWorld_at_new w 5 s, ?_, rfl, fun j hj => ?_⟩
  · rw [bl_len]; simp [Lib.bytesCells]
  · rw [bl_len] at hj
    have := Lib.bytesWorld_cell w 5 s j hj
    rw [cell_of_row _ _ _ _ _ _ (Lib.bytesWorld_at_new w 5 s)] at this
    rw [this]
    congr 2
    unfold bl
    simp only [List.getD_eq_getElem?_getD, List.getElem?_map]
    cases s.data.toList[j]? <;> rfl
theorem below_bytes (w : World) (s : ByteArray) : Below w.heap.size w (Lib.bytesWorld w 5 s) :=
  ⟨rfl, rfl, rfl, by rw [Lib.bytesWorld_size]; omega, fun k hk => Lib.bytesWorld_at_old w 5 s k hk⟩
end Go.Proofs.Ytflhefgmgdgffab
