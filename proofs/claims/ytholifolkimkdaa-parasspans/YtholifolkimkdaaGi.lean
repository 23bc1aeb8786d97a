/-
  Plain words on edits: which sizes stand in the place of which when a text is put in or taken out. No program in it.
-/
import Derived.Test.YtholifolkimkdaaGa
namespace Go.Proofs.Ytholifolkimkdaa
set_option linter.unusedSimpArgs false
set_option linter.unusedVariables false

/-- The first paragraph that an insertion touches, and how many. -/
def fst (l : List Bool) (a : Nat) : Nat := if a < l.length then fnd l a else (sp l).length - (op l).toNat
def old (l : List Bool) (a : Nat) : Nat := if a < l.length then 1 else (op l).toNat
/-- What it leaves of them ahead, and behind. -/
def ahd (l : List Bool) (a : Nat) : Nat := a - Bg (sp l) (fst l a)
def bhd (l : List Bool) (a : Nat) : Nat := Bg (sp l) (fst l a + old l a) - a
/-- The sizes that stand there then. -/
def Z1 (l m : List Bool) (a : Nat) : List Nat := (sp m).set 0 ((sp m).getD 0 0 + ahd l a)
def Z2 (l m : List Bool) (a : Nat) : List Nat := if bhd l a = 0 then Z1 l m a else if op m = true then (Z1 l m a).set ((Z1 l m a).length - 1) ((Z1 l m a).getD ((Z1 l m a).length - 1) 0 + bhd l a) else Z1 l m a ++ [bhd l a]
theorem op_pos (l : List Bool) (h : op l = true) : 0 < l.length := by cases l with
  | nil => simp [op] at h
  | cons c r => simp
theorem sp_some (m : List Bool) (h : m ≠ []) : ∃ m1 T, sp m = m1 :: T := by
  cases hc : sp m with
  | nil => exact absurd (List.length_eq_zero_iff.1 ((sp_nil m).1 (by rw [hc]; rfl))) h
  | cons m1 T => exact ⟨m1, T, rfl⟩
theorem sp_join (X m : List Bool) (Q T : List Nat) (c m1 : Nat) (hm : m ≠ []) (hX : sp X = Q ++ hd0 c) (ho : op X = nz c) (he : sp m = m1 :: T) : sp (X ++ m) = Q ++ (m1 + c) :: T := by
  cases c with
  | zero => rw [sp_shut _ _ (by rw [ho]; rfl), hX, he]; simp [hd0]
  | succ c => rw [sp_open X m Q T (c + 1) m1 (by rw [ho]; rfl) hX he, Nat.add_comm]
theorem set_last (U : List Nat) (z y : Nat) : (U ++ [z]).set ((U ++ [z]).length - 1) ((U ++ [z]).getD ((U ++ [z]).length - 1) 0 + y) = U ++ [z + y] := by
  have e : (U ++ [z]).length - 1 = U.length := by simp
  rw [e]
  simp [List.set_append]
theorem snoc_ex (L : List Nat) (h : L ≠ []) : ∃ U z, L = U ++ [z] := ⟨L.dropLast, L.getLast h, (List.dropLast_concat_getLast h).symm⟩
theorem bhd_zero (l : List Bool) (a : Nat) (ha : a ≤ l.length) : bhd l a = 0 ↔ a = l.length := by
  unfold bhd fst old
  by_cases c : a < l.length
  · rw [if_pos c, if_pos c]
    have := (fnd_spec l a c).2.2
    omega
  · obtain rfl : a = l.length := by omega
    rw [if_neg c, if_neg c]
    have := Bg_le (sp l) ((sp l).length - (op l).toNat + (op l).toNat)
    rw [sp_sum] at this
    omega
theorem ins_sp (l m : List Bool) (a : Nat) (ha : a ≤ l.length) (hm : m ≠ []) :
    sp (l.take a ++ m ++ l.drop a) = (sp l).take (fst l a) ++ Z2 l m a ++ (sp l).drop (fst l a + old l a) ∧ op (l.take a ++ m ++ l.drop a) = (if bhd l a = 0 then op m else op l) := by
  obtain ⟨m1, T, he⟩ := sp_some m hm
  have hz1 : Z1 l m a = (m1 + ahd l a) :: T := by unfold Z1; rw [he]; simp
  by_cases c : a < l.length
  · have hb : bhd l a ≠ 0 := fun h => by have := (bhd_zero l a ha).1 h; omega
    rw [if_neg hb]
    have hf : fst l a = fnd l a := by unfold fst; rw [if_pos c]
    have ho : old l a = 1 := by unfold old; rw [if_pos c]
    obtain ⟨s1, s2, s3⟩ := fnd_spec l a c
    obtain ⟨k1, k2, k3, -⟩ := cut_in l (fnd l a) a s1 s2 s3
    have eh : ahd l a = a - Bg (sp l) (fnd l a) := by unfold ahd; rw [hf]
    have eb : bhd l a = Bg (sp l) (fnd l a + 1) - a := by unfold bhd; rw [hf, ho]
    rw [← eh] at k1 k2
    rw [← eb] at k3
    have hd : l.drop a ≠ [] := by intro h; have := congrArg List.length h; simp at this; omega
    have j1 := sp_join (l.take a) m _ T _ m1 hm k1 k2 he
    have j2 : op (l.take a ++ m) = op m := op_app _ _ hm
    rw [hf, ho]
    refine ⟨?_, ?_⟩
    · unfold Z2
      rw [if_neg hb, hz1]
      by_cases d : op m = true
      · rw [if_pos d]
        obtain ⟨U, z, hU⟩ := snoc_ex ((m1 + ahd l a) :: T) (by simp)
        rw [hU] at j1 ⊢
        rw [set_last, sp_open (l.take a ++ m) (l.drop a) ((sp l).take (fnd l a) ++ U) _ z _ (by rw [j2]; exact d) (by rw [j1, List.append_assoc]) k3]
        simp
      · rw [if_neg d, sp_shut _ _ (by rw [j2]; simpa using d), j1, k3]
        simp
    · rw [op_app _ _ hd]
      conv => rhs; rw [← List.take_append_drop a l]
      rw [op_app _ _ hd]
  · obtain rfl : a = l.length := by omega
    have hb : bhd l l.length = 0 := (bhd_zero l l.length ha).2 rfl
    rw [if_pos hb]
    have hf : fst l l.length = (sp l).length - (op l).toNat := by unfold fst; rw [if_neg c]
    have ho : old l l.length = (op l).toNat := by unfold old; rw [if_neg c]
    rw [hf, ho]
    unfold Z2
    rw [if_pos hb, hz1, List.take_length, List.drop_length, List.append_nil]
    refine ⟨?_, op_app _ _ hm⟩
    have eh : ahd l l.length = l.length - Bg (sp l) ((sp l).length - (op l).toNat) := by unfold ahd; rw [hf]
    rw [eh]
    cases d : op l with
    | false =>
      rw [sp_shut _ _ d, he]
      simp only [Bool.toNat_false, Nat.sub_zero, Nat.add_zero]
      rw [Bg_sp _ _ (Nat.le_refl _)]
      simp
    | true =>
      have hpos := op_pos l d
      obtain ⟨U, z, hU⟩ := snoc_ex (sp l) (by intro h; have := (sp_nil l).1 (by rw [h]; rfl); omega)
      have hs := sp_sum l
      rw [hU] at hs
      simp only [List.sum_append, List.sum_cons, List.sum_nil, Nat.add_zero] at hs
      rw [sp_open l m U T z m1 d hU he, hU]
      have e1 : (U ++ [z]).length - true.toNat = U.length := by simp
      rw [e1]
      have e2 : Bg (U ++ [z]) U.length = U.sum := by rw [Bg_app_left _ _ _ (Nat.le_refl _), Bg_all _ _ (Nat.le_refl _)]
      rw [e2]
      have e3 : l.length - U.sum = z := by omega
      rw [e3]
      simp [Nat.add_comm]
theorem Z2_pos (l m : List Bool) (a : Nat) (ha : a ≤ l.length) (hm : m ≠ []) : ∀ n ∈ Z2 l m a, 0 < n := by
  intro n hn
  have := (ins_sp l m a ha hm).1
  exact sp_pos (l.take a ++ m ++ l.drop a) n (by rw [this]; simp [hn])
theorem fst_le (l : List Bool) (a : Nat) (ha : a ≤ l.length) : fst l a + old l a ≤ (sp l).length := by
  unfold fst old
  by_cases c : a < l.length
  · rw [if_pos c, if_pos c]; have := (fnd_spec l a c).1; omega
  · rw [if_neg c, if_neg c]
    cases d : op l with
    | false => simp
    | true => have := op_pos l d; have := sp_nil l; simp; omega
theorem Z2_len (l m : List Bool) (a : Nat) (ha : a ≤ l.length) (hm : m ≠ []) : (sp (l.take a ++ m ++ l.drop a)).length + old l a = (sp l).length + (Z2 l m a).length := by
  rw [(ins_sp l m a ha hm).1]
  have := fst_le l a ha
  simp; omega
theorem Z2_sum (l m : List Bool) (a : Nat) (ha : a ≤ l.length) (hm : m ≠ []) : ((sp l).take (fst l a) ++ Z2 l m a ++ (sp l).drop (fst l a + old l a)).sum = l.length + m.length := by
  rw [← (ins_sp l m a ha hm).1, sp_sum]
  simp; omega

/-- How many paragraphs a deletion touches. -/
def dlo (l : List Bool) (a b : Nat) : Nat := fnd l (b - 1) + 1 - fnd l a + (if (0 < a - Bg (sp l) (fnd l a) ∧ b = Bg (sp l) (fnd l (b - 1) + 1)) ∧ b < l.length then 1 else 0)
/-- What is left of them. -/
def dll (l : List Bool) (a b : Nat) : Nat := a - Bg (sp l) (fnd l a) + Bg (sp l) (fnd l a + dlo l a b) - b
theorem drop_cons_get (P : List Nat) (k : Nat) (h : k < P.length) : P.drop k = (Bg P (k + 1) - Bg P k) :: P.drop (k + 1) := by
  rw [Bg_get P k h, Nat.add_sub_cancel_left, List.drop_eq_getElem_cons h]
  congr 1
  simp [List.getElem?_eq_getElem h]
theorem at_end (l : List Bool) (b : Nat) (hb : b = l.length) (h0 : 0 < b) : fnd l (b - 1) + 1 = (sp l).length ∧ Bg (sp l) (fnd l (b - 1) + 1) = b := by
  obtain ⟨s1, s2, s3⟩ := fnd_spec l (b - 1) (by omega)
  have hle := Bg_le (sp l) (fnd l (b - 1) + 1)
  rw [sp_sum] at hle
  have e : Bg (sp l) (fnd l (b - 1) + 1) = b := by omega
  refine ⟨?_, e⟩
  by_cases c : fnd l (b - 1) + 1 = (sp l).length
  · exact c
  · have := Bg_step (sp l) (sp_pos l) (fnd l (b - 1) + 1) (by omega)
    have h2 := Bg_le (sp l) (fnd l (b - 1) + 1 + 1)
    rw [sp_sum] at h2
    omega
theorem fnd_next (l : List Bool) (b : Nat) (hb : b < l.length) (h0 : 0 < b) : (b = Bg (sp l) (fnd l (b - 1) + 1) ∧ fnd l b = fnd l (b - 1) + 1) ∨ (b < Bg (sp l) (fnd l (b - 1) + 1) ∧ fnd l b = fnd l (b - 1)) := by
  obtain ⟨s1, s2, s3⟩ := fnd_spec l (b - 1) (by omega)
  by_cases c : b < Bg (sp l) (fnd l (b - 1) + 1)
  · exact .inr ⟨c, fnd_of l _ b s1 (by omega) c⟩
  · have e : b = Bg (sp l) (fnd l (b - 1) + 1) := by omega
    refine .inl ⟨e, ?_⟩
    have hlt : fnd l (b - 1) + 1 < (sp l).length := by
      by_cases d : fnd l (b - 1) + 1 < (sp l).length
      · exact d
      · rw [Bg_sp l _ (by omega)] at e; omega
    exact fnd_of l _ b hlt (by omega) (by have := Bg_step (sp l) (sp_pos l) _ hlt; omega)
theorem del_sp (l : List Bool) (a b : Nat) (hab : a < b) (hb : b ≤ l.length) :
    sp (l.take a ++ l.drop b) = (sp l).take (fnd l a) ++ hd0 (dll l a b) ++ (sp l).drop (fnd l a + dlo l a b) ∧ op (l.take a ++ l.drop b) = (if b = l.length then nz (a - Bg (sp l) (fnd l a)) else op l) ∧ fnd l a + dlo l a b ≤ (sp l).length ∧ b ≤ a - Bg (sp l) (fnd l a) + Bg (sp l) (fnd l a + dlo l a b) := by
  obtain ⟨s1, s2, s3⟩ := fnd_spec l a (by omega)
  obtain ⟨t1, t2, t3⟩ := fnd_spec l (b - 1) (by omega)
  have hfm := fnd_mono l a (b - 1) (by omega)
  obtain ⟨k1, k2, -, -⟩ := cut_in l (fnd l a) a s1 s2 s3
  by_cases c : b = l.length
  · obtain ⟨e1, e2⟩ := at_end l b c (by omega)
    have ho : dlo l a b = fnd l (b - 1) + 1 - fnd l a := by unfold dlo; rw [if_neg (by omega), Nat.add_zero]
    have hfo : fnd l a + dlo l a b = fnd l (b - 1) + 1 := by omega
    have hl : dll l a b = a - Bg (sp l) (fnd l a) := by unfold dll; rw [hfo, e2]; omega
    rw [if_pos c, hl, hfo]
    have ed : l.drop b = [] := by rw [c]; exact List.drop_length
    rw [ed, List.append_nil, e1, List.drop_length, List.append_nil]
    refine ⟨k1, k2, Nat.le_refl _, ?_⟩
    rw [← e1, e2]; omega
  · have hbl : b < l.length := by omega
    rw [if_neg c]
    have hd : l.drop b ≠ [] := by intro h; have := congrArg List.length h; simp at this; omega
    have hop : op (l.take a ++ l.drop b) = op l := by
      rw [op_app _ _ hd]
      conv => rhs; rw [← List.take_append_drop b l]
      rw [op_app _ _ hd]
    obtain ⟨u1, u2, u3⟩ := fnd_spec l b hbl
    obtain ⟨-, -, k3, -⟩ := cut_in l (fnd l b) b u1 u2 u3
    have hj := sp_join (l.take a) (l.drop b) _ _ _ _ hd k1 k2 k3
    rcases fnd_next l b hbl (by omega) with ⟨g1, g2⟩ | ⟨g1, g2⟩
    · by_cases d : 0 < a - Bg (sp l) (fnd l a)
      · have ho : dlo l a b = fnd l (b - 1) + 1 - fnd l a + 1 := by unfold dlo; rw [if_pos ⟨⟨d, g1⟩, hbl⟩]
        have hfo : fnd l a + dlo l a b = fnd l b + 1 := by omega
        have hl : dll l a b = Bg (sp l) (fnd l b + 1) - b + (a - Bg (sp l) (fnd l a)) := by unfold dll; rw [hfo]; omega
        refine ⟨?_, hop, by omega, by rw [hfo]; omega⟩
        rw [hj, hfo, hl]
        obtain ⟨y, hy⟩ : ∃ y, Bg (sp l) (fnd l b + 1) - b + (a - Bg (sp l) (fnd l a)) = y + 1 := ⟨Bg (sp l) (fnd l b + 1) - b + (a - Bg (sp l) (fnd l a)) - 1, by omega⟩
        rw [hy]; simp [hd0]
      · have ho : dlo l a b = fnd l (b - 1) + 1 - fnd l a := by unfold dlo; rw [if_neg (by omega), Nat.add_zero]
        have hfo : fnd l a + dlo l a b = fnd l b := by omega
        have hz : a - Bg (sp l) (fnd l a) = 0 := by omega
        have hl : dll l a b = 0 := by unfold dll; rw [hfo, hz, g2, ← g1]; omega
        refine ⟨?_, hop, by omega, by rw [hfo, g2, ← g1]; omega⟩
        rw [hj, hfo, hl, hz, drop_cons_get (sp l) (fnd l b) u1]
        have e : b = Bg (sp l) (fnd l b) := by rw [g2]; exact g1
        rw [← e]
        simp [hd0]
    · have ho : dlo l a b = fnd l (b - 1) + 1 - fnd l a := by unfold dlo; rw [if_neg (by omega), Nat.add_zero]
      have hfo : fnd l a + dlo l a b = fnd l b + 1 := by omega
      have hl : dll l a b = Bg (sp l) (fnd l b + 1) - b + (a - Bg (sp l) (fnd l a)) := by unfold dll; rw [hfo]; omega
      refine ⟨?_, hop, by omega, by rw [hfo]; omega⟩
      rw [hj, hfo, hl]
      obtain ⟨y, hy⟩ : ∃ y, Bg (sp l) (fnd l b + 1) - b + (a - Bg (sp l) (fnd l a)) = y + 1 := ⟨Bg (sp l) (fnd l b + 1) - b + (a - Bg (sp l) (fnd l a)) - 1, by omega⟩
      rw [hy]; simp [hd0]
/-- The document's words on when the next paragraph goes on: the last byte is a line end, and there is one behind. -/
theorem end_iff (l : List Bool) (b : Nat) (h0 : 0 < b) (hb : b ≤ l.length) : (l.getD (b - 1) false = true ∧ fnd l (b - 1) + 1 < (sp l).length) ↔ (b = Bg (sp l) (fnd l (b - 1) + 1) ∧ b < l.length) := by
  by_cases c : b = l.length
  · obtain ⟨e1, e2⟩ := at_end l b c h0
    omega
  · have hbl : b < l.length := by omega
    have hop := op_last (l.take b) (by simp; omega)
    have hl : (l.take b).length = b := by simp; omega
    rw [hl] at hop
    have hg : (l.take b).getD (b - 1) false = l.getD (b - 1) false := by simp [List.getElem?_take, show b - 1 < b by omega]
    rw [hg] at hop
    obtain ⟨u1, u2, u3⟩ := fnd_spec l b hbl
    have k2 := (cut_in l (fnd l b) b u1 u2 u3).2.1
    rw [hop] at k2
    obtain ⟨t1, t2, t3⟩ := fnd_spec l (b - 1) (by omega)
    rcases fnd_next l b hbl h0 with ⟨g1, g2⟩ | ⟨g1, g2⟩
    · have hz : b - Bg (sp l) (fnd l b) = 0 := by rw [g2, ← g1]; omega
      rw [hz] at k2
      have : l.getD (b - 1) false = true := by simpa [nz] using k2
      exact ⟨fun _ => ⟨g1, hbl⟩, fun _ => ⟨this, by omega⟩⟩
    · rw [g2] at k2
      obtain ⟨y, hy⟩ : ∃ y, b - Bg (sp l) (fnd l (b - 1)) = y + 1 := ⟨b - Bg (sp l) (fnd l (b - 1)) - 1, by omega⟩
      rw [hy] at k2
      have : l.getD (b - 1) false = false := by simpa [nz] using k2
      rw [this]
      constructor
      · rintro ⟨h, _⟩; cases h
      · rintro ⟨h, _⟩; omega
end Go.Proofs.Ytholifolkimkdaa
