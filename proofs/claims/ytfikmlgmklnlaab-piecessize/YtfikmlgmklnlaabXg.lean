/-
  A text stays right whatever edits are done; what goes in and is taken out again leaves the text that was there. And the calls of a text that lives.
-/
import Derived.Test.YtfikmlgmklnlaabXb
import Derived.Test.YtfikmlgmklnlaabXf
namespace Go.Proofs.Ytfikmlgmklnlaab
open Go.RowKit
set_option linter.unusedSimpArgs false
set_option linter.unusedVariables false

theorem ext_end (r : ByteArray) (i : Nat) : bl (r.extract i r.size) = (bl r).drop i := by rw [bl_ext, ← bl_len r, List.take_length]
theorem ext_beg (r : ByteArray) (i : Nat) : bl (r.extract 0 i) = (bl r).take i := by rw [bl_ext, List.drop_zero]

/-- A right text's bytes. -/
def RL (l : List Nat) : Prop := ∃ r N, l = bl r ∧ Right r N
theorem RL.stp {l : List Nat} (h : RL l) (o : Opr) : RL (stp l o) := by
  obtain ⟨r, N, rfl, hr⟩ := h
  unfold Go.Proofs.Ytfikmlgmklnlaab.stp
  by_cases c : o.out = true
  · rw [if_pos c]
    by_cases d : spe (bl r) o.a o.b = 0
    · rw [if_pos d]
      obtain ⟨p1, p2⟩ := spe_parts _ _ _ d
      obtain ⟨K, _, c1, _⟩ := cut_at r N hr _ p1
      obtain ⟨_, M, _, c2⟩ := cut_at r N hr _ p2
      refine ⟨_, _, ?_, (join_two _ _ _ _ c1 c2).1⟩
      rw [bl_app, ext_beg, ext_end]
    · rw [if_neg d]; exact ⟨r, N, rfl, hr⟩
  · rw [if_neg c]
    by_cases d : ine (bl r) o.a o.m (cN o.m) = 0
    · rw [if_pos d]
      have d' := d
      unfold ine at d
      have p1 : cke (bl r) o.a = 0 := by
        by_cases e : cke (bl r) o.a = 0
        · exact e
        · rw [if_pos e] at d; exact d
      rw [if_neg (by simpa using p1)] at d
      have p2 : chk o.m (cN o.m) = 0 := by
        by_cases e : chk o.m (cN o.m) = 0
        · exact e
        · rw [if_pos e] at d; exact d
      have hm : Right o.m (cN o.m) := by
        refine right_of _ _ (cN_ok _) ?_
        unfold chk at p2
        by_cases e : badAt o.m (cN o.m) < 0
        · exact e
        · rw [if_neg e] at p2; omega
      obtain ⟨K, M, c1, c2⟩ := cut_at r N hr _ p1
      refine ⟨_, _, ?_, (join_two _ _ _ _ c1 (join_two _ _ _ _ hm c2).1).1⟩
      rw [bl_app, bl_app, ext_beg, ext_end]
    · rw [if_neg d]; exact ⟨r, N, rfl, hr⟩
theorem RL.ply {l : List Nat} (h : RL l) (O : Nat → Opr) : ∀ k, RL (ply l O k)
  | 0 => h
  | k + 1 => (RL.ply h O k).stp (O k)
theorem RL.right {r : ByteArray} (h : RL (bl r)) : ∃ N, Right r N := by
  obtain ⟨r', N, e, hr⟩ := h
  rw [bl_inj e]
  exact ⟨N, hr⟩

/-- What went in may be taken out again. -/
theorem out_again (r m : ByteArray) (N M : Nat) (hr : Right r N) (hm : Right m M) (i : Nat) (h : cke (bl r) (i : Int) = 0) :
    spe ((bl r).take i ++ (bl m ++ (bl r).drop i)) (i : Int) ((i + m.size : Nat) : Int) = 0 ∧ ((bl r).take i ++ (bl m ++ (bl r).drop i)).take i ++ ((bl r).take i ++ (bl m ++ (bl r).drop i)).drop (i + m.size) = bl r := by
  have hz := cke_zero _ _ h
  rw [bl_len] at hz
  obtain ⟨K, L, c1, c2⟩ := cut_at r N hr (i : Int) h
  rw [Int.toNat_natCast] at c1 c2
  have z1 : (r.extract 0 i).size = i := by rw [← bl_len, ext_beg, List.length_take, bl_len]; omega
  have e1 : (bl r).take i ++ (bl m ++ (bl r).drop i) = bl (r.extract 0 i ++ (m ++ r.extract i r.size)) := by rw [bl_app, bl_app, ext_beg, ext_end]
  have e2 : (bl r).take i ++ (bl m ++ (bl r).drop i) = bl (r.extract 0 i ++ m ++ r.extract i r.size) := by rw [bl_app, bl_app, ext_beg, ext_end, List.append_assoc]
  have hti : ((bl r).take i).length = i := by rw [List.length_take, bl_len]; omega
  constructor
  · refine spe_of _ _ _ ?_ ?_ ?_
    · simp only [List.length_append, List.length_take, List.length_drop, bl_len]
      omega
    · rw [e1]
      obtain ⟨j1, j2⟩ := join_two _ _ _ _ c1 (join_two _ _ _ _ hm c2).1
      have := place_ok _ _ K j1 (by omega)
      rw [j2, z1] at this
      exact this
    · rw [e2]
      obtain ⟨j1, _⟩ := join_two _ _ _ _ c1 hm
      obtain ⟨j3, j4⟩ := join_two _ _ _ _ j1 c2
      have := place_ok _ _ (K + M) j3 (by omega)
      rw [j4, ByteArray.size_append, z1] at this
      exact this
  · rw [List.take_append_of_le_length (by omega), List.take_of_length_le (by omega)]
    rw [show i + m.size = ((bl r).take i).length + m.size by rw [hti], List.drop_length_add_append, ← bl_len m, List.drop_left, List.take_append_drop]

/-- What was taken out may go in again. -/
theorem in_again (r : ByteArray) (N : Nat) (hr : Right r N) (i j : Nat) (h : spe (bl r) (i : Int) (j : Int) = 0) (hs : r.size ≤ 65536) :
    ∃ M, Cnt (r.extract i j) M ∧ ine ((bl r).take i ++ (bl r).drop j) (i : Int) (r.extract i j) M = 0 ∧
      ((bl r).take i ++ (bl r).drop j).take i ++ (bl (r.extract i j) ++ ((bl r).take i ++ (bl r).drop j).drop i) = bl r := by
  have hz := spe_zero _ _ _ h
  rw [bl_len] at hz
  obtain ⟨p1, p2⟩ := spe_parts _ _ _ h
  obtain ⟨M, hM⟩ := part_right r N hr i j h
  obtain ⟨K, _, c1, _⟩ := cut_at r N hr (i : Int) p1
  obtain ⟨_, L, _, c2⟩ := cut_at r N hr (j : Int) p2
  rw [Int.toNat_natCast] at c1 c2
  have z1 : (r.extract 0 i).size = i := by rw [← bl_len, ext_beg, List.length_take, bl_len]; omega
  have z2 : (r.extract i j).size = j - i := by rw [← bl_len, bl_ext, List.length_drop, List.length_take, bl_len]; omega
  have e1 : (bl r).take i ++ (bl r).drop j = bl (r.extract 0 i ++ r.extract j r.size) := by rw [bl_app, ext_beg, ext_end]
  have hti : ((bl r).take i).length = i := by rw [List.length_take, bl_len]; omega
  refine ⟨M, hM.1, ?_, ?_⟩
  · unfold ine
    have q1 : cke ((bl r).take i ++ (bl r).drop j) (i : Int) = 0 := by
      rw [e1]
      obtain ⟨j1, j2⟩ := join_two _ _ _ _ c1 c2
      have := place_ok _ _ K j1 (by omega)
      rw [j2, z1] at this
      exact this
    have q2 : chk (r.extract i j) M = 0 := by unfold chk; rw [if_pos (by rw [right_bad _ _ hM]; decide)]
    rw [if_neg (by simpa using q1), if_neg (by simpa using q2), if_neg]
    simp only [List.length_append, List.length_take, List.length_drop, bl_len, z2]
    omega
  · rw [List.take_append_of_le_length (by omega), List.take_of_length_le (by omega)]
    have e3 : ((bl r).take i ++ (bl r).drop j).drop i = (bl r).drop j := by
      conv => lhs; rw [show i = ((bl r).take i).length by rw [hti]]
      have := List.drop_left (l₁ := (bl r).take i) (l₂ := (bl r).drop j)
      rw [hti] at this ⊢
      exact this
    rw [e3, bl_ext, List.drop_take]
    have : (bl r).drop j = ((bl r).drop i).drop (j - i) := by rw [List.drop_drop]; congr 1; omega
    rw [this, List.take_append_drop, List.take_append_drop]

/-- A text that lives, made since w, with these bytes. -/
def Alive (w w' : World) (tb : Nat) (l : List Nat) : Prop :=
  ∃ S x A T, TextAt S w' tb x A T ∧ adl A ≤ 262144 ∧ T.flat = l ∧ w.heap.size ≤ tb ∧ AdGe w.heap.size A ∧ Below w.heap.size w w'
theorem Live.alive {w w' : World} {tb : Nat} {r : ByteArray} {k : Nat} (h : Live w w' tb r k) : Alive w w' tb (bl r) := by
  obtain ⟨S, x, A, T, h1, h2, h3, h4, h5, h6, h7⟩ := h
  exact ⟨S, x, A, T, h1, h2, h3, h5, h6, h7⟩
theorem Alive.frame {w w' : World} {tb : Nat} {l : List Nat} (h : Alive w w' tb l) : Below w.heap.size w w' := by
  obtain ⟨S, x, A, T, h1, h2, h3, h5, h6, h7⟩ := h
  exact h7
theorem Alive.below {w w' w2 : World} {tb : Nat} {l : List Nat} (h : Alive w w' tb l) (hb : Below w'.heap.size w' w2) : Alive w w2 tb l := by
  obtain ⟨S, x, A, T, h1, h2, h3, h5, h6, h7⟩ := h
  exact ⟨S, x, A, T, h1.below hb, h2, h3, h5, h6, h7.trans (hb.mono h7.size)⟩
theorem Alive.edited {w w' w2 : World} {tb : Nat} {S : Nat → Nat → Prop} {A : Option (Nat × Nat × Nat)} {T : Tr} {l : List Nat} (h : Edited tb A S T w' w2 l) (h5 : w.heap.size ≤ tb) (h6 : AdGe w.heap.size A) (h7 : Below w.heap.size w w') : Alive w w2 tb l := by
  obtain ⟨x', A', S', T', k1, k2, k3, k4, k5, k6, _⟩ := h
  exact ⟨S', x', A', T', k1, k5, k2, h5, k6 _ h6 h7.size, h7.trans (k4.below h5 h6 h7.size)⟩
theorem al_insert {w w' : World} {tb : Nat} {l : List Nat} (h : Alive w w' tb l) (a : Int) (s : ByteArray) (N : Nat) (hN : Cnt s N) (hs : s.size ≤ 1048576) (ha : -9223372036854775808 ≤ a ∧ a ≤ 9223372036854775807) :
    Calls Try.prog 9 #[.pointer (some ⟨tb, 0, none⟩), .int .i64 a, .string s] w' fun e w2 => e = .returned (.int .i64 (ine l a s N)) ∧ Alive w w2 tb (if ine l a s N = 0 then l.take a.toNat ++ (bl s ++ l.drop a.toNat) else l) := by
  obtain ⟨S, x, A, T, h1, h2, h3, h5, h6, h7⟩ := h
  subst h3
  refine (insert_any h1 h2 a s N hN hs ha).mono ?_
  rintro e w2 ⟨rfl, he⟩
  exact ⟨rfl, Alive.edited he h5 h6 h7⟩
theorem al_delete {w w' : World} {tb : Nat} {l : List Nat} (h : Alive w w' tb l) (a b : Int) (ha : -9223372036854775808 ≤ a ∧ a ≤ 9223372036854775807) (hb : -9223372036854775808 ≤ b ∧ b ≤ 9223372036854775807) :
    Calls Try.prog 10 #[.pointer (some ⟨tb, 0, none⟩), .int .i64 a, .int .i64 b] w' fun e w2 => e = .returned (.int .i64 (spe l a b)) ∧ Alive w w2 tb (if spe l a b = 0 then l.take a.toNat ++ l.drop b.toNat else l) := by
  obtain ⟨S, x, A, T, h1, h2, h3, h5, h6, h7⟩ := h
  subst h3
  refine (edited_delete h1 h2 a b ha hb).mono ?_
  rintro e w2 ⟨rfl, he⟩
  exact ⟨rfl, Alive.edited he h5 h6 h7⟩
theorem al_read {w w' : World} {tb : Nat} {l : List Nat} (h : Alive w w' tb l) (a b : Int) (ha : -9223372036854775808 ≤ a ∧ a ≤ 9223372036854775807) (hb : -9223372036854775808 ≤ b ∧ b ≤ 9223372036854775807) :
    Calls Try.prog 12 #[.pointer (some ⟨tb, 0, none⟩), .int .i64 a, .int .i64 b] w' fun e w2 => e = .returned (.tuple #[.string (tx (rdp l a b)), .int .i64 (spe l a b)]) ∧ Alive w w2 tb l := by
  have h0 := h
  obtain ⟨S, x, A, T, h1, h2, h3, h5, h6, h7⟩ := h
  subst h3
  refine (read_part h1 a b ha hb).mono ?_
  rintro e w2 ⟨rfl, he⟩
  exact ⟨rfl, h0.below he⟩
theorem al_string {w w' : World} {tb : Nat} {l : List Nat} (h : Alive w w' tb l) :
    Calls Try.prog 11 #[.pointer (some ⟨tb, 0, none⟩)] w' fun e w2 => e = .returned (.string (tx l)) ∧ Alive w w2 tb l := by
  have h0 := h
  obtain ⟨S, x, A, T, h1, h2, h3, h5, h6, h7⟩ := h
  subst h3
  refine (string_any h1).mono ?_
  rintro e w2 ⟨rfl, he⟩
  exact ⟨rfl, h0.below he⟩
theorem al_len {w w' : World} {tb : Nat} {l : List Nat} (h : Alive w w' tb l) :
    Calls Try.prog 13 #[.pointer (some ⟨tb, 0, none⟩)] w' fun e w2 => e = .returned (.int .i64 (l.length : Nat)) ∧ Alive w w2 tb l := by
  have h0 := h
  obtain ⟨S, x, A, T, h1, h2, h3, h5, h6, h7⟩ := h
  subst h3
  refine (len_any h1).mono ?_
  rintro e w2 ⟨rfl, he⟩
  exact ⟨rfl, h0.below he⟩
theorem al_lines {w w' : World} {tb : Nat} {l : List Nat} (h : Alive w w' tb l) :
    Calls Try.prog 16 #[.pointer (some ⟨tb, 0, none⟩)] w' fun e w2 => e = .returned (.int .i64 (nl l : Nat)) ∧ Alive w w2 tb l := by
  have h0 := h
  obtain ⟨S, x, A, T, h1, h2, h3, h5, h6, h7⟩ := h
  subst h3
  refine (lines_any h1).mono ?_
  rintro e w2 ⟨rfl, he⟩
  exact ⟨rfl, h0.below he⟩
end Go.Proofs.Ytfikmlgmklnlaab
