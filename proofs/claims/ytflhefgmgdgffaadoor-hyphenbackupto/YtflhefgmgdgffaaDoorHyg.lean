/-
  The patterns' tree: its nodes as the beginnings that patterns have, one behind the other; what its two maps hold.
-/
import Derived.Test.YtflhefgmgdgffaaDoorHyf
namespace Go.Proofs.YtflhefgmgdgffaaDoor
open Go.RowKit Go.Maps
set_option linter.unusedSimpArgs false
set_option linter.unusedVariables false

/-- Nodes: the root first, none twice, with each its beginnings. -/
structure TrOk (Nd : List (List Nat)) : Prop where
  root : Nd[0]? = some []
  uniq : ∀ (i j : Nat) (p : List Nat), Nd[i]? = some p → Nd[j]? = some p → i = j
  pre : ∀ (i : Nat) (p : List Nat) (m : Nat), Nd[i]? = some p → ∃ j : Nat, Nd[j]? = some (p.take m)
theorem tr_new : TrOk [[]] := by
  refine ⟨rfl, ?_, ?_⟩
  · intro i j p hi hj
    have h1 : i < 1 := by have := (List.getElem?_eq_some_iff.1 hi).1; simpa using this
    have h2 : j < 1 := by have := (List.getElem?_eq_some_iff.1 hj).1; simpa using this
    omega
  · intro i p m hi
    have h1 : i < 1 := by have := (List.getElem?_eq_some_iff.1 hi).1; simpa using this
    obtain rfl : i = 0 := by omega
    simp at hi; subst hi
    exact ⟨0, by simp⟩
theorem TrOk.pos {Nd : List (List Nat)} (h : TrOk Nd) : 0 < Nd.length := (List.getElem?_eq_some_iff.1 h.root).1
theorem nd_lt {Nd : List (List Nat)} {i : Nat} {p : List Nat} (h : Nd[i]? = some p) : i < Nd.length := (List.getElem?_eq_some_iff.1 h).1
theorem nd_app {Nd : List (List Nat)} {i : Nat} {p q : List Nat} (h : Nd[i]? = some p) : (Nd ++ [q])[i]? = some p := by
  rw [List.getElem?_append_left (nd_lt h)]; exact h
theorem nd_new (Nd : List (List Nat)) (q : List Nat) : (Nd ++ [q])[Nd.length]? = some q := by simp
theorem nd_cases {Nd : List (List Nat)} {i : Nat} {p q : List Nat} (h : (Nd ++ [q])[i]? = some p) : Nd[i]? = some p ∨ (i = Nd.length ∧ p = q) := by
  have hl := nd_lt h
  simp at hl
  by_cases c : i < Nd.length
  · rw [List.getElem?_append_left c] at h; exact .inl h
  · obtain rfl : i = Nd.length := by omega
    simp at h
    exact .inr ⟨rfl, h.symm⟩
theorem tr_add {Nd : List (List Nat)} (h : TrOk Nd) {f : Nat} {p : List Nat} {c : Nat} (hf : Nd[f]? = some p) (hn : ∀ t : Nat, Nd[t]? ≠ some (p ++ [c])) : TrOk (Nd ++ [p ++ [c]]) := by
  refine ⟨nd_app h.root, ?_, ?_⟩
  · intro i j q hi hj
    rcases nd_cases hi with hi | ⟨rfl, e⟩
    · rcases nd_cases hj with hj | ⟨rfl, e⟩
      · exact h.uniq i j q hi hj
      · rw [e] at hi; exact absurd hi (hn i)
    · rcases nd_cases hj with hj | ⟨rfl, e'⟩
      · rw [e] at hj; exact absurd hj (hn j)
      · rfl
  · intro i q m hi
    rcases nd_cases hi with hi | ⟨rfl, e⟩
    · obtain ⟨j, hj⟩ := h.pre i q m hi
      exact ⟨j, nd_app hj⟩
    · subst e
      by_cases hm : m ≤ p.length
      · obtain ⟨j, hj⟩ := h.pre f p m hf
        exact ⟨j, by rw [List.take_append_of_le_length hm]; exact nd_app hj⟩
      · exact ⟨Nd.length, by rw [List.take_of_length_le (by simp; omega)]; exact nd_new _ _⟩
/-- Where an edge leads. -/
def ER (Nd : List (List Nat)) (a v : Value) : Prop := ∃ (f c t : Nat) (p : List Nat), a = edgeV f c ∧ v = .int .i64 (t : Int) ∧ Nd[f]? = some p ∧ Nd[t]? = some (p ++ [c])
/-- The levels at a node. -/
def LR (Nd : List (List Nat)) (Q : List (List Nat × Value)) (a v : Value) : Prop := ∃ (t : Nat) (p : List Nat), a = .int .i64 (t : Int) ∧ Nd[t]? = some p ∧ lookL Q p = some v
theorem er_hit {Nd : List (List Nat)} {f c t : Nat} {p : List Nat} (hf : Nd[f]? = some p) (ht : Nd[t]? = some (p ++ [c])) : ER Nd (edgeV f c) (.int .i64 (t : Int)) := ⟨f, c, t, p, rfl, rfl, hf, ht⟩
theorem er_iff {Nd : List (List Nat)} {f c : Nat} {p : List Nat} (hf : Nd[f]? = some p) (v : Value) : ER Nd (edgeV f c) v ↔ ∃ t : Nat, v = .int .i64 (t : Int) ∧ Nd[t]? = some (p ++ [c]) := by
  constructor
  · rintro ⟨f', c', t, p', e1, e2, h1, h2⟩
    obtain ⟨rfl, rfl⟩ := edgeV_inj e1
    rw [hf] at h1; injection h1 with h1; subst h1
    exact ⟨t, e2, h2⟩
  · rintro ⟨t, e, h⟩
    exact ⟨f, c, t, p, rfl, e, hf, h⟩
theorem er_add {Nd : List (List Nat)} (h : TrOk Nd) {f : Nat} {p : List Nat} {c : Nat} (hf : Nd[f]? = some p) (hn : ∀ t : Nat, Nd[t]? ≠ some (p ++ [c])) (a v : Value) : ER (Nd ++ [p ++ [c]]) a v ↔ rput (ER Nd) (edgeV f c) (.int .i64 (Nd.length : Int)) a v := by
  constructor
  · rintro ⟨f', c', t, p', rfl, rfl, h1, h2⟩
    rcases nd_cases h2 with g2 | ⟨rfl, e2⟩
    · right
      obtain ⟨j, hj⟩ := h.pre t _ p'.length g2
      rw [List.take_append_of_le_length (Nat.le_refl _), List.take_length] at hj
      have hj' := nd_app (q := p ++ [c]) hj
      have e : f' = j := by
        rcases nd_cases h1 with h1 | ⟨rfl, e1⟩
        · exact h.uniq _ _ _ h1 hj
        · rw [e1] at hj; exact absurd hj (hn j)
      subst e
      refine ⟨fun e => ?_, f', c', t, p', rfl, rfl, hj, g2⟩
      obtain ⟨rfl, rfl⟩ := edgeV_inj e
      rw [hf] at hj; injection hj with hj; subst hj
      exact hn t g2
    · obtain ⟨e3, e4⟩ := List.append_inj' e2 rfl
      injection e4 with e4
      subst e3; subst e4
      left
      rcases nd_cases h1 with h1 | ⟨rfl, e1⟩
      · exact ⟨by rw [h.uniq _ _ _ h1 hf], rfl⟩
      · have := congrArg List.length e1; simp at this
  · rintro (⟨rfl, rfl⟩ | ⟨hne, f', c', t, p', rfl, rfl, h1, h2⟩)
    · exact ⟨f, c, Nd.length, p, rfl, rfl, nd_app hf, nd_new _ _⟩
    · exact ⟨f', c', t, p', rfl, rfl, nd_app h1, nd_app h2⟩
theorem lr_add {Nd : List (List Nat)} {Q : List (List Nat × Value)} (hq : ∀ e ∈ Q, ∃ t : Nat, Nd[t]? = some e.1) {q : List Nat} (hn : ∀ t : Nat, Nd[t]? ≠ some q) (a v : Value) : LR (Nd ++ [q]) Q a v ↔ LR Nd Q a v := by
  constructor
  · rintro ⟨t, p, rfl, h1, h2⟩
    rcases nd_cases h1 with h1 | ⟨rfl, e⟩
    · exact ⟨t, p, rfl, h1, h2⟩
    · obtain ⟨j, hj⟩ := hq _ (lookL_mem Q p v h2)
      simp only at hj
      rw [e] at hj
      exact absurd hj (hn j)
  · rintro ⟨t, p, rfl, h1, h2⟩
    exact ⟨t, p, rfl, nd_app h1, h2⟩
theorem lr_put {Nd : List (List Nat)} (h : TrOk Nd) {Q : List (List Nat × Value)} {n : Nat} {p : List Nat} (hn : Nd[n]? = some p) (u : Value) (a v : Value) : LR Nd (Q ++ [(p, u)]) a v ↔ rput (LR Nd Q) (.int .i64 (n : Int)) u a v := by
  constructor
  · rintro ⟨t, p', rfl, h1, h2⟩
    rw [lookL_snoc] at h2
    by_cases c : p = p'
    · subst c
      simp at h2
      left
      exact ⟨by rw [h.uniq _ _ _ h1 hn], h2.symm⟩
    · simp only [c, if_false] at h2
      right
      refine ⟨fun e => ?_, t, p', rfl, h1, h2⟩
      have : t = n := by injection e with _ e; omega
      subst this
      rw [hn] at h1; injection h1 with h1
      exact c h1
  · rintro (⟨rfl, rfl⟩ | ⟨hne, t, p', rfl, h1, h2⟩)
    · exact ⟨n, p, rfl, hn, by rw [lookL_snoc]; simp⟩
    · refine ⟨t, p', rfl, h1, ?_⟩
      rw [lookL_snoc, if_neg, h2]
      intro e
      subst e
      exact hne (by rw [h.uniq _ _ _ h1 hn])
theorem lr_iff {Nd : List (List Nat)} {Q : List (List Nat × Value)} {n : Nat} {p : List Nat} (hn : Nd[n]? = some p) (v : Value) : LR Nd Q (.int .i64 (n : Int)) v ↔ lookL Q p = some v := by
  constructor
  · rintro ⟨t, p', e, h1, h2⟩
    have : t = n := by injection e with _ e; omega
    subst this
    rw [hn] at h1; injection h1 with h1
    rw [h1]; exact h2
  · intro h
    exact ⟨n, p, rfl, hn, h⟩
/-- The tree lies in two maps. -/
structure TrAt (w : World) (eb lb : Nat) (Nd : List (List Nat)) (Q : List (List Nat × Value)) : Prop where
  ok : TrOk Nd
  edges : MapR Tryd.prog 96 w eb (Nd.length - 1) (ER Nd)
  levels : ∃ n, MapR Tryd.prog 3 w lb n (LR Nd Q)
  ends : ∀ e ∈ Q, ∃ t : Nat, Nd[t]? = some e.1
  ne : eb ≠ lb
theorem TrAt.keep {w w' : World} {eb lb : Nat} {Nd : List (List Nat)} {Q : List (List Nat × Value)} (h : TrAt w eb lb Nd Q) (h1 : w'.heap[eb]? = w.heap[eb]?) (h2 : w'.heap[lb]? = w.heap[lb]?) : TrAt w' eb lb Nd Q :=
  ⟨h.ok, h.edges.keep h1, h.levels.imp fun n hn => hn.keep h2, h.ends, h.ne⟩
theorem TrAt.below {w w' : World} {eb lb : Nat} {Nd : List (List Nat)} {Q : List (List Nat × Value)} (h : TrAt w eb lb Nd Q) (hb : Below w.heap.size w w') : TrAt w' eb lb Nd Q :=
  h.keep (hb.block _ h.edges.lt) (hb.block _ (by obtain ⟨n, hn⟩ := h.levels; exact hn.lt))
theorem nd_small {Nd : List (List Nat)} {p : List Nat} {f : Nat} (h : Nd[f]? = some p) (hz : Nd.length ≤ 1000000) : f ≤ 1000000 := by have := nd_lt h; omega
end Go.Proofs.YtflhefgmgdgffaaDoor
