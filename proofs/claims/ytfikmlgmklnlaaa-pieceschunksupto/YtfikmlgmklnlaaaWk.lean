/-
  Plain: the trees stay balanced, whatever is joined, parted and met; and few pieces come to be. No program in it.
-/
import Derived.Test.YtfikmlgmklnlaaaWa
namespace Go.Proofs.Ytfikmlgmklnlaaa
set_option linter.unusedSimpArgs false
set_option linter.unusedVariables false

def Avl : Tr → Prop
  | .nil => True
  | .node l _ r => (l.dep ≤ r.dep + 1 ∧ r.dep ≤ l.dep + 1) ∧ Avl l ∧ Avl r

theorem bal_avl (l r : Tr) (p : Pc) (hl : Avl l) (hr : Avl r) (h : l.dep ≤ r.dep + 2 ∧ r.dep ≤ l.dep + 2) :
    Avl (bal l p r) ∧ (max l.dep r.dep ≤ (bal l p r).dep ∧ (bal l p r).dep ≤ 1 + max l.dep r.dep) ∧ (l.dep ≤ r.dep + 1 → r.dep ≤ l.dep + 1 → (bal l p r).dep = 1 + max l.dep r.dep) := by
  unfold bal
  by_cases h1 : r.dep + 1 < l.dep
  · rw [if_pos h1]
    cases l with
    | nil => simp [Tr.dep] at h1
    | node ll lp lr =>
      obtain ⟨⟨q1, q2⟩, q3, q4⟩ := hl
      simp only [Tr.dep] at h h1
      simp only [leanL]
      by_cases h2 : ll.dep < lr.dep
      · rw [if_pos h2]
        cases lr with
        | nil => simp [Tr.dep] at h2
        | node a q c =>
          obtain ⟨⟨e1, e2⟩, e3, e4⟩ := q4
          simp only [Tr.dep] at *
          simp only [turnL, turnR, Avl, Tr.dep]
          refine ⟨⟨?_, ⟨?_, q3, e3⟩, ⟨?_, e4, hr⟩⟩, ?_, ?_⟩ <;> omega
      · rw [if_neg h2]
        simp only [turnR, Avl, Tr.dep]
        refine ⟨⟨?_, q3, ⟨?_, q4, hr⟩⟩, ?_, ?_⟩ <;> omega
  · rw [if_neg h1]
    by_cases h2 : l.dep + 1 < r.dep
    · rw [if_pos h2]
      cases r with
      | nil => simp [Tr.dep] at h2
      | node rl rp rr =>
        obtain ⟨⟨q1, q2⟩, q3, q4⟩ := hr
        simp only [Tr.dep] at h h2 h1
        simp only [leanR]
        by_cases h3 : rr.dep < rl.dep
        · rw [if_pos h3]
          cases rl with
          | nil => simp [Tr.dep] at h3
          | node a q c =>
            obtain ⟨⟨e1, e2⟩, e3, e4⟩ := q3
            simp only [Tr.dep] at *
            simp only [turnL, turnR, Avl, Tr.dep]
            refine ⟨⟨?_, ⟨?_, hl, e3⟩, ⟨?_, e4, q4⟩⟩, ?_, ?_⟩ <;> omega
        · rw [if_neg h3]
          simp only [turnL, Avl, Tr.dep]
          refine ⟨⟨?_, ⟨?_, hl, q3⟩, q4⟩, ?_, ?_⟩ <;> omega
    · rw [if_neg h2]
      exact ⟨⟨⟨by omega, by omega⟩, hl, hr⟩, ⟨by simp only [Tr.dep]; omega, by simp only [Tr.dep]; omega⟩, fun _ _ => rfl⟩

theorem jn_avl (l r : Tr) (p : Pc) (hl : Avl l) (hr : Avl r) : Avl (jn l p r) ∧ max l.dep r.dep ≤ (jn l p r).dep ∧ (jn l p r).dep ≤ 1 + max l.dep r.dep := by
  fun_induction jn l p r with
  | case1 r ll lp lr h ih =>
    obtain ⟨⟨q1, q2⟩, q3, q4⟩ := hl
    obtain ⟨a1, a2, a3⟩ := ih q4 hr
    simp only [Tr.dep] at h
    obtain ⟨b1, ⟨b2, b3⟩, b4⟩ := bal_avl ll (jn lr p r) lp q3 a1 (by omega)
    refine ⟨b1, ?_, ?_⟩
    · simp only [Tr.dep]
      by_cases c : ll.dep ≤ (jn lr p r).dep + 1 ∧ (jn lr p r).dep ≤ ll.dep + 1
      · have := b4 c.1 c.2; omega
      · omega
    · simp only [Tr.dep]
      by_cases c : ll.dep ≤ (jn lr p r).dep + 1 ∧ (jn lr p r).dep ≤ ll.dep + 1
      · have := b4 c.1 c.2; omega
      · omega
  | case2 r h => simp [Tr.dep] at h
  | case3 l rl rp rr h h2 ih =>
    obtain ⟨⟨q1, q2⟩, q3, q4⟩ := hr
    obtain ⟨a1, a2, a3⟩ := ih hl q3
    simp only [Tr.dep] at h h2
    obtain ⟨b1, ⟨b2, b3⟩, b4⟩ := bal_avl (jn l p rl) rr rp a1 q4 (by omega)
    refine ⟨b1, ?_, ?_⟩
    · simp only [Tr.dep]
      by_cases c : (jn l p rl).dep ≤ rr.dep + 1 ∧ rr.dep ≤ (jn l p rl).dep + 1
      · have := b4 c.1 c.2; omega
      · omega
    · simp only [Tr.dep]
      by_cases c : (jn l p rl).dep ≤ rr.dep + 1 ∧ rr.dep ≤ (jn l p rl).dep + 1
      · have := b4 c.1 c.2; omega
      · omega
  | case4 l h h2 => simp [Tr.dep] at h2
  | case5 l r h1 h2 =>
    refine ⟨⟨by omega, hl, hr⟩, ?_, ?_⟩ <;> simp only [Tr.dep] <;> omega

theorem shf_avl : ∀ (l : Tr) (p : Pc) (r : Tr), Avl (.node l p r) → Avl (shf l p r).2 ∧ (Tr.node l p r).dep ≤ (shf l p r).2.dep + 1 ∧ (shf l p r).2.dep ≤ (Tr.node l p r).dep
  | .nil, p, r, ⟨⟨q1, q2⟩, q3, q4⟩ => by
    simp only [shf, Tr.dep] at *
    exact ⟨q4, by omega, by omega⟩
  | .node ll lp lr, p, r, ⟨⟨q1, q2⟩, q3, q4⟩ => by
    obtain ⟨a1, a2, a3⟩ := shf_avl ll lp lr q3
    obtain ⟨b1, ⟨b2, b3⟩, b4⟩ := bal_avl (shf ll lp lr).2 r p a1 q4 (by omega)
    simp only [shf]
    refine ⟨b1, ?_, ?_⟩
    · simp only [Tr.dep] at *
      by_cases c : (shf ll lp lr).2.dep ≤ r.dep + 1 ∧ r.dep ≤ (shf ll lp lr).2.dep + 1
      · have := b4 c.1 c.2; omega
      · omega
    · simp only [Tr.dep] at *
      by_cases c : (shf ll lp lr).2.dep ≤ r.dep + 1 ∧ r.dep ≤ (shf ll lp lr).2.dep + 1
      · have := b4 c.1 c.2; omega
      · omega
theorem mt_avl (l r : Tr) (hl : Avl l) (hr : Avl r) : Avl (mt l r) := by
  cases r with
  | nil => exact hl
  | node rl rp rr => exact (jn_avl l _ _ hl (shf_avl rl rp rr hr).1).1
theorem sp_avl : ∀ (t : Tr) (a : Int), Avl t → Avl (sp t a).1 ∧ Avl (sp t a).2
  | .nil, a, _ => ⟨trivial, trivial⟩
  | .node l p r, a, ⟨_, hl, hr⟩ => by
    have h1 := sp_avl l a hl
    have h2 := sp_avl r (a - (l.flat.length : Int) - (p.l.length : Int)) hr
    rw [sp]
    split
    · exact ⟨h1.1, (jn_avl _ _ _ h1.2 hr).1⟩
    · split
      · exact ⟨(jn_avl _ _ _ hl h2.1).1, h2.2⟩
      · exact ⟨(jn_avl l .nil _ hl trivial).1, (jn_avl .nil r _ trivial hr).1⟩
theorem sp_cnt : ∀ (t : Tr) (a : Int), (sp t a).1.pcs.length + (sp t a).2.pcs.length ≤ t.pcs.length + 1
  | .nil, a => by simp [sp, Tr.pcs]
  | .node l p r, a => by
    have h1 := sp_cnt l a
    have h2 := sp_cnt r (a - (l.flat.length : Int) - (p.l.length : Int))
    rw [sp]
    split
    · simp only [jn_pcs, Tr.pcs, List.length_append, List.length_cons]; omega
    · split
      · simp only [jn_pcs, Tr.pcs, List.length_append, List.length_cons]; omega
      · simp only [jn_pcs, Tr.pcs, List.length_append, List.length_cons, List.length_nil]; omega
theorem mt_cnt (l r : Tr) : (mt l r).pcs.length = l.pcs.length + r.pcs.length := by rw [mt_pcs]; simp

/-- A tree so deep has so many pieces. -/
theorem avl_cnt : ∀ (k : Nat) (t : Tr), Avl t → 2 * k + 1 ≤ t.dep → 2 ^ k ≤ t.pcs.length
  | 0, .nil, _, h => by simp [Tr.dep] at h
  | 0, .node l p r, _, _ => by simp [Tr.pcs]; omega
  | k + 1, .nil, _, h => by simp [Tr.dep] at h
  | k + 1, .node l p r, ⟨⟨q1, q2⟩, q3, q4⟩, h => by
    simp only [Tr.dep] at h
    have h1 := avl_cnt k l q3 (by omega)
    have h2 := avl_cnt k r q4 (by omega)
    simp only [Tr.pcs, List.length_append, List.length_cons, Nat.pow_succ]
    omega
end Go.Proofs.Ytfikmlgmklnlaaa
