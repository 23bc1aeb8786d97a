/-
  Plain: pieces in a tree, as the program keeps them: what it has, how it is turned, joined, parted and met, and that the bytes stay what they were, one behind the other. No program in it.
-/
import Derived.Test.YtfikmlgmklnlaaaVn
namespace Go.Proofs.Ytfikmlgmklnlaaa
set_option linter.unusedSimpArgs false
set_option linter.unusedVariables false

/-- A piece: the block and the place in it that its bytes lie at, the room, the bytes. -/
structure Pc where
  a : Nat
  o : Nat
  cap : Nat
  l : List Nat

/-- A tree of pieces. -/
inductive Tr where
  | nil
  | node (l : Tr) (p : Pc) (r : Tr)

/-- How many line ends. -/
def nl (l : List Nat) : Nat := l.countP (· == 10)
theorem nl_app (a b : List Nat) : nl (a ++ b) = nl a + nl b := by simp [nl]
theorem nl_le (a : List Nat) : nl a ≤ a.length := List.countP_le_length

def Tr.pcs : Tr → List Pc
  | .nil => []
  | .node l p r => l.pcs ++ p :: r.pcs
def flt : List Pc → List Nat
  | [] => []
  | p :: ps => p.l ++ flt ps
theorem flt_app (a b : List Pc) : flt (a ++ b) = flt a ++ flt b := by
  induction a with
  | nil => rfl
  | cons p ps ih => simp [flt, ih]
def Tr.flat (t : Tr) : List Nat := flt t.pcs
theorem flat_nil : Tr.flat .nil = [] := rfl
theorem flat_node (l : Tr) (p : Pc) (r : Tr) : (Tr.node l p r).flat = l.flat ++ (p.l ++ r.flat) := by
  simp [Tr.flat, Tr.pcs, flt_app, flt]
def Tr.dep : Tr → Nat
  | .nil => 0
  | .node l _ r => 1 + max l.dep r.dep

theorem dep_le : ∀ t : Tr, t.dep ≤ t.pcs.length
  | .nil => Nat.le_refl _
  | .node l p r => by
    have h1 := dep_le l
    have h2 := dep_le r
    simp only [Tr.dep, Tr.pcs, List.length_append, List.length_cons]
    omega
theorem dep_pos {t : Tr} (h : 0 < t.dep) : ∃ l p r, t = .node l p r := by
  cases t with
  | nil => simp [Tr.dep] at h
  | node l p r => exact ⟨l, p, r, rfl⟩

def Ne (t : Tr) : Prop := ∀ p ∈ t.pcs, p.l ≠ []
theorem cnt_flt : ∀ (ps : List Pc), (∀ p ∈ ps, p.l ≠ []) → ps.length ≤ (flt ps).length
  | [], _ => Nat.le_refl _
  | p :: ps, h => by
    have h1 := cnt_flt ps (fun q hq => h q (List.mem_cons_of_mem _ hq))
    have h2 := List.length_pos_iff.2 (h p List.mem_cons_self)
    simp only [flt, List.length_append, List.length_cons]
    omega

def turnL : Tr → Tr
  | .node l p (.node rl q rr) => .node (.node l p rl) q rr
  | t => t
def turnR : Tr → Tr
  | .node (.node ll q lr) p r => .node ll q (.node lr p r)
  | t => t
def leanL : Tr → Tr
  | .node ll lp lr => if ll.dep < lr.dep then turnL (.node ll lp lr) else .node ll lp lr
  | .nil => .nil
def leanR : Tr → Tr
  | .node rl rp rr => if rr.dep < rl.dep then turnR (.node rl rp rr) else .node rl rp rr
  | .nil => .nil
def bal (l : Tr) (p : Pc) (r : Tr) : Tr :=
  if r.dep + 1 < l.dep then turnR (.node (leanL l) p r)
  else if l.dep + 1 < r.dep then turnL (.node l p (leanR r))
  else .node l p r
def jn (l : Tr) (p : Pc) (r : Tr) : Tr :=
  if r.dep + 1 < l.dep then
    match l with
    | .node ll lp lr => bal ll lp (jn lr p r)
    | .nil => .nil
  else if l.dep + 1 < r.dep then
    match r with
    | .node rl rp rr => bal (jn l p rl) rp rr
    | .nil => .nil
  else .node l p r
termination_by l.pcs.length + r.pcs.length
decreasing_by all_goals (simp only [Tr.pcs, List.length_append, List.length_cons]; omega)
def shf : Tr → Pc → Tr → Pc × Tr
  | .nil, p, r => (p, r)
  | .node ll lp lr, p, r => ((shf ll lp lr).1, bal (shf ll lp lr).2 p r)
def mt (l : Tr) : Tr → Tr
  | .nil => l
  | .node rl rp rr => jn l (shf rl rp rr).1 (shf rl rp rr).2
def tk (p : Pc) (k : Nat) : Pc := ⟨p.a, p.o, p.cap, p.l.take k⟩
def dr (p : Pc) (k : Nat) : Pc := ⟨p.a, p.o + k, p.cap - k, p.l.drop k⟩
/-- What is ahead of a place, and what behind it. -/
def sp : Tr → Int → Tr × Tr
  | .nil, _ => (.nil, .nil)
  | .node l p r, a =>
    if a - (l.flat.length : Int) ≤ 0 then ((sp l a).1, jn (sp l a).2 p r)
    else if (p.l.length : Int) ≤ a - (l.flat.length : Int) then (jn l p (sp r (a - (l.flat.length : Int) - (p.l.length : Int))).1, (sp r (a - (l.flat.length : Int) - (p.l.length : Int))).2)
    else (jn l (tk p (a - (l.flat.length : Int)).toNat) .nil, jn .nil (dr p (a - (l.flat.length : Int)).toNat) r)

theorem turnL_pcs (t : Tr) : (turnL t).pcs = t.pcs := by
  unfold turnL; split
  · simp [Tr.pcs]
  · rfl
theorem turnR_pcs (t : Tr) : (turnR t).pcs = t.pcs := by
  unfold turnR; split
  · simp [Tr.pcs]
  · rfl
theorem leanL_pcs (t : Tr) : (leanL t).pcs = t.pcs := by
  unfold leanL; split
  · split
    · rw [turnL_pcs]
    · rfl
  · rfl
theorem leanR_pcs (t : Tr) : (leanR t).pcs = t.pcs := by
  unfold leanR; split
  · split
    · rw [turnR_pcs]
    · rfl
  · rfl
theorem bal_pcs (l : Tr) (p : Pc) (r : Tr) : (bal l p r).pcs = l.pcs ++ p :: r.pcs := by
  unfold bal; split
  · rw [turnR_pcs]; simp [Tr.pcs, leanL_pcs]
  · split
    · rw [turnL_pcs]; simp [Tr.pcs, leanR_pcs]
    · rfl
theorem jn_pcs (l : Tr) (p : Pc) (r : Tr) : (jn l p r).pcs = l.pcs ++ p :: r.pcs := by
  fun_induction jn l p r with
  | case1 r ll lp lr h ih => rw [bal_pcs, ih]; simp [Tr.pcs]
  | case2 r h => simp [Tr.dep] at h
  | case3 l h rl rp rr h2 ih => rw [bal_pcs, ih]; simp [Tr.pcs]
  | case4 l h h2 => simp [Tr.dep] at h2
  | case5 => rfl
theorem jn_flat (l : Tr) (p : Pc) (r : Tr) : (jn l p r).flat = l.flat ++ (p.l ++ r.flat) := by
  simp [Tr.flat, jn_pcs, flt_app, flt]
theorem bal_flat (l : Tr) (p : Pc) (r : Tr) : (bal l p r).flat = l.flat ++ (p.l ++ r.flat) := by
  simp [Tr.flat, bal_pcs, flt_app, flt]
theorem shf_pcs : ∀ (l : Tr) (p : Pc) (r : Tr), (shf l p r).1 :: (shf l p r).2.pcs = l.pcs ++ p :: r.pcs
  | .nil, p, r => rfl
  | .node ll lp lr, p, r => by
    have h := shf_pcs ll lp lr
    simp only [shf, bal_pcs, Tr.pcs]
    rw [← h]
    simp
theorem mt_pcs (l r : Tr) : (mt l r).pcs = l.pcs ++ r.pcs := by
  cases r with
  | nil => simp [mt, Tr.pcs]
  | node rl rp rr => simp only [mt, jn_pcs, Tr.pcs, shf_pcs]
theorem mt_flat (l r : Tr) : (mt l r).flat = l.flat ++ r.flat := by simp [Tr.flat, mt_pcs, flt_app]
theorem sp_flat : ∀ (t : Tr) (a : Int), (sp t a).1.flat = t.flat.take a.toNat ∧ (sp t a).2.flat = t.flat.drop a.toNat
  | .nil, a => by simp [sp, flat_nil]
  | .node l p r, a => by
    have hl := sp_flat l a
    have hr := sp_flat r (a - (l.flat.length : Int) - (p.l.length : Int))
    rw [flat_node]
    unfold sp
    by_cases h1 : a - (l.flat.length : Int) ≤ 0
    · rw [if_pos h1]
      have e1 : a.toNat ≤ l.flat.length := by omega
      refine ⟨?_, ?_⟩
      · rw [hl.1, List.take_append_of_le_length e1]
      · rw [jn_flat, hl.2, List.drop_append_of_le_length e1]
    · rw [if_neg h1]
      by_cases h2 : (p.l.length : Int) ≤ a - (l.flat.length : Int)
      · rw [if_pos h2]
        have e1 : a.toNat = l.flat.length + (p.l.length + (a - (l.flat.length : Int) - (p.l.length : Int)).toNat) := by omega
        refine ⟨?_, ?_⟩
        · rw [jn_flat, hr.1, e1, List.take_length_add_append, List.take_length_add_append]
        · rw [hr.2, e1, List.drop_length_add_append, List.drop_length_add_append]
      · rw [if_neg h2]
        have e1 : a.toNat = l.flat.length + (a - (l.flat.length : Int)).toNat := by omega
        have e2 : (a - (l.flat.length : Int)).toNat ≤ p.l.length := by omega
        refine ⟨?_, ?_⟩
        · rw [jn_flat, e1, List.take_length_add_append, List.take_append_of_le_length e2]
          simp [tk, flat_nil]
        · rw [jn_flat, e1, List.drop_length_add_append, List.drop_append_of_le_length e2]
          simp [dr, flat_nil]
end Go.Proofs.Ytfikmlgmklnlaaa
