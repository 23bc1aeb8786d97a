/-
  The document's regions, one after the other: what is known on the way. Plain.
-/
import Derived.Test.YtoodhpgaikmalaaAh
namespace Go.Proofs.Ytoodhpgaikmalaa
set_option linter.unusedSimpArgs false
set_option linter.unusedVariables false

/-- What is known ahead of region k. -/
structure Pw (ps : List (List Key)) (rs : List Rg) (k : Nat) (Q : List (List Key)) (last keep : Int) : Prop where
  go : rsf ps Q last keep (rs.drop k) = rsf ps ps (-1) (-1) rs
  lo : ps.length ≤ Q.length
  hi : Q.length ≤ ps.length + k
  l0 : -1 ≤ last
  l1 : last < Q.length
  k0 : -1 ≤ keep
  k1 : keep < ps.length
theorem Pw.zero (ps : List (List Key)) (rs : List Rg) : Pw ps rs 0 ps (-1) (-1) := ⟨by simp, Nat.le_refl _, by omega, by omega, by omega, by omega, by omega⟩
theorem drop_get (rs : List Rg) (k : Nat) (r : Rg) (hr : rs[k]? = some r) : rs.drop k = r :: rs.drop (k + 1) := by
  have hl := (List.getElem?_eq_some_iff.1 hr).1
  rw [List.drop_eq_getElem_cons hl, (List.getElem?_eq_some_iff.1 hr).2]
theorem Pw.no {ps : List (List Key)} {rs : List Rg} {k : Nat} {Q : List (List Key)} {last keep : Int} (h : Pw ps rs k Q last keep) (r : Rg) (hr : rs[k]? = some r) (hn : rst ps Q last keep r = none) : rsf ps ps (-1) (-1) rs = none := by
  rw [← h.go, drop_get _ _ _ hr]
  simp only [rsf, hn]
theorem Pw.done {ps : List (List Key)} {rs : List Rg} {Q : List (List Key)} {last keep : Int} (h : Pw ps rs rs.length Q last keep) : rsf ps ps (-1) (-1) rs = if 0 ≤ keep then (if last = (ps.length : Int) - 1 then some (Q.take keep.toNat) else none) else some Q := by
  rw [← h.go, List.drop_length]
  rfl
theorem Pw.changed {ps : List (List Key)} {rs : List Rg} {k : Nat} {Q : List (List Key)} {last keep : Int} (h : Pw ps rs k Q last keep) (p f d : Nat) (ls x : List Key) (hr : rs[k]? = some ⟨(p : Nat), 1, (f : Nat), (d : Nat), ls⟩)
    (hl : last < (p : Int)) (hk : keep < 0) (hx : ps[p]? = some x) (hd : f + d ≤ x.length) : Pw ps rs (k + 1) (Q.set p (x.take f ++ (ls ++ x.drop (f + d)))) (p : Nat) keep := by
  have hp := (List.getElem?_eq_some_iff.1 hx).1
  have hgd : ps.getD p [] = x := by rw [List.getD_eq_getElem?_getD, hx]; rfl
  have hst : rst ps Q last keep ⟨(p : Nat), 1, (f : Nat), (d : Nat), ls⟩ = some (Q.set p (x.take f ++ (ls ++ x.drop (f + d))), (p : Int), keep) := by
    unfold rst
    simp only [Int.toNat_natCast, hgd]
    rw [if_neg (by omega), if_pos trivial, if_pos (by simp [chg, hgd, hx]; omega)]
  have hg := h.go
  rw [drop_get _ _ _ hr] at hg
  simp only [rsf, hst] at hg
  exact ⟨hg, by rw [List.length_set]; exact h.lo, by rw [List.length_set]; have := h.hi; omega, by omega, by rw [List.length_set]; have := h.lo; omega, h.k0, h.k1⟩
theorem Pw.added {ps : List (List Key)} {rs : List Rg} {k : Nat} {Q : List (List Key)} {last keep : Int} (h : Pw ps rs k Q last keep) (ls : List Key) (hr : rs[k]? = some ⟨(Q.length : Nat), 2, 0, 0, ls⟩)
    (hk : keep < 0) : Pw ps rs (k + 1) (Q ++ [ls]) (Q.length : Nat) keep := by
  have hst : rst ps Q last keep ⟨(Q.length : Nat), 2, 0, 0, ls⟩ = some (Q ++ [ls], ((Q.length : Nat) : Int), keep) := by
    unfold rst
    simp only
    have := h.l1
    rw [if_neg (by omega), if_neg (by omega), if_pos trivial, if_pos ⟨by first | trivial | rfl, by first | trivial | rfl, by first | trivial | rfl⟩]
  have hg := h.go
  rw [drop_get _ _ _ hr] at hg
  simp only [rsf, hst] at hg
  have h1 := h.lo
  have h2 := h.hi
  exact ⟨hg, by simp; omega, by simp; omega, by omega, by simp; omega, h.k0, h.k1⟩
theorem Pw.gone {ps : List (List Key)} {rs : List Rg} {k : Nat} {Q : List (List Key)} {last keep : Int} (h : Pw ps rs k Q last keep) (p : Nat) (x : List Key) (hr : rs[k]? = some ⟨(p : Nat), 3, 0, (x.length : Nat), []⟩)
    (hl : last < (p : Int)) (hx : ps[p]? = some x) (hk : ¬ (0 ≤ keep ∧ (p : Int) ≠ last + 1)) : Pw ps rs (k + 1) Q (p : Nat) (if keep < 0 then (p : Int) else keep) := by
  have hp := (List.getElem?_eq_some_iff.1 hx).1
  have hgd : ps.getD p [] = x := by rw [List.getD_eq_getElem?_getD, hx]; rfl
  have hst : rst ps Q last keep ⟨(p : Nat), 3, 0, (x.length : Nat), []⟩ = some (Q, (p : Int), if keep < 0 then (p : Int) else keep) := by
    unfold rst
    simp only [Int.toNat_natCast, hgd]
    rw [if_neg (by omega), if_neg (by omega), if_neg (by omega), if_pos trivial, if_pos ⟨by omega, by first | trivial | rfl, by first | trivial | rfl, by first | trivial | rfl, hk⟩]
  have hg := h.go
  rw [drop_get _ _ _ hr] at hg
  simp only [rsf, hst] at hg
  have h1 := h.lo
  have h2 := h.k0
  have h3 := h.k1
  refine ⟨hg, h.lo, by have := h.hi; omega, by omega, by omega, ?_, ?_⟩
  · split <;> omega
  · split <;> omega
end Go.Proofs.Ytoodhpgaikmalaa
