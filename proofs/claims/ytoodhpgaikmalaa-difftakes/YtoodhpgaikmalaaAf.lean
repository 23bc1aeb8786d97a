/-
  What the document makes of regions, step by step, and that it is what the program makes of them: plain.
-/
import Derived.Test.YtoodhpgaikmalaaAa
namespace Go.Proofs.Ytoodhpgaikmalaa
set_option linter.unusedSimpArgs false
set_option linter.unusedVariables false

/-- One region, as the document takes it: the pages so far, the last page, the first one that is gone. -/
def rst (ps : List (List Key)) (out : List (List Key)) (last keep : Int) (r : Rg) : Option (List (List Key) × Int × Int) :=
  if r.pg ≤ last ∨ (0 ≤ keep ∧ r.kd ≠ 3) then none
  else if r.kd = 1 then
    if chg ps r = true then some (out.set r.pg.toNat ((ps.getD r.pg.toNat []).take r.fr.toNat ++ (r.ls ++ (ps.getD r.pg.toNat []).drop (r.fr.toNat + r.od.toNat))), r.pg, keep) else none
  else if r.kd = 2 then
    if r.pg = out.length ∧ r.fr = 0 ∧ r.od = 0 then some (out ++ [r.ls], r.pg, keep) else none
  else if r.kd = 3 then
    if r.pg < ps.length ∧ r.fr = 0 ∧ r.od = ((ps.getD r.pg.toNat []).length : Int) ∧ r.ls.length = 0 ∧ ¬ (0 ≤ keep ∧ r.pg ≠ last + 1) then some (out, r.pg, if keep < 0 then r.pg else keep) else none
  else none
/-- All of them. -/
def rsf (ps : List (List Key)) : List (List Key) → Int → Int → List Rg → Option (List (List Key))
  | out, last, keep, [] => if 0 ≤ keep then (if last = (ps.length : Int) - 1 then some (out.take keep.toNat) else none) else some out
  | out, last, keep, r :: t => match rst ps out last keep r with
    | none => none
    | some (o, l, k) => rsf ps o l k t
/-- Behind the first page that is gone. -/
theorem rsf_gone (ps : List (List Key)) (out : List (List Key)) (n : Nat) (keep : Int) (t : List Rg) (hk : 0 ≤ keep) (hn : 0 < n) (hl : n ≤ ps.length) : rsf ps out ((n : Int) - 1) keep t = if alg (ps.drop n) n t = true then some (out.take keep.toNat) else none := by
  induction t generalizing n with
  | nil =>
    simp only [rsf, if_pos hk]
    by_cases c : n = ps.length
    · subst c
      rw [List.drop_length, if_pos rfl, if_pos (by rfl)]
    · have hd : ps.drop n = ps[n]'(by omega) :: ps.drop (n + 1) := List.drop_eq_getElem_cons (by omega)
      rw [hd, if_neg (by omega), if_neg (by simp [alg])]
  | cons r t ih =>
    by_cases c : n = ps.length
    · subst c
      rw [List.drop_length, if_neg (by simp [alg])]
      have : rst ps out ((ps.length : Int) - 1) keep r = none := by
        unfold rst
        by_cases h1 : r.pg ≤ (ps.length : Int) - 1 ∨ (0 ≤ keep ∧ r.kd ≠ 3)
        · rw [if_pos h1]
        · rw [if_neg h1]
          have h3 : r.kd = 3 := by
            by_cases d : r.kd = 3
            · exact d
            · exact absurd (Or.inr ⟨hk, d⟩) h1
          rw [if_neg (by omega), if_neg (by omega), if_pos h3, if_neg (fun h => by have := h.1; omega)]
      simp [rsf, this]
    · have hd : ps.drop n = ps[n]'(by omega) :: ps.drop (n + 1) := List.drop_eq_getElem_cons (by omega)
      have hgd : r.pg = n → ps.getD r.pg.toNat [] = ps[n]'(by omega) := fun e => by
        rw [e, Int.toNat_natCast, List.getD_eq_getElem?_getD, List.getElem?_eq_getElem (by omega)]; rfl
      rw [hd]
      simp only [alg]
      by_cases hg : gon (ps[n]'(by omega)) n r = true
      · have hg' := hg
        simp only [gon, Bool.and_eq_true, beq_iff_eq] at hg'
        obtain ⟨⟨⟨⟨g1, g2⟩, g3⟩, g4⟩, g5⟩ := hg'
        have hst : rst ps out ((n : Int) - 1) keep r = some (out, (n : Int), keep) := by
          unfold rst
          rw [if_neg (by omega), if_neg (by omega), if_neg (by omega), if_pos g1, if_pos ⟨by omega, g3, by rw [hgd g2]; exact g4, g5, by omega⟩, if_neg (by omega), g2]
        simp only [rsf, hst, hg, Bool.true_and]
        have := ih (n + 1) (by omega) (by omega)
        rw [show (((n + 1 : Nat) : Int) - 1) = (n : Int) by omega] at this
        rw [this]
        rfl
      · have hst : rst ps out ((n : Int) - 1) keep r = none := by
          unfold rst
          by_cases h1 : r.pg ≤ (n : Int) - 1 ∨ (0 ≤ keep ∧ r.kd ≠ 3)
          · rw [if_pos h1]
          · rw [if_neg h1]
            have h3 : r.kd = 3 := by
              by_cases d : r.kd = 3
              · exact d
              · exact absurd (Or.inr ⟨hk, d⟩) h1
            rw [if_neg (by omega), if_neg (by omega), if_pos h3]
            rw [if_neg]
            rintro ⟨a1, a2, a3, a4, a5⟩
            have e : r.pg = n := by
              by_cases d : r.pg = (n : Int) - 1 + 1
              · omega
              · exact absurd ⟨hk, d⟩ a5
            refine hg ?_
            simp only [gon, Bool.and_eq_true, beq_iff_eq]
            rw [hgd e] at a3
            exact ⟨⟨⟨⟨h3, e⟩, a2⟩, a3⟩, a4⟩
        have hf : gon (ps[n]'(by omega)) n r = false := by
          cases h : gon (ps[n]'(by omega)) n r with
          | true => exact absurd h hg
          | false => rfl
        simp [rsf, hst, hf]
/-- The pages ahead of the first one that is gone. -/
def tkS (ps out : List (List Key)) (s : Nat) : List (List Key) := if s < ps.length then out.take s else out
theorem appl_gone (Q : List (List Key)) (t : List Rg) (h : ∀ r ∈ t, r.kd = 3) : appl Q t = Q := by
  induction t generalizing Q with
  | nil => rfl
  | cons r t ih =>
    have h3 := h r (by simp)
    have : app1 Q r = Q := by unfold app1; rw [if_neg (by omega), if_neg (by omega)]
    show appl (app1 Q r) t = Q
    rw [this]
    exact ih Q (fun q hq => h q (by simp [hq]))
theorem rsf_stg (ps out : List (List Key)) (last : Int) (rs : List Rg) (h0 : -1 ≤ last) (hl : ps.length ≤ out.length) (hq : ∀ j : Nat, last < j → j < ps.length → out[j]? = ps[j]?) : rsf ps out last (-1) rs = (stg ps last out.length rs).map (fun s => appl (tkS ps out s) rs) := by
  induction rs generalizing out last with
  | nil =>
    simp only [rsf, stg, Option.map_some]
    rw [if_neg (by omega)]
    simp [tkS, appl]
  | cons r t ih =>
    by_cases c1 : r.pg ≤ last
    · have : rst ps out last (-1) r = none := by unfold rst; rw [if_pos (Or.inl c1)]
      simp only [rsf, this, stg, if_pos c1, Option.map_none]
    have hn1 : ¬ (r.pg ≤ last ∨ (0 ≤ (-1 : Int) ∧ r.kd ≠ 3)) := fun h => by
      rcases h with h | h
      · exact c1 h
      · omega
    by_cases k1 : r.kd = 1
    · by_cases hc : chg ps r = true
      · have hst : rst ps out last (-1) r = some (out.set r.pg.toNat ((ps.getD r.pg.toNat []).take r.fr.toNat ++ (r.ls ++ (ps.getD r.pg.toNat []).drop (r.fr.toNat + r.od.toNat))), r.pg, -1) := by
          unfold rst; rw [if_neg hn1, if_pos k1, if_pos hc]
        have hc' := hc
        simp [chg] at hc'
        obtain ⟨⟨⟨⟨-, k2⟩, -⟩, -⟩, -⟩ := hc'
        simp only [rsf, hst, stg, if_neg c1, if_pos hc]
        have hpl : r.pg.toNat < ps.length := by omega
        have ho : out[r.pg.toNat]? = ps[r.pg.toNat]? := hq _ (by omega) hpl
        rw [ih _ _ (by omega) (by rw [List.length_set]; exact hl) (fun j h1 h2 => by rw [List.getElem?_set_ne (by omega)]; exact hq j (by omega) h2), List.length_set]
        cases hs : stg ps r.pg out.length t with
        | none => rfl
        | some s =>
          have hgt := stg_gt _ _ _ _ _ (by omega) k2 hs (by omega)
          simp only [Option.map_some]
          congr 1
          show appl _ t = appl (app1 (tkS ps out s) r) t
          congr 1
          have hgd : (tkS ps out s).getD r.pg.toNat [] = ps.getD r.pg.toNat [] := by
            rw [List.getD_eq_getElem?_getD, List.getD_eq_getElem?_getD, ← ho]
            unfold tkS
            split
            · rw [List.getElem?_take_of_lt (by omega)]
            · rfl
          unfold app1
          rw [if_pos k1, hgd]
          unfold tkS
          split
          · rw [List.take_set]
          · rfl
      · have hst : rst ps out last (-1) r = none := by unfold rst; rw [if_neg hn1, if_pos k1, if_neg hc]
        simp only [rsf, hst, stg, if_neg c1, if_neg hc]
        rw [if_neg (by simp [add, k1]), if_neg]
        · rfl
        · rintro ⟨h1, h2⟩
          have := alg_kd _ _ _ h2 r (by simp)
          omega
    have hc : ¬ chg ps r = true := by simp [chg, k1]
    by_cases k2 : r.kd = 2
    · by_cases ha : add r out.length = true
      · have ha' := ha
        simp only [add, Bool.and_eq_true, beq_iff_eq] at ha'
        have hst : rst ps out last (-1) r = some (out ++ [r.ls], r.pg, -1) := by
          unfold rst; rw [if_neg hn1, if_neg k1, if_pos k2, if_pos ⟨ha'.1.1.2, ha'.1.2, ha'.2⟩]
        simp only [rsf, hst, stg, if_neg c1, if_neg hc, if_pos ha]
        have hpg := ha'.1.1.2
        rw [ih _ _ (by omega) (by simp; omega) (fun j h1 h2 => by omega)]
        rw [show ((out ++ [r.ls]).length : Int) = (out.length : Int) + 1 by simp]
        cases hs : stg ps r.pg ((out.length : Int) + 1) t with
        | none => rfl
        | some s =>
          have hsf := stg_far _ _ _ _ _ (by omega) hs
          simp only [Option.map_some]
          congr 1
          show appl _ t = appl (app1 (tkS ps out s) r) t
          congr 1
          have hns : ¬ s < ps.length := by omega
          simp only [tkS, app1, if_neg hns, if_neg k1, if_pos k2]
      · have hst : rst ps out last (-1) r = none := by
          unfold rst; rw [if_neg hn1, if_neg k1, if_pos k2, if_neg]
          rintro ⟨h1, h2, h3⟩
          exact ha (by simp [add, k2, h1, h2, h3])
        simp only [rsf, hst, stg, if_neg c1, if_neg hc, if_neg ha]
        rw [if_neg]
        · rfl
        · rintro ⟨h1, h2⟩
          have := alg_kd _ _ _ h2 r (by simp)
          omega
    have ha : ¬ add r out.length = true := by simp [add, k2]
    simp only [stg, if_neg c1, if_neg hc, if_neg ha]
    by_cases k3 : r.kd = 3
    · by_cases hp : r.pg < ps.length
      · obtain ⟨p, hpp⟩ : ∃ p : Nat, r.pg = p := ⟨r.pg.toNat, by omega⟩
        have hpl : p < ps.length := by omega
        have hd : ps.drop p = ps[p]'hpl :: ps.drop (p + 1) := List.drop_eq_getElem_cons hpl
        have hgd : ps.getD r.pg.toNat [] = ps[p]'hpl := by rw [hpp, Int.toNat_natCast, List.getD_eq_getElem?_getD, List.getElem?_eq_getElem hpl]; rfl
        have hal : alg (ps.drop r.pg.toNat) r.pg (r :: t) = (gon (ps[p]'hpl) p r && alg (ps.drop (p + 1)) ((p : Int) + 1) t) := by rw [hpp, Int.toNat_natCast, hd]; rfl
        by_cases hg : gon (ps[p]'hpl) p r = true
        · have hg' := hg
          simp only [gon, Bool.and_eq_true, beq_iff_eq] at hg'
          obtain ⟨⟨⟨⟨g1, g2⟩, g3⟩, g4⟩, g5⟩ := hg'
          have hst : rst ps out last (-1) r = some (out, (p : Int), (p : Int)) := by
            unfold rst
            rw [if_neg hn1, if_neg k1, if_neg k2, if_pos k3, if_pos ⟨hp, g3, by rw [hgd]; exact g4, g5, fun h => by omega⟩, if_pos (by omega), hpp]
          simp only [rsf, hst]
          have hgo := rsf_gone ps out (p + 1) (p : Int) t (by omega) (by omega) (by omega)
          rw [show (((p + 1 : Nat) : Int) - 1) = (p : Int) by omega] at hgo
          rw [hgo, hal, hg, Bool.true_and]
          by_cases hx : alg (ps.drop (p + 1)) ((p : Int) + 1) t = true
          · have hx' : alg (ps.drop (p + 1)) ((p + 1 : Nat) : Int) t = true := hx
            rw [if_pos hx', if_pos ⟨hp, hx⟩, Option.map_some, hpp, Int.toNat_natCast]
            congr 1
            have hkd := alg_kd _ _ _ hx
            rw [appl_gone _ _ (fun q hq => by
              rcases List.mem_cons.1 hq with rfl | hq
              · exact k3
              · exact hkd q hq)]
            unfold tkS
            rw [if_pos hpl]
          · have hx' : ¬ alg (ps.drop (p + 1)) ((p + 1 : Nat) : Int) t = true := hx
            rw [if_neg hx', if_neg (fun h => hx h.2)]
            rfl
        · have hst : rst ps out last (-1) r = none := by
            unfold rst
            rw [if_neg hn1, if_neg k1, if_neg k2, if_pos k3, if_neg]
            rintro ⟨a1, a2, a3, a4, a5⟩
            refine hg ?_
            simp only [gon, Bool.and_eq_true, beq_iff_eq]
            rw [hgd] at a3
            exact ⟨⟨⟨⟨k3, hpp⟩, a2⟩, a3⟩, a4⟩
          have hf : gon (ps[p]'hpl) p r = false := by
            cases h : gon (ps[p]'hpl) p r with
            | true => exact absurd h hg
            | false => rfl
          simp only [rsf, hst]
          rw [hal, hf, if_neg (by simp)]
          rfl
      · have hst : rst ps out last (-1) r = none := by
          unfold rst
          rw [if_neg hn1, if_neg k1, if_neg k2, if_pos k3, if_neg (fun h => hp h.1)]
        simp only [rsf, hst]
        rw [if_neg (fun h => hp h.1)]
        rfl
    · have hst : rst ps out last (-1) r = none := by
        unfold rst
        rw [if_neg hn1, if_neg k1, if_neg k2, if_neg k3]
      simp only [rsf, hst]
      rw [if_neg]
      · rfl
      · rintro ⟨h1, h2⟩
        have := alg_kd _ _ _ h2 r (by simp)
        omega
theorem takes_like (ps : List (List Key)) (rs : List Rg) : rsf ps ps (-1) (-1) rs = (stg ps (-1) ps.length rs).map (fun s => appl (ps.take s) rs) := by
  rw [rsf_stg ps ps (-1) rs (by omega) (Nat.le_refl _) (fun _ _ _ => rfl)]
  cases hs : stg ps (-1) ps.length rs with
  | none => rfl
  | some s =>
    have := stg_le _ _ _ _ _ hs
    simp only [Option.map_some, tkS]
    split
    · rfl
    · rw [List.take_of_length_le (by omega)]
end Go.Proofs.Ytoodhpgaikmalaa
