/-
  What the document's Check and counts answer.
-/
import Derived.Test.YtflhefgmgdgffaaDoorHyt
namespace Go.Proofs.YtflhefgmgdgffaaDoor
open Go.RowKit Go.Maps
set_option linter.unusedSimpArgs false
set_option linter.unusedVariables false

/-- What Check answers. -/
def ChkP (S T : Nat → ByteArray) (n m : Nat) (l r : Int) (e : Ending) : Prop :=
  ((mayL l && mayL r) = false ∧ e = .returned (.tuple #[.int .i64 1, .int .i64 0])) ∨
  ((mayL l && mayL r) = true ∧ ∃ i : Nat, i < n ∧ patT (S i) = none ∧ (∀ j, j < i → patT (S j) ≠ none) ∧ e = .returned (.tuple #[.int .i64 170, .int .i64 (i : Int)])) ∨
  ((mayL l && mayL r) = true ∧ (∀ j, j < n → patT (S j) ≠ none) ∧ ∃ i : Nat, i < m ∧ wordT (T i) = none ∧ (∀ j, j < i → wordT (T j) ≠ none) ∧ e = .returned (.tuple #[.int .i64 171, .int .i64 ((n : Int) + (i : Int))])) ∨
  ((mayL l && mayL r) = true ∧ (∀ j, j < n → patT (S j) ≠ none) ∧ (∀ j, j < m → wordT (T j) ≠ none) ∧ e = .returned (.tuple #[.int .i64 0, .int .i64 0]))
theorem may_four (l r : Int) : ((mayL l && mayL r) = true ∧ ((1 ≤ l ∧ l ≤ 100) ∧ (1 ≤ r ∧ r ≤ 100))) ∨ ((mayL l && mayL r) = false ∧ ((decide (l < 1) = true) ∨ (decide (l < 1) = false ∧ decide (r < 1) = true) ∨ (decide (l < 1) = false ∧ decide (r < 1) = false ∧ decide (100 < l) = true) ∨ (decide (l < 1) = false ∧ decide (r < 1) = false ∧ decide (100 < l) = false ∧ decide (100 < r) = true))) := by
  unfold mayL
  simp
  omega
theorem strs_at {w : World} {ao : Option Addr} {n : Nat} {S : Nat → ByteArray} (h : StrsAt w ao n S) (i : Nat) (hi : i < n) : ∃ b off, ao = some ⟨b, off, none⟩ ∧ (∀ wr, Below w.heap.size w wr → wr.cell? ⟨b, off + i, none⟩ = some (.string (S i))) ∧ (S i).size ≤ 1048576 := by
  obtain ⟨h1 | ⟨b, off, e, hb, hc⟩, h2⟩ := h
  · omega
  · exact ⟨b, off, e, fun wr hw => hold hw (hc i hi), h2 i hi⟩
theorem rr_shape {o : Option (List Nat × List Nat)} {B : Nat} {e : Ending} {w' : World} (h : RrP o B e w') : ∃ (a1 a2 : Option Addr) (n1 c1 n2 c2 : Nat) (b : Bool), e = .returned (.tuple #[.agg #[.slice a1 n1 c1, .slice a2 n2 c2], .bool b]) ∧ ((b = true ∧ o ≠ none) ∨ (b = false ∧ o = none)) := by
  obtain ⟨v1, v2, b, e, hb, ⟨a1, n1, c1, rfl⟩, ⟨a2, n2, c2, rfl⟩, -⟩ := h
  refine ⟨a1, a2, n1, c1, n2, c2, b, e, ?_⟩
  cases b
  · right
    refine ⟨rfl, ?_⟩
    apply Classical.byContradiction
    intro c
    have := hb.2 c
    cases this
  · exact .inl ⟨rfl, hb.1 rfl⟩
set_option maxRecDepth 100000 in
set_option maxHeartbeats 4000000 in
theorem refcheck_any (w : World) (ao ao' : Option Addr) (n m cap cap' : Nat) (S T : Nat → ByteArray) (l r : Int) (hS : StrsAt w ao n S) (hT : StrsAt w ao' m T) (hn : n ≤ 60) (hm : m ≤ 60) :
    Calls Tryd.prog 13 #[.slice ao n cap, .slice ao' m cap', .int .i64 l, .int .i64 r] w fun e w' => ChkP S T n m l r e ∧ Below w.heap.size w w' := by
  have HS := boxed hS
  have HT := boxed hT
  clear hS hT
  rcases may_four l r with ⟨hm1, ⟨h1, h2⟩, h3, h4⟩ | ⟨hm1, t⟩
  rotate_left
  · have HM := boxed hm1
    clear hm1
    rcases t with t1 | ⟨t1, t2⟩ | ⟨t1, t2, t3⟩ | ⟨t1, t2, t3, t4⟩
    all_goals
      go_enter Tryd.func13, Tryd.ntmps13
      go_wp2_with fail
      go_ret2
      exact ⟨.inl ⟨HM.out, rfl⟩, Below.refl _ _⟩
  have HM := boxed hm1
  have t1 : decide (l < 1) = false := decide_eq_false (by omega)
  have t2 : decide (r < 1) = false := decide_eq_false (by omega)
  have t3 : decide (100 < l) = false := decide_eq_false (by omega)
  have t4 : decide (100 < r) = false := decide_eq_false (by omega)
  have t8 : decide ((8192 : Int) < (n : Int)) = false := decide_eq_false (by omega)
  have t8' : decide (8192 < n) = false := decide_eq_false (by omega)
  have t9 : decide ((8192 : Int) < (m : Int)) = false := decide_eq_false (by omega)
  have t9' : decide (8192 < m) = false := decide_eq_false (by omega)
  clear hm1 h1 h2 h3 h4
  go_enter Tryd.func13, Tryd.ntmps13
  go_wp2_with fail
  clear t1 t2 t3 t4 t8 t8' t9 t9'
  go_loopw [10] (fun vi wr => ∃ i : Nat, i ≤ n ∧ vi = .int .i64 (i : Int) ∧ Box (∀ j, j < i → patT (S j) ≠ none) ∧ Box (Below w.heap.size w wr)) (fun vi _ => n - (intOf vi).toNat)
  case atStart => exact ⟨0, Nat.zero_le _, rfl, boxed (fun j hj => by omega), boxed (Below.refl _ _)⟩
  case round =>
    obtain ⟨i, hi, rfl, HP, HB⟩ := hrel
    by_cases hlt : i < n
    · obtain ⟨b, off, rfl, hcl, hsz⟩ := strs_at HS.out i hlt
      have hci := hcl wr HB.out
      have hrp := refpat_any (S i) wr hsz
      have hil : (i : Int) < (n : Int) := by omega
      have HN : Box (patT (S i) ≠ none → ∀ j, j < i + 1 → patT (S j) ≠ none) := boxed (fun h j hj => by
        by_cases c : j = i
        · subst c; exact h
        · exact HP.out j (by omega))
      have HFL : Box (patT (S i) = none → ChkP S T n m l r (.returned (.tuple #[.int .i64 170, .int .i64 (i : Int)]))) := boxed (fun h => .inr (.inl ⟨HM.out, i, hlt, h, HP.out, rfl⟩))
      clear hcl hsz
      generalize S i = s at *
      go_wp2_with fail
      refine hrp.mono ?_
      rintro e w2 ⟨hR, hb⟩
      obtain ⟨a1, a2, n1, c1, n2, c2, bb, rfl, hbb⟩ := rr_shape hR
      have HB2 : Box (∀ o, Below w.heap.size w (w2.alloc o)) := boxed (fun o => (below_step HB.out (Nat.le_refl _) hb).alloc (below_step HB.out (Nat.le_refl _) hb).size o)
      clear hrp hb hR
      rcases hbb with ⟨rfl, ho⟩ | ⟨rfl, ho⟩
      · have HN2 := boxed (HN.out ho)
        clear ho
        go_wp2_with fail
        go_roundw
        case rel => exact ⟨i + 1, by omega, by go_num, HN2, boxed (HB2.out _)⟩
        case measure => simp [intOf]; omega
      · have HF := boxed (HFL.out ho)
        clear ho
        go_wp2_with fail
        go_ret2
        exact ⟨HF.out, HB2.out _⟩
    · have e : i = n := by omega
      subst e
      clear hi
      go_wp2_with fail
      go_loopw [13] (fun vi wr => ∃ i' : Nat, i' ≤ m ∧ vi = .int .i64 (i' : Int) ∧ Box (∀ j, j < i' → wordT (T j) ≠ none) ∧ Box (Below w.heap.size w wr)) (fun vi _ => m - (intOf vi).toNat)
      case atStart => exact ⟨0, Nat.zero_le _, rfl, boxed (fun j hj => by omega), HB⟩
      case round =>
        clear HB
        obtain ⟨i', hi, rfl, HW, HB⟩ := hrel
        by_cases hlt : i' < m
        · obtain ⟨b, off, rfl, hcl, hsz⟩ := strs_at HT.out i' hlt
          have hci := hcl wr HB.out
          have hrp := refword_any (T i') wr hsz
          have hil : (i' : Int) < (m : Int) := by omega
          have HN : Box (wordT (T i') ≠ none → ∀ j, j < i' + 1 → wordT (T j) ≠ none) := boxed (fun h j hj => by
            by_cases c : j = i'
            · subst c; exact h
            · exact HW.out j (by omega))
          have HFL : Box (wordT (T i') = none → ChkP S T i m l r (.returned (.tuple #[.int .i64 171, .int .i64 ((i : Int) + (i' : Int))]))) := boxed (fun h => .inr (.inr (.inl ⟨HM.out, HP.out, i', hlt, h, HW.out, rfl⟩)))
          clear hcl hsz
          generalize T i' = s at *
          go_wp2_with fail
          refine hrp.mono ?_
          rintro e w2 ⟨hR, hb⟩
          obtain ⟨a1, a2, n1, c1, n2, c2, bb, rfl, hbb⟩ := rr_shape hR
          have HB2 : Box (∀ o, Below w.heap.size w (w2.alloc o)) := boxed (fun o => (below_step HB.out (Nat.le_refl _) hb).alloc (below_step HB.out (Nat.le_refl _) hb).size o)
          clear hrp hb hR
          rcases hbb with ⟨rfl, ho⟩ | ⟨rfl, ho⟩
          · have HN2 := boxed (HN.out ho)
            clear ho
            go_wp2_with fail
            go_roundw
            case rel => exact ⟨i' + 1, by omega, by go_num, HN2, boxed (HB2.out _)⟩
            case measure => simp [intOf]; omega
          · have HF := boxed (HFL.out ho)
            clear ho
            go_wp2_with fail
            go_ret2
            exact ⟨HF.out, HB2.out _⟩
        · have e : i' = m := by omega
          subst e
          go_wp2_with fail
          go_ret2
          exact ⟨.inr (.inr (.inr ⟨HM.out, HP.out, HW.out, rfl⟩)), HB.out⟩
def CntP (Q : PL) (i : Nat) (e : Ending) : Prop := ∃ b : Bool, e = .returned (.bool b) ∧ (b = true ↔ cnts Q i)
theorem qS_len (S : Nat → ByteArray) (n : Nat) : (qS S n).length = n := by simp [qS]
theorem qS_get (S : Nat → ByteArray) (n i : Nat) (hi : i < n) {P V : List Nat} (h : patT (S i) = some (P, V)) : (qS S n).getD i default = (P, V) := by
  simp [qS, List.getD_eq_getElem?_getD, hi, h]
theorem yS_len (S : Nat → ByteArray) (n : Nat) : (yS S n).length = n := by simp [yS]
end Go.Proofs.YtflhefgmgdgffaaDoor
