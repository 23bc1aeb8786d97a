/-
  A region that draws its order, without calls or defers, in a round of a range over a function.
-/
import Derived.Test.YtdchpiihjjjpfaaKj
import Derived.Sort.QuietIn
namespace Go.Proofs.Ytdchpiihjjjpfaa
open Go.RowKit Go.Shelf
set_option linter.unusedSimpArgs false
set_option linter.unusedVariables false

def nd (o : Oper) : Bool := match o.op with | .defer _ => false | _ => true
theorem semAt_nd (ro : Option Nat) (ρ : Operand → Value) (o : Oper) (h : nd o = true) : o.semAt ro ρ = execOp ρ o := Oper.semAt_eq ro ρ o (fun c e => by unfold nd at h; rw [e] at h; cases h)
section
variable {F : Fence} {n : Nat} {P : Program} {ops : Array Oper} {Q : Exit → Act → World → Prop}
theorem wpOpIn_round {i : Nat} {K : Act → World → Prop} {a : Act} {w : World} (l : Nat) (hro : F.round = none) (hnd : ∀ o, ops[i]? = some o → nd o = true) (h : wpOpIn F n P ops Q i K a w) : wpOpIn (F.inRound l) n P ops Q i K a w := by
  unfold wpOpIn at *
  cases ho : ops[i]? with
  | none => simp only [ho] at h ⊢; exact h
  | some o =>
    simp only [ho] at h ⊢
    split
    · rename_i hw
      simp only [hw, if_true] at h
      unfold Oper.wpIn at *
      refine ⟨h.1, ?_⟩
      have h2 := h.2
      rw [hro, Oper.semAt_none] at h2
      rw [Fence.inRound_round, semAt_nd _ _ _ (hnd o ho)]
      generalize (execOp a.eval o).run P w = r at *
      exact h2
    · rename_i hw
      simp only [hw, if_false, Bool.false_eq_true] at h
      exact h
theorem wpAnyIn_round {md : Region.Mode} (l : Nat) (hro : F.round = none) (hnd : ∀ (i : Nat) (o : Oper), ops[i]? = some o → nd o = true) : ∀ (fuel : Nat) (listed : Array Bool) (a : Act) (w : World), wpAnyIn F n P md ops Q fuel listed a w → wpAnyIn (F.inRound l) n P md ops Q fuel listed a w
  | 0, _, _, _, h => h
  | fuel + 1, listed, a, w, h => ⟨h.1, fun i hi => wpOpIn_round l hro (hnd i) (wpOpIn_mono (fun a' w' h' => wpAnyIn_round l hro hnd fuel _ a' w' h') (h.2 i hi))⟩
theorem wpIn_region_round {C : World → Prop} {id : Nat} {a : Act} {w : World} (l : Nat) (hro : F.round = none) (hm : P.follows .mixedOrders = true) (hB : Region.lexB .any ops = true) (hnd : ∀ (i : Nat) (o : Oper), ops[i]? = some o → nd o = true) (hC : C { w with drawn := w.drawn + 1 })
    (h : wpQuietIn F n P ops C (fun a' => ∀ w', C w' → Q .normal a' w') ops.toList a) : (Code.region id ops true).wpIn (F.inRound l) n P Q a w := by
  simp only [Region.lexB, Bool.and_eq_true] at hB
  refine wpIn_region_any hm (wpAnyIn_round l hro hnd _ _ _ _ (wpAnyIn_of_quiet (Q := fun a' => ∀ w', C w' → Q .normal a' w') hro (fun _ w' hw' h => h w' hw') _ _ _ _ hC ?_))
  have := wpAnyQIn_lex (F := F) (n := n) (C := C) (md := .any) hB.1 ops.toList 0 (Array.replicate ops.size false) a (by simp) (by simpa using hB.2) h
  simpa using this
theorem wpIn_region_round_lit {id : Nat} {a : Act} {w : World} {os : List Oper} (l : Nat) (hro : F.round = none) (hm : P.follows .mixedOrders = true) (hB : Region.lexB .any os.toArray = true) (hnd : os.all nd = true)
    (h : wpQuietIn F n P os.toArray (fun w' => ∃ n, w' = w.drewN n) (fun a' => ∀ w', (∃ n, w' = w.drewN n) → Q .normal a' w') os a) : (Code.region id os.toArray true).wpIn (F.inRound l) n P Q a w :=
  wpIn_region_round (C := fun w' => ∃ n, w' = w.drewN n) l hro hm hB (fun i o ho => by
    have : o ∈ os := by
      rw [List.getElem?_toArray] at ho
      exact List.mem_of_getElem? ho
    exact List.all_eq_true.1 hnd o this) ⟨1, rfl⟩ (by simpa using h)
end
end Go.Proofs.Ytdchpiihjjjpfaa
