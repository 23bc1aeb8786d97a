/-
  A law of the walk: a scope with several labels, jumped to and fro: what holds at a jump is what holds behind the label. And what the program's Inside and exists answer for every byte and every number.
-/
import Derived.Test.YtflhefgmgdgffaaDoorUa
import Derived.WalkSpells
import Derived.WalkMore
import Derived.ScopeJumps
import Derived.Laws.BitsLemmas
import Derived.Laws.Bits
import Derived.Laws.RangeAny
import Derived.Laws.RangeString
import Derived.Deep.QuietTactic
import Derived.BigQuiet
namespace Go.Proofs.YtflhefgmgdgffaaDoor
open Go.RowKit
set_option linter.unusedSimpArgs false
set_option linter.unusedVariables false

theorem ret_int {k : IntKind} {a b : Int} (h : a = b) : Ending.returned (.int k a) = .returned (.int k b) := by rw [h]
theorem ret_bool {a b : Bool} (h : a = b) : Ending.returned (.bool a) = .returned (.bool b) := by rw [h]
theorem ret_two {k k' : IntKind} {a b c d : Int} (h1 : a = c) (h2 : b = d) : Ending.returned (.tuple #[.int k a, .int k' b]) = .returned (.tuple #[.int k c, .int k' d]) := by rw [h1, h2]
theorem bel_drewN (B : Nat) (w : World) (n : Nat) : Below B w (w.drewN n) := ⟨rfl, rfl, rfl, Nat.le_refl _, fun _ _ => rfl⟩

/-- As Q; by a goto: what J says of its label. -/
def Jumps (J : Nat → Act → World → Prop) (Q : Exit → Act → World → Prop) : Exit → Act → World → Prop
  | .goto l, a, w => J l a w
  | e, a, w => Q e a w
theorem jumps_ret (J : Nat → Act → World → Prop) (Q : Exit → Act → World → Prop) (a : Act) (w : World) : Jumps J Q .ret a w = Q .ret a w := rfl
theorem jumps_goto (J : Nat → Act → World → Prop) (Q : Exit → Act → World → Prop) (l : Nat) (a : Act) (w : World) : Jumps J Q (.goto l) a w = J l a w := rfl

theorem wp_scope_hops {P : Program} {c : Code} {Q : Exit → Act → World → Prop} {a : Act} {w : World}
    (h : ∀ J : Nat → Act → World → Prop, (∀ l rest a w, findLabel c l = some rest → rest.wp P (Jumps J Q) a w → J l a w) → c.wp P (Jumps J Q) a w) : (Code.scope c).wp P Q a w := by
  intro b k cs
  have glue : ∀ (l : Nat) (rest : Code) (a : Act) (w : World) (e : Exit) (a₁ : Act) (w₁ : World), findLabel c l = some rest →
      Jumps (fun l a w => ∃ rest, findLabel c l = some rest ∧ ∃ e a' w', Q e a' w' ∧ Arrives P (lone (b.at a (.code rest :: .inScope c :: k)) cs w) b k cs e a' w') Q e a₁ w₁ →
      Arrives P (lone (b.at a (.code rest :: .inScope c :: k)) cs w) b (.inScope c :: k) cs e a₁ w₁ →
      ∃ e a' w', Q e a' w' ∧ Arrives P (lone (b.at a (.code rest :: .inScope c :: k)) cs w) b k cs e a' w' := by
    intro l rest a w e a₁ w₁ hf hq harr
    cases e with
    | normal => exact ⟨.normal, a₁, w₁, hq, Steps.trans harr (.one step_inScope)⟩
    | exit id => exact ⟨.exit id, a₁, w₁, hq, fun k' hk => harr k' (by simp [exitTo, hk])⟩
    | goto l' =>
      obtain ⟨rest', hf', e₂, a₂, w₂, hq₂, harr₂⟩ := hq
      exact ⟨e₂, a₂, w₂, hq₂, .of_steps (harr _ (by simp [gotoIn, hf'])) harr₂⟩
    | ret => exact ⟨_, a₁, w₁, hq, harr⟩
    | panic ch => exact ⟨_, a₁, w₁, hq, harr⟩
    | outgrown => exact ⟨_, a₁, w₁, hq, harr⟩
  have hcl := h (fun l a w => ∃ rest, findLabel c l = some rest ∧ ∃ e a' w', Q e a' w' ∧ Arrives P (lone (b.at a (.code rest :: .inScope c :: k)) cs w) b k cs e a' w') ?_
  · obtain ⟨e, a₁, w₁, hq, harr⟩ := hcl b (.inScope c :: k) cs
    cases e with
    | normal => exact ⟨.normal, a₁, w₁, hq, .head step_scope (Steps.trans harr (.one step_inScope))⟩
    | exit id => exact ⟨.exit id, a₁, w₁, hq, fun k' hk => .head step_scope (harr k' (by simp [exitTo, hk]))⟩
    | goto l' =>
      obtain ⟨rest', hf', e₂, a₂, w₂, hq₂, harr₂⟩ := hq
      exact ⟨e₂, a₂, w₂, hq₂, .of_steps (.head step_scope (harr _ (by simp [gotoIn, hf']))) harr₂⟩
    | ret => exact ⟨_, a₁, w₁, hq, .of_steps (.one step_scope) harr⟩
    | panic ch => exact ⟨_, a₁, w₁, hq, .of_steps (.one step_scope) harr⟩
    | outgrown => exact ⟨_, a₁, w₁, hq, .of_steps (.one step_scope) harr⟩
  · intro l rest a w hf hw
    obtain ⟨e, a₁, w₁, hq, harr⟩ := hw b (.inScope c :: k) cs
    exact ⟨rest, hf, glue l rest a w e a₁ w₁ hf hq harr⟩

/-- Is a byte from 128 to 191? -/
def ins (c : Int) : Bool := decide (128 ≤ c) && decide (c ≤ 191)
theorem ins_t (c : Int) (h : ins c = true) : 128 ≤ c ∧ c ≤ 191 := by simpa [ins] using h
theorem ins_f (c : Int) (h : ins c = false) : ¬ (128 ≤ c ∧ c ≤ 191) := by simp [ins] at h; omega
theorem ins_nat (c : Nat) : ins (c : Int) = true ↔ (128 ≤ c ∧ c < 192) := by simp [ins]; omega

theorem inside_any (c : Int) (w : World) :
    Calls Tryd.prog 65 #[.int .u8 c] w fun e w' => e = .returned (.bool (ins c)) ∧ w' = w := by
  unfold ins
  by_cases h1 : 128 ≤ c
  all_goals
    go_enter Tryd.func65, Tryd.ntmps65
    go_wp2
    go_ret
    exact ⟨ret_bool (by simp [h1] <;> omega), rfl⟩

/-- Is a number a rune? -/
def isR (r : Int) : Bool := decide (0 ≤ r) && decide (r ≤ 1114111) && (decide (r < 55296) || decide (57343 < r))
theorem isR_t (r : Int) (h : isR r = true) : 0 ≤ r ∧ r ≤ 1114111 ∧ (r < 55296 ∨ 57343 < r) := by simp [isR] at h; omega
theorem isR_f (r : Int) (h : isR r = false) : ¬ (0 ≤ r ∧ r ≤ 1114111 ∧ (r < 55296 ∨ 57343 < r)) := by
  intro c
  have : isR r = true := by simp [isR]; omega
  rw [this] at h; exact absurd h (by simp)
theorem isR_mk (r : Int) (h : 0 ≤ r ∧ r ≤ 1114111 ∧ (r < 55296 ∨ 57343 < r)) : isR r = true := by simp [isR]; omega

theorem exists_any (r : Int) (w : World) :
    Calls Tryd.prog 66 #[.int .i32 r] w fun e w' => e = .returned (.bool (isR r)) ∧ w' = w := by
  unfold isR
  by_cases h1 : 0 ≤ r
  all_goals
    by_cases h2 : r ≤ 1114111
    all_goals
      by_cases h3 : r < 55296
      all_goals
        go_enter Tryd.func66, Tryd.ntmps66
        go_wp2
        go_ret
        exact ⟨ret_bool (by simp [h1, h2, h3] <;> omega), rfl⟩
end Go.Proofs.YtflhefgmgdgffaaDoor
