/-
  What a table tells: how many styles, whether there is one, the style itself and its measures; and what the document's Of and the law's table answer.
-/
import Derived.Test.YtcdcpmcjlchfgaaMg
namespace Go.Proofs.Ytcdcpmcjlchfgaa
open Go.RowKit
set_option linter.unusedSimpArgs false
set_option linter.unusedVariables false

def zeroS : Sty := ⟨0, 0, 0, 0, 0, 0, none, 0, 0, false, fun _ => ⟨0, 0, 0⟩⟩
theorem zeroS_ok : StyOk zeroS := by
  have h : I64 0 := by unfold I64; omega
  exact ⟨h, h, h, h, h, h, ⟨Nat.le_refl _, by show 0 * 24 ≤ 140737488351232; omega⟩, fun _ => ⟨rfl, rfl⟩⟩
/-- A style; the zero one, if there is none. -/
def ofS (G : Nat → Sty) (n : Nat) (a : Int) : Sty := if 0 ≤ a ∧ a < (n : Int) then G a.toNat else zeroS
theorem ofS_in (G : Nat → Sty) (n k : Nat) (h : k < n) : ofS G n (k : Int) = G k := by unfold ofS; rw [if_pos (by omega)]; simp
theorem ofS_out (G : Nat → Sty) (n : Nat) (a : Int) (h : a < 0 ∨ (n : Int) ≤ a) : ofS G n a = zeroS := by unfold ofS; rw [if_neg (by omega)]
theorem ofS_like {F G : Nat → Sty} {n : Nat} (h : ∀ i, i < n → Like (F i) (G i)) (a : Int) : Like (ofS F n a) (ofS G n a) := by
  unfold ofS
  split
  · rename_i c; exact h _ (by omega)
  · exact Like.refl _
theorem zero_at (S : Nat → Prop) (w : World) : RgsAt S w zeroS.ra zeroS.rn zeroS.R := fun j hj => absurd hj (by show ¬ j < 0; omega)
theorem ofS_at {S : Nat → Prop} {w : World} {ao : Option Addr} {n : Nat} {F : Nat → Sty} (h : StysAt S w ao n F) (a : Int) : StyOk (ofS F n a) ∧ RgsAt S w (ofS F n a).ra (ofS F n a).rn (ofS F n a).R := by
  unfold ofS
  split
  · rename_i c; exact ⟨(h _ (by omega)).1, (h _ (by omega)).2.1⟩
  · exact ⟨zeroS_ok, zero_at S w⟩

theorem fld0 (a b c d e f g h : Value) (w : World) : (Instr.field 73 (.agg #[a, b, c, d, e, f, g, h]) 0).run Try.prog w = .ok a w := by kernel_rfl
theorem fld4 (a b c d e f g h : Value) (w : World) : (Instr.field 73 (.agg #[a, b, c, d, e, f, g, h]) 4).run Try.prog w = .ok e w := by kernel_rfl
theorem fld7 (a b c d e f g h : Value) (w : World) : (Instr.field 73 (.agg #[a, b, c, d, e, f, g, h]) 7).run Try.prog w = .ok h w := by kernel_rfl

set_option maxRecDepth 100000 in
theorem styles_any {B : Nat} {w : World} {tb n : Nat} {G : Nat → Sty} (h : TabAt B w tb n G) :
    Calls Try.prog 87 #[.pointer (some ⟨tb, 0, none⟩)] w fun e w' => e = .returned (.int .i64 (n : Nat)) ∧ w' = w := by
  obtain ⟨h1, bs, h2, h3⟩ := h
  clear h3
  go_enter Try.func87, Try.ntmps87
  go_wp2
  go_ret
  exact ⟨rfl, rfl⟩

set_option maxRecDepth 100000 in
theorem tcheck_any {B : Nat} {w : World} {tb n : Nat} {G : Nat → Sty} (h : TabAt B w tb n G) (a : Int) :
    Calls Try.prog 80 #[.pointer (some ⟨tb, 0, none⟩), .int .i64 a] w fun e w' => e = .returned (.int .i64 (if 0 ≤ a ∧ a < (n : Int) then 0 else 43)) ∧ w' = w := by
  have hs := styles_any h
  clear h
  by_cases h1 : a < 0
  · have t1 : decide (a < 0) = true := decide_eq_true h1
    have e1 : (if 0 ≤ a ∧ a < (n : Int) then (0 : Int) else 43) = 43 := if_neg (by omega)
    rw [e1]
    clear h1
    go_enter Try.func80, Try.ntmps80
    go_wp2_with fail
    go_ret
    exact ⟨rfl, rfl⟩
  have t1 : decide (a < 0) = false := decide_eq_false h1
  by_cases h2 : (n : Int) ≤ a
  · have t2 : decide ((n : Int) ≤ a) = true := decide_eq_true h2
    have e1 : (if 0 ≤ a ∧ a < (n : Int) then (0 : Int) else 43) = 43 := if_neg (by omega)
    rw [e1]
    clear h1 h2
    go_enter Try.func80, Try.ntmps80
    go_wp2_with (go_at_call 87; refine hs.mono ?_; rintro e w' ⟨rfl, hw'⟩; subst w')
    go_ret
    exact ⟨rfl, rfl⟩
  have t2 : decide ((n : Int) ≤ a) = false := decide_eq_false h2
  have e1 : (if 0 ≤ a ∧ a < (n : Int) then (0 : Int) else 43) = 0 := if_pos (by omega)
  rw [e1]
  clear h1 h2
  go_enter Try.func80, Try.ntmps80
  go_wp2_with (go_at_call 87; refine hs.mono ?_; rintro e w' ⟨rfl, hw'⟩; subst w')
  go_ret
  exact ⟨rfl, rfl⟩

set_option maxRecDepth 100000 in
set_option maxHeartbeats 1000000 in
theorem look_any {B : Nat} {w : World} {tb n : Nat} {G : Nat → Sty} (h : TabAt B w tb n G) (a : Int) :
    Calls Try.prog 64 #[.pointer (some ⟨tb, 0, none⟩), .int .i64 a] w fun e w' => e = .returned (ofS G n a).val ∧ Below w.heap.size w w' := by
  have hc := fun w' (hb : Below w.heap.size w w') => tcheck_any (h.below hb) a
  by_cases hin : 0 ≤ a ∧ a < (n : Int)
  · obtain ⟨k, rfl⟩ : ∃ k : Nat, a = (k : Int) := ⟨a.toNat, by omega⟩
    have hk : k < n := by omega
    rw [ofS_in G n k hk]
    rw [if_pos hin] at hc
    obtain ⟨⟨h1, h1'⟩, bs, h2, h3⟩ := h
    obtain ⟨-, -, b, off, e, -, c0, c1, c2, c3, c4, c5, c6, c7⟩ := h3 k hk
    injection e with e
    injection e with e1 e2
    subst e1; subst e2
    simp only [Nat.zero_add] at c0 c1 c2 c3 c4 c5 c6 c7
    clear h3
    have q1 : tb < w.heap.size := World.block_lt_of_cell? w _ h2
    have q2 : bs < w.heap.size := World.block_lt_of_cell? w _ c0
    have q3 : tb ≠ w.heap.size := by omega
    have q4 : bs ≠ w.heap.size := by omega
    unfold Sty.val
    generalize G k = s at *
    go_enter Try.func64, Try.ntmps64
    go_wp2_with fail
    refine (hc _ (by go_grown)).mono ?_
    rintro e w' ⟨rfl, hw'⟩
    subst w'
    clear hc
    go_wp2
    go_returns
    exact ⟨rfl, by go_grown⟩
  · rw [ofS_out G n a (by omega)]
    rw [if_neg hin] at hc
    clear h hin
    unfold Sty.val zeroS
    go_enter Try.func64, Try.ntmps64
    go_wp2_with fail
    refine (hc _ (by go_grown)).mono ?_
    rintro e w' ⟨rfl, hw'⟩
    subst w'
    clear hc
    go_wp2
    go_returns
    exact ⟨rfl, by go_grown⟩

set_option maxRecDepth 100000 in
theorem refof_any (S : Nat → Prop) (ao : Option Addr) (n cap : Nat) (F : Nat → Sty) (w : World) (h : StysAt S w ao n F) (a : Int) :
    Calls Try.prog 40 #[.slice ao n cap, .int .i64 a] w fun e w' => e = .returned (ofS F n a).val ∧ Below w.heap.size w w' := by
  by_cases h1 : a < 0
  · rw [ofS_out F n a (by omega)]
    have t1 : decide (a < 0) = true := decide_eq_true h1
    clear h h1
    unfold Sty.val zeroS
    go_enter Try.func40, Try.ntmps40
    go_wp2
    go_returns
    exact ⟨rfl, by go_grown⟩
  have t1 : decide (a < 0) = false := decide_eq_false h1
  by_cases h2 : (n : Int) ≤ a
  · rw [ofS_out F n a (by omega)]
    have t2 : decide ((n : Int) ≤ a) = true := decide_eq_true h2
    clear h h1 h2
    unfold Sty.val zeroS
    go_enter Try.func40, Try.ntmps40
    go_wp2
    go_returns
    exact ⟨rfl, by go_grown⟩
  obtain ⟨k, rfl⟩ : ∃ k : Nat, a = (k : Int) := ⟨a.toNat, by omega⟩
  have hk : k < n := by omega
  rw [ofS_in F n k hk]
  have t2 : decide ((n : Int) ≤ (k : Int)) = false := decide_eq_false h2
  obtain ⟨-, -, b, off, rfl, -, c0, c1, c2, c3, c4, c5, c6, c7⟩ := h k hk
  have q2 : b < w.heap.size := World.block_lt_of_cell? w _ c0
  have q4 : b ≠ w.heap.size := by omega
  unfold Sty.val
  clear h h1 h2
  generalize F k = s at *
  go_enter Try.func40, Try.ntmps40
  go_wp2
  go_returns
  exact ⟨rfl, by go_grown⟩
end Go.Proofs.Ytcdcpmcjlchfgaa
