/-
  Means of the walks: what is kept, what may have changed; Lower, isDigit, Letter and fits of the program, Lower and Letter of the document.
-/
import Derived.Test.YtflhefgmgdgffaaDoorHya
import Derived.Test.YtflhefgmgdgffaaDoorUh
import Derived.Test.YtflhefgmgdgffaaDoorUn
import Derived.Test.YtflhefgmgdgffaaDoorUp
import Derived.Test.YtflhefgmgdgffaaDoorUt
import Derived.Below
import Derived.WalkSpells
import Derived.WalkMore
import Derived.Laws.RangeAny
import Derived.Laws.RangeString
import Derived.Deep.QuietTactic
import Derived.Deep.RegionHeld3
import Derived.BigQuiet
import Derived.Handy
import Derived.Laws.AppendOwnNone
import Derived.Laws.StructEq
import Derived.Deep.AppendLies
import Derived.Laws.MakeOwn
import Derived.Lib.QuietBelow
import Derived.Deep.Cut
namespace Go.Proofs.YtflhefgmgdgffaaDoor
open Go.RowKit
set_option linter.unusedSimpArgs false
set_option linter.unusedVariables false

def I64 (n : Int) : Prop := -9223372036854775808 ≤ n ∧ n ≤ 9223372036854775807
theorem hold {w w' : World} {a : Addr} {v : Value} (hb : Below w.heap.size w w') (h : w.cell? a = some v) : w'.cell? a = some v := by
  rw [hb.cell (World.block_lt_of_cell? w _ h)]; exact h
theorem below_step {B : Nat} {w w1 w2 : World} (h1 : Below B w w1) (hB : B ≤ w.heap.size) (h2 : Below w1.heap.size w1 w2) : Below B w w2 :=
  h1.trans (h2.mono (Nat.le_trans hB h1.size))
theorem cell_first (w : World) (cs : Array Value) (t : TypeId) (i : Nat) : (w.alloc (.cells cs t)).cell? ⟨w.heap.size, i, none⟩ = cs[i]? := by
  rw [cell_of_row _ _ _ _ _ _ (heap_alloc_new w (.cells cs t))]
theorem kept_first {w w2 : World} {cs : Array Value} {t : TypeId} (hb : Below (w.alloc (.cells cs t)).heap.size (w.alloc (.cells cs t)) w2) (j : Nat) : w2.cell? ⟨w.heap.size, j, none⟩ = cs[j]? := by
  rw [hb.cell (p := ⟨w.heap.size, j, none⟩) (by simp)]
  exact cell_first _ _ _ _
theorem kept_below {B : Nat} {w w1 w2 : World} {o : Obj} (h1 : Below B w w1) (hB : B ≤ w.heap.size) (hb : Below (w1.alloc o).heap.size (w1.alloc o) w2) : Below B w w2 := by
  have hz := Nat.le_trans hB h1.size
  exact (h1.alloc hz _).trans (hb.mono (by simp; omega))
/-- What S names, if it is there, is there still, and named. -/
def Kp (S S' : Nat → Prop) (w w' : World) : Prop := ∀ b i u, S b → w.cell? ⟨b, i, none⟩ = some u → S' b ∧ w'.cell? ⟨b, i, none⟩ = some u
theorem kp_below {S : Nat → Prop} {w w' : World} (h : Below w.heap.size w w') : Kp S S w w' := fun b i u hs hc => ⟨hs, hold h hc⟩
theorem ownsRow_forms {w : World} {base size n : Nat} {e : TypeId} {v : Value} {xs : List Value} (h : w.ownsRow base e size v n xs) : (v = .slice none 0 0 ∧ n = 0) ∨ ∃ g cap, v = .slice (some ⟨g, 0, none⟩) n cap := by
  rcases h.2 with ⟨h1, h2⟩ | ⟨g, cap, cur, h1, _⟩
  · exact .inl ⟨h1, h2⟩
  · exact .inr ⟨g, cap, h1⟩
theorem own_shape {w : World} {base size n : Nat} {e : TypeId} {v : Value} {xs : List Value} (h : w.ownsRow base e size v n xs) : ∃ ao cap, v = .slice ao n cap := by
  rcases ownsRow_forms h with ⟨g1, g2⟩ | ⟨g, cap, g1⟩
  · exact ⟨none, 0, by rw [g2]; exact g1⟩
  · exact ⟨_, _, g1⟩
theorem owns_ge {w : World} {B e size n : Nat} {v : Value} {xs : List Value} (h : w.ownsRow B e size v n xs) : ∀ r, v.ownBlock = some r → B ≤ r := fun r e => (h.lt r e).1
theorem own_down {w : World} {B B' e size n : Nat} {v : Value} {xs : List Value} (h : w.ownsRow B e size v n xs) (hB : B' ≤ B) : w.ownsRow B' e size v n xs :=
  ⟨h.1, h.2.imp id (fun ⟨g, c, cu, x1, x2, x3⟩ => ⟨g, c, cu, x1, Nat.le_trans hB x2, x3⟩)⟩
theorem grown_below {w w' : World} {lb B : Nat} (h : w.grownBy w' (some lb)) (hl : B ≤ lb) (hB : B ≤ w.heap.size) : Below B w w' :=
  ⟨h.os, h.tape, h.output, h.size, fun k hk => h.block k (by omega) (fun e => by injection e; omega)⟩
theorem grown_trans {a b c : World} {row : Option Nat} (h : a.grownBy b row) (k : b.grownBy c row) : a.grownBy c row :=
  ⟨k.os.trans h.os, k.tape.trans h.tape, k.output.trans h.output, Nat.le_trans h.size k.size, fun i hi hr => (k.block i (Nat.lt_of_lt_of_le hi h.size) hr).trans (h.block i hi hr)⟩
theorem grown_set (w : World) (b i : Nat) (u : Value) : w.grownBy (w.setCell ⟨b, i, none⟩ u) (some b) :=
  ⟨rfl, rfl, rfl, by simp, fun k _ hk => heap_setCell_other w ⟨b, i, none⟩ k u (fun e => hk (by simp [e]))⟩
theorem arr_at {W : World} {G k : Nat} {arr : Array Value} {t : TypeId} (e : W.heap[G]? = some (.cells arr t (0, 0))) (hk : k < arr.size) : W.cell? ⟨G, k, none⟩ = some arr[k] ∧ W.frozen? ⟨G, k, none⟩ = false := by
  refine ⟨?_, ?_⟩
  · rw [cell_of_row W G k arr t (0, 0) e]; simp [hk]
  · unfold World.frozen?; rw [e]; simp
theorem arr_set {W : World} {G k : Nat} {arr : Array Value} {t : TypeId} (v : Value) (e : W.heap[G]? = some (.cells arr t (0, 0))) : (W.setCell ⟨G, k, none⟩ v).heap[G]? = some (.cells (arr.setIfInBounds k v) t (0, 0)) := by
  simp [World.setCell, Array.getElem?_modify, e]
theorem row_free {W : World} {b : Nat} {arr : Array Value} {t : TypeId} (e : W.heap[b]? = some (.cells arr t (0, 0))) (k : Nat) : W.frozen? ⟨b, k, none⟩ = false := by
  unfold World.frozen?; rw [e]; simp
theorem heap_lt {w : World} {b : Nat} {o : Obj} (h : w.heap[b]? = some o) : b < w.heap.size := by
  by_cases c : b < w.heap.size
  · exact c
  · rw [Array.getElem?_eq_none (by omega)] at h; cases h
theorem laid1 (w : World) (A : Obj) : (w.alloc A).heap[w.heap.size]? = some A ∧ Below w.heap.size w (w.alloc A) ∧ (w.alloc A).heap.size = w.heap.size + 1 :=
  ⟨heap_alloc_new w A, (Below.refl _ _).alloc (Nat.le_refl _) _, by simp⟩
theorem laid2 (w : World) (A B : Obj) : ((w.alloc A).alloc B).heap[w.heap.size]? = some A ∧ ((w.alloc A).alloc B).heap[w.heap.size + 1]? = some B ∧ Below w.heap.size w ((w.alloc A).alloc B) ∧ ((w.alloc A).alloc B).heap.size = w.heap.size + 2 := by
  refine ⟨?_, ?_, ?_, by simp⟩
  · rw [Below.heap_alloc _ _ _ (by simp)]; exact heap_alloc_new w A
  · have := heap_alloc_new (w.alloc A) B
    simpa using this
  · exact ((Below.refl _ _).alloc (Nat.le_refl _) _).alloc (by simp) _
/-- What lies in blocks that D does not name is as it was. -/
structure Chg (D : Nat → Prop) (w w' : World) : Prop where
  os : w'.os = w.os
  tape : w'.tape = w.tape
  output : w'.output = w.output
  size : w.heap.size ≤ w'.heap.size
  block : ∀ k, k < w.heap.size → ¬ D k → w'.heap[k]? = w.heap[k]?
theorem Chg.refl (D : Nat → Prop) (w : World) : Chg D w w := ⟨rfl, rfl, rfl, Nat.le_refl _, fun _ _ _ => rfl⟩
theorem Chg.trans {D : Nat → Prop} {a b c : World} (h : Chg D a b) (k : Chg D b c) : Chg D a c :=
  ⟨k.os.trans h.os, k.tape.trans h.tape, k.output.trans h.output, Nat.le_trans h.size k.size, fun i hi hd => (k.block i (Nat.lt_of_lt_of_le hi h.size) hd).trans (h.block i hi hd)⟩
theorem Chg.mono {D D' : Nat → Prop} {w w' : World} (h : Chg D w w') (hd : ∀ b, b < w.heap.size → D b → D' b) : Chg D' w w' :=
  ⟨h.os, h.tape, h.output, h.size, fun i hi hn => h.block i hi (fun c => hn (hd i hi c))⟩
theorem Chg.of_below {D : Nat → Prop} {w w' : World} (h : Below w.heap.size w w') : Chg D w w' := ⟨h.os, h.tape, h.output, h.size, fun i hi _ => h.block i hi⟩
theorem Chg.of_grown {D : Nat → Prop} {w w' : World} {r : Option Nat} (h : w.grownBy w' r) (hr : ∀ g, r = some g → D g) : Chg D w w' := ⟨h.os, h.tape, h.output, h.size, fun i hi hn => h.block i hi (fun e => hn (hr i e.symm))⟩
theorem Chg.set {D : Nat → Prop} (w : World) (b i : Nat) (u : Value) (h : D b) : Chg D w (w.setCell ⟨b, i, none⟩ u) := Chg.of_grown (grown_set w b i u) (fun g e => by injection e with e; subst e; exact h)
/-- Below a number that D does not reach nothing has changed. -/
theorem Chg.below {D : Nat → Prop} {B : Nat} {w w' : World} (h : Chg D w w') (hB : B ≤ w.heap.size) (hd : ∀ b, D b → B ≤ b) : Below B w w' :=
  ⟨h.os, h.tape, h.output, h.size, fun k hk => h.block k (by omega) (fun c => by have := hd k c; omega)⟩
theorem Chg.kp {D : Nat → Prop} {w w' : World} (h : Chg D w w') : Kp (fun b => ¬ D b) (fun b => ¬ D b) w w' := fun b i u hs hc => ⟨hs, by
  have hb := World.block_lt_of_cell? w _ hc
  rw [World.cell?_of_block (a := ⟨b, i, none⟩) (h.block b hb hs)]; exact hc⟩
theorem Chg.drewN {D : Nat → Prop} {w w' : World} (h : Chg D w w') (n : Nat) : Chg D w (w'.drewN n) := h.trans (Chg.of_below (bel_drewN _ _ _))

theorem own_ne {w : World} {B e size n bb : Nat} {v : Value} {xs : List Value} {cs : Array Value} {ty : TypeId} (h : w.ownsRow B e size v n xs) (hb : w.heap[bb]? = some (.cells cs ty (0, 0))) (hne : ty ≠ e) : v.ownBlock ≠ some bb := by
  rcases h.2 with ⟨rfl, _⟩ | ⟨g', cap', cur, rfl, _, hh, _⟩
  · intro c; cases c
  · intro c
    have c' : g' = bb := by simpa [Value.ownBlock] using c
    subst c'
    rw [hb] at hh
    injection hh with hh
    injection hh with _ hh
    exact hne hh
theorem own_two {w : World} {B B' e e' size size' n n' : Nat} {v v' : Value} {xs xs' : List Value} (h : w.ownsRow B e size v n xs) (h' : w.ownsRow B' e' size' v' n' xs') (hne : e ≠ e') : ∀ g, v.ownBlock = some g → v'.ownBlock ≠ some g := by
  intro g hg
  rcases h.2 with ⟨rfl, _⟩ | ⟨g', cap', cur, rfl, _, hh, _⟩
  · cases hg
  · have : g' = g := by simpa [Value.ownBlock] using hg
    subst this
    exact own_ne h' hh hne

/-! ### Letters -/
theorem kd_lt (r : Nat) : (kd (r : Int) = 0) ↔ (r ≠ 32 ∧ r ≠ 9 ∧ r ≠ 160 ∧ r ≠ 8239 ∧ r ≠ 173 ∧ r ≠ 8203 ∧ r ≠ 8288 ∧ r ≠ 65279 ∧ r ≠ 45 ∧ r ≠ 8208 ∧ r ≠ 8232 ∧ r ≠ 10) := by
  rcases kd_cases (r : Int) with (h | h | h | h | h | h | h | h | h | h | h | h) | ⟨h0, h1, h2, h3, h4, h5, h6, h7, h8, h9, h10, h11⟩
  all_goals first
    | (constructor
       · intro h'; rw [h] at h'; exact absurd h' (by decide)
       · intro h'; omega)
    | (simp only [beq_eq_false_iff_ne, ne_eq] at *
       constructor
       · intro _; omega
       · intro _; unfold kd; simp [*])
theorem ltr_kd (r : Nat) : ltr r = true ↔ (97 ≤ lowr r ∧ lowr r ≤ 122) ∨ (192 ≤ r ∧ r ≠ 215 ∧ r ≠ 247 ∧ kd (r : Int) = 0) := by
  rw [ltr_iff, kd_lt]
  omega
set_option maxRecDepth 100000 in
theorem lower_int (r : Int) (hr : 0 ≤ r ∧ r ≤ 1114111) (w : World) : Calls Tryd.prog 43 #[.int .i32 r] w fun e w' => e = .returned (.int .i32 (lowr r.toNat : Nat)) ∧ w' = w := by
  have HV : Box (((lowr r.toNat : Nat) : Int) = if 65 ≤ r ∧ r ≤ 90 then r + 32 else r) := boxed (by
    rcases low_cases r.toNat with ⟨h, e⟩ | ⟨h, e⟩
    · rw [if_pos (by omega), e]; omega
    · rw [if_neg (by omega), e]; omega)
  by_cases h1 : 65 ≤ r
  all_goals
    by_cases h2 : r ≤ 90
    all_goals
      go_enter Tryd.func43, Tryd.ntmps43
      go_wp2
      go_ret
      exact ⟨ret_int (by rw [HV.out]; by_cases c : 65 ≤ r ∧ r ≤ 90 <;> simp only [c, and_self, if_true, if_false] <;> omega), rfl⟩
theorem lower_any (r : Nat) (hr : r ≤ 1114111) (w : World) : Calls Tryd.prog 43 #[.int .i32 (r : Int)] w fun e w' => e = .returned (.int .i32 (lowr r : Nat)) ∧ w' = w := by
  have := lower_int (r : Int) (by omega) w
  simpa using this
set_option maxRecDepth 100000 in
theorem digit_any (r : Nat) (hr : r ≤ 1114111) (w : World) : Calls Tryd.prog 45 #[.int .i32 (r : Int)] w fun e w' => e = .returned (.bool (dig r)) ∧ w' = w := by
  have HV : Box (dig r = (decide ((48 : Int) ≤ (r : Int)) && decide ((r : Int) ≤ 57))) := boxed (by unfold dig; congr 1 <;> (rw [decide_eq_decide]; omega))
  have hb : 0 ≤ (r : Int) ∧ (r : Int) ≤ 1114111 := by omega
  generalize (r : Int) = x at *
  by_cases h1 : 48 ≤ x
  all_goals
    by_cases h2 : x ≤ 57
    all_goals
      go_enter Tryd.func45, Tryd.ntmps45
      go_wp2
      go_ret
      exact ⟨ret_bool (by rw [HV.out]; simp [h1, h2]), rfl⟩
set_option maxRecDepth 100000 in
theorem valid_any (r : Nat) (hr : isR (r : Int) = true) (w : World) : Calls Tryd.prog 53 #[.int .i32 (r : Int)] w fun e w' => e = .returned (.bool true) ∧ w' = w := by
  have hi := isR_t _ hr
  clear hr
  generalize (r : Int) = x at *
  by_cases h1 : x < 55296
  all_goals
    go_enter Tryd.func53, Tryd.ntmps53
    go_wp2
    all_goals
      go_ret
      exact ⟨rfl, rfl⟩
theorem low_le (r : Nat) (h : r ≤ 1114111) : lowr r ≤ 1114111 := by
  rcases low_cases r with ⟨c, e⟩ | ⟨c, e⟩ <;> rw [e] <;> omega
set_option maxRecDepth 100000 in
set_option maxHeartbeats 1000000 in
theorem letter_any (r : Nat) (hr : isR (r : Int) = true) (w : World) : Calls Tryd.prog 42 #[.int .i32 (r : Int)] w fun e w' => e = .returned (.bool (ltr r)) ∧ w' = w := by
  have hi := isR_t _ hr
  have hl := lower_any r (by omega) w
  have hv := valid_any r hr w
  have hk := kind_any (r : Int) w
  have hll := low_le r (by omega)
  have HV := boxed (ltr_kd r)
  have HT : Box ((97 ≤ lowr r ∧ lowr r ≤ 122) → ltr r = true) := boxed (fun h => HV.out.2 (.inl h))
  have HN : Box (¬ (97 ≤ lowr r ∧ lowr r ≤ 122) → (r < 192 ∨ r = 215 ∨ r = 247) → ltr r = false) := boxed (fun h1 h2 => by
    cases c : ltr r
    · rfl
    · have := HV.out.1 c; omega)
  have HK : Box (¬ (97 ≤ lowr r ∧ lowr r ≤ 122) → ¬ (r < 192 ∨ r = 215 ∨ r = 247) → ltr r = (kd (r : Int) == 0)) := boxed (fun h1 h2 => by
    rw [Bool.eq_iff_iff, HV.out, beq_iff_eq]; omega)
  clear HV hr
  generalize kd (r : Int) = K at *
  generalize ltr r = T at *
  generalize lowr r = l at *
  by_cases h1 : 97 ≤ l ∧ l ≤ 122
  · have e := HT.out h1
    subst e
    have t1 : decide ((97 : Int) ≤ (l : Int)) = true := decide_eq_true (by omega)
    have t2 : decide ((l : Int) ≤ 122) = true := decide_eq_true (by omega)
    clear h1 HT HN HK hi hll
    go_enter Tryd.func42, Tryd.ntmps42
    go_wp2_with (go_at_call 43; refine hl.mono ?_; rintro e w' ⟨rfl, hw'⟩; subst w')
    go_ret
    exact ⟨rfl, rfl⟩
  · have t1 : decide ((97 : Int) ≤ (l : Int)) = false ∨ (decide ((97 : Int) ≤ (l : Int)) = true ∧ decide ((l : Int) ≤ 122) = false) := by
      by_cases c : 97 ≤ l
      · exact .inr ⟨decide_eq_true (by omega), decide_eq_false (by omega)⟩
      · exact .inl (decide_eq_false (by omega))
    by_cases h2 : r < 192 ∨ r = 215 ∨ r = 247
    · have e := HN.out h1 h2
      subst e
      have t2 : decide ((r : Int) < 192) = true ∨ (decide ((r : Int) < 192) = false ∧ ((r : Int) == 215) = true) ∨ (decide ((r : Int) < 192) = false ∧ ((r : Int) == 215) = false ∧ ((r : Int) == 247) = true) := by
        rcases h2 with c | c | c
        · exact .inl (decide_eq_true (by omega))
        · exact .inr (.inl ⟨decide_eq_false (by omega), by rw [beq_iff_eq]; omega⟩)
        · exact .inr (.inr ⟨decide_eq_false (by omega), by rw [beq_eq_false_iff_ne]; omega, by rw [beq_iff_eq]; omega⟩)
      clear h1 h2 HT HN HK hi hll
      rcases t1 with t1 | ⟨t1, t1'⟩
      all_goals
        rcases t2 with t2 | ⟨t2, t3⟩ | ⟨t2, t3, t4⟩
        all_goals
          go_enter Tryd.func42, Tryd.ntmps42
          go_wp2_with (go_at_call 43; refine hl.mono ?_; rintro e w' ⟨rfl, hw'⟩; subst w')
          go_ret
          exact ⟨rfl, rfl⟩
    · have e := HK.out h1 h2
      subst e
      have t2 : decide ((r : Int) < 192) = false := decide_eq_false (by omega)
      have t3 : ((r : Int) == 215) = false := by rw [beq_eq_false_iff_ne]; omega
      have t4 : ((r : Int) == 247) = false := by rw [beq_eq_false_iff_ne]; omega
      clear h1 h2 HT HN HK hi hll
      rcases t1 with t1 | ⟨t1, t1'⟩
      all_goals
        go_enter Tryd.func42, Tryd.ntmps42
        go_wp2_with (first | (go_at_call 43; refine hl.mono ?_; rintro e w' ⟨rfl, hw'⟩; subst w') | (go_at_call 53; refine hv.mono ?_; rintro e w' ⟨rfl, hw'⟩; subst w') | (go_at_call 54; refine hk.mono ?_; rintro e w' ⟨rfl, hw'⟩; subst w'))
        go_ret
        exact ⟨rfl, rfl⟩
set_option maxRecDepth 100000 in
theorem reflower_any (r : Nat) (hr : r ≤ 1114111) (w : World) : Calls Tryd.prog 21 #[.int .i64 (r : Int)] w fun e w' => e = .returned (.int .i64 (lowr r : Nat)) ∧ w' = w := by
  have HV : Box (((lowr r : Nat) : Int) = if 65 ≤ (r : Int) ∧ (r : Int) ≤ 90 then (r : Int) + 32 else (r : Int)) := boxed (by
    rcases low_cases r with ⟨h, e⟩ | ⟨h, e⟩
    · rw [if_pos (by omega), e]; omega
    · rw [if_neg (by omega), e])
  have hb : 0 ≤ (r : Int) ∧ (r : Int) ≤ 1114111 := by omega
  generalize lowr r = l at *
  generalize (r : Int) = x at *
  by_cases h1 : 65 ≤ x
  all_goals
    by_cases h2 : x ≤ 90
    all_goals
      go_enter Tryd.func21, Tryd.ntmps21
      go_wp2
      go_ret
      exact ⟨ret_int (by rw [HV.out]; by_cases c : 65 ≤ x ∧ x ≤ 90 <;> simp only [c, and_self, if_true, if_false] <;> omega), rfl⟩
set_option maxRecDepth 100000 in
set_option maxHeartbeats 1000000 in
theorem refletter_any (r : Nat) (hr : r ≤ 1114111) (w : World) : Calls Tryd.prog 10 #[.int .i64 (r : Int)] w fun e w' => e = .returned (.bool (ltr r)) ∧ Below w.heap.size w w' := by
  have hl := reflower_any r hr w
  have hk := refkind_any (r : Int) w
  have hll := low_le r hr
  have HV := boxed (ltr_kd r)
  have HT : Box ((97 ≤ lowr r ∧ lowr r ≤ 122) → ltr r = true) := boxed (fun h => HV.out.2 (.inl h))
  have HN : Box (¬ (97 ≤ lowr r ∧ lowr r ≤ 122) → (r < 192 ∨ r = 215 ∨ r = 247) → ltr r = false) := boxed (fun h1 h2 => by
    cases c : ltr r
    · rfl
    · have := HV.out.1 c; omega)
  have HK : Box (¬ (97 ≤ lowr r ∧ lowr r ≤ 122) → ¬ (r < 192 ∨ r = 215 ∨ r = 247) → ltr r = (kd (r : Int) == 0)) := boxed (fun h1 h2 => by
    rw [Bool.eq_iff_iff, HV.out, beq_iff_eq]; omega)
  clear HV
  generalize kd (r : Int) = K at *
  generalize ltr r = T at *
  generalize lowr r = l at *
  by_cases h1 : 97 ≤ l ∧ l ≤ 122
  · have e := HT.out h1
    subst e
    have t1 : decide ((97 : Int) ≤ (l : Int)) = true := decide_eq_true (by omega)
    have t2 : decide ((l : Int) ≤ 122) = true := decide_eq_true (by omega)
    clear h1 HT HN HK hr hll
    go_enter Tryd.func10, Tryd.ntmps10
    go_wp2_with (go_at_call 21; refine hl.mono ?_; rintro e w' ⟨rfl, hw'⟩; subst w')
    go_ret
    exact ⟨rfl, Below.refl _ _⟩
  · have t1 : decide ((97 : Int) ≤ (l : Int)) = false ∨ (decide ((97 : Int) ≤ (l : Int)) = true ∧ decide ((l : Int) ≤ 122) = false) := by
      by_cases c : 97 ≤ l
      · exact .inr ⟨decide_eq_true (by omega), decide_eq_false (by omega)⟩
      · exact .inl (decide_eq_false (by omega))
    by_cases h2 : r < 192 ∨ r = 215 ∨ r = 247
    · have e := HN.out h1 h2
      subst e
      have t2 : decide ((192 : Int) ≤ (r : Int)) = false ∨ (decide ((192 : Int) ≤ (r : Int)) = true ∧ ((r : Int) != 215) = false) ∨ (decide ((192 : Int) ≤ (r : Int)) = true ∧ ((r : Int) != 215) = true ∧ ((r : Int) != 247) = false) := by
        rcases h2 with c | c | c
        · exact .inl (decide_eq_false (by omega))
        · exact .inr (.inl ⟨decide_eq_true (by omega), by simp; omega⟩)
        · exact .inr (.inr ⟨decide_eq_true (by omega), by simp; omega, by simp; omega⟩)
      clear h1 h2 HT HN HK hr hll
      rcases t1 with t1 | ⟨t1, t1'⟩
      all_goals
        rcases t2 with t2 | ⟨t2, t3⟩ | ⟨t2, t3, t4⟩
        all_goals
          go_enter Tryd.func10, Tryd.ntmps10
          go_wp2_with (go_at_call 21; refine hl.mono ?_; rintro e w' ⟨rfl, hw'⟩; subst w')
          go_ret
          exact ⟨rfl, Below.refl _ _⟩
    · have e := HK.out h1 h2
      subst e
      have t2 : decide ((192 : Int) ≤ (r : Int)) = true := decide_eq_true (by omega)
      have t3 : ((r : Int) != 215) = true := by simp; omega
      have t4 : ((r : Int) != 247) = true := by simp; omega
      clear h1 h2 HT HN HK hr hll
      rcases t1 with t1 | ⟨t1, t1'⟩
      all_goals
        go_enter Tryd.func10, Tryd.ntmps10
        go_wp2_with (first | (go_at_call 21; refine hl.mono ?_; rintro e w' ⟨rfl, hw'⟩; subst w'))
        refine hk.mono ?_
        rintro e w1 ⟨rfl, hb⟩
        have HB := boxed hb
        clear hb
        go_wp2
        go_ret
        exact ⟨rfl, HB.out⟩
end Go.Proofs.YtflhefgmgdgffaaDoor
