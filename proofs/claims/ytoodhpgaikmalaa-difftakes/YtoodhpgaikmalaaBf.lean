/-
  Pages and regions as they lie in memory, and parts of them.
-/
import Derived.Test.YtoodhpgaikmalaaBe
namespace Go.Proofs.Ytoodhpgaikmalaa
open Go.RowKit
set_option linter.unusedSimpArgs false
set_option linter.unusedVariables false

/-- What a slice's room is. -/
def Sl (la : Option Addr) (lc n : Nat) : Prop := n ≤ lc ∧ (la = none → lc = 0)
/-- Pages, by what their lines are the same by. -/
def PsAt (S : Nat → Prop) (w : World) (ao : Option Addr) (ps : List (List Key)) : Prop := ∀ i ks, ps[i]? = some ks → ∃ b off la lc, ao = some ⟨b, off, none⟩ ∧ S b ∧ w.cell? ⟨b, off + i, none⟩ = some (.slice la ks.length lc) ∧ Sl la lc ks.length ∧ LsAt S w la ks
theorem PsAt.kp {S S' : Nat → Prop} {w w' : World} {ao : Option Addr} {ps : List (List Key)} (h : PsAt S w ao ps) (k : Kp S S' w w') : PsAt S' w' ao ps := by
  intro i ks hi
  obtain ⟨b, off, la, lc, e, hs, c, hl, hk⟩ := h i ks hi
  exact ⟨b, off, la, lc, e, (k _ _ _ hs c).1, (k _ _ _ hs c).2, hl, hk.kp k⟩
theorem PsAt.below {S : Nat → Prop} {w w' : World} {ao : Option Addr} {ps : List (List Key)} (h : PsAt S w ao ps) (hb : Below w.heap.size w w') : PsAt S w' ao ps := h.kp (kp_below hb)
theorem PsAt.nil {S : Nat → Prop} {w : World} {ao : Option Addr} : PsAt S w ao [] := fun i ks hi => by simp at hi
theorem PsAt.form {S : Nat → Prop} {w : World} {ao : Option Addr} {ps : List (List Key)} (h : PsAt S w ao ps) (hn : 0 < ps.length) : ∃ b off, ao = some ⟨b, off, none⟩ ∧ b < w.heap.size ∧ S b := by
  obtain ⟨b, off, la, lc, e, hs, c, -⟩ := h 0 _ (List.getElem?_eq_getElem hn)
  exact ⟨b, off, e, World.block_lt_of_cell? w _ c, hs⟩
theorem PsAt.get {S : Nat → Prop} {w : World} {b off : Nat} {ps : List (List Key)} (h : PsAt S w (some ⟨b, off, none⟩) ps) (i : Nat) (ks : List Key) (hi : ps[i]? = some ks) : ∃ la lc, w.cell? ⟨b, off + i, none⟩ = some (.slice la ks.length lc) ∧ Sl la lc ks.length ∧ LsAt S w la ks := by
  obtain ⟨b', off', la, lc, e, hs, c, hl, hk⟩ := h i ks hi
  injection e with e
  injection e with e1 e2 e3
  subst e1; subst e2
  exact ⟨la, lc, c, hl, hk⟩
theorem PsAt.take {S : Nat → Prop} {w : World} {ao : Option Addr} {ps : List (List Key)} (h : PsAt S w ao ps) (s : Nat) : PsAt S w ao (ps.take s) := by
  intro i ks hi
  refine h i ks ?_
  rw [List.getElem?_take] at hi
  split at hi
  · exact hi
  · cases hi
theorem PsAt.drop {S : Nat → Prop} {w : World} {b off : Nat} {ps : List (List Key)} (h : PsAt S w (some ⟨b, off, none⟩) ps) (q : Nat) : PsAt S w (some ⟨b, off + q, none⟩) (ps.drop q) := by
  intro i ks hi
  rw [List.getElem?_drop] at hi
  obtain ⟨b', off', la, lc, e, hs, c, hl, hk⟩ := h _ ks hi
  injection e with e
  injection e with e1 e2 e3
  subst e1; subst e2
  exact ⟨b, off + q, la, lc, rfl, hs, by rw [Nat.add_assoc]; exact c, hl, hk⟩
abbrev Rg := Rgn Key
def RgOk (r : Rg) : Prop := I64 r.pg ∧ I64 r.kd ∧ I64 r.fr ∧ I64 r.od
/-- Regions. -/
def RgAt (S : Nat → Prop) (w : World) (ao : Option Addr) (rs : List Rg) : Prop := ∀ i r, rs[i]? = some r → RgOk r ∧ ∃ b off la lc, ao = some ⟨b, off, none⟩ ∧ S b ∧
    (w.cell? ⟨b, off + i * 5, none⟩ = some (.int .i64 r.pg) ∧ w.cell? ⟨b, off + i * 5 + 1, none⟩ = some (.int .i64 r.kd) ∧ w.cell? ⟨b, off + i * 5 + 2, none⟩ = some (.int .i64 r.fr) ∧ w.cell? ⟨b, off + i * 5 + 3, none⟩ = some (.int .i64 r.od) ∧ w.cell? ⟨b, off + i * 5 + 4, none⟩ = some (.slice la r.ls.length lc)) ∧ Sl la lc r.ls.length ∧ LsAt S w la r.ls
theorem RgAt.kp {S S' : Nat → Prop} {w w' : World} {ao : Option Addr} {rs : List Rg} (h : RgAt S w ao rs) (k : Kp S S' w w') : RgAt S' w' ao rs := by
  intro i r hi
  obtain ⟨h0, b, off, la, lc, e, hs, ⟨c0, c1, c2, c3, c4⟩, hl, hk⟩ := h i r hi
  exact ⟨h0, b, off, la, lc, e, (k _ _ _ hs c0).1, ⟨(k _ _ _ hs c0).2, (k _ _ _ hs c1).2, (k _ _ _ hs c2).2, (k _ _ _ hs c3).2, (k _ _ _ hs c4).2⟩, hl, hk.kp k⟩
theorem RgAt.below {S : Nat → Prop} {w w' : World} {ao : Option Addr} {rs : List Rg} (h : RgAt S w ao rs) (hb : Below w.heap.size w w') : RgAt S w' ao rs := h.kp (kp_below hb)
theorem RgAt.form {S : Nat → Prop} {w : World} {ao : Option Addr} {rs : List Rg} (h : RgAt S w ao rs) (hn : 0 < rs.length) : ∃ b off, ao = some ⟨b, off, none⟩ ∧ b < w.heap.size ∧ S b := by
  obtain ⟨-, b, off, la, lc, e, hs, c, -⟩ := h 0 _ (List.getElem?_eq_getElem hn)
  exact ⟨b, off, e, World.block_lt_of_cell? w _ c.1, hs⟩
theorem RgAt.get {S : Nat → Prop} {w : World} {b off : Nat} {rs : List Rg} (h : RgAt S w (some ⟨b, off, none⟩) rs) (i : Nat) (r : Rg) (hi : rs[i]? = some r) : RgOk r ∧ ∃ la lc, (w.cell? ⟨b, off + i * 5, none⟩ = some (.int .i64 r.pg) ∧ w.cell? ⟨b, off + i * 5 + 1, none⟩ = some (.int .i64 r.kd) ∧ w.cell? ⟨b, off + i * 5 + 2, none⟩ = some (.int .i64 r.fr) ∧ w.cell? ⟨b, off + i * 5 + 3, none⟩ = some (.int .i64 r.od) ∧ w.cell? ⟨b, off + i * 5 + 4, none⟩ = some (.slice la r.ls.length lc)) ∧ Sl la lc r.ls.length ∧ LsAt S w la r.ls := by
  obtain ⟨h0, b', off', la, lc, e, hs, c, hl, hk⟩ := h i r hi
  injection e with e
  injection e with e1 e2 e3
  subst e1; subst e2
  exact ⟨h0, la, lc, c, hl, hk⟩
theorem RgAt.drop {S : Nat → Prop} {w : World} {b off : Nat} {rs : List Rg} (h : RgAt S w (some ⟨b, off, none⟩) rs) (q : Nat) : RgAt S w (some ⟨b, off + q * 5, none⟩) (rs.drop q) := by
  intro i r hi
  rw [List.getElem?_drop] at hi
  obtain ⟨h0, b', off', la, lc, e, hs, c, hl, hk⟩ := h _ r hi
  injection e with e
  injection e with e1 e2 e3
  subst e1; subst e2
  have ee : off + q * 5 + i * 5 = off + (q + i) * 5 := by omega
  exact ⟨h0, b, off + q * 5, la, lc, rfl, hs, by rw [ee]; exact c, hl, hk⟩
/-- Pages in memory of one's own, from block B on. -/
def PgO (B : Nat) (w : World) (ao : Option Addr) (cap : Nat) (ps : List (List Key)) : Prop := ∃ vs : List Value, w.ownsRow B 34 1 (.slice ao ps.length cap) ps.length vs ∧ ∀ (i : Nat) (ks : List Key), ps[i]? = some ks → ∃ la lc, vs[i]? = some (Value.slice la ks.length lc) ∧ Sl la lc ks.length ∧ LO (fun b => B ≤ b ∧ (Value.slice ao ps.length cap).ownBlock ≠ some b) w la ks
theorem PgO.at {B : Nat} {w : World} {ao : Option Addr} {cap : Nat} {ps : List (List Key)} (h : PgO B w ao cap ps) : PsAt (fun b => B ≤ b) w ao ps := by
  obtain ⟨vs, ho, h⟩ := h
  intro i ks hi
  have hl := (List.getElem?_eq_some_iff.1 hi).1
  obtain ⟨la, lc, h1, h2, h3⟩ := h i ks hi
  obtain ⟨g, cp, e⟩ := ownsRow_form ho (by omega)
  injection e with e1 e2 e3
  subst e1
  refine ⟨g, 0, la, lc, rfl, (ho.lt g rfl).1, ?_, h2, h3.1.kp (fun b j u hs hc => ⟨hs.1, hc⟩)⟩
  rw [Nat.zero_add, ho.cellAt i (by omega)]; exact h1
theorem PgO.cap {B : Nat} {w : World} {ao : Option Addr} {cap : Nat} {ps : List (List Key)} (h : PgO B w ao cap ps) : Sl ao cap ps.length := by
  obtain ⟨vs, ho, -⟩ := h
  rcases ho.2 with ⟨e, h0⟩ | ⟨g, cp, cur, e, hB, hh, hc, -⟩
  · injection e with e1 e2 e3
    exact ⟨by omega, fun _ => e3⟩
  · injection e with e1 e2 e3
    subst e1; subst e3
    exact ⟨hc, fun e => by cases e⟩
theorem PgO.keep {B : Nat} {w w' : World} {ao : Option Addr} {cap : Nat} {ps : List (List Key)} (h : PgO B w ao cap ps) (hb : Below w.heap.size w w') : PgO B w' ao cap ps := by
  obtain ⟨vs, ho, h⟩ := h
  refine ⟨vs, owns_below ho hb, fun i ks hi => ?_⟩
  obtain ⟨la, lc, h1, h2, h3⟩ := h i ks hi
  exact ⟨la, lc, h1, h2, h3.below hb⟩
/-- Where a part begins. -/
def sa (z off q cap : Nat) : Nat := if cap = q then off else off + q * z
theorem slFP (b off n cap q : Nat) (z : Int) (hz : z = (q : Int)) (hn : n ≤ cap) (hq : q ≤ n) (w : World) : (Instr.slice 22 (.slice (some ⟨b, off, none⟩) n cap) (some (.int .i64 z)) none none).run Try.prog w = .ok (.slice (some ⟨b, sa 1 off q cap, none⟩) (n - q) (cap - q)) w := by
  subst hz
  have hc : Try.prog.cellsOf 34 = 1 := by kernel_rfl
  have h4 : (q : Int) ≤ (n : Int) := by omega
  have h5 : (n : Int) ≤ (cap : Int) := by omega
  unfold sa
  simp [Instr.slice, Instr.sliceBounds, Instr.sliceBound, asIntOf, run_underlying Try.underlying22, go_sem, h4, h5]
  rw [if_pos (by omega : q ≤ n)]
  by_cases c : cap = q
  · rw [if_pos c, if_pos c]
  · rw [if_neg c, if_neg c]
theorem slFR (b off n cap q : Nat) (z : Int) (hz : z = (q : Int)) (hn : n ≤ cap) (hq : q ≤ n) (w : World) : (Instr.slice 26 (.slice (some ⟨b, off, none⟩) n cap) (some (.int .i64 z)) none none).run Try.prog w = .ok (.slice (some ⟨b, sa 5 off q cap, none⟩) (n - q) (cap - q)) w := by
  subst hz
  have hc : Try.prog.cellsOf 39 = 5 := by kernel_rfl
  have h4 : (q : Int) ≤ (n : Int) := by omega
  have h5 : (n : Int) ≤ (cap : Int) := by omega
  unfold sa
  simp [Instr.slice, Instr.sliceBounds, Instr.sliceBound, asIntOf, run_underlying Try.underlying26, go_sem, h4, h5]
  rw [if_pos (by omega : q ≤ n)]
  by_cases c : cap = q
  · rw [if_pos c, if_pos c]
  · rw [if_neg c, if_neg c]
theorem slFL (b off n cap q : Nat) (z : Int) (hz : z = (q : Int)) (hn : n ≤ cap) (hq : q ≤ n) (w : World) : (Instr.slice 32 (.slice (some ⟨b, off, none⟩) n cap) (some (.int .i64 z)) none none).run Try.prog w = .ok (.slice (some ⟨b, sa 9 off q cap, none⟩) (n - q) (cap - q)) w := by
  subst hz
  have hc : Try.prog.cellsOf 37 = 9 := by kernel_rfl
  have h4 : (q : Int) ≤ (n : Int) := by omega
  have h5 : (n : Int) ≤ (cap : Int) := by omega
  unfold sa
  simp [Instr.slice, Instr.sliceBounds, Instr.sliceBound, asIntOf, run_underlying Try.underlying32, go_sem, h4, h5]
  rw [if_pos (by omega : q ≤ n)]
  by_cases c : cap = q
  · rw [if_pos c, if_pos c]
  · rw [if_neg c, if_neg c]
theorem slTL (ao : Option Addr) (n cap q : Nat) (z : Int) (hz : z = (q : Int)) (hq : q ≤ cap) (hs : ao = none → cap = 0) (w : World) : (Instr.slice 32 (.slice ao n cap) none (some (.int .i64 z)) none).run Try.prog w = .ok (.slice ao q cap) w := by
  subst hz
  have h4 : (q : Int) ≤ (cap : Int) := by omega
  cases ao with
  | none =>
    have := hs rfl
    subst this
    obtain rfl : q = 0 := by omega
    go_simp
  | some ad => go_simp
theorem slTP (ao : Option Addr) (n cap q : Nat) (z : Int) (hz : z = (q : Int)) (hq : q ≤ cap) (hs : ao = none → cap = 0) (w : World) : (Instr.slice 22 (.slice ao n cap) none (some (.int .i64 z)) none).run Try.prog w = .ok (.slice ao q cap) w := by
  subst hz
  have h4 : (q : Int) ≤ (cap : Int) := by omega
  cases ao with
  | none =>
    have := hs rfl
    subst this
    obtain rfl : q = 0 := by omega
    go_simp
  | some ad => go_simp
theorem slML (b off n cap i j : Nat) (x y : Int) (hx : x = (i : Int)) (hy : y = (j : Int)) (hi : i ≤ j) (hj : j ≤ cap) (w : World) : (Instr.slice 32 (.slice (some ⟨b, off, none⟩) n cap) (some (.int .i64 x)) (some (.int .i64 y)) none).run Try.prog w = .ok (.slice (some ⟨b, sa 9 off i cap, none⟩) (j - i) (cap - i)) w := by
  subst hx; subst hy
  have hc : Try.prog.cellsOf 37 = 9 := by kernel_rfl
  have h4 : (i : Int) ≤ (j : Int) := by omega
  have h5 : (j : Int) ≤ (cap : Int) := by omega
  unfold sa
  simp [Instr.slice, Instr.sliceBounds, Instr.sliceBound, asIntOf, run_underlying Try.underlying32, go_sem, h4, h5]
  rw [if_pos hj, if_pos hi]
  by_cases c : cap = i
  · rw [if_pos c, if_pos c]
  · rw [if_neg c, if_neg c]
theorem nil_len {S : Nat → Prop} {w : World} {ks : List Key} (h : LsAt S w none ks) : ks = [] := by
  by_cases c : 0 < ks.length
  · obtain ⟨b, off, e, -⟩ := h.form c; cases e
  · exact List.eq_nil_of_length_eq_zero (by omega)
/-- Lines from i up to j. -/
theorem cut_lines (ao : Option Addr) (cap i j : Nat) (ks : List Key) (S0 : Nat → Prop) (w0 : World) (h0 : LsAt S0 w0 ao ks) (hs : Sl ao cap ks.length) (hi : i ≤ j) (hj : j ≤ ks.length) :
    ∃ a3 c3, (∀ w (x y : Int), x = (i : Int) → y = (j : Int) → (Instr.slice 32 (.slice ao ks.length cap) (some (.int .i64 x)) (some (.int .i64 y)) none).run Try.prog w = .ok (.slice a3 (j - i) c3) w) ∧ Sl a3 c3 (j - i) ∧ (∀ S w, LsAt S w ao ks → LsAt S w a3 ((ks.drop i).take (j - i))) ∧ ∀ S w, LO S w ao ks → LO S w a3 ((ks.drop i).take (j - i)) := by
  obtain ⟨h1, h2⟩ := hs
  cases ao with
  | none =>
    have e0 := h2 rfl
    subst e0
    have en := nil_len h0
    subst en
    obtain rfl : j = 0 := by simpa using hj
    obtain rfl : i = 0 := by omega
    refine ⟨none, 0, ?_, ⟨by omega, fun _ => rfl⟩, fun S w _ => by simpa using LsAt.nil, fun S w _ => by simpa using LO.nil⟩
    intro w x y hx hy
    subst hx; subst hy
    go_simp
  | some ad =>
    have hl : ((ks.drop i).take (j - i)).length = j - i := by rw [List.length_take, List.length_drop]; omega
    by_cases hn : ks.length = 0
    · have en : ks = [] := List.eq_nil_of_length_eq_zero hn
      subst en
      obtain rfl : j = 0 := by simpa using hj
      obtain rfl : i = 0 := by omega
      refine ⟨some ad, cap, ?_, ⟨by omega, fun e => by cases e⟩, fun S w _ => by simpa using LsAt.nil, fun S w _ => by simpa using LO.nil⟩
      intro w x y hx hy
      subst hx; subst hy
      obtain ⟨b, off, sp⟩ := ad
      simp [Instr.slice, Instr.sliceBounds, Instr.sliceBound, asIntOf, run_underlying Try.underlying32, go_sem]
    · obtain ⟨b, off, e, -⟩ := h0.form (by omega)
      injection e with e
      subst e
      refine ⟨some ⟨b, sa 9 off i cap, none⟩, cap - i, fun w x y hx hy => slML b off _ cap i j x y hx hy hi (by omega) w, ⟨by omega, fun e => by cases e⟩, ?_, ?_⟩
      · intro S w h
        by_cases c : j - i = 0
        · rw [c]; simpa using LsAt.nil
        · unfold sa
          rw [if_neg (by omega)]
          exact h.part i (j - i) (by omega)
      · intro S w h
        by_cases c : j - i = 0
        · rw [c]; simpa using LO.nil
        · unfold sa
          rw [if_neg (by omega)]
          exact h.part i (j - i) (by omega)
/-- Lines from i on. -/
theorem cut_tail (ao : Option Addr) (cap i : Nat) (ks : List Key) (S0 : Nat → Prop) (w0 : World) (h0 : LsAt S0 w0 ao ks) (hs : Sl ao cap ks.length) (hi : i ≤ ks.length) :
    ∃ a3 c3, (∀ w (x : Int), x = (i : Int) → (Instr.slice 32 (.slice ao ks.length cap) (some (.int .i64 x)) none none).run Try.prog w = .ok (.slice a3 (ks.length - i) c3) w) ∧ Sl a3 c3 (ks.length - i) ∧ (∀ S w, LsAt S w ao ks → LsAt S w a3 (ks.drop i)) ∧ ∀ S w, LO S w ao ks → LO S w a3 (ks.drop i) := by
  obtain ⟨h1, h2⟩ := hs
  have ht : (ks.drop i).take (ks.length - i) = ks.drop i := List.take_of_length_le (by simp)
  cases ao with
  | none =>
    have e0 := h2 rfl
    subst e0
    have en := nil_len h0
    subst en
    obtain rfl : i = 0 := by simpa using hi
    refine ⟨none, 0, ?_, ⟨by simp, fun _ => rfl⟩, fun S w _ => LsAt.nil, fun S w _ => LO.nil⟩
    intro w x hx
    subst hx
    go_simp
  | some ad =>
    by_cases hn : ks.length = 0
    · have en : ks = [] := List.eq_nil_of_length_eq_zero hn
      subst en
      obtain rfl : i = 0 := by simpa using hi
      refine ⟨some ad, cap, ?_, ⟨by simp, fun e => by cases e⟩, fun S w _ => LsAt.nil, fun S w _ => LO.nil⟩
      intro w x hx
      subst hx
      obtain ⟨b, off, sp⟩ := ad
      simp [Instr.slice, Instr.sliceBounds, Instr.sliceBound, asIntOf, run_underlying Try.underlying32, go_sem]
    · obtain ⟨b, off, e, -⟩ := h0.form (by omega)
      injection e with e
      subst e
      refine ⟨some ⟨b, sa 9 off i cap, none⟩, cap - i, fun w x hx => slFL b off _ cap i x hx h1 hi w, ⟨by omega, fun e => by cases e⟩, ?_, ?_⟩
      · intro S w h
        by_cases c : ks.length = i
        · rw [List.drop_of_length_le (by omega)]; exact LsAt.nil
        · unfold sa
          rw [if_neg (by omega)]
          have := h.part i (ks.length - i) (by omega)
          rw [ht] at this
          exact this
      · intro S w h
        by_cases c : ks.length = i
        · rw [List.drop_of_length_le (by omega)]; exact LO.nil
        · unfold sa
          rw [if_neg (by omega)]
          have := h.part i (ks.length - i) (by omega)
          rw [ht] at this
          exact this
theorem LsAt.take {S : Nat → Prop} {w : World} {ao : Option Addr} {ks : List Key} (h : LsAt S w ao ks) (q : Nat) : LsAt S w ao (ks.take q) := by
  obtain ⟨F, h1, h2⟩ := h
  have hl : (ks.take q).length ≤ ks.length := by rw [List.length_take]; omega
  refine ⟨F, fun i hi => h1 i (by omega), fun i hi => ⟨(h2 i (by omega)).1, ?_⟩⟩
  rw [List.length_take] at hi
  rw [List.getElem?_take_of_lt (by omega)]
  exact (h2 i (by omega)).2
end Go.Proofs.Ytoodhpgaikmalaa
