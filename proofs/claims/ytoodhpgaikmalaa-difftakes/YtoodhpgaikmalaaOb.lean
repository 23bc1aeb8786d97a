/-
  Runs, out of the texts of stage 5: what this program has of them (Ob).
-/
import Derived.Test.YtoodhpgaikmalaaOa
import Derived.Below
import Derived.WalkSpells
import Derived.WalkMore
import Derived.Laws.RangeAny
import Derived.Deep.QuietTactic
import Derived.Deep.RegionHeld3
import Derived.BigQuiet
import Derived.Handy
import Derived.Laws.AppendOwnNone
import Derived.Laws.StructEq
import Derived.Deep.AppendLies
namespace Go.Proofs.Ytoodhpgaikmalaa
open Go.RowKit
set_option linter.unusedSimpArgs false
set_option linter.unusedVariables false
theorem ret_int {k : IntKind} {a b : Int} (h : a = b) : Ending.returned (.int k a) = .returned (.int k b) := by rw [h]
theorem ret_bool {a b : Bool} (h : a = b) : Ending.returned (.bool a) = .returned (.bool b) := by rw [h]
theorem bel_drewN (B : Nat) (w : World) (n : Nat) : Below B w (w.drewN n) := ⟨rfl, rfl, rfl, Nat.le_refl _, fun _ _ => rfl⟩
theorem hold {w w' : World} {a : Addr} {v : Value} (hb : Below w.heap.size w w') (h : w.cell? a = some v) : w'.cell? a = some v := by
  rw [hb.cell (World.block_lt_of_cell? w _ h)]; exact h
theorem below_step {B : Nat} {w w1 w2 : World} (h1 : Below B w w1) (hB : B ≤ w.heap.size) (h2 : Below w1.heap.size w1 w2) : Below B w w2 :=
  h1.trans (h2.mono (Nat.le_trans hB h1.size))
theorem cell_new (W : World) (b : Nat) (cs : Array Value) (t : TypeId) (i : Nat) (hb : b = W.heap.size) : (W.alloc (.cells cs t)).cell? ⟨b, i, none⟩ = cs[i]? := by
  subst hb
  exact cell_of_row _ _ i cs t (0, 0) (heap_alloc_new W _)
def I64 (n : Int) : Prop := -9223372036854775808 ≤ n ∧ n ≤ 9223372036854775807
def P2At (S : Nat → Prop) (w : World) (ao : Option Addr) (n : Nat) (A Y : Nat → Int) : Prop := ∀ i, i < n → (I64 (A i) ∧ I64 (Y i)) ∧ ∃ b off, ao = some ⟨b, off, none⟩ ∧ S b ∧
    w.cell? ⟨b, off + i * 2, none⟩ = some (.int .i64 (A i)) ∧ w.cell? ⟨b, off + i * 2 + 1, none⟩ = some (.int .i64 (Y i))
def I1At (S : Nat → Prop) (w : World) (ao : Option Addr) (s : List Int) : Prop := ∀ i, i < s.length → ∃ b off, ao = some ⟨b, off, none⟩ ∧ S b ∧ w.cell? ⟨b, off + i, none⟩ = some (.int .i64 (s.getD i 0))
def Kp (S S' : Nat → Prop) (w w' : World) : Prop := ∀ b i u, S b → w.cell? ⟨b, i, none⟩ = some u → S' b ∧ w'.cell? ⟨b, i, none⟩ = some u
theorem kp_below {S : Nat → Prop} {w w' : World} (h : Below w.heap.size w w') : Kp S S w w' := fun b i u hs hc => ⟨hs, hold h hc⟩
theorem P2At.keep {S S' : Nat → Prop} {w w' : World} {ao : Option Addr} {n : Nat} {A Y : Nat → Int} (h : P2At S w ao n A Y) (k : Kp S S' w w') : P2At S' w' ao n A Y := by
  intro i hi
  obtain ⟨h1, b, off, e, hs, c0, c1⟩ := h i hi
  exact ⟨h1, b, off, e, (k _ _ _ hs c0).1, (k _ _ _ hs c0).2, (k _ _ _ hs c1).2⟩
theorem P2At.form {S : Nat → Prop} {w : World} {ao : Option Addr} {n : Nat} {A Y : Nat → Int} (h : P2At S w ao n A Y) (hn : 0 < n) : ∃ b off, ao = some ⟨b, off, none⟩ ∧ S b := by
  obtain ⟨-, b, off, e, hs, -, -⟩ := h 0 hn
  exact ⟨b, off, e, hs⟩
theorem P2At.get {S : Nat → Prop} {w : World} {b off n : Nat} {A Y : Nat → Int} (h : P2At S w (some ⟨b, off, none⟩) n A Y) (i : Nat) (hi : i < n) : w.cell? ⟨b, off + i * 2, none⟩ = some (.int .i64 (A i)) ∧ w.cell? ⟨b, off + i * 2 + 1, none⟩ = some (.int .i64 (Y i)) := by
  obtain ⟨-, b', off', e, -, c0, c1⟩ := h i hi
  injection e with e
  injection e with e1 e2 e3
  subst e1; subst e2
  exact ⟨c0, c1⟩
theorem I1At.form {S : Nat → Prop} {w : World} {ao : Option Addr} {s : List Int} (h : I1At S w ao s) (hn : 0 < s.length) : ∃ b off, ao = some ⟨b, off, none⟩ ∧ S b := by
  obtain ⟨b, off, e, hs, -⟩ := h 0 hn
  exact ⟨b, off, e, hs⟩
theorem I1At.get {S : Nat → Prop} {w : World} {b off : Nat} {s : List Int} (h : I1At S w (some ⟨b, off, none⟩) s) (i : Nat) (hi : i < s.length) : w.cell? ⟨b, off + i, none⟩ = some (.int .i64 (s.getD i 0)) := by
  obtain ⟨b', off', e, -, c0⟩ := h i hi
  injection e with e
  injection e with e1 e2 e3
  subst e1; subst e2
  exact c0
theorem I1At.keep {S S' : Nat → Prop} {w w' : World} {ao : Option Addr} {s : List Int} (h : I1At S w ao s) (k : Kp S S' w w') : I1At S' w' ao s := by
  intro i hi
  obtain ⟨b, off, e, hs, c0⟩ := h i hi
  exact ⟨b, off, e, (k _ _ _ hs c0).1, (k _ _ _ hs c0).2⟩
theorem P2At.below {S : Nat → Prop} {w w' : World} {ao : Option Addr} {n : Nat} {A Y : Nat → Int} (h : P2At S w ao n A Y) (hb : Below w.heap.size w w') : P2At S w' ao n A Y := h.keep (kp_below hb)
theorem I1At.below {S : Nat → Prop} {w w' : World} {ao : Option Addr} {s : List Int} (h : I1At S w ao s) (hb : Below w.heap.size w w') : I1At S w' ao s := h.keep (kp_below hb)
theorem grown_below {w w' : World} {lb B : Nat} (h : w.grownBy w' (some lb)) (hl : B ≤ lb) (hB : B ≤ w.heap.size) : Below B w w' :=
  ⟨h.os, h.tape, h.output, h.size, fun k hk => h.block k (by omega) (fun e => by injection e; omega)⟩
theorem grown_trans {a b c : World} {row : Option Nat} (h : a.grownBy b row) (k : b.grownBy c row) : a.grownBy c row :=
  ⟨k.os.trans h.os, k.tape.trans h.tape, k.output.trans h.output, Nat.le_trans h.size k.size, fun i hi hr => (k.block i (Nat.lt_of_lt_of_le hi h.size) hr).trans (h.block i hi hr)⟩
theorem below_two (w : World) (o1 o2 : Obj) : Below w.heap.size w ((w.alloc o1).alloc o2) := ((Below.refl _ w).alloc (Nat.le_refl _) _).alloc (by simp) _
theorem ownsRow_forms {w : World} {base size n : Nat} {e : TypeId} {v : Value} {xs : List Value} (h : w.ownsRow base e size v n xs) : (v = .slice none 0 0 ∧ n = 0) ∨ ∃ g cap, v = .slice (some ⟨g, 0, none⟩) n cap := by
  rcases h.2 with ⟨h1, h2⟩ | ⟨g, cap, cur, h1, _⟩
  · exact .inl ⟨h1, h2⟩
  · exact .inr ⟨g, cap, h1⟩
theorem ownsRow_form {w : World} {base size n : Nat} {e : TypeId} {v : Value} {xs : List Value} (h : w.ownsRow base e size v n xs) (hn : 0 < n) : ∃ g cap, v = .slice (some ⟨g, 0, none⟩) n cap := by
  rcases ownsRow_forms h with ⟨_, h2⟩ | h
  · omega
  · exact h
theorem owns_below {w w' : World} {B e size n : Nat} {v : Value} {xs : List Value} (h : w.ownsRow B e size v n xs) (hb : Below w.heap.size w w') : w'.ownsRow B e size v n xs :=
  h.kept (row := none) ⟨hb.os, hb.tape, hb.output, hb.size, fun k hk _ => hb.block k hk⟩ (by cases hv : v.ownBlock <;> simp)
theorem snoc_of {α : Type} (l : List α) (h : 0 < l.length) : ∃ a x, l = a ++ [x] := by
  exact ⟨l.dropLast, l.getLast (by intro e; rw [e] at h; simp at h), (List.dropLast_concat_getLast _).symm⟩
theorem info_run : (Try.prog.info? 58).map (fun i => (i.zero, i.size, i.bytes)) = some (some (.agg #[.int .i64 0, .int .i64 0]), 2, 16) := by kernel_rfl
def rcs : List (Nat × Int) → List Value
  | [] => []
  | p :: r => .int .i64 (p.1 : Int) :: .int .i64 p.2 :: rcs r
theorem rcs_app (R Q : List (Nat × Int)) : rcs (R ++ Q) = rcs R ++ rcs Q := by
  induction R with
  | nil => rfl
  | cons p r ih => simp [rcs, ih]
theorem rcs_len (R : List (Nat × Int)) : (rcs R).length = R.length * 2 := by
  induction R with
  | nil => rfl
  | cons p r ih => simp [rcs, ih]; omega
theorem rcs_get (R : List (Nat × Int)) (i : Nat) (h : i < R.length) : (rcs R)[i * 2]? = some (.int .i64 (((R.getD i (0, 0)).1 : Nat) : Int)) ∧ (rcs R)[i * 2 + 1]? = some (.int .i64 (Ys R i)) := by
  induction R generalizing i with
  | nil => simp at h
  | cons p r ih =>
    cases i with
    | zero => simp [rcs, Ys]
    | succ i =>
      have := ih i (by simpa using h)
      rw [show (i + 1) * 2 = i * 2 + 1 + 1 from by omega, Ys_cons]
      simp only [rcs, List.getElem?_cons_succ, List.getD_cons_succ]
      exact this
theorem grown_set (w : World) (b i : Nat) (u : Value) : w.grownBy (w.setCell ⟨b, i, none⟩ u) (some b) :=
  ⟨rfl, rfl, rfl, by simp, fun k _ hk => heap_setCell_other w ⟨b, i, none⟩ k u (fun e => hk (by simp [e]))⟩
theorem mem_flat (R : List (Nat × Int)) (hc : Can R) (y : Int) : y ∈ flat R ↔ ∃ p ∈ R, p.2 = y := by
  induction R with
  | nil => simp [flat]
  | cons p r ih =>
    obtain ⟨h1, _, h3⟩ := hc
    simp only [flat, List.mem_append, List.mem_replicate, List.mem_cons, ih h3]
    constructor
    · rintro (⟨_, rfl⟩ | ⟨q, hq, rfl⟩)
      · exact ⟨p, .inl rfl, rfl⟩
      · exact ⟨q, .inr hq, rfl⟩
    · rintro ⟨q, rfl | hq, rfl⟩
      · exact .inl ⟨by omega, rfl⟩
      · exact .inr ⟨q, hq, rfl⟩
def exr (L Y : Nat → Int) : Nat → List Int
  | 0 => []
  | k + 1 => exr L Y k ++ List.replicate (L k).toNat (Y k)
theorem set0_heap {w : World} {b : Nat} {v0 v1 v : Value} {t : TypeId} (h : w.heap[b]? = some (.cells #[v0, v1] t (0, 0))) : (w.setCell ⟨b, 0, none⟩ v).heap[b]? = some (.cells #[v, v1] t (0, 0)) := by
  simp [World.setCell, Array.getElem?_modify, h]
theorem set1_heap {w : World} {b : Nat} {v0 v1 v : Value} {t : TypeId} (h : w.heap[b]? = some (.cells #[v0, v1] t (0, 0))) : (w.setCell ⟨b, 1, none⟩ v).heap[b]? = some (.cells #[v0, v] t (0, 0)) := by
  simp [World.setCell, Array.getElem?_modify, h]
def ints (s : List Int) : List Value := s.map (Value.int .i64)
theorem owns_ge {w : World} {B e size n : Nat} {v : Value} {xs : List Value} (h : w.ownsRow B e size v n xs) : ∀ r, v.ownBlock = some r → B ≤ r := fun r e => (h.lt r e).1
def IsI (w : World) (so : Option Addr) (s : List Int) : Prop := ∃ ad, so = some ad ∧ ∀ j u, (ints s)[j]? = some u → w.cell? (ad.add j) = some u
theorem IsI.below {w w' : World} {so : Option Addr} {s : List Int} (h : IsI w so s) (hb : Below w.heap.size w w') : IsI w' so s := by
  obtain ⟨ad, e, h⟩ := h
  exact ⟨ad, e, fun j u hj => hold hb (h j u hj)⟩
structure RfAt (N : Nat → Prop) (w : World) (b off cap : Nat) (s : List Int) : Prop where
  ne : ∀ i, i < s.length → N b
  cap : s.length ≤ cap
  cells : ∀ i, i < s.length → w.cell? ⟨b, off + i, none⟩ = some (.int .i64 (s.getD i 0))
  ok : Sok s
  len : s.length ≤ 65536
theorem RfAt.keep {N : Nat → Prop} {w w' : World} {b off cap : Nat} {s : List Int} (h : RfAt N w b off cap s) (k : Kp N N w w') : RfAt N w' b off cap s :=
  ⟨h.ne, h.cap, fun i hi => (k _ _ _ (h.ne i hi) (h.cells i hi)).2, h.ok, h.len⟩
theorem RfAt.below {N : Nat → Prop} {w w' : World} {b off cap : Nat} {s : List Int} (h : RfAt N w b off cap s) (hb : Below w.heap.size w w') : RfAt N w' b off cap s := h.keep (kp_below hb)
theorem RfAt.other {N : Nat → Prop} {rb : Nat} {w w' : World} {b off cap : Nat} {s : List Int} (h : RfAt N w b off cap s) (hb : ∀ i, i < s.length → b ≠ rb) (hg : w.grownBy w' (some rb)) : RfAt N w' b off cap s :=
  ⟨h.ne, h.cap, fun i hi => hg.cell (h.cells i hi) (fun e => by injection e with e; exact hb i hi e), h.ok, h.len⟩
theorem put2_all {w : World} {rb : Nat} {x y v0 v1 : Value} {t : TypeId} (h : w.heap[rb]? = some (.cells #[x, y] t (0, 0))) :
    ((w.setCell ⟨rb, 0, none⟩ v0).setCell ⟨rb, 1, none⟩ v1).cell? ⟨rb, 0, none⟩ = some v0 ∧ ((w.setCell ⟨rb, 0, none⟩ v0).setCell ⟨rb, 1, none⟩ v1).cell? ⟨rb, 1, none⟩ = some v1 ∧ w.grownBy ((w.setCell ⟨rb, 0, none⟩ v0).setCell ⟨rb, 1, none⟩ v1) (some rb) := by
  have h2 := set1_heap (v := v1) (set0_heap (v := v0) h)
  exact ⟨by simp [World.cell?, h2], by simp [World.cell?, h2], grown_trans (grown_set _ _ _ _) (grown_set _ _ _ _)⟩
theorem box_facts {w1 : World} {rb : Nat} {x y : Value} {t : TypeId} (hr1 : w1.heap[rb]? = some (.cells #[x, y] t (0, 0))) : w1.cell? ⟨rb, 0, none⟩ = some x ∧ w1.cell? ⟨rb, 1, none⟩ = some y ∧ w1.frozen? ⟨rb, 0, none⟩ = false ∧ w1.frozen? ⟨rb, 1, none⟩ = false :=
  ⟨by simp [World.cell?, hr1], by simp [World.cell?, hr1], by unfold World.frozen?; rw [hr1]; simp, by unfold World.frozen?; rw [hr1]; simp⟩
theorem own_runs {w : World} {B : Nat} {ao : Option Addr} {cap n : Nat} {R : List (Nat × Int)} (h : w.ownsRow B 58 2 (.slice ao n cap) R.length (rcs R)) (hn : n = R.length) (hl : ∀ p ∈ R, p.1 ≤ 9223372036854775807 ∧ I64 p.2) : P2At (fun b => B ≤ b) w ao R.length (fun i => ((R.getD i (0, 0)).1 : Nat)) (fun i => Ys R i) := by
  subst hn
  intro i hi
  obtain ⟨g, cap', e⟩ := ownsRow_form h (by omega)
  injection e with e1 e2 e3
  subst e1; subst e3
  obtain ⟨p1, p2⟩ := rcs_get R i hi
  have hb := h.lt g rfl
  have hm : R.getD i (0, 0) ∈ R := by simp [List.getD, hi]
  have hp := hl _ hm
  refine ⟨⟨⟨?_, ?_⟩, hp.2⟩, g, 0, rfl, hb.1, ?_, ?_⟩
  · show (_ : Int) ≤ (((R.getD i (0, 0)).1 : Nat) : Int); omega
  · show (((R.getD i (0, 0)).1 : Nat) : Int) ≤ _; omega
  · rw [Nat.zero_add, h.cellAt (i * 2) (by omega), p1]
  · rw [Nat.zero_add, h.cellAt (i * 2 + 1) (by omega), p2]
theorem guardR : Try.prog.eqGuardType Try.prog.depth 58 = false := by kernel_rfl
theorem eqRun (a b d e : Int) (w : World) : (Op.equalIn 10000 58 (.agg #[.int .i64 a, .int .i64 b]) (.agg #[.int .i64 d, .int .i64 e])).run Try.prog w = .ok (a == d && b == e) w := by
  have u3 := Try.underlying3
  have hS : Try.prog.underlying 58 = some (.struct (Try.prog.fieldsOf 58)) := by kernel_rfl
  have hp : Try.prog.stoodInHeld 58 = false := by kernel_rfl
  rw [show (10000 : Nat) = 9999 + 1 from rfl, run_equalIn_agg w 9999 58 _ _ hS hp]
  simp only [Program.fieldsOf, Try.underlying58]
  go_simp
  by_cases h1 : a = d <;> by_cases h2 : b = e <;> simp [h1, h2]
theorem neqRun (a b d e : Int) (w : World) : (binOp .neq 58 (.agg #[.int .i64 a, .int .i64 b]) (.agg #[.int .i64 d, .int .i64 e])).run Try.prog w = .ok (.bool (!(a == d && b == e))) w := by
  rw [run_neq_struct, eqRun]
  rfl
theorem guardRun (op : BinOp) (x y : Operand) (xs ys : Array Value) (w : World) : (eqGuard op 58 x y (.agg xs) (.agg ys)).run Try.prog w = .ok () w := run_eqGuard_agg w op 58 x y xs ys guardR
set_option maxRecDepth 100000 in
set_option maxHeartbeats 4000000 in
theorem rsame_any (A B : Nat → Prop) (w : World) (ao bo : Option Addr) (na nb ca cb : Nat) (L1 Y1 L2 Y2 : Nat → Int) (h1 : P2At A w ao na L1 Y1) (h2 : P2At B w bo nb L2 Y2) (hn : na ≤ 1048576) : Calls Try.prog 35 #[.slice ao na ca, .slice bo nb cb] w fun e w' => ∃ r, e = .returned (.bool r) ∧ (r = true ↔ na = nb ∧ ∀ i, i < na → L1 i = L2 i ∧ Y1 i = Y2 i) ∧ Below w.heap.size w w' := by
  have H1 := boxed h1
  have H2 := boxed h2
  clear h1 h2
  by_cases c : na = nb
  · subst c
    go_enter Try.func35, Try.ntmps35
    go_wp2_with fail
    go_loopw [5] (fun vi wr => ∃ i : Nat, i ≤ na ∧ vi = .int .i64 (i : Nat) ∧ Box (∀ j, j < i → L1 j = L2 j ∧ Y1 j = Y2 j) ∧ Box (Below w.heap.size w wr)) (fun vi _ => na - (intOf vi).toNat)
    case atStart => exact ⟨0, Nat.zero_le _, rfl, boxed (fun j hj => by omega), boxed (Below.refl _ _)⟩
    case round =>
      obtain ⟨i, hi, rfl, HS, HB⟩ := hrel
      by_cases hlt : i < na
      · obtain ⟨b1, o1, rfl, -⟩ := H1.out.form (by omega)
        obtain ⟨b2, o2, rfl, -⟩ := H2.out.form (by omega)
        obtain ⟨p0, p1⟩ := (H1.out.below HB.out).get i hlt
        obtain ⟨q0, q1⟩ := (H2.out.below HB.out).get i hlt
        have hgd := guardRun
        have hne := fun w => neqRun (L1 i) (Y1 i) (L2 i) (Y2 i) w
        by_cases ce : L1 i = L2 i ∧ Y1 i = Y2 i
        · have te : (!(L1 i == L2 i && Y1 i == Y2 i)) = false := by simp [ce.1, ce.2]
          simp only [te] at hne
          have HS2 : Box (∀ j, j < i + 1 → L1 j = L2 j ∧ Y1 j = Y2 j) := boxed (fun j hj => by
            by_cases d : j = i
            · subst d; exact ce
            · exact HS.out j (by omega))
          clear ce te HS
          generalize L1 i = l1 at *
          generalize Y1 i = y1 at *
          generalize L2 i = l2 at *
          generalize Y2 i = y2 at *
          go_wp2_with fail
          go_quiet (fail)
          go_wp2_with fail
          go_roundw
          case rel => exact ⟨i + 1, by omega, by go_num, HS2, boxed (HB.out.trans (bel_drewN _ _ _))⟩
          case measure => simp [intOf]; omega
        · have te : (!(L1 i == L2 i && Y1 i == Y2 i)) = true := by
            by_cases c1 : L1 i = L2 i
            · have c2 : Y1 i ≠ Y2 i := fun e => ce ⟨c1, e⟩
              simp [c2]
            · simp [c1]
          simp only [te] at hne
          have HS2 : Box (¬ ∀ j, j < na → L1 j = L2 j ∧ Y1 j = Y2 j) := boxed (fun hh => ce (hh i hlt))
          clear ce te HS
          generalize L1 i = l1 at *
          generalize Y1 i = y1 at *
          generalize L2 i = l2 at *
          generalize Y2 i = y2 at *
          go_wp2_with fail
          go_quiet (fail)
          go_wp2_with fail
          go_ret
          exact ⟨false, rfl, ⟨(fun h => by cases h), (fun h => absurd h.2 HS2.out)⟩, HB.out.trans (bel_drewN _ _ _)⟩
      · obtain rfl : i = na := by omega
        go_wp2_with fail
        go_ret
        exact ⟨true, rfl, ⟨fun _ => ⟨by first | rfl | trivial, HS.out⟩, fun _ => rfl⟩, HB.out⟩
  · have t : ((na : Int) == (nb : Int)) = false := by rw [beq_eq_false_iff_ne]; omega
    have c' := boxed c
    clear c
    go_enter Try.func35, Try.ntmps35
    go_wp2
    go_ret
    exact ⟨false, rfl, by simp [c'.out], Below.refl _ _⟩
theorem same_lists (R Q : List (Nat × Int)) : (R.length = Q.length ∧ ∀ i, i < R.length → (((R.getD i (0, 0)).1 : Nat) : Int) = (((Q.getD i (0, 0)).1 : Nat) : Int) ∧ Ys R i = Ys Q i) ↔ R = Q := by
  constructor
  · rintro ⟨h1, h2⟩
    apply List.ext_getElem h1
    intro i hi hj
    obtain ⟨k1, k2⟩ := h2 i hi
    unfold Ys at k2
    have e1 : R.getD i (0, 0) = R[i] := by simp [List.getD, hi]
    have e2 : Q.getD i (0, 0) = Q[i] := by simp [List.getD, hj]
    rw [e1, e2] at k1 k2
    exact Prod.ext (by omega) k2
  · rintro rfl
    exact ⟨rfl, fun i _ => ⟨rfl, rfl⟩⟩
theorem rsame_runs (B C : Nat) (w : World) (v1 v2 : Value) (R Q : List (Nat × Int)) (h1 : w.ownsRow B 58 2 v1 R.length (rcs R)) (h2 : w.ownsRow C 58 2 v2 Q.length (rcs Q)) (k1 : ∀ p ∈ R, p.1 ≤ 9223372036854775807 ∧ I64 p.2) (k2 : ∀ p ∈ Q, p.1 ≤ 9223372036854775807 ∧ I64 p.2) (hn : R.length ≤ 1048576) :
    Calls Try.prog 35 #[v1, v2] w fun e w' => ∃ r, e = .returned (.bool r) ∧ (r = true ↔ R = Q) ∧ Below w.heap.size w w' := by
  have shp : ∀ {B : Nat} {v : Value} {R : List (Nat × Int)}, w.ownsRow B 58 2 v R.length (rcs R) → ∃ ao cap, v = .slice ao R.length cap := fun h => by
    rcases ownsRow_forms h with ⟨g1, g2⟩ | ⟨g, cap, g1⟩
    · exact ⟨none, 0, by rw [g2]; exact g1⟩
    · exact ⟨_, _, g1⟩
  obtain ⟨ao, ca, rfl⟩ := shp h1
  obtain ⟨bo, cb, rfl⟩ := shp h2
  refine (rsame_any _ _ w ao bo R.length Q.length ca cb _ _ _ _ (own_runs h1 rfl k1) (own_runs h2 rfl k2) hn).mono ?_
  rintro e w' ⟨r, rfl, hr, hb⟩
  exact ⟨r, rfl, hr.trans (same_lists R Q), hb⟩
theorem run_append_nothing {P : Program} {w : World} (base : Nat) (t ty e : TypeId) (i : TypeInfo) (size c : Nat) (ht : P.underlying t = some (.slice e)) (hi : P.info? e = some i)
    (v : Value) (n : Nat) (xs : List Value) (hown : w.ownsRow base e size v n xs) :
    (Builtin.append_ #[t, t] ty #[v, .slice none 0 c]).run P w = .ok v w := by
  rcases hown.2 with ⟨rfl, rfl⟩ | ⟨g, cap, cur, rfl, _, _, hnc, _⟩
  · simp [Builtin.append_, run_underlying ht, sizeOf, typeInfo, hi, Builtin.lenOf, Builtin.firstCells]
  · simp [Builtin.append_, run_underlying ht, sizeOf, typeInfo, hi, Builtin.lenOf, Builtin.firstCells, hnc, storeCells]
theorem step_append_nothing {P : Program} {w : World} {ops : Array Oper} {o : Oper} {a : Act} {K : Act → World → Prop} {Q : Exit → Act → World → Prop} {E : Prop} (hgd : o.guard = none) (s x : Operand) (t : TypeId)
    (ho : o.op = .call { callee := .builtin .append, args := #[s, x], argTypes := #[t, t] })
    (base : Nat) (e : TypeId) (i : TypeInfo) (size c : Nat) (ht : P.underlying t = some (.slice e)) (hi : P.info? e = some i)
    (v : Value) (n : Nat) (xs : List Value) (hs : a.eval s = v) (hown : w.ownsRow base e size v n xs) (hx : a.eval x = .slice none 0 c)
    (h : K (a.put o.dst v) w) : if Region.wanted o (yielded ops a.tmps) = true then Oper.wp P o a w K Q else E := by
  have hw : Region.wanted o (yielded ops a.tmps) = true := by simp [Region.wanted, hgd]
  rw [if_pos hw]
  have hrun := run_append_nothing (P := P) (w := w) base t o.type e i size c ht hi v n xs hown
  unfold Oper.wp
  simp [execOp, ho, resolve, invoke, builtin, hs, hx, hrun, Result.andThen]
  exact h
theorem step_append_own {P : Program} {w : World} {ops : Array Oper} {o : Oper} {a : Act} {K : Act → World → Prop} {Q : Exit → Act → World → Prop} {E : Prop} (hgd : o.guard = none) (s x : Operand) (t : TypeId)
    (ho : o.op = .call { callee := .builtin .append, args := #[s, x], argTypes := #[t, t] })
    (base : Nat) (e : TypeId) (i : TypeInfo) (z : Value) (size bytes : Nat) (ht : P.underlying t = some (.slice e)) (hi : P.info? e = some i) (hz : i.zero = some z)
    (hsize : i.size = size) (hby : i.bytes = bytes) (hzs : z.cells.size = size) (hsz : 0 < size)
    (v : Value) (n : Nat) (xs : List Value) (hs : a.eval s = v) (hown : w.ownsRow base e size v n xs)
    (ad : Addr) (m c : Nat) (news : List Value) (hx : a.eval x = .slice (some ad) m c) (hl : news.length = m * size) (hnews : ∀ j u, news[j]? = some u → w.cell? (ad.add j) = some u) (h1 : ∀ u ∈ news, u.oneCell' = true)
    (h63 : n + m ≤ maxLen) (hbytes : (n + m) * bytes ≤ 140737488355328) (hbase : base ≤ w.heap.size)
    (h : ∀ v' w', w'.ownsRow base e size v' (n + m) (xs ++ news) → w.grownBy w' v.ownBlock → K (a.put o.dst v') w') :
    if Region.wanted o (yielded ops a.tmps) = true then Oper.wp P o a w K Q else E := by
  have hw : Region.wanted o (yielded ops a.tmps) = true := by simp [Region.wanted, hgd]
  rw [if_pos hw]
  exact wp_append_own w s x t ho base e i z size bytes ht hi hz hsize hby hzs hsz v n xs hs hown ad m c news hx hl hnews h1 h63 hbytes hbase fun v' w' h2 h3 _ => h v' w' h2 h3
end Go.Proofs.Ytoodhpgaikmalaa
