/-
  Lists of styles as they lie in memory: the program's parts, runs, and the document's numbers; what the program's size, isStyle, Len, Count and outside answer.
-/
import Derived.WalkSpells
import Derived.WalkMore
import Derived.Laws.RangeAny
import Derived.Deep.QuietTactic
import Derived.Deep.RegionHeld3
import Derived.BigQuiet
import Derived.Handy
import Derived.Test.YtcjcdpfjnomehaaGreatPw12
namespace Go.Proofs.YtcjcdpfjnomehaaGreat.Ru
open Go.RowKit
set_option linter.unusedSimpArgs false
set_option linter.unusedVariables false
theorem ret_int {k : IntKind} {a b : Int} (h : a = b) : Ending.returned (.int k a) = .returned (.int k b) := by rw [h]
theorem ret_bool {a b : Bool} (h : a = b) : Ending.returned (.bool a) = .returned (.bool b) := by rw [h]
theorem ret_two {k k' : IntKind} {a b c d : Int} (h1 : a = c) (h2 : b = d) : Ending.returned (.tuple #[.int k a, .int k' b]) = .returned (.tuple #[.int k c, .int k' d]) := by rw [h1, h2]
theorem bel_drewN (B : Nat) (w : World) (n : Nat) : Below B w (w.drewN n) := ⟨rfl, rfl, rfl, Nat.le_refl _, fun _ _ => rfl⟩
theorem hold {w w' : World} {a : Addr} {v : Value} (hb : Below w.heap.size w w') (h : w.cell? a = some v) : w'.cell? a = some v := by
  rw [hb.cell (World.block_lt_of_cell? w _ h)]; exact h
theorem below_step {B : Nat} {w w1 w2 : World} (h1 : Below B w w1) (hB : B ≤ w.heap.size) (h2 : Below w1.heap.size w1 w2) : Below B w w2 :=
  h1.trans (h2.mono (Nat.le_trans hB h1.size))
theorem cell_new (W : World) (b : Nat) (cs : Array Value) (t : TypeId) (i : Nat) (hb : b = W.heap.size) : (W.alloc (.cells cs t)).cell? ⟨b, i, none⟩ = cs[i]? := by
  subst hb
  exact cell_of_row _ _ i cs t (0, 0) (heap_alloc_new W _)
def I64 (n : Int) : Prop := -9223372036854775808 ≤ n ∧ n ≤ 9223372036854775807
def P2At (S : Nat → Prop) (w : World) (ao : Option Addr) (n : Nat) (A Y : Nat → Int) : Prop := ∀ i, i < n → (I64 (A i) ∧ I64 (Y i)) ∧ ∃ b off, ao = some ⟨b, off, none⟩ ∧ S b ∧
    w.cell? ⟨b, off + i * 2, none⟩ = some (.int .i64 (A i)) ∧ w.cell? ⟨b, off + i * 2 + 1, none⟩ = some (.int .i64 (Y i))
def I1At (S : Nat → Prop) (w : World) (ao : Option Addr) (s : List Int) : Prop := ∀ i, i < s.length → ∃ b off, ao = some ⟨b, off, none⟩ ∧ S b ∧ w.cell? ⟨b, off + i, none⟩ = some (.int .i64 (s.getD i 0))
def Kp (S S' : Nat → Prop) (w w' : World) : Prop := ∀ b i u, S b → w.cell? ⟨b, i, none⟩ = some u → S' b ∧ w'.cell? ⟨b, i, none⟩ = some u
theorem kp_below {S : Nat → Prop} {w w' : World} (h : Below w.heap.size w w') : Kp S S w w' := fun b i u hs hc => ⟨hs, hold h hc⟩
theorem P2At.keep {S S' : Nat → Prop} {w w' : World} {ao : Option Addr} {n : Nat} {A Y : Nat → Int} (h : P2At S w ao n A Y) (k : Kp S S' w w') : P2At S' w' ao n A Y := by
  intro i hi
  obtain ⟨h1, b, off, e, hs, c0, c1⟩ := h i hi
  exact ⟨h1, b, off, e, (k _ _ _ hs c0).1, (k _ _ _ hs c0).2, (k _ _ _ hs c1).2⟩
theorem P2At.form {S : Nat → Prop} {w : World} {ao : Option Addr} {n : Nat} {A Y : Nat → Int} (h : P2At S w ao n A Y) (hn : 0 < n) : ∃ b off, ao = some ⟨b, off, none⟩ ∧ S b := by
  obtain ⟨-, b, off, e, hs, -, -⟩ := h 0 hn
  exact ⟨b, off, e, hs⟩
theorem P2At.get {S : Nat → Prop} {w : World} {b off n : Nat} {A Y : Nat → Int} (h : P2At S w (some ⟨b, off, none⟩) n A Y) (i : Nat) (hi : i < n) : w.cell? ⟨b, off + i * 2, none⟩ = some (.int .i64 (A i)) ∧ w.cell? ⟨b, off + i * 2 + 1, none⟩ = some (.int .i64 (Y i)) := by
  obtain ⟨-, b', off', e, -, c0, c1⟩ := h i hi
  injection e with e
  injection e with e1 e2 e3
  subst e1; subst e2
  exact ⟨c0, c1⟩
theorem I1At.form {S : Nat → Prop} {w : World} {ao : Option Addr} {s : List Int} (h : I1At S w ao s) (hn : 0 < s.length) : ∃ b off, ao = some ⟨b, off, none⟩ ∧ S b := by
  obtain ⟨b, off, e, hs, -⟩ := h 0 hn
  exact ⟨b, off, e, hs⟩
theorem I1At.get {S : Nat → Prop} {w : World} {b off : Nat} {s : List Int} (h : I1At S w (some ⟨b, off, none⟩) s) (i : Nat) (hi : i < s.length) : w.cell? ⟨b, off + i, none⟩ = some (.int .i64 (s.getD i 0)) := by
  obtain ⟨b', off', e, -, c0⟩ := h i hi
  injection e with e
  injection e with e1 e2 e3
  subst e1; subst e2
  exact c0
theorem I1At.keep {S S' : Nat → Prop} {w w' : World} {ao : Option Addr} {s : List Int} (h : I1At S w ao s) (k : Kp S S' w w') : I1At S' w' ao s := by
  intro i hi
  obtain ⟨b, off, e, hs, c0⟩ := h i hi
  exact ⟨b, off, e, (k _ _ _ hs c0).1, (k _ _ _ hs c0).2⟩
theorem P2At.below {S : Nat → Prop} {w w' : World} {ao : Option Addr} {n : Nat} {A Y : Nat → Int} (h : P2At S w ao n A Y) (hb : Below w.heap.size w w') : P2At S w' ao n A Y := h.keep (kp_below hb)
theorem I1At.below {S : Nat → Prop} {w w' : World} {ao : Option Addr} {s : List Int} (h : I1At S w ao s) (hb : Below w.heap.size w w') : I1At S w' ao s := h.keep (kp_below hb)
def PartsAt (S : Nat → Prop) (w : World) (ao : Option Addr) (s : List Int) : Prop := P2At S w ao (enc s).length (fun i => (Bg (enc s) (i + 1) : Nat)) (fun i => Ys (enc s) i)
theorem grown_below {w w' : World} {lb B : Nat} (h : w.grownBy w' (some lb)) (hl : B ≤ lb) (hB : B ≤ w.heap.size) : Below B w w' :=
  ⟨h.os, h.tape, h.output, h.size, fun k hk => h.block k (by omega) (fun e => by injection e; omega)⟩
theorem below_grown {w w' : World} (h : Below w.heap.size w w') (row : Option Nat) : w.grownBy w' row := ⟨h.os, h.tape, h.output, h.size, fun k hk _ => h.block k hk⟩
theorem grown_trans {a b c : World} {row : Option Nat} (h : a.grownBy b row) (k : b.grownBy c row) : a.grownBy c row :=
  ⟨k.os.trans h.os, k.tape.trans h.tape, k.output.trans h.output, Nat.le_trans h.size k.size, fun i hi hr => (k.block i (Nat.lt_of_lt_of_le hi h.size) hr).trans (h.block i hi hr)⟩
structure ListAt (w : World) (lb : Nat) (ao : Option Addr) (cap : Nat) (s : List Int) (bare : Int) : Prop where
  blk : w.heap[lb]? = some (.cells #[.slice ao (enc s).length cap, .int .i64 bare] 224 (0, 0))
  pts : PartsAt (· ≠ lb) w ao s
  ok : Sok s
  len : s.length ≤ 65536
  bare : 0 ≤ bare ∧ bare < 32
theorem ListAt.lt {w : World} {lb : Nat} {ao : Option Addr} {cap : Nat} {s : List Int} {bare : Int} (h : ListAt w lb ao cap s bare) : lb < w.heap.size := (Array.getElem?_eq_some_iff.1 h.blk).1
theorem ListAt.c0 {w : World} {lb : Nat} {ao : Option Addr} {cap : Nat} {s : List Int} {bare : Int} (h : ListAt w lb ao cap s bare) : w.cell? ⟨lb, 0, none⟩ = some (.slice ao (enc s).length cap) := by simp [World.cell?, h.blk]
theorem ListAt.c1 {w : World} {lb : Nat} {ao : Option Addr} {cap : Nat} {s : List Int} {bare : Int} (h : ListAt w lb ao cap s bare) : w.cell? ⟨lb, 1, none⟩ = some (.int .i64 bare) := by simp [World.cell?, h.blk]
theorem ListAt.fz {w : World} {lb : Nat} {ao : Option Addr} {cap : Nat} {s : List Int} {bare : Int} (h : ListAt w lb ao cap s bare) (i : Nat) : w.frozen? ⟨lb, i, none⟩ = false := by
  unfold World.frozen?; rw [h.blk]; simp
theorem ListAt.below {w w' : World} {lb : Nat} {ao : Option Addr} {cap : Nat} {s : List Int} {bare : Int} (h : ListAt w lb ao cap s bare) (hb : Below w.heap.size w w') : ListAt w' lb ao cap s bare :=
  ⟨by rw [hb.block lb h.lt]; exact h.blk, h.pts.below hb, h.ok, h.len, h.bare⟩
set_option maxRecDepth 100000 in
theorem size_any (S : Nat → Prop) (ao : Option Addr) (cap : Nat) (s : List Int) (w : World) (h : PartsAt S w ao s) (hl : s.length ≤ 8589934592) :
    Calls Tryz.prog 161 #[.slice ao (enc s).length cap] w fun e w' => e = .returned (.int .i64 (s.length : Nat)) ∧ Below w.heap.size w w' := by
  have hle := enc_len s
  by_cases c : (enc s).length = 0
  · have hz := (enc_nil s).1 c
    rw [c, hz]
    clear h hle c hz hl
    go_enter Tryz.func161, Tryz.ntmps161
    go_wp2
    go_ret
    exact ⟨rfl, Below.refl _ _⟩
  · obtain ⟨n, hn⟩ : ∃ n, (enc s).length = n + 1 := ⟨(enc s).length - 1, by omega⟩
    obtain ⟨-, b, off, rfl, -, c0, -⟩ := h n (by omega)
    have e : Bg (enc s) (n + 1) = s.length := by rw [Bg_all _ _ (by omega), sm_enc]
    simp only [e] at c0
    clear h e c
    rw [hn]
    have z : (((n + 1 : Nat) : Int) == 0) = false := by rw [beq_eq_false_iff_ne]; omega
    generalize s.length = L at *
    generalize (enc s).length = M at *
    subst hn
    go_enter Tryz.func161, Tryz.ntmps161
    go_wp2
    go_ret
    exact ⟨rfl, Below.refl _ _⟩
def stb (y : Int) : Bool := decide (0 ≤ y) && decide (y < 32)
theorem stb_iff (y : Int) : stb y = true ↔ 0 ≤ y ∧ y < 32 := by simp [stb]
theorem isStyle_any (n : Int) (w : World) : Calls Tryz.prog 151 #[.int .i64 n] w fun e w' => e = .returned (.bool (stb n)) ∧ w' = w := by
  unfold stb
  by_cases h : 0 ≤ n
  · go_enter Tryz.func151, Tryz.ntmps151
    go_wp2
    go_ret
    exact ⟨by first | (simp [h]; done) | (simp [h]; omega), rfl⟩
  · go_enter Tryz.func151, Tryz.ntmps151
    go_wp2
    go_ret
    exact ⟨by first | (simp [h]; done) | (simp [h]; omega), rfl⟩
section
variable {w : World} {lb : Nat} {ao : Option Addr} {cap : Nat} {s : List Int} {bare : Int}
set_option maxRecDepth 100000 in
theorem len_any (h : ListAt w lb ao cap s bare) : Calls Tryz.prog 117 #[.pointer (some ⟨lb, 0, none⟩)] w fun e w' => e = .returned (.int .i64 (s.length : Nat)) ∧ Below w.heap.size w w' := by
  have hs := fun w' (hb : Below w.heap.size w w') => size_any (· ≠ lb) ao cap s w' (h.pts.below hb) (by have := h.len; omega)
  have c0 := h.c0
  clear h
  go_enter Tryz.func117, Tryz.ntmps117
  go_wp2_with fail
  refine (hs _ (Below.refl _ _)).mono ?_
  rintro e w1 ⟨rfl, hb1⟩
  go_wp2
  go_ret
  exact ⟨rfl, hb1⟩
def outb (n : Nat) (a b : Int) : Bool := decide (a < 0) || decide ((n : Int) < b) || decide (b < a)
theorem outb_iff (n : Nat) (a b : Int) : outb n a b = false ↔ 0 ≤ a ∧ a ≤ b ∧ b ≤ (n : Int) := by
  unfold outb; simp; omega
set_option maxRecDepth 100000 in
theorem outside_any (h : ListAt w lb ao cap s bare) (a b : Int) : Calls Tryz.prog 110 #[.pointer (some ⟨lb, 0, none⟩), .int .i64 a, .int .i64 b] w fun e w' => e = .returned (.bool (outb s.length a b)) ∧ Below w.heap.size w w' := by
  have hs := len_any h
  clear h
  unfold outb
  generalize s.length = n at *
  by_cases h1 : a < 0
  · clear hs
    go_enter Tryz.func110, Tryz.ntmps110
    go_wp2
    go_ret
    exact ⟨by simp [h1], Below.refl _ _⟩
  · go_enter Tryz.func110, Tryz.ntmps110
    go_wp2_with (go_at_call 117; refine hs.mono ?_; rintro e w1 ⟨rfl, hb1⟩)
    all_goals go_ret
    all_goals (refine ⟨?_, hb1⟩; refine ret_bool ?_)
    all_goals (clear hs hb1; first | (simp [*]; done) | (rw [decide_eq_false (by omega : ¬ a < 0)]; simp; done) | (simp; omega))
end
end Go.Proofs.YtcjcdpfjnomehaaGreat.Ru

/-
  Which part has a byte: what the program's holder (by halving), At, Near and Most answer.
-/
namespace Go.Proofs.YtcjcdpfjnomehaaGreat.Ru
open Go.RowKit
set_option linter.unusedSimpArgs false
set_option linter.unusedVariables false
set_option maxRecDepth 100000 in
theorem holds1_any (S : Nat → Prop) (ao : Option Addr) (n cap : Nat) (A Y : Nat → Int) (at_ : Int) (bS bR k : Nat) (w : World) (hr : P2At S w ao n A Y) (hk : k < n) (cS : w.cell? ⟨bS, 0, none⟩ = some (.slice ao n cap)) (cR : w.cell? ⟨bR, 0, none⟩ = some (.int .i64 at_)) :
    Calls Tryz.prog 195 #[.int .i64 (k : Int), .pointer (some ⟨bS, 0, none⟩), .pointer (some ⟨bR, 0, none⟩)] w fun e w' => e = .returned (.bool (decide (at_ < A k))) ∧ Below w.heap.size w w' := by
  obtain ⟨-, b, off, rfl, -, c0, -⟩ := hr k hk
  clear hr
  generalize A k = H at *
  go_enter Tryz.func195, Tryz.ntmps195
  go_wp2
  go_quiet (fail)
  go_wp2
  go_ret
  exact ⟨rfl, bel_drewN _ _ _⟩
set_option maxRecDepth 100000 in
set_option maxHeartbeats 1000000 in
theorem search_any (S : Nat → Prop) (ao : Option Addr) (n cap : Nat) (A Y : Nat → Int) (r : Int) (bS bR : Nat) (w : World) (hr : P2At S w ao n A Y) (hn : n ≤ 8589934592) (hM : ∀ j k, j ≤ k → k < n → A j ≤ A k) (cS : w.cell? ⟨bS, 0, none⟩ = some (.slice ao n cap)) (cR : w.cell? ⟨bR, 0, none⟩ = some (.int .i64 r)) :
    Calls Tryz.prog 194 #[.int .i64 (n : Int), .func (.func 195) #[] #[.pointer (some ⟨bS, 0, none⟩), .pointer (some ⟨bR, 0, none⟩)]] w fun e w' => ∃ q : Nat, e = .returned (.int .i64 (q : Int)) ∧ q ≤ n ∧ (∀ j, j < q → A j ≤ r) ∧ (∀ j, q ≤ j → j < n → r < A j) ∧ Below w.heap.size w w' := by
  have HR := boxed hr
  have HI := boxed hM
  have CS := boxed cS
  have CR := boxed cR
  clear hr hM cS cR
  go_enter Tryz.func194, Tryz.ntmps194
  go_wp2_with fail
  go_loopw [5, 6] (fun a b wr => ∃ i j : Nat, i ≤ j ∧ j ≤ n ∧ a = .int .i64 i ∧ b = .int .i64 j ∧ Box ((∀ q, q < i → A q ≤ r) ∧ ∀ q, j ≤ q → q < n → r < A q) ∧ Box (Below w.heap.size w wr)) (fun a b _ => (intOf b - intOf a).toNat)
  case atStart => exact ⟨0, n, by omega, by omega, rfl, rfl, boxed ⟨fun q hq => by omega, fun q h1 h2 => by omega⟩, boxed (Below.refl _ _)⟩
  case round =>
    obtain ⟨i, j, h1, h2, rfl, rfl, HP, HB⟩ := hrel
    by_cases hlt : i < j
    · obtain ⟨m, hm⟩ : ∃ m : Nat, (i + j) / 2 = m := ⟨_, rfl⟩
      have em : ((i : Int) + (j : Int)) / 2 = (m : Int) := by omega
      have m1 : i ≤ m := by omega
      have m2 : m < j := by omega
      clear hm
      have HC := boxed (holds1_any S ao n cap A Y r bS bR m wr (HR.out.below HB.out) (by omega) (hold HB.out CS.out) (hold HB.out CR.out))
      go_wp2_with fail
      refine HC.out.mono ?_
      rintro e w1 ⟨rfl, hb1⟩
      have HB2 := boxed (below_step HB.out (Nat.le_refl _) hb1)
      clear hb1 HC
      by_cases hf : r < A m
      · have tf : decide (r < A m) = true := decide_eq_true hf
        have HN : Box ((∀ q, q < i → A q ≤ r) ∧ ∀ q, m ≤ q → q < n → r < A q) := boxed ⟨HP.out.1, fun q hq1 hq2 => by
          have := HI.out m q hq1 hq2
          omega⟩
        clear hf
        generalize decide (r < A m) = D at *
        go_wp2_with fail
        go_roundw
        case rel => exact ⟨i, m, m1, by omega, rfl, rfl, HN, HB2⟩
        case measure => simp [intOf]; omega
      · have tf : decide (r < A m) = false := decide_eq_false hf
        have HN : Box ((∀ q, q < m + 1 → A q ≤ r) ∧ ∀ q, j ≤ q → q < n → r < A q) := boxed ⟨fun q hq => by
          have := HI.out q m (by omega) (by omega)
          omega, HP.out.2⟩
        clear hf
        generalize decide (r < A m) = D at *
        go_wp2_with fail
        go_roundw
        case rel => exact ⟨m + 1, j, by omega, h2, by go_num, rfl, HN, HB2⟩
        case measure => simp [intOf]; omega
    · have e : i = j := by omega
      subst e
      go_wp2_with fail
      go_ret
      exact ⟨i, rfl, h2, HP.out.1, HP.out.2, HB.out⟩
theorem below_two (w : World) (o1 o2 : Obj) : Below w.heap.size w ((w.alloc o1).alloc o2) := ((Below.refl _ w).alloc (Nat.le_refl _) _).alloc (by simp) _
theorem cell1 (w : World) (v : Value) (t : TypeId) (o : Obj) : ((w.alloc (.cells #[v] t)).alloc o).cell? ⟨w.heap.size, 0, none⟩ = some v := by
  have h : (w.alloc (.cells #[v] t)).cell? ⟨w.heap.size, 0, none⟩ = some v := by rw [cell_new _ _ _ _ _ rfl]; rfl
  exact hold ((Below.refl _ _).alloc (Nat.le_refl _) o) h
theorem cell2 (w : World) (v : Value) (t : TypeId) (o : Obj) : ((w.alloc o).alloc (.cells #[v] t)).cell? ⟨w.heap.size + 1, 0, none⟩ = some v := by
  have := cell_new (w.alloc o) (w.alloc o).heap.size #[v] t 0 rfl
  rw [World.size_alloc] at this
  rw [this]; rfl
set_option maxRecDepth 100000 in
set_option maxHeartbeats 1000000 in
theorem holder_any (S : Nat → Prop) (ao : Option Addr) (cap : Nat) (s : List Int) (a : Nat) (w : World) (h : PartsAt S w ao s) (hl : s.length ≤ 8589934592) :
    Calls Tryz.prog 160 #[.slice ao (enc s).length cap, .int .i64 (a : Nat)] w fun e w' => ∃ q : Nat, e = .returned (.int .i64 (q : Nat)) ∧ ((s.length ≤ a ∧ q = (enc s).length) ∨ (q < (enc s).length ∧ Bg (enc s) q ≤ a ∧ a < Bg (enc s) (q + 1))) ∧ Below w.heap.size w w' := by
  have hle := enc_len s
  have hM : ∀ j k, j ≤ k → k < (enc s).length → ((Bg (enc s) (j + 1) : Nat) : Int) ≤ (Bg (enc s) (k + 1) : Nat) := fun j k h1 _ => by have := Bg_mono _ (can_enc s) (j + 1) (k + 1) (by omega); omega
  have hS := search_any S ao (enc s).length cap _ _ (a : Nat) w.heap.size (w.heap.size + 1) ((w.alloc (.cells #[.slice ao (enc s).length cap] 221)).alloc (.cells #[.int .i64 (a : Nat)] 3)) (h.below (below_two _ _ _)) (by omega) hM (cell1 _ _ _ _) (cell2 _ _ _ _)
  have HX : Box (∀ q : Nat, q ≤ (enc s).length → (∀ j, j < q → ((Bg (enc s) (j + 1) : Nat) : Int) ≤ (a : Nat)) → (∀ j, q ≤ j → j < (enc s).length → ((a : Nat) : Int) < (Bg (enc s) (j + 1) : Nat)) → ((s.length ≤ a ∧ q = (enc s).length) ∨ (q < (enc s).length ∧ Bg (enc s) q ≤ a ∧ a < Bg (enc s) (q + 1)))) := boxed (fun q h1 h2 h3 => by
    by_cases c : q = (enc s).length
    · left
      refine ⟨?_, c⟩
      by_cases d : q = 0
      · have := (enc_nil s).1 (by omega); omega
      · have := h2 (q - 1) (by omega)
        rw [Nat.sub_add_cancel (by omega), c, Bg_all _ _ (Nat.le_refl _), sm_enc] at this
        omega
    · right
      have := h3 q (Nat.le_refl _) (by omega)
      refine ⟨by omega, ?_, by omega⟩
      by_cases d : q = 0
      · subst d; rw [Bg_zero]; omega
      · have := h2 (q - 1) (by omega)
        rw [Nat.sub_add_cancel (by omega)] at this
        omega)
  clear h hM
  generalize (enc s).length = n at *
  go_enter Tryz.func160, Tryz.ntmps160
  go_wp2_with fail
  refine hS.mono ?_
  rintro e w1 ⟨q, rfl, h1, h2, h3, hb⟩
  have HB := boxed ((below_two w _ _).trans (hb.mono (by simp; omega)))
  have HQ := boxed (HX.out q h1 h2 h3)
  clear hS h2 h3 hb
  go_wp2
  go_ret
  exact ⟨q, rfl, HQ.out, HB.out⟩
section
variable {w : World} {lb : Nat} {ao : Option Addr} {cap : Nat} {s : List Int} {bare : Int}
theorem ListAt.sty (h : ListAt w lb ao cap s bare) {q a : Nat} (h1 : q < (enc s).length) (h2 : Bg (enc s) q ≤ a) (h3 : a < Bg (enc s) (q + 1)) : Ys (enc s) q = s.getD a 0 := by
  have := get_of (enc s) q a h1 h2 h3
  rw [flat_enc] at this
  simp [List.getD, this]
set_option maxRecDepth 100000 in
set_option maxHeartbeats 2000000 in
theorem at_any (h : ListAt w lb ao cap s bare) (a : Int) : Calls Tryz.prog 116 #[.pointer (some ⟨lb, 0, none⟩), .int .i64 a] w fun e w' =>
    e = .returned (.tuple #[.int .i64 (if 0 ≤ a ∧ a < s.length then s.getD a.toNat 0 else 0), .bool (decide (0 ≤ a ∧ a < s.length))]) ∧ Below w.heap.size w w' := by
  have hs := fun w' (hb : Below w.heap.size w w') => len_any (h.below hb)
  by_cases c : 0 ≤ a ∧ a < s.length
  · rw [if_pos c, decide_eq_true c]
    obtain ⟨k, rfl⟩ : ∃ k : Nat, a = k := ⟨a.toNat, by omega⟩
    have c3 : k < s.length := by omega
    have hn : 0 < (enc s).length := by have := enc_nil s; omega
    obtain ⟨b, off, rfl, hbl⟩ := h.pts.form hn
    have hc := fun w' (hb : Below w.heap.size w w') => (h.below hb).c0
    have hh := fun w' (hb : Below w.heap.size w w') => (holder_any (· ≠ lb) (some ⟨b, off, none⟩) cap s k w' (h.pts.below hb) (by have := h.len; omega)).mono (R' := fun e w'' => ∃ q : Nat, e = .returned (.int .i64 (q : Nat)) ∧ q < (enc s).length ∧ Box (Ys (enc s) q = s.getD k 0) ∧ Below w'.heap.size w' w'') (by
      rintro e w'' ⟨q, rfl, hq, hb2⟩
      obtain ⟨q1, q2, q3⟩ := hq.resolve_left (by omega)
      exact ⟨q, rfl, q1, boxed (h.sty q1 q2 q3), hb2⟩)
    have hy := fun w' (hb : Below w.heap.size w w') q (hq : q < (enc s).length) => ((h.pts.below hb).get q hq).2
    have hl := h.len
    have hle := enc_len s
    have t1 : decide ((s.length : Int) ≤ (k : Int)) = false := decide_eq_false (by omega)
    have t1' : decide (s.length ≤ k) = false := decide_eq_false (by omega)
    have HG : Box (s.getD ((k : Int).toNat) 0 = s.getD k 0) := boxed (by simp)
    rw [HG.out]
    generalize s.getD k 0 = V at *
    generalize (enc s).length = n at *
    clear h HG c
    generalize Ys (enc s) = Y at *
    go_enter Tryz.func116, Tryz.ntmps116
    go_wp2_with fail
    refine (hs _ (Below.refl _ _)).mono ?_
    rintro e w1 ⟨rfl, hb1⟩
    have HB1 := boxed hb1
    clear hb1 hs
    go_wp2_with fail
    have HB0 : Box (Below w.heap.size w w1.drew) := boxed (HB1.out.trans ((Below.refl _ _).drew))
    go_region_held3 (fun w' => w'.cell? ⟨lb, 0, none⟩ = some (.slice (some ⟨b, off, none⟩) n cap) ∧ ∀ q, q < n → w'.cell? ⟨b, off + q * 2 + 1, none⟩ = some (.int .i64 (Y q)))
      (first | with_reducible exact ⟨hc _ HB0.out, hy _ HB0.out⟩ | with_reducible exact ⟨hc _ HB5.out, hy _ HB5.out⟩)
      (first | (go_at_call 160; refine (hh _ HB0.out).mono ?_; rintro e w5 ⟨q, rfl, hq, cq, hb5⟩; have HB5 := boxed (HB0.out.trans (hb5.mono HB0.out.size)); clear hb5 hh))
    go_wp2
    go_ret2
    exact ⟨by rw [cq.out]; rfl, HB5.out⟩
  · rw [if_neg c, decide_eq_false c]
    clear h
    by_cases c1 : a < 0
    · clear hs
      go_enter Tryz.func116, Tryz.ntmps116
      go_wp2
      go_ret2
      exact ⟨rfl, Below.refl _ _⟩
    · have t1 : decide ((s.length : Int) ≤ a) = true := decide_eq_true (by omega)
      clear c
      go_enter Tryz.func116, Tryz.ntmps116
      go_wp2_with fail
      refine (hs _ (Below.refl _ _)).mono ?_
      rintro e w1 ⟨rfl, hb1⟩
      clear hs
      go_wp2
      go_ret2
      exact ⟨rfl, hb1⟩
end
end Go.Proofs.YtcjcdpfjnomehaaGreat.Ru

/-
  What the program's add does: a run is laid behind parts of the call's own.
-/
namespace Go.Proofs.YtcjcdpfjnomehaaGreat.Ru
open Go.RowKit
set_option linter.unusedSimpArgs false
set_option linter.unusedVariables false
def pcs : Nat → List (Nat × Int) → List Value
  | _, [] => []
  | a, p :: r => .int .i64 ((a + p.1 : Nat) : Int) :: .int .i64 p.2 :: pcs (a + p.1) r
theorem pcs_app (a : Nat) (R Q : List (Nat × Int)) : pcs a (R ++ Q) = pcs a R ++ pcs (a + sm R) Q := by
  induction R generalizing a with
  | nil => simp [pcs, sm]
  | cons p r ih => simp [pcs, sm, ih, Nat.add_assoc]
theorem pcs_len (a : Nat) (R : List (Nat × Int)) : (pcs a R).length = R.length * 2 := by
  induction R generalizing a with
  | nil => rfl
  | cons p r ih => simp [pcs, ih]; omega
theorem pcs_get (a : Nat) (R : List (Nat × Int)) (i : Nat) (h : i < R.length) : (pcs a R)[i * 2]? = some (.int .i64 ((a + Bg R (i + 1) : Nat) : Int)) ∧ (pcs a R)[i * 2 + 1]? = some (.int .i64 (Ys R i)) := by
  induction R generalizing a i with
  | nil => simp at h
  | cons p r ih =>
    cases i with
    | zero => simp [pcs, Bg, sm, Ys]
    | succ i =>
      have := ih (a + p.1) i (by simpa using h)
      rw [show (i + 1) * 2 = i * 2 + 1 + 1 from by omega, Bg_cons, Ys_cons]
      simp only [pcs, List.getElem?_cons_succ]
      rw [← Nat.add_assoc]
      exact this
theorem ownsRow_forms {w : World} {base size n : Nat} {e : TypeId} {v : Value} {xs : List Value} (h : w.ownsRow base e size v n xs) : (v = .slice none 0 0 ∧ n = 0) ∨ ∃ g cap, v = .slice (some ⟨g, 0, none⟩) n cap := by
  rcases h.2 with ⟨h1, h2⟩ | ⟨g, cap, cur, h1, _⟩
  · exact .inl ⟨h1, h2⟩
  · exact .inr ⟨g, cap, h1⟩
theorem ownsRow_form {w : World} {base size n : Nat} {e : TypeId} {v : Value} {xs : List Value} (h : w.ownsRow base e size v n xs) (hn : 0 < n) : ∃ g cap, v = .slice (some ⟨g, 0, none⟩) n cap := by
  rcases ownsRow_forms h with ⟨_, h2⟩ | h
  · omega
  · exact h
theorem owns_below {w w' : World} {B e size n : Nat} {v : Value} {xs : List Value} (h : w.ownsRow B e size v n xs) (hb : Below w.heap.size w w') : w'.ownsRow B e size v n xs :=
  h.kept (row := none) ⟨hb.os, hb.tape, hb.output, hb.size, fun k hk _ => hb.block k hk⟩ (by cases hv : v.ownBlock <;> simp)
theorem own_parts {w : World} {B : Nat} {ao : Option Addr} {cap : Nat} {s : List Int} (h : w.ownsRow B 233 2 (.slice ao (enc s).length cap) (enc s).length (pcs 0 (enc s))) (hl : s.length ≤ 8589934592) (hs : ∀ y ∈ s, I64 y) : PartsAt (fun b => B ≤ b) w ao s := by
  intro i hi
  have hle := enc_len s
  have hb := Bg_le (enc s) (can_enc s) (i + 1)
  rw [sm_enc] at hb
  obtain ⟨g, cap', e⟩ := ownsRow_form h (by omega)
  injection e with e1 e2 e3
  subst e1; subst e3
  have hB := h.lt g rfl
  obtain ⟨p1, p2⟩ := pcs_get 0 (enc s) i hi
  refine ⟨⟨⟨by show (_ : Int) ≤ ((Bg (enc s) (i + 1) : Nat) : Int); omega, by show ((Bg (enc s) (i + 1) : Nat) : Int) ≤ _; omega⟩, hs _ (Ys_in s i hi)⟩, g, 0, rfl, hB.1, ?_, ?_⟩
  · have := h.cellAt (i * 2) (by omega)
    rw [Nat.zero_add, this, p1]; simp
  · have := h.cellAt (i * 2 + 1) (by omega)
    rw [Nat.zero_add, this, p2]
theorem info_part : (Tryz.prog.info? 233).map (fun i => (i.zero, i.size, i.bytes)) = some (some (.agg #[.int .i64 0, .int .i64 0]), 2, 16) := by kernel_rfl
set_option maxRecDepth 100000 in
set_option maxHeartbeats 2000000 in
theorem add_empty (B : Nat) (ao : Option Addr) (cap : Nat) (xs : List Value) (L l E : Nat) (y : Int) (w : World) (hsz : ∀ w', Below w.heap.size w w' → Calls Tryz.prog 161 #[.slice ao 0 cap] w' fun e w'' => e = .returned (.int .i64 (L : Nat)) ∧ Below w'.heap.size w' w'')
    (hE : L + l = E) (c0 : l ≠ 0) (hl : L ≤ 8589869056) (hl0 : l ≤ 65536) (hy : I64 y) (hB : B ≤ w.heap.size) (hown : w.ownsRow B 233 2 (.slice ao 0 cap) 0 xs) :
    Calls Tryz.prog 152 #[.slice ao 0 cap, .agg #[.int .i64 (l : Nat), .int .i64 y]] w fun e w' => ∃ v', e = .returned v' ∧ w'.ownsRow B 233 2 v' 1 (xs ++ [.int .i64 (E : Nat), .int .i64 y]) ∧ w.grownBy w' (Value.slice ao 0 cap).ownBlock := by
  obtain ⟨i0, hi, hz0, hz1, hz2⟩ := info_parts info_part
  have z0 : (((l : Nat) : Int) == 0) = false := by rw [beq_eq_false_iff_ne]; omega
  obtain ⟨W0, hW0⟩ : ∃ W0, w.alloc (.cells #[.int .i64 (l : Nat), .int .i64 y] 61) = W0 := ⟨_, rfl⟩
  have hz : W0.heap.size = w.heap.size + 1 := by rw [← hW0]; simp
  have HW0 : Box (Below w.heap.size w W0) := boxed (by rw [← hW0]; exact (Below.refl _ _).alloc (Nat.le_refl _) _)
  have hr0 : W0.cell? ⟨w.heap.size, 0, none⟩ = some (.int .i64 (l : Nat)) := by rw [← hW0, cell_new _ _ _ _ _ rfl]; rfl
  have hr1 : W0.cell? ⟨w.heap.size, 1, none⟩ = some (.int .i64 y) := by rw [← hW0, cell_new _ _ _ _ _ rfl]; rfl
  have hrr := fun w' (hb : Below W0.heap.size W0 w') => (⟨hold hb hr0, hold hb hr1⟩ : w'.cell? ⟨w.heap.size, 0, none⟩ = some (.int .i64 (l : Nat)) ∧ w'.cell? ⟨w.heap.size, 1, none⟩ = some (.int .i64 y))
  have HG := boxed hsz
  have HO := boxed hown
  have HX := boxed hrr
  clear hsz hown hrr
  have hw : IntKind.i64.wrap ((L : Int) + (l : Int)) = (E : Nat) := by rw [IntKind.wrap_i64]; omega
  have HE := boxed hE
  clear hE
  go_enter Tryz.func152, Tryz.ntmps152
  go_wp2_with fail
  have HB0 : Box (Below W0.heap.size W0 W0.drew) := boxed ((Below.refl _ _).drew)
  have HC0 : Box (Below w.heap.size w W0.drew) := boxed (HW0.out.trans ((Below.refl _ _).drew))
  go_region_held3 (fun w' => w'.cell? ⟨w.heap.size, 0, none⟩ = some (.int .i64 (l : Nat)) ∧ w'.cell? ⟨w.heap.size, 1, none⟩ = some (.int .i64 y))
    (first | with_reducible exact HX.out _ HB0.out | with_reducible exact HX.out _ HB5.out)
    (first | (go_at_call 161; refine (HG.out _ HC0.out).mono ?_; rintro e w5 ⟨rfl, hb5⟩; have HB5 := boxed (HB0.out.trans (hb5.mono HB0.out.size)); clear hb5))
  have cr0 := (HX.out _ HB5.out).1
  have cr1 := (HX.out _ HB5.out).2
  have HC5 : Box (Below w.heap.size w w5) := boxed (HW0.out.trans (HB5.out.mono (by omega)))
  have hown5 := owns_below HO.out HC5.out
  have hz5 : w.heap.size < w5.heap.size := by have := HB5.out.size; omega
  clear hr0 hr1 hW0 HX HG HE HO
  have hun : undef = Value.tuple #[] := rfl
  go_wp2_with fail
  go_quiet (fail)
  have HC7 : Box (Below w.heap.size w (w5.drewN nq)) := boxed (HC5.out.trans (bel_drewN _ _ _))
  have hown7 : (w5.drewN nq).ownsRow _ _ _ _ _ _ := hown5
  have dr0 : (w5.drewN nq).cell? _ = _ := cr0
  have dr1 : (w5.drewN nq).cell? _ = _ := cr1
  have hz7 : w.heap.size < (w5.drewN nq).heap.size := hz5
  generalize w5.drewN nq = w7 at *
  go_wp2_with (at_builtin; refine wpList_append_own _ rfl _ _ 221 rfl B 233 i0 _ 2 16 Tryz.underlying221 hi hz0 hz1 hz2 rfl (by decide) _ _ _ rfl (hown7.alloc _) ⟨w7.heap.size, 0, none⟩ 1 1 [.int .i64 (E : Nat), .int .i64 y] rfl rfl ?c1 ?c2 ?c3 ?c4 ?c5 ?_)
  case c1 =>
    intro j u hj
    match j, hj with
    | 0, hj => simp at hj; subst hj; simp [Addr.add]
    | 1, hj => simp at hj; subst hj; simp [Addr.add]
  case c2 => intro u hu; simp at hu; rcases hu with rfl | rfl <;> rfl
  case c3 => unfold maxLen; omega
  case c4 => omega
  case c5 => simp; omega
  intro v' w6 hown6 hgrow6 _
  have HO6 := boxed hown6
  have HG6 := boxed hgrow6
  clear hown6 hgrow6 hown5 hown7
  go_wp2
  go_ret
  exact ⟨v', rfl, HO6.out, grown_trans (below_grown HC7.out _) (grown_trans (World.grownBy_alloc _ _ _) HG6.out)⟩
set_option maxRecDepth 100000 in
set_option maxHeartbeats 2000000 in
theorem add_apart (m : Nat) (z : Int) (B : Nat) (ao : Option Addr) (cap : Nat) (xs : List Value) (L l E : Nat) (y : Int) (w : World) (hsz : ∀ w', Below w.heap.size w w' → Calls Tryz.prog 161 #[.slice ao (m + 1) cap] w' fun e w'' => e = .returned (.int .i64 (L : Nat)) ∧ Below w'.heap.size w' w'')
    (hE : L + l = E) (c0 : l ≠ 0) (hl : L ≤ 8589869056) (hl0 : l ≤ 65536) (hy : I64 y) (hB : B ≤ w.heap.size) (hm : m ≤ 8589869056) (hown : w.ownsRow B 233 2 (.slice ao (m + 1) cap) (m + 1) xs) (hlast : xs[m * 2 + 1]? = some (.int .i64 z)) (hne : z ≠ y) :
    Calls Tryz.prog 152 #[.slice ao (m + 1) cap, .agg #[.int .i64 (l : Nat), .int .i64 y]] w fun e w' => ∃ v', e = .returned v' ∧ w'.ownsRow B 233 2 v' (m + 1 + 1) (xs ++ [.int .i64 (E : Nat), .int .i64 y]) ∧ w.grownBy w' (Value.slice ao (m + 1) cap).ownBlock := by
  obtain ⟨g, hg⟩ : ∃ g, ao = some ⟨g, 0, none⟩ := by
    obtain ⟨g, cap', e⟩ := ownsRow_form hown (by omega)
    injection e with e1 e2 e3
    exact ⟨g, e1⟩
  subst hg
  have tz : (z == y) = false := by simpa using hne
  obtain ⟨i0, hi, hz0, hz1, hz2⟩ := info_parts info_part
  have z0 : (((l : Nat) : Int) == 0) = false := by rw [beq_eq_false_iff_ne]; omega
  obtain ⟨W0, hW0⟩ : ∃ W0, w.alloc (.cells #[.int .i64 (l : Nat), .int .i64 y] 61) = W0 := ⟨_, rfl⟩
  have hz : W0.heap.size = w.heap.size + 1 := by rw [← hW0]; simp
  have HW0 : Box (Below w.heap.size w W0) := boxed (by rw [← hW0]; exact (Below.refl _ _).alloc (Nat.le_refl _) _)
  have hr0 : W0.cell? ⟨w.heap.size, 0, none⟩ = some (.int .i64 (l : Nat)) := by rw [← hW0, cell_new _ _ _ _ _ rfl]; rfl
  have hr1 : W0.cell? ⟨w.heap.size, 1, none⟩ = some (.int .i64 y) := by rw [← hW0, cell_new _ _ _ _ _ rfl]; rfl
  have hrr := fun w' (hb : Below W0.heap.size W0 w') => (⟨hold hb hr0, hold hb hr1⟩ : w'.cell? ⟨w.heap.size, 0, none⟩ = some (.int .i64 (l : Nat)) ∧ w'.cell? ⟨w.heap.size, 1, none⟩ = some (.int .i64 y))
  have HG := boxed hsz
  have HO := boxed hown
  have HX := boxed hrr
  clear hsz hown hrr
  have hw : IntKind.i64.wrap ((L : Int) + (l : Int)) = (E : Nat) := by rw [IntKind.wrap_i64]; omega
  have HE := boxed hE
  clear hE
  go_enter Tryz.func152, Tryz.ntmps152
  go_wp2_with fail
  have HB0 : Box (Below W0.heap.size W0 W0.drew) := boxed ((Below.refl _ _).drew)
  have HC0 : Box (Below w.heap.size w W0.drew) := boxed (HW0.out.trans ((Below.refl _ _).drew))
  go_region_held3 (fun w' => w'.cell? ⟨w.heap.size, 0, none⟩ = some (.int .i64 (l : Nat)) ∧ w'.cell? ⟨w.heap.size, 1, none⟩ = some (.int .i64 y))
    (first | with_reducible exact HX.out _ HB0.out | with_reducible exact HX.out _ HB5.out)
    (first | (go_at_call 161; refine (HG.out _ HC0.out).mono ?_; rintro e w5 ⟨rfl, hb5⟩; have HB5 := boxed (HB0.out.trans (hb5.mono HB0.out.size)); clear hb5))
  have cr0 := (HX.out _ HB5.out).1
  have cr1 := (HX.out _ HB5.out).2
  have HC5 : Box (Below w.heap.size w w5) := boxed (HW0.out.trans (HB5.out.mono (by omega)))
  have hown5 := owns_below HO.out HC5.out
  have hz5 : w.heap.size < w5.heap.size := by have := HB5.out.size; omega
  clear hr0 hr1 hW0 HX HG HE HO
  have hun : undef = Value.tuple #[] := rfl
  have hx1 := hown5.cellAt (m * 2 + 1) (by omega)
  rw [hlast] at hx1
  have hf0 := hown5.frozenAt (m * 2)
  obtain ⟨u0, hx0⟩ : ∃ u0, w5.cell? ⟨g, m * 2, none⟩ = some u0 := by rw [hown5.cellAt (m * 2) (by omega)]; have := hown5.1; rw [List.getElem?_eq_getElem (by omega)]; exact ⟨_, rfl⟩
  go_wp2_with fail
  go_quiet (fail)
  have HC7 : Box (Below w.heap.size w (w5.drewN nq)) := boxed (HC5.out.trans (bel_drewN _ _ _))
  have hown7 : (w5.drewN nq).ownsRow _ _ _ _ _ _ := hown5
  have dr0 : (w5.drewN nq).cell? _ = _ := cr0
  have dr1 : (w5.drewN nq).cell? _ = _ := cr1
  have hz7 : w.heap.size < (w5.drewN nq).heap.size := hz5
  generalize w5.drewN nq = w7 at *
  go_wp2_with (at_builtin; refine wpList_append_own _ rfl _ _ 221 rfl B 233 i0 _ 2 16 Tryz.underlying221 hi hz0 hz1 hz2 rfl (by decide) _ _ _ rfl (hown7.alloc _) ⟨w7.heap.size, 0, none⟩ 1 1 [.int .i64 (E : Nat), .int .i64 y] rfl rfl ?c1 ?c2 ?c3 ?c4 ?c5 ?_)
  case c1 =>
    intro j u hj
    match j, hj with
    | 0, hj => simp at hj; subst hj; simp [Addr.add]
    | 1, hj => simp at hj; subst hj; simp [Addr.add]
  case c2 => intro u hu; simp at hu; rcases hu with rfl | rfl <;> rfl
  case c3 => unfold maxLen; omega
  case c4 => omega
  case c5 => simp; omega
  intro v' w6 hown6 hgrow6 _
  have HO6 := boxed hown6
  have HG6 := boxed hgrow6
  clear hown6 hgrow6 hown5 hown7
  go_wp2
  go_ret
  exact ⟨v', rfl, HO6.out, grown_trans (below_grown HC7.out _) (grown_trans (World.grownBy_alloc _ _ _) HG6.out)⟩
set_option maxRecDepth 100000 in
set_option maxHeartbeats 2000000 in
theorem add_like (m : Nat) (B : Nat) (ao : Option Addr) (cap : Nat) (xs : List Value) (L l E : Nat) (y : Int) (w : World) (hsz : ∀ w', Below w.heap.size w w' → Calls Tryz.prog 161 #[.slice ao (m + 1) cap] w' fun e w'' => e = .returned (.int .i64 (L : Nat)) ∧ Below w'.heap.size w' w'')
    (hE : L + l = E) (c0 : l ≠ 0) (hl : L ≤ 8589869056) (hl0 : l ≤ 65536) (hy : I64 y) (hB : B ≤ w.heap.size) (hm : m ≤ 8589869056) (hown : w.ownsRow B 233 2 (.slice ao (m + 1) cap) (m + 1) xs) (hlast : xs[m * 2 + 1]? = some (.int .i64 y)) :
    Calls Tryz.prog 152 #[.slice ao (m + 1) cap, .agg #[.int .i64 (l : Nat), .int .i64 y]] w fun e w' => ∃ v', e = .returned v' ∧ w'.ownsRow B 233 2 v' (m + 1) (xs.set (m * 2) (.int .i64 (E : Nat))) ∧ w.grownBy w' (Value.slice ao (m + 1) cap).ownBlock := by
  obtain ⟨g, hg⟩ : ∃ g, ao = some ⟨g, 0, none⟩ := by
    obtain ⟨g, cap', e⟩ := ownsRow_form hown (by omega)
    injection e with e1 e2 e3
    exact ⟨g, e1⟩
  subst hg
  obtain ⟨i0, hi, hz0, hz1, hz2⟩ := info_parts info_part
  have z0 : (((l : Nat) : Int) == 0) = false := by rw [beq_eq_false_iff_ne]; omega
  obtain ⟨W0, hW0⟩ : ∃ W0, w.alloc (.cells #[.int .i64 (l : Nat), .int .i64 y] 61) = W0 := ⟨_, rfl⟩
  have hz : W0.heap.size = w.heap.size + 1 := by rw [← hW0]; simp
  have HW0 : Box (Below w.heap.size w W0) := boxed (by rw [← hW0]; exact (Below.refl _ _).alloc (Nat.le_refl _) _)
  have hr0 : W0.cell? ⟨w.heap.size, 0, none⟩ = some (.int .i64 (l : Nat)) := by rw [← hW0, cell_new _ _ _ _ _ rfl]; rfl
  have hr1 : W0.cell? ⟨w.heap.size, 1, none⟩ = some (.int .i64 y) := by rw [← hW0, cell_new _ _ _ _ _ rfl]; rfl
  have hrr := fun w' (hb : Below W0.heap.size W0 w') => (⟨hold hb hr0, hold hb hr1⟩ : w'.cell? ⟨w.heap.size, 0, none⟩ = some (.int .i64 (l : Nat)) ∧ w'.cell? ⟨w.heap.size, 1, none⟩ = some (.int .i64 y))
  have HG := boxed hsz
  have HO := boxed hown
  have HX := boxed hrr
  clear hsz hown hrr
  have hw : IntKind.i64.wrap ((L : Int) + (l : Int)) = (E : Nat) := by rw [IntKind.wrap_i64]; omega
  have HE := boxed hE
  clear hE
  go_enter Tryz.func152, Tryz.ntmps152
  go_wp2_with fail
  have HB0 : Box (Below W0.heap.size W0 W0.drew) := boxed ((Below.refl _ _).drew)
  have HC0 : Box (Below w.heap.size w W0.drew) := boxed (HW0.out.trans ((Below.refl _ _).drew))
  go_region_held3 (fun w' => w'.cell? ⟨w.heap.size, 0, none⟩ = some (.int .i64 (l : Nat)) ∧ w'.cell? ⟨w.heap.size, 1, none⟩ = some (.int .i64 y))
    (first | with_reducible exact HX.out _ HB0.out | with_reducible exact HX.out _ HB5.out)
    (first | (go_at_call 161; refine (HG.out _ HC0.out).mono ?_; rintro e w5 ⟨rfl, hb5⟩; have HB5 := boxed (HB0.out.trans (hb5.mono HB0.out.size)); clear hb5))
  have cr0 := (HX.out _ HB5.out).1
  have cr1 := (HX.out _ HB5.out).2
  have HC5 : Box (Below w.heap.size w w5) := boxed (HW0.out.trans (HB5.out.mono (by omega)))
  have hown5 := owns_below HO.out HC5.out
  have hz5 : w.heap.size < w5.heap.size := by have := HB5.out.size; omega
  clear hr0 hr1 hW0 HX HG HE HO
  have hun : undef = Value.tuple #[] := rfl
  have hx1 := hown5.cellAt (m * 2 + 1) (by omega)
  rw [hlast] at hx1
  have hf0 := hown5.frozenAt (m * 2)
  obtain ⟨u0, hx0⟩ : ∃ u0, w5.cell? ⟨g, m * 2, none⟩ = some u0 := by rw [hown5.cellAt (m * 2) (by omega)]; have := hown5.1; rw [List.getElem?_eq_getElem (by omega)]; exact ⟨_, rfl⟩
  have HO5 := boxed hown5
  clear hown5
  go_wp2_with fail
  go_quiet (fail)
  have HC7 : Box (Below w.heap.size w (w5.drewN nq)) := boxed (HC5.out.trans (bel_drewN _ _ _))
  have HO7 : Box ((w5.drewN nq).ownsRow _ _ _ _ _ _) := boxed HO5.out
  have dr0 : (w5.drewN nq).cell? _ = _ := cr0
  have dr1 : (w5.drewN nq).cell? _ = _ := cr1
  have dx0 : (w5.drewN nq).cell? ⟨g, m * 2, none⟩ = some u0 := hx0
  have df0 : (w5.drewN nq).frozen? ⟨g, m * 2, none⟩ = false := hf0
  generalize w5.drewN nq = w7 at *
  go_wp2
  go_ret
  have := HO7.out.stored (m * 2) (.int .i64 (E : Nat))
  exact ⟨_, rfl, this.1, grown_trans (below_grown HC7.out _) this.2⟩
theorem snoc_of {α : Type} (l : List α) (h : 0 < l.length) : ∃ a x, l = a ++ [x] := by
  exact ⟨l.dropLast, l.getLast (by intro e; rw [e] at h; simp at h), (List.dropLast_concat_getLast _).symm⟩
theorem add_any (B : Nat) (v : Value) (s : List Int) (l : Nat) (y : Int) (w : World) (hown : w.ownsRow B 233 2 v (enc s).length (pcs 0 (enc s))) (hs : ∀ z ∈ s, I64 z) (hl : s.length ≤ 8589869056) (hl0 : l ≤ 65536) (hy : I64 y) (hB : B ≤ w.heap.size) :
    Calls Tryz.prog 152 #[v, .agg #[.int .i64 (l : Nat), .int .i64 y]] w fun e w' => ∃ v', e = .returned v' ∧ w'.ownsRow B 233 2 v' (enc (s ++ List.replicate l y)).length (pcs 0 (enc (s ++ List.replicate l y))) ∧ w.grownBy w' v.ownBlock := by
  by_cases c0 : l = 0
  · subst c0
    simp only [List.replicate_zero, List.append_nil]
    have HO := boxed hown
    clear hown hs
    go_enter Tryz.func152, Tryz.ntmps152
    go_wp2
    go_ret
    exact ⟨v, rfl, HO.out.alloc _, World.grownBy_alloc _ _ _⟩
  · have hle := enc_len s
    obtain ⟨ao, cap, rfl⟩ : ∃ ao cap, v = .slice ao (enc s).length cap := by
      rcases ownsRow_forms hown with ⟨h1, h2⟩ | ⟨g, cap, h⟩
      · exact ⟨none, 0, by rw [h2]; exact h1⟩
      · exact ⟨_, _, h⟩
    have hsz := fun w' (hb : Below w.heap.size w w') => size_any _ ao cap s w' ((own_parts hown (by omega) hs).below hb) (by omega)
    by_cases c1 : (enc s).length = 0
    · have e1 : s = [] := List.length_eq_zero_iff.1 ((enc_nil s).1 c1)
      subst e1
      have e2 := enc_add_nil l y (by omega)
      rw [List.nil_append, e2]
      have := add_empty B ao cap (pcs 0 (enc [])) 0 l l y w (by simpa [enc] using hsz) (by omega) c0 (by omega) hl0 hy hB hown
      simpa [pcs, enc] using this
    · obtain ⟨R0, ⟨l0, z⟩, hR⟩ := snoc_of (enc s) (by omega)
      have hn : (enc s).length = R0.length + 1 := by rw [hR]; simp
      have hpc : pcs 0 (enc s) = pcs 0 R0 ++ [.int .i64 ((sm R0 + l0 : Nat) : Int), .int .i64 z] := by rw [hR, pcs_app]; simp [pcs]
      have hlen : s.length = sm R0 + l0 := by rw [← sm_enc, hR, sm_app]; simp [sm]
      have hpl := pcs_len 0 R0
      rw [hn] at hown hsz ⊢
      rw [hpc] at hown
      have hlast : (pcs 0 R0 ++ [Value.int .i64 ((sm R0 + l0 : Nat) : Int), Value.int .i64 z])[R0.length * 2 + 1]? = some (.int .i64 z) := by
        rw [List.getElem?_append_right (by omega), hpl]; simp
      by_cases c2 : z = y
      · subst c2
        have e := enc_add_like s R0 l0 l z hR
        have h := add_like R0.length B ao cap _ s.length l (s.length + l) z w hsz rfl c0 (by omega) hl0 hy hB (by omega) hown hlast
        refine h.mono ?_
        rintro e' w' ⟨v', rfl, h1, h2⟩
        refine ⟨v', rfl, ?_, h2⟩
        rw [e]
        have : pcs 0 (R0 ++ [(l0 + l, z)]) = (pcs 0 R0 ++ [Value.int .i64 ((sm R0 + l0 : Nat) : Int), Value.int .i64 z]).set (R0.length * 2) (.int .i64 ((s.length + l : Nat) : Int)) := by
          rw [List.set_append_right _ _ (by omega), hpl, pcs_app]
          simp [pcs, hlen, Int.add_assoc]
        rw [this]
        simpa using h1
      · have e := enc_add_new s l y (by omega) (by rw [hR]; simp; exact c2)
        have h := add_apart R0.length z B ao cap _ s.length l (s.length + l) y w hsz rfl c0 (by omega) hl0 hy hB (by omega) hown hlast c2
        refine h.mono ?_
        rintro e' w' ⟨v', rfl, h1, h2⟩
        refine ⟨v', rfl, ?_, h2⟩
        rw [e]
        have : pcs 0 (enc s ++ [(l, y)]) = pcs 0 R0 ++ [.int .i64 ((sm R0 + l0 : Nat) : Int), .int .i64 z] ++ [.int .i64 ((s.length + l : Nat) : Int), .int .i64 y] := by
          rw [pcs_app, hpc, sm_enc]; simp [pcs]
        rw [this]
        simpa [hn] using h1
end Go.Proofs.YtcjcdpfjnomehaaGreat.Ru
