/-
  A text as it lies in memory, and what New, Len, Lines, Pieces, Depth, String, ByteAt, Check and checkPart answer.
-/
import Derived.Lib.ConvBytes
import Derived.Test.YtfikmlgmklnlaaaWj
import Derived.Test.YtfikmlgmklnlaaaWk
namespace Go.Proofs.Ytfikmlgmklnlaaa
open Go.RowKit
set_option linter.unusedSimpArgs false
set_option linter.unusedVariables false

/-- The bytes of a text. -/
def bl (s : ByteArray) : List Nat := s.data.toList.map UInt8.toNat
theorem bl_len (s : ByteArray) : (bl s).length = s.size := by simp [bl]
theorem bl_lt (s : ByteArray) : ∀ x ∈ bl s, x < 256 := by
  intro x hx
  simp only [bl, List.mem_map] at hx
  obtain ⟨b, _, rfl⟩ := hx
  exact b.toNat_lt
theorem tx_bl (s : ByteArray) : tx (bl s) = s := by
  apply ByteArray.ext
  simp [tx, bl, Function.comp_def]
theorem bl_tx (l : List Nat) (h : ∀ x ∈ l, x < 256) : bl (tx l) = l := by
  simp only [bl, tx, List.map_map]
  conv => rhs; rw [← List.map_id l]
  apply List.map_congr_left
  intro x hx
  have := h x hx
  simp
  omega
theorem bl_get (s : ByteArray) (i : Nat) (h : i < s.size) : (bl s).getD i 0 = (s.data.toList.getD i 0).toNat := by
  have h' : i < s.data.size := h
  simp [bl, List.getD, h', Array.getElem?_eq_getElem h']
theorem bl_bt (s : ByteArray) (i : Nat) (h : i < s.size) : (bl s).getD i 0 = bt s i := by
  have h' : i < (bl s).length := by rw [bl_len]; exact h
  rw [← tx_bt (bl s) (bl_lt s) i h', tx_bl]
theorem bl_inj {s t : ByteArray} (h : bl s = bl t) : s = t := by rw [← tx_bl s, h, tx_bl]

def adv : Option (Nat × Nat × Nat) → Value
  | none => .slice none 0 0
  | some (b, l, c) => .slice (some ⟨b, 0, none⟩) l c
/-- What was added, as it lies. -/
def AdAt (w : World) : Option (Nat × Nat × Nat) → Prop
  | none => True
  | some (b, l, c) => ∃ cur : Array Value, w.heap[b]? = some (.cells cur 5 (0, 0)) ∧ l ≤ c ∧ c ≤ cur.size ∧ cur.size ≤ maxLen ∧ l ≤ 327680
def AdGe (B : Nat) : Option (Nat × Nat × Nat) → Prop
  | none => True
  | some (b, _, _) => B ≤ b
/-- What an edit of this text leaves alone. -/
def Sf (tb : Nat) (A : Option (Nat × Nat × Nat)) (b i : Nat) : Prop := b ≠ tb ∧ ∀ ab l c, A = some (ab, l, c) → b = ab → (i < l ∨ c ≤ i)

structure TextAt (S : Nat → Nat → Prop) (w : World) (tb : Nat) (x : Option Addr) (A : Option (Nat × Nat × Nat)) (T : Tr) : Prop where
  blk : w.heap[tb]? = some (.cells #[.pointer x, adv A] 62 (0, 0))
  tree : IsT S w x T
  up : ∀ b i, w.heap.size ≤ b → S b i
  sub : ∀ b i, S b i → Sf tb A b i
  ad : AdAt w A
  len : T.flat.length ≤ 65536

theorem AdAt.below {w w' : World} {A : Option (Nat × Nat × Nat)} (h : AdAt w A) (hb : Below w.heap.size w w') : AdAt w' A := by
  match A, h with
  | none, _ => trivial
  | some (b, l, c), ⟨cur, h1, h2⟩ => exact ⟨cur, by rw [hb.block b (Array.getElem?_eq_some_iff.1 h1).1]; exact h1, h2⟩
theorem TextAt.below {S : Nat → Nat → Prop} {w w' : World} {tb : Nat} {x : Option Addr} {A : Option (Nat × Nat × Nat)} {T : Tr} (h : TextAt S w tb x A T) (hb : Below w.heap.size w w') : TextAt S w' tb x A T :=
  ⟨by rw [hb.block tb (Array.getElem?_eq_some_iff.1 h.blk).1]; exact h.blk, h.tree.below hb, fun b i hi => h.up b i (Nat.le_trans hb.size hi), h.sub, h.ad.below hb, h.len⟩
theorem TextAt.root {S : Nat → Nat → Prop} {w : World} {tb : Nat} {x : Option Addr} {A : Option (Nat × Nat × Nat)} {T : Tr} (h : TextAt S w tb x A T) : w.cell? ⟨tb, 0, none⟩ = some (.pointer x) := by
  rw [cell_of_row w tb 0 _ _ _ h.blk]; rfl
theorem TextAt.bytes {S : Nat → Nat → Prop} {w : World} {tb : Nat} {x : Option Addr} {A : Option (Nat × Nat × Nat)} {T : Tr} (h : TextAt S w tb x A T) : ∀ y ∈ T.flat, y < 256 := by
  have hn := h.tree.ne
  have : ∀ ps : List Pc, (∀ p ∈ ps, p.l ≠ [] ∧ ∀ x ∈ p.l, x < 256) → ∀ y ∈ flt ps, y < 256 := by
    intro ps
    induction ps with
    | nil => intro _ y hy; simp [flt] at hy
    | cons p ps ih =>
      intro hp y hy
      simp only [flt, List.mem_append] at hy
      rcases hy with hy | hy
      · exact (hp p List.mem_cons_self).2 y hy
      · exact ih (fun q hq => hp q (List.mem_cons_of_mem _ hq)) y hy
  exact this T.pcs hn

/-- The world behind '[]byte(s)'. -/
theorem bytes_below (w : World) (s : ByteArray) : Below w.heap.size w (Lib.bytesWorld w 5 s) :=
  ⟨rfl, rfl, rfl, by rw [Lib.bytesWorld_size]; omega, fun k hk => Lib.bytesWorld_at_old w 5 s k hk⟩
theorem bytes_pc (S : Nat → Nat → Prop) (w : World) (s : ByteArray) (h0 : s.size ≠ 0) (hs : s.size ≤ 65536) (hS : ∀ i, S w.heap.size i) : PcAt S (Lib.bytesWorld w 5 s) ⟨w.heap.size, 0, grownCap w s.size 0 5, bl s⟩ := by
  refine ⟨⟨?_, ⟨?_, ?_⟩, ?_, bl_lt s⟩, fun i hi => ⟨hS _, ?_⟩⟩
  · intro h
    have := congrArg List.length h
    rw [bl_len] at this
    exact h0 (by simpa using this)
  · show (bl s).length ≤ _
    rw [bl_len]; exact grownCap_ge w _ _ _
  · show (bl s).length ≤ _
    rw [bl_len]; omega
  · exact grownCap_le_maxLen w _ _ _ (by unfold maxLen; omega)
  · simp only [bl_len] at hi
    rw [show (0 + i) = i by omega, Lib.bytesWorld_cell w 5 s i hi, bl_get s i hi]

theorem flat_leaf (p : Pc) : (Tr.node .nil p .nil).flat = p.l := by rw [flat_node]; simp [flat_nil]

set_option maxRecDepth 100000 in
set_option maxHeartbeats 2000000 in
/-- New of a text that may be. -/
theorem new_ok (s : ByteArray) (w : World) (N : Nat) (hN : Cnt s N) (h1 : s.size ≤ 65536) (h2 : badAt s N < 0) :
    Calls Try.prog 16 #[.string s] w fun e w' => ∃ tb x T, e = .returned (.tuple #[.pointer (some ⟨tb, 0, none⟩), .int .i64 0]) ∧ w.heap.size ≤ tb ∧ TextAt (fun b _ => b ≠ tb) w' tb x none T ∧ T.flat = bl s ∧ (T.pcs.length ≤ 1 ∧ Avl T) ∧ Below w.heap.size w w' := by
  have hck := fun w => check_any s w (by unfold maxLen; omega) N hN
  have e0 : chk s N = 0 := by unfold chk; rw [if_pos h2]
  rw [e0] at hck
  have t1 : decide ((65536 : Int) < (s.size : Int)) = false := decide_eq_false (by omega)
  have hcv := fun w => Lib.run_convert_string_bytes (P := Try.prog) w 9 60 5 s Try.underlying9 Try.underlying60 Try.underlying5
  by_cases h0 : s.size = 0
  · have hlf := fun w => leaf_none (some ⟨w.heap.size, 0, none⟩) (grownCap w 0 0 5) (Lib.bytesWorld w 5 s)
    rw [h0] at hcv
    have HN : Box (bl s = []) := boxed (List.eq_nil_of_length_eq_zero (by rw [bl_len]; exact h0))
    clear hN h2
    go_enter Try.func16, Try.ntmps16
    go_wp2_with (first | (go_at_call 32; refine (hck _).mono ?_; rintro e w' ⟨rfl, hw'⟩; subst w') | (go_at_call 33; refine (hlf _).mono ?_; rintro e w' ⟨rfl, hw'⟩; subst w'))
    refine bodyPost_ret (v := .tuple #[.pointer (some ⟨w.heap.size + 1, 0, none⟩), .int .i64 0]) (by simp [results, Try.results16, go_sem, Lib.bytesWorld_size]) rfl ⟨w.heap.size + 1, none, .nil, rfl, by omega, ?_, ?_, ?_, ?_⟩
    · refine ⟨?_, rfl, ?_, ?_, trivial, by simp [flat_nil]⟩
      · have := heap_alloc_new (Lib.bytesWorld w 5 s) (.cells #[.pointer none, .slice none 0 0] 62)
        rw [Lib.bytesWorld_size] at this
        exact this
      · intro b i hb
        rw [World.size_alloc, Lib.bytesWorld_size] at hb
        show b ≠ _
        omega
      · intro b i hb
        exact ⟨hb, fun _ _ _ h => by cases h⟩
    · rw [flat_nil]; exact HN.out.symm
    · exact ⟨by simp [Tr.pcs], trivial⟩
    · exact (bytes_below w s).alloc (by rw [Lib.bytesWorld_size]; omega) _
  · have hlf := fun w => leaf_any (fun _ _ => True) ⟨w.heap.size, 0, grownCap w s.size 0 5, bl s⟩ (Lib.bytesWorld w 5 s) (bytes_pc (fun _ _ => True) w s h0 h1 (fun _ => trivial)) (fun _ _ _ => trivial)
    simp only [bl_len] at hlf
    clear hN h2
    go_enter Try.func16, Try.ntmps16
    go_wp2_with (first | (go_at_call 32; refine (hck _).mono ?_; rintro e w' ⟨rfl, hw'⟩; subst w'))
    refine (hlf _).mono ?_
    rintro e w1 ⟨q, rfl, hT, hb1⟩
    have HT := boxed hT
    have hbl : Below w.heap.size w w1 := below_step (bytes_below w s) (Nat.le_refl _) hb1
    have HB := boxed hbl
    clear hT hb1 hlf hcv hbl
    go_wp2
    refine bodyPost_ret (v := .tuple #[.pointer (some ⟨w1.heap.size, 0, none⟩), .int .i64 0]) (by simp [results, Try.results16, go_sem]) rfl ⟨w1.heap.size, q, .node .nil ⟨w.heap.size, 0, grownCap w s.size 0 5, bl s⟩ .nil, rfl, HB.out.size, ?_, flat_leaf _, ?_, ?_⟩
    · refine ⟨heap_alloc_new _ _, ?_, ?_, ?_, trivial, ?_⟩
      · refine HT.out.keep (fun b i u _ hc => ⟨?_, ?_⟩)
        · have := World.block_lt_of_cell? w1 _ hc
          simp at this
          show b ≠ _
          omega
        · exact hold ((Below.refl _ _).alloc (Nat.le_refl _) _) hc
      · intro b i hb
        rw [World.size_alloc] at hb
        show b ≠ _
        omega
      · intro b i hb
        exact ⟨hb, fun _ _ _ h => by cases h⟩
      · rw [flat_leaf]
        show (bl s).length ≤ _
        rw [bl_len]; exact h1
    · refine ⟨by simp [Tr.pcs], ⟨by simp [Tr.dep], trivial, trivial⟩⟩
    · exact HB.out.alloc HB.out.size _

set_option maxRecDepth 100000 in
/-- New of a text that may not be. -/
theorem new_bad (s : ByteArray) (w : World) (N : Nat) (hN : Cnt s N) (hs : s.size ≤ maxLen) (h : 65536 < s.size ∨ ¬ badAt s N < 0) :
    Calls Try.prog 16 #[.string s] w fun e w' => e = .returned (.tuple #[.pointer none, .int .i64 (if 65536 < s.size then 31 else 20)]) ∧ w' = w := by
  have hck := fun w => check_any s w hs N hN
  unfold maxLen at hs
  by_cases h1 : 65536 < s.size
  · have t1 : decide ((65536 : Int) < (s.size : Int)) = true := decide_eq_true (by omega)
    rw [if_pos h1]
    clear h h1 hN
    go_enter Try.func16, Try.ntmps16
    go_wp2_with fail
    refine bodyPost_ret (v := .tuple #[.pointer none, .int .i64 31]) (by simp [results, Try.results16, go_sem]) rfl ⟨rfl, rfl⟩
  · have t1 : decide ((65536 : Int) < (s.size : Int)) = false := decide_eq_false (by omega)
    have e0 : chk s N = 20 := by unfold chk; rw [if_neg (by omega)]
    rw [e0] at hck
    rw [if_neg h1]
    clear h h1 hN
    go_enter Try.func16, Try.ntmps16
    go_wp2_with (first | (go_at_call 32; refine (hck _).mono ?_; rintro e w' ⟨rfl, hw'⟩; subst w'))
    refine bodyPost_ret (v := .tuple #[.pointer none, .int .i64 20]) (by simp [results, Try.results16, go_sem]) rfl ⟨rfl, rfl⟩

theorem fld1 (a b c d : Value) (w : World) : (Instr.field 64 (.agg #[a, b, c, d]) 1).run Try.prog w = .ok b w := by kernel_rfl
theorem fld2 (a b c d : Value) (w : World) : (Instr.field 64 (.agg #[a, b, c, d]) 2).run Try.prog w = .ok c w := by kernel_rfl

set_option maxRecDepth 100000 in
theorem len_any {S : Nat → Nat → Prop} {w : World} {tb : Nat} {x : Option Addr} {A : Option (Nat × Nat × Nat)} {T : Tr} (h : TextAt S w tb x A T) :
    Calls Try.prog 13 #[.pointer (some ⟨tb, 0, none⟩)] w fun e w' => e = .returned (.int .i64 (T.flat.length : Nat)) ∧ Below w.heap.size w w' := by
  have c0 := h.root
  have ht := total_any S T x w h.tree
  have hf := fld0
  clear h
  go_enter Try.func13, Try.ntmps13
  go_wp2_with (go_at_call 31; refine ht.mono ?_; rintro e w1 ⟨rfl, hb1⟩; have HB := boxed hb1; clear hb1)
  go_ret
  exact ⟨rfl, HB.out⟩
set_option maxRecDepth 100000 in
theorem lines_any {S : Nat → Nat → Prop} {w : World} {tb : Nat} {x : Option Addr} {A : Option (Nat × Nat × Nat)} {T : Tr} (h : TextAt S w tb x A T) :
    Calls Try.prog 14 #[.pointer (some ⟨tb, 0, none⟩)] w fun e w' => e = .returned (.int .i64 (nl T.flat : Nat)) ∧ Below w.heap.size w w' := by
  have c0 := h.root
  have ht := total_any S T x w h.tree
  have hf := fld1
  clear h
  go_enter Try.func14, Try.ntmps14
  go_wp2_with (go_at_call 31; refine ht.mono ?_; rintro e w1 ⟨rfl, hb1⟩; have HB := boxed hb1; clear hb1)
  go_ret
  exact ⟨rfl, HB.out⟩
set_option maxRecDepth 100000 in
theorem string_any {S : Nat → Nat → Prop} {w : World} {tb : Nat} {x : Option Addr} {A : Option (Nat × Nat × Nat)} {T : Tr} (h : TextAt S w tb x A T) :
    Calls Try.prog 12 #[.pointer (some ⟨tb, 0, none⟩)] w fun e w' => e = .returned (.string (tx T.flat)) ∧ Below w.heap.size w w' := by
  have c0 := h.root
  have ht := whole_any x T S w h.tree (by have := h.len; omega)
  clear h
  go_enter Try.func12, Try.ntmps12
  go_wp2_with (go_at_call 30; refine ht.mono ?_; rintro e w1 ⟨rfl, hb1⟩; have HB := boxed hb1; clear hb1)
  go_ret
  exact ⟨rfl, HB.out⟩
set_option maxRecDepth 100000 in
theorem textByteAt_any {S : Nat → Nat → Prop} {w : World} {tb : Nat} {x : Option Addr} {A : Option (Nat × Nat × Nat)} {T : Tr} (h : TextAt S w tb x A T) (a : Int) (ha : -9223372036854775808 ≤ a ∧ a ≤ 9223372036854775807) :
    Calls Try.prog 22 #[.pointer (some ⟨tb, 0, none⟩), .int .i64 a] w fun e w' => e = .returned (.tuple #[.int .u8 ((bat T.flat a).1 : Nat), .bool (bat T.flat a).2]) ∧ Below w.heap.size w w' := by
  have c0 := h.root
  have ht := byteAt_any S T x a w h.tree (by have := h.len; omega) ha
  clear h
  generalize (bat T.flat a).1 = V at *
  generalize (bat T.flat a).2 = B at *
  go_enter Try.func22, Try.ntmps22
  go_wp2_with (go_at_call 38; refine ht.mono ?_; rintro e w1 ⟨rfl, hb1⟩; have HB := boxed hb1; clear hb1)
  refine bodyPost_ret (v := .tuple #[.int .u8 V, .bool B]) (by simp [results, Try.results22, go_sem]) rfl ⟨rfl, HB.out⟩

/-- The error of a place. -/
def cke (l : List Nat) (a : Int) : Int := if a < 0 ∨ (l.length : Int) < a then 30 else if (bat l a).2 = true ∧ ins ((bat l a).1 : Int) = true then 21 else 0
theorem cke_cases (l : List Nat) (a : Int) : cke l a = 30 ∨ cke l a = 21 ∨ cke l a = 0 := by 
  unfold cke
  split
  · exact Or.inl rfl
  · split
    · exact Or.inr (Or.inl rfl)
    · exact Or.inr (Or.inr rfl)

set_option maxRecDepth 100000 in
set_option maxHeartbeats 1000000 in
theorem textCheck_any {S : Nat → Nat → Prop} {w : World} {tb : Nat} {x : Option Addr} {A : Option (Nat × Nat × Nat)} {T : Tr} (h : TextAt S w tb x A T) (a : Int) (ha : -9223372036854775808 ≤ a ∧ a ≤ 9223372036854775807) :
    Calls Try.prog 20 #[.pointer (some ⟨tb, 0, none⟩), .int .i64 a] w fun e w' => e = .returned (.int .i64 (cke T.flat a)) ∧ Below w.heap.size w w' := by
  have hl := len_any h
  have hb := fun w' (hb : Below w.heap.size w w') => textByteAt_any (h.below hb) a ha
  clear h
  by_cases h1 : a < 0
  · have hv : Box (cke T.flat a = 30) := boxed (by unfold cke; rw [if_pos (Or.inl h1)])
    have t1 : decide (a < 0) = true := decide_eq_true h1
    clear h1
    go_enter Try.func20, Try.ntmps20
    go_wp2_with fail
    go_ret
    exact ⟨ret_int hv.out.symm, Below.refl _ _⟩
  have t1 : decide (a < 0) = false := decide_eq_false h1
  by_cases h2 : (T.flat.length : Int) < a
  · have hv : Box (cke T.flat a = 30) := boxed (by unfold cke; rw [if_pos (Or.inr h2)])
    have t2 : decide ((T.flat.length : Int) < a) = true := decide_eq_true h2
    clear h1 h2
    generalize T.flat.length = L at *
    go_enter Try.func20, Try.ntmps20
    go_wp2_with (go_at_call 13; refine hl.mono ?_; rintro e w1 ⟨rfl, hb1⟩; have HB := boxed hb1; clear hb1)
    go_ret
    exact ⟨ret_int hv.out.symm, HB.out⟩
  have t2 : decide ((T.flat.length : Int) < a) = false := decide_eq_false h2
  have hcv : Box (cke T.flat a = if (bat T.flat a).2 = true ∧ ins ((bat T.flat a).1 : Int) = true then 21 else 0) := boxed (by unfold cke; rw [if_neg (by omega)])
  clear h1 h2
  generalize T.flat.length = L at *
  generalize (bat T.flat a).1 = V at *
  generalize (bat T.flat a).2 = B at *
  have hin := fun w => inside_any (V : Int) w
  cases B with
  | false =>
    go_enter Try.func20, Try.ntmps20
    go_wp2_with fail
    refine hl.mono ?_
    rintro e w1 ⟨rfl, hb1⟩
    have HB := boxed hb1
    clear hb1
    go_wp2_with fail
    refine (hb _ HB.out).mono ?_
    rintro e w2 ⟨rfl, hb2⟩
    have HB2 := boxed (below_step HB.out (Nat.le_refl _) hb2)
    clear hb2
    go_wp2
    go_ret
    exact ⟨ret_int (by rw [hcv.out]; simp), HB2.out⟩
  | true =>
    cases hI : ins (V : Int) with
    | true =>
      rw [hI] at hin
      go_enter Try.func20, Try.ntmps20
      go_wp2_with fail
      refine hl.mono ?_
      rintro e w1 ⟨rfl, hb1⟩
      have HB := boxed hb1
      clear hb1
      go_wp2_with fail
      refine (hb _ HB.out).mono ?_
      rintro e w2 ⟨rfl, hb2⟩
      have HB2 := boxed (below_step HB.out (Nat.le_refl _) hb2)
      clear hb2
      go_wp2_with (go_at_call 37; refine (hin _).mono ?_; rintro e w' ⟨rfl, hw'⟩; subst w')
      go_ret
      exact ⟨ret_int (by rw [hcv.out, hI]; simp), HB2.out⟩
    | false =>
      rw [hI] at hin
      go_enter Try.func20, Try.ntmps20
      go_wp2_with fail
      refine hl.mono ?_
      rintro e w1 ⟨rfl, hb1⟩
      have HB := boxed hb1
      clear hb1
      go_wp2_with fail
      refine (hb _ HB.out).mono ?_
      rintro e w2 ⟨rfl, hb2⟩
      have HB2 := boxed (below_step HB.out (Nat.le_refl _) hb2)
      clear hb2
      go_wp2_with (go_at_call 37; refine (hin _).mono ?_; rintro e w' ⟨rfl, hw'⟩; subst w')
      go_ret
      exact ⟨ret_int (by rw [hcv.out, hI]; simp), HB2.out⟩

/-- The error of a part. -/
def spe (l : List Nat) (a b : Int) : Int := if a < 0 ∨ (l.length : Int) < b ∨ b < a then 30 else if cke l a ≠ 0 then cke l a else cke l b

set_option maxRecDepth 100000 in
set_option maxHeartbeats 1000000 in
theorem checkPart_any {S : Nat → Nat → Prop} {w : World} {tb : Nat} {x : Option Addr} {A : Option (Nat × Nat × Nat)} {T : Tr} (h : TextAt S w tb x A T) (a b : Int) (ha : -9223372036854775808 ≤ a ∧ a ≤ 9223372036854775807) (hbb : -9223372036854775808 ≤ b ∧ b ≤ 9223372036854775807) :
    Calls Try.prog 35 #[.pointer (some ⟨tb, 0, none⟩), .int .i64 a, .int .i64 b] w fun e w' => e = .returned (.int .i64 (spe T.flat a b)) ∧ Below w.heap.size w w' := by
  have hl := len_any h
  have hca := fun w' (hb : Below w.heap.size w w') => textCheck_any (h.below hb) a ha
  have hcb := fun w' (hb : Below w.heap.size w w') => textCheck_any (h.below hb) b hbb
  clear h
  by_cases h1 : a < 0
  · have hv : Box (spe T.flat a b = 30) := boxed (by unfold spe; rw [if_pos (Or.inl h1)])
    have t1 : decide (a < 0) = true := decide_eq_true h1
    have hun : undef = Value.tuple #[] := rfl
    clear h1
    go_enter Try.func35, Try.ntmps35
    go_wp2_with fail
    go_ret
    exact ⟨ret_int hv.out.symm, Below.refl _ _⟩
  have t1 : decide (a < 0) = false := decide_eq_false h1
  by_cases h2 : (T.flat.length : Int) < b
  · have hv : Box (spe T.flat a b = 30) := boxed (by unfold spe; rw [if_pos (Or.inr (Or.inl h2))])
    have t2 : decide ((T.flat.length : Int) < b) = true := decide_eq_true h2
    clear h1 h2
    generalize T.flat.length = L at *
    go_enter Try.func35, Try.ntmps35
    go_wp2_with (go_at_call 13; refine hl.mono ?_; rintro e w1 ⟨rfl, hb1⟩; have HB := boxed hb1; clear hb1)
    go_ret
    exact ⟨ret_int hv.out.symm, HB.out⟩
  have t2 : decide ((T.flat.length : Int) < b) = false := decide_eq_false h2
  by_cases h3 : b < a
  · have hv : Box (spe T.flat a b = 30) := boxed (by unfold spe; rw [if_pos (Or.inr (Or.inr h3))])
    have t3 : decide (b < a) = true := decide_eq_true h3
    clear h1 h2 h3
    generalize T.flat.length = L at *
    go_enter Try.func35, Try.ntmps35
    go_wp2_with (go_at_call 13; refine hl.mono ?_; rintro e w1 ⟨rfl, hb1⟩; have HB := boxed hb1; clear hb1)
    go_ret
    exact ⟨ret_int hv.out.symm, HB.out⟩
  have t3 : decide (b < a) = false := decide_eq_false h3
  have hcv : Box (spe T.flat a b = if cke T.flat a ≠ 0 then cke T.flat a else cke T.flat b) := boxed (by unfold spe; rw [if_neg (by omega)])
  clear h1 h2 h3
  generalize T.flat.length = L at *
  generalize cke T.flat a = CA at *
  generalize cke T.flat b = CB at *
  by_cases h4 : CA = 0
  · subst h4
    go_enter Try.func35, Try.ntmps35
    go_wp2_with fail
    refine hl.mono ?_
    rintro e w1 ⟨rfl, hb1⟩
    have HB := boxed hb1
    clear hb1 hl
    go_wp2_with fail
    refine (hca _ HB.out).mono ?_
    rintro e w2 ⟨rfl, hb2⟩
    have HB2 := boxed (below_step HB.out (Nat.le_refl _) hb2)
    clear hb2 hca
    go_wp2_with fail
    refine (hcb _ HB2.out).mono ?_
    rintro e w3 ⟨rfl, hb3⟩
    have HB3 := boxed (below_step HB2.out (Nat.le_refl _) hb3)
    clear hb3 hcb
    go_wp2
    go_ret
    exact ⟨ret_int (by rw [hcv.out]; simp), HB3.out⟩
  · have t4 : (CA == 0) = false := by simpa using h4
    have t4' : (CA != 0) = true := by simpa using h4
    go_enter Try.func35, Try.ntmps35
    go_wp2_with fail
    refine hl.mono ?_
    rintro e w1 ⟨rfl, hb1⟩
    have HB := boxed hb1
    clear hb1 hl
    go_wp2_with fail
    refine (hca _ HB.out).mono ?_
    rintro e w2 ⟨rfl, hb2⟩
    have HB2 := boxed (below_step HB.out (Nat.le_refl _) hb2)
    clear hb2 hca
    go_wp2
    go_ret
    exact ⟨ret_int (by rw [hcv.out]; simp [h4]), HB2.out⟩
end Go.Proofs.Ytfikmlgmklnlaaa
