/-
  What the program's Check answers: the first fault of a text in styles.
-/
import Derived.Lib.Bytealg
import Derived.Lib.IndexBytes
import Derived.Test.YtcjcdpfjnomehaaGreatPk15
import Derived.Test.YtcjcdpfjnomehaaGreatPk12
import Derived.Test.YtcjcdpfjnomehaaGreatPk16
namespace Go.Proofs.YtcjcdpfjnomehaaGreat.It
open Go.RowKit
set_option linter.unusedSimpArgs false
set_option linter.unusedVariables false
theorem find_run (s : ByteArray) (N : Nat) (h : ∀ j, j < N → 0 < (dc s (it s j)).2) : ∀ k, k < it s N → ∃ j, j < N ∧ it s j ≤ k ∧ k < it s (j + 1) := by
  induction N with
  | zero => intro k hk; simp [it] at hk
  | succ N ih =>
    intro k hk
    by_cases c : k < it s N
    · obtain ⟨j, h1, h2⟩ := ih (fun j hj => h j (by omega)) k c
      exact ⟨j, by omega, h2⟩
    · exact ⟨N, by omega, by omega, hk⟩
theorem ins_run (s : ByteArray) (j k : Nat) (h1 : it s j ≤ k) (h2 : k < it s (j + 1)) : Rd.ins (bt s k : Int) = true ↔ it s j < k := by
  have hi := dc_inside s (it s j) (k - it s j) (by simp only [it] at h2; omega)
  rw [show it s j + (k - it s j) = k by omega] at hi
  rw [Rd.ins_nat, hi]
  omega
theorem ins_begin (s : ByteArray) (N : Nat) (h : Right s N) (k : Nat) (hk : k < s.size) : Rd.ins (bt s k : Int) = false ↔ ∃ j, j < N ∧ it s j = k := by
  obtain ⟨j, h1, h2, h3⟩ := find_run s N h.1.1 k (by rw [h.2]; exact hk)
  have hi := ins_run s j k h2 h3
  constructor
  · intro c
    refine ⟨j, h1, ?_⟩
    rw [c] at hi
    have : ¬ it s j < k := fun x => by have := hi.2 x; cases this
    omega
  · rintro ⟨i, hi1, hi2⟩
    have hij : i = j := by
      rcases Nat.lt_trichotomy i j with c | c | c
      · have := it_mono s N h.1.1 i j c (by omega); omega
      · exact c
      · have hm : it s (j + 1) ≤ it s i := by
          by_cases e : j + 1 = i
          · rw [e]; exact Nat.le_refl _
          · exact Nat.le_of_lt (it_mono s N h.1.1 (j + 1) i (by omega) (by omega))
        omega
    subst hij
    cases c : Rd.ins (bt s k : Int) with
    | false => rfl
    | true => have := hi.1 c; omega
theorem bnd_btw (s : ByteArray) (N : Nat) (hN : Right s N) (a : Int) (h1 : 0 ≤ a) (h2 : a ≤ (s.size : Int)) : Rd.bnd s a = if btw s N a = true then 0 else 21 := by
  obtain ⟨k, rfl⟩ : ∃ k : Nat, a = (k : Int) := ⟨a.toNat, by omega⟩
  unfold Rd.bnd
  rw [if_neg (by omega)]
  by_cases h3 : k < s.size
  · have hi := ins_begin s N hN k h3
    have hc : btw s N k = true ↔ Rd.ins (bt s k : Int) = false := by
      rw [hi]
      unfold btw
      simp only [Bool.or_eq_true, decide_eq_true_eq, beq_iff_eq]
      constructor
      · rintro (⟨j, h, e⟩ | e)
        · exact ⟨j, h, by omega⟩
        · omega
      · rintro ⟨j, h, e⟩
        exact Or.inl ⟨j, h, by omega⟩
    cases hx : Rd.ins (bt s k : Int) with
    | true => rw [if_pos ⟨by omega, by simpa using hx⟩, if_neg (by rw [hc, hx]; simp)]
    | false => rw [if_neg (by rintro ⟨_, c⟩; simp [hx] at c), if_pos (by rw [hc, hx])]
  · have hb : btw s N k = true := by unfold btw; simp; right; omega
    rw [if_neg (by omega), if_pos hb]
theorem idx_mem (l : List UInt8) : 0 ≤ Lib.indexByte l 10 ↔ (10 : UInt8) ∈ l := by
  induction l with
  | nil => simp [Lib.indexByte]
  | cons c r ih =>
    unfold Lib.indexByte
    by_cases hc : (c == 10) = true
    · have : c = 10 := by simpa using hc
      subst this
      simp
    · rw [if_neg hc]
      have hc' : ¬ (10 = c) := fun e => hc (by subst e; rfl)
      have hg := Lib.indexByte_ge r 10
      by_cases d : (Lib.indexByte r 10 == -1) = true
      · rw [if_pos d]
        have d' : Lib.indexByte r 10 = -1 := by simpa using d
        rw [d'] at ih
        simp [hc'] at ih ⊢
        exact ih
      · rw [if_neg d]
        have d' : Lib.indexByte r 10 ≠ -1 := by simpa using d
        have := ih.1 (by omega)
        constructor
        · intro _; exact List.mem_cons_of_mem _ this
        · intro _; omega
theorem mem_bt (s : ByteArray) : (10 : UInt8) ∈ s.data.toList ↔ ∃ i, i < s.size ∧ bt s i = 10 := by
  rw [List.mem_iff_getElem]
  constructor
  · rintro ⟨i, hi, e⟩
    have hi' : i < s.size := by simpa using hi
    refine ⟨i, hi', ?_⟩
    rw [bt_in s i hi']
    have : s[i] = 10 := by
      have h2 := Lib.data_getElem? s i hi'
      rw [List.getElem?_eq_getElem hi] at h2
      exact (Option.some.inj h2).symm.trans e
    rw [this]; rfl
  · rintro ⟨i, hi, e⟩
    have hi' : i < s.data.toList.length := by simpa using hi
    refine ⟨i, hi', ?_⟩
    rw [bt_in s i hi] at e
    have h2 := Lib.data_getElem? s i hi
    rw [List.getElem?_eq_getElem hi'] at h2
    injection h2 with h2
    rw [h2]
    exact UInt8.toNat_inj.1 e
theorem early_idx (t : ByteArray) : decide (0 ≤ Lib.indexByte (t.extract 0 (t.size - 1)).data.toList 10) = early t := by
  have h : 0 ≤ Lib.indexByte (t.extract 0 (t.size - 1)).data.toList 10 ↔ early t = true := by
    rw [idx_mem, mem_bt, early_iff, ext_size t 0 (t.size - 1) (by omega)]
    constructor
    · rintro ⟨i, hi, e⟩
      rw [bt_ext t 0 (t.size - 1) i (by omega), if_pos (by omega), Nat.zero_add] at e
      exact ⟨i, by omega, e⟩
    · rintro ⟨i, hi, e⟩
      exact ⟨i, by omega, by rw [bt_ext t 0 (t.size - 1) i (by omega), if_pos (by omega), Nat.zero_add]; exact e⟩
  cases he : early t with
  | true => exact decide_eq_true (h.2 he)
  | false => exact decide_eq_false (fun c => by have := h.1 c; rw [he] at this; cases this)
set_option maxRecDepth 100000 in
theorem index_any (s : ByteArray) (w : World) : Calls Tryz.prog 165 #[.string s, .int .u8 10] w fun e w' => e = .returned (.int .i64 (Lib.indexByte s.data.toList 10)) ∧ w' = w := by
  have h1 : Calls Tryz.prog 196 #[.string s, .int .u8 10] w fun e w' => e = .returned (.int .i64 (Lib.indexByte s.data.toList 10)) ∧ w' = w := by
    go_enter Tryz.func196, Tryz.ntmps196
    go_wp2
    rw [run_callFunc_extern Tryz.func211 (by kernel_rfl) (by kernel_rfl) (by kernel_rfl) (e := Extern.BytealgIndexByte.indexByte) (by kernel_rfl), Lib.run_indexByteString]
    simp only [Result.andThen]
    rw [Oper.upon_value]
    go_wp2
    go_ret
    exact ⟨rfl, rfl⟩
  go_enter Tryz.func165, Tryz.ntmps165
  go_wp2_with (go_at_call 196; refine h1.mono ?_; rintro e w1 ⟨rfl, hw'⟩; subst w1)
  go_ret
  exact ⟨rfl, rfl⟩
set_option maxRecDepth 100000 in
theorem early_any (t : ByteArray) (w : World) (hs : t.size ≤ maxLen) (h0 : 0 < t.size) : Calls Tryz.prog 129 #[.string t] w fun e w' => e = .returned (.bool (early t)) ∧ w' = w := by
  unfold maxLen at hs
  have hx := fun w => index_any (t.extract 0 (t.size - 1)) w
  have he := early_idx t
  generalize Lib.indexByte (t.extract 0 (t.size - 1)).data.toList 10 = X at *
  have e1 : ((t.size : Int) - 1) = ((t.size - 1 : Nat) : Int) := by omega
  obtain ⟨m, hm⟩ : ∃ m, t.size - 1 = m := ⟨_, rfl⟩
  rw [hm] at e1 hx
  have hm2 : m ≤ t.size := by omega
  have hm3 : (m : Int) ≤ (t.size : Int) := by omega
  clear hm
  go_enter Tryz.func129, Tryz.ntmps129
  go_wp2_with (go_at_call 165; refine (hx _).mono ?_; rintro e w1 ⟨rfl, hw'⟩; subst w1)
  go_ret
  exact ⟨by first | rfl | exact ret_bool he, rfl⟩
end Go.Proofs.YtcjcdpfjnomehaaGreat.It

/-
  What the program's checkRun and Check answer: the first fault of a text in styles.
-/
namespace Go.Proofs.YtcjcdpfjnomehaaGreat.It
open Go.RowKit
set_option linter.unusedSimpArgs false
set_option linter.unusedVariables false
def crx (t : ByteArray) (N n : Nat) (a l y : Int) : Int :=
  if l < 0 ∨ (t.size : Int) - a < l then 70 else if 0 ≤ y ∧ y < (n : Int) then (if btw t N (a + l) = true then 0 else 21) else 43
theorem cr_crx (t : ByteArray) (N n : Nat) (Ln Ys : Nat → Int) (i : Nat) : cr t N n Ln Ys i = crx t N n (pre Ln i) (Ln i) (Ys i) := rfl
set_option maxRecDepth 100000 in
set_option maxHeartbeats 1000000 in
theorem checkRun_any {B : Nat} {w : World} {tb n : Nat} {G : Nat → Sty} (h : TabAt B w tb n G) (t : ByteArray) (N : Nat) (hN : Right t N) (hs : t.size ≤ 1048576) (a l y : Int) (ha : 0 ≤ a ∧ a ≤ (t.size : Int)) :
    Calls Tryz.prog 130 #[.pointer (some ⟨tb, 0, none⟩), .string t, .int .i64 a, .agg #[.int .i64 l, .int .i64 y]] w fun e w' => e = .returned (.int .i64 (crx t N n a l y)) ∧ Below w.heap.size w w' := by
  have hck := fun w' (hb : Below w.heap.size w w') => tcheck_any (h.below hb) y
  have hms : t.size ≤ maxLen := by unfold maxLen; omega
  clear h
  by_cases h1 : l < 0
  · have HV : Box (crx t N n a l y = 70) := boxed (by unfold crx; rw [if_pos (by omega)])
    generalize crx t N n a l y = V at *
    have t1 : decide (l < 0) = true := decide_eq_true h1
    clear h1 hck
    go_enter Tryz.func130, Tryz.ntmps130
    go_wp2
    go_ret
    exact ⟨ret_int HV.out.symm, by go_grown⟩
  have t1 : decide (l < 0) = false := decide_eq_false h1
  have hw1 : IntKind.i64.wrap ((t.size : Int) - a) = (t.size : Int) - a := by rw [IntKind.wrap_i64]; omega
  by_cases h2 : (t.size : Int) - a < l
  · have HV : Box (crx t N n a l y = 70) := boxed (by unfold crx; rw [if_pos (by omega)])
    generalize crx t N n a l y = V at *
    have t2 : decide ((t.size : Int) - a < l) = true := decide_eq_true h2
    obtain ⟨ha1, ha2⟩ := ha
    clear h1 h2 hck
    go_enter Tryz.func130, Tryz.ntmps130
    go_wp2
    go_ret
    exact ⟨ret_int HV.out.symm, by go_grown⟩
  have t2 : decide ((t.size : Int) - a < l) = false := decide_eq_false h2
  obtain ⟨ha1, ha2⟩ := ha
  by_cases h3 : 0 ≤ y ∧ y < (n : Int)
  · have HV : Box (crx t N n a l y = Rd.bnd t (a + l)) := boxed (by
      unfold crx
      rw [if_neg (by omega), if_pos h3, bnd_btw t N hN (a + l) (by omega) (by omega)])
    have hbd := fun w => Rd.boundary_any t (a + l) w hms
    rw [if_pos h3] at hck
    generalize crx t N n a l y = V at *
    generalize Rd.bnd t (a + l) = D at *
    have hw2 : IntKind.i64.wrap (a + l) = a + l := by rw [IntKind.wrap_i64]; omega
    have hal : a + l ≤ (t.size : Int) := by omega
    have hal0 : 0 ≤ a + l := by omega
    clear h1 h2 h3
    go_enter Tryz.func130, Tryz.ntmps130
    go_wp2_with fail
    refine (hck _ (by go_grown)).mono ?_
    rintro e w' ⟨rfl, hw'⟩
    subst w'
    go_wp2_with fail
    refine (hbd _).mono ?_
    rintro e w' ⟨rfl, hw'⟩
    subst w'
    go_wp2
    go_ret
    exact ⟨ret_int HV.out.symm, by go_grown⟩
  · have HV : Box (crx t N n a l y = 43) := boxed (by
      unfold crx
      rw [if_neg (by omega), if_neg h3])
    rw [if_neg h3] at hck
    generalize crx t N n a l y = V at *
    clear h1 h2 h3
    go_enter Tryz.func130, Tryz.ntmps130
    go_wp2_with fail
    refine (hck _ (by go_grown)).mono ?_
    rintro e w' ⟨rfl, hw'⟩
    subst w'
    go_wp2
    go_ret
    exact ⟨ret_int HV.out.symm, by go_grown⟩
theorem crs_next (t : ByteArray) (N n : Nat) (Ln Ys : Nat → Int) (k : Nat) (h0 : crs t N n Ln Ys k = 0) (h : cr t N n Ln Ys k = 0) : crs t N n Ln Ys (k + 1) = 0 := by
  show (if crs t N n Ln Ys k = 0 then cr t N n Ln Ys k else crs t N n Ln Ys k) = _
  rw [if_pos h0, h]
theorem crs_stop (t : ByteArray) (N n : Nat) (Ln Ys : Nat → Int) (k m : Nat) (h : crs t N n Ln Ys k ≠ 0) (hk : k ≤ m) : crs t N n Ln Ys m = crs t N n Ln Ys k := by
  induction m with
  | zero => have : k = 0 := by omega
            subst this; rfl
  | succ m ih =>
    by_cases c : k = m + 1
    · subst c; rfl
    · have := ih (by omega)
      show (if crs t N n Ln Ys m = 0 then cr t N n Ln Ys m else crs t N n Ln Ys m) = _
      rw [this, if_neg h]
theorem crs_hit (t : ByteArray) (N n : Nat) (Ln Ys : Nat → Int) (k m : Nat) (h0 : crs t N n Ln Ys k = 0) (h : cr t N n Ln Ys k ≠ 0) (hk : k < m) : crs t N n Ln Ys m = cr t N n Ln Ys k := by
  have e : crs t N n Ln Ys (k + 1) = cr t N n Ln Ys k := by show (if crs t N n Ln Ys k = 0 then cr t N n Ln Ys k else crs t N n Ln Ys k) = _; rw [if_pos h0]
  rw [crs_stop t N n Ln Ys (k + 1) m (by rw [e]; exact h) (by omega), e]
theorem crs_less (t : ByteArray) (N n : Nat) (Ln Ys : Nat → Int) (m : Nat) (h : crs t N n Ln Ys m = 0) : ∀ k, k ≤ m → crs t N n Ln Ys k = 0 := by
  intro k hk
  by_cases c : crs t N n Ln Ys k = 0
  · exact c
  · rw [crs_stop t N n Ln Ys k m c hk] at h; exact absurd h c
theorem crs_each (t : ByteArray) (N n : Nat) (Ln Ys : Nat → Int) (m : Nat) (h : crs t N n Ln Ys m = 0) (k : Nat) (hk : k < m) : cr t N n Ln Ys k = 0 := by
  have h1 := crs_less t N n Ln Ys m h k (by omega)
  have h2 := crs_less t N n Ln Ys m h (k + 1) (by omega)
  have e : crs t N n Ln Ys (k + 1) = if crs t N n Ln Ys k = 0 then cr t N n Ln Ys k else crs t N n Ln Ys k := rfl
  rw [e, if_pos h1] at h2
  exact h2
theorem cr_zero {t : ByteArray} {N n : Nat} {Ln Ys : Nat → Int} {k : Nat} (h : cr t N n Ln Ys k = 0) : 0 ≤ Ln k ∧ Ln k ≤ (t.size : Int) - pre Ln k ∧ (0 ≤ Ys k ∧ Ys k < (n : Int)) ∧ btw t N (pre Ln (k + 1)) = true := by
  unfold cr at h
  split at h
  · omega
  · split at h
    · split at h
      · rename_i c1 c2 c3
        exact ⟨by omega, by omega, c2, c3⟩
      · omega
    · omega
theorem pre_in (t : ByteArray) (N n : Nat) (Ln Ys : Nat → Int) (k : Nat) (h : crs t N n Ln Ys k = 0) : 0 ≤ pre Ln k ∧ pre Ln k ≤ (t.size : Int) := by
  induction k with
  | zero => simp [pre]
  | succ k ih =>
    have h1 := ih (crs_less t N n Ln Ys (k + 1) h k (by omega))
    have h2 := cr_zero (crs_each t N n Ln Ys (k + 1) h k (by omega))
    simp only [pre]
    omega
end Go.Proofs.YtcjcdpfjnomehaaGreat.It

/-
  What the program's Check answers: the first fault of a text in styles.
-/
namespace Go.Proofs.YtcjcdpfjnomehaaGreat.It
open Go.RowKit
set_option linter.unusedSimpArgs false
set_option linter.unusedVariables false
theorem ne_isEmpty (r : ByteArray) (h : r.size ≠ 0) : r.toList.isEmpty = false := by
  rw [ByteArray.toList_eq]
  cases hc : r.data.toList with
  | nil => exact absurd (by have := congrArg List.length hc; simpa using this) h
  | cons a t => rfl
theorem is_empty (r : ByteArray) (h : r.size = 0) : r = ⟨#[]⟩ := by
  obtain ⟨d⟩ := r
  have : d = #[] := Array.eq_empty_of_size_eq_zero h
  rw [this]
set_option maxRecDepth 100000 in
set_option maxHeartbeats 2000000 in
theorem check7_any {B : Nat} {w : World} {tb n : Nat} {G : Nat → Sty} (h : TabAt B w tb n G) (t : ByteArray) (N : Nat) (hN : Cnt t N) (hs : t.size ≤ 1048576) (ao : Option Addr) (m cap : Nat) (Ln Ys : Nat → Int) (hr : RunsAt w ao m Ln Ys) (hm : m ≤ maxLen) :
    Calls Tryz.prog 88 #[.pointer (some ⟨tb, 0, none⟩), .string t, .slice ao m cap] w fun e w' => e = .returned (.int .i64 (ck t N n m Ln Ys)) ∧ Below w.heap.size w w' := by
  have hms : t.size ≤ maxLen := by unfold maxLen; omega
  have hck := fun w => Rd.check_any t w hms N hN
  unfold Rd.chk at hck
  by_cases hb : badAt t N < 0
  rotate_left
  · have HV : Box (ck t N n m Ln Ys = 20) := boxed (by unfold ck; rw [if_neg hb])
    rw [if_neg hb] at hck
    generalize ck t N n m Ln Ys = V at *
    clear h hr
    go_enter Tryz.func88, Tryz.ntmps88
    go_wp2_with (go_at_call 128; refine (hck _).mono ?_; rintro e w1 ⟨rfl, hw'⟩; subst w1)
    go_ret
    exact ⟨ret_int HV.out.symm, Below.refl _ _⟩
  rw [if_pos hb] at hck
  have hR := right_of t N hN hb
  have HC : Box (ck t N n m Ln Ys = if t.size = 0 ∨ early t = true then 70 else if crs t N n Ln Ys m = 0 then (if pre Ln m = (t.size : Int) then 0 else 70) else crs t N n Ln Ys m) := boxed (by unfold ck; rw [if_pos hb])
  generalize ck t N n m Ln Ys = V at *
  by_cases h0 : t.size = 0
  · have HV : Box (V = 70) := boxed (by rw [HC.out, if_pos (Or.inl h0)])
    obtain rfl := is_empty t h0
    clear h hr
    go_enter Tryz.func88, Tryz.ntmps88
    go_wp2_with (go_at_call 128; refine (hck _).mono ?_; rintro e w1 ⟨rfl, hw'⟩; subst w1)
    go_ret
    exact ⟨ret_int HV.out.symm, Below.refl _ _⟩
  have hE := ne_isEmpty t h0
  have hea := fun w => early_any t w hms (by omega)
  cases he : early t
  rotate_left
  · have HV : Box (V = 70) := boxed (by rw [HC.out, if_pos (Or.inr he)])
    rw [he] at hea
    clear h hr
    go_enter Tryz.func88, Tryz.ntmps88
    go_wp2_with fail
    refine (hck _).mono ?_
    rintro e w1 ⟨rfl, hw'⟩; subst w1
    go_wp2_with (go_at_call 129; refine (hea _).mono ?_; rintro e w1 ⟨rfl, hw'⟩; subst w1)
    go_ret
    exact ⟨ret_int HV.out.symm, Below.refl _ _⟩
  rw [he] at hea
  have HC2 : Box (V = if crs t N n Ln Ys m = 0 then (if pre Ln m = (t.size : Int) then 0 else 70) else crs t N n Ln Ys m) := boxed (by rw [HC.out, if_neg (by rintro (c | c); exact h0 c; rw [he] at c; cases c)])
  have HR := boxed hr
  have HX := boxed (fun w' (hb : Below w.heap.size w w') a l y ha => checkRun_any (h.below hb) t N hR hs a l y ha)
  unfold maxLen at hm
  clear h hr HC hR he hb hN
  go_enter Tryz.func88, Tryz.ntmps88
  go_wp2_with fail
  refine (hck _).mono ?_
  rintro e w1 ⟨rfl, hw'⟩; subst w1
  go_wp2_with fail
  refine (hea _).mono ?_
  rintro e w1 ⟨rfl, hw'⟩; subst w1
  clear hck hea
  go_wp2
  go_loopw [8, 10, 11, 25] (fun a _ _ i wr => ∃ k : Nat, k ≤ m ∧ a = .int .i64 (pre Ln k) ∧ i = .int .i64 (k : Int) ∧ Box (crs t N n Ln Ys k = 0) ∧ Box (Below w.heap.size w wr)) (fun _ _ _ i _ => m - (intOf i).toNat)
  case atStart => exact ⟨0, Nat.zero_le _, rfl, rfl, boxed rfl, boxed (Below.refl _ _)⟩
  case round =>
    obtain ⟨k, hk, rfl, rfl, H0, HB⟩ := hrel
    have hpi := pre_in t N n Ln Ys k H0.out
    by_cases hlt : k < m
    · obtain ⟨-, b, off, e, c0, c1⟩ := (HR.out.below HB.out) k hlt
      subst e
      have q5 : b < wr.heap.size := World.block_lt_of_cell? wr _ c0
      have q6 : b ≠ wr.heap.size := by omega
      have hcr := fun w' (hb : Below w.heap.size w w') => HX.out w' hb (pre Ln k) (Ln k) (Ys k) hpi
      rw [← cr_crx] at hcr
      have HH := boxed (fun h => crs_hit t N n Ln Ys k m H0.out h hlt)
      have HN := boxed (crs_next t N n Ln Ys k H0.out)
      have HZ := boxed (fun h => cr_zero (t := t) (N := N) (n := n) (Ln := Ln) (Ys := Ys) (k := k) h)
      have HP : Box (pre Ln (k + 1) = pre Ln k + Ln k) := boxed rfl
      have t3 : decide ((k : Int) < (m : Int)) = true := decide_eq_true (by omega)
      generalize cr t N n Ln Ys k = R at *
      generalize pre Ln k = A at *
      generalize Ln k = l at *
      generalize Ys k = y at *
      obtain ⟨hp1, hp2⟩ := hpi
      have HB2 : Box (Below w.heap.size w (wr.alloc (.cells #[.int .i64 l, .int .i64 y] 61))) := boxed (HB.out.alloc HB.out.size _)
      go_wp2_with fail
      refine (hcr _ HB2.out).mono ?_
      rintro e w1 ⟨rfl, hb1⟩
      have HB3 := boxed (below_step HB2.out (Nat.le_refl _) hb1)
      have d0 : w1.cell? ⟨wr.heap.size, 0, none⟩ = some (.int .i64 l) := hold hb1 (cell_first _ _ _ _)
      clear hcr c0 c1 hb1
      by_cases hz : R = 0
      · subst hz
        have hl := HZ.out rfl
        have hl1 := hl.1
        have hl2 := hl.2.1
        have HN1 := boxed (HN.out rfl)
        clear hl
        go_wp2
        go_roundw
        case rel => exact ⟨k + 1, by omega, by rw [HP.out], by go_num, HN1, HB3⟩
        case measure => simp [intOf]; omega
      · have tz : (R != 0) = true := by simpa using hz
        have HV : Box (V = R) := boxed (by rw [HC2.out, HH.out hz, if_neg hz])
        clear hz
        go_wp2
        go_ret
        exact ⟨ret_int HV.out.symm, HB3.out⟩
    · have e : k = m := by omega
      subst e
      by_cases hp : pre Ln k = (t.size : Int)
      · have HV : Box (V = 0) := boxed (by rw [HC2.out, if_pos H0.out, if_pos hp])
        rw [hp]
        clear hp hpi
        go_wp2
        go_ret
        exact ⟨ret_int HV.out.symm, HB.out⟩
      · have HV : Box (V = 70) := boxed (by rw [HC2.out, if_pos H0.out, if_neg hp])
        have tp : (pre Ln k != (t.size : Int)) = true := by simpa using hp
        clear hp hpi
        generalize pre Ln k = A at *
        go_wp2
        go_ret
        exact ⟨ret_int HV.out.symm, HB.out⟩
end Go.Proofs.YtcjcdpfjnomehaaGreat.It

/-
  What the document's StyleAt and Check answer.
-/
namespace Go.Proofs.YtcjcdpfjnomehaaGreat.It
open Go.RowKit
set_option linter.unusedSimpArgs false
set_option linter.unusedVariables false
end Go.Proofs.YtcjcdpfjnomehaaGreat.It
