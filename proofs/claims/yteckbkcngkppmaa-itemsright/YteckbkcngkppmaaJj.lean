/-
  What the program's Check answers: the first fault of a text in styles.
-/
import Derived.Test.YteckbkcngkppmaaJa
import Derived.Test.YteckbkcngkppmaaIf
import Derived.Test.YteckbkcngkppmaaMo
import Derived.Lib.Bytealg
import Derived.Lib.IndexBytes
namespace Go.Proofs.Yteckbkcngkppmaa
open Go.RowKit
set_option linter.unusedSimpArgs false
set_option linter.unusedVariables false

/-- Every place of a right text but its end lies in one of its runes. -/
theorem find_run (s : ByteArray) (N : Nat) (h : ∀ j, j < N → 0 < (dc s (it s j)).2) : ∀ k, k < it s N → ∃ j, j < N ∧ it s j ≤ k ∧ k < it s (j + 1) := by
  induction N with
  | zero => intro k hk; simp [it] at hk
  | succ N ih =>
    intro k hk
    by_cases c : k < it s N
    · obtain ⟨j, h1, h2⟩ := ih (fun j hj => h j (by omega)) k c
      exact ⟨j, by omega, h2⟩
    · exact ⟨N, by omega, by omega, hk⟩
/-- Within a rune the bytes are from 128 to 191, but the first. -/
theorem ins_run (s : ByteArray) (j k : Nat) (h1 : it s j ≤ k) (h2 : k < it s (j + 1)) : Rd.ins (bt s k : Int) = true ↔ it s j < k := by
  have hi := dc_inside s (it s j) (k - it s j) (by simp only [it] at h2; omega)
  rw [show it s j + (k - it s j) = k by omega] at hi
  rw [Rd.ins_nat, hi]
  omega
/-- A place is where a rune begins just if its byte is not from 128 to 191. -/
theorem ins_begin (s : ByteArray) (N : Nat) (h : Right s N) (k : Nat) (hk : k < s.size) : Rd.ins (bt s k : Int) = false ↔ ∃ j, j < N ∧ it s j = k := by
  obtain ⟨j, h1, h2, h3⟩ := find_run s N h.1.1 k (by rw [h.2]; exact hk)
  have hi := ins_run s j k h2 h3
  constructor
  · intro c
    refine ⟨j, h1, ?_⟩
    rw [c] at hi
    have : ¬ it s j < k := fun x => by have := hi.2 x; cases this
    omega
  · rintro ⟨i, hi1, hi2⟩
    have hij : i = j := by
      rcases Nat.lt_trichotomy i j with c | c | c
      · have := it_mono s N h.1.1 i j c (by omega); omega
      · exact c
      · have hm : it s (j + 1) ≤ it s i := by
          by_cases e : j + 1 = i
          · rw [e]; exact Nat.le_refl _
          · exact Nat.le_of_lt (it_mono s N h.1.1 (j + 1) i (by omega) (by omega))
        omega
    subst hij
    cases c : Rd.ins (bt s k : Int) with
    | false => rfl
    | true => have := hi.1 c; omega
theorem bnd_btw (s : ByteArray) (N : Nat) (hN : Right s N) (a : Int) (h1 : 0 ≤ a) (h2 : a ≤ (s.size : Int)) : Rd.bnd s a = if btw s N a = true then 0 else 21 := by
  obtain ⟨k, rfl⟩ : ∃ k : Nat, a = (k : Int) := ⟨a.toNat, by omega⟩
  unfold Rd.bnd
  rw [if_neg (by omega)]
  by_cases h3 : k < s.size
  · have hi := ins_begin s N hN k h3
    have hc : btw s N k = true ↔ Rd.ins (bt s k : Int) = false := by
      rw [hi]
      unfold btw
      simp only [Bool.or_eq_true, decide_eq_true_eq, beq_iff_eq]
      constructor
      · rintro (⟨j, h, e⟩ | e)
        · exact ⟨j, h, by omega⟩
        · omega
      · rintro ⟨j, h, e⟩
        exact Or.inl ⟨j, h, by omega⟩
    cases hx : Rd.ins (bt s k : Int) with
    | true => rw [if_pos ⟨by omega, by simpa using hx⟩, if_neg (by rw [hc, hx]; simp)]
    | false => rw [if_neg (by rintro ⟨_, c⟩; simp [hx] at c), if_pos (by rw [hc, hx])]
  · have hb : btw s N k = true := by unfold btw; simp; right; omega
    rw [if_neg (by omega), if_pos hb]

theorem idx_mem (l : List UInt8) : 0 ≤ Lib.indexByte l 10 ↔ (10 : UInt8) ∈ l := by
  induction l with
  | nil => simp [Lib.indexByte]
  | cons c r ih =>
    unfold Lib.indexByte
    by_cases hc : (c == 10) = true
    · have : c = 10 := by simpa using hc
      subst this
      simp
    · rw [if_neg hc]
      have hc' : ¬ (10 = c) := fun e => hc (by subst e; rfl)
      have hg := Lib.indexByte_ge r 10
      by_cases d : (Lib.indexByte r 10 == -1) = true
      · rw [if_pos d]
        have d' : Lib.indexByte r 10 = -1 := by simpa using d
        rw [d'] at ih
        simp [hc'] at ih ⊢
        exact ih
      · rw [if_neg d]
        have d' : Lib.indexByte r 10 ≠ -1 := by simpa using d
        have := ih.1 (by omega)
        constructor
        · intro _; exact List.mem_cons_of_mem _ this
        · intro _; omega
theorem mem_bt (s : ByteArray) : (10 : UInt8) ∈ s.data.toList ↔ ∃ i, i < s.size ∧ bt s i = 10 := by
  rw [List.mem_iff_getElem]
  constructor
  · rintro ⟨i, hi, e⟩
    have hi' : i < s.size := by simpa using hi
    refine ⟨i, hi', ?_⟩
    rw [bt_in s i hi']
    have : s[i] = 10 := by
      have h2 := Lib.data_getElem? s i hi'
      rw [List.getElem?_eq_getElem hi] at h2
      exact (Option.some.inj h2).symm.trans e
    rw [this]; rfl
  · rintro ⟨i, hi, e⟩
    have hi' : i < s.data.toList.length := by simpa using hi
    refine ⟨i, hi', ?_⟩
    rw [bt_in s i hi] at e
    have h2 := Lib.data_getElem? s i hi
    rw [List.getElem?_eq_getElem hi'] at h2
    injection h2 with h2
    rw [h2]
    exact UInt8.toNat_inj.1 e
theorem early_idx (t : ByteArray) : decide (0 ≤ Lib.indexByte (t.extract 0 (t.size - 1)).data.toList 10) = early t := by
  have h : 0 ≤ Lib.indexByte (t.extract 0 (t.size - 1)).data.toList 10 ↔ early t = true := by
    rw [idx_mem, mem_bt, early_iff, ext_size t 0 (t.size - 1) (by omega)]
    constructor
    · rintro ⟨i, hi, e⟩
      rw [bt_ext t 0 (t.size - 1) i (by omega), if_pos (by omega), Nat.zero_add] at e
      exact ⟨i, by omega, e⟩
    · rintro ⟨i, hi, e⟩
      exact ⟨i, by omega, by rw [bt_ext t 0 (t.size - 1) i (by omega), if_pos (by omega), Nat.zero_add]; exact e⟩
  cases he : early t with
  | true => exact decide_eq_true (h.2 he)
  | false => exact decide_eq_false (fun c => by have := h.1 c; rw [he] at this; cases this)
set_option maxRecDepth 100000 in
theorem index_any (s : ByteArray) (w : World) : Calls Try.prog 55 #[.string s, .int .u8 10] w fun e w' => e = .returned (.int .i64 (Lib.indexByte s.data.toList 10)) ∧ w' = w := by
  have h1 : Calls Try.prog 70 #[.string s, .int .u8 10] w fun e w' => e = .returned (.int .i64 (Lib.indexByte s.data.toList 10)) ∧ w' = w := by
    go_enter Try.func70, Try.ntmps70
    go_wp2
    rw [run_callFunc_extern Try.func76 (by kernel_rfl) (by kernel_rfl) (by kernel_rfl) (e := Extern.BytealgIndexByte.indexByte) (by kernel_rfl), Lib.run_indexByteString]
    simp only [Result.andThen]
    rw [Oper.upon_value]
    go_wp2
    go_ret
    exact ⟨rfl, rfl⟩
  go_enter Try.func55, Try.ntmps55
  go_wp2_with (go_at_call 70; refine h1.mono ?_; rintro e w1 ⟨rfl, hw'⟩; subst w1)
  go_ret
  exact ⟨rfl, rfl⟩
set_option maxRecDepth 100000 in
theorem early_any (t : ByteArray) (w : World) (hs : t.size ≤ maxLen) (h0 : 0 < t.size) : Calls Try.prog 35 #[.string t] w fun e w' => e = .returned (.bool (early t)) ∧ w' = w := by
  unfold maxLen at hs
  have hx := fun w => index_any (t.extract 0 (t.size - 1)) w
  have he := early_idx t
  generalize Lib.indexByte (t.extract 0 (t.size - 1)).data.toList 10 = X at *
  have e1 : ((t.size : Int) - 1) = ((t.size - 1 : Nat) : Int) := by omega
  obtain ⟨m, hm⟩ : ∃ m, t.size - 1 = m := ⟨_, rfl⟩
  rw [hm] at e1 hx
  have hm2 : m ≤ t.size := by omega
  have hm3 : (m : Int) ≤ (t.size : Int) := by omega
  clear hm
  go_enter Try.func35, Try.ntmps35
  go_wp2_with (go_at_call 55; refine (hx _).mono ?_; rintro e w1 ⟨rfl, hw'⟩; subst w1)
  go_ret
  exact ⟨by first | rfl | exact ret_bool he, rfl⟩
end Go.Proofs.Yteckbkcngkppmaa
