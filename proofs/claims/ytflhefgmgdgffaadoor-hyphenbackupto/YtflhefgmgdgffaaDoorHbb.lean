/-
  Plain: a text's runes written as they are; soft hyphens taken out of a text; soft hyphens put into a right text: where they stand, and what is left when they are taken out again.
-/
import Derived.Test.YtflhefgmgdgffaaDoorHzf
import Derived.Test.YtflhefgmgdgffaaDoorHym
import Derived.Lib.Split
namespace Go.Proofs.YtflhefgmgdgffaaDoor
open Go.RowKit Go.Maps
set_option linter.unusedSimpArgs false
set_option linter.unusedVariables false

/-! ### A right text is its runes, written -/
theorem bt_get (s : ByteArray) (k : Nat) (h : k < s.size) : s.data.toList.getD k 0 = UInt8.ofNat (bt s k) := by
  rw [bt_in s k h, List.getD_eq_getElem?_getD, Array.getElem?_toList]
  have : s.data[k]? = some s[k] := Array.getElem?_eq_getElem h
  rw [this]
  simp
theorem ba_ext {s t : ByteArray} (hz : s.size = t.size) (h : ∀ i, i < s.size → bt s i = bt t i) : s = t := by
  apply ByteArray.ext
  apply Array.ext
  · exact hz
  · intro i h1 h2
    have e := h i h1
    rw [bt_in s i h1, bt_in t i h2] at e
    exact UInt8.toNat_inj.1 e
theorem bt_app (s t : ByteArray) (i : Nat) : bt (s ++ t) i = if i < s.size then bt s i else bt t (i - s.size) := by
  by_cases c : i < (s ++ t).size
  · rw [bt_in _ i c]
    rw [ByteArray.size_append] at c
    by_cases d : i < s.size
    · rw [if_pos d, bt_in s i d, ByteArray.getElem_append_left d]
    · rw [if_neg d, bt_in t (i - s.size) (by omega), ByteArray.getElem_append_right (by omega)]
  · rw [bt_out _ i c]
    rw [ByteArray.size_append] at c
    rw [if_neg (by omega), bt_out t _ (by omega)]
/-- The bytes of a rune, where it stands. -/
theorem rune_at (s : ByteArray) (k : Nat) (hk : k < nR s) : (byts (rn s k)).length = (dc s (it s k)).2 ∧ ∀ i, i < (byts (rn s k)).length → bt s (it s k + i) = (byts (rn s k)).getD i 0 := by
  have hp := (nR_cnt s).1 k hk
  have hh := dc_hit s (it s k) hp
  have hl := dc_le s (it s k) (it_le s k)
  have e := hit_dc s (it s k) (dc s (it s k)).2 ⟨by omega, by omega⟩ hl.1 hh
  have hv : vv s (it s k) (dc s (it s k)).2 = rn s k := (congrArg Prod.fst e).symm
  unfold hit at hh
  rw [hv] at hh
  refine ⟨hh.1, ?_⟩
  have := hh.2
  unfold beg at this
  exact of_decide_eq_true this
theorem rs_take (s : ByteArray) (k : Nat) (hk : k < nR s) : (rs s).take (k + 1) = (rs s).take k ++ [rn s k] := by
  have hl : k < (rs s).length := by rw [rs_len]; exact hk
  have := rs_get s k hk
  rw [List.getD_eq_getElem?_getD, List.getElem?_eq_getElem hl] at this
  simp only [Option.getD_some] at this
  rw [List.take_add_one, List.getElem?_eq_getElem hl, this]; rfl
theorem enc_take (s : ByteArray) : ∀ k, k ≤ nR s → (encT ((rs s).take k)).size = it s k ∧ ∀ i, i < it s k → bt (encT ((rs s).take k)) i = bt s i := by
  intro k
  induction k with
  | zero => intro _; exact ⟨rfl, fun i hi => by simp [it] at hi⟩
  | succ k ih =>
    intro hk
    obtain ⟨h1, h2⟩ := ih (by omega)
    obtain ⟨g1, g2⟩ := rune_at s k (by omega)
    rw [rs_take s k (by omega), encT_app]
    have hb : encT [rn s k] = tx (byts (rn s k)) := by rw [encT_cons, encT_nil]; simp
    rw [hb]
    have hz : (encT ((rs s).take k) ++ tx (byts (rn s k))).size = it s (k + 1) := by
      rw [ByteArray.size_append, h1, tx_size, g1]; rfl
    refine ⟨hz, fun i hi => ?_⟩
    rw [bt_app, h1]
    by_cases c : i < it s k
    · rw [if_pos c, h2 i c]
    · have hi2 : i - it s k < (byts (rn s k)).length := by rw [g1]; simp only [it] at hi; omega
      rw [if_neg c, tx_bt _ (byts_lt _) _ hi2, ← g2 _ hi2]
      congr 1; omega
/-- A right text is its runes, written. -/
theorem enc_rs (s : ByteArray) (h : rt s = true) : encT (rs s) = s := by
  have he := (rt_right h).2
  have := enc_take s (nR s) (Nat.le_refl _)
  rw [List.take_of_length_le (by rw [rs_len]; exact Nat.le_refl _)] at this
  exact ba_ext (by rw [this.1, he]) (fun i hi => this.2 i (by rw [← this.1]; exact hi))
/-- Where rune number k begins. -/
theorem it_enc (s : ByteArray) (k : Nat) (hk : k ≤ nR s) : it s k = (encT ((rs s).take k)).size := (enc_take s k hk).1.symm
theorem enc_cut (A B C : List Nat) : (encT (A ++ B ++ C)).extract (encT A).size ((encT A).size + (encT B).size) = encT B := by
  rw [encT_app, encT_app]
  apply ba_ext
  · rw [ByteArray.size_extract, ByteArray.size_append, ByteArray.size_append]; omega
  · intro i hi
    have hz : (encT A).size + (encT B).size ≤ (encT A ++ encT B ++ encT C).size := by rw [ByteArray.size_append, ByteArray.size_append]; omega
    have hi' : i < (encT B).size := by
      rw [ByteArray.size_extract] at hi; omega
    rw [bt_ext _ _ _ i hz, if_pos (by omega), bt_app, if_pos (by rw [ByteArray.size_append]; omega), bt_app, if_neg (by omega)]
    congr 1; omega
/-- A right text cut between runes. -/
theorem ext_enc (s : ByteArray) (h : rt s = true) (i j : Nat) (hij : i ≤ j) (hj : j ≤ nR s) : s.extract (it s i) (it s j) = encT (((rs s).drop i).take (j - i)) := by
  have hl := rs_len s
  have e1 : rs s = (rs s).take i ++ ((rs s).drop i).take (j - i) ++ (rs s).drop j := by
    conv => lhs; rw [← List.take_append_drop j (rs s)]
    congr 1
    conv => lhs; rw [← List.take_append_drop i ((rs s).take j)]
    rw [List.take_take, List.drop_take]
    congr 2
    omega
  have e2 : (rs s).take j = (rs s).take i ++ ((rs s).drop i).take (j - i) := by
    conv => lhs; rw [← List.take_append_drop i ((rs s).take j)]
    rw [List.take_take, List.drop_take]
    congr 2
    omega
  have key := enc_cut ((rs s).take i) (((rs s).drop i).take (j - i)) ((rs s).drop j)
  rw [← e1, enc_rs s h] at key
  rw [it_enc s i (by omega), it_enc s j hj, e2, encT_app, ByteArray.size_append]
  exact key

/-! ### Soft hyphens taken out -/
def sfL : List UInt8 := [194, 173]
def sh (n : Nat) (x : Int) : Int := if x = -1 then -1 else x + n
theorem sh_sh (n m : Nat) (x : Int) (h : -1 ≤ x) : sh n (sh m x) = sh (m + n) x := by
  unfold sh
  by_cases c : x = -1
  · simp [c]
  · rw [if_neg c, if_neg c, if_neg (by omega)]; omega
theorem sh_zero (x : Int) : sh 0 x = x := by unfold sh; split <;> omega
theorem ix_step (b : UInt8) (l : List UInt8) (h : sfL.isPrefixOf (b :: l) = false) : Lib.index (b :: l) sfL = sh 1 (Lib.index l sfL) := by
  conv => lhs; unfold Lib.index
  rw [h]
  unfold sh
  by_cases c : Lib.index l sfL = -1
  · simp [c]
  · simp [c]
theorem pre_no (b : UInt8) (l : List UInt8) (h : b ≠ 194) : sfL.isPrefixOf (b :: l) = false := by
  unfold sfL
  simp only [List.isPrefixOf]
  have : ((194 : UInt8) == b) = false := by rw [beq_eq_false_iff_ne]; exact fun e => h e.symm
  rw [this]; rfl
theorem pre_no2 (b c : UInt8) (l : List UInt8) (h : c ≠ 173) : sfL.isPrefixOf (b :: c :: l) = false := by
  unfold sfL
  simp only [List.isPrefixOf]
  have : ((173 : UInt8) == c) = false := by rw [beq_eq_false_iff_ne]; exact fun e => h e.symm
  rw [this]; simp
theorem ofn_ne (a b : Nat) (ha : a < 256) (hb : b < 256) (h : a ≠ b) : UInt8.ofNat a ≠ UInt8.ofNat b := fun e => h (by
  have := congrArg UInt8.toNat e
  simp at this
  omega)
/-- A rune's bytes. -/
def bU (r : Nat) : List UInt8 := (byts r).map fun d => UInt8.ofNat d
/-- Runes, written. -/
def eU (R : List Nat) : List UInt8 := (encs R).map fun d => UInt8.ofNat d
theorem eU_data (R : List Nat) : (encT R).data.toList = eU R := rfl
theorem eU_app (A B : List Nat) : eU (A ++ B) = eU A ++ eU B := by unfold eU; rw [encs_app, List.map_append]
theorem eU_cons (r : Nat) (B : List Nat) : eU (r :: B) = bU r ++ eU B := by unfold eU bU; rw [encs_cons, List.map_append]
theorem ix_rune (r : Nat) (hr : isR (r : Int) = true) (h : r ≠ 173) (Y : List UInt8) : Lib.index (bU r ++ Y) sfL = sh (bU r).length (Lib.index Y sfL) := by
  have hy := Lib.index_ge Y sfL
  have hi := isR_t _ hr
  have n194 : ∀ a, a < 256 → a ≠ 194 → UInt8.ofNat a ≠ 194 := fun a h1 h2 => ofn_ne a 194 h1 (by omega) h2
  have n173 : ∀ a, a < 256 → a ≠ 173 → UInt8.ofNat a ≠ 173 := fun a h1 h2 => ofn_ne a 173 h1 (by omega) h2
  unfold bU
  rcases byts_len r with ⟨q, _⟩ | ⟨q, _⟩ | ⟨q, q', _⟩ | ⟨q, q', qx, _⟩ | ⟨q, qx, _⟩
  · rw [hr] at q; cases q
  · rw [byts_1 r q]
    simp only [List.map_cons, List.map_nil, List.cons_append, List.nil_append, List.length_cons, List.length_nil]
    rw [ix_step _ _ (pre_no _ _ (n194 r (by omega) (by omega)))]
  · rw [byts_2 r q q']
    simp only [List.map_cons, List.map_nil, List.cons_append, List.nil_append, List.length_cons, List.length_nil]
    have h1 : sfL.isPrefixOf (UInt8.ofNat (192 + r / 64) :: UInt8.ofNat (128 + r % 64) :: Y) = false := by
      by_cases c : 192 + r / 64 = 194
      · exact pre_no2 _ _ _ (n173 _ (by omega) (by omega))
      · exact pre_no _ _ (n194 _ (by omega) c)
    rw [ix_step _ _ h1, ix_step _ _ (pre_no _ _ (n194 _ (by omega) (by omega))), sh_sh _ _ _ hy]
  · rw [byts_3 r q q' qx]
    simp only [List.map_cons, List.map_nil, List.cons_append, List.nil_append, List.length_cons, List.length_nil]
    rw [ix_step _ _ (pre_no _ _ (n194 _ (by omega) (by omega))), ix_step _ _ (pre_no _ _ (n194 _ (by omega) (by omega))), ix_step _ _ (pre_no _ _ (n194 _ (by omega) (by omega))), sh_sh _ _ _ hy, sh_sh _ _ _ hy]
  · rw [byts_4 r q qx]
    simp only [List.map_cons, List.map_nil, List.cons_append, List.nil_append, List.length_cons, List.length_nil]
    rw [ix_step _ _ (pre_no _ _ (n194 _ (by omega) (by omega))), ix_step _ _ (pre_no _ _ (n194 _ (by omega) (by omega))), ix_step _ _ (pre_no _ _ (n194 _ (by omega) (by omega))), ix_step _ _ (pre_no _ _ (n194 _ (by omega) (by omega))), sh_sh _ _ _ hy, sh_sh _ _ _ hy, sh_sh _ _ _ hy]
theorem ix_runes (P : List Nat) (hr : ∀ r ∈ P, isR (r : Int) = true) (h : ∀ r ∈ P, r ≠ 173) (Y : List UInt8) : Lib.index (eU P ++ Y) sfL = sh (eU P).length (Lib.index Y sfL) := by
  induction P with
  | nil => rw [show eU [] = [] from rfl, List.nil_append, List.length_nil, sh_zero]
  | cons r P ih =>
    have hy := Lib.index_ge Y sfL
    rw [eU_cons, List.append_assoc, ix_rune r (hr r (by simp)) (h r (by simp)), ih (fun x hx => hr x (by simp [hx])) (fun x hx => h x (by simp [hx])), sh_sh _ _ _ hy, List.length_append]
    congr 1; omega
/-- What is left of bytes where they are split at soft hyphens. -/
def stpL (l : List UInt8) : List UInt8 := (Lib.splitK sfL 0 (Lib.count l sfL) l).flatten
theorem stpL_miss (l : List UInt8) (h : Lib.index l sfL = -1) : stpL l = l := by
  unfold stpL
  rw [Lib.count_miss h]
  simp [Lib.splitK]
theorem stpL_hit (l : List UInt8) (i : Nat) (h : Lib.index l sfL = i) : stpL l = l.take i ++ stpL (l.drop (i + 2)) := by
  unfold stpL
  rw [Lib.count_hit (by decide) h, Nat.add_comm]
  have hm : ¬ (Lib.index l sfL == -1) = true := fun e => by have := beq_iff_eq.1 e; omega
  have e : (Lib.index l sfL).toNat = i := by omega
  rw [Lib.splitK, if_neg hm, e]
  rfl
def nosoft (R : List Nat) : List Nat := R.filter fun r => decide (r ≠ 173)
theorem nosoft_cons (r : Nat) (R : List Nat) : nosoft (r :: R) = if r = 173 then nosoft R else r :: nosoft R := by
  unfold nosoft
  by_cases c : r = 173
  · simp [c]
  · simp [c]
theorem nosoft_app (A B : List Nat) : nosoft (A ++ B) = nosoft A ++ nosoft B := by unfold nosoft; rw [List.filter_append]
theorem nosoft_same (A : List Nat) (h : ∀ r ∈ A, r ≠ 173) : nosoft A = A := by
  unfold nosoft
  rw [List.filter_eq_self]
  intro r hr
  simpa using h r hr
theorem nosoft_no (A : List Nat) : ∀ r ∈ nosoft A, r ≠ 173 ∧ r ∈ A := by
  intro r hr
  unfold nosoft at hr
  simp at hr
  exact ⟨hr.2, hr.1⟩
theorem stp_runes (R : List Nat) : ∀ P : List Nat, (∀ r ∈ P, isR (r : Int) = true) → (∀ r ∈ R, isR (r : Int) = true) → (∀ r ∈ P, r ≠ 173) → stpL (eU P ++ eU R) = eU P ++ eU (nosoft R) := by
  induction R with
  | nil =>
    intro P hP _ hn
    have := ix_runes P hP hn []
    rw [show eU [] = [] from rfl, stpL_miss]
    · rfl
    · rw [this]; rfl
  | cons r R ih =>
    intro P hP hR hn
    rw [nosoft_cons]
    by_cases c : r = 173
    · subst c
      rw [if_pos rfl]
      have hix := ix_runes P hP hn (eU (173 :: R))
      have h0 : Lib.index (eU (173 :: R)) sfL = 0 := by
        rw [eU_cons]
        rfl
      rw [h0] at hix
      have hix' : Lib.index (eU P ++ eU (173 :: R)) sfL = ((eU P).length : Nat) := by rw [hix]; unfold sh; simp
      rw [stpL_hit _ _ hix', List.take_left]
      have hd : (eU P ++ eU (173 :: R)).drop ((eU P).length + 2) = eU R := by
        rw [← List.drop_drop, List.drop_left, eU_cons]; rfl
      rw [hd]
      have := ih [] (by simp) (fun x hx => hR x (by simp [hx])) (by simp)
      rw [show eU [] = [] from rfl, List.nil_append, List.nil_append] at this
      rw [this]
    · rw [if_neg c]
      have := ih (P ++ [r]) (by
        intro x hx
        rcases List.mem_append.1 hx with d | d
        · exact hP x d
        · simp at d; subst d; exact hR x (by simp)) (fun x hx => hR x (by simp [hx])) (by
        intro x hx
        rcases List.mem_append.1 hx with d | d
        · exact hn x d
        · simp at d; subst d; exact c)
      rw [eU_app, List.append_assoc, List.append_assoc] at this
      rw [eU_cons, eU_cons]
      have e : eU [r] = bU r := by rw [eU_cons]; simp [eU, encs]
      rw [e] at this
      exact this
/-- A text without its soft hyphens. -/
def stpT (s : ByteArray) : ByteArray := ⟨(stpL s.data.toList).toArray⟩
theorem stp_enc (R : List Nat) (hR : ∀ r ∈ R, isR (r : Int) = true) : stpT (encT R) = encT (nosoft R) := by
  unfold stpT
  rw [eU_data]
  have := stp_runes R [] (by simp) hR (by simp)
  rw [show eU [] = [] from rfl, List.nil_append, List.nil_append] at this
  rw [this]
  rfl
/-! ### Words are letters -/
/-- From rune number a up to b there are letters. -/
def Run (s : ByteArray) (a b : Nat) : Prop := a ≤ b ∧ b ≤ nR s ∧ ∀ i, a ≤ i → i < b → ltr (rn s i) = true
theorem ws_run (s : ByteArray) : ∀ k, k ≤ nR s → (∀ x ∈ (ws s k).1, ∃ a b, x = (it s a, it s b) ∧ Run s a b) ∧ ∀ c, (ws s k).2 = some c → ∃ a, c = it s a ∧ Run s a k := by
  intro k
  induction k with
  | zero => intro _; exact ⟨fun x hx => by simp [ws] at hx, fun c hc => by simp [ws] at hc⟩
  | succ k ih =>
    intro hk
    have ih := ih (by omega)
    obtain ⟨F, o, h⟩ : ∃ F o, ws s k = (F, o) := ⟨_, _, rfl⟩
    rw [h] at ih
    have more : ∀ a, Run s a k → ltr (rn s k) = true → Run s a (k + 1) := fun a hr hl => ⟨by have := hr.1; omega, hk, fun i h1 h2 => by
      by_cases e : i = k
      · subst e; exact hl
      · exact hr.2.2 i h1 (by omega)⟩
    cases hl : ltr (rn s k) with
    | true =>
      cases o with
      | none =>
        rw [ws_go s k h hl]
        exact ⟨ih.1, fun c hc => by injection hc with hc; exact ⟨k, hc.symm, more k ⟨Nat.le_refl _, by omega, fun i h1 h2 => by omega⟩ hl⟩⟩
      | some c =>
        rw [ws_in s k h hl]
        exact ⟨ih.1, fun c' hc => by
          obtain ⟨a, h1, h2⟩ := ih.2 c' hc
          exact ⟨a, h1, more a h2 hl⟩⟩
    | false =>
      cases o with
      | none =>
        rw [ws_out s k h hl]
        exact ⟨ih.1, fun c hc => by cases hc⟩
      | some c =>
        rw [ws_end s k h hl]
        refine ⟨fun x hx => ?_, fun c hc => by cases hc⟩
        rcases List.mem_append.1 hx with hx | hx
        · exact ih.1 x hx
        · simp at hx; subst hx
          obtain ⟨a, h1, h2⟩ := ih.2 c rfl
          exact ⟨a, k, by rw [h1], h2⟩
theorem wds_run (s : ByteArray) : ∀ x ∈ Wds s, ∃ a b, x = (it s a, it s b) ∧ Run s a b := by
  intro x hx
  have h := ws_run s (nR s) (Nat.le_refl _)
  unfold Wds at hx
  obtain ⟨F, o, hw⟩ : ∃ F o, ws s (nR s) = (F, o) := ⟨_, _, rfl⟩
  rw [hw] at h hx
  cases o with
  | none => rw [wsl_none] at hx; exact h.1 x hx
  | some c =>
    rw [wsl_some] at hx
    rcases List.mem_append.1 hx with hx | hx
    · exact h.1 x hx
    · simp at hx; subst hx
      obtain ⟨a, h1, h2⟩ := h.2 c rfl
      exact ⟨a, nR s, by rw [h1], h2⟩
/-- What is told of a text leaves enough ahead. -/
theorem pts_left {Q W : PL} {l r : Nat} {t : ByteArray} {out : List Nat} (h : PtsS Q W l r t out) : ∀ n ∈ out, l ≤ n := by
  rcases h with ⟨L, h1, od, h2, -⟩ | ⟨-, h2⟩
  · intro n hn
    subst h2
    unfold ptsOf at hn
    simp at hn
    omega
  · subst h2; simp
/-- A place between runes with as many letters ahead of it as there should be. -/
def Plc (s : ByteArray) (l j : Nat) : Prop := j ≤ nR s ∧ l ≤ j ∧ ∀ q, 1 ≤ q → q ≤ l → ltr ((rs s).getD (j - q) 0) = true
theorem plc_place {Q W : PL} {l r : Nat} {f : ByteArray → List Nat} {s : ByteArray} (hr : rt s = true) (h : PcOk Q W l r f s (Wds s)) : ∀ x ∈ plc f s (Wds s), ∃ j, x = it s j ∧ Plc s l j := by
  intro x hx
  unfold plc at hx
  obtain ⟨p, hp, hx⟩ := List.mem_flatMap.1 hx
  unfold plw at hx
  obtain ⟨n, hn, rfl⟩ := List.mem_map.1 hx
  obtain ⟨a, b, rfl, h1, h2, h3⟩ := wds_run s p hp
  have hps := h _ hp
  have hnl := pts_left hps n hn
  have hin := ((pts_in hps).2.2 n hn).2
  have hw : wtx s (it s a, it s b) = encT (((rs s).drop a).take (b - a)) := ext_enc s hr a b h1 h2
  have hl := rs_len s
  have hisr : ∀ c ∈ ((rs s).drop a).take (b - a), isR (c : Int) = true := fun c hc => rs_isR s c (List.mem_of_mem_drop (List.mem_of_mem_take hc))
  have hrs := encT_rs _ hisr
  rw [hw] at hin ⊢
  have hnr : nR (encT (((rs s).drop a).take (b - a))) = b - a := by
    have := rs_len (encT (((rs s).drop a).take (b - a)))
    rw [hrs.2, List.length_take, List.length_drop] at this
    omega
  rw [hnr] at hin
  refine ⟨a + n, ?_, by omega, by omega, fun q q1 q2 => ?_⟩
  · simp only
    rw [it_enc _ n (by rw [hnr]; omega), hrs.2, List.take_take, it_enc s a (by omega), it_enc s (a + n) (by omega), List.take_add, encT_app, ByteArray.size_append]
    congr 3
    rw [Nat.min_eq_left (by omega)]
  · rw [rs_get s _ (by omega)]
    exact h3 _ (by omega) (by omega)
theorem list_pick {α β : Type} (f : β → α) (P : β → Prop) : ∀ l : List α, (∀ x ∈ l, ∃ j, x = f j ∧ P j) → ∃ J : List β, l = J.map f ∧ ∀ j ∈ J, P j := by
  intro l
  induction l with
  | nil => intro _; exact ⟨[], rfl, by simp⟩
  | cons x l ih =>
    intro h
    obtain ⟨j, rfl, hj⟩ := h x (by simp)
    obtain ⟨J, rfl, hJ⟩ := ih (fun y hy => h y (by simp [hy]))
    exact ⟨j :: J, rfl, by simpa using ⟨hj, hJ⟩⟩
theorem it_le_inv {s : ByteArray} (hr : rt s = true) {i j : Nat} (hi : i ≤ nR s) (h : it s i ≤ it s j) : i ≤ j := by
  apply Classical.byContradiction
  intro c
  have := it_mono s (nR s) (nR_cnt s).1 j i (by omega) hi
  omega
/-- Of a right text the places are runes' numbers. -/
theorem plc_runes {Q W : PL} {l r : Nat} {f : ByteArray → List Nat} {s : ByteArray} (hr : rt s = true) (h : PcOk Q W l r f s (Wds s)) : ∃ J : List Nat, plc f s (Wds s) = J.map (it s) ∧ J.Pairwise (· ≤ ·) ∧ ∀ j ∈ J, Plc s l j := by
  obtain ⟨J, e, hJ⟩ := list_pick (it s) (Plc s l) _ (plc_place hr h)
  refine ⟨J, e, ?_, hJ⟩
  have := (plc_text h).1
  rw [e, List.pairwise_map] at this
  refine this.imp_of_mem ?_
  intro a b ha hb hab
  exact it_le_inv hr (hJ a ha).1 hab

/-! ### Soft hyphens among runes -/
def frR (J : List Nat) : Nat → Nat
  | 0 => 0
  | k + 1 => J.getD k 0
def pwR (R J : List Nat) : Nat → List Nat
  | 0 => []
  | k + 1 => pwR R J k ++ (R.drop (frR J k)).take (J.getD k 0 - frR J k) ++ [173]
def putR (R J : List Nat) : List Nat := pwR R J J.length ++ R.drop (frR J J.length)
theorem frR_le {J : List Nat} {N : Nat} (h : J.Pairwise (· ≤ ·)) (hN : ∀ j ∈ J, j ≤ N) (k : Nat) (hk : k < J.length) : frR J k ≤ J.getD k 0 ∧ J.getD k 0 ≤ N := by
  refine ⟨?_, hN _ (getD_mem J k hk)⟩
  cases k with
  | zero => exact Nat.zero_le _
  | succ k =>
    have := List.pairwise_iff_getElem.1 h k (k + 1) (by omega) hk (by omega)
    simp only [frR, List.getD_eq_getElem?_getD, List.getElem?_eq_getElem hk, List.getElem?_eq_getElem (show k < J.length by omega), Option.getD_some]
    exact this
theorem frR_end {J : List Nat} {N : Nat} (hN : ∀ j ∈ J, j ≤ N) (k : Nat) (hk : k ≤ J.length) : frR J k ≤ N := by
  cases k with
  | zero => exact Nat.zero_le _
  | succ k => exact hN _ (getD_mem J k (by omega))
theorem soft_enc : encT [173] = soft := by rfl
theorem fr_map (s : ByteArray) (J : List Nat) (k : Nat) (hk : k ≤ J.length) : fr (J.map (it s)) k = it s (frR J k) := by
  cases k with
  | zero => rfl
  | succ k =>
    show (J.map (it s)).getD k 0 = it s (J.getD k 0)
    have : k < J.length := by omega
    simp [List.getD_eq_getElem?_getD, this]
theorem pw_enc {s : ByteArray} {J : List Nat} (hr : rt s = true) (h : J.Pairwise (· ≤ ·)) (hN : ∀ j ∈ J, j ≤ nR s) : ∀ k, k ≤ J.length → pw s (J.map (it s)) k = encT (pwR (rs s) J k) := by
  intro k
  induction k with
  | zero => intro _; rfl
  | succ k ih =>
    intro hk
    have hf := frR_le h hN k (by omega)
    have hg : (J.map (it s)).getD k 0 = it s (J.getD k 0) := fr_map s J (k + 1) hk
    show pw s (J.map (it s)) k ++ s.extract (fr (J.map (it s)) k) ((J.map (it s)).getD k 0) ++ soft = _
    rw [ih (by omega), fr_map s J k (by omega), hg, ext_enc s hr _ _ hf.1 hf.2, ← soft_enc, ← encT_app, ← encT_app]
    rfl
theorem put_enc {s : ByteArray} {J : List Nat} (hr : rt s = true) (h : J.Pairwise (· ≤ ·)) (hN : ∀ j ∈ J, j ≤ nR s) : put17 s (J.map (it s)) = encT (putR (rs s) J) := by
  unfold put17 putR
  rw [List.length_map, pw_enc hr h hN _ (Nat.le_refl _), fr_map s J _ (Nat.le_refl _), encT_app]
  congr 1
  have hf := frR_end hN J.length (Nat.le_refl _)
  have := ext_enc s hr (frR J J.length) (nR s) hf (Nat.le_refl _)
  rw [(rt_right hr).2] at this
  rw [this, List.take_of_length_le]
  rw [List.length_drop, rs_len]
  exact Nat.le_refl _
section
variable {R J : List Nat} (hJ : J.Pairwise (· ≤ ·)) (hN : ∀ j ∈ J, j ≤ R.length) (hR : ∀ r ∈ R, r ≠ 173)
include hJ hN hR
theorem pwR_ok : ∀ k, k ≤ J.length → nosoft (pwR R J k) = R.take (frR J k) ∧ (∀ r ∈ pwR R J k, r = 173 ∨ r ∈ R) ∧ ∀ i, (pwR R J k)[i]? = some 173 → ∃ j ∈ J, nosoft ((pwR R J k).take i) = R.take j := by
  intro k
  induction k with
  | zero => intro _; exact ⟨rfl, by simp [pwR], fun i h => by simp [pwR] at h⟩
  | succ k ih =>
    intro hk
    obtain ⟨h1, h2, h3⟩ := ih (by omega)
    have hf := frR_le hJ hN k (by omega)
    have hM : ∀ r ∈ (R.drop (frR J k)).take (J.getD k 0 - frR J k), r ∈ R := fun r hr => List.mem_of_mem_drop (List.mem_of_mem_take hr)
    have hMs := nosoft_same _ (fun r hr => hR r (hM r hr))
    have hcat : R.take (frR J k) ++ (R.drop (frR J k)).take (J.getD k 0 - frR J k) = R.take (J.getD k 0) := by
      rw [← List.take_add]; congr 1; omega
    have hml : ((R.drop (frR J k)).take (J.getD k 0 - frR J k)).length = J.getD k 0 - frR J k := by rw [List.length_take, List.length_drop]; omega
    have e : pwR R J (k + 1) = pwR R J k ++ (R.drop (frR J k)).take (J.getD k 0 - frR J k) ++ [173] := rfl
    rw [e]
    refine ⟨?_, ?_, ?_⟩
    · rw [nosoft_app, nosoft_app, h1, hMs, show nosoft [173] = [] from rfl, List.append_nil, hcat]; rfl
    · intro r hr
      rcases List.mem_append.1 hr with c | c
      · rcases List.mem_append.1 c with d | d
        · exact h2 r d
        · exact .inr (hM r d)
      · simp at c; exact .inl c
    · intro i hi
      generalize hA : pwR R J k = A at *
      generalize hB : (R.drop (frR J k)).take (J.getD k 0 - frR J k) = B at *
      by_cases c1 : i < A.length
      · rw [List.append_assoc, List.getElem?_append_left c1] at hi
        obtain ⟨j, g1, g2⟩ := h3 i hi
        refine ⟨j, g1, ?_⟩
        rw [List.append_assoc, List.take_append_of_le_length (by omega)]
        exact g2
      · by_cases c2 : i < A.length + B.length
        · exfalso
          rw [List.getElem?_append_left (by rw [List.length_append]; omega), List.getElem?_append_right (by omega)] at hi
          exact hR 173 (hM 173 (List.mem_of_getElem? hi)) rfl
        · have hi2 : i = A.length + B.length := by
            rcases Nat.lt_or_ge (A.length + B.length) i with d | d
            · rw [List.getElem?_eq_none (by simp; omega)] at hi; cases hi
            · omega
          refine ⟨J.getD k 0, getD_mem J k (by omega), ?_⟩
          have : (A ++ B ++ [173]).take i = A ++ B := by
            rw [List.take_append_of_le_length (by rw [List.length_append]; omega), List.take_of_length_le (by rw [List.length_append]; omega)]
          rw [this, nosoft_app, h1, hMs, hcat]
theorem putR_ok : nosoft (putR R J) = R ∧ (∀ r ∈ putR R J, r = 173 ∨ r ∈ R) ∧ ∀ i, (putR R J)[i]? = some 173 → ∃ j ∈ J, nosoft ((putR R J).take i) = R.take j := by
  obtain ⟨h1, h2, h3⟩ := pwR_ok hJ hN hR J.length (Nat.le_refl _)
  have hD : ∀ r ∈ R.drop (frR J J.length), r ∈ R := fun r hr => List.mem_of_mem_drop hr
  unfold putR
  refine ⟨?_, ?_, ?_⟩
  · rw [nosoft_app, h1, nosoft_same _ (fun r hr => hR r (hD r hr)), List.take_append_drop]
  · intro r hr
    rcases List.mem_append.1 hr with c | c
    · exact h2 r c
    · exact .inr (hD r c)
  · intro i hi
    by_cases c1 : i < (pwR R J J.length).length
    · rw [List.getElem?_append_left c1] at hi
      obtain ⟨j, g1, g2⟩ := h3 i hi
      refine ⟨j, g1, ?_⟩
      rw [List.take_append_of_le_length (by omega)]
      exact g2
    · exfalso
      rw [List.getElem?_append_right (by omega)] at hi
      exact hR 173 (hD 173 (List.mem_of_getElem? hi)) rfl
end
theorem back_look (X : List Nat) : ∀ q, q < (nosoft X).length → q < X.length ∧ (X.getD q 0 = 173 ∨ ∃ p, p ≤ q ∧ X.getD q 0 = (nosoft X).getD p 0) := by
  induction X with
  | nil => intro q hq; simp [nosoft] at hq
  | cons x X ih =>
    intro q hq
    rw [nosoft_cons] at hq ⊢
    by_cases c : x = 173
    · rw [if_pos c] at hq ⊢
      cases q with
      | zero => exact ⟨by simp, .inl (by simpa using c)⟩
      | succ q =>
        obtain ⟨h1, h2⟩ := ih q (by omega)
        refine ⟨by simpa using h1, ?_⟩
        rcases h2 with h2 | ⟨p, p1, p2⟩
        · exact .inl (by simpa using h2)
        · exact .inr ⟨p, by omega, by simpa using p2⟩
    · rw [if_neg c] at hq ⊢
      cases q with
      | zero => exact ⟨by simp, .inr ⟨0, Nat.le_refl _, by simp⟩⟩
      | succ q =>
        obtain ⟨h1, h2⟩ := ih q (by simpa using hq)
        refine ⟨by simpa using h1, ?_⟩
        rcases h2 with h2 | ⟨p, p1, p2⟩
        · exact .inl (by simpa using h2)
        · exact .inr ⟨p + 1, by omega, by simpa using p2⟩
theorem rev_getD (A : List Nat) (q : Nat) (h : q < A.length) : A.reverse.getD q 0 = A.getD (A.length - 1 - q) 0 := by
  simp only [List.getD_eq_getElem?_getD]
  rw [List.getElem?_reverse h]
/-- What stands ahead of a soft hyphen that was put in. -/
theorem soft_back {R J : List Nat} {l : Nat} (hJ : J.Pairwise (· ≤ ·)) (hN : ∀ j ∈ J, j ≤ R.length) (hR : ∀ r ∈ R, r ≠ 173) (hl : ∀ j ∈ J, l ≤ j ∧ ∀ q, 1 ≤ q → q ≤ l → ltr (R.getD (j - q) 0) = true)
    (i : Nat) (hi : (putR R J)[i]? = some 173) (q : Nat) (h1 : 1 ≤ q) (h2 : q ≤ l) : q ≤ i ∧ (ltr ((putR R J).getD (i - q) 0) = true ∨ (putR R J).getD (i - q) 0 = 173) := by
  obtain ⟨j, hj, e⟩ := (putR_ok hJ hN hR).2.2 i hi
  have hlt : i < (putR R J).length := (List.getElem?_eq_some_iff.1 hi).1
  obtain ⟨g1, g2⟩ := hl j hj
  have hjn := hN j hj
  have hrv : nosoft ((putR R J).take i).reverse = (R.take j).reverse := by
    unfold nosoft at e ⊢
    rw [List.filter_reverse, e]
  have hll : (R.take j).reverse.length = j := by simp; omega
  have hbk := back_look ((putR R J).take i).reverse (q - 1) (by rw [hrv, hll]; omega)
  have hil : ((putR R J).take i).length = i := by rw [List.length_take]; omega
  have ix : i - 1 - (q - 1) = i - q := by omega
  have ix2 : ∀ p, j - 1 - p = j - (p + 1) := fun p => by omega
  rw [List.length_reverse, hil, hrv] at hbk
  obtain ⟨b1, b2⟩ := hbk
  refine ⟨by omega, ?_⟩
  rw [rev_getD _ _ (by rw [hil]; omega), hil] at b2
  have ee : ((putR R J).take i).getD (i - 1 - (q - 1)) 0 = (putR R J).getD (i - q) 0 := by
    simp only [List.getD_eq_getElem?_getD]
    rw [ix, List.getElem?_take_of_lt (by omega)]
  rw [ee] at b2
  rcases b2 with b2 | ⟨p, p1, p2⟩
  · exact .inr b2
  · left
    rw [rev_getD _ _ (by simp; omega)] at p2
    have hj2 : (R.take j).length = j := by rw [List.length_take]; omega
    rw [hj2] at p2
    rw [p2]
    have e3 : (R.take j).getD (j - 1 - p) 0 = R.getD (j - (p + 1)) 0 := by
      simp only [List.getD_eq_getElem?_getD]
      rw [ix2, List.getElem?_take_of_lt (by omega)]
    rw [e3]
    exact g2 (p + 1) (by omega) (by omega)
/-- All that the statement asks, of a right text that has no soft hyphens. -/
theorem back_facts {Q W : PL} {l r : Nat} {s : ByteArray} {out : List Nat} (hr : rt s = true) (hs : ∀ c ∈ rs s, c ≠ 173) (h : PlcP Q W l r s out) :
    ∃ T : List Nat, put17 s out = encT T ∧ (∀ c ∈ T, isR (c : Int) = true) ∧ nosoft T = rs s ∧ ∀ i, i < T.length → T.getD i 0 = 173 → ∀ q, 1 ≤ q → q ≤ l → q ≤ i ∧ (ltr (T.getD (i - q) 0) = true ∨ T.getD (i - q) 0 = 173) := by
  rcases h with ⟨h1, -⟩ | ⟨-, f, hok, rfl⟩
  · rw [hr] at h1; cases h1
  obtain ⟨J, e, hJ, hP⟩ := plc_runes hr hok
  have hN : ∀ j ∈ J, j ≤ nR s := fun j hj => (hP j hj).1
  have hN' : ∀ j ∈ J, j ≤ (rs s).length := fun j hj => by rw [rs_len]; exact hN j hj
  have hok2 := putR_ok hJ hN' hs
  refine ⟨putR (rs s) J, by rw [e]; exact put_enc hr hJ hN, fun c hc => ?_, hok2.1, fun i hi hi2 q q1 q2 => ?_⟩
  · rcases hok2.2.1 c hc with d | d
    · subst d; exact isR_mk _ (by omega)
    · exact rs_isR s c d
  · refine soft_back hJ hN' hs (fun j hj => ⟨(hP j hj).2.1, (hP j hj).2.2⟩) i ?_ q q1 q2
    rw [List.getD_eq_getElem?_getD, List.getElem?_eq_getElem hi] at hi2
    rw [List.getElem?_eq_getElem hi]
    simpa using hi2
end Go.Proofs.YtflhefgmgdgffaaDoor
