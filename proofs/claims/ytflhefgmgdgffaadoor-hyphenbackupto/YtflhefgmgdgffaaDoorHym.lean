/-
  The text of runes: right, with these runes; unlike runes have unlike texts; what a slice of runes is as a string.
-/
import Derived.Test.YtflhefgmgdgffaaDoorHyl
import Derived.Laws.Cover4
namespace Go.Proofs.YtflhefgmgdgffaaDoor
open Go.RowKit Go.Maps
set_option linter.unusedSimpArgs false
set_option linter.unusedVariables false

/-- The bytes of runes. -/
def encs (l : List Nat) : List Nat := l.flatMap byts
theorem encs_cons (r : Nat) (l : List Nat) : encs (r :: l) = byts r ++ encs l := by simp [encs]
theorem encs_app (l m : List Nat) : encs (l ++ m) = encs l ++ encs m := by simp [encs]
/-- The text of runes. -/
def encT (l : List Nat) : ByteArray := tx (encs l)
theorem encT_cons (r : Nat) (l : List Nat) : encT (r :: l) = tx (byts r) ++ encT l := by
  unfold encT; rw [encs_cons, tx_app]
theorem encT_app (l m : List Nat) : encT (l ++ m) = encT l ++ encT m := by
  unfold encT; rw [encs_app, tx_app]
theorem encT_nil : encT [] = ByteArray.empty := rfl
theorem right_nil : Right ByteArray.empty 0 := ⟨⟨fun j h => by omega, by decide +kernel⟩, rfl⟩
/-- The text of right runes is right, and has them. -/
theorem encT_right (l : List Nat) (h : ∀ r ∈ l, isR (r : Int) = true) : Right (encT l) l.length ∧ ∀ k, k < l.length → rn (encT l) k = l.getD k 0 := by
  induction l with
  | nil => exact ⟨right_nil, fun k hk => by simp at hk⟩
  | cons r l ih =>
    obtain ⟨h1, h2⟩ := ih (fun x hx => h x (by simp [hx]))
    obtain ⟨g1, g2⟩ := byts_right r (h r (by simp))
    rw [encT_cons]
    have hj := app_join _ _ _ _ g1 h1
    have ha := app_runes _ _ _ _ g1 h1
    refine ⟨by rw [List.length_cons, Nat.add_comm]; exact hj.1, fun k hk => ?_⟩
    cases k with
    | zero => rw [ha.1 0 (by omega), g2]; rfl
    | succ k =>
      rw [Nat.add_comm k 1, ha.2 k (by simpa using hk), h2 k (by simpa using hk)]
      rw [Nat.add_comm 1 k]; rfl
theorem encT_rs (l : List Nat) (h : ∀ r ∈ l, isR (r : Int) = true) : rt (encT l) = true ∧ rs (encT l) = l := by
  obtain ⟨h1, h2⟩ := encT_right l h
  obtain ⟨e1, e2⟩ := rt_of h1
  refine ⟨e1, ?_⟩
  apply List.ext_getElem
  · rw [rs_len, e2]
  · intro k g1 g2
    have a1 := rs_get (encT l) k (by rw [e2]; exact g2)
    rw [h2 k g2] at a1
    simpa [List.getD_eq_getElem?_getD, g1, g2] using a1
theorem encT_inj {l m : List Nat} (hl : ∀ r ∈ l, isR (r : Int) = true) (hm : ∀ r ∈ m, isR (r : Int) = true) (e : encT l = encT m) : l = m := by
  rw [← (encT_rs l hl).2, ← (encT_rs m hm).2, e]
theorem encode_byts (r : Nat) (h : isR (r : Int) = true) : Utf8.encode (r : Int) = tx (byts r) := by
  have hi := isR_t _ h
  have hv : Utf8.valid (r : Int) = true := by simp [Utf8.valid]; omega
  apply ByteArray.ext
  unfold Utf8.encode tx
  simp only [hv, if_true, Int.toNat_natCast]
  rcases byts_len r with ⟨q, _⟩ | ⟨q, _⟩ | ⟨q, q', _⟩ | ⟨q, q', qx, _⟩ | ⟨q, qx, _⟩
  · rw [h] at q; cases q
  · rw [byts_1 r q, if_pos (by omega)]; simp
  · rw [byts_2 r q q', if_neg (by omega), if_pos (by omega)]; simp
  · rw [byts_3 r q q' qx, if_neg (by omega), if_neg (by omega), if_pos (by omega)]; simp
  · rw [byts_4 r q qx, if_neg (by omega), if_neg (by omega), if_neg (by omega)]; simp
theorem fold_enc (l : List Nat) (h : ∀ r ∈ l, isR (r : Int) = true) (s : ByteArray) : (l.map fun (r : Nat) => (r : Int)).foldl (fun r n => r ++ Utf8.encode n) s = s ++ encT l := by
  induction l generalizing s with
  | nil => rw [encT_nil]; simp
  | cons r l ih =>
    rw [List.map_cons, List.foldl_cons, ih (fun x hx => h x (by simp [hx])), encode_byts r (h r (by simp)), encT_cons, ByteArray.append_assoc]
theorem runes_enc (l : List Nat) (h : ∀ r ∈ l, isR (r : Int) = true) : runesBytes (l.map fun (r : Nat) => (r : Int)) = encT l := by
  unfold runesBytes
  rw [fold_enc l h]; simp
theorem byts_le4 (r : Nat) : (byts r).length ≤ 4 := by
  rcases byts_len r with ⟨h, e⟩ | ⟨h, e⟩ | ⟨h, h', e⟩ | ⟨h, h', hx, e⟩ | ⟨h, hx, e⟩ <;> omega
theorem encT_size (l : List Nat) : (encT l).size ≤ 4 * l.length := by
  unfold encT
  rw [tx_size]
  induction l with
  | nil => simp [encs]
  | cons r l ih =>
    have := byts_le4 r
    rw [encs_cons, List.length_append, List.length_cons]; omega
/-- What a row of runes is as a string. -/
theorem conv_runes {w : World} {B : Nat} {v : Value} {l : List Nat} (h : w.ownsRow B 21 1 v l.length (rvals l)) (hr : ∀ r ∈ l, isR (r : Int) = true) : (convert 55 9 v).run Tryd.prog w = .ok (.string (encT l)) w := by
  by_cases c : 0 < l.length
  · obtain ⟨g, cap, rfl, hnw⟩ := own_news h c
    have := run_convert_runes (P := Tryd.prog) w 55 9 21 ⟨g, 0, none⟩ l.length cap (l.map fun (r : Nat) => (r : Int)) (by simp) Tryd.underlying55 Tryd.underlying21 Tryd.underlying9 (by
      intro j hj
      rw [List.length_map] at hj
      refine hnw j _ ?_
      simp [rvals, hj])
    rw [this, List.take_of_length_le (by simp), runes_enc l hr]
  · have : l = [] := List.eq_nil_of_length_eq_zero (by omega)
    subst this
    rcases ownsRow_forms h with ⟨rfl, _⟩ | ⟨g, cap, rfl⟩
    · exact run_convert_runes_nil w 55 9 21 0 0 Tryd.underlying55 Tryd.underlying21 Tryd.underlying9
    · have := run_convert_runes (P := Tryd.prog) w 55 9 21 ⟨g, 0, none⟩ 0 cap [] (by simp) Tryd.underlying55 Tryd.underlying21 Tryd.underlying9 (by intro j hj; simp at hj)
      exact this
end Go.Proofs.YtflhefgmgdgffaaDoor
