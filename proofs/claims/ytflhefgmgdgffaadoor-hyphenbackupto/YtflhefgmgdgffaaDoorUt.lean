/-
  Texts made of bytes, as lists: what a slice of bytes is as a string; a right text with a rune's bytes behind it is right, with that rune more.
-/
import Derived.Test.YtflhefgmgdgffaaDoorUs
import Derived.Laws.IdiomStrings
import Derived.Laws.BytesArg
namespace Go.Proofs.YtflhefgmgdgffaaDoor
open Go.RowKit
set_option linter.unusedSimpArgs false
set_option linter.unusedVariables false

/-- The text of bytes. -/
def tx (l : List Nat) : ByteArray := ⟨(l.map (fun d => UInt8.ofNat d)).toArray⟩
theorem tx_size (l : List Nat) : (tx l).size = l.length := by
  show (l.map (fun d => UInt8.ofNat d)).toArray.size = _
  simp
theorem tx_bt (l : List Nat) (hb : ∀ d ∈ l, d < 256) (i : Nat) (h : i < l.length) : bt (tx l) i = l.getD i 0 := by
  rw [bt_in _ _ (by rw [tx_size]; exact h)]
  show ((l.map (fun d => UInt8.ofNat d)).toArray[i]'(by simpa using h)).toNat = _
  have := hb l[i] (List.getElem_mem h)
  simp [h]
  omega
theorem tx_app (l m : List Nat) : tx l ++ tx m = tx (l ++ m) := by
  apply ByteArray.ext
  simp [tx]

theorem byts_lt (r : Nat) : ∀ d ∈ byts r, d < 256 := by
  intro d hd
  rcases byts_len r with ⟨h, _⟩ | ⟨h, _⟩ | ⟨h, h', _⟩ | ⟨h, h', hx, _⟩ | ⟨h, hx, _⟩
  · rw [byts_0 r h] at hd; simp at hd
  · rw [byts_1 r h] at hd; simp at hd; omega
  · rw [byts_2 r h h'] at hd; simp at hd; omega
  · rw [byts_3 r h h' hx] at hd; simp at hd; omega
  · have := isR_t _ hx
    rw [byts_4 r h hx] at hd; simp at hd; omega
theorem byr_lt (r : Int) : ∀ d ∈ byr r, d < 256 := by
  unfold byr; split
  · exact byts_lt _
  · intro d hd; simp at hd

/-- A rune's bytes are a right text of that one rune. -/
theorem byts_right (r : Nat) (hx : isR (r : Int) = true) : Right (tx (byts r)) 1 ∧ rn (tx (byts r)) 0 = r := by
  have hi := isR_t _ hx
  have key : dc (tx (byts r)) 0 = (r, (byts r).length) := by
    have hb := tx_bt (byts r) (byts_lt r)
    rcases byts_len r with ⟨h, _⟩ | ⟨h, e⟩ | ⟨h, h', e⟩ | ⟨h, h', hx, e⟩ | ⟨h, hx, e⟩
    · rw [hx] at h; cases h
    · have b0 := hb 0 (by omega)
      rw [byts_1 r h] at b0 e ⊢
      simp at b0
      unfold dc
      rw [dec1 (by omega), b0]; rfl
    · have b0 := hb 0 (by omega)
      have b1 := hb 1 (by omega)
      rw [byts_2 r h h'] at b0 b1 e ⊢
      simp at b0 b1
      unfold dc
      rw [Nat.zero_add, b0, b1, dec2 (by omega) (by omega) (by omega), Prod.mk.injEq]
      exact ⟨by omega, rfl⟩
    · have b0 := hb 0 (by omega)
      have b1 := hb 1 (by omega)
      have b2 := hb 2 (by omega)
      rw [byts_3 r h h' hx] at b0 b1 b2 e ⊢
      simp at b0 b1 b2
      unfold dc
      rw [Nat.zero_add, Nat.zero_add, b0, b1, b2, dec3 (by omega) (by omega) (by omega) (by omega) (by omega), Prod.mk.injEq]
      exact ⟨by omega, rfl⟩
    · have b0 := hb 0 (by omega)
      have b1 := hb 1 (by omega)
      have b2 := hb 2 (by omega)
      have b3 := hb 3 (by omega)
      rw [byts_4 r h hx] at b0 b1 b2 b3 e ⊢
      simp at b0 b1 b2 b3
      unfold dc
      rw [Nat.zero_add, Nat.zero_add, Nat.zero_add, b0, b1, b2, b3, dec4 (by omega) (by omega) (by omega) (by omega) (by omega) (by omega), Prod.mk.injEq]
      exact ⟨by omega, rfl⟩
  have hl : 0 < (byts r).length := by
    rcases byts_len r with ⟨h, _⟩ | ⟨h, e⟩ | ⟨h, h', e⟩ | ⟨h, h', hx, e⟩ | ⟨h, hx, e⟩
    · rw [hx] at h; cases h
    all_goals omega
  have e1 : it (tx (byts r)) 1 = (tx (byts r)).size := by
    show it _ 0 + (dc _ (it _ 0)).2 = _
    simp only [it]
    rw [key, tx_size]; simp
  refine ⟨cnt_end _ 1 ?_ e1, ?_⟩
  · intro j hj
    have : j = 0 := by omega
    subst this
    simp only [it]
    rw [key]; exact hl
  · unfold rn; simp only [it]; rw [key]

/-- The runes of two right texts one behind the other. -/
theorem app_runes (s t : ByteArray) (N M : Nat) (hs : Right s N) (ht : Right t M) : (∀ k, k < N → rn (s ++ t) k = rn s k) ∧ ∀ k, k < M → rn (s ++ t) (N + k) = rn t k := by
  have a1 := it_shift s (s ++ t) 0 0 N rfl hs.1.1 (by intro i hi; rw [hs.2] at hi; simpa using app_left s t i hi)
  have e1 : it (s ++ t) N = s.size := by have := (a1 N (Nat.le_refl _)).1; simpa [hs.2] using this
  have a2 := it_shift t (s ++ t) s.size N M e1 ht.1.1 (by intro i hi; rw [ht.2] at hi; exact app_right s t i hi)
  refine ⟨fun k hk => ?_, fun k hk => ?_⟩
  · have := (a1 k (by omega)).2 hk
    rw [Nat.zero_add] at this
    unfold rn; rw [this]
  · unfold rn; rw [(a2 k (by omega)).2 hk]

/-- What a slice of bytes is as a string. -/
theorem conv_any (ao : Option Addr) (cap : Nat) (l : List Nat) (w : World) (hd : Bg w ao cap l) (hb : ∀ d ∈ l, d < 256) :
    (convert 43 9 (.slice ao l.length cap)).run Tryd.prog w = .ok (.string (tx l)) w := by
  obtain ⟨_, hd⟩ := hd
  have hlen : (l.map (fun d => UInt8.ofNat d)).length = l.length := by simp
  cases ao with
  | none =>
    rcases hd with hx | ⟨x, h, _⟩
    · subst hx
      exact run_convert_bytes_nil (P := Tryd.prog) w 43 5 Tryd.underlying43 Tryd.underlying5 0 cap 9 Tryd.underlying9
    · cases h
  | some a =>
    have h := run_convert_bytes_back (P := Tryd.prog) w 43 9 5 a cap (l.map (fun d => UInt8.ofNat d)) Tryd.underlying43 Tryd.underlying5 Tryd.underlying9 (by
      intro j hj
      rcases hd with hx | ⟨x, e, _, hc⟩
      · subst hx; simp at hj
      · injection e with e; subst e
        have hj' : j < l.length := by simpa using hj
        have hlt := hb l[j] (List.getElem_mem hj')
        rw [hc j hj']
        simp [hj']
        omega)
    rw [hlen] at h
    exact h
end Go.Proofs.YtflhefgmgdgffaaDoor
