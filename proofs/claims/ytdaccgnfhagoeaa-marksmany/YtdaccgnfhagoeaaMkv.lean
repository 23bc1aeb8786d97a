/-
  Plain: many marks put one behind the other.
-/
import Derived.Test.YtdaccgnfhagoeaaMka
namespace Go.Proofs.Ytdaccgnfhagoeaa
set_option linter.unusedSimpArgs false
set_option linter.unusedVariables false

theorem ix_mem (L : List Mk) (d : Int) : ix L d < L.length ↔ ∃ m ∈ L, m.id = d := by
  constructor
  · intro h
    exact ⟨L[ix L d]'h, List.getElem_mem h, ix_get L d h⟩
  · rintro ⟨m, hm, e⟩
    rcases Nat.lt_or_ge (ix L d) L.length with c | c
    · exact c
    · obtain ⟨j, hj, rfl⟩ := List.getElem_of_mem hm
      exact absurd e (ix_ahead L d j (by omega) hj)
theorem ix_erased {L : List Mk} (h : L.Pairwise (fun x y => x.id < y.id)) (d : Int) : ∀ m ∈ L.eraseIdx (ix L d), m.id ≠ d := by
  intro m hm e
  obtain ⟨j, hj, rfl⟩ := List.getElem_of_mem hm
  rw [List.getElem_eraseIdx] at e
  have hl := hj
  rw [List.length_eraseIdx] at hl
  by_cases c : ix L d < L.length
  · rw [if_pos c] at hl
    have hr := List.pairwise_iff_getElem.1 h
    have hg := ix_get L d c
    split at e
    · next hlt => exact ix_ahead L d j hlt (by omega) e
    · next hge =>
      have := hr (ix L d) (j + 1) c (by omega) (by omega)
      omega
  · rw [if_neg c] at hl
    have hx := ix_le L d
    split at e
    · next hlt => exact ix_ahead L d j hlt (by omega) e
    · next hge => omega
def mnM (j : Nat) : Mk := ⟨(j : Int) + 1, ((j % 10 : Nat) : Int), decide (j % 2 = 0)⟩
def mn (i : Nat) : St := ⟨9, ((min i 1024 : Nat) : Int), (List.range (min i 1024)).map mnM⟩
theorem mn_len (i : Nat) : (mn i).L.length = min i 1024 := by simp [mn]
theorem mn_put (i : Nat) (h : i < 1024) : (mn i).put ((i % 10 : Nat) : Int) (decide (i % 2 = 0)) = (mn (i + 1), (i : Int) + 1, 0) := by
  have h0 : min i 1024 = i := by omega
  have h1 : min (i + 1) 1024 = i + 1 := by omega
  unfold St.put
  rw [mn_len, h0, if_neg (by show ¬ (((i % 10 : Nat) : Int) < 0 ∨ (9 : Int) < ((i % 10 : Nat) : Int)); omega), if_neg (by omega)]
  simp only [mn, h0, h1, List.range_succ, List.map_append, List.map_cons, List.map_nil, mnM]
  simp
theorem mn_full (i : Nat) (h : 1024 ≤ i) : (mn i).put ((i % 10 : Nat) : Int) (decide (i % 2 = 0)) = (mn (i + 1), 0, 2) := by
  have h0 : min i 1024 = 1024 := by omega
  have h1 : min (i + 1) 1024 = 1024 := by omega
  unfold St.put
  rw [mn_len, h0, if_neg (by show ¬ (((i % 10 : Nat) : Int) < 0 ∨ (9 : Int) < ((i % 10 : Nat) : Int)); omega), if_pos (by omega)]
  simp only [mn, h0, h1]
theorem mn_ok (i : Nat) : (mn i).ok 1024 := by
  refine ⟨by simp [mn], by simp [mn], by simp [mn] <;> omega, by simp [mn] <;> omega, by rw [mn_len]; omega, ?_, ?_⟩
  · intro m hm
    simp only [mn, List.mem_map, List.mem_range] at hm
    obtain ⟨j, hj, rfl⟩ := hm
    simp only [mn, mnM]
    omega
  · simp only [mn, List.pairwise_map]
    refine List.Pairwise.imp ?_ List.pairwise_lt_range
    intro a b hab
    simp only [mnM]; omega
theorem mn_has (i : Nat) (d : Int) : ix (mn i).L d < (mn i).L.length ↔ 1 ≤ d ∧ d ≤ ((min i 1024 : Nat) : Int) := by
  rw [ix_mem]
  simp only [mn, List.mem_map, List.mem_range]
  constructor
  · rintro ⟨m, ⟨j, hj, rfl⟩, e⟩
    simp only [mnM] at e
    omega
  · rintro ⟨h1, h2⟩
    refine ⟨mnM (d - 1).toNat, ⟨(d - 1).toNat, by omega, rfl⟩, ?_⟩
    simp only [mnM]; omega
/-- What is left when one is dropped and another one put. -/
theorem mn_swap (i : Nat) (d : Int) (h1 : 1 ≤ d) (h2 : d ≤ ((min i 1024 : Nat) : Int)) :
    ((mn i).drop d).2 = 0 ∧ (((mn i).drop d).1.put 0 true).2 = (((min i 1024 : Nat) : Int) + 1, 0) ∧ (((mn i).drop d).1.put 0 true).1.L.length = min i 1024 ∧ ((((mn i).drop d).1.put 0 true).1.drop d).2 = 160 := by
  have hlt := (mn_has i d).2 ⟨h1, h2⟩
  have hd : (mn i).drop d = ({ mn i with L := (mn i).L.eraseIdx (ix (mn i).L d) }, 0) := by unfold St.drop; rw [if_pos hlt]
  have hl := mn_len i
  have hll : ((mn i).L.eraseIdx (ix (mn i).L d)).length = min i 1024 - 1 := by rw [List.length_eraseIdx, if_pos hlt, hl]
  have hp : ((mn i).drop d).1.put 0 true = (⟨9, ((min i 1024 : Nat) : Int) + 1, (mn i).L.eraseIdx (ix (mn i).L d) ++ [⟨((min i 1024 : Nat) : Int) + 1, 0, true⟩]⟩, ((min i 1024 : Nat) : Int) + 1, 0) := by
    rw [hd]
    unfold St.put
    rw [if_neg (by show ¬ ((0 : Int) < 0 ∨ (9 : Int) < 0); omega), if_neg (by show ¬ 1024 ≤ ((mn i).L.eraseIdx (ix (mn i).L d)).length; rw [hll]; omega)]
    rfl
  refine ⟨by rw [hd], by rw [hp], ?_, ?_⟩
  · rw [hp]
    simp only [List.length_append, List.length_cons, List.length_nil]
    rw [hll]; omega
  · rw [hp]
    unfold St.drop
    rw [if_neg]
    rw [ix_mem]
    rintro ⟨m, hm, e⟩
    simp only [List.mem_append, List.mem_singleton] at hm
    rcases hm with hm | rfl
    · exact ix_erased (mn_ok i).rise d m hm e
    · simp only at e; omega
theorem mn_no (i : Nat) (d : Int) (h : ¬ (1 ≤ d ∧ d ≤ ((min i 1024 : Nat) : Int))) : ((mn i).drop d).2 = 160 := by
  unfold St.drop
  rw [if_neg (fun c => h ((mn_has i d).1 c))]
end Go.Proofs.Ytdaccgnfhagoeaa
