/-
  The pages ahead, the built ones and the known ones are the pages of the lines as they are now. No program in it.
-/
import Derived.Test.YtdpjaafdpgkclaaTl
import Derived.Test.YtdpjaafdpgkclaaTm
namespace Go.Proofs.Ytdpjaafdpgkclaa
set_option linter.unusedSimpArgs false
set_option linter.unusedVariables false

theorem its_add (D : Dc) (a b : Nat) : D.its (a + b) = D.its a ++ bls D a b := by
  induction b with
  | zero => simp [bls]
  | succ b ih => rw [← Nat.add_assoc, D.its_snoc, ih, bls_snoc, List.append_assoc]
theorem its_same (D E : Dc) (a : Nat) (h : ∀ k, k < a → D.it k = E.it k) : D.its a = E.its a := by
  unfold Dc.its
  exact List.map_congr_left (fun k hk => h k (List.mem_range.1 hk))
theorem kn_iff (D : Dc) (J f d m u : Nat) (hu : Upto (D.its J) (((f + d : Nat) : Int) - 1) u) (line : Nat) : (∃ j, j < J - u ∧ (mvl (fun j => D.it (u + j)) (fun z => z + m - d) (J - u) (J - u)).getD j 0 = line) ↔ Kn D J f d m line := by
  obtain ⟨h1, h2, h3⟩ := hu
  rw [D.its_len] at h1 h3
  constructor
  · rintro ⟨j, hj, e⟩
    rw [mvl_get _ _ _ _ _ hj, if_pos hj] at e
    have h4 := h3 (u + j) (by omega) (by omega)
    rw [D.its_get J (u + j) (by omega)] at h4
    exact ⟨u + j, by omega, by omega, by omega⟩
  · rintro ⟨q, hq, h4, h5⟩
    have hqu : u ≤ q := by
      by_cases c : q < u
      · have h6 := h2 q c
        rw [D.its_get J q hq] at h6
        omega
      · omega
    refine ⟨q - u, by omega, ?_⟩
    rw [mvl_get _ _ _ _ _ (by omega), if_pos (by omega)]
    rw [show u + (q - u) = q by omega]
    omega
theorem fin_its (D : Dc) (J f d m : Nat) (C : Nat → Slt) (hP : D.Pgs J) (hfd : f + d ≤ D.n) (hp : ∀ j, j < (D.put f d m C).n → 1 ≤ ((D.put f d m C).F j).h) (q u : Nat) (hq : Upto (D.its J) (f : Int) q) (hu : Upto (D.its J) (((f + d : Nat) : Int) - 1) u) (bl : Nat) (L2 : List Nat)
    (hB : BldP (D.put f d m C) (mvl (fun j => D.it (u + j)) (fun z => z + m - d) (J - u) (J - u)) (q - 2) bl L2) :
    ∃ J', (D.put f d m C).Pgs J' ∧ D.its (q - 2) ++ (bls (D.put f d m C) (q - 2) bl ++ L2) = (D.put f d m C).its J' ∧ Bl D J f d m C J' (q - 2) bl ∧ (∀ k, k ≤ q - 2 → (D.put f d m C).it k = D.it k) := by
  have hqJ : q ≤ J := by have := hq.1; rw [D.its_len] at this; exact this
  have hkn := kn_iff D J f d m u hu
  have hml := mvl_len (fun j => D.it (u + j)) (fun z => z + m - d) (J - u) (J - u)
  obtain ⟨pg, hpg⟩ : ∃ pg, q - 2 = pg := ⟨_, rfl⟩
  rw [hpg] at hB ⊢
  have hah : pg = 0 ∨ (D.it (pg + 1) < D.n ∧ D.it (pg + 1) ≤ f) := by
    by_cases c : pg = 0
    · exact .inl c
    · right
      have h1 := hP.1 (pg + 1) (by omega)
      have h2 := hq.2.1 (pg + 1) (by omega)
      rw [D.its_get J _ (by omega)] at h2
      omega
  have hit := it_ahead D f d m C hfd hp pg hah
  have hn : (D.put f d m C).n = D.n - d + m := rfl
  have hlow : ∀ i, i < pg + bl → (D.put f d m C).it i < (D.put f d m C).n := by
    intro i hi
    by_cases c : i < pg
    · rw [hit i (by omega)]
      obtain ⟨h1, h2⟩ : D.it (pg + 1) < D.n ∧ D.it (pg + 1) ≤ f := by
        rcases hah with hah | hah
        · omega
        · exact hah
      have h3 : D.it i < D.it (pg + 1) := by
        have h4 : D.it i < D.n := by have := D.it_mono (show i ≤ pg + 1 by omega); omega
        have h5 := (D.nx_gt _ h4).1
        have h6 : D.it (i + 1) ≤ D.it (pg + 1) := D.it_mono (by omega)
        have h7 : D.it (i + 1) = D.nx (D.it i) := rfl
        omega
      omega
    · have := (hB.1 (i - pg) (by omega)).1
      rwa [show pg + (i - pg) = i by omega] at this
  have hno : ∀ i, i < bl → ¬ Kn D J f d m ((D.put f d m C).it (pg + i)) := by
    intro i hi hk
    obtain ⟨j, hj, e⟩ := (hkn _).2 hk
    exact (hB.1 i hi).2 j (by rw [hml]; exact hj) e
  have e1 : D.its pg = (D.put f d m C).its pg := its_same _ _ _ (fun k hk => (hit k (by omega)).symm)
  rcases hB.2 with ⟨h1, rfl⟩ | ⟨h1, x, h2, h3, rfl⟩
  · refine ⟨pg + bl, ⟨hlow, h1⟩, ?_, ⟨Nat.le_refl _, hno, .inl rfl⟩, hit⟩
    rw [List.append_nil, its_add, e1]
  · rw [hml] at h2
    rw [mvl_get _ _ _ _ _ h2, if_pos h2] at h3
    have h4 := hu.2.2 (u + x) (by omega) (by rw [D.its_len]; omega)
    rw [D.its_get J (u + x) (by omega)] at h4
    have h5 : (D.put f d m C).it (pg + bl) + d = D.it (u + x) + m := by
      rw [← h3]; omega
    have hf := found_pgs D J f d m C hfd hP (pg + bl) (u + x) (by omega) (by omega) h5 hlow
    refine ⟨pg + bl + (J - (u + x)), hf, ?_, ⟨by omega, hno, .inr ((hkn _).1 ⟨x, h2, by rw [mvl_get _ _ _ _ _ h2, if_pos h2]; exact h3⟩)⟩, hit⟩
    rw [its_add, its_add, e1, List.append_assoc]
    congr 2
    apply List.ext_getElem
    · simp [mvl, bls]; omega
    · intro j j1 j2
      have hj : j < J - (u + x) := by simpa [bls] using j2
      have h6 := it_found D f d m C hfd (pg + bl) (u + x) (by omega) h5 j
      have h7 : D.it (u + x) ≤ D.it (u + x + j) := D.it_up _ _
      simp only [mvl, bls, List.getElem_drop, List.getElem_map, List.getElem_range]
      rw [if_pos (by omega), show u + (x + j) = u + x + j by omega]
      omega
end Go.Proofs.Ytdpjaafdpgkclaa
