/-
  Items of a text as the items that lines are made of, and where each line of a way begins and ends, in plain words. No program in it.
-/
import Derived.Test.YtcjcdpfjnomehaaGreatPk10
import Derived.Test.YtcjcdpfjnomehaaGreatPk18
namespace Go.Proofs.YtcjcdpfjnomehaaGreat
set_option linter.unusedSimpArgs false
set_option linter.unusedVariables false
def toI (x : It.Itm) : Itm := ⟨x.k, x.w, x.st, x.sh, x.fill, x.c, x.flag, x.fr, x.to⟩
theorem toI_ics (L : List It.Itm) : ics (L.map toI) = It.ics L := by
  induction L with
  | nil => rfl
  | cons x r ih =>
    have e1 : ics ((x :: r).map toI) = (toI x).cells ++ ics (r.map toI) := by simp [ics]
    have e2 : It.ics (x :: r) = x.cells ++ It.ics r := by simp [It.ics]
    rw [e1, e2, ih]; rfl
theorem toI_nth (L : List It.Itm) (i : Nat) : nth (L.map toI) i = toI (It.nth L i) := by
  simp only [nth, It.nth, List.getD_eq_getElem?_getD, List.getElem?_map]
  cases L[i]? <;> rfl
theorem toI_nth' (L : List It.Itm) : nth (L.map toI) = fun i => toI (It.nth L i) := funext (toI_nth L)
theorem toI_rgt (I : Nat → It.Itm) (n : Nat) : rgt (fun i => toI (I i)) n = It.rgt I n := rfl
structure WB (n : Nat) (bs : List Nat) : Prop where
  pos : 0 < bs.length
  lt : ∀ i, i < bs.length → bs.getD i 0 < n
  rise : ∀ i, i + 1 < bs.length → bs.getD i 0 < bs.getD (i + 1) 0
structure Chn (I : Nat → Itm) (n sz : Nat) : Prop where
  pos : 0 < n
  le : n ≤ 262144
  ok : ∀ i, i < n → okI I i = true
  fo : forc (I (n - 1)) = true
  end_ : (I (n - 1)).to = (sz : Int)
theorem okI_places (I : Nat → Itm) (i : Nat) (h : okI I i = true) : (I i).fr = pto I i ∧ (I i).fr ≤ (I i).to ∧ (I i).to ≤ 65536 := by
  unfold okI at h
  simp only [Bool.and_eq_true, beq_iff_eq, decide_eq_true_eq] at h
  exact ⟨h.1.1.1.1, h.1.1.1.2, h.1.1.2⟩
theorem Chn.mono {I : Nat → Itm} {n sz : Nat} (h : Chn I n sz) (j k : Nat) (hjk : j ≤ k) (hk : k < n) : 0 ≤ (I j).fr ∧ (I j).fr ≤ (I k).fr := by
  have h0 : ∀ k, k < n → 0 ≤ (I k).fr := by
    intro k
    induction k with
    | zero => intro hk; have := (okI_places I 0 (h.ok 0 hk)).1; unfold pto at this; simp at this; omega
    | succ k ih =>
      intro hk
      have h1 := (okI_places I (k + 1) (h.ok _ hk)).1
      have h2 := (okI_places I k (h.ok _ (by omega))).2.1
      have h3 := ih (by omega)
      unfold pto at h1
      rw [if_neg (by omega)] at h1
      simp only [Nat.add_sub_cancel] at h1
      omega
  refine ⟨h0 j (by omega), ?_⟩
  induction k with
  | zero => obtain rfl : j = 0 := by omega
            exact Int.le_refl _
  | succ k ih =>
    by_cases c : j = k + 1
    · subst c; exact Int.le_refl _
    · have h1 := (okI_places I (k + 1) (h.ok _ hk)).1
      have h2 := (okI_places I k (h.ok _ (by omega))).2.1
      have h3 := ih (by omega) (by omega)
      unfold pto at h1
      rw [if_neg (by omega)] at h1
      simp only [Nat.add_sub_cancel] at h1
      omega
theorem Chn.most {I : Nat → Itm} {n sz : Nat} (h : Chn I n sz) (k : Nat) (hk : k < n) : 0 ≤ (I k).fr ∧ (I k).fr ≤ (sz : Int) := by
  have h1 := h.mono k (n - 1) (by omega) (by have := h.pos; omega)
  have h2 := (okI_places I (n - 1) (h.ok _ (by have := h.pos; omega))).2.1
  have h3 := h.end_
  omega
theorem Chn.size {I : Nat → Itm} {n sz : Nat} (h : Chn I n sz) : sz ≤ 65536 := by
  have h2 := (okI_places I (n - 1) (h.ok _ (by have := h.pos; omega))).2.2
  have h3 := h.end_
  omega
section
variable (I : Nat → Itm) (n : Nat) (bs : List Nat) (sz : Nat)
def lnK (i : Nat) : Nat := min (sta I n (bs.getD i 0 : Nat)) (bs.getD (i + 1) 0)
def lnC (i : Nat) : Nat := if i + 1 < bs.length then (I (lnK I n bs i)).fr.toNat else sz
def lnF (i : Nat) : Nat := if i = 0 then 0 else lnC I n bs sz (i - 1)
def lnA (i : Nat) : Int := if i = 0 then -1 else (bs.getD (i - 1) 0 : Nat)
end
section
variable {I : Nat → Itm} {n : Nat} {bs : List Nat} {sz : Nat}
theorem lnK_in (hw : WB n bs) (i : Nat) (hi : i + 1 < bs.length) : bs.getD i 0 < lnK I n bs i ∧ lnK I n bs i ≤ bs.getD (i + 1) 0 ∧ lnK I n bs i < n := by
  have h1 := hw.lt i (by omega)
  have h2 := hw.lt (i + 1) hi
  have h3 := hw.rise i hi
  have h4 := nxt_le I n (bs.getD i 0) h1
  have h5 : sta I n (bs.getD i 0 : Nat) = nxt I n (bs.getD i 0) := by
    unfold sta
    rw [if_neg (by omega), if_pos (by omega)]; simp
  unfold lnK
  rw [h5]
  omega
theorem lnC_cut (hw : WB n bs) (hc : Chn I n sz) (i : Nat) (hi : i + 1 < bs.length) : (I (lnK I n bs i)).fr = (lnC I n bs sz i : Nat) := by
  unfold lnC
  rw [if_pos hi]
  have := (hc.most _ (lnK_in (I := I) hw i hi).2.2).1
  omega
theorem lnC_last (i : Nat) (hi : ¬ i + 1 < bs.length) : lnC I n bs sz i = sz := by unfold lnC; rw [if_neg hi]
theorem ln_le (hw : WB n bs) (hc : Chn I n sz) (i : Nat) (hi : i < bs.length) : lnF I n bs sz i ≤ lnC I n bs sz i ∧ lnC I n bs sz i ≤ sz := by
  have hm : ∀ k, k < n → 0 ≤ (I k).fr ∧ (I k).fr ≤ (sz : Int) := hc.most
  have hC : lnC I n bs sz i ≤ sz := by
    by_cases c : i + 1 < bs.length
    · have := lnC_cut hw hc i c
      have := hm _ (lnK_in (I := I) hw i c).2.2
      omega
    · rw [lnC_last i c]; exact Nat.le_refl _
  refine ⟨?_, hC⟩
  unfold lnF
  by_cases c0 : i = 0
  · rw [if_pos c0]; omega
  · rw [if_neg c0]
    have k1 := lnK_in (I := I) hw (i - 1) (by omega)
    rw [show i - 1 + 1 = i by omega] at k1
    have e1 := lnC_cut hw hc (i - 1) (by omega)
    by_cases c : i + 1 < bs.length
    · have k2 := lnK_in (I := I) hw i c
      have e2 := lnC_cut hw hc i c
      have := (hc.mono (lnK I n bs (i - 1)) (lnK I n bs i) (by omega) k2.2.2).2
      omega
    · rw [lnC_last i c]
      have := hm _ k1.2.2
      omega
theorem lnF_next (i : Nat) : lnF I n bs sz (i + 1) = lnC I n bs sz i := by unfold lnF; rw [if_neg (by omega)]; simp
theorem lnF_zero : lnF I n bs sz 0 = 0 := by unfold lnF; simp
theorem lnA_next (i : Nat) : lnA bs (i + 1) = (bs.getD i 0 : Nat) := by unfold lnA; rw [if_neg (by omega)]; simp
theorem lnA_zero : lnA bs 0 = -1 := by unfold lnA; simp
end
end Go.Proofs.YtcjcdpfjnomehaaGreat
