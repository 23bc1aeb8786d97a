/-
  Runs that are handed in: their reading with the capacity; both ways of telling them apart agree.
-/
import Derived.Deep.Slices
import Derived.SizedLaws
import Derived.OpenShut
import Derived.Test.YtcjcdpfjnomehaaGreatPk27
namespace Go.Proofs.YtcjcdpfjnomehaaGreat.Ru
open Go.RowKit Go.Deep
set_option linter.unusedSimpArgs false
set_option linter.unusedVariables false
theorem mem_flat (R : List (Nat × Int)) (hc : Can R) (y : Int) : y ∈ flat R ↔ ∃ p ∈ R, p.2 = y := by
  induction R with
  | nil => simp [flat]
  | cons p r ih =>
    obtain ⟨h1, _, h3⟩ := hc
    simp only [flat, List.mem_append, List.mem_replicate, List.mem_cons, ih h3]
    constructor
    · rintro (⟨_, rfl⟩ | ⟨q, hq, rfl⟩)
      · exact ⟨p, .inl rfl, rfl⟩
      · exact ⟨q, .inr hq, rfl⟩
    · rintro ⟨q, rfl | hq, rfl⟩
      · exact .inl ⟨by omega, rfl⟩
      · exact .inr ⟨q, hq, rfl⟩
theorem exr_front (L Y : Nat → Int) (m : Nat) : exr L Y (m + 1) = List.replicate (L 0).toNat (Y 0) ++ exr (fun i => L (i + 1)) (fun i => Y (i + 1)) m := by
  induction m with
  | zero => simp [exr]
  | succ m ih =>
    rw [exr, ih, List.append_assoc]
    rfl
theorem exs_exr (L Y : Nat → Int) (m : Nat) : exs L Y m = exr L Y m := by
  induction m generalizing L Y with
  | zero => rfl
  | succ m ih => rw [exs, ih, exr_front]
theorem enc_inj {s t : List Int} (h : enc s = enc t) : s = t := by rw [← flat_enc s, h, flat_enc]
theorem enc_ok2 {s : List Int} (hl : s.length ≤ 9223372036854775807) (hs : ∀ y ∈ s, I64 y) : ∀ p ∈ enc s, p.1 ≤ 9223372036854775807 ∧ I64 p.2 := by
  intro p hp
  have h2 : ∀ (R : List (Nat × Int)) (p : Nat × Int), p ∈ R → p.1 ≤ sm R := by
    intro R p h
    induction R with
    | nil => cases h
    | cons q r ih =>
      simp only [sm]
      rcases List.mem_cons.1 h with rfl | h
      · omega
      · have := ih h; omega
  have h3 := h2 _ p hp
  rw [sm_enc] at h3
  have h4 : p.2 ∈ flat (enc s) := (mem_flat _ (can_enc s) _).2 ⟨p, hp, rfl⟩
  rw [flat_enc] at h4
  exact ⟨by omega, hs _ h4⟩
theorem exr_i64 (L Y : Nat → Int) (n k : Nat) (hk : k ≤ n) (h : ∀ i, i < n → I64 (Y i)) : ∀ y ∈ exr L Y k, I64 y := by
  induction k with
  | zero => intro y hy; simp [exr] at hy
  | succ k ih =>
    intro y hy
    simp only [exr, List.mem_append, List.mem_replicate] at hy
    rcases hy with hy | ⟨_, rfl⟩
    · exact ih (by omega) y hy
    · exact h k (by omega)
section
variable {H : Type} {enc : TypeId × Value → H} {W : World}
theorem open_cap {fuel : Nat} {ao : Option Addr} {len cap : Nat} {d : DataW H} {p : List MemPlace} (h : DataW.trod enc Tryz.prog W 0 (fun _ => true) true fuel 23 [.slice ao len cap] = some (d, p)) : len ≤ cap := by
  rcases open_slice Tryz.underlying23 h with ⟨hcs, _⟩ | ⟨a, l, c, m, n, D, Pl, hcs, _, hl, hml, hm, hx, hel⟩
  · injection hcs with hcs
    injection hcs with e1 e2 e3
    omega
  · injection hcs with hcs
    injection hcs with e1 e2 e3
    omega
end
end Go.Proofs.YtcjcdpfjnomehaaGreat.Ru
