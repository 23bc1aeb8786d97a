/-
  There and back: what Spot and Hit tell of a line's own places.
-/
import Derived.Test.YtcdcpmcjlchfgaaLps
import Derived.Test.YtcdcpmcjlchfgaaLpv
namespace Go.Proofs.Ytcdcpmcjlchfgaa
open Go.RowKit
set_option linter.unusedSimpArgs false
set_option linter.unusedVariables false

theorem like_refl_all (G : Int → Sty) : ∀ a, Like (G a) (G a) := fun a => Like.refl _
theorem nst_in (p n : Nat) (h : p < n) : nst (p : Int) n = p := by unfold nst; omega
theorem line_in {n : Nat} {P : Nat → Pgv} {p k i : Nat} {r : Option (Nat × Nat × Nat)} (hp : p < n) (hk : k < (P p).ln) (hi : i < ((P p).F k).tx.size) (h : LnR n P ((psz P p + lsz (P p).F k + i : Nat) : Int) r) : r = some (p, k, i) := lnr_one h (lnr_in ⟨hp, hk, hi, rfl⟩)
theorem spot_in {G : Int → Sty} {n : Nat} {P : Nat → Pgv} {p k j N : Nat} {v : Value} (hp : p < n) (hk : k < (P p).ln) (hN : LnP ((P p).F k) N) (hj : j < N) (h : SpP G n P ((psz P p + lsz (P p).F k + it ((P p).F k).tx j : Nat) : Int) v) : v = spV p k (xs G ((P p).F k).L ((P p).F k).Y ((P p).F k).rn ((P p).F k).num ((P p).F k).den ((P p).F k).tx N j) 0 := by
  have hlt := it_mono ((P p).F k).tx N hN.ok.1.1 j N hj (Nat.le_refl _)
  rw [hN.ok.2] at hlt
  obtain ⟨r, hr, hm⟩ := h
  have e := line_in hp hk hlt hr
  subst e
  obtain ⟨M, hM, hor⟩ := hm
  have e := cnt_one _ N M hN.ok.1 hM.ok.1
  subst e
  rcases hor with ⟨q, h1, h2, h3⟩ | ⟨h1, -⟩
  · have e : q = j := by
      rcases Nat.lt_trichotomy q j with c | c | c
      · have := it_mono ((P p).F k).tx N hN.ok.1.1 q j c (by omega); omega
      · exact c
      · have := it_mono ((P p).F k).tx N hN.ok.1.1 j q c h1; omega
    rw [e] at h3
    exact h3
  · exact absurd rfl (h1 j (by omega))
theorem hit_in {G : Int → Sty} {n : Nat} {P : Nat → Pgv} {p k N : Nat} {z : Int} {v : Option Nat} (hp : p < n) (hk : k < (P p).ln) (hN : LnP ((P p).F k) N) (h : HtP G n P (p : Int) (k : Int) z v) : ∃ u, v = some (psz P p + lsz (P p).F k + u) ∧ HitP (fun q => xs G ((P p).F k).L ((P p).F k).Y ((P p).F k).rn ((P p).F k).num ((P p).F k).den ((P p).F k).tx N q) ((P p).F k).tx N z u := by
  have e1 := nst_in p n hp
  have e2 := nst_in k (P p).ln hk
  match v, h with
  | none, h =>
    exfalso
    rcases h with h | h
    · omega
    · rw [e1] at h; omega
  | some v, h =>
    obtain ⟨-, -, M, u, h1, h2, h3⟩ := h
    rw [e1, e2] at h1 h2 h3
    have e := cnt_one _ N M hN.ok.1 h1.ok.1
    subst e
    exact ⟨u, by rw [h3], h2⟩
theorem hit_back {X : Nat → Int} {t : ByteArray} {N j v : Nat} (hX : ∀ a b, a ≤ b → X a ≤ X b) (hj : j < N) (h : HitP X t N (X j) v) (hlt : X j < X (j + 1)) : v = it t j := by
  rcases h with ⟨q, h1, h2, h3, h4⟩ | ⟨h1, -⟩
  · have e : q = j := by
      rcases Nat.lt_trichotomy q j with c | c | c
      · have := hX (q + 1) j (by omega); omega
      · exact c
      · have := h3 j c; omega
    rw [h4, e]
  · have := h1 j hj; omega
end Go.Proofs.Ytcdcpmcjlchfgaa
