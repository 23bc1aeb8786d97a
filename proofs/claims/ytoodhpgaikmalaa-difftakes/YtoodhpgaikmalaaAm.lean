/-
  The regions that a law is handed, few lines each; how large what comes of them is.
-/
import Derived.Test.YtoodhpgaikmalaaAl
namespace Go.Proofs.Ytoodhpgaikmalaa
open Go.RowKit
set_option linter.unusedSimpArgs false
set_option linter.unusedVariables false

theorem appl_bounds (rs : List Rg) : ∀ (qs : List (List Key)) (M : Nat), (∀ (i : Nat) (ks : List Key), qs[i]? = some ks → ks.length ≤ M) → (∀ r ∈ rs, r.ls.length ≤ 40) → (appl qs rs).length ≤ qs.length + rs.length ∧ ∀ (i : Nat) (ks : List Key), (appl qs rs)[i]? = some ks → ks.length ≤ M + rs.length * 40 := by
  induction rs with
  | nil => intro qs M h _; exact ⟨by simp [appl], fun i ks e => by have := h i ks (by simpa [appl] using e); simp; omega⟩
  | cons r t ih =>
    intro qs M h hr
    have h1 := app1_len qs r
    have h2 := app1_small qs r M 40 h (hr r (by simp))
    obtain ⟨h3, h4⟩ := ih (app1 qs r) (M + 40) h2 (fun q hq => hr q (by simp [hq]))
    refine ⟨?_, fun i ks e => ?_⟩
    · show (appl (app1 qs r) t).length ≤ _
      simp only [List.length_cons]; omega
    · have := h4 i ks e
      simp only [List.length_cons]; omega
theorem pages_alike (S S' : Nat → Prop) (ao bo : Option Addr) (ps : List (List Key)) (ca cb : Nat) (w : World) (h1 : PsAt S w ao ps) (h2 : PsAt S' w bo ps) (hn : ps.length ≤ 3000) (hm : ∀ (i : Nat) (ks : List Key), ps[i]? = some ks → ks.length ≤ 3000) :
    Calls Try.prog 12 #[.slice ao ps.length ca, .slice bo ps.length cb] w fun e w' => e = .returned (.bool true) ∧ Below w.heap.size w w' := by
  have := refpages_any S S' ao bo ps ps ca cb w h1 h2 hn hm
  rw [decide_eq_true rfl] at this
  exact this
theorem RgsR.below {S : Nat → Prop} {w w' : World} {ao : Option Addr} {n : Nat} {Z : Nat → Rgv} (h : RgsR S w ao n Z) (hb : Below w.heap.size w w') : RgsR S w' ao n Z := by
  intro i hi
  obtain ⟨h1, h2, b, off, e, hs, c⟩ := h i hi
  refine ⟨h1, h2.below hb, b, off, e, hs, fun j hj => ?_⟩
  have hj2 : ((Z i).cells)[j]? = some (((Z i).cells)[j]'(by simpa [Rgv.cells] using hj)) := List.getElem?_eq_getElem _
  rw [hj2]
  exact hold hb (by rw [c j hj, hj2])
def rgo (z : Rgv) : Rg := ⟨z.pg, z.kd, z.fr, z.od, kys z.v.ln z.v.F⟩
def rgs (n : Nat) (Z : Nat → Rgv) : List Rg := (List.range n).map (fun i => rgo (Z i))
theorem rgs_len (n : Nat) (Z : Nat → Rgv) : (rgs n Z).length = n := by simp [rgs]
theorem rgs_get (n : Nat) (Z : Nat → Rgv) (i : Nat) (r : Rg) (h : (rgs n Z)[i]? = some r) : i < n ∧ r = rgo (Z i) := by
  have hl := (List.getElem?_eq_some_iff.1 h).1
  rw [rgs_len] at hl
  simp [rgs, hl] at h
  exact ⟨hl, h.symm⟩
theorem regions_in {S : Nat → Prop} {w : World} {ao : Option Addr} {n : Nat} {Z : Nat → Rgv} (h : RgsR S w ao n Z) (hs : ∀ i, i < n → ShortP (Z i).v.ln (Z i).v.F) : RgAt S w ao (rgs n Z) ∧ ∀ r ∈ rgs n Z, r.ls.length ≤ 40 := by
  refine ⟨fun i r hi => ?_, fun r hr => ?_⟩
  · obtain ⟨hl, rfl⟩ := rgs_get n Z i r hi
    obtain ⟨⟨ho, hp⟩, hls, b, off, e, hS, c⟩ := h i hl
    refine ⟨ho, b, off, (Z i).v.la, (Z i).v.lc, e, hS, ⟨?_, ?_, ?_, ?_, ?_⟩, ?_, lines_in hls (hs i hl) hp.all⟩
    · have := c 0 (by omega); simpa [Rgv.cells, rgo] using this
    · have := c 1 (by omega); simpa [Rgv.cells, rgo] using this
    · have := c 2 (by omega); simpa [Rgv.cells, rgo] using this
    · have := c 3 (by omega); simpa [Rgv.cells, rgo] using this
    · have := c 4 (by omega); simpa [Rgv.cells, rgo, kys_len] using this
    · show Sl _ _ (kys _ _).length
      rw [kys_len]; exact hp.sl
  · obtain ⟨i, hi⟩ := List.getElem?_of_mem hr
    obtain ⟨hl, rfl⟩ := rgs_get n Z i r hi
    show (kys _ _).length ≤ 40
    rw [kys_len]
    exact (hs i hl).1
end Go.Proofs.Ytoodhpgaikmalaa
