/-
  A diff done to the first layout; pages whose lines may be written.
-/
import Derived.Test.YtoodhpgaikmalaaBz
namespace Go.Proofs.Ytoodhpgaikmalaa
open Go.RowKit
set_option linter.unusedSimpArgs false
set_option linter.unusedVariables false

theorem few_len {ps : List (List Key)} (h : Few ps) (M : Nat) (hM : 40 ≤ M) : ∀ (i : Nat) (ks : List Key), ps[i]? = some ks → ks.length ≤ M := fun i ks e => Nat.le_trans (h.2 i ks e) hM
theorem patch_dif (S S' : Nat → Prop) (ao bo : Option Addr) (ps qs : List (List Key)) (ca cb : Nat) (w : World) (h1 : PsAt S w ao ps) (h2 : RgAt S' w bo (dif ps qs)) (f1 : Few ps) (f2 : Few qs) (hsa : Sl ao ca ps.length) (hsb : Sl bo cb (dif ps qs).length) :
    Calls Try.prog 11 #[.slice ao ps.length ca, .slice bo (dif ps qs).length cb] w fun e w' => ∃ co cc, e = .returned (.tuple #[.slice co qs.length cc, .int .i64 0]) ∧ PgO w.heap.size w' co cc qs ∧ Below w.heap.size w w' := by
  have hl := dif_len ps qs
  have hsm := dif_small ps qs 40 f1.2 f2.2
  refine (patch_any S S' ao bo ps (dif ps qs) ca cb w h1 h2 (by have := f1.1; omega) (by have := f1.1; have := f2.1; omega) (few_len f1 100 (by omega)) (fun r hr => (hsm r hr).2.2) hsa hsb).mono ?_
  rintro e w' ⟨hb, h | ⟨s, hs, co, cc, he, hp⟩⟩
  · rw [stg_dif] at h
    cases h.1
  · rw [stg_dif] at hs
    injection hs with hs
    subst hs
    rw [appl_dif] at he hp
    exact ⟨co, cc, he, hp, hb⟩
theorem diff_few (S S' : Nat → Prop) (ao bo : Option Addr) (ps qs : List (List Key)) (ca cb : Nat) (w : World) (h1 : PsAt S w ao ps) (h2 : PsAt S' w bo qs) (f1 : Few ps) (f2 : Few qs) :
    Calls Try.prog 10 #[.slice ao ps.length ca, .slice bo qs.length cb, .int .i64 0] w fun e w' => ∃ ro rc, e = .returned (.slice ro (dif ps qs).length rc) ∧ Sl ro rc (dif ps qs).length ∧ RgAt (fun b => w.heap.size ≤ b) w' ro (dif ps qs) ∧ Below w.heap.size w w' := by
  refine (diff_any S S' ao bo ps qs ca cb w h1 h2 (by have := f1.1; omega) (by have := f2.1; omega) (few_len f1 1000 (by omega)) (few_len f2 1000 (by omega))).mono ?_
  rintro e w' ⟨v, rfl, hr, hb⟩
  obtain ⟨ro, rc, rfl, hs⟩ := hr.shape
  exact ⟨ro, rc, rfl, hs, hr.at, hb⟩
/-- A diff of a layout and itself. -/
theorem diff_self (S S' : Nat → Prop) (ao bo : Option Addr) (ps : List (List Key)) (ca cb : Nat) (w : World) (h1 : PsAt S w ao ps) (h2 : PsAt S' w bo ps) (f1 : Few ps) :
    Calls Try.prog 10 #[.slice ao ps.length ca, .slice bo ps.length cb, .int .i64 0] w fun e w' => ∃ ro rc, e = .returned (.slice ro 0 rc) ∧ Below w.heap.size w w' := by
  refine (diff_few S S' ao bo ps ps ca cb w h1 h2 f1 f1).mono ?_
  rintro e w' ⟨ro, rc, rfl, -, -, hb⟩
  rw [dif_self]
  exact ⟨ro, rc, rfl, hb⟩
theorem pages_like (S S' : Nat → Prop) (ao bo : Option Addr) (ps : List (List Key)) (ca cb : Nat) (w : World) (h1 : PsAt S w ao ps) (h2 : PsAt S' w bo ps) (f1 : Few ps) :
    Calls Try.prog 12 #[.slice ao ps.length ca, .slice bo ps.length cb] w fun e w' => e = .returned (.bool true) ∧ Below w.heap.size w w' := by
  have := refpages_any S S' ao bo ps ps ca cb w h1 h2 (by have := f1.1; omega) (few_len f1 3000 (by omega))
  rw [decide_eq_true rfl] at this
  exact this
/-- Pages whose lines may be written. -/
def GotW (G g : Nat) (w : World) (ps : List (List Key)) : Prop := ∀ (i : Nat) (ks : List Key), ps[i]? = some ks → ∃ la lc, w.cell? ⟨g, i, none⟩ = some (.slice la ks.length lc) ∧ (0 < ks.length → ∃ b off arr, la = some ⟨b, off, none⟩ ∧ G ≤ b ∧ b ≠ g ∧ w.heap[b]? = some (.cells arr 37 (0, 0)) ∧ off + ks.length * 9 ≤ arr.size)
theorem GotW.set {G g : Nat} {w : World} {ps : List (List Key)} (h : GotW G g w ps) (b j : Nat) (v : Value) (hb : b ≠ g) : GotW G g (w.setCell ⟨b, j, none⟩ v) ps := by
  intro i ks hi
  obtain ⟨la, lc, h1, h2⟩ := h i ks hi
  refine ⟨la, lc, ?_, fun hn => ?_⟩
  · rw [cell_same (heap_set_far v (fun e => hb e.symm))]; exact h1
  · obtain ⟨c, off, arr, k1, k2, k3, k4, k5⟩ := h2 hn
    by_cases d : c = b
    · subst d
      exact ⟨c, off, _, k1, k2, k3, arr_set v k4, by simpa using k5⟩
    · exact ⟨c, off, arr, k1, k2, k3, by rw [heap_set_far v d]; exact k4, k5⟩
theorem PgO.got {B : Nat} {w : World} {g cap : Nat} {ps : List (List Key)} (h : PgO B w (some ⟨g, 0, none⟩) cap ps) : GotW B g w ps := by
  intro i ks hi
  obtain ⟨-, la, lc, h1, -, h3⟩ := h.get i ks hi
  refine ⟨la, lc, h1, fun hn => ?_⟩
  obtain ⟨b, off, arr, e, e1, e2⟩ := h3.2 hn
  obtain ⟨b', off', e', -, hs⟩ := h3.1.form hn
  rw [e] at e'
  injection e' with e'
  injection e' with e3 e4 e5
  subst e3
  exact ⟨b, off, arr, e, hs.1, hs.2, e1, e2⟩
end Go.Proofs.Ytoodhpgaikmalaa
