/-
  Get where the key is not there, and where it is.
-/
import Derived.Test.YtmnnmnggakbipaaSe
namespace Go.Proofs.Ytmnnmnggakbipaa
open Go.RowKit
set_option linter.unusedSimpArgs false
set_option linter.unusedVariables false

theorem abL_len (L : List En) : (abL L).length = L.length := by simp [abL]
section
variable {w : World} {F : Nat → Prop} {cb mb : Nat} {room fo mi : Int} {L : List En} {Bk : Int → List Nat} {M : Int → Option Value}
theorem get_miss {k : Kv} (h : CaAt w F cb mb room fo mi L Bk M) (hk : KvAt (fun _ => True) w k) (hf : Fits k) (hkc : k.rn ≤ k.rc) (hfo : 0 ≤ fo ∧ fo < 1000000) (hmi : 0 ≤ mi ∧ mi < 1000000) (hno : ∀ p ∈ abL L, p.1 ≠ k.ky) :
    Calls Try.prog 26 #[.pointer (some ⟨cb, 0, none⟩), k.val] w fun r w' => r = .returned (.tuple #[.int .i64 0, .bool false]) ∧ ∃ L', CaAt w' F cb mb room fo (mi + 1) L' Bk M ∧ abL L' = abL L ∧ Chg F w w' := by
  refine (get_any w F cb mb room fo mi L Bk M k h hk hf hkc hfo hmi).mono ?_
  rintro r w' ⟨o, L', hr, hca, hg, hc⟩
  rcases hg with ⟨i, v0, e, _, _⟩ | ⟨_, rfl, e⟩
  · exact absurd rfl (hno _ (List.mem_of_getElem? e))
  · exact ⟨hr, L', by simpa using hca, e, hc⟩
theorem get_hit {k : Kv} {v : Int} (h : CaAt w F cb mb room fo mi L Bk M) (hk : KvAt (fun _ => True) w k) (hf : Fits k) (hkc : k.rn ≤ k.rc) (hfo : 0 ≤ fo ∧ fo < 1000000) (hmi : 0 ≤ mi ∧ mi < 1000000) (hin : (k.ky, v) ∈ abL L) :
    Calls Try.prog 26 #[.pointer (some ⟨cb, 0, none⟩), k.val] w fun r w' => r = .returned (.tuple #[.int .i64 v, .bool true]) ∧ ∃ L', CaAt w' F cb mb room (fo + 1) mi L' Bk M ∧ L'.length = L.length ∧ Chg F w w' := by
  refine (get_any w F cb mb room fo mi L Bk M k h hk hf hkc hfo hmi).mono ?_
  rintro r w' ⟨o, L', hr, hca, hg, hc⟩
  rcases hg with ⟨i, v0, e, rfl, e2⟩ | ⟨hno, _, _⟩
  · obtain ⟨j, hj, ej⟩ := List.getElem_of_mem hin
    have ej' : (abL L)[j]? = some (k.ky, v) := by rw [List.getElem?_eq_getElem hj, ej]
    have hij := key_at h.nodup e ej'
    subst hij
    rw [e] at ej'
    injection ej' with ej'
    injection ej' with _ ej'
    subst ej'
    refine ⟨hr, L', by simpa using hca, ?_, hc⟩
    have h1 := congrArg List.length e2
    rw [abL_len, List.length_cons, List.length_eraseIdx_of_lt hj, abL_len] at h1
    rw [abL_len] at hj
    omega
  · exact absurd rfl (hno _ hin)
end
theorem KvAt.outer {w W : World} {F : Nat → Prop} {k : Kv} (h : KvAt (fun _ => True) w k) (hb : Below w.heap.size w W) (hF : ∀ b, F b → w.heap.size ≤ b) : KvAt (fun b => ¬ F b) W k :=
  P2At.keep h (fun b i u _ hc => by
    have hlt := World.block_lt_of_cell? w _ hc
    simp only at hlt
    exact ⟨fun c => by have := hF b c; omega, hold hb hc⟩)
end Go.Proofs.Ytmnnmnggakbipaa
