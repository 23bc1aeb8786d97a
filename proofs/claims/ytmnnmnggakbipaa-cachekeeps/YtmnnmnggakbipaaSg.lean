/-
  As many unlike keys as there is room for, put behind a key: the list in plain words.
-/
import Derived.Test.YtmnnmnggakbipaaSf
import Derived.Test.YtmnnmnggakbipaaSc
namespace Go.Proofs.Ytmnnmnggakbipaa
open Go.RowKit
set_option linter.unusedSimpArgs false
set_option linter.unusedVariables false

/-- A key that has a text and a width. -/
def kw (t : ByteArray) (wd : Int) : Kv := ⟨t, none, 0, 0, 0, wd, ⟨0, 0, 0, 0, 0, 0, 0⟩, fun _ => 0, fun _ => 0⟩
theorem kw_at (S : Nat → Prop) (w : World) (t : ByteArray) (wd : Int) : KvAt S w (kw t wd) := fun i hi => absurd hi (Nat.not_lt_zero _)
theorem kw_fits (t : ByteArray) (wd : Int) (h : t.size ≤ 200) : Fits (kw t wd) := ⟨h, Nat.zero_le _, fun i hi => absurd hi (Nat.not_lt_zero _)⟩
theorem kw_ne (t : ByteArray) {a b : Int} (h : a ≠ b) : (kw t a).ky ≠ (kw t b).ky := fun c => h (by have := congrArg Ky.wd c; exact this)
def fw (t : ByteArray) : Nat → List (Ky × Int)
  | 0 => []
  | n + 1 => ((kw t ((n : Int) + 1)).ky, (n : Int)) :: fw t n
theorem fw_len (t : ByteArray) (n : Nat) : (fw t n).length = n := by
  induction n with
  | zero => rfl
  | succ n ih => simp [fw, ih]
theorem fw_ne (t : ByteArray) (n : Nat) (d : Int) (h : d ≤ 0 ∨ (n : Int) < d) : ∀ p ∈ fw t n, p.1 ≠ (kw t d).ky := by
  induction n with
  | zero => intro p hp; simp [fw] at hp
  | succ n ih =>
    intro p hp
    rcases List.mem_cons.1 hp with rfl | hp
    · exact kw_ne t (by omega)
    · exact ih (by omega) p hp
/-- What lies there ahead of round i. -/
def gl (room : Nat) (t : ByteArray) (i : Nat) : List (Ky × Int) := if i < room then fw t i ++ [((kw t 0).ky, 1)] else fw t i
theorem gl_start {room : Nat} {t : ByteArray} {l : List (Ky × Int)} (h : PutR (room : Int) [] (kw t 0).ky 1 l) : l = gl room t 0 := by
  refine PutR.det (by simp) h ?_
  unfold gl
  by_cases c : 0 < room
  · rw [if_pos c]
    exact .inr ⟨by omega, .inr ⟨by simp, .inr ⟨by simp; omega, rfl⟩⟩⟩
  · rw [if_neg c]
    exact .inl ⟨by omega, rfl⟩
theorem gl_nodup (t : ByteArray) (n : Nat) : List.Nodup (List.map (fun p : Ky × Int => p.1) (fw t n ++ [((kw t 0).ky, 1)])) := by
  induction n with
  | zero => simp [fw]
  | succ n ih =>
    rw [fw, List.cons_append, List.map_cons, List.nodup_cons]
    refine ⟨fun c => ?_, ih⟩
    obtain ⟨p, hp, e⟩ := List.mem_map.1 c
    rcases List.mem_append.1 hp with hp | hp
    · exact fw_ne t n ((n : Int) + 1) (by omega) p hp e
    · simp at hp; subst hp; exact kw_ne t (by omega) e
theorem gl_step {room : Nat} {t : ByteArray} {l : List (Ky × Int)} {i : Nat} (hi : i < room) (h : PutR (room : Int) (gl room t i) (kw t ((i : Int) + 1)).ky (i : Int) l) : l = gl room t (i + 1) := by
  have h0 : gl room t i = fw t i ++ [((kw t 0).ky, 1)] := if_pos hi
  rw [h0] at h
  refine PutR.det (gl_nodup t i) h ?_
  refine .inr ⟨by omega, .inr ⟨fun p hp => ?_, ?_⟩⟩
  · rcases List.mem_append.1 hp with hp | hp
    · exact fw_ne t i ((i : Int) + 1) (by omega) p hp
    · simp at hp; subst hp; exact kw_ne t (by omega)
  · unfold gl
    by_cases c : i + 1 < room
    · rw [if_pos c]
      exact .inr ⟨by simp [fw_len]; omega, rfl⟩
    · rw [if_neg c]
      refine .inl ⟨by simp [fw_len]; omega, ?_⟩
      rw [List.dropLast_concat]
      rfl
end Go.Proofs.Ytmnnmnggakbipaa
