/-
  The greatest style.
-/
import Derived.Test.YtdchpiihjjjpfaaKd
namespace Go.Proofs.Ytdchpiihjjjpfaa
open Go.RowKit
set_option linter.unusedSimpArgs false
set_option linter.unusedVariables false

/-- m is the greatest of s, or -1. -/
def IsMx (s : List Int) (m : Int) : Prop := (∀ y ∈ s, y ≤ m) ∧ (m = -1 ∨ m ∈ s)
theorem isMx_one {s : List Int} (hs : Sok s) {m n : Int} (h : IsMx s m) (k : IsMx s n) : m = n := by
  have a : ∀ {m n : Int}, IsMx s m → IsMx s n → m ≤ n := by
    intro m n h k
    rcases h.2 with e | e
    · rcases k.2 with f | f
      · omega
      · have := hs _ f; omega
    · exact k.1 _ e
  have := a h k
  have := a k h
  omega
section
variable {w : World} {lb : Nat} {ao : Option Addr} {cap : Nat} {s : List Int} {bare : Int}

theorem isMx_runs {m : Int} (h1 : ∀ j, j < (enc s).length → Ys (enc s) j ≤ m) (h2 : m = -1 ∨ ∃ j, j < (enc s).length ∧ Ys (enc s) j = m) : IsMx s m := by
  refine ⟨fun y hy => ?_, h2.imp id (fun ⟨j, hj, e⟩ => e ▸ Ys_in s j hj)⟩
  rw [← flat_enc s] at hy
  obtain ⟨p, hp, e⟩ := (mem_flat _ (can_enc s) y).1 hy
  obtain ⟨j, hj, ej⟩ := List.getElem_of_mem hp
  have := h1 j hj
  have e2 : Ys (enc s) j = y := by unfold Ys; rw [← e, ← ej]; simp [List.getD, hj]
  omega

set_option maxRecDepth 100000 in
set_option maxHeartbeats 4000000 in
theorem most_any (h : ListAt w lb ao cap s bare) : Calls Try.prog 20 #[.pointer (some ⟨lb, 0, none⟩)] w fun e w' => ∃ m, e = .returned (.int .i64 m) ∧ IsMx s m ∧ Below w.heap.size w w' := by
  have HP := boxed h.pts
  have c0 := h.c0
  have hle := enc_len s
  have hl := h.len
  have HY := boxed (fun j (hj : j < (enc s).length) => h.ok _ (Ys_in s j hj))
  clear h
  go_enter Try.func20, Try.ntmps20
  go_wp2_with fail
  go_loopw [3, 11] (fun vm vi wr => ∃ (k : Nat) (m : Int), k ≤ (enc s).length ∧ (-1 ≤ m ∧ m < 32) ∧ vm = .int .i64 m ∧ vi = .int .i64 (k : Nat) ∧ Box ((∀ j, j < k → Ys (enc s) j ≤ m) ∧ (m = -1 ∨ ∃ j, j < k ∧ Ys (enc s) j = m)) ∧ Box (Below w.heap.size w wr)) (fun _ vi _ => (enc s).length - (intOf vi).toNat)
  case atStart => exact ⟨0, -1, Nat.zero_le _, ⟨by omega, by omega⟩, rfl, rfl, boxed ⟨fun j hj => by omega, .inl rfl⟩, boxed (Below.refl _ _)⟩
  case round =>
    obtain ⟨k, m, hk, hm, rfl, rfl, HF, HB⟩ := hrel
    by_cases hkn : k < (enc s).length
    · obtain ⟨rb0, off0, rfl, -⟩ := HP.out.form (by omega)
      obtain ⟨e0, e1⟩ := (HP.out.below HB.out).get k hkn
      have hy := HY.out k hkn
      have hzr := HB.out.size
      obtain ⟨W0, hW0⟩ : ∃ W0, wr.alloc (.cells #[.int .i64 (Bg (enc s) (k + 1) : Nat), .int .i64 (Ys (enc s) k)] 78) = W0 := ⟨_, rfl⟩
      have HB0 : Box (Below w.heap.size w W0) := boxed (by rw [← hW0]; exact HB.out.alloc hzr _)
      have r1 : W0.cell? ⟨wr.heap.size, 1, none⟩ = some (.int .i64 (Ys (enc s) k)) := by rw [← hW0, cell_new _ _ _ _ _ rfl]; rfl
      have r0 : W0.cell? ⟨wr.heap.size, 0, none⟩ = some (.int .i64 (Bg (enc s) (k + 1) : Nat)) := by rw [← hW0, cell_new _ _ _ _ _ rfl]; rfl
      have HG : Box ((∀ j, j < k + 1 → Ys (enc s) j ≤ max m (Ys (enc s) k)) ∧ (max m (Ys (enc s) k) = -1 ∨ ∃ j, j < k + 1 ∧ Ys (enc s) j = max m (Ys (enc s) k))) := boxed ⟨fun j hj => by
          by_cases c : j = k
          · subst c; omega
          · have := HF.out.1 j (by omega); omega, by
          by_cases c : m ≤ Ys (enc s) k
          · exact .inr ⟨k, by omega, by omega⟩
          · have e : max m (Ys (enc s) k) = m := by omega
            rw [e]
            exact HF.out.2.imp id (fun ⟨j, h1, h2⟩ => ⟨j, by omega, h2⟩)⟩
      generalize Ys (enc s) k = y at *
      generalize Bg (enc s) (k + 1) = g at *
      go_wp2_with fail
      go_roundw
      case rel => exact ⟨k + 1, max m y, by omega, ⟨by omega, by omega⟩, by first | rfl | (simp; done) | (congr 1; omega), by go_num, HG, HB0⟩
      case measure => simp [intOf]; omega
    · obtain rfl : k = (enc s).length := by omega
      have HG := boxed (isMx_runs HF.out.1 HF.out.2)
      go_wp2
      go_ret
      exact ⟨m, rfl, HG.out, HB.out⟩
end
end Go.Proofs.Ytdchpiihjjjpfaa
