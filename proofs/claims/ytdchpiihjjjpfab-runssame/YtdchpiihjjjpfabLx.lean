/-
  One call at both: what the statements' step does, whatever the call.
-/
import Derived.Test.YtdchpiihjjjpfabLw0
import Derived.Test.YtdchpiihjjjpfabLw1
import Derived.Test.YtdchpiihjjjpfabLw2
import Derived.Test.YtdchpiihjjjpfabLw3
namespace Go.Proofs.Ytdchpiihjjjpfab
open Go.RowKit
set_option linter.unusedSimpArgs false
set_option linter.unusedVariables false

section
variable {N : Nat → Prop} {lb : Nat} {w : World} {ao : Option Addr} {cap : Nat} {b off cp : Nat} {s : List Int} {bare : Int} {o : Opr}

set_option maxRecDepth 100000 in
set_option maxHeartbeats 4000000 in
theorem step4_any (h : ListAt w lb ao cap s bare) (hr : RfAt N w b off cp s) (hN : ∀ k, N k → k ≠ lb) (hN2 : ∀ k, w.heap.size ≤ k → N k) (ho : OprOk (· ≠ lb) w o) (hk : (o.kind = 3 ∧ 40 < o.rn) ∨ (o.kind ≠ 0 ∧ o.kind ≠ 1 ∧ o.kind ≠ 2 ∧ o.kind ≠ 3)) : Calls Try.prog 19 #[.pointer (some ⟨lb, 0, none⟩), .agg #[.slice (some ⟨b, off, none⟩) s.length cp, .int .i64 bare], .agg #[.int .i64 o.kind, .int .i64 o.a, .int .i64 o.b, .int .i64 o.st, .slice o.ro o.rn o.rc]] w fun e w' => StepP N lb w s bare o e w' := by
  have hlt := h.lt
  have hmax := ho.len
  obtain ⟨W0, hW0⟩ : ∃ W0, ((w.alloc (.cells #[.slice (some ⟨b, off, none⟩) s.length cp, .int .i64 bare] 33)).alloc (.cells #[.int .i64 o.kind, .int .i64 o.a, .int .i64 o.b, .int .i64 o.st, .slice o.ro o.rn o.rc] 43)).alloc (.cells #[.slice none 0 0, .int .i64 0] 33) = W0 := ⟨_, rfl⟩
  have hB3 := b3_new w (.slice (some ⟨b, off, none⟩) s.length cp) (.int .i64 bare) (.int .i64 o.kind) (.int .i64 o.a) (.int .i64 o.b) (.int .i64 o.st) (.slice o.ro o.rn o.rc)
  rw [hW0] at hB3
  have HB3 := boxed hB3
  have HL := boxed (h.below hB3.below)
  have HRF := boxed (((hr.also (N' := fun k => N k ∧ k ≠ w.heap.size + 2) (fun k hk hl => ⟨hk, by omega⟩))).below hB3.below)
  have HST : Box (stp s bare o = (s, bare)) := boxed (by
    unfold stp
    rcases hk with ⟨k1, k2⟩ | ⟨k1, k2, k3, k4⟩
    · rw [if_neg (by omega), if_neg (by omega), if_neg (by omega), if_pos k1, if_pos k2]
    · rw [if_neg k1, if_neg k2, if_neg k3, if_neg k4])
  have HP := boxed (put2_all (v0 := .slice (some ⟨b, off, none⟩) s.length cp) (v1 := .int .i64 bare) hB3.r)
  obtain ⟨d0, d1, f0, f1⟩ := box_facts hB3.r
  have y0 := hB3.o0
  have y4 := hB3.o4
  have z0 := hB3.x0
  have z1 := hB3.x1
  unfold maxLen at hmax
  rcases hk with ⟨k1, k2⟩ | ⟨k1, k2, k3, k4⟩
  · have t40 : decide ((40 : Int) < (o.rn : Int)) = true := decide_eq_true (by omega)
    have t40' : decide (40 < o.rn) = true := decide_eq_true (by omega)
    rw [k1] at y0 hW0 ⊢
    clear h hr ho hB3
    go_enter Try.func19, Try.ntmps19
    go_wp2_with fail
    refine bodyPost_ret (v := .tuple #[.agg #[.slice (some ⟨b, off, none⟩) s.length cp, .int .i64 bare], .bool true]) (by simp [results, Try.results19, go_sem, HP.out.1, HP.out.2.1]) rfl ?_
    exact step_end HST.out HL.out HRF.out HB3.out.r (by omega) hlt (below_grown HB3.out.below _)
  · have s1 : (o.kind == 0) = false := by simpa using k1
    have s2 : (o.kind == 1) = false := by simpa using k2
    have s3 : (o.kind == 2) = false := by simpa using k3
    have s4 : (o.kind == 3) = false := by simpa using k4
    clear h hr ho hB3 k1 k2 k3 k4
    generalize o.kind = K at *
    go_enter Try.func19, Try.ntmps19
    go_wp2_with fail
    refine bodyPost_ret (v := .tuple #[.agg #[.slice (some ⟨b, off, none⟩) s.length cp, .int .i64 bare], .bool true]) (by simp [results, Try.results19, go_sem, HP.out.1, HP.out.2.1]) rfl ?_
    exact step_end HST.out HL.out HRF.out HB3.out.r (by omega) hlt (below_grown HB3.out.below _)

theorem step_any (h : ListAt w lb ao cap s bare) (hr : RfAt N w b off cp s) (hN : ∀ k, N k → k ≠ lb) (hN2 : ∀ k, w.heap.size ≤ k → N k) (ho : OprOk (· ≠ lb) w o) : Calls Try.prog 19 #[.pointer (some ⟨lb, 0, none⟩), .agg #[.slice (some ⟨b, off, none⟩) s.length cp, .int .i64 bare], .agg #[.int .i64 o.kind, .int .i64 o.a, .int .i64 o.b, .int .i64 o.st, .slice o.ro o.rn o.rc]] w fun e w' => StepP N lb w s bare o e w' := by
  by_cases k0 : o.kind = 0
  · exact step0_any h hr hN hN2 ho k0
  by_cases k1 : o.kind = 1
  · exact step1_any h hr hN hN2 ho k1
  by_cases k2 : o.kind = 2
  · exact step2_any h hr hN hN2 ho k2
  by_cases k3 : o.kind = 3
  · by_cases k4 : o.rn ≤ 40
    · exact step3_any h hr hN hN2 ho k3 k4
    · exact step4_any h hr hN hN2 ho (.inl ⟨k3, by omega⟩)
  · exact step4_any h hr hN hN2 ho (.inr ⟨k0, k1, k2, k3⟩)
end
end Go.Proofs.Ytdchpiihjjjpfab
