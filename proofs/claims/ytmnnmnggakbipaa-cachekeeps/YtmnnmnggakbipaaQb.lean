/-
  Where styles begin, taken into a key's number: what the program's mixRuns answers.
-/
import Derived.Test.YtmnnmnggakbipaaQa
namespace Go.Proofs.Ytmnnmnggakbipaa
open Go.RowKit
set_option linter.unusedSimpArgs false
set_option linter.unusedVariables false

/-- Where styles begin is taken in. -/
structure Rs where
  h : Int
  b : Int
  y : Int
  g : Bool
def rs1 (a : Rs) (x : Int) : Rs := ⟨if a.g = true ∧ x = a.y then a.h else mx (mx a.h a.b) (IntKind.u64.wrap x), IntKind.u64.wrap (a.b + 1), x, true⟩
def rsf (h : Int) (l : List Int) : Rs := l.foldl rs1 ⟨h, 0, 0, false⟩
def mr (h : Int) (l : List Int) : Int := mx (rsf h l).h (rsf h l).b
theorem rs1_U64 (a : Rs) (x : Int) (h : U64 a.h ∧ U64 a.b) : U64 (rs1 a x).h ∧ U64 (rs1 a x).b := by
  unfold rs1
  refine ⟨?_, wrap_U64 _⟩
  simp only
  split
  · exact h.1
  · exact mx_U64 _ _
theorem rs_U64 (l : List Int) (a : Rs) (h : U64 a.h ∧ U64 a.b) : U64 (l.foldl rs1 a).h ∧ U64 (l.foldl rs1 a).b := by
  induction l generalizing a with
  | nil => exact h
  | cons x r ih => exact ih _ (rs1_U64 a x h)
theorem rs_like (l : Nat) (h b x : Int) (hb : U64 b) : (List.replicate l x).foldl rs1 ⟨h, b, x, true⟩ = ⟨h, IntKind.u64.wrap (b + l), x, true⟩ := by
  induction l generalizing b with
  | zero => simp; rw [IntKind.wrap_u64]; unfold U64 at hb; omega
  | succ l ih =>
    rw [List.replicate_succ, List.foldl_cons]
    have e : rs1 ⟨h, b, x, true⟩ x = ⟨h, IntKind.u64.wrap (b + 1), x, true⟩ := by simp [rs1]
    rw [e, ih _ (wrap_U64 _)]
    congr 1
    rw [IntKind.wrap_u64, IntKind.wrap_u64, IntKind.wrap_u64]
    omega
theorem rs_rep (l : Nat) (a : Rs) (x : Int) (hl : 0 < l) : (List.replicate l x).foldl rs1 a = ⟨if a.g = true ∧ x = a.y then a.h else mx (mx a.h a.b) (IntKind.u64.wrap x), IntKind.u64.wrap (a.b + l), x, true⟩ := by
  obtain ⟨m, rfl⟩ : ∃ m, l = m + 1 := ⟨l - 1, by omega⟩
  rw [List.replicate_succ, List.foldl_cons]
  have e : rs1 a x = ⟨if a.g = true ∧ x = a.y then a.h else mx (mx a.h a.b) (IntKind.u64.wrap x), IntKind.u64.wrap (a.b + 1), x, true⟩ := rfl
  rw [e, rs_like _ _ _ _ (wrap_U64 _)]
  congr 1
  rw [IntKind.wrap_u64, IntKind.wrap_u64, IntKind.wrap_u64]
  omega
theorem rsf_next (h : Int) (L Y : Nat → Int) (i : Nat) : (L i ≤ 0 → rsf h (exr L Y (i + 1)) = rsf h (exr L Y i)) ∧ (0 < L i → rsf h (exr L Y (i + 1)) = ⟨if (rsf h (exr L Y i)).g = true ∧ Y i = (rsf h (exr L Y i)).y then (rsf h (exr L Y i)).h else mx (mx (rsf h (exr L Y i)).h (rsf h (exr L Y i)).b) (IntKind.u64.wrap (Y i)), IntKind.u64.wrap ((rsf h (exr L Y i)).b + L i), Y i, true⟩) := by
  refine ⟨fun hl => ?_, fun hl => ?_⟩
  · rw [exr, show (L i).toNat = 0 from by omega]; simp
  · rw [exr]
    unfold rsf
    rw [List.foldl_append, rs_rep _ _ _ (by omega), show (((L i).toNat : Nat) : Int) = L i from by omega]
theorem wrap_add_u64 (a b : Int) : IntKind.u64.wrap (a + IntKind.u64.wrap b) = IntKind.u64.wrap (a + b) := by
  rw [IntKind.wrap_u64, IntKind.wrap_u64, IntKind.wrap_u64]; omega

set_option maxRecDepth 100000 in
set_option maxHeartbeats 1000000 in
theorem mixRuns_any (S : Nat → Prop) (h : Int) (ao : Option Addr) (n cap : Nat) (L Y : Nat → Int) (hh : U64 h) (w : World) (hp : P2At S w ao n L Y) (hn : n ≤ maxLen) : Calls Try.prog 39 #[.int .u64 h, .slice ao n cap] w fun e w' => e = .returned (.int .u64 (mr h (exr L Y n))) ∧ Below w.heap.size w w' := by
  unfold maxLen at hn
  have HP := boxed hp
  clear hp
  go_enter Try.func39, Try.ntmps39
  go_wp2_with fail
  go_loopw [0, 5, 6, 7, 12] (fun vh vb vy vg vi wr => ∃ (i : Nat) (z : Rs), i ≤ n ∧ vi = .int .i64 (i : Nat) ∧ vh = .int .u64 z.h ∧ vb = .int .u64 z.b ∧ vy = .int .i64 z.y ∧ vg = .bool z.g ∧ Box (rsf h (exr L Y i) = z) ∧ Box (Below w.heap.size w wr)) (fun _ _ _ _ vi _ => n - (intOf vi).toNat)
  case atStart => exact ⟨0, _, Nat.zero_le _, rfl, rfl, rfl, rfl, rfl, boxed rfl, boxed (Below.refl _ _)⟩
  case round =>
    obtain ⟨i, ⟨zh, zb, zy, zg⟩, hin, rfl, rfl, rfl, rfl, rfl, HZ, HB⟩ := hrel
    have HU : Box (U64 zh ∧ U64 zb) := boxed (by
      have := rs_U64 (exr L Y i) ⟨h, 0, 0, false⟩ ⟨hh, by show (0 : Int) ≤ 0 ∧ (0 : Int) < 18446744073709551616; omega⟩
      have e := HZ.out
      unfold rsf at e
      rw [e] at this
      exact this)
    by_cases hlt : i < n
    · obtain ⟨b, off, rfl, -⟩ := HP.out.form (by omega)
      obtain ⟨c0, c1⟩ := (HP.out.below HB.out).get i hlt
      have HI := boxed (HP.out i hlt).1
      have HN := boxed (rsf_next h L Y i)
      rw [HZ.out] at HN
      generalize L i = l at *
      generalize Y i = y at *
      by_cases cl : l ≤ 0
      · have tl : decide (l ≤ 0) = true := decide_eq_true cl
        have HN1 := boxed (HN.out.1 cl)
        have HB1 : Box (Below w.heap.size w (wr.alloc (.cells #[.int .i64 l, .int .i64 y] 62))) := boxed (HB.out.alloc HB.out.size _)
        clear HN HU
        go_wp2_with fail
        go_roundw
        case rel => exact ⟨i + 1, ⟨zh, zb, zy, zg⟩, by omega, by go_num, rfl, rfl, rfl, rfl, HN1, HB1⟩
        case measure => simp [intOf]; omega
      · have tl : decide (l ≤ 0) = false := decide_eq_false cl
        have HN1 := boxed (HN.out.2 (by omega))
        have hwa := wrap_add_u64 zb l
        have HB1 : Box (Below w.heap.size w (wr.alloc (.cells #[.int .i64 l, .int .i64 y] 62))) := boxed (HB.out.alloc HB.out.size _)
        clear HN
        by_cases cg : zg = true ∧ y = zy
        · obtain ⟨rfl, rfl⟩ := cg
          have HN2 : Box (rsf h (exr L Y (i + 1)) = ⟨zh, IntKind.u64.wrap (zb + l), y, true⟩) := boxed (by rw [HN1.out]; simp)
          clear HN1 HU
          go_wp2_with fail
          go_roundw
          case rel => exact ⟨i + 1, _, by omega, by go_num, rfl, rfl, rfl, rfl, HN2, HB1⟩
          case measure => simp [intOf]; omega
        · have HN2 : Box (rsf h (exr L Y (i + 1)) = ⟨mx (mx zh zb) (IntKind.u64.wrap y), IntKind.u64.wrap (zb + l), y, true⟩) := boxed (by rw [HN1.out]; simp only; rw [if_neg cg])
          clear HN1
          have hU1 := HU.out.1
          have hU2 := HU.out.2
          have hU3 := mx_U64 zh zb
          have hU4 := wrap_U64 y
          cases zg
          · clear cg
            go_wp2_with fail
            go_quiet ((go_at_call 41; exact Calls.quiet_of_same (mix_any _ _ (by assumption) (by assumption) _)))
            go_wp2_with fail
            go_roundw
            case rel => exact ⟨i + 1, _, by omega, by go_num, rfl, rfl, rfl, rfl, HN2, boxed (HB1.out.trans (bel_drewN _ _ _))⟩
            case measure => simp [intOf]; omega
          · have cy : y ≠ zy := fun e => cg ⟨rfl, e⟩
            have ty : (y != zy) = true := by simpa using cy
            clear cg cy
            go_wp2_with fail
            go_quiet ((go_at_call 41; exact Calls.quiet_of_same (mix_any _ _ (by assumption) (by assumption) _)))
            go_wp2_with fail
            go_roundw
            case rel => exact ⟨i + 1, _, by omega, by go_num, rfl, rfl, rfl, rfl, HN2, boxed (HB1.out.trans (bel_drewN _ _ _))⟩
            case measure => simp [intOf]; omega
    · obtain rfl : i = n := by omega
      have HF : Box (mx zh zb = mr h (exr L Y i)) := boxed (by unfold mr; rw [HZ.out])
      have HM1 := boxed (fun W => mix_any zh zb HU.out.1 HU.out.2 W)
      go_wp2_with fail
      refine (HM1.out _).mono ?_
      rintro e w' ⟨rfl, hw'⟩
      subst w'
      go_wp2_with fail
      go_ret
      exact ⟨by rw [HF.out]; rfl, HB.out⟩
end Go.Proofs.Ytmnnmnggakbipaa
