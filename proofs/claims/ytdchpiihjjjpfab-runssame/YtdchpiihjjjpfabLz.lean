/-
  The page's example, as the statements' awake has it; and small.
-/
import Derived.Test.YtdchpiihjjjpfabLy
import Derived.Test.YtdchpiihjjjpfabLu
namespace Go.Proofs.Ytdchpiihjjjpfab
open Go.RowKit
set_option linter.unusedSimpArgs false
set_option linter.unusedVariables false

/-- The example's two calls. -/
def exO (i : Nat) : Opr := if i = 0 then ⟨2, 1, 3, 2, none, 0, 0, fun _ => 0, fun _ => 0⟩ else ⟨0, 3, 2, 0, none, 0, 0, fun _ => 0, fun _ => 0⟩
theorem ex_state : stN exO (List.replicate 4 0) 0 2 = ([0, 2, 2, 2, 2, 0], 0) := by decide
theorem ex_one : (stN exO (List.replicate 4 0) 0 1).1.length = 4 := by decide
theorem ex_all {k : Nat} {s : List Int} {bare : Int} (h1 : stN exO (List.replicate 4 0) 0 k = (s, bare)) (h2 : k ≤ 2 ∧ (k = min 2 40 ∨ 5000 < s.length)) : s = [0, 2, 2, 2, 2, 0] ∧ bare = 0 := by
  have hk : k = 2 := by
    rcases h2.2 with h | h
    · omega
    · exfalso
      have e : s = (stN exO (List.replicate 4 0) 0 k).1 := by rw [h1]
      match k, h2.1 with
      | 0, _ => rw [e] at h; simp [stN] at h
      | 1, _ => rw [e, ex_one] at h; omega
      | 2, _ => rw [e, ex_state] at h; simp at h
  subst hk
  rw [ex_state] at h1
  injection h1 with e1 e2
  exact ⟨e1.symm, e2.symm⟩

set_option maxRecDepth 100000 in
set_option maxHeartbeats 4000000 in
theorem awake_any (w : World) : Calls Try.prog 5 #[] w fun e w' => e = .returned (.bool true) ∧ Below w.heap.size w w' := by
  obtain ⟨W0, hW0⟩ : ∃ W0, w.alloc (.cells #[.int .i64 2, .int .i64 1, .int .i64 3, .int .i64 2, .slice none 0 0, .int .i64 0, .int .i64 3, .int .i64 2, .int .i64 0, .slice none 0 0] 43) = W0 := ⟨_, rfl⟩
  have hb0 : Below w.heap.size w W0 := by rw [← hW0]; exact (Below.refl _ _).alloc (Nat.le_refl _) _
  have hcell : ∀ j, W0.cell? ⟨w.heap.size, j, none⟩ = (#[Value.int .i64 2, .int .i64 1, .int .i64 3, .int .i64 2, .slice none 0 0, .int .i64 0, .int .i64 3, .int .i64 2, .int .i64 0, .slice none 0 0] : Array Value)[j]? := fun j => by rw [← hW0, cell_new _ _ _ _ _ rfl]
  have hops : OpsAt (fun _ => True) W0 (some ⟨w.heap.size, 0, none⟩) 2 exO := by
    intro i hi
    match i, hi with
    | 0, _ => exact ⟨⟨⟨by decide, by decide⟩, ⟨by decide, by decide⟩, ⟨by decide, by decide⟩, ⟨by decide, by decide⟩, by decide, fun i hi => absurd hi (by simp [exO])⟩, w.heap.size, 0, rfl, trivial, (hcell 0).trans rfl, (hcell 1).trans rfl, (hcell 2).trans rfl, (hcell 3).trans rfl, (hcell 4).trans rfl⟩
    | 1, _ => exact ⟨⟨⟨by decide, by decide⟩, ⟨by decide, by decide⟩, ⟨by decide, by decide⟩, ⟨by decide, by decide⟩, by decide, fun i hi => absurd hi (by simp [exO])⟩, w.heap.size, 0, rfl, trivial, (hcell 5).trans rfl, (hcell 6).trans rfl, (hcell 7).trans rfl, (hcell 8).trans rfl, (hcell 9).trans rfl⟩
  have HPL := boxed (played_any 4 0 (by omega) (by omega) (some ⟨w.heap.size, 0, none⟩) 2 2 exO W0 (by unfold maxLen; omega) hops)
  have HB0 := boxed hb0
  clear hops hcell hb0
  go_enter Try.func5, Try.ntmps5
  go_wp2_with fail
  refine HPL.out.mono ?_
  rintro e w1 ⟨lb, b, off, cp, ao, cap, k, s, bare, hk1, hk2, hk3, rfl, hlb, hL, hR, hb1⟩
  obtain ⟨rfl, rfl⟩ := ex_all hk1 hk2
  have HL := boxed hL
  have HB1 := boxed (below_step HB0.out (Nat.le_refl _) hb1)
  have hbx : Below w1.heap.size w1 (w1.alloc (.cells #[.slice (some ⟨b, off, none⟩) 6 cp, .int .i64 0] 33)) := (Below.refl _ _).alloc (Nat.le_refl _) _
  have HLx := boxed (hL.below hbx)
  have HBx := boxed (below_step HB1.out (Nat.le_refl _) hbx)
  clear hL hR hb1 hk1 hk2 hk3 hbx HPL
  have hun : undef = Value.tuple #[] := rfl
  go_wp2_with fail
  generalize w1.alloc (.cells #[.slice (some ⟨b, off, none⟩) 6 cp, .int .i64 0] 33) = wx at *
  refine (len_any HLx.out).mono ?_
  rintro e w2 ⟨rfl, hb2⟩
  have HL2 := boxed (HLx.out.below hb2)
  have HB2 := boxed (below_step HBx.out (Nat.le_refl _) hb2)
  clear hb2
  go_wp2_with fail
  refine (count_any HL2.out).mono ?_
  rintro e w3 ⟨rfl, hw3⟩
  subst w3
  have e3 : (enc [0, 2, 2, 2, 2, 0]).length = 3 := by decide
  rw [e3]
  go_wp2_with fail
  refine (runs_any HL2.out).mono ?_
  rintro e w4 ⟨v, rfl, hown, hb4⟩
  have HB4 := boxed (below_step HB2.out (Nat.le_refl _) hb4)
  have HO4 := boxed hown
  clear hown hb4
  go_wp2_with fail
  have eQ : enc [0, 2, 2, 2, 2, 0] = [(1, 0), (4, 2), (1, 0)] := by decide
  have hlit : (w4.alloc (.cells #[.int .i64 1, .int .i64 0, .int .i64 4, .int .i64 2, .int .i64 1, .int .i64 0] 25)).ownsRow w4.heap.size 25 2 (.slice (some ⟨w4.heap.size, 0, none⟩) 3 3) 3 (rcs [(1, 0), (4, 2), (1, 0)]) := World.ownsRow_lit w4 _ 3 (Nat.le_refl _) (by unfold maxLen; omega) rfl
  have h4 := HO4.out
  rw [eQ] at h4
  have hk : ∀ p ∈ ([(1, 0), (4, 2), (1, 0)] : List (Nat × Int)), p.1 ≤ 9223372036854775807 ∧ I64 p.2 := by
    intro p hp
    simp only [List.mem_cons, List.not_mem_nil, or_false] at hp
    rcases hp with rfl | rfl | rfl <;> exact ⟨by decide, by decide, by decide⟩
  have hsm := rsame_runs _ _ (w4.alloc (.cells #[.int .i64 1, .int .i64 0, .int .i64 4, .int .i64 2, .int .i64 1, .int .i64 0] 25)) v _ [(1, 0), (4, 2), (1, 0)] [(1, 0), (4, 2), (1, 0)] (h4.alloc _) hlit hk hk (by simp)
  refine hsm.mono ?_
  rintro e w5 ⟨r, rfl, hr, hb5⟩
  obtain rfl : r = true := hr.2 rfl
  have HB5 := boxed (below_step (HB4.out.alloc HB4.out.size (.cells #[.int .i64 1, .int .i64 0, .int .i64 4, .int .i64 2, .int .i64 1, .int .i64 0] 25)) (Nat.le_refl _) hb5)
  clear hsm h4 hlit hk hb5 hr
  go_wp2_with fail
  go_ret
  exact ⟨rfl, HB5.out⟩

def smb (n st : Int) : Bool := decide (0 ≤ n) && decide (n ≤ 500) && stb st
theorem smb_iff (n st : Int) : smb n st = true ↔ (0 ≤ n ∧ n ≤ 500) ∧ 0 ≤ st ∧ st < 32 := by unfold smb stb; simp
set_option maxRecDepth 100000 in
theorem small_any (n st : Int) (w : World) : Calls Try.prog 9 #[.int .i64 n, .int .i64 st] w fun e w' => e = .returned (.bool (smb n st)) ∧ w' = w := by
  have hs := style_any st
  have hun : undef = Value.tuple #[] := rfl
  unfold smb
  by_cases h1 : 0 ≤ n
  · by_cases h2 : n ≤ 500
    · generalize stb st = B at *
      go_enter Try.func9, Try.ntmps9
      go_wp2_with (go_at_call 16; refine (hs _).mono ?_; rintro e w1' ⟨rfl, hw'⟩; subst w1')
      go_ret
      exact ⟨ret_bool (by rw [decide_eq_true h1, decide_eq_true h2]; simp), rfl⟩
    · clear hs
      go_enter Try.func9, Try.ntmps9
      go_wp2
      go_ret
      exact ⟨ret_bool (by rw [decide_eq_false (by omega : ¬ n ≤ 500)]; simp), rfl⟩
  · clear hs
    go_enter Try.func9, Try.ntmps9
    go_wp2
    go_ret
    exact ⟨ret_bool (by rw [decide_eq_false (by omega : ¬ 0 ≤ n)]; simp), rfl⟩
end Go.Proofs.Ytdchpiihjjjpfab
