/-
  What the document's Legal and Start answer; what the statements' para does.
-/
import Derived.Test.YtkmeeblkckfepabGreatEv
import Derived.Test.YtkmeeblkckfepabGreatJe
import Derived.Test.YtkmeeblkckfepabGreatJi
import Derived.Lib.QuietBelow
import Derived.BigQuiet
namespace Go.Proofs.YtkmeeblkckfepabGreat
open Go.RowKit
set_option linter.unusedSimpArgs false
set_option linter.unusedVariables false

set_option maxRecDepth 100000 in
set_option maxHeartbeats 4000000 in
theorem reflegal8_any (S : Nat → Prop) (ao : Option Addr) (n c : Nat) (I : Nat → Itm) (w : World) (h : ItsAt S w ao n I) (hm : n ≤ 262144) :
    Calls Tryz.prog 12 #[.slice ao n c] w fun e w' => ∃ v', e = .returned v' ∧ w'.ownsRow w.heap.size 3 1 v' (lgs I n n).length (ncs (lgs I n n)) ∧ Below w.heap.size w w' := by
  obtain ⟨i0, hi, hz0, hz1, hz2⟩ := info_parts info_int8
  have HH := boxed h
  clear h
  obtain ⟨B, hB⟩ : ∃ B, w.heap.size = B := ⟨_, rfl⟩
  rw [hB]
  go_enter Tryz.func12, Tryz.ntmps12
  go_wp2_with fail
  go_loopw [3, 4] (fun v i wr => ∃ k : Nat, k ≤ n ∧ i = .int .i64 (k : Int) ∧ Box (wr.ownsRow B 3 1 v (lgs I n k).length (ncs (lgs I n k))) ∧ Box (Below B w wr)) (fun _ i _ => n - (intOf i).toNat)
  case atStart => exact ⟨0, Nat.zero_le _, rfl, boxed (World.ownsRow_nil _ _ _ _), boxed (Below.refl _ _)⟩
  case round =>
    obtain ⟨k, hk, rfl, HO, HB⟩ := hrel
    by_cases hlt : k < n
    · have hbs : B ≤ wr.heap.size := by have := HB.out.size; omega
      have hl := reflegal_any S ao n c I wr (HH.out.below (by rw [hB]; exact HB.out)) (by unfold maxLen; omega) k
      have t3 : decide ((k : Int) < (n : Int)) = true := decide_eq_true (by omega)
      have hlen := lgs_len I n k
      have HE := boxed (show lgs I n (k + 1) = if legl I n k = true then lgs I n k ++ [k] else lgs I n k from rfl)
      cases hg : legl I n k
      · rw [hg] at hl HE
        have HE2 : Box (lgs I n (k + 1) = lgs I n k) := boxed (by rw [HE.out]; rfl)
        clear hg HE
        generalize lgs I n k = L at *
        go_wp2_with fail
        refine hl.mono ?_
        rintro e w2 ⟨rfl, hb2⟩
        have HB2 := boxed (HB.out.trans (hb2.mono hbs))
        have HO2 := boxed (owns_below HO.out hb2)
        clear hb2 hl
        go_wp2_with fail
        go_roundw
        case rel => exact ⟨k + 1, by omega, by go_num, by rw [HE2.out]; exact HO2, HB2⟩
        case measure => simp [intOf]; omega
      · rw [hg] at hl HE
        have HE2 : Box (lgs I n (k + 1) = lgs I n k ++ [k]) := boxed (by rw [HE.out]; rfl)
        clear hg HE
        generalize lgs I n k = L at *
        go_wp2_with fail
        refine hl.mono ?_
        rintro e w2 ⟨rfl, hb2⟩
        have HB2 := boxed (HB.out.trans (hb2.mono hbs))
        have hown := owns_below HO.out hb2
        have hbs2 : B ≤ w2.heap.size := Nat.le_trans hbs hb2.size
        clear hb2 hl HO HB
        generalize hM : L.length = M at *
        go_wp2_with (first | (at_builtin; refine wpList_append_own _ rfl _ _ 31 rfl B 3 i0 _ 1 8 Tryz.underlying31 hi hz0 hz1 hz2 rfl (by decide) _ _ _ rfl (hown.alloc _) ⟨w2.heap.size, 0, none⟩ 1 1 [.int .i64 (k : Nat)] rfl rfl ?c1 ?c2 ?c3 ?c4 ?c5 ?_))
        case c1 =>
          intro j u hj
          match j, hj with
          | 0, hj => simp at hj; subst hj; simp [Addr.add]
        case c2 => intro u hu; simp at hu; subst hu; rfl
        case c3 => unfold maxLen; omega
        case c4 => omega
        case c5 => simp; omega
        intro v' w6 hown6 hgrow6 _
        have HO6 := boxed hown6
        have HG6 := boxed (HB2.out.trans (grown_any hown hbs2 hgrow6))
        clear hown6 hgrow6 hown
        go_wp2_with fail
        go_roundw
        case rel => exact ⟨k + 1, by omega, by go_num, boxed (by rw [HE2.out, ncs_app, List.length_append, hM]; exact HO6.out), HG6⟩
        case measure => simp [intOf]; omega
    · have e : k = n := by omega
      subst e
      go_wp2
      go_ret
      exact ⟨_, rfl, HO.out, HB.out⟩
end Go.Proofs.YtkmeeblkckfepabGreat
