/-
  What the document's Runs answers.
-/
import Derived.Test.YtdchpiihjjjpfaaLo
namespace Go.Proofs.Ytdchpiihjjjpfaa
open Go.RowKit
set_option linter.unusedSimpArgs false
set_option linter.unusedVariables false

theorem take_one (s : List Int) (i : Nat) (h : i < s.length) : s.take (i + 1) = s.take i ++ List.replicate 1 (s.getD i 0) := by
  rw [List.take_succ_eq_append_getElem h]
  simp [List.getD, h]

set_option maxRecDepth 100000 in
set_option maxHeartbeats 4000000 in
theorem rruns_any (w : World) (b off c : Nat) (s : List Int) (hc : ∀ i, i < s.length → w.cell? ⟨b, off + i, none⟩ = some (.int .i64 (s.getD i 0))) (hl : s.length ≤ 65536) (hs : Sok s) :
    Calls Try.prog 15 #[.slice (some ⟨b, off, none⟩) s.length c] w fun e w' => ∃ v, e = .returned v ∧ w'.ownsRow w.heap.size 58 2 v (enc s).length (rcs (enc s)) ∧ Below w.heap.size w w' := by
  obtain ⟨i0, hi, hi0, hi1, hi2⟩ := info_parts info_run
  have HC := boxed hc
  have HS := boxed hs
  clear hc hs
  go_enter Try.func15, Try.ntmps15
  go_wp2_with fail
  go_loopw [3, 4] (fun vo vi wr => ∃ (i : Nat) (ao : Option Addr) (cp : Nat), i ≤ s.length ∧ vi = .int .i64 (i : Nat) ∧ vo = .slice ao (enc (s.take i)).length cp ∧ Box (wr.ownsRow w.heap.size 58 2 (.slice ao (enc (s.take i)).length cp) (enc (s.take i)).length (rcs (enc (s.take i)))) ∧ Box (Below w.heap.size w wr)) (fun _ vi _ => s.length - (intOf vi).toNat)
  case atStart => exact ⟨0, none, 0, Nat.zero_le _, rfl, rfl, boxed (World.ownsRow_nil _ _ _ _), boxed (Below.refl _ _)⟩
  case round =>
    obtain ⟨i, ao, cp, hin, rfl, rfl, HO, HB⟩ := hrel
    by_cases hlt : i < s.length
    · have hci := hold HB.out (HC.out i hlt)
      have HT := boxed (take_one s i hlt)
      have hen := enc_len (s.take i)
      have htl : (s.take i).length = i := by simp; omega
      rw [htl] at hen
      have hun : undef = Value.tuple #[] := rfl
      generalize s.getD i 0 = y at *
      by_cases c1 : (enc (s.take i)).length = 0
      · have e1 : s.take i = [] := List.length_eq_zero_iff.1 ((enc_nil _).1 c1)
        rw [c1]
        have HO : Box (wr.ownsRow w.heap.size 58 2 (.slice ao 0 cp) 0 []) := boxed (by have := HO.out; rw [e1] at this; exact this)
        have HN : Box ((enc (s.take (i + 1))).length = 0 + 1 ∧ rcs (enc (s.take (i + 1))) = [] ++ [.int .i64 1, .int .i64 y]) := boxed (by rw [HT.out, e1, List.nil_append, enc_add_nil 1 y (by omega)]; simp [rcs])
        clear c1 e1 HT hen htl
        go_wp2_with fail
        go_quiet (fail)
        clear hun
        have HB7 : Box (Below w.heap.size w (wr.drewN nq)) := boxed (HB.out.trans (bel_drewN _ _ _))
        have hown7 : (wr.drewN nq).ownsRow _ _ _ _ _ _ := HO.out
        have hci7 : (wr.drewN nq).cell? _ = _ := hci
        have hz7 : w.heap.size ≤ (wr.drewN nq).heap.size := HB7.out.size
        generalize wr.drewN nq = w7 at *
        go_wp2_with (at_builtin; refine wpList_append_own _ rfl _ _ 33 rfl w.heap.size 58 i0 _ 2 16 Try.underlying33 hi hi0 hi1 hi2 rfl (by decide) _ _ _ rfl (hown7.alloc _) ⟨w7.heap.size, 0, none⟩ 1 1 [.int .i64 1, .int .i64 y] rfl rfl ?c1 ?c2 ?c3 ?c4 ?c5 ?_)
        case c1 =>
          intro j u hj
          match j, hj with
          | 0, hj => simp at hj; subst hj; simp [Addr.add]
          | 1, hj => simp at hj; subst hj; simp [Addr.add]
        case c2 => intro u hu; simp at hu; rcases hu with rfl | rfl <;> rfl
        case c3 => unfold maxLen; omega
        case c4 => omega
        case c5 => simp; omega
        intro v' w6 hown6 hgrow6 _
        have HB6 : Box (Below w.heap.size w w6) := boxed ((HB7.out.alloc hz7 _).grown hgrow6 (by simp; omega) (fun r e => (owns_ge hown7 r e)))
        have HO6 : Box (w6.ownsRow w.heap.size 58 2 v' (enc (s.take (i + 1))).length (rcs (enc (s.take (i + 1))))) := boxed (by rw [HN.out.1, HN.out.2]; exact hown6)
        obtain ⟨ao6, cp6, rfl⟩ : ∃ ao6 cp6, v' = .slice ao6 (enc (s.take (i + 1))).length cp6 := by
          rcases ownsRow_forms HO6.out with ⟨g1, g2⟩ | ⟨g, cap, g1⟩
          · exact ⟨none, 0, by rw [g2]; exact g1⟩
          · exact ⟨_, _, g1⟩
        clear hown6 hgrow6 hown7 HN HB7
        go_wp2_with fail
        go_roundw
        case rel => exact ⟨i + 1, ao6, cp6, by omega, by go_num, rfl, HO6, HB6⟩
        case measure => simp [intOf]; omega
      · obtain ⟨R0, ⟨l0, z⟩, hR⟩ := snoc_of (enc (s.take i)) (by omega)
        have hn : (enc (s.take i)).length = R0.length + 1 := by rw [hR]; simp
        have hrc : rcs (enc (s.take i)) = rcs R0 ++ [.int .i64 (l0 : Nat), .int .i64 z] := by rw [hR, rcs_app]; simp [rcs]
        have hpl := rcs_len R0
        have hmb : R0.length ≤ 65536 := by omega
        obtain ⟨g, hg⟩ : ∃ g, ao = some ⟨g, 0, none⟩ := by
          obtain ⟨g, cap', e⟩ := ownsRow_form HO.out (by omega)
          injection e with e1 e2 e3
          exact ⟨g, e1⟩
        subst hg
        have hown := HO.out
        rw [hn, hrc] at hown
        have hlast : (rcs R0 ++ [Value.int .i64 (l0 : Nat), Value.int .i64 z])[R0.length * 2 + 1]? = some (.int .i64 z) := by
          rw [List.getElem?_append_right (by omega), hpl]; simp
        have hlast0 : (rcs R0 ++ [Value.int .i64 (l0 : Nat), Value.int .i64 z])[R0.length * 2]? = some (.int .i64 (l0 : Nat)) := by
          rw [List.getElem?_append_right (by omega), hpl]; simp
        have hx1 := hown.cellAt (R0.length * 2 + 1) (by omega)
        have hx0 := hown.cellAt (R0.length * 2) (by omega)
        rw [hlast] at hx1
        rw [hlast0] at hx0
        have hf0 := hown.frozenAt (R0.length * 2)
        have HO := boxed hown
        have hsm : sm R0 + l0 = i := by have := sm_enc (s.take i); rw [hR, sm_app, htl] at this; simpa [sm] using this
        rw [hn]
        by_cases c2 : z = y
        · subst c2
          have HN : Box ((enc (s.take (i + 1))).length = R0.length + 1 ∧ rcs (enc (s.take (i + 1))) = (rcs R0 ++ [Value.int .i64 (l0 : Nat), Value.int .i64 z]).set (R0.length * 2) (.int .i64 ((l0 + 1 : Nat) : Int))) := boxed (by
            rw [HT.out, enc_add_like _ R0 l0 1 z hR]
            refine ⟨by simp, ?_⟩
            rw [List.set_append_right _ _ (by omega), hpl, rcs_app]
            simp [rcs])
          clear hown hlast hlast0 hR hrc hn c1
          generalize R0.length = m at *
          have hwm : IntKind.i64.wrap ((m : Int) + 1 - 1) = (m : Int) := by rw [IntKind.wrap_i64]; omega
          have t0 : decide ((0 : Int) < (m : Int) + 1) = true := decide_eq_true (by omega)
          go_wp2_with fail
          go_quiet (fail)
          clear hun
          have HB7 : Box (Below w.heap.size w (wr.drewN nq)) := boxed (HB.out.trans (bel_drewN _ _ _))
          have HO7 : Box ((wr.drewN nq).ownsRow _ _ _ _ _ _) := boxed HO.out
          have dx0 : (wr.drewN nq).cell? ⟨g, m * 2, none⟩ = some (.int .i64 (l0 : Nat)) := hx0
          have df0 : (wr.drewN nq).frozen? ⟨g, m * 2, none⟩ = false := hf0
          generalize wr.drewN nq = w7 at *
          have hgB := (HO7.out.lt g rfl).1
          have HO8 : Box ((w7.setCell ⟨g, m * 2, none⟩ (.int .i64 ((l0 : Int) + 1))).ownsRow w.heap.size 58 2 (.slice (some ⟨g, 0, none⟩) (m + 1) cp) (enc (s.take (i + 1))).length (rcs (enc (s.take (i + 1))))) := boxed (by
            rw [HN.out.1, HN.out.2]
            have := (HO7.out.stored (m * 2) (.int .i64 ((l0 + 1 : Nat) : Int))).1
            simpa using this)
          have HN1 : Box ((enc (s.take (i + 1))).length = m + 1) := boxed HN.out.1
          have HO8' : Box ((w7.setCell ⟨g, m * 2, none⟩ (.int .i64 ((l0 : Int) + 1))).ownsRow w.heap.size 58 2 (.slice (some ⟨g, 0, none⟩) (m + 1) cp) (m + 1) (rcs (enc (s.take (i + 1))))) := boxed (by have := HO8.out; rw [HN1.out] at this; exact this)
          have HB8 : Box (Below w.heap.size w (w7.setCell ⟨g, m * 2, none⟩ (.int .i64 ((l0 : Int) + 1)))) := boxed (HB7.out.setCell (p := ⟨g, m * 2, none⟩) hgB _)
          clear HN HO7 HB7
          go_wp2_with fail
          go_roundw
          case rel => exact ⟨i + 1, some ⟨g, 0, none⟩, cp, by omega, by go_num, by rw [HN1.out], by rw [HN1.out]; exact HO8', HB8⟩
          case measure => simp [intOf]; omega
        · have HN : Box ((enc (s.take (i + 1))).length = R0.length + 1 + 1 ∧ rcs (enc (s.take (i + 1))) = rcs R0 ++ [Value.int .i64 (l0 : Nat), Value.int .i64 z, .int .i64 1, .int .i64 y]) := boxed (by
            rw [HT.out, enc_add_new _ 1 y (by omega) (by rw [hR]; simp; exact c2), hR]
            refine ⟨by simp, ?_⟩
            rw [rcs_app, rcs_app]
            simp [rcs])
          have tz : (z == y) = false := by simpa using c2
          clear hown hlast hlast0 hR hrc hn c1 c2
          generalize R0.length = m at *
          have hwm : IntKind.i64.wrap ((m : Int) + 1 - 1) = (m : Int) := by rw [IntKind.wrap_i64]; omega
          have t0 : decide ((0 : Int) < (m : Int) + 1) = true := decide_eq_true (by omega)
          go_wp2_with fail
          go_quiet (fail)
          clear hun
          have HB7 : Box (Below w.heap.size w (wr.drewN nq)) := boxed (HB.out.trans (bel_drewN _ _ _))
          have hown7 : (wr.drewN nq).ownsRow _ _ _ _ _ _ := HO.out
          have hci7 : (wr.drewN nq).cell? _ = _ := hci
          have hz7 : w.heap.size ≤ (wr.drewN nq).heap.size := HB7.out.size
          generalize wr.drewN nq = w7 at *
          go_wp2_with (at_builtin; refine wpList_append_own _ rfl _ _ 33 rfl w.heap.size 58 i0 _ 2 16 Try.underlying33 hi hi0 hi1 hi2 rfl (by decide) _ _ _ rfl (hown7.alloc _) ⟨w7.heap.size, 0, none⟩ 1 1 [.int .i64 1, .int .i64 y] rfl rfl ?c1 ?c2 ?c3 ?c4 ?c5 ?_)
          case c1 =>
            intro j u hj
            match j, hj with
            | 0, hj => simp at hj; subst hj; simp [Addr.add]
            | 1, hj => simp at hj; subst hj; simp [Addr.add]
          case c2 => intro u hu; simp at hu; rcases hu with rfl | rfl <;> rfl
          case c3 => unfold maxLen; omega
          case c4 => omega
          case c5 => simp; omega
          intro v' w6 hown6 hgrow6 _
          have HB6 : Box (Below w.heap.size w w6) := boxed ((HB7.out.alloc hz7 _).grown hgrow6 (by simp; omega) (fun r e => (owns_ge hown7 r e)))
          have HO6 : Box (w6.ownsRow w.heap.size 58 2 v' (enc (s.take (i + 1))).length (rcs (enc (s.take (i + 1))))) := boxed (by rw [HN.out.1, HN.out.2]; exact hown6)
          obtain ⟨ao6, cp6, rfl⟩ : ∃ ao6 cp6, v' = .slice ao6 (enc (s.take (i + 1))).length cp6 := by
            rcases ownsRow_forms HO6.out with ⟨g1, g2⟩ | ⟨g, cap, g1⟩
            · exact ⟨none, 0, by rw [g2]; exact g1⟩
            · exact ⟨_, _, g1⟩
          clear hown6 hgrow6 hown7 HN HB7
          go_wp2_with fail
          go_roundw
          case rel => exact ⟨i + 1, ao6, cp6, by omega, by go_num, rfl, HO6, HB6⟩
          case measure => simp [intOf]; omega
    · obtain rfl : i = s.length := by omega
      have hown := HO.out
      rw [List.take_length] at hown
      have HO2 := boxed hown
      clear hown
      go_wp2_with fail
      go_ret
      exact ⟨.slice ao (enc s).length cp, by show Ending.returned (.slice ao (enc (s.take s.length)).length cp) = _; rw [List.take_length], HO2.out, HB.out⟩
end Go.Proofs.Ytdchpiihjjjpfaa
