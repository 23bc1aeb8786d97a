/-
  What the program's Put answers.
-/
import Derived.Test.YtflhefgmgdgffaaDoorHzf
import Derived.Test.YtflhefgmgdgffaaDoorHzg
namespace Go.Proofs.YtflhefgmgdgffaaDoor
open Go.RowKit Go.Maps
set_option linter.unusedSimpArgs false
set_option linter.unusedVariables false

theorem ba_app (X Y : ByteArray) : (⟨(X.data.toList ++ Y.data.toList).toArray⟩ : ByteArray) = X ++ Y := by
  apply ByteArray.ext
  simp [ByteArray.data_append]
theorem owns_others {w w' : World} {B b n : Nat} {v : Value} {xs : List Value} (h : w.ownsRow B 3 1 v n xs) (hk : Lib.OthersKept 5 (some b) w w') (hb : b < B) : w'.ownsRow B 3 1 v n xs := by
  refine ⟨h.1, ?_⟩
  rcases h.2 with h2 | ⟨g, cap, cur, e, hB, hh, r⟩
  · exact .inl h2
  · exact .inr ⟨g, cap, cur, e, hB, hk g _ hh (by intro c; injection c; omega) (by intro c fz e; injection e with _ e; cases e), r⟩
theorem cells_soft : Lib.runeCells 173 = Lib.byteCells soft.data.toList := by rfl
theorem cells_pw (s : ByteArray) (P : List Nat) (k : Nat) : Lib.byteCells (pw s P (k + 1)).data.toList = Lib.byteCells (pw s P k).data.toList ++ Lib.strCells (s.extract (fr P k) (P.getD k 0)) ++ Lib.runeCells 173 := by
  rw [cells_soft]
  show Lib.byteCells (pw s P k ++ s.extract (fr P k) (P.getD k 0) ++ soft).data.toList = _
  rw [ByteArray.data_append, ByteArray.data_append, Array.toList_append, Array.toList_append, Lib.byteCells_append, Lib.byteCells_append]
  rfl
theorem cells_len (X : ByteArray) : (Lib.byteCells X.data.toList).length = X.size := by rw [Lib.byteCells_length, Array.length_toList]; rfl
set_option maxRecDepth 100000 in
set_option maxHeartbeats 8000000 in
theorem put_any (w : World) (bp eb lb wb l r : Nat) (Nd : List (List Nat)) (Z Y : ZL) (s : ByteArray) (h : BkAt w bp eb lb wb l r Nd Z Y) (hs : s.size ≤ 1048576) (hl : l ≤ 100) (hr : r ≤ 100) :
    Calls Tryd.prog 8 #[.pointer (some ⟨bp, 0, none⟩), .string s] w fun e w' => (∃ out, PlcP (zQ Z) (zQ Y) l r s out ∧ e = .returned (.string (put17 s out))) ∧ Below w.heap.size w w' := by
  have l0 := laid1 w (.cells #[.pointer none, .slice none 0 0] 45)
  have HB0 := boxed l0.2.1
  have HX0 := boxed l0.1
  have hpl := places_any (w.alloc (.cells #[.pointer none, .slice none 0 0] 45)) bp eb lb wb l r Nd Z Y s (h.below l0.2.1) hs hl hr
  clear l0 h
  go_enter Tryd.func8, Tryd.ntmps8
  go_wp2_with fail
  refine hpl.mono ?_
  rintro e w1 ⟨out, v, rfl, ho, hp, hb1⟩
  have HB1 : Box (Below w.heap.size w w1) := boxed (HB0.out.trans (hb1.mono HB0.out.size))
  have HX1 : Box (w1.heap[w.heap.size]? = some (.cells #[.pointer none, .slice none 0 0] 45 (0, 0))) := boxed ((hb1.block _ (by simp)).trans HX0.out)
  have HI1 : Box (Lib.IsBuilderF 45 5 w.heap.size w.heap.size (Lib.byteCells (pw s out 0).data.toList) w1) := boxed (.inl ⟨Nat.le_refl _, .slice none 0 0, HX1.out, World.ownsRowF_nil _ _ _ _, by simp [Value.ownBlock]⟩)
  have HP := boxed hp
  have HRS := boxed hp.rise
  have hnl := hp.len
  have HO : Box (w1.ownsRow (w.heap.size + 1) 3 1 v out.length (vals out)) := boxed (by simpa using ho)
  obtain ⟨n, hn⟩ : ∃ n, out.length = n := ⟨_, rfl⟩
  have HN := boxed hn
  rw [hn] at HO hnl
  clear hpl hb1 hp ho HX1 HX0 HB0 hn
  obtain ⟨po, pc, rfl⟩ := own_shape HO.out
  go_wp2_with fail
  go_loopw [6, 13] (fun vf vk wr => ∃ k : Nat, k ≤ n ∧ vf = .int .i64 ((fr out k : Nat) : Int) ∧ vk = .int .i64 (k : Int) ∧ Box (Lib.IsBuilderF 45 5 w.heap.size w.heap.size (Lib.byteCells (pw s out k).data.toList) wr) ∧ Box (wr.ownsRow (w.heap.size + 1) 3 1 (.slice po n pc) n (vals out)) ∧ Box (Below w.heap.size w wr)) (fun _ vk _ => n - (intOf vk).toNat)
  case atStart => exact ⟨0, Nat.zero_le _, rfl, rfl, HI1, HO, HB1⟩
  case round =>
    clear HI1 HO HB1
    obtain ⟨k, hk, rfl, rfl, HI, HO, HB⟩ := hrel
    have hpz := pw_size HRS.out k (by rw [HN.out]; exact hk)
    have HCL := boxed (cells_len (pw s out k))
    have hbz := HB.out.size
    by_cases hlt : k < n
    · obtain ⟨gp, pc', e1, -, hcl, -⟩ := own_cell HO.out k hlt
      injection e1 with e1 e2 e3
      subst e1
      clear e2 e3
      rw [vals_get _ _ (by rw [HN.out]; exact hlt)] at hcl
      have hfl := fr_le HRS.out k (by rw [HN.out]; exact hlt)
      have HFN : Box (fr out (k + 1) = out.getD k 0) := boxed rfl
      have HCP := boxed (cells_pw s out k)
      have hki : (k : Int) < (n : Int) := by omega
      generalize fr out k = F at *
      generalize out.getD k 0 = A at *
      have hct := fun W => str_cut s F A hfl.1 hfl.2 W
      have hxz : (s.extract F A).size = A - F := by rw [ByteArray.size_extract]; omega
      generalize s.extract F A = X at *
      have hws := Tryd.bld_WriteString w.heap.size w.heap.size _ X wr HI.out (by rw [HCL.out]; omega) hbz
      go_wp2_with fail
      refine hws.mono ?_
      rintro e w2 ⟨rfl, hI2, hb2, hk2⟩
      have HB2 : Box (Below w.heap.size w w2) := boxed (HB.out.trans hb2)
      have HO2 := boxed (owns_others HO.out hk2 (by omega))
      have hwr := Tryd.bld_WriteRune w.heap.size w.heap.size _ 173 (by decide) (by decide) w2 (.inr hI2) (by rw [List.length_append, HCL.out, Lib.strCells_length]; omega) HB2.out.size
      clear hI2 hb2 hk2 hws HI HO HB hcl
      go_wp2_with fail
      refine hwr.mono ?_
      rintro e w3 ⟨rfl, hI3, hb3, hk3⟩
      have HB3 : Box (Below w.heap.size w w3) := boxed (HB2.out.trans hb3)
      have HO3 := boxed (owns_others HO2.out hk3 (by omega))
      have HI3 : Box (Lib.IsBuilderF 45 5 w.heap.size w.heap.size (Lib.byteCells (pw s out (k + 1)).data.toList) w3) := boxed (by rw [HCP.out]; exact .inr hI3)
      clear hI3 hb3 hk3 hwr HO2 HB2
      go_wp2_with fail
      go_roundw
      case rel => exact ⟨k + 1, by omega, by rw [HFN.out], by go_num, HI3, HO3, HB3⟩
      case measure => simp [intOf]; omega
    · have e : n = k := by omega
      subst e
      have hfe := fr_end HRS.out n (by rw [HN.out]; exact Nat.le_refl _)
      have HPE : Box (pw s out n ++ s.extract (fr out n) s.size = put17 s out) := boxed (by unfold put17; rw [HN.out])
      have HBC : Box (Lib.byteCells (pw s out n).data.toList ++ Lib.strCells (s.extract (fr out n) s.size) = Lib.byteCells ((pw s out n).data.toList ++ (s.extract (fr out n) s.size).data.toList)) := boxed (by rw [Lib.byteCells_append]; rfl)
      generalize fr out n = F at *
      have hct : ∀ W, (Instr.slice 9 (.string s) (some (.int .i64 (F : Int))) none none).run Tryd.prog W = .ok (.string (s.extract F s.size)) W := fun W => by
        have := run_slice_string_l (P := Tryd.prog) (w := W) (t := 9) (s := s) Tryd.underlying9 .i64 (F : Int) (by omega) (by omega)
        simpa using this
      have hxz : (s.extract F s.size).size = s.size - F := by rw [ByteArray.size_extract]; omega
      generalize s.extract F s.size = X at *
      have hws := Tryd.bld_WriteString w.heap.size w.heap.size _ X wr HI.out (by rw [HCL.out]; omega) hbz
      go_wp2_with fail
      refine hws.mono ?_
      rintro e w2 ⟨rfl, hI2, hb2, hk2⟩
      have HB2 : Box (Below w.heap.size w w2) := boxed (HB.out.trans hb2)
      rw [HBC.out] at hI2
      have hst := Tryd.bld_String w.heap.size w.heap.size _ w2 (.inr hI2) HB2.out.size
      clear hI2 hb2 hk2 hws HI HO HB
      go_wp2_with fail
      refine hst.mono ?_
      rintro e w3 ⟨rfl, -, hb3, -⟩
      have HB3 : Box (Below w.heap.size w w3) := boxed (HB2.out.trans hb3)
      have HOUT : Box ((⟨((pw s out n).data.toList ++ X.data.toList).toArray⟩ : ByteArray) = put17 s out) := boxed (by rw [ba_app]; exact HPE.out)
      clear hst hb3
      generalize (pw s out n).data.toList ++ X.data.toList = LL at *
      go_wp2_with fail
      go_ret
      exact ⟨⟨out, HP.out, congrArg (fun z => Ending.returned (Value.string z)) HOUT.out⟩, HB3.out⟩
end Go.Proofs.YtflhefgmgdgffaaDoor
