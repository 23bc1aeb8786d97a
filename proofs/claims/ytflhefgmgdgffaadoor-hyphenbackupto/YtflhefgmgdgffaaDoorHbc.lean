/-
  What the program's Strip answers: by the library's Split and Builder.
-/
import Derived.Test.YtflhefgmgdgffaaDoorHbb
import Derived.Test.YtflhefgmgdgffaaDoorHzh
namespace Go.Proofs.YtflhefgmgdgffaaDoor
open Go.RowKit Go.Maps
set_option linter.unusedSimpArgs false
set_option linter.unusedVariables false

theorem splitK_len : ∀ (k : Nat) (l : List UInt8), (Lib.splitK sfL 0 k l).flatten.length ≤ l.length := by
  intro k
  induction k with
  | zero => intro l; simp [Lib.splitK]
  | succ k ih =>
    intro l
    unfold Lib.splitK
    split
    · simp
    · have := ih (l.drop ((Lib.index l sfL).toNat + sfL.length))
      rw [List.length_drop] at this
      rw [List.flatten_cons, List.length_append, List.length_take]
      have : sfL.length = 2 := rfl
      omega
/-- The parts of a text between its soft hyphens. -/
def parts (s : ByteArray) : List ByteArray := Lib.splitB soft 0 (Lib.countB s soft) s
def cat (P : List ByteArray) : List UInt8 := P.flatMap fun x => x.data.toList
theorem cat_parts (s : ByteArray) : cat (parts s) = stpL s.data.toList := by
  unfold cat parts stpL
  rw [List.flatMap_def, Lib.splitB_data]
  rfl
theorem parts_len (s : ByteArray) : (parts s).length = Lib.countB s soft + 1 := Lib.splitB_all soft (by decide) 0 _ s rfl
theorem cat_le (s : ByteArray) (k : Nat) (hk : k < (parts s).length) : (cat ((parts s).take k)).length + ((parts s).getD k ByteArray.empty).size ≤ s.size ∧ cat ((parts s).take (k + 1)) = cat ((parts s).take k) ++ ((parts s).getD k ByteArray.empty).data.toList := by
  have e : (parts s).take (k + 1) = (parts s).take k ++ [(parts s).getD k ByteArray.empty] := by
    rw [List.take_add_one, List.getElem?_eq_getElem hk, List.getD_eq_getElem?_getD, List.getElem?_eq_getElem hk]; rfl
  have e2 : cat ((parts s).take (k + 1)) = cat ((parts s).take k) ++ ((parts s).getD k ByteArray.empty).data.toList := by
    rw [e]; unfold cat; simp
  refine ⟨?_, e2⟩
  have h1 : (cat (parts s)).length ≤ s.size := by
    rw [cat_parts]
    have := splitK_len (Lib.count s.data.toList sfL) s.data.toList
    unfold stpL
    rw [Array.length_toList] at this
    exact this
  have h2 : cat (parts s) = cat ((parts s).take (k + 1)) ++ cat ((parts s).drop (k + 1)) := by
    unfold cat; rw [← List.flatMap_append, List.take_append_drop]
  rw [h2, e2, List.length_append, List.length_append] at h1
  have h3 : (((parts s).getD k ByteArray.empty).data.toList).length = ((parts s).getD k ByteArray.empty).size := Array.length_toList
  omega
theorem countB_small (s : ByteArray) : Lib.countB s soft ≤ s.size := Lib.countB_le soft (by decide) s.size s (Nat.le_refl _)
set_option maxRecDepth 100000 in
set_option maxHeartbeats 4000000 in
theorem strip_any (s : ByteArray) (w : World) (mx : Int) (hm : w.cell? ⟨0, 0, none⟩ = some (.int .i64 mx)) (hs : s.size ≤ 1048576) :
    Calls Tryd.prog 7 #[.string s] w fun e w' => e = .returned (.string (stpT s)) ∧ Below w.heap.size w w' := by
  have l0 := laid1 w (.cells #[.pointer none, .slice none 0 0] 45)
  have hsp := Tryd.strings_Split s soft mx (w.alloc (.cells #[.pointer none, .slice none 0 0] 45)) (by omega) (hold l0.2.1 hm) (by decide)
  have HB0 := boxed l0.2.1
  have HX0 := boxed l0.1
  have HZ0 := boxed l0.2.2
  have hcs := countB_small s
  have hpl := parts_len s
  have HCL := boxed (fun k hk => cat_le s k hk)
  have HCP := boxed (cat_parts s)
  have hpd : Lib.splitB soft 0 (Lib.countB s soft) s = parts s := rfl
  rw [hpd] at hsp
  have HST : Box ((⟨(cat (parts s)).toArray⟩ : ByteArray) = stpT s) := boxed (by rw [cat_parts]; rfl)
  obtain ⟨n, hn⟩ : ∃ n, Lib.countB s soft + 1 = n := ⟨_, rfl⟩
  rw [hn] at hsp hpl
  have hnb : n ≤ 1048577 := by omega
  have HPL := boxed hpl
  generalize parts s = P at *
  clear hpd hn hcs l0 hm HCP hpl
  unfold soft at hsp
  go_enter Tryd.func7, Tryd.ntmps7
  go_wp2_with fail
  refine hsp.mono ?_
  rintro e w1 ⟨rfl, hw1⟩
  have hw0 := HZ0.out
  have HX1 : Box (w1.heap[w.heap.size]? = some (.cells #[.pointer none, .slice none 0 0] 45 (0, 0))) := boxed (by rw [hw1, Below.heap_alloc _ _ _ (by omega)]; exact HX0.out)
  have HY1 : Box (w1.heap[w.heap.size + 1]? = some (.cells (P.map Value.string).toArray 9 (0, 0))) := boxed (by
    have := heap_alloc_new (w.alloc (.cells #[.pointer none, .slice none 0 0] 45)) (.cells (P.map Value.string).toArray 9)
    rw [hw0] at this
    rw [hw1]; exact this)
  have HB1 : Box (Below w.heap.size w w1) := boxed (by rw [hw1]; exact HB0.out.alloc HB0.out.size _)
  have HI1 : Box (Lib.IsBuilderF 45 5 w.heap.size w.heap.size (Lib.byteCells (cat (P.take 0))) w1) := boxed (.inl ⟨Nat.le_refl _, .slice none 0 0, HX1.out, World.ownsRowF_nil _ _ _ _, by simp [Value.ownBlock]⟩)
  clear hw1 HX1 HX0 HB0 hsp HZ0
  rw [hw0]
  clear hw0
  go_wp2_with fail
  go_loopw [9] (fun vk wr => ∃ k : Nat, k ≤ n ∧ vk = .int .i64 (k : Int) ∧ Box (Lib.IsBuilderF 45 5 w.heap.size w.heap.size (Lib.byteCells (cat (P.take k))) wr) ∧ Box (wr.heap[w.heap.size + 1]? = some (.cells (P.map Value.string).toArray 9 (0, 0))) ∧ Box (Below w.heap.size w wr)) (fun vk _ => n - (intOf vk).toNat)
  case atStart => exact ⟨0, Nat.zero_le _, rfl, HI1, HY1, HB1⟩
  case round =>
    clear HI1 HY1 HB1
    obtain ⟨k, hk, rfl, HI, HY, HB⟩ := hrel
    have hbz := HB.out.size
    by_cases hlt : k < n
    · have hcl : wr.cell? ⟨w.heap.size + 1, k, none⟩ = some (.string (P.getD k ByteArray.empty)) := by
        have hh : k < P.length := by rw [HPL.out]; exact hlt
        rw [cell_of_row _ _ _ _ _ _ HY.out]
        simp [List.getD_eq_getElem?_getD, hh]
      obtain ⟨hc1, hc2⟩ := HCL.out k (by rw [HPL.out]; exact hlt)
      have HC2 := boxed hc2
      have hki : (k : Int) < (n : Int) := by omega
      clear hc2
      generalize P.getD k ByteArray.empty = X at *
      have hws := Tryd.bld_WriteString w.heap.size w.heap.size _ X wr HI.out (by rw [Lib.byteCells_length]; omega) hbz
      go_wp2_with fail
      refine hws.mono ?_
      rintro e w2 ⟨rfl, hI2, hb2, hk2⟩
      have HB2 : Box (Below w.heap.size w w2) := boxed (HB.out.trans hb2)
      have HY2 := boxed (hk2 _ _ HY.out (by intro c; injection c with c; omega) (by intro c fz e; injection e with _ e; cases e))
      have HI2 : Box (Lib.IsBuilderF 45 5 w.heap.size w.heap.size (Lib.byteCells (cat (P.take (k + 1)))) w2) := boxed (by
        rw [HC2.out, Lib.byteCells_append]
        exact .inr hI2)
      clear hI2 hb2 hk2 hws HI HY HB hcl hc1
      go_wp2_with fail
      go_roundw
      case rel => exact ⟨k + 1, by omega, by go_num, HI2, HY2, HB2⟩
      case measure => simp [intOf]; omega
    · have e : n = k := by omega
      subst e
      have hst := Tryd.bld_String w.heap.size w.heap.size _ wr HI.out hbz
      have HFL : Box ((⟨(cat (P.take n)).toArray⟩ : ByteArray) = stpT s) := boxed (by rw [List.take_of_length_le (by rw [HPL.out]; exact Nat.le_refl _)]; exact HST.out)
      clear HI HY
      generalize cat (P.take n) = LL at *
      go_wp2_with fail
      refine hst.mono ?_
      rintro e w3 ⟨rfl, -, hb3, -⟩
      have HB3 : Box (Below w.heap.size w w3) := boxed (HB.out.trans hb3)
      clear hst hb3
      go_wp2_with fail
      go_ret
      exact ⟨congrArg (fun z => Ending.returned (Value.string z)) HFL.out, HB3.out⟩
end Go.Proofs.YtflhefgmgdgffaaDoor
