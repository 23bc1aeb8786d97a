/-
  The statements' book; the book's Size; are numbers alike.
-/
import Derived.Test.YtflhefgmgdgffaaDoorHyx
namespace Go.Proofs.YtflhefgmgdgffaaDoor
open Go.RowKit Go.Maps
set_option linter.unusedSimpArgs false
set_option linter.unusedVariables false

set_option maxRecDepth 100000 in
theorem booksize_any (w : World) (bp eb lb wb l r : Nat) (Nd : List (List Nat)) (Z Y : ZL) (h : BkAt w bp eb lb wb l r Nd Z Y) :
    Calls Tryd.prog 12 #[.pointer (some ⟨bp, 0, none⟩)] w fun e w' => (∃ k : Nat, k ≤ 1000000 ∧ e = .returned (.int .i64 ((k : Int) + 1))) ∧ Below w.heap.size w w' := by
  have hsm := h.small
  have hed := h.tr.edges
  have hs := size17_any w eb (.map (some lb)) _ _ hed (by omega)
  have k2 : w.cell? ⟨bp, 2, none⟩ = some (.map (some eb)) := by rw [cell_of_row _ _ _ _ _ _ h.box]; rfl
  have k3 : w.cell? ⟨bp, 3, none⟩ = some (.map (some lb)) := by rw [cell_of_row _ _ _ _ _ _ h.box]; rfl
  obtain ⟨k, hk⟩ : ∃ k, Nd.length - 1 = k := ⟨_, rfl⟩
  rw [hk] at hs
  have hk2 : k ≤ 1000000 := by omega
  clear h hed hk hsm
  go_enter Tryd.func12, Tryd.ntmps12
  go_wp2_with fail
  refine hs.mono ?_
  rintro e w1 ⟨rfl, hb⟩
  clear hs
  go_wp2
  go_ret
  exact ⟨⟨k, hk2, rfl⟩, hb⟩
/-- Are the lists right, and tried? -/
def Good (S T : Nat → ByteArray) (n m : Nat) (l r : Int) : Prop := (n ≤ 60 ∧ m ≤ 30) ∧ (mayL l && mayL r) = true ∧ (∀ j, j < n → patT (S j) ≠ none) ∧ ∀ j, j < m → wordT (T j) ≠ none
/-- The statements' book. -/
def BookP (S T : Nat → ByteArray) (n m : Nat) (l r : Int) (e : Ending) (w' : World) : Prop :=
  (¬ Good S T n m l r ∧ e = .returned (.pointer none)) ∨
  (Good S T n m l r ∧ ∃ bp eb lb wb Nd Z Y, e = .returned (.pointer (some ⟨bp, 0, none⟩)) ∧ BkAt w' bp eb lb wb l.toNat r.toNat Nd Z Y ∧ zQ Z = qS S n ∧ zQ Y = yS T m)
theorem BookP.below {S T : Nat → ByteArray} {n m : Nat} {l r : Int} {e : Ending} {w w' : World} (h : BookP S T n m l r e w) (hb : Below w.heap.size w w') : BookP S T n m l r e w' := by
  rcases h with h | ⟨h1, bp, eb, lb, wb, Nd, Z, Y, h2, h3, h4⟩
  · exact .inl h
  · exact .inr ⟨h1, bp, eb, lb, wb, Nd, Z, Y, h2, h3.below hb, h4⟩
set_option maxRecDepth 100000 in
set_option maxHeartbeats 4000000 in
theorem book17_any (w : World) (ao ao' : Option Addr) (n m cap cap' : Nat) (S T : Nat → ByteArray) (l r : Int) (hS : StrsAt w ao n S) (hT : StrsAt w ao' m T) (hn : n ≤ maxLen) (hm : m ≤ maxLen) :
    Calls Tryd.prog 5 #[listsV ao n cap ao' m cap' l r] w fun e w' => BookP S T n m l r e w' ∧ Below w.heap.size w w' := by
  unfold listsV
  unfold maxLen at hn hm
  have l1 := laid1 w (.cells #[.slice ao n cap, .slice ao' m cap', .int .i64 l, .int .i64 r] 24)
  obtain ⟨W1, hW1⟩ : ∃ W1, w.alloc (.cells #[.slice ao n cap, .slice ao' m cap', .int .i64 l, .int .i64 r] 24) = W1 := ⟨_, rfl⟩
  rw [hW1] at l1
  have HB1 := boxed l1.2.1
  have HX := boxed l1.1
  have HS := boxed (hS.below l1.2.1)
  have HT := boxed (hT.below l1.2.1)
  have c0 : W1.cell? ⟨w.heap.size, 0, none⟩ = some (.slice ao n cap) := by rw [cell_of_row _ _ _ _ _ _ l1.1]; rfl
  have c1 : W1.cell? ⟨w.heap.size, 1, none⟩ = some (.slice ao' m cap') := by rw [cell_of_row _ _ _ _ _ _ l1.1]; rfl
  have c2 : W1.cell? ⟨w.heap.size, 2, none⟩ = some (.int .i64 l) := by rw [cell_of_row _ _ _ _ _ _ l1.1]; rfl
  have c3 : W1.cell? ⟨w.heap.size, 3, none⟩ = some (.int .i64 r) := by rw [cell_of_row _ _ _ _ _ _ l1.1]; rfl
  obtain ⟨xb, hxb⟩ : ∃ xb, w.heap.size = xb := ⟨_, rfl⟩
  rw [hxb] at c0 c1 c2 c3 HX
  replace hW1 := boxed hW1
  replace hxb := boxed hxb
  clear l1 hS hT
  go_enter Tryd.func5, Tryd.ntmps5
  go_upto_region 1 with fail
  rw [hW1.out]
  have hxb' := hxb.out
  rw [hxb']
  clear hxb' hW1
  have t : (decide ((60 : Int) < (n : Int)) = true ∧ decide (60 < n) = true ∧ ¬ (n ≤ 60 ∧ m ≤ 30)) ∨ (decide ((60 : Int) < (n : Int)) = false ∧ decide (60 < n) = false ∧ decide ((30 : Int) < (m : Int)) = true ∧ decide (30 < m) = true ∧ ¬ (n ≤ 60 ∧ m ≤ 30)) ∨ (decide ((60 : Int) < (n : Int)) = false ∧ decide (60 < n) = false ∧ decide ((30 : Int) < (m : Int)) = false ∧ decide (30 < m) = false ∧ n ≤ 60 ∧ m ≤ 30) := by
    by_cases h1 : n ≤ 60
    · by_cases h2 : m ≤ 30
      · exact .inr (.inr ⟨decide_eq_false (by omega), decide_eq_false (by omega), decide_eq_false (by omega), decide_eq_false (by omega), h1, h2⟩)
      · exact .inr (.inl ⟨decide_eq_false (by omega), decide_eq_false (by omega), decide_eq_true (by omega), decide_eq_true (by omega), by omega⟩)
    · exact .inl ⟨decide_eq_true (by omega), decide_eq_true (by omega), by omega⟩
  rcases t with ⟨t1, t2, hb⟩ | ⟨t1, t2, t3, t4, hb⟩ | ⟨t1, t2, t3, t4, h60, h30⟩
  · have HNG : Box (¬ Good S T n m l r) := boxed (fun h => hb h.1)
    clear hb
    go_wp2_with fail
    go_ret
    exact ⟨.inl ⟨HNG.out, rfl⟩, HB1.out⟩
  · have HNG : Box (¬ Good S T n m l r) := boxed (fun h => hb h.1)
    clear hb
    go_wp2_with fail
    go_ret
    exact ⟨.inl ⟨HNG.out, rfl⟩, HB1.out⟩
  · have hck := refcheck_any W1 ao ao' n m cap cap' S T l r HS.out HT.out h60 (by omega)
    go_wp2_with fail
    refine hck.mono ?_
    rintro e w2 ⟨hC, hb2⟩
    clear hck
    have HB2 : Box (Below w.heap.size w w2) := boxed (below_step HB1.out (Nat.le_refl _) hb2)
    have HS2 := boxed (HS.out.below hb2)
    have HT2 := boxed (HT.out.below hb2)
    replace c0 := hold hb2 c0
    replace c1 := hold hb2 c1
    replace c2 := hold hb2 c2
    replace c3 := hold hb2 c3
    clear HS HT HB1 HX hb2
    rcases hC with ⟨hm1, rfl⟩ | ⟨hm1, i, hi, hp, -, rfl⟩ | ⟨hm1, hp, i, hi, hq, -, rfl⟩ | ⟨hm1, hp, hq, rfl⟩
    · have HNG : Box (¬ Good S T n m l r) := boxed (fun h => by have := h.2.1; rw [hm1] at this; cases this)
      clear hm1
      go_wp2_with fail
      go_ret
      exact ⟨.inl ⟨HNG.out, rfl⟩, HB2.out⟩
    · have HNG : Box (¬ Good S T n m l r) := boxed (fun h => h.2.2.1 i hi hp)
      clear hm1 hp
      go_wp2_with fail
      go_ret
      exact ⟨.inl ⟨HNG.out, rfl⟩, HB2.out⟩
    · have HNG : Box (¬ Good S T n m l r) := boxed (fun h => h.2.2.2 i hi hq)
      clear hm1 hp hq
      go_wp2_with fail
      go_ret
      exact ⟨.inl ⟨HNG.out, rfl⟩, HB2.out⟩
    · have hnw := new_any w2 ao ao' n m cap cap' S T l r HS2.out HT2.out h60 (by omega)
      have HG : Box (Good S T n m l r) := boxed ⟨⟨h60, h30⟩, hm1, hp, hq⟩
      clear hm1 hp hq
      go_wp2_with fail
      refine hnw.mono ?_
      rintro e w3 ⟨hN, hb3⟩
      have HB3 : Box (Below w.heap.size w w3) := boxed (below_step HB2.out (Nat.le_refl _) hb3)
      clear hnw hb3 HB2 HS2 HT2
      rcases hN with ⟨hm1, rfl⟩ | ⟨hm1, i, hi, hp, -, rfl⟩ | ⟨hm1, hp, i, hi, hq, -, rfl⟩ | ⟨hm1, hp, hq, bp, eb, lb, wb, Nd, Z, Y, rfl, hbk, hz1, hz2⟩
      · exact absurd HG.out.2.1 (by rw [hm1]; simp)
      · exact absurd hp (HG.out.2.2.1 i hi)
      · exact absurd hq (HG.out.2.2.2 i hi)
      · have HBK : Box (∃ eb lb wb Nd Z Y, BkAt w3 bp eb lb wb l.toNat r.toNat Nd Z Y ∧ zQ Z = qS S n ∧ zQ Y = yS T m) := boxed ⟨eb, lb, wb, Nd, Z, Y, hbk, hz1, hz2⟩
        clear hm1 hp hq hbk hz1 hz2
        go_wp2_with fail
        go_ret
        obtain ⟨eb, lb, wb, Nd, Z, Y, hbk, hz⟩ := HBK.out
        exact ⟨.inr ⟨HG.out, bp, eb, lb, wb, Nd, Z, Y, rfl, hbk, hz⟩, HB3.out⟩
end Go.Proofs.YtflhefgmgdgffaaDoor
