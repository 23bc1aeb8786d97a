/-
  A paragraph as it lies in memory: rows of numbers, of items and of sums; what slices.Clone makes of the first two.
-/
import Derived.Test.YtkmeeblkckfepabGreatEc
import Derived.Test.YtkmeeblkckfepabGreatJf
import Derived.Test.YtkmeeblkckfepabGreatJd
import Derived.Laws.AppendOwnNone
import Derived.Lib.SliceRun
namespace Go.Proofs.YtkmeeblkckfepabGreat
open Go.RowKit
set_option linter.unusedSimpArgs false
set_option linter.unusedVariables false

theorem info_item : (Tryz.prog.info? 52).map (fun i => (i.zero, i.size, i.bytes)) = some (some (.agg #[.int .i64 0, .int .i64 0, .int .i64 0, .int .i64 0, .bool false, .int .i64 0, .bool false, .int .i64 0, .int .i64 0]), 9, 72) := by kernel_rfl
theorem info_int8 : (Tryz.prog.info? 3).map (fun i => (i.zero, i.size, i.bytes)) = some (some (.int .i64 0), 1, 8) := by kernel_rfl
/-- Numbers as they lie in memory, in blocks that S names. -/
def NAt (S : Nat → Prop) (w : World) (ao : Option Addr) (L : List Nat) : Prop := ∀ i, i < L.length → ∃ b, ao = some ⟨b, 0, none⟩ ∧ S b ∧ w.cell? ⟨b, i, none⟩ = some (.int .i64 (L.getD i 0 : Nat))
theorem NAt.keep {S S' : Nat → Prop} {w w' : World} {ao : Option Addr} {L : List Nat} (h : NAt S w ao L) (k : Kp S S' w w') : NAt S' w' ao L := by
  intro i hi
  obtain ⟨b, e, hs, c0⟩ := h i hi
  exact ⟨b, e, (k _ _ _ hs c0).1, (k _ _ _ hs c0).2⟩
theorem NAt.below {S : Nat → Prop} {w w' : World} {ao : Option Addr} {L : List Nat} (h : NAt S w ao L) (hb : Below w.heap.size w w') : NAt S w' ao L := h.keep (kp_below hb)
theorem NAt.form {S : Nat → Prop} {w : World} {ao : Option Addr} {L : List Nat} (h : NAt S w ao L) (hn : 0 < L.length) : ∃ b, ao = some ⟨b, 0, none⟩ ∧ S b ∧ ∀ i, i < L.length → w.cell? ⟨b, i, none⟩ = some (.int .i64 (L.getD i 0 : Nat)) := by
  obtain ⟨b, e, hs, -⟩ := h 0 hn
  subst e
  refine ⟨b, rfl, hs, fun i hi => ?_⟩
  obtain ⟨b', e, -, c0⟩ := h i hi
  injection e with e
  injection e with e1 e2 e3
  subst e1
  exact c0
theorem ItsAt.form {S : Nat → Prop} {w : World} {ao : Option Addr} {n : Nat} {I : Nat → Itm} (h : ItsAt S w ao n I) (hn : 0 < n) : ∃ b off, ao = some ⟨b, off, none⟩ ∧ S b ∧ ∀ i j, i < n → j < 9 → w.cell? ⟨b, off + (i * 9 + j), none⟩ = ((I i).cells)[j]? := by
  obtain ⟨b, off, e, hs, -⟩ := h 0 hn
  subst e
  refine ⟨b, off, rfl, hs, fun i j hi hj => ?_⟩
  obtain ⟨b', off', e, -, c0, c1, c2, c3, c4, c5, c6, c7, c8⟩ := h i hi
  injection e with e
  injection e with e1 e2 e3
  subst e1; subst e2
  rcases (show j = 0 ∨ j = 1 ∨ j = 2 ∨ j = 3 ∨ j = 4 ∨ j = 5 ∨ j = 6 ∨ j = 7 ∨ j = 8 by omega) with rfl | rfl | rfl | rfl | rfl | rfl | rfl | rfl | rfl
  · exact c0
  · exact c1
  · exact c2
  · exact c3
  · exact c4
  · exact c5
  · exact c6
  · exact c7
  · exact c8
/-- The cells of a row of numbers. -/
def ncs (L : List Nat) : List Value := L.map fun n => .int .i64 (n : Nat)
theorem ncs_len (L : List Nat) : (ncs L).length = L.length := by simp [ncs]
theorem ncs_app (L M : List Nat) : ncs (L ++ M) = ncs L ++ ncs M := by simp [ncs]
theorem ncs_one (L : List Nat) : ∀ u ∈ ncs L, u.oneCell' = true := by
  intro u hu
  simp only [ncs, List.mem_map] at hu
  obtain ⟨n, -, rfl⟩ := hu
  rfl
theorem ncs_get (L : List Nat) (i : Nat) (h : i < L.length) : (ncs L)[i]? = some (.int .i64 (L.getD i 0 : Nat)) := by
  simp [ncs, List.getElem?_eq_getElem h]
theorem owns_below {w w' : World} {B e size n : Nat} {v : Value} {xs : List Value} (h : w.ownsRow B e size v n xs) (hb : Below w.heap.size w w') : w'.ownsRow B e size v n xs :=
  h.kept (row := none) ⟨hb.os, hb.tape, hb.output, hb.size, fun k hk _ => hb.block k hk⟩ (by cases hv : v.ownBlock <;> simp)
theorem own_nat {w : World} {B : Nat} {ao : Option Addr} {n cap : Nat} {L : List Nat} (h : w.ownsRow B 3 1 (.slice ao n cap) n (ncs L)) (hl : L.length = n) : NAt (fun b => B ≤ b) w ao L := by
  intro i hi
  rcases ownsRow_forms h with ⟨_, h2⟩ | ⟨g, cap', e⟩
  · omega
  · injection e with e1 e2 e3
    subst e1; subst e3
    have hB := h.lt g rfl
    refine ⟨g, rfl, hB.1, ?_⟩
    rw [h.cellAt i (by omega), ncs_get L i hi]
/-- The first n of the items. -/
def itl (I : Nat → Itm) (n : Nat) : List Itm := (List.range n).map I
theorem itl_len (I : Nat → Itm) (n : Nat) : (itl I n).length = n := by simp [itl]
theorem itl_nth (I : Nat → Itm) (n i : Nat) (h : i < n) : nth (itl I n) i = I i := by simp [nth, itl, h]
theorem ItsAt.swap {S : Nat → Prop} {w : World} {ao : Option Addr} {n : Nat} {I J : Nat → Itm} (h : ItsAt S w ao n I) (e : ∀ i, i < n → I i = J i) : ItsAt S w ao n J := by
  intro i hi
  obtain ⟨b, off, e', hs, c0, c1, c2, c3, c4, c5, c6, c7, c8⟩ := h i hi
  rw [e i hi] at c0 c1 c2 c3 c4 c5 c6 c7 c8
  exact ⟨b, off, e', hs, c0, c1, c2, c3, c4, c5, c6, c7, c8⟩

set_option maxHeartbeats 2000000 in
set_option maxRecDepth 100000 in
theorem cloneI_any (S : Nat → Prop) (ao : Option Addr) (n c : Nat) (I : Nat → Itm) (w : World) (h : ItsAt S w ao n I) (hn : 0 < n) (hm : n ≤ 262144) :
    Calls Tryz.prog 25 #[.slice ao n c] w fun e w' => ∃ ao' c', e = .returned (.slice ao' n c') ∧ ItsAt (fun b => w.heap.size ≤ b) w' ao' n I ∧ Below w.heap.size w w' := by
  obtain ⟨b, off, rfl, -, hc⟩ := h.form hn
  obtain ⟨i0, hi, hz0, hz1, hz2⟩ := info_parts info_item
  have q22 : ∀ (w : World) (a : Option Addr) (n c n' c' : Nat), (binOp .eql 22 (.slice a n c) (.slice none n' c')).run Tryz.prog w = .ok (.bool a.isNone) w := fun w a n c n' c' => Lib.run_eql_slice_nil w _ _ a n c n' c' Tryz.underlying22
  have u22 : ∀ w, Sem.run Tryz.prog (underlying 22) w = .ok (TypeDesc.slice 52) w := run_underlying Tryz.underlying22
  replace hc := boxed hc
  clear h
  go_enter Tryz.func25, Tryz.ntmps25
  go_wp2_with (at_builtin; refine wpList_append_own _ rfl _ _ 22 rfl w.heap.size 52 i0 _ 9 72 Tryz.underlying22 hi hz0 hz1 hz2 rfl (by decide) _ _ _ rfl (World.ownsRow_made w #[] 0 (Nat.le_refl _) (Nat.zero_le _) rfl) ⟨b, off, none⟩ n c (ics (itl I n)) rfl ?qc1 ?qc2 ?qc3 ?qc4 ?qc5 ?qc6 ?_)
  case qc1 => rw [ics_len, itl_len]
  case qc2 =>
    intro j u hj
    have hjn : j < n * 9 := by
      have := (List.getElem?_eq_some_iff.1 hj).1
      rw [ics_len, itl_len] at this
      omega
    rw [Addr.add_lit]
    refine Lib.cell?_alloc_some _ ?_
    obtain ⟨q, r, hr, rfl⟩ : ∃ q r, r < 9 ∧ j = q * 9 + r := ⟨j / 9, j % 9, by omega, by omega⟩
    have hq : q < n := by omega
    rw [hc.out q r hq hr, ← hj, ics_get _ _ _ (by rw [itl_len]; exact hq) hr]
    have := itl_nth I n q hq
    unfold nth at this
    rw [this]
  case qc3 => exact ics_cell _
  case qc4 => unfold maxLen; omega
  case qc5 => omega
  case qc6 => simp
  intro v' w1 hown hgrow hnil
  have hown2 : w1.ownsRow w.heap.size 52 9 v' n (ics (itl I n)) := by simpa using hown
  obtain ⟨ao', c', rfl⟩ := own_shape hown2
  have HI := boxed ((own_its hown2 (itl_len I n)).swap (itl_nth I n))
  have HB := boxed (((Below.refl _ w).alloc (Nat.le_refl _) _).grown hgrow (by simp) (by intro k hk; simp [Value.ownBlock] at hk; omega))
  clear hown hown2 hgrow hnil
  go_wp2
  go_ret
  exact ⟨ao', c', rfl, HI.out, HB.out⟩
set_option maxHeartbeats 2000000 in
set_option maxRecDepth 100000 in
theorem cloneN_any (S : Nat → Prop) (ao : Option Addr) (c : Nat) (L : List Nat) (w : World) (h : NAt S w ao L) (hn : 0 < L.length) (hm : L.length ≤ 262144) :
    Calls Tryz.prog 64 #[.slice ao L.length c] w fun e w' => ∃ v', e = .returned v' ∧ w'.ownsRow w.heap.size 3 1 v' L.length (ncs L) ∧ Below w.heap.size w w' := by
  obtain ⟨b, rfl, -, hc⟩ := h.form hn
  obtain ⟨i0, hi, hz0, hz1, hz2⟩ := info_parts info_int8
  have q22 : ∀ (w : World) (a : Option Addr) (n c n' c' : Nat), (binOp .eql 31 (.slice a n c) (.slice none n' c')).run Tryz.prog w = .ok (.bool a.isNone) w := fun w a n c n' c' => Lib.run_eql_slice_nil w _ _ a n c n' c' Tryz.underlying31
  have u22 : ∀ w, Sem.run Tryz.prog (underlying 31) w = .ok (TypeDesc.slice 3) w := run_underlying Tryz.underlying31
  replace hc := boxed hc
  clear h
  generalize hN : L.length = n at *
  go_enter Tryz.func64, Tryz.ntmps64
  go_wp2_with (at_builtin; refine wpList_append_own _ rfl _ _ 31 rfl w.heap.size 3 i0 _ 1 8 Tryz.underlying31 hi hz0 hz1 hz2 rfl (by decide) _ _ _ rfl (World.ownsRow_made w #[] 0 (Nat.le_refl _) (Nat.zero_le _) rfl) ⟨b, 0, none⟩ n c (ncs L) rfl ?qc1 ?qc2 ?qc3 ?qc4 ?qc5 ?qc6 ?_)
  case qc1 => rw [ncs_len]; omega
  case qc2 =>
    intro j u hj
    have hjn : j < L.length := by
      have := (List.getElem?_eq_some_iff.1 hj).1
      rw [ncs_len] at this
      exact this
    rw [Addr.add_lit]
    refine Lib.cell?_alloc_some _ ?_
    rw [Nat.zero_add, hc.out j (by omega), ← hj, ncs_get L j hjn]
  case qc3 => exact ncs_one _
  case qc4 => unfold maxLen; omega
  case qc5 => omega
  case qc6 => simp
  intro v' w1 hown hgrow hnil
  have HO : Box (w1.ownsRow w.heap.size 3 1 v' n (ncs L)) := boxed (by simpa using hown)
  have HB := boxed (((Below.refl _ w).alloc (Nat.le_refl _) _).grown hgrow (by simp) (by intro k hk; simp [Value.ownBlock] at hk; omega))
  clear hown hgrow hnil
  go_wp2
  go_ret
  exact ⟨v', rfl, HO.out, HB.out⟩
end Go.Proofs.YtkmeeblkckfepabGreat
