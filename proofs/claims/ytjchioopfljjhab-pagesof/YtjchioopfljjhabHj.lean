/-
  What the statements' own five and awake answer.
-/
import Derived.Test.YtjchioopfljjhabHi
namespace Go.Proofs.Ytjchioopfljjhab
open Go.RowKit
set_option linter.unusedSimpArgs false
set_option linter.unusedVariables false

def Slt.cells (s : Slt) : List Value := [.int .i64 s.h, .int .i64 s.i, .int .i64 s.c, .bool s.k]
/-- The cells of lines. -/
def scs (F : Nat → Slt) : Nat → List Value
  | 0 => []
  | k + 1 => scs F k ++ (F k).cells
theorem scs_len (F : Nat → Slt) (n : Nat) : (scs F n).length = n * 4 := by
  induction n with
  | zero => rfl
  | succ n ih => simp [scs, ih, Slt.cells]; omega
theorem scs_get (F : Nat → Slt) (n i j : Nat) (h : i < n) (hj : j < 4) : (scs F n)[i * 4 + j]? = ((F i).cells)[j]? := by
  induction n with
  | zero => omega
  | succ n ih =>
    have hl := scs_len F n
    simp only [scs]
    by_cases c : i < n
    · rw [List.getElem?_append_left (by omega)]
      exact ih c
    · obtain rfl : i = n := by omega
      rw [List.getElem?_append_right (by omega), hl, show i * 4 + j - i * 4 = j by omega]
theorem own_slts {w : World} {B n cap : Nat} {ao : Option Addr} {F : Nat → Slt} (h : w.ownsRow B 52 4 (.slice ao n cap) n (scs F n)) (hi : ∀ i, i < n → I64 (F i).h ∧ I64 (F i).i ∧ I64 (F i).c) : SltsAt (fun b => B ≤ b) w ao n F := by
  intro i hin
  rcases ownsRow_forms h with ⟨e, h0⟩ | ⟨g, cp, e⟩
  · omega
  · injection e with e1 e2 e3
    subst e1
    have hc : ∀ j, j < 4 → w.cell? ⟨g, 0 + i * 4 + j, none⟩ = ((F i).cells)[j]? := fun j hj => by
      have := h.cellAt (i * 4 + j) (by omega)
      rw [show 0 + i * 4 + j = i * 4 + j by omega, this]
      exact scs_get F n i j hin hj
    exact ⟨hi i hin, _, 0, rfl, (h.lt _ rfl).1, hc 0 (by omega), hc 1 (by omega), hc 2 (by omega), hc 3 (by omega)⟩
theorem own_cap {w : World} {B e size n m cap : Nat} {ao : Option Addr} {xs : List Value} (h : w.ownsRow B e size (.slice ao m cap) n xs) : m ≤ cap := by
  rcases h.2 with ⟨e, h0⟩ | ⟨g, cp, cur, e, hB, hh, hc, -⟩
  · injection e with e1 e2 e3; omega
  · injection e with e1 e2 e3; omega
def fv (n : Nat) (i : Nat) : Slt := ⟨10, (i : Nat), (n : Nat), false⟩
set_option maxRecDepth 100000 in
set_option maxHeartbeats 1000000 in
theorem five_any (n : Nat) (hn : n ≤ 100) (w : World) : Calls Try.prog 9 #[.int .i64 (n : Int)] w fun e w' => ∃ ao c, e = .returned (.slice ao n c) ∧ n ≤ c ∧ SltsAt (fun b => w.heap.size ≤ b) w' ao n (fv n) ∧ Below w.heap.size w w' := by
  obtain ⟨i0, hi, hz0, hz1, hz2⟩ := info_parts info_slot
  go_enter Try.func9, Try.ntmps9
  go_wp2_with fail
  go_loopw [3, 4] (fun sv lv wr => ∃ j : Nat, j ≤ n ∧ lv = .int .i64 (j : Nat) ∧ Box (wr.ownsRow w.heap.size 52 4 sv j (scs (fv n) j)) ∧ Box (Below w.heap.size w wr)) (fun _ lv _ => n - (intOf lv).toNat)
  case atStart => exact ⟨0, Nat.zero_le _, rfl, boxed (World.ownsRow_nil _ _ _ _), boxed (Below.refl _ _)⟩
  case round =>
    obtain ⟨j, hj, rfl, HO, HB⟩ := hrel
    by_cases hlt : j < n
    · have hown := HO.out
      have hzr := HB.out.size
      go_wp2_with (first | (at_builtin; refine wpList_append_own _ rfl _ _ 40 rfl w.heap.size 52 i0 _ 4 32 Try.underlying40 hi hz0 hz1 hz2 rfl (by decide) _ _ _ rfl (hown.alloc _) ⟨wr.heap.size, 0, none⟩ 1 1 [.int .i64 10, .int .i64 (j : Int), .int .i64 (n : Int), .bool false] rfl rfl ?c1 ?c2 ?c3 ?c4 ?c5 ?_))
      case c1 =>
        intro k u hk
        match k, hk with
        | 0, hk => simp at hk; subst hk; simp [Addr.add]
        | 1, hk => simp at hk; subst hk; simp [Addr.add]
        | 2, hk => simp at hk; subst hk; simp [Addr.add]
        | 3, hk => simp at hk; subst hk; simp [Addr.add]
      case c2 => intro u hu; simp at hu; rcases hu with rfl | rfl | rfl | rfl <;> rfl
      case c3 => unfold maxLen; omega
      case c4 => omega
      case c5 => simp; omega
      intro v' w6 hown6 hgrow6 _
      have HO6 : Box (w6.ownsRow w.heap.size 52 4 v' (j + 1) (scs (fv n) (j + 1))) := boxed hown6
      have HG6 := boxed (HB.out.trans (grown_any hown hzr hgrow6))
      clear hown6 hgrow6 hown
      go_wp2_with fail
      go_roundw
      case rel => exact ⟨j + 1, by omega, by go_num, HO6, HG6⟩
      case measure => simp [intOf]; omega
    · obtain rfl : j = n := by omega
      obtain ⟨ao', c', rfl⟩ := own_shape HO.out
      have HF := boxed (own_slts HO.out (fun i hi => by unfold fv I64; simp only; omega))
      have HC := boxed (own_cap HO.out)
      clear HO
      go_wp2_with fail
      go_ret
      exact ⟨ao', c', rfl, HC.out, HF.out, HB.out⟩
def d1 : Dc := ⟨fv 5, 5, 2, 2, 30⟩
def d2 : Dc := ⟨fv 5, 5, 2, 3, 30⟩
theorem rts5 : Rts (fv 5) 5 0 := by
  refine .par 0 5 (by omega) (by omega) rfl (fun j hj => ?_) ?_
  · unfold okL fv
    exact ⟨⟨by simp only; omega, by simp only; omega⟩, by simp only; omega, rfl, rfl⟩
  · exact .done
theorem pgs1 : d1.Pgs 2 ∧ d1.its 2 = [0, 3] := by
  unfold Dc.Pgs
  refine ⟨⟨fun i hi => ?_, by decide +kernel⟩, by decide +kernel⟩
  rcases (show i = 0 ∨ i = 1 by omega) with rfl | rfl <;> decide +kernel
theorem pgs2 : d2.Pgs 2 ∧ d2.its 2 = [0, 2] := by
  unfold Dc.Pgs
  refine ⟨⟨fun i hi => ?_, by decide +kernel⟩, by decide +kernel⟩
  rcases (show i = 0 ∨ i = 1 by omega) with rfl | rfl <;> decide +kernel
def s1 : Stg := ⟨0, 0, 0, 0, 0, 2, 2⟩
def s2 : Stg := ⟨0, 0, 0, 0, 0, 2, 3⟩
theorem dcok1 : DcOk d1 s1 := dcok_of (F := fv 5) (n := 5) (H := 30) (g := s1) (by decide +kernel) rts5 (by omega)
theorem dcok2 : DcOk d2 s2 := dcok_of (F := fv 5) (n := 5) (H := 30) (g := s2) (by decide +kernel) rts5 (by omega)
theorem pag1 (S : Nat → Prop) (ao : Option Addr) (c : Nat) (w : World) (h : SltsAt S w ao 5 (fv 5)) (hc : 5 ≤ c) :
    Calls Try.prog 8 #[.slice ao 5 c, .int .i64 30, .agg #[.int .i64 0, .int .i64 0, .int .i64 0, .int .i64 0, .int .i64 0, .int .i64 2, .int .i64 2]] w fun e w' => ∃ ao' c', e = .returned (.tuple #[.slice ao' 2 c', .int .i64 0]) ∧ NAt (fun b => w.heap.size ≤ b) w' ao' [0, 3] ∧ Below w.heap.size w w' := by
  refine (pag_ok d1 s1 dcok1 (by decide +kernel) rts5 S ao c w h hc).mono ?_
  rintro e w' ⟨J, ao', c', rfl, hJ, hN, hb⟩
  obtain rfl := d1.pgs_one hJ pgs1.1
  rw [pgs1.2] at hN
  exact ⟨ao', c', rfl, hN, hb⟩
theorem pag2 (S : Nat → Prop) (ao : Option Addr) (c : Nat) (w : World) (h : SltsAt S w ao 5 (fv 5)) (hc : 5 ≤ c) :
    Calls Try.prog 8 #[.slice ao 5 c, .int .i64 30, .agg #[.int .i64 0, .int .i64 0, .int .i64 0, .int .i64 0, .int .i64 0, .int .i64 2, .int .i64 3]] w fun e w' => ∃ ao' c', e = .returned (.tuple #[.slice ao' 2 c', .int .i64 0]) ∧ NAt (fun b => w.heap.size ≤ b) w' ao' [0, 2] ∧ Below w.heap.size w w' := by
  refine (pag_ok d2 s2 dcok2 (by decide +kernel) rts5 S ao c w h hc).mono ?_
  rintro e w' ⟨J, ao', c', rfl, hJ, hN, hb⟩
  obtain rfl := d2.pgs_one hJ pgs2.1
  rw [pgs2.2] at hN
  exact ⟨ao', c', rfl, hN, hb⟩
theorem two03 (w : World) : NAt (fun _ => True) (w.alloc (.cells #[.int .i64 0, .int .i64 3] 3)) (some ⟨w.heap.size, 0, none⟩) [0, 3] := by
  intro i hi
  refine ⟨w.heap.size, rfl, trivial, ?_⟩
  rw [cell_first]
  match i, hi with
  | 0, _ => rfl
  | 1, _ => rfl
theorem two02 (w : World) : NAt (fun _ => True) (w.alloc (.cells #[.int .i64 0, .int .i64 2] 3)) (some ⟨w.heap.size, 0, none⟩) [0, 2] := by
  intro i hi
  refine ⟨w.heap.size, rfl, trivial, ?_⟩
  rw [cell_first]
  match i, hi with
  | 0, _ => rfl
  | 1, _ => rfl
theorem same_yes (S T : Nat → Prop) (ao bo : Option Addr) (ca cb : Nat) (L : List Nat) (w : World) (h1 : NAt S w ao L) (h2 : NAt T w bo L) (hn : L.length ≤ 1000000) (hs : ∀ i, i < L.length → (L.getD i 0 : Nat) < 9223372036854775807) :
    Calls Try.prog 10 #[.slice ao L.length ca, .slice bo L.length cb] w fun e w' => e = .returned (.bool true) ∧ Below w.heap.size w w' := by
  have := same12_any S T ao bo ca cb L L w h1 h2 hn hs
  simpa using this
set_option maxRecDepth 100000 in
set_option maxHeartbeats 2000000 in
theorem awake_any (w : World) : Calls Try.prog 4 #[] w fun e w' => e = .returned (.bool true) ∧ Below w.heap.size w w' := by
  have f5 := fun w => five_any 5 (by omega) w
  have HP1 := boxed pag1
  have HP2 := boxed pag2
  go_enter Try.func4, Try.ntmps4
  go_wp2_with fail
  refine (f5 _).mono ?_
  rintro e w1 ⟨a1, k1, rfl, h1, hs1, hb1⟩
  have HB1 := boxed hb1
  have hp := HP1.out _ a1 k1 w1 hs1 h1
  clear hb1 hs1 HP1
  go_wp2_with fail
  refine hp.mono ?_
  rintro e w2 ⟨a2, k2, rfl, hN2, hb2⟩
  have HB2 := boxed (below_step HB1.out (Nat.le_refl _) hb2)
  have HN2 := boxed hN2
  clear hb2 hN2 hp
  go_wp2_with fail
  refine (f5 _).mono ?_
  rintro e w3 ⟨a3, k3, rfl, h3, hs3, hb3⟩
  have HB3 := boxed (below_step HB2.out (Nat.le_refl _) hb3)
  have HN3 := boxed (HN2.out.below hb3)
  have hp := HP2.out _ a3 k3 w3 hs3 h3
  clear hb3 hs3 HP2 HN2 f5
  go_wp2_with fail
  refine hp.mono ?_
  rintro e w4 ⟨a4, k4, rfl, hN4, hb4⟩
  have HB4 := boxed (below_step HB3.out (Nat.le_refl _) hb4)
  have HN4 := boxed (HN3.out.below hb4)
  have HM4 := boxed hN4
  clear hb4 hN4 hp HN3
  have hb5 := (laid1 w4 (.cells #[.int .i64 0, .int .i64 3] 3)).2.1
  have hsm : Calls Try.prog 10 #[.slice a2 2 k2, .slice (some ⟨w4.heap.size, 0, none⟩) 2 2] (w4.alloc (.cells #[.int .i64 0, .int .i64 3] 3)) fun e w' => e = .returned (.bool true) ∧ Below (w4.alloc (.cells #[.int .i64 0, .int .i64 3] 3)).heap.size (w4.alloc (.cells #[.int .i64 0, .int .i64 3] 3)) w' := same_yes _ _ a2 _ k2 2 [0, 3] _ (HN4.out.below hb5) (two03 w4) (by simp) (by intro i hi; match i, hi with | 0, _ => simp | 1, _ => simp)
  have HM5 := boxed (HM4.out.below hb5)
  have HB5 := boxed (below_step HB4.out (Nat.le_refl _) hb5)
  clear hb5 HM4 HN4
  go_wp2_with fail
  refine hsm.mono ?_
  rintro e w6 ⟨rfl, hb6⟩
  have HB6 := boxed (below_step HB5.out (Nat.le_refl _) hb6)
  have HM6 := boxed (HM5.out.below hb6)
  clear hb6 hsm HM5
  have hb7 := (laid1 w6 (.cells #[.int .i64 0, .int .i64 2] 3)).2.1
  have hsm : Calls Try.prog 10 #[.slice a4 2 k4, .slice (some ⟨w6.heap.size, 0, none⟩) 2 2] (w6.alloc (.cells #[.int .i64 0, .int .i64 2] 3)) fun e w' => e = .returned (.bool true) ∧ Below (w6.alloc (.cells #[.int .i64 0, .int .i64 2] 3)).heap.size (w6.alloc (.cells #[.int .i64 0, .int .i64 2] 3)) w' := same_yes _ _ a4 _ k4 2 [0, 2] _ (HM6.out.below hb7) (two02 w6) (by simp) (by intro i hi; match i, hi with | 0, _ => simp | 1, _ => simp)
  have HB7 := boxed (below_step HB6.out (Nat.le_refl _) hb7)
  clear hb7 HM6
  go_wp2_with fail
  refine hsm.mono ?_
  rintro e w8 ⟨rfl, hb8⟩
  have HB8 := boxed (below_step HB7.out (Nat.le_refl _) hb8)
  clear hb8 hsm
  go_wp2_with fail
  go_ret
  exact ⟨rfl, HB8.out⟩
end Go.Proofs.Ytjchioopfljjhab
