/-
  What the statements' own ones and awake answer.
-/
import Derived.Test.YtdpjaafdpgkclaaTu
import Derived.Test.YtdpjaafdpgkclaaTq
namespace Go.Proofs.Ytdpjaafdpgkclaa
open Go.RowKit
set_option linter.unusedSimpArgs false
set_option linter.unusedVariables false

theorem same_yes (S T : Nat → Prop) (ao bo : Option Addr) (n ca cb : Nat) (L : List Nat) (hL : L.length = n) (w : World) (h1 : NAt S w ao L) (h2 : NAt T w bo L) (hn : n ≤ 1000000) (hs : ∀ i, i < n → (L.getD i 0 : Nat) < 9223372036854775807) :
    Calls Try.prog 11 #[.slice ao n ca, .slice bo n cb] w fun e w' => e = .returned (.bool true) ∧ Below w.heap.size w w' := by
  subst hL
  have := same12_any S T ao bo ca cb L L w h1 h2 hn hs
  simpa using this
theorem own_none {w : World} {B e size n m cap : Nat} {ao : Option Addr} {xs : List Value} (h : w.ownsRow B e size (.slice ao m cap) n xs) : ao = none → cap = 0 := fun e => by
  rcases ownsRow_forms h with ⟨e1, e2⟩ | ⟨g', c', e1⟩
  · injection e1
  · rw [e] at e1; injection e1 with e1; cases e1
/-- A line that is a paragraph, 10 high. -/
def f1 : Nat → Slt := fun _ => ⟨10, 0, 1, false⟩
set_option maxRecDepth 100000 in
set_option maxHeartbeats 1000000 in
theorem ones_any (n : Nat) (hn : n ≤ 100) (w : World) : Calls Try.prog 23 #[.int .i64 (n : Int)] w fun e w' => ∃ ao c, e = .returned (.slice ao n c) ∧ n ≤ c ∧ SltsAt (fun b => w.heap.size ≤ b) w' ao n f1 ∧ Below w.heap.size w w' := by
  obtain ⟨i0, hi, hz0, hz1, hz2⟩ := info_parts info_slot
  go_enter Try.func23, Try.ntmps23
  go_wp2_with fail
  go_loopw [3, 4] (fun sv lv wr => ∃ j : Nat, j ≤ n ∧ lv = .int .i64 (j : Nat) ∧ Box (wr.ownsRow w.heap.size 69 4 sv j (scs f1 j)) ∧ Box (Below w.heap.size w wr)) (fun _ lv _ => n - (intOf lv).toNat)
  case atStart => exact ⟨0, Nat.zero_le _, rfl, boxed (World.ownsRow_nil _ _ _ _), boxed (Below.refl _ _)⟩
  case round =>
    obtain ⟨j, hj, rfl, HO, HB⟩ := hrel
    by_cases hlt : j < n
    · have hown := HO.out
      have hzr := HB.out.size
      go_wp2_with (first | (at_builtin; refine wpList_append_own _ rfl _ _ 22 rfl w.heap.size 69 i0 _ 4 32 Try.underlying22 hi hz0 hz1 hz2 rfl (by decide) _ _ _ rfl (hown.alloc _) ⟨wr.heap.size, 0, none⟩ 1 1 [.int .i64 10, .int .i64 0, .int .i64 1, .bool false] rfl rfl ?d1 ?d2 ?d3 ?d4 ?d5 ?_))
      case d1 =>
        intro k u hk
        match k, hk with
        | 0, hk => simp at hk; subst hk; simp [Addr.add]
        | 1, hk => simp at hk; subst hk; simp [Addr.add]
        | 2, hk => simp at hk; subst hk; simp [Addr.add]
        | 3, hk => simp at hk; subst hk; simp [Addr.add]
      case d2 => intro u hu; simp at hu; rcases hu with rfl | rfl | rfl | rfl <;> rfl
      case d3 => unfold maxLen; omega
      case d4 => omega
      case d5 => simp; omega
      intro v' w6 hown6 hgrow6 _
      have HO6 : Box (w6.ownsRow w.heap.size 69 4 v' (j + 1) (scs f1 (j + 1))) := boxed hown6
      have HG6 := boxed (HB.out.trans (grown_any hown hzr hgrow6))
      clear hown6 hgrow6 hown
      go_wp2_with fail
      go_roundw
      case rel => exact ⟨j + 1, by omega, by go_num, HO6, HG6⟩
      case measure => simp [intOf]; omega
    · obtain rfl : j = n := by omega
      obtain ⟨ao', c', rfl⟩ := own_shape HO.out
      have HF := boxed ((own_slts HO.out (fun i hi => by unfold f1 I64; simp only; omega)).keep (S' := fun b => w.heap.size ≤ b) (fun b i u hs hc => ⟨hs.1, hc⟩))
      have HC := boxed (own_room HO.out)
      clear HO
      go_wp2_with fail
      go_ret
      exact ⟨ao', c', rfl, HC.out, HF.out, HB.out⟩
def g0 : Stg := ⟨0, 0, 0, 0, 0, 1, 1⟩
def d0 : Dc := ⟨f1, 6, 1, 1, 20⟩
theorem rtsn (n : Nat) : ∀ k, k ≤ n → Rts f1 n (n - k) := by
  intro k
  induction k with
  | zero => intro _; exact .done
  | succ k ih =>
    intro hk
    refine .par (n - (k + 1)) 1 (by omega) (by omega) rfl (fun j hj => ?_) ?_
    · obtain rfl : j = 0 := by omega
      exact ⟨⟨show (1 : Int) ≤ 10 by decide, show (10 : Int) ≤ 1048576 by decide⟩, rfl, rfl, rfl⟩
    · rw [show n - (k + 1) + 1 = n - k by omega]
      exact ih (by omega)
theorem rts6 : Rts f1 6 0 := rtsn 6 6 (by omega)
theorem rts1 : Rts f1 1 0 := rtsn 1 1 (by omega)
theorem pg0 : d0.Pgs 3 ∧ d0.its 3 = [0, 2, 4] := by
  refine ⟨⟨?_, by decide +kernel⟩, by decide +kernel⟩
  intro i hi
  match i, hi with
  | 0, _ => decide +kernel
  | 1, _ => decide +kernel
  | 2, _ => decide +kernel
theorem pg1 : (d0.put 3 1 1 f1).Pgs 3 ∧ (d0.put 3 1 1 f1).its 3 = [0, 2, 4] := by
  refine ⟨⟨?_, by decide +kernel⟩, by decide +kernel⟩
  intro i hi
  match i, hi with
  | 0, _ => decide +kernel
  | 1, _ => decide +kernel
  | 2, _ => decide +kernel
theorem bl0 : Bl d0 3 3 1 1 f1 3 0 2 := by
  have e0 : (d0.put 3 1 1 f1).it 0 = 0 := by decide +kernel
  have e1 : (d0.put 3 1 1 f1).it 1 = 2 := by decide +kernel
  have e2 : (d0.put 3 1 1 f1).it 2 = 4 := by decide +kernel
  have e3 : d0.it 2 = 4 := by decide +kernel
  refine ⟨by omega, fun i hi => ?_, .inr ⟨2, by omega, by omega, by rw [show 0 + 2 = 2 by omega, e2, e3]⟩⟩
  rintro ⟨q, h1, h2, h3⟩
  match i, hi with
  | 0, _ => rw [show 0 + 0 = 0 by omega, e0] at h3; omega
  | 1, _ => rw [show 0 + 1 = 1 by omega, e1] at h3; omega
theorem up0 : Upto (d0.its 3) (3 : Int) 2 := by
  rw [pg0.2]
  refine ⟨by decide, fun j hj => ?_, fun j h1 h2 => ?_⟩
  · match j, hj with
    | 0, _ => decide
    | 1, _ => decide
  · match j, h1, h2 with
    | 2, _, _ => decide
theorem ok0 : DcOk d0 g0 := dcok_of (F := f1) (n := 6) (H := 20) (g := g0) (by decide +kernel) rts6 (by omega)
theorem three (w : World) : NAt (fun _ => True) (w.alloc (.cells #[.int .i64 0, .int .i64 2, .int .i64 4] 3)) (some ⟨w.heap.size, 0, none⟩) [0, 2, 4] := by
  intro i hi
  refine ⟨w.heap.size, rfl, trivial, ?_⟩
  rw [cell_first]
  match i, hi with
  | 0, _ => rfl
  | 1, _ => rfl
  | 2, _ => rfl
set_option maxRecDepth 100000 in
set_option maxHeartbeats 2000000 in
theorem awake_any (w : World) : Calls Try.prog 8 #[] w fun e w' => e = .returned (.bool true) ∧ Below w.heap.size w w' := by
  have f6 := fun w => ones_any 6 (by omega) w
  have fo := fun w => ones_any 1 (by omega) w
  have HN := boxed (fun S lo c w h hc => new_ok d0 g0 ok0 (by decide +kernel) rts6 S lo c w h hc)
  unfold Stg.val at HN
  simp only [show d0.n = 6 from rfl, show d0.H = 20 from rfl, show g0.t = 0 from rfl, show g0.l = 0 from rfl, show g0.a = 0 from rfl, show g0.d = 0 from rfl, show g0.z = 0 from rfl, show g0.o = 1 from rfl, show g0.i = 1 from rfl] at HN
  go_enter Try.func8, Try.ntmps8
  go_wp2_with fail
  refine (f6 _).mono ?_
  rintro e w1 ⟨a1, k1, rfl, h1, hs1, hb1⟩
  have HB1 := boxed hb1
  have hp := HN.out _ a1 k1 w1 hs1 h1
  clear hb1 hs1 HN f6
  go_wp2_with fail
  refine hp.mono ?_
  rintro e w2 ⟨p, ao, cap, so, sc, J, rfl, hBk, hb2⟩
  obtain rfl := d0.pgs_one hBk.pgs pg0.1
  have HB2 := boxed (below_step HB1.out (Nat.le_refl _) hb2)
  have HBk := boxed hBk
  have hz1 := HB1.out.size
  have hz2 := hb2.size
  clear hb2 hBk hp
  go_wp2_with fail
  refine (fo _).mono ?_
  rintro e w3 ⟨a3, k3, rfl, h3, hs3, hb3⟩
  have HB3 := boxed (below_step HB2.out (Nat.le_refl _) hb3)
  have hBk3 := HBk.out.below hb3
  have hz3 := hb3.size
  have hlt := HBk.out.lt
  have hrep := rep13_any hBk3 _ a3 1 k3 f1 hs3 (fun b hb => ⟨by have := (hlt p (.inl rfl)).2; omega, fun e => by have := (hlt b (.inr (.inl e.symm))).2; omega⟩) rts1 (by omega) h3 3 1 (by decide) (.inr rfl) (.inr rfl) (by decide) 2 up0
  have HLb : Box (∀ k, (Value.slice ao d0.n cap).ownBlock = some k → w.heap.size ≤ k) := boxed (fun k e => by have := (hlt k (.inr (.inl e))).1; omega)
  have hpw : w.heap.size ≤ p := by have := (hlt p (.inl rfl)).1; omega
  clear hb3 hs3 hBk3 fo HBk hlt
  go_wp2_with fail
  refine hrep.mono ?_
  rintro e w4 ⟨bl, J', ao', cap', so', sc', rfl, hBk, hBl, -, hFr, -, -⟩
  obtain rfl := (d0.put 3 1 1 f1).pgs_one hBk.pgs pg1.1
  obtain rfl := hBl.one bl0
  have hz4 := HB3.out.size
  have HB4 := boxed (HB3.out.trans (hFr.below hpw HLb.out hz4))
  have hst := starts_any hBk
  rw [pg1.2] at hst
  clear hBk hBl hFr hrep
  go_wp2_with fail
  refine hst.mono ?_
  rintro e w5 ⟨a5, k5, rfl, ho5, hb5⟩
  have HB5 := boxed (below_step HB4.out (Nat.le_refl _) hb5)
  have hb6 := (laid1 w5 (.cells #[.int .i64 0, .int .i64 2, .int .i64 4] 3)).2.1
  have HB6 := boxed (below_step HB5.out (Nat.le_refl _) hb6)
  have hsm := same_yes _ _ a5 _ 3 k5 3 [0, 2, 4] rfl (w5.alloc (.cells #[.int .i64 0, .int .i64 2, .int .i64 4] 3)) ((own_nat ho5 rfl).below hb6) (three w5) (by omega) (by intro i hi; match i, hi with | 0, _ => simp | 1, _ => simp | 2, _ => simp)
  clear hb5 hb6 ho5 hst
  go_wp2_with fail
  refine hsm.mono ?_
  rintro e w7 ⟨rfl, hb7⟩
  have HB7 := boxed (below_step HB6.out (Nat.le_refl _) hb7)
  clear hb7 hsm
  go_wp2_with fail
  go_ret
  exact ⟨rfl, HB7.out⟩
end Go.Proofs.Ytdpjaafdpgkclaa
