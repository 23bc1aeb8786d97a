/-
  What the program's Same does: the same styles of as many bytes.
-/
import Derived.Test.YtdchpiihjjjpfabZa
namespace Go.Proofs.Ytdchpiihjjjpfab
open Go.RowKit
set_option linter.unusedSimpArgs false
set_option linter.unusedVariables false

/-- What is left of a side. -/
structure Side where
  l : Int
  y : Int
  ao : Option Addr
  m : Nat
  cap : Nat
  L : Nat → Int
  Y : Nat → Int
def Side.den (z : Side) : List Int := List.replicate z.l.toNat z.y ++ exs z.L z.Y z.m
def Side.mu (z : Side) : Nat := 2 * z.m + pz z.l
/-- A side as it lies in memory: its box q, its list. -/
structure SdAt (n₀ : Nat) (W : World) (q : Nat) (z : Side) : Prop where
  bx : W.heap[q]? = some (.cells #[.int .i64 z.l, .int .i64 z.y] 25 (0, 0))
  at_ : P2At (· < n₀) W z.ao z.m z.L z.Y
  cap : z.m ≤ z.cap
  i64 : I64 z.l ∧ I64 z.y
theorem SdAt.below {n₀ : Nat} {W W' : World} {q : Nat} {z : Side} (h : SdAt n₀ W q z) (hb : Below W.heap.size W W') : SdAt n₀ W' q z :=
  ⟨by rw [hb.block _ (Array.getElem?_eq_some_iff.1 h.bx).1]; exact h.bx, h.at_.below hb, h.cap, h.i64⟩
theorem SdAt.other {n₀ : Nat} {W W' : World} {q r : Nat} {z : Side} (h : SdAt n₀ W q z) (hg : W.grownBy W' (some r)) (hr : n₀ ≤ r) (hne : q ≠ r) : SdAt n₀ W' q z :=
  ⟨by rw [hg.block _ (Array.getElem?_eq_some_iff.1 h.bx).1 (fun e => by injection e; omega)]; exact h.bx, h.at_.keep (fun b i u hs hc => ⟨hs, hg.cell hc (fun e => by injection e with e; dsimp only at e; omega)⟩), h.cap, h.i64⟩
/-- What underway answered is put into the box. -/
theorem SdAt.put {n₀ : Nat} {W : World} {q : Nat} {x0 x1 : Value} (hb : W.heap[q]? = some (.cells #[x0, x1] 25 (0, 0))) (z : Side) (h : P2At (· < n₀) W z.ao z.m z.L z.Y) (hc : z.m ≤ z.cap) (hi : I64 z.l ∧ I64 z.y) (hq : n₀ ≤ q) :
    SdAt n₀ ((W.setCell ⟨q, 0, none⟩ (.int .i64 z.l)).setCell ⟨q, 1, none⟩ (.int .i64 z.y)) q z := by
  have hg := (put2_all (v0 := .int .i64 z.l) (v1 := .int .i64 z.y) hb).2.2
  exact ⟨set1_heap (set0_heap hb), h.keep (fun b i u hs hc => ⟨hs, hg.cell hc (fun e => by injection e with e; dsimp only at e; omega)⟩), hc, hi⟩
structure SmI (w : World) (D1 D2 : List Int) (W : World) (z1 z2 : Side) : Prop where
  s1 : SdAt w.heap.size W w.heap.size z1
  s2 : SdAt w.heap.size W (w.heap.size + 1) z2
  eq : z1.den = z2.den ↔ D1 = D2
  bel : Below w.heap.size w W
theorem SmI.below {w : World} {D1 D2 : List Int} {W W' : World} {z1 z2 : Side} (h : SmI w D1 D2 W z1 z2) (hb : Below W.heap.size W W') : SmI w D1 D2 W' z1 z2 :=
  ⟨h.s1.below hb, h.s2.below hb, h.eq, h.bel.trans (hb.mono h.bel.size)⟩
/-- The first side steps on. -/
theorem SmI.one {w : World} {D1 D2 : List Int} {W : World} {z1 z2 z : Side} (h : SmI w D1 D2 W z1 z2) (ha : P2At (· < w.heap.size) W z.ao z.m z.L z.Y) (hc : z.m ≤ z.cap) (hi : I64 z.l ∧ I64 z.y) (hd : z.den = z2.den ↔ z1.den = z2.den) :
    SmI w D1 D2 ((W.setCell ⟨w.heap.size, 0, none⟩ (.int .i64 z.l)).setCell ⟨w.heap.size, 1, none⟩ (.int .i64 z.y)) z z2 := by
  have hg := (put2_all (v0 := .int .i64 z.l) (v1 := .int .i64 z.y) h.s1.bx).2.2
  exact ⟨SdAt.put h.s1.bx z ha hc hi (Nat.le_refl _), h.s2.other hg (Nat.le_refl _) (by omega), hd.trans h.eq, h.bel.trans (grown_below hg (Nat.le_refl _) h.bel.size)⟩
theorem SmI.two {w : World} {D1 D2 : List Int} {W : World} {z1 z2 z : Side} (h : SmI w D1 D2 W z1 z2) (ha : P2At (· < w.heap.size) W z.ao z.m z.L z.Y) (hc : z.m ≤ z.cap) (hi : I64 z.l ∧ I64 z.y) (hd : z1.den = z.den ↔ z1.den = z2.den) :
    SmI w D1 D2 ((W.setCell ⟨w.heap.size + 1, 0, none⟩ (.int .i64 z.l)).setCell ⟨w.heap.size + 1, 1, none⟩ (.int .i64 z.y)) z1 z := by
  have hg := (put2_all (v0 := .int .i64 z.l) (v1 := .int .i64 z.y) h.s2.bx).2.2
  exact ⟨h.s1.other hg (by omega) (by omega), SdAt.put h.s2.bx z ha hc hi (by omega), hd.trans h.eq, h.bel.trans (grown_below hg (by omega) h.bel.size)⟩

theorem i64_zero : I64 0 := ⟨by omega, by omega⟩
def rdL (W : World) (q : Nat) : Int := match W.cell? ⟨q, 0, none⟩ with | some (.int _ v) => v | _ => 0
def smu (w : World) (va vb : Value) (W : World) : Nat := (match va with | .slice _ k _ => 2 * k | _ => 0) + (match vb with | .slice _ k _ => 2 * k | _ => 0) + pz (rdL W w.heap.size) + pz (rdL W (w.heap.size + 1))
theorem smu_eq {w : World} {D1 D2 : List Int} {W : World} {z1 z2 : Side} (h : SmI w D1 D2 W z1 z2) : smu w (.slice z1.ao z1.m z1.cap) (.slice z2.ao z2.m z2.cap) W = 2 * z1.m + pz z1.l + (2 * z2.m + pz z2.l) := by
  unfold smu rdL
  rw [(box_facts h.s1.bx).1, (box_facts h.s2.bx).1]
  simp only
  omega
/-- As many bytes as both have are taken from both. -/
theorem SmI.cut {w : World} {D1 D2 : List Int} {W : World} {z1 z2 : Side} (h : SmI w D1 D2 W z1 z2) (n : Int) (hn : n ≤ z1.l ∧ n ≤ z2.l ∧ 0 ≤ n) (hy : z1.y = z2.y) :
    SmI w D1 D2 ((W.setCell ⟨w.heap.size, 0, none⟩ (.int .i64 (z1.l - n))).setCell ⟨w.heap.size + 1, 0, none⟩ (.int .i64 (z2.l - n))) { z1 with l := z1.l - n } { z2 with l := z2.l - n } := by
  have g1 : W.grownBy (W.setCell ⟨w.heap.size, 0, none⟩ (.int .i64 (z1.l - n))) (some w.heap.size) := grown_set _ _ _ _
  have g2 := grown_set (W.setCell ⟨w.heap.size, 0, none⟩ (.int .i64 (z1.l - n))) (w.heap.size + 1) 0 (.int .i64 (z2.l - n))
  have a1 := h.s1.i64
  have a2 := h.s2.i64
  have s1' : SdAt w.heap.size (W.setCell ⟨w.heap.size, 0, none⟩ (.int .i64 (z1.l - n))) w.heap.size { z1 with l := z1.l - n } :=
    ⟨set0_heap h.s1.bx, h.s1.at_.keep (fun b i u hs hc => ⟨hs, g1.cell hc (fun e => by injection e with e; dsimp only at e; omega)⟩), h.s1.cap, ⟨by have := a1.1.1; have := a1.1.2; show _ ≤ z1.l - n; omega, by have := a1.1.2; show z1.l - n ≤ _; omega⟩, a1.2⟩
  have s2' := h.s2.other g1 (Nat.le_refl _) (by omega)
  have hd : ({ z1 with l := z1.l - n } : Side).den = ({ z2 with l := z2.l - n } : Side).den ↔ z1.den = z2.den := by
    unfold Side.den
    dsimp only
    rw [show z1.l.toNat = n.toNat + (z1.l - n).toNat from by omega, show z2.l.toNat = n.toNat + (z2.l - n).toNat from by omega, ← hy, ← List.replicate_append_replicate, ← List.replicate_append_replicate, List.append_assoc, List.append_assoc, List.append_right_inj]
  refine ⟨s1'.other g2 (by omega) (by omega), ⟨set0_heap s2'.bx, s2'.at_.keep (fun b i u hs hc => ⟨hs, g2.cell hc (fun e => by injection e with e; dsimp only at e; omega)⟩), s2'.cap, ⟨by have := a2.1.1; have := a2.1.2; show _ ≤ z2.l - n; omega, by have := a2.1.2; show z2.l - n ≤ _; omega⟩, a2.2⟩, hd.trans h.eq, ?_⟩
  exact (h.bel.setCell (p := ⟨w.heap.size, 0, none⟩) (Nat.le_refl _) _).setCell (p := ⟨w.heap.size + 1, 0, none⟩) (by show w.heap.size ≤ w.heap.size + 1; omega) _
theorem den_nil {z : Side} (h : z.l ≤ 0) (hm : z.m = 0) : z.den = [] := by unfold Side.den; rw [hm, show z.l.toNat = 0 from by omega]; rfl
theorem den_cons {z : Side} (h : 0 < z.l) : ∃ r, z.den = z.y :: r := by
  unfold Side.den
  obtain ⟨k, hk⟩ : ∃ k, z.l.toNat = k + 1 := ⟨z.l.toNat - 1, by omega⟩
  rw [hk, List.replicate_succ]
  exact ⟨_, rfl⟩

set_option maxRecDepth 100000 in
set_option maxHeartbeats 4000000 in
theorem psame_any (w : World) (ao bo : Option Addr) (m1 c1 m2 c2 : Nat) (L1 Y1 L2 Y2 : Nat → Int) (h1 : P2At (fun _ => True) w ao m1 L1 Y1) (h2 : P2At (fun _ => True) w bo m2 L2 Y2) (k1 : m1 ≤ c1) (k2 : m2 ≤ c2) :
    Calls Try.prog 6 #[.slice ao m1 c1, .slice bo m2 c2] w fun e w' => ∃ r, e = .returned (.bool r) ∧ (r = true ↔ exs L1 Y1 m1 = exs L2 Y2 m2) ∧ Below w.heap.size w w' := by
  have H0 : Box (SmI w (exs L1 Y1 m1) (exs L2 Y2 m2) ((w.alloc (.cells #[.int .i64 0, .int .i64 0] 25)).alloc (.cells #[.int .i64 0, .int .i64 0] 25)) ⟨0, 0, ao, m1, c1, L1, Y1⟩ ⟨0, 0, bo, m2, c2, L2, Y2⟩) := boxed (by
    have hb : Below w.heap.size w ((w.alloc (.cells #[.int .i64 0, .int .i64 0] 25)).alloc (.cells #[.int .i64 0, .int .i64 0] 25)) := below_two w _ _
    refine ⟨⟨?_, h1.keep (fun b i u _ hc => ⟨World.block_lt_of_cell? w ⟨b, i, none⟩ hc, hold hb hc⟩), k1, ⟨i64_zero, i64_zero⟩⟩, ⟨?_, h2.keep (fun b i u _ hc => ⟨World.block_lt_of_cell? w ⟨b, i, none⟩ hc, hold hb hc⟩), k2, ⟨i64_zero, i64_zero⟩⟩, by simp [Side.den], hb⟩
    · rw [Below.heap_alloc _ _ _ (by simp)]; exact heap_alloc_new w _
    · have := heap_alloc_new (w.alloc (.cells #[.int .i64 0, .int .i64 0] 25)) (.cells #[.int .i64 0, .int .i64 0] 25)
      rwa [World.size_alloc] at this)
  obtain ⟨D1, hD1⟩ : ∃ D, exs L1 Y1 m1 = D := ⟨_, rfl⟩
  obtain ⟨D2, hD2⟩ : ∃ D, exs L2 Y2 m2 = D := ⟨_, rfl⟩
  rw [hD1, hD2] at H0 ⊢
  clear h1 h2 hD1 hD2
  go_enter Try.func6, Try.ntmps6
  go_wp2_with fail
  go_loopw [0, 1] (fun va vb wr => ∃ z1 z2 : Side, va = .slice z1.ao z1.m z1.cap ∧ vb = .slice z2.ao z2.m z2.cap ∧ Box (SmI w D1 D2 wr z1 z2)) (fun va vb wr => smu w va vb wr)
  case atStart => exact ⟨_, _, rfl, rfl, H0⟩
  case round =>
    obtain ⟨z1, z2, rfl, rfl, HI⟩ := hrel
    have HM := boxed (smu_eq HI.out)
    have HU1 := boxed (underway_any (· < w.heap.size) wr z1.l z1.y z1.ao z1.m z1.cap z1.L z1.Y HI.out.s1.at_ HI.out.s1.cap HI.out.s1.i64)
    obtain ⟨a0, a1, a2, a3⟩ := box_facts HI.out.s1.bx
    obtain ⟨b0, b1, b2, b3⟩ := box_facts HI.out.s2.bx
    have hzw : (w.heap.size : Nat) ≠ w.heap.size + 1 := by omega
    go_wp2_with fail
    refine HU1.out.mono ?_
    rintro e w1 ⟨l1, y1, ao1, m1', cap1, L1', Y1', rfl, hp1, hc1, hm1, hi1, hd1, hz1, hb1⟩
    have HS1 := boxed (HI.out.below hb1)
    have HS2 := boxed (HS1.out.one (z := ⟨l1, y1, ao1, m1', cap1, L1', Y1'⟩) hp1 hc1 hi1 (by unfold Side.den; dsimp only; rw [hd1]))
    have HU2 := boxed (underway_any (· < w.heap.size) _ z2.l z2.y z2.ao z2.m z2.cap z2.L z2.Y HS2.out.s2.at_ HS2.out.s2.cap HS2.out.s2.i64)
    obtain ⟨a0, a1, a2, a3⟩ := box_facts HS1.out.s1.bx
    obtain ⟨b0, b1, b2, b3⟩ := box_facts HS1.out.s2.bx
    clear hp1 hc1 hi1 hb1 HU1 hd1
    go_wp2_with fail
    refine HU2.out.mono ?_
    rintro e w2 ⟨l2, y2, ao2, m2', cap2, L2', Y2', rfl, hp2, hc2, hm2, hi2, hd2, hz2, hb2⟩
    have HS3 := boxed (HS2.out.below hb2)
    have HS4 := boxed (HS3.out.two (z := ⟨l2, y2, ao2, m2', cap2, L2', Y2'⟩) hp2 hc2 hi2 (by unfold Side.den; dsimp only; rw [hd2]))
    obtain ⟨a0, a1, a2, a3⟩ := box_facts HS3.out.s1.bx
    obtain ⟨b0, b1, b2, b3⟩ := box_facts HS3.out.s2.bx
    dsimp only at a0 a1
    clear hp2 hc2 hi2 hb2 HU2 hd2
    by_cases c1 : l1 ≤ 0
    · have t1 : decide (l1 ≤ 0) = true := decide_eq_true c1
      have HN1 : Box ((⟨l1, y1, ao1, m1', cap1, L1', Y1'⟩ : Side).den = []) := boxed (den_nil c1 (by show m1' = 0; omega))
      by_cases c2 : l2 ≤ 0
      · have t2 : decide (l2 ≤ 0) = true := decide_eq_true c2
        have HN2 : Box ((⟨l2, y2, ao2, m2', cap2, L2', Y2'⟩ : Side).den = []) := boxed (den_nil c2 (by show m2' = 0; omega))
        go_wp2
        go_ret
        exact ⟨true, rfl, ⟨fun _ => HS4.out.eq.1 (by rw [HN1.out, HN2.out]), fun _ => rfl⟩, HS4.out.bel⟩
      · have t2 : decide (l2 ≤ 0) = false := decide_eq_false c2
        obtain ⟨r, hr⟩ := den_cons (z := ⟨l2, y2, ao2, m2', cap2, L2', Y2'⟩) (by show 0 < l2; omega)
        have HN2 := boxed hr
        clear hr
        go_wp2
        go_ret
        exact ⟨false, rfl, ⟨(fun h => by cases h), fun h => by have := HS4.out.eq.2 h; rw [HN1.out, HN2.out] at this; cases this⟩, HS4.out.bel⟩
    · have t1 : decide (l1 ≤ 0) = false := decide_eq_false c1
      obtain ⟨r1, hr1⟩ := den_cons (z := ⟨l1, y1, ao1, m1', cap1, L1', Y1'⟩) (by show 0 < l1; omega)
      have HN1 := boxed hr1
      clear hr1
      by_cases c2 : l2 ≤ 0
      · have t2 : decide (l2 ≤ 0) = true := decide_eq_true c2
        have HN2 : Box ((⟨l2, y2, ao2, m2', cap2, L2', Y2'⟩ : Side).den = []) := boxed (den_nil c2 (by show m2' = 0; omega))
        go_wp2
        go_ret
        exact ⟨false, rfl, ⟨(fun h => by cases h), fun h => by have := HS4.out.eq.2 h; rw [HN1.out, HN2.out] at this; cases this⟩, HS4.out.bel⟩
      · have t2 : decide (l2 ≤ 0) = false := decide_eq_false c2
        obtain ⟨r2, hr2⟩ := den_cons (z := ⟨l2, y2, ao2, m2', cap2, L2', Y2'⟩) (by show 0 < l2; omega)
        have HN2 := boxed hr2
        clear hr2
        by_cases c3 : y1 = y2
        · have t3 : (y1 == y2) = true := by simpa using c3
          obtain ⟨k, hk⟩ : ∃ k : Int, (if l2 < l1 then l2 else l1) = k := ⟨_, rfl⟩
          have hk1 : k ≤ l1 ∧ k ≤ l2 ∧ 0 ≤ k ∧ (k = l1 ∨ k = l2) := by split at hk <;> omega
          have hk2 : min l1 l2 = k := by omega
          have i1 := HS4.out.s1.i64.1
          have i2 := HS4.out.s2.i64.1
          dsimp only at i1 i2
          have w1a : IntKind.i64.wrap (l1 - k) = l1 - k := by have := i1.1; have := i1.2; rw [IntKind.wrap_i64]; omega
          have w2a : IntKind.i64.wrap (l2 - k) = l2 - k := by have := i2.1; have := i2.2; rw [IntKind.wrap_i64]; omega
          have HS5 := boxed (HS4.out.cut k ⟨hk1.1, hk1.2.1, hk1.2.2.1⟩ c3)
          have hmm : 2 * m1' + pz (l1 - k) + (2 * m2' + pz (l2 - k)) < 2 * z1.m + pz z1.l + (2 * z2.m + pz z2.l) := by
            have e1 : pz l1 = 1 := if_pos (by omega)
            have e2 : pz l2 = 1 := if_pos (by omega)
            rw [e1] at hm1
            rw [e2] at hm2
            have e3 := pz_le (l1 - k)
            have e4 := pz_le (l2 - k)
            rcases hk1.2.2.2 with rfl | rfl
            · have e5 : pz (k - k) = 0 := if_neg (by omega)
              omega
            · have e5 : pz (k - k) = 0 := if_neg (by omega)
              omega
          have HMM := boxed hmm
          clear hm1 hm2 hmm i1 i2
          go_wp2_with fail
          exact ⟨⟨_, _, rfl, rfl, HS5⟩, by have e1 := smu_eq HS5.out; dsimp only at e1; rw [e1, HM.out]; exact HMM.out⟩
        · have t3 : (y1 == y2) = false := by simpa using c3
          go_wp2
          go_ret
          exact ⟨false, rfl, ⟨(fun h => by cases h), fun h => by have := HS4.out.eq.2 h; rw [HN1.out, HN2.out] at this; injection this with h1 h2; exact absurd h1 c3⟩, HS4.out.bel⟩
end Go.Proofs.Ytdchpiihjjjpfab
