/-
  What the program's Over and touched answer.
-/
import Derived.Test.YtholifolkimkdaaGc
namespace Go.Proofs.Ytholifolkimkdaa
open Go.RowKit
set_option linter.unusedSimpArgs false
set_option linter.unusedVariables false
section
variable {w w' : World} {xb : Nat} {ao : Option Addr} {cap : Nat} {P : List Nat} {o : Bool}

/-- An interval. -/
abbrev itv (f k n : Nat) : Value := .agg #[.int .i64 (f : Nat), .int .i64 (k : Nat), .int .i64 (n : Nat)]

/-- Three numbers in a block. -/
theorem cells3 {W : World} {rb : Nat} {v0 v1 v2 : Value} {t : TypeId} (e : W.heap[rb]? = some (.cells #[v0, v1, v2] t (0, 0))) : (W.cell? ⟨rb, 0, none⟩ = some v0 ∧ W.cell? ⟨rb, 1, none⟩ = some v1 ∧ W.cell? ⟨rb, 2, none⟩ = some v2) ∧ W.frozen? ⟨rb, 0, none⟩ = false ∧ W.frozen? ⟨rb, 1, none⟩ = false ∧ W.frozen? ⟨rb, 2, none⟩ = false := by
  refine ⟨⟨?_, ?_, ?_⟩, ?_, ?_, ?_⟩
  · simp [World.cell?, e]
  · simp [World.cell?, e]
  · simp [World.cell?, e]
  · unfold World.frozen?; rw [e]; simp
  · unfold World.frozen?; rw [e]; simp
  · unfold World.frozen?; rw [e]; simp
theorem grown_set (w : World) (b i : Nat) (u : Value) : w.grownBy (w.setCell ⟨b, i, none⟩ u) (some b) :=
  ⟨rfl, rfl, rfl, by simp, fun k _ hk => heap_setCell_other w ⟨b, i, none⟩ k u (fun e => hk (by simp [e]))⟩
theorem put3_all {w : World} {rb : Nat} {x0 x1 x2 : Value} {t : TypeId} (h : w.heap[rb]? = some (.cells #[x0, x1, x2] t (0, 0))) (v0 v1 v2 : Value) :
    ((((w.setCell ⟨rb, 0, none⟩ v0).setCell ⟨rb, 1, none⟩ v1).setCell ⟨rb, 2, none⟩ v2).cell? ⟨rb, 0, none⟩ = some v0 ∧ (((w.setCell ⟨rb, 0, none⟩ v0).setCell ⟨rb, 1, none⟩ v1).setCell ⟨rb, 2, none⟩ v2).cell? ⟨rb, 1, none⟩ = some v1 ∧ (((w.setCell ⟨rb, 0, none⟩ v0).setCell ⟨rb, 1, none⟩ v1).setCell ⟨rb, 2, none⟩ v2).cell? ⟨rb, 2, none⟩ = some v2) ∧
    w.grownBy (((w.setCell ⟨rb, 0, none⟩ v0).setCell ⟨rb, 1, none⟩ v1).setCell ⟨rb, 2, none⟩ v2) (some rb) ∧ (((w.setCell ⟨rb, 0, none⟩ v0).setCell ⟨rb, 1, none⟩ v1).setCell ⟨rb, 2, none⟩ v2).heap[rb]? = some (.cells #[v0, v1, v2] t (0, 0)) := by
  have h3 : (((w.setCell ⟨rb, 0, none⟩ v0).setCell ⟨rb, 1, none⟩ v1).setCell ⟨rb, 2, none⟩ v2).heap[rb]? = some (.cells #[v0, v1, v2] t (0, 0)) := by
    simp [World.setCell, Array.getElem?_modify, h]
  exact ⟨(cells3 h3).1, grown_trans (grown_trans (grown_set _ _ _ _) (grown_set _ _ _ _)) (grown_set _ _ _ _), h3⟩
theorem new_below (w : World) (o : Obj) : Below w.heap.size w (w.alloc o) := (Below.refl _ _).alloc (Nat.le_refl _) _
theorem new_size (w : World) (o : Obj) : (w.alloc o).heap.size = w.heap.size + 1 := by simp
set_option maxRecDepth 100000 in
set_option maxHeartbeats 1000000 in
theorem over_out (h : IxAt w xb ao cap P o) (a b : Int) (hab : outb P.sum a b = true) : Calls Try.prog 23 #[.pointer (some ⟨xb, 0, none⟩), .int .i64 a, .int .i64 b] w fun e w' =>
    e = .returned (.tuple #[itv 0 0 0, .int .i64 30]) ∧ Below w.heap.size w w' := by
  obtain ⟨w0, hw0⟩ : ∃ w0, w.alloc (.cells #[.int .i64 0, .int .i64 0, .int .i64 0] 30) = w0 := ⟨_, rfl⟩
  have hb0 : Below w.heap.size w w0 := by rw [← hw0]; exact new_below _ _
  have hz0 : w0.heap.size = w.heap.size + 1 := by rw [← hw0]; exact new_size _ _
  have HN : Box (∀ W, Below w0.heap.size w0 W → W.heap[w.heap.size]? = some (.cells #[.int .i64 0, .int .i64 0, .int .i64 0] 30 (0, 0))) := boxed (fun W hb => by rw [hb.block w.heap.size (by omega), ← hw0]; exact heap_alloc_new w _)
  have HB0 := boxed hb0
  have hs := outside_any (h.below hb0) a b
  rw [hab] at hs
  clear h hab
  go_enter Try.func23, Try.ntmps23
  go_wp2_with fail
  refine hs.mono ?_
  rintro e w1 ⟨rfl, hb1⟩
  obtain ⟨⟨d0, d1, d2⟩, g0, g1, g2⟩ := cells3 (HN.out _ hb1)
  have HP := put3_all (HN.out _ hb1) (.int .i64 0) (.int .i64 0) (.int .i64 0)
  have HB1 := boxed (below_step HB0.out (Nat.le_refl _) hb1)
  have HF := boxed (HB1.out.trans (grown_below HP.2.1 (Nat.le_refl _) HB1.out.size))
  obtain ⟨⟨q0, q1, q2⟩, -, -⟩ := HP
  have HQ := boxed (And.intro q0 (And.intro q1 q2))
  clear hs hb1 hb0 q0 q1 q2
  go_wp2
  refine bodyPost_ret (v := .tuple #[itv 0 0 0, .int .i64 30]) (by simp [results, Try.results23, go_sem, HQ.out.1, HQ.out.2.1, HQ.out.2.2]) rfl ⟨rfl, HF.out⟩

set_option maxRecDepth 100000 in
set_option maxHeartbeats 1000000 in
theorem over_none (h : IxAt w xb ao cap P o) (a : Int) (hab : outb P.sum a a = false) : Calls Try.prog 23 #[.pointer (some ⟨xb, 0, none⟩), .int .i64 a, .int .i64 a] w fun e w' =>
    e = .returned (.tuple #[itv 0 0 0, .int .i64 0]) ∧ Below w.heap.size w w' := by
  obtain ⟨w0, hw0⟩ : ∃ w0, w.alloc (.cells #[.int .i64 0, .int .i64 0, .int .i64 0] 30) = w0 := ⟨_, rfl⟩
  have hb0 : Below w.heap.size w w0 := by rw [← hw0]; exact new_below _ _
  have hz0 : w0.heap.size = w.heap.size + 1 := by rw [← hw0]; exact new_size _ _
  have HN : Box (∀ W, Below w0.heap.size w0 W → W.heap[w.heap.size]? = some (.cells #[.int .i64 0, .int .i64 0, .int .i64 0] 30 (0, 0))) := boxed (fun W hb => by rw [hb.block w.heap.size (by omega), ← hw0]; exact heap_alloc_new w _)
  have HB0 := boxed hb0
  have hs := outside_any (h.below hb0) a a
  rw [hab] at hs
  clear h hab
  go_enter Try.func23, Try.ntmps23
  go_wp2_with fail
  refine hs.mono ?_
  rintro e w1 ⟨rfl, hb1⟩
  obtain ⟨⟨d0, d1, d2⟩, g0, g1, g2⟩ := cells3 (HN.out _ hb1)
  have HP := put3_all (HN.out _ hb1) (.int .i64 0) (.int .i64 0) (.int .i64 0)
  have HB1 := boxed (below_step HB0.out (Nat.le_refl _) hb1)
  have HF := boxed (HB1.out.trans (grown_below HP.2.1 (Nat.le_refl _) HB1.out.size))
  obtain ⟨⟨q0, q1, q2⟩, -, -⟩ := HP
  have HQ := boxed (And.intro q0 (And.intro q1 q2))
  clear hs hb1 hb0 q0 q1 q2
  go_wp2
  refine bodyPost_ret (v := .tuple #[itv 0 0 0, .int .i64 0]) (by simp [results, Try.results23, go_sem, HQ.out.1, HQ.out.2.1, HQ.out.2.2]) rfl ⟨rfl, HF.out⟩

set_option maxRecDepth 100000 in
set_option maxHeartbeats 1000000 in
theorem over_some (h : IxAt w xb ao cap P o) (a b : Nat) (hab : a < b) (hb : b ≤ P.sum) : Calls Try.prog 23 #[.pointer (some ⟨xb, 0, none⟩), .int .i64 (a : Nat), .int .i64 (b : Nat)] w fun e w' =>
    ∃ p q : Nat, e = .returned (.tuple #[itv p (q + 1 - p) (q + 1 - p), .int .i64 0]) ∧ p ≤ q ∧ q < P.length ∧ Hd P a p ∧ Hd P (b - 1) q ∧ Below w.heap.size w w' := by
  obtain ⟨w0, hw0⟩ : ∃ w0, w.alloc (.cells #[.int .i64 0, .int .i64 0, .int .i64 0] 30) = w0 := ⟨_, rfl⟩
  have hb0 : Below w.heap.size w w0 := by rw [← hw0]; exact new_below _ _
  have hz0 : w0.heap.size = w.heap.size + 1 := by rw [← hw0]; exact new_size _ _
  have HN : Box (∀ W, Below w0.heap.size w0 W → W.heap[w.heap.size]? = some (.cells #[.int .i64 0, .int .i64 0, .int .i64 0] 30 (0, 0))) := boxed (fun W hb => by rw [hb.block w.heap.size (by omega), ← hw0]; exact heap_alloc_new w _)
  have HB0 := boxed hb0
  have hs := outside_any (h.below hb0) a b
  have h0 : outb P.sum a b = false := (outb_iff _ _ _).2 (by omega)
  rw [h0] at hs
  have HH := boxed (fun W (hb : Below w0.heap.size w0 W) => holder_any (h.below (below_step hb0 (Nat.le_refl _) hb)) a)
  have HK := boxed (fun W (hb : Below w0.heap.size w0 W) => holder_any (h.below (below_step hb0 (Nat.le_refl _) hb)) (b - 1))
  have z : ((a : Int) == (b : Int)) = false := by rw [beq_eq_false_iff_ne]; omega
  have z' : (a == b) = false := by rw [beq_eq_false_iff_ne]; omega
  have hm := h.many
  have hl := h.len
  have HO : Box (∀ p q, Hd P a p → Hd P (b - 1) q → p ≤ q ∧ q < P.length) := boxed (fun p q h1 h2 => by
    rcases h1 with ⟨g1, g2⟩ | ⟨g1, g2, g3⟩
    · omega
    · rcases h2 with ⟨k1, k2⟩ | ⟨k1, k2, k3⟩
      · omega
      · refine ⟨?_, k1⟩
        by_cases c : p ≤ q
        · exact c
        · have := Bg_mono P (q + 1) p (by omega)
          omega)
  have hcl : b ≤ 65536 := by omega
  clear h h0 hb hb0
  obtain ⟨c, rfl⟩ : ∃ c, b = c + 1 := ⟨b - 1, by omega⟩
  rw [Nat.add_sub_cancel] at HK
  rw [Nat.add_sub_cancel] at HO
  rw [Nat.add_sub_cancel]
  go_enter Try.func23, Try.ntmps23
  go_wp2_with fail
  refine hs.mono ?_
  rintro e w1 ⟨rfl, hb1⟩
  have HB1 := boxed hb1
  clear hb1 hs
  go_wp2_with fail
  refine (HH.out _ HB1.out).mono ?_
  rintro e w2 ⟨p, rfl, hp0, hp, hb2⟩
  have HB2 := boxed (below_step HB1.out (Nat.le_refl _) hb2)
  have HP := boxed hp
  clear hb2 HH hp
  have ec : ((c + 1 : Nat) : Int) - 1 = (c : Nat) := by omega
  go_wp2_with fail
  refine (HK.out _ HB2.out).mono ?_
  rintro e w3 ⟨q, rfl, hq0, hq, hb3⟩
  have HB3 := boxed (below_step HB2.out (Nat.le_refl _) hb3)
  have HQ := boxed hq
  have hpq := HO.out p q HP.out hq
  clear hb3 HK hq HO
  obtain ⟨m, hm'⟩ : ∃ m : Nat, q + 1 - p = m := ⟨_, rfl⟩
  have em : (q : Int) + 1 - (p : Int) = (m : Int) := by omega
  obtain ⟨⟨d0, d1, d2⟩, g0, g1, g2⟩ := cells3 (HN.out _ HB3.out)
  have HT := put3_all (HN.out _ HB3.out) (.int .i64 (p : Nat)) (.int .i64 (m : Nat)) (.int .i64 (m : Nat))
  have HB4 := boxed (HB0.out.trans (HB3.out.mono (by omega)))
  have HF := boxed (HB4.out.trans (grown_below HT.2.1 (Nat.le_refl _) HB4.out.size))
  obtain ⟨⟨q0, q1, q2⟩, -, -⟩ := HT
  have HR := boxed (And.intro q0 (And.intro q1 q2))
  have HE := boxed hm'
  clear q0 q1 q2 hm'
  go_wp2
  refine bodyPost_ret (v := .tuple #[itv p m m, .int .i64 0]) (by simp [results, Try.results23, go_sem, HR.out.1, HR.out.2.1, HR.out.2.2]) rfl ?_
  exact ⟨p, q, by rw [HE.out], hpq.1, hpq.2, HP.out, HQ.out, HF.out⟩

set_option maxRecDepth 100000 in
set_option maxHeartbeats 1000000 in
theorem touched_in (h : IxAt w xb ao cap P o) (a : Nat) (ha : a < P.sum) : Calls Try.prog 37 #[.pointer (some ⟨xb, 0, none⟩), .int .i64 (a : Nat)] w fun e w' =>
    ∃ q : Nat, e = .returned (.tuple #[.int .i64 (q : Nat), .int .i64 1]) ∧ q < P.length ∧ Bg P q ≤ a ∧ a < Bg P (q + 1) ∧ Below w.heap.size w w' := by
  have hh := holder_any h a
  have HC := boxed (fun W (hb : Below w.heap.size w W) => count_any (h.below hb))
  clear h
  go_enter Try.func37, Try.ntmps37
  go_wp2_with fail
  refine hh.mono ?_
  rintro e w1 ⟨q, rfl, -, hq, hb1⟩
  have HB1 := boxed hb1
  obtain ⟨q1, q2, q3⟩ : q < P.length ∧ Bg P q ≤ a ∧ a < Bg P (q + 1) := by
    rcases hq with ⟨g1, g2⟩ | g
    · omega
    · exact g
  have HQ := boxed (And.intro q1 (And.intro q2 q3))
  have t1 : decide ((q : Int) < (P.length : Int)) = true := decide_eq_true (by omega)
  have t1' : decide (q < P.length) = true := decide_eq_true (by omega)
  clear hb1 hh hq ha q2 q3
  go_wp2_with (go_at_call 25; refine (HC.out _ HB1.out).mono ?_; rintro e w1' ⟨rfl, hw'⟩; subst w1')
  go_ret2
  exact ⟨q, rfl, HQ.out.1, HQ.out.2.1, HQ.out.2.2, HB1.out⟩

set_option maxRecDepth 100000 in
set_option maxHeartbeats 1000000 in
theorem touched_end (h : IxAt w xb ao cap P o) (ho : o = true → 0 < P.length) (hp : 0 < P.length → 0 < P.sum) : Calls Try.prog 37 #[.pointer (some ⟨xb, 0, none⟩), .int .i64 (P.sum : Nat)] w fun e w' =>
    e = .returned (.tuple #[.int .i64 ((P.length - o.toNat : Nat) : Int), .int .i64 (o.toNat : Nat)]) ∧ Below w.heap.size w w' := by
  have hh := holder_any h P.sum
  have HC := boxed (fun W (hb : Below w.heap.size w W) => And.intro (count_any (h.below hb)) (h.below hb).c1)
  have HQ : Box (∀ q, Hd P P.sum q → q = P.length) := boxed (fun q hq => by
    rcases hq with ⟨g1, g2⟩ | ⟨g1, g2, g3⟩
    · exact g2
    · have := Bg_le P (q + 1); omega)
  have hm := h.many
  clear h hp
  go_enter Try.func37, Try.ntmps37
  go_wp2_with fail
  refine hh.mono ?_
  rintro e w1 ⟨q, rfl, -, hq, hb1⟩
  have hq' := HQ.out q hq
  subst q
  have HB1 := boxed hb1
  have d1 := (HC.out _ hb1).2
  have HCC := boxed (HC.out _ hb1).1
  have t1 : decide ((P.length : Int) < (P.length : Int)) = false := decide_eq_false (by omega)
  have t1' : decide (P.length < P.length) = false := decide_eq_false (by omega)
  clear hb1 hh hq HQ HC
  generalize hN : P.length = n at *
  cases o with
  | true =>
    obtain ⟨m, rfl⟩ : ∃ m, n = m + 1 := ⟨n - 1, by have := ho rfl; omega⟩
    clear ho
    go_wp2_with (go_at_call 25; refine HCC.out.mono ?_; rintro e w1' ⟨rfl, hw'⟩; subst w1')
    go_ret2
    exact ⟨by rw [hN]; simp, HB1.out⟩
  | false =>
    clear ho
    go_wp2_with (go_at_call 25; refine HCC.out.mono ?_; rintro e w1' ⟨rfl, hw'⟩; subst w1')
    go_ret2
    exact ⟨by rw [hN]; simp, HB1.out⟩
end
end Go.Proofs.Ytholifolkimkdaa
