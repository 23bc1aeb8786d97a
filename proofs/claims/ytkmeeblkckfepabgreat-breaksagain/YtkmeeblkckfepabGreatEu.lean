/-
  What the methods of a paragraph answer: Items, has, Item, Legal, Ends, End, Start.
-/
import Derived.Test.YtkmeeblkckfepabGreatEt
namespace Go.Proofs.YtkmeeblkckfepabGreat
open Go.RowKit
set_option linter.unusedSimpArgs false
set_option linter.unusedVariables false
section
variable {S : Nat → Prop} {w : World} {pb n : Nat} {I : Nat → Itm}

theorem pitems_any (h : ParaAt S w pb n I) (hn : n ≤ 262144) : Calls Tryz.prog 88 #[.pointer (some ⟨pb, 0, none⟩)] w fun e w' => e = .returned (.int .i64 (n : Int)) ∧ w' = w := by
  obtain ⟨lo, lc, eo, ec, so, sc, uo, uc, hs, ⟨c0, c1, c2, c3, c4⟩, h1, h2, h3, h4⟩ := h
  clear h1 h2 h3 h4
  go_enter Tryz.func88, Tryz.ntmps88
  go_wp2
  go_ret
  exact ⟨rfl, rfl⟩
/-- Is there such an item? -/
def hasI (n : Nat) (k : Int) : Bool := decide (0 ≤ k) && decide (k < (n : Int))
theorem has_any (h : ParaAt S w pb n I) (hn : n ≤ 262144) (k : Int) : Calls Tryz.prog 71 #[.pointer (some ⟨pb, 0, none⟩), .int .i64 k] w fun e w' => e = .returned (.bool (hasI n k)) ∧ w' = w := by
  obtain ⟨lo, lc, eo, ec, so, sc, uo, uc, hs, ⟨c0, c1, c2, c3, c4⟩, h1, h2, h3, h4⟩ := h
  clear h1 h2 h3 h4
  unfold hasI
  by_cases c : 0 ≤ k
  all_goals
    go_enter Tryz.func71, Tryz.ntmps71
    go_wp2
    go_ret
    exact ⟨ret_bool (by first | (simp [c]; done) | (simp [c]; omega)), rfl⟩
theorem ends_any (h : ParaAt S w pb n I) (hn : n ≤ 262144) : Calls Tryz.prog 16 #[.pointer (some ⟨pb, 0, none⟩)] w fun e w' => e = .returned (.int .i64 ((lgs I n n).length : Nat)) ∧ w' = w := by
  obtain ⟨lo, lc, eo, ec, so, sc, uo, uc, hs, ⟨c0, c1, c2, c3, c4⟩, h1, h2, h3, h4⟩ := h
  clear h1 h2 h3 h4
  have hl := lgs_len I n n
  generalize (lgs I n n).length = m at *
  go_enter Tryz.func16, Tryz.ntmps16
  go_wp2
  go_ret
  exact ⟨rfl, rfl⟩
/-- The n-th of the places at which a line may end. -/
def endN (L : List Nat) (k : Int) : Int := if 0 ≤ k ∧ k < (L.length : Int) then (L.getD k.toNat 0 : Nat) else -1
theorem end_any (h : ParaAt S w pb n I) (hn : n ≤ 262144) (k : Int) : Calls Tryz.prog 50 #[.pointer (some ⟨pb, 0, none⟩), .int .i64 k] w fun e w' => e = .returned (.int .i64 (endN (lgs I n n) k)) ∧ w' = w := by
  obtain ⟨lo, lc, eo, ec, so, sc, uo, uc, hs, ⟨c0, c1, c2, c3, c4⟩, h1, h2, h3, h4⟩ := h
  have hl := lgs_len I n n
  clear h1 h3 h4
  generalize lgs I n n = L at *
  unfold endN
  by_cases k0 : k < 0
  · rw [if_neg (by omega)]
    have t1 : decide (k < 0) = true := decide_eq_true k0
    clear h2
    generalize L.length = m at *
    go_enter Tryz.func50, Tryz.ntmps50
    go_wp2
    go_ret
    exact ⟨rfl, rfl⟩
  have t1 : decide (k < 0) = false := decide_eq_false k0
  by_cases k1 : (L.length : Int) ≤ k
  · rw [if_neg (by omega)]
    have t2 : decide ((L.length : Int) ≤ k) = true := decide_eq_true k1
    clear h2
    generalize L.length = m at *
    go_enter Tryz.func50, Tryz.ntmps50
    go_wp2
    go_ret
    exact ⟨rfl, rfl⟩
  rw [if_pos (by omega)]
  obtain ⟨k, rfl⟩ : ∃ j : Nat, k = (j : Int) := ⟨k.toNat, by omega⟩
  have hk : k < L.length := by omega
  have t2 : decide ((L.length : Int) ≤ (k : Int)) = false := decide_eq_false (by omega)
  have t3 : decide (L.length ≤ k) = false := decide_eq_false (by omega)
  obtain ⟨b, e, -, d0⟩ := h2 k hk
  subst e
  rw [Int.toNat_natCast]
  clear h2
  generalize L.getD k 0 = y at *
  generalize L.length = m at *
  go_enter Tryz.func50, Tryz.ntmps50
  go_wp2
  go_ret
  exact ⟨rfl, rfl⟩
set_option maxRecDepth 100000 in
theorem plegal_any (h : ParaAt S w pb n I) (hn : n ≤ 262144) (hl : 0 < (lgs I n n).length) : Calls Tryz.prog 52 #[.pointer (some ⟨pb, 0, none⟩)] w fun e w' => ∃ v', e = .returned v' ∧ w'.ownsRow w.heap.size 3 1 v' (lgs I n n).length (ncs (lgs I n n)) ∧ Below w.heap.size w w' := by
  obtain ⟨lo, lc, eo, ec, so, sc, uo, uc, hs, ⟨c0, c1, c2, c3, c4⟩, h1, h2, h3, h4⟩ := h
  have hcl := cloneN_any S eo ec (lgs I n n) w h2 hl (by have := lgs_len I n n; omega)
  clear h1 h2 h3 h4
  go_enter Tryz.func52, Tryz.ntmps52
  go_wp2_with fail
  refine hcl.mono ?_
  rintro e w1 ⟨v', rfl, ho, hb⟩
  have HO := boxed ho
  have HB := boxed hb
  clear ho hb hcl
  go_wp2_with fail
  go_ret
  exact ⟨v', rfl, HO.out, HB.out⟩
set_option maxRecDepth 100000 in
set_option maxHeartbeats 2000000 in
theorem item_any (h : ParaAt S w pb n I) (hn : n ≤ 262144) (k : Int) : Calls Tryz.prog 62 #[.pointer (some ⟨pb, 0, none⟩), .int .i64 k] w fun e w' => e = .returned (itm I n k).val ∧ Below w.heap.size w w' := by
  have hh := fun W (hb : Below w.heap.size w W) => has_any (h.below hb) hn k
  obtain ⟨lo, lc, eo, ec, so, sc, uo, uc, hs, ⟨c0, c1, c2, c3, c4⟩, h1, h2, h3, h4⟩ := h
  clear h2 h3 h4
  have q1 : pb < w.heap.size := World.block_lt_of_cell? w _ c0
  have q2 : pb ≠ w.heap.size := by omega
  unfold itm hasI at *
  by_cases c : 0 ≤ k ∧ k < (n : Int)
  · rw [if_pos c]
    have e1 : (decide (0 ≤ k) && decide (k < (n : Int))) = true := by simp [c]
    rw [e1] at hh
    obtain ⟨k, rfl⟩ : ∃ j : Nat, k = (j : Int) := ⟨k.toNat, by omega⟩
    have hk : k < n := by omega
    obtain ⟨b, off, e, -, d0, d1, d2, d3, d4, d5, d6, d7, d8⟩ := h1 k hk
    subst e
    have q3 : b < w.heap.size := World.block_lt_of_cell? w _ d0
    have q4 : b ≠ w.heap.size := by omega
    rw [Int.toNat_natCast]
    replace hh := boxed hh
    clear h1 e1
    unfold Itm.val
    generalize I k = x at *
    go_enter Tryz.func62, Tryz.ntmps62
    go_wp2_with (go_at_call 71; refine (hh.out _ ((Below.refl _ _).alloc (Nat.le_refl _) _)).mono ?_; rintro e w' ⟨rfl, hw'⟩; subst w')
    refine bodyPost_ret (v := .agg #[.int .i64 x.k, .int .i64 x.w, .int .i64 x.st, .int .i64 x.sh, .bool x.fill, .int .i64 x.c, .bool x.flag, .int .i64 x.fr, .int .i64 x.to]) (by simp [results, Tryz.results62, go_sem]) rfl ⟨rfl, by go_grown⟩
  · rw [if_neg c]
    have e1 : (decide (0 ≤ k) && decide (k < (n : Int))) = false := by simp; omega
    rw [e1] at hh
    replace hh := boxed hh
    clear h1 e1
    unfold Itm.val Itm.zero
    go_enter Tryz.func62, Tryz.ntmps62
    go_wp2_with (go_at_call 71; refine (hh.out _ ((Below.refl _ _).alloc (Nat.le_refl _) _)).mono ?_; rintro e w' ⟨rfl, hw'⟩; subst w')
    refine bodyPost_ret (v := .agg #[.int .i64 0, .int .i64 0, .int .i64 0, .int .i64 0, .bool false, .int .i64 0, .bool false, .int .i64 0, .int .i64 0]) (by simp [results, Tryz.results62, go_sem]) rfl ⟨rfl, by go_grown⟩
set_option maxHeartbeats 1000000 in
theorem start_any (h : ParaAt S w pb n I) (hn : n ≤ 262144) (a : Int) : Calls Tryz.prog 80 #[.pointer (some ⟨pb, 0, none⟩), .int .i64 a] w fun e w' => e = .returned (.int .i64 (sta I n a : Nat)) ∧ w' = w := by
  have hh := has_any h hn a
  have hi := pitems_any h hn
  obtain ⟨lo, lc, eo, ec, so, sc, uo, uc, hs, ⟨c0, c1, c2, c3, c4⟩, h1, h2, h3, h4⟩ := h
  clear h1 h2 h4
  unfold sta
  unfold hasI at hh
  by_cases a0 : a < 0
  · rw [if_pos a0]
    have t1 : decide (a < 0) = true := decide_eq_true a0
    clear h3
    go_enter Tryz.func80, Tryz.ntmps80
    go_wp2_with fail
    go_ret
    exact ⟨rfl, rfl⟩
  rw [if_neg a0]
  have t1 : decide (a < 0) = false := decide_eq_false a0
  by_cases a1 : a < (n : Int)
  · rw [if_pos a1]
    have e1 : (decide (0 ≤ a) && decide (a < (n : Int))) = true := by simp; omega
    rw [e1] at hh
    obtain ⟨k, rfl⟩ : ∃ j : Nat, a = (j : Int) := ⟨a.toNat, by omega⟩
    have hk : k < n := by omega
    obtain ⟨b, e, -, d0⟩ := h3 k (by simpa using hk)
    subst e
    rw [Int.toNat_natCast]
    have e2 : ((List.range n).map (nxt I n)).getD k 0 = nxt I n k := by simp [hk]
    rw [e2] at d0
    clear h3 e1 e2 hi
    generalize nxt I n k = y at *
    go_enter Tryz.func80, Tryz.ntmps80
    go_wp2_with (go_at_call 71; refine hh.mono ?_; rintro e w' ⟨rfl, hw'⟩; subst w')
    go_ret
    exact ⟨rfl, rfl⟩
  · rw [if_neg a1]
    have e1 : (decide (0 ≤ a) && decide (a < (n : Int))) = false := by simp; omega
    rw [e1] at hh
    clear h3 e1
    go_enter Tryz.func80, Tryz.ntmps80
    go_wp2_with (first | (go_at_call 71; refine hh.mono ?_; rintro e w' ⟨rfl, hw'⟩; subst w') | (go_at_call 88; refine hi.mono ?_; rintro e w' ⟨rfl, hw'⟩; subst w'))
    go_ret
    exact ⟨rfl, rfl⟩
end
end Go.Proofs.YtkmeeblkckfepabGreat
