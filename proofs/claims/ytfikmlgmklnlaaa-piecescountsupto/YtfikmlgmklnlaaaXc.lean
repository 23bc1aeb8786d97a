/-
  What Before and Newline answer: how many line ends stand ahead of a place, and where each stands.
-/
import Derived.Test.YtfikmlgmklnlaaaXb
namespace Go.Proofs.Ytfikmlgmklnlaaa
open Go.RowKit
set_option linter.unusedSimpArgs false
set_option linter.unusedVariables false

set_option maxRecDepth 100000 in
/-- countEnds of the first bytes of a piece. -/
theorem countEnds_pre (S : Nat → Nat → Prop) (p : Pc) (K : Nat) (hK : K ≤ p.l.length) (w : World) (h : PcAt S w p) :
    Calls Try.prog 54 #[.slice (some ⟨p.a, p.o, none⟩) K p.cap] w fun e w' => e = .returned (.int .i64 (nl (p.l.take K) : Nat)) ∧ w' = w := by
  obtain ⟨a, o, cap, l⟩ := p
  obtain ⟨⟨-, h1, h2, h3⟩, hc⟩ := h
  simp only at *
  have HC := boxed hc
  have HK := boxed hK
  have hl : l.length ≤ 1099511627776 := h1.2
  have hKb : K ≤ 1099511627776 := by omega
  clear hc h3 h1 h2
  go_enter Try.func54, Try.ntmps54
  go_wp2
  go_loop [3, 7] (fun c i => ∃ k : Nat, k ≤ K ∧ c = .int .i64 (nl (l.take k) : Nat) ∧ i = .int .i64 (k : Nat)) (fun _ i => K - (intOf i).toNat)
  case atStart => exact ⟨0, Nat.zero_le _, by simp [nl], rfl⟩
  case round =>
    obtain ⟨k, hk, rfl, rfl⟩ := hrel
    by_cases hlt : k < K
    · have hcell := (HC.out k (by omega)).2
      have hn : nl (l.take k) ≤ l.length := Nat.le_trans (nl_le _) (by simp; omega)
      have HS := boxed (nl_take_succ l k (by omega))
      generalize nl (l.take k) = N at *
      generalize l.getD k 0 = c at *
      by_cases h10 : c = 10
      · subst h10
        go_wp2
        go_round
        case rel => exact ⟨k + 1, by omega, by rw [HS.out]; simp, by go_num⟩
        case measure => simp [intOf]; omega
      · have hd : ((c : Int) == 10) = false := by simp; omega
        go_wp2
        go_round
        case rel => exact ⟨k + 1, by omega, by rw [HS.out]; simp [h10], by go_num⟩
        case measure => simp [intOf]; omega
    · have hkN : k = K := by omega
      subst hkN
      go_wp2
      go_ret
      exact ⟨rfl, rfl⟩

theorem nl_low (l m : List Nat) (a : Nat) (h : a ≤ l.length) : nl ((l ++ m).take a) = nl (l.take a) := by rw [List.take_append_of_le_length h]
theorem nl_high (l m : List Nat) (a : Nat) : nl ((l ++ m).take (l.length + a)) = nl l + nl (m.take a) := by rw [List.take_length_add_append, nl_app]

set_option maxRecDepth 100000 in
set_option maxHeartbeats 4000000 in
theorem endsAhead_any (S : Nat → Nat → Prop) (T : Tr) (x : Option Addr) (a : Nat) (w : World) (h : IsT S w x T) (hlen : T.flat.length ≤ 1048576) (ha : a ≤ T.flat.length) :
    Calls Try.prog 39 #[.pointer x, .int .i64 (a : Nat)] w fun e w' => e = .returned (.int .i64 (nl (T.flat.take a) : Nat)) ∧ Below w.heap.size w w' := by
  have HI : Box (IsT S w x T ∧ T.flat.length ≤ 1048576 ∧ a ≤ T.flat.length) := boxed ⟨h, hlen, ha⟩
  have hab : a ≤ 1048576 := by omega
  clear h hlen ha
  go_enter Try.func39, Try.ntmps39
  go_wp2
  go_loopg [0, 1, 5] T.pcs.length (fun k q av cv wr => Box (Below w.heap.size w wr) ∧ ∃ (t : Tr) (y : Option Addr) (c m : Nat), q = .pointer y ∧ av = .int .i64 (c : Nat) ∧ cv = .int .i64 (m : Nat) ∧ Box (IsT S wr y t ∧ t.flat.length ≤ 1048576 ∧ c ≤ t.flat.length) ∧ Box (t.pcs.length ≤ k) ∧
      c ≤ 1048576 ∧ m ≤ 1048576 ∧ Box (nl (T.flat.take a) = m + nl (t.flat.take c)))
  case atStart => exact ⟨boxed (Below.refl _ _), T, x, a, 0, rfl, rfl, rfl, HI, boxed (Nat.le_refl _), hab, by omega, boxed (by omega)⟩
  case round =>
    obtain ⟨HB, t, y, c, m, rfl, rfl, rfl, HT, HK, hc, hm, HQ⟩ := hrel
    have htot0 : nl (T.flat.take a) ≤ 1048576 := by have := nl_le (T.flat.take a); have := HI.out.2.1; simp at *; omega
    clear HI
    cases t with
    | nil =>
      obtain rfl : y = none := HT.out.1
      have HR : Box (nl (T.flat.take a) = m) := boxed (by rw [HQ.out]; simp [flat_nil, nl])
      clear HT HQ HK
      go_wp2
      go_ret
      exact ⟨ret_int (by rw [HR.out]), HB.out⟩
    | node l p r =>
      obtain ⟨⟨b, pl, pr, rfl, hs, ⟨c0, c1, c2, c3, -, -, -, -⟩, hp, hl, hr⟩, hlen, hcl⟩ := HT.out
      have htot := total_any S l pl wr hl
      rw [flat_node] at hlen hcl
      simp only [List.length_append] at hlen hcl
      have HQ' : Box (nl (T.flat.take a) = m + nl ((l.flat ++ (p.l ++ r.flat)).take c)) := boxed (by rw [HQ.out, flat_node])
      have HK' : Box (l.pcs.length < gk ∧ r.pcs.length < gk) := boxed (by have := HK.out; simp only [Tr.pcs, List.length_append, List.length_cons] at this; omega)
      have HC : Box (∀ w', Below wr.heap.size wr w' → w'.cell? ⟨b, 0, none⟩ = some (.pointer pl) ∧ w'.cell? ⟨b, 1, none⟩ = some (.pointer pr) ∧ w'.cell? ⟨b, 2, none⟩ = some (.slice (some ⟨p.a, p.o, none⟩) p.l.length p.cap) ∧ w'.cell? ⟨b, 3, none⟩ = some (.int .i64 (nl p.l : Nat))) :=
        boxed (fun w' hb => ⟨hold hb c0, hold hb c1, hold hb c2, hold hb c3⟩)
      have HL := boxed hl
      have HR := boxed hr
      have hbz : b < wr.heap.size := by have := World.block_lt_of_cell? wr _ c0; simpa using this
      have n1 := nl_le l.flat
      have n2 := nl_le p.l
      have hb1' : l.flat.length ≤ 1048576 := by omega
      have hb2' : p.l.length ≤ 1048576 := by omega
      by_cases h1 : c < l.flat.length
      · have t1 : decide ((c : Int) < (l.flat.length : Int)) = true := decide_eq_true (by omega)
        have t1' : decide (c < l.flat.length) = true := decide_eq_true h1
        have HQ2 : Box (nl (T.flat.take a) = m + nl (l.flat.take c)) := boxed (by rw [HQ'.out, nl_low _ _ _ (by omega)])
        have HLen : Box (l.flat.length ≤ 1048576 ∧ c ≤ l.flat.length) := boxed (by omega)
        clear hs hp hl hr HT HQ HK c1 c2 c3 hlen hcl HQ' h1
        generalize hE1 : l.flat.length = L1 at *
        generalize nl l.flat = L2 at *
        generalize hE3 : l.pcs.length = L3 at *
        generalize l.dep = L4 at *
        have HE := boxed hE3
        have HE1 := boxed hE1
        clear hE3 hE1
        go_wp2_with fail
        refine htot.mono ?_
        rintro e w1 ⟨rfl, hb1⟩
        have HB1 := boxed hb1
        have k0 := (HC.out _ hb1).1
        have hz : b < w1.heap.size := Nat.lt_of_lt_of_le hbz hb1.size
        have hz' : w1.heap.size ≠ b := by omega
        clear hb1 htot c0
        go_wp2_with fail
        have hbl := HB1.out.alloc HB1.out.size (Obj.cells #[Value.int .i64 (L1 : Int), Value.int .i64 (L2 : Int), Value.int .i64 (L3 : Int), Value.int .i64 (L4 : Int)] 64)
        go_roundg L3
        case measure => exact HK'.out.1
        case rel => exact ⟨boxed (below_step HB.out (Nat.le_refl _) hbl), l, pl, c, m, rfl, rfl, rfl, boxed ⟨HL.out.below hbl, by rw [HE1.out]; exact HLen.out⟩, boxed (Nat.le_of_eq HE.out), hc, hm, HQ2⟩
      · obtain ⟨K, hK⟩ : ∃ K : Nat, c = l.flat.length + K := ⟨c - l.flat.length, by omega⟩
        subst hK
        have e1 : ((l.flat.length + K : Nat) : Int) - (l.flat.length : Int) = (K : Int) := by omega
        have t1 : decide (((l.flat.length + K : Nat) : Int) < (l.flat.length : Int)) = false := decide_eq_false (by omega)
        have t1' : decide (l.flat.length + K < l.flat.length) = false := decide_eq_false (by omega)
        have e0 : ((l.flat.length + K : Nat) : Int) = (l.flat.length : Int) + (K : Int) := by omega
        have e2 : (l.flat.length : Int) + (K : Int) - (l.flat.length : Int) = (K : Int) := by omega
        have HQ3 : nl (T.flat.take a) = m + (nl l.flat + nl ((p.l ++ r.flat).take K)) := by rw [HQ'.out, nl_high]
        by_cases h2 : K < p.l.length
        · have t2 : decide ((K : Int) < (p.l.length : Int)) = true := decide_eq_true (by omega)
          have t2' : decide (K < p.l.length) = true := decide_eq_true h2
          have HQ4 : nl (T.flat.take a) = m + (nl l.flat + nl (p.l.take K)) := by rw [HQ3, nl_low _ _ _ (by omega)]
          have HQ2 := boxed HQ4
          have hce := fun w' (hb : Below wr.heap.size wr w') => countEnds_pre S p K (by omega) w' (hp.below hb)
          have hsl := slice_head p.a p.o p.l.length p.cap K (by have := hp.1.2.1.1; omega)
          have hnb : nl (p.l.take K) ≤ 1048576 := by have := nl_le (p.l.take K); simp at this; omega
          have hmb : m + nl l.flat ≤ 1048576 := by omega
          clear hs hp hl hr HT HQ HK c1 c2 c3 hlen hcl HQ' h1 HL HR HQ3 HQ4 h2
          generalize nl (p.l.take K) = NK at *
          generalize l.flat.length = L1 at *
          generalize nl l.flat = L2 at *
          generalize l.pcs.length = L3 at *
          generalize l.dep = L4 at *
          generalize p.l.length = P at *
          generalize nl p.l = NP at *
          go_wp2_with fail
          refine htot.mono ?_
          rintro e w1 ⟨rfl, hb1⟩
          have HB1 := boxed hb1
          obtain ⟨k0, k1, k2, k3⟩ := HC.out _ hb1
          have hz : b < w1.heap.size := Nat.lt_of_lt_of_le hbz hb1.size
          have hz' : w1.heap.size ≠ b := by omega
          have hbl := hb1.alloc hb1.size (Obj.cells #[Value.int .i64 (L1 : Int), Value.int .i64 (L2 : Int), Value.int .i64 (L3 : Int), Value.int .i64 (L4 : Int)] 64)
          have HBL := boxed hbl
          clear hb1 htot c0 hbl
          go_wp2_with (go_at_call 54; refine (hce _ HBL.out).mono ?_; rintro e w' ⟨rfl, hw'⟩; subst w')
          go_ret
          exact ⟨ret_int (by rw [HQ2.out]; omega), below_step HB.out (Nat.le_refl _) HBL.out⟩
        · obtain ⟨J, hJ⟩ : ∃ J : Nat, K = p.l.length + J := ⟨K - p.l.length, by omega⟩
          subst hJ
          have t2 : decide (((p.l.length + J : Nat) : Int) < (p.l.length : Int)) = false := decide_eq_false (by omega)
          have t2' : decide (p.l.length + J < p.l.length) = false := decide_eq_false (by omega)
          have HQ4 : nl (T.flat.take a) = (m + nl l.flat + nl p.l) + nl (r.flat.take J) := by rw [HQ3, nl_high]; omega
          have HQ2 := boxed HQ4
          have HLen : Box (r.flat.length ≤ 1048576 ∧ J ≤ r.flat.length) := boxed (by omega)
          have hJb : J ≤ 1048576 := by omega
          have hmb : m + nl l.flat + nl p.l ≤ 1048576 := by omega
          have e3 : (l.flat.length : Int) + ((p.l.length : Int) + (J : Int)) - (l.flat.length : Int) = (p.l.length : Int) + (J : Int) := by omega
          have hw : IntKind.i64.wrap (((p.l.length + J : Nat) : Int) - (p.l.length : Int)) = (J : Int) := by rw [IntKind.wrap_i64]; omega
          have hw2 : IntKind.i64.wrap ((p.l.length : Int) + (J : Int) - (p.l.length : Int)) = (J : Int) := by rw [IntKind.wrap_i64]; omega
          clear hs hp hl hr HT HQ HK c1 c2 c3 hlen hcl HQ' h1 HL HQ3 HQ4 h2
          generalize l.flat.length = L1 at *
          generalize nl l.flat = L2 at *
          generalize l.pcs.length = L3 at *
          generalize l.dep = L4 at *
          generalize p.l.length = P at *
          generalize nl p.l = NP at *
          go_wp2_with fail
          refine htot.mono ?_
          rintro e w1 ⟨rfl, hb1⟩
          have HB1 := boxed hb1
          obtain ⟨k0, k1, k2, k3⟩ := HC.out _ hb1
          have hz : b < w1.heap.size := Nat.lt_of_lt_of_le hbz hb1.size
          have hz' : w1.heap.size ≠ b := by omega
          have hbl := hb1.alloc hb1.size (Obj.cells #[Value.int .i64 (L1 : Int), Value.int .i64 (L2 : Int), Value.int .i64 (L3 : Int), Value.int .i64 (L4 : Int)] 64)
          have HBL := boxed hbl
          clear hb1 htot c0 hbl
          go_wp2_with fail
          go_quiet (fail)
          go_wp2_with fail
          have hbd2 := bel_drewN2 HBL.out nq
          go_roundg r.pcs.length
          case measure => exact HK'.out.2
          case rel => exact ⟨boxed (below_step HB.out (Nat.le_refl _) hbd2), r, pr, J, m + L2 + NP, rfl, by go_num, by go_num, boxed ⟨HR.out.below hbd2, HLen.out⟩, boxed (Nat.le_refl _), hJb, hmb, HQ2⟩
end Go.Proofs.Ytfikmlgmklnlaaa
