/-
  What Newline and Before of a text answer.
-/
import Derived.Test.YtfikmlgmklnlaaaXc
namespace Go.Proofs.Ytfikmlgmklnlaaa
open Go.RowKit
set_option linter.unusedSimpArgs false
set_option linter.unusedVariables false

theorem les_low (a b : List Nat) : ∀ k, k ≤ a.length → les (a ++ b) k = les a k
  | 0, _ => rfl
  | k + 1, h => by
    simp only [les]
    rw [les_low a b k (by omega)]
    have : (a ++ b).getD k 0 = a.getD k 0 := by simp only [List.getD_eq_getElem?_getD]; rw [List.getElem?_append_left (by omega)]
    rw [this]
theorem les_app (a b : List Nat) : ∀ k, k ≤ b.length → les (a ++ b) (a.length + k) = les a a.length ++ (les b k).map (fun i => a.length + i)
  | 0, _ => by rw [Nat.add_zero, les_low a b _ (Nat.le_refl _)]; simp [les]
  | k + 1, h => by
    rw [← Nat.add_assoc]
    simp only [les]
    rw [les_app a b k (by omega)]
    have : (a ++ b).getD (a.length + k) 0 = b.getD k 0 := by simp only [List.getD_eq_getElem?_getD]; rw [List.getElem?_append_right (by omega)]; congr 2; omega
    rw [this]
    split <;> simp
theorem les_pre (l : List Nat) (k : Nat) : ∀ d, ∃ t, les l (k + d) = les l k ++ t
  | 0 => ⟨[], by simp⟩
  | d + 1 => by
    obtain ⟨t, ht⟩ := les_pre l k d
    rw [← Nat.add_assoc]
    simp only [les]
    split
    · exact ⟨t ++ [k + d], by rw [ht]; simp⟩
    · exact ⟨t, ht⟩
theorem les_hit (l : List Nat) (k : Nat) (hk : k < l.length) (h : l.getD k 0 = 10) : (les l l.length).getD (les l k).length 0 = k := by
  obtain ⟨t, ht⟩ := les_pre l (k + 1) (l.length - (k + 1))
  rw [show k + 1 + (l.length - (k + 1)) = l.length by omega] at ht
  rw [ht]
  have : les l (k + 1) = les l k ++ [k] := by simp only [les]; rw [if_pos h]
  rw [this]
  simp [List.getD_eq_getElem?_getD]

/-- Where a line end stands, and whether there is one of that number. -/
def fe (l : List Nat) (n : Int) : Nat × Bool := if 0 ≤ n ∧ n < (nl l : Int) then ((les l l.length).getD n.toNat 0, true) else (0, false)
def shb (o : Nat) (R : Nat × Bool) : Nat × Bool := if R.2 = true then (o + R.1, true) else (0, false)
theorem shb_shb (o q : Nat) (R : Nat × Bool) : shb o (shb q R) = shb (o + q) R := by
  unfold shb
  cases h : R.2 <;> simp [h] <;> omega
theorem shb_zero (l : List Nat) (n : Int) : shb 0 (fe l n) = fe l n := by
  unfold shb fe
  split <;> simp
theorem fe_nil (n : Int) : fe [] n = (0, false) := by
  unfold fe
  rw [if_neg]
  simp only [nl, List.countP_nil]
  omega
theorem fe_low (a b : List Nat) (n : Int) (h : n < (nl a : Int)) : fe (a ++ b) n = fe a n := by
  unfold fe
  by_cases h0 : 0 ≤ n
  · have hla := les_all a
    rw [if_pos ⟨h0, by rw [nl_app]; omega⟩, if_pos ⟨h0, h⟩, List.length_append, les_app a b b.length (Nat.le_refl _)]
    congr 1
    simp only [List.getD_eq_getElem?_getD]
    rw [List.getElem?_append_left (by omega)]
  · rw [if_neg (by omega), if_neg (by omega)]
theorem fe_high (a b : List Nat) (n : Int) (h : (nl a : Int) ≤ n) : fe (a ++ b) n = shb a.length (fe b (n - (nl a : Int))) := by
  have hla := les_all a
  have hlb := les_all b
  by_cases h0 : n < (nl (a ++ b) : Int)
  · have h1 : n - (nl a : Int) < (nl b : Int) := by rw [nl_app] at h0; omega
    have e1 : fe (a ++ b) n = ((les (a ++ b) (a ++ b).length).getD n.toNat 0, true) := by unfold fe; rw [if_pos ⟨by omega, h0⟩]
    have e2 : fe b (n - (nl a : Int)) = ((les b b.length).getD (n - (nl a : Int)).toNat 0, true) := by unfold fe; rw [if_pos ⟨by omega, h1⟩]
    rw [e1, e2]
    unfold shb
    rw [if_pos rfl, List.length_append, les_app a b b.length (Nat.le_refl _)]
    congr 1
    simp only [List.getD_eq_getElem?_getD]
    rw [List.getElem?_append_right (by omega), List.getElem?_map, show n.toNat - (les a a.length).length = (n - (nl a : Int)).toNat by omega]
    have hlt : (n - (nl a : Int)).toNat < (les b b.length).length := by omega
    rw [List.getElem?_eq_getElem hlt]
    simp
  · have e1 : fe (a ++ b) n = (0, false) := by unfold fe; rw [if_neg (by omega)]
    have e2 : fe b (n - (nl a : Int)) = (0, false) := by unfold fe; rw [if_neg (by rw [nl_app] at h0; omega)]
    rw [e1, e2]
    rfl
theorem fe_in (l : List Nat) (k : Nat) (h : k < nl l) : fe l (k : Int) = ((les l l.length).getD k 0, true) := by
  unfold fe; rw [if_pos (by omega)]; simp

set_option maxRecDepth 100000 in
theorem findEnd_any (S : Nat → Nat → Prop) (p : Pc) (n : Nat) (w : World) (h : PcAt S w p) (hn : n < nl p.l) :
    Calls Try.prog 55 #[.slice (some ⟨p.a, p.o, none⟩) p.l.length p.cap, .int .i64 (n : Nat)] w fun e w' => e = .returned (.int .i64 ((les p.l p.l.length).getD n 0 : Nat)) ∧ w' = w := by
  obtain ⟨a, o, cap, l⟩ := p
  obtain ⟨⟨-, h1, h2, h3⟩, hc⟩ := h
  simp only at *
  have HC := boxed hc
  have hl : l.length ≤ 1099511627776 := h1.2
  have hnl := nl_le l
  have hla := les_all l
  clear hc h3 h1 h2
  generalize hV0 : (les l l.length).getD n 0 = VV
  have HV := boxed hV0
  clear hV0
  go_enter Try.func55, Try.ntmps55
  go_wp2
  go_loop [1, 8] (fun c i => ∃ k m : Nat, k ≤ l.length ∧ c = .int .i64 (m : Nat) ∧ i = .int .i64 (k : Nat) ∧ Box ((les l k).length + m = n)) (fun _ i => l.length - (intOf i).toNat)
  case atStart => exact ⟨0, n, Nat.zero_le _, rfl, rfl, boxed (by simp [les])⟩
  case round =>
    obtain ⟨k, m, hk, rfl, rfl, HM⟩ := hrel
    by_cases hlt : k < l.length
    · have hcell := (HC.out k hlt).2
      have hmb : m ≤ 1099511627776 := by have := HM.out; omega
      by_cases h10 : l.getD k 0 = 10
      · rw [h10] at hcell
        by_cases hm0 : m = 0
        · subst hm0
          have HH : Box (VV = k) := boxed (by have := les_hit l k hlt h10; have e := HM.out; rw [Nat.add_zero] at e; rw [e, HV.out] at this; exact this)
          clear h10 HM HC
          go_wp2
          go_ret
          exact ⟨ret_int (by rw [HH.out]), rfl⟩
        · have t1 : ((m : Int) == 0) = false := by simp; omega
          have HM2 : Box ((les l (k + 1)).length + (m - 1) = n) := boxed (by simp only [les]; rw [if_pos h10]; have := HM.out; simp; omega)
          have hm1 : (m : Int) - 1 = ((m - 1 : Nat) : Int) := by omega
          clear h10 HM HC
          go_wp2
          go_round
          case rel => exact ⟨k + 1, m - 1, by omega, by go_num, by go_num, HM2⟩
          case measure => simp [intOf]; omega
      · have HM2 : Box ((les l (k + 1)).length + m = n) := boxed (by simp only [les]; rw [if_neg h10]; exact HM.out)
        have t1 : (((l.getD k 0 : Nat) : Int) == 10) = false := by simp only [beq_eq_false_iff_ne]; omega
        have t1' : (((l.getD k 0 : Nat) : Int) != 10) = true := by simp only [bne_iff_ne]; omega
        generalize l.getD k 0 = V at *
        clear h10 HM HC
        go_wp2
        go_round
        case rel => exact ⟨k + 1, m, by omega, rfl, by go_num, HM2⟩
        case measure => simp [intOf]; omega
    · exfalso
      have hkN : k = l.length := by omega
      subst hkN
      have := HM.out
      omega

set_option maxRecDepth 100000 in
set_option maxHeartbeats 4000000 in
theorem endAt_any (S : Nat → Nat → Prop) (T : Tr) (x : Option Addr) (a : Int) (w : World) (h : IsT S w x T) (hlen : T.flat.length ≤ 1048576) (ha : -9223372036854775808 ≤ a ∧ a ≤ 9223372036854775807) :
    Calls Try.prog 40 #[.pointer x, .int .i64 a] w fun e w' => e = .returned (.tuple #[.int .i64 ((fe T.flat a).1 : Nat), .bool (fe T.flat a).2]) ∧ Below w.heap.size w w' := by
  have HI : Box (IsT S w x T ∧ T.flat.length ≤ 1048576) := boxed ⟨h, hlen⟩
  have hT := hlen
  clear h hlen
  go_enter Try.func40, Try.ntmps40
  go_wp2
  go_loopg [0, 1, 6] T.pcs.length (fun k q av cv wr => Box (Below w.heap.size w wr) ∧ ∃ (t : Tr) (y : Option Addr) (c : Int) (m : Nat), q = .pointer y ∧ av = .int .i64 c ∧ cv = .int .i64 (m : Nat) ∧ Box (IsT S wr y t ∧ m + t.flat.length ≤ 1048576) ∧ Box (t.pcs.length ≤ k) ∧
      (-9223372036854775808 ≤ c ∧ c ≤ 9223372036854775807) ∧ Box (fe T.flat a = shb m (fe t.flat c)))
  case atStart => exact ⟨boxed (Below.refl _ _), T, x, a, 0, rfl, rfl, rfl, boxed ⟨HI.out.1, by omega⟩, boxed (Nat.le_refl _), ha, boxed (shb_zero _ _).symm⟩
  case round =>
    obtain ⟨HB, t, y, c, m, rfl, rfl, rfl, HT, HK, hc, HQ⟩ := hrel
    clear HI
    cases t with
    | nil =>
      obtain rfl : y = none := HT.out.1
      have HR : Box (fe T.flat a = (0, false)) := boxed (by rw [HQ.out, flat_nil, fe_nil]; rfl)
      clear HT HQ HK
      go_wp2
      refine bodyPost_ret (v := .tuple #[.int .i64 0, .bool false]) (by simp [results, Try.results40, go_sem]) rfl ⟨?_, HB.out⟩
      rw [HR.out]; rfl
    | node l p r =>
      obtain ⟨⟨b, pl, pr, rfl, hs, ⟨c0, c1, c2, c3, -, -, -, -⟩, hp, hl, hr⟩, hlen⟩ := HT.out
      have htot := total_any S l pl wr hl
      rw [flat_node] at hlen
      simp only [List.length_append] at hlen
      have HQ' : Box (fe T.flat a = shb m (fe (l.flat ++ (p.l ++ r.flat)) c)) := boxed (by rw [HQ.out, flat_node])
      have HK' : Box (l.pcs.length < gk ∧ r.pcs.length < gk) := boxed (by have := HK.out; simp only [Tr.pcs, List.length_append, List.length_cons] at this; omega)
      have HC : Box (∀ w', Below wr.heap.size wr w' → w'.cell? ⟨b, 0, none⟩ = some (.pointer pl) ∧ w'.cell? ⟨b, 1, none⟩ = some (.pointer pr) ∧ w'.cell? ⟨b, 2, none⟩ = some (.slice (some ⟨p.a, p.o, none⟩) p.l.length p.cap) ∧ w'.cell? ⟨b, 3, none⟩ = some (.int .i64 (nl p.l : Nat))) :=
        boxed (fun w' hb => ⟨hold hb c0, hold hb c1, hold hb c2, hold hb c3⟩)
      have HL := boxed hl
      have HR := boxed hr
      have hbz : b < wr.heap.size := by have := World.block_lt_of_cell? wr _ c0; simpa using this
      have n1 := nl_le l.flat
      have n2 := nl_le p.l
      have hb1' : l.flat.length ≤ 1048576 := by omega
      have hb2' : p.l.length ≤ 1048576 := by omega
      have hmm : m ≤ 1048576 := by omega
      by_cases h1 : c < (nl l.flat : Int)
      · have t1 : decide (c < (nl l.flat : Int)) = true := decide_eq_true h1
        have HQ2 : Box (fe T.flat a = shb m (fe l.flat c)) := boxed (by rw [HQ'.out, fe_low _ _ _ h1])
        have HLen : Box (m + l.flat.length ≤ 1048576) := boxed (by omega)
        clear hs hp hl hr HT HQ HK c1 c2 c3 hlen HQ' h1
        generalize hE1 : l.flat.length = L1 at *
        generalize nl l.flat = L2 at *
        generalize hE3 : l.pcs.length = L3 at *
        generalize l.dep = L4 at *
        have HE := boxed hE3
        have HE1 := boxed hE1
        clear hE3 hE1
        go_wp2_with fail
        refine htot.mono ?_
        rintro e w1 ⟨rfl, hb1⟩
        have HB1 := boxed hb1
        have k0 := (HC.out _ hb1).1
        have hz : b < w1.heap.size := Nat.lt_of_lt_of_le hbz hb1.size
        have hz' : w1.heap.size ≠ b := by omega
        clear hb1 htot c0
        go_wp2_with fail
        have hbl := HB1.out.alloc HB1.out.size (Obj.cells #[Value.int .i64 (L1 : Int), Value.int .i64 (L2 : Int), Value.int .i64 (L3 : Int), Value.int .i64 (L4 : Int)] 64)
        go_roundg L3
        case measure => exact HK'.out.1
        case rel => exact ⟨boxed (below_step HB.out (Nat.le_refl _) hbl), l, pl, c, m, rfl, rfl, rfl, boxed ⟨HL.out.below hbl, by rw [HE1.out]; exact HLen.out⟩, boxed (Nat.le_of_eq HE.out), hc, HQ2⟩
      · obtain ⟨K, hK⟩ : ∃ K : Nat, c = (nl l.flat : Int) + (K : Int) := ⟨(c - (nl l.flat : Int)).toNat, by omega⟩
        subst hK
        have t1 : decide ((nl l.flat : Int) + (K : Int) < (nl l.flat : Int)) = false := decide_eq_false (by omega)
        have e2 : (nl l.flat : Int) + (K : Int) - (nl l.flat : Int) = (K : Int) := by omega
        have hKb : (K : Int) ≤ 9223372036854775807 := by omega
        have HQ3 : fe T.flat a = shb (m + l.flat.length) (fe (p.l ++ r.flat) (K : Int)) := by rw [HQ'.out, fe_high _ _ _ (by omega), shb_shb, e2]
        by_cases h2 : K < nl p.l
        · have t2 : decide ((K : Int) < (nl p.l : Int)) = true := decide_eq_true (by omega)
          have t2' : decide (K < nl p.l) = true := decide_eq_true h2
          have HQ4 : fe T.flat a = (m + l.flat.length + (les p.l p.l.length).getD K 0, true) := by rw [HQ3, fe_low _ _ _ (by omega), fe_in _ _ h2]; rfl
          have HQ2 := boxed HQ4
          have hce := fun w' (hb : Below wr.heap.size wr w') => findEnd_any S p K w' (hp.below hb) h2
          have hgb : (les p.l p.l.length).getD K 0 ≤ 1048576 := by
            have : ∀ k, ∀ z ∈ les p.l k, z ≤ k := by
              intro k
              induction k with
              | zero => intro z hz; simp [les] at hz
              | succ k ih =>
                intro z hz
                simp only [les] at hz
                split at hz
                · rcases List.mem_append.1 hz with hz | hz
                  · have := ih z hz; omega
                  · simp at hz; omega
                · have := ih z hz; omega
            have hla := les_all p.l
            have hlt : K < (les p.l p.l.length).length := by omega
            have hmem := this p.l.length ((les p.l p.l.length).getD K 0) (by simp only [List.getD_eq_getElem?_getD, List.getElem?_eq_getElem hlt, Option.getD_some]; exact List.getElem_mem hlt)
            omega
          clear hs hp hl hr HT HQ HK c1 c2 c3 hlen HQ' h1 HL HR HQ3 HQ4 h2
          generalize (les p.l p.l.length).getD K 0 = G at *
          generalize l.flat.length = L1 at *
          generalize nl l.flat = L2 at *
          generalize l.pcs.length = L3 at *
          generalize l.dep = L4 at *
          generalize p.l.length = P at *
          generalize nl p.l = NP at *
          go_wp2_with fail
          refine htot.mono ?_
          rintro e w1 ⟨rfl, hb1⟩
          have HB1 := boxed hb1
          obtain ⟨k0, k1, k2, k3⟩ := HC.out _ hb1
          have hz : b < w1.heap.size := Nat.lt_of_lt_of_le hbz hb1.size
          have hz' : w1.heap.size ≠ b := by omega
          have hbl := hb1.alloc hb1.size (Obj.cells #[Value.int .i64 (L1 : Int), Value.int .i64 (L2 : Int), Value.int .i64 (L3 : Int), Value.int .i64 (L4 : Int)] 64)
          have HBL := boxed hbl
          clear hb1 htot c0 hbl
          go_wp2_with (go_at_call 55; refine (hce _ HBL.out).mono ?_; rintro e w' ⟨rfl, hw'⟩; subst w')
          refine bodyPost_ret (v := .tuple #[.int .i64 ((m : Int) + (L1 : Int) + (G : Int)), .bool true]) (by simp [results, Try.results40, go_sem]) rfl ⟨?_, below_step HB.out (Nat.le_refl _) HBL.out⟩
          rw [HQ2.out]
          simp
        · obtain ⟨J, hJ⟩ : ∃ J : Nat, K = nl p.l + J := ⟨K - nl p.l, by omega⟩
          subst hJ
          have t2 : decide (((nl p.l + J : Nat) : Int) < (nl p.l : Int)) = false := decide_eq_false (by omega)
          have t2' : decide (nl p.l + J < nl p.l) = false := decide_eq_false (by omega)
          have HQ4 : fe T.flat a = shb (m + l.flat.length + p.l.length) (fe r.flat (J : Int)) := by
            rw [HQ3, fe_high _ _ _ (by omega), shb_shb]
            congr 2
            omega
          have HQ2 := boxed HQ4
          have HLen : Box (m + l.flat.length + p.l.length + r.flat.length ≤ 1048576) := boxed (by omega)
          have hJb : -9223372036854775808 ≤ (J : Int) ∧ (J : Int) ≤ 9223372036854775807 := by omega
          have hw : IntKind.i64.wrap (((nl p.l + J : Nat) : Int) - (nl p.l : Int)) = (J : Int) := by rw [IntKind.wrap_i64]; omega
          have hw2 : IntKind.i64.wrap ((nl p.l : Int) + (J : Int) - (nl p.l : Int)) = (J : Int) := by rw [IntKind.wrap_i64]; omega
          have e3 : (nl l.flat : Int) + ((nl p.l : Int) + (J : Int)) - (nl l.flat : Int) = (nl p.l : Int) + (J : Int) := by omega
          clear hs hp hl hr HT HQ HK c1 c2 c3 hlen HQ' h1 HL HQ3 HQ4 h2
          generalize l.flat.length = L1 at *
          generalize nl l.flat = L2 at *
          generalize l.pcs.length = L3 at *
          generalize l.dep = L4 at *
          generalize p.l.length = P at *
          generalize nl p.l = NP at *
          go_wp2_with fail
          refine htot.mono ?_
          rintro e w1 ⟨rfl, hb1⟩
          have HB1 := boxed hb1
          obtain ⟨k0, k1, k2, k3⟩ := HC.out _ hb1
          have hz : b < w1.heap.size := Nat.lt_of_lt_of_le hbz hb1.size
          have hz' : w1.heap.size ≠ b := by omega
          have hbl := hb1.alloc hb1.size (Obj.cells #[Value.int .i64 (L1 : Int), Value.int .i64 (L2 : Int), Value.int .i64 (L3 : Int), Value.int .i64 (L4 : Int)] 64)
          have HBL := boxed hbl
          clear hb1 htot c0 hbl
          go_wp2_with fail
          go_quiet (fail)
          go_wp2_with fail
          have hbd2 := bel_drewN2 HBL.out nq
          go_roundg r.pcs.length
          case measure => exact HK'.out.2
          case rel => exact ⟨boxed (below_step HB.out (Nat.le_refl _) hbd2), r, pr, (J : Int), m + L1 + P, rfl, by go_num, by go_num, boxed ⟨HR.out.below hbd2, HLen.out⟩, boxed (Nat.le_refl _), hJb, HQ2⟩

set_option maxRecDepth 100000 in
theorem newline_any {S : Nat → Nat → Prop} {w : World} {tb : Nat} {x : Option Addr} {A : Option (Nat × Nat × Nat)} {T : Tr} (h : TextAt S w tb x A T) (a : Int) (ha : -9223372036854775808 ≤ a ∧ a ≤ 9223372036854775807) :
    Calls Try.prog 24 #[.pointer (some ⟨tb, 0, none⟩), .int .i64 a] w fun e w' => e = .returned (.tuple #[.int .i64 ((fe T.flat a).1 : Nat), .bool (fe T.flat a).2]) ∧ Below w.heap.size w w' := by
  have c0 := h.root
  have ht := endAt_any S T x a w h.tree (by have := h.len; omega) ha
  clear h
  generalize (fe T.flat a).1 = V at *
  generalize (fe T.flat a).2 = B at *
  go_enter Try.func24, Try.ntmps24
  go_wp2_with (go_at_call 40; refine ht.mono ?_; rintro e w1 ⟨rfl, hb1⟩; have HB := boxed hb1; clear hb1)
  refine bodyPost_ret (v := .tuple #[.int .i64 V, .bool B]) (by simp [results, Try.results24, go_sem]) rfl ⟨rfl, HB.out⟩

set_option maxRecDepth 100000 in
theorem before_out {S : Nat → Nat → Prop} {w : World} {tb : Nat} {x : Option Addr} {A : Option (Nat × Nat × Nat)} {T : Tr} (h : TextAt S w tb x A T) (a : Int) (hno : a < 0 ∨ (T.flat.length : Int) < a) :
    Calls Try.prog 23 #[.pointer (some ⟨tb, 0, none⟩), .int .i64 a] w fun e w' => e = .returned (.tuple #[.int .i64 0, .int .i64 30]) ∧ Below w.heap.size w w' := by
  have hl := len_any h
  have hun : undef = Value.tuple #[] := rfl
  clear h
  by_cases h1 : a < 0
  · have t1 : decide (a < 0) = true := decide_eq_true h1
    clear hno h1
    go_enter Try.func23, Try.ntmps23
    go_wp2_with fail
    refine bodyPost_ret (v := .tuple #[.int .i64 0, .int .i64 30]) (by simp [results, Try.results23, go_sem]) rfl ⟨rfl, Below.refl _ _⟩
  · have t1 : decide (a < 0) = false := decide_eq_false h1
    have t2 : decide ((T.flat.length : Int) < a) = true := decide_eq_true (by omega)
    clear hno h1
    generalize T.flat.length = L at *
    go_enter Try.func23, Try.ntmps23
    go_wp2_with (go_at_call 13; refine hl.mono ?_; rintro e w1 ⟨rfl, hb1⟩; have HB := boxed hb1; clear hb1)
    refine bodyPost_ret (v := .tuple #[.int .i64 0, .int .i64 30]) (by simp [results, Try.results23, go_sem]) rfl ⟨rfl, HB.out⟩

set_option maxRecDepth 100000 in
theorem before_in {S : Nat → Nat → Prop} {w : World} {tb : Nat} {x : Option Addr} {A : Option (Nat × Nat × Nat)} {T : Tr} (h : TextAt S w tb x A T) (a : Nat) (ha : a ≤ T.flat.length) :
    Calls Try.prog 23 #[.pointer (some ⟨tb, 0, none⟩), .int .i64 (a : Nat)] w fun e w' => e = .returned (.tuple #[.int .i64 (nl (T.flat.take a) : Nat), .int .i64 0]) ∧ Below w.heap.size w w' := by
  have hl := len_any h
  have hea := fun w' (hb : Below w.heap.size w w') => endsAhead_any S T x a w' (h.tree.below hb) (by have := h.len; omega) ha
  have hrt : ∀ w', Below w.heap.size w w' → w'.cell? ⟨tb, 0, none⟩ = some (.pointer x) := fun w' hb => hold hb h.root
  have t1 : decide ((a : Int) < 0) = false := decide_eq_false (by omega)
  have t2 : decide ((T.flat.length : Int) < (a : Int)) = false := decide_eq_false (by omega)
  have t2' : decide (T.flat.length < a) = false := decide_eq_false (by omega)
  clear h ha
  generalize nl (T.flat.take a) = N at *
  generalize T.flat.length = L at *
  go_enter Try.func23, Try.ntmps23
  go_wp2_with fail
  refine hl.mono ?_
  rintro e w1 ⟨rfl, hb1⟩
  have HB1 := boxed hb1
  have c1 := hrt _ hb1
  clear hb1 hl hrt
  go_wp2_with fail
  refine (hea _ HB1.out).mono ?_
  rintro e w2 ⟨rfl, hb2⟩
  have HB2 := boxed (below_step HB1.out (Nat.le_refl _) hb2)
  clear hb2 hea
  go_wp2
  refine bodyPost_ret (v := .tuple #[.int .i64 N, .int .i64 0]) (by simp [results, Try.results23, go_sem]) rfl ⟨rfl, HB2.out⟩
end Go.Proofs.Ytfikmlgmklnlaaa
