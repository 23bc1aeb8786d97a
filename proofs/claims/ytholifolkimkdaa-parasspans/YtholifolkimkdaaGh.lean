/-
  What the program's put does: paragraphs of other sizes stand in the place of some.
-/
import Derived.Test.YtholifolkimkdaaGg
namespace Go.Proofs.Ytholifolkimkdaa
open Go.RowKit
set_option linter.unusedSimpArgs false
set_option linter.unusedVariables false

theorem slice_hi (ao : Option Addr) (n cap f : Nat) (hn : n ≤ cap) (hf : f ≤ n) (hz : ao = none → n = 0) (w : World) : (Instr.slice 34 (.slice ao n cap) none (some (.int .i64 (f : Int))) none).run Try.prog w = .ok (.slice ao f cap) w := by
  have h4 : (f : Int) ≤ (cap : Int) := by omega
  cases ao with
  | none =>
    have := hz rfl
    subst this
    obtain rfl : f = 0 := by omega
    go_simp
  | some ad => go_simp
theorem slice_lo (b n cap q : Nat) (hn : n ≤ cap) (hf : q < n) (w : World) : (Instr.slice 34 (.slice (some ⟨b, 0, none⟩) n cap) (some (.int .i64 (q : Int))) none none).run Try.prog w = .ok (.slice (some ⟨b, q, none⟩) (n - q) (cap - q)) w := by
  have h4 : (q : Int) ≤ (n : Int) := by omega
  have h5 : (n : Int) ≤ (cap : Int) := by omega
  go_simp
  intro h; omega
theorem slice_end (ao : Option Addr) (n cap : Nat) (hn : n ≤ cap) (hz : ao = none → n = 0) : ∃ ao', ∀ w : World, (Instr.slice 34 (.slice ao n cap) (some (.int .i64 (n : Int))) none none).run Try.prog w = .ok (.slice ao' 0 (cap - n)) w := by
  have h5 : (n : Int) ≤ (cap : Int) := by omega
  cases ao with
  | none =>
    have := hz rfl
    subst this
    refine ⟨none, fun w => ?_⟩
    go_simp
  | some ad =>
    by_cases h6 : cap - n = 0
    · refine ⟨some ad, fun w => ?_⟩
      go_simp
      intro h; omega
    · refine ⟨some (ad.add n), fun w => ?_⟩
      go_simp
      intro h; omega
theorem slice_gen (ao : Option Addr) (n cap q : Nat) (hn : n ≤ cap) (hq : q ≤ n) (hz : 0 < n → ∃ b, ao = some ⟨b, 0, none⟩) : ∃ a3, (∀ w, (Instr.slice 34 (.slice ao n cap) (some (.int .i64 (q : Int))) none none).run Try.prog w = .ok (.slice a3 (n - q) (cap - q)) w) ∧ (q < n → ∃ b, ao = some ⟨b, 0, none⟩ ∧ a3 = some ⟨b, q, none⟩) := by
  by_cases c : q < n
  · obtain ⟨b, rfl⟩ := hz (by omega)
    exact ⟨some ⟨b, q, none⟩, slice_lo b n cap q hn c, fun _ => ⟨b, rfl, rfl⟩⟩
  · obtain rfl : q = n := by omega
    have hz' : ao = none → q = 0 := fun e => by
      by_cases d : q = 0
      · exact d
      · obtain ⟨b, e'⟩ := hz (by omega)
        rw [e] at e'; cases e'
    obtain ⟨a3, h3⟩ := slice_end ao q cap hn hz'
    refine ⟨a3, ?_, fun h => absurd h c⟩
    rw [Nat.sub_self]
    exact h3
theorem set0_heap {w : World} {b : Nat} {v0 v1 v : Value} {t : TypeId} (h : w.heap[b]? = some (.cells #[v0, v1] t (0, 0))) : (w.setCell ⟨b, 0, none⟩ v).heap[b]? = some (.cells #[v, v1] t (0, 0)) := by
  simp [World.setCell, Array.getElem?_modify, h]
theorem set1_heap {w : World} {b : Nat} {v0 v1 v : Value} {t : TypeId} (h : w.heap[b]? = some (.cells #[v0, v1] t (0, 0))) : (w.setCell ⟨b, 1, none⟩ v).heap[b]? = some (.cells #[v0, v] t (0, 0)) := by
  simp [World.setCell, Array.getElem?_modify, h]
/-- The new ends are put into the index. -/
theorem ix_put {w W : World} {xb : Nat} {ao a : Option Addr} {cap c n : Nat} {P P' : List Nat} {o : Bool} (h : IxAt w xb ao cap P o) (hB : Below w.heap.size w W) (ho : W.ownsRow w.heap.size 3 1 (.slice a n c) n (ncs (ens 0 P'))) (hn : P'.length = n) (hp : ∀ n ∈ P', 0 < n) (hs : P'.sum ≤ 65536) :
    IxAt (W.setCell ⟨xb, 0, none⟩ (.slice a n c)) xb a c P' o ∧ NAt (fun b => w.heap.size ≤ b) (W.setCell ⟨xb, 0, none⟩ (.slice a n c)) a (ens 0 P') ∧ w.grownBy (W.setCell ⟨xb, 0, none⟩ (.slice a n c)) (some xb) := by
  subst hn
  have hlt := h.lt
  have hN : NAt (fun b => w.heap.size ≤ b) (W.setCell ⟨xb, 0, none⟩ (.slice a P'.length c)) a (ens 0 P') := (own_nat (by rw [ens_len]; exact ho)).keep (fun b i u hs hc => ⟨hs, by rw [World.cell?_setCell_far _ _ _ _ (by show xb ≠ b; omega)]; exact hc⟩)
  refine ⟨⟨?_, hN.keep (fun b i u hs hc => ⟨by show b ≠ xb; omega, hc⟩), hp, hs, own_cap ho⟩, hN, ?_⟩
  · exact set0_heap (by rw [hB.block xb hlt]; exact h.blk)
  · exact grown_trans (below_grown hB _) (grown_set _ _ _ _)
section
variable {w : World} {xb : Nat} {ao : Option Addr} {cap : Nat} {P : List Nat} {o : Bool}

set_option maxRecDepth 100000 in
set_option maxHeartbeats 4000000 in
theorem put_any (h : IxAt w xb ao cap P o) (f k : Nat) (Q : List Nat) (so : Option Addr) (sc : Nat) (S : Nat → Prop) (hs : NAt S w so Q) (hfk : f + k ≤ P.length) (hq : ∀ n ∈ Q, 0 < n) (hql : Q.length ≤ 65537) (hqs : Q.sum ≤ 131072) (hsum : (P.take f ++ Q ++ P.drop (f + k)).sum ≤ 65536) :
    Calls Try.prog 35 #[.pointer (some ⟨xb, 0, none⟩), .int .i64 (f : Nat), .int .i64 (k : Nat), .slice so Q.length sc] w fun e w' =>
      e = .returned (.tuple #[]) ∧ ∃ ao' cap', IxAt w' xb ao' cap' (P.take f ++ Q ++ P.drop (f + k)) o ∧ NAt (fun b => w.heap.size ≤ b) w' ao' (ens 0 (P.take f ++ Q ++ P.drop (f + k))) ∧ w.grownBy w' (some xb) := by
  obtain ⟨i0, hi, hz0, hz1, hz2⟩ := info_parts info_int
  have hm := h.many
  have hcp := h.cap
  have hlt := h.lt
  have c0 := h.c0
  have HX : Box (∀ W', Below w.heap.size w W' → W'.cell? ⟨xb, 0, none⟩ = some (.slice ao P.length cap)) := boxed (fun W' hb => hold hb c0)
  have HS : Box (∀ W', Below w.heap.size w W' → SrcAt W' ao f (ncs (ens 0 (P.take f)))) := boxed (fun W' hb => by
    have := (h.pts.below hb).src f (by rw [ens_len]; omega)
    have e : (ens 0 P).take f = ens 0 (P.take f) := by
      conv => lhs; rw [← List.take_append_drop f P, ens_app]
      rw [List.take_append_of_le_length (by rw [ens_len]; simp; omega), List.take_of_length_le (by rw [ens_len]; simp; omega)]
    rw [e] at this; exact this)
  have hnil : w.ownsRow w.heap.size 3 1 (.slice none 0 0) 0 [] := World.ownsRow_nil _ _ _ _
  have eo := ncs_one (ens 0 (P.take f))
  have hs' := hs.early (Nat.le_refl _)
  clear hs
  have hz : ao = none → P.length = 0 := fun e => by
    by_cases c : P.length = 0
    · exact c
    · obtain ⟨b, e', -⟩ := h.pts.form (by rw [ens_len]; omega)
      rw [e] at e'; cases e'
  have hsl := slice_hi ao P.length cap f hcp (by omega) hz
  go_enter Try.func35, Try.ntmps35
  go_wp2_with (first | (at_builtin; refine wpList_append_src rfl _ _ 34 rfl w.heap.size 3 i0 _ 8 Try.underlying34 hi hz0 hz1 hz2 rfl _ _ _ rfl hnil ao f cap (ncs (ens 0 (P.take f))) rfl (HS.out _ (Below.refl _ _)) eo ?c3 ?c4 (Nat.le_refl _) ?_))
  case c3 => unfold maxLen; omega
  case c4 => omega
  intro v1 w1 hown1 hg1
  have hb1 : Below w.heap.size w w1 := (Below.refl _ _).grown hg1 (Nat.le_refl _) (fun r e => by cases e)
  have hft : (P.take f).length = f := by simp; omega
  have hfs : (P.take f).sum ≤ P.sum := Bg_le P f
  have hps := h.len
  obtain ⟨P2, hP2⟩ : ∃ P2, P.take f ++ Q = P2 := ⟨_, rfl⟩
  obtain ⟨N2, hN2⟩ : ∃ N2, P2.length = N2 := ⟨_, rfl⟩
  have hadd := add_any w.heap.size v1 (P.take f) Q so sc w1 (by rw [hft]; exact hown1) (hs'.under hb1) hb1.size (by rw [hft]; omega) (by omega)
  rw [hP2, hN2] at hadd
  rw [hP2] at hsum
  have hP2l : N2 ≤ 131073 := by rw [← hN2, ← hP2, List.length_append, hft]; omega
  have hP2s : P2.sum ≤ 196608 := by rw [← hP2, List.sum_append]; omega
  have hpos : ∀ n ∈ P2 ++ P.drop (f + k), 0 < n := by
    intro n hn
    rw [← hP2] at hn
    simp only [List.mem_append] at hn
    rcases hn with (hn | hn) | hn
    · exact h.pos n (List.mem_of_mem_take hn)
    · exact hq n hn
    · exact h.pos n (List.mem_of_mem_drop hn)
  have HP2 := boxed (And.intro hP2 (And.intro hsum hpos))
  have hsz1 := hb1.size
  have HH := boxed h
  have HB1 := boxed hb1
  clear hown1 hg1 hb1 hnil eo hs' HS hP2 hsum hpos hq hql hqs hfs hft
  go_wp2_with fail
  refine hadd.mono ?_
  rintro e w2 ⟨v2, rfl, ho2, hb2⟩
  obtain ⟨a2, cp2, rfl⟩ := own_shape ho2
  have HB2 := boxed (HB1.out.trans hb2)
  have hla := (own_nat (by rw [ens_len, hN2]; exact ho2)).lastAt N2 (by omega)
  rw [Bg_all _ _ (by omega)] at hla
  have hl := last_any a2 N2 cp2 P2.sum w2 hla (by omega)
  have HO2 := boxed ho2
  have HBG := boxed (fun W (hb : Below w.heap.size w W) => begin_any (HH.out.below hb) (f + k) hfk)
  clear hadd ho2 hb2 hla
  go_wp2_with fail
  refine hl.mono ?_
  rintro e w3 ⟨rfl, hb3⟩
  have HB3 := boxed (below_step HB2.out (Nat.le_refl _) hb3)
  have HO3 := boxed (owns_below HO2.out hb3)
  clear hl hb3 HO2
  obtain ⟨q, hqe⟩ : ∃ q, f + k = q := ⟨_, rfl⟩
  have efk : (f : Int) + (k : Int) = (q : Int) := by omega
  have hqP : q ≤ P.length := by omega
  rw [hqe] at HBG HP2
  have HQE := boxed hqe
  clear hqe
  go_wp2_with fail
  refine (HBG.out _ HB3.out).mono ?_
  rintro e w4 ⟨rfl, hb4⟩
  have HB4 := boxed (below_step HB3.out (Nat.le_refl _) hb4)
  have HO4 := boxed (owns_below HO3.out hb4)
  have d0 := hold HB4.out c0
  clear HBG hb4 HO3 HB1 HB2 HB3 hsz1
  have hbl := Bg_le P q
  obtain ⟨E, hE⟩ : ∃ E, Bg P q = E := ⟨_, rfl⟩
  rw [hE] at hbl ⊢
  have HE := boxed hE
  clear hE
  obtain ⟨a3, hsl2, ha3⟩ := slice_gen ao P.length cap q hcp hqP (fun hn => by
    obtain ⟨b, e', -⟩ := HH.out.pts.form (by rw [ens_len]; exact hn)
    exact ⟨b, e'⟩)
  have HFin : Box (∀ (W : World) v, Below w.heap.size w W → W.ownsRow w.heap.size 3 1 v (N2 + (P.length - q)) (ncs (ens 0 (P2 ++ P.drop q))) → ∃ a c, v = .slice a (N2 + (P.length - q)) c ∧ IxAt (W.setCell ⟨xb, 0, none⟩ (.slice a (N2 + (P.length - q)) c)) xb a c (P2 ++ P.drop q) o ∧ NAt (fun b => w.heap.size ≤ b) (W.setCell ⟨xb, 0, none⟩ (.slice a (N2 + (P.length - q)) c)) a (ens 0 (P2 ++ P.drop q)) ∧ w.grownBy (W.setCell ⟨xb, 0, none⟩ (.slice a (N2 + (P.length - q)) c)) (some xb)) := boxed (fun W v hb ho => by
    obtain ⟨a, c, rfl⟩ := own_shape ho
    exact ⟨a, c, rfl, ix_put HH.out hb ho (by rw [List.length_append, List.length_drop, hN2]) HP2.out.2.2 HP2.out.2.1⟩)
  have HDs : Box (∀ j, j < P.length - q → ∃ b, a3 = some ⟨b, q, none⟩ ∧ ∀ W, Below w.heap.size w W → W.cell? ⟨b, q + j, none⟩ = some (.int .i64 (E + Bg (P.drop q) (j + 1) : Nat))) := boxed (fun j hj => by
    obtain ⟨b, e1, e2⟩ := ha3 (by omega)
    refine ⟨b, e2, fun W hb => ?_⟩
    have h' := HH.out.below hb
    rw [e1] at h'
    have := h'.pts.get (q + j) (by rw [ens_len]; omega)
    rw [this, ens_get 0 P (q + j) (by omega), Nat.zero_add, Nat.add_assoc, Bg_add, HE.out])
  clear ha3 h
  go_wp2_with fail
  have hML : (P.drop q).length = P.length - q := List.length_drop ..
  have hMP : P.length - q ≤ 65536 := by omega
  generalize hM : P.length - q = M at HFin HDs hML hMP ⊢
  replace hM := boxed hM
  go_loopw [8, 38] (fun vv iv wr => ∃ j : Nat, j ≤ M ∧ iv = .int .i64 (j : Nat) ∧ Box (wr.ownsRow w.heap.size 3 1 vv (N2 + j) (ncs (ens 0 (P2 ++ (P.drop q).take j)))) ∧ Box (Below w.heap.size w wr)) (fun _ iv _ => M - (intOf iv).toNat)
  case atStart => exact ⟨0, Nat.zero_le _, rfl, by simpa using HO4, HB4⟩
  case round =>
    obtain ⟨j, hj, rfl, HOr, HBr⟩ := hrel
    by_cases hlt2 : j < M
    · obtain ⟨b, rfl, hcell⟩ := HDs.out j hlt2
      have c1 := hcell _ HBr.out
      have hst := Bg_get (P.drop q) j (by omega)
      have hle := Bg_le (P.drop q) (j + 1)
      have hds : (P.drop q).sum ≤ P.sum := by
        have := Bg_add P q P.length
        rw [Bg_all P _ (by omega), Bg_all (P.drop q) _ (by simp)] at this
        omega
      have HEE : Box (ncs (ens 0 (P2 ++ (P.drop q).take (j + 1))) = ncs (ens 0 (P2 ++ (P.drop q).take j)) ++ [.int .i64 (P2.sum + Bg (P.drop q) (j + 1) : Nat)]) := boxed (by
        have e1 : (P.drop q).take (j + 1) = (P.drop q).take j ++ [(P.drop q).getD j 0] := by
          rw [List.take_add_one, List.getElem?_eq_getElem (by omega)]; simp [List.getElem?_eq_getElem (show q + j < P.length by have := hM.out; omega)]
        rw [e1, ← List.append_assoc, ens_app, ncs_app]
        congr 1
        simp only [ens, ncs, List.map_cons, List.map_nil, List.sum_append, Nat.zero_add]
        rw [hst]
        congr 3
        unfold Bg
        omega)
      generalize Bg (P.drop q) (j + 1) = D at *
      obtain ⟨A', hA'⟩ : ∃ A', P2.sum + D = A' := ⟨_, rfl⟩
      rw [hA'] at HEE
      have hAA : ((E + D : Nat) : Int) + ((P2.sum : Int) - (E : Int)) = (A' : Nat) := by omega
      have hA2 : A' ≤ 262144 := by omega
      obtain ⟨X, hX⟩ : ∃ X, E + D = X := ⟨_, rfl⟩
      rw [hX] at c1 hAA
      clear hst hA' hX hle
      have hbs : w.heap.size ≤ wr.heap.size := HBr.out.size
      have hown := HOr.out
      go_wp2_with (first | (at_builtin; refine wpList_append_own _ rfl _ _ 34 rfl w.heap.size 3 i0 _ 1 8 Try.underlying34 hi hz0 hz1 hz2 rfl (by decide) _ _ _ rfl (hown.alloc _) ⟨wr.heap.size, 0, none⟩ 1 1 [.int .i64 (A' : Nat)] rfl rfl ?c1 ?c2 ?c3 ?c4 ?c5 ?_))
      case c1 =>
        intro j u hj
        match j, hj with
        | 0, hj => simp at hj; subst hj; simp [Addr.add]
      case c2 => intro u hu; simp at hu; subst hu; rfl
      case c3 => unfold maxLen; omega
      case c4 => omega
      case c5 => simp; omega
      intro v' w6 hown6 hgrow6 _
      have HO6 := boxed hown6
      have HG6 := boxed (HBr.out.trans (grown_any hown hbs hgrow6))
      clear hown6 hgrow6 hown
      go_wp2_with fail
      go_roundw
      case rel => exact ⟨j + 1, by omega, by go_num, boxed (by rw [HEE.out, ← Nat.add_assoc]; exact HO6.out), HG6⟩
      case measure => simp [intOf]; omega
    · obtain rfl : j = M := by omega
      obtain ⟨a9, c9, e9, hfin⟩ := HFin.out wr u8 HBr.out (by have := HOr.out; rw [List.take_of_length_le (by omega)] at this; exact this)
      subst e9
      have HF9 := boxed hfin
      have g0 := hold HBr.out c0
      have g1 : wr.frozen? ⟨xb, 0, none⟩ = false := (HH.out.below HBr.out).fz 0
      clear hfin HOr HFin
      go_wp2
      refine bodyPost_end (results_none rfl _ _ _) rfl ?_
      exact ⟨rfl, a9, c9, by rw [HP2.out.1, HQE.out]; exact HF9.out⟩
end
end Go.Proofs.Ytholifolkimkdaa
