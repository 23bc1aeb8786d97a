/-
  A tree of pieces as it lies in memory, and what the program's total, countEnds, cut, link, leaf and lean answer.
-/
import Derived.Test.YtfikmlgmklnlaaaWa
import Derived.Deep.RegionHeld3
namespace Go.Proofs.Ytfikmlgmklnlaaa
open Go.RowKit
set_option linter.unusedSimpArgs false
set_option linter.unusedVariables false

/-- The piece's bytes lie where it says, in cells that S names. -/
def PcAt (S : Nat → Nat → Prop) (w : World) (p : Pc) : Prop :=
  (p.l ≠ [] ∧ (p.l.length ≤ p.cap ∧ p.l.length ≤ 1099511627776) ∧ p.cap ≤ maxLen ∧ ∀ x ∈ p.l, x < 256) ∧
  ∀ i, i < p.l.length → S p.a (p.o + i) ∧ w.cell? ⟨p.a, p.o + i, none⟩ = some (.int .u8 ((p.l.getD i 0 : Nat) : Int))

/-- The tree lies in memory, in cells that S names. -/
def IsT (S : Nat → Nat → Prop) (w : World) : Option Addr → Tr → Prop
  | q, .nil => q = none
  | q, .node l p r => ∃ (b : Nat) (pl pr : Option Addr), q = some ⟨b, 0, none⟩ ∧ (∀ i, i < 8 → S b i) ∧
      (w.cell? ⟨b, 0, none⟩ = some (.pointer pl) ∧ w.cell? ⟨b, 1, none⟩ = some (.pointer pr) ∧
       w.cell? ⟨b, 2, none⟩ = some (.slice (some ⟨p.a, p.o, none⟩) p.l.length p.cap) ∧ w.cell? ⟨b, 3, none⟩ = some (.int .i64 (nl p.l : Nat)) ∧
       w.cell? ⟨b, 4, none⟩ = some (.int .i64 ((Tr.node l p r).flat.length : Nat)) ∧ w.cell? ⟨b, 5, none⟩ = some (.int .i64 (nl (Tr.node l p r).flat : Nat)) ∧
       w.cell? ⟨b, 6, none⟩ = some (.int .i64 ((Tr.node l p r).pcs.length : Nat)) ∧ w.cell? ⟨b, 7, none⟩ = some (.int .i64 ((Tr.node l p r).dep : Nat))) ∧
      PcAt S w p ∧ IsT S w pl l ∧ IsT S w pr r

/-- What S names, if it is there, is there still, and named. -/
def Kp (S S' : Nat → Nat → Prop) (w w' : World) : Prop := ∀ b i u, S b i → w.cell? ⟨b, i, none⟩ = some u → S' b i ∧ w'.cell? ⟨b, i, none⟩ = some u

theorem PcAt.keep {S S' : Nat → Nat → Prop} {w w' : World} {p : Pc} (h : PcAt S w p) (k : Kp S S' w w') : PcAt S' w' p :=
  ⟨h.1, fun i hi => k _ _ _ (h.2 i hi).1 (h.2 i hi).2⟩
theorem IsT.keep {S S' : Nat → Nat → Prop} {w w' : World} (k : Kp S S' w w') : ∀ {T : Tr} {q : Option Addr}, IsT S w q T → IsT S' w' q T
  | .nil, _, h => h
  | .node l p r, _, ⟨b, pl, pr, e, hs, ⟨c0, c1, c2, c3, c4, c5, c6, c7⟩, hp, hl, hr⟩ =>
    ⟨b, pl, pr, e, fun i hi => match i, hi with
      | 0, _ => (k _ _ _ (hs 0 (by omega)) c0).1 | 1, _ => (k _ _ _ (hs 1 (by omega)) c1).1 | 2, _ => (k _ _ _ (hs 2 (by omega)) c2).1 | 3, _ => (k _ _ _ (hs 3 (by omega)) c3).1
      | 4, _ => (k _ _ _ (hs 4 (by omega)) c4).1 | 5, _ => (k _ _ _ (hs 5 (by omega)) c5).1 | 6, _ => (k _ _ _ (hs 6 (by omega)) c6).1 | 7, _ => (k _ _ _ (hs 7 (by omega)) c7).1,
     ⟨(k _ _ _ (hs 0 (by omega)) c0).2, (k _ _ _ (hs 1 (by omega)) c1).2, (k _ _ _ (hs 2 (by omega)) c2).2, (k _ _ _ (hs 3 (by omega)) c3).2,
      (k _ _ _ (hs 4 (by omega)) c4).2, (k _ _ _ (hs 5 (by omega)) c5).2, (k _ _ _ (hs 6 (by omega)) c6).2, (k _ _ _ (hs 7 (by omega)) c7).2⟩, hp.keep k, hl.keep k, hr.keep k⟩
theorem kp_below {S : Nat → Nat → Prop} {w w' : World} (h : Below w.heap.size w w') : Kp S S w w' := fun b i u hs hc =>
  ⟨hs, by rw [h.cell (p := ⟨b, i, none⟩) (World.block_lt_of_cell? w _ hc)]; exact hc⟩
theorem IsT.below {S : Nat → Nat → Prop} {w w' : World} {T : Tr} {q : Option Addr} (h : IsT S w q T) (hb : Below w.heap.size w w') : IsT S w' q T := h.keep (kp_below hb)
theorem PcAt.below {S : Nat → Nat → Prop} {w w' : World} {p : Pc} (h : PcAt S w p) (hb : Below w.heap.size w w') : PcAt S w' p := h.keep (kp_below hb)
theorem IsT.ne {S : Nat → Nat → Prop} {w : World} : ∀ {T : Tr} {q : Option Addr}, IsT S w q T → ∀ p ∈ T.pcs, p.l ≠ [] ∧ ∀ x ∈ p.l, x < 256
  | .nil, _, h, p, hp => by simp [Tr.pcs] at hp
  | .node l p r, _, ⟨b, pl, pr, e, hs, hc, hp, hl, hr⟩, q, hq => by
    simp only [Tr.pcs, List.mem_append, List.mem_cons] at hq
    rcases hq with hq | rfl | hq
    · exact hl.ne q hq
    · exact ⟨hp.1.1, hp.1.2.2.2⟩
    · exact hr.ne q hq
/-- A tree's numbers are no greater than its bytes are many. -/
theorem IsT.nums {S : Nat → Nat → Prop} {w : World} {T : Tr} {q : Option Addr} (h : IsT S w q T) : T.pcs.length ≤ T.flat.length ∧ T.dep ≤ T.flat.length ∧ nl T.flat ≤ T.flat.length := by
  have h1 := cnt_flt T.pcs (fun p hp => (h.ne p hp).1)
  have h2 := dep_le T
  have h3 := nl_le T.flat
  unfold Tr.flat at *
  omega

theorem total_any (S : Nat → Nat → Prop) (T : Tr) (q : Option Addr) (w : World) (h : IsT S w q T) :
    Calls Try.prog 31 #[.pointer q] w fun e w' => e = .returned (.agg #[.int .i64 (T.flat.length : Nat), .int .i64 (nl T.flat : Nat), .int .i64 (T.pcs.length : Nat), .int .i64 (T.dep : Nat)]) ∧ Below w.heap.size w w' := by
  cases T with
  | nil =>
    obtain rfl : q = none := h
    go_enter Try.func31, Try.ntmps31
    go_wp2
    refine bodyPost_ret (v := .agg #[.int .i64 0, .int .i64 0, .int .i64 0, .int .i64 0]) (by simp [results, Try.results31, go_sem]) rfl ⟨rfl, ?_⟩
    exact (Below.refl _ _).alloc (Nat.le_refl _) _
  | node l p r =>
    obtain ⟨b, pl, pr, rfl, hs, ⟨c0, c1, c2, c3, c4, c5, c6, c7⟩, hp, hl, hr⟩ := h
    generalize (Tr.node l p r).flat.length = N1 at *
    generalize nl (Tr.node l p r).flat = N2 at *
    generalize (Tr.node l p r).pcs.length = N3 at *
    generalize (Tr.node l p r).dep = N4 at *
    have hb := World.block_lt_of_cell? w _ c4
    have hne : w.heap.size ≠ b := by simp at hb; omega
    clear hs hp hl hr
    go_enter Try.func31, Try.ntmps31
    go_wp2
    refine bodyPost_ret (v := .agg #[.int .i64 N1, .int .i64 N2, .int .i64 N3, .int .i64 N4]) (by simp [results, Try.results31, go_sem]) rfl ⟨rfl, ?_⟩
    exact (Below.refl _ _).alloc (Nat.le_refl _) _

theorem nl_take_succ (l : List Nat) (k : Nat) (h : k < l.length) : nl (l.take (k + 1)) = nl (l.take k) + if l.getD k 0 = 10 then 1 else 0 := by
  rw [List.take_add_one, nl_app, List.getElem?_eq_getElem h]
  congr 1
  simp [nl, List.getD, h, List.countP_cons]

set_option maxRecDepth 100000 in
/-- countEnds of a piece. -/
theorem countEnds_any (S : Nat → Nat → Prop) (p : Pc) (w : World) (h : PcAt S w p) :
    Calls Try.prog 54 #[.slice (some ⟨p.a, p.o, none⟩) p.l.length p.cap] w fun e w' => e = .returned (.int .i64 (nl p.l : Nat)) ∧ w' = w := by
  obtain ⟨a, o, cap, l⟩ := p
  obtain ⟨⟨-, h1, h2, h3⟩, hc⟩ := h
  simp only at *
  have HC := boxed hc
  have H3 := boxed h3
  clear hc h3
  unfold maxLen at h2
  have hl : l.length ≤ 1099511627776 := h1.2
  clear h1 h2
  go_enter Try.func54, Try.ntmps54
  go_wp2
  go_loop [3, 7] (fun c i => ∃ k : Nat, k ≤ l.length ∧ c = .int .i64 (nl (l.take k) : Nat) ∧ i = .int .i64 (k : Nat)) (fun _ i => l.length - (intOf i).toNat)
  case atStart => exact ⟨0, Nat.zero_le _, by simp [nl], rfl⟩
  case round =>
    obtain ⟨k, hk, rfl, rfl⟩ := hrel
    by_cases hlt : k < l.length
    · have hcell := (HC.out k hlt).2
      have hn : nl (l.take k) ≤ l.length := Nat.le_trans (nl_le _) (by simp; omega)
      have HS := boxed (nl_take_succ l k hlt)
      generalize nl (l.take k) = N at *
      generalize l.getD k 0 = c at *
      by_cases h10 : c = 10
      · subst h10
        go_wp2
        go_round
        case rel => exact ⟨k + 1, by omega, by rw [HS.out]; simp, by go_num⟩
        case measure => simp [intOf]; omega
      · have hd : ((c : Int) == 10) = false := by simp; omega
        go_wp2
        go_round
        case rel => exact ⟨k + 1, by omega, by rw [HS.out]; simp [h10], by go_num⟩
        case measure => simp [intOf]; omega
    · have hkN : k = l.length := by omega
      subst hkN
      rw [List.take_length]
      go_wp2
      go_ret
      exact ⟨rfl, rfl⟩

set_option maxRecDepth 100000 in
/-- cut: a piece with its line ends. -/
theorem cut_any (S : Nat → Nat → Prop) (p : Pc) (w : World) (h : PcAt S w p) :
    Calls Try.prog 51 #[.slice (some ⟨p.a, p.o, none⟩) p.l.length p.cap] w fun e w' => e = .returned (.agg #[.slice (some ⟨p.a, p.o, none⟩) p.l.length p.cap, .int .i64 (nl p.l : Nat)]) ∧ Below w.heap.size w w' := by
  have hce := fun w' (hb : Below w.heap.size w w') => countEnds_any S p w' (h.below hb)
  generalize nl p.l = N at *
  generalize p.l.length = L at *
  go_enter Try.func51, Try.ntmps51
  go_wp2_with fail
  refine (hce _ ((Below.refl _ _).alloc (Nat.le_refl _) _)).mono ?_
  rintro e w' ⟨rfl, hw'⟩
  subst w'
  go_wp2
  refine bodyPost_ret (v := .agg #[.slice (some ⟨p.a, p.o, none⟩) L p.cap, .int .i64 N]) (by simp [results, Try.results51, go_sem]) rfl ⟨rfl, ?_⟩
  exact (Below.refl _ _).alloc (Nat.le_refl _) _
end Go.Proofs.Ytfikmlgmklnlaaa
