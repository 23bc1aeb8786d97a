/-
  Lines one behind the other (slices.Grow, slices.Concat).
-/
import Derived.Test.YtoodhpgaikmalaaBg
import Derived.Lib.AppendZeros
namespace Go.Proofs.Ytoodhpgaikmalaa
open Go.RowKit
set_option linter.unusedSimpArgs false
set_option linter.unusedVariables false

set_option maxHeartbeats 2000000 in
set_option maxRecDepth 100000 in
theorem grow_any (k : Nat) (hk : k ≤ 1000000) (w : World) :
    Calls Try.prog 33 #[.slice none 0 0, .int .i64 (k : Nat)] w fun e w' => ∃ ao c, e = .returned (.slice ao 0 c) ∧ w'.ownsRow w.heap.size 37 9 (.slice ao 0 c) 0 [] ∧ Below w.heap.size w w' := by
  obtain ⟨i0, hi, hz0, hz1, hz2⟩ := info_parts info_line
  by_cases h0 : k = 0
  · subst h0
    go_enter Try.func33, Try.ntmps33
    go_wp2_with fail
    go_ret
    exact ⟨_, _, rfl, World.ownsRow_nil _ _ _ _, Below.refl _ _⟩
  · have t1 : decide ((k : Int) < 0) = false := decide_eq_false (by omega)
    have t2 : decide ((0 : Int) < (k : Int)) = true := decide_eq_true (by omega)
    have hr := fun ty kq => Lib.run_append_nil_zeros (P := Try.prog) w 32 3 ty 37 i0 _ kq .i64 Try.underlying32 Try.underlying3 hi hz0 k (by omega) (by omega) (by omega) (by rw [hz2]; omega)
    have HR := boxed hr
    have hg := grownCap_ge w k 0 37
    have hm := grownCap_le_maxLen w k 0 37 (by unfold maxLen; omega)
    have HW : Box ((w.drew.alloc (.cells (Builtin.zeroCells (Value.agg #[.string ⟨#[]⟩, .slice none 0 0, .int .i64 0, .int .i64 0, .int .i64 0, .bool false, .int .i64 0, .bool false, .bool false]).cells k ++ Builtin.zeroCells (Value.agg #[.string ⟨#[]⟩, .slice none 0 0, .int .i64 0, .int .i64 0, .int .i64 0, .bool false, .int .i64 0, .bool false, .bool false]).cells (grownCap w k 0 37 - k)) 37)).ownsRow w.heap.size 37 9 (.slice (some ⟨w.heap.size, 0, none⟩) 0 (grownCap w k 0 37)) 0 [] ∧ Below w.heap.size w (w.drew.alloc (.cells (Builtin.zeroCells (Value.agg #[.string ⟨#[]⟩, .slice none 0 0, .int .i64 0, .int .i64 0, .int .i64 0, .bool false, .int .i64 0, .bool false, .bool false]).cells k ++ Builtin.zeroCells (Value.agg #[.string ⟨#[]⟩, .slice none 0 0, .int .i64 0, .int .i64 0, .int .i64 0, .bool false, .int .i64 0, .bool false, .bool false]).cells (grownCap w k 0 37 - k)) 37))) := boxed ⟨World.ownsRow_made w.drew _ _ (Nat.le_refl _) hm (by rw [Array.size_append, size_zeroCells, size_zeroCells]; show k * 9 + (_ - k) * 9 = _ * 9; omega), (show Below w.heap.size w w.drew from ⟨rfl, rfl, rfl, Nat.le_refl _, fun _ _ => rfl⟩).alloc (Nat.le_refl _) _⟩
    generalize grownCap w k 0 37 = G at *
    generalize (w.drew.alloc (.cells (Builtin.zeroCells (Value.agg #[.string ⟨#[]⟩, .slice none 0 0, .int .i64 0, .int .i64 0, .int .i64 0, .bool false, .int .i64 0, .bool false, .bool false]).cells k ++ Builtin.zeroCells (Value.agg #[.string ⟨#[]⟩, .slice none 0 0, .int .i64 0, .int .i64 0, .int .i64 0, .bool false, .int .i64 0, .bool false, .bool false]).cells (G - k)) 37)) = W1 at *
    clear hr
    go_enter Try.func33, Try.ntmps33
    go_wp2_with (first | (at_builtin; refine Lib.wpList_append_run _ rfl _ _ 32 3 rfl _ _ rfl rfl _ _ (HR.out _ _) ?_))
    go_wp2_with fail
    go_ret
    exact ⟨_, _, rfl, HW.out.1, HW.out.2⟩
/-- How many lines the first i rows have. -/
def tl (Ls : Nat → List Lne) : Nat → Nat
  | 0 => 0
  | i + 1 => tl Ls i + (Ls i).length
/-- The lines of the first i rows. -/
def cat (Ls : Nat → List Lne) : Nat → List Lne
  | 0 => []
  | i + 1 => cat Ls i ++ Ls i
/-- A row of lines. -/
def RwAt (S : Nat → Prop) (w : World) (ao : Option Addr) (l : List Lne) : Prop := ∀ j u, (lnec l)[j]? = some u → ∃ b off, ao = some ⟨b, off, none⟩ ∧ S b ∧ w.cell? ⟨b, off + j, none⟩ = some u
theorem RwAt.below {S : Nat → Prop} {w w' : World} {ao : Option Addr} {l : List Lne} (h : RwAt S w ao l) (hb : Below w.heap.size w w') : RwAt S w' ao l := by
  intro j u hj
  obtain ⟨b, off, e, hs, c⟩ := h j u hj
  exact ⟨b, off, e, hs, hold hb c⟩
theorem RwAt.form {S : Nat → Prop} {w : World} {ao : Option Addr} {l : List Lne} (h : RwAt S w ao l) (hn : 0 < l.length) : ∃ b off, ao = some ⟨b, off, none⟩ ∧ S b := by
  obtain ⟨b, off, e, hs, -⟩ := h 0 _ (List.getElem?_eq_getElem (by rw [lnec_len]; omega))
  exact ⟨b, off, e, hs⟩
theorem RwAt.cells {S : Nat → Prop} {w : World} {b off : Nat} {l : List Lne} (h : RwAt S w (some ⟨b, off, none⟩) l) (j : Nat) (u : Value) (hj : (lnec l)[j]? = some u) : w.cell? ⟨b, off + j, none⟩ = some u := by
  obtain ⟨b', off', e, -, c⟩ := h j u hj
  injection e with e
  injection e with e1 e2 e3
  subst e1; subst e2
  exact c
theorem lnec_ones (l : List Lne) : ∀ u ∈ lnec l, u.oneCell' = true := by
  intro u hu
  simp only [lnec, List.mem_flatMap] at hu
  obtain ⟨x, -, hx⟩ := hu
  simp only [Lne.cells, List.mem_cons, List.not_mem_nil, or_false] at hx
  rcases hx with rfl | rfl | rfl | rfl | rfl | rfl | rfl | rfl | rfl <;> rfl
/-- Lines that lie somewhere are a row. -/
theorem LsAt.row {S : Nat → Prop} {w : World} {ao : Option Addr} {ks : List Key} (h : LsAt S w ao ks) : ∃ l : List Lne, l.map key = ks ∧ RwAt S w ao l ∧ ∀ x ∈ l, LnOk x ∧ P2At S w x.ra x.rn x.L x.Y := by
  obtain ⟨F, h1, h2⟩ := h
  have hg : ∀ i, i < ks.length → nthL ((List.range ks.length).map F) i = F i := fun i hi => by
    unfold nthL; simp [List.getD_eq_getElem?_getD, hi]
  refine ⟨(List.range ks.length).map F, ?_, ?_, ?_⟩
  · apply List.ext_getElem?
    intro i
    by_cases hi : i < ks.length
    · rw [(h2 i hi).2]; simp [hi]
    · rw [List.getElem?_eq_none (by simp; omega), List.getElem?_eq_none (by omega)]
  · intro j u hj
    have hl := (List.getElem?_eq_some_iff.1 hj).1
    rw [lnec_len, List.length_map, List.length_range] at hl
    have hi : j / 9 < ks.length := by omega
    obtain ⟨-, b, off, e, hs, c0, c1, c2, c3, c4, c5, c6, c7, c8⟩ := h1 (j / 9) hi
    refine ⟨b, off, e, hs, ?_⟩
    have hr : j % 9 < 9 := Nat.mod_lt _ (by omega)
    have hj2 := lnec_get ((List.range ks.length).map F) (j / 9) (j % 9) (by simpa using hi) hr
    rw [show j / 9 * 9 + j % 9 = j by omega, hj] at hj2
    have hg2 := hg (j / 9) hi
    unfold nthL at hg2
    rw [hg2] at hj2
    rw [show off + j = off + j / 9 * 9 + j % 9 by omega]
    generalize j % 9 = r at *
    rcases (show r = 0 ∨ r = 1 ∨ r = 2 ∨ r = 3 ∨ r = 4 ∨ r = 5 ∨ r = 6 ∨ r = 7 ∨ r = 8 by omega) with rfl | rfl | rfl | rfl | rfl | rfl | rfl | rfl | rfl
    · rw [Nat.add_zero, c0]; exact hj2.symm
    · rw [c1]; exact hj2.symm
    · rw [c2]; exact hj2.symm
    · rw [c3]; exact hj2.symm
    · rw [c4]; exact hj2.symm
    · rw [c5]; exact hj2.symm
    · rw [c6]; exact hj2.symm
    · rw [c7]; exact hj2.symm
    · rw [c8]; exact hj2.symm
  · intro x hx
    simp only [List.mem_map, List.mem_range] at hx
    obtain ⟨i, hi, rfl⟩ := hx
    exact ⟨(h2 i hi).1, (h1 i hi).1⟩
theorem cat_len (Ls : Nat → List Lne) (i : Nat) : (cat Ls i).length = tl Ls i := by
  induction i with
  | zero => rfl
  | succ i ih => simp only [cat, tl, List.length_append, ih]
theorem tl_le (Ls : Nat → List Lne) (N i : Nat) (h : ∀ k, k < i → (Ls k).length ≤ N) : tl Ls i ≤ i * N := by
  induction i with
  | zero => exact Nat.zero_le _
  | succ i ih =>
    have h1 := ih (fun k hk => h k (by omega))
    have h2 := h i (by omega)
    show tl Ls i + _ ≤ _
    rw [Nat.add_mul]; omega
set_option maxHeartbeats 2000000 in
set_option maxRecDepth 100000 in
theorem concat_any (S : Nat → Prop) (G : Nat) (A : Nat → Option Addr) (Ls : Nat → List Lne) (Cs : Nat → Nat) (w : World) (hG : ∀ k, k < 3 → w.cell? ⟨G, k, none⟩ = some (.slice (A k) (Ls k).length (Cs k))) (hA : ∀ k, k < 3 → RwAt S w (A k) (Ls k)) (hc : ∀ k, k < 3 → A k = none → Cs k = 0) (hl : ∀ k, k < 3 → (Ls k).length ≤ 3000) :
    Calls Try.prog 23 #[.slice (some ⟨G, 0, none⟩) 3 3] w fun e w' => ∃ ao c, e = .returned (.slice ao (tl Ls 3) c) ∧ w'.ownsRow w.heap.size 37 9 (.slice ao (tl Ls 3) c) (tl Ls 3) (lnec (cat Ls 3)) ∧ Below w.heap.size w w' := by
  obtain ⟨i0, hi, hz0, hz1, hz2⟩ := info_parts info_line
  have HG := boxed hG
  have HA := boxed hA
  have HC := boxed hc
  have HL := boxed hl
  have HT := boxed (fun i (h : i ≤ 3) => tl_le Ls 3000 i (fun k hk => hl k (by omega)))
  clear hG hA hc hl
  go_enter Try.func23, Try.ntmps23
  go_wp2_with fail
  go_loopw [3, 11] (fun sv iv wr => ∃ i : Nat, i ≤ 3 ∧ iv = .int .i64 (i : Nat) ∧ sv = .int .i64 (tl Ls i : Nat) ∧ Box (Below w.heap.size w wr)) (fun _ iv _ => 3 - (intOf iv).toNat)
  case atStart => exact ⟨0, by omega, rfl, rfl, boxed (Below.refl _ _)⟩
  case round =>
    obtain ⟨i, hi3, rfl, rfl, HB0⟩ := hrel
    by_cases hlt : i < 3
    · have c0 := hold HB0.out (HG.out i hlt)
      have h1 := HT.out i (by omega)
      have h2 := HL.out i hlt
      have HE : Box (tl Ls (i + 1) = tl Ls i + (Ls i).length) := boxed rfl
      have t0 : decide ((i : Int) < 3) = true := decide_eq_true (by omega)
      generalize (Ls i).length = y at *
      generalize tl Ls i = x at *
      have t1 : decide ((x : Int) + (y : Int) < 0) = false := decide_eq_false (by omega)
      go_wp2_with fail
      go_roundw
      case rel => exact ⟨i + 1, by omega, by go_num, by rw [HE.out] <;> (first | rfl | go_num), HB0⟩
      case measure => simp [intOf]; omega
    · obtain rfl : i = 3 := by omega
      have h1 := HT.out 3 (by omega)
      have hgr := grow_any (tl Ls 3) (by omega)
      obtain ⟨T3, hT3⟩ : ∃ T3, tl Ls 3 = T3 := ⟨_, rfl⟩
      have HT3 := boxed hT3
      rw [hT3] at hgr ⊢
      clear hT3 h1
      go_wp2_with fail
      refine (hgr _).mono ?_
      rintro e w1 ⟨go, gc, rfl, hown, hb⟩
      have hz0r := HB0.out.size
      have HO := boxed (own_down hown (B' := w.heap.size) hz0r)
      have HB := boxed (below_step HB0.out (Nat.le_refl _) hb)
      clear hown hb hgr HB0
      go_wp2_with fail
      go_loopw [6, 27] (fun sv iv wr => ∃ i : Nat, i ≤ 3 ∧ iv = .int .i64 (i : Nat) ∧ Box (∃ ao c, sv = .slice ao (tl Ls i) c) ∧ Box (wr.ownsRow w.heap.size 37 9 sv (tl Ls i) (lnec (cat Ls i))) ∧ Box (Below w.heap.size w wr)) (fun _ iv _ => 3 - (intOf iv).toNat)
      case atStart => exact ⟨0, by omega, rfl, boxed ⟨_, _, rfl⟩, HO, HB⟩
      case round =>
        obtain ⟨i, hi3, rfl, HV, HO1, HB1⟩ := hrel
        by_cases hlt : i < 3
        · have c0 := hold HB1.out (HG.out i hlt)
          have h1 := HT.out i (by omega)
          have h2 := HL.out i hlt
          have HE : Box (tl Ls (i + 1) = tl Ls i + (Ls i).length) := boxed rfl
          have HF : Box (lnec (cat Ls (i + 1)) = lnec (cat Ls i) ++ lnec (Ls i)) := boxed (lnec_app _ _)
          have HS := boxed ((HA.out i hlt).below HB1.out)
          have hnl := lnec_len (Ls i)
          have t0 : decide ((i : Int) < 3) = true := decide_eq_true (by omega)
          obtain ⟨ao1, c1, hsv⟩ := HV.out
          subst hsv
          have hown := HO1.out
          have hzr := HB1.out.size
          cases hAi : A i with
          | none =>
            have h0 : (Ls i).length = 0 := by
              by_cases c : 0 < (Ls i).length
              · obtain ⟨b, off, e, -⟩ := HS.out.form c
                rw [hAi] at e; cases e
              · omega
            rw [hAi, h0, HC.out i hlt hAi] at c0
            have hcs : lnec (Ls i) = [] := List.eq_nil_of_length_eq_zero (by omega)
            have HO2 : Box (wr.ownsRow w.heap.size 37 9 (.slice ao1 (tl Ls i) c1) (tl Ls (i + 1)) (lnec (cat Ls (i + 1)))) := boxed (by rw [HE.out, HF.out, hcs, h0]; simpa using hown)
            have HV2 : Box (∃ ao c, Value.slice ao1 (tl Ls i) c1 = Value.slice ao (tl Ls (i + 1)) c) := boxed (by rw [HE.out, h0]; exact ⟨_, _, rfl⟩)
            clear hcs h0 hnl hAi HS HF HE
            go_wp2_with (first | (at_builtin; refine wpList_append_own_none rfl _ _ 32 rfl w.heap.size 37 i0 9 Try.underlying32 hi _ _ _ rfl hown rfl ?_))
            go_wp2_with fail
            go_roundw
            case rel => exact ⟨i + 1, by omega, by go_num, HV2, HO2, HB1⟩
            case measure => simp [intOf]; omega
          | some ad =>
            rw [hAi] at c0 HS
            have HN : Box (∀ j u, (lnec (Ls i))[j]? = some u → wr.cell? (ad.add j) = some u) := boxed (by
              intro j u hj
              have hl : j < (lnec (Ls i)).length := (List.getElem?_eq_some_iff.1 hj).1
              obtain ⟨b, off, e, -⟩ := HS.out.form (by omega)
              injection e with e
              subst e
              rw [Addr.add_lit]
              exact HS.out.cells j u hj)
            generalize hN : (Ls i).length = y at *
            have HNy := boxed hN
            clear hN
            go_wp2_with (first | (at_builtin; refine wpList_append_own _ rfl _ _ 32 rfl w.heap.size 37 i0 _ 9 88 Try.underlying32 hi hz0 hz1 hz2 rfl (by decide) _ _ _ rfl hown ad y (Cs i) (lnec (Ls i)) rfl (by omega) HN.out (lnec_ones _) (by unfold maxLen; omega) (by omega) (by omega) ?_))
            intro v' w6 hown6 hgrow6 _
            have HO2 : Box (w6.ownsRow w.heap.size 37 9 v' (tl Ls (i + 1)) (lnec (cat Ls (i + 1)))) := boxed (by rw [HE.out, HF.out]; exact hown6)
            have HB2 := boxed (HB1.out.grown hgrow6 (by omega) (fun r e => owns_ge hown r e))
            have HV2 : Box (∃ ao c, v' = Value.slice ao (tl Ls (i + 1)) c) := boxed (own_shape HO2.out)
            clear hown6 hgrow6 hown
            go_wp2_with fail
            go_roundw
            case rel => exact ⟨i + 1, by omega, by go_num, HV2, HO2, HB2⟩
            case measure => simp [intOf]; omega
        · obtain rfl : i = 3 := by omega
          have t0 : decide ((3 : Int) < 3) = false := decide_eq_false (by omega)
          obtain ⟨ao, c, rfl⟩ := HV.out
          have e3 := HT3.out
          subst e3
          go_wp2_with fail
          go_ret
          exact ⟨ao, c, rfl, HO1.out, HB1.out⟩
theorem sl_own {w : World} {B e size n cap : Nat} {ao : Option Addr} {xs : List Value} (h : w.ownsRow B e size (.slice ao n cap) n xs) : Sl ao cap n := by
  rcases h.2 with ⟨e, h0⟩ | ⟨g, cp, cur, e, hB, hh, hc, -⟩
  · injection e with e1 e2 e3
    exact ⟨by omega, fun _ => e3⟩
  · injection e with e1 e2 e3
    subst e1; subst e3
    exact ⟨hc, fun e => by cases e⟩
/-- Three rows of lines put one behind the other. -/
theorem concat14_any (S : Nat → Prop) (G : Nat) (a0 a1 a2 : Option Addr) (k0 k1 k2 : List Key) (c0 c1 c2 : Nat) (w : World)
    (g0 : w.cell? ⟨G, 0, none⟩ = some (.slice a0 k0.length c0)) (g1 : w.cell? ⟨G, 1, none⟩ = some (.slice a1 k1.length c1)) (g2 : w.cell? ⟨G, 2, none⟩ = some (.slice a2 k2.length c2))
    (h0 : LsAt S w a0 k0) (h1 : LsAt S w a1 k1) (h2 : LsAt S w a2 k2) (s0 : Sl a0 c0 k0.length) (s1 : Sl a1 c1 k1.length) (s2 : Sl a2 c2 k2.length) (l0 : k0.length ≤ 3000) (l1 : k1.length ≤ 3000) (l2 : k2.length ≤ 3000) :
    Calls Try.prog 23 #[.slice (some ⟨G, 0, none⟩) 3 3] w fun e w' => ∃ ao c, e = .returned (.slice ao (k0 ++ (k1 ++ k2)).length c) ∧ Sl ao c (k0 ++ (k1 ++ k2)).length ∧ LO (fun b => S b ∨ w.heap.size ≤ b) w' ao (k0 ++ (k1 ++ k2)) ∧ (∀ g, ao = some g → w.heap.size ≤ g.block) ∧ Below w.heap.size w w' := by
  obtain ⟨x0, e0, r0, q0⟩ := h0.row
  obtain ⟨x1, e1, r1, q1⟩ := h1.row
  obtain ⟨x2, e2, r2, q2⟩ := h2.row
  have m0 : k0.length = x0.length := by rw [← e0]; simp
  have m1 : k1.length = x1.length := by rw [← e1]; simp
  have m2 : k2.length = x2.length := by rw [← e2]; simp
  rw [m0] at g0 l0
  rw [m1] at g1 l1
  rw [m2] at g2 l2
  have h3 : ∀ k, k < 3 → k = 0 ∨ k = 1 ∨ k = 2 := fun k hk => by omega
  refine (concat_any S G (fun k => if k = 0 then a0 else if k = 1 then a1 else a2) (fun k => if k = 0 then x0 else if k = 1 then x1 else x2) (fun k => if k = 0 then c0 else if k = 1 then c1 else c2) w ?_ ?_ ?_ ?_).mono ?_
  · intro k hk
    rcases h3 k hk with rfl | rfl | rfl
    · exact g0
    · exact g1
    · exact g2
  · intro k hk
    rcases h3 k hk with rfl | rfl | rfl
    · exact r0
    · exact r1
    · exact r2
  · intro k hk
    rcases h3 k hk with rfl | rfl | rfl
    · exact s0.2
    · exact s1.2
    · exact s2.2
  · intro k hk
    rcases h3 k hk with rfl | rfl | rfl
    · exact l0
    · exact l1
    · exact l2
  · rintro e w' ⟨ao, c, rfl, ho, hb⟩
    have hcat : cat (fun k => if k = 0 then x0 else if k = 1 then x1 else x2) 3 = x0 ++ (x1 ++ x2) := by simp [cat]
    have hlen : tl (fun k => if k = 0 then x0 else if k = 1 then x1 else x2) 3 = (x0 ++ (x1 ++ x2)).length := by rw [← hcat, cat_len]
    rw [hcat, hlen] at ho
    rw [hlen]
    have hk : (x0 ++ (x1 ++ x2)).map key = k0 ++ (k1 ++ k2) := by rw [List.map_append, List.map_append, e0, e1, e2]
    have hl : (k0 ++ (k1 ++ k2)).length = (x0 ++ (x1 ++ x2)).length := by rw [← hk]; simp
    rw [hl]
    refine ⟨ao, c, rfl, sl_own ho, ?_, ?_, hb⟩
    · rw [← hk]
      refine own_ls ho (fun g _ hg => Or.inr hg) (fun x hx => ?_)
      have : LnOk x ∧ P2At S w x.ra x.rn x.L x.Y := by
        rcases List.mem_append.1 hx with hx | hx
        · exact q0 x hx
        · rcases List.mem_append.1 hx with hx | hx
          · exact q1 x hx
          · exact q2 x hx
      exact ⟨this.1, (this.2.below hb).keep (fun b j u hs hc => ⟨Or.inl hs, hc⟩)⟩
    · intro g hg
      subst hg
      exact (ho.lt g.block rfl).1
end Go.Proofs.Ytoodhpgaikmalaa
