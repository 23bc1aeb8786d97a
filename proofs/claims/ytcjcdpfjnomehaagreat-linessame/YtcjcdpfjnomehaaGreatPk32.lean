/-
  What the window's methods leave and add do.
-/
import Derived.ArgAppend
import Derived.Deep.RegionLaw
import Derived.Test.YtcjcdpfjnomehaaGreatPk31
namespace Go.Proofs.YtcjcdpfjnomehaaGreat
open Go.RowKit
set_option linter.unusedSimpArgs false
set_option linter.unusedVariables false
structure Oth (X : Nat → Prop) (w w' : World) : Prop where
  os : w'.os = w.os
  tape : w'.tape = w.tape
  output : w'.output = w.output
  size : w.heap.size ≤ w'.heap.size
  block : ∀ k, k < w.heap.size → ¬ X k → w'.heap[k]? = w.heap[k]?
theorem Oth.refl (X : Nat → Prop) (w : World) : Oth X w w := ⟨rfl, rfl, rfl, Nat.le_refl _, fun _ _ _ => rfl⟩
theorem Oth.trans {X : Nat → Prop} {a b c : World} (h : Oth X a b) (k : Oth X b c) : Oth X a c := ⟨k.os.trans h.os, k.tape.trans h.tape, k.output.trans h.output, Nat.le_trans h.size k.size, fun i hi hx => (k.block i (Nat.lt_of_lt_of_le hi h.size) hx).trans (h.block i hi hx)⟩
theorem Oth.of {w w' : World} {X : Nat → Prop} (h : Below w.heap.size w w') : Oth X w w' := ⟨h.os, h.tape, h.output, h.size, fun k hk _ => h.block k hk⟩
theorem Oth.mono {X Y : Nat → Prop} {w w' : World} (h : Oth X w w') (hXY : ∀ k, k < w.heap.size → X k → Y k) : Oth Y w w' := ⟨h.os, h.tape, h.output, h.size, fun k hk hy => h.block k hk (fun hx => hy (hXY k hk hx))⟩
theorem Oth.below {X : Nat → Prop} {w w' : World} {B : Nat} (h : Oth X w w') (hB : ∀ k, X k → B ≤ k) (hw : B ≤ w.heap.size) : Below B w w' := ⟨h.os, h.tape, h.output, h.size, fun k hk => h.block k (by omega) (fun hx => by have := hB k hx; omega)⟩
theorem Oth.set {X : Nat → Prop} {w w' : World} (h : Oth X w w') {b o : Nat} (u : Value) (hb : X b) : Oth X w (w'.setCell ⟨b, o, none⟩ u) :=
  ⟨h.os, h.tape, h.output, by simpa using h.size, fun k hk hx => (Below.heap_setCell w' ⟨b, o, none⟩ u k (fun e => hx (by simp at e; rw [e]; exact hb))).trans (h.block k hk hx)⟩
theorem Oth.drew {X : Nat → Prop} {w w' : World} (h : Oth X w w') : Oth X w w'.drew := ⟨h.os, h.tape, h.output, h.size, h.block⟩
theorem Oth.grown {X : Nat → Prop} {w w' w2 : World} {row : Option Nat} (h : Oth X w w') (hg : w'.grownBy w2 row) (hr : ∀ k, row = some k → X k) : Oth X w w2 :=
  ⟨hg.os.trans h.os, hg.tape.trans h.tape, hg.output.trans h.output, Nat.le_trans h.size hg.size, fun k hk hx => (hg.block k (Nat.lt_of_lt_of_le hk h.size) (fun e => hx (hr k e.symm))).trans (h.block k hk hx)⟩
def rdN (sb off : Nat) (W : World) : Nat := match W.cell? ⟨sb, off, none⟩ with | some (.slice _ n _) => n | _ => 0
theorem rdN_eq {sb off n cap : Nat} {W : World} {ao : Option Addr} (h : W.cell? ⟨sb, off, none⟩ = some (.slice ao n cap)) : rdN sb off W = n := by unfold rdN; rw [h]
section
variable {w : World} {B sb off : Nat} {v : Value} {L : List (Nat × Int)} {arr : Array Value} {t : TypeId}
theorem heap_lt {w : World} {b : Nat} {o : Obj} (h : w.heap[b]? = some o) : b < w.heap.size := by
  by_cases c : b < w.heap.size
  · exact c
  · rw [Array.getElem?_eq_none (by omega)] at h; cases h
set_option maxRecDepth 100000 in
set_option maxHeartbeats 4000000 in
theorem leave_any (he : w.heap[sb]? = some (.cells arr t (0, 0))) (hv : arr[off]? = some v) (h : WinAt B w v L) (hl : L.length ≤ 262144) (hs : wblk v ≠ some sb) (en : Int) :
    Calls Tryz.prog 201 #[.pointer (some ⟨sb, off, none⟩), .int .i64 en] w fun e w' => e = .returned (.tuple #[]) ∧ ∃ v', w'.heap[sb]? = some (.cells (arr.setIfInBounds off v') t (0, 0)) ∧ WinAt B w' v' (L.dropWhile (fun x => decide (en ≤ (x.1 : Int)))) ∧ wblk v' = wblk v ∧ Oth (fun k => k = sb) w w' := by
  have hoff : off < arr.size := (Array.getElem?_eq_some_iff.1 hv).1
  have e0 : arr.setIfInBounds off v = arr := by
    apply Array.ext_getElem?
    intro i
    rw [Array.getElem?_setIfInBounds]
    split
    · rename_i e; subst e; first | exact hv.symm | (rw [if_pos hoff]; exact hv.symm)
    · rfl
  have HR : Box (∃ L1 v1, L.dropWhile (fun x => decide (en ≤ (x.1 : Int))) = L1.dropWhile (fun x => decide (en ≤ (x.1 : Int))) ∧ w.heap[sb]? = some (.cells (arr.setIfInBounds off v1) t (0, 0)) ∧ WinAt B w v1 L1 ∧ wblk v1 = wblk v ∧ L1.length ≤ 262144 ∧ Oth (fun k => k = sb) w w) := boxed ⟨L, v, rfl, by rw [e0]; exact he, h, rfl, hl, Oth.refl _ _⟩
  clear he hv h hl e0
  go_enter Tryz.func201, Tryz.ntmps201
  go_wp2_with fail
  go_loopw [] (fun wr => Box (∃ L1 v1, L.dropWhile (fun x => decide (en ≤ (x.1 : Int))) = L1.dropWhile (fun x => decide (en ≤ (x.1 : Int))) ∧ wr.heap[sb]? = some (.cells (arr.setIfInBounds off v1) t (0, 0)) ∧ WinAt B wr v1 L1 ∧ wblk v1 = wblk v ∧ L1.length ≤ 262144 ∧ Oth (fun k => k = sb) w wr)) (fun wr => rdN sb off wr)
  case atStart => exact HR
  case round =>
    obtain ⟨L1, v1, hdw, he, h, hwb, hl, hO⟩ := hrel.out
    clear hrel HR
    have c := row_cell he off v1 (by rw [Array.getElem?_setIfInBounds]; simp [hoff])
    have fr := row_free he off
    have hsb := heap_lt he
    cases L1 with
    | nil =>
      obtain ⟨ao, cap, rfl, -, -, -⟩ := win_len h
      simp only [List.length_nil] at c
      have HE := boxed (⟨_, he, by rw [hdw]; exact h, hwb, hO⟩ : ∃ v', wr.heap[sb]? = some (Obj.cells (arr.setIfInBounds off v') t) ∧ WinAt B wr v' (L.dropWhile (fun x => decide (en ≤ (x.1 : Int)))) ∧ wblk v' = wblk v ∧ Oth (fun k => k = sb) w wr)
      clear hdw he h hwb hO
      go_wp2
      refine bodyPost_end (results_none rfl _ _ _) rfl ?_
      exact ⟨rfl, HE.out⟩
    | cons x L2 =>
      obtain ⟨g, o, cap, rfl, hBg, hg, hc, hcm, c0, -⟩ := win_at h 0 (by simp)
      simp only [List.length_cons, Nat.zero_mul, Nat.add_zero, List.getElem_cons_zero] at c c0 hc hl
      obtain ⟨o', hsl, ho'⟩ := slice_one g o (L2.length + 1) cap (by omega) hc
      have hgs : g ≠ sb := fun e => hs (by rw [← hwb, e]; rfl)
      have hlt1 : (0 : Int) < ((L2.length + 1 : Nat) : Int) := by omega
      obtain ⟨m, hm⟩ : ∃ m, L2.length + 1 = m := ⟨_, rfl⟩
      have HM := boxed hm
      have m0 : 0 < m := by omega
      have m1 : (0 : Int) < (m : Int) := by omega
      have m3 : m ≤ 262144 := by omega
      have HC := boxed c
      rw [hm] at c hsl hc
      have hsl2 := hsl
      by_cases hx : en ≤ (x.1 : Int)
      · have HT := win_tail (by simpa using h) ho'
        have d1 : decide (en ≤ (x.1 : Int)) = true := decide_eq_true hx
        have HR2 : Box (∃ L1 v1, L.dropWhile (fun x => decide (en ≤ (x.1 : Int))) = L1.dropWhile (fun x => decide (en ≤ (x.1 : Int))) ∧ (wr.setCell ⟨sb, off, none⟩ (.slice (some ⟨g, o', none⟩) (m - 1) (cap - 1))).heap[sb]? = some (.cells (arr.setIfInBounds off v1) t (0, 0)) ∧ WinAt B (wr.setCell ⟨sb, off, none⟩ (.slice (some ⟨g, o', none⟩) (m - 1) (cap - 1))) v1 L1 ∧ wblk v1 = wblk v ∧ L1.length ≤ 262144 ∧ Oth (fun k => k = sb) w (wr.setCell ⟨sb, off, none⟩ (.slice (some ⟨g, o', none⟩) (m - 1) (cap - 1)))) := boxed (by
          refine ⟨L2, .slice (some ⟨g, o', none⟩) L2.length (cap - 1), ?_, ?_, ?_, ?_, by omega, hO.set _ rfl⟩
          · rw [hdw, List.dropWhile_cons, if_pos d1]
          · have := arr_set (W := wr) (k := off) (.slice (some ⟨g, o', none⟩) (m - 1) (cap - 1)) he
            rw [this, show m - 1 = L2.length by omega]
            congr 2
            simp
          · refine HT.keep (fun g1 e1 hg1 => ?_)
            have : g1 = g := by simpa [wblk] using e1.symm
            subst this
            exact Below.heap_setCell wr ⟨sb, off, none⟩ _ g1 (by simpa using hgs)
          · rw [← hwb]; rfl)
        have HN : Box (rdN sb off (wr.setCell ⟨sb, off, none⟩ (.slice (some ⟨g, o', none⟩) (m - 1) (cap - 1))) < rdN sb off wr) := boxed (by
          rw [rdN_eq (World.cell?_setCell_same wr _ _ c), rdN_eq c]; omega)
        clear HT he h hO hdw ho' hm
        go_wp2
        go_roundw
        case rel => exact HR2
        case measure => exact HN.out
      · have d1 : decide (en ≤ (x.1 : Int)) = false := decide_eq_false hx
        have HE := boxed (⟨_, he, by rw [hdw, List.dropWhile_cons, d1]; exact h, hwb, hO⟩ : ∃ v', wr.heap[sb]? = some (Obj.cells (arr.setIfInBounds off v') t) ∧ WinAt B wr v' (L.dropWhile (fun x => decide (en ≤ (x.1 : Int)))) ∧ wblk v' = wblk v ∧ Oth (fun k => k = sb) w wr)
        clear he h hO hdw ho' hm
        go_wp2
        refine bodyPost_end (results_none rfl _ _ _) rfl ?_
        exact ⟨rfl, HE.out⟩
end
end Go.Proofs.YtcjcdpfjnomehaaGreat

/-
  What the window's method add does.
-/
namespace Go.Proofs.YtcjcdpfjnomehaaGreat
open Go.RowKit
set_option linter.unusedSimpArgs false
set_option linter.unusedVariables false
theorem info_line : (Tryz.prog.info? 204).map (fun i => (i.zero, i.size, i.bytes)) = some (some (.agg #[.int .i64 0, .int .i64 0, .int .i64 0, .int .i64 0, .int .i64 0, .bool false, .int .i64 0]), 7, 56) := by kernel_rfl
theorem win_of_own {w : World} {B b n : Nat} {v : Value} {L : List (Nat × Int)} (h : w.ownsRow b 204 7 v n (lcs L)) (hn : n = L.length) (hb : B ≤ b) : WinAt B w v L ∧ (wblk v = none ∨ ∃ g, wblk v = some g ∧ b ≤ g) := by
  subst hn
  rcases h.2 with ⟨rfl, h0⟩ | ⟨g, cap, cur, rfl, hbg, hg, hnc, hcm, hcs, htake⟩
  · exact ⟨.inl ⟨rfl, List.eq_nil_of_length_eq_zero h0⟩, .inl rfl⟩
  · refine ⟨.inr ⟨g, 0, cap, rfl, by omega, hnc, hcm, fun j hj => ?_, fun j u hj => ?_⟩, .inr ⟨g, rfl, hbg⟩⟩
    · rw [Nat.zero_add]
      have hj2 : j < cur.size := by rw [hcs]; exact hj
      refine ⟨?_, row_free hg j⟩
      rw [row_cell hg j cur[j] (by simp [hj2])]
      rfl
    · rw [Nat.zero_add]
      refine row_cell hg j u ?_
      have hj1 : j < (lcs L).length := (List.getElem?_eq_some_iff.1 hj).1
      rw [← htake] at hj
      rw [List.getElem?_take] at hj
      split at hj
      · simpa using hj
      · cases hj
theorem win_take {B : Nat} {w : World} {ao : Option Addr} {n cap : Nat} {L : List (Nat × Int)} (h : WinAt B w (.slice ao n cap) L) (k : Nat) (hk : k ≤ L.length) : WinAt B w (.slice ao k cap) (L.take k) := by
  rcases h with ⟨h, rfl⟩ | ⟨g, o, cap1, e, h1, h2, h3, h4, h5⟩
  · injection h with e1 e2 e3
    subst e1; subst e3
    obtain rfl : k = 0 := by simpa using hk
    exact .inl ⟨rfl, by simp⟩
  · injection e with e1 e2 e3
    subst e1; subst e3
    refine .inr ⟨g, o, cap, by rw [List.length_take]; congr 1; omega, h1, by rw [List.length_take]; omega, h3, h4, fun j u hj => h5 j u ?_⟩
    have : lcs L = lcs (L.take k) ++ lcs (L.drop k) := by rw [← lcs_app, List.take_append_drop]
    rw [this, List.getElem?_append_left (List.getElem?_eq_some_iff.1 hj).1]
    exact hj
theorem lnc_one (x : Nat × Int) : ∀ u ∈ lnc x, u.oneCell' = true := by
  intro u hu
  simp [lnc] at hu
  rcases hu with rfl | rfl | rfl | rfl | rfl | rfl <;> rfl
theorem run_append_win (w : World) (B : Nat) (ty : TypeId) (v : Value) (M : List (Nat × Int)) (x : Nat × Int) (h : WinAt B w v M) (hB : B ≤ w.heap.size) (hm : M.length ≤ 262144) (ad : Addr) (c : Nat) (hx : ∀ j u, (lnc x)[j]? = some u → w.cell? (ad.add j) = some u) :
    ∃ v' w', (Builtin.append_ #[198, 198] ty #[v, .slice (some ad) 1 c]).run Tryz.prog w = .ok v' w' ∧ WinAt B w' v' (M ++ [x]) ∧ (wblk v' = wblk v ∨ ∃ g, wblk v' = some g ∧ w.heap.size ≤ g) ∧ w.grownBy w' (wblk v) := by
  obtain ⟨i0, hi, hz0, hz1, hz2⟩ := info_parts info_line
  have hl1 : (lnc x).length = 1 * 7 := by simp [lnc]
  have hlx : lcs (M ++ [x]) = lcs M ++ lnc x := by rw [lcs_app]; simp [lcs]
  rcases h with ⟨rfl, rfl⟩ | ⟨g, o, cap, rfl, h1, h2, h3, h4, h5⟩
  · obtain ⟨v', w', hr, ho, hg, -⟩ := run_append_own (P := Tryz.prog) w w.heap.size 198 ty 204 i0 _ 7 56 Tryz.underlying198 hi hz0 hz1 hz2 rfl (by decide) (.slice none 0 0) 0 [] (World.ownsRow_nil w _ _ _) ad 1 c (lnc x) hl1 hx (lnc_one x) (by unfold maxLen; omega) (by omega) (Nat.le_refl _)
    have e : ([] : List Value) ++ lnc x = lcs ([] ++ [x]) := by simp [lcs]
    rw [e] at ho
    obtain ⟨q1, q2⟩ := win_of_own ho (by simp) hB
    refine ⟨v', w', hr, q1, ?_, hg⟩
    rcases q2 with q2 | q2
    · exact .inl q2
    · exact .inr q2
  · by_cases hroom : M.length + 1 ≤ cap
    · have hr := run_append_room_cells (P := Tryz.prog) w 198 ty 204 i0 Tryz.underlying198 hi g o M.length cap ad 1 c (lnc x) (by rw [hz1]; exact hl1) hx (lnc_one x) hroom (fun j hj => by rw [hz1, Nat.add_assoc]; exact (h4 _ (by simp [lnc] at hj; omega)).1) (fun j hj => by rw [hz1, Nat.add_assoc]; exact (h4 _ (by simp [lnc] at hj; omega)).2)
      rw [hz1] at hr
      refine ⟨_, _, hr, .inr ⟨g, o, cap, by simp, h1, by simpa using hroom, h3, fun j hj => ?_, fun j u hj => ?_⟩, .inl rfl, ?_⟩
      · rw [World.frozen?_setCells]
        refine ⟨?_, (h4 j hj).2⟩
        by_cases hin : M.length * 7 ≤ j ∧ j < M.length * 7 + 7
        · have := World.cell?_setCells_in g (lnc x) (o + M.length * 7) w (fun i hi => by rw [Nat.add_assoc]; exact (h4 _ (by simp [lnc] at hi; omega)).1) (j - M.length * 7) (by simp [lnc]; omega)
          rw [show o + M.length * 7 + (j - M.length * 7) = o + j by omega] at this
          rw [this]; rfl
        · rw [World.cell?_setCells_out g (lnc x) (o + M.length * 7) w ⟨g, o + j, none⟩ (fun _ _ => by simp [lnc]; omega)]
          exact (h4 j hj).1
      · rw [hlx] at hj
        by_cases hin : j < (lcs M).length
        · rw [List.getElem?_append_left hin] at hj
          rw [lcs_len] at hin
          rw [World.cell?_setCells_out g (lnc x) (o + M.length * 7) w ⟨g, o + j, none⟩ (fun _ _ => by simp [lnc]; omega)]
          exact h5 j u hj
        · rw [List.getElem?_append_right (by omega)] at hj
          rw [lcs_len] at hin hj
          obtain ⟨hlt, hu⟩ := List.getElem?_eq_some_iff.1 hj
          have := World.cell?_setCells_in g (lnc x) (o + M.length * 7) w (fun i hi => by rw [Nat.add_assoc]; exact (h4 _ (by simp [lnc] at hi; omega)).1) (j - M.length * 7) hlt
          rw [show o + M.length * 7 + (j - M.length * 7) = o + j by omega] at this
          rw [this, hu]
      · have hb := sets_below g 0 (by omega) (lnc x) (o + M.length * 7) w
        exact ⟨hb.os, hb.tape, hb.output, hb.size, fun k hk hne => sets_other g k (fun e => hne (by rw [e]; rfl)) _ _ _⟩
    · obtain ⟨v', w', hr, ho, hg⟩ := run_append_arg_grows (P := Tryz.prog) w 198 ty 204 i0 _ 7 56 Tryz.underlying198 hi hz0 hz1 hz2 rfl (by decide) ⟨g, o, none⟩ M.length cap (lcs M) (lcs_len M) (fun j u hj => by rw [Addr.add_lit]; exact h5 j u hj) ad 1 c (lnc x) hl1 hx (by omega) (by unfold maxLen; omega) (by omega)
      rw [← hlx] at ho
      obtain ⟨q1, q2⟩ := win_of_own ho (by simp) hB
      refine ⟨v', w', hr, q1, ?_, ⟨hg.os, hg.tape, hg.output, hg.size, fun k hk _ => hg.block k hk (by simp)⟩⟩
      rcases q2 with q2 | q2
      · exfalso
        rcases q1 with q | ⟨g1, o1, c1, e1, -⟩
        · have := q.2; simp at this
        · rw [e1] at q2; simp [wblk] at q2
      · exact .inr q2
theorem wp_append_win {w : World} {o : Oper} {a : Act} {K : Act → World → Prop} {Q : Exit → Act → World → Prop} (s x : Operand) 
    (ho : o.op = .call { callee := .builtin .append, args := #[s, x], argTypes := #[198, 198] }) (B : Nat)
    (v : Value) (M : List (Nat × Int)) (y : Nat × Int) (hs : a.eval s = v) (hw : WinAt B w v M) (hB : B ≤ w.heap.size) (hm : M.length ≤ 262144)
    (ad : Addr) (c : Nat) (hx : a.eval x = .slice (some ad) 1 c) (hc : ∀ j u, (lnc y)[j]? = some u → w.cell? (ad.add j) = some u)
    (h : ∀ v' w', WinAt B w' v' (M ++ [y]) → (wblk v' = wblk v ∨ ∃ g, wblk v' = some g ∧ w.heap.size ≤ g) → w.grownBy w' (wblk v) → K (a.put o.dst v') w') : o.wp Tryz.prog a w K Q := by
  obtain ⟨v', w', hr, h2, h3, h4⟩ := run_append_win w B o.type v M y hw hB hm ad c hc
  unfold Oper.wp execOp
  simp only [ho, resolve, invoke, builtin, Sem.run_bind, Sem.run_pure, Result.andThen_ok, List.map_toArray, List.map_cons, List.map_nil, hs, hx, hr]
  exact h v' w' h2 h3 h4
theorem step_append_win {w : World} {ops : Array Oper} {o : Oper} {a : Act} {K : Act → World → Prop} {Q : Exit → Act → World → Prop} {E : Prop} (hgd : o.guard = none) (s x : Operand)
    (ho : o.op = .call { callee := .builtin .append, args := #[s, x], argTypes := #[198, 198] }) (B : Nat)
    (v : Value) (M : List (Nat × Int)) (y : Nat × Int) (hs : a.eval s = v) (hw : WinAt B w v M) (hB : B ≤ w.heap.size) (hm : M.length ≤ 262144)
    (ad : Addr) (c : Nat) (hx : a.eval x = .slice (some ad) 1 c) (hc : ∀ j u, (lnc y)[j]? = some u → w.cell? (ad.add j) = some u)
    (h : ∀ v' w', WinAt B w' v' (M ++ [y]) → (wblk v' = wblk v ∨ ∃ g, wblk v' = some g ∧ w.heap.size ≤ g) → w.grownBy w' (wblk v) → K (a.put o.dst v') w') :
    if Region.wanted o (yielded ops a.tmps) = true then Oper.wp Tryz.prog o a w K Q else E := by
  have hwt : Region.wanted o (yielded ops a.tmps) = true := by simp [Region.wanted, hgd]
  rw [if_pos hwt]
  exact wp_append_win s x ho B v M y hs hw hB hm ad c hx hc h
def pk (L : List (Nat × Int)) (c : Int) : Nat → Nat
  | 0 => 0
  | k + 1 => if c ≤ (L.getD k (0, 0)).2 then pk L c k else k + 1
theorem pk_le (L : List (Nat × Int)) (c : Int) (k : Nat) : pk L c k ≤ k := by
  induction k with
  | zero => simp [pk]
  | succ k ih => simp only [pk]; split <;> omega
theorem wadd_end {w wX W w1 : World} {B sb off n cap K : Nat} {ao : Option Addr} {v1 : Value} {L : List (Nat × Int)} {arr : Array Value} {t : TypeId} {x : Nat × Int} {o : Obj} (hoff : off < arr.size) (hsb : sb < w.heap.size) (hbX : Below w.heap.size w wX) (hB : Below wX.heap.size wX W) (heS : wX.heap[sb]? = some (.cells arr t (0, 0))) (hs : wblk (.slice ao n cap) ≠ some sb)
    (hv : arr[off]? = some (.slice ao n cap)) (hBw : B ≤ w.heap.size) (hg : (W.alloc o).drew.grownBy w1 (wblk (.slice ao K cap))) (hw : WinAt B w1 v1 (L.take K ++ [x])) (hb : wblk v1 = wblk (.slice ao K cap) ∨ ∃ g, wblk v1 = some g ∧ (W.alloc o).drew.heap.size ≤ g) (hK : K = pk L x.2 L.length) :
    (w1.cell? ⟨sb, off, none⟩ = some (.slice ao n cap) ∧ w1.frozen? ⟨sb, off, none⟩ = false) ∧ ∃ v', (w1.setCell ⟨sb, off, none⟩ v1).heap[sb]? = some (.cells (arr.setIfInBounds off v') t (0, 0)) ∧ WinAt B (w1.setCell ⟨sb, off, none⟩ v1) v' (L.take (pk L x.2 L.length) ++ [x]) ∧ (wblk v' = wblk (.slice ao n cap) ∨ ∃ g, wblk v' = some g ∧ w.heap.size ≤ g) ∧ Oth (fun k => k = sb ∨ wblk (.slice ao n cap) = some k) w (w1.setCell ⟨sb, off, none⟩ v1) := by
  have ewb : wblk (.slice ao K cap) = wblk (.slice ao n cap) := by cases ao <;> rfl
  rw [ewb] at hg hb
  have z1 := hbX.size
  have z2 := hB.size
  have hzA : (W.alloc o).drew.heap.size = W.heap.size + 1 := by simp [World.drew]
  have hbA : Below W.heap.size W (W.alloc o).drew := ((Below.refl _ _).alloc (Nat.le_refl _) _).drew
  have h1 : w1.heap[sb]? = some (.cells arr t (0, 0)) := by
    rw [hg.block sb (by omega) (fun e => hs e.symm), hbA.block sb (by omega), hB.block sb (by omega)]
    exact heS
  have hne : wblk v1 ≠ some sb := by
    rcases hb with hb | ⟨g, hb, hlt⟩
    · rw [hb]; exact hs
    · rw [hb]; intro e; injection e with e; omega
  refine ⟨⟨row_cell h1 off _ hv, row_free h1 off⟩, v1, arr_set v1 h1, ?_, ?_, ?_⟩
  · rw [← hK]
    exact hw.keep (fun g e _ => Below.heap_setCell w1 ⟨sb, off, none⟩ v1 g (fun e2 => hne (by simp at e2; rw [e, e2])))
  · rcases hb with hb | ⟨g, hb, hlt⟩
    · exact .inl hb
    · exact .inr ⟨g, hb, by omega⟩
  · have o1 : Oth (fun k => k = sb ∨ wblk (.slice ao n cap) = some k) w (W.alloc o).drew := Oth.of ((hbX.trans (hB.mono z1)).trans (hbA.mono (by omega)))
    exact (o1.grown hg (fun k hk => .inr hk)).set v1 (.inl rfl)
section
variable {w : World} {B sb off : Nat} {v : Value} {L : List (Nat × Int)} {arr : Array Value} {t : TypeId}
set_option maxRecDepth 100000 in
set_option maxHeartbeats 4000000 in
theorem wadd_any (he : w.heap[sb]? = some (.cells arr t (0, 0))) (hv : arr[off]? = some v) (h : WinAt B w v L) (hB : B ≤ w.heap.size) (hl : L.length ≤ 262144) (hs : wblk v ≠ some sb) (x : Nat × Int) :
    Calls Tryz.prog 212 #[.pointer (some ⟨sb, off, none⟩), lnV x.1 wF x.2] w fun e w' => e = .returned (.tuple #[]) ∧ ∃ v', w'.heap[sb]? = some (.cells (arr.setIfInBounds off v') t (0, 0)) ∧ WinAt B w' v' (L.take (pk L x.2 L.length) ++ [x]) ∧ (wblk v' = wblk v ∨ ∃ g, wblk v' = some g ∧ w.heap.size ≤ g) ∧ Oth (fun k => k = sb ∨ wblk v = some k) w w' := by
  have hoff : off < arr.size := (Array.getElem?_eq_some_iff.1 hv).1
  obtain ⟨ao, cap, rfl, hlc, hcm, hnil⟩ := win_len h
  have hsb := heap_lt he
  unfold lnV wF
  simp only
  obtain ⟨wX, hwX⟩ : ∃ wX, w.alloc (.cells #[.int .i64 (x.1 : Int), .int .i64 0, .int .i64 0, .int .i64 10000, .int .i64 3, .bool false, .int .i64 x.2] 204) = wX := ⟨_, rfl⟩
  have hbX : Below w.heap.size w wX := by rw [← hwX]; exact (Below.refl _ _).alloc (Nat.le_refl _) _
  have hzX : wX.heap.size = w.heap.size + 1 := by rw [← hwX]; simp
  have heX : wX.heap[w.heap.size]? = some (.cells #[.int .i64 (x.1 : Int), .int .i64 0, .int .i64 0, .int .i64 10000, .int .i64 3, .bool false, .int .i64 x.2] 204 (0, 0)) := by rw [← hwX]; exact heap_alloc_new w _
  have hX := h.below hbX
  have heS : wX.heap[sb]? = some (.cells arr t (0, 0)) := (hbX.block sb hsb).trans he
  have c := row_cell heS off _ hv
  have fr := row_free heS off
  obtain ⟨⟨x0, x1, x2, x3, x4, x5, x6⟩, -⟩ := cells7 heX
  have hne : sb ≠ w.heap.size := by omega
  have HX := boxed hX
  have HES := boxed heS
  have HBX := boxed hbX
  have HXX : Box (∀ W, Below wX.heap.size wX W → W.heap[w.heap.size]? = some (.cells #[.int .i64 (x.1 : Int), .int .i64 0, .int .i64 0, .int .i64 10000, .int .i64 3, .bool false, .int .i64 x.2] 204 (0, 0))) := boxed (fun W hb => (hb.block _ (by omega)).trans heX)
  have HS := boxed hs
  have HV := boxed hv
  clear h hX he heS heX hbX hs hv
  go_enter Tryz.func212, Tryz.ntmps212
  go_wp2_with fail
  have HC : Box (∀ W, Below wX.heap.size wX W → (W.cell? ⟨sb, off, none⟩ = some (.slice ao L.length cap) ∧ W.frozen? ⟨sb, off, none⟩ = false) ∧ W.cell? ⟨w.heap.size, 6, none⟩ = some (.int .i64 x.2)) := boxed (fun W hb => ⟨⟨hold hb c, (hb.frozen (p := ⟨sb, off, none⟩) (by simp only; omega)).trans fr⟩, hold hb x6⟩)
  clear c fr x0 x1 x2 x3 x4 x5 x6
  go_loopw [4] (fun kv wr => ∃ k : Nat, k ≤ L.length ∧ kv = .int .i64 (k : Int) ∧ Box (pk L x.2 k = pk L x.2 L.length) ∧ Box (Below wX.heap.size wX wr)) (fun kv _ => (intOf kv).toNat)
  case atStart => exact ⟨L.length, Nat.le_refl _, rfl, boxed rfl, boxed (Below.refl _ _)⟩
  case round =>
    obtain ⟨k, hk, rfl, HP, HB⟩ := hrel
    obtain ⟨⟨c, fr⟩, x6⟩ := HC.out _ HB.out
    cases k with
    | zero =>
      have HPk : Box (0 = pk L x.2 L.length) := boxed (by rw [← HP.out]; rfl)
      go_wp2_with fail
      go_quiet (fail)
      go_wp2_with fail
      obtain ⟨W, hW⟩ : ∃ W, wr.drewN nq = W := ⟨_, rfl⟩
      rw [hW]
      have hBW : Below wX.heap.size wX W := by rw [← hW]; exact HB.out.trans (bel_drewN _ _ _)
      clear hW
      have hWz := hBW.size
      have hsW : sb < W.heap.size := by omega
      have hsW2 : sb ≠ W.heap.size := by omega
      have hxW : w.heap.size < W.heap.size := by omega
      have hxW2 : w.heap.size ≠ W.heap.size := by omega
      obtain ⟨⟨c', fr'⟩, -⟩ := HC.out _ hBW
      obtain ⟨⟨x0', x1', x2', x3', x4', x5', x6'⟩, -⟩ := cells7 (HXX.out _ hBW)
      have hsl : ∀ w : World, (Instr.slice 198 (.slice ao L.length cap) none (some (.int .i64 0)) none).run Tryz.prog w = .ok (.slice ao 0 cap) w := slice_upto ao L.length cap (0) hlc hk (fun e => by rw [hnil e]; rfl)
      have HWn := boxed (win_take (HX.out.below hBW) (0) hk)
      have HDa : Box (Below W.heap.size W (W.alloc (.cells #[.int .i64 (x.1 : Int), .int .i64 0, .int .i64 0, .int .i64 10000, .int .i64 3, .bool false, .int .i64 x.2] 204)).drew) := boxed (((Below.refl _ _).alloc (Nat.le_refl _) _).drew)
      have HWa := boxed (HWn.out.below HDa.out)
      have HNw : Box (∀ j u, (lnc x)[j]? = some u → (W.alloc (.cells #[.int .i64 (x.1 : Int), .int .i64 0, .int .i64 0, .int .i64 10000, .int .i64 3, .bool false, .int .i64 x.2] 204)).drew.cell? ((⟨W.heap.size, 0, none⟩ : Addr).add j) = some u) := boxed (by
        intro j u hj
        rw [Addr.add_lit, Nat.zero_add, World.cell?_drew, cell_first]
        simpa [lnc] using hj)
      have hb0 : B ≤ (W.alloc (.cells #[.int .i64 (x.1 : Int), .int .i64 0, .int .i64 0, .int .i64 10000, .int .i64 3, .bool false, .int .i64 x.2] 204)).drew.heap.size := by simp [World.drew]; omega
      have HF : Box (∀ v1 w1, (W.alloc (.cells #[.int .i64 (x.1 : Int), .int .i64 0, .int .i64 0, .int .i64 10000, .int .i64 3, .bool false, .int .i64 x.2] 204)).drew.grownBy w1 (wblk (.slice ao (0) cap)) → WinAt B w1 v1 (L.take (0) ++ [x]) → (wblk v1 = wblk (.slice ao (0) cap) ∨ ∃ g, wblk v1 = some g ∧ (W.alloc (.cells #[.int .i64 (x.1 : Int), .int .i64 0, .int .i64 0, .int .i64 10000, .int .i64 3, .bool false, .int .i64 x.2] 204)).drew.heap.size ≤ g) → _ ∧ _) := boxed (fun v1 w1 hg hw hb => wadd_end (sb := sb) (off := off) (n := L.length) (arr := arr) (t := t) hoff hsb HBX.out hBW HES.out HS.out HV.out hB hg hw hb HPk.out)
      have htk : (L.take (0)).length ≤ 262144 := by rw [List.length_take]; omega
      clear HX HC HXX HES HV HS HBX HP HB hBW HWn
      go_region_law
        (first | (refine step_append_win rfl _ _ rfl B _ _ x rfl HWa.out hb0 htk ⟨W.heap.size, 0, none⟩ 1 rfl HNw.out ?_; intro v1 w1 hw1 hwb1 hg1; obtain ⟨⟨k1, k2⟩, hF⟩ := HF.out v1 w1 hg1 hw1 hwb1; obtain ⟨a1, n1, c1, rfl⟩ : ∃ a1 n1 c1, v1 = .slice a1 n1 c1 := (by obtain ⟨a1, c1, e, -⟩ := win_len hw1; exact ⟨_, _, _, e⟩); have HFF := boxed hF; clear hF hw1 hwb1 hg1))
      all_goals
        go_wp2
        refine bodyPost_end (results_none rfl _ _ _) rfl ?_
        exact ⟨rfl, HFF.out⟩
    | succ k =>
      obtain ⟨g, o, cap1, e, hBg, hg, hc1, hcm1, -, -, -, -, -, -, c6⟩ := win_at (HX.out.below HB.out) k (by omega)
      injection e with e1 e2 e3
      subst e1; subst e3
      have l1 : (k : Int) < (L.length : Int) := by omega
      have l2 : k < L.length := by omega
      by_cases hd : x.2 ≤ L[k].2
      · have HP2 : Box (pk L x.2 k = pk L x.2 L.length) := boxed (by rw [← HP.out]; simp only [pk]; rw [if_pos (by rw [List.getD_eq_getElem?_getD, List.getElem?_eq_getElem (by omega)]; exact hd)])
        have d1 : decide (x.2 ≤ L[k].2) = true := decide_eq_true hd
        generalize L[k].2 = y at *
        go_wp2_with fail
        go_quiet (fail)
        go_wp2
        go_roundw
        case rel => exact ⟨k, by omega, by go_num, HP2, boxed (HB.out.trans (bel_drewN _ _ _))⟩
        case measure => simp [intOf]
      · have HP2 : Box (k + 1 = pk L x.2 L.length) := boxed (by rw [← HP.out]; simp only [pk]; rw [if_neg (by rw [List.getD_eq_getElem?_getD, List.getElem?_eq_getElem (by omega)]; exact hd)])
        have d1 : decide (x.2 ≤ L[k].2) = false := decide_eq_false hd
        generalize L[k].2 = y at *
        have HPk := HP2
        go_wp2_with fail
        go_quiet (fail)
        go_wp2_with fail
        obtain ⟨W, hW⟩ : ∃ W, wr.drewN nq = W := ⟨_, rfl⟩
        rw [hW]
        have hBW : Below wX.heap.size wX W := by rw [← hW]; exact HB.out.trans (bel_drewN _ _ _)
        clear hW
        have hWz := hBW.size
        have hsW : sb < W.heap.size := by omega
        have hsW2 : sb ≠ W.heap.size := by omega
        have hxW : w.heap.size < W.heap.size := by omega
        have hxW2 : w.heap.size ≠ W.heap.size := by omega
        obtain ⟨⟨c', fr'⟩, -⟩ := HC.out _ hBW
        obtain ⟨⟨x0', x1', x2', x3', x4', x5', x6'⟩, -⟩ := cells7 (HXX.out _ hBW)
        have hsl : ∀ w : World, (Instr.slice 198 (.slice (some ⟨g, o, none⟩) L.length cap) none (some (.int .i64 ((k : Int) + 1))) none).run Tryz.prog w = .ok (.slice (some ⟨g, o, none⟩) (k + 1) cap) w := slice_upto (some ⟨g, o, none⟩) L.length cap (k + 1) hlc hk (fun e => by cases e)
        have HWn := boxed (win_take (HX.out.below hBW) (k + 1) hk)
        have HDa : Box (Below W.heap.size W (W.alloc (.cells #[.int .i64 (x.1 : Int), .int .i64 0, .int .i64 0, .int .i64 10000, .int .i64 3, .bool false, .int .i64 x.2] 204)).drew) := boxed (((Below.refl _ _).alloc (Nat.le_refl _) _).drew)
        have HWa := boxed (HWn.out.below HDa.out)
        have HNw : Box (∀ j u, (lnc x)[j]? = some u → (W.alloc (.cells #[.int .i64 (x.1 : Int), .int .i64 0, .int .i64 0, .int .i64 10000, .int .i64 3, .bool false, .int .i64 x.2] 204)).drew.cell? ((⟨W.heap.size, 0, none⟩ : Addr).add j) = some u) := boxed (by
          intro j u hj
          rw [Addr.add_lit, Nat.zero_add, World.cell?_drew, cell_first]
          simpa [lnc] using hj)
        have hb0 : B ≤ (W.alloc (.cells #[.int .i64 (x.1 : Int), .int .i64 0, .int .i64 0, .int .i64 10000, .int .i64 3, .bool false, .int .i64 x.2] 204)).drew.heap.size := by simp [World.drew]; omega
        have HF : Box (∀ v1 w1, (W.alloc (.cells #[.int .i64 (x.1 : Int), .int .i64 0, .int .i64 0, .int .i64 10000, .int .i64 3, .bool false, .int .i64 x.2] 204)).drew.grownBy w1 (wblk (.slice (some ⟨g, o, none⟩) (k + 1) cap)) → WinAt B w1 v1 (L.take (k + 1) ++ [x]) → (wblk v1 = wblk (.slice (some ⟨g, o, none⟩) (k + 1) cap) ∨ ∃ g, wblk v1 = some g ∧ (W.alloc (.cells #[.int .i64 (x.1 : Int), .int .i64 0, .int .i64 0, .int .i64 10000, .int .i64 3, .bool false, .int .i64 x.2] 204)).drew.heap.size ≤ g) → _ ∧ _) := boxed (fun v1 w1 hg hw hb => wadd_end (sb := sb) (off := off) (n := L.length) (arr := arr) (t := t) hoff hsb HBX.out hBW HES.out HS.out HV.out hB hg hw hb HPk.out)
        have htk : (L.take (k + 1)).length ≤ 262144 := by rw [List.length_take]; omega
        clear HX HC HXX HES HV HS HBX HP HB hBW HWn
        go_region_law
          (first | (refine step_append_win rfl _ _ rfl B _ _ x rfl HWa.out hb0 htk ⟨W.heap.size, 0, none⟩ 1 rfl HNw.out ?_; intro v1 w1 hw1 hwb1 hg1; obtain ⟨⟨k1, k2⟩, hF⟩ := HF.out v1 w1 hg1 hw1 hwb1; obtain ⟨a1, n1, c1, rfl⟩ : ∃ a1 n1 c1, v1 = .slice a1 n1 c1 := (by obtain ⟨a1, c1, e, -⟩ := win_len hw1; exact ⟨_, _, _, e⟩); have HFF := boxed hF; clear hF hw1 hwb1 hg1))
        all_goals
          go_wp2
          refine bodyPost_end (results_none rfl _ _ _) rfl ?_
          exact ⟨rfl, HFF.out⟩
end
end Go.Proofs.YtcjcdpfjnomehaaGreat
