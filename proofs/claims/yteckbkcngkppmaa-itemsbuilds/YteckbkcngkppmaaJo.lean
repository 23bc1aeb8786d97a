/-
  What the program's box and end do.
-/
import Derived.Test.YteckbkcngkppmaaJn
namespace Go.Proofs.Yteckbkcngkppmaa
open Go.RowKit
set_option linter.unusedSimpArgs false
set_option linter.unusedVariables false

theorem BS.alike {w0 : Bse} {tb bb : Nat} {w w' : World} {L : List Itm} {a : Nat} {sy : Int} (h : BS w0 tb bb w L a sy) (h1 : w'.heap = w.heap) (h2 : w'.os = w.os) (h3 : w'.tape = w.tape) (h4 : w'.output = w.output) : BS w0 tb bb w' L a sy := by
  obtain ⟨⟨b1, b2, b3⟩, v, hblk, hown⟩ := h
  refine ⟨⟨b1, ⟨h2.trans b2.os, h3.trans b2.tape, h4.trans b2.output, by rw [h1]; exact b2.size, fun k hk => by rw [h1]; exact b2.block k hk⟩, fun p hp => by rw [h1]; exact b3 p hp⟩, v, by rw [h1]; exact hblk, ?_⟩
  have hg : w.grownBy w' none := ⟨h2, h3, h4, by rw [h1]; exact Nat.le_refl _, fun k hk _ => by rw [h1]⟩
  exact hown.kept hg (by cases hv : v.ownBlock <;> simp)
theorem BS.len {w0 : Bse} {tb bb : Nat} {w : World} {L : List Itm} {a : Nat} {sy : Int} (h : BS w0 tb bb w L a sy) : bb < w.heap.size := by
  obtain ⟨_, v, hblk, _⟩ := h
  by_cases c : bb < w.heap.size
  · exact c
  · rw [Array.getElem?_eq_none (by omega)] at hblk; cases hblk
theorem add_bx {w0 : Bse} {tb bb : Nat} {w : World} {L : List Itm} {a : Nat} {sy : Int} (h : BS w0 tb bb w L a sy) (x : Itm) (size : Nat) (ha : a ≤ 1048576) (hsz : size ≤ 1048576) (hL : L.length ≤ 1048576) (y : Itm) (A : Nat) (hA : a + size = A)
    (hy : { x with fr := (a : Nat), to := (A : Nat) } = y) (v : Value) (hv : x.val = v) :
    Calls Try.prog 47 #[.pointer (some ⟨bb, 0, none⟩), v, .int .i64 (size : Nat)] w fun e w' => e = .returned (.tuple #[]) ∧ BS w0 tb bb w' (L ++ [y]) A sy := by
  subst hA; subst hy; subst hv
  exact add7_any h x size ha hsz hL

set_option maxRecDepth 100000 in
set_option maxHeartbeats 2000000 in
theorem end7_any {w0 : Bse} {tb bb : Nat} {w : World} {L : List Itm} {a : Nat} {sy : Int} (h : BS w0 tb bb w L a sy) (size : Nat) (ha : a ≤ 1048576) (hsz : size ≤ 1048576) (hL : L.length ≤ 1048575) :
    Calls Try.prog 28 #[.pointer (some ⟨bb, 0, none⟩), .int .i64 (size : Nat)] w fun e w' => e = .returned (.tuple #[]) ∧ BS w0 tb bb w' (L ++ [flI (a : Nat), pnI 0 (-10000) false (a : Nat) (a + size : Nat)]) (a + size) sy := by
  have h1 := add_bx h ⟨2, 0, 0, 0, true, 0, false, 0, 0⟩ 0 ha (by omega) (by omega) (flI (a : Nat)) a (by omega) rfl _ rfl
  have h2 := fun w' (hb : BS w0 tb bb w' (L ++ [flI (a : Nat)]) a sy) => add_bx hb ⟨3, 0, 0, 0, false, -10000, false, 0, 0⟩ size ha hsz (by simp; omega) (pnI 0 (-10000) false (a : Nat) (a + size : Nat)) (a + size) rfl rfl _ rfl
  simp only [Itm.val] at h1 h2
  clear h
  go_enter Try.func28, Try.ntmps28
  go_wp2_with fail
  refine h1.mono ?_
  rintro e w1 ⟨rfl, hb1⟩
  have HB1 := boxed hb1
  clear hb1 h1
  go_wp2_with fail
  refine (h2 _ HB1.out).mono ?_
  rintro e w2 ⟨rfl, hb2⟩
  have HB2 := boxed hb2
  clear hb2 h2
  go_wp2
  refine bodyPost_end (results_none rfl _ _ _) rfl ?_
  exact ⟨rfl, by have := HB2.out; rw [List.append_assoc] at this; exact this⟩

set_option maxRecDepth 100000 in
set_option maxHeartbeats 2000000 in
theorem box_new {w0 : Bse} {tb bb : Nat} {w : World} {L : List Itm} {a : Nat} {sy : Int} (h : BS w0 tb bb w L a sy) (W : Int) (size : Nat) (y : Int) (ha : a ≤ 1048576) (hsz : size ≤ 1048576) (hL : L.length ≤ 1048575) (hno : ¬ (lbox L = true ∧ sy = y)) :
    Calls Try.prog 49 #[.pointer (some ⟨bb, 0, none⟩), .int .i64 W, .int .i64 (size : Nat), .int .i64 y] w fun e w' => e = .returned (.tuple #[]) ∧ BS w0 tb bb w' (L ++ [bxI W (a : Nat) (a + size : Nat)]) (a + size) y := by
  have h1 := add_bx h ⟨1, W, 0, 0, false, 0, false, 0, 0⟩ size ha (by omega) (by omega) (bxI W (a : Nat) (a + size : Nat)) (a + size) rfl rfl _ rfl
  simp only [Itm.val] at h1
  have hS : Box (∀ w' L' a', BS w0 tb bb w' L' a' sy → (∃ u, w'.cell? ⟨bb, 3, none⟩ = some u) ∧ w'.frozen? ⟨bb, 3, none⟩ = false ∧ BS w0 tb bb (w'.setCell ⟨bb, 3, none⟩ (.int .i64 y)) L' a' y) := boxed (by
    rintro w' L' a' ⟨⟨b1, b2, b3⟩, v, hblk, hown⟩
    refine ⟨⟨_, row_cell hblk 3⟩, row_free hblk 3, ⟨b1, ?_, b3.set hblk⟩, v, set_heap4 (i := 3) (v := .int .i64 y) hblk, ?_⟩
    · exact b2.grown (grown_set w' bb 3 _) b2.size (fun r hr => by injection hr with hr; omega)
    · exact hown.kept (grown_set w' bb 3 _) (Or.inr (own_ne hown hblk (by decide))))
  obtain ⟨-, v, hblk, hown⟩ := h
  obtain ⟨ao, cap, rfl⟩ := own_shape hown
  have e1 : w.cell? ⟨bb, 1, none⟩ = some (.slice ao L.length cap) := row_cell hblk 1
  have e3 : w.cell? ⟨bb, 3, none⟩ = some (.int .i64 sy) := row_cell hblk 3
  by_cases hz : L.length = 0
  · rw [hz] at e1
    clear hblk hown
    go_enter Try.func49, Try.ntmps49
    go_wp2_with fail
    refine h1.mono ?_
    rintro e w1 ⟨rfl, hb1⟩
    obtain ⟨⟨u, k3⟩, z3, hf⟩ := hS.out _ _ _ hb1
    have HF := boxed hf
    clear hb1 h1 hf e1 e3
    go_wp2
    refine bodyPost_end (results_none rfl _ _ _) rfl ?_
    exact ⟨rfl, HF.out⟩
  · obtain ⟨m, hm⟩ : ∃ m, L.length - 1 = m := ⟨_, rfl⟩
    obtain ⟨A, x, hLx⟩ := snoc_of L (by omega)
    have hAm : A.length = m := by rw [hLx] at hm; simpa using hm
    have hlb : lbox L = (x.k == 1) := by rw [hLx, lbox_snoc]
    rcases ownsRow_forms hown with ⟨_, h2⟩ | ⟨g, cap', e⟩
    · exact absurd h2 hz
    injection e with ea e2 e3'
    subst ea; subst e3'
    have ck : w.cell? ⟨g, m * 9, none⟩ = some (.int .i64 x.k) := by
      have := hown.cellAt (m * 9 + 0) (by omega)
      rw [ics_get L m 0 (by omega) (by omega)] at this
      have hx : L.getD m Itm.zero = x := by rw [hLx, ← hAm]; simp
      rw [hx] at this
      exact this
    obtain ⟨n, hn⟩ : ∃ n, L.length = n := ⟨_, rfl⟩
    rw [hn] at e1 hL hz hm
    have e6 : (n : Int) - 1 = (m : Nat) := by omega
    have hm1 : m < n := by omega
    have hm2 : (m : Int) < (n : Int) := by omega
    have hm0 : (0 : Int) ≤ (m : Nat) := by omega
    have t0 : decide ((0 : Int) ≤ (m : Nat)) = true := decide_eq_true hm0
    have hno' : ¬ ((x.k == 1) = true ∧ sy = y) := by rw [← hlb]; exact hno
    clear hblk hown hno hlb hm hz hLx hAm
    cases hk : (x.k == 1)
    · clear hno'
      go_enter Try.func49, Try.ntmps49
      go_wp2_with fail
      refine h1.mono ?_
      rintro e w1 ⟨rfl, hb1⟩
      obtain ⟨⟨u, k3⟩, z3, hf⟩ := hS.out _ _ _ hb1
      have HF := boxed hf
      clear hb1 h1 hf e1 e3 ck
      go_wp2
      refine bodyPost_end (results_none rfl _ _ _) rfl ?_
      exact ⟨rfl, HF.out⟩
    · have hy : (sy == y) = false := by rw [beq_eq_false_iff_ne]; intro c; exact hno' ⟨hk, c⟩
      clear hno'
      go_enter Try.func49, Try.ntmps49
      go_wp2_with fail
      refine h1.mono ?_
      rintro e w1 ⟨rfl, hb1⟩
      obtain ⟨⟨u, k3⟩, z3, hf⟩ := hS.out _ _ _ hb1
      have HF := boxed hf
      clear hb1 h1 hf e1 e3 ck
      go_wp2
      refine bodyPost_end (results_none rfl _ _ _) rfl ?_
      exact ⟨rfl, HF.out⟩

/-- Two cells of the last item stored. -/
theorem ics_grow (A : List Itm) (x : Itm) (W t : Int) : ((ics (A ++ [x])).set (A.length * 9 + 1) (.int .i64 (ad x.w W))).set (A.length * 9 + 8) (.int .i64 t) = ics (grow (A ++ [x]) W t) := by
  rw [grow_snoc, ics_app, ics_app, ics_one, ics_one]
  have hl := ics_len A
  rw [List.set_append_right _ _ (by omega), List.set_append_right _ _ (by omega), hl]
  rw [show A.length * 9 + 1 - A.length * 9 = 1 by omega, show A.length * 9 + 8 - A.length * 9 = 8 by omega]
  rfl

set_option maxRecDepth 100000 in
set_option maxHeartbeats 2000000 in
theorem box_grow {w0 : Bse} {tb bb : Nat} {w : World} {A : List Itm} {x : Itm} {a : Nat} {sy : Int} (h : BS w0 tb bb w (A ++ [x]) a sy) (W : Int) (size : Nat) (ha : a ≤ 1048576) (hsz : size ≤ 1048576) (hL : A.length ≤ 1048575) (hx1 : x.k = 1) :
    Calls Try.prog 49 #[.pointer (some ⟨bb, 0, none⟩), .int .i64 W, .int .i64 (size : Nat), .int .i64 sy] w fun e w' => e = .returned (.tuple #[]) ∧ BS w0 tb bb w' (grow (A ++ [x]) W (a + size : Nat)) (a + size) sy := by
  have hlt := h.len
  obtain ⟨⟨hlo, hbel, hkr⟩, v, hblk, hown⟩ := h
  obtain ⟨m, hm⟩ : ∃ m, A.length = m := ⟨_, rfl⟩
  have hlen : (A ++ [x]).length = m + 1 := by simp [hm]
  rw [hlen] at hown
  rcases ownsRow_forms hown with ⟨_, h2⟩ | ⟨g, cap, e⟩
  · omega
  subst e
  have e1 : w.cell? ⟨bb, 1, none⟩ = some (.slice (some ⟨g, 0, none⟩) (m + 1) cap) := row_cell hblk 1
  have e2 : w.cell? ⟨bb, 2, none⟩ = some (.int .i64 (a : Nat)) := row_cell hblk 2
  have e3 : w.cell? ⟨bb, 3, none⟩ = some (.int .i64 sy) := row_cell hblk 3
  have z2 : w.frozen? ⟨bb, 2, none⟩ = false := row_free hblk 2
  have hne := own_ne hown hblk (by decide)
  have hgb : g ≠ bb := fun c => hne (by rw [c]; rfl)
  have hgb' : bb ≠ g := fun c => hgb c.symm
  have key : ∀ j, j < 9 → w.cell? ⟨g, m * 9 + j, none⟩ = (x.cells)[j]? := by
    intro j hj
    have := hown.cellAt (m * 9 + j) (by omega)
    rw [ics_get (A ++ [x]) m j (by omega) hj] at this
    have hx : (A ++ [x]).getD m Itm.zero = x := by rw [← hm]; simp
    rw [hx] at this
    exact this
  have c0 : w.cell? ⟨g, m * 9, none⟩ = some (.int .i64 1) := by have := key 0 (by omega); rw [← hx1]; exact this
  have c1 : w.cell? ⟨g, m * 9 + 1, none⟩ = some (.int .i64 x.w) := key 1 (by omega)
  have c8 : w.cell? ⟨g, m * 9 + 8, none⟩ = some (.int .i64 x.to) := key 8 (by omega)
  have y1 := hown.frozenAt (m * 9 + 1)
  have y8 := hown.frozenAt (m * 9 + 8)
  obtain ⟨n, hn⟩ : ∃ n, m + 1 = n := ⟨_, rfl⟩
  rw [hn] at e1
  have e6 : (n : Int) - 1 = (m : Nat) := by omega
  have hm1 : m < n := by omega
  have hm2 : (m : Int) < (n : Int) := by omega
  have hm0 : (0 : Int) ≤ (m : Nat) := by omega
  have t0 : decide ((0 : Int) ≤ (m : Nat)) = true := decide_eq_true hm0
  obtain ⟨T, hT⟩ : ∃ T, a + size = T := ⟨_, rfl⟩
  have hT2 : (a : Int) + (size : Int) = (T : Nat) := by omega
  have hT3 : T ≤ 2097152 := by omega
  rw [hT]
  have HF : Box (BS w0 tb bb (((w.setCell ⟨bb, 2, none⟩ (.int .i64 (T : Nat))).setCell ⟨g, m * 9 + 1, none⟩ (.int .i64 (ad x.w W))).setCell ⟨g, m * 9 + 8, none⟩ (.int .i64 (T : Nat))) (grow (A ++ [x]) W (T : Nat)) T sy) := boxed (by
    refine ⟨⟨hlo, ?_, ?_⟩, .slice (some ⟨g, 0, none⟩) (m + 1) cap, ?_, ?_⟩
    · have hg0 := (hown.lt g rfl).1
      have b1 := hbel.grown (grown_set w bb 2 (.int .i64 (T : Nat))) hbel.size (fun r hr => by injection hr with hr; omega)
      have b2 := b1.grown (grown_set _ g (m * 9 + 1) (.int .i64 (ad x.w W))) b1.size (fun r hr => by injection hr with hr; omega)
      exact b2.grown (grown_set _ g (m * 9 + 8) (.int .i64 (T : Nat))) b2.size (fun r hr => by injection hr with hr; omega)
    · have o1 := hown.kept (grown_set w bb 2 (.int .i64 (T : Nat))) (Or.inr hne)
      have o2 := (o1.stored (m * 9 + 1) (.int .i64 (ad x.w W))).1
      have k1 : w0.kr (w.setCell ⟨bb, 2, none⟩ (.int .i64 (T : Nat))) := hkr.set hblk
      exact (k1.own o1 (grown_set _ g (m * 9 + 1) _)).own o2 (grown_set _ g (m * 9 + 8) _)
    · rw [set_far hgb', set_far hgb']
      exact set_heap4 (i := 2) (v := .int .i64 (T : Nat)) hblk
    · have o1 := hown.kept (grown_set w bb 2 (.int .i64 (T : Nat))) (Or.inr hne)
      have o2 := (o1.stored (m * 9 + 1) (.int .i64 (ad x.w W))).1
      have o3 := (o2.stored (m * 9 + 8) (.int .i64 (T : Nat))).1
      have e := ics_grow A x W (T : Nat)
      rw [hm] at e
      rw [e] at o3
      rw [grow_len, hlen]
      exact o3)
  have hadd := fun w => add_any x.w W w
  clear hblk hown key hn hbel hT hkr
  go_enter Try.func49, Try.ntmps49
  go_wp2_with fail
  go_region_with (first | (go_at_call 68; refine (hadd _).mono ?_; rintro e w5 ⟨rfl, hw5⟩; subst w5))
  all_goals
    go_wp2_with fail
    go_region
    all_goals
      go_wp2
      refine bodyPost_ret (results_none rfl _ _ _) rfl ?_
      exact ⟨rfl, HF.out.alike rfl rfl rfl rfl⟩
end Go.Proofs.Yteckbkcngkppmaa
