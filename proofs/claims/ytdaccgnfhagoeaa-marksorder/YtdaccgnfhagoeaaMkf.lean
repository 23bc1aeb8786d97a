/-
  What the program's Insert, Delete and Move do.
-/
import Derived.Test.YtdaccgnfhagoeaaMke
namespace Go.Proofs.Ytdaccgnfhagoeaa
open Go.RowKit
set_option linter.unusedSimpArgs false
set_option linter.unusedVariables false

/-- The size written. -/
theorem PS.sized {B : Nat} {w : World} {sb : Nat} {v : Value} {s : St} (h : PS B w sb v s) (z : Int) : PS B (w.setCell ⟨sb, 0, none⟩ (.int .i64 z)) sb v { s with sz := z } := by
  refine ⟨h.lo, ?_, h.own.kept (grown_set w sb 0 _) (Or.inr (own_ne h.own h.blk (by decide)))⟩
  have := arr_set (k := 0) (.int .i64 z) h.blk
  simpa using this
section
variable {B : Nat} {w : World} {sb : Nat} {v : Value} {s : St} {N : Int}
set_option maxRecDepth 100000 in
set_option maxHeartbeats 2000000 in
theorem insert16_any (h : PS B w sb v s) (hB : B ≤ w.heap.size) (hk : s.ok N) (a n : Int) :
    Calls Try.prog 20 #[.pointer (some ⟨sb, 0, none⟩), .int .i64 a, .int .i64 n] w fun e w' => e = .returned (.int .i64 (s.ins a n).2) ∧ PS B w' sb v (s.ins a n).1 ∧ Chg (Own sb v) w w' := by
  have l2 := laid2 w (.cells #[.int .i64 a] 3) (.cells #[.int .i64 n] 3)
  generalize hW : ((w.alloc (.cells #[.int .i64 a] 3)).alloc (.cells #[.int .i64 n] 3)) = W at l2
  obtain ⟨l0, l1, lb, lz⟩ := l2
  have hP := h.below lb
  have hout := outside16_any hP a
  have k0 : W.cell? ⟨w.heap.size, 0, none⟩ = some (.int .i64 a) := by rw [cell_of_row _ _ _ _ _ _ l0]; rfl
  have k1 : W.cell? ⟨w.heap.size + 1, 0, none⟩ = some (.int .i64 n) := by rw [cell_of_row _ _ _ _ _ _ l1]; rfl
  have hsb := hP.lt
  have hsb0 := h.lt
  have HP := boxed hP
  have HC0 : Box (Chg (Own sb v) w W) := boxed (Chg.of_below lb)
  obtain ⟨⟨c0, c1, c2⟩, y0, y1, y2⟩ := hP.cells
  have HW := boxed hW
  have s0 := hk.sz0
  have s1 := hk.sz1
  have HK := boxed hk
  have HL0 := boxed l0
  have HL1 := boxed l1
  clear hW l0 l1 h hP hk
  by_cases c : a < 0 ∨ s.sz < a
  · rw [decide_eq_true c] at hout
    have HE : Box (s.ins a n = (s, 30)) := boxed (by unfold St.ins; rw [if_pos c])
    clear c
    go_enter Try.func20, Try.ntmps20
    go_upto_region 1 with (fail)
    rw [HW.out]
    go_wp2_with fail
    refine hout.mono ?_
    rintro e w1 ⟨rfl, hw1⟩
    subst w1
    go_wp2_with fail
    go_ret
    exact ⟨by rw [HE.out]; rfl, by rw [HE.out]; exact HP.out, HC0.out⟩
  rw [decide_eq_false c] at hout
  by_cases d : n < 0
  · have HE : Box (s.ins a n = (s, 1)) := boxed (by unfold St.ins; rw [if_neg c, if_pos d])
    have t1 : decide (n < 0) = true := decide_eq_true d
    clear c d
    go_enter Try.func20, Try.ntmps20
    go_upto_region 1 with (fail)
    rw [HW.out]
    go_wp2_with fail
    refine hout.mono ?_
    rintro e w1 ⟨rfl, hw1⟩
    subst w1
    go_wp2_with fail
    go_ret
    exact ⟨by rw [HE.out]; rfl, by rw [HE.out]; exact HP.out, HC0.out⟩
  have t1 : decide (n < 0) = false := decide_eq_false d
  by_cases f : 65536 - s.sz < n
  · have HE : Box (s.ins a n = (s, 31)) := boxed (by unfold St.ins; rw [if_neg c, if_neg d, if_pos f])
    have t2 : decide (65536 - s.sz < n) = true := decide_eq_true f
    have HP2 : Box (∀ q, PS B (W.drewN q) sb v s ∧ Chg (Own sb v) w (W.drewN q)) := boxed (fun q => ⟨HP.out.below (bel_drewN _ _ _), HC0.out.trans (Chg.of_below (bel_drewN _ _ _))⟩)
    clear c d f
    go_enter Try.func20, Try.ntmps20
    go_upto_region 1 with (fail)
    rw [HW.out]
    go_wp2_with fail
    refine hout.mono ?_
    rintro e w1 ⟨rfl, hw1⟩
    subst w1
    go_wp2_with fail
    go_quiet (fail)
    go_wp2_with fail
    go_ret
    exact ⟨by rw [HE.out]; rfl, by rw [HE.out]; exact (HP2.out _).1, (HP2.out _).2⟩
  have t2 : decide (65536 - s.sz < n) = false := decide_eq_false f
  have HE : Box (s.ins a n = (⟨s.sz + n, s.nx, s.L.map (insP a n)⟩, 0)) := boxed (by unfold St.ins; rw [if_neg c, if_neg d, if_neg f])
  have n0 : 0 ≤ n := by omega
  have n1 : n ≤ 65536 := by omega
  have hz1 : s.sz + n ≤ 65536 := by omega
  have HPl : Box (∀ q, Calls Try.prog 35 #[.pointer (some ⟨sb, 0, none⟩), .func (.func 36) #[] #[.pointer (some ⟨w.heap.size, 0, none⟩), .pointer (some ⟨w.heap.size + 1, 0, none⟩)]] ((W.drewN q).setCell ⟨sb, 0, none⟩ (.int .i64 (s.sz + n))) fun e w' => e = .returned (.tuple #[]) ∧ PS B w' sb v ⟨s.sz + n, s.nx, s.L.map (insP a n)⟩ ∧ Chg (Own sb v) w w') := boxed (fun q => by
    have hq := (HP.out.below (bel_drewN _ W q)).sized (s.sz + n)
    have hcq : Chg (Own sb v) w ((W.drewN q).setCell ⟨sb, 0, none⟩ (.int .i64 (s.sz + n))) := (HC0.out.trans (Chg.of_below (bel_drewN _ W q))).trans (Chg.set _ sb 0 _ (.inl rfl))
    have hsz : ((W.drewN q).setCell ⟨sb, 0, none⟩ (.int .i64 (s.sz + n))).heap.size = W.heap.size := by show ((W.drewN q).setCell _ _).heap.size = _; simp
    have hcell : ∀ (b : Nat) (i : Nat) (u : Value), b ≠ sb → W.cell? ⟨b, i, none⟩ = some u → ((W.drewN q).setCell ⟨sb, 0, none⟩ (.int .i64 (s.sz + n))).heap[b]? = W.heap[b]? := fun b i u hb _ => by
      show ((W.drewN q).setCell _ _).heap[b]? = _
      rw [heap_setCell_other _ _ _ _ (by show b ≠ sb; exact hb)]; rfl
    refine (placeI_any hq (by rw [hsz]; omega) HK.out.len (insP a n) (insP_form a n) w.heap.size (w.heap.size + 1) (fun b => b = sb ∨ v.ownBlock = some b) (fun k hk => hk) ?_).mono ?_
    · intro W' hW' m hm
      have hml := HK.out.mem m hm
      have q0 : ((W.drewN q).setCell ⟨sb, 0, none⟩ (.int .i64 (s.sz + n))).heap[w.heap.size]? = some (.cells #[.int .i64 a] 3 (0, 0)) := by rw [hcell w.heap.size 0 _ (by omega) k0]; exact HL0.out
      have q1 : ((W.drewN q).setCell ⟨sb, 0, none⟩ (.int .i64 (s.sz + n))).heap[w.heap.size + 1]? = some (.cells #[.int .i64 n] 3 (0, 0)) := by rw [hcell (w.heap.size + 1) 0 _ (by omega) k1]; exact HL1.out
      have hne0 : ¬ (w.heap.size = sb ∨ v.ownBlock = some w.heap.size) := by
        rintro (e | e)
        · omega
        · exact own_ne hq.own q0 (by decide) e
      have hne1 : ¬ (w.heap.size + 1 = sb ∨ v.ownBlock = some (w.heap.size + 1)) := by
        rintro (e | e)
        · omega
        · exact own_ne hq.own q1 (by decide) e
      have p0 := (hW'.block w.heap.size (by rw [hsz]; omega) hne0).trans q0
      have p1 := (hW'.block (w.heap.size + 1) (by rw [hsz]; omega) hne1).trans q1
      exact ins1_any m a n _ _ W' (by rw [cell_of_row _ _ _ _ _ _ p0]; rfl) (by rw [cell_of_row _ _ _ _ _ _ p1]; rfl) (by omega) ⟨n0, n1⟩
    · rintro e W' ⟨rfl, hp, hch⟩
      exact ⟨rfl, hp, hcq.trans hch⟩)
  clear c d f HC0 HK HL0 HL1 HP
  go_enter Try.func20, Try.ntmps20
  go_upto_region 1 with (fail)
  rw [HW.out]
  go_wp2_with fail
  refine hout.mono ?_
  rintro e w1 ⟨rfl, hw1⟩
  subst w1
  go_wp2_with fail
  go_quiet (fail)
  go_wp2_with fail
  go_region
  go_wp2_with fail
  refine (HPl.out _).mono ?_
  rintro e w1 ⟨rfl, hp, hc⟩
  have HPp := boxed hp
  have HCc := boxed hc
  clear hp hc HPl
  go_wp2_with fail
  go_ret
  exact ⟨by rw [HE.out]; rfl, by rw [HE.out]; exact HPp.out, HCc.out⟩
set_option maxRecDepth 100000 in
set_option maxHeartbeats 2000000 in
theorem delete16_any (h : PS B w sb v s) (hB : B ≤ w.heap.size) (hk : s.ok N) (f t : Int) :
    Calls Try.prog 21 #[.pointer (some ⟨sb, 0, none⟩), .int .i64 f, .int .i64 t] w fun e w' => e = .returned (.int .i64 (s.del f t).2) ∧ PS B w' sb v (s.del f t).1 ∧ Chg (Own sb v) w w' := by
  have l2 := laid2 w (.cells #[.int .i64 f] 3) (.cells #[.int .i64 t] 3)
  generalize hW : ((w.alloc (.cells #[.int .i64 f] 3)).alloc (.cells #[.int .i64 t] 3)) = W at l2
  obtain ⟨l0, l1, lb, lz⟩ := l2
  have hP := h.below lb
  have k0 : W.cell? ⟨w.heap.size, 0, none⟩ = some (.int .i64 f) := by rw [cell_of_row _ _ _ _ _ _ l0]; rfl
  have k1 : W.cell? ⟨w.heap.size + 1, 0, none⟩ = some (.int .i64 t) := by rw [cell_of_row _ _ _ _ _ _ l1]; rfl
  have hsb := hP.lt
  have hsb0 := h.lt
  have HP := boxed hP
  have HC0 : Box (Chg (Own sb v) w W) := boxed (Chg.of_below lb)
  obtain ⟨⟨c0, c1, c2⟩, y0, y1, y2⟩ := hP.cells
  have HW := boxed hW
  have s0 := hk.sz0
  have s1 := hk.sz1
  have HK := boxed hk
  have HL0 := boxed l0
  have HL1 := boxed l1
  clear hW l0 l1 h hP hk
  have HP2 : Box (∀ q, PS B (W.drewN q) sb v s ∧ Chg (Own sb v) w (W.drewN q)) := boxed (fun q => ⟨HP.out.below (bel_drewN _ _ _), HC0.out.trans (Chg.of_below (bel_drewN _ _ _))⟩)
  by_cases c : f < 0 ∨ s.sz < t ∨ t < f
  · have HE : Box (s.del f t = (s, 30)) := boxed (by unfold St.del; rw [if_pos c])
    by_cases c1 : f < 0
    · have t1 : decide (f < 0) = true := decide_eq_true c1
      clear c c1
      go_enter Try.func21, Try.ntmps21
      go_upto_region 1 with (fail)
      rw [HW.out]
      go_quiet (fail)
      go_wp2_with fail
      go_ret
      exact ⟨by rw [HE.out]; rfl, by rw [HE.out]; exact (HP2.out _).1, (HP2.out _).2⟩
    have t1 : decide (f < 0) = false := decide_eq_false c1
    by_cases c2' : s.sz < t
    · have t2 : decide (s.sz < t) = true := decide_eq_true c2'
      clear c c1 c2'
      go_enter Try.func21, Try.ntmps21
      go_upto_region 1 with (fail)
      rw [HW.out]
      go_quiet (fail)
      go_wp2_with fail
      go_ret
      exact ⟨by rw [HE.out]; rfl, by rw [HE.out]; exact (HP2.out _).1, (HP2.out _).2⟩
    have t2 : decide (s.sz < t) = false := decide_eq_false c2'
    have c3 : t < f := by omega
    have t3 : decide (t < f) = true := decide_eq_true c3
    clear c c1 c2' c3
    go_enter Try.func21, Try.ntmps21
    go_upto_region 1 with (fail)
    rw [HW.out]
    go_quiet (fail)
    go_wp2_with fail
    go_ret
    exact ⟨by rw [HE.out]; rfl, by rw [HE.out]; exact (HP2.out _).1, (HP2.out _).2⟩
  have t1 : decide (f < 0) = false := decide_eq_false (by omega)
  have t2 : decide (s.sz < t) = false := decide_eq_false (by omega)
  have t3 : decide (t < f) = false := decide_eq_false (by omega)
  have HE : Box (s.del f t = (⟨s.sz - (t - f), s.nx, s.L.map (delP f t)⟩, 0)) := boxed (by unfold St.del; rw [if_neg c])
  obtain ⟨g, hg⟩ : ∃ g, t - f = g := ⟨_, rfl⟩
  have g0 : 0 ≤ g := by omega
  have g1 : g ≤ 65536 := by omega
  have g2 : 0 ≤ s.sz - g := by omega
  have f1 : 0 ≤ f := by omega
  have f2 : t ≤ 65536 := by omega
  have HPl : Box (∀ V, PS B V sb v { s with sz := s.sz - g } → Chg (Own sb v) w V → V.heap[w.heap.size]? = some (.cells #[.int .i64 f] 3 (0, 0)) → V.heap[w.heap.size + 1]? = some (.cells #[.int .i64 t] 3 (0, 0)) → V.heap[w.heap.size + 2]? = some (.cells #[.int .i64 g] 3 (0, 0)) →
      Calls Try.prog 35 #[.pointer (some ⟨sb, 0, none⟩), .func (.func 37) #[] #[.pointer (some ⟨w.heap.size + 1, 0, none⟩), .pointer (some ⟨w.heap.size + 2, 0, none⟩), .pointer (some ⟨w.heap.size, 0, none⟩)]] V fun e w' => e = .returned (.tuple #[]) ∧ PS B w' sb v ⟨s.sz - g, s.nx, s.L.map (delP f t)⟩ ∧ Chg (Own sb v) w w') := boxed (fun V hq hcq q0 q1 q2 => by
    have hl0 := heap_lt q0
    have hl1 := heap_lt q1
    have hl2 := heap_lt q2
    refine (placeD_any hq (by omega) HK.out.len (delP f t) (delP_form f t) (w.heap.size + 1) (w.heap.size + 2) w.heap.size (fun b => b = sb ∨ v.ownBlock = some b) (fun k hk => hk) ?_).mono ?_
    · intro W' hW' m hm
      have hml := HK.out.mem m hm
      have hne : ∀ b u, V.heap[b]? = some (.cells #[u] 3 (0, 0)) → b ≠ sb → ¬ (b = sb ∨ v.ownBlock = some b) := by
        rintro b u hb hbs (e | e)
        · exact hbs e
        · exact own_ne hq.own hb (by decide) e
      have p0 := (hW'.block w.heap.size hl0 (hne _ _ q0 (by omega))).trans q0
      have p1 := (hW'.block (w.heap.size + 1) hl1 (hne _ _ q1 (by omega))).trans q1
      have p2 := (hW'.block (w.heap.size + 2) hl2 (hne _ _ q2 (by omega))).trans q2
      exact del1_any m f t g _ _ _ W' (by rw [cell_of_row _ _ _ _ _ _ p1]; rfl) (by rw [cell_of_row _ _ _ _ _ _ p2]; rfl) (by rw [cell_of_row _ _ _ _ _ _ p0]; rfl) hg (by omega) ⟨g0, g1⟩
    · rintro e W' ⟨rfl, hp, hch⟩
      exact ⟨rfl, hp, hcq.trans hch⟩)
  have HFa : Box (∀ q, PS B (((W.drewN q).setCell ⟨sb, 0, none⟩ (.int .i64 (s.sz - g))).alloc (.cells #[.int .i64 g] 3)).drew sb v { s with sz := s.sz - g } ∧ Chg (Own sb v) w (((W.drewN q).setCell ⟨sb, 0, none⟩ (.int .i64 (s.sz - g))).alloc (.cells #[.int .i64 g] 3)).drew ∧ (((W.drewN q).setCell ⟨sb, 0, none⟩ (.int .i64 (s.sz - g))).alloc (.cells #[.int .i64 g] 3)).drew.heap[w.heap.size]? = some (.cells #[.int .i64 f] 3 (0, 0)) ∧ (((W.drewN q).setCell ⟨sb, 0, none⟩ (.int .i64 (s.sz - g))).alloc (.cells #[.int .i64 g] 3)).drew.heap[w.heap.size + 1]? = some (.cells #[.int .i64 t] 3 (0, 0)) ∧ (((W.drewN q).setCell ⟨sb, 0, none⟩ (.int .i64 (s.sz - g))).alloc (.cells #[.int .i64 g] 3)).drew.heap[w.heap.size + 2]? = some (.cells #[.int .i64 g] 3 (0, 0))) := boxed (fun q => by
    have hzq : ((W.drewN q).setCell ⟨sb, 0, none⟩ (.int .i64 (s.sz - g))).heap.size = w.heap.size + 2 := by simp; exact lz
    have hs := (HP.out.below (bel_drewN _ W q)).sized (s.sz - g)
    have hcq : Chg (Own sb v) w ((W.drewN q).setCell ⟨sb, 0, none⟩ (.int .i64 (s.sz - g))) := (HC0.out.trans (Chg.of_below (bel_drewN _ W q))).trans (Chg.set _ sb 0 _ (.inl rfl))
    have hbq : Below ((W.drewN q).setCell ⟨sb, 0, none⟩ (.int .i64 (s.sz - g))).heap.size ((W.drewN q).setCell ⟨sb, 0, none⟩ (.int .i64 (s.sz - g))) (((W.drewN q).setCell ⟨sb, 0, none⟩ (.int .i64 (s.sz - g))).alloc (.cells #[.int .i64 g] 3)).drew := ((Below.refl _ _).alloc (Nat.le_refl _) _).drew
    have hnew : (((W.drewN q).setCell ⟨sb, 0, none⟩ (.int .i64 (s.sz - g))).alloc (.cells #[.int .i64 g] 3)).drew.heap[w.heap.size + 2]? = some (.cells #[.int .i64 g] 3 (0, 0)) := by rw [← hzq]; exact heap_alloc_new _ _
    refine ⟨hs.below hbq, hcq.trans (Chg.of_below hbq), ?_, ?_, hnew⟩
    · rw [hbq.block _ (by omega), heap_setCell_other _ _ _ _ (by show w.heap.size ≠ sb; omega)]; exact HL0.out
    · rw [hbq.block _ (by omega), heap_setCell_other _ _ _ _ (by show w.heap.size + 1 ≠ sb; omega)]; exact HL1.out)
  have hne1 : sb ≠ w.heap.size + 2 := by omega
  have hne2 : ¬ w.heap.size + 2 = sb := by omega
  have hne3 : sb < w.heap.size + 2 := by omega
  clear c HC0 HK HL0 HL1 HP HP2
  go_enter Try.func21, Try.ntmps21
  go_upto_region 1 with (fail)
  rw [HW.out]
  go_quiet (fail)
  go_wp2_with fail
  go_region
  go_wp2_with fail
  obtain ⟨p0, p1, p2, p3, p4⟩ := HFa.out _
  refine (HPl.out _ p0 p1 p2 p3 p4).mono ?_
  rintro e w1 ⟨rfl, hp, hc⟩
  have HPp := boxed hp
  have HCc := boxed hc
  clear hp hc HPl HFa p0 p1 p2 p3 p4
  go_wp2_with fail
  go_ret
  exact ⟨by rw [HE.out]; rfl, by rw [HE.out, hg]; exact HPp.out, HCc.out⟩
set_option maxRecDepth 100000 in
set_option maxHeartbeats 2000000 in
theorem move16_any (h : PS B w sb v s) (hB : B ≤ w.heap.size) (hk : s.ok N) (d a : Int) :
    Calls Try.prog 32 #[.pointer (some ⟨sb, 0, none⟩), .int .i64 d, .int .i64 a] w fun e w' => e = .returned (.int .i64 (s.move d a).2) ∧ PS B w' sb v (s.move d a).1 ∧ Chg (Own sb v) w w' := by
  have hf := find16_any h hk.rise (by have := hk.len; omega) d
  have HP := boxed h
  have HK := boxed hk
  clear h hk
  go_enter Try.func32, Try.ntmps32
  go_wp2_with fail
  refine hf.mono ?_
  rintro e w1 ⟨⟨q, fb, rfl, h1, h2, h3⟩, hb⟩
  have hP1 := HP.out.below hb
  have HCb : Box (Chg (Own sb v) w w1) := boxed (Chg.of_below hb)
  have hout := outside16_any hP1 a
  have HP1 := boxed hP1
  clear hf hb HP
  cases fb
  · have HE : Box (s.move d a = (s, 160)) := boxed (by unfold St.move; rw [if_neg (of_decide_eq_false h2.symm)])
    clear h1 h2 h3 hP1
    go_wp2_with fail
    go_ret
    exact ⟨by rw [HE.out]; rfl, by rw [HE.out]; exact HP1.out, HCb.out⟩
  have hq : q = ix s.L d := h3 rfl
  have hlt : ix s.L d < s.L.length := of_decide_eq_true h2.symm
  by_cases c : a < 0 ∨ s.sz < a
  · rw [decide_eq_true c] at hout
    have HE : Box (s.move d a = (s, 30)) := boxed (by unfold St.move; rw [if_pos hlt, if_pos c])
    clear h1 h2 h3 hP1 hq hlt c
    go_wp2_with fail
    refine hout.mono ?_
    rintro e w2 ⟨rfl, hw2⟩
    subst w2
    go_wp2_with fail
    go_ret
    exact ⟨by rw [HE.out]; rfl, by rw [HE.out]; exact HP1.out, HCb.out⟩
  rw [decide_eq_false c] at hout
  obtain ⟨g, cap, rfl, hcap, d0, d1, d2, hfz⟩ := own_mk hP1.own _ hlt
  have y1 := hfz (ix s.L d * 3 + 1)
  have HE : Box (s.move d a = ({ s with L := s.L.set (ix s.L d) { s.L[ix s.L d]'hlt with pl := a } }, 0)) := boxed (by unfold St.move; rw [if_pos hlt, if_neg c, getD_at hlt])
  have HNx : Box (PS B (w1.setCell ⟨g, ix s.L d * 3 + 1, none⟩ (.int .i64 a)) sb (.slice (some ⟨g, 0, none⟩) s.L.length cap) { s with L := s.L.set (ix s.L d) { s.L[ix s.L d]'hlt with pl := a } } ∧ Chg (Own sb (.slice (some ⟨g, 0, none⟩) s.L.length cap)) w (w1.setCell ⟨g, ix s.L d * 3 + 1, none⟩ (.int .i64 a))) := boxed (by
    have hne := own_ne hP1.own hP1.blk (by decide)
    have hgs : g ≠ sb := fun e => hne (by rw [e]; rfl)
    refine ⟨⟨hP1.lo, by rw [heap_setCell_other _ _ _ _ (by show sb ≠ g; omega)]; exact hP1.blk, ?_⟩, HCb.out.trans (Chg.set w1 g _ _ (.inr rfl))⟩
    have h3 := own_set hP1.own (j := ix s.L d * 3 + 1) (.int .i64 a) (by rw [mcs_len]; omega)
    rw [mcs_set_pl s.L _ hlt a] at h3
    simpa using h3)
  obtain ⟨⟨-, -, c2⟩, -⟩ := hP1.cells
  have hl2 : ((ix s.L d : Nat) : Int) < (s.L.length : Int) := by omega
  subst hq
  clear h1 h2 h3 hP1 c d0 d2 hfz HCb HP1
  generalize s.L[ix s.L d]'hlt = m at *
  generalize hQ : s.L.set (ix s.L d) { m with pl := a } = Q at *
  generalize ix s.L d = q at *
  go_wp2_with fail
  refine hout.mono ?_
  rintro e w2 ⟨rfl, hw2⟩
  subst w2
  go_wp2_with fail
  go_ret
  exact ⟨by rw [HE.out]; rfl, by rw [HE.out]; exact HNx.out.1, HNx.out.2⟩
end
end Go.Proofs.Ytdaccgnfhagoeaa
