/-
  The document's table of what the lines behind each break cost; what its rest and line answer.
-/
import Derived.Test.YtkmeeblkckfepaaGreatPk22
namespace Go.Proofs.YtkmeeblkckfepaaGreat
open Go.RowKit
set_option linter.unusedSimpArgs false
set_option linter.unusedVariables false

/-- The table as it lies in memory. -/
def TbAt (w : World) (tb m : Nat) (R : Nat → Nat → Int) : Prop := ∀ e c, e < m → c < 4 → w.cell? ⟨tb, e * 4 + c, none⟩ = some (.int .i64 (R e c))
theorem TbAt.below {w w' : World} {tb m : Nat} {R : Nat → Nat → Int} (h : TbAt w tb m R) (hb : Below w.heap.size w w') : TbAt w' tb m R := fun e c h1 h2 => hold hb (h e c h1 h2)
/-- What the lines behind a break cost. -/
def rsv (R : Nat → Nat → Int) (m j c : Nat) : Int := if j + 1 = m then 0 else R j c
set_option maxRecDepth 100000 in
set_option maxHeartbeats 2000000 in
theorem rest9_any (w : World) (tb m tc : Nat) (R : Nat → Nat → Int) (eo : Option Addr) (ec : Nat) (h : TbAt w tb m R) (hm : m ≤ 262144) (j c : Nat) (hj : j < m) (hc : c < 4) :
    Calls Tryz.prog 30 #[.slice (some ⟨tb, 0, none⟩) m tc, .slice eo m ec, .int .i64 (j : Int), .int .i64 (c : Int)] w fun e w' => e = .returned (.int .i64 (rsv R m j c)) ∧ Below w.heap.size w w' := by
  have hcell := h j c hj hc
  have HV := boxed (show rsv R m j c = if j + 1 = m then 0 else R j c from rfl)
  generalize rsv R m j c = V at *
  have hj2 : (j : Int) < (m : Int) := by omega
  have hc2 : (c : Int) < 4 := by omega
  generalize R j c = x at *
  clear h
  by_cases hl : j + 1 = m
  · have t1 : ((j : Int) == (m : Int) - 1) = true := by rw [beq_iff_eq]; omega
    rw [if_pos hl] at HV
    clear hl hcell
    go_enter Tryz.func30, Tryz.ntmps30
    go_wp2_with fail
    go_ret
    exact ⟨ret_int HV.out.symm, by go_grown⟩
  · have t1 : ((j : Int) == (m : Int) - 1) = false := by rw [beq_eq_false_iff_ne]; omega
    rw [if_neg hl] at HV
    clear hl
    go_enter Tryz.func30, Tryz.ntmps30
    go_wp2_with fail
    go_ret
    exact ⟨ret_int HV.out.symm, by go_grown⟩
section
variable {S S' : Nat → Prop} {w : World} {ao eo : Option Addr} {n c ec : Nat} {I : Nat → Itm} {width : Int} {s : Stg}
theorem ret_ii9 {a b x y : Int} (h1 : a = x) (h2 : b = y) : Ending.returned (.tuple #[.int .i64 a, .int .i64 b]) = Ending.returned (.tuple #[.int .i64 x, .int .i64 y]) := by rw [h1, h2]
/-- The class ahead. -/
def ahd (i : Nat) (cls : Int) : Int := if i = 0 then -1 else cls
set_option maxRecDepth 100000 in
set_option maxHeartbeats 4000000 in
theorem line9_any (h : ItsAt S w ao n I) (hn : n ≤ 262144) (hok : ∀ i, i < n → okI I i = true) (he : NAt S' w eo (lgs I n n)) (hw : 1 ≤ width ∧ width ≤ 1073741824) (i j : Nat) (hi : i ≤ nbk I n) (hj : j < nbk I n) (cls : Int) (hcl : -1 ≤ cls ∧ cls ≤ 3) (em : Bool) :
    Calls Tryz.prog 29 #[.slice ao n c, .slice eo (nbk I n) ec, .int .i64 ((i : Int) - 1), .int .i64 (j : Int), .int .i64 cls, .int .i64 width, s.val, .bool em] w fun e w' => e = .returned (.tuple #[.int .i64 (if (PX I n width s em).dz i j = true then (PX I n width s em).ct i j (ahd i cls) else -1), .int .i64 (if (PX I n width s em).dz i j = true then (PX I n width s em).kl i j else 0)]) ∧ Below w.heap.size w w' := by
  have hl := lgs_len I n n
  have hm : nbk I n ≤ 262144 := by unfold nbk; omega
  have HH := boxed h
  have HE := boxed he
  obtain ⟨w0, hw0⟩ : ∃ w0, w.alloc (.cells #[.int .i64 s.t, .int .i64 s.l, .int .i64 s.a, .int .i64 s.d, .int .i64 s.z, .int .i64 s.o, .int .i64 s.i] 24) = w0 := ⟨_, rfl⟩
  have hb0 : Below w.heap.size w w0 := by rw [← hw0]; exact (Below.refl _ _).alloc (Nat.le_refl _) _
  have HC0 : Box (∀ W, Below w0.heap.size w0 W → (W.cell? ⟨w.heap.size, 0, none⟩ = some (.int .i64 s.t) ∧ W.cell? ⟨w.heap.size, 1, none⟩ = some (.int .i64 s.l) ∧ W.cell? ⟨w.heap.size, 2, none⟩ = some (.int .i64 s.a) ∧ W.cell? ⟨w.heap.size, 3, none⟩ = some (.int .i64 s.d) ∧ W.cell? ⟨w.heap.size, 4, none⟩ = some (.int .i64 s.z) ∧ W.cell? ⟨w.heap.size, 5, none⟩ = some (.int .i64 s.o) ∧ W.cell? ⟨w.heap.size, 6, none⟩ = some (.int .i64 s.i)) ∧ Below w.heap.size w W) := boxed (fun W hb => by
    subst hw0
    exact ⟨⟨kept_first hb 0, kept_first hb 1, kept_first hb 2, kept_first hb 3, kept_first hb 4, kept_first hb 5, kept_first hb 6⟩, below_step hb0 (Nat.le_refl _) hb⟩)
  have hdo := does_any (S := S) (S' := S') (c := c) (ec := ec) (s := s) (h.below hb0) hn hok (he.below hb0) hw i j hi hj em
  unfold Stg.val at *
  clear h he
  obtain ⟨⟨s0, s1, s2, s3, s4, s5, s6⟩, -⟩ := HC0.out _ (Below.refl _ _)
  cases hD : (PX I n width s em).dz i j
  · rw [hD] at hdo
    rw [if_neg (by simp), if_neg (by simp)]
    clear hD
    generalize nbk I n = m at *
    go_enter Tryz.func29, Tryz.ntmps29
    go_wp2_with fail
    refine hdo.mono ?_
    rintro e w1 ⟨rfl, hb1⟩
    have HB1 := boxed (HC0.out _ hb1).2
    clear hb1 hdo
    go_wp2_with fail
    go_ret2
    exact ⟨rfl, HB1.out⟩
  · rw [hD] at hdo
    rw [if_pos rfl, if_pos rfl]
    clear hD
    obtain ⟨gj, ej, -, cj⟩ := HE.out j hj
    rw [show (lgs I n n).getD j 0 = bkn I n j from rfl] at cj
    have HCj := boxed cj
    obtain ⟨hx1, hx2⟩ := itb_at I n j hj
    have hbj : Box (((bkn I n j : Nat) : Int) = bk I n j) := boxed (bk_bkn I n j hj).symm
    have hcf := ftb_cls I n width ((i : Int) - 1) j
    have HFi := boxed (fun W (hb : Below w0.heap.size w0 W) (a b : Int) (h1 : a = bk I n ((i : Int) - 1)) (h2 : b = bk I n j) => reffit9_any (c := c) (HH.out.below (HC0.out _ hb).2) hn hok hw ((i : Int) - 1) j a b h1 h2)
    have hco := fun W => refcost_any s (ftb I n width ((i : Int) - 1) j) (itb I n j) (ahd i cls) (itb I n ((i : Int) - 1)).flag (decide (j + 1 = nbk I n)) W (by unfold ahd; split <;> omega) (by omega)
    have HCt : Box ((PX I n width s em).ct i j (ahd i cls) = cst s (ftb I n width ((i : Int) - 1) j) (itb I n j) (ahd i cls) (itb I n ((i : Int) - 1)).flag (decide (j + 1 = nbk I n))) := boxed rfl
    have HKl : Box ((PX I n width s em).kl i j = (ftb I n width ((i : Int) - 1) j).cls) := boxed rfl
    have t4 : ((j : Int) == (nbk I n : Int) - 1) = decide (j + 1 = nbk I n) := by rw [Bool.eq_iff_iff]; simp; omega
    generalize (PX I n width s em).ct i j (ahd i cls) = ct at *
    generalize (PX I n width s em).kl i j = kl at *
    rw [← HCt.out] at hco
    have hj2 : (j : Int) < (nbk I n : Int) := by omega
    have hx3 : ((bkn I n j : Nat) : Int) < (n : Int) := by omega
    subst ej
    unfold Stg.val at hco
    clear cj HCt
    by_cases hi0 : i = 0
    · subst hi0
      have hfi := HFi.out
      rw [show ahd 0 cls = -1 from rfl, show ((0 : Nat) : Int) - 1 = -1 from rfl, itb_neg] at hco
      rw [show ((0 : Nat) : Int) - 1 = -1 from rfl] at hfi hcf HKl hdo ⊢
      generalize decide (j + 1 = nbk I n) = lb at *
      generalize nbk I n = m at *
      generalize ftb I n width (-1) j = F at *
      obtain ⟨f0, f1, f2, f3, f4⟩ := F
      unfold Ft.val at hfi hco
      simp only at hfi hco hcf HKl
      go_enter Tryz.func29, Tryz.ntmps29
      go_wp2_with fail
      refine hdo.mono ?_
      rintro e w1 ⟨rfl, hb1⟩
      have HB1 := boxed hb1
      have cj1 := hold hb1 (hold hb0 HCj.out)
      have hf := hfi _ hb1 (-1) _ (bk_neg I n).symm hbj.out
      clear hb1 hdo hfi s0 s1 s2 s3 s4 s5 s6
      generalize hz : bkn I n j = z at *
      replace hz := boxed hz
      go_wp2_with fail
      refine hf.mono ?_
      rintro e w5 ⟨rfl, hb5⟩
      have HB5 := boxed (below_step HB1.out (Nat.le_refl _) hb5)
      obtain ⟨⟨s0, s1, s2, s3, s4, s5, s6⟩, hbw5⟩ := HC0.out _ HB5.out
      obtain ⟨ib, ifo, ei, -, x0, x1, x2, x3, x4, x5, x6, x7, x8⟩ := (HH.out.below hbw5) z hx2
      subst ei
      rw [← hx1] at x0 x1 x2 x3 x4 x5 x6 x7 x8
      have cj5 := hold hb5 cj1
      have hwr : IntKind.i64.wrap ((m : Int) - 1) = (m : Int) - 1 := by rw [IntKind.wrap_i64]; omega
      unfold Itm.val at hco
      clear hb5 hf cj1 HFi HE HCj hx1
      generalize itb I n j = y at *
      have HS : Box (∀ W, Below (w5.alloc (.cells #[.int .i64 f0, .int .i64 f1, .int .i64 f2, .int .i64 f3, .bool f4] 74)).heap.size (w5.alloc (.cells #[.int .i64 f0, .int .i64 f1, .int .i64 f2, .int .i64 f3, .bool f4] 74)) W → W.cell? ⟨w.heap.size, 0, none⟩ = some (.int .i64 s.t) ∧ W.cell? ⟨w.heap.size, 1, none⟩ = some (.int .i64 s.l) ∧ W.cell? ⟨w.heap.size, 2, none⟩ = some (.int .i64 s.a) ∧ W.cell? ⟨w.heap.size, 3, none⟩ = some (.int .i64 s.d) ∧ W.cell? ⟨w.heap.size, 4, none⟩ = some (.int .i64 s.z) ∧ W.cell? ⟨w.heap.size, 5, none⟩ = some (.int .i64 s.o) ∧ W.cell? ⟨w.heap.size, 6, none⟩ = some (.int .i64 s.i) ∧ W.cell? ⟨w5.heap.size, 0, none⟩ = some (.int .i64 f0) ∧ W.cell? ⟨w5.heap.size, 1, none⟩ = some (.int .i64 f1) ∧ W.cell? ⟨w5.heap.size, 2, none⟩ = some (.int .i64 f2) ∧ W.cell? ⟨w5.heap.size, 3, none⟩ = some (.int .i64 f3) ∧ W.cell? ⟨w5.heap.size, 4, none⟩ = some (.bool f4) ∧ W.cell? ⟨gj, j, none⟩ = some (.int .i64 (z : Int)) ∧ W.cell? ⟨ib, ifo + z * 9, none⟩ = some (.int .i64 y.k) ∧ W.cell? ⟨ib, ifo + z * 9 + 1, none⟩ = some (.int .i64 y.w) ∧ W.cell? ⟨ib, ifo + z * 9 + 2, none⟩ = some (.int .i64 y.st) ∧ W.cell? ⟨ib, ifo + z * 9 + 3, none⟩ = some (.int .i64 y.sh) ∧ W.cell? ⟨ib, ifo + z * 9 + 4, none⟩ = some (.bool y.fill) ∧ W.cell? ⟨ib, ifo + z * 9 + 5, none⟩ = some (.int .i64 y.c) ∧ W.cell? ⟨ib, ifo + z * 9 + 6, none⟩ = some (.bool y.flag) ∧ W.cell? ⟨ib, ifo + z * 9 + 7, none⟩ = some (.int .i64 y.fr) ∧ W.cell? ⟨ib, ifo + z * 9 + 8, none⟩ = some (.int .i64 y.to)) := boxed (fun W hb => by
        have hb' : Below w5.heap.size w5 W := ((Below.refl _ w5).alloc (Nat.le_refl _) _).trans (hb.mono (by simp))
        have hE : W.heap[w5.heap.size]? = some (.cells #[.int .i64 f0, .int .i64 f1, .int .i64 f2, .int .i64 f3, .bool f4] 74 (0, 0)) := (hb.block w5.heap.size (by simp)).trans (heap_alloc_new w5 _)
        have q0 := row_cell hE 0 _ rfl
        have q1 := row_cell hE 1 _ rfl
        have q2 := row_cell hE 2 _ rfl
        have q3 := row_cell hE 3 _ rfl
        have q4 := row_cell hE 4 _ rfl
        exact ⟨hold hb' s0, hold hb' s1, hold hb' s2, hold hb' s3, hold hb' s4, hold hb' s5, hold hb' s6, q0, q1, q2, q3, q4, hold hb' cj5, hold hb' x0, hold hb' x1, hold hb' x2, hold hb' x3, hold hb' x4, hold hb' x5, hold hb' x6, hold hb' x7, hold hb' x8⟩)
      have HD0 : Box (Below (w5.alloc (.cells #[.int .i64 f0, .int .i64 f1, .int .i64 f2, .int .i64 f3, .bool f4] 74)).heap.size (w5.alloc (.cells #[.int .i64 f0, .int .i64 f1, .int .i64 f2, .int .i64 f3, .bool f4] 74)) (w5.alloc (.cells #[.int .i64 f0, .int .i64 f1, .int .i64 f2, .int .i64 f3, .bool f4] 74)).drew) := boxed (Below.refl _ _).drew
      have HFin : Box (∀ W, Below (w5.alloc (.cells #[.int .i64 f0, .int .i64 f1, .int .i64 f2, .int .i64 f3, .bool f4] 74)).heap.size (w5.alloc (.cells #[.int .i64 f0, .int .i64 f1, .int .i64 f2, .int .i64 f3, .bool f4] 74)) W → Below w.heap.size w W) := boxed (fun W hb => by
        have hb' : Below w5.heap.size w5 W := ((Below.refl _ w5).alloc (Nat.le_refl _) _).trans (hb.mono (by simp))
        exact below_step hbw5 (Nat.le_refl _) hb')
      clear s0 s1 s2 s3 s4 s5 s6 x0 x1 x2 x3 x4 x5 x6 x7 x8 cj5 hbw5
      go_wp2_with fail
      go_region_held3 (fun W => W.cell? ⟨w.heap.size, 0, none⟩ = some (.int .i64 s.t) ∧ W.cell? ⟨w.heap.size, 1, none⟩ = some (.int .i64 s.l) ∧ W.cell? ⟨w.heap.size, 2, none⟩ = some (.int .i64 s.a) ∧ W.cell? ⟨w.heap.size, 3, none⟩ = some (.int .i64 s.d) ∧ W.cell? ⟨w.heap.size, 4, none⟩ = some (.int .i64 s.z) ∧ W.cell? ⟨w.heap.size, 5, none⟩ = some (.int .i64 s.o) ∧ W.cell? ⟨w.heap.size, 6, none⟩ = some (.int .i64 s.i) ∧ W.cell? ⟨w5.heap.size, 0, none⟩ = some (.int .i64 f0) ∧ W.cell? ⟨w5.heap.size, 1, none⟩ = some (.int .i64 f1) ∧ W.cell? ⟨w5.heap.size, 2, none⟩ = some (.int .i64 f2) ∧ W.cell? ⟨w5.heap.size, 3, none⟩ = some (.int .i64 f3) ∧ W.cell? ⟨w5.heap.size, 4, none⟩ = some (.bool f4) ∧ W.cell? ⟨gj, j, none⟩ = some (.int .i64 (z : Int)) ∧ W.cell? ⟨ib, ifo + z * 9, none⟩ = some (.int .i64 y.k) ∧ W.cell? ⟨ib, ifo + z * 9 + 1, none⟩ = some (.int .i64 y.w) ∧ W.cell? ⟨ib, ifo + z * 9 + 2, none⟩ = some (.int .i64 y.st) ∧ W.cell? ⟨ib, ifo + z * 9 + 3, none⟩ = some (.int .i64 y.sh) ∧ W.cell? ⟨ib, ifo + z * 9 + 4, none⟩ = some (.bool y.fill) ∧ W.cell? ⟨ib, ifo + z * 9 + 5, none⟩ = some (.int .i64 y.c) ∧ W.cell? ⟨ib, ifo + z * 9 + 6, none⟩ = some (.bool y.flag) ∧ W.cell? ⟨ib, ifo + z * 9 + 7, none⟩ = some (.int .i64 y.fr) ∧ W.cell? ⟨ib, ifo + z * 9 + 8, none⟩ = some (.int .i64 y.to))
        (first | with_reducible exact HS.out _ HD0.out | with_reducible exact HS.out _ HB6.out)
        (first | (go_at_call 37; with_reducible refine (hco _).mono ?_; rintro e w6 ⟨rfl, hb6⟩; have HB6 := boxed (HD0.out.trans (hb6.mono HD0.out.size)); clear hb6))
      go_wp2_with fail
      go_ret2
      exact ⟨ret_ii9 rfl HKl.out.symm, HFin.out _ HB6.out⟩
    · obtain ⟨i', rfl⟩ : ∃ i', i = i' + 1 := ⟨i - 1, by omega⟩
      obtain ⟨gi, ei, -, ci⟩ := HE.out i' (by show i' < nbk I n; omega)
      obtain rfl : gj = gi := by injection ei with ei; injection ei
      rw [show (lgs I n n).getD i' 0 = bkn I n i' from rfl] at ci
      have HCi := boxed ci
      have hbi : Box (((bkn I n i' : Nat) : Int) = bk I n (i' : Int)) := boxed (bk_bkn I n i' (by omega)).symm
      obtain ⟨hv1, hv2⟩ := itb_at I n i' (by omega)
      have e1 : ((i' + 1 : Nat) : Int) - 1 = (i' : Int) := by omega
      have hfi := HFi.out
      rw [show ahd (i' + 1) cls = cls from rfl, e1] at hco
      rw [e1] at hfi hcf HKl hdo ⊢
      have u1 : decide ((0 : Int) ≤ (i' : Int)) = true := decide_eq_true (by omega)
      have u2 : i' < nbk I n := by omega
      have u3 : (i' : Int) < (nbk I n : Int) := by omega
      have u4 : ((bkn I n i' : Nat) : Int) < (n : Int) := by omega
      generalize decide (j + 1 = nbk I n) = lb at *
      generalize nbk I n = m at *
      generalize ftb I n width (i' : Int) j = F at *
      obtain ⟨f0, f1, f2, f3, f4⟩ := F
      unfold Ft.val at hfi hco
      simp only at hfi hco hcf HKl
      have hlo : Box (∀ W, Below w0.heap.size w0 W → ∃ ib ifo, ao = some ⟨ib, ifo, none⟩ ∧ W.cell? ⟨ib, ifo + bkn I n i' * 9 + 6, none⟩ = some (.bool (itb I n i').flag)) := boxed (fun W hb => by
        obtain ⟨ib, ifo, ei, -, x0, x1, x2, x3, x4, x5, x6, x7, x8⟩ := (HH.out.below (HC0.out _ hb).2) _ hv2
        rw [← hv1] at x6
        exact ⟨ib, ifo, ei, x6⟩)
      clear e1 ei ci hv1
      generalize (itb I n (i' : Int)).flag = fl at *
      generalize hzi : bkn I n i' = zi at *
      replace hzi := boxed hzi
      go_enter Tryz.func29, Tryz.ntmps29
      go_wp2_with fail
      refine hdo.mono ?_
      rintro e w1 ⟨rfl, hb1⟩
      have HB1 := boxed hb1
      have cj1 := hold hb1 (hold hb0 HCj.out)
      have ci1 := hold hb1 (hold hb0 HCi.out)
      obtain ⟨ib', ifo', ei', cx6⟩ := hlo.out _ hb1
      subst ei'
      have hf := hfi _ hb1 _ _ hbi.out hbj.out
      clear hb1 hdo hfi s0 s1 s2 s3 s4 s5 s6
      generalize hz : bkn I n j = z at *
      replace hz := boxed hz
      go_wp2_with fail
      refine hf.mono ?_
      rintro e w5 ⟨rfl, hb5⟩
      clear ci1 cx6 hlo HCi
      have HB5 := boxed (below_step HB1.out (Nat.le_refl _) hb5)
      obtain ⟨⟨s0, s1, s2, s3, s4, s5, s6⟩, hbw5⟩ := HC0.out _ HB5.out
      obtain ⟨ib, ifo, ei, -, x0, x1, x2, x3, x4, x5, x6, x7, x8⟩ := (HH.out.below hbw5) z hx2
      obtain ⟨rfl, rfl⟩ : ib' = ib ∧ ifo' = ifo := by injection ei with ei; injection ei with h1 h2; exact ⟨h1, h2⟩
      clear ei
      rw [← hx1] at x0 x1 x2 x3 x4 x5 x6 x7 x8
      have cj5 := hold hb5 cj1
      have hwr : IntKind.i64.wrap ((m : Int) - 1) = (m : Int) - 1 := by rw [IntKind.wrap_i64]; omega
      unfold Itm.val at hco
      clear hb5 hf cj1 HFi HE HCj hx1
      generalize itb I n j = y at *
      have HS : Box (∀ W, Below (w5.alloc (.cells #[.int .i64 f0, .int .i64 f1, .int .i64 f2, .int .i64 f3, .bool f4] 74)).heap.size (w5.alloc (.cells #[.int .i64 f0, .int .i64 f1, .int .i64 f2, .int .i64 f3, .bool f4] 74)) W → W.cell? ⟨w.heap.size, 0, none⟩ = some (.int .i64 s.t) ∧ W.cell? ⟨w.heap.size, 1, none⟩ = some (.int .i64 s.l) ∧ W.cell? ⟨w.heap.size, 2, none⟩ = some (.int .i64 s.a) ∧ W.cell? ⟨w.heap.size, 3, none⟩ = some (.int .i64 s.d) ∧ W.cell? ⟨w.heap.size, 4, none⟩ = some (.int .i64 s.z) ∧ W.cell? ⟨w.heap.size, 5, none⟩ = some (.int .i64 s.o) ∧ W.cell? ⟨w.heap.size, 6, none⟩ = some (.int .i64 s.i) ∧ W.cell? ⟨w5.heap.size, 0, none⟩ = some (.int .i64 f0) ∧ W.cell? ⟨w5.heap.size, 1, none⟩ = some (.int .i64 f1) ∧ W.cell? ⟨w5.heap.size, 2, none⟩ = some (.int .i64 f2) ∧ W.cell? ⟨w5.heap.size, 3, none⟩ = some (.int .i64 f3) ∧ W.cell? ⟨w5.heap.size, 4, none⟩ = some (.bool f4) ∧ W.cell? ⟨gj, j, none⟩ = some (.int .i64 (z : Int)) ∧ W.cell? ⟨ib', ifo' + z * 9, none⟩ = some (.int .i64 y.k) ∧ W.cell? ⟨ib', ifo' + z * 9 + 1, none⟩ = some (.int .i64 y.w) ∧ W.cell? ⟨ib', ifo' + z * 9 + 2, none⟩ = some (.int .i64 y.st) ∧ W.cell? ⟨ib', ifo' + z * 9 + 3, none⟩ = some (.int .i64 y.sh) ∧ W.cell? ⟨ib', ifo' + z * 9 + 4, none⟩ = some (.bool y.fill) ∧ W.cell? ⟨ib', ifo' + z * 9 + 5, none⟩ = some (.int .i64 y.c) ∧ W.cell? ⟨ib', ifo' + z * 9 + 6, none⟩ = some (.bool y.flag) ∧ W.cell? ⟨ib', ifo' + z * 9 + 7, none⟩ = some (.int .i64 y.fr) ∧ W.cell? ⟨ib', ifo' + z * 9 + 8, none⟩ = some (.int .i64 y.to)) := boxed (fun W hb => by
        have hb' : Below w5.heap.size w5 W := ((Below.refl _ w5).alloc (Nat.le_refl _) _).trans (hb.mono (by simp))
        have hE : W.heap[w5.heap.size]? = some (.cells #[.int .i64 f0, .int .i64 f1, .int .i64 f2, .int .i64 f3, .bool f4] 74 (0, 0)) := (hb.block w5.heap.size (by simp)).trans (heap_alloc_new w5 _)
        have q0 := row_cell hE 0 _ rfl
        have q1 := row_cell hE 1 _ rfl
        have q2 := row_cell hE 2 _ rfl
        have q3 := row_cell hE 3 _ rfl
        have q4 := row_cell hE 4 _ rfl
        exact ⟨hold hb' s0, hold hb' s1, hold hb' s2, hold hb' s3, hold hb' s4, hold hb' s5, hold hb' s6, q0, q1, q2, q3, q4, hold hb' cj5, hold hb' x0, hold hb' x1, hold hb' x2, hold hb' x3, hold hb' x4, hold hb' x5, hold hb' x6, hold hb' x7, hold hb' x8⟩)
      have HD0 : Box (Below (w5.alloc (.cells #[.int .i64 f0, .int .i64 f1, .int .i64 f2, .int .i64 f3, .bool f4] 74)).heap.size (w5.alloc (.cells #[.int .i64 f0, .int .i64 f1, .int .i64 f2, .int .i64 f3, .bool f4] 74)) (w5.alloc (.cells #[.int .i64 f0, .int .i64 f1, .int .i64 f2, .int .i64 f3, .bool f4] 74)).drew) := boxed (Below.refl _ _).drew
      have HFin : Box (∀ W, Below (w5.alloc (.cells #[.int .i64 f0, .int .i64 f1, .int .i64 f2, .int .i64 f3, .bool f4] 74)).heap.size (w5.alloc (.cells #[.int .i64 f0, .int .i64 f1, .int .i64 f2, .int .i64 f3, .bool f4] 74)) W → Below w.heap.size w W) := boxed (fun W hb => by
        have hb' : Below w5.heap.size w5 W := ((Below.refl _ w5).alloc (Nat.le_refl _) _).trans (hb.mono (by simp))
        exact below_step hbw5 (Nat.le_refl _) hb')
      clear s0 s1 s2 s3 s4 s5 s6 x0 x1 x2 x3 x4 x5 x6 x7 x8 cj5 hbw5
      go_wp2_with fail
      go_region_held3 (fun W => W.cell? ⟨w.heap.size, 0, none⟩ = some (.int .i64 s.t) ∧ W.cell? ⟨w.heap.size, 1, none⟩ = some (.int .i64 s.l) ∧ W.cell? ⟨w.heap.size, 2, none⟩ = some (.int .i64 s.a) ∧ W.cell? ⟨w.heap.size, 3, none⟩ = some (.int .i64 s.d) ∧ W.cell? ⟨w.heap.size, 4, none⟩ = some (.int .i64 s.z) ∧ W.cell? ⟨w.heap.size, 5, none⟩ = some (.int .i64 s.o) ∧ W.cell? ⟨w.heap.size, 6, none⟩ = some (.int .i64 s.i) ∧ W.cell? ⟨w5.heap.size, 0, none⟩ = some (.int .i64 f0) ∧ W.cell? ⟨w5.heap.size, 1, none⟩ = some (.int .i64 f1) ∧ W.cell? ⟨w5.heap.size, 2, none⟩ = some (.int .i64 f2) ∧ W.cell? ⟨w5.heap.size, 3, none⟩ = some (.int .i64 f3) ∧ W.cell? ⟨w5.heap.size, 4, none⟩ = some (.bool f4) ∧ W.cell? ⟨gj, j, none⟩ = some (.int .i64 (z : Int)) ∧ W.cell? ⟨ib', ifo' + z * 9, none⟩ = some (.int .i64 y.k) ∧ W.cell? ⟨ib', ifo' + z * 9 + 1, none⟩ = some (.int .i64 y.w) ∧ W.cell? ⟨ib', ifo' + z * 9 + 2, none⟩ = some (.int .i64 y.st) ∧ W.cell? ⟨ib', ifo' + z * 9 + 3, none⟩ = some (.int .i64 y.sh) ∧ W.cell? ⟨ib', ifo' + z * 9 + 4, none⟩ = some (.bool y.fill) ∧ W.cell? ⟨ib', ifo' + z * 9 + 5, none⟩ = some (.int .i64 y.c) ∧ W.cell? ⟨ib', ifo' + z * 9 + 6, none⟩ = some (.bool y.flag) ∧ W.cell? ⟨ib', ifo' + z * 9 + 7, none⟩ = some (.int .i64 y.fr) ∧ W.cell? ⟨ib', ifo' + z * 9 + 8, none⟩ = some (.int .i64 y.to))
        (first | with_reducible exact HS.out _ HD0.out | with_reducible exact HS.out _ HB6.out)
        (first | (go_at_call 37; with_reducible refine (hco _).mono ?_; rintro e w6 ⟨rfl, hb6⟩; have HB6 := boxed (HD0.out.trans (hb6.mono HD0.out.size)); clear hb6))
      go_wp2_with fail
      go_ret2
      exact ⟨ret_ii9 rfl HKl.out.symm, HFin.out _ HB6.out⟩
end
end Go.Proofs.YtkmeeblkckfepaaGreat
