/-
  What the search's method way answers: the breaks from the beginning on.
-/
import Derived.Test.YtkmeeblkckfepabGreatFs
import Derived.ScopeJumps
import Derived.Deep.RegionLaw
namespace Go.Proofs.YtkmeeblkckfepabGreat
open Go.RowKit
set_option linter.unusedSimpArgs false
set_option linter.unusedVariables false

/-- Break number j's item, as a number. -/
def bkn (I : Nat → Itm) (n j : Nat) : Nat := (lgs I n n).getD j 0
theorem bk_bkn (I : Nat → Itm) (n j : Nat) (h : j < nbk I n) : bk I n (j : Int) = (bkn I n j : Int) := by
  obtain ⟨b, e, -, -, e2⟩ := bk_at I n j h
  unfold bkn; rw [e, e2]
/-- append of an owned row, as one step of a region that draws. -/
theorem step_append_own9 {P : Program} {w : World} {ops : Array Oper} {o : Oper} {a : Act} {K : Act → World → Prop} {Q : Exit → Act → World → Prop} {E : Prop} (hgd : o.guard = none) (s x : Operand) (t : TypeId)
    (ho : o.op = .call { callee := .builtin .append, args := #[s, x], argTypes := #[t, t] })
    (base : Nat) (e : TypeId) (i : TypeInfo) (z : Value) (size bytes : Nat) (ht : P.underlying t = some (.slice e)) (hi : P.info? e = some i) (hz : i.zero = some z)
    (hsize : i.size = size) (hby : i.bytes = bytes) (hzs : z.cells.size = size) (hsz : 0 < size)
    (v : Value) (n : Nat) (xs : List Value) (hs : a.eval s = v) (hown : w.ownsRow base e size v n xs)
    (ad : Addr) (m c : Nat) (news : List Value) (hx : a.eval x = .slice (some ad) m c) (hl : news.length = m * size) (hnews : ∀ j u, news[j]? = some u → w.cell? (ad.add j) = some u) (h1 : ∀ u ∈ news, u.oneCell' = true)
    (h63 : n + m ≤ maxLen) (hbytes : (n + m) * bytes ≤ 140737488355328) (hbase : base ≤ w.heap.size)
    (h : ∀ v' w', w'.ownsRow base e size v' (n + m) (xs ++ news) → w.grownBy w' v.ownBlock → K (a.put o.dst v') w') :
    if Region.wanted o (yielded ops a.tmps) = true then Oper.wp P o a w K Q else E := by
  have hw : Region.wanted o (yielded ops a.tmps) = true := by simp [Region.wanted, hgd]
  rw [if_pos hw]
  exact wp_append_own w s x t ho base e i z size bytes ht hi hz hsize hby hzs hsz v n xs hs hown ad m c news hx hl hnews h1 h63 hbytes hbase fun v' w' h2 h3 _ => h v' w' h2 h3
/-- A scope in which the run jumps back to one label, walked once from the label on. -/
theorem wp_scope_once {P : Program} {a : Act} {w : World} {Q : Exit → Act → World → Prop} {c rest : Code} (l : Nat) (J : Act → World → Prop) (μ : Act → World → Nat) (hf : findLabel c l = some rest)
    (first : ∀ Q', (∀ a w, J a w → rest.wp P Q' a w) → c.wp P Q' a w)
    (pass : ∀ a w, J a w → rest.wp P (Exit.jump l (fun a' w' => J a' w' ∧ μ a' w' < μ a w) Q) a w) : (Code.scope c).wp P Q a w :=
  wp_scope_jumps l J μ hf (first _ (fun a w h => Code.wp_mono (fun e a' w' he => by
    cases e with
    | goto l' => exact ⟨he.1, he.2.1⟩
    | normal => exact he
    | exit _ => exact he
    | ret => exact he
    | panic _ => exact he
    | outgrown => exact he) (pass a w h))) pass
/-- Three blocks laid. -/
theorem laid3 (w : World) (A B C : Obj) : (((w.alloc A).alloc B).alloc C).heap[w.heap.size]? = some A ∧ (((w.alloc A).alloc B).alloc C).heap[w.heap.size + 1]? = some B ∧ (((w.alloc A).alloc B).alloc C).heap[w.heap.size + 1 + 1]? = some C ∧ Below w.heap.size w (((w.alloc A).alloc B).alloc C) ∧ (((w.alloc A).alloc B).alloc C).heap.size = w.heap.size + 1 + 1 + 1 := by
  obtain ⟨a1, a2, a3, a4⟩ := laid2 w A B
  have hs : ((w.alloc A).alloc B).heap.size = w.heap.size + 1 + 1 := by simp
  refine ⟨(Below.heap_alloc _ _ _ (by omega)).trans a1, (Below.heap_alloc _ _ _ (by omega)).trans a2, ?_, a3.alloc a3.size _, by simp⟩
  have := heap_alloc_new ((w.alloc A).alloc B) C
  rw [hs] at this
  exact this
theorem own_mono9 {w : World} {b b' e size n : Nat} {v : Value} {xs : List Value} (h : w.ownsRow b e size v n xs) (hb : b' ≤ b) : w.ownsRow b' e size v n xs := by
  refine ⟨h.1, ?_⟩
  rcases h.2 with h | ⟨g, cap, cur, h1, h2, h3⟩
  · exact .inl h
  · exact .inr ⟨g, cap, cur, h1, by omega, h3⟩
theorem fldF (a b c d e : Value) (w : World) : (Instr.field 72 (.agg #[a, b, c, d, e]) 3).run Tryz.prog w = .ok d w := by kernel_rfl
section
variable {w : World} {B sb pb rb rc n : Nat} {I : Nat → Itm} {width : Int} {s : Stg} {bound near : Int} {v1 v2 : Value} {L1 L2 : List (Nat × Int)} {R : Nat → Nat → Int × Nat}
/-- What holds at the label. -/
def WyI (w : World) (I : Nat → Itm) (n : Nat) (width : Int) (s : Stg) (c : Int) (l : List Nat) (FB RB BB base : Nat) (fr : Int) (to : Nat) (W : World) : Prop :=
  ∃ (i : Nat) (a c' : Int) (D t : List Nat) (v : Value), fr + 1 = (i : Int) ∧ l = D ++ (to :: t) ∧ Best (PT I n width s s.t) i a c' (to :: t) ∧ D.length ≤ to ∧ to < nbk I n ∧ i ≤ to ∧
    W.heap[BB]? = some (.cells #[v, .int .i64 c, .bool false] 33 (0, 0)) ∧ W.heap[RB]? = some (.cells #[.slice none 0 0, .int .i64 0, .bool false] 33 (0, 0)) ∧ W.ownsRow base 3 1 v D.length (ncs (D.map (bkn I n))) ∧ Below w.heap.size w W ∧ base ≤ W.heap.size
set_option maxRecDepth 100000 in
set_option maxHeartbeats 8000000 in
theorem way_any (h : ParaAt (fun b => b < B) w pb n I) (hn : n ≤ 262144) (hok : ∀ i, i < n → okI I i = true) (hw : 1 ≤ width ∧ width ≤ 1073741824) (hs : okS s = true) (hss : SS B sb pb rb rc (nbk I n) width s w bound near v1 v2 L1 L2) (hr : RsAt w rb (nbk I n) R)
    (hR : ∀ j, j < nbk I n → ∀ c : Nat, c < 4 → Rst (PT I n width s s.t) (j + 1) (c : Int) (R j c).1 (R j c).2) (c : Int) (nx : Nat) (tl : List Nat) (hB : Best (PT I n width s s.t) 0 (-1) c (nx :: tl)) :
    Calls Tryz.prog 35 #[.pointer (some ⟨sb, 0, none⟩), .agg #[.int .i64 c, .int .i64 (nx : Int)]] w fun e' w' => ∃ v, e' = .returned (.agg #[v, .int .i64 c, .bool false]) ∧ w'.ownsRow w.heap.size 3 1 v (nx :: tl).length (ncs ((nx :: tl).map (bkn I n))) ∧ Below w.heap.size w w' := by
  obtain ⟨i0, hi, hz0, hz1, hz2⟩ := info_parts info_int8
  have hm : nbk I n ≤ 262144 := by unfold nbk; have := lgs_len I n n; omega
  have hBn := bnd_of I n width s s.t hn hok hs
  have HP : Box (∀ W, Below w.heap.size w W → ParaAt (fun b => b < B) W pb n I ∧ SS B sb pb rb rc (nbk I n) width s W bound near v1 v2 L1 L2 ∧ RsAt W rb (nbk I n) R) := boxed (fun W hb => ⟨h.keep (kp_lt (hb.mono (by have := hss.hs; omega))), hss.below hb, hr.keep (hb.block rb hss.hs.2.2.2.2)⟩)
  have hst0 := (best_tail _ hBn 0 nx (-1) c tl hB).1
  have hnx : nx < nbk I n := by have := ((mayL_iff _ _ _).1 hst0).2.1; simpa [PT] using this
  obtain ⟨l, hl⟩ : ∃ l, nx :: tl = l := ⟨_, rfl⟩
  rw [hl]
  clear h hss hr
  go_enter Tryz.func35, Tryz.ntmps35
  go_wp2_with fail
  refine wp_scope_jumps 0 (fun a' W => ∃ (fr : Int) (to : Nat) (u8 u9 u10 u11 u12 u13 u14 u15 u16 u17 u18 u19 u20 u21 u22 u23 u24 u25 u26 u27 u28 u29 u30 u31 u32 u33 u34 u35 u36 u37 u38 u39 u40 u41 u42 u43 : Value), WyI w I n width s c l w.heap.size (w.heap.size + 1) (w.heap.size + 1 + 1) (w.heap.size + 1 + 1 + 1) fr to W ∧ a' = { tmps := #[.pointer (some ⟨sb, 0, none⟩), .agg #[.int .i64 c, .int .i64 (nx : Int)], undef, .pointer (some ⟨w.heap.size, 0, none⟩), .pointer (some ⟨w.heap.size + 1, 0, none⟩), .pointer (some ⟨w.heap.size + 1 + 1, 0, none⟩), .int .i64 fr, .int .i64 (to : Int), u8, u9, u10, u11, u12, u13, u14, u15, u16, u17, u18, u19, u20, u21, u22, u23, u24, u25, u26, u27, u28, u29, u30, u31, u32, u33, u34, u35, u36, u37, u38, u39, u40, u41, u42, u43], defers := [] }) (fun a' _ => nbk I n - (intOf (a'.tmps.getD 7 undef)).toNat) rfl ?_ ?_
  · have hL4 := laid3 w (.cells #[.int .i64 c, .int .i64 (nx : Int)] 79) (.cells #[.slice none 0 0, .int .i64 0, .bool false] 33) (.cells #[.slice none 0 0, .int .i64 c, .bool false] 33)
    go_wp2_with fail
    go_quiet (fail)
    go_wp2_with fail
    refine wp_label ?_
    go_wp2_with fail
    obtain ⟨W, hW⟩ : ∃ W, (((w.alloc (.cells #[.int .i64 c, .int .i64 (nx : Int)] 79)).alloc (.cells #[.slice none 0 0, .int .i64 0, .bool false] 33)).alloc (.cells #[.slice none 0 0, .int .i64 c, .bool false] 33)).drewN nq = W := ⟨_, rfl⟩
    rw [hW]
    have hI : WyI w I n width s c l w.heap.size (w.heap.size + 1) (w.heap.size + 1 + 1) (w.heap.size + 1 + 1 + 1) (-1) nx W := by
      rw [← hW]
      refine ⟨0, -1, c, [], tl, .slice none 0 0, by omega, hl.symm, hB, by simp, hnx, by omega, hL4.2.2.1, hL4.2.1, World.ownsRow_nil _ _ _ _, hL4.2.2.2.1.trans (bel_drewN _ _ _), ?_⟩
      have := hL4.2.2.2.2
      simp [World.drewN, this]
    clear hW hL4
    obtain ⟨i, a, c', D, t, v, w1, w2, w3, w4, w5, w6, w7, w8, w9, w10, w11⟩ := hI
    obtain ⟨kP, kS, kR⟩ := HP.out _ w10
    have c0 := kS.c.1.1
    have hDl : D.length ≤ 262144 := by omega
    obtain ⟨ao, cap, rfl⟩ := own_shape w9
    obtain ⟨⟨x0, x1, x2⟩, y0, y1, y2⟩ := cells3 w7
    have hBW := heap_lt w7
    have hRW := heap_lt w8
    have he := bk_bkn I n nx w5
    have HEN : Box (∀ W', Below W.heap.size W W' → Calls Tryz.prog 50 #[.pointer (some ⟨pb, 0, none⟩), .int .i64 (nx : Int)] W' fun e w' => e = .returned (.int .i64 (bkn I n nx : Int)) ∧ w' = W') := boxed (fun W' hb => by
      have := end_any (HP.out _ (w10.trans (hb.mono w10.size))).1 hn (nx : Int)
      have e2 : endN (lgs I n n) (nx : Int) = (bkn I n nx : Int) := he
      rw [e2] at this
      exact this)
    obtain ⟨y, hy⟩ : ∃ y, bkn I n nx = y := ⟨_, rfl⟩
    rw [hy] at HEN
    have hsbW : sb < W.heap.size := kS.hs.2.1
    have n1 : sb ≠ W.heap.size := by omega
    have n2 : w.heap.size + 1 + 1 ≠ W.heap.size := by omega
    -- behind the append and the store
    have hbase : w.heap.size + 1 + 1 + 1 ≤ (W.alloc (.cells #[.int .i64 (y : Int)] 3)).drew.heap.size := by simp [World.drew]; omega
    have HOW : Box ((W.alloc (.cells #[.int .i64 (y : Int)] 3)).drew.ownsRow (w.heap.size + 1 + 1 + 1) 3 1 (.slice ao D.length cap) D.length (ncs (D.map (bkn I n)))) := boxed (owns_below w9 (((Below.refl _ _).alloc (Nat.le_refl _) _).drew))
    have HNW : Box (∀ j u, ([.int .i64 (y : Int)] : List Value)[j]? = some u → (W.alloc (.cells #[.int .i64 (y : Int)] 3)).drew.cell? ((⟨W.heap.size, 0, none⟩ : Addr).add j) = some u) := boxed (by
      intro j u hj
      rw [Addr.add_lit, Nat.zero_add, World.cell?_drew, cell_first]
      simpa using hj)
    have HF : Box (∀ v1 w1, (W.alloc (.cells #[.int .i64 (y : Int)] 3)).drew.grownBy w1 (Value.slice ao D.length cap).ownBlock → w1.ownsRow (w.heap.size + 1 + 1 + 1) 3 1 v1 (D.length + 1) (ncs (D.map (bkn I n)) ++ [.int .i64 (y : Int)]) → (w1.cell? ⟨w.heap.size + 1 + 1, 0, none⟩ = some (.slice ao D.length cap) ∧ w1.frozen? ⟨w.heap.size + 1 + 1, 0, none⟩ = false) ∧
        ((w1.setCell ⟨w.heap.size + 1 + 1, 0, none⟩ v1).heap[w.heap.size + 1 + 1]? = some (.cells #[v1, .int .i64 c, .bool false] 33 (0, 0)) ∧ (w1.setCell ⟨w.heap.size + 1 + 1, 0, none⟩ v1).heap[w.heap.size + 1]? = some (.cells #[.slice none 0 0, .int .i64 0, .bool false] 33 (0, 0)) ∧ (w1.setCell ⟨w.heap.size + 1 + 1, 0, none⟩ v1).ownsRow (w.heap.size + 1 + 1 + 1) 3 1 v1 (D ++ [nx]).length (ncs ((D ++ [nx]).map (bkn I n))) ∧ Below w.heap.size w (w1.setCell ⟨w.heap.size + 1 + 1, 0, none⟩ v1) ∧ w.heap.size + 1 + 1 + 1 ≤ (w1.setCell ⟨w.heap.size + 1 + 1, 0, none⟩ v1).heap.size)) := boxed (by
      intro z1 z2 hg ho
      have hrow : ∀ q, q < w.heap.size + 1 + 1 + 1 → some q ≠ (Value.slice ao D.length cap).ownBlock := fun q hq e => by
        have := (w9.lt q e.symm).1; omega
      have hbl : ∀ q, q < w.heap.size + 1 + 1 + 1 → z2.heap[q]? = W.heap[q]? := fun q hq => by
        rw [hg.block q (by simp [World.drew]; omega) (hrow q hq)]
        show (W.alloc _).heap[q]? = _
        exact heap_alloc_old _ _ (by omega)
      have e1 : z2.heap[w.heap.size + 1 + 1]? = some (.cells #[.slice ao D.length cap, .int .i64 c, .bool false] 33 (0, 0)) := (hbl _ (by omega)).trans w7
      have hne1 : ∀ q, z1.ownBlock = some q → w.heap.size + 1 + 1 + 1 ≤ q := fun q e => (ho.lt q e).1
      refine ⟨⟨row_cell e1 0 _ rfl, row_free e1 0⟩, arr_set z1 e1, ?_, ?_, ?_, ?_⟩
      · rw [Below.heap_setCell z2 ⟨w.heap.size + 1 + 1, 0, none⟩ z1 _ (by simp)]; exact (hbl _ (by omega)).trans w8
      · have := ownsRow_setCell_below ho (a := ⟨w.heap.size + 1 + 1, 0, none⟩) (by simp) z1
        rw [List.length_append, List.map_append, ncs_app]
        simpa [ncs, hy] using this
      · have b1 : Below w.heap.size w z2 := ⟨hg.os.trans w10.os, hg.tape.trans w10.tape, hg.output.trans w10.output, by have := hg.size; have := w10.size; simp [World.drew] at *; omega, fun q hq => (hbl q (by omega)).trans (w10.block q hq)⟩
        exact b1.setCell (by simp only; omega) _
      · have := hg.size; simp [World.drew] at this ⊢; omega)
    have hnl : D.length + 1 ≤ maxLen := by unfold maxLen; omega
    have HI := boxed (And.intro w1 (And.intro w2 (And.intro w3 (And.intro w4 w6))))
    have HW10 := boxed w10
    clear w1 w2 w3 w4 w6 w7 w8 w9 kP kS kR
    generalize hdlD : D.length = dl at *
    go_wp2_with fail
    go_region_law
      (first
        | (refine step_append_own9 rfl _ _ 31 rfl (w.heap.size + 1 + 1 + 1) 3 i0 _ 1 8 Tryz.underlying31 hi hz0 hz1 hz2 rfl (by decide) _ _ _ rfl HOW.out ⟨W.heap.size, 0, none⟩ 1 1 [.int .i64 (y : Int)] rfl rfl HNW.out (by intro u hu; simp at hu; subst hu; rfl) hnl (by omega) hbase ?_; intro z1 z2 ho1 hg1; obtain ⟨a1, c1, rfl⟩ := own_shape ho1; obtain ⟨⟨k1, k2⟩, k3⟩ := HF.out _ z2 hg1 ho1; have HK3 := boxed k3; clear k3 ho1 hg1)
        | (go_simp; go_at_call 50; refine (HEN.out _ (Below.refl _ _).drew).mono ?_; rintro e' w' ⟨rfl, hw'⟩; subst w'; go_wp2_with fail))
    all_goals
      obtain ⟨W2, hW2⟩ : ∃ W2, z2.setCell ⟨w.heap.size + 1 + 1, 0, none⟩ (.slice a1 (dl + 1) c1) = W2 := ⟨_, rfl⟩
      rw [hW2] at HK3
      try rw [hW2]
      clear hW2 k1 k2 HF HOW HNW HEN c0 x0 x1 x2 y0 y1 y2
      obtain ⟨kP, kS, kR⟩ := HP.out _ HK3.out.2.2.2.1
      have hla := last_any (sb := sb) kP hn kS.c.1.1
      obtain ⟨j1, j2, j3, j4, j5⟩ := HI.out
      have J2 := boxed j2
      clear j2
      obtain ⟨hmy, r, hbt, -⟩ := best_tail _ hBn _ _ _ _ _ j3
      by_cases hlast : nx + 1 = nbk I n
      · have t1 : ((nx : Int) == (nbk I n : Int) - 1) = true := by rw [beq_iff_eq]; omega
        have ht : t = [] := by
          cases t with
          | nil => rfl
          | cons q t' =>
            exfalso
            have := (best_tail _ hBn _ _ _ _ _ hbt).1
            have := (mayL_iff _ _ _).1 this
            have h2 := this.2.1
            simp only [PT] at h2
            omega
        have hlD := boxed (show l = D ++ [nx] by rw [J2.out, ht])
        obtain ⟨⟨g0, g1, g2⟩, e0, e1, e2⟩ := cells3 HK3.out.1
        obtain ⟨⟨p0, p1, p2⟩, r0, r1, r2⟩ := cells3 HK3.out.2.1
        have HP5 : Box ((W2.setCells (w.heap.size + 1) 0 [.slice a1 (dl + 1) c1, .int .i64 c, .bool false]).heap[w.heap.size + 1]? = some (.cells #[.slice a1 (dl + 1) c1, .int .i64 c, .bool false] 33 (0, 0))) := boxed (sets_heap _ _ _ 0 W2 _ HK3.out.2.1)
        have HF5 := boxed (HK3.out.2.2.2.1.trans (sets_below (w.heap.size + 1) w.heap.size (by omega) [.slice a1 (dl + 1) c1, .int .i64 c, .bool false] 0 W2))
        have HO5 : Box ((W2.setCells (w.heap.size + 1) 0 [.slice a1 (dl + 1) c1, .int .i64 c, .bool false]).ownsRow w.heap.size 3 1 (.slice a1 (dl + 1) c1) l.length (ncs (l.map (bkn I n)))) := boxed (by
          rw [hlD.out]
          have h5 := HK3.out.2.2.1
          simp only [World.setCells]
          have := ownsRow_setCell_below (ownsRow_setCell_below (ownsRow_setCell_below h5 (a := ⟨w.heap.size + 1, 0, none⟩) (by simp only; omega) (.slice a1 (dl + 1) c1)) (a := ⟨w.heap.size + 1, 0 + 1, none⟩) (by simp only; omega) (.int .i64 c)) (a := ⟨w.heap.size + 1, 0 + 1 + 1, none⟩) (by simp only; omega) (.bool false)
          exact own_mono9 this (by omega))
        simp only [World.setCells, Nat.zero_add, Nat.reduceAdd] at HP5 HF5 HO5
        clear kP kS kR HK3 hmy hbt
        go_wp2_with fail
        refine hla.mono ?_
        rintro e' w' ⟨rfl, hw'⟩
        subst w'
        clear hla
        go_wp2_with fail
        simp only [Exit.jump]
        refine bodyPost_ret (v := .agg #[.slice a1 (dl + 1) c1, .int .i64 c, .bool false]) ?_ ?_ ?_
        · exact results_cell_row Tryz.results35 _ _ (w.heap.size + 1) 33 #[.slice a1 (dl + 1) c1, .int .i64 c, .bool false] (0, 0) _ rfl HP5.out Tryz.underlying33 rfl (by kernel_rfl)
        · rfl
        · exact ⟨_, rfl, HO5.out, HF5.out⟩
      · have t1 : ((nx : Int) == (nbk I n : Int) - 1) = false := by rw [beq_eq_false_iff_ne]; omega
        have hcl := ftb_cls I n width (-1 : Int) (nx : Int)
        obtain ⟨c5, hc5⟩ : ∃ c5 : Nat, (ftb I n width (-1 : Int) (nx : Int)).cls = (c5 : Int) := ⟨(ftb I n width (-1 : Int) (nx : Int)).cls.toNat, by omega⟩
        have hc54 : c5 < 4 := by omega
        have hkl : (PT I n width s s.t).kl i nx = (c5 : Int) := by
          show (ftb I n width ((i : Int) - 1) nx).cls = (c5 : Int)
          rw [show ((i : Int) - 1) = (-1 : Int) by omega]; exact hc5
        rw [hkl] at hbt
        obtain ⟨nx2, hnx2⟩ : ∃ nx2, (R nx c5).2 = nx2 := ⟨_, rfl⟩
        have hrs := hR nx w5 c5 hc54
        rw [hnx2] at hrs
        obtain ⟨t', ht'⟩ : ∃ t', t = nx2 :: t' := by
          rcases hrs with ⟨-, hno⟩ | ⟨-, he, -⟩ | ⟨-, -, t', hb'⟩
          · exact (noway_some hno hbt.1).elim
          · exact absurd he hlast
          · exact ⟨t', (hbt.one hb').2⟩
        have hbt2 := hbt
        rw [ht'] at hbt2
        have hmy2 := (mayL_iff _ _ _).1 (best_tail _ hBn _ _ _ _ _ hbt2).1
        have hn1 : nx + 1 ≤ nx2 := hmy2.1
        have hn2 : nx2 < nbk I n := by have := hmy2.2.1; simpa [PT] using this
        have hto3 : (nx : Int) < (nbk I n : Int) := by omega
        have hc55 : (c5 : Int) < 4 := by omega
        have hdl : D.length = dl := hdlD
        have HNI : Box (∀ W', Below W2.heap.size W2 W' → WyI w I n width s c l w.heap.size (w.heap.size + 1) (w.heap.size + 1 + 1) (w.heap.size + 1 + 1 + 1) (nx : Int) nx2 W') := boxed (fun W' hb => by
          obtain ⟨z1', z2', z3', z4', z5'⟩ := HK3.out
          exact ⟨nx + 1, (c5 : Int), r, D ++ [nx], t', .slice a1 (dl + 1) c1, by omega, by rw [J2.out, ht']; simp, hbt2, by simp; omega, hn2, hn1, (hb.block _ (heap_lt z1')).trans z1', (hb.block _ (heap_lt z2')).trans z2', owns_below z3' hb, z4'.trans (hb.mono z4'.size), Nat.le_trans z5' hb.size⟩)
        obtain ⟨f0, f1, f2, f3, f4, hF⟩ : ∃ a b c d e, ftb I n width (-1 : Int) (nx : Int) = ⟨a, b, c, d, e⟩ := ⟨_, _, _, _, _, rfl⟩
        have hf3 : f3 = (c5 : Int) := by rw [hF] at hc5; exact hc5
        have HFI : Box (∀ W', Below W2.heap.size W2 W' → Calls Tryz.prog 51 #[.pointer (some ⟨sb, 0, none⟩), .int .i64 (-1 : Int), .int .i64 (nx : Int)] W' fun e w' => e = .returned (.agg #[.int .i64 f0, .int .i64 f1, .int .i64 f2, .int .i64 (c5 : Int), .bool f4]) ∧ Below W'.heap.size W' w') := boxed (fun W' hb => by
          obtain ⟨kP', kS', -⟩ := HP.out W' (HK3.out.2.2.2.1.trans (hb.mono HK3.out.2.2.2.1.size))
          have := fit9_any kP' hn hok hw kS'.c.1.1 kS'.c.1.2.1 (-1 : Int) (nx : Int)
          rw [hF, hf3] at this
          exact this)
        have HX : Box (∀ W', Below W2.heap.size W2 W' → W'.cell? ⟨sb, 9, none⟩ = some (.slice (some ⟨rb, 0, none⟩) (nbk I n) rc) ∧ W'.cell? ⟨rb, nx * 8 + c5 * 2 + 1, none⟩ = some (.int .i64 (nx2 : Int))) := boxed (fun W' hb => by
          obtain ⟨kP', kS', kR'⟩ := HP.out W' (HK3.out.2.2.2.1.trans (hb.mono HK3.out.2.2.2.1.size))
          exact ⟨kS'.c.1.2.2.2.1, by have := (kR' nx c5 w5 hc54).2; rw [hnx2] at this; exact this⟩)
        have HD : Box (Below W2.heap.size W2 W2.drew) := boxed (Below.refl _ _).drew
        have hfl := fldF
        clear kP kS kR HK3 hmy hbt hbt2 hmy2 hrs hF hf3 hc5 hkl hcl J2 ht' HI hnx2 hdl
        go_wp2_with fail
        refine hla.mono ?_
        rintro e' w' ⟨rfl, hw'⟩
        subst w'
        clear hla
        go_wp2_with fail
        go_region_held3 (fun W' => W'.cell? ⟨sb, 9, none⟩ = some (.slice (some ⟨rb, 0, none⟩) (nbk I n) rc) ∧ W'.cell? ⟨rb, nx * 8 + c5 * 2 + 1, none⟩ = some (.int .i64 (nx2 : Int)))
          (first | with_reducible exact HX.out _ HD.out | with_reducible exact HX.out _ HB5.out)
          (first
            | (go_at_call 51; with_reducible refine (HFI.out _ HD.out).mono ?_; rintro e' w5' ⟨rfl, hb5⟩; have HB5 := boxed (below_step HD.out (Nat.le_refl _) hb5); clear hb5))
        all_goals
          go_wp2_with fail
          go_step3
          exact ⟨rfl, (nx : Int), nx2, _, _, _, _, _, _, _, _, _, _, _, _, _, _, _, _, _, _, _, _, _, _, _, _, _, _, _, _, _, _, _, _, _, _, _, _, HNI.out _ HB5.out, rfl⟩
  · rintro a' W ⟨fr, to, u8, u9, u10, u11, u12, u13, u14, u15, u16, u17, u18, u19, u20, u21, u22, u23, u24, u25, u26, u27, u28, u29, u30, u31, u32, u33, u34, u35, u36, u37, u38, u39, u40, u41, u42, u43, hI, rfl⟩
    obtain ⟨i, a, c', D, t, v, w1, w2, w3, w4, w5, w6, w7, w8, w9, w10, w11⟩ := hI
    obtain ⟨kP, kS, kR⟩ := HP.out _ w10
    have c0 := kS.c.1.1
    have hDl : D.length ≤ 262144 := by omega
    obtain ⟨ao, cap, rfl⟩ := own_shape w9
    obtain ⟨⟨x0, x1, x2⟩, y0, y1, y2⟩ := cells3 w7
    have hBW := heap_lt w7
    have hRW := heap_lt w8
    have he := bk_bkn I n to w5
    have HEN : Box (∀ W', Below W.heap.size W W' → Calls Tryz.prog 50 #[.pointer (some ⟨pb, 0, none⟩), .int .i64 (to : Int)] W' fun e w' => e = .returned (.int .i64 (bkn I n to : Int)) ∧ w' = W') := boxed (fun W' hb => by
      have := end_any (HP.out _ (w10.trans (hb.mono w10.size))).1 hn (to : Int)
      have e2 : endN (lgs I n n) (to : Int) = (bkn I n to : Int) := he
      rw [e2] at this
      exact this)
    obtain ⟨y, hy⟩ : ∃ y, bkn I n to = y := ⟨_, rfl⟩
    rw [hy] at HEN
    have hsbW : sb < W.heap.size := kS.hs.2.1
    have n1 : sb ≠ W.heap.size := by omega
    have n2 : w.heap.size + 1 + 1 ≠ W.heap.size := by omega
    -- behind the append and the store
    have hbase : w.heap.size + 1 + 1 + 1 ≤ (W.alloc (.cells #[.int .i64 (y : Int)] 3)).drew.heap.size := by simp [World.drew]; omega
    have HOW : Box ((W.alloc (.cells #[.int .i64 (y : Int)] 3)).drew.ownsRow (w.heap.size + 1 + 1 + 1) 3 1 (.slice ao D.length cap) D.length (ncs (D.map (bkn I n)))) := boxed (owns_below w9 (((Below.refl _ _).alloc (Nat.le_refl _) _).drew))
    have HNW : Box (∀ j u, ([.int .i64 (y : Int)] : List Value)[j]? = some u → (W.alloc (.cells #[.int .i64 (y : Int)] 3)).drew.cell? ((⟨W.heap.size, 0, none⟩ : Addr).add j) = some u) := boxed (by
      intro j u hj
      rw [Addr.add_lit, Nat.zero_add, World.cell?_drew, cell_first]
      simpa using hj)
    have HF : Box (∀ v1 w1, (W.alloc (.cells #[.int .i64 (y : Int)] 3)).drew.grownBy w1 (Value.slice ao D.length cap).ownBlock → w1.ownsRow (w.heap.size + 1 + 1 + 1) 3 1 v1 (D.length + 1) (ncs (D.map (bkn I n)) ++ [.int .i64 (y : Int)]) → (w1.cell? ⟨w.heap.size + 1 + 1, 0, none⟩ = some (.slice ao D.length cap) ∧ w1.frozen? ⟨w.heap.size + 1 + 1, 0, none⟩ = false) ∧
        ((w1.setCell ⟨w.heap.size + 1 + 1, 0, none⟩ v1).heap[w.heap.size + 1 + 1]? = some (.cells #[v1, .int .i64 c, .bool false] 33 (0, 0)) ∧ (w1.setCell ⟨w.heap.size + 1 + 1, 0, none⟩ v1).heap[w.heap.size + 1]? = some (.cells #[.slice none 0 0, .int .i64 0, .bool false] 33 (0, 0)) ∧ (w1.setCell ⟨w.heap.size + 1 + 1, 0, none⟩ v1).ownsRow (w.heap.size + 1 + 1 + 1) 3 1 v1 (D ++ [to]).length (ncs ((D ++ [to]).map (bkn I n))) ∧ Below w.heap.size w (w1.setCell ⟨w.heap.size + 1 + 1, 0, none⟩ v1) ∧ w.heap.size + 1 + 1 + 1 ≤ (w1.setCell ⟨w.heap.size + 1 + 1, 0, none⟩ v1).heap.size)) := boxed (by
      intro z1 z2 hg ho
      have hrow : ∀ q, q < w.heap.size + 1 + 1 + 1 → some q ≠ (Value.slice ao D.length cap).ownBlock := fun q hq e => by
        have := (w9.lt q e.symm).1; omega
      have hbl : ∀ q, q < w.heap.size + 1 + 1 + 1 → z2.heap[q]? = W.heap[q]? := fun q hq => by
        rw [hg.block q (by simp [World.drew]; omega) (hrow q hq)]
        show (W.alloc _).heap[q]? = _
        exact heap_alloc_old _ _ (by omega)
      have e1 : z2.heap[w.heap.size + 1 + 1]? = some (.cells #[.slice ao D.length cap, .int .i64 c, .bool false] 33 (0, 0)) := (hbl _ (by omega)).trans w7
      have hne1 : ∀ q, z1.ownBlock = some q → w.heap.size + 1 + 1 + 1 ≤ q := fun q e => (ho.lt q e).1
      refine ⟨⟨row_cell e1 0 _ rfl, row_free e1 0⟩, arr_set z1 e1, ?_, ?_, ?_, ?_⟩
      · rw [Below.heap_setCell z2 ⟨w.heap.size + 1 + 1, 0, none⟩ z1 _ (by simp)]; exact (hbl _ (by omega)).trans w8
      · have := ownsRow_setCell_below ho (a := ⟨w.heap.size + 1 + 1, 0, none⟩) (by simp) z1
        rw [List.length_append, List.map_append, ncs_app]
        simpa [ncs, hy] using this
      · have b1 : Below w.heap.size w z2 := ⟨hg.os.trans w10.os, hg.tape.trans w10.tape, hg.output.trans w10.output, by have := hg.size; have := w10.size; simp [World.drew] at *; omega, fun q hq => (hbl q (by omega)).trans (w10.block q hq)⟩
        exact b1.setCell (by simp only; omega) _
      · have := hg.size; simp [World.drew] at this ⊢; omega)
    have hnl : D.length + 1 ≤ maxLen := by unfold maxLen; omega
    have HI := boxed (And.intro w1 (And.intro w2 (And.intro w3 (And.intro w4 w6))))
    have HW10 := boxed w10
    clear w1 w2 w3 w4 w6 w7 w8 w9 kP kS kR
    generalize hdlD : D.length = dl at *
    go_wp2_with fail
    go_region_law
      (first
        | (refine step_append_own9 rfl _ _ 31 rfl (w.heap.size + 1 + 1 + 1) 3 i0 _ 1 8 Tryz.underlying31 hi hz0 hz1 hz2 rfl (by decide) _ _ _ rfl HOW.out ⟨W.heap.size, 0, none⟩ 1 1 [.int .i64 (y : Int)] rfl rfl HNW.out (by intro u hu; simp at hu; subst hu; rfl) hnl (by omega) hbase ?_; intro z1 z2 ho1 hg1; obtain ⟨a1, c1, rfl⟩ := own_shape ho1; obtain ⟨⟨k1, k2⟩, k3⟩ := HF.out _ z2 hg1 ho1; have HK3 := boxed k3; clear k3 ho1 hg1)
        | (go_simp; go_at_call 50; refine (HEN.out _ (Below.refl _ _).drew).mono ?_; rintro e' w' ⟨rfl, hw'⟩; subst w'; go_wp2_with fail))
    all_goals
      obtain ⟨W2, hW2⟩ : ∃ W2, z2.setCell ⟨w.heap.size + 1 + 1, 0, none⟩ (.slice a1 (dl + 1) c1) = W2 := ⟨_, rfl⟩
      rw [hW2] at HK3
      try rw [hW2]
      clear hW2 k1 k2 HF HOW HNW HEN c0 x0 x1 x2 y0 y1 y2
      obtain ⟨kP, kS, kR⟩ := HP.out _ HK3.out.2.2.2.1
      have hla := last_any (sb := sb) kP hn kS.c.1.1
      obtain ⟨j1, j2, j3, j4, j5⟩ := HI.out
      have J2 := boxed j2
      clear j2
      obtain ⟨hmy, r, hbt, -⟩ := best_tail _ hBn _ _ _ _ _ j3
      by_cases hlast : to + 1 = nbk I n
      · have t1 : ((to : Int) == (nbk I n : Int) - 1) = true := by rw [beq_iff_eq]; omega
        have ht : t = [] := by
          cases t with
          | nil => rfl
          | cons q t' =>
            exfalso
            have := (best_tail _ hBn _ _ _ _ _ hbt).1
            have := (mayL_iff _ _ _).1 this
            have h2 := this.2.1
            simp only [PT] at h2
            omega
        have hlD := boxed (show l = D ++ [to] by rw [J2.out, ht])
        obtain ⟨⟨g0, g1, g2⟩, e0, e1, e2⟩ := cells3 HK3.out.1
        obtain ⟨⟨p0, p1, p2⟩, r0, r1, r2⟩ := cells3 HK3.out.2.1
        have HP5 : Box ((W2.setCells (w.heap.size + 1) 0 [.slice a1 (dl + 1) c1, .int .i64 c, .bool false]).heap[w.heap.size + 1]? = some (.cells #[.slice a1 (dl + 1) c1, .int .i64 c, .bool false] 33 (0, 0))) := boxed (sets_heap _ _ _ 0 W2 _ HK3.out.2.1)
        have HF5 := boxed (HK3.out.2.2.2.1.trans (sets_below (w.heap.size + 1) w.heap.size (by omega) [.slice a1 (dl + 1) c1, .int .i64 c, .bool false] 0 W2))
        have HO5 : Box ((W2.setCells (w.heap.size + 1) 0 [.slice a1 (dl + 1) c1, .int .i64 c, .bool false]).ownsRow w.heap.size 3 1 (.slice a1 (dl + 1) c1) l.length (ncs (l.map (bkn I n)))) := boxed (by
          rw [hlD.out]
          have h5 := HK3.out.2.2.1
          simp only [World.setCells]
          have := ownsRow_setCell_below (ownsRow_setCell_below (ownsRow_setCell_below h5 (a := ⟨w.heap.size + 1, 0, none⟩) (by simp only; omega) (.slice a1 (dl + 1) c1)) (a := ⟨w.heap.size + 1, 0 + 1, none⟩) (by simp only; omega) (.int .i64 c)) (a := ⟨w.heap.size + 1, 0 + 1 + 1, none⟩) (by simp only; omega) (.bool false)
          exact own_mono9 this (by omega))
        simp only [World.setCells, Nat.zero_add, Nat.reduceAdd] at HP5 HF5 HO5
        clear kP kS kR HK3 hmy hbt
        go_wp2_with fail
        refine hla.mono ?_
        rintro e' w' ⟨rfl, hw'⟩
        subst w'
        clear hla
        go_wp2_with fail
        simp only [Exit.jump]
        refine bodyPost_ret (v := .agg #[.slice a1 (dl + 1) c1, .int .i64 c, .bool false]) ?_ ?_ ?_
        · exact results_cell_row Tryz.results35 _ _ (w.heap.size + 1) 33 #[.slice a1 (dl + 1) c1, .int .i64 c, .bool false] (0, 0) _ rfl HP5.out Tryz.underlying33 rfl (by kernel_rfl)
        · rfl
        · exact ⟨_, rfl, HO5.out, HF5.out⟩
      · have t1 : ((to : Int) == (nbk I n : Int) - 1) = false := by rw [beq_eq_false_iff_ne]; omega
        have hcl := ftb_cls I n width fr (to : Int)
        obtain ⟨c5, hc5⟩ : ∃ c5 : Nat, (ftb I n width fr (to : Int)).cls = (c5 : Int) := ⟨(ftb I n width fr (to : Int)).cls.toNat, by omega⟩
        have hc54 : c5 < 4 := by omega
        have hkl : (PT I n width s s.t).kl i to = (c5 : Int) := by
          show (ftb I n width ((i : Int) - 1) to).cls = (c5 : Int)
          rw [show ((i : Int) - 1) = fr by omega]; exact hc5
        rw [hkl] at hbt
        obtain ⟨nx2, hnx2⟩ : ∃ nx2, (R to c5).2 = nx2 := ⟨_, rfl⟩
        have hrs := hR to w5 c5 hc54
        rw [hnx2] at hrs
        obtain ⟨t', ht'⟩ : ∃ t', t = nx2 :: t' := by
          rcases hrs with ⟨-, hno⟩ | ⟨-, he, -⟩ | ⟨-, -, t', hb'⟩
          · exact (noway_some hno hbt.1).elim
          · exact absurd he hlast
          · exact ⟨t', (hbt.one hb').2⟩
        have hbt2 := hbt
        rw [ht'] at hbt2
        have hmy2 := (mayL_iff _ _ _).1 (best_tail _ hBn _ _ _ _ _ hbt2).1
        have hn1 : to + 1 ≤ nx2 := hmy2.1
        have hn2 : nx2 < nbk I n := by have := hmy2.2.1; simpa [PT] using this
        have hto3 : (to : Int) < (nbk I n : Int) := by omega
        have hc55 : (c5 : Int) < 4 := by omega
        have hdl : D.length = dl := hdlD
        have HNI : Box (∀ W', Below W2.heap.size W2 W' → WyI w I n width s c l w.heap.size (w.heap.size + 1) (w.heap.size + 1 + 1) (w.heap.size + 1 + 1 + 1) (to : Int) nx2 W') := boxed (fun W' hb => by
          obtain ⟨z1', z2', z3', z4', z5'⟩ := HK3.out
          exact ⟨to + 1, (c5 : Int), r, D ++ [to], t', .slice a1 (dl + 1) c1, by omega, by rw [J2.out, ht']; simp, hbt2, by simp; omega, hn2, hn1, (hb.block _ (heap_lt z1')).trans z1', (hb.block _ (heap_lt z2')).trans z2', owns_below z3' hb, z4'.trans (hb.mono z4'.size), Nat.le_trans z5' hb.size⟩)
        obtain ⟨f0, f1, f2, f3, f4, hF⟩ : ∃ a b c d e, ftb I n width fr (to : Int) = ⟨a, b, c, d, e⟩ := ⟨_, _, _, _, _, rfl⟩
        have hf3 : f3 = (c5 : Int) := by rw [hF] at hc5; exact hc5
        have HFI : Box (∀ W', Below W2.heap.size W2 W' → Calls Tryz.prog 51 #[.pointer (some ⟨sb, 0, none⟩), .int .i64 fr, .int .i64 (to : Int)] W' fun e w' => e = .returned (.agg #[.int .i64 f0, .int .i64 f1, .int .i64 f2, .int .i64 (c5 : Int), .bool f4]) ∧ Below W'.heap.size W' w') := boxed (fun W' hb => by
          obtain ⟨kP', kS', -⟩ := HP.out W' (HK3.out.2.2.2.1.trans (hb.mono HK3.out.2.2.2.1.size))
          have := fit9_any kP' hn hok hw kS'.c.1.1 kS'.c.1.2.1 fr (to : Int)
          rw [hF, hf3] at this
          exact this)
        have HX : Box (∀ W', Below W2.heap.size W2 W' → W'.cell? ⟨sb, 9, none⟩ = some (.slice (some ⟨rb, 0, none⟩) (nbk I n) rc) ∧ W'.cell? ⟨rb, to * 8 + c5 * 2 + 1, none⟩ = some (.int .i64 (nx2 : Int))) := boxed (fun W' hb => by
          obtain ⟨kP', kS', kR'⟩ := HP.out W' (HK3.out.2.2.2.1.trans (hb.mono HK3.out.2.2.2.1.size))
          exact ⟨kS'.c.1.2.2.2.1, by have := (kR' to c5 w5 hc54).2; rw [hnx2] at this; exact this⟩)
        have HD : Box (Below W2.heap.size W2 W2.drew) := boxed (Below.refl _ _).drew
        have hfl := fldF
        clear kP kS kR HK3 hmy hbt hbt2 hmy2 hrs hF hf3 hc5 hkl hcl J2 ht' HI hnx2 hdl
        go_wp2_with fail
        refine hla.mono ?_
        rintro e' w' ⟨rfl, hw'⟩
        subst w'
        clear hla
        go_wp2_with fail
        go_region_held3 (fun W' => W'.cell? ⟨sb, 9, none⟩ = some (.slice (some ⟨rb, 0, none⟩) (nbk I n) rc) ∧ W'.cell? ⟨rb, to * 8 + c5 * 2 + 1, none⟩ = some (.int .i64 (nx2 : Int)))
          (first | with_reducible exact HX.out _ HD.out | with_reducible exact HX.out _ HB5.out)
          (first
            | (go_at_call 51; with_reducible refine (HFI.out _ HD.out).mono ?_; rintro e' w5' ⟨rfl, hb5⟩; have HB5 := boxed (below_step HD.out (Nat.le_refl _) hb5); clear hb5))
        all_goals
          go_wp2_with fail
          go_step3
          refine ⟨rfl, ⟨(to : Int), nx2, _, _, _, _, _, _, _, _, _, _, _, _, _, _, _, _, _, _, _, _, _, _, _, _, _, _, _, _, _, _, _, _, _, _, _, _, HNI.out _ HB5.out, rfl⟩, ?_⟩
          simp [intOf]
          omega
end
end Go.Proofs.YtkmeeblkckfepabGreat
