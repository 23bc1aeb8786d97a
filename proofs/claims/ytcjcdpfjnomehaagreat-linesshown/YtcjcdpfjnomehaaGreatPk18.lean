/-
  A paragraph's items under way, as they lie in memory; what the program's add does: an item is put behind the others.
-/
import Derived.Laws.AppendOwnNone
import Derived.Deep.RegionLaw
import Derived.Test.YtcjcdpfjnomehaaGreatPk17
import Derived.Test.YtcjcdpfjnomehaaGreatPk15
namespace Go.Proofs.YtcjcdpfjnomehaaGreat.It
open Go.RowKit
set_option linter.unusedSimpArgs false
set_option linter.unusedVariables false
theorem info_item : (Tryz.prog.info? 80).map (fun i => (i.zero, i.size, i.bytes)) = some (some (.agg #[.int .i64 0, .int .i64 0, .int .i64 0, .int .i64 0, .bool false, .int .i64 0, .bool false, .int .i64 0, .int .i64 0]), 9, 72) := by kernel_rfl
structure Bse where
  w : World
  rb : Nat
  ro : Option (Value × Value)
def Bse.kr (E : Bse) (w : World) : Prop := ∀ p, E.ro = some p → w.heap[E.rb]? = some (.cells #[p.1, p.2] 61 (0, 0))
theorem own_ne {w : World} {B e size n bb : Nat} {v : Value} {xs : List Value} {cs : Array Value} {ty : TypeId} (h : w.ownsRow B e size v n xs) (hb : w.heap[bb]? = some (.cells cs ty (0, 0))) (hne : ty ≠ e) : v.ownBlock ≠ some bb := by
  rcases h.2 with ⟨rfl, _⟩ | ⟨g', cap', cur, rfl, _, hh, _⟩
  · intro c; cases c
  · intro c
    have c' : g' = bb := by simpa [Value.ownBlock] using c
    subst c'
    rw [hb] at hh
    injection hh with hh
    injection hh with _ hh
    exact hne hh
theorem heap_lt {w : World} {b : Nat} {o : Obj} (h : w.heap[b]? = some o) : b < w.heap.size := by
  by_cases c : b < w.heap.size
  · exact c
  · rw [Array.getElem?_eq_none (by omega)] at h; cases h
theorem Bse.kr.below {E : Bse} {w w' : World} (h : E.kr w) (hb : Below w.heap.size w w') : E.kr w' := fun p hp => by
  rw [hb.block E.rb (heap_lt (h p hp))]; exact h p hp
theorem Bse.kr.own {E : Bse} {w w' : World} {B n : Nat} {v : Value} {xs : List Value} (h : E.kr w) (hown : w.ownsRow B 80 9 v n xs) (hg : w.grownBy w' v.ownBlock) : E.kr w' := fun p hp => by
  rw [hg.block E.rb (heap_lt (h p hp)) (own_ne hown (h p hp) (by decide)).symm]; exact h p hp
theorem Bse.kr.set {E : Bse} {w : World} {bb i : Nat} {cs : Array Value} {u : Value} (h : E.kr w) (hblk : w.heap[bb]? = some (.cells cs 153 (0, 0))) : E.kr (w.setCell ⟨bb, i, none⟩ u) := fun p hp => by
  have hne : E.rb ≠ bb := fun c => by
    have h1 := h p hp
    rw [c, hblk] at h1
    injection h1 with h1
    injection h1 with _ h1
    exact absurd h1 (by decide)
  rw [heap_setCell_other w ⟨bb, i, none⟩ E.rb u hne]; exact h p hp
def BS (w0 : Bse) (tb bb : Nat) (w : World) (L : List Itm) (a : Nat) (sy : Int) : Prop :=
  (w0.w.heap.size ≤ bb ∧ Below w0.w.heap.size w0.w w ∧ w0.kr w) ∧ ∃ v, w.heap[bb]? = some (.cells #[.pointer (some ⟨tb, 0, none⟩), v, .int .i64 (a : Nat), .int .i64 sy] 153 (0, 0)) ∧ w.ownsRow w0.w.heap.size 80 9 v L.length (ics L)
theorem set_heap4 {w : World} {b i : Nat} {v0 v1 v2 v3 v : Value} {t : TypeId} (h : w.heap[b]? = some (.cells #[v0, v1, v2, v3] t (0, 0))) : (w.setCell ⟨b, i, none⟩ v).heap[b]? = some (.cells ((#[v0, v1, v2, v3] : Array Value).setIfInBounds i v) t (0, 0)) := by
  simp [World.setCell, Array.getElem?_modify, h]
theorem set_far {w : World} {b c i : Nat} {v : Value} (h : c ≠ b) : (w.setCell ⟨b, i, none⟩ v).heap[c]? = w.heap[c]? := by
  simp only [World.setCell, Array.getElem?_modify]
  rw [if_neg (by omega)]
theorem below_grown {w w' : World} (h : Below w.heap.size w w') (row : Option Nat) : w.grownBy w' row := ⟨h.os, h.tape, h.output, h.size, fun k hk _ => h.block k hk⟩
theorem grown_trans {a b c : World} {row : Option Nat} (h : a.grownBy b row) (k : b.grownBy c row) : a.grownBy c row :=
  ⟨k.os.trans h.os, k.tape.trans h.tape, k.output.trans h.output, Nat.le_trans h.size k.size, fun i hi hr => (k.block i (Nat.lt_of_lt_of_le hi h.size) hr).trans (h.block i hi hr)⟩
theorem grown_set (w : World) (b i : Nat) (u : Value) : w.grownBy (w.setCell ⟨b, i, none⟩ u) (some b) :=
  ⟨rfl, rfl, rfl, by simp, fun k _ hk => heap_setCell_other w ⟨b, i, none⟩ k u (fun e => hk (by simp [e]))⟩
theorem step_append_own {P : Program} {w : World} {ops : Array Oper} {o : Oper} {a : Act} {K : Act → World → Prop} {Q : Exit → Act → World → Prop} {E : Prop} (hgd : o.guard = none) (s x : Operand) (t : TypeId)
    (ho : o.op = .call { callee := .builtin .append, args := #[s, x], argTypes := #[t, t] })
    (base : Nat) (e : TypeId) (i : TypeInfo) (z : Value) (size bytes : Nat) (ht : P.underlying t = some (.slice e)) (hi : P.info? e = some i) (hz : i.zero = some z)
    (hsize : i.size = size) (hby : i.bytes = bytes) (hzs : z.cells.size = size) (hsz : 0 < size)
    (v : Value) (n : Nat) (xs : List Value) (hs : a.eval s = v) (hown : w.ownsRow base e size v n xs)
    (ad : Addr) (m c : Nat) (news : List Value) (hx : a.eval x = .slice (some ad) m c) (hl : news.length = m * size) (hnews : ∀ j u, news[j]? = some u → w.cell? (ad.add j) = some u) (h1 : ∀ u ∈ news, u.oneCell' = true)
    (h63 : n + m ≤ maxLen) (hbytes : (n + m) * bytes ≤ 140737488355328) (hbase : base ≤ w.heap.size)
    (h : ∀ v' w', w'.ownsRow base e size v' (n + m) (xs ++ news) → w.grownBy w' v.ownBlock → K (a.put o.dst v') w') :
    if Region.wanted o (yielded ops a.tmps) = true then Oper.wp P o a w K Q else E := by
  have hw : Region.wanted o (yielded ops a.tmps) = true := by simp [Region.wanted, hgd]
  rw [if_pos hw]
  exact wp_append_own w s x t ho base e i z size bytes ht hi hz hsize hby hzs hsz v n xs hs hown ad m c news hx hl hnews h1 h63 hbytes hbase fun v' w' h2 h3 _ => h v' w' h2 h3
set_option maxRecDepth 100000 in
set_option maxHeartbeats 2000000 in
theorem add7_any {w0 : Bse} {tb bb : Nat} {w : World} {L : List Itm} {a : Nat} {sy : Int} (h : BS w0 tb bb w L a sy) (x : Itm) (size : Nat) (ha : a ≤ 1048576) (hsz : size ≤ 1048576) (hL : L.length ≤ 1048576) :
    Calls Tryz.prog 133 #[.pointer (some ⟨bb, 0, none⟩), x.val, .int .i64 (size : Nat)] w fun e w' => e = .returned (.tuple #[]) ∧ BS w0 tb bb w' (L ++ [{ x with fr := (a : Nat), to := (a + size : Nat) }]) (a + size) sy := by
  obtain ⟨i0, hi, hz0, hz1, hz2⟩ := info_parts info_item
  obtain ⟨⟨hlo, hbel, hkr⟩, v, hblk, hown⟩ := h
  obtain ⟨ao, cap, rfl⟩ := own_shape hown
  have f0 := row_cell hblk
  have z0 := row_free hblk
  have q1 : bb < w.heap.size := by
    by_cases c : bb < w.heap.size
    · exact c
    · rw [Array.getElem?_eq_none (by omega)] at hblk; cases hblk
  have q2 : bb ≠ w.heap.size := by omega
  have q3 : w.heap.size ≠ bb := by omega
  have hlen : ∃ n, L.length = n := ⟨_, rfl⟩
  obtain ⟨n, hn⟩ := hlen
  rw [hn] at hown f0 hL hblk
  have e1 := f0 1
  have e2 := f0 2
  simp at e1 e2
  have y1 := z0 1
  have y2 := z0 2
  unfold Itm.val
  have HW := boxed hblk
  have HO := boxed hown
  have HB := boxed hbel
  have HKR := boxed hkr
  obtain ⟨A, hA⟩ : ∃ A, a + size = A := ⟨_, rfl⟩
  have hA2 : (a : Int) + (size : Int) = (A : Nat) := by omega
  have hA3 : A ≤ 2097152 := by omega
  rw [hA]
  clear f0 z0 hblk hown hbel hA hkr
  go_enter Tryz.func133, Tryz.ntmps133
  go_wp2_with fail
  go_region
  go_wp2_with fail
  obtain ⟨W, hW⟩ : ∃ W, (w.alloc (.cells #[.int .i64 x.k, .int .i64 x.w, .int .i64 x.st, .int .i64 x.sh, .bool x.fill, .int .i64 x.c, .bool x.flag, .int .i64 (a : Nat), .int .i64 (A : Nat)] 80)).drew = W := ⟨_, rfl⟩
  rw [hW]
  have hWb : Below w.heap.size w W := by rw [← hW]; exact ((Below.refl _ _).alloc (Nat.le_refl _) _).drew
  have hWz : W.heap.size = w.heap.size + 1 := by rw [← hW]; simp [World.drew]
  have hWx : W.heap[w.heap.size]? = some (.cells #[.int .i64 x.k, .int .i64 x.w, .int .i64 x.st, .int .i64 x.sh, .bool x.fill, .int .i64 x.c, .bool x.flag, .int .i64 (a : Nat), .int .i64 (A : Nat)] 80 (0, 0)) := by rw [← hW]; exact heap_alloc_new _ _
  clear hW
  have g0 := row_cell hWx
  have x0 := g0 0
  have x1 := g0 1
  have x2 := g0 2
  have x3 := g0 3
  have x4 := g0 4
  have x5 := g0 5
  have x6 := g0 6
  have x7 := g0 7
  have x8 := g0 8
  simp at x0 x1 x2 x3 x4 x5 x6 x7 x8
  have k1 : W.cell? ⟨bb, 1, none⟩ = some (.slice ao n cap) := hold hWb e1
  have hWblk : W.heap[bb]? = some (.cells #[.pointer (some ⟨tb, 0, none⟩), .slice ao n cap, .int .i64 (a : Nat), .int .i64 sy] 153 (0, 0)) := by rw [hWb.block bb q1]; exact HW.out
  have hWown := owns_below HO.out hWb
  have hne0 := own_ne hWown hWblk (by decide)
  have HX : Box (∀ v1 w1, (W.alloc (.cells #[.int .i64 x.k, .int .i64 x.w, .int .i64 x.st, .int .i64 x.sh, .bool x.fill, .int .i64 x.c, .bool x.flag, .int .i64 (a : Nat), .int .i64 (A : Nat)] 80)).drew.grownBy w1 (Value.slice ao n cap).ownBlock → w1.ownsRow w0.w.heap.size 80 9 v1 (n + 1) (ics L ++ [.int .i64 x.k, .int .i64 x.w, .int .i64 x.st, .int .i64 x.sh, .bool x.fill, .int .i64 x.c, .bool x.flag, .int .i64 (a : Nat), .int .i64 (A : Nat)]) →
      (w1.cell? ⟨bb, 1, none⟩ = some (.slice ao n cap) ∧ w1.cell? ⟨bb, 2, none⟩ = some (.int .i64 (a : Nat)) ∧ w1.frozen? ⟨bb, 1, none⟩ = false ∧ w1.frozen? ⟨bb, 2, none⟩ = false ∧ (w1.cell? ⟨w.heap.size, 0, none⟩ = some (.int .i64 x.k) ∧ w1.cell? ⟨w.heap.size, 1, none⟩ = some (.int .i64 x.w) ∧ w1.cell? ⟨w.heap.size, 2, none⟩ = some (.int .i64 x.st) ∧ w1.cell? ⟨w.heap.size, 3, none⟩ = some (.int .i64 x.sh) ∧ w1.cell? ⟨w.heap.size, 4, none⟩ = some (.bool x.fill) ∧ w1.cell? ⟨w.heap.size, 5, none⟩ = some (.int .i64 x.c) ∧ w1.cell? ⟨w.heap.size, 6, none⟩ = some (.bool x.flag) ∧ w1.cell? ⟨w.heap.size, 7, none⟩ = some (.int .i64 (a : Nat)) ∧ w1.cell? ⟨w.heap.size, 8, none⟩ = some (.int .i64 (A : Nat))) ∧ ((w1.setCell ⟨bb, 1, none⟩ v1).cell? ⟨w.heap.size, 0, none⟩ = some (.int .i64 x.k) ∧ (w1.setCell ⟨bb, 1, none⟩ v1).cell? ⟨w.heap.size, 1, none⟩ = some (.int .i64 x.w) ∧ (w1.setCell ⟨bb, 1, none⟩ v1).cell? ⟨w.heap.size, 2, none⟩ = some (.int .i64 x.st) ∧ (w1.setCell ⟨bb, 1, none⟩ v1).cell? ⟨w.heap.size, 3, none⟩ = some (.int .i64 x.sh) ∧ (w1.setCell ⟨bb, 1, none⟩ v1).cell? ⟨w.heap.size, 4, none⟩ = some (.bool x.fill) ∧ (w1.setCell ⟨bb, 1, none⟩ v1).cell? ⟨w.heap.size, 5, none⟩ = some (.int .i64 x.c) ∧ (w1.setCell ⟨bb, 1, none⟩ v1).cell? ⟨w.heap.size, 6, none⟩ = some (.bool x.flag) ∧ (w1.setCell ⟨bb, 1, none⟩ v1).cell? ⟨w.heap.size, 7, none⟩ = some (.int .i64 (a : Nat)) ∧ (w1.setCell ⟨bb, 1, none⟩ v1).cell? ⟨w.heap.size, 8, none⟩ = some (.int .i64 (A : Nat)))) ∧
      BS w0 tb bb ((w1.setCell ⟨bb, 1, none⟩ v1).setCell ⟨bb, 2, none⟩ (.int .i64 (A : Nat))) (L ++ [{ x with fr := (a : Nat), to := (A : Nat) }]) A sy) := boxed (by
    intro v1 w1 hg ho
    have hb1 : w1.heap[bb]? = some (.cells #[.pointer (some ⟨tb, 0, none⟩), .slice ao n cap, .int .i64 (a : Nat), .int .i64 sy] 153 (0, 0)) := by
      rw [hg.block bb (by simp [World.drew]; omega) hne0.symm]
      show (W.alloc _).heap[bb]? = _
      rw [heap_alloc_old _ _ (by omega)]
      exact hWblk
    have hx1 : w1.heap[w.heap.size]? = some (.cells #[.int .i64 x.k, .int .i64 x.w, .int .i64 x.st, .int .i64 x.sh, .bool x.fill, .int .i64 x.c, .bool x.flag, .int .i64 (a : Nat), .int .i64 (A : Nat)] 80 (0, 0)) := by
      rw [hg.block w.heap.size (by simp [World.drew]; omega) (fun e => by have := (HO.out.lt w.heap.size e.symm).2; omega)]
      show (W.alloc _).heap[w.heap.size]? = _
      rw [heap_alloc_old _ _ (by omega)]
      exact hWx
    have hne1 := own_ne ho hb1 (by decide)
    have hx2 : (w1.setCell ⟨bb, 1, none⟩ v1).heap[w.heap.size]? = some (.cells #[.int .i64 x.k, .int .i64 x.w, .int .i64 x.st, .int .i64 x.sh, .bool x.fill, .int .i64 x.c, .bool x.flag, .int .i64 (a : Nat), .int .i64 (A : Nat)] 80 (0, 0)) := by rw [set_far q3]; exact hx1
    refine ⟨⟨row_cell hb1 1, row_cell hb1 2, row_free hb1 1, row_free hb1 2, ⟨row_cell hx1 0, row_cell hx1 1, row_cell hx1 2, row_cell hx1 3, row_cell hx1 4, row_cell hx1 5, row_cell hx1 6, row_cell hx1 7, row_cell hx1 8⟩, ⟨row_cell hx2 0, row_cell hx2 1, row_cell hx2 2, row_cell hx2 3, row_cell hx2 4, row_cell hx2 5, row_cell hx2 6, row_cell hx2 7, row_cell hx2 8⟩⟩, ⟨hlo, ?_, ?_⟩, v1, ?_, ?_⟩
    · have hW0 : Below w0.w.heap.size w0.w W := HB.out.trans (hWb.mono HB.out.size)
      have h1 : Below w0.w.heap.size w0.w w1 := ((hW0.alloc hW0.size _).drew).grown hg (by simp [World.drew]; have := hW0.size; omega) (fun r hr => (HO.out.lt r hr).1)
      exact (h1.grown (grown_set w1 bb 1 v1) h1.size (fun r hr => by injection hr with hr; omega)).grown (grown_set _ bb 2 _) (by have := h1.size; simp; omega) (fun r hr => by injection hr with hr; omega)
    · have k1 : w0.kr W := HKR.out.below hWb
      have hbW := (((Below.refl W.heap.size W).alloc (Nat.le_refl _) (.cells #[.int .i64 x.k, .int .i64 x.w, .int .i64 x.st, .int .i64 x.sh, .bool x.fill, .int .i64 x.c, .bool x.flag, .int .i64 (a : Nat), .int .i64 (A : Nat)] 80)).drew)
      have k2 := (k1.below hbW).own (owns_below hWown hbW) hg
      exact (k2.set hb1).set (set_heap4 (i := 1) (v := v1) hb1)
    · have := set_heap4 (i := 2) (v := .int .i64 (A : Nat)) (set_heap4 (i := 1) (v := v1) hb1)
      exact this
    · rw [List.length_append, ics_app, ics_one, hn]
      exact ((ho.kept (grown_set w1 bb 1 v1) (Or.inr hne1)).kept (grown_set _ bb 2 _) (Or.inr hne1)))
  have HNw : Box (∀ j u, ([.int .i64 x.k, .int .i64 x.w, .int .i64 x.st, .int .i64 x.sh, .bool x.fill, .int .i64 x.c, .bool x.flag, .int .i64 (a : Nat), .int .i64 (A : Nat)] : List Value)[j]? = some u → (W.alloc (.cells #[.int .i64 x.k, .int .i64 x.w, .int .i64 x.st, .int .i64 x.sh, .bool x.fill, .int .i64 x.c, .bool x.flag, .int .i64 (a : Nat), .int .i64 (A : Nat)] 80)).drew.cell? ((⟨w.heap.size + 1, 0, none⟩ : Addr).add j) = some u) := boxed (by
    intro j u hj
    rw [Addr.add_lit, Nat.zero_add, ← hWz, World.cell?_drew, cell_first]
    simpa using hj)
  have H1c : Box (∀ u ∈ ([.int .i64 x.k, .int .i64 x.w, .int .i64 x.st, .int .i64 x.sh, .bool x.fill, .int .i64 x.c, .bool x.flag, .int .i64 (a : Nat), .int .i64 (A : Nat)] : List Value), u.oneCell' = true) := boxed (by
    intro u hu
    simp at hu
    rcases hu with rfl | rfl | rfl | rfl | rfl | rfl | rfl | rfl | rfl <;> rfl)
  have hb0 : w0.w.heap.size ≤ (W.alloc (.cells #[.int .i64 x.k, .int .i64 x.w, .int .i64 x.st, .int .i64 x.sh, .bool x.fill, .int .i64 x.c, .bool x.flag, .int .i64 (a : Nat), .int .i64 (A : Nat)] 80)).drew.heap.size := by have := HB.out.size; simp; omega
  clear e1 e2 y1 y2 g0
  have HS : Box (∀ W', Below W.heap.size W W' → (W'.cell? ⟨w.heap.size, 0, none⟩ = some (.int .i64 x.k) ∧ W'.cell? ⟨w.heap.size, 1, none⟩ = some (.int .i64 x.w) ∧ W'.cell? ⟨w.heap.size, 2, none⟩ = some (.int .i64 x.st) ∧ W'.cell? ⟨w.heap.size, 3, none⟩ = some (.int .i64 x.sh) ∧ W'.cell? ⟨w.heap.size, 4, none⟩ = some (.bool x.fill) ∧ W'.cell? ⟨w.heap.size, 5, none⟩ = some (.int .i64 x.c) ∧ W'.cell? ⟨w.heap.size, 6, none⟩ = some (.bool x.flag) ∧ W'.cell? ⟨w.heap.size, 7, none⟩ = some (.int .i64 (a : Nat)) ∧ W'.cell? ⟨w.heap.size, 8, none⟩ = some (.int .i64 (A : Nat)))) := boxed (fun W' hb => ⟨hold hb x0, hold hb x1, hold hb x2, hold hb x3, hold hb x4, hold hb x5, hold hb x6, hold hb x7, hold hb x8⟩)
  have HD0 : Box (Below W.heap.size W W.drew) := boxed (Below.refl _ _).drew
  have HDa : Box (Below W.heap.size W (W.alloc (.cells #[.int .i64 x.k, .int .i64 x.w, .int .i64 x.st, .int .i64 x.sh, .bool x.fill, .int .i64 x.c, .bool x.flag, .int .i64 (a : Nat), .int .i64 (A : Nat)] 80)).drew) := boxed (((Below.refl _ _).alloc (Nat.le_refl _) _).drew)
  have HOa := boxed (owns_below hWown HDa.out)
  clear hWown
  go_region_law
    (first | (refine step_append_own rfl _ _ 39 rfl w0.w.heap.size 80 i0 _ 9 72 Tryz.underlying39 hi hz0 hz1 hz2 rfl (by decide) _ _ _ rfl HOa.out ⟨w.heap.size + 1, 0, none⟩ 1 1 [.int .i64 x.k, .int .i64 x.w, .int .i64 x.st, .int .i64 x.sh, .bool x.fill, .int .i64 x.c, .bool x.flag, .int .i64 (a : Nat), .int .i64 (A : Nat)] rfl rfl HNw.out H1c.out (by unfold maxLen; omega) (by omega) hb0 ?_; intro v1 w1 hown1 hg1; obtain ⟨a1, c1, rfl⟩ := own_shape hown1; obtain ⟨⟨k1', k2, z1, z2, hs1, hs2⟩, hBS⟩ := HX.out _ w1 hg1 hown1; have HBS := boxed hBS; have x8w := hs1.2.2.2.2.2.2.2.2; clear hown1 hg1 hBS hs1 hs2))
  all_goals
    go_wp2
    refine bodyPost_end (results_none rfl _ _ _) rfl ?_
    exact ⟨rfl, HBS.out⟩
end Go.Proofs.YtcjcdpfjnomehaaGreat.It

/-
  What the program's box and end do.
-/
namespace Go.Proofs.YtcjcdpfjnomehaaGreat.It
open Go.RowKit
set_option linter.unusedSimpArgs false
set_option linter.unusedVariables false
theorem BS.alike {w0 : Bse} {tb bb : Nat} {w w' : World} {L : List Itm} {a : Nat} {sy : Int} (h : BS w0 tb bb w L a sy) (h1 : w'.heap = w.heap) (h2 : w'.os = w.os) (h3 : w'.tape = w.tape) (h4 : w'.output = w.output) : BS w0 tb bb w' L a sy := by
  obtain ⟨⟨b1, b2, b3⟩, v, hblk, hown⟩ := h
  refine ⟨⟨b1, ⟨h2.trans b2.os, h3.trans b2.tape, h4.trans b2.output, by rw [h1]; exact b2.size, fun k hk => by rw [h1]; exact b2.block k hk⟩, fun p hp => by rw [h1]; exact b3 p hp⟩, v, by rw [h1]; exact hblk, ?_⟩
  have hg : w.grownBy w' none := ⟨h2, h3, h4, by rw [h1]; exact Nat.le_refl _, fun k hk _ => by rw [h1]⟩
  exact hown.kept hg (by cases hv : v.ownBlock <;> simp)
theorem BS.len {w0 : Bse} {tb bb : Nat} {w : World} {L : List Itm} {a : Nat} {sy : Int} (h : BS w0 tb bb w L a sy) : bb < w.heap.size := by
  obtain ⟨_, v, hblk, _⟩ := h
  by_cases c : bb < w.heap.size
  · exact c
  · rw [Array.getElem?_eq_none (by omega)] at hblk; cases hblk
theorem add_bx {w0 : Bse} {tb bb : Nat} {w : World} {L : List Itm} {a : Nat} {sy : Int} (h : BS w0 tb bb w L a sy) (x : Itm) (size : Nat) (ha : a ≤ 1048576) (hsz : size ≤ 1048576) (hL : L.length ≤ 1048576) (y : Itm) (A : Nat) (hA : a + size = A)
    (hy : { x with fr := (a : Nat), to := (A : Nat) } = y) (v : Value) (hv : x.val = v) :
    Calls Tryz.prog 133 #[.pointer (some ⟨bb, 0, none⟩), v, .int .i64 (size : Nat)] w fun e w' => e = .returned (.tuple #[]) ∧ BS w0 tb bb w' (L ++ [y]) A sy := by
  subst hA; subst hy; subst hv
  exact add7_any h x size ha hsz hL
set_option maxRecDepth 100000 in
set_option maxHeartbeats 2000000 in
theorem end7_any {w0 : Bse} {tb bb : Nat} {w : World} {L : List Itm} {a : Nat} {sy : Int} (h : BS w0 tb bb w L a sy) (size : Nat) (ha : a ≤ 1048576) (hsz : size ≤ 1048576) (hL : L.length ≤ 1048575) :
    Calls Tryz.prog 91 #[.pointer (some ⟨bb, 0, none⟩), .int .i64 (size : Nat)] w fun e w' => e = .returned (.tuple #[]) ∧ BS w0 tb bb w' (L ++ [flI (a : Nat), pnI 0 (-10000) false (a : Nat) (a + size : Nat)]) (a + size) sy := by
  have h1 := add_bx h ⟨2, 0, 0, 0, true, 0, false, 0, 0⟩ 0 ha (by omega) (by omega) (flI (a : Nat)) a (by omega) rfl _ rfl
  have h2 := fun w' (hb : BS w0 tb bb w' (L ++ [flI (a : Nat)]) a sy) => add_bx hb ⟨3, 0, 0, 0, false, -10000, false, 0, 0⟩ size ha hsz (by simp; omega) (pnI 0 (-10000) false (a : Nat) (a + size : Nat)) (a + size) rfl rfl _ rfl
  simp only [Itm.val] at h1 h2
  clear h
  go_enter Tryz.func91, Tryz.ntmps91
  go_wp2_with fail
  refine h1.mono ?_
  rintro e w1 ⟨rfl, hb1⟩
  have HB1 := boxed hb1
  clear hb1 h1
  go_wp2_with fail
  refine (h2 _ HB1.out).mono ?_
  rintro e w2 ⟨rfl, hb2⟩
  have HB2 := boxed hb2
  clear hb2 h2
  go_wp2
  refine bodyPost_end (results_none rfl _ _ _) rfl ?_
  exact ⟨rfl, by have := HB2.out; rw [List.append_assoc] at this; exact this⟩
set_option maxRecDepth 100000 in
set_option maxHeartbeats 2000000 in
theorem box_new {w0 : Bse} {tb bb : Nat} {w : World} {L : List Itm} {a : Nat} {sy : Int} (h : BS w0 tb bb w L a sy) (W : Int) (size : Nat) (y : Int) (ha : a ≤ 1048576) (hsz : size ≤ 1048576) (hL : L.length ≤ 1048575) (hno : ¬ (lbox L = true ∧ sy = y)) :
    Calls Tryz.prog 135 #[.pointer (some ⟨bb, 0, none⟩), .int .i64 W, .int .i64 (size : Nat), .int .i64 y] w fun e w' => e = .returned (.tuple #[]) ∧ BS w0 tb bb w' (L ++ [bxI W (a : Nat) (a + size : Nat)]) (a + size) y := by
  have h1 := add_bx h ⟨1, W, 0, 0, false, 0, false, 0, 0⟩ size ha (by omega) (by omega) (bxI W (a : Nat) (a + size : Nat)) (a + size) rfl rfl _ rfl
  simp only [Itm.val] at h1
  have hS : Box (∀ w' L' a', BS w0 tb bb w' L' a' sy → (∃ u, w'.cell? ⟨bb, 3, none⟩ = some u) ∧ w'.frozen? ⟨bb, 3, none⟩ = false ∧ BS w0 tb bb (w'.setCell ⟨bb, 3, none⟩ (.int .i64 y)) L' a' y) := boxed (by
    rintro w' L' a' ⟨⟨b1, b2, b3⟩, v, hblk, hown⟩
    refine ⟨⟨_, row_cell hblk 3⟩, row_free hblk 3, ⟨b1, ?_, b3.set hblk⟩, v, set_heap4 (i := 3) (v := .int .i64 y) hblk, ?_⟩
    · exact b2.grown (grown_set w' bb 3 _) b2.size (fun r hr => by injection hr with hr; omega)
    · exact hown.kept (grown_set w' bb 3 _) (Or.inr (own_ne hown hblk (by decide))))
  obtain ⟨-, v, hblk, hown⟩ := h
  obtain ⟨ao, cap, rfl⟩ := own_shape hown
  have e1 : w.cell? ⟨bb, 1, none⟩ = some (.slice ao L.length cap) := row_cell hblk 1
  have e3 : w.cell? ⟨bb, 3, none⟩ = some (.int .i64 sy) := row_cell hblk 3
  by_cases hz : L.length = 0
  · rw [hz] at e1
    clear hblk hown
    go_enter Tryz.func135, Tryz.ntmps135
    go_wp2_with fail
    refine h1.mono ?_
    rintro e w1 ⟨rfl, hb1⟩
    obtain ⟨⟨u, k3⟩, z3, hf⟩ := hS.out _ _ _ hb1
    have HF := boxed hf
    clear hb1 h1 hf e1 e3
    go_wp2
    refine bodyPost_end (results_none rfl _ _ _) rfl ?_
    exact ⟨rfl, HF.out⟩
  · obtain ⟨m, hm⟩ : ∃ m, L.length - 1 = m := ⟨_, rfl⟩
    obtain ⟨A, x, hLx⟩ := snoc_of L (by omega)
    have hAm : A.length = m := by rw [hLx] at hm; simpa using hm
    have hlb : lbox L = (x.k == 1) := by rw [hLx, lbox_snoc]
    rcases ownsRow_forms hown with ⟨_, h2⟩ | ⟨g, cap', e⟩
    · exact absurd h2 hz
    injection e with ea e2 e3'
    subst ea; subst e3'
    have ck : w.cell? ⟨g, m * 9, none⟩ = some (.int .i64 x.k) := by
      have := hown.cellAt (m * 9 + 0) (by omega)
      rw [ics_get L m 0 (by omega) (by omega)] at this
      have hx : L.getD m Itm.zero = x := by rw [hLx, ← hAm]; simp
      rw [hx] at this
      exact this
    obtain ⟨n, hn⟩ : ∃ n, L.length = n := ⟨_, rfl⟩
    rw [hn] at e1 hL hz hm
    have e6 : (n : Int) - 1 = (m : Nat) := by omega
    have hm1 : m < n := by omega
    have hm2 : (m : Int) < (n : Int) := by omega
    have hm0 : (0 : Int) ≤ (m : Nat) := by omega
    have t0 : decide ((0 : Int) ≤ (m : Nat)) = true := decide_eq_true hm0
    have hno' : ¬ ((x.k == 1) = true ∧ sy = y) := by rw [← hlb]; exact hno
    clear hblk hown hno hlb hm hz hLx hAm
    cases hk : (x.k == 1)
    · clear hno'
      go_enter Tryz.func135, Tryz.ntmps135
      go_wp2_with fail
      refine h1.mono ?_
      rintro e w1 ⟨rfl, hb1⟩
      obtain ⟨⟨u, k3⟩, z3, hf⟩ := hS.out _ _ _ hb1
      have HF := boxed hf
      clear hb1 h1 hf e1 e3 ck
      go_wp2
      refine bodyPost_end (results_none rfl _ _ _) rfl ?_
      exact ⟨rfl, HF.out⟩
    · have hy : (sy == y) = false := by rw [beq_eq_false_iff_ne]; intro c; exact hno' ⟨hk, c⟩
      clear hno'
      go_enter Tryz.func135, Tryz.ntmps135
      go_wp2_with fail
      refine h1.mono ?_
      rintro e w1 ⟨rfl, hb1⟩
      obtain ⟨⟨u, k3⟩, z3, hf⟩ := hS.out _ _ _ hb1
      have HF := boxed hf
      clear hb1 h1 hf e1 e3 ck
      go_wp2
      refine bodyPost_end (results_none rfl _ _ _) rfl ?_
      exact ⟨rfl, HF.out⟩
theorem ics_grow (A : List Itm) (x : Itm) (W t : Int) : ((ics (A ++ [x])).set (A.length * 9 + 1) (.int .i64 (ad x.w W))).set (A.length * 9 + 8) (.int .i64 t) = ics (grow (A ++ [x]) W t) := by
  rw [grow_snoc, ics_app, ics_app, ics_one, ics_one]
  have hl := ics_len A
  rw [List.set_append_right _ _ (by omega), List.set_append_right _ _ (by omega), hl]
  rw [show A.length * 9 + 1 - A.length * 9 = 1 by omega, show A.length * 9 + 8 - A.length * 9 = 8 by omega]
  rfl
set_option maxRecDepth 100000 in
set_option maxHeartbeats 2000000 in
theorem box_grow {w0 : Bse} {tb bb : Nat} {w : World} {A : List Itm} {x : Itm} {a : Nat} {sy : Int} (h : BS w0 tb bb w (A ++ [x]) a sy) (W : Int) (size : Nat) (ha : a ≤ 1048576) (hsz : size ≤ 1048576) (hL : A.length ≤ 1048575) (hx1 : x.k = 1) :
    Calls Tryz.prog 135 #[.pointer (some ⟨bb, 0, none⟩), .int .i64 W, .int .i64 (size : Nat), .int .i64 sy] w fun e w' => e = .returned (.tuple #[]) ∧ BS w0 tb bb w' (grow (A ++ [x]) W (a + size : Nat)) (a + size) sy := by
  have hlt := h.len
  obtain ⟨⟨hlo, hbel, hkr⟩, v, hblk, hown⟩ := h
  obtain ⟨m, hm⟩ : ∃ m, A.length = m := ⟨_, rfl⟩
  have hlen : (A ++ [x]).length = m + 1 := by simp [hm]
  rw [hlen] at hown
  rcases ownsRow_forms hown with ⟨_, h2⟩ | ⟨g, cap, e⟩
  · omega
  subst e
  have e1 : w.cell? ⟨bb, 1, none⟩ = some (.slice (some ⟨g, 0, none⟩) (m + 1) cap) := row_cell hblk 1
  have e2 : w.cell? ⟨bb, 2, none⟩ = some (.int .i64 (a : Nat)) := row_cell hblk 2
  have e3 : w.cell? ⟨bb, 3, none⟩ = some (.int .i64 sy) := row_cell hblk 3
  have z2 : w.frozen? ⟨bb, 2, none⟩ = false := row_free hblk 2
  have hne := own_ne hown hblk (by decide)
  have hgb : g ≠ bb := fun c => hne (by rw [c]; rfl)
  have hgb' : bb ≠ g := fun c => hgb c.symm
  have key : ∀ j, j < 9 → w.cell? ⟨g, m * 9 + j, none⟩ = (x.cells)[j]? := by
    intro j hj
    have := hown.cellAt (m * 9 + j) (by omega)
    rw [ics_get (A ++ [x]) m j (by omega) hj] at this
    have hx : (A ++ [x]).getD m Itm.zero = x := by rw [← hm]; simp
    rw [hx] at this
    exact this
  have c0 : w.cell? ⟨g, m * 9, none⟩ = some (.int .i64 1) := by have := key 0 (by omega); rw [← hx1]; exact this
  have c1 : w.cell? ⟨g, m * 9 + 1, none⟩ = some (.int .i64 x.w) := key 1 (by omega)
  have c8 : w.cell? ⟨g, m * 9 + 8, none⟩ = some (.int .i64 x.to) := key 8 (by omega)
  have y1 := hown.frozenAt (m * 9 + 1)
  have y8 := hown.frozenAt (m * 9 + 8)
  obtain ⟨n, hn⟩ : ∃ n, m + 1 = n := ⟨_, rfl⟩
  rw [hn] at e1
  have e6 : (n : Int) - 1 = (m : Nat) := by omega
  have hm1 : m < n := by omega
  have hm2 : (m : Int) < (n : Int) := by omega
  have hm0 : (0 : Int) ≤ (m : Nat) := by omega
  have t0 : decide ((0 : Int) ≤ (m : Nat)) = true := decide_eq_true hm0
  obtain ⟨T, hT⟩ : ∃ T, a + size = T := ⟨_, rfl⟩
  have hT2 : (a : Int) + (size : Int) = (T : Nat) := by omega
  have hT3 : T ≤ 2097152 := by omega
  rw [hT]
  have HF : Box (BS w0 tb bb (((w.setCell ⟨bb, 2, none⟩ (.int .i64 (T : Nat))).setCell ⟨g, m * 9 + 1, none⟩ (.int .i64 (ad x.w W))).setCell ⟨g, m * 9 + 8, none⟩ (.int .i64 (T : Nat))) (grow (A ++ [x]) W (T : Nat)) T sy) := boxed (by
    refine ⟨⟨hlo, ?_, ?_⟩, .slice (some ⟨g, 0, none⟩) (m + 1) cap, ?_, ?_⟩
    · have hg0 := (hown.lt g rfl).1
      have b1 := hbel.grown (grown_set w bb 2 (.int .i64 (T : Nat))) hbel.size (fun r hr => by injection hr with hr; omega)
      have b2 := b1.grown (grown_set _ g (m * 9 + 1) (.int .i64 (ad x.w W))) b1.size (fun r hr => by injection hr with hr; omega)
      exact b2.grown (grown_set _ g (m * 9 + 8) (.int .i64 (T : Nat))) b2.size (fun r hr => by injection hr with hr; omega)
    · have o1 := hown.kept (grown_set w bb 2 (.int .i64 (T : Nat))) (Or.inr hne)
      have o2 := (o1.stored (m * 9 + 1) (.int .i64 (ad x.w W))).1
      have k1 : w0.kr (w.setCell ⟨bb, 2, none⟩ (.int .i64 (T : Nat))) := hkr.set hblk
      exact (k1.own o1 (grown_set _ g (m * 9 + 1) _)).own o2 (grown_set _ g (m * 9 + 8) _)
    · rw [set_far hgb', set_far hgb']
      exact set_heap4 (i := 2) (v := .int .i64 (T : Nat)) hblk
    · have o1 := hown.kept (grown_set w bb 2 (.int .i64 (T : Nat))) (Or.inr hne)
      have o2 := (o1.stored (m * 9 + 1) (.int .i64 (ad x.w W))).1
      have o3 := (o2.stored (m * 9 + 8) (.int .i64 (T : Nat))).1
      have e := ics_grow A x W (T : Nat)
      rw [hm] at e
      rw [e] at o3
      rw [grow_len, hlen]
      exact o3)
  have hadd := fun w => add_any x.w W w
  clear hblk hown key hn hbel hT hkr
  go_enter Tryz.func135, Tryz.ntmps135
  go_wp2_with fail
  go_region_with (first | (go_at_call 170; refine (hadd _).mono ?_; rintro e w5 ⟨rfl, hw5⟩; subst w5))
  all_goals
    go_wp2_with fail
    go_region
    all_goals
      go_wp2
      refine bodyPost_ret (results_none rfl _ _ _) rfl ?_
      exact ⟨rfl, HF.out.alike rfl rfl rfl rfl⟩
end Go.Proofs.YtcjcdpfjnomehaaGreat.It

/-
  What the program's take does: the next rune is made what it is to a line.
-/
namespace Go.Proofs.YtcjcdpfjnomehaaGreat.It
open Go.RowKit
set_option linter.unusedSimpArgs false
set_option linter.unusedVariables false
theorem box_any {w0 : Bse} {tb bb : Nat} {w : World} {L : List Itm} {a : Nat} {sy : Int} (h : BS w0 tb bb w L a sy) (W : Int) (size : Nat) (y : Int) (ha : a ≤ 1048576) (hsz : size ≤ 1048576) (hL : L.length ≤ 1048575) :
    Calls Tryz.prog 135 #[.pointer (some ⟨bb, 0, none⟩), .int .i64 W, .int .i64 (size : Nat), .int .i64 y] w fun e w' => e = .returned (.tuple #[]) ∧ BS w0 tb bb w' (bxd L sy W y (a : Nat) (a + size : Nat)) (a + size) y := by
  unfold bxd
  by_cases c : lbox L = true ∧ sy = y
  · rw [if_pos c]
    obtain ⟨A, x, rfl, hx⟩ := lbox_pos L c.1
    obtain ⟨-, rfl⟩ := c
    exact box_grow h W size ha hsz (by simp at hL; omega) hx
  · rw [if_neg c]
    exact box_new h W size y ha hsz hL c
theorem BS.tab {w0 : Bse} {tb bb : Nat} {w : World} {L : List Itm} {a : Nat} {sy : Int} (h : BS w0 tb bb w L a sy) : w.cell? ⟨bb, 0, none⟩ = some (.pointer (some ⟨tb, 0, none⟩)) := by
  obtain ⟨_, v, hblk, _⟩ := h
  exact row_cell hblk 0
theorem BS.bel {w0 : Bse} {tb bb : Nat} {w : World} {L : List Itm} {a : Nat} {sy : Int} (h : BS w0 tb bb w L a sy) : Below w0.w.heap.size w0.w w := h.1.2.1
theorem BS.below {w0 : Bse} {tb bb : Nat} {w w' : World} {L : List Itm} {a : Nat} {sy : Int} (h : BS w0 tb bb w L a sy) (hb : Below w.heap.size w w') : BS w0 tb bb w' L a sy := by
  have hl := h.len
  obtain ⟨⟨b1, b2, b3⟩, v, hblk, hown⟩ := h
  exact ⟨⟨b1, b2.trans (hb.mono b2.size), b3.below hb⟩, v, by rw [hb.block bb hl]; exact hblk, owns_below hown hb⟩
set_option maxRecDepth 100000 in
set_option maxHeartbeats 4000000 in
theorem take_any {B : Nat} {w0 : Bse} {tb bb n : Nat} {G : Nat → Sty} (hT : TabAt B w0.w tb n G) (hg : ∀ i, i < n → flt (G i) = 0) {w : World} {L : List Itm} {a : Nat} {sy : Int} (h : BS w0 tb bb w L a sy) (r : Nat) (size : Nat) (y : Int) (hr : r ≤ 1114111) (ha : a ≤ 1048576) (hsz : size ≤ 1048576) (ha2 : a + size ≤ 1048576) (hL : L.length ≤ 1048570) :
    Calls Tryz.prog 90 #[.pointer (some ⟨bb, 0, none⟩), .int .i32 (r : Nat), .int .i64 (size : Nat), .int .i64 y] w fun e w' => e = .returned (.tuple #[]) ∧ BS w0 tb bb w' (nx (ofS G n y) L sy (r : Nat) y (a : Nat) (a + size : Nat)).1 (a + size) (nx (ofS G n y) L sy (r : Nat) y (a : Nat) (a + size : Nat)).2 := by
  have hkd := fun w => kind_any (r : Int) w
  have htb := h.tab
  have HTW := boxed (fun w' (hb : Below w0.w.heap.size w0.w w') => twidth_any (hT.below hb) hg y (r : Int) (by omega))
  have HSP := boxed (fun w' (hb : Below w0.w.heap.size w0.w w') => space_any (hT.below hb) y)
  have HHY := boxed (fun w' (hb : Below w0.w.heap.size w0.w w') => hyphen_any (hT.below hb) y)
  have H := boxed h
  have h9 := kd_nine (r : Int)
  have HNX : Box (nx (ofS G n y) L sy (r : Nat) y (a : Nat) (a + size : Nat) = if kd r = 1 then (L ++ [glI (ofS G n y).sp (ofS G n y).st (ofS G n y).sh (a : Nat) (a + size : Nat)], sy)
      else if kd r = 3 then (L ++ [pnI (ofS G n y).hy 50 true (a : Nat) (a + size : Nat)], sy)
      else if kd r = 4 then (L ++ [pnI 0 0 false (a : Nat) (a + size : Nat)], sy)
      else if kd r = 5 then (L ++ [pnI 0 10000 false (a : Nat) (a + size : Nat)], sy)
      else if kd r = 7 ∨ kd r = 8 then (L ++ [flI (a : Nat), pnI 0 (-10000) false (a : Nat) (a + size : Nat)], sy)
      else if kd r = 6 then (bxd L sy (wdS (ofS G n y) r) y (a : Nat) (a + size : Nat) ++ [pnI 0 50 true (a + size : Nat) (a + size : Nat)], y)
      else (bxd L sy (wdS (ofS G n y) r) y (a : Nat) (a + size : Nat), y)) := boxed rfl
  generalize nx (ofS G n y) L sy (r : Nat) y (a : Nat) (a + size : Nat) = NX at *
  generalize wdS (ofS G n y) (r : Int) = WD at *
  generalize ofS G n y = s at *
  generalize kd (r : Int) = K at *
  clear h hT hg
  rcases h9 with e | e | e | e | e | e | e | e | e
  · subst e
    have HV : Box (NX = (L ++ [glI s.sp s.st s.sh (a : Nat) (a + size : Nat)], sy)) := boxed (by rw [HNX.out]; rfl)
    have HAD := boxed (fun w' (hb : BS w0 tb bb w' L a sy) => add_bx hb ⟨2, s.sp, s.st, s.sh, false, 0, false, 0, 0⟩ size ha hsz (by omega) (glI s.sp s.st s.sh (a : Nat) (a + size : Nat)) (a + size) rfl rfl _ rfl)
    simp only [Itm.val] at HAD
    clear HNX
    go_enter Tryz.func90, Tryz.ntmps90
    go_wp2_with fail
    refine (hkd _).mono ?_
    rintro e w' ⟨rfl, hw'⟩; subst w'
    go_wp2_with fail
    refine (HSP.out _ H.out.bel).mono ?_
    rintro e w1 ⟨rfl, hb1⟩
    have H1 := boxed (H.out.below hb1)
    clear hb1 htb
    go_wp2_with fail
    refine (HAD.out _ H1.out).mono ?_
    rintro e w2 ⟨rfl, hb2⟩
    have H2 := boxed hb2
    clear hb2
    go_wp2
    refine bodyPost_end (results_none rfl _ _ _) rfl ?_
    exact ⟨rfl, by rw [HV.out]; exact H2.out⟩
  · subst e
    have HV : Box (NX = (bxd L sy WD y (a : Nat) (a + size : Nat), y)) := boxed (by rw [HNX.out]; rfl)
    have HBX := boxed (fun w' (hb : BS w0 tb bb w' L a sy) => box_any hb WD size y ha hsz (by omega))
    clear HNX
    go_enter Tryz.func90, Tryz.ntmps90
    go_wp2_with fail
    refine (hkd _).mono ?_
    rintro e w' ⟨rfl, hw'⟩; subst w'
    go_wp2_with fail
    refine (HTW.out _ H.out.bel).mono ?_
    rintro e w1 ⟨rfl, hb1⟩
    have H1 := boxed (H.out.below hb1)
    clear hb1 htb
    go_wp2_with fail
    refine (HBX.out _ H1.out).mono ?_
    rintro e w2 ⟨rfl, hb2⟩
    have H2 := boxed hb2
    clear hb2
    go_wp2
    refine bodyPost_end (results_none rfl _ _ _) rfl ?_
    exact ⟨rfl, by rw [HV.out]; exact H2.out⟩
  · subst e
    have HV : Box (NX = (L ++ [pnI s.hy 50 true (a : Nat) (a + size : Nat)], sy)) := boxed (by rw [HNX.out]; rfl)
    have HAD := boxed (fun w' (hb : BS w0 tb bb w' L a sy) => add_bx hb ⟨3, s.hy, 0, 0, false, 50, true, 0, 0⟩ size ha hsz (by omega) (pnI s.hy 50 true (a : Nat) (a + size : Nat)) (a + size) rfl rfl _ rfl)
    simp only [Itm.val] at HAD
    clear HNX
    go_enter Tryz.func90, Tryz.ntmps90
    go_wp2_with fail
    refine (hkd _).mono ?_
    rintro e w' ⟨rfl, hw'⟩; subst w'
    go_wp2_with fail
    refine (HHY.out _ H.out.bel).mono ?_
    rintro e w1 ⟨rfl, hb1⟩
    have H1 := boxed (H.out.below hb1)
    clear hb1 htb
    go_wp2_with fail
    refine (HAD.out _ H1.out).mono ?_
    rintro e w2 ⟨rfl, hb2⟩
    have H2 := boxed hb2
    clear hb2
    go_wp2
    refine bodyPost_end (results_none rfl _ _ _) rfl ?_
    exact ⟨rfl, by rw [HV.out]; exact H2.out⟩
  · subst e
    have HV : Box (NX = (L ++ [pnI 0 0 false (a : Nat) (a + size : Nat)], sy)) := boxed (by rw [HNX.out]; rfl)
    have HAD := boxed (fun w' (hb : BS w0 tb bb w' L a sy) => add_bx hb ⟨3, 0, 0, 0, false, 0, false, 0, 0⟩ size ha hsz (by omega) (pnI 0 0 false (a : Nat) (a + size : Nat)) (a + size) rfl rfl _ rfl)
    simp only [Itm.val] at HAD
    clear HNX
    go_enter Tryz.func90, Tryz.ntmps90
    go_wp2_with fail
    refine (hkd _).mono ?_
    rintro e w' ⟨rfl, hw'⟩; subst w'
    clear htb
    go_wp2_with fail
    refine (HAD.out _ H.out).mono ?_
    rintro e w2 ⟨rfl, hb2⟩
    have H2 := boxed hb2
    clear hb2
    go_wp2
    refine bodyPost_end (results_none rfl _ _ _) rfl ?_
    exact ⟨rfl, by rw [HV.out]; exact H2.out⟩
  · subst e
    have HV : Box (NX = (L ++ [pnI 0 10000 false (a : Nat) (a + size : Nat)], sy)) := boxed (by rw [HNX.out]; rfl)
    have HAD := boxed (fun w' (hb : BS w0 tb bb w' L a sy) => add_bx hb ⟨3, 0, 0, 0, false, 10000, false, 0, 0⟩ size ha hsz (by omega) (pnI 0 10000 false (a : Nat) (a + size : Nat)) (a + size) rfl rfl _ rfl)
    simp only [Itm.val] at HAD
    clear HNX
    go_enter Tryz.func90, Tryz.ntmps90
    go_wp2_with fail
    refine (hkd _).mono ?_
    rintro e w' ⟨rfl, hw'⟩; subst w'
    clear htb
    go_wp2_with fail
    refine (HAD.out _ H.out).mono ?_
    rintro e w2 ⟨rfl, hb2⟩
    have H2 := boxed hb2
    clear hb2
    go_wp2
    refine bodyPost_end (results_none rfl _ _ _) rfl ?_
    exact ⟨rfl, by rw [HV.out]; exact H2.out⟩
  · subst e
    have HV : Box (NX = (L ++ [flI (a : Nat), pnI 0 (-10000) false (a : Nat) (a + size : Nat)], sy)) := boxed (by rw [HNX.out]; rfl)
    have HEN := boxed (fun w' (hb : BS w0 tb bb w' L a sy) => end7_any hb size ha hsz (by omega))
    clear HNX
    go_enter Tryz.func90, Tryz.ntmps90
    go_wp2_with fail
    refine (hkd _).mono ?_
    rintro e w' ⟨rfl, hw'⟩; subst w'
    clear htb
    go_wp2_with fail
    refine (HEN.out _ H.out).mono ?_
    rintro e w2 ⟨rfl, hb2⟩
    have H2 := boxed hb2
    clear hb2
    go_wp2
    refine bodyPost_end (results_none rfl _ _ _) rfl ?_
    exact ⟨rfl, by rw [HV.out]; exact H2.out⟩
  · subst e
    have HV : Box (NX = (L ++ [flI (a : Nat), pnI 0 (-10000) false (a : Nat) (a + size : Nat)], sy)) := boxed (by rw [HNX.out]; rfl)
    have HEN := boxed (fun w' (hb : BS w0 tb bb w' L a sy) => end7_any hb size ha hsz (by omega))
    clear HNX
    go_enter Tryz.func90, Tryz.ntmps90
    go_wp2_with fail
    refine (hkd _).mono ?_
    rintro e w' ⟨rfl, hw'⟩; subst w'
    clear htb
    go_wp2_with fail
    refine (HEN.out _ H.out).mono ?_
    rintro e w2 ⟨rfl, hb2⟩
    have H2 := boxed hb2
    clear hb2
    go_wp2
    refine bodyPost_end (results_none rfl _ _ _) rfl ?_
    exact ⟨rfl, by rw [HV.out]; exact H2.out⟩
  · subst e
    have HV : Box (NX = (bxd L sy WD y (a : Nat) (a + size : Nat), y)) := boxed (by rw [HNX.out]; rfl)
    have HBX := boxed (fun w' (hb : BS w0 tb bb w' L a sy) => box_any hb WD size y ha hsz (by omega))
    clear HNX
    go_enter Tryz.func90, Tryz.ntmps90
    go_wp2_with fail
    refine (hkd _).mono ?_
    rintro e w' ⟨rfl, hw'⟩; subst w'
    go_wp2_with fail
    refine (HTW.out _ H.out.bel).mono ?_
    rintro e w1 ⟨rfl, hb1⟩
    have H1 := boxed (H.out.below hb1)
    clear hb1 htb
    go_wp2_with fail
    refine (HBX.out _ H1.out).mono ?_
    rintro e w2 ⟨rfl, hb2⟩
    have H2 := boxed hb2
    clear hb2
    go_wp2
    refine bodyPost_end (results_none rfl _ _ _) rfl ?_
    exact ⟨rfl, by rw [HV.out]; exact H2.out⟩
  · subst e
    have HV : Box (NX = (bxd L sy WD y (a : Nat) (a + size : Nat) ++ [pnI 0 50 true (a + size : Nat) (a + size : Nat)], y)) := boxed (by rw [HNX.out]; rfl)
    have hbl := bxd_len L sy WD y (a : Nat) (a + size : Nat)
    have HBX := boxed (fun w' (hb : BS w0 tb bb w' L a sy) => box_any hb WD size y ha hsz (by omega))
    have HAD := boxed (fun w' (hb : BS w0 tb bb w' (bxd L sy WD y (a : Nat) (a + size : Nat)) (a + size) y) => add_bx hb ⟨3, 0, 0, 0, false, 50, true, 0, 0⟩ 0 ha2 (by omega) (by omega) (pnI 0 50 true (a + size : Nat) (a + size : Nat)) (a + size) rfl rfl _ rfl)
    simp only [Itm.val] at HAD
    clear hbl
    clear HNX
    go_enter Tryz.func90, Tryz.ntmps90
    go_wp2_with fail
    refine (hkd _).mono ?_
    rintro e w' ⟨rfl, hw'⟩; subst w'
    go_wp2_with fail
    refine (HTW.out _ H.out.bel).mono ?_
    rintro e w1 ⟨rfl, hb1⟩
    have H1 := boxed (H.out.below hb1)
    clear hb1 htb
    go_wp2_with fail
    refine (HBX.out _ H1.out).mono ?_
    rintro e w2 ⟨rfl, hb2⟩
    have H1b := boxed hb2
    clear hb2
    go_wp2_with fail
    refine (HAD.out _ H1b.out).mono ?_
    rintro e w3 ⟨rfl, hb3⟩
    have H2 := boxed hb3
    clear hb3
    go_wp2
    refine bodyPost_end (results_none rfl _ _ _) rfl ?_
    exact ⟨rfl, by rw [HV.out]; exact H2.out⟩
end Go.Proofs.YtcjcdpfjnomehaaGreat.It

/-
  What the program's Build answers: the first fault, or the items of the text.
-/
namespace Go.Proofs.YtcjcdpfjnomehaaGreat.It
open Go.RowKit
set_option linter.unusedSimpArgs false
set_option linter.unusedVariables false
theorem btw_it (t : ByteArray) (N : Nat) (hN : Right t N) (a : Int) (h : btw t N a = true) : ∃ K, K ≤ N ∧ (it t K : Int) = a := by
  unfold btw at h
  simp only [Bool.or_eq_true, decide_eq_true_eq, beq_iff_eq] at h
  rcases h with ⟨j, hj, e⟩ | e
  · exact ⟨j, by omega, e⟩
  · exact ⟨N, Nat.le_refl _, by rw [hN.2]; exact e.symm⟩
theorem it_inj (t : ByteArray) (N : Nat) (hN : Right t N) (j k : Nat) (hj : j ≤ N) (hk : k ≤ N) (h : it t j = it t k) : j = k := by
  rcases Nat.lt_trichotomy j k with c | c | c
  · have := it_mono t N hN.1.1 j k c hk; omega
  · exact c
  · have := it_mono t N hN.1.1 k j c hj; omega
theorem BS.at {w0 : Bse} {tb bb : Nat} {w : World} {L : List Itm} {a : Nat} {sy : Int} (h : BS w0 tb bb w L a sy) : w.cell? ⟨bb, 2, none⟩ = some (.int .i64 (a : Nat)) := by
  obtain ⟨_, v, hblk, _⟩ := h
  exact row_cell hblk 2
theorem BS.list {w0 : Bse} {tb bb : Nat} {w : World} {L : List Itm} {a : Nat} {sy : Int} (h : BS w0 tb bb w L a sy) : ∃ ao cap, w.cell? ⟨bb, 1, none⟩ = some (.slice ao L.length cap) ∧ w.ownsRow w0.w.heap.size 80 9 (.slice ao L.length cap) L.length (ics L) := by
  obtain ⟨_, v, hblk, hown⟩ := h
  obtain ⟨ao, cap, rfl⟩ := own_shape hown
  exact ⟨ao, cap, row_cell hblk 1, hown⟩
def atOf (w : World) (bb : Nat) : Nat := match w.cell? ⟨bb, 2, none⟩ with
  | some v => (intOf v).toNat
  | none => 0
theorem atOf_bs {w0 : Bse} {tb bb : Nat} {w : World} {L : List Itm} {a : Nat} {sy : Int} (h : BS w0 tb bb w L a sy) : atOf w bb = a := by
  unfold atOf
  rw [h.at]
  simp [intOf]
theorem bs_start {w : World} {tb : Nat} : BS ⟨w, 0, none⟩ tb w.heap.size (w.alloc (.cells #[.pointer (some ⟨tb, 0, none⟩), .slice none 0 0, .int .i64 0, .int .i64 0] 153)) [] 0 0 :=
  ⟨⟨Nat.le_refl _, (Below.refl _ _).alloc (Nat.le_refl _) _, fun p hp => by cases hp⟩, .slice none 0 0, heap_alloc_new _ _, World.ownsRow_nil _ _ _ _⟩
theorem BS.to {w1 : World} {r0 : Nat} {p0 : Option (Value × Value)} {tb bb : Nat} {w : World} {L : List Itm} {a : Nat} {sy : Int} (h : BS ⟨w1, r0, p0⟩ tb bb w L a sy) (rb : Nat) (ro : Option (Value × Value)) (hk : Bse.kr ⟨w1, rb, ro⟩ w) : BS ⟨w1, rb, ro⟩ tb bb w L a sy := by
  obtain ⟨⟨b1, b2, _⟩, v, hblk, hown⟩ := h
  exact ⟨⟨b1, b2, hk⟩, v, hblk, hown⟩
theorem BS.drop {w1 : World} {r0 : Nat} {p0 : Option (Value × Value)} {tb bb : Nat} {w : World} {L : List Itm} {a : Nat} {sy : Int} (h : BS ⟨w1, r0, p0⟩ tb bb w L a sy) : BS ⟨w1, 0, none⟩ tb bb w L a sy := h.to 0 none (fun p hp => by cases hp)
theorem BS.run {w1 : World} {rb : Nat} {l y : Value} {tb bb : Nat} {w : World} {L : List Itm} {a : Nat} {sy : Int} (h : BS ⟨w1, rb, some (l, y)⟩ tb bb w L a sy) : w.cell? ⟨rb, 1, none⟩ = some y := row_cell (h.1.2.2 (l, y) rfl) 1
set_option maxRecDepth 100000 in
set_option maxHeartbeats 4000000 in
theorem build_any {B : Nat} {w : World} {tb n : Nat} {G : Nat → Sty} (hT : TabAt B w tb n G) (hg : ∀ i, i < n → flt (G i) = 0) (t : ByteArray) (N : Nat) (hN : Cnt t N) (hs : t.size ≤ 65536) (ao : Option Addr) (m cap : Nat) (Ln Ys : Nat → Int) (hr : RunsAt w ao m Ln Ys) (hm : m ≤ maxLen) :
    Calls Tryz.prog 40 #[.pointer (some ⟨tb, 0, none⟩), .string t, .slice ao m cap] w fun e w' =>
      ((ck t N n m Ln Ys ≠ 0 ∧ e = .returned (.tuple #[.slice none 0 0, .int .i64 (ck t N n m Ln Ys)])) ∨
       (ck t N n m Ln Ys = 0 ∧ ∃ ao' cap', e = .returned (.tuple #[.slice ao' (fin G n t (fun a => sta Ln Ys m 0 (a : Nat)) N).length cap', .int .i64 0]) ∧ w'.ownsRow w.heap.size 80 9 (.slice ao' (fin G n t (fun a => sta Ln Ys m 0 (a : Nat)) N).length cap') (fin G n t (fun a => sta Ln Ys m 0 (a : Nat)) N).length (ics (fin G n t (fun a => sta Ln Ys m 0 (a : Nat)) N)))) ∧ Below w.heap.size w w' := by
  have hck := check7_any hT t N hN (by omega) ao m cap Ln Ys hr hm
  by_cases hz : ck t N n m Ln Ys = 0
  rotate_left
  · have HZ := boxed hz
    have tz : (ck t N n m Ln Ys != 0) = true := by simpa using hz
    clear hz
    generalize ck t N n m Ln Ys = C at *
    generalize fin G n t (fun a => sta Ln Ys m 0 (a : Nat)) N = FL at *
    clear hT hr hN
    go_enter Tryz.func40, Tryz.ntmps40
    go_wp2_with fail
    refine hck.mono ?_
    rintro e w1 ⟨rfl, hb1⟩
    have HB1 := boxed hb1
    clear hb1 hck
    go_wp2
    go_ret2
    exact ⟨Or.inl ⟨HZ.out, rfl⟩, HB1.out⟩
  have hbad : badAt t N < 0 := by
    by_cases c : badAt t N < 0
    · exact c
    · unfold ck at hz; rw [if_neg c] at hz; omega
  have hR := right_of t N hN hbad
  have h0 : 0 < t.size := by
    by_cases c : t.size = 0
    · unfold ck at hz; rw [if_pos hbad, if_pos (Or.inl c)] at hz; omega
    · omega
  have hcrs : crs t N n Ln Ys m = 0 ∧ pre Ln m = (t.size : Int) := by
    unfold ck at hz
    rw [if_pos hbad] at hz
    split at hz
    · omega
    · split at hz
      · split at hz
        · rename_i c1 c2 c3; exact ⟨c2, c3⟩
        · omega
      · rename_i c1 c2; exact absurd hz c2
  rw [hz] at hck ⊢
  have HR := boxed hr
  have HRT := boxed hR
  have HCR := boxed hcrs.1
  have HPM := boxed hcrs.2
  have HT := boxed hT
  have HG := boxed hg
  have hms : t.size ≤ maxLen := by unfold maxLen; omega
  have HY : Box (∀ i a, i < m → pre Ln i ≤ a → a < pre Ln (i + 1) → sta Ln Ys m 0 a = Ys i) := boxed (fun i a hi h1 h2 => by
    have hn : ∀ j, j < m → 0 ≤ Ln j := fun j hj => (cr_zero (crs_each t N n Ln Ys m hcrs.1 j hj)).1
    have := sta_at Ln Ys m i a hn hi h1 h2 0 (by omega)
    simpa [pre] using this)
  obtain ⟨Y, hY⟩ : ∃ Y : Nat → Int, (fun a : Nat => sta Ln Ys m 0 (a : Nat)) = Y := ⟨_, rfl⟩
  rw [hY]
  have HYY : Box (∀ a : Nat, Y a = sta Ln Ys m 0 (a : Nat)) := boxed (fun a => by rw [← hY])
  clear hY
  clear hT hr hcrs hz hbad hN hR hg
  go_enter Tryz.func40, Tryz.ntmps40
  go_wp2_with fail
  refine hck.mono ?_
  rintro e w1 ⟨rfl, hb1⟩
  have HB1 := boxed hb1
  clear hb1 hck
  go_wp2
  have hNs : N ≤ t.size := by have h1 := cnt_le t N HRT.out.1; have h2 := it_le t N; omega
  have HT1 := boxed (HT.out.below HB1.out)
  have HF : Box (∀ (W : World) L a sy, BS ⟨w1, 0, none⟩ tb w1.heap.size W L a sy → L = fin G n t Y N → ∃ ao' cap', W.cell? ⟨w1.heap.size, 1, none⟩ = some (.slice ao' (fin G n t Y N).length cap') ∧ W.ownsRow w.heap.size 80 9 (.slice ao' (fin G n t Y N).length cap') (fin G n t Y N).length (ics (fin G n t Y N)) ∧ Below w.heap.size w W) := boxed (by
    intro W L a sy h e
    subst e
    obtain ⟨ao', cap', h1, h2⟩ := h.list
    refine ⟨ao', cap', h1, ?_, below_step HB1.out (Nat.le_refl _) h.bel⟩
    refine ⟨h2.1, ?_⟩
    rcases h2.2 with h3 | ⟨g, cp, cur, e1, e2, e3⟩
    · exact .inl h3
    · exact .inr ⟨g, cp, cur, e1, Nat.le_trans HB1.out.size e2, e3⟩)
  generalize hbb : w1.heap.size = bb at *
  replace hbb := boxed hbb
  go_loopw [11, 12, 13, 14, 26] (fun _ _ _ _ i wr => ∃ k j : Nat, k ≤ m ∧ i = .int .i64 (k : Int) ∧ j ≤ N ∧ Box ((it t j : Int) = pre Ln k) ∧ Box (BS ⟨w1, 0, none⟩ tb bb wr (bs G n t Y j).1 (it t j) (bs G n t Y j).2)) (fun _ _ _ _ i _ => m - (intOf i).toNat)
  case atStart => exact ⟨0, 0, Nat.zero_le _, rfl, Nat.zero_le _, boxed (by simp [it, pre]), boxed (by rw [← hbb.out]; exact bs_start)⟩
  case round =>
    obtain ⟨k, j, hk, rfl, hj, HJ, HBS⟩ := hrel
    unfold maxLen at hm
    have hle := it_le t j
    by_cases hlt : k < m
    · obtain ⟨-, b, off, e, c0, c1⟩ := (HR.out.below (below_step HB1.out (Nat.le_refl _) HBS.out.bel)) k hlt
      subst e
      have q5 : b < wr.heap.size := World.block_lt_of_cell? wr _ c0
      have q6 : b ≠ wr.heap.size := by omega
      have q7 : bb < wr.heap.size := HBS.out.len
      have q8 : bb ≠ wr.heap.size := by omega
      have hz := cr_zero (crs_each t N n Ln Ys m HCR.out k hlt)
      obtain ⟨K, hK, hKe⟩ := btw_it t N HRT.out _ hz.2.2.2
      have t3 : decide ((k : Int) < (m : Int)) = true := decide_eq_true (by omega)
      have cA := HBS.out.at
      have HYk : Box (∀ i, j ≤ i → i < K → Y (it t i) = Ys k) := boxed (fun i h1 h2 => by
        rw [HYY.out]
        refine HY.out k _ hlt ?_ ?_
        · rw [← HJ.out]
          by_cases d : j = i
          · subst d; exact Int.le_refl _
          · have := it_mono t N HRT.out.1.1 j i (by omega) (by omega); omega
        · rw [← hKe]
          have := it_mono t N HRT.out.1.1 i K h2 hK; omega)
      have hKl := it_le t K
      have hend : (it t j : Int) + Ln k = (it t K : Nat) := by rw [hKe, HJ.out]; rfl
      have hjK : j ≤ K := by
        by_cases c : j ≤ K
        · exact c
        · have := it_mono t N HRT.out.1.1 K j (by omega) hj; omega
      have HKE := boxed hKe
      clear hz hKe
      generalize Ln k = l at *
      generalize Ys k = y at *
      obtain ⟨Aj, hAj⟩ : ∃ Aj, it t j = Aj := ⟨_, rfl⟩
      obtain ⟨AK, hAK⟩ : ∃ AK, it t K = AK := ⟨_, rfl⟩
      rw [hAj] at cA hend hle
      rw [hAK] at hend hKl
      have HAJ := boxed hAj
      have HAK := boxed hAK
      clear hAj hAK
      go_wp2_with fail
      have HBS0 : Box (BS ⟨w1, wr.heap.size, some (.int .i64 l, .int .i64 y)⟩ tb bb (wr.alloc (.cells #[.int .i64 l, .int .i64 y] 61)) (bs G n t Y j).1 (it t j) (bs G n t Y j).2) := boxed ((HBS.out.below ((Below.refl _ _).alloc (Nat.le_refl _) _)).to _ _ (fun p hp => by
        injection hp with hp
        subst hp
        exact heap_alloc_new _ _))
      generalize hrb : wr.heap.size = rb at *
      generalize wr.alloc (.cells #[.int .i64 l, .int .i64 y] 61) = wa at *
      replace hrb := boxed hrb
      clear c0 c1 cA
      have HTK := boxed (fun w' L a sy (h : BS ⟨w1, rb, some (.int .i64 l, .int .i64 y)⟩ tb bb w' L a sy) r size hr ha hsz ha2 hL => take_any (w0 := ⟨w1, rb, some (.int .i64 l, .int .i64 y)⟩) HT1.out HG.out h r size y hr ha hsz ha2 hL)
      go_hide hQ
      go_loopw [13, 14] (fun _ _ ws => ∃ i : Nat, (j ≤ i ∧ i ≤ K) ∧ Box (BS ⟨w1, rb, some (.int .i64 l, .int .i64 y)⟩ tb bb ws (bs G n t Y i).1 (it t i) (bs G n t Y i).2)) (fun _ _ ws => t.size - atOf ws bb)
      case atStart => exact ⟨j, ⟨Nat.le_refl _, hjK⟩, HBS0⟩
      case round =>
        obtain ⟨ws, rfl⟩ : ∃ ws : World, ws = wr := ⟨_, rfl⟩
        obtain ⟨i, hi, HBi⟩ := hrel
        have cA := HBi.out.at
        have cR := HBi.out.run
        have hAi := it_le t i
        have HAT := boxed (atOf_bs HBi.out)
        by_cases hiK : i < K
        · have hp := HRT.out.1.1 i (by omega)
          have hd := dc_le t (it t i) hAi
          have hfi := fun w => Rd.first_any (t.extract (it t i) t.size) w (by rw [ext_size t _ t.size (Nat.le_refl _)]; omega)
          rw [dc_tail] at hfi
          simp only [Nat.add_zero] at hfi
          have hlt2 := it_mono t N HRT.out.1.1 i K hiK hK
          rw [HAK.out] at hlt2
          have hnx : it t (i + 1) = it t i + (dc t (it t i)).2 := rfl
          have hln := bs_len G n t Y i
          have HST : Box (bs G n t Y (i + 1) = nx (ofS G n y) (bs G n t Y i).1 (bs G n t Y i).2 ((dc t (it t i)).1 : Nat) y (it t i : Nat) (it t i + (dc t (it t i)).2 : Nat)) := boxed (by
            show nx (ofS G n (Y (it t i))) _ _ _ _ _ _ = _
            rw [HYk.out i hi.1 hiK]
            rfl)
          have htk := HTK.out ws _ _ _ HBi.out (dc t (it t i)).1 (dc t (it t i)).2 hd.2.2 (by omega) (by omega) (by omega) (by omega)
          rw [← HST.out, ← hnx] at htk
          have HNX : Box (it t i < it t (i + 1) ∧ it t i < t.size) := boxed ⟨by omega, by omega⟩
          have t4 : decide ((it t i : Int) < (AK : Int)) = true := decide_eq_true (by omega)
          have t4' : decide (it t i < AK) = true := decide_eq_true (by omega)
          have hlI : (it t i : Int) ≤ (t.size : Int) := by omega
          clear hnx HST hln hd
          generalize dc t (it t i) = D at *
          obtain ⟨r, sz⟩ := D
          simp only at *
          generalize hA : it t i = A at *
          replace hA := boxed hA
          go_wp2_with fail
          refine (hfi _).mono ?_
          rintro e w' ⟨rfl, hw'⟩; subst w'
          go_wp2_with fail
          refine htk.mono ?_
          rintro e w5 ⟨rfl, hb5⟩
          have HB5 := boxed hb5
          clear hb5 htk hfi
          go_wp2
          go_roundw
          case rel => exact ⟨i + 1, ⟨by omega, by omega⟩, HB5⟩
          case measure =>
            rw [atOf_bs HB5.out, HAT.out]
            have := HNX.out
            omega
        · obtain rfl : i = K := by omega
          have t4 : decide ((it t i : Int) < (AK : Int)) = false := decide_eq_false (by rw [HAK.out]; omega)
          have t4' : decide (it t i < AK) = false := decide_eq_false (by rw [HAK.out]; omega)
          have HD := boxed HBi.out.drop
          generalize hA : it t i = A at *
          replace hA := boxed hA
          go_wp2
          subst hQ
          go_wp2
          go_roundw
          case rel => exact ⟨k + 1, i, by omega, by go_num, hK, boxed (by rw [hA.out]; exact HKE.out), boxed (by rw [hA.out]; exact HD.out)⟩
          case measure => simp [intOf]; omega
    · have e : k = m := by omega
      subst e
      have hjs : it t j = t.size := by have h1 := HJ.out; have h2 := HPM.out; rw [h2] at h1; omega
      have hjN : j = N := it_inj t N HRT.out j N hj (Nat.le_refl _) (by rw [hjs, HRT.out.2])
      obtain ⟨q, hq⟩ : ∃ q, t.size - 1 = q := ⟨_, rfl⟩
      have hx := idx t q (by omega)
      have eq1 : (t.size : Int) - 1 = (q : Nat) := by omega
      have hqI : (q : Int) < (t.size : Int) := by omega
      have hqN : q < t.size := by omega
      have hbl := bt_lt t q hqN
      rw [hjN, HRT.out.2] at HBS
      have hln := bs_len G n t Y N
      have t3 : decide ((k : Int) < (k : Int)) = false := decide_eq_false (by omega)
      by_cases g : bt t q = 10
      · have HFI : Box ((bs G n t Y N).1 = fin G n t Y N) := boxed (by unfold fin; rw [hq, if_pos g])
        obtain ⟨ao', cap', cL, ho, hb⟩ := HF.out _ _ _ _ HBS.out HFI.out
        obtain ⟨FL, hFL⟩ : ∃ FL, fin G n t Y N = FL := ⟨_, rfl⟩
        rw [hFL] at cL ho
        have HFL := boxed hFL
        have HOW := boxed ho
        have HBW := boxed hb
        rw [g] at hx
        clear hFL
        clear ho hb g hbl hln hjs hjN
        go_wp2
        refine bodyPost_ret (v := .tuple #[.slice ao' FL.length cap', .int .i64 0]) (by simp [results, Tryz.results40, go_sem]) rfl ?_
        exact ⟨Or.inr ⟨by simp, ao', cap', by rw [HFL.out], by rw [HFL.out]; exact HOW.out⟩, HBW.out⟩
      · have HEN := boxed (end7_any HBS.out 0 (by omega) (by omega) (by omega))
        have HFI : Box ((bs G n t Y N).1 ++ [flI (t.size : Nat), pnI 0 (-10000) false (t.size : Nat) (t.size + 0 : Nat)] = fin G n t Y N) := boxed (by unfold fin; rw [hq, if_neg g]; rfl)
        rw [HFI.out] at HEN
        have tg : ((bt t q : Int) != 10) = true := by simp; omega
        generalize bt t q = X at *
        clear g hln hjs hjN hbl
        go_wp2_with fail
        refine HEN.out.mono ?_
        rintro e w5 ⟨rfl, hb5⟩
        obtain ⟨ao', cap', cL, ho, hb⟩ := HF.out _ _ _ _ hb5 rfl
        obtain ⟨FL, hFL⟩ : ∃ FL, fin G n t Y N = FL := ⟨_, rfl⟩
        rw [hFL] at cL ho
        have HFL := boxed hFL
        have HOW := boxed ho
        have HBW := boxed hb
        clear hFL
        clear ho hb hb5 HEN
        go_wp2
        refine bodyPost_ret (v := .tuple #[.slice ao' FL.length cap', .int .i64 0]) (by simp [results, Tryz.results40, go_sem]) rfl ?_
        exact ⟨Or.inr ⟨by simp, ao', cap', by rw [HFL.out], by rw [HFL.out]; exact HOW.out⟩, HBW.out⟩
end Go.Proofs.YtcjcdpfjnomehaaGreat.It

/-
  The law's awake answers true.
-/
namespace Go.Proofs.YtcjcdpfjnomehaaGreat.It
open Go.RowKit
set_option linter.unusedSimpArgs false
set_option linter.unusedVariables false
theorem nx_like {s g : Sty} (h : Like s g) (L : List Itm) (sy r y f t : Int) : nx g L sy r y f t = nx s L sy r y f t := by
  unfold nx
  rw [h.sp, h.st, h.sh, h.hy, wdS_like h]
theorem bs_like {F G : Nat → Sty} {n : Nat} (h : ∀ i, i < n → Like (F i) (G i)) (t : ByteArray) (Y : Nat → Int) (k : Nat) : bs G n t Y k = bs F n t Y k := by
  induction k with
  | zero => rfl
  | succ k ih =>
    simp only [bs]
    rw [ih, nx_like (ofS_like h _)]
theorem fin_like {F G : Nat → Sty} {n : Nat} (h : ∀ i, i < n → Like (F i) (G i)) (t : ByteArray) (Y : Nat → Int) (N : Nat) : fin G n t Y N = fin F n t Y N := by
  unfold fin
  rw [bs_like h]
def exS : Sty := ⟨10, 6, 0, 0, 6, 6, none, 0, 0, false, fun _ => ⟨0, 0, 0⟩⟩
def exT : ByteArray := ⟨#[97, 45, 98]⟩
def exL : List Itm := [bxI 12 0 2, pnI 0 50 true 2 2, bxI 6 2 3, flI 3, pnI 0 (-10000) false 3 3]
end Go.Proofs.YtcjcdpfjnomehaaGreat.It

/-
  Items put behind others, as one law of the walk; line ends and runes; what the document's fill answers.
-/
namespace Go.Proofs.YtcjcdpfjnomehaaGreat.It
open Go.RowKit
set_option linter.unusedSimpArgs false
set_option linter.unusedVariables false
theorem ck_zero {t : ByteArray} {N n m : Nat} {Ln Ys : Nat → Int} (hN : Cnt t N) (hz : ck t N n m Ln Ys = 0) : Right t N ∧ 0 < t.size ∧ early t = false ∧ crs t N n Ln Ys m = 0 ∧ pre Ln m = (t.size : Int) := by
  have hbad : badAt t N < 0 := by
    by_cases c : badAt t N < 0
    · exact c
    · unfold ck at hz; rw [if_neg c] at hz; omega
  have h0 : ¬ (t.size = 0 ∨ early t = true) := by
    intro c
    unfold ck at hz; rw [if_pos hbad, if_pos c] at hz; omega
  have hcrs : crs t N n Ln Ys m = 0 ∧ pre Ln m = (t.size : Int) := by
    unfold ck at hz
    rw [if_pos hbad, if_neg h0] at hz
    split at hz
    · split at hz
      · rename_i c2 c3; exact ⟨c2, c3⟩
      · omega
    · rename_i c2; exact absurd hz c2
  refine ⟨right_of t N hN hbad, by omega, ?_, hcrs⟩
  cases e : early t with
  | false => rfl
  | true => exact absurd (Or.inr e) h0
theorem kd_8 (r : Int) : kd r = 8 ↔ r = 10 := by
  constructor
  · intro h
    unfold kd at h
    repeat' split at h
    all_goals first | assumption | omega
  · intro h; subst h; rfl
theorem rune_nl (t : ByteArray) (N j : Nat) (hN : Cnt t N) (hj : j < N) (h : rn t j = 10) : bt t (it t j) = 10 ∧ it t (j + 1) = it t j + 1 := by
  have hp := hN.1 j hj
  have e : it t (j + 1) = it t j + (dc t (it t j)).2 := rfl
  unfold rn at h
  unfold dc at hp h e
  rcases dec_cases (bt t (it t j)) (bt t (it t j + 1)) (bt t (it t j + 2)) (bt t (it t j + 3)) with ⟨q, e'⟩ | ⟨q, e'⟩ | ⟨q, e'⟩ | ⟨q, e'⟩ | e' <;> rw [e'] at hp h e <;> simp at hp h e
  · exact ⟨h, e⟩
  · omega
  · omega
  · omega
theorem nl_rune (t : ByteArray) (N i : Nat) (hN : Right t N) (hi : i < t.size) (h : bt t i = 10) : ∃ j, j < N ∧ it t j = i ∧ rn t j = 10 := by
  have hx : Rd.ins (bt t i : Int) = false := by rw [h]; decide
  obtain ⟨j, hj, e⟩ := (ins_begin t N hN i hi).1 hx
  refine ⟨j, hj, e, ?_⟩
  unfold rn dc
  rw [e, h, dec1 (by omega)]
end Go.Proofs.YtcjcdpfjnomehaaGreat.It

/-
  Plain facts of a text's items: their bytes are the text's, one behind the other; they are such as may be; they are as wide as the runes together. And: how styles are cut into runs doesn't matter. No program in it.
-/
namespace Go.Proofs.YtcjcdpfjnomehaaGreat.It
open Go.RowKit
set_option linter.unusedSimpArgs false
set_option linter.unusedVariables false
def chn : Int → List Itm → Int → Prop
  | a, [], e => a = e
  | a, x :: r, e => x.fr = a ∧ x.fr ≤ x.to ∧ chn x.to r e
theorem chn_app (a : Int) (L M : List Itm) (e : Int) : chn a (L ++ M) e ↔ ∃ c, chn a L c ∧ chn c M e := by
  induction L generalizing a with
  | nil => simp [chn]
  | cons x r ih =>
    simp only [List.cons_append, chn, ih]
    constructor
    · rintro ⟨h1, h2, c, h3, h4⟩; exact ⟨c, ⟨h1, h2, h3⟩, h4⟩
    · rintro ⟨c, ⟨h1, h2, h3⟩, h4⟩; exact ⟨h1, h2, c, h3, h4⟩
theorem chn_le (a : Int) (L : List Itm) (e : Int) (h : chn a L e) : a ≤ e := by
  induction L generalizing a with
  | nil => exact Int.le_of_eq h
  | cons x r ih =>
    obtain ⟨h1, h2, h3⟩ := h
    have := ih _ h3
    omega
theorem nth_cons (x : Itm) (r : List Itm) (i : Nat) : nth (x :: r) (i + 1) = nth r i := by simp [nth]
theorem chn_nth (a : Int) (L : List Itm) (e : Int) (h : chn a L e) : ∀ i, i < L.length → (nth L i).fr = (if i = 0 then a else (nth L (i - 1)).to) ∧ (nth L i).fr ≤ (nth L i).to ∧ (nth L i).to ≤ e := by
  induction L generalizing a with
  | nil => intro i hi; simp at hi
  | cons x r ih =>
    intro i hi
    obtain ⟨h1, h2, h3⟩ := h
    cases i with
    | zero => exact ⟨h1, h2, chn_le _ _ _ h3⟩
    | succ i =>
      obtain ⟨g1, g2, g3⟩ := ih _ h3 i (by simpa using hi)
      rw [nth_cons]
      refine ⟨?_, g2, g3⟩
      rw [if_neg (Nat.succ_ne_zero i), g1]
      cases i with
      | zero => simp [nth]
      | succ i => simp [nth]
theorem nth_mem (L : List Itm) (i : Nat) (h : i < L.length) : nth L i ∈ L := by
  unfold nth
  rw [List.getD_eq_getElem?_getD, List.getElem?_eq_getElem h]
  exact List.getElem_mem h
def wsm : List Itm → Int
  | [] => 0
  | x :: r => (if x.k = 3 then 0 else x.w) + wsm r
theorem wsm_app (L M : List Itm) : wsm (L ++ M) = wsm L + wsm M := by
  induction L with
  | nil => simp [wsm]
  | cons x r ih => simp only [List.cons_append, wsm, ih]; omega
theorem wsm_one (x : Itm) : wsm [x] = if x.k = 3 then 0 else x.w := by simp [wsm]
structure Pi (L : List Itm) (a S M : Int) : Prop where
  ch : chn 0 L a
  ok : ∀ x ∈ L, msd x = true ∧ ofk x = true
  sm : wsm L = S
  wd : ∀ x ∈ L, x.k = 1 → x.w ≤ M
theorem Pi.snoc {L : List Itm} {a S M : Int} (h : Pi L a S M) (x : Itm) (hf : x.fr = a) (ht : x.fr ≤ x.to) (h1 : msd x = true) (h2 : ofk x = true) (S' M' : Int) (hS : S' = S + if x.k = 3 then 0 else x.w) (hM : M ≤ M') (hw : x.k = 1 → x.w ≤ M') : Pi (L ++ [x]) x.to S' M' := by
  refine ⟨(chn_app _ _ _ _).2 ⟨a, h.ch, hf, ht, rfl⟩, ?_, ?_, ?_⟩
  · intro y hy
    rcases List.mem_append.1 hy with hy | hy
    · exact h.ok y hy
    · simp at hy; subst hy; exact ⟨h1, h2⟩
  · rw [wsm_app, wsm_one, h.sm, hS]
  · intro y hy hk
    rcases List.mem_append.1 hy with hy | hy
    · exact Int.le_trans (h.wd y hy hk) hM
    · simp at hy; subst hy; exact hw hk
theorem Pi.mono {L : List Itm} {a S M M' : Int} (h : Pi L a S M) (hM : M ≤ M') : Pi L a S M' := ⟨h.ch, h.ok, h.sm, fun x hx hk => Int.le_trans (h.wd x hx hk) hM⟩
theorem msd_mk (x : Itm) (h1 : 0 ≤ x.w ∧ x.w ≤ 68719476736) (h2 : 0 ≤ x.st ∧ x.st ≤ 68719476736) (h3 : 0 ≤ x.sh ∧ x.sh ≤ 68719476736) (h4 : x.sh ≤ x.w) : msd x = true := by
  simp [msd, ms]; omega
theorem msd_w {x : Itm} (h : msd x = true) : 0 ≤ x.w ∧ x.w ≤ 68719476736 := by
  simp [msd, ms] at h; omega
theorem Pi.bxd {L : List Itm} {f S M : Int} (h : Pi L f S M) (sy W y g : Int) (hW : 0 ≤ W ∧ W ≤ 1048576) (hg : f ≤ g) (hM0 : 0 ≤ M) (hM : M ≤ 34359738368) : Pi (bxd L sy W y f g) g (S + W) (M + 1048576) := by
  unfold Go.Proofs.YtcjcdpfjnomehaaGreat.It.bxd
  by_cases c : lbox L = true ∧ sy = y
  · rw [if_pos c]
    obtain ⟨A, x, rfl, hx⟩ := lbox_pos L c.1
    rw [grow_snoc]
    obtain ⟨c1, hc1, hc2⟩ := (chn_app _ _ _ _).1 h.ch
    obtain ⟨e1, e2, e3⟩ := hc2
    have e3' : x.to = f := e3
    have hxm : x ∈ A ++ [x] := by simp
    obtain ⟨o1, o2⟩ := h.ok x hxm
    have hw := msd_w o1
    have hwM := h.wd x hxm hx
    have had : ad x.w W = x.w + W := ad_in _ _ hw.1 hW.1 (by omega)
    have hsm := h.sm
    rw [wsm_app, wsm_one, if_neg (by omega)] at hsm
    have hok : x.st = 0 ∧ x.sh = 0 ∧ x.c = 0 ∧ x.fill = false ∧ x.flag = false := by
      unfold ofk at o2
      rw [if_pos hx] at o2
      simp at o2
      exact ⟨o2.1.1.1.1, o2.1.1.1.2, o2.1.1.2, o2.1.2, o2.2⟩
    refine ⟨(chn_app _ _ _ _).2 ⟨c1, hc1, e1, by show x.fr ≤ g; omega, rfl⟩, ?_, ?_, ?_⟩
    · intro z hz
      rcases List.mem_append.1 hz with hz | hz
      · exact h.ok z (List.mem_append_left _ hz)
      · simp at hz
        subst hz
        refine ⟨msd_mk _ (by show 0 ≤ ad x.w W ∧ ad x.w W ≤ 68719476736; omega) (by show 0 ≤ x.st ∧ x.st ≤ 68719476736; omega) (by show 0 ≤ x.sh ∧ x.sh ≤ 68719476736; omega) (by show x.sh ≤ ad x.w W; omega), ?_⟩
        unfold ofk
        rw [if_pos hx]
        simp [hok]
    · rw [wsm_app, wsm_one, if_neg (by show ¬ x.k = 3; omega)]
      show wsm A + ad x.w W = _
      omega
    · intro z hz hk
      rcases List.mem_append.1 hz with hz | hz
      · have := h.wd z (List.mem_append_left _ hz) hk; omega
      · simp at hz; subst hz
        show ad x.w W ≤ _
        omega
  · rw [if_neg c]
    exact h.snoc (bxI W f g) rfl hg (msd_mk _ (by show 0 ≤ W ∧ W ≤ 68719476736; omega) (by show (0:Int) ≤ 0 ∧ (0:Int) ≤ 68719476736; omega) (by show (0:Int) ≤ 0 ∧ (0:Int) ≤ 68719476736; omega) (by show (0:Int) ≤ W; omega)) rfl _ _ (by rw [if_neg (by show ¬ (1:Int) = 3; omega)]; rfl) (by omega) (fun _ => by show W ≤ _; omega)
structure StB (s : Sty) : Prop where
  sp : 0 ≤ s.sp ∧ s.sp ≤ 1048576
  st : 0 ≤ s.st ∧ s.st ≤ 1048576
  sh : 0 ≤ s.sh ∧ s.sh ≤ 1048576
  hy : 0 ≤ s.hy ∧ s.hy ≤ 1048576
  le : s.sh ≤ s.sp
  wd : Bnd s
theorem flt_stb {s : Sty} (h : flt s = 0) : StB s := by
  have hb := flt_bnd h
  unfold flt at h
  split at h
  · rename_i c
    simp [msr, un] at c
    exact ⟨by omega, by omega, by omega, by omega, by omega, hb⟩
  · omega
theorem ofS_stb {F : Nat → Sty} {n : Nat} (hg : ∀ i, i < n → flt (F i) = 0) (a : Int) : StB (ofS F n a) := by
  unfold ofS
  split
  · rename_i c; exact flt_stb (hg _ (by omega))
  · exact ⟨by simp [zeroS], by simp [zeroS], by simp [zeroS], by simp [zeroS], by simp [zeroS], zeroS_bnd⟩
theorem Pi.nx {L : List Itm} {f S M : Int} (h : Pi L f S M) {s : Sty} (hs : StB s) (sy r y g : Int) (hg : f ≤ g) (hM0 : 0 ≤ M) (hM : M ≤ 34359738368) : Pi (nx s L sy r y f g).1 g (S + wdS s r) (M + 1048576) := by
  have hw := hs.wd r
  have h9 := kd_nine r
  have z : (0 : Int) ≤ 0 ∧ (0 : Int) ≤ 68719476736 := by omega
  unfold Go.Proofs.YtcjcdpfjnomehaaGreat.It.nx
  by_cases k1 : kd r = 1
  · rw [if_pos k1, wdS_sp (Or.inl k1)]
    have := hs.sp; have := hs.st; have := hs.sh
    exact h.snoc (glI s.sp s.st s.sh f g) rfl hg (msd_mk _ (by show 0 ≤ s.sp ∧ s.sp ≤ 68719476736; omega) (by show 0 ≤ s.st ∧ s.st ≤ 68719476736; omega) (by show 0 ≤ s.sh ∧ s.sh ≤ 68719476736; omega) hs.le) rfl _ _ (by rw [if_neg (by show ¬ (2:Int) = 3; omega)]; rfl) (by omega) (fun c => by exact absurd c (by show ¬ (2:Int) = 1; omega))
  rw [if_neg k1]
  by_cases k3 : kd r = 3
  · rw [if_pos k3, wdS_no (by omega)]
    have := hs.hy
    exact h.snoc (pnI s.hy 50 true f g) rfl hg (msd_mk _ (by show 0 ≤ s.hy ∧ s.hy ≤ 68719476736; omega) z z (by show (0:Int) ≤ s.hy; omega)) rfl _ _ (by simp [pnI]) (by omega) (fun c => by exact absurd c (by show ¬ (3:Int) = 1; omega))
  rw [if_neg k3]
  by_cases k4 : kd r = 4
  · rw [if_pos k4, wdS_no (by omega)]
    exact h.snoc (pnI 0 0 false f g) rfl hg (msd_mk _ z z z (Int.le_refl _)) rfl _ _ (by simp [pnI]) (by omega) (fun c => by exact absurd c (by show ¬ (3:Int) = 1; omega))
  rw [if_neg k4]
  by_cases k5 : kd r = 5
  · rw [if_pos k5, wdS_no (by omega)]
    exact h.snoc (pnI 0 10000 false f g) rfl hg (msd_mk _ z z z (Int.le_refl _)) rfl _ _ (by simp [pnI]) (by omega) (fun c => by exact absurd c (by show ¬ (3:Int) = 1; omega))
  rw [if_neg k5]
  by_cases k7 : kd r = 7 ∨ kd r = 8
  · rw [if_pos k7, wdS_no (by omega)]
    have e : L ++ [flI f, pnI 0 (-10000) false f g] = (L ++ [flI f]) ++ [pnI 0 (-10000) false f g] := by simp
    rw [e]
    have h1 := h.snoc (flI f) rfl (Int.le_refl _) (msd_mk _ z z z (Int.le_refl _)) rfl (S + 0) M (by rw [if_neg (by show ¬ (2:Int) = 3; omega)]; rfl) (Int.le_refl _) (fun c => by exact absurd c (by show ¬ (2:Int) = 1; omega))
    exact h1.snoc (pnI 0 (-10000) false f g) rfl hg (msd_mk _ z z z (Int.le_refl _)) rfl _ _ (by simp [pnI]) (by omega) (fun c => by exact absurd c (by show ¬ (3:Int) = 1; omega))
  rw [if_neg k7]
  by_cases k6 : kd r = 6
  · rw [if_pos k6]
    have h1 := h.bxd sy (wdS s r) y g hw hg hM0 hM
    exact h1.snoc (pnI 0 50 true g g) rfl (Int.le_refl _) (msd_mk _ z z z (Int.le_refl _)) rfl _ _ (by simp [pnI]) (Int.le_refl _) (fun c => by exact absurd c (by show ¬ (3:Int) = 1; omega))
  rw [if_neg k6]
  exact h.bxd sy (wdS s r) y g hw hg hM0 hM
def rsm (F : Nat → Sty) (n : Nat) (t : ByteArray) (Y : Nat → Int) : Nat → Int
  | 0 => 0
  | k + 1 => rsm F n t Y k + wdS (ofS F n (Y (it t k))) (rn t k : Nat)
theorem bs_pi {F : Nat → Sty} {n : Nat} (hg : ∀ i, i < n → flt (F i) = 0) (t : ByteArray) (Y : Nat → Int) (k : Nat) (hk : k ≤ 8192) : Pi (bs F n t Y k).1 (it t k : Nat) (rsm F n t Y k) (1048576 * (k : Int)) := by
  induction k with
  | zero => exact ⟨rfl, fun x hx => by simp [bs] at hx, rfl, fun x hx => by simp [bs] at hx⟩
  | succ k ih =>
    have h1 := ih (by omega)
    have h2 := h1.nx (ofS_stb hg (Y (it t k))) (bs F n t Y k).2 (rn t k : Nat) (Y (it t k)) (it t (k + 1) : Nat) (by simp only [it]; omega) (by omega) (by omega)
    have e : 1048576 * ((k : Int) + 1) = 1048576 * (k : Int) + 1048576 := by omega
    simp only [bs, rsm]
    rw [show ((k + 1 : Nat) : Int) = (k : Int) + 1 from rfl, e]
    exact h2
theorem fin_pi {F : Nat → Sty} {n : Nat} (hg : ∀ i, i < n → flt (F i) = 0) (t : ByteArray) (Y : Nat → Int) (N : Nat) (hN : Right t N) (hk : N ≤ 8192) (h0 : 0 < t.size) : Pi (fin F n t Y N) (t.size : Nat) (rsm F n t Y N) (1048576 * (N : Int)) ∧ ∃ A x, fin F n t Y N = A ++ [x] ∧ forc x = true := by
  have h := bs_pi hg t Y N hk
  rw [hN.2] at h
  have z : (0 : Int) ≤ 0 ∧ (0 : Int) ≤ 68719476736 := by omega
  unfold fin
  by_cases c : bt t (t.size - 1) = 10
  · rw [if_pos c]
    refine ⟨h, ?_⟩
    obtain ⟨j, hj, e, hr⟩ := nl_rune t N (t.size - 1) hN (by omega) c
    have hj1 : j + 1 = N := by
      have := rune_nl t N j hN.1 hj hr
      exact it_inj t N hN (j + 1) N (by omega) (Nat.le_refl _) (by rw [this.2, e, hN.2]; omega)
    subst hj1
    have hk8 : kd ((rn t j : Nat) : Int) = 8 := (kd_8 _).2 (by omega)
    refine ⟨(bs F n t Y j).1 ++ [flI (it t j : Nat)], pnI 0 (-10000) false (it t j : Nat) (it t (j + 1) : Nat), ?_, rfl⟩
    simp only [bs]
    unfold nx
    rw [if_neg (by omega), if_neg (by omega), if_neg (by omega), if_neg (by omega), if_pos (by omega)]
    simp
  · rw [if_neg c]
    have e : (bs F n t Y N).1 ++ [flI (t.size : Nat), pnI 0 (-10000) false (t.size : Nat) (t.size : Nat)] = ((bs F n t Y N).1 ++ [flI (t.size : Nat)]) ++ [pnI 0 (-10000) false (t.size : Nat) (t.size : Nat)] := by simp
    rw [e]
    have h1 := h.snoc (flI (t.size : Nat)) rfl (Int.le_refl _) (msd_mk _ z z z (Int.le_refl _)) rfl (rsm F n t Y N + 0) _ (by rw [if_neg (by show ¬ (2:Int) = 3; omega)]; rfl) (Int.le_refl _) (fun c => by exact absurd c (by show ¬ (2:Int) = 1; omega))
    exact ⟨h1.snoc (pnI 0 (-10000) false (t.size : Nat) (t.size : Nat)) rfl (Int.le_refl _) (msd_mk _ z z z (Int.le_refl _)) rfl _ _ (by simp [pnI]) (Int.le_refl _) (fun c => by exact absurd c (by show ¬ (3:Int) = 1; omega)), _, _, rfl, rfl⟩
theorem fin_len (F : Nat → Sty) (n : Nat) (t : ByteArray) (Y : Nat → Int) (N : Nat) : (fin F n t Y N).length ≤ 2 * N + 2 := by
  have := bs_len F n t Y N
  unfold fin
  split
  · omega
  · simp; omega
theorem fin_rgt {F : Nat → Sty} {n : Nat} (hg : ∀ i, i < n → flt (F i) = 0) (t : ByteArray) (Y : Nat → Int) (N : Nat) (hN : Right t N) (hs : t.size ≤ 8192) (h0 : 0 < t.size) :
    rgt (nth (fin F n t Y N)) (fin F n t Y N).length = true ∧ 0 < (fin F n t Y N).length ∧ (nth (fin F n t Y N) ((fin F n t Y N).length - 1)).to = (t.size : Nat) ∧ wsm (fin F n t Y N) = rsm F n t Y N := by
  have hNs : N ≤ t.size := by have h1 := cnt_le t N hN.1; have h2 := it_le t N; omega
  obtain ⟨hp, A, x, hA, hx⟩ := fin_pi hg t Y N hN (by omega) h0
  have hl := fin_len F n t Y N
  have hlast : nth (fin F n t Y N) ((fin F n t Y N).length - 1) = x := by rw [hA]; simp [nth]
  have hpos : 0 < (fin F n t Y N).length := by rw [hA]; simp
  have hcn := chn_nth 0 _ _ hp.ch
  refine ⟨(rgt_iff _ _).2 ⟨hpos, by omega, by rw [hlast]; exact hx, ?_⟩, hpos, ?_, hp.sm⟩
  · intro i hi
    obtain ⟨g1, g2, g3⟩ := hcn i hi
    obtain ⟨o1, o2⟩ := hp.ok _ (nth_mem _ i hi)
    unfold okI pto
    rw [← g1]
    simp [o1, o2]
    omega
  · rw [hlast]
    have := hp.ch
    rw [hA] at this
    obtain ⟨c, _, _, _, h3⟩ := (chn_app _ _ _ _).1 this
    exact h3
end Go.Proofs.YtcjcdpfjnomehaaGreat.It
