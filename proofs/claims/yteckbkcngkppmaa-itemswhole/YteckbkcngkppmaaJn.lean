/-
  A paragraph's items under way, as they lie in memory; what the program's add does: an item is put behind the others.
-/
import Derived.Test.YteckbkcngkppmaaJl
import Derived.Laws.AppendOwnNone
import Derived.Deep.RegionLaw
namespace Go.Proofs.Yteckbkcngkppmaa
open Go.RowKit
set_option linter.unusedSimpArgs false
set_option linter.unusedVariables false

theorem info_item : (Try.prog.info? 40).map (fun i => (i.zero, i.size, i.bytes)) = some (some (.agg #[.int .i64 0, .int .i64 0, .int .i64 0, .int .i64 0, .bool false, .int .i64 0, .bool false, .int .i64 0, .int .i64 0]), 9, 72) := by kernel_rfl

/-- The world ahead, and a run that is kept. -/
structure Bse where
  w : World
  rb : Nat
  ro : Option (Value × Value)
def Bse.kr (E : Bse) (w : World) : Prop := ∀ p, E.ro = some p → w.heap[E.rb]? = some (.cells #[p.1, p.2] 49 (0, 0))
theorem own_ne {w : World} {B e size n bb : Nat} {v : Value} {xs : List Value} {cs : Array Value} {ty : TypeId} (h : w.ownsRow B e size v n xs) (hb : w.heap[bb]? = some (.cells cs ty (0, 0))) (hne : ty ≠ e) : v.ownBlock ≠ some bb := by
  rcases h.2 with ⟨rfl, _⟩ | ⟨g', cap', cur, rfl, _, hh, _⟩
  · intro c; cases c
  · intro c
    have c' : g' = bb := by simpa [Value.ownBlock] using c
    subst c'
    rw [hb] at hh
    injection hh with hh
    injection hh with _ hh
    exact hne hh
theorem heap_lt {w : World} {b : Nat} {o : Obj} (h : w.heap[b]? = some o) : b < w.heap.size := by
  by_cases c : b < w.heap.size
  · exact c
  · rw [Array.getElem?_eq_none (by omega)] at h; cases h
theorem Bse.kr.below {E : Bse} {w w' : World} (h : E.kr w) (hb : Below w.heap.size w w') : E.kr w' := fun p hp => by
  rw [hb.block E.rb (heap_lt (h p hp))]; exact h p hp
theorem Bse.kr.own {E : Bse} {w w' : World} {B n : Nat} {v : Value} {xs : List Value} (h : E.kr w) (hown : w.ownsRow B 40 9 v n xs) (hg : w.grownBy w' v.ownBlock) : E.kr w' := fun p hp => by
  rw [hg.block E.rb (heap_lt (h p hp)) (own_ne hown (h p hp) (by decide)).symm]; exact h p hp
theorem Bse.kr.set {E : Bse} {w : World} {bb i : Nat} {cs : Array Value} {u : Value} (h : E.kr w) (hblk : w.heap[bb]? = some (.cells cs 59 (0, 0))) : E.kr (w.setCell ⟨bb, i, none⟩ u) := fun p hp => by
  have hne : E.rb ≠ bb := fun c => by
    have h1 := h p hp
    rw [c, hblk] at h1
    injection h1 with h1
    injection h1 with _ h1
    exact absurd h1 (by decide)
  rw [heap_setCell_other w ⟨bb, i, none⟩ E.rb u hne]; exact h p hp
/-- Items under way: of the table tb, at the block bb; all that is made lies behind the world w0. -/
def BS (w0 : Bse) (tb bb : Nat) (w : World) (L : List Itm) (a : Nat) (sy : Int) : Prop :=
  (w0.w.heap.size ≤ bb ∧ Below w0.w.heap.size w0.w w ∧ w0.kr w) ∧ ∃ v, w.heap[bb]? = some (.cells #[.pointer (some ⟨tb, 0, none⟩), v, .int .i64 (a : Nat), .int .i64 sy] 59 (0, 0)) ∧ w.ownsRow w0.w.heap.size 40 9 v L.length (ics L)

theorem set_heap4 {w : World} {b i : Nat} {v0 v1 v2 v3 v : Value} {t : TypeId} (h : w.heap[b]? = some (.cells #[v0, v1, v2, v3] t (0, 0))) : (w.setCell ⟨b, i, none⟩ v).heap[b]? = some (.cells ((#[v0, v1, v2, v3] : Array Value).setIfInBounds i v) t (0, 0)) := by
  simp [World.setCell, Array.getElem?_modify, h]
theorem set_far {w : World} {b c i : Nat} {v : Value} (h : c ≠ b) : (w.setCell ⟨b, i, none⟩ v).heap[c]? = w.heap[c]? := by
  simp only [World.setCell, Array.getElem?_modify]
  rw [if_neg (by omega)]

theorem below_grown {w w' : World} (h : Below w.heap.size w w') (row : Option Nat) : w.grownBy w' row := ⟨h.os, h.tape, h.output, h.size, fun k hk _ => h.block k hk⟩
theorem grown_trans {a b c : World} {row : Option Nat} (h : a.grownBy b row) (k : b.grownBy c row) : a.grownBy c row :=
  ⟨k.os.trans h.os, k.tape.trans h.tape, k.output.trans h.output, Nat.le_trans h.size k.size, fun i hi hr => (k.block i (Nat.lt_of_lt_of_le hi h.size) hr).trans (h.block i hi hr)⟩
theorem grown_set (w : World) (b i : Nat) (u : Value) : w.grownBy (w.setCell ⟨b, i, none⟩ u) (some b) :=
  ⟨rfl, rfl, rfl, by simp, fun k _ hk => heap_setCell_other w ⟨b, i, none⟩ k u (fun e => hk (by simp [e]))⟩
theorem step_append_own {P : Program} {w : World} {ops : Array Oper} {o : Oper} {a : Act} {K : Act → World → Prop} {Q : Exit → Act → World → Prop} {E : Prop} (hgd : o.guard = none) (s x : Operand) (t : TypeId)
    (ho : o.op = .call { callee := .builtin .append, args := #[s, x], argTypes := #[t, t] })
    (base : Nat) (e : TypeId) (i : TypeInfo) (z : Value) (size bytes : Nat) (ht : P.underlying t = some (.slice e)) (hi : P.info? e = some i) (hz : i.zero = some z)
    (hsize : i.size = size) (hby : i.bytes = bytes) (hzs : z.cells.size = size) (hsz : 0 < size)
    (v : Value) (n : Nat) (xs : List Value) (hs : a.eval s = v) (hown : w.ownsRow base e size v n xs)
    (ad : Addr) (m c : Nat) (news : List Value) (hx : a.eval x = .slice (some ad) m c) (hl : news.length = m * size) (hnews : ∀ j u, news[j]? = some u → w.cell? (ad.add j) = some u) (h1 : ∀ u ∈ news, u.oneCell' = true)
    (h63 : n + m ≤ maxLen) (hbytes : (n + m) * bytes ≤ 140737488355328) (hbase : base ≤ w.heap.size)
    (h : ∀ v' w', w'.ownsRow base e size v' (n + m) (xs ++ news) → w.grownBy w' v.ownBlock → K (a.put o.dst v') w') :
    if Region.wanted o (yielded ops a.tmps) = true then Oper.wp P o a w K Q else E := by
  have hw : Region.wanted o (yielded ops a.tmps) = true := by simp [Region.wanted, hgd]
  rw [if_pos hw]
  exact wp_append_own w s x t ho base e i z size bytes ht hi hz hsize hby hzs hsz v n xs hs hown ad m c news hx hl hnews h1 h63 hbytes hbase fun v' w' h2 h3 _ => h v' w' h2 h3

set_option maxRecDepth 100000 in
set_option maxHeartbeats 2000000 in
theorem add7_any {w0 : Bse} {tb bb : Nat} {w : World} {L : List Itm} {a : Nat} {sy : Int} (h : BS w0 tb bb w L a sy) (x : Itm) (size : Nat) (ha : a ≤ 1048576) (hsz : size ≤ 1048576) (hL : L.length ≤ 1048576) :
    Calls Try.prog 47 #[.pointer (some ⟨bb, 0, none⟩), x.val, .int .i64 (size : Nat)] w fun e w' => e = .returned (.tuple #[]) ∧ BS w0 tb bb w' (L ++ [{ x with fr := (a : Nat), to := (a + size : Nat) }]) (a + size) sy := by
  obtain ⟨i0, hi, hz0, hz1, hz2⟩ := info_parts info_item
  obtain ⟨⟨hlo, hbel, hkr⟩, v, hblk, hown⟩ := h
  obtain ⟨ao, cap, rfl⟩ := own_shape hown
  have f0 := row_cell hblk
  have z0 := row_free hblk
  have q1 : bb < w.heap.size := by
    by_cases c : bb < w.heap.size
    · exact c
    · rw [Array.getElem?_eq_none (by omega)] at hblk; cases hblk
  have q2 : bb ≠ w.heap.size := by omega
  have q3 : w.heap.size ≠ bb := by omega
  have hlen : ∃ n, L.length = n := ⟨_, rfl⟩
  obtain ⟨n, hn⟩ := hlen
  rw [hn] at hown f0 hL hblk
  have e1 := f0 1
  have e2 := f0 2
  simp at e1 e2
  have y1 := z0 1
  have y2 := z0 2
  unfold Itm.val
  have HW := boxed hblk
  have HO := boxed hown
  have HB := boxed hbel
  have HKR := boxed hkr
  obtain ⟨A, hA⟩ : ∃ A, a + size = A := ⟨_, rfl⟩
  have hA2 : (a : Int) + (size : Int) = (A : Nat) := by omega
  have hA3 : A ≤ 2097152 := by omega
  rw [hA]
  clear f0 z0 hblk hown hbel hA hkr
  go_enter Try.func47, Try.ntmps47
  go_wp2_with fail
  go_region
  go_wp2_with fail
  obtain ⟨W, hW⟩ : ∃ W, (w.alloc (.cells #[.int .i64 x.k, .int .i64 x.w, .int .i64 x.st, .int .i64 x.sh, .bool x.fill, .int .i64 x.c, .bool x.flag, .int .i64 (a : Nat), .int .i64 (A : Nat)] 40)).drew = W := ⟨_, rfl⟩
  rw [hW]
  have hWb : Below w.heap.size w W := by rw [← hW]; exact ((Below.refl _ _).alloc (Nat.le_refl _) _).drew
  have hWz : W.heap.size = w.heap.size + 1 := by rw [← hW]; simp [World.drew]
  have hWx : W.heap[w.heap.size]? = some (.cells #[.int .i64 x.k, .int .i64 x.w, .int .i64 x.st, .int .i64 x.sh, .bool x.fill, .int .i64 x.c, .bool x.flag, .int .i64 (a : Nat), .int .i64 (A : Nat)] 40 (0, 0)) := by rw [← hW]; exact heap_alloc_new _ _
  clear hW
  have g0 := row_cell hWx
  have x0 := g0 0
  have x1 := g0 1
  have x2 := g0 2
  have x3 := g0 3
  have x4 := g0 4
  have x5 := g0 5
  have x6 := g0 6
  have x7 := g0 7
  have x8 := g0 8
  simp at x0 x1 x2 x3 x4 x5 x6 x7 x8
  have k1 : W.cell? ⟨bb, 1, none⟩ = some (.slice ao n cap) := hold hWb e1
  have hWblk : W.heap[bb]? = some (.cells #[.pointer (some ⟨tb, 0, none⟩), .slice ao n cap, .int .i64 (a : Nat), .int .i64 sy] 59 (0, 0)) := by rw [hWb.block bb q1]; exact HW.out
  have hWown := owns_below HO.out hWb
  have hne0 := own_ne hWown hWblk (by decide)
  have HX : Box (∀ v1 w1, (W.alloc (.cells #[.int .i64 x.k, .int .i64 x.w, .int .i64 x.st, .int .i64 x.sh, .bool x.fill, .int .i64 x.c, .bool x.flag, .int .i64 (a : Nat), .int .i64 (A : Nat)] 40)).drew.grownBy w1 (Value.slice ao n cap).ownBlock → w1.ownsRow w0.w.heap.size 40 9 v1 (n + 1) (ics L ++ [.int .i64 x.k, .int .i64 x.w, .int .i64 x.st, .int .i64 x.sh, .bool x.fill, .int .i64 x.c, .bool x.flag, .int .i64 (a : Nat), .int .i64 (A : Nat)]) →
      (w1.cell? ⟨bb, 1, none⟩ = some (.slice ao n cap) ∧ w1.cell? ⟨bb, 2, none⟩ = some (.int .i64 (a : Nat)) ∧ w1.frozen? ⟨bb, 1, none⟩ = false ∧ w1.frozen? ⟨bb, 2, none⟩ = false ∧ (w1.cell? ⟨w.heap.size, 0, none⟩ = some (.int .i64 x.k) ∧ w1.cell? ⟨w.heap.size, 1, none⟩ = some (.int .i64 x.w) ∧ w1.cell? ⟨w.heap.size, 2, none⟩ = some (.int .i64 x.st) ∧ w1.cell? ⟨w.heap.size, 3, none⟩ = some (.int .i64 x.sh) ∧ w1.cell? ⟨w.heap.size, 4, none⟩ = some (.bool x.fill) ∧ w1.cell? ⟨w.heap.size, 5, none⟩ = some (.int .i64 x.c) ∧ w1.cell? ⟨w.heap.size, 6, none⟩ = some (.bool x.flag) ∧ w1.cell? ⟨w.heap.size, 7, none⟩ = some (.int .i64 (a : Nat)) ∧ w1.cell? ⟨w.heap.size, 8, none⟩ = some (.int .i64 (A : Nat))) ∧ ((w1.setCell ⟨bb, 1, none⟩ v1).cell? ⟨w.heap.size, 0, none⟩ = some (.int .i64 x.k) ∧ (w1.setCell ⟨bb, 1, none⟩ v1).cell? ⟨w.heap.size, 1, none⟩ = some (.int .i64 x.w) ∧ (w1.setCell ⟨bb, 1, none⟩ v1).cell? ⟨w.heap.size, 2, none⟩ = some (.int .i64 x.st) ∧ (w1.setCell ⟨bb, 1, none⟩ v1).cell? ⟨w.heap.size, 3, none⟩ = some (.int .i64 x.sh) ∧ (w1.setCell ⟨bb, 1, none⟩ v1).cell? ⟨w.heap.size, 4, none⟩ = some (.bool x.fill) ∧ (w1.setCell ⟨bb, 1, none⟩ v1).cell? ⟨w.heap.size, 5, none⟩ = some (.int .i64 x.c) ∧ (w1.setCell ⟨bb, 1, none⟩ v1).cell? ⟨w.heap.size, 6, none⟩ = some (.bool x.flag) ∧ (w1.setCell ⟨bb, 1, none⟩ v1).cell? ⟨w.heap.size, 7, none⟩ = some (.int .i64 (a : Nat)) ∧ (w1.setCell ⟨bb, 1, none⟩ v1).cell? ⟨w.heap.size, 8, none⟩ = some (.int .i64 (A : Nat)))) ∧
      BS w0 tb bb ((w1.setCell ⟨bb, 1, none⟩ v1).setCell ⟨bb, 2, none⟩ (.int .i64 (A : Nat))) (L ++ [{ x with fr := (a : Nat), to := (A : Nat) }]) A sy) := boxed (by
    intro v1 w1 hg ho
    have hb1 : w1.heap[bb]? = some (.cells #[.pointer (some ⟨tb, 0, none⟩), .slice ao n cap, .int .i64 (a : Nat), .int .i64 sy] 59 (0, 0)) := by
      rw [hg.block bb (by simp [World.drew]; omega) hne0.symm]
      show (W.alloc _).heap[bb]? = _
      rw [heap_alloc_old _ _ (by omega)]
      exact hWblk
    have hx1 : w1.heap[w.heap.size]? = some (.cells #[.int .i64 x.k, .int .i64 x.w, .int .i64 x.st, .int .i64 x.sh, .bool x.fill, .int .i64 x.c, .bool x.flag, .int .i64 (a : Nat), .int .i64 (A : Nat)] 40 (0, 0)) := by
      rw [hg.block w.heap.size (by simp [World.drew]; omega) (fun e => by have := (HO.out.lt w.heap.size e.symm).2; omega)]
      show (W.alloc _).heap[w.heap.size]? = _
      rw [heap_alloc_old _ _ (by omega)]
      exact hWx
    have hne1 := own_ne ho hb1 (by decide)
    have hx2 : (w1.setCell ⟨bb, 1, none⟩ v1).heap[w.heap.size]? = some (.cells #[.int .i64 x.k, .int .i64 x.w, .int .i64 x.st, .int .i64 x.sh, .bool x.fill, .int .i64 x.c, .bool x.flag, .int .i64 (a : Nat), .int .i64 (A : Nat)] 40 (0, 0)) := by rw [set_far q3]; exact hx1
    refine ⟨⟨row_cell hb1 1, row_cell hb1 2, row_free hb1 1, row_free hb1 2, ⟨row_cell hx1 0, row_cell hx1 1, row_cell hx1 2, row_cell hx1 3, row_cell hx1 4, row_cell hx1 5, row_cell hx1 6, row_cell hx1 7, row_cell hx1 8⟩, ⟨row_cell hx2 0, row_cell hx2 1, row_cell hx2 2, row_cell hx2 3, row_cell hx2 4, row_cell hx2 5, row_cell hx2 6, row_cell hx2 7, row_cell hx2 8⟩⟩, ⟨hlo, ?_, ?_⟩, v1, ?_, ?_⟩
    · have hW0 : Below w0.w.heap.size w0.w W := HB.out.trans (hWb.mono HB.out.size)
      have h1 : Below w0.w.heap.size w0.w w1 := ((hW0.alloc hW0.size _).drew).grown hg (by simp [World.drew]; have := hW0.size; omega) (fun r hr => (HO.out.lt r hr).1)
      exact (h1.grown (grown_set w1 bb 1 v1) h1.size (fun r hr => by injection hr with hr; omega)).grown (grown_set _ bb 2 _) (by have := h1.size; simp; omega) (fun r hr => by injection hr with hr; omega)
    · have k1 : w0.kr W := HKR.out.below hWb
      have hbW := (((Below.refl W.heap.size W).alloc (Nat.le_refl _) (.cells #[.int .i64 x.k, .int .i64 x.w, .int .i64 x.st, .int .i64 x.sh, .bool x.fill, .int .i64 x.c, .bool x.flag, .int .i64 (a : Nat), .int .i64 (A : Nat)] 40)).drew)
      have k2 := (k1.below hbW).own (owns_below hWown hbW) hg
      exact (k2.set hb1).set (set_heap4 (i := 1) (v := v1) hb1)
    · have := set_heap4 (i := 2) (v := .int .i64 (A : Nat)) (set_heap4 (i := 1) (v := v1) hb1)
      exact this
    · rw [List.length_append, ics_app, ics_one, hn]
      exact ((ho.kept (grown_set w1 bb 1 v1) (Or.inr hne1)).kept (grown_set _ bb 2 _) (Or.inr hne1)))
  have HNw : Box (∀ j u, ([.int .i64 x.k, .int .i64 x.w, .int .i64 x.st, .int .i64 x.sh, .bool x.fill, .int .i64 x.c, .bool x.flag, .int .i64 (a : Nat), .int .i64 (A : Nat)] : List Value)[j]? = some u → (W.alloc (.cells #[.int .i64 x.k, .int .i64 x.w, .int .i64 x.st, .int .i64 x.sh, .bool x.fill, .int .i64 x.c, .bool x.flag, .int .i64 (a : Nat), .int .i64 (A : Nat)] 40)).drew.cell? ((⟨w.heap.size + 1, 0, none⟩ : Addr).add j) = some u) := boxed (by
    intro j u hj
    rw [Addr.add_lit, Nat.zero_add, ← hWz, World.cell?_drew, cell_first]
    simpa using hj)
  have H1c : Box (∀ u ∈ ([.int .i64 x.k, .int .i64 x.w, .int .i64 x.st, .int .i64 x.sh, .bool x.fill, .int .i64 x.c, .bool x.flag, .int .i64 (a : Nat), .int .i64 (A : Nat)] : List Value), u.oneCell' = true) := boxed (by
    intro u hu
    simp at hu
    rcases hu with rfl | rfl | rfl | rfl | rfl | rfl | rfl | rfl | rfl <;> rfl)
  have hb0 : w0.w.heap.size ≤ (W.alloc (.cells #[.int .i64 x.k, .int .i64 x.w, .int .i64 x.st, .int .i64 x.sh, .bool x.fill, .int .i64 x.c, .bool x.flag, .int .i64 (a : Nat), .int .i64 (A : Nat)] 40)).drew.heap.size := by have := HB.out.size; simp; omega
  clear e1 e2 y1 y2 g0
  have HS : Box (∀ W', Below W.heap.size W W' → (W'.cell? ⟨w.heap.size, 0, none⟩ = some (.int .i64 x.k) ∧ W'.cell? ⟨w.heap.size, 1, none⟩ = some (.int .i64 x.w) ∧ W'.cell? ⟨w.heap.size, 2, none⟩ = some (.int .i64 x.st) ∧ W'.cell? ⟨w.heap.size, 3, none⟩ = some (.int .i64 x.sh) ∧ W'.cell? ⟨w.heap.size, 4, none⟩ = some (.bool x.fill) ∧ W'.cell? ⟨w.heap.size, 5, none⟩ = some (.int .i64 x.c) ∧ W'.cell? ⟨w.heap.size, 6, none⟩ = some (.bool x.flag) ∧ W'.cell? ⟨w.heap.size, 7, none⟩ = some (.int .i64 (a : Nat)) ∧ W'.cell? ⟨w.heap.size, 8, none⟩ = some (.int .i64 (A : Nat)))) := boxed (fun W' hb => ⟨hold hb x0, hold hb x1, hold hb x2, hold hb x3, hold hb x4, hold hb x5, hold hb x6, hold hb x7, hold hb x8⟩)
  have HD0 : Box (Below W.heap.size W W.drew) := boxed (Below.refl _ _).drew
  have HDa : Box (Below W.heap.size W (W.alloc (.cells #[.int .i64 x.k, .int .i64 x.w, .int .i64 x.st, .int .i64 x.sh, .bool x.fill, .int .i64 x.c, .bool x.flag, .int .i64 (a : Nat), .int .i64 (A : Nat)] 40)).drew) := boxed (((Below.refl _ _).alloc (Nat.le_refl _) _).drew)
  have HOa := boxed (owns_below hWown HDa.out)
  clear hWown
  go_region_law
    (first | (refine step_append_own rfl _ _ 28 rfl w0.w.heap.size 40 i0 _ 9 72 Try.underlying28 hi hz0 hz1 hz2 rfl (by decide) _ _ _ rfl HOa.out ⟨w.heap.size + 1, 0, none⟩ 1 1 [.int .i64 x.k, .int .i64 x.w, .int .i64 x.st, .int .i64 x.sh, .bool x.fill, .int .i64 x.c, .bool x.flag, .int .i64 (a : Nat), .int .i64 (A : Nat)] rfl rfl HNw.out H1c.out (by unfold maxLen; omega) (by omega) hb0 ?_; intro v1 w1 hown1 hg1; obtain ⟨a1, c1, rfl⟩ := own_shape hown1; obtain ⟨⟨k1', k2, z1, z2, hs1, hs2⟩, hBS⟩ := HX.out _ w1 hg1 hown1; have HBS := boxed hBS; have x8w := hs1.2.2.2.2.2.2.2.2; clear hown1 hg1 hBS hs1 hs2))
  all_goals
    go_wp2
    refine bodyPost_end (results_none rfl _ _ _) rfl ?_
    exact ⟨rfl, HBS.out⟩
end Go.Proofs.Yteckbkcngkppmaa
