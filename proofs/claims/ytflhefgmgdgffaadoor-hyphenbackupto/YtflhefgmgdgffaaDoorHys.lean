/-
  A struct of two lists that grow in a block that was there before; what the document's ReadWord answers.
-/
import Derived.Test.YtflhefgmgdgffaaDoorHyr
import Derived.Deep.RegionLaw
namespace Go.Proofs.YtflhefgmgdgffaaDoor
open Go.RowKit Go.Maps
set_option linter.unusedSimpArgs false
set_option linter.unusedVariables false

theorem step_append_own {P : Program} {w : World} {ops : Array Oper} {o : Oper} {a : Act} {K : Act → World → Prop} {Q : Exit → Act → World → Prop} {E : Prop} (hgd : o.guard = none) (s x : Operand) (t : TypeId)
    (ho : o.op = .call { callee := .builtin .append, args := #[s, x], argTypes := #[t, t] })
    (base : Nat) (e : TypeId) (i : TypeInfo) (z : Value) (size bytes : Nat) (ht : P.underlying t = some (.slice e)) (hi : P.info? e = some i) (hz : i.zero = some z)
    (hsize : i.size = size) (hby : i.bytes = bytes) (hzs : z.cells.size = size) (hsz : 0 < size)
    (v : Value) (n : Nat) (xs : List Value) (hs : a.eval s = v) (hown : w.ownsRow base e size v n xs)
    (ad : Addr) (m c : Nat) (news : List Value) (hx : a.eval x = .slice (some ad) m c) (hl : news.length = m * size) (hnews : ∀ j u, news[j]? = some u → w.cell? (ad.add j) = some u) (h1 : ∀ u ∈ news, u.oneCell' = true)
    (h63 : n + m ≤ maxLen) (hbytes : (n + m) * bytes ≤ 140737488355328) (hbase : base ≤ w.heap.size)
    (h : ∀ v' w', w'.ownsRow base e size v' (n + m) (xs ++ news) → w.grownBy w' v.ownBlock → K (a.put o.dst v') w') :
    if Region.wanted o (yielded ops a.tmps) = true then Oper.wp P o a w K Q else E := by
  have hw : Region.wanted o (yielded ops a.tmps) = true := by simp [Region.wanted, hgd]
  rw [if_pos hw]
  exact wp_append_own w s x t ho base e i z size bytes ht hi hz hsize hby hzs hsz v n xs hs hown ad m c news hx hl hnews h1 h63 hbytes hbase fun v' w' h2 h3 _ => h v' w' h2 h3
/-- A call of a Go function that leaves the memory, as one step of a region that draws. -/
theorem step_call {P : Program} {w : World} {ops : Array Oper} {o : Oper} {a : Act} {K : Act → World → Prop} {Q : Exit → Act → World → Prop} {E : Prop} (hgd : o.guard = none) (f : FuncId) (args : Array Value) (he : (execOp a.eval o).run P w = .ok (.enter f args) w) (v : Value)
    (c : Calls P f args w fun e w' => e = .returned v ∧ w' = w) (h : K (a.put o.dst v) w) : if Region.wanted o (yielded ops a.tmps) = true then Oper.wp P o a w K Q else E := by
  have hw : Region.wanted o (yielded ops a.tmps) = true := by simp [Region.wanted, hgd]
  rw [if_pos hw]
  unfold Oper.wp
  rw [he, Oper.upon_enter]
  refine c.mono ?_
  rintro e w' ⟨rfl, rfl⟩
  exact h
theorem chg_grown {D : Nat → Prop} {w1 wr w2 : World} {r : Option Nat} (h : Chg D w1 wr) (hg : wr.grownBy w2 r) (hr : ∀ g, r = some g → w1.heap.size ≤ g ∨ D g) : Chg D w1 w2 :=
  ⟨hg.os.trans h.os, hg.tape.trans h.tape, hg.output.trans h.output, Nat.le_trans h.size hg.size, fun k hk hd => by
    rw [hg.block k (Nat.lt_of_lt_of_le hk h.size) (fun e => by rcases hr k e.symm with c | c; omega; exact hd c)]
    exact h.block k hk hd⟩
/-- A struct of two lists of numbers that grow, in a block pb that was there before; the lists lie behind w1. -/
structure TwC (T : TypeId) (w1 : World) (pb : Nat) (vL vV : Value) (L V : List Nat) (wr : World) : Prop where
  chg : Chg (fun b => b = pb) w1 wr
  box : wr.heap[pb]? = some (.cells #[vL, vV] T (0, 0))
  oL : wr.ownsRow w1.heap.size 3 1 vL L.length (vals L)
  oV : wr.ownsRow w1.heap.size 3 1 vV V.length (vals V)
  ap : vL.ownBlock = none ∨ vL.ownBlock ≠ vV.ownBlock
section
variable {T : TypeId} {w1 wr : World} {pb : Nat} {vL vV : Value} {L V : List Nat}
theorem TwC.cells (h : TwC T w1 pb vL vV L V wr) : (wr.cell? ⟨pb, 0, none⟩ = some vL ∧ wr.cell? ⟨pb, 1, none⟩ = some vV) ∧ wr.frozen? ⟨pb, 0, none⟩ = false ∧ wr.frozen? ⟨pb, 1, none⟩ = false :=
  ⟨⟨by rw [cell_of_row _ _ _ _ _ _ h.box]; rfl, by rw [cell_of_row _ _ _ _ _ _ h.box]; rfl⟩, row_free h.box 0, row_free h.box 1⟩
theorem TwC.size (h : TwC T w1 pb vL vV L V wr) : w1.heap.size ≤ wr.heap.size := h.chg.size
theorem TwC.below (h : TwC T w1 pb vL vV L V wr) {w' : World} (hb : Below wr.heap.size wr w') : TwC T w1 pb vL vV L V w' :=
  ⟨h.chg.trans (Chg.of_below hb), (hb.block _ (heap_lt h.box)).trans h.box, owns_below h.oL hb, owns_below h.oV hb, h.ap⟩
theorem TwC.appL (h : TwC T w1 pb vL vV L V wr) (hT : T ≠ 3) {v' : Value} {w0 w2 : World} {x : Nat} (h0 : Below wr.heap.size wr w0) (hown : w2.ownsRow w1.heap.size 3 1 v' (L.length + 1) (vals L ++ [.int .i64 (x : Int)])) (hg : w0.grownBy w2 vL.ownBlock)
    (hw : v'.ownBlock = vL.ownBlock ∨ v'.ownBlock = some w0.heap.size) : TwC T w1 pb v' vV (L ++ [x]) V (w2.setCell ⟨pb, 0, none⟩ v') := by
  have h := h.below h0
  have hb2 : w2.heap[pb]? = some (.cells #[vL, vV] T (0, 0)) := by rw [hg.block pb (heap_lt h.box) (fun c => own_ne h.oL h.box hT c.symm)]; exact h.box
  have hs := grown_set w2 pb 0 v'
  have hc : Chg (fun b => b = pb) w1 w2 := chg_grown h.chg hg (fun k hk => .inl (h.oL.lt k hk).1)
  rw [vals_snoc] at hown
  have hl : (L ++ [x]).length = L.length + 1 := by simp
  have hV2 := h.oV.kept hg (apart2 h.ap)
  refine ⟨chg_grown hc hs (fun k hk => .inr (by injection hk with hk; exact hk.symm)), ?_, ?_, hV2.kept hs (.inr (own_ne hV2 hb2 hT)), ?_⟩
  · rw [arr_set v' hb2]; rfl
  · rw [hl]; exact hown.kept hs (.inr (own_ne hown hb2 hT))
  · rcases hw with hw | hw
    · rw [hw]; exact h.ap
    · right
      rw [hw]
      intro c
      have := (h.oV.lt _ c.symm).2
      omega
theorem TwC.appV (h : TwC T w1 pb vL vV L V wr) (hT : T ≠ 3) {v' : Value} {w0 w2 : World} {x : Nat} (h0 : Below wr.heap.size wr w0) (hown : w2.ownsRow w1.heap.size 3 1 v' (V.length + 1) (vals V ++ [.int .i64 (x : Int)])) (hg : w0.grownBy w2 vV.ownBlock)
    (hw : v'.ownBlock = vV.ownBlock ∨ v'.ownBlock = some w0.heap.size) : TwC T w1 pb vL v' L (V ++ [x]) (w2.setCell ⟨pb, 1, none⟩ v') := by
  have h := h.below h0
  have hb2 : w2.heap[pb]? = some (.cells #[vL, vV] T (0, 0)) := by rw [hg.block pb (heap_lt h.box) (fun c => own_ne h.oV h.box hT c.symm)]; exact h.box
  have hs := grown_set w2 pb 1 v'
  have hc : Chg (fun b => b = pb) w1 w2 := chg_grown h.chg hg (fun k hk => .inl (h.oV.lt k hk).1)
  rw [vals_snoc] at hown
  have hl : (V ++ [x]).length = V.length + 1 := by simp
  have hL2 := h.oL.kept hg h.ap
  refine ⟨chg_grown hc hs (fun k hk => .inr (by injection hk with hk; exact hk.symm)), ?_, hL2.kept hs (.inr (own_ne hL2 hb2 hT)), ?_, ?_⟩
  · rw [arr_set v' hb2]; rfl
  · rw [hl]; exact hown.kept hs (.inr (own_ne hown hb2 hT))
  · rcases hw with hw | hw
    · rw [hw]; exact h.ap
    · cases c : vL.ownBlock with
      | none => exact .inl rfl
      | some g =>
        right
        rw [hw]
        intro e
        injection e with e
        have := (h.oL.lt g c).2
        omega
end
/-- What is appended to a list of the call's own lies in the list's block or in a new one: as one step of a region that draws. -/
theorem step_append_apart {P : Program} {w : World} {ops : Array Oper} {o : Oper} {a : Act} {K : Act → World → Prop} {Q : Exit → Act → World → Prop} {E : Prop} (hgd : o.guard = none) (s x : Operand) (t : TypeId)
    (ho : o.op = .call { callee := .builtin .append, args := #[s, x], argTypes := #[t, t] })
    (base : Nat) (e : TypeId) (i : TypeInfo) (z : Value) (size bytes : Nat) (ht : P.underlying t = some (.slice e)) (hi : P.info? e = some i) (hz : i.zero = some z)
    (hsize : i.size = size) (hby : i.bytes = bytes) (hzs : z.cells.size = size) (hsz : 0 < size)
    (v : Value) (n : Nat) (xs : List Value) (hs : a.eval s = v) (hown : w.ownsRow base e size v n xs)
    (ad : Addr) (m c : Nat) (news : List Value) (hx : a.eval x = .slice (some ad) m c) (hl : news.length = m * size) (hnews : ∀ j u, news[j]? = some u → w.cell? (ad.add j) = some u) (h1 : ∀ u ∈ news, u.oneCell' = true)
    (h63 : n + m ≤ maxLen) (hbytes : (n + m) * bytes ≤ 140737488355328) (hbase : base ≤ w.heap.size) (hm : 0 < m)
    (h : ∀ v' w', w'.ownsRow base e size v' (n + m) (xs ++ news) → w.grownBy w' v.ownBlock → (v'.ownBlock = v.ownBlock ∨ v'.ownBlock = some w.heap.size) → K (a.put o.dst v') w') :
    if Region.wanted o (yielded ops a.tmps) = true then Oper.wp P o a w K Q else E := by
  have hw : Region.wanted o (yielded ops a.tmps) = true := by simp [Region.wanted, hgd]
  rw [if_pos hw]
  obtain ⟨v', w', hr, h2, h3, h4⟩ := run_append_own (P := P) w base t o.type e i z size bytes ht hi hz hsize hby hzs hsz v n xs hown ad m c news hl hnews h1 h63 hbytes hbase
  have h5 := append_where w base t o.type e i z size bytes ht hi hz hsize hby v n xs hown ad m c news hm hl hnews h1 h63 hbytes v' w' hr
  unfold Oper.wp execOp
  simp only [ho, resolve, invoke, builtin, Sem.run_bind, Sem.run_pure, Result.andThen_ok, List.map_toArray, List.map_cons, List.map_nil, hs, hx, hr]
  exact h v' w' h2 h3 h5
end Go.Proofs.YtflhefgmgdgffaaDoor
