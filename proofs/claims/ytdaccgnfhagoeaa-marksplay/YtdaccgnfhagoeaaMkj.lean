/-
  What the program's All and Between answer.
-/
import Derived.Test.YtdaccgnfhagoeaaMkh
import Derived.OwnWalk
import Derived.Laws.CopyOwn
namespace Go.Proofs.Ytdaccgnfhagoeaa
open Go.RowKit
set_option linter.unusedSimpArgs false
set_option linter.unusedVariables false

theorem grown_row (w : World) (g : Nat) (cs : Array Value) : w.grownBy (w.setRow g cs) (some g) :=
  ⟨rfl, rfl, rfl, by simp [World.setRow], fun k _ hk => setRow_other w g k cs (fun e => hk (by simp [e]))⟩
theorem grown_refl (w : World) (r : Option Nat) : w.grownBy w r := ⟨rfl, rfl, rfl, Nat.le_refl _, fun _ _ _ => rfl⟩
/-- A whole row copied onto a row of its length. -/
theorem run_copy3 (w : World) (ty : TypeId) (sp : Option Addr) (n dCap sCap g : Nat) (cur cs : List Value) (hg : w.heap[g]? = some (.cells cur.toArray 36 (0, 0)))
    (hl : cs.length = n * 3) (hc : cur.length = n * 3) (hpos : 0 < n → ∃ b o, sp = some ⟨b, o, none⟩ ∧ ∀ j v, cs[j]? = some v → w.cell? ⟨b, o + j, none⟩ = some v) (h1 : ∀ v ∈ cs, v.oneCell' = true) :
    ∃ w', (Builtin.copy_ #[42, 42] ty #[.slice (some ⟨g, 0, none⟩) n dCap, .slice sp n sCap]).run Try.prog w = .ok (goInt n) w' ∧ w'.heap[g]? = some (.cells cs.toArray 36 (0, 0)) ∧ w.grownBy w' (some g) := by
  obtain ⟨i0, hi, hz0, hz1, hz2⟩ := info_parts info_mark
  have hs : splice cur 0 cs = cs := by simp [splice, hl, hc]
  by_cases h0 : n = 0
  · subst h0
    have hcs : cs = [] := List.eq_nil_of_length_eq_zero (by omega)
    have hcu : cur = [] := List.eq_nil_of_length_eq_zero (by omega)
    subst hcs; subst hcu
    have hld : ∀ (x : Addr), (loadCells x 0).run Try.prog w = .ok #[] w := fun x => by simpa using run_loadCells_list (P := Try.prog) w x [] (by simp)
    refine ⟨w, ?_, hg, grown_refl _ _⟩
    cases sp <;> simp [Builtin.copy_, run_underlying Try.underlying42, Builtin.lenOf, Builtin.firstCells, sizeOf, typeInfo, hi, storeCells, hld]
  · obtain ⟨b, o, rfl, hsrc⟩ := hpos (by omega)
    have hld := run_loadCells_list (P := Try.prog) w ⟨b, o, none⟩ cs (fun j v hj => by rw [Addr.add_lit]; exact hsrc j v hj)
    have hst := run_storeCells_at Try.prog g 0 36 cs 0 cur.toArray w hg (by simp; omega) h1
    rw [hl] at hld
    suffices hS : ∃ w', (Builtin.copy_ #[42, 42] ty #[.slice (some ⟨g, 0, none⟩) n dCap, .slice (some ⟨b, o, none⟩) n sCap]).run Try.prog w = .ok (goInt n) w' ∧ w'.heap[g]? = some (.cells (splice cur 0 cs).toArray 36 (0, 0)) ∧ w.grownBy w' (some g) by
      rw [hs] at hS; exact hS
    refine ⟨_, ?_, setRow_heap w g _ _ _ _ hg, grown_row w g _⟩
    simp [Builtin.copy_, run_underlying Try.underlying42, Builtin.lenOf, Builtin.firstCells, sizeOf, typeInfo, hi, hz1, hld, hst, splice]
section
variable {w : World} {ops : Array Oper} {rest : List Oper} {o : Oper} {a : Act} {K : Act → World → Prop} {Q : Exit → Act → World → Prop} {E : Prop}
theorem wpList_copy3 (hgd : o.guard = none) (d s : Operand) (ho : o.op = .call { callee := .builtin .copy, args := #[d, s], argTypes := #[42, 42] })
    (sp : Option Addr) (n dCap sCap g : Nat) (hd : a.eval d = .slice (some ⟨g, 0, none⟩) n dCap) (hs : a.eval s = .slice sp n sCap)
    (cur cs : List Value) (hg : w.heap[g]? = some (.cells cur.toArray 36 (0, 0)))
    (hl : cs.length = n * 3) (hc : cur.length = n * 3) (hpos : 0 < n → ∃ b o, sp = some ⟨b, o, none⟩ ∧ ∀ j v, cs[j]? = some v → w.cell? ⟨b, o + j, none⟩ = some v) (h1 : ∀ v ∈ cs, v.oneCell' = true)
    (h : ∀ w', Box (w'.heap[g]? = some (.cells cs.toArray 36 (0, 0))) → Box (w.grownBy w' (some g)) → wpList Try.prog ops Q rest (a.put o.dst (goInt n)) w') : wpList Try.prog ops Q (o :: rest) a w := by
  obtain ⟨w', hr, h2, h3⟩ := run_copy3 w o.type sp n dCap sCap g cur cs hg hl hc hpos h1
  refine wpList_plain hgd fun K hK => ?_
  unfold Oper.wp execOp
  simp only [ho, resolve, invoke, builtin, Sem.run_bind, Sem.run_pure, Result.andThen_ok, List.map_toArray, List.map_cons, List.map_nil, hd, hs, hr]
  exact hK _ _ (h w' (boxed h2) (boxed h3))
end
/-- The cells that a set's own row holds. -/
theorem own_src {w : World} {B e n : Nat} {ao : Option Addr} {cap : Nat} {L : List Mk} (h : w.ownsRow B e 3 (.slice ao n cap) n (mcs L)) (hn : 0 < n) : ∃ b o, ao = some ⟨b, o, none⟩ ∧ ∀ j v, (mcs L)[j]? = some v → w.cell? ⟨b, o + j, none⟩ = some v := by
  rcases h.2 with ⟨e1, h2⟩ | ⟨g, cap', cur, e1, hB, hh, hcap, hmx, hsz, hx⟩
  · omega
  · injection e1 with e1 e2 e3
    subst e1; subst e3
    have hC := fun j => h.cellAt j
    refine ⟨g, 0, rfl, fun j v hj => ?_⟩
    have hjl : j < (mcs L).length := by
      rcases Nat.lt_or_ge j (mcs L).length with c | c
      · exact c
      · rw [List.getElem?_eq_none (by omega)] at hj; cases hj
    have := hC j (by have := h.1; omega)
    rw [Nat.zero_add, this, hj]
section
variable {B : Nat} {w : World} {sb : Nat} {v : Value} {s : St} {N : Int}
set_option maxRecDepth 100000 in
set_option maxHeartbeats 2000000 in
theorem all16_any (h : PS B w sb v s) (hk : s.ok N) : Calls Try.prog 16 #[.pointer (some ⟨sb, 0, none⟩)] w fun e w' => (∃ g, e = .returned (.slice (some ⟨g, 0, none⟩) s.L.length s.L.length) ∧ w'.ownsRow w.heap.size 36 3 (.slice (some ⟨g, 0, none⟩) s.L.length s.L.length) s.L.length (mcs (srt s.L))) ∧ Below w.heap.size w w' := by
  obtain ⟨⟨c0, c1, c2⟩, -⟩ := h.cells
  obtain ⟨ao, cap, rfl⟩ := own_shape h.own
  obtain ⟨i0, hi, hz0, hz1, hz2⟩ := info_parts info_mark
  have hlen := hk.len
  have HR := boxed hk.rise
  have HP := boxed h
  have hsb := h.lt
  have hls : (mcs (srt s.L)).length = s.L.length * 3 := by rw [mcs_len, srt_len]
  have hlm := mcs_len s.L
  clear h hk
  have HM1 : Box (∀ w1, w1.ownsRow w.heap.size 36 3 (.slice (some ⟨w.heap.size, 0, none⟩) s.L.length s.L.length) s.L.length (madeCells (Value.agg #[.int .i64 0, .int .i64 0, .bool false]).cells (s.L.length * 3)).toList → w.grownBy w1 none → w1.cell? ⟨sb, 2, none⟩ = some (.slice ao s.L.length cap) ∧ Box (PS B w1 sb (.slice ao s.L.length cap) s) ∧ Box (Below w.heap.size w w1) ∧ Box (∃ cur : List Value, w1.heap[w.heap.size]? = some (.cells cur.toArray 36 (0, 0)) ∧ cur.length = s.L.length * 3)) := boxed (by
    intro w1 hown hgr
    have hb1 : Below w.heap.size w w1 := ⟨hgr.os, hgr.tape, hgr.output, hgr.size, fun k hk => hgr.block k hk (fun e => by cases e)⟩
    refine ⟨hold hb1 c2, boxed (HP.out.below hb1), boxed hb1, boxed ?_⟩
    rcases hown.2 with ⟨e, -⟩ | ⟨g, cap', cu, e, -, hh, -, -, hsz, -⟩
    · cases e
    · injection e with e _ e3
      injection e with e
      injection e with e
      subst e; subst e3
      exact ⟨cu.toList, by simpa using hh, by simpa using hsz⟩)
  have hone := boxed (mcs_one s.L)
  go_enter Try.func16, Try.ntmps16
  go_wp2_with (first | (at_make; refine wpList_make_full _ rfl _ _ 42 rfl w.heap.size 36 i0 _ 3 Try.underlying42 hi hz0 hz1 .i64 .i64 _ _ s.L.length rfl rfl (by omega) (by omega) (by rw [hz2]; omega) (by unfold maxLen; omega) (Nat.le_refl _) ?_; intro w1 hown hgr; obtain ⟨c2', HP1, HB1, HCu⟩ := HM1.out w1 hown hgr; obtain ⟨cur, hcur, hcl⟩ := HCu.out; clear hown hgr HCu) | (with_reducible (show wpList _ _ _ ({ dst := _, op := Op.call { callee := Callee.builtin Builtin.copy, args := _, argTypes := _ }, type := _, pos := _, after := _, guard := _ } :: _) _ _); refine wpList_copy3 rfl _ _ rfl ao s.L.length _ cap w.heap.size rfl rfl cur (mcs s.L) hcur hlm hcl (own_src HP1.out.own) hone.out ?_; intro w2 h1 h2))
  have HS := boxed (sort16_any w.heap.size s.L.length s.L w2 h1.out (by omega) HR.out)
  go_wp2_with fail
  refine HS.out.mono ?_
  rintro e w3 ⟨rfl, h3, h4⟩
  have HF : Box (w3.ownsRow w.heap.size 36 3 (.slice (some ⟨w.heap.size, 0, none⟩) s.L.length s.L.length) s.L.length (mcs (srt s.L)) ∧ Below w.heap.size w w3) := boxed (by
    refine ⟨⟨hls, .inr ⟨_, _, _, rfl, Nat.le_refl _, h3, Nat.le_refl _, by unfold maxLen; omega, by simp [hls], by rw [← hls]; simp⟩⟩, ?_⟩
    have q1 : Chg (fun b => b = w.heap.size) w w3 := ((Chg.of_below HB1.out).trans (Chg.of_grown h2.out (fun g e => by injection e with e; exact e.symm))).trans h4
    exact q1.below (Nat.le_refl _) (fun b hb => by omega))
  clear h3 h4 HS h1 h2
  go_wp2_with fail
  go_ret
  exact ⟨⟨_, rfl, HF.out.1⟩, HF.out.2⟩
end
end Go.Proofs.Ytdaccgnfhagoeaa
