/-
  What the program's Copy does.
-/
import Derived.Test.YtdchpiihjjjpfaaLz
import Derived.Deep.RegionHeld3
import Derived.Deep.AppendLies
namespace Go.Proofs.Ytdchpiihjjjpfaa
open Go.RowKit
set_option linter.unusedSimpArgs false
set_option linter.unusedVariables false

/-- Nothing is put behind what is owned. -/
theorem run_append_nothing {P : Program} {w : World} (base : Nat) (t ty e : TypeId) (i : TypeInfo) (size c : Nat) (ht : P.underlying t = some (.slice e)) (hi : P.info? e = some i)
    (v : Value) (n : Nat) (xs : List Value) (hown : w.ownsRow base e size v n xs) :
    (Builtin.append_ #[t, t] ty #[v, .slice none 0 c]).run P w = .ok v w := by
  rcases hown.2 with ⟨rfl, rfl⟩ | ⟨g, cap, cur, rfl, _, _, hnc, _⟩
  · simp [Builtin.append_, run_underlying ht, sizeOf, typeInfo, hi, Builtin.lenOf, Builtin.firstCells]
  · simp [Builtin.append_, run_underlying ht, sizeOf, typeInfo, hi, Builtin.lenOf, Builtin.firstCells, hnc, storeCells]
theorem step_append_nothing {P : Program} {w : World} {ops : Array Oper} {o : Oper} {a : Act} {K : Act → World → Prop} {Q : Exit → Act → World → Prop} {E : Prop} (hgd : o.guard = none) (s x : Operand) (t : TypeId)
    (ho : o.op = .call { callee := .builtin .append, args := #[s, x], argTypes := #[t, t] })
    (base : Nat) (e : TypeId) (i : TypeInfo) (size c : Nat) (ht : P.underlying t = some (.slice e)) (hi : P.info? e = some i)
    (v : Value) (n : Nat) (xs : List Value) (hs : a.eval s = v) (hown : w.ownsRow base e size v n xs) (hx : a.eval x = .slice none 0 c)
    (h : K (a.put o.dst v) w) : if Region.wanted o (yielded ops a.tmps) = true then Oper.wp P o a w K Q else E := by
  have hw : Region.wanted o (yielded ops a.tmps) = true := by simp [Region.wanted, hgd]
  rw [if_pos hw]
  have hrun := run_append_nothing (P := P) (w := w) base t o.type e i size c ht hi v n xs hown
  unfold Oper.wp
  simp [execOp, ho, resolve, invoke, builtin, hs, hx, hrun, Result.andThen]
  exact h
theorem step_append_own {P : Program} {w : World} {ops : Array Oper} {o : Oper} {a : Act} {K : Act → World → Prop} {Q : Exit → Act → World → Prop} {E : Prop} (hgd : o.guard = none) (s x : Operand) (t : TypeId)
    (ho : o.op = .call { callee := .builtin .append, args := #[s, x], argTypes := #[t, t] })
    (base : Nat) (e : TypeId) (i : TypeInfo) (z : Value) (size bytes : Nat) (ht : P.underlying t = some (.slice e)) (hi : P.info? e = some i) (hz : i.zero = some z)
    (hsize : i.size = size) (hby : i.bytes = bytes) (hzs : z.cells.size = size) (hsz : 0 < size)
    (v : Value) (n : Nat) (xs : List Value) (hs : a.eval s = v) (hown : w.ownsRow base e size v n xs)
    (ad : Addr) (m c : Nat) (news : List Value) (hx : a.eval x = .slice (some ad) m c) (hl : news.length = m * size) (hnews : ∀ j u, news[j]? = some u → w.cell? (ad.add j) = some u) (h1 : ∀ u ∈ news, u.oneCell' = true)
    (h63 : n + m ≤ maxLen) (hbytes : (n + m) * bytes ≤ 140737488355328) (hbase : base ≤ w.heap.size)
    (h : ∀ v' w', w'.ownsRow base e size v' (n + m) (xs ++ news) → w.grownBy w' v.ownBlock → K (a.put o.dst v') w') :
    if Region.wanted o (yielded ops a.tmps) = true then Oper.wp P o a w K Q else E := by
  have hw : Region.wanted o (yielded ops a.tmps) = true := by simp [Region.wanted, hgd]
  rw [if_pos hw]
  exact wp_append_own w s x t ho base e i z size bytes ht hi hz hsize hby hzs hsz v n xs hs hown ad m c news hx hl hnews h1 h63 hbytes hbase fun v' w' h2 h3 _ => h v' w' h2 h3
theorem pcs_one (a : Nat) (R : List (Nat × Int)) : ∀ u ∈ pcs a R, u.oneCell' = true := by
  induction R generalizing a with
  | nil => intro u hu; simp [pcs] at hu
  | cons p r ih =>
    intro u hu
    simp only [pcs, List.mem_cons] at hu
    rcases hu with rfl | rfl | hu
    · rfl
    · rfl
    · exact ih _ u hu
theorem pcs_cells {S : Nat → Prop} {w : World} {ad : Addr} {s : List Int} (h : PartsAt S w (some ad) s) : ∀ j u, (pcs 0 (enc s))[j]? = some u → w.cell? (ad.add j) = some u := by
  intro j u hj
  have hl : j < (pcs 0 (enc s)).length := (List.getElem?_eq_some_iff.1 hj).1
  rw [pcs_len] at hl
  obtain ⟨p1, p2⟩ := pcs_get 0 (enc s) (j / 2) (by omega)
  obtain ⟨-, b, off, e, -, c0, c1⟩ := h (j / 2) (by omega)
  injection e with e
  subst e
  rw [Addr.add_lit]
  by_cases hp : j % 2 = 0
  · have ej : j = j / 2 * 2 := by omega
    rw [← ej] at p1 c0
    rw [hj] at p1
    rw [c0, p1]; simp
  · have ej : j = j / 2 * 2 + 1 := by omega
    rw [Nat.add_assoc, ← ej] at c1
    rw [← ej] at p2
    rw [hj] at p2
    rw [c1, p2]
def CpyP (s : List Int) (bare : Int) (w : World) (e : Ending) (w' : World) : Prop :=
  ∃ lc ac cc, e = .returned (.pointer (some ⟨lc, 0, none⟩)) ∧ w.heap.size ≤ lc ∧ ListAt w' lc ac cc s bare ∧ PartsAt (fun b => w.heap.size ≤ b) w' ac s ∧ Below w.heap.size w w'
theorem CpyP.drew {s : List Int} {bare : Int} {w w' : World} {e : Ending} (h : CpyP s bare w e w') : CpyP s bare w e w'.drew := by
  obtain ⟨lc, ac, cc, h1, h2, h3, h4, h5⟩ := h
  exact ⟨lc, ac, cc, h1, h2, h3.below (Below.refl _ _).drew, h4.below (Below.refl _ _).drew, h5.drew⟩
section
variable {w : World} {lb : Nat} {ao : Option Addr} {cap : Nat} {s : List Int} {bare : Int}

set_option maxRecDepth 100000 in
set_option maxHeartbeats 2000000 in
theorem copy_any (h : ListAt w lb ao cap s bare) : Calls Try.prog 26 #[.pointer (some ⟨lb, 0, none⟩)] w fun e w' => CpyP s bare w e w' := by
  obtain ⟨i0, hi, hz0, hz1, hz2⟩ := info_parts info_part
  have hle := enc_len s
  have hl := h.len
  have hs := h.ok
  have hbr := h.bare
  have hlt := h.lt
  have c0 := h.c0
  have c1 := h.c1
  have hd : Below w.heap.size w w.drew := (Below.refl _ _).drew
  have hmk0 := World.ownsRow_made (base := w.heap.size) (e := 78) (size := 2) w #[] 0 (Nat.le_refl _) (by unfold maxLen; omega) (by simp)
  have hb00 : Below w.heap.size w (w.alloc (.cells #[] 78)) := (Below.refl _ _).alloc (Nat.le_refl _) _
  have hmk := owns_below hmk0 ((Below.refl _ _).drew)
  have hb0 : Below w.heap.size w (w.alloc (.cells #[] 78)).drew := hb00.drew
  have hsz0 : (w.alloc (.cells #[] 78)).drew.heap.size = w.heap.size + 1 := by show (w.alloc _).heap.size = _; simp
  have HX : Box (∀ W', Below w.heap.size w W' → W'.cell? ⟨lb, 0, none⟩ = some (.slice ao (enc s).length cap) ∧ W'.cell? ⟨lb, 1, none⟩ = some (.int .i64 bare)) := boxed (fun W' hb => ⟨hold hb c0, hold hb c1⟩)
  have HD := boxed hd
  have HD0 := boxed hb0
  have hz0' := hb0.size
  have HF : Box (∀ (W : World) v, Below w.heap.size w W → W.ownsRow w.heap.size 78 2 v (enc s).length (pcs 0 (enc s)) → ∃ ac cc, v = .slice ac (enc s).length cc ∧ CpyP s bare w (.returned (.pointer (some ⟨W.heap.size, 0, none⟩))) (W.alloc (.cells #[.slice ac (enc s).length cc, .int .i64 bare] 73))) := boxed (fun W v hb ho => by
    obtain ⟨ac, cc, rfl⟩ : ∃ ac cc, v = .slice ac (enc s).length cc := by
      rcases ownsRow_forms ho with ⟨g1, g2⟩ | ⟨g, c, g1⟩
      · exact ⟨none, 0, by rw [g2]; exact g1⟩
      · exact ⟨_, _, g1⟩
    obtain ⟨l1, l2⟩ := list_new (w := w) (bare := bare) hb.size ho hs hl hbr
    exact ⟨ac, cc, rfl, _, ac, cc, rfl, hb.size, l1, l2, hb.alloc hb.size _⟩)
  cases ao with
  | none =>
    have hz : (enc s).length = 0 := by
      by_cases c : (enc s).length = 0
      · exact c
      · obtain ⟨b, off, e, -⟩ := h.pts.form (by omega)
        cases e
    have HG := boxed (HF.out _ _ hb00 (by
      have e : enc s = [] := List.eq_nil_of_length_eq_zero hz
      rw [e]; exact hmk0))
    have HD1 : Box (Below w.heap.size w ((w.alloc (.cells #[] 78)).alloc (.cells #[.slice (some ⟨w.heap.size, 0, none⟩) 0 0, .int .i64 bare] 73)).drew) := boxed (hb00.alloc hb00.size _).drew
    rw [hz] at c0 HG HX
    clear h HF hb0 hb00 hd c0 c1
    go_enter Try.func26, Try.ntmps26
    go_wp2_with fail
    go_region_held3 (fun W' => W'.cell? ⟨lb, 0, none⟩ = some (.slice none 0 cap) ∧ W'.cell? ⟨lb, 1, none⟩ = some (.int .i64 bare))
      (first | with_reducible exact HX.out _ HD.out | with_reducible exact HX.out _ HD0.out | with_reducible exact HX.out _ HD1.out)
      (first | (refine step_append_nothing rfl _ _ 71 rfl w.heap.size 78 i0 2 cap Try.underlying71 hi _ _ _ rfl hmk rfl ?_))
    go_wp2
    go_ret
    obtain ⟨ac, cc, e, hg⟩ := HG.out
    injection e with e1 e2 e3
    subst e1; subst e3
    have ez : (w.alloc (.cells #[] 78)).heap.size = w.heap.size + 1 := by simp
    rw [ez] at hg
    exact hg.drew
  | some ad =>
    have HC := boxed (fun (W : World) (hb : Below w.heap.size w W) => pcs_cells (h.pts.below hb))
    clear h hb0 hb00 hd c0 c1 hmk0
    have el := pcs_len 0 (enc s)
    have eo := pcs_one 0 (enc s)
    generalize enc s = E at *
    generalize pcs 0 E = PC at *
    go_enter Try.func26, Try.ntmps26
    go_wp2_with fail
    go_region_held3 (fun W' => W'.cell? ⟨lb, 0, none⟩ = some (.slice (some ad) E.length cap) ∧ W'.cell? ⟨lb, 1, none⟩ = some (.int .i64 bare))
      (first | with_reducible exact HX.out _ HD.out | with_reducible exact HX.out _ HD0.out | with_reducible exact HX.out _ HD1.out | with_reducible exact HX.out _ (HD1.out.alloc HD1.out.size _))
      (first | (refine step_append_own rfl _ _ 71 rfl w.heap.size 78 i0 _ 2 16 Try.underlying71 hi hz0 hz1 hz2 rfl (by decide) _ _ _ rfl hmk ad E.length cap PC rfl el (HC.out _ HD0.out) eo (by unfold maxLen; omega) (by omega) (by omega) ?_; intro v1 w1 hown1 hg1; simp only [Nat.zero_add, List.nil_append] at hown1; have HD1 : Box (Below w.heap.size w w1) := boxed (HD0.out.grown hg1 HD0.out.size (fun r e => owns_ge hmk r e)); obtain ⟨ac, cc, rfl, hg⟩ := HF.out w1 v1 HD1.out (by simpa using hown1); have HG := boxed hg; clear hg hown1 hg1))
    go_wp2
    go_ret
    exact HG.out
end
end Go.Proofs.Ytdchpiihjjjpfaa
