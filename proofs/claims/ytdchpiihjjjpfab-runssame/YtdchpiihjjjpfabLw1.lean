/-
  One call at both (kind 1): what the statements' step does.
-/
import Derived.Test.YtdchpiihjjjpfabLw
namespace Go.Proofs.Ytdchpiihjjjpfab
open Go.RowKit
set_option linter.unusedSimpArgs false
set_option linter.unusedVariables false

section
variable {N : Nat → Prop} {lb : Nat} {w : World} {ao : Option Addr} {cap : Nat} {b off cp : Nat} {s : List Int} {bare : Int} {o : Opr}

set_option maxRecDepth 100000 in
set_option maxHeartbeats 4000000 in
theorem step1_any (h : ListAt w lb ao cap s bare) (hr : RfAt N w b off cp s) (hN : ∀ k, N k → k ≠ lb) (hN2 : ∀ k, w.heap.size ≤ k → N k) (ho : OprOk (· ≠ lb) w o) (hk : o.kind = 1) : Calls Try.prog 19 #[.pointer (some ⟨lb, 0, none⟩), .agg #[.slice (some ⟨b, off, none⟩) s.length cp, .int .i64 bare], .agg #[.int .i64 o.kind, .int .i64 o.a, .int .i64 o.b, .int .i64 o.st, .slice o.ro o.rn o.rc]] w fun e w' => StepP N lb w s bare o e w' := by
  have hlt := h.lt
  have hri := fun (w1 : World) (hb : Below w.heap.size w w1) (hz : w.heap.size + 3 ≤ w1.heap.size) => rdelete_any (N := fun k => N k ∧ k ≠ w.heap.size + 2) (base := bare) ((hr.also (fun k hk hl => ⟨hk, by omega⟩)).below hb) (fun k hk => ⟨hN2 k (by omega), by omega⟩) o.a o.b ho.a ho.b
  have hli := fun (w1 : World) (hb : Below w.heap.size w w1) => delete_any (h.below hb) o.a o.b ho.a ho.b
  obtain ⟨W0, hW0⟩ : ∃ W0, ((w.alloc (.cells #[.slice (some ⟨b, off, none⟩) s.length cp, .int .i64 bare] 33)).alloc (.cells #[.int .i64 o.kind, .int .i64 o.a, .int .i64 o.b, .int .i64 o.st, .slice o.ro o.rn o.rc] 43)).alloc (.cells #[.slice none 0 0, .int .i64 0] 33) = W0 := ⟨_, rfl⟩
  have hB3 := b3_new w (.slice (some ⟨b, off, none⟩) s.length cp) (.int .i64 bare) (.int .i64 o.kind) (.int .i64 o.a) (.int .i64 o.b) (.int .i64 o.st) (.slice o.ro o.rn o.rc)
  rw [hW0] at hB3
  rw [hk] at hB3 hW0 ⊢
  have HB3 := boxed hB3
  have HRI := boxed (hri W0 hB3.below hB3.size)
  have HLI := boxed hli
  have HST : Box (stp s bare o = (delS s o.a o.b, delB s bare o.a o.b)) := boxed (by unfold stp; rw [if_neg (by omega), if_pos hk])
  have y0 := hB3.o0
  have y1 := hB3.o1
  have y2 := hB3.o2
  have y3 := hB3.o3
  have y4 := hB3.o4
  have z0 := hB3.x0
  have z1 := hB3.x1
  clear hri hli h hr ho hB3
  generalize o.a = A at *
  generalize o.b = B at *
  generalize o.st = C at *
  go_enter Try.func19, Try.ntmps19
  go_wp2_with fail
  refine HRI.out.mono ?_
  rintro e w1 ⟨b1, off1, cp1, rfl, hrf, hb1⟩
  have HRF := boxed hrf
  have HB1 := boxed (HB3.out.next hb1)
  clear hrf hb1 HRI y0 y1 y2 y3 y4 z0 z1
  generalize delS s A B = S1 at *
  generalize delB s bare A B = D1 at *
  generalize ofs (outb s.length A B) = E1 at *
  obtain ⟨wx, hwx⟩ : ∃ wx, w1.alloc (.cells #[.slice (some ⟨b1, off1, none⟩) S1.length cp1, .int .i64 D1] 33) = wx := ⟨_, rfl⟩
  have hbx : Below w1.heap.size w1 wx := by rw [← hwx]; exact (Below.refl _ _).alloc (Nat.le_refl _) _
  have HBx := boxed (HB1.out.next hbx)
  have HRx := boxed (HRF.out.below hbx)
  have xc0 : wx.cell? ⟨w1.heap.size, 0, none⟩ = some (.slice (some ⟨b1, off1, none⟩) S1.length cp1) := by rw [← hwx, cell_new _ _ _ _ _ rfl]; rfl
  have xc1 : wx.cell? ⟨w1.heap.size, 1, none⟩ = some (.int .i64 D1) := by rw [← hwx, cell_new _ _ _ _ _ rfl]; rfl
  have hzx : w1.heap.size < wx.heap.size := by rw [← hwx]; simp
  have hz1 := HB1.out.size
  have y1 := HBx.out.o1
  have y2 := HBx.out.o2
  have y3 := HBx.out.o3
  have y4 := HBx.out.o4
  have HX : Box (∀ W', wx.grownBy W' (some lb) → W'.cell? ⟨w1.heap.size, 0, none⟩ = some (.slice (some ⟨b1, off1, none⟩) S1.length cp1) ∧ W'.cell? ⟨w1.heap.size, 1, none⟩ = some (.int .i64 D1) ∧ W'.cell? ⟨w.heap.size + 1, 1, none⟩ = some (.int .i64 A) ∧ W'.cell? ⟨w.heap.size + 1, 2, none⟩ = some (.int .i64 B)) := boxed (fun W' hg => ⟨hg.cell xc0 (fun e => by injection e with e; dsimp only at e; omega), hg.cell xc1 (fun e => by injection e with e; dsimp only at e; omega), hg.cell y1 (fun e => by injection e with e; dsimp only at e; omega), hg.cell y2 (fun e => by injection e with e; dsimp only at e; omega)⟩)
  have HXS : Box (∀ w' u0 u1, wx.grownBy w' (some lb) → ((w'.setCell ⟨w.heap.size + 2, 0, none⟩ u0).setCell ⟨w.heap.size + 2, 1, none⟩ u1).cell? ⟨w1.heap.size, 0, none⟩ = some (.slice (some ⟨b1, off1, none⟩) S1.length cp1) ∧ ((w'.setCell ⟨w.heap.size + 2, 0, none⟩ u0).setCell ⟨w.heap.size + 2, 1, none⟩ u1).cell? ⟨w1.heap.size, 1, none⟩ = some (.int .i64 D1) ∧ ((w'.setCell ⟨w.heap.size + 2, 0, none⟩ u0).setCell ⟨w.heap.size + 2, 1, none⟩ u1).cell? ⟨w.heap.size + 1, 1, none⟩ = some (.int .i64 A) ∧ ((w'.setCell ⟨w.heap.size + 2, 0, none⟩ u0).setCell ⟨w.heap.size + 2, 1, none⟩ u1).cell? ⟨w.heap.size + 1, 2, none⟩ = some (.int .i64 B)) := boxed (fun w' u0 u1 hg => ⟨(World.cell?_setCell_far _ _ _ _ (by show w.heap.size + 2 ≠ w1.heap.size; omega)).trans ((World.cell?_setCell_far _ _ _ _ (by show w.heap.size + 2 ≠ w1.heap.size; omega)).trans (HX.out w' hg).1), (World.cell?_setCell_far _ _ _ _ (by show w.heap.size + 2 ≠ w1.heap.size; omega)).trans ((World.cell?_setCell_far _ _ _ _ (by show w.heap.size + 2 ≠ w1.heap.size; omega)).trans (HX.out w' hg).2.1), (World.cell?_setCell_far _ _ _ _ (by show w.heap.size + 2 ≠ w.heap.size + 1; omega)).trans ((World.cell?_setCell_far _ _ _ _ (by show w.heap.size + 2 ≠ w.heap.size + 1; omega)).trans (HX.out w' hg).2.2.1), (World.cell?_setCell_far _ _ _ _ (by show w.heap.size + 2 ≠ w.heap.size + 1; omega)).trans ((World.cell?_setCell_far _ _ _ _ (by show w.heap.size + 2 ≠ w.heap.size + 1; omega)).trans (HX.out w' hg).2.2.2)⟩)
  have HR : Box (∀ W', wx.grownBy W' (some lb) → W'.heap[w.heap.size + 2]? = some (.cells #[.slice none 0 0, .int .i64 0] 33 (0, 0))) := boxed (fun W' hg => by rw [hg.block _ (by have := HBx.out.size; omega) (fun e => by injection e; omega)]; exact HBx.out.r)
  have HD0 : Box (wx.grownBy wx.drew (some lb)) := boxed (below_grown (Below.refl _ _).drew _)
  have HDB : Box (Below w.heap.size w wx.drew) := boxed (HBx.out.below.trans (Below.refl _ _).drew)
  clear hbx xc0 xc1 y1 y2 y3 y4
  go_wp2_with fail
  go_region_held3 (fun W' => W'.cell? ⟨w1.heap.size, 0, none⟩ = some (.slice (some ⟨b1, off1, none⟩) S1.length cp1) ∧ W'.cell? ⟨w1.heap.size, 1, none⟩ = some (.int .i64 D1) ∧ W'.cell? ⟨w.heap.size + 1, 1, none⟩ = some (.int .i64 A) ∧ W'.cell? ⟨w.heap.size + 1, 2, none⟩ = some (.int .i64 B))
    (first | with_reducible exact HX.out _ HD0.out | with_reducible exact HX.out _ HD3.out | with_reducible exact HXS.out _ _ _ HD3.out)
    (first | (go_at_call 29; refine (HLI.out _ HDB.out).mono ?_; rintro e w3 ⟨rfl, ao3, cap3, hL3, hg3⟩; have HD3 := boxed (grown_trans HD0.out hg3); have HL3 := boxed hL3; clear hL3 hg3; obtain ⟨d0, d1, f0, f1⟩ := box_facts (HR.out _ HD3.out)))
  go_wp2
  have HP := put2_all (v0 := .slice (some ⟨b1, off1, none⟩) S1.length cp1) (v1 := .int .i64 D1) (HR.out _ HD3.out)
  refine bodyPost_ret (v := .tuple #[.agg #[.slice (some ⟨b1, off1, none⟩) S1.length cp1, .int .i64 D1], .bool true]) (by simp [results, Try.results19, go_sem, HP.1, HP.2.1]) rfl ?_
  exact step_end HST.out HL3.out (HRx.out.keep (fun k i u hs hc => ⟨hs, HD3.out.cell hc (fun e => by injection e with e; exact hN _ hs.1 e)⟩)) (HR.out _ HD3.out) (by omega) hlt (grown_trans (below_grown HBx.out.below _) HD3.out)
end
end Go.Proofs.Ytdchpiihjjjpfab
