/-
  What add does: the walk.
-/
import Derived.Test.YtmnnmnggakbipaaQp
namespace Go.Proofs.Ytmnnmnggakbipaa
open Go.RowKit
set_option linter.unusedSimpArgs false
set_option linter.unusedVariables false

set_option maxRecDepth 100000 in
set_option maxHeartbeats 4000000 in
theorem add_any (w : World) (F : Nat → Prop) (cb mb : Nat) (room fo mi : Int) (L : List En) (e : En) (Bk : Int → List Nat) (M : Int → Option Value) (a z : Option Nat) (h : CaAt w F cb mb room fo mi L Bk M) (hE : EnAt w e a z) (hFe : ¬ F e.b) (hk : KvAt (fun b => (¬ F b ∧ cb ≤ b) ∧ b ≠ e.b) w e.k ∧ Fits e.k ∧ e.k.rn ≤ e.k.rc) (hok : ∀ x ∈ L, KvAt (fun b => (¬ F b ∧ cb ≤ b) ∧ b ≠ e.b) w x.k) (hky : ∀ x ∈ L, x.k.ky ≠ e.k.ky) (hlen : ((L.length : Nat) : Int) < room) :
    Calls Try.prog 45 #[.pointer (some ⟨cb, 0, none⟩), .pointer (some ⟨e.b, 0, none⟩)] w fun r w' => r = .returned (.tuple #[]) ∧ ∃ F' Bk' M', CaAt w' F' cb mb room fo mi (e :: L) Bk' M' ∧ (∀ b, F' b → F b ∨ b = e.b ∨ w.heap.size ≤ b) ∧ Chg (fun b => F b ∨ b = e.b) w w' := by
  obtain ⟨i0, hi, hz0, hz1, hz2⟩ := info_parts (show (Try.prog.info? 74).map (fun i => (i.zero, i.size, i.bytes)) = some (some (.pointer none), 1, 8) by kernel_rfl)
  obtain ⟨g, hg⟩ : ∃ g, hsh e.k.ky = g := ⟨_, rfl⟩
  have hU : U64 g := by rw [← hg]; exact hsh_U64 _
  have hsm := h.small g
  have hLl : L.length ≤ 4096 := by
    have h1 := h.len
    have h2 := h.room.2
    omega
  obtain ⟨⟨n1, n2⟩, n3⟩ := h.far
  have hec := h.ca.ne hE
  have hem := h.bk.map.ne_cells hE
  have hnb : ∀ x ∈ L, x.b ≠ e.b := fun x hx c => hFe (by rw [← c]; exact h.fe x hx)
  have hnd : ((e :: L).map En.b).Nodup := by
    rw [List.map_cons, List.nodup_cons]
    exact ⟨fun c => by obtain ⟨x, hx, e1⟩ := List.mem_map.1 c; exact hnb x hx e1, h.nd⟩
  have hBa : Below w.heap.size w (w.alloc (.cells #[.pointer (some ⟨e.b, 0, none⟩)] 74)).drew := ((Below.refl _ _).alloc (Nat.le_refl _) _).drew
  have hBd : Below w.heap.size w w.drew := (Below.refl _ _).drew
  have hlk1 := (h.below hBd).look hU
  have hlk2 := (h.below hBa).look hU
  have HOa := boxed ((h.below hBa).bk.row g)
  have p4 : w.drew.cell? ⟨cb, 4, none⟩ = some (.map (some mb)) := h.ca.cells.2.2.2.2.1
  have p12 : w.drew.cell? ⟨e.b, 12, none⟩ = some (.int .u64 g) := by rw [← hg]; exact hE.cells.2.2.2.2.2.2.2.2.2.2.2.2.1
  have q4 : (w.alloc (.cells #[.pointer (some ⟨e.b, 0, none⟩)] 74)).drew.cell? ⟨cb, 4, none⟩ = some (.map (some mb)) := (h.below hBa).ca.cells.2.2.2.2.1
  have q12 : (w.alloc (.cells #[.pointer (some ⟨e.b, 0, none⟩)] 74)).drew.cell? ⟨e.b, 12, none⟩ = some (.int .u64 g) := hold hBa p12
  have HNw : Box (∀ j u, ([.pointer (some ⟨e.b, 0, none⟩)] : List Value)[j]? = some u → (w.alloc (.cells #[.pointer (some ⟨e.b, 0, none⟩)] 74)).drew.cell? ((⟨w.heap.size, 0, none⟩ : Addr).add j) = some u) := boxed (by
    intro j u hj
    rw [Addr.add_lit, Nat.zero_add, World.cell?_drew, cell_new w _ _ _ j rfl]
    simpa using hj)
  have H1c : Box (∀ u ∈ ([.pointer (some ⟨e.b, 0, none⟩)] : List Value), u.oneCell' = true) := boxed (by
    intro u hu
    simp at hu
    subst hu
    rfl)
  have HX : Box (∀ v1 w1, w1.ownsRow 0 74 1 v1 ((Bk g).length + 1) (pts (Bk g) ++ [.pointer (some ⟨e.b, 0, none⟩)]) → (w.alloc (.cells #[.pointer (some ⟨e.b, 0, none⟩)] 74)).drew.grownBy w1 (bv M g).ownBlock → (v1.ownBlock = (bv M g).ownBlock ∨ v1.ownBlock = some (w.alloc (.cells #[.pointer (some ⟨e.b, 0, none⟩)] 74)).drew.heap.size) →
      ∃ w2, (Instr.mapUpdate 73 (.map (some mb)) (.int .u64 g) v1).run Try.prog w1 = .ok () w2 ∧ w1.cell? ⟨cb, 4, none⟩ = some (.map (some mb)) ∧ w1.cell? ⟨e.b, 12, none⟩ = some (.int .u64 g) ∧
        (CaB w2 cb room (L.length : Nat) fo mi mb (hd L none) (lst none L) ∧ Seg w2 none L none ∧ EnAt w2 e a z) ∧ ∀ w4, CaB w4 cb room (L.length : Nat) fo mi mb (some e.b) (lst none (e :: L)) → Seg w4 none (e :: L) none → Chg (fun b => b = cb ∨ b = e.b ∨ b ∈ L.map En.b) w2 w4 →
        ∃ F' Bk' M', CaAt (w4.setCell ⟨cb, 1, none⟩ (.int .i64 ((L.length : Nat) + 1 : Int))) F' cb mb room fo mi (e :: L) Bk' M' ∧ (∀ b, F' b → F b ∨ b = e.b ∨ w.heap.size ≤ b) ∧ Chg (fun b => F b ∨ b = e.b) w (w4.setCell ⟨cb, 1, none⟩ (.int .i64 ((L.length : Nat) + 1 : Int)))) := boxed (by
    intro v1 w1 ho1 hg1 hw1
    have hg1' : w.grownBy w1 (bv M g).ownBlock := grown_trans ⟨hBa.os, hBa.tape, hBa.output, hBa.size, fun k hk _ => hBa.block k hk⟩ hg1
    have hcb : (bv M g).ownBlock ≠ some cb := fun c => (n3 g cb c).1 rfl
    have hmbx : (bv M g).ownBlock ≠ some mb := fun c => (n3 g mb c).2.1 rfl
    have hebx : (bv M g).ownBlock ≠ some e.b := fun c => hFe (h.bk.fr g _ c)
    have hLx : ∀ x ∈ L, (bv M g).ownBlock ≠ some x.b := fun x hx c => (n3 g x.b c).2.2 x hx rfl
    have hCa1 := h.ca.keep (hg1'.block _ (heap_lt h.ca) (Ne.symm hcb))
    have hSg1 := h.seg.keep (fun x hx => hg1'.block _ (h.seg.lt x hx) (Ne.symm (hLx x hx)))
    have hE1 := hE.keep (hg1'.block _ (heap_lt hE) (Ne.symm hebx))
    have hMp1 := h.bk.map.keep (hg1'.block _ h.bk.map.lt (Ne.symm hmbx))
    obtain ⟨w2, hrun, hM2, hg2⟩ := hMp1.put (P := Try.prog) (t := 73) (k := 56) (el := 105) (by kernel_rfl) (by kernel_rfl) hU v1
    have hmb : ∀ k, k < w1.heap.size → k ≠ mb → w2.heap[k]? = w1.heap[k]? := fun k hk hne => hg2.block k hk (fun c => hne (by injection c))
    have hv1 : ∀ b, v1.ownBlock = some b → b ≠ mb := fun b hb => by
      rcases hw1 with c | c
      · rw [c] at hb; exact (n3 g b hb).2.1
      · rw [c] at hb
        injection hb with hb
        have := h.bk.map.lt
        simp at hb
        omega
    refine ⟨w2, hrun, hCa1.cells.2.2.2.2.1, by rw [← hg]; exact hE1.cells.2.2.2.2.2.2.2.2.2.2.2.2.1, ⟨hCa1.keep (hmb _ (heap_lt hCa1) (Ne.symm n1)), hSg1.keep (fun x hx => hmb _ (hSg1.lt x hx) (n2 x hx)), hE1.keep (hmb _ (heap_lt hE1) hem)⟩, fun w4 u1 u2 u4 => ?_⟩
    refine h.add_end (v' := v1) hg hE hFe hk hok hky hlen (w2 := w2) ?_ hM2 ?_ ?_ u1 u2 u4
    · exact (Chg.of_grown hg1' (fun x hx => .inl hx)).trans (Chg.of_grown hg2 (fun x hx => .inr (by injection hx with hx; exact hx.symm)))
    · have e1 : (Bk g ++ [e.b]).length = (Bk g).length + 1 := by simp
      have e2 : pts (Bk g ++ [e.b]) = pts (Bk g) ++ [.pointer (some ⟨e.b, 0, none⟩)] := by simp [pts]
      rw [e1, e2]
      exact owns_same ho1 (fun b hb => hmb b (ho1.lt b hb).2 (hv1 b hb))
    · intro b hb
      rcases hw1 with c | c
      · rw [c] at hb; exact .inl hb
      · rw [c] at hb
        injection hb with hb
        simp at hb
        exact .inr (by omega))
  have HND := boxed hnd
  have HG := boxed hg
  clear h hE hFe hk hok hky hlen n1 n2 n3 hnb hnd hec hem hg
  generalize bv M g = V at *
  generalize (Bk g).length = n at *
  generalize pts (Bk g) = xs at *
  go_enter Try.func45, Try.ntmps45
  go_wp2_with fail
  have HXd : Box (w.drew.cell? ⟨cb, 4, none⟩ = some (.map (some mb)) ∧ w.drew.cell? ⟨e.b, 12, none⟩ = some (.int .u64 g)) := boxed ⟨p4, p12⟩
  have HXa : Box ((w.alloc (.cells #[.pointer (some ⟨e.b, 0, none⟩)] 74)).drew.cell? ⟨cb, 4, none⟩ = some (.map (some mb)) ∧ (w.alloc (.cells #[.pointer (some ⟨e.b, 0, none⟩)] 74)).drew.cell? ⟨e.b, 12, none⟩ = some (.int .u64 g)) := boxed ⟨q4, q12⟩
  clear p4 p12 q4 q12
  go_region_held3 (fun W => W.cell? ⟨cb, 4, none⟩ = some (.map (some mb)) ∧ W.cell? ⟨e.b, 12, none⟩ = some (.int .u64 g))
    (first | with_reducible exact HXd.out | with_reducible exact HXa.out | with_reducible exact HX1.out | with_reducible exact HX2.out)
    (first | (refine step_append_apart rfl (.tmp 20) (.tmp 22) 105 rfl 0 74 i0 (.pointer none) 1 8 Try.underlying105 hi hz0 hz1 hz2 rfl (by decide) V n xs (by simp [Act.eval, Act.put]) HOa.out ⟨w.heap.size, 0, none⟩ 1 1 [.pointer (some ⟨e.b, 0, none⟩)] (by simp [Act.eval, Act.put]) rfl HNw.out H1c.out (by unfold maxLen; omega) (by omega) (Nat.zero_le _) (by decide) ?_; intro v1 w1 hown1 hg1 hwh1; obtain ⟨a1, c1, rfl⟩ := own_shape hown1; obtain ⟨w2, hrun2, y4, y12, hR2⟩ := HX.out _ w1 hown1 hg1 hwh1; have HR2 := boxed hR2; have HX1 : Box (w1.cell? ⟨cb, 4, none⟩ = some (.map (some mb)) ∧ w1.cell? ⟨e.b, 12, none⟩ = some (.int .u64 g)) := boxed ⟨y4, y12⟩; have HX2 : Box (w2.cell? ⟨cb, 4, none⟩ = some (.map (some mb)) ∧ w2.cell? ⟨e.b, 12, none⟩ = some (.int .u64 g)) := boxed ⟨HR2.out.1.1.cells.2.2.2.2.1, by rw [← HG.out]; exact HR2.out.1.2.2.cells.2.2.2.2.2.2.2.2.2.2.2.2.1⟩; clear hown1 hg1 hwh1 hR2 y4 y12))
  all_goals
    have HLk := boxed (link_any w2 cb room (L.length : Nat) fo mi mb e a z L HR2.out.1.1 HR2.out.1.2.1 HR2.out.1.2.2 HND.out)
    clear HX HOa HNw H1c
    go_wp2_with fail
    refine HLk.out.mono ?_
    rintro r w4 ⟨rfl, u1, u2, u4⟩
    have hc1 := u1.cells.2.1
    have hz1 := row_free u1 1
    have HF := boxed (HR2.out.2 w4 u1 u2 u4)
    clear u1 u2 u4 HR2 HLk
    go_wp2_with fail
    exact bodyPost_end (results_none rfl _ _ _) rfl ⟨rfl, HF.out⟩
end Go.Proofs.Ytmnnmnggakbipaa
