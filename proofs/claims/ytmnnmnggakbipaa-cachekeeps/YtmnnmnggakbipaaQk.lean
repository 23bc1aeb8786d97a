/-
  The row of entries: what unlink, link and bringToFront do with it.
-/
import Derived.Test.YtmnnmnggakbipaaQi
namespace Go.Proofs.Ytmnnmnggakbipaa
open Go.RowKit
set_option linter.unusedSimpArgs false
set_option linter.unusedVariables false

theorem hd_nil (z : Option Nat) : hd [] z = z := rfl
theorem hd_cons (e : En) (L : List En) (z : Option Nat) : hd (e :: L) z = some e.b := rfl
/-- An entry in the midst of the row, while it is taken out. -/
structure Mid (w : World) (cb : Nat) (room cnt fo mi : Int) (mb : Nat) (A : List En) (e : En) (B : List En) (f z fa fb : Option Nat) : Prop where
  ca : CaB w cb room cnt fo mi mb f z
  sa : Seg w none A fa
  en : EnAt w e (lst none A) (hd B none)
  sb : Seg w fb B none
section
variable {w : World} {cb : Nat} {room cnt fo mi : Int} {mb : Nat} {A B : List En} {e p q : En} {f z fa fb : Option Nat}
theorem EnAt.keep {w' : World} {a z : Option Nat} (h : EnAt w e a z) (hb : w'.heap[e.b]? = w.heap[e.b]?) : EnAt w' e a z := hb.trans h
theorem CaB.keep {w' : World} (h : CaB w cb room cnt fo mi mb f z) (hb : w'.heap[cb]? = w.heap[cb]?) : CaB w' cb room cnt fo mi mb f z := hb.trans h
theorem CaB.front (h : CaB w cb room cnt fo mi mb f z) (f' : Option Nat) : CaB (w.setCell ⟨cb, 5, none⟩ (pt f')) cb room cnt fo mi mb f' z := arr_set (pt f') h
theorem CaB.endd (h : CaB w cb room cnt fo mi mb f z) (z' : Option Nat) : CaB (w.setCell ⟨cb, 6, none⟩ (pt z')) cb room cnt fo mi mb f z' := arr_set (pt z') h
theorem CaB.setCnt (h : CaB w cb room cnt fo mi mb f z) (c : Int) : CaB (w.setCell ⟨cb, 1, none⟩ (.int .i64 c)) cb room c fo mi mb f z := arr_set (.int .i64 c) h
theorem CaB.setFo (h : CaB w cb room cnt fo mi mb f z) (c : Int) : CaB (w.setCell ⟨cb, 2, none⟩ (.int .i64 c)) cb room cnt c mi mb f z := arr_set (.int .i64 c) h
theorem CaB.setMi (h : CaB w cb room cnt fo mi mb f z) (c : Int) : CaB (w.setCell ⟨cb, 3, none⟩ (.int .i64 c)) cb room cnt fo c mb f z := arr_set (.int .i64 c) h
theorem Seg.ne (h : Seg w fa A fb) (hc : CaB w cb room cnt fo mi mb f z) : ∀ x ∈ A, x.b ≠ cb := fun x hx => by
  obtain ⟨a, b, hh⟩ := h.get x hx
  exact hc.ne hh
theorem Mid.drew (h : Mid w cb room cnt fo mi mb A e B f z fa fb) : Mid w.drew cb room cnt fo mi mb A e B f z fa fb := ⟨h.ca, h.sa.keep (fun _ _ => rfl), h.en, h.sb.keep (fun _ _ => rfl)⟩
theorem Mid.front (h : Mid w cb room cnt fo mi mb [] e B f z fa fb) (f' fa' : Option Nat) : Mid (w.setCell ⟨cb, 5, none⟩ (pt f')) cb room cnt fo mi mb [] e B f' z fa' fb :=
  ⟨h.ca.front f', trivial, h.en.keep (set_other _ _ _ _ _ (h.ca.ne h.en)), h.sb.keep (fun x hx => set_other _ _ _ _ _ (h.sb.ne h.ca x hx))⟩
theorem Mid.endd (h : Mid w cb room cnt fo mi mb A e [] f z fa fb) (z' fb' : Option Nat) : Mid (w.setCell ⟨cb, 6, none⟩ (pt z')) cb room cnt fo mi mb A e [] f z' fa fb' :=
  ⟨h.ca.endd z', h.sa.keep (fun x hx => set_other _ _ _ _ _ (h.sa.ne h.ca x hx)), h.en.keep (set_other _ _ _ _ _ (h.ca.ne h.en)), trivial⟩
theorem Mid.last (h : Mid w cb room cnt fo mi mb (A ++ [p]) e B f z fa fb) (hn : ((A ++ [p] ++ e :: B).map En.b).Nodup) (x : Option Nat) : Mid (w.setCell ⟨p.b, 14, none⟩ (pt x)) cb room cnt fo mi mb (A ++ [p]) e B f z x fb := by
  simp only [List.map_append, List.map_cons, List.map_nil, List.append_assoc, List.nodup_append, List.nodup_cons, List.cons_append, List.nil_append, List.mem_cons, List.mem_append] at hn
  refine ⟨h.ca.keep (set_other _ _ _ _ _ (Ne.symm (h.sa.ne h.ca p (by simp)))), h.sa.last (fun c => hn.2.2 _ c _ (by simp) rfl) x, h.en.keep (set_other _ _ _ _ _ (fun c => hn.2.1.1 (by simp [c]))), h.sb.keep (fun y hy => set_other _ _ _ _ _ (fun c => hn.2.1.1 (by right; exact List.mem_map.2 ⟨y, hy, c⟩)))⟩
theorem Mid.first (h : Mid w cb room cnt fo mi mb A e (q :: B) f z fa fb) (hn : ((A ++ e :: q :: B).map En.b).Nodup) (x : Option Nat) : Mid (w.setCell ⟨q.b, 13, none⟩ (pt x)) cb room cnt fo mi mb A e (q :: B) f z fa x := by
  simp only [List.map_append, List.map_cons, List.nodup_append, List.nodup_cons, List.mem_cons, List.mem_append] at hn
  refine ⟨h.ca.keep (set_other _ _ _ _ _ (Ne.symm (h.sb.ne h.ca q (by simp)))), h.sa.keep (fun y hy => set_other _ _ _ _ _ (fun c => hn.2.2 _ (List.mem_map.2 ⟨y, hy, rfl⟩) _ (by right; left; rfl) c)), h.en.keep (set_other _ _ _ _ _ (fun c => hn.2.1.1 (by left; exact c))), h.sb.first hn.2.1.2.1 x⟩
end
/-- What unlink leaves. -/
def UnlP (w : World) (cb : Nat) (room cnt fo mi : Int) (mb : Nat) (A : List En) (e : En) (B : List En) (w' : World) : Prop :=
  CaB w' cb room cnt fo mi mb (hd (A ++ B) none) (lst none (A ++ B)) ∧ Seg w' none (A ++ B) none ∧ EnAt w' e (lst none A) (hd B none) ∧ Chg (fun b => b = cb ∨ b ∈ (A ++ B).map En.b) w w'
theorem unl_of {w : World} {cb : Nat} {room cnt fo mi : Int} {mb : Nat} {A B : List En} {e : En} {w' : World} {f : Option Nat} (h : Mid w' cb room cnt fo mi mb A e B f (lst (lst none A) B) (hd B none) (lst none A)) (hf : f = hd A (hd B none)) (hc : Chg (fun b => b = cb ∨ b ∈ (A ++ B).map En.b) w w') : UnlP w cb room cnt fo mi mb A e B w' := by
  subst hf
  exact ⟨by rw [hd_app, lst_app]; exact h.ca, seg_app.2 ⟨h.sa, h.sb⟩, h.en, hc⟩
theorem mid_of {w : World} {cb : Nat} {room cnt fo mi : Int} {mb : Nat} {A B : List En} {e : En} (hc : CaB w cb room cnt fo mi mb (hd (A ++ e :: B) none) (lst none (A ++ e :: B))) (hs : Seg w none (A ++ e :: B) none) : Mid w cb room cnt fo mi mb A e B (hd (A ++ e :: B) none) (lst none (A ++ e :: B)) (some e.b) (some e.b) := by
  rw [seg_app] at hs
  exact ⟨hc, hs.1, hs.2.1, hs.2.2⟩

set_option maxRecDepth 100000 in
set_option maxHeartbeats 4000000 in
theorem unlink_any (w : World) (cb : Nat) (room cnt fo mi : Int) (mb : Nat) (A : List En) (e : En) (B : List En) (hc : CaB w cb room cnt fo mi mb (hd (A ++ e :: B) none) (lst none (A ++ e :: B))) (hs : Seg w none (A ++ e :: B) none) (hn : ((A ++ e :: B).map En.b).Nodup) :
    Calls Try.prog 54 #[.pointer (some ⟨cb, 0, none⟩), .pointer (some ⟨e.b, 0, none⟩)] w fun r w' => r = .returned (.tuple #[]) ∧ UnlP w cb room cnt fo mi mb A e B w' := by
  have HM := boxed (mid_of hc hs)
  have HN := boxed hn
  clear hc hs hn
  rcases List.eq_nil_or_concat A with rfl | ⟨A', p, rfl⟩
  all_goals (rcases B with _ | ⟨q, B'⟩)
  · have c13 : w.cell? ⟨e.b, 13, none⟩ = some (.pointer none) := by have := HM.out.en.cells.2.2.2.2.2.2.2.2.2.2.2.2.2.1; exact this
    have c14 : w.cell? ⟨e.b, 14, none⟩ = some (.pointer none) := HM.out.en.cells.2.2.2.2.2.2.2.2.2.2.2.2.2.2
    obtain ⟨W1, hW1⟩ : ∃ W1, w.setCell ⟨cb, 5, none⟩ (.pointer none) = W1 := ⟨_, rfl⟩
    have hM1 := HM.out.front (none) (none)
    have hC1 : Chg (fun b => b = cb ∨ b ∈ ([] ++ []).map En.b) w W1 := by rw [← hW1]; exact Chg.set _ _ _ _ (.inl rfl)
    have f5 := row_free HM.out.ca 5
    have k5 := HM.out.ca.cells.2.2.2.2.2.1
    rw [show pt (none) = .pointer none from rfl, hW1] at hM1
    have e13 : W1.cell? ⟨e.b, 13, none⟩ = some (.pointer none) := by have := hM1.en.cells.2.2.2.2.2.2.2.2.2.2.2.2.2.1; exact this
    have e14 : W1.cell? ⟨e.b, 14, none⟩ = some (.pointer none) := hM1.en.cells.2.2.2.2.2.2.2.2.2.2.2.2.2.2
    have hM2 := hM1.endd (none) (none)
    have hC2 := hC1.trans (Chg.set (D := fun b => b = cb ∨ b ∈ ([] ++ []).map En.b) W1 cb 6 (.pointer none) (.inl rfl))
    have g6 := row_free hM1.ca 6
    have k6 := hM1.ca.cells.2.2.2.2.2.2
    rw [show pt (none) = .pointer none from rfl] at hM2
    have HF : Box (UnlP w cb room cnt fo mi mb [] e [] (W1.setCell ⟨cb, 6, none⟩ (.pointer none))) := boxed (unl_of (by first | exact hM2 | simpa [lst_app, lst, hd_nil, hd_cons] using hM2) rfl hC2)
    unfold pt at k5 k6
    clear hM1 hM2 hC1 hC2 HM HN
    go_enter Try.func54, Try.ntmps54
    go_wp2_with fail
    exact bodyPost_end (results_none rfl _ _ _) rfl ⟨rfl, HF.out⟩
  · have c13 : w.cell? ⟨e.b, 13, none⟩ = some (.pointer none) := by have := HM.out.en.cells.2.2.2.2.2.2.2.2.2.2.2.2.2.1; exact this
    have c14 : w.cell? ⟨e.b, 14, none⟩ = some (.pointer (some ⟨q.b, 0, none⟩)) := HM.out.en.cells.2.2.2.2.2.2.2.2.2.2.2.2.2.2
    obtain ⟨W1, hW1⟩ : ∃ W1, w.setCell ⟨cb, 5, none⟩ (.pointer (some ⟨q.b, 0, none⟩)) = W1 := ⟨_, rfl⟩
    have hM1 := HM.out.front (some q.b) (some q.b)
    have hC1 : Chg (fun b => b = cb ∨ b ∈ ([] ++ (q :: B')).map En.b) w W1 := by rw [← hW1]; exact Chg.set _ _ _ _ (.inl rfl)
    have f5 := row_free HM.out.ca 5
    have k5 := HM.out.ca.cells.2.2.2.2.2.1
    rw [show pt (some q.b) = .pointer (some ⟨q.b, 0, none⟩) from rfl, hW1] at hM1
    have e13 : W1.cell? ⟨e.b, 13, none⟩ = some (.pointer none) := by have := hM1.en.cells.2.2.2.2.2.2.2.2.2.2.2.2.2.1; exact this
    have e14 : W1.cell? ⟨e.b, 14, none⟩ = some (.pointer (some ⟨q.b, 0, none⟩)) := hM1.en.cells.2.2.2.2.2.2.2.2.2.2.2.2.2.2
    have hM2 := hM1.drew.first (by simpa using HN.out) (none)
    have hC2 := (hC1.trans (Chg.of_below (Below.refl _ _).drew)).trans (Chg.set (D := fun b => b = cb ∨ b ∈ ([] ++ (q :: B')).map En.b) W1.drew q.b 13 (.pointer none) (.inr (by simp)))
    obtain ⟨qx, qy, hqE⟩ := hM1.sb.get q (by simp)
    have g6 : W1.drew.frozen? ⟨q.b, 13, none⟩ = false := row_free hqE 13
    have k6 : W1.drew.cell? ⟨q.b, 13, none⟩ = _ := hqE.cells.2.2.2.2.2.2.2.2.2.2.2.2.2.1
    have h13 : W1.drew.cell? ⟨e.b, 13, none⟩ = _ := e13
    have h14 : W1.drew.cell? ⟨e.b, 14, none⟩ = _ := e14
    clear hqE
    rw [show pt (none) = .pointer none from rfl] at hM2
    have HF : Box (UnlP w cb room cnt fo mi mb [] e (q :: B') (W1.drew.setCell ⟨q.b, 13, none⟩ (.pointer none))) := boxed (unl_of (by first | exact hM2 | simpa [lst_app, lst, hd_nil, hd_cons] using hM2) rfl hC2)
    unfold pt at k5 k6
    clear hM1 hM2 hC1 hC2 HM HN
    go_enter Try.func54, Try.ntmps54
    go_wp2_with fail
    go_region
    go_wp2_with fail
    exact bodyPost_end (results_none rfl _ _ _) rfl ⟨rfl, HF.out⟩
  · rw [List.concat_eq_append] at *
    have c13 : w.cell? ⟨e.b, 13, none⟩ = some (.pointer (some ⟨p.b, 0, none⟩)) := by have := HM.out.en.cells.2.2.2.2.2.2.2.2.2.2.2.2.2.1; rw [lst_app] at this; exact this
    have c14 : w.cell? ⟨e.b, 14, none⟩ = some (.pointer none) := HM.out.en.cells.2.2.2.2.2.2.2.2.2.2.2.2.2.2
    obtain ⟨W1, hW1⟩ : ∃ W1, w.drew.setCell ⟨p.b, 14, none⟩ (.pointer none) = W1 := ⟨_, rfl⟩
    have hM1 := HM.out.drew.last HN.out (none)
    have hC1 : Chg (fun b => b = cb ∨ b ∈ ((A' ++ [p]) ++ []).map En.b) w W1 := by rw [← hW1]; exact (Chg.of_below (Below.refl _ _).drew).trans (Chg.set _ _ _ _ (.inr (by simp)))
    obtain ⟨px, py, hpE⟩ := HM.out.sa.get p (by simp)
    have f5 : w.drew.frozen? ⟨p.b, 14, none⟩ = false := row_free hpE 14
    have k5 : w.drew.cell? ⟨p.b, 14, none⟩ = _ := hpE.cells.2.2.2.2.2.2.2.2.2.2.2.2.2.2
    have d13 : w.drew.cell? ⟨e.b, 13, none⟩ = _ := c13
    have d14 : w.drew.cell? ⟨e.b, 14, none⟩ = _ := c14
    clear hpE
    rw [show pt (none) = .pointer none from rfl, hW1] at hM1
    have e13 : W1.cell? ⟨e.b, 13, none⟩ = some (.pointer (some ⟨p.b, 0, none⟩)) := by have := hM1.en.cells.2.2.2.2.2.2.2.2.2.2.2.2.2.1; rw [lst_app] at this; exact this
    have e14 : W1.cell? ⟨e.b, 14, none⟩ = some (.pointer none) := hM1.en.cells.2.2.2.2.2.2.2.2.2.2.2.2.2.2
    have hM2 := hM1.endd (some p.b) (some p.b)
    have hC2 := hC1.trans (Chg.set (D := fun b => b = cb ∨ b ∈ ((A' ++ [p]) ++ []).map En.b) W1 cb 6 (.pointer (some ⟨p.b, 0, none⟩)) (.inl rfl))
    have g6 := row_free hM1.ca 6
    have k6 := hM1.ca.cells.2.2.2.2.2.2
    rw [show pt (some p.b) = .pointer (some ⟨p.b, 0, none⟩) from rfl] at hM2
    have HF : Box (UnlP w cb room cnt fo mi mb (A' ++ [p]) e [] (W1.setCell ⟨cb, 6, none⟩ (.pointer (some ⟨p.b, 0, none⟩)))) := boxed (unl_of (by first | exact hM2 | simpa [lst_app, lst, hd_nil, hd_cons] using hM2) (by cases A' <;> rfl) hC2)
    unfold pt at k5 k6
    clear hM1 hM2 hC1 hC2 HM HN
    go_enter Try.func54, Try.ntmps54
    go_wp2_with fail
    go_region
    go_wp2_with fail
    exact bodyPost_end (results_none rfl _ _ _) rfl ⟨rfl, HF.out⟩
  · rw [List.concat_eq_append] at *
    have c13 : w.cell? ⟨e.b, 13, none⟩ = some (.pointer (some ⟨p.b, 0, none⟩)) := by have := HM.out.en.cells.2.2.2.2.2.2.2.2.2.2.2.2.2.1; rw [lst_app] at this; exact this
    have c14 : w.cell? ⟨e.b, 14, none⟩ = some (.pointer (some ⟨q.b, 0, none⟩)) := HM.out.en.cells.2.2.2.2.2.2.2.2.2.2.2.2.2.2
    obtain ⟨W1, hW1⟩ : ∃ W1, w.drew.setCell ⟨p.b, 14, none⟩ (.pointer (some ⟨q.b, 0, none⟩)) = W1 := ⟨_, rfl⟩
    have hM1 := HM.out.drew.last HN.out (some q.b)
    have hC1 : Chg (fun b => b = cb ∨ b ∈ ((A' ++ [p]) ++ (q :: B')).map En.b) w W1 := by rw [← hW1]; exact (Chg.of_below (Below.refl _ _).drew).trans (Chg.set _ _ _ _ (.inr (by simp)))
    obtain ⟨px, py, hpE⟩ := HM.out.sa.get p (by simp)
    have f5 : w.drew.frozen? ⟨p.b, 14, none⟩ = false := row_free hpE 14
    have k5 : w.drew.cell? ⟨p.b, 14, none⟩ = _ := hpE.cells.2.2.2.2.2.2.2.2.2.2.2.2.2.2
    have d13 : w.drew.cell? ⟨e.b, 13, none⟩ = _ := c13
    have d14 : w.drew.cell? ⟨e.b, 14, none⟩ = _ := c14
    clear hpE
    rw [show pt (some q.b) = .pointer (some ⟨q.b, 0, none⟩) from rfl, hW1] at hM1
    have e13 : W1.cell? ⟨e.b, 13, none⟩ = some (.pointer (some ⟨p.b, 0, none⟩)) := by have := hM1.en.cells.2.2.2.2.2.2.2.2.2.2.2.2.2.1; rw [lst_app] at this; exact this
    have e14 : W1.cell? ⟨e.b, 14, none⟩ = some (.pointer (some ⟨q.b, 0, none⟩)) := hM1.en.cells.2.2.2.2.2.2.2.2.2.2.2.2.2.2
    have hM2 := hM1.drew.first (by simpa using HN.out) (some p.b)
    have hC2 := (hC1.trans (Chg.of_below (Below.refl _ _).drew)).trans (Chg.set (D := fun b => b = cb ∨ b ∈ ((A' ++ [p]) ++ (q :: B')).map En.b) W1.drew q.b 13 (.pointer (some ⟨p.b, 0, none⟩)) (.inr (by simp)))
    obtain ⟨qx, qy, hqE⟩ := hM1.sb.get q (by simp)
    have g6 : W1.drew.frozen? ⟨q.b, 13, none⟩ = false := row_free hqE 13
    have k6 : W1.drew.cell? ⟨q.b, 13, none⟩ = _ := hqE.cells.2.2.2.2.2.2.2.2.2.2.2.2.2.1
    have h13 : W1.drew.cell? ⟨e.b, 13, none⟩ = _ := e13
    have h14 : W1.drew.cell? ⟨e.b, 14, none⟩ = _ := e14
    clear hqE
    rw [show pt (some p.b) = .pointer (some ⟨p.b, 0, none⟩) from rfl] at hM2
    have HF : Box (UnlP w cb room cnt fo mi mb (A' ++ [p]) e (q :: B') (W1.drew.setCell ⟨q.b, 13, none⟩ (.pointer (some ⟨p.b, 0, none⟩)))) := boxed (unl_of (by first | exact hM2 | simpa [lst_app, lst, hd_nil, hd_cons] using hM2) (by cases A' <;> rfl) hC2)
    unfold pt at k5 k6
    clear hM1 hM2 hC1 hC2 HM HN
    go_enter Try.func54, Try.ntmps54
    go_wp2_with fail
    go_region
    go_wp2_with fail
    go_region
    go_wp2_with fail
    exact bodyPost_end (results_none rfl _ _ _) rfl ⟨rfl, HF.out⟩

/-- What link leaves. -/
def LnkP (w : World) (cb : Nat) (room cnt fo mi : Int) (mb : Nat) (e : En) (L : List En) (w' : World) : Prop :=
  CaB w' cb room cnt fo mi mb (some e.b) (lst none (e :: L)) ∧ Seg w' none (e :: L) none ∧ Chg (fun b => b = cb ∨ b = e.b ∨ b ∈ L.map En.b) w w'
set_option maxRecDepth 100000 in
set_option maxHeartbeats 4000000 in
theorem link_any (w : World) (cb : Nat) (room cnt fo mi : Int) (mb : Nat) (e : En) (a z : Option Nat) (L : List En) (hc : CaB w cb room cnt fo mi mb (hd L none) (lst none L)) (hs : Seg w none L none) (he : EnAt w e a z) (hn : ((e :: L).map En.b).Nodup) :
    Calls Try.prog 55 #[.pointer (some ⟨cb, 0, none⟩), .pointer (some ⟨e.b, 0, none⟩)] w fun r w' => r = .returned (.tuple #[]) ∧ LnkP w cb room cnt fo mi mb e L w' := by
  have hne := hc.ne he
  have hnl : ∀ x ∈ L, x.b ≠ e.b := fun x hx c => by
    simp only [List.map_cons, List.nodup_cons] at hn
    exact hn.1 (List.mem_map.2 ⟨x, hx, c⟩)
  have e1 := he.ahead none
  have e2 := e1.behind (hd L none)
  have s2 : Seg ((w.setCell ⟨e.b, 13, none⟩ (pt none)).setCell ⟨e.b, 14, none⟩ (pt (hd L none))) none L none := hs.keep (fun x hx => by rw [set_other _ _ _ _ _ (hnl x hx), set_other _ _ _ _ _ (hnl x hx)])
  have c2 : CaB ((w.setCell ⟨e.b, 13, none⟩ (pt none)).setCell ⟨e.b, 14, none⟩ (pt (hd L none))) cb room cnt fo mi mb (hd L none) (lst none L) := hc.keep (by rw [set_other _ _ _ _ _ (Ne.symm hne), set_other _ _ _ _ _ (Ne.symm hne)])
  have g2 : Chg (fun b => b = cb ∨ b = e.b ∨ b ∈ L.map En.b) w ((w.setCell ⟨e.b, 13, none⟩ (pt none)).setCell ⟨e.b, 14, none⟩ (pt (hd L none))) := (Chg.set _ _ _ _ (.inr (.inl rfl))).trans (Chg.set _ _ _ _ (.inr (.inl rfl)))
  have k5 := hc.cells.2.2.2.2.2.1
  have x13 := he.cells.2.2.2.2.2.2.2.2.2.2.2.2.2.1
  have x14 := he.cells.2.2.2.2.2.2.2.2.2.2.2.2.2.2
  have z13 := row_free he 13
  have z14 := row_free he 14
  unfold pt at x13 x14
  rcases L with _ | ⟨q, L'⟩
  · obtain ⟨W1, hW1⟩ : ∃ W1, (w.setCell ⟨e.b, 13, none⟩ (.pointer none)).setCell ⟨e.b, 14, none⟩ (.pointer none) = W1 := ⟨_, rfl⟩
    rw [show (w.setCell ⟨e.b, 13, none⟩ (pt none)).setCell ⟨e.b, 14, none⟩ (pt (hd [] none)) = W1 from hW1] at e2 s2 c2 g2
    have k5' : w.cell? ⟨cb, 5, none⟩ = some (.pointer none) := k5
    have m5 : W1.cell? ⟨cb, 5, none⟩ = some (.pointer none) := c2.cells.2.2.2.2.2.1
    have m6 : W1.cell? ⟨cb, 6, none⟩ = some (.pointer none) := c2.cells.2.2.2.2.2.2
    have n5 := row_free c2 5
    have n6 := row_free c2 6
    have HF : Box (LnkP w cb room cnt fo mi mb e [] ((W1.setCell ⟨cb, 6, none⟩ (.pointer (some ⟨e.b, 0, none⟩))).setCell ⟨cb, 5, none⟩ (.pointer (some ⟨e.b, 0, none⟩)))) := boxed
      ⟨(c2.endd (some e.b)).front (some e.b), ⟨e2.keep (by rw [set_other _ _ _ _ _ hne, set_other _ _ _ _ _ hne]), trivial⟩, (g2.trans (Chg.set _ _ _ _ (.inl rfl))).trans (Chg.set _ _ _ _ (.inl rfl))⟩
    clear e1 e2 s2 c2 g2 k5 hc hs he hn hnl
    go_enter Try.func55, Try.ntmps55
    go_wp2_with fail
    exact bodyPost_end (results_none rfl _ _ _) rfl ⟨rfl, HF.out⟩
  · obtain ⟨W1, hW1⟩ : ∃ W1, (w.setCell ⟨e.b, 13, none⟩ (.pointer none)).setCell ⟨e.b, 14, none⟩ (.pointer (some ⟨q.b, 0, none⟩)) = W1 := ⟨_, rfl⟩
    rw [show (w.setCell ⟨e.b, 13, none⟩ (pt none)).setCell ⟨e.b, 14, none⟩ (pt (hd (q :: L') none)) = W1 from hW1] at e2 s2 c2 g2
    have k5' : w.cell? ⟨cb, 5, none⟩ = some (.pointer (some ⟨q.b, 0, none⟩)) := k5
    have m5 : W1.cell? ⟨cb, 5, none⟩ = some (.pointer (some ⟨q.b, 0, none⟩)) := c2.cells.2.2.2.2.2.1
    have n5 := row_free c2 5
    have hqc := s2.ne c2 q (by simp)
    have hqe := hnl q (by simp)
    simp only [List.map_cons, List.nodup_cons] at hn
    obtain ⟨qx, qy, hqE⟩ := s2.get q (by simp)
    have q13 := hqE.cells.2.2.2.2.2.2.2.2.2.2.2.2.2.1
    have qf := row_free hqE 13
    have s3 := s2.first hn.2.1 (some e.b)
    have HF : Box (LnkP w cb room cnt fo mi mb e (q :: L') ((W1.setCell ⟨q.b, 13, none⟩ (.pointer (some ⟨e.b, 0, none⟩))).setCell ⟨cb, 5, none⟩ (.pointer (some ⟨e.b, 0, none⟩)))) := boxed
      ⟨(c2.keep (w' := W1.setCell ⟨q.b, 13, none⟩ (.pointer (some ⟨e.b, 0, none⟩))) (set_other _ _ _ _ _ (Ne.symm hqc))).front (some e.b), ⟨e2.keep (by rw [set_other _ _ _ _ _ hne, set_other _ _ _ _ _ (Ne.symm hqe)]), s3.keep (fun x hx => set_other _ _ _ _ _ (s2.ne c2 x hx))⟩, (g2.trans (Chg.set _ _ _ _ (.inr (.inr (by simp))))).trans (Chg.set _ _ _ _ (.inl rfl))⟩
    have j5 : (W1.setCell ⟨q.b, 13, none⟩ (.pointer (some ⟨e.b, 0, none⟩))).cell? ⟨cb, 5, none⟩ = some (.pointer (some ⟨q.b, 0, none⟩)) := by rw [World.cell?_setCell_far _ _ _ _ (show q.b ≠ cb from hqc)]; exact m5
    unfold pt at q13
    clear e1 e2 s2 c2 g2 k5 hc hs he hn hnl hqE s3
    go_enter Try.func55, Try.ntmps55
    go_wp2_with fail
    exact bodyPost_end (results_none rfl _ _ _) rfl ⟨rfl, HF.out⟩
end Go.Proofs.Ytmnnmnggakbipaa
