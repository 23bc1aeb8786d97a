/-
  What the program's take does: the next rune is made what it is to a line.
-/
import Derived.Test.YteckbkcngkppmaaJo
namespace Go.Proofs.Yteckbkcngkppmaa
open Go.RowKit
set_option linter.unusedSimpArgs false
set_option linter.unusedVariables false

theorem box_any {w0 : Bse} {tb bb : Nat} {w : World} {L : List Itm} {a : Nat} {sy : Int} (h : BS w0 tb bb w L a sy) (W : Int) (size : Nat) (y : Int) (ha : a ≤ 1048576) (hsz : size ≤ 1048576) (hL : L.length ≤ 1048575) :
    Calls Try.prog 49 #[.pointer (some ⟨bb, 0, none⟩), .int .i64 W, .int .i64 (size : Nat), .int .i64 y] w fun e w' => e = .returned (.tuple #[]) ∧ BS w0 tb bb w' (bxd L sy W y (a : Nat) (a + size : Nat)) (a + size) y := by
  unfold bxd
  by_cases c : lbox L = true ∧ sy = y
  · rw [if_pos c]
    obtain ⟨A, x, rfl, hx⟩ := lbox_pos L c.1
    obtain ⟨-, rfl⟩ := c
    exact box_grow h W size ha hsz (by simp at hL; omega) hx
  · rw [if_neg c]
    exact box_new h W size y ha hsz hL c

theorem BS.tab {w0 : Bse} {tb bb : Nat} {w : World} {L : List Itm} {a : Nat} {sy : Int} (h : BS w0 tb bb w L a sy) : w.cell? ⟨bb, 0, none⟩ = some (.pointer (some ⟨tb, 0, none⟩)) := by
  obtain ⟨_, v, hblk, _⟩ := h
  exact row_cell hblk 0
theorem BS.bel {w0 : Bse} {tb bb : Nat} {w : World} {L : List Itm} {a : Nat} {sy : Int} (h : BS w0 tb bb w L a sy) : Below w0.w.heap.size w0.w w := h.1.2.1
theorem BS.below {w0 : Bse} {tb bb : Nat} {w w' : World} {L : List Itm} {a : Nat} {sy : Int} (h : BS w0 tb bb w L a sy) (hb : Below w.heap.size w w') : BS w0 tb bb w' L a sy := by
  have hl := h.len
  obtain ⟨⟨b1, b2, b3⟩, v, hblk, hown⟩ := h
  exact ⟨⟨b1, b2.trans (hb.mono b2.size), b3.below hb⟩, v, by rw [hb.block bb hl]; exact hblk, owns_below hown hb⟩

set_option maxRecDepth 100000 in
set_option maxHeartbeats 4000000 in
theorem take_any {B : Nat} {w0 : Bse} {tb bb n : Nat} {G : Nat → Sty} (hT : TabAt B w0.w tb n G) (hg : ∀ i, i < n → flt (G i) = 0) {w : World} {L : List Itm} {a : Nat} {sy : Int} (h : BS w0 tb bb w L a sy) (r : Nat) (size : Nat) (y : Int) (hr : r ≤ 1114111) (ha : a ≤ 1048576) (hsz : size ≤ 1048576) (ha2 : a + size ≤ 1048576) (hL : L.length ≤ 1048570) :
    Calls Try.prog 27 #[.pointer (some ⟨bb, 0, none⟩), .int .i32 (r : Nat), .int .i64 (size : Nat), .int .i64 y] w fun e w' => e = .returned (.tuple #[]) ∧ BS w0 tb bb w' (nx (ofS G n y) L sy (r : Nat) y (a : Nat) (a + size : Nat)).1 (a + size) (nx (ofS G n y) L sy (r : Nat) y (a : Nat) (a + size : Nat)).2 := by
  have hkd := fun w => kind_any (r : Int) w
  have htb := h.tab
  have HTW := boxed (fun w' (hb : Below w0.w.heap.size w0.w w') => twidth_any (hT.below hb) hg y (r : Int) (by omega))
  have HSP := boxed (fun w' (hb : Below w0.w.heap.size w0.w w') => space_any (hT.below hb) y)
  have HHY := boxed (fun w' (hb : Below w0.w.heap.size w0.w w') => hyphen_any (hT.below hb) y)
  have H := boxed h
  have h9 := kd_nine (r : Int)
  have HNX : Box (nx (ofS G n y) L sy (r : Nat) y (a : Nat) (a + size : Nat) = if kd r = 1 then (L ++ [glI (ofS G n y).sp (ofS G n y).st (ofS G n y).sh (a : Nat) (a + size : Nat)], sy)
      else if kd r = 3 then (L ++ [pnI (ofS G n y).hy 50 true (a : Nat) (a + size : Nat)], sy)
      else if kd r = 4 then (L ++ [pnI 0 0 false (a : Nat) (a + size : Nat)], sy)
      else if kd r = 5 then (L ++ [pnI 0 10000 false (a : Nat) (a + size : Nat)], sy)
      else if kd r = 7 ∨ kd r = 8 then (L ++ [flI (a : Nat), pnI 0 (-10000) false (a : Nat) (a + size : Nat)], sy)
      else if kd r = 6 then (bxd L sy (wdS (ofS G n y) r) y (a : Nat) (a + size : Nat) ++ [pnI 0 50 true (a + size : Nat) (a + size : Nat)], y)
      else (bxd L sy (wdS (ofS G n y) r) y (a : Nat) (a + size : Nat), y)) := boxed rfl
  generalize nx (ofS G n y) L sy (r : Nat) y (a : Nat) (a + size : Nat) = NX at *
  generalize wdS (ofS G n y) (r : Int) = WD at *
  generalize ofS G n y = s at *
  generalize kd (r : Int) = K at *
  clear h hT hg
  rcases h9 with e | e | e | e | e | e | e | e | e
  · subst e
    have HV : Box (NX = (L ++ [glI s.sp s.st s.sh (a : Nat) (a + size : Nat)], sy)) := boxed (by rw [HNX.out]; rfl)
    have HAD := boxed (fun w' (hb : BS w0 tb bb w' L a sy) => add_bx hb ⟨2, s.sp, s.st, s.sh, false, 0, false, 0, 0⟩ size ha hsz (by omega) (glI s.sp s.st s.sh (a : Nat) (a + size : Nat)) (a + size) rfl rfl _ rfl)
    simp only [Itm.val] at HAD
    clear HNX
    go_enter Try.func27, Try.ntmps27
    go_wp2_with fail
    refine (hkd _).mono ?_
    rintro e w' ⟨rfl, hw'⟩; subst w'
    go_wp2_with fail
    refine (HSP.out _ H.out.bel).mono ?_
    rintro e w1 ⟨rfl, hb1⟩
    have H1 := boxed (H.out.below hb1)
    clear hb1 htb
    go_wp2_with fail
    refine (HAD.out _ H1.out).mono ?_
    rintro e w2 ⟨rfl, hb2⟩
    have H2 := boxed hb2
    clear hb2
    go_wp2
    refine bodyPost_end (results_none rfl _ _ _) rfl ?_
    exact ⟨rfl, by rw [HV.out]; exact H2.out⟩
  · subst e
    have HV : Box (NX = (bxd L sy WD y (a : Nat) (a + size : Nat), y)) := boxed (by rw [HNX.out]; rfl)
    have HBX := boxed (fun w' (hb : BS w0 tb bb w' L a sy) => box_any hb WD size y ha hsz (by omega))
    clear HNX
    go_enter Try.func27, Try.ntmps27
    go_wp2_with fail
    refine (hkd _).mono ?_
    rintro e w' ⟨rfl, hw'⟩; subst w'
    go_wp2_with fail
    refine (HTW.out _ H.out.bel).mono ?_
    rintro e w1 ⟨rfl, hb1⟩
    have H1 := boxed (H.out.below hb1)
    clear hb1 htb
    go_wp2_with fail
    refine (HBX.out _ H1.out).mono ?_
    rintro e w2 ⟨rfl, hb2⟩
    have H2 := boxed hb2
    clear hb2
    go_wp2
    refine bodyPost_end (results_none rfl _ _ _) rfl ?_
    exact ⟨rfl, by rw [HV.out]; exact H2.out⟩
  · subst e
    have HV : Box (NX = (L ++ [pnI s.hy 50 true (a : Nat) (a + size : Nat)], sy)) := boxed (by rw [HNX.out]; rfl)
    have HAD := boxed (fun w' (hb : BS w0 tb bb w' L a sy) => add_bx hb ⟨3, s.hy, 0, 0, false, 50, true, 0, 0⟩ size ha hsz (by omega) (pnI s.hy 50 true (a : Nat) (a + size : Nat)) (a + size) rfl rfl _ rfl)
    simp only [Itm.val] at HAD
    clear HNX
    go_enter Try.func27, Try.ntmps27
    go_wp2_with fail
    refine (hkd _).mono ?_
    rintro e w' ⟨rfl, hw'⟩; subst w'
    go_wp2_with fail
    refine (HHY.out _ H.out.bel).mono ?_
    rintro e w1 ⟨rfl, hb1⟩
    have H1 := boxed (H.out.below hb1)
    clear hb1 htb
    go_wp2_with fail
    refine (HAD.out _ H1.out).mono ?_
    rintro e w2 ⟨rfl, hb2⟩
    have H2 := boxed hb2
    clear hb2
    go_wp2
    refine bodyPost_end (results_none rfl _ _ _) rfl ?_
    exact ⟨rfl, by rw [HV.out]; exact H2.out⟩
  · subst e
    have HV : Box (NX = (L ++ [pnI 0 0 false (a : Nat) (a + size : Nat)], sy)) := boxed (by rw [HNX.out]; rfl)
    have HAD := boxed (fun w' (hb : BS w0 tb bb w' L a sy) => add_bx hb ⟨3, 0, 0, 0, false, 0, false, 0, 0⟩ size ha hsz (by omega) (pnI 0 0 false (a : Nat) (a + size : Nat)) (a + size) rfl rfl _ rfl)
    simp only [Itm.val] at HAD
    clear HNX
    go_enter Try.func27, Try.ntmps27
    go_wp2_with fail
    refine (hkd _).mono ?_
    rintro e w' ⟨rfl, hw'⟩; subst w'
    clear htb
    go_wp2_with fail
    refine (HAD.out _ H.out).mono ?_
    rintro e w2 ⟨rfl, hb2⟩
    have H2 := boxed hb2
    clear hb2
    go_wp2
    refine bodyPost_end (results_none rfl _ _ _) rfl ?_
    exact ⟨rfl, by rw [HV.out]; exact H2.out⟩
  · subst e
    have HV : Box (NX = (L ++ [pnI 0 10000 false (a : Nat) (a + size : Nat)], sy)) := boxed (by rw [HNX.out]; rfl)
    have HAD := boxed (fun w' (hb : BS w0 tb bb w' L a sy) => add_bx hb ⟨3, 0, 0, 0, false, 10000, false, 0, 0⟩ size ha hsz (by omega) (pnI 0 10000 false (a : Nat) (a + size : Nat)) (a + size) rfl rfl _ rfl)
    simp only [Itm.val] at HAD
    clear HNX
    go_enter Try.func27, Try.ntmps27
    go_wp2_with fail
    refine (hkd _).mono ?_
    rintro e w' ⟨rfl, hw'⟩; subst w'
    clear htb
    go_wp2_with fail
    refine (HAD.out _ H.out).mono ?_
    rintro e w2 ⟨rfl, hb2⟩
    have H2 := boxed hb2
    clear hb2
    go_wp2
    refine bodyPost_end (results_none rfl _ _ _) rfl ?_
    exact ⟨rfl, by rw [HV.out]; exact H2.out⟩
  · subst e
    have HV : Box (NX = (L ++ [flI (a : Nat), pnI 0 (-10000) false (a : Nat) (a + size : Nat)], sy)) := boxed (by rw [HNX.out]; rfl)
    have HEN := boxed (fun w' (hb : BS w0 tb bb w' L a sy) => end7_any hb size ha hsz (by omega))
    clear HNX
    go_enter Try.func27, Try.ntmps27
    go_wp2_with fail
    refine (hkd _).mono ?_
    rintro e w' ⟨rfl, hw'⟩; subst w'
    clear htb
    go_wp2_with fail
    refine (HEN.out _ H.out).mono ?_
    rintro e w2 ⟨rfl, hb2⟩
    have H2 := boxed hb2
    clear hb2
    go_wp2
    refine bodyPost_end (results_none rfl _ _ _) rfl ?_
    exact ⟨rfl, by rw [HV.out]; exact H2.out⟩
  · subst e
    have HV : Box (NX = (L ++ [flI (a : Nat), pnI 0 (-10000) false (a : Nat) (a + size : Nat)], sy)) := boxed (by rw [HNX.out]; rfl)
    have HEN := boxed (fun w' (hb : BS w0 tb bb w' L a sy) => end7_any hb size ha hsz (by omega))
    clear HNX
    go_enter Try.func27, Try.ntmps27
    go_wp2_with fail
    refine (hkd _).mono ?_
    rintro e w' ⟨rfl, hw'⟩; subst w'
    clear htb
    go_wp2_with fail
    refine (HEN.out _ H.out).mono ?_
    rintro e w2 ⟨rfl, hb2⟩
    have H2 := boxed hb2
    clear hb2
    go_wp2
    refine bodyPost_end (results_none rfl _ _ _) rfl ?_
    exact ⟨rfl, by rw [HV.out]; exact H2.out⟩
  · subst e
    have HV : Box (NX = (bxd L sy WD y (a : Nat) (a + size : Nat), y)) := boxed (by rw [HNX.out]; rfl)
    have HBX := boxed (fun w' (hb : BS w0 tb bb w' L a sy) => box_any hb WD size y ha hsz (by omega))
    clear HNX
    go_enter Try.func27, Try.ntmps27
    go_wp2_with fail
    refine (hkd _).mono ?_
    rintro e w' ⟨rfl, hw'⟩; subst w'
    go_wp2_with fail
    refine (HTW.out _ H.out.bel).mono ?_
    rintro e w1 ⟨rfl, hb1⟩
    have H1 := boxed (H.out.below hb1)
    clear hb1 htb
    go_wp2_with fail
    refine (HBX.out _ H1.out).mono ?_
    rintro e w2 ⟨rfl, hb2⟩
    have H2 := boxed hb2
    clear hb2
    go_wp2
    refine bodyPost_end (results_none rfl _ _ _) rfl ?_
    exact ⟨rfl, by rw [HV.out]; exact H2.out⟩
  · subst e
    have HV : Box (NX = (bxd L sy WD y (a : Nat) (a + size : Nat) ++ [pnI 0 50 true (a + size : Nat) (a + size : Nat)], y)) := boxed (by rw [HNX.out]; rfl)
    have hbl := bxd_len L sy WD y (a : Nat) (a + size : Nat)
    have HBX := boxed (fun w' (hb : BS w0 tb bb w' L a sy) => box_any hb WD size y ha hsz (by omega))
    have HAD := boxed (fun w' (hb : BS w0 tb bb w' (bxd L sy WD y (a : Nat) (a + size : Nat)) (a + size) y) => add_bx hb ⟨3, 0, 0, 0, false, 50, true, 0, 0⟩ 0 ha2 (by omega) (by omega) (pnI 0 50 true (a + size : Nat) (a + size : Nat)) (a + size) rfl rfl _ rfl)
    simp only [Itm.val] at HAD
    clear hbl
    clear HNX
    go_enter Try.func27, Try.ntmps27
    go_wp2_with fail
    refine (hkd _).mono ?_
    rintro e w' ⟨rfl, hw'⟩; subst w'
    go_wp2_with fail
    refine (HTW.out _ H.out.bel).mono ?_
    rintro e w1 ⟨rfl, hb1⟩
    have H1 := boxed (H.out.below hb1)
    clear hb1 htb
    go_wp2_with fail
    refine (HBX.out _ H1.out).mono ?_
    rintro e w2 ⟨rfl, hb2⟩
    have H1b := boxed hb2
    clear hb2
    go_wp2_with fail
    refine (HAD.out _ H1b.out).mono ?_
    rintro e w3 ⟨rfl, hb3⟩
    have H2 := boxed hb3
    clear hb3
    go_wp2
    refine bodyPost_end (results_none rfl _ _ _) rfl ?_
    exact ⟨rfl, by rw [HV.out]; exact H2.out⟩
end Go.Proofs.Yteckbkcngkppmaa
