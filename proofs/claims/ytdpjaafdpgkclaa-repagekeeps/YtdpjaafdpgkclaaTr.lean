/-
  Pages of another height: what Resize does.
-/
import Derived.Test.YtdpjaafdpgkclaaTp
namespace Go.Proofs.Ytdpjaafdpgkclaa
open Go.RowKit
set_option linter.unusedSimpArgs false
set_option linter.unusedVariables false

/-- The same lines on pages of another height. -/
def Dc.hgt (D : Dc) (H : Int) : Dc := ⟨D.F, D.n, D.o, D.v, H⟩
theorem hgt_ok {D : Dc} {g : Stg} {H : Int} (h : DcOk D g) (hE : ckE H g = 0) : DcOk (D.hgt H) g :=
  ⟨h.o, h.v, h.go, h.ok, h.n, by have := (ck_ok hE).1; show 0 ≤ H ∧ H ≤ 1073741824; omega⟩
theorem resized {w w1 : World} {B p : Nat} {ao : Option Addr} {cap : Nat} {so : Option Addr} {sc : Nat} {D : Dc} {g : Stg} {J : Nat} (h : BkC w B p ao cap so sc D g J) (hb : Below w.heap.size w w1) (H : Int) (hE : ckE H g = 0) (so' : Option Addr) (J' sc' : Nat) (hst : w1.ownsRow w.heap.size 3 1 (.slice so' J' sc') J' (ncs ((D.hgt H).its J'))) (hP : (D.hgt H).Pgs J') :
    BkC ((w1.setCell ⟨p, 1, none⟩ (.slice so' J' sc')).setCell ⟨p, 2, none⟩ (.int .i64 H)) B p ao cap so' sc' (D.hgt H) g J' ∧ (∀ i, w1.frozen? ⟨p, i, none⟩ = false) ∧ (∀ i, (w1.setCell ⟨p, 1, none⟩ (.slice so' J' sc')).frozen? ⟨p, i, none⟩ = false) ∧ w1.cell? ⟨p, 1, none⟩ = some (.slice so J sc) ∧ (w1.setCell ⟨p, 1, none⟩ (.slice so' J' sc')).cell? ⟨p, 2, none⟩ = some (.int .i64 D.H) ∧ Fr w ((w1.setCell ⟨p, 1, none⟩ (.slice so' J' sc')).setCell ⟨p, 2, none⟩ (.int .i64 H)) p none := by
  have h1 := h.below hb
  have hp := heap_lt h.row
  have hr1 := arr_set (k := 1) (.slice so' J' sc') h1.row
  have key : ∀ b, b ≠ p → ((w1.setCell ⟨p, 1, none⟩ (.slice so' J' sc')).setCell ⟨p, 2, none⟩ (.int .i64 H)).heap[b]? = w1.heap[b]? := fun b hb => by
    rw [heap_setCell_other _ ⟨p, 2, none⟩ b _ (fun e => hb (by simpa using e)), heap_setCell_other w1 ⟨p, 1, none⟩ b _ (fun e => hb (by simpa using e))]
  have hBw : B ≤ w.heap.size := by have := h.Bp; omega
  refine ⟨⟨arr_set _ hr1, own_kept h1.own (fun b hb => key b (h.npl b hb)), h.npl, own_down (own_kept hst (fun b hb => key b (by have := (hst.lt b hb).1; omega))) hBw, fun b hb => ?_, h.Bp, hP, hgt_ok h.dc hE, hE, h.rts⟩, fun i => row_free h1.row i, fun i => row_free hr1 i, h1.cells.1.2.1, by rw [cell_of_row _ _ _ _ _ _ hr1]; rfl, (Fr.of_below p _ hb).trans ((Fr.of_set w1 p 1 _ _).trans (Fr.of_set _ p 2 _ _))⟩
  have h2 := (hst.lt b hb).1
  refine ⟨by omega, fun e => ?_⟩
  have h3 := (h.own.lt b e).2
  omega
set_option maxRecDepth 100000 in
set_option maxHeartbeats 4000000 in
theorem resize_no {w : World} {B p : Nat} {ao : Option Addr} {cap : Nat} {so : Option Addr} {sc : Nat} {D : Dc} {g : Stg} {J : Nat} (h : BkC w B p ao cap so sc D g J) (H : Int) (hE : ckE H g ≠ 0) :
    Calls Try.prog 26 #[.pointer (some ⟨p, 0, none⟩), .int .i64 H] w fun e w' => e = .returned (.tuple #[.int .i64 0, .int .i64 41]) ∧ Below w.heap.size w w' := by
  have HD0 : Box (Below w.heap.size w w.drew) := boxed (Below.refl _ _).drew
  obtain ⟨⟨c0, c1, c2⟩, c3, c4, c5, c6, c7, c8, c9⟩ := (h.below HD0.out).cells
  have hok := (ck_ok h.ck).2
  have hE2 : ckE H g = 41 := by
    unfold ckE at *
    rw [if_pos hok] at *
    split
    · next q => rw [if_pos q] at hE; exact absurd rfl hE
    · rfl
  have HP := boxed (fun W => pag_bad H g hE ao D.n cap W)
  rw [hE2] at HP
  clear h hE hE2 hok
  generalize D.n = n at *
  unfold Stg.val at *
  go_enter Try.func26, Try.ntmps26
  go_wp2_with fail
  go_region_with (first
    | (go_at_call 19; refine (HP.out _).mono ?_; rintro e w1 ⟨rfl, hb1⟩; have HB1 := boxed (below_step HD0.out (Nat.le_refl _) hb1); clear hb1))
  all_goals
    clear c0 c1 c2 c3 c4 c5 c6 c7 c8 c9
    go_wp2_with fail
    go_ret2
    exact ⟨rfl, HB1.out⟩
set_option maxRecDepth 100000 in
set_option maxHeartbeats 4000000 in
theorem resize_ok {w : World} {B p : Nat} {ao : Option Addr} {cap : Nat} {so : Option Addr} {sc : Nat} {D : Dc} {g : Stg} {J : Nat} (h : BkC w B p ao cap so sc D g J) (H : Int) (hE : ckE H g = 0) :
    Calls Try.prog 26 #[.pointer (some ⟨p, 0, none⟩), .int .i64 H] w fun e w' => ∃ J' so' sc', e = .returned (.tuple #[.int .i64 (J' : Nat), .int .i64 0]) ∧ BkC w' B p ao cap so' sc' (D.hgt H) g J' ∧ Fr w w' p none ∧ Nw w none (.slice so' J' sc') := by
  have HD0 : Box (Below w.heap.size w w.drew) := boxed (Below.refl _ _).drew
  obtain ⟨⟨c0, c1, c2⟩, c3, c4, c5, c6, c7, c8, c9⟩ := (h.below HD0.out).cells
  have HP := boxed (fun W (hb : Below w.heap.size w W) => pag_cap (D.hgt H) g (hgt_ok h.dc hE) hE h.rts _ ao cap W (h.below hb).slts h.room)
  have HRz := boxed (fun w1 (hb : Below w.heap.size w w1) so' J' sc' hst hP => resized h hb H hE so' J' sc' hst hP)
  have hn1 : (D.hgt H).n = D.n := rfl
  have hH1 : (D.hgt H).H = H := rfl
  rw [hn1, hH1] at HP
  clear h hE hn1 hH1
  generalize hn : D.n = n at *
  unfold Stg.val at *
  go_enter Try.func26, Try.ntmps26
  go_wp2_with fail
  go_region_with (first
    | (go_at_call 19; refine (HP.out _ HD0.out).mono ?_; rintro e w1 ⟨J', so', sc', rfl, hP1, ho1, hb1⟩; have HB1 := boxed (below_step HD0.out (Nat.le_refl _) hb1); have HO1 := boxed ho1; have HP1 := boxed hP1; clear hb1 ho1 hP1))
  all_goals
    obtain ⟨r1, r2, r3, r4, r5, r6⟩ := HRz.out w1 HB1.out so' J' sc' HO1.out HP1.out
    have R1 := boxed r1
    have R6 := boxed r6
    have HN : Box (Nw w none (.slice so' J' sc')) := boxed (fun b hb => .inr ((HO1.out.lt b hb).1))
    have q1 := r2 1
    have q2 := r3 2
    clear c0 c1 c2 c3 c4 c5 c6 c7 c8 c9 r1 r6 r2 r3 HP
    go_wp2_with fail
    go_ret2
    exact ⟨J', so', sc', rfl, R1.out, R6.out, HN.out⟩
end Go.Proofs.Ytdpjaafdpgkclaa
