/-
  Two lines that are handed in: their cells, wherever the world has grown to; and Same of both sides as a plain answer.
-/
import Derived.Test.YtcjcdpfjnomehaaGreatPk40
import Derived.Test.YtcjcdpfjnomehaaGreatPk41
import Derived.Test.YtcjcdpfjnomehaaGreatPk9
namespace Go.Proofs.YtcjcdpfjnomehaaGreat
open Go.RowKit
set_option linter.unusedSimpArgs false
set_option linter.unusedVariables false
def LnC (W : World) (b : Nat) (x : Lne) : Prop := W.cell? ⟨b, 0, none⟩ = some (.string x.tx) ∧ W.cell? ⟨b, 1, none⟩ = some (.slice x.ra x.rn x.rc) ∧ W.cell? ⟨b, 2, none⟩ = some (.int .i64 x.num) ∧ W.cell? ⟨b, 3, none⟩ = some (.int .i64 x.den) ∧ W.cell? ⟨b, 4, none⟩ = some (.int .i64 x.h) ∧ W.cell? ⟨b, 5, none⟩ = some (.bool x.hy) ∧ W.cell? ⟨b, 6, none⟩ = some (.int .i64 x.y) ∧ W.cell? ⟨b, 7, none⟩ = some (.bool x.bg) ∧ W.cell? ⟨b, 8, none⟩ = some (.bool x.en)
def LnB (W : World) (b : Nat) (x : Lne) : Prop := W.heap[b]? = some (.cells #[.string x.tx, .slice x.ra x.rn x.rc, .int .i64 x.num, .int .i64 x.den, .int .i64 x.h, .bool x.hy, .int .i64 x.y, .bool x.bg, .bool x.en] 59 (0, 0))
theorem LnB.cells {W : World} {b : Nat} {x : Lne} (h : LnB W b x) : LnC W b x := (cells9 h).1
theorem LnB.lt {W : World} {b : Nat} {x : Lne} (h : LnB W b x) : b < W.heap.size := heap_lt h
theorem LnB.below {W W' : World} {b B : Nat} {x : Lne} (h : LnB W b x) (hb : Below B W W') (hB : b < B) : LnB W' b x := (hb.block b hB).trans h
theorem LnB.next {W W' : World} {b : Nat} {x : Lne} (h : LnB W b x) (hb : Below W.heap.size W W') : LnB W' b x := h.below hb h.lt
theorem ln2_at (w : World) (x y : Lne) : ∃ W0, (w.alloc (.cells #[.string x.tx, .slice x.ra x.rn x.rc, .int .i64 x.num, .int .i64 x.den, .int .i64 x.h, .bool x.hy, .int .i64 x.y, .bool x.bg, .bool x.en] 59)).alloc (.cells #[.string y.tx, .slice y.ra y.rn y.rc, .int .i64 y.num, .int .i64 y.den, .int .i64 y.h, .bool y.hy, .int .i64 y.y, .bool y.bg, .bool y.en] 59) = W0 ∧ W0.heap.size = w.heap.size + 2 ∧ LnB W0 w.heap.size x ∧ LnB W0 (w.heap.size + 1) y ∧ Below w.heap.size w W0 := by
  have h := laid2 w (.cells #[.string x.tx, .slice x.ra x.rn x.rc, .int .i64 x.num, .int .i64 x.den, .int .i64 x.h, .bool x.hy, .int .i64 x.y, .bool x.bg, .bool x.en] 59) (.cells #[.string y.tx, .slice y.ra y.rn y.rc, .int .i64 y.num, .int .i64 y.den, .int .i64 y.h, .bool y.hy, .int .i64 y.y, .bool y.bg, .bool y.en] 59)
  exact ⟨_, rfl, h.2.2.2, h.1, h.2.1, h.2.2.1⟩
def smB (x y : Lne) : Bool := lnB x y && decide (Ru.exr x.L x.Y x.rn = Ru.exr y.L y.Y y.rn)
theorem same10_det {w : World} (x y : Lne) (hx : Ru.P2At (fun _ => True) w x.ra x.rn x.L x.Y) (hy : Ru.P2At (fun _ => True) w y.ra y.rn y.L y.Y) (hxc : x.rn ≤ x.rc) (hyc : y.rn ≤ y.rc) :
    Calls Tryz.prog 32 #[x.val, y.val] w fun e w' => e = .returned (.bool (smB x y)) ∧ Below w.heap.size w w' := by
  refine (same10_any x y hx hy hxc hyc).mono ?_
  rintro e w' ⟨r, rfl, hr, hb⟩
  rw [Ru.exs_exr, Ru.exs_exr] at hr
  refine ⟨ret_bool ?_, hb⟩
  rw [Bool.eq_iff_iff, hr]
  simp [smB]
def mrg (x : Lne) (ao : Option Addr) (cap : Nat) : Lne := { x with ra := ao, rn := (Ru.enc (Ru.exr x.L x.Y x.rn)).length, rc := cap, L := fun i => (((Ru.enc (Ru.exr x.L x.Y x.rn)).getD i (0, 0)).1 : Nat), Y := fun i => Ru.Ys (Ru.enc (Ru.exr x.L x.Y x.rn)) i }
theorem refsame10_det {w : World} {B C : Nat} (x y : Lne) {ao bo : Option Addr} {ca cb : Nat} (hx : w.ownsRow B 61 2 (.slice ao (Ru.enc (Ru.exr x.L x.Y x.rn)).length ca) (Ru.enc (Ru.exr x.L x.Y x.rn)).length (Ru.rcs (Ru.enc (Ru.exr x.L x.Y x.rn)))) (hy : w.ownsRow C 61 2 (.slice bo (Ru.enc (Ru.exr y.L y.Y y.rn)).length cb) (Ru.enc (Ru.exr y.L y.Y y.rn)).length (Ru.rcs (Ru.enc (Ru.exr y.L y.Y y.rn))))
    (k1 : ∀ p ∈ Ru.enc (Ru.exr x.L x.Y x.rn), p.1 ≤ 9223372036854775807 ∧ Ru.I64 p.2) (k2 : ∀ p ∈ Ru.enc (Ru.exr y.L y.Y y.rn), p.1 ≤ 9223372036854775807 ∧ Ru.I64 p.2) (hn : (Ru.enc (Ru.exr x.L x.Y x.rn)).length ≤ 1048576) :
    Calls Tryz.prog 33 #[(mrg x ao ca).val, (mrg y bo cb).val] w fun e w' => e = .returned (.bool (smB x y)) ∧ Below w.heap.size w w' := by
  refine (refsame10_any (fun b => B ≤ b) (fun b => C ≤ b) (mrg x ao ca) (mrg y bo cb) (Ru.own_runs hx rfl k1) (Ru.own_runs hy rfl k2) hn).mono ?_
  rintro e w' ⟨r, rfl, hr, hb⟩
  refine ⟨ret_bool ?_, hb⟩
  rw [Bool.eq_iff_iff, hr]
  have h1 : (mrg x ao ca).rn = (mrg y bo cb).rn ∧ (∀ i, i < (mrg x ao ca).rn → (mrg x ao ca).L i = (mrg y bo cb).L i ∧ (mrg x ao ca).Y i = (mrg y bo cb).Y i) ↔ Ru.enc (Ru.exr x.L x.Y x.rn) = Ru.enc (Ru.exr y.L y.Y y.rn) := Ru.same_lists _ _
  rw [h1]
  have h2 : lnB (mrg x ao ca) (mrg y bo cb) = lnB x y := rfl
  rw [h2]
  simp only [smB, Bool.and_eq_true, decide_eq_true_eq]
  exact ⟨fun h => ⟨h.1, Ru.enc_inj h.2⟩, fun h => ⟨h.1, by rw [h.2]⟩⟩
theorem own_capw {w : World} {B e size n m cap : Nat} {ao : Option Addr} {xs : List Value} (h : w.ownsRow B e size (.slice ao m cap) n xs) : m ≤ cap := by
  rcases h.2 with ⟨e, h0⟩ | ⟨g, cp, cur, e, hB, hh, hc, -⟩
  · injection e with e1 e2 e3; omega
  · injection e with e1 e2 e3; omega
theorem smB_copy (x : Lne) (ao : Option Addr) (cap : Nat) : smB x { x with ra := ao, rc := cap } = true ∧ smB { x with ra := ao, rc := cap } x = true := by
  simp [smB, lnB]
end Go.Proofs.YtcjcdpfjnomehaaGreat
