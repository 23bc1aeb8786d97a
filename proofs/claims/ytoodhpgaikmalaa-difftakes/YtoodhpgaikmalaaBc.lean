/-
  What the program's Same and the document's Line tell of two lines, and what the program's Copy makes of one (by mkbc.py).
-/
import Derived.Test.YtoodhpgaikmalaaBb
import Derived.Deep.RegionLaw
import Derived.Deep.MidRow
namespace Go.Proofs.Ytoodhpgaikmalaa
open Go.RowKit
set_option linter.unusedSimpArgs false
set_option linter.unusedVariables false
/-- The cells of runs. -/
def put9 (w : World) (rb : Nat) (v0 v1 v2 v3 v4 v5 v6 v7 v8 : Value) : World := (((((((((w.setCell ⟨rb, 0, none⟩ v0).setCell ⟨rb, 1, none⟩ v1).setCell ⟨rb, 2, none⟩ v2).setCell ⟨rb, 3, none⟩ v3).setCell ⟨rb, 4, none⟩ v4).setCell ⟨rb, 5, none⟩ v5).setCell ⟨rb, 6, none⟩ v6).setCell ⟨rb, 7, none⟩ v7).setCell ⟨rb, 8, none⟩ v8)
theorem put9_heap {w : World} {rb : Nat} {x0 x1 x2 x3 x4 x5 x6 x7 x8 : Value} {t : TypeId} (h : w.heap[rb]? = some (.cells #[x0, x1, x2, x3, x4, x5, x6, x7, x8] t (0, 0))) (v0 v1 v2 v3 v4 v5 v6 v7 v8 : Value) : (put9 w rb v0 v1 v2 v3 v4 v5 v6 v7 v8).heap[rb]? = some (.cells #[v0, v1, v2, v3, v4, v5, v6, v7, v8] t (0, 0)) := by
  simp [put9, World.setCell, Array.getElem?_modify, h]
theorem put9_grown (w : World) (rb : Nat) (v0 v1 v2 v3 v4 v5 v6 v7 v8 : Value) : w.grownBy (put9 w rb v0 v1 v2 v3 v4 v5 v6 v7 v8) (some rb) := by
  unfold put9
  exact grown_trans (grown_trans (grown_trans (grown_trans (grown_trans (grown_trans (grown_trans (grown_trans (grown_set _ _ _ _) (grown_set _ _ _ _)) (grown_set _ _ _ _)) (grown_set _ _ _ _)) (grown_set _ _ _ _)) (grown_set _ _ _ _)) (grown_set _ _ _ _)) (grown_set _ _ _ _)) (grown_set _ _ _ _)
section
variable {w : World}
set_option maxRecDepth 100000 in
set_option maxHeartbeats 4000000 in
theorem same10_any (x y : Lne) (hx : P2At (fun _ => True) w x.ra x.rn x.L x.Y) (hy : P2At (fun _ => True) w y.ra y.rn y.L y.Y) (hxc : x.rn ≤ x.rc) (hyc : y.rn ≤ y.rc) :
    Calls Try.prog 25 #[x.val, y.val] w fun e w' => ∃ r, e = .returned (.bool r) ∧ (r = true ↔ lnB x y = true ∧ exs x.L x.Y x.rn = exs y.L y.Y y.rn) ∧ Below w.heap.size w w' := by
  unfold Lne.val
  have HS := boxed (fun W (hb : Below w.heap.size w W) => psame_any W x.ra y.ra x.rn x.rc y.rn y.rc x.L x.Y y.L y.Y (hx.below hb) (hy.below hb) hxc hyc)
  have HL := boxed (show lnB x y = ((x.num == y.num && x.den == y.den) && (x.h == y.h && x.y == y.y) && (x.hy == y.hy && x.bg == y.bg && x.en == y.en) && (x.tx.toList == y.tx.toList)) from rfl)
  generalize lnB x y = V at *
  clear hx hy hxc hyc
  obtain ⟨D1, hD1⟩ : ∃ D, exs x.L x.Y x.rn = D := ⟨_, rfl⟩
  obtain ⟨D2, hD2⟩ : ∃ D, exs y.L y.Y y.rn = D := ⟨_, rfl⟩
  rw [hD1, hD2] at HS ⊢
  clear hD1 hD2
  obtain ⟨x1, x2, x3, x4, x5, x6, x7, x8, x9, xa, xb, xc, xd⟩ := x
  obtain ⟨y1, y2, y3, y4, y5, y6, y7, y8, y9, ya, yb, yc, yd⟩ := y
  simp only at HS HL ⊢
  clear xc xd yc yd
  go_enter Try.func25, Try.ntmps25
  go_wp2_with fail
  all_goals first
    | (go_ret; exact ⟨_, rfl, by rw [HL.out]; simp [*], by go_grown⟩)
    | (refine (HS.out _ (by go_grown)).mono ?_; rintro e w1 ⟨r, rfl, hr, hb1⟩; have HF := boxed (And.intro hr (below_step (B := w.heap.size) (w := w) (by go_grown) (Nat.le_refl _) hb1)); clear hr hb1 HS; go_wp2_with fail; go_ret; exact ⟨r, rfl, by rw [HL.out, HF.out.1]; simp [*], HF.out.2⟩)
end
/-- A line in a block of its own. -/
def LnC (W : World) (b : Nat) (x : Lne) : Prop := W.cell? ⟨b, 0, none⟩ = some (.string x.tx) ∧ W.cell? ⟨b, 1, none⟩ = some (.slice x.ra x.rn x.rc) ∧ W.cell? ⟨b, 2, none⟩ = some (.int .i64 x.num) ∧ W.cell? ⟨b, 3, none⟩ = some (.int .i64 x.den) ∧ W.cell? ⟨b, 4, none⟩ = some (.int .i64 x.h) ∧ W.cell? ⟨b, 5, none⟩ = some (.bool x.hy) ∧ W.cell? ⟨b, 6, none⟩ = some (.int .i64 x.y) ∧ W.cell? ⟨b, 7, none⟩ = some (.bool x.bg) ∧ W.cell? ⟨b, 8, none⟩ = some (.bool x.en)
def LnB (W : World) (b : Nat) (x : Lne) : Prop := W.heap[b]? = some (.cells #[.string x.tx, .slice x.ra x.rn x.rc, .int .i64 x.num, .int .i64 x.den, .int .i64 x.h, .bool x.hy, .int .i64 x.y, .bool x.bg, .bool x.en] 37 (0, 0))
theorem LnB.cells {W : World} {b : Nat} {x : Lne} (h : LnB W b x) : LnC W b x := (cells9 h).1
theorem LnB.lt {W : World} {b : Nat} {x : Lne} (h : LnB W b x) : b < W.heap.size := heap_lt h
theorem LnB.below {W W' : World} {b B : Nat} {x : Lne} (h : LnB W b x) (hb : Below B W W') (hB : b < B) : LnB W' b x := (hb.block b hB).trans h
theorem LnB.next {W W' : World} {b : Nat} {x : Lne} (h : LnB W b x) (hb : Below W.heap.size W W') : LnB W' b x := h.below hb h.lt
/-- Same, as a plain answer. -/
def smB (x y : Lne) : Bool := lnB x y && decide (exr x.L x.Y x.rn = exr y.L y.Y y.rn)
theorem same10_det {w : World} (x y : Lne) (hx : P2At (fun _ => True) w x.ra x.rn x.L x.Y) (hy : P2At (fun _ => True) w y.ra y.rn y.L y.Y) (hxc : x.rn ≤ x.rc) (hyc : y.rn ≤ y.rc) :
    Calls Try.prog 25 #[x.val, y.val] w fun e w' => e = .returned (.bool (smB x y)) ∧ Below w.heap.size w w' := by
  refine (same10_any x y hx hy hxc hyc).mono ?_
  rintro e w' ⟨r, rfl, hr, hb⟩
  rw [exs_exr, exs_exr] at hr
  refine ⟨ret_bool ?_, hb⟩
  rw [Bool.eq_iff_iff, hr]
  simp [smB]
/-- The runs of a line in one's own memory. -/
def mrg (x : Lne) (ao : Option Addr) (cap : Nat) : Lne := { x with ra := ao, rn := (enc (exr x.L x.Y x.rn)).length, rc := cap, L := fun i => (((enc (exr x.L x.Y x.rn)).getD i (0, 0)).1 : Nat), Y := fun i => Ys (enc (exr x.L x.Y x.rn)) i }
theorem refsame10_det {w : World} {B C : Nat} (x y : Lne) {ao bo : Option Addr} {ca cb : Nat} (hx : w.ownsRow B 58 2 (.slice ao (enc (exr x.L x.Y x.rn)).length ca) (enc (exr x.L x.Y x.rn)).length (rcs (enc (exr x.L x.Y x.rn)))) (hy : w.ownsRow C 58 2 (.slice bo (enc (exr y.L y.Y y.rn)).length cb) (enc (exr y.L y.Y y.rn)).length (rcs (enc (exr y.L y.Y y.rn))))
    (k1 : ∀ p ∈ enc (exr x.L x.Y x.rn), p.1 ≤ 9223372036854775807 ∧ I64 p.2) (k2 : ∀ p ∈ enc (exr y.L y.Y y.rn), p.1 ≤ 9223372036854775807 ∧ I64 p.2) (hn : (enc (exr x.L x.Y x.rn)).length ≤ 1048576) :
    Calls Try.prog 27 #[(mrg x ao ca).val, (mrg y bo cb).val] w fun e w' => e = .returned (.bool (smB x y)) ∧ Below w.heap.size w w' := by
  refine (refsame10_any (fun b => B ≤ b) (fun b => C ≤ b) (mrg x ao ca) (mrg y bo cb) (own_runs hx rfl k1) (own_runs hy rfl k2) hn).mono ?_
  rintro e w' ⟨r, rfl, hr, hb⟩
  refine ⟨ret_bool ?_, hb⟩
  rw [Bool.eq_iff_iff, hr]
  have h1 : (mrg x ao ca).rn = (mrg y bo cb).rn ∧ (∀ i, i < (mrg x ao ca).rn → (mrg x ao ca).L i = (mrg y bo cb).L i ∧ (mrg x ao ca).Y i = (mrg y bo cb).Y i) ↔ enc (exr x.L x.Y x.rn) = enc (exr y.L y.Y y.rn) := same_lists _ _
  rw [h1]
  have h2 : lnB (mrg x ao ca) (mrg y bo cb) = lnB x y := rfl
  rw [h2]
  simp only [smB, Bool.and_eq_true, decide_eq_true_eq]
  exact ⟨fun h => ⟨h.1, enc_inj h.2⟩, fun h => ⟨h.1, by rw [h.2]⟩⟩
theorem own_capw {w : World} {B e size n m cap : Nat} {ao : Option Addr} {xs : List Value} (h : w.ownsRow B e size (.slice ao m cap) n xs) : m ≤ cap := by
  rcases h.2 with ⟨e, h0⟩ | ⟨g, cp, cur, e, hB, hh, hc, -⟩
  · injection e with e1 e2 e3; omega
  · injection e with e1 e2 e3; omega
/-- A copy is the same. -/
theorem smB_copy (x : Lne) (ao : Option Addr) (cap : Nat) : smB x { x with ra := ao, rc := cap } = true ∧ smB { x with ra := ao, rc := cap } x = true := by
  simp [smB, lnB]
set_option maxHeartbeats 4000000 in
set_option maxRecDepth 100000 in
theorem copy10_any (S : Nat → Prop) (x : Lne) (w : World) (hx : P2At S w x.ra x.rn x.L x.Y) (ht : x.tx.size ≤ 140737488351232) (hn : x.rn ≤ 262144) :
    Calls Try.prog 28 #[x.val] w fun e w' => ∃ ao' c', e = .returned (.agg #[.string x.tx, .slice ao' x.rn c', .int .i64 x.num, .int .i64 x.den, .int .i64 x.h, .bool x.hy, .int .i64 x.y, .bool x.bg, .bool x.en]) ∧ w'.ownsRow w.heap.size 58 2 (.slice ao' x.rn c') x.rn (rvs x.L x.Y x.rn) ∧ Below w.heap.size w w' := by
  have HQ := boxed (laid2 w (.cells #[.string x.tx, .slice x.ra x.rn x.rc, .int .i64 x.num, .int .i64 x.den, .int .i64 x.h, .bool x.hy, .int .i64 x.y, .bool x.bg, .bool x.en] 37) (.cells #[.string ⟨#[]⟩, .slice none 0 0, .int .i64 0, .int .i64 0, .int .i64 0, .bool false, .int .i64 0, .bool false, .bool false] 37))
  have hc := fun W => clone_any x.tx W (by omega)
  have HC := boxed (fun W (hb : Below w.heap.size w W) => cloneR_any S x.ra x.rn x.rc x.L x.Y W (hx.below hb) hn)
  unfold Lne.val
  clear hx
  go_enter Try.func28, Try.ntmps28
  go_wp2_with fail
  refine (hc _).mono ?_
  rintro e w1 ⟨rfl, hb1⟩
  rw [HQ.out.2.2.2] at hb1
  have e0 := (hb1.block w.heap.size (by omega)).trans HQ.out.1
  have e1 := (hb1.block (w.heap.size + 1) (by omega)).trans HQ.out.2.1
  have HB1 := boxed (HQ.out.2.2.1.trans (hb1.mono (by omega)))
  obtain ⟨⟨c0, c1, c2, c3, c4, c5, c6, c7, c8⟩, cf⟩ := cells9 e0
  obtain ⟨W2, hW2⟩ : ∃ W2, w1.setCell ⟨w.heap.size, 0, none⟩ (.string x.tx) = W2 := ⟨_, rfl⟩
  have E0 := boxed (show W2.heap[w.heap.size]? = some (.cells #[.string x.tx, .slice x.ra x.rn x.rc, .int .i64 x.num, .int .i64 x.den, .int .i64 x.h, .bool x.hy, .int .i64 x.y, .bool x.bg, .bool x.en] 37 (0, 0)) by rw [← hW2]; exact arr_set _ e0)
  have E1 := boxed (show W2.heap[w.heap.size + 1]? = some (.cells #[.string ⟨#[]⟩, .slice none 0 0, .int .i64 0, .int .i64 0, .int .i64 0, .bool false, .int .i64 0, .bool false, .bool false] 37 (0, 0)) by rw [← hW2, Below.heap_setCell _ _ _ _ (by simp)]; exact e1)
  have HB2 := boxed (show Below w.heap.size w W2 by rw [← hW2]; exact HB1.out.setCell (Nat.le_refl _) _)
  obtain ⟨⟨d0, d1, d2, d3, d4, d5, d6, d7, d8⟩, df⟩ := cells9 E0.out
  have hcr := HC.out _ HB2.out
  clear hb1 e0 e1 HB1 hc HC
  go_wp2_with fail
  refine hcr.mono ?_
  rintro e w3 ⟨ao', cc, rfl, ho, hb3⟩
  have hzl := heap_lt E1.out
  have e0 := (hb3.block w.heap.size (by omega)).trans E0.out
  have e1 := (hb3.block (w.heap.size + 1) (by omega)).trans E1.out
  have HB3 := boxed (below_step HB2.out (Nat.le_refl _) hb3)
  obtain ⟨⟨p0, p1, p2, p3, p4, p5, p6, p7, p8⟩, pf⟩ := cells9 e0
  have pf1 := row_free e0 1
  obtain ⟨W4, hW4⟩ : ∃ W4, w3.setCell ⟨w.heap.size, 1, none⟩ (.slice ao' x.rn cc) = W4 := ⟨_, rfl⟩
  have f0 : W4.heap[w.heap.size]? = some (.cells #[.string x.tx, .slice ao' x.rn cc, .int .i64 x.num, .int .i64 x.den, .int .i64 x.h, .bool x.hy, .int .i64 x.y, .bool x.bg, .bool x.en] 37 (0, 0)) := by rw [← hW4]; exact arr_set _ e0
  have f1 : W4.heap[w.heap.size + 1]? = some (.cells #[.string ⟨#[]⟩, .slice none 0 0, .int .i64 0, .int .i64 0, .int .i64 0, .bool false, .int .i64 0, .bool false, .bool false] 37 (0, 0)) := by rw [← hW4, Below.heap_setCell _ _ _ _ (by simp)]; exact e1
  have hB4 : Below w.heap.size w W4 := by rw [← hW4]; exact HB3.out.setCell (Nat.le_refl _) _
  have hO4 : W4.ownsRow W2.heap.size 58 2 (.slice ao' x.rn cc) x.rn (rvs x.L x.Y x.rn) := by rw [← hW4]; exact ownsRow_setCell_below ho (by simp only; omega) _
  have F0 := boxed f0
  have F1 := boxed f1
  obtain ⟨⟨q0, q1, q2, q3, q4, q5, q6, q7, q8⟩, -⟩ := cells9 f0
  obtain ⟨⟨r0, r1, r2, r3, r4, r5, r6, r7, r8⟩, z0, z1, z2, z3, z4, z5, z6, z7, z8⟩ := cells9 f1
  have HR := put9_heap f1 (.string x.tx) (.slice ao' x.rn cc) (.int .i64 x.num) (.int .i64 x.den) (.int .i64 x.h) (.bool x.hy) (.int .i64 x.y) (.bool x.bg) (.bool x.en)
  have HG := put9_grown W4 (w.heap.size + 1) (.string x.tx) (.slice ao' x.rn cc) (.int .i64 x.num) (.int .i64 x.den) (.int .i64 x.h) (.bool x.hy) (.int .i64 x.y) (.bool x.bg) (.bool x.en)
  have HF := hB4.trans (grown_below HG (by omega) hB4.size)
  have HO := hO4.kept HG (by
    right
    intro c
    have := (hO4.lt _ c).1
    omega)
  have HO5 := own_down HO (show w.heap.size ≤ W2.heap.size by omega)
  unfold put9 at HR HF HO5
  replace HR := boxed HR
  replace HF := boxed HF
  replace HO5 := boxed HO5
  clear hb3 e0 e1 HB2 HB3 ho hB4 hO4 HO HG f0 f1 E0 E1 c0 c1 c2 c3 c4 c5 c6 c7 c8 d0 d1 d2 d3 d4 d5 d6 d7 d8 cf df hcr
  go_wp2_with fail
  refine bodyPost_ret (v := .agg #[.string x.tx, .slice ao' x.rn cc, .int .i64 x.num, .int .i64 x.den, .int .i64 x.h, .bool x.hy, .int .i64 x.y, .bool x.bg, .bool x.en]) ?_ ?_ ?_
  · exact results_cell_row Try.results28 _ _ (w.heap.size + 1) 37 _ (0, 0) _ rfl HR.out Try.underlying37 rfl (by kernel_rfl)
  · rfl
  · exact ⟨_, _, rfl, HO5.out, HF.out⟩
/-- All that two lines are the same by: the text's bytes; numbers, marks and styles. -/
abbrev Key := List Int × List Int
def b2i (b : Bool) : Int := if b then 1 else 0
theorem b2i_inj (a b : Bool) : b2i a = b2i b ↔ a = b := by cases a <;> cases b <;> simp [b2i]
theorem bytes_inj (s t : List UInt8) : s.map (fun u => (u.toNat : Int)) = t.map (fun u => (u.toNat : Int)) ↔ s = t := by
  constructor
  · intro h
    induction s generalizing t with
    | nil => cases t <;> simp_all
    | cons a s ih =>
      cases t with
      | nil => simp at h
      | cons b t =>
        simp only [List.map_cons, List.cons.injEq] at h
        have hu : a = b := UInt8.toNat_inj.1 (by omega)
        rw [hu, ih t h.2]
  · intro h; rw [h]
def key (x : Lne) : Key := (x.tx.toList.map (fun u => (u.toNat : Int)), x.num :: x.den :: x.h :: x.y :: b2i x.hy :: b2i x.bg :: b2i x.en :: exr x.L x.Y x.rn)
theorem smB_key (x y : Lne) : smB x y = decide (key x = key y) := by
  rw [Bool.eq_iff_iff]
  simp only [smB, lnB, key, Prod.mk.injEq, bytes_inj, List.cons.injEq, b2i_inj, Bool.and_eq_true, decide_eq_true_eq, beq_iff_eq]
  constructor
  · rintro ⟨⟨⟨⟨⟨h1, h2⟩, h3, h4⟩, ⟨h5, h6⟩, h7⟩, h8⟩, h9⟩
    exact ⟨h8, h1, h2, h3, h4, h5, h6, h7, h9⟩
  · rintro ⟨h8, h1, h2, h3, h4, h5, h6, h7, h9⟩
    exact ⟨⟨⟨⟨⟨h1, h2⟩, h3, h4⟩, ⟨h5, h6⟩, h7⟩, h8⟩, h9⟩
/-- What the walks need of a line. -/
structure LnOk (x : Lne) : Prop where
  tx : x.tx.size ≤ 140737488351232
  rn : x.rn ≤ 20
  rc : x.rn ≤ x.rc
  ln : ∀ i, i < x.rn → x.L i ≤ 1099511627776
theorem p2_true {S : Nat → Prop} {w : World} {ao : Option Addr} {n : Nat} {L Y : Nat → Int} (h : P2At S w ao n L Y) : P2At (fun _ => True) w ao n L Y := h.keep (fun _ _ _ _ hc => ⟨trivial, hc⟩)
theorem same14_any {S S' : Nat → Prop} {w : World} (x y : Lne) (hx : P2At S w x.ra x.rn x.L x.Y) (hy : P2At S' w y.ra y.rn y.L y.Y) (kx : LnOk x) (ky : LnOk y) :
    Calls Try.prog 25 #[x.val, y.val] w fun e w' => e = .returned (.bool (decide (key x = key y))) ∧ Below w.heap.size w w' := by
  rw [← smB_key]
  exact same10_det x y (p2_true hx) (p2_true hy) kx.rc ky.rc
set_option maxRecDepth 100000 in
set_option maxHeartbeats 8000000 in
theorem line14_any {S S' : Nat → Prop} {w : World} (x y : Lne) (hx : P2At S w x.ra x.rn x.L x.Y) (hy : P2At S' w y.ra y.rn y.L y.Y) (kx : LnOk x) (ky : LnOk y) :
    Calls Try.prog 15 #[x.val, y.val] w fun e w' => e = .returned (.bool (decide (key x = key y))) ∧ Below w.heap.size w w' := by
  rw [← smB_key]
  obtain ⟨R, hR⟩ : ∃ R, smB x y = R := ⟨_, rfl⟩
  rw [hR]
  have HR := boxed hR
  clear hR
  have HI := boxed (And.intro (fun i hi => (hx i hi).1) (fun i hi => (hy i hi).1))
  have L0 := boxed (laid2 w (.cells #[.string x.tx, .slice x.ra x.rn x.rc, .int .i64 x.num, .int .i64 x.den, .int .i64 x.h, .bool x.hy, .int .i64 x.y, .bool x.bg, .bool x.en] 37) (.cells #[.string y.tx, .slice y.ra y.rn y.rc, .int .i64 y.num, .int .i64 y.den, .int .i64 y.h, .bool y.hy, .int .i64 y.y, .bool y.bg, .bool y.en] 37))
  obtain ⟨wc, hwc⟩ : ∃ wc, (w.alloc (.cells #[.string x.tx, .slice x.ra x.rn x.rc, .int .i64 x.num, .int .i64 x.den, .int .i64 x.h, .bool x.hy, .int .i64 x.y, .bool x.bg, .bool x.en] 37)).alloc (.cells #[.string y.tx, .slice y.ra y.rn y.rc, .int .i64 y.num, .int .i64 y.den, .int .i64 y.h, .bool y.hy, .int .i64 y.y, .bool y.bg, .bool y.en] 37) = wc := ⟨_, rfl⟩
  rw [hwc] at L0
  have HWC := boxed hwc
  obtain ⟨p, hp⟩ : ∃ p, w.heap.size = p := ⟨_, rfl⟩
  have hp0 : w.heap.size ≤ p := by omega
  have hne : p ≠ p + 1 := by omega
  have hne2 : p + 1 ≠ p := by omega
  have hq0 : w.heap.size ≤ p + 1 := by omega
  have HX : Box (LnB wc p x) := boxed (by rw [← hp]; exact L0.out.1)
  have HY : Box (LnB wc (p + 1) y) := boxed (by rw [← hp]; exact L0.out.2.1)
  have HB0 : Box (Below w.heap.size w wc) := boxed L0.out.2.2.1
  have HZ : Box (wc.heap.size = p + 2) := boxed (by rw [← hp]; exact L0.out.2.2.2)
  have hrx := kx.rn
  have hry := ky.rn
  have HM0 := boxed (fun W (hb : Below wc.heap.size wc W) => merged_any W x.ra x.rn x.rc x.L x.Y (p2_true (hx.below (below_step HB0.out (Nat.le_refl _) hb))) (by omega) kx.ln)
  have HM1 := boxed (fun W (hb : Below wc.heap.size wc W) => merged_any W y.ra y.rn y.rc y.L y.Y (p2_true (hy.below (below_step HB0.out (Nat.le_refl _) hb))) (by omega) ky.ln)
  have HQ0 := boxed (enc_ok2 (s := exr x.L x.Y x.rn) (by have := exr_len2 x.L x.Y x.rn x.rn (Nat.le_refl _) kx.ln; omega) (exr_i64 x.L x.Y x.rn x.rn (Nat.le_refl _) (fun i hi => (HI.out.1 i hi).2)))
  have HQ1 := boxed (enc_ok2 (s := exr y.L y.Y y.rn) (by have := exr_len2 y.L y.Y y.rn y.rn (Nat.le_refl _) ky.ln; omega) (exr_i64 y.L y.Y y.rn y.rn (Nat.le_refl _) (fun i hi => (HI.out.2 i hi).2)))
  have HEC := boxed (exr_count x.L x.Y x.rn)
  have HD0 : Box (Below wc.heap.size wc wc.drew) := boxed (Below.refl _ wc).drew
  have HC : Box (∀ W, Below wc.heap.size wc W → W.cell? ⟨p, 1, none⟩ = some (.slice x.ra x.rn x.rc) ∧ W.cell? ⟨p + 1, 1, none⟩ = some (.slice y.ra y.rn y.rc)) := boxed (fun W hb => ⟨(HX.out.next hb).cells.2.1, (HY.out.next hb).cells.2.1⟩)
  clear L0 hwc
  unfold Lne.val
  go_enter Try.func15, Try.ntmps15
  go_upto_region 1 with (fail)
  rw [HWC.out]
  obtain ⟨a1, b1⟩ := HC.out _ (Below.refl _ wc)
  have a1' : wc.drew.cell? ⟨p, 1, none⟩ = some (.slice x.ra x.rn x.rc) := a1
  have b1' : wc.drew.cell? ⟨p + 1, 1, none⟩ = some (.slice y.ra y.rn y.rc) := b1
  go_region_with (first
      | (go_at_call 26; refine (HM0.out _ HD0.out).mono ?_; rintro e w3 ⟨v3, rfl, hv3, hb3⟩; clear HM0; obtain ⟨ao3, cp3, rfl⟩ := own_shape hv3; have HV3 := boxed hv3; have HD3 := boxed (below_step HD0.out (Nat.le_refl _) hb3); have b13 := (HC.out _ HD3.out).2; clear hv3 hb3)
      | (go_at_call 26; refine (HM1.out _ HD3.out).mono ?_; rintro e w4 ⟨v4, rfl, hv4, hb4⟩; clear HM1; obtain ⟨ao4, cp4, rfl⟩ := own_shape hv4; have HV4 := boxed (And.intro (owns_below HV3.out hb4) hv4); have HD4 := boxed (below_step HD3.out (Nat.le_refl _) hb4); obtain ⟨⟨-, m1, -⟩, -, z1, -⟩ := cells9 (HX.out.next HD4.out); obtain ⟨⟨-, m2, -⟩, -, z2, -⟩ := cells9 (HY.out.next HD4.out); clear hv4 hb4))
  all_goals
    obtain ⟨W5, hW5⟩ : ∃ W5, (w4.setCell ⟨p, 1, none⟩ (.slice ao3 (enc (exr x.L x.Y x.rn)).length cp3)).setCell ⟨p + 1, 1, none⟩ (.slice ao4 (enc (exr y.L y.Y y.rn)).length cp4) = W5 := ⟨_, rfl⟩
    have HX5 : Box (LnB W5 p (mrg x ao3 cp3)) := boxed (by
      show W5.heap[p]? = some (.cells #[.string x.tx, .slice ao3 (enc (exr x.L x.Y x.rn)).length cp3, .int .i64 x.num, .int .i64 x.den, .int .i64 x.h, .bool x.hy, .int .i64 x.y, .bool x.bg, .bool x.en] 37 (0, 0))
      rw [← hW5, Below.heap_setCell _ _ _ _ hne]
      exact arr_set _ (HX.out.next HD4.out))
    have HY5 : Box (LnB W5 (p + 1) (mrg y ao4 cp4)) := boxed (by
      have e := HY.out.next HD4.out
      unfold LnB at e
      rw [← Below.heap_setCell w4 ⟨p, 1, none⟩ (.slice ao3 (enc (exr x.L x.Y x.rn)).length cp3) (p + 1) hne2] at e
      show W5.heap[p + 1]? = some (.cells #[.string y.tx, .slice ao4 (enc (exr y.L y.Y y.rn)).length cp4, .int .i64 y.num, .int .i64 y.den, .int .i64 y.h, .bool y.hy, .int .i64 y.y, .bool y.bg, .bool y.en] 37 (0, 0))
      rw [← hW5]
      exact arr_set _ e)
    have HB5 : Box (Below w.heap.size w W5) := boxed (by rw [← hW5]; exact ((below_step HB0.out (Nat.le_refl _) HD4.out).setCell (p := ⟨p, 1, none⟩) hp0 _).setCell (p := ⟨p + 1, 1, none⟩) hq0 _)
    have hlp := HX.out.lt
    have hlq := HY.out.lt
    have hl3 := HD3.out.size
    have HV5 : Box (W5.ownsRow wc.heap.size 58 2 (.slice ao3 (enc (exr x.L x.Y x.rn)).length cp3) (enc (exr x.L x.Y x.rn)).length (rcs (enc (exr x.L x.Y x.rn))) ∧ W5.ownsRow w3.heap.size 58 2 (.slice ao4 (enc (exr y.L y.Y y.rn)).length cp4) (enc (exr y.L y.Y y.rn)).length (rcs (enc (exr y.L y.Y y.rn)))) := boxed (by
      rw [← hW5]
      exact ⟨ownsRow_setCell_below (ownsRow_setCell_below HV4.out.1 (a := ⟨p, 1, none⟩) hlp _) (a := ⟨p + 1, 1, none⟩) hlq _, ownsRow_setCell_below (ownsRow_setCell_below HV4.out.2 (a := ⟨p, 1, none⟩) (by simp only; omega) _) (a := ⟨p + 1, 1, none⟩) (by simp only; omega) _⟩)
    rw [hW5]
    have HCS := boxed (refsame10_det (w := W5) x y HV5.out.1 HV5.out.2 HQ0.out HQ1.out (by have := HEC.out; omega))
    rw [HR.out] at HCS
    simp only [Lne.val, mrg] at HCS
    obtain ⟨⟨c0, c1, c2, c3, c4, c5, c6, c7, c8⟩, -⟩ := cells9 HX5.out
    obtain ⟨⟨d0, d1, d2, d3, d4, d5, d6, d7, d8⟩, -⟩ := cells9 HY5.out
    simp only [mrg] at c0 c1 c2 c3 c4 c5 c6 c7 c8 d0 d1 d2 d3 d4 d5 d6 d7 d8
    clear hW5 HV4 HV3 HD3 HD4 HD0 HX HY m1 m2 z1 z2 a1 b1 hlp hlq hl3 HV5 HX5 HY5 HQ0 HQ1 HC HI hx hy kx ky HB0 HWC
    go_wp2_with fail
    refine HCS.out.mono ?_
    rintro e w6 ⟨rfl, hb6⟩
    have HB6 := boxed (below_step HB5.out (Nat.le_refl _) hb6)
    clear hb6 HCS c0 c1 c2 c3 c4 c5 c6 c7 c8 d0 d1 d2 d3 d4 d5 d6 d7 d8
    go_wp2_with fail
    go_ret
    exact ⟨rfl, HB6.out⟩

end Go.Proofs.Ytoodhpgaikmalaa
