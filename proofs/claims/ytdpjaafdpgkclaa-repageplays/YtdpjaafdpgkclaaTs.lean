/-
  The document's side: which lines may be replaced, numbers in a list, lines alike.
-/
import Derived.Test.YtdpjaafdpgkclaaTr
import Derived.Test.YtdpjaafdpgkclaaHh
namespace Go.Proofs.Ytdpjaafdpgkclaa
open Go.RowKit
set_option linter.unusedSimpArgs false
set_option linter.unusedVariables false

/-- The document's book, as a value. -/
def rbv (lo : Option Addr) (n c : Nat) (H : Int) (g : Stg) : Value := .agg #[.slice lo n c, .int .i64 H, .int .i64 g.t, .int .i64 g.l, .int .i64 g.a, .int .i64 g.d, .int .i64 g.z, .int .i64 g.o, .int .i64 g.i]
def rbc (lo : Option Addr) (n c : Nat) (H : Int) (g : Stg) : Array Value := #[.slice lo n c, .int .i64 H, .int .i64 g.t, .int .i64 g.l, .int .i64 g.a, .int .i64 g.d, .int .i64 g.z, .int .i64 g.o, .int .i64 g.i]
set_option maxRecDepth 100000 in
theorem edge_any (D : Dc) (S : Nat → Prop) (ao : Option Addr) (c k : Nat) (w : World) (h : SltsAt S w ao D.n D.F) (hk : k ≤ D.n) :
    Calls Try.prog 34 #[.slice ao D.n c, .int .i64 (k : Nat)] w fun e w' => e = .returned (.bool (sm D k)) ∧ w' = w := by
  have hun : undef = Value.tuple #[] := rfl
  by_cases hl : k = D.n
  · have e : sm D k = true := decide_eq_true (.inl hl)
    rw [e]
    clear h e
    subst hl
    generalize D.n = n at *
    go_enter Try.func34, Try.ntmps34
    go_wp2
    go_ret
    exact ⟨rfl, rfl⟩
  · obtain ⟨b, off, rfl, -, -⟩ := h.form (by omega)
    obtain ⟨-, c1, -⟩ := h.get k (by omega)
    have e : sm D k = decide ((D.F k).i = 0) := by
      unfold sm
      simp [hl]
    rw [e]
    have t1 : ((k : Int) == (D.n : Int)) = false := by simp; omega
    have hlt : (k : Int) < (D.n : Int) := by omega
    clear h e
    generalize (D.F k).i = x at *
    generalize D.n = n at *
    go_enter Try.func34, Try.ntmps34
    go_wp2
    go_ret
    exact ⟨rfl, rfl⟩
set_option maxRecDepth 100000 in
set_option maxHeartbeats 2000000 in
theorem may13_any (D : Dc) (g : Stg) (S T : Nat → Prop) (ao bo : Option Addr) (c m mc : Nat) (C : Nat → Slt) (R : Bool) (hR : R = true ↔ Rts C m 0) (f d : Int) (hf : I64 f) (hd : I64 d) (w : World) (h : SltsAt S w ao D.n D.F) (hC : SltsAt T w bo m C) (hn : D.n ≤ 1000) (hm : m ≤ 1000) :
    Calls Try.prog 20 #[rbv ao D.n c D.H g, .int .i64 f, .int .i64 d, .slice bo m mc] w fun e w' => e = .returned (.bool (wh D f d && R)) ∧ Below w.heap.size w w' := by
  obtain ⟨W0, hW0⟩ : ∃ W0, w.alloc (.cells (rbc ao D.n c D.H g) 31) = W0 := ⟨_, rfl⟩
  have hc0 := cell_first w (rbc ao D.n c D.H g) 31 0
  have hB0 := (laid1 w (.cells (rbc ao D.n c D.H g) 31)).2.1
  rw [hW0] at hc0 hB0
  have c0 : W0.cell? ⟨w.heap.size, 0, none⟩ = some (.slice ao D.n c) := hc0
  have HE := boxed (fun k W (hb : Below w.heap.size w W) (hk : k ≤ D.n) => edge_any D S ao c k W (h.below hb) hk)
  have HR := boxed (fun W (hb : Below w.heap.size w W) => refright_any T bo m mc C R hR W (hC.below hb) hm)
  have HB0 := boxed hB0
  have HW0 := boxed hW0
  unfold rbc at HW0
  unfold rbv
  have hun : undef = Value.tuple #[] := rfl
  unfold I64 at hf hd
  clear h hC hc0 hB0 hW0 hR
  by_cases h1 : f < 0
  · have e : (wh D f d && R) = false := by
      have : wh D f d = false := by unfold wh; simp; omega
      rw [this]; rfl
    have t1 : decide (f < 0) = true := decide_eq_true h1
    rw [e]
    clear e
    generalize D.n = n at *
    go_enter Try.func20, Try.ntmps20
    go_upto_region 1 with fail
    rw [HW0.out]
    go_wp2_with fail
    go_ret
    exact ⟨rfl, HB0.out⟩
  · have t1 : decide (f < 0) = false := decide_eq_false h1
    by_cases h2 : d < 0
    · have e : (wh D f d && R) = false := by
        have : wh D f d = false := by unfold wh; simp; omega
        rw [this]; rfl
      have t2 : decide (d < 0) = true := decide_eq_true h2
      rw [e]
      clear e
      generalize D.n = n at *
      go_enter Try.func20, Try.ntmps20
      go_upto_region 1 with fail
      rw [HW0.out]
      go_wp2_with fail
      go_ret
      exact ⟨rfl, HB0.out⟩
    · have t2 : decide (d < 0) = false := decide_eq_false h2
      by_cases h3 : (D.n : Int) < f
      · have e : (wh D f d && R) = false := by
          have : wh D f d = false := by unfold wh; simp; omega
          rw [this]; rfl
        have t3 : decide ((D.n : Int) < f) = true := decide_eq_true h3
        rw [e]
        clear e HE
        generalize D.n = n at *
        go_enter Try.func20, Try.ntmps20
        go_upto_region 1 with fail
        rw [HW0.out]
        go_wp2_with fail
        go_ret
        exact ⟨rfl, HB0.out⟩
      · have t3 : decide ((D.n : Int) < f) = false := decide_eq_false h3
        by_cases h4 : (D.n : Int) - f < d
        · have e : (wh D f d && R) = false := by
            have : wh D f d = false := by unfold wh; simp; omega
            rw [this]; rfl
          have t4 : decide ((D.n : Int) - f < d) = true := decide_eq_true h4
          rw [e]
          clear e HE
          generalize D.n = n at *
          go_enter Try.func20, Try.ntmps20
          go_upto_region 1 with fail
          rw [HW0.out]
          go_wp2_with fail
          go_ret
          exact ⟨rfl, HB0.out⟩
        · have t4 : decide ((D.n : Int) - f < d) = false := decide_eq_false h4
          have e : wh D f d = (sm D f.toNat && sm D (f + d).toNat) := by
            unfold wh
            rw [decide_eq_true (show 0 ≤ f by omega), decide_eq_true (show 0 ≤ d by omega), decide_eq_true (show f + d ≤ D.n by omega)]
            simp
          rw [e]
          have H1 := HE.out f.toNat W0 HB0.out (by omega)
          have H2 := HE.out (f + d).toNat W0 HB0.out (by omega)
          have H3 := HR.out W0 HB0.out
          rw [show ((f.toNat : Nat) : Int) = f by omega] at H1
          rw [show (((f + d).toNat : Nat) : Int) = f + d by omega] at H2
          clear e HE HR
          generalize sm D f.toNat = X at *
          generalize sm D (f + d).toNat = Y at *
          generalize D.n = n at *
          cases X with
          | false =>
            go_enter Try.func20, Try.ntmps20
            go_upto_region 1 with fail
            rw [HW0.out]
            go_wp2_with fail
            refine H1.mono ?_
            rintro e w1 ⟨rfl, rfl⟩
            go_wp2_with fail
            go_ret
            exact ⟨rfl, HB0.out⟩
          | true =>
            cases Y with
            | false =>
              go_enter Try.func20, Try.ntmps20
              go_upto_region 1 with fail
              rw [HW0.out]
              go_wp2_with fail
              refine H1.mono ?_
              rintro e w1 ⟨rfl, rfl⟩
              go_wp2_with fail
              refine H2.mono ?_
              rintro e w2 ⟨rfl, rfl⟩
              go_wp2_with fail
              go_ret
              exact ⟨rfl, HB0.out⟩
            | true =>
              go_enter Try.func20, Try.ntmps20
              go_upto_region 1 with fail
              rw [HW0.out]
              go_wp2_with fail
              refine H1.mono ?_
              rintro e w1 ⟨rfl, rfl⟩
              go_wp2_with fail
              refine H2.mono ?_
              rintro e w2 ⟨rfl, rfl⟩
              go_wp2_with fail
              refine H3.mono ?_
              rintro e w3 ⟨rfl, hb⟩
              have HB := boxed (below_step HB0.out (Nat.le_refl _) hb)
              clear hb
              go_wp2_with fail
              go_ret
              exact ⟨by simp, HB.out⟩
set_option maxRecDepth 100000 in
theorem in_any (S : Nat → Prop) (ao : Option Addr) (n c : Nat) (L : List Nat) (hL : L.length = n) (x : Int) (V : Bool) (hV : V = true ↔ ∃ j, j < n ∧ ((L.getD j 0 : Nat) : Int) = x) (w : World) (h : NAt S w ao L) (hn : n ≤ 1000000) :
    Calls Try.prog 43 #[.slice ao n c, .int .i64 x] w fun e w' => e = .returned (.bool V) ∧ w' = w := by
  have HN := boxed h
  have HL := boxed hL
  have HV := boxed hV
  clear h hL hV
  go_enter Try.func43, Try.ntmps43
  go_wp2_with fail
  go_loopw [5] (fun iv wr => ∃ i : Nat, i ≤ n ∧ iv = .int .i64 (i : Nat) ∧ Box (∀ j, j < i → ((L.getD j 0 : Nat) : Int) ≠ x) ∧ wr = w) (fun iv _ => n - (intOf iv).toNat)
  case atStart => exact ⟨0, Nat.zero_le _, rfl, boxed (fun j hj => by omega), by trivial⟩
  case round =>
    obtain ⟨i, hi, rfl, HP, hw⟩ := hrel
    rw [hw]
    by_cases hlt : i < n
    · obtain ⟨b, rfl, -, -⟩ := HN.out.form (by rw [HL.out]; omega)
      have c0 := HN.out.get i (by rw [HL.out]; omega)
      have hii : (i : Int) < (n : Int) := by omega
      by_cases he : ((L.getD i 0 : Nat) : Int) = x
      · have HE : Box (V = true) := boxed (HV.out.2 ⟨i, hlt, he⟩)
        rw [he] at c0
        clear HV HP he
        go_wp2_with fail
        go_ret
        exact ⟨by rw [HE.out]; rfl, rfl⟩
      · have HP2 : Box (∀ j, j < i + 1 → ((L.getD j 0 : Nat) : Int) ≠ x) := boxed (fun j hj => by
          by_cases c : j = i
          · subst c; exact he
          · exact HP.out j (by omega))
        generalize ((L.getD i 0 : Nat) : Int) = y at *
        have t1 : (y == x) = false := by simpa using he
        go_wp2_with fail
        go_roundw
        case rel => exact ⟨i + 1, by omega, by go_num, HP2, by trivial⟩
        case measure => simp [intOf]; omega
    · obtain rfl : i = n := by omega
      have HE : Box (V = false) := boxed (by
        cases hv : V with
        | false => rfl
        | true =>
          obtain ⟨j, h1, h2⟩ := HV.out.1 hv
          exact absurd h2 (HP.out j h1))
      have t1 : decide ((i : Int) < (i : Int)) = false := decide_eq_false (by omega)
      go_wp2_with fail
      go_ret
      exact ⟨by rw [HE.out]; rfl, rfl⟩
set_option maxRecDepth 100000 in
set_option maxHeartbeats 1000000 in
theorem same13_yes (S T : Nat → Prop) (ao bo : Option Addr) (n ca cb : Nat) (F : Nat → Slt) (w : World) (h1 : SltsAt S w ao n F) (h2 : SltsAt T w bo n F) (hn : n ≤ 1000000) :
    Calls Try.prog 14 #[.slice ao n ca, .slice bo n cb] w fun e w' => e = .returned (.bool true) ∧ Below w.heap.size w w' := by
  have H1 := boxed h1
  have H2 := boxed h2
  clear h1 h2
  go_enter Try.func14, Try.ntmps14
  go_wp2_with fail
  go_loopw [5] (fun iv wr => ∃ i : Nat, i ≤ n ∧ iv = .int .i64 (i : Nat) ∧ Box (Below w.heap.size w wr)) (fun iv _ => n - (intOf iv).toNat)
  case atStart => exact ⟨0, Nat.zero_le _, rfl, boxed (Below.refl _ _)⟩
  case round =>
    obtain ⟨i, hi, rfl, HB⟩ := hrel
    by_cases hlt : i < n
    · obtain ⟨b1, o1, rfl, -, -⟩ := H1.out.form (by omega)
      obtain ⟨b2, o2, rfl, -, -⟩ := H2.out.form (by omega)
      obtain ⟨p0, p1, p2, p3⟩ := (H1.out.below HB.out).get i hlt
      obtain ⟨q0, q1, q2, q3⟩ := (H2.out.below HB.out).get i hlt
      have hgd := guardSlot
      have hnq := neqSlot
      have hii : (i : Int) < (n : Int) := by omega
      generalize F i = x at *
      go_wp2_with fail
      go_quiet (fail)
      have HB2 := boxed (below_step HB.out (Nat.le_refl _) (bel_drewN _ wr nq))
      go_wp2_with fail
      go_roundw
      case rel => exact ⟨i + 1, by omega, by go_num, HB2⟩
      case measure => simp [intOf]; omega
    · obtain rfl : i = n := by omega
      have t1 : decide ((i : Int) < (i : Int)) = false := decide_eq_false (by omega)
      go_wp2_with fail
      go_ret
      exact ⟨rfl, HB.out⟩
end Go.Proofs.Ytdpjaafdpgkclaa
