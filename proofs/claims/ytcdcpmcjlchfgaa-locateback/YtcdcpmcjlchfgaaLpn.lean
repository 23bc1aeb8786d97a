/-
  What the statements' awake, line and few answer.
-/
import Derived.Test.YtcdcpmcjlchfgaaLpj
import Derived.Laws.StructEq
namespace Go.Proofs.Ytcdcpmcjlchfgaa
open Go.RowKit
set_option linter.unusedSimpArgs false
set_option linter.unusedVariables false

def exS : Sty := ⟨10, 6, 3, 2, 6, 6, none, 0, 0, false, fun _ => ⟨0, 0, 0⟩⟩
def exT : ByteArray := ⟨#[97, 98, 32]⟩
def exL : Lne := ⟨exT, none, 0, 0, 0, 1, 0, false, 0, false, false, fun _ => 3, fun _ => 0⟩
theorem exS_ok : StyOk exS := by
  constructor <;> first | (unfold exS I64; simp; done) | (unfold exS; simp; done) | (unfold exS maxLen; simp; done)
theorem exS_ck : ckc (fun _ => exS) 1 = 0 := by decide
theorem exT_right : Right exT 3 := by unfold Right Cnt exT; decide +kernel
theorem ex_its : it exT 1 = 1 ∧ it exT 3 = 3 := by decide +kernel
theorem ex_xs : xs (ofS (fun _ => exS) 1) (fun _ => 3) (fun _ => 0) 1 0 1 exT 3 1 = 6 ∧ xs (ofS (fun _ => exS) 1) (fun _ => 3) (fun _ => 0) 1 0 1 exT 3 3 = 12 := by decide +kernel
theorem exS_at (w : World) : StysAt (fun _ => True) (w.alloc (.cells #[.int .i64 10, .int .i64 6, .int .i64 3, .int .i64 2, .int .i64 6, .int .i64 6, .slice none 0 0, .bool false] 73)) (some ⟨w.heap.size, 0, none⟩) 1 (fun _ => exS) := by
  intro i hi
  obtain rfl : i = 0 := by omega
  refine ⟨exS_ok, fun j hj => absurd hj (by show ¬ j < 0; omega), w.heap.size, 0, rfl, trivial, ?_⟩
  exact ⟨cell_first _ _ _ _, cell_first _ _ _ _, cell_first _ _ _ _, cell_first _ _ _ _, cell_first _ _ _ _, cell_first _ _ _ _, cell_first _ _ _ _, cell_first _ _ _ _⟩
theorem exR_at (w : World) : P2At (fun _ => True) (w.alloc (.cells #[.int .i64 3, .int .i64 0] 75)) (some ⟨w.heap.size, 0, none⟩) 1 (fun _ => 3) (fun _ => 0) := by
  intro i hi
  obtain rfl : i = 0 := by omega
  exact ⟨⟨by unfold I64; simp, by unfold I64; simp⟩, w.heap.size, 0, rfl, trivial, cell_first _ _ _ _, cell_first _ _ _ _⟩
theorem guardStop : Try.prog.eqGuardType Try.prog.depth 52 = false := by kernel_rfl
theorem eqStop (a b d e : Int) (w : World) : (binOp .eql 52 (.agg #[.int .i64 a, .int .i64 b]) (.agg #[.int .i64 d, .int .i64 e])).run Try.prog w = .ok (.bool (a == d && b == e)) w := by
  have u3 := Try.underlying3
  have hS : Try.prog.underlying 52 = some (.struct (Try.prog.fieldsOf 52)) := by kernel_rfl
  have hp : Try.prog.stoodInHeld 52 = false := by kernel_rfl
  rw [run_eql_struct, show (10000 : Nat) = 9999 + 1 from rfl, run_equalIn_agg w 9999 52 _ _ hS hp]
  simp only [Program.fieldsOf, Try.underlying52]
  go_simp
  by_cases h1 : a = d <;> by_cases h2 : b = e <;> simp [h1, h2]
set_option maxRecDepth 100000 in
set_option maxHeartbeats 4000000 in
theorem awake_any (w : World) : Calls Try.prog 9 #[] w fun e w' => e = .returned (.bool true) ∧ Below w.heap.size w w' := by
  have HX := boxed (table_any (fun _ => True) (some ⟨w.heap.size, 0, none⟩) 1 1 (fun _ => exS) _ (exS_at w))
  have hge := fun op x y xs ys w => run_eqGuard_agg (P := Try.prog) w op 52 x y xs ys guardStop
  have heq := eqStop
  go_enter Try.func9, Try.ntmps9
  go_wp2_with fail
  refine HX.out.mono ?_
  rintro e w1 ⟨hor, hb1⟩
  have HB1 : Box (Below w.heap.size w w1) := boxed (below_step (by go_grown) (Nat.le_refl _) hb1)
  rcases hor with ⟨hne, -⟩ | ⟨-, tb, G, rfl, hT, hL⟩
  · exact absurd exS_ck hne
  have hg : ∀ i, i < 1 → flt (G i) = 0 := by
    intro i hi
    rw [flt_like (hL i hi)]
    decide
  have HB2 : Box (Below w1.heap.size w1 (w1.alloc (.cells #[.int .i64 3, .int .i64 0] 75))) := boxed ((Below.refl _ _).alloc (Nat.le_refl _) _)
  have hst := stops_any (hT.below HB2.out) hg (fun _ => True) ⟨exT, some ⟨w1.heap.size, 0, none⟩, 1, 1, 0, 1, 0, false, 0, false, false, fun _ => 3, fun _ => 0⟩ (exR_at w1) (by unfold maxLen; exact ⟨by simp, Nat.le_refl _⟩) 3 exT_right (show exT.size ≤ 1000 by decide)
  have HXS : Box (xs (ofS G 1) (fun _ => 3) (fun _ => 0) 1 0 1 exT 3 1 = 6 ∧ xs (ofS G 1) (fun _ => 3) (fun _ => 0) 1 0 1 exT 3 3 = 12) := boxed (by
    rw [xs_like (ofS_like hL), xs_like (ofS_like hL)]
    exact ex_xs)
  unfold Lne.val exT at hst
  simp only at hst
  clear hb1 HX hT hg hL
  go_wp2_with fail
  refine hst.mono ?_
  rintro e w2 ⟨⟨mb, rfl, hs2⟩, hb2⟩
  have HB3 := boxed (below_step HB1.out (Nat.le_refl _) (below_step HB2.out (Nat.le_refl _) hb2))
  obtain ⟨q0, q1⟩ := hs2.get 1 (by omega)
  obtain ⟨q2, q3⟩ := hs2.get 3 (by omega)
  have e1 := HXS.out.1
  have e3 := HXS.out.2
  have e2 := ex_its.1
  have e4 := ex_its.2
  unfold exT at e1 e2 e3 e4
  rw [e2] at q0
  rw [e1] at q1
  rw [e4] at q2
  rw [e3] at q3
  simp at q0 q1 q2 q3
  clear hs2 hb2 hst HXS e1 e2 e3 e4
  go_wp2_with fail
  go_ret
  exact ⟨rfl, HB3.out⟩
/-- A line that is tried. -/
structure LnP (x : Lne) (N : Nat) : Prop where
  tx : x.tx.size ≤ 200
  rn : x.rn ≤ 40
  ok : Right x.tx N
  ls : ∀ j, j < x.rn → x.L j ≤ 1099511627776
set_option maxRecDepth 100000 in
set_option maxHeartbeats 4000000 in
theorem tried_any (S : Nat → Prop) (x : Lne) (w : World) (hp : P2At S w x.ra x.rn x.L x.Y) (hx : LneOk x) :
    Calls Try.prog 18 #[x.val] w fun e w' => (∃ b, e = .returned (.bool b) ∧ (b = true → ∃ N, LnP x N)) ∧ Below w.heap.size w w' := by
  obtain ⟨w0, hw0, hB0, hz0, hLn⟩ := lnat_new w x
  obtain ⟨N, hN⟩ := cnt_ex x.tx
  have hrl := hx.rn.1
  have htx := hx.tx
  unfold maxLen at hrl
  have HW0 := boxed hw0
  have HB0 := boxed hB0
  have HLn := boxed hLn
  have HP := boxed hp
  have HCN := boxed hN
  obtain ⟨c0, c1, -⟩ := (hLn w0 (Below.refl _ _)).cells
  clear hw0 hB0 hLn hp hN hx
  unfold Lne.val
  have hun : undef = Value.tuple #[] := rfl
  by_cases g1 : 200 < x.tx.size
  · have t1 : decide ((200 : Int) < (x.tx.size : Int)) = true := decide_eq_true (by omega)
    have t1n : decide (200 < x.tx.size) = true := decide_eq_true g1
    clear g1
    go_enter Try.func18, Try.ntmps18
    go_upto_region 1 with (fail)
    rw [HW0.out]
    go_wp2_with fail
    go_ret
    exact ⟨⟨false, rfl, fun h => by cases h⟩, HB0.out⟩
  have t1 : decide ((200 : Int) < (x.tx.size : Int)) = false := decide_eq_false (by omega)
  have t1n : decide (200 < x.tx.size) = false := decide_eq_false g1
  by_cases g2 : 40 < x.rn
  · have t2 : decide ((40 : Int) < (x.rn : Int)) = true := decide_eq_true (by omega)
    have t2n : decide (40 < x.rn) = true := decide_eq_true g2
    clear g1 g2
    go_enter Try.func18, Try.ntmps18
    go_upto_region 1 with (fail)
    rw [HW0.out]
    go_wp2_with fail
    go_ret
    exact ⟨⟨false, rfl, fun h => by cases h⟩, HB0.out⟩
  have t2 : decide ((40 : Int) < (x.rn : Int)) = false := decide_eq_false (by omega)
  have t2n : decide (40 < x.rn) = false := decide_eq_false g2
  have hri := refright_any x.tx w0 (by omega) N HCN.out
  have h200 : x.tx.size ≤ 200 := by omega
  have h40 : x.rn ≤ 40 := by omega
  have HR : Box (badAt x.tx N < 0 → Right x.tx N) := boxed (fun h => right_of x.tx N HCN.out h)
  clear g1 g2
  generalize badAt x.tx N = Bd at *
  by_cases g3 : Bd < 0
  · have HR2 := boxed (HR.out g3)
    rw [decide_eq_true g3] at hri
    clear g3 HR
    go_enter Try.func18, Try.ntmps18
    go_upto_region 1 with (fail)
    rw [HW0.out]
    go_wp2_with fail
    refine hri.mono ?_
    rintro e w1 ⟨rfl, hb1⟩
    obtain ⟨c0, c1, -⟩ := (HLn.out _ hb1).cells
    have HB1 := boxed (below_step HB0.out (Nat.le_refl _) hb1)
    have HPr := boxed (HP.out.below HB1.out)
    clear hb1 hri t1 t1n t2 t2n hun
    go_wp2_with fail
    go_loopw [3] (fun iv wr => ∃ i : Nat, i ≤ x.rn ∧ iv = .int .i64 (i : Nat) ∧ Box (∀ j, j < i → x.L j ≤ 1099511627776) ∧ wr = w1) (fun iv _ => x.rn - (intOf iv).toNat)
    case atStart => exact ⟨0, Nat.zero_le _, rfl, boxed (fun j hj => by omega), rfl⟩
    case round =>
      obtain ⟨i, hi, rfl, HL, rfl⟩ := hrel
      by_cases hlt : i < x.rn
      · have t0 : decide ((i : Int) < (x.rn : Int)) = true := decide_eq_true (by omega)
        have hlt2 : (i : Int) < (x.rn : Int) := by omega
        obtain ⟨b, off, hra, -⟩ := HPr.out.form (by omega)
        have hpr := HPr.out
        rw [hra] at hpr c1
        obtain ⟨d0, d1⟩ := hpr.get i hlt
        by_cases cy : 1099511627776 < x.L i
        · have ty : decide ((1099511627776 : Int) < x.L i) = true := decide_eq_true cy
          clear cy hra hpr
          go_wp2_with fail
          go_ret
          exact ⟨⟨false, rfl, fun h => by cases h⟩, HB1.out⟩
        · have ty : decide ((1099511627776 : Int) < x.L i) = false := decide_eq_false cy
          have HL2 : Box (∀ j, j < i + 1 → x.L j ≤ 1099511627776) := boxed (fun j hj => by
            by_cases d : j = i
            · subst d; omega
            · exact HL.out j (by omega))
          clear cy hra hpr
          go_wp2_with fail
          go_roundw
          case rel => exact ⟨i + 1, by omega, by go_num, HL2, (by first | rfl | trivial)⟩
          case measure => simp [intOf] <;> omega
      · have t0 : decide ((i : Int) < (x.rn : Int)) = false := decide_eq_false (by omega)
        have HFin : Box (LnP x N) := boxed ⟨h200, h40, HR2.out, fun j hj => HL.out j (by omega)⟩
        go_wp2_with fail
        go_ret
        exact ⟨⟨true, rfl, fun _ => ⟨N, HFin.out⟩⟩, HB1.out⟩
  · rw [decide_eq_false g3] at hri
    clear g3 HR
    go_enter Try.func18, Try.ntmps18
    go_upto_region 1 with (fail)
    rw [HW0.out]
    go_wp2_with fail
    refine hri.mono ?_
    rintro e w1 ⟨rfl, hb1⟩
    have HB1 := boxed (below_step HB0.out (Nat.le_refl _) hb1)
    clear hb1 hri
    go_wp2_with fail
    go_ret
    exact ⟨⟨false, rfl, fun h => by cases h⟩, HB1.out⟩
/-- Pages that are tried. -/
structure FewP (n : Nat) (P : Nat → Pgv) : Prop where
  cnt : n ≤ 20
  lns : ∀ p, p < n → (P p).ln ≤ 60
  ok : ∀ p k, p < n → k < (P p).ln → ∃ N, LnP ((P p).F k) N
theorem lsz_few (F : Nat → Lne) (k : Nat) (h : ∀ j, j < k → (F j).tx.size ≤ 200) : lsz F k ≤ k * 200 := by
  induction k with
  | zero => exact Nat.le_refl _
  | succ k ih =>
    have h1 := ih (fun j hj => h j (by omega))
    have h2 := h k (by omega)
    simp only [lsz]; omega
theorem FewP.size {n : Nat} {P : Nat → Pgv} (h : FewP n P) (m : Nat) (hm : m ≤ n) : psz P m ≤ m * 12000 := by
  induction m with
  | zero => exact Nat.le_refl _
  | succ m ih =>
    have h1 := ih (by omega)
    have h2 := lsz_few (P m).F (P m).ln (fun j hj => by obtain ⟨N, hN⟩ := h.ok m j (by omega) hj; exact hN.tx)
    have h3 := h.lns m (by omega)
    simp only [psz]; omega
theorem FewP.small {n : Nat} {P : Nat → Pgv} (h : FewP n P) : psz P n ≤ 1000000 := by
  have := h.size n (Nat.le_refl _)
  have := h.cnt
  omega
set_option maxRecDepth 100000 in
set_option maxHeartbeats 4000000 in
theorem few_any (S : Nat → Prop) (ao : Option Addr) (n cap : Nat) (P : Nat → Pgv) (w : World) (h : PgsR S w ao n P) (hn : n ≤ maxLen) :
    Calls Try.prog 10 #[.slice ao n cap] w fun e w' => (∃ b, e = .returned (.bool b) ∧ (b = true → FewP n P)) ∧ Below w.heap.size w w' := by
  unfold maxLen at hn
  have H := boxed h
  clear h
  go_enter Try.func10, Try.ntmps10
  go_wp2_with fail
  go_loopw [3, 4] (fun cv pv wr => ∃ p c : Nat, (p ≤ n ∧ c ≤ 60) ∧ pv = .int .i64 (p : Nat) ∧ cv = .int .i64 (c : Nat) ∧ Box (∀ q, q < p → (P q).ln ≤ 60 ∧ ∀ k, k < (P q).ln → ∃ N, LnP ((P q).F k) N) ∧ Box (Below w.heap.size w wr)) (fun _ pv _ => n - (intOf pv).toNat)
  case atStart => exact ⟨0, 0, ⟨Nat.zero_le _, Nat.zero_le _⟩, rfl, rfl, boxed (fun q hq => by omega), boxed (Below.refl _ _)⟩
  case round =>
    obtain ⟨p, c, ⟨hp, hc⟩, rfl, rfl, HF, HB⟩ := hrel
    by_cases hlt : p < n
    · have t0 : decide ((p : Int) < (n : Int)) = true := decide_eq_true (by omega)
      have hlt2 : (p : Int) < (n : Int) := by omega
      have HP : Box (∀ W, Below w.heap.size w W → ∃ b off, ao = some ⟨b, off, none⟩ ∧ W.cell? ⟨b, off + p, none⟩ = some (.slice (P p).la (P p).ln (P p).lc) ∧ LnsAt S W (P p).la (P p).ln (P p).F) := boxed (fun W hb => by
        obtain ⟨-, h2, b, off, e, -, c⟩ := (H.out.below hb) p hlt
        exact ⟨b, off, e, c, h2⟩)
      have HOK := boxed (H.out p hlt).1
      have hml := HOK.out.ln
      simp only [maxLen] at hml
      have HF2 : Box ((P p).ln ≤ 60 → (∀ k, k < (P p).ln → ∃ N, LnP ((P p).F k) N) → ∀ q, q < p + 1 → (P q).ln ≤ 60 ∧ ∀ k, k < (P q).ln → ∃ N, LnP ((P q).F k) N) := boxed (fun h1 h2 q hq => by
        by_cases d : q = p
        · subst d; exact ⟨h1, h2⟩
        · exact HF.out q (by omega))
      obtain ⟨X, hX⟩ : ∃ X, P p = X := ⟨_, rfl⟩
      rw [hX] at HP HOK hml HF2
      clear hX
      obtain ⟨la, ln, lc, F⟩ := X
      simp only at *
      go_wp2_with fail
      clear t0
      go_loopw [3, 5] (fun cv kv wr => ∃ k c : Nat, (k ≤ ln ∧ c ≤ 60 ∧ k ≤ c) ∧ kv = .int .i64 (k : Nat) ∧ cv = .int .i64 (c : Nat) ∧ Box (∀ j, j < k → ∃ N, LnP (F j) N) ∧ Box (Below w.heap.size w wr)) (fun _ kv _ => ln - (intOf kv).toNat)
      case atStart => exact ⟨0, c, ⟨Nat.zero_le _, hc, Nat.zero_le _⟩, rfl, rfl, boxed (fun j hj => by omega), HB⟩
      case round =>
        obtain ⟨k, c, ⟨hk, hc, hkc⟩, rfl, rfl, HK, HB⟩ := hrel
        obtain ⟨bp, op, rfl, cp, hls⟩ := HP.out _ HB.out
        by_cases hkl : k < ln
        · have tk : decide ((k : Int) < (ln : Int)) = true := decide_eq_true (by omega)
          have hkl2 : (k : Int) < (ln : Int) := by omega
          obtain ⟨bl, ol, rfl, -⟩ := hls.form (by omega)
          obtain ⟨hrp, d0, d1, d2, d3, d4, d5, d6, d7, d8⟩ := hls.get k hkl
          have htr := tried_any S (F k) wr hrp (HOK.out.all k hkl)
          have HK2 : Box ((∃ N, LnP (F k) N) → ∀ j, j < k + 1 → ∃ N, LnP (F j) N) := boxed (fun hh j hj => by
            by_cases d : j = k
            · subst d; exact hh
            · exact HK.out j (by omega))
          clear hls hrp
          obtain ⟨x, hx⟩ : ∃ x, F k = x := ⟨_, rfl⟩
          rw [hx] at htr HK2 d0 d1 d2 d3 d4 d5 d6 d7 d8
          clear hx
          unfold Lne.val at htr
          have hun : undef = Value.tuple #[] := rfl
          by_cases g : 60 < c + 1
          · have tg : decide ((60 : Int) < (c : Int) + 1) = true := decide_eq_true (by omega)
            clear htr g
            go_wp2_with fail
            go_ret
            exact ⟨⟨false, rfl, fun h => by cases h⟩, HB.out⟩
          · have tg : decide ((60 : Int) < (c : Int) + 1) = false := decide_eq_false (by omega)
            go_wp2_with fail
            refine htr.mono ?_
            rintro e w1 ⟨⟨b, rfl, hb⟩, hb1⟩
            have HB1 := boxed (below_step HB.out (Nat.le_refl _) hb1)
            have HBb := boxed hb
            clear hb1 hb htr d0 d1 d2 d3 d4 d5 d6 d7 d8 hun
            cases b with
            | false =>
              go_wp2_with fail
              go_ret
              exact ⟨⟨false, rfl, fun h => by cases h⟩, HB1.out⟩
            | true =>
              have HK3 := boxed (HK2.out (HBb.out (by first | rfl | trivial)))
              go_wp2_with fail
              go_roundw
              case rel => exact ⟨k + 1, c + 1, by omega, by go_num, by go_num, HK3, HB1⟩
              case measure => simp [intOf] <;> omega
        · obtain rfl : k = ln := by omega
          have tk : decide ((k : Int) < (k : Int)) = false := decide_eq_false (by omega)
          have HF3 := boxed (HF2.out (by omega) HK.out)
          clear hls
          go_wp2_with fail
          go_roundw
          case rel => exact ⟨p + 1, c, by omega, by go_num, rfl, HF3, HB⟩
          case measure => simp [intOf] <;> omega
    · obtain rfl : p = n := by omega
      have t0 : decide ((p : Int) < (p : Int)) = false := decide_eq_false (by omega)
      by_cases g : p ≤ 20
      · have tg : decide ((p : Int) ≤ 20) = true := decide_eq_true (by omega)
        have HFin : Box (FewP p P) := boxed ⟨g, fun q hq => (HF.out q hq).1, fun q k hq hk => (HF.out q hq).2 k hk⟩
        clear g
        go_wp2_with fail
        go_ret
        exact ⟨⟨true, rfl, fun _ => HFin.out⟩, HB.out⟩
      · have tg : decide ((p : Int) ≤ 20) = false := decide_eq_false (by omega)
        clear g
        go_wp2_with fail
        go_ret
        exact ⟨⟨false, rfl, fun h => by cases h⟩, HB.out⟩
end Go.Proofs.Ytcdcpmcjlchfgaa
