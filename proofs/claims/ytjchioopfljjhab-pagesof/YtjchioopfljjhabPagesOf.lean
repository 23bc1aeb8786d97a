/-
  For every list of lines and of numbers PagesOf answers true: the program's Of puts each line on its page as it is, each where the ones ahead of it leave off, in memory of the asker's own.
  No condition besides the statement's own.
-/
import Derived.Test.YtjchioopfljjhabRows
import Derived.WalkKit
import Derived.ProofKit
import Derived.OpenShut
import Derived.SizedLaws
import Derived.ShutString
import Derived.ChangeOld
import Derived.Below
import Derived.Test.YtjchioopfljjhabHj
import Derived.Test.YtjchioopfljjhabHt
import Derived.Test.YtjchioopfljjhabHv
namespace Go.Proofs.Ytjchioopfljjhab.pagesOf
open Go.ChangeShapes Go.WideShapes Go.ChangeAt Go.RowKit
open Go.ChangeMaps (open_string shut_string)
set_option linter.unusedVariables false
set_option linter.unusedSimpArgs false

theorem own : ownKnob Try.prog.godebug = none := by kernel_rfl
theorem laidOut : laidOutB Try.prog = true := by kernel_rfl

set_option maxRecDepth 100000 in
set_option maxHeartbeats 32000000 in
theorem walk (w : World) (ao0 : Option Addr) (n0 cap0 : Nat) (F0 : Nat → Lne) (hn0 : n0 ≤ maxLen ∧ n0 ≤ cap0) (hF0 : LnsAt (fun _ => True) w ao0 n0 F0 ∧ ∀ i, i < n0 → LneOk (F0 i) ∧ (F0 i).tx.size ≤ 140737488351232) (ao1 : Option Addr) (n1 cap1 : Nat) (X1 : Nat → Int) (hn1 : n1 ≤ maxLen) (hX1 : IntsAt w ao1 n1 X1) :
    Calls Try.prog 3 #[.slice ao0 n0 cap0, .slice ao1 n1 cap1] w fun e w' => e = .returned (.bool true) ∧ Below w.heap.size w w' := by
  have hN : (n0 : Int) ≤ 9223372036854775807 := by have := hn0.1; unfold maxLen at this; omega
  have hN1 : (n1 : Int) ≤ 9223372036854775807 := by unfold maxLen at hn1; omega
  by_cases hl : 100 < n0
  · have t1 : decide (100 < (n0 : Int)) = true := decide_eq_true (by omega)
    clear hF0 hX1 hn0 hn1 hl
    go_enter Try.func3, Try.ntmps3
    go_wp2_with fail
    refine (awake_any _).mono ?_
    rintro e w1 ⟨rfl, hb1⟩
    have HB1 := boxed hb1
    clear hb1
    go_wp2_with fail
    go_ret
    exact ⟨rfl, HB1.out⟩
  have hl2 : n0 ≤ 100 := by omega
  have t1 : decide (100 < (n0 : Int)) = false := decide_eq_false (by omega)
  obtain ⟨i0, hif, hz0, hz1, hz2⟩ := info_parts info_int12
  have HX := boxed hX1
  have HCap := boxed hn0.2
  have HLn : Box (∀ W, Below w.heap.size w W → LnsAt (fun b => b < w.heap.size) W ao0 n0 F0) := boxed (fun W hb => hF0.1.keep (fun b i u _ hc => ⟨World.block_lt_of_cell? w _ hc, hold hb hc⟩))
  have HOk := boxed hF0.2
  clear hF0 hX1 hn0 hn1 hl
  go_enter Try.func3, Try.ntmps3
  go_wp2_with fail
  refine (awake_any _).mono ?_
  rintro e w2 ⟨rfl, hb2⟩
  have HB2 := boxed hb2
  have HX2 := boxed (HX.out.below hb2)
  have hzw := hb2.size
  clear hb2 HX
  go_wp2_with fail
  go_loopw [5, 6, 7] (fun sv av iv wr => ∃ i : Nat, i ≤ n1 ∧ av = .int .i64 (sg X1 i : Nat) ∧ iv = .int .i64 (i : Nat) ∧ Box (∀ j, j < i → (1 ≤ X1 j ∧ X1 j ≤ 100) ∧ sg X1 j < n0) ∧ Box (wr.ownsRow w2.heap.size 3 1 sv i (ncs (sgs X1 i))) ∧ Box (Below w2.heap.size w2 wr)) (fun _ _ iv _ => n1 - (intOf iv).toNat)
  case atStart => exact ⟨0, Nat.zero_le _, rfl, rfl, boxed (fun j hj => by omega), boxed (World.ownsRow_nil _ _ _ _), boxed (Below.refl _ _)⟩
  case round =>
    obtain ⟨i, hi, rfl, rfl, HG, HO, HB⟩ := hrel
    have hig := sg_ge X1 i (fun k hk => (HG.out k hk).1.1)
    have hin : i ≤ n0 ∧ sg X1 i ≤ 200 := by
      by_cases h0 : i = 0
      · subst h0; exact ⟨Nat.zero_le _, by simp [sg]⟩
      · obtain ⟨m, rfl⟩ : ∃ m, i = m + 1 := ⟨i - 1, by omega⟩
        have h1 := sg_ge X1 m (fun k hk => (HG.out k (by omega)).1.1)
        have h2 := HG.out m (by omega)
        have e : sg X1 (m + 1) = sg X1 m + (X1 m).toNat := rfl
        omega
    obtain ⟨hin1, hin2⟩ := hin
    by_cases hgo : i < n1 ∧ sg X1 i < n0
    · obtain ⟨hlt, hat⟩ := hgo
      obtain ⟨b, off, rfl, c0, hI⟩ := (HX2.out.below HB.out) i hlt
      have hlt2 : (i : Int) < (n1 : Int) := by omega
      have ht0 : decide (((sg X1 i : Nat) : Int) < (n0 : Int)) = true := decide_eq_true (by omega)
      have ht0' : decide (sg X1 i < n0) = true := decide_eq_true (by omega)
      by_cases g1 : X1 i < 1
      · have t2 : decide (X1 i < 1) = true := decide_eq_true g1
        have HE := boxed (below_step HB2.out (Nat.le_refl _) HB.out)
        generalize X1 i = x at *
        generalize sg X1 i = sx at *
        clear g1 hI
        go_wp2_with fail
        go_ret
        exact ⟨rfl, HE.out⟩
      by_cases g2 : 100 < X1 i
      · have t2 : decide (X1 i < 1) = false := decide_eq_false g1
        have t3 : decide (100 < X1 i) = true := decide_eq_true g2
        have HE := boxed (below_step HB2.out (Nat.le_refl _) HB.out)
        generalize X1 i = x at *
        generalize sg X1 i = sx at *
        clear g1 g2 hI
        go_wp2_with fail
        go_ret
        exact ⟨rfl, HE.out⟩
      · have t2 : decide (X1 i < 1) = false := decide_eq_false g1
        have t3 : decide (100 < X1 i) = false := decide_eq_false g2
        have HG2 : Box (∀ j, j < i + 1 → (1 ≤ X1 j ∧ X1 j ≤ 100) ∧ sg X1 j < n0) := boxed (fun j hj => by
          by_cases d : j = i
          · subst d; omega
          · exact HG.out j (by omega))
        have hown := HO.out
        have hzr := HB.out.size
        have HSn := boxed (sgs_snoc X1 i)
        have HSg : Box (sg X1 (i + 1) = sg X1 i + (X1 i).toNat) := boxed rfl
        have HC : Box (∀ W, Below w2.heap.size w2 W → W.cell? ⟨b, off + i, none⟩ = some (.int .i64 (X1 i))) := boxed (fun W hb => by
          obtain ⟨b', off', e, c, -⟩ := (HX2.out.below hb) i hlt
          injection e with e
          injection e with e1 e2 e3
          subst e1; subst e2
          exact c)
        generalize hsx : sg X1 i = sx at *
        obtain ⟨x, hx⟩ : ∃ x : Nat, X1 i = (x : Int) := ⟨(X1 i).toNat, by omega⟩
        rw [hx] at HSg HC c0 t2 t3
        have hxb : (x : Int) ≤ 100 := by omega
        clear hsx hx g1 g2 hI HO HG
        focus
          go_wp2_with (first | (at_builtin; refine wpList_append_own _ rfl _ _ 23 rfl w2.heap.size 3 i0 _ 1 8 Try.underlying23 hif hz0 hz1 hz2 rfl (by decide) _ _ _ rfl (hown.alloc _) ⟨wr.heap.size, 0, none⟩ 1 1 [.int .i64 (sx : Nat)] rfl rfl ?c1 ?c2 ?c3 ?c4 ?c5 ?_))
          case c1 =>
            intro j u hj
            match j, hj with
            | 0, hj => simp at hj; subst hj; simp [Addr.add]
          case c2 => intro u hu; simp at hu; subst hu; rfl
          case c3 => unfold maxLen; omega
          case c4 => omega
          case c5 => simp; omega
          intro v' w6 hown6 hgrow6 _
          have HO6 : Box (w6.ownsRow w2.heap.size 3 1 v' (i + 1) (ncs (sgs X1 (i + 1)))) := boxed (by rw [HSn.out, ncs_app]; exact hown6)
          have HG6 := boxed (HB.out.trans (grown_any hown hzr hgrow6))
          have c1 := HC.out w6 HG6.out
          clear hown6 hgrow6 hown c0 t2 t3 ht0 ht0'
          go_wp2_with fail
          go_roundw
          case rel => exact ⟨i + 1, by omega, by rw [HSg.out, Int.toNat_natCast] <;> first | rfl | go_num, by go_num, HG2, HO6, HG6⟩
          case measure => simp [intOf]; omega
    · obtain ⟨ao', c', rfl⟩ := own_shape HO.out
      have HF := boxed (own_nat HO.out (sgs_len X1 i))
      have HEn := boxed (sgs_ends X1 i n0 (fun k hk => (HG.out k hk).1.1) (fun k hk => (HG.out k hk).2))
      have HBw := boxed (below_step HB2.out (Nat.le_refl _) HB.out)
      have HLl := boxed (sgs_len X1 i)
      generalize sgs X1 i = L at *
      have hsx0 : ∃ sx : Nat, sg X1 i = sx := ⟨_, rfl⟩
      obtain ⟨sx, hsx⟩ := hsx0
      rw [hsx] at hgo hin2 ⊢
      clear HO HG hsx HX2 HB HB2 hig
      generalize wr = w3 at *
      by_cases hi1 : i < n1
      · have q1 : decide ((i : Int) < (n1 : Int)) = true := decide_eq_true (by omega)
        have q2 : decide ((sx : Int) < (n0 : Int)) = false := decide_eq_false (by omega)
        have q3 : decide (i < n1) = true := decide_eq_true (by omega)
        have q4 : decide (sx < n0) = false := decide_eq_false (by omega)
        clear hgo
        go_wp2_with fail
        clear q1 q2 q3 q4
        go_loopw [8] (fun iv wx => ∃ k : Nat, k ≤ n0 ∧ iv = .int .i64 (k : Nat) ∧ Box (∀ j, j < k → LnFit (F0 j)) ∧ wx = w3) (fun iv _ => n0 - (intOf iv).toNat)
        case atStart => exact ⟨0, Nat.zero_le _, rfl, boxed (fun j hj => by omega), rfl⟩
        case round =>
          obtain ⟨k, hk, rfl, HFt, rfl⟩ := hrel
          by_cases hkl : k < n0
          · obtain ⟨b, off, rfl, hbw⟩ := (HLn.out wr HBw.out).form (by omega)
            obtain ⟨-, -, c1, -, -, c4, -⟩ := (HLn.out wr HBw.out).get k hkl
            have hok := HOk.out k hkl
            have hk2 : (k : Int) < (n0 : Int) := by omega
            have HFn : Box (((0 ≤ (F0 k).h ∧ (F0 k).h ≤ 1099511627776) ∧ (F0 k).rn ≤ 50) → ∀ j, j < k + 1 → LnFit (F0 j)) := boxed (fun q j hj => by
              by_cases d : j = k
              · subst d; exact ⟨hok.2, q.2, q.1⟩
              · exact HFt.out j (by omega))
            have hrb : ((F0 k).rn : Int) ≤ 9223372036854775807 := by have := hok.1.rn.1; unfold maxLen at this; omega
            generalize (F0 k).h = h at *
            generalize (F0 k).rn = rn at *
            generalize (F0 k).ra = ra at *
            generalize (F0 k).rc = rc at *
            clear hok
            by_cases g1 : h < 0
            · have t2 : decide (h < 0) = true := decide_eq_true g1
              clear HFn g1
              go_wp2_with fail
              go_ret
              exact ⟨rfl, HBw.out⟩
            have t2 : decide (h < 0) = false := decide_eq_false g1
            by_cases g2 : 1099511627776 < h
            · have t3 : decide (1099511627776 < h) = true := decide_eq_true g2
              clear HFn g1 g2
              go_wp2_with fail
              go_ret
              exact ⟨rfl, HBw.out⟩
            have t3 : decide (1099511627776 < h) = false := decide_eq_false g2
            by_cases g3 : 50 < rn
            · have t4 : decide (50 < (rn : Int)) = true := decide_eq_true (by omega)
              clear HFn g1 g2
              go_wp2_with fail
              go_ret
              exact ⟨rfl, HBw.out⟩
            · have t4 : decide (50 < (rn : Int)) = false := decide_eq_false (by omega)
              have HFx := boxed (HFn.out ⟨⟨by omega, by omega⟩, by omega⟩)
              clear HFn g1 g2
              go_wp2_with fail
              go_roundw
              case rel => exact ⟨k + 1, by omega, by go_num, HFx, trivial⟩
              case measure => simp [intOf]; omega
          · obtain rfl : k = n0 := by omega
            have hof := of_any _ _ ao0 k cap0 F0 ao' c' L wr (HLn.out wr HBw.out) HF.out HFt.out hl2 (by rw [HLl.out]; omega) HCap.out HEn.out
            rw [HLl.out] at hof
            go_wp2_with fail
            refine hof.mono ?_
            rintro e w5 ⟨rfl, hBk, hb5⟩
            obtain ⟨A, R, C, ν, hBk⟩ := hBk
            have HBk := boxed hBk
            have HB5 := boxed (below_step HBw.out (Nat.le_refl _) hb5)
            obtain ⟨G, hG⟩ : ∃ G, wr.heap.size = G := ⟨_, rfl⟩
            have HS5 : Box (NAt (fun b => b < G) w5 ao' L) := boxed (HF.out.keep (fun b i u _ hc => ⟨by rw [← hG]; exact World.block_lt_of_cell? wr _ hc, hold hb5 hc⟩))
            have HwG : w.heap.size ≤ G := by rw [← hG]; exact HBw.out.size
            rw [hG] at HBk ⊢
            clear hBk hb5 hof hG HF HBw
            have hiJ : (i : Int) ≤ 100 := by omega
            go_wp2_with fail
            go_loopw [10] (fun pv wx => ∃ p : Nat, p ≤ i ∧ pv = .int .i64 (p : Nat) ∧ Box (Ut w5 wx ν (fun z => z.1 < p)) ∧ Box (Below w.heap.size w wx)) (fun pv _ => i - (intOf pv).toNat)
            case atStart => exact ⟨0, Nat.zero_le _, rfl, boxed (Ut.refl _ _ _), HB5⟩
            case round =>
              obtain ⟨p, hp, rfl, HU, HBp⟩ := hrel
              generalize wr = wp at *
              by_cases hpl : p < i
              · have hst := HS5.out.keep (HU.out.kp HBk.out.lab)
                have hen := refend_any _ ao' c' L p k wp hst (by rw [HLl.out]; exact hpl) (by rw [HLl.out]; omega)
                rw [HLl.out] at hen
                obtain ⟨sb, rfl, hsb, hsG⟩ := HS5.out.form (by rw [HLl.out]; omega)
                have h12 := HEn.out p (by rw [HLl.out]; exact hpl)
                have HPg : Box (∀ W E, Ut w5 W ν E → W.cell? ⟨G, p, none⟩ = some (.slice (some ⟨A p, 0, none⟩) (pl L k p) (pl L k p)) ∧ W.cell? ⟨sb, p, none⟩ = some (.int .i64 (L.getD p 0 : Nat))) := boxed (fun W E hU => ⟨HBk.out.page hU p hpl, (HS5.out.keep (hU.kp HBk.out.lab)).get p (by rw [HLl.out]; exact hpl)⟩)
                have HLi := boxed (fun W E (hU : Ut w5 W ν E) kk hkk => HBk.out.line hU p kk hpl hkk)
                have HRu := boxed (fun W E (hU : Ut w5 W ν E) kk hkk hE => HBk.out.runs hU p kk hpl hkk hE)
                have HRl : Box (∀ b kk, ν b = some (p, kk) → b ≠ G ∧ b ≠ A p ∧ ¬ b < G) := boxed (fun b kk e => ⟨(fun c => by rw [c, HBk.out.lab G (Nat.le_refl _)] at e; cases e), (fun c => by rw [c, (HBk.out.lns p hpl).2.1] at e; cases e), (fun c => by rw [HBk.out.lab b (Nat.le_of_lt c)] at e; cases e)⟩)
                have epl : pl L k p = endL L p k - L.getD p 0 := rfl
                generalize pl L k p = q at *
                generalize endL L p k = y at *
                generalize L.getD p 0 = a at *
                have ey : (y : Int) - (a : Int) = (q : Int) := by omega
                have hyq : a + q ≤ k := by omega
                have hpl2 : (p : Int) < (i : Int) := by omega
                obtain ⟨z0, z1⟩ := HPg.out wp _ HU.out
                clear hst h12 epl
                go_wp2_with fail
                refine hen.mono ?_
                rintro e w6 ⟨rfl, hw6⟩
                obtain rfl : wp = w6 := hw6.symm
                clear hen hw6
                go_wp2_with fail
                go_quiet (fail)
                obtain ⟨w7, hw7⟩ : ∃ w7, wp.drewN nq = w7 := ⟨_, rfl⟩
                have HU7 : Box (Ut w5 w7 ν (fun z => z.1 < p)) := boxed (by rw [← hw7]; exact HU.out.next (bel_drewN _ _ _))
                have HB7 : Box (Below w.heap.size w w7) := boxed (by rw [← hw7]; exact HBp.out.trans (bel_drewN _ _ _))
                rw [hw7]
                clear hw7 z0 z1 HU HBp
                obtain ⟨z0, z1⟩ := HPg.out w7 _ HU7.out
                go_wp2_with fail
                clear z0 z1 ey
                go_loopw [12, 13] (fun yv kv wx => ∃ m : Nat, m ≤ q ∧ yv = .int .i64 (ys (fun j => F0 (a + j)) m) ∧ kv = .int .i64 (m : Nat) ∧ Box (Ut w5 wx ν (fun z => z.1 < p ∨ (z.1 = p ∧ z.2 < m))) ∧ Box (Below w.heap.size w wx)) (fun _ kv _ => q - (intOf kv).toNat)
                case atStart => exact ⟨0, Nat.zero_le _, rfl, rfl, boxed (HU7.out.mono (fun z hz => .inl hz)), HB7⟩
                case round =>
                  obtain ⟨m, hm, rfl, rfl, HUm, HBm⟩ := hrel
                  generalize wr = wk at *
                  obtain ⟨z0, z1⟩ := HPg.out wk _ HUm.out
                  by_cases hml : m < q
                  · obtain ⟨lb, lo, rfl, hlb⟩ := (HLn.out wk HBm.out).form (by omega)
                    obtain ⟨hp2, c0, c1, c2, c3, c4, c5, c6, c7, c8⟩ := (HLn.out wk HBm.out).get (a + m) (by omega)
                    have HOr : Box (∀ W, Below w.heap.size w W → P2At (fun b => b < w.heap.size) W (F0 (a + m)).ra (F0 (a + m)).rn (F0 (a + m)).L (F0 (a + m)).Y) := boxed (fun W hb => ((HLn.out W hb).get (a + m) (by omega)).1)
                    have hLi := fun W E (hU : Ut w5 W ν E) => HLi.out W E hU m hml
                    have hRu := fun W E (hU : Ut w5 W ν E) hE => HRu.out W E hU m hml hE
                    have hft := HFt.out (a + m) (by omega)
                    have hyb := ys_bound (fun j => F0 (a + j)) m (fun j hj => (HFt.out (a + j) (by omega)).h)
                    have HYs : Box (ys (fun j => F0 (a + j)) (m + 1) = ys (fun j => F0 (a + j)) m + (F0 (a + m)).h) := boxed rfl
                    obtain ⟨am, ham⟩ : ∃ am, a + m = am := ⟨_, rfl⟩
                    have e1 : (a : Int) + (m : Int) = (am : Int) := by omega
                    have hamk : am < k := by omega
                    have hamk2 : (am : Int) < (k : Int) := by omega
                    have hml2 : (m : Int) < (q : Int) := by omega
                    rw [ham] at hp2 c0 c1 c2 c3 c4 c5 c6 c7 c8 HOr hLi hRu hft HYs
                    clear ham hp2
                    have hh := hft.h
                    have hrn := hft.rn
                    generalize hx : F0 am = x at *
                    generalize ys (fun j => F0 (a + j)) m = ym at *
                    clear hx hft
                    obtain ⟨rk, hrk⟩ : ∃ rk, R p m = rk := ⟨_, rfl⟩
                    obtain ⟨ck, hck⟩ : ∃ ck, C p m = ck := ⟨_, rfl⟩
                    rw [hrk, hck] at hLi
                    rw [hrk] at hRu
                    clear hrk hck
                    have HLine : Box (∀ W E, Ut w5 W ν E → Ln9 W (A p) (m * 9) (cpy x rk ck ym)) := boxed hLi
                    have HRuns := boxed hRu
                    generalize A p = Ap at *
                    clear hLi hRu
                    have hlbk : lb < wk.heap.size := hlb
                    have hl1 := laid1 wk (.cells #[.string x.tx, .slice x.ra x.rn x.rc, .int .i64 x.num, .int .i64 x.den, .int .i64 x.h, .bool x.hy, .int .i64 x.y, .bool x.bg, .bool x.en] 27)
                    obtain ⟨W1, hW1⟩ : ∃ W1, wk.alloc (.cells #[.string x.tx, .slice x.ra x.rn x.rc, .int .i64 x.num, .int .i64 x.den, .int .i64 x.h, .bool x.hy, .int .i64 x.y, .bool x.bg, .bool x.en] 27) = W1 := ⟨_, rfl⟩
                    rw [hW1] at hl1
                    obtain ⟨f1, hb1, hsz1⟩ := hl1
                    have HW1 := boxed hW1
                    obtain ⟨B0, hB0⟩ : ∃ B0, wk.heap.size = B0 := ⟨_, rfl⟩
                    rw [hB0] at f1 hsz1
                    have HE1 := boxed f1
                    have HU1 := boxed (HUm.out.next hb1)
                    have HB1 := boxed (below_step HBm.out (Nat.le_refl _) hb1)
                    have hB05 : w5.heap.size ≤ B0 := by rw [← hB0]; exact HUm.out.sz
                    have hwB0 : w.heap.size ≤ B0 := by rw [← hB0]; exact HBm.out.size
                    clear hW1 f1 hb1
                    go_upto_region 33 with fail
                    rw [HW1.out]
                    clear c0 c1 c2 c3 c4 c5 c6 c7 c8 z0 z1 hB0 hlbk HW1
                    obtain ⟨W2, hW2⟩ : ∃ W2, W1.setCell ⟨B0, 6, none⟩ (.int .i64 ym) = W2 := ⟨_, rfl⟩
                    have HE2 : Box (W2.heap[B0]? = some (.cells #[.string x.tx, .slice x.ra x.rn x.rc, .int .i64 x.num, .int .i64 x.den, .int .i64 x.h, .bool x.hy, .int .i64 ym, .bool x.bg, .bool x.en] 27 (0, 0))) := boxed (by rw [← hW2]; exact arr_set _ HE1.out)
                    have HU2 : Box (Ut w5 W2 ν (fun z => z.1 < p ∨ (z.1 = p ∧ z.2 < m))) := boxed (by rw [← hW2]; exact HU1.out.set B0 6 _ (fun c => by omega))
                    have HB2' : Box (Below w.heap.size w W2) := boxed (by rw [← hW2]; exact HB1.out.setCell hwB0 _)
                    have HW2 := boxed hW2
                    obtain ⟨⟨d0, d1, d2, d3, d4, d5, d6, d7, d8⟩, k0, k1, k2, k3, k4, k5, k6, k7, k8⟩ := cells9 HE1.out
                    clear hW2
                    go_upto_region 34 with fail
                    rw [HW2.out]
                    clear d0 d1 d2 d3 d4 d5 d6 d7 d8 k0 k1 k2 k3 k4 k5 k6 k7 k8 HE1 HU1 HB1 HW2
                    have hrb := HRuns.out W2 _ HU2.out (by simp)
                    have HSm : Box (∀ W, Below W2.heap.size W2 W → Calls Try.prog 7 #[.agg #[.string x.tx, .slice rk x.rn ck, .int .i64 x.num, .int .i64 x.den, .int .i64 x.h, .bool x.hy, .int .i64 ym, .bool x.bg, .bool x.en], .agg #[.string x.tx, .slice x.ra x.rn x.rc, .int .i64 x.num, .int .i64 x.den, .int .i64 x.h, .bool x.hy, .int .i64 ym, .bool x.bg, .bool x.en]] W fun e w' => e = .returned (.bool true) ∧ Below W.heap.size W w') := boxed (fun W hb => same10_yes _ _ x rk ck ym ((hrb.at (fun j hj => ((HOr.out W2 HB2'.out) j hj).1)).below hb) ((HOr.out W2 HB2'.out).below hb) (by omega))
                    obtain ⟨bR, hbR⟩ : ∃ bR, 0 < x.rn → (rk = some ⟨bR, 0, none⟩ ∧ (G < bR ∧ bR < w5.heap.size) ∧ ν bR = some (p, m)) ∧ ∃ arr : Array Value, W2.heap[bR]? = some (.cells arr 35 (0, 0)) ∧ x.rn * 2 ≤ arr.size := by
                      by_cases h0 : 0 < x.rn
                      · obtain ⟨b, e, hb, arr, f0, f1, -⟩ := hrb h0
                        exact ⟨b, fun _ => ⟨⟨e, hb.1, hb.2⟩, arr, f0, f1⟩⟩
                      · exact ⟨0, fun c => absurd c h0⟩
                    have HbR := boxed hbR
                    obtain ⟨⟨d0, d1, d2, d3, d4, d5, d6, d7, d8⟩, -⟩ := cells9 HE2.out
                    obtain ⟨z0, z1⟩ := HPg.out W2 _ HU2.out
                    obtain ⟨l0, l1, l2, l3, l4, l5, l6, l7, l8⟩ := HLine.out W2 _ HU2.out
                    unfold cpy at l0 l1 l2 l3 l4 l5 l6 l7 l8
                    simp only at l0 l1 l2 l3 l4 l5 l6 l7 l8
                    have vz0 := cell_regrown z0
                    have vd0 := cell_regrown d0
                    have vl0 := cell_regrown l0
                    have vd1 := cell_regrown d1
                    have vl1 := cell_regrown l1
                    have vd2 := cell_regrown d2
                    have vl2 := cell_regrown l2
                    have vd3 := cell_regrown d3
                    have vl3 := cell_regrown l3
                    have vd4 := cell_regrown d4
                    have vl4 := cell_regrown l4
                    have vd5 := cell_regrown d5
                    have vl5 := cell_regrown l5
                    have vd6 := cell_regrown d6
                    have vl6 := cell_regrown l6
                    have vd7 := cell_regrown d7
                    have vl7 := cell_regrown l7
                    have vd8 := cell_regrown d8
                    have vl8 := cell_regrown l8
                    have CS : Box (∀ d os, Calls Try.prog 7 #[.agg #[.string x.tx, .slice rk x.rn ck, .int .i64 x.num, .int .i64 x.den, .int .i64 x.h, .bool x.hy, .int .i64 ym, .bool x.bg, .bool x.en], .agg #[.string x.tx, .slice x.ra x.rn x.rc, .int .i64 x.num, .int .i64 x.den, .int .i64 x.h, .bool x.hy, .int .i64 ym, .bool x.bg, .bool x.en]] (Go.Sort.grow (redrawn W2 d) os) fun e w'' => e = .returned (.bool true) ∧ ∃ p : Regrown, w'' = Go.Sort.grow (redrawn W2 p.d) p.os) := boxed (fun d os => Calls.regrown_of (HSm.out _ (below_regrown W2 d os)))
                    clear hrb hbR HSm l0 l1 l2 l3 l4 l5 l6 l7 l8 z0 z1
                    have hyh : wrap64 (ym + x.h) = ym + x.h := by unfold wrap64; omega
                    go_wp2_with fail
                    clear d0 d1 d2 d3 d4 d5 d6 d7 d8
                    refine wp_region_quiet_below (by kernel_rfl) (by kernel_rfl) ?_
                    repeat (go_big_quiet_step (first | (go_at_call 7; exact CS.out _ _)))
                    refine wpQuiet_nil ?_
                    intro _ hw'
                    obtain ⟨⟨dq, osq⟩, hw''⟩ := hw'
                    subst hw''
                    have hbg := below_regrown W2 dq osq
                    have HU8 : Box (Ut w5 (Go.Sort.grow (redrawn W2 dq) osq) ν (fun z => z.1 < p ∨ (z.1 = p ∧ z.2 ≤ m))) := boxed ((HU2.out.next hbg).mono (fun z hz => by rcases hz with hz | hz <;> omega))
                    have HE8 : Box ((Go.Sort.grow (redrawn W2 dq) osq).heap[B0]? = some (.cells #[.string x.tx, .slice x.ra x.rn x.rc, .int .i64 x.num, .int .i64 x.den, .int .i64 x.h, .bool x.hy, .int .i64 ym, .bool x.bg, .bool x.en] 27 (0, 0))) := boxed ((hbg.block B0 (heap_lt HE2.out)).trans HE2.out)
                    have HB8 : Box (Below w.heap.size w (Go.Sort.grow (redrawn W2 dq) osq)) := boxed (below_step HB2'.out (Nat.le_refl _) hbg)
                    have HA8 : Box (0 < x.rn → ∃ arr : Array Value, (Go.Sort.grow (redrawn W2 dq) osq).heap[bR]? = some (.cells arr 35 (0, 0)) ∧ x.rn * 2 ≤ arr.size) := boxed (fun c => by
                      obtain ⟨-, arr, f0, f1⟩ := HbR.out c
                      exact ⟨arr, (hbg.block bR (heap_lt f0)).trans f0, f1⟩)
                    have HbL : Box (0 < x.rn → rk = some ⟨bR, 0, none⟩ ∧ (G < bR ∧ bR < w5.heap.size) ∧ ν bR = some (p, m)) := boxed (fun c => (HbR.out c).1)
                    clear hbg HU2 HE2 HB2' HbR CS vz0 vd0 vl0 vd1 vl1 vd2 vl2 vd3 vl3 vd4 vl4 vd5 vl5 vd6 vl6 vd7 vl7 vd8 vl8
                    generalize Go.Sort.grow (redrawn W2 dq) osq = w8 at *
                    go_wp2_with fail
                    go_loopw [15] (fun nv wx => ∃ r : Nat, r ≤ x.rn ∧ nv = .int .i64 (r : Nat) ∧ Box (Ut w5 wx ν (fun z => z.1 < p ∨ (z.1 = p ∧ z.2 ≤ m))) ∧ Box (wx.heap[B0]? = some (.cells #[.string x.tx, .slice x.ra x.rn x.rc, .int .i64 x.num, .int .i64 x.den, .int .i64 x.h, .bool x.hy, .int .i64 ym, .bool x.bg, .bool x.en] 27 (0, 0))) ∧ Box (0 < x.rn → ∃ arr : Array Value, wx.heap[bR]? = some (.cells arr 35 (0, 0)) ∧ x.rn * 2 ≤ arr.size) ∧ Box (Below w.heap.size w wx)) (fun nv _ => x.rn - (intOf nv).toNat)
                    case atStart => exact ⟨0, Nat.zero_le _, rfl, HU8, HE8, HA8, HB8⟩
                    case round =>
                      obtain ⟨r, hr, rfl, HUr, HEr, HAr, HBr⟩ := hrel
                      generalize wr = wn at *
                      clear HU8 HE8 HA8 HB8
                      obtain ⟨z0, z1⟩ := HPg.out wn _ HUr.out
                      obtain ⟨-, l1, -⟩ := HLine.out wn _ HUr.out
                      unfold cpy at l1
                      simp only at l1
                      by_cases hrl : r < x.rn
                      · obtain ⟨erk, ⟨hR1, hR2⟩, hν⟩ := HbL.out (by omega)
                        obtain ⟨arr, f0, f1⟩ := HAr.out (by omega)
                        obtain ⟨ob, oo, eo, hob⟩ := (HOr.out wn HBr.out).form (by omega)
                        have hor := HOr.out wn HBr.out
                        rw [eo] at hor
                        obtain ⟨o0, o1⟩ := hor.get r hrl
                        obtain ⟨n1', n2', n3'⟩ := HRl.out bR m hν
                        have hwn := HUr.out.sz
                        have hrl2 : (r : Int) < (x.rn : Int) := by omega
                        obtain ⟨⟨d0, d1, d2, d3, d4, d5, d6, d7, d8⟩, -⟩ := cells9 HEr.out
                        rw [eo] at d1
                        have hB0n := heap_lt HEr.out
                        have hl4 := laid1 wn (.cells #[.int .i64 (x.L r), .int .i64 (x.Y r)] 35)
                        obtain ⟨W4, hW4⟩ : ∃ W4, wn.alloc (.cells #[.int .i64 (x.L r), .int .i64 (x.Y r)] 35) = W4 := ⟨_, rfl⟩
                        rw [hW4] at hl4
                        obtain ⟨s4, hb4, hz4⟩ := hl4
                        obtain ⟨B1, hB1⟩ : ∃ B1, wn.heap.size = B1 := ⟨_, rfl⟩
                        have HW4 := boxed hW4
                        rw [hB1] at s4 hz4
                        have HU4 := boxed (HUr.out.next hb4)
                        have f4 := (hb4.block bR (by omega)).trans f0
                        have E4 := (hb4.block B0 hB0n).trans HEr.out
                        have HB4 := boxed (below_step HBr.out (Nat.le_refl _) hb4)
                        have p0 := hold hb4 o0
                        have p1 := hold hb4 o1
                        clear hW4 hor hb4
                        go_upto_region 41 with fail
                        rw [HW4.out]
                        clear z0 z1 l1 d0 d1 d2 d3 d4 d5 d6 d7 d8 o0 o1 HW4
                        obtain ⟨z0, z1⟩ := HPg.out W4 _ HU4.out
                        obtain ⟨-, l1, -⟩ := HLine.out W4 _ HU4.out
                        unfold cpy at l1
                        simp only at l1
                        rw [erk] at l1
                        obtain ⟨a0, a1⟩ := arr_at f4 (k := r * 2) (by omega)
                        obtain ⟨W6, hW6⟩ : ∃ W6, W4.setCell ⟨bR, r * 2, none⟩ (.int .i64 (-3)) = W6 := ⟨_, rfl⟩
                        have hne1 : B0 ≠ bR := by omega
                        have hne2 : B1 ≠ bR := by omega
                        have hne3 : ob ≠ bR := by omega
                        have E6 : W6.heap[B0]? = some (.cells #[.string x.tx, .slice x.ra x.rn x.rc, .int .i64 x.num, .int .i64 x.den, .int .i64 x.h, .bool x.hy, .int .i64 ym, .bool x.bg, .bool x.en] 27 (0, 0)) := by rw [← hW6, heap_set_far _ hne1]; exact E4
                        have s6 : W6.heap[B1]? = some (.cells #[.int .i64 (x.L r), .int .i64 (x.Y r)] 35 (0, 0)) := by rw [← hW6, heap_set_far _ hne2]; exact s4
                        have f6 : W6.heap[bR]? = some (.cells (arr.setIfInBounds (r * 2) (.int .i64 (-3))) 35 (0, 0)) := by rw [← hW6]; exact arr_set _ f4
                        have q0 : W6.cell? ⟨ob, oo + r * 2, none⟩ = some (.int .i64 (x.L r)) := by rw [← hW6, World.cell?_setCell_far _ _ _ _ (Ne.symm hne3)]; exact p0
                        have q1 : W6.cell? ⟨ob, oo + r * 2 + 1, none⟩ = some (.int .i64 (x.Y r)) := by rw [← hW6, World.cell?_setCell_far _ _ _ _ (Ne.symm hne3)]; exact p1
                        have HU6 : Box (Ut w5 W6 ν (fun z => z.1 < p ∨ (z.1 = p ∧ z.2 ≤ m))) := boxed (by rw [← hW6]; exact HU4.out.set bR _ _ (fun _ => ⟨(p, m), hν, .inr ⟨rfl, Nat.le_refl _⟩⟩))
                        have HB6 : Box (Below w.heap.size w W6) := boxed (by rw [← hW6]; exact HB4.out.setCell (by show w.heap.size ≤ bR; omega) _)
                        have HF6 : Box (∃ arr : Array Value, W6.heap[bR]? = some (.cells arr 35 (0, 0)) ∧ x.rn * 2 ≤ arr.size) := boxed ⟨_, f6, by simpa using f1⟩
                        have HE6 := boxed E6
                        have HW6 := boxed hW6
                        clear hW6 p0 p1 f6 f4 E4 s4 HU4 HB4
                        go_upto_region 42 with fail
                        rw [HW6.out]
                        clear z0 z1 l1 a0 a1
                        obtain ⟨⟨d0, d1, d2, d3, d4, d5, d6, d7, d8⟩, -⟩ := cells9 E6
                        rw [eo] at d1
                        have y0 : W6.cell? ⟨B1, 0, none⟩ = some (.int .i64 (x.L r)) := by rw [cell_of_row _ _ _ _ _ _ s6]; rfl
                        have y1 : W6.cell? ⟨B1, 1, none⟩ = some (.int .i64 (x.Y r)) := by rw [cell_of_row _ _ _ _ _ _ s6]; rfl
                        have hgd := guardRun
                        have hnq := fun w => neqRun (x.L r) (x.Y r) (x.L r) (x.Y r) w
                        have tq : (!(x.L r == x.L r && x.Y r == x.Y r)) = false := by simp
                        simp only [tq] at hnq
                        clear tq E6 s6
                        generalize x.L r = lr at *
                        generalize x.Y r = yr at *
                        go_wp2_with fail
                        go_quiet (fail)
                        go_wp2_with fail
                        go_roundw
                        case rel => exact ⟨r + 1, by omega, by go_num, boxed (HU6.out.next (bel_drewN _ _ _)), boxed (by exact HE6.out), boxed (fun _ => HF6.out), boxed (HB6.out.trans (bel_drewN _ _ _))⟩
                        case measure => simp [intOf]; omega
                      · obtain rfl : x.rn = r := by omega
                        go_wp2_with fail
                        go_roundw
                        case rel => exact ⟨m + 1, by omega, by rw [HYs.out], by go_num, boxed (HUr.out.mono (fun z hz => by rcases hz with hz | hz <;> omega)), HBr⟩
                        case measure => simp [intOf]; omega
                  · obtain rfl : m = q := by omega
                    go_wp2_with fail
                    go_roundw
                    case rel => exact ⟨p + 1, by omega, by go_num, boxed (HUm.out.mono (fun z hz => by rcases hz with hz | hz <;> omega)), HBm⟩
                    case measure => simp [intOf]; omega
              · obtain rfl : p = i := by omega
                go_wp2_with fail
                go_ret
                exact ⟨rfl, HBp.out⟩
      · have q1 : decide ((i : Int) < (n1 : Int)) = false := decide_eq_false (by omega)
        have q3 : decide (i < n1) = false := decide_eq_false (by omega)
        have q2 : True := trivial
        have q4 : True := trivial
        clear hgo
        go_wp2_with fail
        clear q1 q2 q3 q4
        go_loopw [8] (fun iv wx => ∃ k : Nat, k ≤ n0 ∧ iv = .int .i64 (k : Nat) ∧ Box (∀ j, j < k → LnFit (F0 j)) ∧ wx = w3) (fun iv _ => n0 - (intOf iv).toNat)
        case atStart => exact ⟨0, Nat.zero_le _, rfl, boxed (fun j hj => by omega), rfl⟩
        case round =>
          obtain ⟨k, hk, rfl, HFt, rfl⟩ := hrel
          by_cases hkl : k < n0
          · obtain ⟨b, off, rfl, hbw⟩ := (HLn.out wr HBw.out).form (by omega)
            obtain ⟨-, -, c1, -, -, c4, -⟩ := (HLn.out wr HBw.out).get k hkl
            have hok := HOk.out k hkl
            have hk2 : (k : Int) < (n0 : Int) := by omega
            have HFn : Box (((0 ≤ (F0 k).h ∧ (F0 k).h ≤ 1099511627776) ∧ (F0 k).rn ≤ 50) → ∀ j, j < k + 1 → LnFit (F0 j)) := boxed (fun q j hj => by
              by_cases d : j = k
              · subst d; exact ⟨hok.2, q.2, q.1⟩
              · exact HFt.out j (by omega))
            have hrb : ((F0 k).rn : Int) ≤ 9223372036854775807 := by have := hok.1.rn.1; unfold maxLen at this; omega
            generalize (F0 k).h = h at *
            generalize (F0 k).rn = rn at *
            generalize (F0 k).ra = ra at *
            generalize (F0 k).rc = rc at *
            clear hok
            by_cases g1 : h < 0
            · have t2 : decide (h < 0) = true := decide_eq_true g1
              clear HFn g1
              go_wp2_with fail
              go_ret
              exact ⟨rfl, HBw.out⟩
            have t2 : decide (h < 0) = false := decide_eq_false g1
            by_cases g2 : 1099511627776 < h
            · have t3 : decide (1099511627776 < h) = true := decide_eq_true g2
              clear HFn g1 g2
              go_wp2_with fail
              go_ret
              exact ⟨rfl, HBw.out⟩
            have t3 : decide (1099511627776 < h) = false := decide_eq_false g2
            by_cases g3 : 50 < rn
            · have t4 : decide (50 < (rn : Int)) = true := decide_eq_true (by omega)
              clear HFn g1 g2
              go_wp2_with fail
              go_ret
              exact ⟨rfl, HBw.out⟩
            · have t4 : decide (50 < (rn : Int)) = false := decide_eq_false (by omega)
              have HFx := boxed (HFn.out ⟨⟨by omega, by omega⟩, by omega⟩)
              clear HFn g1 g2
              go_wp2_with fail
              go_roundw
              case rel => exact ⟨k + 1, by omega, by go_num, HFx, trivial⟩
              case measure => simp [intOf]; omega
          · obtain rfl : k = n0 := by omega
            have hof := of_any _ _ ao0 k cap0 F0 ao' c' L wr (HLn.out wr HBw.out) HF.out HFt.out hl2 (by rw [HLl.out]; omega) HCap.out HEn.out
            rw [HLl.out] at hof
            go_wp2_with fail
            refine hof.mono ?_
            rintro e w5 ⟨rfl, hBk, hb5⟩
            obtain ⟨A, R, C, ν, hBk⟩ := hBk
            have HBk := boxed hBk
            have HB5 := boxed (below_step HBw.out (Nat.le_refl _) hb5)
            obtain ⟨G, hG⟩ : ∃ G, wr.heap.size = G := ⟨_, rfl⟩
            have HS5 : Box (NAt (fun b => b < G) w5 ao' L) := boxed (HF.out.keep (fun b i u _ hc => ⟨by rw [← hG]; exact World.block_lt_of_cell? wr _ hc, hold hb5 hc⟩))
            have HwG : w.heap.size ≤ G := by rw [← hG]; exact HBw.out.size
            rw [hG] at HBk ⊢
            clear hBk hb5 hof hG HF HBw
            have hiJ : (i : Int) ≤ 100 := by omega
            go_wp2_with fail
            go_loopw [10] (fun pv wx => ∃ p : Nat, p ≤ i ∧ pv = .int .i64 (p : Nat) ∧ Box (Ut w5 wx ν (fun z => z.1 < p)) ∧ Box (Below w.heap.size w wx)) (fun pv _ => i - (intOf pv).toNat)
            case atStart => exact ⟨0, Nat.zero_le _, rfl, boxed (Ut.refl _ _ _), HB5⟩
            case round =>
              obtain ⟨p, hp, rfl, HU, HBp⟩ := hrel
              generalize wr = wp at *
              by_cases hpl : p < i
              · have hst := HS5.out.keep (HU.out.kp HBk.out.lab)
                have hen := refend_any _ ao' c' L p k wp hst (by rw [HLl.out]; exact hpl) (by rw [HLl.out]; omega)
                rw [HLl.out] at hen
                obtain ⟨sb, rfl, hsb, hsG⟩ := HS5.out.form (by rw [HLl.out]; omega)
                have h12 := HEn.out p (by rw [HLl.out]; exact hpl)
                have HPg : Box (∀ W E, Ut w5 W ν E → W.cell? ⟨G, p, none⟩ = some (.slice (some ⟨A p, 0, none⟩) (pl L k p) (pl L k p)) ∧ W.cell? ⟨sb, p, none⟩ = some (.int .i64 (L.getD p 0 : Nat))) := boxed (fun W E hU => ⟨HBk.out.page hU p hpl, (HS5.out.keep (hU.kp HBk.out.lab)).get p (by rw [HLl.out]; exact hpl)⟩)
                have HLi := boxed (fun W E (hU : Ut w5 W ν E) kk hkk => HBk.out.line hU p kk hpl hkk)
                have HRu := boxed (fun W E (hU : Ut w5 W ν E) kk hkk hE => HBk.out.runs hU p kk hpl hkk hE)
                have HRl : Box (∀ b kk, ν b = some (p, kk) → b ≠ G ∧ b ≠ A p ∧ ¬ b < G) := boxed (fun b kk e => ⟨(fun c => by rw [c, HBk.out.lab G (Nat.le_refl _)] at e; cases e), (fun c => by rw [c, (HBk.out.lns p hpl).2.1] at e; cases e), (fun c => by rw [HBk.out.lab b (Nat.le_of_lt c)] at e; cases e)⟩)
                have epl : pl L k p = endL L p k - L.getD p 0 := rfl
                generalize pl L k p = q at *
                generalize endL L p k = y at *
                generalize L.getD p 0 = a at *
                have ey : (y : Int) - (a : Int) = (q : Int) := by omega
                have hyq : a + q ≤ k := by omega
                have hpl2 : (p : Int) < (i : Int) := by omega
                obtain ⟨z0, z1⟩ := HPg.out wp _ HU.out
                clear hst h12 epl
                go_wp2_with fail
                refine hen.mono ?_
                rintro e w6 ⟨rfl, hw6⟩
                obtain rfl : wp = w6 := hw6.symm
                clear hen hw6
                go_wp2_with fail
                go_quiet (fail)
                obtain ⟨w7, hw7⟩ : ∃ w7, wp.drewN nq = w7 := ⟨_, rfl⟩
                have HU7 : Box (Ut w5 w7 ν (fun z => z.1 < p)) := boxed (by rw [← hw7]; exact HU.out.next (bel_drewN _ _ _))
                have HB7 : Box (Below w.heap.size w w7) := boxed (by rw [← hw7]; exact HBp.out.trans (bel_drewN _ _ _))
                rw [hw7]
                clear hw7 z0 z1 HU HBp
                obtain ⟨z0, z1⟩ := HPg.out w7 _ HU7.out
                go_wp2_with fail
                clear z0 z1 ey
                go_loopw [12, 13] (fun yv kv wx => ∃ m : Nat, m ≤ q ∧ yv = .int .i64 (ys (fun j => F0 (a + j)) m) ∧ kv = .int .i64 (m : Nat) ∧ Box (Ut w5 wx ν (fun z => z.1 < p ∨ (z.1 = p ∧ z.2 < m))) ∧ Box (Below w.heap.size w wx)) (fun _ kv _ => q - (intOf kv).toNat)
                case atStart => exact ⟨0, Nat.zero_le _, rfl, rfl, boxed (HU7.out.mono (fun z hz => .inl hz)), HB7⟩
                case round =>
                  obtain ⟨m, hm, rfl, rfl, HUm, HBm⟩ := hrel
                  generalize wr = wk at *
                  obtain ⟨z0, z1⟩ := HPg.out wk _ HUm.out
                  by_cases hml : m < q
                  · obtain ⟨lb, lo, rfl, hlb⟩ := (HLn.out wk HBm.out).form (by omega)
                    obtain ⟨hp2, c0, c1, c2, c3, c4, c5, c6, c7, c8⟩ := (HLn.out wk HBm.out).get (a + m) (by omega)
                    have HOr : Box (∀ W, Below w.heap.size w W → P2At (fun b => b < w.heap.size) W (F0 (a + m)).ra (F0 (a + m)).rn (F0 (a + m)).L (F0 (a + m)).Y) := boxed (fun W hb => ((HLn.out W hb).get (a + m) (by omega)).1)
                    have hLi := fun W E (hU : Ut w5 W ν E) => HLi.out W E hU m hml
                    have hRu := fun W E (hU : Ut w5 W ν E) hE => HRu.out W E hU m hml hE
                    have hft := HFt.out (a + m) (by omega)
                    have hyb := ys_bound (fun j => F0 (a + j)) m (fun j hj => (HFt.out (a + j) (by omega)).h)
                    have HYs : Box (ys (fun j => F0 (a + j)) (m + 1) = ys (fun j => F0 (a + j)) m + (F0 (a + m)).h) := boxed rfl
                    obtain ⟨am, ham⟩ : ∃ am, a + m = am := ⟨_, rfl⟩
                    have e1 : (a : Int) + (m : Int) = (am : Int) := by omega
                    have hamk : am < k := by omega
                    have hamk2 : (am : Int) < (k : Int) := by omega
                    have hml2 : (m : Int) < (q : Int) := by omega
                    rw [ham] at hp2 c0 c1 c2 c3 c4 c5 c6 c7 c8 HOr hLi hRu hft HYs
                    clear ham hp2
                    have hh := hft.h
                    have hrn := hft.rn
                    generalize hx : F0 am = x at *
                    generalize ys (fun j => F0 (a + j)) m = ym at *
                    clear hx hft
                    obtain ⟨rk, hrk⟩ : ∃ rk, R p m = rk := ⟨_, rfl⟩
                    obtain ⟨ck, hck⟩ : ∃ ck, C p m = ck := ⟨_, rfl⟩
                    rw [hrk, hck] at hLi
                    rw [hrk] at hRu
                    clear hrk hck
                    have HLine : Box (∀ W E, Ut w5 W ν E → Ln9 W (A p) (m * 9) (cpy x rk ck ym)) := boxed hLi
                    have HRuns := boxed hRu
                    generalize A p = Ap at *
                    clear hLi hRu
                    have hlbk : lb < wk.heap.size := hlb
                    have hl1 := laid1 wk (.cells #[.string x.tx, .slice x.ra x.rn x.rc, .int .i64 x.num, .int .i64 x.den, .int .i64 x.h, .bool x.hy, .int .i64 x.y, .bool x.bg, .bool x.en] 27)
                    obtain ⟨W1, hW1⟩ : ∃ W1, wk.alloc (.cells #[.string x.tx, .slice x.ra x.rn x.rc, .int .i64 x.num, .int .i64 x.den, .int .i64 x.h, .bool x.hy, .int .i64 x.y, .bool x.bg, .bool x.en] 27) = W1 := ⟨_, rfl⟩
                    rw [hW1] at hl1
                    obtain ⟨f1, hb1, hsz1⟩ := hl1
                    have HW1 := boxed hW1
                    obtain ⟨B0, hB0⟩ : ∃ B0, wk.heap.size = B0 := ⟨_, rfl⟩
                    rw [hB0] at f1 hsz1
                    have HE1 := boxed f1
                    have HU1 := boxed (HUm.out.next hb1)
                    have HB1 := boxed (below_step HBm.out (Nat.le_refl _) hb1)
                    have hB05 : w5.heap.size ≤ B0 := by rw [← hB0]; exact HUm.out.sz
                    have hwB0 : w.heap.size ≤ B0 := by rw [← hB0]; exact HBm.out.size
                    clear hW1 f1 hb1
                    go_upto_region 33 with fail
                    rw [HW1.out]
                    clear c0 c1 c2 c3 c4 c5 c6 c7 c8 z0 z1 hB0 hlbk HW1
                    obtain ⟨W2, hW2⟩ : ∃ W2, W1.setCell ⟨B0, 6, none⟩ (.int .i64 ym) = W2 := ⟨_, rfl⟩
                    have HE2 : Box (W2.heap[B0]? = some (.cells #[.string x.tx, .slice x.ra x.rn x.rc, .int .i64 x.num, .int .i64 x.den, .int .i64 x.h, .bool x.hy, .int .i64 ym, .bool x.bg, .bool x.en] 27 (0, 0))) := boxed (by rw [← hW2]; exact arr_set _ HE1.out)
                    have HU2 : Box (Ut w5 W2 ν (fun z => z.1 < p ∨ (z.1 = p ∧ z.2 < m))) := boxed (by rw [← hW2]; exact HU1.out.set B0 6 _ (fun c => by omega))
                    have HB2' : Box (Below w.heap.size w W2) := boxed (by rw [← hW2]; exact HB1.out.setCell hwB0 _)
                    have HW2 := boxed hW2
                    obtain ⟨⟨d0, d1, d2, d3, d4, d5, d6, d7, d8⟩, k0, k1, k2, k3, k4, k5, k6, k7, k8⟩ := cells9 HE1.out
                    clear hW2
                    go_upto_region 34 with fail
                    rw [HW2.out]
                    clear d0 d1 d2 d3 d4 d5 d6 d7 d8 k0 k1 k2 k3 k4 k5 k6 k7 k8 HE1 HU1 HB1 HW2
                    have hrb := HRuns.out W2 _ HU2.out (by simp)
                    have HSm : Box (∀ W, Below W2.heap.size W2 W → Calls Try.prog 7 #[.agg #[.string x.tx, .slice rk x.rn ck, .int .i64 x.num, .int .i64 x.den, .int .i64 x.h, .bool x.hy, .int .i64 ym, .bool x.bg, .bool x.en], .agg #[.string x.tx, .slice x.ra x.rn x.rc, .int .i64 x.num, .int .i64 x.den, .int .i64 x.h, .bool x.hy, .int .i64 ym, .bool x.bg, .bool x.en]] W fun e w' => e = .returned (.bool true) ∧ Below W.heap.size W w') := boxed (fun W hb => same10_yes _ _ x rk ck ym ((hrb.at (fun j hj => ((HOr.out W2 HB2'.out) j hj).1)).below hb) ((HOr.out W2 HB2'.out).below hb) (by omega))
                    obtain ⟨bR, hbR⟩ : ∃ bR, 0 < x.rn → (rk = some ⟨bR, 0, none⟩ ∧ (G < bR ∧ bR < w5.heap.size) ∧ ν bR = some (p, m)) ∧ ∃ arr : Array Value, W2.heap[bR]? = some (.cells arr 35 (0, 0)) ∧ x.rn * 2 ≤ arr.size := by
                      by_cases h0 : 0 < x.rn
                      · obtain ⟨b, e, hb, arr, f0, f1, -⟩ := hrb h0
                        exact ⟨b, fun _ => ⟨⟨e, hb.1, hb.2⟩, arr, f0, f1⟩⟩
                      · exact ⟨0, fun c => absurd c h0⟩
                    have HbR := boxed hbR
                    obtain ⟨⟨d0, d1, d2, d3, d4, d5, d6, d7, d8⟩, -⟩ := cells9 HE2.out
                    obtain ⟨z0, z1⟩ := HPg.out W2 _ HU2.out
                    obtain ⟨l0, l1, l2, l3, l4, l5, l6, l7, l8⟩ := HLine.out W2 _ HU2.out
                    unfold cpy at l0 l1 l2 l3 l4 l5 l6 l7 l8
                    simp only at l0 l1 l2 l3 l4 l5 l6 l7 l8
                    have vz0 := cell_regrown z0
                    have vd0 := cell_regrown d0
                    have vl0 := cell_regrown l0
                    have vd1 := cell_regrown d1
                    have vl1 := cell_regrown l1
                    have vd2 := cell_regrown d2
                    have vl2 := cell_regrown l2
                    have vd3 := cell_regrown d3
                    have vl3 := cell_regrown l3
                    have vd4 := cell_regrown d4
                    have vl4 := cell_regrown l4
                    have vd5 := cell_regrown d5
                    have vl5 := cell_regrown l5
                    have vd6 := cell_regrown d6
                    have vl6 := cell_regrown l6
                    have vd7 := cell_regrown d7
                    have vl7 := cell_regrown l7
                    have vd8 := cell_regrown d8
                    have vl8 := cell_regrown l8
                    have CS : Box (∀ d os, Calls Try.prog 7 #[.agg #[.string x.tx, .slice rk x.rn ck, .int .i64 x.num, .int .i64 x.den, .int .i64 x.h, .bool x.hy, .int .i64 ym, .bool x.bg, .bool x.en], .agg #[.string x.tx, .slice x.ra x.rn x.rc, .int .i64 x.num, .int .i64 x.den, .int .i64 x.h, .bool x.hy, .int .i64 ym, .bool x.bg, .bool x.en]] (Go.Sort.grow (redrawn W2 d) os) fun e w'' => e = .returned (.bool true) ∧ ∃ p : Regrown, w'' = Go.Sort.grow (redrawn W2 p.d) p.os) := boxed (fun d os => Calls.regrown_of (HSm.out _ (below_regrown W2 d os)))
                    clear hrb hbR HSm l0 l1 l2 l3 l4 l5 l6 l7 l8 z0 z1
                    have hyh : wrap64 (ym + x.h) = ym + x.h := by unfold wrap64; omega
                    go_wp2_with fail
                    clear d0 d1 d2 d3 d4 d5 d6 d7 d8
                    refine wp_region_quiet_below (by kernel_rfl) (by kernel_rfl) ?_
                    repeat (go_big_quiet_step (first | (go_at_call 7; exact CS.out _ _)))
                    refine wpQuiet_nil ?_
                    intro _ hw'
                    obtain ⟨⟨dq, osq⟩, hw''⟩ := hw'
                    subst hw''
                    have hbg := below_regrown W2 dq osq
                    have HU8 : Box (Ut w5 (Go.Sort.grow (redrawn W2 dq) osq) ν (fun z => z.1 < p ∨ (z.1 = p ∧ z.2 ≤ m))) := boxed ((HU2.out.next hbg).mono (fun z hz => by rcases hz with hz | hz <;> omega))
                    have HE8 : Box ((Go.Sort.grow (redrawn W2 dq) osq).heap[B0]? = some (.cells #[.string x.tx, .slice x.ra x.rn x.rc, .int .i64 x.num, .int .i64 x.den, .int .i64 x.h, .bool x.hy, .int .i64 ym, .bool x.bg, .bool x.en] 27 (0, 0))) := boxed ((hbg.block B0 (heap_lt HE2.out)).trans HE2.out)
                    have HB8 : Box (Below w.heap.size w (Go.Sort.grow (redrawn W2 dq) osq)) := boxed (below_step HB2'.out (Nat.le_refl _) hbg)
                    have HA8 : Box (0 < x.rn → ∃ arr : Array Value, (Go.Sort.grow (redrawn W2 dq) osq).heap[bR]? = some (.cells arr 35 (0, 0)) ∧ x.rn * 2 ≤ arr.size) := boxed (fun c => by
                      obtain ⟨-, arr, f0, f1⟩ := HbR.out c
                      exact ⟨arr, (hbg.block bR (heap_lt f0)).trans f0, f1⟩)
                    have HbL : Box (0 < x.rn → rk = some ⟨bR, 0, none⟩ ∧ (G < bR ∧ bR < w5.heap.size) ∧ ν bR = some (p, m)) := boxed (fun c => (HbR.out c).1)
                    clear hbg HU2 HE2 HB2' HbR CS vz0 vd0 vl0 vd1 vl1 vd2 vl2 vd3 vl3 vd4 vl4 vd5 vl5 vd6 vl6 vd7 vl7 vd8 vl8
                    generalize Go.Sort.grow (redrawn W2 dq) osq = w8 at *
                    go_wp2_with fail
                    go_loopw [15] (fun nv wx => ∃ r : Nat, r ≤ x.rn ∧ nv = .int .i64 (r : Nat) ∧ Box (Ut w5 wx ν (fun z => z.1 < p ∨ (z.1 = p ∧ z.2 ≤ m))) ∧ Box (wx.heap[B0]? = some (.cells #[.string x.tx, .slice x.ra x.rn x.rc, .int .i64 x.num, .int .i64 x.den, .int .i64 x.h, .bool x.hy, .int .i64 ym, .bool x.bg, .bool x.en] 27 (0, 0))) ∧ Box (0 < x.rn → ∃ arr : Array Value, wx.heap[bR]? = some (.cells arr 35 (0, 0)) ∧ x.rn * 2 ≤ arr.size) ∧ Box (Below w.heap.size w wx)) (fun nv _ => x.rn - (intOf nv).toNat)
                    case atStart => exact ⟨0, Nat.zero_le _, rfl, HU8, HE8, HA8, HB8⟩
                    case round =>
                      obtain ⟨r, hr, rfl, HUr, HEr, HAr, HBr⟩ := hrel
                      generalize wr = wn at *
                      clear HU8 HE8 HA8 HB8
                      obtain ⟨z0, z1⟩ := HPg.out wn _ HUr.out
                      obtain ⟨-, l1, -⟩ := HLine.out wn _ HUr.out
                      unfold cpy at l1
                      simp only at l1
                      by_cases hrl : r < x.rn
                      · obtain ⟨erk, ⟨hR1, hR2⟩, hν⟩ := HbL.out (by omega)
                        obtain ⟨arr, f0, f1⟩ := HAr.out (by omega)
                        obtain ⟨ob, oo, eo, hob⟩ := (HOr.out wn HBr.out).form (by omega)
                        have hor := HOr.out wn HBr.out
                        rw [eo] at hor
                        obtain ⟨o0, o1⟩ := hor.get r hrl
                        obtain ⟨n1', n2', n3'⟩ := HRl.out bR m hν
                        have hwn := HUr.out.sz
                        have hrl2 : (r : Int) < (x.rn : Int) := by omega
                        obtain ⟨⟨d0, d1, d2, d3, d4, d5, d6, d7, d8⟩, -⟩ := cells9 HEr.out
                        rw [eo] at d1
                        have hB0n := heap_lt HEr.out
                        have hl4 := laid1 wn (.cells #[.int .i64 (x.L r), .int .i64 (x.Y r)] 35)
                        obtain ⟨W4, hW4⟩ : ∃ W4, wn.alloc (.cells #[.int .i64 (x.L r), .int .i64 (x.Y r)] 35) = W4 := ⟨_, rfl⟩
                        rw [hW4] at hl4
                        obtain ⟨s4, hb4, hz4⟩ := hl4
                        obtain ⟨B1, hB1⟩ : ∃ B1, wn.heap.size = B1 := ⟨_, rfl⟩
                        have HW4 := boxed hW4
                        rw [hB1] at s4 hz4
                        have HU4 := boxed (HUr.out.next hb4)
                        have f4 := (hb4.block bR (by omega)).trans f0
                        have E4 := (hb4.block B0 hB0n).trans HEr.out
                        have HB4 := boxed (below_step HBr.out (Nat.le_refl _) hb4)
                        have p0 := hold hb4 o0
                        have p1 := hold hb4 o1
                        clear hW4 hor hb4
                        go_upto_region 41 with fail
                        rw [HW4.out]
                        clear z0 z1 l1 d0 d1 d2 d3 d4 d5 d6 d7 d8 o0 o1 HW4
                        obtain ⟨z0, z1⟩ := HPg.out W4 _ HU4.out
                        obtain ⟨-, l1, -⟩ := HLine.out W4 _ HU4.out
                        unfold cpy at l1
                        simp only at l1
                        rw [erk] at l1
                        obtain ⟨a0, a1⟩ := arr_at f4 (k := r * 2) (by omega)
                        obtain ⟨W6, hW6⟩ : ∃ W6, W4.setCell ⟨bR, r * 2, none⟩ (.int .i64 (-3)) = W6 := ⟨_, rfl⟩
                        have hne1 : B0 ≠ bR := by omega
                        have hne2 : B1 ≠ bR := by omega
                        have hne3 : ob ≠ bR := by omega
                        have E6 : W6.heap[B0]? = some (.cells #[.string x.tx, .slice x.ra x.rn x.rc, .int .i64 x.num, .int .i64 x.den, .int .i64 x.h, .bool x.hy, .int .i64 ym, .bool x.bg, .bool x.en] 27 (0, 0)) := by rw [← hW6, heap_set_far _ hne1]; exact E4
                        have s6 : W6.heap[B1]? = some (.cells #[.int .i64 (x.L r), .int .i64 (x.Y r)] 35 (0, 0)) := by rw [← hW6, heap_set_far _ hne2]; exact s4
                        have f6 : W6.heap[bR]? = some (.cells (arr.setIfInBounds (r * 2) (.int .i64 (-3))) 35 (0, 0)) := by rw [← hW6]; exact arr_set _ f4
                        have q0 : W6.cell? ⟨ob, oo + r * 2, none⟩ = some (.int .i64 (x.L r)) := by rw [← hW6, World.cell?_setCell_far _ _ _ _ (Ne.symm hne3)]; exact p0
                        have q1 : W6.cell? ⟨ob, oo + r * 2 + 1, none⟩ = some (.int .i64 (x.Y r)) := by rw [← hW6, World.cell?_setCell_far _ _ _ _ (Ne.symm hne3)]; exact p1
                        have HU6 : Box (Ut w5 W6 ν (fun z => z.1 < p ∨ (z.1 = p ∧ z.2 ≤ m))) := boxed (by rw [← hW6]; exact HU4.out.set bR _ _ (fun _ => ⟨(p, m), hν, .inr ⟨rfl, Nat.le_refl _⟩⟩))
                        have HB6 : Box (Below w.heap.size w W6) := boxed (by rw [← hW6]; exact HB4.out.setCell (by show w.heap.size ≤ bR; omega) _)
                        have HF6 : Box (∃ arr : Array Value, W6.heap[bR]? = some (.cells arr 35 (0, 0)) ∧ x.rn * 2 ≤ arr.size) := boxed ⟨_, f6, by simpa using f1⟩
                        have HE6 := boxed E6
                        have HW6 := boxed hW6
                        clear hW6 p0 p1 f6 f4 E4 s4 HU4 HB4
                        go_upto_region 42 with fail
                        rw [HW6.out]
                        clear z0 z1 l1 a0 a1
                        obtain ⟨⟨d0, d1, d2, d3, d4, d5, d6, d7, d8⟩, -⟩ := cells9 E6
                        rw [eo] at d1
                        have y0 : W6.cell? ⟨B1, 0, none⟩ = some (.int .i64 (x.L r)) := by rw [cell_of_row _ _ _ _ _ _ s6]; rfl
                        have y1 : W6.cell? ⟨B1, 1, none⟩ = some (.int .i64 (x.Y r)) := by rw [cell_of_row _ _ _ _ _ _ s6]; rfl
                        have hgd := guardRun
                        have hnq := fun w => neqRun (x.L r) (x.Y r) (x.L r) (x.Y r) w
                        have tq : (!(x.L r == x.L r && x.Y r == x.Y r)) = false := by simp
                        simp only [tq] at hnq
                        clear tq E6 s6
                        generalize x.L r = lr at *
                        generalize x.Y r = yr at *
                        go_wp2_with fail
                        go_quiet (fail)
                        go_wp2_with fail
                        go_roundw
                        case rel => exact ⟨r + 1, by omega, by go_num, boxed (HU6.out.next (bel_drewN _ _ _)), boxed (by exact HE6.out), boxed (fun _ => HF6.out), boxed (HB6.out.trans (bel_drewN _ _ _))⟩
                        case measure => simp [intOf]; omega
                      · obtain rfl : x.rn = r := by omega
                        go_wp2_with fail
                        go_roundw
                        case rel => exact ⟨m + 1, by omega, by rw [HYs.out], by go_num, boxed (HUr.out.mono (fun z hz => by rcases hz with hz | hz <;> omega)), HBr⟩
                        case measure => simp [intOf]; omega
                  · obtain rfl : m = q := by omega
                    go_wp2_with fail
                    go_roundw
                    case rel => exact ⟨p + 1, by omega, by go_num, boxed (HUm.out.mono (fun z hz => by rcases hz with hz | hz <;> omega)), HBm⟩
                    case measure => simp [intOf]; omega
              · obtain rfl : p = i := by omega
                go_wp2_with fail
                go_ret
                exact ⟨rfl, HBp.out⟩

set_option maxRecDepth 100000 in
theorem lifted (os : Os) (started : os.Started) (H : Type) (enc : TypeId × Value → H) :
    ReturnsInHanded {} Try.checked os 3 .any (Rows.pagesOfSpec.pre6 enc Try.prog Try.f3 Rows.pagesOfRow.domain false) (Rows.pagesOfSpec.post enc Try.prog Try.f3 false true false false) := by
  refine returnsInHanded_of_change_sized (C := Try.checked) own started (by kernel_rfl) Try.func3
    (ChangeSpec.witness6 (enc := enc) (C := Try.checked) false ⟨#[], #[.slice none 0 0, .slice none 0 0], []⟩ 8 (by kernel_rfl) (by kernel_rfl) (by kernel_rfl) (by kernel_rfl)) ?_
  intro W base args ds gs before hval0 hW hcnd hsz0 _
  have hval : ∀ (j : Nat) t v, Try.f3.params[j]? = some t → args[j]? = some v → Value.okWide Try.prog W .any base t v := hval0
  have hsz : (DataW.weightsEach Try.prog (Try.f3.params.toList ++ Rows.pagesOfSpec.plain.varTypes Try.prog) (ds ++ gs)).all (· ≤ reachBytes) = true := hsz0
  have hW' := hW
  obtain ⟨p, q, hA0, hV, rfl, hfz, hnd⟩ := hW
  have hA : DataW.TrodAll enc Try.prog W 0 (fun _ => true) true Try.f3.params.toList args.toList ds p := hA0
  rw [Try.params3] at hA hval hsz
  obtain ⟨v0, vs0, d0, ds0, p0, q0, hargs, rfl, rfl, h0, r0⟩ := trodAll_cons hA
  obtain ⟨v1, vs1, d1, ds1, p1, q1, rfl, rfl, rfl, h1, r1⟩ := trodAll_cons r0
  obtain ⟨rfl, rfl, rfl⟩ := trodAll_nil r1
  obtain rfl : args = #[v0, v1] := by cases args; simp_all
  obtain ⟨rfl, rfl⟩ := trodVars_none hV
  obtain ⟨ao0, n0, cap0, rfl⟩ := okWide_slice Try.underlying22 (hval 0 22 v0 rfl rfl)
  have k0 := h0
  have lt0 : ∀ x ∈ p0, x.block < W.heap.size := by obtain ⟨m, hm⟩ := k0; exact DataW.trod_lt m _ _ _ hm
  obtain ⟨hn0, F0, hF0⟩ : (n0 ≤ maxLen ∧ n0 ≤ cap0) ∧ ∃ F, LnsAt (fun _ => True) W ao0 n0 F ∧ ∀ i, i < n0 → LneOk (F i) ∧ (F i).tx.size ≤ 140737488351232 := by
    obtain ⟨fuel, hf⟩ := k0
    exact open_lines hf (fun n hn => by simpa using List.all_eq_true.1 hsz _ (DataW.weights_mem_each (j := 0) rfl rfl n hn))
  obtain ⟨ao1, n1, cap1, rfl⟩ := okWide_slice Try.underlying23 (hval 1 23 v1 rfl rfl)
  have k1 := h1
  have lt1 : ∀ x ∈ p1, x.block < W.heap.size := by obtain ⟨m, hm⟩ := k1; exact DataW.trod_lt m _ _ _ hm
  obtain ⟨hn1, X1, hX1⟩ : n1 ≤ maxLen ∧ ∃ X, IntsAt W ao1 n1 X := by
    obtain ⟨fuel, hf⟩ := k1
    exact open_nums hf
  clear hA0 hval0
  refine (walk W ao0 n0 cap0 F0 hn0 hF0 ao1 n1 cap1 X1 hn1 hX1).mono fun e W' ⟨he, hg⟩ => ?_
  subst he
  exact ⟨_, rfl, _, _, _, [], _, [], hW', trodAll_mk1 (shut_bool Try.underlying4 _), (trodAll_cons_mk (Below.trod laidOut (by kernel_rfl) (of_decide_eq_true (by kernel_rfl)) k0 hg lt0) (trodAll_cons_mk (Below.trod laidOut (by kernel_rfl) (of_decide_eq_true (by kernel_rfl)) k1 hg lt1) trodAll_mk0)), rfl, hg.frame _, fun h => by cases h⟩

theorem proved : Rows.PagesOfSaid :=
  OpenClaim.holds_of_wide 3 Try.f3 rfl rfl rfl rfl rfl rfl rfl ⟨rfl, rfl, rfl, rfl, rfl⟩ rfl rfl rfl rfl rfl (by kernel_rfl) Try.func3 (by kernel_rfl)
    (of_decide_eq_true (by kernel_rfl)) (by unfold Func.isWrapper; first | (rw [if_pos (by decide +kernel)]; kernel_rfl) | (rw [if_neg (by decide +kernel)]; exact ⟨rfl, rfl⟩))
    (fun os started H enc _ => lifted os started H enc)
#print axioms proved
end Go.Proofs.Ytjchioopfljjhab.pagesOf
