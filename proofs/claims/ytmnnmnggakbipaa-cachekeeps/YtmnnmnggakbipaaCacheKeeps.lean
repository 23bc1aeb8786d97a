/-
  For every room, every key and every list of others the law CacheKeeps answers true and leaves its arguments as they were: what was put for a key is found as long as not as many other keys were put as there is room for, and a key that was handed in may be changed behind it.
-/
import Derived.Test.YtmnnmnggakbipaaRows
import Derived.WalkKit
import Derived.ProofKit
import Derived.OpenShut
import Derived.SizedLaws
import Derived.ShutString
import Derived.ChangeOld
import Derived.Below
import Derived.Test.YtmnnmnggakbipaaSd
import Derived.Test.YtmnnmnggakbipaaSi
import Derived.Test.YtmnnmnggakbipaaQg
import Derived.Deep.RegionHeld3
import Derived.Deep.RegionWith
import Derived.Lib.QuietBelow
import Derived.BigQuiet
namespace Go.Proofs.Ytmnnmnggakbipaa.cacheKeeps
open Go.ChangeShapes Go.WideShapes Go.ChangeAt Go.RowKit
open Go.ChangeMaps (open_string shut_string)
set_option linter.unusedVariables false
set_option linter.unusedSimpArgs false

theorem own : ownKnob Try.prog.godebug = none := by kernel_rfl
theorem laidOut : laidOutB Try.prog = true := by kernel_rfl

set_option maxRecDepth 100000 in
set_option maxHeartbeats 8000000 in
theorem walk (w : World) (a0 : Int) (w0 : (Lit.int .i64 a0).wf = true) (x1 : Kv) (hx1 : KvIs w x1) (ao2 : Option Addr) (n2 cap2 : Nat) (O2 : Nat → Kv) (hn2 : n2 ≤ maxLen) (hO2 : KsAt w ao2 n2 O2) :
    Calls Try.prog 6 #[.int .i64 a0, x1.val, .slice ao2 n2 cap2] w fun e w' => e = .returned (.bool true) ∧ Below w.heap.size w w' := by
  obtain ⟨W0, hW⟩ : ∃ W0, w.alloc (.cells #[.string x1.tx, .slice x1.ra x1.rn x1.rc, .int .i64 x1.ta, .int .i64 x1.wd, .int .i64 x1.s.t, .int .i64 x1.s.l, .int .i64 x1.s.a, .int .i64 x1.s.d, .int .i64 x1.s.z, .int .i64 x1.s.o, .int .i64 x1.s.i] 42) = W0 := ⟨_, rfl⟩
  have HQ := laid1 w (.cells #[.string x1.tx, .slice x1.ra x1.rn x1.rc, .int .i64 x1.ta, .int .i64 x1.wd, .int .i64 x1.s.t, .int .i64 x1.s.l, .int .i64 x1.s.a, .int .i64 x1.s.d, .int .i64 x1.s.z, .int .i64 x1.s.o, .int .i64 x1.s.i] 42)
  rw [hW] at HQ
  obtain ⟨f0, hB, hz⟩ := HQ
  have hBw : ∀ W, Below W0.heap.size W0 W → Below w.heap.size w W := fun W hb => below_step hB (Nat.le_refl _) hb
  have HF0 := boxed (fun W (hb : Below W0.heap.size W0 W) => fits_any _ x1 W (hx1.kv.below (hBw W hb)))
  have HK0 : Box (∀ W, Below W0.heap.size W0 W → W.heap[w.heap.size]? = some (.cells #[.string x1.tx, .slice x1.ra x1.rn x1.rc, .int .i64 x1.ta, .int .i64 x1.wd, .int .i64 x1.s.t, .int .i64 x1.s.l, .int .i64 x1.s.a, .int .i64 x1.s.d, .int .i64 x1.s.z, .int .i64 x1.s.o, .int .i64 x1.s.i] 42 (0, 0))) := boxed (fun W hb => (hb.block _ (by omega)).trans f0)
  have HX1 := boxed hx1
  have HO2 := boxed hO2
  have HB := boxed hBw
  have HW := boxed hW
  clear hO2 hx1 f0 hB hBw hW w0
  unfold maxLen at hn2
  unfold Kv.val at HF0 ⊢
  go_enter Try.func6, Try.ntmps6
  go_wp2_with fail
  rw [HW.out]
  refine (awake_any _).mono ?_
  rintro e w1 ⟨rfl, hb1⟩
  have HB1 := boxed hb1
  have HE1 := boxed (HB.out _ hb1)
  clear hb1 HW
  by_cases c1 : a0 < 1
  · have t1 : decide (a0 < 1) = true := decide_eq_true c1
    clear c1 HF0 HK0
    go_wp2
    go_ret
    exact ⟨rfl, HE1.out⟩
  have t1 : decide (a0 < 1) = false := decide_eq_false c1
  by_cases c2 : 64 < a0
  · have t2 : decide ((64 : Int) < a0) = true := decide_eq_true c2
    clear c1 c2 HF0 HK0
    go_wp2
    go_ret
    exact ⟨rfl, HE1.out⟩
  have t2 : decide ((64 : Int) < a0) = false := decide_eq_false c2
  have hr64 : 1 ≤ a0 ∧ a0 ≤ 64 := by omega
  obtain ⟨b0, b1, b2, b3, b4, b5, b6, b7, b8, b9, b10⟩ := cells11 (HK0.out _ HB1.out)
  clear c1 c2
  go_wp2_with fail
  refine (HF0.out _ HB1.out).mono ?_
  rintro e w2 ⟨r0, rfl, hr0, hb2⟩
  have HB2 := boxed (below_step HB1.out (Nat.le_refl _) hb2)
  have HE2 := boxed (HB.out _ HB2.out)
  obtain _ | _ := r0
  · clear hr0 hb2 HF0 HK0 b0 b1 b2 b3 b4 b5 b6 b7 b8 b9 b10
    go_wp2
    go_ret
    exact ⟨rfl, HE2.out⟩
  have HFk := boxed (hr0.1 rfl)
  clear hb2 hr0 b0 b1 b2 b3 b4 b5 b6 b7 b8 b9 b10 HF0
  by_cases c3 : 100 < n2
  · have t3 : decide ((100 : Int) < (n2 : Int)) = true := decide_eq_true (by omega)
    clear c3 HK0
    go_wp2
    go_ret
    exact ⟨rfl, HE2.out⟩
  have t3 : decide ((100 : Int) < (n2 : Int)) = false := decide_eq_false (by omega)
  have hn100 : n2 ≤ 100 := by omega
  have HNw := boxed (new_any a0 w2)
  clear c3
  go_wp2_with fail
  refine HNw.out.mono ?_
  rintro r w3 ⟨hb3, ⟨c, rfl⟩ | ⟨-, cb, mb, F, rfl, hF, hca⟩⟩
  · exfalso; omega
  have HB3 := boxed (below_step HB2.out (Nat.le_refl _) hb3)
  have HFW : Box (∀ b, F b → W0.heap.size ≤ b) := boxed (fun b hb => by have := hF b hb; have := HB2.out.size; omega)
  have HFl := boxed hca.fl
  obtain ⟨Z, hZ⟩ : ∃ Z, w3.alloc (.cells #[.string x1.tx, .slice x1.ra x1.rn x1.rc, .int .i64 x1.ta, .int .i64 x1.wd, .int .i64 x1.s.t, .int .i64 x1.s.l, .int .i64 x1.s.a, .int .i64 x1.s.d, .int .i64 x1.s.z, .int .i64 x1.s.o, .int .i64 x1.s.i] 42) = Z := ⟨_, rfl⟩
  have hbZ : Below w3.heap.size w3 Z := by rw [← hZ]; exact (Below.refl _ _).alloc (Nat.le_refl _) _
  have hzZ : Z.heap.size = w3.heap.size + 1 := by rw [← hZ]; simp
  have HCa := boxed (hca.below hbZ)
  have HBZ := boxed (below_step HB3.out (Nat.le_refl _) hbZ)
  have HZ := boxed hZ
  have HZh : Box (Z.heap[w3.heap.size]? = some (.cells #[.string x1.tx, .slice x1.ra x1.rn x1.rc, .int .i64 x1.ta, .int .i64 x1.wd, .int .i64 x1.s.t, .int .i64 x1.s.l, .int .i64 x1.s.a, .int .i64 x1.s.d, .int .i64 x1.s.z, .int .i64 x1.s.o, .int .i64 x1.s.i] 42 (0, 0))) := boxed (by rw [← hZ]; exact heap_alloc_new w3 _)
  obtain ⟨b0, b1, b2, b3, b4, b5, b6, b7, b8, b9, b10⟩ := cells11 (HK0.out _ HB3.out)
  clear hb3 hF hca hbZ hZ HB1 HB2 HNw t1 t2 t3
  go_upto_region 9 with fail
  rw [HZ.out]
  clear HZ b0 b1 b2 b3 b4 b5 b6 b7 b8 b9 b10
  have HzZ := boxed hzZ
  clear hzZ
  have HY := boxed (laid1 Z (.cells #[] 62))
  have HNil : Box ((Z.alloc (.cells #[] 62)).ownsRow Z.heap.size 62 2 (.slice (some ⟨Z.heap.size, 0, none⟩) 0 0) 0 []) := boxed ⟨rfl, .inr ⟨Z.heap.size, 0, #[], rfl, Nat.le_refl _, HY.out.1, Nat.le_refl _, Nat.zero_le _, rfl, rfl⟩⟩
  have HXa : Box (KvAt (fun _ => True) (Z.alloc (.cells #[] 62)) x1) := boxed (HX1.out.kv.below (HB.out _ (below_step HBZ.out (Nat.le_refl _) HY.out.2.1)))
  have hrn : x1.rn ≤ 20 := HFk.out.rn
  obtain ⟨-, g1, -⟩ := cells11 (HK0.out _ (below_step HBZ.out (Nat.le_refl _) HY.out.2.1))
  unfold KvAt at HXa
  go_wp2_with (at_builtin; refine append_rvs rfl _ _ rfl Z.heap.size _ 0 [] rfl HNil.out (fun _ => True) x1.ra x1.rn x1.rc x1.L x1.Y rfl HXa.out ?qa ?qb ?_)
  case qa => omega
  case qb => simp
  intro v' w5 hown hgrow
  have hzZ := HzZ.out
  have ho : w5.ownsRow Z.heap.size 62 2 v' x1.rn (rvs x1.L x1.Y x1.rn) := by simpa using hown
  obtain ⟨ao', cc, rfl⟩ := own_shape ho
  have hb5 : Below Z.heap.size Z w5 := HY.out.2.1.grown hgrow (by simp) (by intro k hk; simp [Value.ownBlock] at hk; omega)
  have hob5 := (hb5.block _ (heap_lt HZh.out)).trans HZh.out
  have hcap : x1.rn ≤ cc := by
    rcases ho.2 with ⟨e, h0⟩ | ⟨g, cap, cur, e, _, _, h1, _⟩
    · omega
    · injection e with _ _ e3; omega
  have p1 := (cells11 hob5).2.1
  have pf1 := row_free hob5 1
  obtain ⟨W6, hW6⟩ : ∃ W6, w5.setCell ⟨w3.heap.size, 1, none⟩ (.slice ao' x1.rn cc) = W6 := ⟨_, rfl⟩
  have hob6 : W6.heap[w3.heap.size]? = some (.cells #[.string x1.tx, .slice ao' x1.rn cc, .int .i64 x1.ta, .int .i64 x1.wd, .int .i64 x1.s.t, .int .i64 x1.s.l, .int .i64 x1.s.a, .int .i64 x1.s.d, .int .i64 x1.s.z, .int .i64 x1.s.o, .int .i64 x1.s.i] 42 (0, 0)) := by rw [← hW6]; exact arr_set _ hob5
  have hc6 : Chg (fun b => b = w3.heap.size) w5 W6 := by rw [← hW6]; exact Chg.set _ _ _ _ rfl
  have ho6 : W6.ownsRow Z.heap.size 62 2 (.slice ao' x1.rn cc) x1.rn (rvs x1.L x1.Y x1.rn) := by rw [← hW6]; exact ownsRow_setCell_below ho (by simp only; omega) _
  have hca6 : CaAt W6 F cb mb a0 0 0 [] (fun _ => []) (fun _ => none) := (HCa.out.below hb5).other hc6 (fun b _ hd c => by have := HFl.out b c; omega) (by simp)
  have hb6 : Below W0.heap.size W0 W6 := (below_step HBZ.out (Nat.le_refl _) hb5).trans (hc6.below (below_step HBZ.out (Nat.le_refl _) hb5).size (fun b hb => by have := HB3.out.size; omega))
  have hk6 : KvAt (fun b => Z.heap.size ≤ b) W6 { x1 with ra := ao', rc := cc } := own_rvs ho6 (fun i hi => (HX1.out.kv i hi).1)
  have HPt := boxed (put_fresh W6 F cb mb a0 0 0 _ _ { x1 with ra := ao', rc := cc } 77 hca6 (by omega) (P2At.keep hk6 (fun b i u hs hc => ⟨fun c => by have := HFl.out b c; omega, hc⟩)) ⟨HFk.out.tx, HFk.out.rn, HFk.out.L⟩ hcap)
  have HOb := boxed hob6
  have HB6 := boxed hb6
  have HRw : Box (∀ g, ao' = some ⟨g, 0, none⟩ → 0 < x1.rn → Row2 W6 g x1.rn ∧ Z.heap.size ≤ g ∧ g < W6.heap.size) := boxed (fun g e hn => by
    obtain ⟨g', e', h1, h2, h3⟩ := row2_of ho6 hn
    rw [e] at e'
    injection e' with e'
    injection e' with e' _
    subst e'
    exact ⟨h3, h1, h2⟩)
  have HAo : Box (0 < x1.rn → ∃ g, ao' = some ⟨g, 0, none⟩) := boxed (fun hn => by
    obtain ⟨g, e, _⟩ := row2_of ho6 hn
    exact ⟨g, e⟩)
  have HW6 := boxed hW6
  obtain ⟨b0, b1, b2, b3, b4, b5, b6, b7, b8, b9, b10⟩ := cells11 hob6
  have HObl : Box (W0.heap.size ≤ w3.heap.size ∧ w3.heap.size < Z.heap.size ∧ ¬ F w3.heap.size) := boxed ⟨by have := HB3.out.size; omega, by omega, fun c => by have := HFl.out _ c; omega⟩
  unfold Kv.val at HPt
  clear hzZ hown hgrow ho hb5 hob5 hob6 hc6 ho6 hca6 hb6 hk6 hW6 HNil HXa HY HCa HBZ HZh HB3 hcap
  go_upto_region 10 with fail
  rw [HW6.out]
  clear HW6 p1 pf1 g1
  go_wp2_with fail
  refine HPt.out.mono ?_
  rintro r w7 ⟨rfl, F7, e7, Bk7, M7, hc7, hk7, hfr7, hf7, hg7⟩
  have HJ7 : Box ((CaAt w7 F7 cb mb a0 0 0 [e7] Bk7 M7 ∧ w7.heap[w3.heap.size]? = some (.cells #[.string x1.tx, .slice ao' x1.rn cc, .int .i64 x1.ta, .int .i64 x1.wd, .int .i64 x1.s.t, .int .i64 x1.s.l, .int .i64 x1.s.a, .int .i64 x1.s.d, .int .i64 x1.s.z, .int .i64 x1.s.o, .int .i64 x1.s.i] 42 (0, 0)) ∧ Below W0.heap.size W0 w7 ∧ ∀ gg, ao' = some ⟨gg, 0, none⟩ → 0 < x1.rn → Row2 w7 gg x1.rn)) := boxed ⟨hc7, (hg7.block _ (heap_lt HOb.out) HObl.out.2.2).trans HOb.out, HB6.out.trans (hg7.below HB6.out.size HFW.out), fun g e hn => by
    obtain ⟨h1, h2, h3⟩ := HRw.out g e hn
    exact h1.keep (hg7.block _ h3 (fun c => by have := HFl.out _ c; have := HObl.out; omega))⟩
  have HF7 : Box (∀ b, F7 b → W0.heap.size ≤ b) := boxed (fun b hb => by
    rcases hf7 b hb with d | d
    · exact HFW.out b d
    · have := HB6.out.size; omega)
  have HKy : Box (abL [e7] = [(x1.ky, 77)]) := boxed (by simp [abL, hk7.1, hk7.2]; rfl)
  have HG7 : Box (∀ g, ao' = some ⟨g, 0, none⟩ → 0 < x1.rn → (W0.heap.size ≤ g ∧ g ≠ w3.heap.size ∧ ¬ F7 g) ∧ ∀ w8, KvAt (fun b => ¬ F7 b ∧ cb ≤ b) w8 e7.k → KvAt (fun b => ¬ b = g) w8 e7.k) := boxed (fun g e hn => by
    obtain ⟨h1, h2, h3⟩ := HRw.out g e hn
    refine ⟨⟨by have := HObl.out; omega, by have := HObl.out; omega, fun c => ?_⟩, fun w8 h8 => ?_⟩
    · rcases hf7 g c with d | d
      · have := HFl.out _ d; have := HObl.out; omega
      · omega
    · intro i hi
      obtain ⟨i1, b, off, e1, s1, c1, c2⟩ := h8 i hi
      refine ⟨i1, b, off, e1, fun c => ?_, c1, c2⟩
      have := hfr7 b off e1 (by omega)
      omega)
  clear hc7 hk7 hfr7 hf7 hg7 HPt HOb HRw HObl HFl HFW HB6 b0 b1 b2 b3 b4 b5 b6 b7 b8 b9 b10
  go_wp2_with fail
  go_loopw [10] (fun vi wr => ∃ i : Nat, i ≤ x1.rn ∧ vi = .int .i64 (i : Nat) ∧ Box ((CaAt wr F7 cb mb a0 0 0 [e7] Bk7 M7 ∧ wr.heap[w3.heap.size]? = some (.cells #[.string x1.tx, .slice ao' x1.rn cc, .int .i64 x1.ta, .int .i64 x1.wd, .int .i64 x1.s.t, .int .i64 x1.s.l, .int .i64 x1.s.a, .int .i64 x1.s.d, .int .i64 x1.s.z, .int .i64 x1.s.o, .int .i64 x1.s.i] 42 (0, 0)) ∧ Below W0.heap.size W0 wr ∧ ∀ gg, ao' = some ⟨gg, 0, none⟩ → 0 < x1.rn → Row2 wr gg x1.rn))) (fun vi _ => x1.rn - (intOf vi).toNat)
  case atStart => exact ⟨0, Nat.zero_le _, rfl, HJ7⟩
  case round =>
    obtain ⟨i, hin, rfl, HJ⟩ := hrel
    obtain ⟨-, q1, -⟩ := cells11 HJ.out.2.1
    by_cases hlt : i < x1.rn
    · obtain ⟨g, hg⟩ := HAo.out (by omega)
      obtain ⟨off, hoff⟩ : ∃ off, off = 0 := ⟨_, rfl⟩
      have hrow := HJ.out.2.2.2 g hg (by omega)
      obtain ⟨y, hy, hyf⟩ := hrow.get hlt
      have hy' : wr.cell? ⟨g, off + i * 2 + 1, none⟩ = some (.int .i64 y) := by rw [hoff, Nat.zero_add]; exact hy
      have hyf' : wr.frozen? ⟨g, off + i * 2 + 1, none⟩ = false := by rw [hoff, Nat.zero_add]; exact hyf
      obtain ⟨⟨e1, e2, e3⟩, e4⟩ := HG7.out g hg (by omega)
      have HN : Box (∀ (z : Int), (CaAt ((wr.setCell ⟨g, off + i * 2 + 1, none⟩ (.int .i64 z)).drew) F7 cb mb a0 0 0 [e7] Bk7 M7 ∧ ((wr.setCell ⟨g, off + i * 2 + 1, none⟩ (.int .i64 z)).drew).heap[w3.heap.size]? = some (.cells #[.string x1.tx, .slice ao' x1.rn cc, .int .i64 x1.ta, .int .i64 x1.wd, .int .i64 x1.s.t, .int .i64 x1.s.l, .int .i64 x1.s.a, .int .i64 x1.s.d, .int .i64 x1.s.z, .int .i64 x1.s.o, .int .i64 x1.s.i] 42 (0, 0)) ∧ Below W0.heap.size W0 ((wr.setCell ⟨g, off + i * 2 + 1, none⟩ (.int .i64 z)).drew) ∧ ∀ gg, ao' = some ⟨gg, 0, none⟩ → 0 < x1.rn → Row2 ((wr.setCell ⟨g, off + i * 2 + 1, none⟩ (.int .i64 z)).drew) gg x1.rn)) := boxed (fun z => by
        rw [hoff, Nat.zero_add]
        have hch : Chg (fun b => b = g) wr (wr.setCell ⟨g, i * 2 + 1, none⟩ (.int .i64 z)).drew := (Chg.set (D := fun b => b = g) wr g (i * 2 + 1) (.int .i64 z) rfl).trans (Chg.of_below (Below.refl _ _).drew)
        refine ⟨HJ.out.1.other hch (fun b _ hd c => by subst hd; exact e3 c) (fun e he => by
          have he' : e = e7 := by simpa using he
          rw [he']
          exact e4 wr ((HJ.out.1.key e7 (by simp)).1)), (hch.block _ (heap_lt HJ.out.2.1) (fun c => e2 c.symm)).trans HJ.out.2.1, HJ.out.2.2.1.trans (hch.below HJ.out.2.2.1.size (fun b hb => by omega)), fun g' e hn => ?_⟩
        rw [hg] at e
        injection e with e
        injection e with e _
        subst e
        exact (hrow.set i z).keep rfl)
      have hao : ao' = some ⟨g, off, none⟩ := by rw [hg, hoff]
      have hlt3 : (i : Int) < (x1.rn : Int) := by omega
      rw [hao] at q1
      have HAO := boxed hao
      clear hy hyf hrow hoff hg e1 e2 e3 e4 hao
      go_wp2_with fail
      go_region_with (fail)
      all_goals go_wp2_with fail
      all_goals go_roundw
      all_goals first
        | (simp only [intOf]; omega)
        | exact ⟨i + 1, by omega, by go_num, boxed (HN.out _)⟩
    · have hfin : decide ((i : Int) < (x1.rn : Int)) = false := decide_eq_false (by omega)
      have hfin2 : decide (i < x1.rn) = false := decide_eq_false (by omega)
      have hge : (x1.rn : Int) ≤ (i : Int) := by omega
      have HJ2 : Box ((∃ F L Bk M p, CaAt wr F cb mb a0 0 0 L Bk M ∧ abL L = p ++ [(x1.ky, 77)] ∧ p.length ≤ 0 ∧ (∀ b, F b → W0.heap.size ≤ b) ∧ Below W0.heap.size W0 wr)) := boxed ⟨F7, [e7], Bk7, M7, [], HJ.out.1, HKy.out, Nat.le_refl _, HF7.out, HJ.out.2.2.1⟩
      clear HJ HG7 HAo HF7 HKy HJ7
      go_wp2_with fail
      go_loopw [11, 12] (fun vu vi wz => ∃ (u q : Nat), q ≤ n2 ∧ (u : Int) ≤ a0 - 1 ∧ vu = .int .i64 (u : Nat) ∧ vi = .int .i64 (q : Nat) ∧ Box ((∃ F L Bk M p, CaAt wz F cb mb a0 0 0 L Bk M ∧ abL L = p ++ [(x1.ky, 77)] ∧ p.length ≤ u ∧ (∀ b, F b → W0.heap.size ≤ b) ∧ Below W0.heap.size W0 wz))) (fun _ vi _ => n2 - (intOf vi).toNat)
      case atStart => exact ⟨0, 0, Nat.zero_le _, by simp; omega, rfl, rfl, HJ2⟩
      case round =>
        obtain ⟨u, i, hin, hu, rfl, rfl, HJ⟩ := hrel
        clear HJ2
        by_cases hlt : i < n2 ∧ (u : Int) < a0 - 1
        · obtain ⟨hlt1, hlt2⟩ := hlt
          have t1 : decide ((i : Int) < (n2 : Int)) = true := decide_eq_true (by omega)
          have t2 : decide ((u : Int) < a0 - 1) = true := decide_eq_true hlt2
          have hlt3 : (i : Int) < (n2 : Int) := by omega
          obtain ⟨F, L, Bk, M, p, hca, hab, hpl, hFw, hbw⟩ := HJ.out
          obtain ⟨kb, koff, hko⟩ := HO2.out.form (by omega)
          obtain ⟨⟨hyk, hyc⟩, -⟩ := HO2.out i hlt1
          have HYc := boxed (fun W' (hb : Below W0.heap.size W0 W') => KsAt.get (b := kb) (off := koff) (by rw [← hko]; exact HO2.out.below (HB.out W' hb)) hlt1)
          subst hko
          generalize O2 i = y at hyk hyc HYc
          have HX2 : Box (∀ W', Below W0.heap.size W0 W' → W'.cell? ⟨kb, koff + i * 11, none⟩ = some (.string y.tx) ∧ W'.cell? ⟨kb, koff + i * 11 + 1, none⟩ = some (.slice y.ra y.rn y.rc) ∧ W'.cell? ⟨kb, koff + i * 11 + 2, none⟩ = some (.int .i64 y.ta) ∧ W'.cell? ⟨kb, koff + i * 11 + 3, none⟩ = some (.int .i64 y.wd) ∧ W'.cell? ⟨kb, koff + i * 11 + 4, none⟩ = some (.int .i64 y.s.t) ∧ W'.cell? ⟨kb, koff + i * 11 + 5, none⟩ = some (.int .i64 y.s.l) ∧ W'.cell? ⟨kb, koff + i * 11 + 6, none⟩ = some (.int .i64 y.s.a) ∧ W'.cell? ⟨kb, koff + i * 11 + 7, none⟩ = some (.int .i64 y.s.d) ∧ W'.cell? ⟨kb, koff + i * 11 + 8, none⟩ = some (.int .i64 y.s.z) ∧ W'.cell? ⟨kb, koff + i * 11 + 9, none⟩ = some (.int .i64 y.s.o) ∧ W'.cell? ⟨kb, koff + i * 11 + 10, none⟩ = some (.int .i64 y.s.i) ∧ W'.cell? ⟨w.heap.size, 0, none⟩ = some (.string x1.tx) ∧ W'.cell? ⟨w.heap.size, 1, none⟩ = some (.slice x1.ra x1.rn x1.rc) ∧ W'.cell? ⟨w.heap.size, 2, none⟩ = some (.int .i64 x1.ta) ∧ W'.cell? ⟨w.heap.size, 3, none⟩ = some (.int .i64 x1.wd) ∧ W'.cell? ⟨w.heap.size, 4, none⟩ = some (.int .i64 x1.s.t) ∧ W'.cell? ⟨w.heap.size, 5, none⟩ = some (.int .i64 x1.s.l) ∧ W'.cell? ⟨w.heap.size, 6, none⟩ = some (.int .i64 x1.s.a) ∧ W'.cell? ⟨w.heap.size, 7, none⟩ = some (.int .i64 x1.s.d) ∧ W'.cell? ⟨w.heap.size, 8, none⟩ = some (.int .i64 x1.s.z) ∧ W'.cell? ⟨w.heap.size, 9, none⟩ = some (.int .i64 x1.s.o) ∧ W'.cell? ⟨w.heap.size, 10, none⟩ = some (.int .i64 x1.s.i)) := boxed (fun W' hb => by
            obtain ⟨q0, q1, q2, q3, q4, q5, q6, q7, q8, q9, q10⟩ := HYc.out W' hb
            obtain ⟨r0, r1, r2, r3, r4, r5, r6, r7, r8, r9, r10⟩ := cells11 (HK0.out W' hb)
            exact ⟨q0, q1, q2, q3, q4, q5, q6, q7, q8, q9, q10, r0, r1, r2, r3, r4, r5, r6, r7, r8, r9, r10⟩)
          have HFy := boxed (fun W' (hb : Below W0.heap.size W0 W') => fits_any _ y W' (hyk.below (HB.out W' hb)))
          have HYk := boxed hyk
          have HYr := boxed hyc
          have HCa := boxed hca
          have HAb := boxed hab
          have HPl := boxed hpl
          have HFw := boxed hFw
          have HBw := boxed hbw
          obtain ⟨b0, b1, b2, b3, b4, b5, b6, b7, b8, b9, b10⟩ := HYc.out _ hbw
          unfold Kv.val at HFy
          clear hca hab hpl hFw hbw hyk hyc HYc HJ
          go_wp2_with fail
          refine (HFy.out _ HBw.out).mono ?_
          rintro e x2 ⟨rb, rfl, hrb, hb2⟩
          have HBx := boxed (below_step HBw.out (Nat.le_refl _) hb2)
          have HCx := boxed (HCa.out.below hb2)
          have HJx : Box ((∃ F L Bk M p, CaAt x2 F cb mb a0 0 0 L Bk M ∧ abL L = p ++ [(x1.ky, 77)] ∧ p.length ≤ u ∧ (∀ b, F b → W0.heap.size ≤ b) ∧ Below W0.heap.size W0 x2)) := boxed ⟨F, L, Bk, M, p, HCx.out, HAb.out, HPl.out, HFw.out, HBx.out⟩
          obtain _ | _ := rb
          · clear hrb hb2 HFy HX2 HYk HYr HCa HAb HPl HFw HBw HBx HCx b0 b1 b2 b3 b4 b5 b6 b7 b8 b9 b10
            go_wp2_with fail
            go_roundw
            case rel => exact ⟨u, i + 1, by omega, hu, rfl, by go_num, HJx⟩
            case measure => simp [intOf]; omega
          have HFt := boxed (hrb.1 rfl)
          obtain ⟨is, his⟩ : ∃ b : Bool, (b = true ↔ y.ky = x1.ky) := by
            by_cases c : y.ky = x1.ky
            · exact ⟨true, by simp [c]⟩
            · exact ⟨false, by simp [c]⟩
          have HRA : Box (∀ W, Below W0.heap.size W0 W → Calls Try.prog 14 #[y.val, x1.val] W fun e w' => e = .returned (.bool is) ∧ Below W.heap.size W w') := boxed (fun W hb => (refalike_any y x1 W (HYk.out.below (HB.out W hb)) (HX1.out.kv.below (HB.out W hb)) HFt.out HFk.out).mono fun e w' ⟨r, he, hr, hb'⟩ => ⟨by rw [he, Bool.eq_iff_iff.2 (hr.trans his.symm)], hb'⟩)
          have HR0 := boxed (fun W => refk_any y W)
          have HR1 := boxed (fun W => refk_any x1 W)
          have HIs := boxed his
          obtain ⟨q0, q1, q2, q3, q4, q5, q6, q7, q8, q9, q10, r0, r1, r2, r3, r4, r5, r6, r7, r8, r9, r10⟩ := HX2.out _ HBx.out
          have HBc : Box (∀ d os, Below W0.heap.size W0 (Go.Sort.grow (redrawn x2 d) os)) := boxed (fun d os => below_step HBx.out (Nat.le_refl _) (below_regrown x2 d os))
          have HCc : Box (∀ d os, CaAt (Go.Sort.grow (redrawn x2 d) os) F cb mb a0 0 0 L Bk M) := boxed (fun d os => HCx.out.below (below_regrown x2 d os))
          have CR0 := boxed (fun d os => Calls.regrown_of (w := x2) (d := d) (os := os) (HR0.out _))
          have CR1 := boxed (fun d os => Calls.regrown_of (w := x2) (d := d) (os := os) (HR1.out _))
          have CRA := boxed (fun d os => Calls.regrown_of (w := x2) (d := d) (os := os) (HRA.out _ (HBc.out d os)))
          have vq0 := cell_regrown q0
          have vq1 := cell_regrown q1
          have vq2 := cell_regrown q2
          have vq3 := cell_regrown q3
          have vq4 := cell_regrown q4
          have vq5 := cell_regrown q5
          have vq6 := cell_regrown q6
          have vq7 := cell_regrown q7
          have vq8 := cell_regrown q8
          have vq9 := cell_regrown q9
          have vq10 := cell_regrown q10
          have vr0 := cell_regrown r0
          have vr1 := cell_regrown r1
          have vr2 := cell_regrown r2
          have vr3 := cell_regrown r3
          have vr4 := cell_regrown r4
          have vr5 := cell_regrown r5
          have vr6 := cell_regrown r6
          have vr7 := cell_regrown r7
          have vr8 := cell_regrown r8
          have vr9 := cell_regrown r9
          have vr10 := cell_regrown r10
          unfold Kv.val at CRA CR0 CR1
          clear hrb hb2 HFy HCa HBw HBx HCx b0 b1 b2 b3 b4 b5 b6 b7 b8 b9 b10 his HJx HRA HR0 HR1 q0 q1 q2 q3 q4 q5 q6 q7 q8 q9 q10 r0 r1 r2 r3 r4 r5 r6 r7 r8 r9 r10
          go_wp2_with fail
          refine wp_region_quiet_below (by kernel_rfl) (by kernel_rfl) ?_
          repeat (go_big_quiet_step (first | (with_reducible exact CR0.out _ _) | (with_reducible exact CR1.out _ _) | (with_reducible exact CRA.out _ _)))
          refine wpQuiet_nil ?_
          intro _ hw'
          obtain ⟨⟨dq, osq⟩, hw''⟩ := hw'
          subst hw''
          replace HBc := boxed (HBc.out dq osq)
          replace HCc := boxed (HCc.out dq osq)
          clear CR0 CR1 CRA vq0 vq1 vq2 vq3 vq4 vq5 vq6 vq7 vq8 vq9 vq10 vr0 vr1 vr2 vr3 vr4 vr5 vr6 vr7 vr8 vr9 vr10
          generalize Go.Sort.grow (redrawn x2 dq) osq = w9 at *
          obtain _ | _ := is
          · obtain ⟨b0, b1, b2, b3, b4, b5, b6, b7, b8, b9, b10, -⟩ := HX2.out _ HBc.out
            have hne : y.ky ≠ x1.ky := fun c => by have := HIs.out.2 c; cases this
            have HNe := boxed hne
            have HPt := boxed (put_any _ F cb mb _ _ _ L _ _ y (i : Int) HCc.out (HYk.out.outer (HB.out _ HBc.out) (fun b hb => by have := HFw.out b hb; omega)) HFt.out HYr.out)
            unfold Kv.val at HPt
            clear HX2 HIs hne
            go_wp2_with fail
            refine HPt.out.mono ?_
            rintro r x4 ⟨rfl, F4, L4, Bk4, M4, hc4, hp4, hf4, hg4⟩
            have HJ4 : Box ((∃ F L Bk M p, CaAt x4 F cb mb a0 0 0 L Bk M ∧ abL L = p ++ [(x1.ky, 77)] ∧ p.length ≤ (u + 1) ∧ (∀ b, F b → W0.heap.size ≤ b) ∧ Below W0.heap.size W0 x4)) := boxed (by
              have hnd := HCc.out.nodup
              rw [HAb.out] at hp4 hnd
              obtain ⟨p', h1, h2⟩ := keep_put hnd HPl.out (by omega) HNe.out hp4
              refine ⟨F4, L4, Bk4, M4, p', hc4, h1, h2, fun b hb => ?_, HBc.out.trans (hg4.below HBc.out.size HFw.out)⟩
              rcases hf4 b hb with d | d
              · exact HFw.out b d
              · have := HBc.out.size; omega)
            clear hc4 hp4 hf4 hg4 HPt HCc HBc HAb HPl HFw HYk HYr HFt HNe b0 b1 b2 b3 b4 b5 b6 b7 b8 b9 b10
            go_wp2_with fail
            go_roundw
            case rel => exact ⟨u + 1, i + 1, by omega, by omega, by go_num, by go_num, HJ4⟩
            case measure => simp [intOf]; omega
          · have HJ4 : Box ((∃ F L Bk M p, CaAt w9 F cb mb a0 0 0 L Bk M ∧ abL L = p ++ [(x1.ky, 77)] ∧ p.length ≤ u ∧ (∀ b, F b → W0.heap.size ≤ b) ∧ Below W0.heap.size W0 w9)) := boxed ⟨F, L, Bk, M, p, HCc.out, HAb.out, HPl.out, HFw.out, HBc.out⟩
            clear HX2 HIs HCc HBc HAb HPl HFw HYk HYr HFt
            go_wp2_with fail
            go_roundw
            case rel => exact ⟨u, i + 1, by omega, hu, rfl, by go_num, HJ4⟩
            case measure => simp [intOf]; omega
        · obtain ⟨F, L, Bk, M, p, hca, hab, hpl, hFw, hbw⟩ := HJ.out
          obtain ⟨b0, b1, b2, b3, b4, b5, b6, b7, b8, b9, b10⟩ := cells11 (HK0.out _ hbw)
          have HG := boxed (get_hit (k := x1) (v := 77) hca (HX1.out.kv.below (HB.out _ hbw)) HFk.out HX1.out.rn.2 (by omega) (by omega) (by rw [hab]; simp))
          have hlen := hca.len
          have HLn := boxed hlen
          have HBw := boxed hbw
          have HFw := boxed hFw
          unfold Kv.val at HG
          have HEND : Box (∀ (x5 : World) (r5 : Ending), True → True) := boxed (fun _ _ _ => trivial)
          clear hca hab hpl hFw hbw HJ hlen HEND
          by_cases hi : i < n2
          · have t1 : decide ((i : Int) < (n2 : Int)) = true := decide_eq_true (by omega)
            have t2 : decide ((u : Int) < a0 - 1) = false := decide_eq_false (by omega)
            clear hlt
            go_wp2_with fail
            refine HG.out.mono ?_
            rintro r x5 ⟨rfl, L5, hc5, hl5, hg5⟩
            have HC5 := boxed hc5
            have hl6 : ((L5.length : Nat) : Int) ≤ a0 := by rw [hl5]; exact HLn.out
            have HE := boxed (HB.out _ (HBw.out.trans (hg5.below HBw.out.size HFw.out)))
            clear hc5 hl5 hg5 HG HLn HBw HFw b0 b1 b2 b3 b4 b5 b6 b7 b8 b9 b10
            go_wp2_with fail
            refine (len_any HC5.out).mono ?_
            rintro r x6 ⟨rfl, rfl⟩
            generalize L5.length = m5 at *
            have t5 : decide ((m5 : Int) ≤ a0) = true := decide_eq_true hl6
            clear HC5 hl6
            go_wp2
            go_ret
            exact ⟨rfl, HE.out⟩
          · have t1 : decide ((i : Int) < (n2 : Int)) = false := decide_eq_false (by omega)
            clear hlt
            go_wp2_with fail
            refine HG.out.mono ?_
            rintro r x5 ⟨rfl, L5, hc5, hl5, hg5⟩
            have HC5 := boxed hc5
            have hl6 : ((L5.length : Nat) : Int) ≤ a0 := by rw [hl5]; exact HLn.out
            have HE := boxed (HB.out _ (HBw.out.trans (hg5.below HBw.out.size HFw.out)))
            clear hc5 hl5 hg5 HG HLn HBw HFw b0 b1 b2 b3 b4 b5 b6 b7 b8 b9 b10
            go_wp2_with fail
            refine (len_any HC5.out).mono ?_
            rintro r x6 ⟨rfl, rfl⟩
            generalize L5.length = m5 at *
            have t5 : decide ((m5 : Int) ≤ a0) = true := decide_eq_true hl6
            clear HC5 hl6
            go_wp2
            go_ret
            exact ⟨rfl, HE.out⟩

set_option maxRecDepth 100000 in
theorem lifted (os : Os) (started : os.Started) (H : Type) (enc : TypeId × Value → H) :
    ReturnsInHanded {} Try.checked os 6 .any (Rows.cacheKeepsSpec.pre6 enc Try.prog Try.f6 Rows.cacheKeepsRow.domain false) (Rows.cacheKeepsSpec.post enc Try.prog Try.f6 false true false false) := by
  refine returnsInHanded_of_change_sized (C := Try.checked) own started (by kernel_rfl) Try.func6
    (ChangeSpec.witness6 (enc := enc) (C := Try.checked) false ⟨#[], #[.int .i64 0, .agg #[.string ByteArray.empty, .slice none 0 0, .int .i64 0, .int .i64 0, .int .i64 0, .int .i64 0, .int .i64 0, .int .i64 0, .int .i64 0, .int .i64 0, .int .i64 0], .slice none 0 0], []⟩ 8 (by kernel_rfl) (by kernel_rfl) (by kernel_rfl) (by kernel_rfl)) ?_
  intro W base args ds gs before hval0 hW hcnd hsz0 _
  have hval : ∀ (j : Nat) t v, Try.f6.params[j]? = some t → args[j]? = some v → Value.okWide Try.prog W .any base t v := hval0
  have hsz : (DataW.weightsEach Try.prog (Try.f6.params.toList ++ Rows.cacheKeepsSpec.plain.varTypes Try.prog) (ds ++ gs)).all (· ≤ reachBytes) = true := hsz0
  have hW' := hW
  obtain ⟨p, q, hA0, hV, rfl, hfz, hnd⟩ := hW
  have hA : DataW.TrodAll enc Try.prog W 0 (fun _ => true) true Try.f6.params.toList args.toList ds p := hA0
  rw [Try.params6] at hA hval hsz
  obtain ⟨v0, vs0, d0, ds0, p0, q0, hargs, rfl, rfl, h0, r0⟩ := trodAll_cons hA
  obtain ⟨v1, vs1, d1, ds1, p1, q1, rfl, rfl, rfl, h1, r1⟩ := trodAll_cons r0
  obtain ⟨v2, vs2, d2, ds2, p2, q2, rfl, rfl, rfl, h2, r2⟩ := trodAll_cons r1
  obtain ⟨rfl, rfl, rfl⟩ := trodAll_nil r2
  obtain rfl : args = #[v0, v1, v2] := by cases args; simp_all
  obtain ⟨rfl, rfl⟩ := trodVars_none hV
  obtain ⟨a0, rfl, rfl, rfl, w0⟩ := open_int Try.underlying3 (hval 0 3 v0 rfl rfl) h0
  have k1 := h1
  have lt1 : ∀ x ∈ p1, x.block < W.heap.size := by obtain ⟨m, hm⟩ := k1; exact DataW.trod_lt m _ _ _ hm
  obtain ⟨x1, rfl, hx1⟩ : ∃ x : Kv, v1 = x.val ∧ KvIs W x := by
    obtain ⟨fuel, hf⟩ := k1
    exact key_value hf
  obtain ⟨ao2, n2, cap2, rfl⟩ := okWide_slice Try.underlying30 (hval 2 30 v2 rfl rfl)
  have k2 := h2
  have lt2 : ∀ x ∈ p2, x.block < W.heap.size := by obtain ⟨m, hm⟩ := k2; exact DataW.trod_lt m _ _ _ hm
  obtain ⟨hn2, O2, hO2⟩ : n2 ≤ maxLen ∧ ∃ O, KsAt W ao2 n2 O := by
    obtain ⟨fuel, hf⟩ := k2
    exact open_keys hf
  clear hA0 hval0
  refine (walk W a0 w0 x1 hx1 ao2 n2 cap2 O2 hn2 hO2).mono fun e W' ⟨he, hg⟩ => ?_
  subst he
  exact ⟨_, rfl, _, _, _, [], _, [], hW', trodAll_mk1 (shut_bool Try.underlying4 _), (trodAll_cons_mk (shut_int Try.underlying3 w0) (trodAll_cons_mk (Below.trod laidOut (by kernel_rfl) (of_decide_eq_true (by kernel_rfl)) k1 hg lt1) (trodAll_cons_mk (Below.trod laidOut (by kernel_rfl) (of_decide_eq_true (by kernel_rfl)) k2 hg lt2) trodAll_mk0))), rfl, hg.frame _, fun h => by cases h⟩

theorem proved : Rows.CacheKeepsSaid :=
  OpenClaim.holds_of_wide 6 Try.f6 rfl rfl rfl rfl rfl rfl rfl ⟨rfl, rfl, rfl, rfl, rfl⟩ rfl rfl rfl rfl rfl (by kernel_rfl) Try.func6 (by kernel_rfl)
    (of_decide_eq_true (by kernel_rfl)) (by unfold Func.isWrapper; first | (rw [if_pos (by decide +kernel)]; kernel_rfl) | (rw [if_neg (by decide +kernel)]; exact ⟨rfl, rfl⟩))
    (fun os started H enc _ => lifted os started H enc)
#print axioms proved
end Go.Proofs.Ytmnnmnggakbipaa.cacheKeeps
