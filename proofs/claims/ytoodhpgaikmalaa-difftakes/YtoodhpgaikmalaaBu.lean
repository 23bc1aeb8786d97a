/-
  Whether regions can be done: what changes and adds tell.
-/
import Derived.Test.YtoodhpgaikmalaaBt
namespace Go.Proofs.Ytoodhpgaikmalaa
open Go.RowKit
set_option linter.unusedSimpArgs false
set_option linter.unusedVariables false

/-- A region as a value. -/
def rgv (r : Rg) (la : Option Addr) (lc : Nat) : Value := .agg #[.int .i64 r.pg, .int .i64 r.kd, .int .i64 r.fr, .int .i64 r.od, .slice la r.ls.length lc]
theorem box_region (w : World) (r : Rg) (la : Option Addr) (lc : Nat) : ∃ wc, w.alloc (.cells #[.int .i64 r.pg, .int .i64 r.kd, .int .i64 r.fr, .int .i64 r.od, .slice la r.ls.length lc] 39) = wc ∧ Below w.heap.size w wc ∧ w.heap.size < wc.heap.size ∧ ∀ W, Below wc.heap.size wc W → W.cell? ⟨w.heap.size, 0, none⟩ = some (.int .i64 r.pg) ∧ W.cell? ⟨w.heap.size, 1, none⟩ = some (.int .i64 r.kd) ∧ W.cell? ⟨w.heap.size, 2, none⟩ = some (.int .i64 r.fr) ∧ W.cell? ⟨w.heap.size, 3, none⟩ = some (.int .i64 r.od) ∧ W.cell? ⟨w.heap.size, 4, none⟩ = some (.slice la r.ls.length lc) := by
  have l1 := laid1 w (.cells #[.int .i64 r.pg, .int .i64 r.kd, .int .i64 r.fr, .int .i64 r.od, .slice la r.ls.length lc] 39)
  exact ⟨_, rfl, l1.2.1, by omega, fun W hb => (cells5 ((hb.block _ (by omega)).trans l1.1)).1⟩
set_option maxRecDepth 100000 in
set_option maxHeartbeats 8000000 in
theorem adds_any (r : Rg) (la : Option Addr) (lc : Nat) (next : Int) (w : World) :
    Calls Try.prog 31 #[rgv r la lc, .int .i64 next] w fun e w' => e = .returned (.bool (add r next)) ∧ Below w.heap.size w w' := by
  obtain ⟨wc, hwc, hB, -, hC⟩ := box_region w r la lc
  obtain ⟨c0, c1, c2, c3, c4⟩ := hC wc (Below.refl _ _)
  have HV : Box (add r next = (r.kd == 2 && r.pg == next && r.fr == 0 && r.od == 0)) := boxed rfl
  have HB := boxed hB
  obtain ⟨V, hV⟩ : ∃ V, add r next = V := ⟨_, rfl⟩
  rw [hV] at HV ⊢
  clear hV hC hB
  unfold rgv
  obtain ⟨pg, kd, fr, od, ls⟩ := r
  simp only at *
  have HWC := boxed hwc
  clear hwc
  generalize ls.length = L at *
  cases t1 : (kd == 2) with
  | false =>
    have hv : V = false := by rw [HV.out, t1]; rfl
    have hun : undef = Value.tuple #[] := rfl
    go_enter Try.func31, Try.ntmps31
    go_upto_region 1 with (fail)
    rw [HWC.out]
    go_wp2_with fail
    go_ret
    exact ⟨(by first | rfl | exact ret_bool hv.symm), HB.out⟩
  | true =>
    cases t2 : (pg == next) with
    | false =>
      have hv : V = false := by rw [HV.out, t1, t2]; rfl
      have hun : undef = Value.tuple #[] := rfl
      go_enter Try.func31, Try.ntmps31
      go_upto_region 1 with (fail)
      rw [HWC.out]
      go_wp2_with fail
      go_ret
      exact ⟨(by first | rfl | exact ret_bool hv.symm), HB.out⟩
    | true =>
      cases t3 : (fr == 0) with
      | false =>
        have hv : V = false := by rw [HV.out, t1, t2, t3]; rfl
        have hun : undef = Value.tuple #[] := rfl
        go_enter Try.func31, Try.ntmps31
        go_upto_region 1 with (fail)
        rw [HWC.out]
        go_wp2_with fail
        go_ret
        exact ⟨(by first | rfl | exact ret_bool hv.symm), HB.out⟩
      | true =>
        have hv : V = (od == 0) := by rw [HV.out, t1, t2, t3]; rfl
        have HV2 := boxed hv
        clear hv HV
        go_enter Try.func31, Try.ntmps31
        go_upto_region 1 with (fail)
        rw [HWC.out]
        go_wp2_with fail
        go_ret
        exact ⟨(by first | rfl | exact ret_bool HV2.out.symm), HB.out⟩
set_option maxRecDepth 100000 in
set_option maxHeartbeats 8000000 in
theorem changes_any (S : Nat → Prop) (ao : Option Addr) (ps : List (List Key)) (cap : Nat) (r : Rg) (la : Option Addr) (lc : Nat) (w : World) (h : PsAt S w ao ps) (hn : ps.length ≤ 1000) (hm : ∀ (i : Nat) (ks : List Key), ps[i]? = some ks → ks.length ≤ 1000) (h0 : 0 ≤ r.pg) (hok : RgOk r) :
    Calls Try.prog 30 #[rgv r la lc, .slice ao ps.length cap] w fun e w' => e = .returned (.bool (chg ps r)) ∧ Below w.heap.size w w' := by
  obtain ⟨wc, hwc, hB, -, hC⟩ := box_region w r la lc
  obtain ⟨c0, c1, c2, c3, c4⟩ := hC wc (Below.refl _ _)
  have HV : Box (chg ps r = (r.kd == 1 && decide (r.pg < ps.length) && decide (0 ≤ r.fr) && decide (0 ≤ r.od) && decide (r.od ≤ ((ps.getD r.pg.toNat []).length : Int) - r.fr))) := boxed rfl
  have HB := boxed hB
  have HH := boxed (h.below hB)
  have HPs := boxed (fun i (hi : i < ps.length) => (⟨_, List.getElem?_eq_getElem hi⟩ : ∃ ks, ps[i]? = some ks))
  obtain ⟨V, hV⟩ : ∃ V, chg ps r = V := ⟨_, rfl⟩
  rw [hV] at HV ⊢
  obtain ⟨n, hkn⟩ : ∃ n, ps.length = n := ⟨_, rfl⟩
  rw [hkn] at HV HPs hn ⊢
  have HM := boxed hm
  obtain ⟨-, -, hfr, -⟩ := hok
  clear hV hC hB h hm hkn
  unfold rgv
  obtain ⟨pg, kd, fr, od, ls⟩ := r
  simp only at *
  have HWC := boxed hwc
  clear hwc
  generalize ls.length = L at *
  by_cases k1 : kd = 1
  rotate_left
  · have t1 : (kd != 1) = true := by rw [bne_iff_ne]; exact k1
    have hv : V = false := by rw [HV.out, show (kd == 1) = false by rw [beq_eq_false_iff_ne]; exact k1]; rfl
    have hun : undef = Value.tuple #[] := rfl
    clear k1
    go_enter Try.func30, Try.ntmps30
    go_upto_region 1 with (fail)
    rw [HWC.out]
    go_wp2_with fail
    go_ret
    exact ⟨(by first | rfl | exact ret_bool hv.symm), HB.out⟩
  have t1 : (kd != 1) = false := by rw [bne_eq_false_iff_eq]; exact k1
  by_cases k2 : pg < n
  rotate_left
  · have t2 : decide ((n : Int) ≤ pg) = true := decide_eq_true (by omega)
    have hv : V = false := by rw [HV.out, decide_eq_false k2]; simp
    clear k1 k2
    go_enter Try.func30, Try.ntmps30
    go_upto_region 1 with (fail)
    rw [HWC.out]
    go_wp2_with fail
    go_ret
    exact ⟨(by first | rfl | exact ret_bool hv.symm), HB.out⟩
  have t2 : decide ((n : Int) ≤ pg) = false := decide_eq_false (by omega)
  obtain ⟨p, rfl⟩ : ∃ p : Nat, pg = p := ⟨pg.toNat, by omega⟩
  have hp : p < n := by omega
  obtain ⟨x, ex⟩ := HPs.out p hp
  obtain ⟨b, off, xa, xc, rfl, -, d0, -, -⟩ := HH.out p x ex
  have hxl := HM.out p x ex
  have HV2 : Box (V = (decide (0 ≤ fr) && decide (0 ≤ od) && decide (od ≤ (x.length : Int) - fr))) := boxed (by
    rw [HV.out, k1, decide_eq_true k2, Int.toNat_natCast, List.getD_eq_getElem?_getD, ex]; simp)
  clear HV ex k1 HH HM
  generalize x.length = X at *
  by_cases k3 : 0 ≤ fr
  rotate_left
  · have t3 : decide ((0 : Int) ≤ fr) = false := decide_eq_false k3
    have hv : V = false := by rw [HV2.out, t3]; rfl
    have hun : undef = Value.tuple #[] := rfl
    clear k3 k2 HV2
    go_enter Try.func30, Try.ntmps30
    go_upto_region 1 with (fail)
    rw [HWC.out]
    go_wp2_with fail
    go_ret
    exact ⟨(by first | rfl | exact ret_bool hv.symm), HB.out⟩
  have t3 : decide ((0 : Int) ≤ fr) = true := decide_eq_true k3
  cases t4 : decide ((0 : Int) ≤ od) with
  | false =>
    have hv : V = false := by rw [HV2.out, t3, t4]; rfl
    have hun : undef = Value.tuple #[] := rfl
    clear k3 k2 HV2
    go_enter Try.func30, Try.ntmps30
    go_upto_region 1 with (fail)
    rw [HWC.out]
    go_wp2_with fail
    go_ret
    exact ⟨(by first | rfl | exact ret_bool hv.symm), HB.out⟩
  | true =>
    have hv : V = decide (od ≤ (X : Int) - fr) := by rw [HV2.out, t3, t4]; simp
    have hw1 : wrap64 ((X : Int) - fr) = (X : Int) - fr := by have := hfr.2; unfold wrap64; omega
    have HV3 := boxed hv
    clear k3 k2 HV2 hv hfr
    go_enter Try.func30, Try.ntmps30
    go_upto_region 1 with (fail)
    rw [HWC.out]
    go_wp2_with fail
    go_ret
    exact ⟨(by first | rfl | exact ret_bool HV3.out.symm), HB.out⟩
end Go.Proofs.Ytoodhpgaikmalaa
