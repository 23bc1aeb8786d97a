/-
  Whether regions can be done: allGone, and how many pages stay (staying).
-/
import Derived.Test.YtoodhpgaikmalaaBu
namespace Go.Proofs.Ytoodhpgaikmalaa
open Go.RowKit
set_option linter.unusedSimpArgs false
set_option linter.unusedVariables false

theorem alg_step (s : List (List Key)) (t : List Rg) (f : Int) (k : Nat) (x : List Key) (r : Rg) (hx : s[k]? = some x) (hr : t[k]? = some r) : alg (s.drop k) f (t.drop k) = (gon x f r && alg (s.drop (k + 1)) (f + 1) (t.drop (k + 1))) := by
  have h1 : s.drop k = x :: s.drop (k + 1) := by
    have hl := (List.getElem?_eq_some_iff.1 hx).1
    rw [List.drop_eq_getElem_cons hl, (List.getElem?_eq_some_iff.1 hx).2]
  have h2 : t.drop k = r :: t.drop (k + 1) := by
    have hl := (List.getElem?_eq_some_iff.1 hr).1
    rw [List.drop_eq_getElem_cons hl, (List.getElem?_eq_some_iff.1 hr).2]
  rw [h1, h2]
  rfl
set_option maxRecDepth 100000 in
set_option maxHeartbeats 8000000 in
theorem gone_any (S S' : Nat → Prop) (ao bo : Option Addr) (s : List (List Key)) (f : Nat) (t : List Rg) (ca cb : Nat) (w : World) (h1 : PsAt S w ao s) (h2 : RgAt S' w bo t) (hn : s.length ≤ 1000) (hf : f ≤ 1000) :
    Calls Try.prog 32 #[.slice ao s.length ca, .int .i64 (f : Nat), .slice bo t.length cb] w fun e w' => e = .returned (.bool (alg s f t)) ∧ Below w.heap.size w w' := by
  by_cases hl : t.length = s.length
  · have HPs := boxed (fun i (hi : i < s.length) => (⟨_, List.getElem?_eq_getElem hi⟩ : ∃ ks, s[i]? = some ks))
    have HRs := boxed (fun i (hi : i < s.length) => (⟨_, List.getElem?_eq_getElem (by rw [hl]; exact hi)⟩ : ∃ r, t[i]? = some r))
    have HE : Box (alg (s.drop s.length) ((f : Int) + (s.length : Nat)) (t.drop s.length) = true) := boxed (by
      rw [List.drop_length, ← hl, List.drop_length]; rfl)
    have HS := boxed (fun g k x r hx hr => alg_step s t g k x r hx hr)
    have H0 : Box (alg (s.drop 0) ((f : Int) + (0 : Nat)) (t.drop 0) = alg s f t) := boxed (by simp)
    rw [hl]
    have HH1 := boxed h1
    have HH2 := boxed h2
    obtain ⟨n, hkn⟩ : ∃ n, s.length = n := ⟨_, rfl⟩
    obtain ⟨V, hV⟩ : ∃ V, alg s f t = V := ⟨_, rfl⟩
    rw [hkn] at hn HPs HRs HE ⊢
    rw [hV] at H0 ⊢
    clear hl hkn hV h1 h2
    have tn : ((n : Int) != (n : Int)) = false := by simp
    go_enter Try.func32, Try.ntmps32
    go_wp2_with fail
    clear tn
    go_loopw [17] (fun iv wr => ∃ k : Nat, k ≤ n ∧ iv = .int .i64 (k : Nat) ∧ Box (alg (s.drop k) ((f : Int) + (k : Nat)) (t.drop k) = V) ∧ Box (Below w.heap.size w wr)) (fun iv _ => n - (intOf iv).toNat)
    case atStart => exact ⟨0, Nat.zero_le _, rfl, H0, boxed (Below.refl _ _)⟩
    case round =>
      obtain ⟨k, hk, rfl, HA, HB⟩ := hrel
      by_cases hlt : k < n
      · obtain ⟨x, ex⟩ := HPs.out k hlt
        obtain ⟨r, er⟩ := HRs.out k hlt
        obtain ⟨b, off, xa, xc, rfl, -, d0, -, -⟩ := (HH1.out.below HB.out) k x ex
        obtain ⟨-, b', off', la, lc, rfl, -, ⟨r0, r1, r2, r3, r4⟩, -, -⟩ := (HH2.out.below HB.out) k r er
        have hst := HS.out ((f : Int) + (k : Nat)) k x r ex er
        rw [HA.out] at hst
        have HST := boxed hst
        have HG : Box (gon x ((f : Int) + (k : Nat)) r = (r.kd == 3 && r.pg == (f : Int) + (k : Int) && r.fr == 0 && r.od == (x.length : Int) && r.ls.length == 0)) := boxed rfl
        have t0 : decide ((k : Int) < (n : Int)) = true := decide_eq_true (by omega)
        have hlt2 : (k : Int) < (n : Int) := by omega
        have hwf : wrap64 ((f : Int) + (k : Int)) = (f : Int) + (k : Int) := by unfold wrap64; omega
        obtain ⟨wc, hwc, hBc, -, hC⟩ := box_region wr r la lc
        obtain ⟨c0, c1, c2, c3, c4⟩ := hC wc (Below.refl _ _)
        have HWC := boxed hwc
        have HBc := boxed (below_step HB.out (Nat.le_refl _) hBc)
        have d1 := hold hBc d0
        have HCq := boxed (fun W (hb : Below wc.heap.size wc W) => (And.intro (hC W hb) (hold hb d1)))
        clear hwc hBc hC hst ex er HA
        obtain ⟨pg, kd, fr, od, ls⟩ := r
        simp only at r0 r1 r2 r3 r4 c0 c1 c2 c3 c4 HG HWC HCq
        generalize ls.length = L at *
        generalize x.length = X at *
        go_upto_region 6 with (fail)
        rw [HWC.out]
        cases ta : (kd == 3) with
        | false =>
          have hv : V = false := by rw [HST.out, HG.out, ta]; simp
          have hun : undef = Value.tuple #[] := rfl
          go_wp2_with fail
          clear c0 c1 c2 c3 c4 r0 r1 r2 r3 r4 d0 d1
          obtain ⟨⟨c0, c1, c2, c3, c4⟩, d1⟩ := HCq.out _ (Below.refl _ wc)
          go_quiet (fail)
          have HF := boxed (HBc.out.trans (bel_drewN _ wc nq))
          go_wp2_with fail
          go_ret
          exact ⟨(by first | rfl | exact ret_bool hv.symm), HF.out⟩
        | true =>
          cases tb : (pg == (f : Int) + (k : Int)) with
          | false =>
            have hv : V = false := by rw [HST.out, HG.out, ta, tb]; simp
            have hun : undef = Value.tuple #[] := rfl
            go_wp2_with fail
            clear c0 c1 c2 c3 c4 r0 r1 r2 r3 r4 d0 d1
            obtain ⟨⟨c0, c1, c2, c3, c4⟩, d1⟩ := HCq.out _ (Below.refl _ wc)
            go_quiet (fail)
            have HF := boxed (HBc.out.trans (bel_drewN _ wc nq))
            go_wp2_with fail
            go_ret
            exact ⟨(by first | rfl | exact ret_bool hv.symm), HF.out⟩
          | true =>
            cases tc : (fr == 0) with
            | false =>
              have hv : V = false := by rw [HST.out, HG.out, ta, tb, tc]; simp
              have hun : undef = Value.tuple #[] := rfl
              go_wp2_with fail
              clear c0 c1 c2 c3 c4 r0 r1 r2 r3 r4 d0 d1
              obtain ⟨⟨c0, c1, c2, c3, c4⟩, d1⟩ := HCq.out _ (Below.refl _ wc)
              go_quiet (fail)
              have HF := boxed (HBc.out.trans (bel_drewN _ wc nq))
              go_wp2_with fail
              go_ret
              exact ⟨(by first | rfl | exact ret_bool hv.symm), HF.out⟩
            | true =>
              cases td : (od == (X : Int)) with
              | false =>
                have td2 : (od != (X : Int)) = true := by simpa [bne] using td
                have hv : V = false := by rw [HST.out, HG.out, ta, tb, tc, td]; simp
                have hun : undef = Value.tuple #[] := rfl
                go_wp2_with fail
                clear c0 c1 c2 c3 c4 r0 r1 r2 r3 r4 d0 d1
                obtain ⟨⟨c0, c1, c2, c3, c4⟩, d1⟩ := HCq.out _ (Below.refl _ wc)
                go_quiet (fail)
                have HF := boxed (HBc.out.trans (bel_drewN _ wc nq))
                go_wp2_with fail
                go_ret
                exact ⟨(by first | rfl | exact ret_bool hv.symm), HF.out⟩
              | true =>
                have td2 : (od != (X : Int)) = false := by simpa [bne] using td
                cases te : (L == 0) with
                | false =>
                  have te2 : ((L : Int) != 0) = true := by rw [bne_iff_ne]; simp at te; omega
                  have hv : V = false := by rw [HST.out, HG.out, ta, tb, tc, td, te]; simp
                  have hun : undef = Value.tuple #[] := rfl
                  go_wp2_with fail
                  clear c0 c1 c2 c3 c4 r0 r1 r2 r3 r4 d0 d1
                  obtain ⟨⟨c0, c1, c2, c3, c4⟩, d1⟩ := HCq.out _ (Below.refl _ wc)
                  go_quiet (fail)
                  have HF := boxed (HBc.out.trans (bel_drewN _ wc nq))
                  go_wp2_with fail
                  go_ret
                  exact ⟨(by first | rfl | exact ret_bool hv.symm), HF.out⟩
                | true =>
                  have te2 : ((L : Int) != 0) = false := by rw [bne_eq_false_iff_eq]; simp at te; omega
                  have hv : alg (s.drop (k + 1)) ((f : Int) + ((k + 1 : Nat) : Int)) (t.drop (k + 1)) = V := by
                    rw [HST.out, HG.out, ta, tb, tc, td, te, show (f : Int) + ((k + 1 : Nat) : Int) = (f : Int) + (k : Int) + 1 by omega]; simp
                  have HVn := boxed hv
                  clear hv
                  go_wp2_with fail
                  clear c0 c1 c2 c3 c4 r0 r1 r2 r3 r4 d0 d1
                  obtain ⟨⟨c0, c1, c2, c3, c4⟩, d1⟩ := HCq.out _ (Below.refl _ wc)
                  go_quiet (fail)
                  have HF := boxed (HBc.out.trans (bel_drewN _ wc nq))
                  go_wp2_with fail
                  go_roundw
                  case rel => exact ⟨k + 1, by omega, by go_num, HVn, HF⟩
                  case measure => simp [intOf]; omega
      · obtain rfl : k = n := by omega
        have hv : V = true := by rw [← HA.out]; exact HE.out
        have t0 : decide ((k : Int) < (k : Int)) = false := decide_eq_false (by omega)
        go_wp2_with fail
        go_ret
        exact ⟨(by first | rfl | exact ret_bool hv.symm), HB.out⟩
  · have t1 : ((t.length : Int) != (s.length : Int)) = true := by rw [bne_iff_ne]; omega
    have t2 : (t.length != s.length) = true := by rw [bne_iff_ne]; omega
    have hv : alg s f t = false := by
      cases c : alg s f t with
      | false => rfl
      | true => exact absurd (alg_len _ _ _ c) hl
    generalize alg s f t = V at *
    generalize s.length = n at *
    generalize t.length = m at *
    clear h1 h2 hl
    go_enter Try.func32, Try.ntmps32
    go_wp2_with fail
    go_ret
    exact ⟨(by first | rfl | exact ret_bool hv.symm), Below.refl _ _⟩
end Go.Proofs.Ytoodhpgaikmalaa
