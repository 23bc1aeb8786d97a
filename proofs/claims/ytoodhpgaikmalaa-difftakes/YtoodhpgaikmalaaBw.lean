/-
  How many pages stay, where regions can be done (staying).
-/
import Derived.Test.YtoodhpgaikmalaaBv
namespace Go.Proofs.Ytoodhpgaikmalaa
open Go.RowKit
set_option linter.unusedSimpArgs false
set_option linter.unusedVariables false

theorem stg_step (ps : List (List Key)) (rs : List Rg) (last next : Int) (k : Nat) (r : Rg) (hr : rs[k]? = some r) : stg ps last next (rs.drop k) = if r.pg ≤ last then none else if chg ps r = true then stg ps r.pg next (rs.drop (k + 1)) else if add r next = true then stg ps r.pg (next + 1) (rs.drop (k + 1)) else if r.pg < ps.length ∧ alg (ps.drop r.pg.toNat) r.pg (rs.drop k) = true then some r.pg.toNat else none := by
  have h2 : rs.drop k = r :: rs.drop (k + 1) := by
    have hl := (List.getElem?_eq_some_iff.1 hr).1
    rw [List.drop_eq_getElem_cons hl, (List.getElem?_eq_some_iff.1 hr).2]
  rw [h2]
  rfl
set_option maxRecDepth 100000 in
set_option maxHeartbeats 16000000 in
theorem staying_any (S S' : Nat → Prop) (ao bo : Option Addr) (ps : List (List Key)) (rs : List Rg) (ca cb : Nat) (w : World) (h1 : PsAt S w ao ps) (h2 : RgAt S' w bo rs) (hn : ps.length ≤ 1000) (hrn : rs.length ≤ 1000) (hm : ∀ (i : Nat) (ks : List Key), ps[i]? = some ks → ks.length ≤ 1000) (hsa : Sl ao ca ps.length) (hsb : Sl bo cb rs.length) :
    Calls Try.prog 22 #[.slice ao ps.length ca, .slice bo rs.length cb] w fun e w' => e = .returned (.tuple #[.int .i64 ((stg ps (-1) ps.length rs).getD 0 : Nat), .bool (stg ps (-1) ps.length rs).isSome]) ∧ Below w.heap.size w w' := by
  have HRs := boxed (fun i (hi : i < rs.length) => (⟨_, List.getElem?_eq_getElem hi⟩ : ∃ r, rs[i]? = some r))
  have HST := boxed (fun last next k r hr => stg_step ps rs last next k r hr)
  have HE : Box (∀ last next, stg ps last next (rs.drop rs.length) = some ps.length) := boxed (fun last next => by rw [List.drop_length]; rfl)
  have H0 : Box (stg ps (-1) ps.length (rs.drop 0) = stg ps (-1) ps.length rs) := boxed rfl
  obtain ⟨R, hR⟩ : ∃ R, stg ps (-1) ps.length rs = R := ⟨_, rfl⟩
  rw [hR] at H0 ⊢
  have HCH := boxed (fun W hb r la lc => changes_any S ao ps ca r la lc W (h1.below (w' := W) hb) hn hm)
  have HH1 := boxed h1
  have HH2 := boxed h2
  have HDl := boxed (fun p => (List.length_drop : (ps.drop p).length = ps.length - p))
  have HDr := boxed (fun p => (List.length_drop : (rs.drop p).length = rs.length - p))
  obtain ⟨n, hkn⟩ : ∃ n, ps.length = n := ⟨_, rfl⟩
  obtain ⟨m, hkm⟩ : ∃ m, rs.length = m := ⟨_, rfl⟩
  have HKN := boxed hkn
  rw [hkn] at hn HE H0 HCH hsa HDl HST ⊢
  rw [hkm] at hrn HRs HE hsb HDr ⊢
  have hca := hsa.1
  have hcb := hsb.1
  clear hR h1 h2 hm hkn hkm hsa hsb
  go_enter Try.func22, Try.ntmps22
  go_wp2_with fail
  go_loopw [6, 7, 14] (fun lv xv iv wr => ∃ (k : Nat) (last next : Int), k ≤ m ∧ iv = .int .i64 (k : Nat) ∧ lv = .int .i64 last ∧ xv = .int .i64 next ∧ Box ((-1 ≤ last ∧ last ≤ 9223372036854775807) ∧ (n : Int) ≤ next ∧ next ≤ n + k) ∧ Box (stg ps last next (rs.drop k) = R) ∧ Box (Below w.heap.size w wr)) (fun _ _ iv _ => m - (intOf iv).toNat)
  case atStart => exact ⟨0, -1, n, Nat.zero_le _, rfl, rfl, rfl, boxed ⟨⟨by omega, by omega⟩, by omega, by omega⟩, H0, boxed (Below.refl _ _)⟩
  case round =>
    obtain ⟨k, last, next, hk, rfl, rfl, rfl, HLN, HR, HB⟩ := hrel
    by_cases hlt : k < m
    · obtain ⟨r, er⟩ := HRs.out k hlt
      obtain ⟨hok, b', off', la, lc, rfl, -, ⟨r0, r1, r2, r3, r4⟩, -, -⟩ := (HH2.out.below HB.out) k r er
      have hst := HST.out last next k r er
      rw [HR.out] at hst
      have HS := boxed hst
      have HOK := boxed hok
      have t0 : decide ((k : Int) < (m : Int)) = true := decide_eq_true (by omega)
      have hlt2 : (k : Int) < (m : Int) := by omega
      obtain ⟨wc, hwc, hBc, -, hC⟩ := box_region wr r la lc
      obtain ⟨c0, c1, c2, c3, c4⟩ := hC wc (Below.refl _ _)
      have HWC := boxed hwc
      have HCq := boxed hC
      have HBc := boxed (below_step HB.out (Nat.le_refl _) hBc)
      clear hst er hok hwc hBc hC HR
      by_cases q1 : r.pg ≤ last
      · have hv : R = none := by rw [HS.out, if_pos q1]
        have t1 : decide (r.pg ≤ last) = true := decide_eq_true q1
        clear q1 HS
        subst hv
        go_upto_region 5 with (fail)
        rw [HWC.out]
        go_wp2_with fail
        go_ret2
        exact ⟨rfl, HBc.out⟩
      have t1 : decide (r.pg ≤ last) = false := decide_eq_false q1
      obtain ⟨⟨hl1, hl2⟩, hx1, hx2⟩ := HLN.out
      have hp0 : 0 ≤ r.pg := by omega
      have HCc := boxed (HCH.out wc HBc.out r la lc hp0 HOK.out)
      have HAa := boxed (fun W => adds_any r la lc next W)
      unfold rgv at HCc HAa
      have HS2 := boxed (by have := HS.out; rw [if_neg q1] at this; exact this)
      clear q1 HS
      go_upto_region 5 with (fail)
      rw [HWC.out]
      go_wp2_with fail
      clear r0 r1 r2 r3 r4 t1
      refine HCc.out.mono ?_
      rintro e w2 ⟨rfl, hb2⟩
      have HB2 := boxed (below_step HBc.out (Nat.le_refl _) hb2)
      have HBq := boxed hb2
      clear c0 c1 c2 c3 c4 hb2 HCc
      obtain ⟨c0, c1, c2, c3, c4⟩ := HCq.out w2 HBq.out
      cases hch : chg ps r with
      | true =>
        have hv : stg ps r.pg next (rs.drop (k + 1)) = R := by rw [HS2.out, if_pos hch]
        have HVn := boxed hv
        clear hv HS2 hch
        have HLn : Box ((-1 ≤ r.pg ∧ r.pg ≤ 9223372036854775807) ∧ (n : Int) ≤ next ∧ next ≤ n + ((k + 1 : Nat) : Int)) := boxed ⟨⟨by omega, HOK.out.1.2⟩, hx1, by omega⟩
        go_wp2_with fail
        go_roundw
        case rel => exact ⟨k + 1, r.pg, next, by omega, by go_num, rfl, rfl, HLn, HVn, HB2⟩
        case measure => simp [intOf]; omega
      | false =>
        have HS3 := boxed (by have := HS2.out; rw [if_neg (by rw [hch]; simp)] at this; exact this)
        clear HS2 hch
        go_wp2_with fail
        refine (HAa.out _).mono ?_
        rintro e w3 ⟨rfl, hb3⟩
        have HB3 := boxed (below_step HB2.out (Nat.le_refl _) hb3)
        have HBr := boxed (below_step HBq.out (Nat.le_refl _) hb3)
        clear c0 c1 c2 c3 c4 hb3 HAa
        obtain ⟨c0, c1, c2, c3, c4⟩ := HCq.out w3 HBr.out
        cases had : add r next with
        | true =>
          have hv : stg ps r.pg (next + 1) (rs.drop (k + 1)) = R := by rw [HS3.out, if_pos had]
          have HVn := boxed hv
          have hwn : wrap64 (next + 1) = next + 1 := by unfold wrap64; omega
          clear hv HS3 had
          have HLn : Box ((-1 ≤ r.pg ∧ r.pg ≤ 9223372036854775807) ∧ (n : Int) ≤ next + 1 ∧ next + 1 ≤ n + ((k + 1 : Nat) : Int)) := boxed ⟨⟨by omega, HOK.out.1.2⟩, by omega, by omega⟩
          go_wp2_with fail
          go_roundw
          case rel => exact ⟨k + 1, r.pg, next + 1, by omega, by go_num, rfl, rfl, HLn, HVn, HB3⟩
          case measure => simp [intOf]; omega
        | false =>
          have HS4 := boxed (by have := HS3.out; rw [if_neg (by rw [had]; simp)] at this; exact this)
          clear HS3 had
          by_cases q2 : r.pg < n
          rotate_left
          · have t2 : decide (r.pg < (n : Int)) = false := decide_eq_false q2
            have hv : R = none := by rw [HS4.out, if_neg (fun h => q2 h.1)]
            subst hv
            have hun : undef = Value.tuple #[] := rfl
            clear q2 HS4
            go_wp2_with fail
            go_quiet (fail)
            have HF := boxed (HB3.out.trans (bel_drewN _ w3 nq))
            go_wp2_with fail
            go_ret2
            exact ⟨rfl, HF.out⟩
          have t2 : decide (r.pg < (n : Int)) = true := decide_eq_true q2
          obtain ⟨p, hp⟩ : ∃ p : Nat, r.pg = p := ⟨r.pg.toNat, by omega⟩
          have hpn : p < n := by omega
          obtain ⟨pb, po, rfl, -⟩ := HH1.out.form (by have := HKN.out; omega)
          have hs1 := fun w => slFP pb po n ca p (p : Int) rfl hca (by omega) w
          have hs2 := fun w => slFR b' off' m cb k (k : Int) rfl hcb (by omega) w
          have ea : sa 1 po p ca = po + p := by unfold sa; rw [if_neg (by omega)]; omega
          have eb : sa 5 off' k cb = off' + k * 5 := by unfold sa; rw [if_neg (by omega)]
          rw [ea] at hs1
          rw [eb] at hs2
          have HG := boxed (fun W hb => gone_any S S' (some ⟨pb, po + p, none⟩) (some ⟨b', off' + k * 5, none⟩) (ps.drop p) p (rs.drop k) (ca - p) (cb - k) W ((HH1.out.below (w' := W) hb).drop p) ((HH2.out.below hb).drop k) (by rw [HDl.out]; omega) (by omega))
          rw [HDl.out, HDr.out] at HG
          have CS := boxed (fun d os => Calls.regrown_of (w := w3) (d := d) (os := os) (HG.out _ (below_step HB3.out (Nat.le_refl _) (below_regrown w3 d os))))
          have HS5 : Box (R = if alg (ps.drop p) p (rs.drop k) = true then some p else none) := boxed (by
            rw [HS4.out, hp, Int.toNat_natCast]
            by_cases c : alg (ps.drop p) p (rs.drop k) = true
            · rw [if_pos c, if_pos ⟨by omega, c⟩]
            · rw [if_neg c, if_neg (fun h => c h.2)])
          have HPe := boxed hp
          rw [hp] at c0
          have t2' : decide ((p : Int) < (n : Int)) = true := decide_eq_true (by omega)
          generalize alg (ps.drop p) p (rs.drop k) = A at *
          have v0 := cell_regrown c0
          clear HS4 HG ea eb q2 c1 c2 c3 c4 hp
          go_wp2_with fail
          refine wp_region_quiet_below (by kernel_rfl) (by kernel_rfl) ?_
          repeat (go_big_quiet_step (with_reducible exact CS.out _ _))
          refine wpQuiet_nil ?_
          intro _ hw'
          obtain ⟨⟨dq, osq⟩, hw''⟩ := hw'
          subst hw''
          have HF := boxed (below_step HB3.out (Nat.le_refl _) (below_regrown w3 dq osq))
          have c9 := hold (below_regrown w3 dq osq) c0
          clear v0 CS c0
          generalize Go.Sort.grow (redrawn w3 dq) osq = w5 at *
          cases A with
          | true =>
            have hv : R = some p := by rw [HS5.out]; rfl
            subst hv
            clear HS5
            go_wp2_with fail
            go_ret2
            exact ⟨rfl, HF.out⟩
          | false =>
            have hv : R = none := by rw [HS5.out]; rfl
            subst hv
            clear HS5
            go_wp2_with fail
            go_ret2
            exact ⟨rfl, HF.out⟩
    · have hke : k = m := by omega
      have hv : R = some n := by rw [← HR.out, hke]; exact HE.out _ _
      subst hv
      have t0 : decide ((k : Int) < (m : Int)) = false := decide_eq_false (by omega)
      clear HR HLN hke
      go_wp2_with fail
      go_ret2
      exact ⟨rfl, HB.out⟩
end Go.Proofs.Ytoodhpgaikmalaa
