/-
  'regletlaw17.HyphenBack': Strip, Put and Strip again of a right text, by the contracts; what stands ahead of each soft hyphen. The card: of the package variables that the row names, MaxLen holds any number, utf8's tables are listed and not read on any road that is gone.
-/
import Derived.Test.YtflhefgmgdgffaaDoorCards
import Derived.Test.YtflhefgmgdgffaaDoorTie
import Derived.WalkKit
import Derived.ProofKit
import Derived.OpenShut
import Derived.JoinedCond
import Derived.ChangeOld
import Derived.Below
import Derived.Deep.DeepHandedRow
import Derived.Lay
import Derived.SevenTiedAt
import Derived.Shelf.Vars
import Derived.Test.YtflhefgmgdgffaaDoorHbc
import Derived.Test.YtflhefgmgdgffaaDoorHyz
namespace Go.Proofs.YtflhefgmgdgffaaDoor.hyphenBack
open Go.ChangeShapes Go.WideShapes Go.ChangeAt Go.RowKit
open Go.ChangeMaps (open_string shut_string)
set_option linter.unusedVariables false
set_option linter.unusedSimpArgs false

theorem own : ownKnob Tryd.prog.godebug = none := by kernel_rfl
theorem laidOut : laidOutB Tryd.prog = true := by kernel_rfl

set_option maxRecDepth 100000 in
set_option maxHeartbeats 8000000 in
theorem walk (w : World) (mx : Int) (hm : w.cell? ⟨0, 0, none⟩ = some (.int .i64 mx)) (ao0 : Option Addr) (n0 cap0 : Nat) (bo0 : Option Addr) (m0 cbp0 : Nat) (l0 r0 : Int) (S0 T0 : Nat → ByteArray) (hn0 : n0 ≤ maxLen ∧ m0 ≤ maxLen) (hS0 : StrsAt w ao0 n0 S0) (hT0 : StrsAt w bo0 m0 T0) (hl0 : I64 l0 ∧ I64 r0) (a1 : ByteArray) (w1 : a1.size ≤ maxLen) (z1 : a1.size ≤ 1048576) :
    Calls Tryd.prog 3 #[listsV ao0 n0 cap0 bo0 m0 cbp0 l0 r0, .string a1] w fun e w' => e = .returned (.bool true) ∧ Below w.heap.size w w' := by
  unfold listsV
  have hn2 := hn0
  unfold maxLen at hn2
  have l1 := laid1 w (.cells #[.slice ao0 n0 cap0, .slice bo0 m0 cbp0, .int .i64 l0, .int .i64 r0] 24)
  obtain ⟨W1, hW1⟩ : ∃ W1, w.alloc (.cells #[.slice ao0 n0 cap0, .slice bo0 m0 cbp0, .int .i64 l0, .int .i64 r0] 24) = W1 := ⟨_, rfl⟩
  rw [hW1] at l1
  have HB1 := boxed l1.2.1
  have HX1 := boxed l1.1
  have HS := boxed hS0
  have HTT := boxed hT0
  have HA := boxed (awake_any W1)
  have HM := boxed hm
  clear hm
  obtain ⟨xb, hxb⟩ : ∃ xb, w.heap.size = xb := ⟨_, rfl⟩
  rw [hxb] at HX1
  replace hW1 := boxed hW1
  replace hxb := boxed hxb
  clear l1 hS0 hT0
  go_enter Tryd.func3, Tryd.ntmps3
  go_upto_region 1 with fail
  rw [hW1.out]
  have hxb' := hxb.out
  rw [hxb']
  clear hxb' hW1
  go_wp2_with fail
  refine HA.out.mono ?_
  rintro e w2 ⟨rfl, hb2⟩
  have HB2 : Box (Below w.heap.size w w2) := boxed (below_step HB1.out (Nat.le_refl _) hb2)
  have HX2 : Box (w2.heap[xb]? = some (.cells #[.slice ao0 n0 cap0, .slice bo0 m0 cbp0, .int .i64 l0, .int .i64 r0] 24 (0, 0))) := boxed ((hb2.block _ (heap_lt HX1.out)).trans HX1.out)
  have hbk := book17_any w2 ao0 bo0 n0 m0 cap0 cbp0 S0 T0 l0 r0 (HS.out.below HB2.out) (HTT.out.below HB2.out) hn0.1 hn0.2
  unfold listsV at hbk
  have c0 : w2.cell? ⟨xb, 0, none⟩ = some (.slice ao0 n0 cap0) := by rw [cell_of_row _ _ _ _ _ _ HX2.out]; rfl
  have c1 : w2.cell? ⟨xb, 1, none⟩ = some (.slice bo0 m0 cbp0) := by rw [cell_of_row _ _ _ _ _ _ HX2.out]; rfl
  have c2 : w2.cell? ⟨xb, 2, none⟩ = some (.int .i64 l0) := by rw [cell_of_row _ _ _ _ _ _ HX2.out]; rfl
  have c3 : w2.cell? ⟨xb, 3, none⟩ = some (.int .i64 r0) := by rw [cell_of_row _ _ _ _ _ _ HX2.out]; rfl
  clear hb2 HA HX1 HB1
  go_wp2_with fail
  refine hbk.mono ?_
  rintro e w3 ⟨hB, hb3⟩
  have HB3 : Box (Below w.heap.size w w3) := boxed (below_step HB2.out (Nat.le_refl _) hb3)
  have HX3 : Box (w3.heap[xb]? = some (.cells #[.slice ao0 n0 cap0, .slice bo0 m0 cbp0, .int .i64 l0, .int .i64 r0] 24 (0, 0))) := boxed ((hb3.block _ (heap_lt HX2.out)).trans HX2.out)
  clear hbk hb3 c0 c1 c2 c3 HX2 HB2
  rcases hB with ⟨-, rfl⟩ | ⟨hG, bp, eb, lb, wb, Nd, Z, Y, rfl, hbk, hz1, hz2⟩
  · go_wp2_with fail
    go_ret
    exact ⟨rfl, HB3.out⟩
  by_cases h300 : 300 < a1.size
  · have t1 : decide ((300 : Int) < (a1.size : Int)) = true := decide_eq_true (by omega)
    have t2 : decide (300 < a1.size) = true := decide_eq_true h300
    clear hbk hz1 hz2
    go_wp2_with fail
    go_ret
    exact ⟨rfl, HB3.out⟩
  have t1 : decide ((300 : Int) < (a1.size : Int)) = false := decide_eq_false (by omega)
  have t2 : decide (300 < a1.size) = false := decide_eq_false h300
  obtain ⟨⟨h60, h30⟩, hmay, hpo, hwo⟩ := hG
  obtain ⟨hl, hr⟩ : (1 ≤ l0 ∧ l0 ≤ 100) ∧ (1 ≤ r0 ∧ r0 ≤ 100) := by
    rcases may_four l0 r0 with ⟨_, h⟩ | ⟨h, _⟩
    · exact h
    · rw [h] at hmay; cases hmay
  obtain ⟨L, hL⟩ : ∃ L : Nat, l0 = (L : Int) := ⟨l0.toNat, by omega⟩
  obtain ⟨R, hR⟩ : ∃ R : Nat, r0 = (R : Int) := ⟨r0.toNat, by omega⟩
  subst hL hR
  have hrg := refright_any a1 w3 (by omega) (nR a1) (nR_cnt a1)
  have HRB := rt_bad a1
  have e0 : decide (badAt a1 (nR a1) < 0) = rt a1 := by
    cases h : rt a1 with
    | true => exact decide_eq_true (HRB.2 h)
    | false => exact decide_eq_false (fun c => by have := HRB.1 c; rw [h] at this; cases this)
  rw [e0] at hrg
  clear e0 HRB hpo hwo hmay
  cases hrt : rt a1 with
  | false =>
    rw [hrt] at hrg
    clear hrt hbk hz1 hz2
    go_wp2_with fail
    refine hrg.mono ?_
    rintro e w4 ⟨rfl, hb4⟩
    have HB4 := boxed (below_step HB3.out (Nat.le_refl _) hb4)
    clear hb4 hrg
    go_wp2_with fail
    go_ret
    exact ⟨rfl, HB4.out⟩
  | true =>
    rw [hrt] at hrg
    have hsz : a1.size ≤ 300 := by omega
    have hisr := rs_isR a1
    have hst : stpT a1 = encT (nosoft (rs a1)) := by
      conv => lhs; rw [← enc_rs a1 hrt]
      exact stp_enc _ hisr
    have hisr2 : ∀ c ∈ nosoft (rs a1), isR (c : Int) = true := fun c hc => hisr c (nosoft_no _ c hc).2
    have hrs2 := encT_rs _ hisr2
    have hlen2 : (nosoft (rs a1)).length ≤ 300 := by
      have h1 : (nosoft (rs a1)).length ≤ (rs a1).length := List.length_filter_le _ _
      have h2 := nR_le a1
      rw [rs_len] at h1
      omega
    have HNS : Box (∀ c ∈ nosoft (rs a1), c ≠ 173) := boxed (fun c hc => (nosoft_no _ c hc).1)
    have HS1 : Box (stpT (encT (nosoft (rs a1))) = encT (nosoft (rs a1))) := boxed (by rw [stp_enc _ hisr2, nosoft_same _ HNS.out])
    have hsp := fun W (hW : Below w3.heap.size w3 W) => strip_any a1 W mx (hold (HB3.out.trans (hW.mono HB3.out.size)) HM.out) (by omega)
    have HSP := boxed hsp
    rw [hst] at HSP
    generalize nosoft (rs a1) = Q at *
    have hez := encT_size Q
    have HRT2 := boxed hrs2
    have HIS2 := boxed hisr2
    have HPU : Box (∀ W, Below w3.heap.size w3 W → Calls Tryd.prog 8 #[.pointer (some ⟨bp, 0, none⟩), .string (encT Q)] W fun e w' => (∃ out, PlcP (zQ Z) (zQ Y) L R (encT Q) out ∧ e = .returned (.string (put17 (encT Q) out))) ∧ Below W.heap.size W w') := boxed (fun W hW => put_any W bp eb lb wb L R Nd Z Y (encT Q) (by simpa using hbk.below hW) (by omega) (by omega) (by omega))
    have HSQ : Box (∀ W, Below w3.heap.size w3 W → Calls Tryd.prog 7 #[.string (encT Q)] W fun e w' => e = .returned (.string (encT Q)) ∧ Below W.heap.size W w') := boxed (fun W hW => by
      have := strip_any (encT Q) W mx (hold (HB3.out.trans (hW.mono HB3.out.size)) HM.out) (by omega)
      rw [HS1.out] at this
      exact this)
    have HEZ : Box ((encT Q).size ≤ 1200) := boxed (by omega)
    clear hbk hz1 hz2 hrt hisr hst hisr2 hrs2 hlen2 hsp hez HS1
    go_wp2_with fail
    refine hrg.mono ?_
    rintro e w4 ⟨rfl, hb4⟩
    have HB4 := boxed hb4
    have hsp := HSP.out w4 hb4
    clear hb4 hrg t1 t2 HSP
    go_wp2_with fail
    refine hsp.mono ?_
    rintro e w5 ⟨rfl, hb5⟩
    have HB5 : Box (Below w3.heap.size w3 w5) := boxed (below_step HB4.out (Nat.le_refl _) hb5)
    have hpu := HPU.out w5 HB5.out
    clear hb5 hsp HB4 HPU
    go_wp2_with fail
    refine hpu.mono ?_
    rintro e w6 ⟨⟨out, hout, rfl⟩, hb6⟩
    have HB6 : Box (Below w3.heap.size w3 w6) := boxed (below_step HB5.out (Nat.le_refl _) hb6)
    obtain ⟨T, hT, hTi, hTn, hTb⟩ := back_facts HRT2.out.1 (by rw [HRT2.out.2]; exact HNS.out) hout
    rw [HRT2.out.2] at hTn
    rw [hT]
    have hpz : (encT T).size ≤ 1000000 := by
      have h1 := hout.rise
      have h2 := hout.len
      have h3 := pw_size h1 out.length (Nat.le_refl _)
      have h4 := fr_end h1 out.length (Nat.le_refl _)
      have h5 := HEZ.out
      rw [← hT]
      unfold put17
      rw [ByteArray.size_append, ByteArray.size_extract, h3]
      omega
    have hrT := encT_rs T hTi
    have HRT := boxed hrT
    have hstT := strip_any (encT T) w6 mx (hold (HB3.out.trans (HB6.out.mono HB3.out.size)) HM.out) (by omega)
    rw [stp_enc T hTi, hTn] at hstT
    have HTB := boxed hTb
    have HTI := boxed hTi
    have hrg2 : Box (∀ W, Calls Tryd.prog 6 #[.string (encT T)] W fun e w' => e = .returned (.bool true) ∧ Below W.heap.size W w') := boxed (fun W => by
      have := refright_any (encT T) W (by omega) (nR (encT T)) (nR_cnt _)
      rw [decide_eq_true ((rt_bad (encT T)).2 hrT.1)] at this
      exact this)
    have hru : Box (∀ W, Calls Tryd.prog 9 #[.string (encT T)] W fun e w' => ∃ ao1 c1 ao2 c2 bad, e = .returned (.tuple #[.slice ao1 T.length c1, .slice ao2 T.length c2, .int .i64 bad]) ∧ Dg w' ao1 c1 T ∧ Below W.heap.size W w') := boxed (fun W => by
      have h1 : nR (encT T) = T.length := by have := rs_len (encT T); rw [hrT.2] at this; exact this.symm
      have h2 : rns (encT T) T.length = T := by have := hrT.2; unfold rs at this; rw [h1] at this; exact this
      refine (runes_any (encT T) W (by omega) (nR (encT T)) (nR_cnt _)).mono ?_
      rintro e w' ⟨a1', b1', a2', b2', he, g1, g2, g3⟩
      rw [h1] at he g1
      rw [h2] at g1
      exact ⟨a1', b1', a2', b2', _, he, g1, g3⟩)
    have HTL : Box (T.length ≤ 1000000) := boxed (by
      have h1 : nR (encT T) = T.length := by have := rs_len (encT T); rw [hrT.2] at this; exact this.symm
      have := nR_le (encT T)
      omega)
    clear hb6 hpu hout hTi hTn hTb hT hpz hrT HB5 HEZ
    have hsq := fun W (h : Below w3.heap.size w3 W) => HSQ.out W h
    clear HSQ HRT2 HIS2 HNS HRT
    generalize encT Q = S1 at *
    generalize encT T = T1 at *
    go_wp2_with fail
    refine hstT.mono ?_
    rintro e w7 ⟨rfl, hb7⟩
    have HB7 : Box (Below w3.heap.size w3 w7) := boxed (below_step HB6.out (Nat.le_refl _) hb7)
    have hs8 := hsq w7 HB7.out
    clear hb7 hstT HB6 hsq
    go_wp2_with fail
    refine hs8.mono ?_
    rintro e w8 ⟨rfl, hb8⟩
    have HB8 : Box (Below w3.heap.size w3 w8) := boxed (below_step HB7.out (Nat.le_refl _) hb8)
    have hr9 := hrg2.out w8
    clear hb8 hs8 HB7 hrg2
    go_wp2_with fail
    refine hr9.mono ?_
    rintro e w9 ⟨rfl, hb9⟩
    have HB9 : Box (Below w3.heap.size w3 w9) := boxed (below_step HB8.out (Nat.le_refl _) hb9)
    have hru9 := hru.out w9
    clear hb9 hr9 HB8 hru
    obtain ⟨n, hn⟩ : ∃ n, T.length = n := ⟨_, rfl⟩
    have HN := boxed hn
    have hnb := HTL.out
    rw [hn] at hru9 hnb
    clear hn HTL
    go_wp2_with fail
    refine hru9.mono ?_
    rintro e w10 ⟨ao, c1, ao2, c2, bad, rfl, hd, hb10⟩
    have HB10 : Box (Below w3.heap.size w3 w10) := boxed (below_step HB9.out (Nat.le_refl _) hb10)
    have HD := boxed hd
    clear hb10 hru9 HB9 hd
    go_wp2_with fail
    go_loopw [10] (fun vi wr => ∃ i : Nat, i ≤ n ∧ vi = .int .i64 (i : Int) ∧ Box (Below w10.heap.size w10 wr)) (fun vi _ => n - (intOf vi).toNat)
    case atStart => exact ⟨0, Nat.zero_le _, rfl, boxed (Below.refl _ _)⟩
    case round =>
      obtain ⟨i, hi, rfl, HB11⟩ := hrel
      obtain ⟨wo, hwo⟩ : ∃ wo, wo = wr := ⟨_, rfl⟩
      subst hwo
      by_cases hlt : i < n
      · obtain ⟨bb, off, rfl, hbl, hcl0⟩ := HD.out.at (by rw [HN.out]; omega)
        have hcl := hold HB11.out (hcl0 i (by rw [HN.out]; exact hlt))
        have HCL := boxed hcl0
        have hback := HTB.out i (by rw [HN.out]; exact hlt)
        have hii : (i : Int) < (n : Int) := by omega
        clear hcl0
        by_cases hx : T.getD i 0 = 173
        · have HBK := boxed (hback hx)
          rw [hx] at hcl
          clear hback hx
          go_wp2_with fail
          go_loopw [11] (fun vk wr => ∃ k : Nat, (1 ≤ k ∧ k ≤ L + 1) ∧ vk = .int .i64 (k : Int) ∧ Box (Below w10.heap.size w10 wr)) (fun vk _ => L + 1 - (intOf vk).toNat)
          case atStart => exact ⟨1, by omega, rfl, HB11⟩
          case round =>
            clear HB11 hcl
            obtain ⟨k, hk, rfl, HB12⟩ := hrel
            have hx2 : wr.heap[xb]? = some (.cells #[.slice ao0 n0 cap0, .slice bo0 m0 cbp0, .int .i64 (L : Int), .int .i64 (R : Int)] 24 (0, 0)) := by
              have hbb : Below w3.heap.size w3 wr := below_step HB10.out (Nat.le_refl _) HB12.out
              exact (hbb.block _ (heap_lt HX3.out)).trans HX3.out
            have cL : wr.cell? ⟨xb, 2, none⟩ = some (.int .i64 (L : Int)) := by rw [cell_of_row _ _ _ _ _ _ hx2]; rfl
            clear hx2
            by_cases hkl : k ≤ L
            · have u1 : decide ((k : Int) ≤ (L : Int)) = true := decide_eq_true (by omega)
              have u1' : decide (k ≤ L) = true := decide_eq_true hkl
              have u2 : decide ((k : Int) ≤ 100) = true := decide_eq_true (by omega)
              have u2' : decide (k ≤ 100) = true := decide_eq_true (by omega)
              obtain ⟨g1, g2⟩ := HBK.out k hk.1 hkl
              obtain ⟨p, hp⟩ : ∃ p, i - k = p := ⟨_, rfl⟩
              rw [hp] at g2
              have hsub : (i : Int) - (k : Int) = (p : Int) := by omega
              have hpn : (p : Int) < (n : Int) := by omega
              have u3 : decide ((p : Int) < 0) = false := decide_eq_false (by omega)
              have hcp := hold HB12.out (HCL.out p (by rw [HN.out]; omega))
              have hyl : T.getD p 0 ≤ 1114111 := by
                have := isR_t _ (HTI.out _ (getD_mem T p (by rw [HN.out]; omega)))
                omega
              have hle := refletter_any (T.getD p 0) hyl wr
              generalize T.getD p 0 = y at *
              cases hly : ltr y with
              | true =>
                rw [hly] at hle
                clear g2 hly hp g1
                go_wp2_with fail
                refine hle.mono ?_
                rintro e w13 ⟨rfl, hb13⟩
                have HB13 := boxed (below_step HB12.out (Nat.le_refl _) hb13)
                clear hle hb13 HB12 hcp cL
                go_wp2_with fail
                go_roundw
                case rel => exact ⟨k + 1, by omega, by go_num, HB13⟩
                case measure => simp [intOf]; omega
              | false =>
                have hy : y = 173 := by
                  rcases g2 with g2 | g2
                  · rw [hly] at g2; cases g2
                  · exact g2
                rw [hly] at hle
                rw [hy] at hle hcp
                clear g2 hly hp g1 hy hyl
                go_wp2_with fail
                refine hle.mono ?_
                rintro e w13 ⟨rfl, hb13⟩
                have HB13 := boxed (below_step HB12.out (Nat.le_refl _) hb13)
                replace hcp := hold hb13 hcp
                clear hle hb13 HB12 cL
                go_wp2_with fail
                go_roundw
                case rel => exact ⟨k + 1, by omega, by go_num, HB13⟩
                case measure => simp [intOf]; omega
            · have u1 : decide ((k : Int) ≤ (L : Int)) = false := decide_eq_false (by omega)
              have u1' : decide (k ≤ L) = false := decide_eq_false hkl
              clear hkl
              go_wp2_with fail
              go_roundw
              case rel => exact ⟨i + 1, by omega, by go_num, HB12⟩
              case measure => simp [intOf]; omega
        · clear hback
          generalize T.getD i 0 = y at *
          have u1 : ((y : Int) != 173) = true := by rw [bne_iff_ne]; omega
          go_wp2_with fail
          go_roundw
          case rel => exact ⟨i + 1, by omega, by go_num, HB11⟩
          case measure => simp [intOf]; omega
      · go_wp2_with fail
        go_ret
        exact ⟨rfl, below_step HB3.out (Nat.le_refl _) (below_step HB10.out (Nat.le_refl _) HB11.out)⟩

theorem laid_met (os : Os) : laidMetH Tryd.prog Rows.hyphenBackUptoRow.laid ((World.laidAll Tryd.prog os Rows.hyphenBackUptoRow.laid).forCall (fun _ _ => 0) ⟨#[], #[.agg #[.slice none 0 0, .slice none 0 0, .int .i64 0, .int .i64 0], .string ByteArray.empty], []⟩).memory := by
  rw [MakeChecks.laidMetH_plain _ _ _ (by kernel_rfl)]
  exact laidMet_laidAll _ (by kernel_rfl) (by kernel_rfl)
theorem reads (os : Os) {H : Type} (enc : TypeId × Value → H) : ∃ places, DataW.whole enc Tryd.prog ((World.laidAll Tryd.prog os Rows.hyphenBackUptoRow.laid).forCall (fun _ _ => 0) ⟨#[], #[.agg #[.slice none 0 0, .slice none 0 0, .int .i64 0, .int .i64 0], .string ByteArray.empty], []⟩).memory Tryd.f3.params.toList Rows.hyphenBackSpec.vars false #[.agg #[.slice none 0 0, .slice none 0 0, .int .i64 0, .int .i64 0], .string ByteArray.empty].toList 8 = some ([.agg [.nil, .nil, .lit (.int .i64 0), .lit (.int .i64 0)], .lit (.string [])], [], places) :=
  ⟨[], by kernel_rfl⟩

set_option maxRecDepth 100000 in
set_option maxHeartbeats 2000000 in
theorem lifted (os : Os) (started : os.Started) (H : Type) (enc : TypeId × Value → H) (F : Stop.Interp) :
    ReturnsInHanded {} Tryd.checked os 3 .any ((Rows.OpenSpec.upto Rows.hyphenBackSpec).preRow enc Tryd.prog Tryd.f3 Rows.hyphenBackUptoRow.domain false Rows.hyphenBackUptoRow.laid) (((Rows.OpenSpec.upto Rows.hyphenBackSpec).at F).post enc Tryd.prog Tryd.f3 false true false false) := by
  obtain ⟨places, hx⟩ := reads os enc
  refine returnsInHanded_of_row (C := Tryd.checked) (s := Rows.OpenSpec.upto Rows.hyphenBackSpec) own started (by kernel_rfl) Tryd.func3
    (witness_row_at (enc := enc) (C := Tryd.checked) false (World.laidAll Tryd.prog os Rows.hyphenBackUptoRow.laid) #[.agg #[.slice none 0 0, .slice none 0 0, .int .i64 0, .int .i64 0], .string ByteArray.empty] (World.laidAll_os _ _ _) (by kernel_rfl) (by kernel_rfl) (by kernel_rfl)
      (OpenSpec.preRow_of_cond 8 hx (by kernel_rfl) (fun k hk => by cases hk; kernel_rfl) (by kernel_rfl) (laid_met os))) ?_
  intro W base args ds gs before hval0 hW _ hcond _ hL hS _
  have hk := hcond _ rfl
  have hval : ∀ (j : Nat) t v, Tryd.f3.params[j]? = some t → args[j]? = some v → Value.okWide Tryd.prog W .any base t v := hval0
  have hW' := hW
  obtain ⟨p, q, hA0, hV, rfl, hfz, hnd⟩ := hW
  have hA : DataW.TrodAll enc Tryd.prog W 0 (fun _ => true) true Tryd.f3.params.toList args.toList ds p := hA0
  rw [Tryd.params3] at hA hval
  obtain ⟨v0, vs0, d0, ds0, p0, q0, hargs, rfl, rfl, h0, rr0⟩ := trodAll_cons hA
  obtain ⟨v1, vs1, d1, ds1, p1, q1, rfl, rfl, rfl, h1, rr1⟩ := trodAll_cons rr0
  obtain ⟨rfl, rfl, rfl⟩ := trodAll_nil rr1
  obtain rfl : args = #[v0, v1] := by cases args; simp_all
  obtain ⟨rfl, rfl⟩ := trodVars_none hV
  simp only [List.append_nil] at hW' hk
  have hb0 : Rows.uptoBulk d0 ≤ 1048576 := Nat.le_trans (bulk_part (by simp)) (of_decide_eq_true hk : Rows.uptoBulkAll _ ≤ 1048576)
  have k0 := h0
  have lt0 : ∀ x ∈ p0, x.block < W.heap.size := by obtain ⟨m, hm⟩ := k0; exact DataW.trod_lt m _ _ _ hm
  obtain ⟨ao0, n0, cap0, bo0, m0, cbp0, l0, r0, S0, T0, rfl, hn0, hS0, hT0, hl0⟩ : ∃ (ao : Option Addr) (n cap : Nat) (ao' : Option Addr) (n' cap' : Nat) (l r : Int) (S T : Nat → ByteArray), v0 = listsV ao n cap ao' n' cap' l r ∧ (n ≤ maxLen ∧ n' ≤ maxLen) ∧ StrsAt W ao n S ∧ StrsAt W ao' n' T ∧ I64 l ∧ I64 r := by
    obtain ⟨fuel, hf⟩ := k0
    exact lists_value hf hb0
  have hb1 : Rows.uptoBulk d1 ≤ 1048576 := Nat.le_trans (bulk_part (by simp)) (of_decide_eq_true hk : Rows.uptoBulkAll _ ≤ 1048576)
  obtain ⟨a1, rfl, rfl, rfl, w1⟩ := open_string Tryd.underlying9 (hval 1 9 v1 rfl rfl) h1
  have z1 : a1.size ≤ 1048576 := by have := bulk_text (H := H) (b := a1) rfl; omega
  clear hA0 hval0
  obtain ⟨mx, hm⟩ := cell_of_shapedOpen_int (zero := #[.int .i64 0]) (t := 3) hS (of_decide_eq_true (by kernel_rfl)) (by kernel_rfl) rfl (by kernel_rfl) (by kernel_rfl) Tryd.underlying3
  refine (walk W mx hm ao0 n0 cap0 bo0 m0 cbp0 l0 r0 S0 T0 hn0 hS0 hT0 hl0 a1 w1 z1).mono fun e W' ⟨he, hg⟩ => ?_
  subst he
  exact ⟨_, rfl, _, _, _, [], _, [], hW', trodAll_mk1 (shut_bool Tryd.underlying4 _), (trodAll_cons_mk (Below.trod laidOut (by kernel_rfl) (of_decide_eq_true (by kernel_rfl)) k0 hg lt0) (trodAll_cons_mk (shut_string Tryd.underlying9 w1) trodAll_mk0)), rfl, hg.frame _, fun h => by cases h⟩

theorem saidUpto : Rows.HyphenBackUptoSaid :=
  OpenClaim.holds_of_cond 3 Tryd.f3 rfl rfl rfl rfl rfl rfl rfl ⟨rfl, rfl, rfl, rfl, rfl⟩ rfl rfl rfl rfl rfl (by kernel_rfl) Tryd.func3 (by kernel_rfl)
    (of_decide_eq_true (by kernel_rfl)) (by unfold Func.isWrapper; first | (rw [if_pos (by decide +kernel)]; kernel_rfl) | (rw [if_neg (by decide +kernel)]; exact ⟨rfl, rfl⟩))
    (fun os started H enc _ F => by rw [OpenClaim.pre_eq_preRow]; exact lifted os started H enc F)

theorem plain (f : FuncId) (fn : Func) (hf : Tryd.pinned.checked.prog.funcNamed "reglet/regletlaw17.HyphenBack" = some f) (hfn : Tryd.pinned.checked.prog.funcs[f]? = some fn) :
    false = Tryd.pinned.checked.prog.looks [] ∧ ∀ (j : Nat) t, fn.params[j]? = some t → Tryd.pinned.checked.prog.wantsStandIn t = false := by
  obtain rfl : f = 3 := Option.some.inj ((show Tryd.prog.funcNamed "reglet/regletlaw17.HyphenBack" = some 3 by kernel_rfl).symm.trans hf) |>.symm
  obtain rfl : fn = Tryd.f3 := (Option.some.inj (Tryd.func3.symm.trans hfn)).symm
  refine ⟨by kernel_rfl, fun j t ht => ?_⟩
  rw [Tryd.params3] at ht
  have hall : ∀ u ∈ #[24, 9], Tryd.prog.wantsStandIn u = false := by
    intro u hu
    simp at hu
    rcases hu with rfl | rfl <;> kernel_rfl
  exact hall t (Array.mem_of_getElem? ht)

theorem proved : Rows.HyphenBackUptoCardSaid :=
  Claim7.holds_tied_plain_at .later [] _ _ _ _ saidUpto (fun _ h => by cases h) (by kernel_rfl) (fun _ h => by cases h) hyphenBackUpto_row_tie rfl ⟨rfl, rfl⟩ (by kernel_rfl) rfl plain (by kernel_rfl)
#print axioms proved
end Go.Proofs.YtflhefgmgdgffaaDoor.hyphenBack
