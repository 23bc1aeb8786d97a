/-
  THE STATEMENT MarksOrder: edits leave every mark within the text, and never change the order of two; no condition.
-/
import Derived.Test.YtdaccgnfhagoeaaRows
import Derived.WalkKit
import Derived.ProofKit
import Derived.OpenShut
import Derived.SizedLaws
import Derived.ShutString
import Derived.ChangeOld
import Derived.Below
import Derived.Test.YtdaccgnfhagoeaaMkw
import Derived.Test.YtdaccgnfhagoeaaMky
import Derived.Deep.RegionWith
namespace Go.Proofs.Ytdaccgnfhagoeaa.marksOrder
open Go.ChangeShapes Go.WideShapes Go.ChangeAt Go.RowKit
open Go.ChangeMaps (open_string shut_string)
set_option linter.unusedVariables false
set_option linter.unusedSimpArgs false

theorem own : ownKnob Try.prog.godebug = none := by kernel_rfl
theorem laidOut : laidOutB Try.prog = true := by kernel_rfl

set_option maxRecDepth 100000 in
set_option maxHeartbeats 16000000 in
theorem walk (w : World) (a0 : Int) (w0 : (Lit.int .i64 a0).wf = true) (ao1 : Option Addr) (n1 cap1 : Nat) (O1 : Nat → Opr) (hO1 : OpsAt w.heap.size w ao1 n1 O1) (o2 : Opr) (ho2 : I64 o2.k ∧ I64 o2.a ∧ I64 o2.b) :
    Calls Try.prog 5 #[.int .i64 a0, .slice ao1 n1 cap1, o2.val] w fun e w' => e = .returned (.bool true) ∧ Below w.heap.size w w' := by
  obtain ⟨k2, A, D, t2⟩ := o2
  unfold Opr.val
  clear w0 ho2
  have l1 := laid1 w (.cells #[.int .i64 k2, .int .i64 A, .int .i64 D, .bool t2] 51)
  generalize hW : w.alloc (.cells #[.int .i64 k2, .int .i64 A, .int .i64 D, .bool t2] 51) = W at l1
  obtain ⟨l0, lb, lz⟩ := l1
  have HW := boxed hW
  have HB0 := boxed lb
  have HA := boxed (awake16_any W)
  have HL0 := boxed l0
  clear hW lb l0
  go_enter Try.func5, Try.ntmps5
  go_upto_region 1 with (fail)
  rw [HW.out]
  go_wp2_with fail
  refine HA.out.mono ?_
  rintro e wa ⟨rfl, hba⟩
  have HBa := boxed (below_step HB0.out (Nat.le_refl _) hba)
  have HLa := boxed ((hba.block w.heap.size (by omega)).trans HL0.out)
  have hltb := heap_lt HLa.out
  clear hba HA HB0 HL0
  have hsz0 := size16law_any a0 wa
  obtain ⟨x0, x1, x2, x3⟩ := cells4 HLa.out
  by_cases hc : 0 ≤ a0 ∧ a0 ≤ 65536
  rotate_left
  · rw [decide_eq_false hc] at hsz0
    have HSz := boxed hsz0
    clear hsz0
    go_wp2_with fail
    refine HSz.out.mono ?_
    rintro e wz ⟨rfl, hwz⟩
    subst wz
    go_wp2_with fail
    go_ret
    exact ⟨rfl, HBa.out⟩
  by_cases hkk : k2 = 1 ∨ k2 = 2
  rotate_left
  · rw [decide_eq_true hc] at hsz0
    have HSz := boxed hsz0
    have u1 : (k2 == 1) = false := by rw [beq_eq_false_iff_ne]; omega
    have u2 : (k2 == 2) = false := by rw [beq_eq_false_iff_ne]; omega
    have u3 : (k2 != 1) = true := by rw [bne, u1]; rfl
    have u4 : (k2 != 2) = true := by rw [bne, u2]; rfl
    clear hsz0 hkk
    go_wp2_with fail
    refine HSz.out.mono ?_
    rintro e wz ⟨rfl, hwz⟩
    subst wz
    go_wp2_with fail
    go_ret
    exact ⟨rfl, HBa.out⟩
  rw [decide_eq_true hc] at hsz0
  have HSz := boxed hsz0
  have hp := played16_any (c := cap1) ((hO1.below HBa.out (Nat.le_refl _)).mono HBa.out.size) hc.1 hc.2
  have hok := pls_ok a0 O1 hc.1 hc.2 (min n1 80)
  obtain ⟨s, hs⟩ : ∃ s, pls a0 O1 (min n1 80) = s := ⟨_, rfl⟩
  rw [hs] at hp hok
  have hok := hok.mono (show ((min n1 80 : Nat) : Int) ≤ 80 by omega)
  have HPl := boxed hp
  have HOK := boxed hok
  have hlen := hok.len
  clear hsz0 hp hs hok hO1 hc
  by_cases hk1 : k2 = 1
  · have u1 : (k2 == 1) = true := by rw [beq_iff_eq]; exact hk1
    have u2 : (k2 != 1) = false := by rw [bne, u1]; rfl
    clear hk1
    have HED := boxed (stp_edt s ⟨k2, A, D, t2⟩ hkk)
    go_wp2_with fail
    refine HSz.out.mono ?_
    rintro e wz ⟨rfl, hwz⟩
    subst wz
    go_wp2_with fail
    refine HPl.out.mono ?_
    rintro e w1 ⟨⟨sb, v, x, rfl, hp1, hr1⟩, hb1⟩
    obtain ⟨a1, c1, rfl, hro⟩ := rbox hr1
    have l2 := laid1 w1 (.cells #[.int .i64 s.sz, .int .i64 s.nx, .slice a1 s.L.length c1] 31)
    have hz1 := hb1.size
    generalize hW2 : w1.alloc (.cells #[.int .i64 s.sz, .int .i64 s.nx, .slice a1 s.L.length c1] 31) = w2 at l2
    obtain ⟨lt8, lb2, lz2⟩ := l2
    have HP2 := boxed (hp1.below lb2)
    have HR2 := boxed (hr1.below lb2)
    have HB2 := boxed (below_step (below_step HBa.out (Nat.le_refl _) hb1) (Nat.le_refl _) lb2)
    have HW2 := boxed hW2
    have HT8 := boxed lt8
    have hL2 := (lb2.block w.heap.size (by omega)).trans ((hb1.block w.heap.size (by omega)).trans HLa.out)
    have HAl := boxed (all16_any HP2.out HOK.out)
    clear hp1 hr1 hb1 hro hW2 lt8 lb2 HPl HSz x0 x1 x2 x3
    go_wp2_with fail
    rw [HW2.out]
    refine HAl.out.mono ?_
    rintro e w3 ⟨⟨g, rfl, hg3⟩, hb3⟩
    have HP3 := boxed (HP2.out.below hb3)
    have HR3 := boxed (HR2.out.below hb3)
    have HG3 := boxed hg3
    have HB3 := boxed (below_step HB2.out (Nat.le_refl _) hb3)
    have hL3 := (hb3.block w.heap.size (heap_lt hL2)).trans hL2
    have hT3 := (hb3.block w1.heap.size (by omega)).trans HT8.out
    have hsb2 := HP2.out.lt
    have hz3 := hb3.size
    have hlo := HP2.out.lo
    have HOw := boxed (fun q (hq : Own sb v q) => show q < w2.heap.size from by
      rcases hq with e | e
      · omega
      · exact (HP2.out.own.lt q e).2)
    obtain ⟨x0, x1, x2, x3⟩ := cells4 hL3
    obtain ⟨y0, y1, y2⟩ := (cells3 hT3).1
    have HSt := boxed (step16_any HP3.out HR3.out (by omega) HOK.out (by omega) ⟨k2, A, D, t2⟩)
    have HOK1 := boxed (stp_ok HOK.out ⟨k2, A, D, t2⟩)
    obtain ⟨F, hF⟩ := HED.out
    obtain ⟨s1, hs1⟩ : ∃ s1, stp s ⟨k2, A, D, t2⟩ = s1 := ⟨_, rfl⟩
    rw [hs1] at HSt HOK1 hF
    have HF := boxed hF
    unfold Opr.val at HSt
    simp only at HSt
    clear hb3 hg3 hL2 hL3 hT3 HAl HR2 HT8 HP2 hs1 hF HED
    go_wp2_with fail
    refine HSt.out.mono ?_
    rintro e w4 ⟨⟨xx, v', rfl, hp4, hr4⟩, hc4⟩
    obtain ⟨a3, c3, rfl, -⟩ := rbox hr4
    have hbw4 : Below wa.heap.size w3 w4 := hc4.below (by omega) (fun q hq => HP3.out.lo2 q hq)
    have HB4 := boxed (HB3.out.trans (hbw4.mono (by omega)))
    have hz4 := hbw4.size
    have hg4 := chg_own HG3.out hc4 (fun q hq hO => by have := HOw.out q hO; have := owns_ge HG3.out q hq; omega)
    have l5 := laid1 w4 (.cells #[.int .i64 s1.sz, .int .i64 s1.nx, .slice a3 s1.L.length c3] 31)
    generalize hW5 : w4.alloc (.cells #[.int .i64 s1.sz, .int .i64 s1.nx, .slice a3 s1.L.length c3] 31) = w5 at l5
    obtain ⟨-, lb5, lz5⟩ := l5
    have HP5 := boxed (hp4.below lb5)
    have HB5 := boxed (HB4.out.trans (lb5.mono HB4.out.size))
    have hg5 := owns_below hg4 lb5
    have hml := srt_len s.L
    have HMs := boxed (fun m (h : m ∈ srt s.L) => (srt_perm s.L).subset h)
    obtain ⟨M, hM⟩ : ∃ M, srt s.L = M := ⟨_, rfl⟩
    obtain ⟨n, hn⟩ : ∃ n, s.L.length = n := ⟨_, rfl⟩
    rw [hM, hn] at hg5 hml
    rw [hM] at HMs
    rw [hn] at hlen
    have HG5 := boxed hg5
    have HML := boxed hml
    have HW5 := boxed hW5
    have hlen1 := HOK1.out.len
    clear hp4 hr4 hc4 hg4 hbw4 lb5 hg5 hml hM hW5 HSt HG3 HP3 HR3 x0 x1 x2 x3 y0 y1 y2
    go_wp2_with fail
    rw [HW5.out]
    go_loopw [12] (fun va wr => ∃ (i : Nat), i ≤ n ∧ va = .int .i64 (i : Nat) ∧ Box (Below w5.heap.size w5 wr)) (fun va _ => ((n : Int) - intOf va).toNat)
    case atStart => exact ⟨0, Nat.zero_le _, rfl, boxed (Below.refl _ _)⟩
    case round =>
      obtain ⟨i, h1, rfl, HBr⟩ := hrel
      by_cases hlt : i < n
      · have hiM : i < M.length := by rw [HML.out]; exact hlt
        have HGr := boxed (owns_below HG5.out HBr.out)
        obtain ⟨ga, ca, ea, hca, d0, d1, d2, -⟩ := own_mk HGr.out i hiM
        injection ea with ea1 _ ea3
        injection ea1 with ea1
        injection ea1 with ea1
        subst ea1; subst ea3
        have hlt2 : (i : Int) < (n : Int) := by omega
        have hmi := HMs.out _ (List.getElem_mem hiM)
        have hget := edt_get HOK.out HF.out hmi
        have hin := edt_in HOK1.out HF.out hmi
        have HMono : Box (∀ k (hk : k < M.length), (M[k]'hk).pl < (M[i]'hiM).pl → (F (M[k]'hk)).pl ≤ (F (M[i]'hiM)).pl) := boxed (fun k hk h => HF.out.2.2 _ _ h)
        have HGt := get16_any (HP5.out.below HBr.out) HOK1.out.rise (by omega) (M[i]'hiM).id
        rw [hget] at HGt
        obtain ⟨fm, hfm⟩ : ∃ fm, F (M[i]'hiM) = fm := ⟨_, rfl⟩
        rw [hfm] at HGt hin HMono
        obtain ⟨fi, fp, fs⟩ := fm
        unfold Mk.val at HGt
        simp only at HGt hin HMono
        have HGt := boxed HGt
        have hga := (HGr.out.lt g rfl).2
        clear hfm hget hmi
        generalize hPi : (M[i]'hiM).pl = P at *
        generalize (M[i]'hiM).id = I at *
        go_wp2_with fail
        refine HGt.out.mono ?_
        rintro e w6 ⟨rfl, hb6⟩
        have HB6 := boxed (HBr.out.trans (hb6.mono HBr.out.size))
        have HPs := boxed (HP5.out.below HB6.out)
        have hz6 := HB6.out.size
        have HSz : Box (∀ q, Calls Try.prog 12 #[.pointer (some ⟨sb, 0, none⟩)] ((w6.alloc (.cells #[.int .i64 fi, .int .i64 fp, .bool fs] 36)).drewN q) fun e w' => e = .returned (.int .i64 s1.sz) ∧ w' = (w6.alloc (.cells #[.int .i64 fi, .int .i64 fp, .bool fs] 36)).drewN q) := boxed (fun q => size16_any ((HPs.out.below ((Below.refl _ _).alloc (Nat.le_refl _) _)).below (bel_drewN _ _ _)))
        have HSt : Box (∀ q, Below w6.heap.size w6 ((w6.alloc (.cells #[.int .i64 fi, .int .i64 fp, .bool fs] 36)).drewN q) ∧ ((w6.alloc (.cells #[.int .i64 fi, .int .i64 fp, .bool fs] 36)).drewN q).heap[w6.heap.size]? = some (.cells #[.int .i64 fi, .int .i64 fp, .bool fs] 36 (0, 0))) := boxed (fun q => ⟨((Below.refl _ _).alloc (Nat.le_refl _) _).trans (bel_drewN _ _ _), heap_alloc_new _ _⟩)
        have v1 : decide (fp < 0) = false := decide_eq_false (by omega)
        have v2 : decide (s1.sz < fp) = false := decide_eq_false (by omega)
        have d1' := hold hb6 d1
        have hga6 : g < w6.heap.size := by have := hb6.size; omega
        have HD1 := boxed d1'
        clear hb6 d0 d1 d1' HGt HGr hin d2
        go_wp2_with fail
        go_quiet ((go_at_call 12; exact Calls.quiet_of_same (HSz.out _)))
        go_wp2_with fail
        go_loopw [15] (fun va wr => ∃ (k : Nat), k ≤ i ∧ va = .int .i64 (k : Nat) ∧ Box (Below w6.heap.size w6 wr) ∧ Box (wr.heap[w6.heap.size]? = some (.cells #[.int .i64 fi, .int .i64 fp, .bool fs] 36 (0, 0)))) (fun va _ => ((i : Int) - intOf va).toNat)
        case atStart => exact ⟨0, Nat.zero_le _, rfl, boxed (HSt.out _).1, boxed (HSt.out _).2⟩
        case round =>
          obtain ⟨k, hk1, rfl, HBk, HTk⟩ := hrel
          by_cases hki : k < i
          · have hkM : k < M.length := by omega
            have HBk5 := boxed (HB6.out.trans (HBk.out.mono hz6))
            have hGk := owns_below HG5.out HBk5.out
            obtain ⟨gb, cb, eb, hcb, f0, f1, f2, -⟩ := own_mk hGk k hkM
            injection eb with eb1 _ eb3
            injection eb1 with eb1
            injection eb1 with eb1
            subst eb1; subst eb3
            have hki2 : (k : Int) < (i : Int) := by omega
            have hkn : (k : Int) < (n : Int) := by omega
            have hget := edt_get HOK.out HF.out (HMs.out _ (List.getElem_mem hkM))
            have hmono := HMono.out k hkM
            have HGt := get16_any (HP5.out.below HBk5.out) HOK1.out.rise (by omega) (M[k]'hkM).id
            rw [hget] at HGt
            obtain ⟨gm, hgm⟩ : ∃ gm, F (M[k]'hkM) = gm := ⟨_, rfl⟩
            rw [hgm] at HGt hmono
            obtain ⟨gi, gp, gs⟩ := gm
            unfold Mk.val at HGt
            simp only at HGt hmono
            have HGt := boxed HGt
            clear hgm hget hGk
            generalize (M[k]'hkM).pl = Pk at *
            generalize (M[k]'hkM).id = Ik at *
            have HF1 := boxed f1
            have hzk := HBk.out.size
            have hzk1 := heap_lt HTk.out
            go_wp2_with fail
            refine HGt.out.mono ?_
            rintro e w8 ⟨rfl, hb8⟩
            have hz8 := hb8.size
            have p1 := hold hb8 HF1.out
            have p2 := hold hb8 (hold HBk.out HD1.out)
            have hT8 := (hb8.block w6.heap.size (by omega)).trans HTk.out
            obtain ⟨q0, q1, q2⟩ := (cells3 hT8).1
            have hga8 : g < w8.heap.size := by omega
            have hw68 : w6.heap.size < w8.heap.size := by omega
            have HN : Box (∀ q, Below w6.heap.size w6 ((w8.alloc (.cells #[.int .i64 gi, .int .i64 gp, .bool gs] 36)).drewN q) ∧ ((w8.alloc (.cells #[.int .i64 gi, .int .i64 gp, .bool gs] 36)).drewN q).heap[w6.heap.size]? = some (.cells #[.int .i64 fi, .int .i64 fp, .bool fs] 36 (0, 0))) := boxed (fun q => by
              have hal : Below w8.heap.size w8 ((w8.alloc (.cells #[.int .i64 gi, .int .i64 gp, .bool gs] 36)).drewN q) := ((Below.refl _ _).alloc (Nat.le_refl _) _).trans (bel_drewN _ _ _)
              exact ⟨(HBk.out.trans (hb8.mono hzk)).trans (hal.mono (by omega)), (hal.block _ hw68).trans hT8⟩)
            clear hb8 hT8 f0 f1 f2 HGt
            by_cases cp : Pk < P
            · have u1 : decide (Pk < P) = true := decide_eq_true cp
              have u2 : decide (fp < gp) = false := decide_eq_false (by have := hmono cp; omega)
              clear cp hmono
              go_wp2_with fail
              go_quiet (fail)
              go_wp2_with fail
              go_roundw
              case rel => exact ⟨k + 1, by omega, by go_num, boxed (HN.out _).1, boxed (HN.out _).2⟩
              case measure => simp [intOf]; omega
            · have u1 : decide (Pk < P) = false := decide_eq_false cp
              clear cp hmono
              go_wp2_with fail
              go_quiet (fail)
              go_wp2_with fail
              go_roundw
              case rel => exact ⟨k + 1, by omega, by go_num, boxed (HN.out _).1, boxed (HN.out _).2⟩
              case measure => simp [intOf]; omega
          · have e : k = i := by omega
            have HNx := boxed (HB6.out.trans (HBk.out.mono hz6))
            subst e
            go_wp2_with fail
            go_roundw
            case rel => exact ⟨k + 1, by omega, by go_num, HNx⟩
            case measure => simp [intOf]; omega
      · have e : i = n := by omega
        have HFi := boxed (HB5.out.trans (HBr.out.mono HB5.out.size))
        subst e
        go_wp2_with fail
        go_ret
        exact ⟨rfl, HFi.out⟩
  · have hk2 : k2 = 2 := by omega
    have u1 : (k2 == 1) = false := by rw [beq_eq_false_iff_ne]; exact hk1
    have u2 : (k2 != 1) = true := by rw [bne, u1]; rfl
    have u3 : (k2 == 2) = true := by rw [beq_iff_eq]; exact hk2
    have u4 : (k2 != 2) = false := by rw [bne, u3]; rfl
    clear hk1 hk2
    have HED := boxed (stp_edt s ⟨k2, A, D, t2⟩ hkk)
    go_wp2_with fail
    refine HSz.out.mono ?_
    rintro e wz ⟨rfl, hwz⟩
    subst wz
    go_wp2_with fail
    refine HPl.out.mono ?_
    rintro e w1 ⟨⟨sb, v, x, rfl, hp1, hr1⟩, hb1⟩
    obtain ⟨a1, c1, rfl, hro⟩ := rbox hr1
    have l2 := laid1 w1 (.cells #[.int .i64 s.sz, .int .i64 s.nx, .slice a1 s.L.length c1] 31)
    have hz1 := hb1.size
    generalize hW2 : w1.alloc (.cells #[.int .i64 s.sz, .int .i64 s.nx, .slice a1 s.L.length c1] 31) = w2 at l2
    obtain ⟨lt8, lb2, lz2⟩ := l2
    have HP2 := boxed (hp1.below lb2)
    have HR2 := boxed (hr1.below lb2)
    have HB2 := boxed (below_step (below_step HBa.out (Nat.le_refl _) hb1) (Nat.le_refl _) lb2)
    have HW2 := boxed hW2
    have HT8 := boxed lt8
    have hL2 := (lb2.block w.heap.size (by omega)).trans ((hb1.block w.heap.size (by omega)).trans HLa.out)
    have HAl := boxed (all16_any HP2.out HOK.out)
    clear hp1 hr1 hb1 hro hW2 lt8 lb2 HPl HSz x0 x1 x2 x3
    go_wp2_with fail
    rw [HW2.out]
    refine HAl.out.mono ?_
    rintro e w3 ⟨⟨g, rfl, hg3⟩, hb3⟩
    have HP3 := boxed (HP2.out.below hb3)
    have HR3 := boxed (HR2.out.below hb3)
    have HG3 := boxed hg3
    have HB3 := boxed (below_step HB2.out (Nat.le_refl _) hb3)
    have hL3 := (hb3.block w.heap.size (heap_lt hL2)).trans hL2
    have hT3 := (hb3.block w1.heap.size (by omega)).trans HT8.out
    have hsb2 := HP2.out.lt
    have hz3 := hb3.size
    have hlo := HP2.out.lo
    have HOw := boxed (fun q (hq : Own sb v q) => show q < w2.heap.size from by
      rcases hq with e | e
      · omega
      · exact (HP2.out.own.lt q e).2)
    obtain ⟨x0, x1, x2, x3⟩ := cells4 hL3
    obtain ⟨y0, y1, y2⟩ := (cells3 hT3).1
    have HSt := boxed (step16_any HP3.out HR3.out (by omega) HOK.out (by omega) ⟨k2, A, D, t2⟩)
    have HOK1 := boxed (stp_ok HOK.out ⟨k2, A, D, t2⟩)
    obtain ⟨F, hF⟩ := HED.out
    obtain ⟨s1, hs1⟩ : ∃ s1, stp s ⟨k2, A, D, t2⟩ = s1 := ⟨_, rfl⟩
    rw [hs1] at HSt HOK1 hF
    have HF := boxed hF
    unfold Opr.val at HSt
    simp only at HSt
    clear hb3 hg3 hL2 hL3 hT3 HAl HR2 HT8 HP2 hs1 hF HED
    go_wp2_with fail
    refine HSt.out.mono ?_
    rintro e w4 ⟨⟨xx, v', rfl, hp4, hr4⟩, hc4⟩
    obtain ⟨a3, c3, rfl, -⟩ := rbox hr4
    have hbw4 : Below wa.heap.size w3 w4 := hc4.below (by omega) (fun q hq => HP3.out.lo2 q hq)
    have HB4 := boxed (HB3.out.trans (hbw4.mono (by omega)))
    have hz4 := hbw4.size
    have hg4 := chg_own HG3.out hc4 (fun q hq hO => by have := HOw.out q hO; have := owns_ge HG3.out q hq; omega)
    have l5 := laid1 w4 (.cells #[.int .i64 s1.sz, .int .i64 s1.nx, .slice a3 s1.L.length c3] 31)
    generalize hW5 : w4.alloc (.cells #[.int .i64 s1.sz, .int .i64 s1.nx, .slice a3 s1.L.length c3] 31) = w5 at l5
    obtain ⟨-, lb5, lz5⟩ := l5
    have HP5 := boxed (hp4.below lb5)
    have HB5 := boxed (HB4.out.trans (lb5.mono HB4.out.size))
    have hg5 := owns_below hg4 lb5
    have hml := srt_len s.L
    have HMs := boxed (fun m (h : m ∈ srt s.L) => (srt_perm s.L).subset h)
    obtain ⟨M, hM⟩ : ∃ M, srt s.L = M := ⟨_, rfl⟩
    obtain ⟨n, hn⟩ : ∃ n, s.L.length = n := ⟨_, rfl⟩
    rw [hM, hn] at hg5 hml
    rw [hM] at HMs
    rw [hn] at hlen
    have HG5 := boxed hg5
    have HML := boxed hml
    have HW5 := boxed hW5
    have hlen1 := HOK1.out.len
    clear hp4 hr4 hc4 hg4 hbw4 lb5 hg5 hml hM hW5 HSt HG3 HP3 HR3 x0 x1 x2 x3 y0 y1 y2
    go_wp2_with fail
    rw [HW5.out]
    go_loopw [12] (fun va wr => ∃ (i : Nat), i ≤ n ∧ va = .int .i64 (i : Nat) ∧ Box (Below w5.heap.size w5 wr)) (fun va _ => ((n : Int) - intOf va).toNat)
    case atStart => exact ⟨0, Nat.zero_le _, rfl, boxed (Below.refl _ _)⟩
    case round =>
      obtain ⟨i, h1, rfl, HBr⟩ := hrel
      by_cases hlt : i < n
      · have hiM : i < M.length := by rw [HML.out]; exact hlt
        have HGr := boxed (owns_below HG5.out HBr.out)
        obtain ⟨ga, ca, ea, hca, d0, d1, d2, -⟩ := own_mk HGr.out i hiM
        injection ea with ea1 _ ea3
        injection ea1 with ea1
        injection ea1 with ea1
        subst ea1; subst ea3
        have hlt2 : (i : Int) < (n : Int) := by omega
        have hmi := HMs.out _ (List.getElem_mem hiM)
        have hget := edt_get HOK.out HF.out hmi
        have hin := edt_in HOK1.out HF.out hmi
        have HMono : Box (∀ k (hk : k < M.length), (M[k]'hk).pl < (M[i]'hiM).pl → (F (M[k]'hk)).pl ≤ (F (M[i]'hiM)).pl) := boxed (fun k hk h => HF.out.2.2 _ _ h)
        have HGt := get16_any (HP5.out.below HBr.out) HOK1.out.rise (by omega) (M[i]'hiM).id
        rw [hget] at HGt
        obtain ⟨fm, hfm⟩ : ∃ fm, F (M[i]'hiM) = fm := ⟨_, rfl⟩
        rw [hfm] at HGt hin HMono
        obtain ⟨fi, fp, fs⟩ := fm
        unfold Mk.val at HGt
        simp only at HGt hin HMono
        have HGt := boxed HGt
        have hga := (HGr.out.lt g rfl).2
        clear hfm hget hmi
        generalize hPi : (M[i]'hiM).pl = P at *
        generalize (M[i]'hiM).id = I at *
        go_wp2_with fail
        refine HGt.out.mono ?_
        rintro e w6 ⟨rfl, hb6⟩
        have HB6 := boxed (HBr.out.trans (hb6.mono HBr.out.size))
        have HPs := boxed (HP5.out.below HB6.out)
        have hz6 := HB6.out.size
        have HSz : Box (∀ q, Calls Try.prog 12 #[.pointer (some ⟨sb, 0, none⟩)] ((w6.alloc (.cells #[.int .i64 fi, .int .i64 fp, .bool fs] 36)).drewN q) fun e w' => e = .returned (.int .i64 s1.sz) ∧ w' = (w6.alloc (.cells #[.int .i64 fi, .int .i64 fp, .bool fs] 36)).drewN q) := boxed (fun q => size16_any ((HPs.out.below ((Below.refl _ _).alloc (Nat.le_refl _) _)).below (bel_drewN _ _ _)))
        have HSt : Box (∀ q, Below w6.heap.size w6 ((w6.alloc (.cells #[.int .i64 fi, .int .i64 fp, .bool fs] 36)).drewN q) ∧ ((w6.alloc (.cells #[.int .i64 fi, .int .i64 fp, .bool fs] 36)).drewN q).heap[w6.heap.size]? = some (.cells #[.int .i64 fi, .int .i64 fp, .bool fs] 36 (0, 0))) := boxed (fun q => ⟨((Below.refl _ _).alloc (Nat.le_refl _) _).trans (bel_drewN _ _ _), heap_alloc_new _ _⟩)
        have v1 : decide (fp < 0) = false := decide_eq_false (by omega)
        have v2 : decide (s1.sz < fp) = false := decide_eq_false (by omega)
        have d1' := hold hb6 d1
        have hga6 : g < w6.heap.size := by have := hb6.size; omega
        have HD1 := boxed d1'
        clear hb6 d0 d1 d1' HGt HGr hin d2
        go_wp2_with fail
        go_quiet ((go_at_call 12; exact Calls.quiet_of_same (HSz.out _)))
        go_wp2_with fail
        go_loopw [15] (fun va wr => ∃ (k : Nat), k ≤ i ∧ va = .int .i64 (k : Nat) ∧ Box (Below w6.heap.size w6 wr) ∧ Box (wr.heap[w6.heap.size]? = some (.cells #[.int .i64 fi, .int .i64 fp, .bool fs] 36 (0, 0)))) (fun va _ => ((i : Int) - intOf va).toNat)
        case atStart => exact ⟨0, Nat.zero_le _, rfl, boxed (HSt.out _).1, boxed (HSt.out _).2⟩
        case round =>
          obtain ⟨k, hk1, rfl, HBk, HTk⟩ := hrel
          by_cases hki : k < i
          · have hkM : k < M.length := by omega
            have HBk5 := boxed (HB6.out.trans (HBk.out.mono hz6))
            have hGk := owns_below HG5.out HBk5.out
            obtain ⟨gb, cb, eb, hcb, f0, f1, f2, -⟩ := own_mk hGk k hkM
            injection eb with eb1 _ eb3
            injection eb1 with eb1
            injection eb1 with eb1
            subst eb1; subst eb3
            have hki2 : (k : Int) < (i : Int) := by omega
            have hkn : (k : Int) < (n : Int) := by omega
            have hget := edt_get HOK.out HF.out (HMs.out _ (List.getElem_mem hkM))
            have hmono := HMono.out k hkM
            have HGt := get16_any (HP5.out.below HBk5.out) HOK1.out.rise (by omega) (M[k]'hkM).id
            rw [hget] at HGt
            obtain ⟨gm, hgm⟩ : ∃ gm, F (M[k]'hkM) = gm := ⟨_, rfl⟩
            rw [hgm] at HGt hmono
            obtain ⟨gi, gp, gs⟩ := gm
            unfold Mk.val at HGt
            simp only at HGt hmono
            have HGt := boxed HGt
            clear hgm hget hGk
            generalize (M[k]'hkM).pl = Pk at *
            generalize (M[k]'hkM).id = Ik at *
            have HF1 := boxed f1
            have hzk := HBk.out.size
            have hzk1 := heap_lt HTk.out
            go_wp2_with fail
            refine HGt.out.mono ?_
            rintro e w8 ⟨rfl, hb8⟩
            have hz8 := hb8.size
            have p1 := hold hb8 HF1.out
            have p2 := hold hb8 (hold HBk.out HD1.out)
            have hT8 := (hb8.block w6.heap.size (by omega)).trans HTk.out
            obtain ⟨q0, q1, q2⟩ := (cells3 hT8).1
            have hga8 : g < w8.heap.size := by omega
            have hw68 : w6.heap.size < w8.heap.size := by omega
            have HN : Box (∀ q, Below w6.heap.size w6 ((w8.alloc (.cells #[.int .i64 gi, .int .i64 gp, .bool gs] 36)).drewN q) ∧ ((w8.alloc (.cells #[.int .i64 gi, .int .i64 gp, .bool gs] 36)).drewN q).heap[w6.heap.size]? = some (.cells #[.int .i64 fi, .int .i64 fp, .bool fs] 36 (0, 0))) := boxed (fun q => by
              have hal : Below w8.heap.size w8 ((w8.alloc (.cells #[.int .i64 gi, .int .i64 gp, .bool gs] 36)).drewN q) := ((Below.refl _ _).alloc (Nat.le_refl _) _).trans (bel_drewN _ _ _)
              exact ⟨(HBk.out.trans (hb8.mono hzk)).trans (hal.mono (by omega)), (hal.block _ hw68).trans hT8⟩)
            clear hb8 hT8 f0 f1 f2 HGt
            by_cases cp : Pk < P
            · have u1 : decide (Pk < P) = true := decide_eq_true cp
              have u2 : decide (fp < gp) = false := decide_eq_false (by have := hmono cp; omega)
              clear cp hmono
              go_wp2_with fail
              go_quiet (fail)
              go_wp2_with fail
              go_roundw
              case rel => exact ⟨k + 1, by omega, by go_num, boxed (HN.out _).1, boxed (HN.out _).2⟩
              case measure => simp [intOf]; omega
            · have u1 : decide (Pk < P) = false := decide_eq_false cp
              clear cp hmono
              go_wp2_with fail
              go_quiet (fail)
              go_wp2_with fail
              go_roundw
              case rel => exact ⟨k + 1, by omega, by go_num, boxed (HN.out _).1, boxed (HN.out _).2⟩
              case measure => simp [intOf]; omega
          · have e : k = i := by omega
            have HNx := boxed (HB6.out.trans (HBk.out.mono hz6))
            subst e
            go_wp2_with fail
            go_roundw
            case rel => exact ⟨k + 1, by omega, by go_num, HNx⟩
            case measure => simp [intOf]; omega
      · have e : i = n := by omega
        have HFi := boxed (HB5.out.trans (HBr.out.mono HB5.out.size))
        subst e
        go_wp2_with fail
        go_ret
        exact ⟨rfl, HFi.out⟩

set_option maxRecDepth 100000 in
theorem lifted (os : Os) (started : os.Started) (H : Type) (enc : TypeId × Value → H) :
    ReturnsInHanded {} Try.checked os 5 .any (Rows.marksOrderSpec.pre6 enc Try.prog Try.f5 Rows.marksOrderRow.domain false) (Rows.marksOrderSpec.post enc Try.prog Try.f5 false true false false) := by
  refine returnsInHanded_of_change_sized (C := Try.checked) own started (by kernel_rfl) Try.func5
    (ChangeSpec.witness6 (enc := enc) (C := Try.checked) false ⟨#[], #[.int .i64 0, .slice none 0 0, .agg #[.int .i64 0, .int .i64 0, .int .i64 0, .bool false]], []⟩ 8 (by kernel_rfl) (by kernel_rfl) (by kernel_rfl) (by kernel_rfl)) ?_
  intro W base args ds gs before hval0 hW hcnd hsz0 _
  have hval : ∀ (j : Nat) t v, Try.f5.params[j]? = some t → args[j]? = some v → Value.okWide Try.prog W .any base t v := hval0
  have hsz : (DataW.weightsEach Try.prog (Try.f5.params.toList ++ Rows.marksOrderSpec.plain.varTypes Try.prog) (ds ++ gs)).all (· ≤ reachBytes) = true := hsz0
  have hW' := hW
  obtain ⟨p, q, hA0, hV, rfl, hfz, hnd⟩ := hW
  have hA : DataW.TrodAll enc Try.prog W 0 (fun _ => true) true Try.f5.params.toList args.toList ds p := hA0
  rw [Try.params5] at hA hval hsz
  obtain ⟨v0, vs0, d0, ds0, p0, q0, hargs, rfl, rfl, h0, r0⟩ := trodAll_cons hA
  obtain ⟨v1, vs1, d1, ds1, p1, q1, rfl, rfl, rfl, h1, r1⟩ := trodAll_cons r0
  obtain ⟨v2, vs2, d2, ds2, p2, q2, rfl, rfl, rfl, h2, r2⟩ := trodAll_cons r1
  obtain ⟨rfl, rfl, rfl⟩ := trodAll_nil r2
  obtain rfl : args = #[v0, v1, v2] := by cases args; simp_all
  obtain ⟨rfl, rfl⟩ := trodVars_none hV
  obtain ⟨a0, rfl, rfl, rfl, w0⟩ := open_int Try.underlying3 (hval 0 3 v0 rfl rfl) h0
  obtain ⟨ao1, n1, cap1, rfl⟩ := okWide_slice Try.underlying22 (hval 1 22 v1 rfl rfl)
  have k1 := h1
  have lt1 : ∀ x ∈ p1, x.block < W.heap.size := by obtain ⟨m, hm⟩ := k1; exact DataW.trod_lt m _ _ _ hm
  obtain ⟨O1, hO1⟩ : ∃ O, OpsAt W.heap.size W ao1 n1 O := by
    obtain ⟨fuel, hf⟩ := k1
    exact open_ops16 hf
  have k2 := h2
  have lt2 : ∀ x ∈ p2, x.block < W.heap.size := by obtain ⟨m, hm⟩ := k2; exact DataW.trod_lt m _ _ _ hm
  obtain ⟨o2, rfl, ho2⟩ : ∃ o : Opr, v2 = o.val ∧ I64 o.k ∧ I64 o.a ∧ I64 o.b := by
    obtain ⟨fuel, hf⟩ := k2
    exact op16_value hf
  clear hA0 hval0
  refine (walk W a0 w0 ao1 n1 cap1 O1 hO1 o2 ho2).mono fun e W' ⟨he, hg⟩ => ?_
  subst he
  exact ⟨_, rfl, _, _, _, [], _, [], hW', trodAll_mk1 (shut_bool Try.underlying4 _), (trodAll_cons_mk (shut_int Try.underlying3 w0) (trodAll_cons_mk (Below.trod laidOut (by kernel_rfl) (of_decide_eq_true (by kernel_rfl)) k1 hg lt1) (trodAll_cons_mk (Below.trod laidOut (by kernel_rfl) (of_decide_eq_true (by kernel_rfl)) k2 hg lt2) trodAll_mk0))), rfl, hg.frame _, fun h => by cases h⟩

theorem proved : Rows.MarksOrderSaid :=
  OpenClaim.holds_of_wide 5 Try.f5 rfl rfl rfl rfl rfl rfl rfl ⟨rfl, rfl, rfl, rfl, rfl⟩ rfl rfl rfl rfl rfl (by kernel_rfl) Try.func5 (by kernel_rfl)
    (of_decide_eq_true (by kernel_rfl)) (by unfold Func.isWrapper; first | (rw [if_pos (by decide +kernel)]; kernel_rfl) | (rw [if_neg (by decide +kernel)]; exact ⟨rfl, rfl⟩))
    (fun os started H enc _ => lifted os started H enc)
#print axioms proved
end Go.Proofs.Ytdaccgnfhagoeaa.marksOrder
