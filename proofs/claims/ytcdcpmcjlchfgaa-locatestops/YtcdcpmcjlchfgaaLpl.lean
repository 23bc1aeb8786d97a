/-
  What the document's Stops answers.
-/
import Derived.Test.YtcdcpmcjlchfgaaLpj
import Derived.Test.YtcdcpmcjlchfgaaLpk
namespace Go.Proofs.Ytcdcpmcjlchfgaa
open Go.RowKit
set_option linter.unusedSimpArgs false
set_option linter.unusedVariables false

theorem info_rstop : (Try.prog.info? 53).map (fun i => (i.zero, i.size, i.bytes)) = some (some (.agg #[.int .i64 0, .int .i64 0]), 2, 16) := by kernel_rfl
theorem it_within (t : ByteArray) (N k m : Nat) (hN : Right t N) (hk : k < N) (hm : m ≤ N) : decide ((it t m : Int) ≤ (it t k : Int)) = decide (m ≤ k) := by
  by_cases c : m ≤ k
  · rw [decide_eq_true c]
    by_cases d : m = k
    · subst d; simp
    · have := it_mono t N hN.1.1 m k (by omega) (by omega)
      exact decide_eq_true (by omega)
  · rw [decide_eq_false c]
    have := it_mono t N hN.1.1 k m (by omega) (by omega)
    exact decide_eq_false (by omega)
set_option maxRecDepth 100000 in
set_option maxHeartbeats 16000000 in
theorem refstops_any (SF : Nat → Prop) (fo : Option Addr) (n fc : Nat) (G : Nat → Sty) (w : World) (h : StysAt SF w fo n G) (hg : ∀ i, i < n → flt (G i) = 0) (S : Nat → Prop) (x : Lne) (hp : P2At S w x.ra x.rn x.L x.Y) (hrn : x.rn ≤ maxLen ∧ x.rn ≤ x.rc) (N : Nat) (hN : Right x.tx N) (hs : x.tx.size ≤ 1000) :
    Calls Try.prog 20 #[.slice fo n fc, x.val] w fun e w' => (∃ ro rc, e = .returned (.slice ro (N + 1) rc) ∧ P2At (fun b => w.heap.size ≤ b) w' ro (N + 1) (fun k => (it x.tx k : Int)) (fun k => xs (ofS G n) x.L x.Y x.rn x.num x.den x.tx N k)) ∧ Below w.heap.size w w' := by
  obtain ⟨i0, hi0, hz0', hz1, hz2⟩ := info_parts info_rstop
  obtain ⟨w0, hw0, hB0, hz0, hLn⟩ := lnat_new w x
  have hNs : N ≤ 1000 := by have := cnt_le x.tx N hN.1; have := it_le x.tx N; omega
  have hru := runes_any x.tx w0 (by omega) N hN.1
  have HSt := boxed h
  have HNN := boxed hN
  have HP := boxed hp
  have HRN := boxed hrn
  have HX1 : Box (∀ k, k < N → xs (ofS G n) x.L x.Y x.rn x.num x.den x.tx N (k + 1) = ad (xs (ofS G n) x.L x.Y x.rn x.num x.den x.tx N k) (wdL (ofS G n (rs x.L x.Y x.rn 0 (it x.tx k))) x.num x.den (rn x.tx k) (decide (k < ls x.tx N)))) := boxed (fun k hk => rfl)
  have HX0 : Box (xs (ofS G n) x.L x.Y x.rn x.num x.den x.tx N 0 = 0) := boxed rfl
  have HXb : Box (∀ k, -1152921504606846976 ≤ xs (ofS G n) x.L x.Y x.rn x.num x.den x.tx N k ∧ xs (ofS G n) x.L x.Y x.rn x.num x.den x.tx N k ≤ 1152921504606846976) := boxed (fun k => xs_le _ _ _ _ _ _ _ _ _)
  have HBn : Box (∀ a, 0 ≤ (ofS G n a).sp ∧ (ofS G n a).sp ≤ 1048576) := boxed (fun a => bnd_sp (ofS_bnd hg a))
  have HIL := boxed (it_le x.tx)
  have HLs := boxed (ls_le x.tx N)
  generalize hXX : (fun k => xs (ofS G n) x.L x.Y x.rn x.num x.den x.tx N k) = X
  have HY1 : Box (∀ k, k < N → X (k + 1) = ad (X k) (wdL (ofS G n (rs x.L x.Y x.rn 0 (it x.tx k))) x.num x.den (rn x.tx k) (decide (k < ls x.tx N)))) := boxed (by rw [← hXX]; exact HX1.out)
  have HY0 : Box (X 0 = 0) := boxed (by rw [← hXX]; exact HX0.out)
  have HYb : Box (∀ k, -1152921504606846976 ≤ X k ∧ X k ≤ 1152921504606846976) := boxed (by rw [← hXX]; exact HXb.out)
  have HW0 := boxed hw0
  have HB0 := boxed hB0
  have HLn := boxed hLn
  have HS := boxed hs
  obtain ⟨c0, -⟩ := (hLn w0 (Below.refl _ _)).cells
  clear h hg hp hw0 hB0 hLn hrn hXX hN HX0 HX1 HXb
  generalize badAt x.tx N = Bd at *
  unfold Lne.val
  go_enter Try.func20, Try.ntmps20
  go_upto_region 1 with (fail)
  rw [HW0.out]
  go_wp2_with fail
  refine hru.mono ?_
  rintro e w1 ⟨ao1, c1, ao2, c2, rfl, hd1, hd2, hb1⟩
  have HD1 := boxed hd1
  have HD2 := boxed hd2
  have HB1 := boxed (below_step HB0.out (Nat.le_refl _) hb1)
  have HL1 := boxed (HLn.out _ hb1)
  clear hd1 hd2 hru c0
  obtain ⟨c0, -⟩ := HL1.out.cells
  have hen := refend_any x.tx w1 hs N HNN.out
  have HB01 := boxed hb1
  clear hb1
  go_wp2_with fail
  refine hen.mono ?_
  rintro e w2 ⟨rfl, hb2⟩
  have HD1 := boxed (HD1.out.below hb2)
  have HD2 := boxed (HD2.out.below hb2)
  have HB2 := boxed (below_step HB1.out (Nat.le_refl _) hb2)
  have HLn2 := boxed (fun W (hb : Below w2.heap.size w2 W) => HLn.out W (below_step HB01.out (Nat.le_refl _) (below_step hb2 (Nat.le_refl _) hb)))
  clear hb2 hen c0
  obtain ⟨EN, hEN⟩ : ∃ EN, it x.tx (ls x.tx N) = EN := ⟨_, rfl⟩
  have HEN := boxed hEN
  rw [hEN]
  clear hEN
  go_wp2_with fail
  go_loopw [8, 9, 11] (fun ov xv iv wr => ∃ k : Nat, k ≤ N ∧ iv = .int .i64 (k : Nat) ∧ xv = .int .i64 (X k) ∧ Box (wr.ownsRow w2.heap.size 53 2 ov k (p2f (fun k => (it x.tx k : Int)) X k)) ∧ Box (Below w2.heap.size w2 wr)) (fun _ _ iv _ => N - (intOf iv).toNat)
  case atStart => exact ⟨0, Nat.zero_le _, rfl, by rw [HY0.out], boxed (World.ownsRow_nil _ _ _ _), boxed (Below.refl _ _)⟩
  case round =>
    obtain ⟨k, hk, rfl, rfl, HO, HB⟩ := hrel
    by_cases hlt : k < N
    · have t0 : decide ((k : Int) < (N : Int)) = true := decide_eq_true (by omega)
      have hlt2 : (k : Int) < (N : Int) := by omega
      have HQ1 := boxed (fun W (hb : Below w2.heap.size w2 W) => (HD1.out.below hb).get k (by rw [rns_len]; exact hlt))
      have HQ2 := boxed (fun W (hb : Below w2.heap.size w2 W) => (HD2.out.below hb).get k (by rw [its_len]; exact hlt))
      obtain ⟨g1, f1, rfl, -, -⟩ := HQ1.out _ HB.out
      obtain ⟨g2, f2, rfl, -, -⟩ := HQ2.out _ HB.out
      have HQ : Box (∀ W, Below w2.heap.size w2 W → W.cell? ⟨g1, f1 + k, none⟩ = some (.int .i64 (rn x.tx k : Nat)) ∧ W.cell? ⟨g2, f2 + k, none⟩ = some (.int .i64 (it x.tx k : Nat))) := boxed (fun W hb => by
        obtain ⟨b1, o1, e1, -, q1⟩ := HQ1.out W hb
        obtain ⟨b2, o2, e2, -, q2⟩ := HQ2.out W hb
        injection e1 with e1
        injection e1 with e1 e1'
        subst e1; subst e1'
        injection e2 with e2
        injection e2 with e2 e2'
        subst e2; subst e2'
        rw [rns_get x.tx N k hlt] at q1
        rw [its_get x.tx N k hlt] at q2
        exact ⟨q1, q2⟩)
      have hxb := HYb.out k
      have hitk : it x.tx k ≤ 1000 := by have := HIL.out k; omega
      have hrl := rn_le x.tx k
      have HP2 := boxed (p2f_succ (fun k => (it x.tx k : Int)) X k)
      have HXk := boxed (HY1.out k hlt)
      have HTE : Box (decide ((EN : Int) ≤ (it x.tx k : Int)) = decide (ls x.tx N ≤ k)) := boxed (by rw [← HEN.out]; exact it_within x.tx N k _ HNN.out hlt HLs.out)
      have hst := boxed (fun W (hb : Below w2.heap.size w2 W) => refrun_any S x.ra x.rn x.rc x.L x.Y (it x.tx k : Int) W (HP.out.below (below_step HB2.out (Nat.le_refl _) hb)) HRN.out.1 (by omega))
      have hof := boxed (fun W a (hb : Below w2.heap.size w2 W) => refof_any SF fo n fc G W (HSt.out.below (below_step HB2.out (Nat.le_refl _) hb)) a)
      have hwd := boxed (fun W a (hb : Below w2.heap.size w2 W) => refwidth_any SF fo n fc G W (HSt.out.below (below_step HB2.out (Nat.le_refl _) hb)) a (rn x.tx k : Int))
      have hkd := fun W => refkind_any (rn x.tx k : Int) W
      clear HQ1 HQ2
      generalize rn x.tx k = r at *
      generalize it x.tx k = A at *
      generalize rs x.L x.Y x.rn 0 (A : Int) = ST at *
      have hof' := boxed (fun W hb => hof.out W ST hb)
      have hwd' := boxed (fun W hb => hwd.out W ST hb)
      have hsp := HBn.out ST
      clear hof hwd
      generalize ofS G n ST = s at *
      have hown := HO.out
      obtain ⟨ro, rc, hro⟩ := own_shape hown
      subst hro
      have hz := HB.out.size
      obtain ⟨q1, q2⟩ := HQ.out _ HB.out
      have hcn : ∀ j u, ([.int .i64 (A : Int), .int .i64 (X k)] : List Value)[j]? = some u → (wr.alloc (.cells #[.int .i64 (A : Int), .int .i64 (X k)] 53)).cell? ((⟨wr.heap.size, 0, none⟩ : Addr).add j) = some u := by
        intro j u hj
        match j, hj with
        | 0, hj => simp at hj; subst hj; simp [Addr.add]
        | 1, hj => simp at hj; subst hj; simp [Addr.add]
      have HCN := boxed hcn
      have HSZ : Box (w2.heap.size ≤ (wr.alloc (.cells #[.int .i64 (A : Int), .int .i64 (X k)] 53)).heap.size) := boxed (by simp; omega)
      have HGr : Box (∀ W2, (wr.alloc (.cells #[.int .i64 (A : Int), .int .i64 (X k)] 53)).grownBy W2 (Value.slice ro k rc).ownBlock → Below w2.heap.size w2 W2) := boxed (fun W2 hg => (HB.out.alloc hz _).grown hg HSZ.out (fun b hb => (hown.lt b hb).1))
      clear hcn
      go_wp2_with (at_builtin; refine wpList_append_own _ rfl _ _ 47 rfl w2.heap.size 53 i0 _ 2 16 Try.underlying47 hi0 hz0' hz1 hz2 rfl (by decide) _ _ _ rfl (hown.alloc _) ⟨wr.heap.size, 0, none⟩ 1 1 [.int .i64 (A : Int), .int .i64 (X k)] rfl rfl HCN.out (by intro u hu; simp at hu; rcases hu with rfl | rfl <;> rfl) (by unfold maxLen; omega) (by omega) HSZ.out ?_)
      intro v' w3 ho3 hg3 _
      have HO3 : Box (w3.ownsRow w2.heap.size 53 2 v' (k + 1) (p2f (fun k => (it x.tx k : Int)) X k ++ [.int .i64 (A : Int), .int .i64 (X k)])) := boxed ho3
      have HB3 := boxed (HGr.out _ hg3)
      clear ho3 hg3 HGr HSZ HCN hown q1 q2
      have HD : Box (Below w2.heap.size w2 w3.drew) := boxed HB3.out.drew
      have HC : Box (∀ W, Below w2.heap.size w2 W → W.cell? ⟨w.heap.size, 1, none⟩ = some (.slice x.ra x.rn x.rc) ∧ W.cell? ⟨g2, f2 + k, none⟩ = some (.int .i64 (A : Nat))) := boxed (fun W hb => ⟨(HLn2.out W hb).cells.2.1, (HQ.out W hb).2⟩)
      go_wp2_with fail
      go_region_held3 (fun W => W.cell? ⟨w.heap.size, 1, none⟩ = some (.slice x.ra x.rn x.rc) ∧ W.cell? ⟨g2, f2 + k, none⟩ = some (.int .i64 (A : Nat)))
        (first | with_reducible exact HC.out _ HD.out)
        (first | (go_at_call 39; refine (hst.out _ HD.out).mono ?_; rintro e w4 ⟨rfl, hw4⟩; subst hw4))
      have HO5 : Box (w3.drew.ownsRow w2.heap.size 53 2 v' (k + 1) (p2f (fun k => (it x.tx k : Int)) X k ++ [.int .i64 (A : Int), .int .i64 (X k)])) := boxed HO3.out.drew
      clear HO3 HC hst HO
      generalize w3.drew = w5 at *
      go_wp2_with fail
      refine (hof'.out _ HD.out).mono ?_
      rintro e w6 ⟨rfl, hb6⟩
      have HB6 := boxed (below_step HD.out (Nat.le_refl _) hb6)
      have HO6 := boxed (owns_below HO5.out hb6)
      clear hb6 hof' HO5
      obtain ⟨sh0, sp, st, sh, shy, sot, sra, srn, src, skp, sR⟩ := s
      unfold Sty.val
      simp only at hsp
      have HC6 : Box (∀ W, Below (w6.alloc (.cells #[.int .i64 sh0, .int .i64 sp, .int .i64 st, .int .i64 sh, .int .i64 shy, .int .i64 sot, .slice sra srn src, .bool skp] 73)).heap.size (w6.alloc (.cells #[.int .i64 sh0, .int .i64 sp, .int .i64 st, .int .i64 sh, .int .i64 shy, .int .i64 sot, .slice sra srn src, .bool skp] 73)) W → W.cell? ⟨w6.heap.size, 1, none⟩ = some (.int .i64 sp) ∧ W.cell? ⟨w6.heap.size, 2, none⟩ = some (.int .i64 st) ∧ W.cell? ⟨w6.heap.size, 3, none⟩ = some (.int .i64 sh)) := boxed (fun W hb => ⟨kept_first hb 1, kept_first hb 2, kept_first hb 3⟩)
      have HB7 := boxed (HB6.out.alloc HB6.out.size (.cells #[.int .i64 sh0, .int .i64 sp, .int .i64 st, .int .i64 sh, .int .i64 shy, .int .i64 sot, .slice sra srn src, .bool skp] 73))
      have HO7 := boxed (HO6.out.alloc (.cells #[.int .i64 sh0, .int .i64 sp, .int .i64 st, .int .i64 sh, .int .i64 shy, .int .i64 sot, .slice sra srn src, .bool skp] 73))
      obtain ⟨w7, hw7⟩ : ∃ w7, w6.alloc (.cells #[.int .i64 sh0, .int .i64 sp, .int .i64 st, .int .i64 sh, .int .i64 shy, .int .i64 sot, .slice sra srn src, .bool skp] 73) = w7 := ⟨_, rfl⟩
      rw [hw7] at HC6 HB7 HO7
      have HW7 := boxed hw7
      clear hw7 HO6
      obtain ⟨q1, q2⟩ := HQ.out _ HB7.out
      go_upto_region 11 with (fail)
      rw [HW7.out]
      have HLn7 := HLn2.out _ HB7.out
      have HPf : Box (∀ W, Below w7.heap.size w7 W → Below w2.heap.size w2 W ∧ W.ownsRow w2.heap.size 53 2 v' (k + 1) (p2f (fun k => (it x.tx k : Int)) X (k + 1))) := boxed (fun W hb => ⟨below_step HB7.out (Nat.le_refl _) hb, by rw [HP2.out]; exact owns_below HO7.out hb⟩)
      clear HO7 HW7 HD HB3 HB HB6
      go_wp2_with fail
      refine (hkd _).mono ?_
      rintro e w8 ⟨rfl, hb8⟩
      have HB8 := boxed hb8
      have hb28 := below_step HB7.out (Nat.le_refl _) hb8
      have HB28 := boxed hb28
      obtain ⟨q1, q2⟩ := HQ.out _ hb28
      obtain ⟨d1, d2, d3⟩ := HC6.out _ hb8
      obtain ⟨-, -, c2, c3, -⟩ := (HLn2.out _ hb28).cells
      clear hb8 hkd hb28
      by_cases hk1 : kd (r : Int) = 1
      · have t1 : (kd (r : Int) != 1) = false := by simpa using hk1
        have HXk1 : Box (X (k + 1) = ad (X k) (if decide (k < ls x.tx N) = true then glu ⟨sh0, sp, st, sh, shy, sot, sra, srn, src, skp, sR⟩ x.num x.den else 0)) := boxed (by rw [HXk.out]; unfold wdL; rw [if_neg (by simpa using hk1)])
        clear hk1 HXk hwd'
        generalize kd (r : Int) = K at *
        by_cases hw : ls x.tx N ≤ k
        · have t2 : decide ((EN : Int) ≤ (A : Int)) = true := by rw [HTE.out]; exact decide_eq_true hw
          have t2n : decide (EN ≤ A) = true := by simpa using t2
          have HV : Box (X (k + 1) = X k) := boxed (by
            rw [HXk1.out, decide_eq_false (by omega), if_neg (by simp)]
            unfold ad
            rw [cl_same _ hxb.1 hxb.2, cl_same 0 (by omega) (by omega), Int.add_zero, cl_same _ hxb.1 hxb.2])
          obtain ⟨HBF, HOF⟩ := HPf.out _ HB8.out
          replace HBF := boxed HBF
          replace HOF := boxed HOF
          clear hw HXk1 HTE d1 d2 d3 c2 c3
          go_wp2_with fail
          go_roundw
          case rel => exact ⟨k + 1, by omega, by go_num, by rw [HV.out], HOF, HBF⟩
          case measure => simp [intOf] <;> omega
        · have t2 : decide ((EN : Int) ≤ (A : Int)) = false := by rw [HTE.out]; exact decide_eq_false hw
          have t2n : decide (EN ≤ A) = false := by simpa using t2
          have HG : Box (X (k + 1) = ad (X k) (glu ⟨sh0, sp, st, sh, shy, sot, sra, srn, src, skp, sR⟩ x.num x.den)) := boxed (by rw [HXk1.out, decide_eq_true (by omega), if_pos rfl])
          clear hw HXk1 HTE
          by_cases g1 : 0 < x.num
          · have t3 : decide (0 < x.num) = true := decide_eq_true g1
            have t4 : decide (x.num < 0) = false := decide_eq_false (by omega)
            have HV : Box (X (k + 1) = ad (X k) (sp + scl st x.num x.den)) := boxed (by rw [HG.out]; unfold glu; rw [if_pos g1])
            have hsc := fun W => refscale_any st x.num x.den W
            have hsb := scl_le st x.num x.den
            have HC9 := boxed (fun W (hb : Below w8.heap.size w8 W) => (HLn2.out _ (below_step HB28.out (Nat.le_refl _) hb)).cells)
            clear g1 HG
            generalize scl st x.num x.den = Z at *
            go_wp2_with fail
            refine (hsc _).mono ?_
            rintro e w9 ⟨rfl, hb9⟩
            obtain ⟨-, -, c2, c3, -⟩ := HC9.out _ hb9
            obtain ⟨HBF, HOF⟩ := HPf.out _ (below_step HB8.out (Nat.le_refl _) hb9)
            replace HBF := boxed HBF
            replace HOF := boxed HOF
            clear hb9 hsc d1 d2 d3
            go_wp2_with fail
            refine (refadd_any (X k) (sp + Z) _).mono ?_
            rintro e w10 ⟨rfl, hw10⟩
            subst hw10
            go_wp2_with fail
            go_roundw
            case rel => exact ⟨k + 1, by omega, by go_num, by rw [HV.out], HOF, HBF⟩
            case measure => simp [intOf] <;> omega
          · have t3 : decide (0 < x.num) = false := decide_eq_false g1
            by_cases g2 : x.num < 0
            · have t4 : decide (x.num < 0) = true := decide_eq_true g2
              have HV : Box (X (k + 1) = ad (X k) (sp + scl sh x.num x.den)) := boxed (by rw [HG.out]; unfold glu; rw [if_neg g1, if_pos g2])
              have hsc := fun W => refscale_any sh x.num x.den W
              have hsb := scl_le sh x.num x.den
              clear g1 g2 HG
              generalize scl sh x.num x.den = Z at *
              go_wp2_with fail
              refine (hsc _).mono ?_
              rintro e w9 ⟨rfl, hb9⟩
              obtain ⟨HBF, HOF⟩ := HPf.out _ (below_step HB8.out (Nat.le_refl _) hb9)
              replace HBF := boxed HBF
              replace HOF := boxed HOF
              clear hb9 hsc d1 d2 d3 c2 c3
              go_wp2_with fail
              refine (refadd_any (X k) (sp + Z) _).mono ?_
              rintro e w10 ⟨rfl, hw10⟩
              subst hw10
              go_wp2_with fail
              go_roundw
              case rel => exact ⟨k + 1, by omega, by go_num, by rw [HV.out], HOF, HBF⟩
              case measure => simp [intOf] <;> omega
            · have t4 : decide (x.num < 0) = false := decide_eq_false g2
              have HV : Box (X (k + 1) = ad (X k) sp) := boxed (by rw [HG.out]; unfold glu; rw [if_neg g1, if_neg g2, Int.add_zero])
              obtain ⟨HBF, HOF⟩ := HPf.out _ HB8.out
              replace HBF := boxed HBF
              replace HOF := boxed HOF
              clear g1 g2 HG
              go_wp2_with fail
              refine (refadd_any (X k) sp _).mono ?_
              rintro e w10 ⟨rfl, hw10⟩
              subst hw10
              go_wp2_with fail
              go_roundw
              case rel => exact ⟨k + 1, by omega, by go_num, by rw [HV.out], HOF, HBF⟩
              case measure => simp [intOf] <;> omega
      · have t1 : (kd (r : Int) != 1) = true := by simpa using hk1
        have HV : Box (X (k + 1) = ad (X k) (wdS ⟨sh0, sp, st, sh, shy, sot, sra, srn, src, skp, sR⟩ r)) := boxed (by rw [HXk.out]; unfold wdL; rw [if_pos hk1])
        clear hk1 HXk
        generalize kd (r : Int) = K at *
        go_wp2_with fail
        refine (hwd'.out _ HB28.out).mono ?_
        rintro e w9 ⟨rfl, hb9⟩
        obtain ⟨HBF, HOF⟩ := HPf.out _ (below_step HB8.out (Nat.le_refl _) hb9)
        replace HBF := boxed HBF
        replace HOF := boxed HOF
        clear hb9 hwd' q1 q2 d1 d2 d3 c2 c3
        generalize wdS ⟨sh0, sp, st, sh, shy, sot, sra, srn, src, skp, sR⟩ r = V at *
        go_wp2_with fail
        refine (refadd_any (X k) V _).mono ?_
        rintro e w10 ⟨rfl, hw10⟩
        subst hw10
        go_wp2_with fail
        go_roundw
        case rel => exact ⟨k + 1, by omega, by go_num, by rw [HV.out], HOF, HBF⟩
        case measure => simp [intOf] <;> omega
    · obtain rfl : k = N := by omega
      have t0 : decide ((k : Int) < (k : Int)) = false := decide_eq_false (by omega)
      have hown := HO.out
      obtain ⟨ro, rc, hro⟩ := own_shape hown
      subst hro
      have hz := HB.out.size
      obtain ⟨c0, -⟩ := (HLn2.out _ HB.out).cells
      have hlen := HS.out
      have hsz : (x.tx.size : Int) = (it x.tx k : Int) := by rw [HNN.out.2]
      have HP2 := boxed (p2f_succ (fun k => (it x.tx k : Int)) X k)
      have hcn : ∀ j u, ([.int .i64 (x.tx.size : Int), .int .i64 (X k)] : List Value)[j]? = some u → (wr.alloc (.cells #[.int .i64 (x.tx.size : Int), .int .i64 (X k)] 53)).cell? ((⟨wr.heap.size, 0, none⟩ : Addr).add j) = some u := by
        intro j u hj
        match j, hj with
        | 0, hj => simp at hj; subst hj; simp [Addr.add]
        | 1, hj => simp at hj; subst hj; simp [Addr.add]
      have HCN := boxed hcn
      have HSZ : Box (w2.heap.size ≤ (wr.alloc (.cells #[.int .i64 (x.tx.size : Int), .int .i64 (X k)] 53)).heap.size) := boxed (by simp; omega)
      have HFi : Box (∀ v' W2, (wr.alloc (.cells #[.int .i64 (x.tx.size : Int), .int .i64 (X k)] 53)).grownBy W2 (Value.slice ro k rc).ownBlock → W2.ownsRow w2.heap.size 53 2 v' (k + 1) (p2f (fun k => (it x.tx k : Int)) X k ++ [.int .i64 (x.tx.size : Int), .int .i64 (X k)]) → (∃ ro rc, v' = .slice ro (k + 1) rc ∧ P2At (fun b => w.heap.size ≤ b) W2 ro (k + 1) (fun k => (it x.tx k : Int)) X) ∧ Below w.heap.size w W2) := boxed (fun v' W2 hg ho => by
        obtain ⟨ro', rc', e⟩ := own_shape ho
        subst e
        have ho2 : W2.ownsRow w2.heap.size 53 2 (.slice ro' (k + 1) rc') (k + 1) (p2f (fun k => (it x.tx k : Int)) X (k + 1)) := by rw [HP2.out, ← hsz]; exact ho
        have hb : Below w2.heap.size w2 W2 := (HB.out.alloc hz _).grown hg HSZ.out (fun b hb => (hown.lt b hb).1)
        have hz2 := HB2.out.size
        refine ⟨⟨ro', rc', rfl, (own_p2 ho2 (fun i hi => ⟨?_, ?_⟩)).keep (fun b i u hb hc => ⟨?_, hc⟩)⟩, below_step HB2.out (Nat.le_refl _) hb⟩
        · have := HIL.out i
          unfold I64; omega
        · have := HYb.out i
          unfold I64; omega
        · show w.heap.size ≤ b
          omega)
      clear hcn hsz HY1
      go_wp2_with (at_builtin; refine wpList_append_own _ rfl _ _ 47 rfl w2.heap.size 53 i0 _ 2 16 Try.underlying47 hi0 hz0' hz1 hz2 rfl (by decide) _ _ _ rfl (hown.alloc _) ⟨wr.heap.size, 0, none⟩ 1 1 [.int .i64 (x.tx.size : Int), .int .i64 (X k)] rfl rfl HCN.out (by intro u hu; simp at hu; rcases hu with rfl | rfl <;> rfl) (by unfold maxLen; omega) (by omega) HSZ.out ?_)
      intro v' w3 ho3 hg3 _
      have HR := boxed (HFi.out _ _ hg3 ho3)
      clear ho3 hg3 HFi HCN hown HSZ
      go_wp2_with fail
      go_ret
      obtain ⟨⟨ro', rc', e, h1⟩, h2⟩ := HR.out
      exact ⟨⟨ro', rc', by rw [← e]; rfl, h1⟩, h2⟩
end Go.Proofs.Ytcdcpmcjlchfgaa
