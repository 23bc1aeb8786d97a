/-
  What the program's Stops answers.
-/
import Derived.Test.YtcdcpmcjlchfgaaLpi
import Derived.Deep.DeepCutAuto
import Derived.Deep.MidRow
namespace Go.Proofs.Ytcdcpmcjlchfgaa
open Go.RowKit
set_option linter.unusedSimpArgs false
set_option linter.unusedVariables false

theorem own_block {w w' : World} {B e s g n cap : Nat} {xs : List Value} (h : w.ownsRow B e s (.slice (some ⟨g, 0, none⟩) n cap) n xs) (k : w'.heap[g]? = w.heap[g]?) : w'.ownsRow B e s (.slice (some ⟨g, 0, none⟩) n cap) n xs := by
  refine ⟨h.1, ?_⟩
  rcases h.2 with ⟨e, _⟩ | ⟨g', c', cu, e, h1, h2, h3⟩
  · cases e
  · injection e with e1 e2 e3
    injection e1 with e1
    injection e1 with e1
    subst e1
    exact Or.inr ⟨g, c', cu, by rw [e3], h1, k.trans h2, h3⟩
theorem info_stop : (Try.prog.info? 52).map (fun i => (i.zero, i.size, i.bytes)) = some (some (.agg #[.int .i64 0, .int .i64 0]), 2, 16) := by kernel_rfl
/-- A space isn't seen: so it is all the same whether the last seen rune's beginning or its end is asked. -/
theorem within_same (s : Sty) (nu de : Int) (t : ByteArray) (N k : Nat) (hN : Right t N) (hk : k < N) : wdP s nu de (rn t k) (decide ((it t k : Int) < lsAt t N)) = wdP s nu de (rn t k) (decide (k < ls t N)) := by
  by_cases c : kd (rn t k : Int) = 1
  · have e : decide ((it t k : Int) < lsAt t N) = decide (k < ls t N) := by
      have hl := ls_le t N
      unfold lsAt
      by_cases z : ls t N = 0
      · rw [if_pos z, z]
        simp <;> omega
      · rw [if_neg z]
        have hs := ls_seen t N (by omega)
        have hne : k ≠ ls t N - 1 := by
          intro e
          rw [← e] at hs
          unfold sn at hs
          rw [c] at hs
          simp at hs
        by_cases l : k < ls t N
        · rw [decide_eq_true l]
          have := it_mono t N hN.1.1 k (ls t N - 1) (by omega) (by omega)
          exact decide_eq_true (by omega)
        · rw [decide_eq_false l]
          have := it_mono t N hN.1.1 (ls t N - 1) k (by omega) (by omega)
          exact decide_eq_false (by omega)
    rw [e]
  · unfold wdP
    rw [if_pos c, if_pos c]
/-- The stops under way: k runes are gone by, m stops are there, and the styles of the bytes up to y were asked. -/
structure StI (w : World) (x : Lne) (X : Nat → Int) (N mb bl ib k m : Nat) (y : Int) (W : World) : Prop where
  ad : w.heap.size < mb ∧ mb < bl ∧ bl + 1 < ib
  ln : LnAt W w.heap.size x
  itr : W.heap[ib]? = some (.stringIter x.tx (it x.tx k))
  alg : AlgAt (fun b => b < w.heap.size) W bl (bl + 1) x.L x.Y x.rn y
  own : W.ownsRow mb 52 2 (.slice (some ⟨mb, 0, none⟩) m (N + 1)) m (p2f (fun k => (it x.tx k : Int)) X m)
  bel : Below w.heap.size w W
theorem StI.any {w : World} {x : Lne} {X : Nat → Int} {N mb bl ib k m k' m' : Nat} {y y' : Int} {W W' : World} (h : StI w x X N mb bl ib k m y W) (hl : W'.heap[w.heap.size]? = W.heap[w.heap.size]?) (hi : W'.heap[ib]? = some (.stringIter x.tx (it x.tx k'))) (ha : AlgAt (fun b => b < w.heap.size) W' bl (bl + 1) x.L x.Y x.rn y') (ho : W'.ownsRow mb 52 2 (.slice (some ⟨mb, 0, none⟩) m' (N + 1)) m' (p2f (fun k => (it x.tx k : Int)) X m')) (hb : Below w.heap.size w W') : StI w x X N mb bl ib k' m' y' W' :=
  ⟨h.ad, by unfold LnAt; rw [hl]; exact h.ln, hi, ha, ho, hb⟩
theorem kp_low {B : Nat} {w w' : World} (h : Below B w w') : Kp (fun b => b < B) (fun b => b < B) w w' := fun b i u hb hc => ⟨hb, by rw [h.cell (p := ⟨b, i, none⟩) hb]; exact hc⟩
theorem StI.lts {w : World} {x : Lne} {X : Nat → Int} {N mb bl ib k m : Nat} {y : Int} {W : World} (h : StI w x X N mb bl ib k m y W) : ib < W.heap.size := heap_lt h.itr
theorem StI.mono {w : World} {x : Lne} {X : Nat → Int} {N mb bl ib k m : Nat} {y z : Int} {W : World} (h : StI w x X N mb bl ib k m y W) (hz : y ≤ z) : StI w x X N mb bl ib k m z W := ⟨h.ad, h.ln, h.itr, h.alg.mono hz, h.own, h.bel⟩
theorem StI.next {w : World} {x : Lne} {X : Nat → Int} {N mb bl ib k m : Nat} {y : Int} {W : World} (h : StI w x X N mb bl ib k m y W) : StI w x X N mb bl ib (k + 1) m y (W.iterAt ib x.tx (it x.tx (k + 1))) := by
  have ha := h.ad
  have hb := Lib.below_iterAt (Below.refl w.heap.size W) (k := ib) (by omega) x.tx (it x.tx (k + 1))
  have ho := fun b (hne : b ≠ ib) => Lib.iterAt_other W ib b x.tx (it x.tx (k + 1)) hne
  exact h.any (ho _ (by omega)) (Lib.iterAt_heap W ib x.tx _ _ h.itr) (h.alg.keep (ho _ (by omega)) (ho _ (by omega)) (kp_low hb)) (own_block h.own (ho _ (by omega))) (h.bel.trans hb)
theorem StI.push {w : World} {x : Lne} {X : Nat → Int} {N mb bl ib k m : Nat} {y : Int} {W W' : World} {o : Obj} (h : StI w x X N mb bl ib k m y W) (hg : (W.alloc o).grownBy W' (some mb)) (ho : W'.ownsRow mb 52 2 (.slice (some ⟨mb, 0, none⟩) (m + 1) (N + 1)) (m + 1) (p2f (fun k => (it x.tx k : Int)) X (m + 1))) : StI w x X N mb bl ib k (m + 1) y W' := by
  have ha := h.ad
  have hl := h.lts
  have hq : ∀ b, b < W.heap.size → b ≠ mb → W'.heap[b]? = W.heap[b]? := fun b hb hne => by
    rw [hg.block b (by simp; omega) (fun e => hne (by injection e)), heap_alloc_old W o hb]
  have hb : Below w.heap.size W W' := ⟨hg.os, hg.tape, hg.output, by have := hg.size; simp at this; omega, fun b hb => hq b (by omega) (by omega)⟩
  exact h.any (hq _ (by omega) (by omega)) ((hq _ hl (by omega)).trans h.itr) (h.alg.keep (hq _ (by omega) (by omega)) (hq _ (by omega) (by omega)) (kp_low hb)) ho (h.bel.trans hb)
theorem StI.asked {w : World} {x : Lne} {X : Nat → Int} {N mb bl ib k m : Nat} {y z : Int} {W W' : World} (h : StI w x X N mb bl ib k m y W) (ha : AlgAt (fun b => b < w.heap.size) W' bl (bl + 1) x.L x.Y x.rn z) (hc : Chg (fun b => b = bl ∨ b = bl + 1) W W') : StI w x X N mb bl ib k m z W' := by
  have had := h.ad
  have hl := h.lts
  have hb : Below w.heap.size W W' := hc.below (by omega) (fun b hb => by omega)
  exact h.any (hc.block _ (by omega) (by omega)) ((hc.block _ hl (by omega)).trans h.itr) ha (own_block h.own (hc.block _ (by omega) (by omega))) (h.bel.trans hb)
theorem StI.below {w : World} {x : Lne} {X : Nat → Int} {N mb bl ib k m : Nat} {y : Int} {W W' : World} (h : StI w x X N mb bl ib k m y W) (hb : Below W.heap.size W W') : StI w x X N mb bl ib k m y W' := by
  have had := h.ad
  have hl := h.lts
  exact h.any (hb.block _ (by omega)) ((hb.block _ hl).trans h.itr) (h.alg.keep (hb.block _ (by omega)) (hb.block _ (by omega)) (kp_below hb)) (own_block h.own (hb.block _ (by omega))) (below_step h.bel (Nat.le_refl _) hb)
set_option maxRecDepth 100000 in
set_option maxHeartbeats 16000000 in
theorem stops_any {B : Nat} {w : World} {tb n : Nat} {G : Nat → Sty} (h : TabAt B w tb n G) (hg : ∀ i, i < n → flt (G i) = 0) (S : Nat → Prop) (x : Lne) (hp : P2At S w x.ra x.rn x.L x.Y) (hrn : x.rn ≤ maxLen ∧ x.rn ≤ x.rc) (N : Nat) (hN : Right x.tx N) (hs : x.tx.size ≤ 1000) :
    Calls Try.prog 19 #[.pointer (some ⟨tb, 0, none⟩), x.val] w fun e w' => (∃ mb, e = .returned (.slice (some ⟨mb, 0, none⟩) (N + 1) (N + 1)) ∧ P2At (fun b => w.heap.size ≤ b) w' (some ⟨mb, 0, none⟩) (N + 1) (fun k => (it x.tx k : Int)) (fun k => xs (ofS G n) x.L x.Y x.rn x.num x.den x.tx N k)) ∧ Below w.heap.size w w' := by
  obtain ⟨i0, hi0, hz0', hz1, hz2⟩ := info_parts info_stop
  obtain ⟨w0, hw0, hB0, hz0, hLn⟩ := lnat_new w x
  have hNs : N ≤ 1000 := by have := cnt_le x.tx N hN.1; have := it_le x.tx N; omega
  have hcnt := count_any x.tx w0 (by unfold maxLen; omega) N hN
  have HTab := boxed h
  have HGg := boxed hg
  have HNN := boxed hN
  have HBnd : Box (∀ a, Bnd (ofS G n a)) := boxed (fun a => ofS_bnd hg a)
  have HP : Box (P2At (fun b => b < w.heap.size) w x.ra x.rn x.L x.Y) := boxed (hp.keep (fun b i u _ hc => ⟨World.block_lt_of_cell? w _ hc, hc⟩))
  have HY0 : Box (xs (ofS G n) x.L x.Y x.rn x.num x.den x.tx N 0 = 0) := boxed rfl
  have HY1 : Box (∀ k, k < N → xs (ofS G n) x.L x.Y x.rn x.num x.den x.tx N (k + 1) = ad (xs (ofS G n) x.L x.Y x.rn x.num x.den x.tx N k) (wdP (ofS G n (rs x.L x.Y x.rn 0 (it x.tx k))) x.num x.den (rn x.tx k) (decide ((it x.tx k : Int) < lsAt x.tx N)))) := boxed (fun k hk => by
    rw [within_same _ _ _ _ _ _ hN hk, ad_wd (ofS_bnd hg _)]
    rfl)
  have HYb : Box (∀ k, I64 (xs (ofS G n) x.L x.Y x.rn x.num x.den x.tx N k)) := boxed (fun k => by have := xs_le (ofS G n) x.L x.Y x.rn x.num x.den x.tx N k; unfold I64; omega)
  have HW0 := boxed hw0
  have HB0 := boxed hB0
  have HLn := boxed hLn
  have HRN := boxed hrn
  have hc0 := (hLn w0 (Below.refl _ _)).cells
  generalize hXX : (fun k => xs (ofS G n) x.L x.Y x.rn x.num x.den x.tx N k) = X
  have HX0 : Box (X 0 = 0) := boxed (by rw [← hXX]; exact HY0.out)
  have HX1 : Box (∀ k, k < N → X (k + 1) = ad (X k) (wdP (ofS G n (rs x.L x.Y x.rn 0 (it x.tx k))) x.num x.den (rn x.tx k) (decide ((it x.tx k : Int) < lsAt x.tx N)))) := boxed (by rw [← hXX]; exact HY1.out)
  have HXb : Box (∀ k, I64 (X k)) := boxed (by rw [← hXX]; exact HYb.out)
  have HS := boxed hs
  clear h hg hp hw0 hB0 hLn hrn hXX hN HY0 HY1 HYb
  obtain ⟨c0, c1, c2, c3, c4, c5, c6, c7, c8⟩ := hc0
  unfold Lne.val
  go_enter Try.func19, Try.ntmps19
  go_upto_region 1 with (fail)
  rw [HW0.out]
  go_wp2_with fail
  refine hcnt.mono ?_
  rintro e w1 ⟨rfl, hb1⟩
  have hz1' := hb1.size
  have HB1 := boxed hb1
  clear hb1 hcnt c0 c1 c2 c3 c4 c5 c6 c7 c8
  go_wp2_with (at_make; refine wpList_make_own _ rfl _ _ 45 rfl w1.heap.size 52 i0 _ 2 Try.underlying45 hi0 hz0' hz1 .i64 .i64 _ (N + 1) rfl rfl ?m1 ?m2 ?m3 (Nat.le_refl _) ?_)
  case m1 => first | rfl | (simp; done) | omega
  case m2 => rw [hz2]; omega
  case m3 => unfold maxLen; omega
  intro w2 hown2 hgrow2
  have hB12 : Below w1.heap.size w1 w2 := ⟨hgrow2.os, hgrow2.tape, hgrow2.output, hgrow2.size, fun k hk => hgrow2.block k hk (by simp)⟩
  have hmb2 := (hown2.lt w1.heap.size rfl).2
  obtain ⟨mb, hmb⟩ : ∃ mb, w1.heap.size = mb := ⟨_, rfl⟩
  have HB2 := boxed (below_step HB1.out (Nat.le_refl _) hB12)
  have HOW := boxed hown2
  rw [hmb] at HOW hmb2
  have HMB := boxed hmb
  have hlb : w.heap.size < mb := by omega
  have hzN : w2.heap.size ≠ 0 := by omega
  have HA : Box (∀ W, Below w2.heap.size w2 W → Calls Try.prog 33 #[.slice x.ra x.rn x.rc] W fun e W' => ∃ bl, e = .returned (.func (.func 55) #[] #[.pointer (some ⟨bl, 0, none⟩), .pointer (some ⟨bl + 1, 0, none⟩)]) ∧ (mb < bl ∧ bl + 1 < W'.heap.size) ∧ AlgAt (fun b => b < w.heap.size) W' bl (bl + 1) x.L x.Y x.rn 0 ∧ Below w2.heap.size w2 W' ∧ Below W.heap.size W W') := boxed (fun W hb => by
    have hbw := below_step HB0.out (Nat.le_refl _) (below_step HB2.out (Nat.le_refl _) hb)
    refine (along_new (fun b => b < w.heap.size) x.ra x.rn x.rc x.L x.Y W (HP.out.below hbw) HRN.out.2).mono ?_
    rintro e W' ⟨rfl, hz, ha, hb'⟩
    have := hb.size
    exact ⟨W.heap.size, rfl, ⟨by omega, by omega⟩, ha, below_step hb (Nat.le_refl _) hb', hb'⟩)
  have HL : Box (∀ W, Below w2.heap.size w2 W → Calls Try.prog 34 #[.string x.tx] W fun e W' => e = .returned (.int .i64 (lsAt x.tx N)) ∧ Below w2.heap.size w2 W' ∧ Below W.heap.size W W') := boxed (fun W hb => by
    refine (lastseen_any x.tx W (by have := HS.out; unfold maxLen; omega) N HNN.out).mono ?_
    rintro e W' ⟨rfl, hb'⟩
    exact ⟨rfl, below_step hb (Nat.le_refl _) hb', hb'⟩)
  have HC : Box (∀ W, Below w2.heap.size w2 W → W.cell? ⟨w.heap.size, 0, none⟩ = some (.string x.tx) ∧ W.cell? ⟨w.heap.size, 1, none⟩ = some (.slice x.ra x.rn x.rc)) := boxed (fun W hb => by
    have := (HLn.out W (below_step HB2.out (Nat.le_refl _) hb)).cells
    exact ⟨this.1, this.2.1⟩)
  have HD : Box (Below w2.heap.size w2 w2.drew) := boxed (Below.refl _ _).drew
  have HK : Box (∀ (W W' : World) bl, Below W.heap.size W W' → bl + 1 < W.heap.size → AlgAt (fun b => b < w.heap.size) W bl (bl + 1) x.L x.Y x.rn 0 → AlgAt (fun b => b < w.heap.size) W' bl (bl + 1) x.L x.Y x.rn 0) := boxed (fun W W' bl hb hl ha => ha.keep (hb.block _ (by omega)) (hb.block _ (by omega)) (kp_below hb))
  clear hown2 hgrow2 hB12 hmb hz1' hmb2
  generalize hLA : lsAt x.tx N = LA at *
  replace hLA := boxed hLA
  go_upto_region 2 with (fail)
  go_cut [6, 7, 8] (fun s6 s7 s8 wx => ∃ bl, s6 = .func (.func 55) #[] #[.pointer (some ⟨bl, 0, none⟩), .pointer (some ⟨bl + 1, 0, none⟩)] ∧ s7 = .int .i64 LA ∧ s8 = .int .i64 0 ∧ (mb < bl ∧ bl + 1 < wx.heap.size) ∧ Box (AlgAt (fun b => b < w.heap.size) wx bl (bl + 1) x.L x.Y x.rn 0) ∧ Box (Below w2.heap.size w2 wx))
  case first =>
    go_region_held3 (fun W => W.cell? ⟨w.heap.size, 0, none⟩ = some (.string x.tx) ∧ W.cell? ⟨w.heap.size, 1, none⟩ = some (.slice x.ra x.rn x.rc))
      (first | with_reducible exact HC.out _ HD.out | with_reducible exact HC.out _ HBa.out | with_reducible exact HC.out _ HBs.out)
      (first
        | (go_at_call 33; (first | with_reducible refine (HA.out _ HD.out).mono ?_ | with_reducible refine (HA.out _ HBs.out).mono ?_); rintro e wa ⟨bl, rfl, hbl, hal, hba, hbA⟩; have HBa := boxed hba; have HBA := boxed hbA; have HAL := boxed hal; have HBL := boxed hbl; clear hba hbA hal hbl)
        | (go_at_call 34; (first | with_reducible refine (HL.out _ HD.out).mono ?_ | with_reducible refine (HL.out _ HBa.out).mono ?_); rintro e ws ⟨rfl, hbs, hbS⟩; have HBs := boxed hbs; have HBS := boxed hbS; clear hbs hbS))
    all_goals
      go_wp2_with fail
      go_meet
      case rel =>
        first
        | exact ⟨_, rfl, rfl, rfl, ⟨HBL.out.1, Nat.lt_of_lt_of_le HBL.out.2 HBS.out.size⟩, boxed (HK.out _ _ _ HBS.out HBL.out.2 HAL.out), HBs⟩
        | exact ⟨_, rfl, rfl, rfl, HBL.out, HAL, HBa⟩
  case rest =>
    obtain ⟨bl, rfl, rfl, rfl, hbl, HAL, HB3⟩ := hcut
    have HBw := boxed (below_step HB0.out (Nat.le_refl _) (below_step HB2.out (Nat.le_refl _) HB3.out))
    have HLn3 := boxed (HLn.out wc (below_step HB2.out (Nat.le_refl _) HB3.out))
    obtain ⟨c0, -⟩ := HLn3.out.cells
    have HO3 := boxed (owns_below HOW.out HB3.out)
    have hn0 : (N : Int) + 1 = ((N + 1 : Nat) : Int) := by omega
    have HI0 : Box (StI w x X N mb bl wc.heap.size 0 0 0 (wc.iter x.tx 0)) := boxed (by
      have hbi := bel_iter wc x.tx 0
      refine ⟨⟨hlb, by omega, by omega⟩, ?_, World.iter_heap wc x.tx 0, ?_, ?_, below_step HBw.out (Nat.le_refl _) hbi⟩
      · unfold LnAt
        rw [hbi.block _ (heap_lt HLn3.out)]; exact HLn3.out
      · exact HAL.out.keep (hbi.block _ (by omega)) (hbi.block _ (by omega)) (kp_below hbi)
      · exact owns_below HO3.out hbi)
    obtain ⟨ib, hib⟩ : ∃ ib, wc.heap.size = ib := ⟨_, rfl⟩
    have hbi2 : bl + 1 < ib := by omega
    clear HO3 HLn3 HK HC HL HA HD HAL hbl
    go_wp2_with fail
    rw [hib] at HI0
    go_loopw [5, 8] (fun sv xv wr => ∃ k : Nat, k ≤ N ∧ sv = .slice (some ⟨mb, 0, none⟩) k (N + 1) ∧ xv = .int .i64 (X k) ∧ Box (StI w x X N mb bl ib k k (it x.tx k) wr)) (fun _ _ wr => x.tx.size - wr.iterPos ib)
    case atStart => exact ⟨0, Nat.zero_le _, by rw [HMB.out], by rw [HX0.out], HI0⟩
    case round =>
      obtain ⟨k, hk, rfl, rfl, HI⟩ := hrel
      by_cases hlt : k < N
      · have hp := HNN.out.1.1 k hlt
        have hpos := dc_pos x.tx _ hp
        have hnx := fun ty => Lib.run_next_any_at (P := Try.prog) wr ib x.tx (it x.tx k) ty HI.out.itr hpos
        rw [decode_dc x.tx _ hp] at hnx
        have hrn : (((dc x.tx (it x.tx k)).1 : Nat) : Int) = (rn x.tx k : Int) := rfl
        have hit : it x.tx k + (dc x.tx (it x.tx k)).2 = it x.tx (k + 1) := rfl
        rw [hrn, hit] at hnx
        have hrl := rn_le x.tx k
        have HI2 := boxed HI.out.next
        have hlen := HS.out
        have HIT : Box (it x.tx k < it x.tx (k + 1) ∧ it x.tx k < x.tx.size) := boxed ⟨by rw [← hit]; omega, hpos⟩
        have hk1000 : it x.tx k ≤ 1000 := by omega
        have hpo : wr.iterPos ib = it x.tx k := by unfold World.iterPos; rw [HI.out.itr]
        have HPO := boxed hpo
        have hXs := HX1.out k hlt
        have HXk := boxed hXs
        have HP2 := boxed (p2f_succ (fun k => (it x.tx k : Int)) X k)
        have hxb := HXb.out k
        unfold I64 at hxb
        clear hp hpos hit hpo hrn hlen hXs HI
        obtain ⟨W1, hW1⟩ : ∃ W1, wr.iterAt ib x.tx (it x.tx (k + 1)) = W1 := ⟨_, rfl⟩
        rw [hW1] at hnx HI2
        clear hW1
        have hown := HI2.out.own
        have hcn : ∀ j u, ([.int .i64 (it x.tx k : Int), .int .i64 (X k)] : List Value)[j]? = some u → (W1.alloc (.cells #[.int .i64 (it x.tx k : Int), .int .i64 (X k)] 52)).cell? ((⟨W1.heap.size, 0, none⟩ : Addr).add j) = some u := by
          intro j u hj
          match j, hj with
          | 0, hj => simp at hj; subst hj; simp [Addr.add]
          | 1, hj => simp at hj; subst hj; simp [Addr.add]
        have HCN := boxed hcn
        have HW1 : Box (∀ W2, (W1.alloc (.cells #[.int .i64 (it x.tx k : Int), .int .i64 (X k)] 52)).grownBy W2 (some mb) → W2.ownsRow mb 52 2 (.slice (some ⟨mb, 0, none⟩) (k + 1) (N + 1)) (k + 1) (p2f (fun k => (it x.tx k : Int)) X k ++ [.int .i64 (it x.tx k : Int), .int .i64 (X k)]) → StI w x X N mb bl ib (k + 1) (k + 1) (it x.tx k) W2) := boxed (fun W2 hg ho => HI2.out.push hg (by rw [HP2.out]; exact ho))
        clear hcn
        go_wp2_with (at_builtin; refine wpList_append_fits _ rfl _ _ 45 rfl mb 52 i0 2 Try.underlying45 hi0 hz1 mb k (N + 1) _ rfl (hown.alloc _) ⟨W1.heap.size, 0, none⟩ 1 1 [.int .i64 (it x.tx k : Int), .int .i64 (X k)] rfl rfl HCN.out (by intro u hu; simp at hu; rcases hu with rfl | rfl <;> rfl) (by omega) ?_)
        intro w2' ho2 hg2
        have HI3 := boxed (HW1.out _ hg2 ho2)
        clear ho2 hg2 HW1 HCN HI2 hown
        go_wp2_with fail
        have HI3d := boxed (HI3.out.below (Below.refl _ _).drew)
        have HXC : Box (∀ W, StI w x X N mb bl ib (k + 1) (k + 1) (it x.tx k) W → W.cell? ⟨w.heap.size, 0, none⟩ = some (.string x.tx) ∧ W.cell? ⟨w.heap.size, 1, none⟩ = some (.slice x.ra x.rn x.rc) ∧ W.cell? ⟨w.heap.size, 2, none⟩ = some (.int .i64 x.num) ∧ W.cell? ⟨w.heap.size, 3, none⟩ = some (.int .i64 x.den) ∧ W.cell? ⟨w.heap.size, 4, none⟩ = some (.int .i64 x.h) ∧ W.cell? ⟨w.heap.size, 5, none⟩ = some (.bool x.hy) ∧ W.cell? ⟨w.heap.size, 6, none⟩ = some (.int .i64 x.y) ∧ W.cell? ⟨w.heap.size, 7, none⟩ = some (.bool x.bg) ∧ W.cell? ⟨w.heap.size, 8, none⟩ = some (.bool x.en)) := boxed (fun W h => h.ln.cells)
        have HAl : Box (∀ W, StI w x X N mb bl ib (k + 1) (k + 1) (it x.tx k) W → Calls Try.prog 55 #[.int .i64 (it x.tx k : Int), .pointer (some ⟨bl, 0, none⟩), .pointer (some ⟨bl + 1, 0, none⟩)] W fun e W' => e = .returned (.int .i64 (rs x.L x.Y x.rn 0 (it x.tx k))) ∧ StI w x X N mb bl ib (k + 1) (k + 1) (it x.tx k) W') := boxed (fun W h => by
          have had := h.ad
          refine (along_any (fun b => b < w.heap.size) bl (bl + 1) x.L x.Y x.rn _ (it x.tx k : Int) W h.alg (by omega) (fun b hb => by omega) (Int.le_refl _) (by omega) HRN.out.1).mono ?_
          rintro e W' ⟨rfl, h1, h2⟩
          exact ⟨rfl, h.asked h1 h2⟩)
        have HWd : Box (∀ W a b, StI w x X N mb bl ib (k + 1) (k + 1) (it x.tx k) W → Calls Try.prog 36 #[.pointer (some ⟨tb, 0, none⟩), .agg #[.string x.tx, .slice x.ra x.rn x.rc, .int .i64 x.num, .int .i64 x.den, .int .i64 x.h, .bool x.hy, .int .i64 x.y, .bool x.bg, .bool x.en], .int .i64 a, .int .i32 (rn x.tx k : Int), .bool b] W fun e W' => e = .returned (.int .i64 (wdP (ofS G n a) x.num x.den (rn x.tx k) b)) ∧ StI w x X N mb bl ib (k + 1) (k + 1) (it x.tx k) W') := boxed (fun W a b h => by
          refine (lwidth_any (HTab.out.below h.bel) HGg.out x a (rn x.tx k : Int) b (by omega)).mono ?_
          rintro e W' ⟨rfl, h1⟩
          exact ⟨rfl, h.below h1⟩)
        clear HX1 hnx
        generalize rs x.L x.Y x.rn 0 (it x.tx k) = ST at *
        generalize hWD : wdP (ofS G n ST) x.num x.den (rn x.tx k) (decide ((it x.tx k : Int) < LA)) = WD at *
        replace hWD := boxed hWD
        go_region_held3 (fun W => W.cell? ⟨w.heap.size, 0, none⟩ = some (.string x.tx) ∧ W.cell? ⟨w.heap.size, 1, none⟩ = some (.slice x.ra x.rn x.rc) ∧ W.cell? ⟨w.heap.size, 2, none⟩ = some (.int .i64 x.num) ∧ W.cell? ⟨w.heap.size, 3, none⟩ = some (.int .i64 x.den) ∧ W.cell? ⟨w.heap.size, 4, none⟩ = some (.int .i64 x.h) ∧ W.cell? ⟨w.heap.size, 5, none⟩ = some (.bool x.hy) ∧ W.cell? ⟨w.heap.size, 6, none⟩ = some (.int .i64 x.y) ∧ W.cell? ⟨w.heap.size, 7, none⟩ = some (.bool x.bg) ∧ W.cell? ⟨w.heap.size, 8, none⟩ = some (.bool x.en))
          (first | with_reducible exact HXC.out _ HI3d.out | with_reducible exact HXC.out _ HI4.out | with_reducible exact HXC.out _ HI5.out)
          (first
            | (go_at_call 55; refine (HAl.out _ HI3d.out).mono ?_; rintro e w3 ⟨rfl, h4⟩; have HI4 := boxed h4; clear h4)
            | (go_at_call 36; refine (HWd.out _ _ _ HI4.out).mono ?_; rintro e w4 ⟨rfl, h5⟩; rw [hWD.out]; have HI5 := boxed h5; clear h5)
            | (go_at_call 35; refine (add_any _ _ _).mono ?_; rintro e w5 ⟨rfl, hw5⟩; subst hw5))
        go_wp2_with fail
        refine ⟨⟨k + 1, by omega, rfl, by rw [HXk.out], boxed (HI5.out.mono (by have := HIT.out.1; omega))⟩, ?_⟩
        have e1 : w5.iterPos ib = it x.tx (k + 1) := by unfold World.iterPos; rw [HI5.out.itr]
        rw [e1, HPO.out]
        have := HIT.out
        omega
      · obtain rfl : k = N := by omega
        have hnx := fun ty => Lib.run_next_end_at (P := Try.prog) wr ib x.tx (it x.tx k) ty HI.out.itr (by rw [HNN.out.2]; omega)
        have hown := HI.out.own
        obtain ⟨c0, -⟩ := HI.out.ln.cells
        have hlen := HS.out
        have hsz : (x.tx.size : Int) = (it x.tx k : Int) := by rw [HNN.out.2]
        have HP2 := boxed (p2f_succ (fun k => (it x.tx k : Int)) X k)
        have hcn : ∀ j u, ([.int .i64 (x.tx.size : Int), .int .i64 (X k)] : List Value)[j]? = some u → (wr.alloc (.cells #[.int .i64 (x.tx.size : Int), .int .i64 (X k)] 52)).cell? ((⟨wr.heap.size, 0, none⟩ : Addr).add j) = some u := by
          intro j u hj
          match j, hj with
          | 0, hj => simp at hj; subst hj; simp [Addr.add]
          | 1, hj => simp at hj; subst hj; simp [Addr.add]
        have HCN := boxed hcn
        have HF : Box (∀ W2, (wr.alloc (.cells #[.int .i64 (x.tx.size : Int), .int .i64 (X k)] 52)).grownBy W2 (some mb) → W2.ownsRow mb 52 2 (.slice (some ⟨mb, 0, none⟩) (k + 1) (k + 1)) (k + 1) (p2f (fun k => (it x.tx k : Int)) X k ++ [.int .i64 (x.tx.size : Int), .int .i64 (X k)]) → P2At (fun b => w.heap.size ≤ b) W2 (some ⟨mb, 0, none⟩) (k + 1) (fun k => (it x.tx k : Int)) X ∧ Below w.heap.size w W2) := boxed (fun W2 hg ho => by
          have ho2 : W2.ownsRow mb 52 2 (.slice (some ⟨mb, 0, none⟩) (k + 1) (k + 1)) (k + 1) (p2f (fun k => (it x.tx k : Int)) X (k + 1)) := by rw [HP2.out]; rw [← hsz]; exact ho
          have hst := HI.out.push hg ho2
          refine ⟨(own_p2 ho2 (fun i hi => ⟨?_, HXb.out i⟩)).keep (fun b i u hb hc => ⟨?_, hc⟩), hst.bel⟩
          · have := it_le x.tx i
            unfold I64; omega
          · have := hst.ad
            show w.heap.size ≤ b
            omega)
        clear hcn hsz HI HX1
        go_wp2_with (at_builtin; refine wpList_append_fits _ rfl _ _ 45 rfl mb 52 i0 2 Try.underlying45 hi0 hz1 mb k (k + 1) _ rfl (hown.alloc _) ⟨wr.heap.size, 0, none⟩ 1 1 [.int .i64 (x.tx.size : Int), .int .i64 (X k)] rfl rfl HCN.out (by intro u hu; simp at hu; rcases hu with rfl | rfl <;> rfl) (by omega) ?_)
        intro w2' ho2 hg2
        have HI3 := boxed (HF.out _ hg2 ho2)
        clear ho2 hg2 HF HCN hown
        go_wp2_with fail
        go_ret
        exact ⟨⟨mb, rfl, HI3.out.1⟩, HI3.out.2⟩
end Go.Proofs.Ytcdcpmcjlchfgaa
