/-
  What changed of one page (diff.Page).
-/
import Derived.Test.YtoodhpgaikmalaaBk
namespace Go.Proofs.Ytoodhpgaikmalaa
open Go.RowKit
set_option linter.unusedSimpArgs false
set_option linter.unusedVariables false

theorem results_row_tmp {P : Program} {fn : Func} {a p : Tmp} {ty : TypeId} (h : fn.results = #[.cell p ty, .tmp a]) (tmps : Array Value) (w : World) (g : Nat) (t : TypeId) (cs : Array Value) (fr : Nat × Nat) (d : TypeDesc)
    (hp : tmps.getD p undef = .pointer (some ⟨g, 0, none⟩)) (hg : w.heap[g]? = some (.cells cs t fr))
    (hu : P.underlying ty = some d) (hd : (match d with | .struct _ | .array _ _ => true | _ => false) = true) (hi : (P.info? ty).map (·.size) = some cs.size) :
    (results fn tmps).run P w = .ok (.tuple #[.agg cs, tmps.getD a undef]) w := by
  simp only [results, h]
  simp [Sem.run_bind, Result.andThen]
  rw [show tmps[p]?.getD undef = .pointer (some ⟨g, 0, none⟩) by simpa using hp]
  simp [asAddr, run_loadVar_row w g t ty cs fr d hg hu hd hi]
/-- Five values put into a block. -/
def put5 (w : World) (rb : Nat) (v0 v1 v2 v3 v4 : Value) : World := ((((w.setCell ⟨rb, 0, none⟩ v0).setCell ⟨rb, 1, none⟩ v1).setCell ⟨rb, 2, none⟩ v2).setCell ⟨rb, 3, none⟩ v3).setCell ⟨rb, 4, none⟩ v4
theorem put5_heap {w : World} {rb : Nat} {x0 x1 x2 x3 x4 : Value} {t : TypeId} (h : w.heap[rb]? = some (.cells #[x0, x1, x2, x3, x4] t (0, 0))) (v0 v1 v2 v3 v4 : Value) : (put5 w rb v0 v1 v2 v3 v4).heap[rb]? = some (.cells #[v0, v1, v2, v3, v4] t (0, 0)) := by
  simp [put5, World.setCell, Array.getElem?_modify, h]
theorem put5_grown (w : World) (rb : Nat) (v0 v1 v2 v3 v4 : Value) : w.grownBy (put5 w rb v0 v1 v2 v3 v4) (some rb) := by
  unfold put5
  exact grown_trans (grown_trans (grown_trans (grown_trans (grown_set _ _ _ _) (grown_set _ _ _ _)) (grown_set _ _ _ _)) (grown_set _ _ _ _)) (grown_set _ _ _ _)
theorem cells5 {W : World} {rb : Nat} {v0 v1 v2 v3 v4 : Value} {t : TypeId} (e : W.heap[rb]? = some (.cells #[v0, v1, v2, v3, v4] t (0, 0))) : (W.cell? ⟨rb, 0, none⟩ = some v0 ∧ W.cell? ⟨rb, 1, none⟩ = some v1 ∧ W.cell? ⟨rb, 2, none⟩ = some v2 ∧ W.cell? ⟨rb, 3, none⟩ = some v3 ∧ W.cell? ⟨rb, 4, none⟩ = some v4) ∧ W.frozen? ⟨rb, 0, none⟩ = false ∧ W.frozen? ⟨rb, 1, none⟩ = false ∧ W.frozen? ⟨rb, 2, none⟩ = false ∧ W.frozen? ⟨rb, 3, none⟩ = false ∧ W.frozen? ⟨rb, 4, none⟩ = false := by
  refine ⟨⟨?_, ?_, ?_, ?_, ?_⟩, row_free e 0, row_free e 1, row_free e 2, row_free e 3, row_free e 4⟩ <;> (rw [cell_of_row _ _ _ _ _ _ e]; rfl)
def rgz : Value := .agg #[.int .i64 0, .int .i64 0, .int .i64 0, .int .i64 0, .slice none 0 0]
/-- Two pages handed over and a region to be answered, in blocks of their own. -/
theorem three_blocks (w : World) (u v : Value) : ∃ wc, ((w.alloc (.cells #[u] 34)).alloc (.cells #[v] 34)).alloc (.cells #[.int .i64 0, .int .i64 0, .int .i64 0, .int .i64 0, .slice none 0 0] 39) = wc ∧ Below w.heap.size w wc ∧ w.heap.size + 3 = wc.heap.size ∧ (∀ W, Below wc.heap.size wc W → W.cell? ⟨w.heap.size, 0, none⟩ = some u ∧ W.cell? ⟨w.heap.size + 1, 0, none⟩ = some v) ∧ ∀ W, Below wc.heap.size wc W → W.heap[w.heap.size + 2]? = some (.cells #[.int .i64 0, .int .i64 0, .int .i64 0, .int .i64 0, .slice none 0 0] 39 (0, 0)) := by
  obtain ⟨w2, e2, hb2, hz2, hc2⟩ := two_pages w u v
  have L3 := laid1 w2 (.cells #[.int .i64 0, .int .i64 0, .int .i64 0, .int .i64 0, .slice none 0 0] 39)
  rw [e2]
  refine ⟨_, rfl, below_step hb2 (Nat.le_refl _) L3.2.1, by rw [L3.2.2]; omega, fun W hb => hc2 W (below_step L3.2.1 (Nat.le_refl _) hb), fun W hb => ?_⟩
  have hz := L3.2.2
  rw [hz2]
  exact (hb.block _ (by omega)).trans L3.1
set_option maxRecDepth 100000 in
set_option maxHeartbeats 16000000 in
theorem page_any (S S' : Nat → Prop) (nn : Nat) (la lb : Option Addr) (ks ls : List Key) (lc ld : Nat) (w : World) (h1 : LsAt S w la ks) (h2 : LsAt S' w lb ls) (hn : ks.length ≤ 1000) (hm : ls.length ≤ 1000) (hs : Sl lb ld ls.length) :
    Calls Try.prog 21 #[.int .i64 (nn : Nat), .agg #[.slice la ks.length lc], .agg #[.slice lb ls.length ld]] w fun e w' => Below w.heap.size w w' ∧
      ((ks = ls ∧ e = .returned (.tuple #[rgz, .bool false])) ∨
       (ks ≠ ls ∧ ∃ g, e = .returned (.tuple #[.agg #[.int .i64 (nn : Nat), .int .i64 1, .int .i64 (pre ks ls : Nat), .int .i64 (oldN ks ls : Nat), .slice (some ⟨g, 0, none⟩) (nowL ks ls).length (nowL ks ls).length], .bool true]) ∧ w.heap.size ≤ g ∧ LO (fun b => w.heap.size ≤ b) w' (some ⟨g, 0, none⟩) (nowL ks ls))) := by
  obtain ⟨wc, hwc, hB0, hZ0, hC0, hR0⟩ := three_blocks w (.slice la ks.length lc) (.slice lb ls.length ld)
  have hle := bck_le ks ls
  have HNI := boxed (none_iff ks ls)
  have hnl := now_len ks ls
  have HEN := boxed (fun W hb => ends_any S S' la lb ks ls lc ld W (h1.below (w' := W) hb) (h2.below hb) (by omega) (by omega))
  obtain ⟨a3, c3, hsl, hs3, hcl, -⟩ := cut_lines lb ld (pre ks ls) (ls.length - bck ks ls) ls S' w h2 hs (by omega) (by omega)
  have hnow : (ls.drop (pre ks ls)).take (ls.length - bck ks ls - pre ks ls) = nowL ks ls := rfl
  rw [hnow] at hcl
  have hnl2 : ls.length - bck ks ls - pre ks ls = (nowL ks ls).length := hnl.symm
  rw [hnl2] at hsl hs3
  have HOW := boxed (fun W hb => own_any S' a3 (nowL ks ls) c3 W (hcl S' W (h2.below (w' := W) hb)) (by omega))
  have hod : oldN ks ls = ks.length - bck ks ls - pre ks ls := rfl
  have HNOW := boxed hnow
  obtain ⟨n, hkn⟩ : ∃ n, ks.length = n := ⟨_, rfl⟩
  obtain ⟨m, hkm⟩ : ∃ m, ls.length = m := ⟨_, rfl⟩
  rw [hkn] at hn hwc hC0 HEN hle hod
  rw [hkm] at hm hwc hC0 HEN hle hnl hsl
  rw [hkn, hkm]
  obtain ⟨P, hP⟩ : ∃ P, pre ks ls = P := ⟨_, rfl⟩
  obtain ⟨B, hB⟩ : ∃ B, bck ks ls = B := ⟨_, rfl⟩
  obtain ⟨O, hO⟩ : ∃ O, oldN ks ls = O := ⟨_, rfl⟩
  obtain ⟨L, hL⟩ : ∃ L, (nowL ks ls).length = L := ⟨_, rfl⟩
  rw [hP, hB] at hle hsl hod HEN hnl
  rw [hO] at hod HNI
  rw [hL] at hnl hsl HNI HOW
  rw [hP, hO, hL]
  have HLL := boxed hL
  have HWC := boxed hwc
  have HB0 := boxed hB0
  have HZ0 := boxed hZ0
  have HC := boxed hC0
  have HR := boxed hR0
  have hw1 : wrap64 ((n : Int) - (B : Int)) = (n : Int) - (B : Int) := by unfold wrap64; omega
  have hw2 : wrap64 ((n : Int) - (B : Int) - (P : Int)) = (O : Int) := by unfold wrap64; omega
  have hw3 : wrap64 ((m : Int) - (B : Int)) = (m : Int) - (B : Int) := by unfold wrap64; omega
  have hsl2 : ∀ w : World, (Instr.slice 32 (.slice lb m ld) (some (.int .i64 (P : Int))) (some (.int .i64 ((m : Int) - (B : Int)))) none).run Try.prog w = .ok (.slice a3 L c3) w := fun w => hsl w _ _ rfl (by omega)
  clear hwc hB0 hC0 hR0 hZ0 hkn hkm h1 h2 hP hB hO hL hsl hcl hnow hnl2 hs hs3 hod hnl hle
  obtain ⟨a0, b0⟩ := HC.out _ (Below.refl _ wc)
  go_enter Try.func21, Try.ntmps21
  go_upto_region 1 with (fail)
  rw [HWC.out]
  go_wp2_with fail
  refine (HEN.out _ HB0.out).mono ?_
  rintro e w1 ⟨rfl, hb1⟩
  have HB1 := boxed hb1
  clear a0 b0 hb1 HEN
  obtain ⟨a0, b0⟩ := HC.out _ HB1.out
  have HF1 := boxed (below_step HB0.out (Nat.le_refl _) HB1.out)
  by_cases c : ks = ls
  · obtain ⟨hO0, hL0⟩ := HNI.out.1 c
    have t1 : ((O : Int) == 0) = true := by rw [beq_iff_eq]; omega
    have t2 : ((L : Int) == 0) = true := by rw [beq_iff_eq]; omega
    have HC9 := boxed c
    have e0 := HR.out _ HB1.out
    obtain ⟨⟨d0, d1, d2, d3, d4⟩, z0, z1, z2, z3, z4⟩ := cells5 e0
    have HRr := put5_heap e0 (.int .i64 0) (.int .i64 0) (.int .i64 0) (.int .i64 0) (.slice none 0 0)
    have HGr := put5_grown w1 (w.heap.size + 2) (.int .i64 0) (.int .i64 0) (.int .i64 0) (.int .i64 0) (.slice none 0 0)
    have HFr := HF1.out.trans (grown_below HGr (by omega) HF1.out.size)
    unfold put5 at HRr HFr
    replace HRr := boxed HRr
    replace HFr := boxed HFr
    clear e0 HGr c hO0 hL0 HNI
    go_wp2_with fail
    refine bodyPost_ret (v := .tuple #[.agg #[.int .i64 0, .int .i64 0, .int .i64 0, .int .i64 0, .slice none 0 0], .bool false]) ?_ ?_ ?_
    · exact results_row_tmp Try.results21 _ _ (w.heap.size + 2) 39 _ (0, 0) _ rfl HRr.out Try.underlying39 rfl (by kernel_rfl)
    · rfl
    · exact ⟨HFr.out, Or.inl ⟨HC9.out, rfl⟩⟩
  · have hOL : ¬ (O = 0 ∧ L = 0) := fun h => c (HNI.out.2 h)
    have HC9 := boxed c
    clear c HNI
    have key : ∀ Bx By : Bool, ((O : Int) == 0) = Bx → ((L : Int) == 0) = By → (Bx && By) = false := fun Bx By e1 e2 => by
      subst e1; subst e2
      rw [Bool.and_eq_false_iff]
      by_cases d : O = 0
      · right; rw [beq_eq_false_iff_ne]; omega
      · left; rw [beq_eq_false_iff_ne]; omega
    have key := boxed key
    cases t1 : ((O : Int) == 0) with
    | false =>
      clear hOL key
      go_wp2_with fail
      refine (HOW.out _ HF1.out).mono ?_
      rintro e w2 ⟨rfl, hlo, hb2⟩
      have HB2 := boxed (below_step HB1.out (Nat.le_refl _) hb2)
      have HF2 := boxed (below_step HF1.out (Nat.le_refl _) hb2)
      have e0 := HR.out _ HB2.out
      obtain ⟨⟨d0, d1, d2, d3, d4⟩, z0, z1, z2, z3, z4⟩ := cells5 e0
      have hzz := HB1.out.size
      have hz0 := HZ0.out
      have HRr := put5_heap e0 (.int .i64 (nn : Nat)) (.int .i64 1) (.int .i64 (P : Nat)) (.int .i64 (O : Nat)) (.slice (some ⟨w1.heap.size, 0, none⟩) L L)
      have HGr := put5_grown w2 (w.heap.size + 2) (.int .i64 (nn : Nat)) (.int .i64 1) (.int .i64 (P : Nat)) (.int .i64 (O : Nat)) (.slice (some ⟨w1.heap.size, 0, none⟩) L L)
      have HFr := HF2.out.trans (grown_below HGr (by omega) HF2.out.size)
      have HLr := hlo.keep (S' := fun b => w.heap.size ≤ b) (fun b hb hl => ⟨by omega, HGr.block b hl (by simp; omega)⟩)
      have hg9 : w.heap.size ≤ w1.heap.size := by omega
      unfold put5 at HRr HFr HLr
      replace HRr := boxed HRr
      replace HFr := boxed HFr
      replace HLr := boxed HLr
      clear e0 HGr hlo hb2 hzz hz0 HOW a0 b0
      go_wp2_with fail
      refine bodyPost_ret (v := .tuple #[.agg #[.int .i64 (nn : Nat), .int .i64 1, .int .i64 (P : Nat), .int .i64 (O : Nat), .slice (some ⟨w1.heap.size, 0, none⟩) L L], .bool true]) ?_ ?_ ?_
      · exact results_row_tmp Try.results21 _ _ (w.heap.size + 2) 39 _ (0, 0) _ rfl HRr.out Try.underlying39 rfl (by kernel_rfl)
      · rfl
      · exact ⟨HFr.out, Or.inr ⟨HC9.out, _, rfl, hg9, HLr.out⟩⟩
    | true =>
      have t2 : ((L : Int) == 0) = false := by
        have := key.out _ _ t1 rfl
        simpa using this
      clear hOL key
      go_wp2_with fail
      refine (HOW.out _ HF1.out).mono ?_
      rintro e w2 ⟨rfl, hlo, hb2⟩
      have HB2 := boxed (below_step HB1.out (Nat.le_refl _) hb2)
      have HF2 := boxed (below_step HF1.out (Nat.le_refl _) hb2)
      have e0 := HR.out _ HB2.out
      obtain ⟨⟨d0, d1, d2, d3, d4⟩, z0, z1, z2, z3, z4⟩ := cells5 e0
      have hzz := HB1.out.size
      have hz0 := HZ0.out
      have HRr := put5_heap e0 (.int .i64 (nn : Nat)) (.int .i64 1) (.int .i64 (P : Nat)) (.int .i64 (O : Nat)) (.slice (some ⟨w1.heap.size, 0, none⟩) L L)
      have HGr := put5_grown w2 (w.heap.size + 2) (.int .i64 (nn : Nat)) (.int .i64 1) (.int .i64 (P : Nat)) (.int .i64 (O : Nat)) (.slice (some ⟨w1.heap.size, 0, none⟩) L L)
      have HFr := HF2.out.trans (grown_below HGr (by omega) HF2.out.size)
      have HLr := hlo.keep (S' := fun b => w.heap.size ≤ b) (fun b hb hl => ⟨by omega, HGr.block b hl (by simp; omega)⟩)
      have hg9 : w.heap.size ≤ w1.heap.size := by omega
      unfold put5 at HRr HFr HLr
      replace HRr := boxed HRr
      replace HFr := boxed HFr
      replace HLr := boxed HLr
      clear e0 HGr hlo hb2 hzz hz0 HOW a0 b0
      go_wp2_with fail
      refine bodyPost_ret (v := .tuple #[.agg #[.int .i64 (nn : Nat), .int .i64 1, .int .i64 (P : Nat), .int .i64 (O : Nat), .slice (some ⟨w1.heap.size, 0, none⟩) L L], .bool true]) ?_ ?_ ?_
      · exact results_row_tmp Try.results21 _ _ (w.heap.size + 2) 39 _ (0, 0) _ rfl HRr.out Try.underlying39 rfl (by kernel_rfl)
      · rfl
      · exact ⟨HFr.out, Or.inr ⟨HC9.out, _, rfl, hg9, HLr.out⟩⟩
end Go.Proofs.Ytoodhpgaikmalaa
