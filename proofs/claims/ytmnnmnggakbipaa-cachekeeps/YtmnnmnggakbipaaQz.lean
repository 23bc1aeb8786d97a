/-
  What played does: both caches, call after call.
-/
import Derived.Test.YtmnnmnggakbipaaSa
import Derived.Deep.Cut
import Derived.Deep.DeepCutAuto
import Derived.Deep.CutBlock
namespace Go.Proofs.Ytmnnmnggakbipaa
open Go.RowKit
set_option linter.unusedSimpArgs false
set_option linter.unusedVariables false

set_option maxRecDepth 100000 in
set_option maxHeartbeats 8000000 in
theorem played_any (w : World) (room : Int) (ao : Option Addr) (N lc0 : Nat) (O : Nat → Opr) (h : OpsAt w ao N O) (hN : N ≤ maxLen) (hr : 0 ≤ room ∧ room ≤ 64) :
    Calls Try.prog 10 #[.int .i64 room, .slice ao N lc0] w fun r w' => PldP w room O N r w' := by
  unfold maxLen at hN
  have HO := boxed h
  obtain ⟨W, hW⟩ : ∃ W, (w.alloc (.cells #[.int .i64 0, .slice none 0 0, .int .i64 0, .int .i64 0] 27)).alloc (.cells #[.int .i64 room, .slice none 0 0, .int .i64 0, .int .i64 0] 27) = W := ⟨_, rfl⟩
  have HQ := laid2 w (.cells #[.int .i64 0, .slice none 0 0, .int .i64 0, .int .i64 0] 27) (.cells #[.int .i64 room, .slice none 0 0, .int .i64 0, .int .i64 0] 27)
  rw [hW] at HQ
  obtain ⟨f0, f1, hB, hz⟩ := HQ
  have HNw := boxed (new_any room W)
  have F0 := boxed f0
  have F1 := boxed f1
  have HB := boxed hB
  have HW := boxed hW
  clear h f0 f1 hB hW
  go_enter Try.func10, Try.ntmps10
  go_wp2_with fail
  rw [HW.out]
  refine HNw.out.mono ?_
  rintro r w1 ⟨hb1, ⟨c, rfl⟩ | ⟨c, cb, mb, F1', rfl, hF, hca⟩⟩
  · exfalso; omega
  have HI0 : Box (PlI w w1 room O 0 F1' cb mb 0 0 [] (fun _ => []) (fun _ => none) none 0 0 []) := boxed
    ⟨hca, ⟨by simp, by simp⟩, rfl, rfl, fun b hb => by have := hF b hb; omega, (hb1.block _ (heap_lt F0.out)).trans F0.out, (hb1.block _ (heap_lt F1.out)).trans F1.out, HB.out.trans (hb1.mono HB.out.size), rfl, by simp⟩
  clear hb1 hF hca HNw F0 F1 HB c
  go_wp2_with fail
  go_loopw [9] (fun vi wr => ∃ (i : Nat) (F : Nat → Prop) (fo mi : Int) (L : List En) (Bk : Int → List Nat) (M : Int → Option Value) (lo : Option Addr) (n lc : Nat) (es : List Re), i ≤ N ∧ i ≤ 60 ∧ vi = .int .i64 (i : Nat) ∧ Box (PlI w wr room O i F cb mb fo mi L Bk M lo n lc es)) (fun vi _ => N - (intOf vi).toNat)
  case atStart => exact ⟨0, _, _, _, _, _, _, _, _, _, _, Nat.zero_le _, by omega, rfl, HI0⟩
  case round =>
    obtain ⟨i, F, fo, mi, L, Bk, M, lo, n, lc, es, hiN, hi60, rfl, HI⟩ := hrel
    by_cases c1 : i < N
    rotate_left
    · obtain rfl : N = i := by omega
      obtain ⟨x0, x1, x2, x3⟩ := cells4 HI.out.sb
      obtain ⟨y0, y1, y2, y3⟩ := cells4 HI.out.rb
      have z0 := row_free HI.out.rb 0
      have z1 := row_free HI.out.rb 1
      have z2 := row_free HI.out.rb 2
      have z3 := row_free HI.out.rb 3
      have hch : Chg (fun b => b = w.heap.size) wr (put4 wr w.heap.size (.int .i64 room) (.slice lo n lc) (.int .i64 fo) (.int .i64 mi)).drew := (Chg.of_grown (put4_grown _ _ _ _ _ _) (fun g e => by injection e with e; exact e.symm)).trans (Chg.of_below (Below.refl _ _).drew)
      have HRh : (put4 wr w.heap.size (.int .i64 room) (.slice lo n lc) (.int .i64 fo) (.int .i64 mi)).drew.heap[w.heap.size]? = _ := put4_heap HI.out.rb (.int .i64 room) (.slice lo n lc) (.int .i64 fo) (.int .i64 mi)
      have HF : Box (PldP w room O N (.returned (.tuple #[.pointer (some ⟨cb, 0, none⟩), .agg #[.int .i64 room, .slice lo n lc, .int .i64 fo, .int .i64 mi]])) (put4 wr w.heap.size (.int .i64 room) (.slice lo n lc) (.int .i64 fo) (.int .i64 mi)).drew) := boxed (by
        have hcb := HI.out.fb _ HI.out.ca.fc
        refine ⟨F, cb, mb, fo, mi, L, Bk, M, lo, n, lc, es, rfl, HI.out.ca.other hch (fun b _ hd c => by have := HI.out.fb b c; omega) (fun e he => P2At.keep (HI.out.ca.key e he).1 (fun b q u hs hcl => ⟨fun c => by have := hs.2; omega, hcl⟩)), HI.out.rs.keep (fun b q u hs hcl => ⟨hs.1, (hch.kp b q u (fun c => hs.2.2 c) hcl).2⟩), HI.out.ab, HI.out.len, fun b hb => by have := HI.out.fb b hb; omega, HI.out.bel.trans (hch.below HI.out.bel.size (fun b hb => by omega)), ?_, ?_⟩
        · have := HI.out.pls
          rwa [show min N 60 = N by omega]
        · have := HI.out.num
          omega)
      obtain ⟨a0, a1, a2, a3⟩ := cells4 HRh
      unfold put4 at HF a0 a1 a2 a3
      have HA := boxed (And.intro a0 (And.intro a1 (And.intro a2 a3)))
      clear a0 a1 a2 a3 HRh hch HI HO
      go_wp2_with fail
      go_region
      go_wp2_with fail
      refine bodyPost_ret (v := .tuple #[.pointer (some ⟨cb, 0, none⟩), .agg #[.int .i64 room, .slice lo n lc, .int .i64 fo, .int .i64 mi]]) ?_ ?_ HF.out
      · obtain ⟨a0, a1, a2, a3⟩ := HA.out
        simp [results, Try.results10, go_sem, a0, a1, a2, a3]
      · rfl
    by_cases c2 : i < 60
    rotate_left
    · obtain rfl : i = 60 := by omega
      obtain ⟨x0, x1, x2, x3⟩ := cells4 HI.out.sb
      obtain ⟨y0, y1, y2, y3⟩ := cells4 HI.out.rb
      have z0 := row_free HI.out.rb 0
      have z1 := row_free HI.out.rb 1
      have z2 := row_free HI.out.rb 2
      have z3 := row_free HI.out.rb 3
      have hch : Chg (fun b => b = w.heap.size) wr (put4 wr w.heap.size (.int .i64 room) (.slice lo n lc) (.int .i64 fo) (.int .i64 mi)).drew := (Chg.of_grown (put4_grown _ _ _ _ _ _) (fun g e => by injection e with e; exact e.symm)).trans (Chg.of_below (Below.refl _ _).drew)
      have HRh : (put4 wr w.heap.size (.int .i64 room) (.slice lo n lc) (.int .i64 fo) (.int .i64 mi)).drew.heap[w.heap.size]? = _ := put4_heap HI.out.rb (.int .i64 room) (.slice lo n lc) (.int .i64 fo) (.int .i64 mi)
      have HF : Box (PldP w room O N (.returned (.tuple #[.pointer (some ⟨cb, 0, none⟩), .agg #[.int .i64 room, .slice lo n lc, .int .i64 fo, .int .i64 mi]])) (put4 wr w.heap.size (.int .i64 room) (.slice lo n lc) (.int .i64 fo) (.int .i64 mi)).drew) := boxed (by
        have hcb := HI.out.fb _ HI.out.ca.fc
        refine ⟨F, cb, mb, fo, mi, L, Bk, M, lo, n, lc, es, rfl, HI.out.ca.other hch (fun b _ hd c => by have := HI.out.fb b c; omega) (fun e he => P2At.keep (HI.out.ca.key e he).1 (fun b q u hs hcl => ⟨fun c => by have := hs.2; omega, hcl⟩)), HI.out.rs.keep (fun b q u hs hcl => ⟨hs.1, (hch.kp b q u (fun c => hs.2.2 c) hcl).2⟩), HI.out.ab, HI.out.len, fun b hb => by have := HI.out.fb b hb; omega, HI.out.bel.trans (hch.below HI.out.bel.size (fun b hb => by omega)), ?_, ?_⟩
        · have := HI.out.pls
          rwa [show min N 60 = 60 by omega]
        · have := HI.out.num
          omega)
      obtain ⟨a0, a1, a2, a3⟩ := cells4 HRh
      unfold put4 at HF a0 a1 a2 a3
      have HA := boxed (And.intro a0 (And.intro a1 (And.intro a2 a3)))
      clear a0 a1 a2 a3 HRh hch HI HO
      go_wp2_with fail
      go_region
      go_wp2_with fail
      refine bodyPost_ret (v := .tuple #[.pointer (some ⟨cb, 0, none⟩), .agg #[.int .i64 room, .slice lo n lc, .int .i64 fo, .int .i64 mi]]) ?_ ?_ HF.out
      · obtain ⟨a0, a1, a2, a3⟩ := HA.out
        simp [results, Try.results10, go_sem, a0, a1, a2, a3]
      · rfl
    have d1 : decide ((i : Int) < (N : Int)) = true := decide_eq_true (by omega)
    have d2 : decide ((i : Int) < 60) = true := decide_eq_true (by omega)
    obtain ⟨⟨hok, hoc⟩, ob, ooff, hao, y0, y1, y2, y3, y4, y5, y6, y7, y8, y9, y10, y11, y12⟩ := HO.out i c1
    subst hao
    have HKw := boxed hok
    have HOi : Box (Opr.mk (O i).kd (O i).k (O i).v = O i) := boxed rfl
    have hb9 := HI.out.bel
    replace y0 := hold hb9 y0
    replace y1 := hold hb9 y1
    replace y2 := hold hb9 y2
    replace y3 := hold hb9 y3
    replace y4 := hold hb9 y4
    replace y5 := hold hb9 y5
    replace y6 := hold hb9 y6
    replace y7 := hold hb9 y7
    replace y8 := hold hb9 y8
    replace y9 := hold hb9 y9
    replace y10 := hold hb9 y10
    replace y11 := hold hb9 y11
    replace y12 := hold hb9 y12
    clear hok hb9
    generalize (O i).kd = kd at *
    generalize (O i).k = k at *
    generalize (O i).v = v at *
    obtain ⟨W1, hW1⟩ : ∃ W1, wr.alloc (.cells #[.int .i64 kd, .string k.tx, .slice k.ra k.rn k.rc, .int .i64 k.ta, .int .i64 k.wd, .int .i64 k.s.t, .int .i64 k.s.l, .int .i64 k.s.a, .int .i64 k.s.d, .int .i64 k.s.z, .int .i64 k.s.o, .int .i64 k.s.i, .int .i64 v] 69) = W1 := ⟨_, rfl⟩
    have hq := laid1 wr (.cells #[.int .i64 kd, .string k.tx, .slice k.ra k.rn k.rc, .int .i64 k.ta, .int .i64 k.wd, .int .i64 k.s.t, .int .i64 k.s.l, .int .i64 k.s.a, .int .i64 k.s.d, .int .i64 k.s.z, .int .i64 k.s.o, .int .i64 k.s.i, .int .i64 v] 69)
    rw [hW1] at hq
    have HB1 := boxed hq.2.1
    have HO1 := boxed hq.1
    have hsz1 := hq.2.2
    obtain ⟨o0, o1, o2, o3, o4, o5, o6, o7, o8, o9, o10, o11, o12⟩ := cells13 hq.1
    have HFt := boxed (fits_any _ k W1 (P2At.below (HI.out.kv HKw.out) hq.2.1))
    unfold Kv.val at HFt
    clear hq
    go_wp2_with fail
    refine HFt.out.mono ?_
    rintro r w2 ⟨r, rfl, hrf, hb2⟩
    have HB2 := boxed (HB1.out.trans (hb2.mono HB1.out.size))
    have H2 := boxed (HI.out.below HB2.out)
    have HO2 := boxed ((hb2.block _ (heap_lt HO1.out)).trans HO1.out)
    clear hb2 HB1 HO1 HFt y0 y1 y2 y3 y4 y5 y6 y7 y8 y9 y10 y11 y12 o0 o1 o2 o3 o4 o5 o6 o7 o8 o9 o10 o11 o12
    cases r
    · have HNF : Box (¬ Fits k) := boxed (fun hh => by have := hrf.2 hh; cases this)
      have HI8 : Box (PlI w w2 room O (i + 1) F cb mb fo mi L Bk M lo n lc es) := boxed (H2.out.idle (.inl ⟨by rw [← HOi.out]; exact HNF.out, rfl⟩))
      clear HI H2 HO2 HB2 hrf HO
      go_wp2_with fail
      go_roundw
      case rel => exact ⟨i + 1, F, fo, mi, L, Bk, M, lo, n, lc, es, by omega, by omega, by go_num, HI8⟩
      case measure => simp [intOf]; omega
    have HFk : Box (Fits k) := boxed (hrf.1 rfl)
    clear hrf
    obtain ⟨o0, o1, o2, o3, o4, o5, o6, o7, o8, o9, o10, o11, o12⟩ := cells13 HO2.out
    have hobF : ¬ F wr.heap.size := fun c => by have := HI.out.ca.fl _ c; omega
    have hsbw := heap_lt HI.out.sb
    go_upto_block 2 with fail
    go_cut [7] (fun s7 wx => s7 = .pointer (some ⟨cb, 0, none⟩) ∧ ∃ (F' : Nat → Prop) (fo' mi' : Int) (L' : List En) (Bk' : Int → List Nat) (M' : Int → Option Value) (lo' : Option Addr) (n' lc' : Nat) (es' : List Re), Box (PlI w wx room O (i + 1) F' cb mb fo' mi' L' Bk' M' lo' n' lc' es'))
    case first =>
      by_cases k0 : kd = 0
      · subst k0
        have HPt := boxed (put_any w2 F cb mb room fo mi L Bk M k v H2.out.ca (P2At.keep (H2.out.kv HKw.out) (fun b q u hs hc => ⟨hs.1, hc⟩)) HFk.out hoc)
        unfold Kv.val at HPt
        go_wp2_with fail
        refine HPt.out.mono ?_
        rintro r w3 ⟨rfl, F', L', Bk', M', c1', c2', c3', c4'⟩
        obtain ⟨m1, m2, m3, m4, m5⟩ := H2.out.mid c3' c4'
        have HO3 := boxed ((c4'.block _ (heap_lt HO2.out) hobF).trans HO2.out)
        have HS3 := boxed m4
        have hs3 := heap_lt m4
        have ho3 := heap_lt HO3.out
        have hkc3 : KvAt (fun b => ¬ F' b ∧ b ≠ w.heap.size + 1 ∧ b ≠ w.heap.size) w3 k := P2At.keep HKw.out (fun b q u _ hc => by
          have hlt := World.block_lt_of_cell? w _ hc
          simp only at hlt
          exact ⟨⟨fun c => by have := m2 b c; omega, by omega, by omega⟩, hold m5 hc⟩)
        have HRP : Box (∀ W', Below w3.heap.size w3 W' → Calls Try.prog 29 #[stV room lo n lc fo mi, k.val, .int .i64 v] W' fun r w' => RPutP (fun b => ¬ F' b ∧ b ≠ w.heap.size + 1 ∧ b ≠ w.heap.size) W' room fo mi es k.ky v r w') := boxed (fun W' hb => by
          have hfw := H2.out.few
          have hsz := hb.size
          rw [H2.out.len]
          exact rput_any _ W' room lo lc fo mi es k v (m1.below hb) (fun b hb' => ⟨fun c => by have := c1'.fl b c; omega, by omega, by omega⟩) (by omega) hfw (by omega) (P2At.below hkc3 hb) HFk.out hoc)
        have HRk := boxed (fun W' => refk_any k W')
        have HX2 : Box (∀ W', Below w3.heap.size w3 W' → W'.cell? ⟨wr.heap.size, 1, none⟩ = some (.string k.tx) ∧ W'.cell? ⟨wr.heap.size, 2, none⟩ = some (.slice k.ra k.rn k.rc) ∧ W'.cell? ⟨wr.heap.size, 3, none⟩ = some (.int .i64 k.ta) ∧ W'.cell? ⟨wr.heap.size, 4, none⟩ = some (.int .i64 k.wd) ∧ W'.cell? ⟨wr.heap.size, 5, none⟩ = some (.int .i64 k.s.t) ∧ W'.cell? ⟨wr.heap.size, 6, none⟩ = some (.int .i64 k.s.l) ∧ W'.cell? ⟨wr.heap.size, 7, none⟩ = some (.int .i64 k.s.a) ∧ W'.cell? ⟨wr.heap.size, 8, none⟩ = some (.int .i64 k.s.d) ∧ W'.cell? ⟨wr.heap.size, 9, none⟩ = some (.int .i64 k.s.z) ∧ W'.cell? ⟨wr.heap.size, 10, none⟩ = some (.int .i64 k.s.o) ∧ W'.cell? ⟨wr.heap.size, 11, none⟩ = some (.int .i64 k.s.i) ∧ W'.cell? ⟨wr.heap.size, 12, none⟩ = some (.int .i64 v)) := boxed (fun W' hb => by
          obtain ⟨-, q1, q2, q3, q4, q5, q6, q7, q8, q9, q10, q11, q12⟩ := cells13 HO3.out
          exact ⟨hold hb q1, hold hb q2, hold hb q3, hold hb q4, hold hb q5, hold hb q6, hold hb q7, hold hb q8, hold hb q9, hold hb q10, hold hb q11, hold hb q12⟩)
        have HD : Box (Below w3.heap.size w3 w3.drew) := boxed (Below.refl _ _).drew
        have HNx : Box (∀ lo' n' lc' es' w5, Below w3.heap.size w3 w5 → RsAt (fun b => ¬ F' b ∧ b ≠ w.heap.size + 1 ∧ b ≠ w.heap.size) w5 lo' es' → n' = es'.length → PutR room (abR es) k.ky v (abR es') → PlI w (put4 w5 (w.heap.size + 1) (.int .i64 room) (.slice lo' n' lc') (.int .i64 fo) (.int .i64 mi)) room O (i + 1) F' cb mb fo mi L' Bk' M' lo' n' lc' es') := boxed (fun lo' n' lc' es' w5 hb hrs hn hpr => by
          have hnum := H2.out.num
          rw [H2.out.ab] at hpr
          exact H2.out.next c3' c4' c1' hb hrs hn (PutR.det H2.out.ca.nodup hpr c2') (.inr ⟨by rw [← HOi.out]; exact HFk.out, .inl ⟨by rw [← HOi.out], by rw [← HOi.out]; exact c2'⟩⟩) (by omega))
        obtain ⟨x0, x1, x2, x3⟩ := cells4 m4
        have x0' : w3.drew.cell? _ = _ := x0
        have x1' : w3.drew.cell? _ = _ := x1
        have x2' : w3.drew.cell? _ = _ := x2
        have x3' : w3.drew.cell? _ = _ := x3
        unfold Kv.val at HRP HRk
        unfold stV at HRP
        clear c1' c2' c3' c4' m1 m2 m3 m4 m5 hkc3 HPt HI H2 HO2 HB2 HO o0 o1 o2 o3 o4 o5 o6 o7 o8 o9 o10 o11 o12 x0 x1 x2 x3
        go_wp2_with fail
        obtain ⟨p1, p2, p3, p4, p5, p6, p7, p8, p9, p10, p11, p12⟩ := HX2.out _ HD.out
        go_region_with
          (first
            | (go_at_call 15; refine (HRk.out _).mono ?_; rintro e9 w4 ⟨rfl, hb4⟩; have HB4 := boxed (below_step HD.out (Nat.le_refl _) hb4); obtain ⟨v0, v1, v2, v3⟩ := cells4 ((HB4.out.block _ (heap_lt HS3.out)).trans HS3.out); obtain ⟨-, -, -, -, -, -, -, -, -, -, -, v12⟩ := HX2.out _ HB4.out; clear hb4)
            | (go_at_call 29; refine (HRP.out _ HB4.out).mono ?_; rintro e9 w5 ⟨lo', n', lc', es', rfl, hn', hrs', hpr', hb5⟩; have HB5 := boxed (below_step HB4.out (Nat.le_refl _) hb5); have HN5 := boxed (HNx.out lo' n' lc' es' w5 HB5.out hrs' hn' hpr'); have hS5 := (HB5.out.block _ (heap_lt HS3.out)).trans HS3.out; obtain ⟨t0, t1, t2, t3⟩ := cells4 hS5; have g0 := row_free hS5 0; have g1 := row_free hS5 1; have g2 := row_free hS5 2; have g3 := row_free hS5 3; clear hb5 hn' hrs' hpr' hS5; simp only [stV]))
        all_goals
          unfold put4 at HN5
          clear HX2 HNx HRP HRk
          go_wp2_with fail
          go_meet
          case rel => exact ⟨rfl, _, _, _, _, _, _, _, _, _, _, HN5⟩
      have q0 : (kd == 0) = false := by rw [beq_eq_false_iff_ne]; exact k0
      by_cases k1 : kd = 1
      · subst k1
        have hnum := H2.out.num
        have HGt := boxed (get_any w2 F cb mb room fo mi L Bk M k H2.out.ca (KvAt.weak (H2.out.kv HKw.out)) HFk.out hoc (by omega) (by omega))
        unfold Kv.val at HGt
        go_wp2_with fail
        refine HGt.out.mono ?_
        rintro r w3 ⟨o, L', hr', c1', c2', c4'⟩
        replace hr' : r = .returned (.tuple #[.int .i64 (o.getD 0), .bool o.isSome]) := by rw [hr']; cases o <;> rfl
        subst hr'
        obtain ⟨m1, m2, m3, m4, m5⟩ := H2.out.mid (F' := F) (fun b hb => .inl hb) c4'
        have HO3 := boxed ((c4'.block _ (heap_lt HO2.out) hobF).trans HO2.out)
        have HS3 := boxed m4
        have hs3 := heap_lt m4
        have ho3 := heap_lt HO3.out
        have hwr9 : w.heap.size + 1 < wr.heap.size := hsbw
        have hkc3 : KvAt (fun b => ¬ F b ∧ b ≠ w.heap.size + 1 ∧ b ≠ w.heap.size) w3 k := P2At.keep HKw.out (fun b q u _ hc => by
          have hlt := World.block_lt_of_cell? w _ hc
          simp only at hlt
          exact ⟨⟨fun c => by have := m2 b c; omega, by omega, by omega⟩, hold m5 hc⟩)
        obtain ⟨fo', hfo'⟩ : ∃ x, fo + (if o.isSome then 1 else 0 : Int) = x := ⟨_, rfl⟩
        obtain ⟨mi', hmi'⟩ : ∃ x, mi + (if o.isSome then 0 else 1 : Int) = x := ⟨_, rfl⟩
        rw [hfo', hmi'] at c1'
        have hnum' : (0 ≤ fo' ∧ fo' ≤ (i : Int) + 1) ∧ 0 ≤ mi' ∧ mi' ≤ (i : Int) + 1 := by
          rw [← hfo', ← hmi']
          cases o <;> simp <;> omega
        have HRG0 : Box (∀ (S : Nat → Prop) W', (∀ b, S b → ¬ F b ∧ b ≠ w.heap.size + 1 ∧ b ≠ w.heap.size) → (∀ b, b < w3.heap.size → (¬ F b ∧ b ≠ w.heap.size + 1 ∧ b ≠ w.heap.size) → S b) → (∀ b, W'.heap.size ≤ b → S b) → Below w3.heap.size w3 W' → Calls Try.prog 30 #[stV room lo n lc fo mi, k.val] W' fun r w' => ∃ lo' n' lc' es', r = .returned (.tuple #[.agg #[.int .i64 room, .slice lo' n' lc', .int .i64 fo', .int .i64 mi'], .int .i64 (o.getD 0), .bool o.isSome]) ∧ n' = es'.length ∧ RsAt S w' lo' es' ∧ abR es' = abL L' ∧ Below W'.heap.size W' w') := boxed (fun S W' h1 h2 h3 hb => by
          have hfw := H2.out.few
          rw [H2.out.len]
          have kp : Kp (fun b => ¬ F b ∧ b ≠ w.heap.size + 1 ∧ b ≠ w.heap.size) S w3 W' := fun b q u hs hc => ⟨h2 b (World.block_lt_of_cell? w3 _ hc) hs, hold hb hc⟩
          refine (rget_any S W' room lo lc fo mi es k (m1.keep kp) h3 (by omega) (by omega) (by omega) (P2At.keep hkc3 kp) HFk.out).mono ?_
          rintro r w' ⟨p, lo', n', lc', es', rfl, e1, e2, e3, e4⟩
          rw [H2.out.ab] at e3
          obtain ⟨rfl, e5⟩ := GetR.det H2.out.ca.nodup e3 c2'
          exact ⟨lo', n', lc', es', by rw [hfo', hmi']; rfl, e1, e2, e5, e4⟩)
        have HRk := boxed (fun W' => refk_any k W')
        have HX2 : Box (∀ W', Below w3.heap.size w3 W' → W'.cell? ⟨wr.heap.size, 1, none⟩ = some (.string k.tx) ∧ W'.cell? ⟨wr.heap.size, 2, none⟩ = some (.slice k.ra k.rn k.rc) ∧ W'.cell? ⟨wr.heap.size, 3, none⟩ = some (.int .i64 k.ta) ∧ W'.cell? ⟨wr.heap.size, 4, none⟩ = some (.int .i64 k.wd) ∧ W'.cell? ⟨wr.heap.size, 5, none⟩ = some (.int .i64 k.s.t) ∧ W'.cell? ⟨wr.heap.size, 6, none⟩ = some (.int .i64 k.s.l) ∧ W'.cell? ⟨wr.heap.size, 7, none⟩ = some (.int .i64 k.s.a) ∧ W'.cell? ⟨wr.heap.size, 8, none⟩ = some (.int .i64 k.s.d) ∧ W'.cell? ⟨wr.heap.size, 9, none⟩ = some (.int .i64 k.s.z) ∧ W'.cell? ⟨wr.heap.size, 10, none⟩ = some (.int .i64 k.s.o) ∧ W'.cell? ⟨wr.heap.size, 11, none⟩ = some (.int .i64 k.s.i) ∧ W'.cell? ⟨w.heap.size + 1, 0, none⟩ = some (.int .i64 room) ∧ W'.cell? ⟨w.heap.size + 1, 1, none⟩ = some (.slice lo n lc) ∧ W'.cell? ⟨w.heap.size + 1, 2, none⟩ = some (.int .i64 fo) ∧ W'.cell? ⟨w.heap.size + 1, 3, none⟩ = some (.int .i64 mi)) := boxed (fun W' hb => by
          obtain ⟨-, q1, q2, q3, q4, q5, q6, q7, q8, q9, q10, q11, -⟩ := cells13 HO3.out
          obtain ⟨s0, s1, s2, s3⟩ := cells4 HS3.out
          exact ⟨hold hb q1, hold hb q2, hold hb q3, hold hb q4, hold hb q5, hold hb q6, hold hb q7, hold hb q8, hold hb q9, hold hb q10, hold hb q11, hold hb s0, hold hb s1, hold hb s2, hold hb s3⟩)
        have HXT : Box (∀ W' (tb : Nat) u0 u1 u2 u3, Below w3.heap.size w3 W' → w3.heap.size ≤ tb → ((((W'.setCell ⟨tb, 0, none⟩ u0).setCell ⟨tb, 1, none⟩ u1).setCell ⟨tb, 2, none⟩ u2).setCell ⟨tb, 3, none⟩ u3).cell? ⟨wr.heap.size, 1, none⟩ = some (.string k.tx) ∧ ((((W'.setCell ⟨tb, 0, none⟩ u0).setCell ⟨tb, 1, none⟩ u1).setCell ⟨tb, 2, none⟩ u2).setCell ⟨tb, 3, none⟩ u3).cell? ⟨wr.heap.size, 2, none⟩ = some (.slice k.ra k.rn k.rc) ∧ ((((W'.setCell ⟨tb, 0, none⟩ u0).setCell ⟨tb, 1, none⟩ u1).setCell ⟨tb, 2, none⟩ u2).setCell ⟨tb, 3, none⟩ u3).cell? ⟨wr.heap.size, 3, none⟩ = some (.int .i64 k.ta) ∧ ((((W'.setCell ⟨tb, 0, none⟩ u0).setCell ⟨tb, 1, none⟩ u1).setCell ⟨tb, 2, none⟩ u2).setCell ⟨tb, 3, none⟩ u3).cell? ⟨wr.heap.size, 4, none⟩ = some (.int .i64 k.wd) ∧ ((((W'.setCell ⟨tb, 0, none⟩ u0).setCell ⟨tb, 1, none⟩ u1).setCell ⟨tb, 2, none⟩ u2).setCell ⟨tb, 3, none⟩ u3).cell? ⟨wr.heap.size, 5, none⟩ = some (.int .i64 k.s.t) ∧ ((((W'.setCell ⟨tb, 0, none⟩ u0).setCell ⟨tb, 1, none⟩ u1).setCell ⟨tb, 2, none⟩ u2).setCell ⟨tb, 3, none⟩ u3).cell? ⟨wr.heap.size, 6, none⟩ = some (.int .i64 k.s.l) ∧ ((((W'.setCell ⟨tb, 0, none⟩ u0).setCell ⟨tb, 1, none⟩ u1).setCell ⟨tb, 2, none⟩ u2).setCell ⟨tb, 3, none⟩ u3).cell? ⟨wr.heap.size, 7, none⟩ = some (.int .i64 k.s.a) ∧ ((((W'.setCell ⟨tb, 0, none⟩ u0).setCell ⟨tb, 1, none⟩ u1).setCell ⟨tb, 2, none⟩ u2).setCell ⟨tb, 3, none⟩ u3).cell? ⟨wr.heap.size, 8, none⟩ = some (.int .i64 k.s.d) ∧ ((((W'.setCell ⟨tb, 0, none⟩ u0).setCell ⟨tb, 1, none⟩ u1).setCell ⟨tb, 2, none⟩ u2).setCell ⟨tb, 3, none⟩ u3).cell? ⟨wr.heap.size, 9, none⟩ = some (.int .i64 k.s.z) ∧ ((((W'.setCell ⟨tb, 0, none⟩ u0).setCell ⟨tb, 1, none⟩ u1).setCell ⟨tb, 2, none⟩ u2).setCell ⟨tb, 3, none⟩ u3).cell? ⟨wr.heap.size, 10, none⟩ = some (.int .i64 k.s.o) ∧ ((((W'.setCell ⟨tb, 0, none⟩ u0).setCell ⟨tb, 1, none⟩ u1).setCell ⟨tb, 2, none⟩ u2).setCell ⟨tb, 3, none⟩ u3).cell? ⟨wr.heap.size, 11, none⟩ = some (.int .i64 k.s.i) ∧ ((((W'.setCell ⟨tb, 0, none⟩ u0).setCell ⟨tb, 1, none⟩ u1).setCell ⟨tb, 2, none⟩ u2).setCell ⟨tb, 3, none⟩ u3).cell? ⟨w.heap.size + 1, 0, none⟩ = some (.int .i64 room) ∧ ((((W'.setCell ⟨tb, 0, none⟩ u0).setCell ⟨tb, 1, none⟩ u1).setCell ⟨tb, 2, none⟩ u2).setCell ⟨tb, 3, none⟩ u3).cell? ⟨w.heap.size + 1, 1, none⟩ = some (.slice lo n lc) ∧ ((((W'.setCell ⟨tb, 0, none⟩ u0).setCell ⟨tb, 1, none⟩ u1).setCell ⟨tb, 2, none⟩ u2).setCell ⟨tb, 3, none⟩ u3).cell? ⟨w.heap.size + 1, 2, none⟩ = some (.int .i64 fo) ∧ ((((W'.setCell ⟨tb, 0, none⟩ u0).setCell ⟨tb, 1, none⟩ u1).setCell ⟨tb, 2, none⟩ u2).setCell ⟨tb, 3, none⟩ u3).cell? ⟨w.heap.size + 1, 3, none⟩ = some (.int .i64 mi)) := boxed (fun W' tb u0 u1 u2 u3 hb ht => by
          have hf : ∀ c j x, c < w3.heap.size → W'.cell? ⟨c, j, none⟩ = some x → ((((W'.setCell ⟨tb, 0, none⟩ u0).setCell ⟨tb, 1, none⟩ u1).setCell ⟨tb, 2, none⟩ u2).setCell ⟨tb, 3, none⟩ u3).cell? ⟨c, j, none⟩ = some x := fun c j x hc hx => by
            have hne : tb ≠ c := by omega
            rw [World.cell?_setCell_far _ _ _ _ (show tb ≠ c from hne), World.cell?_setCell_far _ _ _ _ (show tb ≠ c from hne), World.cell?_setCell_far _ _ _ _ (show tb ≠ c from hne), World.cell?_setCell_far _ _ _ _ (show tb ≠ c from hne)]; exact hx
          obtain ⟨q1, q2, q3, q4, q5, q6, q7, q8, q9, q10, q11, s0, s1, s2, s3⟩ := HX2.out W' hb
          exact ⟨hf _ _ _ ho3 q1, hf _ _ _ ho3 q2, hf _ _ _ ho3 q3, hf _ _ _ ho3 q4, hf _ _ _ ho3 q5, hf _ _ _ ho3 q6, hf _ _ _ ho3 q7, hf _ _ _ ho3 q8, hf _ _ _ ho3 q9, hf _ _ _ ho3 q10, hf _ _ _ ho3 q11, hf _ _ _ hs3 s0, hf _ _ _ hs3 s1, hf _ _ _ hs3 s2, hf _ _ _ hs3 s3⟩)
        have HD : Box (Below w3.heap.size w3 w3.drew) := boxed (Below.refl _ _).drew
        have HDa : Box (Below w3.heap.size w3 (w3.alloc (.cells #[.int .i64 0, .slice none 0 0, .int .i64 0, .int .i64 0] 27)).drew) := boxed ((Below.refl _ _).alloc (Nat.le_refl _) _).drew
        have HZ3 : Box ((w3.alloc (.cells #[.int .i64 0, .slice none 0 0, .int .i64 0, .int .i64 0] 27)).drew.heap[w3.heap.size]? = some (.cells #[.int .i64 0, .slice none 0 0, .int .i64 0, .int .i64 0] 27 (0, 0))) := boxed (heap_alloc_new w3 _)
        have HNx : Box (∀ lo' n' lc' es' w5, Below w3.heap.size w3 w5 → RsAt (fun b => ¬ F b ∧ b ≠ w.heap.size + 1 ∧ b ≠ w.heap.size) w5 lo' es' → n' = es'.length → abR es' = abL L' → PlI w (put4 w5 (w.heap.size + 1) (.int .i64 room) (.slice lo' n' lc') (.int .i64 fo') (.int .i64 mi')) room O (i + 1) F cb mb fo' mi' L' Bk M lo' n' lc' es') := boxed (fun lo' n' lc' es' w5 hb hrs hn hab =>
          H2.out.next (F' := F) (fun b hb => .inl hb) c4' c1' hb hrs hn hab (.inr ⟨by rw [← HOi.out]; exact HFk.out, .inr (.inl ⟨by rw [← HOi.out], by rw [← HOi.out]; exact ⟨_, c2'⟩⟩)⟩) hnum')
        /- the new block is laid ahead of Get: its answer's rows don't lie there -/
        have HRG : Box (∀ W' (tb : Nat), Below w3.heap.size w3 W' → w3.heap.size ≤ tb → tb < W'.heap.size → Calls Try.prog 30 #[stV room lo n lc fo mi, k.val] W' fun r w' => ∃ lo' n' lc' es', r = .returned (.tuple #[.agg #[.int .i64 room, .slice lo' n' lc', .int .i64 fo', .int .i64 mi'], .int .i64 (o.getD 0), .bool o.isSome]) ∧ n' = es'.length ∧ RsAt (fun b => (¬ F b ∧ b ≠ w.heap.size + 1 ∧ b ≠ w.heap.size) ∧ b ≠ tb) w' lo' es' ∧ abR es' = abL L' ∧ Below W'.heap.size W' w') := boxed (fun W' tb hb h1 h2 =>
          HRG0.out _ W' (fun b hb => hb.1) (fun b h3 h4 => ⟨h4, by omega⟩) (fun b h3 => ⟨⟨fun c => by have := c1'.fl b c; have := hb.size; omega, by omega, by omega⟩, by omega⟩) hb)
        have HRG2 : Box (∀ W', Below w3.heap.size w3 W' → Calls Try.prog 30 #[stV room lo n lc fo mi, k.val] W' fun r w' => ∃ lo' n' lc' es', r = .returned (.tuple #[.agg #[.int .i64 room, .slice lo' n' lc', .int .i64 fo', .int .i64 mi'], .int .i64 (o.getD 0), .bool o.isSome]) ∧ n' = es'.length ∧ RsAt (fun b => ¬ F b ∧ b ≠ w.heap.size + 1 ∧ b ≠ w.heap.size) w' lo' es' ∧ abR es' = abL L' ∧ Below W'.heap.size W' w') := boxed (fun W' hb =>
          HRG0.out _ W' (fun b hb => hb) (fun b h3 h4 => h4) (fun b h3 => ⟨fun c => by have := c1'.fl b c; have := hb.size; omega, by have := hb.size; omega, by have := hb.size; omega⟩) hb)
        unfold Kv.val at HRG HRG2 HRk
        unfold stV at HRG HRG2
        generalize o.getD 0 = gv at *
        generalize o.isSome = gb at *
        clear c1' c2' c4' m1 m2 m3 m4 m5 hkc3 HGt HI H2 HO2 HB2 HO o0 o1 o2 o3 o4 o5 o6 o7 o8 o9 o10 o11 o12 HRG0 hfo' hmi' hnum hnum'
        go_wp2_with fail
        go_region_held3 (fun W' => W'.cell? ⟨wr.heap.size, 1, none⟩ = some (.string k.tx) ∧ W'.cell? ⟨wr.heap.size, 2, none⟩ = some (.slice k.ra k.rn k.rc) ∧ W'.cell? ⟨wr.heap.size, 3, none⟩ = some (.int .i64 k.ta) ∧ W'.cell? ⟨wr.heap.size, 4, none⟩ = some (.int .i64 k.wd) ∧ W'.cell? ⟨wr.heap.size, 5, none⟩ = some (.int .i64 k.s.t) ∧ W'.cell? ⟨wr.heap.size, 6, none⟩ = some (.int .i64 k.s.l) ∧ W'.cell? ⟨wr.heap.size, 7, none⟩ = some (.int .i64 k.s.a) ∧ W'.cell? ⟨wr.heap.size, 8, none⟩ = some (.int .i64 k.s.d) ∧ W'.cell? ⟨wr.heap.size, 9, none⟩ = some (.int .i64 k.s.z) ∧ W'.cell? ⟨wr.heap.size, 10, none⟩ = some (.int .i64 k.s.o) ∧ W'.cell? ⟨wr.heap.size, 11, none⟩ = some (.int .i64 k.s.i) ∧ W'.cell? ⟨w.heap.size + 1, 0, none⟩ = some (.int .i64 room) ∧ W'.cell? ⟨w.heap.size + 1, 1, none⟩ = some (.slice lo n lc) ∧ W'.cell? ⟨w.heap.size + 1, 2, none⟩ = some (.int .i64 fo) ∧ W'.cell? ⟨w.heap.size + 1, 3, none⟩ = some (.int .i64 mi))
          (first | with_reducible exact HX2.out _ HD.out | with_reducible exact HX2.out _ HDa.out | with_reducible exact HX2.out _ HB4.out | with_reducible exact HX2.out _ HB4a.out | with_reducible exact HX2.out _ HB5.out | with_reducible exact HX2.out _ HB5a.out | with_reducible exact HX2.out _ HB5b.out | with_reducible exact HXT.out _ _ _ _ _ _ HB5.out HTb.out)
          (first
            | (go_at_call 15; refine (HRk.out _).mono ?_; rintro e9 w4 ⟨rfl, hb4⟩; first | (have HB4 := boxed (below_step HD.out (Nat.le_refl _) hb4); have HB4a : Box (Below w3.heap.size w3 (w4.alloc (.cells #[.int .i64 0, .slice none 0 0, .int .i64 0, .int .i64 0] 27))) := boxed (HB4.out.alloc HB4.out.size _); clear hb4) | (have HB4 := boxed (below_step HDa.out (Nat.le_refl _) hb4); have HZ4 : Box (w4.heap[w3.heap.size]? = some (.cells #[.int .i64 0, .slice none 0 0, .int .i64 0, .int .i64 0] 27 (0, 0))) := boxed ((hb4.block w3.heap.size (heap_lt HZ3.out)).trans HZ3.out); clear hb4))
            | (go_at_call 30; first
                | (refine (HRG.out _ w3.heap.size HB4.out (Nat.le_refl _) (heap_lt HZ4.out)).mono ?_; rintro e9 w5 ⟨lo', n', lc', es', rfl, hn', hrs', hab', hb5⟩; have HB5 := boxed (below_step HB4.out (Nat.le_refl _) hb5); have hZ5 := (hb5.block w3.heap.size (heap_lt HZ4.out)).trans HZ4.out; have HT5 := boxed (And.intro hn' (And.intro hrs' hab')); have HZ5 := boxed hZ5; obtain ⟨t0, t1, t2, t3⟩ := cells4 hZ5; have g0 := row_free hZ5 0; have g1 := row_free hZ5 1; have g2 := row_free hZ5 2; have g3 := row_free hZ5 3; have HTb : Box (w3.heap.size ≤ w3.heap.size) := boxed (Nat.le_refl _); clear hb5 hn' hrs' hab' hZ5)
                | (refine (HRG.out _ w4.heap.size HB4a.out HB4.out.size (by simp)).mono ?_; rintro e9 w5 ⟨lo', n', lc', es', rfl, hn', hrs', hab', hb5⟩; have HB5 := boxed (below_step HB4a.out (Nat.le_refl _) hb5); have hZ5 : w5.heap[w4.heap.size]? = some (.cells #[.int .i64 0, .slice none 0 0, .int .i64 0, .int .i64 0] 27 (0, 0)) := (hb5.block w4.heap.size (by simp)).trans (heap_alloc_new w4 _); have HT5 := boxed (And.intro hn' (And.intro hrs' hab')); have HZ5 := boxed hZ5; obtain ⟨t0, t1, t2, t3⟩ := cells4 hZ5; have g0 := row_free hZ5 0; have g1 := row_free hZ5 1; have g2 := row_free hZ5 2; have g3 := row_free hZ5 3; have HTb : Box (w3.heap.size ≤ w4.heap.size) := boxed HB4.out.size; clear hb5 hn' hrs' hab' hZ5)
                | (refine (HRG2.out _ HB4.out).mono ?_; rintro e9 w5 ⟨lo', n', lc', es', rfl, hn', hrs', hab', hb5⟩; have HB5 := boxed (below_step HB4.out (Nat.le_refl _) hb5); have HB5a : Box (Below w3.heap.size w3 (w5.alloc (.cells #[.int .i64 0, .slice none 0 0, .int .i64 0, .int .i64 0] 27))) := boxed (HB5.out.alloc HB5.out.size _); have HB5b : Box (Below w3.heap.size w3 (w5.alloc (.cells #[.int .i64 room, .slice lo' n' lc', .int .i64 fo', .int .i64 mi'] 27))) := boxed (HB5.out.alloc HB5.out.size _); have HT5 := boxed (And.intro hn' (And.intro hrs' hab')); clear hb5 hn' hrs' hab')))
        all_goals first
          | (obtain ⟨X, hX⟩ : ∃ X, put4 w5 w3.heap.size (.int .i64 room) (.slice lo' n' lc') (.int .i64 fo') (.int .i64 mi') = X := ⟨_, rfl⟩
             have hXg : w5.grownBy X (some w3.heap.size) := by rw [← hX]; exact put4_grown _ _ _ _ _ _
             have hXh : X.heap[w3.heap.size]? = some (.cells #[.int .i64 room, .slice lo' n' lc', .int .i64 fo', .int .i64 mi'] 27 (0, 0)) := by rw [← hX]; exact put4_heap HZ5.out _ _ _ _
             have hXb : Below w3.heap.size w3 X := HB5.out.trans (grown_below hXg HTb.out HB5.out.size)
             have hXr : RsAt (fun b => ¬ F b ∧ b ≠ w.heap.size + 1 ∧ b ≠ w.heap.size) X lo' es' := HT5.out.2.1.keep (fun b q u hs hc => ⟨hs.1, hXg.cell hc (fun c => hs.2 (by injection c))⟩)
             unfold put4 at hX
             have HXe := boxed hX
             go_upto_region 17 with fail
             rw [HXe.out]
             have HN9 := boxed (HNx.out lo' n' lc' es' X hXb hXr HT5.out.1 HT5.out.2.2)
             have hSX := (hXb.block _ (heap_lt HS3.out)).trans HS3.out
             obtain ⟨j0, j1, j2, j3⟩ := cells4 hSX
             have f0 := row_free hSX 0
             have f1 := row_free hSX 1
             have f2 := row_free hSX 2
             have f3 := row_free hSX 3
             obtain ⟨l0, l1, l2, l3⟩ := cells4 hXh
             unfold put4 at HN9
             clear HX2 HXT HNx HRG HRG2 HRk hSX hXh hXb hXr HXe
             go_wp2_with fail
             go_meet
             case rel => exact ⟨rfl, _, _, _, _, _, _, _, _, _, _, HN9⟩)
          | (obtain ⟨X, hX⟩ : ∃ X, put4 w5 w4.heap.size (.int .i64 room) (.slice lo' n' lc') (.int .i64 fo') (.int .i64 mi') = X := ⟨_, rfl⟩
             have hXg : w5.grownBy X (some w4.heap.size) := by rw [← hX]; exact put4_grown _ _ _ _ _ _
             have hXh : X.heap[w4.heap.size]? = some (.cells #[.int .i64 room, .slice lo' n' lc', .int .i64 fo', .int .i64 mi'] 27 (0, 0)) := by rw [← hX]; exact put4_heap HZ5.out _ _ _ _
             have hXb : Below w3.heap.size w3 X := HB5.out.trans (grown_below hXg HTb.out HB5.out.size)
             have hXr : RsAt (fun b => ¬ F b ∧ b ≠ w.heap.size + 1 ∧ b ≠ w.heap.size) X lo' es' := HT5.out.2.1.keep (fun b q u hs hc => ⟨hs.1, hXg.cell hc (fun c => hs.2 (by injection c))⟩)
             unfold put4 at hX
             have HXe := boxed hX
             go_upto_region 17 with fail
             rw [HXe.out]
             have HN9 := boxed (HNx.out lo' n' lc' es' X hXb hXr HT5.out.1 HT5.out.2.2)
             have hSX := (hXb.block _ (heap_lt HS3.out)).trans HS3.out
             obtain ⟨j0, j1, j2, j3⟩ := cells4 hSX
             have f0 := row_free hSX 0
             have f1 := row_free hSX 1
             have f2 := row_free hSX 2
             have f3 := row_free hSX 3
             obtain ⟨l0, l1, l2, l3⟩ := cells4 hXh
             unfold put4 at HN9
             clear HX2 HXT HNx HRG HRG2 HRk hSX hXh hXb hXr HXe
             go_wp2_with fail
             go_meet
             case rel => exact ⟨rfl, _, _, _, _, _, _, _, _, _, _, HN9⟩)
          | (obtain ⟨X, hX⟩ : ∃ X, w5.alloc (.cells #[.int .i64 room, .slice lo' n' lc', .int .i64 fo', .int .i64 mi'] 27) = X := ⟨_, rfl⟩
             have hXh : X.heap[w5.heap.size]? = some (.cells #[.int .i64 room, .slice lo' n' lc', .int .i64 fo', .int .i64 mi'] 27 (0, 0)) := by rw [← hX]; exact heap_alloc_new w5 _
             have hXb : Below w3.heap.size w3 X := by rw [← hX]; exact HB5b.out
             have hXr : RsAt (fun b => ¬ F b ∧ b ≠ w.heap.size + 1 ∧ b ≠ w.heap.size) X lo' es' := by rw [← hX]; exact HT5.out.2.1.below ((Below.refl _ _).alloc (Nat.le_refl _) _)
             have HXe := boxed hX
             clear hX
             go_upto_region 17 with fail
             rw [HXe.out]
             have HN9 := boxed (HNx.out lo' n' lc' es' X hXb hXr HT5.out.1 HT5.out.2.2)
             have hSX := (hXb.block _ (heap_lt HS3.out)).trans HS3.out
             obtain ⟨j0, j1, j2, j3⟩ := cells4 hSX
             have f0 := row_free hSX 0
             have f1 := row_free hSX 1
             have f2 := row_free hSX 2
             have f3 := row_free hSX 3
             obtain ⟨l0, l1, l2, l3⟩ := cells4 hXh
             unfold put4 at HN9
             clear HX2 HXT HNx HRG HRG2 HRk hSX hXh hXb hXr HXe
             go_wp2_with fail
             go_meet
             case rel => exact ⟨rfl, _, _, _, _, _, _, _, _, _, _, HN9⟩)
      have q1 : (kd == 1) = false := by rw [beq_eq_false_iff_ne]; exact k1
      by_cases k2 : kd = 2
      · subst k2
        have HCl := boxed (clear_any w2 F cb mb room fo mi L Bk M H2.out.ca)
        go_wp2_with fail
        refine HCl.out.mono ?_
        rintro r w3 ⟨rfl, c1', c4'⟩
        obtain ⟨m1, m2, m3, m4, m5⟩ := H2.out.mid (F' := F) (fun b hb => .inl hb) c4'
        obtain ⟨x0, x1, x2, x3⟩ := cells4 m4
        have xf := row_free m4 1
        obtain ⟨w8, hw8⟩ : ∃ w8, w3.setCell ⟨w.heap.size + 1, 1, none⟩ (.slice none 0 0) = w8 := ⟨_, rfl⟩
        have HI8 : Box (PlI w w8 room O (i + 1) F cb mb fo mi [] (fun _ => []) (fun _ => none) none 0 0 []) := boxed (by
          rw [← hw8]
          exact H2.out.clear c4' c1' (.inr ⟨by rw [← HOi.out]; exact HFk.out, .inr (.inr (.inl ⟨by rw [← HOi.out], rfl⟩))⟩))
        have HW8 := boxed hw8
        clear hw8 c1' c4' m1 m2 m3 m4 m5 HCl HI H2 HO2 HB2 HO o0 o1 o2 o3 o4 o5 o6 o7 o8 o9 o10 o11 o12
        go_wp2_with fail
        first | rw [HW8.out] | skip
        go_meet
        case rel => exact ⟨rfl, _, _, _, _, _, _, _, _, _, _, by first | exact HI8 | (rw [HW8.out]; exact HI8)⟩
      have q2 : (kd == 2) = false := by rw [beq_eq_false_iff_ne]; exact k2
      have HI8 : Box (PlI w w2 room O (i + 1) F cb mb fo mi L Bk M lo n lc es) := boxed (H2.out.idle (.inr ⟨by rw [← HOi.out]; exact HFk.out, .inr (.inr (.inr ⟨by rw [← HOi.out]; exact k0, by rw [← HOi.out]; exact k1, by rw [← HOi.out]; exact k2, rfl⟩))⟩))
      clear HI H2 HO2 HB2 HO k0 k1 k2 o1 o2 o3 o4 o5 o6 o7 o8 o9 o10 o11 o12
      go_wp2_with fail
      go_meet
      case rel => exact ⟨rfl, _, _, _, _, _, _, _, _, _, _, HI8⟩
    case rest =>
      obtain ⟨rfl, F', fo', mi', L', Bk', M', lo', n', lc', es', HI8⟩ := hcut
      clear HI H2 HO2 HB2 HO o0 o1 o2 o3 o4 o5 o6 o7 o8 o9 o10 o11 o12
      have hnl : n' = L'.length := by
        have e1 := HI8.out.len
        have e2 : es'.length = L'.length := by have := congrArg List.length HI8.out.ab; simpa [abR, abL] using this
        omega
      have s1 := (cells4 HI8.out.sb).2.1
      have HLen : Box (∀ q, Calls Try.prog 27 #[.pointer (some ⟨cb, 0, none⟩)] (wc.drewN q) fun r w' => r = .returned (.int .i64 (L'.length : Nat)) ∧ w' = wc.drewN q) := boxed (fun q => len_any (HI8.out.ca.below (bel_drewN _ _ _)))
      have tl : ((((L').length : Nat) : Int) != ((n' : Nat) : Int)) = false := by rw [hnl]; simp
      have tr : decide (room < (((L').length : Nat) : Int)) = false := decide_eq_false (by have := HI8.out.ca.len; omega)
      clear hnl
      generalize ((L').length : Nat) = ll at *
      go_wp2_with fail
      go_quiet ((go_at_call 27; exact Calls.quiet_of_same (HLen.out _)))
      go_wp2_with fail
      go_roundw
      case rel => exact ⟨i + 1, F', fo', mi', L', Bk', M', lo', n', lc', es', by omega, by omega, by go_num, boxed (HI8.out.below (bel_drewN _ _ _))⟩
      case measure => simp [intOf]; omega
end Go.Proofs.Ytmnnmnggakbipaa
