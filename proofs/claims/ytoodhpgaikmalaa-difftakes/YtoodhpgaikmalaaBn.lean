/-
  What changed between two layouts (diff.Diff, from the first page on).
-/
import Derived.Test.YtoodhpgaikmalaaBm
import Derived.Test.YtoodhpgaikmalaaBh
namespace Go.Proofs.Ytoodhpgaikmalaa
open Go.RowKit
set_option linter.unusedSimpArgs false
set_option linter.unusedVariables false

theorem dU_same (ps qs : List (List Key)) (n : Nat) (x y : List Key) (h1 : ps[n]? = some x) (h2 : qs[n]? = some y) (h : x = y) : dU ps qs (n + 1) = dU ps qs n := by
  rw [dU_succ]
  simp [dat, h1, h2, reg, h]
theorem dU_diff (ps qs : List (List Key)) (n : Nat) (x y : List Key) (h1 : ps[n]? = some x) (h2 : qs[n]? = some y) (h : x ≠ y) : dU ps qs (n + 1) = dU ps qs n ++ [⟨n, 1, pre x y, oldN x y, nowL x y⟩] := by
  rw [dU_succ]
  simp [dat, h1, h2, reg, h]
theorem dU_added (ps qs : List (List Key)) (n : Nat) (y : List Key) (h1 : ps.length ≤ n) (h2 : qs[n]? = some y) : dU ps qs (n + 1) = dU ps qs n ++ [⟨n, 2, 0, 0, y⟩] := by
  rw [dU_succ]
  simp [dat, List.getElem?_eq_none h1, h2]
theorem dU_gone (ps qs : List (List Key)) (n : Nat) (x : List Key) (h1 : ps[n]? = some x) (h2 : qs.length ≤ n) : dU ps qs (n + 1) = dU ps qs n ++ [⟨n, 3, 0, x.length, []⟩] := by
  rw [dU_succ]
  simp [dat, List.getElem?_eq_none h2, h1]
/-- The box of a region. -/
theorem page_rgc (n : Nat) (x y : List Key) (g L : Nat) (hL : (nowL x y).length = L) : rgc (⟨n, 1, pre x y, oldN x y, nowL x y⟩, some ⟨g, 0, none⟩, L) = [.int .i64 (n : Nat), .int .i64 1, .int .i64 (pre x y : Nat), .int .i64 (oldN x y : Nat), .slice (some ⟨g, 0, none⟩) L L] := by simp [rgc, hL]
set_option maxRecDepth 100000 in
set_option maxHeartbeats 16000000 in
theorem diff_any (S S' : Nat → Prop) (ao bo : Option Addr) (ps qs : List (List Key)) (ca cb : Nat) (w : World) (h1 : PsAt S w ao ps) (h2 : PsAt S' w bo qs) (hn : ps.length ≤ 200) (hm : qs.length ≤ 200) (hpl : ∀ (i : Nat) (ks : List Key), ps[i]? = some ks → ks.length ≤ 1000) (hql : ∀ (i : Nat) (ks : List Key), qs[i]? = some ks → ks.length ≤ 1000) :
    Calls Try.prog 10 #[.slice ao ps.length ca, .slice bo qs.length cb, .int .i64 0] w fun e w' => ∃ v, e = .returned v ∧ RgO w.heap.size w' v (dif ps qs) ∧ Below w.heap.size w w' := by
  have HPs := boxed (fun i (hi : i < ps.length) => (⟨_, List.getElem?_eq_getElem hi⟩ : ∃ ks, ps[i]? = some ks))
  have HQs := boxed (fun i (hi : i < qs.length) => (⟨_, List.getElem?_eq_getElem hi⟩ : ∃ ks, qs[i]? = some ks))
  have HD : Box (dif ps qs = dU ps qs (max ps.length qs.length)) := boxed rfl
  have HLn := boxed (fun n => dU_len ps qs n)
  have HDs := boxed (fun n x y e1 e2 h => dU_same ps qs n x y e1 e2 h)
  have HDd := boxed (fun n x y e1 e2 h => dU_diff ps qs n x y e1 e2 h)
  have HDa := boxed (fun n y e1 e2 => dU_added ps qs n y e1 e2)
  have HDg := boxed (fun n x e1 e2 => dU_gone ps qs n x e1 e2)
  have HH1 := boxed h1
  have HH2 := boxed h2
  have HPL := boxed hpl
  have HQL := boxed hql
  obtain ⟨n, hkn⟩ : ∃ n, ps.length = n := ⟨_, rfl⟩
  obtain ⟨m, hkm⟩ : ∃ m, qs.length = m := ⟨_, rfl⟩
  rw [hkn] at hn HPs HD HDa ⊢
  rw [hkm] at hm HQs HD HDg ⊢
  obtain ⟨q, hq, hqn, hqm, hqx⟩ : ∃ q : Nat, min (n : Int) (m : Int) = (q : Int) ∧ q ≤ n ∧ q ≤ m ∧ (q = n ∨ q = m) := ⟨min n m, by omega, by omega, by omega, by omega⟩
  have HQX := boxed hqx
  clear hkn hkm h1 h2 hpl hql hqx
  have HZ : Box (dU ps qs 0 = []) := boxed (by simp [dU])
  obtain ⟨U, hU⟩ : ∃ U, dU ps qs = U := ⟨_, rfl⟩
  rw [hU] at HD HLn HDs HDd HDa HDg HZ
  clear hU
  have hmx0 : max (0 : Int) (0 : Int) = 0 := by omega
  have hmxq : max (0 : Int) (q : Int) = (q : Int) := by omega
  obtain ⟨G, hG⟩ : ∃ G, w.heap.size = G := ⟨_, rfl⟩
  have HG := boxed hG
  rw [hG]
  clear hG
  have HI : Box (∀ i, i ≤ 1000 → I64 (i : Nat)) := boxed (fun i hi => ⟨by omega, by omega⟩)
  go_enter Try.func10, Try.ntmps10
  go_wp2_with fail
  go_loopw [8, 9] (fun rv iv wr => ∃ i : Nat, i ≤ q ∧ iv = .int .i64 (i : Nat) ∧ Box (RgO G wr rv (U i)) ∧ Box (Below G w wr)) (fun _ iv _ => q - (intOf iv).toNat)
  case atStart => exact ⟨0, Nat.zero_le _, rfl, boxed (by rw [HZ.out]; exact RgO.nil), boxed (Below.refl _ _)⟩
  case round =>
    obtain ⟨i, hi, rfl, HR, HB⟩ := hrel
    by_cases hlt : i < q
    · obtain ⟨ks, ek⟩ := HPs.out i (by omega)
      obtain ⟨ls, el⟩ := HQs.out i (by omega)
      have hbw : Below w.heap.size w wr := by rw [HG.out]; exact HB.out
      obtain ⟨b, o, la, lc, rfl, -, c0, -, hla⟩ := (HH1.out.below hbw) i ks ek
      obtain ⟨b', o', lb, ld, rfl, -, c1, hsl, hlb⟩ := (HH2.out.below hbw) i ls el
      have hi1 : (i : Int) < (n : Int) := by omega
      have hi2 : (i : Int) < (m : Int) := by omega
      have hi3 : i < n := by omega
      have hi4 : i < m := by omega
      have t0 : decide ((i : Int) < (q : Int)) = true := decide_eq_true (by omega)
      have hbl : b < wr.heap.size := World.block_lt_of_cell? wr _ c0
      have hbl' : b' < wr.heap.size := World.block_lt_of_cell? wr _ c1
      have hGr := hbw.size
      have hGw : G ≤ wr.heap.size := by have := HG.out; omega
      have HPG := boxed (fun W (hb : Below wr.heap.size wr W) => page_any S S' i la lb ks ls lc ld W (hla.below hb) (hlb.below hb) (HPL.out i ks ek) (HQL.out i ls el) hsl)
      have HCC : Box (∀ W, Below wr.heap.size wr W → W.cell? ⟨b, o + i, none⟩ = some (.slice la ks.length lc) ∧ W.cell? ⟨b', o' + i, none⟩ = some (.slice lb ls.length ld)) := boxed (fun W hb => ⟨hold hb c0, hold hb c1⟩)
      have HD0 : Box (Below wr.heap.size wr wr.drew) := boxed (Below.refl _ _).drew
      have HD1 : Box (Below wr.heap.size wr (wr.alloc (.cells #[.int .i64 0, .int .i64 0, .int .i64 0, .int .i64 0, .slice none 0 0] 39)).drew) := boxed ((Below.refl _ _).alloc (Nat.le_refl _) _).drew
      have HE1 : Box ((wr.alloc (.cells #[.int .i64 0, .int .i64 0, .int .i64 0, .int .i64 0, .slice none 0 0] 39)).drew.heap[wr.heap.size]? = some (.cells #[.int .i64 0, .int .i64 0, .int .i64 0, .int .i64 0, .slice none 0 0] 39 (0, 0))) := boxed (heap_alloc_new wr _)
      by_cases c : ks = ls
      · have HEQ : Box (U (i + 1) = U i) := boxed (HDs.out i ks ls ek el c)
        have HNE : Box (ks = ls) := boxed c
        clear c ek el hla hlb hsl hbw
        obtain ⟨nk, hnk⟩ : ∃ nk, ks.length = nk := ⟨_, rfl⟩
        obtain ⟨nl, hnl⟩ : ∃ nl, ls.length = nl := ⟨_, rfl⟩
        rw [hnk] at HPG HCC c0
        rw [hnl] at HPG HCC c1
        clear hnk hnl
        go_upto_region 7 with (fail)
        go_cut [10, 11] (fun s10 s11 wx => (∃ g, s10 = .pointer (some ⟨g, 0, none⟩)) ∧ s11 = .bool false ∧ Box (Below wr.heap.size wr wx))
        case first =>
          go_region_held3 (fun W => W.cell? ⟨b, o + i, none⟩ = some (.slice la nk lc) ∧ W.cell? ⟨b', o' + i, none⟩ = some (.slice lb nl ld))
            (first
              | with_reducible exact HCC.out _ HD0.out
              | with_reducible exact HCC.out _ HD1.out
              | with_reducible exact HCC.out _ HB2.out
              | with_reducible exact HCC.out _ (HB2.out.alloc HB2.out.size _)
              | with_reducible exact HCC.out _ (HB2.out.setCell (p := ⟨wr.heap.size, 0, none⟩) (Nat.le_refl _) _)
              | with_reducible exact HCC.out _ ((HB2.out.setCell (p := ⟨wr.heap.size, 0, none⟩) (Nat.le_refl _) _).setCell (p := ⟨wr.heap.size, 1, none⟩) (Nat.le_refl _) _)
              | with_reducible exact HCC.out _ (((HB2.out.setCell (p := ⟨wr.heap.size, 0, none⟩) (Nat.le_refl _) _).setCell (p := ⟨wr.heap.size, 1, none⟩) (Nat.le_refl _) _).setCell (p := ⟨wr.heap.size, 2, none⟩) (Nat.le_refl _) _)
              | with_reducible exact HCC.out _ ((((HB2.out.setCell (p := ⟨wr.heap.size, 0, none⟩) (Nat.le_refl _) _).setCell (p := ⟨wr.heap.size, 1, none⟩) (Nat.le_refl _) _).setCell (p := ⟨wr.heap.size, 2, none⟩) (Nat.le_refl _) _).setCell (p := ⟨wr.heap.size, 3, none⟩) (Nat.le_refl _) _)
              | with_reducible exact HCC.out _ (((((HB2.out.setCell (p := ⟨wr.heap.size, 0, none⟩) (Nat.le_refl _) _).setCell (p := ⟨wr.heap.size, 1, none⟩) (Nat.le_refl _) _).setCell (p := ⟨wr.heap.size, 2, none⟩) (Nat.le_refl _) _).setCell (p := ⟨wr.heap.size, 3, none⟩) (Nat.le_refl _) _).setCell (p := ⟨wr.heap.size, 4, none⟩) (Nat.le_refl _) _))
            (first
              | (go_at_call 21; refine (HPG.out _ HD0.out).mono ?_; rintro e w2 ⟨hb2, hcase⟩; obtain rfl : e = .returned (.tuple #[rgz, .bool false]) := hcase.elim (fun h => h.2) (fun h => absurd HNE.out h.1); have HB2 := boxed (below_step HD0.out (Nat.le_refl _) hb2); clear hb2 hcase; unfold rgz)
              | (go_at_call 21; refine (HPG.out _ HD1.out).mono ?_; rintro e w2 ⟨hb2, hcase⟩; obtain rfl : e = .returned (.tuple #[rgz, .bool false]) := hcase.elim (fun h => h.2) (fun h => absurd HNE.out h.1); have HB2 := boxed (below_step HD1.out (Nat.le_refl _) hb2); obtain ⟨⟨d0, d1, d2, d3, d4⟩, z0, z1, z2, z3, z4⟩ := cells5 ((hb2.block wr.heap.size (by simp)).trans HE1.out); clear hb2 hcase; unfold rgz))
          · have HB9 := boxed (HB2.out.alloc HB2.out.size (.cells #[.int .i64 0, .int .i64 0, .int .i64 0, .int .i64 0, .slice none 0 0] 39))
            go_wp2_with fail
            go_meet
            case rel => exact ⟨⟨_, rfl⟩, rfl, HB9⟩
          · have HG9 := put5_grown w2 wr.heap.size (.int .i64 0) (.int .i64 0) (.int .i64 0) (.int .i64 0) (.slice none 0 0)
            have HB9 := boxed (HB2.out.trans (grown_below HG9 (Nat.le_refl _) HB2.out.size))
            unfold put5 at HB9
            clear HG9
            go_wp2_with fail
            go_meet
            case rel => exact ⟨⟨_, rfl⟩, rfl, HB9⟩
        case rest =>
          obtain ⟨⟨g, rfl⟩, rfl, HB9⟩ := hcut
          clear c0 c1 hbl hbl' t0
          have HBn := boxed (below_step HB.out (by have := HG.out; omega) HB9.out)
          have HRn := boxed (HR.out.keep HB9.out)
          go_wp2_with fail
          go_roundw
          case rel => exact ⟨i + 1, by omega, by go_num, boxed (by rw [HEQ.out]; exact HRn.out), HBn⟩
          case measure => simp [intOf]; omega
      · have HEQ : Box (U (i + 1) = U i ++ [⟨i, 1, pre ks ls, oldN ks ls, nowL ks ls⟩]) := boxed (HDd.out i ks ls ek el c)
        have HNE : Box (ks ≠ ls) := boxed c
        have hle := bck_le ks ls
        have hpl := HPL.out i ks ek
        have HOK : Box (RgOk ⟨i, 1, pre ks ls, oldN ks ls, nowL ks ls⟩) := boxed ⟨⟨by simp only; omega, by simp only; omega⟩, ⟨by simp only; omega, by simp only; omega⟩, ⟨by simp only; omega, by simp only; omega⟩, ⟨by simp only [oldN]; omega, by simp only [oldN]; omega⟩⟩
        have HRC := boxed (fun g => page_rgc i ks ls g _ rfl)
        clear c ek el hla hlb hsl hbw hle hpl
        obtain ⟨nk, hnk⟩ : ∃ nk, ks.length = nk := ⟨_, rfl⟩
        obtain ⟨nl, hnl⟩ : ∃ nl, ls.length = nl := ⟨_, rfl⟩
        obtain ⟨P, hP⟩ : ∃ P, pre ks ls = P := ⟨_, rfl⟩
        obtain ⟨O, hO⟩ : ∃ O, oldN ks ls = O := ⟨_, rfl⟩
        obtain ⟨L, hL⟩ : ∃ L, (nowL ks ls).length = L := ⟨_, rfl⟩
        rw [hnk] at HPG HCC c0
        rw [hnl] at HPG HCC c1
        rw [hP, hO] at HPG HEQ HOK HRC
        rw [hL] at HPG HRC
        have HLL := boxed hL
        clear hnk hnl hP hO hL
        go_upto_region 7 with (fail)
        go_cut [10, 11] (fun s10 s11 wx => ∃ g g9, s10 = .pointer (some ⟨g, 0, none⟩) ∧ s11 = .bool true ∧ Box (wx.heap[g]? = some (.cells #[.int .i64 (i : Nat), .int .i64 1, .int .i64 (P : Nat), .int .i64 (O : Nat), .slice (some ⟨g9, 0, none⟩) L L] 39 (0, 0))) ∧ Box (LO (fun b => wr.heap.size ≤ b) wx (some ⟨g9, 0, none⟩) (nowL ks ls)) ∧ Box (Below wr.heap.size wr wx))
        case first =>
          go_region_held3 (fun W => W.cell? ⟨b, o + i, none⟩ = some (.slice la nk lc) ∧ W.cell? ⟨b', o' + i, none⟩ = some (.slice lb nl ld))
            (first
              | with_reducible exact HCC.out _ HD0.out
              | with_reducible exact HCC.out _ HD1.out
              | with_reducible exact HCC.out _ HB2.out
              | with_reducible exact HCC.out _ (HB2.out.alloc HB2.out.size _)
              | with_reducible exact HCC.out _ (HB2.out.setCell (p := ⟨wr.heap.size, 0, none⟩) (Nat.le_refl _) _)
              | with_reducible exact HCC.out _ ((HB2.out.setCell (p := ⟨wr.heap.size, 0, none⟩) (Nat.le_refl _) _).setCell (p := ⟨wr.heap.size, 1, none⟩) (Nat.le_refl _) _)
              | with_reducible exact HCC.out _ (((HB2.out.setCell (p := ⟨wr.heap.size, 0, none⟩) (Nat.le_refl _) _).setCell (p := ⟨wr.heap.size, 1, none⟩) (Nat.le_refl _) _).setCell (p := ⟨wr.heap.size, 2, none⟩) (Nat.le_refl _) _)
              | with_reducible exact HCC.out _ ((((HB2.out.setCell (p := ⟨wr.heap.size, 0, none⟩) (Nat.le_refl _) _).setCell (p := ⟨wr.heap.size, 1, none⟩) (Nat.le_refl _) _).setCell (p := ⟨wr.heap.size, 2, none⟩) (Nat.le_refl _) _).setCell (p := ⟨wr.heap.size, 3, none⟩) (Nat.le_refl _) _)
              | with_reducible exact HCC.out _ (((((HB2.out.setCell (p := ⟨wr.heap.size, 0, none⟩) (Nat.le_refl _) _).setCell (p := ⟨wr.heap.size, 1, none⟩) (Nat.le_refl _) _).setCell (p := ⟨wr.heap.size, 2, none⟩) (Nat.le_refl _) _).setCell (p := ⟨wr.heap.size, 3, none⟩) (Nat.le_refl _) _).setCell (p := ⟨wr.heap.size, 4, none⟩) (Nat.le_refl _) _))
            (first
              | (go_at_call 21; refine (HPG.out _ HD0.out).mono ?_; rintro e w2 ⟨hb2, hcase⟩; obtain ⟨g9, rfl, hg9, hlo9⟩ := hcase.elim (fun h => absurd h.1 HNE.out) (fun h => h.2); have HB2 := boxed (below_step HD0.out (Nat.le_refl _) hb2); have HL2 := boxed hlo9; clear hb2 hcase hlo9)
              | (go_at_call 21; refine (HPG.out _ HD1.out).mono ?_; rintro e w2 ⟨hb2, hcase⟩; obtain ⟨g9, rfl, hg9, hlo9⟩ := hcase.elim (fun h => absurd h.1 HNE.out) (fun h => h.2); have HB2 := boxed (below_step HD1.out (Nat.le_refl _) hb2); have HE2 := boxed ((hb2.block wr.heap.size (by simp)).trans HE1.out); obtain ⟨⟨d0, d1, d2, d3, d4⟩, z0, z1, z2, z3, z4⟩ := cells5 HE2.out; have HL2 := boxed hlo9; clear hb2 hcase hlo9))
          · have HB9 := boxed (HB2.out.alloc HB2.out.size (.cells #[.int .i64 (i : Nat), .int .i64 1, .int .i64 (P : Nat), .int .i64 (O : Nat), .slice (some ⟨g9, 0, none⟩) L L] 39))
            have HE9 := boxed (heap_alloc_new w2 (.cells #[.int .i64 (i : Nat), .int .i64 1, .int .i64 (P : Nat), .int .i64 (O : Nat), .slice (some ⟨g9, 0, none⟩) L L] 39))
            have HL9 := boxed (HL2.out.keep (S' := fun b => wr.heap.size ≤ b) (w' := w2.alloc (.cells #[.int .i64 (i : Nat), .int .i64 1, .int .i64 (P : Nat), .int .i64 (O : Nat), .slice (some ⟨g9, 0, none⟩) L L] 39)) (fun b hb hl => ⟨hb, Below.heap_alloc _ _ _ hl⟩))
            go_wp2_with fail
            go_meet
            case rel => exact ⟨_, _, rfl, rfl, HE9, HL9, HB9⟩
          · have HE9 := boxed (put5_heap HE2.out (.int .i64 (i : Nat)) (.int .i64 1) (.int .i64 (P : Nat)) (.int .i64 (O : Nat)) (.slice (some ⟨g9, 0, none⟩) L L))
            have HG9 := put5_grown w2 wr.heap.size (.int .i64 (i : Nat)) (.int .i64 1) (.int .i64 (P : Nat)) (.int .i64 (O : Nat)) (.slice (some ⟨g9, 0, none⟩) L L)
            have HB9 := boxed (HB2.out.trans (grown_below HG9 (Nat.le_refl _) HB2.out.size))
            have HL9 := boxed (HL2.out.keep (S' := fun b => wr.heap.size ≤ b) (fun b hb hl => ⟨by simp at hb; omega, HG9.block b hl (by simp at hb ⊢; omega)⟩))
            unfold put5 at HE9 HB9 HL9
            clear HG9
            go_wp2_with fail
            go_meet
            case rel => exact ⟨_, _, rfl, rfl, HE9, HL9, HB9⟩
        case rest =>
          obtain ⟨g, g9, rfl, rfl, HE9, HL9, HB9⟩ := hcut
          clear c0 c1 hbl hbl' t0
          have HRn := boxed (HR.out.keep HB9.out)
          obtain ⟨ra, rc, hsh, -⟩ := HR.out.shape
          subst hsh
          have hul := HLn.out i
          have HOB := boxed (fun bb (e : (Value.slice ra (U i).length rc).ownBlock = some bb) => by
            obtain ⟨zs, -, ho, -⟩ := HR.out
            exact (ho.lt bb e).2)
          obtain ⟨ul, hulq⟩ : ∃ ul, (U i).length = ul := ⟨_, rfl⟩
          rw [hulq] at HRn hul HOB
          obtain ⟨⟨d0, d1, d2, d3, d4⟩, -⟩ := cells5 HE9.out
          have l1 := laid1 wc (.cells #[.int .i64 (i : Nat), .int .i64 1, .int .i64 (P : Nat), .int .i64 (O : Nat), .slice (some ⟨g9, 0, none⟩) L L] 39)
          have HX1 := boxed l1
          have HRx := boxed (HRn.out.keep l1.2.1)
          have HBx := boxed (below_step (below_step HB.out (by have := HG.out; omega) HB9.out) (by have := HG.out; omega) l1.2.1)
          have HLx := boxed ((HL9.out.1.below l1.2.1).kp (S' := fun bb => G ≤ bb ∧ (Value.slice ra ul rc).ownBlock ≠ some bb) (fun bb j u hs hc => ⟨⟨by omega, fun e => by have := HOB.out bb e; omega⟩, hc⟩))
          clear l1
          have hzw : G ≤ wc.heap.size := by have := HB9.out.size; omega
          go_wp2_with (at_builtin; refine wpList_more rfl _ _ rfl G _ (U i) rfl (by first | exact HRx.out | (rw [hulq]; exact HRx.out)) wc.heap.size 1 rfl ⟨i, 1, P, O, nowL ks ls⟩ (some ⟨g9, 0, none⟩) L ?q1 HOK.out ⟨by rw [HLL.out]; exact Nat.le_refl _, fun e => by cases e⟩ (by first | exact HLx.out | (rw [hulq]; exact HLx.out)) (by omega) (by have := HX1.out.2.2; omega) ?_)
          case q1 =>
            rw [HRC.out]
            intro j u hj
            rw [cell_of_row _ _ _ _ _ _ HX1.out.1]
            simpa using hj
          intro v' w6 hrn _ hb6
          have HBn := boxed (HBx.out.trans hb6)
          have HRn2 := boxed hrn
          clear hrn hb6 HRx HLx HRn d0 d1 d2 d3 d4
          go_wp2_with fail
          go_roundw
          case rel => exact ⟨i + 1, by omega, by go_num, boxed (by rw [HEQ.out]; exact HRn2.out), HBn⟩
          case measure => simp [intOf]; omega
    · have hiq : i = q := by omega
      have HRq : Box (RgO G wr _ (U q)) := boxed (by rw [← hiq]; exact HR.out)
      have t0 : decide ((i : Int) < (q : Int)) = false := decide_eq_false (by omega)
      clear HR hiq
      go_wp2_with fail
      clear t0
      go_loopw [8, 12] (fun rv iv wr => ∃ i : Nat, q ≤ i ∧ (i = q ∨ i ≤ m) ∧ iv = .int .i64 (i : Nat) ∧ Box (RgO G wr rv (U i)) ∧ Box (Below G w wr)) (fun _ iv _ => m - (intOf iv).toNat)
      case atStart => exact ⟨q, Nat.le_refl _, Or.inl rfl, rfl, HRq, HB⟩
      case round =>
        obtain ⟨i, hqi, him, rfl, HR, HB⟩ := hrel
        have HIM := boxed him
        clear him
        by_cases hlt : i < m
        · obtain ⟨ls, el⟩ := HQs.out i hlt
          have hbw : Below w.heap.size w wr := by rw [HG.out]; exact HB.out
          obtain ⟨b', o', lb, ld, rfl, -, c1, hsl, hlb⟩ := (HH2.out.below hbw) i ls el
          have hni : n ≤ i := by rcases HQX.out with e | e <;> omega
          have HEQ : Box (U (i + 1) = U i ++ [⟨i, 2, 0, 0, ls⟩]) := boxed (HDa.out i ls hni el)
          have hi2 : (i : Int) < (m : Int) := by omega
          have t0 : decide ((i : Int) < (m : Int)) = true := decide_eq_true (by omega)
          have hGr := hbw.size
          have hGw : G ≤ wr.heap.size := by have := HG.out; omega
          have HOW := boxed (own_any S' lb ls ld wr hlb (HQL.out i ls el))
          have HOK : Box (RgOk (⟨i, 2, 0, 0, ls⟩ : Rg)) := boxed ⟨⟨by simp only; omega, by simp only; omega⟩, ⟨by simp only; omega, by simp only; omega⟩, ⟨by simp only; omega, by simp only; omega⟩, ⟨by simp only; omega, by simp only; omega⟩⟩
          obtain ⟨L, hL⟩ : ∃ L, ls.length = L := ⟨_, rfl⟩
          rw [hL] at HOW c1
          have HLL := boxed hL
          obtain ⟨ra, rc, hsh, -⟩ := HR.out.shape
          subst hsh
          have hul := HLn.out i
          have HOB := boxed (fun bb (e : (Value.slice ra (U i).length rc).ownBlock = some bb) => by
            obtain ⟨zs, -, ho, -⟩ := HR.out
            exact (ho.lt bb e).2)
          obtain ⟨ul, hulq⟩ : ∃ ul, (U i).length = ul := ⟨_, rfl⟩
          rw [hulq] at HR hul HOB
          clear hL el hlb hsl hbw hni
          go_wp2_with fail
          refine HOW.out.mono ?_
          rintro e w2 ⟨rfl, hlo, hb2⟩
          have hz2 := hb2.size
          have l1 := laid1 w2 (.cells #[.int .i64 (i : Nat), .int .i64 2, .int .i64 0, .int .i64 0, .slice (some ⟨wr.heap.size, 0, none⟩) L L] 39)
          have HX1 := boxed l1
          have HRx := boxed ((HR.out.keep hb2).keep l1.2.1)
          have HBx := boxed (below_step (below_step HB.out (by have := HG.out; omega) hb2) (by have := HG.out; omega) l1.2.1)
          have HLx := boxed ((hlo.1.below l1.2.1).kp (S' := fun bb => G ≤ bb ∧ (Value.slice ra ul rc).ownBlock ≠ some bb) (fun bb j u hs hc => ⟨⟨by omega, fun e => by have := HOB.out bb e; omega⟩, hc⟩))
          clear l1 hlo hb2 HOW c1
          have hzw : G ≤ w2.heap.size := by omega
          go_wp2_with (at_builtin; refine wpList_more rfl _ _ rfl G _ (U i) rfl (by first | exact HRx.out | (rw [hulq]; exact HRx.out)) w2.heap.size 1 rfl ⟨i, 2, 0, 0, ls⟩ (some ⟨wr.heap.size, 0, none⟩) L ?q1 HOK.out ⟨by rw [HLL.out]; exact Nat.le_refl _, fun e => by cases e⟩ (by first | exact HLx.out | (rw [hulq]; exact HLx.out)) (by omega) (by have := HX1.out.2.2; omega) ?_)
          case q1 =>
            intro j u hj
            rw [cell_of_row _ _ _ _ _ _ HX1.out.1]
            simpa [rgc, HLL.out] using hj
          intro v' w6 hrn _ hb6
          have HBn := boxed (HBx.out.trans hb6)
          have HRn2 := boxed hrn
          clear hrn hb6 HRx HLx
          go_wp2_with fail
          go_roundw
          case rel => exact ⟨i + 1, by omega, Or.inr (by omega), by go_num, boxed (by rw [HEQ.out]; exact HRn2.out), HBn⟩
          case measure => simp [intOf]; omega
        · have hie : i = max q m := by rcases HIM.out with e | e <;> omega
          have HRq2 : Box (RgO G wr _ (U (max q m))) := boxed (by rw [← hie]; exact HR.out)
          have t0 : decide ((i : Int) < (m : Int)) = false := decide_eq_false (by omega)
          clear HR hie
          go_wp2_with fail
          clear t0
          go_loopw [8, 13] (fun rv iv wr => ∃ i : Nat, q ≤ i ∧ (i = q ∨ i ≤ n) ∧ iv = .int .i64 (i : Nat) ∧ Box (RgO G wr rv (U (max i m))) ∧ Box (Below G w wr)) (fun _ iv _ => n - (intOf iv).toNat)
          case atStart => exact ⟨q, Nat.le_refl _, Or.inl rfl, rfl, HRq2, HB⟩
          case round =>
            obtain ⟨i, hqi, him, rfl, HR, HB⟩ := hrel
            have HIN := boxed him
            clear him
            by_cases hlt : i < n
            · obtain ⟨ks, ek⟩ := HPs.out i hlt
              have hbw : Below w.heap.size w wr := by rw [HG.out]; exact HB.out
              obtain ⟨b, o, la, lc, rfl, -, c0, -, hla⟩ := (HH1.out.below hbw) i ks ek
              have hmi : m ≤ i := by rcases HQX.out with e | e <;> omega
              have HEQ : Box (U (max (i + 1) m) = U i ++ [⟨i, 3, 0, ks.length, []⟩]) := boxed (by rw [show max (i + 1) m = i + 1 by omega]; exact HDg.out i ks ek hmi)
              rw [show max i m = i by omega] at HR
              have hi2 : (i : Int) < (n : Int) := by omega
              have t0 : decide ((i : Int) < (n : Int)) = true := decide_eq_true (by omega)
              have hGr := hbw.size
              have hGw : G ≤ wr.heap.size := by have := HG.out; omega
              have hkl := HPL.out i ks ek
              obtain ⟨L, hL⟩ : ∃ L, ks.length = L := ⟨_, rfl⟩
              rw [hL] at c0 HEQ hkl
              have HOK : Box (RgOk (⟨i, 3, 0, L, []⟩ : Rg)) := boxed ⟨⟨by simp only; omega, by simp only; omega⟩, ⟨by simp only; omega, by simp only; omega⟩, ⟨by simp only; omega, by simp only; omega⟩, ⟨by simp only; omega, by simp only; omega⟩⟩
              obtain ⟨ra, rc, hsh, -⟩ := HR.out.shape
              subst hsh
              have hul := HLn.out i
              obtain ⟨ul, hulq⟩ : ∃ ul, (U i).length = ul := ⟨_, rfl⟩
              rw [hulq] at HR hul
              have l1 := laid1 wr (.cells #[.int .i64 (i : Nat), .int .i64 3, .int .i64 0, .int .i64 (L : Nat), .slice none 0 0] 39)
              have HX1 := boxed l1
              have HRx := boxed (HR.out.keep l1.2.1)
              have HBx := boxed (below_step HB.out (by have := HG.out; omega) l1.2.1)
              clear hL ek hla hbw hmi l1
              go_wp2_with (at_builtin; refine wpList_more rfl _ _ rfl G _ (U i) rfl (by first | exact HRx.out | (rw [hulq]; exact HRx.out)) wr.heap.size 1 rfl ⟨i, 3, 0, L, []⟩ none 0 ?q1 HOK.out ⟨Nat.le_refl _, fun e => rfl⟩ LsAt.nil (by omega) (by have := HX1.out.2.2; omega) ?_)
              case q1 =>
                intro j u hj
                rw [cell_of_row _ _ _ _ _ _ HX1.out.1]
                simpa [rgc] using hj
              intro v' w6 hrn _ hb6
              have HBn := boxed (HBx.out.trans hb6)
              have HRn2 := boxed hrn
              clear hrn hb6 HRx c0
              go_wp2_with fail
              go_roundw
              case rel => exact ⟨i + 1, by omega, Or.inr (by omega), by go_num, boxed (by rw [HEQ.out]; exact HRn2.out), HBn⟩
              case measure => simp [intOf]; omega
            · have hie : max i m = max n m := by rcases HIN.out with e | e <;> rcases HQX.out with f | f <;> omega
              have HRF : Box (RgO G wr _ (dif ps qs)) := boxed (by rw [HD.out, ← hie]; exact HR.out)
              have t0 : decide ((i : Int) < (n : Int)) = false := decide_eq_false (by omega)
              clear HR hie
              go_wp2_with fail
              go_ret
              exact ⟨_, rfl, HRF.out, HB.out⟩
end Go.Proofs.Ytoodhpgaikmalaa
