/-
  What along's function answers, asked for one byte after the other (by mklph.py).
-/
import Derived.Test.YtcdcpmcjlchfgaaLpb
namespace Go.Proofs.Ytcdcpmcjlchfgaa
open Go.RowKit
set_option linter.unusedSimpArgs false
set_option linter.unusedVariables false

/-- What lies in blocks that D does not name is as it was. -/
structure Chg (D : Nat → Prop) (w w' : World) : Prop where
  os : w'.os = w.os
  tape : w'.tape = w.tape
  output : w'.output = w.output
  size : w.heap.size ≤ w'.heap.size
  block : ∀ k, k < w.heap.size → ¬ D k → w'.heap[k]? = w.heap[k]?
theorem Chg.refl (D : Nat → Prop) (w : World) : Chg D w w := ⟨rfl, rfl, rfl, Nat.le_refl _, fun _ _ _ => rfl⟩
theorem Chg.trans {D : Nat → Prop} {a b c : World} (h : Chg D a b) (k : Chg D b c) : Chg D a c :=
  ⟨k.os.trans h.os, k.tape.trans h.tape, k.output.trans h.output, Nat.le_trans h.size k.size, fun i hi hd => (k.block i (Nat.lt_of_lt_of_le hi h.size) hd).trans (h.block i hi hd)⟩
theorem Chg.mono {D D' : Nat → Prop} {w w' : World} (h : Chg D w w') (hd : ∀ b, b < w.heap.size → D b → D' b) : Chg D' w w' :=
  ⟨h.os, h.tape, h.output, h.size, fun i hi hn => h.block i hi (fun c => hn (hd i hi c))⟩
theorem Chg.of_below {D : Nat → Prop} {w w' : World} (h : Below w.heap.size w w') : Chg D w w' := ⟨h.os, h.tape, h.output, h.size, fun i hi _ => h.block i hi⟩
theorem Chg.of_grown {D : Nat → Prop} {w w' : World} {r : Option Nat} (h : w.grownBy w' r) (hr : ∀ g, r = some g → D g) : Chg D w w' := ⟨h.os, h.tape, h.output, h.size, fun i hi hn => h.block i hi (fun e => hn (hr i e.symm))⟩
theorem Chg.set {D : Nat → Prop} (w : World) (b i : Nat) (u : Value) (h : D b) : Chg D w (w.setCell ⟨b, i, none⟩ u) := Chg.of_grown (grown_set w b i u) (fun g e => by injection e with e; subst e; exact h)
/-- Below a number that D does not reach nothing has changed. -/
theorem Chg.below {D : Nat → Prop} {B : Nat} {w w' : World} (h : Chg D w w') (hB : B ≤ w.heap.size) (hd : ∀ b, D b → B ≤ b) : Below B w w' :=
  ⟨h.os, h.tape, h.output, h.size, fun k hk => h.block k (by omega) (fun c => by have := hd k c; omega)⟩
theorem Chg.kp {D : Nat → Prop} {w w' : World} (h : Chg D w w') : Kp (fun b => ¬ D b) (fun b => ¬ D b) w w' := fun b i u hs hc => ⟨hs, by
  have hb := World.block_lt_of_cell? w _ hc
  rw [World.cell?_of_block (a := ⟨b, i, none⟩) (h.block b hb hs)]; exact hc⟩
theorem Chg.drewN {D : Nat → Prop} {w w' : World} (h : Chg D w w') (n : Nat) : Chg D w (w'.drewN n) := h.trans (Chg.of_below (bel_drewN _ _ _))
theorem Chg.out {D S : Nat → Prop} {w w' : World} (h : Chg D w w') (hs : ∀ b, S b → ¬ D b) : Kp S S w w' := fun b i u hb hc => ⟨hb, by
  have hl := World.block_lt_of_cell? w _ hc
  rw [World.cell?_of_block (a := ⟨b, i, none⟩) (h.block b hl (hs b hb))]; exact hc⟩
def rdM (b : Nat) (W : World) : Nat := match W.cell? ⟨b, 0, none⟩ with | some (.slice _ n _) => n | _ => 0
theorem rdM_eq {b n cap : Nat} {W : World} {ao : Option Addr} (h : W.cell? ⟨b, 0, none⟩ = some (.slice ao n cap)) : rdM b W = n := by unfold rdM; rw [h]
/-- The runs under way, in boxes of their own. -/
def AlgAt (S : Nat → Prop) (w : World) (bl bb : Nat) (L Y : Nat → Int) (rn : Nat) (y : Int) : Prop := ∃ (i : Nat) (b : Int) (a : Option Addr) (c : Nat),
  (w.heap[bl]? = some (.cells #[.slice a (rn - i) c] 39 (0, 0)) ∧ w.heap[bb]? = some (.cells #[.int .i64 b] 3 (0, 0))) ∧ Alg L Y rn i b y ∧ P2At S w a (rn - i) (fun j => L (i + j)) (fun j => Y (i + j)) ∧ rn - i ≤ c
theorem AlgAt.mono {S : Nat → Prop} {w : World} {bl bb : Nat} {L Y : Nat → Int} {rn : Nat} {y z : Int} (h : AlgAt S w bl bb L Y rn y) (hz : y ≤ z) : AlgAt S w bl bb L Y rn z := by
  obtain ⟨i, b, a, c, h1, h2, h3, h4⟩ := h
  exact ⟨i, b, a, c, h1, h2.mono hz, h3, h4⟩
theorem AlgAt.keep {S : Nat → Prop} {w w' : World} {bl bb : Nat} {L Y : Nat → Int} {rn : Nat} {y : Int} (h : AlgAt S w bl bb L Y rn y) (k1 : w'.heap[bl]? = w.heap[bl]?) (k2 : w'.heap[bb]? = w.heap[bb]?) (k : Kp S S w w') : AlgAt S w' bl bb L Y rn y := by
  obtain ⟨i, b, a, c, h1, h2, h3, h4⟩ := h
  exact ⟨i, b, a, c, ⟨by rw [k1]; exact h1.1, by rw [k2]; exact h1.2⟩, h2, h3.keep k, h4⟩
theorem slR1 (b off n c : Nat) (h1 : 1 ≤ n) (h2 : n ≤ c) (w : World) : (Instr.slice 39 (.slice (some ⟨b, off, none⟩) n c) (some (.int .i64 1)) none none).run Try.prog w = .ok (.slice (some ⟨b, if c = 1 then off else off + 2, none⟩) (n - 1) (c - 1)) w := by
  have hc : Try.prog.cellsOf 75 = 2 := by kernel_rfl
  have h4 : (1 : Int) ≤ (n : Int) := by omega
  have h5 : (n : Int) ≤ (c : Int) := by omega
  simp [Instr.slice, Instr.sliceBounds, Instr.sliceBound, asIntOf, run_underlying Try.underlying39, go_sem, h4, h5]
  try rw [if_pos (by omega : 1 ≤ n)]
  try (by_cases c1 : c = 1)
  all_goals first | rfl | (simp [*]; done) | skip
theorem two_set {w : World} {bl bb q : Nat} {x0 x1 : Value} {t1 t2 : TypeId} (hne : bl ≠ bb) (hel : w.heap[bl]? = some (.cells #[x0] t1 (0, 0))) (heb : w.heap[bb]? = some (.cells #[x1] t2 (0, 0))) (v1 v2 : Value) :
    ((((w.drewN q).setCell ⟨bb, 0, none⟩ v2).drew).setCell ⟨bl, 0, none⟩ v1).heap[bl]? = some (.cells #[v1] t1 (0, 0)) ∧ ((((w.drewN q).setCell ⟨bb, 0, none⟩ v2).drew).setCell ⟨bl, 0, none⟩ v1).heap[bb]? = some (.cells #[v2] t2 (0, 0)) ∧ Chg (fun b => b = bl ∨ b = bb) w ((((w.drewN q).setCell ⟨bb, 0, none⟩ v2).drew).setCell ⟨bl, 0, none⟩ v1) := by
  have g1 : ((w.drewN q).setCell ⟨bb, 0, none⟩ v2).drew.heap[bl]? = some (.cells #[x0] t1 (0, 0)) := by
    show ((w.drewN q).setCell ⟨bb, 0, none⟩ v2).heap[bl]? = _
    rw [Below.heap_setCell _ _ _ _ (by simpa using hne)]; exact hel
  have g2 : ((w.drewN q).setCell ⟨bb, 0, none⟩ v2).drew.heap[bb]? = some (.cells #[v2] t2 (0, 0)) := by
    show ((w.drewN q).setCell ⟨bb, 0, none⟩ v2).heap[bb]? = _
    have := arr_set (W := w.drewN q) (k := 0) v2 (show (w.drewN q).heap[bb]? = some (.cells #[x1] t2 (0, 0)) from heb)
    simpa using this
  refine ⟨?_, ?_, ?_⟩
  · have := arr_set (k := 0) v1 g1
    simpa using this
  · rw [Below.heap_setCell _ _ _ _ (by simpa using fun e => hne e.symm)]; exact g2
  · have c1 := (Chg.of_below (D := fun b => b = bl ∨ b = bb) (bel_drewN w.heap.size w q)).trans (Chg.set (w.drewN q) bb 0 v2 (Or.inr rfl))
    exact (c1.drewN 1).trans (Chg.set _ bl 0 v1 (Or.inl rfl))
set_option maxRecDepth 100000 in
set_option maxHeartbeats 4000000 in
theorem along_any (S : Nat → Prop) (bl bb : Nat) (L Y : Nat → Int) (rn : Nat) (y at' : Int) (w : World) (h : AlgAt S w bl bb L Y rn y) (hne : bl ≠ bb) (hS : ∀ b, S b → b ≠ bl ∧ b ≠ bb) (hy : y ≤ at') (hat : at' ≤ 4294967296) (hrn : rn ≤ maxLen) :
    Calls Try.prog 55 #[.int .i64 at', .pointer (some ⟨bl, 0, none⟩), .pointer (some ⟨bb, 0, none⟩)] w fun e w' => e = .returned (.int .i64 (rs L Y rn 0 at')) ∧ AlgAt S w' bl bb L Y rn at' ∧ Chg (fun b => b = bl ∨ b = bb) w w' := by
  unfold maxLen at hrn
  have HR : Box (AlgAt S w bl bb L Y rn at' ∧ Chg (fun b => b = bl ∨ b = bb) w w) := boxed ⟨h.mono hy, Chg.refl _ _⟩
  clear h hy
  go_enter Try.func55, Try.ntmps55
  go_wp2_with fail
  go_loopw [] (fun wr => Box (AlgAt S wr bl bb L Y rn at' ∧ Chg (fun b => b = bl ∨ b = bb) w wr)) (fun wr => rdM bl wr)
  case atStart => exact HR
  case round =>
    obtain ⟨⟨i, b, a, c, ⟨hel, heb⟩, hA, hP, hcc⟩, hC⟩ := hrel.out
    clear hrel HR
    have cl := row_cell hel 0
    have fl := row_free hel 0
    have cb := row_cell heb 0
    have fb := row_free heb 0
    simp only [List.getElem?_toArray, List.getElem?_cons_zero] at cl cb
    have h0 := hA.b0
    have h1 := hA.bx
    have hi := hA.le
    have hzl := heap_lt hel
    have hzb := heap_lt heb
    by_cases hlt : i < rn
    · obtain ⟨g, off, rfl, hgS⟩ := hP.form (by omega)
      obtain ⟨q0, q1⟩ := hP.get 0 (by omega)
      have hI := (hP 0 (by omega)).1.1
      simp only [Nat.zero_mul, Nat.add_zero] at q0 q1 hI
      obtain ⟨m, hm⟩ : ∃ m, rn - i = m := ⟨_, rfl⟩
      have m0 : 0 < m := by omega
      have m1 : (0 : Int) < (m : Int) := by omega
      have t0 : decide ((0 : Int) < (m : Int)) = true := decide_eq_true m1
      have hnb := hS g hgS
      rw [hm] at cl hcc
      have hsl := slR1 g off m c (by omega) (by omega)
      by_cases hl : L i ≤ at' - b
      · have HA2 := boxed (hA.next hlt hl)
        have HRel : Box (∀ W : World, W.heap[bl]? = some (.cells #[.slice (some ⟨g, if c = 1 then off else off + 2, none⟩) (m - 1) (c - 1)] 39 (0, 0)) → W.heap[bb]? = some (.cells #[.int .i64 (b + max (L i) 0)] 3 (0, 0)) → Chg (fun b => b = bl ∨ b = bb) wr W → (AlgAt S W bl bb L Y rn at' ∧ Chg (fun b => b = bl ∨ b = bb) w W) ∧ rdM bl W < rdM bl wr) := boxed (fun W k1 k2 k3 => by
          refine ⟨⟨⟨i + 1, b + max (L i) 0, some ⟨g, if c = 1 then off else off + 2, none⟩, c - 1, ⟨?_, k2⟩, HA2.out, ?_, by omega⟩, hC.trans k3⟩, ?_⟩
          · rw [k1, show rn - (i + 1) = m - 1 by omega]
          · have hk := k3.out (S := S) (fun b hb hd => by have := hS b hb; omega)
            intro j hj
            obtain ⟨g1, g', off', e, hs, d0, d1⟩ := hP.keep hk (j + 1) (by omega)
            injection e with e
            injection e with e1 e2 e3
            subst e1; subst e2
            dsimp only at g1 d0 d1 ⊢
            rw [show i + 1 + j = i + (j + 1) by omega, if_neg (by omega)]
            refine ⟨g1, g, off + 2, rfl, hs, ?_, ?_⟩
            · rw [show off + 2 + j * 2 = off + (j + 1) * 2 by omega]; exact d0
            · rw [show off + 2 + j * 2 = off + (j + 1) * 2 by omega]; exact d1
          · rw [rdM_eq (row_cell k1 0), rdM_eq cl]; omega)
        have t1 : decide (L i ≤ at' - b) = true := decide_eq_true hl
        obtain ⟨M, hM⟩ : ∃ M, max (L i) 0 = M := ⟨_, rfl⟩
        have hMb : 0 ≤ M ∧ b + M ≤ at' := by omega
        rw [hM] at HRel HA2
        have HC := boxed hC
        have HEL := boxed hel
        have HEB := boxed heb
        clear hA hP hC hel heb hl hm HA2 q1
        unfold I64 at hI
        generalize L i = l at *
        go_wp2_with fail
        go_quiet (fail)
        go_wp2_with fail
        go_region
        go_wp2_with fail
        obtain ⟨k1, k2, k3⟩ := two_set (q := nq) hne HEL.out HEB.out (.slice (some ⟨g, if c = 1 then off else off + 2, none⟩) (m - 1) (c - 1)) (.int .i64 (b + M))
        obtain ⟨r1, r2⟩ := HRel.out _ k1 k2 k3
        replace r1 := boxed r1
        replace r2 := boxed r2
        clear k1 k2 k3
        go_roundw
        case rel => exact r1
        case measure => exact r2.out
      · have t1 : decide (L i ≤ at' - b) = false := decide_eq_false hl
        have HV : Box (rs L Y rn 0 at' = Y i) := boxed (hA.here hlt hl)
        have HF : Box (∀ q, AlgAt S (wr.drewN q) bl bb L Y rn at' ∧ Chg (fun b => b = bl ∨ b = bb) w (wr.drewN q)) := boxed (fun q => ⟨AlgAt.keep ⟨i, b, _, c, ⟨hel, heb⟩, hA, hP, by omega⟩ rfl rfl (kp_below (bel_drewN _ _ _)), hC.drewN q⟩)
        clear hA hP hC hel heb hl hm
        unfold I64 at hI
        generalize L i = l at *
        go_wp2_with fail
        go_quiet (fail)
        go_wp2_with fail
        go_ret
        exact ⟨by rw [HV.out]; rfl, (HF.out _).1, (HF.out _).2⟩
    · obtain rfl : rn = i := by omega
      have HV : Box (rs L Y rn 0 at' = 0) := boxed hA.gone
      have HF : Box (∀ q, AlgAt S (wr.drewN q) bl bb L Y rn at' ∧ Chg (fun b => b = bl ∨ b = bb) w (wr.drewN q)) := boxed (fun q => ⟨AlgAt.keep ⟨rn, b, _, c, ⟨hel, heb⟩, hA, hP, by omega⟩ rfl rfl (kp_below (bel_drewN _ _ _)), hC.drewN q⟩)
      rw [Nat.sub_self] at cl
      have hun : undef = Value.tuple #[] := rfl
      clear hA hP hC hel heb
      go_wp2_with fail
      go_quiet (fail)
      go_wp2_with fail
      go_ret
      exact ⟨by rw [HV.out]; rfl, (HF.out _).1, (HF.out _).2⟩
end Go.Proofs.Ytcdcpmcjlchfgaa
