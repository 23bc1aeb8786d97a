/-
  What the program's apart answers: a style alike, whose ranges lie in new memory.
-/
import Derived.Laws.AppendOwnNone
import Derived.Deep.RegionHeld3
import Derived.Test.YtcjcdpfjnomehaaGreatPk12
import Derived.Test.YtcjcdpfjnomehaaGreatPk13
namespace Go.Proofs.YtcjcdpfjnomehaaGreat.It
open Go.RowKit
set_option linter.unusedSimpArgs false
set_option linter.unusedVariables false
theorem info_range : (Tryz.prog.info? 166).map (fun i => (i.zero, i.size, i.bytes)) = some (some (.agg #[.int .i64 0, .int .i64 0, .int .i64 0]), 3, 24) := by kernel_rfl
def rgv (R : Nat → Rg) (n : Nat) : List Value := (List.range (n * 3)).map fun j => .int .i64 (if j % 3 = 0 then (R (j / 3)).lo else if j % 3 = 1 then (R (j / 3)).hi else (R (j / 3)).wd)
theorem rgv_len (R : Nat → Rg) (n : Nat) : (rgv R n).length = n * 3 := by simp [rgv]
theorem rgv_get (R : Nat → Rg) (n j : Nat) (h : j < n * 3) : (rgv R n)[j]? = some (.int .i64 (if j % 3 = 0 then (R (j / 3)).lo else if j % 3 = 1 then (R (j / 3)).hi else (R (j / 3)).wd)) := by simp [rgv, h]
theorem rgv_one (R : Nat → Rg) (n : Nat) : ∀ u ∈ rgv R n, u.oneCell' = true := by
  intro u hu
  simp only [rgv, List.mem_map] at hu
  obtain ⟨j, _, rfl⟩ := hu
  rfl
structure Like (s g : Sty) : Prop where
  h : g.h = s.h
  sp : g.sp = s.sp
  st : g.st = s.st
  sh : g.sh = s.sh
  hy : g.hy = s.hy
  ot : g.ot = s.ot
  keep : g.keep = s.keep
  rn : g.rn = s.rn
  R : g.R = s.R
theorem Like.refl (s : Sty) : Like s s := ⟨rfl, rfl, rfl, rfl, rfl, rfl, rfl, rfl, rfl⟩
theorem rg_of_owns {w : World} {base n : Nat} {v : Value} {R : Nat → Rg} (hR : ∀ j, j < n → RgOk (R j)) (h : w.ownsRow base 166 3 v n (rgv R n)) (h0 : 0 < n) :
    ∃ g cap, v = .slice (some ⟨g, 0, none⟩) n cap ∧ n ≤ cap ∧ base ≤ g ∧ RgsAt (fun b => b = g) w (some ⟨g, 0, none⟩) n R := by
  rcases h.2 with ⟨rfl, h1⟩ | ⟨g, cap, cur, rfl, hg, hh, hle, hm, hc, ht⟩
  · omega
  · refine ⟨g, cap, rfl, hle, hg, fun j hj => ⟨hR j hj, g, 0, rfl, rfl, ?_, ?_, ?_⟩⟩
    · have := h.cellAt (j * 3) (by omega)
      rw [Nat.zero_add, this, rgv_get R n _ (by omega)]
      simp
    · have := h.cellAt (j * 3 + 1) (by omega)
      rw [Nat.zero_add, this, rgv_get R n _ (by omega)]
      have e1 : (j * 3 + 1) % 3 = 1 := by omega
      have e2 : (j * 3 + 1) / 3 = j := by omega
      simp [e1, e2]
    · have := h.cellAt (j * 3 + 2) (by omega)
      rw [Nat.zero_add, this, rgv_get R n _ (by omega)]
      have e1 : (j * 3 + 2) % 3 = 2 := by omega
      have e2 : (j * 3 + 2) / 3 = j := by omega
      simp [e1, e2]
theorem rg_cells {S : Nat → Prop} {w : World} {b off : Nat} {n : Nat} {R : Nat → Rg} (h : RgsAt S w (some ⟨b, off, none⟩) n R) (j : Nat) (u : Value) (hj : (rgv R n)[j]? = some u) : w.cell? ⟨b, off + j, none⟩ = some u := by
  have hjl : j < n * 3 := by
    by_cases c : j < n * 3
    · exact c
    · rw [List.getElem?_eq_none (by rw [rgv_len]; omega)] at hj; cases hj
  rw [rgv_get R n j hjl] at hj
  injection hj with hj
  subst hj
  obtain ⟨-, b', off', e, -, c0, c1, c2⟩ := h (j / 3) (by omega)
  injection e with e
  injection e with e1 e2
  subst e1; subst e2
  rcases (show j % 3 = 0 ∨ j % 3 = 1 ∨ j % 3 = 2 by omega) with c | c | c
  · rw [show off + j = off + j / 3 * 3 by omega, c0]; simp [c]
  · rw [show off + j = off + j / 3 * 3 + 1 by omega, c1]; simp [c]
  · rw [show off + j = off + j / 3 * 3 + 2 by omega, c2]; simp [c]
theorem row_cell {w : World} {b : Nat} {cs : Array Value} {t : TypeId} (h : w.heap[b]? = some (.cells cs t (0, 0))) (i : Nat) : w.cell? ⟨b, i, none⟩ = cs[i]? := by
  rw [cell_of_row _ _ _ _ _ _ h]
theorem row_free {w : World} {b : Nat} {cs : Array Value} {t : TypeId} (h : w.heap[b]? = some (.cells cs t (0, 0))) (i : Nat) : w.frozen? ⟨b, i, none⟩ = false := by
  simp [World.frozen?, h]
set_option maxRecDepth 100000 in
set_option maxHeartbeats 2000000 in
theorem apart_any (S : Nat → Prop) (s : Sty) (w : World) (hs : StyOk s) (hr : RgsAt S w s.ra s.rn s.R) :
    Calls Tryz.prog 87 #[s.val] w fun e w' => ∃ g : Sty, e = .returned g.val ∧ Like s g ∧ RgsAt (fun b => w.heap.size ≤ b) w' g.ra g.rn g.R ∧ (g.rn ≤ g.rc ∧ (g.ra = none → g.rn = 0 ∧ g.rc = 0)) ∧ Below w.heap.size w w' := by
  obtain ⟨i0, hi, hz0, hz1, hz2x⟩ := info_parts info_range
  have hnq := fun w a n c => run_neq_slice_nil_any (P := Tryz.prog) w 81 166 a n c 0 0 Tryz.underlying81
  have hn := hs.rn
  have hnil := hs.nil
  have HRO : Box (∀ j, j < s.rn → RgOk (s.R j)) := boxed (fun j hj => (hr j hj).1)
  clear hs
  unfold Sty.val
  obtain ⟨h, sp, st, sh, hy, ot, ra, rn, rc, kp, R⟩ := s
  simp only at *
  cases ra with
  | none =>
    obtain ⟨rfl, rfl⟩ := hnil rfl
    clear hnil hr
    go_enter Tryz.func87, Tryz.ntmps87
    go_wp2
    go_returns
    exact ⟨⟨h, sp, st, sh, hy, ot, none, 0, 0, kp, R⟩, rfl, Like.refl _, fun j hj => by simp at hj, ⟨Nat.le_refl _, fun _ => ⟨rfl, rfl⟩⟩, by go_grown⟩
  | some ad =>
    clear hnil
    by_cases h0 : rn = 0
    · subst h0
      clear hr
      go_enter Tryz.func87, Tryz.ntmps87
      go_wp2
      go_returns
      exact ⟨⟨h, sp, st, sh, hy, ot, some ⟨w.heap.size + 1 + 1, 0, none⟩, 0, 0, kp, R⟩, rfl, ⟨rfl, rfl, rfl, rfl, rfl, rfl, rfl, rfl, rfl⟩, fun j hj => by simp at hj, ⟨Nat.le_refl _, fun h => by cases h⟩, by go_grown⟩
    · obtain ⟨-, b, off, e, -, -⟩ := hr 0 (by omega)
      injection e with e
      subst e
      have HC := boxed (rg_cells hr)
      have hbl : b < w.heap.size := by
        obtain ⟨-, b', off', e, -, c0, -⟩ := hr 0 (by omega)
        injection e with e
        injection e with e1 e2
        subst e1; subst e2
        exact World.block_lt_of_cell? w _ c0
      clear hr
      go_enter Tryz.func87, Tryz.ntmps87
      have HO : Box (∀ A Z, (((w.alloc A).alloc Z).alloc (.cells #[] 166)).ownsRow w.heap.size 166 3 (.slice (some ⟨w.heap.size + 1 + 1, 0, none⟩) 0 0) 0 []) := boxed (by
        intro A Z
        have := World.ownsRow_lit (base := w.heap.size) (e := 166) (size := 3) ((w.alloc A).alloc Z) #[] 0 (by simp; omega) (by unfold maxLen; omega) (by simp)
        simpa using this)
      go_wp2_with (at_builtin; refine wpList_append_own _ rfl _ _ 81 rfl w.heap.size 166 i0 (.agg #[.int .i64 0, .int .i64 0, .int .i64 0]) 3 24 Tryz.underlying81 hi hz0 hz1 hz2x rfl (by decide) _ _ _ rfl (HO.out _ _) ⟨b, off, none⟩ rn rc (rgv R rn) rfl ?c0 ?c1 ?c2 ?c3 ?c4 ?c5 ?_)
      case c0 => rw [rgv_len]
      case c1 =>
        intro j u hj
        refine hold (w := w) (by go_grown) ?_
        rw [Addr.add_lit]
        exact HC.out j u hj
      case c2 => exact rgv_one R rn
      case c3 => unfold maxLen; omega
      case c4 => omega
      case c5 => simp; omega
      intro v' w1 hown' hgrow _
      have hb1 : Below w.heap.size w w1 := Below.grown (by go_grown) hgrow (by simp; omega) (fun q hq => by simp [Value.ownBlock] at hq; omega)
      obtain ⟨g, cap, rfl, hcap, hge, hrg⟩ := rg_of_owns HRO.out hown' (by omega)
      have hB0 : w1.heap[w.heap.size]? = some (.cells #[.int .i64 h, .int .i64 sp, .int .i64 st, .int .i64 sh, .int .i64 hy, .int .i64 ot, .slice (some ⟨b, off, none⟩) rn rc, .bool kp] 83 (0, 0)) := by
        rw [hgrow.block _ (by simp; omega) (by simp [Value.ownBlock]; omega)]
        rw [Below.heap_alloc _ _ _ (by simp; omega), Below.heap_alloc _ _ _ (by simp)]
        exact heap_alloc_new w _
      have hB1 : w1.heap[w.heap.size + 1]? = some (.cells #[.int .i64 0, .int .i64 0, .int .i64 0, .int .i64 0, .int .i64 0, .int .i64 0, .slice none 0 0, .bool false] 83 (0, 0)) := by
        rw [hgrow.block _ (by simp) (by simp [Value.ownBlock])]
        rw [Below.heap_alloc _ _ _ (by simp)]
        have := heap_alloc_new (w.alloc (.cells #[.int .i64 h, .int .i64 sp, .int .i64 st, .int .i64 sh, .int .i64 hy, .int .i64 ot, .slice (some ⟨b, off, none⟩) rn rc, .bool kp] 83)) (.cells #[.int .i64 0, .int .i64 0, .int .i64 0, .int .i64 0, .int .i64 0, .int .i64 0, .slice none 0 0, .bool false] 83)
        rw [World.size_alloc] at this
        exact this
      have f0 := row_cell hB0
      have f1 := row_cell hB1
      have z0 := row_free hB0
      have z1 := row_free hB1
      have HG := boxed hrg
      have HB1 := boxed hb1
      have hne : w.heap.size + 1 ≠ w.heap.size := by omega
      have hgn0 : g ≠ w.heap.size ∧ g ≠ w.heap.size + 1 := by
        rcases hown'.2 with ⟨h, _⟩ | ⟨g', cap', cur, hv, _, hh, _⟩
        · cases h
        · injection hv with hv
          injection hv with hv
          injection hv with hv
          subst hv
          constructor
          · intro c; subst c; rw [hB0] at hh; injection hh with hh; injection hh with _ hh; revert hh; decide
          · intro c; subst c; rw [hB1] at hh; injection hh with hh; injection hh with _ hh; revert hh; decide
      have HGN := boxed hgn0
      clear hown' hgrow hb1 hrg hB0 hB1 HO HC hgn0
      go_wp2
      refine bodyPost_ret (v := .agg #[.int .i64 h, .int .i64 sp, .int .i64 st, .int .i64 sh, .int .i64 hy, .int .i64 ot, .slice (some ⟨g, 0, none⟩) rn cap, .bool kp]) (by simp [results, Tryz.results87, go_sem, f1, hne]) rfl ?_
      refine ⟨⟨h, sp, st, sh, hy, ot, some ⟨g, 0, none⟩, rn, cap, kp, R⟩, rfl, ⟨rfl, rfl, rfl, rfl, rfl, rfl, rfl, rfl, rfl⟩, ?_, ⟨hcap, fun h => by cases h⟩, ?_⟩
      · refine HG.out.keep (fun b i u hs hc => ?_)
        subst hs
        refine ⟨hge, ?_⟩
        repeat (rw [World.cell?_setCell_far _ _ _ _ (by first | exact HGN.out.1.symm | exact HGN.out.2.symm)])
        exact hc
      · have hb := HB1.out
        go_grown
end Go.Proofs.YtcjcdpfjnomehaaGreat.It

/-
  The first fault of a list of styles, as the document's Check answers it.
-/
namespace Go.Proofs.YtcjcdpfjnomehaaGreat.It
open Go.RowKit
set_option linter.unusedSimpArgs false
set_option linter.unusedVariables false
def ffc (F : Nat → Sty) : Nat → Int
  | 0 => 0
  | k + 1 => if ffc F k = 0 then flt (F k) else ffc F k
def ffp (F : Nat → Sty) : Nat → Nat
  | 0 => 0
  | k + 1 => if ffc F k = 0 then (if flt (F k) = 0 then 0 else k) else ffp F k
theorem ffc_stop (F : Nat → Sty) (k n : Nat) (h : ffc F k ≠ 0) (hk : k ≤ n) : ffc F n = ffc F k ∧ ffp F n = ffp F k := by
  induction n with
  | zero => have : k = 0 := by omega
            subst this; exact ⟨rfl, rfl⟩
  | succ n ih =>
    by_cases c : k = n + 1
    · subst c; exact ⟨rfl, rfl⟩
    · have := ih (by omega)
      show (if ffc F n = 0 then flt (F n) else ffc F n) = _ ∧ (if ffc F n = 0 then (if flt (F n) = 0 then 0 else n) else ffp F n) = _
      rw [this.1, if_neg h, if_neg h]
      exact ⟨rfl, this.2⟩
theorem ffc_hit (F : Nat → Sty) (k n : Nat) (h0 : ffc F k = 0) (h : flt (F k) ≠ 0) (hk : k < n) : ffc F n = flt (F k) ∧ ffp F n = k := by
  have e1 : ffc F (k + 1) = flt (F k) := by show (if ffc F k = 0 then flt (F k) else ffc F k) = _; rw [if_pos h0]
  have e2 : ffp F (k + 1) = k := by show (if ffc F k = 0 then (if flt (F k) = 0 then 0 else k) else ffp F k) = _; rw [if_pos h0, if_neg h]
  have := ffc_stop F (k + 1) n (by rw [e1]; exact h) (by omega)
  rw [this.1, this.2, e1, e2]
  exact ⟨rfl, rfl⟩
theorem ffc_next (F : Nat → Sty) (k : Nat) (h0 : ffc F k = 0) (h : flt (F k) = 0) : ffc F (k + 1) = 0 := by
  show (if ffc F k = 0 then flt (F k) else ffc F k) = _
  rw [if_pos h0, h]
theorem ffp_good (F : Nat → Sty) (n : Nat) (h : ffc F n = 0) : ffp F n = 0 := by
  induction n with
  | zero => rfl
  | succ n ih =>
    have e : ffc F (n + 1) = if ffc F n = 0 then flt (F n) else ffc F n := rfl
    rw [e] at h
    show (if ffc F n = 0 then (if flt (F n) = 0 then 0 else n) else ffp F n) = 0
    by_cases c : ffc F n = 0
    · rw [if_pos c] at h ⊢
      rw [if_pos h]
    · rw [if_neg c] at h; exact absurd h c
def ckc (F : Nat → Sty) (n : Nat) : Int := if n = 0 ∨ 32 < n then 40 else ffc F n
def ckp (F : Nat → Sty) (n : Nat) : Nat := if n = 0 ∨ 32 < n then 0 else ffp F n
set_option maxRecDepth 100000 in
set_option maxHeartbeats 2000000 in
theorem refcheck_any (S : Nat → Prop) (ao : Option Addr) (n cap : Nat) (F : Nat → Sty) (w : World) (hF : StysAt S w ao n F) :
    Calls Tryz.prog 38 #[.slice ao n cap] w fun e w' => e = .returned (.tuple #[.int .i64 (ckc F n), .int .i64 (ckp F n : Nat)]) ∧ Below w.heap.size w w' := by
  by_cases h1 : n = 0
  · subst h1
    go_enter Tryz.func38, Tryz.ntmps38
    go_wp2
    refine bodyPost_ret (v := .tuple #[.int .i64 40, .int .i64 0]) (by simp [results, Tryz.results38, go_sem]) rfl ⟨rfl, Below.refl _ _⟩
  have t1 : ((n : Int) == 0) = false := by rw [beq_eq_false_iff_ne]; omega
  by_cases h2 : 32 < n
  · have t2 : decide ((32 : Int) < (n : Int)) = true := decide_eq_true (by omega)
    have e1 : ckc F n = 40 := by unfold ckc; rw [if_pos (Or.inr h2)]
    have e2 : ckp F n = 0 := by unfold ckp; rw [if_pos (Or.inr h2)]
    rw [e1, e2]
    clear h1 hF
    go_enter Tryz.func38, Tryz.ntmps38
    go_wp2
    refine bodyPost_ret (v := .tuple #[.int .i64 40, .int .i64 0]) (by simp [results, Tryz.results38, go_sem]) rfl ⟨rfl, Below.refl _ _⟩
  have t2 : decide ((32 : Int) < (n : Int)) = false := decide_eq_false (by omega)
  have HC : Box (ckc F n = ffc F n) := boxed (by unfold ckc; rw [if_neg (by omega)])
  have HP : Box (ckp F n = ffp F n) := boxed (by unfold ckp; rw [if_neg (by omega)])
  have HF := boxed hF
  clear hF h1
  go_enter Tryz.func38, Tryz.ntmps38
  go_wp2
  go_loopw [4, 5] (fun i _ wr => ∃ k : Nat, k ≤ n ∧ i = .int .i64 (k : Int) ∧ Box (ffc F k = 0) ∧ Box (Below w.heap.size w wr)) (fun i _ _ => n - (intOf i).toNat)
  case atStart => exact ⟨0, Nat.zero_le _, rfl, boxed rfl, boxed (Below.refl _ _)⟩
  case round =>
    obtain ⟨k, hk, rfl, H0, HB⟩ := hrel
    by_cases hlt : k < n
    · obtain ⟨hok, hrg, b, off, e, -, c0, c1, c2, c3, c4, c5, c6, c7⟩ := (HF.out.below HB.out) k hlt
      subst e
      have hst := refstyle_any S (F k) wr hok hrg
      have HH := boxed (fun h => ffc_hit F k n H0.out h hlt)
      have HN := boxed (ffc_next F k H0.out)
      unfold Sty.val at hst
      clear hok hrg
      generalize F k = s at *
      have t3 : decide ((k : Int) < (n : Int)) = true := decide_eq_true (by omega)
      go_wp2_with fail
      refine hst.mono ?_
      rintro e w1 ⟨rfl, hb1⟩
      have HB1 := boxed (below_step HB.out (Nat.le_refl _) hb1)
      clear hst hb1 c0 c1 c2 c3 c4 c5 c6 c7
      by_cases hz : flt s = 0
      · have HZ := boxed hz
        have tz : (flt s != 0) = false := by simpa using hz
        clear hz
        generalize flt s = V at *
        go_wp2
        go_roundw
        case rel => exact ⟨k + 1, by omega, by go_num, boxed (HN.out HZ.out), HB1⟩
        case measure => simp [intOf]; omega
      · have HZ := boxed hz
        have tz : (flt s != 0) = true := by simpa using hz
        clear hz
        have HV := boxed (HH.out HZ.out)
        clear HN HH HZ
        generalize flt s = V at *
        go_wp2
        refine bodyPost_ret (v := .tuple #[.int .i64 V, .int .i64 (k : Int)]) (by simp [results, Tryz.results38, go_sem]) rfl ⟨by rw [HC.out, HP.out, HV.out.1, HV.out.2], HB1.out⟩
    · have e : k = n := by omega
      subst e
      have HP0 := boxed (ffp_good F k H0.out)
      go_wp2
      refine bodyPost_ret (v := .tuple #[.int .i64 0, .int .i64 0]) (by simp [results, Tryz.results38, go_sem]) rfl ⟨by rw [HC.out, HP.out, H0.out, HP0.out]; rfl, HB.out⟩
end Go.Proofs.YtcjcdpfjnomehaaGreat.It

/-
  What the program's New answers: the first fault, or a table that keeps styles alike in new memory.
-/
namespace Go.Proofs.YtcjcdpfjnomehaaGreat.It
open Go.RowKit
set_option linter.unusedSimpArgs false
set_option linter.unusedVariables false
theorem info_style : (Tryz.prog.info? 83).map (fun i => (i.zero, i.size, i.bytes)) = some (some (.agg #[.int .i64 0, .int .i64 0, .int .i64 0, .int .i64 0, .int .i64 0, .int .i64 0, .slice none 0 0, .bool false]), 8, 80) := by kernel_rfl
def TabAt (B : Nat) (w : World) (tb n : Nat) (G : Nat → Sty) : Prop :=
  (B ≤ tb ∧ n ≤ 32) ∧ ∃ bs, w.cell? ⟨tb, 0, none⟩ = some (.slice (some ⟨bs, 0, none⟩) n n) ∧ StysAt (fun b => B ≤ b) w (some ⟨bs, 0, none⟩) n G
theorem TabAt.keep {B : Nat} {w w' : World} {tb n : Nat} {G : Nat → Sty} (h : TabAt B w tb n G) (k : Kp (fun b => B ≤ b) (fun b => B ≤ b) w w') : TabAt B w' tb n G := by
  obtain ⟨h1, bs, h2, h3⟩ := h
  exact ⟨h1, bs, (k _ _ _ h1.1 h2).2, h3.keep k⟩
theorem TabAt.below {B : Nat} {w w' : World} {tb n : Nat} {G : Nat → Sty} (h : TabAt B w tb n G) (hb : Below w.heap.size w w') : TabAt B w' tb n G := h.keep (kp_below hb)
theorem StyOk.like {s g : Sty} (h : StyOk s) (l : Like s g) (h1 : g.rn ≤ g.rc) (h2 : g.ra = none → g.rn = 0 ∧ g.rc = 0) : StyOk g :=
  ⟨l.h ▸ h.h, l.sp ▸ h.sp, l.st ▸ h.st, l.sh ▸ h.sh, l.hy ▸ h.hy, l.ot ▸ h.ot, ⟨h1, by rw [l.rn]; exact h.rn.2⟩, h2⟩
def put8 (w : World) (b o : Nat) (s : Sty) : World :=
  (((((((w.setCell ⟨b, o, none⟩ (.int .i64 s.h)).setCell ⟨b, o + 1, none⟩ (.int .i64 s.sp)).setCell ⟨b, o + 2, none⟩ (.int .i64 s.st)).setCell ⟨b, o + 3, none⟩ (.int .i64 s.sh)).setCell ⟨b, o + 4, none⟩ (.int .i64 s.hy)).setCell ⟨b, o + 5, none⟩ (.int .i64 s.ot)).setCell ⟨b, o + 6, none⟩ (.slice s.ra s.rn s.rc)).setCell ⟨b, o + 7, none⟩ (.bool s.keep)
theorem put8_far (w : World) (b o : Nat) (s : Sty) (c i : Nat) (h : c ≠ b ∨ i < o ∨ o + 8 ≤ i) : (put8 w b o s).cell? ⟨c, i, none⟩ = w.cell? ⟨c, i, none⟩ := by
  unfold put8
  have : ∀ (w : World) (j : Nat) (v : Value), j < 8 → (w.setCell ⟨b, o + j, none⟩ v).cell? ⟨c, i, none⟩ = w.cell? ⟨c, i, none⟩ := by
    intro w j v hj
    apply World.cell?_setCell_other
    intro e
    injection e with e1 e2
    omega
  rw [this _ 7 _ (by omega), this _ 6 _ (by omega), this _ 5 _ (by omega), this _ 4 _ (by omega), this _ 3 _ (by omega), this _ 2 _ (by omega), this _ 1 _ (by omega)]
  exact this _ 0 _ (by omega)
theorem put8_some (w : World) (b o : Nat) (s : Sty) (c i : Nat) (v : Value) (h : w.cell? ⟨c, i, none⟩ = some v) : ∃ v', (put8 w b o s).cell? ⟨c, i, none⟩ = some v' := by
  unfold put8
  obtain ⟨v1, h1⟩ := cell?_setCell_some (p := ⟨b, o, none⟩) (x := .int .i64 s.h) h
  obtain ⟨v2, h2⟩ := cell?_setCell_some (p := ⟨b, o + 1, none⟩) (x := .int .i64 s.sp) h1
  obtain ⟨v3, h3⟩ := cell?_setCell_some (p := ⟨b, o + 2, none⟩) (x := .int .i64 s.st) h2
  obtain ⟨v4, h4⟩ := cell?_setCell_some (p := ⟨b, o + 3, none⟩) (x := .int .i64 s.sh) h3
  obtain ⟨v5, h5⟩ := cell?_setCell_some (p := ⟨b, o + 4, none⟩) (x := .int .i64 s.hy) h4
  obtain ⟨v6, h6⟩ := cell?_setCell_some (p := ⟨b, o + 5, none⟩) (x := .int .i64 s.ot) h5
  obtain ⟨v7, h7⟩ := cell?_setCell_some (p := ⟨b, o + 6, none⟩) (x := .slice s.ra s.rn s.rc) h6
  exact cell?_setCell_some (p := ⟨b, o + 7, none⟩) (x := .bool s.keep) h7
theorem put8_frozen (w : World) (b o : Nat) (s : Sty) (a : Addr) : (put8 w b o s).frozen? a = w.frozen? a := by
  unfold put8
  simp only [World.frozen?_setCell]
theorem put8_at (w : World) (b o : Nat) (s : Sty) (h : ∀ j, j < 8 → ∃ v, w.cell? ⟨b, o + j, none⟩ = some v) :
    (put8 w b o s).cell? ⟨b, o, none⟩ = some (.int .i64 s.h) ∧ (put8 w b o s).cell? ⟨b, o + 1, none⟩ = some (.int .i64 s.sp) ∧ (put8 w b o s).cell? ⟨b, o + 2, none⟩ = some (.int .i64 s.st) ∧ (put8 w b o s).cell? ⟨b, o + 3, none⟩ = some (.int .i64 s.sh) ∧
    (put8 w b o s).cell? ⟨b, o + 4, none⟩ = some (.int .i64 s.hy) ∧ (put8 w b o s).cell? ⟨b, o + 5, none⟩ = some (.int .i64 s.ot) ∧ (put8 w b o s).cell? ⟨b, o + 6, none⟩ = some (.slice s.ra s.rn s.rc) ∧ (put8 w b o s).cell? ⟨b, o + 7, none⟩ = some (.bool s.keep) := by
  have oth : ∀ (w : World) (i j : Nat) (v : Value), i ≠ j → (w.setCell ⟨b, o + j, none⟩ v).cell? ⟨b, o + i, none⟩ = w.cell? ⟨b, o + i, none⟩ := by
    intro w i j v hj
    apply World.cell?_setCell_other
    intro e
    injection e with e1 e2
    omega
  have same : ∀ (w : World) (j : Nat) (v : Value), (∃ u, w.cell? ⟨b, o + j, none⟩ = some u) → (w.setCell ⟨b, o + j, none⟩ v).cell? ⟨b, o + j, none⟩ = some v := by
    intro w j v ⟨u, hu⟩
    exact World.cell?_setCell_same _ _ _ hu
  unfold put8
  rw [show (⟨b, o, none⟩ : Addr) = ⟨b, o + 0, none⟩ from rfl]
  refine ⟨?_, ?_, ?_, ?_, ?_, ?_, ?_, ?_⟩
  · rw [oth _ 0 7 _ (by omega), oth _ 0 6 _ (by omega), oth _ 0 5 _ (by omega), oth _ 0 4 _ (by omega), oth _ 0 3 _ (by omega), oth _ 0 2 _ (by omega), oth _ 0 1 _ (by omega)]
    exact same _ 0 _ (h 0 (by omega))
  · rw [oth _ 1 7 _ (by omega), oth _ 1 6 _ (by omega), oth _ 1 5 _ (by omega), oth _ 1 4 _ (by omega), oth _ 1 3 _ (by omega), oth _ 1 2 _ (by omega)]
    refine same _ 1 _ ?_
    rw [oth _ 1 0 _ (by omega)]; exact h 1 (by omega)
  · rw [oth _ 2 7 _ (by omega), oth _ 2 6 _ (by omega), oth _ 2 5 _ (by omega), oth _ 2 4 _ (by omega), oth _ 2 3 _ (by omega)]
    refine same _ 2 _ ?_
    rw [oth _ 2 1 _ (by omega), oth _ 2 0 _ (by omega)]; exact h 2 (by omega)
  · rw [oth _ 3 7 _ (by omega), oth _ 3 6 _ (by omega), oth _ 3 5 _ (by omega), oth _ 3 4 _ (by omega)]
    refine same _ 3 _ ?_
    rw [oth _ 3 2 _ (by omega), oth _ 3 1 _ (by omega), oth _ 3 0 _ (by omega)]; exact h 3 (by omega)
  · rw [oth _ 4 7 _ (by omega), oth _ 4 6 _ (by omega), oth _ 4 5 _ (by omega)]
    refine same _ 4 _ ?_
    rw [oth _ 4 3 _ (by omega), oth _ 4 2 _ (by omega), oth _ 4 1 _ (by omega), oth _ 4 0 _ (by omega)]; exact h 4 (by omega)
  · rw [oth _ 5 7 _ (by omega), oth _ 5 6 _ (by omega)]
    refine same _ 5 _ ?_
    rw [oth _ 5 4 _ (by omega), oth _ 5 3 _ (by omega), oth _ 5 2 _ (by omega), oth _ 5 1 _ (by omega), oth _ 5 0 _ (by omega)]; exact h 5 (by omega)
  · rw [oth _ 6 7 _ (by omega)]
    refine same _ 6 _ ?_
    rw [oth _ 6 5 _ (by omega), oth _ 6 4 _ (by omega), oth _ 6 3 _ (by omega), oth _ 6 2 _ (by omega), oth _ 6 1 _ (by omega), oth _ 6 0 _ (by omega)]; exact h 6 (by omega)
  · refine same _ 7 _ ?_
    rw [oth _ 7 6 _ (by omega), oth _ 7 5 _ (by omega), oth _ 7 4 _ (by omega), oth _ 7 3 _ (by omega), oth _ 7 2 _ (by omega), oth _ 7 1 _ (by omega), oth _ 7 0 _ (by omega)]; exact h 7 (by omega)
theorem put8_size (w : World) (b o : Nat) (s : Sty) : (put8 w b o s).heap.size = w.heap.size := by unfold put8; simp
theorem put8_below {B : Nat} {a w : World} (h : Below B a w) (b o : Nat) (s : Sty) (hb : B ≤ b) : Below B a (put8 w b o s) := by
  unfold put8
  exact (((((((h.setCell hb _).setCell hb _).setCell hb _).setCell hb _).setCell hb _).setCell hb _).setCell hb _).setCell hb _
end Go.Proofs.YtcjcdpfjnomehaaGreat.It

/-
  What the program's New answers: the first fault, or a table that keeps styles alike in new memory.
-/
namespace Go.Proofs.YtcjcdpfjnomehaaGreat.It
open Go.RowKit
set_option linter.unusedSimpArgs false
set_option linter.unusedVariables false
def StysIn (w : World) (bs n : Nat) (G : Nat → Sty) (B : Nat) : Prop := ∀ i, i < n → StyOk (G i) ∧ RgsAt (fun b => B ≤ b) w (G i).ra (G i).rn (G i).R ∧
    w.cell? ⟨bs, i * 8, none⟩ = some (.int .i64 (G i).h) ∧ w.cell? ⟨bs, i * 8 + 1, none⟩ = some (.int .i64 (G i).sp) ∧ w.cell? ⟨bs, i * 8 + 2, none⟩ = some (.int .i64 (G i).st) ∧
    w.cell? ⟨bs, i * 8 + 3, none⟩ = some (.int .i64 (G i).sh) ∧ w.cell? ⟨bs, i * 8 + 4, none⟩ = some (.int .i64 (G i).hy) ∧ w.cell? ⟨bs, i * 8 + 5, none⟩ = some (.int .i64 (G i).ot) ∧
    w.cell? ⟨bs, i * 8 + 6, none⟩ = some (.slice (G i).ra (G i).rn (G i).rc) ∧ w.cell? ⟨bs, i * 8 + 7, none⟩ = some (.bool (G i).keep)
theorem StysIn.at {w : World} {bs n : Nat} {G : Nat → Sty} {B C : Nat} (h : StysIn w bs n G B) (h1 : C ≤ bs) (h2 : C ≤ B) : StysAt (fun b => C ≤ b) w (some ⟨bs, 0, none⟩) n G := by
  intro i hi
  obtain ⟨k1, k2, c0, c1, c2, c3, c4, c5, c6, c7⟩ := h i hi
  refine ⟨k1, k2.keep (fun b i u hs hc => ⟨Nat.le_trans h2 hs, hc⟩), bs, 0, rfl, h1, ?_⟩
  rw [Nat.zero_add]
  exact ⟨c0, c1, c2, c3, c4, c5, c6, c7⟩
theorem StysIn.below {w w' : World} {bs n : Nat} {G : Nat → Sty} {B : Nat} (h : StysIn w bs n G B) (hb : Below w.heap.size w w') : StysIn w' bs n G B := by
  intro i hi
  obtain ⟨k1, k2, c0, c1, c2, c3, c4, c5, c6, c7⟩ := h i hi
  exact ⟨k1, k2.below hb, hold hb c0, hold hb c1, hold hb c2, hold hb c3, hold hb c4, hold hb c5, hold hb c6, hold hb c7⟩
theorem StysIn.put {w : World} {bs m : Nat} {G : Nat → Sty} {B : Nat} (h : StysIn w bs m G B) (g : Sty) (hg : StyOk g) (hr : RgsAt (fun b => B ≤ b) w g.ra g.rn g.R) (hB : bs < B) (hc : ∀ j, j < 8 → ∃ v, w.cell? ⟨bs, m * 8 + j, none⟩ = some v) :
    StysIn (put8 w bs (m * 8) g) bs (m + 1) (fun i => if i = m then g else G i) B := by
  have kp : Kp (fun b => B ≤ b) (fun b => B ≤ b) w (put8 w bs (m * 8) g) := fun b i u hs hu => ⟨hs, by rw [put8_far _ _ _ _ _ _ (Or.inl (show b ≠ bs by have : B ≤ b := hs; omega))]; exact hu⟩
  intro i hi
  by_cases c : i = m
  · subst c
    simp only [if_pos]
    exact ⟨hg, hr.keep kp, put8_at _ _ _ _ hc⟩
  · simp only [if_neg c]
    obtain ⟨k1, k2, c0, c1, c2, c3, c4, c5, c6, c7⟩ := h i (by omega)
    have hf : ∀ j, j < 8 → (put8 w bs (m * 8) g).cell? ⟨bs, i * 8 + j, none⟩ = w.cell? ⟨bs, i * 8 + j, none⟩ := fun j hj => put8_far _ _ _ _ _ _ (Or.inr (Or.inl (by omega)))
    exact ⟨k1, k2.keep kp, (hf 0 (by omega)).trans c0, (hf 1 (by omega)).trans c1, (hf 2 (by omega)).trans c2, (hf 3 (by omega)).trans c3, (hf 4 (by omega)).trans c4, (hf 5 (by omega)).trans c5, (hf 6 (by omega)).trans c6, (hf 7 (by omega)).trans c7⟩
set_option maxRecDepth 100000 in
set_option maxHeartbeats 4000000 in
theorem new_any (S : Nat → Prop) (ao : Option Addr) (n cap : Nat) (F : Nat → Sty) (w : World) (hF : StysAt S w ao n F) :
    Calls Tryz.prog 39 #[.slice ao n cap] w fun e w' => ((ckc F n ≠ 0 ∧ e = .returned (.tuple #[.pointer none, .int .i64 (ckc F n), .int .i64 (ckp F n : Nat)])) ∨
      (ckc F n = 0 ∧ ∃ tb G, e = .returned (.tuple #[.pointer (some ⟨tb, 0, none⟩), .int .i64 0, .int .i64 0]) ∧ TabAt w.heap.size w' tb n G ∧ ∀ i, i < n → Like (F i) (G i))) ∧ Below w.heap.size w w' := by
  by_cases h1 : n = 0
  · subst h1
    clear hF
    go_enter Tryz.func39, Tryz.ntmps39
    go_wp2
    refine bodyPost_ret (v := .tuple #[.pointer none, .int .i64 40, .int .i64 0]) (by simp [results, Tryz.results39, go_sem]) rfl ⟨Or.inl ⟨by first | decide | (unfold ckc; simp), rfl⟩, Below.refl _ _⟩
  have t1 : ((n : Int) == 0) = false := by rw [beq_eq_false_iff_ne]; omega
  by_cases h2 : 32 < n
  · have t2 : decide ((32 : Int) < (n : Int)) = true := decide_eq_true (by omega)
    have e1 : ckc F n = 40 := by unfold ckc; rw [if_pos (Or.inr h2)]
    have e2 : ckp F n = 0 := by unfold ckp; rw [if_pos (Or.inr h2)]
    rw [e1, e2]
    clear h1 hF
    go_enter Tryz.func39, Tryz.ntmps39
    go_wp2
    refine bodyPost_ret (v := .tuple #[.pointer none, .int .i64 40, .int .i64 0]) (by simp [results, Tryz.results39, go_sem]) rfl ⟨Or.inl ⟨by first | decide | (unfold ckc; simp), rfl⟩, Below.refl _ _⟩
  have t2 : decide ((32 : Int) < (n : Int)) = false := decide_eq_false (by omega)
  have HC : Box (ckc F n = ffc F n) := boxed (by unfold ckc; rw [if_neg (by omega)])
  have HP : Box (ckp F n = ffp F n) := boxed (by unfold ckp; rw [if_neg (by omega)])
  have HF := boxed hF
  have hn32 : n ≤ 32 := by omega
  obtain ⟨i0, hi, hz0, hz1, hz2x⟩ := info_parts info_style
  clear hF h2
  go_enter Tryz.func39, Tryz.ntmps39
  go_wp2
  go_loopw [5, 6, 7, 21] (fun _ _ _ i wr => ∃ k : Nat, k ≤ n ∧ i = .int .i64 (k : Int) ∧ Box (ffc F k = 0) ∧ Box (Below w.heap.size w wr)) (fun _ _ _ i _ => n - (intOf i).toNat)
  case atStart => exact ⟨0, Nat.zero_le _, rfl, boxed rfl, boxed (Below.refl _ _)⟩
  case round =>
    obtain ⟨k, hk, rfl, H0, HB⟩ := hrel
    by_cases hlt : k < n
    · obtain ⟨hok, hrg, b, off, e, -, c0, c1, c2, c3, c4, c5, c6, c7⟩ := (HF.out.below HB.out) k hlt
      subst e
      have hst := fun w' (hb : Below wr.heap.size wr w') => fault_any S (F k) w' hok (hrg.below hb)
      have HH := boxed (fun h => ffc_hit F k n H0.out h hlt)
      have HN := boxed (ffc_next F k H0.out)
      unfold Sty.val at hst
      clear hok hrg
      generalize F k = s at *
      have t3 : decide ((k : Int) < (n : Int)) = true := decide_eq_true (by omega)
      go_wp2_with fail
      refine (hst _ (by go_grown)).mono ?_
      rintro e w1 ⟨rfl, hb1⟩
      have HB1 := boxed (below_step (HB.out.alloc HB.out.size _) (Nat.le_refl _) hb1)
      clear hst hb1 c0 c1 c2 c3 c4 c5 c6 c7
      by_cases hz : flt s = 0
      · have HZ := boxed hz
        have tz : (flt s != 0) = false := by simpa using hz
        clear hz
        generalize flt s = V at *
        go_wp2
        go_roundw
        case rel => exact ⟨k + 1, by omega, by go_num, boxed (HN.out HZ.out), HB1⟩
        case measure => simp [intOf]; omega
      · have HZ := boxed hz
        have tz : (flt s != 0) = true := by simpa using hz
        clear hz
        have HV := boxed (HH.out HZ.out)
        clear HN HH
        generalize flt s = V at *
        go_wp2
        refine bodyPost_ret (v := .tuple #[.pointer none, .int .i64 V, .int .i64 (k : Int)]) (by simp [results, Tryz.results39, go_sem]) rfl ⟨Or.inl ⟨by rw [HC.out, HV.out.1]; exact HZ.out, by rw [HC.out, HP.out, HV.out.1, HV.out.2]⟩, HB1.out⟩
    · have e : k = n := by omega
      subst e
      have hmk := fun w => run_make (P := Tryz.prog) w 22 83 i0 _ Tryz.underlying22 hi hz0 .i64 .i64 (k : Int) (k : Int) (by omega) (Int.le_refl _) (by rw [hz2x]; omega) (by omega)
      simp only [Int.toNat_natCast, hz1] at hmk
      have hlen : (madeCells (Value.agg #[.int .i64 0, .int .i64 0, .int .i64 0, .int .i64 0, .int .i64 0, .int .i64 0, .slice none 0 0, .bool false]).cells (k * 8)).size = k * 8 := size_madeCells _ _
      generalize madeCells (Value.agg #[.int .i64 0, .int .i64 0, .int .i64 0, .int .i64 0, .int .i64 0, .int .i64 0, .slice none 0 0, .bool false]).cells (k * 8) = MC at *
      have HM := boxed hlen
      clear hlen
      go_wp2
      obtain ⟨wo, rfl⟩ : ∃ wo : World, wo = wr := ⟨_, rfl⟩
      have hBo := HB.out.size
      go_loopw [9, 10, 40] (fun _ _ i wx => ∃ (m : Nat) (G : Nat → Sty), m ≤ k ∧ i = .int .i64 (m : Int) ∧ Box (∀ i, i < m → Like (F i) (G i)) ∧ Box (StysIn wx wo.heap.size m G (wo.heap.size + 1)) ∧ Box (Below w.heap.size w wx) ∧
          Box (wx.cell? ⟨wo.heap.size + 1, 0, none⟩ = some (.slice (some ⟨wo.heap.size, 0, none⟩) k k)) ∧ Box (∀ j, j < k * 8 → (∃ v, wx.cell? ⟨wo.heap.size, j, none⟩ = some v) ∧ wx.frozen? ⟨wo.heap.size, j, none⟩ = false) ∧ wo.heap.size + 1 < wx.heap.size) (fun _ _ i _ => k - (intOf i).toNat)
      case atStart =>
        refine ⟨0, F, Nat.zero_le _, rfl, boxed (fun i hi => by omega), boxed (fun i hi => by omega), boxed (by have hb := HB.out; go_grown), boxed ?_, boxed ?_, by simp⟩
        · exact (cell_second _ _ _ _ _)
        · intro j hj
          have hh : ((wo.alloc (.cells MC 83)).alloc (.cells #[.slice (some ⟨wo.heap.size, 0, none⟩) k k] 149)).heap[wo.heap.size]? = some (.cells MC 83 (0, 0)) := by
            rw [Below.heap_alloc _ _ _ (by simp)]
            exact heap_alloc_new wo _
          refine ⟨⟨MC[j]'(by rw [HM.out]; exact hj), ?_⟩, row_free hh j⟩
          rw [row_cell hh]
          exact Array.getElem?_eq_getElem _
      case round =>
        obtain ⟨wx, rfl⟩ : ∃ wx : World, wx = wr := ⟨_, rfl⟩
        obtain ⟨m, G, hm, rfl, HL, HG, HBx, HT, HE, hsx⟩ := hrel
        by_cases hmk2 : m < k
        · obtain ⟨hok, hrg, b, off, e, -, c0, c1, c2, c3, c4, c5, c6, c7⟩ := (HF.out.below HBx.out) m hmk2
          subst e
          have hbl : b < wx.heap.size := World.block_lt_of_cell? wx _ c0
          have hap := fun w' (hb : Below wx.heap.size wx w') => apart_any S (F m) w' hok (hrg.below hb)
          have HOK := boxed hok
          simp only [Sty.val] at hap
          clear hok hrg
          generalize hs : F m = s at *
          have HS := boxed hs
          clear hs
          obtain ⟨⟨v0, x0⟩, z0⟩ := HE.out (m * 8) (by omega)
          obtain ⟨⟨v1, x1⟩, z1⟩ := HE.out (m * 8 + 1) (by omega)
          obtain ⟨⟨v2, x2⟩, z2⟩ := HE.out (m * 8 + 2) (by omega)
          obtain ⟨⟨v3, x3⟩, z3⟩ := HE.out (m * 8 + 3) (by omega)
          obtain ⟨⟨v4, x4⟩, z4⟩ := HE.out (m * 8 + 4) (by omega)
          obtain ⟨⟨v5, x5⟩, z5⟩ := HE.out (m * 8 + 5) (by omega)
          obtain ⟨⟨v6, x6⟩, z6⟩ := HE.out (m * 8 + 6) (by omega)
          obtain ⟨⟨v7, x7⟩, z7⟩ := HE.out (m * 8 + 7) (by omega)
          have HX := boxed (And.intro x0 (And.intro x1 (And.intro x2 (And.intro x3 (And.intro x4 (And.intro x5 (And.intro x6 x7)))))))
          have HZ := boxed (And.intro z0 (And.intro z1 (And.intro z2 (And.intro z3 (And.intro z4 (And.intro z5 (And.intro z6 z7)))))))
          clear x0 x1 x2 x3 x4 x5 x6 x7 z0 z1 z2 z3 z4 z5 z6 z7
          have hso : wo.heap.size < wx.heap.size := by omega
          have hW : ∃ W2 : World, W2 = wx.alloc (.cells #[.int .i64 s.h, .int .i64 s.sp, .int .i64 s.st, .int .i64 s.sh, .int .i64 s.hy, .int .i64 s.ot, .slice s.ra s.rn s.rc, .bool s.keep] 83) := ⟨_, rfl⟩
          obtain ⟨W2, hW2⟩ := hW
          have hc2 : ∀ j, W2.cell? ⟨wx.heap.size, j, none⟩ = (#[.int .i64 s.h, .int .i64 s.sp, .int .i64 s.st, .int .i64 s.sh, .int .i64 s.hy, .int .i64 s.ot, .slice s.ra s.rn s.rc, .bool s.keep] : Array Value)[j]? := by intro j; rw [hW2]; exact cell_first _ _ _ _
          have hs2 : W2.heap.size = wx.heap.size + 1 := by rw [hW2]; simp
          have hb2 : Below wx.heap.size wx W2 := by rw [hW2]; go_grown
          have HC2 : Box (∀ w', Below W2.heap.size W2 w' → (w'.cell? ⟨wo.heap.size + 1, 0, none⟩ = some (.slice (some ⟨wo.heap.size, 0, none⟩) k k) ∧ w'.cell? ⟨wx.heap.size, 0, none⟩ = some (.int .i64 s.h) ∧ w'.cell? ⟨wx.heap.size, 1, none⟩ = some (.int .i64 s.sp) ∧ w'.cell? ⟨wx.heap.size, 2, none⟩ = some (.int .i64 s.st) ∧ w'.cell? ⟨wx.heap.size, 3, none⟩ = some (.int .i64 s.sh) ∧ w'.cell? ⟨wx.heap.size, 4, none⟩ = some (.int .i64 s.hy) ∧ w'.cell? ⟨wx.heap.size, 5, none⟩ = some (.int .i64 s.ot) ∧ w'.cell? ⟨wx.heap.size, 6, none⟩ = some (.slice s.ra s.rn s.rc) ∧ w'.cell? ⟨wx.heap.size, 7, none⟩ = some (.bool s.keep))) := boxed (by
            intro w' hb
            refine ⟨hold hb (hold hb2 HT.out), hold hb (hc2 0), hold hb (hc2 1), hold hb (hc2 2), hold hb (hc2 3), hold hb (hc2 4), hold hb (hc2 5), hold hb (hc2 6), hold hb (hc2 7)⟩)
          have HX2 : Box (∀ w', Below W2.heap.size W2 w' → (w'.cell? ⟨wo.heap.size, m * 8, none⟩ = some v0 ∧ w'.cell? ⟨wo.heap.size, m * 8 + 1, none⟩ = some v1 ∧ w'.cell? ⟨wo.heap.size, m * 8 + 2, none⟩ = some v2 ∧ w'.cell? ⟨wo.heap.size, m * 8 + 3, none⟩ = some v3 ∧ w'.cell? ⟨wo.heap.size, m * 8 + 4, none⟩ = some v4 ∧ w'.cell? ⟨wo.heap.size, m * 8 + 5, none⟩ = some v5 ∧ w'.cell? ⟨wo.heap.size, m * 8 + 6, none⟩ = some v6 ∧ w'.cell? ⟨wo.heap.size, m * 8 + 7, none⟩ = some v7) ∧ (w'.frozen? ⟨wo.heap.size, m * 8, none⟩ = false ∧ w'.frozen? ⟨wo.heap.size, m * 8 + 1, none⟩ = false ∧ w'.frozen? ⟨wo.heap.size, m * 8 + 2, none⟩ = false ∧ w'.frozen? ⟨wo.heap.size, m * 8 + 3, none⟩ = false ∧ w'.frozen? ⟨wo.heap.size, m * 8 + 4, none⟩ = false ∧ w'.frozen? ⟨wo.heap.size, m * 8 + 5, none⟩ = false ∧ w'.frozen? ⟨wo.heap.size, m * 8 + 6, none⟩ = false ∧ w'.frozen? ⟨wo.heap.size, m * 8 + 7, none⟩ = false)) := boxed (by
            intro w' hb
            obtain ⟨x0, x1, x2, x3, x4, x5, x6, x7⟩ := HX.out
            obtain ⟨z0, z1, z2, z3, z4, z5, z6, z7⟩ := HZ.out
            have hf : ∀ j, w'.frozen? ⟨wo.heap.size, j, none⟩ = wx.frozen? ⟨wo.heap.size, j, none⟩ := fun j => (hb.frozen (p := ⟨wo.heap.size, j, none⟩) (by show wo.heap.size < _; omega)).trans (hb2.frozen (p := ⟨wo.heap.size, j, none⟩) hso)
            refine ⟨⟨hold hb (hold hb2 x0), hold hb (hold hb2 x1), hold hb (hold hb2 x2), hold hb (hold hb2 x3), hold hb (hold hb2 x4), hold hb (hold hb2 x5), hold hb (hold hb2 x6), hold hb (hold hb2 x7)⟩, ?_⟩
            simp only [hf]
            exact ⟨z0, z1, z2, z3, z4, z5, z6, z7⟩)
          have HKS : Box (∀ (w' : World) (g : Sty), (w'.cell? ⟨wo.heap.size + 1, 0, none⟩ = some (.slice (some ⟨wo.heap.size, 0, none⟩) k k) ∧ w'.cell? ⟨wx.heap.size, 0, none⟩ = some (.int .i64 s.h) ∧ w'.cell? ⟨wx.heap.size, 1, none⟩ = some (.int .i64 s.sp) ∧ w'.cell? ⟨wx.heap.size, 2, none⟩ = some (.int .i64 s.st) ∧ w'.cell? ⟨wx.heap.size, 3, none⟩ = some (.int .i64 s.sh) ∧ w'.cell? ⟨wx.heap.size, 4, none⟩ = some (.int .i64 s.hy) ∧ w'.cell? ⟨wx.heap.size, 5, none⟩ = some (.int .i64 s.ot) ∧ w'.cell? ⟨wx.heap.size, 6, none⟩ = some (.slice s.ra s.rn s.rc) ∧ w'.cell? ⟨wx.heap.size, 7, none⟩ = some (.bool s.keep)) → (fun w' => w'.cell? ⟨wo.heap.size + 1, 0, none⟩ = some (.slice (some ⟨wo.heap.size, 0, none⟩) k k) ∧ w'.cell? ⟨wx.heap.size, 0, none⟩ = some (.int .i64 s.h) ∧ w'.cell? ⟨wx.heap.size, 1, none⟩ = some (.int .i64 s.sp) ∧ w'.cell? ⟨wx.heap.size, 2, none⟩ = some (.int .i64 s.st) ∧ w'.cell? ⟨wx.heap.size, 3, none⟩ = some (.int .i64 s.sh) ∧ w'.cell? ⟨wx.heap.size, 4, none⟩ = some (.int .i64 s.hy) ∧ w'.cell? ⟨wx.heap.size, 5, none⟩ = some (.int .i64 s.ot) ∧ w'.cell? ⟨wx.heap.size, 6, none⟩ = some (.slice s.ra s.rn s.rc) ∧ w'.cell? ⟨wx.heap.size, 7, none⟩ = some (.bool s.keep)) (put8 w' wo.heap.size (m * 8) g)) := boxed (by
            intro w' g h
            have hf : ∀ c i, c ≠ wo.heap.size → (put8 w' wo.heap.size (m * 8) g).cell? ⟨c, i, none⟩ = w'.cell? ⟨c, i, none⟩ := fun c i h => put8_far _ _ _ _ _ _ (Or.inl h)
            have n1 : wo.heap.size + 1 ≠ wo.heap.size := by omega
            have n2 : wx.heap.size ≠ wo.heap.size := by omega
            simp only [hf _ _ n1, hf _ _ n2]
            exact h)
          have HAP := boxed (fun w' (hb : Below W2.heap.size W2 w') => hap w' (hb2.trans (hb.mono (by omega))))
          have HB0 : Box (Below W2.heap.size W2 W2.drew) := boxed (Below.refl _ _).drew
          have HB2 := boxed hb2
          clear hap hb2
          go_wp2_with fail
          rw [← hW2]
          clear hW2 hc2 c0 c1 c2 c3 c4 c5 c6 c7
          go_region_held3 (fun w' => w'.cell? ⟨wo.heap.size + 1, 0, none⟩ = some (.slice (some ⟨wo.heap.size, 0, none⟩) k k) ∧ w'.cell? ⟨wx.heap.size, 0, none⟩ = some (.int .i64 s.h) ∧ w'.cell? ⟨wx.heap.size, 1, none⟩ = some (.int .i64 s.sp) ∧ w'.cell? ⟨wx.heap.size, 2, none⟩ = some (.int .i64 s.st) ∧ w'.cell? ⟨wx.heap.size, 3, none⟩ = some (.int .i64 s.sh) ∧ w'.cell? ⟨wx.heap.size, 4, none⟩ = some (.int .i64 s.hy) ∧ w'.cell? ⟨wx.heap.size, 5, none⟩ = some (.int .i64 s.ot) ∧ w'.cell? ⟨wx.heap.size, 6, none⟩ = some (.slice s.ra s.rn s.rc) ∧ w'.cell? ⟨wx.heap.size, 7, none⟩ = some (.bool s.keep))
            (first | (with_reducible exact HC2.out _ HB5.out) | (with_reducible exact HC2.out _ HB0.out) | exact HKS.out w5 g (HC2.out _ HB5.out))
            (first | (go_at_call 87; refine (HAP.out _ HB0.out).mono ?_; rintro e w5 ⟨g, rfl, hg1, hg2, hg3, hb5⟩; have HG1 := boxed hg1; have HG2 := boxed hg2; have HG3 := boxed hg3; have HB5 := boxed (below_step HB0.out (Nat.le_refl _) hb5); clear HAP hg1 hg2 hg3 hb5; obtain ⟨⟨x0, x1, x2, x3, x4, x5, x6, x7⟩, z0, z1, z2, z3, z4, z5, z6, z7⟩ := HX2.out _ HB5.out))
          have HR : Box ((∀ i, i < m + 1 → Like (F i) ((fun i => if i = m then g else G i) i)) ∧ StysIn (put8 w5 wo.heap.size (m * 8) g) wo.heap.size (m + 1) (fun i => if i = m then g else G i) (wo.heap.size + 1) ∧ Below w.heap.size w (put8 w5 wo.heap.size (m * 8) g) ∧
              (put8 w5 wo.heap.size (m * 8) g).cell? ⟨wo.heap.size + 1, 0, none⟩ = some (.slice (some ⟨wo.heap.size, 0, none⟩) k k) ∧ (∀ j, j < k * 8 → (∃ v, (put8 w5 wo.heap.size (m * 8) g).cell? ⟨wo.heap.size, j, none⟩ = some v) ∧ (put8 w5 wo.heap.size (m * 8) g).frozen? ⟨wo.heap.size, j, none⟩ = false) ∧ wo.heap.size + 1 < (put8 w5 wo.heap.size (m * 8) g).heap.size) := boxed (by
            have hbx5 : Below wx.heap.size wx w5 := HB2.out.trans (HB5.out.mono (by omega))
            have hw5 : Below w.heap.size w w5 := below_step HBx.out (Nat.le_refl _) hbx5
            have hz5 := hbx5.size
            refine ⟨?_, ?_, put8_below hw5 _ _ _ hBo, (HKS.out w5 g (HC2.out _ HB5.out)).1, ?_, ?_⟩
            · intro i hi
              by_cases c : i = m
              · subst c; simp only [if_pos]; rw [HS.out]; exact HG1.out
              · simp only [if_neg c]; exact HL.out i (by omega)
            · refine (HG.out.below hbx5).put g (HOK.out.like HG1.out HG3.out.1 HG3.out.2) (HG2.out.keep (fun b i u hs hc => ⟨?_, hc⟩)) (by omega) ?_
              · have : W2.drew.heap.size ≤ b := hs
                have e : W2.drew.heap.size = W2.heap.size := rfl
                show wo.heap.size + 1 ≤ b
                omega
              · intro j hj
                obtain ⟨⟨v, hv⟩, -⟩ := HE.out (m * 8 + j) (by omega)
                exact ⟨v, hold hbx5 hv⟩
            · intro j hj
              obtain ⟨⟨v, hv⟩, hz⟩ := HE.out j hj
              refine ⟨put8_some _ _ _ _ _ _ _ (hold hbx5 hv), ?_⟩
              rw [put8_frozen, hbx5.frozen (p := ⟨wo.heap.size, j, none⟩) hso]
              exact hz
            · rw [put8_size]; omega)
          change Exit.inBlock 3 _ _ _ (put8 w5 wo.heap.size (m * 8) g)
          clear x0 x1 x2 x3 x4 x5 x6 x7 z0 z1 z2 z3 z4 z5 z6 z7 HKS HC2 HX2 HX HZ
          generalize put8 w5 wo.heap.size (m * 8) g = W6 at *
          go_wp2
          go_roundw
          case rel => exact ⟨m + 1, _, by omega, by go_num, boxed HR.out.1, boxed HR.out.2.1, boxed HR.out.2.2.1, boxed HR.out.2.2.2.1, boxed HR.out.2.2.2.2.1, HR.out.2.2.2.2.2⟩
          case measure => simp [intOf]; omega
        · have e : m = k := by omega
          subst e
          go_wp2
          refine bodyPost_ret (v := .tuple #[.pointer (some ⟨wo.heap.size + 1, 0, none⟩), .int .i64 0, .int .i64 0]) (by simp [results, Tryz.results39, go_sem]) rfl ⟨Or.inr ⟨by rw [HC.out, H0.out], wo.heap.size + 1, G, rfl, ⟨⟨by omega, hn32⟩, wo.heap.size, HT.out, HG.out.at hBo (by omega)⟩, HL.out⟩, HBx.out⟩
end Go.Proofs.YtcjcdpfjnomehaaGreat.It

/-
  What a table tells: how many styles, whether there is one, the style itself and its measures; and what the document's Of and the law's table answer.
-/
namespace Go.Proofs.YtcjcdpfjnomehaaGreat.It
open Go.RowKit
set_option linter.unusedSimpArgs false
set_option linter.unusedVariables false
def zeroS : Sty := ⟨0, 0, 0, 0, 0, 0, none, 0, 0, false, fun _ => ⟨0, 0, 0⟩⟩
theorem zeroS_ok : StyOk zeroS := by
  have h : I64 0 := by unfold I64; omega
  exact ⟨h, h, h, h, h, h, ⟨Nat.le_refl _, by show 0 * 24 ≤ 140737488351232; omega⟩, fun _ => ⟨rfl, rfl⟩⟩
def ofS (G : Nat → Sty) (n : Nat) (a : Int) : Sty := if 0 ≤ a ∧ a < (n : Int) then G a.toNat else zeroS
theorem ofS_in (G : Nat → Sty) (n k : Nat) (h : k < n) : ofS G n (k : Int) = G k := by unfold ofS; rw [if_pos (by omega)]; simp
theorem ofS_out (G : Nat → Sty) (n : Nat) (a : Int) (h : a < 0 ∨ (n : Int) ≤ a) : ofS G n a = zeroS := by unfold ofS; rw [if_neg (by omega)]
theorem ofS_like {F G : Nat → Sty} {n : Nat} (h : ∀ i, i < n → Like (F i) (G i)) (a : Int) : Like (ofS F n a) (ofS G n a) := by
  unfold ofS
  split
  · rename_i c; exact h _ (by omega)
  · exact Like.refl _
theorem zero_at (S : Nat → Prop) (w : World) : RgsAt S w zeroS.ra zeroS.rn zeroS.R := fun j hj => absurd hj (by show ¬ j < 0; omega)
theorem ofS_at {S : Nat → Prop} {w : World} {ao : Option Addr} {n : Nat} {F : Nat → Sty} (h : StysAt S w ao n F) (a : Int) : StyOk (ofS F n a) ∧ RgsAt S w (ofS F n a).ra (ofS F n a).rn (ofS F n a).R := by
  unfold ofS
  split
  · rename_i c; exact ⟨(h _ (by omega)).1, (h _ (by omega)).2.1⟩
  · exact ⟨zeroS_ok, zero_at S w⟩
theorem fld0 (a b c d e f g h : Value) (w : World) : (Instr.field 83 (.agg #[a, b, c, d, e, f, g, h]) 0).run Tryz.prog w = .ok a w := by kernel_rfl
theorem fld4 (a b c d e f g h : Value) (w : World) : (Instr.field 83 (.agg #[a, b, c, d, e, f, g, h]) 4).run Tryz.prog w = .ok e w := by kernel_rfl
set_option maxRecDepth 100000 in
theorem styles_any {B : Nat} {w : World} {tb n : Nat} {G : Nat → Sty} (h : TabAt B w tb n G) :
    Calls Tryz.prog 197 #[.pointer (some ⟨tb, 0, none⟩)] w fun e w' => e = .returned (.int .i64 (n : Nat)) ∧ w' = w := by
  obtain ⟨h1, bs, h2, h3⟩ := h
  clear h3
  go_enter Tryz.func197, Tryz.ntmps197
  go_wp2
  go_ret
  exact ⟨rfl, rfl⟩
set_option maxRecDepth 100000 in
theorem tcheck_any {B : Nat} {w : World} {tb n : Nat} {G : Nat → Sty} (h : TabAt B w tb n G) (a : Int) :
    Calls Tryz.prog 166 #[.pointer (some ⟨tb, 0, none⟩), .int .i64 a] w fun e w' => e = .returned (.int .i64 (if 0 ≤ a ∧ a < (n : Int) then 0 else 43)) ∧ w' = w := by
  have hs := styles_any h
  clear h
  by_cases h1 : a < 0
  · have t1 : decide (a < 0) = true := decide_eq_true h1
    have e1 : (if 0 ≤ a ∧ a < (n : Int) then (0 : Int) else 43) = 43 := if_neg (by omega)
    rw [e1]
    clear h1
    go_enter Tryz.func166, Tryz.ntmps166
    go_wp2_with fail
    go_ret
    exact ⟨rfl, rfl⟩
  have t1 : decide (a < 0) = false := decide_eq_false h1
  by_cases h2 : (n : Int) ≤ a
  · have t2 : decide ((n : Int) ≤ a) = true := decide_eq_true h2
    have e1 : (if 0 ≤ a ∧ a < (n : Int) then (0 : Int) else 43) = 43 := if_neg (by omega)
    rw [e1]
    clear h1 h2
    go_enter Tryz.func166, Tryz.ntmps166
    go_wp2_with (go_at_call 197; refine hs.mono ?_; rintro e w' ⟨rfl, hw'⟩; subst w')
    go_ret
    exact ⟨rfl, rfl⟩
  have t2 : decide ((n : Int) ≤ a) = false := decide_eq_false h2
  have e1 : (if 0 ≤ a ∧ a < (n : Int) then (0 : Int) else 43) = 0 := if_pos (by omega)
  rw [e1]
  clear h1 h2
  go_enter Tryz.func166, Tryz.ntmps166
  go_wp2_with (go_at_call 197; refine hs.mono ?_; rintro e w' ⟨rfl, hw'⟩; subst w')
  go_ret
  exact ⟨rfl, rfl⟩
set_option maxRecDepth 100000 in
set_option maxHeartbeats 1000000 in
theorem look_any {B : Nat} {w : World} {tb n : Nat} {G : Nat → Sty} (h : TabAt B w tb n G) (a : Int) :
    Calls Tryz.prog 162 #[.pointer (some ⟨tb, 0, none⟩), .int .i64 a] w fun e w' => e = .returned (ofS G n a).val ∧ Below w.heap.size w w' := by
  have hc := fun w' (hb : Below w.heap.size w w') => tcheck_any (h.below hb) a
  by_cases hin : 0 ≤ a ∧ a < (n : Int)
  · obtain ⟨k, rfl⟩ : ∃ k : Nat, a = (k : Int) := ⟨a.toNat, by omega⟩
    have hk : k < n := by omega
    rw [ofS_in G n k hk]
    rw [if_pos hin] at hc
    obtain ⟨⟨h1, h1'⟩, bs, h2, h3⟩ := h
    obtain ⟨-, -, b, off, e, -, c0, c1, c2, c3, c4, c5, c6, c7⟩ := h3 k hk
    injection e with e
    injection e with e1 e2
    subst e1; subst e2
    simp only [Nat.zero_add] at c0 c1 c2 c3 c4 c5 c6 c7
    clear h3
    have q1 : tb < w.heap.size := World.block_lt_of_cell? w _ h2
    have q2 : bs < w.heap.size := World.block_lt_of_cell? w _ c0
    have q3 : tb ≠ w.heap.size := by omega
    have q4 : bs ≠ w.heap.size := by omega
    unfold Sty.val
    generalize G k = s at *
    go_enter Tryz.func162, Tryz.ntmps162
    go_wp2_with fail
    refine (hc _ (by go_grown)).mono ?_
    rintro e w' ⟨rfl, hw'⟩
    subst w'
    clear hc
    go_wp2
    go_returns
    exact ⟨rfl, by go_grown⟩
  · rw [ofS_out G n a (by omega)]
    rw [if_neg hin] at hc
    clear h hin
    unfold Sty.val zeroS
    go_enter Tryz.func162, Tryz.ntmps162
    go_wp2_with fail
    refine (hc _ (by go_grown)).mono ?_
    rintro e w' ⟨rfl, hw'⟩
    subst w'
    clear hc
    go_wp2
    go_returns
    exact ⟨rfl, by go_grown⟩
end Go.Proofs.YtcjcdpfjnomehaaGreat.It

/-
  What a table's Height, Hyphen, Keep, Space and Style answer; and what the law's table does.
-/
namespace Go.Proofs.YtcjcdpfjnomehaaGreat.It
open Go.RowKit
set_option linter.unusedSimpArgs false
set_option linter.unusedVariables false
theorem TabAt.mono {B C : Nat} {w : World} {tb n : Nat} {G : Nat → Sty} (h : TabAt B w tb n G) (hC : C ≤ B) : TabAt C w tb n G := by
  obtain ⟨h1, bs, h2, h3⟩ := h
  exact ⟨⟨Nat.le_trans hC h1.1, h1.2⟩, bs, h2, h3.keep (fun b i u hs hc => ⟨Nat.le_trans hC hs, hc⟩)⟩
theorem TabAt.of {B : Nat} {w : World} {tb n : Nat} {G : Nat → Sty} (h : TabAt B w tb n G) (a : Int) : StyOk (ofS G n a) ∧ RgsAt (fun b => B ≤ b) w (ofS G n a).ra (ofS G n a).rn (ofS G n a).R := by
  obtain ⟨h1, bs, h2, h3⟩ := h
  exact ofS_at h3 a
set_option maxRecDepth 100000 in
theorem height_any {B : Nat} {w : World} {tb n : Nat} {G : Nat → Sty} (h : TabAt B w tb n G) (a : Int) :
    Calls Tryz.prog 118 #[.pointer (some ⟨tb, 0, none⟩), .int .i64 a] w fun e w' => e = .returned (.int .i64 (ofS G n a).h) ∧ Below w.heap.size w w' := by
  have hl := look_any h a
  have hf := fld0
  unfold Sty.val at hl
  clear h
  generalize ofS G n a = s at *
  go_enter Tryz.func118, Tryz.ntmps118
  go_wp2_with (go_at_call 162; refine hl.mono ?_; rintro e w1 ⟨rfl, hb1⟩; have HB := boxed hb1; clear hb1)
  go_ret
  exact ⟨rfl, HB.out⟩
set_option maxRecDepth 100000 in
theorem hyphen_any {B : Nat} {w : World} {tb n : Nat} {G : Nat → Sty} (h : TabAt B w tb n G) (a : Int) :
    Calls Tryz.prog 134 #[.pointer (some ⟨tb, 0, none⟩), .int .i64 a] w fun e w' => e = .returned (.int .i64 (ofS G n a).hy) ∧ Below w.heap.size w w' := by
  have hl := look_any h a
  have hf := fld4
  unfold Sty.val at hl
  clear h
  generalize ofS G n a = s at *
  go_enter Tryz.func134, Tryz.ntmps134
  go_wp2_with (go_at_call 162; refine hl.mono ?_; rintro e w1 ⟨rfl, hb1⟩; have HB := boxed hb1; clear hb1)
  go_ret
  exact ⟨rfl, HB.out⟩
set_option maxRecDepth 100000 in
theorem space_any {B : Nat} {w : World} {tb n : Nat} {G : Nat → Sty} (h : TabAt B w tb n G) (a : Int) :
    Calls Tryz.prog 132 #[.pointer (some ⟨tb, 0, none⟩), .int .i64 a] w fun e w' => e = .returned (.tuple #[.int .i64 (ofS G n a).sp, .int .i64 (ofS G n a).st, .int .i64 (ofS G n a).sh]) ∧ Below w.heap.size w w' := by
  have hl := look_any h a
  unfold Sty.val at hl
  clear h
  generalize ofS G n a = s at *
  go_enter Tryz.func132, Tryz.ntmps132
  go_wp2_with (go_at_call 162; refine hl.mono ?_; rintro e w1 ⟨rfl, hb1⟩; have HB := boxed hb1; clear hb1)
  go_quiet (fail)
  go_wp2
  refine bodyPost_ret (v := .tuple #[.int .i64 s.sp, .int .i64 s.st, .int .i64 s.sh]) (by simp [results, Tryz.results132, go_sem]) rfl ⟨rfl, ?_⟩
  exact (HB.out.alloc HB.out.size _).trans (bel_drewN _ _ _)
set_option maxRecDepth 100000 in
theorem table_any (S : Nat → Prop) (ao : Option Addr) (n cap : Nat) (F : Nat → Sty) (w : World) (hF : StysAt S w ao n F) :
    Calls Tryz.prog 10 #[.slice ao n cap] w fun e w' => ((ckc F n ≠ 0 ∧ e = .returned (.pointer none)) ∨
      (ckc F n = 0 ∧ ∃ tb G, e = .returned (.pointer (some ⟨tb, 0, none⟩)) ∧ TabAt w.heap.size w' tb n G ∧ ∀ i, i < n → Like (F i) (G i))) ∧ Below w.heap.size w w' := by
  have hck := refcheck_any S ao n cap F w hF
  have hnw := fun w' (hb : Below w.heap.size w w') => new_any S ao n cap F w' (hF.below hb)
  clear hF
  by_cases hz : ckc F n = 0
  · have HZ := boxed hz
    rw [hz] at hck
    clear hz
    go_enter Tryz.func10, Tryz.ntmps10
    go_wp2_with fail
    refine hck.mono ?_
    rintro e w1 ⟨rfl, hb1⟩
    have HB1 := boxed hb1
    clear hb1 hck
    go_wp2_with fail
    refine (hnw _ HB1.out).mono ?_
    rintro e w2 ⟨hor, hb2⟩
    have HB2 := boxed (below_step HB1.out (Nat.le_refl _) hb2)
    clear hb2 hnw
    rcases hor with ⟨hne, -⟩ | ⟨-, tb, G, rfl, hT, hL⟩
    · exact absurd HZ.out hne
    · have HT := boxed (hT.mono HB1.out.size)
      have HL := boxed hL
      clear hT hL
      go_wp2
      go_ret
      exact ⟨Or.inr ⟨HZ.out, tb, G, rfl, HT.out, HL.out⟩, HB2.out⟩
  · have HZ := boxed hz
    have tz : (ckc F n != 0) = true := by simpa using hz
    clear hz hnw
    generalize ckc F n = C at *
    go_enter Tryz.func10, Tryz.ntmps10
    go_wp2_with fail
    refine hck.mono ?_
    rintro e w1 ⟨rfl, hb1⟩
    have HB1 := boxed hb1
    clear hb1 hck
    go_wp2
    go_ret
    exact ⟨Or.inl ⟨HZ.out, rfl⟩, HB1.out⟩
end Go.Proofs.YtcjcdpfjnomehaaGreat.It

/-
  How wide a rune is: what the program's width (by halving) and Width, and the document's Width (range by range), answer.
-/
namespace Go.Proofs.YtcjcdpfjnomehaaGreat.It
open Go.RowKit
set_option linter.unusedSimpArgs false
set_option linter.unusedVariables false
def hitR (R : Nat → Rg) (r : Int) (k : Nat) : Bool := decide ((R k).lo ≤ r) && decide (r ≤ (R k).hi)
def fhit (R : Nat → Rg) (r : Int) : Nat → Nat
  | 0 => 0
  | k + 1 => if fhit R r k < k then fhit R r k else if hitR R r k = true then k else k + 1
theorem fhit_none (R : Nat → Rg) (r : Int) (n : Nat) (h : ∀ j, j < n → hitR R r j = false) : fhit R r n = n := by
  induction n with
  | zero => rfl
  | succ n ih =>
    have e := ih (fun j hj => h j (by omega))
    show (if fhit R r n < n then fhit R r n else if hitR R r n = true then n else n + 1) = _
    rw [e, if_neg (by omega), h n (by omega)]
    simp
theorem fhit_at (R : Nat → Rg) (r : Int) (k n : Nat) (h : ∀ j, j < k → hitR R r j = false) (hk : k < n) (hh : hitR R r k = true) : fhit R r n = k := by
  induction n with
  | zero => omega
  | succ n ih =>
    show (if fhit R r n < n then fhit R r n else if hitR R r n = true then n else n + 1) = _
    by_cases c : k = n
    · subst c
      rw [fhit_none R r k h, if_neg (by omega), if_pos hh]
    · rw [ih (by omega), if_pos (by omega)]
def rgw (R : Nat → Rg) (n : Nat) (r o : Int) : Int := if fhit R r n < n then (R (fhit R r n)).wd else o
theorem rgw_none {R : Nat → Rg} {n : Nat} {r o : Int} (h : ∀ j, j < n → hitR R r j = false) : rgw R n r o = o := by
  unfold rgw; rw [fhit_none R r n h, if_neg (by omega)]
theorem rgw_at {R : Nat → Rg} {n k : Nat} {r o : Int} (h : ∀ j, j < k → hitR R r j = false) (hk : k < n) (hh : hitR R r k = true) : rgw R n r o = (R k).wd := by
  unfold rgw; rw [fhit_at R r k n h hk hh, if_pos hk]
def wdS (s : Sty) (r : Int) : Int := if kd r = 1 ∨ kd r = 2 then s.sp else if kd r = 3 ∨ kd r = 4 ∨ kd r = 5 ∨ kd r = 7 ∨ kd r = 8 then 0 else rgw s.R s.rn r s.ot
theorem wdS_like {s g : Sty} (h : Like s g) (r : Int) : wdS g r = wdS s r := by
  unfold wdS; rw [h.sp, h.R, h.rn, h.ot]
def Rise (R : Nat → Rg) (n : Nat) : Prop := (∀ j, j < n → (R j).lo ≤ (R j).hi) ∧ ∀ j k, j < k → k < n → (R j).hi < (R k).lo
theorem rise_of (R : Nat → Rg) (n : Nat) (h : rfs R n = 0) : Rise R n := by
  have hz : ∀ k, k < n → rfa R k = 0 := by
    induction n with
    | zero => intro k hk; omega
    | succ n ih =>
      have e : rfs R (n + 1) = if rfs R n = 0 then rfa R n else rfs R n := rfl
      rw [e] at h
      by_cases c : rfs R n = 0
      · rw [if_pos c] at h
        intro k hk
        by_cases d : k = n
        · subst d; exact h
        · exact ih c k (by omega)
      · rw [if_neg c] at h; exact absurd h c
  have h1 : ∀ k, k < n → ¬ ((R k).lo ≤ ahd R k ∨ (R k).hi < (R k).lo ∨ 1114111 < (R k).hi) := by
    intro k hk c
    have := hz k hk
    unfold rfa at this
    rw [if_pos c] at this
    omega
  refine ⟨fun j hj => by have := h1 j hj; omega, ?_⟩
  intro j k hjk hk
  induction k with
  | zero => omega
  | succ k ih =>
    have a1 := h1 (k + 1) hk
    have e : ahd R (k + 1) = (R k).hi := by unfold ahd; simp
    rw [e] at a1
    by_cases c : j = k
    · subst c; omega
    · have := ih (by omega) (by omega)
      have a2 := h1 k (by omega)
      omega
set_option maxRecDepth 100000 in
theorem clo_any (S : Nat → Prop) (ra : Option Addr) (rn rc : Nat) (R : Nat → Rg) (r : Int) (bS bR k : Nat) (w : World) (hr : RgsAt S w ra rn R) (hk : k < rn) (cS : w.cell? ⟨bS, 6, none⟩ = some (.slice ra rn rc)) (cR : w.cell? ⟨bR, 0, none⟩ = some (.int .i32 r)) (hrr : -2147483648 ≤ r ∧ r ≤ 2147483647) :
    Calls Tryz.prog 198 #[.int .i64 (k : Int), .pointer (some ⟨bS, 0, none⟩), .pointer (some ⟨bR, 0, none⟩)] w fun e w' => e = .returned (.bool (decide (r ≤ (R k).hi))) ∧ Below w.heap.size w w' := by
  obtain ⟨-, b, off, rfl, -, c0, c1, c2⟩ := hr k hk
  clear hr
  generalize (R k).hi = H at *
  clear c0 c2
  go_enter Tryz.func198, Tryz.ntmps198
  go_wp2
  go_quiet (fail)
  go_wp2
  go_ret
  exact ⟨rfl, bel_drewN _ _ _⟩
set_option maxRecDepth 100000 in
set_option maxHeartbeats 1000000 in
theorem search_any (S : Nat → Prop) (ra : Option Addr) (rn rc : Nat) (R : Nat → Rg) (r : Int) (bS bR : Nat) (w : World) (hr : RgsAt S w ra rn R) (hn : rn * 24 ≤ 140737488351232) (hR : Rise R rn) (cS : w.cell? ⟨bS, 6, none⟩ = some (.slice ra rn rc)) (cR : w.cell? ⟨bR, 0, none⟩ = some (.int .i32 r)) (hrr : -2147483648 ≤ r ∧ r ≤ 2147483647) :
    Calls Tryz.prog 194 #[.int .i64 (rn : Int), .func (.func 198) #[] #[.pointer (some ⟨bS, 0, none⟩), .pointer (some ⟨bR, 0, none⟩)]] w fun e w' => ∃ q : Nat, e = .returned (.int .i64 (q : Int)) ∧ q ≤ rn ∧ (∀ j, j < q → (R j).hi < r) ∧ (∀ j, q ≤ j → j < rn → r ≤ (R j).hi) ∧ Below w.heap.size w w' := by
  have HR := boxed hr
  have HI := boxed hR
  have CS := boxed cS
  have CR := boxed cR
  have HQ := boxed hrr
  clear hr hR cS cR hrr
  have hn2 : rn ≤ 5864062014800 := by omega
  clear hn
  go_enter Tryz.func194, Tryz.ntmps194
  go_wp2_with fail
  go_loopw [5, 6] (fun a b wr => ∃ i j : Nat, i ≤ j ∧ j ≤ rn ∧ a = .int .i64 i ∧ b = .int .i64 j ∧ Box ((∀ q, q < i → (R q).hi < r) ∧ ∀ q, j ≤ q → q < rn → r ≤ (R q).hi) ∧ Box (Below w.heap.size w wr)) (fun a b _ => (intOf b - intOf a).toNat)
  case atStart => exact ⟨0, rn, by omega, by omega, rfl, rfl, boxed ⟨fun q hq => by omega, fun q h1 h2 => by omega⟩, boxed (Below.refl _ _)⟩
  case round =>
    obtain ⟨i, j, h1, h2, rfl, rfl, HP, HB⟩ := hrel
    by_cases hlt : i < j
    · obtain ⟨m, hm⟩ : ∃ m : Nat, (i + j) / 2 = m := ⟨_, rfl⟩
      have em : ((i : Int) + (j : Int)) / 2 = (m : Int) := by omega
      have m1 : i ≤ m := by omega
      have m2 : m < j := by omega
      clear hm
      have HC := boxed (clo_any S ra rn rc R r bS bR m wr (HR.out.below HB.out) (by omega) (hold HB.out CS.out) (hold HB.out CR.out) HQ.out)
      go_wp2_with fail
      refine HC.out.mono ?_
      rintro e w1 ⟨rfl, hb1⟩
      have HB2 := boxed (below_step HB.out (Nat.le_refl _) hb1)
      clear hb1 HC
      by_cases hf : r ≤ (R m).hi
      · have tf : decide (r ≤ (R m).hi) = true := decide_eq_true hf
        have HN : Box ((∀ q, q < i → (R q).hi < r) ∧ ∀ q, m ≤ q → q < rn → r ≤ (R q).hi) := boxed ⟨HP.out.1, fun q hq1 hq2 => by
          by_cases c : q = m
          · subst c; exact hf
          · have := HI.out.2 m q (by omega) hq2
            have := HI.out.1 q hq2
            omega⟩
        clear hf
        generalize decide (r ≤ (R m).hi) = D at *
        go_wp2_with fail
        go_roundw
        case rel => exact ⟨i, m, m1, by omega, rfl, rfl, HN, HB2⟩
        case measure => simp [intOf]; omega
      · have tf : decide (r ≤ (R m).hi) = false := decide_eq_false hf
        have HN : Box ((∀ q, q < m + 1 → (R q).hi < r) ∧ ∀ q, j ≤ q → q < rn → r ≤ (R q).hi) := boxed ⟨fun q hq => by
          by_cases c : q = m
          · subst c; omega
          · have := HI.out.2 q m (by omega) (by omega)
            have := HI.out.1 m (by omega)
            omega, HP.out.2⟩
        clear hf
        generalize decide (r ≤ (R m).hi) = D at *
        go_wp2_with fail
        go_roundw
        case rel => exact ⟨m + 1, j, by omega, h2, by go_num, rfl, HN, HB2⟩
        case measure => simp [intOf]; omega
    · have e : i = j := by omega
      subst e
      go_wp2_with fail
      go_ret
      exact ⟨i, rfl, h2, HP.out.1, HP.out.2, HB.out⟩
end Go.Proofs.YtcjcdpfjnomehaaGreat.It

/-
  How wide a rune is: what the program's width and Width, and the document's Width, answer.
-/
namespace Go.Proofs.YtcjcdpfjnomehaaGreat.It
open Go.RowKit
set_option linter.unusedSimpArgs false
set_option linter.unusedVariables false
theorem kd_nine (r : Int) : kd r = 1 ∨ kd r = 2 ∨ kd r = 3 ∨ kd r = 4 ∨ kd r = 5 ∨ kd r = 7 ∨ kd r = 8 ∨ kd r = 0 ∨ kd r = 6 := by
  unfold kd
  repeat' split
  all_goals omega
theorem wdS_sp {s : Sty} {r : Int} (h : kd r = 1 ∨ kd r = 2) : wdS s r = s.sp := by unfold wdS; rw [if_pos h]
theorem wdS_no {s : Sty} {r : Int} (h : kd r = 3 ∨ kd r = 4 ∨ kd r = 5 ∨ kd r = 7 ∨ kd r = 8) : wdS s r = 0 := by unfold wdS; rw [if_neg (by omega), if_pos h]
theorem wdS_rg {s : Sty} {r : Int} (h : kd r = 0 ∨ kd r = 6) : wdS s r = rgw s.R s.rn r s.ot := by unfold wdS; rw [if_neg (by omega), if_neg (by omega)]
theorem hitR_hi {R : Nat → Rg} {r : Int} {j : Nat} (h : (R j).hi < r) : hitR R r j = false := by
  unfold hitR
  have : decide (r ≤ (R j).hi) = false := decide_eq_false (by omega)
  rw [this]; simp
theorem hitR_lo {R : Nat → Rg} {r : Int} {j : Nat} (h : r < (R j).lo) : hitR R r j = false := by
  unfold hitR
  have : decide ((R j).lo ≤ r) = false := decide_eq_false (by omega)
  rw [this]; simp
theorem hitR_in {R : Nat → Rg} {r : Int} {j : Nat} (h1 : (R j).lo ≤ r) (h2 : r ≤ (R j).hi) : hitR R r j = true := by
  unfold hitR
  rw [decide_eq_true h1, decide_eq_true h2]; rfl
set_option maxRecDepth 100000 in
set_option maxHeartbeats 2000000 in
theorem width_any (S : Nat → Prop) (s : Sty) (r : Int) (w : World) (hs : StyOk s) (hr : RgsAt S w s.ra s.rn s.R) (hR : Rise s.R s.rn) (hrr : -2147483648 ≤ r ∧ r ≤ 2147483647) :
    Calls Tryz.prog 171 #[s.val, .int .i32 r] w fun e w' => e = .returned (.int .i64 (wdS s r)) ∧ Below w.heap.size w w' := by
  have hmf : ∀ (fn : Fn) (first cap : Array Value) (w : World), (Instr.makeFunc fn first cap).run Tryz.prog w = .ok (.func fn first cap) w := fun _ _ _ _ => rfl
  have hkd := fun w => kind_any r w
  have HSR := boxed (fun (w' : World) (hb : Below w.heap.size w w') bS bR cS cR => search_any S s.ra s.rn s.rc s.R r bS bR w' (hr.below hb) hs.rn.2 hR cS cR hrr)
  have HRG := boxed hr
  have HRI := boxed hR
  have hn := hs.rn
  clear hs hr hR
  have h1 : Box (kd r = 1 ∨ kd r = 2 → wdS s r = s.sp) := boxed wdS_sp
  have h2 : Box (kd r = 3 ∨ kd r = 4 ∨ kd r = 5 ∨ kd r = 7 ∨ kd r = 8 → wdS s r = 0) := boxed wdS_no
  have h3 : Box (kd r = 0 ∨ kd r = 6 → wdS s r = rgw s.R s.rn r s.ot) := boxed wdS_rg
  have h9 := kd_nine r
  unfold Sty.val
  generalize kd r = K at *
  generalize wdS s r = V at *
  obtain ⟨h, sp, st, sh, hy, ot, ra, rn, rc, kp, R⟩ := s
  simp only at *
  rcases h9 with e | e | e | e | e | e | e | e | e
  · subst e
    have HV := boxed (h1.out (by omega))
    clear h1 h2 h3 HSR
    go_enter Tryz.func171, Tryz.ntmps171
    go_wp2_with (go_at_call 78; refine (hkd _).mono ?_; rintro e w' ⟨rfl, hw'⟩; subst w')
    go_ret
    exact ⟨ret_int HV.out.symm, by go_grown⟩
  · subst e
    have HV := boxed (h1.out (by omega))
    clear h1 h2 h3 HSR
    go_enter Tryz.func171, Tryz.ntmps171
    go_wp2_with (go_at_call 78; refine (hkd _).mono ?_; rintro e w' ⟨rfl, hw'⟩; subst w')
    go_ret
    exact ⟨ret_int HV.out.symm, by go_grown⟩
  · subst e
    have HV := boxed (h2.out (by omega))
    clear h1 h2 h3 HSR
    go_enter Tryz.func171, Tryz.ntmps171
    go_wp2_with (go_at_call 78; refine (hkd _).mono ?_; rintro e w' ⟨rfl, hw'⟩; subst w')
    go_ret
    exact ⟨ret_int HV.out.symm, by go_grown⟩
  · subst e
    have HV := boxed (h2.out (by omega))
    clear h1 h2 h3 HSR
    go_enter Tryz.func171, Tryz.ntmps171
    go_wp2_with (go_at_call 78; refine (hkd _).mono ?_; rintro e w' ⟨rfl, hw'⟩; subst w')
    go_ret
    exact ⟨ret_int HV.out.symm, by go_grown⟩
  · subst e
    have HV := boxed (h2.out (by omega))
    clear h1 h2 h3 HSR
    go_enter Tryz.func171, Tryz.ntmps171
    go_wp2_with (go_at_call 78; refine (hkd _).mono ?_; rintro e w' ⟨rfl, hw'⟩; subst w')
    go_ret
    exact ⟨ret_int HV.out.symm, by go_grown⟩
  · subst e
    have HV := boxed (h2.out (by omega))
    clear h1 h2 h3 HSR
    go_enter Tryz.func171, Tryz.ntmps171
    go_wp2_with (go_at_call 78; refine (hkd _).mono ?_; rintro e w' ⟨rfl, hw'⟩; subst w')
    go_ret
    exact ⟨ret_int HV.out.symm, by go_grown⟩
  · subst e
    have HV := boxed (h2.out (by omega))
    clear h1 h2 h3 HSR
    go_enter Tryz.func171, Tryz.ntmps171
    go_wp2_with (go_at_call 78; refine (hkd _).mono ?_; rintro e w' ⟨rfl, hw'⟩; subst w')
    go_ret
    exact ⟨ret_int HV.out.symm, by go_grown⟩
  · subst e
    have HV := boxed (h3.out (by omega))
    clear h1 h2 h3
    go_enter Tryz.func171, Tryz.ntmps171
    go_wp2_with (go_at_call 78; refine (hkd _).mono ?_; rintro e w' ⟨rfl, hw'⟩; subst w')
    have cS : ∀ j, ((w.alloc (.cells #[.int .i64 h, .int .i64 sp, .int .i64 st, .int .i64 sh, .int .i64 hy, .int .i64 ot, .slice ra rn rc, .bool kp] 83)).alloc (.cells #[.int .i32 r] 21)).cell? ⟨w.heap.size, j, none⟩ = (#[.int .i64 h, .int .i64 sp, .int .i64 st, .int .i64 sh, .int .i64 hy, .int .i64 ot, .slice ra rn rc, .bool kp] : Array Value)[j]? := by
      intro j
      rw [((Below.refl _ _).alloc (Nat.le_refl _) _ : Below (w.alloc (.cells #[.int .i64 h, .int .i64 sp, .int .i64 st, .int .i64 sh, .int .i64 hy, .int .i64 ot, .slice ra rn rc, .bool kp] 83)).heap.size _ _).cell (p := ⟨w.heap.size, j, none⟩) (by simp)]
      exact cell_first _ _ _ _
    have cR : ((w.alloc (.cells #[.int .i64 h, .int .i64 sp, .int .i64 st, .int .i64 sh, .int .i64 hy, .int .i64 ot, .slice ra rn rc, .bool kp] 83)).alloc (.cells #[.int .i32 r] 21)).cell? ⟨w.heap.size + 1, 0, none⟩ = some (.int .i32 r) := cell_second _ _ _ _ _
    refine (HSR.out _ (by go_grown) _ _ (cS 6) cR).mono ?_
    rintro e w1 ⟨q, rfl, hq, hq1, hq2, hb1⟩
    have d6 := hold hb1 (cS 6)
    have d5 := hold hb1 (cS 5)
    have dR := hold hb1 cR
    have HB : Box (Below w.heap.size w w1) := boxed (below_step (by go_grown) (Nat.le_refl _) hb1)
    have HQ1 := boxed hq1
    have HQ2 := boxed hq2
    clear hb1 cS cR HSR hq1 hq2
    simp at d6 d5
    by_cases hlt : q < rn
    · obtain ⟨-, b, off, e, -, c0, c1, c2⟩ := (HRG.out.below HB.out) q hlt
      subst e
      have HLO : Box ((R q).lo ≤ r → V = (R q).wd) := boxed (fun hl => by rw [HV.out]; exact rgw_at (fun j hj => hitR_hi (HQ1.out j hj)) hlt (hitR_in hl (HQ2.out q (Nat.le_refl _) hlt)))
      have HNO : Box (r < (R q).lo → V = ot) := boxed (fun hl => by
        rw [HV.out]
        refine rgw_none (fun j hj => ?_)
        by_cases c : j < q
        · exact hitR_hi (HQ1.out j c)
        · refine hitR_lo ?_
          by_cases d : j = q
          · subst d; exact hl
          · have := HRI.out.2 q j (by omega) hj
            have := HRI.out.1 q hlt
            omega)
      have t1 : decide ((q : Int) < (rn : Int)) = true := decide_eq_true (by omega)
      generalize (R q).lo = lo at *
      generalize (R q).wd = wd at *
      clear c1
      by_cases hl : lo ≤ r
      · have t2 : decide (lo ≤ r) = true := decide_eq_true hl
        have HV2 := boxed (HLO.out hl)
        clear hl HLO HNO
        go_wp2
        go_quiet (fail)
        go_wp2
        go_ret
        exact ⟨ret_int HV2.out.symm, HB.out.trans (bel_drewN _ _ _)⟩
      · have t2 : decide (lo ≤ r) = false := decide_eq_false hl
        have HV2 := boxed (HNO.out (by omega))
        clear hl HLO HNO
        go_wp2
        go_quiet (fail)
        go_wp2
        go_ret
        exact ⟨ret_int HV2.out.symm, HB.out.trans (bel_drewN _ _ _)⟩
    · have HV2 : Box (V = ot) := boxed (by rw [HV.out]; exact rgw_none (fun j hj => hitR_hi (HQ1.out j (by omega))))
      have t1 : decide ((q : Int) < (rn : Int)) = false := decide_eq_false (by omega)
      have t1' : decide (q < rn) = false := decide_eq_false hlt
      clear hlt
      go_wp2
      go_quiet (fail)
      go_wp2
      go_ret
      exact ⟨ret_int HV2.out.symm, HB.out.trans (bel_drewN _ _ _)⟩
  · subst e
    have HV := boxed (h3.out (by omega))
    clear h1 h2 h3
    go_enter Tryz.func171, Tryz.ntmps171
    go_wp2_with (go_at_call 78; refine (hkd _).mono ?_; rintro e w' ⟨rfl, hw'⟩; subst w')
    have cS : ∀ j, ((w.alloc (.cells #[.int .i64 h, .int .i64 sp, .int .i64 st, .int .i64 sh, .int .i64 hy, .int .i64 ot, .slice ra rn rc, .bool kp] 83)).alloc (.cells #[.int .i32 r] 21)).cell? ⟨w.heap.size, j, none⟩ = (#[.int .i64 h, .int .i64 sp, .int .i64 st, .int .i64 sh, .int .i64 hy, .int .i64 ot, .slice ra rn rc, .bool kp] : Array Value)[j]? := by
      intro j
      rw [((Below.refl _ _).alloc (Nat.le_refl _) _ : Below (w.alloc (.cells #[.int .i64 h, .int .i64 sp, .int .i64 st, .int .i64 sh, .int .i64 hy, .int .i64 ot, .slice ra rn rc, .bool kp] 83)).heap.size _ _).cell (p := ⟨w.heap.size, j, none⟩) (by simp)]
      exact cell_first _ _ _ _
    have cR : ((w.alloc (.cells #[.int .i64 h, .int .i64 sp, .int .i64 st, .int .i64 sh, .int .i64 hy, .int .i64 ot, .slice ra rn rc, .bool kp] 83)).alloc (.cells #[.int .i32 r] 21)).cell? ⟨w.heap.size + 1, 0, none⟩ = some (.int .i32 r) := cell_second _ _ _ _ _
    refine (HSR.out _ (by go_grown) _ _ (cS 6) cR).mono ?_
    rintro e w1 ⟨q, rfl, hq, hq1, hq2, hb1⟩
    have d6 := hold hb1 (cS 6)
    have d5 := hold hb1 (cS 5)
    have dR := hold hb1 cR
    have HB : Box (Below w.heap.size w w1) := boxed (below_step (by go_grown) (Nat.le_refl _) hb1)
    have HQ1 := boxed hq1
    have HQ2 := boxed hq2
    clear hb1 cS cR HSR hq1 hq2
    simp at d6 d5
    by_cases hlt : q < rn
    · obtain ⟨-, b, off, e, -, c0, c1, c2⟩ := (HRG.out.below HB.out) q hlt
      subst e
      have HLO : Box ((R q).lo ≤ r → V = (R q).wd) := boxed (fun hl => by rw [HV.out]; exact rgw_at (fun j hj => hitR_hi (HQ1.out j hj)) hlt (hitR_in hl (HQ2.out q (Nat.le_refl _) hlt)))
      have HNO : Box (r < (R q).lo → V = ot) := boxed (fun hl => by
        rw [HV.out]
        refine rgw_none (fun j hj => ?_)
        by_cases c : j < q
        · exact hitR_hi (HQ1.out j c)
        · refine hitR_lo ?_
          by_cases d : j = q
          · subst d; exact hl
          · have := HRI.out.2 q j (by omega) hj
            have := HRI.out.1 q hlt
            omega)
      have t1 : decide ((q : Int) < (rn : Int)) = true := decide_eq_true (by omega)
      generalize (R q).lo = lo at *
      generalize (R q).wd = wd at *
      clear c1
      by_cases hl : lo ≤ r
      · have t2 : decide (lo ≤ r) = true := decide_eq_true hl
        have HV2 := boxed (HLO.out hl)
        clear hl HLO HNO
        go_wp2
        go_quiet (fail)
        go_wp2
        go_ret
        exact ⟨ret_int HV2.out.symm, HB.out.trans (bel_drewN _ _ _)⟩
      · have t2 : decide (lo ≤ r) = false := decide_eq_false hl
        have HV2 := boxed (HNO.out (by omega))
        clear hl HLO HNO
        go_wp2
        go_quiet (fail)
        go_wp2
        go_ret
        exact ⟨ret_int HV2.out.symm, HB.out.trans (bel_drewN _ _ _)⟩
    · have HV2 : Box (V = ot) := boxed (by rw [HV.out]; exact rgw_none (fun j hj => hitR_hi (HQ1.out j (by omega))))
      have t1 : decide ((q : Int) < (rn : Int)) = false := decide_eq_false (by omega)
      have t1' : decide (q < rn) = false := decide_eq_false hlt
      clear hlt
      go_wp2
      go_quiet (fail)
      go_wp2
      go_ret
      exact ⟨ret_int HV2.out.symm, HB.out.trans (bel_drewN _ _ _)⟩
theorem flt_rise {s : Sty} (h : flt s = 0) : Rise s.R s.rn := by
  unfold flt at h
  split at h
  · split at h
    · omega
    · exact rise_of _ _ h
  · omega
theorem rise_ofS {G : Nat → Sty} {n : Nat} (hg : ∀ i, i < n → flt (G i) = 0) (a : Int) : Rise (ofS G n a).R (ofS G n a).rn := by
  unfold ofS
  split
  · rename_i c; exact flt_rise (hg _ (by omega))
  · exact ⟨fun j hj => absurd hj (by show ¬ j < 0; omega), fun j k _ hk => absurd hk (by show ¬ k < 0; omega)⟩
theorem flt_like {s g : Sty} (h : Like s g) : flt g = flt s := by
  unfold flt msr
  rw [h.h, h.sp, h.st, h.sh, h.hy, h.ot, h.rn, h.R]
set_option maxRecDepth 100000 in
theorem twidth_any {B : Nat} {w : World} {tb n : Nat} {G : Nat → Sty} (h : TabAt B w tb n G) (hg : ∀ i, i < n → flt (G i) = 0) (a r : Int) (hrr : -2147483648 ≤ r ∧ r ≤ 2147483647) :
    Calls Tryz.prog 136 #[.pointer (some ⟨tb, 0, none⟩), .int .i64 a, .int .i32 r] w fun e w' => e = .returned (.int .i64 (wdS (ofS G n a) r)) ∧ Below w.heap.size w w' := by
  have hl := look_any h a
  have hw := fun w' (hb : Below w.heap.size w w') => width_any (fun b => B ≤ b) (ofS G n a) r w' (h.of a).1 ((h.of a).2.below hb) (rise_ofS hg a) hrr
  simp only [Sty.val] at *
  clear h hg
  generalize wdS (ofS G n a) r = V at *
  generalize ofS G n a = s at *
  go_enter Tryz.func136, Tryz.ntmps136
  go_wp2_with fail
  refine hl.mono ?_
  rintro e w1 ⟨rfl, hb1⟩
  have HB1 := boxed hb1
  clear hb1 hl
  go_wp2_with fail
  refine (hw _ HB1.out).mono ?_
  rintro e w2 ⟨rfl, hb2⟩
  have HB2 := boxed (below_step HB1.out (Nat.le_refl _) hb2)
  clear hb2 hw
  go_wp2
  go_ret
  exact ⟨rfl, HB2.out⟩
end Go.Proofs.YtcjcdpfjnomehaaGreat.It

/-
  What the document's Many and three answer: so many of one style; lists one behind the other.
-/
namespace Go.Proofs.YtcjcdpfjnomehaaGreat.Ru
open Go.RowKit
set_option linter.unusedSimpArgs false
set_option linter.unusedVariables false
theorem info_int : (Tryz.prog.info? 3).map (fun i => (i.zero, i.size, i.bytes)) = some (some (.int .i64 0), 1, 8) := by kernel_rfl
def ints (s : List Int) : List Value := s.map (Value.int .i64)
theorem owns_ge {w : World} {B e size n : Nat} {v : Value} {xs : List Value} (h : w.ownsRow B e size v n xs) : ∀ r, v.ownBlock = some r → B ≤ r := fun r e => (h.lt r e).1
def IsI (w : World) (so : Option Addr) (s : List Int) : Prop := ∃ ad, so = some ad ∧ ∀ j u, (ints s)[j]? = some u → w.cell? (ad.add j) = some u
theorem IsI.below {w w' : World} {so : Option Addr} {s : List Int} (h : IsI w so s) (hb : Below w.heap.size w w') : IsI w' so s := by
  obtain ⟨ad, e, h⟩ := h
  exact ⟨ad, e, fun j u hj => hold hb (h j u hj)⟩
def bkA (b off cap k : Nat) : Addr := if cap = k then ⟨b, off, none⟩ else ⟨b, off + k, none⟩
theorem sl_front (b off N cap k : Nat) (h : k ≤ N) (hc : N ≤ cap) (wx : World) : (Instr.slice 33 (.slice (some ⟨b, off, none⟩) N cap) none (some (.int .i64 (k : Nat))) none).run Tryz.prog wx = .ok (.slice (some ⟨b, off, none⟩) k cap) wx := by
  have h2 : (0 : Int) ≤ (k : Int) := by omega
  simp [Instr.slice, Instr.sliceBounds, Instr.sliceBound, asIntOf, run_underlying Tryz.underlying33, go_sem, h2]
  intro h3
  omega
end Go.Proofs.YtcjcdpfjnomehaaGreat.Ru
