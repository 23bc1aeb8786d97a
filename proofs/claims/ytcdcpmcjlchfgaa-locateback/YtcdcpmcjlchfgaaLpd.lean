/-
  What the program's Line answers.
-/
import Derived.Test.YtcdcpmcjlchfgaaLpb
namespace Go.Proofs.Ytcdcpmcjlchfgaa
open Go.RowKit
set_option linter.unusedSimpArgs false
set_option linter.unusedVariables false

/-- The last line of the first pages, and of so many lines of the next: page, line, and whether there is one. -/
def Gone (P : Nat → Pgv) (p k : Nat) (a b : Nat) (s : Bool) : Prop := (s = false ∧ a = 0 ∧ b = 0 ∧ k = 0 ∧ ∀ q, q < p → (P q).ln = 0) ∨ (s = true ∧ ((a = p ∧ b + 1 = k) ∨ (k = 0 ∧ a < p ∧ b + 1 = (P a).ln ∧ ∀ q, a < q → q < p → (P q).ln = 0)))
theorem gone_zero (P : Nat → Pgv) : Gone P 0 0 0 0 false := Or.inl ⟨rfl, rfl, rfl, rfl, fun q h => by omega⟩
theorem gone_line (P : Nat → Pgv) (p k : Nat) : Gone P p (k + 1) p k true := Or.inr ⟨rfl, Or.inl ⟨rfl, rfl⟩⟩
theorem Gone.page {P : Nat → Pgv} {p a b : Nat} {s : Bool} (h : Gone P p (P p).ln a b s) : Gone P (p + 1) 0 a b s := by
  rcases h with ⟨h1, h2, h3, h4, h5⟩ | ⟨h1, ⟨h2, h3⟩ | ⟨h2, h3, h4, h5⟩⟩
  · exact Or.inl ⟨h1, h2, h3, rfl, fun q hq => by
      by_cases c : q = p
      · subst c; exact h4
      · exact h5 q (by omega)⟩
  · exact Or.inr ⟨h1, Or.inr ⟨rfl, by omega, by subst h2; exact h3, fun q g1 g2 => by omega⟩⟩
  · exact Or.inr ⟨h1, Or.inr ⟨rfl, by omega, h4, fun q g1 g2 => by
      by_cases c : q = p
      · subst c; exact h2
      · exact h5 q g1 (by omega)⟩⟩
theorem Gone.none {P : Nat → Pgv} {n a b : Nat} {s : Bool} (h : Gone P n 0 a b s) (hs : s = false) : ∀ p, p < n → (P p).ln = 0 := by
  rcases h with ⟨-, -, -, -, h⟩ | ⟨h, -⟩
  · exact h
  · rw [hs] at h; cases h
theorem Gone.last {P : Nat → Pgv} {n a b : Nat} {s : Bool} (h : Gone P n 0 a b s) (hs : s = true) : LstL n P a b := by
  rcases h with ⟨h, -⟩ | ⟨-, ⟨h2, h3⟩ | ⟨h2, h3, h4, h5⟩⟩
  · rw [hs] at h; cases h
  · omega
  · exact ⟨h3, h4, h5⟩
theorem results_tmp4 {fn : Func} {t u v x : Tmp} (h : fn.results = #[.tmp t, .tmp u, .tmp v, .tmp x]) (tmps : Array Value) (P : Program) (w : World) :
    (results fn tmps).run P w = .ok (.tuple #[tmps.getD t undef, tmps.getD u undef, tmps.getD v undef, tmps.getD x undef]) w := by
  simp [results, h]
set_option maxRecDepth 100000 in
set_option maxHeartbeats 8000000 in
theorem line_any (S : Nat → Prop) (ao : Option Addr) (n cap : Nat) (P : Nat → Pgv) (at' : Int) (w : World) (h : PgsR S w ao n P) (hn : n ≤ maxLen) (ha : I64 at') :
    Calls Try.prog 11 #[.slice ao n cap, .int .i64 at'] w fun e w' => (∃ r, e = .returned (lnT r) ∧ LnR n P at' r) ∧ Below w.heap.size w w' := by
  unfold maxLen at hn
  unfold I64 at ha
  have H := boxed h
  clear h
  by_cases hneg : at' < 0
  · have t0 : decide (at' < 0) = true := decide_eq_true hneg
    go_enter Try.func11, Try.ntmps11
    go_wp2_with fail
    (try simp only [Exit.inBlock, Exit.then]); refine bodyPost_ret (results_tmp4 rfl _ _ _) rfl ?_
    exact ⟨⟨none, rfl, Or.inl hneg⟩, Below.refl _ _⟩
  have t0 : decide (at' < 0) = false := decide_eq_false hneg
  go_enter Try.func11, Try.ntmps11
  go_wp2_with fail
  clear t0
  go_loopw [1, 8, 9, 10, 19] (fun av pv lv sv iv wr => ∃ (i a b : Nat) (s : Bool) (z : Int), i ≤ n ∧ iv = .int .i64 (i : Nat) ∧ av = .int .i64 z ∧ pv = .int .i64 (a : Nat) ∧ lv = .int .i64 (b : Nat) ∧ sv = .bool s ∧ (0 ≤ z ∧ z ≤ at') ∧ Box (z = at' - (psz P i : Int)) ∧ Box (Gone P i 0 a b s) ∧ Box (Below w.heap.size w wr)) (fun _ _ _ _ iv _ => n - (intOf iv).toNat)
  case atStart => exact ⟨0, 0, 0, false, at', Nat.zero_le _, rfl, rfl, rfl, rfl, rfl, by omega, boxed (by simp [psz]), boxed (gone_zero P), boxed (Below.refl _ _)⟩
  case round =>
    obtain ⟨i, a, b, s, z, hi, rfl, rfl, rfl, rfl, rfl, hz, HZ, HG, HB⟩ := hrel
    by_cases hlt : i < n
    · obtain ⟨hok, hls, bp, op, rfl, -, c0⟩ := (H.out.below HB.out) i hlt
      have t0 : decide ((i : Int) < (n : Int)) = true := decide_eq_true (by omega)
      have hlt2 : (i : Int) < (n : Int) := by omega
      have hml := hok.ln
      simp only [maxLen] at hml
      have HLS : Box (LnsAt S wr (P i).la (P i).ln (P i).F) := boxed hls
      have HP1 : Box (Gone P i (P i).ln a b s → Gone P (i + 1) 0 a b s) := boxed Gone.page
      have HP2 : Box (∀ a b s, Gone P i (P i).ln a b s → Gone P (i + 1) 0 a b s) := boxed (fun a b s => Gone.page)
      have HP3 : Box (psz P (i + 1) = psz P i + lsz (P i).F (P i).ln) := boxed rfl
      have HIN : Box (∀ k, k < (P i).ln → ∀ j : Nat, j < ((P i).F k).tx.size → at' = ((psz P i + lsz (P i).F k + j : Nat) : Int) → LnR n P at' (some (i, k, j))) := boxed (fun k hk j hj e => by rw [e]; exact lnr_in ⟨hlt, hk, hj, rfl⟩)
      clear hls hok HP1
      obtain ⟨X, hX⟩ : ∃ X, P i = X := ⟨_, rfl⟩
      rw [hX] at c0 hml HLS HP2 HP3 HIN
      clear hX
      obtain ⟨la, ln, lc, F⟩ := X
      simp only at *
      have HB2 : Box (∀ W, Below wr.heap.size wr W → Below w.heap.size w W) := boxed (fun W hb => below_step HB.out (Nat.le_refl _) hb)
      have hBa : Below wr.heap.size wr (wr.alloc (.cells #[.slice la ln lc] 62)) := (Below.refl _ _).alloc (Nat.le_refl _) _
      go_wp2_with fail
      clear t0
      obtain ⟨wo, rfl⟩ : ∃ wo, wo = wr := ⟨_, rfl⟩
      go_loopw [1, 8, 9, 10, 27] (fun av pv lv sv kv wq => ∃ (k a b : Nat) (s : Bool) (z : Int), k ≤ ln ∧ kv = .int .i64 (k : Nat) ∧ av = .int .i64 z ∧ pv = .int .i64 (a : Nat) ∧ lv = .int .i64 (b : Nat) ∧ sv = .bool s ∧ (0 ≤ z ∧ z ≤ at') ∧ Box (z = at' - ((psz P i + lsz F k : Nat) : Int)) ∧ Box (Gone P i k a b s) ∧ Box (Below wo.heap.size wo wq)) (fun _ _ _ _ kv _ => ln - (intOf kv).toNat)
      case atStart => exact ⟨0, a, b, s, z, Nat.zero_le _, rfl, rfl, rfl, rfl, rfl, hz, boxed (by rw [HZ.out]; simp [lsz]), HG, boxed hBa⟩
      case round =>
        obtain ⟨k, a, b, s, z, hk, rfl, rfl, rfl, rfl, rfl, hz, HZ, HG, HBq⟩ := hrel
        by_cases hkl : k < ln
        · obtain ⟨bl, ol, rfl, hbw⟩ := (HLS.out.below HBq.out).form (by omega)
          obtain ⟨-, c0, c1, c2, c3, c4, c5, c6, c7, c8⟩ := (HLS.out.below HBq.out).get k hkl
          have tk : decide ((k : Int) < (ln : Int)) = true := decide_eq_true (by omega)
          have hkl2 : (k : Int) < (ln : Int) := by omega
          have HIk := boxed (HIN.out k hkl)
          have HE : Box (lsz F (k + 1) = lsz F k + (F k).tx.size) := boxed rfl
          generalize F k = x at *
          obtain ⟨tx, ra, rn, rc, nu, de, h, hy, y, bg, en, L, Y⟩ := x
          simp only at *
          obtain ⟨sz, hsz⟩ : ∃ sz, tx.size = sz := ⟨_, rfl⟩
          rw [hsz] at HIk HE
          have HBn : Box (∀ o, Below wo.heap.size wo (wr.alloc o)) := boxed (fun o => HBq.out.alloc HBq.out.size _)
          by_cases cz : z < (sz : Int)
          · have tz : decide (z < (sz : Int)) = true := decide_eq_true cz
            have HR : Box (LnR n P at' (some (i, k, z.toNat))) := boxed (HIk.out _ (by omega) (by have := HZ.out; omega))
            have hzn : ((z.toNat : Nat) : Int) = z := by omega
            have HZN := boxed hzn
            clear hzn cz HIk HE
            go_wp2_with fail
            (try simp only [Exit.inBlock, Exit.then]); refine bodyPost_ret (results_tmp4 rfl _ _ _) rfl ?_
            exact ⟨⟨_, by rw [← HZN.out]; rfl, HR.out⟩, HB2.out _ (HBn.out _)⟩
          · have tz : decide (z < (sz : Int)) = false := decide_eq_false cz
            have hzs : (sz : Int) ≤ z := by omega
            have HZ2 : Box (z - (sz : Int) = at' - ((psz P i + lsz F (k + 1) : Nat) : Int)) := boxed (by rw [HE.out]; have := HZ.out; omega)
            clear cz HIk HE HZ
            go_wp2_with fail
            go_roundw
            case rel => exact ⟨k + 1, i, k, true, z - (sz : Int), by omega, by go_num, (by first | rfl | go_num), rfl, rfl, rfl, by omega, HZ2, boxed (gone_line P i k), boxed (HBn.out _)⟩
            case measure => simp [intOf] <;> omega
        · obtain rfl : k = ln := by omega
          have tk : decide ((k : Int) < (k : Int)) = false := decide_eq_false (by omega)
          have HZ2 : Box (z = at' - (psz P (i + 1) : Int)) := boxed (by rw [HP3.out]; exact HZ.out)
          have HG2 := boxed (HP2.out _ _ _ HG.out)
          go_wp2_with fail
          go_roundw
          case rel => exact ⟨i + 1, a, b, s, z, by omega, by go_num, rfl, rfl, rfl, rfl, hz, HZ2, HG2, boxed (HB2.out _ HBq.out)⟩
          case measure => simp [intOf] <;> omega
    · obtain rfl : i = n := by omega
      have t0 : decide ((i : Int) < (i : Int)) = false := decide_eq_false (by omega)
      by_cases cz : 0 < z
      · have tz : decide (0 < z) = true := decide_eq_true cz
        have HR : Box (LnR i P at' none) := boxed (Or.inr (Or.inl (by have := HZ.out; omega)))
        clear cz
        go_wp2_with fail
        (try simp only [Exit.inBlock, Exit.then]); refine bodyPost_ret (results_tmp4 rfl _ _ _) rfl ?_
        exact ⟨⟨none, rfl, HR.out⟩, HB.out⟩
      · obtain rfl : z = 0 := by omega
        have haz : at' = (psz P i : Int) := by have := HZ.out; omega
        have HAZ := boxed haz
        clear haz cz
        cases s with
        | false =>
          have HR : Box (LnR i P at' none) := boxed (Or.inr (Or.inr ⟨HAZ.out, HG.out.none rfl⟩))
          go_wp2_with fail
          (try simp only [Exit.inBlock, Exit.then]); refine bodyPost_ret (results_tmp4 rfl _ _ _) rfl ?_
          exact ⟨⟨none, rfl, HR.out⟩, HB.out⟩
        | true =>
          have hl := HG.out.last rfl
          have HR : Box (LnR i P at' (some (a, b, ((P a).F b).tx.size))) := boxed (Or.inr ⟨HAZ.out, hl, rfl⟩)
          obtain ⟨hok, hls, bp, op, rfl, -, c0⟩ := (H.out.below HB.out) a hl.1
          have hbl : b < (P a).ln := by have := hl.2.1; omega
          obtain ⟨bl, ol, hla, hbw⟩ := hls.form (by omega)
          rw [hla] at hls c0
          obtain ⟨-, c1, -⟩ := hls.get b hbl
          have h1 : (a : Int) < (i : Int) := by have := hl.1; omega
          have h1' : a < i := hl.1
          have h2 : (b : Int) < ((P a).ln : Int) := by omega
          clear hls hok hl hla hbw
          generalize P a = X at *
          obtain ⟨la, ln, lc, F⟩ := X
          simp only at *
          generalize (F b).tx = tx at *
          go_wp2_with fail
          go_quiet (fail)
          go_wp2_with fail
          (try simp only [Exit.inBlock, Exit.then]); refine bodyPost_ret (results_tmp4 rfl _ _ _) rfl ?_
          exact ⟨⟨_, rfl, HR.out⟩, HB.out.trans (bel_drewN _ _ _)⟩
end Go.Proofs.Ytcdcpmcjlchfgaa
