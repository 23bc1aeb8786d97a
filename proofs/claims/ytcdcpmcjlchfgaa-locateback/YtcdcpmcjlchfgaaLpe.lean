/-
  Rows of pairs and of threes as they lie in memory; what the document's Bytes, Last and Line answer.
-/
import Derived.Test.YtcdcpmcjlchfgaaLpb
namespace Go.Proofs.Ytcdcpmcjlchfgaa
open Go.RowKit
set_option linter.unusedSimpArgs false
set_option linter.unusedVariables false

/-- The cells of a row of threes. -/
def p3c (l : List (Nat × Nat × Nat)) : List Value := l.flatMap fun x => [.int .i64 (x.1 : Nat), .int .i64 (x.2.1 : Nat), .int .i64 (x.2.2 : Nat)]
theorem p3c_snoc (l : List (Nat × Nat × Nat)) (p k i : Nat) : p3c (l ++ [(p, k, i)]) = p3c l ++ [.int .i64 (p : Nat), .int .i64 (k : Nat), .int .i64 (i : Nat)] := by simp [p3c]
theorem p3c_len (l : List (Nat × Nat × Nat)) : (p3c l).length = l.length * 3 := by
  induction l with
  | nil => rfl
  | cons x l ih => simp only [p3c, List.flatMap_cons, List.length_append] at *; simp only [List.length_cons, List.length_nil]; omega
theorem p3c_get (l : List (Nat × Nat × Nat)) (i : Nat) (x : Nat × Nat × Nat) (h : l[i]? = some x) : (p3c l)[i * 3]? = some (.int .i64 (x.1 : Nat)) ∧ (p3c l)[i * 3 + 1]? = some (.int .i64 (x.2.1 : Nat)) ∧ (p3c l)[i * 3 + 2]? = some (.int .i64 (x.2.2 : Nat)) := by
  induction l generalizing i with
  | nil => simp at h
  | cons y l ih =>
    cases i with
    | zero => simp at h; subst h; simp [p3c]
    | succ i =>
      simp only [List.getElem?_cons_succ] at h
      have := ih i h
      rw [show (i + 1) * 3 = i * 3 + 1 + 1 + 1 by omega]
      simp only [p3c, List.flatMap_cons, List.cons_append, List.nil_append, List.getElem?_cons_succ] at *
      exact this
theorem info_three : (Try.prog.info? 29).map (fun i => (i.zero, i.size, i.bytes)) = some (some (.agg #[.int .i64 0, .int .i64 0, .int .i64 0]), 3, 24) := by kernel_rfl
/-- Bytes, each with its line. -/
def All (n : Nat) (P : Nat → Pgv) (l : List (Nat × Nat × Nat)) : Prop := ∀ a p k i, l[a]? = some (p, k, i) → InL n P a p k i
theorem All.add {n : Nat} {P : Nat → Pgv} {l : List (Nat × Nat × Nat)} (h : All n P l) {p k i : Nat} (hi : InL n P l.length p k i) : All n P (l ++ [(p, k, i)]) := by
  intro a p' k' i' e
  rw [List.getElem?_append] at e
  split at e
  · exact h a p' k' i' e
  · rename_i c
    have : a = l.length := by
      by_cases d : a - l.length = 0
      · omega
      · rw [List.getElem?_eq_none (by simp; omega)] at e; cases e
    subst this
    simp at e
    obtain ⟨rfl, rfl, rfl⟩ := e
    exact hi
set_option maxRecDepth 100000 in
set_option maxHeartbeats 8000000 in
theorem rbytes_any (S : Nat → Prop) (ao : Option Addr) (n cap : Nat) (P : Nat → Pgv) (w : World) (h : PgsR S w ao n P) (hn : n ≤ maxLen) (hz : psz P n ≤ 1000000) :
    Calls Try.prog 14 #[.slice ao n cap] w fun e w' => (∃ ro rc l, e = .returned (.slice ro (psz P n) rc) ∧ l.length = psz P n ∧ All n P l ∧ w'.ownsRow w.heap.size 29 3 (.slice ro (psz P n) rc) (psz P n) (p3c l)) ∧ Below w.heap.size w w' := by
  unfold maxLen at hn
  obtain ⟨i0, hi0, hz0, hz1, hz2⟩ := info_parts info_three
  have H := boxed h
  have HZ := boxed (fun i (hi : i ≤ n) => Nat.le_trans (psz_mono P i n hi) hz)
  clear h hz
  go_enter Try.func14, Try.ntmps14
  go_wp2_with fail
  go_loopw [3, 4] (fun ov pv wr => ∃ (p : Nat) (l : List (Nat × Nat × Nat)), p ≤ n ∧ pv = .int .i64 (p : Nat) ∧ Box (l.length = psz P p ∧ All n P l) ∧ Box (wr.ownsRow w.heap.size 29 3 ov (psz P p) (p3c l)) ∧ Box (Below w.heap.size w wr)) (fun _ pv _ => n - (intOf pv).toNat)
  case atStart => exact ⟨0, [], Nat.zero_le _, rfl, boxed ⟨rfl, fun a p k i e => by simp at e⟩, boxed (World.ownsRow_nil _ _ _ _), boxed (Below.refl _ _)⟩
  case round =>
    obtain ⟨p, l, hp, rfl, HL, HO, HB⟩ := hrel
    by_cases hlt : p < n
    · have t0 : decide ((p : Int) < (n : Int)) = true := decide_eq_true (by omega)
      have hlt2 : (p : Int) < (n : Int) := by omega
      have hzp := HZ.out (p + 1) hlt
      have HN : Box (∀ k i, k < (P p).ln → i < ((P p).F k).tx.size → InL n P (psz P p + lsz (P p).F k + i) p k i) := boxed (fun k i h1 h2 => ⟨hlt, h1, h2, rfl⟩)
      have HE : Box (psz P (p + 1) = psz P p + lsz (P p).F (P p).ln) := boxed rfl
      rw [HE.out] at hzp
      have HLn : Box (∀ k, k ≤ (P p).ln → lsz (P p).F k ≤ lsz (P p).F (P p).ln) := boxed (fun k hk => lsz_mono _ _ _ hk)
      have hml := ((H.out.below HB.out) p hlt).1.ln
      simp only [maxLen] at hml
      have HP : Box (∀ W, Below w.heap.size w W → ∃ b off, ao = some ⟨b, off, none⟩ ∧ W.cell? ⟨b, off + p, none⟩ = some (.slice (P p).la (P p).ln (P p).lc) ∧ LnsAt S W (P p).la (P p).ln (P p).F) := boxed (fun W hb => by
        obtain ⟨-, h2, b, off, e, -, c⟩ := (H.out.below hb) p hlt
        exact ⟨b, off, e, c, h2⟩)
      obtain ⟨X, hX⟩ : ∃ X, P p = X := ⟨_, rfl⟩
      rw [hX] at HN HE HLn hml HP hzp
      clear hX
      obtain ⟨la, ln, lc, F⟩ := X
      simp only at *
      obtain ⟨Z, hZ⟩ : ∃ Z, psz P p = Z := ⟨_, rfl⟩
      rw [hZ] at HL HO HE HN hzp
      clear hZ
      obtain ⟨wo, rfl⟩ : ∃ wo, wo = wr := ⟨_, rfl⟩
      go_wp2_with fail
      clear t0
      go_loopw [3, 5] (fun ov kv wr => ∃ (k : Nat) (l : List (Nat × Nat × Nat)), k ≤ ln ∧ kv = .int .i64 (k : Nat) ∧ Box (l.length = Z + lsz F k ∧ All n P l) ∧ Box (wr.ownsRow w.heap.size 29 3 ov (Z + lsz F k) (p3c l)) ∧ Box (Below w.heap.size w wr)) (fun _ kv _ => ln - (intOf kv).toNat)
      case atStart => exact ⟨0, l, Nat.zero_le _, rfl, HL, HO, HB⟩
      case round =>
        obtain ⟨k, l, hk, rfl, HL, HO, HB⟩ := hrel
        obtain ⟨bp, op, hao, cp, HLS⟩ := HP.out _ HB.out
        subst hao
        replace HLS := boxed HLS
        by_cases hkl : k < ln
        · have tk : decide ((k : Int) < (ln : Int)) = true := decide_eq_true (by omega)
          have hkl2 : (k : Int) < (ln : Int) := by omega
          have hzk := HLn.out k hk
          have hzk2 := HLn.out (k + 1) hkl
          have HEk : Box (lsz F (k + 1) = lsz F k + (F k).tx.size) := boxed rfl
          rw [HEk.out] at hzk2
          have HNk := boxed (fun i => HN.out k i hkl)
          have HC : Box (∀ W, Below w.heap.size w W → ∃ b off b' off', some (Addr.mk bp op none) = some ⟨b, off, none⟩ ∧ la = some ⟨b', off', none⟩ ∧ W.cell? ⟨b, off + p, none⟩ = some (.slice la ln lc) ∧ W.cell? ⟨b', off' + k * 9, none⟩ = some (.string (F k).tx)) := boxed (fun W hb => by
            obtain ⟨b, off, e, c, hls⟩ := HP.out W hb
            obtain ⟨b', off', e', -⟩ := hls.form (by omega)
            subst e'
            exact ⟨b, off, b', off', e, rfl, c, (hls.get k hkl).2.1⟩)
          obtain ⟨tx, htx⟩ : ∃ tx, (F k).tx = tx := ⟨_, rfl⟩
          rw [htx] at HC HNk HEk hzk2
          clear htx
          obtain ⟨sz, hsz⟩ : ∃ sz, tx.size = sz := ⟨_, rfl⟩
          have HSZ := boxed hsz
          rw [hsz] at HNk HEk hzk2
          obtain ⟨y, hy⟩ : ∃ y, Z + lsz F k = y := ⟨_, rfl⟩
          rw [hy] at HL HO
          have HY := boxed hy
          have hyb : y + sz ≤ 1000000 := by omega
          have HNk2 : Box (∀ i, i < sz → InL n P (y + i) p k i) := boxed (fun i hi => by rw [← hy]; exact HNk.out i hi)
          clear hsz HNk cp HLS hy
          obtain ⟨wp, rfl⟩ : ∃ wp, wp = wr := ⟨_, rfl⟩
          obtain ⟨b, off, b', off', e1, e2, cp, -⟩ := HC.out _ HB.out
          injection e1 with e1
          injection e1 with e1 e1'
          subst e1; subst e1'; subst e2
          go_wp2_with fail
          clear cp
          go_loopw [3, 6] (fun ov iv wr => ∃ (i : Nat) (l : List (Nat × Nat × Nat)), i ≤ sz ∧ iv = .int .i64 (i : Nat) ∧ Box (l.length = y + i ∧ All n P l) ∧ Box (wr.ownsRow w.heap.size 29 3 ov (y + i) (p3c l)) ∧ Box (Below w.heap.size w wr)) (fun _ iv _ => sz - (intOf iv).toNat)
          case atStart => exact ⟨0, l, Nat.zero_le _, rfl, HL, HO, HB⟩
          case round =>
            obtain ⟨i, l, hi, rfl, HL, HO, HB⟩ := hrel
            obtain ⟨b, off, b2, off2, e1, e2, cp, cl⟩ := HC.out _ HB.out
            injection e1 with e1
            injection e1 with e1 e1'
            subst e1; subst e1'
            injection e2 with e2
            injection e2 with e2 e2'
            subst e2; subst e2'
            have hlen := HSZ.out
            by_cases hil : i < sz
            · have ti : decide ((i : Int) < (sz : Int)) = true := decide_eq_true (by omega)
              have HN2 : Box (InL n P (y + i) p k i) := boxed (HNk2.out i hil)
              have hown := HO.out
              have hsz := HB.out.size
              obtain ⟨ro, rc, hro⟩ := own_shape hown
              subst hro
              have HSn := boxed (p3c_snoc l p k i)
              have hBl : Below w.heap.size w wr := HB.out
              go_wp2_with (at_builtin; refine wpList_append_own _ rfl _ _ 33 rfl w.heap.size 29 i0 _ 3 24 Try.underlying33 hi0 hz0 hz1 hz2 rfl (by decide) _ _ _ rfl (hown.alloc _) ⟨wr.heap.size, 0, none⟩ 1 1 [.int .i64 (p : Int), .int .i64 (k : Int), .int .i64 (i : Int)] rfl rfl ?c1 ?c2 ?c3 ?c4 ?c5 ?_)
              case c2 => exact ⟨rfl, rfl, rfl⟩
              case c3 => unfold maxLen; omega
              case c4 => omega
              case c5 => omega
              intro v' w2 hown2 hgrow2 _
              have HB2 : Box (Below w.heap.size w w2) := boxed ((hBl.alloc (by omega) _).grown hgrow2 (by simp; omega) (fun k hk => (hown.lt k hk).1))
              have HO2 : Box (w2.ownsRow w.heap.size 29 3 v' (y + (i + 1)) (p3c (l ++ [(p, k, i)]))) := boxed (by rw [HSn.out]; simpa [Nat.add_assoc] using hown2)
              have HL2 : Box ((l ++ [(p, k, i)]).length = y + (i + 1) ∧ All n P (l ++ [(p, k, i)])) := boxed ⟨by rw [List.length_append, HL.out.1]; simp; omega, HL.out.2.add (by rw [HL.out.1]; exact HN2.out)⟩
              clear hown hown2 hgrow2 hBl cp cl
              go_wp2_with fail
              go_roundw
              case rel => exact ⟨i + 1, _, by omega, by go_num, HL2, HO2, HB2⟩
              case measure => simp [intOf] <;> omega
            · obtain rfl : i = sz := by omega
              have ti : decide ((i : Int) < (i : Int)) = false := decide_eq_false (by omega)
              have HOk : Box (∀ ov, wr.ownsRow w.heap.size 29 3 ov (y + i) (p3c l) → wr.ownsRow w.heap.size 29 3 ov (Z + lsz F (k + 1)) (p3c l)) := boxed (fun ov ho => by rw [HEk.out, ← Nat.add_assoc, HY.out]; exact ho)
              have HLk : Box (l.length = Z + lsz F (k + 1) ∧ All n P l) := boxed ⟨by rw [HEk.out, ← Nat.add_assoc, HY.out]; exact HL.out.1, HL.out.2⟩
              go_wp2_with fail
              go_roundw
              case rel => exact ⟨k + 1, l, by omega, by go_num, HLk, boxed (HOk.out _ HO.out), HB⟩
              case measure => simp [intOf] <;> omega
        · obtain rfl : k = ln := by omega
          have tk : decide ((k : Int) < (k : Int)) = false := decide_eq_false (by omega)
          have HOk : Box (∀ ov, wr.ownsRow w.heap.size 29 3 ov (Z + lsz F k) (p3c l) → wr.ownsRow w.heap.size 29 3 ov (psz P (p + 1)) (p3c l)) := boxed (fun ov ho => by rw [HE.out]; exact ho)
          have HLk : Box (l.length = psz P (p + 1) ∧ All n P l) := boxed ⟨by rw [HE.out]; exact HL.out.1, HL.out.2⟩
          go_wp2_with fail
          go_roundw
          case rel => exact ⟨p + 1, l, by omega, by go_num, HLk, boxed (HOk.out _ HO.out), HB⟩
          case measure => simp [intOf] <;> omega
    · obtain rfl : p = n := by omega
      have t0 : decide ((p : Int) < (p : Int)) = false := decide_eq_false (by omega)
      obtain ⟨ro, rc, hro⟩ := own_shape HO.out
      subst hro
      go_wp2_with fail
      go_ret
      exact ⟨⟨ro, rc, l, rfl, HL.out.1, HL.out.2, HO.out⟩, HB.out⟩
end Go.Proofs.Ytcdcpmcjlchfgaa
