/-
  What the law's played and right answer: a text with edits is the document's.
-/
import Derived.Test.YtfikmlgmklnlaaaWt
namespace Go.Proofs.Ytfikmlgmklnlaaa
open Go.RowKit
set_option linter.unusedSimpArgs false
set_option linter.unusedVariables false

def OprOk (o : Opr) : Prop := (-9223372036854775808 ≤ o.a ∧ o.a ≤ 9223372036854775807) ∧ (-9223372036854775808 ≤ o.b ∧ o.b ≤ 9223372036854775807) ∧ o.m.size ≤ 1048576
/-- Edits as they lie in memory. -/
def OpsAt (w : World) (ao : Option Addr) (n : Nat) (O : Nat → Opr) : Prop := ∀ i, i < n → OprOk (O i) ∧ ∃ b off, ao = some ⟨b, off, none⟩ ∧
    w.cell? ⟨b, off + i * 4, none⟩ = some (.bool (O i).out) ∧ w.cell? ⟨b, off + i * 4 + 1, none⟩ = some (.int .i64 (O i).a) ∧ w.cell? ⟨b, off + i * 4 + 2, none⟩ = some (.int .i64 (O i).b) ∧ w.cell? ⟨b, off + i * 4 + 3, none⟩ = some (.string (O i).m)
theorem OpsAt.below {w w' : World} {ao : Option Addr} {n : Nat} {O : Nat → Opr} (h : OpsAt w ao n O) (hb : Below w.heap.size w w') : OpsAt w' ao n O := by
  intro i hi
  obtain ⟨h1, b, off, e, c0, c1, c2, c3⟩ := h i hi
  exact ⟨h1, b, off, e, hold hb c0, hold hb c1, hold hb c2, hold hb c3⟩

/-- A text that lives, made since w, with the document's bytes, behind k edits. -/
def Live (w w' : World) (tb : Nat) (r : ByteArray) (k : Nat) : Prop :=
  ∃ S x A T, TextAt S w' tb x A T ∧ adl A ≤ 262144 ∧ T.flat = bl r ∧ (T.pcs.length ≤ 2 * k + 1 ∧ Avl T) ∧ w.heap.size ≤ tb ∧ AdGe w.heap.size A ∧ Below w.heap.size w w'
theorem Live.size {w w' : World} {tb : Nat} {r : ByteArray} {k : Nat} (h : Live w w' tb r k) : r.size ≤ 65536 := by
  obtain ⟨S, x, A, T, h1, h2, h3, _⟩ := h
  have := h1.len
  rw [h3, bl_len] at this
  exact this
theorem Live.below {w w' w2 : World} {tb : Nat} {r : ByteArray} {k : Nat} (h : Live w w' tb r k) (hb : Below w'.heap.size w' w2) : Live w w2 tb r k := by
  obtain ⟨S, x, A, T, h1, h2, h3, h4, h5, h6, h7⟩ := h
  exact ⟨S, x, A, T, h1.below hb, h2, h3, h4, h5, h6, h7.trans (hb.mono h7.size)⟩
theorem Live.frame {w w' : World} {tb : Nat} {r : ByteArray} {k : Nat} (h : Live w w' tb r k) : Below w.heap.size w w' := by
  obtain ⟨S, x, A, T, h1, h2, h3, h4, h5, h6, h7⟩ := h
  exact h7

theorem live_edit {w w' : World} {tb : Nat} {s : ByteArray} {k : Nat} (h : Live w w' tb s k) (o : Opr) (ho : OprOk o) :
    Calls Try.prog 29 #[.pointer (some ⟨tb, 0, none⟩), .string s, .agg #[.bool o.out, .int .i64 o.a, .int .i64 o.b, .string o.m]] w' fun e w2 => ∃ r, e = .returned (.tuple #[.string r, .bool true]) ∧ bl r = stp (bl s) o ∧ Live w w2 tb r (k + 1) := by
  obtain ⟨S, x, A, T, h1, h2, h3, h4, h5, h6, h7⟩ := h
  refine (edit_any h1 h2 s h3 o.out o.a o.b o.m ho.1 ho.2.1 ho.2.2).mono ?_
  rintro e w2 ⟨r, rfl, hr, x', A', S', T', k1, k2, k3, k4, k5, k6, _⟩
  exact ⟨r, rfl, hr, S', x', A', T', k1, k5, k2, ⟨by have := k3.1; omega, k3.2 h4.2⟩, h5, k6 _ h6 h7.size, h7.trans (k4.below h5 h6 h7.size)⟩

set_option maxRecDepth 100000 in
set_option maxHeartbeats 2000000 in
theorem played_any (s : ByteArray) (ao : Option Addr) (n cap : Nat) (O : Nat → Opr) (w : World) (hO : OpsAt w ao n O) (N : Nat) (hN : Cnt s N) (h1 : s.size ≤ 65536) (h2 : badAt s N < 0) (hn : n ≤ 1048576) :
    Calls Try.prog 11 #[.string s, .slice ao n cap] w fun e w' => ∃ tb r, e = .returned (.tuple #[.pointer (some ⟨tb, 0, none⟩), .string r, .int .i64 (min n 60 : Nat)]) ∧ bl r = ply (bl s) O (min n 60) ∧ Live w w' tb r (min n 60) := by
  have hnew := new_ok s w N hN h1 h2
  have HO := boxed hO
  clear hO hN h2
  go_enter Try.func11, Try.ntmps11
  go_wp2_with fail
  refine hnew.mono ?_
  rintro e w1 ⟨tb, x, T, rfl, k1, k2, k3, k4, k5⟩
  have HL : Box (Live w w1 tb s 0) := boxed ⟨_, x, none, T, k2, by simp [adl], k3, ⟨by omega, k4.2⟩, k1, trivial, k5⟩
  clear k1 k2 k3 k4 k5 hnew
  go_wp2_with fail
  go_loopw [0, 9, 10] (fun sv nv iv wr => ∃ (k : Nat) (r : ByteArray), k ≤ n ∧ k ≤ 60 ∧ sv = .string r ∧ nv = .int .i64 (k : Nat) ∧ iv = .int .i64 (k : Nat) ∧ Box (bl r = ply (bl s) O k) ∧ Box (Live w wr tb r k)) (fun _ _ iv _ => 60 - (intOf iv).toNat)
  case atStart => exact ⟨0, s, Nat.zero_le _, by omega, rfl, rfl, rfl, boxed rfl, HL⟩
  case round =>
    obtain ⟨k, r, hk1, hk2, rfl, rfl, rfl, HP, HLr⟩ := hrel
    clear HL
    by_cases hlt : k < n
    · by_cases hlt2 : k < 60
      · have hed := live_edit HLr.out (O k) (HO.out k hlt).1
        obtain ⟨-, b, off, rfl, c0, c1, c2, c3⟩ := (HO.out.below HLr.out.frame) k hlt
        have t1 : decide ((k : Int) < (n : Int)) = true := decide_eq_true (by omega)
        have t2 : decide ((k : Int) < 60) = true := decide_eq_true (by omega)
        have HS : Box (ply (bl s) O (k + 1) = stp (bl r) (O k)) := boxed (by rw [HP.out]; rfl)
        clear HLr HP
        generalize O k = o at *
        go_wp2_with fail
        refine hed.mono ?_
        rintro e w2 ⟨r', rfl, hr', hl'⟩
        have HP' : Box (bl r' = ply (bl s) O (k + 1)) := boxed (by rw [hr', HS.out])
        have HL' := boxed hl'
        clear hr' hl' hed c0 c1 c2 c3 HS
        go_wp2
        go_roundw
        case rel => exact ⟨k + 1, r', by omega, by omega, rfl, by go_num, by go_num, HP', HL'⟩
        case measure => simp [intOf]; omega
      · have hk : k = 60 := by omega
        subst hk
        have hmin : Box (min n 60 = 60) := boxed (by omega)
        have t1 : decide ((60 : Int) < (n : Int)) = true := decide_eq_true (by omega)
        go_wp2
        refine bodyPost_ret (v := .tuple #[.pointer (some ⟨tb, 0, none⟩), .string r, .int .i64 60]) (by simp [results, Try.results11, go_sem]) rfl ⟨tb, r, by first | (rw [hmin.out]; done) | (rw [hmin.out]; rfl), by rw [hmin.out]; exact HP.out, by rw [hmin.out]; exact HLr.out⟩
    · have hk : k = n := by omega
      subst hk
      have hmin : Box (min k 60 = k) := boxed (by omega)
      have t1 : decide ((k : Int) < (k : Int)) = false := decide_eq_false (by omega)
      go_wp2
      refine bodyPost_ret (v := .tuple #[.pointer (some ⟨tb, 0, none⟩), .string r, .int .i64 k]) (by simp [results, Try.results11, go_sem]) rfl ⟨tb, r, by first | (rw [hmin.out]; done) | (rw [hmin.out]; rfl), by rw [hmin.out]; exact HP.out, by rw [hmin.out]; exact HLr.out⟩

set_option maxRecDepth 100000 in
theorem right_any (s : ByteArray) (w : World) (N : Nat) (hN : Cnt s N) (hs : s.size ≤ 1048576) :
    Calls Try.prog 10 #[.string s] w fun e w' => e = .returned (.bool (decide (s.size ≤ 4096 ∧ badAt s N < 0))) ∧ Below w.heap.size w w' := by
  by_cases h1 : s.size ≤ 4096
  · have hri := refright_any s w hs N hN
    have t1 : decide ((s.size : Int) ≤ 4096) = true := decide_eq_true (by omega)
    have t1' : decide (s.size ≤ 4096) = true := decide_eq_true h1
    have he : Box (decide (s.size ≤ 4096 ∧ badAt s N < 0) = decide (badAt s N < 0)) := boxed (by simp [h1])
    generalize decide (badAt s N < 0) = B at *
    clear hN h1
    go_enter Try.func10, Try.ntmps10
    go_wp2_with fail
    refine hri.mono ?_
    rintro e w1 ⟨rfl, hb1⟩
    have HB := boxed hb1
    clear hb1
    go_wp2
    go_ret
    exact ⟨by rw [he.out]; simp, HB.out⟩
  · have t1 : decide ((s.size : Int) ≤ 4096) = false := decide_eq_false (by omega)
    have t1' : decide (s.size ≤ 4096) = false := decide_eq_false h1
    have he : Box (decide (s.size ≤ 4096 ∧ badAt s N < 0) = false) := boxed (by simp [h1])
    clear hN h1
    go_enter Try.func10, Try.ntmps10
    go_wp2
    go_ret
    exact ⟨by rw [he.out]; rfl, Below.refl _ _⟩
end Go.Proofs.Ytfikmlgmklnlaaa
