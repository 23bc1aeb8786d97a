/-
  What the program's Between answers.
-/
import Derived.Test.YtdaccgnfhagoeaaMkj
namespace Go.Proofs.Ytdaccgnfhagoeaa
open Go.RowKit
set_option linter.unusedSimpArgs false
set_option linter.unusedVariables false

def isBtw (a b : Int) (m : Mk) : Bool := decide (a ≤ m.pl ∧ m.pl ≤ b)
def btw (L : List Mk) (a b : Int) : List Int := (L.filter (isBtw a b)).map Mk.id
def ints (l : List Int) : List Value := l.map (fun n => .int .i64 n)
theorem grown_below'' {B : Nat} {w w' : World} {r : Option Nat} (h : w.grownBy w' r) (hr : ∀ g, r = some g → B ≤ g) (hB : B ≤ w.heap.size) : Below B w w' := ⟨h.os, h.tape, h.output, h.size, fun k hk => h.block k (by omega) (fun e => by have := hr k e.symm; omega)⟩
theorem btw_len (L : List Mk) (a b : Int) : (btw L a b).length ≤ L.length := by unfold btw; rw [List.length_map]; exact List.length_filter_le _ _
theorem btw_in {L : List Mk} {a b : Int} {i : Nat} (hi : i < L.length) (h : isBtw a b (L[i]'hi) = true) : btw (L.take (i + 1)) a b = btw (L.take i) a b ++ [(L[i]'hi).id] := by
  unfold btw
  rw [List.take_succ_eq_append_getElem hi, List.filter_append, List.map_append]
  simp [h]
theorem btw_out {L : List Mk} {a b : Int} {i : Nat} (hi : i < L.length) (h : isBtw a b (L[i]'hi) = false) : btw (L.take (i + 1)) a b = btw (L.take i) a b := by
  unfold btw
  rw [List.take_succ_eq_append_getElem hi, List.filter_append, List.map_append]
  simp [h]
section
variable {w : World} {ops : Array Oper} {rest : List Oper} {o : Oper} {a : Act} {K : Act → World → Prop} {Q : Exit → Act → World → Prop} {E : Prop}
theorem wpList_app1 (hgd : o.guard = none) (s x : Operand) (ho : o.op = .call { callee := .builtin .append, args := #[s, x], argTypes := #[47, 47] })
    (B : Nat) (v : Value) (D : List Int) (hs : a.eval s = v) (hown : w.ownsRow B 3 1 v D.length (ints D)) (b c : Nat) (hx : a.eval x = .slice (some ⟨b, 0, none⟩) 1 c) (X : Int) (hc : w.cell? ⟨b, 0, none⟩ = some (.int .i64 X)) (h63 : D.length ≤ 1000000) (hbase : B ≤ w.heap.size)
    (h : ∀ v' w', w'.ownsRow B 3 1 v' (D ++ [X]).length (ints (D ++ [X])) → w.grownBy w' v.ownBlock → wpList Try.prog ops Q rest (a.put o.dst v') w') : wpList Try.prog ops Q (o :: rest) a w := by
  obtain ⟨i0, hi, hz0, hz1, hz2⟩ := info_parts info_int16
  refine wpList_append_own w hgd s x 47 ho B 3 i0 _ 1 8 Try.underlying47 hi hz0 hz1 hz2 rfl (by decide) v D.length (ints D) hs hown ⟨b, 0, none⟩ 1 c [.int .i64 X] hx rfl (fun j u hj => ?_) (fun u hu => ?_) (by unfold maxLen; omega) (by omega) hbase (fun v' w' h1 h2 _ => h v' w' ?_ h2)
  · rw [Addr.add_lit, Nat.zero_add]
    match j, hj with
    | 0, hj => simp at hj; rw [hc, hj]
  · simp at hu; rw [hu]; rfl
  · simpa [ints] using h1
end
section
variable {B : Nat} {w : World} {sb : Nat} {v : Value} {s : St} {N : Int}
set_option maxRecDepth 100000 in
set_option maxHeartbeats 2000000 in
theorem between16_any (h : PS B w sb v s) (hk : s.ok N) (a b : Int) : Calls Try.prog 18 #[.pointer (some ⟨sb, 0, none⟩), .int .i64 a, .int .i64 b] w fun e w' => (∃ u, e = .returned u ∧ w'.ownsRow w.heap.size 3 1 u (btw (srt s.L) a b).length (ints (btw (srt s.L) a b))) ∧ Below w.heap.size w w' := by
  have HA := boxed (all16_any h hk)
  have hlen := hk.len
  have hsl := srt_len s.L
  obtain ⟨i0, hi, hz0, hz1, hz2⟩ := info_parts info_int16
  obtain ⟨n, hn⟩ : ∃ n, s.L.length = n := ⟨_, rfl⟩
  obtain ⟨M, hM⟩ : ∃ M, srt s.L = M := ⟨_, rfl⟩
  rw [hn] at HA hlen hsl
  rw [hM] at HA hsl ⊢
  clear h hk hn hM
  go_enter Try.func18, Try.ntmps18
  go_wp2_with fail
  refine HA.out.mono ?_
  rintro e w1 ⟨⟨g, rfl, ho1⟩, hb1⟩
  have HO1 := boxed ho1
  have HB1 := boxed hb1
  have hz1' := hb1.size
  clear ho1 hb1 HA
  go_wp2_with fail
  go_loopw [7, 13] (fun va vb wr => ∃ (i : Nat) (u : Value), i ≤ n ∧ u = va ∧ vb = .int .i64 (i : Nat) ∧ Box (wr.ownsRow w1.heap.size 3 1 u (btw (M.take i) a b).length (ints (btw (M.take i) a b))) ∧ Box (Below w1.heap.size w1 wr)) (fun _ vb _ => (n - intOf vb).toNat)
  case atStart => exact ⟨0, _, Nat.zero_le _, rfl, rfl, boxed ⟨by simp [btw, ints], .inl ⟨rfl, by simp [btw]⟩⟩, boxed (Below.refl _ _)⟩
  case round =>
    obtain ⟨i, u, h1, rfl, rfl, HV, HBr⟩ := hrel
    have hzr := HBr.out.size
    by_cases hlt : i < n
    · have hiM : i < M.length := by omega
      obtain ⟨g', cap', e', hcap, d0, d1, d2, -⟩ := own_mk (owns_below HO1.out HBr.out) i hiM
      injection e' with e1 _ e3
      injection e1 with e1
      injection e1 with e1
      subst e1; subst e3
      have hlt2 : (i : Int) < (n : Int) := by omega
      have HIn := boxed (btw_in (a := a) (b := b) hiM)
      have HOut := boxed (btw_out (a := a) (b := b) hiM)
      have hbl : (btw (M.take i) a b).length ≤ 1024 := by
        have := btw_len (M.take i) a b
        simp at this; omega
      obtain ⟨D, hD⟩ : ∃ D, btw (M.take i) a b = D := ⟨_, rfl⟩
      rw [hD] at HV HIn HOut hbl
      have hib : isBtw a b (M[i]'hiM) = decide (a ≤ (M[i]'hiM).pl ∧ (M[i]'hiM).pl ≤ b) := rfl
      rw [hib] at HIn HOut
      have HNm : Box (∀ W, (W : World).heap.size = wr.heap.size + 1 → (W.alloc (.cells #[.int .i64 (M[i]'hiM).id] 3)).cell? ⟨wr.heap.size + 1, 0, none⟩ = some (.int .i64 (M[i]'hiM).id)) := boxed (fun W hW => by
        rw [← hW, cell_first]; rfl)
      clear hD hib
      generalize (M[i]'hiM).id = I at *
      generalize (M[i]'hiM).pl = P at *
      generalize (M[i]'hiM).st = T at *
      by_cases c1 : a ≤ P
      · have t1 : decide (a ≤ P) = true := decide_eq_true c1
        by_cases c2 : P ≤ b
        · have t2 : decide (P ≤ b) = true := decide_eq_true c2
          have HD := boxed (HIn.out (decide_eq_true ⟨c1, c2⟩))
          clear c1 c2 HIn HOut
          go_wp2_with (at_builtin; refine wpList_app1 rfl _ _ rfl w1.heap.size u D rfl (owns_below HV.out (((Below.refl _ _).alloc (Nat.le_refl _) _).alloc (by simp) _)) (wr.heap.size + 1) 1 rfl I (HNm.out _ (by simp)) (by omega) (by simp; omega) ?_; intro v2 w2 ho2 hg2; have HB2 : Box (Below w1.heap.size w1 w2) := boxed (HBr.out.trans ((((Below.refl _ wr).alloc hzr _).alloc (by simp; omega) _).trans (grown_below'' hg2 (fun k hk => owns_ge HV.out k hk) (by simp; omega)))); have HO2 := boxed ho2; clear ho2 hg2)
          go_roundw
          case rel => exact ⟨i + 1, v2, by omega, rfl, by go_num, boxed (by rw [HD.out]; exact HO2.out), HB2⟩
          case measure => simp [intOf]; omega
        · have t2 : decide (P ≤ b) = false := decide_eq_false c2
          have HD := boxed (HOut.out (decide_eq_false (fun h => c2 h.2)))
          clear c1 c2 HIn HOut
          have hb9 : Box (Below w1.heap.size w1 (wr.alloc (.cells #[.int .i64 I, .int .i64 P, .bool T] 36))) := boxed (HBr.out.trans ((Below.refl _ wr).alloc hzr _))
          have HV9 := boxed (owns_below HV.out ((Below.refl _ _).alloc (Nat.le_refl _) (.cells #[.int .i64 I, .int .i64 P, .bool T] 36)))
          go_wp2_with fail
          go_roundw
          case rel => exact ⟨i + 1, u, by omega, rfl, by go_num, boxed (by rw [HD.out]; exact HV9.out), hb9⟩
          case measure => simp [intOf]; omega
      · have t1 : decide (a ≤ P) = false := decide_eq_false c1
        have HD := boxed (HOut.out (decide_eq_false (fun h => c1 h.1)))
        clear c1 HIn HOut
        have hb9 : Box (Below w1.heap.size w1 (wr.alloc (.cells #[.int .i64 I, .int .i64 P, .bool T] 36))) := boxed (HBr.out.trans ((Below.refl _ wr).alloc hzr _))
        have HV9 := boxed (owns_below HV.out ((Below.refl _ _).alloc (Nat.le_refl _) (.cells #[.int .i64 I, .int .i64 P, .bool T] 36)))
        go_wp2_with fail
        go_roundw
        case rel => exact ⟨i + 1, u, by omega, rfl, by go_num, boxed (by rw [HD.out]; exact HV9.out), hb9⟩
        case measure => simp [intOf]; omega
    · have e : i = n := by omega
      have hfin := HV.out
      rw [e, List.take_of_length_le (by omega)] at hfin
      have hfin2 : wr.ownsRow w.heap.size 3 1 u (btw M a b).length (ints (btw M a b)) := ⟨hfin.1, by
        rcases hfin.2 with h2 | ⟨g, cap, cur, e1, h3, r⟩
        · exact .inl h2
        · exact .inr ⟨g, cap, cur, e1, by omega, r⟩⟩
      have HF := boxed hfin2
      have HBf := boxed (HB1.out.trans (HBr.out.mono hz1'))
      subst e
      clear hfin hfin2 HV HBr HO1
      go_wp2_with fail
      go_ret
      exact ⟨⟨_, rfl, HF.out⟩, HBf.out⟩
end
end Go.Proofs.Ytdaccgnfhagoeaa
