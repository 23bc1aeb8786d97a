/-
  The document's find, Get, Put, Move and Drop.
-/
import Derived.Test.YtdaccgnfhagoeaaMkd
namespace Go.Proofs.Ytdaccgnfhagoeaa
open Go.RowKit
set_option linter.unusedSimpArgs false
set_option linter.unusedVariables false

theorem own_mono {w : World} {B B' e size n : Nat} {v : Value} {xs : List Value} (h : w.ownsRow B' e size v n xs) (hB : B ≤ B') : w.ownsRow B e size v n xs := by
  refine ⟨h.1, ?_⟩
  rcases h.2 with h2 | ⟨g, cap, cur, e1, h3, r⟩
  · exact .inl h2
  · exact .inr ⟨g, cap, cur, e1, by omega, r⟩
/-- Marks handed in, as a slice. -/
def Src (w : World) (x : Value) (m : Nat) (M : List Mk) : Prop := M.length = m ∧ ((m = 0 ∧ x = .slice none 0 0) ∨ ∃ b o c, x = .slice (some ⟨b, o, none⟩) m c ∧ ∀ j u, (mcs M)[j]? = some u → w.cell? ⟨b, o + j, none⟩ = some u)
theorem own_srcM {w : World} {B e n : Nat} {v : Value} {L : List Mk} (h : w.ownsRow B e 3 v n (mcs L)) : Src w v n L := by
  have hl := h.1
  rw [mcs_len] at hl
  refine ⟨by omega, ?_⟩
  rcases h.2 with ⟨e1, h2⟩ | ⟨g, cap', cur, e1, hB, hh, hcap, hmx, hsz, hx⟩
  · exact .inl ⟨h2, e1⟩
  · subst e1
    have hC := fun j => h.cellAt j
    refine .inr ⟨g, 0, cap', rfl, fun j v hj => ?_⟩
    have hjl : j < (mcs L).length := by
      rcases Nat.lt_or_ge j (mcs L).length with c | c
      · exact c
      · rw [List.getElem?_eq_none (by omega)] at hj; cases hj
    have := hC j (by have := h.1; omega)
    rw [Nat.zero_add, this, hj]
section
variable {w : World} {ops : Array Oper} {rest : List Oper} {o : Oper} {a : Act} {K : Act → World → Prop} {Q : Exit → Act → World → Prop} {E : Prop}
theorem wpList_appM (hgd : o.guard = none) (s x : Operand) (ho : o.op = .call { callee := .builtin .append, args := #[s, x], argTypes := #[29, 29] })
    (B : Nat) (v : Value) (n : Nat) (L : List Mk) (hs : a.eval s = v) (hown : w.ownsRow B 39 3 v n (mcs L)) (y : Value) (m : Nat) (M : List Mk) (hx : a.eval x = y) (hsrc : Src w y m M) (h63 : n + m ≤ 1000000) (hbase : B ≤ w.heap.size)
    (h : ∀ v' w', w'.ownsRow B 39 3 v' (n + m) (mcs (L ++ M)) → w.grownBy w' v.ownBlock → wpList Try.prog ops Q rest (a.put o.dst v') w') : wpList Try.prog ops Q (o :: rest) a w := by
  obtain ⟨i0, hi, hz0, hz1, hz2⟩ := info_parts info_rmark
  obtain ⟨hl, ⟨h0, rfl⟩ | ⟨b, of, c, rfl, hc⟩⟩ := hsrc
  · subst h0
    obtain rfl : M = [] := List.eq_nil_of_length_eq_zero hl
    refine wpList_append_own_none hgd s x 29 ho B 39 i0 3 Try.underlying29 hi v n (mcs L) hs hown hx (h v w (by simpa using hown) (World.grownBy.refl w _))
  · refine wpList_append_own w hgd s x 29 ho B 39 i0 _ 3 24 Try.underlying29 hi hz0 hz1 hz2 rfl (by decide) v n (mcs L) hs hown ⟨b, of, none⟩ m c (mcs M) hx (by rw [mcs_len, hl]) (fun j u hj => by rw [Addr.add_lit]; exact hc j u hj) (mcs_one M) (by unfold maxLen; omega) (by omega) hbase (fun v' w' h1 h2 _ => h v' w' ?_ h2)
    rw [mcs_app]; exact h1
theorem step_appM (hgd : o.guard = none) (s x : Operand) (ho : o.op = .call { callee := .builtin .append, args := #[s, x], argTypes := #[29, 29] })
    (B : Nat) (v : Value) (n : Nat) (L : List Mk) (hs : a.eval s = v) (hown : w.ownsRow B 39 3 v n (mcs L)) (b of c m : Nat) (M : List Mk) (hx : a.eval x = .slice (some ⟨b, of, none⟩) m c) (hl : M.length = m) (hc : ∀ j u, (mcs M)[j]? = some u → w.cell? ⟨b, of + j, none⟩ = some u) (h63 : n + m ≤ 1000000) (hbase : B ≤ w.heap.size)
    (h : ∀ v' w', w'.ownsRow B 39 3 v' (n + m) (mcs (L ++ M)) → w.grownBy w' v.ownBlock → K (a.put o.dst v') w') : if Region.wanted o (yielded ops a.tmps) = true then Oper.wp Try.prog o a w K Q else E := by
  obtain ⟨i0, hi, hz0, hz1, hz2⟩ := info_parts info_rmark
  refine step_append_own hgd s x 29 ho B 39 i0 _ 3 24 Try.underlying29 hi hz0 hz1 hz2 rfl (by decide) v n (mcs L) hs hown ⟨b, of, none⟩ m c (mcs M) hx (by rw [mcs_len, hl]) (fun j u hj => by rw [Addr.add_lit]; exact hc j u hj) (mcs_one M) (by unfold maxLen; omega) (by omega) hbase (fun v' w' h1 h2 => h v' w' ?_ h2)
  rw [mcs_app]; exact h1
end
/-- The document's set in a box. -/
theorem rbox {B : Nat} {w : World} {x : Value} {s : St} (h : RS B w x s) : ∃ ao cap, x = .agg #[.int .i64 s.sz, .int .i64 s.nx, .slice ao s.L.length cap] ∧ w.ownsRow B 39 3 (.slice ao s.L.length cap) s.L.length (mcs s.L) := by
  obtain ⟨v, e, h⟩ := h
  obtain ⟨ao, cap, rfl⟩ := own_shape h
  exact ⟨ao, cap, e, h⟩
/-- What the document's find answers. -/
def fnd (L : List Mk) (d : Int) : Int := if ix L d < L.length then (ix L d : Int) else -1
theorem fnd_hit {L : List Mk} {d : Int} (h : ix L d < L.length) : fnd L d = (ix L d : Int) := if_pos h
theorem fnd_no {L : List Mk} {d : Int} (h : ¬ ix L d < L.length) : fnd L d = -1 := if_neg h
section
variable {B : Nat} {w : World} {x : Value} {s : St} {N : Int}
set_option maxRecDepth 100000 in
set_option maxHeartbeats 2000000 in
theorem reffind_any (h : RS B w x s) (hn : s.L.length ≤ 1000000) (d : Int) : Calls Try.prog 25 #[x, .int .i64 d] w fun e w' => e = .returned (.int .i64 (fnd s.L d)) ∧ Below w.heap.size w w' := by
  obtain ⟨ao, cap, rfl, ho⟩ := rbox h
  have l1 := laid1 w (.cells #[.int .i64 s.sz, .int .i64 s.nx, .slice ao s.L.length cap] 31)
  generalize hW : w.alloc (.cells #[.int .i64 s.sz, .int .i64 s.nx, .slice ao s.L.length cap] 31) = W at l1
  obtain ⟨l0, lb, lz⟩ := l1
  obtain ⟨⟨k0, k1, k2⟩, -⟩ := cells3 l0
  have HO := boxed (owns_below ho lb)
  have HLb := boxed lb
  have HW := boxed hW
  have HIX := boxed (fun k h1 h2 h3 => ix_uniq s.L d k h1 h2 h3)
  clear hW l0 lb lz h ho
  go_enter Try.func25, Try.ntmps25
  go_upto_region 1 with (fail)
  rw [HW.out]
  go_wp2_with fail
  go_loopw [5] (fun a wr => ∃ i : Nat, i ≤ s.L.length ∧ a = .int .i64 (i : Nat) ∧ wr = W ∧ Box (∀ j, j < i → ∀ h : j < s.L.length, (s.L[j]'h).id ≠ d)) (fun a _ => (s.L.length - intOf a).toNat)
  case atStart => exact ⟨0, Nat.zero_le _, rfl, rfl, boxed (fun j hj => by omega)⟩
  case round =>
    obtain ⟨i, h1, rfl, rfl, HA⟩ := hrel
    by_cases hlt : i < s.L.length
    · obtain ⟨g, cap', e', hcap, d0, -⟩ := own_mk HO.out i hlt
      injection e' with e1 _ e3
      subst e1; subst e3
      have hlt2 : (i : Int) < (s.L.length : Int) := by omega
      by_cases he : (s.L[i]'hlt).id = d
      · have HE : Box (ix s.L d = i) := boxed (HIX.out i HA.out (fun _ => he) (by omega))
        have HR : Box (fnd s.L d = (i : Int)) := boxed (by rw [fnd_hit (by rw [HE.out]; exact hlt), HE.out])
        have t1 : ((s.L[i]'hlt).id == d) = true := by simpa using he
        clear he
        generalize (s.L[i]'hlt).id = I at *
        go_wp2_with fail
        go_ret
        exact ⟨by rw [HR.out]; rfl, HLb.out⟩
      · have HA2 : Box (∀ j, j < i + 1 → ∀ h : j < s.L.length, (s.L[j]'h).id ≠ d) := boxed (fun j hj hl => by
          by_cases c : j = i
          · subst c; exact he
          · exact HA.out j (by omega) hl)
        have t1 : ((s.L[i]'hlt).id == d) = false := by simpa using he
        clear he
        generalize (s.L[i]'hlt).id = I at *
        go_wp2_with fail
        go_roundw
        case rel => exact ⟨i + 1, by omega, by go_num, trivial, HA2⟩
        case measure => simp [intOf]; omega
    · have e : i = s.L.length := by omega
      have HR : Box (fnd s.L d = -1) := boxed (fnd_no (fun c => HA.out _ (by omega) c (ix_get s.L d c)))
      subst e
      go_wp2_with fail
      go_ret
      exact ⟨by rw [HR.out]; rfl, HLb.out⟩
set_option maxRecDepth 100000 in
set_option maxHeartbeats 2000000 in
theorem refget_any (h : RS B w x s) (hn : s.L.length ≤ 1000000) (d : Int) : Calls Try.prog 15 #[x, .int .i64 d] w fun e w' => e = .returned (.tuple #[(s.get d).1.val, .int .i64 (s.get d).2]) ∧ Below w.heap.size w w' := by
  have HRS := boxed h
  obtain ⟨ao, cap, rfl, ho⟩ := rbox h
  have l2 := laid2 w (.cells #[.int .i64 s.sz, .int .i64 s.nx, .slice ao s.L.length cap] 31) (.cells #[.int .i64 0, .int .i64 0, .bool false] 39)
  generalize hW : (w.alloc (.cells #[.int .i64 s.sz, .int .i64 s.nx, .slice ao s.L.length cap] 31)).alloc (.cells #[.int .i64 0, .int .i64 0, .bool false] 39) = W at l2
  obtain ⟨l0, l1, lb, lz⟩ := l2
  obtain ⟨⟨k0, k1, k2⟩, -⟩ := cells3 l0
  have hf := reffind_any (HRS.out.below lb) hn d
  have HO := boxed (owns_below ho lb)
  have HB := boxed lb
  have HL := boxed l1
  have HL0 := boxed l0
  have HW := boxed hW
  clear hW h ho l0 l1
  go_enter Try.func15, Try.ntmps15
  go_upto_region 1 with (fail)
  rw [HW.out]
  go_wp2_with fail
  refine hf.mono ?_
  rintro e w1 ⟨rfl, hb⟩
  have HB2 := boxed (below_step HB.out (Nat.le_refl _) hb)
  have hR1 : w1.heap[w.heap.size + 1]? = some (.cells #[.int .i64 0, .int .i64 0, .bool false] 39 (0, 0)) := by rw [hb.block _ (by omega)]; exact HL.out
  have k2' := hold hb k2
  have HO1 := boxed (owns_below HO.out hb)
  clear hb hf HW HL k0 k1 k2
  by_cases c : ix s.L d < s.L.length
  · have HG : Box (s.get d = (s.L[ix s.L d]'c, 0)) := boxed (by unfold St.get; rw [if_pos c, getD_at c])
    obtain ⟨g, cap', e', hcap, d0, d1, d2, -⟩ := own_mk HO1.out _ c
    injection e' with e1 _ e3
    subst e1; subst e3
    have hl2 : ((ix s.L d : Nat) : Int) < (s.L.length : Int) := by omega
    rw [fnd_hit c]
    generalize s.L[ix s.L d]'c = m at *
    generalize ix s.L d = q at *
    clear c
    obtain ⟨i, p, b⟩ := m
    simp only at d0 d1 d2
    obtain ⟨⟨x0, x1, x2⟩, y0, y1, y2⟩ := cells3 hR1
    have HP3 := boxed (put3_heap hR1 (.int .i64 i) (.int .i64 p) (.bool b))
    have HFr := boxed (put3_below HB2.out (Nat.le_succ _) (Nat.le_refl _) (rb := w.heap.size + 1) (.int .i64 i) (.int .i64 p) (.bool b))
    clear hR1 HO HRS
    go_wp2
    refine bodyPost_ret (v := .tuple #[.agg #[.int .i64 i, .int .i64 p, .bool b], .int .i64 0]) ?_ ?_ ?_
    · exact results_row_tmp Try.results15 _ _ (w.heap.size + 1) 39 _ (0, 0) _ rfl HP3.out Try.underlying39 rfl (by kernel_rfl)
    · rfl
    · exact ⟨by rw [HG.out]; rfl, HFr.out⟩
  · have HG : Box (s.get d = (⟨0, 0, false⟩, 160)) := boxed (by unfold St.get; rw [if_neg c])
    rw [fnd_no c]
    clear c
    obtain ⟨⟨x0, x1, x2⟩, y0, y1, y2⟩ := cells3 hR1
    have HP3 := boxed (put3_heap hR1 (.int .i64 0) (.int .i64 0) (.bool false))
    have HFr := boxed (put3_below HB2.out (Nat.le_succ _) (Nat.le_refl _) (rb := w.heap.size + 1) (.int .i64 0) (.int .i64 0) (.bool false))
    clear hR1 HO HRS
    go_wp2
    refine bodyPost_ret (v := .tuple #[.agg #[.int .i64 0, .int .i64 0, .bool false], .int .i64 160]) ?_ ?_ ?_
    · exact results_row_tmp Try.results15 _ _ (w.heap.size + 1) 39 _ (0, 0) _ rfl HP3.out Try.underlying39 rfl (by kernel_rfl)
    · rfl
    · exact ⟨by rw [HG.out]; rfl, HFr.out⟩
end
end Go.Proofs.Ytdaccgnfhagoeaa
