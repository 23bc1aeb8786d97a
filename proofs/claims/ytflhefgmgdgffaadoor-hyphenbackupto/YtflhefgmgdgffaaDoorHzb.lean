/-
  What the program's Words answers of a right text.
-/
import Derived.Test.YtflhefgmgdgffaaDoorHza
namespace Go.Proofs.YtflhefgmgdgffaaDoor
open Go.RowKit Go.Maps
set_option linter.unusedSimpArgs false
set_option linter.unusedVariables false

theorem info_pair : (Tryd.prog.info? 84).map (fun i => (i.zero, i.size, i.bytes)) = some (some (.agg #[.int .i64 0, .int .i64 0]), 2, 16) := by kernel_rfl
theorem two_new (W : World) (u v : Value) (t : TypeId) : ∀ j x, ([u, v] : List Value)[j]? = some x → (W.alloc (.cells #[u, v] t)).cell? ((⟨W.heap.size, 0, none⟩ : Addr).add j) = some x := by
  intro j x hj
  have l1 := laid1 W (.cells #[u, v] t)
  match j, hj with
  | 0, hj =>
    simp at hj; subst hj
    exact (cell_of_row _ _ _ _ _ _ l1.1).trans rfl
  | 1, hj =>
    simp at hj; subst hj
    exact (cell_of_row _ _ _ _ _ _ l1.1).trans rfl
theorem own_cell2 {w : World} {B e n : Nat} {v : Value} {xs : List Value} (h : w.ownsRow B e 2 v n xs) (hj : 0 < n) : ∃ g cap, v = .slice (some ⟨g, 0, none⟩) n cap ∧ n ≤ cap := by
  rcases h.2 with ⟨_, h0⟩ | ⟨g, cap, cur, rfl, _, _, hc, _⟩
  · omega
  · exact ⟨g, cap, rfl, hc⟩
set_option maxRecDepth 100000 in
set_option maxHeartbeats 4000000 in
theorem words_any (s : ByteArray) (w : World) (hs : s.size ≤ 1048576) (hr : rt s = true) :
    Calls Tryd.prog 35 #[.string s] w fun e w' => ∃ v, e = .returned v ∧ w'.ownsRow w.heap.size 84 2 v (Wds s).length (pvals (Wds s)) ∧ Below w.heap.size w w' := by
  obtain ⟨i2, hi2, hz0, hz1, hz2⟩ := info_parts info_pair
  have hnl := nR_le s
  have HR := boxed hr
  have HSZ := boxed (rt_right hr).2
  clear hr
  go_enter Tryd.func35, Tryd.ntmps35
  go_wp2
  go_loopw [3, 4] (fun vw vf wr => ∃ (k : Nat) (F : PR) (o : Option Nat), k ≤ nR s ∧ Box (ws s k = (F, o)) ∧ vf = .bool o.isSome ∧ Box (wr.ownsRow w.heap.size 84 2 vw (wsl (F, o) s.size).length (pvals (wsl (F, o) s.size))) ∧ Box (Itr w w.heap.size s (it s k) wr)) (fun _ _ wr => s.size - wr.iterPos w.heap.size)
  case atStart => exact ⟨0, [], none, Nat.zero_le _, boxed rfl, rfl, boxed (World.ownsRow_nil _ _ _ _), boxed (itr_start w s)⟩
  case round =>
    obtain ⟨k, F, o, hk, HW, rfl, HL, HI⟩ := hrel
    by_cases hlt : k < nR s
    · have hnx := fun ty => next_at s w w.heap.size k wr HI.out hlt ty
      have hit := it_lt s k hlt
      have hwl := ws_len s k
      rw [HW.out] at hwl
      have hrr := rn_isR s k ((nR_cnt s).1 k hlt)
      have hlet := fun W => letter_any (rn s k) hrr W
      have HI1 := boxed (HI.out.next (it s (k + 1)))
      have HL1 := boxed (own_iter (p' := it s (k + 1)) HL.out HI.out.itr)
      have HM : Box (∀ W', Itr w w.heap.size s (it s (k + 1)) W' → s.size - W'.iterPos w.heap.size < s.size - wr.iterPos w.heap.size) := boxed (fun W' h => by rw [h.pos, HI.out.pos]; omega)
      have hsz := HI1.out.size
      generalize hW1 : wr.iterAt w.heap.size s (it s (k + 1)) = W1 at *
      clear HI HL hW1 hrr
      cases hL : ltr (rn s k) with
      | true =>
        rw [hL] at hlet
        cases o with
        | none =>
          have HW2 := boxed (ws_go s k HW.out hL)
          rw [wsl_none] at HL1
          have HSN := boxed (pvals_snoc F (it s k) s.size)
          simp only [Option.isSome_none, Option.isSome_some, Bool.toNat_false, Bool.toNat_true] at hwl ⊢
          clear HW hL hit
          generalize rn s k = r at *
          obtain ⟨A0, hA0⟩ : ∃ A0, it s k = A0 := ⟨_, rfl⟩
          rw [hA0] at hnx HW2 HSN
          clear hA0
          obtain ⟨ll, hll2⟩ : ∃ ll, F.length = ll := ⟨_, rfl⟩
          have HLL := boxed hll2
          rw [hll2] at HL1 hwl
          clear hll2
          go_wp2_with (first | (go_at_call 42; refine (hlet _).mono ?_; rintro e w' ⟨rfl, hw'⟩; subst w') | (at_builtin; refine wpList_append_apart rfl _ _ 82 rfl w.heap.size 84 i2 (.agg #[.int .i64 0, .int .i64 0]) 2 16 Tryd.underlying82 hi2 hz0 hz1 hz2 rfl (by decide) _ _ _ rfl (HL1.out.alloc _) ⟨W1.heap.size, 0, none⟩ 1 1 [.int .i64 (A0 : Int), .int .i64 (s.size : Int)] rfl rfl (two_new W1 _ _ _) ?c2 ?c3 ?c4 ?c5 (by omega) ?_))
          case c2 => intro u hu; simp at hu; rcases hu with rfl | rfl <;> rfl
          case c3 => unfold maxLen; omega
          case c4 => omega
          case c5 => simp; omega
          intro v' w2 hown2 hgrow2 _
          have HI2 := boxed ((HI1.out.alloc _).grown (HL1.out.alloc _) hgrow2)
          rw [HSN.out] at hown2
          have HL2 : Box (w2.ownsRow w.heap.size 84 2 v' (wsl (F, some A0) s.size).length (pvals (wsl (F, some A0) s.size))) := boxed (by rw [wsl_some, List.length_append, HLL.out]; exact hown2)
          clear hown2 hgrow2 HL1 HI1
          go_wp2
          go_roundw
          case rel => exact ⟨k + 1, F, some A0, by omega, HW2, rfl, HL2, HI2⟩
          case measure => exact HM.out _ HI2.out
        | some c =>
          have HW2 := boxed (ws_in s k HW.out hL)
          simp only [Option.isSome_none, Option.isSome_some, Bool.toNat_false, Bool.toNat_true] at hwl ⊢
          clear HW hL hit
          generalize rn s k = r at *
          generalize it s k = A0 at *
          go_wp2_with (go_at_call 42; refine (hlet _).mono ?_; rintro e w' ⟨rfl, hw'⟩; subst w')
          go_roundw
          case rel => exact ⟨k + 1, F, some c, by omega, HW2, rfl, HL1, HI1⟩
          case measure => exact HM.out _ HI1.out
      | false =>
        rw [hL] at hlet
        cases o with
        | none =>
          have HW2 := boxed (ws_out s k HW.out hL)
          simp only [Option.isSome_none, Option.isSome_some, Bool.toNat_false, Bool.toNat_true] at hwl ⊢
          clear HW hL hit
          generalize rn s k = r at *
          generalize it s k = A0 at *
          go_wp2_with (go_at_call 42; refine (hlet _).mono ?_; rintro e w' ⟨rfl, hw'⟩; subst w')
          go_roundw
          case rel => exact ⟨k + 1, F, none, by omega, HW2, rfl, HL1, HI1⟩
          case measure => exact HM.out _ HI1.out
        | some c =>
          have HW2 := boxed (ws_end s k HW.out hL)
          rw [wsl_some] at HL1
          have hlen : (F ++ [(c, s.size)]).length = F.length + 1 := by simp
          rw [hlen] at HL1
          obtain ⟨g, cap, rfl, hcap⟩ := own_cell2 HL1.out (by omega)
          have hof := HL1.out.frozenAt (F.length * 2 + 1)
          have hoc := HL1.out.cellAt (F.length * 2 + 1) (by omega)
          have hst := HL1.out.stored (F.length * 2 + 1) (.int .i64 ((it s k : Nat) : Int))
          rw [pvals_end] at hst
          rw [(pvals_get (F ++ [(c, s.size)]) F.length (by simp)).2] at hoc
          have HL2 : Box ((W1.setCell ⟨g, F.length * 2 + 1, none⟩ (.int .i64 ((it s k : Nat) : Int))).ownsRow w.heap.size 84 2 (.slice (some ⟨g, 0, none⟩) (F.length + 1) cap) (wsl (F ++ [(c, it s k)], none) s.size).length (pvals (wsl (F ++ [(c, it s k)], none) s.size))) := boxed (by
            have e : (wsl (F ++ [(c, it s k)], none) s.size).length = F.length + 1 := by rw [wsl_none]; simp
            rw [e, wsl_none]; exact hst.1)
          have HI2 := boxed (HI1.out.grown HL1.out hst.2)
          simp only [Option.isSome_none, Option.isSome_some, Bool.toNat_false, Bool.toNat_true] at hwl ⊢
          clear HW hL hit hlen hst HI1 HL1
          generalize rn s k = r at *
          generalize it s k = A0 at *
          generalize F.length = ll at *
          generalize (List.getD (F ++ [(c, s.size)]) ll (0, 0)).2 = u0 at *
          have hll1 : (ll : Int) < (ll : Int) + 1 := by omega
          go_wp2_with (go_at_call 42; refine (hlet _).mono ?_; rintro e w' ⟨rfl, hw'⟩; subst w')
          go_roundw
          case rel => exact ⟨k + 1, F ++ [(c, A0)], none, by omega, HW2, rfl, HL2, HI2⟩
          case measure => exact HM.out _ HI2.out
    · have e : k = nR s := by omega
      subst e
      have hnx := fun ty => next_stop s w w.heap.size wr HR.out HI.out ty
      have HO : Box (wsl (F, o) s.size = Wds s) := boxed (by unfold Wds; rw [HW.out, HSZ.out])
      go_wp2
      go_ret
      exact ⟨_, rfl, by rw [← HO.out]; exact HL.out, HI.out.bel⟩
end Go.Proofs.YtflhefgmgdgffaaDoor
