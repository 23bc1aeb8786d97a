/-
  What the program's between and the function that it hands out do: the runs of a part, one behind the other, each with the place where it begins, as far as they are asked for.
-/
import Derived.RangeFuncNested
import Derived.RangeFuncBound
import Derived.RangeFuncCalls
import Derived.RangeFuncLeaves
import Derived.RangeFuncFrom
import Derived.Shelf.Abstract
import Derived.Shelf.RegionOpen
import Derived.OwnWalkIn
import Derived.TacticsInMore
import Derived.LoopNIn
import Derived.LoopIn
import Derived.Sort.QuietIn
import Derived.Test.YtcjcdpfjnomehaaGreatPk13
namespace Go.Proofs.YtcjcdpfjnomehaaGreat.Ru
open Go.RowKit Go.Shelf
set_option linter.unusedSimpArgs false
set_option linter.unusedVariables false
attribute [local go_sem] Oper.semAt_some
structure Vw (n₀ Bf Bp Bt : Nat) (ao : Option Addr) (cap : Nat) (s : List Int) (a b : Nat) (W : World) : Prop where
  f : W.heap[Bf]? = some (.cells #[.int .i64 (a : Nat)] 3 (0, 0))
  p : W.heap[Bp]? = some (.cells #[.slice ao (enc s).length cap] 221 (0, 0))
  t : W.heap[Bt]? = some (.cells #[.int .i64 (b : Nat)] 3 (0, 0))
  at_ : PartsAt (· < n₀) W ao s
theorem cell_one {W : World} {b : Nat} {v : Value} {t : TypeId} {fz : Nat × Nat} (h : W.heap[b]? = some (.cells #[v] t fz)) : W.cell? ⟨b, 0, none⟩ = some v := by simp [World.cell?, h]
theorem Vw.kept {n₀ Bf Bp Bt : Nat} {ao : Option Addr} {cap : Nat} {s : List Int} {a b : Nat} {W W' : World} {row : Option Nat} (h : Vw n₀ Bf Bp Bt ao cap s a b W) (hg : W.grownBy W' row)
    (h1 : row ≠ some Bf) (h2 : row ≠ some Bp) (h3 : row ≠ some Bt) (h4 : ∀ r, row = some r → n₀ ≤ r) : Vw n₀ Bf Bp Bt ao cap s a b W' := by
  have lt : ∀ {k : Nat} {o : Obj}, W.heap[k]? = some o → k < W.heap.size := fun h => (Array.getElem?_eq_some_iff.1 h).1
  refine ⟨by rw [hg.block Bf (lt h.f) (Ne.symm h1)]; exact h.f, by rw [hg.block Bp (lt h.p) (Ne.symm h2)]; exact h.p, by rw [hg.block Bt (lt h.t) (Ne.symm h3)]; exact h.t, ?_⟩
  refine h.at_.keep (fun k i u hs hc => ⟨hs, ?_⟩)
  exact hg.cell hc (fun e => by have := h4 k e.symm; omega)
theorem Vw.below {n₀ Bf Bp Bt : Nat} {ao : Option Addr} {cap : Nat} {s : List Int} {a b : Nat} {W W' : World} (h : Vw n₀ Bf Bp Bt ao cap s a b W) (hb : Below W.heap.size W W') : Vw n₀ Bf Bp Bt ao cap s a b W' :=
  h.kept (below_grown hb none) (by simp) (by simp) (by simp) (by simp)
theorem Vw.turn {n₀ Bf Bp Bt : Nat} {ao : Option Addr} {cap : Nat} {s : List Int} {a b : Nat} {w : World} (hn : n₀ ≤ w.heap.size) (W : World) (l : Nat) (o o' : Obj) (hl : w.heap.size ≤ l) (ho : W.heap[l]? = some o) (hc : o.isCells = false) (_ : o.isWalk = false) :
    Vw n₀ Bf Bp Bt ao cap s a b W → Vw n₀ Bf Bp Bt ao cap s a b (W.putObj l o') := fun h =>
  h.kept (grownBy_putObj' W l o') (fun e => by injection e with e; subst e; rw [h.f] at ho; injection ho with ho; subst ho; cases hc) (fun e => by injection e with e; subst e; rw [h.p] at ho; injection ho with ho; subst ho; cases hc)
    (fun e => by injection e with e; subst e; rw [h.t] at ho; injection ho with ho; subst ho; cases hc) (fun r e => by injection e with e; omega)
set_option maxRecDepth 100000 in
set_option maxHeartbeats 4000000 in
theorem between1_in (n l n₀ Bf Bp Bt : Nat) (ao : Option Addr) (cap : Nat) (s : List Int) (a b : Nat) (hab : a ≤ b) (hb : b ≤ s.length) (hl : s.length ≤ 65536) (hs : Sok s) (J Jx : List X → World → Prop)
    (hY : ∀ pre (x : X) W, J pre W → pre.length < (gv s a b).length → YieldAt Fence.wide (n - 1) Tryz.prog l #[.int .i64 (x.1.1 : Nat), .agg #[.int .i64 (x.1.2.1 : Nat), .int .i64 x.1.2.2]] W fun e W' =>
      (e = .returned (.bool true) ∧ J (pre ++ [x]) W' ∧ (Vw n₀ Bf Bp Bt ao cap s a b W → Vw n₀ Bf Bp Bt ao cap s a b W')) ∨ (e = .returned (.bool false) ∧ Jx (pre ++ [x]) W'))
    (W : World) (hv : Vw n₀ Bf Bp Bt ao cap s a b W) (hJ : J [] W) (hab2 : ∀ pre W1 W2, J pre W1 → Below W1.heap.size W1 W2 → J pre W2) :
    CallsIn Fence.wide n Tryz.prog 186 #[.func (.yield l) #[] #[], .pointer (some ⟨Bf, 0, none⟩), .pointer (some ⟨Bp, 0, none⟩), .pointer (some ⟨Bt, 0, none⟩)] W fun e W' => (∃ v, e = .returned v) ∧
      ((∃ ys, ys = gv s a b ∧ J ys W') ∨ (∃ pre, pre <+: gv s a b ∧ Jx pre W')) := by
  have hro : (Fence.wide).round = none := rfl
  have hd : (Fence.wide).depth = none := rfl
  have cf := cell_one hv.f
  have cp := cell_one hv.p
  have ct := cell_one hv.t
  refine callsIn_of_wp Tryz.func186 rfl trivial ?_ hro
  simp only [Tryz.ntmps186, List.size_toArray, List.length_cons, List.length_nil, Nat.reduceAdd, Nat.reduceSub, Array.replicate_succ, Array.replicate_zero, List.push_toArray, List.append_toArray, List.nil_append, List.cons_append]
  gi_wp2_with fail
  refine ⟨trivial, (callsIn_wide.2 (holder_any _ ao cap s a W hv.at_ (by omega))).mono ?_⟩
  rintro e W1 ⟨q, rfl, hq, hb1⟩
  have HV1 := boxed (hv.below hb1)
  have HJ1 := boxed (hab2 [] W W1 hJ hb1)
  have HA := boxed hab2
  have HY := boxed hY
  have hqn : q ≤ (enc s).length := by omega
  have HQ1 : Box (a < b → q < (enc s).length ∧ Bg (enc s) q ≤ a ∧ a < Bg (enc s) (q + 1)) := boxed (fun h => hq.resolve_left (by omega))
  have hnl := enc_len s
  clear hv hJ hY hq hb1 cf cp ct hab2
  gi_wp2_with fail
  gi_loopw [5, 6] (fun va vi wr => ∃ (k q' : Nat) (pre : List X), k ≤ b ∧ q' ≤ (enc s).length ∧ va = .int .i64 (k : Nat) ∧ vi = .int .i64 (q' : Nat) ∧ Box (pre ++ gv s k b = gv s a b) ∧ Box (J pre wr) ∧ Box (Vw n₀ Bf Bp Bt ao cap s a b wr) ∧
      Box (k < b → q' < (enc s).length ∧ Bg (enc s) q' ≤ k ∧ k < Bg (enc s) (q' + 1))) (fun va _ _ => b - (intOf va).toNat)
  case atStart => exact ⟨a, q, [], hab, hqn, rfl, rfl, boxed rfl, HJ1, HV1, HQ1⟩
  case round =>
    obtain ⟨k, q', pre, hkb, hqn', rfl, rfl, HP, HJ, HV, HQ⟩ := hrel
    have cf := cell_one HV.out.f
    have cp := cell_one HV.out.p
    have ct := cell_one HV.out.t
    by_cases hlt : k < b
    · obtain ⟨q1, q2, q3⟩ := HQ.out hlt
      obtain ⟨bb, off, rfl, -⟩ := HV.out.at_.form (by omega)
      obtain ⟨c0, c1⟩ := HV.out.at_.get q' q1
      have hst := gv_step s q' k b q1 q2 q3 hlt hb
      have hEl := Bg_le (enc s) (can_enc s) (q' + 1)
      rw [sm_enc] at hEl
      have hyo := hs _ (Ys_in s q' q1)
      have HQN : Box (min (Bg (enc s) (q' + 1)) b < b → q' + 1 < (enc s).length ∧ Bg (enc s) (q' + 1) ≤ min (Bg (enc s) (q' + 1)) b ∧ min (Bg (enc s) (q' + 1)) b < Bg (enc s) (q' + 1 + 1)) := boxed (fun h => by
        have hE : Bg (enc s) (q' + 1) < b := by omega
        have h1 : q' + 1 < (enc s).length := by
          by_cases c : q' + 1 < (enc s).length
          · exact c
          · rw [Bg_all _ _ (by omega), sm_enc] at hE; omega
        have := Bg_step (enc s) (q' + 1) h1 (can_enc s)
        omega)
      clear HQ q2
      have HEQ : Box (∀ e, Bg (enc s) (q' + 1) ≤ e → Bg (enc s) (q' + 1) ≤ e) := boxed (fun _ h => h)
      generalize hEE : Bg (enc s) (q' + 1) = E at HQN hst hEl q3 c0
      have HEE := boxed hEE
      clear hEE HEQ
      generalize Ys (enc s) q' = Y at *
      obtain ⟨e, he⟩ : ∃ e, min E b = e := ⟨_, rfl⟩
      obtain ⟨m, hm⟩ : ∃ m, e - k = m := ⟨_, rfl⟩
      rw [he] at hst HQN
      rw [hm] at hst
      have hxv : (mkX k m Y).1 = (k, m, Y) := mkX_val ⟨by omega, ⟨by omega, by omega⟩, hyo⟩
      have hp1 : pre.length < (gv s a b).length := by rw [← HP.out, hst]; simp
      have HP2 : Box (pre ++ [mkX k m Y] ++ gv s e b = gv s a b) := boxed (by rw [← HP.out, hst]; simp)
      have hem : (e : Int) - (k : Int) = (m : Int) := by omega
      have hke : k < e := by omega
      have heb : e ≤ b := by omega
      have hmn : (if b < E then (b : Int) else (E : Int)) = (e : Int) := by split <;> omega
      clear hst he hm q3 hEl
      gi_wp2_with fail
      gi_quiet (fail)
      have HB2 : Below wr.heap.size wr (wr.drewN nq) := bel_drewN _ _ _
      have HJ2 := boxed (HA.out pre _ _ HJ.out HB2)
      have HV2 := boxed (HV.out.below HB2)
      have dp := cell_one HV2.out.p
      have dc1 : (wr.drewN nq).cell? _ = _ := c1
      have hY := HY.out pre (mkX k m Y) (wr.drewN nq) HJ2.out hp1
      rw [hxv] at hY
      dsimp only at hY
      obtain ⟨fn, tmps, assign, body, hy, hR⟩ := hY
      have HR := boxed hR
      clear hR HB2 HJ HV cf cp ct c0 c1 HJ2 hxv hp1
      generalize wr.drewN nq = wq at *
      gi_wp2_with fail
      refine HR.out.mono ?_
      rintro e' W3 (⟨rfl, hJ3, hk3⟩ | ⟨rfl, hJx3⟩)
      · have HV3 := boxed (hk3 HV2.out)
        have HJ3 := boxed hJ3
        clear hk3 hJ3 HR
        gi_wp2
        go_roundw
        case rel => exact ⟨e, q' + 1, pre ++ [mkX k m Y], heb, by omega, rfl, by go_num, HP2, HJ3, HV3, boxed (fun h => ⟨(HQN.out h).1, by have := (HQN.out h).2.1; have := HEE.out; omega, (HQN.out h).2.2⟩)⟩
        case measure => simp [intOf]; omega
      · gi_wp2
        refine bodyPost_ret (results_none rfl _ _ _) rfl ?_
        exact ⟨⟨_, rfl⟩, .inr ⟨_, ⟨gv s e b, HP2.out⟩, hJx3⟩⟩
    · obtain rfl : k = b := by omega
      have HE : Box (pre = gv s a k) := boxed (by have := HP.out; rw [gv_end s k k (Nat.le_refl _)] at this; simpa using this)
      clear HP HQ
      gi_wp2
      go_end0
      exact ⟨⟨_, rfl⟩, .inl ⟨_, HE.out, HJ.out⟩⟩
set_option maxHeartbeats 1000000 in
theorem between_in (n : Nat) (ao : Option Addr) (len cap : Nat) (a b : Int) (w : World) :
    CallsIn Fence.wide n Tryz.prog 155 #[.slice ao len cap, .int .i64 a, .int .i64 b] w fun e w' => e = .returned (.func (.func 186) #[] #[.pointer (some ⟨w.heap.size + 1, 0, none⟩), .pointer (some ⟨w.heap.size, 0, none⟩), .pointer (some ⟨w.heap.size + 2, 0, none⟩)]) ∧
      w' = ((w.alloc (.cells #[.slice ao len cap] 221)).alloc (.cells #[.int .i64 a] 3)).alloc (.cells #[.int .i64 b] 3) := by
  have hro : (Fence.wide).round = none := rfl
  refine callsIn_of_wp Tryz.func155 rfl trivial ?_ hro
  simp only [Tryz.ntmps155, List.size_toArray, List.length_cons, List.length_nil, Nat.reduceAdd, Nat.reduceSub, Array.replicate_succ, Array.replicate_zero, List.push_toArray, List.append_toArray, List.nil_append, List.cons_append]
  gi_wp2
  go_ret
  exact ⟨rfl, rfl⟩
theorem heap3 (w : World) (o1 o2 o3 : Obj) : (((w.alloc o1).alloc o2).alloc o3).heap[w.heap.size]? = some o1 ∧ (((w.alloc o1).alloc o2).alloc o3).heap[w.heap.size + 1]? = some o2 ∧ (((w.alloc o1).alloc o2).alloc o3).heap[w.heap.size + 2]? = some o3 := by
  refine ⟨?_, ?_, ?_⟩
  · rw [Below.heap_alloc _ _ _ (by simp; omega), Below.heap_alloc _ _ _ (by simp)]; exact heap_alloc_new w o1
  · rw [Below.heap_alloc _ _ _ (by simp)]
    have := heap_alloc_new (w.alloc o1) o2
    rwa [World.size_alloc] at this
  · have := heap_alloc_new ((w.alloc o1).alloc o2) o3
    rwa [World.size_alloc, World.size_alloc] at this
theorem between_stops (n n₀ Bf Bp Bt : Nat) (ao : Option Addr) (cap : Nat) (s : List Int) (a b : Nat) (hab : a ≤ b) (hb : b ≤ s.length) (hl : s.length ≤ 65536) (hs : Sok s) (w : World) (hv : Vw n₀ Bf Bp Bt ao cap s a b w) :
    SeqStopsK Fence.wide n Tryz.prog 186 #[.pointer (some ⟨Bf, 0, none⟩), .pointer (some ⟨Bp, 0, none⟩), .pointer (some ⟨Bt, 0, none⟩)] (fun x : X => #[Value.int .i64 (x.1.1 : Nat), Value.agg #[.int .i64 (x.1.2.1 : Nat), .int .i64 x.1.2.2]])
      (fun A B => Vw n₀ Bf Bp Bt ao cap s a b A → Vw n₀ Bf Bp Bt ao cap s a b B) (fun ys => ys = gv s a b) (fun pre => pre <+: gv s a b) (gv s a b).length w := fun l J Jx W hW hJa _ hY h0 =>
  between1_in n l n₀ Bf Bp Bt ao cap s a b hab hb hl hs J Jx hY W (hv.below hW) h0 (fun pre W1 W2 h hb => hJa pre W1 W2 none h (below_grown hb none) (fun r e => by cases e))
theorem wp_btw {g : Operand} {ps : Array Tmp} {assign body : Code} {Q : Exit → Act → World → Prop} {act : Act} {w : World} (n₀ Bf Bp Bt : Nat) (ao : Option Addr) (cap : Nat) (s : List Int) (a b : Nat) (hab : a ≤ b) (hb : b ≤ s.length) (hl : s.length ≤ 65536) (hs : Sok s)
    (hg : act.eval g = .func (.func 186) #[] #[.pointer (some ⟨Bf, 0, none⟩), .pointer (some ⟨Bp, 0, none⟩), .pointer (some ⟨Bt, 0, none⟩)]) (hv : Vw n₀ Bf Bp Bt ao cap s a b w) (hn : n₀ ≤ w.heap.size) (hps : 2 = ps.size)
    (I : List X → World → Prop) (Ix : Code → List X → World → Prop) (hI : OwnFrom w.heap.size I) (hIx : ∀ c, OwnFrom w.heap.size (Ix c)) (h0 : I [] w) (Ax : X → Act → World → Prop) (hAx : ∀ x a', OwnFrom w.heap.size (fun (_ : Unit) W => Ax x a' W))
    (hassign : ∀ (l : Nat) (pre : List X) (x : X) (W : World) (K : Act → World → Prop), I pre W → Vw n₀ Bf Bp Bt ao cap s a b W → (∀ a' W', KeepsFrom w.heap.size W W' → Vw n₀ Bf Bp Bt ao cap s a b W' → I pre W' → Ax x a' W' → K a' W') →
      assign.wpIn (Fence.wide.inRound l) 3 Tryz.prog (Exit.then K (fun _ _ _ => False)) { tmps := (ps.zip #[Value.int .i64 (x.1.1 : Nat), Value.agg #[.int .i64 (x.1.2.1 : Nat), .int .i64 x.1.2.2]]).foldl (fun t (p, v) => t.setIfInBounds p v) act.tmps, defers := [] } W)
    (hbody : ∀ (l : Nat) (pre : List X) (x : X) (a' : Act) (W : World), w.heap.size ≤ l → I pre W → Vw n₀ Bf Bp Bt ao cap s a b W → Ax x a' W → pre.length < (gv s a b).length →
      body.wpIn (Fence.wide.inRound l) 3 Tryz.prog (ownPostG w.heap.size (fun _ B => Vw n₀ Bf Bp Bt ao cap s a b B) I Ix (pre ++ [x]) W) a' W)
    (hdone : ∀ (D : Nat) (W : World), w.heap.size ≤ D → I (gv s a b) W → Vw n₀ Bf Bp Bt ao cap s a b W → W.heap[D]? = some (.deferred (some [])) → Q .normal { act with defers := { target := .collected D, args := #[] } :: act.defers } W)
    (hstop : ∀ (D : Nat) (c : Code) (pre : List X) (W : World), w.heap.size ≤ D → pre <+: gv s a b → Ix c pre W → W.heap[D]? = some (.deferred (some [])) → c.wpIn Fence.wide 5 Tryz.prog Q { act with defers := { target := .collected D, args := #[] } :: act.defers } W) :
    (Code.rangeFunc g ps assign body).wpIn Fence.wide 5 Tryz.prog Q act w := by
  have hVo : OwnFrom (β := List X) w.heap.size (fun _ W => Vw n₀ Bf Bp Bt ao cap s a b W) := by
    intro _ W W' row h hg hr
    refine h.kept hg (fun e => ?_) (fun e => ?_) (fun e => ?_) (fun r e => by have := (hr r e).1; omega)
    · obtain ⟨-, o, ho, hc⟩ := hr _ e; rw [h.f] at ho; cases ho; cases hc
    · obtain ⟨-, o, ho, hc⟩ := hr _ e; rw [h.p] at ho; cases ho; cases hc
    · obtain ⟨-, o, ho, hc⟩ := hr _ e; rw [h.t] at ho; cases ho; cases hc
  refine wpIn_rangeFunc_ownH (F := Fence.wide) (n := 5) rfl (by omega) hg trivial (enters_of Tryz.func186 (by kernel_rfl) rfl)
    (between_stops (5 - 1) n₀ Bf Bp Bt ao cap s a b hab hb hl hs w hv) (fun h k hv => k (h hv)) (Vw.turn hn) (Below.refl _ _) (fun _ => hps)
    (fun pre W => I pre W ∧ Vw n₀ Bf Bp Bt ao cap s a b W) Ix (OwnFrom.and hI hVo) hIx ⟨h0, hv⟩ Ax hAx ?_ ?_ ?_ hstop
  · intro l pre x W K hIV hK
    exact hassign l pre x W K hIV.1 hIV.2 (fun a' W' k1 k2 k3 k4 => hK a' W' k1 (fun _ => k2) ⟨k3, k2⟩ k4)
  · intro l pre x a' W hl _ hIV hA hlt
    refine wpIn_mono (hbody l pre x a' W hl hIV.1 hIV.2 hA hlt) ?_
    intro e a'' W' h
    cases e with
    | normal => exact ⟨h.1, fun _ => h.2.1, h.2.2, h.2.1⟩
    | ret => exact h
    | exit _ => exact h
    | goto _ => exact h
    | panic _ => exact h
    | outgrown => exact h
  · rintro D ys W hD rfl hIV hK
    exact hdone D W hD hIV.1 hIV.2 hK
end Go.Proofs.YtcjcdpfjnomehaaGreat.Ru

/-
  What the program's told and all answer: the runs of a part; has it one style throughout?
-/
namespace Go.Proofs.YtcjcdpfjnomehaaGreat.Ru
open Go.RowKit Go.Shelf
set_option linter.unusedSimpArgs false
set_option linter.unusedVariables false
attribute [local go_sem] Oper.semAt_some
theorem info_run : (Tryz.prog.info? 61).map (fun i => (i.zero, i.size, i.bytes)) = some (some (.agg #[.int .i64 0, .int .i64 0]), 2, 16) := by kernel_rfl
def rcs : List (Nat × Int) → List Value
  | [] => []
  | p :: r => .int .i64 (p.1 : Int) :: .int .i64 p.2 :: rcs r
theorem rcs_app (R Q : List (Nat × Int)) : rcs (R ++ Q) = rcs R ++ rcs Q := by
  induction R with
  | nil => rfl
  | cons p r ih => simp [rcs, ih]
theorem rcs_len (R : List (Nat × Int)) : (rcs R).length = R.length * 2 := by
  induction R with
  | nil => rfl
  | cons p r ih => simp [rcs, ih]; omega
theorem rcs_get (R : List (Nat × Int)) (i : Nat) (h : i < R.length) : (rcs R)[i * 2]? = some (.int .i64 (((R.getD i (0, 0)).1 : Nat) : Int)) ∧ (rcs R)[i * 2 + 1]? = some (.int .i64 (Ys R i)) := by
  induction R generalizing i with
  | nil => simp at h
  | cons p r ih =>
    cases i with
    | zero => simp [rcs, Ys]
    | succ i =>
      have := ih i (by simpa using h)
      rw [show (i + 1) * 2 = i * 2 + 1 + 1 from by omega, Ys_cons]
      simp only [rcs, List.getElem?_cons_succ, List.getD_cons_succ]
      exact this
theorem blk_turn {W W' : World} {row : Option Nat} {b : Nat} {cs : Array Value} {t : TypeId} {fz : Nat × Nat} (h : W.heap[b]? = some (.cells cs t fz)) (hg : W.grownBy W' row) (hr : ∀ r, row = some r → ∃ o : Obj, W.heap[r]? = some o ∧ o.isCells = false) : W'.heap[b]? = some (.cells cs t fz) := by
  rw [hg.block b (Array.getElem?_eq_some_iff.1 h).1 (fun e => ?_)]
  · exact h
  · obtain ⟨o, ho, hc⟩ := hr b e.symm
    rw [h] at ho; cases ho; cases hc
theorem owns_turn {W W' : World} {row : Option Nat} {B e size n : Nat} {v : Value} {xs : List Value} (h : W.ownsRow B e size v n xs) (hg : W.grownBy W' row) (hr : ∀ r, row = some r → ∃ o : Obj, W.heap[r]? = some o ∧ o.isCells = false) : W'.ownsRow B e size v n xs := by
  refine h.kept hg ?_
  rcases h.2 with ⟨rfl, _⟩ | ⟨g, cap, cur, rfl, _, hg', _⟩
  · exact .inl rfl
  · refine .inr fun e' => ?_
    obtain ⟨o, ho, hc⟩ := hr g (by simpa [Value.ownBlock] using e'.symm)
    rw [hg'] at ho; cases ho; cases hc
theorem owns_blk {W : World} {B e size n : Nat} {v : Value} {xs : List Value} (h : W.ownsRow B e size v n xs) : ∀ r, v.ownBlock = some r → B ≤ r ∧ ∃ cs, W.heap[r]? = some (.cells cs e (0, 0)) := by
  intro r hr
  rcases h.2 with ⟨rfl, _⟩ | ⟨g, cap, cur, rfl, hb, hg', _⟩
  · cases hr
  · cases hr; exact ⟨hb, _, hg'⟩
theorem keeps_grown {W W' : World} {row : Option Nat} (hg : W.grownBy W' row) (hr : ∀ r, row = some r → ∃ cs t fz, W.heap[r]? = some (.cells cs t fz)) : KeepsOthers W W' := by
  refine ⟨hg.size, fun k o hk hc => ?_⟩
  rw [hg.block k (Array.getElem?_eq_some_iff.1 hk).1 (fun e => ?_)]
  · exact hk
  · obtain ⟨cs, t, fz, h⟩ := hr k e.symm
    rw [h] at hk; cases hk; cases hc
theorem grown_set (w : World) (b i : Nat) (u : Value) : w.grownBy (w.setCell ⟨b, i, none⟩ u) (some b) :=
  ⟨rfl, rfl, rfl, by simp, fun k _ hk => heap_setCell_other w ⟨b, i, none⟩ k u (fun e => hk (by simp [e]))⟩
theorem set_one {w : World} {b : Nat} {v u : Value} {t : TypeId} (h : w.heap[b]? = some (.cells #[v] t (0, 0))) : (w.setCell ⟨b, 0, none⟩ u).heap[b]? = some (.cells #[u] t (0, 0)) := by
  simp [World.setCell, Array.getElem?_modify, h]
theorem frz_one {w : World} {b : Nat} {v : Value} {t : TypeId} (h : w.heap[b]? = some (.cells #[v] t (0, 0))) : w.frozen? ⟨b, 0, none⟩ = false := by
  unfold World.frozen?; rw [h]; simp
theorem row_step0 {W w6 : World} {bx B n m : Nat} {te tb : TypeId} {v v' : Value} {xs ys : List Value} (hv : W.heap[bx]? = some (.cells #[v] tb (0, 0))) (hown : W.ownsRow B te 2 v n xs) (hg : W.grownBy w6 v.ownBlock) (hown6 : w6.ownsRow B te 2 v' m ys) (htt : tb ≠ te) :
    w6.heap[bx]? = some (.cells #[v] tb (0, 0)) ∧ (w6.setCell ⟨bx, 0, none⟩ v').heap[bx]? = some (.cells #[v'] tb (0, 0)) ∧ (w6.setCell ⟨bx, 0, none⟩ v').ownsRow B te 2 v' m ys ∧ KeepsOthers W (w6.setCell ⟨bx, 0, none⟩ v') ∧
      ∀ k w, Below k w W → k ≤ bx → k ≤ B → Below k w (w6.setCell ⟨bx, 0, none⟩ v') := by
  have hrow : ∀ r, v.ownBlock = some r → B ≤ r ∧ ∃ cs, W.heap[r]? = some (.cells cs te (0, 0)) := owns_blk hown
  have h6 : w6.heap[bx]? = some (.cells #[v] tb (0, 0)) := by
    rw [hg.block bx (Array.getElem?_eq_some_iff.1 hv).1 (fun e => ?_)]
    · exact hv
    · obtain ⟨-, cs', h3⟩ := hrow bx e.symm
      rw [hv] at h3
      injection h3 with h3
      injection h3 with _ h4 _
      exact htt h4
  have ho6 : v'.ownBlock ≠ some bx := by
    intro e
    obtain ⟨-, cs, h3⟩ := owns_blk hown6 bx e
    rw [h6] at h3
    injection h3 with h3
    injection h3 with _ h4 _
    exact htt h4
  refine ⟨h6, set_one h6, hown6.kept (grown_set w6 bx 0 v') (.inr ho6), (keeps_grown hg (fun r e => by obtain ⟨-, cs, h⟩ := hrow r e; exact ⟨_, _, _, h⟩)).trans (KeepsOthers.setCell _ _ _), ?_⟩
  intro k w hb h1 h2
  exact (hb.grown hg (by have := hb.size; have := (Array.getElem?_eq_some_iff.1 hv).1; omega) (fun r e => by have := (hrow r e).1; omega)).setCell (p := ⟨bx, 0, none⟩) h1 _
theorem row_stepV {n₀ Bf Bp Bt : Nat} {ao : Option Addr} {cap : Nat} {s : List Int} {a b : Nat} {W w6 : World} {bx B n : Nat} {te : TypeId} {v : Value} {xs : List Value} (v' : Value) (hown : W.ownsRow B te 2 v n xs) (hg : W.grownBy w6 v.ownBlock)
    (ht3 : te ≠ 3) (htp : te ≠ 221) (hV : Vw n₀ Bf Bp Bt ao cap s a b W) (hx1 : bx ≠ Bf) (hx2 : bx ≠ Bp) (hx3 : bx ≠ Bt) (hnB : n₀ ≤ B) (hnx : n₀ ≤ bx) : Vw n₀ Bf Bp Bt ao cap s a b (w6.setCell ⟨bx, 0, none⟩ v') := by
  have hrow : ∀ r, v.ownBlock = some r → B ≤ r ∧ ∃ cs, W.heap[r]? = some (.cells cs te (0, 0)) := owns_blk hown
  have hnr : ∀ {k : Nat} {cs : Array Value} {t : TypeId} {fz : Nat × Nat}, W.heap[k]? = some (.cells cs t fz) → t ≠ te → v.ownBlock ≠ some k := by
    intro k cs t fz h1 h2 e
    obtain ⟨-, cs', h3⟩ := hrow k e
    rw [h1] at h3
    injection h3 with h3
    injection h3 with _ h4 _
    exact h2 h4
  have hV6 : Vw n₀ Bf Bp Bt ao cap s a b w6 := hV.kept hg (hnr hV.f (Ne.symm ht3)) (hnr hV.p (Ne.symm htp)) (hnr hV.t (Ne.symm ht3)) (fun r e => by have := (hrow r e).1; omega)
  exact hV6.kept (grown_set w6 bx 0 v') (fun e => by injection e with e; exact hx1 e) (fun e => by injection e with e; exact hx2 e) (fun e => by injection e with e; exact hx3 e) (fun r e => by injection e with e; omega)
def Tv (w : World) (pre : List X) (W : World) : Prop := (∃ v, W.heap[w.heap.size]? = some (.cells #[v] 23 (0, 0)) ∧ W.ownsRow w.heap.size 61 2 v pre.length (rcs (rof pre))) ∧ Below w.heap.size w W
theorem Tv.own (w : World) (B : Nat) (hB : w.heap.size ≤ B) : OwnFrom B (Tv w) := by
  rintro pre W W' row ⟨⟨v, h1, h2⟩, h3⟩ hg hr
  exact ⟨⟨v, blk_turn h1 hg (fun r e => (hr r e).2), owns_turn h2 hg (fun r e => (hr r e).2)⟩, h3.grown hg h3.size (fun r e => by have := (hr r e).1; omega)⟩
set_option maxRecDepth 100000 in
set_option maxHeartbeats 4000000 in
theorem told_in {w : World} {lb : Nat} {ao : Option Addr} {cap : Nat} {s : List Int} {bare : Int} (h : ListAt w lb ao cap s bare) (a b : Nat) (hab : a ≤ b) (hb : b ≤ s.length) :
    CallsIn Fence.wide 5 Tryz.prog 111 #[.pointer (some ⟨lb, 0, none⟩), .int .i64 (a : Nat), .int .i64 (b : Nat)] w fun e w' => ∃ v, e = .returned v ∧ w'.ownsRow w.heap.size 61 2 v (enc (sub s a b)).length (rcs (enc (sub s a b))) ∧ Below w.heap.size w w' := by
  have hro : (Fence.wide).round = none := rfl
  have hd : (Fence.wide).depth = none := rfl
  have c0 := h.c0
  have hlt := h.lt
  have hne : lb ≠ w.heap.size := by omega
  have hl := h.len
  have HS := boxed h.ok
  have HP := boxed h.pts
  clear h
  refine callsIn_of_wp_marks Tryz.func111 rfl trivial ?_ hro
  simp only [Tryz.ntmps111, List.size_toArray, List.length_cons, List.length_nil, Nat.reduceAdd, Nat.reduceSub, Array.replicate_succ, Array.replicate_zero, List.push_toArray, List.append_toArray, List.nil_append, List.cons_append]
  gi_wp2_with fail
  refine ⟨trivial, (between_in _ ao (enc s).length cap _ _ _).mono ?_⟩
  rintro e w' ⟨rfl, hw'⟩
  gi_wp2_with fail
  generalize hw3 : ((((w.alloc (Obj.cells #[Value.slice none 0 0] 23)).alloc (Obj.cells #[Value.slice ao (enc s).length cap] 221)).alloc (Obj.cells #[Value.int IntKind.i64 (a : Nat)] 3)).alloc (Obj.cells #[Value.int IntKind.i64 (b : Nat)] 3)) = w3
  have hz3 : w3.heap.size = w.heap.size + 4 := by rw [← hw3]; simp
  have HB3 : Box (Below w.heap.size w w3) := boxed (by rw [← hw3]; exact (((((Below.refl _ w).alloc (Nat.le_refl _) _).alloc (by simp) _).alloc (by simp; omega) _).alloc (by simp; omega) _))
  have HV3 : Vw w.heap.size (w.heap.size + 1 + 1) (w.heap.size + 1) (w.heap.size + 1 + 2) ao cap s a b w3 := by
    have h3 := heap3 (w.alloc (Obj.cells #[Value.slice none 0 0] 23)) (Obj.cells #[Value.slice ao (enc s).length cap] 221) (Obj.cells #[Value.int IntKind.i64 (a : Nat)] 3) (Obj.cells #[Value.int IntKind.i64 (b : Nat)] 3)
    rw [World.size_alloc, hw3] at h3
    exact ⟨h3.2.1, h3.1, h3.2.2, HP.out.keep (fun k i u hs hc => ⟨World.block_lt_of_cell? w ⟨k, i, none⟩ hc, hold HB3.out hc⟩)⟩
  have HT3 : Tv w [] w3 := by
    refine ⟨⟨.slice none 0 0, ?_, World.ownsRow_nil _ _ _ _⟩, HB3.out⟩
    rw [← hw3, Below.heap_alloc _ _ _ (by simp; omega), Below.heap_alloc _ _ _ (by simp; omega), Below.heap_alloc _ _ _ (by simp)]
    exact heap_alloc_new w _
  clear hw3
  refine wp_btw w.heap.size (w.heap.size + 1 + 1) (w.heap.size + 1) (w.heap.size + 1 + 2) ao cap s a b hab hb hl HS.out rfl HV3 (by omega) rfl
    (Tv w) (fun _ _ _ => False) (Tv.own w _ (by omega)) (fun _ _ _ _ _ h _ _ => h) HT3
    (fun x a' W => ∃ rb, a' = { tmps := #[.pointer (some ⟨lb, 0, none⟩), .int .i64 (a : Nat), .int .i64 (b : Nat), undef, undef, undef, .slice none 0 0, .pointer (some ⟨w.heap.size, 0, none⟩), undef, .pointer (some ⟨rb, 0, none⟩), .pointer (some ⟨lb, 0, none⟩), .pointer (some ⟨lb, 0, none⟩), .pointer (some ⟨lb, 0, none⟩), .slice ao (enc s).length cap, .int .i64 (a : Nat), .int .i64 (b : Nat),
      .func (.func 186) #[] #[.pointer (some ⟨w.heap.size + 1 + 1, 0, none⟩), .pointer (some ⟨w.heap.size + 1, 0, none⟩), .pointer (some ⟨w.heap.size + 1 + 2, 0, none⟩)], .int .i64 (x.1.1 : Nat), .agg #[.int .i64 (x.1.2.1 : Nat), .int .i64 x.1.2.2], undef, undef, undef, undef, undef], defers := [] } ∧ W.heap[rb]? = some (.cells #[.int .i64 (x.1.2.1 : Nat), .int .i64 x.1.2.2] 61 (0, 0)))
    (fun x a' _ W W' row h hg hr => by obtain ⟨rb, e, hb⟩ := h; exact ⟨rb, e, blk_turn hb hg (fun r e => (hr r e).2)⟩) ?assign ?body ?done ?stop
  case assign =>
    intro l pre x W K hI hV hK
    have HI := boxed hI
    have HVx := boxed hV
    have HKx := boxed hK
    clear hI hV hK
    gi_wp2
    obtain ⟨⟨v, hv, hown⟩, hB⟩ := HI.out
    have hBA := (Below.refl W.heap.size W).alloc (Nat.le_refl _) (Obj.cells #[Value.int IntKind.i64 (x.1.2.1 : Nat), Value.int IntKind.i64 x.1.2.2] 61)
    exact HKx.out _ _ ((KeepsOthers.alloc _ _).from _) (HVx.out.below hBA) ⟨⟨v, by rw [hBA.block _ (Array.getElem?_eq_some_iff.1 hv).1]; exact hv, hown.alloc _⟩, hB.alloc hB.size _⟩ ⟨W.heap.size, rfl, heap_alloc_new _ _⟩
  case body =>
    rintro l pre x a' W hl' ⟨⟨v, hv, hown⟩, hB⟩ hV ⟨rb, rfl, hrb⟩ hlt'
    obtain ⟨i0, hi, hz0, hz1, hz2⟩ := info_parts info_run
    have cv := cell_one hv
    have fv := frz_one hv
    have cr0 : W.cell? ⟨rb, 0, none⟩ = some (.int .i64 (x.1.2.1 : Nat)) := by simp [World.cell?, hrb]
    have cr1 : W.cell? ⟨rb, 1, none⟩ = some (.int .i64 x.1.2.2) := by simp [World.cell?, hrb]
    have hgl := gv_len s a b hb
    have HVx := boxed hV
    have HH := boxed hv
    have HBx := boxed hB
    have HOx := boxed hown
    have hszW := hB.size
    have hvlt := (Array.getElem?_eq_some_iff.1 hv).1
    clear hV hv hB hrb
    gi_wp2_with (gi_at_builtin; refine wpListIn_append_own _ rfl _ _ 23 rfl w.heap.size 61 i0 _ 2 16 Tryz.underlying23 hi hz0 hz1 hz2 rfl (by decide) _ _ _ rfl (hown.alloc _) ⟨W.heap.size, 0, none⟩ 1 1 [.int .i64 (x.1.2.1 : Nat), .int .i64 x.1.2.2] rfl rfl ?c1 ?c2 ?c3 ?c4 ?c5 ?_)
    case c1 =>
      intro j u hj
      match j, hj with
      | 0, hj => simp at hj; subst hj; simp [Addr.add]
      | 1, hj => simp at hj; subst hj; simp [Addr.add]
    case c2 => intro u hu; simp at hu; rcases hu with rfl | rfl <;> rfl
    case c3 => unfold maxLen; omega
    case c4 => omega
    case c5 => simp; omega
    intro v' w6 hown6 hgrow6 _
    obtain ⟨g', cap', hv'⟩ := ownsRow_form hown6 (by omega)
    have hg1 : W.grownBy w6 v.ownBlock := grown_trans (World.grownBy_alloc _ _ _) hgrow6
    obtain ⟨r1, r2, r3, r4, r6⟩ := row_step0 HH.out HOx.out hg1 hown6 (by decide)
    have r5 := row_stepV (bx := w.heap.size) v' HOx.out hg1 (by decide) (by decide) HVx.out (by omega) (by omega) (by omega) (Nat.le_refl _) (Nat.le_refl _)
    have c6 := cell_one r1
    have f6 := frz_one r1
    have HF : Box (rcs (rof pre) ++ [.int .i64 (x.1.2.1 : Nat), .int .i64 x.1.2.2] = rcs (rof (pre ++ [x])) ∧ pre.length + 1 = (pre ++ [x]).length) := boxed ⟨by rw [rof_snoc, rcs_app]; simp [rcs], by simp⟩
    rw [HF.out.1, HF.out.2] at r3
    have HR : Box (KeepsFrom w3.heap.size W (w6.setCell ⟨w.heap.size, 0, none⟩ v') ∧ Vw w.heap.size (w.heap.size + 1 + 1) (w.heap.size + 1) (w.heap.size + 1 + 2) ao cap s a b (w6.setCell ⟨w.heap.size, 0, none⟩ v') ∧ Tv w (pre ++ [x]) (w6.setCell ⟨w.heap.size, 0, none⟩ v')) := boxed ⟨r4.from _, r5, ⟨v', r2, r3⟩, r6 _ _ HBx.out (Nat.le_refl _) (Nat.le_refl _)⟩
    clear r1 r2 r3 r4 r5 r6 hown6 hgrow6 hg1 hown HH HOx
    subst hv'
    gi_wp2
    exact HR.out
  case done =>
    rintro D W hD ⟨⟨v, hv, hown⟩, hB⟩ hV hK
    have cv := cell_one hv
    have fv := frz_one hv
    have HR := boxed (gv_rof HS.out a b hab hb hl)
    rw [← rof_len, HR.out] at hown
    have HOx := boxed hown
    have HBx := boxed hB
    clear hown hB hV
    gi_wp2
    refine ⟨by simp, .inl ⟨_, _, rfl, run_takeDeferred hK, ?_⟩⟩
    exact ⟨_, results_tmp rfl _ _ _, v, rfl, ownsRow_putObj HOx.out _ hK rfl, HBx.out.trans (belowK_b (w := w) (Nat.le_refl _) W D _ _ (by omega) hK rfl rfl)⟩
  case stop =>
    rintro D c pre W _ _ h _
    exact h.elim
theorem told_any {w : World} {lb : Nat} {ao : Option Addr} {cap : Nat} {s : List Int} {bare : Int} (h : ListAt w lb ao cap s bare) (a b : Nat) (hab : a ≤ b) (hb : b ≤ s.length) :
    Calls Tryz.prog 111 #[.pointer (some ⟨lb, 0, none⟩), .int .i64 (a : Nat), .int .i64 (b : Nat)] w fun e w' => ∃ v, e = .returned v ∧ w'.ownsRow w.heap.size 61 2 v (enc (sub s a b)).length (rcs (enc (sub s a b))) ∧ Below w.heap.size w w' :=
  callsIn_wide.1 (told_in h a b hab hb)
end Go.Proofs.YtcjcdpfjnomehaaGreat.Ru

/-
  What the program's put does: runs in the place of others.
-/
namespace Go.Proofs.YtcjcdpfjnomehaaGreat.Ru
open Go.RowKit Go.Shelf
set_option linter.unusedSimpArgs false
set_option linter.unusedVariables false
attribute [local go_sem] Oper.semAt_some
def exr (L Y : Nat → Int) : Nat → List Int
  | 0 => []
  | k + 1 => exr L Y k ++ List.replicate (L k).toNat (Y k)
theorem exr_len (L Y : Nat → Int) (n k : Nat) (hk : k ≤ n) (h : ∀ i, i < n → 0 ≤ L i ∧ L i ≤ 65536) : (exr L Y k).length ≤ k * 65536 := by
  induction k with
  | zero => simp [exr]
  | succ k ih =>
    have := ih (by omega)
    have := h k (by omega)
    simp only [exr, List.length_append, List.length_replicate]
    omega
theorem exr_ok (L Y : Nat → Int) (n k : Nat) (hk : k ≤ n) (h : ∀ i, i < n → 0 ≤ Y i ∧ Y i < 32) : Sok (exr L Y k) := by
  induction k with
  | zero => intro y hy; simp [exr] at hy
  | succ k ih =>
    intro y hy
    simp only [exr, List.mem_append, List.mem_replicate] at hy
    rcases hy with hy | ⟨_, rfl⟩
    · exact ih (by omega) y hy
    · exact h k (by omega)
def Pw (w : World) (Dl : List Nat) (q : List Int) (W : World) : Prop := (∃ v, W.heap[w.heap.size]? = some (.cells #[v] 221 (0, 0)) ∧ W.ownsRow w.heap.size 233 2 v (enc q).length (pcs 0 (enc q))) ∧ Below w.heap.size w W ∧ ∀ D ∈ Dl, W.heap[D]? = some (.deferred (some []))
theorem Pw.own {β : Type} (w : World) (Dl : List Nat) (q : β → List Int) (B : Nat) (hB : w.heap.size ≤ B) (hD : ∀ D ∈ Dl, D < B) : OwnFrom B (fun x W => Pw w Dl (q x) W) := by
  rintro pre W W' row ⟨⟨v, h1, h2⟩, h3, h4⟩ hg hr
  refine ⟨⟨v, blk_turn h1 hg (fun r e => (hr r e).2), owns_turn h2 hg (fun r e => (hr r e).2)⟩, h3.grown hg h3.size (fun r e => by have := (hr r e).1; omega), fun D hd => ?_⟩
  rw [hg.block D (Array.getElem?_eq_some_iff.1 (h4 D hd)).1 (fun e => by have := (hr D e.symm).1; have := hD D hd; omega)]
  exact h4 D hd
theorem Pw.below {w : World} {Dl : List Nat} {q : List Int} {W W' : World} (h : Pw w Dl q W) (hb : Below W.heap.size W W') : Pw w Dl q W' := by
  obtain ⟨⟨v, h1, h2⟩, h3, h4⟩ := h
  exact ⟨⟨v, by rw [hb.block _ (Array.getElem?_eq_some_iff.1 h1).1]; exact h1, owns_below h2 hb⟩, below_step h3 (Nat.le_refl _) hb, fun D hd => by rw [hb.block _ (Array.getElem?_eq_some_iff.1 (h4 D hd)).1]; exact h4 D hd⟩
theorem sok_app {a b : List Int} (h1 : Sok a) (h2 : Sok b) : Sok (a ++ b) := fun y hy => (List.mem_append.1 hy).elim (h1 y) (h2 y)
theorem sok_i64 {q : List Int} (h : Sok q) : ∀ y ∈ q, I64 y := fun y hy => by have := h y hy; exact ⟨by omega, by omega⟩
theorem Pw.add {w : World} {Dl : List Nat} {q : List Int} {W : World} (h : Pw w Dl q W) (hq : Sok q) (l : Nat) (y : Int) (hl : q.length ≤ 8589869056) (hl0 : l ≤ 65536) (hy : I64 y) :
    ∃ v, W.heap[w.heap.size]? = some (.cells #[v] 221 (0, 0)) ∧ ∀ W1, Below W.heap.size W W1 → Calls Tryz.prog 152 #[v, .agg #[.int .i64 (l : Nat), .int .i64 y]] W1 fun e w6 => ∃ ao n cap, e = .returned (.slice ao n cap) ∧ w6.heap[w.heap.size]? = some (.cells #[v] 221 (0, 0)) ∧
      Pw w Dl (q ++ List.replicate l y) (w6.setCell ⟨w.heap.size, 0, none⟩ (.slice ao n cap)) ∧ KeepsOthers W (w6.setCell ⟨w.heap.size, 0, none⟩ (.slice ao n cap)) ∧
      ∀ n₀ Bf Bp Bt po pc s a b, Vw n₀ Bf Bp Bt po pc s a b W → w.heap.size ≠ Bf → w.heap.size ≠ Bp → w.heap.size ≠ Bt → n₀ ≤ w.heap.size → Vw n₀ Bf Bp Bt po pc s a b (w6.setCell ⟨w.heap.size, 0, none⟩ (.slice ao n cap)) := by
  obtain ⟨⟨v, h1, h2⟩, h3, h4⟩ := h
  refine ⟨v, h1, fun W1 hW1 => ?_⟩
  have k1 : W1.heap[w.heap.size]? = some (.cells #[v] 221 (0, 0)) := by rw [hW1.block _ (Array.getElem?_eq_some_iff.1 h1).1]; exact h1
  have k2 := owns_below h2 hW1
  have k3 : Below w.heap.size w W1 := below_step h3 (Nat.le_refl _) hW1
  have kk : KeepsOthers W W1 := keeps_grown (below_grown hW1 none) (fun r e => by cases e)
  refine (add_any w.heap.size v q l y W1 k2 (sok_i64 hq) hl hl0 hy k3.size).mono ?_
  rintro e w6 ⟨v', rfl, hown6, hg⟩
  obtain ⟨ao, cap, rfl⟩ : ∃ ao cap, v' = .slice ao (enc (q ++ List.replicate l y)).length cap := by
    rcases ownsRow_forms hown6 with ⟨g1, g2⟩ | ⟨g, cap, g1⟩
    · exact ⟨none, 0, by rw [g2]; exact g1⟩
    · exact ⟨_, _, g1⟩
  obtain ⟨r1, r2, r3, r4, r6⟩ := row_step0 k1 k2 hg hown6 (by decide)
  refine ⟨ao, _, cap, rfl, r1, ⟨⟨_, r2, r3⟩, r6 _ _ k3 (Nat.le_refl _) (Nat.le_refl _), fun D hd => ?_⟩, kk.trans r4, ?_⟩
  · exact (kk.trans r4).same D _ (h4 D hd) rfl
  · intro n₀ Bf Bp Bt po pc s a b hV x1 x2 x3 x4
    exact row_stepV (bx := w.heap.size) _ k2 hg (by decide) (by decide) (hV.below hW1) x1 x2 x3 x4 x4
end Go.Proofs.YtcjcdpfjnomehaaGreat.Ru

/-
  What the program's put does: runs in the place of others (the walk).
-/
namespace Go.Proofs.YtcjcdpfjnomehaaGreat.Ru
open Go.RowKit Go.Shelf
set_option linter.unusedSimpArgs false
set_option linter.unusedVariables false
attribute [local go_sem] Oper.semAt_some
theorem below_three (w : World) (o1 o2 o3 : Obj) : Below w.heap.size w (((w.alloc o1).alloc o2).alloc o3) := (((Below.refl _ w).alloc (Nat.le_refl _) _).alloc (by simp) _).alloc (by simp; omega) _
theorem set0_heap {w : World} {b : Nat} {v0 v1 v : Value} {t : TypeId} (h : w.heap[b]? = some (.cells #[v0, v1] t (0, 0))) : (w.setCell ⟨b, 0, none⟩ v).heap[b]? = some (.cells #[v, v1] t (0, 0)) := by
  simp [World.setCell, Array.getElem?_modify, h]
theorem set1_heap {w : World} {b : Nat} {v0 v1 v : Value} {t : TypeId} (h : w.heap[b]? = some (.cells #[v0, v1] t (0, 0))) : (w.setCell ⟨b, 1, none⟩ v).heap[b]? = some (.cells #[v0, v] t (0, 0)) := by
  simp [World.setCell, Array.getElem?_modify, h]
theorem put_end {w W2 : World} {lb D D2 : Nat} {ao9 : Option Addr} {cap9 : Nat} {q9 : List Int} {x0 : Value} {bare : Int} (hblk : W2.heap[lb]? = some (.cells #[x0, .int .i64 bare] 224 (0, 0))) (hown : W2.ownsRow w.heap.size 233 2 (.slice ao9 (enc q9).length cap9) (enc q9).length (pcs 0 (enc q9)))
    (hB : Below w.heap.size w W2) (hD : W2.heap[D]? = some (.deferred (some []))) (hD2 : W2.heap[D2]? = some (.deferred (some []))) (hlt : lb < w.heap.size) (h1 : w.heap.size ≤ D) (h2 : D < D2) (hl : q9.length ≤ 65536) (hs : Sok q9) (hb : 0 ≤ bare ∧ bare < 32) :
    (W2.setCell ⟨lb, 0, none⟩ (.slice ao9 (enc q9).length cap9)).heap[D2]? = some (.deferred (some [])) ∧ ((W2.setCell ⟨lb, 0, none⟩ (.slice ao9 (enc q9).length cap9)).putObj D2 (.deferred none)).heap[D]? = some (.deferred (some [])) ∧
    ListAt (((W2.setCell ⟨lb, 0, none⟩ (.slice ao9 (enc q9).length cap9)).putObj D2 (.deferred none)).putObj D (.deferred none)) lb ao9 cap9 q9 bare ∧ w.grownBy (((W2.setCell ⟨lb, 0, none⟩ (.slice ao9 (enc q9).length cap9)).putObj D2 (.deferred none)).putObj D (.deferred none)) (some lb) := by
  have k0 := KeepsOthers.setCell W2 ⟨lb, 0, none⟩ (.slice ao9 (enc q9).length cap9)
  have e2 := k0.same D2 _ hD2 rfl
  have e1 := k0.same D _ hD rfl
  have g0 := grown_set W2 lb 0 (.slice ao9 (enc q9).length cap9)
  have b0 := set0_heap (v := .slice ao9 (enc q9).length cap9) hblk
  have o0 := hown.kept g0 (.inr (fun e => by have := (owns_blk hown lb e).1; omega))
  generalize W2.setCell ⟨lb, 0, none⟩ (.slice ao9 (enc q9).length cap9) = W3 at *
  have g1 := grownBy_putObj' W3 D2 (.deferred none)
  have e3 : (W3.putObj D2 (.deferred none)).heap[D]? = some (.deferred (some [])) := by
    rw [g1.block D (Array.getElem?_eq_some_iff.1 e1).1 (fun e => by injection e; omega)]; exact e1
  have n1 : ∀ r, (some D2 : Option Nat) = some r → ∃ o : Obj, W3.heap[r]? = some o ∧ o.isCells = false := fun r e => by injection e with e; subst e; exact ⟨_, e2, rfl⟩
  have b1 := blk_turn b0 g1 n1
  have o1 := owns_turn o0 g1 n1
  generalize W3.putObj D2 (.deferred none) = W4 at *
  have g2 := grownBy_putObj' W4 D (.deferred none)
  have n2 : ∀ r, (some D : Option Nat) = some r → ∃ o : Obj, W4.heap[r]? = some o ∧ o.isCells = false := fun r e => by injection e with e; subst e; exact ⟨_, e3, rfl⟩
  have b2 := blk_turn b1 g2 n2
  have o2 := owns_turn o1 g2 n2
  generalize W4.putObj D (.deferred none) = W5 at *
  refine ⟨e2, e3, ⟨b2, (own_parts o2 (by omega) (fun y hy => by have := hs y hy; exact ⟨by omega, by omega⟩)).keep (fun k i u hk hc => ⟨by omega, hc⟩), hs, hl, hb⟩, ?_⟩
  have z0 := hB.size
  have z1 := g0.size
  have z2 := g1.size
  refine ⟨g2.os.trans (g1.os.trans (g0.os.trans hB.os)), g2.tape.trans (g1.tape.trans (g0.tape.trans hB.tape)), g2.output.trans (g1.output.trans (g0.output.trans hB.output)), by have := g2.size; omega, fun k hk hne => ?_⟩
  rw [g2.block k (by omega) (fun e => by injection e; omega), g1.block k (by omega) (fun e => by injection e; omega), g0.block k (by omega) hne, hB.block k hk]
set_option maxRecDepth 100000 in
set_option maxHeartbeats 8000000 in
theorem put_in {w : World} {lb : Nat} {ao : Option Addr} {cap : Nat} {s : List Int} {bare : Int} (h : ListAt w lb ao cap s bare) (a b : Nat) (hab : a ≤ b) (hb : b ≤ s.length) (ro : Option Addr) (rn rc : Nat) (L Y : Nat → Int) (hr : P2At (· ≠ lb) w ro rn L Y) (hrn : rn ≤ 65536) (hrl : ∀ i, i < rn → 0 ≤ L i ∧ L i ≤ 65536) (hry : ∀ i, i < rn → 0 ≤ Y i ∧ Y i < 32)
    (hlen : (s.take a ++ exr L Y rn ++ s.drop b).length ≤ 65536) :
    CallsIn Fence.wide 5 Tryz.prog 154 #[.pointer (some ⟨lb, 0, none⟩), .int .i64 (a : Nat), .int .i64 (b : Nat), .slice ro rn rc] w fun e w' => e = .returned (.tuple #[]) ∧ ∃ ao' cap', ListAt w' lb ao' cap' (s.take a ++ exr L Y rn ++ s.drop b) bare ∧ w.grownBy w' (some lb) := by
  have hro : (Fence.wide).round = none := rfl
  have hd : (Fence.wide).depth = none := rfl
  have c0 := h.c0
  have hlt := h.lt
  have hne : lb ≠ w.heap.size := by omega
  have hl := h.len
  have HS := boxed h.ok
  have HP := boxed h.pts
  have HL := boxed h
  have HR0 := boxed hr
  have HRL := boxed hrl
  have HRY := boxed hry
  have HLN := boxed hlen
  clear h hr hrl hry hlen
  have hs0 := sub_zero s a
  have HF0 : Box (fl (gv s 0 a) = s.take a) := boxed (by rw [gv_fl HS.out 0 a (by omega) (by omega) hl, hs0])
  refine callsIn_of_wp_marks Tryz.func154 rfl trivial ?_ hro
  simp only [Tryz.ntmps154, List.size_toArray, List.length_cons, List.length_nil, Nat.reduceAdd, Nat.reduceSub, Array.replicate_succ, Array.replicate_zero, List.push_toArray, List.append_toArray, List.nil_append, List.cons_append]
  gi_wp2_with fail
  refine ⟨trivial, (between_in _ ao (enc s).length cap _ _ _).mono ?_⟩
  rintro e w' ⟨rfl, hw'⟩
  gi_wp2_with fail
  clear hw'
  generalize hw3 : ((((w.alloc (Obj.cells #[Value.slice none 0 0] 221)).alloc (Obj.cells #[Value.slice ao (enc s).length cap] 221)).alloc (Obj.cells #[Value.int IntKind.i64 0] 3)).alloc (Obj.cells #[Value.int IntKind.i64 (a : Nat)] 3)) = w3
  have hz3 : w3.heap.size = w.heap.size + 4 := by rw [← hw3]; simp
  have HB3 : Box (Below w.heap.size w w3) := boxed (by rw [← hw3]; exact (((((Below.refl _ w).alloc (Nat.le_refl _) _).alloc (by simp) _).alloc (by simp; omega) _).alloc (by simp; omega) _))
  have HV3 : Vw w.heap.size (w.heap.size + 1 + 1) (w.heap.size + 1) (w.heap.size + 1 + 2) ao cap s 0 a w3 := by
    have h3 := heap3 (w.alloc (Obj.cells #[Value.slice none 0 0] 221)) (Obj.cells #[Value.slice ao (enc s).length cap] 221) (Obj.cells #[Value.int IntKind.i64 0] 3) (Obj.cells #[Value.int IntKind.i64 (a : Nat)] 3)
    rw [World.size_alloc, hw3] at h3
    exact ⟨h3.2.1, h3.1, h3.2.2, HP.out.keep (fun k i u hs hc => ⟨World.block_lt_of_cell? w ⟨k, i, none⟩ hc, hold HB3.out hc⟩)⟩
  have HT3 : Pw w [] (fl []) w3 := by
    refine ⟨⟨.slice none 0 0, ?_, World.ownsRow_nil _ _ _ _⟩, HB3.out, by simp⟩
    rw [← hw3, Below.heap_alloc _ _ _ (by simp; omega), Below.heap_alloc _ _ _ (by simp; omega), Below.heap_alloc _ _ _ (by simp)]
    exact heap_alloc_new w _
  clear hw3
  refine wp_btw w.heap.size (w.heap.size + 1 + 1) (w.heap.size + 1) (w.heap.size + 1 + 2) ao cap s 0 a (Nat.zero_le _) (by omega) hl HS.out rfl HV3 (by omega) rfl
    (fun pre W => Pw w [] (fl pre) W) (fun _ _ _ => False) (Pw.own w [] fl _ (by omega) (by simp)) (fun _ _ _ _ _ h _ _ => h) HT3
    (fun x a' W => ∃ rb, a' = { tmps := #[.pointer (some ⟨lb, 0, none⟩), .int .i64 (a : Nat), .int .i64 (b : Nat), .slice ro rn rc, undef, undef, undef, undef, .pointer (some ⟨w.heap.size, 0, none⟩), undef, .pointer (some ⟨rb, 0, none⟩), undef, undef, undef, undef, .pointer (some ⟨lb, 0, none⟩), .pointer (some ⟨lb, 0, none⟩), .pointer (some ⟨lb, 0, none⟩), .slice ao (enc s).length cap, .int .i64 (a : Nat),
      .func (.func 186) #[] #[.pointer (some ⟨w.heap.size + 1 + 1, 0, none⟩), .pointer (some ⟨w.heap.size + 1, 0, none⟩), .pointer (some ⟨w.heap.size + 1 + 2, 0, none⟩)], .int .i64 (x.1.1 : Nat), .agg #[.int .i64 (x.1.2.1 : Nat), .int .i64 x.1.2.2],
      undef, undef, undef, undef, undef, undef, undef, undef, undef, undef, undef, undef, undef, undef, undef, undef, undef, undef, undef, undef, undef, undef, undef, undef, undef, undef, undef, undef, undef, undef], defers := [] } ∧ W.heap[rb]? = some (.cells #[.int .i64 (x.1.2.1 : Nat), .int .i64 x.1.2.2] 61 (0, 0)))
    (fun x a' _ W W' row h hg hr => by obtain ⟨rb, e, hb⟩ := h; exact ⟨rb, e, blk_turn hb hg (fun r e => (hr r e).2)⟩) ?assign ?body ?done ?stop
  case assign =>
    intro l pre x W K hI hV hK
    have HI := boxed hI
    have HVx := boxed hV
    have HKx := boxed hK
    clear hI hV hK
    gi_wp2
    have hBA := (Below.refl W.heap.size W).alloc (Nat.le_refl _) (Obj.cells #[Value.int IntKind.i64 (x.1.2.1 : Nat), Value.int IntKind.i64 x.1.2.2] 61)
    exact HKx.out _ _ ((KeepsOthers.alloc _ _).from _) (HVx.out.below hBA) (HI.out.below hBA) ⟨W.heap.size, rfl, heap_alloc_new _ _⟩
  case body =>
    rintro l pre x a' W hl' hI hV ⟨rb, rfl, hrb⟩ hlt'
    have hgl := gv_len s 0 a (by omega)
    have hfl := fl_len pre
    obtain ⟨v, hv, hadd⟩ := hI.add (fl_ok pre) x.1.2.1 x.1.2.2 (by omega) x.2.2.1.2 ⟨by have := x.2.2.2; omega, by have := x.2.2.2; omega⟩
    have cv := cell_one hv
    have cr0 : W.cell? ⟨rb, 0, none⟩ = some (.int .i64 (x.1.2.1 : Nat)) := by simp [World.cell?, hrb]
    have cr1 : W.cell? ⟨rb, 1, none⟩ = some (.int .i64 x.1.2.2) := by simp [World.cell?, hrb]
    have HVx := boxed hV
    have HA := boxed hadd
    have HF := boxed (fl_snoc pre x)
    clear hI hV hv hrb hadd
    gi_wp2_with fail
    refine ⟨trivial, (CallsIn.inRound l (callsIn_wide.2 (HA.out W (Below.refl _ _)))).mono ?_⟩
    rintro e w6 ⟨ao6, n6, cap6, rfl, h6, hP6, hK6, hV6⟩
    rw [← HF.out] at hP6
    have HR : Box (KeepsFrom w3.heap.size W (w6.setCell ⟨w.heap.size, 0, none⟩ (.slice ao6 n6 cap6)) ∧ Vw w.heap.size (w.heap.size + 1 + 1) (w.heap.size + 1) (w.heap.size + 1 + 2) ao cap s 0 a (w6.setCell ⟨w.heap.size, 0, none⟩ (.slice ao6 n6 cap6)) ∧ Pw w [] (fl (pre ++ [x])) (w6.setCell ⟨w.heap.size, 0, none⟩ (.slice ao6 n6 cap6))) := boxed ⟨hK6.from _, hV6 _ _ _ _ _ _ _ _ _ HVx.out (by omega) (by omega) (by omega) (Nat.le_refl _), hP6⟩
    have c6 := cell_one h6
    have f6 := frz_one h6
    clear h6 hP6 hK6 hV6 HA HVx cv cr0 cr1
    gi_wp2
    exact HR.out
  case done =>
    rintro D W hD hI hV hK
    rw [HF0.out] at hI
    have HI := boxed hI
    have HKD := boxed hK
    clear hI hV hK HV3 HT3
    have HI2 : Box (Pw w [D] (s.take a ++ exr L Y 0) W) := boxed ⟨by have := HI.out.1; simpa [exr] using this, HI.out.2.1, fun D' hD' => by simp at hD'; subst hD'; exact HKD.out⟩
    have hDz : w.heap.size ≤ D := by omega
    clear HI HKD
    gi_wp2_with fail
    gi_loopw [28] (fun vi wr => ∃ k : Nat, k ≤ rn ∧ vi = .int .i64 (k : Nat) ∧ Box (Pw w [D] (s.take a ++ exr L Y k) wr)) (fun vi _ => rn - (intOf vi).toNat)
    case atStart => exact ⟨0, Nat.zero_le _, rfl, HI2⟩
    case round =>
      obtain ⟨k, hk, rfl, HI⟩ := hrel
      by_cases hkn : k < rn
      · obtain ⟨rb0, off0, rfl, -⟩ := HR0.out.form (by omega)
        obtain ⟨e0, e1⟩ := (HR0.out.below (HI.out.2.1)).get k hkn
        have hLk := HRL.out k hkn
        have hYk := HRY.out k hkn
        have hel := exr_len L Y rn k hk HRL.out
        have HQ : Box (s.take a ++ exr L Y (k + 1) = s.take a ++ exr L Y k ++ List.replicate (L k).toNat (Y k)) := boxed (by simp [exr])
        obtain ⟨m, hm⟩ : ∃ m : Nat, L k = m := ⟨(L k).toNat, by omega⟩
        rw [hm] at e0 hLk
        have hm2 : (L k).toNat = m := by omega
        rw [hm2] at HQ
        have hok : Sok (s.take a ++ exr L Y k) := sok_app (fun y hy => HS.out y (List.mem_of_mem_take hy)) (exr_ok L Y rn k hk HRY.out)
        obtain ⟨v, hv, hadd⟩ := HI.out.add hok m (Y k) (by simp; omega) (by omega) ⟨by omega, by omega⟩
        have cv := cell_one hv
        have hvlt := (Array.getElem?_eq_some_iff.1 hv).1
        have hvne : w.heap.size ≠ wr.heap.size := by omega
        generalize Y k = y at *
        have HA := boxed hadd
        clear hv hadd hm hm2 hok
        gi_wp2_with fail
        have hBA := (Below.refl wr.heap.size wr).alloc (Nat.le_refl _) (Obj.cells #[Value.int IntKind.i64 (m : Nat), Value.int IntKind.i64 y] 61)
        refine ⟨trivial, (callsIn_wide.2 (HA.out _ hBA)).mono ?_⟩
        rintro e w6 ⟨ao6, n6, cap6, rfl, h6, hP6, hK6, hV6⟩
        rw [← HQ.out] at hP6
        have HR := boxed hP6
        have c6 := cell_one h6
        have f6 := frz_one h6
        clear h6 hP6 hK6 hV6 HA cv e0 e1 hBA
        gi_wp2
        go_roundw
        case rel => exact ⟨k + 1, by omega, by go_num, HR⟩
        case measure => simp [intOf]; omega
      · obtain rfl : k = rn := by omega
        have HBr := boxed HI.out.2.1
        have hln := fun w' (hb : Below w.heap.size w w') => len_any (HL.out.below hb)
        have hc := fun w' (hb : Below w.heap.size w w') => (HL.out.below hb).c0
        have hzr := HBr.out.size
        gi_wp2_with fail
        refine wpIn_wide.2 ?_
        have HB0 : Box (Below w.heap.size w wr.drew) := boxed (HBr.out.trans (Below.refl _ _).drew)
        go_region_held3 (fun w' => w'.cell? ⟨lb, 0, none⟩ = some (.slice ao (enc s).length cap))
          (first | with_reducible exact hc _ HB0.out | with_reducible exact hc _ HB5.out | with_reducible exact hc _ HB6.out)
          (first | (go_at_call 117; refine (hln _ HB0.out).mono ?_; rintro e w5 ⟨rfl, hb5⟩; have HB5 := boxed (HB0.out.trans (hb5.mono HB0.out.size)); have hb5z := hb5) | (go_at_call 155; refine (callsIn_wide.1 (between_in 5 ao (enc s).length cap _ _ w5)).mono ?_; rintro e w6 ⟨rfl, hw6⟩; have HB6 : Box (Below w.heap.size w w6) := boxed (by rw [hw6]; exact HB5.out.trans ((below_three w5 _ _ _).mono HB5.out.size)); have HW6 := boxed hw6; clear hw6))
        gi_wp2_with fail
        have HP6 : Box (Pw w [D] (s.take a ++ exr L Y k) w6) := boxed ((HI.out.below (below_step (Below.refl _ _).drew (Nat.le_refl _) hb5z)).below (by rw [HW6.out]; exact below_three w5 _ _ _))
        have HV6 : Vw w.heap.size (w5.heap.size + 1) w5.heap.size (w5.heap.size + 2) ao cap s b s.length w6 := by
          have h3 := heap3 w5 (Obj.cells #[Value.slice ao (enc s).length cap] 221) (Obj.cells #[Value.int IntKind.i64 (b : Nat)] 3) (Obj.cells #[Value.int IntKind.i64 (s.length : Nat)] 3)
          rw [← HW6.out] at h3
          exact ⟨h3.2.1, h3.1, h3.2.2, HP.out.keep (fun k i u hs hc => ⟨World.block_lt_of_cell? w ⟨k, i, none⟩ hc, hold HB6.out hc⟩)⟩
        have hz5 : w.heap.size < w5.heap.size := by
          have h1 := hb5z.size
          obtain ⟨v, hv, -⟩ := HI.out.1
          have := (Array.getElem?_eq_some_iff.1 hv).1
          have : wr.drew.heap.size = wr.heap.size := rfl
          omega
        have hz6 : w6.heap.size = w5.heap.size + 3 := by rw [HW6.out]; simp
        have hD6 : D < w6.heap.size := (Array.getElem?_eq_some_iff.1 (HP6.out.2.2 D (by simp))).1
        have HF1 : Box (fl (gv s b s.length) = s.drop b) := boxed (by rw [gv_fl HS.out b s.length hb (Nat.le_refl _) hl, sub_all])
        have HQ0 : Box (Sok (s.take a ++ exr L Y k)) := boxed (sok_app (fun y hy => HS.out y (List.mem_of_mem_take hy)) (exr_ok L Y k k (Nat.le_refl _) HRY.out))
        have HQL : Box ((s.take a ++ exr L Y k).length ≤ 65536) := boxed (by have := HLN.out; rw [List.length_append] at this; omega)
        clear hb5z hln HI HI2
        refine wp_btw w.heap.size (w5.heap.size + 1) w5.heap.size (w5.heap.size + 2) ao cap s b s.length hb (Nat.le_refl _) hl HS.out rfl HV6 (by omega) rfl
          (fun pre W => Pw w [D] (s.take a ++ exr L Y k ++ fl pre) W) (fun _ _ _ => False) (Pw.own w [D] (fun pre => s.take a ++ exr L Y k ++ fl pre) _ (by omega) (by simp; omega)) (fun _ _ _ _ _ h _ _ => h) (by simpa [fl, rof, flat] using HP6.out)
          (fun x a' W => ∃ rb, a' = { tmps := #[.pointer (some ⟨lb, 0, none⟩), .int .i64 (a : Nat), .int .i64 (b : Nat), .slice ro k rc, undef, undef, undef, undef, .pointer (some ⟨w.heap.size, 0, none⟩), undef, undef, undef, u12, undef, .pointer (some ⟨rb, 0, none⟩), .pointer (some ⟨lb, 0, none⟩), .pointer (some ⟨lb, 0, none⟩), .pointer (some ⟨lb, 0, none⟩), .slice ao (enc s).length cap, .int .i64 (a : Nat),
            .func (.func 186) #[] #[.pointer (some ⟨w.heap.size + 1 + 1, 0, none⟩), .pointer (some ⟨w.heap.size + 1, 0, none⟩), .pointer (some ⟨w.heap.size + 1 + 2, 0, none⟩)],
            undef, undef, undef, undef, undef, .slice ro k rc, .int .i64 (k : Nat), .int .i64 (k : Nat), .bool false, u30, u31, u32, u33, u34, u35, .pointer (some ⟨lb, 0, none⟩), .pointer (some ⟨lb, 0, none⟩), .pointer (some ⟨lb, 0, none⟩), .slice ao (enc s).length cap, .int .i64 (b : Nat), .pointer (some ⟨lb, 0, none⟩), .int .i64 (s.length : Nat),
            .func (.func 186) #[] #[.pointer (some ⟨w5.heap.size + 1, 0, none⟩), .pointer (some ⟨w5.heap.size, 0, none⟩), .pointer (some ⟨w5.heap.size + 2, 0, none⟩)], .int .i64 (x.1.1 : Nat), .agg #[.int .i64 (x.1.2.1 : Nat), .int .i64 x.1.2.2],
            undef, undef, undef, undef, undef, undef, undef], defers := [] } ∧ W.heap[rb]? = some (.cells #[.int .i64 (x.1.2.1 : Nat), .int .i64 x.1.2.2] 61 (0, 0)))
          (fun x a' _ W W' row h hg hr => by obtain ⟨rb, e, hb⟩ := h; exact ⟨rb, e, blk_turn hb hg (fun r e => (hr r e).2)⟩) ?assign3 ?body3 ?done3 ?stop3
        case assign3 =>
          intro l pre x W K hI hV hK
          have HI := boxed hI
          have HVx := boxed hV
          have HKx := boxed hK
          clear hI hV hK
          gi_wp2
          have hBA := (Below.refl W.heap.size W).alloc (Nat.le_refl _) (Obj.cells #[Value.int IntKind.i64 (x.1.2.1 : Nat), Value.int IntKind.i64 x.1.2.2] 61)
          exact HKx.out _ _ ((KeepsOthers.alloc _ _).from _) (HVx.out.below hBA) (HI.out.below hBA) ⟨W.heap.size, rfl, heap_alloc_new _ _⟩
        case body3 =>
          rintro l pre x a' W hl' hI hV ⟨rb, rfl, hrb⟩ hlt'
          have hgl := gv_len s b s.length (Nat.le_refl _)
          have hfl := fl_len pre
          obtain ⟨v, hv, hadd⟩ := hI.add (sok_app HQ0.out (fl_ok pre)) x.1.2.1 x.1.2.2 (by have := HQL.out; rw [List.length_append]; omega) x.2.2.1.2 ⟨by have := x.2.2.2; omega, by have := x.2.2.2; omega⟩
          have cv := cell_one hv
          have cr0 : W.cell? ⟨rb, 0, none⟩ = some (.int .i64 (x.1.2.1 : Nat)) := by simp [World.cell?, hrb]
          have cr1 : W.cell? ⟨rb, 1, none⟩ = some (.int .i64 x.1.2.2) := by simp [World.cell?, hrb]
          have HVx := boxed hV
          have HA := boxed hadd
          have HF := boxed (fl_snoc pre x)
          clear hI hV hv hrb hadd
          gi_wp2_with fail
          refine ⟨trivial, (CallsIn.inRound l (callsIn_wide.2 (HA.out W (Below.refl _ _)))).mono ?_⟩
          rintro e w7 ⟨ao6, n6, cap6, rfl, h6, hP7, hK6, hV7⟩
          rw [List.append_assoc _ (fl pre), ← HF.out] at hP7
          have HR : Box (KeepsFrom w6.heap.size W (w7.setCell ⟨w.heap.size, 0, none⟩ (.slice ao6 n6 cap6)) ∧ Vw w.heap.size (w5.heap.size + 1) w5.heap.size (w5.heap.size + 2) ao cap s b s.length (w7.setCell ⟨w.heap.size, 0, none⟩ (.slice ao6 n6 cap6)) ∧ Pw w [D] (s.take a ++ exr L Y k ++ fl (pre ++ [x])) (w7.setCell ⟨w.heap.size, 0, none⟩ (.slice ao6 n6 cap6))) := boxed ⟨hK6.from _, hV7 _ _ _ _ _ _ _ _ _ HVx.out (by omega) (by omega) (by omega) (Nat.le_refl _), hP7⟩
          have c6 := cell_one h6
          have f6 := frz_one h6
          clear h6 hP7 hK6 hV7 HA HVx cv cr0 cr1
          gi_wp2
          exact HR.out
        case done3 =>
          rintro D2 W2 hD2 hI hV hK2
          rw [HF1.out] at hI
          obtain ⟨⟨v, hv, hown⟩, hB2, hDd⟩ := hI
          obtain ⟨q9, hq9⟩ : ∃ q9, s.take a ++ exr L Y k ++ s.drop b = q9 := ⟨_, rfl⟩
          rw [hq9] at hown
          have HQ9 := boxed hq9
          have HL9 : Box (q9.length ≤ 65536 ∧ Sok q9) := boxed ⟨by rw [← hq9]; exact HLN.out, by rw [← hq9]; exact sok_app HQ0.out (fun y hy => HS.out y (List.mem_of_mem_drop hy))⟩
          clear hq9
          obtain ⟨ao9, cap9, rfl⟩ : ∃ ao9 cap9, v = .slice ao9 (enc q9).length cap9 := by
            rcases ownsRow_forms hown with ⟨g1, g2⟩ | ⟨g, cap, g1⟩
            · exact ⟨none, 0, by rw [g2]; exact g1⟩
            · exact ⟨_, _, g1⟩
          have cv := cell_one hv
          have cl := hc _ hB2
          have fl0 := (HL.out.below hB2).fz 0
          have HFin := boxed (put_end (HL.out.below hB2).blk hown hB2 (hDd D (by simp)) hK2 hlt (by omega) (by omega) HL9.out.1 HL9.out.2 HL.out.bare)
          clear hv hown hB2 hDd hV hK2
          gi_wp2
          refine ⟨by simp, .inl ⟨_, _, rfl, run_takeDeferred HFin.out.1, ?_⟩⟩
          refine ⟨by simp, .inl ⟨_, _, rfl, run_takeDeferred HFin.out.2.1, ?_⟩⟩
          refine ⟨_, results_none rfl _ _ _, rfl, ao9, cap9, ?_, HFin.out.2.2.2⟩
          rw [HQ9.out]
          exact HFin.out.2.2.1
        case stop3 =>
          rintro D c pre W _ _ h _
          exact h.elim
  case stop =>
    rintro D c pre W _ _ h _
    exact h.elim
theorem put_any {w : World} {lb : Nat} {ao : Option Addr} {cap : Nat} {s : List Int} {bare : Int} (h : ListAt w lb ao cap s bare) (a b : Nat) (hab : a ≤ b) (hb : b ≤ s.length) (ro : Option Addr) (rn rc : Nat) (L Y : Nat → Int) (hr : P2At (· ≠ lb) w ro rn L Y) (hrn : rn ≤ 65536) (hrl : ∀ i, i < rn → 0 ≤ L i ∧ L i ≤ 65536) (hry : ∀ i, i < rn → 0 ≤ Y i ∧ Y i < 32)
    (hlen : (s.take a ++ exr L Y rn ++ s.drop b).length ≤ 65536) :
    Calls Tryz.prog 154 #[.pointer (some ⟨lb, 0, none⟩), .int .i64 (a : Nat), .int .i64 (b : Nat), .slice ro rn rc] w fun e w' => e = .returned (.tuple #[]) ∧ ∃ ao' cap', ListAt w' lb ao' cap' (s.take a ++ exr L Y rn ++ s.drop b) bare ∧ w.grownBy w' (some lb) :=
  callsIn_wide.1 (put_in h a b hab hb ro rn rc L Y hr hrn hrl hry hlen)
end Go.Proofs.YtcjcdpfjnomehaaGreat.Ru

/-
  What the program's New, Insert, Delete and Set do.
-/
namespace Go.Proofs.YtcjcdpfjnomehaaGreat.Ru
open Go.RowKit
set_option linter.unusedSimpArgs false
set_option linter.unusedVariables false
section
variable {w : World} {lb : Nat} {ao : Option Addr} {cap : Nat} {s : List Int} {bare : Int}
def delS (s : List Int) (a b : Int) : List Int := if outb s.length a b = true then s else s.take a.toNat ++ s.drop b.toNat
def delB (s : List Int) (bare a b : Int) : Int := if outb s.length a b = true then bare else if s.length = 0 then bare else s.getD 0 0
def setE (s : List Int) (a b st : Int) : Int := if outb s.length a b = true then 30 else if stb st = true then 0 else 43
def setS (s : List Int) (a b st : Int) : List Int := if setE s a b st = 0 then s.take a.toNat ++ List.replicate (b - a).toNat st ++ s.drop b.toNat else s
end
end Go.Proofs.YtcjcdpfjnomehaaGreat.Ru

/-
  What the program's reach and Lay do.
-/
namespace Go.Proofs.YtcjcdpfjnomehaaGreat.Ru
open Go.RowKit
set_option linter.unusedSimpArgs false
set_option linter.unusedVariables false
def lyf (N : Nat) (L Y : Nat → Int) (a : Int) : Nat → Int × Int
  | 0 => (0, a)
  | k + 1 => if (lyf N L Y a k).1 ≠ 0 then lyf N L Y a k else if L k < 0 then (1, 0) else if stb (Y k) = true then (if (N : Int) - (lyf N L Y a k).2 < L k then (30, 0) else (0, (lyf N L Y a k).2 + L k)) else (43, 0)
theorem lyf_succ (N : Nat) (L Y : Nat → Int) (a : Int) (k : Nat) : lyf N L Y a (k + 1) = if (lyf N L Y a k).1 ≠ 0 then lyf N L Y a k else if L k < 0 then (1, 0) else if stb (Y k) = true then (if (N : Int) - (lyf N L Y a k).2 < L k then (30, 0) else (0, (lyf N L Y a k).2 + L k)) else (43, 0) := rfl
theorem lyf_stop (N : Nat) (L Y : Nat → Int) (a : Int) (k n : Nat) (h : (lyf N L Y a k).1 ≠ 0) (hk : k ≤ n) : lyf N L Y a n = lyf N L Y a k := by
  induction n with
  | zero => obtain rfl : k = 0 := by omega
            rfl
  | succ n ih =>
    by_cases c : k = n + 1
    · subst c; rfl
    · have e := ih (by omega)
      rw [lyf_succ, if_pos (by rw [e]; exact h), e]
theorem lyf_fail {N : Nat} {L Y : Nat → Int} {a p : Int} {k n : Nat} (h0 : lyf N L Y a k = (0, p)) (hk : k < n) {c : Int} (hc : c ≠ 0) (h : lyf N L Y a (k + 1) = (c, 0)) : lyf N L Y a n = (c, 0) := by
  rw [lyf_stop N L Y a (k + 1) n (by rw [h]; exact hc) (by omega), h]
theorem lyf_ok (N : Nat) (L Y : Nat → Int) (a : Nat) (ha : a ≤ N) (hN : N ≤ 65536) (k : Nat) (p : Int) (h : lyf N L Y a k = (0, p)) : (a : Int) ≤ p ∧ p ≤ N ∧ (∀ i, i < k → 0 ≤ L i ∧ L i ≤ 65536) ∧ (∀ i, i < k → 0 ≤ Y i ∧ Y i < 32) ∧ ((exr L Y k).length : Int) = p - a := by
  induction k generalizing p with
  | zero =>
    have : p = a := by simpa [lyf] using (congrArg Prod.snd h).symm
    subst this
    exact ⟨by omega, by omega, fun i hi => by omega, fun i hi => by omega, by simp [exr]⟩
  | succ k ih =>
    rw [lyf_succ] at h
    by_cases c0 : (lyf N L Y a k).1 ≠ 0
    · rw [if_pos c0] at h; rw [h] at c0; exact absurd rfl c0
    · rw [if_neg c0] at h
      have e0 : (lyf N L Y a k).1 = 0 := by simpa using c0
      obtain ⟨i1, i2, i3, i4, i5⟩ := ih (lyf N L Y a k).2 (by rw [← e0])
      by_cases c1 : L k < 0
      · rw [if_pos c1] at h; simp at h
      · rw [if_neg c1] at h
        by_cases c2 : stb (Y k) = true
        · rw [if_pos c2] at h
          by_cases c3 : (N : Int) - (lyf N L Y a k).2 < L k
          · rw [if_pos c3] at h; simp at h
          · rw [if_neg c3] at h
            have hp : (lyf N L Y a k).2 + L k = p := congrArg Prod.snd h
            have hy := (stb_iff _).1 c2
            refine ⟨by omega, by omega, ?_, ?_, ?_⟩
            · intro i hi
              by_cases d : i = k
              · subst d; omega
              · exact i3 i (by omega)
            · intro i hi
              by_cases d : i = k
              · subst d; exact hy
              · exact i4 i (by omega)
            · simp only [exr, List.length_append, List.length_replicate]
              omega
        · rw [if_neg c2] at h; simp at h
section
variable {w : World} {lb : Nat} {ao : Option Addr} {cap : Nat} {s : List Int} {bare : Int}
set_option maxRecDepth 100000 in
set_option maxHeartbeats 4000000 in
theorem reach_any (h : ListAt w lb ao cap s bare) (a : Nat) (ha : a ≤ s.length) (S : Nat → Prop) (ro : Option Addr) (rn rc : Nat) (L Y : Nat → Int) (hr : P2At S w ro rn L Y) (hrn : rn ≤ 65536) :
    Calls Tryz.prog 153 #[.pointer (some ⟨lb, 0, none⟩), .int .i64 (a : Nat), .slice ro rn rc] w fun e w' => e = .returned (.tuple #[.int .i64 (lyf s.length L Y a rn).2, .int .i64 (lyf s.length L Y a rn).1]) ∧ Below w.heap.size w w' := by
  have HL := boxed (fun w' (hb : Below w.heap.size w w') => len_any (h.below hb))
  have HR := boxed hr
  have hl := h.len
  have hlt := h.lt
  clear h hr
  go_enter Tryz.func153, Tryz.ntmps153
  go_wp2_with fail
  go_loopw [1, 12] (fun va vi wr => ∃ (k : Nat) (p : Nat), k ≤ rn ∧ a ≤ p ∧ p ≤ s.length ∧ va = .int .i64 (p : Nat) ∧ vi = .int .i64 (k : Nat) ∧ Box (lyf s.length L Y a k = (0, (p : Int))) ∧ Box (Below w.heap.size w wr)) (fun _ vi _ => rn - (intOf vi).toNat)
  case atStart => exact ⟨0, a, Nat.zero_le _, Nat.le_refl _, ha, rfl, rfl, boxed rfl, boxed (Below.refl _ _)⟩
  case round =>
    obtain ⟨k, p, hk, hap, hps, rfl, rfl, HF, HB⟩ := hrel
    by_cases hkn : k < rn
    · obtain ⟨rb0, off0, rfl, -⟩ := HR.out.form (by omega)
      obtain ⟨e0, e1⟩ := (HR.out.below HB.out).get k hkn
      have hLI := (HR.out k hkn).1.1
      have HS := boxed (lyf_succ s.length L Y a k)
      rw [HF.out] at HS
      have HFL := boxed (fun {c : Int} (hc : c ≠ 0) (h : lyf s.length L Y a (k + 1) = (c, 0)) => lyf_fail HF.out hkn hc h)
      have hzr := HB.out.size
      have hsty := isStyle_any (Y k)
      obtain ⟨W0, hW0⟩ : ∃ W0, wr.alloc (.cells #[.int .i64 (L k), .int .i64 (Y k)] 61) = W0 := ⟨_, rfl⟩
      have HB0 : Box (Below w.heap.size w W0) := boxed (by rw [← hW0]; exact HB.out.alloc hzr _)
      have r0 : W0.cell? ⟨wr.heap.size, 0, none⟩ = some (.int .i64 (L k)) := by rw [← hW0, cell_new _ _ _ _ _ rfl]; rfl
      have r1 : W0.cell? ⟨wr.heap.size, 1, none⟩ = some (.int .i64 (Y k)) := by rw [← hW0, cell_new _ _ _ _ _ rfl]; rfl
      by_cases c1 : L k < 0
      · have HE := boxed (HFL.out (c := 1) (by omega) (by rw [HS.out, if_neg (by simp), if_pos c1]))
        clear HFL HS
        generalize L k = l at *
        generalize Y k = y at *
        go_wp2_with fail
        go_ret2
        exact ⟨by rw [HE.out]; rfl, HB0.out⟩
      · by_cases c2 : stb (Y k) = true
        · rw [c2] at hsty
          have hrr := boxed (fun w' (hb : Below W0.heap.size W0 w') => (⟨hold hb r0, hold hb r1⟩ : w'.cell? ⟨wr.heap.size, 0, none⟩ = some (.int .i64 (L k)) ∧ w'.cell? ⟨wr.heap.size, 1, none⟩ = some (.int .i64 (Y k))))
          have hw : IntKind.i64.wrap ((s.length : Int) - (p : Int)) = (s.length : Int) - (p : Int) := by rw [IntKind.wrap_i64]; omega
          by_cases c3 : (s.length : Int) - (p : Int) < L k
          · have HE := boxed (HFL.out (c := 30) (by omega) (by rw [HS.out, if_neg (by simp), if_neg c1, if_pos c2, if_pos c3]))
            clear HFL HS c2
            have t3 : decide ((s.length : Int) - (p : Int) < L k) = true := decide_eq_true c3
            generalize L k = l at *
            generalize Y k = y at *
            go_wp2_with (go_at_call 151; refine (hsty _).mono ?_; rintro e w1' ⟨rfl, hw'⟩; subst w1')
            have HD0 : Box (Below W0.heap.size W0 W0.drew) := boxed (Below.refl _ _).drew
            have HD1 : Box (Below w.heap.size w W0.drew) := boxed (HB0.out.trans (Below.refl _ _).drew)
            go_region_held3 (fun w' => w'.cell? ⟨wr.heap.size, 0, none⟩ = some (.int .i64 l) ∧ w'.cell? ⟨wr.heap.size, 1, none⟩ = some (.int .i64 y))
              (first | with_reducible exact hrr.out _ HD0.out | with_reducible exact hrr.out _ HD5.out)
              (first | (go_at_call 117; refine (HL.out _ HD1.out).mono ?_; rintro e w5 ⟨rfl, hb5⟩; have HD5 := boxed (HD0.out.trans (hb5.mono HD0.out.size)); have HB5 := boxed (HD1.out.trans (hb5.mono HD1.out.size)); clear hb5))
            go_wp2_with fail
            go_ret2
            exact ⟨by rw [HE.out]; rfl, HB5.out⟩
          · obtain ⟨m, hm⟩ : ∃ m : Nat, L k = m := ⟨(L k).toNat, by omega⟩
            have HE : Box (lyf s.length L Y a (k + 1) = (0, ((p + m : Nat) : Int))) := boxed (by rw [HS.out, if_neg (by simp), if_neg c1, if_pos c2, if_neg c3, hm]; simp)
            clear HFL HS c2
            have t3 : decide ((s.length : Int) - (p : Int) < (m : Int)) = false := decide_eq_false (by omega)
            rw [hm] at c3 c1 hLI hrr hW0 r0 e0
            generalize Y k = y at *
            clear hm c1
            go_wp2_with (go_at_call 151; refine (hsty _).mono ?_; rintro e w1' ⟨rfl, hw'⟩; subst w1')
            have HD0 : Box (Below W0.heap.size W0 W0.drew) := boxed (Below.refl _ _).drew
            have HD1 : Box (Below w.heap.size w W0.drew) := boxed (HB0.out.trans (Below.refl _ _).drew)
            go_region_held3 (fun w' => w'.cell? ⟨wr.heap.size, 0, none⟩ = some (.int .i64 (m : Nat)) ∧ w'.cell? ⟨wr.heap.size, 1, none⟩ = some (.int .i64 y))
              (first | with_reducible exact hrr.out _ HD0.out | with_reducible exact hrr.out _ HD5.out)
              (first | (go_at_call 117; refine (HL.out _ HD1.out).mono ?_; rintro e w5 ⟨rfl, hb5⟩; have HD5 := boxed (HD0.out.trans (hb5.mono HD0.out.size)); have HB5 := boxed (HD1.out.trans (hb5.mono HD1.out.size)); clear hb5))
            have f0 := (hrr.out _ HD5.out).1
            have hpm : p + m ≤ s.length := by omega
            go_wp2_with fail
            go_roundw
            case rel => exact ⟨k + 1, p + m, by omega, by omega, hpm, by go_num, by go_num, HE, HB5⟩
            case measure => simp [intOf]; omega
        · have c2' : stb (Y k) = false := by simpa using c2
          have HE := boxed (HFL.out (c := 43) (by omega) (by rw [HS.out, if_neg (by simp), if_neg c1, if_neg c2]))
          rw [c2'] at hsty
          clear HFL HS c2 c2'
          generalize L k = l at *
          generalize Y k = y at *
          go_wp2_with (go_at_call 151; refine (hsty _).mono ?_; rintro e w1' ⟨rfl, hw'⟩; subst w1')
          go_ret2
          exact ⟨by rw [HE.out]; rfl, HB0.out⟩
    · obtain rfl : k = rn := by omega
      go_wp2_with fail
      go_ret2
      exact ⟨by rw [HF.out]; rfl, HB.out⟩
def layE (s : List Int) (a : Int) (L Y : Nat → Int) (n : Nat) : Int := if outb s.length a a = true then 30 else (lyf s.length L Y a n).1
def layS (s : List Int) (a : Int) (L Y : Nat → Int) (n : Nat) : List Int := if layE s a L Y n = 0 then s.take a.toNat ++ exr L Y n ++ s.drop (lyf s.length L Y a n).2.toNat else s
set_option maxRecDepth 100000 in
set_option maxHeartbeats 2000000 in
theorem lay_any (h : ListAt w lb ao cap s bare) (a : Int) (ro : Option Addr) (rn rc : Nat) (L Y : Nat → Int) (hr : P2At (· ≠ lb) w ro rn L Y) (hrn : rn ≤ 65536) :
    Calls Tryz.prog 109 #[.pointer (some ⟨lb, 0, none⟩), .int .i64 a, .slice ro rn rc] w fun e w' => e = .returned (.int .i64 (layE s a L Y rn)) ∧ ∃ ao' cap', ListAt w' lb ao' cap' (layS s a L Y rn) bare ∧ w.grownBy w' (some lb) := by
  have ho := outside_any h a a
  have hl := h.len
  have HH := boxed h
  unfold layS layE
  by_cases c1 : outb s.length a a = true
  · rw [if_pos c1, if_neg (by omega)]
    rw [c1] at ho
    clear h
    go_enter Tryz.func109, Tryz.ntmps109
    go_wp2_with fail
    refine ho.mono ?_
    rintro e w1 ⟨rfl, hb1⟩
    have HB1 := boxed hb1
    clear hb1 ho
    go_wp2
    go_ret
    exact ⟨rfl, ao, cap, HH.out.below HB1.out, below_grown HB1.out _⟩
  · rw [if_neg c1]
    have c1' : outb s.length a a = false := by simpa using c1
    obtain ⟨a1, -, a2⟩ := (outb_iff _ _ _).1 c1'
    rw [c1'] at ho
    obtain ⟨k, rfl⟩ : ∃ k : Nat, a = k := ⟨a.toNat, by omega⟩
    have e1 : ((k : Int)).toNat = k := by simp
    rw [e1]
    have HR := boxed (fun (w1 : World) (hb1 : Below w.heap.size w w1) => reach_any (h.below hb1) k (by omega) (· ≠ lb) ro rn rc L Y (hr.below hb1) hrn)
    have hok := lyf_ok s.length L Y k (by omega) hl rn
    generalize lyf s.length L Y k rn = P at *
    obtain ⟨err, p⟩ := P
    dsimp only at *
    clear c1 c1' e1
    by_cases c2 : err = 0
    · subst c2
      rw [if_pos rfl]
      obtain ⟨p1, p2, p3, p4, p5⟩ := hok p rfl
      obtain ⟨m, rfl⟩ : ∃ m : Nat, p = m := ⟨p.toNat, by omega⟩
      have e2 : ((m : Int)).toNat = m := by simp
      rw [e2]
      have HP := boxed (fun (w1 : World) (hb1 : Below w.heap.size w w1) => put_any (h.below hb1) k m (by omega) (by omega) ro rn rc L Y (hr.below hb1) hrn p3 p4 (by simp; omega))
      clear h hr hok p3 p4 p5 e2
      go_enter Tryz.func109, Tryz.ntmps109
      go_wp2_with fail
      refine ho.mono ?_
      rintro e w1 ⟨rfl, hb1⟩
      have HB1 := boxed hb1
      clear hb1 ho
      go_wp2_with fail
      refine (HR.out _ HB1.out).mono ?_
      rintro e w2 ⟨rfl, hb2⟩
      have HB2 := boxed (below_step HB1.out (Nat.le_refl _) hb2)
      clear hb2
      go_wp2_with fail
      refine (HP.out _ HB2.out).mono ?_
      rintro e w3 ⟨rfl, ao', cap', hL, hg⟩
      have HF := boxed (And.intro hL (grown_trans (below_grown HB2.out (some lb)) hg))
      clear hL hg
      go_wp2
      go_ret
      exact ⟨rfl, ao', cap', HF.out⟩
    · rw [if_neg c2]
      have t2 : (err == 0) = false := by simpa using c2
      clear h hr hok c2
      go_enter Tryz.func109, Tryz.ntmps109
      go_wp2_with fail
      refine ho.mono ?_
      rintro e w1 ⟨rfl, hb1⟩
      have HB1 := boxed hb1
      clear hb1 ho
      go_wp2_with fail
      refine (HR.out _ HB1.out).mono ?_
      rintro e w2 ⟨rfl, hb2⟩
      have HB2 := boxed (below_step HB1.out (Nat.le_refl _) hb2)
      clear hb2
      go_wp2
      go_ret
      exact ⟨rfl, ao, cap, HH.out.below HB2.out, below_grown HB2.out _⟩
end
end Go.Proofs.YtcjcdpfjnomehaaGreat.Ru

/-
  What the program's New, Count, Runs, Slice and Copy do.
-/
namespace Go.Proofs.YtcjcdpfjnomehaaGreat.Ru
open Go.RowKit
set_option linter.unusedSimpArgs false
set_option linter.unusedVariables false
def newE (n st : Int) : Int := if n < 0 ∨ 65536 < n then 1 else if stb st = true then 0 else 43
theorem list_new {B : Nat} {w w1 : World} {ao : Option Addr} {cap : Nat} {s : List Int} {bare : Int} (hB : B ≤ w1.heap.size) (hown : w1.ownsRow B 233 2 (.slice ao (enc s).length cap) (enc s).length (pcs 0 (enc s))) (hs : Sok s) (hl : s.length ≤ 65536) (hb : 0 ≤ bare ∧ bare < 32) :
    ListAt (w1.alloc (.cells #[.slice ao (enc s).length cap, .int .i64 bare] 224)) w1.heap.size ao cap s bare ∧ PartsAt (fun b => B ≤ b) (w1.alloc (.cells #[.slice ao (enc s).length cap, .int .i64 bare] 224)) ao s := by
  have hp := own_parts hown (by omega) (fun y hy => by have := hs y hy; exact ⟨by omega, by omega⟩)
  have hb1 := (Below.refl w1.heap.size w1).alloc (Nat.le_refl _) (.cells #[.slice ao (enc s).length cap, .int .i64 bare] 224)
  refine ⟨⟨heap_alloc_new _ _, hp.keep (fun k i u hk hc => ⟨?_, hold hb1 hc⟩), hs, hl, hb⟩, hp.below hb1⟩
  have := World.block_lt_of_cell? w1 ⟨k, i, none⟩ hc
  simp at this
  omega
theorem sok_rep {n : Nat} {y : Int} (h : 0 ≤ y ∧ y < 32) : Sok (List.replicate n y) := fun z hz => by rw [(List.mem_replicate.1 hz).2]; exact h
def NewP (n st : Int) (w : World) (e : Ending) (w' : World) : Prop :=
    (newE n st ≠ 0 ∧ e = .returned (.tuple #[.pointer none, .int .i64 (newE n st)]) ∧ Below w.heap.size w w') ∨
    (newE n st = 0 ∧ ∃ lb ao cap, e = .returned (.tuple #[.pointer (some ⟨lb, 0, none⟩), .int .i64 0]) ∧ w.heap.size ≤ lb ∧ ListAt w' lb ao cap (List.replicate n.toNat st) st ∧ Below w.heap.size w w')
theorem NewP.bad {n st : Int} {w w' : World} {c : Int} (h : newE n st = c) (hc : c ≠ 0) (hb : Below w.heap.size w w') : NewP n st w (.returned (.tuple #[.pointer none, .int .i64 c])) w' := .inl ⟨by rw [h]; exact hc, by rw [h], hb⟩
set_option maxRecDepth 100000 in
set_option maxHeartbeats 2000000 in
theorem new_any (n st : Int) (w : World) (hn : I64 n) : Calls Tryz.prog 108 #[.int .i64 n, .int .i64 st] w fun e w' => NewP n st w e w' := by
  by_cases c1 : n < 0
  · have HE : Box (newE n st = 1) := boxed (by unfold newE; rw [if_pos (.inl c1)])
    go_enter Tryz.func108, Tryz.ntmps108
    go_wp2
    go_ret2
    exact NewP.bad HE.out (by omega) (Below.refl _ _)
  · by_cases c2 : 65536 < n
    · have HE : Box (newE n st = 1) := boxed (by unfold newE; rw [if_pos (.inr c2)])
      go_enter Tryz.func108, Tryz.ntmps108
      go_wp2
      go_ret2
      exact NewP.bad HE.out (by omega) (Below.refl _ _)
    · have hst := isStyle_any st
      by_cases c3 : stb st = true
      · have HE : Box (newE n st = 0) := boxed (by unfold newE; rw [if_neg (by omega), if_pos c3])
        rw [c3] at hst
        have hy := (stb_iff st).1 c3
        obtain ⟨m, rfl⟩ : ∃ m : Nat, n = m := ⟨n.toNat, by omega⟩
        have HA := boxed (fun (w1 : World) (hb1 : Below w.heap.size w w1) => add_any w.heap.size (.slice none 0 0) [] m st w1 (World.ownsRow_nil _ _ _ _) (by simp) (by simp) (by omega) ⟨by omega, by omega⟩ hb1.size)
        rw [List.nil_append] at HA
        have HQ : Box (List.replicate ((m : Int)).toNat st = List.replicate m st) := boxed (by simp)
        clear c3
        go_enter Tryz.func108, Tryz.ntmps108
        go_wp2_with (go_at_call 151; refine (hst _).mono ?_; rintro e w1' ⟨rfl, hw'⟩; subst w1')
        refine (HA.out _ (Below.refl _ _)).mono ?_
        rintro e w1 ⟨v', rfl, hown, hg⟩
        obtain ⟨ao, cap, rfl⟩ : ∃ ao cap, v' = .slice ao (enc (List.replicate m st)).length cap := by
          rcases ownsRow_forms hown with ⟨g1, g2⟩ | ⟨g, cap, g1⟩
          · exact ⟨none, 0, by rw [g2]; exact g1⟩
          · exact ⟨_, _, g1⟩
        have hb1 : Below w.heap.size w w1 := ⟨hg.os, hg.tape, hg.output, hg.size, fun k hk => hg.block k hk (by simp [Value.ownBlock])⟩
        have HL := boxed (list_new (w := w) (bare := st) hb1.size hown (sok_rep hy) (by simp; omega) hy).1
        have HB := boxed (hb1.alloc hb1.size (.cells #[.slice ao (enc (List.replicate m st)).length cap, .int .i64 st] 224))
        have hz := hb1.size
        clear hown hg hb1 HA
        generalize (enc (List.replicate m st)).length = q at *
        go_wp2
        go_ret2
        exact .inr ⟨HE.out, w1.heap.size, ao, cap, rfl, hz, by rw [HQ.out]; exact HL.out, HB.out⟩
      · have c3' : stb st = false := by simpa using c3
        have HE : Box (newE n st = 43) := boxed (by unfold newE; rw [if_neg (by omega), if_neg c3])
        rw [c3'] at hst
        go_enter Tryz.func108, Tryz.ntmps108
        go_wp2_with (go_at_call 151; refine (hst _).mono ?_; rintro e w1' ⟨rfl, hw'⟩; subst w1')
        go_ret2
        exact NewP.bad HE.out (by omega) (Below.refl _ _)
section
variable {w : World} {lb : Nat} {ao : Option Addr} {cap : Nat} {s : List Int} {bare : Int}
def SlcP (s : List Int) (a b : Int) (w : World) (e : Ending) (w' : World) : Prop :=
  (outb s.length a b = true ∧ e = .returned (.tuple #[.slice none 0 0, .int .i64 30]) ∧ Below w.heap.size w w') ∨
  (outb s.length a b = false ∧ ∃ v, e = .returned (.tuple #[v, .int .i64 0]) ∧ w'.ownsRow w.heap.size 61 2 v (enc (sub s a.toNat b.toNat)).length (rcs (enc (sub s a.toNat b.toNat))) ∧ Below w.heap.size w w')
set_option maxRecDepth 100000 in
theorem slice_any (h : ListAt w lb ao cap s bare) (a b : Int) : Calls Tryz.prog 68 #[.pointer (some ⟨lb, 0, none⟩), .int .i64 a, .int .i64 b] w fun e w' => SlcP s a b w e w' := by
  have ho := outside_any h a b
  by_cases c1 : outb s.length a b = true
  · rw [c1] at ho
    have HE := boxed c1
    clear h c1
    go_enter Tryz.func68, Tryz.ntmps68
    go_wp2_with fail
    refine ho.mono ?_
    rintro e w1 ⟨rfl, hb1⟩
    clear ho
    go_wp2
    go_ret2
    exact .inl ⟨HE.out, rfl, hb1⟩
  · have c1' : outb s.length a b = false := by simpa using c1
    obtain ⟨a1, a3, a2⟩ := (outb_iff _ _ _).1 c1'
    rw [c1'] at ho
    obtain ⟨k, rfl⟩ : ∃ k : Nat, a = k := ⟨a.toNat, by omega⟩
    obtain ⟨m, rfl⟩ : ∃ m : Nat, b = m := ⟨b.toNat, by omega⟩
    have HE := boxed c1'
    have HT := boxed (fun w' (hb : Below w.heap.size w w') => told_any (h.below hb) k m (by omega) (by omega))
    clear h c1 c1'
    go_enter Tryz.func68, Tryz.ntmps68
    go_wp2_with fail
    refine ho.mono ?_
    rintro e w1 ⟨rfl, hb1⟩
    have HB1 := boxed hb1
    clear ho hb1
    go_wp2_with fail
    refine (HT.out _ HB1.out).mono ?_
    rintro e w2 ⟨v, rfl, hown, hb2⟩
    have HF := boxed (And.intro (show w2.ownsRow w.heap.size _ _ _ _ _ from ⟨hown.1, hown.2.imp id (fun ⟨g, c, cu, x1, x2, x3⟩ => ⟨g, c, cu, x1, Nat.le_trans HB1.out.size x2, x3⟩)⟩) (below_step HB1.out (Nat.le_refl _) hb2))
    clear hown hb2 HT
    go_wp2
    go_ret2
    exact .inr ⟨HE.out, v, rfl, by simpa using HF.out.1, HF.out.2⟩
end
end Go.Proofs.YtcjcdpfjnomehaaGreat.Ru
