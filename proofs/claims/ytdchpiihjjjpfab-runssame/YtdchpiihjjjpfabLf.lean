/-
  What the program's between and the function that it hands out do: the runs of a part, one behind the other, each with the place where it begins, as far as they are asked for.
-/
import Derived.RangeFuncNested
import Derived.RangeFuncBound
import Derived.RangeFuncCalls
import Derived.RangeFuncLeaves
import Derived.RangeFuncFrom
import Derived.Shelf.Abstract
import Derived.Shelf.RegionOpen
import Derived.OwnWalkIn
import Derived.TacticsInMore
import Derived.LoopNIn
import Derived.LoopIn
import Derived.Sort.QuietIn
import Derived.Test.YtdchpiihjjjpfabLc
namespace Go.Proofs.Ytdchpiihjjjpfab
open Go.RowKit Go.Shelf
set_option linter.unusedSimpArgs false
set_option linter.unusedVariables false
attribute [local go_sem] Oper.semAt_some

/-- What the iterator looks at. -/
structure Vw (n₀ Bf Bp Bt : Nat) (ao : Option Addr) (cap : Nat) (s : List Int) (a b : Nat) (W : World) : Prop where
  f : W.heap[Bf]? = some (.cells #[.int .i64 (a : Nat)] 3 (0, 0))
  p : W.heap[Bp]? = some (.cells #[.slice ao (enc s).length cap] 55 (0, 0))
  t : W.heap[Bt]? = some (.cells #[.int .i64 (b : Nat)] 3 (0, 0))
  at_ : PartsAt (· < n₀) W ao s
theorem cell_one {W : World} {b : Nat} {v : Value} {t : TypeId} {fz : Nat × Nat} (h : W.heap[b]? = some (.cells #[v] t fz)) : W.cell? ⟨b, 0, none⟩ = some v := by simp [World.cell?, h]
theorem Vw.kept {n₀ Bf Bp Bt : Nat} {ao : Option Addr} {cap : Nat} {s : List Int} {a b : Nat} {W W' : World} {row : Option Nat} (h : Vw n₀ Bf Bp Bt ao cap s a b W) (hg : W.grownBy W' row)
    (h1 : row ≠ some Bf) (h2 : row ≠ some Bp) (h3 : row ≠ some Bt) (h4 : ∀ r, row = some r → n₀ ≤ r) : Vw n₀ Bf Bp Bt ao cap s a b W' := by
  have lt : ∀ {k : Nat} {o : Obj}, W.heap[k]? = some o → k < W.heap.size := fun h => (Array.getElem?_eq_some_iff.1 h).1
  refine ⟨by rw [hg.block Bf (lt h.f) (Ne.symm h1)]; exact h.f, by rw [hg.block Bp (lt h.p) (Ne.symm h2)]; exact h.p, by rw [hg.block Bt (lt h.t) (Ne.symm h3)]; exact h.t, ?_⟩
  refine h.at_.keep (fun k i u hs hc => ⟨hs, ?_⟩)
  exact hg.cell hc (fun e => by have := h4 k e.symm; omega)
theorem Vw.below {n₀ Bf Bp Bt : Nat} {ao : Option Addr} {cap : Nat} {s : List Int} {a b : Nat} {W W' : World} (h : Vw n₀ Bf Bp Bt ao cap s a b W) (hb : Below W.heap.size W W') : Vw n₀ Bf Bp Bt ao cap s a b W' :=
  h.kept (below_grown hb none) (by simp) (by simp) (by simp) (by simp)
theorem Vw.turn {n₀ Bf Bp Bt : Nat} {ao : Option Addr} {cap : Nat} {s : List Int} {a b : Nat} {w : World} (hn : n₀ ≤ w.heap.size) (W : World) (l : Nat) (o o' : Obj) (hl : w.heap.size ≤ l) (ho : W.heap[l]? = some o) (hc : o.isCells = false) (_ : o.isWalk = false) :
    Vw n₀ Bf Bp Bt ao cap s a b W → Vw n₀ Bf Bp Bt ao cap s a b (W.putObj l o') := fun h =>
  h.kept (grownBy_putObj' W l o') (fun e => by injection e with e; subst e; rw [h.f] at ho; injection ho with ho; subst ho; cases hc) (fun e => by injection e with e; subst e; rw [h.p] at ho; injection ho with ho; subst ho; cases hc)
    (fun e => by injection e with e; subst e; rw [h.t] at ho; injection ho with ho; subst ho; cases hc) (fun r e => by injection e with e; omega)

set_option maxRecDepth 100000 in
set_option maxHeartbeats 4000000 in
theorem between1_in (n l n₀ Bf Bp Bt : Nat) (ao : Option Addr) (cap : Nat) (s : List Int) (a b : Nat) (hab : a ≤ b) (hb : b ≤ s.length) (hl : s.length ≤ 65536) (hs : Sok s) (J Jx : List X → World → Prop)
    (hY : ∀ pre (x : X) W, J pre W → pre.length < (gv s a b).length → YieldAt Fence.wide (n - 1) Try.prog l #[.int .i64 (x.1.1 : Nat), .agg #[.int .i64 (x.1.2.1 : Nat), .int .i64 x.1.2.2]] W fun e W' =>
      (e = .returned (.bool true) ∧ J (pre ++ [x]) W' ∧ (Vw n₀ Bf Bp Bt ao cap s a b W → Vw n₀ Bf Bp Bt ao cap s a b W')) ∨ (e = .returned (.bool false) ∧ Jx (pre ++ [x]) W'))
    (W : World) (hv : Vw n₀ Bf Bp Bt ao cap s a b W) (hJ : J [] W) (hab2 : ∀ pre W1 W2, J pre W1 → Below W1.heap.size W1 W2 → J pre W2) :
    CallsIn Fence.wide n Try.prog 42 #[.func (.yield l) #[] #[], .pointer (some ⟨Bf, 0, none⟩), .pointer (some ⟨Bp, 0, none⟩), .pointer (some ⟨Bt, 0, none⟩)] W fun e W' => (∃ v, e = .returned v) ∧
      ((∃ ys, ys = gv s a b ∧ J ys W') ∨ (∃ pre, pre <+: gv s a b ∧ Jx pre W')) := by
  have hro : (Fence.wide).round = none := rfl
  have hd : (Fence.wide).depth = none := rfl
  have cf := cell_one hv.f
  have cp := cell_one hv.p
  have ct := cell_one hv.t
  refine callsIn_of_wp Try.func42 rfl trivial ?_ hro
  simp only [Try.ntmps42, List.size_toArray, List.length_cons, List.length_nil, Nat.reduceAdd, Nat.reduceSub, Array.replicate_succ, Array.replicate_zero, List.push_toArray, List.append_toArray, List.nil_append, List.cons_append]
  gi_wp2_with fail
  refine ⟨trivial, (callsIn_wide.2 (holder_any _ ao cap s a W hv.at_ (by omega))).mono ?_⟩
  rintro e W1 ⟨q, rfl, hq, hb1⟩
  have HV1 := boxed (hv.below hb1)
  have HJ1 := boxed (hab2 [] W W1 hJ hb1)
  have HA := boxed hab2
  have HY := boxed hY
  have hqn : q ≤ (enc s).length := by omega
  have HQ1 : Box (a < b → q < (enc s).length ∧ Bg (enc s) q ≤ a ∧ a < Bg (enc s) (q + 1)) := boxed (fun h => hq.resolve_left (by omega))
  have hnl := enc_len s
  clear hv hJ hY hq hb1 cf cp ct hab2
  gi_wp2_with fail
  gi_loopw [5, 6] (fun va vi wr => ∃ (k q' : Nat) (pre : List X), k ≤ b ∧ q' ≤ (enc s).length ∧ va = .int .i64 (k : Nat) ∧ vi = .int .i64 (q' : Nat) ∧ Box (pre ++ gv s k b = gv s a b) ∧ Box (J pre wr) ∧ Box (Vw n₀ Bf Bp Bt ao cap s a b wr) ∧
      Box (k < b → q' < (enc s).length ∧ Bg (enc s) q' ≤ k ∧ k < Bg (enc s) (q' + 1))) (fun va _ _ => b - (intOf va).toNat)
  case atStart => exact ⟨a, q, [], hab, hqn, rfl, rfl, boxed rfl, HJ1, HV1, HQ1⟩
  case round =>
    obtain ⟨k, q', pre, hkb, hqn', rfl, rfl, HP, HJ, HV, HQ⟩ := hrel
    have cf := cell_one HV.out.f
    have cp := cell_one HV.out.p
    have ct := cell_one HV.out.t
    by_cases hlt : k < b
    · obtain ⟨q1, q2, q3⟩ := HQ.out hlt
      obtain ⟨bb, off, rfl, -⟩ := HV.out.at_.form (by omega)
      obtain ⟨c0, c1⟩ := HV.out.at_.get q' q1
      have hst := gv_step s q' k b q1 q2 q3 hlt hb
      have hEl := Bg_le (enc s) (can_enc s) (q' + 1)
      rw [sm_enc] at hEl
      have hyo := hs _ (Ys_in s q' q1)
      have HQN : Box (min (Bg (enc s) (q' + 1)) b < b → q' + 1 < (enc s).length ∧ Bg (enc s) (q' + 1) ≤ min (Bg (enc s) (q' + 1)) b ∧ min (Bg (enc s) (q' + 1)) b < Bg (enc s) (q' + 1 + 1)) := boxed (fun h => by
        have hE : Bg (enc s) (q' + 1) < b := by omega
        have h1 : q' + 1 < (enc s).length := by
          by_cases c : q' + 1 < (enc s).length
          · exact c
          · rw [Bg_all _ _ (by omega), sm_enc] at hE; omega
        have := Bg_step (enc s) (q' + 1) h1 (can_enc s)
        omega)
      clear HQ q2
      have HEQ : Box (∀ e, Bg (enc s) (q' + 1) ≤ e → Bg (enc s) (q' + 1) ≤ e) := boxed (fun _ h => h)
      generalize hEE : Bg (enc s) (q' + 1) = E at HQN hst hEl q3 c0
      have HEE := boxed hEE
      clear hEE HEQ
      generalize Ys (enc s) q' = Y at *
      obtain ⟨e, he⟩ : ∃ e, min E b = e := ⟨_, rfl⟩
      obtain ⟨m, hm⟩ : ∃ m, e - k = m := ⟨_, rfl⟩
      rw [he] at hst HQN
      rw [hm] at hst
      have hxv : (mkX k m Y).1 = (k, m, Y) := mkX_val ⟨by omega, ⟨by omega, by omega⟩, hyo⟩
      have hp1 : pre.length < (gv s a b).length := by rw [← HP.out, hst]; simp
      have HP2 : Box (pre ++ [mkX k m Y] ++ gv s e b = gv s a b) := boxed (by rw [← HP.out, hst]; simp)
      have hem : (e : Int) - (k : Int) = (m : Int) := by omega
      have hke : k < e := by omega
      have heb : e ≤ b := by omega
      have hmn : (if b < E then (b : Int) else (E : Int)) = (e : Int) := by split <;> omega
      clear hst he hm q3 hEl
      gi_wp2_with fail
      gi_quiet (fail)
      have HB2 : Below wr.heap.size wr (wr.drewN nq) := bel_drewN _ _ _
      have HJ2 := boxed (HA.out pre _ _ HJ.out HB2)
      have HV2 := boxed (HV.out.below HB2)
      have dp := cell_one HV2.out.p
      have dc1 : (wr.drewN nq).cell? _ = _ := c1
      have hY := HY.out pre (mkX k m Y) (wr.drewN nq) HJ2.out hp1
      rw [hxv] at hY
      dsimp only at hY
      obtain ⟨fn, tmps, assign, body, hy, hR⟩ := hY
      have HR := boxed hR
      clear hR HB2 HJ HV cf cp ct c0 c1 HJ2 hxv hp1
      generalize wr.drewN nq = wq at *
      gi_wp2_with fail
      refine HR.out.mono ?_
      rintro e' W3 (⟨rfl, hJ3, hk3⟩ | ⟨rfl, hJx3⟩)
      · have HV3 := boxed (hk3 HV2.out)
        have HJ3 := boxed hJ3
        clear hk3 hJ3 HR
        gi_wp2
        go_roundw
        case rel => exact ⟨e, q' + 1, pre ++ [mkX k m Y], heb, by omega, rfl, by go_num, HP2, HJ3, HV3, boxed (fun h => ⟨(HQN.out h).1, by have := (HQN.out h).2.1; have := HEE.out; omega, (HQN.out h).2.2⟩)⟩
        case measure => simp [intOf]; omega
      · gi_wp2
        refine bodyPost_ret (results_none rfl _ _ _) rfl ?_
        exact ⟨⟨_, rfl⟩, .inr ⟨_, ⟨gv s e b, HP2.out⟩, hJx3⟩⟩
    · obtain rfl : k = b := by omega
      have HE : Box (pre = gv s a k) := boxed (by have := HP.out; rw [gv_end s k k (Nat.le_refl _)] at this; simpa using this)
      clear HP HQ
      gi_wp2
      go_end0
      exact ⟨⟨_, rfl⟩, .inl ⟨_, HE.out, HJ.out⟩⟩

set_option maxHeartbeats 1000000 in
theorem between_in (n : Nat) (ao : Option Addr) (len cap : Nat) (a b : Int) (w : World) :
    CallsIn Fence.wide n Try.prog 34 #[.slice ao len cap, .int .i64 a, .int .i64 b] w fun e w' => e = .returned (.func (.func 42) #[] #[.pointer (some ⟨w.heap.size + 1, 0, none⟩), .pointer (some ⟨w.heap.size, 0, none⟩), .pointer (some ⟨w.heap.size + 2, 0, none⟩)]) ∧
      w' = ((w.alloc (.cells #[.slice ao len cap] 55)).alloc (.cells #[.int .i64 a] 3)).alloc (.cells #[.int .i64 b] 3) := by
  have hro : (Fence.wide).round = none := rfl
  refine callsIn_of_wp Try.func34 rfl trivial ?_ hro
  simp only [Try.ntmps34, List.size_toArray, List.length_cons, List.length_nil, Nat.reduceAdd, Nat.reduceSub, Array.replicate_succ, Array.replicate_zero, List.push_toArray, List.append_toArray, List.nil_append, List.cons_append]
  gi_wp2
  go_ret
  exact ⟨rfl, rfl⟩

theorem heap3 (w : World) (o1 o2 o3 : Obj) : (((w.alloc o1).alloc o2).alloc o3).heap[w.heap.size]? = some o1 ∧ (((w.alloc o1).alloc o2).alloc o3).heap[w.heap.size + 1]? = some o2 ∧ (((w.alloc o1).alloc o2).alloc o3).heap[w.heap.size + 2]? = some o3 := by
  refine ⟨?_, ?_, ?_⟩
  · rw [Below.heap_alloc _ _ _ (by simp; omega), Below.heap_alloc _ _ _ (by simp)]; exact heap_alloc_new w o1
  · rw [Below.heap_alloc _ _ _ (by simp)]
    have := heap_alloc_new (w.alloc o1) o2
    rwa [World.size_alloc] at this
  · have := heap_alloc_new ((w.alloc o1).alloc o2) o3
    rwa [World.size_alloc, World.size_alloc] at this

/-- What between hands out gives out the runs of a part. -/
theorem between_stops (n n₀ Bf Bp Bt : Nat) (ao : Option Addr) (cap : Nat) (s : List Int) (a b : Nat) (hab : a ≤ b) (hb : b ≤ s.length) (hl : s.length ≤ 65536) (hs : Sok s) (w : World) (hv : Vw n₀ Bf Bp Bt ao cap s a b w) :
    SeqStopsK Fence.wide n Try.prog 42 #[.pointer (some ⟨Bf, 0, none⟩), .pointer (some ⟨Bp, 0, none⟩), .pointer (some ⟨Bt, 0, none⟩)] (fun x : X => #[Value.int .i64 (x.1.1 : Nat), Value.agg #[.int .i64 (x.1.2.1 : Nat), .int .i64 x.1.2.2]])
      (fun A B => Vw n₀ Bf Bp Bt ao cap s a b A → Vw n₀ Bf Bp Bt ao cap s a b B) (fun ys => ys = gv s a b) (fun pre => pre <+: gv s a b) (gv s a b).length w := fun l J Jx W hW hJa _ hY h0 =>
  between1_in n l n₀ Bf Bp Bt ao cap s a b hab hb hl hs J Jx hY W (hv.below hW) h0 (fun pre W1 W2 h hb => hJa pre W1 W2 none h (below_grown hb none) (fun r e => by cases e))

/-- A range over what between hands out. -/
theorem wp_btw {g : Operand} {ps : Array Tmp} {assign body : Code} {Q : Exit → Act → World → Prop} {act : Act} {w : World} (n₀ Bf Bp Bt : Nat) (ao : Option Addr) (cap : Nat) (s : List Int) (a b : Nat) (hab : a ≤ b) (hb : b ≤ s.length) (hl : s.length ≤ 65536) (hs : Sok s)
    (hg : act.eval g = .func (.func 42) #[] #[.pointer (some ⟨Bf, 0, none⟩), .pointer (some ⟨Bp, 0, none⟩), .pointer (some ⟨Bt, 0, none⟩)]) (hv : Vw n₀ Bf Bp Bt ao cap s a b w) (hn : n₀ ≤ w.heap.size) (hps : 2 = ps.size)
    (I : List X → World → Prop) (Ix : Code → List X → World → Prop) (hI : OwnFrom w.heap.size I) (hIx : ∀ c, OwnFrom w.heap.size (Ix c)) (h0 : I [] w) (Ax : X → Act → World → Prop) (hAx : ∀ x a', OwnFrom w.heap.size (fun (_ : Unit) W => Ax x a' W))
    (hassign : ∀ (l : Nat) (pre : List X) (x : X) (W : World) (K : Act → World → Prop), I pre W → Vw n₀ Bf Bp Bt ao cap s a b W → (∀ a' W', KeepsFrom w.heap.size W W' → Vw n₀ Bf Bp Bt ao cap s a b W' → I pre W' → Ax x a' W' → K a' W') →
      assign.wpIn (Fence.wide.inRound l) 3 Try.prog (Exit.then K (fun _ _ _ => False)) { tmps := (ps.zip #[Value.int .i64 (x.1.1 : Nat), Value.agg #[.int .i64 (x.1.2.1 : Nat), .int .i64 x.1.2.2]]).foldl (fun t (p, v) => t.setIfInBounds p v) act.tmps, defers := [] } W)
    (hbody : ∀ (l : Nat) (pre : List X) (x : X) (a' : Act) (W : World), w.heap.size ≤ l → I pre W → Vw n₀ Bf Bp Bt ao cap s a b W → Ax x a' W → pre.length < (gv s a b).length →
      body.wpIn (Fence.wide.inRound l) 3 Try.prog (ownPostG w.heap.size (fun _ B => Vw n₀ Bf Bp Bt ao cap s a b B) I Ix (pre ++ [x]) W) a' W)
    (hdone : ∀ (D : Nat) (W : World), w.heap.size ≤ D → I (gv s a b) W → Vw n₀ Bf Bp Bt ao cap s a b W → W.heap[D]? = some (.deferred (some [])) → Q .normal { act with defers := { target := .collected D, args := #[] } :: act.defers } W)
    (hstop : ∀ (D : Nat) (c : Code) (pre : List X) (W : World), w.heap.size ≤ D → pre <+: gv s a b → Ix c pre W → W.heap[D]? = some (.deferred (some [])) → c.wpIn Fence.wide 5 Try.prog Q { act with defers := { target := .collected D, args := #[] } :: act.defers } W) :
    (Code.rangeFunc g ps assign body).wpIn Fence.wide 5 Try.prog Q act w := by
  have hVo : OwnFrom (β := List X) w.heap.size (fun _ W => Vw n₀ Bf Bp Bt ao cap s a b W) := by
    intro _ W W' row h hg hr
    refine h.kept hg (fun e => ?_) (fun e => ?_) (fun e => ?_) (fun r e => by have := (hr r e).1; omega)
    · obtain ⟨-, o, ho, hc⟩ := hr _ e; rw [h.f] at ho; cases ho; cases hc
    · obtain ⟨-, o, ho, hc⟩ := hr _ e; rw [h.p] at ho; cases ho; cases hc
    · obtain ⟨-, o, ho, hc⟩ := hr _ e; rw [h.t] at ho; cases ho; cases hc
  refine wpIn_rangeFunc_ownH (F := Fence.wide) (n := 5) rfl (by omega) hg trivial (enters_of Try.func42 (by kernel_rfl) rfl)
    (between_stops (5 - 1) n₀ Bf Bp Bt ao cap s a b hab hb hl hs w hv) (fun h k hv => k (h hv)) (Vw.turn hn) (Below.refl _ _) (fun _ => hps)
    (fun pre W => I pre W ∧ Vw n₀ Bf Bp Bt ao cap s a b W) Ix (OwnFrom.and hI hVo) hIx ⟨h0, hv⟩ Ax hAx ?_ ?_ ?_ hstop
  · intro l pre x W K hIV hK
    exact hassign l pre x W K hIV.1 hIV.2 (fun a' W' k1 k2 k3 k4 => hK a' W' k1 (fun _ => k2) ⟨k3, k2⟩ k4)
  · intro l pre x a' W hl _ hIV hA hlt
    refine wpIn_mono (hbody l pre x a' W hl hIV.1 hIV.2 hA hlt) ?_
    intro e a'' W' h
    cases e with
    | normal => exact ⟨h.1, fun _ => h.2.1, h.2.2, h.2.1⟩
    | ret => exact h
    | exit _ => exact h
    | goto _ => exact h
    | panic _ => exact h
    | outgrown => exact h
  · rintro D ys W hD rfl hIV hK
    exact hdone D W hD hIV.1 hIV.2 hK
end Go.Proofs.Ytdchpiihjjjpfab
