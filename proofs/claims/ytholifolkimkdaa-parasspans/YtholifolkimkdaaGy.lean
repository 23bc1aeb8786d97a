/-
  What the program's Spans and the function that it hands out do: where each paragraph begins and ends, one behind the other, as far as they are asked for.
-/
import Derived.RangeFuncNested
import Derived.RangeFuncBound
import Derived.RangeFuncCalls
import Derived.RangeFuncLeaves
import Derived.RangeFuncFrom
import Derived.Shelf.Abstract
import Derived.Shelf.RegionOpen
import Derived.OwnWalkIn
import Derived.TacticsInMore
import Derived.LoopNIn
import Derived.LoopIn
import Derived.Sort.QuietIn
import Derived.Test.YtholifolkimkdaaGu
namespace Go.Proofs.Ytholifolkimkdaa
open Go.RowKit Go.Shelf
set_option linter.unusedSimpArgs false
set_option linter.unusedVariables false
attribute [local go_sem] Oper.semAt_some

/-- A paragraph that is given out: where it begins and ends. -/
abbrev X := { x : Nat × Nat // x.1 ≤ 65536 ∧ x.2 ≤ 65536 }
def mkX (a b : Nat) : X := if h : a ≤ 65536 ∧ b ≤ 65536 then ⟨(a, b), h⟩ else ⟨(0, 0), by simp⟩
theorem mkX_val {a b : Nat} (h : a ≤ 65536 ∧ b ≤ 65536) : (mkX a b).1 = (a, b) := by unfold mkX; rw [dif_pos h]
def giv : Nat → List Nat → List X
  | _, [] => []
  | a, n :: t => mkX a (a + n) :: giv (a + n) t
theorem giv_len (a : Nat) (P : List Nat) : (giv a P).length = P.length := by
  induction P generalizing a with
  | nil => rfl
  | cons n t ih => simp [giv, ih]
/-- What is given out. -/
def gv (P : List Nat) : List X := giv 0 P
theorem gv_len (P : List Nat) : (gv P).length = P.length := giv_len 0 P
theorem giv_split (a : Nat) (P : List Nat) (k : Nat) (h : k < P.length) : giv a P = (giv a P).take k ++ mkX (a + Bg P k) (a + Bg P (k + 1)) :: giv (a + Bg P (k + 1)) (P.drop (k + 1)) := by
  induction P generalizing a k with
  | nil => simp at h
  | cons n t ih =>
    cases k with
    | zero => simp [giv, Bg]
    | succ k =>
      have := ih (a + n) k (by simpa using h)
      rw [Bg_cons, Bg_cons]
      simp only [giv, List.take_succ_cons, List.cons_append, List.drop_succ_cons]
      rw [← Nat.add_assoc, ← Nat.add_assoc]
      exact congrArg _ this
theorem gv_at (P : List Nat) (k : Nat) (h : k < P.length) : (gv P)[k]? = some (mkX (Bg P k) (Bg P (k + 1))) := by
  have e := giv_split 0 P k h
  have hl : ((giv 0 P).take k).length = k := by rw [List.length_take, giv_len]; omega
  unfold gv
  rw [e, List.getElem?_append_right (by omega), hl, Nat.sub_self]
  simp
theorem gv_take (P : List Nat) (k : Nat) (h : k < P.length) : (gv P).take (k + 1) = (gv P).take k ++ [mkX (Bg P k) (Bg P (k + 1))] := by
  rw [List.take_add_one, gv_at P k h]; rfl

/-- What the iterator looks at. -/
structure Vw (n₀ Be : Nat) (ao : Option Addr) (cap : Nat) (P : List Nat) (W : World) : Prop where
  p : W.heap[Be]? = some (.cells #[.slice ao P.length cap] 34 (0, 0))
  at_ : NAt (· < n₀) W ao (ens 0 P)
theorem cell_one {W : World} {b : Nat} {v : Value} {t : TypeId} {fz : Nat × Nat} (h : W.heap[b]? = some (.cells #[v] t fz)) : W.cell? ⟨b, 0, none⟩ = some v := by simp [World.cell?, h]
theorem Vw.kept {n₀ Be : Nat} {ao : Option Addr} {cap : Nat} {P : List Nat} {W W' : World} {row : Option Nat} (h : Vw n₀ Be ao cap P W) (hg : W.grownBy W' row) (h2 : row ≠ some Be) (h4 : ∀ r, row = some r → n₀ ≤ r) : Vw n₀ Be ao cap P W' := by
  have lt : ∀ {k : Nat} {o : Obj}, W.heap[k]? = some o → k < W.heap.size := fun h => (Array.getElem?_eq_some_iff.1 h).1
  refine ⟨by rw [hg.block Be (lt h.p) (Ne.symm h2)]; exact h.p, ?_⟩
  refine h.at_.keep (fun k i u hs hc => ⟨hs, ?_⟩)
  exact hg.cell hc (fun e => by have := h4 k e.symm; omega)
theorem Vw.below {n₀ Be : Nat} {ao : Option Addr} {cap : Nat} {P : List Nat} {W W' : World} (h : Vw n₀ Be ao cap P W) (hb : Below W.heap.size W W') : Vw n₀ Be ao cap P W' :=
  h.kept (below_grown hb none) (by simp) (by simp)
theorem Vw.turn {n₀ Be : Nat} {ao : Option Addr} {cap : Nat} {P : List Nat} {w : World} (hn : n₀ ≤ w.heap.size) (W : World) (l : Nat) (o o' : Obj) (hl : w.heap.size ≤ l) (ho : W.heap[l]? = some o) (hc : o.isCells = false) (_ : o.isWalk = false) :
    Vw n₀ Be ao cap P W → Vw n₀ Be ao cap P (W.putObj l o') := fun h =>
  h.kept (grownBy_putObj' W l o') (fun e => by injection e with e; subst e; rw [h.p] at ho; injection ho with ho; subst ho; cases hc) (fun r e => by injection e with e; omega)

set_option maxRecDepth 100000 in
set_option maxHeartbeats 4000000 in
theorem spans1_in (n l n₀ Be : Nat) (ao : Option Addr) (cap : Nat) (P : List Nat) (hl : P.sum ≤ 65536) (hlen : P.length ≤ 65536) (J Jx : List X → World → Prop)
    (hY : ∀ pre (x : X) W, J pre W → pre.length < (gv P).length → YieldAt Fence.wide (n - 1) Try.prog l #[.int .i64 (x.1.1 : Nat), .int .i64 (x.1.2 : Nat)] W fun e W' =>
      (e = .returned (.bool true) ∧ J (pre ++ [x]) W' ∧ (Vw n₀ Be ao cap P W → Vw n₀ Be ao cap P W')) ∨ (e = .returned (.bool false) ∧ Jx (pre ++ [x]) W'))
    (W : World) (hv : Vw n₀ Be ao cap P W) (hJ : J [] W) (hab2 : ∀ pre W1 W2, J pre W1 → Below W1.heap.size W1 W2 → J pre W2) :
    CallsIn Fence.wide n Try.prog 34 #[.func (.yield l) #[] #[], .pointer (some ⟨Be, 0, none⟩)] W fun e W' => (∃ v, e = .returned v) ∧
      ((∃ ys, ys = gv P ∧ J ys W') ∨ (∃ pre, pre <+: gv P ∧ Jx pre W')) := by
  have hro : (Fence.wide).round = none := rfl
  have hd : (Fence.wide).depth = none := rfl
  have cp := cell_one hv.p
  refine callsIn_of_wp Try.func34 rfl trivial ?_ hro
  simp only [Try.ntmps34, List.size_toArray, List.length_cons, List.length_nil, Nat.reduceAdd, Nat.reduceSub, Array.replicate_succ, Array.replicate_zero, List.push_toArray, List.append_toArray, List.nil_append, List.cons_append]
  gi_wp2_with fail
  have HA := boxed hab2
  have HY := boxed hY
  have HV1 := boxed hv
  have HJ1 := boxed hJ
  have hgl := gv_len P
  clear hv hJ hY hab2 cp
  gi_loopw [3, 8] (fun va vi wr => ∃ k : Nat, k ≤ P.length ∧ va = .int .i64 (Bg P k : Nat) ∧ vi = .int .i64 (k : Nat) ∧ Box (J ((gv P).take k) wr) ∧ Box (Vw n₀ Be ao cap P wr)) (fun _ vi _ => P.length - (intOf vi).toNat)
  case atStart => exact ⟨0, Nat.zero_le _, rfl, rfl, HJ1, HV1⟩
  case round =>
    obtain ⟨k, hk, rfl, rfl, HJ, HV⟩ := hrel
    by_cases hlt : k < P.length
    · obtain ⟨b, rfl, -, c0⟩ := HV.out.at_ k (by rw [ens_len]; exact hlt)
      rw [ens_get 0 P k hlt, Nat.zero_add] at c0
      have hb1 := Bg_le P k
      have hb2 := Bg_le P (k + 1)
      have hxv : (mkX (Bg P k) (Bg P (k + 1))).1 = (Bg P k, Bg P (k + 1)) := mkX_val ⟨by omega, by omega⟩
      have htk := gv_take P k hlt
      have hp1 : ((gv P).take k).length < (gv P).length := by rw [List.length_take, hgl]; omega
      have hY := HY.out ((gv P).take k) (mkX (Bg P k) (Bg P (k + 1))) wr HJ.out hp1
      rw [hxv, ← htk] at hY
      dsimp only at hY
      have HPF : Box ((gv P).take (k + 1) <+: gv P) := boxed (List.take_prefix _ _)
      have tk : decide ((k : Int) < (P.length : Int)) = true := decide_eq_true (by omega)
      have tk' : decide (k < P.length) = true := decide_eq_true hlt
      obtain ⟨fn, tmps, assign, body, hy, hR⟩ := hY
      have HR := boxed hR
      clear hR HJ hxv hp1 htk
      generalize Bg P k = A at *
      generalize hC : Bg P (k + 1) = C at *
      gi_wp2_with fail
      refine HR.out.mono ?_
      rintro e' W3 (⟨rfl, hJ3, hk3⟩ | ⟨rfl, hJx3⟩)
      · have HV3 := boxed (hk3 HV.out)
        have HJ3 := boxed hJ3
        replace hC := boxed hC
        clear hk3 hJ3 HR
        gi_wp2
        go_roundw
        case rel => exact ⟨k + 1, by omega, by rw [hC.out], by go_num, HJ3, HV3⟩
        case measure => simp [intOf]; omega
      · gi_wp2
        refine bodyPost_ret (results_none rfl _ _ _) rfl ?_
        exact ⟨⟨_, rfl⟩, .inr ⟨_, HPF.out, hJx3⟩⟩
    · obtain rfl : k = P.length := by omega
      have HE : Box ((gv P).take P.length = gv P) := boxed (List.take_of_length_le (by omega))
      have tk : decide ((P.length : Int) < (P.length : Int)) = false := decide_eq_false (by omega)
      have hJ9 := HJ.out
      rw [HE.out] at hJ9
      have HJ9 := boxed hJ9
      clear hJ9 HJ
      gi_wp2
      go_end0
      exact ⟨⟨_, rfl⟩, .inl ⟨_, rfl, HJ9.out⟩⟩

set_option maxHeartbeats 1000000 in
theorem spans_in (n : Nat) {w : World} {xb : Nat} {ao : Option Addr} {cap : Nat} {P : List Nat} {o : Bool} (h : IxAt w xb ao cap P o) :
    CallsIn Fence.wide n Try.prog 20 #[.pointer (some ⟨xb, 0, none⟩)] w fun e w' => e = .returned (.func (.func 34) #[] #[.pointer (some ⟨w.heap.size, 0, none⟩)]) ∧
      w' = w.alloc (.cells #[.slice ao P.length cap] 34) := by
  have hro : (Fence.wide).round = none := rfl
  have c0 := h.c0
  clear h
  refine callsIn_of_wp Try.func20 rfl trivial ?_ hro
  simp only [Try.ntmps20, List.size_toArray, List.length_cons, List.length_nil, Nat.reduceAdd, Nat.reduceSub, Array.replicate_succ, Array.replicate_zero, List.push_toArray, List.append_toArray, List.nil_append, List.cons_append]
  gi_wp2
  go_ret
  exact ⟨rfl, rfl⟩

theorem heap3 (w : World) (o1 o2 o3 : Obj) : (((w.alloc o1).alloc o2).alloc o3).heap[w.heap.size]? = some o1 ∧ (((w.alloc o1).alloc o2).alloc o3).heap[w.heap.size + 1]? = some o2 ∧ (((w.alloc o1).alloc o2).alloc o3).heap[w.heap.size + 2]? = some o3 := by
  refine ⟨?_, ?_, ?_⟩
  · rw [Below.heap_alloc _ _ _ (by simp; omega), Below.heap_alloc _ _ _ (by simp)]; exact heap_alloc_new w o1
  · rw [Below.heap_alloc _ _ _ (by simp)]
    have := heap_alloc_new (w.alloc o1) o2
    rwa [World.size_alloc] at this
  · have := heap_alloc_new ((w.alloc o1).alloc o2) o3
    rwa [World.size_alloc, World.size_alloc] at this

/-- What Spans hands out gives out the paragraphs. -/
theorem spans_stops (n n₀ Be : Nat) (ao : Option Addr) (cap : Nat) (P : List Nat) (hl : P.sum ≤ 65536) (hlen : P.length ≤ 65536) (w : World) (hv : Vw n₀ Be ao cap P w) :
    SeqStopsK Fence.wide n Try.prog 34 #[.pointer (some ⟨Be, 0, none⟩)] (fun x : X => #[Value.int .i64 (x.1.1 : Nat), Value.int .i64 (x.1.2 : Nat)])
      (fun A B => Vw n₀ Be ao cap P A → Vw n₀ Be ao cap P B) (fun ys => ys = gv P) (fun pre => pre <+: gv P) (gv P).length w := fun l J Jx W hW hJa _ hY h0 =>
  spans1_in n l n₀ Be ao cap P hl hlen J Jx hY W (hv.below hW) h0 (fun pre W1 W2 h hb => hJa pre W1 W2 none h (below_grown hb none) (fun r e => by cases e))

/-- A range over what Spans hands out. -/
theorem wp_spans {g : Operand} {ps : Array Tmp} {assign body : Code} {Q : Exit → Act → World → Prop} {act : Act} {w : World} (n₀ Be : Nat) (ao : Option Addr) (cap : Nat) (P : List Nat) (hl : P.sum ≤ 65536) (hlen : P.length ≤ 65536)
    (hg : act.eval g = .func (.func 34) #[] #[.pointer (some ⟨Be, 0, none⟩)]) (hv : Vw n₀ Be ao cap P w) (hn : n₀ ≤ w.heap.size) (hps : 2 = ps.size)
    (I : List X → World → Prop) (Ix : Code → List X → World → Prop) (hI : OwnFrom w.heap.size I) (hIx : ∀ c, OwnFrom w.heap.size (Ix c)) (h0 : I [] w) (Ax : X → Act → World → Prop) (hAx : ∀ x a', OwnFrom w.heap.size (fun (_ : Unit) W => Ax x a' W))
    (hassign : ∀ (l : Nat) (pre : List X) (x : X) (W : World) (K : Act → World → Prop), I pre W → Vw n₀ Be ao cap P W → (∀ a' W', KeepsFrom w.heap.size W W' → Vw n₀ Be ao cap P W' → I pre W' → Ax x a' W' → K a' W') →
      assign.wpIn (Fence.wide.inRound l) 3 Try.prog (Exit.then K (fun _ _ _ => False)) { tmps := (ps.zip #[Value.int .i64 (x.1.1 : Nat), Value.int .i64 (x.1.2 : Nat)]).foldl (fun t (p, v) => t.setIfInBounds p v) act.tmps, defers := [] } W)
    (hbody : ∀ (l : Nat) (pre : List X) (x : X) (a' : Act) (W : World), w.heap.size ≤ l → I pre W → Vw n₀ Be ao cap P W → Ax x a' W → pre.length < (gv P).length →
      body.wpIn (Fence.wide.inRound l) 3 Try.prog (ownPostG w.heap.size (fun _ B => Vw n₀ Be ao cap P B) I Ix (pre ++ [x]) W) a' W)
    (hdone : ∀ (D : Nat) (W : World), w.heap.size ≤ D → I (gv P) W → Vw n₀ Be ao cap P W → W.heap[D]? = some (.deferred (some [])) → Q .normal { act with defers := { target := .collected D, args := #[] } :: act.defers } W)
    (hstop : ∀ (D : Nat) (c : Code) (pre : List X) (W : World), w.heap.size ≤ D → pre <+: gv P → Ix c pre W → W.heap[D]? = some (.deferred (some [])) → c.wpIn Fence.wide 5 Try.prog Q { act with defers := { target := .collected D, args := #[] } :: act.defers } W) :
    (Code.rangeFunc g ps assign body).wpIn Fence.wide 5 Try.prog Q act w := by
  have hVo : OwnFrom (β := List X) w.heap.size (fun _ W => Vw n₀ Be ao cap P W) := by
    intro _ W W' row h hg hr
    refine h.kept hg (fun e => ?_) (fun r e => by have := (hr r e).1; omega)
    obtain ⟨-, o, ho, hc⟩ := hr _ e; rw [h.p] at ho; cases ho; cases hc
  refine wpIn_rangeFunc_ownH (F := Fence.wide) (n := 5) rfl (by omega) hg trivial (enters_of Try.func34 (by kernel_rfl) rfl)
    (spans_stops (5 - 1) n₀ Be ao cap P hl hlen w hv) (fun h k hv => k (h hv)) (Vw.turn hn) (Below.refl _ _) (fun _ => hps)
    (fun pre W => I pre W ∧ Vw n₀ Be ao cap P W) Ix (OwnFrom.and hI hVo) hIx ⟨h0, hv⟩ Ax hAx ?_ ?_ ?_ hstop
  · intro l pre x W K hIV hK
    exact hassign l pre x W K hIV.1 hIV.2 (fun a' W' k1 k2 k3 k4 => hK a' W' k1 (fun _ => k2) ⟨k3, k2⟩ k4)
  · intro l pre x a' W hl _ hIV hA hlt
    refine wpIn_mono (hbody l pre x a' W hl hIV.1 hIV.2 hA hlt) ?_
    intro e a'' W' h
    cases e with
    | normal => exact ⟨h.1, fun _ => h.2.1, h.2.2, h.2.1⟩
    | ret => exact h
    | exit _ => exact h
    | goto _ => exact h
    | panic _ => exact h
    | outgrown => exact h
  · rintro D ys W hD rfl hIV hK
    exact hdone D W hD hIV.1 hIV.2 hK
end Go.Proofs.Ytholifolkimkdaa
