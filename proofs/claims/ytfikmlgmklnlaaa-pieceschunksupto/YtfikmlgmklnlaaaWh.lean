/-
  What the program's give, chunks and the function that it hands out do: the pieces' texts, one behind the other, as far as they are asked for.
-/
import Derived.RangeFuncNested
import Derived.RangeFuncBound
import Derived.RangeFuncCalls
import Derived.RangeFuncLeaves
import Derived.Shelf.Abstract
import Derived.Shelf.RegionOpen
import Derived.OwnWalkIn
import Derived.TacticsInMore
import Derived.LoopNIn
import Derived.LoopIn
import Derived.Laws.IdiomStrings
import Derived.Laws.BytesArg
import Derived.Test.YtfikmlgmklnlaaaWg
import Derived.Test.YtfikmlgmklnlaaaWm
namespace Go.Proofs.Ytfikmlgmklnlaaa
open Go.RowKit Go.Shelf
set_option linter.unusedSimpArgs false
set_option linter.unusedVariables false
attribute [local go_sem] Oper.semAt_some

/-- The text of bytes. -/
def tx (l : List Nat) : ByteArray := ⟨(l.map (fun d => UInt8.ofNat d)).toArray⟩
theorem tx_size (l : List Nat) : (tx l).size = l.length := by
  show (l.map (fun d => UInt8.ofNat d)).toArray.size = _
  simp
theorem tx_bt (l : List Nat) (hb : ∀ d ∈ l, d < 256) (i : Nat) (h : i < l.length) : bt (tx l) i = l.getD i 0 := by
  rw [bt_in _ _ (by rw [tx_size]; exact h)]
  show ((l.map (fun d => UInt8.ofNat d)).toArray[i]'(by simpa using h)).toNat = _
  have := hb l[i] (List.getElem_mem h)
  simp [h]
  omega
theorem tx_app (l m : List Nat) : tx l ++ tx m = tx (l ++ m) := by
  apply ByteArray.ext
  simp [tx]

/-- What a piece is as a string. -/
theorem conv_pc {S : Nat → Nat → Prop} {w : World} {p : Pc} (h : PcAt S w p) : (convert 60 9 (.slice (some ⟨p.a, p.o, none⟩) p.l.length p.cap)).run Try.prog w = .ok (.string (tx p.l)) w := by
  have hlen : (p.l.map (fun d => UInt8.ofNat d)).length = p.l.length := by simp
  have k := run_convert_bytes_back (P := Try.prog) w 60 9 5 ⟨p.a, p.o, none⟩ p.cap (p.l.map (fun d => UInt8.ofNat d)) Try.underlying60 Try.underlying5 Try.underlying9 (by
    intro j hj
    have hj' : j < p.l.length := by simpa using hj
    have hlt := h.1.2.2.2 p.l[j] (List.getElem_mem hj')
    have hadd : (⟨p.a, p.o, none⟩ : Addr).add j = ⟨p.a, p.o + j, none⟩ := by unfold Addr.add; split <;> simp_all
    rw [hadd, (h.2 j hj').2]
    simp [hj']
    omega)
  rw [hlen] at k
  exact k

/-- A text that is given out. -/
abbrev Ch := { s : ByteArray // s.size ≤ 1048576 }
def toC (l : List Nat) : Ch := if h : l.length ≤ 1048576 then ⟨tx l, by rw [tx_size]; exact h⟩ else ⟨tx [], by rw [tx_size]; simp⟩
theorem toC_val (l : List Nat) (h : l.length ≤ 1048576) : (toC l).1 = tx l := by unfold toC; rw [dif_pos h]
def Tr.chs (t : Tr) : List Ch := t.pcs.map fun p => toC p.l
theorem chs_node (l r : Tr) (p : Pc) : (Tr.node l p r).chs = l.chs ++ toC p.l :: r.chs := by simp [Tr.chs, Tr.pcs]

theorem room_of_none {F : Fence} (hd : F.depth = none) (k : Nat) : F.room k := fun d h => by rw [hd] at h; cases h
theorem roundIn_anyDepth {F : Fence} (hd : F.depth = none) {m m' : Nat} {P : Program} {l : Nat} {f : FuncId} {tmps : Array Value} {assign body : Code} {w : World} {R : Ending → World → Prop}
    (h : RoundIn F m P l f tmps assign body w R) : RoundIn F m' P l f tmps assign body w R := ⟨h.1, fun c cs _ => h.2 c cs (room_of_none hd _)⟩
theorem yieldAt_anyDepth {F : Fence} (hd : F.depth = none) {m : Nat} (m' : Nat) {P : Program} {l : Nat} {args : Array Value} {W : World} {R : Ending → World → Prop} (h : YieldAt F m P l args W R) : YieldAt F m' P l args W R := by
  obtain ⟨fn, tmps, assign, body, hy, hR⟩ := h
  exact ⟨fn, tmps, assign, body, hy, roundIn_anyDepth hd hR⟩

theorem kp_lt {n₀ : Nat} {A B : World} (h : Below n₀ A B) : Kp (fun b _ => b < n₀) (fun b _ => b < n₀) A B := fun b i u hs hc => ⟨hs, by rw [h.cell (p := ⟨b, i, none⟩) hs]; exact hc⟩

set_option maxRecDepth 100000 in
set_option maxHeartbeats 4000000 in
/-- give, by induction on the tree: true: all have come; false: a round has said 'no more'. -/
theorem give_in (F : Fence) (hd : F.depth = none) (hf : F.fn 57) (hro : F.round = none) (l n₀ N : Nat) (J Jx : List Ch → World → Prop)
    (hY : ∀ m pre (x : Ch) W, J pre W → pre.length < N → YieldAt F m Try.prog l #[.string x.1] W fun e W' =>
      (e = .returned (.bool true) ∧ J (pre ++ [x]) W' ∧ Below n₀ W W') ∨ (e = .returned (.bool false) ∧ Jx (pre ++ [x]) W')) (T : Tr) :
    ∀ (n : Nat) (p : Option Addr) (pre : List Ch) (W : World), IsT (fun b _ => b < n₀) W p T → T.flat.length ≤ 1048576 → J pre W → pre.length + T.chs.length ≤ N →
      CallsIn F n Try.prog 57 #[.pointer p, .func (.yield l) #[] #[]] W fun e W' =>
        (e = .returned (.bool true) ∧ J (pre ++ T.chs) W' ∧ Below n₀ W W') ∨ (e = .returned (.bool false) ∧ ∃ q, q <+: T.chs ∧ Jx (pre ++ q) W') := by
  induction T with
  | nil =>
    intro n p pre W ht _ hJ _
    obtain rfl : p = none := ht
    refine callsIn_of_wp Try.func57 rfl hf ?_ hro
    simp only [Try.ntmps57, List.size_toArray, List.length_cons, List.length_nil, Nat.reduceAdd, Nat.reduceSub, Array.replicate_succ, Array.replicate_zero, List.push_toArray, List.append_toArray, List.nil_append, List.cons_append]
    have hun : undef = Value.tuple #[] := rfl
    gi_wp2
    go_ret
    exact .inl ⟨rfl, by simpa [Tr.chs, Tr.pcs] using hJ, Below.refl _ _⟩
  | node tl v tr ihl ihr =>
    intro n p pre W ht hlen hJ hN
    obtain ⟨b, pl, pr, rfl, hs, ⟨c0, c1, c2, -, -, -, -, -⟩, hp, hl, hr⟩ := ht
    have hb : b < n₀ := hs 0 (by omega)
    have hdd : ∀ k : Nat, (F.depth.isSome = true → 1 ≤ k) := fun k h => by rw [hd] at h; cases h
    rw [flat_node] at hlen
    simp only [List.length_append] at hlen
    simp only [chs_node, List.length_append, List.length_cons] at hN
    have hval := toC_val v.l (by omega)
    have hy2 : ∀ W1, J (pre ++ tl.chs) W1 → Below n₀ W W1 → YieldAt F (n - 1) Try.prog l #[.string (tx v.l)] W1 fun e W2 =>
        (e = .returned (.bool true) ∧ J (pre ++ tl.chs ++ [toC v.l]) W2 ∧ Below n₀ W W2 ∧ W2.cell? ⟨b, 1, none⟩ = some (.pointer pr) ∧ IsT (fun b _ => b < n₀) W2 pr tr) ∨ (e = .returned (.bool false) ∧ Jx (pre ++ tl.chs ++ [toC v.l]) W2) := fun W1 hJ1 hb1 => by
      have h := hY (n - 1) _ (toC v.l) W1 hJ1 (by simp; omega)
      rw [hval] at h
      exact YieldAt.mono h fun e W2 h => h.elim
        (fun ⟨he, hj, hb2⟩ => .inl ⟨he, hj, hb1.trans hb2, ((hb1.trans hb2).cell (p := ⟨b, 1, none⟩) hb).trans c1, hr.keep (kp_lt (hb1.trans hb2))⟩) .inr
    have ih1 := (ihl (n - 1) pl pre W hl (by omega) hJ (by omega)).mono (R' := fun e W1 =>
        (e = .returned (.bool true) ∧ W1.cell? ⟨b, 2, none⟩ = some (.slice (some ⟨v.a, v.o, none⟩) v.l.length v.cap) ∧ (convert 60 9 (.slice (some ⟨v.a, v.o, none⟩) v.l.length v.cap)).run Try.prog W1 = .ok (.string (tx v.l)) W1 ∧ YieldAt F (n - 1) Try.prog l #[.string (tx v.l)] W1 fun e W2 =>
          (e = .returned (.bool true) ∧ J (pre ++ tl.chs ++ [toC v.l]) W2 ∧ Below n₀ W W2 ∧ W2.cell? ⟨b, 1, none⟩ = some (.pointer pr) ∧ IsT (fun b _ => b < n₀) W2 pr tr) ∨ (e = .returned (.bool false) ∧ Jx (pre ++ tl.chs ++ [toC v.l]) W2)) ∨
        (e = .returned (.bool false) ∧ ∃ q, q <+: tl.chs ∧ Jx (pre ++ q) W1))
      (fun e W1 h => h.elim (fun ⟨he, hj, hb1⟩ => .inl ⟨he, (hb1.cell (p := ⟨b, 2, none⟩) hb).trans c2, conv_pc (hp.keep (kp_lt hb1)), hy2 W1 hj hb1⟩) .inr)
    clear hy2 ihl hp hl hr c1 c2
    generalize v.l.length = L at *
    refine callsIn_of_wp Try.func57 rfl hf ?_ hro
    simp only [Try.ntmps57, List.size_toArray, List.length_cons, List.length_nil, Nat.reduceAdd, Nat.reduceSub, Array.replicate_succ, Array.replicate_zero, List.push_toArray, List.append_toArray, List.nil_append, List.cons_append]
    gi_wp2_with (first
      | ((try refine ⟨hdd _, ?_⟩); gi_at_call 57; refine ih1.mono ?_; clear ih1; rintro e W1 (⟨rfl, c1', hcv, fn, tmps, assign, body, hy, hR⟩ | ⟨rfl, q, hq, hx1⟩))
      | ((try refine ⟨hdd _, ?_⟩); refine hR.mono ?_; clear hR; rintro e W2 (⟨rfl, hJ2, hb2, c2', hr2⟩ | ⟨rfl, hx2⟩))
      | ((try refine ⟨hdd _, ?_⟩); gi_at_call 57; refine (ihr (n - 1) pr _ _ hr2 (by omega) hJ2 (by simp; omega)).mono ?_; rintro e W3 (⟨rfl, hJ3, hb3⟩ | ⟨rfl, q, hq, hx3⟩)))
    · go_ret
      exact .inl ⟨rfl, by simpa [chs_node, List.append_assoc] using hJ3, hb2.trans hb3⟩
    · go_ret
      obtain ⟨r, hr'⟩ := hq
      exact .inr ⟨rfl, tl.chs ++ toC v.l :: q, ⟨r, by simp [chs_node, ← hr']⟩, by simpa [List.append_assoc] using hx3⟩
    · go_ret
      exact .inr ⟨rfl, tl.chs ++ [toC v.l], ⟨tr.chs, by simp [chs_node]⟩, by simpa [List.append_assoc] using hx2⟩
    · refine ⟨fun _ h => (by cases h), ?_⟩
      gi_wp2
      go_ret
      exact .inr ⟨rfl, q, hq.trans (by simp [chs_node]), hx1⟩

set_option maxHeartbeats 1000000 in
/-- What chunks hands out, called. -/
theorem chunks1_in (F : Fence) (hd : F.depth = none) (n : Nat) (h5 : F.fn 56) (h6 : F.fn 57) (hro : F.round = none) (l Bt n₀ : Nat) (p0 : Option Addr) (T : Tr) (J Jx : List Ch → World → Prop)
    (hY : ∀ pre (x : Ch) W, J pre W → pre.length < T.chs.length → YieldAt F (n - 1) Try.prog l #[.string x.1] W fun e W' =>
      (e = .returned (.bool true) ∧ J (pre ++ [x]) W' ∧ Below n₀ W W') ∨ (e = .returned (.bool false) ∧ Jx (pre ++ [x]) W'))
    (W : World) (hBt : W.cell? ⟨Bt, 0, none⟩ = some (.pointer p0)) (hT : IsT (fun b _ => b < n₀) W p0 T) (hlen : T.flat.length ≤ 1048576) (h0 : J [] W) :
    CallsIn F n Try.prog 56 #[.func (.yield l) #[] #[], .pointer (some ⟨Bt, 0, none⟩)] W fun e W' => (∃ v, e = .returned v) ∧
      ((∃ ys, ys = T.chs ∧ J ys W') ∨ (∃ pre, pre <+: T.chs ∧ Jx pre W')) := by
  have hdd : ∀ k : Nat, (F.depth.isSome = true → 1 ≤ k) := fun k h => by rw [hd] at h; cases h
  have hp := give_in F hd h6 hro l n₀ T.chs.length J Jx (fun m pre x W hj hl => yieldAt_anyDepth hd m (hY pre x W hj hl)) T (n - 1) p0 [] W hT hlen h0 (by simp)
  refine callsIn_of_wp Try.func56 rfl h5 ?_ hro
  simp only [Try.ntmps56, List.size_toArray, List.length_cons, List.length_nil, Nat.reduceAdd, Nat.reduceSub, Array.replicate_succ, Array.replicate_zero, List.push_toArray, List.append_toArray, List.nil_append, List.cons_append]
  gi_wp2_with ((try refine ⟨hdd _, ?_⟩); gi_at_call 57; refine hp.mono ?_; clear hp; rintro e W1 (⟨rfl, hJ1, _⟩ | ⟨rfl, q, hq, hx⟩))
  · go_end0
    exact ⟨⟨_, rfl⟩, .inl ⟨_, rfl, by simpa using hJ1⟩⟩
  · go_end0
    exact ⟨⟨_, rfl⟩, .inr ⟨q, hq, by simpa using hx⟩⟩

set_option maxHeartbeats 1000000 in
theorem chunks_in (F : Fence) (n : Nat) (h4 : F.fn 41) (hro : F.round = none) (p0 : Option Addr) (w : World) :
    CallsIn F n Try.prog 41 #[.pointer p0] w fun e w' => e = .returned (.func (.func 56) #[] #[.pointer (some ⟨w.heap.size, 0, none⟩)]) ∧ w' = w.alloc (.cells #[.pointer p0] 59) := by
  refine callsIn_of_wp Try.func41 rfl h4 ?_ hro
  simp only [Try.ntmps41, List.size_toArray, List.length_cons, List.length_nil, Nat.reduceAdd, Nat.reduceSub, Array.replicate_succ, Array.replicate_zero, List.push_toArray, List.append_toArray, List.nil_append, List.cons_append]
  gi_wp2
  go_ret
  exact ⟨rfl, rfl⟩

theorem chunks_stops (F : Fence) (hd : F.depth = none) (n : Nat) (h5 : F.fn 56) (h6 : F.fn 57) (hro : F.round = none) (Bt n₀ : Nat) (p0 : Option Addr) (T : Tr) (w : World) (hBt : Bt < w.heap.size) (hn₀ : n₀ ≤ w.heap.size)
    (hc : w.cell? ⟨Bt, 0, none⟩ = some (.pointer p0)) (hT : IsT (fun b _ => b < n₀) w p0 T) (hlen : T.flat.length ≤ 1048576) :
    SeqStopsK F n Try.prog 56 #[.pointer (some ⟨Bt, 0, none⟩)] (fun x : Ch => #[Value.string x.1]) (Below n₀) (fun ys => ys = T.chs) (fun pre => pre <+: T.chs) T.chs.length w := fun l J Jx W hW _ _ hY h0 =>
  chunks1_in F hd n h5 h6 hro l Bt n₀ p0 T J Jx hY W ((hW.cell (p := ⟨Bt, 0, none⟩) hBt).trans hc) (hT.keep (kp_lt (hW.mono hn₀))) hlen h0
end Go.Proofs.Ytfikmlgmklnlaaa
