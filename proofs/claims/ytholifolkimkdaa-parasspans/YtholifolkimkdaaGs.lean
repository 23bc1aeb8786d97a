/-
  What the document's Delete answers, whatever it is asked; the law's step.
-/
import Derived.Test.YtholifolkimkdaaGr
import Derived.Laws.StructEq
namespace Go.Proofs.Ytholifolkimkdaa
open Go.RowKit
set_option linter.unusedSimpArgs false
set_option linter.unusedVariables false

set_option maxRecDepth 100000 in
set_option maxHeartbeats 2000000 in
theorem rdelete_none (s : ByteArray) (a b : Int) (w : World) (hno : outb s.size a b = true ∨ a = b) :
    Calls Try.prog 29 #[.string s, .int .i64 a, .int .i64 b] w fun e w' => RefP w s 0 0 0 (delE (ln s) a b) e w' := by
  obtain ⟨w0, hw0⟩ : ∃ w0, w.alloc (.cells #[.int .i64 0, .int .i64 0, .int .i64 0] 30) = w0 := ⟨_, rfl⟩
  have hb0 : Below w.heap.size w w0 := by rw [← hw0]; exact new_below _ _
  have hN : w0.heap[w.heap.size]? = some (.cells #[.int .i64 0, .int .i64 0, .int .i64 0] 30 (0, 0)) := by rw [← hw0]; exact heap_alloc_new w _
  obtain ⟨⟨d0, d1, d2⟩, g0, g1, g2⟩ := cells3 hN
  have hp := put3_all hN (.int .i64 0) (.int .i64 0) (.int .i64 0)
  have HF := boxed (hb0.trans (grown_below hp.2.1 (Nat.le_refl _) hb0.size))
  have HQ := boxed hp.1
  have hsp := fun W => rspan_any s a b W
  have hn1 := ln_len s
  clear hb0 hN hp
  by_cases c1 : outb s.size a b = true
  · have he : delE (ln s) a b = 30 := by unfold delE; rw [hn1, if_pos c1]
    rw [he]
    rw [if_pos c1] at hsp
    clear he hno c1
    cases hab : (a == b) with
    | true =>
      go_enter Try.func29, Try.ntmps29
      go_wp2_with (go_at_call 24; refine (hsp _).mono ?_; rintro e w1' ⟨rfl, hw'⟩; subst w1')
      all_goals refine bodyPost_ret (v := .tuple #[.string s, itv 0 0 0, .int .i64 30]) (by simp [results, Try.results29, go_sem, HQ.out.1, HQ.out.2.1, HQ.out.2.2]) rfl ⟨rfl, HF.out⟩
    | false =>
      go_enter Try.func29, Try.ntmps29
      go_wp2_with (go_at_call 24; refine (hsp _).mono ?_; rintro e w1' ⟨rfl, hw'⟩; subst w1')
      all_goals refine bodyPost_ret (v := .tuple #[.string s, itv 0 0 0, .int .i64 30]) (by simp [results, Try.results29, go_sem, HQ.out.1, HQ.out.2.1, HQ.out.2.2]) rfl ⟨rfl, HF.out⟩
  · obtain rfl : a = b := hno.resolve_left c1
    have he : delE (ln s) a a = 0 := by unfold delE; rw [hn1, if_neg c1]
    rw [he]
    rw [if_neg c1] at hsp
    clear he hno c1
    go_enter Try.func29, Try.ntmps29
    go_wp2_with (go_at_call 24; refine (hsp _).mono ?_; rintro e w1' ⟨rfl, hw'⟩; subst w1')
    all_goals refine bodyPost_ret (v := .tuple #[.string s, itv 0 0 0, .int .i64 0]) (by simp [results, Try.results29, go_sem, HQ.out.1, HQ.out.2.1, HQ.out.2.2]) rfl ⟨rfl, HF.out⟩

theorem rdelete_any (s : ByteArray) (a b : Int) (w : World) (hs : s.size ≤ 65536) :
    Calls Try.prog 29 #[.string s, .int .i64 a, .int .i64 b] w fun e w' => RefP w (delR s a b) (delF (ln s) a b) (delO (ln s) a b) (delN (ln s) a b) (delE (ln s) a b) e w' := by
  have hl := ln_len s
  by_cases hno : outb s.size a b = true ∨ a = b
  · have := rdelete_none s a b w hno
    unfold delR delF delO delN
    rw [hl, if_pos hno, if_pos hno, if_pos hno, if_pos hno]
    exact this
  · have c1 : ¬ outb s.size a b = true := fun h => hno (.inl h)
    have c2 : a ≠ b := fun h => hno (.inr h)
    obtain ⟨a1, a2, a3⟩ := (outb_iff _ _ _).1 (by simpa using c1 : outb s.size a b = false)
    obtain ⟨k, rfl⟩ : ∃ k : Nat, a = k := ⟨a.toNat, by omega⟩
    obtain ⟨m, rfl⟩ : ∃ m : Nat, b = m := ⟨b.toNat, by omega⟩
    have := rdelete_ok s k m w hs (by omega) (by omega)
    unfold delR delF delO delN delE
    rw [hl, if_neg hno, if_neg hno, if_neg hno, if_neg hno, if_neg c1]
    exact this

/-- An edit, as it is handed in. -/
structure Opr where
  out : Bool
  a : Int
  b : Int
  m : ByteArray
/-- The text, the interval and the number of an edit. -/
def stR (s : ByteArray) (o : Opr) : ByteArray := if o.out = true then delR s o.a o.b else insR s o.a o.m
def stF (s : ByteArray) (o : Opr) : Nat := if o.out = true then delF (ln s) o.a o.b else insF (ln s) o.a (ln o.m)
def stO (s : ByteArray) (o : Opr) : Nat := if o.out = true then delO (ln s) o.a o.b else insO (ln s) o.a (ln o.m)
def stN (s : ByteArray) (o : Opr) : Nat := if o.out = true then delN (ln s) o.a o.b else insN (ln s) o.a (ln o.m)
abbrev oprV (o : Opr) : Value := .agg #[.bool o.out, .int .i64 o.a, .int .i64 o.b, .string o.m]
theorem stR_size (s : ByteArray) (o : Opr) (hs : s.size ≤ 65536) : (stR s o).size ≤ 65536 := by
  unfold stR
  split
  · unfold delR
    split
    · exact hs
    · next c =>
      obtain ⟨a1, a2, a3⟩ := (outb_iff s.size o.a o.b).1 (by cases h : outb s.size o.a o.b with
        | true => exact absurd (.inl h) c
        | false => rfl)
      rw [ByteArray.size_append, ByteArray.size_extract, ByteArray.size_extract]; omega
  · unfold insR
    split
    · next c =>
      have he := c.1
      unfold insE at he
      rw [ln_len] at he
      by_cases c1 : outb s.size o.a o.a = true
      · rw [if_pos c1] at he; omega
      · rw [if_neg c1, if_neg c.2] at he
        by_cases c3 : 65536 - s.size < o.m.size
        · rw [if_pos c3] at he; omega
        · rw [ByteArray.size_append, ByteArray.size_append, ByteArray.size_extract, ByteArray.size_extract]; omega
    · exact hs
theorem guardI : Try.prog.eqGuardType Try.prog.depth 30 = false := by kernel_rfl
theorem eqItv (a b c d e f : Int) (w : World) : (Op.equalIn 10000 30 (.agg #[.int .i64 a, .int .i64 b, .int .i64 c]) (.agg #[.int .i64 d, .int .i64 e, .int .i64 f])).run Try.prog w = .ok (a == d && b == e && c == f) w := by
  have u3 := Try.underlying3
  have hS : Try.prog.underlying 30 = some (.struct (Try.prog.fieldsOf 30)) := by kernel_rfl
  have hp : Try.prog.stoodInHeld 30 = false := by kernel_rfl
  rw [show (10000 : Nat) = 9999 + 1 from rfl, run_equalIn_agg w 9999 30 _ _ hS hp]
  simp only [Program.fieldsOf, Try.underlying30]
  go_simp
  by_cases h1 : a = d <;> by_cases h2 : b = e <;> by_cases h3 : c = f <;> simp [h1, h2, h3]
theorem sameItv (a b c : Int) (w : World) : (binOp .eql 30 (.agg #[.int .i64 a, .int .i64 b, .int .i64 c]) (.agg #[.int .i64 a, .int .i64 b, .int .i64 c])).run Try.prog w = .ok (.bool true) w := by
  rw [run_eql_struct, eqItv]
  simp
theorem eqlItv (a b c d e f : Int) (w : World) : (binOp .eql 30 (.agg #[.int .i64 a, .int .i64 b, .int .i64 c]) (.agg #[.int .i64 d, .int .i64 e, .int .i64 f])).run Try.prog w = .ok (.bool (a == d && b == e && c == f)) w := by
  rw [run_eql_struct, eqItv]
  rfl
theorem guardItv (op : BinOp) (x y : Operand) (xs ys : Array Value) (w : World) : (eqGuard op 30 x y (.agg xs) (.agg ys)).run Try.prog w = .ok () w := run_eqGuard_agg w op 30 x y xs ys guardI
/-- Four values in a block. -/
theorem cells4 {W : World} {rb : Nat} {v0 v1 v2 v3 : Value} {t : TypeId} (e : W.heap[rb]? = some (.cells #[v0, v1, v2, v3] t (0, 0))) : W.cell? ⟨rb, 0, none⟩ = some v0 ∧ W.cell? ⟨rb, 1, none⟩ = some v1 ∧ W.cell? ⟨rb, 2, none⟩ = some v2 ∧ W.cell? ⟨rb, 3, none⟩ = some v3 := by
  refine ⟨?_, ?_, ?_, ?_⟩ <;> simp [World.cell?, e]
section
variable {w : World} {xb : Nat} {ao : Option Addr} {cap : Nat} {s : ByteArray}
/-- What the law's step leaves. -/
def StpP (w : World) (xb : Nat) (ao : Option Addr) (cap : Nat) (s : ByteArray) (o : Opr) (e : Ending) (w' : World) : Prop :=
  e = .returned (.tuple #[.string (stR s o), itv (stF s o) (stO s o) (stN s o), .bool true]) ∧ w.grownBy w' (some xb) ∧ ∃ ao' cap', TxAt w' xb ao' cap' (ln (stR s o)) ∧ ((ao' = ao ∧ cap' = cap ∧ ln (stR s o) = ln s) ∨ NAt (fun b => w.heap.size ≤ b) w' ao' (ens 0 (sp (ln (stR s o)))))

theorem stp_fin {l l' : List Bool} {w2 w3 W' : World} {rb : Nat} {a' : Option Addr} {c' : Nat} (h : TxAt w xb ao cap l) (hb : Below w.heap.size w w2) (hE : w2.grownBy w3 (some xb)) (hx : TxAt w3 xb a' c' l')
    (hd : (a' = ao ∧ c' = cap ∧ l' = l) ∨ NAt (fun b => w2.heap.size ≤ b) w3 a' (ens 0 (sp l'))) (hg : w3.grownBy W' (some rb)) (hr1 : w.heap.size ≤ rb) (hr2 : rb < w2.heap.size) :
    w.grownBy W' (some xb) ∧ ∃ ao' cap', TxAt W' xb ao' cap' l' ∧ ((ao' = ao ∧ cap' = cap ∧ l' = l) ∨ NAt (fun b => w.heap.size ≤ b) W' ao' (ens 0 (sp l'))) := by
  have hlt := h.lt
  have hG : w.grownBy W' (some xb) := grown_new (grown_trans (below_grown hb _) hE) hg hr1
  refine ⟨hG, ?_⟩
  rcases hd with ⟨rfl, rfl, rfl⟩ | hd
  · refine ⟨a', c', ⟨?_, ?_, hx.pos, hx.len, hx.cap⟩, .inl ⟨rfl, rfl, rfl⟩⟩
    · rw [hg.block xb hx.lt (fun e => by injection e with e; omega)]; exact hx.blk
    · exact h.pts.keep (kp_grown hG (fun b hb => hb))
  · obtain ⟨k1, k2⟩ := IxAt.other hx hd hg hr2 (by omega)
    exact ⟨a', c', k1, .inr (k2.keep (fun b i u hs hc => ⟨Nat.le_trans hb.size hs, hc⟩))⟩
set_option maxRecDepth 100000 in
set_option maxHeartbeats 4000000 in
theorem step_any (h : TxAt w xb ao cap (ln s)) (o : Opr) (hm : o.m.size ≤ 65536) : Calls Try.prog 12 #[.pointer (some ⟨xb, 0, none⟩), .string s, oprV o] w fun e w' => StpP w xb ao cap s o e w' := by
  have hs : s.size ≤ 65536 := by have := h.len; rw [sp_sum, ln_len] at this; exact this
  have hlt := h.lt
  have heq := sameItv
  have hgd := guardItv
  obtain ⟨out, a, b, m⟩ := o
  obtain ⟨w0, hw0⟩ : ∃ w0, (w.alloc (.cells #[.bool out, .int .i64 a, .int .i64 b, .string m] 28)).alloc (.cells #[.int .i64 0, .int .i64 0, .int .i64 0] 30) = w0 := ⟨_, rfl⟩
  have hb0 : Below w.heap.size w w0 := by rw [← hw0]; exact below_two _ _ _
  have hz0 : w0.heap.size = w.heap.size + 2 := by rw [← hw0]; simp
  have hO0 : w0.heap[w.heap.size]? = some (.cells #[.bool out, .int .i64 a, .int .i64 b, .string m] 28 (0, 0)) := by
    have h1 : (w.alloc (.cells #[.bool out, .int .i64 a, .int .i64 b, .string m] 28)).heap[w.heap.size]? = some (.cells #[.bool out, .int .i64 a, .int .i64 b, .string m] 28 (0, 0)) := heap_alloc_new w _
    rw [← hw0, (new_below _ _).block w.heap.size (by simp)]; exact h1
  have hR0 : w0.heap[w.heap.size + 1]? = some (.cells #[.int .i64 0, .int .i64 0, .int .i64 0] 30 (0, 0)) := by
    have h1 := heap_alloc_new (w.alloc (.cells #[.bool out, .int .i64 a, .int .i64 b, .string m] 28)) (.cells #[.int .i64 0, .int .i64 0, .int .i64 0] 30)
    rw [new_size] at h1
    rw [← hw0]; exact h1
  have HOP : Box (∀ W, Below w0.heap.size w0 W → W.cell? ⟨w.heap.size, 0, none⟩ = some (.bool out) ∧ W.cell? ⟨w.heap.size, 1, none⟩ = some (.int .i64 a) ∧ W.cell? ⟨w.heap.size, 2, none⟩ = some (.int .i64 b) ∧ W.cell? ⟨w.heap.size, 3, none⟩ = some (.string m)) := boxed (fun W hb => cells4 (by rw [hb.block _ (by omega)]; exact hO0))
  have HRS : Box (∀ W, Below w0.heap.size w0 W → W.heap[w.heap.size + 1]? = some (.cells #[.int .i64 0, .int .i64 0, .int .i64 0] 30 (0, 0))) := boxed (fun W hb => by rw [hb.block _ (by omega)]; exact hR0)
  have HB0 := boxed hb0
  obtain ⟨p0, p1, p2, p3⟩ := HOP.out _ (Below.refl _ _)
  clear hO0 hR0
  unfold StpP stR stF stO stN oprV
  cases out with
  | true =>
    simp only [if_true]
    have hr := fun W => rdelete_any s a b W hs
    have hp := fun W (hb : Below w0.heap.size w0 W) => delete_any ((h.below hb0).below hb) a b
    rw [← ln_delR] at hp
    generalize delR s a b = r at *
    generalize delF (ln s) a b = F at *
    generalize delO (ln s) a b = O at *
    generalize delN (ln s) a b = N at *
    generalize delE (ln s) a b = C at *
    have HH := boxed h
    clear hb0 h
    go_enter Try.func12, Try.ntmps12
    go_wp2_with fail
    refine (hr _).mono ?_
    rintro e w1 ⟨rfl, hb1⟩
    have HD1 := boxed hb1
    obtain ⟨w2, hw2⟩ : ∃ w2, w1.alloc (.cells #[.int .i64 (F : Nat), .int .i64 (O : Nat), .int .i64 (N : Nat)] 30) = w2 := ⟨_, rfl⟩
    have hb2 : Below w1.heap.size w1 w2 := by rw [← hw2]; exact new_below _ _
    have HD2 := boxed (below_step HD1.out (Nat.le_refl _) hb2)
    obtain ⟨s0, s1, s2, s3⟩ := HOP.out _ HD2.out
    have HI2 : Box (w2.heap[w1.heap.size]? = some (.cells #[.int .i64 (F : Nat), .int .i64 (O : Nat), .int .i64 (N : Nat)] 30 (0, 0))) := boxed (by rw [← hw2]; exact heap_alloc_new w1 _)
    have hz2 : w2.heap.size = w1.heap.size + 1 := by rw [← hw2]; exact new_size _ _
    have hz1 := HD1.out.size
    clear hb1 hr hb2
    go_wp2_with fail
    refine (hp _ HD2.out).mono ?_
    rintro e w3 ⟨rfl, hg3, a3, c3, hx3, hd3⟩
    have HI3 : Box (w3.heap[w1.heap.size]? = _) := boxed ((hg3.block w1.heap.size (by omega) (by intro e; injection e with e; omega)).trans HI2.out)
    have HR3 : Box (w3.heap[w.heap.size + 1]? = _) := boxed ((hg3.block (w.heap.size + 1) (by omega) (by intro e; injection e with e; omega)).trans (HRS.out _ HD2.out))
    have hz3 := hg3.size
    obtain ⟨w4, hw4⟩ : ∃ w4, w3.alloc (.cells #[.int .i64 (F : Nat), .int .i64 (O : Nat), .int .i64 (N : Nat)] 30) = w4 := ⟨_, rfl⟩
    have hb4 : Below w3.heap.size w3 w4 := by rw [← hw4]; exact new_below _ _
    have HG4 : Box (w4.heap[w3.heap.size]? = some (.cells #[.int .i64 (F : Nat), .int .i64 (O : Nat), .int .i64 (N : Nat)] 30 (0, 0))) := boxed (by rw [← hw4]; exact heap_alloc_new w3 _)
    have HI4 := boxed ((hb4.block w1.heap.size (by omega)).trans HI3.out)
    have HR4 := boxed ((hb4.block (w.heap.size + 1) (by omega)).trans HR3.out)
    have HP := put3_all HR4.out (.int .i64 (F : Nat)) (.int .i64 (O : Nat)) (.int .i64 (N : Nat))
    have HF := boxed (stp_fin HH.out (HB0.out.trans (HD2.out.mono (by omega))) hg3 hx3 hd3 (grown_trans (grown_trans (below_grown hb4 _) HP.2.1) (below_grown (Below.refl _ _).drew _)) (by omega) (by omega))
    have HQ := boxed HP.1
    obtain ⟨⟨y0, y1, y2⟩, -⟩ := cells3 HG4.out
    obtain ⟨⟨i0, i1, i2⟩, -⟩ := cells3 HI4.out
    obtain ⟨⟨r0, r1, r2⟩, f0, f1, f2⟩ := cells3 HR4.out
    have hfa1 : w.heap.size + 1 ≠ w1.heap.size := by omega
    have hfa2 : w.heap.size + 1 ≠ w3.heap.size := by omega
    have hS0 : ∀ W : World, (∀ b i, b ≠ w.heap.size + 1 → W.cell? ⟨b, i, none⟩ = w4.cell? ⟨b, i, none⟩) → (W.cell? ⟨w1.heap.size, 0, none⟩ = some (.int .i64 (F : Nat)) ∧ W.cell? ⟨w1.heap.size, 1, none⟩ = some (.int .i64 (O : Nat)) ∧ W.cell? ⟨w1.heap.size, 2, none⟩ = some (.int .i64 (N : Nat))) ∧ W.cell? ⟨w3.heap.size, 0, none⟩ = some (.int .i64 (F : Nat)) ∧ W.cell? ⟨w3.heap.size, 1, none⟩ = some (.int .i64 (O : Nat)) ∧ W.cell? ⟨w3.heap.size, 2, none⟩ = some (.int .i64 (N : Nat)) := fun W hW => ⟨⟨by rw [hW _ _ hfa1.symm]; exact i0, by rw [hW _ _ hfa1.symm]; exact i1, by rw [hW _ _ hfa1.symm]; exact i2⟩, by rw [hW _ _ hfa2.symm]; exact y0, by rw [hW _ _ hfa2.symm]; exact y1, by rw [hW _ _ hfa2.symm]; exact y2⟩
    have hfar : ∀ b i, b ≠ w.heap.size + 1 → (((w4.setCell ⟨w.heap.size + 1, 0, none⟩ (.int .i64 (F : Nat))).setCell ⟨w.heap.size + 1, 1, none⟩ (.int .i64 (O : Nat))).setCell ⟨w.heap.size + 1, 2, none⟩ (.int .i64 (N : Nat))).cell? ⟨b, i, none⟩ = w4.cell? ⟨b, i, none⟩ := fun b i hb => by
      rw [World.cell?_setCell_far _ _ _ _ (Ne.symm hb), World.cell?_setCell_far _ _ _ _ (Ne.symm hb), World.cell?_setCell_far _ _ _ _ (Ne.symm hb)]
    have HS0 := boxed (hS0 w4.drew (fun _ _ _ => rfl))
    have HS1 := boxed (hS0 (((w4.setCell ⟨w.heap.size + 1, 0, none⟩ (.int .i64 (F : Nat))).setCell ⟨w.heap.size + 1, 1, none⟩ (.int .i64 (O : Nat))).setCell ⟨w.heap.size + 1, 2, none⟩ (.int .i64 (N : Nat))).drew hfar)
    clear hp hg3 hx3 hd3 hb4 HP HI2 HI3 HR3 HRS HOP hS0 hfar
    go_wp2_with fail
    go_region_held3 (fun W => (W.cell? ⟨w1.heap.size, 0, none⟩ = some (.int .i64 (F : Nat)) ∧ W.cell? ⟨w1.heap.size, 1, none⟩ = some (.int .i64 (O : Nat)) ∧ W.cell? ⟨w1.heap.size, 2, none⟩ = some (.int .i64 (N : Nat))) ∧ W.cell? ⟨w3.heap.size, 0, none⟩ = some (.int .i64 (F : Nat)) ∧ W.cell? ⟨w3.heap.size, 1, none⟩ = some (.int .i64 (O : Nat)) ∧ W.cell? ⟨w3.heap.size, 2, none⟩ = some (.int .i64 (N : Nat)))
      (first | with_reducible exact HS0.out | with_reducible exact HS1.out)
      (fail)
    go_wp2
    refine bodyPost_ret (v := .tuple #[.string r, itv F O N, .bool true]) (by simp [results, Try.results12, go_sem, HQ.out.1, HQ.out.2.1, HQ.out.2.2]) rfl ⟨rfl, HF.out⟩
  | false =>
    simp only [Bool.false_eq_true, if_false]
    have hr := fun W => rinsert_any s a m W hs hm
    have hp := fun W (hb : Below w0.heap.size w0 W) => insert_any ((h.below hb0).below hb) a m hm
    rw [← ln_insR] at hp
    generalize insR s a m = r at *
    generalize insF (ln s) a (ln m) = F at *
    generalize insO (ln s) a (ln m) = O at *
    generalize insN (ln s) a (ln m) = N at *
    generalize insE (ln s) a m.size = C at *
    have HH := boxed h
    clear hb0 h
    go_enter Try.func12, Try.ntmps12
    go_wp2_with fail
    refine (hr _).mono ?_
    rintro e w1 ⟨rfl, hb1⟩
    have HD1 := boxed hb1
    obtain ⟨w2, hw2⟩ : ∃ w2, w1.alloc (.cells #[.int .i64 (F : Nat), .int .i64 (O : Nat), .int .i64 (N : Nat)] 30) = w2 := ⟨_, rfl⟩
    have hb2 : Below w1.heap.size w1 w2 := by rw [← hw2]; exact new_below _ _
    have HD2 := boxed (below_step HD1.out (Nat.le_refl _) hb2)
    obtain ⟨s0, s1, s2, s3⟩ := HOP.out _ HD2.out
    have HI2 : Box (w2.heap[w1.heap.size]? = some (.cells #[.int .i64 (F : Nat), .int .i64 (O : Nat), .int .i64 (N : Nat)] 30 (0, 0))) := boxed (by rw [← hw2]; exact heap_alloc_new w1 _)
    have hz2 : w2.heap.size = w1.heap.size + 1 := by rw [← hw2]; exact new_size _ _
    have hz1 := HD1.out.size
    clear hb1 hr hb2
    go_wp2_with fail
    refine (hp _ HD2.out).mono ?_
    rintro e w3 ⟨rfl, hg3, a3, c3, hx3, hd3⟩
    have HI3 : Box (w3.heap[w1.heap.size]? = _) := boxed ((hg3.block w1.heap.size (by omega) (by intro e; injection e with e; omega)).trans HI2.out)
    have HR3 : Box (w3.heap[w.heap.size + 1]? = _) := boxed ((hg3.block (w.heap.size + 1) (by omega) (by intro e; injection e with e; omega)).trans (HRS.out _ HD2.out))
    have hz3 := hg3.size
    obtain ⟨w4, hw4⟩ : ∃ w4, w3.alloc (.cells #[.int .i64 (F : Nat), .int .i64 (O : Nat), .int .i64 (N : Nat)] 30) = w4 := ⟨_, rfl⟩
    have hb4 : Below w3.heap.size w3 w4 := by rw [← hw4]; exact new_below _ _
    have HG4 : Box (w4.heap[w3.heap.size]? = some (.cells #[.int .i64 (F : Nat), .int .i64 (O : Nat), .int .i64 (N : Nat)] 30 (0, 0))) := boxed (by rw [← hw4]; exact heap_alloc_new w3 _)
    have HI4 := boxed ((hb4.block w1.heap.size (by omega)).trans HI3.out)
    have HR4 := boxed ((hb4.block (w.heap.size + 1) (by omega)).trans HR3.out)
    have HP := put3_all HR4.out (.int .i64 (F : Nat)) (.int .i64 (O : Nat)) (.int .i64 (N : Nat))
    have HF := boxed (stp_fin HH.out (HB0.out.trans (HD2.out.mono (by omega))) hg3 hx3 hd3 (grown_trans (grown_trans (below_grown hb4 _) HP.2.1) (below_grown (Below.refl _ _).drew _)) (by omega) (by omega))
    have HQ := boxed HP.1
    obtain ⟨⟨y0, y1, y2⟩, -⟩ := cells3 HG4.out
    obtain ⟨⟨i0, i1, i2⟩, -⟩ := cells3 HI4.out
    obtain ⟨⟨r0, r1, r2⟩, f0, f1, f2⟩ := cells3 HR4.out
    have hfa1 : w.heap.size + 1 ≠ w1.heap.size := by omega
    have hfa2 : w.heap.size + 1 ≠ w3.heap.size := by omega
    have hS0 : ∀ W : World, (∀ b i, b ≠ w.heap.size + 1 → W.cell? ⟨b, i, none⟩ = w4.cell? ⟨b, i, none⟩) → (W.cell? ⟨w1.heap.size, 0, none⟩ = some (.int .i64 (F : Nat)) ∧ W.cell? ⟨w1.heap.size, 1, none⟩ = some (.int .i64 (O : Nat)) ∧ W.cell? ⟨w1.heap.size, 2, none⟩ = some (.int .i64 (N : Nat))) ∧ W.cell? ⟨w3.heap.size, 0, none⟩ = some (.int .i64 (F : Nat)) ∧ W.cell? ⟨w3.heap.size, 1, none⟩ = some (.int .i64 (O : Nat)) ∧ W.cell? ⟨w3.heap.size, 2, none⟩ = some (.int .i64 (N : Nat)) := fun W hW => ⟨⟨by rw [hW _ _ hfa1.symm]; exact i0, by rw [hW _ _ hfa1.symm]; exact i1, by rw [hW _ _ hfa1.symm]; exact i2⟩, by rw [hW _ _ hfa2.symm]; exact y0, by rw [hW _ _ hfa2.symm]; exact y1, by rw [hW _ _ hfa2.symm]; exact y2⟩
    have hfar : ∀ b i, b ≠ w.heap.size + 1 → (((w4.setCell ⟨w.heap.size + 1, 0, none⟩ (.int .i64 (F : Nat))).setCell ⟨w.heap.size + 1, 1, none⟩ (.int .i64 (O : Nat))).setCell ⟨w.heap.size + 1, 2, none⟩ (.int .i64 (N : Nat))).cell? ⟨b, i, none⟩ = w4.cell? ⟨b, i, none⟩ := fun b i hb => by
      rw [World.cell?_setCell_far _ _ _ _ (Ne.symm hb), World.cell?_setCell_far _ _ _ _ (Ne.symm hb), World.cell?_setCell_far _ _ _ _ (Ne.symm hb)]
    have HS0 := boxed (hS0 w4.drew (fun _ _ _ => rfl))
    have HS1 := boxed (hS0 (((w4.setCell ⟨w.heap.size + 1, 0, none⟩ (.int .i64 (F : Nat))).setCell ⟨w.heap.size + 1, 1, none⟩ (.int .i64 (O : Nat))).setCell ⟨w.heap.size + 1, 2, none⟩ (.int .i64 (N : Nat))).drew hfar)
    clear hp hg3 hx3 hd3 hb4 HP HI2 HI3 HR3 HRS HOP hS0 hfar
    go_wp2_with fail
    go_region_held3 (fun W => (W.cell? ⟨w1.heap.size, 0, none⟩ = some (.int .i64 (F : Nat)) ∧ W.cell? ⟨w1.heap.size, 1, none⟩ = some (.int .i64 (O : Nat)) ∧ W.cell? ⟨w1.heap.size, 2, none⟩ = some (.int .i64 (N : Nat))) ∧ W.cell? ⟨w3.heap.size, 0, none⟩ = some (.int .i64 (F : Nat)) ∧ W.cell? ⟨w3.heap.size, 1, none⟩ = some (.int .i64 (O : Nat)) ∧ W.cell? ⟨w3.heap.size, 2, none⟩ = some (.int .i64 (N : Nat)))
      (first | with_reducible exact HS0.out | with_reducible exact HS1.out)
      (fail)
    go_wp2
    refine bodyPost_ret (v := .tuple #[.string r, itv F O N, .bool true]) (by simp [results, Try.results12, go_sem, HQ.out.1, HQ.out.2.1, HQ.out.2.2]) rfl ⟨rfl, HF.out⟩
end
end Go.Proofs.Ytholifolkimkdaa
