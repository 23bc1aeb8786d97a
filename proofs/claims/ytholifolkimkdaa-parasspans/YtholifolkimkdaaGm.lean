/-
  What the program's Delete answers, whatever it is asked.
-/
import Derived.Test.YtholifolkimkdaaGl
namespace Go.Proofs.Ytholifolkimkdaa
open Go.RowKit
set_option linter.unusedSimpArgs false
set_option linter.unusedVariables false

/-- May this part be deleted? What a deletion leaves, and tells. -/
def delE (l : List Bool) (a b : Int) : Nat := if outb l.length a b = true then 30 else 0
def delL (l : List Bool) (a b : Int) : List Bool := if outb l.length a b = true then l else l.take a.toNat ++ l.drop b.toNat
def delF (l : List Bool) (a b : Int) : Nat := if outb l.length a b = true ∨ a = b then 0 else fnd l a.toNat
def delO (l : List Bool) (a b : Int) : Nat := if outb l.length a b = true ∨ a = b then 0 else dlo l a.toNat b.toNat
def delN (l : List Bool) (a b : Int) : Nat := if outb l.length a b = true ∨ a = b then 0 else (hd0 (dll l a.toNat b.toNat)).length
theorem held3 {W : World} {rb : Nat} {v0 v1 v2 : Value} (h : W.cell? ⟨rb, 0, none⟩ = some v0 ∧ W.cell? ⟨rb, 1, none⟩ = some v1 ∧ W.cell? ⟨rb, 2, none⟩ = some v2) (o : Obj) : (W.alloc o).cell? ⟨rb, 0, none⟩ = some v0 ∧ (W.alloc o).cell? ⟨rb, 1, none⟩ = some v1 ∧ (W.alloc o).cell? ⟨rb, 2, none⟩ = some v2 :=
  ⟨hold (new_below _ _) h.1, hold (new_below _ _) h.2.1, hold (new_below _ _) h.2.2⟩
section
variable {w : World} {xb : Nat} {ao : Option Addr} {cap : Nat} {l : List Bool}

set_option maxRecDepth 100000 in
set_option maxHeartbeats 2000000 in
theorem delete_none (h : TxAt w xb ao cap l) (a b : Int) (hno : outb l.length a b = true ∨ a = b) :
    Calls Try.prog 21 #[.pointer (some ⟨xb, 0, none⟩), .int .i64 a, .int .i64 b] w fun e w' => EdP w xb ao cap l l 0 0 0 (delE l a b) e w' := by
  obtain ⟨w0, hw0⟩ : ∃ w0, w.alloc (.cells #[.int .i64 0, .int .i64 0, .int .i64 0] 30) = w0 := ⟨_, rfl⟩
  have hb0 : Below w.heap.size w w0 := by rw [← hw0]; exact new_below _ _
  have hzs0 : w0.heap.size = w.heap.size + 1 := by rw [← hw0]; exact new_size _ _
  have HN : Box (∀ W, Below w0.heap.size w0 W → W.heap[w.heap.size]? = some (.cells #[.int .i64 0, .int .i64 0, .int .i64 0] 30 (0, 0))) := boxed (fun W hb => by rw [hb.block w.heap.size (by omega), ← hw0]; exact heap_alloc_new w _)
  have HB0 := boxed hb0
  have hsum := sp_sum l
  have HH := boxed h
  have HF : Box (∀ W, Below w0.heap.size w0 W → EdP w xb ao cap l l 0 0 0 (delE l a b) (.returned (.tuple #[itv 0 0 0, .int .i64 (delE l a b : Nat)])) ((((W.setCell ⟨w.heap.size, 0, none⟩ (.int .i64 0)).setCell ⟨w.heap.size, 1, none⟩ (.int .i64 0)).setCell ⟨w.heap.size, 2, none⟩ (.int .i64 0)).alloc (.cells #[.int .i64 0, .int .i64 0, .int .i64 0] 30))) := boxed (fun W hb => by
    have hp := put3_all (HN.out W hb) (.int .i64 0) (.int .i64 0) (.int .i64 0)
    have h1 : Below w.heap.size w W := HB0.out.trans (hb.mono (by omega))
    exact EdP.none HH.out (below_step (h1.trans (grown_below hp.2.1 (Nat.le_refl _) h1.size)) (Nat.le_refl _) (new_below _ _)))
  have HQ : Box (∀ W, Below w0.heap.size w0 W → _) := boxed (fun W hb => (put3_all (HN.out W hb) (.int .i64 0) (.int .i64 0) (.int .i64 0)).1)
  by_cases c1 : outb l.length a b = true
  · have hov := over_out (h.below hb0) a b (by rw [hsum]; exact c1)
    have he : delE l a b = 30 := by unfold delE; rw [if_pos c1]
    rw [he] at HF
    rw [he]
    clear h hb0 he hno c1
    go_enter Try.func21, Try.ntmps21
    go_wp2_with fail
    refine hov.mono ?_
    rintro e w1 ⟨rfl, hb1⟩
    obtain ⟨⟨d0, d1, d2⟩, g0, g1, g2⟩ := cells3 (HN.out _ hb1)
    have hlt1 : w.heap.size < w1.heap.size := by have := hb1.size; omega
    have hne1 : w.heap.size ≠ w1.heap.size := by omega
    have HD1 := boxed hb1
    have HQ2 := boxed (held3 (HQ.out _ hb1) (.cells #[.int .i64 0, .int .i64 0, .int .i64 0] 30))
    clear hov hb1
    go_wp2
    all_goals refine bodyPost_ret (v := .tuple #[itv 0 0 0, .int .i64 30]) (by simp [results, Try.results21, go_sem, HQ2.out.1, HQ2.out.2.1, HQ2.out.2.2]) rfl ?_
    all_goals exact HF.out _ HD1.out
  · obtain rfl : a = b := hno.resolve_left c1
    have c1' : outb l.length a a = false := by simpa using c1
    have hov := over_none (h.below hb0) a (by rw [hsum]; exact c1')
    have he : delE l a a = 0 := by unfold delE; rw [if_neg c1]
    rw [he] at HF
    rw [he]
    clear h hb0 he hno c1 c1'
    go_enter Try.func21, Try.ntmps21
    go_wp2_with fail
    refine hov.mono ?_
    rintro e w1 ⟨rfl, hb1⟩
    obtain ⟨⟨d0, d1, d2⟩, g0, g1, g2⟩ := cells3 (HN.out _ hb1)
    have hlt1 : w.heap.size < w1.heap.size := by have := hb1.size; omega
    have hne1 : w.heap.size ≠ w1.heap.size := by omega
    have HD1 := boxed hb1
    have HQ2 := boxed (held3 (HQ.out _ hb1) (.cells #[.int .i64 0, .int .i64 0, .int .i64 0] 30))
    clear hov hb1
    go_wp2
    all_goals refine bodyPost_ret (v := .tuple #[itv 0 0 0, .int .i64 0]) (by simp [results, Try.results21, go_sem, HQ2.out.1, HQ2.out.2.1, HQ2.out.2.2]) rfl ?_
    all_goals exact HF.out _ HD1.out

theorem delete_any (h : TxAt w xb ao cap l) (a b : Int) :
    Calls Try.prog 21 #[.pointer (some ⟨xb, 0, none⟩), .int .i64 a, .int .i64 b] w fun e w' => EdP w xb ao cap l (delL l a b) (delF l a b) (delO l a b) (delN l a b) (delE l a b) e w' := by
  by_cases hno : outb l.length a b = true ∨ a = b
  · have := delete_none h a b hno
    unfold delF delO delN
    rw [if_pos hno, if_pos hno, if_pos hno]
    have e : delL l a b = l := by
      unfold delL
      by_cases c : outb l.length a b = true
      · rw [if_pos c]
      · rw [if_neg c]
        obtain rfl : a = b := hno.resolve_left c
        exact List.take_append_drop _ _
    rw [e]; exact this
  · have c1 : ¬ outb l.length a b = true := fun h => hno (.inl h)
    have c2 : a ≠ b := fun h => hno (.inr h)
    obtain ⟨a1, a2, a3⟩ := (outb_iff _ _ _).1 (by simpa using c1)
    obtain ⟨k, rfl⟩ : ∃ k : Nat, a = k := ⟨a.toNat, by omega⟩
    obtain ⟨m, rfl⟩ : ∃ m : Nat, b = m := ⟨b.toNat, by omega⟩
    have := delete_ok h k m (by omega) (by omega)
    unfold delL delF delO delN delE
    rw [if_neg hno, if_neg hno, if_neg hno, if_neg c1, if_neg c1]
    exact this
end
end Go.Proofs.Ytholifolkimkdaa
