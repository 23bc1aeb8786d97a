/-
  What Each hands out, and what holds while the law ranges over it.
-/
import Derived.Test.YtdchpiihjjjpfaaLh
import Derived.Test.YtdchpiihjjjpfaaKc
namespace Go.Proofs.Ytdchpiihjjjpfaa
open Go.RowKit Go.Shelf
set_option linter.unusedSimpArgs false
set_option linter.unusedVariables false
attribute [local go_sem] Oper.semAt_some

theorem giv_get (R : List (Nat × Int)) : ∀ (a k : Nat), k < R.length → (giv a R)[k]? = some (mkX (a + Bg R k) (R.getD k (0, 0)).1 (Ys R k)) := by
  induction R with
  | nil => intro a k h; simp at h
  | cons p r ih =>
    intro a k h
    cases k with
    | zero => simp [giv, Bg, sm, Ys]
    | succ k =>
      simp only [giv, List.getElem?_cons_succ]
      rw [ih (a + p.1) k (by simpa using h), Bg_cons, Ys_cons, Nat.add_assoc]
      simp
theorem Bg_next (R : List (Nat × Int)) (k : Nat) (h : k < R.length) : Bg R (k + 1) = Bg R k + (R.getD k (0, 0)).1 := by
  unfold Bg
  rw [List.take_succ_eq_append_getElem h, sm_app]
  simp [sm, List.getD, h]
theorem gv_all_len (s : List Int) : (gv s 0 s.length).length = (enc s).length := by unfold gv; rw [sub_whole, giv_len]
theorem gv_get {s : List Int} (hs : Sok s) (hl : s.length ≤ 65536) (k : Nat) (hk : k < (enc s).length) : ∃ x : X, (gv s 0 s.length)[k]? = some x ∧ x.1 = (Bg (enc s) k, ((enc s).getD k (0, 0)).1, Ys (enc s) k) := by
  unfold gv
  rw [sub_whole]
  refine ⟨_, giv_get (enc s) 0 k hk, ?_⟩
  have h1 := Bg_le (enc s) (can_enc s) (k + 1)
  have h2 := Bg_step (enc s) k hk (can_enc s)
  have h3 := Bg_next (enc s) k hk
  rw [sm_enc] at h1
  rw [mkX_val ⟨by omega, ⟨by omega, by omega⟩, hs _ (Ys_in s k hk)⟩]
  simp
theorem pre_step {xs pre : List X} {x : X} (h : pre <+: xs) : pre ++ [x] <+: xs ↔ xs[pre.length]? = some x := by
  obtain ⟨r, rfl⟩ := h
  cases r with
  | nil =>
    simp
    intro h
    have := h.length_le
    simp at this
    omega
  | cons y r =>
    rw [List.prefix_append_right_inj]
    constructor
    · rintro ⟨t, h⟩
      injection h with h1 h2
      simp [h1]
    · intro h
      simp at h
      subst h
      exact ⟨r, rfl⟩
theorem each_good {s : List Int} (hs : Sok s) (hl : s.length ≤ 65536) {pre : List X} {x : X} (h : pre <+: gv s 0 s.length) (hk : pre.length < (enc s).length) : pre ++ [x] <+: gv s 0 s.length ↔ x.1 = (Bg (enc s) pre.length, ((enc s).getD pre.length (0, 0)).1, Ys (enc s) pre.length) := by
  obtain ⟨y, h1, h2⟩ := gv_get hs hl pre.length hk
  rw [pre_step h, h1, ← h2]
  constructor
  · intro e; injection e with e; rw [e]
  · intro e; rw [Subtype.ext e.symm]

set_option maxRecDepth 100000 in
theorem each_in {w : World} {lb : Nat} {ao : Option Addr} {cap : Nat} {s : List Int} {bare : Int} (n n₀ : Nat) (h : ListAt w lb ao cap s bare) (hp : PartsAt (· < n₀) w ao s) :
    CallsIn Fence.wide n Try.prog 25 #[.pointer (some ⟨lb, 0, none⟩)] w fun e w' => ∃ Bf Bp Bt, e = .returned (.func (.func 50) #[] #[.pointer (some ⟨Bf, 0, none⟩), .pointer (some ⟨Bp, 0, none⟩), .pointer (some ⟨Bt, 0, none⟩)]) ∧
      (w.heap.size ≤ Bf ∧ w.heap.size ≤ Bp ∧ w.heap.size ≤ Bt) ∧ Vw n₀ Bf Bp Bt ao cap s 0 s.length w' ∧ Below w.heap.size w w' := by
  refine callsIn_wide.2 ?_
  have c0 := h.c0
  have HLN := boxed (fun w' (hb : Below w.heap.size w w') => len_any (h.below hb))
  have HPT := boxed (fun w' (hb : Below w.heap.size w w') => hp.below hb)
  have HX : Box (∀ w', Below w.heap.size w w' → w'.cell? ⟨lb, 0, none⟩ = some (.slice ao (enc s).length cap)) := boxed (fun w' hb => hold hb c0)
  have HD0 : Box (Below w.heap.size w w.drew) := boxed (Below.refl _ _).drew
  clear h hp
  go_enter Try.func25, Try.ntmps25
  go_wp2_with fail
  go_region_held3 (fun w' => w'.cell? ⟨lb, 0, none⟩ = some (.slice ao (enc s).length cap))
    (first | with_reducible exact HX.out _ HD0.out | with_reducible exact HX.out _ HD1.out | with_reducible exact HX.out _ HD2.out)
    (first
      | (go_at_call 12; refine (HLN.out _ HD0.out).mono ?_; rintro e w1 ⟨rfl, hb1⟩; have HD1 := boxed (below_step HD0.out (Nat.le_refl _) hb1); clear hb1)
      | (go_at_call 40; refine (callsIn_wide.1 (between_in 5 ao (enc s).length cap _ _ _)).mono ?_; rintro e w2 ⟨rfl, hw2⟩; have HD2 : Box (Below w.heap.size w w2) := boxed (by rw [hw2]; exact ((HD1.out.alloc HD1.out.size _).alloc (by have := HD1.out.size; simp; omega) _).alloc (by have := HD1.out.size; simp; omega) _); have HW2 := boxed hw2; clear hw2))
  go_wp2
  go_ret
  have h3 := heap3 w1 (.cells #[.slice ao (enc s).length cap] 71) (.cells #[.int .i64 0] 3) (.cells #[.int .i64 (s.length : Nat)] 3)
  have hz := HD1.out.size
  exact ⟨_, _, _, rfl, ⟨by omega, by omega, by omega⟩, ⟨by rw [HW2.out]; exact h3.2.1, by rw [HW2.out]; exact h3.1, by rw [HW2.out]; exact h3.2.2, HPT.out _ HD2.out⟩, HD2.out⟩

/-- What holds ahead of a round; how it is left. -/
def Ev (w5 : World) (s : List Int) (kb : Nat) (pre : List X) (W : World) : Prop := (W.heap[kb]? = some (.cells #[.int .i64 (pre.length : Nat)] 3 (0, 0)) ∧ W.heap[kb + 1]? = some (.cells #[.int .i64 (Bg (enc s) pre.length : Nat)] 3 (0, 0)) ∧ pre <+: gv s 0 s.length) ∧ Below kb w5 W
def Ex (w5 : World) (s : List Int) (kb : Nat) (leave : Int) (c : Code) (pre : List X) (W : World) : Prop := (c = .ret ∧ ¬ pre <+: gv s 0 s.length) ∨ (c = .exit 0 ∧ (pre.length : Int) = leave ∧ Ev w5 s kb pre W)
theorem Ev.own (w5 : World) (s : List Int) (kb B : Nat) (hk : kb ≤ w5.heap.size) (hB : kb ≤ B) : OwnFrom B (Ev w5 s kb) := by
  rintro pre W W' row ⟨⟨h1, h2, h4⟩, h3⟩ hg hr
  exact ⟨⟨blk_turn h1 hg (fun r e => (hr r e).2), blk_turn h2 hg (fun r e => (hr r e).2), h4⟩, h3.grown hg (by have := (Array.getElem?_eq_some_iff.1 h1).1; omega) (fun r e => by have := (hr r e).1; omega)⟩
theorem Ex.own (w5 : World) (s : List Int) (kb : Nat) (leave : Int) (c : Code) (B : Nat) (hk : kb ≤ w5.heap.size) (hB : kb ≤ B) : OwnFrom B (Ex w5 s kb leave c) := by
  rintro pre W W' row h hg hr
  exact h.imp id (fun ⟨a, b, d⟩ => ⟨a, b, Ev.own w5 s kb B hk hB pre W W' row d hg hr⟩)
theorem Ev.next {w5 : World} {s : List Int} {kb : Nat} {pre : List X} {W W' : World} (h : Ev w5 s kb pre W) (hb : Below W.heap.size W W') : Ev w5 s kb pre W' := by
  obtain ⟨⟨h1, h2, h4⟩, h3⟩ := h
  have l1 := (Array.getElem?_eq_some_iff.1 h1).1
  have l2 := (Array.getElem?_eq_some_iff.1 h2).1
  exact ⟨⟨by rw [hb.block _ l1]; exact h1, by rw [hb.block _ l2]; exact h2, h4⟩, h3.trans (hb.mono (by omega))⟩
/-- A good round. -/
theorem Ev.step {w5 : World} {s : List Int} {kb : Nat} {pre : List X} {x : X} {W : World} (h : Ev w5 s kb pre W) (hk : pre.length < (enc s).length) (hx : pre ++ [x] <+: gv s 0 s.length) (he : x.1.2.1 = ((enc s).getD pre.length (0, 0)).1) :
    Ev w5 s kb (pre ++ [x]) ((W.setCell ⟨kb + 1, 0, none⟩ (.int .i64 ((Bg (enc s) pre.length : Int) + (x.1.2.1 : Int)))).setCell ⟨kb, 0, none⟩ (.int .i64 ((pre.length : Int) + 1))) := by
  obtain ⟨⟨h1, h2, h4⟩, h3⟩ := h
  have hB := Bg_next (enc s) pre.length hk
  rw [← he] at hB
  refine ⟨⟨?_, ?_, hx⟩, ?_⟩
  · rw [set_one (by rw [heap_setCell_other _ _ _ _ (by simp)]; exact h1)]; simp
  · rw [heap_setCell_other _ _ _ _ (by simp), set_one h2]; simp [hB]
  · exact (h3.setCell (p := ⟨kb + 1, 0, none⟩) (by show kb ≤ kb + 1; omega) _).setCell (p := ⟨kb, 0, none⟩) (Nat.le_refl _) _
theorem Vw.step {n₀ Bf Bp Bt kb : Nat} {ao : Option Addr} {cap : Nat} {s : List Int} {a b : Nat} {W : World} (h : Vw n₀ Bf Bp Bt ao cap s a b W) (h1 : kb + 1 < Bf) (h2 : kb + 1 < Bp) (h3 : kb + 1 < Bt) (h4 : n₀ ≤ kb) (u v : Value) :
    Vw n₀ Bf Bp Bt ao cap s a b ((W.setCell ⟨kb + 1, 0, none⟩ u).setCell ⟨kb, 0, none⟩ v) :=
  (h.kept (grown_set W (kb + 1) 0 u) (fun e => by injection e; omega) (fun e => by injection e; omega) (fun e => by injection e; omega) (fun r e => by injection e; omega)).kept (grown_set _ kb 0 v) (fun e => by injection e; omega) (fun e => by injection e; omega) (fun e => by injection e; omega) (fun r e => by injection e; omega)
end Go.Proofs.Ytdchpiihjjjpfaa
