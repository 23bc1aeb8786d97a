/-
  What the program's add does: a run is laid behind parts of the call's own.
-/
import Derived.Test.YtdchpiihjjjpfabLb
namespace Go.Proofs.Ytdchpiihjjjpfab
open Go.RowKit
set_option linter.unusedSimpArgs false
set_option linter.unusedVariables false

/-- The cells of parts. -/
def pcs : Nat → List (Nat × Int) → List Value
  | _, [] => []
  | a, p :: r => .int .i64 ((a + p.1 : Nat) : Int) :: .int .i64 p.2 :: pcs (a + p.1) r
theorem pcs_app (a : Nat) (R Q : List (Nat × Int)) : pcs a (R ++ Q) = pcs a R ++ pcs (a + sm R) Q := by
  induction R generalizing a with
  | nil => simp [pcs, sm]
  | cons p r ih => simp [pcs, sm, ih, Nat.add_assoc]
theorem pcs_len (a : Nat) (R : List (Nat × Int)) : (pcs a R).length = R.length * 2 := by
  induction R generalizing a with
  | nil => rfl
  | cons p r ih => simp [pcs, ih]; omega
theorem pcs_get (a : Nat) (R : List (Nat × Int)) (i : Nat) (h : i < R.length) : (pcs a R)[i * 2]? = some (.int .i64 ((a + Bg R (i + 1) : Nat) : Int)) ∧ (pcs a R)[i * 2 + 1]? = some (.int .i64 (Ys R i)) := by
  induction R generalizing a i with
  | nil => simp at h
  | cons p r ih =>
    cases i with
    | zero => simp [pcs, Bg, sm, Ys]
    | succ i =>
      have := ih (a + p.1) i (by simpa using h)
      rw [show (i + 1) * 2 = i * 2 + 1 + 1 from by omega, Bg_cons, Ys_cons]
      simp only [pcs, List.getElem?_cons_succ]
      rw [← Nat.add_assoc]
      exact this
theorem ownsRow_forms {w : World} {base size n : Nat} {e : TypeId} {v : Value} {xs : List Value} (h : w.ownsRow base e size v n xs) : (v = .slice none 0 0 ∧ n = 0) ∨ ∃ g cap, v = .slice (some ⟨g, 0, none⟩) n cap := by
  rcases h.2 with ⟨h1, h2⟩ | ⟨g, cap, cur, h1, _⟩
  · exact .inl ⟨h1, h2⟩
  · exact .inr ⟨g, cap, h1⟩
theorem ownsRow_form {w : World} {base size n : Nat} {e : TypeId} {v : Value} {xs : List Value} (h : w.ownsRow base e size v n xs) (hn : 0 < n) : ∃ g cap, v = .slice (some ⟨g, 0, none⟩) n cap := by
  rcases ownsRow_forms h with ⟨_, h2⟩ | h
  · omega
  · exact h
theorem owns_below {w w' : World} {B e size n : Nat} {v : Value} {xs : List Value} (h : w.ownsRow B e size v n xs) (hb : Below w.heap.size w w') : w'.ownsRow B e size v n xs :=
  h.kept (row := none) ⟨hb.os, hb.tape, hb.output, hb.size, fun k hk _ => hb.block k hk⟩ (by cases hv : v.ownBlock <;> simp)
theorem own_parts {w : World} {B : Nat} {ao : Option Addr} {cap : Nat} {s : List Int} (h : w.ownsRow B 72 2 (.slice ao (enc s).length cap) (enc s).length (pcs 0 (enc s))) (hl : s.length ≤ 8589934592) (hs : ∀ y ∈ s, I64 y) : PartsAt (fun b => B ≤ b) w ao s := by
  intro i hi
  have hle := enc_len s
  have hb := Bg_le (enc s) (can_enc s) (i + 1)
  rw [sm_enc] at hb
  obtain ⟨g, cap', e⟩ := ownsRow_form h (by omega)
  injection e with e1 e2 e3
  subst e1; subst e3
  have hB := h.lt g rfl
  obtain ⟨p1, p2⟩ := pcs_get 0 (enc s) i hi
  refine ⟨⟨⟨by show (_ : Int) ≤ ((Bg (enc s) (i + 1) : Nat) : Int); omega, by show ((Bg (enc s) (i + 1) : Nat) : Int) ≤ _; omega⟩, hs _ (Ys_in s i hi)⟩, g, 0, rfl, hB.1, ?_, ?_⟩
  · have := h.cellAt (i * 2) (by omega)
    rw [Nat.zero_add, this, p1]; simp
  · have := h.cellAt (i * 2 + 1) (by omega)
    rw [Nat.zero_add, this, p2]
theorem info_part : (Try.prog.info? 72).map (fun i => (i.zero, i.size, i.bytes)) = some (some (.agg #[.int .i64 0, .int .i64 0]), 2, 16) := by kernel_rfl

set_option maxRecDepth 100000 in
set_option maxHeartbeats 2000000 in
theorem add_empty (B : Nat) (ao : Option Addr) (cap : Nat) (xs : List Value) (L l E : Nat) (y : Int) (w : World) (hsz : ∀ w', Below w.heap.size w w' → Calls Try.prog 22 #[.slice ao 0 cap] w' fun e w'' => e = .returned (.int .i64 (L : Nat)) ∧ Below w'.heap.size w' w'')
    (hE : L + l = E) (c0 : l ≠ 0) (hl : L ≤ 8589869056) (hl0 : l ≤ 65536) (hy : I64 y) (hB : B ≤ w.heap.size) (hown : w.ownsRow B 72 2 (.slice ao 0 cap) 0 xs) :
    Calls Try.prog 24 #[.slice ao 0 cap, .agg #[.int .i64 (l : Nat), .int .i64 y]] w fun e w' => ∃ v', e = .returned v' ∧ w'.ownsRow B 72 2 v' 1 (xs ++ [.int .i64 (E : Nat), .int .i64 y]) ∧ w.grownBy w' (Value.slice ao 0 cap).ownBlock := by
  obtain ⟨i0, hi, hz0, hz1, hz2⟩ := info_parts info_part
  have z0 : (((l : Nat) : Int) == 0) = false := by rw [beq_eq_false_iff_ne]; omega
  obtain ⟨W0, hW0⟩ : ∃ W0, w.alloc (.cells #[.int .i64 (l : Nat), .int .i64 y] 25) = W0 := ⟨_, rfl⟩
  have hz : W0.heap.size = w.heap.size + 1 := by rw [← hW0]; simp
  have HW0 : Box (Below w.heap.size w W0) := boxed (by rw [← hW0]; exact (Below.refl _ _).alloc (Nat.le_refl _) _)
  have hr0 : W0.cell? ⟨w.heap.size, 0, none⟩ = some (.int .i64 (l : Nat)) := by rw [← hW0, cell_new _ _ _ _ _ rfl]; rfl
  have hr1 : W0.cell? ⟨w.heap.size, 1, none⟩ = some (.int .i64 y) := by rw [← hW0, cell_new _ _ _ _ _ rfl]; rfl
  have hrr := fun w' (hb : Below W0.heap.size W0 w') => (⟨hold hb hr0, hold hb hr1⟩ : w'.cell? ⟨w.heap.size, 0, none⟩ = some (.int .i64 (l : Nat)) ∧ w'.cell? ⟨w.heap.size, 1, none⟩ = some (.int .i64 y))
  have HG := boxed hsz
  have HO := boxed hown
  have HX := boxed hrr
  clear hsz hown hrr
  have hw : IntKind.i64.wrap ((L : Int) + (l : Int)) = (E : Nat) := by rw [IntKind.wrap_i64]; omega
  have HE := boxed hE
  clear hE
  go_enter Try.func24, Try.ntmps24
  go_wp2_with fail
  have HB0 : Box (Below W0.heap.size W0 W0.drew) := boxed ((Below.refl _ _).drew)
  have HC0 : Box (Below w.heap.size w W0.drew) := boxed (HW0.out.trans ((Below.refl _ _).drew))
  go_region_held3 (fun w' => w'.cell? ⟨w.heap.size, 0, none⟩ = some (.int .i64 (l : Nat)) ∧ w'.cell? ⟨w.heap.size, 1, none⟩ = some (.int .i64 y))
    (first | with_reducible exact HX.out _ HB0.out | with_reducible exact HX.out _ HB5.out)
    (first | (go_at_call 22; refine (HG.out _ HC0.out).mono ?_; rintro e w5 ⟨rfl, hb5⟩; have HB5 := boxed (HB0.out.trans (hb5.mono HB0.out.size)); clear hb5))
  have cr0 := (HX.out _ HB5.out).1
  have cr1 := (HX.out _ HB5.out).2
  have HC5 : Box (Below w.heap.size w w5) := boxed (HW0.out.trans (HB5.out.mono (by omega)))
  have hown5 := owns_below HO.out HC5.out
  have hz5 : w.heap.size < w5.heap.size := by have := HB5.out.size; omega
  clear hr0 hr1 hW0 HX HG HE HO
  have hun : undef = Value.tuple #[] := rfl
  go_wp2_with fail
  go_quiet (fail)
  have HC7 : Box (Below w.heap.size w (w5.drewN nq)) := boxed (HC5.out.trans (bel_drewN _ _ _))
  have hown7 : (w5.drewN nq).ownsRow _ _ _ _ _ _ := hown5
  have dr0 : (w5.drewN nq).cell? _ = _ := cr0
  have dr1 : (w5.drewN nq).cell? _ = _ := cr1
  have hz7 : w.heap.size < (w5.drewN nq).heap.size := hz5
  generalize w5.drewN nq = w7 at *
  go_wp2_with (at_builtin; refine wpList_append_own _ rfl _ _ 55 rfl B 72 i0 _ 2 16 Try.underlying55 hi hz0 hz1 hz2 rfl (by decide) _ _ _ rfl (hown7.alloc _) ⟨w7.heap.size, 0, none⟩ 1 1 [.int .i64 (E : Nat), .int .i64 y] rfl rfl ?c1 ?c2 ?c3 ?c4 ?c5 ?_)
  case c1 =>
    intro j u hj
    match j, hj with
    | 0, hj => simp at hj; subst hj; simp [Addr.add]
    | 1, hj => simp at hj; subst hj; simp [Addr.add]
  case c2 => intro u hu; simp at hu; rcases hu with rfl | rfl <;> rfl
  case c3 => unfold maxLen; omega
  case c4 => omega
  case c5 => simp; omega
  intro v' w6 hown6 hgrow6 _
  have HO6 := boxed hown6
  have HG6 := boxed hgrow6
  clear hown6 hgrow6 hown5 hown7
  go_wp2
  go_ret
  exact ⟨v', rfl, HO6.out, grown_trans (below_grown HC7.out _) (grown_trans (World.grownBy_alloc _ _ _) HG6.out)⟩

set_option maxRecDepth 100000 in
set_option maxHeartbeats 2000000 in
theorem add_apart (m : Nat) (z : Int) (B : Nat) (ao : Option Addr) (cap : Nat) (xs : List Value) (L l E : Nat) (y : Int) (w : World) (hsz : ∀ w', Below w.heap.size w w' → Calls Try.prog 22 #[.slice ao (m + 1) cap] w' fun e w'' => e = .returned (.int .i64 (L : Nat)) ∧ Below w'.heap.size w' w'')
    (hE : L + l = E) (c0 : l ≠ 0) (hl : L ≤ 8589869056) (hl0 : l ≤ 65536) (hy : I64 y) (hB : B ≤ w.heap.size) (hm : m ≤ 8589869056) (hown : w.ownsRow B 72 2 (.slice ao (m + 1) cap) (m + 1) xs) (hlast : xs[m * 2 + 1]? = some (.int .i64 z)) (hne : z ≠ y) :
    Calls Try.prog 24 #[.slice ao (m + 1) cap, .agg #[.int .i64 (l : Nat), .int .i64 y]] w fun e w' => ∃ v', e = .returned v' ∧ w'.ownsRow B 72 2 v' (m + 1 + 1) (xs ++ [.int .i64 (E : Nat), .int .i64 y]) ∧ w.grownBy w' (Value.slice ao (m + 1) cap).ownBlock := by
  obtain ⟨g, hg⟩ : ∃ g, ao = some ⟨g, 0, none⟩ := by
    obtain ⟨g, cap', e⟩ := ownsRow_form hown (by omega)
    injection e with e1 e2 e3
    exact ⟨g, e1⟩
  subst hg
  have tz : (z == y) = false := by simpa using hne
  obtain ⟨i0, hi, hz0, hz1, hz2⟩ := info_parts info_part
  have z0 : (((l : Nat) : Int) == 0) = false := by rw [beq_eq_false_iff_ne]; omega
  obtain ⟨W0, hW0⟩ : ∃ W0, w.alloc (.cells #[.int .i64 (l : Nat), .int .i64 y] 25) = W0 := ⟨_, rfl⟩
  have hz : W0.heap.size = w.heap.size + 1 := by rw [← hW0]; simp
  have HW0 : Box (Below w.heap.size w W0) := boxed (by rw [← hW0]; exact (Below.refl _ _).alloc (Nat.le_refl _) _)
  have hr0 : W0.cell? ⟨w.heap.size, 0, none⟩ = some (.int .i64 (l : Nat)) := by rw [← hW0, cell_new _ _ _ _ _ rfl]; rfl
  have hr1 : W0.cell? ⟨w.heap.size, 1, none⟩ = some (.int .i64 y) := by rw [← hW0, cell_new _ _ _ _ _ rfl]; rfl
  have hrr := fun w' (hb : Below W0.heap.size W0 w') => (⟨hold hb hr0, hold hb hr1⟩ : w'.cell? ⟨w.heap.size, 0, none⟩ = some (.int .i64 (l : Nat)) ∧ w'.cell? ⟨w.heap.size, 1, none⟩ = some (.int .i64 y))
  have HG := boxed hsz
  have HO := boxed hown
  have HX := boxed hrr
  clear hsz hown hrr
  have hw : IntKind.i64.wrap ((L : Int) + (l : Int)) = (E : Nat) := by rw [IntKind.wrap_i64]; omega
  have HE := boxed hE
  clear hE
  go_enter Try.func24, Try.ntmps24
  go_wp2_with fail
  have HB0 : Box (Below W0.heap.size W0 W0.drew) := boxed ((Below.refl _ _).drew)
  have HC0 : Box (Below w.heap.size w W0.drew) := boxed (HW0.out.trans ((Below.refl _ _).drew))
  go_region_held3 (fun w' => w'.cell? ⟨w.heap.size, 0, none⟩ = some (.int .i64 (l : Nat)) ∧ w'.cell? ⟨w.heap.size, 1, none⟩ = some (.int .i64 y))
    (first | with_reducible exact HX.out _ HB0.out | with_reducible exact HX.out _ HB5.out)
    (first | (go_at_call 22; refine (HG.out _ HC0.out).mono ?_; rintro e w5 ⟨rfl, hb5⟩; have HB5 := boxed (HB0.out.trans (hb5.mono HB0.out.size)); clear hb5))
  have cr0 := (HX.out _ HB5.out).1
  have cr1 := (HX.out _ HB5.out).2
  have HC5 : Box (Below w.heap.size w w5) := boxed (HW0.out.trans (HB5.out.mono (by omega)))
  have hown5 := owns_below HO.out HC5.out
  have hz5 : w.heap.size < w5.heap.size := by have := HB5.out.size; omega
  clear hr0 hr1 hW0 HX HG HE HO
  have hun : undef = Value.tuple #[] := rfl
  have hx1 := hown5.cellAt (m * 2 + 1) (by omega)
  rw [hlast] at hx1
  have hf0 := hown5.frozenAt (m * 2)
  obtain ⟨u0, hx0⟩ : ∃ u0, w5.cell? ⟨g, m * 2, none⟩ = some u0 := by rw [hown5.cellAt (m * 2) (by omega)]; have := hown5.1; rw [List.getElem?_eq_getElem (by omega)]; exact ⟨_, rfl⟩
  go_wp2_with fail
  go_quiet (fail)
  have HC7 : Box (Below w.heap.size w (w5.drewN nq)) := boxed (HC5.out.trans (bel_drewN _ _ _))
  have hown7 : (w5.drewN nq).ownsRow _ _ _ _ _ _ := hown5
  have dr0 : (w5.drewN nq).cell? _ = _ := cr0
  have dr1 : (w5.drewN nq).cell? _ = _ := cr1
  have hz7 : w.heap.size < (w5.drewN nq).heap.size := hz5
  generalize w5.drewN nq = w7 at *
  go_wp2_with (at_builtin; refine wpList_append_own _ rfl _ _ 55 rfl B 72 i0 _ 2 16 Try.underlying55 hi hz0 hz1 hz2 rfl (by decide) _ _ _ rfl (hown7.alloc _) ⟨w7.heap.size, 0, none⟩ 1 1 [.int .i64 (E : Nat), .int .i64 y] rfl rfl ?c1 ?c2 ?c3 ?c4 ?c5 ?_)
  case c1 =>
    intro j u hj
    match j, hj with
    | 0, hj => simp at hj; subst hj; simp [Addr.add]
    | 1, hj => simp at hj; subst hj; simp [Addr.add]
  case c2 => intro u hu; simp at hu; rcases hu with rfl | rfl <;> rfl
  case c3 => unfold maxLen; omega
  case c4 => omega
  case c5 => simp; omega
  intro v' w6 hown6 hgrow6 _
  have HO6 := boxed hown6
  have HG6 := boxed hgrow6
  clear hown6 hgrow6 hown5 hown7
  go_wp2
  go_ret
  exact ⟨v', rfl, HO6.out, grown_trans (below_grown HC7.out _) (grown_trans (World.grownBy_alloc _ _ _) HG6.out)⟩

set_option maxRecDepth 100000 in
set_option maxHeartbeats 2000000 in
theorem add_like (m : Nat) (B : Nat) (ao : Option Addr) (cap : Nat) (xs : List Value) (L l E : Nat) (y : Int) (w : World) (hsz : ∀ w', Below w.heap.size w w' → Calls Try.prog 22 #[.slice ao (m + 1) cap] w' fun e w'' => e = .returned (.int .i64 (L : Nat)) ∧ Below w'.heap.size w' w'')
    (hE : L + l = E) (c0 : l ≠ 0) (hl : L ≤ 8589869056) (hl0 : l ≤ 65536) (hy : I64 y) (hB : B ≤ w.heap.size) (hm : m ≤ 8589869056) (hown : w.ownsRow B 72 2 (.slice ao (m + 1) cap) (m + 1) xs) (hlast : xs[m * 2 + 1]? = some (.int .i64 y)) :
    Calls Try.prog 24 #[.slice ao (m + 1) cap, .agg #[.int .i64 (l : Nat), .int .i64 y]] w fun e w' => ∃ v', e = .returned v' ∧ w'.ownsRow B 72 2 v' (m + 1) (xs.set (m * 2) (.int .i64 (E : Nat))) ∧ w.grownBy w' (Value.slice ao (m + 1) cap).ownBlock := by
  obtain ⟨g, hg⟩ : ∃ g, ao = some ⟨g, 0, none⟩ := by
    obtain ⟨g, cap', e⟩ := ownsRow_form hown (by omega)
    injection e with e1 e2 e3
    exact ⟨g, e1⟩
  subst hg
  obtain ⟨i0, hi, hz0, hz1, hz2⟩ := info_parts info_part
  have z0 : (((l : Nat) : Int) == 0) = false := by rw [beq_eq_false_iff_ne]; omega
  obtain ⟨W0, hW0⟩ : ∃ W0, w.alloc (.cells #[.int .i64 (l : Nat), .int .i64 y] 25) = W0 := ⟨_, rfl⟩
  have hz : W0.heap.size = w.heap.size + 1 := by rw [← hW0]; simp
  have HW0 : Box (Below w.heap.size w W0) := boxed (by rw [← hW0]; exact (Below.refl _ _).alloc (Nat.le_refl _) _)
  have hr0 : W0.cell? ⟨w.heap.size, 0, none⟩ = some (.int .i64 (l : Nat)) := by rw [← hW0, cell_new _ _ _ _ _ rfl]; rfl
  have hr1 : W0.cell? ⟨w.heap.size, 1, none⟩ = some (.int .i64 y) := by rw [← hW0, cell_new _ _ _ _ _ rfl]; rfl
  have hrr := fun w' (hb : Below W0.heap.size W0 w') => (⟨hold hb hr0, hold hb hr1⟩ : w'.cell? ⟨w.heap.size, 0, none⟩ = some (.int .i64 (l : Nat)) ∧ w'.cell? ⟨w.heap.size, 1, none⟩ = some (.int .i64 y))
  have HG := boxed hsz
  have HO := boxed hown
  have HX := boxed hrr
  clear hsz hown hrr
  have hw : IntKind.i64.wrap ((L : Int) + (l : Int)) = (E : Nat) := by rw [IntKind.wrap_i64]; omega
  have HE := boxed hE
  clear hE
  go_enter Try.func24, Try.ntmps24
  go_wp2_with fail
  have HB0 : Box (Below W0.heap.size W0 W0.drew) := boxed ((Below.refl _ _).drew)
  have HC0 : Box (Below w.heap.size w W0.drew) := boxed (HW0.out.trans ((Below.refl _ _).drew))
  go_region_held3 (fun w' => w'.cell? ⟨w.heap.size, 0, none⟩ = some (.int .i64 (l : Nat)) ∧ w'.cell? ⟨w.heap.size, 1, none⟩ = some (.int .i64 y))
    (first | with_reducible exact HX.out _ HB0.out | with_reducible exact HX.out _ HB5.out)
    (first | (go_at_call 22; refine (HG.out _ HC0.out).mono ?_; rintro e w5 ⟨rfl, hb5⟩; have HB5 := boxed (HB0.out.trans (hb5.mono HB0.out.size)); clear hb5))
  have cr0 := (HX.out _ HB5.out).1
  have cr1 := (HX.out _ HB5.out).2
  have HC5 : Box (Below w.heap.size w w5) := boxed (HW0.out.trans (HB5.out.mono (by omega)))
  have hown5 := owns_below HO.out HC5.out
  have hz5 : w.heap.size < w5.heap.size := by have := HB5.out.size; omega
  clear hr0 hr1 hW0 HX HG HE HO
  have hun : undef = Value.tuple #[] := rfl
  have hx1 := hown5.cellAt (m * 2 + 1) (by omega)
  rw [hlast] at hx1
  have hf0 := hown5.frozenAt (m * 2)
  obtain ⟨u0, hx0⟩ : ∃ u0, w5.cell? ⟨g, m * 2, none⟩ = some u0 := by rw [hown5.cellAt (m * 2) (by omega)]; have := hown5.1; rw [List.getElem?_eq_getElem (by omega)]; exact ⟨_, rfl⟩
  have HO5 := boxed hown5
  clear hown5
  go_wp2_with fail
  go_quiet (fail)
  have HC7 : Box (Below w.heap.size w (w5.drewN nq)) := boxed (HC5.out.trans (bel_drewN _ _ _))
  have HO7 : Box ((w5.drewN nq).ownsRow _ _ _ _ _ _) := boxed HO5.out
  have dr0 : (w5.drewN nq).cell? _ = _ := cr0
  have dr1 : (w5.drewN nq).cell? _ = _ := cr1
  have dx0 : (w5.drewN nq).cell? ⟨g, m * 2, none⟩ = some u0 := hx0
  have df0 : (w5.drewN nq).frozen? ⟨g, m * 2, none⟩ = false := hf0
  generalize w5.drewN nq = w7 at *
  go_wp2
  go_ret
  have := HO7.out.stored (m * 2) (.int .i64 (E : Nat))
  exact ⟨_, rfl, this.1, grown_trans (below_grown HC7.out _) this.2⟩

theorem snoc_of {α : Type} (l : List α) (h : 0 < l.length) : ∃ a x, l = a ++ [x] := by
  exact ⟨l.dropLast, l.getLast (by intro e; rw [e] at h; simp at h), (List.dropLast_concat_getLast _).symm⟩
theorem add_any (B : Nat) (v : Value) (s : List Int) (l : Nat) (y : Int) (w : World) (hown : w.ownsRow B 72 2 v (enc s).length (pcs 0 (enc s))) (hs : ∀ z ∈ s, I64 z) (hl : s.length ≤ 8589869056) (hl0 : l ≤ 65536) (hy : I64 y) (hB : B ≤ w.heap.size) :
    Calls Try.prog 24 #[v, .agg #[.int .i64 (l : Nat), .int .i64 y]] w fun e w' => ∃ v', e = .returned v' ∧ w'.ownsRow B 72 2 v' (enc (s ++ List.replicate l y)).length (pcs 0 (enc (s ++ List.replicate l y))) ∧ w.grownBy w' v.ownBlock := by
  by_cases c0 : l = 0
  · subst c0
    simp only [List.replicate_zero, List.append_nil]
    have HO := boxed hown
    clear hown hs
    go_enter Try.func24, Try.ntmps24
    go_wp2
    go_ret
    exact ⟨v, rfl, HO.out.alloc _, World.grownBy_alloc _ _ _⟩
  · have hle := enc_len s
    obtain ⟨ao, cap, rfl⟩ : ∃ ao cap, v = .slice ao (enc s).length cap := by
      rcases ownsRow_forms hown with ⟨h1, h2⟩ | ⟨g, cap, h⟩
      · exact ⟨none, 0, by rw [h2]; exact h1⟩
      · exact ⟨_, _, h⟩
    have hsz := fun w' (hb : Below w.heap.size w w') => size_any _ ao cap s w' ((own_parts hown (by omega) hs).below hb) (by omega)
    by_cases c1 : (enc s).length = 0
    · have e1 : s = [] := List.length_eq_zero_iff.1 ((enc_nil s).1 c1)
      subst e1
      have e2 := enc_add_nil l y (by omega)
      rw [List.nil_append, e2]
      have := add_empty B ao cap (pcs 0 (enc [])) 0 l l y w (by simpa [enc] using hsz) (by omega) c0 (by omega) hl0 hy hB hown
      simpa [pcs, enc] using this
    · obtain ⟨R0, ⟨l0, z⟩, hR⟩ := snoc_of (enc s) (by omega)
      have hn : (enc s).length = R0.length + 1 := by rw [hR]; simp
      have hpc : pcs 0 (enc s) = pcs 0 R0 ++ [.int .i64 ((sm R0 + l0 : Nat) : Int), .int .i64 z] := by rw [hR, pcs_app]; simp [pcs]
      have hlen : s.length = sm R0 + l0 := by rw [← sm_enc, hR, sm_app]; simp [sm]
      have hpl := pcs_len 0 R0
      rw [hn] at hown hsz ⊢
      rw [hpc] at hown
      have hlast : (pcs 0 R0 ++ [Value.int .i64 ((sm R0 + l0 : Nat) : Int), Value.int .i64 z])[R0.length * 2 + 1]? = some (.int .i64 z) := by
        rw [List.getElem?_append_right (by omega), hpl]; simp
      by_cases c2 : z = y
      · subst c2
        have e := enc_add_like s R0 l0 l z hR
        have h := add_like R0.length B ao cap _ s.length l (s.length + l) z w hsz rfl c0 (by omega) hl0 hy hB (by omega) hown hlast
        refine h.mono ?_
        rintro e' w' ⟨v', rfl, h1, h2⟩
        refine ⟨v', rfl, ?_, h2⟩
        rw [e]
        have : pcs 0 (R0 ++ [(l0 + l, z)]) = (pcs 0 R0 ++ [Value.int .i64 ((sm R0 + l0 : Nat) : Int), Value.int .i64 z]).set (R0.length * 2) (.int .i64 ((s.length + l : Nat) : Int)) := by
          rw [List.set_append_right _ _ (by omega), hpl, pcs_app]
          simp [pcs, hlen, Int.add_assoc]
        rw [this]
        simpa using h1
      · have e := enc_add_new s l y (by omega) (by rw [hR]; simp; exact c2)
        have h := add_apart R0.length z B ao cap _ s.length l (s.length + l) y w hsz rfl c0 (by omega) hl0 hy hB (by omega) hown hlast c2
        refine h.mono ?_
        rintro e' w' ⟨v', rfl, h1, h2⟩
        refine ⟨v', rfl, ?_, h2⟩
        rw [e]
        have : pcs 0 (enc s ++ [(l, y)]) = pcs 0 R0 ++ [.int .i64 ((sm R0 + l0 : Nat) : Int), .int .i64 z] ++ [.int .i64 ((s.length + l : Nat) : Int), .int .i64 y] := by
          rw [pcs_app, hpc, sm_enc]; simp [pcs]
        rw [this]
        simpa [hn] using h1
end Go.Proofs.Ytdchpiihjjjpfab
