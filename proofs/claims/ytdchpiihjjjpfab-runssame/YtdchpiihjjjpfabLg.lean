/-
  What the program's told and all answer: the runs of a part; has it one style throughout?
-/
import Derived.Test.YtdchpiihjjjpfabLf
import Derived.Test.YtdchpiihjjjpfabLe
namespace Go.Proofs.Ytdchpiihjjjpfab
open Go.RowKit Go.Shelf
set_option linter.unusedSimpArgs false
set_option linter.unusedVariables false
attribute [local go_sem] Oper.semAt_some

theorem info_run : (Try.prog.info? 25).map (fun i => (i.zero, i.size, i.bytes)) = some (some (.agg #[.int .i64 0, .int .i64 0]), 2, 16) := by kernel_rfl
/-- The cells of runs. -/
def rcs : List (Nat × Int) → List Value
  | [] => []
  | p :: r => .int .i64 (p.1 : Int) :: .int .i64 p.2 :: rcs r
theorem rcs_app (R Q : List (Nat × Int)) : rcs (R ++ Q) = rcs R ++ rcs Q := by
  induction R with
  | nil => rfl
  | cons p r ih => simp [rcs, ih]
theorem rcs_len (R : List (Nat × Int)) : (rcs R).length = R.length * 2 := by
  induction R with
  | nil => rfl
  | cons p r ih => simp [rcs, ih]; omega
theorem rcs_get (R : List (Nat × Int)) (i : Nat) (h : i < R.length) : (rcs R)[i * 2]? = some (.int .i64 (((R.getD i (0, 0)).1 : Nat) : Int)) ∧ (rcs R)[i * 2 + 1]? = some (.int .i64 (Ys R i)) := by
  induction R generalizing i with
  | nil => simp at h
  | cons p r ih =>
    cases i with
    | zero => simp [rcs, Ys]
    | succ i =>
      have := ih i (by simpa using h)
      rw [show (i + 1) * 2 = i * 2 + 1 + 1 from by omega, Ys_cons]
      simp only [rcs, List.getElem?_cons_succ, List.getD_cons_succ]
      exact this
theorem blk_turn {W W' : World} {row : Option Nat} {b : Nat} {cs : Array Value} {t : TypeId} {fz : Nat × Nat} (h : W.heap[b]? = some (.cells cs t fz)) (hg : W.grownBy W' row) (hr : ∀ r, row = some r → ∃ o : Obj, W.heap[r]? = some o ∧ o.isCells = false) : W'.heap[b]? = some (.cells cs t fz) := by
  rw [hg.block b (Array.getElem?_eq_some_iff.1 h).1 (fun e => ?_)]
  · exact h
  · obtain ⟨o, ho, hc⟩ := hr b e.symm
    rw [h] at ho; cases ho; cases hc
theorem owns_turn {W W' : World} {row : Option Nat} {B e size n : Nat} {v : Value} {xs : List Value} (h : W.ownsRow B e size v n xs) (hg : W.grownBy W' row) (hr : ∀ r, row = some r → ∃ o : Obj, W.heap[r]? = some o ∧ o.isCells = false) : W'.ownsRow B e size v n xs := by
  refine h.kept hg ?_
  rcases h.2 with ⟨rfl, _⟩ | ⟨g, cap, cur, rfl, _, hg', _⟩
  · exact .inl rfl
  · refine .inr fun e' => ?_
    obtain ⟨o, ho, hc⟩ := hr g (by simpa [Value.ownBlock] using e'.symm)
    rw [hg'] at ho; cases ho; cases hc
theorem owns_blk {W : World} {B e size n : Nat} {v : Value} {xs : List Value} (h : W.ownsRow B e size v n xs) : ∀ r, v.ownBlock = some r → B ≤ r ∧ ∃ cs, W.heap[r]? = some (.cells cs e (0, 0)) := by
  intro r hr
  rcases h.2 with ⟨rfl, _⟩ | ⟨g, cap, cur, rfl, hb, hg', _⟩
  · cases hr
  · cases hr; exact ⟨hb, _, hg'⟩
theorem keeps_grown {W W' : World} {row : Option Nat} (hg : W.grownBy W' row) (hr : ∀ r, row = some r → ∃ cs t fz, W.heap[r]? = some (.cells cs t fz)) : KeepsOthers W W' := by
  refine ⟨hg.size, fun k o hk hc => ?_⟩
  rw [hg.block k (Array.getElem?_eq_some_iff.1 hk).1 (fun e => ?_)]
  · exact hk
  · obtain ⟨cs, t, fz, h⟩ := hr k e.symm
    rw [h] at hk; cases hk; cases hc
theorem grown_set (w : World) (b i : Nat) (u : Value) : w.grownBy (w.setCell ⟨b, i, none⟩ u) (some b) :=
  ⟨rfl, rfl, rfl, by simp, fun k _ hk => heap_setCell_other w ⟨b, i, none⟩ k u (fun e => hk (by simp [e]))⟩
theorem set_one {w : World} {b : Nat} {v u : Value} {t : TypeId} (h : w.heap[b]? = some (.cells #[v] t (0, 0))) : (w.setCell ⟨b, 0, none⟩ u).heap[b]? = some (.cells #[u] t (0, 0)) := by
  simp [World.setCell, Array.getElem?_modify, h]
theorem frz_one {w : World} {b : Nat} {v : Value} {t : TypeId} (h : w.heap[b]? = some (.cells #[v] t (0, 0))) : w.frozen? ⟨b, 0, none⟩ = false := by
  unfold World.frozen?; rw [h]; simp

/-- A row that grew, and the box that it is put into. -/
theorem row_step0 {W w6 : World} {bx B n m : Nat} {te tb : TypeId} {v v' : Value} {xs ys : List Value} (hv : W.heap[bx]? = some (.cells #[v] tb (0, 0))) (hown : W.ownsRow B te 2 v n xs) (hg : W.grownBy w6 v.ownBlock) (hown6 : w6.ownsRow B te 2 v' m ys) (htt : tb ≠ te) :
    w6.heap[bx]? = some (.cells #[v] tb (0, 0)) ∧ (w6.setCell ⟨bx, 0, none⟩ v').heap[bx]? = some (.cells #[v'] tb (0, 0)) ∧ (w6.setCell ⟨bx, 0, none⟩ v').ownsRow B te 2 v' m ys ∧ KeepsOthers W (w6.setCell ⟨bx, 0, none⟩ v') ∧
      ∀ k w, Below k w W → k ≤ bx → k ≤ B → Below k w (w6.setCell ⟨bx, 0, none⟩ v') := by
  have hrow : ∀ r, v.ownBlock = some r → B ≤ r ∧ ∃ cs, W.heap[r]? = some (.cells cs te (0, 0)) := owns_blk hown
  have h6 : w6.heap[bx]? = some (.cells #[v] tb (0, 0)) := by
    rw [hg.block bx (Array.getElem?_eq_some_iff.1 hv).1 (fun e => ?_)]
    · exact hv
    · obtain ⟨-, cs', h3⟩ := hrow bx e.symm
      rw [hv] at h3
      injection h3 with h3
      injection h3 with _ h4 _
      exact htt h4
  have ho6 : v'.ownBlock ≠ some bx := by
    intro e
    obtain ⟨-, cs, h3⟩ := owns_blk hown6 bx e
    rw [h6] at h3
    injection h3 with h3
    injection h3 with _ h4 _
    exact htt h4
  refine ⟨h6, set_one h6, hown6.kept (grown_set w6 bx 0 v') (.inr ho6), (keeps_grown hg (fun r e => by obtain ⟨-, cs, h⟩ := hrow r e; exact ⟨_, _, _, h⟩)).trans (KeepsOthers.setCell _ _ _), ?_⟩
  intro k w hb h1 h2
  exact (hb.grown hg (by have := hb.size; have := (Array.getElem?_eq_some_iff.1 hv).1; omega) (fun r e => by have := (hrow r e).1; omega)).setCell (p := ⟨bx, 0, none⟩) h1 _
theorem row_stepV {n₀ Bf Bp Bt : Nat} {ao : Option Addr} {cap : Nat} {s : List Int} {a b : Nat} {W w6 : World} {bx B n : Nat} {te : TypeId} {v : Value} {xs : List Value} (v' : Value) (hown : W.ownsRow B te 2 v n xs) (hg : W.grownBy w6 v.ownBlock)
    (ht3 : te ≠ 3) (htp : te ≠ 55) (hV : Vw n₀ Bf Bp Bt ao cap s a b W) (hx1 : bx ≠ Bf) (hx2 : bx ≠ Bp) (hx3 : bx ≠ Bt) (hnB : n₀ ≤ B) (hnx : n₀ ≤ bx) : Vw n₀ Bf Bp Bt ao cap s a b (w6.setCell ⟨bx, 0, none⟩ v') := by
  have hrow : ∀ r, v.ownBlock = some r → B ≤ r ∧ ∃ cs, W.heap[r]? = some (.cells cs te (0, 0)) := owns_blk hown
  have hnr : ∀ {k : Nat} {cs : Array Value} {t : TypeId} {fz : Nat × Nat}, W.heap[k]? = some (.cells cs t fz) → t ≠ te → v.ownBlock ≠ some k := by
    intro k cs t fz h1 h2 e
    obtain ⟨-, cs', h3⟩ := hrow k e
    rw [h1] at h3
    injection h3 with h3
    injection h3 with _ h4 _
    exact h2 h4
  have hV6 : Vw n₀ Bf Bp Bt ao cap s a b w6 := hV.kept hg (hnr hV.f (Ne.symm ht3)) (hnr hV.p (Ne.symm htp)) (hnr hV.t (Ne.symm ht3)) (fun r e => by have := (hrow r e).1; omega)
  exact hV6.kept (grown_set w6 bx 0 v') (fun e => by injection e with e; exact hx1 e) (fun e => by injection e with e; exact hx2 e) (fun e => by injection e with e; exact hx3 e) (fun r e => by injection e with e; omega)

/-- What holds ahead of a round of told. -/
def Tv (w : World) (pre : List X) (W : World) : Prop := (∃ v, W.heap[w.heap.size]? = some (.cells #[v] 22 (0, 0)) ∧ W.ownsRow w.heap.size 25 2 v pre.length (rcs (rof pre))) ∧ Below w.heap.size w W
theorem Tv.own (w : World) (B : Nat) (hB : w.heap.size ≤ B) : OwnFrom B (Tv w) := by
  rintro pre W W' row ⟨⟨v, h1, h2⟩, h3⟩ hg hr
  exact ⟨⟨v, blk_turn h1 hg (fun r e => (hr r e).2), owns_turn h2 hg (fun r e => (hr r e).2)⟩, h3.grown hg h3.size (fun r e => by have := (hr r e).1; omega)⟩

set_option maxRecDepth 100000 in
set_option maxHeartbeats 4000000 in
theorem told_in {w : World} {lb : Nat} {ao : Option Addr} {cap : Nat} {s : List Int} {bare : Int} (h : ListAt w lb ao cap s bare) (a b : Nat) (hab : a ≤ b) (hb : b ≤ s.length) :
    CallsIn Fence.wide 5 Try.prog 21 #[.pointer (some ⟨lb, 0, none⟩), .int .i64 (a : Nat), .int .i64 (b : Nat)] w fun e w' => ∃ v, e = .returned v ∧ w'.ownsRow w.heap.size 25 2 v (enc (sub s a b)).length (rcs (enc (sub s a b))) ∧ Below w.heap.size w w' := by
  have hro : (Fence.wide).round = none := rfl
  have hd : (Fence.wide).depth = none := rfl
  have c0 := h.c0
  have hlt := h.lt
  have hne : lb ≠ w.heap.size := by omega
  have hl := h.len
  have HS := boxed h.ok
  have HP := boxed h.pts
  clear h
  refine callsIn_of_wp_marks Try.func21 rfl trivial ?_ hro
  simp only [Try.ntmps21, List.size_toArray, List.length_cons, List.length_nil, Nat.reduceAdd, Nat.reduceSub, Array.replicate_succ, Array.replicate_zero, List.push_toArray, List.append_toArray, List.nil_append, List.cons_append]
  gi_wp2_with fail
  refine ⟨trivial, (between_in _ ao (enc s).length cap _ _ _).mono ?_⟩
  rintro e w' ⟨rfl, hw'⟩
  gi_wp2_with fail
  generalize hw3 : ((((w.alloc (Obj.cells #[Value.slice none 0 0] 22)).alloc (Obj.cells #[Value.slice ao (enc s).length cap] 55)).alloc (Obj.cells #[Value.int IntKind.i64 (a : Nat)] 3)).alloc (Obj.cells #[Value.int IntKind.i64 (b : Nat)] 3)) = w3
  have hz3 : w3.heap.size = w.heap.size + 4 := by rw [← hw3]; simp
  have HB3 : Box (Below w.heap.size w w3) := boxed (by rw [← hw3]; exact (((((Below.refl _ w).alloc (Nat.le_refl _) _).alloc (by simp) _).alloc (by simp; omega) _).alloc (by simp; omega) _))
  have HV3 : Vw w.heap.size (w.heap.size + 1 + 1) (w.heap.size + 1) (w.heap.size + 1 + 2) ao cap s a b w3 := by
    have h3 := heap3 (w.alloc (Obj.cells #[Value.slice none 0 0] 22)) (Obj.cells #[Value.slice ao (enc s).length cap] 55) (Obj.cells #[Value.int IntKind.i64 (a : Nat)] 3) (Obj.cells #[Value.int IntKind.i64 (b : Nat)] 3)
    rw [World.size_alloc, hw3] at h3
    exact ⟨h3.2.1, h3.1, h3.2.2, HP.out.keep (fun k i u hs hc => ⟨World.block_lt_of_cell? w ⟨k, i, none⟩ hc, hold HB3.out hc⟩)⟩
  have HT3 : Tv w [] w3 := by
    refine ⟨⟨.slice none 0 0, ?_, World.ownsRow_nil _ _ _ _⟩, HB3.out⟩
    rw [← hw3, Below.heap_alloc _ _ _ (by simp; omega), Below.heap_alloc _ _ _ (by simp; omega), Below.heap_alloc _ _ _ (by simp)]
    exact heap_alloc_new w _
  clear hw3
  refine wp_btw w.heap.size (w.heap.size + 1 + 1) (w.heap.size + 1) (w.heap.size + 1 + 2) ao cap s a b hab hb hl HS.out rfl HV3 (by omega) rfl
    (Tv w) (fun _ _ _ => False) (Tv.own w _ (by omega)) (fun _ _ _ _ _ h _ _ => h) HT3
    (fun x a' W => ∃ rb, a' = { tmps := #[.pointer (some ⟨lb, 0, none⟩), .int .i64 (a : Nat), .int .i64 (b : Nat), undef, undef, undef, .slice none 0 0, .pointer (some ⟨w.heap.size, 0, none⟩), undef, .pointer (some ⟨rb, 0, none⟩), .pointer (some ⟨lb, 0, none⟩), .pointer (some ⟨lb, 0, none⟩), .pointer (some ⟨lb, 0, none⟩), .slice ao (enc s).length cap, .int .i64 (a : Nat), .int .i64 (b : Nat),
      .func (.func 42) #[] #[.pointer (some ⟨w.heap.size + 1 + 1, 0, none⟩), .pointer (some ⟨w.heap.size + 1, 0, none⟩), .pointer (some ⟨w.heap.size + 1 + 2, 0, none⟩)], .int .i64 (x.1.1 : Nat), .agg #[.int .i64 (x.1.2.1 : Nat), .int .i64 x.1.2.2], undef, undef, undef, undef, undef], defers := [] } ∧ W.heap[rb]? = some (.cells #[.int .i64 (x.1.2.1 : Nat), .int .i64 x.1.2.2] 25 (0, 0)))
    (fun x a' _ W W' row h hg hr => by obtain ⟨rb, e, hb⟩ := h; exact ⟨rb, e, blk_turn hb hg (fun r e => (hr r e).2)⟩) ?assign ?body ?done ?stop
  case assign =>
    intro l pre x W K hI hV hK
    have HI := boxed hI
    have HVx := boxed hV
    have HKx := boxed hK
    clear hI hV hK
    gi_wp2
    obtain ⟨⟨v, hv, hown⟩, hB⟩ := HI.out
    have hBA := (Below.refl W.heap.size W).alloc (Nat.le_refl _) (Obj.cells #[Value.int IntKind.i64 (x.1.2.1 : Nat), Value.int IntKind.i64 x.1.2.2] 25)
    exact HKx.out _ _ ((KeepsOthers.alloc _ _).from _) (HVx.out.below hBA) ⟨⟨v, by rw [hBA.block _ (Array.getElem?_eq_some_iff.1 hv).1]; exact hv, hown.alloc _⟩, hB.alloc hB.size _⟩ ⟨W.heap.size, rfl, heap_alloc_new _ _⟩
  case body =>
    rintro l pre x a' W hl' ⟨⟨v, hv, hown⟩, hB⟩ hV ⟨rb, rfl, hrb⟩ hlt'
    obtain ⟨i0, hi, hz0, hz1, hz2⟩ := info_parts info_run
    have cv := cell_one hv
    have fv := frz_one hv
    have cr0 : W.cell? ⟨rb, 0, none⟩ = some (.int .i64 (x.1.2.1 : Nat)) := by simp [World.cell?, hrb]
    have cr1 : W.cell? ⟨rb, 1, none⟩ = some (.int .i64 x.1.2.2) := by simp [World.cell?, hrb]
    have hgl := gv_len s a b hb
    have HVx := boxed hV
    have HH := boxed hv
    have HBx := boxed hB
    have HOx := boxed hown
    have hszW := hB.size
    have hvlt := (Array.getElem?_eq_some_iff.1 hv).1
    clear hV hv hB hrb
    gi_wp2_with (gi_at_builtin; refine wpListIn_append_own _ rfl _ _ 22 rfl w.heap.size 25 i0 _ 2 16 Try.underlying22 hi hz0 hz1 hz2 rfl (by decide) _ _ _ rfl (hown.alloc _) ⟨W.heap.size, 0, none⟩ 1 1 [.int .i64 (x.1.2.1 : Nat), .int .i64 x.1.2.2] rfl rfl ?c1 ?c2 ?c3 ?c4 ?c5 ?_)
    case c1 =>
      intro j u hj
      match j, hj with
      | 0, hj => simp at hj; subst hj; simp [Addr.add]
      | 1, hj => simp at hj; subst hj; simp [Addr.add]
    case c2 => intro u hu; simp at hu; rcases hu with rfl | rfl <;> rfl
    case c3 => unfold maxLen; omega
    case c4 => omega
    case c5 => simp; omega
    intro v' w6 hown6 hgrow6 _
    obtain ⟨g', cap', hv'⟩ := ownsRow_form hown6 (by omega)
    have hg1 : W.grownBy w6 v.ownBlock := grown_trans (World.grownBy_alloc _ _ _) hgrow6
    obtain ⟨r1, r2, r3, r4, r6⟩ := row_step0 HH.out HOx.out hg1 hown6 (by decide)
    have r5 := row_stepV (bx := w.heap.size) v' HOx.out hg1 (by decide) (by decide) HVx.out (by omega) (by omega) (by omega) (Nat.le_refl _) (Nat.le_refl _)
    have c6 := cell_one r1
    have f6 := frz_one r1
    have HF : Box (rcs (rof pre) ++ [.int .i64 (x.1.2.1 : Nat), .int .i64 x.1.2.2] = rcs (rof (pre ++ [x])) ∧ pre.length + 1 = (pre ++ [x]).length) := boxed ⟨by rw [rof_snoc, rcs_app]; simp [rcs], by simp⟩
    rw [HF.out.1, HF.out.2] at r3
    have HR : Box (KeepsFrom w3.heap.size W (w6.setCell ⟨w.heap.size, 0, none⟩ v') ∧ Vw w.heap.size (w.heap.size + 1 + 1) (w.heap.size + 1) (w.heap.size + 1 + 2) ao cap s a b (w6.setCell ⟨w.heap.size, 0, none⟩ v') ∧ Tv w (pre ++ [x]) (w6.setCell ⟨w.heap.size, 0, none⟩ v')) := boxed ⟨r4.from _, r5, ⟨v', r2, r3⟩, r6 _ _ HBx.out (Nat.le_refl _) (Nat.le_refl _)⟩
    clear r1 r2 r3 r4 r5 r6 hown6 hgrow6 hg1 hown HH HOx
    subst hv'
    gi_wp2
    exact HR.out
  case done =>
    rintro D W hD ⟨⟨v, hv, hown⟩, hB⟩ hV hK
    have cv := cell_one hv
    have fv := frz_one hv
    have HR := boxed (gv_rof HS.out a b hab hb hl)
    rw [← rof_len, HR.out] at hown
    have HOx := boxed hown
    have HBx := boxed hB
    clear hown hB hV
    gi_wp2
    refine ⟨by simp, .inl ⟨_, _, rfl, run_takeDeferred hK, ?_⟩⟩
    exact ⟨_, results_tmp rfl _ _ _, v, rfl, ownsRow_putObj HOx.out _ hK rfl, HBx.out.trans (belowK_b (w := w) (Nat.le_refl _) W D _ _ (by omega) hK rfl rfl)⟩
  case stop =>
    rintro D c pre W _ _ h _
    exact h.elim

theorem told_any {w : World} {lb : Nat} {ao : Option Addr} {cap : Nat} {s : List Int} {bare : Int} (h : ListAt w lb ao cap s bare) (a b : Nat) (hab : a ≤ b) (hb : b ≤ s.length) :
    Calls Try.prog 21 #[.pointer (some ⟨lb, 0, none⟩), .int .i64 (a : Nat), .int .i64 (b : Nat)] w fun e w' => ∃ v, e = .returned v ∧ w'.ownsRow w.heap.size 25 2 v (enc (sub s a b)).length (rcs (enc (sub s a b))) ∧ Below w.heap.size w w' :=
  callsIn_wide.1 (told_in h a b hab hb)
end Go.Proofs.Ytdchpiihjjjpfab
