/-
  The law ParasSpans, walked: a range over the paragraphs that may be left.
-/
import Derived.Test.YtholifolkimkdaaGy
import Derived.Sort.QuietIn
import Derived.RangeFuncKeeps
import Derived.RangeFuncOwn
namespace Go.Proofs.Ytholifolkimkdaa
open Go.RowKit Go.Shelf
set_option linter.unusedSimpArgs false
set_option linter.unusedVariables false

attribute [local go_sem] Oper.semAt_some
theorem blk_turn {W W' : World} {row : Option Nat} {b : Nat} {cs : Array Value} {t : TypeId} {fz : Nat × Nat} (h : W.heap[b]? = some (.cells cs t fz)) (hg : W.grownBy W' row) (hr : ∀ r, row = some r → ∃ o : Obj, W.heap[r]? = some o ∧ o.isCells = false) : W'.heap[b]? = some (.cells cs t fz) := by
  rw [hg.block b (Array.getElem?_eq_some_iff.1 h).1 (fun e => ?_)]
  · exact h
  · obtain ⟨o, ho, hc⟩ := hr b e.symm
    rw [h] at ho; cases ho; cases hc
theorem set_one {w : World} {b : Nat} {v u : Value} {t : TypeId} (h : w.heap[b]? = some (.cells #[v] t (0, 0))) : (w.setCell ⟨b, 0, none⟩ u).heap[b]? = some (.cells #[u] t (0, 0)) := by
  simp [World.setCell, Array.getElem?_modify, h]
theorem frz_one {w : World} {b : Nat} {v : Value} {t : TypeId} (h : w.heap[b]? = some (.cells #[v] t (0, 0))) : w.frozen? ⟨b, 0, none⟩ = false := by
  unfold World.frozen?; rw [h]; simp
theorem pre_step {xs pre : List X} {x : X} (h : pre <+: xs) : pre ++ [x] <+: xs ↔ xs[pre.length]? = some x := by
  obtain ⟨r, rfl⟩ := h
  cases r with
  | nil =>
    simp
    intro h
    have := h.length_le
    simp at this
    omega
  | cons y r =>
    rw [List.prefix_append_right_inj]
    constructor
    · rintro ⟨t, h⟩
      injection h with h1 h2
      simp [h1]
    · intro h
      simp at h
      subst h
      exact ⟨r, rfl⟩
theorem span_good {P : List Nat} (hl : P.sum ≤ 65536) {pre : List X} {x : X} (h : pre <+: gv P) (hk : pre.length < P.length) : pre ++ [x] <+: gv P ↔ x.1 = (Bg P pre.length, Bg P (pre.length + 1)) := by
  have h1 := Bg_le P pre.length
  have h2 := Bg_le P (pre.length + 1)
  have hv := mkX_val (a := Bg P pre.length) (b := Bg P (pre.length + 1)) ⟨by omega, by omega⟩
  rw [pre_step h, gv_at P _ hk, ← hv]
  constructor
  · intro e; injection e with e; rw [e]
  · intro e; rw [Subtype.ext e.symm]
/-- What holds ahead of a round; how it is left. -/
def Ev (w5 : World) (P : List Nat) (kb : Nat) (pre : List X) (W : World) : Prop := (W.heap[kb]? = some (.cells #[.int .i64 (pre.length : Nat)] 3 (0, 0)) ∧ pre <+: gv P) ∧ Below kb w5 W
def Ex (w5 : World) (P : List Nat) (kb : Nat) (leave : Int) (c : Code) (pre : List X) (W : World) : Prop := (c = .ret ∧ ¬ pre <+: gv P) ∨ (c = .exit 0 ∧ (pre.length : Int) = leave ∧ Ev w5 P kb pre W)
theorem Ev.own (w5 : World) (P : List Nat) (kb B : Nat) (hk : kb ≤ w5.heap.size) (hB : kb ≤ B) : OwnFrom B (Ev w5 P kb) := by
  rintro pre W W' row ⟨⟨h1, h4⟩, h3⟩ hg hr
  exact ⟨⟨blk_turn h1 hg (fun r e => (hr r e).2), h4⟩, h3.grown hg (by have := (Array.getElem?_eq_some_iff.1 h1).1; omega) (fun r e => by have := (hr r e).1; omega)⟩
theorem Ex.own (w5 : World) (P : List Nat) (kb : Nat) (leave : Int) (c : Code) (B : Nat) (hk : kb ≤ w5.heap.size) (hB : kb ≤ B) : OwnFrom B (Ex w5 P kb leave c) := by
  rintro pre W W' row h hg hr
  exact h.imp id (fun ⟨a, b, d⟩ => ⟨a, b, Ev.own w5 P kb B hk hB pre W W' row d hg hr⟩)
theorem Ev.next {w5 : World} {P : List Nat} {kb : Nat} {pre : List X} {W W' : World} (h : Ev w5 P kb pre W) (hb : Below W.heap.size W W') : Ev w5 P kb pre W' := by
  obtain ⟨⟨h1, h4⟩, h3⟩ := h
  have l1 := (Array.getElem?_eq_some_iff.1 h1).1
  exact ⟨⟨by rw [hb.block _ l1]; exact h1, h4⟩, h3.trans (hb.mono (by omega))⟩
/-- A good round. -/
theorem Ev.step {w5 : World} {P : List Nat} {kb : Nat} {pre : List X} {x : X} {W : World} (h : Ev w5 P kb pre W) (hx : pre ++ [x] <+: gv P) :
    Ev w5 P kb (pre ++ [x]) (W.setCell ⟨kb, 0, none⟩ (.int .i64 ((pre.length : Int) + 1))) := by
  obtain ⟨⟨h1, h4⟩, h3⟩ := h
  refine ⟨⟨?_, hx⟩, h3.setCell (p := ⟨kb, 0, none⟩) (Nat.le_refl _) _⟩
  rw [set_one h1]; simp
theorem Vw.step {n₀ Be kb : Nat} {ao : Option Addr} {cap : Nat} {P : List Nat} {W : World} (h : Vw n₀ Be ao cap P W) (h1 : kb < Be) (h4 : n₀ ≤ kb) (v : Value) : Vw n₀ Be ao cap P (W.setCell ⟨kb, 0, none⟩ v) :=
  h.kept (grown_set W kb 0 v) (fun e => by injection e; omega) (fun r e => by injection e; omega)

set_option maxRecDepth 100000 in
set_option maxHeartbeats 8000000 in
theorem spans_law (a0 : ByteArray) (a1 : Int) (b1 : I64 a1) (w : World) : Calls Try.prog 6 #[.string a0, .int .i64 a1] w fun e w' => e = .returned (.bool true) ∧ Below w.heap.size w w' := by
  refine (callsIn_wide (n := 5)).1 ?_
  have hro : (Fence.wide).round = none := rfl
  have hd : (Fence.wide).depth = none := rfl
  refine callsIn_of_wp_marks Try.func6 rfl trivial ?_ hro
  simp only [Try.ntmps6, List.size_toArray, List.length_cons, List.length_nil, Nat.reduceAdd, Nat.reduceSub, Array.replicate_succ, Array.replicate_zero, List.push_toArray, List.append_toArray, List.nil_append, List.cons_append]
  obtain ⟨W1, hW1⟩ : ∃ W1, (w.alloc (.cells #[.int .i64 a1] 3)).alloc (.cells #[.bool false] 4) = W1 := ⟨_, rfl⟩
  have hz1 : W1.heap.size = w.heap.size + 2 := by rw [← hW1]; simp
  have HW1 : Box (Below w.heap.size w W1) := boxed (by rw [← hW1]; exact ((Below.refl _ w).alloc (Nat.le_refl _) _).alloc (by simp) _)
  have HL1 : Box (W1.heap[w.heap.size]? = some (.cells #[.int .i64 a1] 3 (0, 0)) ∧ W1.heap[w.heap.size + 1]? = some (.cells #[.bool false] 4 (0, 0))) := boxed (by
    constructor
    · rw [← hW1, Below.heap_alloc _ _ _ (by simp)]; exact heap_alloc_new w _
    · have := heap_alloc_new (w.alloc (.cells #[.int .i64 a1] 3)) (.cells #[.bool false] 4)
      rw [World.size_alloc] at this
      rw [← hW1]; exact this)
  by_cases hbig : 3000 < a0.size
  · have t1 : decide ((3000 : Int) < (a0.size : Int)) = true := decide_eq_true (by omega)
    have t1' : decide (3000 < a0.size) = true := decide_eq_true hbig
    gi_wp2_with fail
    refine ⟨trivial, (callsIn_wide.2 (awake_any _)).mono ?_⟩
    rintro e w1 ⟨rfl, hb1⟩
    have HB1 : Box (Below W1.heap.size W1 w1) := boxed hb1
    have HR1 : Box (w1.heap[w.heap.size + 1]? = some (.cells #[.bool false] 4 (0, 0))) := boxed (by rw [hb1.block _ (by omega)]; exact HL1.out.2)
    clear hb1
    have cS := cell_one HR1.out
    have fS := frz_one HR1.out
    gi_wp2
    have hc5 := World.cell?_setCell_same' w1 ⟨w.heap.size + 1, 0, none⟩ (.bool true) (by rw [cS]; rfl)
    refine ⟨.bool true, ?_, rfl, (below_step HW1.out (by omega) HB1.out).setCell (p := ⟨w.heap.size + 1, 0, none⟩) (by show w.heap.size ≤ w.heap.size + 1; omega) _⟩
    simp [results, Try.f6, go_sem, hc5]
  · have t1 : decide ((3000 : Int) < (a0.size : Int)) = false := decide_eq_false (by omega)
    have t1' : decide (3000 < a0.size) = false := decide_eq_false hbig
    have hll := ln_len a0
    have hspl := sp_len (ln a0)
    have hsum := sp_sum (ln a0)
    rw [hll] at hspl hsum
    have HST := boxed (fun W => starts_any a0 W (by omega))
    have hLn := sts_len (ln a0)
    have hLg := fun k (hk : k ≤ (sp (ln a0)).length) => sts_get (ln a0) k hk
    gi_wp2_with fail
    refine ⟨trivial, (callsIn_wide.2 (awake_any _)).mono ?_⟩
    rintro e w1 ⟨rfl, hb1⟩
    have HB1 : Box (Below W1.heap.size W1 w1) := boxed hb1
    clear hb1
    gi_wp2_with fail
    refine ⟨trivial, (callsIn_wide.2 (new_any a0 _ (by omega))).mono ?_⟩
    rintro e w2 ⟨xb, ao, cap, rfl, -, hx, -, hb2⟩
    have HB2 := boxed (below_step HB1.out (Nat.le_refl _) hb2)
    have HX2 := boxed hx
    clear hb2 hx
    rw [hLn] at HST
    gi_wp2_with fail
    refine ⟨trivial, (callsIn_wide.2 (HST.out _)).mono ?_⟩
    rintro e w4 ⟨v4, rfl, ho4, hb4⟩
    obtain ⟨g4, c4, rfl, -⟩ := own_form ho4 (by omega)
    have HO4 := boxed (own_nat (by rw [hLn]; exact ho4))
    have HX4 := boxed (HX2.out.below hb4)
    have HB4 := boxed (below_step HB2.out (Nat.le_refl _) hb4)
    clear ho4 hb4 HST HX2 HB1 HB2
    generalize sts (ln a0) = SS at *
    generalize op (ln a0) = OP at *
    generalize sp (ln a0) = P at *
    gi_wp2_with fail
    have hxl := HX4.out.lt
    have hlen := HX4.out.many
    have hsm := HX4.out.len
    obtain ⟨w5, hw5⟩ : ∃ w5, (w4.alloc (.cells #[.slice (some ⟨g4, 0, none⟩) (P.length + 1) c4] 34)).alloc (.cells #[.int .i64 0] 3) = w5 := ⟨_, rfl⟩
    have hb5 : Below w4.heap.size w4 w5 := by rw [← hw5]; exact below_two _ _ _
    have hz5 : w5.heap.size = w4.heap.size + 2 := by rw [← hw5]; simp
    have h5 : w5.heap[w4.heap.size]? = some (.cells #[.slice (some ⟨g4, 0, none⟩) (P.length + 1) c4] 34 (0, 0)) ∧ w5.heap[w4.heap.size + 1]? = some (.cells #[.int .i64 0] 3 (0, 0)) := by
      constructor
      · rw [← hw5, Below.heap_alloc _ _ _ (by simp)]; exact heap_alloc_new w4 _
      · have := heap_alloc_new (w4.alloc (.cells #[.slice (some ⟨g4, 0, none⟩) (P.length + 1) c4] 34)) (.cells #[.int .i64 0] 3)
        rw [World.size_alloc] at this
        rw [← hw5]; exact this
    have HH5 := boxed h5
    have HX5 := boxed (HX4.out.below hb5)
    have HB5 := boxed hb5
    have HP5 : Box (NAt (· < w4.heap.size) w5 ao (ens 0 P)) := boxed (HX4.out.pts.keep (fun k i u hs hc => ⟨World.block_lt_of_cell? w4 ⟨k, i, none⟩ hc, hold hb5 hc⟩))
    have HW5 := boxed hw5
    clear hb5 h5 hw5
    rw [HW5.out]
    refine ⟨trivial, (spans_in _ HX5.out).mono ?_⟩
    rintro e w6 ⟨rfl, hw6⟩
    have hb6 : Below w5.heap.size w5 w6 := by rw [hw6]; exact new_below _ _
    have hz6 : w6.heap.size = w5.heap.size + 1 := by rw [hw6]; exact new_size _ _
    have HV6 : Box (Vw w4.heap.size (w4.heap.size + 2) ao cap P w6) := boxed ⟨by rw [← hz5, hw6]; exact heap_alloc_new w5 _, HP5.out.below hb6⟩
    have HB6 := boxed hb6
    replace hw6 := boxed hw6
    clear hb6
    gi_wp2_with fail
    have hB6z := HB6.out.size
    have hk4 : w.heap.size + 2 ≤ w4.heap.size := by have := HB4.out.size; omega
    have HE0 : Box (Ev w5 P (w4.heap.size + 1) [] w6) := boxed ⟨⟨by rw [HB6.out.block _ (by omega)]; exact HH5.out.2, List.nil_prefix⟩, HB6.out.mono (by omega)⟩
    have HCL : Box (∀ W', Below (w4.heap.size + 1) w5 W' → W'.heap[w.heap.size]? = some (.cells #[.int .i64 a1] 3 (0, 0)) ∧ W'.heap[w.heap.size + 1]? = some (.cells #[.bool false] 4 (0, 0)) ∧ W'.heap[w4.heap.size]? = some (.cells #[.slice (some ⟨g4, 0, none⟩) (P.length + 1) c4] 34 (0, 0)) ∧ Below w.heap.size w W') := boxed (fun W' hb => by
      have hb4 : Below w4.heap.size w4 W' := HB5.out.trans (hb.mono (by omega))
      have hb1 : Below W1.heap.size W1 W' := below_step HB4.out (Nat.le_refl _) hb4
      exact ⟨by rw [hb1.block _ (by omega)]; exact HL1.out.1, by rw [hb1.block _ (by omega)]; exact HL1.out.2, by rw [hb.block _ (by omega)]; exact HH5.out.1, below_step HW1.out (by omega) hb1⟩)
    have HRW : Box (∀ W', Below (w4.heap.size + 1) w5 W' → ∀ k, k ≤ P.length → W'.cell? ⟨g4, k, none⟩ = some (.int .i64 (Bg P k : Nat))) := boxed (fun W' hb k hk => by
      have hb4 : Below w4.heap.size w4 W' := HB5.out.trans (hb.mono (by omega))
      have := (HO4.out.below hb4).get k (by omega)
      rw [hLg k hk] at this
      exact this)
    have hgl := gv_len P
    clear HH5 HX5 HP5 HW5 HB4 HB5 HO4 HL1 HX4 hLg hLn
    refine wp_spans w4.heap.size (w4.heap.size + 2) ao cap P hsm hlen rfl HV6.out (by omega) rfl
      (Ev w5 P (w4.heap.size + 1)) (Ex w5 P (w4.heap.size + 1) a1) (Ev.own _ _ _ _ (by omega) (by omega)) (fun c => Ex.own _ _ _ _ c _ (by omega) (by omega)) HE0.out
      (fun x a' W => a' = { tmps := #[.string a0, .int .i64 a1, undef, .pointer (some ⟨w.heap.size, 0, none⟩), .pointer (some ⟨w.heap.size + 1, 0, none⟩), .pointer (some ⟨xb, 0, none⟩), .pointer (some ⟨w4.heap.size, 0, none⟩), .pointer (some ⟨w4.heap.size + 1, 0, none⟩), .int .i64 (x.1.1 : Nat), .int .i64 (x.1.2 : Nat), .bool true, .bool false, .string a0, .int .i64 (a0.size : Nat), .bool false, .string a0, .pointer (some ⟨xb, 0, none⟩), .pointer (some ⟨xb, 0, none⟩), .bool false, .string a0, .slice (some ⟨g4, 0, none⟩) (P.length + 1) c4, .pointer (some ⟨xb, 0, none⟩), .func (.func 34) #[] #[.pointer (some ⟨w4.heap.size + 2, 0, none⟩)], .int .i64 (x.1.1 : Nat), .int .i64 (x.1.2 : Nat), undef, undef, undef, undef, undef, undef, undef, undef, undef, undef, undef, undef, undef, undef, undef, undef, undef, undef, undef, undef, undef, undef, undef, undef, undef, undef, undef, undef, undef, undef, undef, undef, undef, undef, undef, undef, undef], defers := [] })
      (fun x a' _ W W' row h hg hr => h) ?assign ?body ?done ?stop
    case assign =>
      intro l pre x W K hI hV hK
      have HI := boxed hI
      have HVx := boxed hV
      have HKx := boxed hK
      clear hI hV hK
      gi_wp2
      exact HKx.out _ _ ((KeepsOthers.refl _).from _) HVx.out HI.out rfl
    case body =>
      rintro l pre x a' W hl' hEv hV rfl hlt'
      rw [hgl] at hlt'
      obtain ⟨e1, e2, e3, -⟩ := HCL.out _ hEv.2
      have cL := cell_one e1
      have cS := cell_one e2
      have fS := frz_one e2
      have cW := cell_one e3
      have cK := cell_one hEv.1.1
      have fK := frz_one hEv.1.1
      have p0 := HRW.out _ hEv.2 pre.length (by omega)
      have p1 := HRW.out _ hEv.2 (pre.length + 1) (by omega)
      have hx := x.2
      have hBl := Bg_le P pre.length
      have hBl2 := Bg_le P (pre.length + 1)
      have HG := boxed (span_good (x := x) hsm hEv.1.2 hlt')
      have HEv := boxed hEv
      have HVx := boxed hV
      have tl : decide ((P.length : Int) + 1 ≤ (pre.length : Int) + 1) = false := decide_eq_false (by omega)
      have tl' : decide (P.length ≤ pre.length) = false := decide_eq_false (by omega)
      clear hV hEv e1 e2 e3
      by_cases c1 : x.1.1 = Bg P pre.length
      · by_cases c2 : x.1.2 = Bg P (pre.length + 1)
        · have ce : x.1.1 = Bg P pre.length ∧ x.1.2 = Bg P (pre.length + 1) := ⟨c1, c2⟩
          clear c1 c2
          have HGo : Box (pre ++ [x] <+: gv P) := boxed (HG.out.2 (by rw [← ce.1, ← ce.2]))
          have HSt := boxed (HEv.out.step HGo.out)
          have HVs := boxed (fun v => HVx.out.step (kb := w4.heap.size + 1) (by omega) (by omega) v)
          have te1 : (((x.1.1 : Nat) : Int) == ((Bg P pre.length : Nat) : Int)) = true := by rw [ce.1]; simp
          have te2 : (((x.1.2 : Nat) : Int) == ((Bg P (pre.length + 1) : Nat) : Int)) = true := by rw [ce.2]; simp
          have te1' : (((x.1.1 : Nat) : Int) != ((Bg P pre.length : Nat) : Int)) = false := by rw [ce.1]; simp
          have te2' : (((x.1.2 : Nat) : Int) != ((Bg P (pre.length + 1) : Nat) : Int)) = false := by rw [ce.2]; simp
          clear HG ce
          generalize Bg P pre.length = R1 at *
          generalize Bg P (pre.length + 1) = R2 at *
          by_cases cg : (pre.length : Int) + 1 = a1
          · have tg : ((pre.length : Int) + 1 == a1) = true := by simpa using cg
            replace cg := boxed cg
            gi_wp2
            exact ⟨(KeepsOthers.setCell _ _ _).from _, .inr ⟨rfl, by simp; exact cg.out, HSt.out⟩⟩
          · have tg : ((pre.length : Int) + 1 == a1) = false := by simpa using cg
            gi_wp2
            exact ⟨(KeepsOthers.setCell _ _ _).from _, HVs.out _, HSt.out⟩
        · have HNo : Box (¬ pre ++ [x] <+: gv P) := boxed (fun h => c2 (by have := HG.out.1 h; rw [this]))
          have te1 : (((x.1.1 : Nat) : Int) == ((Bg P pre.length : Nat) : Int)) = true := by rw [c1]; simp
          have te1' : (((x.1.1 : Nat) : Int) != ((Bg P pre.length : Nat) : Int)) = false := by rw [c1]; simp
          have te2 : (((x.1.2 : Nat) : Int) == ((Bg P (pre.length + 1) : Nat) : Int)) = false := by rw [beq_eq_false_iff_ne]; omega
          have te2' : (((x.1.2 : Nat) : Int) != ((Bg P (pre.length + 1) : Nat) : Int)) = true := by rw [bne_iff_ne]; omega
          clear HG c1
          generalize Bg P pre.length = R1 at *
          generalize Bg P (pre.length + 1) = R2 at *
          gi_wp2
          exact ⟨(KeepsOthers.setCell _ _ _).from _, .inl ⟨rfl, HNo.out⟩⟩
      · have HNo : Box (¬ pre ++ [x] <+: gv P) := boxed (fun h => c1 (by have := HG.out.1 h; rw [this]))
        have te1 : (((x.1.1 : Nat) : Int) == ((Bg P pre.length : Nat) : Int)) = false := by rw [beq_eq_false_iff_ne]; omega
        have te1' : (((x.1.1 : Nat) : Int) != ((Bg P pre.length : Nat) : Int)) = true := by rw [bne_iff_ne]; omega
        clear HG
        generalize Bg P pre.length = R1 at *
        generalize Bg P (pre.length + 1) = R2 at *
        gi_wp2
        exact ⟨(KeepsOthers.setCell _ _ _).from _, .inl ⟨rfl, HNo.out⟩⟩
    case done =>
      rintro D W hD hEv hV hK
      obtain ⟨e1, e2, e3, hBW⟩ := HCL.out _ hEv.2
      have HBW := boxed hBW
      have cL := cell_one e1
      have cS := cell_one e2
      have fS := frz_one e2
      have cW := cell_one e3
      have cK := cell_one hEv.1.1
      rw [hgl] at cK
      clear hEv hV e1 e2 e3 hBW
      by_cases cq : (P.length : Int) = a1
      · have tq : ((P.length : Int) == a1) = true := by simpa using cq
        replace cq := boxed cq
        gi_wp2_with fail
        have hK' := (KeepsOthers.setCell W ⟨w.heap.size + 1, 0, none⟩ (.bool true)).same D _ hK rfl
        have hc5 := cell_kept (World.cell?_setCell_same' W ⟨w.heap.size + 1, 0, none⟩ (.bool true) (by rw [cS]; rfl)) (grownBy_putObj' _ D (.deferred none)) (fun r e => by cases e; exact ⟨_, hK', rfl⟩)
        refine ⟨by simp, .inl ⟨_, _, rfl, run_takeDeferred hK', ?_⟩⟩
        refine ⟨.bool true, ?_, rfl, (HBW.out.setCell (p := ⟨w.heap.size + 1, 0, none⟩) (by show w.heap.size ≤ w.heap.size + 1; omega) _).trans (belowK_b (w := w) (Nat.le_refl _) _ D _ _ (by omega) hK' rfl rfl)⟩
        simp [results, Try.f6, go_sem, hc5]
      · have tq : ((P.length : Int) == a1) = false := by simpa using cq
        gi_wp2_with fail
        have hK' := (KeepsOthers.setCell W ⟨w.heap.size + 1, 0, none⟩ (.bool true)).same D _ hK rfl
        have hc5 := cell_kept (World.cell?_setCell_same' W ⟨w.heap.size + 1, 0, none⟩ (.bool true) (by rw [cS]; rfl)) (grownBy_putObj' _ D (.deferred none)) (fun r e => by cases e; exact ⟨_, hK', rfl⟩)
        refine ⟨by simp, .inl ⟨_, _, rfl, run_takeDeferred hK', ?_⟩⟩
        refine ⟨.bool true, ?_, rfl, (HBW.out.setCell (p := ⟨w.heap.size + 1, 0, none⟩) (by show w.heap.size ≤ w.heap.size + 1; omega) _).trans (belowK_b (w := w) (Nat.le_refl _) _ D _ _ (by omega) hK' rfl rfl)⟩
        simp [results, Try.f6, go_sem, hc5]
    case stop =>
      rintro D c pre W hD hpre hX hK
      rcases hX with ⟨rfl, hno⟩ | ⟨rfl, hq, hEv⟩
      · exact absurd hpre hno
      · obtain ⟨e1, e2, e3, hBW⟩ := HCL.out _ hEv.2
        have HBW := boxed hBW
        have cL := cell_one e1
        have cS := cell_one e2
        have fS := frz_one e2
        have cW := cell_one e3
        have cK := cell_one hEv.1.1
        have tq : ((pre.length : Int) == a1) = true := by simpa using hq
        clear hEv e1 e2 e3 hBW hq
        by_cases ck : (pre.length : Int) = (P.length : Nat)
        · have tk : ((pre.length : Int) == (P.length : Nat)) = true := by simpa using ck
          replace ck := boxed ck
          gi_wp2_with fail
          have hK' := (KeepsOthers.setCell W ⟨w.heap.size + 1, 0, none⟩ (.bool true)).same D _ hK rfl
          have hc5 := cell_kept (World.cell?_setCell_same' W ⟨w.heap.size + 1, 0, none⟩ (.bool true) (by rw [cS]; rfl)) (grownBy_putObj' _ D (.deferred none)) (fun r e => by cases e; exact ⟨_, hK', rfl⟩)
          refine ⟨by simp, .inl ⟨_, _, rfl, run_takeDeferred hK', ?_⟩⟩
          refine ⟨.bool true, ?_, rfl, (HBW.out.setCell (p := ⟨w.heap.size + 1, 0, none⟩) (by show w.heap.size ≤ w.heap.size + 1; omega) _).trans (belowK_b (w := w) (Nat.le_refl _) _ D _ _ (by omega) hK' rfl rfl)⟩
          simp [results, Try.f6, go_sem, hc5]
        · have tk : ((pre.length : Int) == (P.length : Nat)) = false := by simpa using ck
          gi_wp2_with fail
          have hK' := (KeepsOthers.setCell W ⟨w.heap.size + 1, 0, none⟩ (.bool true)).same D _ hK rfl
          have hc5 := cell_kept (World.cell?_setCell_same' W ⟨w.heap.size + 1, 0, none⟩ (.bool true) (by rw [cS]; rfl)) (grownBy_putObj' _ D (.deferred none)) (fun r e => by cases e; exact ⟨_, hK', rfl⟩)
          refine ⟨by simp, .inl ⟨_, _, rfl, run_takeDeferred hK', ?_⟩⟩
          refine ⟨.bool true, ?_, rfl, (HBW.out.setCell (p := ⟨w.heap.size + 1, 0, none⟩) (by show w.heap.size ≤ w.heap.size + 1; omega) _).trans (belowK_b (w := w) (Nat.le_refl _) _ D _ _ (by omega) hK' rfl rfl)⟩
          simp [results, Try.f6, go_sem, hc5]
end Go.Proofs.Ytholifolkimkdaa
