/-
  What the document's New, Near, Span, Insert, Delete and Set answer.
-/
import Derived.Test.YtdchpiihjjjpfabLn
import Derived.Test.YtdchpiihjjjpfabLk
import Derived.Test.YtdchpiihjjjpfabLm
namespace Go.Proofs.Ytdchpiihjjjpfab
open Go.RowKit
set_option linter.unusedSimpArgs false
set_option linter.unusedVariables false

/-- The document's list of styles, apart from lb. -/
structure RfAt (N : Nat → Prop) (w : World) (b off cap : Nat) (s : List Int) : Prop where
  ne : ∀ i, i < s.length → N b
  cap : s.length ≤ cap
  cells : ∀ i, i < s.length → w.cell? ⟨b, off + i, none⟩ = some (.int .i64 (s.getD i 0))
  ok : Sok s
  len : s.length ≤ 65536
theorem RfAt.keep {N : Nat → Prop} {w w' : World} {b off cap : Nat} {s : List Int} (h : RfAt N w b off cap s) (k : Kp N N w w') : RfAt N w' b off cap s :=
  ⟨h.ne, h.cap, fun i hi => (k _ _ _ (h.ne i hi) (h.cells i hi)).2, h.ok, h.len⟩
theorem RfAt.below {N : Nat → Prop} {w w' : World} {b off cap : Nat} {s : List Int} (h : RfAt N w b off cap s) (hb : Below w.heap.size w w') : RfAt N w' b off cap s := h.keep (kp_below hb)
theorem RfAt.other {N : Nat → Prop} {rb : Nat} {w w' : World} {b off cap : Nat} {s : List Int} (h : RfAt N w b off cap s) (hb : ∀ i, i < s.length → b ≠ rb) (hg : w.grownBy w' (some rb)) : RfAt N w' b off cap s :=
  ⟨h.ne, h.cap, fun i hi => hg.cell (h.cells i hi) (fun e => by injection e with e; exact hb i hi e), h.ok, h.len⟩
theorem RfAt.also {N N' : Nat → Prop} {w : World} {b off cap : Nat} {s : List Int} (h : RfAt N w b off cap s) (hN : ∀ k, N k → k < w.heap.size → N' k) : RfAt N' w b off cap s :=
  ⟨fun i hi => hN b (h.ne i hi) (by have := World.block_lt_of_cell? w _ (h.cells i hi); simpa using this), h.cap, h.cells, h.ok, h.len⟩
/-- Two cells stored. -/
theorem put2_all {w : World} {rb : Nat} {x y v0 v1 : Value} {t : TypeId} (h : w.heap[rb]? = some (.cells #[x, y] t (0, 0))) :
    ((w.setCell ⟨rb, 0, none⟩ v0).setCell ⟨rb, 1, none⟩ v1).cell? ⟨rb, 0, none⟩ = some v0 ∧ ((w.setCell ⟨rb, 0, none⟩ v0).setCell ⟨rb, 1, none⟩ v1).cell? ⟨rb, 1, none⟩ = some v1 ∧ w.grownBy ((w.setCell ⟨rb, 0, none⟩ v0).setCell ⟨rb, 1, none⟩ v1) (some rb) := by
  have h2 := set1_heap (v := v1) (set0_heap (v := v0) h)
  exact ⟨by simp [World.cell?, h2], by simp [World.cell?, h2], grown_trans (grown_set _ _ _ _) (grown_set _ _ _ _)⟩
theorem own_rf {B : Nat} {N : Nat → Prop} {w : World} {g cap : Nat} {s : List Int} (h : w.ownsRow B 3 1 (.slice (some ⟨g, 0, none⟩) s.length cap) s.length (ints s)) (hl : ∀ k, B ≤ k → N k) (hs : Sok s) (hn : s.length ≤ 65536) : RfAt N w g 0 cap s := by
  refine ⟨fun _ _ => hl g (h.lt g rfl).1, ?_, fun i hi => ?_, hs, hn⟩
  · rcases h.2 with ⟨h', _⟩ | ⟨g', cap', cur, h', _, _, hc, _⟩
    · simp at h'
    · injection h' with _ _ e; omega
  · have := h.cellAt i (by omega)
    rw [Nat.zero_add, this, ints_get s i hi]

def RNewP (n st : Int) (w : World) (e : Ending) (w' : World) : Prop :=
    (newE n st ≠ 0 ∧ e = .returned (.tuple #[.agg #[.slice none 0 0, .int .i64 0], .int .i64 (newE n st)]) ∧ Below w.heap.size w w') ∨
    (newE n st = 0 ∧ ∃ b cap, e = .returned (.tuple #[.agg #[.slice (some ⟨b, 0, none⟩) (List.replicate n.toNat st).length cap, .int .i64 st], .int .i64 0]) ∧ (∀ N : Nat → Prop, (∀ k, w.heap.size ≤ k → N k) → RfAt N w' b 0 cap (List.replicate n.toNat st)) ∧ Below w.heap.size w w')
theorem RNewP.bad {n st : Int} {w w' : World} {c : Int} (h : newE n st = c) (hc : c ≠ 0) (hb : Below w.heap.size w w') : RNewP n st w (.returned (.tuple #[.agg #[.slice none 0 0, .int .i64 0], .int .i64 c])) w' := .inl ⟨by rw [h]; exact hc, by rw [h], hb⟩

set_option maxRecDepth 100000 in
set_option maxHeartbeats 1000000 in
theorem rnew_any (n st : Int) (w : World) (hn : I64 n) : Calls Try.prog 18 #[.int .i64 n, .int .i64 st] w fun e w' => RNewP n st w e w' := by
  by_cases c1 : n < 0
  · have HE : Box (newE n st = 1) := boxed (by unfold newE; rw [if_pos (.inl c1)])
    go_enter Try.func18, Try.ntmps18
    go_wp2
    refine bodyPost_ret (v := .tuple #[.agg #[.slice none 0 0, .int .i64 0], .int .i64 1]) (by simp [results, Try.results18, go_sem]) rfl ?_
    exact RNewP.bad HE.out (by omega) ((Below.refl _ _).alloc (Nat.le_refl _) _)
  · by_cases c2 : 65536 < n
    · have HE : Box (newE n st = 1) := boxed (by unfold newE; rw [if_pos (.inr c2)])
      go_enter Try.func18, Try.ntmps18
      go_wp2
      refine bodyPost_ret (v := .tuple #[.agg #[.slice none 0 0, .int .i64 0], .int .i64 1]) (by simp [results, Try.results18, go_sem]) rfl ?_
      exact RNewP.bad HE.out (by omega) ((Below.refl _ _).alloc (Nat.le_refl _) _)
    · have hst := style_any st
      by_cases c3 : stb st = true
      · have HE : Box (newE n st = 0) := boxed (by unfold newE; rw [if_neg (by omega), if_pos c3])
        rw [c3] at hst
        have hy := (stb_iff st).1 c3
        obtain ⟨m, rfl⟩ : ∃ m : Nat, n = m := ⟨n.toNat, by omega⟩
        obtain ⟨W0, hW0⟩ : ∃ W0, w.alloc (.cells #[.slice none 0 0, .int .i64 0] 33) = W0 := ⟨_, rfl⟩
        have HA0 : Box (Below w.heap.size w W0) := boxed (by rw [← hW0]; exact (Below.refl _ _).alloc (Nat.le_refl _) _)
        have hz0 : W0.heap.size = w.heap.size + 1 := by rw [← hW0]; simp
        have hr0 : W0.heap[w.heap.size]? = some (.cells #[.slice none 0 0, .int .i64 0] 33 (0, 0)) := by rw [← hW0]; exact heap_alloc_new _ _
        have HM := boxed (many_any m st W0 (by omega))
        have HQ : Box (List.replicate ((m : Int)).toNat st = List.replicate m st) := boxed (by simp)
        have hm : m ≤ 65536 := by omega
        clear c3
        go_enter Try.func18, Try.ntmps18
        go_wp2_with (go_at_call 16; refine (hst _).mono ?_; rintro e w1' ⟨rfl, hw'⟩; subst w1')
        refine HM.out.mono ?_
        rintro e w1 ⟨g, cap, rfl, hown, hb1⟩
        have hr1 : w1.heap[w.heap.size]? = some (.cells #[.slice none 0 0, .int .i64 0] 33 (0, 0)) := by rw [hb1.block _ (by omega)]; exact hr0
        have d0 : w1.cell? ⟨w.heap.size, 0, none⟩ = some (.slice none 0 0) := by simp [World.cell?, hr1]
        have d1 : w1.cell? ⟨w.heap.size, 1, none⟩ = some (.int .i64 0) := by simp [World.cell?, hr1]
        have f0 : w1.frozen? ⟨w.heap.size, 0, none⟩ = false := by unfold World.frozen?; rw [hr1]; simp
        have f1 : w1.frozen? ⟨w.heap.size, 1, none⟩ = false := by unfold World.frozen?; rw [hr1]; simp
        have HF : Box (∀ N : Nat → Prop, (∀ k, w.heap.size ≤ k → N k) → RfAt N w1 g 0 cap (List.replicate m st)) := boxed (fun N hN => own_rf (by simpa using hown) (fun k hk => hN k (by omega)) (sok_rep hy) (by simpa using hm))
        have hgl := (hown.lt g rfl).1
        have HR := boxed hr1
        have HB := boxed (below_step HA0.out (Nat.le_refl _) hb1)
        clear hown hb1 HM hr1 hr0
        go_wp2
        have HP := put2_all (v0 := .slice (some ⟨g, 0, none⟩) m cap) (v1 := .int .i64 st) HR.out
        refine bodyPost_ret (v := .tuple #[.agg #[.slice (some ⟨g, 0, none⟩) m cap, .int .i64 st], .int .i64 0]) (by simp [results, Try.results18, go_sem, HP.1, HP.2.1]) rfl ?_
        exact .inr ⟨HE.out, g, cap, by rw [HQ.out]; simp, fun N hN => by rw [HQ.out]; exact (HF.out N hN).other (fun i _ => by omega) HP.2.2, HB.out.trans (grown_below HP.2.2 (Nat.le_refl _) HB.out.size)⟩
      · have c3' : stb st = false := by simpa using c3
        have HE : Box (newE n st = 43) := boxed (by unfold newE; rw [if_neg (by omega), if_neg c3])
        rw [c3'] at hst
        go_enter Try.func18, Try.ntmps18
        go_wp2_with (go_at_call 16; refine (hst _).mono ?_; rintro e w1' ⟨rfl, hw'⟩; subst w1')
        refine bodyPost_ret (v := .tuple #[.agg #[.slice none 0 0, .int .i64 0], .int .i64 43]) (by simp [results, Try.results18, go_sem]) rfl ?_
        exact RNewP.bad HE.out (by omega) ((Below.refl _ _).alloc (Nat.le_refl _) _)

/-- A parameter's box and a result's. -/
theorem boxes (w : World) (v0 v1 : Value) : Below w.heap.size w ((w.alloc (.cells #[v0, v1] 33)).alloc (.cells #[.slice none 0 0, .int .i64 0] 33)) ∧ ((w.alloc (.cells #[v0, v1] 33)).alloc (.cells #[.slice none 0 0, .int .i64 0] 33)).heap.size = w.heap.size + 2 ∧
    ((w.alloc (.cells #[v0, v1] 33)).alloc (.cells #[.slice none 0 0, .int .i64 0] 33)).cell? ⟨w.heap.size, 0, none⟩ = some v0 ∧ ((w.alloc (.cells #[v0, v1] 33)).alloc (.cells #[.slice none 0 0, .int .i64 0] 33)).cell? ⟨w.heap.size, 1, none⟩ = some v1 ∧
    ((w.alloc (.cells #[v0, v1] 33)).alloc (.cells #[.slice none 0 0, .int .i64 0] 33)).heap[w.heap.size + 1]? = some (.cells #[.slice none 0 0, .int .i64 0] 33 (0, 0)) := by
  have h0 : ((w.alloc (.cells #[v0, v1] 33)).alloc (.cells #[.slice none 0 0, .int .i64 0] 33)).heap[w.heap.size]? = some (.cells #[v0, v1] 33 (0, 0)) := by
    rw [Below.heap_alloc _ _ _ (by simp)]; exact heap_alloc_new w _
  refine ⟨below_two _ _ _, by simp, by simp [World.cell?, h0], by simp [World.cell?, h0], ?_⟩
  have := heap_alloc_new (w.alloc (.cells #[v0, v1] 33)) (.cells #[.slice none 0 0, .int .i64 0] 33)
  rwa [World.size_alloc] at this
theorem box_facts {w1 : World} {rb : Nat} {x y : Value} {t : TypeId} (hr1 : w1.heap[rb]? = some (.cells #[x, y] t (0, 0))) : w1.cell? ⟨rb, 0, none⟩ = some x ∧ w1.cell? ⟨rb, 1, none⟩ = some y ∧ w1.frozen? ⟨rb, 0, none⟩ = false ∧ w1.frozen? ⟨rb, 1, none⟩ = false :=
  ⟨by simp [World.cell?, hr1], by simp [World.cell?, hr1], by unfold World.frozen?; rw [hr1]; simp, by unfold World.frozen?; rw [hr1]; simp⟩
theorem after {w W0 w1 : World} {v0 v1 : Value} (hA : Below w.heap.size w W0) (hz : W0.heap.size = w.heap.size + 2) (px0 : W0.cell? ⟨w.heap.size, 0, none⟩ = some v0) (px1 : W0.cell? ⟨w.heap.size, 1, none⟩ = some v1) (hr : W0.heap[w.heap.size + 1]? = some (.cells #[.slice none 0 0, .int .i64 0] 33 (0, 0))) (hb : Below W0.heap.size W0 w1) :
    Box (Below w.heap.size w w1) ∧ Box (w1.heap[w.heap.size + 1]? = some (.cells #[.slice none 0 0, .int .i64 0] 33 (0, 0))) ∧ w1.cell? ⟨w.heap.size + 1, 0, none⟩ = some (.slice none 0 0) ∧ w1.cell? ⟨w.heap.size + 1, 1, none⟩ = some (.int .i64 0) ∧ w1.frozen? ⟨w.heap.size + 1, 0, none⟩ = false ∧ w1.frozen? ⟨w.heap.size + 1, 1, none⟩ = false ∧
      w1.cell? ⟨w.heap.size, 0, none⟩ = some v0 ∧ w1.cell? ⟨w.heap.size, 1, none⟩ = some v1 := by
  have hr1 : w1.heap[w.heap.size + 1]? = some (.cells #[.slice none 0 0, .int .i64 0] 33 (0, 0)) := by rw [hb.block _ (by omega)]; exact hr
  exact ⟨boxed (below_step hA (Nat.le_refl _) hb), boxed hr1, by simp [World.cell?, hr1], by simp [World.cell?, hr1], by unfold World.frozen?; rw [hr1]; simp, by unfold World.frozen?; rw [hr1]; simp, hold hb px0, hold hb px1⟩

section
variable {N : Nat → Prop} {w : World} {b off cap : Nat} {s : List Int} {base : Int}

set_option maxRecDepth 100000 in
set_option maxHeartbeats 1000000 in
theorem rnear_any (h : RfAt N w b off cap s) (a : Int) (ha : I64 a) : Calls Try.prog 35 #[.agg #[.slice (some ⟨b, off, none⟩) s.length cap, .int .i64 base], .int .i64 a] w fun e w' => e = .returned (.tuple #[.int .i64 (nr s base a), .int .i64 (ofs (outb s.length a a))]) ∧ Below w.heap.size w w' := by
  have hl := h.len
  have hle := h.cap
  unfold nr ofs
  by_cases c : outb s.length a a = true
  · rw [if_pos c, if_pos c]
    have c' : a < 0 ∨ (s.length : Int) < a := by unfold outb at c; simp at c; omega
    by_cases c1 : a < 0
    · clear h c c'
      go_enter Try.func35, Try.ntmps35
      go_wp2
      go_ret2
      exact ⟨rfl, (Below.refl _ _).alloc (Nat.le_refl _) _⟩
    · have t1 : decide ((s.length : Int) < a) = true := decide_eq_true (by omega)
      clear h c c'
      go_enter Try.func35, Try.ntmps35
      go_wp2
      go_ret2
      exact ⟨rfl, (Below.refl _ _).alloc (Nat.le_refl _) _⟩
  · rw [if_neg c, if_neg c]
    have c' : outb s.length a a = false := by simpa using c
    obtain ⟨a1, -, a2⟩ := (outb_iff _ _ _).1 c'
    obtain ⟨k, rfl⟩ : ∃ k : Nat, a = k := ⟨a.toNat, by omega⟩
    have t1 : decide ((s.length : Int) < (k : Int)) = false := decide_eq_false (by omega)
    have t1' : decide (s.length < k) = false := decide_eq_false (by omega)
    clear c c'
    by_cases d : s.length = 0
    · rw [if_pos d]
      have z : ((s.length : Int) == 0) = true := by simp [d]
      clear h d
      go_enter Try.func35, Try.ntmps35
      go_wp2
      go_ret2
      exact ⟨rfl, (Below.refl _ _).alloc (Nat.le_refl _) _⟩
    · rw [if_neg d]
      have z : ((s.length : Int) == 0) = false := by rw [beq_eq_false_iff_ne]; omega
      by_cases e : k = 0
      · subst e
        have hc := h.cells 0 (by omega)
        have HG : Box (s.getD (((0 : Nat) : Int) - 1).toNat 0 = s.getD 0 0) := boxed (by simp)
        rw [HG.out]
        have hlt := World.block_lt_of_cell? w _ hc
        generalize s.getD 0 0 = V at *
        clear h
        simp only [Nat.add_zero] at hc
        go_enter Try.func35, Try.ntmps35
        go_wp2
        go_ret2
        exact ⟨rfl, (Below.refl _ _).alloc (Nat.le_refl _) _⟩
      · obtain ⟨m, rfl⟩ : ∃ m, k = m + 1 := ⟨k - 1, by omega⟩
        have hc := h.cells m (by omega)
        have HG : Box (s.getD (((m + 1 : Nat) : Int) - 1).toNat 0 = s.getD m 0) := boxed (by congr 1; omega)
        rw [HG.out]
        have hlt := World.block_lt_of_cell? w _ hc
        have zk : (((m + 1 : Nat) : Int) == 0) = false := by rw [beq_eq_false_iff_ne]; omega
        generalize s.getD m 0 = V at *
        clear h
        go_enter Try.func35, Try.ntmps35
        go_wp2
        go_ret2
        exact ⟨rfl, (Below.refl _ _).alloc (Nat.le_refl _) _⟩

set_option maxRecDepth 100000 in
theorem span_any (h : RfAt N w b off cap s) (x y : Int) : Calls Try.prog 39 #[.agg #[.slice (some ⟨b, off, none⟩) s.length cap, .int .i64 base], .int .i64 x, .int .i64 y] w fun e w' => e = .returned (.int .i64 (ofs (outb s.length x y))) ∧ Below w.heap.size w w' := by
  clear h
  unfold ofs outb
  generalize s.length = n
  by_cases h1 : x < 0
  · go_enter Try.func39, Try.ntmps39
    go_wp2
    all_goals go_ret
    all_goals exact ⟨ret_int (by first | rfl | (rw [decide_eq_true h1]; simp)), (Below.refl _ _).alloc (Nat.le_refl _) _⟩
  · by_cases h2 : (n : Int) < y
    · have t2 : decide ((n : Int) < y) = true := decide_eq_true h2
      go_enter Try.func39, Try.ntmps39
      go_wp2
      go_ret
      exact ⟨ret_int (by first | rfl | (rw [decide_eq_true h2]; simp)), (Below.refl _ _).alloc (Nat.le_refl _) _⟩
    · have t2 : decide ((n : Int) < y) = false := decide_eq_false h2
      by_cases h3 : y < x
      · go_enter Try.func39, Try.ntmps39
        go_wp2
        go_ret
        exact ⟨ret_int (by first | rfl | (rw [decide_eq_true h3]; simp)), (Below.refl _ _).alloc (Nat.le_refl _) _⟩
      · go_enter Try.func39, Try.ntmps39
        go_wp2
        go_ret
        exact ⟨rfl, (Below.refl _ _).alloc (Nat.le_refl _) _⟩

end
end Go.Proofs.Ytdchpiihjjjpfab
