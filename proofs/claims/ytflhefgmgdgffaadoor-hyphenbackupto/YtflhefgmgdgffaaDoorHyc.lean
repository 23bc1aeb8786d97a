/-
  A text's runes as a list; what is a pattern, a word; rows of runes; what the program's fits answers; what holds while a text is ranged over and lists grow.
-/
import Derived.Test.YtflhefgmgdgffaaDoorHyb
import Derived.Lib.OthersKept
namespace Go.Proofs.YtflhefgmgdgffaaDoor
open Go.RowKit
set_option linter.unusedSimpArgs false
set_option linter.unusedVariables false

def cntFrom (s : ByteArray) : Nat → Nat → Nat
  | 0, k => k
  | f + 1, k => if (dc s (it s k)).2 = 0 then k else cntFrom s f (k + 1)
/-- How many runes a text has, up to its end or the first wrong byte. -/
def nR (s : ByteArray) : Nat := cntFrom s (s.size + 1) 0
theorem cntFrom_ok (s : ByteArray) : ∀ f k, (∀ j, j < k → 0 < (dc s (it s j)).2) → s.size < k + f → Cnt s (cntFrom s f k) := by
  intro f
  induction f with
  | zero =>
    intro k h hk
    have h1 := it_grow s k h k (Nat.le_refl _) 0 (by omega)
    have h2 := it_le s k
    omega
  | succ f ih =>
    intro k h hk
    unfold cntFrom
    split
    · next c => exact ⟨h, c⟩
    · next c =>
      refine ih (k + 1) (fun j hj => ?_) (by omega)
      by_cases e : j = k
      · subst e; omega
      · exact h j (by omega)
theorem nR_cnt (s : ByteArray) : Cnt s (nR s) := cntFrom_ok s _ 0 (fun j h => by omega) (by omega)
theorem nR_le (s : ByteArray) : nR s ≤ s.size := by have := cnt_le s _ (nR_cnt s); have := it_le s (nR s); omega
theorem nR_eq (s : ByteArray) (N : Nat) (h : Cnt s N) : nR s = N := cnt_one s _ _ (nR_cnt s) h
/-- Is a text right? -/
def rt (s : ByteArray) : Bool := decide (it s (nR s) = s.size)
theorem rt_right {s : ByteArray} (h : rt s = true) : Right s (nR s) := ⟨nR_cnt s, of_decide_eq_true h⟩
theorem rt_of {s : ByteArray} {N : Nat} (h : Right s N) : rt s = true ∧ nR s = N := by
  have e := nR_eq s N h.1
  exact ⟨decide_eq_true (by rw [e]; exact h.2), e⟩
theorem rt_bad (s : ByteArray) : (badAt s (nR s) < 0) ↔ rt s = true := by
  have := it_le s (nR s)
  unfold badAt rt
  by_cases c : it s (nR s) < s.size
  · rw [if_pos c]; simp; omega
  · rw [if_neg c]; simp; omega
/-- A text's runes. -/
def rs (s : ByteArray) : List Nat := rns s (nR s)
theorem rs_len (s : ByteArray) : (rs s).length = nR s := rns_len s _
theorem rs_get (s : ByteArray) (k : Nat) (h : k < nR s) : (rs s).getD k 0 = rn s k := rns_get s _ k h
theorem rn_isR (t : ByteArray) (k : Nat) (h : 0 < (dc t (it t k)).2) : isR (rn t k : Int) = true := by
  unfold rn
  unfold dc at h ⊢
  generalize bt t (it t k) = b0 at *
  generalize bt t (it t k + 1) = b1 at *
  generalize bt t (it t k + 2) = b2 at *
  generalize bt t (it t k + 3) = b3 at *
  apply isR_mk
  rcases dec_cases b0 b1 b2 b3 with ⟨q, e⟩ | ⟨q, e⟩ | ⟨q, e⟩ | ⟨q, e⟩ | e
  · rw [e]; simp only; omega
  · rw [e]; simp only; omega
  · rw [e]; simp only; omega
  · rw [e]; simp only; omega
  · rw [e] at h; simp at h
theorem rs_isR (s : ByteArray) : ∀ r ∈ rs s, isR (r : Int) = true := by
  intro r hr
  simp only [rs, rns, List.mem_map, List.mem_range] at hr
  obtain ⟨k, hk, rfl⟩ := hr
  exact rn_isR s k ((nR_cnt s).1 k hk)
/-- Is a text right, and not too long? -/
def fit (s : ByteArray) : Bool := decide (s.size ≤ 256) && rt s
def patT (s : ByteArray) : Option (List Nat × List Nat) := if fit s = true then pat (rs s) else none
def wordT (s : ByteArray) : Option (List Nat × List Nat) := if fit s = true then word (rs s) else none
theorem patT_ok {s : ByteArray} {P V : List Nat} (h : patT s = some (P, V)) : V.length = P.length + 1 ∧ P.length ≤ 256 ∧ (∀ v ∈ V, v ≤ 9) ∧ (∀ c ∈ P, isR (c : Int) = true) ∧ P ≠ [] := by
  unfold patT at h
  split at h
  · next hf =>
    obtain ⟨h1, h2, h3, h4, h5⟩ := pat_ok _ P V h
    have hz : s.size ≤ 256 := by unfold fit at hf; simp at hf; exact hf.1
    have := nR_le s
    rw [rs_len] at h2
    exact ⟨h1, by omega, h3, fun c hc => rs_isR s c (h4 c hc), h5⟩
  · cases h
theorem low_isR (r : Nat) (h : isR (r : Int) = true) : isR (lowr r : Int) = true := by
  have := isR_t _ h
  apply isR_mk
  rcases low_cases r with ⟨c, e⟩ | ⟨c, e⟩ <;> rw [e] <;> omega
theorem wordT_ok {s : ByteArray} {L A : List Nat} (h : wordT s = some (L, A)) : L.length ≤ 256 ∧ L ≠ [] ∧ A.Pairwise (· < ·) ∧ (∀ a ∈ A, a < L.length) ∧ (∀ c ∈ L, ltr c = true ∧ lowr c = c ∧ isR (c : Int) = true) := by
  unfold wordT at h
  split at h
  · next hf =>
    obtain ⟨h1, h2, h3, h4, h5⟩ := word_ok _ L A h
    have hz : s.size ≤ 256 := by unfold fit at hf; simp at hf; exact hf.1
    have := nR_le s
    rw [rs_len] at h1
    refine ⟨by omega, h2, h3, h4, fun c hc => ?_⟩
    obtain ⟨g1, g2, r, hr, e⟩ := h5 c hc
    exact ⟨g1, g2, by rw [e]; exact low_isR r (rs_isR s r hr)⟩
  · cases h
set_option maxRecDepth 100000 in
theorem fits_any (s : ByteArray) (w : World) (hs : s.size ≤ maxLen) : Calls Tryd.prog 41 #[.string s] w fun e w' => e = .returned (.bool (fit s)) ∧ w' = w := by
  have hc := check_any s w hs (nR s) (nR_cnt s)
  have hk : (chk s (nR s) = 0 ∧ rt s = true) ∨ (chk s (nR s) = 20 ∧ rt s = false) := by
    unfold chk
    by_cases c : badAt s (nR s) < 0
    · exact .inl ⟨if_pos c, (rt_bad s).1 c⟩
    · refine .inr ⟨if_neg c, ?_⟩
      cases h : rt s
      · rfl
      · exact absurd ((rt_bad s).2 h) c
  unfold maxLen at hs
  have HF : Box (fit s = (decide ((s.size : Int) ≤ 256) && rt s)) := boxed (by unfold fit; congr 1; rw [decide_eq_decide]; omega)
  rcases hk with ⟨e1, e2⟩ | ⟨e1, e2⟩
  all_goals
    rw [e1] at hc
    rw [e2] at HF
    clear e1 e2
    by_cases h : (s.size : Int) ≤ 256
    · have t1 : decide ((s.size : Int) ≤ 256) = true := decide_eq_true h
      have t2 : decide (s.size ≤ 256) = true := decide_eq_true (by omega)
      rw [t1] at HF
      clear h
      go_enter Tryd.func41, Tryd.ntmps41
      go_wp2_with (go_at_call 34; refine hc.mono ?_; rintro e w' ⟨rfl, hw'⟩; subst w')
      go_ret
      exact ⟨ret_bool (by rw [HF.out]; rfl), rfl⟩
    · have t1 : decide ((s.size : Int) ≤ 256) = false := decide_eq_false h
      have t2 : decide (s.size ≤ 256) = false := decide_eq_false (by omega)
      rw [t1] at HF
      clear h
      go_enter Tryd.func41, Tryd.ntmps41
      go_wp2
      go_ret
      exact ⟨ret_bool (by rw [HF.out]; rfl), rfl⟩

/-- Where a walk shall stand. -/
def Stop (p : Prop) : Prop := p
theorem stopper {p : Prop} (h : Stop p) : p := h
/-! ### Rows of runes, and a text that is ranged over -/
theorem info_rune : (Tryd.prog.info? 21).map (fun i => (i.zero, i.size, i.bytes)) = some (some (.int .i32 0), 1, 4) := by kernel_rfl
/-- Runes as they lie in memory. -/
def rvals (l : List Nat) : List Value := l.map fun (d : Nat) => Value.int .i32 (d : Int)
theorem rvals_len (l : List Nat) : (rvals l).length = l.length := by simp [rvals]
theorem rvals_snoc (l : List Nat) (x : Nat) : rvals l ++ [.int .i32 (x : Int)] = rvals (l ++ [x]) := by simp [rvals]
theorem rvals_get (l : List Nat) (j : Nat) (h : j < l.length) : (rvals l)[j]? = some (.int .i32 ((l.getD j 0 : Nat) : Int)) := by
  simp [rvals, h]
theorem bvals_snoc (l : List Nat) (x : Nat) : bvals l ++ [.int .u8 (x : Int)] = bvals (l ++ [x]) := by simp [bvals]
theorem bvals_set (l : List Nat) (i x : Nat) : (bvals l).set i (.int .u8 (x : Int)) = bvals (l.set i x) := by
  simp only [bvals, List.map_set]
theorem vals_set (l : List Nat) (i x : Nat) : (vals l).set i (.int .i64 (x : Int)) = vals (l.set i x) := by
  simp only [vals, List.map_set]
theorem own_iter {w : World} {B e size n q p p' : Nat} {v : Value} {xs : List Value} {t : ByteArray} (h : w.ownsRow B e size v n xs) (hq : w.heap[q]? = some (.stringIter t p)) : (w.iterAt q t p').ownsRow B e size v n xs := by
  obtain ⟨h1, h2⟩ := h
  refine ⟨h1, ?_⟩
  rcases h2 with h2 | ⟨g, cap, cur, e, hB, hh, r⟩
  · exact .inl h2
  · exact .inr ⟨g, cap, cur, e, hB, by rw [Lib.iterAt_other _ _ _ _ _ (by intro c; subst c; rw [hq] at hh; cases hh)]; exact hh, r⟩
/-- The iterator lies at ib, and all that is new lies behind w. -/
structure Itr (w : World) (ib : Nat) (s : ByteArray) (p : Nat) (W : World) : Prop where
  itr : W.heap[ib]? = some (.stringIter s p)
  lo : w.heap.size ≤ ib
  bel : Below w.heap.size w W
theorem Itr.lt {w : World} {ib : Nat} {s : ByteArray} {p : Nat} {W : World} (h : Itr w ib s p W) : ib < W.heap.size := heap_lt h.itr
theorem Itr.size {w : World} {ib : Nat} {s : ByteArray} {p : Nat} {W : World} (h : Itr w ib s p W) : w.heap.size ≤ W.heap.size := h.bel.size
theorem Itr.next {w : World} {ib : Nat} {s : ByteArray} {p : Nat} {W : World} (h : Itr w ib s p W) (p' : Nat) : Itr w ib s p' (W.iterAt ib s p') :=
  ⟨Lib.iterAt_heap W ib s p p' h.itr, h.lo, Lib.below_iterAt h.bel h.lo s p'⟩
theorem Itr.pos {w : World} {ib : Nat} {s : ByteArray} {p : Nat} {W : World} (h : Itr w ib s p W) : W.iterPos ib = p := by unfold World.iterPos; rw [h.itr]
theorem Itr.below {w : World} {ib : Nat} {s : ByteArray} {p : Nat} {W W' : World} (h : Itr w ib s p W) (hb : Below W.heap.size W W') : Itr w ib s p W' :=
  ⟨(hb.block _ h.lt).trans h.itr, h.lo, h.bel.trans (hb.mono h.size)⟩
theorem Itr.alloc {w : World} {ib : Nat} {s : ByteArray} {p : Nat} {W : World} (h : Itr w ib s p W) (o : Obj) : Itr w ib s p (W.alloc o) := h.below ((Below.refl _ _).alloc (Nat.le_refl _) _)
theorem Itr.grown {w : World} {ib : Nat} {s : ByteArray} {p : Nat} {W W' : World} {e size n : Nat} {v : Value} {xs : List Value} (h : Itr w ib s p W) (hown : W.ownsRow w.heap.size e size v n xs) (hg : W.grownBy W' v.ownBlock) : Itr w ib s p W' := by
  refine ⟨?_, h.lo, h.bel.grown hg h.size (fun k hk => (hown.lt k hk).1)⟩
  rw [hg.block ib h.lt ?_]
  · exact h.itr
  · intro c
    rcases hown.2 with ⟨rfl, _⟩ | ⟨g, cap, cur, rfl, _, hh, _⟩
    · cases c
    · have : ib = g := by simpa [Value.ownBlock] using c
      subst this
      rw [h.itr] at hh; cases hh
theorem own_beside {W W' : World} {B B' e e' size size' n n' : Nat} {v v' : Value} {xs xs' : List Value} (h : W.ownsRow B e size v n xs) (hne : e ≠ e') (h' : W.ownsRow B' e' size' v' n' xs') (hg : W.grownBy W' v.ownBlock) : W'.ownsRow B' e' size' v' n' xs' :=
  h'.kept hg (by
    cases c : v'.ownBlock with
    | none => exact .inl rfl
    | some g => exact .inr (fun x => own_two h h' hne g x.symm c))
theorem one_new (W : World) (u : Value) (t : TypeId) : ∀ j x, ([u] : List Value)[j]? = some x → (W.alloc (.cells #[u] t)).cell? ((⟨W.heap.size, 0, none⟩ : Addr).add j) = some x := by
  intro j x hj
  match j, hj with
  | 0, hj =>
    simp at hj; subst hj
    rw [show ((⟨W.heap.size, 0, none⟩ : Addr).add 0) = ⟨W.heap.size, 0, none⟩ from rfl, cell_first]; rfl
theorem next_at (s : ByteArray) (w : World) (ib k : Nat) (W : World) (hI : Itr w ib s (it s k) W) (hk : k < nR s) (ty : TypeId) :
    (Instr.next (.pointer (some ⟨ib, 0, none⟩)) true ty).run Tryd.prog W = .ok (.tuple #[.bool true, .int .i64 (it s k), .int .i32 (rn s k)]) (W.iterAt ib s (it s (k + 1))) := by
  have hp := (nR_cnt s).1 k hk
  rw [Lib.run_next_any_at (P := Tryd.prog) W ib s (it s k) ty hI.itr (dc_pos s _ hp), decode_dc s _ hp]
  rfl
theorem next_stop (s : ByteArray) (w : World) (ib : Nat) (W : World) (hr : rt s = true) (hI : Itr w ib s (it s (nR s)) W) (ty : TypeId) :
    (Instr.next (.pointer (some ⟨ib, 0, none⟩)) true ty).run Tryd.prog W = .ok (.tuple #[.bool false]) W :=
  Lib.run_next_end_at (P := Tryd.prog) W ib s (it s (nR s)) ty hI.itr (by rw [(rt_right hr).2]; omega)
theorem itr_start (w : World) (s : ByteArray) : Itr w w.heap.size s (it s 0) (w.iter s 0) :=
  ⟨World.iter_heap w s 0, Nat.le_refl _, bel_iter w s 0⟩
theorem it_lt (s : ByteArray) (k : Nat) (hk : k < nR s) : it s k < it s (k + 1) ∧ it s (k + 1) ≤ s.size := by
  have hp := (nR_cnt s).1 k hk
  have := it_le s (k + 1)
  exact ⟨by simp only [it]; omega, this⟩
end Go.Proofs.YtflhefgmgdgffaaDoor
