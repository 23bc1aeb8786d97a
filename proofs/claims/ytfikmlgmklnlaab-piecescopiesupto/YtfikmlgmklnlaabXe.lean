/-
  A text and its copy: each is edited without a change to the other.
-/
import Derived.Test.YtfikmlgmklnlaabXb
import Derived.BigRegion
namespace Go.Proofs.Ytfikmlgmklnlaab
open Go.RowKit
set_option linter.unusedSimpArgs false
set_option linter.unusedVariables false

/-- Where both add to one block, there is no room left for one of them. -/
def Sep (A C : Option (Nat × Nat × Nat)) : Prop := ∀ b l c l' c', A = some (b, l, c) → C = some (b, l', c') → l = c ∨ l' = c'
theorem Sep.symm {A C : Option (Nat × Nat × Nat)} (h : Sep A C) : Sep C A := fun b l c l' c' h1 h2 => (h b l' c' l c h2 h1).symm

/-- Two texts that live beside one another, made since w. -/
def Two (w w' : World) (tb tc : Nat) (ra rb : ByteArray) : Prop :=
  ∃ S x A T y C U, TextAt S w' tb x A T ∧ TextAt S w' tc y C U ∧ tb ≠ tc ∧ (adl A ≤ 262144 ∧ adl C ≤ 262144) ∧ (T.flat = bl ra ∧ U.flat = bl rb) ∧ (w.heap.size ≤ tb ∧ w.heap.size ≤ tc) ∧ (AdGe w.heap.size A ∧ AdGe w.heap.size C) ∧ Sep A C ∧ Below w.heap.size w w'
theorem Two.symm {w w' : World} {tb tc : Nat} {ra rb : ByteArray} (h : Two w w' tb tc ra rb) : Two w w' tc tb rb ra := by
  obtain ⟨S, x, A, T, y, C, U, h1, h2, h3, h4, h5, h6, h7, h8, h9⟩ := h
  exact ⟨S, y, C, U, x, A, T, h2, h1, Ne.symm h3, h4.symm, h5.symm, h6.symm, h7.symm, h8.symm, h9⟩
theorem Two.below {w w' w2 : World} {tb tc : Nat} {ra rb : ByteArray} (h : Two w w' tb tc ra rb) (hb : Below w'.heap.size w' w2) : Two w w2 tb tc ra rb := by
  obtain ⟨S, x, A, T, y, C, U, h1, h2, h3, h4, h5, h6, h7, h8, h9⟩ := h
  exact ⟨S, x, A, T, y, C, U, h1.below hb, h2.below hb, h3, h4, h5, h6, h7, h8, h9.trans (hb.mono h9.size)⟩
theorem Two.frame {w w' : World} {tb tc : Nat} {ra rb : ByteArray} (h : Two w w' tb tc ra rb) : Below w.heap.size w w' := by
  obtain ⟨S, x, A, T, y, C, U, h1, h2, h3, h4, h5, h6, h7, h8, h9⟩ := h
  exact h9
theorem Two.size {w w' : World} {tb tc : Nat} {ra rb : ByteArray} (h : Two w w' tb tc ra rb) : ra.size ≤ 65536 ∧ rb.size ≤ 65536 := by
  obtain ⟨S, x, A, T, y, C, U, h1, h2, h3, h4, h5, h6, h7, h8, h9⟩ := h
  have e1 := h1.len
  have e2 := h2.len
  rw [h5.1, bl_len] at e1
  rw [h5.2, bl_len] at e2
  exact ⟨e1, e2⟩

/-- The row of what was added is no text. -/
theorem far_text {w : World} {tc : Nat} {A : Option (Nat × Nat × Nat)} {cs : Array Value} {fz : Nat × Nat} (hA : AdAt w A) (hb : w.heap[tc]? = some (.cells cs 54 fz)) : Far A tc := by
  intro ab l c e hx
  subst e; subst hx
  obtain ⟨cur, h1, _⟩ := hA
  rw [h1] at hb
  injection hb with hb
  injection hb with _ e2 _
  exact absurd e2 (by decide)

set_option maxHeartbeats 1000000 in
theorem two_edit {w w' : World} {tb tc : Nat} {s rb : ByteArray} (h : Two w w' tb tc s rb) (o : Opr) (ho : OprOk o) :
    Calls Try.prog 15 #[.pointer (some ⟨tb, 0, none⟩), .string s, .agg #[.bool o.out, .int .i64 o.a, .int .i64 o.b, .string o.m]] w' fun e w2 => ∃ r, e = .returned (.tuple #[.string r, .bool true]) ∧ Two w w2 tb tc r rb := by
  obtain ⟨S, x, A, T, y, C, U, h1, h2, h3, h4, h5, h6, h7, h8, h9⟩ := h
  refine (edit_any h1 h4.1 s h5.1 o.out o.a o.b o.m ho.1 ho.2.1 ho.2.2).mono ?_
  rintro e w2 ⟨r, rfl, hr, x', A', S', T', k1, k2, k3, k4, k5, k6, k7, k8, k9⟩
  have htc : tc < w'.heap.size := (Array.getElem?_eq_some_iff.1 h2.blk).1
  have hfar := far_text h1.ad h2.blk
  refine ⟨r, rfl, S', x', A', T', y, C, U, k1, ⟨?_, h2.tree.keep k8, k1.up, ?_, ?_, h2.len⟩, h3, ⟨k5, h4.2⟩, ⟨k2, h5.2⟩, h6, ⟨k6 _ h7.1 h9.size, h7.2⟩, ?_, h9.trans (k4.below h6.1 h7.1 h9.size)⟩
  · rw [k4.block tc htc (Ne.symm h3) hfar]; exact h2.blk
  · intro b i hs
    rcases k7 b i hs with g | ⟨c, gA, g1, g2⟩
    · exact h2.sub b i g
    · refine ⟨fun e => hfar _ _ _ gA e.symm, fun ab l' c' e hx => ?_⟩
      subst hx
      rcases h8 _ _ _ _ _ gA e with p | p
      · omega
      · omega
  · match C, h2 with
    | none, _ => trivial
    | some (b', l', c'), h2 =>
      obtain ⟨cur, q1, q2, q3, q4, q5⟩ := h2.ad
      have hne : b' ≠ tb := by
        have := far_text h2.ad h1.blk
        exact Ne.symm (this _ _ _ rfl)
      obtain ⟨cs', q6, q7⟩ := k4.shape b' cur 5 hne q1
      exact ⟨cs', q6, q2, by omega, by omega, q5⟩
  · rcases k9 with rfl | ⟨c, rfl, p1, p2, p3⟩ | ⟨c, rfl, p1⟩ | rfl
    · exact h8
    · intro b l cc l' c' e1 e2
      match A, h8, p1, p2, p3 with
      | some (b0, l0, c0), h8, p1, p2, p3 =>
        obtain ⟨cb, cl, ccap⟩ := c
        injection e1 with e1
        injection e1 with e1 e3
        injection e3 with e3 e4
        simp at p1 p2 p3
        subst e1; subst e3; subst e4
        have hA' := k1.ad
        obtain ⟨cur, _, r2, _⟩ := hA'
        rcases h8 b0 l0 c0 l' c' rfl (by rw [e2, p1]) with p | p
        · exfalso
          have : l0 < cl := p3
          omega
        · exact .inr p
    · intro b l cc l' c' e1 e2
      obtain ⟨cb, cl, ccap⟩ := c
      injection e1 with e1
      injection e1 with e1 e3
      subst e1
      exfalso
      have hC := h2.ad
      rw [e2] at hC
      obtain ⟨cur, q1, _⟩ := hC
      have := (Array.getElem?_eq_some_iff.1 q1).1
      simp at p1
      omega
    · intro b l cc l' c' e1 e2
      cases e1

def cpy : Option (Nat × Nat × Nat) → Option (Nat × Nat × Nat)
  | none => none
  | some (b, l, _) => some (b, l, l)
theorem cpy_slice (A : Option (Nat × Nat × Nat)) (w0 : World) (h : AdAt w0 A) : ∃ ao C, adv A = .slice ao (adl A) C ∧ ∀ w, (Instr.slice 44 (.slice ao (adl A) C) none (some (.int .i64 (adl A : Int))) (some (.int .i64 (adl A : Int)))).run Try.prog w = .ok (adv (cpy A)) w := by
  match A, h with
  | none, _ => exact ⟨none, 0, rfl, fun w => by simp only [adl, cpy, adv]; go_simp⟩
  | some (b, l, c), ⟨cur, _, h2, _⟩ =>
    refine ⟨some ⟨b, 0, none⟩, c, rfl, fun w => ?_⟩
    have h3 : (l : Int) ≤ (c : Int) := by omega
    simp only [adl, cpy, adv]
    go_simp

set_option maxRecDepth 100000 in
set_option maxHeartbeats 2000000 in
theorem copy_two {w w' : World} {tb : Nat} {r : ByteArray} {k : Nat} (h : Live w w' tb r k) :
    Calls Try.prog 14 #[.pointer (some ⟨tb, 0, none⟩)] w' fun e w2 => ∃ tc, e = .returned (.pointer (some ⟨tc, 0, none⟩)) ∧ Two w w2 tb tc r r := by
  obtain ⟨S, x, A, T, h1, h2, h3, h4, h5, h6, h7⟩ := h
  have c0 := h1.root
  have c1 : w'.cell? ⟨tb, 1, none⟩ = some (adv A) := by rw [cell_of_row w' tb 1 _ _ _ h1.blk]; rfl
  obtain ⟨ao, C, hadv, hsl⟩ := cpy_slice A w' h1.ad
  rw [hadv] at c1
  have htb : tb < w'.heap.size := (Array.getElem?_eq_some_iff.1 h1.blk).1
  have hfin : ∀ w2, w2 = (w'.drew.alloc (.cells #[.pointer x, adv (cpy A)] 54)) ∨ w2 = (w'.alloc (.cells #[.pointer x, adv (cpy A)] 54)).drew → Two w w2 tb w'.heap.size r r := by
    intro w2 hw2
    have hb : Below w'.heap.size w' w2 := by
      rcases hw2 with rfl | rfl
      · exact (Below.refl w'.heap.size w').drew.alloc (Nat.le_refl _) _
      · exact ((Below.refl w'.heap.size w').alloc (Nat.le_refl _) _).drew
    have hnew : w2.heap[w'.heap.size]? = some (.cells #[.pointer x, adv (cpy A)] 54 (0, 0)) := by
      rcases hw2 with rfl | rfl
      · exact heap_alloc_new w'.drew _
      · exact heap_alloc_new w' _
    have hsz : w2.heap.size = w'.heap.size + 1 := by
      rcases hw2 with rfl | rfl <;> simp
    have hk : Kp S (fun b i => S b i ∧ b ≠ w'.heap.size) w' w2 := fun b i u hs hc =>
      ⟨⟨hs, fun e => by have := World.block_lt_of_cell? w' _ hc; simp at this; omega⟩, hold hb hc⟩
    refine ⟨fun b i => S b i ∧ b ≠ w'.heap.size, x, A, T, x, cpy A, T, ⟨(h1.below hb).blk, h1.tree.keep hk, fun b i hbb => ⟨h1.up b i (by omega), by omega⟩, fun b i hs => h1.sub b i hs.1, h1.ad.below hb, h1.len⟩,
      ⟨hnew, h1.tree.keep hk, fun b i hbb => ⟨h1.up b i (by omega), by omega⟩, fun b i hs => ⟨hs.2, ?_⟩, ?_, h1.len⟩, by omega, ⟨h2, ?_⟩, ⟨h3, h3⟩, ⟨h5, h7.size⟩, ⟨h6, ?_⟩, ?_, h7.trans (hb.mono h7.size)⟩
    · intro ab l c e hx
      match A, e with
      | some (b0, l0, c0), e => simp [cpy] at e; omega
    · match A, h1 with
      | none, _ => trivial
      | some (b0, l0, c0), h1 =>
        obtain ⟨cur, q1, q2, q3, q4, q5⟩ := h1.ad.below hb
        exact ⟨cur, q1, Nat.le_refl _, by omega, q4, q5⟩
    · match A, h2 with
      | none, _ => simp [cpy, adl]
      | some (b0, l0, c0), h2 => exact h2
    · match A, h6 with
      | none, _ => trivial
      | some (b0, l0, c0), h6 => exact h6
    · intro b l c l' c' e1 e2
      match A, e1, e2 with
      | some (b0, l0, c0), e1, e2 => simp [cpy] at e2; right; omega
  have HF := boxed hfin
  have hL : adl A ≤ 262144 := h2
  clear hfin h1 h2 h3 h4 h5 h6 h7 hadv
  obtain ⟨vc, hvc⟩ : ∃ vc, adv (cpy A) = vc := ⟨_, rfl⟩
  rw [hvc] at hsl
  have hone : ∃ p l c, vc = .slice p l c := by
    rw [← hvc]
    match A with
    | none => exact ⟨_, _, _, rfl⟩
    | some (b0, l0, c0) => exact ⟨_, _, _, rfl⟩
  obtain ⟨vp, vl, vcap, rfl⟩ := hone
  rw [hvc] at HF
  clear hvc
  generalize adl A = L at *
  go_enter Try.func14, Try.ntmps14
  go_wp2_with fail
  go_region_held3 (fun w2 => w2.cell? ⟨tb, 0, none⟩ = some (.pointer x) ∧ w2.cell? ⟨tb, 1, none⟩ = some (.slice ao L C))
    (first | exact ⟨c0, c1⟩ | exact ⟨hold (((Below.refl _ w').alloc (Nat.le_refl _) _).drew) c0, hold (((Below.refl _ w').alloc (Nat.le_refl _) _).drew) c1⟩ | exact ⟨hold ((Below.refl _ w').drew.alloc (Nat.le_refl _) _) c0, hold ((Below.refl _ w').drew.alloc (Nat.le_refl _) _) c1⟩)
    (fail)
  go_wp2
  go_ret
  exact ⟨_, rfl, HF.out _ (by first | exact .inr rfl | exact .inl rfl)⟩
end Go.Proofs.Ytfikmlgmklnlaab
