/-
  Items put behind others, as one law of the walk; line ends and runes; what the document's fill answers.
-/
import Derived.Test.YteckbkcngkppmaaJm
import Derived.Test.YteckbkcngkppmaaJr
namespace Go.Proofs.Yteckbkcngkppmaa
open Go.RowKit
set_option linter.unusedSimpArgs false
set_option linter.unusedVariables false

theorem wpList_append_items {w : World} {ops : Array Oper} {rest : List Oper} {o : Oper} {a : Act} {Q : Exit → Act → World → Prop} (hgd : o.guard = none) (s x : Operand)
    (ho : o.op = .call { callee := .builtin .append, args := #[s, x], argTypes := #[28, 28] })
    (B : Nat) (v : Value) (L : List Itm) (hs : a.eval s = v) (hown : w.ownsRow B 40 9 v L.length (ics L)) (Xs : List Itm) (b m c : Nat) (hm : Xs.length = m) (hx : a.eval x = .slice (some ⟨b, 0, none⟩) m c)
    (cs : Array Value) (hblk : w.heap[b]? = some (.cells cs 40 (0, 0))) (hcs : cs.toList = ics Xs) (hL : L.length ≤ 1048576) (hX : m ≤ 1048576) (hB : B ≤ w.heap.size)
    (h : ∀ v' w', w'.ownsRow B 40 9 v' (L ++ Xs).length (ics (L ++ Xs)) → Below B w w' → wpList Try.prog ops Q rest (a.put o.dst v') w') : wpList Try.prog ops Q (o :: rest) a w := by
  obtain ⟨i0, hi, hz0, hz1, hz2⟩ := info_parts info_item
  refine wpList_append_own _ hgd s x 28 ho B 40 i0 _ 9 72 Try.underlying28 hi hz0 hz1 hz2 rfl (by decide) v L.length (ics L) hs hown ⟨b, 0, none⟩ m c (ics Xs) hx (by rw [ics_len, hm]) ?_ (ics_cell Xs) (by unfold maxLen; omega) (by omega) hB ?_
  · intro j u hj
    rw [Addr.add_lit, Nat.zero_add, row_cell hblk, ← hj, ← hcs]
    simp
  · intro v' w' h1 h2 _
    refine h v' w' ?_ ((Below.refl B w).grown h2 hB (fun r hr => (hown.lt r hr).1))
    rw [List.length_append, ics_app, hm]
    exact h1

/-- What follows where there is no fault. -/
theorem ck_zero {t : ByteArray} {N n m : Nat} {Ln Ys : Nat → Int} (hN : Cnt t N) (hz : ck t N n m Ln Ys = 0) : Right t N ∧ 0 < t.size ∧ early t = false ∧ crs t N n Ln Ys m = 0 ∧ pre Ln m = (t.size : Int) := by
  have hbad : badAt t N < 0 := by
    by_cases c : badAt t N < 0
    · exact c
    · unfold ck at hz; rw [if_neg c] at hz; omega
  have h0 : ¬ (t.size = 0 ∨ early t = true) := by
    intro c
    unfold ck at hz; rw [if_pos hbad, if_pos c] at hz; omega
  have hcrs : crs t N n Ln Ys m = 0 ∧ pre Ln m = (t.size : Int) := by
    unfold ck at hz
    rw [if_pos hbad, if_neg h0] at hz
    split at hz
    · split at hz
      · rename_i c2 c3; exact ⟨c2, c3⟩
      · omega
    · rename_i c2; exact absurd hz c2
  refine ⟨right_of t N hN hbad, by omega, ?_, hcrs⟩
  cases e : early t with
  | false => rfl
  | true => exact absurd (Or.inr e) h0

theorem own_mono {w : World} {B C e size n : Nat} {v : Value} {xs : List Value} (h : w.ownsRow B e size v n xs) (hc : C ≤ B) : w.ownsRow C e size v n xs := by
  refine ⟨h.1, ?_⟩
  rcases h.2 with h2 | ⟨g, cap, cur, h1, h2, h3⟩
  · exact .inl h2
  · exact .inr ⟨g, cap, cur, h1, by omega, h3⟩
theorem run_of (Ln : Nat → Int) (m : Nat) (a : Int) (h1 : 0 ≤ a) (h2 : a < pre Ln m) : ∃ j, j < m ∧ pre Ln j ≤ a ∧ a < pre Ln (j + 1) := by
  induction m with
  | zero => simp [pre] at h2; omega
  | succ m ih =>
    by_cases c : a < pre Ln m
    · obtain ⟨j, hj, h3⟩ := ih c
      exact ⟨j, by omega, h3⟩
    · exact ⟨m, by omega, by omega, h2⟩
theorem kd_8 (r : Int) : kd r = 8 ↔ r = 10 := by
  constructor
  · intro h
    unfold kd at h
    repeat' split at h
    all_goals first | assumption | omega
  · intro h; subst h; rfl
theorem rune_nl (t : ByteArray) (N j : Nat) (hN : Cnt t N) (hj : j < N) (h : rn t j = 10) : bt t (it t j) = 10 ∧ it t (j + 1) = it t j + 1 := by
  have hp := hN.1 j hj
  have e : it t (j + 1) = it t j + (dc t (it t j)).2 := rfl
  unfold rn at h
  unfold dc at hp h e
  rcases dec_cases (bt t (it t j)) (bt t (it t j + 1)) (bt t (it t j + 2)) (bt t (it t j + 3)) with ⟨q, e'⟩ | ⟨q, e'⟩ | ⟨q, e'⟩ | ⟨q, e'⟩ | e' <;> rw [e'] at hp h e <;> simp at hp h e
  · exact ⟨h, e⟩
  · omega
  · omega
  · omega
theorem nl_rune (t : ByteArray) (N i : Nat) (hN : Right t N) (hi : i < t.size) (h : bt t i = 10) : ∃ j, j < N ∧ it t j = i ∧ rn t j = 10 := by
  have hx : Rd.ins (bt t i : Int) = false := by rw [h]; decide
  obtain ⟨j, hj, e⟩ := (ins_begin t N hN i hi).1 hx
  refine ⟨j, hj, e, ?_⟩
  unfold rn dc
  rw [e, h, dec1 (by omega)]
/-- A line end ends the text. -/
theorem nl_last (t : ByteArray) (N j : Nat) (hN : Right t N) (he : early t = false) (hj : j < N) (h : rn t j = 10) : j + 1 = N ∧ bt t (t.size - 1) = 10 := by
  obtain ⟨h1, h2⟩ := rune_nl t N j hN.1 hj h
  have hlt : it t j < t.size := by
    by_cases c : it t j < t.size
    · exact c
    · rw [bt_out t _ c] at h1; omega
  have hl : it t j = t.size - 1 := by
    by_cases c : it t j < t.size - 1
    · have := (early_iff t).2 ⟨it t j, c, h1⟩
      rw [he] at this; cases this
    · omega
  refine ⟨?_, by rw [← hl]; exact h1⟩
  exact it_inj t N hN (j + 1) N (by omega) (Nat.le_refl _) (by rw [h2, hN.2]; omega)
theorem nl_none (t : ByteArray) (N : Nat) (hN : Right t N) (h0 : 0 < t.size) (h : ∀ j, j < N → rn t j ≠ 10) : bt t (t.size - 1) ≠ 10 := by
  intro c
  obtain ⟨j, hj, _, e⟩ := nl_rune t N (t.size - 1) hN (by omega) c
  exact h j hj e

set_option maxRecDepth 100000 in
set_option maxHeartbeats 1000000 in
theorem reffill_any (f g : Int) (w : World) : Calls Try.prog 33 #[.int .i64 f, .int .i64 g] w fun e w' => ∃ b cs, e = .returned (.slice (some ⟨b, 0, none⟩) 2 2) ∧ w'.heap[b]? = some (.cells cs 40 (0, 0)) ∧ cs.toList = ics [flI f, pnI 0 (-10000) false f g] ∧ Below w.heap.size w w' := by
  go_enter Try.func33, Try.ntmps33
  go_wp2
  go_ret
  exact ⟨w.heap.size, _, rfl, heap_alloc_new _ _, rfl, by go_grown⟩
end Go.Proofs.Yteckbkcngkppmaa
