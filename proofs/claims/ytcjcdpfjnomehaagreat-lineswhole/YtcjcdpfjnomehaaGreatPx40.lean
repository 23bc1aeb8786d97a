/-
  Plain facts on a paragraph's lines: where they begin and end is between runes; their texts, one behind the other, are the paragraph's, and their runs its styles; how high they are. No program in it but the numbers of its types.
-/
import Derived.Test.YtcjcdpfjnomehaaGreatPx39
import Derived.Test.YtcjcdpfjnomehaaGreatPx37
import Derived.Test.YtcjcdpfjnomehaaGreatPx15
import Derived.Test.YtcjcdpfjnomehaaGreatPx25
import Derived.Test.YtcjcdpfjnomehaaGreatPx6
import Derived.Test.YtcjcdpfjnomehaaGreatPx24
namespace Go.Proofs.YtcjcdpfjnomehaaGreat.It
open Go.RowKit
set_option linter.unusedSimpArgs false
set_option linter.unusedVariables false
theorem grow_fr {L : List Itm} {W t : Int} {x : Itm} (h : x ∈ grow L W t) : ∃ y ∈ L, x.fr = y.fr := by
  by_cases c : 0 < L.length
  · obtain ⟨A, z, rfl⟩ := snoc_of L c
    rw [grow_snoc] at h
    simp only [List.mem_append, List.mem_singleton] at h
    rcases h with h | h
    · exact ⟨x, by simp [h], rfl⟩
    · exact ⟨z, by simp, by rw [h]⟩
  · have : L = [] := List.eq_nil_of_length_eq_zero (by omega)
    subst this
    simp [grow] at h
theorem bxd_fr {L : List Itm} {sy W y f t : Int} {x : Itm} (h : x ∈ bxd L sy W y f t) : (∃ z ∈ L, x.fr = z.fr) ∨ x.fr = f := by
  unfold bxd at h
  split at h
  · exact .inl (grow_fr h)
  · simp only [List.mem_append, List.mem_singleton] at h
    rcases h with h | h
    · exact .inl ⟨x, h, rfl⟩
    · rw [h]; exact .inr rfl
theorem nx_fr {s : Sty} {L : List Itm} {sy r y f t : Int} {x : Itm} (h : x ∈ (nx s L sy r y f t).1) : (∃ z ∈ L, x.fr = z.fr) ∨ x.fr = f ∨ x.fr = t := by
  have one : ∀ z : Itm, z.fr = f → x ∈ L ++ [z] → (∃ z ∈ L, x.fr = z.fr) ∨ x.fr = f ∨ x.fr = t := by
    intro z hz h
    simp only [List.mem_append, List.mem_singleton] at h
    rcases h with h | h
    · exact .inl ⟨x, h, rfl⟩
    · rw [h, hz]; exact .inr (.inl rfl)
  unfold nx at h
  split at h
  · exact one _ rfl h
  split at h
  · exact one _ rfl h
  split at h
  · exact one _ rfl h
  split at h
  · exact one _ rfl h
  split at h
  · simp only [List.mem_append, List.mem_cons, List.not_mem_nil, or_false] at h
    rcases h with h | h | h
    · exact .inl ⟨x, h, rfl⟩
    · rw [h]; exact .inr (.inl rfl)
    · rw [h]; exact .inr (.inl rfl)
  split at h
  · simp only [List.mem_append, List.mem_singleton] at h
    rcases h with h | h
    · rcases bxd_fr h with h | h
      · exact .inl h
      · exact .inr (.inl h)
    · rw [h]; exact .inr (.inr rfl)
  · rcases bxd_fr h with h | h
    · exact .inl h
    · exact .inr (.inl h)
theorem bs_fr (F : Nat → Sty) (n : Nat) (t : ByteArray) (Y : Nat → Int) (k : Nat) : ∀ x ∈ (bs F n t Y k).1, ∃ j, j ≤ k ∧ x.fr = (it t j : Nat) := by
  induction k with
  | zero => intro x h; simp [bs] at h
  | succ k ih =>
    intro x h
    simp only [bs] at h
    rcases nx_fr h with ⟨z, hz, e⟩ | e | e
    · obtain ⟨j, hj, e2⟩ := ih z hz
      exact ⟨j, by omega, by rw [e, e2]⟩
    · exact ⟨k, by omega, e⟩
    · exact ⟨k + 1, by omega, e⟩
theorem fin_fr (F : Nat → Sty) (n : Nat) (t : ByteArray) (Y : Nat → Int) (N : Nat) (hN : Right t N) : ∀ x ∈ fin F n t Y N, ∃ j, j ≤ N ∧ x.fr = (it t j : Nat) := by
  intro x h
  unfold fin at h
  split at h
  · exact bs_fr F n t Y N x h
  · simp only [List.mem_append, List.mem_cons, List.not_mem_nil, or_false] at h
    rcases h with h | h | h
    · exact bs_fr F n t Y N x h
    · exact ⟨N, Nat.le_refl _, by rw [h, hN.2]; rfl⟩
    · exact ⟨N, Nat.le_refl _, by rw [h, hN.2]; rfl⟩
theorem mid_right (u : ByteArray) (N a b : Nat) (hu : Right u N) (hab : a ≤ b) (hb : b ≤ N) : Right (u.extract (it u a) (it u b)) (b - a) := by
  have h1 := (cut_right u N b hu hb).1
  have hle := it_le u b
  have hpK : ∀ j, j < b → 0 < (dc u (it u j)).2 := fun j hj => hu.1.1 j (by omega)
  have a1 := it_shift u (u.extract 0 (it u b)) 0 0 b rfl hpK (by
    intro i hi
    rw [Nat.zero_add, bt_ext u 0 (it u b) i hle, if_pos (by omega)]; simp)
  have hi : it (u.extract 0 (it u b)) a = it u a := by have := (a1 a hab).1; simpa using this
  have h2 := (cut_right _ b a h1 hab).2
  rw [hi, ext_size u 0 (it u b) hle] at h2
  have e : (u.extract 0 (it u b)).extract (it u a) (it u b - 0) = u.extract (it u a) (it u b) := by
    apply ByteArray.ext
    simp [ByteArray.data_extract]
  rw [e] at h2
  exact h2
theorem flt_high {s : Sty} (h : flt s = 0) : 1 ≤ s.h := by
  unfold flt at h
  by_cases c : msr s = true
  · unfold msr at c
    simp only [Bool.and_eq_true, decide_eq_true_eq] at c
    exact c.1.1.1.1.1.1.1
  · rw [if_neg c] at h; omega
theorem tal_pos (G : Nat → Sty) (n : Nat) (hg : ∀ i, i < n → flt (G i) = 0) (h0 : 0 < n) (L Y : Nat → Int) (m : Nat) : 1 ≤ talT G n L Y m := by
  have h1 : ∀ k, 0 ≤ tal G n L Y k := by
    intro k
    induction k with
    | zero => simp [tal]
    | succ k ih => simp only [tal]; split <;> omega
  have h2 := h1 m
  unfold talT
  split
  · rw [show (0 : Int) = ((0 : Nat) : Int) from rfl, ofS_in G n 0 h0]
    exact flt_high (hg 0 h0)
  · omega
end Go.Proofs.YtcjcdpfjnomehaaGreat.It
namespace Go.Proofs.YtcjcdpfjnomehaaGreat
open Go.RowKit
set_option linter.unusedSimpArgs false
set_option linter.unusedVariables false
section
variable {I : Nat → Itm} {n : Nat} {bs : List Nat} {t : ByteArray} {N : Nat}
theorem itls_fr (G : Nat → It.Sty) (ns : Nat) (t : ByteArray) (N m : Nat) (L Y : Nat → Int) (hN : It.Right t N) (i : Nat) (hi : i < (itls G ns t N m L Y).length) : ∃ j, j ≤ N ∧ (nth (itls G ns t N m L Y) i).fr = (It.it t j : Nat) := by
  have hm : nth (itls G ns t N m L Y) i ∈ itls G ns t N m L Y := by unfold nth; simp [List.getD_eq_getElem?_getD, hi]
  unfold itls at hm
  rw [List.mem_map] at hm
  obtain ⟨x, hx, e⟩ := hm
  obtain ⟨j, hj, e2⟩ := It.fin_fr _ _ _ _ _ hN x hx
  refine ⟨j, hj, ?_⟩
  rw [show itls G ns t N m L Y = (It.fin G ns t (fun a => It.sta L Y m 0 (a : Nat)) N).map toI from rfl, ← e, ← e2]
  rfl
theorem lnC_it (hN : It.Right t N) (hw : WB n bs) (hc : Chn I n t.size) (hI : ∀ i, i < n → ∃ j, j ≤ N ∧ (I i).fr = (It.it t j : Nat)) (i : Nat) (hi : i < bs.length) : ∃ j, j ≤ N ∧ lnC I n bs t.size i = It.it t j := by
  by_cases c : i + 1 < bs.length
  · obtain ⟨j, hj, e⟩ := hI _ (lnK_in (I := I) hw i c).2.2
    have := lnC_cut hw hc i c
    exact ⟨j, hj, by omega⟩
  · exact ⟨N, Nat.le_refl _, by rw [lnC_last i c, hN.2]⟩
theorem line_right (hN : It.Right t N) (hw : WB n bs) (hc : Chn I n t.size) (hI : ∀ i, i < n → ∃ j, j ≤ N ∧ (I i).fr = (It.it t j : Nat)) (i : Nat) (hi : i < bs.length) : ∃ M, It.Right (t.extract (lnF I n bs t.size i) (lnC I n bs t.size i)) M := by
  obtain ⟨j2, h2, e2⟩ := lnC_it hN hw hc hI i hi
  obtain ⟨j1, h1, e1⟩ : ∃ j, j ≤ N ∧ lnF I n bs t.size i = It.it t j := by
    cases i with
    | zero => exact ⟨0, Nat.zero_le _, by rw [lnF_zero]; rfl⟩
    | succ i => rw [lnF_next]; exact lnC_it hN hw hc hI i (by omega)
  have hle := (ln_le hw hc i hi).1
  rw [e1, e2] at hle ⊢
  have hj : j1 ≤ j2 := by
    by_cases c : j1 ≤ j2
    · exact c
    · have := It.it_mono t N hN.1.1 j2 j1 (by omega) h1; omega
  exact ⟨j2 - j1, It.mid_right t N j1 j2 hN hj h2⟩
theorem ext_list (t : ByteArray) (a b : Nat) : (t.extract a b).data.toList = (t.data.toList.take b).drop a := by
  rw [ByteArray.data_extract, Array.toList_extract]
  simp [List.extract, List.drop_take]
theorem cat_lines {F : Nat → Lne} (hw : WB n bs) (hc : Chn I n t.size) (hF : ∀ i, i < bs.length → (F i).tx = t.extract (lnF I n bs t.size i) (lnC I n bs t.size i)) (k : Nat) (hk : k ≤ bs.length) : catT F k = t.data.toList.take (lnF I n bs t.size k) := by
  induction k with
  | zero => rw [lnF_zero]; rfl
  | succ k ih =>
    have hle := (ln_le hw hc k (by omega)).1
    rw [catT, ih (by omega), hF k (by omega), ext_list, lnF_next]
    generalize lnF I n bs t.size k = a at *
    generalize lnC I n bs t.size k = b at *
    have e : List.take a t.data.toList = List.take a (List.take b t.data.toList) := by rw [List.take_take, Nat.min_eq_left hle]
    rw [e, List.take_append_drop]
theorem cat_whole {F : Nat → Lne} (hw : WB n bs) (hc : Chn I n t.size) (hF : ∀ i, i < bs.length → (F i).tx = t.extract (lnF I n bs t.size i) (lnC I n bs t.size i)) : (⟨(catT F bs.length).toArray⟩ : ByteArray) = t := by
  have hp := hw.pos
  obtain ⟨m, hm⟩ : ∃ m, bs.length = m + 1 := ⟨bs.length - 1, by omega⟩
  rw [cat_lines hw hc hF _ (Nat.le_refl _), hm, lnF_next, lnC_last m (by omega)]
  have : t.data.toList.length = t.size := by rw [Array.length_toList]; rfl
  rw [List.take_of_length_le (by omega)]
def rall (s : List Int) (I : Nat → Itm) (n : Nat) (bs : List Nat) (sz : Nat) : Nat → List (Nat × Int)
  | 0 => []
  | k + 1 => rall s I n bs sz k ++ Ru.enc (Ru.sub s (lnF I n bs sz k) (lnC I n bs sz k))
theorem rall_flat {s : List Int} (hw : WB n bs) (hc : Chn I n t.size) (hs : s.length = t.size) (k : Nat) (hk : k ≤ bs.length) : Ru.flat (rall s I n bs t.size k) = s.take (lnF I n bs t.size k) := by
  induction k with
  | zero => rw [lnF_zero]; rfl
  | succ k ih =>
    have hle := (ln_le hw hc k (by omega)).1
    rw [rall, Ru.flat_app, Ru.flat_enc, ih (by omega), lnF_next]
    generalize lnF I n bs t.size k = a at *
    generalize lnC I n bs t.size k = b at *
    unfold Ru.sub
    conv => rhs; rw [show b = a + (b - a) by omega, List.take_add]
theorem rall_whole {s : List Int} (hw : WB n bs) (hc : Chn I n t.size) (hs : s.length = t.size) : Ru.flat (rall s I n bs t.size bs.length) = s := by
  have hp := hw.pos
  obtain ⟨m, hm⟩ : ∃ m, bs.length = m + 1 := ⟨bs.length - 1, by omega⟩
  rw [rall_flat hw hc hs _ (Nat.le_refl _), hm, lnF_next, lnC_last m (by omega), ← hs, List.take_length]
theorem mem_sm (R : List (Nat × Int)) (p : Nat × Int) (h : p ∈ R) : p.1 ≤ Ru.sm R := by
  induction R with
  | nil => cases h
  | cons q r ih =>
    simp only [Ru.sm]
    rcases List.mem_cons.1 h with rfl | h
    · omega
    · have := ih h; omega
theorem rall_len {s : List Int} (hw : WB n bs) (hc : Chn I n t.size) (hs : s.length = t.size) (k : Nat) (hk : k ≤ bs.length) : (rall s I n bs t.size k).length ≤ lnF I n bs t.size k := by
  induction k with
  | zero => simp [rall]
  | succ k ih =>
    have h1 := ih (by omega)
    have hle := ln_le hw hc k (by omega)
    have h2 := Ru.enc_len (Ru.sub s (lnF I n bs t.size k) (lnC I n bs t.size k))
    rw [Ru.sub_len _ _ _ (by omega)] at h2
    rw [rall, List.length_append, lnF_next]
    omega
theorem rall_ok {s : List Int} (hw : WB n bs) (hc : Chn I n t.size) (hs : s.length = t.size) (hi : ∀ y ∈ s, Ru.I64 y) (k : Nat) (hk : k ≤ bs.length) : ∀ p ∈ rall s I n bs t.size k, p.1 ≤ t.size ∧ Ru.I64 p.2 := by
  induction k with
  | zero => intro p h; simp [rall] at h
  | succ k ih =>
    intro p h
    rw [rall, List.mem_append] at h
    rcases h with h | h
    · exact ih (by omega) p h
    · have hle := ln_le hw hc k (by omega)
      have h1 := mem_sm _ p h
      rw [Ru.sm_enc, Ru.sub_len _ _ _ (by omega)] at h1
      refine ⟨by omega, hi _ ?_⟩
      have h4 : p.2 ∈ Ru.flat (Ru.enc (Ru.sub s (lnF I n bs t.size k) (lnC I n bs t.size k))) := (Ru.mem_flat _ (Ru.can_enc _) _).2 ⟨p, h, rfl⟩
      rw [Ru.flat_enc] at h4
      exact Ru.sub_mem _ _ _ _ h4
theorem sm_take (R : List (Nat × Int)) (k : Nat) (h : k < R.length) : Ru.sm (R.take (k + 1)) = Ru.sm (R.take k) + (R.getD k (0, 0)).1 := by
  have e : R.take (k + 1) = R.take k ++ [R.getD k (0, 0)] := by
    rw [List.take_add_one]; simp [h]
  rw [e, Ru.sm_app]
  simp [Ru.sm]
theorem sm_take_le (R : List (Nat × Int)) (k : Nat) : Ru.sm (R.take k) ≤ Ru.sm R := by
  have := Ru.sm_app (R.take k) (R.drop k)
  rw [List.take_append_drop] at this
  omega
theorem hgt_pos {F : Nat → It.Sty} {ns : Nat} (hg : ∀ i, i < ns → It.flt (F i) = 0) (h0 : 0 < ns) {s : List Int} (hs : ∀ y ∈ s, 0 ≤ y ∧ y < (ns : Int)) (hne : 0 < s.length) (a b : Nat) : 1 ≤ hgt F ns s a b := by
  unfold hgt
  split
  · exact It.tal_pos F ns hg h0 _ _ _
  · have hm : s.getD (s.length - 1) 0 ∈ s := by
      have hl : s.length - 1 < s.length := by omega
      rw [List.getD_eq_getElem?_getD, List.getElem?_eq_getElem hl]
      exact List.getElem_mem hl
    have := hs _ hm
    unfold It.ofS
    rw [if_pos this]
    exact It.flt_high (hg _ (by omega))
theorem den_pos (s : Sm) (width : Int) : 1 ≤ (setF s width).den := by
  unfold setF
  split
  · simp
  · split
    · unfold stF
      split
      · simp
      · have := lo2_pos (width - s.w) s.st; simp only; omega
    · unfold shF
      split
      · simp [ovF]
      · have := lo2_pos (- -(width - s.w)) s.sh; simp only; omega
theorem crs_styles {t : ByteArray} {N n m : Nat} {L Y : Nat → Int} (h : It.crs t N n L Y m = 0) : ∀ k, k ≤ m → It.crs t N n L Y k = 0 ∧ ∀ i, i < k → 0 ≤ Y i ∧ Y i < (n : Int) := by
  have down : ∀ k, It.crs t N n L Y (k + 1) = 0 → It.crs t N n L Y k = 0 ∧ It.cr t N n L Y k = 0 := by
    intro k hk
    simp only [It.crs] at hk
    by_cases c : It.crs t N n L Y k = 0
    · rw [if_pos c] at hk; exact ⟨c, hk⟩
    · rw [if_neg c] at hk; exact absurd hk c
  have all : ∀ d k, k + d = m → It.crs t N n L Y k = 0 := by
    intro d
    induction d with
    | zero => intro k hk; obtain rfl : k = m := by omega
              exact h
    | succ d ih => intro k hk; exact (down k (ih (k + 1) (by omega))).1
  intro k hk
  refine ⟨all (m - k) k (by omega), fun i hi => ?_⟩
  have := (down i (all (m - (i + 1)) (i + 1) (by omega))).2
  unfold It.cr at this
  split at this
  · omega
  · split at this
    · assumption
    · omega
theorem exr_styles {n m : Nat} {L Y : Nat → Int} (h : ∀ i, i < m → 0 ≤ Y i ∧ Y i < (n : Int)) : ∀ y ∈ Ru.exr L Y m, 0 ≤ y ∧ y < (n : Int) := by
  induction m with
  | zero => intro y hy; simp [Ru.exr] at hy
  | succ m ih =>
    intro y hy
    simp only [Ru.exr, List.mem_append, List.mem_replicate] at hy
    rcases hy with hy | ⟨_, rfl⟩
    · exact ih (fun i hi => h i (by omega)) y hy
    · exact h m (by omega)
end
end Go.Proofs.YtcjcdpfjnomehaaGreat

/-
  A law of the walk: runs that lie anywhere, put behind runs of one's own.
-/
namespace Go.Proofs.YtcjcdpfjnomehaaGreat
open Go.RowKit
set_option linter.unusedSimpArgs false
set_option linter.unusedVariables false
def Stop (p : Prop) : Prop := p
set_option maxRecDepth 100000 in
theorem append_runs {w : World} {ops : Array Oper} {rest : List Oper} {o : Oper} {a : Act} {Q : Exit → Act → World → Prop} (hgd : o.guard = none) (s x : Operand)
    (ho : o.op = .call { callee := .builtin .append, args := #[s, x], argTypes := #[23, 23] })
    (base : Nat) (v : Value) (n : Nat) (xs : List Value) (hs : a.eval s = v) (hown : w.ownsRow base 61 2 v n xs)
    (S : Nat → Prop) (ao : Option Addr) (m c : Nat) (L Y : Nat → Int) (R : List (Nat × Int)) (hx : a.eval x = .slice ao m c) (hp : Ru.P2At S w ao m L Y) (hR : R.length = m) (hL : ∀ j, j < m → L j = ((R.getD j (0, 0)).1 : Nat) ∧ Y j = Ru.Ys R j)
    (h63 : n + m ≤ 100000) (hbase : base ≤ w.heap.size)
    (h : ∀ v' w', w'.ownsRow base 61 2 v' (n + m) (xs ++ Ru.rcs R) → w.grownBy w' v.ownBlock → wpList Tryz.prog ops Q rest (a.put o.dst v') w') : wpList Tryz.prog ops Q (o :: rest) a w := by
  obtain ⟨i0, hi, hz0, hz1, hz2⟩ := info_parts Ru.info_run
  cases ao with
  | none =>
    have hm : m = 0 := by
      by_cases c : m = 0
      · exact c
      · obtain ⟨b, off, e, -⟩ := hp.form (by omega)
        cases e
    subst hm
    obtain rfl : R = [] := List.eq_nil_of_length_eq_zero hR
    refine wpList_plain hgd fun K hK => ?_
    have hrun := Ru.run_append_nothing (P := Tryz.prog) (w := w) base 23 o.type 61 i0 2 c Tryz.underlying23 hi v n xs hown
    unfold Oper.wp
    simp [execOp, ho, resolve, invoke, builtin, hs, hx, hrun, Result.andThen]
    exact hK _ _ (h v w (by simpa [Ru.rcs] using hown) (World.grownBy.refl _ _))
  | some ad =>
    refine wpList_append_own _ hgd s x 23 ho base 61 i0 _ 2 16 Tryz.underlying23 hi hz0 hz1 hz2 rfl (by decide) v n xs hs hown ad m c (Ru.rcs R) hx (by rw [Ru.rcs_len, hR]) ?_ (Ru.rcs_one R) (by unfold maxLen; omega) (by omega) hbase (fun v' w' h2 h3 _ => h v' w' h2 h3)
    intro j u hj
    have hl : j < (Ru.rcs R).length := (List.getElem?_eq_some_iff.1 hj).1
    rw [Ru.rcs_len] at hl
    obtain ⟨p1, p2⟩ := Ru.rcs_get R (j / 2) (by omega)
    obtain ⟨e1, e2⟩ := hL (j / 2) (by omega)
    obtain ⟨-, b, off, e, -, c0, c1⟩ := hp (j / 2) (by omega)
    injection e with e
    subst e
    rw [Addr.add_lit]
    by_cases hpp : j % 2 = 0
    · have ej : j = j / 2 * 2 := by omega
      rw [← ej] at p1 c0
      rw [hj] at p1
      rw [c0, p1, e1]
    · have ej : j = j / 2 * 2 + 1 := by omega
      rw [Nat.add_assoc, ← ej] at c1
      rw [← ej] at p2
      rw [hj] at p2
      rw [c1, p2, e2]
end Go.Proofs.YtcjcdpfjnomehaaGreat
