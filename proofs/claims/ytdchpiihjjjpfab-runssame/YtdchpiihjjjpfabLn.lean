/-
  What the document's Many and three answer: so many of one style; lists one behind the other.
-/
import Derived.Test.YtdchpiihjjjpfabLb
import Derived.Laws.AppendOwnNone
namespace Go.Proofs.Ytdchpiihjjjpfab
open Go.RowKit
set_option linter.unusedSimpArgs false
set_option linter.unusedVariables false

theorem info_int : (Try.prog.info? 3).map (fun i => (i.zero, i.size, i.bytes)) = some (some (.int .i64 0), 1, 8) := by kernel_rfl
def ints (s : List Int) : List Value := s.map (Value.int .i64)
theorem ints_len (s : List Int) : (ints s).length = s.length := by simp [ints]
theorem ints_app (s t : List Int) : ints (s ++ t) = ints s ++ ints t := by simp [ints]
theorem ints_get (s : List Int) (j : Nat) (h : j < s.length) : (ints s)[j]? = some (.int .i64 (s.getD j 0)) := by simp [ints, h]
theorem ints_one (s : List Int) : ∀ u ∈ ints s, u.oneCell' = true := by
  intro u hu
  obtain ⟨x, _, rfl⟩ := List.mem_map.1 hu
  rfl
theorem rows_below {w w' : World} {B e size n : Nat} {v : Value} {xs : List Value} (h : w.ownsRow B e size v n xs) (hb : Below w.heap.size w w') : w'.ownsRow B e size v n xs :=
  h.kept (row := none) ⟨hb.os, hb.tape, hb.output, hb.size, fun k hk _ => hb.block k hk⟩ (by cases hv : v.ownBlock <;> simp)
theorem owns_ge {w : World} {B e size n : Nat} {v : Value} {xs : List Value} (h : w.ownsRow B e size v n xs) : ∀ r, v.ownBlock = some r → B ≤ r := fun r e => (h.lt r e).1
theorem rows_form {w : World} {base size n : Nat} {e : TypeId} {v : Value} {xs : List Value} (h : w.ownsRow base e size v n xs) (hn : v ≠ .slice none 0 0) : ∃ g cap, v = .slice (some ⟨g, 0, none⟩) n cap := by
  rcases h.2 with ⟨h1, h2⟩ | ⟨g, cap, cur, h1, _⟩
  · exact absurd h1 hn
  · exact ⟨g, cap, h1⟩
/-- A slice that is not nil has these numbers. -/
def IsI (w : World) (so : Option Addr) (s : List Int) : Prop := ∃ ad, so = some ad ∧ ∀ j u, (ints s)[j]? = some u → w.cell? (ad.add j) = some u
theorem IsI.below {w w' : World} {so : Option Addr} {s : List Int} (h : IsI w so s) (hb : Below w.heap.size w w') : IsI w' so s := by
  obtain ⟨ad, e, h⟩ := h
  exact ⟨ad, e, fun j u hj => hold hb (h j u hj)⟩

set_option maxRecDepth 100000 in
set_option maxHeartbeats 2000000 in
theorem many_any (m : Nat) (st : Int) (w : World) (hm : m ≤ 65536) : Calls Try.prog 25 #[.int .i64 (m : Nat), .int .i64 st] w fun e w' => ∃ g cap, e = .returned (.slice (some ⟨g, 0, none⟩) m cap) ∧ w'.ownsRow w.heap.size 3 1 (.slice (some ⟨g, 0, none⟩) m cap) m (ints (List.replicate m st)) ∧ Below w.heap.size w w' := by
  obtain ⟨i0, hi, hz0, hz1, hz2⟩ := info_parts info_int
  go_enter Try.func25, Try.ntmps25
  go_wp2_with (at_make; refine wpList_make_full _ rfl _ _ 31 rfl w.heap.size 3 i0 (.int .i64 0) 1 Try.underlying31 hi hz0 hz1 .i64 .i64 _ _ m rfl rfl (by omega) (by omega) (by rw [hz2]; omega) (by unfold maxLen; omega) (Nat.le_refl _) ?_)
  intro w1 hown hgrow
  have hb1 : Below w.heap.size w w1 := ⟨hgrow.os, hgrow.tape, hgrow.output, hgrow.size, fun k hk => hgrow.block k hk (by simp)⟩
  have HO : Box (w1.ownsRow w.heap.size 3 1 (.slice (some ⟨w.heap.size, 0, none⟩) m m) m (ints (List.replicate 0 st ++ List.replicate (m - 0) 0))) := boxed (by
    rw [toList_madeCells_one] at hown
    simpa [ints] using hown)
  have HB := boxed hb1
  clear hown hgrow hb1
  go_wp2_with fail
  go_loopw [6] (fun vi wr => ∃ k : Nat, k ≤ m ∧ vi = .int .i64 (k : Nat) ∧ Box (wr.ownsRow w.heap.size 3 1 (.slice (some ⟨w.heap.size, 0, none⟩) m m) m (ints (List.replicate k st ++ List.replicate (m - k) 0))) ∧ Box (Below w.heap.size w wr)) (fun vi _ => m - (intOf vi).toNat)
  case atStart => exact ⟨0, Nat.zero_le _, rfl, HO, HB⟩
  case round =>
    obtain ⟨k, hk, rfl, HOk, HBk⟩ := hrel
    by_cases hkm : k < m
    · obtain ⟨u0, hx0⟩ : ∃ u0, wr.cell? ⟨w.heap.size, k, none⟩ = some u0 := by
        rw [HOk.out.cellAt k (by omega), List.getElem?_eq_getElem (by have := HOk.out.1; omega)]; exact ⟨_, rfl⟩
      have hf0 := HOk.out.frozenAt k
      have hst := HOk.out.stored k (.int .i64 st)
      have HO2 : Box ((wr.setCell ⟨w.heap.size, k, none⟩ (.int .i64 st)).ownsRow w.heap.size 3 1 (.slice (some ⟨w.heap.size, 0, none⟩) m m) m (ints (List.replicate (k + 1) st ++ List.replicate (m - (k + 1)) 0))) := boxed (by
        have e : (ints (List.replicate k st ++ List.replicate (m - k) 0)).set k (.int .i64 st) = ints (List.replicate (k + 1) st ++ List.replicate (m - (k + 1)) 0) := by
          obtain ⟨d, hd⟩ : ∃ d, m - k = d + 1 := ⟨m - k - 1, by omega⟩
          rw [show m - (k + 1) = d from by omega, hd, List.replicate_succ' (n := k)]
          simp [ints, List.set_append_right, List.replicate_succ]
        rw [← e]; exact hst.1)
      have HB2 : Box (Below w.heap.size w (wr.setCell ⟨w.heap.size, k, none⟩ (.int .i64 st))) := boxed (HBk.out.setCell (p := ⟨w.heap.size, k, none⟩) (Nat.le_refl _) _)
      clear hst HOk HBk
      go_wp2
      go_roundw
      case rel => exact ⟨k + 1, by omega, by go_num, HO2, HB2⟩
      case measure => simp [intOf]; omega
    · obtain rfl : k = m := by omega
      go_wp2
      go_ret
      exact ⟨w.heap.size, k, rfl, by simpa using HOk.out, HBk.out⟩

set_option maxRecDepth 100000 in
set_option maxHeartbeats 2000000 in
theorem three_any (w : World) (a b c : List Int) (oa oc : Addr) (ca cb cc : Nat) (ob : Option Addr) (ha : ∀ j u, (ints a)[j]? = some u → w.cell? (oa.add j) = some u) (hc : ∀ j u, (ints c)[j]? = some u → w.cell? (oc.add j) = some u) (hb : (ob = none ∧ b = [] ∧ cb = 0) ∨ ∃ ad, ob = some ad ∧ ∀ j u, (ints b)[j]? = some u → w.cell? (ad.add j) = some u)
    (hl : a.length + b.length + c.length ≤ 1048576) : Calls Try.prog 36 #[.slice (some oa) a.length ca, .slice ob b.length cb, .slice (some oc) c.length cc] w fun e w' =>
      ∃ g cap, e = .returned (.slice (some ⟨g, 0, none⟩) (a ++ b ++ c).length cap) ∧ w'.ownsRow w.heap.size 3 1 (.slice (some ⟨g, 0, none⟩) (a ++ b ++ c).length cap) (a ++ b ++ c).length (ints (a ++ b ++ c)) ∧ Below w.heap.size w w' := by
  obtain ⟨i0, hi, hz0, hz1, hz2⟩ := info_parts info_int
  have hmk := World.ownsRow_made (base := w.heap.size) (e := 3) (size := 1) w #[] 0 (Nat.le_refl _) (by unfold maxLen; omega) (by simp)
  have HA := boxed ha
  have HC := boxed hc
  have hb0 : Below w.heap.size w (w.alloc (.cells #[] 3)) := (Below.refl _ _).alloc (Nat.le_refl _) _
  obtain ⟨W0, hW0⟩ : ∃ W0, w.alloc (.cells #[] 3) = W0 := ⟨_, rfl⟩
  rw [hW0] at hmk hb0
  have HB0 := boxed hb0
  have hz0' := hb0.size
  clear ha hc hb0
  rcases hb with ⟨rfl, rfl, rfl⟩ | ⟨ob, rfl, hbb⟩
  · have HF : Box (∀ (v : Value) (W : World), W.ownsRow w.heap.size 3 1 v (a.length + c.length) (ints a ++ ints c) → W.ownsRow w.heap.size 3 1 v (a ++ [] ++ c).length (ints (a ++ [] ++ c))) := boxed (fun v W h => by simpa [ints] using h)
    have HN : Box (0 + a.length + c.length = (a ++ [] ++ c).length) := boxed (by simp)
    simp only [List.length_nil]
    go_enter Try.func36, Try.ntmps36
    go_wp2_with (at_builtin; refine wpList_append_own _ rfl _ _ 31 rfl w.heap.size 3 i0 _ 1 8 Try.underlying31 hi hz0 hz1 hz2 rfl (by decide) _ _ _ rfl hmk oa a.length ca (ints a) rfl (by rw [ints_len]; omega) (fun j u h => hold HB0.out (HA.out j u h)) (ints_one a) (by unfold maxLen; omega) (by omega) (by omega) ?_)
    intro v1 w1 hown1 hg1 hn1
    have hv1 : v1 ≠ .slice none 0 0 := by first | exact hn1 | exact fun e => (by have := (hn1.1 e).1; simp at this)
    have HB1 : Box (Below w.heap.size w w1) := boxed (HB0.out.grown hg1 (by omega) (fun r e => by simp [Value.ownBlock] at e; omega))
    clear hn1 hg1
    try simp only [Nat.zero_add, List.nil_append] at hown1
    obtain ⟨g1, k1, rfl⟩ := rows_form hown1 hv1
    go_wp2_with (first | (at_builtin; refine wpList_append_own_none rfl (.tmp 11) (.tmp 12) 31 rfl w.heap.size 3 i0 1 Try.underlying31 hi _ _ _ rfl hown1 rfl ?_) | (at_builtin; refine wpList_append_own _ rfl (.tmp 14) (.tmp 15) 31 rfl w.heap.size 3 i0 _ 1 8 Try.underlying31 hi hz0 hz1 hz2 rfl (by decide) _ _ _ rfl hown1 oc c.length cc (ints c) rfl (by rw [ints_len]; omega) (fun j u h => hold HB1.out (HC.out j u h)) (ints_one c) (by unfold maxLen; omega) (by omega) (by have := HB1.out.size; omega) ?_))
    intro v3 w3 hown3 hg3 hn3
    have hv3 : v3 ≠ .slice none 0 0 := by first | exact hn3 | exact fun e => hv1 (hn3.1 e).1
    have HB3 : Box (Below w.heap.size w w3) := boxed (HB1.out.grown hg3 HB1.out.size (fun r e => (owns_ge hown1 r e)))
    have HO := boxed (HF.out v3 w3 hown3)
    obtain ⟨g, cap, hv⟩ := rows_form HO.out hv3
    clear hown3 hown1 hg3 hn3 hmk
    subst hv
    go_wp2
    go_ret
    exact ⟨g, cap, rfl, HO.out, HB3.out⟩
  · have HBB := boxed hbb
    clear hbb
    have HF : Box (∀ (v : Value) (W : World), W.ownsRow w.heap.size 3 1 v (a.length + b.length + c.length) (ints a ++ (ints b ++ ints c)) → W.ownsRow w.heap.size 3 1 v (a ++ b ++ c).length (ints (a ++ b ++ c))) := boxed (fun v W h => by simpa [ints, Nat.add_assoc] using h)
    go_enter Try.func36, Try.ntmps36
    go_wp2_with (at_builtin; refine wpList_append_own _ rfl _ _ 31 rfl w.heap.size 3 i0 _ 1 8 Try.underlying31 hi hz0 hz1 hz2 rfl (by decide) _ _ _ rfl hmk oa a.length ca (ints a) rfl (by rw [ints_len]; omega) (fun j u h => hold HB0.out (HA.out j u h)) (ints_one a) (by unfold maxLen; omega) (by omega) (by omega) ?_)
    intro v1 w1 hown1 hg1 hn1
    have hv1 : v1 ≠ .slice none 0 0 := by first | exact hn1 | exact fun e => (by have := (hn1.1 e).1; simp at this)
    have HB1 : Box (Below w.heap.size w w1) := boxed (HB0.out.grown hg1 (by omega) (fun r e => by simp [Value.ownBlock] at e; omega))
    clear hn1 hg1
    try simp only [Nat.zero_add, List.nil_append] at hown1
    obtain ⟨g1, k1, rfl⟩ := rows_form hown1 hv1
    go_wp2_with (at_builtin; refine wpList_append_own _ rfl _ _ 31 rfl w.heap.size 3 i0 _ 1 8 Try.underlying31 hi hz0 hz1 hz2 rfl (by decide) _ _ _ rfl hown1 ob b.length cb (ints b) rfl (by rw [ints_len]; omega) (fun j u h => hold HB1.out (HBB.out j u h)) (ints_one b) (by unfold maxLen; omega) (by omega) (by have := HB1.out.size; omega) ?_)
    intro v2 w2 hown2 hg2 hn2
    have hv2 : v2 ≠ .slice none 0 0 := by first | exact hn2 | exact fun e => hv1 (hn2.1 e).1
    have HB2 : Box (Below w.heap.size w w2) := boxed (HB1.out.grown hg2 HB1.out.size (fun r e => (owns_ge hown1 r e)))
    clear hn2 hg2 hown1
    obtain ⟨g2, k2, rfl⟩ := rows_form hown2 hv2
    go_wp2_with (at_builtin; refine wpList_append_own _ rfl _ _ 31 rfl w.heap.size 3 i0 _ 1 8 Try.underlying31 hi hz0 hz1 hz2 rfl (by decide) _ _ _ rfl hown2 oc c.length cc (ints c) rfl (by rw [ints_len]; omega) (fun j u h => hold HB2.out (HC.out j u h)) (ints_one c) (by unfold maxLen; omega) (by omega) (by have := HB2.out.size; omega) ?_)
    intro v3 w3 hown3 hg3 hn3
    have hv3 : v3 ≠ .slice none 0 0 := by first | exact hn3 | exact fun e => hv2 (hn3.1 e).1
    have HB3 : Box (Below w.heap.size w w3) := boxed (HB2.out.grown hg3 HB2.out.size (fun r e => (owns_ge hown2 r e)))
    have HO := boxed (HF.out v3 w3 hown3)
    obtain ⟨g, cap, hv⟩ := rows_form HO.out hv3
    clear hown3 hown2 hg3 hn3 hmk
    subst hv
    go_wp2
    go_ret
    exact ⟨g, cap, rfl, HO.out, HB3.out⟩

/-- Where what is behind a place begins. -/
def bkA (b off cap k : Nat) : Addr := if cap = k then ⟨b, off, none⟩ else ⟨b, off + k, none⟩
theorem sl_front (b off N cap k : Nat) (h : k ≤ N) (hc : N ≤ cap) (wx : World) : (Instr.slice 31 (.slice (some ⟨b, off, none⟩) N cap) none (some (.int .i64 (k : Nat))) none).run Try.prog wx = .ok (.slice (some ⟨b, off, none⟩) k cap) wx := by
  have h2 : (0 : Int) ≤ (k : Int) := by omega
  simp [Instr.slice, Instr.sliceBounds, Instr.sliceBound, asIntOf, run_underlying Try.underlying31, go_sem, h2]
  intro h3
  omega
theorem sl_back (b off N cap k : Nat) (h : k ≤ N) (hc : N ≤ cap) (wx : World) : (Instr.slice 31 (.slice (some ⟨b, off, none⟩) N cap) (some (.int .i64 (k : Nat))) none none).run Try.prog wx = .ok (.slice (some (bkA b off cap k)) (N - k) (cap - k)) wx := by
  have h2 : (0 : Int) ≤ (k : Int) := by omega
  simp [Instr.slice, Instr.sliceBounds, Instr.sliceBound, asIntOf, run_underlying Try.underlying31, go_sem, h2, h]
  unfold bkA
  split <;> rfl
theorem front_cells {w : World} {b off : Nat} {s : List Int} (h : ∀ i, i < s.length → w.cell? ⟨b, off + i, none⟩ = some (.int .i64 (s.getD i 0))) (k : Nat) (hk : k ≤ s.length) : ∀ j u, (ints (s.take k))[j]? = some u → w.cell? ((⟨b, off, none⟩ : Addr).add j) = some u := by
  intro j u hj
  have hl : j < (s.take k).length := by
    have := (List.getElem?_eq_some_iff.1 hj).1
    rwa [ints_len] at this
  rw [ints_get _ j hl] at hj
  injection hj with hj
  rw [Addr.add_lit, h j (by simp at hl; omega), ← hj]
  simp at hl
  have hl2 : j < k := by omega
  simp [List.getD, List.getElem?_take, hl2]
theorem back_cells {w : World} {b off cap : Nat} {s : List Int} (h : ∀ i, i < s.length → w.cell? ⟨b, off + i, none⟩ = some (.int .i64 (s.getD i 0))) (k : Nat) (hk : k ≤ s.length) (hc : s.length ≤ cap) : ∀ j u, (ints (s.drop k))[j]? = some u → w.cell? ((bkA b off cap k).add j) = some u := by
  intro j u hj
  have hl : j < (s.drop k).length := by
    have := (List.getElem?_eq_some_iff.1 hj).1
    rwa [ints_len] at this
  rw [ints_get _ j hl] at hj
  injection hj with hj
  simp at hl
  unfold bkA
  rw [if_neg (by omega), Addr.add_lit, Nat.add_assoc, h (k + j) (by omega), ← hj]
  simp [List.getD, List.getElem?_drop]
theorem row_cells {w : World} {B g cap n : Nat} {s : List Int} (h : w.ownsRow B 3 1 (.slice (some ⟨g, 0, none⟩) n cap) n (ints s)) : ∀ j u, (ints s)[j]? = some u → w.cell? ((⟨g, 0, none⟩ : Addr).add j) = some u := h.cells rfl
theorem three_at (w : World) (a b c : List Int) (na nb nc : Nat) (ea : a.length = na) (eb : b.length = nb) (ec : c.length = nc) (oa oc : Addr) (ca cb cc : Nat) (ob : Option Addr) (ha : ∀ j u, (ints a)[j]? = some u → w.cell? (oa.add j) = some u) (hc : ∀ j u, (ints c)[j]? = some u → w.cell? (oc.add j) = some u) (hb : (ob = none ∧ b = [] ∧ cb = 0) ∨ ∃ ad, ob = some ad ∧ ∀ j u, (ints b)[j]? = some u → w.cell? (ad.add j) = some u)
    (hl : na + nb + nc ≤ 1048576) : Calls Try.prog 36 #[.slice (some oa) na ca, .slice ob nb cb, .slice (some oc) nc cc] w fun e w' =>
      ∃ g cap, e = .returned (.slice (some ⟨g, 0, none⟩) (a ++ b ++ c).length cap) ∧ w'.ownsRow w.heap.size 3 1 (.slice (some ⟨g, 0, none⟩) (a ++ b ++ c).length cap) (a ++ b ++ c).length (ints (a ++ b ++ c)) ∧ Below w.heap.size w w' := by
  subst ea; subst eb; subst ec
  exact three_any w a b c oa oc ca cb cc ob ha hc hb hl
end Go.Proofs.Ytdchpiihjjjpfab
