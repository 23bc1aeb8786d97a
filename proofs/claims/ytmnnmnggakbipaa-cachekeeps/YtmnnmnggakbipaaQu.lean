/-
  The document's entries as they lie in memory; what its Find and front answer.
-/
import Derived.Test.YtmnnmnggakbipaaQt
import Derived.Test.YtmnnmnggakbipaaQg
namespace Go.Proofs.Ytmnnmnggakbipaa
open Go.RowKit
set_option linter.unusedSimpArgs false
set_option linter.unusedVariables false

/-- An entry of the document. -/
structure Re where
  k : Kv
  v : Int
def Re.cells (e : Re) : List Value := [.string e.k.tx, .slice e.k.ra e.k.rn e.k.rc, .int .i64 e.k.ta, .int .i64 e.k.wd, .int .i64 e.k.s.t, .int .i64 e.k.s.l, .int .i64 e.k.s.a, .int .i64 e.k.s.d, .int .i64 e.k.s.z, .int .i64 e.k.s.o, .int .i64 e.k.s.i, .int .i64 e.v]
def Re.val (e : Re) : Value := .agg #[.string e.k.tx, .slice e.k.ra e.k.rn e.k.rc, .int .i64 e.k.ta, .int .i64 e.k.wd, .int .i64 e.k.s.t, .int .i64 e.k.s.l, .int .i64 e.k.s.a, .int .i64 e.k.s.d, .int .i64 e.k.s.z, .int .i64 e.k.s.o, .int .i64 e.k.s.i, .int .i64 e.v]
def ecs : List Re → List Value
  | [] => []
  | k :: r => k.cells ++ ecs r
theorem ecs_len (l : List Re) : (ecs l).length = l.length * 12 := by
  induction l with
  | nil => rfl
  | cons k r ih => simp [ecs, Re.cells, ih]; omega
theorem ecs_app (l r : List Re) : ecs (l ++ r) = ecs l ++ ecs r := by
  induction l with
  | nil => rfl
  | cons k l ih => simp [ecs, ih]
theorem ecs_get : ∀ (l : List Re) (i : Nat) (k : Re), l[i]? = some k → ∀ j, j < 12 → (ecs l)[i * 12 + j]? = k.cells[j]?
  | [], _, _, h, _, _ => by simp at h
  | x :: r, 0, k, h, j, hj => by
    simp at h
    subst h
    rw [ecs, List.getElem?_append_left (by simp [Re.cells]; omega)]
    congr 1; omega
  | x :: r, i + 1, k, h, j, hj => by
    have := ecs_get r i k (by simpa using h) j hj
    rw [ecs, List.getElem?_append_right (by simp [Re.cells]; omega), ← this]
    congr 1
    simp [Re.cells]; omega
theorem ecell_one (k : Re) : ∀ u ∈ k.cells, u.oneCell' = true := by
  intro u hu
  simp [Re.cells] at hu
  rcases hu with rfl | rfl | rfl | rfl | rfl | rfl | rfl | rfl | rfl | rfl | rfl | rfl <;> rfl
theorem info_rent : (Try.prog.info? 44).map (fun i => (i.zero, i.size, i.bytes)) = some (some (.agg #[.string ⟨#[]⟩, .slice none 0 0, .int .i64 0, .int .i64 0, .int .i64 0, .int .i64 0, .int .i64 0, .int .i64 0, .int .i64 0, .int .i64 0, .int .i64 0, .int .i64 0]), 12, 120) := by kernel_rfl
/-- Entries in a row, wherever they lie. -/
structure RsAt (S : Nat → Prop) (w : World) (ao : Option Addr) (es : List Re) : Prop where
  row : ∀ i e, es[i]? = some e → ∃ b off, ao = some ⟨b, off, none⟩ ∧ S b ∧ ∀ j u, e.cells[j]? = some u → w.cell? ⟨b, off + i * 12 + j, none⟩ = some u
  key : ∀ e ∈ es, KvAt S w e.k ∧ Fits e.k ∧ e.k.rn ≤ e.k.rc
theorem RsAt.keep {S S' : Nat → Prop} {w w' : World} {ao : Option Addr} {es : List Re} (h : RsAt S w ao es) (k : Kp S S' w w') : RsAt S' w' ao es := by
  refine ⟨fun i e he => ?_, fun e he => ⟨P2At.keep (h.key e he).1 k, (h.key e he).2⟩⟩
  obtain ⟨b, off, h1, h2, h3⟩ := h.row i e he
  have h4 := k _ _ _ h2 (h3 0 _ rfl)
  exact ⟨b, off, h1, h4.1, fun j u hj => (k _ _ _ h2 (h3 j u hj)).2⟩
theorem RsAt.below {S : Nat → Prop} {w w' : World} {ao : Option Addr} {es : List Re} (h : RsAt S w ao es) (hb : Below w.heap.size w w') : RsAt S w' ao es := h.keep (kp_below hb)
theorem RsAt.form {S : Nat → Prop} {w : World} {ao : Option Addr} {es : List Re} (h : RsAt S w ao es) (hn : 0 < es.length) : ∃ b off, ao = some ⟨b, off, none⟩ ∧ S b := by
  obtain ⟨b, off, h1, h2, -⟩ := h.row 0 es[0] (List.getElem?_eq_getElem hn)
  exact ⟨b, off, h1, h2⟩
theorem RsAt.get {S : Nat → Prop} {w : World} {b off : Nat} {es : List Re} (h : RsAt S w (some ⟨b, off, none⟩) es) {i : Nat} {e : Re} (he : es[i]? = some e) : w.cell? ⟨b, off + i * 12, none⟩ = some (.string e.k.tx) ∧ w.cell? ⟨b, off + i * 12 + 1, none⟩ = some (.slice e.k.ra e.k.rn e.k.rc) ∧ w.cell? ⟨b, off + i * 12 + 2, none⟩ = some (.int .i64 e.k.ta) ∧ w.cell? ⟨b, off + i * 12 + 3, none⟩ = some (.int .i64 e.k.wd) ∧ w.cell? ⟨b, off + i * 12 + 4, none⟩ = some (.int .i64 e.k.s.t) ∧ w.cell? ⟨b, off + i * 12 + 5, none⟩ = some (.int .i64 e.k.s.l) ∧ w.cell? ⟨b, off + i * 12 + 6, none⟩ = some (.int .i64 e.k.s.a) ∧ w.cell? ⟨b, off + i * 12 + 7, none⟩ = some (.int .i64 e.k.s.d) ∧ w.cell? ⟨b, off + i * 12 + 8, none⟩ = some (.int .i64 e.k.s.z) ∧ w.cell? ⟨b, off + i * 12 + 9, none⟩ = some (.int .i64 e.k.s.o) ∧ w.cell? ⟨b, off + i * 12 + 10, none⟩ = some (.int .i64 e.k.s.i) ∧ w.cell? ⟨b, off + i * 12 + 11, none⟩ = some (.int .i64 e.v) := by
  obtain ⟨b', off', h1, -, h3⟩ := h.row i e he
  injection h1 with h1
  injection h1 with h1 h2
  subst h1; subst h2
  exact ⟨h3 0 _ rfl, h3 1 _ rfl, h3 2 _ rfl, h3 3 _ rfl, h3 4 _ rfl, h3 5 _ rfl, h3 6 _ rfl, h3 7 _ rfl, h3 8 _ rfl, h3 9 _ rfl, h3 10 _ rfl, h3 11 _ rfl⟩
/-- A row of one's own. -/
theorem rs_own {S : Nat → Prop} {B : Nat} {w : World} {ao : Option Addr} {cap : Nat} {es : List Re} (h : w.ownsRow B 44 12 (.slice ao es.length cap) es.length (ecs es)) (hS : ∀ b, B ≤ b → S b) (hk : ∀ e ∈ es, KvAt S w e.k ∧ Fits e.k ∧ e.k.rn ≤ e.k.rc) : RsAt S w ao es := by
  refine ⟨fun i e he => ?_, hk⟩
  have hi := (List.getElem?_eq_some_iff.1 he).1
  obtain ⟨g, cap', e1⟩ := ownsRow_form h (by omega)
  injection e1 with e1 e2 e3
  subst e1; subst e3
  have hb := h.lt g rfl
  refine ⟨g, 0, rfl, hS g hb.1, fun j u hj => ?_⟩
  have hj' : j < 12 := by
    have := (List.getElem?_eq_some_iff.1 hj).1
    simpa [Re.cells] using this
  rw [Nat.zero_add, h.cellAt (i * 12 + j) (by omega), ecs_get es i e he j hj', hj]
def stV (room : Int) (lo : Option Addr) (n c : Nat) (hi mi : Int) : Value := .agg #[.int .i64 room, .slice lo n c, .int .i64 hi, .int .i64 mi]

set_option maxRecDepth 100000 in
set_option maxHeartbeats 4000000 in
theorem rfind_any (S : Nat → Prop) (w : World) (room : Int) (lo : Option Addr) (lc : Nat) (hi mi : Int) (es : List Re) (k : Kv) (h : RsAt S w lo es) (hl : es.length ≤ 100000) (hk : KvAt S w k) (hf : Fits k) :
    Calls Try.prog 46 #[stV room lo es.length lc hi mi, k.val] w fun r w' => Below w.heap.size w w' ∧ ((∃ (i : Nat) (e : Re), r = .returned (.int .i64 (i : Nat)) ∧ es[i]? = some e ∧ e.k.ky = k.ky) ∨ (r = .returned (.int .i64 (-1)) ∧ ∀ e ∈ es, e.k.ky ≠ k.ky)) := by
  obtain ⟨W, hW⟩ : ∃ W, (w.alloc (.cells #[.int .i64 room, .slice lo es.length lc, .int .i64 hi, .int .i64 mi] 27)).alloc (.cells #[.string k.tx, .slice k.ra k.rn k.rc, .int .i64 k.ta, .int .i64 k.wd, .int .i64 k.s.t, .int .i64 k.s.l, .int .i64 k.s.a, .int .i64 k.s.d, .int .i64 k.s.z, .int .i64 k.s.o, .int .i64 k.s.i] 40) = W := ⟨_, rfl⟩
  have HQ := laid2 w (.cells #[.int .i64 room, .slice lo es.length lc, .int .i64 hi, .int .i64 mi] 27) (.cells #[.string k.tx, .slice k.ra k.rn k.rc, .int .i64 k.ta, .int .i64 k.wd, .int .i64 k.s.t, .int .i64 k.s.l, .int .i64 k.s.a, .int .i64 k.s.d, .int .i64 k.s.z, .int .i64 k.s.o, .int .i64 k.s.i] 40)
  rw [hW] at HQ
  obtain ⟨f0, f1, hB, hz⟩ := HQ
  have HB := boxed hB
  have HX : Box (∀ W', Below W.heap.size W W' → (W'.cell? ⟨w.heap.size, 1, none⟩ = some (.slice lo es.length lc)) ∧ W'.cell? ⟨w.heap.size + 1, 0, none⟩ = some (.string k.tx) ∧ W'.cell? ⟨w.heap.size + 1, 1, none⟩ = some (.slice k.ra k.rn k.rc) ∧ W'.cell? ⟨w.heap.size + 1, 2, none⟩ = some (.int .i64 k.ta) ∧ W'.cell? ⟨w.heap.size + 1, 3, none⟩ = some (.int .i64 k.wd) ∧ W'.cell? ⟨w.heap.size + 1, 4, none⟩ = some (.int .i64 k.s.t) ∧ W'.cell? ⟨w.heap.size + 1, 5, none⟩ = some (.int .i64 k.s.l) ∧ W'.cell? ⟨w.heap.size + 1, 6, none⟩ = some (.int .i64 k.s.a) ∧ W'.cell? ⟨w.heap.size + 1, 7, none⟩ = some (.int .i64 k.s.d) ∧ W'.cell? ⟨w.heap.size + 1, 8, none⟩ = some (.int .i64 k.s.z) ∧ W'.cell? ⟨w.heap.size + 1, 9, none⟩ = some (.int .i64 k.s.o) ∧ W'.cell? ⟨w.heap.size + 1, 10, none⟩ = some (.int .i64 k.s.i)) := boxed (fun W' hb => by
    obtain ⟨-, p1, -⟩ := cells4 f0
    obtain ⟨q0, q1, q2, q3, q4, q5, q6, q7, q8, q9, q10⟩ := cells11 f1
    exact ⟨hold hb p1, hold hb q0, hold hb q1, hold hb q2, hold hb q3, hold hb q4, hold hb q5, hold hb q6, hold hb q7, hold hb q8, hold hb q9, hold hb q10⟩)
  have HR := boxed (h.below hB)
  have HA : Box (∀ W', Below W.heap.size W W' → ∀ e ∈ es, Calls Try.prog 14 #[e.k.val, k.val] W' fun r w' => ∃ x, r = .returned (.bool x) ∧ (x = true ↔ e.k.ky = k.ky) ∧ Below W'.heap.size W' w') :=
    boxed (fun W' hb e he => refalike_any e.k k W' (((h.key e he).1.weak.below hB).below hb) ((hk.weak.below hB).below hb) (h.key e he).2.1 hf)
  unfold Kv.val at HA
  unfold stV Kv.val
  obtain ⟨n, hn⟩ : ∃ n, es.length = n := ⟨_, rfl⟩
  rw [hn] at HX hW hl ⊢
  have HNn := boxed hn
  clear h hk hf f0 f1 hB hz hn
  go_enter Try.func46, Try.ntmps46
  go_wp2_with fail
  go_loopw [5] (fun vi wr => ∃ i : Nat, i ≤ n ∧ vi = .int .i64 (i : Nat) ∧ Box (Below W.heap.size W wr) ∧ Box (∀ j e, j < i → es[j]? = some e → e.k.ky ≠ k.ky)) (fun vi _ => n - (intOf vi).toNat)
  case atStart => exact ⟨0, Nat.zero_le _, rfl, boxed (Below.refl _ _), boxed (fun j e hj => by omega)⟩
  case round =>
    obtain ⟨i, hin, rfl, HD0, HS⟩ := hrel
    have g1 := (HX.out _ HD0.out).1
    by_cases hlt : i < n
    · have hil : i < es.length := by rw [HNn.out]; exact hlt
      have hei : es[i]? = some es[i] := List.getElem?_eq_getElem hil
      generalize es[i] = e at hei
      obtain ⟨lb, loff, hlo, -⟩ := HR.out.form (by omega)
      subst hlo
      have hem := List.mem_of_getElem? hei
      have HG := boxed (fun W' (hb : Below wr.heap.size wr W') => ((HR.out.below HD0.out).below hb).get hei)
      have HAx := boxed (fun W' (hb : Below W.heap.size W W') => HA.out W' hb e hem)
      have HEi := boxed hei
      have hlt2 : (i : Int) < (n : Int) := by omega
      obtain ⟨x, ev⟩ := e
      simp only at HG HAx
      have HX2 : Box (∀ W', Below wr.heap.size wr W' → W'.cell? ⟨lb, loff + i * 12, none⟩ = some (.string x.tx) ∧ W'.cell? ⟨lb, loff + i * 12 + 1, none⟩ = some (.slice x.ra x.rn x.rc) ∧ W'.cell? ⟨lb, loff + i * 12 + 2, none⟩ = some (.int .i64 x.ta) ∧ W'.cell? ⟨lb, loff + i * 12 + 3, none⟩ = some (.int .i64 x.wd) ∧ W'.cell? ⟨lb, loff + i * 12 + 4, none⟩ = some (.int .i64 x.s.t) ∧ W'.cell? ⟨lb, loff + i * 12 + 5, none⟩ = some (.int .i64 x.s.l) ∧ W'.cell? ⟨lb, loff + i * 12 + 6, none⟩ = some (.int .i64 x.s.a) ∧ W'.cell? ⟨lb, loff + i * 12 + 7, none⟩ = some (.int .i64 x.s.d) ∧ W'.cell? ⟨lb, loff + i * 12 + 8, none⟩ = some (.int .i64 x.s.z) ∧ W'.cell? ⟨lb, loff + i * 12 + 9, none⟩ = some (.int .i64 x.s.o) ∧ W'.cell? ⟨lb, loff + i * 12 + 10, none⟩ = some (.int .i64 x.s.i) ∧ W'.cell? ⟨w.heap.size + 1, 0, none⟩ = some (.string k.tx) ∧ W'.cell? ⟨w.heap.size + 1, 1, none⟩ = some (.slice k.ra k.rn k.rc) ∧ W'.cell? ⟨w.heap.size + 1, 2, none⟩ = some (.int .i64 k.ta) ∧ W'.cell? ⟨w.heap.size + 1, 3, none⟩ = some (.int .i64 k.wd) ∧ W'.cell? ⟨w.heap.size + 1, 4, none⟩ = some (.int .i64 k.s.t) ∧ W'.cell? ⟨w.heap.size + 1, 5, none⟩ = some (.int .i64 k.s.l) ∧ W'.cell? ⟨w.heap.size + 1, 6, none⟩ = some (.int .i64 k.s.a) ∧ W'.cell? ⟨w.heap.size + 1, 7, none⟩ = some (.int .i64 k.s.d) ∧ W'.cell? ⟨w.heap.size + 1, 8, none⟩ = some (.int .i64 k.s.z) ∧ W'.cell? ⟨w.heap.size + 1, 9, none⟩ = some (.int .i64 k.s.o) ∧ W'.cell? ⟨w.heap.size + 1, 10, none⟩ = some (.int .i64 k.s.i) ∧ W'.cell? ⟨w.heap.size, 1, none⟩ = some (.slice (some ⟨lb, loff, none⟩) n lc)) := boxed (fun W' hb => by
        obtain ⟨q0, q1, q2, q3, q4, q5, q6, q7, q8, q9, q10, -⟩ := HG.out W' hb
        obtain ⟨u1, u2⟩ := HX.out W' (HD0.out.trans (hb.mono HD0.out.size))
        obtain ⟨r0, r1, r2, r3, r4, r5, r6, r7, r8, r9, r10⟩ := u2
        exact ⟨q0, q1, q2, q3, q4, q5, q6, q7, q8, q9, q10, r0, r1, r2, r3, r4, r5, r6, r7, r8, r9, r10, u1⟩)
      have HD : Box (Below wr.heap.size wr wr.drew) := boxed (Below.refl _ _).drew
      clear hei hem hil HG
      go_wp2_with fail
      go_region_held3 (fun W' => W'.cell? ⟨lb, loff + i * 12, none⟩ = some (.string x.tx) ∧ W'.cell? ⟨lb, loff + i * 12 + 1, none⟩ = some (.slice x.ra x.rn x.rc) ∧ W'.cell? ⟨lb, loff + i * 12 + 2, none⟩ = some (.int .i64 x.ta) ∧ W'.cell? ⟨lb, loff + i * 12 + 3, none⟩ = some (.int .i64 x.wd) ∧ W'.cell? ⟨lb, loff + i * 12 + 4, none⟩ = some (.int .i64 x.s.t) ∧ W'.cell? ⟨lb, loff + i * 12 + 5, none⟩ = some (.int .i64 x.s.l) ∧ W'.cell? ⟨lb, loff + i * 12 + 6, none⟩ = some (.int .i64 x.s.a) ∧ W'.cell? ⟨lb, loff + i * 12 + 7, none⟩ = some (.int .i64 x.s.d) ∧ W'.cell? ⟨lb, loff + i * 12 + 8, none⟩ = some (.int .i64 x.s.z) ∧ W'.cell? ⟨lb, loff + i * 12 + 9, none⟩ = some (.int .i64 x.s.o) ∧ W'.cell? ⟨lb, loff + i * 12 + 10, none⟩ = some (.int .i64 x.s.i) ∧ W'.cell? ⟨w.heap.size + 1, 0, none⟩ = some (.string k.tx) ∧ W'.cell? ⟨w.heap.size + 1, 1, none⟩ = some (.slice k.ra k.rn k.rc) ∧ W'.cell? ⟨w.heap.size + 1, 2, none⟩ = some (.int .i64 k.ta) ∧ W'.cell? ⟨w.heap.size + 1, 3, none⟩ = some (.int .i64 k.wd) ∧ W'.cell? ⟨w.heap.size + 1, 4, none⟩ = some (.int .i64 k.s.t) ∧ W'.cell? ⟨w.heap.size + 1, 5, none⟩ = some (.int .i64 k.s.l) ∧ W'.cell? ⟨w.heap.size + 1, 6, none⟩ = some (.int .i64 k.s.a) ∧ W'.cell? ⟨w.heap.size + 1, 7, none⟩ = some (.int .i64 k.s.d) ∧ W'.cell? ⟨w.heap.size + 1, 8, none⟩ = some (.int .i64 k.s.z) ∧ W'.cell? ⟨w.heap.size + 1, 9, none⟩ = some (.int .i64 k.s.o) ∧ W'.cell? ⟨w.heap.size + 1, 10, none⟩ = some (.int .i64 k.s.i) ∧ W'.cell? ⟨w.heap.size, 1, none⟩ = some (.slice (some ⟨lb, loff, none⟩) n lc))
        (first | with_reducible exact HX2.out _ HD.out | with_reducible exact HX2.out _ HB2.out)
        (first | (go_at_call 14; refine (HAx.out _ (HD0.out.trans (HD.out.mono HD0.out.size))).mono ?_; rintro e9 w2 ⟨r, rfl, hr, hb2⟩; have HRr := boxed hr; have HB2 := boxed (below_step HD.out (Nat.le_refl _) hb2); clear hb2 hr))
      have HF : Box (Below W.heap.size W w2) := boxed (HD0.out.trans (HB2.out.mono HD0.out.size))
      clear HX2 HAx
      cases r
      · have HS2 : Box (∀ j e, j < i + 1 → es[j]? = some e → e.k.ky ≠ k.ky) := boxed (fun j e hj he => by
          by_cases d : j = i
          · subst d
            rw [HEi.out] at he
            injection he with he
            subst he
            intro c
            have := HRr.out.2 c
            cases this
          · exact HS.out j e (by omega) he)
        clear HS HRr HX HA HR
        go_wp2_with fail
        go_roundw
        case rel => exact ⟨i + 1, by omega, by go_num, HF, HS2⟩
        case measure => simp [intOf]; omega
      · have HP : Box (∃ (i' : Nat) (e : Re), Ending.returned (.int .i64 (i : Nat)) = .returned (.int .i64 (i' : Nat)) ∧ es[i']? = some e ∧ e.k.ky = k.ky) := boxed ⟨i, _, rfl, HEi.out, HRr.out.1 rfl⟩
        clear HS HRr HX HA HR
        go_wp2_with fail
        go_ret
        exact ⟨HB.out.trans (HF.out.mono HB.out.size), .inl HP.out⟩
    · obtain rfl : n = i := by omega
      have HP : Box (∀ e ∈ es, e.k.ky ≠ k.ky) := boxed (fun e he => by
        obtain ⟨j, hj, e1⟩ := List.getElem_of_mem he
        exact HS.out j e (by rw [← HNn.out]; exact hj) (by rw [List.getElem?_eq_getElem hj, e1]))
      clear HS HA HR HX
      go_wp2_with fail
      go_ret
      exact ⟨HB.out.trans (HD0.out.mono HB.out.size), .inr ⟨rfl, HP.out⟩⟩
end Go.Proofs.Ytmnnmnggakbipaa
