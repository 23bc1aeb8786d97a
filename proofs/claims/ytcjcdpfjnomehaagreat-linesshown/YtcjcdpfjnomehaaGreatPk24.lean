/-
  What is seen of a line, as runes: those that are kept, and those of them up to the last that is no space; what the program's Shown answers.
-/
import Derived.Laws.IdiomStrings
import Derived.Laws.BytesArg
import Derived.Test.YtcjcdpfjnomehaaGreatPk22
import Derived.Test.YtcjcdpfjnomehaaGreatPk23
import Derived.Test.YtcjcdpfjnomehaaGreatPk15
namespace Go.Proofs.YtcjcdpfjnomehaaGreat
open Go.RowKit
set_option linter.unusedSimpArgs false
set_option linter.unusedVariables false
theorem info_byte : (Tryz.prog.info? 5).map (fun i => (i.zero, i.size, i.bytes)) = some (some (.int .u8 0), 1, 1) := by kernel_rfl
def bvals (l : List Nat) : List Value := l.map fun (d : Nat) => Value.int .u8 (d : Int)
theorem bvals_len (l : List Nat) : (bvals l).length = l.length := by simp [bvals]
theorem bvals_app (l m : List Nat) : bvals l ++ bvals m = bvals (l ++ m) := by simp [bvals]
def tx (l : List Nat) : ByteArray := ⟨(l.map (fun d => UInt8.ofNat d)).toArray⟩
def encs (l : List Nat) : List Nat := l.flatMap It.byts
theorem encs_app (l m : List Nat) : encs (l ++ m) = encs l ++ encs m := by simp [encs]
theorem encs_one (r : Nat) : encs [r] = It.byts r := by simp [encs]
theorem byts_lt (r : Nat) : ∀ d ∈ It.byts r, d < 256 := by
  intro d hd
  rcases It.byts_len r with ⟨h, _⟩ | ⟨h, _⟩ | ⟨h, h', _⟩ | ⟨h, h', hx, _⟩ | ⟨h, hx, _⟩
  · rw [It.byts_0 r h] at hd; simp at hd
  · rw [It.byts_1 r h] at hd; simp at hd; omega
  · rw [It.byts_2 r h h'] at hd; simp at hd; omega
  · rw [It.byts_3 r h h' hx] at hd; simp at hd; omega
  · have := It.isR_t _ hx
    rw [It.byts_4 r h hx] at hd; simp at hd; omega
theorem byts_len4 (r : Nat) : (It.byts r).length ≤ 4 := by
  rcases It.byts_len r with ⟨h, e⟩ | ⟨h, e⟩ | ⟨h, h', e⟩ | ⟨h, h', hx, e⟩ | ⟨h, hx, e⟩ <;> omega
theorem encs_lt (l : List Nat) : ∀ d ∈ encs l, d < 256 := by
  intro d hd
  simp only [encs, List.mem_flatMap] at hd
  obtain ⟨r, _, h⟩ := hd
  exact byts_lt r d h
theorem encs_len (l : List Nat) : (encs l).length ≤ 4 * l.length := by
  induction l with
  | nil => simp [encs]
  | cons r l ih =>
    have e : encs (r :: l) = It.byts r ++ encs l := by simp [encs]
    have := byts_len4 r
    rw [e, List.length_append, List.length_cons]
    omega
theorem cells_byts (r : Nat) (hx : It.isR (r : Int) = true) : Lib.runeCells (r : Int) = bvals (It.byts r) := by
  have hi := It.isR_t _ hx
  unfold Lib.runeCells bvals
  rcases It.byts_len r with ⟨h, _⟩ | ⟨h, _⟩ | ⟨h, h', _⟩ | ⟨h, h', hx, _⟩ | ⟨h, hx, _⟩
  · rw [hx] at h; cases h
  · rw [It.byts_1 r h, Lib.encodeRuneZ_one (by omega) (by omega)]; simp
  · rw [It.byts_2 r h h', Lib.encodeRuneZ_two (by omega) (by omega)]; simp
  · rw [It.byts_3 r h h' hx, Lib.encodeRuneZ_three (by omega)]; simp
  · rw [It.byts_4 r h hx, Lib.encodeRuneZ_four (by omega) (by omega)]; simp
theorem rn_isR (t : ByteArray) (k : Nat) (h : 0 < (It.dc t (It.it t k)).2) : It.isR (It.rn t k : Int) = true := by
  unfold It.rn
  unfold It.dc at h ⊢
  generalize It.bt t (It.it t k) = b0 at *
  generalize It.bt t (It.it t k + 1) = b1 at *
  generalize It.bt t (It.it t k + 2) = b2 at *
  generalize It.bt t (It.it t k + 3) = b3 at *
  apply It.isR_mk
  rcases It.dec_cases b0 b1 b2 b3 with ⟨q, e⟩ | ⟨q, e⟩ | ⟨q, e⟩ | ⟨q, e⟩ | e
  · rw [e]; simp only; omega
  · rw [e]; simp only; omega
  · rw [e]; simp only; omega
  · rw [e]; simp only; omega
  · rw [e] at h; simp at h
def uns (k : Int) : Bool := k == 3 || k == 4 || k == 5 || k == 7 || k == 8
def kp (t : ByteArray) : Nat → List Nat
  | 0 => []
  | k + 1 => if uns (It.kd (It.rn t k : Int)) = true then kp t k else kp t k ++ [It.rn t k]
def ke (t : ByteArray) : Nat → List Nat
  | 0 => []
  | k + 1 => if uns (It.kd (It.rn t k : Int)) = true ∨ It.kd (It.rn t k : Int) = 1 then ke t k else kp t (k + 1)
theorem kp_len (t : ByteArray) (k : Nat) : (kp t k).length ≤ k := by
  induction k with
  | zero => simp [kp]
  | succ k ih =>
    simp only [kp]
    split
    · omega
    · simp; omega
theorem kp_le (t : ByteArray) (k : Nat) : ∀ r ∈ kp t k, r ≤ 1114111 := by
  induction k with
  | zero => intro r h; simp [kp] at h
  | succ k ih =>
    intro r h
    simp only [kp] at h
    split at h
    · exact ih r h
    · simp only [List.mem_append, List.mem_singleton] at h
      rcases h with h | h
      · exact ih r h
      · rw [h]; exact It.rn_le t k
theorem ke_kp (t : ByteArray) (k : Nat) : (∃ sp, kp t k = ke t k ++ sp ∧ ∀ r ∈ sp, It.kd (r : Int) = 1) ∧ (ke t k = [] ∨ ∃ l r, ke t k = l ++ [r] ∧ It.kd ((r : Nat) : Int) ≠ 1) := by
  induction k with
  | zero => exact ⟨⟨[], rfl, by simp⟩, .inl rfl⟩
  | succ k ih =>
    obtain ⟨⟨sp, h1, h2⟩, h3⟩ := ih
    simp only [kp, ke]
    by_cases c : uns (It.kd (It.rn t k : Int)) = true
    · rw [if_pos c, if_pos (Or.inl c)]
      exact ⟨⟨sp, h1, h2⟩, h3⟩
    · rw [if_neg c]
      by_cases d : It.kd (It.rn t k : Int) = 1
      · rw [if_pos (Or.inr d)]
        refine ⟨⟨sp ++ [It.rn t k], by rw [h1]; simp, ?_⟩, h3⟩
        intro r hr
        simp only [List.mem_append, List.mem_singleton] at hr
        rcases hr with hr | hr
        · exact h2 r hr
        · rw [hr]; exact d
      · rw [if_neg (by intro h; rcases h with h | h; exact c h; exact d h)]
        exact ⟨⟨[], by simp, by simp⟩, .inr ⟨_, _, rfl, d⟩⟩
theorem ke_le (t : ByteArray) (k : Nat) : (ke t k).length ≤ (kp t k).length := by
  obtain ⟨⟨sp, h, _⟩, _⟩ := ke_kp t k
  rw [h]; simp
theorem owns_cut {w : World} {B : Nat} {ao : Option Addr} {cap m : Nat} {l r : List Nat} (h : w.ownsRow B 5 1 (.slice ao (l ++ r).length cap) (l ++ r).length (bvals (l ++ r))) (hm : m = l.length) (hs : ao.isSome = true) : w.ownsRow B 5 1 (.slice ao m cap) l.length (bvals l) := by
  subst hm
  obtain ⟨h1, h2⟩ := h
  refine ⟨by rw [bvals_len]; omega, ?_⟩
  rcases h2 with ⟨e, h0⟩ | ⟨g, cp, cur, e, hB, hh, hc, hx, hz, ht⟩
  · injection e with e1 e2 e3
    subst e1; simp at hs
  · injection e with e1 e2 e3
    subst e1; subst e3
    refine .inr ⟨g, cap, cur, rfl, hB, hh, by simp at hc; omega, hx, hz, ?_⟩
    have : cur.toList.take (l.length * 1) = (cur.toList.take ((l ++ r).length * 1)).take (l.length * 1) := by
      rw [List.take_take]; congr 1; simp
    rw [this, ht, ← bvals_app, Nat.mul_one]
    rw [List.take_append_of_le_length (by rw [bvals_len]; omega), List.take_of_length_le (by rw [bvals_len]; omega)]
set_option maxRecDepth 100000 in
theorem conv_own {w : World} {B : Nat} {ao : Option Addr} {cap : Nat} {l : List Nat} (h : w.ownsRow B 5 1 (.slice ao l.length cap) l.length (bvals l)) (hb : ∀ d ∈ l, d < 256) :
    (convert 132 9 (.slice ao l.length cap)).run Tryz.prog w = .ok (.string (tx l)) w := by
  have hlen : (l.map (fun d => UInt8.ofNat d)).length = l.length := by simp
  rcases ownsRow_forms h with ⟨e, h0⟩ | ⟨g, cp, e⟩
  · have : l = [] := List.eq_nil_of_length_eq_zero h0
    subst this
    injection e with e1 e2 e3
    subst e1
    exact run_convert_bytes_nil (P := Tryz.prog) w 132 5 Tryz.underlying132 Tryz.underlying5 0 cap 9 Tryz.underlying9
  · injection e with e1 e2 e3
    subst e1
    have hc := run_convert_bytes_back (P := Tryz.prog) w 132 9 5 ⟨g, 0, none⟩ cap (l.map (fun d => UInt8.ofNat d)) Tryz.underlying132 Tryz.underlying5 Tryz.underlying9 (by
      intro j hj
      have hj' : j < l.length := by simpa using hj
      have hlt := hb l[j] (List.getElem_mem hj')
      have hcl := h.cellAt j (by omega)
      have hadd : (⟨g, 0, none⟩ : Addr).add j = ⟨g, j, none⟩ := by unfold Addr.add; split <;> simp_all
      rw [hadd, hcl]
      simp [bvals, hj']
      omega)
    rw [hlen] at hc
    exact hc
set_option maxRecDepth 100000 in
theorem unseen_any (k : Int) (w : World) :
    Calls Tryz.prog 79 #[.int .i64 k] w fun e w' => e = .returned (.bool (uns k)) ∧ w' = w := by
  have hc : k = 3 ∨ k = 4 ∨ k = 5 ∨ k = 7 ∨ k = 8 ∨ ((k == 3) = false ∧ (k == 4) = false ∧ (k == 5) = false ∧ (k == 7) = false ∧ (k == 8) = false) := by
    simp only [beq_eq_false_iff_ne, ne_eq]; omega
  rcases hc with rfl | rfl | rfl | rfl | rfl | ⟨h0, h1, h2, h3, h4⟩
  all_goals
    go_enter Tryz.func79, Tryz.ntmps79
    go_wp2
    go_ret
    refine ⟨ret_bool ?_, rfl⟩
    first | rfl | (unfold uns; rw [h0, h1, h2, h3, h4]; rfl)
end Go.Proofs.YtcjcdpfjnomehaaGreat

/-
  What the program's Shown answers for a right text.
-/
namespace Go.Proofs.YtcjcdpfjnomehaaGreat
open Go.RowKit
set_option linter.unusedSimpArgs false
set_option linter.unusedVariables false
theorem own_iter {w : World} {B e size n q p : Nat} {v : Value} {xs : List Value} {t : ByteArray} (h : w.ownsRow B e size v n xs) (hq : q < B) : (w.iterAt q t p).ownsRow B e size v n xs := by
  obtain ⟨h1, h2⟩ := h
  refine ⟨h1, ?_⟩
  rcases h2 with h2 | ⟨g, cap, cur, e, hB, hh, r⟩
  · exact .inl h2
  · exact .inr ⟨g, cap, cur, e, hB, by rw [Lib.iterAt_other _ _ _ _ _ (by omega)]; exact hh, r⟩
theorem own_none {w : World} {B e size n cap : Nat} {xs : List Value} (h : w.ownsRow B e size (.slice none n cap) n xs) : n = 0 ∧ cap = 0 := by
  rcases ownsRow_forms h with ⟨e, h0⟩ | ⟨g, cp, e⟩
  · injection e with e1 e2 e3; exact ⟨h0, e3⟩
  · injection e with e1; cases e1
theorem own_room {w : World} {B e size n m cap : Nat} {ao : Option Addr} {xs : List Value} (h : w.ownsRow B e size (.slice ao m cap) n xs) : m ≤ cap := by
  rcases h.2 with ⟨e, h0⟩ | ⟨g, cp, cur, e, hB, hh, hc, -⟩
  · injection e with e1 e2 e3; omega
  · injection e with e1 e2 e3; omega
theorem cut_bytes (ao : Option Addr) (n cap f : Nat) (hn : n ≤ cap) (hf : f ≤ n) (hz : ao = none → n = 0) (w : World) : (Instr.slice 132 (.slice ao n cap) none (some (.int .i64 (f : Int))) none).run Tryz.prog w = .ok (.slice ao f cap) w := by
  have h4 : (f : Int) ≤ (cap : Int) := by omega
  cases ao with
  | none =>
    have := hz rfl
    subst this
    obtain rfl : f = 0 := by omega
    go_simp
  | some ad => go_simp
set_option maxRecDepth 100000 in
set_option maxHeartbeats 4000000 in
theorem shown_any (x : Lne) (w : World) (N : Nat) (hN : It.Right x.tx N) (hs : x.tx.size ≤ 2000) :
    Calls Tryz.prog 29 #[x.val] w fun e w' => e = .returned (.string (tx (encs (ke x.tx N) ++ (if x.hy = true then [45] else [])))) ∧ Below w.heap.size w w' := by
  obtain ⟨i0, hi, hz0, hz1, hz2⟩ := info_parts info_byte
  unfold Lne.val
  obtain ⟨t, x2, x3, x4, x5, x6, x7, hy, x9, xa, xb, xc, xd⟩ := x
  simp only at hN hs ⊢
  have HN := boxed hN
  have hN2 : N ≤ 2000 := by have := It.cnt_le t N hN.1; have := It.it_le t N; omega
  have HKP := boxed (fun k => kp_len t k)
  have HKE := boxed (fun k => ke_le t k)
  have HEL := boxed (fun l => encs_len l)
  clear hN
  go_enter Tryz.func29, Tryz.ntmps29
  go_wp2
  go_loopw [3, 4, 6, 7] (fun vs ve _ _ wr => ∃ (k : Nat) (ao : Option Addr) (cp : Nat), k ≤ N ∧ vs = .slice ao (encs (kp t k)).length cp ∧ ve = .int .i64 ((encs (ke t k)).length : Nat) ∧ Box (wr.ownsRow (w.heap.size + 2) 5 1 (.slice ao (encs (kp t k)).length cp) (encs (kp t k)).length (bvals (encs (kp t k)))) ∧
      Box (wr.heap[w.heap.size + 1]? = some (.stringIter t (It.it t k))) ∧ Box (wr.cell? ⟨w.heap.size, 5, none⟩ = some (.bool hy)) ∧ Box (Below w.heap.size w wr)) (fun _ _ _ _ wr => t.size - wr.iterPos (w.heap.size + 1))
  case atStart =>
    refine ⟨0, none, 0, Nat.zero_le _, rfl, rfl, boxed (World.ownsRow_nil _ _ _ _), boxed ?_, boxed ?_, boxed ?_⟩
    · have := World.iter_heap (w.alloc (.cells #[.string t, .slice x2 x3 x4, .int .i64 x5, .int .i64 x6, .int .i64 x7, .bool hy, .int .i64 x9, .bool xa, .bool xb] 59)) t 0
      rw [World.size_alloc] at this
      exact this
    · refine Eq.trans ?_ (cell_first w #[.string t, .slice x2 x3 x4, .int .i64 x5, .int .i64 x6, .int .i64 x7, .bool hy, .int .i64 x9, .bool xa, .bool xb] 59 5)
      exact (It.bel_iter (w.alloc (.cells #[.string t, .slice x2 x3 x4, .int .i64 x5, .int .i64 x6, .int .i64 x7, .bool hy, .int .i64 x9, .bool xa, .bool xb] 59)) t 0).cell (p := ⟨w.heap.size, 5, none⟩) (by simp)
    · exact below_step ((Below.refl _ w).alloc (Nat.le_refl _) _) (Nat.le_refl _) (It.bel_iter _ _ _)
  case round =>
    obtain ⟨k, ao, cp, hk, rfl, rfl, HO, HI, HC, HB⟩ := hrel
    have hl1 := HKP.out k
    have hl2 := HKE.out k
    have hl3 := HEL.out (kp t k)
    have HPX : Box (∃ sp, kp t k = ke t k ++ sp) := boxed (by obtain ⟨⟨sp, h, -⟩, -⟩ := ke_kp t k; exact ⟨sp, h⟩)
    by_cases hlt : k < N
    · have hp := HN.out.1.1 k hlt
      have hpos := It.dc_pos t _ hp
      have hnx := fun ty => Lib.run_next_any_at (P := Tryz.prog) wr (w.heap.size + 1) t (It.it t k) ty HI.out hpos
      rw [It.decode_dc t _ hp] at hnx
      have hrn : (((It.dc t (It.it t k)).1 : Nat) : Int) = (It.rn t k : Int) := rfl
      have hit : It.it t k + (It.dc t (It.it t k)).2 = It.it t (k + 1) := rfl
      rw [hrn, hit] at hnx
      have hrl := It.rn_le t k
      have hrr := rn_isR t k hp
      have HI2 := boxed (Lib.iterAt_heap wr (w.heap.size + 1) t (It.it t k) (It.it t (k + 1)) HI.out)
      have HC2 : Box ((wr.iterAt (w.heap.size + 1) t (It.it t (k + 1))).cell? ⟨w.heap.size, 5, none⟩ = some (.bool hy)) := boxed (by
        rw [← HC.out]
        exact World.cell?_of_block (Lib.iterAt_other wr _ _ t _ (by show w.heap.size ≠ w.heap.size + 1; omega)))
      have HB2 : Box (Below w.heap.size w (wr.iterAt (w.heap.size + 1) t (It.it t (k + 1)))) := boxed (Lib.below_iterAt HB.out (by omega) _ _)
      have HO2 : Box ((wr.iterAt (w.heap.size + 1) t (It.it t (k + 1))).ownsRow (w.heap.size + 2) 5 1 (.slice ao (encs (kp t k)).length cp) (encs (kp t k)).length (bvals (encs (kp t k)))) := boxed (own_iter HO.out (by omega))
      have HIT : Box (It.it t k < It.it t (k + 1) ∧ It.it t k < t.size) := boxed ⟨by rw [← hit]; omega, hpos⟩
      have HPO : Box (wr.iterPos (w.heap.size + 1) = It.it t k) := boxed (by unfold World.iterPos; rw [HI.out])
      have HCB := boxed (cells_byts (It.rn t k) hrr)
      have HS1 : Box (kp t (k + 1) = if uns (It.kd (It.rn t k : Int)) = true then kp t k else kp t k ++ [It.rn t k]) := boxed rfl
      have HS2 : Box (ke t (k + 1) = if uns (It.kd (It.rn t k : Int)) = true ∨ It.kd (It.rn t k : Int) = 1 then ke t k else kp t (k + 1)) := boxed rfl
      have hkd := fun W => It.kind_any (It.rn t k : Int) W
      have hus := fun W => unseen_any (It.kd (It.rn t k : Int)) W
      clear hp hpos hit hrn hrr HI HC HB HO
      generalize It.rn t k = r at *
      generalize hW1 : wr.iterAt (w.heap.size + 1) t (It.it t (k + 1)) = W1 at *
      have hsz : w.heap.size + 2 ≤ W1.heap.size := by have := (Array.getElem?_eq_some_iff.1 HI2.out).1; omega
      generalize hK : It.kd (r : Int) = K at *
      clear hK hW1
      cases hu : uns K with
      | true =>
        rw [hu] at hus
        have e1 : kp t (k + 1) = kp t k := by rw [HS1.out, if_pos hu]
        have e2 : ke t (k + 1) = ke t k := by rw [HS2.out, if_pos (Or.inl hu)]
        have E := boxed (And.intro e1 e2)
        clear hu e1 e2
        go_wp2_with fail
        refine (hkd _).mono ?_
        rintro e w' ⟨rfl, hw'⟩
        subst w'
        go_wp2_with fail
        refine (hus _).mono ?_
        rintro e w' ⟨rfl, hw'⟩
        subst w'
        go_wp2_with fail
        go_roundw
        case rel => exact ⟨k + 1, ao, cp, by omega, by rw [E.out.1], by rw [E.out.2], by rw [E.out.1]; exact HO2, HI2, HC2, HB2⟩
        case measure =>
          have e1 : W1.iterPos (w.heap.size + 1) = It.it t (k + 1) := by unfold World.iterPos; rw [HI2.out]
          rw [e1, HPO.out]
          have := HIT.out
          omega
      | false =>
        rw [hu] at hus
        have e1 : kp t (k + 1) = kp t k ++ [r] := by rw [HS1.out, if_neg (by rw [hu]; simp)]
        have E := boxed e1
        have hap := Tryz.utf8_AppendRune_plain (w.heap.size + 2) (.slice ao (encs (kp t k)).length cp) (encs (kp t k)).length (bvals (encs (kp t k))) (r : Int) (by omega) (by omega) W1 HO2.out (by omega) hsz
        rw [HCB.out, bvals_app, bvals_len, ← List.length_append, ← encs_one, ← encs_app, ← E.out] at hap
        go_wp2_with fail
        refine (hkd _).mono ?_
        rintro e w' ⟨rfl, hw'⟩
        subst w'
        go_wp2_with fail
        refine (hus _).mono ?_
        rintro e w' ⟨rfl, hw'⟩
        subst w'
        go_wp2_with fail
        refine hap.mono ?_
        rintro e w4 ⟨v4, rfl, hv4, o4, hg4⟩
        obtain ⟨ao4, cp4, rfl⟩ := own_shape hv4
        have HO4 := boxed hv4
        have hb4 : Below (w.heap.size + 2) W1 w4 := ((Below.refl _ W1).alloc hsz o4).grown hg4 (by simp; omega) (fun q hq => (HO2.out.lt q hq).1)
        have HI4 : Box (w4.heap[w.heap.size + 1]? = some (.stringIter t (It.it t (k + 1)))) := boxed ((hb4.block (w.heap.size + 1) (by omega)).trans HI2.out)
        have HC4 : Box (w4.cell? ⟨w.heap.size, 5, none⟩ = some (.bool hy)) := boxed ((hb4.cell (p := ⟨w.heap.size, 5, none⟩) (by simp)).trans HC2.out)
        have HB4 : Box (Below w.heap.size w w4) := boxed (HB2.out.trans (hb4.mono (by omega)))
        have HM : Box (t.size - w4.iterPos (w.heap.size + 1) < t.size - wr.iterPos (w.heap.size + 1)) := boxed (by
          have e1 : w4.iterPos (w.heap.size + 1) = It.it t (k + 1) := by unfold World.iterPos; rw [HI4.out]
          rw [e1, HPO.out]
          have := HIT.out
          omega)
        clear hap hv4 hg4 hb4 hnx hkd hus
        by_cases h1 : K = 1
        · have e2 : ke t (k + 1) = ke t k := by rw [HS2.out, if_pos (Or.inr h1)]
          have E2 := boxed e2
          clear e1 e2 hu
          subst h1
          go_wp2_with fail
          go_roundw
          case rel => exact ⟨k + 1, ao4, cp4, by omega, rfl, by rw [E2.out], HO4, HI4, HC4, HB4⟩
          case measure => exact HM.out
        · have e2 : ke t (k + 1) = kp t (k + 1) := by rw [HS2.out, if_neg (by rw [hu]; simp; exact h1)]
          have E2 := boxed e2
          have h2 : (K != 1) = true := by simp; exact h1
          clear e1 e2 hu h1
          go_wp2_with fail
          go_roundw
          case rel => exact ⟨k + 1, ao4, cp4, by omega, rfl, by rw [E2.out], HO4, HI4, HC4, HB4⟩
          case measure => exact HM.out
    · have e : k = N := by omega
      subst e
      have hnx := fun ty => Lib.run_next_end_at (P := Tryz.prog) wr (w.heap.size + 1) t (It.it t k) ty HI.out (by rw [HN.out.2]; omega)
      obtain ⟨sp, hsp⟩ := HPX.out
      have hrm := own_room HO.out
      have hown := HO.out
      rw [hsp, encs_app] at hown hrm
      have hsl := cut_bytes ao (encs (ke t k) ++ encs sp).length cp (encs (ke t k)).length hrm (by simp) (fun h => by subst h; exact (own_none hown).1)
      have hcl : encs (ke t k) ++ encs sp = [] ∨ ao.isSome = true := by
        cases ao with
        | none => left; exact List.eq_nil_of_length_eq_zero (own_none hown).1
        | some a => right; rfl
      have hown2 : wr.ownsRow (w.heap.size + 2) 5 1 (.slice ao (encs (ke t k)).length cp) (encs (ke t k)).length (bvals (encs (ke t k))) := by
        rcases hcl with h | h
        · have h1 : encs (ke t k) = [] := (List.append_eq_nil_iff.1 h).1
          have h2 : encs sp = [] := (List.append_eq_nil_iff.1 h).2
          rw [h1, h2] at hown
          rw [h1]
          exact hown
        · exact owns_cut hown rfl h
      have HO2 := boxed hown2
      have HLT := boxed (encs_lt (ke t k))
      rw [hsp, encs_app]
      have hsz : w.heap.size + 2 ≤ wr.heap.size := by have := (Array.getElem?_eq_some_iff.1 HI.out).1; omega
      have hel := HEL.out (ke t k)
      have c5 := HC.out
      clear hown hown2 hcl hsp HPX HO HKP HKE HEL hl3 HC
      generalize (encs (ke t k) ++ encs sp).length = M at *
      generalize hE : encs (ke t k) = E at *
      replace hE := boxed hE
      cases hy with
      | false =>
        have hcv := conv_own HO2.out HLT.out
        go_wp2
        go_ret
        exact ⟨by simp [hE.out], HB.out⟩
      | true =>
        obtain ⟨el, hel2⟩ : ∃ el, E.length = el := ⟨_, rfl⟩
        rw [hel2] at HO2 hsl hel
        rw [hel2]
        go_wp2_with (at_builtin; refine It.wpList_append_apart rfl _ _ 132 rfl (w.heap.size + 2) 5 i0 (.int .u8 0) 1 1 Tryz.underlying132 hi hz0 hz1 hz2 rfl (by decide) _ _ _ rfl (HO2.out.alloc _) ⟨wr.heap.size, 0, none⟩ 1 1 [.int .u8 45] rfl rfl ?c1 ?c2 ?c3 ?c4 ?c5 ?c6 ?_)
        case c1 =>
          intro j u hj
          match j, hj with
          | 0, hj => simp at hj; subst hj; simp [Addr.add]
        case c2 => intro u hu; simp at hu; subst hu; rfl
        case c3 => unfold maxLen; omega
        case c4 => omega
        case c5 => simp; omega
        case c6 => omega
        intro v' w2 hown2 hgrow2 hwh2
        have HB2 : Box (Below w.heap.size w w2) := boxed ((HB.out.alloc (by omega) _).grown hgrow2 (by simp; omega) (fun k hk => by have := (HO2.out.lt k hk).1; omega))
        have h3 : w2.ownsRow (w.heap.size + 2) 5 1 v' (E ++ [45]).length (bvals (E ++ [45])) := by
          rw [← bvals_app, List.length_append, hel2]; exact hown2
        obtain ⟨ao3, cp3, rfl⟩ := own_shape h3
        have hcv := conv_own h3 (by intro d hd; simp only [List.mem_append, List.mem_singleton] at hd; rcases hd with hd | hd; exact HLT.out d hd; omega)
        clear hown2 hgrow2 hwh2 h3 hsl
        generalize (E ++ [45]).length = L3 at *
        go_wp2
        go_ret
        exact ⟨by simp [hE.out], HB2.out⟩
end Go.Proofs.YtcjcdpfjnomehaaGreat

/-
  What the program's Lay tells: a way's lines.
-/
namespace Go.Proofs.YtcjcdpfjnomehaaGreat
open Go.RowKit
set_option linter.unusedSimpArgs false
set_option linter.unusedVariables false
set_option maxRecDepth 100000 in
theorem clone10_any (s : ByteArray) (w : World) (h : s.size ≤ 281474976710656) : Calls Tryz.prog 70 #[.string s] w fun e w' => e = .returned (.string s) ∧ Below w.heap.size w w' := by
  have hc := Tryz.stringslite_Clone s w h
  go_enter Tryz.func70, Tryz.ntmps70
  go_wp2_with fail
  refine hc.mono ?_
  rintro e w1 ⟨rfl, hb⟩
  go_wp2_with fail
  go_ret
  exact ⟨rfl, hb⟩
theorem str_mid (s : ByteArray) (i j : Nat) (hi : i ≤ j) (hj : j ≤ s.size) (w : World) : (Instr.slice 9 (.string s) (some (.int .i64 (i : Int))) (some (.int .i64 (j : Int))) none).run Tryz.prog w = .ok (.string (s.extract i j)) w := by
  have h3 : (i : Int) ≤ (j : Int) := by omega
  have h4 : (j : Int) ≤ (s.size : Int) := by omega
  go_simp
theorem info_line10 : (Tryz.prog.info? 59).map (fun i => (i.zero, i.size, i.bytes)) = some (some (.agg #[.string ⟨#[]⟩, .slice none 0 0, .int .i64 0, .int .i64 0, .int .i64 0, .bool false, .int .i64 0, .bool false, .bool false]), 9, 88) := by kernel_rfl
theorem step_append_apart {P : Program} {w : World} {ops : Array Oper} {o : Oper} {a : Act} {K : Act → World → Prop} {Q : Exit → Act → World → Prop} {E : Prop} (hgd : o.guard = none) (s x : Operand) (t : TypeId)
    (ho : o.op = .call { callee := .builtin .append, args := #[s, x], argTypes := #[t, t] })
    (base : Nat) (e : TypeId) (i : TypeInfo) (z : Value) (size bytes : Nat) (ht : P.underlying t = some (.slice e)) (hi : P.info? e = some i) (hz : i.zero = some z)
    (hsize : i.size = size) (hby : i.bytes = bytes) (hzs : z.cells.size = size) (hsz : 0 < size)
    (v : Value) (n : Nat) (xs : List Value) (hs : a.eval s = v) (hown : w.ownsRow base e size v n xs)
    (ad : Addr) (m c : Nat) (news : List Value) (hx : a.eval x = .slice (some ad) m c) (hl : news.length = m * size) (hnews : ∀ j u, news[j]? = some u → w.cell? (ad.add j) = some u) (h1 : ∀ u ∈ news, u.oneCell' = true)
    (h63 : n + m ≤ maxLen) (hbytes : (n + m) * bytes ≤ 140737488355328) (hbase : base ≤ w.heap.size) (hm : 0 < m)
    (h : ∀ v' w', w'.ownsRow base e size v' (n + m) (xs ++ news) → w.grownBy w' v.ownBlock → (v'.ownBlock = v.ownBlock ∨ v'.ownBlock = some w.heap.size) → K (a.put o.dst v') w') :
    if Region.wanted o (yielded ops a.tmps) = true then Oper.wp P o a w K Q else E := by
  have hw : Region.wanted o (yielded ops a.tmps) = true := by simp [Region.wanted, hgd]
  rw [if_pos hw]
  obtain ⟨v', w', hr, h2, h3, h4⟩ := run_append_own (P := P) w base t o.type e i z size bytes ht hi hz hsize hby hzs hsz v n xs hown ad m c news hl hnews h1 h63 hbytes hbase
  have h5 := It.append_where w base t o.type e i z size bytes ht hi hz hsize hby v n xs hown ad m c news hm hl hnews h1 h63 hbytes v' w' hr
  unfold Oper.wp execOp
  simp only [ho, resolve, invoke, builtin, Sem.run_bind, Sem.run_pure, Result.andThen_ok, List.map_toArray, List.map_cons, List.map_nil, hs, hx, hr]
  exact h v' w' h2 h3 h5
theorem runs_step {B : Nat} {v v' : Value} {w4 w8 w10 : World} {o : Obj} {l : List Lne} {x : Lne} {e size n : Nat} {xs : List Value} (hb : Below w4.heap.size w4 w8) (hv : w4.ownsRow B e size v n xs) (h : RunsOf B v w4 l) (hx : Ru.P2At (fun b => B ≤ b ∧ v.ownBlock ≠ some b) w4 x.ra x.rn x.L x.Y)
    (hg : (w8.alloc o).grownBy w10 v.ownBlock) (hw : v'.ownBlock = v.ownBlock ∨ v'.ownBlock = some (w8.alloc o).heap.size) : RunsOf B v' w10 (l ++ [x]) := by
  have kk : Ru.Kp (fun b => B ≤ b ∧ v.ownBlock ≠ some b) (fun b => B ≤ b ∧ v'.ownBlock ≠ some b) w4 w10 := by
    intro b i u hs hc
    have hlt := World.block_lt_of_cell? w4 _ hc
    simp only at hlt
    have h8 : (w8.alloc o).cell? ⟨b, i, none⟩ = some u := hold ((Below.refl _ w8).alloc (Nat.le_refl _) o) (hold hb hc)
    have hlt8 := World.block_lt_of_cell? _ _ h8
    simp only at hlt8
    refine ⟨⟨hs.1, ?_⟩, ?_⟩
    · rcases hw with hw | hw
      · rw [hw]; exact hs.2
      · rw [hw]
        intro c
        injection c with c
        omega
    · rw [World.cell?_of_block (a := ⟨b, i, none⟩) (hg.block b hlt8 (fun c => hs.2 c.symm))]; exact h8
  intro y hy
  rcases List.mem_append.1 hy with hy | hy
  · exact (h y hy).keep kk
  · simp at hy; subst hy; exact hx.keep kk
theorem new_cells (w : World) (cs : List Value) (ty : TypeId) : ∀ j u, cs[j]? = some u → (w.alloc (.cells cs.toArray ty)).cell? ((⟨w.heap.size, 0, none⟩ : Addr).add j) = some u := by
  intro j u hj
  rw [Addr.add_lit, Nat.zero_add, cell_of_row _ _ _ _ _ _ (heap_alloc_new w _)]
  simpa using hj
theorem kept10 {w w' : World} {v : Value} {b i : Nat} {u : Value} (hg : w.grownBy w' v.ownBlock) (hne : v.ownBlock ≠ some b) (hc : w.cell? ⟨b, i, none⟩ = some u) : w'.cell? ⟨b, i, none⟩ = some u := by
  have hlt := World.block_lt_of_cell? w _ hc
  simp only at hlt
  rw [World.cell?_of_block (a := ⟨b, i, none⟩) (hg.block b hlt (fun c => hne c.symm))]; exact hc
theorem exr_sok (L Y : Nat → Int) (n k : Nat) (hk : k ≤ n) (h : ∀ i, i < n → 0 ≤ Y i ∧ Y i < 32) : Ru.Sok (Ru.exr L Y k) := by
  induction k with
  | zero => intro y hy; simp [Ru.exr] at hy
  | succ k ih =>
    intro y hy
    simp only [Ru.exr, List.mem_append, List.mem_replicate] at hy
    rcases hy with hy | ⟨_, rfl⟩
    · exact ih (by omega) y hy
    · exact h k (by omega)
theorem own_down {w : World} {B B' e size n : Nat} {v : Value} {xs : List Value} (h : w.ownsRow B e size v n xs) (hB : B' ≤ B) : w.ownsRow B' e size v n xs :=
  ⟨h.1, h.2.imp id (fun ⟨g, c, cu, x1, x2, x3⟩ => ⟨g, c, cu, x1, Nat.le_trans hB x2, x3⟩)⟩
theorem nthL_left (l : List Lne) (x : Lne) (i : Nat) (h : i < l.length) : nthL (l ++ [x]) i = nthL l i := by
  simp [nthL, List.getD_eq_getElem?_getD, List.getElem?_append_left h]
theorem nthL_last (l : List Lne) (x : Lne) : nthL (l ++ [x]) l.length = x := by simp [nthL, List.getD_eq_getElem?_getD]
structure LyI (w2 wr : World) (I : Nat → Itm) (n : Nat) (bs : List Nat) (t : ByteArray) (s : List Int) (G : Nat → It.Sty) (ns : Nat) (width : Int) (k : Nat) (ao : Option Addr) (cp : Nat) : Prop where
  bel : Below w2.heap.size w2 wr
  out : ∃ l : List Lne, l.length = k ∧ wr.ownsRow w2.heap.size 59 9 (.slice ao k cp) k (lnec l) ∧ RunsOf w2.heap.size (.slice ao k cp) wr l ∧ ∀ i, i < k → Laid I n bs t s G ns width i (nthL l i)
section
variable {S S' : Nat → Prop} {w : World} {B tb ns pb n : Nat} {G : Nat → It.Sty} {I : Nat → Itm} {bs : List Nat} {t : ByteArray} {ro bo : Option Addr} {m rc bc : Nat} {L Y : Nat → Int} {width tot : Int} {em : Bool}
set_option maxRecDepth 100000 in
set_option maxHeartbeats 4000000 in
theorem lay10_any (hT : It.TabAt B w tb ns G) (hr : It.RunsAt w ro m L Y) (hm : m ≤ 65536) (hl : Ru.lyf t.size L Y 0 m = (0, (t.size : Int))) (hP : ParaAt S w pb n I) (hw : WB n bs) (hc : Chn I n t.size) (h0 : 0 < t.size) (hb : NAt S' w bo bs) (hcap : bs.length ≤ bc) (hwid : -1099511627776 ≤ width ∧ width ≤ 1099511627776) :
    Calls Tryz.prog 22 #[.pointer (some ⟨tb, 0, none⟩), .string t, .slice ro m rc, .pointer (some ⟨pb, 0, none⟩), .agg #[.slice bo bs.length bc, .int .i64 tot, .bool em], .int .i64 width] w fun e w' => ∃ ao cap l, e = .returned (.slice ao bs.length cap) ∧ l.length = bs.length ∧ w'.ownsRow w.heap.size 59 9 (.slice ao bs.length cap) bs.length (lnec l) ∧ RunsOf w.heap.size (.slice ao bs.length cap) w' l ∧ (∀ i, i < bs.length → Laid I n bs t (Ru.exr L Y m) G ns width i (nthL l i)) ∧ Below w.heap.size w w' := by
  obtain ⟨i0, hi, hz0, hz1, hz2⟩ := info_parts info_line10
  obtain ⟨W0, hW0, hB0, hN0⟩ : ∃ W0, w.alloc (.cells #[.slice bo bs.length bc, .int .i64 tot, .bool em] 35) = W0 ∧ Below w.heap.size w W0 ∧ W0.heap[w.heap.size]? = some (.cells #[.slice bo bs.length bc, .int .i64 tot, .bool em] 35 (0, 0)) := ⟨_, rfl, (Below.refl _ _).alloc (Nat.le_refl _) _, heap_alloc_new w _⟩
  have hsz := hc.size
  have hn := hc.le
  have hbn : bs.length ≤ 262144 := by
    have hr : ∀ i, i < bs.length → i ≤ bs.getD i 0 := by
      intro i
      induction i with
      | zero => intro _; omega
      | succ i ih => intro hi; have := ih (by omega); have := hw.rise i hi; omega
    have h0 := hw.pos
    have h1 := hr (bs.length - 1) (by omega)
    have h2 := hw.lt (bs.length - 1) (by omega)
    omega
  have hS := styled_any (w := W0) t.size ro m rc L Y (hr.below hB0) hm hsz hl
  have hex : (Ru.exr L Y m).length = t.size := by
    have := (Ru.lyf_ok t.size L Y 0 (by omega) hsz m t.size hl).2.2.2.2
    omega
  have hsok : Ru.Sok (Ru.exr L Y m) := exr_sok L Y m m (Nat.le_refl _) (Ru.lyf_ok t.size L Y 0 (by omega) hsz m t.size hl).2.2.2.1
  have HW := boxed hw
  have HC := boxed hc
  have HT := boxed (hT.below hB0)
  have HP := boxed (hP.below hB0)
  have HBr := boxed (hb.below hB0)
  have HB0 := boxed hB0
  have HN0 := boxed hN0
  have HEX := boxed hex
  have HSO := boxed hsok
  obtain ⟨sl, hsl⟩ : ∃ sl, Ru.exr L Y m = sl := ⟨_, rfl⟩
  rw [hsl] at hS HEX HSO ⊢
  have hW2 := boxed hW0
  clear hT hr hP hw hc hb hl hex hsok hB0 hN0 hsl
  obtain ⟨M, hM⟩ : ∃ M, bs.length = M := ⟨_, rfl⟩
  rw [hM] at hbn hcap hW0 hW2 HN0 ⊢
  have HM := boxed hM
  obtain ⟨c0, c1, c2⟩ : W0.cell? ⟨w.heap.size, 0, none⟩ = some (.slice bo M bc) ∧ W0.cell? ⟨w.heap.size, 1, none⟩ = some (.int .i64 tot) ∧ W0.cell? ⟨w.heap.size, 2, none⟩ = some (.bool em) := ⟨(cell_of_row _ _ _ _ _ _ HN0.out), (cell_of_row _ _ _ _ _ _ HN0.out), (cell_of_row _ _ _ _ _ _ HN0.out)⟩
  clear hM
  go_enter Tryz.func22, Tryz.ntmps22
  go_wp2_with fail
  refine hS.mono ?_
  rintro e w1 ⟨lb, lo, lc, bare, rfl, hL, hb1⟩
  have HB1 := boxed (HB0.out.trans (hb1.mono HB0.out.size))
  have HN1 := boxed ((hb1.block w.heap.size ((Array.getElem?_eq_some_iff.1 HN0.out).1)).trans HN0.out)
  have hCu := cuts_any (HP.out.below hb1) HW.out HC.out (HBr.out.below hb1) (lc := bc) (by rw [HM.out]; exact hcap)
  rw [HM.out] at hCu
  have HL := boxed hL
  have HT1 := boxed (HT.out.below hb1)
  have HP1 := boxed (HP.out.below hb1)
  have HBr1 := boxed (HBr.out.below hb1)
  have c0' := hold hb1 c0
  clear hS hL hb1 c0 c1 c2 hW0 hW2 HT HP HBr HN0 HB0
  go_wp2_with fail
  refine hCu.mono ?_
  rintro e w2 ⟨co, cc, rfl, hN, hb2⟩
  have HB2 := boxed (below_step HB1.out (Nat.le_refl _) hb2)
  have hMp : 0 < M := by have := HW.out.pos; rw [HM.out] at this; exact this
  have hlr : ((List.range M).map (lnC I n bs t.size)).length = M := by simp
  obtain ⟨cg, rfl, -, hcg⟩ := hN.form (by rw [hlr]; exact hMp)
  have HCG : Box (∀ i, i < M → w2.cell? ⟨cg, i, none⟩ = some (.int .i64 (lnC I n bs t.size i : Nat))) := boxed (fun i hi => by
    have := hcg i (by rw [hlr]; exact hi)
    rw [this]
    simp [hi])
  have HL2 := boxed (HL.out.below hb2)
  have HT2 := boxed (HT1.out.below hb2)
  have HP2 := boxed (HP1.out.below hb2)
  have HBr2 := boxed (HBr1.out.below hb2)
  have HC0 := boxed (hold hb2 c0')
  have HLy : Box (LyI w2 w2 I n bs t sl G ns width 0 none 0) := boxed ⟨Below.refl _ _, [], rfl, World.ownsRow_nil _ _ _ _, (fun x hx => by simp at hx), fun i hi => by omega⟩
  clear hN hcg hb2 hCu HL HT1 HP1 HBr1 c0' hlr HN1
  go_wp2_with fail
  go_loopw [14, 15, 16, 36] (fun vo vf va vk wr => ∃ (k : Nat) (ao : Option Addr) (cp : Nat), k ≤ M ∧ vk = .int .i64 (k : Nat) ∧ vo = .slice ao k cp ∧ vf = .int .i64 (lnF I n bs t.size k : Nat) ∧ va = .int .i64 (lnA bs k) ∧ Box (LyI w2 wr I n bs t sl G ns width k ao cp)) (fun _ _ _ vk _ => M - (intOf vk).toNat)
  case atStart => exact ⟨0, none, 0, Nat.zero_le _, rfl, rfl, by rw [lnF_zero]; rfl, by rw [lnA_zero], HLy⟩
  case round =>
    obtain ⟨k, ao, cp, hk, rfl, rfl, rfl, rfl, HI⟩ := hrel
    by_cases hlt : k < M
    · have hle := ln_le HW.out HC.out k (by rw [HM.out]; exact hlt)
      have hF1 := lnF_next (I := I) (n := n) (bs := bs) (sz := t.size) k
      have hA1 := lnA_next (bs := bs) k
      obtain ⟨bg, hbe, -, hbg⟩ := HBr2.out.form (by rw [HM.out]; exact hMp)
      have hbs := HW.out.lt k (by rw [HM.out]; exact hlt)
      have x0 := hold HI.out.bel (HCG.out k hlt)
      have x1 := hold HI.out.bel HC0.out
      have x2 := hold HI.out.bel (hbg k (by rw [HM.out]; exact hlt))
      have hSl := Ru.slice_any (HL2.out.below HI.out.bel) (lnF I n bs t.size k : Nat) (lnC I n bs t.size k : Nat)
      have hob : Ru.outb sl.length (lnF I n bs t.size k : Nat) (lnC I n bs t.size k : Nat) = false := (Ru.outb_iff _ _ _).2 (by rw [HEX.out]; omega)
      unfold Ru.SlcP at hSl
      simp only [Int.toNat_natCast] at hSl
      generalize hlf : lnF I n bs t.size k = lf at *
      generalize hlc : lnC I n bs t.size k = ct at *
      generalize hla : lnA bs k = la at *
      generalize hbk : bs.getD k 0 = bk at *
      go_wp2_with fail
      refine hSl.mono ?_
      rintro e w3 (⟨hf, -⟩ | ⟨-, v3, rfl, ho3, hb3⟩)
      · rw [hob] at hf; cases hf
      obtain ⟨po, pc, rfl⟩ := own_shape ho3
      have hpr := Ru.own_runs ho3 rfl (Ru.enc_ok (Ru.sok_sub HSO.out lf ct) (by
        have := Ru.sub_len sl lf ct (by rw [HEX.out]; omega)
        omega))
      have HB3 := boxed (HI.out.bel.trans (hb3.mono HI.out.bel.size))
      have HPr : Box (Ru.P2At (fun b => w2.heap.size ≤ b ∧ (Value.slice ao k cp).ownBlock ≠ some b) w3 po (Ru.enc (Ru.sub sl lf ct)).length (rnL sl lf ct) (rnY sl lf ct)) := boxed (hpr.keep (fun b i u hs hc => ⟨⟨Nat.le_trans HI.out.bel.size hs, fun c => by
        obtain ⟨l, q1, q2, q3, q4⟩ := HI.out.out
        have := (q2.lt b c).2
        omega⟩, hc⟩))
      have y1 := hold hb3 x1
      have y2 := hold hb3 x2
      have hFi := pfit_any (HP2.out.below HB3.out) hn HC.out.ok la (bk : Nat) width hwid
      have HO3 : Box (∃ l : List Lne, l.length = k ∧ w3.ownsRow w2.heap.size 59 9 (.slice ao k cp) k (lnec l) ∧ RunsOf w2.heap.size (.slice ao k cp) w3 l ∧ ∀ i, i < k → Laid I n bs t sl G ns width i (nthL l i)) := boxed (by
        obtain ⟨l, q1, q2, q3, q4⟩ := HI.out.out
        exact ⟨l, q1, owns_below q2 hb3, fun x hx => (q3 x hx).below hb3, q4⟩)
      subst hbe
      have hwr := hb3.size
      clear ho3 hpr hb3 x0 x1 x2 hSl hob hbg
      unfold Ft.val at hFi
      generalize hFt : setF (lin I n la (bk : Nat)) width = ft at *
      go_wp2_with fail
      refine hFi.mono ?_
      rintro e w4 ⟨rfl, hb4⟩
      have HB4 := boxed (HB3.out.trans (hb4.mono HB3.out.size))
      have HPr4 := boxed (HPr.out.below hb4)
      have HY4 := boxed (hold hb4 y1)
      have HO4 : Box (∃ l : List Lne, l.length = k ∧ w4.ownsRow w2.heap.size 59 9 (.slice ao k cp) k (lnec l) ∧ RunsOf w2.heap.size (.slice ao k cp) w4 l ∧ ∀ i, i < k → Laid I n bs t sl G ns width i (nthL l i)) := boxed (by
        obtain ⟨l, q1, q2, q3, q4⟩ := HO3.out
        exact ⟨l, q1, owns_below q2 hb4, fun x hx => (q3 x hx).below hb4, q4⟩)
      have hw4 := hb4.size
      clear hb4 y1 y2 hFi HPr HO3
      obtain ⟨l, q1, q2, q3, q4⟩ := HO4.out
      have HQ2 := boxed q2
      have HQ := boxed (And.intro q1 (And.intro q3 q4))
      clear q1 q2 q3 q4 HO4
      have hcl := fun W => clone10_any (t.extract lf ct) W (by
        rw [ByteArray.size_extract]
        omega)
      have hhe := fun (W : World) (hb : Below w4.heap.size w4 W) => height10_any (pc := pc) (HT2.out.below (HB4.out.trans (hb.mono HB4.out.size))) (HL2.out.below (HB4.out.trans (hb.mono HB4.out.size))) lf ct hle.1 (by rw [HEX.out]; exact hle.2) (by rw [HEX.out]; exact h0) (HPr4.out.below hb)
      have hit := fun (W : World) (hb : Below w4.heap.size w4 W) => item_any (HP2.out.below (HB4.out.trans (hb.mono HB4.out.size))) hn (bk : Nat)
      have hit1 : itm I n (bk : Nat) = I bk := by unfold itm; rw [if_pos (by omega)]; simp
      rw [hit1] at hit
      have hhy := fun W => hyphenated_any (I bk) W
      have hss := str_mid t lf ct hle.1 hle.2
      obtain ⟨W4, hW4, hBW, hNW⟩ : ∃ W4, w4.alloc (.cells #[.int .i64 ft.num, .int .i64 ft.den, .int .i64 ft.bad, .int .i64 ft.cls, .bool ft.over] 105) = W4 ∧ Below w4.heap.size w4 W4 ∧ W4.heap[w4.heap.size]? = some (.cells #[.int .i64 ft.num, .int .i64 ft.den, .int .i64 ft.bad, .int .i64 ft.cls, .bool ft.over] 105 (0, 0)) := ⟨_, rfl, (Below.refl _ _).alloc (Nat.le_refl _) _, heap_alloc_new w4 _⟩
      obtain ⟨kb, hkb⟩ : ∃ kb, ((k : Int) == 0) = kb := ⟨_, rfl⟩
      obtain ⟨M1, hM1⟩ : ∃ M1, M = M1 + 1 := ⟨M - 1, by omega⟩
      have hwM : IntKind.i64.wrap ((M : Int) - 1) = (M1 : Int) := by rw [IntKind.wrap_i64]; omega
      obtain ⟨ke, hke⟩ : ∃ ke, ((k : Int) == (M1 : Int)) = ke := ⟨_, rfl⟩
      have HM1 := boxed hM1
      clear hM1
      have HX : Box (∀ W, Below W4.heap.size W4 W → W.cell? ⟨w4.heap.size, 0, none⟩ = some (.int .i64 ft.num) ∧ W.cell? ⟨w4.heap.size, 1, none⟩ = some (.int .i64 ft.den) ∧ W.cell? ⟨w.heap.size, 0, none⟩ = some (.slice (some ⟨bg, 0, none⟩) M bc)) := boxed (fun W hb => ⟨hold hb (cell_of_row _ _ _ _ _ _ hNW), hold hb (cell_of_row _ _ _ _ _ _ hNW), hold hb (hold hBW HY4.out)⟩)
      have HD : Box (Below W4.heap.size W4 W4.drew) := boxed (Below.refl _ _).drew
      have HD4 : Box (Below w4.heap.size w4 W4.drew) := boxed hBW.drew
      generalize hHg : hgt G ns sl lf ct = hg at *
      generalize hhp : ((I bk).flag && decide ((I bk).fr < (I bk).to)) = hp at *
      generalize hte : t.extract lf ct = te at *
      generalize hEN : (Ru.enc (Ru.sub sl lf ct)).length = en at *
      have HE4 := boxed hEN
      have H1c : Box (∀ u ∈ ([.string te, .slice po en pc, .int .i64 ft.num, .int .i64 ft.den, .int .i64 hg, .bool hp, .int .i64 0, .bool kb, .bool ke] : List Value), u.oneCell' = true) := boxed (by
        intro u hu
        simp at hu
        rcases hu with rfl | rfl | rfl | rfl | rfl | rfl | rfl | rfl | rfl <;> rfl)
      have HNE : Box ((Value.slice ao k cp).ownBlock ≠ some w4.heap.size ∧ (Value.slice ao k cp).ownBlock ≠ some w.heap.size) := boxed ⟨fun c => by have := (HQ2.out.lt _ c).2; omega, fun c => by
        have h1 := (HQ2.out.lt _ c).1
        have h2 := World.block_lt_of_cell? w2 _ HC0.out
        simp only at h2
        omega⟩
      have HH := boxed hhe
      have HIt := boxed hit
      have HBn := boxed hBW
      have HNW := boxed hNW
      have hzW : w4.heap.size < W4.heap.size := (Array.getElem?_eq_some_iff.1 hNW).1
      have HXk := boxed (fun W hb => HX.out W hb)
      clear hhe hit hEN hBW hNW
      unfold Itm.val at hhy HIt
      go_wp2_with fail
      go_region_held3 (fun W => W.cell? ⟨w4.heap.size, 0, none⟩ = some (.int .i64 ft.num) ∧ W.cell? ⟨w4.heap.size, 1, none⟩ = some (.int .i64 ft.den) ∧ W.cell? ⟨w.heap.size, 0, none⟩ = some (.slice (some ⟨bg, 0, none⟩) M bc))
        (first | with_reducible exact HX.out _ HD.out | with_reducible exact HX.out _ HB5.out | with_reducible exact HX.out _ HB6.out | with_reducible exact HX.out _ HB7.out | with_reducible exact HX.out _ HB8.out | with_reducible exact HX.out _ HB9.out | with_reducible exact HX10.out)
        (first
          | (go_at_call 70; refine (hcl _).mono ?_; rintro e w5 ⟨rfl, hb5⟩; have HB5 := boxed (below_step HD.out (Nat.le_refl _) hb5); have HC5 := boxed (below_step HD4.out (Nat.le_refl _) hb5); clear hb5)
          | (go_at_call 71; refine (HH.out _ HC5.out).mono ?_; rintro e w6 ⟨rfl, hb6⟩; have HB6 := boxed (below_step HB5.out (Nat.le_refl _) hb6); have HC6 := boxed (below_step HC5.out (Nat.le_refl _) hb6); clear hb6)
          | (go_at_call 73; refine (HIt.out _ HC6.out).mono ?_; rintro e w7 ⟨rfl, hb7⟩; have HB7 := boxed (below_step HB6.out (Nat.le_refl _) hb7); have HC7 := boxed (below_step HC6.out (Nat.le_refl _) hb7); clear hb7)
          | (go_at_call 72; refine (hhy _).mono ?_; rintro e w8 ⟨rfl, hb8⟩; have HB8 := boxed (below_step HB7.out (Nat.le_refl _) hb8); have HC8 := boxed (below_step HC7.out (Nat.le_refl _) hb8); have HB9 : Box (Below W4.heap.size W4 (w8.alloc (.cells #[.string te, .slice po en pc, .int .i64 ft.num, .int .i64 ft.den, .int .i64 hg, .bool hp, .int .i64 0, .bool kb, .bool ke] 59))) := boxed (HB8.out.alloc HB8.out.size _); have HQ9 : Box ((w8.alloc (.cells #[.string te, .slice po en pc, .int .i64 ft.num, .int .i64 ft.den, .int .i64 hg, .bool hp, .int .i64 0, .bool kb, .bool ke] 59)).ownsRow w2.heap.size 59 9 (.slice ao k cp) k (lnec l)) := boxed (owns_below HQ2.out (HC8.out.alloc HC8.out.size _)); have HS9 : Box (w2.heap.size ≤ (w8.alloc (.cells #[.string te, .slice po en pc, .int .i64 ft.num, .int .i64 ft.den, .int .i64 hg, .bool hp, .int .i64 0, .bool kb, .bool ke] 59)).heap.size) := boxed (by have h1 := HB4.out.size; have h2 := HC8.out.size; simp; omega); have HN9 := boxed (new_cells w8 [.string te, .slice po en pc, .int .i64 ft.num, .int .i64 ft.den, .int .i64 hg, .bool hp, .int .i64 0, .bool kb, .bool ke] 59); clear hb8)
          | (refine step_append_apart rfl _ _ 32 rfl w2.heap.size 59 i0 _ 9 88 Tryz.underlying32 hi hz0 hz1 hz2 rfl (by decide) _ _ _ rfl HQ9.out ⟨w8.heap.size, 0, none⟩ 1 1 [.string te, .slice po en pc, .int .i64 ft.num, .int .i64 ft.den, .int .i64 hg, .bool hp, .int .i64 0, .bool kb, .bool ke] rfl rfl HN9.out H1c.out (by unfold maxLen; omega) (by omega) HS9.out (by decide) ?_; intro v' w10 ho10 hg10 hwh10; obtain ⟨ao6, cp6, rfl⟩ := own_shape ho10; have HR10 := boxed (And.intro ho10 (And.intro hg10 hwh10)); have HX10 : Box (w10.cell? ⟨w4.heap.size, 0, none⟩ = some (.int .i64 ft.num) ∧ w10.cell? ⟨w4.heap.size, 1, none⟩ = some (.int .i64 ft.den) ∧ w10.cell? ⟨w.heap.size, 0, none⟩ = some (.slice (some ⟨bg, 0, none⟩) M bc)) := boxed (by obtain ⟨s1, s2, s3⟩ := HX.out _ HB9.out; exact ⟨kept10 hg10 HNE.out.1 s1, kept10 hg10 HNE.out.1 s2, kept10 hg10 HNE.out.2 s3⟩); clear ho10 hg10 hwh10))
      clear hcl HH HIt hhy hss hz0 hz1 hz2 hi HN9 H1c HX HX10 HXk HQ9
      have HF : Box (LyI w2 w10 I n bs t sl G ns width (k + 1) ao6 cp6) := boxed (by
        obtain ⟨q1, q3, q4⟩ := HQ.out
        obtain ⟨ho10, hg10, hwh10⟩ := HR10.out
        have hb8 := HB4.out.trans (HC8.out.mono HB4.out.size)
        refine ⟨(hb8.alloc hb8.size _).grown hg10 HS9.out (fun r e => (HQ2.out.lt r e).1), l ++ [⟨te, po, en, pc, ft.num, ft.den, hg, hp, 0, kb, ke, rnL sl lf ct, rnY sl lf ct⟩], by simp [q1], ?_, ?_, ?_⟩
        · rw [lnec_app, lnec_one]; exact ho10
        · exact runs_step HC8.out HQ2.out q3 HPr4.out hg10 hwh10
        · intro i hi
          by_cases c : i < k
          · rw [nthL_left _ _ _ (by omega)]; exact q4 i c
          · obtain rfl : i = k := by omega
            have e1 := nthL_last l ⟨te, po, en, pc, ft.num, ft.den, hg, hp, 0, kb, ke, rnL sl lf ct, rnY sl lf ct⟩
            rw [q1] at e1
            rw [e1]
            refine ⟨?_, ?_, ?_, ?_, ?_, ?_, ?_, ?_, rfl, ?_, ?_⟩
            · rw [hlf, hlc]; exact hte.symm
            · rw [hlf, hlc]; exact HE4.out.symm
            · intro j _; rw [hlf, hlc]
            · intro j _; rw [hlf, hlc]
            · rw [hla, hbk, hFt]
            · rw [hla, hbk, hFt]
            · rw [hlf, hlc]; exact hHg.symm
            · rw [hbk]; exact hhp.symm
            · show kb = _
              rw [← hkb, Bool.eq_iff_iff, beq_iff_eq, decide_eq_true_eq]; omega
            · show ke = _
              have h1 := HM1.out
              have h2 := HM.out
              rw [← hke, Bool.eq_iff_iff, beq_iff_eq, decide_eq_true_eq]; omega)
      clear HR10 HQ2 HQ HB9 HB5 HB6 HB7 HB8 hkb hke hwM
      go_wp2_with fail
      go_roundw
      case rel => exact ⟨k + 1, ao6, cp6, by omega, by go_num, rfl, by rw [hF1], by rw [hA1], HF⟩
      case measure => simp [intOf]; omega
    · obtain rfl : M = k := by omega
      go_wp2
      go_ret
      obtain ⟨l, q1, q2, q3, q4⟩ := HI.out.out
      have hw2 := HB2.out.size
      exact ⟨ao, cp, l, rfl, q1, own_down q2 hw2, fun x hx => (q3 x hx).keep (fun b i u hs hc => ⟨⟨Nat.le_trans hw2 hs.1, hs.2⟩, hc⟩), q4, HB2.out.trans (HI.out.bel.mono hw2)⟩
end
end Go.Proofs.YtcjcdpfjnomehaaGreat
