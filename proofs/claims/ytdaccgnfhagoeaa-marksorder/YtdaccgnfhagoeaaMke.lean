/-
  What the program's place, Insert and Delete do.
-/
import Derived.Test.YtdaccgnfhagoeaaMkd
namespace Go.Proofs.Ytdaccgnfhagoeaa
open Go.RowKit
set_option linter.unusedSimpArgs false
set_option linter.unusedVariables false

theorem insP_pl (a n : Int) (m : Mk) : (insP a n m).pl = if m.pl > a ∨ m.pl = a ∧ m.st = false then m.pl + n else m.pl := by unfold insP; split <;> rfl
theorem delP_pl (f t : Int) (m : Mk) : (delP f t m).pl = if m.pl ≥ t then m.pl - (t - f) else min m.pl f := by unfold delP; split <;> rfl
set_option maxRecDepth 100000 in
theorem ins1_any (m : Mk) (a n : Int) (b1 b2 : Nat) (w : World) (h1 : w.cell? ⟨b1, 0, none⟩ = some (.int .i64 a)) (h2 : w.cell? ⟨b2, 0, none⟩ = some (.int .i64 n)) (hp : 0 ≤ m.pl ∧ m.pl ≤ 65536) (hn : 0 ≤ n ∧ n ≤ 65536) :
    Calls Try.prog 36 #[m.val, .pointer (some ⟨b1, 0, none⟩), .pointer (some ⟨b2, 0, none⟩)] w fun e w' => e = .returned (.int .i64 (insP a n m).pl) ∧ Below w.heap.size w w' := by
  have HE := boxed (insP_pl a n m)
  have q1 : b1 < w.heap.size := World.block_lt_of_cell? w _ h1
  have q2 : b2 < w.heap.size := World.block_lt_of_cell? w _ h2
  obtain ⟨i, p, b⟩ := m
  obtain ⟨hp0, hp1⟩ := hp
  obtain ⟨hn0, hn1⟩ := hn
  simp only at hp0 hp1 HE
  unfold Mk.val
  have HB : Box (Below w.heap.size w (w.alloc (.cells #[.int .i64 i, .int .i64 p, .bool b] 36))) := boxed ((Below.refl _ _).alloc (Nat.le_refl _) _)
  by_cases c : p > a
  · have t1 : decide (a < p) = true := decide_eq_true c
    have HV : Box ((insP a n ⟨i, p, b⟩).pl = p + n) := boxed (by rw [HE.out, if_pos (.inl c)])
    clear c HE
    go_enter Try.func36, Try.ntmps36
    go_wp2
    go_ret
    exact ⟨by rw [HV.out]; rfl, HB.out⟩
  · have t1 : decide (a < p) = false := decide_eq_false c
    by_cases d : p = a
    · cases b
      · have HV : Box ((insP a n ⟨i, p, false⟩).pl = p + n) := boxed (by rw [HE.out, if_pos (.inr ⟨d, rfl⟩)])
        subst d
        clear c HE
        go_enter Try.func36, Try.ntmps36
        go_wp2
        go_ret
        exact ⟨by rw [HV.out]; rfl, HB.out⟩
      · have HV : Box ((insP a n ⟨i, p, true⟩).pl = p) := boxed (by rw [HE.out, if_neg (by rintro (h | ⟨_, h⟩); exact c h; cases h)])
        subst d
        clear c HE
        go_enter Try.func36, Try.ntmps36
        go_wp2
        go_ret
        exact ⟨by rw [HV.out]; rfl, HB.out⟩
    · have HV : Box ((insP a n ⟨i, p, b⟩).pl = p) := boxed (by rw [HE.out, if_neg (by rintro (h | ⟨h, _⟩); exact c h; exact d h)])
      clear c HE
      go_enter Try.func36, Try.ntmps36
      go_wp2
      go_ret
      exact ⟨by rw [HV.out]; rfl, HB.out⟩
set_option maxRecDepth 100000 in
theorem del1_any (m : Mk) (f t g : Int) (b1 b2 b3 : Nat) (w : World) (h1 : w.cell? ⟨b1, 0, none⟩ = some (.int .i64 t)) (h2 : w.cell? ⟨b2, 0, none⟩ = some (.int .i64 g)) (h3 : w.cell? ⟨b3, 0, none⟩ = some (.int .i64 f)) (hg : t - f = g) (hp : 0 ≤ m.pl ∧ m.pl ≤ 65536) (hn : 0 ≤ g ∧ g ≤ 65536) :
    Calls Try.prog 37 #[m.val, .pointer (some ⟨b1, 0, none⟩), .pointer (some ⟨b2, 0, none⟩), .pointer (some ⟨b3, 0, none⟩)] w fun e w' => e = .returned (.int .i64 (delP f t m).pl) ∧ Below w.heap.size w w' := by
  have HE := boxed (delP_pl f t m)
  have q1 : b1 < w.heap.size := World.block_lt_of_cell? w _ h1
  have q2 : b2 < w.heap.size := World.block_lt_of_cell? w _ h2
  have q3 : b3 < w.heap.size := World.block_lt_of_cell? w _ h3
  rw [hg] at HE
  obtain ⟨i, p, b⟩ := m
  obtain ⟨hp0, hp1⟩ := hp
  obtain ⟨hn0, hn1⟩ := hn
  simp only at hp0 hp1 HE
  unfold Mk.val
  have HB : Box (Below w.heap.size w (w.alloc (.cells #[.int .i64 i, .int .i64 p, .bool b] 36))) := boxed ((Below.refl _ _).alloc (Nat.le_refl _) _)
  by_cases c : p ≥ t
  · have t1 : decide (t ≤ p) = true := decide_eq_true c
    have HV : Box ((delP f t ⟨i, p, b⟩).pl = p - g) := boxed (by rw [HE.out, if_pos c])
    clear c HE hg
    go_enter Try.func37, Try.ntmps37
    go_wp2
    go_ret
    exact ⟨by rw [HV.out]; rfl, HB.out⟩
  · have t1 : decide (t ≤ p) = false := decide_eq_false c
    have HV : Box ((delP f t ⟨i, p, b⟩).pl = min p f) := boxed (by rw [HE.out, if_neg c])
    clear c HE hg
    go_enter Try.func37, Try.ntmps37
    go_wp2
    all_goals
      go_ret
      refine ⟨?_, HB.out⟩
      rw [HV.out]
      exact ret_int (by omega)
/-- Marks of which the first k are placed anew. -/
def plc (F : Mk → Mk) (L : List Mk) (k : Nat) : List Mk := (L.take k).map F ++ L.drop k
theorem plc_len (F : Mk → Mk) (L : List Mk) (k : Nat) : (plc F L k).length = L.length := by simp [plc]; omega
theorem plc_zero (F : Mk → Mk) (L : List Mk) : plc F L 0 = L := by simp [plc]
theorem plc_all (F : Mk → Mk) (L : List Mk) : plc F L L.length = L.map F := by simp [plc]
theorem plc_get (F : Mk → Mk) (L : List Mk) (k : Nat) (h : k < L.length) : (plc F L k)[k]'(by rw [plc_len]; exact h) = L[k] := by
  simp only [plc]
  rw [List.getElem_append_right (by simp; omega)]
  simp [Nat.min_eq_left (Nat.le_of_lt h)]
theorem plc_step (F : Mk → Mk) (L : List Mk) (k : Nat) (h : k < L.length) (hF : ∀ m, F m = { m with pl := (F m).pl }) : (plc F L k).set k { L[k] with pl := (F L[k]).pl } = plc F L (k + 1) := by
  rw [← hF]
  simp only [plc]
  rw [List.set_append_right _ _ (by simp; omega)]
  have e1 : k - (List.map F (List.take k L)).length = 0 := by simp; omega
  rw [e1, List.drop_eq_getElem_cons h, List.set_cons_zero, List.take_succ_eq_append_getElem h, List.map_append]
  simp
theorem insP_form (a n : Int) (m : Mk) : insP a n m = { m with pl := (insP a n m).pl } := by unfold insP; split <;> rfl
theorem delP_form (a n : Int) (m : Mk) : delP a n m = { m with pl := (delP a n m).pl } := by unfold delP; split <;> rfl
set_option maxRecDepth 100000 in
set_option maxHeartbeats 2000000 in
theorem placeI_any {B : Nat} {w : World} {sb : Nat} {v : Value} {s : St} (h : PS B w sb v s) (hB : B ≤ w.heap.size) (hlen : s.L.length ≤ 1024) (F : Mk → Mk) (hF : ∀ m, F m = { m with pl := (F m).pl }) (b1 b2 : Nat) (D : Nat → Prop) (hD : ∀ k, Own sb v k → D k)
    (hc : ∀ W, Chg D w W → ∀ m ∈ s.L, Calls Try.prog 36 #[m.val, .pointer (some ⟨b1, 0, none⟩), .pointer (some ⟨b2, 0, none⟩)] W fun e W' => e = .returned (.int .i64 (F m).pl) ∧ Below W.heap.size W W') :
    Calls Try.prog 35 #[.pointer (some ⟨sb, 0, none⟩), .func (.func 36) #[] #[.pointer (some ⟨b1, 0, none⟩), .pointer (some ⟨b2, 0, none⟩)]] w fun e w' => e = .returned (.tuple #[]) ∧ PS B w' sb v { s with L := s.L.map F } ∧ Chg (Own sb v) w w' := by
  obtain ⟨⟨-, -, c2⟩, -⟩ := h.cells
  obtain ⟨ao, cap, rfl⟩ := own_shape h.own
  have HP := boxed h
  have HF := boxed hF
  have HC := boxed hc
  have HDD := boxed hD
  have HPL := boxed (plc_len F s.L)
  obtain ⟨n, hn⟩ : ∃ n, s.L.length = n := ⟨_, rfl⟩
  have HN := boxed hn
  rw [hn] at c2 hlen HP HDD ⊢
  clear h hF hc hn hD
  go_enter Try.func35, Try.ntmps35
  go_wp2_with fail
  go_loopw [11] (fun a wr => ∃ k : Nat, a = .int .i64 (k : Nat) ∧ k ≤ n ∧ Box (PS B wr sb (.slice ao n cap) { s with L := plc F s.L k }) ∧ Box (Chg (Own sb (.slice ao n cap)) w wr)) (fun a _ => n - (intOf a).toNat)
  case atStart => exact ⟨0, rfl, by omega, boxed (by rw [plc_zero]; exact HP.out), boxed (Chg.refl _ _)⟩
  case round =>
    obtain ⟨k, rfl, hk, HPk, HCk⟩ := hrel
    by_cases hlt : k < n
    · have hkL : k < s.L.length := by rw [HN.out]; exact hlt
      obtain ⟨g, cp, e', hcap, d0, d1, d2, hfz⟩ := own_mk HPk.out.own k (by show k < (plc F s.L k).length; rw [HPL.out, HN.out]; exact hlt)
      injection e' with e1 e2 e3
      subst e1; subst e3
      rw [← e2] at hcap
      clear e2
      have hget := plc_get F s.L k hkL
      simp only [hget] at d0 d1 d2
      obtain ⟨⟨x0, x1, x2⟩, -⟩ := HPk.out.cells
      have hkn : (k : Int) < (n : Int) := by omega
      have HM := boxed (List.getElem_mem hkL)
      have HSt := boxed (plc_step F s.L k hkL HF.out)
      have HSet := boxed (mcs_set_pl (plc F s.L k) k (by rw [HPL.out]; exact hkL) (F s.L[k]).pl)
      rw [hget] at HSet
      have HCa := boxed (fun W hW => HC.out W hW _ HM.out)
      have HOk := boxed HPk.out.own
      have HBk := boxed HPk.out.blk
      have HLo := boxed HPk.out.lo
      generalize hm : s.L[k]'hkL = m at *
      generalize hq : (F m).pl = q at *
      have hsb : sb < wr.heap.size := HPk.out.lt
      have hgl : g < wr.heap.size := (HPk.out.own.lt g rfl).2
      obtain ⟨Z, hZ⟩ : ∃ Z, wr.heap.size = Z := ⟨_, rfl⟩
      have y1 := hfz (k * 3 + 1)
      clear hm hq hfz hget
      obtain ⟨mi, mp, mb⟩ := m
      unfold Mk.val at HCa
      simp only at d0 d1 d2 HSt HSet
      obtain ⟨W, hW⟩ : ∃ W, wr.alloc (.cells #[.int .i64 mi, .int .i64 mp, .bool mb] 36) = W := ⟨_, rfl⟩
      have hWb : Below wr.heap.size wr W := by rw [← hW]; exact (Below.refl _ _).alloc (Nat.le_refl _) _
      have hWn : W.heap[Z]? = some (.cells #[.int .i64 mi, .int .i64 mp, .bool mb] 36 (0, 0)) := by rw [← hW, ← hZ]; exact heap_alloc_new _ _
      have hWz : W.heap.size = Z + 1 := by rw [← hW, ← hZ]; simp
      have HX : Box (∀ W', Below W.heap.size W W' → W'.cell? ⟨sb, 2, none⟩ = some (.slice (some ⟨g, 0, none⟩) n cap) ∧ W'.cell? ⟨Z, 0, none⟩ = some (.int .i64 mi) ∧ W'.cell? ⟨Z, 1, none⟩ = some (.int .i64 mp) ∧ W'.cell? ⟨Z, 2, none⟩ = some (.bool mb)) := boxed (fun W' hb => by
        have hn' : W'.heap[Z]? = some (.cells #[.int .i64 mi, .int .i64 mp, .bool mb] 36 (0, 0)) := by rw [hb.block Z (by omega)]; exact hWn
        exact ⟨hold hb (hold hWb x2), (cells3 hn').1⟩)
      have HX2 : Box (∀ W', Below W.heap.size W W' → (W'.setCell ⟨g, k * 3 + 1, none⟩ (.int .i64 q)).cell? ⟨sb, 2, none⟩ = some (.slice (some ⟨g, 0, none⟩) n cap) ∧ (W'.setCell ⟨g, k * 3 + 1, none⟩ (.int .i64 q)).cell? ⟨Z, 0, none⟩ = some (.int .i64 mi) ∧ (W'.setCell ⟨g, k * 3 + 1, none⟩ (.int .i64 q)).cell? ⟨Z, 1, none⟩ = some (.int .i64 mp) ∧ (W'.setCell ⟨g, k * 3 + 1, none⟩ (.int .i64 q)).cell? ⟨Z, 2, none⟩ = some (.bool mb)) := boxed (fun W' hb => by
        have hb2 := below_step hWb (Nat.le_refl _) hb
        have hP2 := HPk.out.below hb2
        have hne := own_ne hP2.own hP2.blk (by decide)
        have hgs : g ≠ sb := fun e => hne (by rw [e]; rfl)
        have hn' : (W'.setCell ⟨g, k * 3 + 1, none⟩ (.int .i64 q)).heap[Z]? = some (.cells #[.int .i64 mi, .int .i64 mp, .bool mb] 36 (0, 0)) := by rw [heap_setCell_other _ _ _ _ (by show Z ≠ g; omega), hb.block Z (by omega)]; exact hWn
        have hs' : (W'.setCell ⟨g, k * 3 + 1, none⟩ (.int .i64 q)).heap[sb]? = W'.heap[sb]? := heap_setCell_other _ _ _ _ (by show sb ≠ g; omega)
        exact ⟨(cells3 (hs'.trans hP2.blk)).1.2.2, (cells3 hn').1⟩)
      have HY : Box (∀ W', Below W.heap.size W W' → W'.cell? ⟨g, k * 3 + 1, none⟩ = some (.int .i64 mp) ∧ W'.frozen? ⟨g, k * 3 + 1, none⟩ = false) := boxed (fun W' hb => by
        have hb2 := below_step hWb (Nat.le_refl _) hb
        obtain ⟨g', cp', e', -, -, -, -, hf⟩ := own_mk (HPk.out.below hb2).own k (by show k < (plc F s.L k).length; rw [HPL.out, HN.out]; exact hlt)
        injection e' with e1 _ _
        injection e1 with e1
        injection e1 with e1
        subst e1
        exact ⟨hold hb (hold hWb d1), hf _⟩)
      have HNx : Box (∀ W', Below W.heap.size W W' → PS B (W'.setCell ⟨g, k * 3 + 1, none⟩ (.int .i64 q)) sb (.slice (some ⟨g, 0, none⟩) n cap) { s with L := plc F s.L (k + 1) } ∧ Chg (Own sb (.slice (some ⟨g, 0, none⟩) n cap)) w (W'.setCell ⟨g, k * 3 + 1, none⟩ (.int .i64 q))) := boxed (fun W' hb => by
        have hb2 := below_step hWb (Nat.le_refl _) hb
        have hP2 := HPk.out.below hb2
        have hne := own_ne hP2.own hP2.blk (by decide)
        have hgs : g ≠ sb := fun e => hne (by rw [e]; rfl)
        refine ⟨⟨HLo.out, by rw [heap_setCell_other _ _ _ _ (by show sb ≠ g; omega)]; exact hP2.blk, ?_⟩, (HCk.out.trans (Chg.of_below hb2)).trans (Chg.set W' g _ _ (.inr rfl))⟩
        have h3 := hP2.own
        have hl1 : (plc F s.L k).length = n := by rw [HPL.out, HN.out]
        have hl2 : (plc F s.L (k + 1)).length = n := by rw [plc_len, HN.out]
        show World.ownsRow _ B 36 3 _ (plc F s.L (k + 1)).length (mcs (plc F s.L (k + 1)))
        have h3' : W'.ownsRow B 36 3 (.slice (some ⟨g, 0, none⟩) n cap) (plc F s.L k).length (mcs (plc F s.L k)) := h3
        rw [hl1] at h3'
        rw [hl2, ← HSt.out, ← HSet.out]
        exact own_set h3' _ (by rw [mcs_len, hl1]; omega))
      have HDr : Box (Below W.heap.size W W.drew) := boxed (Below.refl _ _).drew
      have HDc : Box (Chg D w W.drew) := boxed ((HCk.out.mono (fun b _ hb => HDD.out b hb)).trans ((Chg.of_below hWb).trans (Chg.of_below HDr.out)))
      have HW := boxed hW
      clear hW hWb hWn hWz HC HF HOk HBk
      go_upto_region 3 with (fail)
      rw [HW.out]
      clear d0 d1 d2 x0 x1 x2 y1
      go_region_held3 (fun W' => W'.cell? ⟨sb, 2, none⟩ = some (.slice (some ⟨g, 0, none⟩) n cap) ∧ W'.cell? ⟨Z, 0, none⟩ = some (.int .i64 mi) ∧ W'.cell? ⟨Z, 1, none⟩ = some (.int .i64 mp) ∧ W'.cell? ⟨Z, 2, none⟩ = some (.bool mb))
        (first | with_reducible exact HX.out _ HDr.out | with_reducible exact HX.out _ HB5.out | with_reducible exact HX2.out _ HB5.out)
        (first | (go_at_call 36; with_reducible refine (HCa.out _ HDc.out).mono ?_; rintro e' w5 ⟨rfl, hb5⟩; have HB5 := boxed (below_step HDr.out (Nat.le_refl _) hb5); obtain ⟨yc, yf⟩ := HY.out _ HB5.out; clear hb5))
      go_wp2_with fail
      go_roundw
      case rel => exact ⟨k + 1, by go_num, by omega, boxed (HNx.out _ HB5.out).1, boxed (HNx.out _ HB5.out).2⟩
      case measure => simp [intOf]; omega
    · have e : k = n := by omega
      subst e
      go_wp2_with fail
      refine bodyPost_end (results_none rfl _ _ _) rfl ?_
      refine ⟨rfl, ?_, HCk.out⟩
      have := HPk.out
      rw [← HN.out, plc_all, HN.out] at this
      exact this
set_option maxRecDepth 100000 in
set_option maxHeartbeats 2000000 in
theorem placeD_any {B : Nat} {w : World} {sb : Nat} {v : Value} {s : St} (h : PS B w sb v s) (hB : B ≤ w.heap.size) (hlen : s.L.length ≤ 1024) (F : Mk → Mk) (hF : ∀ m, F m = { m with pl := (F m).pl }) (b1 b2 b3 : Nat) (D : Nat → Prop) (hD : ∀ k, Own sb v k → D k)
    (hc : ∀ W, Chg D w W → ∀ m ∈ s.L, Calls Try.prog 37 #[m.val, .pointer (some ⟨b1, 0, none⟩), .pointer (some ⟨b2, 0, none⟩), .pointer (some ⟨b3, 0, none⟩)] W fun e W' => e = .returned (.int .i64 (F m).pl) ∧ Below W.heap.size W W') :
    Calls Try.prog 35 #[.pointer (some ⟨sb, 0, none⟩), .func (.func 37) #[] #[.pointer (some ⟨b1, 0, none⟩), .pointer (some ⟨b2, 0, none⟩), .pointer (some ⟨b3, 0, none⟩)]] w fun e w' => e = .returned (.tuple #[]) ∧ PS B w' sb v { s with L := s.L.map F } ∧ Chg (Own sb v) w w' := by
  obtain ⟨⟨-, -, c2⟩, -⟩ := h.cells
  obtain ⟨ao, cap, rfl⟩ := own_shape h.own
  have HP := boxed h
  have HF := boxed hF
  have HC := boxed hc
  have HDD := boxed hD
  have HPL := boxed (plc_len F s.L)
  obtain ⟨n, hn⟩ : ∃ n, s.L.length = n := ⟨_, rfl⟩
  have HN := boxed hn
  rw [hn] at c2 hlen HP HDD ⊢
  clear h hF hc hn hD
  go_enter Try.func35, Try.ntmps35
  go_wp2_with fail
  go_loopw [11] (fun a wr => ∃ k : Nat, a = .int .i64 (k : Nat) ∧ k ≤ n ∧ Box (PS B wr sb (.slice ao n cap) { s with L := plc F s.L k }) ∧ Box (Chg (Own sb (.slice ao n cap)) w wr)) (fun a _ => n - (intOf a).toNat)
  case atStart => exact ⟨0, rfl, by omega, boxed (by rw [plc_zero]; exact HP.out), boxed (Chg.refl _ _)⟩
  case round =>
    obtain ⟨k, rfl, hk, HPk, HCk⟩ := hrel
    by_cases hlt : k < n
    · have hkL : k < s.L.length := by rw [HN.out]; exact hlt
      obtain ⟨g, cp, e', hcap, d0, d1, d2, hfz⟩ := own_mk HPk.out.own k (by show k < (plc F s.L k).length; rw [HPL.out, HN.out]; exact hlt)
      injection e' with e1 e2 e3
      subst e1; subst e3
      rw [← e2] at hcap
      clear e2
      have hget := plc_get F s.L k hkL
      simp only [hget] at d0 d1 d2
      obtain ⟨⟨x0, x1, x2⟩, -⟩ := HPk.out.cells
      have hkn : (k : Int) < (n : Int) := by omega
      have HM := boxed (List.getElem_mem hkL)
      have HSt := boxed (plc_step F s.L k hkL HF.out)
      have HSet := boxed (mcs_set_pl (plc F s.L k) k (by rw [HPL.out]; exact hkL) (F s.L[k]).pl)
      rw [hget] at HSet
      have HCa := boxed (fun W hW => HC.out W hW _ HM.out)
      have HOk := boxed HPk.out.own
      have HBk := boxed HPk.out.blk
      have HLo := boxed HPk.out.lo
      generalize hm : s.L[k]'hkL = m at *
      generalize hq : (F m).pl = q at *
      have hsb : sb < wr.heap.size := HPk.out.lt
      have hgl : g < wr.heap.size := (HPk.out.own.lt g rfl).2
      obtain ⟨Z, hZ⟩ : ∃ Z, wr.heap.size = Z := ⟨_, rfl⟩
      have y1 := hfz (k * 3 + 1)
      clear hm hq hfz hget
      obtain ⟨mi, mp, mb⟩ := m
      unfold Mk.val at HCa
      simp only at d0 d1 d2 HSt HSet
      obtain ⟨W, hW⟩ : ∃ W, wr.alloc (.cells #[.int .i64 mi, .int .i64 mp, .bool mb] 36) = W := ⟨_, rfl⟩
      have hWb : Below wr.heap.size wr W := by rw [← hW]; exact (Below.refl _ _).alloc (Nat.le_refl _) _
      have hWn : W.heap[Z]? = some (.cells #[.int .i64 mi, .int .i64 mp, .bool mb] 36 (0, 0)) := by rw [← hW, ← hZ]; exact heap_alloc_new _ _
      have hWz : W.heap.size = Z + 1 := by rw [← hW, ← hZ]; simp
      have HX : Box (∀ W', Below W.heap.size W W' → W'.cell? ⟨sb, 2, none⟩ = some (.slice (some ⟨g, 0, none⟩) n cap) ∧ W'.cell? ⟨Z, 0, none⟩ = some (.int .i64 mi) ∧ W'.cell? ⟨Z, 1, none⟩ = some (.int .i64 mp) ∧ W'.cell? ⟨Z, 2, none⟩ = some (.bool mb)) := boxed (fun W' hb => by
        have hn' : W'.heap[Z]? = some (.cells #[.int .i64 mi, .int .i64 mp, .bool mb] 36 (0, 0)) := by rw [hb.block Z (by omega)]; exact hWn
        exact ⟨hold hb (hold hWb x2), (cells3 hn').1⟩)
      have HX2 : Box (∀ W', Below W.heap.size W W' → (W'.setCell ⟨g, k * 3 + 1, none⟩ (.int .i64 q)).cell? ⟨sb, 2, none⟩ = some (.slice (some ⟨g, 0, none⟩) n cap) ∧ (W'.setCell ⟨g, k * 3 + 1, none⟩ (.int .i64 q)).cell? ⟨Z, 0, none⟩ = some (.int .i64 mi) ∧ (W'.setCell ⟨g, k * 3 + 1, none⟩ (.int .i64 q)).cell? ⟨Z, 1, none⟩ = some (.int .i64 mp) ∧ (W'.setCell ⟨g, k * 3 + 1, none⟩ (.int .i64 q)).cell? ⟨Z, 2, none⟩ = some (.bool mb)) := boxed (fun W' hb => by
        have hb2 := below_step hWb (Nat.le_refl _) hb
        have hP2 := HPk.out.below hb2
        have hne := own_ne hP2.own hP2.blk (by decide)
        have hgs : g ≠ sb := fun e => hne (by rw [e]; rfl)
        have hn' : (W'.setCell ⟨g, k * 3 + 1, none⟩ (.int .i64 q)).heap[Z]? = some (.cells #[.int .i64 mi, .int .i64 mp, .bool mb] 36 (0, 0)) := by rw [heap_setCell_other _ _ _ _ (by show Z ≠ g; omega), hb.block Z (by omega)]; exact hWn
        have hs' : (W'.setCell ⟨g, k * 3 + 1, none⟩ (.int .i64 q)).heap[sb]? = W'.heap[sb]? := heap_setCell_other _ _ _ _ (by show sb ≠ g; omega)
        exact ⟨(cells3 (hs'.trans hP2.blk)).1.2.2, (cells3 hn').1⟩)
      have HY : Box (∀ W', Below W.heap.size W W' → W'.cell? ⟨g, k * 3 + 1, none⟩ = some (.int .i64 mp) ∧ W'.frozen? ⟨g, k * 3 + 1, none⟩ = false) := boxed (fun W' hb => by
        have hb2 := below_step hWb (Nat.le_refl _) hb
        obtain ⟨g', cp', e', -, -, -, -, hf⟩ := own_mk (HPk.out.below hb2).own k (by show k < (plc F s.L k).length; rw [HPL.out, HN.out]; exact hlt)
        injection e' with e1 _ _
        injection e1 with e1
        injection e1 with e1
        subst e1
        exact ⟨hold hb (hold hWb d1), hf _⟩)
      have HNx : Box (∀ W', Below W.heap.size W W' → PS B (W'.setCell ⟨g, k * 3 + 1, none⟩ (.int .i64 q)) sb (.slice (some ⟨g, 0, none⟩) n cap) { s with L := plc F s.L (k + 1) } ∧ Chg (Own sb (.slice (some ⟨g, 0, none⟩) n cap)) w (W'.setCell ⟨g, k * 3 + 1, none⟩ (.int .i64 q))) := boxed (fun W' hb => by
        have hb2 := below_step hWb (Nat.le_refl _) hb
        have hP2 := HPk.out.below hb2
        have hne := own_ne hP2.own hP2.blk (by decide)
        have hgs : g ≠ sb := fun e => hne (by rw [e]; rfl)
        refine ⟨⟨HLo.out, by rw [heap_setCell_other _ _ _ _ (by show sb ≠ g; omega)]; exact hP2.blk, ?_⟩, (HCk.out.trans (Chg.of_below hb2)).trans (Chg.set W' g _ _ (.inr rfl))⟩
        have h3 := hP2.own
        have hl1 : (plc F s.L k).length = n := by rw [HPL.out, HN.out]
        have hl2 : (plc F s.L (k + 1)).length = n := by rw [plc_len, HN.out]
        show World.ownsRow _ B 36 3 _ (plc F s.L (k + 1)).length (mcs (plc F s.L (k + 1)))
        have h3' : W'.ownsRow B 36 3 (.slice (some ⟨g, 0, none⟩) n cap) (plc F s.L k).length (mcs (plc F s.L k)) := h3
        rw [hl1] at h3'
        rw [hl2, ← HSt.out, ← HSet.out]
        exact own_set h3' _ (by rw [mcs_len, hl1]; omega))
      have HDr : Box (Below W.heap.size W W.drew) := boxed (Below.refl _ _).drew
      have HDc : Box (Chg D w W.drew) := boxed ((HCk.out.mono (fun b _ hb => HDD.out b hb)).trans ((Chg.of_below hWb).trans (Chg.of_below HDr.out)))
      have HW := boxed hW
      clear hW hWb hWn hWz HC HF HOk HBk
      go_upto_region 3 with (fail)
      rw [HW.out]
      clear d0 d1 d2 x0 x1 x2 y1
      go_region_held3 (fun W' => W'.cell? ⟨sb, 2, none⟩ = some (.slice (some ⟨g, 0, none⟩) n cap) ∧ W'.cell? ⟨Z, 0, none⟩ = some (.int .i64 mi) ∧ W'.cell? ⟨Z, 1, none⟩ = some (.int .i64 mp) ∧ W'.cell? ⟨Z, 2, none⟩ = some (.bool mb))
        (first | with_reducible exact HX.out _ HDr.out | with_reducible exact HX.out _ HB5.out | with_reducible exact HX2.out _ HB5.out)
        (first | (go_at_call 37; with_reducible refine (HCa.out _ HDc.out).mono ?_; rintro e' w5 ⟨rfl, hb5⟩; have HB5 := boxed (below_step HDr.out (Nat.le_refl _) hb5); obtain ⟨yc, yf⟩ := HY.out _ HB5.out; clear hb5))
      go_wp2_with fail
      go_roundw
      case rel => exact ⟨k + 1, by go_num, by omega, boxed (HNx.out _ HB5.out).1, boxed (HNx.out _ HB5.out).2⟩
      case measure => simp [intOf]; omega
    · have e : k = n := by omega
      subst e
      go_wp2_with fail
      refine bodyPost_end (results_none rfl _ _ _) rfl ?_
      refine ⟨rfl, ?_, HCk.out⟩
      have := HPk.out
      rw [← HN.out, plc_all, HN.out] at this
      exact this
end Go.Proofs.Ytdaccgnfhagoeaa
