/-
  What the program's Insert does.
-/
import Derived.Test.YtfikmlgmklnlaaaWq
namespace Go.Proofs.Ytfikmlgmklnlaaa
open Go.RowKit
set_option linter.unusedSimpArgs false
set_option linter.unusedVariables false

theorem kp_edits {S : Nat → Nat → Prop} {w w' w2 : World} {tb : Nat} {x : Option Addr} {A : Option (Nat × Nat × Nat)} {T : Tr} (h : TextAt S w tb x A T) (e : Edits tb A w w2) : Kp S S w w2 := fun b i u hs hc =>
  ⟨hs, e.cell b i u (h.sub b i hs).1 (h.sub b i hs).2 hc⟩

/-- A text that was left alone. -/
theorem edited_same {S : Nat → Nat → Prop} {w w' : World} {tb : Nat} {x : Option Addr} {A : Option (Nat × Nat × Nat)} {T : Tr} (h : TextAt S w tb x A T) (hal : adl A ≤ 262144) (hb : Below w.heap.size w w') : Edited tb A S T w w' T.flat :=
  ⟨x, A, S, T, h.below hb, rfl, ⟨by omega, id⟩, (Edits.of_below hb).any _, hal, fun B hB _ => hB, fun b i hs => .inl hs, kp_below hb, .inl rfl⟩

theorem edited_delete {S : Nat → Nat → Prop} {w : World} {tb : Nat} {x : Option Addr} {A : Option (Nat × Nat × Nat)} {T : Tr} (h : TextAt S w tb x A T) (hal : adl A ≤ 262144) (a b : Int) (ha : -9223372036854775808 ≤ a ∧ a ≤ 9223372036854775807) (hbb : -9223372036854775808 ≤ b ∧ b ≤ 9223372036854775807) :
    Calls Try.prog 43 #[.pointer (some ⟨tb, 0, none⟩), .int .i64 a, .int .i64 b] w fun e w' => e = .returned (.int .i64 (spe T.flat a b)) ∧
      Edited tb A S T w w' (if spe T.flat a b = 0 then T.flat.take a.toNat ++ T.flat.drop b.toNat else T.flat) := by
  refine (delete_any h a b ha hbb).mono ?_
  rintro e w' ⟨rfl, x', T', h1, h2, h3, h4⟩
  exact ⟨rfl, x', A, S, T', h1, h2, h3, h4, hal, fun B hB _ => hB, fun b i hs => .inl hs, kp_edits (w' := w') h h4, .inl rfl⟩

set_option maxRecDepth 100000 in
set_option maxHeartbeats 2000000 in
/-- Insert that is refused, or of nothing. -/
theorem insert_no {S : Nat → Nat → Prop} {w : World} {tb : Nat} {x : Option Addr} {A : Option (Nat × Nat × Nat)} {T : Tr} (h : TextAt S w tb x A T) (hal : adl A ≤ 262144) (a : Int) (s : ByteArray) (N : Nat) (hN : Cnt s N) (hs : s.size ≤ 1048576)
    (ha : -9223372036854775808 ≤ a ∧ a ≤ 9223372036854775807) (hno : ine T.flat a s N ≠ 0 ∨ s.size = 0) :
    Calls Try.prog 45 #[.pointer (some ⟨tb, 0, none⟩), .int .i64 a, .string s] w fun e w' => e = .returned (.int .i64 (ine T.flat a s N)) ∧ Below w.heap.size w w' := by
  have hck := textCheck_any h a ha
  have hrc := fun w => check_any s w (by unfold maxLen; omega) N hN
  have hln := fun w' (hb : Below w.heap.size w w') => len_any (h.below hb)
  have hlen := h.len
  clear h hN
  unfold ine at hno ⊢
  by_cases h1 : cke T.flat a = 0
  · rw [if_neg (by simpa using h1)] at hno ⊢
    rw [h1] at hck
    rcases chk_cases s N with h2 | h2
    · rw [h2] at hrc
      rw [if_neg (by simpa using h2)] at hno ⊢
      by_cases h3 : 65536 < T.flat.length + s.size
      · rw [if_pos h3]
        have t3 : decide ((65536 : Int) < (T.flat.length : Int) + (s.size : Int)) = true := decide_eq_true (by omega)
        clear h1 h2 h3 hno
        generalize T.flat.length = L at *
        go_enter Try.func45, Try.ntmps45
        go_wp2_with fail
        refine hck.mono ?_
        rintro e w1 ⟨rfl, hb1⟩
        have HB1 := boxed hb1
        clear hb1 hck
        go_wp2_with (go_at_call 32; refine (hrc _).mono ?_; rintro e w' ⟨rfl, hw'⟩; subst w')
        refine (hln _ HB1.out).mono ?_
        rintro e w2 ⟨rfl, hb2⟩
        have HB2 := boxed (below_step HB1.out (Nat.le_refl _) hb2)
        clear hb2 hln
        go_wp2
        go_ret
        exact ⟨rfl, HB2.out⟩
      · rw [if_neg h3] at hno ⊢
        have h4 : s.size = 0 := by simpa using hno
        have t3 : decide ((65536 : Int) < (T.flat.length : Int)) = false := decide_eq_false (by omega)
        have he : s = ⟨#[]⟩ := by
          apply ByteArray.ext
          exact Array.eq_empty_of_size_eq_zero h4
        subst he
        clear h1 h2 h3 hno h4
        generalize T.flat.length = L at *
        go_enter Try.func45, Try.ntmps45
        go_wp2_with fail
        refine hck.mono ?_
        rintro e w1 ⟨rfl, hb1⟩
        have HB1 := boxed hb1
        clear hb1 hck
        go_wp2_with (go_at_call 32; refine (hrc _).mono ?_; rintro e w' ⟨rfl, hw'⟩; subst w')
        refine (hln _ HB1.out).mono ?_
        rintro e w2 ⟨rfl, hb2⟩
        have HB2 := boxed (below_step HB1.out (Nat.le_refl _) hb2)
        clear hb2 hln
        go_wp2
        go_ret
        exact ⟨rfl, HB2.out⟩
    · rw [h2] at hrc ⊢
      rw [if_pos (by decide)]
      clear h1 h2 hno
      go_enter Try.func45, Try.ntmps45
      go_wp2_with fail
      refine hck.mono ?_
      rintro e w1 ⟨rfl, hb1⟩
      have HB1 := boxed hb1
      clear hb1 hck
      go_wp2_with (go_at_call 32; refine (hrc _).mono ?_; rintro e w' ⟨rfl, hw'⟩; subst w')
      go_ret
      exact ⟨rfl, HB1.out⟩
  · rw [if_pos h1]
    have t1 : (cke T.flat a == 0) = false := by simpa using h1
    have t1' : (cke T.flat a != 0) = true := by simpa using h1
    clear hno h1
    generalize cke T.flat a = E at *
    go_enter Try.func45, Try.ntmps45
    go_wp2_with fail
    refine hck.mono ?_
    rintro e w1 ⟨rfl, hb1⟩
    have HB1 := boxed hb1
    clear hb1 hck
    go_wp2
    go_ret
    exact ⟨rfl, HB1.out⟩

theorem text_added {S S' : Nat → Nat → Prop} {w w' : World} {tb : Nat} {x : Option Addr} {A A' : Option (Nat × Nat × Nat)} {T : Tr} {s : ByteArray} {pc : Pc} (h : TextAt S w tb x A T) (hA : Added S w tb x A s w' pc A' S') : TextAt S' w' tb x A' T :=
  ⟨hA.blk, h.tree.keep hA.kp, hA.up, hA.sub, hA.ad, h.len⟩

theorem kp_trans {S S' S'' : Nat → Nat → Prop} {a b c : World} (h : Kp S S' a b) (k : Kp S' S'' b c) : Kp S S'' a c := fun x i u hs hc => k x i u (h x i u hs hc).1 (h x i u hs hc).2

set_option maxRecDepth 100000 in
set_option maxHeartbeats 4000000 in
/-- Insert that is done. -/
theorem insert_do {S : Nat → Nat → Prop} {w : World} {tb : Nat} {x : Option Addr} {A : Option (Nat × Nat × Nat)} {T : Tr} (h : TextAt S w tb x A T) (hal : adl A ≤ 262144) (a : Int) (s : ByteArray) (N : Nat) (hN : Cnt s N)
    (ha : -9223372036854775808 ≤ a ∧ a ≤ 9223372036854775807) (h1 : cke T.flat a = 0) (h2 : chk s N = 0) (h3 : T.flat.length + s.size ≤ 65536) (h4 : s.size ≠ 0) :
    Calls Try.prog 45 #[.pointer (some ⟨tb, 0, none⟩), .int .i64 a, .string s] w fun e w' => e = .returned (.int .i64 0) ∧ Edited tb A S T w w' (T.flat.take a.toNat ++ (bl s ++ T.flat.drop a.toNat)) := by
  have hrng : 0 ≤ a ∧ a ≤ (T.flat.length : Int) := by
    unfold cke at h1
    by_cases c : a < 0 ∨ (T.flat.length : Int) < a
    · rw [if_pos c] at h1; omega
    · omega
  have hck := textCheck_any h a ha
  rw [h1] at hck
  have hrc := fun w => check_any s w (by unfold maxLen; omega) N hN
  rw [h2] at hrc
  have hln := fun w' (hb : Below w.heap.size w w') => len_any (h.below hb)
  have hlen := h.len
  have hsl := sp_len T a
  have hsf := sp_flat T a
  have hsp := fun w' (hb : Below w.heap.size w w') => split_any T S x a w' (h.tree.below hb) (by omega) (by omega) (h.below hb).up
  have hadd := fun w' (hb : Below w.heap.size w w') => add_any (h.below hb) s h4 (by omega) hal
  have hjn := fun w' (S' : Nat → Nat → Prop) (pc : Pc) y z (hy : IsT S' w' y (sp T a).1) (hz : IsT S' w' z (sp T a).2) (hp : PcAt S' w' pc) (hpl : pc.l = bl s) (hup : ∀ b i, w'.heap.size ≤ b → S' b i) =>
    join_any S' (sp T a).1 (sp T a).2 pc y z w' hy hz hp (by rw [hpl, bl_len]; omega) hup
  have HT' : Box (∀ pc : Pc, pc.l = bl s → (jn (sp T a).1 pc (sp T a).2).flat = T.flat.take a.toNat ++ (bl s ++ T.flat.drop a.toNat) ∧ (jn (sp T a).1 pc (sp T a).2).flat.length ≤ 65536 ∧ (jn (sp T a).1 pc (sp T a).2).pcs.length ≤ T.pcs.length + 2 ∧ (Avl T → Avl (jn (sp T a).1 pc (sp T a).2)) ∧ (jn (sp T a).1 pc (sp T a).2).flat ≠ []) := boxed (by
    intro pc hpc
    have hfl : (jn (sp T a).1 pc (sp T a).2).flat = T.flat.take a.toNat ++ (bl s ++ T.flat.drop a.toNat) := by rw [jn_flat, hpc, hsf.1, hsf.2]
    have hle : (jn (sp T a).1 pc (sp T a).2).flat.length = T.flat.length + s.size := by
      rw [hfl]
      simp only [List.length_append, List.length_take, List.length_drop, bl_len]
      omega
    refine ⟨hfl, by omega, ?_, fun hA => (jn_avl _ _ _ (sp_avl T a hA).1 (sp_avl T a hA).2).1, fun e => ?_⟩
    · have := sp_cnt T a
      rw [jn_pcs]
      simp only [List.length_append, List.length_cons]
      omega
    · rw [e] at hle
      simp at hle
      omega)
  have hrt : ∀ w', Below w.heap.size w w' → w'.cell? ⟨tb, 0, none⟩ = some (.pointer x) := fun w' hb => hold hb h.root
  have t3 : decide ((65536 : Int) < (T.flat.length : Int) + (s.size : Int)) = false := decide_eq_false (by omega)
  have t4 : s.toList.isEmpty = false := not_empty s (by omega)
  have hs1 : s.size ≤ 65536 := by omega
  have hL : T.flat.length ≤ 65536 := hlen
  have HH := boxed h
  clear h hN h1 h2 h3 hsl hsf hlen hrng
  go_enter Try.func45, Try.ntmps45
  go_wp2_with fail
  refine hck.mono ?_
  rintro e w1 ⟨rfl, hb1⟩
  have HB1 := boxed hb1
  clear hb1 hck
  go_wp2_with (go_at_call 32; refine (hrc _).mono ?_; rintro e w' ⟨rfl, hw'⟩; subst w')
  refine (hln _ HB1.out).mono ?_
  rintro e w2 ⟨rfl, hb2⟩
  have HB2 := boxed (below_step HB1.out (Nat.le_refl _) hb2)
  have c2 := hrt _ HB2.out
  clear hb2 hln hrt
  go_wp2_with fail
  refine (hsp _ HB2.out).mono ?_
  rintro e w3 ⟨y, z, rfl, hy, hz, hb3⟩
  have HY := boxed hy
  have HZ := boxed hz
  have HB3 := boxed (below_step HB2.out (Nat.le_refl _) hb3)
  clear hy hz hb3 hsp c2
  go_wp2_with fail
  refine (hadd _ HB3.out).mono ?_
  rintro e w4 ⟨pc, A', S', rfl, hA⟩
  have HA := boxed hA
  clear hA hadd
  go_wp2_with fail
  refine (hjn _ S' pc y z (HY.out.keep HA.out.kp) (HZ.out.keep HA.out.kp) HA.out.pc HA.out.txt HA.out.up).mono ?_
  rintro e w5 ⟨q, rfl, hq, hb5⟩
  have HT5 := boxed ((text_added (HH.out.below HB3.out) HA.out).below hb5)
  have HQ := boxed hq
  have HB5 := boxed hb5
  have r0 := HT5.out.root
  have f0 := HT5.out.frozen 0
  have r1 : w5.cell? ⟨tb, 1, none⟩ = some (adv A') := by rw [cell_of_row w5 tb 1 _ _ _ HT5.out.blk]; rfl
  obtain ⟨ao, C, hadv⟩ := adv_shape A'
  rw [hadv] at r1
  have HAL : Box (adl A' = adl A + s.size) := boxed HA.out.al
  clear hq hb5 hjn
  obtain ⟨g1, g2, g3, g4, g5⟩ := HT'.out pc HA.out.txt
  have HT6 := boxed (HT5.out.setRoot HQ.out g2)
  have HE := boxed ((((Edits.of_below HB3.out).any A).trans HA.out.ed).trans ((Edits.of_below HB5.out).any A) |>.trans ((Edits.set w5 0 (.pointer q)).any A))
  have HG := boxed (And.intro g1 (And.intro g3 g4))
  have HN := boxed g5
  have HKp : Box (Kp S S' w (w5.setCell ⟨tb, 0, none⟩ (.pointer q))) := boxed (fun b i u hs hc => by
    have k1 := HA.out.kp b i u hs (hold HB3.out hc)
    have hb := (HA.out.sub b i k1.1).1
    exact ⟨k1.1, far_set (Ne.symm hb) (hold HB5.out k1.2)⟩)
  have HGe : Box (∀ B, AdGe B A → B ≤ w.heap.size → AdGe B A') := boxed (fun B hB hw => HA.out.ge B hB (Nat.le_trans hw HB3.out.size))
  have HFr : Box (∀ b i, S' b i → S b i ∨ ∃ c, A = some (b, adl A, c) ∧ adl A ≤ i ∧ i < c) := boxed HA.out.from'
  have HPl : Box ((∃ c, A' = some c ∧ A.map (·.1) = some c.1 ∧ A.map (·.2.2) = some c.2.2) ∨ (∃ c, A' = some c ∧ w.heap.size ≤ c.1)) := boxed (by
    rcases HA.out.place with p | ⟨c, p1, p2⟩
    · exact .inl p
    · exact .inr ⟨c, p1, Nat.le_trans HB3.out.size p2⟩)
  clear g1 g2 g3 g4 g5 HT' HT5 HQ HA HB5 HB3 HB2 HB1 HY HZ
  by_cases h5 : 262144 < adl A'
  · have t5 : decide ((262144 : Int) < (adl A' : Int)) = true := decide_eq_true (by omega)
    have t5' : decide (262144 < adl A') = true := decide_eq_true h5
    have hga := gather_any HT6.out HN.out
    clear h5
    generalize adl A' = L' at *
    go_wp2_with fail
    refine hga.mono ?_
    rintro e w7 ⟨rfl, x7, T7, k1, k2, k3, k4⟩
    have HF : Box (Edited tb A S T w w7 (T.flat.take a.toNat ++ (bl s ++ T.flat.drop a.toNat))) := boxed
      ⟨x7, none, S', T7, k1, k2.trans HG.out.1, ⟨by have := k3.1; omega, fun _ => k3.2⟩, HE.out.trans (k4.any A), by simp [adl], fun _ _ _ => trivial, HFr.out, kp_trans HKp.out (kp_edits (w' := w7) HT6.out (k4.any _)), .inr (.inr (.inr rfl))⟩
    clear k1 k2 k3 k4 hga
    go_wp2
    go_ret
    exact ⟨rfl, HF.out⟩
  · have t5 : decide ((262144 : Int) < (adl A' : Int)) = false := decide_eq_false (by omega)
    have t5' : decide (262144 < adl A') = false := decide_eq_false h5
    have HF : Box (Edited tb A S T w (w5.setCell ⟨tb, 0, none⟩ (.pointer q)) (T.flat.take a.toNat ++ (bl s ++ T.flat.drop a.toNat))) := boxed
      ⟨q, A', S', _, HT6.out, HG.out.1, HG.out.2, HE.out, by omega, HGe.out, HFr.out, HKp.out, .inr (HPl.out.elim .inl (fun p => .inr (.inl p)))⟩
    clear h5
    generalize adl A' = L' at *
    go_wp2
    go_ret
    exact ⟨rfl, HF.out⟩

/-- Insert. -/
theorem insert_any {S : Nat → Nat → Prop} {w : World} {tb : Nat} {x : Option Addr} {A : Option (Nat × Nat × Nat)} {T : Tr} (h : TextAt S w tb x A T) (hal : adl A ≤ 262144) (a : Int) (s : ByteArray) (N : Nat) (hN : Cnt s N) (hs : s.size ≤ 1048576)
    (ha : -9223372036854775808 ≤ a ∧ a ≤ 9223372036854775807) :
    Calls Try.prog 45 #[.pointer (some ⟨tb, 0, none⟩), .int .i64 a, .string s] w fun e w' => e = .returned (.int .i64 (ine T.flat a s N)) ∧
      Edited tb A S T w w' (if ine T.flat a s N = 0 then T.flat.take a.toNat ++ (bl s ++ T.flat.drop a.toNat) else T.flat) := by
  by_cases h0 : ine T.flat a s N ≠ 0 ∨ s.size = 0
  · refine (insert_no h hal a s N hN hs ha h0).mono ?_
    rintro e w' ⟨rfl, hb⟩
    refine ⟨rfl, ?_⟩
    have he := edited_same h hal hb
    by_cases h1 : ine T.flat a s N = 0
    · rw [if_pos h1]
      have h2 : s.size = 0 := by rcases h0 with c | c; exact absurd h1 c; exact c
      have h3 : bl s = [] := List.eq_nil_of_length_eq_zero (by rw [bl_len]; exact h2)
      rw [h3, List.nil_append, List.take_append_drop]
      exact he
    · rw [if_neg h1]; exact he
  · have h1 : ine T.flat a s N = 0 := by
      by_cases c : ine T.flat a s N = 0
      · exact c
      · exact absurd (.inl c) h0
    have h2 : s.size ≠ 0 := fun c => h0 (.inr c)
    rw [if_pos h1, h1]
    unfold ine at h1
    by_cases c1 : cke T.flat a = 0
    · rw [if_neg (by simpa using c1)] at h1
      by_cases c2 : chk s N = 0
      · rw [if_neg (by simpa using c2)] at h1
        by_cases c3 : 65536 < T.flat.length + s.size
        · rw [if_pos c3] at h1; exact absurd h1 (by decide)
        · exact insert_do h hal a s N hN ha c1 c2 (by omega) h2
      · rw [if_pos c2] at h1; exact absurd h1 c2
    · rw [if_pos c1] at h1; exact absurd h1 c1
end Go.Proofs.Ytfikmlgmklnlaaa
