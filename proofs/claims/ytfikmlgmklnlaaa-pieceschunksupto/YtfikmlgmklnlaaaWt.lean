/-
  What the document's Insert and Ends answer, and the law's edit at both.
-/
import Derived.Test.YtfikmlgmklnlaaaWs
namespace Go.Proofs.Ytfikmlgmklnlaaa
open Go.RowKit
set_option linter.unusedSimpArgs false
set_option linter.unusedVariables false

theorem chk_bad (s : ByteArray) (N : Nat) : (chk s N = 0 ∧ decide (badAt s N < 0) = true) ∨ (chk s N = 20 ∧ decide (badAt s N < 0) = false) := by
  unfold chk
  by_cases h : badAt s N < 0
  · exact .inl ⟨by rw [if_pos h], decide_eq_true h⟩
  · exact .inr ⟨by rw [if_neg h], decide_eq_false h⟩

set_option maxRecDepth 100000 in
set_option maxHeartbeats 1000000 in
theorem refInsert_any (s : ByteArray) (a : Int) (m : ByteArray) (w : World) (N : Nat) (hN : Cnt m N) (hs : s.size ≤ 65536) (hm : m.size ≤ 1048576) :
    Calls Try.prog 44 #[.string s, .int .i64 a, .string m] w fun e w' => ∃ r, e = .returned (.tuple #[.string r, .int .i64 (ine (bl s) a m N)]) ∧
      bl r = (if ine (bl s) a m N = 0 then (bl s).take a.toNat ++ (bl m ++ (bl s).drop a.toNat) else bl s) ∧ Below w.heap.size w w' := by
  have hck := refCheck_any s a w (by omega)
  have hri := fun w => refright_any m w hm N hN
  unfold ine
  by_cases h1 : cke (bl s) a = 0
  · have hz := cke_zero _ _ h1
    rw [bl_len] at hz
    rw [if_neg (by simpa using h1)]
    rw [h1] at hck
    rcases chk_bad m N with ⟨h2, h2'⟩ | ⟨h2, h2'⟩
    · rw [if_neg (by simpa using h2), bl_len]
      rw [h2'] at hri
      by_cases h3 : 65536 < s.size + m.size
      · rw [if_pos h3, if_neg (by decide)]
        have t3 : decide ((65536 : Int) - (s.size : Int) < (m.size : Int)) = true := decide_eq_true (by omega)
        clear hN h1 h2 h2' h3
        go_enter Try.func44, Try.ntmps44
        go_wp2_with (go_at_call 21; refine hck.mono ?_; rintro e w' ⟨rfl, hw'⟩; subst w')
        refine (hri _).mono ?_
        rintro e w1 ⟨rfl, hb1⟩
        have HB := boxed hb1
        clear hb1
        go_wp2
        refine bodyPost_ret (v := .tuple #[.string s, .int .i64 31]) (by simp [results, Try.results44, go_sem]) rfl ⟨_, rfl, rfl, HB.out⟩
      · rw [if_neg h3, if_pos rfl]
        have t3 : decide ((65536 : Int) - (s.size : Int) < (m.size : Int)) = false := decide_eq_false (by omega)
        obtain ⟨i, rfl⟩ : ∃ i : Nat, a = (i : Int) := ⟨a.toNat, by omega⟩
        have s1 : ∀ w, (Instr.slice 9 (.string s) none (some (.int .i64 (i : Int))) none).run Try.prog w = .ok (.string (s.extract 0 i)) w := fun w => by
          simpa using run_slice_string_h (P := Try.prog) w 9 s Try.underlying9 .i64 (i : Int) (by omega) (by omega)
        have s2 : ∀ w, (Instr.slice 9 (.string s) (some (.int .i64 (i : Int))) none none).run Try.prog w = .ok (.string (s.extract i s.size)) w := fun w => by
          simpa using run_slice_string_l (P := Try.prog) w 9 s Try.underlying9 .i64 (i : Int) (by omega) (by omega)
        have e1 : (s.extract 0 i).size ≤ 65536 := by rw [← bl_len, bl_ext]; simp [bl_len]; omega
        have e2 : (s.extract i s.size).size ≤ 65536 := by rw [← bl_len, bl_ext]; simp [bl_len]; omega
        have e3 : (s.extract 0 i ++ m).size ≤ 1048576 + 65536 := by rw [← bl_len, bl_app, List.length_append, bl_len, bl_len]; omega
        have HR : Box (bl (s.extract 0 i ++ m ++ s.extract i s.size) = (bl s).take i ++ (bl m ++ (bl s).drop i)) := boxed (by
          rw [bl_app, bl_app, bl_ext, bl_ext, List.drop_zero, List.append_assoc]
          congr 3
          rw [← bl_len s, List.take_length])
        generalize s.extract 0 i = s1' at *
        generalize s.extract i s.size = s2' at *
        clear hN h1 h2 h2' h3 hz
        go_enter Try.func44, Try.ntmps44
        go_wp2_with (go_at_call 21; refine hck.mono ?_; rintro e w' ⟨rfl, hw'⟩; subst w')
        refine (hri _).mono ?_
        rintro e w1 ⟨rfl, hb1⟩
        have HB := boxed hb1
        clear hb1
        go_wp2
        go_quiet (fail)
        go_wp2
        refine bodyPost_ret (v := .tuple #[.string (s1' ++ m ++ s2'), .int .i64 0]) (by simp [results, Try.results44, go_sem]) rfl ⟨_, rfl, by simpa using HR.out, bel_drewN2 HB.out _⟩
    · rw [if_pos (by rw [h2]; decide), h2, if_neg (by decide)]
      rw [h2'] at hri
      clear hN h1 h2 h2'
      go_enter Try.func44, Try.ntmps44
      go_wp2_with (go_at_call 21; refine hck.mono ?_; rintro e w' ⟨rfl, hw'⟩; subst w')
      refine (hri _).mono ?_
      rintro e w1 ⟨rfl, hb1⟩
      have HB := boxed hb1
      clear hb1
      go_wp2
      refine bodyPost_ret (v := .tuple #[.string s, .int .i64 20]) (by simp [results, Try.results44, go_sem]) rfl ⟨_, rfl, rfl, HB.out⟩
  · rw [if_pos h1, if_neg h1]
    have t1 : (cke (bl s) a == 0) = false := by simpa using h1
    have t1' : (cke (bl s) a != 0) = true := by simpa using h1
    clear hN h1
    generalize cke (bl s) a = E at *
    go_enter Try.func44, Try.ntmps44
    go_wp2_with (go_at_call 21; refine hck.mono ?_; rintro e w' ⟨rfl, hw'⟩; subst w')
    refine bodyPost_ret (v := .tuple #[.string s, .int .i64 E]) (by simp [results, Try.results44, go_sem]) rfl ⟨_, rfl, rfl, Below.refl _ _⟩

theorem edited_pre {tb : Nat} {A : Option (Nat × Nat × Nat)} {S : Nat → Nat → Prop} {T : Tr} {w w1 w' : World} {l : List Nat} (hb : Below w.heap.size w w1) (h : Edited tb A S T w1 w' l) : Edited tb A S T w w' l := by
  obtain ⟨x', A', S', T', h1, h2, h3, h4, h5, h6, h7, h8, h9⟩ := h
  refine ⟨x', A', S', T', h1, h2, h3, ((Edits.of_below hb).any A).trans h4, h5, fun B hB hw => h6 B hB (Nat.le_trans hw hb.size), h7, kp_trans (kp_below hb) h8, ?_⟩
  rcases h9 with p | p | ⟨c, p, q⟩ | p
  · exact .inl p
  · exact .inr (.inl p)
  · exact .inr (.inr (.inl ⟨c, p, Nat.le_trans hb.size q⟩))
  · exact .inr (.inr (.inr p))

theorem box4_kept {w w' : World} {v0 v1 v2 v3 : Value} {t : TypeId} (hb : Below (w.heap.size + 1) (w.alloc (.cells #[v0, v1, v2, v3] t)) w') :
    w'.cell? ⟨w.heap.size, 0, none⟩ = some v0 ∧ w'.cell? ⟨w.heap.size, 1, none⟩ = some v1 ∧ w'.cell? ⟨w.heap.size, 2, none⟩ = some v2 ∧ w'.cell? ⟨w.heap.size, 3, none⟩ = some v3 := by
  refine ⟨?_, ?_, ?_, ?_⟩ <;> (rw [hb.cell (by simp), cell_new _ _ _ _ _ rfl]; rfl)

/-- An edit as it is handed in. -/
structure Opr where
  out : Bool
  a : Int
  b : Int
  m : ByteArray
noncomputable def cN (m : ByteArray) : Nat := Classical.choose (cnt_ex m)
theorem cN_ok (m : ByteArray) : Cnt m (cN m) := Classical.choose_spec (cnt_ex m)
/-- What the document makes of an edit. -/
noncomputable def stp (l : List Nat) (o : Opr) : List Nat :=
  if o.out = true then (if spe l o.a o.b = 0 then l.take o.a.toNat ++ l.drop o.b.toNat else l)
  else (if ine l o.a o.m (cN o.m) = 0 then l.take o.a.toNat ++ (bl o.m ++ l.drop o.a.toNat) else l)
noncomputable def ply (l : List Nat) (O : Nat → Opr) : Nat → List Nat
  | 0 => l
  | k + 1 => stp (ply l O k) (O k)

set_option maxRecDepth 100000 in
set_option maxHeartbeats 2000000 in
/-- An edit at both: they answer alike. -/
theorem edit_any {S : Nat → Nat → Prop} {w : World} {tb : Nat} {x : Option Addr} {A : Option (Nat × Nat × Nat)} {T : Tr} (h : TextAt S w tb x A T) (hal : adl A ≤ 262144) (s : ByteArray) (hfl : T.flat = bl s) (out : Bool) (a b : Int) (m : ByteArray)
    (ha : -9223372036854775808 ≤ a ∧ a ≤ 9223372036854775807) (hbb : -9223372036854775808 ≤ b ∧ b ≤ 9223372036854775807) (hm : m.size ≤ 1048576) :
    Calls Try.prog 29 #[.pointer (some ⟨tb, 0, none⟩), .string s, .agg #[.bool out, .int .i64 a, .int .i64 b, .string m]] w fun e w' => ∃ r, e = .returned (.tuple #[.string r, .bool true]) ∧ bl r = stp (bl s) ⟨out, a, b, m⟩ ∧ Edited tb A S T w w' (bl r) := by
  have hs : s.size ≤ 65536 := by have := h.len; rw [hfl, bl_len] at this; exact this
  cases out with
  | true =>
    have hrd := fun w => refDelete_any s a b w hs
    have hstp : Box (stp (bl s) ⟨true, a, b, m⟩ = if spe (bl s) a b = 0 then (bl s).take a.toNat ++ (bl s).drop b.toNat else bl s) := boxed (by unfold stp; simp)
    have hde := fun w' (hb : Below w.heap.size w w') => edited_delete (h.below hb) hal a b ha hbb
    rw [hfl] at hde
    clear h hfl
    generalize spe (bl s) a b = E at *
    go_enter Try.func29, Try.ntmps29
    go_wp2_with fail
    refine (hrd _).mono ?_
    rintro e w1 ⟨r, rfl, hr, hb1⟩
    rw [World.size_alloc] at hb1
    obtain ⟨c0, c1, c2, c3⟩ := box4_kept hb1
    have HB1 := boxed (below_box hb1)
    have HR := boxed hr
    clear hr hb1 hrd
    go_wp2_with fail
    refine (hde _ HB1.out).mono ?_
    rintro e w2 ⟨rfl, he⟩
    rw [← HR.out] at he
    have HE := boxed (edited_pre HB1.out he)
    clear he hde
    go_wp2
    refine bodyPost_ret (v := .tuple #[.string r, .bool true]) (by simp [results, Try.results29, go_sem]) rfl ⟨r, rfl, by rw [HR.out, hstp.out], HE.out⟩
  | false =>
    have hN := cN_ok m
    have hstp : Box (stp (bl s) ⟨false, a, b, m⟩ = if ine (bl s) a m (cN m) = 0 then (bl s).take a.toNat ++ (bl m ++ (bl s).drop a.toNat) else bl s) := boxed (by unfold stp; simp)
    generalize cN m = N at *
    have hrd := fun w => refInsert_any s a m w N hN hs hm
    have hde := fun w' (hb : Below w.heap.size w w') => insert_any (h.below hb) hal a m N hN hm ha
    rw [hfl] at hde
    clear h hfl hN
    generalize ine (bl s) a m N = E at *
    go_enter Try.func29, Try.ntmps29
    go_wp2_with fail
    refine (hrd _).mono ?_
    rintro e w1 ⟨r, rfl, hr, hb1⟩
    rw [World.size_alloc] at hb1
    obtain ⟨c0, c1, c2, c3⟩ := box4_kept hb1
    have HB1 := boxed (below_box hb1)
    have HR := boxed hr
    clear hr hb1 hrd
    go_wp2_with fail
    refine (hde _ HB1.out).mono ?_
    rintro e w2 ⟨rfl, he⟩
    rw [← HR.out] at he
    have HE := boxed (edited_pre HB1.out he)
    clear he hde
    go_wp2
    refine bodyPost_ret (v := .tuple #[.string r, .bool true]) (by simp [results, Try.results29, go_sem]) rfl ⟨r, rfl, by rw [HR.out, hstp.out], HE.out⟩
end Go.Proofs.Ytfikmlgmklnlaaa
