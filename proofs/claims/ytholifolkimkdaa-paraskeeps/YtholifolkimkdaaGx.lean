/-
  Plain words on what an edit leaves as it was.
-/
import Derived.Test.YtholifolkimkdaaGu
namespace Go.Proofs.Ytholifolkimkdaa
open Go.RowKit
set_option linter.unusedSimpArgs false
set_option linter.unusedVariables false

theorem mid_plain (P P' Z : List Nat) (F O : Nat) (h : P' = P.take F ++ Z ++ P.drop (F + O)) (hF : F + O ≤ P.length) :
    F + Z.length ≤ P'.length ∧ P.length + Z.length = P'.length + O ∧ Bg P' F = Bg P F ∧ Bg P' (F + Z.length) + P.sum = Bg P (F + O) + P'.sum := by
  have hl : (P.take F).length = F := by simp; omega
  have hl2 : (P.take F ++ Z).length = F + Z.length := by rw [List.length_append, hl]
  have hlen : P'.length = F + Z.length + (P.length - (F + O)) := by rw [h, List.length_append, hl2, List.length_drop]
  have hs : P.sum = Bg P (F + O) + (P.drop (F + O)).sum := by
    conv => lhs; rw [← List.take_append_drop (F + O) P, List.sum_append]
    rfl
  have hs' : P'.sum = (P.take F ++ Z).sum + (P.drop (F + O)).sum := by rw [h, List.sum_append]
  refine ⟨by omega, by omega, ?_, ?_⟩
  · rw [h, List.append_assoc, Bg_app_left _ _ _ (by omega), Bg_all _ _ (by omega)]; rfl
  · have : Bg P' (F + Z.length) = (P.take F ++ Z).sum := by rw [h, Bg_app_left _ _ _ (by omega), Bg_all _ _ (by omega)]
    omega
theorem take_low {α : Type} (L Y : List α) (a A : Nat) (ha : a ≤ L.length) (h : A ≤ a) : (L.take a ++ Y).take A = L.take A := by
  rw [List.take_append_of_le_length (by simp; omega), List.take_take, Nat.min_eq_left h]
theorem drop_ins {α : Type} (L M : List α) (a E : Nat) (ha : a ≤ L.length) (h : a ≤ E) : (L.take a ++ M ++ L.drop a).drop (E + M.length) = L.drop E := by
  have hl : (L.take a ++ M).length = a + M.length := by simp; omega
  have e : E + M.length = (L.take a ++ M).length + (E - a) := by omega
  rw [e, ← List.drop_drop, List.drop_left, List.drop_drop]
  congr 1; omega
theorem drop_del {α : Type} (L : List α) (a b E : Nat) (ha : a ≤ L.length) (h1 : a ≤ b) (h : b ≤ E) : (L.take a ++ L.drop b).drop (E - (b - a)) = L.drop E := by
  have hl : (L.take a).length = a := by simp; omega
  have e : E - (b - a) = (L.take a).length + (E - b) := by omega
  rw [e, ← List.drop_drop, List.drop_left, List.drop_drop]
  congr 1; omega
theorem ext_list (s : ByteArray) (i j : Nat) : (s.extract i j).data.toList = (s.data.toList.take j).drop i := by
  rw [ByteArray.data_extract, Array.toList_extract, List.extract_eq_take_drop, List.drop_take]
theorem bytes_eq {s t : ByteArray} (h : s.data.toList = t.data.toList) : s = t := by
  cases s; cases t; congr 1; exact Array.ext' h
theorem size_list (s : ByteArray) : s.data.toList.length = s.size := by rw [Array.length_toList]; rfl
/-- The number of an edit. -/
def stE (s : ByteArray) (o : Opr) : Nat := if o.out = true then delE (ln s) o.a o.b else insE (ln s) o.a o.m.size
theorem keeps_bad (s : ByteArray) (o : Opr) (h : stE s o ≠ 0 ∨ stO s o + stN s o = 0) : stR s o = s := by
  unfold stE stO stN at h
  unfold stR
  by_cases c : o.out = true
  · rw [if_pos c] at h ⊢
    rw [if_pos c, if_pos c] at h
    unfold delR
    by_cases d : outb s.size o.a o.b = true ∨ o.a = o.b
    · rw [if_pos d]
    · exfalso
      have d' : ¬ (outb (ln s).length o.a o.b = true ∨ o.a = o.b) := by rw [ln_len]; exact d
      rcases h with h | h
      · unfold delE at h; rw [if_neg (fun e => d' (.inl e))] at h; exact h rfl
      · unfold delO delN at h
        rw [if_neg d', if_neg d'] at h
        obtain ⟨a1, a2, a3⟩ := (outb_iff s.size o.a o.b).1 (by cases h' : outb s.size o.a o.b with
          | true => exact absurd (.inl h') d
          | false => rfl)
        have hne : o.a ≠ o.b := fun e => d (.inr e)
        have := fnd_mono (ln s) o.a.toNat (o.b.toNat - 1) (by omega)
        unfold dlo at h
        omega
  · rw [if_neg c] at h ⊢
    rw [if_neg c, if_neg c] at h
    unfold insR
    by_cases d : insE (ln s) o.a o.m.size = 0 ∧ o.m.size ≠ 0
    · exfalso
      rcases h with h | h
      · exact h d.1
      · unfold insO insN at h
        have dd : insE (ln s) o.a (ln o.m).length = 0 ∧ (ln o.m).length ≠ 0 := by rw [ln_len]; exact d
        rw [if_pos dd, if_pos dd] at h
        have ho : outb (ln s).length o.a o.a = false := by
          have he := d.1
          unfold insE at he
          by_cases c1 : outb (ln s).length o.a o.a = true
          · rw [if_pos c1] at he; omega
          · simpa using c1
        obtain ⟨a1, -, a2⟩ := (outb_iff _ _ _).1 ho
        have hm : ln o.m ≠ [] := fun e => dd.2 (by rw [e]; rfl)
        obtain ⟨m1, T, he⟩ := sp_some (ln o.m) hm
        have h1 : (Z1 (ln s) (ln o.m) o.a.toNat).length = T.length + 1 := by unfold Z1; rw [he]; simp
        have h2 : (Z2 (ln s) (ln o.m) o.a.toNat).length ≠ 0 := by
          unfold Z2
          split
          · omega
          · split
            · rw [List.length_set]; omega
            · rw [List.length_append]; simp
        omega
    · rw [if_neg d]
theorem keeps_zero (s : ByteArray) (o : Opr) (h : stE s o ≠ 0) : stF s o = 0 ∧ stO s o = 0 ∧ stN s o = 0 := by
  unfold stE at h
  unfold stF stO stN
  by_cases c : o.out = true
  · rw [if_pos c] at h
    rw [if_pos c, if_pos c, if_pos c]
    have d : outb (ln s).length o.a o.b = true := by
      unfold delE at h
      by_cases d : outb (ln s).length o.a o.b = true
      · exact d
      · rw [if_neg d] at h; exact absurd rfl h
    unfold delF delO delN
    rw [if_pos (.inl d), if_pos (.inl d), if_pos (.inl d)]
    exact ⟨rfl, rfl, rfl⟩
  · rw [if_neg c] at h
    rw [if_neg c, if_neg c, if_neg c]
    exact (ins_bad (by rw [ln_len]; exact h)).2
theorem stF_le (s : ByteArray) (o : Opr) : stF s o ≤ s.size := by
  have hl := sp_len (ln s)
  have hn := ln_len s
  unfold stF
  split
  · unfold delF
    split
    · omega
    · have := fnd_le (ln s) o.a.toNat; omega
  · unfold insF
    split
    · unfold fst
      split
      · have := fnd_le (ln s) o.a.toNat; omega
      · omega
    · omega
/-- What is ahead of and behind the interval is as it was. -/
def KeepP (s r : ByteArray) (F O N : Nat) : Prop :=
    (F + O ≤ (sp (ln s)).length ∧ F + N ≤ (sp (ln r)).length ∧ (sp (ln s)).length + N = (sp (ln r)).length + O) ∧
    Bg (sp (ln r)) F = Bg (sp (ln s)) F ∧
    s.extract 0 (Bg (sp (ln s)) F) = r.extract 0 (Bg (sp (ln s)) F) ∧
    s.extract (Bg (sp (ln s)) (F + O)) s.size = r.extract (Bg (sp (ln r)) (F + N)) r.size
theorem ext_end (s : ByteArray) (i : Nat) : (s.extract i s.size).data.toList = s.data.toList.drop i := by
  rw [ext_list, List.take_of_length_le (by rw [size_list]; exact Nat.le_refl _)]
theorem keeps_del (s : ByteArray) (a b : Nat) (hab : a < b) (hb : b ≤ s.size) : KeepP s (s.extract 0 a ++ s.extract b s.size) (fnd (ln s) a) (dlo (ln s) a b) (hd0 (dll (ln s) a b)).length := by
  have hll := ln_len s
  obtain ⟨r, hr⟩ : ∃ r, s.extract 0 a ++ s.extract b s.size = r := ⟨_, rfl⟩
  rw [hr]
  have hL : ln r = (ln s).take a ++ (ln s).drop b := by
    rw [← hr, ln_app, ln_ext, ln_ext, List.drop_zero, List.take_of_length_le (i := s.size) (by rw [ln_len]; exact Nat.le_refl _)]
  have hD : r.data.toList = s.data.toList.take a ++ s.data.toList.drop b := by
    rw [← hr]
    have : (s.extract 0 a ++ s.extract b s.size).data.toList = (s.extract 0 a).data.toList ++ (s.extract b s.size).data.toList := by simp
    rw [this, ext_end, ext_list, List.drop_zero]
  obtain ⟨f1, -, f3, -⟩ := del_sp (ln s) a b hab (by omega)
  rw [← hL] at f1
  obtain ⟨m1, m2, m3, m4⟩ := mid_plain (sp (ln s)) (sp (ln r)) _ _ _ f1 f3
  rw [sp_sum, sp_sum] at m4
  have hlr : (ln r).length = s.size - (b - a) := by rw [hL]; simp; omega
  obtain ⟨s1, s2, s3⟩ := fnd_spec (ln s) a (by omega)
  obtain ⟨t1, t2, t3⟩ := fnd_spec (ln s) (b - 1) (by omega)
  have hmono := fnd_mono (ln s) a (b - 1) (by omega)
  have hE : b ≤ Bg (sp (ln s)) (fnd (ln s) a + dlo (ln s) a b) := by
    have := Bg_mono (sp (ln s)) (fnd (ln s) (b - 1) + 1) (fnd (ln s) a + dlo (ln s) a b) (by unfold dlo; omega)
    omega
  refine ⟨⟨f3, m1, m2⟩, m3, ?_, ?_⟩
  · refine bytes_eq ?_
    rw [ext_list, ext_list, List.drop_zero, List.drop_zero, hD, take_low _ _ a _ (by rw [size_list]; omega) s2]
  · refine bytes_eq ?_
    rw [ext_end, ext_end, hD]
    have e : Bg (sp (ln r)) (fnd (ln s) a + (hd0 (dll (ln s) a b)).length) = Bg (sp (ln s)) (fnd (ln s) a + dlo (ln s) a b) - (b - a) := by omega
    rw [e, drop_del _ a b _ (by rw [size_list]; omega) (by omega) hE]
theorem keeps_ins (s : ByteArray) (a : Nat) (m : ByteArray) (ha : a ≤ s.size) (hm : m.size ≠ 0) : KeepP s (s.extract 0 a ++ m ++ s.extract a s.size) (fst (ln s) a) (old (ln s) a) (Z2 (ln s) (ln m) a).length := by
  have hll := ln_len s
  obtain ⟨r, hr⟩ : ∃ r, s.extract 0 a ++ m ++ s.extract a s.size = r := ⟨_, rfl⟩
  rw [hr]
  have hL : ln r = (ln s).take a ++ ln m ++ (ln s).drop a := by
    rw [← hr, ln_app, ln_app, ln_ext, ln_ext, List.drop_zero, List.take_of_length_le (i := s.size) (by rw [ln_len]; exact Nat.le_refl _)]
  have hD : r.data.toList = s.data.toList.take a ++ m.data.toList ++ s.data.toList.drop a := by
    rw [← hr]
    have : (s.extract 0 a ++ m ++ s.extract a s.size).data.toList = (s.extract 0 a).data.toList ++ m.data.toList ++ (s.extract a s.size).data.toList := by simp
    rw [this, ext_end, ext_list, List.drop_zero]
  have hmne : ln m ≠ [] := by intro e; have := congrArg List.length e; rw [ln_len] at this; exact hm this
  have f1 := (ins_sp (ln s) (ln m) a (by omega) hmne).1
  rw [← hL] at f1
  have f3 := fst_le (ln s) a (by omega)
  obtain ⟨g1, g2⟩ := fst_bg (ln s) a (by omega)
  obtain ⟨m1, m2, m3, m4⟩ := mid_plain (sp (ln s)) (sp (ln r)) _ _ _ f1 f3
  rw [sp_sum, sp_sum] at m4
  have hlr : (ln r).length = s.size + m.size := by rw [hL]; simp [ln_len]; omega
  refine ⟨⟨f3, m1, m2⟩, m3, ?_, ?_⟩
  · refine bytes_eq ?_
    rw [ext_list, ext_list, List.drop_zero, List.drop_zero, hD, List.append_assoc, take_low _ _ a _ (by rw [size_list]; omega) g1]
  · refine bytes_eq ?_
    rw [ext_end, ext_end, hD]
    have e : Bg (sp (ln r)) (fst (ln s) a + (Z2 (ln s) (ln m) a).length) = Bg (sp (ln s)) (fst (ln s) a + old (ln s) a) + m.data.toList.length := by rw [size_list]; omega
    rw [e, drop_ins _ _ a _ (by rw [size_list]; omega) g2]
theorem keeps_good (s : ByteArray) (o : Opr) (h1 : stE s o = 0) (h2 : stO s o + stN s o ≠ 0) : KeepP s (stR s o) (stF s o) (stO s o) (stN s o) := by
  have hll := ln_len s
  unfold stE at h1
  unfold stO stN at h2
  unfold stF stO stN stR
  by_cases c : o.out = true
  · rw [if_pos c] at h1
    rw [if_pos c, if_pos c] at h2
    rw [if_pos c, if_pos c, if_pos c, if_pos c]
    have d : ¬ (outb (ln s).length o.a o.b = true ∨ o.a = o.b) := fun d => by
      unfold delO delN at h2
      rw [if_pos d, if_pos d] at h2
      exact h2 rfl
    have d' : ¬ (outb s.size o.a o.b = true ∨ o.a = o.b) := by rw [← hll]; exact d
    obtain ⟨a1, a2, a3⟩ := (outb_iff s.size o.a o.b).1 (by cases h' : outb s.size o.a o.b with
      | true => exact absurd (.inl h') d'
      | false => rfl)
    have hne : o.a ≠ o.b := fun e => d (.inr e)
    unfold delF delO delN delR
    rw [if_neg d, if_neg d, if_neg d, if_neg d']
    exact keeps_del s o.a.toNat o.b.toNat (by omega) (by omega)
  · rw [if_neg c] at h1
    rw [if_neg c, if_neg c] at h2
    rw [if_neg c, if_neg c, if_neg c, if_neg c]
    have d : insE (ln s) o.a (ln o.m).length = 0 ∧ (ln o.m).length ≠ 0 := by
      rw [ln_len]
      refine ⟨h1, fun e => ?_⟩
      unfold insO insN at h2
      rw [if_neg (fun x => x.2 (by rw [ln_len]; exact e)), if_neg (fun x => x.2 (by rw [ln_len]; exact e))] at h2
      exact h2 rfl
    have d' : insE (ln s) o.a o.m.size = 0 ∧ o.m.size ≠ 0 := by rw [ln_len] at d; exact d
    have ho : outb (ln s).length o.a o.a = false := by
      have he := d'.1
      unfold insE at he
      by_cases c1 : outb (ln s).length o.a o.a = true
      · rw [if_pos c1] at he; omega
      · simpa using c1
    obtain ⟨a1, -, a2⟩ := (outb_iff _ _ _).1 ho
    unfold insF insO insN insR
    rw [if_pos d, if_pos d, if_pos d, if_pos d']
    exact keeps_ins s o.a.toNat o.m (by omega) d'.2
theorem str_hi (s : ByteArray) (j : Nat) (h : j ≤ s.size) (w : World) : (Instr.slice 9 (.string s) none (some (.int .i64 (j : Int))) none).run Try.prog w = .ok (.string (s.extract 0 j)) w := by
  have h4 : (j : Int) ≤ (s.size : Int) := by omega
  go_simp
theorem str_lo (s : ByteArray) (i : Nat) (h : i ≤ s.size) (w : World) : (Instr.slice 9 (.string s) (some (.int .i64 (i : Int))) none none).run Try.prog w = .ok (.string (s.extract i s.size)) w := by
  have h4 : (i : Int) ≤ (s.size : Int) := by omega
  go_simp
end Go.Proofs.Ytholifolkimkdaa
