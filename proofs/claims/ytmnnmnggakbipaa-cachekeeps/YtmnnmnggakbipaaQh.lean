/-
  A map whose keys are numbers, as a function of them: looked up, stored into, deleted from, cleared.
-/
import Derived.Test.YtmnnmnggakbipaaQc
import Derived.Maps.Keyed
namespace Go.Proofs.Ytmnnmnggakbipaa
open Go.RowKit Go.Maps
open Go.ChangeMaps (setBlock modify_eq_set heap_setBlock_same heap_setBlock_other)
set_option linter.unusedSimpArgs false
set_option linter.unusedVariables false

/-- The block mb is a map that answers as M does. -/
def MapAt (w : World) (mb : Nat) (M : Int → Option Value) : Prop := ∃ es clock, w.heap[mb]? = some (.map es clock) ∧ (∀ e ∈ es.toList, ∃ h, e.key = .int .u64 h ∧ U64 h ∧ M h = some e.val) ∧ (∀ h v, M h = some v → ∃ e ∈ es.toList, e.key = .int .u64 h) ∧ es.toList.Pairwise (fun x y => x.key ≠ y.key)
theorem MapAt.lt {w : World} {mb : Nat} {M : Int → Option Value} (h : MapAt w mb M) : mb < w.heap.size := by
  obtain ⟨es, clock, hb, -⟩ := h
  exact heap_lt hb
theorem MapAt.keep {w w' : World} {mb : Nat} {M : Int → Option Value} (h : MapAt w mb M) (hb : w'.heap[mb]? = w.heap[mb]?) : MapAt w' mb M := by
  obtain ⟨es, clock, h1, h2⟩ := h
  exact ⟨es, clock, hb.trans h1, h2⟩
def mput (M : Int → Option Value) (h : Int) (v : Value) (g : Int) : Option Value := if g = h then some v else M g
def mdel (M : Int → Option Value) (h : Int) (g : Int) : Option Value := if g = h then none else M g
theorem mput_ne {M : Int → Option Value} {h : Int} {v : Value} {g : Int} (c : g ≠ h) : mput M h v g = M g := if_neg c
theorem mput_eq {M : Int → Option Value} {h : Int} {v : Value} : mput M h v h = some v := if_pos rfl
theorem mdel_ne {M : Int → Option Value} {h : Int} {g : Int} (c : g ≠ h) : mdel M h g = M g := if_neg c
theorem mdel_eq {M : Int → Option Value} {h : Int} : mdel M h h = none := if_pos rfl
theorem map_made (w : World) : MapAt (w.alloc (.map #[] 0)) w.heap.size (fun _ => none) := ⟨#[], 0, heap_alloc_new w _, by simp, by simp, by simp⟩

section
variable {P : Program} {t k el : TypeId} {w : World} {mb : Nat} {M : Int → Option Value}
theorem u64_key (hk : P.underlying k = some (.int .u64)) {h : Int} (hh : U64 h) : keyOf P k (.int .u64 h) = some (.int .u64 h) := keyOf_int_mk hk (by
  unfold U64 at hh
  simp [Lit.wf, IntKind.min, IntKind.max, IntKind.bits, IntKind.signed]
  omega)
theorem MapAt.find (hk : P.underlying k = some (.int .u64)) {es : Array MapEntry} (h1 : ∀ e ∈ es.toList, ∃ h, e.key = .int .u64 h ∧ U64 h ∧ M h = some e.val) {h : Int} (hh : U64 h) :
    ((Instr.findKey k (.int .u64 h) es.toList).run P w = .ok none w ∧ ∀ e ∈ es.toList, e.key ≠ .int .u64 h) ∨ ∃ j e, (Instr.findKey k (.int .u64 h) es.toList).run P w = .ok (some (j, e.val)) w ∧ es.toList[j]? = some e ∧ e.key = .int .u64 h :=
  (int_keyed hk).find w (u64_key hk hh) es.toList (fun e he => by
    obtain ⟨h', e1, e2, -⟩ := h1 e he
    exact ⟨_, by rw [e1]; exact u64_key hk e2⟩)
theorem MapAt.look (hm : MapAt w mb M) (ht : P.underlying t = some (.map k el)) (hk : P.underlying k = some (.int .u64)) {z : Value} (hz : ∀ w, (zeroValue el).run P w = .ok z w) {h : Int} (hh : U64 h) :
    (Instr.lookup t (.map (some mb)) (.int .u64 h) false).run P w = .ok ((M h).getD z) w := by
  obtain ⟨es, clock, hb, h1, h2, h3⟩ := hm
  have K := int_keyed hk
  have hkey := u64_key hk hh
  rcases MapAt.find (w := w) hk h1 hh with ⟨e1, e2⟩ | ⟨j, e, e1, e2, e3⟩
  · have hn : M h = none := by
      cases hM : M h with
      | none => rfl
      | some v =>
        obtain ⟨e, he, hek⟩ := h2 h v hM
        exact absurd hek (e2 e he)
    rw [hn]
    simp [Instr.lookup, run_underlying ht, MapKept.run_getObj_map hb, K.check w _ hkey, e1, hz, Result.andThen]
  · obtain ⟨h', k1, k2, k3⟩ := h1 e (List.mem_of_getElem? e2)
    rw [e3] at k1
    injection k1 with _ k1
    subst k1
    rw [k3]
    simp [Instr.lookup, run_underlying ht, MapKept.run_getObj_map hb, K.check w _ hkey, e1, Result.andThen]
theorem MapAt.put (hm : MapAt w mb M) (ht : P.underlying t = some (.map k el)) (hk : P.underlying k = some (.int .u64)) {h : Int} (hh : U64 h) (v : Value) :
    ∃ w', (Instr.mapUpdate t (.map (some mb)) (.int .u64 h) v).run P w = .ok () w' ∧ MapAt w' mb (mput M h v) ∧ w.grownBy w' (some mb) := by
  obtain ⟨es, clock, hb, h1, h2, h3⟩ := hm
  have K := int_keyed hk
  have hkey := u64_key hk hh
  rcases MapAt.find (w := w) hk h1 hh with ⟨e1, e2⟩ | ⟨j, e0, e1, e2, e3⟩
  · refine ⟨setBlock w mb (.map (es.push ⟨.int .u64 h, v, clock⟩) (clock + 1)), ?_, ⟨_, _, heap_setBlock_same hb _, ?_, ?_, ?_⟩, ⟨rfl, rfl, rfl, by simp [setBlock], fun i _ hi => heap_setBlock_other hb _ (fun e => hi (by rw [e]))⟩⟩
    · simp [Instr.mapUpdate, run_underlying ht, MapKept.run_getObj_map hb, K.check w false hkey, e1, MapKept.run_setObj_map _ hb, Result.andThen, setBlock]
    · intro e he
      simp only [Array.toList_push, List.mem_append, List.mem_singleton] at he
      rcases he with he | rfl
      · obtain ⟨g, k1, k2, k3⟩ := h1 e he
        refine ⟨g, k1, k2, ?_⟩
        rw [mput_ne (fun c => e2 e he (by rw [k1, c])), k3]
      · exact ⟨h, rfl, hh, mput_eq⟩
    · intro g u hu
      by_cases c : g = h
      · subst c; exact ⟨⟨.int .u64 g, v, clock⟩, by simp, rfl⟩
      · rw [mput_ne c] at hu
        obtain ⟨e, he, hek⟩ := h2 g u hu
        exact ⟨e, by simp [he], hek⟩
    · rw [Array.toList_push, List.pairwise_append]
      refine ⟨h3, by simp, ?_⟩
      intro a ha b hb'
      simp at hb'
      subst hb'
      exact e2 a ha
  · have hj : es[j]? = some e0 := by simpa using e2
    have hjl : j < es.toList.length := (List.getElem?_eq_some_iff.1 e2).1
    have hlist : (es.modify j (fun e' => { e' with key := .int .u64 h, val := v })).toList = es.toList.set j { e0 with key := .int .u64 h, val := v } := by rw [Array.toList_modify, modify_eq_set _ _ _ _ e2]
    have hk0 : ({ e0 with key := .int .u64 h, val := v } : MapEntry).key = e0.key := e3.symm
    have hmapk : (es.toList.set j { e0 with key := .int .u64 h, val := v }).map (·.key) = es.toList.map (·.key) := by
      rw [List.map_set]
      apply List.ext_getElem?
      intro i
      rw [List.getElem?_set]
      split
      · next c => subst c; simp only [List.length_map, hjl, if_true, List.getElem?_map, e2, Option.map_some]; rw [e3]
      · rfl
    have hp := h3
    refine ⟨setBlock w mb (.map (es.modify j (fun e' => { e' with key := .int .u64 h, val := v })) clock), ?_, ⟨_, _, heap_setBlock_same hb _, ?_, ?_, ?_⟩, ⟨rfl, rfl, rfl, by simp [setBlock], fun i _ hi => heap_setBlock_other hb _ (fun e => hi (by rw [e]))⟩⟩
    · simp [Instr.mapUpdate, run_underlying ht, MapKept.run_getObj_map hb, K.check w false hkey, e1, hj, e3, K.stays w hkey, MapKept.run_setObj_map _ hb, Result.andThen, setBlock]
    · rw [hlist]
      intro e he
      obtain ⟨i, hi, ex⟩ := List.getElem_of_mem he
      rw [List.getElem_set] at ex
      split at ex
      · subst ex; exact ⟨h, rfl, hh, mput_eq⟩
      · next hne =>
        have hi' : i < es.toList.length := by simpa using hi
        have hm : e ∈ es.toList := ex ▸ List.getElem_mem hi'
        obtain ⟨g, k1, k2, k3⟩ := h1 e hm
        refine ⟨g, k1, k2, ?_⟩
        rw [mput_ne ?_, k3]
        intro c
        subst c
        have hpg := List.pairwise_iff_getElem.1 h3
        have e2' : es.toList[j] = e0 := by rw [List.getElem?_eq_getElem hjl] at e2; exact Option.some.inj e2
        rcases Nat.lt_or_gt_of_ne hne with c | c
        · exact hpg j i hjl hi' c (by rw [e2', ex, e3, k1])
        · exact hpg i j hi' hjl c (by rw [e2', ex, e3, k1])
    · rw [hlist]
      intro g u hu
      by_cases c : g = h
      · subst c
        exact ⟨{ e0 with key := .int .u64 g, val := v }, List.mem_iff_getElem.2 ⟨j, by simpa using hjl, by simp⟩, rfl⟩
      · rw [mput_ne c] at hu
        obtain ⟨e, he, hek⟩ := h2 g u hu
        obtain ⟨i, hi, ex⟩ := List.getElem_of_mem he
        refine ⟨e, List.mem_iff_getElem.2 ⟨i, by simpa using hi, ?_⟩, hek⟩
        rw [List.getElem_set, if_neg ?_, ex]
        intro cj
        subst cj
        have e2' : es.toList[j] = e0 := by rw [List.getElem?_eq_getElem hjl] at e2; exact Option.some.inj e2
        rw [e2'] at ex
        subst ex
        rw [e3] at hek
        injection hek with _ hek
        exact c hek.symm
    · rw [hlist]
      rw [← List.pairwise_map (f := fun e : MapEntry => e.key) (R := fun a b => a ≠ b)] at hp ⊢
      rw [hmapk]
      exact hp
theorem MapAt.del (hm : MapAt w mb M) (ht : P.underlying t = some (.map k el)) (hk : P.underlying k = some (.int .u64)) {h : Int} (hh : U64 h) (ty : TypeId) :
    ∃ w', (Builtin.delete_ #[t, k] ty #[.map (some mb), .int .u64 h]).run P w = .ok (.tuple #[]) w' ∧ MapAt w' mb (mdel M h) ∧ w.grownBy w' (some mb) := by
  obtain ⟨es, clock, hb, h1, h2, h3⟩ := hm
  have K := int_keyed hk
  have hkey := u64_key hk hh
  rcases MapAt.find (w := w) hk h1 hh with ⟨e1, e2⟩ | ⟨j, e0, e1, e2, e3⟩
  · refine ⟨setBlock w mb (.map es clock), ?_, ⟨_, _, heap_setBlock_same hb _, ?_, ?_, h3⟩, ⟨rfl, rfl, rfl, by simp [setBlock], fun i _ hi => heap_setBlock_other hb _ (fun e => hi (by rw [e]))⟩⟩
    · simp [Builtin.delete_, run_underlying ht, MapKept.run_getObj_map hb, K.check w _ hkey, e1, MapKept.run_setObj_map _ hb, Result.andThen, setBlock]
    · intro e he
      obtain ⟨g, k1, k2, k3⟩ := h1 e he
      refine ⟨g, k1, k2, ?_⟩
      rw [mdel_ne (fun c => e2 e he (by rw [k1, c])), k3]
    · intro g u hu
      by_cases c : g = h
      · subst c; rw [mdel_eq] at hu; cases hu
      · rw [mdel_ne c] at hu; exact h2 g u hu
  · have hjl : j < es.toList.length := (List.getElem?_eq_some_iff.1 e2).1
    have hjs : j < es.size := by simpa using hjl
    have hsub : (es.eraseIdxIfInBounds j).toList = es.toList.eraseIdx j := by
      unfold Array.eraseIdxIfInBounds
      rw [dif_pos hjs]
      simp
    have e2' : es.toList[j] = e0 := by rw [List.getElem?_eq_getElem hjl] at e2; exact Option.some.inj e2
    have hpg := List.pairwise_iff_getElem.1 h3
    refine ⟨setBlock w mb (.map (es.eraseIdxIfInBounds j) clock), ?_, ⟨_, _, heap_setBlock_same hb _, ?_, ?_, ?_⟩, ⟨rfl, rfl, rfl, by simp [setBlock], fun i _ hi => heap_setBlock_other hb _ (fun e => hi (by rw [e]))⟩⟩
    · simp [Builtin.delete_, run_underlying ht, MapKept.run_getObj_map hb, K.check w _ hkey, e1, MapKept.run_setObj_map _ hb, Result.andThen, setBlock]
    · rw [hsub]
      intro e he
      obtain ⟨i, hne, hi⟩ := List.mem_eraseIdx_iff_getElem?.1 he
      obtain ⟨g, k1, k2, k3⟩ := h1 e (List.mem_of_getElem? hi)
      refine ⟨g, k1, k2, ?_⟩
      rw [mdel_ne ?_, k3]
      intro c
      subst c
      obtain ⟨hi', ex⟩ := List.getElem?_eq_some_iff.1 hi
      rcases Nat.lt_or_gt_of_ne hne with c | c
      · exact hpg i j hi' hjl c (by rw [e2', ex, e3, k1])
      · exact hpg j i hjl hi' c (by rw [e2', ex, e3, k1])
    · rw [hsub]
      intro g u hu
      by_cases c : g = h
      · subst c; rw [mdel_eq] at hu; cases hu
      · rw [mdel_ne c] at hu
        obtain ⟨e, he, hek⟩ := h2 g u hu
        obtain ⟨i, hi, ex⟩ := List.getElem_of_mem he
        refine ⟨e, List.mem_eraseIdx_iff_getElem?.2 ⟨i, ?_, by rw [List.getElem?_eq_getElem hi, ex]⟩, hek⟩
        intro cj
        subst cj
        rw [e2'] at ex
        subst ex
        rw [e3] at hek
        injection hek with _ hek
        exact c hek.symm
    · rw [hsub]
      exact List.Pairwise.sublist (List.eraseIdx_sublist _ _) h3
theorem MapAt.clr (hm : MapAt w mb M) (ht : P.underlying t = some (.map k el)) (ty : TypeId) :
    ∃ w', (Builtin.clear_ #[t] ty #[.map (some mb)]).run P w = .ok (.tuple #[]) w' ∧ MapAt w' mb (fun _ => none) ∧ w.grownBy w' (some mb) := by
  obtain ⟨es, clock, hb, h1, h2, h3⟩ := hm
  refine ⟨setBlock w mb (.map #[] clock), ?_, ⟨_, _, heap_setBlock_same hb _, by simp, by simp, by simp⟩, ⟨rfl, rfl, rfl, by simp [setBlock], fun i _ hi => heap_setBlock_other hb _ (fun e => hi (by rw [e]))⟩⟩
  simp [Builtin.clear_, run_underlying ht, MapKept.run_getObj_map hb, MapKept.run_setObj_map _ hb, Result.andThen, setBlock]
end
end Go.Proofs.Ytmnnmnggakbipaa
