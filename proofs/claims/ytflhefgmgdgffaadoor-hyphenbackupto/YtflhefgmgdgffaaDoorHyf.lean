/-
  A map of any kind of keys, as a relation between keys and values: looked up, stored into; the keys of this program's maps.
-/
import Derived.Test.YtflhefgmgdgffaaDoorHye
import Derived.Maps.Keyed
import Derived.DeepKeys4
namespace Go.Proofs.YtflhefgmgdgffaaDoor
open Go.RowKit Go.Maps
open Go.ChangeMaps (setBlock modify_eq_set heap_setBlock_same heap_setBlock_other)
set_option linter.unusedSimpArgs false
set_option linter.unusedVariables false

/-- The block mb is a map of n keys that leads from keys to values as R says. -/
def MapR (P : Program) (k : TypeId) (w : World) (mb n : Nat) (R : Value → Value → Prop) : Prop := ∃ es clock, w.heap[mb]? = some (.map es clock) ∧ es.size = n ∧ (∀ e ∈ es.toList, R e.key e.val ∧ ∃ l, keyOf P k e.key = some l) ∧ (∀ a v, R a v → ∃ e ∈ es.toList, e.key = a ∧ e.val = v) ∧ es.toList.Pairwise (fun x y => x.key ≠ y.key)
theorem MapR.lt {P : Program} {k : TypeId} {w : World} {mb n : Nat} {R : Value → Value → Prop} (h : MapR P k w mb n R) : mb < w.heap.size := by
  obtain ⟨es, clock, hb, -⟩ := h
  exact heap_lt hb
theorem MapR.keep {P : Program} {k : TypeId} {w w' : World} {mb n : Nat} {R : Value → Value → Prop} (h : MapR P k w mb n R) (hb : w'.heap[mb]? = w.heap[mb]?) : MapR P k w' mb n R := by
  obtain ⟨es, clock, h1, h2⟩ := h
  exact ⟨es, clock, hb.trans h1, h2⟩
theorem MapR.same {P : Program} {k : TypeId} {w : World} {mb n : Nat} {R R' : Value → Value → Prop} (h : MapR P k w mb n R) (hr : ∀ a v, R' a v ↔ R a v) : MapR P k w mb n R' := by
  have e : R' = R := by funext a v; exact propext (hr a v)
  rw [e]; exact h
theorem map_made (P : Program) (k : TypeId) (w : World) : MapR P k (w.alloc (.map #[] 0)) w.heap.size 0 (fun _ _ => False) := ⟨#[], 0, heap_alloc_new w _, rfl, by simp, by simp, by simp⟩
def rput (R : Value → Value → Prop) (a v : Value) (a' v' : Value) : Prop := (a' = a ∧ v' = v) ∨ (a' ≠ a ∧ R a' v')
theorem rput_ne {R : Value → Value → Prop} {a v a' v' : Value} (c : a' ≠ a) : rput R a v a' v' ↔ R a' v' := by unfold rput; simp [c]
theorem rput_eq {R : Value → Value → Prop} {a v v' : Value} : rput R a v a v' ↔ v' = v := by unfold rput; simp
section
variable {P : Program} {t k el : TypeId} {w : World} {mb n : Nat} {R : Value → Value → Prop}
theorem MapR.fn (K : Keyed P k) (hm : MapR P k w mb n R) {a v v' : Value} (h : R a v) (h' : R a v') : v = v' := by
  obtain ⟨es, clock, hb, -, h1, h2, h3⟩ := hm
  obtain ⟨e, he, e1, e2⟩ := h2 a v h
  obtain ⟨e', he', e1', e2'⟩ := h2 a v' h'
  have : e = e' := by
    obtain ⟨i, hi, ex⟩ := List.getElem_of_mem he
    obtain ⟨j, hj, ey⟩ := List.getElem_of_mem he'
    have hp := List.pairwise_iff_getElem.1 h3
    rcases Nat.lt_trichotomy i j with c | c | c
    · exact absurd (by rw [ex, ey, e1, e1']) (hp i j hi hj c)
    · subst c; rw [← ex, ← ey]
    · exact absurd (by rw [ex, ey, e1, e1']) (hp j i hj hi c)
  rw [← e2, ← e2', this]
theorem MapR.hit (K : Keyed P k) (hm : MapR P k w mb n R) (ht : P.underlying t = some (.map k el)) {a v : Value} {l : Lit} (hl : keyOf P k a = some l) (h : R a v) :
    (Instr.lookup t (.map (some mb)) a true).run P w = .ok (.tuple #[v, .bool true]) w ∧ (Instr.lookup t (.map (some mb)) a false).run P w = .ok v w := by
  obtain ⟨es, clock, hb, h0, h1, h2, h3⟩ := hm
  rcases K.find w hl es.toList (fun e he => (h1 e he).2) with ⟨e1, e2⟩ | ⟨j, e, e1, e2, e3⟩
  · obtain ⟨e, he, hek, -⟩ := h2 a v h
    exact absurd hek (e2 e he)
  · have he := List.mem_of_getElem? e2
    have hv : e.val = v := by
      have hR := (h1 e he).1
      rw [e3] at hR
      exact MapR.fn K ⟨es, clock, hb, h0, h1, h2, h3⟩ hR h
    subst hv
    constructor
    · simp [Instr.lookup, run_underlying ht, MapKept.run_getObj_map hb, K.check w _ hl, e1, Result.andThen]
    · simp [Instr.lookup, run_underlying ht, MapKept.run_getObj_map hb, K.check w _ hl, e1, Result.andThen]
theorem MapR.miss (K : Keyed P k) (hm : MapR P k w mb n R) (ht : P.underlying t = some (.map k el)) {z : Value} (hz : ∀ w, (zeroValue el).run P w = .ok z w) {a : Value} {l : Lit} (hl : keyOf P k a = some l) (h : ∀ v, ¬ R a v) :
    (Instr.lookup t (.map (some mb)) a true).run P w = .ok (.tuple #[z, .bool false]) w ∧ (Instr.lookup t (.map (some mb)) a false).run P w = .ok z w := by
  obtain ⟨es, clock, hb, h0, h1, h2, h3⟩ := hm
  rcases K.find w hl es.toList (fun e he => (h1 e he).2) with ⟨e1, e2⟩ | ⟨j, e, e1, e2, e3⟩
  · constructor
    · simp [Instr.lookup, run_underlying ht, MapKept.run_getObj_map hb, K.check w _ hl, e1, hz, Result.andThen]
    · simp [Instr.lookup, run_underlying ht, MapKept.run_getObj_map hb, K.check w _ hl, e1, hz, Result.andThen]
  · have hR := (h1 e (List.mem_of_getElem? e2)).1
    rw [e3] at hR
    exact absurd hR (h _)
theorem MapR.len (hm : MapR P k w mb n R) (ht : P.underlying t = some (.map k el)) (ty : TypeId) : (Builtin.len_ #[t] ty #[.map (some mb)]).run P w = .ok (.int .i64 (n : Int)) w := by
  obtain ⟨es, clock, hb, h0, h1, h2, h3⟩ := hm
  simp [Builtin.len_, run_underlying ht, MapKept.run_getObj_map hb, Result.andThen, goInt, h0]
theorem MapR.put (K : Keyed P k) (hm : MapR P k w mb n R) (ht : P.underlying t = some (.map k el)) {a : Value} {l : Lit} (hl : keyOf P k a = some l) (v : Value) :
    ∃ w' n', (Instr.mapUpdate t (.map (some mb)) a v).run P w = .ok () w' ∧ MapR P k w' mb n' (rput R a v) ∧ w.grownBy w' (some mb) ∧ ((∃ u, R a u) → n' = n) ∧ ((∀ u, ¬ R a u) → n' = n + 1) := by
  have hm0 := hm
  obtain ⟨es, clock, hb, h0, h1, h2, h3⟩ := hm
  rcases K.find w hl es.toList (fun e he => (h1 e he).2) with ⟨e1, e2⟩ | ⟨j, e0, e1, e2, e3⟩
  · have hno : ¬ ∃ u, R a u := by
      rintro ⟨u, hu⟩
      obtain ⟨e, he, hek, -⟩ := h2 a u hu
      exact e2 e he hek
    refine ⟨setBlock w mb (.map (es.push ⟨a, v, clock⟩) (clock + 1)), n + 1, ?_, ⟨_, _, heap_setBlock_same hb _, by simp [h0], ?_, ?_, ?_⟩, ⟨rfl, rfl, rfl, by simp [setBlock], fun i _ hi => heap_setBlock_other hb _ (fun e => hi (by rw [e]))⟩, fun c => absurd c hno, fun _ => rfl⟩
    · simp [Instr.mapUpdate, run_underlying ht, MapKept.run_getObj_map hb, K.check w false hl, e1, MapKept.run_setObj_map _ hb, Result.andThen, setBlock]
    · intro e he
      simp only [Array.toList_push, List.mem_append, List.mem_singleton] at he
      rcases he with he | rfl
      · exact ⟨(rput_ne (e2 e he)).2 (h1 e he).1, (h1 e he).2⟩
      · exact ⟨rput_eq.2 rfl, l, hl⟩
    · intro g u hu
      by_cases c : g = a
      · subst c; exact ⟨⟨g, v, clock⟩, by simp, rfl, (rput_eq.1 hu).symm⟩
      · rw [rput_ne c] at hu
        obtain ⟨e, he, hek⟩ := h2 g u hu
        exact ⟨e, by simp [he], hek⟩
    · rw [Array.toList_push, List.pairwise_append]
      refine ⟨h3, by simp, ?_⟩
      intro x hx y hy
      simp at hy
      subst hy
      exact e2 x hx
  · have hj : es[j]? = some e0 := by simpa using e2
    have hjl : j < es.toList.length := (List.getElem?_eq_some_iff.1 e2).1
    have hyes : ∃ u, R a u := ⟨e0.val, by have := (h1 e0 (List.mem_of_getElem? e2)).1; rw [e3] at this; exact this⟩
    have hlist : (es.modify j (fun e' => { e' with key := a, val := v })).toList = es.toList.set j { e0 with key := a, val := v } := by rw [Array.toList_modify, modify_eq_set _ _ _ _ e2]
    have hmapk : (es.toList.set j { e0 with key := a, val := v }).map (·.key) = es.toList.map (·.key) := by
      rw [List.map_set]
      apply List.ext_getElem?
      intro i
      rw [List.getElem?_set]
      split
      · next c => subst c; simp only [List.length_map, hjl, if_true, List.getElem?_map, e2, Option.map_some]; rw [e3]
      · rfl
    have hp := h3
    have hpg := List.pairwise_iff_getElem.1 h3
    have e2' : es.toList[j] = e0 := by rw [List.getElem?_eq_getElem hjl] at e2; exact Option.some.inj e2
    refine ⟨setBlock w mb (.map (es.modify j (fun e' => { e' with key := a, val := v })) clock), n, ?_, ⟨_, _, heap_setBlock_same hb _, by simp [h0], ?_, ?_, ?_⟩, ⟨rfl, rfl, rfl, by simp [setBlock], fun i _ hi => heap_setBlock_other hb _ (fun e => hi (by rw [e]))⟩, fun _ => rfl, fun c => absurd hyes (fun ⟨u, hu⟩ => c u hu)⟩
    · simp [Instr.mapUpdate, run_underlying ht, MapKept.run_getObj_map hb, K.check w false hl, e1, hj, e3, K.stays w hl, MapKept.run_setObj_map _ hb, Result.andThen, setBlock]
    · rw [hlist]
      intro e he
      obtain ⟨i, hi, ex⟩ := List.getElem_of_mem he
      rw [List.getElem_set] at ex
      split at ex
      · subst ex; exact ⟨rput_eq.2 rfl, l, hl⟩
      · next hne =>
        have hi' : i < es.toList.length := by simpa using hi
        have hm : e ∈ es.toList := ex ▸ List.getElem_mem hi'
        refine ⟨(rput_ne ?_).2 (h1 e hm).1, (h1 e hm).2⟩
        intro c
        rcases Nat.lt_or_gt_of_ne hne with d | d
        · exact hpg j i hjl hi' d (by rw [e2', ex, e3, c])
        · exact hpg i j hi' hjl d (by rw [e2', ex, e3, c])
    · rw [hlist]
      intro g u hu
      by_cases c : g = a
      · subst c
        exact ⟨{ e0 with key := g, val := v }, List.mem_iff_getElem.2 ⟨j, by simpa using hjl, by simp⟩, rfl, (rput_eq.1 hu).symm⟩
      · rw [rput_ne c] at hu
        obtain ⟨e, he, hek, hev⟩ := h2 g u hu
        obtain ⟨i, hi, ex⟩ := List.getElem_of_mem he
        refine ⟨e, List.mem_iff_getElem.2 ⟨i, by simpa using hi, ?_⟩, hek, hev⟩
        rw [List.getElem_set, if_neg ?_, ex]
        intro cj
        subst cj
        rw [e2'] at ex
        subst ex
        exact c (by rw [← hek, e3])
    · rw [hlist]
      rw [← List.pairwise_map (f := fun e : MapEntry => e.key) (R := fun a b => a ≠ b)] at hp ⊢
      rw [hmapk]
      exact hp
end

/-! ### The keys -/
theorem laidOut17 : laidOutB Tryd.prog = true := by kernel_rfl
theorem keyE : Keyed Tryd.prog 96 := Keyed.of_law (deep_law_laid laidOut17 (m := 2) (by omega) (of_decide_eq_true (by kernel_rfl)) (by kernel_rfl) (by kernel_rfl))
theorem keyI : Keyed Tryd.prog 3 := int_keyed Tryd.underlying3
theorem keyS : Keyed Tryd.prog 9 := string_keyed Tryd.underlying9
def edgeV (f c : Nat) : Value := .agg #[.int .i64 (f : Int), .int .i32 (c : Int)]
theorem edgeV_inj {f c f' c' : Nat} (h : edgeV f c = edgeV f' c') : f = f' ∧ c = c' := by
  unfold edgeV at h
  simp at h
  omega
theorem types_edge : (Tryd.prog.types.size + 1 = 0 + 1 + 1 + 1 ∨ 3 ≤ Tryd.prog.types.size) ∧ Tryd.prog.keyType 96 = true ∧ Tryd.prog.cellsOf 96 = 2 ∧ Tryd.prog.cellsOf 3 = 1 ∧ Tryd.prog.cellsOf 21 = 1 := ⟨.inr (of_decide_eq_true (by kernel_rfl)), by kernel_rfl, by kernel_rfl, by kernel_rfl, by kernel_rfl⟩
theorem edge_key (f c : Nat) (hf : f ≤ 1000000) (hc : c ≤ 1114111) : ∃ l, keyOf Tryd.prog 96 (edgeV f c) = some l := by
  obtain ⟨h3, hk, h2, hi, hr⟩ := types_edge
  obtain ⟨m, hm⟩ : ∃ m, Tryd.prog.types.size + 1 = m + 2 := ⟨Tryd.prog.types.size - 1, by omega⟩
  unfold keyOf
  rw [Tryd.underlying96]
  simp only [hk, hm]
  rw [if_pos (by simp [edgeV, Value.formed, Tryd.underlying96, h2])]
  refine Option.isSome_iff_exists.1 ?_
  rw [Option.isSome_map]
  simp [Program.keyLits, Tryd.underlying96, h2, hi, hr, edgeV, Value.cells, Tryd.underlying3, Tryd.underlying21, Lit.wf, IntKind.min, IntKind.max, IntKind.bits, IntKind.signed]
  rw [if_pos (by omega), if_pos (by omega)]
  rfl
theorem int_key (n : Nat) (h : n ≤ 1000000) : ∃ l, keyOf Tryd.prog 3 (.int .i64 (n : Int)) = some l := ⟨_, keyOf_int_mk Tryd.underlying3 (by simp [Lit.wf, IntKind.min, IntKind.max, IntKind.bits, IntKind.signed]; omega)⟩
theorem str_key (s : ByteArray) (h : s.size ≤ maxLen) : ∃ l, keyOf Tryd.prog 9 (.string s) = some l := ⟨.string s.data.toList, by simp [keyOf, Tryd.underlying9, mapKey, h]⟩
end Go.Proofs.YtflhefgmgdgffaaDoor
