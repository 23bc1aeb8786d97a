/-
  Plain: what an edit does to two marks of a text.
-/
import Derived.Test.YtdaccgnfhagoeaaMkx
import Derived.Test.YtdaccgnfhagoeaaMkq
namespace Go.Proofs.Ytdaccgnfhagoeaa
set_option linter.unusedSimpArgs false
set_option linter.unusedVariables false

/-- An edit of the marks: each to its place, in their order. -/
def Edt (s s1 : St) (F : Mk → Mk) : Prop := s1.L = s.L.map F ∧ (∀ m, (F m).id = m.id) ∧ ∀ m m' : Mk, m.pl < m'.pl → (F m).pl ≤ (F m').pl
theorem edt_self (s : St) : Edt s s id := ⟨by simp, fun _ => rfl, fun _ _ h => Int.le_of_lt h⟩
theorem ins_edt (s : St) (a n : Int) : ∃ F, Edt s (s.ins a n).1 F := by
  unfold St.ins
  split
  · exact ⟨_, edt_self s⟩
  split
  · exact ⟨_, edt_self s⟩
  split
  · exact ⟨_, edt_self s⟩
  · refine ⟨insP a n, rfl, insP_id a n, ?_⟩
    rintro ⟨i, p, b⟩ ⟨j, r, c⟩ h
    unfold insP
    simp only at h ⊢
    split <;> split <;> (simp only) <;> omega
theorem del_edt (s : St) (f t : Int) : ∃ F, Edt s (s.del f t).1 F := by
  unfold St.del
  split
  · exact ⟨_, edt_self s⟩
  · refine ⟨delP f t, rfl, delP_id f t, ?_⟩
    rintro ⟨i, p, b⟩ ⟨j, r, c⟩ h
    unfold delP
    simp only at h ⊢
    split <;> split <;> (simp only) <;> omega
theorem stp_edt (s : St) (o : Opr) (h : o.k = 1 ∨ o.k = 2) : ∃ F, Edt s (stp s o) F := by
  rcases h with h | h
  · have e : stp s o = (s.ins o.a o.b).1 := by unfold stp; rw [if_neg (by omega), if_pos h]
    rw [e]; exact ins_edt s _ _
  · have e : stp s o = (s.del o.a o.b).1 := by unfold stp; rw [if_neg (by omega), if_neg (by omega), if_pos h]
    rw [e]; exact del_edt s _ _
theorem ix_map (L : List Mk) (F : Mk → Mk) (h : ∀ m, (F m).id = m.id) (d : Int) : ix (L.map F) d = ix L d := by
  induction L with
  | nil => rfl
  | cons m r ih => simp only [List.map_cons, ix, h, ih]
theorem ix_own {L : List Mk} (h : L.Pairwise (fun x y => x.id < y.id)) {m : Mk} (hm : m ∈ L) : ∃ hl : ix L m.id < L.length, L[ix L m.id]'hl = m := by
  obtain ⟨j, hj, rfl⟩ := List.getElem_of_mem hm
  have hx : ix L (L[j]'hj).id = j := ix_uniq L _ j (fun i hi hl => by
    have := List.pairwise_iff_getElem.1 h i j hl hj hi
    omega) (fun _ => rfl) (by omega)
  refine ⟨by omega, ?_⟩
  simp only [hx]
/-- A mark that is asked for behind an edit. -/
theorem edt_get {s s1 : St} {F : Mk → Mk} {N : Int} (hk : s.ok N) (h : Edt s s1 F) {m : Mk} (hm : m ∈ s.L) : s1.get m.id = (F m, 0) := by
  obtain ⟨h1, h2, -⟩ := h
  obtain ⟨hl, e⟩ := ix_own hk.rise hm
  unfold St.get
  rw [h1, ix_map _ _ h2, List.length_map, if_pos hl]
  congr 1
  rw [getD_at (by rw [List.length_map]; exact hl), List.getElem_map, e]
theorem edt_in {s s1 : St} {F : Mk → Mk} {N : Int} (hk : s1.ok N) (h : Edt s s1 F) {m : Mk} (hm : m ∈ s.L) : 0 ≤ (F m).pl ∧ (F m).pl ≤ s1.sz := by
  have := hk.mem (F m) (by rw [h.1]; exact List.mem_map_of_mem hm)
  omega
end Go.Proofs.Ytdaccgnfhagoeaa
