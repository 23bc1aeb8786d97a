/-
  Plain: marks of a text, and what each call leaves; no program.
-/
import Derived.Test.YtdaccgnfhagoeaaRows
import Derived.WalkKit
namespace Go.Proofs.Ytdaccgnfhagoeaa
set_option linter.unusedSimpArgs false
set_option linter.unusedVariables false

structure Box (p : Prop) : Prop where
  out : p
theorem boxed {p : Prop} (h : p) : Box p := ⟨h⟩
def I64 (n : Int) : Prop := -9223372036854775808 ≤ n ∧ n ≤ 9223372036854775807
/-- A mark: its number, its place, whether it stays. -/
structure Mk where
  id : Int
  pl : Int
  st : Bool
instance : Inhabited Mk := ⟨⟨0, 0, false⟩⟩
/-- The marks of a text of so many bytes; how many were put. -/
structure St where
  sz : Int
  nx : Int
  L : List Mk

/-- Where a number is: the length, if nowhere. -/
def ix : List Mk → Int → Nat
  | [], _ => 0
  | m :: r, d => if m.id = d then 0 else ix r d + 1
theorem ix_le (L : List Mk) (d : Int) : ix L d ≤ L.length := by
  induction L with
  | nil => simp [ix]
  | cons m r ih => simp only [ix]; split <;> simp <;> omega
theorem ix_get (L : List Mk) (d : Int) (h : ix L d < L.length) : (L[ix L d]'h).id = d := by
  induction L with
  | nil => simp at h
  | cons m r ih =>
    by_cases c : m.id = d
    · simp [ix, c]
    · have h' : ix r d < r.length := by simp [ix, c] at h; omega
      simp only [ix, c, if_false, List.getElem_cons_succ]
      exact ih h'
theorem ix_ahead (L : List Mk) (d : Int) (j : Nat) (hj : j < ix L d) (h : j < L.length) : (L[j]'h).id ≠ d := by
  induction L generalizing j with
  | nil => simp at h
  | cons m r ih =>
    by_cases c : m.id = d
    · simp [ix, c] at hj
    · simp only [ix, c, if_false] at hj
      cases j with
      | zero => simpa using c
      | succ j => simpa using ih j (by omega) (by simpa using h)
theorem ix_uniq (L : List Mk) (d : Int) (k : Nat) (h1 : ∀ j, j < k → ∀ h : j < L.length, (L[j]'h).id ≠ d) (h2 : ∀ h : k < L.length, (L[k]'h).id = d) (hk : k ≤ L.length) : ix L d = k := by
  have hle := ix_le L d
  rcases Nat.lt_trichotomy (ix L d) k with c | c | c
  · exact absurd (ix_get L d (by omega)) (h1 _ c (by omega))
  · exact c
  · exact absurd (h2 (by omega)) (ix_ahead L d k c (by omega))

theorem getD_at {L : List Mk} {k : Nat} (h : k < L.length) : L.getD k default = L[k]'h := by simp [List.getD_eq_getElem?_getD, h]
def St.put (s : St) (a : Int) (b : Bool) : St × Int × Int :=
  if a < 0 ∨ s.sz < a then (s, 0, 30) else if 1024 ≤ s.L.length then (s, 0, 2) else ({ s with nx := s.nx + 1, L := s.L ++ [⟨s.nx + 1, a, b⟩] }, s.nx + 1, 0)
def St.get (s : St) (d : Int) : Mk × Int := if ix s.L d < s.L.length then (s.L.getD (ix s.L d) default, 0) else (⟨0, 0, false⟩, 160)
def St.move (s : St) (d a : Int) : St × Int :=
  if ix s.L d < s.L.length then if a < 0 ∨ s.sz < a then (s, 30) else ({ s with L := s.L.set (ix s.L d) { s.L.getD (ix s.L d) default with pl := a } }, 0) else (s, 160)
def St.drop (s : St) (d : Int) : St × Int := if ix s.L d < s.L.length then ({ s with L := s.L.eraseIdx (ix s.L d) }, 0) else (s, 160)
/-- A place behind an insertion. -/
def insP (a n : Int) (m : Mk) : Mk := if m.pl > a ∨ m.pl = a ∧ m.st = false then { m with pl := m.pl + n } else m
def St.ins (s : St) (a n : Int) : St × Int :=
  if a < 0 ∨ s.sz < a then (s, 30) else if n < 0 then (s, 1) else if 65536 - s.sz < n then (s, 31) else (⟨s.sz + n, s.nx, s.L.map (insP a n)⟩, 0)
/-- A place behind a deletion. -/
def delP (f t : Int) (m : Mk) : Mk := if m.pl ≥ t then { m with pl := m.pl - (t - f) } else { m with pl := min m.pl f }
def St.del (s : St) (f t : Int) : St × Int :=
  if f < 0 ∨ s.sz < t ∨ t < f then (s, 30) else (⟨s.sz - (t - f), s.nx, s.L.map (delP f t)⟩, 0)
/-- The document's way. -/
theorem delP_ref (f t : Int) (h : f ≤ t) (m : Mk) : delP f t m = if m.pl > f then { m with pl := max f (m.pl - (t - f)) } else m := by
  unfold delP
  obtain ⟨i, p, b⟩ := m
  simp only
  split <;> split <;> simp only [Mk.mk.injEq, true_and, and_true] <;> omega

/-- What always holds. -/
structure St.ok (s : St) (N : Int) : Prop where
  sz0 : 0 ≤ s.sz
  sz1 : s.sz ≤ 65536
  nx0 : 0 ≤ s.nx
  nx1 : s.nx ≤ N
  len : s.L.length ≤ 1024
  mem : ∀ m ∈ s.L, 1 ≤ m.id ∧ m.id ≤ s.nx ∧ 0 ≤ m.pl ∧ m.pl ≤ s.sz
  rise : s.L.Pairwise (fun x y => x.id < y.id)

theorem St.ok.mono {s : St} {N M : Int} (h : s.ok N) (hm : N ≤ M) : s.ok M := ⟨h.sz0, h.sz1, h.nx0, by have := h.nx1; omega, h.len, h.mem, h.rise⟩
theorem St.ok.put {s : St} {N : Int} (h : s.ok N) (a : Int) (b : Bool) : (s.put a b).1.ok (N + 1) := by
  unfold St.put
  split
  · exact h.mono (by omega)
  split
  · exact h.mono (by omega)
  next c1 c2 =>
  refine ⟨h.sz0, h.sz1, ?_, ?_, ?_, ?_, ?_⟩
  · have := h.nx0; simp only; omega
  · have := h.nx1; simp only; omega
  · simp; omega
  · intro m hm
    simp only [List.mem_append, List.mem_singleton] at hm
    have h0 := h.nx0
    rcases hm with hm | rfl
    · have := h.mem m hm; simp only; omega
    · simp only; omega
  · simp only [List.pairwise_append, List.pairwise_cons, List.mem_singleton]
    refine ⟨h.rise, ⟨by simp, List.Pairwise.nil⟩, ?_⟩
    intro x hx y hy
    subst hy
    have := h.mem x hx
    simp only; omega
theorem St.ok.drop {s : St} {N : Int} (h : s.ok N) (d : Int) : (s.drop d).1.ok N := by
  unfold St.drop
  split
  · refine ⟨h.sz0, h.sz1, h.nx0, h.nx1, ?_, ?_, ?_⟩
    · have := h.len; simp only [List.length_eraseIdx]; split <;> omega
    · intro m hm; exact h.mem m ((List.eraseIdx_sublist _ _).subset hm)
    · exact h.rise.sublist (List.eraseIdx_sublist _ _)
  · exact h
theorem pw_map {L : List Mk} {f : Mk → Mk} (hf : ∀ m, (f m).id = m.id) (h : L.Pairwise (fun x y => x.id < y.id)) : (L.map f).Pairwise (fun x y => x.id < y.id) := by
  rw [List.pairwise_map]
  exact h.imp (fun {x y} hxy => by rw [hf, hf]; exact hxy)
theorem insP_id (a n : Int) (m : Mk) : (insP a n m).id = m.id := by unfold insP; split <;> rfl
theorem delP_id (a n : Int) (m : Mk) : (delP a n m).id = m.id := by unfold delP; split <;> rfl
theorem insP_st (a n : Int) (m : Mk) : (insP a n m).st = m.st := by unfold insP; split <;> rfl
theorem delP_st (a n : Int) (m : Mk) : (delP a n m).st = m.st := by unfold delP; split <;> rfl
theorem St.ok.ins {s : St} {N : Int} (h : s.ok N) (a n : Int) : (s.ins a n).1.ok N := by
  unfold St.ins
  split
  · exact h
  split
  · exact h
  split
  · exact h
  next c1 c2 c3 =>
  have h0 := h.sz0
  have h1 := h.sz1
  refine ⟨?_, ?_, h.nx0, h.nx1, by simpa using h.len, ?_, pw_map (insP_id a n) h.rise⟩
  · simp only; omega
  · simp only; omega
  · intro m hm
    obtain ⟨k, hk, rfl⟩ := List.mem_map.1 hm
    have := h.mem k hk
    rw [insP_id]
    simp only
    refine ⟨by omega, by omega, ?_, ?_⟩ <;> (unfold insP; split <;> (try simp only) <;> omega)
theorem St.ok.del {s : St} {N : Int} (h : s.ok N) (f t : Int) : (s.del f t).1.ok N := by
  unfold St.del
  split
  · exact h
  next c1 =>
  have h0 := h.sz0
  have h1 := h.sz1
  refine ⟨?_, ?_, h.nx0, h.nx1, by simpa using h.len, ?_, pw_map (delP_id f t) h.rise⟩
  · simp only; omega
  · simp only; omega
  · intro m hm
    obtain ⟨k, hk, rfl⟩ := List.mem_map.1 hm
    have := h.mem k hk
    rw [delP_id]
    simp only
    refine ⟨by omega, by omega, ?_, ?_⟩ <;> (unfold delP; split <;> (try simp only) <;> omega)
theorem St.ok.move {s : St} {N : Int} (h : s.ok N) (d a : Int) : (s.move d a).1.ok N := by
  unfold St.move
  split
  next c0 =>
    split
    · exact h
    next c1 =>
    refine ⟨h.sz0, h.sz1, h.nx0, h.nx1, by simpa using h.len, ?_, ?_⟩
    · intro m hm
      simp only at hm ⊢
      rcases List.mem_or_eq_of_mem_set hm with hm | rfl
      · exact h.mem m hm
      · have := h.mem _ (List.getElem_mem c0)
        rw [getD_at c0]
        simp only; omega
    · rw [List.pairwise_iff_getElem]
      have hr := List.pairwise_iff_getElem.1 h.rise
      intro i j hi hj hij
      simp only [List.length_set] at hi hj
      have := hr i j hi hj hij
      have hid : ∀ k (hk : k < s.L.length) (hk' : k < (s.L.set (ix s.L d) { s.L.getD (ix s.L d) default with pl := a }).length), ((s.L.set (ix s.L d) { s.L.getD (ix s.L d) default with pl := a })[k]'hk').id = (s.L[k]'hk).id := by
        intro k hk hk'
        rw [List.getElem_set]
        split
        · next e =>
          subst e
          show (s.L.getD (ix s.L d) default).id = _
          rw [getD_at c0]
        · rfl
      rw [hid i hi, hid j hj]
      exact this
  · exact h

/-- What is told ahead. -/
def lt (x y : Mk) : Bool := decide (x.pl < y.pl ∨ x.pl = y.pl ∧ x.id < y.id)
theorem lt_iff (x y : Mk) : lt x y = true ↔ (x.pl < y.pl ∨ x.pl = y.pl ∧ x.id < y.id) := by unfold lt; exact decide_eq_true_iff
theorem lt_no (x y : Mk) : lt x y = false ↔ ¬ (x.pl < y.pl ∨ x.pl = y.pl ∧ x.id < y.id) := by unfold lt; exact decide_eq_false_iff_not
/-- Where a mark goes among others. -/
def pos (o : List Mk) (m : Mk) : Nat := match o with
  | [] => 0
  | x :: r => if lt x m then pos r m + 1 else 0
def in1 (o : List Mk) (m : Mk) : List Mk := o.take (pos o m) ++ m :: o.drop (pos o m)
def srt (L : List Mk) : List Mk := L.foldl in1 []
theorem pos_le (o : List Mk) (m : Mk) : pos o m ≤ o.length := by
  induction o with
  | nil => simp [pos]
  | cons x r ih => simp only [pos]; split <;> simp <;> omega
theorem pos_uniq (o : List Mk) (m : Mk) (k : Nat) (h1 : ∀ j, j < k → ∀ h : j < o.length, lt (o[j]'h) m = true) (h2 : ∀ h : k < o.length, lt (o[k]'h) m = false) (hk : k ≤ o.length) : pos o m = k := by
  induction o generalizing k with
  | nil => simp at hk; simp [pos, hk]
  | cons x r ih =>
    cases k with
    | zero =>
      have := h2 (by simp)
      simp at this
      simp [pos, this]
    | succ k =>
      have h0 := h1 0 (by omega) (by simp)
      simp at h0
      simp only [pos, h0, if_true]
      rw [ih k (fun j hj h => by
        have := h1 (j + 1) (by omega) (by simpa using h)
        rw [List.getElem_cons_succ] at this; exact this) (fun h => by
        have := h2 (by simpa using h)
        rw [List.getElem_cons_succ] at this; exact this) (by simpa using hk)]
theorem in1_len (o : List Mk) (m : Mk) : (in1 o m).length = o.length + 1 := by
  have := pos_le o m
  simp [in1]; omega
theorem in1_perm (o : List Mk) (m : Mk) : (in1 o m).Perm (m :: o) := by
  unfold in1
  exact List.perm_middle.trans (by rw [List.take_append_drop])
theorem srt_snoc (L : List Mk) (m : Mk) : srt (L ++ [m]) = in1 (srt L) m := by simp [srt]
theorem srt_perm (L : List Mk) : (srt L).Perm L := by
  have : ∀ (L o : List Mk), (L.foldl in1 o).Perm (o ++ L) := by
    intro L
    induction L with
    | nil => intro o; simp
    | cons m r ih =>
      intro o
      simp only [List.foldl_cons]
      refine (ih _).trans ?_
      refine ((in1_perm o m).append_right r).trans ?_
      simpa using (List.perm_middle (l₁ := o) (l₂ := r) (a := m)).symm
  simpa [srt] using this L []
theorem srt_len (L : List Mk) : (srt L).length = L.length := (srt_perm L).length_eq
/-- In order: none is to be told ahead of one ahead of it. -/
def Srtd (o : List Mk) : Prop := o.Pairwise (fun x y => lt y x = false)
theorem in1_srtd (o : List Mk) (m : Mk) (h : Srtd o) : Srtd (in1 o m) := by
  induction o with
  | nil => simp [in1, pos, Srtd]
  | cons x r ih =>
    unfold Srtd at h
    rw [List.pairwise_cons] at h
    by_cases c : lt x m = true
    · have e : in1 (x :: r) m = x :: in1 r m := by simp [in1, pos, c]
      rw [e]
      unfold Srtd
      rw [List.pairwise_cons]
      refine ⟨?_, ih h.2⟩
      intro y hy
      rcases List.mem_cons.1 ((in1_perm r m).subset hy) with rfl | hy
      · rw [lt_iff] at c; rw [lt_no]; omega
      · exact h.1 y hy
    · have e : in1 (x :: r) m = m :: x :: r := by simp [in1, pos, c]
      rw [e]
      unfold Srtd
      rw [List.pairwise_cons, List.pairwise_cons]
      have c' : lt x m = false := by simpa using c
      refine ⟨?_, h⟩
      intro y hy
      rcases List.mem_cons.1 hy with rfl | hy
      · exact c'
      · have := h.1 y hy
        rw [lt_no] at *; omega
theorem srt_srtd (L : List Mk) : Srtd (srt L) := by
  have : ∀ (L o : List Mk), Srtd o → Srtd (L.foldl in1 o) := by
    intro L
    induction L with
    | nil => intro o h; exact h
    | cons m r ih => intro o h; exact ih _ (in1_srtd o m h)
  exact this L [] List.Pairwise.nil
/-- Numbers given once: one order alone. -/
theorem srtd_uniq : ∀ (A B : List Mk), A.Perm B → Srtd A → Srtd B → (∀ x ∈ A, ∀ y ∈ A, x.id = y.id → x = y) → A = B := by
  intro A
  induction A with
  | nil => intro B hp _ _ _; exact (List.nil_perm.1 hp).symm
  | cons a A ih =>
    intro B hp hA hB hu
    cases B with
    | nil => exact absurd hp.length_eq (by simp)
    | cons b B =>
      unfold Srtd at hA hB
      rw [List.pairwise_cons] at hA hB
      have hab : a = b := by
        have ha : a ∈ b :: B := hp.subset (by simp)
        have hb : b ∈ a :: A := hp.symm.subset (by simp)
        rcases List.mem_cons.1 ha with h | h
        · exact h
        rcases List.mem_cons.1 hb with h' | h'
        · exact h'.symm
        have h1 := hB.1 a h
        have h2 := hA.1 b h'
        refine hu a (by simp) b hb ?_
        rw [lt_no] at h1 h2
        omega
      subst hab
      have := ih B (List.Perm.cons_inv hp) hA.2 hB.2 (fun x hx y hy => hu x (by simp [hx]) y (by simp [hy]))
      rw [this]
theorem ids_once {L : List Mk} (h : L.Pairwise (fun x y => x.id < y.id)) : ∀ x ∈ L, ∀ y ∈ L, x.id = y.id → x = y := by
  intro x hx y hy e
  obtain ⟨i, hi, rfl⟩ := List.getElem_of_mem hx
  obtain ⟨j, hj, rfl⟩ := List.getElem_of_mem hy
  have hr := List.pairwise_iff_getElem.1 h
  rcases Nat.lt_trichotomy i j with c | c | c
  · have := hr i j hi hj c; omega
  · subst c; rfl
  · have := hr j i hj hi c; omega
theorem srt_of {L A : List Mk} (h : L.Pairwise (fun x y => x.id < y.id)) (hp : A.Perm L) (hs : Srtd A) : A = srt L := by
  refine srtd_uniq A (srt L) (hp.trans (srt_perm L).symm) hs (srt_srtd L) ?_
  intro x hx y hy
  exact ids_once h x (hp.subset hx) y (hp.subset hy)

end Go.Proofs.Ytdaccgnfhagoeaa
