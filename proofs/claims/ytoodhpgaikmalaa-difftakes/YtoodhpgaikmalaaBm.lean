/-
  Regions in memory of one's own, and one more appended.
-/
import Derived.Test.YtoodhpgaikmalaaBl
namespace Go.Proofs.Ytoodhpgaikmalaa
open Go.RowKit
set_option linter.unusedSimpArgs false
set_option linter.unusedVariables false

set_option linter.unusedSimpArgs false
set_option linter.unusedVariables false
theorem append_where {P : Program} (w : World) (base : Nat) (t ty e : TypeId) (i : TypeInfo) (z : Value) (size bytes : Nat) (ht : P.underlying t = some (.slice e)) (hi : P.info? e = some i) (hz : i.zero = some z)
    (hsize : i.size = size) (hby : i.bytes = bytes) (v : Value) (n : Nat) (xs : List Value) (hown : w.ownsRow base e size v n xs)
    (a : Addr) (m c : Nat) (news : List Value) (hm : 0 < m) (hl : news.length = m * size) (hnews : ∀ j u, news[j]? = some u → w.cell? (a.add j) = some u) (h1 : ∀ u ∈ news, u.oneCell' = true)
    (h63 : n + m ≤ maxLen) (hbytes : (n + m) * bytes ≤ 140737488355328) (v' : Value) (w' : World)
    (hr : (Builtin.append_ #[t, t] ty #[v, .slice (some a) m c]).run P w = .ok v' w') : v'.ownBlock = v.ownBlock ∨ v'.ownBlock = some w.heap.size := by
  subst hsize
  subst hby
  have hs : n + m ≤ 9223372036854775807 := by simp only [maxLen] at h63; omega
  rcases hown.2 with ⟨rfl, rfl⟩ | ⟨g, cap, cur, rfl, hbg, hg, hnc, hcm, hcs, htake⟩
  · have := run_append_nil (P := P) w t ty e i z ht hi hz a m c news hl hnews hm (by omega) (by have hb := hbytes; simp only [Nat.zero_add] at hb; omega)
    rw [this] at hr
    injection hr with e1 e2
    subst e1
    exact Or.inr rfl
  · by_cases hroom : n + m ≤ cap
    · have hfit : n * i.size + news.length ≤ cur.size := by rw [hl, hcs, ← Nat.add_mul]; exact Nat.mul_le_mul_right _ hroom
      have := run_append_room (P := P) w t ty e i ht hi g n cap cur hg a m c news hl hnews h1 hroom hfit
      rw [this] at hr
      injection hr with e1 e2
      subst e1
      exact Or.inl rfl
    · have := run_append_grow (P := P) w t ty e i z ht hi hz ⟨g, 0, none⟩ n cap xs hown.1 (hown.cells (g := g) rfl) a m c news hl hnews (by omega) (by omega) (growslice_fits (by omega) hbytes)
      rw [this] at hr
      injection hr with e1 e2
      subst e1
      exact Or.inr rfl

theorem wpList_append_apart {P : Program} {w : World} {ops : Array Oper} {rest : List Oper} {o : Oper} {a : Act} {Q : Exit → Act → World → Prop} (hgd : o.guard = none) (s x : Operand) (t : TypeId)
    (ho : o.op = .call { callee := .builtin .append, args := #[s, x], argTypes := #[t, t] })
    (base : Nat) (e : TypeId) (i : TypeInfo) (z : Value) (size bytes : Nat) (ht : P.underlying t = some (.slice e)) (hi : P.info? e = some i) (hz : i.zero = some z)
    (hsize : i.size = size) (hby : i.bytes = bytes) (hzs : z.cells.size = size) (hsz : 0 < size)
    (v : Value) (n : Nat) (xs : List Value) (hs : a.eval s = v) (hown : w.ownsRow base e size v n xs)
    (ad : Addr) (m c : Nat) (news : List Value) (hx : a.eval x = .slice (some ad) m c) (hl : news.length = m * size) (hnews : ∀ j u, news[j]? = some u → w.cell? (ad.add j) = some u) (h1 : ∀ u ∈ news, u.oneCell' = true)
    (h63 : n + m ≤ maxLen) (hbytes : (n + m) * bytes ≤ 140737488355328) (hbase : base ≤ w.heap.size) (hm : 0 < m)
    (h : ∀ v' w', w'.ownsRow base e size v' (n + m) (xs ++ news) → w.grownBy w' v.ownBlock → (v'.ownBlock = v.ownBlock ∨ v'.ownBlock = some w.heap.size) → wpList P ops Q rest (a.put o.dst v') w') : wpList P ops Q (o :: rest) a w := by
  refine wpList_plain hgd fun K hK => ?_
  obtain ⟨v', w', hr, h2, h3, h4⟩ := run_append_own (P := P) w base t o.type e i z size bytes ht hi hz hsize hby hzs hsz v n xs hown ad m c news hl hnews h1 h63 hbytes hbase
  have h5 := append_where w base t o.type e i z size bytes ht hi hz hsize hby v n xs hown ad m c news hm hl hnews h1 h63 hbytes v' w' hr
  unfold Oper.wp execOp
  simp only [ho, resolve, invoke, builtin, Sem.run_bind, Sem.run_pure, Result.andThen_ok, List.map_toArray, List.map_cons, List.map_nil, hs, hx, hr]
  exact hK _ _ (h v' w' h2 h3 h5)
theorem sl_own' {w : World} {B e size n cap : Nat} {ao : Option Addr} {xs : List Value} (h : w.ownsRow B e size (.slice ao n cap) n xs) : Sl ao cap n := by
  rcases h.2 with ⟨e, h0⟩ | ⟨g, cp, cur, e, hB, hh, hc, -⟩
  · injection e with e1 e2 e3
    exact ⟨by omega, fun _ => e3⟩
  · injection e with e1 e2 e3
    subst e1; subst e3
    exact ⟨hc, fun e => by cases e⟩
theorem info_region : (Try.prog.info? 39).map (fun i => (i.zero, i.size, i.bytes)) = some (some (.agg #[.int .i64 0, .int .i64 0, .int .i64 0, .int .i64 0, .slice none 0 0]), 5, 56) := by kernel_rfl
/-- A region's cells. -/
def rgc (z : Rg × Option Addr × Nat) : List Value := [.int .i64 z.1.pg, .int .i64 z.1.kd, .int .i64 z.1.fr, .int .i64 z.1.od, .slice z.2.1 z.1.ls.length z.2.2]
def rgcs (l : List (Rg × Option Addr × Nat)) : List Value := l.flatMap rgc
theorem rgcs_len (l : List (Rg × Option Addr × Nat)) : (rgcs l).length = l.length * 5 := by
  induction l with
  | nil => rfl
  | cons x r ih =>
    have : rgcs (x :: r) = rgc x ++ rgcs r := by simp [rgcs]
    rw [this, List.length_append, ih]
    simp [rgc]; omega
theorem rgcs_get (l : List (Rg × Option Addr × Nat)) (i j : Nat) (z : Rg × Option Addr × Nat) (hi : l[i]? = some z) (hj : j < 5) : (rgcs l)[i * 5 + j]? = (rgc z)[j]? := by
  induction l generalizing i with
  | nil => simp at hi
  | cons x r ih =>
    have e : rgcs (x :: r) = rgc x ++ rgcs r := by simp [rgcs]
    rw [e]
    have hx : (rgc x).length = 5 := rfl
    cases i with
    | zero =>
      simp at hi
      subst hi
      rw [List.getElem?_append_left (by omega)]; simp
    | succ i =>
      rw [List.getElem?_append_right (by omega), show (i + 1) * 5 + j - (rgc x).length = i * 5 + j by omega]
      exact ih i (by simpa using hi)
theorem rgc_ones (z : Rg × Option Addr × Nat) : ∀ u ∈ rgc z, u.oneCell' = true := by
  intro u hu
  simp only [rgc, List.mem_cons, List.not_mem_nil, or_false] at hu
  rcases hu with rfl | rfl | rfl | rfl | rfl <;> rfl
/-- Regions in memory of one's own, from block B on. -/
def RgO (B : Nat) (w : World) (v : Value) (rs : List Rg) : Prop := ∃ zs : List (Rg × Option Addr × Nat), zs.map (fun z => z.1) = rs ∧ w.ownsRow B 39 5 v rs.length (rgcs zs) ∧ ∀ z ∈ zs, RgOk z.1 ∧ Sl z.2.1 z.2.2 z.1.ls.length ∧ LsAt (fun b => B ≤ b ∧ v.ownBlock ≠ some b) w z.2.1 z.1.ls
theorem RgO.nil {B : Nat} {w : World} : RgO B w (.slice none 0 0) [] := ⟨[], rfl, World.ownsRow_nil _ _ _ _, fun z hz => by simp at hz⟩
theorem RgO.shape {B : Nat} {w : World} {v : Value} {rs : List Rg} (h : RgO B w v rs) : ∃ ao cap, v = .slice ao rs.length cap ∧ Sl ao cap rs.length := by
  obtain ⟨zs, hz, ho, -⟩ := h
  obtain ⟨ao, cap, e⟩ := own_shape ho
  subst e
  exact ⟨ao, cap, rfl, sl_own' ho⟩
theorem RgO.keep {B : Nat} {w w' : World} {v : Value} {rs : List Rg} (h : RgO B w v rs) (hb : Below w.heap.size w w') : RgO B w' v rs := by
  obtain ⟨zs, hz, ho, hall⟩ := h
  refine ⟨zs, hz, owns_below ho hb, fun z hm => ?_⟩
  obtain ⟨h1, h2, h3⟩ := hall z hm
  exact ⟨h1, h2, h3.below hb⟩
theorem RgO.at {B : Nat} {w : World} {ao : Option Addr} {cap : Nat} {rs : List Rg} (h : RgO B w (.slice ao rs.length cap) rs) : RgAt (fun b => B ≤ b) w ao rs := by
  obtain ⟨zs, hz, ho, hall⟩ := h
  intro i r hi
  have hl := (List.getElem?_eq_some_iff.1 hi).1
  rw [← hz, List.getElem?_map] at hi
  cases hzi : zs[i]? with
  | none => rw [hzi] at hi; simp at hi
  | some z =>
    rw [hzi] at hi
    simp at hi
    subst hi
    have hm : z ∈ zs := List.mem_of_getElem? hzi
    obtain ⟨h1, h2, h3⟩ := hall z hm
    obtain ⟨g, cp, e⟩ := ownsRow_form ho (by omega)
    injection e with e1 e2 e3
    subst e1
    have hc : ∀ j, j < 5 → w.cell? ⟨g, 0 + i * 5 + j, none⟩ = (rgc z)[j]? := by
      intro j hj
      have := ho.cellAt (i * 5 + j) (by omega)
      rw [show 0 + i * 5 + j = i * 5 + j by omega, this]
      exact rgcs_get zs i j z hzi hj
    exact ⟨h1, g, 0, z.2.1, z.2.2, rfl, (ho.lt g rfl).1, ⟨hc 0 (by omega), hc 1 (by omega), hc 2 (by omega), hc 3 (by omega), hc 4 (by omega)⟩, h2, h3.kp (fun b j u hs hc => ⟨hs.1, hc⟩)⟩
/-- One more, appended. -/
theorem wpList_more {w : World} {ops : Array Oper} {rest : List Oper} {o : Oper} {a : Act} {Q : Exit → Act → World → Prop} (hgd : o.guard = none) (s x : Operand)
    (ho : o.op = .call { callee := .builtin .append, args := #[s, x], argTypes := #[26, 26] })
    (B : Nat) (v : Value) (rs : List Rg) (hs : a.eval s = v) (h : RgO B w v rs) (g c : Nat) (hx : a.eval x = .slice (some ⟨g, 0, none⟩) 1 c) (r : Rg) (la : Option Addr) (lc : Nat)
    (hg : ∀ j u, (rgc (r, la, lc))[j]? = some u → w.cell? ⟨g, j, none⟩ = some u) (hr : RgOk r) (hl : Sl la lc r.ls.length) (hls : LsAt (fun b => B ≤ b ∧ v.ownBlock ≠ some b) w la r.ls) (hbig : rs.length ≤ 1000) (hB : B ≤ w.heap.size)
    (hk : ∀ v' w', RgO B w' v' (rs ++ [r]) → w.grownBy w' v.ownBlock → Below B w w' → wpList Try.prog ops Q rest (a.put o.dst v') w') : wpList Try.prog ops Q (o :: rest) a w := by
  obtain ⟨i0, hi, hz0, hz1, hz2⟩ := info_parts info_region
  obtain ⟨zs, hz, hown, hall⟩ := h
  refine wpList_append_apart hgd s x 26 ho B 39 i0 _ 5 56 Try.underlying26 hi hz0 hz1 hz2 rfl (by decide) v rs.length (rgcs zs) hs hown ⟨g, 0, none⟩ 1 c (rgc (r, la, lc)) hx rfl (fun j u hj => by rw [Addr.add_lit, Nat.zero_add]; exact hg j u hj) (rgc_ones _) (by unfold maxLen; omega) (by omega) hB (by omega) (fun v' w' h1 h2 h3 => ?_)
  have hB' : Below B w w' := ⟨h2.os, h2.tape, h2.output, h2.size, fun k hk => h2.block k (by omega) (fun e => by have := (hown.lt k e.symm).1; omega)⟩
  have hkeep : ∀ b, (B ≤ b ∧ v.ownBlock ≠ some b) → b < w.heap.size → (B ≤ b ∧ v'.ownBlock ≠ some b) ∧ w'.heap[b]? = w.heap[b]? := fun b hb hl => by
    refine ⟨⟨hb.1, fun e => ?_⟩, h2.block b hl (fun e => hb.2 e.symm)⟩
    rcases h3 with h3 | h3
    · exact hb.2 (by rw [← h3]; exact e)
    · rw [h3] at e
      injection e with e
      omega
  refine hk v' w' ⟨zs ++ [(r, la, lc)], by simp [hz], ?_, ?_⟩ h2 hB'
  · have : rgcs (zs ++ [(r, la, lc)]) = rgcs zs ++ rgc (r, la, lc) := by simp [rgcs]
    rw [this]
    simpa using h1
  · intro z hm
    rcases List.mem_append.1 hm with hm | hm
    · obtain ⟨h4, h5, h6⟩ := hall z hm
      exact ⟨h4, h5, h6.kp (KpH.kp hkeep)⟩
    · simp at hm
      subst hm
      exact ⟨hr, hl, hls.kp (KpH.kp hkeep)⟩
end Go.Proofs.Ytoodhpgaikmalaa
