/-
  What the program's Put does.
-/
import Derived.Test.YtdaccgnfhagoeaaMkc
import Derived.Deep.RegionLaw
namespace Go.Proofs.Ytdaccgnfhagoeaa
open Go.RowKit
set_option linter.unusedSimpArgs false
set_option linter.unusedVariables false

theorem step_append_own {P : Program} {w : World} {ops : Array Oper} {o : Oper} {a : Act} {K : Act → World → Prop} {Q : Exit → Act → World → Prop} {E : Prop} (hgd : o.guard = none) (s x : Operand) (t : TypeId)
    (ho : o.op = .call { callee := .builtin .append, args := #[s, x], argTypes := #[t, t] })
    (base : Nat) (e : TypeId) (i : TypeInfo) (z : Value) (size bytes : Nat) (ht : P.underlying t = some (.slice e)) (hi : P.info? e = some i) (hz : i.zero = some z)
    (hsize : i.size = size) (hby : i.bytes = bytes) (hzs : z.cells.size = size) (hsz : 0 < size)
    (v : Value) (n : Nat) (xs : List Value) (hs : a.eval s = v) (hown : w.ownsRow base e size v n xs)
    (ad : Addr) (m c : Nat) (news : List Value) (hx : a.eval x = .slice (some ad) m c) (hl : news.length = m * size) (hnews : ∀ j u, news[j]? = some u → w.cell? (ad.add j) = some u) (h1 : ∀ u ∈ news, u.oneCell' = true)
    (h63 : n + m ≤ maxLen) (hbytes : (n + m) * bytes ≤ 140737488355328) (hbase : base ≤ w.heap.size)
    (h : ∀ v' w', w'.ownsRow base e size v' (n + m) (xs ++ news) → w.grownBy w' v.ownBlock → K (a.put o.dst v') w') :
    if Region.wanted o (yielded ops a.tmps) = true then Oper.wp P o a w K Q else E := by
  have hw : Region.wanted o (yielded ops a.tmps) = true := by simp [Region.wanted, hgd]
  rw [if_pos hw]
  exact wp_append_own w s x t ho base e i z size bytes ht hi hz hsize hby hzs hsz v n xs hs hown ad m c news hx hl hnews h1 h63 hbytes hbase fun v' w' h2 h3 _ => h v' w' h2 h3
theorem bytes_one (i : Int) (p : Int) (b : Bool) : ∀ u ∈ ([.int .i64 i, .int .i64 p, .bool b] : List Value), u.oneCell' = true := by
  intro u hu
  simp at hu
  rcases hu with rfl | rfl | rfl <;> rfl
set_option maxRecDepth 100000 in
set_option maxHeartbeats 2000000 in
theorem put16_any {B : Nat} {w : World} {sb : Nat} {v : Value} {s : St} {N : Int} (h : PS B w sb v s) (hB : B ≤ w.heap.size) (hk : s.ok N) (hN : N ≤ 1000000) (a : Int) (b : Bool) :
    Calls Try.prog 22 #[.pointer (some ⟨sb, 0, none⟩), .int .i64 a, .bool b] w fun e w' => e = .returned (.tuple #[.int .i64 (s.put a b).2.1, .int .i64 (s.put a b).2.2]) ∧ (∃ v', PS B w' sb v' (s.put a b).1) ∧ Chg (Own sb v) w w' := by
  have hout := outside16_any h a
  by_cases c : a < 0 ∨ s.sz < a
  · rw [decide_eq_true c] at hout
    have HE : Box (s.put a b = (s, 0, 30)) := boxed (by unfold St.put; rw [if_pos c])
    have HP := boxed h
    clear h hk c
    go_enter Try.func22, Try.ntmps22
    go_wp2_with fail
    refine hout.mono ?_
    rintro e w1 ⟨rfl, hw1⟩
    subst w1
    go_wp2_with fail
    go_ret2
    exact ⟨by rw [HE.out]; rfl, ⟨v, by rw [HE.out]; exact HP.out⟩, Chg.refl _ _⟩
  rw [decide_eq_false c] at hout
  obtain ⟨⟨c0, c1, c2⟩, y0, y1, y2⟩ := h.cells
  obtain ⟨ao, cap, rfl⟩ := own_shape h.own
  have hlen := hk.len
  by_cases d : 1024 ≤ s.L.length
  · have HE : Box (s.put a b = (s, 0, 2)) := boxed (by unfold St.put; rw [if_neg c, if_pos d])
    have HP := boxed h
    have d1 : (1024 : Int) ≤ (s.L.length : Int) := by omega
    clear h hk c
    generalize s.L.length = n at *
    go_enter Try.func22, Try.ntmps22
    go_wp2_with fail
    refine hout.mono ?_
    rintro e w1 ⟨rfl, hw1⟩
    subst w1
    go_wp2_with fail
    go_ret2
    exact ⟨by rw [HE.out]; rfl, ⟨_, by rw [HE.out]; exact HP.out⟩, Chg.refl _ _⟩
  obtain ⟨i0, hi, hz0, hz1, hz2⟩ := info_parts info_mark
  have HE : Box (s.put a b = ({ s with nx := s.nx + 1, L := s.L ++ [⟨s.nx + 1, a, b⟩] }, s.nx + 1, 0)) := boxed (by unfold St.put; rw [if_neg c, if_neg d])
  have d1 : ¬ (1024 : Int) ≤ (s.L.length : Int) := by omega
  have n0 := hk.nx0
  have n1 := hk.nx1
  obtain ⟨x, hx⟩ : ∃ x, s.nx + 1 = x := ⟨_, rfl⟩
  have hb := h.blk
  have hsb := h.lt
  have hlo := h.lo
  have HO := boxed h.own
  rw [hx] at HE
  obtain ⟨W, hW⟩ : ∃ W, w.setCell ⟨sb, 1, none⟩ (.int .i64 x) = W := ⟨_, rfl⟩
  obtain ⟨n, hn⟩ : ∃ n, s.L.length = n := ⟨_, rfl⟩
  have hn2 : n < 1024 := by omega
  have hWz : W.heap.size = w.heap.size := by rw [← hW]; simp
  have hWb : W.heap[sb]? = some (.cells #[.int .i64 s.sz, .int .i64 x, .slice ao s.L.length cap] 61 (0, 0)) := by rw [← hW]; have := arr_set (k := 1) (.int .i64 x) hb; simpa using this
  have hWg : w.grownBy W (some sb) := by rw [← hW]; exact grown_set _ _ _ _
  have hWo : W.ownsRow B 36 3 (.slice ao s.L.length cap) s.L.length (mcs s.L) := HO.out.kept hWg (Or.inr (own_ne HO.out hb (by decide)))
  obtain ⟨⟨k0, k1, k2⟩, z0, z1, z2⟩ := cells3 hWb
  rw [hn] at hWb hWo k2 c2 d1 HO
  have HX : Box (∀ v1 w1, (W.alloc (.cells #[.int .i64 x, .int .i64 a, .bool b] 36)).drew.grownBy w1 (Value.slice ao n cap).ownBlock → w1.ownsRow B 36 3 v1 (n + 1) (mcs s.L ++ [.int .i64 x, .int .i64 a, .bool b]) →
      ((w1.cell? ⟨sb, 1, none⟩ = some (.int .i64 x) ∧ w1.cell? ⟨sb, 2, none⟩ = some (.slice ao n cap) ∧ w1.frozen? ⟨sb, 2, none⟩ = false) ∧ (w1.setCell ⟨sb, 2, none⟩ v1).cell? ⟨sb, 1, none⟩ = some (.int .i64 x)) ∧ PS B (w1.setCell ⟨sb, 2, none⟩ v1) sb v1 ⟨s.sz, x, s.L ++ [⟨x, a, b⟩]⟩ ∧ Chg (Own sb (.slice ao n cap)) w (w1.setCell ⟨sb, 2, none⟩ v1)) := boxed (by
    intro v1 w1 hg ho
    have hne0 := own_ne hWo hWb (by decide)
    have hb1 : w1.heap[sb]? = some (.cells #[.int .i64 s.sz, .int .i64 x, .slice ao n cap] 61 (0, 0)) := by
      rw [hg.block sb (by simp [World.drew]; omega) hne0.symm]
      show (W.alloc _).heap[sb]? = _
      rw [heap_alloc_old _ _ (by omega)]
      exact hWb
    obtain ⟨⟨e0, e1, e2⟩, f0, f1, f2⟩ := cells3 hb1
    have hb2 := arr_set (k := 2) v1 hb1
    obtain ⟨⟨g0, g1, g2⟩, -⟩ := cells3 (show (w1.setCell ⟨sb, 2, none⟩ v1).heap[sb]? = some (.cells #[.int .i64 s.sz, .int .i64 x, v1] 61 (0, 0)) by simpa using hb2)
    refine ⟨⟨⟨e1, e2, f2⟩, g1⟩, ⟨hlo, by simpa using hb2, ?_⟩, ?_⟩
    · have ho2 := ho.kept (grown_set w1 sb 2 v1) (Or.inr (own_ne ho hb1 (by decide)))
      rw [List.length_append, hn, mcs_app]
      exact ho2
    · have q1 : Chg (Own sb (.slice ao n cap)) w W := Chg.of_grown hWg (fun g e => by injection e with e; exact .inl e.symm)
      have q2 : Chg (Own sb (.slice ao n cap)) W (W.alloc (.cells #[.int .i64 x, .int .i64 a, .bool b] 36)).drew := Chg.of_below (((Below.refl _ _).alloc (Nat.le_refl _) _).drew)
      have q3 : Chg (Own sb (.slice ao n cap)) (W.alloc (.cells #[.int .i64 x, .int .i64 a, .bool b] 36)).drew w1 := Chg.of_grown hg (fun g e => .inr e)
      exact ((q1.trans q2).trans q3).trans (Chg.set w1 sb 2 v1 (.inl rfl)))
  have HNw : Box (∀ j u, ([.int .i64 x, .int .i64 a, .bool b] : List Value)[j]? = some u → (W.alloc (.cells #[.int .i64 x, .int .i64 a, .bool b] 36)).drew.cell? ((⟨w.heap.size, 0, none⟩ : Addr).add j) = some u) := boxed (by
    intro j u hj
    rw [Addr.add_lit, Nat.zero_add, ← hWz, World.cell?_drew, cell_first]
    simpa using hj)
  have H1c := boxed (bytes_one x a b)
  have HOa := boxed (owns_below hWo (((Below.refl W.heap.size W).alloc (Nat.le_refl _) (.cells #[.int .i64 x, .int .i64 a, .bool b] 36)).drew))
  have hb0 : B ≤ (W.alloc (.cells #[.int .i64 x, .int .i64 a, .bool b] 36)).drew.heap.size := by simp; omega
  have HW := boxed hW
  have hx3 : s.nx + 1 ≤ 9223372036854775807 := by omega
  have hx4 : -9223372036854775808 ≤ s.nx + 1 := by omega
  have hx2 := hx
  clear h hk c d hx hWb hWo hWg hW hb HO
  generalize s.L.length = n' at *
  subst hn
  go_enter Try.func22, Try.ntmps22
  go_wp2_with fail
  refine hout.mono ?_
  rintro e w1 ⟨rfl, hw1⟩
  subst w1
  go_upto_region 6 with (fail)
  rw [HW.out]
  have k1' := k1
  go_region_law
    (first | (refine step_append_own rfl _ _ 42 rfl B 36 i0 _ 3 24 Try.underlying42 hi hz0 hz1 hz2 rfl (by decide) _ _ _ rfl HOa.out ⟨w.heap.size, 0, none⟩ 1 1 [.int .i64 x, .int .i64 a, .bool b] rfl rfl HNw.out H1c.out (by unfold maxLen; omega) (by omega) hb0 ?_; intro v1 w1 hown1 hg1; obtain ⟨a1, c1, rfl⟩ := own_shape hown1; obtain ⟨⟨⟨p1, p2, p3⟩, p4⟩, hPS, hCH⟩ := HX.out _ w1 hg1 hown1; have HPS := boxed hPS; have HCH := boxed hCH; clear hown1 hg1 hPS hCH))
  all_goals
    go_wp2
    go_ret2
    exact ⟨by rw [HE.out]; rfl, ⟨_, by rw [HE.out]; exact HPS.out⟩, HCH.out⟩
end Go.Proofs.Ytdaccgnfhagoeaa
