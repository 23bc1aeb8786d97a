/-
  A law of the walk: what is appended to a list of the call's own lies in the list's block or in a new one. And what the document's Runes answers for every text of at most 1048576 bytes: its runes, where each begins, and the place of the first wrong byte, or -1.
-/
import Derived.Test.YtflhefgmgdgffaaDoorUk
namespace Go.Proofs.YtflhefgmgdgffaaDoor
open Go.RowKit
set_option linter.unusedSimpArgs false
set_option linter.unusedVariables false

theorem append_where {P : Program} (w : World) (base : Nat) (t ty e : TypeId) (i : TypeInfo) (z : Value) (size bytes : Nat) (ht : P.underlying t = some (.slice e)) (hi : P.info? e = some i) (hz : i.zero = some z)
    (hsize : i.size = size) (hby : i.bytes = bytes) (v : Value) (n : Nat) (xs : List Value) (hown : w.ownsRow base e size v n xs)
    (a : Addr) (m c : Nat) (news : List Value) (hm : 0 < m) (hl : news.length = m * size) (hnews : ∀ j u, news[j]? = some u → w.cell? (a.add j) = some u) (h1 : ∀ u ∈ news, u.oneCell' = true)
    (h63 : n + m ≤ maxLen) (hbytes : (n + m) * bytes ≤ 140737488355328) (v' : Value) (w' : World)
    (hr : (Builtin.append_ #[t, t] ty #[v, .slice (some a) m c]).run P w = .ok v' w') : v'.ownBlock = v.ownBlock ∨ v'.ownBlock = some w.heap.size := by
  subst hsize
  subst hby
  have hs : n + m ≤ 9223372036854775807 := by simp only [maxLen] at h63; omega
  rcases hown.2 with ⟨rfl, rfl⟩ | ⟨g, cap, cur, rfl, hbg, hg, hnc, hcm, hcs, htake⟩
  · have := run_append_nil (P := P) w t ty e i z ht hi hz a m c news hl hnews hm (by omega) (by have hb := hbytes; simp only [Nat.zero_add] at hb; omega)
    rw [this] at hr
    injection hr with e1 e2
    subst e1
    exact Or.inr rfl
  · by_cases hroom : n + m ≤ cap
    · have hfit : n * i.size + news.length ≤ cur.size := by rw [hl, hcs, ← Nat.add_mul]; exact Nat.mul_le_mul_right _ hroom
      have := run_append_room (P := P) w t ty e i ht hi g n cap cur hg a m c news hl hnews h1 hroom hfit
      rw [this] at hr
      injection hr with e1 e2
      subst e1
      exact Or.inl rfl
    · have := run_append_grow (P := P) w t ty e i z ht hi hz ⟨g, 0, none⟩ n cap xs hown.1 (hown.cells (g := g) rfl) a m c news hl hnews (by omega) (by omega) (growslice_fits (by omega) hbytes)
      rw [this] at hr
      injection hr with e1 e2
      subst e1
      exact Or.inr rfl

theorem wpList_append_apart {P : Program} {w : World} {ops : Array Oper} {rest : List Oper} {o : Oper} {a : Act} {Q : Exit → Act → World → Prop} (hgd : o.guard = none) (s x : Operand) (t : TypeId)
    (ho : o.op = .call { callee := .builtin .append, args := #[s, x], argTypes := #[t, t] })
    (base : Nat) (e : TypeId) (i : TypeInfo) (z : Value) (size bytes : Nat) (ht : P.underlying t = some (.slice e)) (hi : P.info? e = some i) (hz : i.zero = some z)
    (hsize : i.size = size) (hby : i.bytes = bytes) (hzs : z.cells.size = size) (hsz : 0 < size)
    (v : Value) (n : Nat) (xs : List Value) (hs : a.eval s = v) (hown : w.ownsRow base e size v n xs)
    (ad : Addr) (m c : Nat) (news : List Value) (hx : a.eval x = .slice (some ad) m c) (hl : news.length = m * size) (hnews : ∀ j u, news[j]? = some u → w.cell? (ad.add j) = some u) (h1 : ∀ u ∈ news, u.oneCell' = true)
    (h63 : n + m ≤ maxLen) (hbytes : (n + m) * bytes ≤ 140737488355328) (hbase : base ≤ w.heap.size) (hm : 0 < m)
    (h : ∀ v' w', w'.ownsRow base e size v' (n + m) (xs ++ news) → w.grownBy w' v.ownBlock → (v'.ownBlock = v.ownBlock ∨ v'.ownBlock = some w.heap.size) → wpList P ops Q rest (a.put o.dst v') w') : wpList P ops Q (o :: rest) a w := by
  refine wpList_plain hgd fun K hK => ?_
  obtain ⟨v', w', hr, h2, h3, h4⟩ := run_append_own (P := P) w base t o.type e i z size bytes ht hi hz hsize hby hzs hsz v n xs hown ad m c news hl hnews h1 h63 hbytes hbase
  have h5 := append_where w base t o.type e i z size bytes ht hi hz hsize hby v n xs hown ad m c news hm hl hnews h1 h63 hbytes v' w' hr
  unfold Oper.wp execOp
  simp only [ho, resolve, invoke, builtin, Sem.run_bind, Sem.run_pure, Result.andThen_ok, List.map_toArray, List.map_cons, List.map_nil, hs, hx, hr]
  exact hK _ _ (h v' w' h2 h3 h5)

theorem owns_below {w w' : World} {B e size n : Nat} {v : Value} {xs : List Value} (h : w.ownsRow B e size v n xs) (hb : Below w.heap.size w w') : w'.ownsRow B e size v n xs :=
  h.kept (row := none) ⟨hb.os, hb.tape, hb.output, hb.size, fun k hk _ => hb.block k hk⟩ (by cases hv : v.ownBlock <;> simp)

theorem apart1 {vl va v' : Option Nat} {H : Nat} (hne : vl = none ∨ vl ≠ va) (hva : ∀ k, va = some k → k < H) (hw : v' = vl ∨ v' = some H) : v' = none ∨ v' ≠ va := by
  rcases hw with rfl | rfl
  · exact hne
  · right
    intro c
    have := hva H c.symm
    omega
theorem apart2 {vl va : Option Nat} (hne : vl = none ∨ vl ≠ va) : va = none ∨ va ≠ vl := by
  rcases hne with rfl | h
  · cases va <;> simp
  · exact Or.inr (Ne.symm h)
theorem apart3 {v' va v'' : Option Nat} {H : Nat} (hne : v' = none ∨ v' ≠ va) (hv : ∀ k, v' = some k → k < H) (hw : v'' = va ∨ v'' = some H) : v' = none ∨ v' ≠ v'' := by
  rcases hw with rfl | rfl
  · exact hne
  · right
    intro c
    have := hv H c
    omega

/-- The first runes of a text. -/
def rns (s : ByteArray) (k : Nat) : List Nat := (List.range k).map (rn s)
/-- Where the first runes of a text begin. -/
def its (s : ByteArray) (k : Nat) : List Nat := (List.range k).map (it s)
theorem rns_len (s : ByteArray) (k : Nat) : (rns s k).length = k := by simp [rns]
theorem its_len (s : ByteArray) (k : Nat) : (its s k).length = k := by simp [its]
theorem rns_succ (s : ByteArray) (k : Nat) : rns s (k + 1) = rns s k ++ [rn s k] := by simp [rns, List.range_succ]
theorem its_succ (s : ByteArray) (k : Nat) : its s (k + 1) = its s k ++ [it s k] := by simp [its, List.range_succ]
theorem rns_get (s : ByteArray) (k j : Nat) (h : j < k) : (rns s k).getD j 0 = rn s j := by simp [rns, h]
theorem its_get (s : ByteArray) (k j : Nat) (h : j < k) : (its s k).getD j 0 = it s j := by simp [its, h]

theorem rf_pos (s : ByteArray) (a : Nat) (h : 0 < (dc s a).2) : rf s a = (((dc s a).1 : Int), ((dc s a).2 : Int)) := by unfold rf; rw [if_neg (by omega)]
theorem rf_zero (s : ByteArray) (a : Nat) (h : (dc s a).2 = 0) : rf s a = (-1, 0) := by unfold rf; rw [if_pos h]

set_option maxRecDepth 100000 in
set_option maxHeartbeats 3200000 in
theorem runes_any (s : ByteArray) (w : World) (hs : s.size ≤ 1048576) (N : Nat) (hN : Cnt s N) :
    Calls Tryd.prog 9 #[.string s] w fun e w' => ∃ ao1 c1 ao2 c2, e = .returned (.tuple #[.slice ao1 N c1, .slice ao2 N c2, .int .i64 (badAt s N)]) ∧
      Dg w' ao1 c1 (rns s N) ∧ Dg w' ao2 c2 (its s N) ∧ Below w.heap.size w w' := by
  obtain ⟨i0, hi, hz0, hz1, hz2⟩ := info_parts info_int
  have HN := boxed hN
  have hNl : N ≤ s.size := by have := cnt_le s N hN; have := it_le s N; omega
  clear hN
  go_enter Tryd.func9, Tryd.ntmps9
  go_wp2
  go_loopw [5, 6, 7] (fun vl va i wr => ∃ k : Nat, k ≤ N ∧ i = .int .i64 (it s k) ∧ wr.ownsRow w.heap.size 3 1 vl k (vals (rns s k)) ∧ wr.ownsRow w.heap.size 3 1 va k (vals (its s k)) ∧
      (vl.ownBlock = none ∨ vl.ownBlock ≠ va.ownBlock) ∧ Below w.heap.size w wr) (fun _ _ i _ => s.size - (intOf i).toNat)
  case atStart => exact ⟨0, Nat.zero_le _, rfl, World.ownsRow_nil _ _ _ _, World.ownsRow_nil _ _ _ _, Or.inl rfl, Below.refl _ _⟩
  case round =>
    obtain ⟨k, hk, rfl, hownl, howna, hne, hbel⟩ := hrel
    have hle := it_le s k
    have hrd := refread_any s (it s k) wr hs hle
    have hnx : Box (it s (k + 1) = it s k + (dc s (it s k)).2) := boxed rfl
    have hrl := rn_le s k
    by_cases hlt : k < N
    · have hp := HN.out.1 k hlt
      have hin := dc_pos s _ hp
      have hd := dc_le s (it s k) hle
      rw [rf_pos s _ hp] at hrd
      have HRS := boxed (rns_succ s k)
      have HIS := boxed (its_succ s k)
      have HRN : Box (rn s k = (dc s (it s k)).1) := boxed rfl
      have hz : ((((dc s (it s k)).2 : Nat) : Int) == 0) = false := by rw [beq_eq_false_iff_ne]; omega
      generalize hA : it s k = A at *
      generalize dc s A = D at *
      obtain ⟨r, n⟩ := D
      simp only at *
      go_wp2_with fail
      refine hrd.mono ?_
      rintro e w1 ⟨rfl, hb1⟩
      have hownl1 := owns_below hownl hb1
      have howna1 := owns_below howna hb1
      have hbel1 : Below w.heap.size w w1 := hbel.trans (hb1.mono hbel.size)
      clear hownl howna hbel hb1 hrd
      have hsz1 := hbel1.size
      go_wp2_with (at_builtin; refine wpList_append_apart rfl _ _ 30 rfl w.heap.size 3 i0 (.int .i64 0) 1 8 Tryd.underlying30 hi hz0 hz1 hz2 rfl (by decide) _ _ _ rfl (hownl1.alloc _) ⟨w1.heap.size, 0, none⟩ 1 1 [.int .i64 (r : Int)] rfl rfl ?c1 ?c2 ?c3 ?c4 ?c5 ?c6 ?_)
      case c1 =>
        intro j u hj
        match j, hj with
        | 0, hj => simp at hj; subst hj; simp [Addr.add]
      case c2 => intro u hu; simp at hu; subst hu; rfl
      case c3 => unfold maxLen; omega
      case c4 => omega
      case c5 => simp; omega
      case c6 => omega
      intro v' w2 hown2 hgrow2 hwh2
      have hsz2 : w1.heap.size < w2.heap.size := by have := hgrow2.size; simp at this; omega
      have howna2 := (howna1.alloc _).kept hgrow2 (apart2 hne)
      have hne2 := apart1 hne (fun k hk => by have := (howna1.lt k hk).2; omega) hwh2
      have hbel2 : Below w.heap.size w w2 := (hbel1.alloc (by omega) _).grown hgrow2 (by simp; omega) (fun k hk => (hownl1.lt k hk).1)
      clear hownl1 howna1 hgrow2 hwh2 hne hbel1
      go_wp2_with (at_builtin; refine wpList_append_apart rfl _ _ 30 rfl w.heap.size 3 i0 (.int .i64 0) 1 8 Tryd.underlying30 hi hz0 hz1 hz2 rfl (by decide) _ _ _ rfl (howna2.alloc _) ⟨w2.heap.size, 0, none⟩ 1 1 [.int .i64 (A : Int)] rfl rfl ?e1 ?e2 ?e3 ?e4 ?e5 ?e6 ?_)
      case e1 =>
        intro j u hj
        match j, hj with
        | 0, hj => simp at hj; subst hj; simp [Addr.add]
      case e2 => intro u hu; simp at hu; subst hu; rfl
      case e3 => unfold maxLen; omega
      case e4 => omega
      case e5 => simp; omega
      case e6 => omega
      intro v'' w3 hown3 hgrow3 hwh3
      have hownl3 := (hown2.alloc _).kept hgrow3 hne2
      have hne3 := apart3 hne2 (fun k hk => by have := (hown2.lt k hk).2; omega) hwh3
      have hbel3 : Below w.heap.size w w3 := (hbel2.alloc (by omega) _).grown hgrow3 (by simp; omega) (fun k hk => (howna2.lt k hk).1)
      rw [vals_snoc] at hown3 hownl3
      clear hown2 howna2 hgrow3 hwh3 hne2 hbel2
      go_wp2
      go_roundw
      case rel =>
        refine ⟨k + 1, by omega, by rw [hnx.out]; go_num, ?_, ?_, hne3, hbel3⟩
        · rw [HRS.out, HRN.out]; simpa using hownl3
        · rw [HIS.out]; simpa using hown3
      case measure => simp [intOf]; omega
    · have hkN : k = N := by omega
      subst hkN
      have hp := HN.out.2
      rw [rf_zero s _ hp] at hrd
      obtain ⟨-, a1, c1, rfl, hd1⟩ := dg_of_owns hownl
      obtain ⟨-, a2, c2, rfl, hd2⟩ := dg_of_owns howna
      have HD1 := boxed hd1
      have HD2 := boxed hd2
      have HB := boxed hbel
      have hl1 := rns_len s k
      have hl2 := its_len s k
      clear hd1 hd2 hbel hownl howna hne
      by_cases hin : it s k < s.size
      · have hb : Box (badAt s k = (it s k : Int)) := boxed (by unfold badAt; rw [if_pos hin])
        generalize it s k = A at *
        go_wp2_with fail
        refine hrd.mono ?_
        rintro e w1 ⟨rfl, hb1⟩
        have HB1 := boxed hb1
        clear hb1 hrd
        go_wp2
        go_ret3
        refine ⟨a1, c1, a2, c2, ?_, HD1.out.below HB1.out, HD2.out.below HB1.out, HB.out.trans (HB1.out.mono HB.out.size)⟩
        rw [hb.out]
        try simp [hl1, hl2]
      · have hb : Box (badAt s k = -1) := boxed (by unfold badAt; rw [if_neg hin])
        generalize it s k = A at *
        clear hrd
        go_wp2
        go_ret3
        refine ⟨a1, c1, a2, c2, ?_, HD1.out, HD2.out, HB.out⟩
        rw [hb.out]
        try simp [hl1, hl2]
end Go.Proofs.YtflhefgmgdgffaaDoor
