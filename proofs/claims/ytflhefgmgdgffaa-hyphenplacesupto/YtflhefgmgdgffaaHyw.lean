/-
  What the document's Points answers. (Written by mkhyw.py.)
-/
import Derived.Test.YtflhefgmgdgffaaHyv
import Derived.Laws.AppendOwnNone
namespace Go.Proofs.Ytflhefgmgdgffaa
open Go.RowKit Go.Maps
set_option linter.unusedSimpArgs false
set_option linter.unusedVariables false

theorem one_cell (k : IntKind) (x : Int) : ∀ u ∈ ([.int k x] : List Value), u.oneCell' = true := by intro u hu; simp at hu; subst hu; rfl
theorem vals_one (L : List Nat) : ∀ u ∈ vals L, u.oneCell' = true := by
  intro u hu
  simp only [vals, List.mem_map] at hu
  obtain ⟨d, _, rfl⟩ := hu
  rfl
theorem int_lohi (b n cap x y : Nat) (hx : x < n) (hy : x ≤ y) (hn : y ≤ n) (hc : n ≤ cap) (w : World) : (Instr.slice 36 (.slice (some ⟨b, 0, none⟩) n cap) (some (.int .i64 (x : Int))) (some (.int .i64 (y : Int))) none).run Try.prog w = .ok (.slice (some ⟨b, x, none⟩) (y - x) (cap - x)) w := by
  have h4 : (x : Int) ≤ (y : Int) := by omega
  have h5 : (y : Int) ≤ (cap : Int) := by omega
  go_simp
  intro h; omega
theorem Dg.chg {g : Nat} {w w' : World} {ao : Option Addr} {cap : Nat} {l : List Nat} (h : Dg w ao cap l) (hc : Chg (fun b => b = g) w w') (hn : ∀ b o, ao = some ⟨b, o, none⟩ → b ≠ g) : Dg w' ao cap l := by
  obtain ⟨h1, h2⟩ := h
  refine ⟨h1, ?_⟩
  rcases h2 with h2 | ⟨b, off, e, hb, hl⟩
  · exact .inl h2
  · refine .inr ⟨b, off, e, Nat.lt_of_lt_of_le hb hc.size, fun i hi => ?_⟩
    rw [World.cell?_of_block (a := ⟨b, off + i, none⟩) (hc.block b hb (hn b off e))]
    exact hl i hi
theorem chg_keep {g pb : Nat} {w w' : World} {o : Obj} (hc : Chg (fun b => b = g) w w') (h : w.heap[pb]? = some o) (hn : pb ≠ g) : w'.heap[pb]? = some o := (hc.block pb (heap_lt h) hn).trans h
theorem chg_below {D : Nat → Prop} {w w' : World} (h : Below w.heap.size w w') : Chg D w w' := ⟨h.os, h.tape, h.output, h.size, fun k hk _ => h.block k hk⟩
theorem rise_len {A : List Nat} {n : Nat} (h : A.Pairwise (· < ·)) (ha : ∀ a ∈ A, a < n) : A.length ≤ n := by
  have := rise_filter A h n ha
  have h2 := List.length_filter_le (fun i => decide (i ∈ A)) (List.range n)
  rw [this, List.length_range] at h2
  exact h2
theorem dg_cut {w : World} {B g cap n at' k : Nat} {l : List Nat} (h : w.ownsRow B 3 1 (.slice (some ⟨g, 0, none⟩) n cap) n (vals l)) (hk : at' + k ≤ n) : Dg w (some ⟨g, at', none⟩) (cap - at') ((l.drop at').take k) ∧ ((l.drop at').take k).length = k := by
  obtain ⟨e, ao, c, e1, ⟨h1, h2⟩, h3⟩ := dg_of_owns h
  injection e1 with e1 e2 e3
  subst e1; subst e3
  have hl : ((l.drop at').take k).length = k := by rw [List.length_take, List.length_drop]; omega
  refine ⟨⟨⟨by rw [hl]; omega, by omega⟩, ?_⟩, hl⟩
  rcases h3 with h3 | ⟨b, off, e4, hb, hc⟩
  · left; rw [h3]; simp
  · right
    injection e4 with e4
    injection e4 with e4 e5
    subst e4; subst e5
    refine ⟨g, at', rfl, hb, fun i hi => ?_⟩
    rw [hl] at hi
    have := hc (at' + i) (by omega)
    rw [Nat.zero_add] at this
    rw [this]
    simp [List.getD_eq_getElem?_getD, List.getElem?_take, hi, List.getElem?_drop]
theorem wpList_append_row {P : Program} {w : World} {ops : Array Oper} {rest : List Oper} {o : Oper} {a : Act} {Q : Exit → Act → World → Prop} (hgd : o.guard = none) (s x : Operand) (t : TypeId)
    (ho : o.op = .call { callee := .builtin .append, args := #[s, x], argTypes := #[t, t] })
    (base : Nat) (e : TypeId) (i : TypeInfo) (z : Value) (bytes : Nat) (ht : P.underlying t = some (.slice e)) (hi : P.info? e = some i) (hz : i.zero = some z)
    (hsize : i.size = 1) (hby : i.bytes = bytes) (hzs : z.cells.size = 1)
    (v : Value) (n : Nat) (xs : List Value) (hs : a.eval s = v) (hown : w.ownsRow base e 1 v n xs)
    (B2 : Nat) (v2 : Value) (m : Nat) (news : List Value) (hx : a.eval x = v2) (hsrc : w.ownsRow B2 e 1 v2 m news) (h1 : ∀ u ∈ news, u.oneCell' = true)
    (h63 : n + m ≤ maxLen) (hbytes : (n + m) * bytes ≤ 140737488355328) (hbase : base ≤ w.heap.size)
    (h : ∀ v' w', w'.ownsRow base e 1 v' (n + m) (xs ++ news) → w.grownBy w' v.ownBlock → wpList P ops Q rest (a.put o.dst v') w') : wpList P ops Q (o :: rest) a w := by
  rcases ownsRow_forms hsrc with ⟨e1, e2⟩ | ⟨g, c, e1⟩
  · subst e2
    have hn : news = [] := List.eq_nil_of_length_eq_zero (by have := hsrc.1; omega)
    subst hn
    exact wpList_append_own_none hgd s x t ho base e i 1 ht hi v n xs hs hown (by rw [hx, e1]) (h v w (by simpa using hown) (World.grownBy.refl w _))
  · subst e1
    by_cases hm : 0 < m
    · exact wpList_append_apart hgd s x t ho base e i z 1 bytes ht hi hz hsize hby hzs (by decide) v n xs hs hown ⟨g, 0, none⟩ m c news hx (by have := hsrc.1; omega) (hsrc.cells rfl) h1 h63 hbytes hbase hm (fun v' w' h2 h3 _ => h v' w' h2 h3)
    · have hm0 : m = 0 := by omega
      subst hm0
      have hn : news = [] := List.eq_nil_of_length_eq_zero (by have := hsrc.1; omega)
      subst hn
      exact wpList_append_own w hgd s x t ho base e i z 1 bytes ht hi hz hsize hby hzs (by decide) v n xs hs hown ⟨g, 0, none⟩ 0 c [] hx rfl (by intro j u hj; simp at hj) h1 h63 hbytes hbase (fun v' w' h2 h3 _ => h v' w' h2 h3)
set_option maxRecDepth 100000 in
set_option maxHeartbeats 16000000 in
theorem refpoints_any (w : World) (ao ao' : Option Addr) (n m cap cap' : Nat) (S T : Nat → ByteArray) (l r : Nat) (s : ByteArray) (hS : StrsAt w ao n S) (hT : StrsAt w ao' m T) (hn : n ≤ 60) (hm : m ≤ 60) (hokS : ∀ j, j < n → patT (S j) ≠ none) (hokT : ∀ j, j < m → wordT (T j) ≠ none) (hl : 1 ≤ l ∧ l ≤ 100) (hr : 1 ≤ r ∧ r ≤ 100) (hs : s.size ≤ 1048576) :
    Calls Try.prog 14 #[.slice ao n cap, .slice ao' m cap', .int .i64 (l : Int), .int .i64 (r : Int), .string s] w fun e w' => ∃ out v, e = .returned v ∧ w'.ownsRow w.heap.size 3 1 v out.length (vals out) ∧ PtsS (qS S n) (yS T m) l r s out ∧ Below w.heap.size w w' := by
  obtain ⟨i2, hi2, hz0, hz1, hz2⟩ := info_parts info_int
  have HS := boxed hS
  have HT := boxed hT
  have HOKS := boxed hokS
  have HOKT := boxed hokT
  have hru := runes_any s w hs (nR s) (nR_cnt s)
  have hnl := nR_le s
  have HBAD := boxed (rt_bad s)
  have hbz : badAt s (nR s) = -1 ∨ 0 ≤ badAt s (nR s) := badAt_cases s _
  generalize badAt s (nR s) = bad at *
  clear hS hT hokS hokT
  go_enter Try.func14, Try.ntmps14
  go_wp2_with fail
  refine hru.mono ?_
  rintro e w1 ⟨aa, ca, aa2, ca2, rfl, hd, -, hb1⟩
  have HB1 := boxed hb1
  have HD := boxed hd
  clear hb1 hru hd
  by_cases hf : fit s = false
  · have HN : Box (∀ L, wordT s ≠ some (L, [])) := boxed (fun L h => by rw [word_unfit hf] at h; cases h)
    have t : decide ((0 : Int) ≤ bad) = true ∨ (decide ((0 : Int) ≤ bad) = false ∧ decide ((256 : Int) < (s.size : Int)) = true ∧ decide (256 < s.size) = true) := by
      rcases hbz with h | h
      · right
        have hr : rt s = true := HBAD.out.1 (by omega)
        unfold fit at hf
        rw [hr] at hf
        simp at hf
        exact ⟨decide_eq_false (by omega), decide_eq_true (by omega), decide_eq_true (by omega)⟩
      · exact .inl (decide_eq_true h)
    clear hf hbz
    rcases t with t1 | ⟨t1, t2, t3⟩
    all_goals
      go_wp2_with fail
      go_ret
      exact ⟨[], _, rfl, World.ownsRow_nil _ _ _ _, pts_none HN.out, HB1.out⟩
  have hf' : fit s = true := by simpa using hf
  have hrt : rt s = true := by unfold fit at hf'; simp at hf'; exact hf'.2
  have hz : s.size ≤ 256 := by unfold fit at hf'; simp at hf'; exact hf'.1
  have t1 : decide ((0 : Int) ≤ bad) = false := decide_eq_false (by have := HBAD.out.2 hrt; omega)
  have t2 : decide ((256 : Int) < (s.size : Int)) = false := decide_eq_false (by omega)
  have t3 : decide (256 < s.size) = false := decide_eq_false (by omega)
  have HF := boxed hf'
  have HDT : Box (∀ i, i < nR s → ∃ b off, aa = some ⟨b, off, none⟩ ∧ ∀ wr, Below w1.heap.size w1 wr → b < wr.heap.size ∧ wr.cell? ⟨b, off + i, none⟩ = some (.int .i64 ((rn s i : Nat) : Int))) := boxed (fun i hi => by
    obtain ⟨b, off, e, hbl, hc⟩ := HD.out.at (by rw [rns_len]; omega)
    refine ⟨b, off, e, fun wr hb => ?_⟩
    have := hc i (by rw [rns_len]; exact hi)
    rw [rns_get _ _ _ hi] at this
    exact ⟨Nat.lt_of_lt_of_le hbl hb.size, hold hb this⟩)
  obtain ⟨N, hN⟩ : ∃ N, nR s = N := ⟨_, rfl⟩
  have HN := boxed hN
  rw [hN] at hnl ⊢
  clear hf hf' hrt hbz hN
  go_wp2_with fail
  clear t1 t2 t3
  go_loopw [14, 15] (fun vw vi wr => ∃ (k : Nat) (L : List Nat), k ≤ N ∧ vi = .int .i64 (k : Int) ∧ Box (wst (rs s) k = some (L, [])) ∧ Box (k = 0 ∨ wfl s k = true) ∧ Box (wr.ownsRow w1.heap.size 3 1 vw L.length (vals L)) ∧ Box (Below w1.heap.size w1 wr)) (fun _ vi _ => N - (intOf vi).toNat)
  case atStart => exact ⟨0, [], Nat.zero_le _, rfl, boxed rfl, boxed (.inl rfl), boxed (World.ownsRow_nil _ _ _ _), boxed (Below.refl _ _)⟩
  case round =>
    obtain ⟨k, L, hk, rfl, HW, HWF, HL, HB2⟩ := hrel
    obtain ⟨hl1, -, -, -, -, -, -⟩ := wst_ok _ k L [] (by rw [rs_len, HN.out]; exact hk) HW.out
    by_cases hlt : k < N
    · have hlt' : k < nR s := by rw [HN.out]; exact hlt
      have hrl := rn_le s k
      have hll := low_le _ hrl
      obtain ⟨b, off, e0, hcl0⟩ := HDT.out k hlt'
      obtain ⟨-, hcl⟩ := hcl0 wr HB2.out
      have hki : (k : Int) < (N : Int) := by omega
      have hlow := fun W => reflower_any (rn s k) hrl W
      have hlet := fun W => refletter_any (rn s k) hrl W
      rw [e0]
      cases hL : ltr (rn s k) with
      | false =>
        have HNO := boxed (no_word hlt' HW.out hL)
        rw [hL] at hlet
        clear hL hcl0 hll
        generalize rn s k = r' at *
        go_wp2_with fail
        refine (hlet _).mono ?_
        rintro e w2 ⟨rfl, hbl2⟩
        have HB3 : Box (Below w.heap.size w w2) := boxed (HB1.out.trans ((below_step HB2.out (Nat.le_refl _) hbl2).mono HB1.out.size))
        clear hlet hbl2 hcl
        go_wp2_with fail
        go_ret
        exact ⟨[], _, rfl, World.ownsRow_nil _ _ _ _, pts_none HNO.out, HB3.out⟩
      | true =>
        obtain ⟨e1, e2⟩ := (wst_next hlt' HW.out).1 hL
        have HW2 := boxed e1
        have HWF2 : Box (k + 1 = 0 ∨ wfl s (k + 1) = true) := boxed (.inr e2)
        rw [hL] at hlet
        have hcl9 := boxed hcl0
        clear hL hcl0 e1 e2
        have HSN := boxed (vals_snoc L (lowr (rn s k)))
        generalize rn s k = r' at *
        generalize lowr r' = l' at *
        obtain ⟨ll, hll2⟩ : ∃ ll, L.length = ll := ⟨_, rfl⟩
        have HLL := boxed hll2
        rw [hll2] at HL hl1
        clear hll2
        go_wp2_with fail
        refine (hlet _).mono ?_
        rintro e w2 ⟨rfl, hbl2⟩
        have HB3 := boxed (below_step HB2.out (Nat.le_refl _) hbl2)
        have HL3 := boxed (owns_below HL.out hbl2)
        obtain ⟨-, hcl'⟩ := hcl9.out w2 HB3.out
        have hsz3 := HB3.out.size
        clear hlet hbl2 hcl HB2 HL hcl9
        go_wp2_with (first | (go_at_call 33; refine (hlow _).mono ?_; rintro e w' ⟨rfl, hw'⟩; subst w') | (at_builtin; refine wpList_append_apart rfl _ _ 36 rfl w1.heap.size 3 i2 (.int .i64 0) 1 8 Try.underlying36 hi2 hz0 hz1 hz2 rfl (by decide) _ _ _ rfl (HL3.out.alloc _) ⟨w2.heap.size, 0, none⟩ 1 1 [.int .i64 (l' : Int)] rfl rfl (one_new w2 _ _) (one_cell _ _) (by unfold maxLen; omega) (by omega) (by simp; omega) (by omega) ?_))
        intro v5 w5 hown5 hgrow5 _
        have HB5 : Box (Below w1.heap.size w1 w5) := boxed ((HB3.out.alloc (by omega) _).grown hgrow5 (by simp; omega) (fun k hk => (HL3.out.lt k hk).1))
        rw [HSN.out] at hown5
        have HL5 : Box (w5.ownsRow w1.heap.size 3 1 v5 (L ++ [l']).length (vals (L ++ [l']))) := boxed (by rw [List.length_append, HLL.out]; exact hown5)
        clear hown5 hgrow5 HL3 HB3 hcl'
        go_wp2
        go_roundw
        case rel => exact ⟨k + 1, L ++ [l'], by omega, by go_num, HW2, HWF2, HL5, HB5⟩
        case measure => simp [intOf]; omega
    · have e : k = N := by omega
      subst e
      have HWA : Box (∀ out, PtsIs (qS S n) (yS T m) l r L out → PtsS (qS S n) (yS T m) l r s out) := boxed (fun out h => word_all HF.out (by rw [HN.out]; exact HW.out) (by rw [HN.out]; exact HWF.out) h)
      have hnN := HN.out
      have hll2 : L.length ≤ 256 := by omega
      have HBW3 : Box (Below w.heap.size w wr) := boxed (HB1.out.trans (HB2.out.mono HB1.out.size))
      obtain ⟨-, aw, cw, rfl, hdw⟩ := dg_of_owns HL.out
      have HDW := boxed hdw
      obtain ⟨LN, hLN⟩ : ∃ LN, L.length = LN := ⟨_, rfl⟩
      rw [hLN] at hll2 HL ⊢
      replace hLN := boxed hLN
      obtain ⟨M, hMN⟩ : ∃ M, LN + 1 = M := ⟨_, rfl⟩
      replace hMN := boxed hMN
      have hM1 : (LN : Int) + 1 = (M : Int) := by have := hMN.out; omega
      have hM2 : M ≤ 257 := by have := hMN.out; omega
      have hM3 : (LN : Int) < (M : Int) := by omega
      have hmk : ∀ W : World, (Instr.makeSlice 36 (.int .i64 (M : Int)) (.int .i64 (M : Int))).run Try.prog W = .ok (.slice (some ⟨W.heap.size, 0, none⟩) M M) (W.alloc (.cells (madeCells #[Value.int .i64 0] M) 3)) := by
        intro W
        have := run_makeSlice (w := W) 36 3 i2 (.int .i64 0) Try.underlying36 hi2 hz0 .i64 .i64 (M : Int) (M : Int) (by omega) (by omega) (by rw [hz1]; simp; omega) (by rw [hz2]; omega) (by omega)
        rw [this, hz1]
        simp [Value.cells]
      have hA : (madeCells #[Value.int .i64 0] M).toList = vals (List.replicate M 0) := by
        have := toList_madeCells_one (Value.int .i64 0) M
        rw [this]; simp [vals]
      have hA2 : (madeCells #[Value.int .i64 0] M).size = M := by
        have := congrArg List.length hA
        simpa [vals] using this
      obtain ⟨A0, hA0⟩ : ∃ A0, madeCells #[Value.int .i64 0] M = A0 := ⟨_, rfl⟩
      rw [hA0] at hmk hA hA2
      have HMK : Box (∀ (W : World) (B : Nat), B ≤ W.heap.size → (W.alloc (.cells A0 3)).ownsRow B 3 1 (.slice (some ⟨W.heap.size, 0, none⟩) M M) M (vals (List.replicate M 0))) := boxed (fun W B hB => by
        have := World.ownsRow_lit (base := B) (e := 3) (size := 1) W A0 M hB (by unfold maxLen; omega) (by rw [hA2]; simp)
        rw [hA] at this
        exact this)
      clear hA hA2 hA0 HW HWF hl1 hnN hdw HB2 HDT HD HF HBAD hk hlt
      obtain ⟨W3, rfl⟩ : ∃ W3, W3 = wr := ⟨_, rfl⟩
      go_wp2_with fail
      go_loopw [16, 17, 18] (fun vo vk vi w4 => ∃ (i : Nat) (known : Bool) (O : List Nat) (g : Nat), i ≤ m ∧ vo = .slice (some ⟨g, 0, none⟩) M M ∧ vk = .bool known ∧ vi = .int .i64 (i : Int) ∧ Box (KnO (yS T i) L known O) ∧ Box (w4.ownsRow W3.heap.size 3 1 (.slice (some ⟨g, 0, none⟩) M M) M (vals O)) ∧ Box (Below W3.heap.size W3 w4)) (fun _ _ vi _ => m - (intOf vi).toNat)
      case atStart =>
        refine ⟨0, false, List.replicate M 0, W3.heap.size, Nat.zero_le _, rfl, rfl, rfl, boxed ?_, boxed (HMK.out W3 W3.heap.size (Nat.le_refl _)), boxed ((Below.refl _ _).alloc (Nat.le_refl _) _)⟩
        have := kn_none L
        rw [hLN.out, hMN.out] at this
        exact this
      case round =>
        obtain ⟨i, known, O, g, hi, rfl, rfl, rfl, HK, HO, HB4⟩ := hrel
        obtain ⟨w4, rfl⟩ : ∃ w4, w4 = wr := ⟨_, rfl⟩
        by_cases hlt : i < m
        · obtain ⟨b, off, rfl, hcl, hsz⟩ := strs_at HT.out i hlt
          have hci := hcl _ (HBW3.out.trans (HB4.out.mono HBW3.out.size))
          have hil : (i : Int) < (m : Int) := by omega
          have hrp := refword_any (T i) w4 hsz
          obtain ⟨⟨P, V⟩, hP⟩ := Option.ne_none_iff_exists'.1 (HOKT.out i hlt)
          obtain ⟨hP256, -, hVs, hVa, -⟩ := wordT_ok hP
          have HVA := boxed hVa
          have hVl := rise_len hVs hVa
          have HYS := boxed (yS_succ T i hP)
          have HP := boxed hP
          clear hcl hsz hP hVa hVs
          generalize T i = s' at *
          go_wp2_with fail
          refine hrp.mono ?_
          rintro e w2 ⟨⟨v1, v2, bb, rfl, -, -, -, hR⟩, hb⟩
          obtain ⟨aoL, cL, aoV, cV, rfl, rfl, hd1, hd2, -, -⟩ := hR P V HP.out
          have l1 := laid1 w2 (.cells #[.slice aoL P.length cL, .slice aoV V.length cV] 66)
          obtain ⟨W4, hW4⟩ : ∃ W4, w2.alloc (.cells #[.slice aoL P.length cL, .slice aoV V.length cV] 66) = W4 := ⟨_, rfl⟩
          rw [hW4] at l1
          have HB5 : Box (Below W3.heap.size W3 W4) := boxed (below_step (below_step HB4.out (Nat.le_refl _) hb) (Nat.le_refl _) l1.2.1)
          have HB45 : Box (Below w4.heap.size w4 W4) := boxed (hb.trans (l1.2.1.mono hb.size))
          have hsm := rsame_any W4 aoL aw cL cw P L (hd1.below l1.2.1) (HDW.out.below HB5.out)
          rw [hLN.out] at hsm
          have HDV := boxed (hd2.below l1.2.1)
          have HX := boxed l1.1
          have c0 : W4.cell? ⟨w2.heap.size, 0, none⟩ = some (.slice aoL P.length cL) := by rw [cell_of_row _ _ _ _ _ _ l1.1]; rfl
          obtain ⟨pb, hpb⟩ : ∃ pb, w2.heap.size = pb := ⟨_, rfl⟩
          rw [hpb] at HX c0
          replace hW4 := boxed hW4
          replace hpb := boxed hpb
          clear hb hR hd1 hd2 l1 hrp hci
          go_upto_region 17 with fail
          rw [hW4.out]
          have hpb' := hpb.out
          rw [hpb']
          clear hpb' hpb hW4
          go_wp2_with fail
          refine hsm.mono ?_
          rintro e w' ⟨rfl, q, rfl⟩
          by_cases hPL : P = L
          · rw [decide_eq_true hPL]
            obtain ⟨W5, hW5⟩ : ∃ W5, W4.drewN q = W5 := ⟨_, rfl⟩
            have HB6 : Box (Below W3.heap.size W3 W5) := boxed (by rw [← hW5]; exact HB5.out.trans (bel_drewN _ _ _))
            have HDV5 : Box (Dg W5 aoV cV V) := boxed (by rw [← hW5]; exact HDV.out.drewN q)
            have HX5 : Box (W5.heap[pb]? = some (.cells #[.slice aoL P.length cL, .slice aoV V.length cV] 66 (0, 0))) := boxed (by rw [← hW5]; exact HX.out)
            rw [hW5]
            clear hW5 hsm c0 HDV HX HB5 HB45
            go_wp2_with fail
            go_loopw [21] (fun vq w6 => ∃ (k : Nat) (O' : List Nat), k ≤ V.length ∧ vq = .int .i64 (k : Int) ∧ Box (HyO L V k O') ∧ Box (w6.ownsRow W5.heap.size 3 1 (.slice (some ⟨W5.heap.size, 0, none⟩) M M) M (vals O')) ∧ Box (Below W5.heap.size W5 w6)) (fun vq _ => V.length - (intOf vq).toNat)
            case atStart =>
              refine ⟨0, List.replicate M 0, Nat.zero_le _, rfl, boxed ?_, boxed (HMK.out W5 W5.heap.size (Nat.le_refl _)), boxed ((Below.refl _ _).alloc (Nat.le_refl _) _)⟩
              have := hy_none L V
              rw [hLN.out, hMN.out] at this
              exact this
            case round =>
              obtain ⟨k, O', hk, rfl, HH, HO', HB7⟩ := hrel
              have c1 : wr.cell? ⟨pb, 1, none⟩ = some (.slice aoV V.length cV) := hold HB7.out (by rw [cell_of_row _ _ _ _ _ _ HX5.out]; rfl)
              by_cases hlt2 : k < V.length
              · obtain ⟨b', off', rfl, -, hcv⟩ := (HDV5.out.below HB7.out).at (by omega)
                have hck := hcv k hlt2
                have ha := HVA.out _ (getD_mem V k hlt2)
                have haM : V.getD k 0 < M := by rw [hPL, hLN.out] at ha; have := hMN.out; omega
                have hOl : O'.length = M := by rw [HH.out.1, hLN.out, hMN.out]
                have hoc := HO'.out.cellAt (V.getD k 0) (by omega)
                rw [vals_get _ _ (by rw [hOl]; exact haM)] at hoc
                have hof := HO'.out.frozenAt (V.getD k 0)
                have hst := HO'.out.stored (V.getD k 0) (.int .i64 ((1 : Nat) : Int))
                rw [vals_set] at hst
                have HH2 := boxed (hy_next HH.out hlt2 (by rw [hLN.out, hMN.out]; exact haM))
                have HO2 : Box ((wr.setCell ⟨W5.heap.size, V.getD k 0, none⟩ (.int .i64 1)).ownsRow W5.heap.size 3 1 (.slice (some ⟨W5.heap.size, 0, none⟩) M M) M (vals (O'.set (V.getD k 0) 1))) := boxed hst.1
                have HB8 : Box (Below W5.heap.size W5 (wr.setCell ⟨W5.heap.size, V.getD k 0, none⟩ (.int .i64 1))) := boxed (HB7.out.grown hst.2 HB7.out.size (fun r hr => by injection hr with hr; omega))
                clear hst HH HO' HB7 hcv hOl ha
                have hkl : (k : Int) < (V.length : Int) := by omega
                have haM2 : ((V.getD k 0 : Nat) : Int) < (M : Int) := by omega
                generalize hvv : V.getD k 0 = x at *
                replace hvv := boxed hvv
                generalize O'.getD x 0 = u0 at *
                go_wp2_with fail
                go_roundw
                case rel => exact ⟨k + 1, _, by omega, by go_num, HH2, HO2, HB8⟩
                case measure => simp [intOf]; omega
              · have e : k = V.length := by omega
                subst e
                have HK2 : Box (KnO (yS T (i + 1)) L true O') := boxed (by rw [HYS.out, hPL]; exact kn_known HH.out)
                have HB9 : Box (Below W3.heap.size W3 wr) := boxed (below_step HB6.out (Nat.le_refl _) HB7.out)
                have HO9 := boxed (own_down HO'.out HB6.out.size)
                clear HH HO' HDV5 HVA
                generalize V.length = vl at *
                go_wp2_with fail
                go_roundw
                case rel => exact ⟨i + 1, true, O', W5.heap.size, by omega, rfl, rfl, by go_num, HK2, HO9, HB9⟩
                case measure => simp [intOf]; omega
          · rw [decide_eq_false hPL]
            have HK2 : Box (KnO (yS T (i + 1)) L known O) := boxed (by rw [HYS.out]; exact kn_skip HK.out hPL)
            have HB6 : Box (Below W3.heap.size W3 (W4.drewN q)) := boxed (HB5.out.trans (bel_drewN _ _ _))
            have HO6 : Box ((W4.drewN q).ownsRow W3.heap.size 3 1 (.slice (some ⟨g, 0, none⟩) M M) M (vals O)) := boxed (owns_below HO.out (HB45.out.trans (bel_drewN _ _ _)))
            clear hsm c0 HDV HX
            go_wp2_with fail
            go_roundw
            case rel => exact ⟨i + 1, known, O, g, by omega, rfl, rfl, by go_num, HK2, HO6, HB6⟩
            case measure => simp [intOf]; omega
        · skip
          have e : m = i := by omega
          subst e
          obtain ⟨W4, rfl⟩ : ∃ W4, W4 = w4 := ⟨_, rfl⟩
          have hgO := HO.out.lt g rfl
          have HLT : Box ((W4.alloc (.cells #[.int .i64 46] 3)).ownsRow W4.heap.size 3 1 (.slice (some ⟨W4.heap.size, 0, none⟩) 1 1) 1 [.int .i64 46]) := boxed (World.ownsRow_lit W4 #[.int .i64 46] 1 (Nat.le_refl _) (by unfold maxLen; omega) (by simp))
          have HL4 := boxed ((owns_below HL.out HB4.out).alloc (.cells #[.int .i64 46] 3))
          go_wp2_with (at_builtin; refine wpList_append_row rfl _ _ 36 rfl W4.heap.size 3 i2 (.int .i64 0) 8 Try.underlying36 hi2 hz0 hz1 hz2 rfl _ _ _ rfl HLT.out _ _ _ _ rfl HL4.out (vals_one L) (by unfold maxLen; omega) (by omega) (by simp) ?_)
          intro v5 w5 hown5 hgrow5
          have HB5 : Box (Below W4.heap.size W4 w5) := boxed (((Below.refl _ W4).alloc (Nat.le_refl _) _).grown hgrow5 (by simp) (fun k hk => (by simpa [Value.ownBlock] using hk : W4.heap.size = k) ▸ Nat.le_refl _))
          have HO5 := boxed hown5
          clear hown5 hgrow5 HLT HL4
          obtain ⟨a5, c5, rfl⟩ := own_shape HO5.out
          obtain ⟨N1, hN1⟩ : ∃ N1, 1 + LN = N1 := ⟨_, rfl⟩
          have HN1 := boxed hN1
          have hN1l : N1 ≤ 257 := by omega
          rw [hN1] at HO5 ⊢
          clear hN1
          have hsz5 := HB5.out.size
          go_wp2_with (at_builtin; refine wpList_append_apart rfl _ _ 36 rfl W4.heap.size 3 i2 (.int .i64 0) 1 8 Try.underlying36 hi2 hz0 hz1 hz2 rfl (by decide) _ _ _ rfl (HO5.out.alloc _) ⟨w5.heap.size, 0, none⟩ 1 1 [.int .i64 46] rfl rfl (one_new w5 _ _) (one_cell _ _) (by unfold maxLen; omega) (by omega) (by simp; omega) (by omega) ?_)
          intro v6 w6 hown6 hgrow6 _
          have HB46 : Box (Below W4.heap.size W4 w6) := boxed ((HB5.out.alloc hsz5 _).grown hgrow6 (by simp; omega) (fun k hk => (HO5.out.lt k hk).1))
          obtain ⟨R, hR⟩ : ∃ R, N1 + 1 = R := ⟨_, rfl⟩
          have hRL : R = LN + 2 := by have := HN1.out; omega
          obtain ⟨row, hrow⟩ : ∃ row, 46 :: (L ++ [46]) = row := ⟨_, rfl⟩
          have HRL : Box (row.length = R) := boxed (by rw [← hrow]; simp; have := hLN.out; omega)
          have HRW : Box (w6.ownsRow W4.heap.size 3 1 v6 R (vals row)) := boxed (by
            have e2 : vals row = [.int .i64 46] ++ vals L ++ [.int .i64 46] := by rw [← hrow]; simp [vals]
            rw [← hR, e2]; exact hown6)
          replace hrow := boxed hrow
          clear hR hown6 hgrow6 HO5 HB5 hsz5 HN1 hN1l
          obtain ⟨gr, cr, hgc0, hcr, -⟩ := own_cell HRW.out 0 (by omega)
          subst hgc0
          have hgr := HRW.out.lt gr rfl
          have HO6 := boxed (owns_below HO.out HB46.out)
          have HB6 : Box (Below W3.heap.size W3 w6) := boxed (below_step HB4.out (Nat.le_refl _) HB46.out)
          obtain ⟨W6, rfl⟩ : ∃ W6, W6 = w6 := ⟨_, rfl⟩
          have HOO := HO6
          have hRl : R ≤ 258 := by omega
          have hR1 : 1 ≤ R := by omega
          replace hRL := boxed hRL
          clear HB46 HO HB4 HL HDW HMK hmk HT HOKT
          cases known with
          | true =>
            have HPO : Box (PtsS (qS S n) (yS T m) l r s (ptsOf L.length l r fun k => decide (O.getD k 0 % 2 = 1))) := boxed (HWA.out _ (by
              cases hA : lookL (yS T m) L with
              | none => exact absurd (HK.out.2.1 hA).1 (by simp)
              | some A => exact pts_known HK.out hA l r))
            have HOL : Box (O.length = M) := boxed (by rw [HK.out.1, hLN.out, hMN.out])
            have HBW : Box (Below w.heap.size w W6) := boxed (HBW3.out.trans (HB6.out.mono HBW3.out.size))
            have HOZ := HO6
            clear HK HB6 HRW HOO HO6
            go_wp2_with fail
            go_loopw [23] (fun vi w7 => vi = .int .i64 0 ∧ w7 = W6) (fun _ _ => 0)
            case atStart => exact ⟨rfl, rfl⟩
            case round =>
              obtain ⟨e1, e2⟩ := hrel
              subst e1
              have e3 : W6 = wr := e2.symm
              subst e3
              have t0 : (decide ((0 : Int) < (n : Int)) = false ∧ decide (0 < n) = false) ∨ (decide ((0 : Int) < (n : Int)) = true ∧ decide (0 < n) = true) := by
                by_cases c : 0 < n
                · exact .inr ⟨decide_eq_true (by omega), decide_eq_true c⟩
                · exact .inl ⟨decide_eq_false (by omega), decide_eq_false c⟩
              rcases t0 with ⟨t0, t0'⟩ | ⟨t0, t0'⟩
              all_goals
                obtain ⟨od, hod⟩ : ∃ od : Nat → Bool, (fun n => decide (O.getD n 0 % 2 = 1)) = od := ⟨_, rfl⟩
                have HOD : Box (∀ n, od n = decide (O.getD n 0 % 2 = 1)) := boxed (fun n => by rw [← hod])
                have HPS : Box (PtsS (qS S n) (yS T m) l r s (ptsOf L.length l r od)) := boxed (by rw [← hod]; exact HPO.out)
                replace hod := boxed hod
                rw [hLN.out] at HPS
                clear HPO
                go_wp2_with fail
                go_loopw [29, 30] (fun vo vn w70 => ∃ q : Nat, l ≤ q ∧ q ≤ 1000 ∧ vn = .int .i64 (q : Int) ∧ Box (w70.ownsRow W6.heap.size 3 1 vo (pu LN l r od q).length (vals (pu LN l r od q))) ∧ Box (Below W6.heap.size W6 w70)) (fun _ vn _ => 1001 - (intOf vn).toNat)
                case atStart => exact ⟨l, Nat.le_refl _, by omega, rfl, boxed (by rw [pu_start]; exact World.ownsRow_nil _ _ _ _), boxed (Below.refl _ _)⟩
                case round =>
                  obtain ⟨q, hq1, hq2, rfl, HQ, HB7⟩ := hrel
                  by_cases hlt : q + r ≤ LN
                  · have t1 : decide ((q : Int) ≤ (LN : Int) - (r : Int)) = true := decide_eq_true (by omega)
                    have hqM : (q : Int) < (M : Int) := by have := hMN.out; omega
                    have hcl := (owns_below HOZ.out HB7.out).cellAt q (by have := hMN.out; omega)
                    rw [vals_get _ _ (by rw [HOL.out]; have := hMN.out; omega)] at hcl
                    have HS := boxed (pu_succ LN l r od q hq1 hlt)
                    rw [HOD.out q] at HS
                    have hpl := pu_len LN l r od q
                    have hsz7 := HB7.out.size
                    generalize O.getD q 0 = x at *
                    by_cases ho : x % 2 = 1
                    · have t2 : (((x : Int) % 2) == 1) = true := by rw [beq_iff_eq]; omega
                      have HS2 : Box (pu LN l r od (q + 1) = pu LN l r od q ++ [q]) := boxed (by rw [HS.out, if_pos (decide_eq_true ho)])
                      have HVS := boxed (vals_snoc (pu LN l r od q) q)
                      obtain ⟨pl, hpl2⟩ : ∃ pl, (pu LN l r od q).length = pl := ⟨_, rfl⟩
                      have HPL := boxed hpl2
                      rw [hpl2] at HQ hpl
                      have hpl3 : pl ≤ 1000 := by omega
                      clear hpl2 ho HS hpl
                      go_wp2_with (at_builtin; refine wpList_append_apart rfl _ _ 36 rfl W6.heap.size 3 i2 (.int .i64 0) 1 8 Try.underlying36 hi2 hz0 hz1 hz2 rfl (by decide) _ _ _ rfl (HQ.out.alloc _) ⟨wr.heap.size, 0, none⟩ 1 1 [.int .i64 (q : Int)] rfl rfl (one_new wr _ _) (one_cell _ _) (by unfold maxLen; omega) (by omega) (by simp; omega) (by omega) ?_)
                      intro v8 w8 hown8 hgrow8 _
                      have HB8 : Box (Below W6.heap.size W6 w8) := boxed ((HB7.out.alloc (by omega) _).grown hgrow8 (by simp; omega) (fun k hk => (HQ.out.lt k hk).1))
                      rw [HVS.out] at hown8
                      have HQ8 : Box (w8.ownsRow W6.heap.size 3 1 v8 (pu LN l r od (q + 1)).length (vals (pu LN l r od (q + 1)))) := boxed (by rw [HS2.out, List.length_append, HPL.out]; exact hown8)
                      clear hown8 hgrow8 HQ HB7
                      go_wp2
                      go_roundw
                      case rel => exact ⟨q + 1, by omega, by omega, by go_num, HQ8, HB8⟩
                      case measure => simp [intOf]; omega
                    · have t2 : (((x : Int) % 2) == 1) = false := by rw [beq_eq_false_iff_ne]; omega
                      have HS2 : Box (pu LN l r od (q + 1) = pu LN l r od q) := boxed (by rw [HS.out, decide_eq_false ho]; rfl)
                      clear ho HS hpl
                      go_wp2_with fail
                      go_roundw
                      case rel => exact ⟨q + 1, by omega, by omega, by go_num, boxed (by rw [HS2.out]; exact HQ.out), HB7⟩
                      case measure => simp [intOf]; omega
                  · have t1 : decide ((q : Int) ≤ (LN : Int) - (r : Int)) = false := decide_eq_false (by omega)
                    have HPE := boxed (pu_end LN l r od q (by omega) (by omega))
                    have hsz : w.heap.size ≤ W6.heap.size := HBW.out.size
                    go_wp2_with fail
                    go_ret
                    exact ⟨_, _, rfl, own_down HQ.out hsz, by rw [HPE.out]; exact HPS.out, HBW.out.trans (HB7.out.mono hsz)⟩| false =>
            have hLK : lookL (yS T m) L = none := by
              cases hA : lookL (yS T m) L with
              | none => rfl
              | some A => exact absurd (HK.out.2.2 A hA).1 (by simp)
            have hOO : O = List.replicate M 0 := by have := (HK.out.2.1 hLK).2; rw [hLN.out, hMN.out] at this; exact this
            have HLV0 : Box (LvO (qS S n) row (D1 0) M O) := boxed (by rw [hOO]; exact lvo_none _ _ _)
            replace hLK := boxed hLK
            clear hOO HK
            go_wp2_with fail
            go_loopw [23] (fun vi w7 => ∃ (I : Nat) (O' : List Nat), I ≤ n ∧ vi = .int .i64 (I : Int) ∧ Box (LvO (qS S n) row (D1 I) M O') ∧ Box (w7.ownsRow W3.heap.size 3 1 (.slice (some ⟨g, 0, none⟩) M M) M (vals O')) ∧ Box (Chg (fun b => b = g) W6 w7) ∧ Box (Below W3.heap.size W3 w7)) (fun vi _ => n - (intOf vi).toNat)
            case atStart => exact ⟨0, O, Nat.zero_le _, rfl, HLV0, HO6, boxed (Chg.refl _ _), HB6⟩
            case round =>
              clear HLV0 HO6 HB6
              obtain ⟨I, O', hI, rfl, HLV, HO7, HC7, HB7⟩ := hrel
              obtain ⟨w7, rfl⟩ : ∃ w7, w7 = wr := ⟨_, rfl⟩
              by_cases hlt : I < n
              · obtain ⟨b, off, rfl, hcl, hsz⟩ := strs_at HS.out I hlt
                have hci := hcl _ (HBW3.out.trans (HB7.out.mono HBW3.out.size))
                have hil : (I : Int) < (n : Int) := by omega
                have hrp := refpat_any (S I) w7 hsz
                obtain ⟨⟨P, V⟩, hP⟩ := Option.ne_none_iff_exists'.1 (HOKS.out I hlt)
                obtain ⟨hV1, hP2, hV9, -, hP0⟩ := patT_ok hP
                have HQI := boxed (qS_get S n I hlt hP)
                have HV9 := boxed hV9
                have hVl : V.length ≤ 257 := by omega
                have hP1 : 0 < P.length := List.length_pos_iff.2 hP0
                have HP := boxed hP
                have hg7 := (HO7.out.lt g rfl).2
                clear hcl hsz hP hV9 hP0 hV1
                generalize S I = s' at *
                go_wp2_with fail
                refine hrp.mono ?_
                rintro e w2 ⟨⟨v1, v2, bb, rfl, -, -, -, hR⟩, hb⟩
                obtain ⟨aoL, cL, aoV, cV, rfl, rfl, hd1, hd2, hn1, hn2⟩ := hR P V HP.out
                have l1 := laid1 w2 (.cells #[.slice aoL P.length cL, .slice aoV V.length cV] 62)
                obtain ⟨W8, hW8⟩ : ∃ W8, w2.alloc (.cells #[.slice aoL P.length cL, .slice aoV V.length cV] 62) = W8 := ⟨_, rfl⟩
                rw [hW8] at l1
                have HB8 : Box (Below W3.heap.size W3 W8) := boxed (below_step (below_step HB7.out (Nat.le_refl _) hb) (Nat.le_refl _) l1.2.1)
                have HB78 : Box (Below w7.heap.size w7 W8) := boxed (hb.trans (l1.2.1.mono hb.size))
                have hct := counts_any W8 (some ⟨b, off, none⟩) n cap I S (HS.out.below (HBW3.out.trans (HB8.out.mono HBW3.out.size))) hlt hn HOKS.out
                have HD1 := boxed (hd1.below l1.2.1)
                have HD2 := boxed (hd2.below l1.2.1)
                have HX := boxed l1.1
                have hpbg : w2.heap.size ≠ g := by have := hb.size; omega
                have HN1 : Box (∀ b o, aoL = some ⟨b, o, none⟩ → b ≠ g) := boxed (fun b o e c => by have := hn1 b o e; omega)
                have HN2 : Box (∀ b o, aoV = some ⟨b, o, none⟩ → b ≠ g) := boxed (fun b o e c => by have := hn2 b o e; omega)
                have c0 : W8.cell? ⟨w2.heap.size, 0, none⟩ = some (.slice aoL P.length cL) := by rw [cell_of_row _ _ _ _ _ _ l1.1]; rfl
                obtain ⟨pb, hpb⟩ : ∃ pb, w2.heap.size = pb := ⟨_, rfl⟩
                rw [hpb] at HX hpbg
                replace hW8 := boxed hW8
                replace hpb := boxed hpb
                clear hb hR hd1 hd2 l1 hrp hci hn1 hn2 c0
                go_upto_region 29 with fail
                rw [hW8.out]
                have hpb' := hpb.out
                rw [hpb']
                clear hpb' hpb hW8
                go_wp2_with fail
                refine hct.mono ?_
                rintro e w9 ⟨⟨b2, rfl, hb2⟩, hb9⟩
                obtain ⟨W9, rfl⟩ : ∃ W9, W9 = w9 := ⟨_, rfl⟩
                have HB9 : Box (Below W3.heap.size W3 W9) := boxed (below_step HB8.out (Nat.le_refl _) hb9)
                have HB79 : Box (Below w7.heap.size w7 W9) := boxed (HB78.out.trans (hb9.mono HB78.out.size))
                have HO9 := boxed (owns_below HO7.out HB79.out)
                have HC9 : Box (Chg (fun b => b = g) W6 W9) := boxed (HC7.out.trans (chg_below HB79.out))
                clear hct HB78 HB8 HO7 HC7
                cases b2 with
                | false =>
                  have HNC : Box (¬ cnts (qS S n) I) := boxed (fun h => by have := hb2.2 h; cases this)
                  clear hb2 hb9
                  go_wp2_with fail
                  go_roundw
                  case rel => exact ⟨I + 1, O', by omega, by go_num, boxed (HLV.out.same (fun i a k h => d_skip HNC.out i a k h)), HO9, HC9, HB9⟩
                  case measure => simp [intOf]; omega
                | true =>
                  have HNC : Box (cnts (qS S n) I) := boxed (hb2.1 rfl)
                  have HX9 : Box (W9.heap[pb]? = some (.cells #[.slice aoL P.length cL, .slice aoV V.length cV] 62 (0, 0))) := boxed ((hb9.block _ (heap_lt HX.out)).trans HX.out)
                  have HD19 := boxed (HD1.out.below hb9)
                  have HD29 := boxed (HD2.out.below hb9)
                  have HLV2 : Box (LvO (qS S n) row (D2 I 0) M O') := boxed (HLV.out.same (fun i a k _ => d_in I i a k))
                  clear hb2 hb9 HD1 HD2 HX HLV HB79
                  obtain ⟨pl, hpl⟩ : ∃ pl, P.length = pl := ⟨_, rfl⟩
                  obtain ⟨vl, hvl⟩ : ∃ vl, V.length = vl := ⟨_, rfl⟩
                  rw [hpl] at HX9 hP1 hP2 ⊢
                  rw [hvl] at HX9 hVl ⊢
                  have HPL := boxed hpl
                  have HVL := boxed hvl
                  clear hpl hvl
                  go_wp2_with fail
                  go_loopw [26] (fun va w10 => ∃ (A : Nat) (O2 : List Nat), A ≤ R ∧ va = .int .i64 (A : Int) ∧ Box (LvO (qS S n) row (D2 I A) M O2) ∧ Box (w10.ownsRow W3.heap.size 3 1 (.slice (some ⟨g, 0, none⟩) M M) M (vals O2)) ∧ Box (Chg (fun b => b = g) W9 w10) ∧ Box (Below W3.heap.size W3 w10)) (fun va _ => R - (intOf va).toNat)
                  case atStart => exact ⟨0, O', Nat.zero_le _, rfl, HLV2, HO9, boxed (Chg.refl _ _), HB9⟩
                  case round =>
                    clear HLV2 HO9 HB9
                    obtain ⟨A, O2, hA, rfl, HL2, HO2, HC2, HB2⟩ := hrel
                    obtain ⟨w10, rfl⟩ : ∃ w10, w10 = wr := ⟨_, rfl⟩
                    have hx10 := chg_keep HC2.out HX9.out hpbg
                    have c0 : w10.cell? ⟨pb, 0, none⟩ = some (.slice aoL pl cL) := by rw [cell_of_row _ _ _ _ _ _ hx10]; rfl
                    clear hx10
                    by_cases hle : A + pl ≤ R
                    · obtain ⟨Q, hQ⟩ : ∃ Q, A + pl = Q := ⟨_, rfl⟩
                      have hQi : (A : Int) + (pl : Int) = (Q : Int) := by omega
                      have t1 : decide ((Q : Int) ≤ (R : Int)) = true := decide_eq_true (by omega)
                      have hsl : ∀ W : World, (Instr.slice 36 (.slice (some ⟨gr, 0, none⟩) R cr) (some (.int .i64 (A : Int))) (some (.int .i64 (Q : Int))) none).run Try.prog W = .ok (.slice (some ⟨gr, A, none⟩) pl (cr - A)) W := by
                        intro W
                        have := int_lohi gr R cr A Q (by omega) (by omega) (by omega) hcr W
                        rw [show Q - A = pl by omega] at this
                        exact this
                      obtain ⟨hdc, hdl⟩ := dg_cut (own_chg HRW.out (HC9.out.trans HC2.out) (fun k hk hkg => by injection hk with hk; have hk : gr = k := hk; have hkg : k = g := hkg; omega)) hle
                      obtain ⟨cu, hcu⟩ : ∃ cu, (row.drop A).take pl = cu := ⟨_, rfl⟩
                      rw [hcu] at hdc hdl
                      have hd1 := HD19.out.chg HC2.out HN1.out
                      have hsm : ∀ q, Calls Try.prog 29 #[.slice (some ⟨gr, A, none⟩) pl (cr - A), .slice aoL pl cL] (w10.drewN q) fun e w' => e = .returned (.bool (decide (cu = P))) ∧ ∃ k, w' = (w10.drewN q).drewN k := by
                        intro q
                        have := rsame_any (w10.drewN q) (some ⟨gr, A, none⟩) aoL (cr - A) cL cu P (hdc.drewN q) (hd1.drewN q)
                        rw [hdl, HPL.out] at this
                        exact this
                      clear hdc hdl hd1
                      by_cases hm : cu = P
                      · rw [decide_eq_true hm] at hsm
                        have HM : Box ((row.drop A).take P.length = P) := boxed (by rw [HPL.out, hcu, hm])
                        replace hcu := boxed hcu
                        clear hm
                        go_wp2_with fail
                        go_quiet ((go_at_call 29; exact Calls.quiet_of (hsm _)))
                        clear hsm hsl c0
                        go_wp2_with fail
                        go_loopw [27] (fun vk w11 => ∃ (K : Nat) (O3 : List Nat), K ≤ vl ∧ vk = .int .i64 (K : Int) ∧ Box (LvO (qS S n) row (D3 I A K) M O3) ∧ Box (w11.ownsRow W3.heap.size 3 1 (.slice (some ⟨g, 0, none⟩) M M) M (vals O3)) ∧ Box (Chg (fun b => b = g) W9 w11) ∧ Box (Below W3.heap.size W3 w11)) (fun vk _ => vl - (intOf vk).toNat)
                        case atStart => exact ⟨0, O2, Nat.zero_le _, rfl, boxed (HL2.out.same (fun i a k _ => d_in3 I A i a k)), boxed (owns_below HO2.out (bel_drewN _ _ _)), boxed (HC2.out.drewN _), boxed (HB2.out.trans (bel_drewN _ _ _))⟩
                        case round =>
                          clear HL2 HO2 HC2 HB2
                          obtain ⟨K, O3, hK, rfl, HL3, HO3, HC3, HB3⟩ := hrel
                          obtain ⟨w11, rfl⟩ : ∃ w11, w11 = wr := ⟨_, rfl⟩
                          have hx11 := chg_keep HC3.out HX9.out hpbg
                          have c1 : w11.cell? ⟨pb, 1, none⟩ = some (.slice aoV vl cV) := by rw [cell_of_row _ _ _ _ _ _ hx11]; rfl
                          clear hx11
                          by_cases hlt2 : K < vl
                          · obtain ⟨b', off', rfl, -, hcv⟩ := (HD29.out.chg HC3.out HN2.out).at (by rw [HVL.out]; omega)
                            have hck := hcv K (by rw [HVL.out]; exact hlt2)
                            have hkl : (K : Int) < (vl : Int) := by omega
                            have HST : Box (Std (qS S n) row I A K) := boxed ⟨by rw [qS_len]; exact hlt, HNC.out, by rw [HQI.out, HRL.out]; simp only; rw [HPL.out]; omega, by rw [HQI.out]; exact HM.out, by rw [HQI.out]; simp only; rw [HVL.out]; exact hlt2⟩
                            have HVK : Box (((qS S n).getD I default).2.getD K 0 = V.getD K 0) := boxed (by rw [HQI.out])
                            have HDN := boxed (fun i a k => d_next I A K i a k)
                            clear hcv
                            by_cases h0 : A + K = 0
                            · have HLN : Box (LvO (qS S n) row (D3 I A (K + 1)) M O3) := boxed (HL3.out.far HST.out (fun i a k _ => HDN.out i a k) (.inl h0))
                              have hAK : (A : Int) + (K : Int) = 0 := by omega
                              clear HL3 h0
                              generalize V.getD K 0 = v at *
                              go_wp2_with fail
                              go_quiet (fail)
                              go_wp2_with fail
                              go_roundw
                              case rel => exact ⟨K + 1, O3, by omega, by go_num, HLN, boxed (owns_below HO3.out (bel_drewN _ _ _)), boxed (HC3.out.drewN _), boxed (HB3.out.trans (bel_drewN _ _ _))⟩
                              case measure => simp [intOf]; omega
                            · obtain ⟨n0, hn0⟩ : ∃ n0, A + K = n0 + 1 := ⟨A + K - 1, by omega⟩
                              have hAK : (A : Int) + (K : Int) = (n0 : Int) + 1 := by omega
                              have t0 : decide ((0 : Int) ≤ (n0 : Int)) = true := decide_eq_true (by omega)
                              by_cases hnM : n0 < M
                              · have hn0M : (n0 : Int) < (M : Int) := by omega
                                have hOl3 := HL3.out.1
                                have hoc := HO3.out.cellAt n0 (by omega)
                                rw [vals_get _ _ (by rw [hOl3]; exact hnM)] at hoc
                                have hof := HO3.out.frozenAt n0
                                have HSS := boxed (fun q => (owns_below HO3.out (bel_drewN _ _ q)).stored n0 (.int .i64 ((V.getD K 0 : Nat) : Int)))
                                by_cases hgt : O3.getD n0 0 < V.getD K 0
                                · have HLN : Box (LvO (qS S n) row (D3 I A (K + 1)) M (O3.set n0 (V.getD K 0))) := boxed (by
                                    have := HL3.out.high HST.out (fun i a k _ => HDN.out i a k) hn0.symm hnM (by rw [HVK.out]; exact hgt)
                                    rw [HVK.out] at this
                                    exact this)
                                  have HVS := boxed (vals_set O3 n0 (V.getD K 0))
                                  clear HL3 hOl3
                                  replace hn0 := boxed hn0
                                  generalize V.getD K 0 = v at *
                                  generalize O3.getD n0 0 = x at *
                                  have t5 : decide ((x : Int) < (v : Int)) = true := decide_eq_true (by omega)
                                  have t5' : decide (x < v) = true := decide_eq_true hgt
                                  clear hgt
                                  go_wp2_with fail
                                  go_quiet (fail)
                                  go_wp2_with fail
                                  go_roundw
                                  case rel => exact ⟨K + 1, O3.set n0 v, by omega, by go_num, HLN, boxed (by rw [← HVS.out]; exact (HSS.out _).1), boxed ((HC3.out.drewN _).trans (Chg.of_grown (HSS.out _).2 (fun b hb => by injection hb with hb; exact hb.symm))), boxed ((HB3.out.trans (bel_drewN _ _ _)).grown (HSS.out _).2 (HB3.out.trans (bel_drewN _ _ _)).size (fun b hb => by injection hb with hb; omega))⟩
                                  case measure => simp [intOf]; omega
                                · have HLN : Box (LvO (qS S n) row (D3 I A (K + 1)) M O3) := boxed (HL3.out.low HST.out (fun i a k _ => HDN.out i a k) hn0.symm (by rw [HVK.out]; omega))
                                  clear HL3 hOl3
                                  replace hn0 := boxed hn0
                                  generalize V.getD K 0 = v at *
                                  generalize O3.getD n0 0 = x at *
                                  have t5 : decide ((x : Int) < (v : Int)) = false := decide_eq_false (by omega)
                                  have t5' : decide (x < v) = false := decide_eq_false hgt
                                  clear hgt HSS
                                  go_wp2_with fail
                                  go_quiet (fail)
                                  go_wp2_with fail
                                  go_roundw
                                  case rel => exact ⟨K + 1, O3, by omega, by go_num, HLN, boxed (owns_below HO3.out (bel_drewN _ _ _)), boxed (HC3.out.drewN _), boxed (HB3.out.trans (bel_drewN _ _ _))⟩
                                  case measure => simp [intOf]; omega
                              · have HLN : Box (LvO (qS S n) row (D3 I A (K + 1)) M O3) := boxed (HL3.out.far HST.out (fun i a k _ => HDN.out i a k) (.inr (by omega)))
                                have t5 : decide ((n0 : Int) < (M : Int)) = false := decide_eq_false (by omega)
                                have t5' : decide (n0 < M) = false := decide_eq_false hnM
                                clear HL3
                                replace hn0 := boxed hn0
                                generalize V.getD K 0 = v at *
                                go_wp2_with fail
                                go_quiet (fail)
                                go_wp2_with fail
                                go_roundw
                                case rel => exact ⟨K + 1, O3, by omega, by go_num, HLN, boxed (owns_below HO3.out (bel_drewN _ _ _)), boxed (HC3.out.drewN _), boxed (HB3.out.trans (bel_drewN _ _ _))⟩
                                case measure => simp [intOf]; omega
                          · have e : vl = K := by omega
                            subst e
                            have hdd : ∀ i a k, Std (qS S n) row i a k → (D2 I (A + 1) i a k ↔ D3 I A V.length i a k) := fun i a k h => d_done HQI.out i a k h
                            rw [HVL.out] at hdd
                            have HL4 : Box (LvO (qS S n) row (D2 I (A + 1)) M O3) := boxed (HL3.out.same hdd)
                            clear HL3 hdd
                            go_wp2_with fail
                            go_roundw
                            case rel => exact ⟨A + 1, O3, by omega, by go_num, HL4, HO3, HC3, HB3⟩
                            case measure => simp [intOf]; omega
                      · rw [decide_eq_false hm] at hsm
                        have HM : Box ((row.drop A).take P.length ≠ P) := boxed (by rw [HPL.out, hcu]; exact hm)
                        replace hcu := boxed hcu
                        clear hm
                        go_wp2_with fail
                        go_quiet ((go_at_call 29; exact Calls.quiet_of (hsm _)))
                        clear hsm hsl c0
                        go_wp2_with fail
                        go_roundw
                        case rel => exact ⟨A + 1, O2, by omega, by go_num, boxed (HL2.out.same (fun i a k h => d_miss HQI.out HM.out i a k h)), boxed (owns_below HO2.out (bel_drewN _ _ _)), boxed (HC2.out.trans (chg_below (bel_drewN _ _ _))), boxed (HB2.out.trans (bel_drewN _ _ _))⟩
                        case measure => simp [intOf]; omega
                    · have t1 : decide ((A : Int) + (pl : Int) ≤ (R : Int)) = false := decide_eq_false (by omega)
                      have HL3 : Box (LvO (qS S n) row (D1 (I + 1)) M O2) := boxed (HL2.out.same (fun i a k h => d_out HQI.out (by rw [HRL.out, HPL.out]; omega) i a k h))
                      clear HL2
                      go_wp2_with fail
                      go_roundw
                      case rel => exact ⟨I + 1, O2, by omega, by go_num, HL3, HO2, boxed (HC9.out.trans HC2.out), HB2⟩
                      case measure => simp [intOf]; omega
              · have e : n = I := by omega
                subst e
                have HPO : Box (PtsS (qS S n) (yS T m) l r s (ptsOf L.length l r fun k => decide (O'.getD k 0 % 2 = 1))) := boxed (HWA.out _ (pts_levels hLK.out (by
                  rw [hrow.out, hLN.out, hMN.out]
                  refine HLV.out.same (fun i a k h => ?_)
                  have := d_all (Q := qS S n) i a k h
                  rw [qS_len] at this
                  exact this) l r))
                have HOL : Box (O'.length = M) := boxed HLV.out.1
                have HBW : Box (Below w.heap.size w w7) := boxed (HBW3.out.trans (HB7.out.mono HBW3.out.size))
                have HOZ := HO7
                clear HLV HO7 HC7 HB7 HRW HOO
                obtain ⟨od, hod⟩ : ∃ od : Nat → Bool, (fun n => decide (O'.getD n 0 % 2 = 1)) = od := ⟨_, rfl⟩
                have HOD : Box (∀ n, od n = decide (O'.getD n 0 % 2 = 1)) := boxed (fun n => by rw [← hod])
                have HPS : Box (PtsS (qS S n) (yS T m) l r s (ptsOf L.length l r od)) := boxed (by rw [← hod]; exact HPO.out)
                replace hod := boxed hod
                rw [hLN.out] at HPS
                clear HPO
                go_wp2_with fail
                go_loopw [29, 30] (fun vo vn w70 => ∃ q : Nat, l ≤ q ∧ q ≤ 1000 ∧ vn = .int .i64 (q : Int) ∧ Box (w70.ownsRow w7.heap.size 3 1 vo (pu LN l r od q).length (vals (pu LN l r od q))) ∧ Box (Below w7.heap.size w7 w70)) (fun _ vn _ => 1001 - (intOf vn).toNat)
                case atStart => exact ⟨l, Nat.le_refl _, by omega, rfl, boxed (by rw [pu_start]; exact World.ownsRow_nil _ _ _ _), boxed (Below.refl _ _)⟩
                case round =>
                  obtain ⟨q, hq1, hq2, rfl, HQ, HB7⟩ := hrel
                  by_cases hlt : q + r ≤ LN
                  · have t1 : decide ((q : Int) ≤ (LN : Int) - (r : Int)) = true := decide_eq_true (by omega)
                    have hqM : (q : Int) < (M : Int) := by have := hMN.out; omega
                    have hcl := (owns_below HOZ.out HB7.out).cellAt q (by have := hMN.out; omega)
                    rw [vals_get _ _ (by rw [HOL.out]; have := hMN.out; omega)] at hcl
                    have HS := boxed (pu_succ LN l r od q hq1 hlt)
                    rw [HOD.out q] at HS
                    have hpl := pu_len LN l r od q
                    have hsz7 := HB7.out.size
                    generalize O'.getD q 0 = x at *
                    by_cases ho : x % 2 = 1
                    · have t2 : (((x : Int) % 2) == 1) = true := by rw [beq_iff_eq]; omega
                      have HS2 : Box (pu LN l r od (q + 1) = pu LN l r od q ++ [q]) := boxed (by rw [HS.out, if_pos (decide_eq_true ho)])
                      have HVS := boxed (vals_snoc (pu LN l r od q) q)
                      obtain ⟨pl, hpl2⟩ : ∃ pl, (pu LN l r od q).length = pl := ⟨_, rfl⟩
                      have HPL := boxed hpl2
                      rw [hpl2] at HQ hpl
                      have hpl3 : pl ≤ 1000 := by omega
                      clear hpl2 ho HS hpl
                      go_wp2_with (at_builtin; refine wpList_append_apart rfl _ _ 36 rfl w7.heap.size 3 i2 (.int .i64 0) 1 8 Try.underlying36 hi2 hz0 hz1 hz2 rfl (by decide) _ _ _ rfl (HQ.out.alloc _) ⟨wr.heap.size, 0, none⟩ 1 1 [.int .i64 (q : Int)] rfl rfl (one_new wr _ _) (one_cell _ _) (by unfold maxLen; omega) (by omega) (by simp; omega) (by omega) ?_)
                      intro v8 w8 hown8 hgrow8 _
                      have HB8 : Box (Below w7.heap.size w7 w8) := boxed ((HB7.out.alloc (by omega) _).grown hgrow8 (by simp; omega) (fun k hk => (HQ.out.lt k hk).1))
                      rw [HVS.out] at hown8
                      have HQ8 : Box (w8.ownsRow w7.heap.size 3 1 v8 (pu LN l r od (q + 1)).length (vals (pu LN l r od (q + 1)))) := boxed (by rw [HS2.out, List.length_append, HPL.out]; exact hown8)
                      clear hown8 hgrow8 HQ HB7
                      go_wp2
                      go_roundw
                      case rel => exact ⟨q + 1, by omega, by omega, by go_num, HQ8, HB8⟩
                      case measure => simp [intOf]; omega
                    · have t2 : (((x : Int) % 2) == 1) = false := by rw [beq_eq_false_iff_ne]; omega
                      have HS2 : Box (pu LN l r od (q + 1) = pu LN l r od q) := boxed (by rw [HS.out, decide_eq_false ho]; rfl)
                      clear ho HS hpl
                      go_wp2_with fail
                      go_roundw
                      case rel => exact ⟨q + 1, by omega, by omega, by go_num, boxed (by rw [HS2.out]; exact HQ.out), HB7⟩
                      case measure => simp [intOf]; omega
                  · have t1 : decide ((q : Int) ≤ (LN : Int) - (r : Int)) = false := decide_eq_false (by omega)
                    have HPE := boxed (pu_end LN l r od q (by omega) (by omega))
                    have hsz : w.heap.size ≤ w7.heap.size := HBW.out.size
                    go_wp2_with fail
                    go_ret
                    exact ⟨_, _, rfl, own_down HQ.out hsz, by rw [HPE.out]; exact HPS.out, HBW.out.trans (HB7.out.mono hsz)⟩
end Go.Proofs.Ytflhefgmgdgffaa
