/-
  What the program's Points answers: the places of a word at which a hyphen may come, in new memory. (Written by mkhyp.py.)
-/
import Derived.Test.YtflhefgmgdgffaaDoorHyo
namespace Go.Proofs.YtflhefgmgdgffaaDoor
open Go.RowKit Go.Maps
set_option linter.unusedSimpArgs false
set_option linter.unusedVariables false

/-- What may be told of a text. -/
def PtsS (Q W : PL) (l r : Nat) (s : ByteArray) (out : List Nat) : Prop := (∃ L, wordT s = some (L, []) ∧ PtsIs Q W l r L out) ∨ ((∀ L, wordT s ≠ some (L, [])) ∧ out = [])
theorem PtsS.uniq {Q W : PL} {l r : Nat} {s : ByteArray} {a b : List Nat} (h : PtsS Q W l r s a) (g : PtsS Q W l r s b) : a = b := by
  rcases h with ⟨L, h1, h2⟩ | ⟨h1, h2⟩
  · rcases g with ⟨L', g1, g2⟩ | ⟨g1, g2⟩
    · rw [h1] at g1; injection g1 with g1; injection g1 with g1; subst g1
      exact h2.uniq g2
    · exact absurd h1 (g1 L)
  · rcases g with ⟨L', g1, g2⟩ | ⟨g1, g2⟩
    · exact absurd g1 (h1 L')
    · rw [h2, g2]
/-- Those that leave enough ahead and behind. -/
def pf (N l r : Nat) (A : List Nat) : List Nat := A.filter fun i => decide (l ≤ i) && decide (i + r ≤ N)
theorem pf_len (N l r : Nat) (A : List Nat) : (pf N l r A).length ≤ A.length := List.length_filter_le _ _
theorem pf_succ (N l r : Nat) (A : List Nat) (i : Nat) (h : i < A.length) : pf N l r (A.take (i + 1)) = if l ≤ A.getD i 0 ∧ A.getD i 0 + r ≤ N then pf N l r (A.take i) ++ [A.getD i 0] else pf N l r (A.take i) := by
  unfold pf
  rw [take_snoc A i h, List.filter_append]
  by_cases c : l ≤ A.getD i 0 ∧ A.getD i 0 + r ≤ N
  · rw [if_pos c, List.filter_cons, if_pos (by rw [decide_eq_true c.1, decide_eq_true c.2]; rfl)]; rfl
  · rw [if_neg c, List.filter_cons, if_neg (by simpa using c)]; simp
theorem pf_odds (X : List Nat) (N l r : Nat) : pf N l r (odds X N) = ptsOf N l r (fun i => decide (X.getD (i + 1) 0 % 2 = 1)) := by
  unfold pf odds ptsOf
  rw [List.filter_filter]
set_option maxRecDepth 100000 in
set_option maxHeartbeats 8000000 in
theorem points_any (w : World) (bp eb lb wb l r : Nat) (Nd : List (List Nat)) (Z Y : ZL) (s : ByteArray) (h : BkAt w bp eb lb wb l r Nd Z Y) (hs : s.size ≤ maxLen) (hl : l ≤ 100) (hr : r ≤ 100) :
    Calls Tryd.prog 11 #[.pointer (some ⟨bp, 0, none⟩), .string s] w fun e w' => ∃ out v, e = .returned v ∧ w'.ownsRow w.heap.size 3 1 v out.length (vals out) ∧ PtsS (zQ Z) (zQ Y) l r s out ∧ Below w.heap.size w w' := by
  obtain ⟨i2, hi2, hz0, hz1, hz2⟩ := info_parts info_int
  have hrw := readword_any s w hs
  have HBK := boxed h
  have HOK := boxed (fun L A => wordT_ok (s := s) (L := L) (A := A))
  clear h hs
  go_enter Tryd.func11, Tryd.ntmps11
  go_wp2_with fail
  refine hrw.mono ?_
  rintro e w1 ⟨hR, hb⟩
  have HBK1 := boxed (HBK.out.below hb)
  have HB1 := boxed hb
  clear HBK hrw hb
  rcases hR with ⟨hnone, v1, v2, rfl⟩ | ⟨L, A, v1, v2, hsome, rfl, ho1, ho2⟩
  · have HF : Box (∀ L, wordT s ≠ some (L, [])) := boxed (fun L h => by rw [hnone] at h; cases h)
    clear hnone
    go_wp2_with fail
    go_ret
    exact ⟨[], _, rfl, World.ownsRow_nil _ _ _ _, .inr ⟨HF.out, rfl⟩, HB1.out⟩
  obtain ⟨q1, q2, q3, q4, q5⟩ := HOK.out L A hsome
  obtain ⟨ao2, c2, rfl⟩ := own_shape ho2
  by_cases hA : A = []
  rotate_left
  · have HF : Box (∀ L, wordT s ≠ some (L, [])) := boxed (fun L' h => by rw [hsome] at h; injection h with h; injection h with _ h; exact hA h)
    have hal : 0 < A.length := by
      cases A with
      | nil => exact absurd rfl hA
      | cons a b => simp
    have t1 : decide ((0 : Int) < (A.length : Int)) = true := decide_eq_true (by omega)
    have t2 : decide (0 < A.length) = true := decide_eq_true hal
    clear hsome ho1 ho2 q1 q2 q3 q4 q5 hA hal
    generalize A.length = al at *
    go_wp2_with fail
    go_ret
    exact ⟨[], _, rfl, World.ownsRow_nil _ _ _ _, .inr ⟨HF.out, rfl⟩, HB1.out⟩
  subst hA
  have HWT := boxed hsome
  have hL0 : 0 < L.length := by
    cases L with
    | nil => exact absurd rfl q2
    | cons a b => simp
  have hbd : Below w1.heap.size w1 w1.drew := ⟨rfl, rfl, rfl, Nat.le_refl _, fun _ _ => rfl⟩
  have q5' : ∀ c ∈ L, isR (c : Int) = true := fun c hc => (q5 c hc).2.2
  have ho1d := owns_below ho1 hbd
  have hcv := conv_runes ho1d q5'
  have hBKd := HBK1.out.below hbd
  have HBKd := boxed hBKd
  have HBd : Box (Below w.heap.size w w1.drew) := boxed (below_step HB1.out (Nat.le_refl _) hbd)
  have k4 : w1.cell? ⟨bp, 4, none⟩ = some (.map (some wb)) := by rw [cell_of_row _ _ _ _ _ _ HBK1.out.box]; rfl
  obtain ⟨kl, hkl⟩ := str_key (encT L) (by have := encT_size L; unfold maxLen; omega)
  obtain ⟨n', hMP⟩ := hBKd.words
  obtain ⟨vo1, vc1, rfl⟩ := own_shape ho1
  obtain ⟨N, hN⟩ : ∃ N, L.length = N := ⟨_, rfl⟩
  have HN := boxed hN
  cases hlook : lookL Y L with
  | some av =>
    obtain ⟨PLe, vp⟩ := av
    obtain ⟨g1, g2, g3, g4, g5, Bp, g6⟩ := hBKd.yok _ (lookL_mem Y L _ hlook)
    simp only at g1 g2 g3 g4 g5 g6
    have hlk := (hMP.hit keyS Tryd.underlying63 hkl ((wr_iff hBKd.yok.isr q5' vp).2 (by rw [zV_look, hlook]; rfl))).1
    have HPL := boxed g6
    have HLT := boxed g4
    have HPLL : Box (PLe.length ≤ 256) := boxed (by
      have := rise_filter PLe g3 L.length g4
      have h2 := List.length_filter_le (fun i => decide (i ∈ PLe)) (List.range L.length)
      rw [this, List.length_range] at h2
      omega)
    have HPT : Box (PtsIs (zQ Z) (zQ Y) l r L (pf N l r PLe)) := boxed ⟨fun i => decide (i ∈ PLe), by rw [← hN]; exact ptsOf_rise PLe g3 L.length l r g4, fun A h n _ => (by rw [zQ_look, hlook] at h; injection h with h; rw [← h]), fun h => (by rw [zQ_look, hlook] at h; cases h)⟩
    have HBK2 := HBKd
    have HB2 := HBd
    rw [hN] at ho1 ho1d hcv hL0 q1 ⊢
    clear g1 g2 g3 g4 g5 g6 hlook hMP hkl hBKd q2 q3 q4 q5 q5' hsome ho1 ho1d ho2 HOK
    generalize encT L = et at *
    go_wp2_with fail
    go_region
    clear hlk hcv hbd
    generalize w1.drew = w2 at *
    clear HBK1 HB1 k4 HBKd HBd hN
    -- the tail: places PL in the row vp at world w2
    obtain ⟨po, pc, hvp⟩ := own_shape HPL.out
    subst hvp
    have hnd : PLe.length ≤ 256 := HPLL.out
    have hbb : Box (BkAt w2 bp eb lb wb l r Nd Z Y) := HBK2
    have HB2b := HB2
    have hNl := HN.out
    clear hNl
    go_wp2_with fail
    go_loopw [9, 49] (fun vq vi wr => ∃ i : Nat, i ≤ PLe.length ∧ vi = .int .i64 (i : Int) ∧ Box (wr.ownsRow w2.heap.size 3 1 vq (pf N l r (PLe.take i)).length (vals (pf N l r (PLe.take i)))) ∧ Box (Below w2.heap.size w2 wr)) (fun _ vi _ => PLe.length - (intOf vi).toNat)
    case atStart => exact ⟨0, Nat.zero_le _, rfl, boxed (World.ownsRow_nil _ _ _ _), boxed (Below.refl _ _)⟩
    case round =>
      obtain ⟨i, hi, rfl, HQ, HB3⟩ := hrel
      by_cases hlt : i < PLe.length
      · obtain ⟨gp, pc', e1, -, hcl, -⟩ := own_cell (owns_below HPL.out HB3.out) i hlt
        injection e1 with e1 e2 e3
        subst e1
        clear e2 e3
        rw [vals_get _ _ hlt] at hcl
        have hBK3 := hbb.out.below HB3.out
        have k0 : wr.cell? ⟨bp, 0, none⟩ = some (.int .i64 (l : Int)) := by rw [cell_of_row _ _ _ _ _ _ hBK3.box]; rfl
        have k1 : wr.cell? ⟨bp, 1, none⟩ = some (.int .i64 (r : Int)) := by rw [cell_of_row _ _ _ _ _ _ hBK3.box]; rfl
        have HT := boxed (pf_succ N l r PLe i hlt)
        have hx := HLT.out _ (getD_mem PLe i hlt)
        have hpl := pf_len N l r (PLe.take i)
        have hil : (i : Int) < (PLe.length : Int) := by omega
        have hpl2 : (PLe.take i).length ≤ 256 := by rw [List.length_take]; omega
        have hsz := HB3.out.size
        generalize PLe.getD i 0 = x at *
        clear hBK3
        by_cases hc : l ≤ x ∧ x + r ≤ N
        · have t1 : decide ((l : Int) ≤ (x : Int)) = true := decide_eq_true (by omega)
          have t1' : decide (l ≤ x) = true := decide_eq_true hc.1
          have t2 : decide ((x : Int) ≤ (N : Int) - (r : Int)) = true := decide_eq_true (by omega)
          have HT2 : Box (pf N l r (PLe.take (i + 1)) = pf N l r (PLe.take i) ++ [x]) := boxed (by rw [HT.out, if_pos hc])
          have HVS := boxed (vals_snoc (pf N l r (PLe.take i)) x)
          obtain ⟨ql, hql⟩ : ∃ ql, (pf N l r (PLe.take i)).length = ql := ⟨_, rfl⟩
          have HQL := boxed hql
          rw [hql] at HQ hpl
          have hql3 : ql ≤ 256 := by omega
          clear hql hpl hpl2 HT hc
          generalize hPN : PLe.length = PN at *
          replace hPN := boxed hPN
          go_wp2_with (at_builtin; refine wpList_append_apart rfl _ _ 30 rfl w2.heap.size 3 i2 (.int .i64 0) 1 8 Tryd.underlying30 hi2 hz0 hz1 hz2 rfl (by decide) _ _ _ rfl (HQ.out.alloc _) ⟨wr.heap.size, 0, none⟩ 1 1 [.int .i64 (x : Int)] rfl rfl (one_new wr _ _) ?c2 ?c3 ?c4 ?c5 (by omega) ?_)
          case c2 => intro u hu; simp at hu; subst hu; rfl
          case c3 => unfold maxLen; omega
          case c4 => omega
          case c5 => simp; omega
          intro v5 w5 hown5 hgrow5 _
          have HB5 : Box (Below w2.heap.size w2 w5) := boxed ((HB3.out.alloc (by omega) _).grown hgrow5 (by simp; omega) (fun k hk => (HQ.out.lt k hk).1))
          rw [HVS.out] at hown5
          have HQ5 : Box (w5.ownsRow w2.heap.size 3 1 v5 (pf N l r (PLe.take (i + 1))).length (vals (pf N l r (PLe.take (i + 1))))) := boxed (by rw [HT2.out, List.length_append, HQL.out]; exact hown5)
          clear hown5 hgrow5 HQ HB3
          go_wp2
          go_roundw
          case rel => exact ⟨i + 1, by omega, by go_num, HQ5, HB5⟩
          case measure => simp [intOf]; omega
        · have HT2 : Box (pf N l r (PLe.take (i + 1)) = pf N l r (PLe.take i)) := boxed (by rw [HT.out, if_neg hc])
          have t : decide (l ≤ x) = false ∨ (decide (l ≤ x) = true ∧ decide ((x : Int) ≤ (N : Int) - (r : Int)) = false) := by
            by_cases c : l ≤ x
            · exact .inr ⟨decide_eq_true c, decide_eq_false (by omega)⟩
            · exact .inl (decide_eq_false c)
          clear hpl hpl2 HT hc
          generalize hPN : PLe.length = PN at *
          replace hPN := boxed hPN
          rcases t with t1 | ⟨t1, t2⟩
          all_goals
            have t3 : decide ((l : Int) ≤ (x : Int)) = decide (l ≤ x) := by rw [decide_eq_decide]; omega
            rw [t1] at t3
            go_wp2_with fail
            go_roundw
            case rel => exact ⟨i + 1, by omega, by go_num, boxed (by rw [HT2.out]; exact HQ.out), HB3⟩
            case measure => simp [intOf]; omega
      · have e : i = PLe.length := by omega
        have HE := boxed e
        have hpl : Box (pf N l r (PLe.take i) = pf N l r PLe) := boxed (by rw [e, List.take_length])
        have HQ2 : Box (wr.ownsRow w.heap.size 3 1 u9 (pf N l r PLe).length (vals (pf N l r PLe))) := boxed (by rw [← hpl.out]; exact own_down HQ.out HB2b.out.size)
        generalize PLe.length = PN at *
        have hii : ¬ (i : Int) < (PN : Int) := by omega
        clear e
        go_wp2_with fail
        go_ret
        exact ⟨_, _, rfl, HQ2.out, .inl ⟨L, HWT.out, HPT.out⟩, below_step HB2b.out (Nat.le_refl _) HB3.out⟩
  | none =>
    have hlk := (hMP.miss keyS Tryd.underlying63 (z := .slice none 0 0) (fun w => by kernel_rfl) hkl (fun v hv => by rw [wr_iff hBKd.yok.isr q5' v, zV_look, hlook] at hv; cases hv)).1
    have hod := odd_any w1.drew eb lb w.heap.size Nd Z L (.slice vo1 L.length vc1) hBKd.tr hBKd.zok ho1d q1 hL0 (fun c hc => by have := isR_t _ (q5' c hc); omega) hBKd.small
    have HPT0 : Box (∀ X, LvIs (zQ Z) (46 :: (L ++ [46])) (fun _ _ _ => True) X → PtsIs (zQ Z) (zQ Y) l r L (pf N l r (odds X N))) := boxed (fun X hX => ⟨fun i => decide (X.getD (i + 1) 0 % 2 = 1), by rw [hN]; exact pf_odds X N l r, fun A h => (by rw [zQ_look, hlook] at h; cases h), fun _ n hn => ⟨X.getD (n + 1) 0, hX.2 (n + 1) (by simp; omega), rfl⟩⟩)
    have k2 : w1.drew.cell? ⟨bp, 2, none⟩ = some (.map (some eb)) := by rw [cell_of_row _ _ _ _ _ _ hBKd.box]; rfl
    have k3 : w1.drew.cell? ⟨bp, 3, none⟩ = some (.map (some lb)) := by rw [cell_of_row _ _ _ _ _ _ hBKd.box]; rfl
    rw [hN] at ho1 ho1d hcv hL0 q1 hod ⊢
    clear hlook hMP hkl hBKd q2 q3 q4 q5 q5' hsome ho1 ho1d ho2 HOK
    generalize encT L = et at *
    go_wp2_with fail
    go_region
    clear hlk hcv hbd
    generalize w1.drew = wd at *
    clear HBK1 HB1 k4 hN
    go_wp2_with fail
    refine hod.mono ?_
    rintro e w2 ⟨⟨X, vp, rfl, g6, hX⟩, hb2⟩
    have HPT := boxed (HPT0.out X hX)
    have HBK2 := boxed (HBKd.out.below hb2)
    have HB2 : Box (Below w.heap.size w w2) := boxed (below_step HBd.out (Nat.le_refl _) hb2)
    have HPLL : Box ((odds X N).length ≤ 256) := boxed (by have := odds_len X N; omega)
    have HLT : Box (∀ a ∈ odds X N, a < L.length) := boxed (fun a ha => by unfold odds at ha; simp at ha; rw [HN.out]; exact ha.1)
    have HPL := boxed g6
    generalize odds X N = PLe at *
    clear hb2 hX g6 hod HPT0 HBKd HBd k2 k3
    -- the tail: places PL in the row vp at world w2
    obtain ⟨po, pc, hvp⟩ := own_shape HPL.out
    subst hvp
    have hnd : PLe.length ≤ 256 := HPLL.out
    have hbb : Box (BkAt w2 bp eb lb wb l r Nd Z Y) := HBK2
    have HB2b := HB2
    have hNl := HN.out
    clear hNl
    go_wp2_with fail
    go_loopw [9, 49] (fun vq vi wr => ∃ i : Nat, i ≤ PLe.length ∧ vi = .int .i64 (i : Int) ∧ Box (wr.ownsRow w2.heap.size 3 1 vq (pf N l r (PLe.take i)).length (vals (pf N l r (PLe.take i)))) ∧ Box (Below w2.heap.size w2 wr)) (fun _ vi _ => PLe.length - (intOf vi).toNat)
    case atStart => exact ⟨0, Nat.zero_le _, rfl, boxed (World.ownsRow_nil _ _ _ _), boxed (Below.refl _ _)⟩
    case round =>
      obtain ⟨i, hi, rfl, HQ, HB3⟩ := hrel
      by_cases hlt : i < PLe.length
      · obtain ⟨gp, pc', e1, -, hcl, -⟩ := own_cell (owns_below HPL.out HB3.out) i hlt
        injection e1 with e1 e2 e3
        subst e1
        clear e2 e3
        rw [vals_get _ _ hlt] at hcl
        have hBK3 := hbb.out.below HB3.out
        have k0 : wr.cell? ⟨bp, 0, none⟩ = some (.int .i64 (l : Int)) := by rw [cell_of_row _ _ _ _ _ _ hBK3.box]; rfl
        have k1 : wr.cell? ⟨bp, 1, none⟩ = some (.int .i64 (r : Int)) := by rw [cell_of_row _ _ _ _ _ _ hBK3.box]; rfl
        have HT := boxed (pf_succ N l r PLe i hlt)
        have hx := HLT.out _ (getD_mem PLe i hlt)
        have hpl := pf_len N l r (PLe.take i)
        have hil : (i : Int) < (PLe.length : Int) := by omega
        have hpl2 : (PLe.take i).length ≤ 256 := by rw [List.length_take]; omega
        have hsz := HB3.out.size
        generalize PLe.getD i 0 = x at *
        clear hBK3
        by_cases hc : l ≤ x ∧ x + r ≤ N
        · have t1 : decide ((l : Int) ≤ (x : Int)) = true := decide_eq_true (by omega)
          have t1' : decide (l ≤ x) = true := decide_eq_true hc.1
          have t2 : decide ((x : Int) ≤ (N : Int) - (r : Int)) = true := decide_eq_true (by omega)
          have HT2 : Box (pf N l r (PLe.take (i + 1)) = pf N l r (PLe.take i) ++ [x]) := boxed (by rw [HT.out, if_pos hc])
          have HVS := boxed (vals_snoc (pf N l r (PLe.take i)) x)
          obtain ⟨ql, hql⟩ : ∃ ql, (pf N l r (PLe.take i)).length = ql := ⟨_, rfl⟩
          have HQL := boxed hql
          rw [hql] at HQ hpl
          have hql3 : ql ≤ 256 := by omega
          clear hql hpl hpl2 HT hc
          generalize hPN : PLe.length = PN at *
          replace hPN := boxed hPN
          go_wp2_with (at_builtin; refine wpList_append_apart rfl _ _ 30 rfl w2.heap.size 3 i2 (.int .i64 0) 1 8 Tryd.underlying30 hi2 hz0 hz1 hz2 rfl (by decide) _ _ _ rfl (HQ.out.alloc _) ⟨wr.heap.size, 0, none⟩ 1 1 [.int .i64 (x : Int)] rfl rfl (one_new wr _ _) ?c2 ?c3 ?c4 ?c5 (by omega) ?_)
          case c2 => intro u hu; simp at hu; subst hu; rfl
          case c3 => unfold maxLen; omega
          case c4 => omega
          case c5 => simp; omega
          intro v5 w5 hown5 hgrow5 _
          have HB5 : Box (Below w2.heap.size w2 w5) := boxed ((HB3.out.alloc (by omega) _).grown hgrow5 (by simp; omega) (fun k hk => (HQ.out.lt k hk).1))
          rw [HVS.out] at hown5
          have HQ5 : Box (w5.ownsRow w2.heap.size 3 1 v5 (pf N l r (PLe.take (i + 1))).length (vals (pf N l r (PLe.take (i + 1))))) := boxed (by rw [HT2.out, List.length_append, HQL.out]; exact hown5)
          clear hown5 hgrow5 HQ HB3
          go_wp2
          go_roundw
          case rel => exact ⟨i + 1, by omega, by go_num, HQ5, HB5⟩
          case measure => simp [intOf]; omega
        · have HT2 : Box (pf N l r (PLe.take (i + 1)) = pf N l r (PLe.take i)) := boxed (by rw [HT.out, if_neg hc])
          have t : decide (l ≤ x) = false ∨ (decide (l ≤ x) = true ∧ decide ((x : Int) ≤ (N : Int) - (r : Int)) = false) := by
            by_cases c : l ≤ x
            · exact .inr ⟨decide_eq_true c, decide_eq_false (by omega)⟩
            · exact .inl (decide_eq_false c)
          clear hpl hpl2 HT hc
          generalize hPN : PLe.length = PN at *
          replace hPN := boxed hPN
          rcases t with t1 | ⟨t1, t2⟩
          all_goals
            have t3 : decide ((l : Int) ≤ (x : Int)) = decide (l ≤ x) := by rw [decide_eq_decide]; omega
            rw [t1] at t3
            go_wp2_with fail
            go_roundw
            case rel => exact ⟨i + 1, by omega, by go_num, boxed (by rw [HT2.out]; exact HQ.out), HB3⟩
            case measure => simp [intOf]; omega
      · have e : i = PLe.length := by omega
        have HE := boxed e
        have hpl : Box (pf N l r (PLe.take i) = pf N l r PLe) := boxed (by rw [e, List.take_length])
        have HQ2 : Box (wr.ownsRow w.heap.size 3 1 u9 (pf N l r PLe).length (vals (pf N l r PLe))) := boxed (by rw [← hpl.out]; exact own_down HQ.out HB2b.out.size)
        generalize PLe.length = PN at *
        have hii : ¬ (i : Int) < (PN : Int) := by omega
        clear e
        go_wp2_with fail
        go_ret
        exact ⟨_, _, rfl, HQ2.out, .inl ⟨L, HWT.out, HPT.out⟩, below_step HB2b.out (Nat.le_refl _) HB3.out⟩
end Go.Proofs.YtflhefgmgdgffaaDoor
