/-
  What the program's Copy does.
-/
import Derived.Deep.RegionHeld3
import Derived.Deep.AppendLies
import Derived.Test.YtcjcdpfjnomehaaGreatPk21
namespace Go.Proofs.YtcjcdpfjnomehaaGreat.Ru
open Go.RowKit
set_option linter.unusedSimpArgs false
set_option linter.unusedVariables false
theorem step_append_own {P : Program} {w : World} {ops : Array Oper} {o : Oper} {a : Act} {K : Act → World → Prop} {Q : Exit → Act → World → Prop} {E : Prop} (hgd : o.guard = none) (s x : Operand) (t : TypeId)
    (ho : o.op = .call { callee := .builtin .append, args := #[s, x], argTypes := #[t, t] })
    (base : Nat) (e : TypeId) (i : TypeInfo) (z : Value) (size bytes : Nat) (ht : P.underlying t = some (.slice e)) (hi : P.info? e = some i) (hz : i.zero = some z)
    (hsize : i.size = size) (hby : i.bytes = bytes) (hzs : z.cells.size = size) (hsz : 0 < size)
    (v : Value) (n : Nat) (xs : List Value) (hs : a.eval s = v) (hown : w.ownsRow base e size v n xs)
    (ad : Addr) (m c : Nat) (news : List Value) (hx : a.eval x = .slice (some ad) m c) (hl : news.length = m * size) (hnews : ∀ j u, news[j]? = some u → w.cell? (ad.add j) = some u) (h1 : ∀ u ∈ news, u.oneCell' = true)
    (h63 : n + m ≤ maxLen) (hbytes : (n + m) * bytes ≤ 140737488355328) (hbase : base ≤ w.heap.size)
    (h : ∀ v' w', w'.ownsRow base e size v' (n + m) (xs ++ news) → w.grownBy w' v.ownBlock → K (a.put o.dst v') w') :
    if Region.wanted o (yielded ops a.tmps) = true then Oper.wp P o a w K Q else E := by
  have hw : Region.wanted o (yielded ops a.tmps) = true := by simp [Region.wanted, hgd]
  rw [if_pos hw]
  exact wp_append_own w s x t ho base e i z size bytes ht hi hz hsize hby hzs hsz v n xs hs hown ad m c news hx hl hnews h1 h63 hbytes hbase fun v' w' h2 h3 _ => h v' w' h2 h3
def CpyP (s : List Int) (bare : Int) (w : World) (e : Ending) (w' : World) : Prop :=
  ∃ lc ac cc, e = .returned (.pointer (some ⟨lc, 0, none⟩)) ∧ w.heap.size ≤ lc ∧ ListAt w' lc ac cc s bare ∧ PartsAt (fun b => w.heap.size ≤ b) w' ac s ∧ Below w.heap.size w w'
theorem CpyP.drew {s : List Int} {bare : Int} {w w' : World} {e : Ending} (h : CpyP s bare w e w') : CpyP s bare w e w'.drew := by
  obtain ⟨lc, ac, cc, h1, h2, h3, h4, h5⟩ := h
  exact ⟨lc, ac, cc, h1, h2, h3.below (Below.refl _ _).drew, h4.below (Below.refl _ _).drew, h5.drew⟩
end Go.Proofs.YtcjcdpfjnomehaaGreat.Ru

/-
  Rows of runs: put one behind the other, and held against each other.
-/
namespace Go.Proofs.YtcjcdpfjnomehaaGreat.Ru
open Go.RowKit
set_option linter.unusedSimpArgs false
set_option linter.unusedVariables false
theorem own_shape {w : World} {base size n : Nat} {e : TypeId} {v : Value} {xs : List Value} (h : w.ownsRow base e size v n xs) : ∃ ao cap, v = .slice ao n cap := by
  rcases ownsRow_forms h with ⟨g1, g2⟩ | ⟨g, cap, g1⟩
  · exact ⟨none, 0, by rw [g2]; exact g1⟩
  · exact ⟨_, _, g1⟩
end Go.Proofs.YtcjcdpfjnomehaaGreat.Ru

/-
  What the document's Merged answers.
-/
namespace Go.Proofs.YtcjcdpfjnomehaaGreat.Ru
open Go.RowKit
set_option linter.unusedSimpArgs false
set_option linter.unusedVariables false
theorem exr_len2 (L Y : Nat → Int) (n k : Nat) (hk : k ≤ n) (h : ∀ i, i < n → L i ≤ 1099511627776) : (exr L Y k).length ≤ k * 1099511627776 := by
  induction k with
  | zero => simp [exr]
  | succ k ih =>
    have := ih (by omega)
    have := h k (by omega)
    simp only [exr, List.length_append, List.length_replicate]
    omega
theorem enc_grow (s : List Int) (l : Nat) (y : Int) : (enc (s ++ List.replicate l y)).length ≤ (enc s).length + 1 := by
  by_cases hl : l = 0
  · subst hl; simp
  · by_cases c : (enc s).length = 0
    · have e1 : s = [] := List.length_eq_zero_iff.1 ((enc_nil _).1 c)
      rw [e1, List.nil_append, enc_add_nil l y (by omega)]; simp
    · obtain ⟨R0, ⟨l0, z⟩, hR⟩ := snoc_of (enc s) (by omega)
      by_cases d : z = y
      · subst d
        rw [enc_add_like _ R0 l0 l z hR, hR]; simp
      · rw [enc_add_new _ l y (by omega) (by rw [hR]; simp; exact d)]; simp
theorem exr_count (L Y : Nat → Int) (k : Nat) : (enc (exr L Y k)).length ≤ k := by
  induction k with
  | zero => simp [exr, enc]
  | succ k ih => have := enc_grow (exr L Y k) (L k).toNat (Y k); simp only [exr]; omega
set_option maxRecDepth 100000 in
set_option maxHeartbeats 4000000 in
theorem merged_any (w : World) (lo : Option Addr) (n c : Nat) (L Y : Nat → Int) (h : P2At (fun _ => True) w lo n L Y) (hn : n ≤ 4096) (hL : ∀ i, i < n → L i ≤ 1099511627776) :
    Calls Tryz.prog 28 #[.slice lo n c] w fun e w' => ∃ v, e = .returned v ∧ w'.ownsRow w.heap.size 61 2 v (enc (exr L Y n)).length (rcs (enc (exr L Y n))) ∧ Below w.heap.size w w' := by
  obtain ⟨i0, hi, hi0, hi1, hi2⟩ := info_parts info_run
  have HP := boxed h
  have HLb := boxed hL
  have HEL := boxed (fun k (hk : k ≤ n) => exr_len2 L Y n k hk hL)
  have HEC := boxed (fun k => exr_count L Y k)
  clear h hL
  go_enter Tryz.func28, Tryz.ntmps28
  go_wp2_with fail
  go_loopw [3, 4] (fun vo vi wr => ∃ (i : Nat) (ao : Option Addr) (cp : Nat), i ≤ n ∧ vi = .int .i64 (i : Nat) ∧ vo = .slice ao (enc (exr L Y i)).length cp ∧ Box (wr.ownsRow w.heap.size 61 2 (.slice ao (enc (exr L Y i)).length cp) (enc (exr L Y i)).length (rcs (enc (exr L Y i)))) ∧ Box (Below w.heap.size w wr)) (fun _ vi _ => n - (intOf vi).toNat)
  case atStart => exact ⟨0, none, 0, Nat.zero_le _, rfl, rfl, boxed (World.ownsRow_nil _ _ _ _), boxed (Below.refl _ _)⟩
  case round =>
    obtain ⟨i, ao, cp, hin, rfl, rfl, HO, HB⟩ := hrel
    by_cases hlt : i < n
    · obtain ⟨lbk, loff, rfl, -⟩ := HP.out.form (by omega)
      obtain ⟨hci0, hci1⟩ := (HP.out.below HB.out).get i hlt
      have HT : Box (exr L Y (i + 1) = exr L Y i ++ List.replicate (L i).toNat (Y i)) := boxed rfl
      have hen := HEC.out i
      have hln := HEL.out i (by omega)
      have hLi := HLb.out i hlt
      have hun : undef = Value.tuple #[] := rfl
      generalize Y i = y at *
      generalize hl9 : L i = l9 at *
      clear hl9
      by_cases c0 : l9 ≤ 0
      · have t9 : decide (l9 ≤ 0) = true := decide_eq_true c0
        have HN : Box (exr L Y (i + 1) = exr L Y i) := boxed (by rw [HT.out, show l9.toNat = 0 from by omega]; simp)
        clear HT
        go_wp2_with fail
        clear hun
        go_roundw
        case rel => exact ⟨i + 1, ao, cp, by omega, by go_num, by rw [HN.out], by rw [HN.out]; exact HO, HB⟩
        case measure => simp [intOf]; omega
      have t9 : decide (l9 ≤ 0) = false := decide_eq_false c0
      obtain ⟨l, rfl⟩ : ∃ l : Nat, l9 = l := ⟨l9.toNat, by omega⟩
      have hl0 : 0 < l := by omega
      rw [show ((l : Int)).toNat = l from by simp] at HT
      clear c0
      by_cases c1 : (enc (exr L Y i)).length = 0
      · have e1 : exr L Y i = [] := List.length_eq_zero_iff.1 ((enc_nil _).1 c1)
        rw [c1]
        have HO : Box (wr.ownsRow w.heap.size 61 2 (.slice ao 0 cp) 0 []) := boxed (by have := HO.out; rw [e1] at this; exact this)
        have HN : Box ((enc (exr L Y (i + 1))).length = 0 + 1 ∧ rcs (enc (exr L Y (i + 1))) = [] ++ [.int .i64 (l : Nat), .int .i64 y]) := boxed (by rw [HT.out, e1, List.nil_append, enc_add_nil l y hl0]; simp [rcs])
        clear c1 e1 HT hen
        go_wp2_with fail
        go_quiet (fail)
        clear hun
        have HB7 : Box (Below w.heap.size w (wr.drewN nq)) := boxed (HB.out.trans (bel_drewN _ _ _))
        have hown7 : (wr.drewN nq).ownsRow _ _ _ _ _ _ := HO.out
        have hci7 : (wr.drewN nq).cell? _ = _ := hci0
        have hci8 : (wr.drewN nq).cell? _ = _ := hci1
        have hz7 : w.heap.size ≤ (wr.drewN nq).heap.size := HB7.out.size
        generalize wr.drewN nq = w7 at *
        go_wp2_with (at_builtin; refine wpList_append_own _ rfl _ _ 23 rfl w.heap.size 61 i0 _ 2 16 Tryz.underlying23 hi hi0 hi1 hi2 rfl (by decide) _ _ _ rfl (hown7.alloc _) ⟨w7.heap.size, 0, none⟩ 1 1 [.int .i64 (l : Nat), .int .i64 y] rfl rfl ?c1 ?c2 ?c3 ?c4 ?c5 ?_)
        case c1 =>
          intro j u hj
          match j, hj with
          | 0, hj => simp at hj; subst hj; simp [Addr.add]
          | 1, hj => simp at hj; subst hj; simp [Addr.add]
        case c2 => intro u hu; simp at hu; rcases hu with rfl | rfl <;> rfl
        case c3 => unfold maxLen; omega
        case c4 => omega
        case c5 => simp; omega
        intro v' w6 hown6 hgrow6 _
        have HB6 : Box (Below w.heap.size w w6) := boxed ((HB7.out.alloc hz7 _).grown hgrow6 (by simp; omega) (fun r e => (owns_ge hown7 r e)))
        have HO6 : Box (w6.ownsRow w.heap.size 61 2 v' (enc (exr L Y (i + 1))).length (rcs (enc (exr L Y (i + 1))))) := boxed (by rw [HN.out.1, HN.out.2]; exact hown6)
        obtain ⟨ao6, cp6, rfl⟩ : ∃ ao6 cp6, v' = .slice ao6 (enc (exr L Y (i + 1))).length cp6 := by
          rcases ownsRow_forms HO6.out with ⟨g1, g2⟩ | ⟨g, cap, g1⟩
          · exact ⟨none, 0, by rw [g2]; exact g1⟩
          · exact ⟨_, _, g1⟩
        clear hown6 hgrow6 hown7 HN HB7
        go_wp2_with fail
        go_roundw
        case rel => exact ⟨i + 1, ao6, cp6, by omega, by go_num, rfl, HO6, HB6⟩
        case measure => simp [intOf]; omega
      · obtain ⟨R0, ⟨l0, z⟩, hR⟩ := snoc_of (enc (exr L Y i)) (by omega)
        have hn : (enc (exr L Y i)).length = R0.length + 1 := by rw [hR]; simp
        have hrc : rcs (enc (exr L Y i)) = rcs R0 ++ [.int .i64 (l0 : Nat), .int .i64 z] := by rw [hR, rcs_app]; simp [rcs]
        have hpl := rcs_len R0
        have hmb : R0.length ≤ 65536 := by omega
        obtain ⟨g, hg⟩ : ∃ g, ao = some ⟨g, 0, none⟩ := by
          obtain ⟨g, cap', e⟩ := ownsRow_form HO.out (by omega)
          injection e with e1 e2 e3
          exact ⟨g, e1⟩
        subst hg
        have hown := HO.out
        rw [hn, hrc] at hown
        have hlast : (rcs R0 ++ [Value.int .i64 (l0 : Nat), Value.int .i64 z])[R0.length * 2 + 1]? = some (.int .i64 z) := by
          rw [List.getElem?_append_right (by omega), hpl]; simp
        have hlast0 : (rcs R0 ++ [Value.int .i64 (l0 : Nat), Value.int .i64 z])[R0.length * 2]? = some (.int .i64 (l0 : Nat)) := by
          rw [List.getElem?_append_right (by omega), hpl]; simp
        have hx1 := hown.cellAt (R0.length * 2 + 1) (by omega)
        have hx0 := hown.cellAt (R0.length * 2) (by omega)
        rw [hlast] at hx1
        rw [hlast0] at hx0
        have hf0 := hown.frozenAt (R0.length * 2)
        have HO := boxed hown
        have hsm : sm R0 + l0 = (exr L Y i).length := by have := sm_enc (exr L Y i); rw [hR, sm_app] at this; simpa [sm] using this
        rw [hn]
        by_cases c2 : z = y
        · subst c2
          have HN : Box ((enc (exr L Y (i + 1))).length = R0.length + 1 ∧ rcs (enc (exr L Y (i + 1))) = (rcs R0 ++ [Value.int .i64 (l0 : Nat), Value.int .i64 z]).set (R0.length * 2) (.int .i64 ((l0 + l : Nat) : Int))) := boxed (by
            rw [HT.out, enc_add_like _ R0 l0 l z hR]
            refine ⟨by simp, ?_⟩
            rw [List.set_append_right _ _ (by omega), hpl, rcs_app]
            simp [rcs])
          clear hown hlast hlast0 hR hrc hn c1
          generalize R0.length = m at *
          have hwm : IntKind.i64.wrap ((m : Int) + 1 - 1) = (m : Int) := by rw [IntKind.wrap_i64]; omega
          have t0 : decide ((0 : Int) < (m : Int) + 1) = true := decide_eq_true (by omega)
          go_wp2_with fail
          go_quiet (fail)
          clear hun
          have HB7 : Box (Below w.heap.size w (wr.drewN nq)) := boxed (HB.out.trans (bel_drewN _ _ _))
          have HO7 : Box ((wr.drewN nq).ownsRow _ _ _ _ _ _) := boxed HO.out
          have dx0 : (wr.drewN nq).cell? ⟨g, m * 2, none⟩ = some (.int .i64 (l0 : Nat)) := hx0
          have df0 : (wr.drewN nq).frozen? ⟨g, m * 2, none⟩ = false := hf0
          have dc0 : (wr.drewN nq).cell? ⟨lbk, loff + i * 2, none⟩ = some (.int .i64 (l : Nat)) := hci0
          generalize wr.drewN nq = w7 at *
          have hgB := (HO7.out.lt g rfl).1
          have HO8 : Box ((w7.setCell ⟨g, m * 2, none⟩ (.int .i64 ((l0 : Int) + (l : Int)))).ownsRow w.heap.size 61 2 (.slice (some ⟨g, 0, none⟩) (m + 1) cp) (enc (exr L Y (i + 1))).length (rcs (enc (exr L Y (i + 1))))) := boxed (by
            rw [HN.out.1, HN.out.2]
            have := (HO7.out.stored (m * 2) (.int .i64 ((l0 + l : Nat) : Int))).1
            simpa using this)
          have HN1 : Box ((enc (exr L Y (i + 1))).length = m + 1) := boxed HN.out.1
          have HO8' : Box ((w7.setCell ⟨g, m * 2, none⟩ (.int .i64 ((l0 : Int) + (l : Int)))).ownsRow w.heap.size 61 2 (.slice (some ⟨g, 0, none⟩) (m + 1) cp) (m + 1) (rcs (enc (exr L Y (i + 1))))) := boxed (by have := HO8.out; rw [HN1.out] at this; exact this)
          have HB8 : Box (Below w.heap.size w (w7.setCell ⟨g, m * 2, none⟩ (.int .i64 ((l0 : Int) + (l : Int))))) := boxed (HB7.out.setCell (p := ⟨g, m * 2, none⟩) hgB _)
          have HO9 := boxed (owns_below HO8'.out (Below.refl _ _).drew)
          have HB9 := boxed HB8.out.drew
          have ex0 : w7.drew.cell? ⟨g, m * 2, none⟩ = some (.int .i64 (l0 : Nat)) := dx0
          have ef0 : w7.drew.frozen? ⟨g, m * 2, none⟩ = false := df0
          have ec0 : w7.drew.cell? ⟨lbk, loff + i * 2, none⟩ = some (.int .i64 (l : Nat)) := dc0
          have hws : IntKind.i64.wrap ((l0 : Int) + (l : Int)) = (l0 : Int) + (l : Int) := by rw [IntKind.wrap_i64]; omega
          clear HN HO7 HB7
          go_wp2_with fail
          go_region
          · skip
            go_wp2_with fail
            go_roundw
            case rel => exact ⟨i + 1, some ⟨g, 0, none⟩, cp, by omega, by go_num, by rw [HN1.out], by rw [HN1.out]; exact HO9, HB9⟩
            case measure => simp [intOf]; omega
        · have HN : Box ((enc (exr L Y (i + 1))).length = R0.length + 1 + 1 ∧ rcs (enc (exr L Y (i + 1))) = rcs R0 ++ [Value.int .i64 (l0 : Nat), Value.int .i64 z, .int .i64 (l : Nat), .int .i64 y]) := boxed (by
            rw [HT.out, enc_add_new _ l y hl0 (by rw [hR]; simp; exact c2), hR]
            refine ⟨by simp, ?_⟩
            rw [rcs_app, rcs_app]
            simp [rcs])
          have tz : (z == y) = false := by simpa using c2
          clear hown hlast hlast0 hR hrc hn c1 c2
          generalize R0.length = m at *
          have hwm : IntKind.i64.wrap ((m : Int) + 1 - 1) = (m : Int) := by rw [IntKind.wrap_i64]; omega
          have t0 : decide ((0 : Int) < (m : Int) + 1) = true := decide_eq_true (by omega)
          go_wp2_with fail
          go_quiet (fail)
          clear hun
          have HB7 : Box (Below w.heap.size w (wr.drewN nq)) := boxed (HB.out.trans (bel_drewN _ _ _))
          have hown7 : (wr.drewN nq).ownsRow _ _ _ _ _ _ := HO.out
          have hci7 : (wr.drewN nq).cell? _ = _ := hci0
          have hci8 : (wr.drewN nq).cell? _ = _ := hci1
          have hz7 : w.heap.size ≤ (wr.drewN nq).heap.size := HB7.out.size
          generalize wr.drewN nq = w7 at *
          go_wp2_with (at_builtin; refine wpList_append_own _ rfl _ _ 23 rfl w.heap.size 61 i0 _ 2 16 Tryz.underlying23 hi hi0 hi1 hi2 rfl (by decide) _ _ _ rfl (hown7.alloc _) ⟨w7.heap.size, 0, none⟩ 1 1 [.int .i64 (l : Nat), .int .i64 y] rfl rfl ?c1 ?c2 ?c3 ?c4 ?c5 ?_)
          case c1 =>
            intro j u hj
            match j, hj with
            | 0, hj => simp at hj; subst hj; simp [Addr.add]
            | 1, hj => simp at hj; subst hj; simp [Addr.add]
          case c2 => intro u hu; simp at hu; rcases hu with rfl | rfl <;> rfl
          case c3 => unfold maxLen; omega
          case c4 => omega
          case c5 => simp; omega
          intro v' w6 hown6 hgrow6 _
          have HB6 : Box (Below w.heap.size w w6) := boxed ((HB7.out.alloc hz7 _).grown hgrow6 (by simp; omega) (fun r e => (owns_ge hown7 r e)))
          have HO6 : Box (w6.ownsRow w.heap.size 61 2 v' (enc (exr L Y (i + 1))).length (rcs (enc (exr L Y (i + 1))))) := boxed (by rw [HN.out.1, HN.out.2]; exact hown6)
          obtain ⟨ao6, cp6, rfl⟩ : ∃ ao6 cp6, v' = .slice ao6 (enc (exr L Y (i + 1))).length cp6 := by
            rcases ownsRow_forms HO6.out with ⟨g1, g2⟩ | ⟨g, cap, g1⟩
            · exact ⟨none, 0, by rw [g2]; exact g1⟩
            · exact ⟨_, _, g1⟩
          clear hown6 hgrow6 hown7 HN HB7
          go_wp2_with fail
          go_roundw
          case rel => exact ⟨i + 1, ao6, cp6, by omega, by go_num, rfl, HO6, HB6⟩
          case measure => simp [intOf]; omega
    · obtain rfl : i = n := by omega
      go_wp2_with fail
      go_ret
      exact ⟨_, rfl, HO.out, HB.out⟩
end Go.Proofs.YtcjcdpfjnomehaaGreat.Ru
