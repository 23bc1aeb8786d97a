/-
  What the document's Shown answers for a right text: the same.
-/
import Derived.Deep.DeepCutAuto
import Derived.Test.YtcjcdpfjnomehaaGreatPk24
import Derived.Test.YtcjcdpfjnomehaaGreatPk9
namespace Go.Proofs.YtcjcdpfjnomehaaGreat.It
open Go.RowKit
set_option linter.unusedSimpArgs false
set_option linter.unusedVariables false
set_option maxRecDepth 100000 in
set_option maxHeartbeats 1600000 in
theorem bytesn_any (r : Nat) (w : World) (hr : r ≤ 4194304) :
    Calls Tryz.prog 81 #[.int .i64 (r : Int)] w fun e w' => ∃ ao cap, e = .returned (.slice ao (byts r).length cap) ∧ Dg w' ao cap (byts r) ∧ (∀ x, ao = some x → w.heap.size ≤ x.block) ∧ Below w.heap.size w w' := by
  have hI := isrune_any (r : Int) w
  cases hx : isR (r : Int) with
  | false =>
    have hv : Box (byts r = []) := boxed (by unfold byts; rw [if_pos hx])
    rw [hx] at hI
    go_enter Tryz.func81, Tryz.ntmps81
    go_wp2_with (go_at_call 123; refine hI.mono ?_; rintro e w' ⟨rfl, hw'⟩; subst w')
    go_ret
    rw [hv.out]
    exact ⟨none, 0, rfl, ⟨⟨by simp, by unfold maxLen; omega⟩, Or.inl rfl⟩, fun x hx => (by cases hx), Below.refl _ _⟩
  | true =>
    rw [hx] at hI
    have hnx : ¬ isR (r : Int) = false := by rw [hx]; simp
    by_cases h1 : r < 128
    · have hv : Box (byts r = [r]) := boxed (by unfold byts; rw [if_neg hnx, if_pos h1])
      clear hnx hx
      go_enter Tryz.func81, Tryz.ntmps81
      go_wp2_with (go_at_call 123; refine hI.mono ?_; rintro e w' ⟨rfl, hw'⟩; subst w')
      go_ret
      rw [hv.out]
      exact ⟨_, _, rfl, dg_lit _ _ _ (by simp [vals]) (by simp), fun x hx => (by injection hx with hx; subst hx; exact Nat.le_refl _), (Below.refl _ _).alloc (Nat.le_refl _) _⟩
    by_cases h2 : r < 2048
    · have hv : Box (byts r = [192 + r / 64, 128 + r % 64]) := boxed (by unfold byts; rw [if_neg hnx, if_neg h1, if_pos h2])
      clear hnx hx
      go_enter Tryz.func81, Tryz.ntmps81
      go_wp2_with (go_at_call 123; refine hI.mono ?_; rintro e w' ⟨rfl, hw'⟩; subst w')
      go_ret
      rw [hv.out]
      exact ⟨_, _, rfl, dg_lit _ _ _ (by simp [vals]) (by simp), fun x hx => (by injection hx with hx; subst hx; exact Nat.le_refl _), (Below.refl _ _).alloc (Nat.le_refl _) _⟩
    have d1 : decide ((r : Int) < 128) = false := decide_eq_false (by omega)
    have d2 : decide ((r : Int) < 2048) = false := decide_eq_false (by omega)
    have z0 : (0 : Int) ≤ (r : Int) := by omega
    have z1 : (r : Int) ≤ 4194304 := by omega
    by_cases h3 : r < 65536
    · have d3 : decide ((r : Int) < 65536) = true := decide_eq_true (by omega)
      have hv : Box (byts r = [224 + r / 4096, 128 + r / 64 % 64, 128 + r % 64]) := boxed (by unfold byts; rw [if_neg hnx, if_neg h1, if_neg h2, if_pos h3])
      clear hnx hx h1 h2 h3 hr
      go_enter Tryz.func81, Tryz.ntmps81
      go_wp2_with (go_at_call 123; refine hI.mono ?_; rintro e w' ⟨rfl, hw'⟩; subst w')
      go_ret
      rw [hv.out]
      exact ⟨_, _, rfl, dg_lit _ _ _ (by simp [vals]) (by simp), fun x hx => (by injection hx with hx; subst hx; exact Nat.le_refl _), (Below.refl _ _).alloc (Nat.le_refl _) _⟩
    · have d3 : decide ((r : Int) < 65536) = false := decide_eq_false (by omega)
      have hv : Box (byts r = [240 + r / 262144, 128 + r / 4096 % 64, 128 + r / 64 % 64, 128 + r % 64]) := boxed (by unfold byts; rw [if_neg hnx, if_neg h1, if_neg h2, if_neg h3])
      clear hnx hx h1 h2 h3 hr
      go_enter Tryz.func81, Tryz.ntmps81
      go_wp2_with (go_at_call 123; refine hI.mono ?_; rintro e w' ⟨rfl, hw'⟩; subst w')
      go_ret
      rw [hv.out]
      exact ⟨_, _, rfl, dg_lit _ _ _ (by simp [vals]) (by simp), fun x hx => (by injection hx with hx; subst hx; exact Nat.le_refl _), (Below.refl _ _).alloc (Nat.le_refl _) _⟩
end Go.Proofs.YtcjcdpfjnomehaaGreat.It
namespace Go.Proofs.YtcjcdpfjnomehaaGreat
open Go.RowKit
set_option linter.unusedSimpArgs false
set_option linter.unusedVariables false
theorem ke_at (t : ByteArray) (k m : Nat) (h1 : (ke t k).length ≤ m) (h2 : m ≤ (kp t k).length) (h0 : 0 < m) : It.kd (((kp t k).getD (m - 1) 0 : Nat) : Int) = 1 ↔ (ke t k).length < m := by
  obtain ⟨⟨sp, hsp, hs1⟩, hor⟩ := ke_kp t k
  rw [hsp] at h2 ⊢
  by_cases c : (ke t k).length < m
  · refine ⟨fun _ => c, fun _ => ?_⟩
    have hl : m - 1 - (ke t k).length < sp.length := by simp at h2; omega
    rw [List.getD_eq_getElem?_getD, List.getElem?_append_right (by omega), List.getElem?_eq_getElem hl]
    exact hs1 _ (List.getElem_mem hl)
  · refine ⟨fun h => ?_, fun h => absurd h c⟩
    have e : m = (ke t k).length := by omega
    rcases hor with h0' | ⟨l, r, hl, hr⟩
    · rw [h0'] at e; simp at e; omega
    · exfalso
      have : (ke t k ++ sp).getD (m - 1) 0 = r := by rw [e, hl]; simp
      rw [this] at h; exact hr h
theorem ke_get (t : ByteArray) (k i : Nat) (h : i < (ke t k).length) : (kp t k).getD i 0 = (ke t k).getD i 0 := by
  obtain ⟨⟨sp, hsp, -⟩, -⟩ := ke_kp t k
  rw [hsp, List.getD_eq_getElem?_getD, List.getD_eq_getElem?_getD, List.getElem?_append_left h]
theorem encs_take (l : List Nat) (i : Nat) (h : i < l.length) : encs (l.take (i + 1)) = encs (l.take i) ++ It.byts (l.getD i 0) := by
  have e : l.take (i + 1) = l.take i ++ [l.getD i 0] := by
    rw [List.take_add_one]; simp [h]
  rw [e, encs_app, encs_one]
theorem take_one (l : List Nat) (i : Nat) (h : i < l.length) : l.take (i + 1) = l.take i ++ [l.getD i 0] := by
  rw [List.take_add_one]; simp [h]
def Bs (W : World) (bo : Option Addr) (v : Value) (l : List Nat) : Prop := ∀ j, j < l.length → ∃ b off, bo = some ⟨b, off, none⟩ ∧ v.ownBlock ≠ some b ∧ W.cell? ⟨b, off + j, none⟩ = some (.int .i64 ((l.getD j 0 : Nat) : Int))
theorem Bs.next {W W' : World} {bo : Option Addr} {v v' : Value} {l : List Nat} {o : Obj} (h : Bs W bo v l) (hg : (W.alloc o).grownBy W' v.ownBlock) (hw : v'.ownBlock = v.ownBlock ∨ v'.ownBlock = some (W.heap.size + 1)) : Bs W' bo v' l := by
  intro j hj
  obtain ⟨b, off, e, hne, hc⟩ := h j hj
  have hlt := World.block_lt_of_cell? W _ hc
  simp only at hlt
  refine ⟨b, off, e, ?_, ?_⟩
  · rcases hw with hw | hw
    · rw [hw]; exact hne
    · rw [hw]; intro c; injection c with c; omega
  · exact hg.cell (hold ((Below.refl _ W).alloc (Nat.le_refl _) o) hc) (Ne.symm hne)
set_option maxRecDepth 100000 in
set_option maxHeartbeats 8000000 in
theorem refshown_any (x : Lne) (w : World) (N : Nat) (hN : It.Right x.tx N) (hs : x.tx.size ≤ 2000) :
    Calls Tryz.prog 30 #[x.val] w fun e w' => e = .returned (.string (tx (encs (ke x.tx N) ++ (if x.hy = true then [45] else [])))) ∧ Below w.heap.size w w' := by
  obtain ⟨i0, hi, hz0, hz1, hz2⟩ := info_parts info_byte
  obtain ⟨j0, hj, hy0, hy1, hy2⟩ := info_parts It.info_int
  unfold Lne.val
  obtain ⟨t, x2, x3, x4, x5, x6, x7, hy, x9, xa, xb, xc, xd⟩ := x
  simp only at hN hs ⊢
  have hN2 : N ≤ 2000 := by have := It.cnt_le t N hN.1; have := It.it_le t N; omega
  have hru := fun W => It.runes_any t W (by omega) N hN.1
  have HKP := boxed (fun k => kp_len t k)
  have HKE := boxed (fun k => ke_le t k)
  have HEL := boxed (fun l => encs_len l)
  clear hN
  go_enter Tryz.func30, Tryz.ntmps30
  go_wp2_with fail
  refine (hru _).mono ?_
  rintro e w1 ⟨ao1, c1, ao2, c2, rfl, hd1, -, hb1⟩
  have HC1 : Box (w1.cell? ⟨w.heap.size, 5, none⟩ = some (.bool hy)) := boxed (kept_first hb1 5)
  have HB1 : Box (Below w.heap.size w w1) := boxed (kept_below (Below.refl _ w) (Nat.le_refl _) hb1)
  have hsz1 : w.heap.size < w1.heap.size := by have := hb1.size; simp at this; omega
  have HD1 := boxed hd1
  clear hb1 hd1 hru
  go_wp2
  go_loopw [6, 7] (fun vo vi wr => ∃ (i : Nat) (ao : Option Addr) (cp : Nat), i ≤ N ∧ vi = .int .i64 (i : Nat) ∧ vo = .slice ao (kp t i).length cp ∧ Box (wr.ownsRow w1.heap.size 3 1 (.slice ao (kp t i).length cp) (kp t i).length (It.vals (kp t i))) ∧ Box (Below w1.heap.size w1 wr)) (fun _ vi _ => N - (intOf vi).toNat)
  case atStart => exact ⟨0, none, 0, Nat.zero_le _, rfl, rfl, boxed (World.ownsRow_nil _ _ _ _), boxed (Below.refl _ _)⟩
  case round =>
    obtain ⟨i, ao, cp, hin, rfl, rfl, HO, HB⟩ := hrel
    have hl1 := HKP.out i
    by_cases hlt : i < N
    · have hce : ∃ b off, ao1 = some ⟨b, off, none⟩ ∧ wr.cell? ⟨b, off + i, none⟩ = some (.int .i64 ((It.rn t i : Nat) : Int)) := by
        obtain ⟨-, hh⟩ := HD1.out.below HB.out
        rcases hh with hh | ⟨b, off, e1, -, hc⟩
        · have := It.rns_len t N
          rw [hh] at this
          simp at this
          omega
        · have := hc i (by rw [It.rns_len]; exact hlt)
          rw [It.rns_get t N i hlt] at this
          exact ⟨b, off, e1, this⟩
      obtain ⟨lb, lo, rfl, hci⟩ := hce
      have hlt2 : (i : Int) < (N : Int) := by omega
      have hkd := fun W => It.refkind_any (It.rn t i : Int) W
      have HS1 : Box (kp t (i + 1) = if uns (It.kd (It.rn t i : Int)) = true then kp t i else kp t i ++ [It.rn t i]) := boxed rfl
      generalize It.rn t i = r at *
      generalize hK : It.kd (r : Int) = K at *
      clear hK
      cases hu : uns K with
      | true =>
        have E := boxed (show kp t (i + 1) = kp t i by rw [HS1.out, if_pos hu])
        have h5 : K = 3 ∨ K = 4 ∨ K = 5 ∨ K = 7 ∨ K = 8 := by
          unfold uns at hu
          simp only [Bool.or_eq_true, beq_iff_eq] at hu
          omega
        clear hu HS1
        rcases h5 with rfl | rfl | rfl | rfl | rfl
        all_goals
          go_wp2_with fail
          refine (hkd _).mono ?_
          rintro e w2 ⟨rfl, hb2⟩
          have HB2 := boxed (below_step HB.out (Nat.le_refl _) hb2)
          have HO2 := boxed (It.owns_below HO.out hb2)
          clear hb2
          go_wp2_with fail
          go_roundw
          case rel => exact ⟨i + 1, ao, cp, by omega, by go_num, by rw [E.out], by rw [E.out]; exact HO2, HB2⟩
          case measure => simp [intOf]; omega
      | false =>
        have E := boxed (show kp t (i + 1) = kp t i ++ [r] by rw [HS1.out, if_neg (by rw [hu]; simp)])
        have h5 : ((K == 3) = false ∧ (K == 4) = false ∧ (K == 5) = false) ∧ (K == 7) = false ∧ (K == 8) = false := by
          unfold uns at hu
          simp only [Bool.or_eq_false_iff] at hu
          exact ⟨⟨hu.1.1.1.1, hu.1.1.1.2, hu.1.1.2⟩, hu.1.2, hu.2⟩
        obtain ⟨⟨f3, f4, f5⟩, f7, f8⟩ := h5
        clear hu HS1
        go_wp2_with fail
        refine (hkd _).mono ?_
        rintro e w2 ⟨rfl, hb2⟩
        have hB2 := below_step HB.out (Nat.le_refl _) hb2
        have hO2 := It.owns_below HO.out hb2
        have hci2 := hold hb2 hci
        have hsz2 : w1.heap.size ≤ w2.heap.size := hB2.size
        have HB2 := boxed hB2
        clear hb2 hB2 hci hkd
        generalize hl : (kp t i).length = L at *
        replace hl := boxed hl
        go_wp2_with (at_builtin; refine It.wpList_append_apart rfl _ _ 33 rfl w1.heap.size 3 j0 (.int .i64 0) 1 8 Tryz.underlying33 hj hy0 hy1 hy2 rfl (by decide) _ _ _ rfl (hO2.alloc _) ⟨w2.heap.size, 0, none⟩ 1 1 [.int .i64 (r : Int)] rfl rfl ?c1 ?c2 ?c3 ?c4 ?c5 ?c6 ?_)
        case c1 =>
          intro j u hj
          match j, hj with
          | 0, hj => simp at hj; subst hj; simp [Addr.add]
        case c2 => intro u hu; simp at hu; subst hu; rfl
        case c3 => unfold maxLen; omega
        case c4 => omega
        case c5 => simp; omega
        case c6 => omega
        intro v' w3 hown3 hgrow3 hwh3
        have HB3 : Box (Below w1.heap.size w1 w3) := boxed ((HB2.out.alloc hsz2 _).grown hgrow3 (by simp; omega) (fun k hk => (hO2.lt k hk).1))
        have h3 : w3.ownsRow w1.heap.size 3 1 v' (kp t (i + 1)).length (It.vals (kp t (i + 1))) := by
          rw [E.out, ← It.vals_snoc, List.length_append, hl.out]; exact hown3
        obtain ⟨ao3, cp3, rfl⟩ := own_shape h3
        have HO3 := boxed h3
        clear hown3 hgrow3 hwh3 h3 hO2
        go_wp2_with fail
        go_roundw
        case rel => exact ⟨i + 1, ao3, cp3, by omega, by go_num, rfl, HO3, HB3⟩
        case measure => simp [intOf]; omega
    · obtain rfl : N = i := by omega
      have HL0 := HB
      clear HB
      go_wp2
      go_loopw [8] (fun vn wx => ∃ m : Nat, ((ke t N).length ≤ m ∧ m ≤ (kp t N).length) ∧ vn = .int .i64 (m : Nat) ∧ Box (wx.ownsRow w1.heap.size 3 1 (.slice ao (kp t N).length cp) (kp t N).length (It.vals (kp t N))) ∧ Box (Below w1.heap.size w1 wx)) (fun vn _ => (intOf vn).toNat)
      case atStart => exact ⟨(kp t N).length, ⟨HKE.out N, Nat.le_refl _⟩, rfl, HO, HL0⟩
      case round =>
        obtain ⟨m, hm, rfl, HO, HB⟩ := hrel
        have HAT := boxed (fun h => ke_at t N m hm.1 hm.2 h)
        have hl2 := HKP.out N
        go_upto_region 14 with (fail)
        go_cut [56] (fun s56 wy => s56 = .bool (decide ((ke t N).length < m)) ∧ Box (wy.ownsRow w1.heap.size 3 1 (.slice ao (kp t N).length cp) (kp t N).length (It.vals (kp t N))) ∧ Box (Below w1.heap.size w1 wy))
        case first =>
          by_cases h0 : m = 0
          · subst h0
            go_wp2_with fail
            go_meet
            case rel => exact ⟨by simp, HO, HB⟩
          · obtain ⟨k, rfl⟩ : ∃ k, m = k + 1 := ⟨m - 1, by omega⟩
            have hiff := HAT.out (by omega)
            rw [Nat.add_sub_cancel] at hiff
            obtain ⟨-, ao', cp', e, hd⟩ := It.dg_of_owns HO.out
            injection e with e1 e2 e3
            subst e1; subst e3
            obtain ⟨-, hh⟩ := hd
            have hce : ∃ b off, ao = some ⟨b, off, none⟩ ∧ wr.cell? ⟨b, off + k, none⟩ = some (.int .i64 (((kp t N).getD k 0 : Nat) : Int)) := by
              rcases hh with hh | ⟨b, off, e1, -, hc⟩
              · rw [hh] at hm; simp at hm
              · exact ⟨b, off, e1, hc k (by omega)⟩
            clear hh
            obtain ⟨lb, lo, rfl, hci⟩ := hce
            have hkd := fun W => It.refkind_any (((kp t N).getD k 0 : Nat) : Int) W
            generalize (kp t N).getD k 0 = r at *
            have hk2 : (k : Int) < ((kp t N).length : Int) := by omega
            have hk3 : k < (kp t N).length := by omega
            have HIF := boxed hiff
            clear hiff HAT
            generalize It.kd (r : Int) = K at *
            generalize hL : (kp t N).length = L at *
            replace hL := boxed hL
            go_wp2_with fail
            refine (hkd _).mono ?_
            rintro e w2 ⟨rfl, hb2⟩
            have HB2 := boxed (below_step HB.out (Nat.le_refl _) hb2)
            have HO2 := boxed (It.owns_below HO.out hb2)
            clear hb2
            go_wp2_with fail
            go_meet
            case rel => exact ⟨by congr 1; rw [Bool.eq_iff_iff]; simp [HIF.out], HO2, HB2⟩
        case rest =>
          obtain ⟨rfl, HO, HB⟩ := hcut
          by_cases hlt : (ke t N).length < m
          · have t1 : decide ((ke t N).length < m) = true := decide_eq_true hlt
            rw [t1]
            go_wp2_with fail
            go_roundw
            case rel => exact ⟨m - 1, by omega, by rw [show ((m - 1 : Nat) : Int) = (m : Int) - 1 by omega], HO, HB⟩
            case measure => simp [intOf]; omega
          · have t1 : decide ((ke t N).length < m) = false := decide_eq_false hlt
            rw [t1]
            obtain rfl : (ke t N).length = m := by omega
            clear t1 hlt
            obtain ⟨-, ao', cp', e, hd⟩ := It.dg_of_owns HO.out
            injection e with e1 e2 e3
            subst e1; subst e3
            have HD := boxed hd
            have HGT := boxed (fun i h => ke_get t N i h)
            have HLE := boxed (kp_le t N)
            have HC5 : Box (wc.cell? ⟨w.heap.size, 5, none⟩ = some (.bool hy)) := boxed (hold HB.out HC1.out)
            have HB5 : Box (Below w.heap.size w wc) := boxed (below_step HB1.out (Nat.le_refl _) HB.out)
            have hsz5 : w.heap.size < wc.heap.size := by have := HB.out.size; omega
            have hk1 := HKE.out N
            have hk4 : ∀ i, (encs ((ke t N).take i)).length ≤ 4 * 2000 := fun i => by
              have := HEL.out ((ke t N).take i)
              have : ((ke t N).take i).length ≤ (ke t N).length := by simp; omega
              omega
            have HK4 := boxed hk4
            have HTK := boxed (fun i h => encs_take (ke t N) i h)
            have HLT := boxed (encs_lt (ke t N))
            have HTA : Box ((ke t N).take (ke t N).length = ke t N) := boxed (List.take_length ..)
            clear HAT hd hk4
            have HMx : Box (∀ i, i < (ke t N).length → (ke t N).getD i 0 ≤ 1114111) := boxed (fun i h => by
              rw [← HGT.out i h]
              have h2 : i < (kp t N).length := by omega
              exact HLE.out _ (by rw [List.getD_eq_getElem?_getD, List.getElem?_eq_getElem h2]; exact List.getElem_mem h2))
            have HKL : Box ((ke t N).length ≤ (kp t N).length) := boxed hk1
            generalize hKE : ke t N = KE at *
            replace hKE := boxed hKE
            generalize hEL : KE.length = EL at *
            replace hEL := boxed hEL
            generalize hKPL : (kp t N).length = PL at *
            replace hKPL := boxed hKPL
            go_wp2_with fail
            go_loopw [9, 10, 11, 12] (fun vo vi _ _ wz => ∃ (i : Nat) (oo : Option Addr) (oc : Nat), i ≤ EL ∧ vi = .int .i64 (i : Nat) ∧ vo = .slice oo (encs (KE.take i)).length oc ∧ Box (wz.ownsRow wc.heap.size 5 1 (.slice oo (encs (KE.take i)).length oc) (encs (KE.take i)).length (bvals (encs (KE.take i)))) ∧ Box (Below wc.heap.size wc wz)) (fun _ vi _ _ _ => EL - (intOf vi).toNat)
            case atStart => exact ⟨0, none, 0, Nat.zero_le _, rfl, by simp [encs], boxed (by simp only [List.take_zero]; exact World.ownsRow_nil _ _ _ _), boxed (Below.refl _ _)⟩
            case round =>
              obtain ⟨i, oo, oc, hin, rfl, rfl, HO6, HB6⟩ := hrel
              by_cases hlt : i < EL
              · have hce : ∃ b off, ao = some ⟨b, off, none⟩ ∧ wr.cell? ⟨b, off + i, none⟩ = some (.int .i64 ((KE.getD i 0 : Nat) : Int)) := by
                  obtain ⟨-, hh⟩ := HD.out.below HB6.out
                  rcases hh with hh | ⟨b, off, e1, -, hc⟩
                  · have := hKPL.out
                    rw [hh] at this
                    simp at this
                    omega
                  · have := hc i (by rw [hKPL.out]; omega)
                    rw [HGT.out i hlt] at this
                    exact ⟨b, off, e1, this⟩
                obtain ⟨lb, lo, rfl, hci⟩ := hce
                have hr := HMx.out i hlt
                have hl6 := HK4.out i
                have HN6 := boxed (HTK.out i hlt)
                have hby := fun W => It.bytesn_any (KE.getD i 0) W (by omega)
                have hbl := byts_len4 (KE.getD i 0)
                have HBL := boxed (byts_lt (KE.getD i 0))
                have hi2 : (i : Int) < (PL : Int) := by have := HKL.out; omega
                have hi3 : i < PL := by have := HKL.out; omega
                generalize KE.getD i 0 = r at *
                generalize hP : encs (KE.take i) = P at *
                replace hP := boxed hP
                generalize hY : It.byts r = Y at *
                clear hY
                generalize hYL : Y.length = YL at *
                replace hYL := boxed hYL
                go_wp2_with fail
                refine (hby _).mono ?_
                rintro e w7 ⟨bo, bc, rfl, hd7, hn7, hb7⟩
                have HBS : Box (Bs w7 bo (.slice oo P.length oc) Y) := boxed (by
                  intro j hj
                  rcases hd7.2 with hh | ⟨b, off, e1, -, hc⟩
                  · rw [hh] at hj; simp at hj
                  · refine ⟨b, off, e1, ?_, hc j hj⟩
                    intro c
                    have h1 := (HO6.out.lt b c).2
                    have h2 := hn7 _ e1
                    simp only at h2
                    omega)
                have HO7 := boxed (It.owns_below HO6.out hb7)
                have HB7 := boxed (below_step HB6.out (Nat.le_refl _) hb7)
                clear hd7 hn7 hb7 hby hci
                go_wp2_with fail
                go_loopw [9, 12] (fun vo vk wz => ∃ (j : Nat) (oo : Option Addr) (oc : Nat), j ≤ YL ∧ vk = .int .i64 (j : Nat) ∧ vo = .slice oo (P ++ Y.take j).length oc ∧ Box (wz.ownsRow wc.heap.size 5 1 (.slice oo (P ++ Y.take j).length oc) (P ++ Y.take j).length (bvals (P ++ Y.take j))) ∧ Box (Bs wz bo (.slice oo (P ++ Y.take j).length oc) Y) ∧ Box (Below wc.heap.size wc wz)) (fun _ vk _ => YL - (intOf vk).toNat)
                case atStart => exact ⟨0, oo, oc, Nat.zero_le _, rfl, by simp, by simpa using HO7, by simpa using HBS, HB7⟩
                case round =>
                  obtain ⟨j, oo, oc, hjn, rfl, rfl, HO8, HBS8, HB8⟩ := hrel
                  by_cases hlt2 : j < YL
                  · obtain ⟨b, off, rfl, hne, hcj⟩ := HBS8.out j (by rw [hYL.out]; exact hlt2)
                    have hd := HBL.out (Y.getD j 0) (by
                      have h2 : j < Y.length := by rw [hYL.out]; exact hlt2
                      rw [List.getD_eq_getElem?_getD, List.getElem?_eq_getElem h2]; exact List.getElem_mem h2)
                    have HT8 := boxed (take_one Y j (by rw [hYL.out]; exact hlt2))
                    generalize Y.getD j 0 = d at *
                    have hpl : (P ++ Y.take j).length ≤ 8004 := by
                      have : (Y.take j).length ≤ Y.length := by simp; omega
                      have := hYL.out
                      rw [List.length_append]; omega
                    have hsz8 : wc.heap.size ≤ wr.heap.size := HB8.out.size
                    have hj2 : (j : Int) < (YL : Int) := by omega
                    have hO8 := HO8.out
                    clear hne
                    generalize hM : (P ++ Y.take j).length = M at *
                    replace hM := boxed hM
                    go_wp2_with (at_builtin; refine It.wpList_append_apart rfl _ _ 132 rfl wc.heap.size 5 i0 (.int .u8 0) 1 1 Tryz.underlying132 hi hz0 hz1 hz2 rfl (by decide) _ _ _ rfl (hO8.alloc _) ⟨wr.heap.size, 0, none⟩ 1 1 [.int .u8 (d : Int)] rfl rfl ?c1 ?c2 ?c3 ?c4 ?c5 ?c6 ?_)
                    case c1 =>
                      intro j u hj
                      match j, hj with
                      | 0, hj => simp at hj; subst hj; simp [Addr.add]
                    case c2 => intro u hu; simp at hu; subst hu; rfl
                    case c3 => unfold maxLen; omega
                    case c4 => omega
                    case c5 => simp; omega
                    case c6 => omega
                    intro v' w9 hown9 hgrow9 hwh9
                    have HB9 : Box (Below wc.heap.size wc w9) := boxed ((HB8.out.alloc hsz8 _).grown hgrow9 (by simp; omega) (fun k hk => (hO8.lt k hk).1))
                    have HBS9 : Box (Bs w9 (some ⟨b, off, none⟩) v' Y) := boxed (HBS8.out.next hgrow9 hwh9)
                    have h9 : w9.ownsRow wc.heap.size 5 1 v' (P ++ Y.take (j + 1)).length (bvals (P ++ Y.take (j + 1))) := by
                      rw [HT8.out, ← List.append_assoc, ← bvals_app, List.length_append, hM.out]; exact hown9
                    obtain ⟨oo9, oc9, rfl⟩ := own_shape h9
                    have HO9 := boxed h9
                    clear hown9 hgrow9 hwh9 h9 hO8
                    go_wp2_with fail
                    go_roundw
                    case rel => exact ⟨j + 1, oo9, oc9, by omega, by go_num, rfl, HO9, HBS9, HB9⟩
                    case measure => simp [intOf]; omega
                  · obtain rfl : YL = j := by omega
                    have E9 : Box (P ++ Y.take YL = encs (KE.take (i + 1))) := boxed (by
                      rw [HN6.out, ← hYL.out, List.take_length])
                    rw [E9.out] at HO8 ⊢
                    go_wp2_with fail
                    go_roundw
                    case rel => exact ⟨i + 1, oo, oc, by omega, by go_num, rfl, HO8, HB8⟩
                    case measure => simp [intOf]; omega
              · obtain rfl : EL = i := by omega
                have HEE : Box (encs (KE.take EL) = encs KE) := boxed (by rw [← hEL.out, List.take_length])
                rw [HEE.out] at HO6 ⊢
                have c5 := hold HB6.out HC5.out
                have hel := HK4.out EL
                rw [HEE.out] at hel
                have hsz6 : wc.heap.size ≤ wr.heap.size := HB6.out.size
                have HBF : Box (Below w.heap.size w wr) := boxed (below_step HB5.out (Nat.le_refl _) HB6.out)
                generalize hE : encs KE = E at *
                replace hE := boxed hE
                cases hy with
                | false =>
                  have hcv := conv_own HO6.out HLT.out
                  go_wp2
                  go_ret
                  exact ⟨by simp [hKE.out, hE.out], HBF.out⟩
                | true =>
                  obtain ⟨el, hel2⟩ : ∃ el, E.length = el := ⟨_, rfl⟩
                  rw [hel2] at HO6 hel
                  rw [hel2]
                  go_wp2_with (at_builtin; refine It.wpList_append_apart rfl _ _ 132 rfl wc.heap.size 5 i0 (.int .u8 0) 1 1 Tryz.underlying132 hi hz0 hz1 hz2 rfl (by decide) _ _ _ rfl (HO6.out.alloc _) ⟨wr.heap.size, 0, none⟩ 1 1 [.int .u8 45] rfl rfl ?c1 ?c2 ?c3 ?c4 ?c5 ?c6 ?_)
                  case c1 =>
                    intro j u hj
                    match j, hj with
                    | 0, hj => simp at hj; subst hj; simp [Addr.add]
                  case c2 => intro u hu; simp at hu; subst hu; rfl
                  case c3 => unfold maxLen; omega
                  case c4 => omega
                  case c5 => simp; omega
                  case c6 => omega
                  intro v' w2 hown2 hgrow2 hwh2
                  have HB2 : Box (Below w.heap.size w w2) := boxed ((HBF.out.alloc (by omega) _).grown hgrow2 (by simp; omega) (fun k hk => by have := (HO6.out.lt k hk).1; omega))
                  have h3 : w2.ownsRow wc.heap.size 5 1 v' (E ++ [45]).length (bvals (E ++ [45])) := by
                    rw [← bvals_app, List.length_append, hel2]; exact hown2
                  obtain ⟨ao3, cp3, rfl⟩ := own_shape h3
                  have hcv := conv_own h3 (by intro d hd; simp only [List.mem_append, List.mem_singleton] at hd; rcases hd with hd | hd; exact HLT.out d hd; omega)
                  clear hown2 hgrow2 hwh2 h3
                  generalize (E ++ [45]).length = L3 at *
                  go_wp2
                  go_ret
                  exact ⟨by simp [hKE.out, hE.out], HB2.out⟩
end Go.Proofs.YtcjcdpfjnomehaaGreat
