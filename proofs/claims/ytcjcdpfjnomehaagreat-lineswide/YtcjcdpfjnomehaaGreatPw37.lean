/-
  What the document's Build answers: the first fault, or the items of the text.
-/
import Derived.Deep.RegionWith
import Derived.Deep.DeepCutAuto
import Derived.Laws.OwnMore
import Derived.Test.YtcjcdpfjnomehaaGreatPw19
namespace Go.Proofs.YtcjcdpfjnomehaaGreat.It
open Go.RowKit
set_option linter.unusedSimpArgs false
set_option linter.unusedVariables false
def wo (p : List Itm × Int) : Int := if lbox p.1 = true then p.2 else -1
theorem wo_snoc (L : List Itm) (x : Itm) (sy : Int) : wo (L ++ [x], sy) = if (x.k == 1) = true then sy else -1 := by
  unfold wo
  simp only [lbox_snoc]
theorem own_alike {w w' : World} {B e size n : Nat} {v : Value} {xs : List Value} (h : w.ownsRow B e size v n xs) (h1 : w'.heap = w.heap) (h2 : w'.os = w.os) (h3 : w'.tape = w.tape) (h4 : w'.output = w.output) : w'.ownsRow B e size v n xs := by
  have hg : w.grownBy w' none := ⟨h2, h3, h4, by rw [h1]; exact Nat.le_refl _, fun k hk _ => by rw [h1]⟩
  exact h.kept hg (by cases hv : v.ownBlock <;> simp)
theorem below_alike {B : Nat} {w0 w w' : World} (h : Below B w0 w) (h1 : w'.heap = w.heap) (h2 : w'.os = w.os) (h3 : w'.tape = w.tape) (h4 : w'.output = w.output) : Below B w0 w' :=
  ⟨h2.trans h.os, h3.trans h.tape, h4.trans h.output, by rw [h1]; exact h.size, fun k hk => by rw [h1]; exact h.block k hk⟩
theorem wo_grow (A : List Itm) (x : Itm) (W t y : Int) (hx : x.k = 1) : wo (grow (A ++ [x]) W t, y) = y := by
  rw [grow_snoc, wo_snoc]; simp [hx]
theorem heap_alloc_at (w : World) (o : Obj) (k : Nat) (h : w.heap.size = k) : (w.alloc o).heap[k]? = some o := by subst h; exact heap_alloc_new _ _
theorem heap_second (w : World) (A B : Obj) : ((w.alloc A).alloc B).heap[w.heap.size + 1]? = some B := by
  have := heap_alloc_new (w.alloc A) B
  rw [World.size_alloc] at this
  exact this
set_option maxRecDepth 100000 in
set_option maxHeartbeats 80000000 in
theorem refbuild_any (S : Nat → Prop) (so : Option Addr) (n sc : Nat) (F : Nat → Sty) (w : World) (hF : StysAt S w so n F) (hn : n ≤ maxLen) (t : ByteArray) (N : Nat) (hN : Cnt t N) (hs : t.size ≤ 65536) (ao : Option Addr) (m cap : Nat) (Ln Ys : Nat → Int) (hr : RunsAt w ao m Ln Ys) (hm : m ≤ maxLen) :
    Calls Tryz.prog 13 #[.slice so n sc, .string t, .slice ao m cap] w fun e w' =>
      ((ck t N n m Ln Ys ≠ 0 ∧ e = .returned (.tuple #[.slice none 0 0, .int .i64 (ck t N n m Ln Ys)])) ∨
       (ck t N n m Ln Ys = 0 ∧ ∃ ao' cap', e = .returned (.tuple #[.slice ao' (fin F n t (fun a => sta Ln Ys m 0 (a : Nat)) N).length cap', .int .i64 0]) ∧ w'.ownsRow w.heap.size 80 9 (.slice ao' (fin F n t (fun a => sta Ln Ys m 0 (a : Nat)) N).length cap') (fin F n t (fun a => sta Ln Ys m 0 (a : Nat)) N).length (ics (fin F n t (fun a => sta Ln Ys m 0 (a : Nat)) N)))) ∧ Below w.heap.size w w' := by
  have hck := refcheck7_any so n sc w hn t N hN (by omega) ao m cap Ln Ys hr hm
  by_cases hz : ck t N n m Ln Ys = 0
  rotate_left
  · have HZ := boxed hz
    have tz : (ck t N n m Ln Ys != 0) = true := by simpa using hz
    clear hz
    generalize ck t N n m Ln Ys = C at *
    generalize fin F n t (fun a => sta Ln Ys m 0 (a : Nat)) N = FL at *
    clear hF hr hN
    go_enter Tryz.func13, Tryz.ntmps13
    go_wp2_with fail
    refine hck.mono ?_
    rintro e w1 ⟨rfl, hb1⟩
    have HB1 := boxed hb1
    clear hb1 hck
    go_wp2
    go_ret2
    exact ⟨Or.inl ⟨HZ.out, rfl⟩, HB1.out⟩
  obtain ⟨hR, h0, hea, hcrs, hpm⟩ := ck_zero hN hz
  rw [hz] at hck ⊢
  have HRT := boxed hR
  have HCR := boxed hcrs
  have HPM := boxed hpm
  have HEA := boxed hea
  have hNs : N ≤ t.size := by have h1 := cnt_le t N hN; have h2 := it_le t N; omega
  have hln : ∀ j, j < m → 0 ≤ Ln j := fun j hj => (cr_zero (crs_each t N n Ln Ys m hcrs j hj)).1
  have HSA := boxed (fun w' (hb : Below w.heap.size w w') (a : Nat) (ha : a ≤ 65536) => styleAt_any ao m cap Ln Ys w' (hr.below hb) hm hln (a : Nat) (by omega))
  have HWD := boxed (fun w' (hb : Below w.heap.size w w') y r => refwidth_any S so n sc F w' (hF.below hb) y r)
  have HOF := boxed (fun w' (hb : Below w.heap.size w w') y => refof_any S so n sc F w' (hF.below hb) y)
  have HRU := boxed (fun w' => runes_any t w' (by omega) N hN)
  obtain ⟨Y, hY⟩ : ∃ Y : Nat → Int, (fun a : Nat => sta Ln Ys m 0 (a : Nat)) = Y := ⟨_, rfl⟩
  have hYY : ∀ a : Nat, sta Ln Ys m 0 (a : Nat) = Y a := fun a => by rw [← hY]
  simp only [hYY] at HSA
  rw [hY]
  have HY0 : Box (∀ i, i < N → 0 ≤ Y (it t i)) := boxed (fun i hi => by
    have h1 := it_mono t N hR.1.1 i N hi (Nat.le_refl _)
    rw [hR.2] at h1
    obtain ⟨j, hj, h3, h4⟩ := run_of Ln m (it t i : Nat) (by omega) (by rw [hpm]; omega)
    have := sta_at Ln Ys m j (it t i : Nat) hln hj h3 h4 0 (by omega)
    rw [← hYY]
    have e : sta Ln Ys m 0 ((it t i : Nat) : Int) = Ys j := by simpa [pre] using this
    rw [e]
    exact (cr_zero (crs_each t N n Ln Ys m hcrs j hj)).2.2.1.1)
  clear hY hYY hF hr hN hR hcrs hpm hln hz hea
  go_enter Tryz.func13, Tryz.ntmps13
  go_wp2_with fail
  refine hck.mono ?_
  rintro e w1 ⟨rfl, hb1⟩
  have HB1 := boxed hb1
  clear hb1 hck
  go_wp2_with fail
  refine (HRU.out _).mono ?_
  rintro e w2 ⟨p1, c1, p2, c2, rfl, hd1, hd2, hb2⟩
  have HD1 := boxed hd1
  have HD2 := boxed hd2
  have HB2 := boxed (below_step HB1.out (Nat.le_refl _) hb2)
  clear hd1 hd2 hb2 HRU
  generalize badAt t N = BA at *
  go_wp2
  have hsz2 := HB2.out.size
  go_loopw [12, 13, 14] (fun ov wv iv wr => ∃ k : Nat, k ≤ N ∧ iv = .int .i64 (k : Int) ∧ wv = .int .i64 (wo (bs F n t Y k)) ∧ Box (wr.ownsRow w2.heap.size 80 9 ov (bs F n t Y k).1.length (ics (bs F n t Y k).1)) ∧ Box (Below w2.heap.size w2 wr) ∧ Box (∀ j, j < k → rn t j ≠ 10)) (fun _ _ iv _ => N - (intOf iv).toNat)
  case atStart => exact ⟨0, Nat.zero_le _, rfl, rfl, boxed (World.ownsRow_nil _ _ _ _), boxed (Below.refl _ _), boxed (fun j hj => by omega)⟩
  case round =>
    obtain ⟨k, hk, rfl, rfl, HO, HB, HN10⟩ := hrel
    unfold maxLen at hn hm
    have hlen : (bs F n t Y k).1.length ≤ 131072 := by have := bs_len F n t Y k; omega
    by_cases hlt : k < N
    · obtain ⟨⟨-, -⟩, hx | ⟨b1, off1, e1, -, hcell1⟩⟩ := HD1.out.below HB.out
      · exfalso; have := rns_len t N; rw [hx] at this; simp at this; omega
      obtain ⟨⟨-, -⟩, hx | ⟨b2, off2, e2, -, hcell2⟩⟩ := HD2.out.below HB.out
      · exfalso; have := its_len t N; rw [hx] at this; simp at this; omega
      subst e1; subst e2
      have cr := hcell1 k (by rw [rns_len]; exact hlt)
      rw [rns_get t N k hlt] at cr
      have cf := hcell2 k (by rw [its_len]; exact hlt)
      rw [its_get t N k hlt] at cf
      have HCT : Box (k + 1 < N → wr.cell? ⟨b2, off2 + (k + 1), none⟩ = some (.int .i64 (it t (k + 1) : Nat))) := boxed (fun h => by
        have := hcell2 (k + 1) (by rw [its_len]; exact h)
        rw [its_get t N (k + 1) h] at this
        exact this)
      have HTB : Box (k + 1 = N → it t (k + 1) = t.size) := boxed (fun h => by rw [h]; exact HRT.out.2)
      clear hcell1 hcell2
      have hfl := it_le t k
      have hTl := it_le t (k + 1)
      have hrl := rn_le t k
      have hsa := HSA.out _ (below_step HB2.out (Nat.le_refl _) HB.out) (it t k) (by omega)
      have hy0 := HY0.out k hlt
      have HBN : Box (bs F n t Y (k + 1) = nx (ofS F n (Y (it t k))) (bs F n t Y k).1 (bs F n t Y k).2 (rn t k : Nat) (Y (it t k)) (it t k : Nat) (it t (k + 1) : Nat)) := boxed rfl
      have HW0 : Box (wo (bs F n t Y k) = if lbox (bs F n t Y k).1 = true then (bs F n t Y k).2 else -1) := boxed rfl
      have HN8' : Box (kd (rn t k : Nat) ≠ 8 → ∀ j, j < k + 1 → rn t j ≠ 10) := boxed (fun h j hj => by
        by_cases d : j = k
        · subst d; intro c; exact h ((kd_8 _).2 (by omega))
        · exact HN10.out j (by omega))
      have HL8 : Box (kd (rn t k : Nat) = 8 → k + 1 = N ∧ bt t (t.size - 1) = 10) := boxed (fun h => nl_last t N k HRT.out HEA.out hlt (by have := (kd_8 _).1 h; omega))
      have HFN : Box (k + 1 = N ∧ bt t (t.size - 1) = 10 → fin F n t Y N = (bs F n t Y (k + 1)).1) := boxed (fun h => by unfold fin; rw [if_pos h.2, h.1])
      generalize bs F n t Y k = P at *
      obtain ⟨L, sy⟩ := P
      simp only at *
      obtain ⟨oa, oc, eo⟩ := own_shape HO.out
      obtain ⟨ll, hll⟩ : ∃ ll, L.length = ll := ⟨_, rfl⟩
      rw [hll] at eo
      subst eo
      have HLL := boxed hll
      have hll2 : ll ≤ 131072 := by omega
      clear hll
      generalize hf : it t k = f at *
      replace hf := boxed hf
      generalize hr : rn t k = r at *
      replace hr := boxed hr
      generalize Y f = y at *
      have hwd := fun w' (hb : Below w.heap.size w w') => HWD.out w' hb y (r : Nat)
      have HOF4 := boxed (fun w' (hb : Below w2.heap.size w2 w') => HOF.out w' (below_step HB2.out (Nat.le_refl _) hb) y)
      have hkd := fun w => refkind_any (r : Nat) w
      have h9 := kd_nine (r : Nat)
      have HNXd : Box (∀ g : Int, nx (ofS F n y) L sy (r : Nat) y (f : Nat) g = if kd (r : Nat) = 1 then (L ++ [glI (ofS F n y).sp (ofS F n y).st (ofS F n y).sh (f : Nat) g], sy)
          else if kd (r : Nat) = 3 then (L ++ [pnI (ofS F n y).hy 50 true (f : Nat) g], sy)
          else if kd (r : Nat) = 4 then (L ++ [pnI 0 0 false (f : Nat) g], sy)
          else if kd (r : Nat) = 5 then (L ++ [pnI 0 10000 false (f : Nat) g], sy)
          else if kd (r : Nat) = 7 ∨ kd (r : Nat) = 8 then (L ++ [flI (f : Nat), pnI 0 (-10000) false (f : Nat) g], sy)
          else if kd (r : Nat) = 6 then (bxd L sy (wdS (ofS F n y) (r : Nat)) y (f : Nat) g ++ [pnI 0 50 true g g], y)
          else (bxd L sy (wdS (ofS F n y) (r : Nat)) y (f : Nat) g, y)) := boxed (fun g => rfl)
      rw [HNXd.out] at HBN
      clear HNXd
      simp only [Sty.val] at HOF4
      generalize wdS (ofS F n y) ((r : Nat) : Int) = WD at *
      generalize ofS F n y = s at *
      generalize kd ((r : Nat) : Int) = K at *
      have t3 : decide ((k : Int) < (N : Int)) = true := decide_eq_true (by omega)
      generalize it t (k + 1) = T at *
      go_upto_if 51 with (fail)
      go_cut [16] (fun s16 wx => s16 = .int .i64 (T : Nat) ∧ wr = wx)
      case first =>
        by_cases hk1 : k + 1 < N
        · have cT := HCT.out hk1
          have t5 : decide ((k : Int) + 1 < (N : Int)) = true := decide_eq_true (by omega)
          have hk1I : (k : Int) + 1 < (N : Int) := by omega
          go_wp2
          go_meet
          case rel => exact ⟨rfl, rfl⟩
        · have hT := HTB.out (by omega)
          have t5 : decide ((k : Int) + 1 < (N : Int)) = false := decide_eq_false (by omega)
          have HTT := boxed hT
          clear hT
          go_wp2
          go_meet
          case rel => exact ⟨by rw [HTT.out], rfl⟩
      case rest =>
        obtain ⟨hs16, hwc⟩ := hcut
        subst hs16
        subst hwc
        clear HCT HTB cf
        go_wp2_with fail
        refine hsa.mono ?_
        rintro e w' ⟨rfl, hw'⟩; subst w'
        clear hsa
        go_wp2_with fail
        refine (hwd _ (below_step HB2.out (Nat.le_refl _) HB.out)).mono ?_
        rintro e w3 ⟨rfl, hb3⟩
        have HB3 := boxed (HB.out.trans (hb3.mono HB.out.size))
        have HO3 := boxed (owns_below HO.out hb3)
        have cr3 := hold hb3 cr
        clear hwd hb3 cr
        go_wp2_with fail
        refine (hkd _).mono ?_
        rintro e w4 ⟨rfl, hb4⟩
        have HB4 := boxed (HB3.out.trans (hb4.mono HB3.out.size))
        have HO4 := boxed (owns_below HO3.out hb4)
        have hz4 := HB4.out.size
        clear hkd hb4 cr3 HB3 HO3
        rcases h9 with e | e | e | e | e | e | e | e | e
        · subst e
          have HNX : Box (bs F n t Y (k + 1) = (L ++ [glI s.sp s.st s.sh (f : Nat) (T : Nat)], sy)) := boxed (by rw [HBN.out]; rfl)
          have HN8 := boxed (HN8'.out (by omega))
          clear HN8' HBN
          go_wp2_with fail
          refine (HOF4.out _ HB4.out).mono ?_
          rintro e w5 ⟨rfl, hb5⟩
          have HB5 := boxed (HB4.out.trans (hb5.mono HB4.out.size))
          have hown5 := owns_below HO4.out hb5
          have hz5 := HB5.out.size
          clear hb5 HO4
          go_wp2_with (at_builtin; refine wpList_append_items rfl _ _ rfl w2.heap.size _ L rfl ((hown5.alloc _).alloc _) [glI s.sp s.st s.sh (f : Nat) (T : Nat)] _ 1 1 rfl rfl _ (heap_second _ _ _) rfl (by omega) (by decide) ?c2 ?_)
          case c2 => simp; omega
          intro v9 w9 hown9 hb9
          have HO9 := boxed hown9
          have HB9 := boxed ((((HB5.out.alloc hz5 _).alloc (by simp; omega) _)).trans hb9)
          clear hown9 hb9 hown5
          go_wp2
          go_roundw
          case rel =>
            refine ⟨k + 1, by omega, by go_num, ?_, ?_, HB9, HN8⟩
            · rw [HNX.out, wo_snoc]; rfl
            · rw [HNX.out]; exact boxed (by simpa using HO9.out)
          case measure => simp [intOf]; omega
        · subst e
          have HN8 := boxed (HN8'.out (by omega))
          have HNB : Box (bs F n t Y (k + 1) = (bxd L sy WD y (f : Nat) (T : Nat), y)) := boxed (by rw [HBN.out]; rfl)
          clear HN8' HBN
          by_cases hc : lbox L = true ∧ sy = y
          · have hB : bxd L sy WD y (f : Nat) (T : Nat) = grow L WD (T : Nat) := by unfold bxd; rw [if_pos hc]
            rw [hB] at HNB
            clear hB
            obtain ⟨hc1, hc2⟩ := hc
            subst hc2
            have tw : (wo (L, sy) == sy) = true := by rw [HW0.out, if_pos hc1]; simp
            obtain ⟨A, x, hAx, hxk⟩ := lbox_pos L hc1
            clear hc1
            subst hAx
            obtain ⟨q, hq⟩ : ∃ q, A.length = q := ⟨_, rfl⟩
            have hlq : ll = q + 1 := by have := HLL.out; simp at this; omega
            have hown4 := HO4.out
            rw [HLL.out] at hown4
            rcases ownsRow_forms hown4 with ⟨_, h2⟩ | ⟨g, cp, eg⟩
            · omega
            injection eg with eg1 eg2 eg3
            subst eg1; subst eg3
            have key : ∀ i, i < 9 → w4.cell? ⟨g, q * 9 + i, none⟩ = (x.cells)[i]? := by
              intro i hi
              have := hown4.cellAt (q * 9 + i) (by omega)
              rw [ics_get (A ++ [x]) q i (by simp; omega) hi] at this
              have hx : (A ++ [x]).getD q Itm.zero = x := by rw [← hq]; simp
              rw [hx] at this
              exact this
            have c1 : w4.cell? ⟨g, q * 9 + 1, none⟩ = some (.int .i64 x.w) := key 1 (by omega)
            have c8 : w4.cell? ⟨g, q * 9 + 8, none⟩ = some (.int .i64 x.to) := key 8 (by omega)
            have y1 := hown4.frozenAt (q * 9 + 1)
            have y8 := hown4.frozenAt (q * 9 + 8)
            have e6 : (ll : Int) - 1 = (q : Nat) := by omega
            have hq1 : q < ll := by omega
            have hq2 : (q : Int) < (ll : Int) := by omega
            have hq0 : (0 : Int) ≤ (q : Nat) := by omega
            have HF : Box ((((w4.setCell ⟨g, q * 9 + 1, none⟩ (.int .i64 (ad x.w WD))).setCell ⟨g, q * 9 + 8, none⟩ (.int .i64 (T : Nat))).ownsRow w2.heap.size 80 9 (.slice (some ⟨g, 0, none⟩) ll oc) (grow (A ++ [x]) WD (T : Nat)).length (ics (grow (A ++ [x]) WD (T : Nat)))) ∧ Below w2.heap.size w2 ((w4.setCell ⟨g, q * 9 + 1, none⟩ (.int .i64 (ad x.w WD))).setCell ⟨g, q * 9 + 8, none⟩ (.int .i64 (T : Nat)))) := boxed (by
              have o2 := (hown4.stored (q * 9 + 1) (.int .i64 (ad x.w WD))).1
              have o3 := (o2.stored (q * 9 + 8) (.int .i64 (T : Nat))).1
              have hg0 := (hown4.lt g rfl).1
              have e := ics_grow A x WD (T : Nat)
              rw [hq] at e
              rw [e] at o3
              refine ⟨?_, ?_⟩
              · rw [grow_len, HLL.out]
                exact o3
              · have b2 := HB4.out.grown (grown_set w4 g (q * 9 + 1) (.int .i64 (ad x.w WD))) HB4.out.size (fun r hr => by injection hr with hr; omega)
                exact b2.grown (grown_set _ g (q * 9 + 8) (.int .i64 (T : Nat))) b2.size (fun r hr => by injection hr with hr; omega))
            have hadd := fun w => refadd_any x.w WD w
            have HWG := boxed (wo_grow A x WD (T : Nat) sy hxk)
            have hgl : (grow (A ++ [x]) WD (T : Nat)).length = ll := by rw [grow_len]; exact HLL.out
            obtain ⟨GL, hGL⟩ : ∃ GL, grow (A ++ [x]) WD (T : Nat) = GL := ⟨_, rfl⟩
            rw [hGL] at HF HWG HNB hgl
            have HGL := boxed hgl
            clear key hown4 HO4 hq hlq hGL hgl hlen
            go_wp2_with fail
            refine (hadd _).mono ?_
            rintro e w5 ⟨rfl, hw5⟩; subst w5
            go_wp2
            go_roundw
            case rel =>
              refine ⟨k + 1, by omega, by go_num, ?_, ?_, boxed (below_alike HF.out.2 rfl rfl rfl rfl), HN8⟩
              · rw [HNB.out, HWG.out]
              · rw [HNB.out]; exact boxed (own_alike HF.out.1 rfl rfl rfl rfl)
            case measure => simp [intOf]; omega
          · have hB : bxd L sy WD y (f : Nat) (T : Nat) = L ++ [bxI WD (f : Nat) (T : Nat)] := by unfold bxd; rw [if_neg hc]
            rw [hB] at HNB
            have tw : (wo (L, sy) == y) = false := by
              rw [HW0.out, beq_eq_false_iff_ne]
              split
              · rename_i c1; intro c2; exact hc ⟨c1, c2⟩
              · omega
            clear hB hc
            have hown4 := HO4.out
            clear HO4
            go_wp2_with (at_builtin; refine wpList_append_items rfl _ _ rfl w2.heap.size _ L rfl (hown4.alloc _) [bxI WD (f : Nat) (T : Nat)] _ 1 1 rfl rfl _ (heap_alloc_new _ _) rfl (by omega) (by decide) ?c2 ?_)
            case c2 => simp; omega
            intro v8 w8 hown8 hb8
            have HB8 := boxed ((HB4.out.alloc hz4 _).trans hb8)
            have hz8 := HB8.out.size
            clear hb8 hown4
            go_wp2
            go_roundw
            case rel =>
              refine ⟨k + 1, by omega, by go_num, ?_, ?_, HB8, HN8⟩
              · rw [HNB.out, wo_snoc]; rfl
              · rw [HNB.out]; exact boxed (by simpa using hown8)
            case measure => simp [intOf]; omega
        · subst e
          have HNX : Box (bs F n t Y (k + 1) = (L ++ [pnI s.hy 50 true (f : Nat) (T : Nat)], sy)) := boxed (by rw [HBN.out]; rfl)
          have HN8 := boxed (HN8'.out (by omega))
          clear HN8' HBN
          go_wp2_with fail
          refine (HOF4.out _ HB4.out).mono ?_
          rintro e w5 ⟨rfl, hb5⟩
          have HB5 := boxed (HB4.out.trans (hb5.mono HB4.out.size))
          have hown5 := owns_below HO4.out hb5
          have hz5 := HB5.out.size
          clear hb5 HO4
          go_wp2_with (at_builtin; refine wpList_append_items rfl _ _ rfl w2.heap.size _ L rfl ((hown5.alloc _).alloc _) [pnI s.hy 50 true (f : Nat) (T : Nat)] _ 1 1 rfl rfl _ (heap_second _ _ _) rfl (by omega) (by decide) ?c2 ?_)
          case c2 => simp; omega
          intro v9 w9 hown9 hb9
          have HO9 := boxed hown9
          have HB9 := boxed ((((HB5.out.alloc hz5 _).alloc (by simp; omega) _)).trans hb9)
          clear hown9 hb9 hown5
          go_wp2
          go_roundw
          case rel =>
            refine ⟨k + 1, by omega, by go_num, ?_, ?_, HB9, HN8⟩
            · rw [HNX.out, wo_snoc]; rfl
            · rw [HNX.out]; exact boxed (by simpa using HO9.out)
          case measure => simp [intOf]; omega
        · subst e
          have HNX : Box (bs F n t Y (k + 1) = (L ++ [pnI 0 0 false (f : Nat) (T : Nat)], sy)) := boxed (by rw [HBN.out]; rfl)
          have HN8 := boxed (HN8'.out (by omega))
          clear HN8' HBN
          go_wp2_with fail
          refine (HOF4.out _ HB4.out).mono ?_
          rintro e w5 ⟨rfl, hb5⟩
          have HB5 := boxed (HB4.out.trans (hb5.mono HB4.out.size))
          have hown5 := owns_below HO4.out hb5
          have hz5 := HB5.out.size
          clear hb5 HO4
          go_wp2_with (at_builtin; refine wpList_append_items rfl _ _ rfl w2.heap.size _ L rfl ((hown5.alloc _).alloc _) [pnI 0 0 false (f : Nat) (T : Nat)] _ 1 1 rfl rfl _ (heap_second _ _ _) rfl (by omega) (by decide) ?c2 ?_)
          case c2 => simp; omega
          intro v9 w9 hown9 hb9
          have HO9 := boxed hown9
          have HB9 := boxed ((((HB5.out.alloc hz5 _).alloc (by simp; omega) _)).trans hb9)
          clear hown9 hb9 hown5
          go_wp2
          go_roundw
          case rel =>
            refine ⟨k + 1, by omega, by go_num, ?_, ?_, HB9, HN8⟩
            · rw [HNX.out, wo_snoc]; rfl
            · rw [HNX.out]; exact boxed (by simpa using HO9.out)
          case measure => simp [intOf]; omega
        · subst e
          have HNX : Box (bs F n t Y (k + 1) = (L ++ [pnI 0 10000 false (f : Nat) (T : Nat)], sy)) := boxed (by rw [HBN.out]; rfl)
          have HN8 := boxed (HN8'.out (by omega))
          clear HN8' HBN
          go_wp2_with fail
          refine (HOF4.out _ HB4.out).mono ?_
          rintro e w5 ⟨rfl, hb5⟩
          have HB5 := boxed (HB4.out.trans (hb5.mono HB4.out.size))
          have hown5 := owns_below HO4.out hb5
          have hz5 := HB5.out.size
          clear hb5 HO4
          go_wp2_with (at_builtin; refine wpList_append_items rfl _ _ rfl w2.heap.size _ L rfl ((hown5.alloc _).alloc _) [pnI 0 10000 false (f : Nat) (T : Nat)] _ 1 1 rfl rfl _ (heap_second _ _ _) rfl (by omega) (by decide) ?c2 ?_)
          case c2 => simp; omega
          intro v9 w9 hown9 hb9
          have HO9 := boxed hown9
          have HB9 := boxed ((((HB5.out.alloc hz5 _).alloc (by simp; omega) _)).trans hb9)
          clear hown9 hb9 hown5
          go_wp2
          go_roundw
          case rel =>
            refine ⟨k + 1, by omega, by go_num, ?_, ?_, HB9, HN8⟩
            · rw [HNX.out, wo_snoc]; rfl
            · rw [HNX.out]; exact boxed (by simpa using HO9.out)
          case measure => simp [intOf]; omega
        · subst e
          have HNX : Box (bs F n t Y (k + 1) = (L ++ [flI (f : Nat), pnI 0 (-10000) false (f : Nat) (T : Nat)], sy)) := boxed (by rw [HBN.out]; rfl)
          have HN8 := boxed (HN8'.out (by omega))
          clear HN8' HBN
          go_wp2_with fail
          refine (HOF4.out _ HB4.out).mono ?_
          rintro e w5 ⟨rfl, hb5⟩
          have HB5 := boxed (HB4.out.trans (hb5.mono HB4.out.size))
          have hown5 := owns_below HO4.out hb5
          have hz5 := HB5.out.size
          clear hb5 HO4
          go_wp2_with fail
          refine (reffill_any (f : Nat) (T : Nat) _).mono ?_
          rintro e w6 ⟨b6, cs6, rfl, hblk6, hcs6, hb6⟩
          have HB6 := boxed ((HB5.out.alloc hz5 _).trans (hb6.mono (by simp; omega)))
          have hown6 := owns_below (hown5.alloc _) hb6
          have hz6 := HB6.out.size
          clear hb6 hown5
          go_wp2_with (at_builtin; refine wpList_append_items rfl _ _ rfl w2.heap.size _ L rfl hown6 [flI (f : Nat), pnI 0 (-10000) false (f : Nat) (T : Nat)] _ 2 2 rfl rfl _ hblk6 hcs6 (by omega) (by decide) hz6 ?_)
          intro v9 w9 hown9 hb9
          have HO9 := boxed hown9
          have HB9 := boxed (HB6.out.trans hb9)
          clear hown9 hb9 hown6 hblk6
          go_wp2
          go_roundw
          case rel =>
            refine ⟨k + 1, by omega, by go_num, ?_, ?_, HB9, HN8⟩
            · rw [HNX.out, show L ++ [flI (f : Nat), pnI 0 (-10000) false (f : Nat) (T : Nat)] = (L ++ [flI (f : Nat)]) ++ [pnI 0 (-10000) false (f : Nat) (T : Nat)] by simp, wo_snoc]; rfl
            · rw [HNX.out]; exact boxed (by simpa using HO9.out)
          case measure => simp [intOf]; omega
        · subst e
          have HNX : Box (bs F n t Y (k + 1) = (L ++ [flI (f : Nat), pnI 0 (-10000) false (f : Nat) (T : Nat)], sy)) := boxed (by rw [HBN.out]; rfl)
          have HFI : Box (fin F n t Y N = L ++ [flI (f : Nat), pnI 0 (-10000) false (f : Nat) (T : Nat)]) := boxed (by rw [HFN.out (HL8.out rfl), HNX.out])
          clear HN8' HBN
          go_wp2_with fail
          refine (HOF4.out _ HB4.out).mono ?_
          rintro e w5 ⟨rfl, hb5⟩
          have HB5 := boxed (HB4.out.trans (hb5.mono HB4.out.size))
          have hown5 := owns_below HO4.out hb5
          have hz5 := HB5.out.size
          clear hb5 HO4
          go_wp2_with fail
          refine (reffill_any (f : Nat) (T : Nat) _).mono ?_
          rintro e w6 ⟨b6, cs6, rfl, hblk6, hcs6, hb6⟩
          have HB6 := boxed ((HB5.out.alloc hz5 _).trans (hb6.mono (by simp; omega)))
          have hown6 := owns_below (hown5.alloc _) hb6
          have hz6 := HB6.out.size
          clear hb6 hown5
          go_wp2_with (at_builtin; refine wpList_append_items rfl _ _ rfl w2.heap.size _ L rfl hown6 [flI (f : Nat), pnI 0 (-10000) false (f : Nat) (T : Nat)] _ 2 2 rfl rfl _ hblk6 hcs6 (by omega) (by decide) hz6 ?_)
          intro v9 w9 hown9 hb9
          have HO9 := boxed hown9
          have HB9 := boxed (HB6.out.trans hb9)
          clear hown9 hb9 hown6 hblk6
          have hO : w9.ownsRow w2.heap.size 80 9 v9 (fin F n t Y N).length (ics (fin F n t Y N)) := by rw [HFI.out]; simpa using HO9.out
          obtain ⟨FL, hFL⟩ : ∃ FL, fin F n t Y N = FL := ⟨_, rfl⟩
          rw [hFL] at hO
          obtain ⟨ao', cap', e⟩ := own_shape hO
          subst e
          have HFL := boxed hFL
          have HO8 := boxed hO
          clear hFL hO HO9
          go_wp2
          refine bodyPost_ret (v := .tuple #[.slice ao' FL.length cap', .int .i64 0]) (by simp [results, Tryz.results13, go_sem]) rfl ?_
          exact ⟨Or.inr ⟨by simp, ao', cap', by rw [HFL.out], by rw [HFL.out]; exact own_mono HO8.out hsz2⟩, below_step HB2.out (Nat.le_refl _) HB9.out⟩
        · subst e
          have HN8 := boxed (HN8'.out (by omega))
          have HNB : Box (bs F n t Y (k + 1) = (bxd L sy WD y (f : Nat) (T : Nat), y)) := boxed (by rw [HBN.out]; rfl)
          clear HN8' HBN
          by_cases hc : lbox L = true ∧ sy = y
          · have hB : bxd L sy WD y (f : Nat) (T : Nat) = grow L WD (T : Nat) := by unfold bxd; rw [if_pos hc]
            rw [hB] at HNB
            clear hB
            obtain ⟨hc1, hc2⟩ := hc
            subst hc2
            have tw : (wo (L, sy) == sy) = true := by rw [HW0.out, if_pos hc1]; simp
            obtain ⟨A, x, hAx, hxk⟩ := lbox_pos L hc1
            clear hc1
            subst hAx
            obtain ⟨q, hq⟩ : ∃ q, A.length = q := ⟨_, rfl⟩
            have hlq : ll = q + 1 := by have := HLL.out; simp at this; omega
            have hown4 := HO4.out
            rw [HLL.out] at hown4
            rcases ownsRow_forms hown4 with ⟨_, h2⟩ | ⟨g, cp, eg⟩
            · omega
            injection eg with eg1 eg2 eg3
            subst eg1; subst eg3
            have key : ∀ i, i < 9 → w4.cell? ⟨g, q * 9 + i, none⟩ = (x.cells)[i]? := by
              intro i hi
              have := hown4.cellAt (q * 9 + i) (by omega)
              rw [ics_get (A ++ [x]) q i (by simp; omega) hi] at this
              have hx : (A ++ [x]).getD q Itm.zero = x := by rw [← hq]; simp
              rw [hx] at this
              exact this
            have c1 : w4.cell? ⟨g, q * 9 + 1, none⟩ = some (.int .i64 x.w) := key 1 (by omega)
            have c8 : w4.cell? ⟨g, q * 9 + 8, none⟩ = some (.int .i64 x.to) := key 8 (by omega)
            have y1 := hown4.frozenAt (q * 9 + 1)
            have y8 := hown4.frozenAt (q * 9 + 8)
            have e6 : (ll : Int) - 1 = (q : Nat) := by omega
            have hq1 : q < ll := by omega
            have hq2 : (q : Int) < (ll : Int) := by omega
            have hq0 : (0 : Int) ≤ (q : Nat) := by omega
            have HF : Box ((((w4.setCell ⟨g, q * 9 + 1, none⟩ (.int .i64 (ad x.w WD))).setCell ⟨g, q * 9 + 8, none⟩ (.int .i64 (T : Nat))).ownsRow w2.heap.size 80 9 (.slice (some ⟨g, 0, none⟩) ll oc) (grow (A ++ [x]) WD (T : Nat)).length (ics (grow (A ++ [x]) WD (T : Nat)))) ∧ Below w2.heap.size w2 ((w4.setCell ⟨g, q * 9 + 1, none⟩ (.int .i64 (ad x.w WD))).setCell ⟨g, q * 9 + 8, none⟩ (.int .i64 (T : Nat)))) := boxed (by
              have o2 := (hown4.stored (q * 9 + 1) (.int .i64 (ad x.w WD))).1
              have o3 := (o2.stored (q * 9 + 8) (.int .i64 (T : Nat))).1
              have hg0 := (hown4.lt g rfl).1
              have e := ics_grow A x WD (T : Nat)
              rw [hq] at e
              rw [e] at o3
              refine ⟨?_, ?_⟩
              · rw [grow_len, HLL.out]
                exact o3
              · have b2 := HB4.out.grown (grown_set w4 g (q * 9 + 1) (.int .i64 (ad x.w WD))) HB4.out.size (fun r hr => by injection hr with hr; omega)
                exact b2.grown (grown_set _ g (q * 9 + 8) (.int .i64 (T : Nat))) b2.size (fun r hr => by injection hr with hr; omega))
            have hadd := fun w => refadd_any x.w WD w
            have HWG := boxed (wo_grow A x WD (T : Nat) sy hxk)
            have hgl : (grow (A ++ [x]) WD (T : Nat)).length = ll := by rw [grow_len]; exact HLL.out
            obtain ⟨GL, hGL⟩ : ∃ GL, grow (A ++ [x]) WD (T : Nat) = GL := ⟨_, rfl⟩
            rw [hGL] at HF HWG HNB hgl
            have HGL := boxed hgl
            clear key hown4 HO4 hq hlq hGL hgl hlen
            go_wp2_with fail
            refine (hadd _).mono ?_
            rintro e w5 ⟨rfl, hw5⟩; subst w5
            go_wp2
            go_roundw
            case rel =>
              refine ⟨k + 1, by omega, by go_num, ?_, ?_, boxed (below_alike HF.out.2 rfl rfl rfl rfl), HN8⟩
              · rw [HNB.out, HWG.out]
              · rw [HNB.out]; exact boxed (own_alike HF.out.1 rfl rfl rfl rfl)
            case measure => simp [intOf]; omega
          · have hB : bxd L sy WD y (f : Nat) (T : Nat) = L ++ [bxI WD (f : Nat) (T : Nat)] := by unfold bxd; rw [if_neg hc]
            rw [hB] at HNB
            have tw : (wo (L, sy) == y) = false := by
              rw [HW0.out, beq_eq_false_iff_ne]
              split
              · rename_i c1; intro c2; exact hc ⟨c1, c2⟩
              · omega
            clear hB hc
            have hown4 := HO4.out
            clear HO4
            go_wp2_with (at_builtin; refine wpList_append_items rfl _ _ rfl w2.heap.size _ L rfl (hown4.alloc _) [bxI WD (f : Nat) (T : Nat)] _ 1 1 rfl rfl _ (heap_alloc_new _ _) rfl (by omega) (by decide) ?c2 ?_)
            case c2 => simp; omega
            intro v8 w8 hown8 hb8
            have HB8 := boxed ((HB4.out.alloc hz4 _).trans hb8)
            have hz8 := HB8.out.size
            clear hb8 hown4
            go_wp2
            go_roundw
            case rel =>
              refine ⟨k + 1, by omega, by go_num, ?_, ?_, HB8, HN8⟩
              · rw [HNB.out, wo_snoc]; rfl
              · rw [HNB.out]; exact boxed (by simpa using hown8)
            case measure => simp [intOf]; omega
        · subst e
          have HN8 := boxed (HN8'.out (by omega))
          have HNB : Box (bs F n t Y (k + 1) = (bxd L sy WD y (f : Nat) (T : Nat) ++ [pnI 0 50 true (T : Nat) (T : Nat)], y)) := boxed (by rw [HBN.out]; rfl)
          clear HN8' HBN
          by_cases hc : lbox L = true ∧ sy = y
          · have hB : bxd L sy WD y (f : Nat) (T : Nat) = grow L WD (T : Nat) := by unfold bxd; rw [if_pos hc]
            rw [hB] at HNB
            clear hB
            obtain ⟨hc1, hc2⟩ := hc
            subst hc2
            have tw : (wo (L, sy) == sy) = true := by rw [HW0.out, if_pos hc1]; simp
            obtain ⟨A, x, hAx, hxk⟩ := lbox_pos L hc1
            clear hc1
            subst hAx
            obtain ⟨q, hq⟩ : ∃ q, A.length = q := ⟨_, rfl⟩
            have hlq : ll = q + 1 := by have := HLL.out; simp at this; omega
            have hown4 := HO4.out
            rw [HLL.out] at hown4
            rcases ownsRow_forms hown4 with ⟨_, h2⟩ | ⟨g, cp, eg⟩
            · omega
            injection eg with eg1 eg2 eg3
            subst eg1; subst eg3
            have key : ∀ i, i < 9 → w4.cell? ⟨g, q * 9 + i, none⟩ = (x.cells)[i]? := by
              intro i hi
              have := hown4.cellAt (q * 9 + i) (by omega)
              rw [ics_get (A ++ [x]) q i (by simp; omega) hi] at this
              have hx : (A ++ [x]).getD q Itm.zero = x := by rw [← hq]; simp
              rw [hx] at this
              exact this
            have c1 : w4.cell? ⟨g, q * 9 + 1, none⟩ = some (.int .i64 x.w) := key 1 (by omega)
            have c8 : w4.cell? ⟨g, q * 9 + 8, none⟩ = some (.int .i64 x.to) := key 8 (by omega)
            have y1 := hown4.frozenAt (q * 9 + 1)
            have y8 := hown4.frozenAt (q * 9 + 8)
            have e6 : (ll : Int) - 1 = (q : Nat) := by omega
            have hq1 : q < ll := by omega
            have hq2 : (q : Int) < (ll : Int) := by omega
            have hq0 : (0 : Int) ≤ (q : Nat) := by omega
            have HF : Box ((((w4.setCell ⟨g, q * 9 + 1, none⟩ (.int .i64 (ad x.w WD))).setCell ⟨g, q * 9 + 8, none⟩ (.int .i64 (T : Nat))).ownsRow w2.heap.size 80 9 (.slice (some ⟨g, 0, none⟩) ll oc) (grow (A ++ [x]) WD (T : Nat)).length (ics (grow (A ++ [x]) WD (T : Nat)))) ∧ Below w2.heap.size w2 ((w4.setCell ⟨g, q * 9 + 1, none⟩ (.int .i64 (ad x.w WD))).setCell ⟨g, q * 9 + 8, none⟩ (.int .i64 (T : Nat)))) := boxed (by
              have o2 := (hown4.stored (q * 9 + 1) (.int .i64 (ad x.w WD))).1
              have o3 := (o2.stored (q * 9 + 8) (.int .i64 (T : Nat))).1
              have hg0 := (hown4.lt g rfl).1
              have e := ics_grow A x WD (T : Nat)
              rw [hq] at e
              rw [e] at o3
              refine ⟨?_, ?_⟩
              · rw [grow_len, HLL.out]
                exact o3
              · have b2 := HB4.out.grown (grown_set w4 g (q * 9 + 1) (.int .i64 (ad x.w WD))) HB4.out.size (fun r hr => by injection hr with hr; omega)
                exact b2.grown (grown_set _ g (q * 9 + 8) (.int .i64 (T : Nat))) b2.size (fun r hr => by injection hr with hr; omega))
            have hadd := fun w => refadd_any x.w WD w
            have HWG := boxed (wo_grow A x WD (T : Nat) sy hxk)
            have hgl : (grow (A ++ [x]) WD (T : Nat)).length = ll := by rw [grow_len]; exact HLL.out
            obtain ⟨GL, hGL⟩ : ∃ GL, grow (A ++ [x]) WD (T : Nat) = GL := ⟨_, rfl⟩
            rw [hGL] at HF HWG HNB hgl
            have HGL := boxed hgl
            clear key hown4 HO4 hq hlq hGL hgl hlen
            go_wp2_with fail
            refine (hadd _).mono ?_
            rintro e w5 ⟨rfl, hw5⟩; subst w5
            have hownG := HF.out.1
            have hzG := HF.out.2.size
            go_wp2_with (at_builtin; refine wpList_append_items rfl _ _ rfl w2.heap.size _ GL rfl (hownG.alloc _) [pnI 0 50 true (T : Nat) (T : Nat)] _ 1 1 rfl rfl _ (heap_alloc_at _ _ _ (by simp)) rfl (by rw [HGL.out]; omega) (by decide) ?c3 ?_)
            case c3 => simp; simp at hzG; omega
            intro v9 w9 hown9 hb9
            have HO9 := boxed hown9
            have HB9 := boxed ((HF.out.2.alloc hzG _).trans hb9)
            clear hown9 hb9 hownG
            go_wp2
            go_roundw
            case rel =>
              refine ⟨k + 1, by omega, by go_num, ?_, ?_, HB9, HN8⟩
              · rw [HNB.out, wo_snoc]; rfl
              · rw [HNB.out]; exact boxed (by simpa using HO9.out)
            case measure => simp [intOf]; omega
          · have hB : bxd L sy WD y (f : Nat) (T : Nat) = L ++ [bxI WD (f : Nat) (T : Nat)] := by unfold bxd; rw [if_neg hc]
            rw [hB] at HNB
            have tw : (wo (L, sy) == y) = false := by
              rw [HW0.out, beq_eq_false_iff_ne]
              split
              · rename_i c1; intro c2; exact hc ⟨c1, c2⟩
              · omega
            clear hB hc
            have hown4 := HO4.out
            clear HO4
            go_wp2_with (at_builtin; refine wpList_append_items rfl _ _ rfl w2.heap.size _ L rfl (hown4.alloc _) [bxI WD (f : Nat) (T : Nat)] _ 1 1 rfl rfl _ (heap_alloc_new _ _) rfl (by omega) (by decide) ?c2 ?_)
            case c2 => simp; omega
            intro v8 w8 hown8 hb8
            have HB8 := boxed ((HB4.out.alloc hz4 _).trans hb8)
            have hz8 := HB8.out.size
            clear hb8 hown4
            have hown8' : w8.ownsRow w2.heap.size 80 9 v8 (L ++ [bxI WD (f : Nat) (T : Nat)]).length (ics (L ++ [bxI WD (f : Nat) (T : Nat)])) := by simpa using hown8
            go_wp2_with (at_builtin; refine wpList_append_items rfl _ _ rfl w2.heap.size _ (L ++ [bxI WD (f : Nat) (T : Nat)]) rfl (hown8'.alloc _) [pnI 0 50 true (T : Nat) (T : Nat)] _ 1 1 rfl rfl _ (heap_alloc_new _ _) rfl (by simp; omega) (by decide) ?c3 ?_)
            case c3 => simp; omega
            intro v9 w9 hown9 hb9
            have HO9 := boxed hown9
            have HB9 := boxed ((HB8.out.alloc hz8 _).trans hb9)
            clear hown9 hb9 hown8 hown8'
            go_wp2
            go_roundw
            case rel =>
              refine ⟨k + 1, by omega, by go_num, ?_, ?_, HB9, HN8⟩
              · rw [HNB.out, wo_snoc]; rfl
              · rw [HNB.out]; exact boxed (by simpa using HO9.out)
            case measure => simp [intOf]; omega

    · have e : k = N := by omega
      subst e
      have hbt := nl_none t k HRT.out h0 HN10.out
      have HFI : Box (fin F n t Y k = (bs F n t Y k).1 ++ [flI (t.size : Nat), pnI 0 (-10000) false (t.size : Nat) (t.size : Nat)]) := boxed (by unfold fin; rw [if_neg hbt])
      have t3 : decide ((k : Int) < (k : Int)) = false := decide_eq_false (by omega)
      generalize bs F n t Y k = P at *
      obtain ⟨L, sy⟩ := P
      simp only at *
      have hown5 := HO.out
      clear HO hbt
      go_wp2_with fail
      refine (reffill_any (t.size : Nat) (t.size : Nat) _).mono ?_
      rintro e w6 ⟨b6, cs6, rfl, hblk6, hcs6, hb6⟩
      have HB6 := boxed (HB.out.trans (hb6.mono HB.out.size))
      have hown6 := owns_below hown5 hb6
      have hz6 := HB6.out.size
      clear hb6 hown5
      go_wp2_with (at_builtin; refine wpList_append_items rfl _ _ rfl w2.heap.size _ L rfl hown6 [flI (t.size : Nat), pnI 0 (-10000) false (t.size : Nat) (t.size : Nat)] _ 2 2 rfl rfl _ hblk6 hcs6 (by omega) (by decide) hz6 ?_)
      intro v9 w9 hown9 hb9
      have HO9 := boxed hown9
      have HB9 := boxed (HB6.out.trans hb9)
      clear hown9 hb9 hown6 hblk6
      have hO : w9.ownsRow w2.heap.size 80 9 v9 (fin F n t Y k).length (ics (fin F n t Y k)) := by rw [HFI.out]; simpa using HO9.out
      obtain ⟨FL, hFL⟩ : ∃ FL, fin F n t Y k = FL := ⟨_, rfl⟩
      rw [hFL] at hO
      obtain ⟨ao', cap', e⟩ := own_shape hO
      subst e
      have HFL := boxed hFL
      have HO8 := boxed hO
      clear hFL hO HO9
      go_wp2
      refine bodyPost_ret (v := .tuple #[.slice ao' FL.length cap', .int .i64 0]) (by simp [results, Tryz.results13, go_sem]) rfl ?_
      exact ⟨Or.inr ⟨by simp, ao', cap', by rw [HFL.out], by rw [HFL.out]; exact own_mono HO8.out hsz2⟩, below_step HB2.out (Nat.le_refl _) HB9.out⟩
end Go.Proofs.YtcjcdpfjnomehaaGreat.It
