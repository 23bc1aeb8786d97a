/-
  For every list of numbers of 32 bits and every list of bytes the law RunesBack answers true and leaves its arguments as they were: what Append writes of runes is right and has these runes; what is appended to is kept (of lists of more than 1000 the law asks nothing).
  (The frame of this text was written by the program proof-skeleton.mjs; the walk is ours.)
-/
import Derived.Test.YtifehmifgapodabRows
import Derived.WalkKit
import Derived.ProofKit
import Derived.OpenShut
import Derived.Test.YtifehmifgapodabUg
import Derived.Test.YtifehmifgapodabUt
import Derived.ShutString
import Derived.ChangeOld
import Derived.Below
namespace Go.Proofs.Ytifehmifgapodab.runesBack
open Go.ChangeShapes Go.WideShapes Go.ChangeAt Go.RowKit
open Go.ChangeMaps (open_string shut_string)
set_option linter.unusedVariables false

theorem own : ownKnob Try.prog.godebug = none := by kernel_rfl
theorem laidOut : laidOutB Try.prog = true := by kernel_rfl

/-- WHAT THE WALK IS TOLD OF A SLICE OF INTEGERS THAT CAME IN: it is nil; or it leads to a row of 'cap' cells, the numbers 'zs' (the first 'len' are its elements, the rest its spare room), each fitting its kind. -/
def IsRow (k : IntKind) (w : World) (a : Option Addr) (len cap : Nat) (zs : List Int) : Prop :=
  (a = none ∧ len = 0 ∧ cap = 0 ∧ zs = []) ∨
  ∃ x, a = some x ∧ len ≤ cap ∧ cap ≤ maxLen ∧ zs.length = cap ∧ (∀ i, i < zs.length → w.cell? (x.add i) = some (.int k (zs.getD i 0))) ∧ ∀ n ∈ zs, (Lit.int k n).wf = true

/-! ### STEP 1: THE WALK: the Go text returns true, AND WRITES NOTHING THAT WAS THERE: 'Below w.heap.size w w'' (Derived/Below.lean: '.refl', '.alloc', '.drew', '.setCell' at a new block, '.trans'). Open each 'IsRow' by 'rcases' AHEAD of 'go_enter'; part every test ahead of the walk. -/
set_option maxRecDepth 100000 in
set_option maxHeartbeats 1600000 in
theorem walk (a0 : Option Addr) (len0 cap0 : Nat) (z0 : List Int) (a1 : Option Addr) (len1 cap1 : Nat) (z1 : List Int) (w : World) (w0 : IsRow .i32 w a0 len0 cap0 z0) (w1 : IsRow .u8 w a1 len1 cap1 z1) :
    Calls Try.prog 3 #[.slice a0 len0 cap0, .slice a1 len1 cap1] w fun e w' => e = .returned (.bool true) ∧ Below w.heap.size w w' := by
  by_cases hA : 1000 < len0
  · have d0 : decide ((1000 : Int) < (len0 : Int)) = true := decide_eq_true (by omega)
    go_enter Try.func3, Try.ntmps3
    go_wp2_with fail
    refine (awake_any _).mono ?_
    rintro e w' ⟨rfl, hw'⟩
    subst w'
    go_wp2
    go_ret
    exact ⟨rfl, Below.refl _ _⟩
  have d0 : decide ((1000 : Int) < (len0 : Int)) = false := decide_eq_false (by omega)
  have d0' : decide (1000 < len0) = false := decide_eq_false (by omega)
  by_cases hA2 : 1000 < len1
  · have d1 : decide ((1000 : Int) < (len1 : Int)) = true := decide_eq_true (by omega)
    go_enter Try.func3, Try.ntmps3
    go_wp2_with fail
    refine (awake_any _).mono ?_
    rintro e w' ⟨rfl, hw'⟩
    subst w'
    go_wp2
    go_ret
    exact ⟨rfl, Below.refl _ _⟩
  have d1 : decide ((1000 : Int) < (len1 : Int)) = false := decide_eq_false (by omega)
  have d1' : decide (1000 < len1) = false := decide_eq_false (by omega)
  obtain ⟨i0, hi, hz0, hz1, hz2⟩ := info_parts info_int
  have HC0 : Box (∀ k, k < len0 → ∃ b off, a0 = some ⟨b, off, none⟩ ∧ b < w.heap.size ∧ w.cell? ⟨b, off + k, none⟩ = some (.int .i32 (z0.getD k 0)) ∧ (-2147483648 ≤ z0.getD k 0 ∧ z0.getD k 0 ≤ 2147483647)) := boxed (by
    intro k hk
    rcases w0 with ⟨_, h, _⟩ | ⟨x, rfl, hl, hm, hz, hc, hwz⟩
    · omega
    · obtain ⟨b, off, rfl, hc'⟩ := ints_at hc (by omega)
      have hck := hc' k (by omega)
      have m1 : IntKind.i32.min = -2147483648 := by decide
      have m2 : IntKind.i32.max = 2147483647 := by decide
      have hmem : z0.getD k 0 ∈ z0 := by
        have hkz : k < z0.length := by omega
        have e : z0.getD k 0 = z0[k] := by simp [hkz]
        rw [e]; exact List.getElem_mem _
      have hwf := hwz _ hmem
      simp [Lit.wf] at hwf
      refine ⟨b, off, rfl, World.block_lt_of_cell? w _ hck, hck, ?_⟩
      simp
      omega)
  have HBG : Box (∃ l1 : List Nat, l1.length = len1 ∧ Bg w a1 cap1 l1 ∧ ∀ d ∈ l1, d < 256) := boxed (by
    rcases w1 with ⟨rfl, rfl, rfl, rfl⟩ | ⟨x, rfl, hl, hm, hz, hc, hwz⟩
    · exact ⟨[], rfl, ⟨⟨by simp, by unfold maxLen; omega⟩, Or.inl rfl⟩, by simp⟩
    · have m1 : IntKind.u8.min = 0 := by decide
      have m2 : IntKind.u8.max = 255 := by decide
      have hrg : ∀ i, i < z1.length → 0 ≤ z1.getD i 0 ∧ z1.getD i 0 ≤ 255 := by
        intro i hi
        have e : z1.getD i 0 = z1[i] := by simp [hi]
        have hwf := hwz _ (e ▸ List.getElem_mem hi)
        simp [Lit.wf] at hwf
        simp at *
        omega
      refine ⟨(List.range len1).map (fun i => (z1.getD i 0).toNat), by simp, ⟨⟨by simp; omega, hm⟩, ?_⟩, ?_⟩
      · by_cases h0 : len1 = 0
        · left; subst h0; rfl
        · right
          refine ⟨x, rfl, ?_, ?_⟩
          · have := World.block_lt_of_cell? w _ (hc 0 (by omega))
            rwa [add_block] at this
          · intro i hi
            have hi' : i < len1 := by simpa using hi
            rw [hc i (by omega)]
            have := hrg i (by omega)
            simp [hi'] at *
            omega
      · intro d hd
        simp only [List.mem_map, List.mem_range] at hd
        obtain ⟨i, hi, rfl⟩ := hd
        have := hrg i (by omega)
        omega)
  go_enter Try.func3, Try.ntmps3
  go_wp2_with fail
  refine (awake_any _).mono ?_
  rintro e w' ⟨rfl, hw'⟩
  subst w'
  go_wp2
  go_loopw [5, 6, 7] (fun vo vw i wr => ∃ (k : Nat) (L R : List Nat) (ao : Option Addr) (cap : Nat), k ≤ len0 ∧ i = .int .i64 (k : Int) ∧ vo = .slice ao L.length cap ∧ Box (Bg wr ao cap L) ∧
      wr.ownsRow w.heap.size 3 1 vw R.length (vals R) ∧ Box (Right (tx L) R.length ∧ (∀ j, j < R.length → rn (tx L) j = R.getD j 0) ∧ (∀ d ∈ L, d < 256)) ∧ (L.length ≤ 4 * k ∧ R.length ≤ k) ∧ Box (Below w.heap.size w wr)) (fun _ _ i _ => len0 - (intOf i).toNat)
  case atStart =>
    refine ⟨0, [], [], none, 0, Nat.zero_le _, rfl, rfl, boxed ⟨⟨by simp, by unfold maxLen; omega⟩, Or.inl rfl⟩, World.ownsRow_nil _ _ _ _, boxed ⟨?_, ?_, ?_⟩, by simp, boxed (Below.refl _ _)⟩
    · exact cnt_end (tx []) 0 (by intro j hj; simp at hj) rfl
    · intro j hj; simp at hj
    · intro d hd; simp at hd
  case round =>
    obtain ⟨k, L, R, ao, cap, hk, rfl, rfl, HG, hown, HR, hLR, HB⟩ := hrel
    have hsz := HB.out.size
    by_cases hlt : k < len0
    · obtain ⟨b, off, ha, hbk, hcell, hrg⟩ := HC0.out k hlt
      subst ha
      have hcw : wr.cell? ⟨b, off + k, none⟩ = some (.int .i32 (z0.getD k 0)) := by
        rw [HB.out.cell (p := ⟨b, off + k, none⟩) hbk]; exact hcell
      have hbk' : b < wr.heap.size := by omega
      clear hcell
      generalize z0.getD k 0 = z at *
      have hap := append_any ao cap L z wr HG.out (by omega) hrg
      have hir := fun w => isrune_any z w
      cases hx : isR z with
      | false =>
        have hby : byr z = [] := by unfold byr; rw [hx]; simp
        rw [hby, List.append_nil] at hap
        rw [hx] at hir
        have n1 : ((L.length : Int) != (L.length : Int)) = false := by simp
        go_wp2_with fail
        refine hap.mono ?_
        rintro e w1 ⟨ao', cap', rfl, hg', hb1, hnw⟩
        have hcw1 : w1.cell? ⟨b, off + k, none⟩ = some (.int .i32 z) := by
          rw [hb1.cell (p := ⟨b, off + k, none⟩) hbk']; exact hcw
        have hown1 := owns_below hown hb1
        have HG1 := boxed hg'
        have HB1 := boxed (HB.out.trans (hb1.mono HB.out.size))
        clear hap hg' hb1 hcw hown
        go_wp2_with fail
        refine (hir _).mono ?_
        rintro e w' ⟨rfl, hw'⟩
        subst w'
        go_wp2
        go_roundw
        case rel => exact ⟨k + 1, L, R, ao', cap', by omega, by go_num, rfl, HG1, hown1, HR, by omega, HB1⟩
        case measure => simp [intOf]; omega
      | true =>
        have hzr := isR_t z hx
        obtain ⟨q, rfl⟩ : ∃ q : Nat, z = (q : Int) := ⟨z.toNat, by omega⟩
        have hby : byr (q : Int) = byts q := by unfold byr; rw [hx]; simp
        have HNEW := boxed (byts_right q hx)
        have HO := boxed (fun k hk => (hown.lt k hk).2)
        rw [hby] at hap
        rw [hx] at hir
        go_wp2_with fail
        refine hap.mono ?_
        rintro e w1 ⟨ao', cap', rfl, hg', hb1, hnw⟩
        have hcw1 : w1.cell? ⟨b, off + k, none⟩ = some (.int .i32 (q : Int)) := by
          rw [hb1.cell (p := ⟨b, off + k, none⟩) hbk']; exact hcw
        have hown1 := owns_below hown hb1
        have HG1 := boxed hg'
        have hb2 := HB.out.trans (hb1.mono HB.out.size)
        have hs2 := hb2.size
        clear hap hg' hb1 hcw hown
        go_wp2_with fail
        refine (hir _).mono ?_
        rintro e w' ⟨rfl, hw'⟩
        subst w'
        go_wp2_with (at_builtin; refine wpList_append_own _ rfl _ _ 25 rfl w.heap.size 3 i0 (.int .i64 0) 1 8 Try.underlying25 hi hz0 hz1 hz2 rfl (by decide) _ _ _ rfl (hown1.alloc _) ⟨w1.heap.size, 0, none⟩ 1 1 [.int .i64 (q : Int)] rfl rfl ?c1 ?c2 ?c3 ?c4 ?c5 ?_)
        case c1 =>
          intro j u hj
          match j, hj with
          | 0, hj => simp at hj; subst hj; simp [Addr.add]
        case c2 => intro u hu; simp at hu; subst hu; rfl
        case c3 => unfold maxLen; omega
        case c4 => omega
        case c5 => simp; omega
        intro v' w2 hown2 hgrow2 _
        have hb3 : Below w.heap.size w w2 := (hb2.alloc (by omega) _).grown hgrow2 (by simp; omega) (fun k hk => (hown1.lt k hk).1)
        have hgw : Bg w2 ao' cap' (L ++ byts q) := by
          obtain ⟨g1, g2⟩ := HG1.out
          refine ⟨g1, ?_⟩
          rcases g2 with h | ⟨x, e, h1, h2⟩
          · exact Or.inl h
          · refine Or.inr ⟨x, e, by have := hgrow2.size; simp at this; omega, fun i hi => ?_⟩
            have hne : some (x.add i).block ≠ u6.ownBlock := by
              rw [add_block]
              intro c
              have := (HO.out x.block c.symm)
              have := hnw x e
              omega
            exact hgrow2.cell (by rw [((Below.refl w1.heap.size w1).alloc (Nat.le_refl _) _).cell (p := x.add i) (by rw [add_block]; exact h1)]; exact h2 i hi) hne
        rw [vals_snoc] at hown2
        have HG2 := boxed hgw
        have HB3 := boxed hb3
        clear hgw hb3 hgrow2 hown1 hb2 HG1
        have hlb : (byts q).length ≤ 4 := by
          rcases byts_len q with h | h | h | h | h <;> omega
        go_wp2
        go_roundw
        case rel =>
          refine ⟨k + 1, L ++ byts q, R ++ [q], ao', cap', by omega, by go_num, by rw [List.length_append], HG2, by simpa using hown2, boxed ⟨?_, ?_, ?_⟩, by simp; omega, HB3⟩
          · rw [← tx_app]
            have := (app_join (tx L) (tx (byts q)) R.length 1 HR.out.1 HNEW.out.1).1
            simpa using this
          · intro j hj
            have ha := app_runes (tx L) (tx (byts q)) R.length 1 HR.out.1 HNEW.out.1
            rw [tx_app] at ha
            by_cases c : j < R.length
            · rw [ha.1 j c, HR.out.2.1 j c]; simp [List.getElem?_append, c]
            · have e : j = R.length := by simp at hj; omega
              subst e
              have := ha.2 0 (by omega)
              rw [Nat.add_zero] at this
              rw [this, HNEW.out.2]; simp
          · intro d hd
            rcases List.mem_append.1 hd with h | h
            · exact HR.out.2.2 d h
            · exact byts_lt q d h
        case measure => simp [intOf]; omega
    · obtain ⟨-, aw, cw, hvw, hdw⟩ := dg_of_owns hown
      subst hvw
      have HW := boxed hdw
      have qw := hdw.1
      have hT : (tx L).size ≤ 1048576 := by rw [tx_size]; omega
      have hT2 : (tx L).size ≤ maxLen := by unfold maxLen; omega
      have hru := runes_any (tx L) wr hT R.length HR.out.1.1
      rw [right_bad _ _ HR.out.1] at hru
      have hco := fun w => count_b (tx L) w hT2 R.length HR.out.1
      have HCV := boxed (fun wx (hb : Below wr.heap.size wr wx) => conv_any ao cap L wx (HG.out.below hb) HR.out.2.2)
      have hcv0 := HCV.out wr (Below.refl _ _)
      have n1 : ((R.length : Int) != (R.length : Int)) = false := by simp
      have HL : Box ((rns (tx L) R.length).length = R.length) := boxed (rns_len _ _)
      have HRN : Box (∀ j, j < R.length → (rns (tx L) R.length).getD j 0 = R.getD j 0) := boxed (fun j hj => by rw [rns_get _ _ _ hj, HR.out.2.1 j hj])
      unfold maxLen at qw
      clear hdw hown
      generalize tx L = T at *
      go_wp2_with fail
      refine hru.mono ?_
      rintro e x1 ⟨p1, c1, p2, c2, rfl, hdg, -, hb⟩
      have hcv1 := HCV.out x1 hb
      have HG1 := boxed hdg
      have q1 := hdg.1
      rw [HL.out] at q1
      unfold maxLen at q1
      have HB1 := boxed hb
      clear hru hdg hb hcv0
      go_wp2_with fail
      refine (hco _).mono ?_
      rintro e x2 ⟨rfl, hb⟩
      have HB2 := boxed (HB1.out.trans (hb.mono HB1.out.size))
      have HG2 := boxed (HG1.out.below hb)
      have HW2 := boxed (HW.out.below HB2.out)
      have HBX := boxed (HB.out.trans (HB2.out.mono HB.out.size))
      clear hb hco hcv1 HG1
      go_wp2
      go_loopw [12] (fun i wq => ∃ j : Nat, j ≤ R.length ∧ i = .int .i64 (j : Int) ∧ Box (Below x2.heap.size x2 wq)) (fun i _ => R.length - (intOf i).toNat)
      case atStart => exact ⟨0, Nat.zero_le _, rfl, boxed (Below.refl _ _)⟩
      case round =>
        obtain ⟨j, hj, rfl, HQ⟩ := hrel
        by_cases hjl : j < R.length
        · obtain ⟨-, hx | ⟨g1, o1, hp1, hg1, hc1⟩⟩ := HG2.out
          · exfalso; have := HL.out; rw [hx] at this; simp at this; omega
          subst hp1
          obtain ⟨-, hx | ⟨g2, o2, hp2, hg2, hc2⟩⟩ := HW2.out
          · exfalso; rw [hx] at hjl; simp at hjl
          subst hp2
          have e1 := hc1 j (by rw [HL.out]; exact hjl)
          have e2 := hc2 j hjl
          rw [HRN.out j hjl] at e1
          rw [← HQ.out.cell (p := ⟨g1, o1 + j, none⟩) hg1] at e1
          rw [← HQ.out.cell (p := ⟨g2, o2 + j, none⟩) hg2] at e2
          generalize R.getD j 0 = v at *
          have n3 : ((v : Int) != (v : Int)) = false := by simp
          clear hc1 hc2
          go_wp2
          go_quiet (fail)
          go_wp2
          go_roundw
          case rel => exact ⟨j + 1, by omega, by go_num, boxed (HQ.out.trans (bel_drewN _ _ _))⟩
          case measure => simp [intOf]; omega
        · obtain ⟨l1, hl1, hbg, hbb⟩ := HBG.out
          subst hl1
          have hq := HBX.out.trans (HQ.out.mono HBX.out.size)
          have hb0 := hbg.below hq
          have hk0 := conv_any a1 cap1 l1 _ hb0 hbb
          have hap := append_any a1 cap1 l1 120 _ hb0 (by omega) (by omega)
          have h120 : byr 120 = [120] := by decide
          rw [h120] at hap
          have exq : tx l1 ++ ⟨#[120]⟩ = tx (l1 ++ [120]) := by rw [← tx_app]; rfl
          go_wp2_with fail
          refine hap.mono ?_
          rintro e x4 ⟨ao4, cap4, rfl, hg4, hb4, -⟩
          have hk4 := conv_any a1 cap1 l1 x4 (hb0.below hb4) hbb
          have hm4 := conv_any ao4 cap4 (l1 ++ [120]) x4 hg4 (by
            intro d hd
            rcases List.mem_append.1 hd with h | h
            · exact hbb d h
            · simp at h; omega)
          have hm5 : (convert 23 9 (.slice ao4 (l1.length + 1) cap4)).run Try.prog x4 = .ok (.string (tx (l1 ++ [120]))) x4 := by simpa using hm4
          have HF := boxed (hq.trans (hb4.mono hq.size))
          clear hap hb0 hbg hg4 hb4 hq
          have hK : (tx l1).size ≤ 1000 := by rw [tx_size]; omega
          generalize tx (l1 ++ [120]) = K2 at *
          generalize tx l1 = K1 at *
          go_wp2
          go_ret
          exact ⟨by try simp, HF.out⟩

/-! ### THE ROW's STEP: WRITTEN OUT: LEAVE IT -/
set_option maxRecDepth 100000 in
theorem lifted (os : Os) (started : os.Started) (H : Type) (enc : TypeId × Value → H) :
    ReturnsInHanded {} Try.checked os 3 .any (Rows.runesBackSpec.pre6 enc Try.prog Try.f3 Rows.runesBackRow.domain false) (Rows.runesBackSpec.post enc Try.prog Try.f3 false true false false) := by
  refine returnsInHanded_of_change (C := Try.checked) own started (by kernel_rfl) Try.func3
    (ChangeSpec.witness6 (enc := enc) (C := Try.checked) false ⟨#[], #[.slice none 0 0, .slice none 0 0], []⟩ 8 (by kernel_rfl) (by kernel_rfl) (by kernel_rfl) (by kernel_rfl)) ?_
  intro W base args ds gs before hval0 hW hcnd _
  have hval : ∀ (j : Nat) t v, Try.f3.params[j]? = some t → args[j]? = some v → Value.okWide Try.prog W .any base t v := hval0
  have hW' := hW
  obtain ⟨p, q, hA0, hV, rfl, hfz, hnd⟩ := hW
  have hA : DataW.TrodAll enc Try.prog W 0 (fun _ => true) true Try.f3.params.toList args.toList ds p := hA0
  rw [Try.params3] at hA hval
  obtain ⟨v0, vs0, d0, ds0, p0, q0, hargs, rfl, rfl, h0, r0⟩ := trodAll_cons hA
  obtain ⟨v1, vs1, d1, ds1, p1, q1, rfl, rfl, rfl, h1, r1⟩ := trodAll_cons r0
  obtain ⟨rfl, rfl, rfl⟩ := trodAll_nil r1
  obtain rfl : args = #[v0, v1] := by cases args; simp_all
  obtain ⟨rfl, rfl⟩ := trodVars_none hV
  obtain ⟨a0, len0, cap0, rfl⟩ := okWide_slice Try.underlying22 (hval 0 22 v0 rfl rfl)
  have k0 := h0
  have lt0 : ∀ x ∈ p0, x.block < W.heap.size := by obtain ⟨m, hm⟩ := k0; exact DataW.trod_lt m _ _ _ hm
  obtain ⟨z0, w0⟩ : ∃ zs, IsRow .i32 W a0 len0 cap0 zs := by
    obtain ⟨fuel, hf⟩ := h0
    rcases open_ints Try.underlying22 Try.underlying21 (by kernel_rfl) hf with ⟨hcs, _⟩ | ⟨x, l, c, zs, hcs, _, hl, hm, hz, _, hcell, hwz⟩
    · simp [Value.cells] at hcs
      obtain ⟨rfl, rfl, rfl⟩ := hcs
      exact ⟨[], .inl ⟨rfl, rfl, rfl, rfl⟩⟩
    · simp [Value.cells] at hcs
      obtain ⟨rfl, rfl, rfl⟩ := hcs
      exact ⟨zs, .inr ⟨_, rfl, hl, hm, by simpa using hz, hcell, hwz⟩⟩
  obtain ⟨a1, len1, cap1, rfl⟩ := okWide_slice Try.underlying23 (hval 1 23 v1 rfl rfl)
  have k1 := h1
  have lt1 : ∀ x ∈ p1, x.block < W.heap.size := by obtain ⟨m, hm⟩ := k1; exact DataW.trod_lt m _ _ _ hm
  obtain ⟨z1, w1⟩ : ∃ zs, IsRow .u8 W a1 len1 cap1 zs := by
    obtain ⟨fuel, hf⟩ := h1
    rcases open_ints Try.underlying23 Try.underlying5 (by kernel_rfl) hf with ⟨hcs, _⟩ | ⟨x, l, c, zs, hcs, _, hl, hm, hz, _, hcell, hwz⟩
    · simp [Value.cells] at hcs
      obtain ⟨rfl, rfl, rfl⟩ := hcs
      exact ⟨[], .inl ⟨rfl, rfl, rfl, rfl⟩⟩
    · simp [Value.cells] at hcs
      obtain ⟨rfl, rfl, rfl⟩ := hcs
      exact ⟨zs, .inr ⟨_, rfl, hl, hm, by simpa using hz, hcell, hwz⟩⟩
  clear hA0 hval0
  refine (walk a0 len0 cap0 z0 a1 len1 cap1 z1 W w0 w1).mono fun e W' ⟨he, bel⟩ => ?_
  subst he
  exact ⟨_, rfl, _, _, _, [], _, [], hW', trodAll_mk1 (shut_bool Try.underlying4 _), (trodAll_cons_mk (Below.trod laidOut (by kernel_rfl) (of_decide_eq_true (by kernel_rfl)) k0 bel lt0) (trodAll_cons_mk (Below.trod laidOut (by kernel_rfl) (of_decide_eq_true (by kernel_rfl)) k1 bel lt1) trodAll_mk0)), rfl, bel.frame _, fun h => by cases h⟩

theorem over : Rows.runesBackRow.holds Try.pinned (OpenSpec.ofChange Rows.runesBackSpec) :=
  OpenClaim.holds_of_wide 3 Try.f3 rfl rfl rfl rfl rfl rfl rfl ⟨rfl, rfl, rfl, rfl, rfl⟩ rfl rfl rfl rfl rfl (by kernel_rfl) Try.func3 (by kernel_rfl)
    (of_decide_eq_true (by kernel_rfl)) (by unfold Func.isWrapper; first | (rw [if_pos (by decide +kernel)]; kernel_rfl) | (rw [if_neg (by decide +kernel)]; exact ⟨rfl, rfl⟩))
    (fun os started H enc _ => lifted os started H enc)

/-- ████ THE STATEMENT ████ -/
theorem proved : Rows.RunesBackSaid := over
#print axioms proved
end Go.Proofs.Ytifehmifgapodab.runesBack
