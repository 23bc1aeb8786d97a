/-
  For every two lists of styles the law MetricsSame answers true and leaves its arguments as they were: two tables are the same just if their styles are, nil is the same as nil alone, and what was handed in may be changed behind it.
-/
import Derived.Test.YtjfcpbnipkkjbaaRows
import Derived.WalkKit
import Derived.ProofKit
import Derived.OpenShut
import Derived.SizedLaws
import Derived.ShutString
import Derived.ChangeOld
import Derived.Below
import Derived.Test.YtjfcpbnipkkjbaaMn
import Derived.Test.YtjfcpbnipkkjbaaMo
import Derived.Test.YtjfcpbnipkkjbaaMw
namespace Go.Proofs.Ytjfcpbnipkkjbaa.metricsSame
open Go.ChangeShapes Go.WideShapes Go.ChangeAt Go.RowKit
open Go.ChangeMaps (open_string shut_string)
set_option linter.unusedVariables false
set_option linter.unusedSimpArgs false

theorem own : ownKnob Try.prog.godebug = none := by kernel_rfl
theorem laidOut : laidOutB Try.prog = true := by kernel_rfl

set_option maxRecDepth 100000 in
set_option maxHeartbeats 16000000 in
theorem walk (w : World) (ao0 : Option Addr) (n0 cap0 : Nat) (F0 : Nat → Sty) (hn0 : n0 ≤ cap0 ∧ cap0 * 80 ≤ 140737488351232) (hF0 : StysAt (fun _ => True) w ao0 n0 F0) (ao1 : Option Addr) (n1 cap1 : Nat) (F1 : Nat → Sty) (hn1 : n1 ≤ cap1 ∧ cap1 * 80 ≤ 140737488351232) (hF1 : StysAt (fun _ => True) w ao1 n1 F1) :
    Calls Try.prog 8 #[.slice ao0 n0 cap0, .slice ao1 n1 cap1] w fun e w' => e = .returned (.bool true) ∧ Below w.heap.size w w' := by
  obtain ⟨j0, hj, hy0, hy1, hy2⟩ := info_parts info_style
  obtain ⟨i0, hi, hz0, hz1, hz2⟩ := info_parts info_range
  have htb := boxed (fun w' (hb : Below w.heap.size w w') => table_or (fun _ => True) ao0 n0 cap0 F0 w' (hF0.below hb))
  have htm := boxed (fun w' (hb : Below w.heap.size w w') => table_or (fun _ => True) ao1 n1 cap1 F1 w' (hF1.below hb))
  have hrs := boxed (fun w' (hb : Below w.heap.size w w') => refsame_any (fun _ => True) ao0 n0 cap0 F0 ao1 n1 cap1 F1 w' (hF0.below hb) (hF1.below hb) (by unfold maxLen; omega))
  have HF0 := boxed hF0
  have HOK0 : Box (∀ i, i < n0 → StyOk (F0 i)) := boxed (fun i hi => (hF0 i hi).1)
  have hn80 : n0 * 80 ≤ 140737488351232 := by omega
  clear hF0 hF1
  go_enter Try.func8, Try.ntmps8
  go_wp2_with fail
  refine (awake_any _).mono ?_
  rintro e w1 ⟨rfl, hb1⟩
  have HB1 := boxed hb1
  have hz1w := hb1.size
  clear hb1
  go_wp2
  go_loopw [5, 6, 7] (fun v i _ wr => ∃ (k : Nat) (H : Nat → Sty), k ≤ n0 ∧ i = .int .i64 (k : Int) ∧ Box (wr.ownsRow w1.heap.size 35 8 v k (stv H k)) ∧ Box (Cop F0 w1.heap.size wr v.ownBlock k H) ∧ Box (Below w1.heap.size w1 wr)) (fun _ i _ _ => n0 - (intOf i).toNat)
  case atStart => exact ⟨0, F0, Nat.zero_le _, rfl, boxed (World.ownsRow_nil _ _ _ _), boxed (fun i hi => by omega), boxed (Below.refl _ _)⟩
  case round =>
    obtain ⟨k, H, hk, rfl, HO, HC, HB⟩ := hrel
    have hzr := HB.out.size
    by_cases hlt : k < n0
    · obtain ⟨hok, hrg, b, off, e, -, c0, c1, c2, c3, c4, c5, c6, c7⟩ := (HF0.out.below (below_step HB1.out (Nat.le_refl _) HB.out)) k hlt
      subst e
      have hbl : b < wr.heap.size := World.block_lt_of_cell? wr _ c0
      have hbn : b ≠ wr.heap.size := by omega
      have hltI : (k : Int) < (n0 : Int) := by omega
      have t1 : decide ((k : Int) < (n0 : Int)) = true := decide_eq_true hltI
      have hrn := hok.rn
      have hnil := hok.nil
      have HRG := boxed hrg
      have HOKs := boxed hok
      clear hok hrg
      generalize hs : F0 k = s at *
      have HS := boxed hs
      clear hs
      cases hra : s.ra with
      | none =>
        obtain ⟨hr0, hc0⟩ := hnil hra
        rw [hra, hr0, hc0] at c6
        have HR0 := boxed hr0
        clear hnil hrn hra hr0 hc0
        have HBp : Box (Below wr.heap.size wr (((wr.alloc (.cells #[.int .i64 s.h, .int .i64 s.sp, .int .i64 s.st, .int .i64 s.sh, .int .i64 s.hy, .int .i64 s.ot, .slice (some ⟨wr.heap.size + 1, 0, none⟩) 0 0, .bool s.keep] 35)).alloc (.cells #[] 45)))) := boxed (by go_grown)
        go_wp2_with (at_builtin; refine wpList_append_apart rfl _ _ 22 rfl w1.heap.size 35 j0 (.agg #[.int .i64 0, .int .i64 0, .int .i64 0, .int .i64 0, .int .i64 0, .int .i64 0, .slice none 0 0, .bool false]) 8 80 Try.underlying22 hj hy0 hy1 hy2 rfl (by decide) _ _ _ rfl ((owns_below HO.out HBp.out).alloc _) ⟨wr.heap.size + 1 + 1, 0, none⟩ 1 1 (sv ⟨s.h, s.sp, s.st, s.sh, s.hy, s.ot, some ⟨wr.heap.size + 1, 0, none⟩, 0, 0, s.keep, s.R⟩).toList rfl rfl ?c1A ?c2A ?c3A ?c4A ?c5A ?c6A ?_)
        case c1A =>
          intro j u hj2
          rw [Addr.add_lit, Nat.zero_add]
          have h1 := cell_first (((wr.alloc (.cells #[.int .i64 s.h, .int .i64 s.sp, .int .i64 s.st, .int .i64 s.sh, .int .i64 s.hy, .int .i64 s.ot, .slice (some ⟨wr.heap.size + 1, 0, none⟩) 0 0, .bool s.keep] 35)).alloc (.cells #[] 45))) #[.int .i64 s.h, .int .i64 s.sp, .int .i64 s.st, .int .i64 s.sh, .int .i64 s.hy, .int .i64 s.ot, .slice (some ⟨wr.heap.size + 1, 0, none⟩) 0 0, .bool s.keep] 35 j
          rw [World.size_alloc, World.size_alloc] at h1
          exact h1.trans ((Array.getElem?_toList (xs := (#[.int .i64 s.h, .int .i64 s.sp, .int .i64 s.st, .int .i64 s.sh, .int .i64 s.hy, .int .i64 s.ot, .slice (some ⟨wr.heap.size + 1, 0, none⟩) 0 0, .bool s.keep] : Array Value))).symm.trans hj2)
        case c2A => exact sv_one _
        case c3A => unfold maxLen; omega
        case c4A => omega
        case c5A => simp; omega
        case c6A => omega
        intro v' w2 hown2 hgrow2 hwh2
        have HR := boxed (cop_round (F := F0) ⟨s.h, s.sp, s.st, s.sh, s.hy, s.ot, some ⟨wr.heap.size + 1, 0, none⟩, 0, 0, s.keep, s.R⟩ HO.out HC.out (by omega) (HBp.out.alloc HBp.out.size _) hgrow2 (by first | exact hwh2 | simpa using hwh2) hown2 (by rw [HS.out]; exact ⟨rfl, rfl, rfl, rfl, rfl, rfl, rfl, HR0.out.symm, rfl⟩) ⟨Nat.le_refl _, by simp⟩ (fun j hj => by simp at hj) (fun b off _ h0 => by simp at h0))
        have HBn : Box (Below w1.heap.size w1 w2) := boxed (HB.out.trans HR.out.2.2)
        clear hown2 hgrow2 hwh2 HBp HO HC
        go_wp2
        go_roundw
        case rel => exact ⟨k + 1, _, by omega, by go_num, boxed HR.out.1, boxed HR.out.2.1, HBn⟩
        case measure => simp [intOf]; omega
      | some ad =>
        by_cases hr0 : s.rn = 0
        · rw [hra, hr0] at c6
          have HR0 := boxed hr0
          clear hnil hrn hra hr0
          have HBp : Box (Below wr.heap.size wr (((wr.alloc (.cells #[.int .i64 s.h, .int .i64 s.sp, .int .i64 s.st, .int .i64 s.sh, .int .i64 s.hy, .int .i64 s.ot, .slice (some ⟨wr.heap.size + 1, 0, none⟩) 0 0, .bool s.keep] 35)).alloc (.cells #[] 45)))) := boxed (by go_grown)
          go_wp2_with (at_builtin; refine wpList_append_apart rfl _ _ 22 rfl w1.heap.size 35 j0 (.agg #[.int .i64 0, .int .i64 0, .int .i64 0, .int .i64 0, .int .i64 0, .int .i64 0, .slice none 0 0, .bool false]) 8 80 Try.underlying22 hj hy0 hy1 hy2 rfl (by decide) _ _ _ rfl ((owns_below HO.out HBp.out).alloc _) ⟨wr.heap.size + 1 + 1, 0, none⟩ 1 1 (sv ⟨s.h, s.sp, s.st, s.sh, s.hy, s.ot, some ⟨wr.heap.size + 1, 0, none⟩, 0, 0, s.keep, s.R⟩).toList rfl rfl ?c1B ?c2B ?c3B ?c4B ?c5B ?c6B ?_)
          case c1B =>
            intro j u hj2
            rw [Addr.add_lit, Nat.zero_add]
            have h1 := cell_first (((wr.alloc (.cells #[.int .i64 s.h, .int .i64 s.sp, .int .i64 s.st, .int .i64 s.sh, .int .i64 s.hy, .int .i64 s.ot, .slice (some ⟨wr.heap.size + 1, 0, none⟩) 0 0, .bool s.keep] 35)).alloc (.cells #[] 45))) #[.int .i64 s.h, .int .i64 s.sp, .int .i64 s.st, .int .i64 s.sh, .int .i64 s.hy, .int .i64 s.ot, .slice (some ⟨wr.heap.size + 1, 0, none⟩) 0 0, .bool s.keep] 35 j
            rw [World.size_alloc, World.size_alloc] at h1
            exact h1.trans ((Array.getElem?_toList (xs := (#[.int .i64 s.h, .int .i64 s.sp, .int .i64 s.st, .int .i64 s.sh, .int .i64 s.hy, .int .i64 s.ot, .slice (some ⟨wr.heap.size + 1, 0, none⟩) 0 0, .bool s.keep] : Array Value))).symm.trans hj2)
          case c2B => exact sv_one _
          case c3B => unfold maxLen; omega
          case c4B => omega
          case c5B => simp; omega
          case c6B => omega
          intro v' w2 hown2 hgrow2 hwh2
          have HR := boxed (cop_round (F := F0) ⟨s.h, s.sp, s.st, s.sh, s.hy, s.ot, some ⟨wr.heap.size + 1, 0, none⟩, 0, 0, s.keep, s.R⟩ HO.out HC.out (by omega) (HBp.out.alloc HBp.out.size _) hgrow2 (by first | exact hwh2 | simpa using hwh2) hown2 (by rw [HS.out]; exact ⟨rfl, rfl, rfl, rfl, rfl, rfl, rfl, HR0.out.symm, rfl⟩) ⟨Nat.le_refl _, by simp⟩ (fun j hj => by simp at hj) (fun b off _ h0 => by simp at h0))
          have HBn : Box (Below w1.heap.size w1 w2) := boxed (HB.out.trans HR.out.2.2)
          clear hown2 hgrow2 hwh2 HBp HO HC
          go_wp2
          go_roundw
          case rel => exact ⟨k + 1, _, by omega, by go_num, boxed HR.out.1, boxed HR.out.2.1, HBn⟩
          case measure => simp [intOf]; omega
        · obtain ⟨-, b', off', e', -, -⟩ := HRG.out 0 (by omega)
          rw [hra] at e'
          have e2 := Option.some.inj e'
          subst e2
          rw [hra] at c6
          have hrg' : RgsAt (fun _ => True) wr (some ⟨b', off', none⟩) s.rn s.R := by have := HRG.out; rw [hra] at this; exact this
          have HCe := boxed (rg_cells hrg')
          have HRO : Box (∀ j, j < s.rn → RgOk (s.R j)) := boxed (fun j hj => (hrg' j hj).1)
          clear hnil e' hrg' hra HRG
          have HOr : Box (∀ A, ((wr.alloc A).alloc (.cells #[] 45)).ownsRow wr.heap.size 45 3 (.slice (some ⟨wr.heap.size + 1, 0, none⟩) 0 0) 0 []) := boxed (by
            intro A
            have := World.ownsRow_lit (base := wr.heap.size) (e := 45) (size := 3) (wr.alloc A) #[] 0 (by simp) (by unfold maxLen; omega) (by simp)
            simpa using this)
          go_wp2_with (at_builtin; refine wpList_append_own _ rfl (.tmp 25) (.tmp 27) 33 rfl wr.heap.size 45 i0 (.agg #[.int .i64 0, .int .i64 0, .int .i64 0]) 3 24 Try.underlying33 hi hz0 hz1 hz2 rfl (by decide) _ _ _ rfl (HOr.out _) ⟨b', off', none⟩ s.rn s.rc (rgv s.R s.rn) rfl ?d0 ?d1 ?d2 ?d3 ?d4 ?d5 ?_)
          case d0 => rw [rgv_len]
          case d1 =>
            intro j u hj2
            refine hold (w := wr) (by go_grown) ?_
            rw [Addr.add_lit]
            exact HCe.out j u hj2
          case d2 => exact rgv_one s.R s.rn
          case d3 => unfold maxLen; omega
          case d4 => omega
          case d5 => simp; omega
          intro vr wq hownr hgrowr _
          have hbq : Below wr.heap.size wr wq := Below.grown (by go_grown) hgrowr (by simp; omega) (fun q hq => by simp [Value.ownBlock] at hq; omega)
          obtain ⟨gr, capr, rfl, hcap, hge, hrgq⟩ := rg_of_owns HRO.out hownr (by omega)
          have HFZ := boxed (fun i => hownr.frozenAt i)
          have hB0 : wq.heap[wr.heap.size]? = some (.cells #[.int .i64 s.h, .int .i64 s.sp, .int .i64 s.st, .int .i64 s.sh, .int .i64 s.hy, .int .i64 s.ot, .slice (some ⟨b', off', none⟩) s.rn s.rc, .bool s.keep] 35 (0, 0)) := by
            rw [hgrowr.block _ (by simp; omega) (by simp [Value.ownBlock])]
            rw [Below.heap_alloc _ _ _ (by simp)]
            exact heap_alloc_new wr _
          have hgn : gr ≠ wr.heap.size := by
            rcases hownr.2 with ⟨h, _⟩ | ⟨g', cap', cur, hv, _, hh, _⟩
            · cases h
            · injection hv with hv
              injection hv with hv
              injection hv with hv
              subst hv
              intro c; subst c; rw [hB0] at hh; injection hh with hh; injection hh with _ hh; revert hh; decide
          have f0 := row_cell hB0
          have z0 := row_free hB0
          have hwq : wr.heap.size < wq.heap.size := (Array.getElem?_eq_some_iff.1 hB0).1
          have hwqn : wq.heap.size ≠ wr.heap.size := by omega
          have hgl : gr < wq.heap.size := by
            obtain ⟨-, b2, o2, e2, -, c2', -, -⟩ := hrgq 0 (by omega)
            have e3 : gr = b2 := congrArg Addr.block (Option.some.inj e2)
            rw [e3]
            exact World.block_lt_of_cell? wq _ c2'
          have HGq := boxed hrgq
          have HBQ := boxed hbq
          have HGN := boxed hgn
          have HGL := boxed hgl
          clear hownr hgrowr hbq hrgq hB0 hgn hgl HOr HCe
          have HBp : Box (Below wr.heap.size wr ((wq.setCell ⟨wr.heap.size, 6, none⟩ (.slice (some ⟨gr, 0, none⟩) s.rn capr)))) := boxed (HBQ.out.setCell (p := ⟨wr.heap.size, 6, none⟩) (Nat.le_refl _) _)
          go_wp2_with (at_builtin; refine wpList_append_apart rfl _ _ 22 rfl w1.heap.size 35 j0 (.agg #[.int .i64 0, .int .i64 0, .int .i64 0, .int .i64 0, .int .i64 0, .int .i64 0, .slice none 0 0, .bool false]) 8 80 Try.underlying22 hj hy0 hy1 hy2 rfl (by decide) _ _ _ rfl ((owns_below HO.out HBp.out).alloc _) ⟨wq.heap.size, 0, none⟩ 1 1 (sv ⟨s.h, s.sp, s.st, s.sh, s.hy, s.ot, some ⟨gr, 0, none⟩, s.rn, capr, s.keep, s.R⟩).toList rfl rfl ?c1C ?c2C ?c3C ?c4C ?c5C ?c6C ?_)
          case c1C =>
            intro j u hj2
            rw [Addr.add_lit, Nat.zero_add]
            have h1 := cell_first ((wq.setCell ⟨wr.heap.size, 6, none⟩ (.slice (some ⟨gr, 0, none⟩) s.rn capr))) #[.int .i64 s.h, .int .i64 s.sp, .int .i64 s.st, .int .i64 s.sh, .int .i64 s.hy, .int .i64 s.ot, .slice (some ⟨gr, 0, none⟩) s.rn capr, .bool s.keep] 35 j
            rw [World.size_setCell] at h1
            exact h1.trans ((Array.getElem?_toList (xs := (#[.int .i64 s.h, .int .i64 s.sp, .int .i64 s.st, .int .i64 s.sh, .int .i64 s.hy, .int .i64 s.ot, .slice (some ⟨gr, 0, none⟩) s.rn capr, .bool s.keep] : Array Value))).symm.trans hj2)
          case c2C => exact sv_one _
          case c3C => unfold maxLen; omega
          case c4C => omega
          case c5C => simp; omega
          case c6C => omega
          intro v' w2 hown2 hgrow2 hwh2
          have HR := boxed (cop_round (F := F0) ⟨s.h, s.sp, s.st, s.sh, s.hy, s.ot, some ⟨gr, 0, none⟩, s.rn, capr, s.keep, s.R⟩ HO.out HC.out (by omega) (HBp.out.alloc HBp.out.size _) hgrow2 (by first | exact hwh2 | simpa using hwh2) hown2 (by rw [HS.out]; exact ⟨rfl, rfl, rfl, rfl, rfl, rfl, rfl, rfl, rfl⟩) ⟨hcap, by simp⟩ (HGq.out.keep (fun b i u hs hc => by subst hs; refine ⟨hge, ?_⟩; refine hold ((Below.refl _ _).alloc (Nat.le_refl _) _) ?_; rw [World.cell?_setCell_far _ _ _ _ (by show wr.heap.size ≠ _; exact HGN.out.symm)]; exact hc)) (fun b off e _ j => by have e1 : gr = b := congrArg Addr.block (Option.some.inj e); rw [← e1]; rw [((Below.refl _ _).alloc (Nat.le_refl _) _ : Below (wq.setCell ⟨wr.heap.size, 6, none⟩ (.slice (some ⟨gr, 0, none⟩) s.rn capr)).heap.size _ _).frozen (p := ⟨gr, j, none⟩) (by simp; exact HGL.out)]; rw [World.frozen?_setCell]; exact HFZ.out j))
          have HBn : Box (Below w1.heap.size w1 w2) := boxed (HB.out.trans HR.out.2.2)
          clear hown2 hgrow2 hwh2 HBp HO HC
          go_wp2
          go_roundw
          case rel => exact ⟨k + 1, _, by omega, by go_num, boxed HR.out.1, boxed HR.out.2.1, HBn⟩
          case measure => simp [intOf]; omega
    · have e : n0 = k := by omega
      subst e
      obtain ⟨wO, rfl⟩ : ∃ wO : World, wO = wr := ⟨_, rfl⟩
      obtain ⟨ag, capg, hv, hst, hgx⟩ := own_any HO.out HC.out HOK0.out
      have HLK : Box (∀ i, i < n0 → Like (F0 i) (H i)) := boxed (fun i hi => (HC.out i hi).1)
      subst hv
      have HGX := boxed hgx
      have HST := boxed hst
      have hta := table_or (fun _ => True) ag n0 capg H wO hst
      have t1 : decide ((n0 : Int) < (n0 : Int)) = false := decide_eq_false (by omega)
      have HWO : Box (Below w.heap.size w wO) := boxed (below_step HB1.out (Nat.le_refl _) HB.out)
      clear hgx hst HO HB
      go_wp2_with fail
      refine hta.mono ?_
      rintro e wA ⟨pa, rfl, ha, hba⟩
      have HWA := boxed (below_step HWO.out (Nat.le_refl _) hba)
      have HA := boxed ha
      have HBA := boxed hba
      clear hta ha hba
      go_wp2_with fail
      refine (htm.out wA HWA.out).mono ?_
      rintro e wB ⟨pb, rfl, hb, hbb⟩
      have HWB := boxed (below_step HWA.out (Nat.le_refl _) hbb)
      have HBb := boxed (hb.mono HBA.out.size)
      have HBB := boxed hbb
      clear htm hb hbb
      go_wp2_with fail
      refine (htb.out wB HWB.out).mono ?_
      rintro e wC ⟨pc, rfl, hc, hbc⟩
      have HWC := boxed (below_step HWB.out (Nat.le_refl _) hbc)
      have HBO : Box (Below wO.heap.size wO wC) := boxed (below_step (below_step HBA.out (Nat.le_refl _) HBB.out) (Nat.le_refl _) hbc)
      have HTa : Box (TabOr wO.heap.size wC pa H n0) := boxed ((HA.out.keep (kp_below HBB.out)).keep (kp_below hbc))
      have HTb : Box (TabOr wO.heap.size wC pb F1 n1) := boxed (HBb.out.keep (kp_below hbc))
      have HTc : Box (TabOr wO.heap.size wC pc F0 n0) := boxed (hc.mono (Nat.le_trans HBA.out.size HBB.out.size))
      have HCK : Box (ckc H n0 = ckc F0 n0) := boxed (ckc_like HLK.out)
      clear htb hc hbc HA HBb HBA HBB HWA HWB
      by_cases hz : ckc F0 n0 = 0
      · obtain ⟨hn, -, hfl⟩ := ckc_good F0 n0 hz
        obtain ⟨ta, Ga, epa, hTa, hLa⟩ : ∃ tb G, pa = some ⟨tb, 0, none⟩ ∧ TabAt wO.heap.size wC tb n0 G ∧ ∀ i, i < n0 → Like (H i) (G i) := by
          rcases HTa.out with ⟨e, -⟩ | ⟨-, h⟩
          · rw [HCK.out] at e; exact absurd hz e
          · exact h
        obtain ⟨tc, Gc, epc, hTc, hLc⟩ : ∃ tb G, pc = some ⟨tb, 0, none⟩ ∧ TabAt wO.heap.size wC tb n0 G ∧ ∀ i, i < n0 → Like (F0 i) (G i) := by
          rcases HTc.out with ⟨e, -⟩ | ⟨-, h⟩
          · exact absurd hz e
          · exact h
        subst epa; subst epc
        obtain ⟨g, eag, hg1, hg2, hg3, hg4⟩ := HGX.out (by omega)
        subst eag
        have HCg := boxed HC.out
        rw [hg3] at HCg
        have HINV : Box (Inv w wO.heap.size wC g n0 H wC) := boxed (Inv.start HCg.out HST.out hg4 hg2 hz1w HBO.out HWC.out)
        have hgb : w.heap.size ≤ g ∧ g < wO.heap.size := by omega
        have HRN : Box (∀ i, i < n0 → (H i).rn * 24 ≤ 140737488351232) := boxed (fun i hi => by rw [(HLK.out i hi).rn]; exact (HOK0.out i hi).rn.2)
        have HRA : Box (∀ i, i < n0 → ∀ j, j < (H i).rn → ∃ b off, (H i).ra = some ⟨b, off, none⟩) := boxed (fun i hi j hj => by
          obtain ⟨-, b, off, e, -⟩ := (HC.out i hi).2.2.1 j hj
          exact ⟨b, off, e⟩)
        have HTA := boxed hTa
        have HTC := boxed hTc
        have HLA : Box (∀ i, i < n0 → Like (F0 i) (Ga i)) := boxed (fun i hi => Like.trans (HLK.out i hi) (hLa i hi))
        have HLC := boxed hLc
        clear HC HCg HGX HST hg3 hg4 hg1 hTa hTc hLa hLc HTa HTc HCK hz hfl HBO HLK
        go_wp2
        go_loopw [11, 12] (fun i _ wq => ∃ k : Nat, k ≤ n0 ∧ i = .int .i64 (k : Int) ∧ Box (Inv w wO.heap.size wC g n0 H wq)) (fun i _ _ => n0 - (intOf i).toNat)
        case atStart => exact ⟨0, Nat.zero_le _, rfl, HINV⟩
        case round =>
          obtain ⟨wq, rfl⟩ : ∃ wq : World, wq = wr := ⟨_, rfl⟩
          obtain ⟨k, hk, rfl, HV⟩ := hrel
          by_cases hlt : k < n0
          · have hltI : (k : Int) < (n0 : Int) := by omega
            have q1 : decide ((k : Int) < (n0 : Int)) = true := decide_eq_true hltI
            obtain ⟨⟨v0, c0⟩, z0⟩ := HV.out.c0 k hlt
            have HV1 : Box (Inv w wO.heap.size wC g n0 H (wq.setCell ⟨g, k * 8, none⟩ (.int .i64 0))) := boxed (HV.out.put0 k hgb _)
            have hrn := HRN.out k hlt
            go_wp2
            generalize wq.setCell ⟨g, k * 8, none⟩ (.int .i64 0) = wS at *
            clear c0 z0 v0
            go_loopw [12] (fun i wz => ∃ j : Nat, j ≤ (H k).rn ∧ i = .int .i64 (j : Int) ∧ Box (Inv w wO.heap.size wC g n0 H wz)) (fun i _ => (H k).rn - (intOf i).toNat)
            case atStart => exact ⟨0, Nat.zero_le _, rfl, HV1⟩
            case round =>
              obtain ⟨wz, rfl⟩ : ∃ wz : World, wz = wr := ⟨_, rfl⟩
              obtain ⟨j, hj, rfl, HZ⟩ := hrel
              have d6 := HZ.out.c6 k hlt
              by_cases hjl : j < (H k).rn
              · obtain ⟨b, off, e⟩ := HRA.out k hlt j hjl
                obtain ⟨hbb, ⟨vz, cz⟩, zz⟩ := HZ.out.rg k hlt b off e j hjl
                have hjI : (j : Int) < ((H k).rn : Int) := by omega
                have q2 : decide ((j : Int) < ((H k).rn : Int)) = true := decide_eq_true hjI
                rw [e] at d6
                have HZ1 : Box (Inv w wO.heap.size wC g n0 H (wz.setCell ⟨b, off + j * 3 + 2, none⟩ (.int .i64 (-1)))) := boxed (HZ.out.putR b _ hbb _)
                go_wp2
                go_roundw
                case rel => exact ⟨j + 1, by omega, by go_num, HZ1⟩
                case measure => simp [intOf]; omega
              · have ej : j = (H k).rn := by omega
                have q2 : decide ((j : Int) < ((H k).rn : Int)) = false := decide_eq_false (by omega)
                go_wp2
                go_roundw
                case rel => exact ⟨k + 1, by omega, by go_num, HZ⟩
                case measure => simp [intOf]; omega
          · have q1 : decide ((k : Int) < (n0 : Int)) = false := decide_eq_false (by omega)
            have hta2 := HTA.out.keep HV.out.tab
            have htc2 := HTC.out.keep HV.out.tab
            have HTb2 := boxed (HTb.out.keep HV.out.tab)
            have s1 := same_any hta2 htc2
            rw [sameS_like HLA.out HLC.out, sameS_refl] at s1
            have HTA2 := boxed (fun w' (hb : Below wq.heap.size wq w') => hta2.below hb)
            have HTB2 := boxed (fun w' (hb : Below wq.heap.size wq w') => HTb2.out.keep (kp_below hb))
            have HVB := boxed HV.out.bel
            clear hta2 htc2 HTb2 HTb HTA HTC HINV HRA HRN HV
            go_wp2_with fail
            refine s1.mono ?_
            rintro e x1 ⟨rfl, hx1⟩
            have X1 := boxed hx1
            clear s1 hx1
            go_wp2_with fail
            refine (same_right x1 ta).mono ?_
            rintro e x2 ⟨rfl, hx2⟩
            have X2 := boxed (below_step X1.out (Nat.le_refl _) hx2)
            clear hx2 X1
            go_wp2_with fail
            refine (same_left x2 ta).mono ?_
            rintro e x3 ⟨rfl, hx3⟩
            have X3 := boxed (below_step X2.out (Nat.le_refl _) hx3)
            clear hx3 X2
            rcases HTB2.out x3 X3.out with ⟨-, e⟩ | ⟨hzb, tb, Gb, e, -, hLb⟩
            · subst e
              go_wp2
              go_ret
              exact ⟨rfl, below_step HVB.out (Nat.le_refl _) X3.out⟩
            · subst e
              have HAB : Box (∀ w', Below wq.heap.size wq w' → Calls Try.prog 31 #[.pointer (some ⟨ta, 0, none⟩), .pointer (some ⟨tb, 0, none⟩)] w' fun e w'' => e = .returned (.bool (sameS F0 n0 F1 n1)) ∧ Below w'.heap.size w' w'') := boxed (fun w' hb => by
                rcases HTB2.out w' hb with ⟨h, -⟩ | ⟨-, tb', Gb', e', hT', hL'⟩
                · exact absurd hzb h
                · have e2 : tb = tb' := congrArg Addr.block (Option.some.inj e')
                  subst e2
                  have := same_any (HTA2.out w' hb) hT'
                  rw [sameS_like HLA.out hL'] at this
                  exact this)
              have HBA2 : Box (∀ w', Below wq.heap.size wq w' → Calls Try.prog 31 #[.pointer (some ⟨tb, 0, none⟩), .pointer (some ⟨ta, 0, none⟩)] w' fun e w'' => e = .returned (.bool (sameS F0 n0 F1 n1)) ∧ Below w'.heap.size w' w'') := boxed (fun w' hb => by
                rcases HTB2.out w' hb with ⟨h, -⟩ | ⟨-, tb', Gb', e', hT', hL'⟩
                · exact absurd hzb h
                · have e2 : tb = tb' := congrArg Addr.block (Option.some.inj e')
                  subst e2
                  have := same_any hT' (HTA2.out w' hb)
                  rw [sameS_like hL' HLA.out, sameS_symm] at this
                  exact this)
              have HRS := boxed (fun w' (hb : Below wq.heap.size wq w') => hrs.out w' (below_step HVB.out (Nat.le_refl _) hb))
              clear HTB2 HTA2 hLb hzb hrs
              generalize sameS F0 n0 F1 n1 = E at *
              go_wp2_with fail
              refine (HAB.out _ X3.out).mono ?_
              rintro e x4 ⟨rfl, hx4⟩
              have X4 := boxed (below_step X3.out (Nat.le_refl _) hx4)
              clear hx4 X3
              go_wp2_with fail
              refine (HRS.out _ X4.out).mono ?_
              rintro e x5 ⟨rfl, hx5⟩
              have X5 := boxed (below_step X4.out (Nat.le_refl _) hx5)
              clear hx5 X4
              have qe : (E == E) = true := by simp
              go_wp2_with fail
              refine (HBA2.out _ X5.out).mono ?_
              rintro e x6 ⟨rfl, hx6⟩
              have X6 := boxed (below_step X5.out (Nat.le_refl _) hx6)
              clear hx6 X5
              go_wp2_with fail
              refine (HRS.out _ X6.out).mono ?_
              rintro e x7 ⟨rfl, hx7⟩
              have X7 := boxed (below_step X6.out (Nat.le_refl _) hx7)
              clear hx7 X6
              go_wp2
              go_ret
              exact ⟨by simp, below_step HVB.out (Nat.le_refl _) X7.out⟩
      · obtain rfl : pa = none := by
          rcases HTa.out with ⟨-, e⟩ | ⟨e, -⟩
          · exact e
          · rw [HCK.out] at e; exact absurd e hz
        obtain rfl : pc = none := by
          rcases HTc.out with ⟨-, e⟩ | ⟨e, -⟩
          · exact e
          · exact absurd e hz
        have haw := awakeNil_any pb wC (by
          rcases HTb.out with ⟨-, e⟩ | ⟨-, tb, G, e, -⟩
          · exact Or.inl e
          · exact Or.inr ⟨tb, e⟩)
        clear hz
        go_wp2_with (go_at_call 30; refine haw.mono ?_; rintro e w5 ⟨rfl, hb5⟩; have HB5 := boxed (below_step HWC.out (Nat.le_refl _) hb5); clear hb5 haw)
        go_ret
        exact ⟨rfl, HB5.out⟩

set_option maxRecDepth 100000 in
theorem lifted (os : Os) (started : os.Started) (H : Type) (enc : TypeId × Value → H) :
    ReturnsInHanded {} Try.checked os 8 .any (Rows.metricsSameSpec.pre6 enc Try.prog Try.f8 Rows.metricsSameRow.domain false) (Rows.metricsSameSpec.post enc Try.prog Try.f8 false true false false) := by
  refine returnsInHanded_of_change_sized (C := Try.checked) own started (by kernel_rfl) Try.func8
    (ChangeSpec.witness6 (enc := enc) (C := Try.checked) false ⟨#[], #[.slice none 0 0, .slice none 0 0], []⟩ 8 (by kernel_rfl) (by kernel_rfl) (by kernel_rfl) (by kernel_rfl)) ?_
  intro W base args ds gs before hval0 hW hcnd hsz0 _
  have hval : ∀ (j : Nat) t v, Try.f8.params[j]? = some t → args[j]? = some v → Value.okWide Try.prog W .any base t v := hval0
  have hsz : (DataW.weightsEach Try.prog (Try.f8.params.toList ++ Rows.metricsSameSpec.plain.varTypes Try.prog) (ds ++ gs)).all (· ≤ reachBytes) = true := hsz0
  have hW' := hW
  obtain ⟨p, q, hA0, hV, rfl, hfz, hnd⟩ := hW
  have hA : DataW.TrodAll enc Try.prog W 0 (fun _ => true) true Try.f8.params.toList args.toList ds p := hA0
  rw [Try.params8] at hA hval hsz
  obtain ⟨v0, vs0, d0, ds0, p0, q0, hargs, rfl, rfl, h0, r0⟩ := trodAll_cons hA
  obtain ⟨v1, vs1, d1, ds1, p1, q1, rfl, rfl, rfl, h1, r1⟩ := trodAll_cons r0
  obtain ⟨rfl, rfl, rfl⟩ := trodAll_nil r1
  obtain rfl : args = #[v0, v1] := by cases args; simp_all
  obtain ⟨rfl, rfl⟩ := trodVars_none hV
  obtain ⟨ao0, n0, cap0, rfl⟩ := okWide_slice Try.underlying22 (hval 0 22 v0 rfl rfl)
  have k0 := h0
  have lt0 : ∀ x ∈ p0, x.block < W.heap.size := by obtain ⟨m, hm⟩ := k0; exact DataW.trod_lt m _ _ _ hm
  obtain ⟨hn0, -, F0, hF0⟩ : (n0 ≤ cap0 ∧ cap0 * 80 ≤ 140737488351232) ∧ (ao0 = none → n0 = 0 ∧ cap0 = 0) ∧ ∃ F, StysAt (fun _ => True) W ao0 n0 F := by
    obtain ⟨fuel, hf⟩ := k0
    exact open_styles hf (fun n hn => by simpa using List.all_eq_true.1 hsz _ (DataW.weights_mem_each (j := 0) rfl rfl n hn))
  obtain ⟨ao1, n1, cap1, rfl⟩ := okWide_slice Try.underlying22 (hval 1 22 v1 rfl rfl)
  have k1 := h1
  have lt1 : ∀ x ∈ p1, x.block < W.heap.size := by obtain ⟨m, hm⟩ := k1; exact DataW.trod_lt m _ _ _ hm
  obtain ⟨hn1, -, F1, hF1⟩ : (n1 ≤ cap1 ∧ cap1 * 80 ≤ 140737488351232) ∧ (ao1 = none → n1 = 0 ∧ cap1 = 0) ∧ ∃ F, StysAt (fun _ => True) W ao1 n1 F := by
    obtain ⟨fuel, hf⟩ := k1
    exact open_styles hf (fun n hn => by simpa using List.all_eq_true.1 hsz _ (DataW.weights_mem_each (j := 1) rfl rfl n hn))
  clear hA0 hval0
  refine (walk W ao0 n0 cap0 F0 hn0 hF0 ao1 n1 cap1 F1 hn1 hF1).mono fun e W' ⟨he, hg⟩ => ?_
  subst he
  exact ⟨_, rfl, _, _, _, [], _, [], hW', trodAll_mk1 (shut_bool Try.underlying4 _), (trodAll_cons_mk (Below.trod laidOut (by kernel_rfl) (of_decide_eq_true (by kernel_rfl)) k0 hg lt0) (trodAll_cons_mk (Below.trod laidOut (by kernel_rfl) (of_decide_eq_true (by kernel_rfl)) k1 hg lt1) trodAll_mk0)), rfl, hg.frame _, fun h => by cases h⟩

theorem proved : Rows.MetricsSameSaid :=
  OpenClaim.holds_of_wide 8 Try.f8 rfl rfl rfl rfl rfl rfl rfl ⟨rfl, rfl, rfl, rfl, rfl⟩ rfl rfl rfl rfl rfl (by kernel_rfl) Try.func8 (by kernel_rfl)
    (of_decide_eq_true (by kernel_rfl)) (by unfold Func.isWrapper; first | (rw [if_pos (by decide +kernel)]; kernel_rfl) | (rw [if_neg (by decide +kernel)]; exact ⟨rfl, rfl⟩))
    (fun os started H enc _ => lifted os started H enc)
#print axioms proved
end Go.Proofs.Ytjfcpbnipkkjbaa.metricsSame
