/-
  For every list of styles and every number the law MetricsTells answers true and leaves its arguments as they were: of styles that are right a table tells each as it was given, and none beyond; what it told may be changed, and the table stays.
-/
import Derived.Test.YtjfcpbnipkkjbaaRows
import Derived.WalkKit
import Derived.ProofKit
import Derived.OpenShut
import Derived.SizedLaws
import Derived.ShutString
import Derived.ChangeOld
import Derived.Below
import Derived.Test.YtjfcpbnipkkjbaaMn
import Derived.Test.YtjfcpbnipkkjbaaMo
import Derived.Test.YtjfcpbnipkkjbaaMt
import Derived.Deep.CutRange
namespace Go.Proofs.Ytjfcpbnipkkjbaa.metricsTells
open Go.ChangeShapes Go.WideShapes Go.ChangeAt Go.RowKit
open Go.ChangeMaps (open_string shut_string)
set_option linter.unusedVariables false
set_option linter.unusedSimpArgs false

theorem own : ownKnob Try.prog.godebug = none := by kernel_rfl
theorem laidOut : laidOutB Try.prog = true := by kernel_rfl

set_option maxRecDepth 100000 in
set_option maxHeartbeats 40000000 in
theorem walk (w : World) (ao0 : Option Addr) (n0 cap0 : Nat) (F0 : Nat → Sty) (hn0 : n0 ≤ cap0 ∧ cap0 * 80 ≤ 140737488351232) (hF0 : StysAt (fun _ => True) w ao0 n0 F0) (a1 : Int) (w1 : (Lit.int .i64 a1).wf = true) :
    Calls Try.prog 4 #[.slice ao0 n0 cap0, .int .i64 a1] w fun e w' => e = .returned (.bool true) ∧ Below w.heap.size w w' := by
  have htb := fun w' (hb : Below w.heap.size w w') => table_any (fun _ => True) ao0 n0 cap0 F0 w' (hF0.below hb)
  have hof := fun w' (hb : Below w.heap.size w w') => refof_any (fun _ => True) ao0 n0 cap0 F0 w' (hF0.below hb) a1
  have HSA := boxed (fun w' (hb : Below w.heap.size w w') => (ofS_at (hF0.below hb) a1))
  clear hF0
  go_enter Try.func4, Try.ntmps4
  go_wp2_with fail
  refine (awake_any _).mono ?_
  rintro e w1 ⟨rfl, hb1⟩
  have HB1 := boxed hb1
  clear hb1
  go_wp2_with fail
  refine (htb _ HB1.out).mono ?_
  rintro e w2 ⟨hor, hb2⟩
  have HB2 := boxed (below_step HB1.out (Nat.le_refl _) hb2)
  clear hb2 htb
  rcases hor with ⟨hne, rfl⟩ | ⟨hz, tb, G, rfl, hT, hL⟩
  · go_wp2
    go_ret
    exact ⟨rfl, HB2.out⟩
  · have HLK := boxed (ofS_like hL a1)
    have HT := boxed (fun w' (hb : Below w2.heap.size w2 w') => hT.below hb)
    clear hT hL hz
    have hof2 := hof _ HB2.out
    unfold Sty.val at hof2
    clear hof
    generalize hsf : ofS F0 n0 a1 = s at *
    clear hsf
    go_wp2_with fail
    refine hof2.mono ?_
    rintro e w3 ⟨rfl, hb3⟩
    have H23 := boxed hb3
    clear hof2 hb3
    have hsp := space_any (HT.out _ (H23.out.alloc H23.out.size (.cells #[.int .i64 s.h, .int .i64 s.sp, .int .i64 s.st, .int .i64 s.sh, .int .i64 s.hy, .int .i64 s.ot, .slice s.ra s.rn s.rc, .bool s.keep] 35))) a1
    rw [HLK.out.sp, HLK.out.st, HLK.out.sh] at hsp
    go_wp2_with fail
    refine hsp.mono ?_
    rintro e w4 ⟨rfl, hb4⟩
    have hc6 : ∀ j, w4.cell? ⟨w3.heap.size, j, none⟩ = (#[.int .i64 s.h, .int .i64 s.sp, .int .i64 s.st, .int .i64 s.sh, .int .i64 s.hy, .int .i64 s.ot, .slice s.ra s.rn s.rc, .bool s.keep] : Array Value)[j]? := by
      intro j
      rw [hb4.cell (p := ⟨w3.heap.size, j, none⟩) (by simp)]
      exact cell_first _ _ _ _
    have H24 := boxed (below_step (H23.out.alloc H23.out.size _) (Nat.le_refl _) hb4)
    have HC6 := boxed hc6
    have h34 : w3.heap.size < w4.heap.size := by have := hb4.size; simp at this; omega
    clear hsp hb4 hc6
    have hck := tcheck_any (HT.out _ H24.out) a1
    have h3 : (0 ≤ a1 ∧ a1 < (n0 : Int)) ∨ a1 < 0 ∨ (0 ≤ a1 ∧ (n0 : Int) ≤ a1) := by omega
    have HHe : Box (∀ w', Below w4.heap.size w4 w' → Calls Try.prog 17 #[.pointer (some ⟨tb, 0, none⟩), .int .i64 a1] w' fun e w'' => e = .returned (.int .i64 s.h) ∧ Below w'.heap.size w' w'') := boxed (fun w' hb => by
      have := height_any (HT.out _ (below_step H24.out (Nat.le_refl _) hb)) a1
      rw [HLK.out.h] at this
      exact this)
    have HHy : Box (∀ w', Below w4.heap.size w4 w' → Calls Try.prog 18 #[.pointer (some ⟨tb, 0, none⟩), .int .i64 a1] w' fun e w'' => e = .returned (.int .i64 s.hy) ∧ Below w'.heap.size w' w'') := boxed (fun w' hb => by
      have := hyphen_any (HT.out _ (below_step H24.out (Nat.le_refl _) hb)) a1
      rw [HLK.out.hy] at this
      exact this)
    have HKe : Box (∀ w', Below w4.heap.size w4 w' → Calls Try.prog 19 #[.pointer (some ⟨tb, 0, none⟩), .int .i64 a1] w' fun e w'' => e = .returned (.bool s.keep) ∧ Below w'.heap.size w' w'') := boxed (fun w' hb => by
      have := keep_any (HT.out _ (below_step H24.out (Nat.le_refl _) hb)) a1
      rw [HLK.out.keep] at this
      exact this)
    have HCS : Box (∀ w', Below w4.heap.size w4 w' → w'.cell? ⟨w3.heap.size, 0, none⟩ = some (.int .i64 s.h) ∧ w'.cell? ⟨w3.heap.size, 1, none⟩ = some (.int .i64 s.sp) ∧ w'.cell? ⟨w3.heap.size, 2, none⟩ = some (.int .i64 s.st) ∧ w'.cell? ⟨w3.heap.size, 3, none⟩ = some (.int .i64 s.sh) ∧ w'.cell? ⟨w3.heap.size, 4, none⟩ = some (.int .i64 s.hy) ∧ w'.cell? ⟨w3.heap.size, 7, none⟩ = some (.bool s.keep)) := boxed (fun w' hb => ⟨hold hb (HC6.out 0), hold hb (HC6.out 1), hold hb (HC6.out 2), hold hb (HC6.out 3), hold hb (HC6.out 4), hold hb (HC6.out 7)⟩)
    have HB0 : Box (Below w4.heap.size w4 w4.drew) := boxed (Below.refl _ _).drew
    have hun : undef = Value.tuple #[] := rfl
    go_upto_region 8 with (fail)
    go_cut [55] from 28 (fun s55 wx => s55 = .bool false ∧ wx = w4)
    case first =>
      rcases h3 with c | c | c
      · rw [if_pos c] at hck
        have d1 : decide (0 ≤ a1) = true := decide_eq_true c.1
        have d2 : decide (a1 < (n0 : Int)) = true := decide_eq_true c.2
        have d3 : decide (a1 < 0) = false := decide_eq_false (by omega)
        have d4 : decide ((n0 : Int) ≤ a1) = false := decide_eq_false (by omega)
        clear c
        go_wp2_with (go_at_call 16; refine hck.mono ?_; rintro e w' ⟨rfl, hw'⟩; subst w')
        go_meet
        case rel => exact ⟨rfl, rfl⟩
      · rw [if_neg (by omega)] at hck
        have d1 : decide (0 ≤ a1) = false := decide_eq_false (by omega)
        have d2 : decide (a1 < (n0 : Int)) = true := decide_eq_true (by omega)
        have d3 : decide (a1 < 0) = true := decide_eq_true (by omega)
        have d4 : decide ((n0 : Int) ≤ a1) = false := decide_eq_false (by omega)
        clear c
        go_wp2_with (go_at_call 16; refine hck.mono ?_; rintro e w' ⟨rfl, hw'⟩; subst w')
        go_meet
        case rel => exact ⟨rfl, rfl⟩
      · rw [if_neg (by omega)] at hck
        have d1 : decide (0 ≤ a1) = true := decide_eq_true c.1
        have d2 : decide (a1 < (n0 : Int)) = false := decide_eq_false (by omega)
        have d3 : decide (a1 < 0) = false := decide_eq_false (by omega)
        have d4 : decide ((n0 : Int) ≤ a1) = true := decide_eq_true c.2
        clear c
        go_wp2_with (go_at_call 16; refine hck.mono ?_; rintro e w' ⟨rfl, hw'⟩; subst w')
        go_meet
        case rel => exact ⟨rfl, rfl⟩
    case rest =>
      obtain ⟨rfl, rfl⟩ := hcut
      clear h3 hck
      go_wp2
      go_region_held3 (fun w' => w'.cell? ⟨w3.heap.size, 0, none⟩ = some (.int .i64 s.h) ∧ w'.cell? ⟨w3.heap.size, 1, none⟩ = some (.int .i64 s.sp) ∧ w'.cell? ⟨w3.heap.size, 2, none⟩ = some (.int .i64 s.st) ∧ w'.cell? ⟨w3.heap.size, 3, none⟩ = some (.int .i64 s.sh) ∧ w'.cell? ⟨w3.heap.size, 4, none⟩ = some (.int .i64 s.hy) ∧ w'.cell? ⟨w3.heap.size, 7, none⟩ = some (.bool s.keep))
        (first | (with_reducible exact HCS.out _ HBk.out) | (with_reducible exact HCS.out _ HBy.out) | (with_reducible exact HCS.out _ HBh.out) | (with_reducible exact HCS.out _ HB0.out))
        (first
          | (go_at_call 17; refine (HHe.out _ HB0.out).mono ?_; rintro e wh ⟨rfl, hbh⟩; have HBh := boxed (below_step HB0.out (Nat.le_refl _) hbh); clear HHe hbh)
          | (go_at_call 18; refine (HHy.out _ HBh.out).mono ?_; rintro e wy ⟨rfl, hby⟩; have HBy := boxed (below_step HBh.out (Nat.le_refl _) hby); clear HHy hby)
          | (go_at_call 19; refine (HKe.out _ HBy.out).mono ?_; rintro e wk ⟨rfl, hbk⟩; have HBk := boxed (below_step HBy.out (Nat.le_refl _) hbk); clear HKe hbk))
      clear HBh HBy HB0 HCS hun
      have HTk := boxed (fun w' (hb : Below wk.heap.size wk w') => HT.out _ (below_step (below_step H24.out (Nat.le_refl _) HBk.out) (Nat.le_refl _) hb))
      have HWk : Box (Below w.heap.size w wk) := boxed (below_step (below_step HB2.out (Nat.le_refl _) H24.out) (Nat.le_refl _) HBk.out)
      have HCk : Box (∀ j, wk.cell? ⟨w3.heap.size, j, none⟩ = (#[.int .i64 s.h, .int .i64 s.sp, .int .i64 s.st, .int .i64 s.sh, .int .i64 s.hy, .int .i64 s.ot, .slice s.ra s.rn s.rc, .bool s.keep] : Array Value)[j]?) := boxed (fun j => (HBk.out.cell (p := ⟨w3.heap.size, j, none⟩) h34).trans (HC6.out j))
      have h3k : w3.heap.size < wk.heap.size := Nat.lt_of_lt_of_le h34 HBk.out.size
      have hst := style_free (HTk.out wk (Below.refl _ _)) a1
      simp only [Sty.val] at hst
      clear HBk HC6 H24 H23 HB1 HT h34
      go_wp2_with fail
      refine hst.mono ?_
      rintro e w6 ⟨g, rfl, hg1, hg2, hg3, hg4, hb6⟩
      have hlk : Like s g := Like.trans HLK.out hg1
      have HG2 := boxed hg2
      have HG4 := boxed hg4
      have hok : StyOk g := (HSA.out _ HWk.out).1.like hlk hg3.1 hg3.2
      have HOKg := boxed hok
      have H6 := boxed hb6
      have hz6 := hb6.size
      have HC66 := boxed (fun j => (hb6.cell (p := ⟨w3.heap.size, j, none⟩) h3k).trans (HCk.out j))
      have q6 := HC66.out 0
      have q61 := HC66.out 1
      have q62 := HC66.out 2
      have q63 := HC66.out 3
      have q64 := HC66.out 4
      have q65 := HC66.out 5
      have q66 := HC66.out 6
      have q67 := HC66.out 7
      have hne6 : w3.heap.size ≠ w6.heap.size := by omega
      have hlt6 : w3.heap.size < w6.heap.size := by omega
      simp at q6 q61 q62 q63 q64 q65 q66 q67
      have HSM := same_one hlk
      have hgr : g.rn * 24 ≤ 140737488351232 := hok.rn.2
      clear hst hg1 hg2 hg3 hg4 hb6 hok
      go_wp2_with fail
      have HW6 : Box (Below w.heap.size w w6) := boxed (below_step HWk.out (Nat.le_refl _) H6.out)
      have hWS : Below w6.heap.size w6 (((w6.alloc (.cells #[.int .i64 g.h, .int .i64 g.sp, .int .i64 g.st, .int .i64 g.sh, .int .i64 g.hy, .int .i64 g.ot, .slice g.ra g.rn g.rc, .bool g.keep] 35)).alloc (.cells #[.int .i64 g.h, .int .i64 g.sp, .int .i64 g.st, .int .i64 g.sh, .int .i64 g.hy, .int .i64 g.ot, .slice g.ra g.rn g.rc, .bool g.keep] 35)).alloc (.cells #[.int .i64 s.h, .int .i64 s.sp, .int .i64 s.st, .int .i64 s.sh, .int .i64 s.hy, .int .i64 s.ot, .slice s.ra s.rn s.rc, .bool s.keep] 35)) := by go_grown
      have f1 : (((w6.alloc (.cells #[.int .i64 g.h, .int .i64 g.sp, .int .i64 g.st, .int .i64 g.sh, .int .i64 g.hy, .int .i64 g.ot, .slice g.ra g.rn g.rc, .bool g.keep] 35)).alloc (.cells #[.int .i64 g.h, .int .i64 g.sp, .int .i64 g.st, .int .i64 g.sh, .int .i64 g.hy, .int .i64 g.ot, .slice g.ra g.rn g.rc, .bool g.keep] 35)).alloc (.cells #[.int .i64 s.h, .int .i64 s.sp, .int .i64 s.st, .int .i64 s.sh, .int .i64 s.hy, .int .i64 s.ot, .slice s.ra s.rn s.rc, .bool s.keep] 35)).heap[w6.heap.size + 1]? = some (.cells #[.int .i64 g.h, .int .i64 g.sp, .int .i64 g.st, .int .i64 g.sh, .int .i64 g.hy, .int .i64 g.ot, .slice g.ra g.rn g.rc, .bool g.keep] 35 (0, 0)) := by
        rw [Below.heap_alloc _ _ _ (by simp)]
        have := heap_alloc_new (w6.alloc (.cells #[.int .i64 g.h, .int .i64 g.sp, .int .i64 g.st, .int .i64 g.sh, .int .i64 g.hy, .int .i64 g.ot, .slice g.ra g.rn g.rc, .bool g.keep] 35)) (.cells #[.int .i64 g.h, .int .i64 g.sp, .int .i64 g.st, .int .i64 g.sh, .int .i64 g.hy, .int .i64 g.ot, .slice g.ra g.rn g.rc, .bool g.keep] 35)
        rw [World.size_alloc] at this
        exact this
      have f2 : (((w6.alloc (.cells #[.int .i64 g.h, .int .i64 g.sp, .int .i64 g.st, .int .i64 g.sh, .int .i64 g.hy, .int .i64 g.ot, .slice g.ra g.rn g.rc, .bool g.keep] 35)).alloc (.cells #[.int .i64 g.h, .int .i64 g.sp, .int .i64 g.st, .int .i64 g.sh, .int .i64 g.hy, .int .i64 g.ot, .slice g.ra g.rn g.rc, .bool g.keep] 35)).alloc (.cells #[.int .i64 s.h, .int .i64 s.sp, .int .i64 s.st, .int .i64 s.sh, .int .i64 s.hy, .int .i64 s.ot, .slice s.ra s.rn s.rc, .bool s.keep] 35)).heap[w6.heap.size + 1 + 1]? = some (.cells #[.int .i64 s.h, .int .i64 s.sp, .int .i64 s.st, .int .i64 s.sh, .int .i64 s.hy, .int .i64 s.ot, .slice s.ra s.rn s.rc, .bool s.keep] 35 (0, 0)) := by
        have := heap_alloc_new ((w6.alloc (.cells #[.int .i64 g.h, .int .i64 g.sp, .int .i64 g.st, .int .i64 g.sh, .int .i64 g.hy, .int .i64 g.ot, .slice g.ra g.rn g.rc, .bool g.keep] 35)).alloc (.cells #[.int .i64 g.h, .int .i64 g.sp, .int .i64 g.st, .int .i64 g.sh, .int .i64 g.hy, .int .i64 g.ot, .slice g.ra g.rn g.rc, .bool g.keep] 35)) (.cells #[.int .i64 s.h, .int .i64 s.sp, .int .i64 s.st, .int .i64 s.sh, .int .i64 s.hy, .int .i64 s.ot, .slice s.ra s.rn s.rc, .bool s.keep] 35)
        rw [World.size_alloc, World.size_alloc] at this
        exact this
      have f0 : (((w6.alloc (.cells #[.int .i64 g.h, .int .i64 g.sp, .int .i64 g.st, .int .i64 g.sh, .int .i64 g.hy, .int .i64 g.ot, .slice g.ra g.rn g.rc, .bool g.keep] 35)).alloc (.cells #[.int .i64 g.h, .int .i64 g.sp, .int .i64 g.st, .int .i64 g.sh, .int .i64 g.hy, .int .i64 g.ot, .slice g.ra g.rn g.rc, .bool g.keep] 35)).alloc (.cells #[.int .i64 s.h, .int .i64 s.sp, .int .i64 s.st, .int .i64 s.sh, .int .i64 s.hy, .int .i64 s.ot, .slice s.ra s.rn s.rc, .bool s.keep] 35)).cell? ⟨w6.heap.size, 6, none⟩ = some (.slice g.ra g.rn g.rc) := by
        refine hold (w := w6.alloc (.cells #[.int .i64 g.h, .int .i64 g.sp, .int .i64 g.st, .int .i64 g.sh, .int .i64 g.hy, .int .i64 g.ot, .slice g.ra g.rn g.rc, .bool g.keep] 35)) (by go_grown) ?_
        exact cell_first _ _ _ _
      have hrs := refsame_any (fun _ => True) (some ⟨w6.heap.size + 1, 0, none⟩) 1 1 (fun _ => g) (some ⟨w6.heap.size + 1 + 1, 0, none⟩) 1 1 (fun _ => s) _ (stys_one HOKg.out ((any_at HG2.out).below hWS) f1) (stys_one (HSA.out _ HW6.out).1 ((HSA.out _ HW6.out).2.below hWS) f2) (by unfold maxLen; omega)
      rw [HSM] at hrs
      refine hrs.mono ?_
      rintro e w8 ⟨rfl, hb8⟩
      have hz8 := hb8.size
      have H68 : Box (Below w6.heap.size w6 w8) := boxed (below_step hWS (Nat.le_refl _) hb8)
      have c06 := hold hb8 f0
      have hz68 : w6.heap.size < w8.heap.size := by simp at hz8; omega
      clear hrs hb8 f0 f1 f2 hWS q6 q61 q62 q63 q64 q65 q66 q67 hz8
      have HEX : Box (∀ b off, g.ra = some ⟨b, off, none⟩ → ∀ j, j < g.rn → (wk.heap.size ≤ b ∧ b < w6.heap.size) ∧ (∃ v, w8.cell? ⟨b, off + j * 3 + 2, none⟩ = some v) ∧ w8.frozen? ⟨b, off + j * 3 + 2, none⟩ = false) := boxed (by
        intro b off e j hj
        obtain ⟨-, b', off', e', hs', -, -, c2⟩ := HG2.out j hj
        rw [e] at e'
        have e1 : b = b' := congrArg Addr.block (Option.some.inj e')
        have e2 : off = off' := congrArg Addr.off (Option.some.inj e')
        subst e1; subst e2
        have hbl : b < w6.heap.size := World.block_lt_of_cell? w6 _ c2
        refine ⟨⟨hs', hbl⟩, ⟨_, hold H68.out c2⟩, ?_⟩
        rw [H68.out.frozen (p := ⟨b, off + j * 3 + 2, none⟩) hbl]
        exact HG4.out b off e (by omega) _)
      have HRA : Box (∀ j, j < g.rn → ∃ b off, g.ra = some ⟨b, off, none⟩) := boxed (fun j hj => by obtain ⟨-, b, off, e, -⟩ := HG2.out j hj; exact ⟨b, off, e⟩)
      have C06 := boxed c06
      clear c06
      go_wp2
      go_loopw [11] (fun i wr => ∃ k : Nat, k ≤ g.rn ∧ i = .int .i64 (k : Int) ∧ Box (Below wk.heap.size wk wr) ∧ Box (wr.cell? ⟨w6.heap.size, 6, none⟩ = some (.slice g.ra g.rn g.rc)) ∧ Box (∀ b off, g.ra = some ⟨b, off, none⟩ → ∀ j, j < g.rn → (∃ v, wr.cell? ⟨b, off + j * 3 + 2, none⟩ = some v) ∧ wr.frozen? ⟨b, off + j * 3 + 2, none⟩ = false)) (fun i _ => g.rn - (intOf i).toNat)
      case atStart => exact ⟨0, Nat.zero_le _, rfl, boxed (below_step H6.out (Nat.le_refl _) H68.out), C06, boxed (fun b off e j hj => (HEX.out b off e j hj).2)⟩
      case round =>
        obtain ⟨k, hk, rfl, HBr, HCr, HEr⟩ := hrel
        by_cases hlt : k < g.rn
        · obtain ⟨b, off, e⟩ := HRA.out k hlt
          obtain ⟨⟨v, hv⟩, hf⟩ := HEr.out b off e k hlt
          have hbb := (HEX.out b off e k hlt).1
          have hc := HCr.out
          rw [e] at hc
          have hltI : (k : Int) < (g.rn : Int) := by omega
          have t1 : decide ((k : Int) < (g.rn : Int)) = true := decide_eq_true hltI
          have HN : Box (Below wk.heap.size wk (wr.setCell ⟨b, off + k * 3 + 2, none⟩ (.int .i64 (-1))) ∧ (wr.setCell ⟨b, off + k * 3 + 2, none⟩ (.int .i64 (-1))).cell? ⟨w6.heap.size, 6, none⟩ = some (.slice g.ra g.rn g.rc) ∧ ∀ b' off', g.ra = some ⟨b', off', none⟩ → ∀ j, j < g.rn → (∃ v, (wr.setCell ⟨b, off + k * 3 + 2, none⟩ (.int .i64 (-1))).cell? ⟨b', off' + j * 3 + 2, none⟩ = some v) ∧ (wr.setCell ⟨b, off + k * 3 + 2, none⟩ (.int .i64 (-1))).frozen? ⟨b', off' + j * 3 + 2, none⟩ = false) := boxed (by
            refine ⟨HBr.out.setCell hbb.1 _, ?_, ?_⟩
            · rw [World.cell?_setCell_far _ _ _ _ (by show b ≠ w6.heap.size; omega)]
              exact HCr.out
            · intro b' off' e' j hj
              obtain ⟨⟨u, hu⟩, hfz⟩ := HEr.out b' off' e' j hj
              exact ⟨cell?_setCell_some hu, by rw [World.frozen?_setCell]; exact hfz⟩)
          go_wp2
          go_roundw
          case rel => exact ⟨k + 1, by omega, by go_num, boxed HN.out.1, boxed HN.out.2.1, boxed HN.out.2.2⟩
          case measure => simp [intOf]; omega
        · have e : k = g.rn := by omega
          have hc := HCr.out
          have t1 : decide ((k : Int) < (g.rn : Int)) = false := decide_eq_false (by omega)
          have HRW : Box (∀ w', Below wr.heap.size wr w' → w'.cell? ⟨w3.heap.size, 0, none⟩ = some (.int .i64 s.h) ∧ w'.cell? ⟨w3.heap.size, 1, none⟩ = some (.int .i64 s.sp) ∧ w'.cell? ⟨w3.heap.size, 2, none⟩ = some (.int .i64 s.st) ∧ w'.cell? ⟨w3.heap.size, 3, none⟩ = some (.int .i64 s.sh) ∧ w'.cell? ⟨w3.heap.size, 4, none⟩ = some (.int .i64 s.hy) ∧ w'.cell? ⟨w3.heap.size, 5, none⟩ = some (.int .i64 s.ot) ∧ w'.cell? ⟨w3.heap.size, 6, none⟩ = some (.slice s.ra s.rn s.rc) ∧ w'.cell? ⟨w3.heap.size, 7, none⟩ = some (.bool s.keep)) := boxed (fun w' hb => by
            have hq : ∀ j, wr.cell? ⟨w3.heap.size, j, none⟩ = (#[.int .i64 s.h, .int .i64 s.sp, .int .i64 s.st, .int .i64 s.sh, .int .i64 s.hy, .int .i64 s.ot, .slice s.ra s.rn s.rc, .bool s.keep] : Array Value)[j]? := fun j => (HBr.out.cell (p := ⟨w3.heap.size, j, none⟩) h3k).trans (HCk.out j)
            exact ⟨hold hb (hq 0), hold hb (hq 1), hold hb (hq 2), hold hb (hq 3), hold hb (hq 4), hold hb (hq 5), hold hb (hq 6), hold hb (hq 7)⟩)
          have hzr := HBr.out.size
          have HST2 := boxed (fun w' (hb : Below wr.heap.size wr w') => style_free (HTk.out w' (HBr.out.trans (hb.mono hzr))) a1)
          simp only [Sty.val] at HST2
          have HSAr := boxed (fun w' (hb : Below wr.heap.size wr w') => HSA.out w' (below_step (HWk.out.trans (HBr.out.mono HWk.out.size)) (Nat.le_refl _) hb))
          obtain ⟨r0, r1, r2, r3, r4, r5, r6, r7⟩ := HRW.out wr (Below.refl _ _)
          have h3r : w3.heap.size < wr.heap.size := by omega
          have h3rn : w3.heap.size ≠ wr.heap.size := by omega
          go_wp2
          go_region_with (first
            | (go_at_call 20; refine (HST2.out _ (by go_grown)).mono ?_; rintro e w9 ⟨g2, rfl, k1, k2, k3, -, hb9⟩; have hw9 : Below wr.heap.size wr w9 := below_step (by go_grown) (Nat.le_refl _) hb9; obtain ⟨z0, z1, z2, z3, z4, z5, z6, z7⟩ := HRW.out w9 hw9; have K1 := boxed k1; have K2 := boxed k2; have K3 := boxed k3; have H9 := boxed hw9; have HB9 := boxed hb9; have z3n : w3.heap.size ≠ w9.heap.size := Nat.ne_of_lt (Nat.lt_of_lt_of_le h3r hw9.size); have z3l : w3.heap.size < w9.heap.size := Nat.lt_of_lt_of_le h3r hw9.size; clear k1 k2 k3 hb9 hw9)
            | (go_at_call 21; refine (same_two _ g2 s _ _ ((HSAr.out wr (Below.refl _ _)).1.like (Like.trans HLK.out K1.out) K3.out.1 K3.out.2) (HSAr.out wr (Below.refl _ _)).1 ((any_at K2.out).below (by go_grown)) ((HSAr.out _ (below_step H9.out (Nat.le_refl _) (by go_grown))).2) (Like.trans HLK.out K1.out) (by first | (with_reducible exact fun j => cell_first _ _ _ j) | (with_reducible exact fun j => cell_second _ _ _ _ j) | (with_reducible exact fun j => cell_first2 _ _ _ _ j)) (by first | (with_reducible exact fun j => cell_first _ _ _ j) | (with_reducible exact fun j => cell_second _ _ _ _ j) | (with_reducible exact fun j => cell_first2 _ _ _ _ j) | exact fun j => (((Below.refl _ _).alloc (Nat.le_refl _) _ : Below w9.heap.size w9 _).cell (p := ⟨wr.heap.size, j, none⟩) (by have := HB9.out.size; simp at this; show wr.heap.size < _; omega)).trans ((HB9.out.cell (p := ⟨wr.heap.size, j, none⟩) (by simp)).trans (cell_first wr _ _ j)))).mono ?_; rintro e w10 ⟨rfl, hb10⟩; have H10 : Box (Below wr.heap.size wr w10) := boxed (below_step (below_step H9.out (Nat.le_refl _) (by go_grown)) (Nat.le_refl _) hb10); clear hb10))
          all_goals (go_wp2; go_ret; exact ⟨rfl, below_step (HWk.out.trans (HBr.out.mono HWk.out.size)) (Nat.le_refl _) H10.out⟩)

set_option maxRecDepth 100000 in
theorem lifted (os : Os) (started : os.Started) (H : Type) (enc : TypeId × Value → H) :
    ReturnsInHanded {} Try.checked os 4 .any (Rows.metricsTellsSpec.pre6 enc Try.prog Try.f4 Rows.metricsTellsRow.domain false) (Rows.metricsTellsSpec.post enc Try.prog Try.f4 false true false false) := by
  refine returnsInHanded_of_change_sized (C := Try.checked) own started (by kernel_rfl) Try.func4
    (ChangeSpec.witness6 (enc := enc) (C := Try.checked) false ⟨#[], #[.slice none 0 0, .int .i64 0], []⟩ 8 (by kernel_rfl) (by kernel_rfl) (by kernel_rfl) (by kernel_rfl)) ?_
  intro W base args ds gs before hval0 hW hcnd hsz0 _
  have hval : ∀ (j : Nat) t v, Try.f4.params[j]? = some t → args[j]? = some v → Value.okWide Try.prog W .any base t v := hval0
  have hsz : (DataW.weightsEach Try.prog (Try.f4.params.toList ++ Rows.metricsTellsSpec.plain.varTypes Try.prog) (ds ++ gs)).all (· ≤ reachBytes) = true := hsz0
  have hW' := hW
  obtain ⟨p, q, hA0, hV, rfl, hfz, hnd⟩ := hW
  have hA : DataW.TrodAll enc Try.prog W 0 (fun _ => true) true Try.f4.params.toList args.toList ds p := hA0
  rw [Try.params4] at hA hval hsz
  obtain ⟨v0, vs0, d0, ds0, p0, q0, hargs, rfl, rfl, h0, r0⟩ := trodAll_cons hA
  obtain ⟨v1, vs1, d1, ds1, p1, q1, rfl, rfl, rfl, h1, r1⟩ := trodAll_cons r0
  obtain ⟨rfl, rfl, rfl⟩ := trodAll_nil r1
  obtain rfl : args = #[v0, v1] := by cases args; simp_all
  obtain ⟨rfl, rfl⟩ := trodVars_none hV
  obtain ⟨ao0, n0, cap0, rfl⟩ := okWide_slice Try.underlying22 (hval 0 22 v0 rfl rfl)
  have k0 := h0
  have lt0 : ∀ x ∈ p0, x.block < W.heap.size := by obtain ⟨m, hm⟩ := k0; exact DataW.trod_lt m _ _ _ hm
  obtain ⟨hn0, -, F0, hF0⟩ : (n0 ≤ cap0 ∧ cap0 * 80 ≤ 140737488351232) ∧ (ao0 = none → n0 = 0 ∧ cap0 = 0) ∧ ∃ F, StysAt (fun _ => True) W ao0 n0 F := by
    obtain ⟨fuel, hf⟩ := k0
    exact open_styles hf (fun n hn => by simpa using List.all_eq_true.1 hsz _ (DataW.weights_mem_each (j := 0) rfl rfl n hn))
  obtain ⟨a1, rfl, rfl, rfl, w1⟩ := open_int Try.underlying3 (hval 1 3 v1 rfl rfl) h1
  clear hA0 hval0
  refine (walk W ao0 n0 cap0 F0 hn0 hF0 a1 w1).mono fun e W' ⟨he, hg⟩ => ?_
  subst he
  exact ⟨_, rfl, _, _, _, [], _, [], hW', trodAll_mk1 (shut_bool Try.underlying4 _), (trodAll_cons_mk (Below.trod laidOut (by kernel_rfl) (of_decide_eq_true (by kernel_rfl)) k0 hg lt0) (trodAll_cons_mk (shut_int Try.underlying3 w1) trodAll_mk0)), rfl, hg.frame _, fun h => by cases h⟩

theorem proved : Rows.MetricsTellsSaid :=
  OpenClaim.holds_of_wide 4 Try.f4 rfl rfl rfl rfl rfl rfl rfl ⟨rfl, rfl, rfl, rfl, rfl⟩ rfl rfl rfl rfl rfl (by kernel_rfl) Try.func4 (by kernel_rfl)
    (of_decide_eq_true (by kernel_rfl)) (by unfold Func.isWrapper; first | (rw [if_pos (by decide +kernel)]; kernel_rfl) | (rw [if_neg (by decide +kernel)]; exact ⟨rfl, rfl⟩))
    (fun os started H enc _ => lifted os started H enc)
#print axioms proved
end Go.Proofs.Ytjfcpbnipkkjbaa.metricsTells
