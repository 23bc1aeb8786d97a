/-
  What the program's New answers: the first fault, or a table that keeps styles alike in new memory.
-/
import Derived.Test.YtcdcpmcjlchfgaaMf
namespace Go.Proofs.Ytcdcpmcjlchfgaa
open Go.RowKit
set_option linter.unusedSimpArgs false
set_option linter.unusedVariables false

/-- Styles in the block bs, their ranges in blocks from B on. -/
def StysIn (w : World) (bs n : Nat) (G : Nat → Sty) (B : Nat) : Prop := ∀ i, i < n → StyOk (G i) ∧ RgsAt (fun b => B ≤ b) w (G i).ra (G i).rn (G i).R ∧
    w.cell? ⟨bs, i * 8, none⟩ = some (.int .i64 (G i).h) ∧ w.cell? ⟨bs, i * 8 + 1, none⟩ = some (.int .i64 (G i).sp) ∧ w.cell? ⟨bs, i * 8 + 2, none⟩ = some (.int .i64 (G i).st) ∧
    w.cell? ⟨bs, i * 8 + 3, none⟩ = some (.int .i64 (G i).sh) ∧ w.cell? ⟨bs, i * 8 + 4, none⟩ = some (.int .i64 (G i).hy) ∧ w.cell? ⟨bs, i * 8 + 5, none⟩ = some (.int .i64 (G i).ot) ∧
    w.cell? ⟨bs, i * 8 + 6, none⟩ = some (.slice (G i).ra (G i).rn (G i).rc) ∧ w.cell? ⟨bs, i * 8 + 7, none⟩ = some (.bool (G i).keep)
theorem StysIn.at {w : World} {bs n : Nat} {G : Nat → Sty} {B C : Nat} (h : StysIn w bs n G B) (h1 : C ≤ bs) (h2 : C ≤ B) : StysAt (fun b => C ≤ b) w (some ⟨bs, 0, none⟩) n G := by
  intro i hi
  obtain ⟨k1, k2, c0, c1, c2, c3, c4, c5, c6, c7⟩ := h i hi
  refine ⟨k1, k2.keep (fun b i u hs hc => ⟨Nat.le_trans h2 hs, hc⟩), bs, 0, rfl, h1, ?_⟩
  rw [Nat.zero_add]
  exact ⟨c0, c1, c2, c3, c4, c5, c6, c7⟩
theorem StysIn.below {w w' : World} {bs n : Nat} {G : Nat → Sty} {B : Nat} (h : StysIn w bs n G B) (hb : Below w.heap.size w w') : StysIn w' bs n G B := by
  intro i hi
  obtain ⟨k1, k2, c0, c1, c2, c3, c4, c5, c6, c7⟩ := h i hi
  exact ⟨k1, k2.below hb, hold hb c0, hold hb c1, hold hb c2, hold hb c3, hold hb c4, hold hb c5, hold hb c6, hold hb c7⟩
/-- One style more. -/
theorem StysIn.put {w : World} {bs m : Nat} {G : Nat → Sty} {B : Nat} (h : StysIn w bs m G B) (g : Sty) (hg : StyOk g) (hr : RgsAt (fun b => B ≤ b) w g.ra g.rn g.R) (hB : bs < B) (hc : ∀ j, j < 8 → ∃ v, w.cell? ⟨bs, m * 8 + j, none⟩ = some v) :
    StysIn (put8 w bs (m * 8) g) bs (m + 1) (fun i => if i = m then g else G i) B := by
  have kp : Kp (fun b => B ≤ b) (fun b => B ≤ b) w (put8 w bs (m * 8) g) := fun b i u hs hu => ⟨hs, by rw [put8_far _ _ _ _ _ _ (Or.inl (show b ≠ bs by have : B ≤ b := hs; omega))]; exact hu⟩
  intro i hi
  by_cases c : i = m
  · subst c
    simp only [if_pos]
    exact ⟨hg, hr.keep kp, put8_at _ _ _ _ hc⟩
  · simp only [if_neg c]
    obtain ⟨k1, k2, c0, c1, c2, c3, c4, c5, c6, c7⟩ := h i (by omega)
    have hf : ∀ j, j < 8 → (put8 w bs (m * 8) g).cell? ⟨bs, i * 8 + j, none⟩ = w.cell? ⟨bs, i * 8 + j, none⟩ := fun j hj => put8_far _ _ _ _ _ _ (Or.inr (Or.inl (by omega)))
    exact ⟨k1, k2.keep kp, (hf 0 (by omega)).trans c0, (hf 1 (by omega)).trans c1, (hf 2 (by omega)).trans c2, (hf 3 (by omega)).trans c3, (hf 4 (by omega)).trans c4, (hf 5 (by omega)).trans c5, (hf 6 (by omega)).trans c6, (hf 7 (by omega)).trans c7⟩

set_option maxRecDepth 100000 in
set_option maxHeartbeats 4000000 in
theorem new_any (S : Nat → Prop) (ao : Option Addr) (n cap : Nat) (F : Nat → Sty) (w : World) (hF : StysAt S w ao n F) :
    Calls Try.prog 30 #[.slice ao n cap] w fun e w' => ((ckc F n ≠ 0 ∧ e = .returned (.tuple #[.pointer none, .int .i64 (ckc F n), .int .i64 (ckp F n : Nat)])) ∨
      (ckc F n = 0 ∧ ∃ tb G, e = .returned (.tuple #[.pointer (some ⟨tb, 0, none⟩), .int .i64 0, .int .i64 0]) ∧ TabAt w.heap.size w' tb n G ∧ ∀ i, i < n → Like (F i) (G i))) ∧ Below w.heap.size w w' := by
  by_cases h1 : n = 0
  · subst h1
    clear hF
    go_enter Try.func30, Try.ntmps30
    go_wp2
    refine bodyPost_ret (v := .tuple #[.pointer none, .int .i64 40, .int .i64 0]) (by simp [results, Try.results30, go_sem]) rfl ⟨Or.inl ⟨by first | decide | (unfold ckc; simp), rfl⟩, Below.refl _ _⟩
  have t1 : ((n : Int) == 0) = false := by rw [beq_eq_false_iff_ne]; omega
  by_cases h2 : 32 < n
  · have t2 : decide ((32 : Int) < (n : Int)) = true := decide_eq_true (by omega)
    have e1 : ckc F n = 40 := by unfold ckc; rw [if_pos (Or.inr h2)]
    have e2 : ckp F n = 0 := by unfold ckp; rw [if_pos (Or.inr h2)]
    rw [e1, e2]
    clear h1 hF
    go_enter Try.func30, Try.ntmps30
    go_wp2
    refine bodyPost_ret (v := .tuple #[.pointer none, .int .i64 40, .int .i64 0]) (by simp [results, Try.results30, go_sem]) rfl ⟨Or.inl ⟨by first | decide | (unfold ckc; simp), rfl⟩, Below.refl _ _⟩
  have t2 : decide ((32 : Int) < (n : Int)) = false := decide_eq_false (by omega)
  have HC : Box (ckc F n = ffc F n) := boxed (by unfold ckc; rw [if_neg (by omega)])
  have HP : Box (ckp F n = ffp F n) := boxed (by unfold ckp; rw [if_neg (by omega)])
  have HF := boxed hF
  have hn32 : n ≤ 32 := by omega
  obtain ⟨i0, hi, hz0, hz1, hz2x⟩ := info_parts info_style
  clear hF h2
  go_enter Try.func30, Try.ntmps30
  go_wp2
  go_loopw [5, 6, 7, 21] (fun _ _ _ i wr => ∃ k : Nat, k ≤ n ∧ i = .int .i64 (k : Int) ∧ Box (ffc F k = 0) ∧ Box (Below w.heap.size w wr)) (fun _ _ _ i _ => n - (intOf i).toNat)
  case atStart => exact ⟨0, Nat.zero_le _, rfl, boxed rfl, boxed (Below.refl _ _)⟩
  case round =>
    obtain ⟨k, hk, rfl, H0, HB⟩ := hrel
    by_cases hlt : k < n
    · obtain ⟨hok, hrg, b, off, e, -, c0, c1, c2, c3, c4, c5, c6, c7⟩ := (HF.out.below HB.out) k hlt
      subst e
      have hst := fun w' (hb : Below wr.heap.size wr w') => fault_any S (F k) w' hok (hrg.below hb)
      have HH := boxed (fun h => ffc_hit F k n H0.out h hlt)
      have HN := boxed (ffc_next F k H0.out)
      unfold Sty.val at hst
      clear hok hrg
      generalize F k = s at *
      have t3 : decide ((k : Int) < (n : Int)) = true := decide_eq_true (by omega)
      go_wp2_with fail
      refine (hst _ (by go_grown)).mono ?_
      rintro e w1 ⟨rfl, hb1⟩
      have HB1 := boxed (below_step (HB.out.alloc HB.out.size _) (Nat.le_refl _) hb1)
      clear hst hb1 c0 c1 c2 c3 c4 c5 c6 c7
      by_cases hz : flt s = 0
      · have HZ := boxed hz
        have tz : (flt s != 0) = false := by simpa using hz
        clear hz
        generalize flt s = V at *
        go_wp2
        go_roundw
        case rel => exact ⟨k + 1, by omega, by go_num, boxed (HN.out HZ.out), HB1⟩
        case measure => simp [intOf]; omega
      · have HZ := boxed hz
        have tz : (flt s != 0) = true := by simpa using hz
        clear hz
        have HV := boxed (HH.out HZ.out)
        clear HN HH
        generalize flt s = V at *
        go_wp2
        refine bodyPost_ret (v := .tuple #[.pointer none, .int .i64 V, .int .i64 (k : Int)]) (by simp [results, Try.results30, go_sem]) rfl ⟨Or.inl ⟨by rw [HC.out, HV.out.1]; exact HZ.out, by rw [HC.out, HP.out, HV.out.1, HV.out.2]⟩, HB1.out⟩
    · have e : k = n := by omega
      subst e
      have hmk := fun w => run_make (P := Try.prog) w 38 73 i0 _ Try.underlying38 hi hz0 .i64 .i64 (k : Int) (k : Int) (by omega) (Int.le_refl _) (by rw [hz2x]; omega) (by omega)
      simp only [Int.toNat_natCast, hz1] at hmk
      have hlen : (madeCells (Value.agg #[.int .i64 0, .int .i64 0, .int .i64 0, .int .i64 0, .int .i64 0, .int .i64 0, .slice none 0 0, .bool false]).cells (k * 8)).size = k * 8 := size_madeCells _ _
      generalize madeCells (Value.agg #[.int .i64 0, .int .i64 0, .int .i64 0, .int .i64 0, .int .i64 0, .int .i64 0, .slice none 0 0, .bool false]).cells (k * 8) = MC at *
      have HM := boxed hlen
      clear hlen
      go_wp2
      obtain ⟨wo, rfl⟩ : ∃ wo : World, wo = wr := ⟨_, rfl⟩
      have hBo := HB.out.size
      go_loopw [9, 10, 40] (fun _ _ i wx => ∃ (m : Nat) (G : Nat → Sty), m ≤ k ∧ i = .int .i64 (m : Int) ∧ Box (∀ i, i < m → Like (F i) (G i)) ∧ Box (StysIn wx wo.heap.size m G (wo.heap.size + 1)) ∧ Box (Below w.heap.size w wx) ∧
          Box (wx.cell? ⟨wo.heap.size + 1, 0, none⟩ = some (.slice (some ⟨wo.heap.size, 0, none⟩) k k)) ∧ Box (∀ j, j < k * 8 → (∃ v, wx.cell? ⟨wo.heap.size, j, none⟩ = some v) ∧ wx.frozen? ⟨wo.heap.size, j, none⟩ = false) ∧ wo.heap.size + 1 < wx.heap.size) (fun _ _ i _ => k - (intOf i).toNat)
      case atStart =>
        refine ⟨0, F, Nat.zero_le _, rfl, boxed (fun i hi => by omega), boxed (fun i hi => by omega), boxed (by have hb := HB.out; go_grown), boxed ?_, boxed ?_, by simp⟩
        · exact (cell_second _ _ _ _ _)
        · intro j hj
          have hh : ((wo.alloc (.cells MC 73)).alloc (.cells #[.slice (some ⟨wo.heap.size, 0, none⟩) k k] 102)).heap[wo.heap.size]? = some (.cells MC 73 (0, 0)) := by
            rw [Below.heap_alloc _ _ _ (by simp)]
            exact heap_alloc_new wo _
          refine ⟨⟨MC[j]'(by rw [HM.out]; exact hj), ?_⟩, row_free hh j⟩
          rw [row_cell hh]
          exact Array.getElem?_eq_getElem _
      case round =>
        obtain ⟨wx, rfl⟩ : ∃ wx : World, wx = wr := ⟨_, rfl⟩
        obtain ⟨m, G, hm, rfl, HL, HG, HBx, HT, HE, hsx⟩ := hrel
        by_cases hmk2 : m < k
        · obtain ⟨hok, hrg, b, off, e, -, c0, c1, c2, c3, c4, c5, c6, c7⟩ := (HF.out.below HBx.out) m hmk2
          subst e
          have hbl : b < wx.heap.size := World.block_lt_of_cell? wx _ c0
          have hap := fun w' (hb : Below wx.heap.size wx w') => apart_any S (F m) w' hok (hrg.below hb)
          have HOK := boxed hok
          simp only [Sty.val] at hap
          clear hok hrg
          generalize hs : F m = s at *
          have HS := boxed hs
          clear hs
          obtain ⟨⟨v0, x0⟩, z0⟩ := HE.out (m * 8) (by omega)
          obtain ⟨⟨v1, x1⟩, z1⟩ := HE.out (m * 8 + 1) (by omega)
          obtain ⟨⟨v2, x2⟩, z2⟩ := HE.out (m * 8 + 2) (by omega)
          obtain ⟨⟨v3, x3⟩, z3⟩ := HE.out (m * 8 + 3) (by omega)
          obtain ⟨⟨v4, x4⟩, z4⟩ := HE.out (m * 8 + 4) (by omega)
          obtain ⟨⟨v5, x5⟩, z5⟩ := HE.out (m * 8 + 5) (by omega)
          obtain ⟨⟨v6, x6⟩, z6⟩ := HE.out (m * 8 + 6) (by omega)
          obtain ⟨⟨v7, x7⟩, z7⟩ := HE.out (m * 8 + 7) (by omega)
          have HX := boxed (And.intro x0 (And.intro x1 (And.intro x2 (And.intro x3 (And.intro x4 (And.intro x5 (And.intro x6 x7)))))))
          have HZ := boxed (And.intro z0 (And.intro z1 (And.intro z2 (And.intro z3 (And.intro z4 (And.intro z5 (And.intro z6 z7)))))))
          clear x0 x1 x2 x3 x4 x5 x6 x7 z0 z1 z2 z3 z4 z5 z6 z7
          have hso : wo.heap.size < wx.heap.size := by omega
          have hW : ∃ W2 : World, W2 = wx.alloc (.cells #[.int .i64 s.h, .int .i64 s.sp, .int .i64 s.st, .int .i64 s.sh, .int .i64 s.hy, .int .i64 s.ot, .slice s.ra s.rn s.rc, .bool s.keep] 73) := ⟨_, rfl⟩
          obtain ⟨W2, hW2⟩ := hW
          have hc2 : ∀ j, W2.cell? ⟨wx.heap.size, j, none⟩ = (#[.int .i64 s.h, .int .i64 s.sp, .int .i64 s.st, .int .i64 s.sh, .int .i64 s.hy, .int .i64 s.ot, .slice s.ra s.rn s.rc, .bool s.keep] : Array Value)[j]? := by intro j; rw [hW2]; exact cell_first _ _ _ _
          have hs2 : W2.heap.size = wx.heap.size + 1 := by rw [hW2]; simp
          have hb2 : Below wx.heap.size wx W2 := by rw [hW2]; go_grown
          have HC2 : Box (∀ w', Below W2.heap.size W2 w' → (w'.cell? ⟨wo.heap.size + 1, 0, none⟩ = some (.slice (some ⟨wo.heap.size, 0, none⟩) k k) ∧ w'.cell? ⟨wx.heap.size, 0, none⟩ = some (.int .i64 s.h) ∧ w'.cell? ⟨wx.heap.size, 1, none⟩ = some (.int .i64 s.sp) ∧ w'.cell? ⟨wx.heap.size, 2, none⟩ = some (.int .i64 s.st) ∧ w'.cell? ⟨wx.heap.size, 3, none⟩ = some (.int .i64 s.sh) ∧ w'.cell? ⟨wx.heap.size, 4, none⟩ = some (.int .i64 s.hy) ∧ w'.cell? ⟨wx.heap.size, 5, none⟩ = some (.int .i64 s.ot) ∧ w'.cell? ⟨wx.heap.size, 6, none⟩ = some (.slice s.ra s.rn s.rc) ∧ w'.cell? ⟨wx.heap.size, 7, none⟩ = some (.bool s.keep))) := boxed (by
            intro w' hb
            refine ⟨hold hb (hold hb2 HT.out), hold hb (hc2 0), hold hb (hc2 1), hold hb (hc2 2), hold hb (hc2 3), hold hb (hc2 4), hold hb (hc2 5), hold hb (hc2 6), hold hb (hc2 7)⟩)
          have HX2 : Box (∀ w', Below W2.heap.size W2 w' → (w'.cell? ⟨wo.heap.size, m * 8, none⟩ = some v0 ∧ w'.cell? ⟨wo.heap.size, m * 8 + 1, none⟩ = some v1 ∧ w'.cell? ⟨wo.heap.size, m * 8 + 2, none⟩ = some v2 ∧ w'.cell? ⟨wo.heap.size, m * 8 + 3, none⟩ = some v3 ∧ w'.cell? ⟨wo.heap.size, m * 8 + 4, none⟩ = some v4 ∧ w'.cell? ⟨wo.heap.size, m * 8 + 5, none⟩ = some v5 ∧ w'.cell? ⟨wo.heap.size, m * 8 + 6, none⟩ = some v6 ∧ w'.cell? ⟨wo.heap.size, m * 8 + 7, none⟩ = some v7) ∧ (w'.frozen? ⟨wo.heap.size, m * 8, none⟩ = false ∧ w'.frozen? ⟨wo.heap.size, m * 8 + 1, none⟩ = false ∧ w'.frozen? ⟨wo.heap.size, m * 8 + 2, none⟩ = false ∧ w'.frozen? ⟨wo.heap.size, m * 8 + 3, none⟩ = false ∧ w'.frozen? ⟨wo.heap.size, m * 8 + 4, none⟩ = false ∧ w'.frozen? ⟨wo.heap.size, m * 8 + 5, none⟩ = false ∧ w'.frozen? ⟨wo.heap.size, m * 8 + 6, none⟩ = false ∧ w'.frozen? ⟨wo.heap.size, m * 8 + 7, none⟩ = false)) := boxed (by
            intro w' hb
            obtain ⟨x0, x1, x2, x3, x4, x5, x6, x7⟩ := HX.out
            obtain ⟨z0, z1, z2, z3, z4, z5, z6, z7⟩ := HZ.out
            have hf : ∀ j, w'.frozen? ⟨wo.heap.size, j, none⟩ = wx.frozen? ⟨wo.heap.size, j, none⟩ := fun j => (hb.frozen (p := ⟨wo.heap.size, j, none⟩) (by show wo.heap.size < _; omega)).trans (hb2.frozen (p := ⟨wo.heap.size, j, none⟩) hso)
            refine ⟨⟨hold hb (hold hb2 x0), hold hb (hold hb2 x1), hold hb (hold hb2 x2), hold hb (hold hb2 x3), hold hb (hold hb2 x4), hold hb (hold hb2 x5), hold hb (hold hb2 x6), hold hb (hold hb2 x7)⟩, ?_⟩
            simp only [hf]
            exact ⟨z0, z1, z2, z3, z4, z5, z6, z7⟩)
          have HKS : Box (∀ (w' : World) (g : Sty), (w'.cell? ⟨wo.heap.size + 1, 0, none⟩ = some (.slice (some ⟨wo.heap.size, 0, none⟩) k k) ∧ w'.cell? ⟨wx.heap.size, 0, none⟩ = some (.int .i64 s.h) ∧ w'.cell? ⟨wx.heap.size, 1, none⟩ = some (.int .i64 s.sp) ∧ w'.cell? ⟨wx.heap.size, 2, none⟩ = some (.int .i64 s.st) ∧ w'.cell? ⟨wx.heap.size, 3, none⟩ = some (.int .i64 s.sh) ∧ w'.cell? ⟨wx.heap.size, 4, none⟩ = some (.int .i64 s.hy) ∧ w'.cell? ⟨wx.heap.size, 5, none⟩ = some (.int .i64 s.ot) ∧ w'.cell? ⟨wx.heap.size, 6, none⟩ = some (.slice s.ra s.rn s.rc) ∧ w'.cell? ⟨wx.heap.size, 7, none⟩ = some (.bool s.keep)) → (fun w' => w'.cell? ⟨wo.heap.size + 1, 0, none⟩ = some (.slice (some ⟨wo.heap.size, 0, none⟩) k k) ∧ w'.cell? ⟨wx.heap.size, 0, none⟩ = some (.int .i64 s.h) ∧ w'.cell? ⟨wx.heap.size, 1, none⟩ = some (.int .i64 s.sp) ∧ w'.cell? ⟨wx.heap.size, 2, none⟩ = some (.int .i64 s.st) ∧ w'.cell? ⟨wx.heap.size, 3, none⟩ = some (.int .i64 s.sh) ∧ w'.cell? ⟨wx.heap.size, 4, none⟩ = some (.int .i64 s.hy) ∧ w'.cell? ⟨wx.heap.size, 5, none⟩ = some (.int .i64 s.ot) ∧ w'.cell? ⟨wx.heap.size, 6, none⟩ = some (.slice s.ra s.rn s.rc) ∧ w'.cell? ⟨wx.heap.size, 7, none⟩ = some (.bool s.keep)) (put8 w' wo.heap.size (m * 8) g)) := boxed (by
            intro w' g h
            have hf : ∀ c i, c ≠ wo.heap.size → (put8 w' wo.heap.size (m * 8) g).cell? ⟨c, i, none⟩ = w'.cell? ⟨c, i, none⟩ := fun c i h => put8_far _ _ _ _ _ _ (Or.inl h)
            have n1 : wo.heap.size + 1 ≠ wo.heap.size := by omega
            have n2 : wx.heap.size ≠ wo.heap.size := by omega
            simp only [hf _ _ n1, hf _ _ n2]
            exact h)
          have HAP := boxed (fun w' (hb : Below W2.heap.size W2 w') => hap w' (hb2.trans (hb.mono (by omega))))
          have HB0 : Box (Below W2.heap.size W2 W2.drew) := boxed (Below.refl _ _).drew
          have HB2 := boxed hb2
          clear hap hb2
          go_wp2_with fail
          rw [← hW2]
          clear hW2 hc2 c0 c1 c2 c3 c4 c5 c6 c7
          go_region_held3 (fun w' => w'.cell? ⟨wo.heap.size + 1, 0, none⟩ = some (.slice (some ⟨wo.heap.size, 0, none⟩) k k) ∧ w'.cell? ⟨wx.heap.size, 0, none⟩ = some (.int .i64 s.h) ∧ w'.cell? ⟨wx.heap.size, 1, none⟩ = some (.int .i64 s.sp) ∧ w'.cell? ⟨wx.heap.size, 2, none⟩ = some (.int .i64 s.st) ∧ w'.cell? ⟨wx.heap.size, 3, none⟩ = some (.int .i64 s.sh) ∧ w'.cell? ⟨wx.heap.size, 4, none⟩ = some (.int .i64 s.hy) ∧ w'.cell? ⟨wx.heap.size, 5, none⟩ = some (.int .i64 s.ot) ∧ w'.cell? ⟨wx.heap.size, 6, none⟩ = some (.slice s.ra s.rn s.rc) ∧ w'.cell? ⟨wx.heap.size, 7, none⟩ = some (.bool s.keep))
            (first | (with_reducible exact HC2.out _ HB5.out) | (with_reducible exact HC2.out _ HB0.out) | exact HKS.out w5 g (HC2.out _ HB5.out))
            (first | (go_at_call 54; refine (HAP.out _ HB0.out).mono ?_; rintro e w5 ⟨g, rfl, hg1, hg2, hg3, hb5⟩; have HG1 := boxed hg1; have HG2 := boxed hg2; have HG3 := boxed hg3; have HB5 := boxed (below_step HB0.out (Nat.le_refl _) hb5); clear HAP hg1 hg2 hg3 hb5; obtain ⟨⟨x0, x1, x2, x3, x4, x5, x6, x7⟩, z0, z1, z2, z3, z4, z5, z6, z7⟩ := HX2.out _ HB5.out))
          have HR : Box ((∀ i, i < m + 1 → Like (F i) ((fun i => if i = m then g else G i) i)) ∧ StysIn (put8 w5 wo.heap.size (m * 8) g) wo.heap.size (m + 1) (fun i => if i = m then g else G i) (wo.heap.size + 1) ∧ Below w.heap.size w (put8 w5 wo.heap.size (m * 8) g) ∧
              (put8 w5 wo.heap.size (m * 8) g).cell? ⟨wo.heap.size + 1, 0, none⟩ = some (.slice (some ⟨wo.heap.size, 0, none⟩) k k) ∧ (∀ j, j < k * 8 → (∃ v, (put8 w5 wo.heap.size (m * 8) g).cell? ⟨wo.heap.size, j, none⟩ = some v) ∧ (put8 w5 wo.heap.size (m * 8) g).frozen? ⟨wo.heap.size, j, none⟩ = false) ∧ wo.heap.size + 1 < (put8 w5 wo.heap.size (m * 8) g).heap.size) := boxed (by
            have hbx5 : Below wx.heap.size wx w5 := HB2.out.trans (HB5.out.mono (by omega))
            have hw5 : Below w.heap.size w w5 := below_step HBx.out (Nat.le_refl _) hbx5
            have hz5 := hbx5.size
            refine ⟨?_, ?_, put8_below hw5 _ _ _ hBo, (HKS.out w5 g (HC2.out _ HB5.out)).1, ?_, ?_⟩
            · intro i hi
              by_cases c : i = m
              · subst c; simp only [if_pos]; rw [HS.out]; exact HG1.out
              · simp only [if_neg c]; exact HL.out i (by omega)
            · refine (HG.out.below hbx5).put g (HOK.out.like HG1.out HG3.out.1 HG3.out.2) (HG2.out.keep (fun b i u hs hc => ⟨?_, hc⟩)) (by omega) ?_
              · have : W2.drew.heap.size ≤ b := hs
                have e : W2.drew.heap.size = W2.heap.size := rfl
                show wo.heap.size + 1 ≤ b
                omega
              · intro j hj
                obtain ⟨⟨v, hv⟩, -⟩ := HE.out (m * 8 + j) (by omega)
                exact ⟨v, hold hbx5 hv⟩
            · intro j hj
              obtain ⟨⟨v, hv⟩, hz⟩ := HE.out j hj
              refine ⟨put8_some _ _ _ _ _ _ _ (hold hbx5 hv), ?_⟩
              rw [put8_frozen, hbx5.frozen (p := ⟨wo.heap.size, j, none⟩) hso]
              exact hz
            · rw [put8_size]; omega)
          change Exit.inBlock 3 _ _ _ (put8 w5 wo.heap.size (m * 8) g)
          clear x0 x1 x2 x3 x4 x5 x6 x7 z0 z1 z2 z3 z4 z5 z6 z7 HKS HC2 HX2 HX HZ
          generalize put8 w5 wo.heap.size (m * 8) g = W6 at *
          go_wp2
          go_roundw
          case rel => exact ⟨m + 1, _, by omega, by go_num, boxed HR.out.1, boxed HR.out.2.1, boxed HR.out.2.2.1, boxed HR.out.2.2.2.1, boxed HR.out.2.2.2.2.1, HR.out.2.2.2.2.2⟩
          case measure => simp [intOf]; omega
        · have e : m = k := by omega
          subst e
          go_wp2
          refine bodyPost_ret (v := .tuple #[.pointer (some ⟨wo.heap.size + 1, 0, none⟩), .int .i64 0, .int .i64 0]) (by simp [results, Try.results30, go_sem]) rfl ⟨Or.inr ⟨by rw [HC.out, H0.out], wo.heap.size + 1, G, rfl, ⟨⟨by omega, hn32⟩, wo.heap.size, HT.out, HG.out.at hBo (by omega)⟩, HL.out⟩, HBx.out⟩
end Go.Proofs.Ytcdcpmcjlchfgaa
