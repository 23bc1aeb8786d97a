/-
  What the program's Insert does.
-/
import Derived.Test.YtholifolkimkdaaGh
import Derived.Test.YtholifolkimkdaaGi
import Derived.Deep.RegionWith
namespace Go.Proofs.Ytholifolkimkdaa
open Go.RowKit
set_option linter.unusedSimpArgs false
set_option linter.unusedVariables false

/-- May so many bytes be put in there? -/
def insE (l : List Bool) (a : Int) (n : Nat) : Nat := if outb l.length a a = true then 30 else if n = 0 then 0 else if 65536 - l.length < n then 31 else 0
def insL (l : List Bool) (a : Int) (m : List Bool) : List Bool := if insE l a m.length = 0 then l.take a.toNat ++ m ++ l.drop a.toNat else l
def insF (l : List Bool) (a : Int) (m : List Bool) : Nat := if insE l a m.length = 0 ∧ m.length ≠ 0 then fst l a.toNat else 0
def insO (l : List Bool) (a : Int) (m : List Bool) : Nat := if insE l a m.length = 0 ∧ m.length ≠ 0 then old l a.toNat else 0
def insN (l : List Bool) (a : Int) (m : List Bool) : Nat := if insE l a m.length = 0 ∧ m.length ≠ 0 then (Z2 l m a.toNat).length else 0
theorem ins_bad {l : List Bool} {a : Int} {m : List Bool} (h : insE l a m.length ≠ 0) : insL l a m = l ∧ insF l a m = 0 ∧ insO l a m = 0 ∧ insN l a m = 0 := by
  unfold insL insF insO insN
  rw [if_neg h, if_neg (fun c => h c.1), if_neg (fun c => h c.1), if_neg (fun c => h c.1)]
  exact ⟨rfl, rfl, rfl, rfl⟩
theorem ins_none {l : List Bool} {a : Int} {m : List Bool} (h : m.length = 0) : insL l a m = l ∧ insF l a m = 0 ∧ insO l a m = 0 ∧ insN l a m = 0 := by
  unfold insL insF insO insN
  refine ⟨?_, if_neg (fun c => c.2 h), if_neg (fun c => c.2 h), if_neg (fun c => c.2 h)⟩
  split
  · have : m = [] := List.length_eq_zero_iff.1 h
    subst this; simp
  · rfl

theorem grown_new {a b c : World} {xb rb : Nat} (h : a.grownBy b (some xb)) (k : b.grownBy c (some rb)) (hr : a.heap.size ≤ rb) : a.grownBy c (some xb) :=
  ⟨k.os.trans h.os, k.tape.trans h.tape, k.output.trans h.output, Nat.le_trans h.size k.size, fun i hi hne => (k.block i (Nat.lt_of_lt_of_le hi h.size) (fun e => by injection e; omega)).trans (h.block i hi hne)⟩
theorem IxAt.other {W W' : World} {xb rb B : Nat} {a : Option Addr} {c : Nat} {P : List Nat} {o : Bool} (h : IxAt W xb a c P o) (hn : NAt (fun b => B ≤ b) W a (ens 0 P)) (hg : W.grownBy W' (some rb)) (hr : rb < B) (hx : rb ≠ xb) : IxAt W' xb a c P o ∧ NAt (fun b => B ≤ b) W' a (ens 0 P) := by
  have k := hn.keep (kp_grown hg (fun b hb => by omega))
  have k2 : NAt (fun b => b ≠ xb) W' a (ens 0 P) := by
    intro i hi
    obtain ⟨b, e, hs, c0⟩ := h.pts i hi
    obtain ⟨b', e', hs', c0'⟩ := k i hi
    rw [e] at e'
    injection e' with e'
    injection e' with e1
    subst e1
    exact ⟨b, e, hs, c0'⟩
  exact ⟨⟨by rw [hg.block xb h.lt (fun e => by injection e with e; exact hx e.symm)]; exact h.blk, k2, h.pos, h.len, h.cap⟩, k⟩
theorem IxAt.setOpen {W : World} {xb : Nat} {a : Option Addr} {c : Nat} {P : List Nat} {o : Bool} (h : IxAt W xb a c P o) (o' : Bool) : IxAt (W.setCell ⟨xb, 1, none⟩ (.bool o')) xb a c P o' :=
  ⟨set1_heap h.blk, h.pts.keep (fun k i u hs hc => ⟨hs, by rw [World.cell?_setCell_far _ _ _ _ (Ne.symm hs)]; exact hc⟩), h.pos, h.len, h.cap⟩
theorem ncs_set (L : List Nat) (i n : Nat) : (ncs L).set i (.int .i64 (n : Nat)) = ncs (L.set i n) := by
  unfold ncs; rw [List.map_set]
theorem fst_bg (l : List Bool) (a : Nat) (ha : a ≤ l.length) : Bg (sp l) (fst l a) ≤ a ∧ a ≤ Bg (sp l) (fst l a + old l a) := by
  unfold fst old
  by_cases c : a < l.length
  · rw [if_pos c, if_pos c]
    have := fnd_spec l a c
    omega
  · obtain rfl : a = l.length := by omega
    rw [if_neg c, if_neg c]
    have h1 := Bg_le (sp l) ((sp l).length - (op l).toNat)
    rw [sp_sum] at h1
    have e : (sp l).length - (op l).toNat + (op l).toNat = (sp l).length := by
      cases d : op l with
      | false => simp
      | true => have := op_pos l d; have := sp_nil l; simp; omega
    rw [e, Bg_sp _ _ (Nat.le_refl _)]
    omega
theorem own_form {w : World} {B m : Nat} {v : Value} {xs : List Value} (h : w.ownsRow B 3 1 v m xs) (hm : 0 < m) : ∃ g c, v = .slice (some ⟨g, 0, none⟩) m c ∧ B ≤ g := by
  rcases ownsRow_forms h with ⟨_, h2⟩ | ⟨g, c, rfl⟩
  · omega
  · exact ⟨g, c, rfl, (h.lt g rfl).1⟩
section
variable {w : World} {xb : Nat} {ao : Option Addr} {cap : Nat} {l : List Bool}
/-- The index of the text l at xb. -/
abbrev TxAt (w : World) (xb : Nat) (ao : Option Addr) (cap : Nat) (l : List Bool) : Prop := IxAt w xb ao cap (sp l) (op l)

set_option maxRecDepth 100000 in
set_option maxHeartbeats 4000000 in
theorem insert_ok (h : TxAt w xb ao cap l) (a : Nat) (s : ByteArray) (ha : a ≤ l.length) (h0 : s.size ≠ 0) (hsz : l.length + s.size ≤ 65536) :
    Calls Try.prog 22 #[.pointer (some ⟨xb, 0, none⟩), .int .i64 (a : Nat), .string s] w fun e w' =>
      e = .returned (.tuple #[itv (fst l a) (old l a) (Z2 l (ln s) a).length, .int .i64 0]) ∧ ∃ ao' cap', TxAt w' xb ao' cap' (l.take a ++ ln s ++ l.drop a) ∧ NAt (fun b => w.heap.size ≤ b) w' ao' (ens 0 (sp (l.take a ++ ln s ++ l.drop a))) ∧ w.grownBy w' (some xb) := by
  obtain ⟨i0, hi, hz0, hz1, hz2⟩ := info_parts info_int
  obtain ⟨w0, hw0⟩ : ∃ w0, w.alloc (.cells #[.int .i64 0, .int .i64 0, .int .i64 0] 30) = w0 := ⟨_, rfl⟩
  have hb0 : Below w.heap.size w w0 := by rw [← hw0]; exact new_below _ _
  have hzs0 : w0.heap.size = w.heap.size + 1 := by rw [← hw0]; exact new_size _ _
  have HN : Box (∀ W, Below w0.heap.size w0 W → W.heap[w.heap.size]? = some (.cells #[.int .i64 0, .int .i64 0, .int .i64 0] 30 (0, 0))) := boxed (fun W hb => by rw [hb.block w.heap.size (by omega), ← hw0]; exact heap_alloc_new w _)
  have hI : ∀ W, Below w0.heap.size w0 W → TxAt W xb ao cap l := fun W hb => (h.below hb0).below hb
  have hlt := h.lt
  have hsum := sp_sum l
  have hout := outside_any (hI _ (Below.refl _ _)) a a
  have ho0 : outb (sp l).sum a a = false := (outb_iff _ _ _).2 (by omega)
  rw [ho0] at hout
  have hE := ne_isEmpty s h0
  have HSz := boxed (fun W hb => size_any (hI W hb))
  have hT : ∀ W, Below w0.heap.size w0 W → Calls Try.prog 37 #[.pointer (some ⟨xb, 0, none⟩), .int .i64 (a : Nat)] W fun e w' => e = .returned (.tuple #[.int .i64 (fst l a : Nat), .int .i64 (old l a : Nat)]) ∧ Below W.heap.size W w' := by
    intro W hb
    by_cases c : a < l.length
    · refine (touched_in (hI W hb) a (by omega)).mono ?_
      rintro e w' ⟨q, rfl, q1, q2, q3, hb'⟩
      have := fnd_of l q a q1 q2 q3
      refine ⟨?_, hb'⟩
      unfold fst old
      rw [if_pos c, if_pos c, this]; rfl
    · obtain rfl : a = l.length := by omega
      have := touched_end (hI W hb) (fun e => by have := op_pos l e; have := sp_nil l; omega) (fun e => by have := sp_nil l; omega)
      rw [hsum] at this
      refine this.mono ?_
      rintro e w' ⟨rfl, hb'⟩
      refine ⟨?_, hb'⟩
      unfold fst old
      rw [if_neg c, if_neg c]
  have HT := boxed hT
  have HSp := boxed (fun W => split_any s W (by omega))
  have hfo := fst_le l a ha
  have hfo1 : fst l a ≤ (sp l).length := by omega
  have HB1 := boxed (fun W hb => begin_any (hI W hb) (fst l a) hfo1)
  have HB2 := boxed (fun W hb => begin_any (hI W hb) (fst l a + old l a) hfo)
  have hmne : ln s ≠ [] := by intro e; have := congrArg List.length e; rw [ln_len] at this; exact h0 this
  have hfin := ins_sp l (ln s) a ha hmne
  have hZl := Z2_len l (ln s) a ha hmne
  have hZs := Z2_sum l (ln s) a ha hmne
  have hZp := Z2_pos l (ln s) a ha hmne
  rw [ln_len] at hZs
  have hspl := sp_len (l.take a ++ ln s ++ l.drop a)
  have hll : (l.take a ++ ln s ++ l.drop a).length = l.length + s.size := by simp only [List.length_append, List.length_take, List.length_drop, ln_len]; omega
  have hol : old l a ≤ 1 := by unfold old; split
                               · omega
                               · cases op l <;> simp
  have HPut : Box (∀ W so sc o' n, (Z2 l (ln s) a).length = n → IxAt W xb ao cap (sp l) o' → (∃ B, W.ownsRow B 3 1 (.slice so n sc) n (ncs (Z2 l (ln s) a))) → Calls Try.prog 35 #[.pointer (some ⟨xb, 0, none⟩), .int .i64 (fst l a : Nat), .int .i64 (old l a : Nat), .slice so n sc] W fun e w' =>
      e = .returned (.tuple #[]) ∧ ∃ ao' cap', IxAt w' xb ao' cap' ((sp l).take (fst l a) ++ Z2 l (ln s) a ++ (sp l).drop (fst l a + old l a)) o' ∧ NAt (fun b => W.heap.size ≤ b) w' ao' (ens 0 ((sp l).take (fst l a) ++ Z2 l (ln s) a ++ (sp l).drop (fst l a + old l a))) ∧ W.grownBy w' (some xb)) := boxed (fun W so sc o' n hn hx ⟨B, ho⟩ => by
    subst hn
    exact put_any hx (fst l a) (old l a) (Z2 l (ln s) a) so sc _ (own_nat ho) hfo hZp (by rw [hll] at hspl; have := sp_len l; omega) (by
      have := hZs
      rw [List.sum_append, List.sum_append] at this
      omega) (by rw [hZs]; exact hsz))
  have HII := boxed hI
  have HB0 := boxed hb0
  obtain ⟨hbg1, hbg2⟩ := fst_bg l a ha
  obtain ⟨n4, hn4⟩ : ∃ n4, (sp (ln s)).length = n4 := ⟨_, rfl⟩
  have hn4p : 0 < n4 := by have := sp_nil (ln s); rw [ln_len] at this; omega
  have HZ1 : Box (Z1 l (ln s) a = (sp (ln s)).set 0 ((sp (ln s)).getD 0 0 + ahd l a)) := boxed rfl
  have hAH : ahd l a = a - Bg (sp l) (fst l a) := rfl
  have hBH : bhd l a = Bg (sp l) (fst l a + old l a) - a := rfl
  have HZ2 : Box (Z2 l (ln s) a = if bhd l a = 0 then Z1 l (ln s) a else if op (ln s) = true then (Z1 l (ln s) a).set ((Z1 l (ln s) a).length - 1) ((Z1 l (ln s) a).getD ((Z1 l (ln s) a).length - 1) 0 + bhd l a) else Z1 l (ln s) a ++ [bhd l a]) := boxed rfl
  have hV1 : (sp (ln s)).getD 0 0 ≤ s.size := by
    have h1 := Bg_get (sp (ln s)) 0 (by omega)
    have h2 := Bg_le (sp (ln s)) 1
    rw [sp_sum, ln_len] at h2
    rw [Bg_zero, Nat.zero_add, Nat.zero_add] at h1
    omega
  have hbl1 := Bg_le (sp l) (fst l a + old l a)
  rw [hsum] at hbl1
  have hsl := sp_len (ln s)
  rw [ln_len] at hsl
  clear h hI hT ho0 hb0 hspl hll hZl hZs hZp
  have tl : decide ((65536 : Int) - (l.length : Int) < (s.size : Int)) = false := decide_eq_false (by omega)
  rw [hsum] at HSz
  have HFIN := boxed hfin
  clear hfin
  generalize hF : fst l a = F at *
  generalize hO : old l a = O at *
  generalize hAHe : ahd l a = AH at *
  generalize hBHe : bhd l a = BH at *
  generalize hBF : Bg (sp l) F = BF at *
  generalize hBFO : Bg (sp l) (F + O) = BO at *
  generalize hLS : sp (ln s) = LS at *
  generalize hMO : op (ln s) = mo at *
  generalize hV : LS.getD 0 0 = V1 at *
  clear hF hO hAHe hBHe hBF hBFO hMO
  replace hLS := boxed hLS
  replace hV := boxed hV
  have hwA : IntKind.i64.wrap ((a : Int) - (BF : Int)) = (AH : Nat) := by rw [IntKind.wrap_i64]; omega
  have hwV : IntKind.i64.wrap ((V1 : Int) + (AH : Int)) = (V1 + AH : Nat) := by rw [IntKind.wrap_i64]; omega
  have hAHl : AH ≤ 65536 := by omega
  have hBHl : BH ≤ 65536 := by omega
  have eBH : (BO : Int) - (a : Int) = (BH : Nat) := by omega
  replace hAH := boxed hAH
  replace hBH := boxed hBH
  obtain ⟨V2, hV2⟩ : ∃ V2, V1 + AH = V2 := ⟨_, rfl⟩
  rw [hV2] at hwV HZ1
  have hV2l : V2 ≤ 131072 := by omega
  replace hV2 := boxed hV2
  obtain ⟨q, hq⟩ : ∃ q, F + O = q := ⟨_, rfl⟩
  rw [hq] at HB2 HFIN HPut hfo
  have eFO : (F : Int) + (O : Int) = (q : Int) := by omega
  have hqb : q ≤ 65536 := by have := sp_len l; omega
  replace hq := boxed hq
  go_enter Try.func22, Try.ntmps22
  go_wp2_with fail
  refine hout.mono ?_
  rintro e w1 ⟨rfl, hb1⟩
  have HD1 := boxed hb1
  clear hb1 hout
  go_wp2_with fail
  refine (HSz.out _ HD1.out).mono ?_
  rintro e w2 ⟨rfl, hb2⟩
  have HD2 := boxed (below_step HD1.out (Nat.le_refl _) hb2)
  clear hb2 HSz
  go_wp2_with fail
  refine (HT.out _ HD2.out).mono ?_
  rintro e w3 ⟨rfl, hb3⟩
  have HD3 := boxed (below_step HD2.out (Nat.le_refl _) hb3)
  clear hb3 HT
  go_wp2_with fail
  refine (HSp.out _).mono ?_
  rintro e w4 ⟨v4, rfl, ho4, hb4⟩
  have HD4 := boxed (below_step HD3.out (Nat.le_refl _) hb4)
  rw [hn4] at ho4
  obtain ⟨g, c4, rfl, hg4⟩ := own_form ho4 hn4p
  have hs3 : w0.heap.size ≤ w3.heap.size := HD3.out.size
  have hs34 : w3.heap.size ≤ w4.heap.size := hb4.size
  have HO4 : Box (∀ W, Below w4.heap.size w4 W → W.ownsRow w3.heap.size 3 1 (.slice (some ⟨g, 0, none⟩) n4 c4) n4 (ncs LS)) := boxed (fun W hb => owns_below ho4 hb)
  have HC4 : Box (∀ W, Below w4.heap.size w4 W → W.cell? ⟨g, 0, none⟩ = some (.int .i64 (V1 : Nat)) ∧ W.frozen? ⟨g, 0, none⟩ = false) := boxed (fun W hb => ⟨by
    have := (HO4.out W hb).cellAt 0 (by omega)
    rw [this, ncs_get LS 0 (by omega), hV.out], (HO4.out W hb).frozenAt 0⟩)
  clear hb4 HSp ho4
  have HE4 : Box (Below w4.heap.size w4 w4.drew) := boxed (Below.refl _ _).drew
  have HD4d : Box (Below w0.heap.size w0 w4.drew) := boxed HD4.out.drew
  obtain ⟨k1, k2⟩ := HC4.out _ HE4.out
  go_wp2_with fail
  go_region_with (first | (go_at_call 33; refine (HB1.out _ HD4d.out).mono ?_; rintro e w5 ⟨rfl, hb5⟩; have HD5 := boxed (below_step HD4d.out (Nat.le_refl _) hb5); have HE5 := boxed (below_step HE4.out (Nat.le_refl _) hb5); obtain ⟨k3, k4⟩ := HC4.out _ HE5.out; clear hb5))
  all_goals (
    have hst := (HO4.out _ HE5.out).stored 0 (.int .i64 (V2 : Nat))
    rw [ncs_set, ← HZ1.out] at hst
    obtain ⟨w6, hw6⟩ : ∃ w6, w5.setCell ⟨g, 0, none⟩ (.int .i64 (V2 : Nat)) = w6 := ⟨_, rfl⟩
    have hst' := hst
    rw [hw6] at hst' ⊢
    have HD6 : Box (Below w0.heap.size w0 w6) := boxed (HD5.out.grown hst'.2 HD5.out.size (fun r e => by injection e with e; omega))
    have HO6 := boxed hst'.1
    have hs56 : w3.heap.size ≤ w6.heap.size := by have := HE5.out.size; have := hst'.2.size; omega
    clear hst hst' hw6 k1 k2 k3 k4 HB1
    go_wp2_with fail
    refine (HB2.out _ HD6.out).mono ?_
    rintro e w7 ⟨rfl, hb7⟩
    have HD7 := boxed (below_step HD6.out (Nat.le_refl _) hb7)
    have HO7 := boxed (owns_below HO6.out hb7)
    have hbs : w3.heap.size ≤ w7.heap.size := Nat.le_trans hs56 hb7.size
    have hs7 : w0.heap.size ≤ w7.heap.size := HD7.out.size
    have HGW7 : Box (w.grownBy w7 (some xb)) := boxed (below_grown (HB0.out.trans (HD7.out.mono (by omega))) _)
    clear hb7 HO6 HB2
    by_cases hbh : BH = 0
    · have HZ : Box (Z2 l (ln s) a = Z1 l (ln s) a) := boxed (by rw [HZ2.out, if_pos hbh])
      have HFI : Box (sp (l.take a ++ ln s ++ l.drop a) = (sp l).take F ++ Z2 l (ln s) a ++ (sp l).drop q ∧ op (l.take a ++ ln s ++ l.drop a) = mo) := boxed (by have := HFIN.out; rw [if_pos hbh] at this; exact this)
      have x1 := (HII.out _ HD7.out).c1
      have f1 := (HII.out _ HD7.out).fz 1
      have HIX := boxed ((HII.out _ HD7.out).setOpen mo)
      have HOZ : Box (∃ B, (w7.setCell ⟨xb, 1, none⟩ (.bool mo)).ownsRow B 3 1 (.slice (some ⟨g, 0, none⟩) n4 c4) n4 (ncs (Z2 l (ln s) a))) := boxed ⟨_, by rw [HZ.out]; exact ownsRow_setCell_below HO7.out (by show xb < _; omega) _⟩
      have HGW : Box (w.grownBy (w7.setCell ⟨xb, 1, none⟩ (.bool mo)) (some xb)) := boxed (grown_trans HGW7.out (grown_set _ _ _ _))
      have HWS : Box (w.heap.size < (w7.setCell ⟨xb, 1, none⟩ (.bool mo)).heap.size) := boxed (by simp; omega)
      have HRW : Box ((w7.setCell ⟨xb, 1, none⟩ (.bool mo)).heap[w.heap.size]? = some (.cells #[.int .i64 0, .int .i64 0, .int .i64 0] 30 (0, 0))) := boxed (by rw [Below.heap_setCell _ _ _ _ (by show w.heap.size ≠ xb; omega)]; exact HN.out _ HD7.out)
      have hln : (Z2 l (ln s) a).length = n4 := by rw [HZ.out, HZ1.out, List.length_set]; exact hn4
      have HLN := boxed hln
      obtain ⟨wq, hwq⟩ : ∃ wq, w7.setCell ⟨xb, 1, none⟩ (.bool mo) = wq := ⟨_, rfl⟩
      rw [hwq] at HIX HOZ HGW HWS HRW
      subst hbh
      clear hln HII HO7 HFIN HZ2
      go_wp2_with fail
      refine (HPut.out _ _ _ _ _ HLN.out HIX.out HOZ.out).mono ?_
      rintro e w10 ⟨rfl, a10, c10, hx10, hn10, hg10⟩
      have HG10 := boxed (grown_trans HGW.out hg10)
      have HR10 : Box (w10.heap[w.heap.size]? = some (.cells #[.int .i64 0, .int .i64 0, .int .i64 0] 30 (0, 0))) := boxed (by rw [hg10.block w.heap.size HWS.out (by intro e; injection e; omega)]; exact HRW.out)
      obtain ⟨⟨d0, d1, d2⟩, g0, g1, g2⟩ := cells3 HR10.out
      have HT := put3_all HR10.out (.int .i64 (F : Nat)) (.int .i64 (O : Nat)) (.int .i64 ((n4 : Nat)))
      have HX11 := boxed (IxAt.other hx10 hn10 HT.2.1 HWS.out (by omega))
      have HG11 := boxed (grown_new HG10.out HT.2.1 (Nat.le_refl _))
      obtain ⟨⟨q0, q1, q2⟩, -, -⟩ := HT
      have HR := boxed (And.intro q0 (And.intro q1 q2))
      have HWS2 := boxed (Nat.le_of_lt HWS.out)
      clear q0 q1 q2 hx10 hn10 hg10 HPut HIX HOZ
      go_wp2
      refine bodyPost_ret (v := .tuple #[.agg #[.int .i64 (F : Nat), .int .i64 (O : Nat), .int .i64 ((n4 : Nat))], .int .i64 0]) (by simp [results, Try.results22, go_sem, HR.out.1, HR.out.2.1, HR.out.2.2]) rfl ?_
      exact ⟨by first | (rw [HLN.out]; done) | (rw [HLN.out]; rfl), a10, c10, by rw [TxAt, HFI.out.1, HFI.out.2]; exact HX11.out.1, by rw [HFI.out.1]; exact HX11.out.2.keep (fun b i u hs hc => ⟨Nat.le_trans HWS2.out hs, hc⟩), HG11.out⟩
    · have hb0' : ((BH : Int) == 0) = false := by rw [beq_eq_false_iff_ne]; omega
      cases mo with
      | true =>
        have HZ : Box (Z2 l (ln s) a = (Z1 l (ln s) a).set ((Z1 l (ln s) a).length - 1) ((Z1 l (ln s) a).getD ((Z1 l (ln s) a).length - 1) 0 + BH)) := boxed (by rw [HZ2.out, if_neg hbh, if_pos rfl])
        have HFI : Box (sp (l.take a ++ ln s ++ l.drop a) = (sp l).take F ++ Z2 l (ln s) a ++ (sp l).drop q ∧ op (l.take a ++ ln s ++ l.drop a) = op l) := boxed (by have := HFIN.out; rw [if_neg hbh] at this; exact this)
        have hzl : (Z1 l (ln s) a).length = n4 := by rw [HZ1.out, List.length_set]; exact hn4
        obtain ⟨n5, rfl⟩ : ∃ n5, n4 = n5 + 1 := ⟨n4 - 1, by omega⟩
        have x1 := HO7.out.cellAt n5 (by omega)
        have f1 := HO7.out.frozenAt n5
        rw [ncs_get _ n5 (by omega)] at x1
        have hv3 : (Z1 l (ln s) a).getD n5 0 ≤ 196608 := by
          rw [HZ1.out]
          by_cases c5 : n5 = 0
          · subst c5
            rw [List.getD_eq_getElem?_getD, List.getElem?_set_self (by omega)]
            simp; omega
          · rw [List.getD_eq_getElem?_getD, List.getElem?_set_ne (by omega), ← List.getD_eq_getElem?_getD]
            have h1 := Bg_get LS n5 (by omega)
            have h2 := Bg_le LS (n5 + 1)
            rw [← hLS.out, sp_sum, ln_len, hLS.out] at h2
            omega
        have hst := HO7.out.stored n5 (.int .i64 ((Z1 l (ln s) a).getD n5 0 + BH : Nat))
        rw [ncs_set] at hst
        have hze : Z2 l (ln s) a = (Z1 l (ln s) a).set n5 ((Z1 l (ln s) a).getD n5 0 + BH) := by rw [HZ.out, hzl]; rfl
        rw [← hze] at hst
        have HLN : Box ((Z2 l (ln s) a).length = n5 + 1) := boxed (by rw [hze, List.length_set]; exact hzl)
        generalize (Z1 l (ln s) a).getD n5 0 = V3 at *
        obtain ⟨V4, hV4⟩ : ∃ V4, V3 + BH = V4 := ⟨_, rfl⟩
        rw [hV4] at hst
        have eV4 : (V3 : Int) + (BH : Int) = (V4 : Int) := by omega
        have hV4l : V4 ≤ 262144 := by omega
        obtain ⟨wq, hwq⟩ : ∃ wq, w7.setCell ⟨g, n5, none⟩ (.int .i64 (V4 : Nat)) = wq := ⟨_, rfl⟩
        rw [hwq] at hst
        have HD8 : Box (Below w0.heap.size w0 wq) := boxed (HD7.out.grown hst.2 HD7.out.size (fun r e => by injection e with e; omega))
        have HIX := boxed (HII.out _ HD8.out)
        have HOZ : Box (∃ B, wq.ownsRow B 3 1 (.slice (some ⟨g, 0, none⟩) (n5 + 1) c4) (n5 + 1) (ncs (Z2 l (ln s) a))) := boxed ⟨_, hst.1⟩
        have HGW : Box (w.grownBy wq (some xb)) := boxed (below_grown (HB0.out.trans (HD8.out.mono (by omega))) _)
        have HWS : Box (w.heap.size < wq.heap.size) := boxed (by have := HD8.out.size; omega)
        have HRW := boxed (HN.out _ HD8.out)
        clear hst hze hzl HII HO7 HFIN HZ2 HZ HZ1 hV4
        go_wp2_with fail
        refine (HPut.out _ _ _ _ _ HLN.out HIX.out HOZ.out).mono ?_
        rintro e w10 ⟨rfl, a10, c10, hx10, hn10, hg10⟩
        have HG10 := boxed (grown_trans HGW.out hg10)
        have HR10 : Box (w10.heap[w.heap.size]? = some (.cells #[.int .i64 0, .int .i64 0, .int .i64 0] 30 (0, 0))) := boxed (by rw [hg10.block w.heap.size HWS.out (by intro e; injection e; omega)]; exact HRW.out)
        obtain ⟨⟨d0, d1, d2⟩, g0, g1, g2⟩ := cells3 HR10.out
        have HT := put3_all HR10.out (.int .i64 (F : Nat)) (.int .i64 (O : Nat)) (.int .i64 ((n5 : Int) + 1))
        have HX11 := boxed (IxAt.other hx10 hn10 HT.2.1 HWS.out (by omega))
        have HG11 := boxed (grown_new HG10.out HT.2.1 (Nat.le_refl _))
        obtain ⟨⟨q0, q1, q2⟩, -, -⟩ := HT
        have HR := boxed (And.intro q0 (And.intro q1 q2))
        have HWS2 := boxed (Nat.le_of_lt HWS.out)
        clear q0 q1 q2 hx10 hn10 hg10 HPut HIX HOZ
        go_wp2
        refine bodyPost_ret (v := .tuple #[.agg #[.int .i64 (F : Nat), .int .i64 (O : Nat), .int .i64 ((n5 : Int) + 1)], .int .i64 0]) (by simp [results, Try.results22, go_sem, HR.out.1, HR.out.2.1, HR.out.2.2]) rfl ?_
        exact ⟨by first | (rw [HLN.out]; done) | (rw [HLN.out]; rfl), a10, c10, by rw [TxAt, HFI.out.1, HFI.out.2]; exact HX11.out.1, by rw [HFI.out.1]; exact HX11.out.2.keep (fun b i u hs hc => ⟨Nat.le_trans HWS2.out hs, hc⟩), HG11.out⟩
      | false =>
        have HZ : Box (Z2 l (ln s) a = Z1 l (ln s) a ++ [BH]) := boxed (by rw [HZ2.out, if_neg hbh, if_neg (by simp)])
        have HFI : Box (sp (l.take a ++ ln s ++ l.drop a) = (sp l).take F ++ Z2 l (ln s) a ++ (sp l).drop q ∧ op (l.take a ++ ln s ++ l.drop a) = op l) := boxed (by have := HFIN.out; rw [if_neg hbh] at this; exact this)
        have hzl : (Z1 l (ln s) a).length = n4 := by rw [HZ1.out, List.length_set]; exact hn4
        have HLN : Box ((Z2 l (ln s) a).length = n4 + 1) := boxed (by rw [HZ.out, List.length_append, hzl]; rfl)
        have hown := HO7.out
        clear HZ2 HFIN HZ1 hzl
        go_wp2_with (first | (at_builtin; refine wpList_append_own _ rfl _ _ 34 rfl w3.heap.size 3 i0 _ 1 8 Try.underlying34 hi hz0 hz1 hz2 rfl (by decide) _ _ _ rfl (hown.alloc _) ⟨w7.heap.size, 0, none⟩ 1 1 [.int .i64 (BH : Nat)] rfl rfl ?c1 ?c2 ?c3 ?c4 ?c5 ?_))
        case c1 =>
          intro j u hj
          match j, hj with
          | 0, hj => simp at hj; subst hj; simp [Addr.add]
        case c2 => intro u hu; simp at hu; subst hu; rfl
        case c3 => unfold maxLen; omega
        case c4 => omega
        case c5 => simp; omega
        intro v8 wq hown6 hgrow6 _
        have HD8 : Box (Below w0.heap.size w0 wq) := boxed (HD7.out.trans ((grown_any hown hbs hgrow6).mono hs3))
        obtain ⟨g8, c8, rfl, -⟩ := own_form hown6 (by omega)
        have HIX := boxed (HII.out _ HD8.out)
        have HOZ : Box (∃ B, wq.ownsRow B 3 1 (.slice (some ⟨g8, 0, none⟩) (n4 + 1) c8) (n4 + 1) (ncs (Z2 l (ln s) a))) := boxed ⟨_, by rw [HZ.out, ncs_snoc]; exact hown6⟩
        have HGW : Box (w.grownBy wq (some xb)) := boxed (below_grown (HB0.out.trans (HD8.out.mono (by omega))) _)
        have HWS : Box (w.heap.size < wq.heap.size) := boxed (by have := HD8.out.size; omega)
        have HRW := boxed (HN.out _ HD8.out)
        clear hown6 hgrow6 hown HII HO7 HZ
        go_wp2_with fail
        refine (HPut.out _ _ _ _ _ HLN.out HIX.out HOZ.out).mono ?_
        rintro e w10 ⟨rfl, a10, c10, hx10, hn10, hg10⟩
        have HG10 := boxed (grown_trans HGW.out hg10)
        have HR10 : Box (w10.heap[w.heap.size]? = some (.cells #[.int .i64 0, .int .i64 0, .int .i64 0] 30 (0, 0))) := boxed (by rw [hg10.block w.heap.size HWS.out (by intro e; injection e; omega)]; exact HRW.out)
        obtain ⟨⟨d0, d1, d2⟩, g0, g1, g2⟩ := cells3 HR10.out
        have HT := put3_all HR10.out (.int .i64 (F : Nat)) (.int .i64 (O : Nat)) (.int .i64 ((n4 : Int) + 1))
        have HX11 := boxed (IxAt.other hx10 hn10 HT.2.1 HWS.out (by omega))
        have HG11 := boxed (grown_new HG10.out HT.2.1 (Nat.le_refl _))
        obtain ⟨⟨q0, q1, q2⟩, -, -⟩ := HT
        have HR := boxed (And.intro q0 (And.intro q1 q2))
        have HWS2 := boxed (Nat.le_of_lt HWS.out)
        clear q0 q1 q2 hx10 hn10 hg10 HPut HIX HOZ
        go_wp2
        refine bodyPost_ret (v := .tuple #[.agg #[.int .i64 (F : Nat), .int .i64 (O : Nat), .int .i64 ((n4 : Int) + 1)], .int .i64 0]) (by simp [results, Try.results22, go_sem, HR.out.1, HR.out.2.1, HR.out.2.2]) rfl ?_
        exact ⟨by first | (rw [HLN.out]; done) | (rw [HLN.out]; rfl), a10, c10, by rw [TxAt, HFI.out.1, HFI.out.2]; exact HX11.out.1, by rw [HFI.out.1]; exact HX11.out.2.keep (fun b i u hs hc => ⟨Nat.le_trans HWS2.out hs, hc⟩), HG11.out⟩
    )
end
end Go.Proofs.Ytholifolkimkdaa
