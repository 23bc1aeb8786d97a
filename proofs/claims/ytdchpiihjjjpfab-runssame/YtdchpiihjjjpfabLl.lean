/-
  What the program's reach and Lay do.
-/
import Derived.Test.YtdchpiihjjjpfabLk
namespace Go.Proofs.Ytdchpiihjjjpfab
open Go.RowKit
set_option linter.unusedSimpArgs false
set_option linter.unusedVariables false

/-- The first fault of k runs that are laid from a on, and where they end. -/
def lyf (N : Nat) (L Y : Nat → Int) (a : Int) : Nat → Int × Int
  | 0 => (0, a)
  | k + 1 => if (lyf N L Y a k).1 ≠ 0 then lyf N L Y a k else if L k < 0 then (1, 0) else if stb (Y k) = true then (if (N : Int) - (lyf N L Y a k).2 < L k then (30, 0) else (0, (lyf N L Y a k).2 + L k)) else (43, 0)
theorem lyf_succ (N : Nat) (L Y : Nat → Int) (a : Int) (k : Nat) : lyf N L Y a (k + 1) = if (lyf N L Y a k).1 ≠ 0 then lyf N L Y a k else if L k < 0 then (1, 0) else if stb (Y k) = true then (if (N : Int) - (lyf N L Y a k).2 < L k then (30, 0) else (0, (lyf N L Y a k).2 + L k)) else (43, 0) := rfl
theorem lyf_stop (N : Nat) (L Y : Nat → Int) (a : Int) (k n : Nat) (h : (lyf N L Y a k).1 ≠ 0) (hk : k ≤ n) : lyf N L Y a n = lyf N L Y a k := by
  induction n with
  | zero => obtain rfl : k = 0 := by omega
            rfl
  | succ n ih =>
    by_cases c : k = n + 1
    · subst c; rfl
    · have e := ih (by omega)
      rw [lyf_succ, if_pos (by rw [e]; exact h), e]
theorem lyf_fail {N : Nat} {L Y : Nat → Int} {a p : Int} {k n : Nat} (h0 : lyf N L Y a k = (0, p)) (hk : k < n) {c : Int} (hc : c ≠ 0) (h : lyf N L Y a (k + 1) = (c, 0)) : lyf N L Y a n = (c, 0) := by
  rw [lyf_stop N L Y a (k + 1) n (by rw [h]; exact hc) (by omega), h]
theorem lyf_ok (N : Nat) (L Y : Nat → Int) (a : Nat) (ha : a ≤ N) (hN : N ≤ 65536) (k : Nat) (p : Int) (h : lyf N L Y a k = (0, p)) : (a : Int) ≤ p ∧ p ≤ N ∧ (∀ i, i < k → 0 ≤ L i ∧ L i ≤ 65536) ∧ (∀ i, i < k → 0 ≤ Y i ∧ Y i < 32) ∧ ((exr L Y k).length : Int) = p - a := by
  induction k generalizing p with
  | zero =>
    have : p = a := by simpa [lyf] using (congrArg Prod.snd h).symm
    subst this
    exact ⟨by omega, by omega, fun i hi => by omega, fun i hi => by omega, by simp [exr]⟩
  | succ k ih =>
    rw [lyf_succ] at h
    by_cases c0 : (lyf N L Y a k).1 ≠ 0
    · rw [if_pos c0] at h; rw [h] at c0; exact absurd rfl c0
    · rw [if_neg c0] at h
      have e0 : (lyf N L Y a k).1 = 0 := by simpa using c0
      obtain ⟨i1, i2, i3, i4, i5⟩ := ih (lyf N L Y a k).2 (by rw [← e0])
      by_cases c1 : L k < 0
      · rw [if_pos c1] at h; simp at h
      · rw [if_neg c1] at h
        by_cases c2 : stb (Y k) = true
        · rw [if_pos c2] at h
          by_cases c3 : (N : Int) - (lyf N L Y a k).2 < L k
          · rw [if_pos c3] at h; simp at h
          · rw [if_neg c3] at h
            have hp : (lyf N L Y a k).2 + L k = p := congrArg Prod.snd h
            have hy := (stb_iff _).1 c2
            refine ⟨by omega, by omega, ?_, ?_, ?_⟩
            · intro i hi
              by_cases d : i = k
              · subst d; omega
              · exact i3 i (by omega)
            · intro i hi
              by_cases d : i = k
              · subst d; exact hy
              · exact i4 i (by omega)
            · simp only [exr, List.length_append, List.length_replicate]
              omega
        · rw [if_neg c2] at h; simp at h

section
variable {w : World} {lb : Nat} {ao : Option Addr} {cap : Nat} {s : List Int} {bare : Int}

set_option maxRecDepth 100000 in
set_option maxHeartbeats 4000000 in
theorem reach_any (h : ListAt w lb ao cap s bare) (a : Nat) (ha : a ≤ s.length) (S : Nat → Prop) (ro : Option Addr) (rn rc : Nat) (L Y : Nat → Int) (hr : P2At S w ro rn L Y) (hrn : rn ≤ 65536) :
    Calls Try.prog 41 #[.pointer (some ⟨lb, 0, none⟩), .int .i64 (a : Nat), .slice ro rn rc] w fun e w' => e = .returned (.tuple #[.int .i64 (lyf s.length L Y a rn).2, .int .i64 (lyf s.length L Y a rn).1]) ∧ Below w.heap.size w w' := by
  have HL := boxed (fun w' (hb : Below w.heap.size w w') => len_any (h.below hb))
  have HR := boxed hr
  have hl := h.len
  have hlt := h.lt
  clear h hr
  go_enter Try.func41, Try.ntmps41
  go_wp2_with fail
  go_loopw [1, 12] (fun va vi wr => ∃ (k : Nat) (p : Nat), k ≤ rn ∧ a ≤ p ∧ p ≤ s.length ∧ va = .int .i64 (p : Nat) ∧ vi = .int .i64 (k : Nat) ∧ Box (lyf s.length L Y a k = (0, (p : Int))) ∧ Box (Below w.heap.size w wr)) (fun _ vi _ => rn - (intOf vi).toNat)
  case atStart => exact ⟨0, a, Nat.zero_le _, Nat.le_refl _, ha, rfl, rfl, boxed rfl, boxed (Below.refl _ _)⟩
  case round =>
    obtain ⟨k, p, hk, hap, hps, rfl, rfl, HF, HB⟩ := hrel
    by_cases hkn : k < rn
    · obtain ⟨rb0, off0, rfl, -⟩ := HR.out.form (by omega)
      obtain ⟨e0, e1⟩ := (HR.out.below HB.out).get k hkn
      have hLI := (HR.out k hkn).1.1
      have HS := boxed (lyf_succ s.length L Y a k)
      rw [HF.out] at HS
      have HFL := boxed (fun {c : Int} (hc : c ≠ 0) (h : lyf s.length L Y a (k + 1) = (c, 0)) => lyf_fail HF.out hkn hc h)
      have hzr := HB.out.size
      have hsty := isStyle_any (Y k)
      obtain ⟨W0, hW0⟩ : ∃ W0, wr.alloc (.cells #[.int .i64 (L k), .int .i64 (Y k)] 25) = W0 := ⟨_, rfl⟩
      have HB0 : Box (Below w.heap.size w W0) := boxed (by rw [← hW0]; exact HB.out.alloc hzr _)
      have r0 : W0.cell? ⟨wr.heap.size, 0, none⟩ = some (.int .i64 (L k)) := by rw [← hW0, cell_new _ _ _ _ _ rfl]; rfl
      have r1 : W0.cell? ⟨wr.heap.size, 1, none⟩ = some (.int .i64 (Y k)) := by rw [← hW0, cell_new _ _ _ _ _ rfl]; rfl
      by_cases c1 : L k < 0
      · have HE := boxed (HFL.out (c := 1) (by omega) (by rw [HS.out, if_neg (by simp), if_pos c1]))
        clear HFL HS
        generalize L k = l at *
        generalize Y k = y at *
        go_wp2_with fail
        go_ret2
        exact ⟨by rw [HE.out]; rfl, HB0.out⟩
      · by_cases c2 : stb (Y k) = true
        · rw [c2] at hsty
          have hrr := boxed (fun w' (hb : Below W0.heap.size W0 w') => (⟨hold hb r0, hold hb r1⟩ : w'.cell? ⟨wr.heap.size, 0, none⟩ = some (.int .i64 (L k)) ∧ w'.cell? ⟨wr.heap.size, 1, none⟩ = some (.int .i64 (Y k))))
          have hw : IntKind.i64.wrap ((s.length : Int) - (p : Int)) = (s.length : Int) - (p : Int) := by rw [IntKind.wrap_i64]; omega
          by_cases c3 : (s.length : Int) - (p : Int) < L k
          · have HE := boxed (HFL.out (c := 30) (by omega) (by rw [HS.out, if_neg (by simp), if_neg c1, if_pos c2, if_pos c3]))
            clear HFL HS c2
            have t3 : decide ((s.length : Int) - (p : Int) < L k) = true := decide_eq_true c3
            generalize L k = l at *
            generalize Y k = y at *
            go_wp2_with (go_at_call 23; refine (hsty _).mono ?_; rintro e w1' ⟨rfl, hw'⟩; subst w1')
            have HD0 : Box (Below W0.heap.size W0 W0.drew) := boxed (Below.refl _ _).drew
            have HD1 : Box (Below w.heap.size w W0.drew) := boxed (HB0.out.trans (Below.refl _ _).drew)
            go_region_held3 (fun w' => w'.cell? ⟨wr.heap.size, 0, none⟩ = some (.int .i64 l) ∧ w'.cell? ⟨wr.heap.size, 1, none⟩ = some (.int .i64 y))
              (first | with_reducible exact hrr.out _ HD0.out | with_reducible exact hrr.out _ HD5.out)
              (first | (go_at_call 12; refine (HL.out _ HD1.out).mono ?_; rintro e w5 ⟨rfl, hb5⟩; have HD5 := boxed (HD0.out.trans (hb5.mono HD0.out.size)); have HB5 := boxed (HD1.out.trans (hb5.mono HD1.out.size)); clear hb5))
            go_wp2_with fail
            go_ret2
            exact ⟨by rw [HE.out]; rfl, HB5.out⟩
          · obtain ⟨m, hm⟩ : ∃ m : Nat, L k = m := ⟨(L k).toNat, by omega⟩
            have HE : Box (lyf s.length L Y a (k + 1) = (0, ((p + m : Nat) : Int))) := boxed (by rw [HS.out, if_neg (by simp), if_neg c1, if_pos c2, if_neg c3, hm]; simp)
            clear HFL HS c2
            have t3 : decide ((s.length : Int) - (p : Int) < (m : Int)) = false := decide_eq_false (by omega)
            rw [hm] at c3 c1 hLI hrr hW0 r0 e0
            generalize Y k = y at *
            clear hm c1
            go_wp2_with (go_at_call 23; refine (hsty _).mono ?_; rintro e w1' ⟨rfl, hw'⟩; subst w1')
            have HD0 : Box (Below W0.heap.size W0 W0.drew) := boxed (Below.refl _ _).drew
            have HD1 : Box (Below w.heap.size w W0.drew) := boxed (HB0.out.trans (Below.refl _ _).drew)
            go_region_held3 (fun w' => w'.cell? ⟨wr.heap.size, 0, none⟩ = some (.int .i64 (m : Nat)) ∧ w'.cell? ⟨wr.heap.size, 1, none⟩ = some (.int .i64 y))
              (first | with_reducible exact hrr.out _ HD0.out | with_reducible exact hrr.out _ HD5.out)
              (first | (go_at_call 12; refine (HL.out _ HD1.out).mono ?_; rintro e w5 ⟨rfl, hb5⟩; have HD5 := boxed (HD0.out.trans (hb5.mono HD0.out.size)); have HB5 := boxed (HD1.out.trans (hb5.mono HD1.out.size)); clear hb5))
            have f0 := (hrr.out _ HD5.out).1
            have hpm : p + m ≤ s.length := by omega
            go_wp2_with fail
            go_roundw
            case rel => exact ⟨k + 1, p + m, by omega, by omega, hpm, by go_num, by go_num, HE, HB5⟩
            case measure => simp [intOf]; omega
        · have c2' : stb (Y k) = false := by simpa using c2
          have HE := boxed (HFL.out (c := 43) (by omega) (by rw [HS.out, if_neg (by simp), if_neg c1, if_neg c2]))
          rw [c2'] at hsty
          clear HFL HS c2 c2'
          generalize L k = l at *
          generalize Y k = y at *
          go_wp2_with (go_at_call 23; refine (hsty _).mono ?_; rintro e w1' ⟨rfl, hw'⟩; subst w1')
          go_ret2
          exact ⟨by rw [HE.out]; rfl, HB0.out⟩
    · obtain rfl : k = rn := by omega
      go_wp2_with fail
      go_ret2
      exact ⟨by rw [HF.out]; rfl, HB.out⟩

def layE (s : List Int) (a : Int) (L Y : Nat → Int) (n : Nat) : Int := if outb s.length a a = true then 30 else (lyf s.length L Y a n).1
def layS (s : List Int) (a : Int) (L Y : Nat → Int) (n : Nat) : List Int := if layE s a L Y n = 0 then s.take a.toNat ++ exr L Y n ++ s.drop (lyf s.length L Y a n).2.toNat else s

set_option maxRecDepth 100000 in
set_option maxHeartbeats 2000000 in
theorem lay_any (h : ListAt w lb ao cap s bare) (a : Int) (ro : Option Addr) (rn rc : Nat) (L Y : Nat → Int) (hr : P2At (· ≠ lb) w ro rn L Y) (hrn : rn ≤ 65536) :
    Calls Try.prog 33 #[.pointer (some ⟨lb, 0, none⟩), .int .i64 a, .slice ro rn rc] w fun e w' => e = .returned (.int .i64 (layE s a L Y rn)) ∧ ∃ ao' cap', ListAt w' lb ao' cap' (layS s a L Y rn) bare ∧ w.grownBy w' (some lb) := by
  have ho := outside_any h a a
  have hl := h.len
  have HH := boxed h
  unfold layS layE
  by_cases c1 : outb s.length a a = true
  · rw [if_pos c1, if_neg (by omega)]
    rw [c1] at ho
    clear h
    go_enter Try.func33, Try.ntmps33
    go_wp2_with fail
    refine ho.mono ?_
    rintro e w1 ⟨rfl, hb1⟩
    have HB1 := boxed hb1
    clear hb1 ho
    go_wp2
    go_ret
    exact ⟨rfl, ao, cap, HH.out.below HB1.out, below_grown HB1.out _⟩
  · rw [if_neg c1]
    have c1' : outb s.length a a = false := by simpa using c1
    obtain ⟨a1, -, a2⟩ := (outb_iff _ _ _).1 c1'
    rw [c1'] at ho
    obtain ⟨k, rfl⟩ : ∃ k : Nat, a = k := ⟨a.toNat, by omega⟩
    have e1 : ((k : Int)).toNat = k := by simp
    rw [e1]
    have HR := boxed (fun (w1 : World) (hb1 : Below w.heap.size w w1) => reach_any (h.below hb1) k (by omega) (· ≠ lb) ro rn rc L Y (hr.below hb1) hrn)
    have hok := lyf_ok s.length L Y k (by omega) hl rn
    generalize lyf s.length L Y k rn = P at *
    obtain ⟨err, p⟩ := P
    dsimp only at *
    clear c1 c1' e1
    by_cases c2 : err = 0
    · subst c2
      rw [if_pos rfl]
      obtain ⟨p1, p2, p3, p4, p5⟩ := hok p rfl
      obtain ⟨m, rfl⟩ : ∃ m : Nat, p = m := ⟨p.toNat, by omega⟩
      have e2 : ((m : Int)).toNat = m := by simp
      rw [e2]
      have HP := boxed (fun (w1 : World) (hb1 : Below w.heap.size w w1) => put_any (h.below hb1) k m (by omega) (by omega) ro rn rc L Y (hr.below hb1) hrn p3 p4 (by simp; omega))
      clear h hr hok p3 p4 p5 e2
      go_enter Try.func33, Try.ntmps33
      go_wp2_with fail
      refine ho.mono ?_
      rintro e w1 ⟨rfl, hb1⟩
      have HB1 := boxed hb1
      clear hb1 ho
      go_wp2_with fail
      refine (HR.out _ HB1.out).mono ?_
      rintro e w2 ⟨rfl, hb2⟩
      have HB2 := boxed (below_step HB1.out (Nat.le_refl _) hb2)
      clear hb2
      go_wp2_with fail
      refine (HP.out _ HB2.out).mono ?_
      rintro e w3 ⟨rfl, ao', cap', hL, hg⟩
      have HF := boxed (And.intro hL (grown_trans (below_grown HB2.out (some lb)) hg))
      clear hL hg
      go_wp2
      go_ret
      exact ⟨rfl, ao', cap', HF.out⟩
    · rw [if_neg c2]
      have t2 : (err == 0) = false := by simpa using c2
      clear h hr hok c2
      go_enter Try.func33, Try.ntmps33
      go_wp2_with fail
      refine ho.mono ?_
      rintro e w1 ⟨rfl, hb1⟩
      have HB1 := boxed hb1
      clear hb1 ho
      go_wp2_with fail
      refine (HR.out _ HB1.out).mono ?_
      rintro e w2 ⟨rfl, hb2⟩
      have HB2 := boxed (below_step HB1.out (Nat.le_refl _) hb2)
      clear hb2
      go_wp2
      go_ret
      exact ⟨rfl, ao, cap, HH.out.below HB2.out, below_grown HB2.out _⟩
end
end Go.Proofs.Ytdchpiihjjjpfab
