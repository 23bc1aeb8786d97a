/-
  How wide a right text is, as the document's Text answers it.
-/
import Derived.Test.YtjfcpbnipkkjbaaNd
import Derived.Test.YtjfcpbnipkkjbaaNe
namespace Go.Proofs.Ytjfcpbnipkkjbaa
open Go.RowKit
set_option linter.unusedSimpArgs false
set_option linter.unusedVariables false

set_option maxRecDepth 100000 in
set_option maxHeartbeats 1000000 in
theorem reftext_any (S : Nat → Prop) (ao : Option Addr) (n cap : Nat) (F : Nat → Sty) (w : World) (h : StysAt S w ao n F) (a : Int) (t : ByteArray) (N : Nat) (ht : t.size ≤ 1048576) (hN : Cnt t N) :
    Calls Try.prog 27 #[.slice ao n cap, .int .i64 a, .string t] w fun e w' => e = .returned (.int .i64 (txw (ofS F n a) t N)) ∧ Below w.heap.size w w' := by
  have hru := runes_any t w ht N hN
  have HW := boxed (fun w' (hb : Below w.heap.size w w') r => refwidth_any S ao n cap F w' (h.below hb) a r)
  have HT : Box (∀ k, txw (ofS F n a) t (k + 1) = ad (txw (ofS F n a) t k) (wdS (ofS F n a) (rn t k))) := boxed (fun k => rfl)
  have HT0 : Box (txw (ofS F n a) t 0 = 0) := boxed rfl
  have hNl : N ≤ t.size := by have := cnt_le t N hN; have := it_le t N; omega
  have HRN : Box (∀ j, j < N → (rns t N).getD j 0 = rn t j) := boxed (fun j hj => rns_get _ _ _ hj)
  have HL := boxed (rns_len t N)
  clear h hN
  generalize txw (ofS F n a) t = TX at *
  generalize badAt t N = BA at *
  generalize rns t N = RL at *
  generalize ofS F n a = s at *
  go_enter Try.func27, Try.ntmps27
  go_wp2_with fail
  refine hru.mono ?_
  rintro e w1 ⟨p1, c1, p2, c2, rfl, hd1, -, hb1⟩
  have HD := boxed hd1
  have HB1 := boxed hb1
  clear hru hd1 hb1
  go_wp2
  go_loopw [10, 11] (fun v i wr => ∃ k : Nat, k ≤ N ∧ v = .int .i64 (TX k) ∧ i = .int .i64 (k : Int) ∧ Box (Below w1.heap.size w1 wr)) (fun _ i _ => N - (intOf i).toNat)
  case atStart => exact ⟨0, Nat.zero_le _, by rw [HT0.out], rfl, boxed (Below.refl _ _)⟩
  case round =>
    obtain ⟨k, hk, rfl, rfl, HB⟩ := hrel
    by_cases hlt : k < N
    · obtain ⟨-, hx | ⟨b, off, e, hbl, hcell⟩⟩ := HD.out.below HB.out
      · exfalso; have := HL.out; rw [hx] at this; simp at this; omega
      subst e
      have c0 := hcell k (by rw [HL.out]; exact hlt)
      rw [HRN.out k hlt] at c0
      have t1 : decide ((k : Int) < (N : Int)) = true := decide_eq_true (by omega)
      have hrl := rn_le t k
      have hw := HW.out wr (below_step HB1.out (Nat.le_refl _) HB.out) (rn t k : Int)
      have HTk := boxed (HT.out k)
      clear hcell
      generalize rn t k = r at *
      generalize wdS s (r : Int) = WD at *
      have hadd := fun w => refadd_any (TX k) WD w
      go_wp2_with fail
      refine hw.mono ?_
      rintro e w2 ⟨rfl, hb2⟩
      have HB2 := boxed (below_step HB.out (Nat.le_refl _) hb2)
      clear hw hb2 c0
      go_wp2_with fail
      refine (hadd _).mono ?_
      rintro e w' ⟨rfl, hw'⟩
      subst w'
      clear hadd
      go_wp2
      go_roundw
      case rel => exact ⟨k + 1, by omega, by rw [HTk.out], by go_num, HB2⟩
      case measure => simp [intOf]; omega
    · have e : k = N := by omega
      subst e
      have t1 : decide ((k : Int) < (k : Int)) = false := decide_eq_false (by omega)
      go_wp2
      go_ret
      exact ⟨rfl, below_step HB1.out (Nat.le_refl _) HB.out⟩
end Go.Proofs.Ytjfcpbnipkkjbaa
