/-
  What the document's Right, Same and End and the program's End answer.
-/
import Derived.Test.YtdpjaafdpgkclaaHg
namespace Go.Proofs.Ytdpjaafdpgkclaa
open Go.RowKit
set_option linter.unusedSimpArgs false
set_option linter.unusedVariables false

set_option maxRecDepth 100000 in
set_option maxHeartbeats 4000000 in
theorem refright_any (S : Nat → Prop) (ao : Option Addr) (n cap : Nat) (F : Nat → Slt) (R : Bool) (hR : R = true ↔ Rts F n 0) (w : World) (h : SltsAt S w ao n F) (hn : n ≤ 1000) :
    Calls Try.prog 24 #[.slice ao n cap] w fun e w' => e = .returned (.bool R) ∧ Below w.heap.size w w' := by
  have HH := boxed h
  have HR := boxed hR
  clear h hR
  go_enter Try.func24, Try.ntmps24
  go_wp2_with fail
  go_loopw [3] (fun iv wr => ∃ i : Nat, i ≤ n ∧ iv = .int .i64 (i : Nat) ∧ Box (R = true ↔ Rts F n i) ∧ Box (Below w.heap.size w wr)) (fun iv _ => n - (intOf iv).toNat)
  case atStart => exact ⟨0, Nat.zero_le _, rfl, HR, boxed (Below.refl _ _)⟩
  case round =>
    obtain ⟨i, hi, rfl, HI, HB⟩ := hrel
    by_cases hlt : i < n
    · obtain ⟨b, off, rfl, hbw, -⟩ := HH.out.form (by omega)
      obtain ⟨-, -, c2, -⟩ := (HH.out.below HB.out).get i hlt
      have hI := (HH.out i hlt).1.2.2
      by_cases hz : 1 ≤ (F i).c ∧ (F i).c ≤ (n : Int) - (i : Int)
      · obtain ⟨m, hm⟩ : ∃ m : Nat, (F i).c = (m : Int) := ⟨(F i).c.toNat, by omega⟩
        have m1 : 1 ≤ m := by omega
        have m2 : i + m ≤ n := by omega
        have m3 : (1 : Int) ≤ (m : Int) := by omega
        have m4 : (m : Int) ≤ (n : Int) - (i : Int) := by omega
        rw [hm] at c2
        have HIn : Box ((∀ j, j < m → okL F i m j) → (R = true ↔ Rts F n (i + m))) := boxed (fun q => HI.out.trans (Rts.step m1 (by omega) hm q))
        have HOu : Box (¬ (∀ j, j < m → okL F i m j) → R = false) := boxed (fun q => by
          cases R with
          | false => rfl
          | true =>
            obtain ⟨m', k1, k2, k3, k4, -⟩ := (HI.out.1 rfl).inv hlt
            have : m' = m := by omega
            subst this
            exact absurd k4 q)
        clear hI hz hm HI
        go_wp2_with fail
        go_loopw [5] (fun kv wx => ∃ k : Nat, k ≤ m ∧ kv = .int .i64 (k : Nat) ∧ Box (∀ j, j < k → okL F i m j) ∧ Box (Below w.heap.size w wx)) (fun kv _ => m - (intOf kv).toNat)
        case atStart => exact ⟨0, Nat.zero_le _, rfl, boxed (fun j hj => by omega), HB⟩
        case round =>
          obtain ⟨k, hk, rfl, HP, HBx⟩ := hrel
          clear c2
          by_cases hkl : k < m
          · obtain ⟨c0, c1, c2, c3⟩ := (HH.out.below HBx.out).get (i + k) (by omega)
            obtain ⟨-, -, -, d3⟩ := (HH.out.below HBx.out).get i hlt
            have hbx : b < wr.heap.size := by have := HBx.out.size; omega
            have hne : b ≠ wr.heap.size := by omega
            have HO : Box (okL F i m k ↔ ((1 ≤ (F (i + k)).h ∧ (F (i + k)).h ≤ 1048576) ∧ (F (i + k)).i = k ∧ (F (i + k)).c = m ∧ (F (i + k)).k = (F i).k)) := boxed Iff.rfl
            have HS2 : Box (okL F i m k → ∀ j, j < k + 1 → okL F i m j) := boxed (fun ho j hj => by
              by_cases d : j = k
              · subst d; exact ho
              · exact HP.out j (by omega))
            have HN : Box (¬ okL F i m k → R = false) := boxed (fun hh => HOu.out (fun q => hh (q k hkl)))
            generalize okL F i m k = OK at *
            generalize (F i).k = k0 at *
            generalize F (i + k) = x at *
            obtain ⟨xh, xi, xc, xk⟩ := x
            simp only at c0 c1 c2 c3 HO
            obtain ⟨q, hq⟩ : ∃ q : Nat, i + k = q := ⟨_, rfl⟩
            have e1 : (i : Int) + (k : Int) = (q : Int) := by omega
            have q1 : (q : Int) < (n : Int) := by omega
            have q2 : q < n := by omega
            have q3 : (i : Int) < (n : Int) := by omega
            have k2 : (k : Int) < (m : Int) := by omega
            rw [hq] at c0 c1 c2 c3
            clear hq
            have HBn : Box (∀ o1 d, Below w.heap.size w ((wr.alloc o1).drewN d)) := boxed (fun o1 d => (HBx.out.alloc (by have := HBx.out.size; omega) _).trans (bel_drewN _ _ _))
            clear HP HIn HOu
            by_cases g1 : xh < 1
            · have HX := boxed (HN.out (fun c => by have := HO.out.1 c; omega))
              have t1 : decide (xh < 1) = true := decide_eq_true g1
              clear HO HS2 HN g1
              have hun : undef = Value.tuple #[] := rfl
              go_wp2_with fail
              go_quiet (fail)
              clear hun
              go_wp2_with fail
              go_ret
              exact ⟨by rw [HX.out]; rfl, HBn.out _ _⟩
            have t1 : decide (xh < 1) = false := decide_eq_false g1
            by_cases g2 : 1048576 < xh
            · have HX := boxed (HN.out (fun c => by have := HO.out.1 c; omega))
              have t2 : decide (1048576 < xh) = true := decide_eq_true g2
              clear HO HS2 HN g1 g2
              have hun : undef = Value.tuple #[] := rfl
              go_wp2_with fail
              go_quiet (fail)
              clear hun
              go_wp2_with fail
              go_ret
              exact ⟨by rw [HX.out]; rfl, HBn.out _ _⟩
            have t2 : decide (1048576 < xh) = false := decide_eq_false g2
            by_cases g3 : xi = (k : Int)
            case neg =>
              have HX := boxed (HN.out (fun c => g3 (HO.out.1 c).2.1))
              have t3 : (xi == (k : Int)) = false := by rw [beq_eq_false_iff_ne]; exact g3
              have t3' : (xi != (k : Int)) = true := by rw [bne_iff_ne]; exact g3
              clear HO HS2 HN g1 g2 g3
              have hun : undef = Value.tuple #[] := rfl
              go_wp2_with fail
              go_quiet (fail)
              clear hun
              go_wp2_with fail
              go_ret
              exact ⟨by rw [HX.out]; rfl, HBn.out _ _⟩
            have t3 : (xi == (k : Int)) = true := by rw [beq_iff_eq]; exact g3
            have t3' : (xi != (k : Int)) = false := by rw [bne_eq_false_iff_eq]; exact g3
            by_cases g4 : xc = (m : Int)
            case neg =>
              have HX := boxed (HN.out (fun c => g4 (HO.out.1 c).2.2.1))
              have t4 : (xc == (m : Int)) = false := by rw [beq_eq_false_iff_ne]; exact g4
              have t4' : (xc != (m : Int)) = true := by rw [bne_iff_ne]; exact g4
              clear HO HS2 HN g1 g2 g3 g4
              have hun : undef = Value.tuple #[] := rfl
              go_wp2_with fail
              go_quiet (fail)
              clear hun
              go_wp2_with fail
              go_ret
              exact ⟨by rw [HX.out]; rfl, HBn.out _ _⟩
            have t4 : (xc == (m : Int)) = true := by rw [beq_iff_eq]; exact g4
            have t4' : (xc != (m : Int)) = false := by rw [bne_eq_false_iff_eq]; exact g4
            have HO2 : Box (OK ↔ xk = k0) := boxed (by rw [HO.out]; exact ⟨fun q => q.2.2.2, fun q => ⟨by omega, g3, g4, q⟩⟩)
            clear HO g1 g2 g3 g4
            cases hxk : xk <;> cases hk0 : k0 <;> subst hxk <;> subst hk0
            case false.true =>
              have HX := boxed (HN.out (fun c => by have := HO2.out.1 c; cases this))
              clear HO2 HS2 HN
              go_wp2_with fail
              go_quiet (fail)
              go_wp2_with fail
              go_ret
              exact ⟨by rw [HX.out]; rfl, HBn.out _ _⟩
            case true.false =>
              have HX := boxed (HN.out (fun c => by have := HO2.out.1 c; cases this))
              clear HO2 HS2 HN
              go_wp2_with fail
              go_quiet (fail)
              go_wp2_with fail
              go_ret
              exact ⟨by rw [HX.out]; rfl, HBn.out _ _⟩
            all_goals
              have HX := boxed (HS2.out (HO2.out.2 rfl))
              clear HO2 HS2 HN
              go_wp2_with fail
              go_quiet (fail)
              go_wp2_with fail
              go_roundw
              case rel => exact ⟨k + 1, by omega, by go_num, HX, boxed (HBn.out _ _)⟩
              case measure => simp [intOf]; omega
          · obtain rfl : m = k := by omega
            have HX := boxed (HIn.out HP.out)
            have e1 : wrap64 ((i : Int) + (m : Int)) = (i : Int) + (m : Int) := by unfold wrap64; omega
            go_wp2_with fail
            go_roundw
            case rel => exact ⟨i + m, by omega, by go_num, HX, HBx⟩
            case measure => simp [intOf]; omega
      · have HE : Box (R = false) := boxed (by
          cases R with
          | false => rfl
          | true =>
            obtain ⟨m', k1, k2, k3, k4, -⟩ := (HI.out.1 rfl).inv hlt
            omega)
        obtain ⟨I1, I2⟩ := hI
        generalize (F i).c = z at *
        by_cases h1 : z < 1
        · clear hz
          go_wp2_with fail
          go_ret
          exact ⟨by rw [HE.out]; rfl, HB.out⟩
        · have h2 : (n : Int) - (i : Int) < z := by omega
          clear hz
          go_wp2_with fail
          go_ret
          exact ⟨by rw [HE.out]; rfl, HB.out⟩
    · obtain rfl : i = n := by omega
      have HE : Box (R = true) := boxed (HI.out.2 .done)
      go_wp2_with fail
      go_ret
      exact ⟨by rw [HE.out]; rfl, HB.out⟩
end Go.Proofs.Ytdpjaafdpgkclaa
