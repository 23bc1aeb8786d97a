/-
  Are these a document's lines? What the program's isParagraph and Right and the document's Right answer.
-/
import Derived.Test.YtdpjaafdpgkclaaHb
namespace Go.Proofs.Ytdpjaafdpgkclaa
open Go.RowKit
set_option linter.unusedSimpArgs false
set_option linter.unusedVariables false

theorem sl_hi (b off n cap q : Nat) (hn : n ≤ cap) (hf : q ≤ n) (w : World) : (Instr.slice 22 (.slice (some ⟨b, off, none⟩) n cap) none (some (.int .i64 (q : Int))) none).run Try.prog w = .ok (.slice (some ⟨b, off, none⟩) q cap) w := by
  have h4 : (q : Int) ≤ (cap : Int) := by omega
  go_simp
theorem sl_lo (b off n cap q : Nat) (hn : n ≤ cap) (hf : q < n) (w : World) : (Instr.slice 22 (.slice (some ⟨b, off, none⟩) n cap) (some (.int .i64 (q : Int))) none none).run Try.prog w = .ok (.slice (some ⟨b, off + q * 4, none⟩) (n - q) (cap - q)) w := by
  have hc : Try.prog.cellsOf 69 = 4 := by kernel_rfl
  have h4 : (q : Int) ≤ (n : Int) := by omega
  have h5 : (n : Int) ≤ (cap : Int) := by omega
  simp [Instr.slice, Instr.sliceBounds, Instr.sliceBound, asIntOf, run_underlying Try.underlying22, go_sem, h4, h5]
  rw [if_pos (by omega : q ≤ n), if_neg (by omega : ¬ cap = q)]
theorem sl_end (b off n cap : Nat) (hn : n ≤ cap) : ∃ ao', ∀ w : World, (Instr.slice 22 (.slice (some ⟨b, off, none⟩) n cap) (some (.int .i64 (n : Int))) none none).run Try.prog w = .ok (.slice ao' 0 (cap - n)) w := by
  have hc : Try.prog.cellsOf 69 = 4 := by kernel_rfl
  have h5 : (n : Int) ≤ (cap : Int) := by omega
  by_cases h6 : cap - n = 0
  · refine ⟨some ⟨b, off, none⟩, fun w => ?_⟩
    simp [Instr.slice, Instr.sliceBounds, Instr.sliceBound, asIntOf, run_underlying Try.underlying22, go_sem, h5]
    intro h; omega
  · refine ⟨some ⟨b, off + n * 4, none⟩, fun w => ?_⟩
    simp [Instr.slice, Instr.sliceBounds, Instr.sliceBound, asIntOf, run_underlying Try.underlying22, go_sem, h5]
    intro h; omega
theorem guardSlt : Try.prog.eqGuardType Try.prog.depth 69 = false := by kernel_rfl
theorem eqSlot (a b c a' b' c' : Int) (k k' : Bool) (w : World) : (Op.equalIn 10000 69 (.agg #[.int .i64 a, .int .i64 b, .int .i64 c, .bool k]) (.agg #[.int .i64 a', .int .i64 b', .int .i64 c', .bool k'])).run Try.prog w = .ok (a == a' && b == b' && c == c' && k == k') w := by
  have u3 := Try.underlying3
  have u4 := Try.underlying4
  have hS : Try.prog.underlying 69 = some (.struct (Try.prog.fieldsOf 69)) := by kernel_rfl
  have hp : Try.prog.stoodInHeld 69 = false := by kernel_rfl
  rw [show (10000 : Nat) = 9999 + 1 from rfl, run_equalIn_agg w 9999 69 _ _ hS hp]
  simp only [Program.fieldsOf, Try.underlying69]
  go_simp
  by_cases h1 : a = a' <;> by_cases h2 : b = b' <;> by_cases h3 : c = c' <;> cases k <;> cases k' <;> simp [h1, h2, h3]
theorem neqSlot (a b c a' b' c' : Int) (k k' : Bool) (w : World) : (binOp .neq 69 (.agg #[.int .i64 a, .int .i64 b, .int .i64 c, .bool k]) (.agg #[.int .i64 a', .int .i64 b', .int .i64 c', .bool k'])).run Try.prog w = .ok (.bool (!(a == a' && b == b' && c == c' && k == k'))) w := by
  rw [run_neq_struct, eqSlot]
  rfl
theorem guardSlot (op : BinOp) (x y : Operand) (xs ys : Array Value) (w : World) : (eqGuard op 69 x y (.agg xs) (.agg ys)).run Try.prog w = .ok () w := run_eqGuard_agg w op 69 x y xs ys guardSlt
theorem okL_at (F : Nat → Slt) (i m j : Nat) : okL (fun j => F (i + j)) 0 m j ↔ okL F i m j := by
  unfold okL
  rw [Nat.zero_add]
  exact Iff.rfl
set_option maxRecDepth 100000 in
set_option maxHeartbeats 2000000 in
theorem ispar_any (S : Nat → Prop) (ao : Option Addr) (m cap : Nat) (G : Nat → Slt) (w : World) (h : SltsAt S w ao m G) (hm : m ≤ 1000) :
    Calls Try.prog 47 #[.slice ao m cap] w fun e w' => ∃ R, e = .returned (.bool R) ∧ (R = true ↔ ∀ j, j < m → okL G 0 m j) ∧ Below w.heap.size w w' := by
  have HH := boxed h
  clear h
  go_enter Try.func47, Try.ntmps47
  go_wp2_with fail
  go_loopw [8] (fun kv wr => ∃ k : Nat, k ≤ m ∧ kv = .int .i64 (k : Int) ∧ Box (∀ j, j < k → okL G 0 m j) ∧ Box (Below w.heap.size w wr)) (fun kv _ => m - (intOf kv).toNat)
  case atStart => exact ⟨0, Nat.zero_le _, rfl, boxed (fun j hj => by omega), boxed (Below.refl _ _)⟩
  case round =>
    obtain ⟨k, hk, rfl, HP, HB⟩ := hrel
    by_cases hlt : k < m
    · obtain ⟨b, off, rfl, hbw, -⟩ := HH.out.form (by omega)
      obtain ⟨c0, c1, c2, c3⟩ := (HH.out.below HB.out).get k hlt
      obtain ⟨-, -, -, d3⟩ := (HH.out.below HB.out).get 0 (by omega)
      rw [Nat.zero_mul, Nat.add_zero] at d3
      have hzr := HB.out.size
      have hbr : b < wr.heap.size := by omega
      have hne : b ≠ wr.heap.size := by omega
      have hne2 : b ≠ wr.heap.size + 1 := by omega
      have hgd := guardSlot
      have hnq := neqSlot
      have HO : Box (okL G 0 m k ↔ ((1 ≤ (G k).h ∧ (G k).h ≤ 1048576) ∧ ((G k).i = k ∧ (G k).c = m ∧ (G k).k = (G 0).k))) := boxed (by unfold okL; rw [Nat.zero_add])
      have HS2 : Box (okL G 0 m k → ∀ j, j < k + 1 → okL G 0 m j) := boxed (fun ho j hj => by
        by_cases d : j = k
        · subst d; exact ho
        · exact HP.out j (by omega))
      have HN : Box (¬ okL G 0 m k → ¬ ∀ j, j < m → okL G 0 m j) := boxed (fun hh q => hh (q k hlt))
      generalize okL G 0 m k = OK at *
      generalize (G 0).k = k0 at *
      generalize G k = x at *
      obtain ⟨xh, xi, xc, xk⟩ := x
      simp only at c0 c1 c2 c3 HO
      have k2 : (k : Int) < (m : Int) := by omega
      clear HP
      have HB2 : Box (∀ o1 o2, Below w.heap.size w ((wr.alloc o1).alloc o2).drew) := boxed (fun o1 o2 => ((HB.out.alloc (by omega) _).alloc (by simp; omega) _).drew)
      obtain ⟨E, hE⟩ : ∃ E : Bool, (!(xh == xh && xi == (k : Int) && xc == (m : Int) && xk == k0)) = E := ⟨_, rfl⟩
      have hnE := fun w => hnq xh xi xc xh (k : Int) (m : Int) xk k0 w
      simp only [hE] at hnE
      have HE : Box (E = false ↔ (xi = k ∧ xc = m ∧ xk = k0)) := boxed (by rw [← hE]; simp [and_assoc])
      clear hE hnq
      cases E with
      | true =>
        have HX : Box (¬ ∀ j, j < m → okL G 0 m j) := boxed (HN.out (fun c => by have := HE.out.2 (HO.out.1 c).2; cases this))
        clear HO HS2 HN HE
        go_wp2_with fail
        go_region
        go_wp2_with fail
        go_ret
        exact ⟨false, rfl, ⟨(fun h => by cases h), (fun h => absurd h HX.out)⟩, HB2.out _ _⟩
      | false =>
        have hE2 := HE.out.1 rfl
        by_cases c1 : xh < 1
        · have HX : Box (¬ ∀ j, j < m → okL G 0 m j) := boxed (HN.out (fun c => by have := (HO.out.1 c).1; omega))
          clear HO HS2 HN HE hE2
          go_wp2_with fail
          go_region
          go_wp2_with fail
          go_ret
          exact ⟨false, rfl, ⟨(fun h => by cases h), (fun h => absurd h HX.out)⟩, HB2.out _ _⟩
        · by_cases c2 : 1048576 < xh
          · have HX : Box (¬ ∀ j, j < m → okL G 0 m j) := boxed (HN.out (fun c => by have := (HO.out.1 c).1; omega))
            clear HO HS2 HN HE hE2
            go_wp2_with fail
            go_region
            go_wp2_with fail
            go_ret
            exact ⟨false, rfl, ⟨(fun h => by cases h), (fun h => absurd h HX.out)⟩, HB2.out _ _⟩
          · have HX := boxed (HS2.out (HO.out.2 ⟨by omega, hE2⟩))
            clear HO HS2 HN HE hE2
            go_wp2_with fail
            go_region
            go_wp2_with fail
            go_roundw
            case rel => exact ⟨k + 1, by omega, by go_num, HX, boxed (HB2.out _ _)⟩
            case measure => simp [intOf]; omega
    · obtain rfl : m = k := by omega
      go_wp2_with fail
      go_ret
      exact ⟨true, rfl, ⟨fun _ => HP.out, fun _ => rfl⟩, HB.out⟩
set_option maxRecDepth 100000 in
set_option maxHeartbeats 2000000 in
theorem right_any (S : Nat → Prop) (ao : Option Addr) (n cap : Nat) (F : Nat → Slt) (R : Bool) (hR : R = true ↔ Rts F n 0) (w : World) (h : SltsAt S w ao n F) (hn : n ≤ 1000) (hc : n ≤ cap) :
    Calls Try.prog 32 #[.slice ao n cap] w fun e w' => e = .returned (.int .i64 (if R = true then 0 else 1)) ∧ Below w.heap.size w w' := by
  have HH := boxed h
  have HR := boxed hR
  clear h hR
  have HF0 : Box (R = true → (if R = true then (0 : Int) else 1) = 0) := boxed (fun e => by rw [e]; rfl)
  have HF1 : Box (R = false → (if R = true then (0 : Int) else 1) = 1) := boxed (fun e => by rw [e]; rfl)
  generalize (if R = true then (0 : Int) else 1) = ER at *
  go_enter Try.func32, Try.ntmps32
  go_wp2_with fail
  go_loopw [0] (fun lv wr => ∃ (i cp : Nat) (ao' : Option Addr), i ≤ n ∧ n - i ≤ cp ∧ lv = .slice ao' (n - i) cp ∧ Box (SltsAt S wr ao' (n - i) (fun j => F (i + j))) ∧ Box (R = true ↔ Rts F n i) ∧ Box (Below w.heap.size w wr)) (fun lv _ => match lv with | .slice _ m _ => m | _ => 0)
  case atStart => exact ⟨0, cap, ao, Nat.zero_le _, by omega, rfl, boxed (by simpa using HH.out), HR, boxed (Below.refl _ _)⟩
  case round =>
    obtain ⟨i, cp, ao', hi, hcp, rfl, HS, HI, HB⟩ := hrel
    by_cases hlt : i < n
    · obtain ⟨k, hk⟩ : ∃ k, n - i = k + 1 := ⟨n - i - 1, by omega⟩
      rw [hk] at HS hcp ⊢
      obtain ⟨b, off, rfl, hbw, -⟩ := HS.out.form (by omega)
      obtain ⟨-, -, c2, -⟩ := HS.out.get 0 (by omega)
      have hI := (HS.out 0 (by omega)).1.2.2
      simp only [Nat.add_zero, Nat.zero_mul] at c2 hI
      have HFc : Box (∃ z, (F i).c = z) := boxed ⟨_, rfl⟩
      by_cases hz : 1 ≤ (F i).c ∧ (F i).c ≤ (k : Int) + 1
      · obtain ⟨m, hm⟩ : ∃ m : Nat, (F i).c = (m : Int) := ⟨(F i).c.toNat, by omega⟩
        have m1 : 1 ≤ m := by omega
        have m2 : m ≤ k + 1 := by omega
        have m3 : (1 : Int) ≤ (m : Int) := by omega
        have m4 : (m : Int) ≤ (k : Int) + 1 := by omega
        rw [hm] at c2
        have hsl := sl_hi b off (k + 1) cp m hcp m2
        have hp := fun W (hb : Below wr.heap.size wr W) => ispar_any S (some ⟨b, off, none⟩) m cp (fun j => F (i + j)) W ((show SltsAt S wr (some ⟨b, off, none⟩) m (fun j => F (i + j)) from by have := HS.out.part 0 m (by omega); simpa using this).below hb) (by omega)
        have HIn : Box ((∀ j, j < m → okL F i m j) → (R = true ↔ Rts F n (i + m))) := boxed (fun q => HI.out.trans (Rts.step m1 (by omega) hm q))
        have HOu : Box (¬ (∀ j, j < m → okL F i m j) → R = false) := boxed (fun q => by
          cases R with
          | false => rfl
          | true =>
            obtain ⟨m', k1, k2, k3, k4, -⟩ := (HI.out.1 rfl).inv hlt
            have : m' = m := by omega
            subst this
            exact absurd k4 q)
        have hp1 := (hp wr (Below.refl _ _))
        have HK := boxed hk
        clear hp hI hz hm HFc
        go_wp2_with fail
        refine hp1.mono ?_
        rintro e w2 ⟨P, rfl, hP, hb2⟩
        have HB2 := boxed (below_step HB.out (Nat.le_refl _) hb2)
        have hS2 := HS.out.below hb2
        have HP : Box (P = true ↔ ∀ j, j < m → okL F i m j) := boxed (by rw [hP]; exact ⟨fun q j hj => (okL_at F i m j).1 (q j hj), fun q j hj => (okL_at F i m j).2 (q j hj)⟩)
        clear hP hb2 hp1
        cases P with
        | false =>
          have HE := boxed (HOu.out (fun q => by have := HP.out.2 q; cases this))
          clear HP HIn HOu hS2
          go_wp2_with fail
          go_ret
          exact ⟨by rw [HF1.out HE.out]; rfl, HB2.out⟩
        | true =>
          have HE := boxed (HIn.out (HP.out.1 rfl))
          clear HP HIn HOu
          by_cases hme : m = k + 1
          · subst hme
            clear hS2
            go_wp2_with fail
            go_roundw
            case rel => exact ⟨i + (k + 1), cp - (k + 1), _, by have := HK.out; omega, by have := HK.out; omega, by rw [show n - (i + (k + 1)) = 0 by have := HK.out; omega], boxed (fun j hj => by have := HK.out; omega), HE, HB2⟩
            case measure => simp
          · have hse := sl_lo b off (k + 1) cp m hcp (by omega)
            have HS3 := boxed (hS2.part m (k + 1 - m) (by omega))
            clear hS2
            go_wp2_with fail
            go_roundw
            case rel => exact ⟨i + m, cp - m, _, by have := HK.out; omega, by have := HK.out; omega, by rw [show n - (i + m) = k + 1 - m by have := HK.out; omega], boxed (by rw [show n - (i + m) = k + 1 - m by have := HK.out; omega]; simpa [Nat.add_assoc] using HS3.out), HE, HB2⟩
            case measure => simp; omega
      · have HE : Box (R = false) := boxed (by
          cases R with
          | false => rfl
          | true =>
            obtain ⟨m', k1, k2, k3, k4, -⟩ := (HI.out.1 rfl).inv hlt
            omega)
        generalize (F i).c = z at *
        by_cases h1 : z < 1
        · clear hz HFc
          go_wp2_with fail
          go_ret
          exact ⟨by rw [HF1.out HE.out]; rfl, HB.out⟩
        · have h2 : (k : Int) + 1 < z := by omega
          clear hz HFc
          go_wp2_with fail
          go_ret
          exact ⟨by rw [HF1.out HE.out]; rfl, HB.out⟩
    · obtain rfl : i = n := by omega
      have HE : Box (R = true) := boxed (HI.out.2 .done)
      rw [Nat.sub_self]
      go_wp2_with fail
      go_ret
      exact ⟨by rw [HF0.out HE.out]; rfl, HB.out⟩
end Go.Proofs.Ytdpjaafdpgkclaa
