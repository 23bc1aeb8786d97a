/-
  What the program's add, New and Copy do.
-/
import Derived.Test.YtholifolkimkdaaGe
import Derived.Deep.AppendLies
namespace Go.Proofs.Ytholifolkimkdaa
open Go.RowKit
set_option linter.unusedSimpArgs false
set_option linter.unusedVariables false

theorem NAt.under {B : Nat} {w w' : World} {ao : Option Addr} {L : List Nat} (h : NAt (· < B) w ao L) (hb : Below B w w') : NAt (· < B) w' ao L :=
  h.keep (fun b i u hs hc => ⟨hs, by rw [World.cell?_of_block (a := ⟨b, i, none⟩) (hb.block b hs)]; exact hc⟩)
theorem NAt.early {S : Nat → Prop} {B : Nat} {w : World} {ao : Option Addr} {L : List Nat} (h : NAt S w ao L) (hB : w.heap.size ≤ B) : NAt (· < B) w ao L :=
  h.keep (fun b i u hs hc => ⟨by have := World.block_lt_of_cell? w _ hc; simp at this; omega, hc⟩)

set_option maxRecDepth 100000 in
set_option maxHeartbeats 2000000 in
theorem add_any (B : Nat) (v : Value) (P Q : List Nat) (so : Option Addr) (sc : Nat) (w : World) (hown : w.ownsRow B 3 1 v P.length (ncs (ens 0 P))) (hs : NAt (· < B) w so Q) (hB : B ≤ w.heap.size) (hn : P.length + Q.length ≤ 1048576) (hm : P.sum + Q.sum ≤ 2097152) :
    Calls Try.prog 27 #[v, .slice so Q.length sc] w fun e w' => ∃ v', e = .returned v' ∧ w'.ownsRow B 3 1 v' (P ++ Q).length (ncs (ens 0 (P ++ Q))) ∧ Below B w w' := by
  obtain ⟨i0, hi, hz0, hz1, hz2⟩ := info_parts info_int
  obtain ⟨ao, cap, rfl⟩ := own_shape hown
  have hla := (own_nat (by rw [ens_len]; exact hown)).lastAt P.length (Nat.le_refl _)
  rw [Bg_all _ _ (Nat.le_refl _)] at hla
  have hl := last_any ao P.length cap P.sum w hla (by omega)
  have HO := boxed hown
  have HS := boxed hs
  clear hown hs hla
  go_enter Try.func27, Try.ntmps27
  go_wp2_with fail
  refine hl.mono ?_
  rintro e w1 ⟨rfl, hb1⟩
  have HB1 := boxed (hb1.mono hB)
  have HO1 := boxed (owns_below HO.out hb1)
  clear hl hb1
  go_wp2_with fail
  go_loopw [0, 5, 12] (fun vv av iv wr => ∃ k : Nat, k ≤ Q.length ∧ iv = .int .i64 (k : Nat) ∧ av = .int .i64 (P.sum + Bg Q k : Nat) ∧ Box (wr.ownsRow B 3 1 vv (P.length + k) (ncs (ens 0 (P ++ Q.take k)))) ∧ Box (Below B w wr)) (fun _ _ iv _ => Q.length - (intOf iv).toNat)
  case atStart => exact ⟨0, Nat.zero_le _, rfl, by rw [Bg_zero]; rfl, by simpa using HO1, HB1⟩
  case round =>
    obtain ⟨k, hk, rfl, rfl, HOr, HBr⟩ := hrel
    by_cases hlt : k < Q.length
    · obtain ⟨b, rfl, -, c0⟩ := (HS.out.under HBr.out) k hlt
      have hst := Bg_get Q k hlt
      have hle := Bg_le Q (k + 1)
      have HE : Box (ncs (ens 0 (P ++ Q.take (k + 1))) = ncs (ens 0 (P ++ Q.take k)) ++ [.int .i64 (P.sum + Bg Q (k + 1) : Nat)]) := boxed (by
        have e1 : Q.take (k + 1) = Q.take k ++ [Q.getD k 0] := by
          rw [List.take_add_one, List.getElem?_eq_getElem hlt]; simp [List.getElem?_eq_getElem hlt]
        rw [e1, ← List.append_assoc, ens_app, ncs_app]
        congr 1
        simp only [ens, ncs, List.map_cons, List.map_nil, List.sum_append, Nat.zero_add]
        rw [hst]
        congr 3
        unfold Bg
        omega)
      obtain ⟨A, hA⟩ : ∃ A, P.sum + Bg Q k = A := ⟨_, rfl⟩
      obtain ⟨A', hA'⟩ : ∃ A', P.sum + Bg Q (k + 1) = A' := ⟨_, rfl⟩
      rw [hA'] at HE
      rw [hA]
      have hAA : (A : Int) + (Q.getD k 0 : Nat) = (A' : Nat) := by omega
      have hA2 : A' ≤ 2097152 := by omega
      have hA3 := boxed hA'
      clear hst hle hA hA'
      generalize Q.getD k 0 = qk at *
      have hbs : B ≤ wr.heap.size := Nat.le_trans hB HBr.out.size
      have hown := HOr.out
      generalize hM : Q.length = M at *
      go_wp2_with (first | (at_builtin; refine wpList_append_own _ rfl _ _ 34 rfl B 3 i0 _ 1 8 Try.underlying34 hi hz0 hz1 hz2 rfl (by decide) _ _ _ rfl (hown.alloc _) ⟨wr.heap.size, 0, none⟩ 1 1 [.int .i64 (A' : Nat)] rfl rfl ?c1 ?c2 ?c3 ?c4 ?c5 ?_))
      case c1 =>
        intro j u hj
        match j, hj with
        | 0, hj => simp at hj; subst hj; simp [Addr.add]
      case c2 => intro u hu; simp at hu; subst hu; rfl
      case c3 => unfold maxLen; omega
      case c4 => omega
      case c5 => simp; omega
      intro v' w6 hown6 hgrow6 _
      have HO6 := boxed hown6
      have HG6 := boxed (HBr.out.trans (grown_any hown hbs hgrow6))
      clear hown6 hgrow6 hown
      go_wp2_with fail
      go_roundw
      case rel => exact ⟨k + 1, by omega, by go_num, by rw [hA3.out], boxed (by rw [HE.out, ← Nat.add_assoc]; exact HO6.out), HG6⟩
      case measure => simp [intOf]; omega
    · obtain rfl : k = Q.length := by omega
      have HF : Box (wr.ownsRow B 3 1 u0 (P ++ Q).length (ncs (ens 0 (P ++ Q)))) := boxed (by have := HOr.out; rw [List.take_length] at this; rw [List.length_append]; exact this)
      clear HOr
      go_wp2
      go_ret
      exact ⟨u0, rfl, HF.out, HBr.out⟩
end Go.Proofs.Ytholifolkimkdaa
