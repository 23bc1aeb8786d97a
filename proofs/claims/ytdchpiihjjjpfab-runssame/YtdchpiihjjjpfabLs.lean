/-
  What the document's Lay answers.
-/
import Derived.Test.YtdchpiihjjjpfabLp
import Derived.Test.YtdchpiihjjjpfabLl
namespace Go.Proofs.Ytdchpiihjjjpfab
open Go.RowKit
set_option linter.unusedSimpArgs false
set_option linter.unusedVariables false

theorem lay_set (A s : List Int) (p n : Nat) (y : Int) (hA : A.length = p) (h : p + n < s.length) : (ints (A ++ List.replicate n y ++ s.drop (p + n))).set (p + n) (.int .i64 y) = ints (A ++ List.replicate (n + 1) y ++ s.drop (p + (n + 1))) := by
  have e : s.drop (p + n) = s[p + n] :: s.drop (p + (n + 1)) := by rw [List.drop_eq_getElem_cons h]; rfl
  rw [e, List.replicate_succ' (n := n)]
  have hl : (ints (A ++ List.replicate n y)).length = p + n := by rw [ints_len]; simp [hA]
  rw [ints_app, List.set_append_right _ _ (by omega), hl]
  simp [ints]

def RLayP (N : Nat → Prop) (w : World) (s : List Int) (base a : Int) (L Y : Nat → Int) (rn : Nat) (e : Ending) (w' : World) : Prop :=
  ∃ b' off' cap', e = .returned (.tuple #[.agg #[.slice (some ⟨b', off', none⟩) (layS s a L Y rn).length cap', .int .i64 base], .int .i64 (layE s a L Y rn)]) ∧ RfAt N w' b' off' cap' (layS s a L Y rn) ∧ Below w.heap.size w w'
theorem RLayP.bad {N : Nat → Prop} {w w' : World} {s : List Int} {base a : Int} {L Y : Nat → Int} {rn b off cap : Nat} {c : Int} (hE : layE s a L Y rn = c) (hc : c ≠ 0) (h : RfAt N w' b off cap s ∧ Below w.heap.size w w') : RLayP N w s base a L Y rn (.returned (.tuple #[.agg #[.slice (some ⟨b, off, none⟩) s.length cap, .int .i64 base], .int .i64 c])) w' := by
  have hs : layS s a L Y rn = s := by unfold layS; rw [hE, if_neg hc]
  exact ⟨b, off, cap, by rw [hs, hE], by rw [hs]; exact h.1, h.2⟩
theorem RLayP.good {N : Nat → Prop} {w w' : World} {s Q : List Int} {base a : Int} {L Y : Nat → Int} {rn b off cap : Nat} (hE : layE s a L Y rn = 0) (hs : layS s a L Y rn = Q) (h : RfAt N w' b off cap Q ∧ Below w.heap.size w w') : RLayP N w s base a L Y rn (.returned (.tuple #[.agg #[.slice (some ⟨b, off, none⟩) Q.length cap, .int .i64 base], .int .i64 0])) w' :=
  ⟨b, off, cap, by rw [hs, hE], by rw [hs]; exact h.1, h.2⟩

section
variable {N : Nat → Prop} {w : World} {b off cap : Nat} {s : List Int} {base : Int}

set_option maxRecDepth 100000 in
set_option maxHeartbeats 4000000 in
theorem rlay_any (h : RfAt N w b off cap s) (hlb : ∀ k, w.heap.size ≤ k → N k) (a : Int) (ro : Option Addr) (rn rc : Nat) (L Y : Nat → Int) (S : Nat → Prop) (hr : P2At S w ro rn L Y) (hrn : rn ≤ 65536) : Calls Try.prog 32 #[.agg #[.slice (some ⟨b, off, none⟩) s.length cap, .int .i64 base], .int .i64 a, .slice ro rn rc] w fun e w' => RLayP N w s base a L Y rn e w' := by
  have hl := h.len
  have hcp := h.cap
  have HH := boxed h
  obtain ⟨W0, hW0⟩ : ∃ W0, (w.alloc (.cells #[.slice (some ⟨b, off, none⟩) s.length cap, .int .i64 base] 33)).alloc (.cells #[.slice none 0 0, .int .i64 0] 33) = W0 := ⟨_, rfl⟩
  obtain ⟨hA0, hz0, px0, px1, hr0⟩ := boxes w (.slice (some ⟨b, off, none⟩) s.length cap) (.int .i64 base)
  rw [hW0] at hA0 hz0 px0 px1 hr0
  have HA0 := boxed hA0
  have hbl : ∀ i, i < s.length → b ≠ w.heap.size + 1 := fun i hi => by have := World.block_lt_of_cell? w _ (h.cells i hi); simp at this; omega
  have HAF := boxed (fun (w1 : World) (hb : Below W0.heap.size W0 w1) => after hA0 hz0 px0 px1 hr0 hb)
  have HEnd : Box (∀ (w1 : World), Below W0.heap.size W0 w1 → RfAt N ((w1.setCell ⟨w.heap.size + 1, 0, none⟩ (.slice (some ⟨b, off, none⟩) s.length cap)).setCell ⟨w.heap.size + 1, 1, none⟩ (.int .i64 base)) b off cap s ∧ Below w.heap.size w ((w1.setCell ⟨w.heap.size + 1, 0, none⟩ (.slice (some ⟨b, off, none⟩) s.length cap)).setCell ⟨w.heap.size + 1, 1, none⟩ (.int .i64 base))) := boxed (fun w1 hb => by
    obtain ⟨HB1, r1, -⟩ := HAF.out w1 hb
    have HP := put2_all (v0 := .slice (some ⟨b, off, none⟩) s.length cap) (v1 := .int .i64 base) r1.out
    exact ⟨(HH.out.below HB1.out).other hbl HP.2.2, HB1.out.trans (grown_below HP.2.2 (by omega) HB1.out.size)⟩)
  by_cases c1 : outb s.length a a = true
  · have HLE : Box (layE s a L Y rn = 30) := boxed (by unfold layE; rw [if_pos c1])
    have c' : a < 0 ∨ (s.length : Int) < a := by unfold outb at c1; simp at c1; omega
    obtain ⟨HB1, r1, d0, d1, f0, f1, x0, x1⟩ := HAF.out W0 (Below.refl _ _)
    have HP := put2_all (v0 := .slice (some ⟨b, off, none⟩) s.length cap) (v1 := .int .i64 base) r1.out
    have HPB := boxed HP
    clear HP r1
    by_cases c2 : a < 0
    · clear h c1 c' hr
      go_enter Try.func32, Try.ntmps32
      go_wp2
      refine bodyPost_ret (v := .tuple #[.agg #[.slice (some ⟨b, off, none⟩) s.length cap, .int .i64 base], .int .i64 30]) (by simp [results, Try.results32, go_sem, HPB.out.1, HPB.out.2.1]) rfl ?_
      exact RLayP.bad HLE.out (by omega) (HEnd.out W0 (Below.refl _ _))
    · have t1 : decide ((s.length : Int) < a) = true := decide_eq_true (by omega)
      clear h c1 c' hr
      go_enter Try.func32, Try.ntmps32
      go_wp2
      refine bodyPost_ret (v := .tuple #[.agg #[.slice (some ⟨b, off, none⟩) s.length cap, .int .i64 base], .int .i64 30]) (by simp [results, Try.results32, go_sem, HPB.out.1, HPB.out.2.1]) rfl ?_
      exact RLayP.bad HLE.out (by omega) (HEnd.out W0 (Below.refl _ _))
  · have c1' : outb s.length a a = false := by simpa using c1
    obtain ⟨a1, -, a2⟩ := (outb_iff _ _ _).1 c1'
    obtain ⟨q, rfl⟩ : ∃ q : Nat, a = q := ⟨a.toNat, by omega⟩
    have HLE : Box (layE s q L Y rn = (lyf s.length L Y q rn).1) := boxed (by unfold layE; rw [if_neg c1])
    have t1 : decide ((s.length : Int) < (q : Int)) = false := decide_eq_false (by omega)
    have t1' : decide (s.length < q) = false := decide_eq_false (by omega)
    have hcs := front_cells (HH.out.below HA0.out).cells s.length (Nat.le_refl _)
    rw [List.take_length] at hcs
    have HCS := boxed hcs
    have HR := boxed (hr.below HA0.out)
    obtain ⟨i0, hi, hi0, hi1, hi2⟩ := info_parts info_int
    clear h c1 c1' hr hcs
    obtain ⟨HB1, r1, d0, d1, f0, f1, x0, x1⟩ := HAF.out W0 (Below.refl _ _)
    have hmk := World.ownsRow_made (base := W0.heap.size) (e := 3) (size := 1) W0 #[] 0 (Nat.le_refl _) (by unfold maxLen; omega) (by simp)
    have hbW : Below W0.heap.size W0 (W0.alloc (.cells #[] 3)) := (Below.refl _ _).alloc (Nat.le_refl _) _
    have hzW : (W0.alloc (.cells #[] 3)).heap.size = W0.heap.size + 1 := by simp
    obtain ⟨W1, hW1⟩ : ∃ W1, W0.alloc (.cells #[] 3) = W1 := ⟨_, rfl⟩
    rw [hW1] at hmk hbW hzW
    rw [hz0] at hmk hzW
    have HBW := boxed hbW
    have y0 := hold hbW x0
    have y1 := hold hbW x1
    clear d0 d1 f0 f1 hbW
    go_enter Try.func32, Try.ntmps32
    go_wp2_with (at_builtin; refine wpList_append_own _ rfl _ _ 31 rfl (w.heap.size + 2) 3 i0 _ 1 8 Try.underlying31 hi hi0 hi1 hi2 rfl (by decide) _ _ _ rfl hmk ⟨b, off, none⟩ s.length cap (ints s) rfl (by rw [ints_len]; omega) (fun j u h => hold HBW.out (HCS.out j u h)) (ints_one s) (by unfold maxLen; omega) (by omega) (by omega) ?_)
    intro v1 w1 hown1 hg1 hn1
    have hv1 : v1 ≠ .slice none 0 0 := by first | exact hn1 | exact fun e => (by have := (hn1.1 e).1; simp at this)
    have HB2 : Box (Below W0.heap.size W0 w1) := boxed (HBW.out.grown hg1 (by omega) (fun r e => by simp [Value.ownBlock] at e; omega))
    clear hn1 hg1
    try simp only [Nat.zero_add, List.nil_append] at hown1
    obtain ⟨g, cg, rfl⟩ := rows_form hown1 hv1
    have hgB := (hown1.lt g rfl).1
    have HGW : Box (w.heap.size + 2 ≤ g) := boxed hgB
    have HO1 : Box (w1.ownsRow (w.heap.size + 2) 3 1 (.slice (some ⟨g, 0, none⟩) s.length cg) s.length (ints (s.take q ++ exr L Y 0 ++ s.drop q))) := boxed (by
      have : s.take q ++ exr L Y 0 ++ s.drop q = s := by simp [exr]
      rw [this]; exact hown1)
    clear hown1 hv1 hmk
    have HLO := boxed (fun k p hh => lyf_ok s.length L Y q (by omega) hl k p hh)
    clear y0 y1 x0 x1 r1
    go_wp2_with fail
    go_loopw [9, 10] (fun vk vi wr => ∃ (i p : Nat), i ≤ rn ∧ q ≤ p ∧ p ≤ s.length ∧ vk = .int .i64 (p : Nat) ∧ vi = .int .i64 (i : Nat) ∧ Box (lyf s.length L Y q i = (0, (p : Int))) ∧ Box (Below W0.heap.size W0 wr) ∧ Box (wr.ownsRow (w.heap.size + 2) 3 1 (.slice (some ⟨g, 0, none⟩) s.length cg) s.length (ints (s.take q ++ exr L Y i ++ s.drop p)))) (fun _ vi _ => rn - (intOf vi).toNat)
    case atStart => exact ⟨0, q, Nat.zero_le _, Nat.le_refl _, by omega, rfl, rfl, boxed rfl, HB2, HO1⟩
    case round =>
      obtain ⟨i, p, hin, hqp, hps, rfl, rfl, HF, HBr, HOr⟩ := hrel
      by_cases hlt : i < rn
      · obtain ⟨rb0, off0, rfl, -⟩ := HR.out.form (by omega)
        obtain ⟨e0, e1⟩ := (HR.out.below HBr.out).get i hlt
        have hLI := (HR.out i hlt).1.1
        have HS := boxed (lyf_succ s.length L Y q i)
        rw [HF.out] at HS
        have HFL := boxed (fun {c : Int} (hc : c ≠ 0) (h : lyf s.length L Y q (i + 1) = (c, 0)) => lyf_fail HF.out hlt hc h)
        have hsty := style_any (Y i)
        obtain ⟨HBq, rq, d0, d1, f0, f1, x0, x1⟩ := HAF.out wr HBr.out
        have HPB := boxed (put2_all (v0 := .slice (some ⟨b, off, none⟩) s.length cap) (v1 := .int .i64 base) rq.out)
        by_cases c1 : L i < 0
        · have HE := boxed (HFL.out (c := 1) (by omega) (by rw [HS.out, if_neg (by simp), if_pos c1]))
          clear HFL HS
          generalize L i = l at *
          generalize Y i = y at *
          go_wp2_with fail
          refine bodyPost_ret (v := .tuple #[.agg #[.slice (some ⟨b, off, none⟩) s.length cap, .int .i64 base], .int .i64 1]) (by simp [results, Try.results32, go_sem, HPB.out.1, HPB.out.2.1]) rfl ?_
          exact RLayP.bad (by rw [HLE.out, HE.out]) (by omega) (HEnd.out wr HBr.out)
        · by_cases c2 : stb (Y i) = true
          · rw [c2] at hsty
            have hw : IntKind.i64.wrap ((s.length : Int) - (p : Int)) = (s.length : Int) - (p : Int) := by rw [IntKind.wrap_i64]; omega
            by_cases c3 : (s.length : Int) - (p : Int) < L i
            · have HE := boxed (HFL.out (c := 30) (by omega) (by rw [HS.out, if_neg (by simp), if_neg c1, if_pos c2, if_pos c3]))
              clear HFL HS c2
              have t3 : decide ((s.length : Int) - (p : Int) < L i) = true := decide_eq_true c3
              generalize L i = l at *
              generalize Y i = y at *
              go_wp2_with (go_at_call 16; refine (hsty _).mono ?_; rintro e w1' ⟨rfl, hw'⟩; subst w1')
              refine bodyPost_ret (v := .tuple #[.agg #[.slice (some ⟨b, off, none⟩) s.length cap, .int .i64 base], .int .i64 30]) (by simp [results, Try.results32, go_sem, HPB.out.1, HPB.out.2.1]) rfl ?_
              exact RLayP.bad (by rw [HLE.out, HE.out]) (by omega) (HEnd.out wr HBr.out)
            · obtain ⟨m, hm⟩ : ∃ m : Nat, L i = m := ⟨(L i).toNat, by omega⟩
              have HE : Box (lyf s.length L Y q (i + 1) = (0, ((p + m : Nat) : Int))) := boxed (by rw [HS.out, if_neg (by simp), if_neg c1, if_pos c2, if_neg c3, hm]; simp)
              have hm2 : (L i).toNat = m := by omega
              have HA : Box ((s.take q ++ exr L Y i).length = p) := boxed (by have := (HLO.out i p HF.out).2.2.2.2; simp; omega)
              have HX : Box (s.take q ++ exr L Y (i + 1) = s.take q ++ exr L Y i ++ List.replicate m (Y i)) := boxed (by simp [exr, hm2])
              clear HFL HS c2
              have t3 : decide ((s.length : Int) - (p : Int) < (m : Int)) = false := decide_eq_false (by omega)
              have hpm : p + m ≤ s.length := by omega
              have HRi := boxed (fun w' (hb : Below W0.heap.size W0 w') => (HR.out.below hb).get i hlt)
              simp only [hm] at HRi
              rw [hm] at e0
              clear c3 c1 hLI hm hm2
              generalize Y i = y at *
              go_wp2_with (go_at_call 16; refine (hsty _).mono ?_; rintro e w1' ⟨rfl, hw'⟩; subst w1')
              have HO0 : Box (wr.ownsRow (w.heap.size + 2) 3 1 (.slice (some ⟨g, 0, none⟩) s.length cg) s.length (ints (s.take q ++ exr L Y i ++ List.replicate 0 y ++ s.drop (p + 0)))) := boxed (by simpa using HOr.out)
              clear e0 e1 d0 d1 f0 f1 x0 x1 HPB rq HBq
              go_loopw [9, 11] (fun vk vn wz => ∃ n : Nat, n ≤ m ∧ vk = .int .i64 ((p + n : Nat)) ∧ vn = .int .i64 (n : Nat) ∧ Box (Below W0.heap.size W0 wz) ∧ Box (wz.ownsRow (w.heap.size + 2) 3 1 (.slice (some ⟨g, 0, none⟩) s.length cg) s.length (ints (s.take q ++ exr L Y i ++ List.replicate n y ++ s.drop (p + n))))) (fun _ vn _ => m - (intOf vn).toNat)
              case atStart => exact ⟨0, Nat.zero_le _, by simp, rfl, HBr, HO0⟩
              case round =>
                obtain ⟨n, hnm, rfl, rfl, HBz, HOz⟩ := hrel
                by_cases hnl : n < m
                · obtain ⟨e0, e1⟩ := HRi.out _ HBz.out
                  obtain ⟨u0, hx0⟩ : ∃ u0, wr.cell? ⟨g, p + n, none⟩ = some u0 := by
                    rw [HOz.out.cellAt (p + n) (by omega), List.getElem?_eq_getElem (by have := HOz.out.1; omega)]; exact ⟨_, rfl⟩
                  have hf0 := HOz.out.frozenAt (p + n)
                  have HO2 : Box ((wr.setCell ⟨g, p + n, none⟩ (.int .i64 y)).ownsRow (w.heap.size + 2) 3 1 (.slice (some ⟨g, 0, none⟩) s.length cg) s.length (ints (s.take q ++ exr L Y i ++ List.replicate (n + 1) y ++ s.drop (p + (n + 1))))) := boxed (by
                    rw [← lay_set _ s p n y HA.out (by omega)]; exact (HOz.out.stored (p + n) (.int .i64 y)).1)
                  have HB3 : Box (Below W0.heap.size W0 (wr.setCell ⟨g, p + n, none⟩ (.int .i64 y))) := boxed (HBz.out.setCell (p := ⟨g, p + n, none⟩) (by show W0.heap.size ≤ g; omega) _)
                  clear HOz HBz
                  go_wp2_with fail
                  go_roundw
                  case rel => exact ⟨n + 1, by omega, by go_num, by go_num, HB3, HO2⟩
                  case measure => simp [intOf]; omega
                · obtain rfl : n = m := by omega
                  obtain ⟨e0, e1⟩ := HRi.out _ HBz.out
                  have HOE : Box (wr.ownsRow (w.heap.size + 2) 3 1 (.slice (some ⟨g, 0, none⟩) s.length cg) s.length (ints (s.take q ++ exr L Y (i + 1) ++ s.drop (p + n)))) := boxed (by rw [HX.out]; exact HOz.out)
                  go_wp2_with fail
                  go_roundw
                  case rel => exact ⟨i + 1, p + n, by omega, by omega, hpm, rfl, by go_num, HE, HBz, HOE⟩
                  case measure => simp [intOf]; omega
          · have c2' : stb (Y i) = false := by simpa using c2
            have HE := boxed (HFL.out (c := 43) (by omega) (by rw [HS.out, if_neg (by simp), if_neg c1, if_neg c2]))
            rw [c2'] at hsty
            clear HFL HS c2 c2'
            generalize L i = l at *
            generalize Y i = y at *
            go_wp2_with (go_at_call 16; refine (hsty _).mono ?_; rintro e w1' ⟨rfl, hw'⟩; subst w1')
            refine bodyPost_ret (v := .tuple #[.agg #[.slice (some ⟨b, off, none⟩) s.length cap, .int .i64 base], .int .i64 43]) (by simp [results, Try.results32, go_sem, HPB.out.1, HPB.out.2.1]) rfl ?_
            exact RLayP.bad (by rw [HLE.out, HE.out]) (by omega) (HEnd.out wr HBr.out)
      · obtain rfl : i = rn := by omega
        obtain ⟨HBq, rq, d0, d1, f0, f1, x0, x1⟩ := HAF.out wr HBr.out
        obtain ⟨k1, k2, k3, k4, k5⟩ := HLO.out i p HF.out
        have HLE2 : Box (layE s q L Y i = 0) := boxed (by rw [HLE.out, HF.out])
        obtain ⟨Q9, hQ9⟩ : ∃ Q9, s.take q ++ exr L Y i ++ s.drop p = Q9 := ⟨_, rfl⟩
        have HLS : Box (layS s q L Y i = Q9) := boxed (by unfold layS; rw [if_pos HLE2.out, HF.out, ← hQ9]; simp)
        have hQl : Q9.length = s.length := by rw [← hQ9]; simp; omega
        have hown := HOr.out
        rw [hQ9, ← hQl] at hown
        have hQs : Sok Q9 := by rw [← hQ9]; exact sok_app (sok_app (fun y hy => HH.out.ok y (List.mem_of_mem_take hy)) (exr_ok L Y i i (Nat.le_refl _) k4)) (fun y hy => HH.out.ok y (List.mem_of_mem_drop hy))
        have HRF := boxed (own_rf (N := N) hown (fun k hk => hlb k (by omega)) hQs (by omega))
        have HPB := boxed (put2_all (v0 := .slice (some ⟨g, 0, none⟩) s.length cg) (v1 := .int .i64 base) rq.out)
        have HQL := boxed hQl
        clear hown hQl hQs hQ9 k3 k4 k5
        go_wp2_with fail
        refine bodyPost_ret (v := .tuple #[.agg #[.slice (some ⟨g, 0, none⟩) s.length cg, .int .i64 base], .int .i64 0]) (by simp [results, Try.results32, go_sem, HPB.out.1, HPB.out.2.1]) rfl ?_
        rw [← HQL.out]
        exact RLayP.good HLE2.out HLS.out ⟨HRF.out.other (rb := w.heap.size + 1) (fun _ _ => by have := HGW.out; omega) (by rw [HQL.out]; exact HPB.out.2.2), by rw [HQL.out]; exact HBq.out.trans (grown_below HPB.out.2.2 (by omega) HBq.out.size)⟩
end
end Go.Proofs.Ytdchpiihjjjpfab
