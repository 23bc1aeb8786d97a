/-
  Where the pages begin that lie behind what goes, as their lines move: what startsBehind answers.
-/
import Derived.Test.YtdpjaafdpgkclaaTk
import Derived.Deep.CutRange
namespace Go.Proofs.Ytdpjaafdpgkclaa
open Go.RowKit
set_option linter.unusedSimpArgs false
set_option linter.unusedVariables false

/-- N numbers, of which the first i are turned. -/
def mvl (c tr : Nat → Nat) (N i : Nat) : List Nat := (List.range N).map fun j => if j < i then tr (c j) else c j
theorem mvl_len (c tr : Nat → Nat) (N i : Nat) : (mvl c tr N i).length = N := by simp [mvl]
theorem mvl_get (c tr : Nat → Nat) (N i j : Nat) (h : j < N) : (mvl c tr N i).getD j 0 = if j < i then tr (c j) else c j := by simp [mvl, h]
theorem mvl_set (c tr : Nat → Nat) (N i : Nat) (h : i < N) : (mvl c tr N i).set i (tr (c i)) = mvl c tr N (i + 1) := by
  apply List.ext_getElem
  · simp [mvl]
  · intro j h1 h2
    have hj : j < N := by simpa [mvl] using h2
    rw [List.getElem_set]
    simp only [mvl, List.getElem_map, List.getElem_range]
    by_cases e : i = j
    · subst e; simp
    · rw [if_neg e]
      by_cases l : j < i
      · rw [if_pos l, if_pos (by omega)]
      · rw [if_neg l, if_neg (by omega)]
theorem drop_its (D : Dc) (J u : Nat) (tr : Nat → Nat) (h : u ≤ J) : (D.its J).drop u = mvl (fun j => D.it (u + j)) tr (J - u) 0 := by
  apply List.ext_getElem
  · simp [mvl, Dc.its]
  · intro j h1 h2
    simp [mvl, Dc.its]
theorem own_set {w : World} {B g N c i x : Nat} {L : List Nat} (h : w.ownsRow B 3 1 (.slice (some ⟨g, 0, none⟩) N c) N (ncs L)) (hl : L.length = N) (hi : i < N) :
    (w.setCell ⟨g, i, none⟩ (.int .i64 (x : Nat))).ownsRow B 3 1 (.slice (some ⟨g, 0, none⟩) N c) N (ncs (L.set i x)) ∧ w.frozen? ⟨g, i, none⟩ = false := by
  rcases h.2 with ⟨e, -⟩ | ⟨g', cap, cur, e1, e2, e3, e4, e5, e6, e7⟩
  · cases e
  · injection e1 with e1a e1b e1c
    injection e1a with e1a
    injection e1a with e1a
    subst e1a; subst e1c
    refine ⟨⟨by rw [ncs_len, List.length_set, hl]; omega, .inr ⟨g, c, cur.setIfInBounds i (.int .i64 (x : Nat)), rfl, e2, arr_set _ e3, e4, e5, by simpa using e6, ?_⟩⟩, row_free e3 i⟩
    rw [Nat.mul_one] at e7 ⊢
    have : (cur.setIfInBounds i (.int .i64 (x : Nat))).toList = cur.toList.set i (.int .i64 (x : Nat)) := by simp
    rw [this, List.take_set, e7]
    simp [ncs, List.map_set]
theorem part_ns {S : Nat → Prop} {w : World} {b off u : Nat} {L : List Nat} (h : NsAt S w (some ⟨b, off, none⟩) L) (hu : u ≤ L.length) : NsAt S w (some ⟨b, off + u, none⟩) (L.drop u) := by
  intro i hi
  rw [List.length_drop] at hi
  obtain ⟨b', off', e, hs, c0⟩ := h (u + i) (by omega)
  injection e with e
  injection e with e1 e2 e3
  subst e1; subst e2
  refine ⟨b, off + u, rfl, hs, ?_⟩
  rw [Nat.add_assoc, c0]
  simp [List.getD, List.getElem?_drop]
set_option maxRecDepth 100000 in
set_option maxHeartbeats 4000000 in
theorem behind_any {w : World} {B p : Nat} {ao : Option Addr} {cap : Nat} {so : Option Addr} {sc : Nat} {D : Dc} {g : Stg} {J : Nat} (h : BkC w B p ao cap so sc D g J) (l u m d : Nat) (hd : d ≤ l) (hm : m ≤ 1000) (hl : l ≤ D.n) (hu : Upto (D.its J) ((l : Int) - 1) u) :
    Calls Try.prog 38 #[.pointer (some ⟨p, 0, none⟩), .int .i64 (l : Nat), .int .i64 ((m : Int) - (d : Int))] w fun e w' => ∃ ao' c', e = .returned (.slice ao' (J - u) c') ∧ w'.ownsRow w.heap.size 3 1 (.slice ao' (J - u) c') (J - u) (ncs (mvl (fun j => D.it (u + j)) (fun z => z + m - d) (J - u) (J - u))) ∧ Below w.heap.size w w' := by
  obtain ⟨⟨-, c1, -⟩, -⟩ := h.cells
  have hn := h.dc.n
  have hj := h.jle
  have hlen := D.its_len J
  have huJ : u ≤ J := by have := hu.1; omega
  have HF := boxed (fun W (hb : Below w.heap.size w W) => find_any _ so sc (D.its J) ((l : Int) - 1) u hu W (h.ns.below hb) (by omega) (its_rise D J))
  have HNs := boxed (fun W (hb : Below w.heap.size w W) => (h.ns.below hb).ns)
  have HS1 := boxed (fun W (hb : Below w.heap.size w W) => hold hb c1)
  have HI : Box (∀ j, j < J - u → d ≤ D.it (u + j) ∧ D.it (u + j) ≤ 1000) := boxed (fun j hj' => by
    have h1 := hu.2.2 (u + j) (by omega) (by omega)
    rw [D.its_get J (u + j) (by omega)] at h1
    have h2 := D.it_le (u + j)
    omega)
  have HDr := boxed (drop_its D J u (fun z => z + m - d) huJ)
  have hJc : J ≤ sc := own_room h.st
  have hnone : so = none → sc = 0 := fun e => by
    rcases ownsRow_forms h.st with ⟨e1, e2⟩ | ⟨g', c', e1⟩
    · injection e1
    · rw [e] at e1; injection e1 with e1; cases e1
  have hform : 0 < J → ∃ b, so = some ⟨b, 0, none⟩ := fun h0 => by
    obtain ⟨b, e, -⟩ := h.ns.form (by omega)
    exact ⟨b, e⟩
  have hform2 : so = none ∨ ∃ b, so = some ⟨b, 0, none⟩ := by
    rcases ownsRow_forms h.st with ⟨e1, e2⟩ | ⟨g', c', e1⟩
    · injection e1 with e1; exact .inl e1
    · injection e1 with e1; exact .inr ⟨g', e1⟩
  have HCl := boxed (fun ao2 c2 W (hb : Below w.heap.size w W) (hq : NsAt (fun _ => True) W ao2 ((D.its J).drop u)) => cloneN_any (fun _ => True) ao2 (J - u) c2 ((D.its J).drop u) (by rw [List.length_drop, hlen]) W hq (by omega))
  rw [hlen] at HF
  have HD : Box (Below w.heap.size w w.drew) := boxed (Below.refl _ _).drew
  have hcd : w.drew.cell? ⟨p, 1, none⟩ = some (.slice so J sc) := HS1.out _ HD.out
  clear h hu hlen hform
  obtain ⟨N, hN⟩ : ∃ N, J - u = N := ⟨_, rfl⟩
  have hNJ : N + u = J := by omega
  rw [hN] at HI HDr HCl ⊢
  have t5 : ((u : Int) - 1 + 1) = (u : Int) := by omega
  have hb0 : (0 : Int) ≤ (u : Int) := by omega
  have hb1 : (u : Int) ≤ (J : Int) := by omega
  have hw1 : IntKind.i64.wrap ((l : Int) - 1) = (l : Int) - 1 := by rw [IntKind.wrap_i64]; omega
  have hw2 : IntKind.i64.wrap (u : Int) = (u : Int) := by rw [IntKind.wrap_i64]; omega
  go_enter Try.func38, Try.ntmps38
  go_wp2_with fail
  go_cut [7] from 9 to 22 (fun s7 wx => ∃ ao' c', s7 = .slice ao' N c' ∧ Box (wx.ownsRow w.heap.size 3 1 (.slice ao' N c') N (ncs (mvl (fun j => D.it (u + j)) (fun z => z + m - d) N 0))) ∧ Box (Below w.heap.size w wx))
  case first =>
    rcases hform2 with rfl | ⟨b, rfl⟩
    · have hsc := hnone rfl
      subst hsc
      obtain rfl : J = 0 := by omega
      obtain rfl : u = 0 := by omega
      obtain rfl : N = 0 := by omega
      have HP : Box (∀ W, Below w.heap.size w W → NsAt (fun _ => True) W none ((D.its 0).drop 0)) := boxed (fun W hb i hi => by rw [List.length_drop, D.its_len] at hi; omega)
      go_region_with (first
        | (go_at_call 50; refine (HF.out _ HD.out).mono ?_; rintro e w1 ⟨rfl, hb1'⟩; have HB1 := boxed (below_step HD.out (Nat.le_refl _) hb1'); have hc1 := HS1.out _ HB1.out; clear hb1')
        | (go_at_call 28; refine (HCl.out _ _ _ HB1.out (HP.out _ HB1.out)).mono ?_; rintro e w2 ⟨ao', c', rfl, ho2, hb2⟩; have hzz := HB1.out.size; have HO2 := boxed (show w2.ownsRow w.heap.size 3 1 (.slice ao' 0 c') 0 (ncs (mvl (fun j => D.it (0 + j)) (fun z => z + m - d) 0 0)) from by rw [← HDr.out]; exact own_down ho2 hzz); have HB2 := boxed (below_step HB1.out (Nat.le_refl _) hb2); clear ho2 hb2))
      all_goals
        go_wp2_with fail
        go_meet
        case rel => exact ⟨ao', c', rfl, HO2, HB2⟩
    · have hbl : ∀ W, Below w.heap.size w W → NsAt (fun _ => True) W (some ⟨b, 0 + u, none⟩) ((D.its J).drop u) := fun W hb => part_ns ((HNs.out W hb).keep (fun b i v hs hc => ⟨trivial, hc⟩)) (by rw [D.its_len]; omega)
      by_cases hsu : sc = u
      · obtain rfl : u = sc := hsu.symm
        have hN0 : N = 0 := by omega
        have HP : Box (∀ W, Below w.heap.size w W → NsAt (fun _ => True) W (some ⟨b, 0, none⟩) ((D.its J).drop u)) := boxed (fun W hb i hi => by rw [List.length_drop, D.its_len] at hi; omega)
        clear hbl hN0
        go_region_with (first
          | (go_at_call 50; refine (HF.out _ HD.out).mono ?_; rintro e w1 ⟨rfl, hb1'⟩; have HB1 := boxed (below_step HD.out (Nat.le_refl _) hb1'); have hc1 := HS1.out _ HB1.out; clear hb1')
          | (go_at_call 28; refine (HCl.out _ _ _ HB1.out (HP.out _ HB1.out)).mono ?_; rintro e w2 ⟨ao', c', rfl, ho2, hb2⟩; have hzz := HB1.out.size; have HO2 := boxed (show w2.ownsRow w.heap.size 3 1 (.slice ao' N c') N (ncs (mvl (fun j => D.it (u + j)) (fun z => z + m - d) N 0)) from by rw [← HDr.out]; exact own_down ho2 hzz); have HB2 := boxed (below_step HB1.out (Nat.le_refl _) hb2); clear ho2 hb2))
        all_goals
          go_wp2_with fail
          go_meet
          case rel => exact ⟨ao', c', rfl, HO2, HB2⟩
      · have hsu2 : ¬ (u = sc) := by omega
        rw [Nat.zero_add] at hbl
        have HP := boxed hbl
        clear hbl
        go_region_with (first
          | (go_at_call 50; refine (HF.out _ HD.out).mono ?_; rintro e w1 ⟨rfl, hb1'⟩; have HB1 := boxed (below_step HD.out (Nat.le_refl _) hb1'); have hc1 := HS1.out _ HB1.out; clear hb1')
          | (go_at_call 28; refine (HCl.out _ _ _ HB1.out (HP.out _ HB1.out)).mono ?_; rintro e w2 ⟨ao', c', rfl, ho2, hb2⟩; have hzz := HB1.out.size; have HO2 := boxed (show w2.ownsRow w.heap.size 3 1 (.slice ao' N c') N (ncs (mvl (fun j => D.it (u + j)) (fun z => z + m - d) N 0)) from by rw [← HDr.out]; exact own_down ho2 hzz); have HB2 := boxed (below_step HB1.out (Nat.le_refl _) hb2); clear ho2 hb2))
        all_goals
          go_wp2_with fail
          go_meet
          case rel => exact ⟨ao', c', rfl, HO2, HB2⟩
  case rest =>
    obtain ⟨ao', c', rfl, HO, HB⟩ := hcut
    clear HS1 HF HNs HCl HDr hcd c1 hform2 hnone t5 hb0 hb1 hw1 hw2 HD
    go_wp2_with fail
    go_loopw [25] (fun iv wr => ∃ i : Nat, i ≤ N ∧ iv = .int .i64 (i : Nat) ∧ Box (wr.ownsRow w.heap.size 3 1 (.slice ao' N c') N (ncs (mvl (fun j => D.it (u + j)) (fun z => z + m - d) N i))) ∧ Box (Below w.heap.size w wr)) (fun iv _ => N - (intOf iv).toNat)
    case atStart => exact ⟨0, Nat.zero_le _, rfl, HO, HB⟩
    case round =>
      obtain ⟨i, hi, rfl, HO1, HB1⟩ := hrel
      by_cases hlt : i < N
      · have hml := mvl_len (fun j => D.it (u + j)) (fun z => z + m - d) N i
        obtain ⟨b', rfl, hb', hc'⟩ := own_nat HO1.out hml i (by omega)
        rw [mvl_get _ _ _ _ _ hlt, if_neg (by omega)] at hc'
        obtain ⟨hx1, hx2⟩ := HI.out i hlt
        obtain ⟨x, hx⟩ : ∃ x, D.it (u + i) = x := ⟨_, rfl⟩
        obtain ⟨hs1, hs2⟩ := own_set (x := x + m - d) HO1.out hml hlt
        have hset := mvl_set (fun j => D.it (u + j)) (fun z => z + m - d) N i hlt
        simp only [hx] at hset hc' hx1 hx2
        rw [hset] at hs1
        have hv : ((x + m - d : Nat) : Int) = (x : Int) + ((m : Int) - (d : Int)) := by omega
        rw [hv] at hs1
        have HOn := boxed hs1
        have HBn := boxed (HB1.out.setCell (p := ⟨b', i, none⟩) hb' (.int .i64 ((x : Int) + ((m : Int) - (d : Int)))))
        have hiN : (i : Int) < (N : Int) := by omega
        clear hs1 hset hv hx hml HI HO HB HO1 HB1
        go_wp2_with fail
        go_roundw
        case rel => exact ⟨i + 1, by omega, by go_num, HOn, HBn⟩
        case measure => simp [intOf]; omega
      · obtain rfl : i = N := by omega
        have t0 : decide ((i : Int) < (i : Int)) = false := decide_eq_false (by omega)
        go_wp2_with fail
        go_ret
        exact ⟨ao', c', rfl, HO1.out, HB1.out⟩
end Go.Proofs.Ytdpjaafdpgkclaa
