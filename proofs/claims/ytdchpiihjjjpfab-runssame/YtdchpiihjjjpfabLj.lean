/-
  What the program's put does: runs in the place of others (the walk).
-/
import Derived.Test.YtdchpiihjjjpfabLi
namespace Go.Proofs.Ytdchpiihjjjpfab
open Go.RowKit Go.Shelf
set_option linter.unusedSimpArgs false
set_option linter.unusedVariables false
attribute [local go_sem] Oper.semAt_some

theorem below_three (w : World) (o1 o2 o3 : Obj) : Below w.heap.size w (((w.alloc o1).alloc o2).alloc o3) := (((Below.refl _ w).alloc (Nat.le_refl _) _).alloc (by simp) _).alloc (by simp; omega) _

theorem set0_heap {w : World} {b : Nat} {v0 v1 v : Value} {t : TypeId} (h : w.heap[b]? = some (.cells #[v0, v1] t (0, 0))) : (w.setCell ⟨b, 0, none⟩ v).heap[b]? = some (.cells #[v, v1] t (0, 0)) := by
  simp [World.setCell, Array.getElem?_modify, h]
theorem set1_heap {w : World} {b : Nat} {v0 v1 v : Value} {t : TypeId} (h : w.heap[b]? = some (.cells #[v0, v1] t (0, 0))) : (w.setCell ⟨b, 1, none⟩ v).heap[b]? = some (.cells #[v0, v] t (0, 0)) := by
  simp [World.setCell, Array.getElem?_modify, h]
/-- The end: the parts are put into the list, what was deferred is taken. -/
theorem put_end {w W2 : World} {lb D D2 : Nat} {ao9 : Option Addr} {cap9 : Nat} {q9 : List Int} {x0 : Value} {bare : Int} (hblk : W2.heap[lb]? = some (.cells #[x0, .int .i64 bare] 57 (0, 0))) (hown : W2.ownsRow w.heap.size 72 2 (.slice ao9 (enc q9).length cap9) (enc q9).length (pcs 0 (enc q9)))
    (hB : Below w.heap.size w W2) (hD : W2.heap[D]? = some (.deferred (some []))) (hD2 : W2.heap[D2]? = some (.deferred (some []))) (hlt : lb < w.heap.size) (h1 : w.heap.size ≤ D) (h2 : D < D2) (hl : q9.length ≤ 65536) (hs : Sok q9) (hb : 0 ≤ bare ∧ bare < 32) :
    (W2.setCell ⟨lb, 0, none⟩ (.slice ao9 (enc q9).length cap9)).heap[D2]? = some (.deferred (some [])) ∧ ((W2.setCell ⟨lb, 0, none⟩ (.slice ao9 (enc q9).length cap9)).putObj D2 (.deferred none)).heap[D]? = some (.deferred (some [])) ∧
    ListAt (((W2.setCell ⟨lb, 0, none⟩ (.slice ao9 (enc q9).length cap9)).putObj D2 (.deferred none)).putObj D (.deferred none)) lb ao9 cap9 q9 bare ∧ w.grownBy (((W2.setCell ⟨lb, 0, none⟩ (.slice ao9 (enc q9).length cap9)).putObj D2 (.deferred none)).putObj D (.deferred none)) (some lb) := by
  have k0 := KeepsOthers.setCell W2 ⟨lb, 0, none⟩ (.slice ao9 (enc q9).length cap9)
  have e2 := k0.same D2 _ hD2 rfl
  have e1 := k0.same D _ hD rfl
  have g0 := grown_set W2 lb 0 (.slice ao9 (enc q9).length cap9)
  have b0 := set0_heap (v := .slice ao9 (enc q9).length cap9) hblk
  have o0 := hown.kept g0 (.inr (fun e => by have := (owns_blk hown lb e).1; omega))
  generalize W2.setCell ⟨lb, 0, none⟩ (.slice ao9 (enc q9).length cap9) = W3 at *
  have g1 := grownBy_putObj' W3 D2 (.deferred none)
  have e3 : (W3.putObj D2 (.deferred none)).heap[D]? = some (.deferred (some [])) := by
    rw [g1.block D (Array.getElem?_eq_some_iff.1 e1).1 (fun e => by injection e; omega)]; exact e1
  have n1 : ∀ r, (some D2 : Option Nat) = some r → ∃ o : Obj, W3.heap[r]? = some o ∧ o.isCells = false := fun r e => by injection e with e; subst e; exact ⟨_, e2, rfl⟩
  have b1 := blk_turn b0 g1 n1
  have o1 := owns_turn o0 g1 n1
  generalize W3.putObj D2 (.deferred none) = W4 at *
  have g2 := grownBy_putObj' W4 D (.deferred none)
  have n2 : ∀ r, (some D : Option Nat) = some r → ∃ o : Obj, W4.heap[r]? = some o ∧ o.isCells = false := fun r e => by injection e with e; subst e; exact ⟨_, e3, rfl⟩
  have b2 := blk_turn b1 g2 n2
  have o2 := owns_turn o1 g2 n2
  generalize W4.putObj D (.deferred none) = W5 at *
  refine ⟨e2, e3, ⟨b2, (own_parts o2 (by omega) (fun y hy => by have := hs y hy; exact ⟨by omega, by omega⟩)).keep (fun k i u hk hc => ⟨by omega, hc⟩), hs, hl, hb⟩, ?_⟩
  have z0 := hB.size
  have z1 := g0.size
  have z2 := g1.size
  refine ⟨g2.os.trans (g1.os.trans (g0.os.trans hB.os)), g2.tape.trans (g1.tape.trans (g0.tape.trans hB.tape)), g2.output.trans (g1.output.trans (g0.output.trans hB.output)), by have := g2.size; omega, fun k hk hne => ?_⟩
  rw [g2.block k (by omega) (fun e => by injection e; omega), g1.block k (by omega) (fun e => by injection e; omega), g0.block k (by omega) hne, hB.block k hk]

set_option maxRecDepth 100000 in
set_option maxHeartbeats 8000000 in
theorem put_in {w : World} {lb : Nat} {ao : Option Addr} {cap : Nat} {s : List Int} {bare : Int} (h : ListAt w lb ao cap s bare) (a b : Nat) (hab : a ≤ b) (hb : b ≤ s.length) (ro : Option Addr) (rn rc : Nat) (L Y : Nat → Int) (hr : P2At (· ≠ lb) w ro rn L Y) (hrn : rn ≤ 65536) (hrl : ∀ i, i < rn → 0 ≤ L i ∧ L i ≤ 65536) (hry : ∀ i, i < rn → 0 ≤ Y i ∧ Y i < 32)
    (hlen : (s.take a ++ exr L Y rn ++ s.drop b).length ≤ 65536) :
    CallsIn Fence.wide 5 Try.prog 38 #[.pointer (some ⟨lb, 0, none⟩), .int .i64 (a : Nat), .int .i64 (b : Nat), .slice ro rn rc] w fun e w' => e = .returned (.tuple #[]) ∧ ∃ ao' cap', ListAt w' lb ao' cap' (s.take a ++ exr L Y rn ++ s.drop b) bare ∧ w.grownBy w' (some lb) := by
  have hro : (Fence.wide).round = none := rfl
  have hd : (Fence.wide).depth = none := rfl
  have c0 := h.c0
  have hlt := h.lt
  have hne : lb ≠ w.heap.size := by omega
  have hl := h.len
  have HS := boxed h.ok
  have HP := boxed h.pts
  have HL := boxed h
  have HR0 := boxed hr
  have HRL := boxed hrl
  have HRY := boxed hry
  have HLN := boxed hlen
  clear h hr hrl hry hlen
  have hs0 := sub_zero s a
  have HF0 : Box (fl (gv s 0 a) = s.take a) := boxed (by rw [gv_fl HS.out 0 a (by omega) (by omega) hl, hs0])
  refine callsIn_of_wp_marks Try.func38 rfl trivial ?_ hro
  simp only [Try.ntmps38, List.size_toArray, List.length_cons, List.length_nil, Nat.reduceAdd, Nat.reduceSub, Array.replicate_succ, Array.replicate_zero, List.push_toArray, List.append_toArray, List.nil_append, List.cons_append]
  gi_wp2_with fail
  refine ⟨trivial, (between_in _ ao (enc s).length cap _ _ _).mono ?_⟩
  rintro e w' ⟨rfl, hw'⟩
  gi_wp2_with fail
  clear hw'
  generalize hw3 : ((((w.alloc (Obj.cells #[Value.slice none 0 0] 55)).alloc (Obj.cells #[Value.slice ao (enc s).length cap] 55)).alloc (Obj.cells #[Value.int IntKind.i64 0] 3)).alloc (Obj.cells #[Value.int IntKind.i64 (a : Nat)] 3)) = w3
  have hz3 : w3.heap.size = w.heap.size + 4 := by rw [← hw3]; simp
  have HB3 : Box (Below w.heap.size w w3) := boxed (by rw [← hw3]; exact (((((Below.refl _ w).alloc (Nat.le_refl _) _).alloc (by simp) _).alloc (by simp; omega) _).alloc (by simp; omega) _))
  have HV3 : Vw w.heap.size (w.heap.size + 1 + 1) (w.heap.size + 1) (w.heap.size + 1 + 2) ao cap s 0 a w3 := by
    have h3 := heap3 (w.alloc (Obj.cells #[Value.slice none 0 0] 55)) (Obj.cells #[Value.slice ao (enc s).length cap] 55) (Obj.cells #[Value.int IntKind.i64 0] 3) (Obj.cells #[Value.int IntKind.i64 (a : Nat)] 3)
    rw [World.size_alloc, hw3] at h3
    exact ⟨h3.2.1, h3.1, h3.2.2, HP.out.keep (fun k i u hs hc => ⟨World.block_lt_of_cell? w ⟨k, i, none⟩ hc, hold HB3.out hc⟩)⟩
  have HT3 : Pw w [] (fl []) w3 := by
    refine ⟨⟨.slice none 0 0, ?_, World.ownsRow_nil _ _ _ _⟩, HB3.out, by simp⟩
    rw [← hw3, Below.heap_alloc _ _ _ (by simp; omega), Below.heap_alloc _ _ _ (by simp; omega), Below.heap_alloc _ _ _ (by simp)]
    exact heap_alloc_new w _
  clear hw3
  refine wp_btw w.heap.size (w.heap.size + 1 + 1) (w.heap.size + 1) (w.heap.size + 1 + 2) ao cap s 0 a (Nat.zero_le _) (by omega) hl HS.out rfl HV3 (by omega) rfl
    (fun pre W => Pw w [] (fl pre) W) (fun _ _ _ => False) (Pw.own w [] fl _ (by omega) (by simp)) (fun _ _ _ _ _ h _ _ => h) HT3
    (fun x a' W => ∃ rb, a' = { tmps := #[.pointer (some ⟨lb, 0, none⟩), .int .i64 (a : Nat), .int .i64 (b : Nat), .slice ro rn rc, undef, undef, undef, undef, .pointer (some ⟨w.heap.size, 0, none⟩), undef, .pointer (some ⟨rb, 0, none⟩), undef, undef, undef, undef, .pointer (some ⟨lb, 0, none⟩), .pointer (some ⟨lb, 0, none⟩), .pointer (some ⟨lb, 0, none⟩), .slice ao (enc s).length cap, .int .i64 (a : Nat),
      .func (.func 42) #[] #[.pointer (some ⟨w.heap.size + 1 + 1, 0, none⟩), .pointer (some ⟨w.heap.size + 1, 0, none⟩), .pointer (some ⟨w.heap.size + 1 + 2, 0, none⟩)], .int .i64 (x.1.1 : Nat), .agg #[.int .i64 (x.1.2.1 : Nat), .int .i64 x.1.2.2],
      undef, undef, undef, undef, undef, undef, undef, undef, undef, undef, undef, undef, undef, undef, undef, undef, undef, undef, undef, undef, undef, undef, undef, undef, undef, undef, undef, undef, undef, undef], defers := [] } ∧ W.heap[rb]? = some (.cells #[.int .i64 (x.1.2.1 : Nat), .int .i64 x.1.2.2] 25 (0, 0)))
    (fun x a' _ W W' row h hg hr => by obtain ⟨rb, e, hb⟩ := h; exact ⟨rb, e, blk_turn hb hg (fun r e => (hr r e).2)⟩) ?assign ?body ?done ?stop
  case assign =>
    intro l pre x W K hI hV hK
    have HI := boxed hI
    have HVx := boxed hV
    have HKx := boxed hK
    clear hI hV hK
    gi_wp2
    have hBA := (Below.refl W.heap.size W).alloc (Nat.le_refl _) (Obj.cells #[Value.int IntKind.i64 (x.1.2.1 : Nat), Value.int IntKind.i64 x.1.2.2] 25)
    exact HKx.out _ _ ((KeepsOthers.alloc _ _).from _) (HVx.out.below hBA) (HI.out.below hBA) ⟨W.heap.size, rfl, heap_alloc_new _ _⟩
  case body =>
    rintro l pre x a' W hl' hI hV ⟨rb, rfl, hrb⟩ hlt'
    have hgl := gv_len s 0 a (by omega)
    have hfl := fl_len pre
    obtain ⟨v, hv, hadd⟩ := hI.add (fl_ok pre) x.1.2.1 x.1.2.2 (by omega) x.2.2.1.2 ⟨by have := x.2.2.2; omega, by have := x.2.2.2; omega⟩
    have cv := cell_one hv
    have cr0 : W.cell? ⟨rb, 0, none⟩ = some (.int .i64 (x.1.2.1 : Nat)) := by simp [World.cell?, hrb]
    have cr1 : W.cell? ⟨rb, 1, none⟩ = some (.int .i64 x.1.2.2) := by simp [World.cell?, hrb]
    have HVx := boxed hV
    have HA := boxed hadd
    have HF := boxed (fl_snoc pre x)
    clear hI hV hv hrb hadd
    gi_wp2_with fail
    refine ⟨trivial, (CallsIn.inRound l (callsIn_wide.2 (HA.out W (Below.refl _ _)))).mono ?_⟩
    rintro e w6 ⟨ao6, n6, cap6, rfl, h6, hP6, hK6, hV6⟩
    rw [← HF.out] at hP6
    have HR : Box (KeepsFrom w3.heap.size W (w6.setCell ⟨w.heap.size, 0, none⟩ (.slice ao6 n6 cap6)) ∧ Vw w.heap.size (w.heap.size + 1 + 1) (w.heap.size + 1) (w.heap.size + 1 + 2) ao cap s 0 a (w6.setCell ⟨w.heap.size, 0, none⟩ (.slice ao6 n6 cap6)) ∧ Pw w [] (fl (pre ++ [x])) (w6.setCell ⟨w.heap.size, 0, none⟩ (.slice ao6 n6 cap6))) := boxed ⟨hK6.from _, hV6 _ _ _ _ _ _ _ _ _ HVx.out (by omega) (by omega) (by omega) (Nat.le_refl _), hP6⟩
    have c6 := cell_one h6
    have f6 := frz_one h6
    clear h6 hP6 hK6 hV6 HA HVx cv cr0 cr1
    gi_wp2
    exact HR.out
  case done =>
    rintro D W hD hI hV hK
    rw [HF0.out] at hI
    have HI := boxed hI
    have HKD := boxed hK
    clear hI hV hK HV3 HT3
    have HI2 : Box (Pw w [D] (s.take a ++ exr L Y 0) W) := boxed ⟨by have := HI.out.1; simpa [exr] using this, HI.out.2.1, fun D' hD' => by simp at hD'; subst hD'; exact HKD.out⟩
    have hDz : w.heap.size ≤ D := by omega
    clear HI HKD
    gi_wp2_with fail
    gi_loopw [28] (fun vi wr => ∃ k : Nat, k ≤ rn ∧ vi = .int .i64 (k : Nat) ∧ Box (Pw w [D] (s.take a ++ exr L Y k) wr)) (fun vi _ => rn - (intOf vi).toNat)
    case atStart => exact ⟨0, Nat.zero_le _, rfl, HI2⟩
    case round =>
      obtain ⟨k, hk, rfl, HI⟩ := hrel
      by_cases hkn : k < rn
      · obtain ⟨rb0, off0, rfl, -⟩ := HR0.out.form (by omega)
        obtain ⟨e0, e1⟩ := (HR0.out.below (HI.out.2.1)).get k hkn
        have hLk := HRL.out k hkn
        have hYk := HRY.out k hkn
        have hel := exr_len L Y rn k hk HRL.out
        have HQ : Box (s.take a ++ exr L Y (k + 1) = s.take a ++ exr L Y k ++ List.replicate (L k).toNat (Y k)) := boxed (by simp [exr])
        obtain ⟨m, hm⟩ : ∃ m : Nat, L k = m := ⟨(L k).toNat, by omega⟩
        rw [hm] at e0 hLk
        have hm2 : (L k).toNat = m := by omega
        rw [hm2] at HQ
        have hok : Sok (s.take a ++ exr L Y k) := sok_app (fun y hy => HS.out y (List.mem_of_mem_take hy)) (exr_ok L Y rn k hk HRY.out)
        obtain ⟨v, hv, hadd⟩ := HI.out.add hok m (Y k) (by simp; omega) (by omega) ⟨by omega, by omega⟩
        have cv := cell_one hv
        have hvlt := (Array.getElem?_eq_some_iff.1 hv).1
        have hvne : w.heap.size ≠ wr.heap.size := by omega
        generalize Y k = y at *
        have HA := boxed hadd
        clear hv hadd hm hm2 hok
        gi_wp2_with fail
        have hBA := (Below.refl wr.heap.size wr).alloc (Nat.le_refl _) (Obj.cells #[Value.int IntKind.i64 (m : Nat), Value.int IntKind.i64 y] 25)
        refine ⟨trivial, (callsIn_wide.2 (HA.out _ hBA)).mono ?_⟩
        rintro e w6 ⟨ao6, n6, cap6, rfl, h6, hP6, hK6, hV6⟩
        rw [← HQ.out] at hP6
        have HR := boxed hP6
        have c6 := cell_one h6
        have f6 := frz_one h6
        clear h6 hP6 hK6 hV6 HA cv e0 e1 hBA
        gi_wp2
        go_roundw
        case rel => exact ⟨k + 1, by omega, by go_num, HR⟩
        case measure => simp [intOf]; omega
      · obtain rfl : k = rn := by omega
        have HBr := boxed HI.out.2.1
        have hln := fun w' (hb : Below w.heap.size w w') => len_any (HL.out.below hb)
        have hc := fun w' (hb : Below w.heap.size w w') => (HL.out.below hb).c0
        have hzr := HBr.out.size
        gi_wp2_with fail
        refine wpIn_wide.2 ?_
        have HB0 : Box (Below w.heap.size w wr.drew) := boxed (HBr.out.trans (Below.refl _ _).drew)
        go_region_held3 (fun w' => w'.cell? ⟨lb, 0, none⟩ = some (.slice ao (enc s).length cap))
          (first | with_reducible exact hc _ HB0.out | with_reducible exact hc _ HB5.out | with_reducible exact hc _ HB6.out)
          (first | (go_at_call 12; refine (hln _ HB0.out).mono ?_; rintro e w5 ⟨rfl, hb5⟩; have HB5 := boxed (HB0.out.trans (hb5.mono HB0.out.size)); have hb5z := hb5) | (go_at_call 34; refine (callsIn_wide.1 (between_in 5 ao (enc s).length cap _ _ w5)).mono ?_; rintro e w6 ⟨rfl, hw6⟩; have HB6 : Box (Below w.heap.size w w6) := boxed (by rw [hw6]; exact HB5.out.trans ((below_three w5 _ _ _).mono HB5.out.size)); have HW6 := boxed hw6; clear hw6))
        gi_wp2_with fail
        have HP6 : Box (Pw w [D] (s.take a ++ exr L Y k) w6) := boxed ((HI.out.below (below_step (Below.refl _ _).drew (Nat.le_refl _) hb5z)).below (by rw [HW6.out]; exact below_three w5 _ _ _))
        have HV6 : Vw w.heap.size (w5.heap.size + 1) w5.heap.size (w5.heap.size + 2) ao cap s b s.length w6 := by
          have h3 := heap3 w5 (Obj.cells #[Value.slice ao (enc s).length cap] 55) (Obj.cells #[Value.int IntKind.i64 (b : Nat)] 3) (Obj.cells #[Value.int IntKind.i64 (s.length : Nat)] 3)
          rw [← HW6.out] at h3
          exact ⟨h3.2.1, h3.1, h3.2.2, HP.out.keep (fun k i u hs hc => ⟨World.block_lt_of_cell? w ⟨k, i, none⟩ hc, hold HB6.out hc⟩)⟩
        have hz5 : w.heap.size < w5.heap.size := by
          have h1 := hb5z.size
          obtain ⟨v, hv, -⟩ := HI.out.1
          have := (Array.getElem?_eq_some_iff.1 hv).1
          have : wr.drew.heap.size = wr.heap.size := rfl
          omega
        have hz6 : w6.heap.size = w5.heap.size + 3 := by rw [HW6.out]; simp
        have hD6 : D < w6.heap.size := (Array.getElem?_eq_some_iff.1 (HP6.out.2.2 D (by simp))).1
        have HF1 : Box (fl (gv s b s.length) = s.drop b) := boxed (by rw [gv_fl HS.out b s.length hb (Nat.le_refl _) hl, sub_all])
        have HQ0 : Box (Sok (s.take a ++ exr L Y k)) := boxed (sok_app (fun y hy => HS.out y (List.mem_of_mem_take hy)) (exr_ok L Y k k (Nat.le_refl _) HRY.out))
        have HQL : Box ((s.take a ++ exr L Y k).length ≤ 65536) := boxed (by have := HLN.out; rw [List.length_append] at this; omega)
        clear hb5z hln HI HI2
        refine wp_btw w.heap.size (w5.heap.size + 1) w5.heap.size (w5.heap.size + 2) ao cap s b s.length hb (Nat.le_refl _) hl HS.out rfl HV6 (by omega) rfl
          (fun pre W => Pw w [D] (s.take a ++ exr L Y k ++ fl pre) W) (fun _ _ _ => False) (Pw.own w [D] (fun pre => s.take a ++ exr L Y k ++ fl pre) _ (by omega) (by simp; omega)) (fun _ _ _ _ _ h _ _ => h) (by simpa [fl, rof, flat] using HP6.out)
          (fun x a' W => ∃ rb, a' = { tmps := #[.pointer (some ⟨lb, 0, none⟩), .int .i64 (a : Nat), .int .i64 (b : Nat), .slice ro k rc, undef, undef, undef, undef, .pointer (some ⟨w.heap.size, 0, none⟩), undef, undef, undef, u12, undef, .pointer (some ⟨rb, 0, none⟩), .pointer (some ⟨lb, 0, none⟩), .pointer (some ⟨lb, 0, none⟩), .pointer (some ⟨lb, 0, none⟩), .slice ao (enc s).length cap, .int .i64 (a : Nat),
            .func (.func 42) #[] #[.pointer (some ⟨w.heap.size + 1 + 1, 0, none⟩), .pointer (some ⟨w.heap.size + 1, 0, none⟩), .pointer (some ⟨w.heap.size + 1 + 2, 0, none⟩)],
            undef, undef, undef, undef, undef, .slice ro k rc, .int .i64 (k : Nat), .int .i64 (k : Nat), .bool false, u30, u31, u32, u33, u34, u35, .pointer (some ⟨lb, 0, none⟩), .pointer (some ⟨lb, 0, none⟩), .pointer (some ⟨lb, 0, none⟩), .slice ao (enc s).length cap, .int .i64 (b : Nat), .pointer (some ⟨lb, 0, none⟩), .int .i64 (s.length : Nat),
            .func (.func 42) #[] #[.pointer (some ⟨w5.heap.size + 1, 0, none⟩), .pointer (some ⟨w5.heap.size, 0, none⟩), .pointer (some ⟨w5.heap.size + 2, 0, none⟩)], .int .i64 (x.1.1 : Nat), .agg #[.int .i64 (x.1.2.1 : Nat), .int .i64 x.1.2.2],
            undef, undef, undef, undef, undef, undef, undef], defers := [] } ∧ W.heap[rb]? = some (.cells #[.int .i64 (x.1.2.1 : Nat), .int .i64 x.1.2.2] 25 (0, 0)))
          (fun x a' _ W W' row h hg hr => by obtain ⟨rb, e, hb⟩ := h; exact ⟨rb, e, blk_turn hb hg (fun r e => (hr r e).2)⟩) ?assign3 ?body3 ?done3 ?stop3
        case assign3 =>
          intro l pre x W K hI hV hK
          have HI := boxed hI
          have HVx := boxed hV
          have HKx := boxed hK
          clear hI hV hK
          gi_wp2
          have hBA := (Below.refl W.heap.size W).alloc (Nat.le_refl _) (Obj.cells #[Value.int IntKind.i64 (x.1.2.1 : Nat), Value.int IntKind.i64 x.1.2.2] 25)
          exact HKx.out _ _ ((KeepsOthers.alloc _ _).from _) (HVx.out.below hBA) (HI.out.below hBA) ⟨W.heap.size, rfl, heap_alloc_new _ _⟩
        case body3 =>
          rintro l pre x a' W hl' hI hV ⟨rb, rfl, hrb⟩ hlt'
          have hgl := gv_len s b s.length (Nat.le_refl _)
          have hfl := fl_len pre
          obtain ⟨v, hv, hadd⟩ := hI.add (sok_app HQ0.out (fl_ok pre)) x.1.2.1 x.1.2.2 (by have := HQL.out; rw [List.length_append]; omega) x.2.2.1.2 ⟨by have := x.2.2.2; omega, by have := x.2.2.2; omega⟩
          have cv := cell_one hv
          have cr0 : W.cell? ⟨rb, 0, none⟩ = some (.int .i64 (x.1.2.1 : Nat)) := by simp [World.cell?, hrb]
          have cr1 : W.cell? ⟨rb, 1, none⟩ = some (.int .i64 x.1.2.2) := by simp [World.cell?, hrb]
          have HVx := boxed hV
          have HA := boxed hadd
          have HF := boxed (fl_snoc pre x)
          clear hI hV hv hrb hadd
          gi_wp2_with fail
          refine ⟨trivial, (CallsIn.inRound l (callsIn_wide.2 (HA.out W (Below.refl _ _)))).mono ?_⟩
          rintro e w7 ⟨ao6, n6, cap6, rfl, h6, hP7, hK6, hV7⟩
          rw [List.append_assoc _ (fl pre), ← HF.out] at hP7
          have HR : Box (KeepsFrom w6.heap.size W (w7.setCell ⟨w.heap.size, 0, none⟩ (.slice ao6 n6 cap6)) ∧ Vw w.heap.size (w5.heap.size + 1) w5.heap.size (w5.heap.size + 2) ao cap s b s.length (w7.setCell ⟨w.heap.size, 0, none⟩ (.slice ao6 n6 cap6)) ∧ Pw w [D] (s.take a ++ exr L Y k ++ fl (pre ++ [x])) (w7.setCell ⟨w.heap.size, 0, none⟩ (.slice ao6 n6 cap6))) := boxed ⟨hK6.from _, hV7 _ _ _ _ _ _ _ _ _ HVx.out (by omega) (by omega) (by omega) (Nat.le_refl _), hP7⟩
          have c6 := cell_one h6
          have f6 := frz_one h6
          clear h6 hP7 hK6 hV7 HA HVx cv cr0 cr1
          gi_wp2
          exact HR.out
        case done3 =>
          rintro D2 W2 hD2 hI hV hK2
          rw [HF1.out] at hI
          obtain ⟨⟨v, hv, hown⟩, hB2, hDd⟩ := hI
          obtain ⟨q9, hq9⟩ : ∃ q9, s.take a ++ exr L Y k ++ s.drop b = q9 := ⟨_, rfl⟩
          rw [hq9] at hown
          have HQ9 := boxed hq9
          have HL9 : Box (q9.length ≤ 65536 ∧ Sok q9) := boxed ⟨by rw [← hq9]; exact HLN.out, by rw [← hq9]; exact sok_app HQ0.out (fun y hy => HS.out y (List.mem_of_mem_drop hy))⟩
          clear hq9
          obtain ⟨ao9, cap9, rfl⟩ : ∃ ao9 cap9, v = .slice ao9 (enc q9).length cap9 := by
            rcases ownsRow_forms hown with ⟨g1, g2⟩ | ⟨g, cap, g1⟩
            · exact ⟨none, 0, by rw [g2]; exact g1⟩
            · exact ⟨_, _, g1⟩
          have cv := cell_one hv
          have cl := hc _ hB2
          have fl0 := (HL.out.below hB2).fz 0
          have HFin := boxed (put_end (HL.out.below hB2).blk hown hB2 (hDd D (by simp)) hK2 hlt (by omega) (by omega) HL9.out.1 HL9.out.2 HL.out.bare)
          clear hv hown hB2 hDd hV hK2
          gi_wp2
          refine ⟨by simp, .inl ⟨_, _, rfl, run_takeDeferred HFin.out.1, ?_⟩⟩
          refine ⟨by simp, .inl ⟨_, _, rfl, run_takeDeferred HFin.out.2.1, ?_⟩⟩
          refine ⟨_, results_none rfl _ _ _, rfl, ao9, cap9, ?_, HFin.out.2.2.2⟩
          rw [HQ9.out]
          exact HFin.out.2.2.1
        case stop3 =>
          rintro D c pre W _ _ h _
          exact h.elim
  case stop =>
    rintro D c pre W _ _ h _
    exact h.elim

theorem put_any {w : World} {lb : Nat} {ao : Option Addr} {cap : Nat} {s : List Int} {bare : Int} (h : ListAt w lb ao cap s bare) (a b : Nat) (hab : a ≤ b) (hb : b ≤ s.length) (ro : Option Addr) (rn rc : Nat) (L Y : Nat → Int) (hr : P2At (· ≠ lb) w ro rn L Y) (hrn : rn ≤ 65536) (hrl : ∀ i, i < rn → 0 ≤ L i ∧ L i ≤ 65536) (hry : ∀ i, i < rn → 0 ≤ Y i ∧ Y i < 32)
    (hlen : (s.take a ++ exr L Y rn ++ s.drop b).length ≤ 65536) :
    Calls Try.prog 38 #[.pointer (some ⟨lb, 0, none⟩), .int .i64 (a : Nat), .int .i64 (b : Nat), .slice ro rn rc] w fun e w' => e = .returned (.tuple #[]) ∧ ∃ ao' cap', ListAt w' lb ao' cap' (s.take a ++ exr L Y rn ++ s.drop b) bare ∧ w.grownBy w' (some lb) :=
  callsIn_wide.1 (put_in h a b hab hb ro rn rc L Y hr hrn hrl hry hlen)
end Go.Proofs.Ytdchpiihjjjpfab
