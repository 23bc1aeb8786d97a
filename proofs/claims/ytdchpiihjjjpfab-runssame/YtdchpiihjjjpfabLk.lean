/-
  What the program's New, Insert, Delete and Set do.
-/
import Derived.Test.YtdchpiihjjjpfabLd
import Derived.Test.YtdchpiihjjjpfabLh
import Derived.Test.YtdchpiihjjjpfabLj
namespace Go.Proofs.Ytdchpiihjjjpfab
open Go.RowKit
set_option linter.unusedSimpArgs false
set_option linter.unusedVariables false

/-- Insert's error; the styles then. -/
def insE (s : List Int) (a n : Int) : Int := if outb s.length a a = true then 30 else if n < 0 then 1 else if 65536 - (s.length : Int) < n then 31 else 0
def insS (s : List Int) (bare a n : Int) : List Int := if insE s a n = 0 then s.take a.toNat ++ List.replicate n.toNat (nr s bare a) ++ s.drop a.toNat else s
theorem getD_ok {s : List Int} (h : Sok s) (k : Nat) (hk : k < s.length) : 0 ≤ s.getD k 0 ∧ s.getD k 0 < 32 := by
  have : s.getD k 0 = s[k] := by simp [List.getD, hk]
  rw [this]
  exact h _ (List.getElem_mem hk)
theorem nr_ok {s : List Int} {bare a : Int} (h : Sok s) (hb : 0 ≤ bare ∧ bare < 32) : 0 ≤ nr s bare a ∧ nr s bare a < 32 := by
  unfold nr
  split
  · omega
  · split
    · exact hb
    · next h1 h2 =>
      have h1' : outb s.length a a = false := by simpa using h1
      obtain ⟨a1, -, a2⟩ := (outb_iff _ _ _).1 h1'
      have hk : (a - 1).toNat < s.length := by omega
      exact getD_ok h _ hk

section
variable {w : World} {lb : Nat} {ao : Option Addr} {cap : Nat} {s : List Int} {bare : Int}

theorem put_one (h : ListAt w lb ao cap s bare) (a b : Nat) (hab : a ≤ b) (hb : b ≤ s.length) (rb : Nat) (hrb : rb ≠ lb) (m : Nat) (y : Int) (hm : m ≤ 65536) (hy : 0 ≤ y ∧ y < 32) (d0 : w.cell? ⟨rb, 0, none⟩ = some (.int .i64 (m : Nat))) (d1 : w.cell? ⟨rb, 1, none⟩ = some (.int .i64 y)) (hlen : a + m + (s.length - b) ≤ 65536) :
    Calls Try.prog 38 #[.pointer (some ⟨lb, 0, none⟩), .int .i64 (a : Nat), .int .i64 (b : Nat), .slice (some ⟨rb, 0, none⟩) 1 1] w fun e w' => e = .returned (.tuple #[]) ∧ ∃ ao' cap', ListAt w' lb ao' cap' (s.take a ++ List.replicate m y ++ s.drop b) bare ∧ w.grownBy w' (some lb) := by
  have HE : exr (fun _ => (m : Int)) (fun _ => y) 1 = List.replicate m y := by simp [exr]
  have hp := put_any h a b hab hb (some ⟨rb, 0, none⟩) 1 1 (fun _ => (m : Int)) (fun _ => y) (by
    intro i hi
    obtain rfl : i = 0 := by omega
    exact ⟨⟨⟨by show (_ : Int) ≤ (m : Int); omega, by show (m : Int) ≤ _; omega⟩, ⟨by show (_ : Int) ≤ y; omega, by show y ≤ _; omega⟩⟩, rb, 0, rfl, hrb, d0, d1⟩) (by omega) (fun i _ => ⟨by show (0 : Int) ≤ (m : Int); omega, by show (m : Int) ≤ _; omega⟩) (fun i _ => hy) (by rw [HE]; simp; omega)
  rw [HE] at hp
  exact hp
theorem put_none (h : ListAt w lb ao cap s bare) (a b : Nat) (hab : a ≤ b) (hb : b ≤ s.length) :
    Calls Try.prog 38 #[.pointer (some ⟨lb, 0, none⟩), .int .i64 (a : Nat), .int .i64 (b : Nat), .slice none 0 0] w fun e w' => e = .returned (.tuple #[]) ∧ ∃ ao' cap', ListAt w' lb ao' cap' (s.take a ++ s.drop b) bare ∧ w.grownBy w' (some lb) := by
  have HE : exr (fun _ => 0) (fun _ => 0) 0 = [] := rfl
  have hp := put_any h a b hab hb none 0 0 (fun _ => 0) (fun _ => 0) (fun i hi => by omega) (by omega) (fun i hi => by omega) (fun i hi => by omega) (by rw [HE]; have := h.len; simp; omega)
  rw [HE, List.append_nil] at hp
  exact hp

set_option maxRecDepth 100000 in
set_option maxHeartbeats 2000000 in
theorem insert_any (h : ListAt w lb ao cap s bare) (a n : Int) (ha : I64 a) (hn : I64 n) : Calls Try.prog 27 #[.pointer (some ⟨lb, 0, none⟩), .int .i64 a, .int .i64 n] w fun e w' =>
    e = .returned (.int .i64 (insE s a n)) ∧ ∃ ao' cap', ListAt w' lb ao' cap' (insS s bare a n) bare ∧ w.grownBy w' (some lb) := by
  have hnr := near_any h a ha
  have hln := fun w' (hb : Below w.heap.size w w') => len_any (h.below hb)
  have hl := h.len
  unfold insS insE
  by_cases c1 : outb s.length a a = true
  · rw [if_pos c1, if_neg (by omega)]
    rw [c1] at hnr
    have HH := boxed h
    clear h hln
    go_enter Try.func27, Try.ntmps27
    go_wp2_with fail
    refine hnr.mono ?_
    rintro e w1 ⟨rfl, hb1⟩
    have HB1 := boxed hb1
    clear hb1 hnr
    have e30 : ofs true = 30 := rfl
    go_wp2
    go_ret
    exact ⟨rfl, ao, cap, HH.out.below HB1.out, below_grown HB1.out _⟩
  · rw [if_neg c1]
    have c1' : outb s.length a a = false := by simpa using c1
    obtain ⟨a1, -, a2⟩ := (outb_iff _ _ _).1 c1'
    rw [c1'] at hnr
    have e0 : ofs false = 0 := rfl
    by_cases c2 : n < 0
    · rw [if_pos c2, if_neg (by omega)]
      have HH := boxed h
      clear h hln c1 c1'
      go_enter Try.func27, Try.ntmps27
      go_wp2_with fail
      refine hnr.mono ?_
      rintro e w1 ⟨rfl, hb1⟩
      have HB1 := boxed hb1
      clear hb1 hnr
      go_wp2
      go_ret
      exact ⟨rfl, ao, cap, HH.out.below HB1.out, below_grown HB1.out _⟩
    · rw [if_neg c2]
      have hw : IntKind.i64.wrap (65536 - (s.length : Int)) = 65536 - (s.length : Int) := by rw [IntKind.wrap_i64]; omega
      by_cases c3 : 65536 - (s.length : Int) < n
      · rw [if_pos c3, if_neg (by omega)]
        have HH := boxed h
        clear h c1 c1'
        go_enter Try.func27, Try.ntmps27
        go_wp2_with fail
        refine hnr.mono ?_
        rintro e w1 ⟨rfl, hb1⟩
        have HB1 := boxed hb1
        have hln1 := hln _ hb1
        clear hb1 hnr hln
        go_wp2_with fail
        refine hln1.mono ?_
        rintro e w2 ⟨rfl, hb2⟩
        have HB2 := boxed (below_step HB1.out (Nat.le_refl _) hb2)
        clear hb2 hln1
        go_wp2
        go_ret
        exact ⟨rfl, ao, cap, HH.out.below HB2.out, below_grown HB2.out _⟩
      · rw [if_neg c3, if_pos rfl]
        obtain ⟨k, rfl⟩ : ∃ k : Nat, a = k := ⟨a.toNat, by omega⟩
        obtain ⟨m, rfl⟩ : ∃ m : Nat, n = m := ⟨n.toNat, by omega⟩
        have hy := nr_ok (a := k) h.ok h.bare
        have e1 : ((k : Int)).toNat = k := by simp
        have e2 : ((m : Int)).toNat = m := by simp
        rw [e1, e2]
        have hput := fun (w1 : World) (hb1 : Below w.heap.size w w1) (b : Nat) (hb2 : b ≠ lb) (d0 : w1.cell? ⟨b, 0, none⟩ = some (.int .i64 (m : Nat))) (d1 : w1.cell? ⟨b, 1, none⟩ = some (.int .i64 (nr s bare k))) =>
          put_one (h.below hb1) k k (Nat.le_refl _) (by omega) b hb2 m (nr s bare k) (by omega) hy d0 d1 (by omega)
        have HPT := boxed hput
        have hlt := h.lt
        clear h c1 c1' hput e1 e2
        generalize nr s bare k = V at *
        go_enter Try.func27, Try.ntmps27
        go_wp2_with fail
        refine hnr.mono ?_
        rintro e w1 ⟨rfl, hb1⟩
        have HB1 := boxed hb1
        have hln1 := hln _ hb1
        clear hb1 hnr hln
        go_wp2_with fail
        refine hln1.mono ?_
        rintro e w2 ⟨rfl, hb2⟩
        have HB2 := boxed (below_step HB1.out (Nat.le_refl _) hb2)
        clear hb2 hln1
        have hz2 := HB2.out.size
        go_wp2_with fail
        have hBA := (Below.refl w2.heap.size w2).alloc (Nat.le_refl _) (Obj.cells #[Value.int IntKind.i64 (m : Nat), Value.int IntKind.i64 V] 25)
        refine (HPT.out _ (below_step HB2.out (Nat.le_refl _) hBA) w2.heap.size (by omega) (by rw [cell_new _ _ _ _ _ rfl]; rfl) (by rw [cell_new _ _ _ _ _ rfl]; rfl)).mono ?_
        rintro e w3 ⟨rfl, ao', cap', hL, hg⟩
        have HF := boxed (And.intro hL (grown_trans (below_grown (below_step HB2.out (Nat.le_refl _) hBA) (some lb)) hg))
        clear hL hg hBA HPT
        go_wp2
        go_ret
        exact ⟨rfl, ao', cap', HF.out⟩

def delS (s : List Int) (a b : Int) : List Int := if outb s.length a b = true then s else s.take a.toNat ++ s.drop b.toNat
def delB (s : List Int) (bare a b : Int) : Int := if outb s.length a b = true then bare else if s.length = 0 then bare else s.getD 0 0
theorem ListAt.setBare (h : ListAt w lb ao cap s bare) (y : Int) (hy : 0 ≤ y ∧ y < 32) : ListAt (w.setCell ⟨lb, 1, none⟩ (.int .i64 y)) lb ao cap s y :=
  ⟨set1_heap h.blk, h.pts.keep (fun k i u hs hc => ⟨hs, by rw [World.cell?_setCell_far _ _ _ _ (Ne.symm hs)]; exact hc⟩), h.ok, h.len, hy⟩

set_option maxRecDepth 100000 in
set_option maxHeartbeats 2000000 in
theorem delete_any (h : ListAt w lb ao cap s bare) (a b : Int) (ha : I64 a) (hb : I64 b) : Calls Try.prog 29 #[.pointer (some ⟨lb, 0, none⟩), .int .i64 a, .int .i64 b] w fun e w' =>
    e = .returned (.int .i64 (ofs (outb s.length a b))) ∧ ∃ ao' cap', ListAt w' lb ao' cap' (delS s a b) (delB s bare a b) ∧ w.grownBy w' (some lb) := by
  have ho := outside_any h a b
  have hln := fun w' (hb : Below w.heap.size w w') => len_any (h.below hb)
  have hl := h.len
  unfold delS delB ofs
  by_cases c1 : outb s.length a b = true
  · rw [if_pos c1, if_pos c1, if_pos c1]
    rw [c1] at ho
    have HH := boxed h
    clear h hln
    go_enter Try.func29, Try.ntmps29
    go_wp2_with fail
    refine ho.mono ?_
    rintro e w1 ⟨rfl, hb1⟩
    have HB1 := boxed hb1
    clear hb1 ho
    go_wp2
    go_ret
    exact ⟨rfl, ao, cap, HH.out.below HB1.out, below_grown HB1.out _⟩
  · rw [if_neg c1, if_neg c1, if_neg c1]
    have c1' : outb s.length a b = false := by simpa using c1
    obtain ⟨a1, a3, a2⟩ := (outb_iff _ _ _).1 c1'
    rw [c1'] at ho
    obtain ⟨k, rfl⟩ : ∃ k : Nat, a = k := ⟨a.toNat, by omega⟩
    obtain ⟨m, rfl⟩ : ∃ m : Nat, b = m := ⟨b.toNat, by omega⟩
    have e1 : ((k : Int)).toNat = k := by simp
    have e2 : ((m : Int)).toNat = m := by simp
    rw [e1, e2]
    have HH := boxed h
    clear c1 c1' e1 e2
    by_cases c2 : s.length = 0
    · rw [if_pos c2]
      have t0 : decide ((0 : Int) < (s.length : Int)) = false := decide_eq_false (by omega)
      have t0' : decide (0 < s.length) = false := decide_eq_false (by omega)
      have HPT := boxed (fun (w1 : World) (hb1 : Below w.heap.size w w1) => put_none (h.below hb1) k m (by omega) (by omega))
      clear h c2
      generalize s.length = N at *
      go_enter Try.func29, Try.ntmps29
      go_wp2_with fail
      refine ho.mono ?_
      rintro e w1 ⟨rfl, hb1⟩
      have HB1 := boxed hb1
      have hln1 := hln _ hb1
      clear hb1 ho hln
      go_wp2_with fail
      refine hln1.mono ?_
      rintro e w2 ⟨rfl, hb2⟩
      have HB2 := boxed (below_step HB1.out (Nat.le_refl _) hb2)
      clear hb2 hln1
      go_wp2_with fail
      refine (HPT.out _ HB2.out).mono ?_
      rintro e w3 ⟨rfl, ao', cap', hL, hg⟩
      have HF := boxed (And.intro hL (grown_trans (below_grown HB2.out (some lb)) hg))
      clear hL hg HPT
      go_wp2
      go_ret
      exact ⟨rfl, ao', cap', HF.out⟩
    · rw [if_neg c2]
      have t0 : decide ((0 : Int) < (s.length : Int)) = true := decide_eq_true (by omega)
      have t0' : decide (0 < s.length) = true := decide_eq_true (by omega)
      have hn : 0 < (enc s).length := by have := enc_nil s; omega
      obtain ⟨b0, off, rfl, hbl⟩ := h.pts.form hn
      have hy0 := getD_ok h.ok 0 (by omega)
      have hst := h.sty (q := 0) (a := 0) hn (Nat.le_refl _) (by have := Bg_step _ 0 hn (can_enc s); rw [Bg_zero] at this; exact this)
      have hce := fun (w1 : World) (hb1 : Below w.heap.size w w1) => (h.below hb1).c0
      have hcb := fun (w1 : World) (hb1 : Below w.heap.size w w1) => (h.below hb1).c1
      have hcf := fun (w1 : World) (hb1 : Below w.heap.size w w1) => (h.below hb1).fz 1
      have hcy := fun (w1 : World) (hb1 : Below w.heap.size w w1) => ((h.pts.below hb1).get 0 hn).2
      simp only [hst] at hcy
      have hle := enc_len s
      have HPT := boxed (fun (w1 : World) (hb1 : Below w.heap.size w w1) => put_none ((h.below hb1).setBare (s.getD 0 0) hy0) k m (by omega) (by omega))
      clear h hst c2
      generalize s.getD 0 0 = V at *
      generalize (enc s).length = n at *
      generalize s.length = N at *
      go_enter Try.func29, Try.ntmps29
      go_wp2_with fail
      refine ho.mono ?_
      rintro e w1 ⟨rfl, hb1⟩
      have HB1 := boxed hb1
      have hln1 := hln _ hb1
      clear hb1 ho hln
      go_wp2_with fail
      refine hln1.mono ?_
      rintro e w2 ⟨rfl, hb2⟩
      have HB2 := boxed (below_step HB1.out (Nat.le_refl _) hb2)
      have d0 := hce _ HB2.out
      have d1 := hcb _ HB2.out
      have d2 := hcf _ HB2.out
      have d3 := hcy _ HB2.out
      clear hb2 hln1 hce hcb hcf hcy
      go_wp2_with fail
      refine (HPT.out _ HB2.out).mono ?_
      rintro e w3 ⟨rfl, ao', cap', hL, hg⟩
      have HF := boxed (And.intro hL (grown_trans (below_grown HB2.out (some lb)) (grown_trans (grown_set _ _ _ _) hg)))
      clear hL hg HPT
      go_wp2
      go_ret
      exact ⟨rfl, ao', cap', HF.out⟩

def setE (s : List Int) (a b st : Int) : Int := if outb s.length a b = true then 30 else if stb st = true then 0 else 43
def setS (s : List Int) (a b st : Int) : List Int := if setE s a b st = 0 then s.take a.toNat ++ List.replicate (b - a).toNat st ++ s.drop b.toNat else s
theorem set_same (s : List Int) (k m : Nat) (st : Int) (hkm : k ≤ m) (hm : m ≤ s.length) (h : ∀ y ∈ sub s k m, y = st) : s.take k ++ List.replicate (m - k) st ++ s.drop m = s := by
  have e : sub s k m = List.replicate (m - k) st := by
    rw [List.eq_replicate_iff]
    exact ⟨sub_len s k m hm, h⟩
  rw [← e]
  unfold sub
  have : (s.drop k).take (m - k) ++ s.drop m = s.drop k := by
    have h1 : s.drop m = (s.drop k).drop (m - k) := by rw [List.drop_drop]; congr 1; omega
    rw [h1, List.take_append_drop]
  rw [List.append_assoc, this, List.take_append_drop]

set_option maxRecDepth 100000 in
set_option maxHeartbeats 2000000 in
theorem set_any (h : ListAt w lb ao cap s bare) (a b st : Int) (ha : I64 a) (hb : I64 b) : Calls Try.prog 31 #[.pointer (some ⟨lb, 0, none⟩), .int .i64 a, .int .i64 b, .int .i64 st] w fun e w' =>
    ∃ r, e = .returned (.tuple #[.bool r, .int .i64 (setE s a b st)]) ∧ (r = true ↔ setE s a b st = 0 ∧ ¬ ∀ y ∈ sub s a.toNat b.toNat, y = st) ∧ ∃ ao' cap', ListAt w' lb ao' cap' (setS s a b st) bare ∧ w.grownBy w' (some lb) := by
  have ho := outside_any h a b
  have hl := h.len
  unfold setS setE
  by_cases c1 : outb s.length a b = true
  · rw [if_pos c1, if_neg (by omega)]
    rw [c1] at ho
    have HH := boxed h
    clear h
    go_enter Try.func31, Try.ntmps31
    go_wp2_with fail
    refine ho.mono ?_
    rintro e w1 ⟨rfl, hb1⟩
    have HB1 := boxed hb1
    clear hb1 ho
    go_wp2
    go_ret2
    exact ⟨false, rfl, by simp, ao, cap, HH.out.below HB1.out, below_grown HB1.out _⟩
  · rw [if_neg c1]
    have c1' : outb s.length a b = false := by simpa using c1
    obtain ⟨a1, a3, a2⟩ := (outb_iff _ _ _).1 c1'
    rw [c1'] at ho
    by_cases c2 : stb st = true
    · rw [if_pos c2, if_pos rfl]
      obtain ⟨k, rfl⟩ : ∃ k : Nat, a = k := ⟨a.toNat, by omega⟩
      obtain ⟨m, rfl⟩ : ∃ m : Nat, b = m := ⟨b.toNat, by omega⟩
      have e1 : ((k : Int)).toNat = k := by simp
      have e2 : ((m : Int)).toNat = m := by simp
      obtain ⟨d, hd⟩ : ∃ d : Nat, m - k = d := ⟨_, rfl⟩
      have e3 : ((m : Int) - (k : Int)).toNat = d := by omega
      have e4 : (m : Int) - (k : Int) = (d : Int) := by omega
      rw [e1, e2, e3]
      have hst := (stb_iff st).1 c2
      have HH := boxed h
      have HA := boxed (fun (w1 : World) (hb1 : Below w.heap.size w w1) => all_any (h.below hb1) k m (by omega) (by omega) st)
      have HPT := boxed (fun (w1 : World) (hb1 : Below w.heap.size w w1) (rb : Nat) (hr1 : rb ≠ lb) (d0 : w1.cell? ⟨rb, 0, none⟩ = some (.int .i64 (d : Nat))) (d1 : w1.cell? ⟨rb, 1, none⟩ = some (.int .i64 st)) => put_one (h.below hb1) k m (by omega) (by omega) rb hr1 d st (by omega) hst d0 d1 (by omega))
      have HSM : Box ((∀ y ∈ sub s k m, y = st) → s.take k ++ List.replicate d st ++ s.drop m = s) := boxed (fun hh => by rw [← hd]; exact set_same s k m st (by omega) (by omega) hh)
      have hlt := h.lt
      have hst2 := isStyle_any st
      rw [c2] at hst2
      clear h c1 c1' e1 e2 e3 hd c2
      go_enter Try.func31, Try.ntmps31
      go_wp2_with fail
      refine ho.mono ?_
      rintro e w1 ⟨rfl, hb1⟩
      have HB1 := boxed hb1
      clear hb1 ho
      go_wp2_with (go_at_call 23; refine (hst2 _).mono ?_; rintro e w1' ⟨rfl, rfl⟩)
      refine (HA.out _ HB1.out).mono ?_
      rintro e w2 ⟨r, rfl, hr, hb2⟩
      have HB2 := boxed (below_step HB1.out (Nat.le_refl _) hb2)
      have hz2 := HB2.out.size
      cases r with
      | true =>
        have HR := boxed (hr.1 rfl)
        clear hr hb2
        go_wp2
        go_ret2
        refine ⟨false, rfl, ?_, ao, cap, ?_, below_grown HB2.out _⟩
        · constructor
          · intro h; cases h
          · intro h; exact absurd HR.out h.2
        · rw [HSM.out HR.out]; exact HH.out.below HB2.out
      | false =>
        have HR : Box (¬ ∀ y ∈ sub s k m, y = st) := boxed (fun hh => by have := hr.2 hh; cases this)
        clear hr hb2
        go_wp2_with fail
        have hBA := (Below.refl w2.heap.size w2).alloc (Nat.le_refl _) (Obj.cells #[Value.int IntKind.i64 (d : Nat), Value.int IntKind.i64 st] 25)
        refine (HPT.out _ (below_step HB2.out (Nat.le_refl _) hBA) w2.heap.size (by omega) (by rw [cell_new _ _ _ _ _ rfl]; rfl) (by rw [cell_new _ _ _ _ _ rfl]; rfl)).mono ?_
        rintro e w3 ⟨rfl, ao', cap', hL, hg⟩
        have HF := boxed (And.intro hL (grown_trans (below_grown (below_step HB2.out (Nat.le_refl _) hBA) (some lb)) hg))
        clear hL hg hBA HPT
        go_wp2
        go_ret2
        exact ⟨true, rfl, ⟨fun _ => ⟨by first | rfl | trivial, HR.out⟩, fun _ => rfl⟩, ao', cap', HF.out⟩
    · rw [if_neg c2, if_neg (by omega)]
      have c2' : stb st = false := by simpa using c2
      have hst2 := isStyle_any st
      rw [c2'] at hst2
      have HH := boxed h
      clear h c2 c2' c1 c1'
      go_enter Try.func31, Try.ntmps31
      go_wp2_with fail
      refine ho.mono ?_
      rintro e w1 ⟨rfl, hb1⟩
      have HB1 := boxed hb1
      clear hb1 ho
      go_wp2_with (go_at_call 23; refine (hst2 _).mono ?_; rintro e w1' ⟨rfl, rfl⟩)
      go_ret2
      exact ⟨false, rfl, by simp, ao, cap, HH.out.below HB1.out, below_grown HB1.out _⟩
end
end Go.Proofs.Ytdchpiihjjjpfab
