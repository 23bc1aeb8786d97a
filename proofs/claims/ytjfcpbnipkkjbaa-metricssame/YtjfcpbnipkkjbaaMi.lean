/-
  What a table's Height, Hyphen, Keep, Space and Style answer; and what the law's table does.
-/
import Derived.Test.YtjfcpbnipkkjbaaMh
namespace Go.Proofs.Ytjfcpbnipkkjbaa
open Go.RowKit
set_option linter.unusedSimpArgs false
set_option linter.unusedVariables false

theorem TabAt.mono {B C : Nat} {w : World} {tb n : Nat} {G : Nat → Sty} (h : TabAt B w tb n G) (hC : C ≤ B) : TabAt C w tb n G := by
  obtain ⟨h1, bs, h2, h3⟩ := h
  exact ⟨⟨Nat.le_trans hC h1.1, h1.2⟩, bs, h2, h3.keep (fun b i u hs hc => ⟨Nat.le_trans hC hs, hc⟩)⟩
theorem TabAt.of {B : Nat} {w : World} {tb n : Nat} {G : Nat → Sty} (h : TabAt B w tb n G) (a : Int) : StyOk (ofS G n a) ∧ RgsAt (fun b => B ≤ b) w (ofS G n a).ra (ofS G n a).rn (ofS G n a).R := by
  obtain ⟨h1, bs, h2, h3⟩ := h
  exact ofS_at h3 a

set_option maxRecDepth 100000 in
theorem height_any {B : Nat} {w : World} {tb n : Nat} {G : Nat → Sty} (h : TabAt B w tb n G) (a : Int) :
    Calls Try.prog 17 #[.pointer (some ⟨tb, 0, none⟩), .int .i64 a] w fun e w' => e = .returned (.int .i64 (ofS G n a).h) ∧ Below w.heap.size w w' := by
  have hl := look_any h a
  have hf := fld0
  unfold Sty.val at hl
  clear h
  generalize ofS G n a = s at *
  go_enter Try.func17, Try.ntmps17
  go_wp2_with (go_at_call 35; refine hl.mono ?_; rintro e w1 ⟨rfl, hb1⟩; have HB := boxed hb1; clear hb1)
  go_ret
  exact ⟨rfl, HB.out⟩
set_option maxRecDepth 100000 in
theorem hyphen_any {B : Nat} {w : World} {tb n : Nat} {G : Nat → Sty} (h : TabAt B w tb n G) (a : Int) :
    Calls Try.prog 18 #[.pointer (some ⟨tb, 0, none⟩), .int .i64 a] w fun e w' => e = .returned (.int .i64 (ofS G n a).hy) ∧ Below w.heap.size w w' := by
  have hl := look_any h a
  have hf := fld4
  unfold Sty.val at hl
  clear h
  generalize ofS G n a = s at *
  go_enter Try.func18, Try.ntmps18
  go_wp2_with (go_at_call 35; refine hl.mono ?_; rintro e w1 ⟨rfl, hb1⟩; have HB := boxed hb1; clear hb1)
  go_ret
  exact ⟨rfl, HB.out⟩
set_option maxRecDepth 100000 in
theorem keep_any {B : Nat} {w : World} {tb n : Nat} {G : Nat → Sty} (h : TabAt B w tb n G) (a : Int) :
    Calls Try.prog 19 #[.pointer (some ⟨tb, 0, none⟩), .int .i64 a] w fun e w' => e = .returned (.bool (ofS G n a).keep) ∧ Below w.heap.size w w' := by
  have hl := look_any h a
  have hf := fld7
  unfold Sty.val at hl
  clear h
  generalize ofS G n a = s at *
  go_enter Try.func19, Try.ntmps19
  go_wp2_with (go_at_call 35; refine hl.mono ?_; rintro e w1 ⟨rfl, hb1⟩; have HB := boxed hb1; clear hb1)
  go_ret
  exact ⟨rfl, HB.out⟩
set_option maxRecDepth 100000 in
theorem space_any {B : Nat} {w : World} {tb n : Nat} {G : Nat → Sty} (h : TabAt B w tb n G) (a : Int) :
    Calls Try.prog 15 #[.pointer (some ⟨tb, 0, none⟩), .int .i64 a] w fun e w' => e = .returned (.tuple #[.int .i64 (ofS G n a).sp, .int .i64 (ofS G n a).st, .int .i64 (ofS G n a).sh]) ∧ Below w.heap.size w w' := by
  have hl := look_any h a
  unfold Sty.val at hl
  clear h
  generalize ofS G n a = s at *
  go_enter Try.func15, Try.ntmps15
  go_wp2_with (go_at_call 35; refine hl.mono ?_; rintro e w1 ⟨rfl, hb1⟩; have HB := boxed hb1; clear hb1)
  go_quiet (fail)
  go_wp2
  refine bodyPost_ret (v := .tuple #[.int .i64 s.sp, .int .i64 s.st, .int .i64 s.sh]) (by simp [results, Try.results15, go_sem]) rfl ⟨rfl, ?_⟩
  exact (HB.out.alloc HB.out.size _).trans (bel_drewN _ _ _)
set_option maxRecDepth 100000 in
theorem style_any {B : Nat} {w : World} {tb n : Nat} {G : Nat → Sty} (h : TabAt B w tb n G) (a : Int) :
    Calls Try.prog 20 #[.pointer (some ⟨tb, 0, none⟩), .int .i64 a] w fun e w' => ∃ g : Sty, e = .returned g.val ∧ Like (ofS G n a) g ∧ RgsAt (fun b => w.heap.size ≤ b) w' g.ra g.rn g.R ∧ (g.rn ≤ g.rc ∧ (g.ra = none → g.rn = 0 ∧ g.rc = 0)) ∧ Below w.heap.size w w' := by
  have hl := fun w' (hb : Below w.heap.size w w') => look_any (h.below hb) a
  have hap := fun w' (hb : Below w.heap.size w w') => apart_any (fun b => B ≤ b) (ofS G n a) w' (h.of a).1 ((h.of a).2.below hb)
  simp only [Sty.val] at *
  clear h
  generalize ofS G n a = s at *
  go_enter Try.func20, Try.ntmps20
  go_wp2_with fail
  refine (hl _ (by go_grown)).mono ?_
  rintro e w1 ⟨rfl, hb1⟩
  have HB1 := boxed (below_step ((Below.refl w.heap.size w).alloc (Nat.le_refl _) _) (Nat.le_refl _) hb1)
  have hc : ∀ j, w1.cell? ⟨w.heap.size, j, none⟩ = (#[.int .i64 0, .int .i64 0, .int .i64 0, .int .i64 0, .int .i64 0, .int .i64 0, .slice none 0 0, .bool false] : Array Value)[j]? := by
    intro j
    rw [hb1.cell (p := ⟨w.heap.size, j, none⟩) (by simp)]
    exact cell_first _ _ _ _
  have hz : ∀ j, w1.frozen? ⟨w.heap.size, j, none⟩ = false := by
    intro j
    rw [hb1.frozen (p := ⟨w.heap.size, j, none⟩) (by simp)]
    exact row_free (heap_alloc_new _ _) j
  have hsz : w.heap.size < w1.heap.size := by have := hb1.size; simp at this; omega
  clear hb1 hl
  go_wp2_with fail
  refine (hap _ HB1.out).mono ?_
  rintro e w2 ⟨g, rfl, hg1, hg2, hg3, hb2⟩
  have HB2 := boxed (below_step HB1.out (Nat.le_refl _) hb2)
  have hc2 : ∀ j, w2.cell? ⟨w.heap.size, j, none⟩ = (#[.int .i64 0, .int .i64 0, .int .i64 0, .int .i64 0, .int .i64 0, .int .i64 0, .slice none 0 0, .bool false] : Array Value)[j]? := by
    intro j
    rw [hb2.cell (p := ⟨w.heap.size, j, none⟩) hsz]
    exact hc j
  have hz2 : ∀ j, w2.frozen? ⟨w.heap.size, j, none⟩ = false := by
    intro j
    rw [hb2.frozen (p := ⟨w.heap.size, j, none⟩) hsz]
    exact hz j
  have HG1 := boxed hg1
  have HG2 := boxed hg2
  have HG3 := boxed hg3
  clear hb2 hc hz hap hg1 hg2 hg3
  go_wp2
  refine bodyPost_ret (v := .agg #[.int .i64 g.h, .int .i64 g.sp, .int .i64 g.st, .int .i64 g.sh, .int .i64 g.hy, .int .i64 g.ot, .slice g.ra g.rn g.rc, .bool g.keep]) (by simp [results, Try.results20, go_sem, hc2]) rfl ⟨g, rfl, HG1.out, ?_, HG3.out, ?_⟩
  · refine HG2.out.keep (fun b i u hs hc => ⟨?_, ?_⟩)
    · have : w1.heap.size ≤ b := hs
      show w.heap.size ≤ b
      omega
    · have : w1.heap.size ≤ b := hs
      repeat (rw [World.cell?_setCell_far _ _ _ _ (by show w.heap.size ≠ b; omega)])
      exact hc
  · have hb := HB2.out
    go_grown

set_option maxRecDepth 100000 in
theorem table_any (S : Nat → Prop) (ao : Option Addr) (n cap : Nat) (F : Nat → Sty) (w : World) (hF : StysAt S w ao n F) :
    Calls Try.prog 13 #[.slice ao n cap] w fun e w' => ((ckc F n ≠ 0 ∧ e = .returned (.pointer none)) ∨
      (ckc F n = 0 ∧ ∃ tb G, e = .returned (.pointer (some ⟨tb, 0, none⟩)) ∧ TabAt w.heap.size w' tb n G ∧ ∀ i, i < n → Like (F i) (G i))) ∧ Below w.heap.size w w' := by
  have hck := refcheck_any S ao n cap F w hF
  have hnw := fun w' (hb : Below w.heap.size w w') => new_any S ao n cap F w' (hF.below hb)
  clear hF
  by_cases hz : ckc F n = 0
  · have HZ := boxed hz
    rw [hz] at hck
    clear hz
    go_enter Try.func13, Try.ntmps13
    go_wp2_with fail
    refine hck.mono ?_
    rintro e w1 ⟨rfl, hb1⟩
    have HB1 := boxed hb1
    clear hb1 hck
    go_wp2_with fail
    refine (hnw _ HB1.out).mono ?_
    rintro e w2 ⟨hor, hb2⟩
    have HB2 := boxed (below_step HB1.out (Nat.le_refl _) hb2)
    clear hb2 hnw
    rcases hor with ⟨hne, -⟩ | ⟨-, tb, G, rfl, hT, hL⟩
    · exact absurd HZ.out hne
    · have HT := boxed (hT.mono HB1.out.size)
      have HL := boxed hL
      clear hT hL
      go_wp2
      go_ret
      exact ⟨Or.inr ⟨HZ.out, tb, G, rfl, HT.out, HL.out⟩, HB2.out⟩
  · have HZ := boxed hz
    have tz : (ckc F n != 0) = true := by simpa using hz
    clear hz hnw
    generalize ckc F n = C at *
    go_enter Try.func13, Try.ntmps13
    go_wp2_with fail
    refine hck.mono ?_
    rintro e w1 ⟨rfl, hb1⟩
    have HB1 := boxed hb1
    clear hb1 hck
    go_wp2
    go_ret
    exact ⟨Or.inl ⟨HZ.out, rfl⟩, HB1.out⟩
end Go.Proofs.Ytjfcpbnipkkjbaa
