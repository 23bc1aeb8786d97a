/-
  What a table's Height, Hyphen, Keep, Space and Style answer; and what the law's table does.
-/
import Derived.Test.YtcdcpmcjlchfgaaMh
namespace Go.Proofs.Ytcdcpmcjlchfgaa
open Go.RowKit
set_option linter.unusedSimpArgs false
set_option linter.unusedVariables false

theorem TabAt.mono {B C : Nat} {w : World} {tb n : Nat} {G : Nat → Sty} (h : TabAt B w tb n G) (hC : C ≤ B) : TabAt C w tb n G := by
  obtain ⟨h1, bs, h2, h3⟩ := h
  exact ⟨⟨Nat.le_trans hC h1.1, h1.2⟩, bs, h2, h3.keep (fun b i u hs hc => ⟨Nat.le_trans hC hs, hc⟩)⟩
theorem TabAt.of {B : Nat} {w : World} {tb n : Nat} {G : Nat → Sty} (h : TabAt B w tb n G) (a : Int) : StyOk (ofS G n a) ∧ RgsAt (fun b => B ≤ b) w (ofS G n a).ra (ofS G n a).rn (ofS G n a).R := by
  obtain ⟨h1, bs, h2, h3⟩ := h
  exact ofS_at h3 a

set_option maxRecDepth 100000 in
theorem hyphen_any {B : Nat} {w : World} {tb n : Nat} {G : Nat → Sty} (h : TabAt B w tb n G) (a : Int) :
    Calls Try.prog 45 #[.pointer (some ⟨tb, 0, none⟩), .int .i64 a] w fun e w' => e = .returned (.int .i64 (ofS G n a).hy) ∧ Below w.heap.size w w' := by
  have hl := look_any h a
  have hf := fld4
  unfold Sty.val at hl
  clear h
  generalize ofS G n a = s at *
  go_enter Try.func45, Try.ntmps45
  go_wp2_with (go_at_call 64; refine hl.mono ?_; rintro e w1 ⟨rfl, hb1⟩; have HB := boxed hb1; clear hb1)
  go_ret
  exact ⟨rfl, HB.out⟩
set_option maxRecDepth 100000 in
theorem space_any {B : Nat} {w : World} {tb n : Nat} {G : Nat → Sty} (h : TabAt B w tb n G) (a : Int) :
    Calls Try.prog 72 #[.pointer (some ⟨tb, 0, none⟩), .int .i64 a] w fun e w' => e = .returned (.tuple #[.int .i64 (ofS G n a).sp, .int .i64 (ofS G n a).st, .int .i64 (ofS G n a).sh]) ∧ Below w.heap.size w w' := by
  have hl := look_any h a
  unfold Sty.val at hl
  clear h
  generalize ofS G n a = s at *
  go_enter Try.func72, Try.ntmps72
  go_wp2_with (go_at_call 64; refine hl.mono ?_; rintro e w1 ⟨rfl, hb1⟩; have HB := boxed hb1; clear hb1)
  go_quiet (fail)
  go_wp2
  refine bodyPost_ret (v := .tuple #[.int .i64 s.sp, .int .i64 s.st, .int .i64 s.sh]) (by simp [results, Try.results72, go_sem]) rfl ⟨rfl, ?_⟩
  exact (HB.out.alloc HB.out.size _).trans (bel_drewN _ _ _)
set_option maxRecDepth 100000 in
theorem table_any (S : Nat → Prop) (ao : Option Addr) (n cap : Nat) (F : Nat → Sty) (w : World) (hF : StysAt S w ao n F) :
    Calls Try.prog 17 #[.slice ao n cap] w fun e w' => ((ckc F n ≠ 0 ∧ e = .returned (.pointer none)) ∨
      (ckc F n = 0 ∧ ∃ tb G, e = .returned (.pointer (some ⟨tb, 0, none⟩)) ∧ TabAt w.heap.size w' tb n G ∧ ∀ i, i < n → Like (F i) (G i))) ∧ Below w.heap.size w w' := by
  have hck := refcheck_any S ao n cap F w hF
  have hnw := fun w' (hb : Below w.heap.size w w') => new_any S ao n cap F w' (hF.below hb)
  clear hF
  by_cases hz : ckc F n = 0
  · have HZ := boxed hz
    rw [hz] at hck
    clear hz
    go_enter Try.func17, Try.ntmps17
    go_wp2_with fail
    refine hck.mono ?_
    rintro e w1 ⟨rfl, hb1⟩
    have HB1 := boxed hb1
    clear hb1 hck
    go_wp2_with fail
    refine (hnw _ HB1.out).mono ?_
    rintro e w2 ⟨hor, hb2⟩
    have HB2 := boxed (below_step HB1.out (Nat.le_refl _) hb2)
    clear hb2 hnw
    rcases hor with ⟨hne, -⟩ | ⟨-, tb, G, rfl, hT, hL⟩
    · exact absurd HZ.out hne
    · have HT := boxed (hT.mono HB1.out.size)
      have HL := boxed hL
      clear hT hL
      go_wp2
      go_ret
      exact ⟨Or.inr ⟨HZ.out, tb, G, rfl, HT.out, HL.out⟩, HB2.out⟩
  · have HZ := boxed hz
    have tz : (ckc F n != 0) = true := by simpa using hz
    clear hz hnw
    generalize ckc F n = C at *
    go_enter Try.func17, Try.ntmps17
    go_wp2_with fail
    refine hck.mono ?_
    rintro e w1 ⟨rfl, hb1⟩
    have HB1 := boxed hb1
    clear hb1 hck
    go_wp2
    go_ret
    exact ⟨Or.inl ⟨HZ.out, rfl⟩, HB1.out⟩
end Go.Proofs.Ytcdcpmcjlchfgaa
