/-
  Items as they are handed in: what the reading of such a slice gives.
-/
import Derived.Deep.Slices
import Derived.SizedLaws
import Derived.OpenShut
import Derived.Test.YtcjcdpfjnomehaaGreatPk6
namespace Go.Proofs.YtcjcdpfjnomehaaGreat
open Go.RowKit Go.Deep
set_option linter.unusedSimpArgs false
set_option linter.unusedVariables false
theorem spot_none {w : World} {a : Addr} {v : Value} (h : w.cell? a = some v) : a.spot = none := by
  cases hs : a.spot with
  | none => rfl
  | some s =>
    exfalso
    unfold World.cell? at h
    split at h
    · simp [hs] at h
    · cases h
theorem wf_i64 {n : Int} (h : (Lit.int .i64 n).wf = true) : I64 n := by
  have h' : IntKind.i64.min ≤ n ∧ n ≤ 9223372036854775807 := by simpa [Lit.wf] using h
  exact ⟨h'.1, h'.2⟩
section
variable {H : Type} {enc : TypeId × Value → H} {W : World}
end
end Go.Proofs.YtcjcdpfjnomehaaGreat

/-
  Sums, fits, settings and what a line that is to be paid for is, as they are handed in.
-/
namespace Go.Proofs.YtcjcdpfjnomehaaGreat
open Go.RowKit Go.Deep
set_option linter.unusedSimpArgs false
set_option linter.unusedVariables false
structure Stg where
  t : Int
  l : Int
  a : Int
  d : Int
  z : Int
  o : Int
  i : Int
def Stg.cells (s : Stg) : List Value := [.int .i64 s.t, .int .i64 s.l, .int .i64 s.a, .int .i64 s.d, .int .i64 s.z, .int .i64 s.o, .int .i64 s.i]
def Stg.val (s : Stg) : Value := .agg #[.int .i64 s.t, .int .i64 s.l, .int .i64 s.a, .int .i64 s.d, .int .i64 s.z, .int .i64 s.o, .int .i64 s.i]
def Ft.cells (f : Ft) : List Value := [.int .i64 f.num, .int .i64 f.den, .int .i64 f.bad, .int .i64 f.cls, .bool f.over]
section
variable {H : Type} {enc : TypeId × Value → H} {W : World}
end
end Go.Proofs.YtcjcdpfjnomehaaGreat
