/-
  Keys, and the number that is made of them: plain words; what the program's mix, mixText, mixRuns and Hash answer.
-/
import Derived.Test.YtmnnmnggakbipaaOc
import Derived.Laws.BitsLemmas
namespace Go.Proofs.Ytmnnmnggakbipaa
open Go.RowKit
set_option linter.unusedSimpArgs false
set_option linter.unusedVariables false

/-- Settings. -/
structure Stg where
  t : Int
  l : Int
  a : Int
  d : Int
  z : Int
  o : Int
  i : Int
/-- A key, as what it says. -/
structure Ky where
  tx : ByteArray
  sl : List Int
  ta : Int
  wd : Int
  s : Stg
/-- A key as it is handed on. -/
structure Kv where
  tx : ByteArray
  ra : Option Addr
  rn : Nat
  rc : Nat
  ta : Int
  wd : Int
  s : Stg
  L : Nat → Int
  Y : Nat → Int
def Kv.ky (k : Kv) : Ky := ⟨k.tx, exr k.L k.Y k.rn, k.ta, k.wd, k.s⟩
def Kv.val (k : Kv) : Value := .agg #[.string k.tx, .slice k.ra k.rn k.rc, .int .i64 k.ta, .int .i64 k.wd, .int .i64 k.s.t, .int .i64 k.s.l, .int .i64 k.s.a, .int .i64 k.s.d, .int .i64 k.s.z, .int .i64 k.s.o, .int .i64 k.s.i]
structure StgOk (s : Stg) : Prop where
  t : I64 s.t
  l : I64 s.l
  a : I64 s.a
  d : I64 s.d
  z : I64 s.z
  o : I64 s.o
  i : I64 s.i
structure KvOk (k : Kv) : Prop where
  tx : k.tx.size ≤ 140737488351232
  rn : k.rn ≤ maxLen ∧ k.rn ≤ k.rc
  ta : I64 k.ta
  wd : I64 k.wd
  s : StgOk k.s
def U64 (n : Int) : Prop := 0 ≤ n ∧ n < 18446744073709551616

/-- One more number is taken in. -/
def mx (h n : Int) : Int := bits .xor .u64 (IntKind.u64.wrap (bits .xor .u64 h n * 11400714819323198485)) (IntKind.u64.wrap (bits .xor .u64 h n * 11400714819323198485) / 4294967296)
theorem wrap_U64 (n : Int) : U64 (IntKind.u64.wrap n) := by unfold U64; rw [IntKind.wrap_u64]; omega
theorem mx_U64 (h n : Int) : U64 (mx h n) := by
  unfold mx bits
  exact wrap_U64 _
set_option maxRecDepth 100000 in
theorem mix_any (h n : Int) (hh : U64 h) (hn : U64 n) (w : World) : Calls Try.prog 41 #[.int .u64 h, .int .u64 n] w fun e w' => e = .returned (.int .u64 (mx h n)) ∧ w' = w := by
  obtain ⟨h1, h2⟩ := hh
  obtain ⟨n1, n2⟩ := hn
  go_enter Try.func41, Try.ntmps41
  go_wp2
  go_ret
  exact ⟨rfl, rfl⟩

/-- A text's bytes are taken in. -/
def bt (s : ByteArray) (k : Nat) : Int := if h : k < s.size then (s[k].toNat : Int) else 0
theorem bt_at (s : ByteArray) (k : Nat) (h : k < s.size) : ((s[k].toNat : Nat) : Int) = bt s k := by unfold bt; rw [dif_pos h]
def mtb (h : Int) (s : ByteArray) : Nat → Int
  | 0 => h
  | k + 1 => mx (mtb h s k) (IntKind.u64.wrap (bt s k))
def mt (h : Int) (s : ByteArray) : Int := mx (mtb h s s.size) (s.size : Nat)
theorem mtb_U64 (h : Int) (hh : U64 h) (s : ByteArray) (k : Nat) : U64 (mtb h s k) := by
  cases k with
  | zero => exact hh
  | succ k => exact mx_U64 _ _
set_option maxRecDepth 100000 in
set_option maxHeartbeats 2000000 in
theorem mixText_any (h : Int) (s : ByteArray) (hh : U64 h) (hs : s.size ≤ 140737488351232) (w : World) : Calls Try.prog 40 #[.int .u64 h, .string s] w fun e w' => e = .returned (.int .u64 (mt h s)) ∧ w' = w := by
  go_enter Try.func40, Try.ntmps40
  go_wp2_with fail
  go_loopw [0, 8] (fun vh vi wr => ∃ i : Nat, i ≤ s.size ∧ vi = .int .i64 (i : Nat) ∧ vh = .int .u64 (mtb h s i) ∧ Box (w = wr)) (fun _ vi _ => s.size - (intOf vi).toNat)
  case atStart => exact ⟨0, Nat.zero_le _, rfl, rfl, boxed rfl⟩
  case round =>
    obtain ⟨i, hi, rfl, rfl, ⟨hwr⟩⟩ := hrel
    subst wr
    have hU := mtb_U64 h hh s i
    by_cases hlt : i < s.size
    · have hb := bt_at s i hlt
      go_wp2_with fail
      refine (mix_any _ _ hU (wrap_U64 _) _).mono ?_
      rintro e w' ⟨rfl, hw'⟩
      subst w'
      go_wp2_with fail
      go_roundw
      case rel => exact ⟨i + 1, by omega, by go_num, rfl, boxed (by trivial)⟩
      case measure => simp [intOf]; omega
    · obtain rfl : i = s.size := by omega
      have hw9 : IntKind.u64.wrap ((s.size : Nat) : Int) = ((s.size : Nat) : Int) := by rw [IntKind.wrap_u64]; omega
      go_wp2_with fail
      refine (mix_any (mtb h s s.size) ((s.size : Nat) : Int) hU (by unfold U64; omega) _).mono ?_
      rintro e w' ⟨rfl, hw'⟩
      subst w'
      go_wp2_with fail
      go_ret
      exact ⟨rfl, rfl⟩

end Go.Proofs.Ytmnnmnggakbipaa
