/-
  The contract of the library's WriteString at this program: one application of what the library proves once for every program; and what the program's Text answers: the lines' texts, one behind the other.
-/
import Derived.Shelf.Strings.Builder2
import Derived.Test.YtcjcdpfjnomehaaGreatPx27
import Derived.Test.YtcjcdpfjnomehaaGreatPx22
import Derived.Test.YtcjcdpfjnomehaaGreatPx6
namespace Go.Proofs
open Go.Shelf
def Tryz.lays166_ren : Go.Shelf.Ren := ⟨fun | 166 => 76 | 240 => 121 | 276 => 163 | n => n, fun | 70 => 131 | 3 => 3 | 0 => 0 | 4 => 4 | 9 => 9 | 20 => 20 | 72 => 134 | 37 => 132 | 75 => 136 | 80 => 139 | 164 => 237 | 5 => 5 | n => n, fun | n => n⟩
theorem Tryz.lays166 : Go.Proofs.Lays.n166 Tryz.prog Tryz.lays166_ren := {
  mixed := by kernel_rfl
  f166 := Tryz.func76.trans (congrArg some (by kernel_rfl))
  f240 := Tryz.func121.trans (congrArg some (by kernel_rfl))
  f276 := Tryz.func163.trans (congrArg some (by kernel_rfl))
  t0 := Tryz.underlying0
  a0 := Tryz.isAgg0
  z0 := Tryz.sizeOf0
  v0 := Tryz.zeroValue0
  t3 := Tryz.underlying3
  a3 := Tryz.isAgg3
  z3 := Tryz.sizeOf3
  v3 := Tryz.zeroValue3
  t4 := Tryz.underlying4
  a4 := Tryz.isAgg4
  z4 := Tryz.sizeOf4
  v4 := Tryz.zeroValue4
  t9 := Tryz.underlying9
  a9 := Tryz.isAgg9
  z9 := Tryz.sizeOf9
  v9 := Tryz.zeroValue9
  t20 := Tryz.underlying20
  a20 := Tryz.isAgg20
  z20 := Tryz.sizeOf20
  v20 := Tryz.zeroValue20
  t37 := Tryz.underlying132
  a37 := Tryz.isAgg132
  z37 := Tryz.sizeOf132
  v37 := Tryz.zeroValue132
  t70 := Tryz.underlying131
  a70 := Tryz.isAgg131
  z70 := Tryz.sizeOf131
  v70 := Tryz.zeroValue131
  t72 := Tryz.underlying134
  a72 := Tryz.isAgg134
  z72 := Tryz.sizeOf134
  v72 := Tryz.zeroValue134
  t75 := Tryz.underlying136
  a75 := Tryz.isAgg136
  z75 := Tryz.sizeOf136
  v75 := Tryz.zeroValue136
  t164 := Tryz.underlying237
  a164 := Tryz.isAgg237
  z164 := Tryz.sizeOf237
  v164 := Tryz.zeroValue237 }
theorem Tryz.Builder_Extra_166 : Builder.Extra Tryz.prog Tryz.lays166_ren := {
  sizeBuilder := by kernel_rfl
  liesBuilder := by kernel_rfl
  t5 := Tryz.underlying5
  a5 := Tryz.isAgg5
  z5 := Tryz.sizeOf5
  v5 := Tryz.zeroValue5
  infoByte := by kernel_rfl
  cellsByte := by kernel_rfl
  sizeByte := by kernel_rfl
  neB5 := by decide }
open Go.RowKit in
theorem Tryz.Builder_WriteString (B b : Nat) (bs : List Value) (s : ByteArray) (w : World) (h : Lib.IsBuilder 134 5 B b bs w) (hlen : bs.length + s.size ≤ 140737488355328) (hBw : B ≤ w.heap.size) :
    Calls Tryz.prog 76 #[.pointer (some ⟨b, 0, none⟩), .string s] w fun e w' => e = .returned (.tuple #[.int .i64 s.size, .nilIface]) ∧ (Lib.BuilderAt 134 5 B b (.pointer (some ⟨b, 0, none⟩)) (bs ++ Lib.strCells s) w' ∧ Below B w w') := Any.Builder_WriteString Tryz.lays166 Tryz.Builder_Extra_166 B b bs s w h hlen hBw
end Go.Proofs
namespace Go.Proofs.YtcjcdpfjnomehaaGreat
open Go.RowKit Go.Shelf
set_option linter.unusedSimpArgs false
set_option linter.unusedVariables false
def catT (F : Nat → Lne) : Nat → List UInt8
  | 0 => []
  | k + 1 => catT F k ++ (F k).tx.data.toList
theorem catT_len (F : Nat → Lne) (n M : Nat) (h : ∀ i, i < n → (F i).tx.size ≤ M) (k : Nat) (hk : k ≤ n) : (catT F k).length ≤ k * M := by
  induction k with
  | zero => simp [catT]
  | succ k ih =>
    have h1 := ih (by omega)
    have h2 := h k (by omega)
    have h3 : (F k).tx.data.toList.length = (F k).tx.size := by rw [Array.length_toList]; rfl
    rw [catT, List.length_append, h3, Nat.succ_mul]
    omega
theorem isBuilder_below {T B b : Nat} {bs : List Value} {W W' : World} (h : Lib.IsBuilder T 5 B b bs W) (hb : Below W.heap.size W W') : Lib.IsBuilder T 5 B b bs W' := by
  have key : ∀ p, Lib.BuilderAt T 5 B b p bs W → Lib.BuilderAt T 5 B b p bs W' := by
    rintro p ⟨hB, v, hh, hown, hne⟩
    exact ⟨hB, v, (hb.block b (Array.getElem?_eq_some_iff.1 hh).1).trans hh, owns_below hown hb, hne⟩
  rcases h with h | h
  · exact .inl (key _ h)
  · exact .inr (key _ h)
set_option maxRecDepth 100000 in
set_option maxHeartbeats 4000000 in
theorem text10_any (S : Nat → Prop) (ao : Option Addr) (n c : Nat) (F : Nat → Lne) (w : World) (h : LnsAt S w ao n F) (hn : n ≤ 100000) (hs : ∀ i, i < n → (F i).tx.size ≤ 65536) :
    Calls Tryz.prog 25 #[.slice ao n c] w fun e w' => e = .returned (.string ⟨(catT F n).toArray⟩) ∧ Below w.heap.size w w' := by
  have HH := boxed h
  have HC0 : Box (catT F 0 = []) := boxed rfl
  have HCS : Box (∀ k, Lib.byteCells (catT F (k + 1)) = Lib.byteCells (catT F k) ++ Lib.strCells (F k).tx) := boxed (fun k => by rw [catT, Lib.byteCells_append]; rfl)
  have HCL := boxed (fun k hk => catT_len F n 65536 hs k hk)
  have HSz := boxed hs
  clear h hs
  go_enter Tryz.func25, Tryz.ntmps25
  go_wp2_with fail
  go_loopw [5, 8] (fun _ vk wr => ∃ k : Nat, k ≤ n ∧ vk = .int .i64 (k : Nat) ∧ Box (Lib.IsBuilder 134 5 w.heap.size w.heap.size (Lib.byteCells (catT F k)) wr) ∧ Box (Below w.heap.size w wr)) (fun _ vk _ => n - (intOf vk).toNat)
  case atStart =>
    refine ⟨0, Nat.zero_le _, rfl, boxed (.inl ⟨Nat.le_refl _, .slice none 0 0, ?_, ?_, by simp [Value.ownBlock]⟩), boxed ((Below.refl _ _).alloc (Nat.le_refl _) _)⟩
    · exact heap_alloc_new w _
    · rw [HC0.out]; exact World.ownsRow_nil _ _ _ _
  case round =>
    obtain ⟨k, hk, rfl, HI, HB⟩ := hrel
    by_cases hlt : k < n
    · obtain ⟨-, b, off, e, -, c0, c1, c2, c3, c4, c5, c6, c7, c8⟩ := (HH.out.below HB.out) k hlt
      subst e
      have t9 : decide ((k : Int) < (n : Int)) = true := decide_eq_true (by omega)
      have hlt2 : (k : Int) < (n : Int) := by omega
      have hsz := HSz.out k hlt
      have hcl := HCL.out k (by omega)
      have HNx := boxed (HCS.out k)
      have HLb := boxed (Lib.byteCells_length (catT F k))
      generalize F k = x at *
      have hba := (Below.refl wr.heap.size wr).alloc (Nat.le_refl _) (.cells #[.string x.tx, .slice x.ra x.rn x.rc, .int .i64 x.num, .int .i64 x.den, .int .i64 x.h, .bool x.hy, .int .i64 x.y, .bool x.bg, .bool x.en] 59)
      have hz : w.heap.size ≤ wr.heap.size := HB.out.size
      have hws := Tryz.Builder_WriteString w.heap.size w.heap.size _ x.tx _ (isBuilder_below HI.out hba) (by rw [HLb.out]; omega) (by simp; omega)
      have HB2 := boxed (HB.out.alloc hz (.cells #[.string x.tx, .slice x.ra x.rn x.rc, .int .i64 x.num, .int .i64 x.den, .int .i64 x.h, .bool x.hy, .int .i64 x.y, .bool x.bg, .bool x.en] 59))
      have HWS := boxed hws
      clear hba hws
      go_wp2_with fail
      refine HWS.out.mono ?_
      rintro e w3 ⟨rfl, hI3, hb3⟩
      have HI3 : Box (Lib.IsBuilder 134 5 w.heap.size w.heap.size (Lib.byteCells (catT F (k + 1))) w3) := boxed (by rw [HNx.out]; exact .inr hI3)
      have HB3 := boxed (HB2.out.trans hb3)
      clear hI3 hb3
      go_wp2_with fail
      go_roundw
      case rel => exact ⟨k + 1, by omega, by go_num, HI3, HB3⟩
      case measure => simp [intOf]; omega
    · obtain rfl : n = k := by omega
      have t9 : decide ((n : Int) < (n : Int)) = false := decide_eq_false (by omega)
      have hst := Tryz.Builder_String_any w.heap.size w.heap.size (catT F n) wr HI.out HB.out.size
      go_wp2_with fail
      refine hst.mono ?_
      rintro e w3 ⟨rfl, hb3⟩
      have HB3 := boxed (HB.out.trans hb3)
      clear hb3 hst
      go_wp2_with fail
      go_ret
      exact ⟨rfl, HB3.out⟩
end Go.Proofs.YtcjcdpfjnomehaaGreat
