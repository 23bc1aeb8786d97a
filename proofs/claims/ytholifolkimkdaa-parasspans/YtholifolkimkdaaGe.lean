/-
  What the program's Split answers: the sizes of a text's paragraphs, and whether it is open.
-/
import Derived.Test.YtholifolkimkdaaGd
import Derived.Lib.Bytealg
import Derived.Lib.IndexBytes
namespace Go.Proofs.Ytholifolkimkdaa
open Go.RowKit
set_option linter.unusedSimpArgs false
set_option linter.unusedVariables false

/-- The line ends of bytes. -/
def lnl (l : List UInt8) : List Bool := l.map (· == 10)
theorem lnl_len (l : List UInt8) : (lnl l).length = l.length := by simp [lnl]
/-- The line ends of a text. -/
def ln (s : ByteArray) : List Bool := lnl s.data.toList
theorem ln_len (s : ByteArray) : (ln s).length = s.size := by simp [ln, lnl]
theorem idx_none (l : List UInt8) (h : Lib.indexByte l 10 = -1) (hl : l ≠ []) : sp (lnl l) = [l.length] ∧ op (lnl l) = true := by
  induction l with
  | nil => exact absurd rfl hl
  | cons c r ih =>
    unfold Lib.indexByte at h
    by_cases hc : (c == 10) = true
    · rw [if_pos hc] at h; omega
    · rw [if_neg hc] at h
      have hc' : (c == 10) = false := by simpa using hc
      have e : lnl (c :: r) = false :: lnl r := by simp [lnl, hc']
      have hr : Lib.indexByte r 10 = -1 := by
        by_cases d : (Lib.indexByte r 10 == -1) = true
        · simpa using d
        · rw [if_neg d] at h
          have := Lib.indexByte_ge r 10
          omega
      rw [e]
      by_cases hn : r = []
      · subst hn; exact ⟨rfl, rfl⟩
      · obtain ⟨i1, i2⟩ := ih hr hn
        refine ⟨?_, ?_⟩
        · simp [sp, i1, bump]
        · rw [op_cons _ _ (by simpa [lnl] using hn)]; exact i2
theorem idx_some (l : List UInt8) (k : Nat) (h : Lib.indexByte l 10 = (k : Nat)) : k < l.length ∧ sp (lnl l) = (k + 1) :: sp (lnl (l.drop (k + 1))) ∧ op (lnl l) = op (lnl (l.drop (k + 1))) := by
  induction l generalizing k with
  | nil => simp [Lib.indexByte] at h
  | cons c r ih =>
    unfold Lib.indexByte at h
    by_cases hc : (c == 10) = true
    · rw [if_pos hc] at h
      obtain rfl : k = 0 := by omega
      have e : lnl (c :: r) = true :: lnl r := by simp only [lnl, List.map_cons, hc]
      rw [e]
      refine ⟨by simp, rfl, ?_⟩
      cases r with
      | nil => rfl
      | cons d r => rfl
    · rw [if_neg hc] at h
      have hc' : (c == 10) = false := by simpa using hc
      have e : lnl (c :: r) = false :: lnl r := by simp only [lnl, List.map_cons, hc']
      by_cases d : (Lib.indexByte r 10 == -1) = true
      · rw [if_pos d] at h; omega
      · rw [if_neg d] at h
        obtain ⟨j, rfl⟩ : ∃ j, k = j + 1 := ⟨k - 1, by
          have := Lib.indexByte_ge r 10
          have : Lib.indexByte r 10 ≠ -1 := by simpa using d
          omega⟩
        obtain ⟨i1, i2, i3⟩ := ih j (by omega)
        rw [e]
        refine ⟨by simpa using i1, ?_, ?_⟩
        · simp [sp, i2, bump]
        · rw [op_cons _ _ (by intro h0; have := congrArg List.length h0; rw [lnl_len] at this; simp at this; subst this; simp at i1), i3]; rfl

theorem ne_isEmpty (r : ByteArray) (h : r.size ≠ 0) : r.toList.isEmpty = false := by
  rw [ByteArray.toList_eq]
  cases hc : r.data.toList with
  | nil => exact absurd (by have := congrArg List.length hc; simpa using this) h
  | cons a t => rfl
set_option maxRecDepth 100000 in
theorem index_any (s : ByteArray) (w : World) : Calls Try.prog 31 #[.string s, .int .u8 10] w fun e w' => e = .returned (.int .i64 (Lib.indexByte s.data.toList 10)) ∧ w' = w := by
  have h1 : Calls Try.prog 39 #[.string s, .int .u8 10] w fun e w' => e = .returned (.int .i64 (Lib.indexByte s.data.toList 10)) ∧ w' = w := by
    go_enter Try.func39, Try.ntmps39
    go_wp2
    rw [run_callFunc_extern Try.func42 (by kernel_rfl) (by kernel_rfl) (by kernel_rfl) (e := Extern.BytealgIndexByte.indexByte) (by kernel_rfl), Lib.run_indexByteString]
    simp only [Result.andThen]
    rw [Oper.upon_value]
    go_wp2
    go_ret
    exact ⟨rfl, rfl⟩
  go_enter Try.func31, Try.ntmps31
  go_wp2_with (go_at_call 39; refine h1.mono ?_; rintro e w1 ⟨rfl, hw'⟩; subst w1)
  go_ret
  exact ⟨rfl, rfl⟩

theorem ncs_snoc (L : List Nat) (n : Nat) : ncs (L ++ [n]) = ncs L ++ [.int .i64 (n : Nat)] := by simp [ncs]
/-- What is appended to an owned row leaves what was there. -/
theorem grown_any {w w' : World} {B e size n : Nat} {v : Value} {xs : List Value} {o : Obj} (h : w.ownsRow B e size v n xs) (hB : B ≤ w.heap.size) (hg : (w.alloc o).grownBy w' v.ownBlock) : Below B w w' := by
  refine ((Below.refl B w).alloc hB o).grown hg (by simp; omega) ?_
  intro r hr
  exact (h.lt r hr).1
set_option maxRecDepth 100000 in
set_option maxHeartbeats 2000000 in
theorem split_any (s : ByteArray) (w : World) (hs : s.size ≤ 1048576) : Calls Try.prog 13 #[.string s] w fun e w' => ∃ v, e = .returned (.tuple #[v, .bool (op (ln s))]) ∧ w'.ownsRow w.heap.size 3 1 v (sp (ln s)).length (ncs (sp (ln s))) ∧ Below w.heap.size w w' := by
  obtain ⟨i0, hi, hz0, hz1, hz2⟩ := info_parts info_int
  have hlen := sp_len (ln s)
  rw [ln_len] at hlen
  generalize hB : w.heap.size = B at *
  go_enter Try.func13, Try.ntmps13
  go_wp2_with fail
  go_loopw [0, 4] (fun sv zv wr => ∃ (r : ByteArray) (L : List Nat), sv = .string r ∧ r.size ≤ 1048576 ∧ Box (sp (ln s) = L ++ sp (ln r) ∧ op (ln s) = op (ln r)) ∧ Box (wr.ownsRow B 3 1 zv L.length (ncs L)) ∧ Box (Below B w wr)) (fun sv _ _ => match sv with | .string r => r.size | _ => 0)
  case atStart => exact ⟨s, [], rfl, hs, boxed ⟨rfl, rfl⟩, boxed (World.ownsRow_nil _ _ _ _), boxed (Below.refl _ _)⟩
  case round =>
    obtain ⟨r, L, rfl, hr, HP, HO, HB⟩ := hrel
    by_cases hz : r.size = 0
    · obtain rfl : r = ⟨#[]⟩ := by
        obtain ⟨d⟩ := r
        have : d = #[] := Array.eq_empty_of_size_eq_zero hz
        rw [this]
      have HQ : Box (sp (ln s) = L ∧ op (ln s) = false) := boxed (by
        obtain ⟨h1, h2⟩ := HP.out
        refine ⟨?_, ?_⟩
        · rw [h1]; simp [ln, lnl, sp]
        · rw [h2]; rfl)
      go_wp2
      go_ret2
      exact ⟨u4, by rw [HQ.out.2]; rfl, by rw [HQ.out.1]; exact HO.out, HB.out⟩
    · have hx := fun w => index_any r w
      have hE := ne_isEmpty r hz
      by_cases hk : Lib.indexByte r.data.toList 10 = -1
      · obtain ⟨k1, k2⟩ := idx_none r.data.toList hk (fun h0 => hz (by have := congrArg List.length h0; simpa using this))
        rw [hk] at hx
        have HQ : Box (sp (ln s) = L ++ [r.size] ∧ op (ln s) = true) := boxed (by
          obtain ⟨h1, h2⟩ := HP.out
          refine ⟨?_, ?_⟩
          · rw [h1]; unfold ln; rw [k1]; simp
          · rw [h2]; exact k2)
        have HLL : L.length ≤ 1048576 := by
          have := congrArg List.length HQ.out.1
          rw [List.length_append] at this
          simp at this; omega
        have hbs : B ≤ wr.heap.size := by have := HB.out.size; omega
        clear k1 k2 hk
        have hown := HO.out
        go_wp2_with (first | (go_at_call 31; refine (hx _).mono ?_; rintro e w1 ⟨rfl, hw'⟩; subst w1) | (at_builtin; refine wpList_append_own _ rfl _ _ 34 rfl B 3 i0 _ 1 8 Try.underlying34 hi hz0 hz1 hz2 rfl (by decide) _ _ _ rfl (hown.alloc _) ⟨wr.heap.size, 0, none⟩ 1 1 [.int .i64 (r.size : Nat)] rfl rfl ?c1 ?c2 ?c3 ?c4 ?c5 ?_))
        case c1 =>
          intro j u hj
          match j, hj with
          | 0, hj => simp at hj; subst hj; simp [Addr.add]
        case c2 => intro u hu; simp at hu; subst hu; rfl
        case c3 => unfold maxLen; omega
        case c4 => omega
        case c5 => simp; omega
        intro v' w6 hown6 hgrow6 _
        have HO6 := boxed hown6
        have HG6 := boxed (HB.out.trans (grown_any hown hbs hgrow6))
        clear hown6 hgrow6 hown
        go_wp2
        go_ret2
        exact ⟨v', by rw [HQ.out.2]; rfl, by rw [HQ.out.1, ncs_snoc, List.length_append]; exact HO6.out, HG6.out⟩
      · obtain ⟨k, hk'⟩ : ∃ k : Nat, Lib.indexByte r.data.toList 10 = (k : Nat) := ⟨(Lib.indexByte r.data.toList 10).toNat, by have := Lib.indexByte_ge r.data.toList 10; omega⟩
        obtain ⟨k1, k2, k3⟩ := idx_some r.data.toList k hk'
        rw [hk'] at hx
        have hkr : k < r.size := by simpa using k1
        have HQ : Box (sp (ln s) = (L ++ [k + 1]) ++ sp (ln (r.extract (k + 1) r.size)) ∧ op (ln s) = op (ln (r.extract (k + 1) r.size))) := boxed (by
          obtain ⟨h1, h2⟩ := HP.out
          have e : ln (r.extract (k + 1) r.size) = lnl (r.data.toList.drop (k + 1)) := by unfold ln; rw [Lib.extract_to_end]
          rw [e]
          refine ⟨?_, ?_⟩
          · rw [h1]; unfold ln; rw [k2]; simp
          · rw [h2]; exact k3)
        have HLL : L.length ≤ 1048576 := by
          have := congrArg List.length HQ.out.1
          rw [List.length_append, List.length_append] at this
          simp at this; omega
        have hbs : B ≤ wr.heap.size := by have := HB.out.size; omega
        clear k1 k2 k3 hk hk'
        have hown := HO.out
        go_wp2_with (first | (go_at_call 31; refine (hx _).mono ?_; rintro e w1 ⟨rfl, hw'⟩; subst w1) | (at_builtin; refine wpList_append_own _ rfl _ _ 34 rfl B 3 i0 _ 1 8 Try.underlying34 hi hz0 hz1 hz2 rfl (by decide) _ _ _ rfl (hown.alloc _) ⟨wr.heap.size, 0, none⟩ 1 1 [.int .i64 (k + 1 : Nat)] rfl rfl ?c1 ?c2 ?c3 ?c4 ?c5 ?_))
        case c1 =>
          intro j u hj
          match j, hj with
          | 0, hj => simp at hj; subst hj; simp [Addr.add]
        case c2 => intro u hu; simp at hu; subst hu; rfl
        case c3 => unfold maxLen; omega
        case c4 => omega
        case c5 => simp; omega
        intro v' w6 hown6 hgrow6 _
        have HO6 := boxed hown6
        have HG6 := boxed (HB.out.trans (grown_any hown hbs hgrow6))
        clear hown6 hgrow6 hown
        go_wp2_with fail
        go_roundw
        case rel => exact ⟨r.extract (k + 1) r.size, L ++ [k + 1], rfl, by rw [ByteArray.size_extract]; omega, HQ, boxed (by rw [ncs_snoc, List.length_append]; exact HO6.out), HG6⟩
        case measure => simp; omega
end Go.Proofs.Ytholifolkimkdaa
