/-
  What Keys answers.
-/
import Derived.Test.YtmnnmnggakbipaaQs
namespace Go.Proofs.Ytmnnmnggakbipaa
open Go.RowKit
set_option linter.unusedSimpArgs false
set_option linter.unusedVariables false

def Kv.cells (k : Kv) : List Value := [.string k.tx, .slice k.ra k.rn k.rc, .int .i64 k.ta, .int .i64 k.wd, .int .i64 k.s.t, .int .i64 k.s.l, .int .i64 k.s.a, .int .i64 k.s.d, .int .i64 k.s.z, .int .i64 k.s.o, .int .i64 k.s.i]
def kcs : List Kv → List Value
  | [] => []
  | k :: r => k.cells ++ kcs r
theorem kcs_len (l : List Kv) : (kcs l).length = l.length * 11 := by
  induction l with
  | nil => rfl
  | cons k r ih => simp [kcs, Kv.cells, ih]; omega
theorem kcs_app (l r : List Kv) : kcs (l ++ r) = kcs l ++ kcs r := by
  induction l with
  | nil => rfl
  | cons k l ih => simp [kcs, ih]
theorem kcs_get : ∀ (l : List Kv) (i : Nat) (k : Kv), l[i]? = some k → ∀ j, j < 11 → (kcs l)[i * 11 + j]? = k.cells[j]?
  | [], _, _, h, _, _ => by simp at h
  | x :: r, 0, k, h, j, hj => by
    simp at h
    subst h
    rw [kcs, List.getElem?_append_left (by simp [Kv.cells]; omega)]
    congr 1; omega
  | x :: r, i + 1, k, h, j, hj => by
    have := kcs_get r i k (by simpa using h) j hj
    rw [kcs, List.getElem?_append_right (by simp [Kv.cells]; omega), ← this]
    congr 1
    simp [Kv.cells]; omega
theorem kcell_one (k : Kv) : ∀ u ∈ k.cells, u.oneCell' = true := by
  intro u hu
  simp [Kv.cells] at hu
  rcases hu with rfl | rfl | rfl | rfl | rfl | rfl | rfl | rfl | rfl | rfl | rfl <;> rfl
theorem info_key : (Try.prog.info? 42).map (fun i => (i.zero, i.size, i.bytes)) = some (some (.agg #[.string ⟨#[]⟩, .slice none 0 0, .int .i64 0, .int .i64 0, .int .i64 0, .int .i64 0, .int .i64 0, .int .i64 0, .int .i64 0, .int .i64 0, .int .i64 0]), 11, 112) := by kernel_rfl
/-- Keys in a row of one's own. -/
structure KysAt (B : Nat) (w : World) (v : Value) (ks : List Kv) : Prop where
  row : w.ownsRow B 42 11 v ks.length (kcs ks)
  key : ∀ k ∈ ks, KvAt (fun b => B ≤ b ∧ v.ownBlock ≠ some b) w k ∧ Fits k ∧ k.rn ≤ k.rc
theorem KysAt.below {B : Nat} {w w' : World} {v : Value} {ks : List Kv} (h : KysAt B w v ks) (hb : Below w.heap.size w w') : KysAt B w' v ks :=
  ⟨owns_below h.row hb, fun k hk => ⟨(h.key k hk).1.below hb, (h.key k hk).2⟩⟩
/-- One more. -/
theorem KysAt.snoc {B : Nat} {w w1 w2 : World} {o : Obj} {v v' : Value} {ks : List Kv} {k : Kv} (h : KysAt B w v ks) (hB : B ≤ w.heap.size) (hb : Below w.heap.size w w1) (hk : KvAt (fun b => w.heap.size ≤ b) w1 k) (hf : Fits k ∧ k.rn ≤ k.rc)
    (ho : w2.ownsRow B 42 11 v' (ks.length + 1) (kcs ks ++ k.cells)) (hg : (w1.alloc o).grownBy w2 v.ownBlock) (hw : v'.ownBlock = v.ownBlock ∨ v'.ownBlock = some (w1.alloc o).heap.size) : KysAt B w2 v' (ks ++ [k]) := by
  have hvl : ∀ b, v.ownBlock = some b → b < w.heap.size := fun b hb' => (h.row.lt b hb').2
  have hkp : ∀ b i u, b < w1.heap.size → v.ownBlock ≠ some b → w1.cell? ⟨b, i, none⟩ = some u → v'.ownBlock ≠ some b ∧ w2.cell? ⟨b, i, none⟩ = some u := fun b i u hlt hne hc => by
    refine ⟨fun c => ?_, ?_⟩
    · rcases hw with e | e
      · exact hne (by rw [← e]; exact c)
      · rw [e] at c; injection c with c; simp at c; omega
    · have h1 : (w1.alloc o).cell? ⟨b, i, none⟩ = some u := hold ((Below.refl _ _).alloc (Nat.le_refl _) _) hc
      exact hg.cell h1 (fun c => hne c.symm)
  refine ⟨by rw [List.length_append, kcs_app]; simpa [kcs] using ho, fun x hx => ?_⟩
  rcases List.mem_append.1 hx with hx | hx
  · obtain ⟨k1, k2⟩ := h.key x hx
    refine ⟨P2At.keep k1 (fun b i u hs hc => ?_), k2⟩
    have hlt := World.block_lt_of_cell? w _ hc
    simp only at hlt
    have := hkp b i u (Nat.lt_of_lt_of_le hlt hb.size) hs.2 (hold hb hc)
    exact ⟨⟨hs.1, this.1⟩, this.2⟩
  · simp at hx
    subst hx
    refine ⟨P2At.keep hk (fun b i u hs hc => ?_), hf⟩
    have hlt := World.block_lt_of_cell? w1 _ hc
    simp only at hlt
    have := hkp b i u hlt (fun c => by have := hvl b c; omega) hc
    exact ⟨⟨by omega, this.1⟩, this.2⟩
/-- Where a row begins. -/
def nx (S : List En) : Value := pt (hd S none)
theorem nx_nil : nx [] = .pointer none := rfl
theorem nx_cons (e : En) (S : List En) : nx (e :: S) = .pointer (some ⟨e.b, 0, none⟩) := rfl
def lenV : Value → Nat
  | .slice _ n _ => n
  | _ => 0

set_option maxRecDepth 100000 in
set_option maxHeartbeats 4000000 in
theorem keys_any (w : World) (F : Nat → Prop) (cb mb : Nat) (room fo mi : Int) (L : List En) (Bk : Int → List Nat) (M : Int → Option Value) (h : CaAt w F cb mb room fo mi L Bk M) :
    Calls Try.prog 11 #[.pointer (some ⟨cb, 0, none⟩)] w fun r w' => ∃ v ks, r = .returned v ∧ KysAt w.heap.size w' v ks ∧ ks.map Kv.ky = L.map (fun e => e.k.ky) ∧ Below w.heap.size w w' := by
  obtain ⟨i0, hi, hz0, hz1, hz2⟩ := info_parts info_key
  have hLl : L.length ≤ 4096 := by
    have h1 := h.len
    have h2 := h.room.2
    omega
  obtain ⟨A, hA⟩ : ∃ A, A = madeCells (Value.agg #[.string ⟨#[]⟩, .slice none 0 0, .int .i64 0, .int .i64 0, .int .i64 0, .int .i64 0, .int .i64 0, .int .i64 0, .int .i64 0, .int .i64 0, .int .i64 0]).cells (((L.length : Nat) : Int).toNat * i0.size) := ⟨_, rfl⟩
  have hAs : A.size = L.length * 11 := by rw [hA, size_madeCells, hz1]; simp
  have hmk : ∀ W : World, (Instr.makeSlice 30 (.int .i64 0) (.int .i64 (L.length : Nat))).run Try.prog W = .ok (.slice (some ⟨W.heap.size, 0, none⟩) 0 L.length) (W.alloc (.cells A 42)) := fun W => by
    have h := run_make (P := Try.prog) W 30 42 i0 _ Try.underlying30 hi hz0 .i64 .i64 0 (L.length : Nat) (by omega) (by omega) (by rw [hz2]; omega) (by omega)
    rw [← hA] at h
    simpa using h
  have c1 := h.ca.cells.2.1
  have HH := boxed h
  obtain ⟨W, hW⟩ : ∃ W, w.alloc (.cells A 42) = W := ⟨_, rfl⟩
  have hBW : Below w.heap.size w W := by rw [← hW]; exact (Below.refl _ _).alloc (Nat.le_refl _) _
  have d5 : W.cell? ⟨cb, 5, none⟩ = some (nx L) := (h.below hBW).ca.cells.2.2.2.2.2.1
  have HK0 : Box (KysAt w.heap.size W (.slice (some ⟨w.heap.size, 0, none⟩) 0 L.length) []) := boxed ⟨by rw [← hW]; exact World.ownsRow_made w A L.length (Nat.le_refl _) (by unfold maxLen; omega) hAs, by simp⟩
  have HB0 := boxed hBW
  clear h hA hAs hBW
  go_enter Try.func11, Try.ntmps11
  go_wp2_with fail
  go_loopw [3, 4] (fun v3 v4 wr => ∃ (P S : List En) (ks : List Kv) (ao : Option Addr) (cp : Nat), v4 = nx S ∧ v3 = .slice ao ks.length cp ∧ Box (L = P ++ S) ∧ Box (KysAt w.heap.size wr (.slice ao ks.length cp) ks) ∧ Box (ks.map Kv.ky = P.map (fun e => e.k.ky)) ∧ Box (Below w.heap.size w wr)) (fun v3 _ _ => L.length - lenV v3)
  case atStart => exact ⟨[], L, [], _, _, rfl, rfl, boxed rfl, HK0, boxed rfl, HB0⟩
  case round =>
    obtain ⟨P, S, ks, ao, cp, rfl, rfl, HL, HK, HM, HB⟩ := hrel
    have HKl : Box (ks.length = P.length) := boxed (by have := congrArg List.length HM.out; simpa using this)
    rcases S with _ | ⟨e, S⟩
    · have HF : Box (ks.map Kv.ky = L.map (fun e => e.k.ky)) := boxed (by rw [HM.out, HL.out]; simp)
      rw [nx_nil]
      clear HL HM
      go_wp2
      go_ret
      exact ⟨_, ks, rfl, HK.out, HF.out, HB.out⟩
    · have hem : e ∈ L := by rw [HL.out]; simp
      obtain ⟨hkv, hkf, hkc⟩ := HH.out.key e hem
      have hseg := HH.out.seg
      rw [HL.out, seg_app] at hseg
      have hE : EnAt wr e (lst none P) (hd S none) := hseg.2.1.keep (HB.out.block _ (heap_lt hseg.2.1))
      obtain ⟨y0, y1, y2, y3, y4, y5, y6, y7, y8, y9, y10, -⟩ := hE.cells
      have hrn := hkf.rn
      have htx := hkf.tx
      have HOw := boxed (own_any _ e.k wr (hkv.weak.below HB.out) (by omega) (by omega))
      have HFc := boxed hkf
      have hll : ks.length < L.length := by rw [HKl.out, HL.out]; simp
      have HE0 : Box (EnAt w e (lst none P) (hd S none)) := boxed hseg.2.1
      obtain ⟨eb, k, ev⟩ := e
      simp only [Kv.val] at *
      rw [nx_cons]
      simp only
      clear hkv hkf hkc hseg hE hem
      go_wp2_with fail
      refine HOw.out.mono ?_
      rintro r w5 ⟨ao', c', rfl, -, hk5, hc5, hb5⟩
      have HB5 := boxed (below_step HB.out (Nat.le_refl _) hb5)
      have HK5 := boxed hk5
      have H5 := boxed hb5
      have hown := (HK.out.below hb5).row
      have hsz5 := HB5.out.size
      have HC5 := boxed hc5
      clear hk5 hc5 hb5 HOw y0 y1 y2 y3 y4 y5 y6 y7 y8 y9 y10
      go_wp2_with (at_builtin; refine wpList_append_apart rfl _ _ 30 rfl w.heap.size 42 i0 _ 11 112 Try.underlying30 hi hz0 hz1 hz2 rfl (by decide) _ _ _ rfl (hown.alloc _) ⟨w5.heap.size, 0, none⟩ 1 1 (Kv.cells { k with ra := ao', rc := c' }) rfl rfl ?qc1 ?qc2 ?qc3 ?qc4 ?qc5 ?qc6 ?_)
      case qc1 =>
        intro j u hj
        rw [Addr.add_lit, Nat.zero_add, cell_new w5 _ _ _ j rfl, ← hj]
        simp [Kv.cells]
      case qc2 => exact kcell_one _
      case qc3 => unfold maxLen; omega
      case qc4 => omega
      case qc5 => simp; omega
      case qc6 => decide
      intro v' w6 hown6 hgrow6 hwh6
      have hsn := HK.out.snoc (by have := HB.out.size; omega) H5.out HK5.out ⟨⟨HFc.out.tx, HFc.out.rn, HFc.out.L⟩, HC5.out⟩ hown6 hgrow6 (by simpa using hwh6)
      have hB6 : Below w.heap.size w w6 := (HB5.out.alloc hsz5 _).grown hgrow6 (by simp; omega) (fun r e => (HK.out.row.lt r e).1)
      obtain ⟨ao6, cp6, rfl⟩ := own_shape hown6
      have HB6 := boxed hB6
      have HSn := boxed hsn
      have y14 : w6.cell? ⟨eb, 14, none⟩ = some (nx S) := (HE0.out.keep (HB6.out.block _ (heap_lt HE0.out))).cells.2.2.2.2.2.2.2.2.2.2.2.2.2.2
      have HM6 : Box ((ks ++ [({ k with ra := ao', rc := c' } : Kv)]).map Kv.ky = (P ++ [(⟨eb, k, ev⟩ : En)]).map (fun e => e.k.ky)) := boxed (by rw [List.map_append, List.map_append, HM.out]; rfl)
      have HL6 : Box (L = (P ++ [(⟨eb, k, ev⟩ : En)]) ++ S) := boxed (by rw [HL.out]; simp)
      clear hown6 hgrow6 hwh6 hsn hB6 hown HB5 HK5 H5 HK HM HL HB HE0
      go_wp2_with fail
      go_roundw
      case rel => exact ⟨P ++ [⟨eb, k, ev⟩], S, ks ++ [{ k with ra := ao', rc := c' }], ao6, cp6, rfl, by simp, HL6, by simpa using HSn, HM6, HB6⟩
      case measure => simp [lenV]; omega
end Go.Proofs.Ytmnnmnggakbipaa
