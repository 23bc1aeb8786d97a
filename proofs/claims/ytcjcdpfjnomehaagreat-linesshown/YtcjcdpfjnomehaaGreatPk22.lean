/-
  Lines as they lie in memory, and what a line of a way has: its bytes, runs, glue, height and marks. No program in it but the numbers of its types.
-/
import Derived.Test.YtcjcdpfjnomehaaGreatPk19
import Derived.Test.YtcjcdpfjnomehaaGreatPk16
import Derived.Test.YtcjcdpfjnomehaaGreatPk15
import Derived.Test.YtcjcdpfjnomehaaGreatPk20
import Derived.Test.YtcjcdpfjnomehaaGreatPk21
import Derived.Test.YtcjcdpfjnomehaaGreatPk18
namespace Go.Proofs.YtcjcdpfjnomehaaGreat
open Go.RowKit
set_option linter.unusedSimpArgs false
set_option linter.unusedVariables false
structure Lne where
  tx : ByteArray
  ra : Option Addr
  rn : Nat
  rc : Nat
  num : Int
  den : Int
  h : Int
  hy : Bool
  y : Int
  bg : Bool
  en : Bool
  L : Nat → Int
  Y : Nat → Int
def Lne.zero : Lne := ⟨⟨#[]⟩, none, 0, 0, 0, 0, 0, false, 0, false, false, fun _ => 0, fun _ => 0⟩
def Lne.cells (x : Lne) : List Value := [.string x.tx, .slice x.ra x.rn x.rc, .int .i64 x.num, .int .i64 x.den, .int .i64 x.h, .bool x.hy, .int .i64 x.y, .bool x.bg, .bool x.en]
def Lne.val (x : Lne) : Value := .agg #[.string x.tx, .slice x.ra x.rn x.rc, .int .i64 x.num, .int .i64 x.den, .int .i64 x.h, .bool x.hy, .int .i64 x.y, .bool x.bg, .bool x.en]
def lnec (l : List Lne) : List Value := l.flatMap Lne.cells
theorem lnec_app (l m : List Lne) : lnec (l ++ m) = lnec l ++ lnec m := by simp [lnec]
theorem lnec_one (x : Lne) : lnec [x] = x.cells := by simp [lnec]
theorem lnec_get (l : List Lne) (i j : Nat) (hi : i < l.length) (hj : j < 9) : (lnec l)[i * 9 + j]? = ((l.getD i Lne.zero).cells)[j]? := by
  induction l generalizing i with
  | nil => simp at hi
  | cons x r ih =>
    have e : lnec (x :: r) = x.cells ++ lnec r := by simp [lnec]
    rw [e]
    have hx : x.cells.length = 9 := rfl
    cases i with
    | zero => rw [List.getElem?_append_left (by omega)]; simp
    | succ i =>
      rw [List.getElem?_append_right (by omega), show (i + 1) * 9 + j - x.cells.length = i * 9 + j by omega, ih i (by simpa using hi)]
      simp
def LnsAt (S : Nat → Prop) (w : World) (ao : Option Addr) (n : Nat) (F : Nat → Lne) : Prop := ∀ i, i < n → Ru.P2At S w (F i).ra (F i).rn (F i).L (F i).Y ∧ ∃ b off, ao = some ⟨b, off, none⟩ ∧ S b ∧
    w.cell? ⟨b, off + i * 9, none⟩ = some (.string (F i).tx) ∧ w.cell? ⟨b, off + i * 9 + 1, none⟩ = some (.slice (F i).ra (F i).rn (F i).rc) ∧ w.cell? ⟨b, off + i * 9 + 2, none⟩ = some (.int .i64 (F i).num) ∧ w.cell? ⟨b, off + i * 9 + 3, none⟩ = some (.int .i64 (F i).den) ∧ w.cell? ⟨b, off + i * 9 + 4, none⟩ = some (.int .i64 (F i).h) ∧ w.cell? ⟨b, off + i * 9 + 5, none⟩ = some (.bool (F i).hy) ∧ w.cell? ⟨b, off + i * 9 + 6, none⟩ = some (.int .i64 (F i).y) ∧ w.cell? ⟨b, off + i * 9 + 7, none⟩ = some (.bool (F i).bg) ∧ w.cell? ⟨b, off + i * 9 + 8, none⟩ = some (.bool (F i).en)
theorem LnsAt.keep {S S' : Nat → Prop} {w w' : World} {ao : Option Addr} {n : Nat} {F : Nat → Lne} (h : LnsAt S w ao n F) (k : Kp S S' w w') : LnsAt S' w' ao n F := by
  intro i hi
  obtain ⟨hr, b, off, e, hs, c0, c1, c2, c3, c4, c5, c6, c7, c8⟩ := h i hi
  exact ⟨hr.keep k, b, off, e, (k _ _ _ hs c0).1, (k _ _ _ hs c0).2, (k _ _ _ hs c1).2, (k _ _ _ hs c2).2, (k _ _ _ hs c3).2, (k _ _ _ hs c4).2, (k _ _ _ hs c5).2, (k _ _ _ hs c6).2, (k _ _ _ hs c7).2, (k _ _ _ hs c8).2⟩
theorem LnsAt.below {S : Nat → Prop} {w w' : World} {ao : Option Addr} {n : Nat} {F : Nat → Lne} (h : LnsAt S w ao n F) (hb : Below w.heap.size w w') : LnsAt S w' ao n F := h.keep (kp_below hb)
def nthL (l : List Lne) (i : Nat) : Lne := l.getD i Lne.zero
def RunsOf (B : Nat) (v : Value) (w : World) (l : List Lne) : Prop := ∀ x ∈ l, Ru.P2At (fun b => B ≤ b ∧ v.ownBlock ≠ some b) w x.ra x.rn x.L x.Y
theorem own_lns {w : World} {B : Nat} {ao : Option Addr} {cap : Nat} {l : List Lne} (h : w.ownsRow B 59 9 (.slice ao l.length cap) l.length (lnec l)) (hr : RunsOf B (.slice ao l.length cap) w l) : LnsAt (fun b => B ≤ b) w ao l.length (nthL l) := by
  intro i hi
  have hm : nthL l i ∈ l := by unfold nthL; simp [List.getD_eq_getElem?_getD, hi]
  refine ⟨(hr _ hm).keep (fun b j u hs hc => ⟨hs.1, hc⟩), ?_⟩
  rcases ownsRow_forms h with ⟨e, h0⟩ | ⟨g, cp, e⟩
  · omega
  · injection e with e1 e2 e3
    subst e1
    have hc : ∀ j, j < 9 → w.cell? ⟨g, 0 + i * 9 + j, none⟩ = ((nthL l i).cells)[j]? := by
      intro j hj
      have := h.cellAt (i * 9 + j) (by omega)
      rw [show 0 + i * 9 + j = i * 9 + j by omega, this]
      exact lnec_get l i j hi hj
    exact ⟨g, 0, rfl, (h.lt g rfl).1, hc 0 (by omega), hc 1 (by omega), hc 2 (by omega), hc 3 (by omega), hc 4 (by omega), hc 5 (by omega), hc 6 (by omega), hc 7 (by omega), hc 8 (by omega)⟩
def rnL (s : List Int) (a b : Nat) (j : Nat) : Int := (((Ru.enc (Ru.sub s a b)).getD j (0, 0)).1 : Nat)
def rnY (s : List Int) (a b : Nat) (j : Nat) : Int := Ru.Ys (Ru.enc (Ru.sub s a b)) j
def hgt (F : Nat → It.Sty) (ns : Nat) (s : List Int) (a b : Nat) : Int := if a < b then It.talT F ns (rnL s a b) (rnY s a b) (Ru.enc (Ru.sub s a b)).length else (It.ofS F ns (s.getD (s.length - 1) 0)).h
structure Laid (I : Nat → Itm) (n : Nat) (bs : List Nat) (t : ByteArray) (s : List Int) (F : Nat → It.Sty) (ns : Nat) (width : Int) (i : Nat) (x : Lne) : Prop where
  tx : x.tx = t.extract (lnF I n bs t.size i) (lnC I n bs t.size i)
  rn : x.rn = (Ru.enc (Ru.sub s (lnF I n bs t.size i) (lnC I n bs t.size i))).length
  L : ∀ j, j < x.rn → x.L j = rnL s (lnF I n bs t.size i) (lnC I n bs t.size i) j
  Y : ∀ j, j < x.rn → x.Y j = rnY s (lnF I n bs t.size i) (lnC I n bs t.size i) j
  num : x.num = (setF (lin I n (lnA bs i) (bs.getD i 0 : Nat)) width).num
  den : x.den = (setF (lin I n (lnA bs i) (bs.getD i 0 : Nat)) width).den
  h : x.h = hgt F ns s (lnF I n bs t.size i) (lnC I n bs t.size i)
  hy : x.hy = ((I (bs.getD i 0)).flag && decide ((I (bs.getD i 0)).fr < (I (bs.getD i 0)).to))
  y : x.y = 0
  bg : x.bg = decide (i = 0)
  en : x.en = decide (i + 1 = bs.length)
end Go.Proofs.YtcjcdpfjnomehaaGreat

/-
  What the program's styled, height and hyphenated answer.
-/
namespace Go.Proofs.YtcjcdpfjnomehaaGreat
open Go.RowKit
set_option linter.unusedSimpArgs false
set_option linter.unusedVariables false
theorem pair_runs {S : Nat → Prop} {W : World} {ao : Option Addr} {n : Nat} {L Y : Nat → Int} (h : Ru.P2At S W ao n L Y) : It.RunsAt W ao n L Y := by
  intro i hi
  obtain ⟨h1, b, off, e, -, c0, c1⟩ := h i hi
  exact ⟨h1, b, off, e, c0, c1⟩
theorem runs_pair {W : World} {ao : Option Addr} {n : Nat} {L Y : Nat → Int} (h : It.RunsAt W ao n L Y) : Ru.P2At (fun _ => True) W ao n L Y := by
  intro i hi
  obtain ⟨h1, b, off, e, c0, c1⟩ := h i hi
  exact ⟨h1, b, off, e, trivial, c0, c1⟩
theorem runs_fit {t : ByteArray} {N n m : Nat} {Ln Ys : Nat → Int} (hn : n ≤ 32) (hc : It.crs t N n Ln Ys m = 0) : ∀ k, k ≤ m → It.crs t N n Ln Ys k = 0 ∧ Ru.lyf t.size Ln Ys 0 k = (0, It.pre Ln k) := by
  have h0 : ∀ k, k ≤ m → It.crs t N n Ln Ys k = 0 := by
    intro k hk
    have key : ∀ d k, k + d = m → It.crs t N n Ln Ys k = 0 := by
      intro d
      induction d with
      | zero => intro k h; obtain rfl : k = m := by omega
                exact hc
      | succ d ih =>
        intro k h
        have := ih (k + 1) (by omega)
        simp only [It.crs] at this
        split at this
        · assumption
        · exact this
    exact key (m - k) k (by omega)
  intro k
  induction k with
  | zero => intro _; exact ⟨rfl, rfl⟩
  | succ k ih =>
    intro hk
    obtain ⟨i1, i2⟩ := ih (by omega)
    have h1 := h0 (k + 1) hk
    refine ⟨h1, ?_⟩
    have h2 : It.cr t N n Ln Ys k = 0 := by simp only [It.crs] at h1; rw [if_pos i1] at h1; exact h1
    unfold It.cr at h2
    rw [Ru.lyf_succ, i2]
    split at h2
    · omega
    · rename_i c1
      split at h2
      · rename_i c2
        rw [if_neg (by simp), if_neg (by omega), if_pos ((Ru.stb_iff _).2 (by omega)), if_neg (by simp only; omega)]
        rfl
      · omega
section
variable {w : World}
set_option maxRecDepth 100000 in
set_option maxHeartbeats 2000000 in
theorem styled_any (size : Nat) (ro : Option Addr) (m rc : Nat) (L Y : Nat → Int) (hr : It.RunsAt w ro m L Y) (hm : m ≤ 65536) (hs : size ≤ 65536) (hl : Ru.lyf size L Y 0 m = (0, (size : Int))) :
    Calls Tryz.prog 67 #[.int .i64 (size : Nat), .slice ro m rc] w fun e w' => ∃ lb ao cap bare, e = .returned (.pointer (some ⟨lb, 0, none⟩)) ∧ Ru.ListAt w' lb ao cap (Ru.exr L Y m) bare ∧ Below w.heap.size w w' := by
  have hN := Ru.new_any (size : Nat) 0 w ⟨by omega, by omega⟩
  have hE : Ru.newE (size : Nat) 0 = 0 := by unfold Ru.newE; rw [if_neg (by omega), if_pos (by decide)]
  have HR := boxed (runs_pair hr)
  clear hr
  go_enter Tryz.func67, Tryz.ntmps67
  go_wp2_with fail
  refine hN.mono ?_
  rintro e w1 (⟨h1, -⟩ | ⟨-, lb, ao, cap, rfl, hlb, hL, hb⟩)
  · exact absurd hE h1
  have hlb2 := hL.lt
  have hY := Ru.lay_any hL 0 ro m rc L Y (HR.out.keep (fun b i u _ hc => ⟨fun e => by
    have := World.block_lt_of_cell? w _ hc
    simp only at this
    omega, hold hb hc⟩)) hm
  have hlen : (List.replicate (size : Int).toNat (0 : Int)).length = size := by simp
  have hlE : Ru.layE (List.replicate (size : Int).toNat 0) 0 L Y m = 0 := by
    unfold Ru.layE
    rw [hlen, if_neg (by simp [Ru.outb]), hl]
  have hlS : Ru.layS (List.replicate (size : Int).toNat 0) 0 L Y m = Ru.exr L Y m := by
    unfold Ru.layS
    rw [if_pos hlE, hlen, hl]
    simp
  rw [hlE, hlS] at hY
  have HB := boxed hb
  clear hN hL hb hlE hlS
  have hun : undef = Value.tuple #[] := rfl
  go_wp2_with fail
  refine hY.mono ?_
  rintro e w2 ⟨rfl, ao2, cap2, hL2, hg⟩
  have HF := boxed (And.intro hL2 (HB.out.trans (Ru.grown_below hg hlb HB.out.size)))
  clear hL2 hg hY
  go_wp2_with fail
  go_ret
  exact ⟨lb, ao2, cap2, _, rfl, HF.out.1, HF.out.2⟩
set_option maxRecDepth 100000 in
set_option maxHeartbeats 2000000 in
theorem height10_any {B tb ns lb lc : Nat} {G : Nat → It.Sty} {lo : Option Addr} {s : List Int} {bare : Int} {S : Nat → Prop} {po : Option Addr} {pc : Nat} (hT : It.TabAt B w tb ns G) (hL : Ru.ListAt w lb lo lc s bare) (a b : Nat) (hab : a ≤ b) (hb : b ≤ s.length) (h0 : 0 < s.length)
    (hp : Ru.P2At S w po (Ru.enc (Ru.sub s a b)).length (rnL s a b) (rnY s a b)) :
    Calls Tryz.prog 71 #[.pointer (some ⟨tb, 0, none⟩), .slice po (Ru.enc (Ru.sub s a b)).length pc, .pointer (some ⟨lb, 0, none⟩)] w fun e w' => e = .returned (.int .i64 (hgt G ns s a b)) ∧ Below w.heap.size w w' := by
  have hsl := hL.len
  have hsub := Ru.sub_len s a b hb
  have hel := Ru.enc_len (Ru.sub s a b)
  have hen := Ru.enc_nil (Ru.sub s a b)
  by_cases c : a < b
  · have hT1 := It.tallest_any hT po (Ru.enc (Ru.sub s a b)).length pc (rnL s a b) (rnY s a b) (by unfold maxLen; omega) (pair_runs hp)
    unfold hgt
    rw [if_pos c]
    generalize It.talT G ns (rnL s a b) (rnY s a b) (Ru.enc (Ru.sub s a b)).length = V at *
    have hk : 0 < (Ru.enc (Ru.sub s a b)).length := by omega
    generalize (Ru.enc (Ru.sub s a b)).length = k at *
    have t1 : decide ((0 : Int) < (k : Int)) = true := decide_eq_true (by omega)
    have t2 : decide (0 < k) = true := decide_eq_true (by omega)
    clear hT hL hp
    go_enter Tryz.func71, Tryz.ntmps71
    go_wp2_with fail
    refine hT1.mono ?_
    rintro e w1 ⟨rfl, hb1⟩
    have HB := boxed hb1
    clear hb1 hT1
    go_wp2_with fail
    go_ret
    exact ⟨rfl, HB.out⟩
  · unfold hgt
    rw [if_neg c]
    have hk : (Ru.enc (Ru.sub s a b)).length = 0 := by omega
    rw [hk]
    have hLn := Ru.len_any hL
    have HA := boxed (fun W (hb : Below w.heap.size w W) => Ru.at_any (hL.below hb) ((s.length : Int) - 1))
    have HH := boxed (fun W (hb : Below w.heap.size w W) => It.height_any (hT.below hb) (s.getD (s.length - 1) 0))
    obtain ⟨k, hsk⟩ : ∃ k, s.length = k + 1 := ⟨s.length - 1, by omega⟩
    rw [hsk] at HA HH hLn hsl ⊢
    have e1 : ((k + 1 : Nat) : Int) - 1 = (k : Nat) := by omega
    rw [e1, if_pos (by omega), decide_eq_true (by omega)] at HA
    simp only [Nat.add_sub_cancel, Int.toNat_natCast] at HA HH ⊢
    generalize s.getD k 0 = y at *
    generalize (It.ofS G ns y).h = V at *
    clear hT hL hp hel hen hsub hb hsk h0
    go_enter Tryz.func71, Tryz.ntmps71
    go_wp2_with fail
    refine hLn.mono ?_
    rintro e w1 ⟨rfl, hb1⟩
    have hA := HA.out _ hb1
    have HB1 := boxed hb1
    clear hb1 hLn HA
    go_wp2_with fail
    refine hA.mono ?_
    rintro e w2 ⟨rfl, hb2⟩
    have HB2 := boxed (below_step HB1.out (Nat.le_refl _) hb2)
    have hH := HH.out _ HB2.out
    clear hb2 hA HH HB1
    go_wp2_with fail
    refine hH.mono ?_
    rintro e w3 ⟨rfl, hb3⟩
    have HB3 := boxed (below_step HB2.out (Nat.le_refl _) hb3)
    clear hb3 hH HB2
    go_wp2_with fail
    go_ret
    exact ⟨rfl, HB3.out⟩
set_option maxRecDepth 100000 in
theorem hyphenated_any (x : Itm) (w : World) : Calls Tryz.prog 72 #[x.val] w fun e w' => e = .returned (.bool (x.flag && decide (x.fr < x.to))) ∧ Below w.heap.size w w' := by
  obtain ⟨k, wd, st, sh, fill, c, flag, fr, to⟩ := x
  unfold Itm.val
  cases flag
  · go_enter Tryz.func72, Tryz.ntmps72
    go_wp2_with fail
    go_ret
    exact ⟨rfl, by go_grown⟩
  · by_cases h : fr < to
    · have t1 : decide (fr < to) = true := decide_eq_true h
      go_enter Tryz.func72, Tryz.ntmps72
      go_wp2_with fail
      go_ret
      exact ⟨by simp [h], by go_grown⟩
    · have t1 : decide (fr < to) = false := decide_eq_false h
      go_enter Tryz.func72, Tryz.ntmps72
      go_wp2_with fail
      go_ret
      exact ⟨by simp [h], by go_grown⟩
end
end Go.Proofs.YtcjcdpfjnomehaaGreat

/-
  What the program's Cuts tells: where each line ends.
-/
namespace Go.Proofs.YtcjcdpfjnomehaaGreat
open Go.RowKit
set_option linter.unusedSimpArgs false
set_option linter.unusedVariables false
theorem fldI7 (a b c d e f g h i : Value) (w : World) : (Instr.field 80 (.agg #[a, b, c, d, e, f, g, h, i]) 7).run Tryz.prog w = .ok h w := by kernel_rfl
section
variable {S S' : Nat → Prop} {w : World} {pb n : Nat} {I : Nat → Itm} {bs : List Nat} {sz : Nat} {lo : Option Addr} {lc : Nat}
set_option maxRecDepth 100000 in
set_option maxHeartbeats 4000000 in
theorem cuts_any (hP : ParaAt S w pb n I) (hw : WB n bs) (hc : Chn I n sz) (hb : NAt S' w lo bs) (hcap : bs.length ≤ lc) :
    Calls Tryz.prog 23 #[.pointer (some ⟨pb, 0, none⟩), .slice lo bs.length lc, .int .i64 (sz : Nat)] w fun e w' => ∃ ao c, e = .returned (.slice ao bs.length c) ∧ NAt (fun b => w.heap.size ≤ b) w' ao ((List.range bs.length).map (lnC I n bs sz)) ∧ Below w.heap.size w w' := by
  obtain ⟨g, rfl, -, hg⟩ := hb.form hw.pos
  obtain ⟨m, hm⟩ : ∃ m, bs.length = m + 1 := ⟨bs.length - 1, by have := hw.pos; omega⟩
  have hmn : m + 1 ≤ n := by
    have hr : ∀ i, i < bs.length → i ≤ bs.getD i 0 := by
      intro i
      induction i with
      | zero => intro _; omega
      | succ i ih => intro hi; have := ih (by omega); have := hw.rise i hi; omega
    have h1 := hr m (by omega)
    have h2 := hw.lt m (by omega)
    omega
  have hn := hc.le
  have hsz := hc.size
  obtain ⟨i0, hi, hz0, hz1, hz2⟩ := info_parts info_int8
  rw [hm] at hcap ⊢
  have hmk : ∀ W : World, (Instr.makeSlice 33 (.int .i64 ((m : Int) + 1)) (.int .i64 ((m : Int) + 1))).run Tryz.prog W = .ok (.slice (some ⟨W.heap.size, 0, none⟩) (m + 1) (m + 1)) (W.alloc (.cells (madeCells #[Value.int .i64 0] (m + 1)) 3)) := by
    intro W
    have := run_makeSlice (w := W) 33 3 i0 (.int .i64 0) Tryz.underlying33 hi hz0 .i64 .i64 ((m : Int) + 1) ((m : Int) + 1) (by omega) (by omega) (by rw [hz1]; simp; omega) (by rw [hz2]; omega) (by omega)
    rw [this, hz1]
    have e : ((m : Int) + 1).toNat = m + 1 := by omega
    simp [Value.cells, e]
  have hA : (madeCells #[Value.int .i64 0] (m + 1)).size = m + 1 := by
    have := congrArg List.length (toList_madeCells_one (Value.int .i64 0) (m + 1))
    simpa using this
  obtain ⟨A0, hA0⟩ : ∃ A0, madeCells #[Value.int .i64 0] (m + 1) = A0 := ⟨_, rfl⟩
  rw [hA0] at hmk hA
  clear hA0
  have hsl := Ru.sl_front g 0 (m + 1) lc m (by omega) hcap
  have HP := boxed hP
  have HG := boxed hg
  have HW := boxed hw
  have HC := boxed hc
  have HM := boxed hm
  obtain ⟨G, hG⟩ : ∃ G, w.heap.size = G := ⟨_, rfl⟩
  rw [hG]
  have hG2 := boxed hG
  clear hP hg hw hc hb hm
  have t0 : ((m : Int) + 1 == 0) = false := by rw [beq_eq_false_iff_ne]; omega
  go_enter Tryz.func23, Tryz.ntmps23
  go_wp2_with fail
  go_loopw [29] (fun kv wr => ∃ k : Nat, k ≤ m ∧ kv = .int .i64 (k : Int) ∧ Box (Below G w wr) ∧ Box (∃ arr : Array Value, wr.heap[G]? = some (.cells arr 3 (0, 0)) ∧ arr.size = m + 1 ∧ ∀ i, i < k → arr[i]? = some (.int .i64 (lnC I n bs sz i : Nat)))) (fun kv _ => m - (intOf kv).toNat)
  case atStart =>
    refine ⟨0, Nat.zero_le _, rfl, boxed ((Below.refl _ _).alloc (by omega) _), boxed ⟨A0, ?_, hA, fun i h1 => by omega⟩⟩
    rw [← hG2.out]
    exact heap_alloc_new w _
  case round =>
    obtain ⟨k, hk, rfl, HB, HE⟩ := hrel
    by_cases hlt : k < m
    · obtain ⟨arr, e0, hsa, hget⟩ := HE.out
      obtain ⟨v0, a0, a1⟩ : ∃ v, wr.cell? ⟨G, k, none⟩ = some v ∧ wr.frozen? ⟨G, k, none⟩ = false := ⟨_, arr_at e0 (k := k) (by omega)⟩
      have hk1 := lnK_in (I := I) HW.out k (by rw [HM.out]; omega)
      have HK : (I (lnK I n bs k)).fr = (lnC I n bs sz k : Nat) := lnC_cut HW.out HC.out k (by rw [HM.out]; omega)
      have HMn : lnK I n bs k = min (sta I n (bs.getD k 0 : Nat)) (bs.getD (k + 1) 0) := rfl
      have hBw : Below w.heap.size w wr := by rw [hG2.out]; exact HB.out
      have c0 := hold hBw (HG.out k (by rw [HM.out]; omega))
      have c1 := hold hBw (HG.out (k + 1) (by rw [HM.out]; omega))
      have hgG : g < G := by
        have := World.block_lt_of_cell? w _ (HG.out k (by rw [HM.out]; omega))
        simp only at this
        have := hG2.out
        omega
      have HS := boxed (fun W (hb : Below w.heap.size w W) => start_any (HP.out.below hb) hn (bs.getD k 0 : Nat))
      have HI := boxed (fun W (hb : Below w.heap.size w W) => item_any (HP.out.below hb) hn (lnK I n bs k : Nat))
      have hit : itm I n (lnK I n bs k : Nat) = I (lnK I n bs k) := by unfold itm; rw [if_pos (by omega)]; simp
      rw [hit] at HI
      have hx1 := HW.out.lt k (by rw [HM.out]; omega)
      have hx2 := HW.out.lt (k + 1) (by rw [HM.out]; omega)
      have hx3 := sta_le I n (bs.getD k 0 : Nat)
      have HF : Box (∀ i, i < k + 1 → (arr.setIfInBounds k (.int .i64 (lnC I n bs sz k : Nat)))[i]? = some (.int .i64 (lnC I n bs sz i : Nat))) := boxed (fun i h1 => by
        by_cases c : i = k
        · subst c
          rw [Array.getElem?_setIfInBounds_self_of_lt (by omega)]
        · rw [Array.getElem?_setIfInBounds_ne (by omega)]
          exact hget i (by omega))
      have hkn := hk1.2.2
      unfold Itm.val at HI
      rw [HK] at HI
      obtain ⟨z, hz⟩ : ∃ z, I (lnK I n bs k) = z := ⟨_, rfl⟩
      rw [hz] at HI
      clear hz HK hit
      generalize lnK I n bs k = K at *
      generalize hCC : lnC I n bs sz k = CC at *
      generalize sta I n (bs.getD k 0 : Nat) = st at *
      generalize bs.getD k 0 = x at *
      obtain ⟨y, hy⟩ : ∃ y, bs.getD (k + 1) 0 = y := ⟨_, rfl⟩
      rw [hy] at HMn c1 hx2
      have HY := boxed hy
      clear hy
      have HMn2 := boxed HMn
      obtain ⟨k1, hk2⟩ : ∃ k1, k + 1 = k1 := ⟨_, rfl⟩
      have hw1 : IntKind.i64.wrap ((k : Int) + 1) = (k1 : Int) := by rw [IntKind.wrap_i64]; omega
      have hIi : k1 < m + 1 := by omega
      have hIj : (k1 : Int) < (m : Int) + 1 := by omega
      rw [hk2] at c1
      have HK1 := boxed hk2
      clear HMn hCC hk1 hk2
      have HD : Box (Below w.heap.size w wr.drew) := boxed hBw.drew
      have HX : Box (∀ W, Below w.heap.size w W → W.cell? ⟨g, k1, none⟩ = some (.int .i64 (y : Nat))) := boxed (fun W hb => by
        have := hold hb (HG.out (k + 1) (by rw [HM.out]; omega))
        rw [HY.out, HK1.out] at this
        exact this)
      clear c1
      go_wp2_with fail
      go_region_held3 (fun W => W.cell? ⟨g, k1, none⟩ = some (.int .i64 (y : Nat)))
        (first | with_reducible exact HX.out _ HD.out)
        (first | (go_at_call 74; refine (HS.out _ HD.out).mono ?_; rintro e w' ⟨rfl, hw'⟩; subst w'))
      have hmin : min (st : Int) (y : Int) = (K : Int) := by have := HMn2.out; omega
      rw [hmin]
      clear hmin HX HS c0
      have d0 : wr.drew.cell? ⟨G, k, none⟩ = some v0 := a0
      have d1 : wr.drew.frozen? ⟨G, k, none⟩ = false := a1
      have e1 : wr.drew.heap[G]? = some (.cells arr 3 (0, 0)) := e0
      generalize wr.drew = w3 at *
      clear a0 a1 e0
      have hfl := fldI7
      go_wp2_with fail
      refine (HI.out _ HD.out).mono ?_
      rintro e w4 ⟨rfl, hb4⟩
      have e2 := (hb4.block G ((Array.getElem?_eq_some_iff.1 e1).1)).trans e1
      have HB4 := boxed (below_step HD.out (Nat.le_refl _) hb4)
      obtain ⟨b0, b1⟩ := arr_at e2 (k := k) (by omega)
      obtain ⟨v2, hv2⟩ : ∃ v, arr[k]'(by omega) = v := ⟨_, rfl⟩
      rw [hv2] at b0
      have HE2 := boxed (arr_set (k := k) (.int .i64 (CC : Nat)) e2)
      have HS2 : Box ((arr.setIfInBounds k (.int .i64 (CC : Nat))).size = m + 1) := boxed (by simp [hsa])
      generalize arr.setIfInBounds k (.int .i64 (CC : Nat)) = arr2 at *
      clear hv2 hb4 e1 e2 d0 d1 HI hw1 hIi hIj HMn2 HD
      have hGw : G < w4.heap.size := by have := World.block_lt_of_cell? w4 _ b0; simpa using this
      have HB5 : Box (Below G w (w4.setCell ⟨G, k, none⟩ (.int .i64 (CC : Nat)))) := boxed ((by rw [← hG2.out]; exact HB4.out : Below G w w4).setCell (by simp) _)
      go_wp2_with fail
      go_roundw
      case rel => exact ⟨k + 1, by omega, by go_num, HB5, boxed ⟨arr2, HE2.out, HS2.out, HF.out⟩⟩
      case measure => simp [intOf]; omega
    · obtain rfl : m = k := by omega
      obtain ⟨arr, e0, hsa, hget⟩ := HE.out
      obtain ⟨v0, a0, a1⟩ : ∃ v, wr.cell? ⟨G, m, none⟩ = some v ∧ wr.frozen? ⟨G, m, none⟩ = false := ⟨_, arr_at e0 (k := m) (by omega)⟩
      have HE2 := boxed (arr_set (k := m) (.int .i64 (sz : Nat)) e0)
      have HB5 : Box (Below G w (wr.setCell ⟨G, m, none⟩ (.int .i64 (sz : Nat)))) := boxed (HB.out.setCell (by simp) _)
      have HF : Box (∀ i, i < m + 1 → (arr.setIfInBounds m (.int .i64 (sz : Nat)))[i]? = some (.int .i64 (lnC I n bs sz i : Nat))) := boxed (fun i h1 => by
        by_cases c : i = m
        · subst c
          rw [Array.getElem?_setIfInBounds_self_of_lt (by omega), lnC_last i (by rw [HM.out]; omega)]
        · rw [Array.getElem?_setIfInBounds_ne (by omega)]
          exact hget i (by omega))
      clear e0 hget HE hmk hsl
      go_wp2_with fail
      go_ret
      refine ⟨_, _, rfl, fun i hi => ⟨G, rfl, Nat.le_refl _, ?_⟩, HB5.out⟩
      have hi' : i < m + 1 := by simpa using hi
      rw [cell_of_row _ G i _ 3 (0, 0) HE2.out, HF.out i hi']
      simp [hi']
end
end Go.Proofs.YtcjcdpfjnomehaaGreat
