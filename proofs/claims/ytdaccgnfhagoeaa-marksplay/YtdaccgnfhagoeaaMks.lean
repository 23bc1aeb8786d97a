/-
  The law's played: a script of calls at both sets.
-/
import Derived.Test.YtdaccgnfhagoeaaMkq
namespace Go.Proofs.Ytdaccgnfhagoeaa
open Go.RowKit
set_option linter.unusedSimpArgs false
set_option linter.unusedVariables false

/-- Calls that lie in memory, below a number. -/
def OpsAt (B : Nat) (w : World) (so : Option Addr) (m : Nat) (F : Nat → Opr) : Prop := ∀ i, i < m → ∃ b off, so = some ⟨b, off, none⟩ ∧ b < B ∧ w.cell? ⟨b, off + i * 4, none⟩ = some (.int .i64 (F i).k) ∧ w.cell? ⟨b, off + i * 4 + 1, none⟩ = some (.int .i64 (F i).a) ∧ w.cell? ⟨b, off + i * 4 + 2, none⟩ = some (.int .i64 (F i).b) ∧ w.cell? ⟨b, off + i * 4 + 3, none⟩ = some (.bool (F i).t)
theorem OpsAt.below {B C : Nat} {w w' : World} {so : Option Addr} {m : Nat} {F : Nat → Opr} (h : OpsAt B w so m F) (hb : Below C w w') (hC : B ≤ C) : OpsAt B w' so m F := by
  intro i hi
  obtain ⟨b, off, e, hl, c0, c1, c2, c3⟩ := h i hi
  have hk : ∀ j u, w.cell? ⟨b, j, none⟩ = some u → w'.cell? ⟨b, j, none⟩ = some u := fun j u hu => by rw [World.cell?_of_block (a := ⟨b, j, none⟩) (hb.block b (by omega))]; exact hu
  exact ⟨b, off, e, hl, hk _ _ c0, hk _ _ c1, hk _ _ c2, hk _ _ c3⟩
/-- The set behind so many calls. -/
def pls (n : Int) (F : Nat → Opr) : Nat → St
  | 0 => ⟨n, 0, []⟩
  | k + 1 => stp (pls n F k) (F k)
theorem pls_ok (n : Int) (F : Nat → Opr) (h0 : 0 ≤ n) (h1 : n ≤ 65536) : ∀ k : Nat, (pls n F k).ok (k : Int)
  | 0 => ⟨h0, h1, by simp [pls], by simp [pls], by simp [pls], by simp [pls], by simp [pls]⟩
  | k + 1 => by
    have := stp_ok (pls_ok n F h0 h1 k) (F k)
    simpa [pls] using this
section
variable {w : World} {n : Int} {so : Option Addr} {m c : Nat} {F : Nat → Opr}
set_option maxRecDepth 100000 in
set_option maxHeartbeats 16000000 in
theorem played16_any (h : OpsAt w.heap.size w so m F) (h0 : 0 ≤ n) (h1 : n ≤ 65536) : Calls Try.prog 11 #[.int .i64 n, .slice so m c] w fun e w' => (∃ sb v x, e = .returned (.tuple #[.pointer (some ⟨sb, 0, none⟩), x]) ∧ PS w.heap.size w' sb v (pls n F (min m 80)) ∧ RS w.heap.size w' x (pls n F (min m 80))) ∧ Below w.heap.size w w' := by
  have l2 := laid2 w (.cells #[.int .i64 0, .int .i64 0, .slice none 0 0] 31) (.cells #[.int .i64 n, .int .i64 0, .slice none 0 0] 31)
  generalize hW : ((w.alloc (.cells #[.int .i64 0, .int .i64 0, .slice none 0 0] 31)).alloc (.cells #[.int .i64 n, .int .i64 0, .slice none 0 0] 31)) = W at l2
  obtain ⟨l0, l1, lb, lz⟩ := l2
  have HN := boxed (new16_ok n W (by omega))
  have HW := boxed hW
  have HOK := boxed (pls_ok n F h0 h1)
  have HOp := boxed (h.below lb (Nat.le_refl _))
  have HL0 := boxed l0
  have HL1 := boxed l1
  have HB0 := boxed lb
  clear hW l0 l1 lb h
  go_enter Try.func11, Try.ntmps11
  go_upto_region 2 with (fail)
  rw [HW.out]
  go_wp2_with fail
  refine HN.out.mono ?_
  rintro e w1 ⟨rfl, hn⟩
  obtain ⟨hp1, hb1⟩ := hn _ (Nat.le_refl _)
  rw [lz] at hp1 hb1
  have HP1 := boxed hp1
  have HB1 := boxed hb1
  have hzw := hb1.size
  clear hn hp1 hb1 HN
  go_wp2_with fail
  have HZ1 : Box (w1.heap[w.heap.size]? = some (.cells #[.int .i64 0, .int .i64 0, .slice none 0 0] 31 (0, 0)) ∧ w1.heap[w.heap.size + 1]? = some (.cells #[.int .i64 n, .int .i64 0, .slice none 0 0] 31 (0, 0))) := boxed ⟨by rw [HB1.out.block _ (by omega)]; exact HL0.out, by rw [HB1.out.block _ (by omega)]; exact HL1.out⟩
  have HB2 : Box (Below w.heap.size w w1) := boxed (HB0.out.trans (HB1.out.mono (by omega)))
  have HOp1 := boxed (HOp.out.below HB1.out (by omega))
  clear HL0 HL1 HB1 HOp
  go_loopw [9] (fun va wr => ∃ (k : Nat) (v : Value) (a2 : Option Addr) (c2 : Nat), k ≤ m ∧ k ≤ 80 ∧ va = .int .i64 (k : Nat) ∧ Box (PS (w.heap.size + 2) wr (w.heap.size + 2) v (pls n F k)) ∧ Box (wr.heap[w.heap.size + 1]? = some (.cells #[.int .i64 (pls n F k).sz, .int .i64 (pls n F k).nx, .slice a2 (pls n F k).L.length c2] 31 (0, 0))) ∧ Box (RS (w.heap.size + 2) wr (.agg #[.int .i64 (pls n F k).sz, .int .i64 (pls n F k).nx, .slice a2 (pls n F k).L.length c2]) (pls n F k)) ∧ Box (wr.heap[w.heap.size]? = some (.cells #[.int .i64 0, .int .i64 0, .slice none 0 0] 31 (0, 0))) ∧ Box (Below w.heap.size w wr) ∧ Box (OpsAt w.heap.size wr so m F)) (fun va _ => (((min m 80 : Nat) : Int) - intOf va).toNat)
  case atStart => exact ⟨0, _, none, 0, Nat.zero_le _, by omega, rfl, HP1, boxed HZ1.out.2, boxed ⟨_, rfl, by simp [pls, mcs], .inl ⟨rfl, by simp [pls]⟩⟩, boxed HZ1.out.1, HB2, HOp1⟩
  case round =>
    obtain ⟨k, v, a2, c2, hk1, hk2, rfl, HP, HC, HR, HZ, HBr, HOr⟩ := hrel
    have hok := HOK.out k
    have hzr := HP.out.lt
    by_cases hlt : k < m ∧ k < 80
    · obtain ⟨hkm, hk8⟩ := hlt
      have hkm2 : (k : Int) < (m : Int) := by omega
      have hk82 : (k : Int) < 80 := by omega
      have HNx : Box (pls n F (k + 1) = stp (pls n F k) (F k)) := boxed rfl
      obtain ⟨ob, of, rfl, hob, q0, q1, q2, q3⟩ := HOr.out k hkm
      obtain ⟨s, hs⟩ : ∃ s, pls n F k = s := ⟨_, rfl⟩
      rw [hs] at HP HC HR HNx hok
      obtain ⟨s1, hs1⟩ : ∃ s1, pls n F (k + 1) = s1 := ⟨_, rfl⟩
      have HS1 := boxed hs1
      rw [hs1] at HNx
      obtain ⟨op, hop⟩ : ∃ op, F k = op := ⟨_, rfl⟩
      rw [hop] at q0 q1 q2 q3 HNx
      have HSt : Box (∀ W', Below wr.heap.size wr W' → Calls Try.prog 19 #[.pointer (some ⟨(w.heap.size + 2), 0, none⟩), .agg #[.int .i64 s.sz, .int .i64 s.nx, .slice a2 s.L.length c2], op.val] W' fun e w' => (∃ x' v', e = .returned (.tuple #[x', .bool true]) ∧ PS (w.heap.size + 2) w' (w.heap.size + 2) v' s1 ∧ RS (w.heap.size + 2) w' x' s1) ∧ Chg (Own (w.heap.size + 2) v) W' w') := boxed (fun W' hb => by
        have := step16_any (HP.out.below hb) (HR.out.below hb) (by have := hb.size; omega) hok (by omega) op
        rw [← HNx.out] at this
        exact this)
      clear hs hs1 hop HNx
      obtain ⟨o1, o2, o3, o4⟩ := op
      unfold Opr.val at HSt
      simp only at q0 q1 q2 q3 HSt
      have HX : Box (∀ W', Below (w.heap.size + 2) wr W' → W'.cell? ⟨w.heap.size + 1, 0, none⟩ = some (.int .i64 s.sz) ∧ W'.cell? ⟨w.heap.size + 1, 1, none⟩ = some (.int .i64 s.nx) ∧ W'.cell? ⟨w.heap.size + 1, 2, none⟩ = some (.slice a2 s.L.length c2) ∧ W'.cell? ⟨ob, of + k * 4, none⟩ = some (.int .i64 o1) ∧ W'.cell? ⟨ob, of + k * 4 + 1, none⟩ = some (.int .i64 o2) ∧ W'.cell? ⟨ob, of + k * 4 + 2, none⟩ = some (.int .i64 o3) ∧ W'.cell? ⟨ob, of + k * 4 + 3, none⟩ = some (.bool o4)) := boxed (fun W' hb => by
        obtain ⟨g0, g1, g2⟩ := (cells3 ((hb.block (w.heap.size + 1) (by omega)).trans HC.out)).1
        have hk : ∀ j u, wr.cell? ⟨ob, j, none⟩ = some u → W'.cell? ⟨ob, j, none⟩ = some u := fun j u hu => by rw [World.cell?_of_block (a := ⟨ob, j, none⟩) (hb.block ob (by omega))]; exact hu
        exact ⟨g0, g1, g2, hk _ _ q0, hk _ _ q1, hk _ _ q2, hk _ _ q3⟩)
      have HEnd : Box (∀ (V : World) (v' : Value) (a1 : Option Addr) (c1 : Nat), Below (w.heap.size + 2) wr V → PS (w.heap.size + 2) V (w.heap.size + 2) v' s1 → RS (w.heap.size + 2) V (.agg #[.int .i64 s1.sz, .int .i64 s1.nx, .slice a1 s1.L.length c1]) s1 →
          (V.cell? ⟨w.heap.size + 1, 0, none⟩ = some (.int .i64 s.sz) ∧ V.cell? ⟨w.heap.size + 1, 1, none⟩ = some (.int .i64 s.nx) ∧ V.cell? ⟨w.heap.size + 1, 2, none⟩ = some (.slice a2 s.L.length c2)) ∧ (V.frozen? ⟨w.heap.size + 1, 0, none⟩ = false ∧ V.frozen? ⟨w.heap.size + 1, 1, none⟩ = false ∧ V.frozen? ⟨w.heap.size + 1, 2, none⟩ = false) ∧
          Box (Box (PS (w.heap.size + 2) (put3 V (w.heap.size + 1) (.int .i64 s1.sz) (.int .i64 s1.nx) (.slice a1 s1.L.length c1)) (w.heap.size + 2) v' s1) ∧ Box ((put3 V (w.heap.size + 1) (.int .i64 s1.sz) (.int .i64 s1.nx) (.slice a1 s1.L.length c1)).heap[w.heap.size + 1]? = some (.cells #[.int .i64 s1.sz, .int .i64 s1.nx, .slice a1 s1.L.length c1] 31 (0, 0))) ∧ Box (RS (w.heap.size + 2) (put3 V (w.heap.size + 1) (.int .i64 s1.sz) (.int .i64 s1.nx) (.slice a1 s1.L.length c1)) (.agg #[.int .i64 s1.sz, .int .i64 s1.nx, .slice a1 s1.L.length c1]) s1) ∧ Box ((put3 V (w.heap.size + 1) (.int .i64 s1.sz) (.int .i64 s1.nx) (.slice a1 s1.L.length c1)).heap[w.heap.size]? = some (.cells #[.int .i64 0, .int .i64 0, .slice none 0 0] 31 (0, 0))) ∧ Box (Below w.heap.size w (put3 V (w.heap.size + 1) (.int .i64 s1.sz) (.int .i64 s1.nx) (.slice a1 s1.L.length c1))) ∧ Box (OpsAt w.heap.size (put3 V (w.heap.size + 1) (.int .i64 s1.sz) (.int .i64 s1.nx) (.slice a1 s1.L.length c1)) (some ⟨ob, of, none⟩) m F))) := boxed (by
        intro V v' a1 c1 hbV hpV hrV
        have e0 := (hbV.block (w.heap.size + 1) (by omega)).trans HC.out
        have e1 := (hbV.block w.heap.size (by omega)).trans HZ.out
        obtain ⟨hc, hf⟩ := cells3 e0
        have hch : Chg (fun q => q = w.heap.size + 1) V (put3 V (w.heap.size + 1) (.int .i64 s1.sz) (.int .i64 s1.nx) (.slice a1 s1.L.length c1)) := Chg.of_grown (put3_grown _ _ _ _ _) (fun g e => by injection e with e; exact e.symm)
        have hbw : Below w.heap.size w (put3 V (w.heap.size + 1) (.int .i64 s1.sz) (.int .i64 s1.nx) (.slice a1 s1.L.length c1)) := put3_below (HBr.out.trans (hbV.mono (by omega))) (by omega) (Nat.le_refl _) _ _ _
        refine ⟨hc, hf, boxed ⟨boxed ?_, boxed (put3_heap e0 _ _ _), boxed ?_, boxed ((put3_other (by omega) _ _ _).trans e1), boxed hbw, boxed ?_⟩⟩
        · refine hpV.keep hch ?_
          rintro q hO rfl
          have := hpV.lo2 _ hO
          omega
        · obtain ⟨u, eu, hu⟩ := hrV
          refine ⟨u, eu, chg_own hu hch ?_⟩
          rintro q hq rfl
          have := owns_ge hu _ hq
          omega
        · have hb2 : Below w.heap.size wr (put3 V (w.heap.size + 1) (.int .i64 s1.sz) (.int .i64 s1.nx) (.slice a1 s1.L.length c1)) := (hbV.mono (by omega)).trans (hch.below (by have := hbV.size; omega) (fun q hq => by omega))
          exact HOr.out.below hb2 (Nat.le_refl _))
      have HEnd2 : Box (∀ (V : World) (v' : Value) (a1 : Option Addr) (c1 : Nat), Below (w.heap.size + 2) wr V → PS (w.heap.size + 2) V (w.heap.size + 2) v' s1 → RS (w.heap.size + 2) V (.agg #[.int .i64 s1.sz, .int .i64 s1.nx, .slice a1 s1.L.length c1]) s1 →
          Box (Box (PS (w.heap.size + 2) ((put3 V (w.heap.size + 1) (.int .i64 s1.sz) (.int .i64 s1.nx) (.slice a1 s1.L.length c1)).alloc (.cells #[.int .i64 s1.sz, .int .i64 s1.nx, .slice a1 s1.L.length c1] 31)) (w.heap.size + 2) v' s1) ∧ Box (((put3 V (w.heap.size + 1) (.int .i64 s1.sz) (.int .i64 s1.nx) (.slice a1 s1.L.length c1)).alloc (.cells #[.int .i64 s1.sz, .int .i64 s1.nx, .slice a1 s1.L.length c1] 31)).heap[w.heap.size + 1]? = some (.cells #[.int .i64 s1.sz, .int .i64 s1.nx, .slice a1 s1.L.length c1] 31 (0, 0))) ∧ Box (RS (w.heap.size + 2) ((put3 V (w.heap.size + 1) (.int .i64 s1.sz) (.int .i64 s1.nx) (.slice a1 s1.L.length c1)).alloc (.cells #[.int .i64 s1.sz, .int .i64 s1.nx, .slice a1 s1.L.length c1] 31)) (.agg #[.int .i64 s1.sz, .int .i64 s1.nx, .slice a1 s1.L.length c1]) s1) ∧ Box (((put3 V (w.heap.size + 1) (.int .i64 s1.sz) (.int .i64 s1.nx) (.slice a1 s1.L.length c1)).alloc (.cells #[.int .i64 s1.sz, .int .i64 s1.nx, .slice a1 s1.L.length c1] 31)).heap[w.heap.size]? = some (.cells #[.int .i64 0, .int .i64 0, .slice none 0 0] 31 (0, 0))) ∧ Box (Below w.heap.size w ((put3 V (w.heap.size + 1) (.int .i64 s1.sz) (.int .i64 s1.nx) (.slice a1 s1.L.length c1)).alloc (.cells #[.int .i64 s1.sz, .int .i64 s1.nx, .slice a1 s1.L.length c1] 31))) ∧ Box (OpsAt w.heap.size ((put3 V (w.heap.size + 1) (.int .i64 s1.sz) (.int .i64 s1.nx) (.slice a1 s1.L.length c1)).alloc (.cells #[.int .i64 s1.sz, .int .i64 s1.nx, .slice a1 s1.L.length c1] 31)) (some ⟨ob, of, none⟩) m F))) := boxed (by
        intro V v' a1 c1 hbV hpV hrV
        obtain ⟨-, -, HQ⟩ := HEnd.out V v' a1 c1 hbV hpV hrV
        obtain ⟨q1, q2, q3, q4, q5, q6⟩ := HQ.out
        have hal : Below (put3 V (w.heap.size + 1) (.int .i64 s1.sz) (.int .i64 s1.nx) (.slice a1 s1.L.length c1)).heap.size (put3 V (w.heap.size + 1) (.int .i64 s1.sz) (.int .i64 s1.nx) (.slice a1 s1.L.length c1)) ((put3 V (w.heap.size + 1) (.int .i64 s1.sz) (.int .i64 s1.nx) (.slice a1 s1.L.length c1)).alloc (.cells #[.int .i64 s1.sz, .int .i64 s1.nx, .slice a1 s1.L.length c1] 31)) := (Below.refl _ _).alloc (Nat.le_refl _) _
        have hz := q5.out.size
        exact boxed ⟨boxed (q1.out.below hal), boxed ((hal.block _ (heap_lt q2.out)).trans q2.out), boxed (q3.out.below hal), boxed ((hal.block _ (heap_lt q4.out)).trans q4.out), boxed (q5.out.trans (hal.mono hz)), boxed (q6.out.below hal hz)⟩)
      have HD : Box (Below wr.heap.size wr wr.drew) := boxed (Below.refl _ _).drew
      have HDa : Box (Below wr.heap.size wr (wr.alloc (.cells #[.int .i64 0, .int .i64 0, .slice none 0 0] 31)).drew) := boxed ((Below.refl _ _).alloc (Nat.le_refl _) _).drew
      have HXd := boxed (HX.out _ (HD.out.mono (by omega)))
      have HXa := boxed (HX.out _ (HDa.out.mono (by omega)))
      have HWA : Box (∀ (w5 : World) (v' : Value) (a1 : Option Addr) (c1 : Nat), PS (w.heap.size + 2) w5 (w.heap.size + 2) v' s1 → RS (w.heap.size + 2) w5 (.agg #[.int .i64 s1.sz, .int .i64 s1.nx, .slice a1 s1.L.length c1]) s1 → Chg (Own (w.heap.size + 2) v) (wr.alloc (.cells #[.int .i64 0, .int .i64 0, .slice none 0 0] 31)).drew w5 →
          Box (Below (w.heap.size + 2) wr w5) ∧ Box (Below (w.heap.size + 2) wr (((w5.setCell ⟨wr.heap.size, 0, none⟩ (.int .i64 s1.sz)).setCell ⟨wr.heap.size, 1, none⟩ (.int .i64 s1.nx)).setCell ⟨wr.heap.size, 2, none⟩ (.slice a1 s1.L.length c1))) ∧ Box (PS (w.heap.size + 2) (((w5.setCell ⟨wr.heap.size, 0, none⟩ (.int .i64 s1.sz)).setCell ⟨wr.heap.size, 1, none⟩ (.int .i64 s1.nx)).setCell ⟨wr.heap.size, 2, none⟩ (.slice a1 s1.L.length c1)) (w.heap.size + 2) v' s1) ∧ Box (RS (w.heap.size + 2) (((w5.setCell ⟨wr.heap.size, 0, none⟩ (.int .i64 s1.sz)).setCell ⟨wr.heap.size, 1, none⟩ (.int .i64 s1.nx)).setCell ⟨wr.heap.size, 2, none⟩ (.slice a1 s1.L.length c1)) (.agg #[.int .i64 s1.sz, .int .i64 s1.nx, .slice a1 s1.L.length c1]) s1) ∧ ((w5.cell? ⟨wr.heap.size, 0, none⟩ = some (.int .i64 0) ∧ w5.cell? ⟨wr.heap.size, 1, none⟩ = some (.int .i64 0) ∧ w5.cell? ⟨wr.heap.size, 2, none⟩ = some (.slice none 0 0)) ∧ w5.frozen? ⟨wr.heap.size, 0, none⟩ = false ∧ w5.frozen? ⟨wr.heap.size, 1, none⟩ = false ∧ w5.frozen? ⟨wr.heap.size, 2, none⟩ = false) ∧
          ((((w5.setCell ⟨wr.heap.size, 0, none⟩ (.int .i64 s1.sz)).setCell ⟨wr.heap.size, 1, none⟩ (.int .i64 s1.nx)).setCell ⟨wr.heap.size, 2, none⟩ (.slice a1 s1.L.length c1)).cell? ⟨wr.heap.size, 0, none⟩ = some (.int .i64 s1.sz) ∧ (((w5.setCell ⟨wr.heap.size, 0, none⟩ (.int .i64 s1.sz)).setCell ⟨wr.heap.size, 1, none⟩ (.int .i64 s1.nx)).setCell ⟨wr.heap.size, 2, none⟩ (.slice a1 s1.L.length c1)).cell? ⟨wr.heap.size, 1, none⟩ = some (.int .i64 s1.nx) ∧ (((w5.setCell ⟨wr.heap.size, 0, none⟩ (.int .i64 s1.sz)).setCell ⟨wr.heap.size, 1, none⟩ (.int .i64 s1.nx)).setCell ⟨wr.heap.size, 2, none⟩ (.slice a1 s1.L.length c1)).cell? ⟨wr.heap.size, 2, none⟩ = some (.slice a1 s1.L.length c1))) := boxed (by
        intro w5 v' a1 c1 hp5 hr5 hc5
        have hpd := HP.out.below HDa.out
        have hb5 : Below (w.heap.size + 2) wr w5 := (HDa.out.mono (by omega)).trans (hc5.below (by simp; omega) (fun q hq => HP.out.lo2 q hq))
        have e0 : (wr.alloc (.cells #[.int .i64 0, .int .i64 0, .slice none 0 0] 31)).drew.heap[wr.heap.size]? = some (.cells #[.int .i64 0, .int .i64 0, .slice none 0 0] 31 (0, 0)) := heap_alloc_new _ _
        have hno : ¬ Own (w.heap.size + 2) v wr.heap.size := by
          rintro (e | e)
          · omega
          · exact own_ne hpd.own e0 (by decide) e
        have e5 := (hc5.block _ (heap_lt e0) hno).trans e0
        have hch : Chg (fun q => q = wr.heap.size) w5 (put3 w5 wr.heap.size (.int .i64 s1.sz) (.int .i64 s1.nx) (.slice a1 s1.L.length c1)) := Chg.of_grown (put3_grown _ _ _ _ _) (fun g e => by injection e with e; exact e.symm)
        refine ⟨boxed hb5, boxed ?_, boxed ?_, boxed ?_, cells3 e5, (cells3 (put3_heap e5 (.int .i64 s1.sz) (.int .i64 s1.nx) (.slice a1 s1.L.length c1))).1⟩
        · exact hb5.trans (hch.below (by have := hb5.size; omega) (fun q hq => by omega))
        · refine hp5.keep hch ?_
          rintro q hO rfl
          rcases hO with e | e
          · omega
          · exact own_ne hp5.own e5 (by decide) e
        · obtain ⟨u, eu, hu⟩ := hr5
          refine ⟨u, eu, chg_own hu hch ?_⟩
          rintro q hq rfl
          exact own_ne hu e5 (by decide) hq)
      have HWB : Box (∀ (w5 : World) (v' : Value) (a1 : Option Addr) (c1 : Nat), PS (w.heap.size + 2) w5 (w.heap.size + 2) v' s1 → RS (w.heap.size + 2) w5 (.agg #[.int .i64 s1.sz, .int .i64 s1.nx, .slice a1 s1.L.length c1]) s1 → Chg (Own (w.heap.size + 2) v) wr.drew w5 →
          Box (Below (w.heap.size + 2) wr w5) ∧ Box (Below (w.heap.size + 2) wr (w5.alloc (.cells #[.int .i64 0, .int .i64 0, .slice none 0 0] 31))) ∧ Box (Below (w.heap.size + 2) wr (w5.alloc (.cells #[.int .i64 s1.sz, .int .i64 s1.nx, .slice a1 s1.L.length c1] 31))) ∧ Box (PS (w.heap.size + 2) (w5.alloc (.cells #[.int .i64 s1.sz, .int .i64 s1.nx, .slice a1 s1.L.length c1] 31)) (w.heap.size + 2) v' s1) ∧ Box (RS (w.heap.size + 2) (w5.alloc (.cells #[.int .i64 s1.sz, .int .i64 s1.nx, .slice a1 s1.L.length c1] 31)) (.agg #[.int .i64 s1.sz, .int .i64 s1.nx, .slice a1 s1.L.length c1]) s1)) := boxed (by
        intro w5 v' a1 c1 hp5 hr5 hc5
        have hb5 : Below (w.heap.size + 2) wr w5 := (HD.out.mono (by omega)).trans (hc5.below (by simp; omega) (fun q hq => HP.out.lo2 q hq))
        have hz5 := hb5.size
        have hal : Below w5.heap.size w5 (w5.alloc (.cells #[.int .i64 s1.sz, .int .i64 s1.nx, .slice a1 s1.L.length c1] 31)) := (Below.refl _ _).alloc (Nat.le_refl _) _
        exact ⟨boxed hb5, boxed (hb5.alloc (by omega) _), boxed (hb5.alloc (by omega) _), boxed (hp5.below hal), boxed (hr5.below hal)⟩)
      clear q0 q1 q2 q3 hok
      go_wp2_with fail
      go_region_held3 (fun W' => W'.cell? ⟨w.heap.size + 1, 0, none⟩ = some (.int .i64 s.sz) ∧ W'.cell? ⟨w.heap.size + 1, 1, none⟩ = some (.int .i64 s.nx) ∧ W'.cell? ⟨w.heap.size + 1, 2, none⟩ = some (.slice a2 s.L.length c2) ∧ W'.cell? ⟨ob, of + k * 4, none⟩ = some (.int .i64 o1) ∧ W'.cell? ⟨ob, of + k * 4 + 1, none⟩ = some (.int .i64 o2) ∧ W'.cell? ⟨ob, of + k * 4 + 2, none⟩ = some (.int .i64 o3) ∧ W'.cell? ⟨ob, of + k * 4 + 3, none⟩ = some (.bool o4))
        (first | with_reducible exact HXd.out | with_reducible exact HXa.out | with_reducible exact HX5.out | with_reducible exact HX6.out | with_reducible exact HX7.out)
        (first
          | (go_at_call 19; with_reducible refine (HSt.out _ HDa.out).mono ?_; rintro e' w5 ⟨⟨xx, v', rfl, hp5, hr5⟩, hc5⟩; obtain ⟨a1, c1, rfl, -⟩ := rbox hr5; obtain ⟨HB5, HB6, HP6, HR6, ⟨⟨x0, x1, x2⟩, z0, z1, z2⟩, y0, y1, y2⟩ := HWA.out w5 v' a1 c1 hp5 hr5 hc5; have HX5 := boxed (HX.out _ HB5.out); have HX6 := boxed (HX.out _ HB6.out); have HX7 := boxed trivial; obtain ⟨⟨e0, e1, e2⟩, ⟨f0, f1, f2⟩, HQ⟩ := HEnd.out _ _ _ _ HB6.out HP6.out HR6.out; clear hp5 hr5 hc5)
          | (go_at_call 19; with_reducible refine (HSt.out _ HD.out).mono ?_; rintro e' w5 ⟨⟨xx, v', rfl, hp5, hr5⟩, hc5⟩; obtain ⟨a1, c1, rfl, -⟩ := rbox hr5; obtain ⟨HB5, HB6, HB7, HP7, HR7⟩ := HWB.out w5 v' a1 c1 hp5 hr5 hc5; have HX5 := boxed (HX.out _ HB5.out); have HX6 := boxed (HX.out _ HB6.out); have HX7 := boxed (HX.out _ HB7.out); obtain ⟨⟨e0, e1, e2⟩, ⟨f0, f1, f2⟩, -⟩ := HEnd.out _ _ _ _ HB5.out hp5 hr5; have HQ := HEnd2.out _ _ _ _ HB5.out hp5 hr5; have hlt9 : w.heap.size + 1 < w5.heap.size := (Nat.lt_of_lt_of_le (by omega) HB5.out.size); clear hp5 hr5 hc5))
      all_goals
        go_wp2_with fail
        go_roundw
        case rel => exact ⟨k + 1, _, _, _, by omega, by omega, by go_num, by rw [HS1.out]; exact HQ.out.1, by rw [HS1.out]; exact HQ.out.2.1, by rw [HS1.out]; exact HQ.out.2.2.1, HQ.out.2.2.2.1, HQ.out.2.2.2.2.1, HQ.out.2.2.2.2.2⟩
        case measure => simp [intOf]; omega
    · have hmin : k = min m 80 := by omega
      obtain ⟨s, hs⟩ : ∃ s, pls n F k = s := ⟨_, rfl⟩
      have HS : Box (pls n F (min m 80) = s) := boxed (by rw [← hmin]; exact hs)
      rw [hs] at HP HC HR hok
      have HE : Box (∀ q, Box ((put3 (wr.drewN q) w.heap.size (.int .i64 s.sz) (.int .i64 s.nx) (.slice a2 s.L.length c2)).heap[w.heap.size]? = some (.cells #[.int .i64 s.sz, .int .i64 s.nx, .slice a2 s.L.length c2] 31 (0, 0))) ∧ Box (PS w.heap.size (put3 (wr.drewN q) w.heap.size (.int .i64 s.sz) (.int .i64 s.nx) (.slice a2 s.L.length c2)) (w.heap.size + 2) v s) ∧ Box (RS w.heap.size (put3 (wr.drewN q) w.heap.size (.int .i64 s.sz) (.int .i64 s.nx) (.slice a2 s.L.length c2)) (.agg #[.int .i64 s.sz, .int .i64 s.nx, .slice a2 s.L.length c2]) s) ∧ Box (Below w.heap.size w (put3 (wr.drewN q) w.heap.size (.int .i64 s.sz) (.int .i64 s.nx) (.slice a2 s.L.length c2)))) := boxed (by
        intro q
        have e0 : (wr.drewN q).heap[w.heap.size]? = some (.cells #[.int .i64 0, .int .i64 0, .slice none 0 0] 31 (0, 0)) := HZ.out
        have hch : Chg (fun z => z = w.heap.size) wr (put3 (wr.drewN q) w.heap.size (.int .i64 s.sz) (.int .i64 s.nx) (.slice a2 s.L.length c2)) := (Chg.of_below (bel_drewN _ wr q)).trans (Chg.of_grown (put3_grown _ _ _ _ _) (fun g e => by injection e with e; exact e.symm))
        refine ⟨boxed (put3_heap e0 _ _ _), boxed ?_, boxed ?_, boxed ?_⟩
        · have hk := HP.out.keep hch (by
            rintro z hO rfl
            have := HP.out.lo2 _ hO
            omega)
          exact ⟨by omega, hk.blk, own_mono hk.own (by omega)⟩
        · obtain ⟨u, eu, hu⟩ := HR.out
          refine ⟨u, eu, own_mono (chg_own hu hch ?_) (by omega)⟩
          rintro z hz rfl
          have := owns_ge hu _ hz
          omega
        · exact put3_below (HBr.out.trans ((bel_drewN _ _ _))) (Nat.le_refl _) (Nat.le_refl _) _ _ _)
      obtain ⟨⟨c0, c1, c2'⟩, -⟩ := cells3 HC.out
      obtain ⟨⟨x0, x1, x2⟩, z0, z1, z2⟩ := cells3 HZ.out
      by_cases hkm : k < m
      · have hkm2 : (k : Int) < (m : Int) := by omega
        have hk82 : ¬ (k : Int) < 80 := by omega
        clear hs hmin hlt
        go_wp2_with fail
        go_region
        go_wp2_with fail
        refine bodyPost_ret (v := .tuple #[.pointer (some ⟨w.heap.size + 2, 0, none⟩), .agg #[.int .i64 s.sz, .int .i64 s.nx, .slice a2 s.L.length c2]]) ?_ ?_ ?_
        · exact results_tmp_row Try.results11 _ _ w.heap.size 31 _ (0, 0) _ rfl (HE.out _).1.out Try.underlying31 rfl (by kernel_rfl)
        · rfl
        · exact ⟨⟨_, v, _, rfl, by rw [HS.out]; exact (HE.out _).2.1.out, by rw [HS.out]; exact (HE.out _).2.2.1.out⟩, (HE.out _).2.2.2.out⟩
      · have hkm2 : ¬ (k : Int) < (m : Int) := by omega
        clear hs hmin hlt
        go_wp2_with fail
        go_region
        go_wp2_with fail
        refine bodyPost_ret (v := .tuple #[.pointer (some ⟨w.heap.size + 2, 0, none⟩), .agg #[.int .i64 s.sz, .int .i64 s.nx, .slice a2 s.L.length c2]]) ?_ ?_ ?_
        · exact results_tmp_row Try.results11 _ _ w.heap.size 31 _ (0, 0) _ rfl (HE.out _).1.out Try.underlying31 rfl (by kernel_rfl)
        · rfl
        · exact ⟨⟨_, v, _, rfl, by rw [HS.out]; exact (HE.out _).2.1.out, by rw [HS.out]; exact (HE.out _).2.2.1.out⟩, (HE.out _).2.2.2.out⟩
end
end Go.Proofs.Ytdaccgnfhagoeaa
