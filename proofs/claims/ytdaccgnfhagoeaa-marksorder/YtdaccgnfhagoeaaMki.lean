/-
  What the program's Drop does.
-/
import Derived.Test.YtdaccgnfhagoeaaMkg
namespace Go.Proofs.Ytdaccgnfhagoeaa
open Go.RowKit
set_option linter.unusedSimpArgs false
set_option linter.unusedVariables false

section
variable {B : Nat} {w : World} {sb : Nat} {v : Value} {s : St} {N : Int}
set_option maxRecDepth 100000 in
set_option maxHeartbeats 2000000 in
theorem drop16_any (h : PS B w sb v s) (hB : B ≤ w.heap.size) (hk : s.ok N) (d : Int) :
    Calls Try.prog 23 #[.pointer (some ⟨sb, 0, none⟩), .int .i64 d] w fun e w' => e = .returned (.int .i64 (s.drop d).2) ∧ (∃ v', PS B w' sb v' (s.drop d).1) ∧ Chg (Own sb v) w w' := by
  have hf := find16_any h hk.rise (by have := hk.len; omega) d
  have HP := boxed h
  have HK := boxed hk
  clear h hk
  go_enter Try.func23, Try.ntmps23
  go_wp2_with fail
  refine hf.mono ?_
  rintro e w1 ⟨⟨q, fb, rfl, h1, h2, h3⟩, hb⟩
  have hP1 := HP.out.below hb
  have HCb : Box (Chg (Own sb v) w w1) := boxed (Chg.of_below hb)
  have HP1 := boxed hP1
  clear hf hb HP
  cases fb
  · have HE : Box (s.drop d = (s, 160)) := boxed (by unfold St.drop; rw [if_neg (of_decide_eq_false h2.symm)])
    clear h1 h2 h3 hP1
    go_wp2_with fail
    go_ret
    exact ⟨by rw [HE.out]; rfl, ⟨v, by rw [HE.out]; exact HP1.out⟩, HCb.out⟩
  have hq : q = ix s.L d := h3 rfl
  have hlt : ix s.L d < s.L.length := of_decide_eq_true h2.symm
  have HE : Box (s.drop d = ({ s with L := s.L.eraseIdx (ix s.L d) }, 0)) := boxed (by unfold St.drop; rw [if_pos hlt])
  obtain ⟨⟨-, -, c2⟩, -⟩ := hP1.cells
  have hlo := hP1.lo
  have hblk := hP1.blk
  rcases hP1.own.2 with ⟨rfl, hn0⟩ | ⟨g, cap, cur, rfl, hBg, hh, hcap, hmx, hsz, hx⟩
  · omega
  obtain ⟨m, hm⟩ : ∃ m, s.L.length = m + 1 := ⟨s.L.length - 1, by omega⟩
  have hlen := HK.out.len
  have hne := own_ne hP1.own hP1.blk (by decide)
  have hgs : g ≠ sb := fun e => hne (by rw [e]; rfl)
  rw [hm] at hx hcap
  have HD := boxed (delslice_any g m cap (ix s.L d) cur s.L B hBg w1 hh hsz hx hm hcap hmx (by omega))
  have HFin : Box (∀ w2, w2.ownsRow B 36 3 (.slice (some ⟨g, 0, none⟩) m cap) m (mcs (s.L.eraseIdx (ix s.L d))) → w1.grownBy w2 (some g) → (w2.frozen? ⟨sb, 2, none⟩ = false ∧ (w2.cell? ⟨sb, 2, none⟩ = some (.slice (some ⟨g, 0, none⟩) (m + 1) cap))) ∧ PS B (w2.setCell ⟨sb, 2, none⟩ (.slice (some ⟨g, 0, none⟩) m cap)) sb (.slice (some ⟨g, 0, none⟩) m cap) { s with L := s.L.eraseIdx (ix s.L d) } ∧ Chg (Own sb (.slice (some ⟨g, 0, none⟩) s.L.length cap)) w (w2.setCell ⟨sb, 2, none⟩ (.slice (some ⟨g, 0, none⟩) m cap))) := boxed (by
    intro w2 ho hg
    have hs2 : w2.heap[sb]? = some (.cells #[.int .i64 s.sz, .int .i64 s.nx, .slice (some ⟨g, 0, none⟩) (m + 1) cap] 61 (0, 0)) := by
      rw [hg.block sb (heap_lt hblk) (fun e => hgs (by injection e with e; exact e.symm)), hblk, hm]
    obtain ⟨⟨-, -, e2⟩, -, -, f2⟩ := cells3 hs2
    refine ⟨⟨f2, e2⟩, ⟨hlo, ?_, ?_⟩, ?_⟩
    · have := arr_set (k := 2) (.slice (some ⟨g, 0, none⟩) m cap) hs2
      simpa using this
    · have hl : (s.L.eraseIdx (ix s.L d)).length = m := by rw [List.length_eraseIdx, if_pos hlt, hm]; omega
      show World.ownsRow _ B 36 3 _ (s.L.eraseIdx (ix s.L d)).length (mcs (s.L.eraseIdx (ix s.L d)))
      rw [hl]
      exact ho.kept (grown_set w2 sb 2 _) (Or.inr (own_ne ho hs2 (by decide)))
    · exact (HCb.out.trans (Chg.of_grown hg (fun k e => by injection e with e; subst e; exact .inr rfl))).trans (Chg.set w2 sb 2 _ (.inl rfl)))
  rw [hm] at HFin c2
  subst hq
  clear h1 h2 h3 hP1 HP1 hx hcap hh hmx hsz hblk hne HCb
  rw [hm] at hlt
  have hq1 : ((ix s.L d : Nat) : Int) < 1024 := by omega
  generalize hQ : s.L.eraseIdx (ix s.L d) = Q at *
  generalize ix s.L d = q at *
  have hq0 : (0 : Int) ≤ (q : Int) + 1 := by omega
  go_wp2_with fail
  refine HD.out.mono ?_
  rintro e w2 ⟨rfl, ho2, hg2⟩
  obtain ⟨⟨f2, e2⟩, hp, hc⟩ := HFin.out w2 ho2 hg2
  have HPp := boxed hp
  have HCc := boxed hc
  clear ho2 hg2 hp hc HFin HD
  go_wp2_with fail
  go_ret
  exact ⟨by rw [HE.out]; rfl, ⟨_, by rw [HE.out]; exact HPp.out⟩, HCc.out⟩
end
end Go.Proofs.Ytdaccgnfhagoeaa
