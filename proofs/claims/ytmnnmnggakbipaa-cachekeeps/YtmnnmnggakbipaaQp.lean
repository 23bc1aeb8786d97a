/-
  What add does: an entry comes to the front, and into the bucket of its number.
-/
import Derived.Test.YtmnnmnggakbipaaQo
import Derived.Test.YtmnnmnggakbipaaQn
namespace Go.Proofs.Ytmnnmnggakbipaa
open Go.RowKit
set_option linter.unusedSimpArgs false
set_option linter.unusedVariables false

section
variable {w w' : World} {F F' : Nat → Prop} {cb mb : Nat} {room fo mi : Int} {L : List En} {e : En} {Bk : Int → List Nat} {M : Int → Option Value} {v' : Value}
theorem bv_put (M : Int → Option Value) (g : Int) (v : Value) : bv (mput M g v) g = v := by unfold bv; rw [mput_eq]; rfl
theorem bv_put_ne (M : Int → Option Value) {g x : Int} (v : Value) (c : x ≠ g) : bv (mput M g v) x = bv M x := by unfold bv; rw [mput_ne c]
theorem BkAt.added (h : BkAt w F mb L Bk M) {g : Int} (hg : hsh e.k.ky = g) (hnb : ∀ x ∈ L, x.b ≠ e.b) (hm : MapAt w' mb (mput M g v')) (hrow : w'.ownsRow 0 74 1 v' (Bk g ++ [e.b]).length (pts (Bk g ++ [e.b])))
    (hown : ∀ b, v'.ownBlock = some b → (bv M g).ownBlock = some b ∨ w.heap.size ≤ b) (hoth : ∀ x, x ≠ g → ∀ b, (bv M x).ownBlock = some b → w'.heap[b]? = w.heap[b]?) (hF : ∀ b, F b → F' b) (hFv : ∀ b, v'.ownBlock = some b → F' b) :
    BkAt w' F' mb (e :: L) (bput Bk g (Bk g ++ [e.b])) (mput M g v') := by
  have hap : ∀ y b, y ≠ g → v'.ownBlock = some b → (bv M y).ownBlock ≠ some b := fun y b hy hb hb' => by
    rcases hown b hb with c | c
    · exact h.apart g y b (Ne.symm hy) c hb'
    · have := ((h.row y).lt b hb').2
      omega
  refine ⟨hm, fun x => ?_, fun x y b hxy hb => ?_, fun x b hb => ?_, hF _ h.fm, fun x hx => ?_, fun x b hb => ?_, fun x => ?_⟩
  · by_cases c : x = g
    · subst c; rw [bput_eq, bv_put]; exact hrow
    · rw [bput_ne _ _ c, bv_put_ne _ _ c]; exact owns_same (h.row x) (hoth x c)
  · by_cases c : x = g
    · subst c
      rw [bv_put] at hb
      rw [bv_put_ne _ _ (Ne.symm hxy)]
      exact hap y b (Ne.symm hxy) hb
    · rw [bv_put_ne _ _ c] at hb
      by_cases d : y = g
      · subst d
        rw [bv_put]
        exact fun c' => hap x b c c' hb
      · rw [bv_put_ne _ _ d]; exact h.apart x y b hxy hb
  · by_cases c : x = g
    · subst c; rw [bv_put] at hb; exact hFv b hb
    · rw [bv_put_ne _ _ c] at hb; exact hF _ (h.fr x b hb)
  · rcases List.mem_cons.1 hx with rfl | hx
    · rw [hg, bput_eq]; simp
    · have := h.in1 x hx
      by_cases c : hsh x.k.ky = g
      · rw [c] at this ⊢; rw [bput_eq]; simp [this]
      · rw [bput_ne _ _ c]; exact this
  · by_cases c : x = g
    · subst c
      rw [bput_eq] at hb
      rcases List.mem_append.1 hb with hb | hb
      · obtain ⟨y, hy, e1⟩ := h.in2 x b hb
        exact ⟨y, by simp [hy], e1⟩
      · simp at hb
        exact ⟨e, by simp, hb.symm, hg⟩
    · rw [bput_ne _ _ c] at hb
      obtain ⟨y, hy, e1⟩ := h.in2 x b hb
      exact ⟨y, by simp [hy], e1⟩
  · by_cases c : x = g
    · subst c
      rw [bput_eq, List.nodup_append]
      refine ⟨h.bn x, by simp, ?_⟩
      intro a ha b hb
      simp at hb
      subst hb
      obtain ⟨y, hy, e1, -⟩ := h.in2 x a ha
      rw [← e1]; exact hnb y hy
    · rw [bput_ne _ _ c]; exact h.bn x
/-- What there is when an entry has come. -/
theorem CaAt.add_end (h : CaAt w F cb mb room fo mi L Bk M) {g : Int} (hg : hsh e.k.ky = g) {a z : Option Nat} (hE : EnAt w e a z) (hFe : ¬ F e.b) (hk : KvAt (fun b => (¬ F b ∧ cb ≤ b) ∧ b ≠ e.b) w e.k ∧ Fits e.k ∧ e.k.rn ≤ e.k.rc) (hok : ∀ x ∈ L, KvAt (fun b => (¬ F b ∧ cb ≤ b) ∧ b ≠ e.b) w x.k) (hky : ∀ x ∈ L, x.k.ky ≠ e.k.ky) (hlen : ((L.length : Nat) : Int) < room)
    {w2 w4 : World} (h2 : Chg (fun b => (bv M g).ownBlock = some b ∨ b = mb) w w2) (hm : MapAt w2 mb (mput M g v')) (hrow : w2.ownsRow 0 74 1 v' (Bk g ++ [e.b]).length (pts (Bk g ++ [e.b])))
    (hown : ∀ b, v'.ownBlock = some b → (bv M g).ownBlock = some b ∨ w.heap.size ≤ b)
    (u1 : CaB w4 cb room (L.length : Nat) fo mi mb (some e.b) (lst none (e :: L))) (u2 : Seg w4 none (e :: L) none) (u4 : Chg (fun b => b = cb ∨ b = e.b ∨ b ∈ L.map En.b) w2 w4) :
    ∃ F' Bk' M', CaAt (w4.setCell ⟨cb, 1, none⟩ (.int .i64 ((L.length : Nat) + 1 : Int))) F' cb mb room fo mi (e :: L) Bk' M' ∧ (∀ b, F' b → F b ∨ b = e.b ∨ w.heap.size ≤ b) ∧ Chg (fun b => F b ∨ b = e.b) w (w4.setCell ⟨cb, 1, none⟩ (.int .i64 ((L.length : Nat) + 1 : Int))) := by
  obtain ⟨⟨n1, n2⟩, n3⟩ := h.far
  have hec := h.ca.ne hE
  have hem := h.bk.map.ne_cells hE
  have hnb : ∀ x ∈ L, x.b ≠ e.b := fun x hx c => hFe (by rw [← c]; exact h.fe x hx)
  have hF3 : Chg (fun b => F b ∨ b = e.b) w w2 := h2.mono (fun b _ hb => by
    rcases hb with hb | rfl
    · exact .inl (h.bk.fr g _ hb)
    · exact .inl h.bk.fm)
  have hD5 : Chg (fun b => b = cb ∨ b = e.b ∨ b ∈ L.map En.b) w2 (w4.setCell ⟨cb, 1, none⟩ (.int .i64 ((L.length : Nat) + 1 : Int))) := u4.trans (Chg.set _ _ _ _ (.inl rfl))
  have hF4 : Chg (fun b => F b ∨ b = e.b) w2 (w4.setCell ⟨cb, 1, none⟩ (.int .i64 ((L.length : Nat) + 1 : Int))) := hD5.mono (fun b _ hb => by
    rcases hb with rfl | hb | hb
    · exact .inl h.fc
    · exact .inr hb
    · obtain ⟨x, hx, rfl⟩ := List.mem_map.1 hb; exact .inl (h.fe x hx))
  have hall := hF3.trans hF4
  have hkeep : ∀ b, b < w2.heap.size → b ≠ cb → b ≠ e.b → (∀ x ∈ L, x.b ≠ b) → (w4.setCell ⟨cb, 1, none⟩ (.int .i64 ((L.length : Nat) + 1 : Int))).heap[b]? = w2.heap[b]? := fun b hb c1 c0 c2 => hD5.block b hb (fun c => by
    rcases c with c | c | c
    · exact c1 c
    · exact c0 c
    · obtain ⟨x, hx, e1⟩ := List.mem_map.1 c; exact c2 x hx e1)
  have hne : ∀ b, v'.ownBlock = some b → b ≠ cb ∧ b ≠ e.b ∧ ∀ x ∈ L, x.b ≠ b := fun b hb => by
    rcases hown b hb with c | c
    · obtain ⟨m1, m2, m3⟩ := n3 g b c
      exact ⟨m1, fun c' => hFe (by rw [← c']; exact h.bk.fr g b c), m3⟩
    · exact ⟨fun c' => by have := heap_lt h.ca; omega, fun c' => by have := heap_lt hE; omega, fun x hx c' => by have := h.seg.lt x hx; omega⟩
  have hother : ∀ x, x ≠ g → ∀ b, (bv M x).ownBlock = some b → (w4.setCell ⟨cb, 1, none⟩ (.int .i64 ((L.length : Nat) + 1 : Int))).heap[b]? = w.heap[b]? := fun x hx b hb => by
    obtain ⟨m1, m2, m3⟩ := n3 x b hb
    have hlt := ((h.bk.row x).lt b hb).2
    rw [hkeep b (Nat.lt_of_lt_of_le hlt h2.size) m1 (fun c' => hFe (by rw [← c']; exact h.bk.fr x b hb)) m3]
    refine h2.block b hlt (fun c => ?_)
    rcases c with c | c
    · exact h.bk.apart x g b hx hb c
    · exact m2 c
  refine ⟨fun b => F b ∨ b = e.b ∨ v'.ownBlock = some b, bput Bk g (Bk g ++ [e.b]), mput M g v', ⟨?_, ?_, ?_, ?_, .inl h.fc, ?_, ?_, ?_, ?_, ?_, h.room⟩, ?_, hall⟩
  · have := u1.setCnt ((L.length : Nat) + 1 : Int)
    rw [hd_cons, List.length_cons]
    simpa using this
  · exact u2.keep (fun x hx => set_other _ _ _ _ _ (u2.ne u1 x hx))
  · rw [List.map_cons, List.nodup_cons]
    exact ⟨fun c => by obtain ⟨x, hx, e1⟩ := List.mem_map.1 c; exact hnb x hx e1, h.nd⟩
  · refine h.bk.added hg hnb ?_ ?_ hown hother (fun b hb => .inl hb) (fun b hb => .inr (.inr hb))
    · exact hm.keep (hkeep mb hm.lt n1 (Ne.symm hem) (fun x hx => n2 x hx))
    · refine owns_same hrow (fun b hb => ?_)
      obtain ⟨m1, m2, m3⟩ := hne b hb
      exact hkeep b (hrow.lt b hb).2 m1 m2 m3
  · intro b hb
    rcases hb with hb | rfl | hb
    · exact Nat.lt_of_lt_of_le (h.fl b hb) hall.size
    · exact Nat.lt_of_lt_of_le (heap_lt hE) hall.size
    · exact Nat.lt_of_lt_of_le (hrow.lt b hb).2 hF4.size
  · intro x hx
    rcases List.mem_cons.1 hx with rfl | hx
    · exact .inr (.inl rfl)
    · exact .inl (h.fe x hx)
  · rw [List.pairwise_cons]
    exact ⟨fun x hx => Ne.symm (hky x hx), h.kn⟩
  · intro x hx
    have hkp : ∀ k : Kv, KvAt (fun b => (¬ F b ∧ cb ≤ b) ∧ b ≠ e.b) w k → KvAt (fun b => ¬ (F b ∨ b = e.b ∨ v'.ownBlock = some b) ∧ cb ≤ b) (w4.setCell ⟨cb, 1, none⟩ (.int .i64 ((L.length : Nat) + 1 : Int))) k := fun k hk => P2At.keep hk (fun b i u hs hc => by
      have hlt := World.block_lt_of_cell? w _ hc
      simp only at hlt
      refine ⟨⟨fun c => ?_, hs.1.2⟩, ?_⟩
      · rcases c with c | c | c
        · exact hs.1.1 c
        · exact hs.2 c
        · rcases hown b c with d | d
          · exact hs.1.1 (h.bk.fr g b d)
          · omega
      · rw [World.cell?_of_block (a := ⟨b, i, none⟩) (hall.block b hlt (fun c => by
          rcases c with c | c
          · exact hs.1.1 c
          · exact hs.2 c))]; exact hc)
    rcases List.mem_cons.1 hx with rfl | hx
    · exact ⟨hkp _ hk.1, hk.2⟩
    · obtain ⟨k1, k2⟩ := h.key x hx
      exact ⟨hkp _ (hok x hx), k2⟩
  · simp only [List.length_cons]; omega
  · intro b hb
    rcases hb with hb | hb | hb
    · exact .inl hb
    · exact .inr (.inl hb)
    · rcases hown b hb with c | c
      · exact .inl (h.bk.fr g b c)
      · exact .inr (.inr c)
end
end Go.Proofs.Ytmnnmnggakbipaa
