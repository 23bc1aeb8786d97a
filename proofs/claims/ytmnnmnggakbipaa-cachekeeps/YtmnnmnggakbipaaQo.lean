/-
  What drop does: the last entry goes.
-/
import Derived.Test.YtmnnmnggakbipaaQm
namespace Go.Proofs.Ytmnnmnggakbipaa
open Go.RowKit
set_option linter.unusedSimpArgs false
set_option linter.unusedVariables false

/-- Another bucket for a number. -/
def bput (Bk : Int → List Nat) (h : Int) (l : List Nat) (g : Int) : List Nat := if g = h then l else Bk g
theorem bput_eq (Bk : Int → List Nat) (h : Int) (l : List Nat) : bput Bk h l h = l := if_pos rfl
theorem bput_ne (Bk : Int → List Nat) {h : Int} (l : List Nat) {g : Int} (c : g ≠ h) : bput Bk h l g = Bk g := if_neg c
section
variable {w w' : World} {F : Nat → Prop} {cb mb : Nat} {room cnt fo mi : Int} {A : List En} {e : En} {Bk : Int → List Nat} {M M' : Int → Option Value}
theorem BkAt.dropped (h : BkAt w F mb (A ++ [e]) Bk M) (hn : ((A ++ [e]).map En.b).Nodup) {g : Int} (hg : hsh e.k.ky = g) {i : Nat} (hi : (Bk g)[i]? = some e.b) (hm : MapAt w' mb M') (hMo : ∀ x, x ≠ g → M' x = M x)
    (hrow : w'.ownsRow 0 74 1 (bv M' g) ((Bk g).eraseIdx i).length (pts ((Bk g).eraseIdx i))) (hown : ∀ b, (bv M' g).ownBlock = some b → (bv M g).ownBlock = some b)
    (hoth : ∀ x, x ≠ g → ∀ b, (bv M x).ownBlock = some b → w'.heap[b]? = w.heap[b]?) : BkAt w' F mb A (bput Bk g ((Bk g).eraseIdx i)) M' := by
  have hbv : ∀ x, x ≠ g → bv M' x = bv M x := fun x hx => by unfold bv; rw [hMo x hx]
  have hown2 : ∀ x b, (bv M' x).ownBlock = some b → (bv M x).ownBlock = some b := fun x b hb => by
    by_cases c : x = g
    · subst c; exact hown b hb
    · rw [hbv x c] at hb; exact hb
  have hbg := h.bn g
  have hie := List.getElem?_eq_some_iff.1 hi
  refine ⟨hm, fun x => ?_, fun x y b hxy hb hb' => h.apart x y b hxy (hown2 x b hb) (hown2 y b hb'), fun x b hb => h.fr x b (hown2 x b hb), h.fm, fun x hx => ?_, fun x b hb => ?_, fun x => ?_⟩
  · by_cases c : x = g
    · subst c; rw [bput_eq]; exact hrow
    · rw [bput_ne _ _ c, hbv x c]; exact owns_same (h.row x) (hoth x c)
  · have h1 := h.in1 x (by simp [hx])
    by_cases c : hsh x.k.ky = g
    · rw [c] at h1 ⊢
      rw [bput_eq]
      obtain ⟨j, hj, ej⟩ := List.getElem_of_mem h1
      refine List.mem_eraseIdx_iff_getElem?.2 ⟨j, ?_, by rw [List.getElem?_eq_getElem hj, ej]⟩
      intro cj
      subst cj
      rw [hie.2] at ej
      simp only [List.map_append, List.map_cons, List.map_nil, List.nodup_append] at hn
      exact hn.2.2 _ (List.mem_map.2 ⟨x, hx, rfl⟩) _ (by simp) ej.symm
    · rw [bput_ne _ _ c]; exact h1
  · have hxb : b ∈ Bk x ∧ b ≠ e.b := by
      by_cases c : x = g
      · subst c
        rw [bput_eq] at hb
        obtain ⟨j, hj, ej⟩ := List.mem_eraseIdx_iff_getElem?.1 hb
        refine ⟨List.mem_of_getElem? ej, fun ce => hj ?_⟩
        subst ce
        exact (List.getElem?_inj (List.getElem?_eq_some_iff.1 ej).1 hbg).1 (by rw [ej, hi])
      · rw [bput_ne _ _ c] at hb
        refine ⟨hb, fun ce => ?_⟩
        subst ce
        obtain ⟨y, hy, e1, e2⟩ := h.in2 x _ hb
        have : y = e := blk_uniq hn hy (by simp) e1
        rw [this] at e2
        exact c (e2.symm.trans hg)
    obtain ⟨y, hy, e1, e2⟩ := h.in2 x b hxb.1
    refine ⟨y, ?_, e1, e2⟩
    rcases List.mem_append.1 hy with hy | hy
    · exact hy
    · simp at hy
      subst hy
      exact absurd e1.symm hxb.2
  · by_cases c : x = g
    · subst c; rw [bput_eq]; exact hbg.sublist (List.eraseIdx_sublist _ _)
    · rw [bput_ne _ _ c]; exact h.bn x
end

section
variable {w : World} {F : Nat → Prop} {cb mb : Nat} {room fo mi : Int} {A : List En} {e : En} {Bk : Int → List Nat} {M : Int → Option Value}
/-- What is left when the last entry has gone. -/
theorem CaAt.drop_end (h : CaAt w F cb mb room fo mi (A ++ [e]) Bk M) {g : Int} (hg : hsh e.k.ky = g) {i gb : Nat} (hgb : (bv M g).ownBlock = some gb) (hi : (Bk g)[i]? = some e.b) {w3 w4 : World} {M' : Int → Option Value} (h3 : Chg (fun b => b = gb ∨ b = mb) w w3) (hm : MapAt w3 mb M') (hMo : ∀ x, x ≠ g → M' x = M x)
    (hrow : w3.ownsRow 0 74 1 (bv M' g) ((Bk g).eraseIdx i).length (pts ((Bk g).eraseIdx i))) (hown : ∀ b, (bv M' g).ownBlock = some b → (bv M g).ownBlock = some b)
    (u1 : CaB w4 cb room ((A.length : Nat) + 1 : Int) fo mi mb (hd (A ++ []) none) (lst none (A ++ []))) (u2 : Seg w4 none (A ++ []) none) (u4 : Chg (fun b => b = cb ∨ b ∈ (A ++ []).map En.b) w3 w4) :
    ∃ Bk' M', CaAt (w4.setCell ⟨cb, 1, none⟩ (.int .i64 (A.length : Nat))) F cb mb room fo mi A Bk' M' ∧ Chg F w (w4.setCell ⟨cb, 1, none⟩ (.int .i64 (A.length : Nat))) := by
  rw [List.append_nil] at u1 u2 u4
  obtain ⟨⟨n1, n2⟩, n3⟩ := h.far
  have hF3 : Chg F w w3 := h3.mono (fun b _ hb => by
    rcases hb with rfl | rfl
    · exact h.bk.fr g _ hgb
    · exact h.bk.fm)
  have hA : ∀ x ∈ A, x ∈ A ++ [e] := fun x hx => by simp [hx]
  have hD4 : ∀ b, (b = cb ∨ b ∈ A.map En.b) → F b := fun b hb => by
    rcases hb with rfl | hb
    · exact h.fc
    · obtain ⟨x, hx, rfl⟩ := List.mem_map.1 hb; exact h.fe x (hA x hx)
  have hF4 : Chg F w3 (w4.setCell ⟨cb, 1, none⟩ (.int .i64 (A.length : Nat))) := (u4.mono (fun b _ hb => hD4 b hb)).trans (Chg.set _ _ _ _ h.fc)
  have hD5 : Chg (fun b => b = cb ∨ b ∈ A.map En.b) w3 (w4.setCell ⟨cb, 1, none⟩ (.int .i64 (A.length : Nat))) := u4.trans (Chg.set _ _ _ _ (.inl rfl))
  have hall := hF3.trans hF4
  have hkeep : ∀ b, b < w3.heap.size → b ≠ cb → (∀ x ∈ A, x.b ≠ b) → (w4.setCell ⟨cb, 1, none⟩ (.int .i64 (A.length : Nat))).heap[b]? = w3.heap[b]? := fun b hb c1 c2 => hD5.block b hb (fun c => by
    rcases c with c | c
    · exact c1 c
    · obtain ⟨x, hx, e1⟩ := List.mem_map.1 c; exact c2 x hx e1)
  have hr3 : ∀ b, (bv M' g).ownBlock = some b → b < w3.heap.size := fun b hb => (hrow.lt b hb).2
  refine ⟨bput Bk g ((Bk g).eraseIdx i), M', ⟨?_, ?_, ?_, ?_, h.fc, fun b hf => Nat.lt_of_lt_of_le (h.fl b hf) hall.size, fun x hx => h.fe x (hA x hx), (List.pairwise_append.1 h.kn).1, fun x hx => ⟨P2At.keep (h.key x (hA x hx)).1 (hall.kpk (fun b _ hb => hb)), (h.key x (hA x hx)).2⟩, ?_, h.room⟩, hall⟩
  · exact u1.setCnt _
  · exact u2.keep (fun x hx => set_other _ _ _ _ _ (u2.ne u1 x hx))
  · have := h.nd
    rw [List.map_append, List.nodup_append] at this
    exact this.1
  · refine h.bk.dropped h.nd hg hi ?_ hMo ?_ hown ?_
    · exact hm.keep (hkeep mb hm.lt n1 (fun x hx => n2 x (hA x hx)))
    · refine owns_same hrow (fun b hb => ?_)
      obtain ⟨m1, m2, m3⟩ := n3 g b (hown b hb)
      exact hkeep b (hr3 b hb) m1 (fun x hx => m3 x (hA x hx))
    · intro x hx b hb
      obtain ⟨m1, m2, m3⟩ := n3 x b hb
      have hlt := ((h.bk.row x).lt b hb).2
      rw [hkeep b (Nat.lt_of_lt_of_le hlt h3.size) m1 (fun y hy => m3 y (hA y hy))]
      refine h3.block b hlt (fun c => ?_)
      rcases c with c | c
      · subst c; exact h.bk.apart x g b hx hb hgb
      · exact m2 c
  · have := h.len
    simp only [List.length_append, List.length_cons, List.length_nil] at this
    omega
end

set_option maxRecDepth 100000 in
set_option maxHeartbeats 4000000 in
theorem drop_any (w : World) (F : Nat → Prop) (cb mb : Nat) (room fo mi : Int) (A : List En) (e : En) (Bk : Int → List Nat) (M : Int → Option Value) (h : CaAt w F cb mb room fo mi (A ++ [e]) Bk M) :
    Calls Try.prog 44 #[.pointer (some ⟨cb, 0, none⟩), .pointer (some ⟨e.b, 0, none⟩)] w fun r w' => r = .returned (.tuple #[]) ∧ ∃ Bk' M', CaAt w' F cb mb room fo mi A Bk' M' ∧ Chg F w w' := by
  obtain ⟨g, hg⟩ : ∃ g, hsh e.k.ky = g := ⟨_, rfl⟩
  have hU : U64 g := by rw [← hg]; exact hsh_U64 _
  have HH := boxed h
  have hem : e ∈ A ++ [e] := by simp
  have heb : e.b ∈ Bk g := by rw [← hg]; exact h.bk.in1 e hem
  have hsm := h.small g
  have hAl : A.length ≤ 4096 := by
    have h1 := h.len
    have h2 := h.room.2
    simp only [List.length_append, List.length_cons, List.length_nil] at h1
    omega
  obtain ⟨⟨n1, n2⟩, n3⟩ := h.far
  obtain ⟨p, q, hE⟩ := h.seg.get e hem
  rcases (h.bk.row g).2 with ⟨e0, e1⟩ | ⟨gb, cap, cur, e0, -, hgb, e2, e3, e4, e5⟩
  · rw [List.length_eq_zero_iff.1 e1] at heb
    cases heb
  have hob : (bv M g).ownBlock = some gb := by rw [e0]; rfl
  obtain ⟨m1, m2, m3⟩ := n3 g gb hob
  obtain ⟨m, hm⟩ : ∃ m, (Bk g).length = m + 1 := ⟨(Bk g).length - 1, by have := List.length_pos_of_mem heb; omega⟩
  rw [hm, Nat.mul_one] at e5
  rw [Nat.mul_one] at e4
  have hlk : ∀ n, (Instr.lookup 73 (.map (some mb)) (.int .u64 g) false).run Try.prog (w.drewN n) = .ok (.slice (some ⟨gb, 0, none⟩) (m + 1) cap) (w.drewN n) := fun n => by
    have := (h.below (bel_drewN w.heap.size w n)).look hU
    rw [e0, hm] at this
    exact this
  have c4 := h.ca.cells.2.2.2.2.1
  have x12 : w.cell? ⟨e.b, 12, none⟩ = some (.int .u64 g) := by rw [← hg]; exact hE.cells.2.2.2.2.2.2.2.2.2.2.2.2.1
  have HIx : Box (∀ n, Calls Try.prog 56 #[.slice (some ⟨gb, 0, none⟩) (m + 1) cap, .pointer (some ⟨e.b, 0, none⟩)] (w.drewN n) fun r w' => ∃ i : Nat, r = .returned (.int .i64 (i : Nat)) ∧ (Bk g)[i]? = some e.b ∧ w' = w.drewN n) := boxed (fun n => by
    have := index_any gb cap (Bk g) e.b (w.drewN n) (fun j x hj => by
      show w.cell? _ = _
      have hl := (List.getElem?_eq_some_iff.1 hj).1
      rw [cell_of_row w gb j cur _ _ hgb]
      have e6 : (cur.toList.take (m + 1))[j]? = (pts (Bk g))[j]? := by rw [e5]
      rw [List.getElem?_take, if_pos (by omega), Array.getElem?_toList, pts_get, hj] at e6
      exact e6) (by omega) heb (fun x hx => by
      obtain ⟨y, hy, e1, -, p', q', hE'⟩ := h.entry hx
      exact ⟨_, _, by rw [← e1]; exact hE'⟩)
    rw [hm] at this
    exact this)
  have HDl : Box (∀ n i, i ≤ m → Calls Try.prog 57 #[.slice (some ⟨gb, 0, none⟩) (m + 1) cap, .int .i64 (i : Nat), .int .i64 ((i : Int) + 1)] (w.drewN n) fun r w' => r = .returned (.slice (some ⟨gb, 0, none⟩) m cap) ∧ w'.ownsRow 0 74 1 (.slice (some ⟨gb, 0, none⟩) m cap) m (pts ((Bk g).eraseIdx i)) ∧ (w.drewN n).grownBy w' (some gb)) :=
    boxed (fun n i hi => delete_any gb m cap i cur (Bk g) (w.drewN n) hgb e4 e5 hm (by omega) e3 hi)
  have hCa := h.ca
  have hSg := h.seg
  have hMp := h.bk.map
  clear h hgb e5 e4 e0
  go_enter Try.func44, Try.ntmps44
  go_wp2_with fail
  go_quiet (fail)
  go_wp2_with fail
  refine (HIx.out _).mono ?_
  rintro r w1 ⟨i, rfl, hix, hw1⟩
  subst w1
  have him : i ≤ m := by have := (List.getElem?_eq_some_iff.1 hix).1; omega
  have HIx2 := boxed hix
  clear HIx hix hlk
  go_wp2_with fail
  refine (HDl.out _ i him).mono ?_
  rintro r w2 ⟨rfl, ho2, hg2⟩
  have hg2' : w.grownBy w2 (some gb) := grown_trans (b := w.drewN nq) ⟨rfl, rfl, rfl, Nat.le_refl _, fun _ _ _ => rfl⟩ hg2
  have hCa2 : CaB w2 cb room ((A ++ [e]).length : Nat) fo mi mb (hd (A ++ [e]) none) (lst none (A ++ [e])) := hCa.keep (hg2'.block _ (heap_lt hCa) (fun c => m1 (by injection c with c; exact c.symm)))
  have hSg2 : Seg w2 none (A ++ [e]) none := hSg.keep (fun x hx => hg2'.block _ (hSg.lt x hx) (fun c => m3 x hx (by injection c)))
  have hMp2 : MapAt w2.drew mb M := hMp.keep (hg2'.block _ hMp.lt (fun c => m2 (by injection c with c; exact c.symm)))
  have hE2 : EnAt w2 e p q := hE.keep (hg2'.block _ (heap_lt hE) (fun c => m3 e hem (by injection c)))
  have y4 : w2.drew.cell? ⟨cb, 4, none⟩ = some (.map (some mb)) := hCa2.cells.2.2.2.2.1
  have y12 : w2.drew.cell? ⟨e.b, 12, none⟩ = some (.int .u64 g) := by rw [← hg]; exact hE2.cells.2.2.2.2.2.2.2.2.2.2.2.2.1
  have hel : ((Bk g).eraseIdx i).length = m := by rw [List.length_eraseIdx, if_pos (by omega)]; omega
  have hmbgb : gb ≠ mb := m2
  have HB2 := boxed hg2'
  by_cases cm : m = 0
  · subst cm
    obtain ⟨w3, hrun, hM3, hg3⟩ := hMp2.del (P := Try.prog) (t := 73) (k := 56) (el := 105) (by kernel_rfl) (by kernel_rfl) hU 0
    have hg3' : w2.grownBy w3 (some mb) := grown_trans (b := w2.drew) ⟨rfl, rfl, rfl, Nat.le_refl _, fun _ _ _ => rfl⟩ hg3
    have hch : Chg (fun b => b = gb ∨ b = mb) w w3 := (Chg.of_grown hg2' (fun x hx => .inl (by injection hx with hx; exact hx.symm))).trans (Chg.of_grown hg3' (fun x hx => .inr (by injection hx with hx; exact hx.symm)))
    have hCa3 : CaB w3 cb room ((A.length : Nat) + 1 : Int) fo mi mb (hd (A ++ e :: []) none) (lst none (A ++ e :: [])) := by
      have := hCa2.keep (hg3'.block _ (heap_lt hCa2) (fun c => n1 (by injection c with c; exact c.symm)))
      simpa using this
    have hSg3 : Seg w3 none (A ++ e :: []) none := hSg2.keep (fun x hx => hg3'.block _ (hSg2.lt x hx) (fun c => n2 x hx (by injection c)))
    have HUn := boxed (unlink_any w3 cb room ((A.length : Nat) + 1 : Int) fo mi mb A e [] hCa3 hSg3 HH.out.nd)
    have hbv : bv (mdel M g) g = .slice none 0 0 := by unfold bv; rw [mdel_eq]; rfl
    have hEl : (Bk g).eraseIdx i = [] := List.length_eq_zero_iff.1 hel
    have HEnd := boxed (fun w4 u1 u2 u4 => HH.out.drop_end hg hob HIx2.out (w4 := w4) hch hM3 (fun x hx => mdel_ne hx) (by rw [hbv, hEl]; exact World.ownsRow_nil _ _ _ _) (fun b hb => by rw [hbv] at hb; cases hb) u1 u2 u4)
    clear hCa3 hSg3 hM3 hg3 hg3' hch hCa2 hSg2 hMp2 hE2 ho2 hg2 hg2' hCa hSg hMp hE hbv hEl hel HIx2 HDl HH n1 n2 n3 m1 m2 m3
    clear HB2
    go_wp2_with fail
    go_region
    go_wp2_with fail
    refine HUn.out.mono ?_
    rintro r w4 ⟨rfl, u1, u2, u3, u4⟩
    have hc1 := u1.cells.2.1
    have hz1 := row_free u1 1
    have HF : Box (∃ Bk' M', CaAt (w4.setCell ⟨cb, 1, none⟩ (.int .i64 (A.length : Nat))) F cb mb room fo mi A Bk' M' ∧ Chg F w (w4.setCell ⟨cb, 1, none⟩ (.int .i64 (A.length : Nat)))) := boxed (HEnd.out w4 u1 u2 u4)
    clear u1 u2 u3 u4 HEnd HUn
    go_wp2_with fail
    exact bodyPost_end (results_none rfl _ _ _) rfl ⟨rfl, HF.out⟩
  · have t0 : ((m : Int) == 0) = false := by rw [beq_eq_false_iff_ne]; omega
    obtain ⟨w3, hrun, hM3, hg3⟩ := hMp2.put (P := Try.prog) (t := 73) (k := 56) (el := 105) (by kernel_rfl) (by kernel_rfl) hU (.slice (some ⟨gb, 0, none⟩) m cap)
    have hg3' : w2.grownBy w3 (some mb) := grown_trans (b := w2.drew) ⟨rfl, rfl, rfl, Nat.le_refl _, fun _ _ _ => rfl⟩ hg3
    have hch : Chg (fun b => b = gb ∨ b = mb) w w3 := (Chg.of_grown hg2' (fun x hx => .inl (by injection hx with hx; exact hx.symm))).trans (Chg.of_grown hg3' (fun x hx => .inr (by injection hx with hx; exact hx.symm)))
    have hCa3 : CaB w3 cb room ((A.length : Nat) + 1 : Int) fo mi mb (hd (A ++ e :: []) none) (lst none (A ++ e :: [])) := by
      have := hCa2.keep (hg3'.block _ (heap_lt hCa2) (fun c => n1 (by injection c with c; exact c.symm)))
      simpa using this
    have hSg3 : Seg w3 none (A ++ e :: []) none := hSg2.keep (fun x hx => hg3'.block _ (hSg2.lt x hx) (fun c => n2 x hx (by injection c)))
    have HUn := boxed (unlink_any w3 cb room ((A.length : Nat) + 1 : Int) fo mi mb A e [] hCa3 hSg3 HH.out.nd)
    have hbv : bv (mput M g (.slice (some ⟨gb, 0, none⟩) m cap)) g = .slice (some ⟨gb, 0, none⟩) m cap := by unfold bv; rw [mput_eq]; rfl
    have HEnd := boxed (fun w4 u1 u2 u4 => HH.out.drop_end hg hob HIx2.out (w4 := w4) hch hM3 (fun x hx => mput_ne hx) (by rw [hbv, hel]; exact ho2.kept hg3' (.inr (fun c => hmbgb (by injection c)))) (fun b hb => by rw [hbv] at hb; rw [hob]; exact hb) u1 u2 u4)
    have cm' : 0 < m := by omega
    clear hCa3 hSg3 hM3 hg3 hg3' hch hCa2 hSg2 hMp2 hE2 ho2 hg2 hg2' hCa hSg hMp hE hbv hel HIx2 HDl HH n1 n2 n3 m1 m2 m3 cm
    clear HB2
    go_wp2_with fail
    go_region
    go_wp2_with fail
    refine HUn.out.mono ?_
    rintro r w4 ⟨rfl, u1, u2, u3, u4⟩
    have hc1 := u1.cells.2.1
    have hz1 := row_free u1 1
    have HF : Box (∃ Bk' M', CaAt (w4.setCell ⟨cb, 1, none⟩ (.int .i64 (A.length : Nat))) F cb mb room fo mi A Bk' M' ∧ Chg F w (w4.setCell ⟨cb, 1, none⟩ (.int .i64 (A.length : Nat)))) := boxed (HEnd.out w4 u1 u2 u4)
    clear u1 u2 u3 u4 HEnd HUn
    go_wp2_with fail
    exact bodyPost_end (results_none rfl _ _ _) rfl ⟨rfl, HF.out⟩
end Go.Proofs.Ytmnnmnggakbipaa
