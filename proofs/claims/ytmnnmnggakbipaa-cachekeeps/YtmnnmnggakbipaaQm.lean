/-
  The cache's row and buckets changed: bringToFront, drop.
-/
import Derived.Test.YtmnnmnggakbipaaQl
namespace Go.Proofs.Ytmnnmnggakbipaa
open Go.RowKit
set_option linter.unusedSimpArgs false
set_option linter.unusedVariables false

section
variable {w w' : World} {F : Nat → Prop} {cb mb : Nat} {room cnt fo mi : Int} {L L' : List En} {Bk : Int → List Nat} {M : Int → Option Value}
theorem MapAt.ne_cells (h : MapAt w mb M) {b : Nat} {cs : Array Value} {t : TypeId} {z : Nat × Nat} (hb : w.heap[b]? = some (.cells cs t z)) : b ≠ mb := by
  intro c
  obtain ⟨es, clock, hm, -⟩ := h
  rw [c, hm] at hb
  cases hb
theorem row_ne {n g b : Nat} {v : Value} {xs : List Value} {t : TypeId} {cs : Array Value} {z : Nat × Nat} {T : TypeId} (h : w.ownsRow 0 T 1 v n xs) (hg : v.ownBlock = some g) (hb : w.heap[b]? = some (.cells cs t z)) (ht : T ≠ t) : b ≠ g := by
  intro c
  subst c
  rcases h.2 with ⟨e, -⟩ | ⟨g', cap, cur, e, -, hh, -⟩
  · rw [e] at hg; cases hg
  · rw [e] at hg
    injection hg with hg
    simp only at hg
    subst hg
    rw [hh] at hb
    injection hb with hb
    injection hb with _ hb
    exact ht hb
theorem row_ne_map {n g : Nat} {v : Value} {xs : List Value} {T : TypeId} (h : w.ownsRow 0 T 1 v n xs) (hg : v.ownBlock = some g) (hm : MapAt w mb M) : g ≠ mb := by
  rcases h.2 with ⟨e, -⟩ | ⟨g', cap, cur, e, -, hh, -⟩
  · rw [e] at hg; cases hg
  · rw [e] at hg
    injection hg with hg
    simp only at hg
    subst hg
    exact hm.ne_cells hh
/-- Neither the map nor a bucket lies where the cache or its entries lie. -/
theorem CaAt.far (h : CaAt w F cb mb room fo mi L Bk M) : (mb ≠ cb ∧ ∀ e ∈ L, e.b ≠ mb) ∧ ∀ x g, (bv M x).ownBlock = some g → g ≠ cb ∧ g ≠ mb ∧ ∀ e ∈ L, e.b ≠ g := by
  refine ⟨⟨Ne.symm (h.bk.map.ne_cells h.ca), fun e he => ?_⟩, fun x g hg => ⟨Ne.symm (row_ne (h.bk.row x) hg h.ca (by decide)), row_ne_map (h.bk.row x) hg h.bk.map, fun e he => ?_⟩⟩
  · obtain ⟨p, q, hE⟩ := h.seg.get e he
    exact h.bk.map.ne_cells hE
  · obtain ⟨p, q, hE⟩ := h.seg.get e he
    exact row_ne (h.bk.row x) hg hE (by decide)
/-- The same entries in another order. -/
theorem CaAt.move {fo' mi' : Int} (h : CaAt w F cb mb room fo mi L Bk M) (hp : L'.Perm L) (hc : CaB w' cb room (L'.length : Nat) fo' mi' mb (hd L' none) (lst none L')) (hs : Seg w' none L' none) (hg : Chg (fun b => b = cb ∨ b ∈ L.map En.b) w w') : CaAt w' F cb mb room fo' mi' L' Bk M := by
  have hin : ∀ e, e ∈ L' ↔ e ∈ L := fun e => hp.mem_iff
  obtain ⟨⟨n1, n2⟩, n3⟩ := h.far
  have hF : ∀ b, b < w.heap.size → (b = cb ∨ b ∈ L.map En.b) → F b := fun b _ hb => by
    rcases hb with rfl | hb
    · exact h.fc
    · obtain ⟨e, he, rfl⟩ := List.mem_map.1 hb; exact h.fe e he
  refine ⟨hc, hs, (hp.map En.b).nodup_iff.2 h.nd, ?_, h.fc, fun b hf => Nat.lt_of_lt_of_le (h.fl b hf) hg.size, fun e he => h.fe e ((hin e).1 he), (hp.pairwise_iff (fun {a b} hab => Ne.symm hab)).2 h.kn, fun e he => ?_, by rw [hp.length_eq]; exact h.len, h.room⟩
  · have k := h.bk.keep (w' := w') (hg.block _ h.bk.map.lt (fun c => by
      rcases c with c | c
      · exact n1 c
      · obtain ⟨e, he, e1⟩ := List.mem_map.1 c; exact n2 e he e1)) (fun x g hr => hg.block _ ((h.bk.row x).lt g hr).2 (fun c => by
      obtain ⟨m1, m2, m3⟩ := n3 x g hr
      rcases c with c | c
      · exact m1 c
      · obtain ⟨e, he, e1⟩ := List.mem_map.1 c; exact m3 e he e1))
    exact ⟨k.map, k.row, k.apart, k.fr, k.fm, fun e he => k.in1 e ((hin e).1 he), fun x b hb => by
      obtain ⟨e, he, e1⟩ := k.in2 x b hb
      exact ⟨e, (hin e).2 he, e1⟩, k.bn⟩
  · obtain ⟨k1, k2⟩ := h.key e ((hin e).1 he)
    exact ⟨P2At.keep k1 (hg.kpk hF), k2⟩
end

set_option maxRecDepth 100000 in
set_option maxHeartbeats 2000000 in
theorem btf_any (w : World) (cb : Nat) (room cnt fo mi : Int) (mb : Nat) (A : List En) (e : En) (B : List En) (hc : CaB w cb room cnt fo mi mb (hd (A ++ e :: B) none) (lst none (A ++ e :: B))) (hs : Seg w none (A ++ e :: B) none) (hn : ((A ++ e :: B).map En.b).Nodup) :
    Calls Try.prog 43 #[.pointer (some ⟨cb, 0, none⟩), .pointer (some ⟨e.b, 0, none⟩)] w fun r w' => r = .returned (.tuple #[]) ∧ CaB w' cb room cnt fo mi mb (some e.b) (lst none (e :: (A ++ B))) ∧ Seg w' none (e :: (A ++ B)) none ∧ Chg (fun b => b = cb ∨ b ∈ (A ++ e :: B).map En.b) w w' := by
  have HU := boxed (unlink_any w cb room cnt fo mi mb A e B hc hs hn)
  have HN : Box (((e :: (A ++ B)).map En.b).Nodup) := boxed (by
    have hp : (e :: (A ++ B)).Perm (A ++ e :: B) := List.perm_middle.symm
    exact (hp.map En.b).nodup_iff.2 hn)
  clear hc hs hn
  go_enter Try.func43, Try.ntmps43
  go_wp2_with fail
  refine HU.out.mono ?_
  rintro r w1 ⟨rfl, h1, h2, h3, h4⟩
  have HL := boxed (link_any w1 cb room cnt fo mi mb e _ _ (A ++ B) h1 h2 h3 HN.out)
  have H4 := boxed h4
  clear h1 h2 h3 h4 HU
  go_wp2_with fail
  refine HL.out.mono ?_
  rintro r w2 ⟨rfl, h1, h2, h3⟩
  have HF := boxed (And.intro h1 (And.intro h2 h3))
  clear h1 h2 h3 HL
  go_wp2_with fail
  refine bodyPost_end (results_none rfl _ _ _) rfl ⟨rfl, HF.out.1, HF.out.2.1, (H4.out.mono ?_).trans (HF.out.2.2.mono ?_)⟩
  · intro b _ hb
    simp only [List.map_append, List.mem_append, List.map_cons, List.mem_cons] at hb ⊢
    rcases hb with hb | hb | hb
    · exact .inl hb
    · exact .inr (.inl hb)
    · exact .inr (.inr (.inr hb))
  · intro b _ hb
    simp only [List.map_append, List.mem_append, List.map_cons, List.mem_cons] at hb ⊢
    rcases hb with hb | hb | hb | hb
    · exact .inl hb
    · exact .inr (.inr (.inl hb))
    · exact .inr (.inl hb)
    · exact .inr (.inr (.inr hb))

section
variable {w w' : World} {F : Nat → Prop} {cb mb : Nat} {room cnt fo mi : Int} {A B : List En} {e : En} {Bk : Int → List Nat} {M : Int → Option Value}
/-- Another value. -/
theorem EnAt.val {a z : Option Nat} (h : EnAt w e a z) (v : Int) : EnAt (w.setCell ⟨e.b, 11, none⟩ (.int .i64 v)) { e with v := v } a z := arr_set (.int .i64 v) h
theorem hd_val (L : List En) (v : Int) (z : Option Nat) : hd (A ++ { e with v := v } :: B) z = hd (A ++ e :: B) z := by cases A <;> rfl
theorem lst_val (a : Option Nat) (v : Int) : lst a (A ++ { e with v := v } :: B) = lst a (A ++ e :: B) := by rw [lst_app, lst_app]; rfl
theorem CaAt.val (h : CaAt w F cb mb room fo mi (A ++ e :: B) Bk M) (v : Int) : CaAt (w.setCell ⟨e.b, 11, none⟩ (.int .i64 v)) F cb mb room fo mi (A ++ { e with v := v } :: B) Bk M := by
  obtain ⟨⟨n1, n2⟩, n3⟩ := h.far
  have hem : e ∈ A ++ e :: B := by simp
  have hmap : (A ++ { e with v := v } :: B).map En.b = (A ++ e :: B).map En.b := by simp
  have hmem : ∀ x ∈ A ++ { e with v := v } :: B, ∃ y ∈ A ++ e :: B, y.b = x.b ∧ y.k = x.k := fun x hx => by
    simp only [List.mem_append, List.mem_cons] at hx
    rcases hx with hx | rfl | hx
    · exact ⟨x, by simp [hx], rfl, rfl⟩
    · exact ⟨e, hem, rfl, rfl⟩
    · exact ⟨x, by simp [hx], rfl, rfl⟩
  have hmem2 : ∀ y ∈ A ++ e :: B, ∃ x ∈ A ++ { e with v := v } :: B, x.b = y.b ∧ x.k = y.k := fun y hy => by
    simp only [List.mem_append, List.mem_cons] at hy
    rcases hy with hy | rfl | hy
    · exact ⟨y, by simp [hy], rfl, rfl⟩
    · exact ⟨{ y with v := v }, by simp, rfl, rfl⟩
    · exact ⟨y, by simp [hy], rfl, rfl⟩
  have hlen : (A ++ { e with v := v } :: B).length = (A ++ e :: B).length := by simp
  have hg : Chg (fun b => b = e.b) w (w.setCell ⟨e.b, 11, none⟩ (.int .i64 v)) := Chg.set _ _ _ _ rfl
  have hs := seg_app.1 h.seg
  have hnd := h.nd
  simp only [List.map_append, List.map_cons, List.nodup_append, List.nodup_cons] at hnd
  obtain ⟨p, q, hE⟩ := h.seg.get e hem
  refine ⟨?_, ?_, by rw [hmap]; exact h.nd, ?_, h.fc, fun b hf => Nat.lt_of_lt_of_le (h.fl b hf) hg.size, fun x hx => ?_, ?_, fun x hx => ?_, by rw [hlen]; exact h.len, h.room⟩
  · rw [hlen, hd_val A, lst_val]
    exact h.ca.keep (set_other _ _ _ _ _ (Ne.symm (h.ca.ne hE)))
  · rw [seg_app]
    refine ⟨hs.1.keep (fun x hx => set_other _ _ _ _ _ (fun c => hnd.2.2 _ (List.mem_map.2 ⟨x, hx, rfl⟩) _ (List.mem_cons_self) c)), EnAt.val hs.2.1 v, hs.2.2.keep (fun x hx => set_other _ _ _ _ _ (fun c => hnd.2.1.1 (List.mem_map.2 ⟨x, hx, c⟩)))⟩
  · have k := h.bk.keep (w' := w.setCell ⟨e.b, 11, none⟩ (.int .i64 v)) (set_other _ _ _ _ _ (Ne.symm (n2 e hem))) (fun x g hr => set_other _ _ _ _ _ (Ne.symm ((n3 x g hr).2.2 e hem)))
    refine ⟨k.map, k.row, k.apart, k.fr, k.fm, fun x hx => ?_, fun x b hb => ?_, k.bn⟩
    · obtain ⟨y, hy, e1, e2⟩ := hmem x hx
      rw [← e1, ← e2]; exact k.in1 y hy
    · obtain ⟨y, hy, e1, e2⟩ := k.in2 x b hb
      obtain ⟨x', hx', e3, e4⟩ := hmem2 y hy
      exact ⟨x', hx', e3.trans e1, by rw [e4]; exact e2⟩
  · obtain ⟨y, hy, e1, e2⟩ := hmem x hx
    rw [← e1]; exact h.fe y hy
  · have hk := h.kn
    have e1 : (A ++ { e with v := v } :: B).map (fun x => x.k.ky) = (A ++ e :: B).map (fun x => x.k.ky) := by simp
    have hk2 : ((A ++ e :: B).map (fun x => x.k.ky)).Pairwise (· ≠ ·) := List.pairwise_map.2 hk
    rw [← e1] at hk2
    exact List.pairwise_map.1 hk2
  · obtain ⟨y, hy, e1, e2⟩ := hmem x hx
    obtain ⟨k1, k2⟩ := h.key y hy
    rw [← e2]
    exact ⟨P2At.keep k1 (hg.kpk (F := F) (fun b _ hb => by subst hb; exact h.fe e hem)), k2⟩
end
end Go.Proofs.Ytmnnmnggakbipaa
