/-
  Calls one after the other: what they leave, in plain words; the script as it lies in memory; what holds of both caches ahead of each call.
-/
import Derived.Test.YtmnnmnggakbipaaQx
namespace Go.Proofs.Ytmnnmnggakbipaa
open Go.RowKit
set_option linter.unusedSimpArgs false
set_option linter.unusedVariables false

theorem key_at {l : List (Ky × Int)} (hn : (l.map (·.1)).Nodup) {i j : Nat} {k : Ky} {u v : Int} (hi : l[i]? = some (k, u)) (hj : l[j]? = some (k, v)) : i = j := by
  have h1 : (l.map (·.1))[i]? = some k := by simp [hi]
  have h2 : (l.map (·.1))[j]? = some k := by simp [hj]
  exact (List.getElem?_inj (List.getElem?_eq_some_iff.1 h1).1 hn).1 (h1.trans h2.symm)
theorem PutR.det {room : Int} {l a b : List (Ky × Int)} {k : Ky} {v : Int} (hn : (l.map (·.1)).Nodup) (h1 : PutR room l k v a) (h2 : PutR room l k v b) : a = b := by
  rcases h1 with ⟨c, rfl⟩ | ⟨c, h1⟩
  · rcases h2 with ⟨d, rfl⟩ | ⟨d, h2⟩
    · rfl
    · exact absurd c d
  · rcases h2 with ⟨d, rfl⟩ | ⟨d, h2⟩
    · exact absurd d c
    · rcases h1 with ⟨i, u, e1, rfl⟩ | ⟨n1, h1⟩
      · rcases h2 with ⟨j, u', e2, rfl⟩ | ⟨n2, h2⟩
        · rw [key_at hn e1 e2]
        · exact absurd rfl (n2 _ (List.mem_of_getElem? e1))
      · rcases h2 with ⟨j, u', e2, rfl⟩ | ⟨n2, h2⟩
        · exact absurd rfl (n1 _ (List.mem_of_getElem? e2))
        · rcases h1 with ⟨e1, rfl⟩ | ⟨e1, rfl⟩
          · rcases h2 with ⟨e2, rfl⟩ | ⟨e2, rfl⟩
            · rfl
            · omega
          · rcases h2 with ⟨e2, rfl⟩ | ⟨e2, rfl⟩
            · omega
            · rfl
theorem GetR.det {l a b : List (Ky × Int)} {k : Ky} {o p : Option Int} (hn : (l.map (·.1)).Nodup) (h1 : GetR l k o a) (h2 : GetR l k p b) : o = p ∧ a = b := by
  rcases h1 with ⟨i, u, e1, rfl, rfl⟩ | ⟨n1, rfl, rfl⟩
  · rcases h2 with ⟨j, u', e2, rfl, rfl⟩ | ⟨n2, rfl, rfl⟩
    · have := key_at hn e1 e2
      subst this
      rw [e1] at e2
      injection e2 with e2
      injection e2 with _ e2
      subst e2
      exact ⟨rfl, rfl⟩
    · exact absurd rfl (n2 _ (List.mem_of_getElem? e1))
  · rcases h2 with ⟨j, u', e2, rfl, rfl⟩ | ⟨n2, rfl, rfl⟩
    · exact absurd rfl (n1 _ (List.mem_of_getElem? e2))
    · exact ⟨rfl, rfl⟩
/-- A call. -/
structure Opr where
  kd : Int
  k : Kv
  v : Int
/-- What a call leaves. -/
def Stp (room : Int) (o : Opr) (l l' : List (Ky × Int)) : Prop :=
  (¬ Fits o.k ∧ l' = l) ∨ (Fits o.k ∧ ((o.kd = 0 ∧ PutR room l o.k.ky o.v l') ∨ (o.kd = 1 ∧ ∃ x, GetR l o.k.ky x l') ∨ (o.kd = 2 ∧ l' = []) ∨ (o.kd ≠ 0 ∧ o.kd ≠ 1 ∧ o.kd ≠ 2 ∧ l' = l)))
def Pls (room : Int) (O : Nat → Opr) : Nat → List (Ky × Int) → Prop
  | 0, l => l = []
  | n + 1, l' => ∃ l, Pls room O n l ∧ Stp room (O n) l l'
/-- Calls in a row. -/
def OpsAt (w : World) (ao : Option Addr) (n : Nat) (O : Nat → Opr) : Prop := ∀ i, i < n → (KvAt (fun _ => True) w (O i).k ∧ (O i).k.rn ≤ (O i).k.rc) ∧ ∃ b off, ao = some ⟨b, off, none⟩ ∧
  (w.cell? ⟨b, off + i * 13, none⟩ = some (.int .i64 (O i).kd) ∧ w.cell? ⟨b, off + i * 13 + 1, none⟩ = some (.string (O i).k.tx) ∧ w.cell? ⟨b, off + i * 13 + 2, none⟩ = some (.slice (O i).k.ra (O i).k.rn (O i).k.rc) ∧ w.cell? ⟨b, off + i * 13 + 3, none⟩ = some (.int .i64 (O i).k.ta) ∧ w.cell? ⟨b, off + i * 13 + 4, none⟩ = some (.int .i64 (O i).k.wd) ∧
   w.cell? ⟨b, off + i * 13 + 5, none⟩ = some (.int .i64 (O i).k.s.t) ∧ w.cell? ⟨b, off + i * 13 + 6, none⟩ = some (.int .i64 (O i).k.s.l) ∧ w.cell? ⟨b, off + i * 13 + 7, none⟩ = some (.int .i64 (O i).k.s.a) ∧ w.cell? ⟨b, off + i * 13 + 8, none⟩ = some (.int .i64 (O i).k.s.d) ∧ w.cell? ⟨b, off + i * 13 + 9, none⟩ = some (.int .i64 (O i).k.s.z) ∧ w.cell? ⟨b, off + i * 13 + 10, none⟩ = some (.int .i64 (O i).k.s.o) ∧ w.cell? ⟨b, off + i * 13 + 11, none⟩ = some (.int .i64 (O i).k.s.i) ∧ w.cell? ⟨b, off + i * 13 + 12, none⟩ = some (.int .i64 (O i).v))
theorem KvAt.old {w : World} {k : Kv} {S : Nat → Prop} (h : KvAt S w k) : KvAt (fun b => b < w.heap.size) w k := P2At.keep h (fun b i u _ hc => ⟨World.block_lt_of_cell? w _ hc, hc⟩)
theorem CaAt.nodup {w : World} {F : Nat → Prop} {cb mb : Nat} {room fo mi : Int} {L : List En} {Bk : Int → List Nat} {M : Int → Option Value} (h : CaAt w F cb mb room fo mi L Bk M) : ((abL L).map (·.1)).Nodup := by
  have := h.kn
  unfold abL
  rw [List.map_map]
  exact List.pairwise_map.2 this
/-- What holds ahead of call i. -/
structure PlI (w wr : World) (room : Int) (O : Nat → Opr) (i : Nat) (F : Nat → Prop) (cb mb : Nat) (fo mi : Int) (L : List En) (Bk : Int → List Nat) (M : Int → Option Value) (lo : Option Addr) (n lc : Nat) (es : List Re) : Prop where
  ca : CaAt wr F cb mb room fo mi L Bk M
  rs : RsAt (fun b => ¬ F b ∧ b ≠ w.heap.size + 1 ∧ b ≠ w.heap.size) wr lo es
  ab : abR es = abL L
  len : n = es.length
  fb : ∀ b, F b → w.heap.size + 2 ≤ b
  rb : wr.heap[w.heap.size]? = some (.cells #[.int .i64 0, .slice none 0 0, .int .i64 0, .int .i64 0] 27 (0, 0))
  sb : wr.heap[w.heap.size + 1]? = some (.cells #[.int .i64 room, .slice lo n lc, .int .i64 fo, .int .i64 mi] 27 (0, 0))
  bel : Below w.heap.size w wr
  pls : Pls room O i (abL L)
  num : (0 ≤ fo ∧ fo ≤ i) ∧ 0 ≤ mi ∧ mi ≤ i
section
variable {w wr wr' : World} {room : Int} {O : Nat → Opr} {i : Nat} {F : Nat → Prop} {cb mb : Nat} {fo mi : Int} {L : List En} {Bk : Int → List Nat} {M : Int → Option Value} {lo : Option Addr} {n lc : Nat} {es : List Re}
theorem PlI.below (h : PlI w wr room O i F cb mb fo mi L Bk M lo n lc es) (hb : Below wr.heap.size wr wr') : PlI w wr' room O i F cb mb fo mi L Bk M lo n lc es :=
  ⟨h.ca.below hb, h.rs.below hb, h.ab, h.len, h.fb, (hb.block _ (heap_lt h.rb)).trans h.rb, (hb.block _ (heap_lt h.sb)).trans h.sb, below_step h.bel (Nat.le_refl _) hb, h.pls, h.num⟩
theorem PlI.nF (h : PlI w wr room O i F cb mb fo mi L Bk M lo n lc es) {b : Nat} (hb : b < w.heap.size + 2) : ¬ F b := fun c => by have := h.fb b c; omega
/-- A key of the script, at any time. -/
theorem PlI.kv (h : PlI w wr room O i F cb mb fo mi L Bk M lo n lc es) {k : Kv} (hk : KvAt (fun _ => True) w k) : KvAt (fun b => ¬ F b ∧ b ≠ w.heap.size + 1 ∧ b ≠ w.heap.size) wr k :=
  P2At.keep hk (fun b j u _ hc => by
    have hlt := World.block_lt_of_cell? w _ hc
    simp only at hlt
    exact ⟨⟨h.nF (by omega), by omega, by omega⟩, hold h.bel hc⟩)
theorem PlI.few (h : PlI w wr room O i F cb mb fo mi L Bk M lo n lc es) : ((es.length : Nat) : Int) ≤ room := by
  have h1 := h.ca.len
  have h2 : es.length = L.length := by have := congrArg List.length h.ab; simpa [abR, abL] using this
  omega
/-- The cache has changed: the document's side is as it was. -/
theorem PlI.mid (h : PlI w wr room O i F cb mb fo mi L Bk M lo n lc es) {F' : Nat → Prop} (hF : ∀ b, F' b → F b ∨ wr.heap.size ≤ b) (hc : Chg F wr wr') :
    RsAt (fun b => ¬ F' b ∧ b ≠ w.heap.size + 1 ∧ b ≠ w.heap.size) wr' lo es ∧ (∀ b, F' b → w.heap.size + 2 ≤ b) ∧ wr'.heap[w.heap.size]? = some (.cells #[.int .i64 0, .slice none 0 0, .int .i64 0, .int .i64 0] 27 (0, 0)) ∧ wr'.heap[w.heap.size + 1]? = some (.cells #[.int .i64 room, .slice lo n lc, .int .i64 fo, .int .i64 mi] 27 (0, 0)) ∧ Below w.heap.size w wr' := by
  have hs := heap_lt h.sb
  refine ⟨h.rs.keep (fun b j u hs hcl => ?_), fun b hb => ?_, (hc.block _ (heap_lt h.rb) (h.nF (by omega))).trans h.rb, (hc.block _ (heap_lt h.sb) (h.nF (by omega))).trans h.sb, h.bel.trans (hc.below h.bel.size (fun b hb => by have := h.fb b hb; omega))⟩
  · have hlt := World.block_lt_of_cell? wr _ hcl
    simp only at hlt
    refine ⟨⟨fun c => ?_, hs.2⟩, (hc.kp _ _ _ hs.1 hcl).2⟩
    rcases hF b c with d | d
    · exact hs.1 d
    · omega
  · rcases hF b hb with d | d
    · exact h.fb b d
    · omega
end
theorem put_state {wr : World} {b : Nat} {x0 x1 x2 x3 : Value} (h : wr.heap[b]? = some (.cells #[x0, x1, x2, x3] 27 (0, 0))) (v0 v1 v2 v3 : Value) : (put4 wr b v0 v1 v2 v3).heap[b]? = some (.cells #[v0, v1, v2, v3] 27 (0, 0)) ∧ (∀ c, c ≠ b → (put4 wr b v0 v1 v2 v3).heap[c]? = wr.heap[c]?) ∧ (put4 wr b v0 v1 v2 v3).heap.size = wr.heap.size := by
  refine ⟨put4_heap h v0 v1 v2 v3, fun c hc => ?_, by simp [put4]⟩
  unfold put4
  rw [set_other _ _ _ _ _ hc, set_other _ _ _ _ _ hc, set_other _ _ _ _ _ hc, set_other _ _ _ _ _ hc]
section
variable {w wr w4 w5 : World} {room : Int} {O : Nat → Opr} {i : Nat} {F F' : Nat → Prop} {cb mb : Nat} {fo mi fo' mi' : Int} {L L' : List En} {Bk Bk' : Int → List Nat} {M M' : Int → Option Value} {lo lo' : Option Addr} {n lc n' lc' : Nat} {es es' : List Re}
/-- Both sides have gone on, and the document's new state is put into its place. -/
theorem PlI.next (h : PlI w wr room O i F cb mb fo mi L Bk M lo n lc es) (hF : ∀ b, F' b → F b ∨ wr.heap.size ≤ b) (hc : Chg F wr w4) (hca : CaAt w4 F' cb mb room fo' mi' L' Bk' M') (hb : Below w4.heap.size w4 w5) (hrs : RsAt (fun b => ¬ F' b ∧ b ≠ w.heap.size + 1 ∧ b ≠ w.heap.size) w5 lo' es') (hn : n' = es'.length) (hab : abR es' = abL L') (hpl : Stp room (O i) (abL L) (abL L')) (hnum : (0 ≤ fo' ∧ fo' ≤ (i : Int) + 1) ∧ 0 ≤ mi' ∧ mi' ≤ (i : Int) + 1) :
    PlI w (put4 w5 (w.heap.size + 1) (.int .i64 room) (.slice lo' n' lc') (.int .i64 fo') (.int .i64 mi')) room O (i + 1) F' cb mb fo' mi' L' Bk' M' lo' n' lc' es' := by
  obtain ⟨m1, m2, m3, m4, m5⟩ := h.mid hF hc
  have s5 := (hb.block _ (heap_lt m4)).trans m4
  have r5 := (hb.block _ (heap_lt m3)).trans m3
  obtain ⟨p1, p2, p3⟩ := put_state s5 (.int .i64 room) (.slice lo' n' lc') (.int .i64 fo') (.int .i64 mi')
  have hch : Chg (fun b => b = w.heap.size + 1) w5 (put4 w5 (w.heap.size + 1) (.int .i64 room) (.slice lo' n' lc') (.int .i64 fo') (.int .i64 mi')) := Chg.of_grown (put4_grown _ _ _ _ _ _) (fun g e => by injection e with e; exact e.symm)
  have hsz := heap_lt s5
  have nS : ∀ b, F' b → b ≠ w.heap.size + 1 := fun b hb c => by have := m2 b hb; omega
  have hcell : ∀ b j u, b ≠ w.heap.size + 1 → w5.cell? ⟨b, j, none⟩ = some u → (put4 w5 (w.heap.size + 1) (.int .i64 room) (.slice lo' n' lc') (.int .i64 fo') (.int .i64 mi')).cell? ⟨b, j, none⟩ = some u := fun b j u hne hcl => by
    rw [World.cell?_of_block (a := ⟨b, j, none⟩) (p2 b hne)]; exact hcl
  have hcb := m2 cb hca.fc
  refine ⟨(hca.below hb).other hch (fun b _ hd c => nS b c hd) (fun e he => P2At.keep ((hca.below hb).key e he).1 (fun b q u hs hcl => ⟨fun c => by have := hs.2; omega, hcl⟩)), hrs.keep (fun b q u hs hcl => ⟨hs, hcell b q u hs.2.1 hcl⟩), hab, hn, m2, (p2 _ (by omega)).trans r5, p1, (below_step m5 (Nat.le_refl _) hb).trans (hch.below (below_step m5 (Nat.le_refl _) hb).size (fun b hb => by omega)), ⟨_, h.pls, hpl⟩, by simpa using hnum⟩
end
end Go.Proofs.Ytmnnmnggakbipaa
