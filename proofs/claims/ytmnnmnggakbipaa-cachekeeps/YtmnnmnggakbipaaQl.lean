/-
  The cache as it lies in memory; what find answers.
-/
import Derived.Test.YtmnnmnggakbipaaQk
import Derived.Test.YtmnnmnggakbipaaQj
namespace Go.Proofs.Ytmnnmnggakbipaa
open Go.RowKit
set_option linter.unusedSimpArgs false
set_option linter.unusedVariables false

/-- The bucket of a number. -/
def bv (M : Int → Option Value) (h : Int) : Value := (M h).getD (.slice none 0 0)
/-- The buckets: which entries each has. -/
structure BkAt (w : World) (F : Nat → Prop) (mb : Nat) (L : List En) (Bk : Int → List Nat) (M : Int → Option Value) : Prop where
  map : MapAt w mb M
  row : ∀ h, w.ownsRow 0 74 1 (bv M h) (Bk h).length (pts (Bk h))
  apart : ∀ h h' g, h ≠ h' → (bv M h).ownBlock = some g → (bv M h').ownBlock ≠ some g
  fr : ∀ h g, (bv M h).ownBlock = some g → F g
  fm : F mb
  in1 : ∀ e ∈ L, e.b ∈ Bk (hsh e.k.ky)
  in2 : ∀ h b, b ∈ Bk h → ∃ e ∈ L, e.b = b ∧ hsh e.k.ky = h
  bn : ∀ h, (Bk h).Nodup
structure CaAt (w : World) (F : Nat → Prop) (cb mb : Nat) (room fo mi : Int) (L : List En) (Bk : Int → List Nat) (M : Int → Option Value) : Prop where
  ca : CaB w cb room (L.length : Nat) fo mi mb (hd L none) (lst none L)
  seg : Seg w none L none
  nd : (L.map En.b).Nodup
  bk : BkAt w F mb L Bk M
  fc : F cb
  fl : ∀ b, F b → b < w.heap.size
  fe : ∀ e ∈ L, F e.b
  kn : L.Pairwise (fun x y => x.k.ky ≠ y.k.ky)
  key : ∀ e ∈ L, KvAt (fun b => ¬ F b ∧ cb ≤ b) w e.k ∧ Fits e.k ∧ e.k.rn ≤ e.k.rc
  len : ((L.length : Nat) : Int) ≤ room
  room : 0 ≤ room ∧ room ≤ 4096
/-- What lies in the keys' blocks stays. -/
theorem Chg.kpk {D F : Nat → Prop} {cb : Nat} {w w' : World} (h : Chg D w w') (hd : ∀ b, b < w.heap.size → D b → F b) : Kp (fun b => ¬ F b ∧ cb ≤ b) (fun b => ¬ F b ∧ cb ≤ b) w w' := fun b i u hs hc => ⟨hs, ((h.mono hd).kp b i u hs.1 hc).2⟩
theorem owns_same {w w' : World} {B e size n : Nat} {v : Value} {xs : List Value} (h : w.ownsRow B e size v n xs) (hb : ∀ g, v.ownBlock = some g → w'.heap[g]? = w.heap[g]?) : w'.ownsRow B e size v n xs :=
  ⟨h.1, h.2.imp id (fun ⟨g, c, cu, x1, x2, x3, x4⟩ => ⟨g, c, cu, x1, x2, by rw [hb g (by rw [x1]; rfl)]; exact x3, x4⟩)⟩
theorem KvAt.weak {S : Nat → Prop} {w : World} {k : Kv} (h : KvAt S w k) : KvAt (fun _ => True) w k := P2At.keep h (fun _ _ _ _ hc => ⟨trivial, hc⟩)
theorem BkAt.keep {w w' : World} {F : Nat → Prop} {mb : Nat} {L : List En} {Bk : Int → List Nat} {M : Int → Option Value} (h : BkAt w F mb L Bk M) (hm : w'.heap[mb]? = w.heap[mb]?) (hr : ∀ h' g, (bv M h').ownBlock = some g → w'.heap[g]? = w.heap[g]?) : BkAt w' F mb L Bk M :=
  ⟨h.map.keep hm, fun g => owns_same (h.row g) (hr g), h.apart, h.fr, h.fm, h.in1, h.in2, h.bn⟩
theorem CaAt.below {w w' : World} {F : Nat → Prop} {cb mb : Nat} {room fo mi : Int} {L : List En} {Bk : Int → List Nat} {M : Int → Option Value} (h : CaAt w F cb mb room fo mi L Bk M) (hb : Below w.heap.size w w') : CaAt w' F cb mb room fo mi L Bk M :=
  ⟨h.ca.keep (hb.block cb (heap_lt h.ca)), h.seg.keep (fun e he => hb.block _ (h.seg.lt e he)), h.nd, h.bk.keep (hb.block _ h.bk.map.lt) (fun g r hr => hb.block _ ((h.bk.row g).lt r hr).2), h.fc, fun b hf => Nat.lt_of_lt_of_le (h.fl b hf) hb.size, h.fe, h.kn, fun e he => ⟨(h.key e he).1.below hb, (h.key e he).2⟩, h.len, h.room⟩
/-- What lies in other blocks than those of the cache is changed: the cache isn't. -/
theorem CaAt.other {w w' : World} {F D : Nat → Prop} {cb mb : Nat} {room fo mi : Int} {L : List En} {Bk : Int → List Nat} {M : Int → Option Value} (h : CaAt w F cb mb room fo mi L Bk M) (hc : Chg D w w') (hd : ∀ b, b < w.heap.size → D b → ¬ F b) (hk : ∀ e ∈ L, KvAt (fun b => ¬ D b) w e.k) : CaAt w' F cb mb room fo mi L Bk M :=
  have hs : ∀ b, b < w.heap.size → F b → w'.heap[b]? = w.heap[b]? := fun b hl hf => hc.block b hl (fun c => hd b hl c hf)
  ⟨h.ca.keep (hs cb (heap_lt h.ca) h.fc), h.seg.keep (fun e he => hs _ (h.seg.lt e he) (h.fe e he)), h.nd, h.bk.keep (hs _ h.bk.map.lt h.bk.fm) (fun g r hr => hs _ ((h.bk.row g).lt r hr).2 (h.bk.fr g r hr)), h.fc, fun b hf => Nat.lt_of_lt_of_le (h.fl b hf) hc.size, h.fe, h.kn, fun e he => ⟨fun i hi => by
    obtain ⟨h1, b, off, e1, s1, c0, c1⟩ := (h.key e he).1 i hi
    obtain ⟨-, b', off', e2, s2, -, -⟩ := hk e he i hi
    rw [e1] at e2
    injection e2 with e2
    injection e2 with e2 e3
    subst e2; subst e3
    have hb := World.block_lt_of_cell? w _ c0
    refine ⟨h1, b, off, e1, s1, ?_, ?_⟩
    · rw [World.cell?_of_block (a := ⟨b, off + i * 2, none⟩) (hc.block b hb s2)]; exact c0
    · rw [World.cell?_of_block (a := ⟨b, off + i * 2 + 1, none⟩) (hc.block b hb s2)]; exact c1, (h.key e he).2⟩, h.len, h.room⟩
theorem nodup_len : ∀ (l m : List Nat), l.Nodup → (∀ x ∈ l, x ∈ m) → l.length ≤ m.length
  | [], _, _, _ => Nat.zero_le _
  | x :: r, m, hn, hs => by
    have hx := hs x (by simp)
    obtain ⟨h1, h2⟩ := List.nodup_cons.1 hn
    have := nodup_len r (m.erase x) h2 (fun y hy => (List.mem_erase_of_ne (fun c => h1 (by rw [← c]; exact hy))).2 (hs y (by simp [hy])))
    rw [List.length_erase_of_mem hx] at this
    have : 0 < m.length := List.length_pos_of_mem hx
    simp; omega
section
variable {w : World} {F : Nat → Prop} {cb mb : Nat} {room fo mi : Int} {L : List En} {Bk : Int → List Nat} {M : Int → Option Value}
theorem CaAt.small (h : CaAt w F cb mb room fo mi L Bk M) (g : Int) : (Bk g).length ≤ 4096 := by
  have := nodup_len (Bk g) (L.map En.b) (h.bk.bn g) (fun x hx => by
    obtain ⟨e, he, e1, -⟩ := h.bk.in2 g x hx
    exact List.mem_map.2 ⟨e, he, e1⟩)
  have h1 := h.len
  have h2 := h.room.2
  rw [List.length_map] at this
  omega
theorem CaAt.look (h : CaAt w F cb mb room fo mi L Bk M) {g : Int} (hg : U64 g) : (Instr.lookup 73 (.map (some mb)) (.int .u64 g) false).run Try.prog w = .ok (bv M g) w :=
  h.bk.map.look (k := 56) (el := 105) (by kernel_rfl) (by kernel_rfl) (fun w => by kernel_rfl) hg
/-- The entry that a bucket names. -/
theorem CaAt.entry (h : CaAt w F cb mb room fo mi L Bk M) {g : Int} {b : Nat} (hb : b ∈ Bk g) : ∃ e ∈ L, e.b = b ∧ hsh e.k.ky = g ∧ ∃ p q, EnAt w e p q := by
  obtain ⟨e, he, e1, e2⟩ := h.bk.in2 g b hb
  exact ⟨e, he, e1, e2, h.seg.get e he⟩
theorem mem_uniq : ∀ {L : List En}, L.Pairwise (fun x y => x.k.ky ≠ y.k.ky) → ∀ {x y : En}, x ∈ L → y ∈ L → x.k.ky = y.k.ky → x = y
  | [], _, _, _, hx, _, _ => by cases hx
  | a :: r, h, x, y, hx, hy, e => by
    obtain ⟨h1, h2⟩ := List.pairwise_cons.1 h
    rcases List.mem_cons.1 hx with hx1 | hx1
    · rcases List.mem_cons.1 hy with hy1 | hy1
      · rw [hx1, hy1]
      · exact absurd e (by rw [hx1]; exact h1 y hy1)
    · rcases List.mem_cons.1 hy with hy1 | hy1
      · exact absurd e.symm (by rw [hy1]; exact h1 x hx1)
      · exact mem_uniq h2 hx1 hy1 e
theorem blk_uniq : ∀ {L : List En}, (L.map En.b).Nodup → ∀ {x y : En}, x ∈ L → y ∈ L → x.b = y.b → x = y
  | [], _, _, _, hx, _, _ => by cases hx
  | a :: r, h, x, y, hx, hy, e => by
    obtain ⟨h1, h2⟩ := List.nodup_cons.1 h
    rcases List.mem_cons.1 hx with hx1 | hx1
    · rcases List.mem_cons.1 hy with hy1 | hy1
      · rw [hx1, hy1]
      · exact absurd (List.mem_map.2 ⟨y, hy1, by rw [← e, hx1]⟩) h1
    · rcases List.mem_cons.1 hy with hy1 | hy1
      · exact absurd (List.mem_map.2 ⟨x, hx1, by rw [e, hy1]⟩) h1
      · exact blk_uniq h2 hx1 hy1 e
end
/-- What find answers. -/
def FndP (L : List En) (k : Ky) (o : Option En) : Prop := match o with
  | some e => e ∈ L ∧ e.k.ky = k
  | none => ∀ e ∈ L, e.k.ky ≠ k

set_option maxRecDepth 100000 in
set_option maxHeartbeats 4000000 in
theorem find_any (w : World) (F : Nat → Prop) (cb mb : Nat) (room fo mi : Int) (L : List En) (Bk : Int → List Nat) (M : Int → Option Value) (k : Kv) (h : CaAt w F cb mb room fo mi L Bk M) (hk : KvAt (fun _ => True) w k) (hkc : k.rn ≤ k.rc) :
    Calls Try.prog 42 #[.pointer (some ⟨cb, 0, none⟩), .int .u64 (hsh k.ky), k.val] w fun r w' => ∃ o : Option En, r = .returned (pt (o.map En.b)) ∧ FndP L k.ky o ∧ Below w.heap.size w w' := by
  have hU := hsh_U64 k.ky
  have HH := boxed h
  have HK := boxed hk
  obtain ⟨W, hW⟩ : ∃ W, w.alloc (.cells #[.string k.tx, .slice k.ra k.rn k.rc, .int .i64 k.ta, .int .i64 k.wd, .int .i64 k.s.t, .int .i64 k.s.l, .int .i64 k.s.a, .int .i64 k.s.d, .int .i64 k.s.z, .int .i64 k.s.o, .int .i64 k.s.i] 42) = W := ⟨_, rfl⟩
  have HQ := laid1 w (.cells #[.string k.tx, .slice k.ra k.rn k.rc, .int .i64 k.ta, .int .i64 k.wd, .int .i64 k.s.t, .int .i64 k.s.l, .int .i64 k.s.a, .int .i64 k.s.d, .int .i64 k.s.z, .int .i64 k.s.o, .int .i64 k.s.i] 42)
  rw [hW] at HQ
  obtain ⟨f0, hB, hz⟩ := HQ
  have hbb : Below w.heap.size w W := hB
  have H1 := boxed (h.below hB)
  have m4 := H1.out.ca.cells.2.2.2.2.1
  have hlk := H1.out.look hU
  have hsm := H1.out.small (hsh k.ky)
  have hrw := H1.out.bk.row (hsh k.ky)
  have HB := boxed hB
  have HF0 := boxed f0
  have HA : Box (∀ W' (x : Kv), Below W.heap.size W W' → KvAt (fun _ => True) W' x → x.rn ≤ x.rc → Calls Try.prog 22 #[x.val, k.val] W' fun e w' => ∃ r, e = .returned (.bool r) ∧ (r = true ↔ x.ky = k.ky) ∧ Below W'.heap.size W' w') :=
    boxed (fun W' x hb hx hc => alike_any x k W' hx ((hk.below hbb).below hb) hc hkc)
  have HN : Box ((∀ e ∈ L, hsh e.k.ky = hsh k.ky → e.k.ky ≠ k.ky) → FndP L k.ky none) := boxed (fun hh e he c => hh e he (by rw [c]) c)
  have HI : Box (∀ b ∈ Bk (hsh k.ky), ∃ e ∈ L, e.b = b ∧ ∃ p q, EnAt W e p q) := boxed (fun b hb => by
    obtain ⟨e, he, e1, -, e2⟩ := H1.out.entry hb
    exact ⟨e, he, e1, e2⟩)
  have HJ : Box (∀ e ∈ L, hsh e.k.ky = hsh k.ky → e.b ∈ Bk (hsh k.ky)) := boxed (fun e he e1 => by have := h.bk.in1 e he; rwa [e1] at this)
  have HE : Box (∀ e ∈ L, KvAt (fun _ => True) W e.k ∧ e.k.rn ≤ e.k.rc) := boxed (fun e he => ⟨((h.key e he).1.weak).below hbb, (h.key e he).2.2⟩)
  have HUQ : Box (∀ x ∈ L, ∀ y ∈ L, x.b = y.b → x = y) := boxed (fun x hx y hy e => blk_uniq h.nd hx hy e)
  unfold Kv.val at HA
  clear h hk hB f0 hbb H1 HH HK hkc
  unfold Kv.val
  generalize hsh k.ky = g at *
  generalize Bk g = bs at *
  have HX : Box (∀ W', Below W.heap.size W W' → W'.cell? ⟨w.heap.size, 0, none⟩ = some (.string k.tx) ∧ W'.cell? ⟨w.heap.size, 1, none⟩ = some (.slice k.ra k.rn k.rc) ∧ W'.cell? ⟨w.heap.size, 2, none⟩ = some (.int .i64 k.ta) ∧ W'.cell? ⟨w.heap.size, 3, none⟩ = some (.int .i64 k.wd) ∧ W'.cell? ⟨w.heap.size, 4, none⟩ = some (.int .i64 k.s.t) ∧ W'.cell? ⟨w.heap.size, 5, none⟩ = some (.int .i64 k.s.l) ∧ W'.cell? ⟨w.heap.size, 6, none⟩ = some (.int .i64 k.s.a) ∧ W'.cell? ⟨w.heap.size, 7, none⟩ = some (.int .i64 k.s.d) ∧ W'.cell? ⟨w.heap.size, 8, none⟩ = some (.int .i64 k.s.z) ∧ W'.cell? ⟨w.heap.size, 9, none⟩ = some (.int .i64 k.s.o) ∧ W'.cell? ⟨w.heap.size, 10, none⟩ = some (.int .i64 k.s.i)) := boxed (fun W' hb => by
    obtain ⟨q0, q1, q2, q3, q4, q5, q6, q7, q8, q9, q10⟩ := cells11 HF0.out
    exact ⟨hold hb q0, hold hb q1, hold hb q2, hold hb q3, hold hb q4, hold hb q5, hold hb q6, hold hb q7, hold hb q8, hold hb q9, hold hb q10⟩)
  rcases hrw.2 with ⟨e0, e1⟩ | ⟨gb, cap, cur, e0, -, hgb, e2, e3, e4, e5⟩
  · rw [e0] at hlk
    have HN2 := boxed (HN.out (fun e he e9 => by
      have := HJ.out e he e9
      rw [List.length_eq_zero_iff.1 e1] at this
      cases this))
    clear hrw HA HX HI HJ HE HN HF0
    go_enter Try.func42, Try.ntmps42
    go_wp2_with fail
    go_loopw [16] (fun vi wr => vi = .int .i64 0 ∧ Box (W = wr)) (fun _ _ => 0)
    case atStart => exact ⟨rfl, boxed rfl⟩
    case round =>
      obtain ⟨rfl, ⟨hwr⟩⟩ := hrel
      subst wr
      go_wp2
      go_ret
      exact ⟨none, rfl, HN2.out, HB.out⟩
  · rw [e0] at hlk
    have HC : Box (∀ W', Below W.heap.size W W' → ∀ j x, bs[j]? = some x → W'.cell? ⟨gb, j, none⟩ = some (.pointer (some ⟨x, 0, none⟩))) := boxed (fun W' hb j x hj => by
      refine hold hb ?_
      have hl := (List.getElem?_eq_some_iff.1 hj).1
      rw [cell_of_row W gb j cur _ _ hgb]
      have : (cur.toList.take (bs.length * 1))[j]? = (pts bs)[j]? := by rw [e5]
      rw [List.getElem?_take, if_pos (by omega), Array.getElem?_toList, pts_get, hj] at this
      exact this)
    have HG : Box (∀ j, j < bs.length → ∃ x, bs[j]? = some x) := boxed (fun j hj => ⟨bs[j], List.getElem?_eq_getElem hj⟩)
    have HM : Box (∀ b ∈ bs, ∃ j, j < bs.length ∧ bs[j]? = some b) := boxed (fun b hb => by
      obtain ⟨j, hj, e⟩ := List.getElem_of_mem hb
      exact ⟨j, hj, by rw [List.getElem?_eq_getElem hj, e]⟩)
    clear hrw e5 e4 e3 hgb
    go_enter Try.func42, Try.ntmps42
    go_wp2_with fail
    go_loopw [16] (fun vi wr => ∃ i : Nat, i ≤ bs.length ∧ vi = .int .i64 (i : Nat) ∧ Box (Below W.heap.size W wr) ∧ Box (∀ j b e, j < i → bs[j]? = some b → e ∈ L → e.b = b → e.k.ky ≠ k.ky)) (fun vi _ => bs.length - (intOf vi).toNat)
    case atStart => exact ⟨0, Nat.zero_le _, rfl, boxed (Below.refl _ _), boxed (fun j b e hj => by omega)⟩
    case round =>
      obtain ⟨i, hin, rfl, HD0, HS⟩ := hrel
      by_cases hlt : i < bs.length
      · obtain ⟨xb, hxb⟩ := HG.out i hlt
        have hcx := HC.out _ HD0.out i xb hxb
        obtain ⟨e, he, rfl, p, q, hE⟩ := HI.out xb (List.mem_of_getElem? hxb)
        obtain ⟨hek, hec⟩ := HE.out e he
        have hE' : EnAt wr e p q := hE.keep (HD0.out.block _ (heap_lt hE))
        have HE0 := boxed hE'
        have HAx := boxed (fun W' (hb : Below W.heap.size W W') => HA.out W' e.k hb (hek.below hb) hec)
        have HX2 : Box (∀ W', Below wr.heap.size wr W' → W'.cell? ⟨e.b, 0, none⟩ = some (.string e.k.tx) ∧ W'.cell? ⟨e.b, 1, none⟩ = some (.slice e.k.ra e.k.rn e.k.rc) ∧ W'.cell? ⟨e.b, 2, none⟩ = some (.int .i64 e.k.ta) ∧ W'.cell? ⟨e.b, 3, none⟩ = some (.int .i64 e.k.wd) ∧ W'.cell? ⟨e.b, 4, none⟩ = some (.int .i64 e.k.s.t) ∧ W'.cell? ⟨e.b, 5, none⟩ = some (.int .i64 e.k.s.l) ∧ W'.cell? ⟨e.b, 6, none⟩ = some (.int .i64 e.k.s.a) ∧ W'.cell? ⟨e.b, 7, none⟩ = some (.int .i64 e.k.s.d) ∧ W'.cell? ⟨e.b, 8, none⟩ = some (.int .i64 e.k.s.z) ∧ W'.cell? ⟨e.b, 9, none⟩ = some (.int .i64 e.k.s.o) ∧ W'.cell? ⟨e.b, 10, none⟩ = some (.int .i64 e.k.s.i) ∧ W'.cell? ⟨w.heap.size, 0, none⟩ = some (.string k.tx) ∧ W'.cell? ⟨w.heap.size, 1, none⟩ = some (.slice k.ra k.rn k.rc) ∧ W'.cell? ⟨w.heap.size, 2, none⟩ = some (.int .i64 k.ta) ∧ W'.cell? ⟨w.heap.size, 3, none⟩ = some (.int .i64 k.wd) ∧ W'.cell? ⟨w.heap.size, 4, none⟩ = some (.int .i64 k.s.t) ∧ W'.cell? ⟨w.heap.size, 5, none⟩ = some (.int .i64 k.s.l) ∧ W'.cell? ⟨w.heap.size, 6, none⟩ = some (.int .i64 k.s.a) ∧ W'.cell? ⟨w.heap.size, 7, none⟩ = some (.int .i64 k.s.d) ∧ W'.cell? ⟨w.heap.size, 8, none⟩ = some (.int .i64 k.s.z) ∧ W'.cell? ⟨w.heap.size, 9, none⟩ = some (.int .i64 k.s.o) ∧ W'.cell? ⟨w.heap.size, 10, none⟩ = some (.int .i64 k.s.i)) := boxed (fun W' hb => by
          obtain ⟨q0, q1, q2, q3, q4, q5, q6, q7, q8, q9, q10, -⟩ := HE0.out.cells
          refine ⟨hold hb q0, hold hb q1, hold hb q2, hold hb q3, hold hb q4, hold hb q5, hold hb q6, hold hb q7, hold hb q8, hold hb q9, hold hb q10, HX.out W' (HD0.out.trans (hb.mono HD0.out.size))⟩)
        have HD : Box (Below wr.heap.size wr wr.drew) := boxed (Below.refl _ _).drew
        have HEm := boxed he
        have HXb := boxed hxb
        have hi2 : (i : Int) < (bs.length : Int) := by omega
        clear hE hE' hek hec he hxb HE0
        obtain ⟨eb, x, ev⟩ := e
        simp only at *
        go_wp2_with fail
        go_region_held3 (fun W' => W'.cell? ⟨eb, 0, none⟩ = some (.string x.tx) ∧ W'.cell? ⟨eb, 1, none⟩ = some (.slice x.ra x.rn x.rc) ∧ W'.cell? ⟨eb, 2, none⟩ = some (.int .i64 x.ta) ∧ W'.cell? ⟨eb, 3, none⟩ = some (.int .i64 x.wd) ∧ W'.cell? ⟨eb, 4, none⟩ = some (.int .i64 x.s.t) ∧ W'.cell? ⟨eb, 5, none⟩ = some (.int .i64 x.s.l) ∧ W'.cell? ⟨eb, 6, none⟩ = some (.int .i64 x.s.a) ∧ W'.cell? ⟨eb, 7, none⟩ = some (.int .i64 x.s.d) ∧ W'.cell? ⟨eb, 8, none⟩ = some (.int .i64 x.s.z) ∧ W'.cell? ⟨eb, 9, none⟩ = some (.int .i64 x.s.o) ∧ W'.cell? ⟨eb, 10, none⟩ = some (.int .i64 x.s.i) ∧ W'.cell? ⟨w.heap.size, 0, none⟩ = some (.string k.tx) ∧ W'.cell? ⟨w.heap.size, 1, none⟩ = some (.slice k.ra k.rn k.rc) ∧ W'.cell? ⟨w.heap.size, 2, none⟩ = some (.int .i64 k.ta) ∧ W'.cell? ⟨w.heap.size, 3, none⟩ = some (.int .i64 k.wd) ∧ W'.cell? ⟨w.heap.size, 4, none⟩ = some (.int .i64 k.s.t) ∧ W'.cell? ⟨w.heap.size, 5, none⟩ = some (.int .i64 k.s.l) ∧ W'.cell? ⟨w.heap.size, 6, none⟩ = some (.int .i64 k.s.a) ∧ W'.cell? ⟨w.heap.size, 7, none⟩ = some (.int .i64 k.s.d) ∧ W'.cell? ⟨w.heap.size, 8, none⟩ = some (.int .i64 k.s.z) ∧ W'.cell? ⟨w.heap.size, 9, none⟩ = some (.int .i64 k.s.o) ∧ W'.cell? ⟨w.heap.size, 10, none⟩ = some (.int .i64 k.s.i))
          (first | with_reducible exact HX2.out _ HD.out | with_reducible exact HX2.out _ HB2.out)
          (first | (go_at_call 22; refine (HAx.out _ (HD0.out.trans (HD.out.mono HD0.out.size))).mono ?_; rintro e9 w2 ⟨r, rfl, hr, hb2⟩; have HR := boxed hr; have HB2 := boxed (below_step HD.out (Nat.le_refl _) hb2); clear hb2 hr))
        have HF : Box (Below W.heap.size W w2) := boxed (HD0.out.trans (HB2.out.mono HD0.out.size))
        clear HX2 HAx HX HA
        cases r
        · have HS2 : Box (∀ j b e, j < i + 1 → bs[j]? = some b → e ∈ L → e.b = b → e.k.ky ≠ k.ky) := boxed (fun j b e hj hb he eb' => by
            by_cases d : j = i
            · subst d
              rw [HXb.out] at hb
              injection hb with hb
              have e1 : e = ⟨eb, x, ev⟩ := HUQ.out _ he _ HEm.out (by rw [eb', ← hb])
              rw [e1]
              intro c
              have := HR.out.2 c
              cases this
            · exact HS.out j b e (by omega) hb he eb')
          clear HS HR
          go_wp2_with fail
          go_roundw
          case rel => exact ⟨i + 1, by omega, by go_num, HF, HS2⟩
          case measure => simp [intOf]; omega
        · have HP : Box (FndP L k.ky (some ⟨eb, x, ev⟩)) := boxed ⟨HEm.out, HR.out.1 rfl⟩
          clear HS HR
          go_wp2_with fail
          go_ret
          exact ⟨some ⟨eb, x, ev⟩, rfl, HP.out, HB.out.trans (HF.out.mono HB.out.size)⟩
      · obtain rfl : bs.length = i := by omega
        have HP := boxed (HN.out (fun e he eh => by
          obtain ⟨j, hj, e1⟩ := HM.out _ (HJ.out e he eh)
          exact HS.out j _ e hj e1 he rfl))
        clear HS HA HX HI HJ HE HN
        go_wp2_with fail
        go_ret
        exact ⟨none, rfl, HP.out, HB.out.trans (HD0.out.mono HB.out.size)⟩
end Go.Proofs.Ytmnnmnggakbipaa
