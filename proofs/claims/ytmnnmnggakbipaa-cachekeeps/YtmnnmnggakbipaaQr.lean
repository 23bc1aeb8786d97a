/-
  What New, Len, Room, Asked, Clear and Get answer, and what they leave.
-/
import Derived.Test.YtmnnmnggakbipaaQq
namespace Go.Proofs.Ytmnnmnggakbipaa
open Go.RowKit
set_option linter.unusedSimpArgs false
set_option linter.unusedVariables false

/-- Keys and values, from the front to the end. -/
def abL (L : List En) : List (Ky × Int) := L.map fun e => (e.k.ky, e.v)
def PutR (room : Int) (l : List (Ky × Int)) (k : Ky) (v : Int) (l' : List (Ky × Int)) : Prop :=
  (room = 0 ∧ l' = l) ∨ (room ≠ 0 ∧ ((∃ i v0, l[i]? = some (k, v0) ∧ l' = (k, v) :: l.eraseIdx i) ∨ ((∀ p ∈ l, p.1 ≠ k) ∧ ((((l.length : Nat) : Int) = room ∧ l' = (k, v) :: l.dropLast) ∨ (((l.length : Nat) : Int) < room ∧ l' = (k, v) :: l)))))
def GetR (l : List (Ky × Int)) (k : Ky) (o : Option Int) (l' : List (Ky × Int)) : Prop :=
  (∃ i v0, l[i]? = some (k, v0) ∧ o = some v0 ∧ l' = (k, v0) :: l.eraseIdx i) ∨ ((∀ p ∈ l, p.1 ≠ k) ∧ o = none ∧ l' = l)
theorem abL_move (A B : List En) (e e' : En) (hk : e'.k.ky = e.k.ky) : ∃ i v0, (abL (A ++ e :: B))[i]? = some (e.k.ky, v0) ∧ v0 = e.v ∧ abL (e' :: (A ++ B)) = (e.k.ky, e'.v) :: (abL (A ++ e :: B)).eraseIdx i := by
  refine ⟨A.length, e.v, ?_, rfl, ?_⟩
  · simp [abL]
  · have h1 : (abL (A ++ e :: B)) = abL A ++ (e.k.ky, e.v) :: abL B := by simp [abL]
    have h2 : (abL A).length = A.length := by simp [abL]
    rw [h1, ← h2, List.eraseIdx_append_of_length_le (Nat.le_refl _)]
    simp [abL, hk]
theorem abL_none {L : List En} {k : Ky} (h : ∀ e ∈ L, e.k.ky ≠ k) : ∀ p ∈ abL L, p.1 ≠ k := fun p hp => by
  obtain ⟨e, he, rfl⟩ := List.mem_map.1 hp
  exact h e he
theorem perm_mid (A B : List En) (e : En) : (e :: (A ++ B)).Perm (A ++ e :: B) := List.perm_middle.symm

section
variable {w : World} {F : Nat → Prop} {cb mb : Nat} {room fo mi : Int} {L : List En} {Bk : Int → List Nat} {M : Int → Option Value}
theorem len_any (h : CaAt w F cb mb room fo mi L Bk M) : Calls Try.prog 27 #[.pointer (some ⟨cb, 0, none⟩)] w fun r w' => r = .returned (.int .i64 (L.length : Nat)) ∧ w' = w := by
  have c1 := h.ca.cells.2.1
  clear h
  go_enter Try.func27, Try.ntmps27
  go_wp2
  go_ret
  exact ⟨rfl, rfl⟩
theorem room_any (h : CaAt w F cb mb room fo mi L Bk M) : Calls Try.prog 13 #[.pointer (some ⟨cb, 0, none⟩)] w fun r w' => r = .returned (.int .i64 room) ∧ w' = w := by
  have c1 := h.ca.cells.1
  clear h
  go_enter Try.func13, Try.ntmps13
  go_wp2
  go_ret
  exact ⟨rfl, rfl⟩
theorem asked_any (h : CaAt w F cb mb room fo mi L Bk M) : Calls Try.prog 12 #[.pointer (some ⟨cb, 0, none⟩)] w fun r w' => r = .returned (.tuple #[.int .i64 fo, .int .i64 mi]) ∧ Below w.heap.size w w' := by
  have c1 := h.ca.cells.2.2.1
  have c2 := h.ca.cells.2.2.2.1
  clear h
  go_enter Try.func12, Try.ntmps12
  go_wp2_with fail
  go_quiet (fail)
  go_wp2_with fail
  refine bodyPost_ret (v := .tuple #[.int .i64 fo, .int .i64 mi]) ?_ rfl ?_
  · simp [results, Try.results12, go_sem]
  exact ⟨rfl, bel_drewN _ _ _⟩
end

set_option maxRecDepth 100000 in
set_option maxHeartbeats 2000000 in
theorem new_any (room : Int) (w : World) : Calls Try.prog 24 #[.int .i64 room] w fun r w' => Below w.heap.size w w' ∧ (((room < 0 ∨ 4096 < room) ∧ r = .returned (.tuple #[.pointer none, .int .i64 1])) ∨
    ((0 ≤ room ∧ room ≤ 4096) ∧ ∃ cb mb F, r = .returned (.tuple #[.pointer (some ⟨cb, 0, none⟩), .int .i64 0]) ∧ (∀ b, F b → w.heap.size ≤ b) ∧ CaAt w' F cb mb room 0 0 [] (fun _ => []) (fun _ => none))) := by
  by_cases c1 : room < 0
  · have t1 : decide (room < 0) = true := decide_eq_true c1
    have HC := boxed c1
    clear c1
    go_enter Try.func24, Try.ntmps24
    go_wp2_with fail
    refine bodyPost_ret (v := .tuple #[.pointer none, .int .i64 1]) ?_ rfl ?_
    · simp [results, Try.results24, go_sem]
    exact ⟨Below.refl _ _, .inl ⟨.inl HC.out, rfl⟩⟩
  have t1 : decide (room < 0) = false := decide_eq_false c1
  by_cases c2 : 4096 < room
  · have t2 : decide ((4096 : Int) < room) = true := decide_eq_true c2
    have HC := boxed c2
    clear c1 c2
    go_enter Try.func24, Try.ntmps24
    go_wp2_with fail
    refine bodyPost_ret (v := .tuple #[.pointer none, .int .i64 1]) ?_ rfl ?_
    · simp [results, Try.results24, go_sem]
    exact ⟨Below.refl _ _, .inl ⟨.inr HC.out, rfl⟩⟩
  have t2 : decide ((4096 : Int) < room) = false := decide_eq_false c2
  obtain ⟨h1, h2, h3, h4⟩ := laid2 w (.map #[] 0) (.cells (caC room 0 0 0 w.heap.size none none) 76)
  have HF : Box (CaAt ((w.alloc (.map #[] 0)).alloc (.cells (caC room 0 0 0 w.heap.size none none) 76)) (fun b => b = w.heap.size + 1 ∨ b = w.heap.size) (w.heap.size + 1) w.heap.size room 0 0 [] (fun _ => []) (fun _ => none)) := boxed
    ⟨h2, trivial, by simp, ⟨⟨#[], 0, h1, by simp, by simp, by simp⟩, fun h => World.ownsRow_nil _ _ _ _, fun h h' g _ hb => (by cases hb), fun h g hb => (by cases hb), .inr rfl, (by simp), fun h b hb => (by cases hb), fun h => List.nodup_nil⟩, .inl rfl, fun b hb => by rw [h4]; omega, by simp, List.Pairwise.nil, by simp, by simp; omega, by omega⟩
  unfold caC pt at HF h3
  have HB := boxed h3
  have HC := boxed (show 0 ≤ room ∧ room ≤ 4096 by omega)
  have hmk : ∀ W : World, (Instr.makeMap 73 none).run Try.prog W = .ok (.map (some W.heap.size)) (W.alloc (.map #[] 0)) := fun W => by kernel_rfl
  clear h1 h2 h3 h4 c1 c2
  go_enter Try.func24, Try.ntmps24
  go_wp2_with fail
  refine bodyPost_ret (v := .tuple #[.pointer (some ⟨w.heap.size + 1, 0, none⟩), .int .i64 0]) ?_ rfl ?_
  · simp [results, Try.results24, go_sem]
  exact ⟨HB.out, .inr ⟨HC.out, w.heap.size + 1, w.heap.size, _, rfl, fun b hb => by omega, HF.out⟩⟩

set_option maxRecDepth 100000 in
set_option maxHeartbeats 2000000 in
theorem clear_any (w : World) (F : Nat → Prop) (cb mb : Nat) (room fo mi : Int) (L : List En) (Bk : Int → List Nat) (M : Int → Option Value) (h : CaAt w F cb mb room fo mi L Bk M) :
    Calls Try.prog 28 #[.pointer (some ⟨cb, 0, none⟩)] w fun r w' => r = .returned (.tuple #[]) ∧ CaAt w' F cb mb room fo mi [] (fun _ => []) (fun _ => none) ∧ Chg F w w' := by
  obtain ⟨⟨n1, n2⟩, n3⟩ := h.far
  have c4 := h.ca.cells.2.2.2.2.1
  obtain ⟨w1, hrun, hM, hg⟩ := h.bk.map.clr (P := Try.prog) (t := 73) (k := 56) (el := 105) (by kernel_rfl) 0
  have hCa1 := h.ca.keep (hg.block _ (heap_lt h.ca) (fun c => n1 (by injection c with c; exact c.symm)))
  have d5 := hCa1.cells.2.2.2.2.2.1
  have d6 := hCa1.cells.2.2.2.2.2.2
  have d1 := hCa1.cells.2.1
  have z5 := row_free hCa1 5
  have z6 := row_free hCa1 6
  have z1 := row_free hCa1 1
  have hCa2 := ((hCa1.front none).endd none).setCnt 0
  have hch : Chg F w (((w1.setCell ⟨cb, 5, none⟩ (pt none)).setCell ⟨cb, 6, none⟩ (pt none)).setCell ⟨cb, 1, none⟩ (.int .i64 0)) := (((Chg.of_grown hg (fun g e => by injection e with e; subst e; exact h.bk.fm)).trans (Chg.set _ _ _ _ h.fc)).trans (Chg.set _ _ _ _ h.fc)).trans (Chg.set _ _ _ _ h.fc)
  have HF : Box (CaAt (((w1.setCell ⟨cb, 5, none⟩ (.pointer none)).setCell ⟨cb, 6, none⟩ (.pointer none)).setCell ⟨cb, 1, none⟩ (.int .i64 0)) F cb mb room fo mi [] (fun _ => []) (fun _ => none) ∧ Chg F w (((w1.setCell ⟨cb, 5, none⟩ (.pointer none)).setCell ⟨cb, 6, none⟩ (.pointer none)).setCell ⟨cb, 1, none⟩ (.int .i64 0))) := boxed
    ⟨⟨hCa2, trivial, by simp, ⟨hM.keep (by rw [set_other _ _ _ _ _ n1, set_other _ _ _ _ _ n1, set_other _ _ _ _ _ n1]), fun h => World.ownsRow_nil _ _ _ _, fun h h' g _ hb => (by cases hb), fun h g hb => (by cases hb), h.bk.fm, (by simp), fun h b hb => (by cases hb), fun h => List.nodup_nil⟩, h.fc, fun b hb => Nat.lt_of_lt_of_le (h.fl b hb) hch.size, by simp, List.Pairwise.nil, by simp, by have := h.room; simp; omega, h.room⟩, hch⟩
  unfold pt at d5 d6
  clear h hM hg hCa1 hCa2 hch n1 n2 n3
  go_enter Try.func28, Try.ntmps28
  go_wp2_with fail
  exact bodyPost_end (results_none rfl _ _ _) rfl ⟨rfl, HF.out⟩

set_option maxRecDepth 100000 in
set_option maxHeartbeats 4000000 in
theorem get_any (w : World) (F : Nat → Prop) (cb mb : Nat) (room fo mi : Int) (L : List En) (Bk : Int → List Nat) (M : Int → Option Value) (k : Kv) (h : CaAt w F cb mb room fo mi L Bk M) (hk : KvAt (fun _ => True) w k) (hf : Fits k) (hkc : k.rn ≤ k.rc) (hfo : 0 ≤ fo ∧ fo < 1000000) (hmi : 0 ≤ mi ∧ mi < 1000000) :
    Calls Try.prog 26 #[.pointer (some ⟨cb, 0, none⟩), k.val] w fun r w' => ∃ (o : Option Int) (L' : List En), r = .returned (.tuple #[match o with | some v => (.int .i64 v) | none => (.int .i64 0), .bool o.isSome]) ∧ CaAt w' F cb mb room (fo + if o.isSome then 1 else 0) (mi + if o.isSome then 0 else 1) L' Bk M ∧ GetR (abL L) k.ky o (abL L') ∧ Chg F w w' := by
  have HH := boxed h
  have HK := boxed hk
  have hrn := hf.rn
  have htx := hf.tx
  obtain ⟨W, hW⟩ : ∃ W, w.alloc (.cells #[.string k.tx, .slice k.ra k.rn k.rc, .int .i64 k.ta, .int .i64 k.wd, .int .i64 k.s.t, .int .i64 k.s.l, .int .i64 k.s.a, .int .i64 k.s.d, .int .i64 k.s.z, .int .i64 k.s.o, .int .i64 k.s.i] 42) = W := ⟨_, rfl⟩
  have HQ := laid1 w (.cells #[.string k.tx, .slice k.ra k.rn k.rc, .int .i64 k.ta, .int .i64 k.wd, .int .i64 k.s.t, .int .i64 k.s.l, .int .i64 k.s.a, .int .i64 k.s.d, .int .i64 k.s.z, .int .i64 k.s.o, .int .i64 k.s.i] 42)
  rw [hW] at HQ
  obtain ⟨f0, hB, hz⟩ := HQ
  have HB := boxed hB
  have HX : Box (∀ W', Below W.heap.size W W' → W'.cell? ⟨w.heap.size, 0, none⟩ = some (.string k.tx) ∧ W'.cell? ⟨w.heap.size, 1, none⟩ = some (.slice k.ra k.rn k.rc) ∧ W'.cell? ⟨w.heap.size, 2, none⟩ = some (.int .i64 k.ta) ∧ W'.cell? ⟨w.heap.size, 3, none⟩ = some (.int .i64 k.wd) ∧ W'.cell? ⟨w.heap.size, 4, none⟩ = some (.int .i64 k.s.t) ∧ W'.cell? ⟨w.heap.size, 5, none⟩ = some (.int .i64 k.s.l) ∧ W'.cell? ⟨w.heap.size, 6, none⟩ = some (.int .i64 k.s.a) ∧ W'.cell? ⟨w.heap.size, 7, none⟩ = some (.int .i64 k.s.d) ∧ W'.cell? ⟨w.heap.size, 8, none⟩ = some (.int .i64 k.s.z) ∧ W'.cell? ⟨w.heap.size, 9, none⟩ = some (.int .i64 k.s.o) ∧ W'.cell? ⟨w.heap.size, 10, none⟩ = some (.int .i64 k.s.i)) := boxed (fun W' hb => by
    obtain ⟨q0, q1, q2, q3, q4, q5, q6, q7, q8, q9, q10⟩ := cells11 f0
    exact ⟨hold hb q0, hold hb q1, hold hb q2, hold hb q3, hold hb q4, hold hb q5, hold hb q6, hold hb q7, hold hb q8, hold hb q9, hold hb q10⟩)
  have HHs := boxed (fun W' (hb : Below W.heap.size W W') => hash_any k W' ((hk.below hB).below hb) (by omega) (by unfold maxLen; omega))
  have HFn := boxed (fun W' (hb : Below W.heap.size W W') => find_any W' F cb mb room fo mi L Bk M k ((h.below hB).below hb) ((hk.below hB).below hb) hkc)
  have HD : Box (Below W.heap.size W W.drew) := boxed (Below.refl _ _).drew
  unfold Kv.val at HHs HFn ⊢
  clear h hk hf hkc hB f0 hz hrn htx HK
  generalize hsh k.ky = g at *
  go_enter Try.func26, Try.ntmps26
  go_wp2_with fail
  go_region_held3 (fun W' => W'.cell? ⟨w.heap.size, 0, none⟩ = some (.string k.tx) ∧ W'.cell? ⟨w.heap.size, 1, none⟩ = some (.slice k.ra k.rn k.rc) ∧ W'.cell? ⟨w.heap.size, 2, none⟩ = some (.int .i64 k.ta) ∧ W'.cell? ⟨w.heap.size, 3, none⟩ = some (.int .i64 k.wd) ∧ W'.cell? ⟨w.heap.size, 4, none⟩ = some (.int .i64 k.s.t) ∧ W'.cell? ⟨w.heap.size, 5, none⟩ = some (.int .i64 k.s.l) ∧ W'.cell? ⟨w.heap.size, 6, none⟩ = some (.int .i64 k.s.a) ∧ W'.cell? ⟨w.heap.size, 7, none⟩ = some (.int .i64 k.s.d) ∧ W'.cell? ⟨w.heap.size, 8, none⟩ = some (.int .i64 k.s.z) ∧ W'.cell? ⟨w.heap.size, 9, none⟩ = some (.int .i64 k.s.o) ∧ W'.cell? ⟨w.heap.size, 10, none⟩ = some (.int .i64 k.s.i))
    (first | with_reducible exact HX.out _ HD.out | with_reducible exact HX.out _ HB2.out | with_reducible exact HX.out _ HB3.out)
    (first
      | (go_at_call 23; refine (HHs.out _ HD.out).mono ?_; rintro e9 w2 ⟨rfl, hb2⟩; have HB2 := boxed (below_step HD.out (Nat.le_refl _) hb2); clear hb2)
      | (go_at_call 42; refine (HFn.out _ HB2.out).mono ?_; rintro e9 w3 ⟨o, rfl, hfp, hb3⟩; have HP := boxed hfp; have HB3 := boxed (below_step HB2.out (Nat.le_refl _) hb3); clear hb3 hfp))
  have H3 := boxed ((HH.out.below HB.out).below HB3.out)
  have HBw : Box (Below w.heap.size w w3) := boxed (HB.out.trans (HB3.out.mono HB.out.size))
  clear HX HHs HFn HB2
  cases o with
  | none =>
    have m3 := H3.out.ca.cells.2.2.2.1
    have z3 := row_free H3.out.ca 3
    have hwp : IntKind.i64.wrap (mi + 1) = mi + 1 := by rw [IntKind.wrap_i64]; omega
    have HF : Box (CaAt (w3.setCell ⟨cb, 3, none⟩ (.int .i64 (mi + 1))) F cb mb room (fo + 0) (mi + 1) L Bk M ∧ Chg F w (w3.setCell ⟨cb, 3, none⟩ (.int .i64 (mi + 1)))) := boxed ⟨by
      rw [Int.add_zero]
      have hne := H3.out.seg.ne H3.out.ca
      exact H3.out.move (List.Perm.refl _) (H3.out.ca.setMi (mi + 1)) (H3.out.seg.keep (fun x hx => set_other _ _ _ _ _ (hne x hx))) (Chg.set _ _ _ _ (.inl rfl)), (Chg.of_below HBw.out).trans (Chg.set _ _ _ _ HH.out.fc)⟩
    have HR : Box (GetR (abL L) k.ky none (abL L)) := boxed (.inr ⟨abL_none HP.out, rfl, rfl⟩)
    unfold pt
    simp only [Option.map_none]
    clear HP H3 HH HBw HB HB3
    go_wp2_with fail
    refine bodyPost_ret (v := .tuple #[(.int .i64 0), .bool false]) ?_ rfl ?_
    · simp [results, Try.results26, go_sem]
    exact ⟨none, L, rfl, HF.out.1, HR.out, HF.out.2⟩
  | some e =>
    obtain ⟨hm, hky⟩ := HP.out
    obtain ⟨A, B, hAB⟩ := List.append_of_mem hm
    subst hAB
    have m2 := H3.out.ca.cells.2.2.1
    have z2 := row_free H3.out.ca 2
    have hwp : IntKind.i64.wrap (fo + 1) = fo + 1 := by rw [IntKind.wrap_i64]; omega
    have hne := H3.out.seg.ne H3.out.ca
    have hMv : CaAt (w3.setCell ⟨cb, 2, none⟩ (.int .i64 (fo + 1))) F cb mb room (fo + 1) mi (A ++ e :: B) Bk M := H3.out.move (List.Perm.refl _) (H3.out.ca.setFo (fo + 1)) (H3.out.seg.keep (fun x hx => set_other _ _ _ _ _ (hne x hx))) (Chg.set _ _ _ _ (.inl rfl))
    have HMv := boxed hMv
    have HBt := boxed (btf_any _ cb room ((A ++ e :: B).length : Nat) (fo + 1) mi mb A e B hMv.ca hMv.seg hMv.nd)
    have HC4 : Box (Chg F w (w3.setCell ⟨cb, 2, none⟩ (.int .i64 (fo + 1)))) := boxed ((Chg.of_below HBw.out).trans (Chg.set _ _ _ _ HH.out.fc))
    have HR := boxed (abL_move A B e e rfl)
    rw [hky] at HR
    have HKy := boxed hky
    have HFe : Box (∀ b, (b = cb ∨ b ∈ (A ++ e :: B).map En.b) → F b) := boxed (fun b hb => by
      rcases hb with rfl | hb
      · exact HH.out.fc
      · obtain ⟨x, hx, rfl⟩ := List.mem_map.1 hb; exact HH.out.fe x hx)
    unfold pt
    simp only [Option.map_some]
    clear HP H3 HH HBw HB HB3 hm hky hMv hne
    go_wp2_with fail
    refine HBt.out.mono ?_
    rintro r w5 ⟨rfl, b1, b2, b3⟩
    have hlen : (e :: (A ++ B)).length = (A ++ e :: B).length := by simp; omega
    have H5 := HMv.out.move (perm_mid A B e) (by rw [hlen]; exact b1) b2 b3
    obtain ⟨p5, q5, hE5⟩ := b2.get e (by simp)
    have x11 := hE5.cells.2.2.2.2.2.2.2.2.2.2.2.1
    have HF : Box (CaAt w5 F cb mb room (fo + 1) (mi + 0) (e :: (A ++ B)) Bk M ∧ Chg F w w5) := boxed ⟨by rw [Int.add_zero]; exact H5, HC4.out.trans (b3.mono (fun b _ hb => HFe.out b hb))⟩
    clear b1 b2 b3 H5 hE5 HBt HMv HC4 HFe
    go_wp2_with fail
    refine bodyPost_ret (v := .tuple #[(.int .i64 e.v), .bool true]) ?_ rfl ?_
    · simp [results, Try.results26, go_sem]
    obtain ⟨i, v0, g1, g2, g3⟩ := HR.out
    exact ⟨some e.v, e :: (A ++ B), rfl, HF.out.1, .inl ⟨i, v0, g1, by rw [g2], by rw [g2]; exact g3⟩, HF.out.2⟩
end Go.Proofs.Ytmnnmnggakbipaa
