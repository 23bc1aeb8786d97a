/-
  What the program's add, gather and Insert do.
-/
import Derived.Test.YtfikmlgmklnlaaaWp
namespace Go.Proofs.Ytfikmlgmklnlaaa
open Go.RowKit
set_option linter.unusedSimpArgs false
set_option linter.unusedVariables false

theorem wpList_append_run {P : Program} {w : World} {ops : Array Oper} {rest : List Oper} {o : Oper} {a : Act} {Q : Exit → Act → World → Prop} (hgd : o.guard = none) (sl x : Operand) (t u : TypeId)
    (ho : o.op = .call { callee := .builtin .append, args := #[sl, x], argTypes := #[t, u] }) (v : Value) (s : ByteArray) (hs : a.eval sl = v) (hx : a.eval x = .string s) {v' : Value} {w' : World}
    (hr : (Builtin.append_ #[t, u] o.type #[v, .string s]).run P w = .ok v' w') (h : wpList P ops Q rest (a.put o.dst v') w') : wpList P ops Q (o :: rest) a w := by
  refine wpList_plain hgd fun K hK => ?_
  unfold Oper.wp execOp
  simp only [ho, resolve, invoke, builtin, Sem.run_bind, Sem.run_pure, Result.andThen_ok, List.map_toArray, List.map_cons, List.map_nil, hs, hx, hr]
  exact hK _ _ h

/-- What is named behind an append. -/
def Sn (S : Nat → Nat → Prop) (tb ab al ac k : Nat) (b i : Nat) : Prop := (S b i ∨ (b = ab ∧ al ≤ i ∧ i < al + k)) ∧ Sf tb (some (ab, al + k, ac)) b i

structure Added (S : Nat → Nat → Prop) (w : World) (tb : Nat) (x : Option Addr) (A : Option (Nat × Nat × Nat)) (s : ByteArray) (w' : World) (pc : Pc) (A' : Option (Nat × Nat × Nat)) (S' : Nat → Nat → Prop) : Prop where
  txt : pc.l = bl s
  pc : PcAt S' w' pc
  kp : Kp S S' w w'
  blk : w'.heap[tb]? = some (.cells #[.pointer x, adv A'] 62 (0, 0))
  ad : AdAt w' A'
  up : ∀ b i, w'.heap.size ≤ b → S' b i
  sub : ∀ b i, S' b i → Sf tb A' b i
  ed : Edits tb A w w'
  al : adl A' = adl A + s.size
  ge : ∀ B, AdGe B A → B ≤ w.heap.size → AdGe B A'
  from' : ∀ b i, S' b i → S b i ∨ ∃ c, A = some (b, adl A, c) ∧ adl A ≤ i ∧ i < c
  place : (∃ c, A' = some c ∧ A.map (·.1) = some c.1 ∧ A.map (·.2.2) = some c.2.2) ∨ (∃ c, A' = some c ∧ w.heap.size ≤ c.1)

theorem Edits.setNew {tb : Nat} {A : Option (Nat × Nat × Nat)} {w w' : World} (h : Edits tb A w w') {R : Nat} (hR : w.heap.size ≤ R) (j : Nat) (v : Value) : Edits tb A w (w'.setCell ⟨R, j, none⟩ v) := by
  refine ⟨h.os, h.tape, h.output, by simpa [World.setCell] using h.size, fun b i u hb ho hc => ?_, fun k hk h1 h2 => ?_, fun k cs t hk hc => ?_⟩
  · have := World.block_lt_of_cell? w _ hc
    simp at this
    exact far_set (by omega) (h.cell b i u hb ho hc)
  · rw [Below.heap_setCell _ _ _ _ (by show k ≠ R; omega)]; exact h.block k hk h1 h2
  · have := (Array.getElem?_eq_some_iff.1 hc).1
    obtain ⟨cs', h1, h2⟩ := h.shape k cs t hk hc
    exact ⟨cs', by rw [Below.heap_setCell _ _ _ _ (by show k ≠ R; omega)]; exact h1, h2⟩
theorem TextAt.far {S : Nat → Nat → Prop} {w : World} {tb : Nat} {x : Option Addr} {A : Option (Nat × Nat × Nat)} {T : Tr} (h : TextAt S w tb x A T) : Far A tb := by
  intro ab l c e hx
  subst e; subst hx
  obtain ⟨cur, h1, _⟩ := h.ad
  have hb := h.blk
  rw [h1] at hb
  injection hb with hb
  injection hb with _ e2 _
  exact absurd e2 (by decide)

theorem added_of {S : Nat → Nat → Prop} {w : World} {tb : Nat} {x : Option Addr} {A : Option (Nat × Nat × Nat)} {T : Tr} (h : TextAt S w tb x A T) (s : ByteArray) (h0 : s.size ≠ 0) (hs : s.size ≤ 65536) (hal : adl A ≤ 262144)
    {w0 w1 w2 : World} {ab ac R : Nat} {v1 : Value} (hb0 : Below w.heap.size w w0) (hap : Apd A w0 s ab ac w1) (hR : w.heap.size ≤ R) (hRlt : R < w0.heap.size) (hRab : R ≠ ab) (hf : Far A R)
    (hb2 : Below (w1.setCell ⟨tb, 1, none⟩ (.slice (some ⟨ab, 0, none⟩) (adl A + s.size) ac)).heap.size (w1.setCell ⟨tb, 1, none⟩ (.slice (some ⟨ab, 0, none⟩) (adl A + s.size) ac)) w2) (v0' v1' : Value) :
    Added S w tb x A s ((w2.setCell ⟨R, 0, none⟩ v0').setCell ⟨R, 1, none⟩ v1') ⟨ab, adl A, ac - adl A, bl s⟩ (some (ab, adl A + s.size, ac)) (Sn S tb ab (adl A) ac s.size) := by
  have htb : tb < w.heap.size := (Array.getElem?_eq_some_iff.1 h.blk).1
  have hfar := h.far
  have hsz0 := hb0.size
  have hsz1 := hap.size
  have hsz2 := hb2.size
  have hset : (w1.setCell ⟨tb, 1, none⟩ (.slice (some ⟨ab, 0, none⟩) (adl A + s.size) ac)).heap.size = w1.heap.size := by simp [World.setCell]
  have hsz3 : ((w2.setCell ⟨R, 0, none⟩ v0').setCell ⟨R, 1, none⟩ v1').heap.size = w2.heap.size := by simp [World.setCell]
  rw [hset] at hsz2
  obtain ⟨cur, hcur, hroom, hac, hcm⟩ := hap.ad
  have habl : ab < w1.heap.size := (Array.getElem?_eq_some_iff.1 hcur).1
  have habt : tb ≠ ab := by
    rcases hap.place with e | e
    · exact hfar _ _ _ e
    · omega
  -- a cell that is none of tb's, through the four steps
  have step : ∀ (b i : Nat) (u : Value), b ≠ tb → b ≠ R → w1.cell? ⟨b, i, none⟩ = some u → ((w2.setCell ⟨R, 0, none⟩ v0').setCell ⟨R, 1, none⟩ v1').cell? ⟨b, i, none⟩ = some u := by
    intro b i u h1 h2 hc
    refine far_set (Ne.symm h2) (far_set (Ne.symm h2) (hold hb2 (far_set (Ne.symm h1) hc)))
  have stepB : ∀ k : Nat, k < w1.heap.size → k ≠ R → ((w2.setCell ⟨R, 0, none⟩ v0').setCell ⟨R, 1, none⟩ v1').heap[k]? = (w1.setCell ⟨tb, 1, none⟩ (.slice (some ⟨ab, 0, none⟩) (adl A + s.size) ac)).heap[k]? := by
    intro k hk h2
    rw [Below.heap_setCell _ _ _ _ h2, Below.heap_setCell _ _ _ _ h2, hb2.block k (by rw [hset]; exact hk)]
  refine ⟨rfl, ⟨⟨?_, ⟨?_, ?_⟩, ?_, bl_lt s⟩, fun i hi => ⟨⟨.inr ⟨rfl, Nat.le_add_right _ _, ?_⟩, fun e => habt e.symm, fun ab' l' c' e _ => ?_⟩, ?_⟩⟩, ?_, ?_, ?_, ?_, fun b i hb => hb.2, ?_, rfl, ?_, ?_, ?_⟩
  · intro e
    have := congrArg List.length e
    rw [bl_len] at this
    exact h0 (by simpa using this)
  · show (bl s).length ≤ ac - adl A
    rw [bl_len]; omega
  · show (bl s).length ≤ _
    rw [bl_len]; omega
  · show ac - adl A ≤ maxLen
    omega
  · simp only [bl_len] at hi
    show adl A + i < adl A + s.size
    omega
  · cases e
    simp only [bl_len] at hi
    exact .inl (show adl A + i < adl A + s.size by omega)
  · simp only [bl_len] at hi
    exact step _ _ _ (Ne.symm habt) (Ne.symm hRab) (hap.new i hi)
  · intro b i u hs hc
    have hlt := World.block_lt_of_cell? w _ hc
    simp at hlt
    obtain ⟨g1, g2⟩ := h.sub b i hs
    refine ⟨⟨.inl hs, g1, fun ab' l' c' e hx => ?_⟩, step b i u g1 (by omega) (hap.cell b i u g2 (hold hb0 hc))⟩
    cases e
    rcases hap.place with p | p
    · have := g2 _ _ _ p hx
      omega
    · omega
  · rw [stepB tb (by omega) (by omega)]
    refine set1_heap (v1 := adv A) ?_
    rw [hap.block tb (by omega) hfar, hb0.block tb htb]
    exact h.blk
  · refine ⟨cur, ?_, hroom, hac, hcm, by omega⟩
    rw [stepB ab habl (Ne.symm hRab), Below.heap_setCell _ _ _ _ (Ne.symm habt)]
    exact hcur
  · intro b i hb
    rw [hsz3] at hb
    refine ⟨.inl (h.up b i (by omega)), by omega, fun ab' l' c' e hx => ?_⟩
    cases e
    omega
  · have ed1 : Edits tb A w0 w1 := ⟨hap.os, hap.tape, hap.output, hap.size, fun b i u _ ho hc => hap.cell b i u ho hc, fun k hk _ hf => hap.block k hk hf, fun k cs t _ hk => hap.shape k cs t hk⟩
    exact (((((Edits.of_below hb0).any A).trans ed1).trans ((Edits.set _ _ _).any A)).trans ((Edits.of_below hb2).any A)).setNew hR 0 v0' |>.setNew hR 1 v1'
  · intro B hB hw
    show B ≤ ab
    rcases hap.place with p | p
    · rw [p] at hB; exact hB
    · omega
  · rintro b i ⟨g | ⟨g1, g2, g3⟩, _⟩
    · exact .inl g
    · subst g1
      rcases hap.place with p | p
      · exact .inr ⟨ac, p, g2, by omega⟩
      · exact .inl (h.up b i (by omega))
  · rcases hap.place with p | p
    · exact .inl ⟨_, rfl, by rw [p]; rfl, by rw [p]; rfl⟩
    · exact .inr ⟨_, rfl, by show _ ≤ ab; omega⟩

theorem adv_shape (A : Option (Nat × Nat × Nat)) : ∃ ao C, adv A = .slice ao (adl A) C := by
  match A with
  | none => exact ⟨none, 0, rfl⟩
  | some (b, l, c) => exact ⟨_, _, rfl⟩

set_option maxRecDepth 100000 in
set_option maxHeartbeats 1000000 in
theorem add_any {S : Nat → Nat → Prop} {w : World} {tb : Nat} {x : Option Addr} {A : Option (Nat × Nat × Nat)} {T : Tr} (h : TextAt S w tb x A T) (s : ByteArray) (h0 : s.size ≠ 0) (hs : s.size ≤ 65536) (hal : adl A ≤ 262144) :
    Calls Try.prog 59 #[.pointer (some ⟨tb, 0, none⟩), .string s] w fun e w' => ∃ pc A' S', e = .returned (.agg #[.slice (some ⟨pc.a, pc.o, none⟩) pc.l.length pc.cap, .int .i64 (nl pc.l : Nat)]) ∧ Added S w tb x A s w' pc A' S' := by
  have hb0 : Below w.heap.size w (w.alloc (.cells #[.slice none 0 0, .int .i64 0] 91)) := (Below.refl _ _).alloc (Nat.le_refl _) _
  obtain ⟨ab, ac, w1, hrun, hap⟩ := run_append_added A _ (h.ad.below hb0) s h0 hs
  have htb : tb < w.heap.size := (Array.getElem?_eq_some_iff.1 h.blk).1
  have hfar := h.far
  have hRab : w.heap.size ≠ ab := by
    rcases hap.place with p | p
    · intro e
      have := h.ad
      rw [p, ← e] at this
      obtain ⟨cur, h1, _⟩ := this
      exact absurd (Array.getElem?_eq_some_iff.1 h1).1 (by omega)
    · rw [World.size_alloc] at p; omega
  have hfR : Far A w.heap.size := by
    intro ab' l c e hx
    have := h.ad
    rw [e, ← hx] at this
    obtain ⟨cur, h1, _⟩ := this
    exact absurd (Array.getElem?_eq_some_iff.1 h1).1 (by omega)
  have hblk1 : w1.heap[tb]? = some (.cells #[.pointer x, adv A] 62 (0, 0)) := by
    rw [hap.block tb (by rw [World.size_alloc]; omega) hfar, hb0.block tb htb]; exact h.blk
  have hR1 : w1.heap[w.heap.size]? = some (.cells #[.slice none 0 0, .int .i64 0] 91 (0, 0)) := by
    rw [hap.block _ (by rw [World.size_alloc]; omega) hfR]; exact heap_alloc_new w _
  obtain ⟨cur, hcur, hroom, hac, hcm⟩ := hap.ad
  have hadd := fun w2 hb2 v0' v1' => added_of h s h0 hs hal (w0 := w.alloc (.cells #[.slice none 0 0, .int .i64 0] 91)) (w1 := w1) (w2 := w2) (ab := ab) (ac := ac) (R := w.heap.size) (v1 := undef) hb0 hap (Nat.le_refl _) (by simp) hRab hfR hb2 v0' v1'
  have HA := boxed hadd
  have hpc0 := (hadd _ (Below.refl _ _) (.slice none 0 0) (.int .i64 0)).pc
  clear hadd
  have hab1 : w1.cell? ⟨tb, 1, none⟩ = some (adv A) := by rw [cell_of_row w1 tb 1 _ _ _ hblk1]; rfl
  have hfz1 : w1.frozen? ⟨tb, 1, none⟩ = false := by unfold World.frozen?; rw [hblk1]; simp
  have c1 : w.cell? ⟨tb, 1, none⟩ = some (adv A) := by rw [cell_of_row w tb 1 _ _ _ h.blk]; rfl
  obtain ⟨ao, C, hadv⟩ := adv_shape A
  rw [hadv] at hrun hab1 c1
  have hne : w.heap.size ≠ tb := by omega
  have habt : tb ≠ ab := by
    rcases hap.place with p | p
    · exact hfar _ _ _ p
    · rw [World.size_alloc] at p; omega
  have hpc : PcAt (fun _ _ => True) (w1.setCell ⟨tb, 1, none⟩ (.slice (some ⟨ab, 0, none⟩) (adl A + s.size) ac)) ⟨ab, adl A, ac - adl A, bl s⟩ :=
    ⟨hpc0.1, fun i hi => ⟨trivial, far_set habt (hap.new i (by simpa only [bl_len] using hi))⟩⟩
  have hcut := cut_any _ _ _ hpc
  have hsl := slice_tail ab 0 (adl A + s.size) ac (adl A) (by omega) hroom
  simp only [bl_len, Nat.zero_add, Nat.add_sub_cancel_left] at hcut hsl
  have hz1 : w.heap.size < w1.heap.size := (Array.getElem?_eq_some_iff.1 hR1).1
  have HR : Box (∀ w2, Below w1.heap.size (w1.setCell ⟨tb, 1, none⟩ (.slice (some ⟨ab, 0, none⟩) (adl A + s.size) ac)) w2 → (w2.cell? ⟨w.heap.size, 0, none⟩ = some (.slice none 0 0) ∧ w2.cell? ⟨w.heap.size, 1, none⟩ = some (.int .i64 0)) ∧ w2.frozen? ⟨w.heap.size, 0, none⟩ = false ∧ w2.frozen? ⟨w.heap.size, 1, none⟩ = false) := boxed (by
    intro w2 hb
    have hb' : w2.heap[w.heap.size]? = some (.cells #[.slice none 0 0, .int .i64 0] 91 (0, 0)) := by
      rw [hb.block _ hz1, Below.heap_setCell _ _ _ _ hne]; exact hR1
    refine ⟨⟨by rw [cell_of_row w2 _ 0 _ _ _ hb']; rfl, by rw [cell_of_row w2 _ 1 _ _ _ hb']; rfl⟩, ?_, ?_⟩ <;> (unfold World.frozen?; rw [hb']; simp))
  clear hpc hpc0 hcur hroom hac hcm hap hfar hfR h hblk1 hR1 hb0
  have hl1 : adl A ≤ 262144 := hal
  go_enter Try.func59, Try.ntmps59
  go_wp2_with (at_builtin; refine wpList_append_run rfl _ _ 60 9 rfl _ s rfl rfl hrun ?_)
  refine hcut.mono ?_
  rintro e w2 ⟨rfl, hb2⟩
  have HAd := boxed (HA.out w2 hb2)
  have hsz : (w1.setCell ⟨tb, 1, none⟩ (.slice (some ⟨ab, 0, none⟩) (adl A + s.size) ac)).heap.size = w1.heap.size := by simp [World.setCell]
  rw [hsz] at hb2
  obtain ⟨⟨r0, r1⟩, g0, g1⟩ := HR.out w2 hb2
  clear HA HR hb2 hcut hrun
  generalize hN : nl (bl s) = N at *
  go_wp2
  refine bodyPost_ret (v := .agg #[.slice (some ⟨ab, adl A, none⟩) s.size (ac - adl A), .int .i64 N]) (by simp [results, Try.results59, go_sem, r0, r1]) rfl ⟨⟨ab, adl A, ac - adl A, bl s⟩, _, _, ?_, HAd.out _ _⟩
  simp only [bl_len, hN]

theorem bl_nil (l : List Nat) (h : l ≠ []) : (tx l).size ≠ 0 := by
  rw [tx_size]; intro e; exact h (List.eq_nil_of_length_eq_zero e)

set_option maxRecDepth 100000 in
set_option maxHeartbeats 1000000 in
theorem gather_any {S : Nat → Nat → Prop} {w : World} {tb : Nat} {x : Option Addr} {A : Option (Nat × Nat × Nat)} {T : Tr} (h : TextAt S w tb x A T) (h0 : T.flat ≠ []) :
    Calls Try.prog 60 #[.pointer (some ⟨tb, 0, none⟩)] w fun e w' => e = .returned (.tuple #[]) ∧ ∃ x' T', TextAt S w' tb x' none T' ∧ T'.flat = T.flat ∧ (T'.pcs.length ≤ 1 ∧ Avl T') ∧ Edits tb none w w' := by
  have hst := string_any h
  have hbl := bl_tx T.flat h.bytes
  have hsz := tx_size T.flat
  have hlen := h.len
  have hcv := fun w => Lib.run_convert_string_bytes (P := Try.prog) w 9 60 5 (tx T.flat) Try.underlying9 Try.underlying60 Try.underlying5
  have hlf := fun w' (hb : Below w.heap.size w w') => leaf_any S ⟨w'.heap.size, 0, grownCap w' (tx T.flat).size 0 5, bl (tx T.flat)⟩ (Lib.bytesWorld w' 5 (tx T.flat)) (bytes_pc S w' (tx T.flat) (bl_nil _ h0) (by omega) (fun i => h.up _ i hb.size)) (fun b i hx => h.up b i (by rw [Lib.bytesWorld_size] at hx; have := hb.size; omega))
  simp only [bl_len, hsz] at hlf hcv
  have hrt : ∀ w', Below w.heap.size w w' → (w'.cell? ⟨tb, 0, none⟩ = some (.pointer x) ∧ w'.cell? ⟨tb, 1, none⟩ = some (adv A)) ∧ w'.frozen? ⟨tb, 0, none⟩ = false ∧ w'.frozen? ⟨tb, 1, none⟩ = false := fun w' hb =>
    ⟨⟨hold hb h.root, by rw [cell_of_row w' tb 1 _ _ _ (h.below hb).blk]; rfl⟩, (h.below hb).frozen 0, (h.below hb).frozen 1⟩
  obtain ⟨ao, C, hadv⟩ := adv_shape A
  rw [hadv] at hrt
  have HH := boxed h
  clear h
  go_enter Try.func60, Try.ntmps60
  go_wp2_with fail
  refine hst.mono ?_
  rintro e w1 ⟨rfl, hb1⟩
  have HB1 := boxed hb1
  clear hb1 hst
  go_wp2_with fail
  refine (hlf _ HB1.out).mono ?_
  rintro e w2 ⟨q, rfl, hq, hb2⟩
  have HQ := boxed hq
  have HB2 := boxed (below_step (below_step HB1.out (Nat.le_refl _) (bytes_below w1 (tx T.flat))) (Nat.le_refl _) hb2)
  obtain ⟨⟨k0, k1⟩, f0, f1⟩ := hrt _ HB2.out
  clear hq hb2 hlf
  go_wp2
  go_end0
  have h2 := (HH.out.below HB2.out).setRoot HQ.out (by rw [flat_leaf]; show (bl (tx T.flat)).length ≤ _; rw [hbl]; exact hlen)
  refine ⟨rfl, q, _, ⟨set1_heap h2.blk, h2.tree.keep (fun b i u hs hc => ⟨hs, far_set (Ne.symm (h2.sub b i hs).1) hc⟩), fun b i hb => h2.up b i (by simpa [World.setCell] using hb), fun b i hs => ⟨(h2.sub b i hs).1, fun _ _ _ e => by cases e⟩, trivial, h2.len⟩, ?_, ?_, ((Edits.of_below HB2.out).trans (Edits.set _ _ _)).trans (Edits.set _ _ _)⟩
  · rw [flat_leaf]; exact hbl
  · exact ⟨by simp [Tr.pcs], ⟨by simp [Tr.dep], trivial, trivial⟩⟩

/-- The error of an insert. -/
def ine (l : List Nat) (a : Int) (s : ByteArray) (N : Nat) : Int := if cke l a ≠ 0 then cke l a else if chk s N ≠ 0 then chk s N else if 65536 < l.length + s.size then 31 else 0
theorem chk_cases (s : ByteArray) (N : Nat) : chk s N = 0 ∨ chk s N = 20 := by
  unfold chk
  split
  · exact .inl rfl
  · exact .inr rfl

/-- What an edit leaves. -/
def Edited (tb : Nat) (A : Option (Nat × Nat × Nat)) (S : Nat → Nat → Prop) (T : Tr) (w w' : World) (l : List Nat) : Prop :=
  ∃ x' A' S' T', TextAt S' w' tb x' A' T' ∧ T'.flat = l ∧ (T'.pcs.length ≤ T.pcs.length + 2 ∧ (Avl T → Avl T')) ∧ Edits tb A w w' ∧ adl A' ≤ 262144 ∧ (∀ B, AdGe B A → B ≤ w.heap.size → AdGe B A') ∧
    (∀ b i, S' b i → S b i ∨ ∃ c, A = some (b, adl A, c) ∧ adl A ≤ i ∧ i < c) ∧ Kp S S' w w' ∧ (A' = A ∨ (∃ c, A' = some c ∧ A.map (·.1) = some c.1 ∧ A.map (·.2.2) = some c.2.2) ∨ (∃ c, A' = some c ∧ w.heap.size ≤ c.1) ∨ A' = none)
end Go.Proofs.Ytfikmlgmklnlaaa
