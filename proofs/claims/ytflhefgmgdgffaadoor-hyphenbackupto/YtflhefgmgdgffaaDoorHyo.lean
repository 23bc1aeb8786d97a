/-
  What the program's New answers, and the book that it makes.
-/
import Derived.Test.YtflhefgmgdgffaaDoorHyn
namespace Go.Proofs.YtflhefgmgdgffaaDoor
open Go.RowKit Go.Maps
set_option linter.unusedSimpArgs false
set_option linter.unusedVariables false

def NewP (S T : Nat → ByteArray) (n m : Nat) (l r : Int) (e : Ending) (w' : World) : Prop :=
  ((mayL l && mayL r) = false ∧ e = .returned (.tuple #[.pointer none, .int .i64 1, .int .i64 0])) ∨
  ((mayL l && mayL r) = true ∧ ∃ i : Nat, i < n ∧ patT (S i) = none ∧ (∀ j, j < i → patT (S j) ≠ none) ∧ e = .returned (.tuple #[.pointer none, .int .i64 170, .int .i64 (i : Int)])) ∨
  ((mayL l && mayL r) = true ∧ (∀ j, j < n → patT (S j) ≠ none) ∧ ∃ i : Nat, i < m ∧ wordT (T i) = none ∧ (∀ j, j < i → wordT (T j) ≠ none) ∧ e = .returned (.tuple #[.pointer none, .int .i64 171, .int .i64 ((n : Int) + (i : Int))])) ∨
  ((mayL l && mayL r) = true ∧ (∀ j, j < n → patT (S j) ≠ none) ∧ (∀ j, j < m → wordT (T j) ≠ none) ∧ ∃ bp eb lb wb Nd Z Y, e = .returned (.tuple #[.pointer (some ⟨bp, 0, none⟩), .int .i64 0, .int .i64 0]) ∧ BkAt w' bp eb lb wb l.toNat r.toNat Nd Z Y ∧ zQ Z = qS S n ∧ zQ Y = yS T m)
/-- While patterns are put. -/
structure N1S (w : World) (bp eb lb wb : Nat) (l r : Int) (Nd : List (List Nat)) (Z : ZL) (wr : World) : Prop where
  bel : Below w.heap.size w wr
  box : wr.heap[bp]? = some (.cells #[.int .i64 l, .int .i64 r, .map (some eb), .map (some lb), .map (some wb)] 65 (0, 0))
  tr : TrAt wr eb lb Nd (zV Z)
  zok : ZOk wr Z
  ge : w.heap.size ≤ eb ∧ w.heap.size ≤ lb ∧ w.heap.size ≤ wb ∧ w.heap.size ≤ bp
  ne : bp ≠ eb ∧ bp ≠ lb ∧ wb ≠ eb ∧ wb ≠ lb ∧ wb ≠ bp
theorem N1S.below {w : World} {bp eb lb wb : Nat} {l r : Int} {Nd : List (List Nat)} {Z : ZL} {wr w1 : World} (h : N1S w bp eb lb wb l r Nd Z wr) (hb : Below wr.heap.size wr w1) : N1S w bp eb lb wb l r Nd Z w1 :=
  ⟨below_step h.bel (Nat.le_refl _) hb, (hb.block _ (heap_lt h.box)).trans h.box, h.tr.below hb, h.zok.below hb, h.ge, h.ne⟩
theorem TrAt.own {w : World} {eb lb : Nat} {Nd : List (List Nat)} {Q : List (List Nat × Value)} (h : TrAt w eb lb Nd Q) {B e size n : Nat} {v : Value} {xs : List Value} (ho : w.ownsRow B e size v n xs) : ∀ g, v.ownBlock = some g → ¬ TD eb lb g := by
  intro g hg c
  rcases c with c | c
  · exact own_not_map ho h.edges (by rw [hg, c])
  · obtain ⟨m, hm⟩ := h.levels
    exact own_not_map ho hm (by rw [hg, c])
theorem N1S.put {w : World} {bp eb lb wb : Nat} {l r : Int} {Nd Nd' : List (List Nat)} {Z : ZL} {w1 w2 : World} (h : N1S w bp eb lb wb l r Nd Z w1) {L V : List Nat} {v : Value} (ht : TrAt w2 eb lb Nd' (zV Z ++ [(L, v)])) (hc : Chg (TD eb lb) w1 w2)
    (hL : L ≠ [] ∧ V.length = L.length + 1 ∧ (∀ v ∈ V, v ≤ 9) ∧ L.length ≤ 256) {B : Nat} (ho : w1.ownsRow B 5 1 v V.length (bvals V)) : N1S w bp eb lb wb l r Nd' (Z ++ [(L, V, v)]) w2 := by
  refine ⟨h.bel.trans (hc.below h.bel.size (fun b hb => by rcases hb with rfl | rfl; exact h.ge.1; exact h.ge.2.1)), (hc.block _ (heap_lt h.box) (fun c => by rcases c with c | c; exact h.ne.1 c; exact h.ne.2.1 c)).trans h.box, by rw [zV_snoc]; exact ht, ?_, h.ge, h.ne⟩
  intro e he
  rcases List.mem_append.1 he with he | he
  · obtain ⟨h1, h2, h3, h4, B, h5⟩ := h.zok e he
    exact ⟨h1, h2, h3, h4, B, own_chg h5 hc (h.tr.own h5)⟩
  · simp at he; subst he
    exact ⟨hL.1, hL.2.1, hL.2.2.1, hL.2.2.2, B, own_chg ho hc (h.tr.own ho)⟩
theorem N1S.cells {w : World} {bp eb lb wb : Nat} {l r : Int} {Nd : List (List Nat)} {Z : ZL} {wr : World} (h : N1S w bp eb lb wb l r Nd Z wr) : wr.cell? ⟨bp, 2, none⟩ = some (.map (some eb)) ∧ wr.cell? ⟨bp, 3, none⟩ = some (.map (some lb)) ∧ wr.cell? ⟨bp, 4, none⟩ = some (.map (some wb)) := by
  refine ⟨?_, ?_, ?_⟩ <;> (rw [cell_of_row _ _ _ _ _ _ h.box]; rfl)
theorem N1S.map {w : World} {bp eb lb wb : Nat} {l r : Int} {Nd : List (List Nat)} {Z : ZL} {w1 wd w2 : World} (h : N1S w bp eb lb wb l r Nd Z w1) (hd : Below w1.heap.size w1 wd) (hg : wd.grownBy w2 (some wb)) (ho : ∀ {B e size n : Nat} {v : Value} {xs : List Value}, wd.ownsRow B e size v n xs → v.ownBlock ≠ some wb) : N1S w bp eb lb wb l r Nd Z w2 := by
  have h := h.below hd
  have hl : ∃ n, MapR Tryd.prog 3 wd lb n (LR Nd (zV Z)) := h.tr.levels
  obtain ⟨n, hl⟩ := hl
  have hc : Chg (fun b => b = wb) wd w2 := Chg.of_grown hg (fun g h => by injection h with h; exact h.symm)
  refine ⟨h.bel.grown hg h.bel.size (fun k hk => by injection hk with hk; rw [← hk]; exact h.ge.2.2.1), (hg.block _ (heap_lt h.box) (by intro x; injection x with x; exact h.ne.2.2.2.2 x.symm)).trans h.box, h.tr.keep (hg.block _ h.tr.edges.lt (by intro x; injection x with x; exact h.ne.2.2.1 x.symm)) (hg.block _ hl.lt (by intro x; injection x with x; exact h.ne.2.2.2.1 x.symm)), ?_, h.ge, h.ne⟩
  intro e he
  obtain ⟨h1, h2, h3, h4, B, h5⟩ := h.zok e he
  exact ⟨h1, h2, h3, h4, B, own_chg h5 hc (fun g hg' e => ho h5 (by rw [hg', e]))⟩
set_option maxRecDepth 100000 in
set_option maxHeartbeats 4000000 in
theorem new_any (w : World) (ao ao' : Option Addr) (n m cap cap' : Nat) (S T : Nat → ByteArray) (l r : Int) (hS : StrsAt w ao n S) (hT : StrsAt w ao' m T) (hn : n ≤ 60) (hm : m ≤ 60) :
    Calls Tryd.prog 14 #[.slice ao n cap, .slice ao' m cap', .int .i64 l, .int .i64 r] w fun e w' => NewP S T n m l r e w' ∧ Below w.heap.size w w' := by
  have hml := fun W => may_any l W
  have hmr := fun W => may_any r W
  by_cases hmay : (mayL l && mayL r) = true
  rotate_left
  · have hmay' : (mayL l && mayL r) = false := by simpa using hmay
    have HM := boxed hmay'
    have t : mayL l = false ∨ (mayL l = true ∧ mayL r = false) := by cases h : mayL l <;> simp_all
    clear hmay hmay' hS hT
    rcases t with t | ⟨t, t'⟩
    · rw [t] at hml
      clear t
      go_enter Tryd.func14, Tryd.ntmps14
      go_wp2_with (go_at_call 28; refine (hml _).mono ?_; rintro e w' ⟨rfl, hw'⟩; subst w')
      go_ret3
      exact ⟨.inl ⟨HM.out, rfl⟩, Below.refl _ _⟩
    · rw [t] at hml
      rw [t'] at hmr
      clear t t'
      go_enter Tryd.func14, Tryd.ntmps14
      go_wp2_with (first | (go_at_call 28; refine (hml _).mono ?_; rintro e w' ⟨rfl, hw'⟩; subst w') | (go_at_call 28; refine (hmr _).mono ?_; rintro e w' ⟨rfl, hw'⟩; subst w'))
      go_ret3
      exact ⟨.inl ⟨HM.out, rfl⟩, Below.refl _ _⟩
  have HM := boxed hmay
  have tl : mayL l = true := by cases h : mayL l <;> simp_all
  have tr : mayL r = true := by cases h : mayL r <;> simp_all
  have HLR : Box (((l.toNat : Nat) : Int) = l ∧ ((r.toNat : Nat) : Int) = r) := boxed (by
    unfold mayL at tl tr; simp at tl tr; omega)
  rw [tl] at hml
  rw [tr] at hmr
  clear tl tr hmay
  have HS := boxed hS
  have HT := boxed hT
  have t8 : decide ((8192 : Int) < (n : Int)) = false := decide_eq_false (by omega)
  have t9 : decide ((8192 : Int) < (m : Int)) = false := decide_eq_false (by omega)
  have hmk : ∀ (ty : TypeId) (W : World), (Instr.makeMap ty none).run Tryd.prog W = .ok (.map (some W.heap.size)) (W.alloc (.map #[] 0)) := fun ty W => by rfl
  clear hS hT
  go_enter Tryd.func14, Tryd.ntmps14
  go_wp2_with (first | (go_at_call 28; refine (hml _).mono ?_; rintro e w' ⟨rfl, hw'⟩; subst w') | (go_at_call 28; refine (hmr _).mono ?_; rintro e w' ⟨rfl, hw'⟩; subst w') | (go_at_call 29; refine stopper ?_))
  unfold Stop
  refine (newtree_any w).mono ?_
  rintro e w1 ⟨eb, lb, rfl, h1, h2, h3, h4⟩
  obtain ⟨m0, hlv⟩ := h3.levels
  have helt := h3.edges.lt
  have hllt := hlv.lt
  have l2 := laid2 w1 (.map #[] 0) (.cells #[.int .i64 l, .int .i64 r, .map (some eb), .map (some lb), .map (some w1.heap.size)] 65)
  obtain ⟨W, hW⟩ : ∃ W, (w1.alloc (.map #[] 0)).alloc (.cells #[.int .i64 l, .int .i64 r, .map (some eb), .map (some lb), .map (some w1.heap.size)] 65) = W := ⟨_, rfl⟩
  rw [hW] at l2
  have HI : Box (N1S w (w1.heap.size + 1) eb lb w1.heap.size l r [[]] [] W) := boxed ⟨below_step h4 (Nat.le_refl _) l2.2.2.1, l2.2.1, h3.below l2.2.2.1, fun e he => (by simp at he), ⟨h1, h2, by have := h4.size; omega, by have := h4.size; omega⟩, ⟨by omega, by omega, by omega, by omega, by omega⟩⟩
  have HWM : Box (W.heap[w1.heap.size]? = some (.map #[] 0)) := boxed l2.1
  have hsW : w.heap.size ≤ w1.heap.size := h4.size
  replace hW := boxed hW
  generalize hwb : w1.heap.size = wb at *
  clear l2 h1 h2 h3 h4 hlv helt hllt
  go_upto_region 6 with fail
  rw [hW.out]
  clear hW hwb
  go_wp2_with fail
  go_loopw [46] (fun vi wr => ∃ (i : Nat) (Z : ZL) (Nd : List (List Nat)), i ≤ n ∧ vi = .int .i64 (i : Int) ∧ Box (zQ Z = qS S i) ∧ Nd.length ≤ 1 + 256 * i ∧ Box (∀ j, j < i → patT (S j) ≠ none) ∧ Box (N1S w (wb + 1) eb lb wb l r Nd Z wr) ∧ Box (wr.heap[wb]? = some (.map #[] 0))) (fun vi _ => n - (intOf vi).toNat)
  case atStart => exact ⟨0, [], [[]], Nat.zero_le _, rfl, boxed rfl, by simp, boxed (fun j hj => by omega), HI, HWM⟩
  case round =>
    clear HI HWM
    obtain ⟨i, Z, Nd, hi, rfl, HZQ, hnl, HP, HI, HWM⟩ := hrel
    by_cases hlt : i < n
    · have hst := HS.out.below HI.out.bel
      obtain ⟨hst, hsz⟩ := hst
      rcases hst with hst | ⟨b, off, rfl, -, hcl⟩
      · omega
      have hci := hcl i hlt
      have hszi := hsz i hlt
      have hil : (i : Int) < (n : Int) := by omega
      have hrp := readpattern_any (S i) wr (by unfold maxLen; omega)
      have HSI : Box (∀ u v, patT (S i) = some (u, v) → qS S (i + 1) = qS S i ++ [(u, v)]) := boxed (fun u v h => qS_succ S i h)
      have HOK : Box (∀ u v, patT (S i) = some (u, v) → v.length = u.length + 1 ∧ u.length ≤ 256 ∧ (∀ x ∈ v, x ≤ 9) ∧ (∀ c ∈ u, isR (c : Int) = true) ∧ u ≠ []) := boxed (fun u v h => patT_ok h)
      have HPN : Box (patT (S i) ≠ none → ∀ j, j < i + 1 → patT (S j) ≠ none) := boxed (fun h j hj => by
        by_cases c : j = i
        · subst c; exact h
        · exact HP.out j (by omega))
      have HFL : Box (patT (S i) = none → ∀ w', NewP S T n m l r (.returned (.tuple #[.pointer none, .int .i64 170, .int .i64 (i : Int)])) w') := boxed (fun h w' => .inr (.inl ⟨HM.out, i, hlt, h, HP.out, rfl⟩))
      clear hcl hsz
      generalize S i = s at *
      go_wp2_with fail
      refine hrp.mono ?_
      rintro e w2 ⟨hR, hb⟩
      have HI2 := boxed (HI.out.below hb)
      have HWM2 : Box (w2.heap[wb]? = some (.map #[] 0)) := boxed ((hb.block _ (heap_lt HWM.out)).trans HWM.out)
      clear HI HWM hrp hb
      rcases hR with ⟨hnone, v1, v2, rfl⟩ | ⟨L, V, v1, v2, hsome, rfl, ho1, ho2⟩
      · have HF := boxed hnone
        clear hnone
        go_wp2_with fail
        go_ret3
        exact ⟨HFL.out HF.out _, HI2.out.bel⟩
      · obtain ⟨q1, q2, q3, q4, q5⟩ := HOK.out L V hsome
        obtain ⟨k2, k3, -⟩ := HI2.out.cells
        have hput := tput_any w2 eb lb Nd (zV Z) L wr.heap.size v1 v2 HI2.out.tr (by omega) ho1 (fun c hc => by have := isR_t _ (q4 c hc); omega)
        have HQ' : Box (∀ Nd' w3, TrAt w3 eb lb Nd' (zV Z ++ [(L, v2)]) → Chg (TD eb lb) w2 w3 → N1S w (wb + 1) eb lb wb l r Nd' (Z ++ [(L, V, v2)]) w3 ∧ w3.heap[wb]? = some (.map #[] 0)) := boxed (fun Nd' w3 ht hc => ⟨HI2.out.put ht hc ⟨q5, q1, q3, q2⟩ ho2, (hc.block _ (heap_lt HWM2.out) (fun c => by rcases c with c | c; exact HI2.out.ne.2.2.1 c; exact HI2.out.ne.2.2.2.1 c)).trans HWM2.out⟩)
        have HZ' : Box (zQ (Z ++ [(L, V, v2)]) = qS S (i + 1)) := boxed (by rw [zQ_snoc, HZQ.out, HSI.out L V hsome])
        have HP' := boxed (HPN.out (by rw [hsome]; simp))
        clear hsome ho1 ho2 q1 q3 q4 q5 HOK HSI HPN HZQ HP HFL
        go_wp2_with fail
        refine hput.mono ?_
        rintro e w3 ⟨rfl, Nd', ht, hl, hc⟩
        obtain ⟨h5, h6⟩ := HQ'.out Nd' w3 ht hc
        have HI3 := boxed h5
        have HWM3 := boxed h6
        clear h5 h6 ht hc hput k2 k3 HI2 HWM2
        go_wp2_with fail
        go_roundw
        case rel => exact ⟨i + 1, _, Nd', by omega, by go_num, HZ', by omega, HP', HI3, HWM3⟩
        case measure => simp [intOf]; omega
    · have e : i = n := by omega
      subst e
      have HY0 : Box (MapR Tryd.prog 9 wr wb 0 (WR (zV []))) := boxed ⟨#[], 0, HWM.out, rfl, by simp, fun a v ⟨x, _, h⟩ => by simp [zV, lookL] at h, by simp⟩
      have HYK : Box (YOk wr []) := boxed (fun e he => by simp at he)
      have hndl : Nd.length ≤ 900000 := by omega
      clear HWM hi hnl
      go_wp2_with fail
      go_loopw [70] (fun vi wr => ∃ (i' : Nat) (Y : ZL) (n' : Nat), i' ≤ m ∧ vi = .int .i64 (i' : Int) ∧ Box (zQ Y = yS T i') ∧ Box (∀ j, j < i' → wordT (T j) ≠ none) ∧ Box (N1S w (wb + 1) eb lb wb l r Nd Z wr) ∧ Box (MapR Tryd.prog 9 wr wb n' (WR (zV Y))) ∧ Box (YOk wr Y)) (fun vi _ => m - (intOf vi).toNat)
      case atStart => exact ⟨0, [], 0, Nat.zero_le _, rfl, boxed rfl, boxed (fun j hj => by omega), HI, HY0, HYK⟩
      case round =>
        clear HY0 HYK HI
        obtain ⟨i', Y, n', hi, rfl, HYQ, HW, HI, HMP, HYK⟩ := hrel
        by_cases hlt : i' < m
        · obtain ⟨hst, hsz⟩ := HT.out.below HI.out.bel
          rcases hst with hst | ⟨b, off, rfl, -, hcl⟩
          · omega
          have hci := hcl i' hlt
          have hszi := hsz i' hlt
          have hil : (i' : Int) < (m : Int) := by omega
          have hrw := readword_any (T i') wr (by unfold maxLen; omega)
          have HSI : Box (∀ u v, wordT (T i') = some (u, v) → yS T (i' + 1) = yS T i' ++ [(u, v)]) := boxed (fun u v h => yS_succ T i' h)
          have HOK : Box (∀ u v, wordT (T i') = some (u, v) → u.length ≤ 256 ∧ u ≠ [] ∧ v.Pairwise (· < ·) ∧ (∀ a ∈ v, a < u.length) ∧ (∀ c ∈ u, isR (c : Int) = true)) := boxed (fun u v h => by
            obtain ⟨g1, g2, g3, g4, g5⟩ := wordT_ok h
            exact ⟨g1, g2, g3, g4, fun c hc => (g5 c hc).2.2⟩)
          have HPN : Box (wordT (T i') ≠ none → ∀ j, j < i' + 1 → wordT (T j) ≠ none) := boxed (fun h j hj => by
            by_cases c : j = i'
            · subst c; exact h
            · exact HW.out j (by omega))
          have HFL : Box (wordT (T i') = none → ∀ w', NewP S T i m l r (.returned (.tuple #[.pointer none, .int .i64 171, .int .i64 ((i : Int) + (i' : Int))])) w') := boxed (fun h w' => .inr (.inr (.inl ⟨HM.out, HP.out, i', hlt, h, HW.out, rfl⟩)))
          clear hcl hsz
          generalize T i' = s at *
          go_wp2_with fail
          refine hrw.mono ?_
          rintro e w2 ⟨hR, hb⟩
          have HI2 := boxed (HI.out.below hb)
          have HMP2 := boxed (HMP.out.keep (hb.block _ HMP.out.lt))
          have HYK2 := boxed (HYK.out.below hb)
          clear HI HMP HYK hrw hb
          rcases hR with ⟨hnone, v1, v2, rfl⟩ | ⟨L, A, v1, v2, hsome, rfl, ho1, ho2⟩
          · have HF := boxed hnone
            clear hnone
            go_wp2_with fail
            go_ret3
            exact ⟨HFL.out HF.out _, HI2.out.bel⟩
          · obtain ⟨q1, q2, q3, q4, q5⟩ := HOK.out L A hsome
            obtain ⟨-, -, k4⟩ := HI2.out.cells
            have hes := encT_size L
            obtain ⟨kl, hkl⟩ := str_key (encT L) (by unfold maxLen; omega)
            have hbd : Below w2.heap.size w2 w2.drew := ⟨rfl, rfl, rfl, Nat.le_refl _, fun _ _ => rfl⟩
            have hcv := conv_runes (owns_below ho1 hbd) q5
            have hMd : MapR Tryd.prog 9 w2.drew wb n' (WR (zV Y)) := HMP2.out.keep rfl
            obtain ⟨w3, n3, hrun, hM3, hg, -, -⟩ := hMd.put keyS Tryd.underlying63 hkl v2
            have HI3 := boxed (HI2.out.map hbd hg (fun h => own_not_map h hMd))
            have HM3 : Box (MapR Tryd.prog 9 w3 wb n3 (WR (zV (Y ++ [(L, A, v2)])))) := boxed (by
              rw [zV_snoc]
              exact hM3.same (fun a v => wr_put HYK2.out.isr q5 v2 a v))
            have HYK3 : Box (YOk w3 (Y ++ [(L, A, v2)])) := boxed (fun e he => by
              have hc : Chg (fun b => b = wb) w2.drew w3 := Chg.of_grown hg (fun g h => by injection h with h; exact h.symm)
              rcases List.mem_append.1 he with he | he
              · obtain ⟨g1, g2, g3, g4, g5, B, g6⟩ := (HYK2.out.below hbd) e he
                exact ⟨g1, g2, g3, g4, g5, B, own_chg g6 hc (fun g hg' e => own_not_map g6 hMd (by rw [hg', e]))⟩
              · simp at he; subst he
                have g6 := owns_below ho2 hbd
                exact ⟨q2, q5, q3, q4, q1, _, own_chg g6 hc (fun g hg' e => own_not_map g6 hMd (by rw [hg', e]))⟩)
            have HYQ3 : Box (zQ (Y ++ [(L, A, v2)]) = yS T (i' + 1)) := boxed (by rw [zQ_snoc, HYQ.out, HSI.out L A hsome])
            have HW3 := boxed (HPN.out (by rw [hsome]; simp))
            clear hsome ho1 ho2 q1 q2 q3 q4 q5 HOK HSI HPN HYQ HW HFL hM3 hg hMd HI2 HMP2 HYK2 hkl hes
            go_wp2_with fail
            go_region
            go_wp2_with fail
            go_roundw
            case rel => exact ⟨i' + 1, _, n3, by omega, by go_num, HYQ3, HW3, HI3, HM3, HYK3⟩
            case measure => simp [intOf]; omega
        · have e : i' = m := by omega
          subst e
          have HBK : Box (BkAt wr (wb + 1) eb lb wb l.toNat r.toNat Nd Z Y) := boxed ⟨by rw [HLR.out.1, HLR.out.2]; exact HI.out.box, HI.out.tr, HI.out.zok, hndl, ⟨n', HMP.out⟩, HYK.out⟩
          go_wp2_with fail
          go_ret3
          exact ⟨.inr (.inr (.inr ⟨HM.out, HP.out, HW.out, wb + 1, eb, lb, wb, Nd, Z, Y, rfl, HBK.out, HZQ.out, HYQ.out⟩)), HI.out.bel⟩
end Go.Proofs.YtflhefgmgdgffaaDoor
