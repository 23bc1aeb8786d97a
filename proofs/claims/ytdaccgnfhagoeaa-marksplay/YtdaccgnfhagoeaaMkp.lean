/-
  The document's All.
-/
import Derived.Test.YtdaccgnfhagoeaaMkn
namespace Go.Proofs.Ytdaccgnfhagoeaa
open Go.RowKit
set_option linter.unusedSimpArgs false
set_option linter.unusedVariables false

def sa3 (off q cap : Nat) : Nat := if cap = q then off else off + q * 3
theorem slFM (b off n cap q : Nat) (z : Int) (hz : z = (q : Int)) (hn : n ≤ cap) (hq : q ≤ n) (w : World) : (Instr.slice 29 (.slice (some ⟨b, off, none⟩) n cap) (some (.int .i64 z)) none none).run Try.prog w = .ok (.slice (some ⟨b, sa3 off q cap, none⟩) (n - q) (cap - q)) w := by
  subst hz
  have hc : Try.prog.cellsOf 39 = 3 := by kernel_rfl
  have h4 : (q : Int) ≤ (n : Int) := by omega
  have h5 : (n : Int) ≤ (cap : Int) := by omega
  unfold sa3
  simp [Instr.slice, Instr.sliceBounds, Instr.sliceBound, asIntOf, run_underlying Try.underlying29, go_sem, h4, h5]
  rw [if_pos (by omega : q ≤ n)]
  by_cases c : cap = q
  · rw [if_pos c, if_pos c]
  · rw [if_neg c, if_neg c]
theorem slFN (z : Int) (hz : z = 0) (w : World) : (Instr.slice 29 (.slice none 0 0) (some (.int .i64 z)) none none).run Try.prog w = .ok (.slice none 0 0) w := by
  subst hz
  go_simp
theorem slTM (ao : Option Addr) (n cap q : Nat) (z : Int) (hz : z = (q : Int)) (hq : q ≤ cap) (hs : ao = none → cap = 0) (w : World) : (Instr.slice 29 (.slice ao n cap) none (some (.int .i64 z)) none).run Try.prog w = .ok (.slice ao q cap) w := by
  subst hz
  have h4 : (q : Int) ≤ (cap : Int) := by omega
  cases ao with
  | none =>
    have := hs rfl
    subst this
    obtain rfl : q = 0 := by omega
    go_simp
  | some ad => go_simp
/-- What is left of a row behind a place. -/
theorem cut_tailM {w : World} {B n cap k : Nat} {ao : Option Addr} {o : List Mk} (h : w.ownsRow B 39 3 (.slice ao n cap) n (mcs o)) (hk : k ≤ n) :
    ∃ a2 c2, (∀ w' (z : Int), z = (k : Int) → (Instr.slice 29 (.slice ao n cap) (some (.int .i64 z)) none none).run Try.prog w' = .ok (.slice a2 (n - k) c2) w') ∧ ∀ w' : World, w'.ownsRow B 39 3 (.slice ao n cap) n (mcs o) → Src w' (.slice a2 (n - k) c2) (n - k) (o.drop k) := by
  have hl := h.1
  rw [mcs_len] at hl
  have hin : o.length = n := by omega
  rcases h.2 with ⟨e1, h2⟩ | ⟨g, cap', cur, e1, hB, hh, hcap, hmx, hsz, hx⟩
  · injection e1 with e1 e2 e3
    subst e1; subst e2; subst e3
    obtain rfl : k = 0 := by omega
    exact ⟨none, 0, fun w' z hz => slFN z (by simpa using hz) w', fun w' _ => ⟨by simp [hin], .inl ⟨rfl, rfl⟩⟩⟩
  · injection e1 with e1 e2 e3
    subst e1; subst e3
    refine ⟨some ⟨g, sa3 0 k cap, none⟩, cap - k, fun w' z hz => slFM g 0 n cap k z hz hcap hk w', fun w' h' => ⟨by simp [hin], .inr ⟨_, _, _, rfl, fun j u hj => ?_⟩⟩⟩
    have hjl : j < (mcs (o.drop k)).length := by
      rcases Nat.lt_or_ge j (mcs (o.drop k)).length with c | c
      · exact c
      · rw [List.getElem?_eq_none (by omega)] at hj; cases hj
    rw [mcs_drop] at hj hjl
    simp [mcs_len] at hjl
    have hne : cap ≠ k := by omega
    unfold sa3
    rw [if_neg hne, Nat.zero_add]
    have hC := h'.cellAt (k * 3 + j) (by omega)
    rw [hC]
    rw [List.getElem?_drop] at hj
    exact hj
/-- What is left of a row ahead of a place. -/
theorem cut_headM {w : World} {B n cap k : Nat} {ao : Option Addr} {o : List Mk} (h : w.ownsRow B 39 3 (.slice ao n cap) n (mcs o)) (hk : k ≤ n) :
    (∀ w' (z : Int), z = (k : Int) → (Instr.slice 29 (.slice ao n cap) none (some (.int .i64 z)) none).run Try.prog w' = .ok (.slice ao k cap) w') ∧ ∀ w' : World, w'.ownsRow B 39 3 (.slice ao n cap) n (mcs o) → w'.ownsRow B 39 3 (.slice ao k cap) k (mcs (o.take k)) := by
  have hl := h.1
  rw [mcs_len] at hl
  have hin : o.length = n := by omega
  refine ⟨fun w' z hz => ?_, fun w' h' => ?_⟩
  · rcases h.2 with ⟨e1, h2⟩ | ⟨g, cap', cur, e1, hB, hh, hcap, hmx, hsz, hx⟩
    · injection e1 with e1 e2 e3
      subst e1; subst e2; subst e3
      exact slTM _ _ _ _ z hz hk (fun _ => rfl) w'
    · injection e1 with e1 e2 e3
      subst e1; subst e3
      exact slTM _ _ _ _ z hz (by omega) (fun e => by cases e) w'
  · refine ⟨by rw [mcs_len, List.length_take, hin, Nat.min_eq_left hk], ?_⟩
    rcases h'.2 with ⟨e1, h2⟩ | ⟨g, cap', cur, e1, hB, hh, hcap, hmx, hsz, hx⟩
    · injection e1 with e1 e2 e3
      subst e1; subst e2; subst e3
      obtain rfl : k = 0 := by omega
      exact .inl ⟨rfl, rfl⟩
    · injection e1 with e1 e2 e3
      subst e1; subst e3
      refine .inr ⟨g, cap, cur, rfl, hB, hh, by omega, hmx, hsz, ?_⟩
      rw [mcs_take, ← hx, List.take_take, Nat.min_eq_left (Nat.mul_le_mul_right 3 hk)]
theorem srt_next {L : List Mk} {i : Nat} (hi : i < L.length) : srt (L.take (i + 1)) = in1 (srt (L.take i)) (L[i]'hi) := by
  rw [List.take_succ_eq_append_getElem hi, srt_snoc]
theorem srt_at {L : List Mk} {i : Nat} (hi : i ≤ L.length) : (srt (L.take i)).length = i := by rw [srt_len]; simp; omega
section
variable {B : Nat} {w : World} {x : Value} {s : St} {N : Int}
set_option maxRecDepth 100000 in
set_option maxHeartbeats 8000000 in
theorem refall_any (h : RS B w x s) (hk : s.ok N) : Calls Try.prog 17 #[x] w fun e w' => (∃ v, e = .returned v ∧ w'.ownsRow w.heap.size 39 3 v s.L.length (mcs (srt s.L))) ∧ Below w.heap.size w w' := by
  obtain ⟨ao, cap, rfl, ho⟩ := rbox h
  have l1 := laid1 w (.cells #[.int .i64 s.sz, .int .i64 s.nx, .slice ao s.L.length cap] 31)
  generalize hW : w.alloc (.cells #[.int .i64 s.sz, .int .i64 s.nx, .slice ao s.L.length cap] 31) = w1 at l1
  obtain ⟨l0, lb, lz⟩ := l1
  obtain ⟨⟨k0, k1, k2⟩, -⟩ := cells3 l0
  have hlen := hk.len
  have HO1 := boxed (owns_below ho lb)
  have HW := boxed hW
  have HB1 := boxed lb
  have hlt1 : w.heap.size < w1.heap.size := by omega
  clear hW l0 lb h ho
  go_enter Try.func17, Try.ntmps17
  go_upto_region 1 with (fail)
  rw [HW.out]
  go_wp2_with fail
  go_loopw [3, 4] (fun va vb wr => ∃ (i : Nat) (v : Value), i ≤ s.L.length ∧ v = va ∧ vb = .int .i64 (i : Nat) ∧ Box (wr.ownsRow w1.heap.size 39 3 v i (mcs (srt (s.L.take i)))) ∧ Box (Below w1.heap.size w1 wr)) (fun _ vb _ => (s.L.length - intOf vb).toNat)
  case atStart => exact ⟨0, _, Nat.zero_le _, rfl, rfl, boxed ⟨by simp [mcs, srt], .inl ⟨rfl, rfl⟩⟩, boxed (Below.refl _ _)⟩
  case round =>
    obtain ⟨i, v, h1, rfl, rfl, HV, HBr⟩ := hrel
    have hzr := HBr.out.size
    have k2r := hold HBr.out k2
    obtain ⟨oa, oc, rfl⟩ := own_shape HV.out
    by_cases hlt : i < s.L.length
    · have HO2 := boxed (owns_below HO1.out HBr.out)
      obtain ⟨g, cap', e', hcap, d0, d1, d2, -⟩ := own_mk HO2.out i hlt
      injection e' with e1 _ e3
      subst e1; subst e3
      have hlt2 : (i : Int) < (s.L.length : Int) := by omega
      have HD := boxed (srt_next hlt)
      have hol := srt_at (Nat.le_of_lt hlt)
      obtain ⟨o, hO⟩ : ∃ o, srt (s.L.take i) = o := ⟨_, rfl⟩
      have hm : s.L[i]'hlt = ⟨(s.L[i]'hlt).id, (s.L[i]'hlt).pl, (s.L[i]'hlt).st⟩ := rfl
      rw [hm] at HD
      rw [hO] at HD HV hol
      clear hO hm
      generalize (s.L[i]'hlt).id = I at *
      generalize (s.L[i]'hlt).pl = P at *
      generalize (s.L[i]'hlt).st = T at *
      have HU := boxed (fun k h1 h2 h3 => pos_uniq o ⟨I, P, T⟩ k h1 h2 h3)
      go_wp2_with fail
      go_loopw [5] (fun va wq => ∃ (k : Nat), k ≤ i ∧ va = .int .i64 (k : Nat) ∧ Box (∀ j, j < k → ∀ h : j < o.length, lt (o[j]'h) ⟨I, P, T⟩ = true) ∧ Box (Below wr.heap.size wr wq)) (fun va _ => (i - intOf va).toNat)
      case atStart => exact ⟨0, Nat.zero_le _, rfl, boxed (fun j hj => by omega), boxed (Below.refl _ _)⟩
      case round =>
        obtain ⟨k, hk1, rfl, HA, HBq⟩ := hrel
        have k2q := hold HBq.out k2r
        have hzq := HBq.out.size
        have c0 := hold HBq.out d0
        have c1 := hold HBq.out d1
        have c2 := hold HBq.out d2
        have HVq := boxed (owns_below HV.out HBq.out)
        by_cases hki : k < i
        · have hko : k < o.length := by omega
          obtain ⟨g2, cap2, e2, hcap2, f0, f1, f2, -⟩ := own_mk HVq.out k hko
          have hki2 : (k : Int) < (i : Int) := by omega
          have HL := boxed (lt_iff (o[k]'hko) ⟨I, P, T⟩)
          have HN := boxed (lt_no (o[k]'hko) ⟨I, P, T⟩)
          have HA2 : Box (lt (o[k]'hko) ⟨I, P, T⟩ = true → ∀ j, j < k + 1 → ∀ h : j < o.length, lt (o[j]'h) ⟨I, P, T⟩ = true) := boxed (fun hl j hj hjo => by
            by_cases c : j = k
            · subst c; exact hl
            · exact HA.out j (by omega) hjo)
          have HKp : Box (lt (o[k]'hko) ⟨I, P, T⟩ = false → pos o ⟨I, P, T⟩ = k) := boxed (fun hl => HU.out k HA.out (fun _ => hl) (by omega))
          generalize hm2 : o[k]'hko = mk at *
          obtain ⟨Ik, Pk, Tk⟩ := mk
          simp only at f0 f1 f2 HL HN
          by_cases ca : Pk < P
          · have u1 : decide (Pk < P) = true := decide_eq_true ca
            have hl := HL.out.2 (.inl ca)
            clear ca HL HN HKp HA HU
            injection e2 with e2a _ e2c
            subst e2a; subst e2c
            go_wp2
            go_quiet (fail)
            go_wp2
            go_roundw
            case rel => exact ⟨k + 1, by omega, by go_num, boxed (HA2.out hl), boxed (HBq.out.trans ((bel_drewN _ _ _).mono (by omega)))⟩
            case measure => simp [intOf]; omega
          · have u1 : decide (Pk < P) = false := decide_eq_false ca
            by_cases cb : Pk = P
            · have u2 : (Pk == P) = true := by simpa using cb
              by_cases cc : Ik < I
              · have u3 : decide (Ik < I) = true := decide_eq_true cc
                have hl := HL.out.2 (.inr ⟨cb, cc⟩)
                clear ca cb cc HL HN HKp HA HU
                injection e2 with e2a _ e2c
                subst e2a; subst e2c
                go_wp2
                go_quiet (fail)
                go_wp2
                go_roundw
                case rel => exact ⟨k + 1, by omega, by go_num, boxed (HA2.out hl), boxed (HBq.out.trans ((bel_drewN _ _ _).mono (by omega)))⟩
                case measure => simp [intOf]; omega
              · have u3 : decide (Ik < I) = false := decide_eq_false cc
                have hl := HN.out.2 (by omega)
                clear ca cb cc HL HN HA2 HU HA
                injection e2 with e2a _ e2c
                subst e2a; subst e2c
                have HK : Box (pos o ⟨I, P, T⟩ = k) := boxed (HKp.out hl)
                obtain ⟨a2, c2', hsl, HSr⟩ := cut_tailM HVq.out hk1
                obtain ⟨hsh, HSh⟩ := cut_headM HVq.out hk1
                have HSr := boxed HSr
                have HSh := boxed HSh
                have hsl2 : ∀ w : World, (Instr.slice 29 (.slice (some ⟨g2, 0, none⟩) i oc) (some (.int .i64 (k : Int))) none none).run Try.prog w = .ok (.slice a2 (i - k) c2') w := fun w => hsl w _ rfl
                have hsh2 : ∀ w : World, (Instr.slice 29 (.slice (some ⟨g2, 0, none⟩) i oc) none (some (.int .i64 (k : Int))) none).run Try.prog w = .ok (.slice (some ⟨g2, 0, none⟩) k oc) w := fun w => hsh w _ rfl
                clear hsl hsh
                have HX : Box (∀ w3, Below wr.heap.size wr w3 → (w3.cell? ⟨w.heap.size, 2, none⟩ = some (.slice (some ⟨g, 0, none⟩) s.L.length cap) ∧ w3.cell? ⟨g, i * 3, none⟩ = some (.int .i64 I) ∧ w3.cell? ⟨g, i * 3 + 1, none⟩ = some (.int .i64 P) ∧ w3.cell? ⟨g, i * 3 + 2, none⟩ = some (.bool T)) ∧ Box (w3.ownsRow w1.heap.size 39 3 (.slice (some ⟨g2, 0, none⟩) i oc) i (mcs o))) := boxed (fun w3 hb => ⟨⟨hold hb k2q, hold hb c0, hold hb c1, hold hb c2⟩, boxed (owns_below HVq.out hb)⟩)
                have hoab : ∀ q, (Value.slice (some ⟨g2, 0, none⟩) k oc).ownBlock = some q → q < wr.heap.size := by
                  intro q hq
                  exact (World.ownsRow.lt (HSh.out _ HVq.out) q hq).2
                have HAb := boxed hoab
                clear hoab
                go_wp2
                go_quiet (fail)
                go_wp2_with (at_builtin; refine wpList_appM rfl _ _ rfl wr.heap.size _ 0 [] rfl (World.ownsRow_made _ #[] 0 (Nat.le_refl _) (Nat.zero_le _) rfl) _ (i - k) (o.drop k) rfl (HSr.out _ (owns_below HVq.out ((bel_drewN _ _ _).alloc (Nat.le_refl _) _))) (by omega) (by simp) ?_; intro v3 w3 ho3 hg3; have HB3 : Box (Below wr.heap.size wr w3) := boxed (((bel_drewN _ _ _).alloc (Nat.le_refl _) _).trans (grown_below' hg3 (fun q hq => by injection hq with hq; subst hq; exact Nat.le_refl _) (by simp))); have HO3 : Box (w3.ownsRow wr.heap.size 39 3 v3 (i - k) (mcs (o.drop k))) := boxed (by simpa using ho3); clear ho3 hg3)
                obtain ⟨⟨p2, q0, q1, q2⟩, HV3⟩ := HX.out w3 HB3.out
                have hz3 := HB3.out.size
                have HA4 : Box ((w3.alloc (.cells #[.int .i64 I, .int .i64 P, .bool T] 39)).drew.ownsRow w1.heap.size 39 3 (.slice (some ⟨g2, 0, none⟩) k oc) k (mcs (o.take k))) := boxed (HSh.out _ (owns_below HV3.out (((Below.refl _ _).alloc (Nat.le_refl _) _).drew)))
                have HC4 : Box (∀ j u, (mcs [⟨I, P, T⟩])[j]? = some u → (w3.alloc (.cells #[.int .i64 I, .int .i64 P, .bool T] 39)).drew.cell? ⟨w3.heap.size, 0 + j, none⟩ = some u) := boxed (fun j u hj => by rw [Nat.zero_add, World.cell?_drew, cell_first]; simpa [mcs, Mk.cs] using hj)
                have HG4 : Box (∀ v4 w4, w4.ownsRow w1.heap.size 39 3 v4 (k + 1) (mcs (o.take k ++ [⟨I, P, T⟩])) → (w3.alloc (.cells #[.int .i64 I, .int .i64 P, .bool T] 39)).drew.grownBy w4 (Value.slice (some ⟨g2, 0, none⟩) k oc).ownBlock → Box (Src w4 v3 (i - k) (o.drop k)) ∧ Box (Below w1.heap.size w1 w4) ∧ w1.heap.size ≤ w4.heap.size) := boxed (by
                  intro v4 w4 ho4 hg4
                  have hb4 : Below w1.heap.size w3 w4 := ((Below.refl _ w3).alloc (by omega) _).drew.trans (grown_below' hg4 (fun q hq => owns_ge HA4.out q hq) (by simp; omega))
                  have hb41 : Below w1.heap.size w1 w4 := ((HBr.out.trans (HBq.out.mono (by omega))).trans (HB3.out.mono (by omega))).trans hb4
                  have hr : (w3.alloc (.cells #[.int .i64 I, .int .i64 P, .bool T] 39)).drew.ownsRow wr.heap.size 39 3 v3 (i - k) (mcs (o.drop k)) := owns_below HO3.out (((Below.refl _ _).alloc (Nat.le_refl _) _).drew)
                  refine ⟨boxed (own_srcM (hr.kept hg4 ?_)), boxed hb41, hb41.size⟩
                  cases hq : v3.ownBlock with
                  | none => exact .inl rfl
                  | some q =>
                    refine .inr (fun e => ?_)
                    have g1 := owns_ge hr q hq
                    have g2 := HAb.out q e.symm
                    omega)
                have HIn : Box (mcs ((o.take k ++ [⟨I, P, T⟩]) ++ o.drop k) = mcs (srt (s.L.take (i + 1)))) := boxed (by rw [HD.out, in1, HK.out, List.append_assoc]; rfl)
                clear k2q c0 c1 c2 HX HSr HSh HAb HK HD
                go_region_law
                  (first | (refine step_appM rfl _ _ rfl w1.heap.size (.slice (some ⟨g2, 0, none⟩) k oc) k (o.take k) rfl HA4.out w3.heap.size 0 1 1 [⟨I, P, T⟩] rfl rfl HC4.out (by omega) (by simp; omega) ?_; intro v4 w4 ho4 hg4; obtain ⟨HS4, HB4, hz4⟩ := HG4.out v4 w4 ho4 hg4; have HO4 := boxed ho4; clear ho4 hg4 HG4 HC4 HA4))
                all_goals
                  go_wp2_with (at_builtin; refine wpList_appM rfl _ _ rfl w1.heap.size v4 (k + 1) (o.take k ++ [⟨I, P, T⟩]) rfl HO4.out _ (i - k) (o.drop k) rfl HS4.out (by omega) hz4 ?_; intro v5 w5 ho5 hg5; have HB5 : Box (Below w1.heap.size w1 w5) := boxed (HB4.out.trans (grown_below' hg5 (fun q hq => owns_ge HO4.out q hq) hz4)); have HO5 : Box (w5.ownsRow w1.heap.size 39 3 v5 (i + 1) (mcs (srt (s.L.take (i + 1))))) := boxed (by rw [← HIn.out]; rw [show k + 1 + (i - k) = i + 1 by omega] at ho5; exact ho5); clear ho5 hg5)
                  go_roundw
                  case rel => exact ⟨i + 1, v5, by omega, rfl, by go_num, HO5, HB5⟩
                  case measure => simp [intOf]; omega
            · have u2 : (Pk == P) = false := by simpa using cb
              have hl := HN.out.2 (by omega)
              clear ca cb HL HN HA2 HU HA
              injection e2 with e2a _ e2c
              subst e2a; subst e2c
              have HK : Box (pos o ⟨I, P, T⟩ = k) := boxed (HKp.out hl)
              obtain ⟨a2, c2', hsl, HSr⟩ := cut_tailM HVq.out hk1
              obtain ⟨hsh, HSh⟩ := cut_headM HVq.out hk1
              have HSr := boxed HSr
              have HSh := boxed HSh
              have hsl2 : ∀ w : World, (Instr.slice 29 (.slice (some ⟨g2, 0, none⟩) i oc) (some (.int .i64 (k : Int))) none none).run Try.prog w = .ok (.slice a2 (i - k) c2') w := fun w => hsl w _ rfl
              have hsh2 : ∀ w : World, (Instr.slice 29 (.slice (some ⟨g2, 0, none⟩) i oc) none (some (.int .i64 (k : Int))) none).run Try.prog w = .ok (.slice (some ⟨g2, 0, none⟩) k oc) w := fun w => hsh w _ rfl
              clear hsl hsh
              have HX : Box (∀ w3, Below wr.heap.size wr w3 → (w3.cell? ⟨w.heap.size, 2, none⟩ = some (.slice (some ⟨g, 0, none⟩) s.L.length cap) ∧ w3.cell? ⟨g, i * 3, none⟩ = some (.int .i64 I) ∧ w3.cell? ⟨g, i * 3 + 1, none⟩ = some (.int .i64 P) ∧ w3.cell? ⟨g, i * 3 + 2, none⟩ = some (.bool T)) ∧ Box (w3.ownsRow w1.heap.size 39 3 (.slice (some ⟨g2, 0, none⟩) i oc) i (mcs o))) := boxed (fun w3 hb => ⟨⟨hold hb k2q, hold hb c0, hold hb c1, hold hb c2⟩, boxed (owns_below HVq.out hb)⟩)
              have hoab : ∀ q, (Value.slice (some ⟨g2, 0, none⟩) k oc).ownBlock = some q → q < wr.heap.size := by
                intro q hq
                exact (World.ownsRow.lt (HSh.out _ HVq.out) q hq).2
              have HAb := boxed hoab
              clear hoab
              go_wp2
              go_quiet (fail)
              go_wp2_with (at_builtin; refine wpList_appM rfl _ _ rfl wr.heap.size _ 0 [] rfl (World.ownsRow_made _ #[] 0 (Nat.le_refl _) (Nat.zero_le _) rfl) _ (i - k) (o.drop k) rfl (HSr.out _ (owns_below HVq.out ((bel_drewN _ _ _).alloc (Nat.le_refl _) _))) (by omega) (by simp) ?_; intro v3 w3 ho3 hg3; have HB3 : Box (Below wr.heap.size wr w3) := boxed (((bel_drewN _ _ _).alloc (Nat.le_refl _) _).trans (grown_below' hg3 (fun q hq => by injection hq with hq; subst hq; exact Nat.le_refl _) (by simp))); have HO3 : Box (w3.ownsRow wr.heap.size 39 3 v3 (i - k) (mcs (o.drop k))) := boxed (by simpa using ho3); clear ho3 hg3)
              obtain ⟨⟨p2, q0, q1, q2⟩, HV3⟩ := HX.out w3 HB3.out
              have hz3 := HB3.out.size
              have HA4 : Box ((w3.alloc (.cells #[.int .i64 I, .int .i64 P, .bool T] 39)).drew.ownsRow w1.heap.size 39 3 (.slice (some ⟨g2, 0, none⟩) k oc) k (mcs (o.take k))) := boxed (HSh.out _ (owns_below HV3.out (((Below.refl _ _).alloc (Nat.le_refl _) _).drew)))
              have HC4 : Box (∀ j u, (mcs [⟨I, P, T⟩])[j]? = some u → (w3.alloc (.cells #[.int .i64 I, .int .i64 P, .bool T] 39)).drew.cell? ⟨w3.heap.size, 0 + j, none⟩ = some u) := boxed (fun j u hj => by rw [Nat.zero_add, World.cell?_drew, cell_first]; simpa [mcs, Mk.cs] using hj)
              have HG4 : Box (∀ v4 w4, w4.ownsRow w1.heap.size 39 3 v4 (k + 1) (mcs (o.take k ++ [⟨I, P, T⟩])) → (w3.alloc (.cells #[.int .i64 I, .int .i64 P, .bool T] 39)).drew.grownBy w4 (Value.slice (some ⟨g2, 0, none⟩) k oc).ownBlock → Box (Src w4 v3 (i - k) (o.drop k)) ∧ Box (Below w1.heap.size w1 w4) ∧ w1.heap.size ≤ w4.heap.size) := boxed (by
                intro v4 w4 ho4 hg4
                have hb4 : Below w1.heap.size w3 w4 := ((Below.refl _ w3).alloc (by omega) _).drew.trans (grown_below' hg4 (fun q hq => owns_ge HA4.out q hq) (by simp; omega))
                have hb41 : Below w1.heap.size w1 w4 := ((HBr.out.trans (HBq.out.mono (by omega))).trans (HB3.out.mono (by omega))).trans hb4
                have hr : (w3.alloc (.cells #[.int .i64 I, .int .i64 P, .bool T] 39)).drew.ownsRow wr.heap.size 39 3 v3 (i - k) (mcs (o.drop k)) := owns_below HO3.out (((Below.refl _ _).alloc (Nat.le_refl _) _).drew)
                refine ⟨boxed (own_srcM (hr.kept hg4 ?_)), boxed hb41, hb41.size⟩
                cases hq : v3.ownBlock with
                | none => exact .inl rfl
                | some q =>
                  refine .inr (fun e => ?_)
                  have g1 := owns_ge hr q hq
                  have g2 := HAb.out q e.symm
                  omega)
              have HIn : Box (mcs ((o.take k ++ [⟨I, P, T⟩]) ++ o.drop k) = mcs (srt (s.L.take (i + 1)))) := boxed (by rw [HD.out, in1, HK.out, List.append_assoc]; rfl)
              clear k2q c0 c1 c2 HX HSr HSh HAb HK HD
              go_region_law
                (first | (refine step_appM rfl _ _ rfl w1.heap.size (.slice (some ⟨g2, 0, none⟩) k oc) k (o.take k) rfl HA4.out w3.heap.size 0 1 1 [⟨I, P, T⟩] rfl rfl HC4.out (by omega) (by simp; omega) ?_; intro v4 w4 ho4 hg4; obtain ⟨HS4, HB4, hz4⟩ := HG4.out v4 w4 ho4 hg4; have HO4 := boxed ho4; clear ho4 hg4 HG4 HC4 HA4))
              all_goals
                go_wp2_with (at_builtin; refine wpList_appM rfl _ _ rfl w1.heap.size v4 (k + 1) (o.take k ++ [⟨I, P, T⟩]) rfl HO4.out _ (i - k) (o.drop k) rfl HS4.out (by omega) hz4 ?_; intro v5 w5 ho5 hg5; have HB5 : Box (Below w1.heap.size w1 w5) := boxed (HB4.out.trans (grown_below' hg5 (fun q hq => owns_ge HO4.out q hq) hz4)); have HO5 : Box (w5.ownsRow w1.heap.size 39 3 v5 (i + 1) (mcs (srt (s.L.take (i + 1))))) := boxed (by rw [← HIn.out]; rw [show k + 1 + (i - k) = i + 1 by omega] at ho5; exact ho5); clear ho5 hg5)
                go_roundw
                case rel => exact ⟨i + 1, v5, by omega, rfl, by go_num, HO5, HB5⟩
                case measure => simp [intOf]; omega
        · have hki2 : ¬ (k : Int) < (i : Int) := by omega
          have HK : Box (pos o ⟨I, P, T⟩ = k) := boxed (HU.out k HA.out (fun h => absurd h (by omega)) (by omega))
          obtain ⟨a2, c2', hsl, HSr⟩ := cut_tailM HVq.out hk1
          obtain ⟨hsh, HSh⟩ := cut_headM HVq.out hk1
          have HSr := boxed HSr
          have HSh := boxed HSh
          have hsl2 : ∀ w : World, (Instr.slice 29 (.slice oa i oc) (some (.int .i64 (k : Int))) none none).run Try.prog w = .ok (.slice a2 (i - k) c2') w := fun w => hsl w _ rfl
          have hsh2 : ∀ w : World, (Instr.slice 29 (.slice oa i oc) none (some (.int .i64 (k : Int))) none).run Try.prog w = .ok (.slice oa k oc) w := fun w => hsh w _ rfl
          clear hsl hsh
          have HX : Box (∀ w3, Below wr.heap.size wr w3 → (w3.cell? ⟨w.heap.size, 2, none⟩ = some (.slice (some ⟨g, 0, none⟩) s.L.length cap) ∧ w3.cell? ⟨g, i * 3, none⟩ = some (.int .i64 I) ∧ w3.cell? ⟨g, i * 3 + 1, none⟩ = some (.int .i64 P) ∧ w3.cell? ⟨g, i * 3 + 2, none⟩ = some (.bool T)) ∧ Box (w3.ownsRow w1.heap.size 39 3 (.slice oa i oc) i (mcs o))) := boxed (fun w3 hb => ⟨⟨hold hb k2q, hold hb c0, hold hb c1, hold hb c2⟩, boxed (owns_below HVq.out hb)⟩)
          have hoab : ∀ q, (Value.slice oa k oc).ownBlock = some q → q < wr.heap.size := by
            intro q hq
            exact (World.ownsRow.lt (HSh.out _ HVq.out) q hq).2
          have HAb := boxed hoab
          clear hoab
          go_wp2
          go_quiet (fail)
          go_wp2_with (at_builtin; refine wpList_appM rfl _ _ rfl wr.heap.size _ 0 [] rfl (World.ownsRow_made _ #[] 0 (Nat.le_refl _) (Nat.zero_le _) rfl) _ (i - k) (o.drop k) rfl (HSr.out _ (owns_below HVq.out ((bel_drewN _ _ _).alloc (Nat.le_refl _) _))) (by omega) (by simp) ?_; intro v3 w3 ho3 hg3; have HB3 : Box (Below wr.heap.size wr w3) := boxed (((bel_drewN _ _ _).alloc (Nat.le_refl _) _).trans (grown_below' hg3 (fun q hq => by injection hq with hq; subst hq; exact Nat.le_refl _) (by simp))); have HO3 : Box (w3.ownsRow wr.heap.size 39 3 v3 (i - k) (mcs (o.drop k))) := boxed (by simpa using ho3); clear ho3 hg3)
          obtain ⟨⟨p2, q0, q1, q2⟩, HV3⟩ := HX.out w3 HB3.out
          have hz3 := HB3.out.size
          have HA4 : Box ((w3.alloc (.cells #[.int .i64 I, .int .i64 P, .bool T] 39)).drew.ownsRow w1.heap.size 39 3 (.slice oa k oc) k (mcs (o.take k))) := boxed (HSh.out _ (owns_below HV3.out (((Below.refl _ _).alloc (Nat.le_refl _) _).drew)))
          have HC4 : Box (∀ j u, (mcs [⟨I, P, T⟩])[j]? = some u → (w3.alloc (.cells #[.int .i64 I, .int .i64 P, .bool T] 39)).drew.cell? ⟨w3.heap.size, 0 + j, none⟩ = some u) := boxed (fun j u hj => by rw [Nat.zero_add, World.cell?_drew, cell_first]; simpa [mcs, Mk.cs] using hj)
          have HG4 : Box (∀ v4 w4, w4.ownsRow w1.heap.size 39 3 v4 (k + 1) (mcs (o.take k ++ [⟨I, P, T⟩])) → (w3.alloc (.cells #[.int .i64 I, .int .i64 P, .bool T] 39)).drew.grownBy w4 (Value.slice oa k oc).ownBlock → Box (Src w4 v3 (i - k) (o.drop k)) ∧ Box (Below w1.heap.size w1 w4) ∧ w1.heap.size ≤ w4.heap.size) := boxed (by
            intro v4 w4 ho4 hg4
            have hb4 : Below w1.heap.size w3 w4 := ((Below.refl _ w3).alloc (by omega) _).drew.trans (grown_below' hg4 (fun q hq => owns_ge HA4.out q hq) (by simp; omega))
            have hb41 : Below w1.heap.size w1 w4 := ((HBr.out.trans (HBq.out.mono (by omega))).trans (HB3.out.mono (by omega))).trans hb4
            have hr : (w3.alloc (.cells #[.int .i64 I, .int .i64 P, .bool T] 39)).drew.ownsRow wr.heap.size 39 3 v3 (i - k) (mcs (o.drop k)) := owns_below HO3.out (((Below.refl _ _).alloc (Nat.le_refl _) _).drew)
            refine ⟨boxed (own_srcM (hr.kept hg4 ?_)), boxed hb41, hb41.size⟩
            cases hq : v3.ownBlock with
            | none => exact .inl rfl
            | some q =>
              refine .inr (fun e => ?_)
              have g1 := owns_ge hr q hq
              have g2 := HAb.out q e.symm
              omega)
          have HIn : Box (mcs ((o.take k ++ [⟨I, P, T⟩]) ++ o.drop k) = mcs (srt (s.L.take (i + 1)))) := boxed (by rw [HD.out, in1, HK.out, List.append_assoc]; rfl)
          clear k2q c0 c1 c2 HX HSr HSh HAb HK HD
          go_region_law
            (first | (refine step_appM rfl _ _ rfl w1.heap.size (.slice oa k oc) k (o.take k) rfl HA4.out w3.heap.size 0 1 1 [⟨I, P, T⟩] rfl rfl HC4.out (by omega) (by simp; omega) ?_; intro v4 w4 ho4 hg4; obtain ⟨HS4, HB4, hz4⟩ := HG4.out v4 w4 ho4 hg4; have HO4 := boxed ho4; clear ho4 hg4 HG4 HC4 HA4))
          all_goals
            go_wp2_with (at_builtin; refine wpList_appM rfl _ _ rfl w1.heap.size v4 (k + 1) (o.take k ++ [⟨I, P, T⟩]) rfl HO4.out _ (i - k) (o.drop k) rfl HS4.out (by omega) hz4 ?_; intro v5 w5 ho5 hg5; have HB5 : Box (Below w1.heap.size w1 w5) := boxed (HB4.out.trans (grown_below' hg5 (fun q hq => owns_ge HO4.out q hq) hz4)); have HO5 : Box (w5.ownsRow w1.heap.size 39 3 v5 (i + 1) (mcs (srt (s.L.take (i + 1))))) := boxed (by rw [← HIn.out]; rw [show k + 1 + (i - k) = i + 1 by omega] at ho5; exact ho5); clear ho5 hg5)
            go_roundw
            case rel => exact ⟨i + 1, v5, by omega, rfl, by go_num, HO5, HB5⟩
            case measure => simp [intOf]; omega
    · have e : i = s.L.length := by omega
      have hfin := HV.out
      rw [e, List.take_length] at hfin
      have HF := boxed (own_mono hfin (Nat.le_of_lt hlt1))
      have HBf := boxed (HB1.out.trans (HBr.out.mono (by omega)))
      subst e
      clear hfin HV HBr HO1 k2 k0 k1
      go_wp2_with fail
      go_ret
      exact ⟨⟨_, rfl, HF.out⟩, HBf.out⟩
end
end Go.Proofs.Ytdaccgnfhagoeaa
