/-
  What the program's Hit and the document's answer.
-/
import Derived.Test.YtcdcpmcjlchfgaaLpu
import Derived.Test.YtcdcpmcjlchfgaaLpf
namespace Go.Proofs.Ytcdcpmcjlchfgaa
open Go.RowKit
set_option linter.unusedSimpArgs false
set_option linter.unusedVariables false

/-- The byte at a spot. -/
def HtP (G : Int → Sty) (n : Nat) (P : Nat → Pgv) (sx sy sz : Int) : Option Nat → Prop
  | none => n = 0 ∨ (P (nst sx n)).ln = 0
  | some u => 0 < n ∧ 0 < (P (nst sx n)).ln ∧ ∃ N v, LnP ((P (nst sx n)).F (nst sy (P (nst sx n)).ln)) N ∧ HitP (fun k => xs G ((P (nst sx n)).F (nst sy (P (nst sx n)).ln)).L ((P (nst sx n)).F (nst sy (P (nst sx n)).ln)).Y ((P (nst sx n)).F (nst sy (P (nst sx n)).ln)).rn ((P (nst sx n)).F (nst sy (P (nst sx n)).ln)).num ((P (nst sx n)).F (nst sy (P (nst sx n)).ln)).den ((P (nst sx n)).F (nst sy (P (nst sx n)).ln)).tx N k) ((P (nst sx n)).F (nst sy (P (nst sx n)).ln)).tx N sz v ∧ u = psz P (nst sx n) + lsz (P (nst sx n)).F (nst sy (P (nst sx n)).ln) + v
theorem htp_one {G K : Int → Sty} (hL : ∀ a, Like (K a) (G a)) {n : Nat} {P : Nat → Pgv} {sx sy sz : Int} {u v : Option Nat} (h : HtP G n P sx sy sz u) (g : HtP K n P sx sy sz v) : u = v := by
  match u, v, h, g with
  | none, none, h, g => rfl
  | none, some v, h, g => obtain ⟨g1, g2, -⟩ := g; rcases h with h | h <;> omega
  | some u, none, h, g => obtain ⟨g1, g2, -⟩ := h; rcases g with g | g <;> omega
  | some u, some v, h, g =>
    obtain ⟨-, -, N, a, h1, h2, h3⟩ := h
    obtain ⟨-, -, M, b, g1, g2, g3⟩ := g
    have e := cnt_one _ N M h1.ok.1 g1.ok.1
    subst e
    rw [funext (fun k => xs_like hL _ _ _ _ _ _ _ k)] at h2
    have := hitp_one h2 g2
    rw [h3, g3, this]
def htV : Option Nat → Value
  | none => .tuple #[.int .i64 0, .int .i64 30]
  | some u => .tuple #[.int .i64 (u : Nat), .int .i64 0]
def htW : Option Nat → Value
  | none => .tuple #[.int .i64 0, .bool false]
  | some u => .tuple #[.int .i64 (u : Nat), .bool true]
theorem spot3_new (w : World) (a b c : Int) : ∃ w0, w.alloc (.cells #[.int .i64 a, .int .i64 b, .int .i64 c] 56) = w0 ∧ Below w.heap.size w w0 ∧ ∀ W, Below w0.heap.size w0 W → W.cell? ⟨w.heap.size, 0, none⟩ = some (.int .i64 a) ∧ W.cell? ⟨w.heap.size, 1, none⟩ = some (.int .i64 b) ∧ W.cell? ⟨w.heap.size, 2, none⟩ = some (.int .i64 c) :=
  ⟨_, rfl, (Below.refl _ _).alloc (Nat.le_refl _) _, fun W hb => ⟨kept_first hb 0, kept_first hb 1, kept_first hb 2⟩⟩
set_option maxRecDepth 100000 in
set_option maxHeartbeats 8000000 in
theorem hit_any {B : Nat} {w : World} {tb m : Nat} {G : Nat → Sty} (h : TabAt B w tb m G) (hg : ∀ i, i < m → flt (G i) = 0) (ao : Option Addr) (n cap : Nat) (P : Nat → Pgv) (hP : PgsR (fun _ => True) w ao n P) (hn : n ≤ maxLen ∧ Sl ao cap n) (hF : FewP n P) (sx sy sz : Int) (hs : I64 sx ∧ I64 sy ∧ I64 sz) :
    Calls Try.prog 24 #[.pointer (some ⟨tb, 0, none⟩), .slice ao n cap, .agg #[.int .i64 sx, .int .i64 sy, .int .i64 sz]] w fun e w' => (∃ v, e = .returned (htV v) ∧ HtP (ofS G m) n P sx sy sz v) ∧ Below w.heap.size w w' := by
  obtain ⟨w0, hw0, hB0, hC⟩ := spot3_new w sx sy sz
  have HW0 := boxed hw0
  have HB0 := boxed hB0
  have HC := boxed hC
  have HPg := boxed hP
  have HTab := boxed h
  have HG := boxed hg
  have HF := boxed hF
  have HN := boxed hn
  have HSs := boxed hs
  clear h hg hP hn hF hw0 hB0 hC hs
  obtain ⟨c0, c1, c2⟩ := HC.out w0 (Below.refl _ _)
  by_cases h0 : n = 0
  · subst h0
    have HFin : Box (HtP (ofS G m) 0 P sx sy sz none) := boxed (Or.inl rfl)
    go_enter Try.func24, Try.ntmps24
    go_upto_region 1 with (fail)
    rw [HW0.out]
    go_wp2_with fail
    go_ret2
    exact ⟨⟨none, rfl, HFin.out⟩, HB0.out⟩
  have t0 : ((n : Int) == 0) = false := by rw [beq_eq_false_iff_ne]; omega
  have hnm := HN.out.1
  have hne := nearest_any sx n w0 (by omega) hnm HSs.out.1
  have hlt := (nst_lt sx n (by omega)).1
  have hsm := HF.out.small
  obtain ⟨p, hp⟩ : ∃ p, nst sx n = p := ⟨_, rfl⟩
  have HPn := boxed hp
  rw [hp] at hne hlt
  clear hp
  have hpi : (p : Int) < (n : Int) := by omega
  obtain ⟨hok, hls, b, off, hao, -, d0⟩ := (HPg.out.below HB0.out) p hlt
  subst hao
  simp only [maxLen] at hnm
  by_cases hl0 : (P p).ln = 0
  · have HFin : Box (HtP (ofS G m) n P sx sy sz none) := boxed (Or.inr (by rw [HPn.out]; exact hl0))
    rw [hl0] at d0
    clear hl0 hok hls
    generalize (P p).la = la at *
    generalize (P p).lc = lc at *
    go_enter Try.func24, Try.ntmps24
    go_upto_region 1 with (fail)
    rw [HW0.out]
    go_wp2_with fail
    refine hne.mono ?_
    rintro e w1 ⟨rfl, hw1⟩
    subst hw1
    go_wp2_with fail
    go_ret2
    exact ⟨⟨none, rfl, HFin.out⟩, HB0.out⟩
  have t1 : (((P p).ln : Int) == 0) = false := by rw [beq_eq_false_iff_ne]; omega
  have hlm := hok.ln
  have hne2 := nearest_any sy (P p).ln w0 (by omega) hlm HSs.out.2.1
  have hlt2 := (nst_lt sy (P p).ln (by omega)).1
  obtain ⟨k, hk⟩ : ∃ k, nst sy (P p).ln = k := ⟨_, rfl⟩
  have HKn := boxed hk
  rw [hk] at hne2 hlt2
  clear hk
  simp only [maxLen] at hlm
  have hki : (k : Int) < ((P p).ln : Int) := by omega
  obtain ⟨N, hLP⟩ := HF.out.ok p k hlt hlt2
  have hof := offset_any (fun _ => True) (some ⟨b, off, none⟩) n cap P (p : Int) (k : Int) w0 (HPg.out.below HB0.out) HN.out hsm
  rw [ofs_in n P p k hlt hlt2] at hof
  obtain ⟨bl, ol, hla, -⟩ := hls.form (by omega)
  rw [hla] at hls d0
  obtain ⟨hp2, e0, e1, e2, e3, e4, e5, e6, e7, e8⟩ := hls.get k hlt2
  have hun' := boxed (fun W (hb : Below w0.heap.size w0 W) => under_any (HTab.out.below (below_step HB0.out (Nat.le_refl _) hb)) HG.out (fun _ => True) ((P p).F k) (hp2.below hb) (hok.all k hlt2).rn N hLP.ok (by have := hLP.tx; omega) sz)
  have hm1 := psz_mono P (p + 1) n hlt
  have hm3 := lsz_mono (P p).F k (P p).ln (by omega)
  have hm4 : psz P (p + 1) = psz P p + lsz (P p).F (P p).ln := rfl
  obtain ⟨O, hO⟩ : ∃ O, psz P p + lsz (P p).F k = O := ⟨_, rfl⟩
  have hOb : O ≤ 1000000 := by omega
  have HFin : Box (∀ v, HitP (fun q => xs (ofS G m) ((P p).F k).L ((P p).F k).Y ((P p).F k).rn ((P p).F k).num ((P p).F k).den ((P p).F k).tx N q) ((P p).F k).tx N sz v → HtP (ofS G m) n P sx sy sz (some (O + v))) := boxed (fun v hv => by
    refine ⟨by omega, by rw [HPn.out]; omega, ?_⟩
    rw [HPn.out, HKn.out]
    exact ⟨N, v, hLP, hv, by rw [← hO]⟩)
  rw [hO] at hof
  clear hm1 hm3 hm4 hO hls hok hp2 hla hLP hl0 HF HN HG hsm h0
  generalize (fun q => xs (ofS G m) ((P p).F k).L ((P p).F k).Y ((P p).F k).rn ((P p).F k).num ((P p).F k).den ((P p).F k).tx N q) = X at *
  generalize (P p).lc = lc at *
  generalize (P p).ln = ln at *
  generalize (P p).F k = y at *
  unfold Lne.val at hun'
  go_enter Try.func24, Try.ntmps24
  go_upto_region 1 with (fail)
  rw [HW0.out]
  go_wp2_with fail
  refine hne.mono ?_
  rintro e w1 ⟨rfl, hw1⟩
  subst hw1
  go_wp2_with fail
  refine hne2.mono ?_
  rintro e w1' ⟨rfl, hw1'⟩
  subst hw1'
  go_wp2_with fail
  refine hof.mono ?_
  rintro e w2 ⟨rfl, hb2⟩
  have HB2 := boxed hb2
  have HCC : Box (∀ W, Below w2.heap.size w2 W → W.cell? ⟨w.heap.size, 2, none⟩ = some (.int .i64 sz) ∧ W.cell? ⟨bl, ol + k * 9, none⟩ = some (.string y.tx) ∧ W.cell? ⟨bl, ol + k * 9 + 1, none⟩ = some (.slice y.ra y.rn y.rc) ∧ W.cell? ⟨bl, ol + k * 9 + 2, none⟩ = some (.int .i64 y.num) ∧ W.cell? ⟨bl, ol + k * 9 + 3, none⟩ = some (.int .i64 y.den) ∧ W.cell? ⟨bl, ol + k * 9 + 4, none⟩ = some (.int .i64 y.h) ∧ W.cell? ⟨bl, ol + k * 9 + 5, none⟩ = some (.bool y.hy) ∧ W.cell? ⟨bl, ol + k * 9 + 6, none⟩ = some (.int .i64 y.y) ∧ W.cell? ⟨bl, ol + k * 9 + 7, none⟩ = some (.bool y.bg) ∧ W.cell? ⟨bl, ol + k * 9 + 8, none⟩ = some (.bool y.en)) := boxed (fun W hb => by
    have hb' := below_step hb2 (Nat.le_refl _) hb
    exact ⟨hold hb' c2, hold hb' e0, hold hb' e1, hold hb' e2, hold hb' e3, hold hb' e4, hold hb' e5, hold hb' e6, hold hb' e7, hold hb' e8⟩)
  have HDr : Box (Below w2.heap.size w2 w2.drew) := boxed (Below.refl _ _).drew
  have HDr0 : Box (Below w1'.heap.size w1' w2.drew) := boxed (below_step hb2 (Nat.le_refl _) (Below.refl _ _).drew)
  clear hne hne2 hof hb2 c0 c1 c2 d0 e0 e1 e2 e3 e4 e5 e6 e7 e8
  go_wp2_with fail
  go_region_held3 (fun W => W.cell? ⟨w.heap.size, 2, none⟩ = some (.int .i64 sz) ∧ W.cell? ⟨bl, ol + k * 9, none⟩ = some (.string y.tx) ∧ W.cell? ⟨bl, ol + k * 9 + 1, none⟩ = some (.slice y.ra y.rn y.rc) ∧ W.cell? ⟨bl, ol + k * 9 + 2, none⟩ = some (.int .i64 y.num) ∧ W.cell? ⟨bl, ol + k * 9 + 3, none⟩ = some (.int .i64 y.den) ∧ W.cell? ⟨bl, ol + k * 9 + 4, none⟩ = some (.int .i64 y.h) ∧ W.cell? ⟨bl, ol + k * 9 + 5, none⟩ = some (.bool y.hy) ∧ W.cell? ⟨bl, ol + k * 9 + 6, none⟩ = some (.int .i64 y.y) ∧ W.cell? ⟨bl, ol + k * 9 + 7, none⟩ = some (.bool y.bg) ∧ W.cell? ⟨bl, ol + k * 9 + 8, none⟩ = some (.bool y.en))
    (first | with_reducible exact HCC.out _ HDr.out | with_reducible exact HCC.out _ HB3.out)
    (first | (go_at_call 51; refine (hun'.out _ HDr0.out).mono ?_; rintro e w3 ⟨⟨v, rfl, hv1, hv2⟩, hb3⟩; have HB3 := boxed (below_step HDr.out (Nat.le_refl _) hb3); have HV := boxed (HFin.out v hv2); have HB03 := boxed (below_step HDr0.out (Nat.le_refl _) hb3); clear hb3 hv2))
  have HFF := boxed (below_step HB0.out (Nat.le_refl _) HB03.out)
  clear HCC HB3 HDr HDr0 hun'
  go_wp2_with fail
  go_ret2
  exact ⟨⟨some (O + v), ret_two (by rw [IntKind.wrap_i64]; omega) rfl, HV.out⟩, HFF.out⟩
end Go.Proofs.Ytcdcpmcjlchfgaa
