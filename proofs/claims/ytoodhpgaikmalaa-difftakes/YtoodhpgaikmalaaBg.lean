/-
  What is tried: few pages of few lines (short, few).
-/
import Derived.Test.YtoodhpgaikmalaaBf
namespace Go.Proofs.Ytoodhpgaikmalaa
open Go.RowKit
set_option linter.unusedSimpArgs false
set_option linter.unusedVariables false

def LineP (x : Lne) : Prop := x.rn ≤ 20 ∧ ∀ j, j < x.rn → x.L j ≤ 1099511627776
def ShortP (n : Nat) (F : Nat → Lne) : Prop := n ≤ 40 ∧ ∀ i, i < n → LineP (F i)
set_option maxRecDepth 100000 in
set_option maxHeartbeats 4000000 in
theorem short_any (S : Nat → Prop) (ao : Option Addr) (n cap : Nat) (F : Nat → Lne) (w : World) (h : LnsAt S w ao n F) (hn : n ≤ maxLen) (hr : ∀ i, i < n → (F i).rn ≤ maxLen) :
    Calls Try.prog 16 #[.slice ao n cap] w fun e w' => ∃ b, e = .returned (.bool b) ∧ (b = true ↔ ShortP n F) ∧ w' = w := by
  unfold maxLen at hn hr
  by_cases c : 40 < n
  · have t1 : decide ((40 : Int) < (n : Int)) = true := decide_eq_true (by omega)
    have HN : Box (¬ ShortP n F) := boxed (fun h => by have := h.1; omega)
    clear c h hr
    go_enter Try.func16, Try.ntmps16
    go_wp2
    go_ret
    exact ⟨false, rfl, ⟨(fun h => by cases h), (fun h => absurd h HN.out)⟩, rfl⟩
  · have t1 : decide ((40 : Int) < (n : Int)) = false := decide_eq_false (by omega)
    have H := boxed h
    have HR := boxed hr
    have hn40 : n ≤ 40 := by omega
    clear c h hr
    go_enter Try.func16, Try.ntmps16
    go_wp2_with fail
    clear t1
    go_loopw [3, 4] (fun vi vk wr => ∃ i : Nat, i ≤ n ∧ vi = .int .i64 (i : Nat) ∧ Box (∀ j, j < i → LineP (F j)) ∧ wr = w) (fun vi _ _ => n - (intOf vi).toNat)
    case atStart => exact ⟨0, Nat.zero_le _, rfl, boxed (fun j hj => by omega), rfl⟩
    case round =>
      obtain ⟨i, hi, rfl, HS, rfl⟩ := hrel
      by_cases hlt : i < n
      · obtain ⟨b, off, rfl, hbw⟩ := H.out.form (by omega)
        obtain ⟨hp, -, c1, -⟩ := H.out.get i hlt
        have HP := boxed hp
        have hrm := HR.out i hlt
        have t0 : decide ((i : Int) < (n : Int)) = true := decide_eq_true (by omega)
        have HX : Box (ShortP n F → LineP (F i)) := boxed (fun h => h.2 i hlt)
        have HS2 : Box (LineP (F i) → ∀ j, j < i + 1 → LineP (F j)) := boxed (fun hh j hj => by
          by_cases d : j = i
          · subst d; exact hh
          · exact HS.out j (by omega))
        clear HS hp hbw
        obtain ⟨x, hx⟩ : ∃ x, F i = x := ⟨_, rfl⟩
        rw [hx] at HX HS2 HP hrm c1
        clear hx
        by_cases c2 : 20 < x.rn
        · have t2 : decide ((20 : Int) < (x.rn : Int)) = true := decide_eq_true (by omega)
          have HN : Box (¬ ShortP n F) := boxed (fun h => by have := (HX.out h).1; omega)
          clear c2 HP HS2 HX
          go_wp2
          go_ret
          exact ⟨false, rfl, ⟨(fun h => by cases h), (fun h => absurd h HN.out)⟩, rfl⟩
        · have t2 : decide ((20 : Int) < (x.rn : Int)) = false := decide_eq_false (by omega)
          have h20 : x.rn ≤ 20 := by omega
          clear c2
          go_wp2_with fail
          clear t2
          go_loopw [4] (fun vk wq => ∃ k : Nat, k ≤ x.rn ∧ vk = .int .i64 (k : Nat) ∧ Box (∀ j, j < k → x.L j ≤ 1099511627776) ∧ wq = wr) (fun vk _ => x.rn - (intOf vk).toNat)
          case atStart => exact ⟨0, Nat.zero_le _, rfl, boxed (fun j hj => by omega), rfl⟩
          case round =>
            obtain ⟨k, hk, rfl, HK, rfl⟩ := hrel
            by_cases hkl : k < x.rn
            · obtain ⟨rb, ro, hra, -⟩ := HP.out.form (by omega)
              have hpp := HP.out
              rw [hra] at hpp c1
              obtain ⟨d0, d1⟩ := hpp.get k hkl
              have tk : decide ((k : Int) < (x.rn : Int)) = true := decide_eq_true (by omega)
              clear hpp hra d1
              by_cases cl : 1099511627776 < x.L k
              · have tl : decide ((1099511627776 : Int) < x.L k) = true := decide_eq_true cl
                have HN : Box (¬ ShortP n F) := boxed (fun h => by have := (HX.out h).2 k hkl; omega)
                clear cl HK
                generalize x.L k = l at *
                go_wp2
                go_ret
                exact ⟨false, rfl, ⟨(fun h => by cases h), (fun h => absurd h HN.out)⟩, rfl⟩
              · have tl : decide ((1099511627776 : Int) < x.L k) = false := decide_eq_false cl
                have HK2 : Box (∀ j, j < k + 1 → x.L j ≤ 1099511627776) := boxed (fun j hj => by
                  by_cases d : j = k
                  · subst d; omega
                  · exact HK.out j (by omega))
                clear cl HK
                generalize x.L k = l at *
                go_wp2_with fail
                go_roundw
                case rel => exact ⟨k + 1, by omega, by go_num, HK2, (by first | rfl | trivial)⟩
                case measure => simp [intOf]; omega
            · obtain rfl : k = x.rn := by omega
              have tk : decide ((x.rn : Int) < (x.rn : Int)) = false := decide_eq_false (by omega)
              go_wp2_with fail
              go_roundw
              case rel => exact ⟨i + 1, by omega, by go_num, boxed (HS2.out ⟨h20, HK.out⟩), (by first | rfl | trivial)⟩
              case measure => simp [intOf]; omega
      · obtain rfl : i = n := by omega
        have t0 : decide ((i : Int) < (i : Int)) = false := decide_eq_false (by omega)
        go_wp2_with fail
        go_ret
        exact ⟨true, rfl, ⟨fun _ => ⟨hn40, HS.out⟩, fun _ => rfl⟩, rfl⟩
/-- A page as it comes in. -/
structure Pgv where
  la : Option Addr
  ln : Nat
  lc : Nat
  F : Nat → Lne
/-- What is known of a line that comes in. -/
structure LneOk (x : Lne) : Prop where
  tx : x.tx.size ≤ 140737488351232
  rn : x.rn ≤ maxLen ∧ x.rn ≤ x.rc
  num : I64 x.num
  den : I64 x.den
  h : I64 x.h
  y : I64 x.y
structure PgvOk (p : Pgv) : Prop where
  ln : p.ln ≤ maxLen
  sl : Sl p.la p.lc p.ln
  all : ∀ i, i < p.ln → LneOk (p.F i)
/-- Pages as they come in. -/
def PgsR (S : Nat → Prop) (w : World) (ao : Option Addr) (n : Nat) (P : Nat → Pgv) : Prop := ∀ i, i < n → PgvOk (P i) ∧ LnsAt S w (P i).la (P i).ln (P i).F ∧ ∃ b off, ao = some ⟨b, off, none⟩ ∧ S b ∧ w.cell? ⟨b, off + i, none⟩ = some (.slice (P i).la (P i).ln (P i).lc)
theorem PgsR.below {S : Nat → Prop} {w w' : World} {ao : Option Addr} {n : Nat} {P : Nat → Pgv} (h : PgsR S w ao n P) (hb : Below w.heap.size w w') : PgsR S w' ao n P := by
  intro i hi
  obtain ⟨h1, h2, b, off, e, hs, c⟩ := h i hi
  exact ⟨h1, h2.below hb, b, off, e, hs, hold hb c⟩
def FewP (n : Nat) (P : Nat → Pgv) : Prop := n ≤ 20 ∧ ∀ i, i < n → ShortP (P i).ln (P i).F
set_option maxRecDepth 100000 in
set_option maxHeartbeats 4000000 in
theorem few_any (S : Nat → Prop) (ao : Option Addr) (n cap : Nat) (P : Nat → Pgv) (w : World) (h : PgsR S w ao n P) (hn : n ≤ maxLen) :
    Calls Try.prog 8 #[.slice ao n cap] w fun e w' => ∃ b, e = .returned (.bool b) ∧ (b = true ↔ FewP n P) ∧ w' = w := by
  unfold maxLen at hn
  by_cases c : 20 < n
  · have t1 : decide ((20 : Int) < (n : Int)) = true := decide_eq_true (by omega)
    have HN : Box (¬ FewP n P) := boxed (fun h => by have := h.1; omega)
    clear c h
    go_enter Try.func8, Try.ntmps8
    go_wp2
    go_ret
    exact ⟨false, rfl, ⟨(fun h => by cases h), (fun h => absurd h HN.out)⟩, rfl⟩
  · have t1 : decide ((20 : Int) < (n : Int)) = false := decide_eq_false (by omega)
    have H := boxed h
    have hn20 : n ≤ 20 := by omega
    clear c h
    go_enter Try.func8, Try.ntmps8
    go_wp2_with fail
    clear t1
    go_loopw [3] (fun vi wr => ∃ i : Nat, i ≤ n ∧ vi = .int .i64 (i : Nat) ∧ Box (∀ j, j < i → ShortP (P j).ln (P j).F) ∧ wr = w) (fun vi _ => n - (intOf vi).toNat)
    case atStart => exact ⟨0, Nat.zero_le _, rfl, boxed (fun j hj => by omega), rfl⟩
    case round =>
      obtain ⟨i, hi, rfl, HS, rfl⟩ := hrel
      by_cases hlt : i < n
      · obtain ⟨hok, hls, b, off, rfl, -, c0⟩ := H.out i hlt
        have t0 : decide ((i : Int) < (n : Int)) = true := decide_eq_true (by omega)
        have HC := boxed (short_any S (P i).la (P i).ln (P i).lc (P i).F wr hls hok.ln (fun j hj => (hok.all j hj).rn.1))
        have HX : Box (FewP n P → ShortP (P i).ln (P i).F) := boxed (fun h => h.2 i hlt)
        have HS2 : Box (ShortP (P i).ln (P i).F → ∀ j, j < i + 1 → ShortP (P j).ln (P j).F) := boxed (fun hh j hj => by
          by_cases d : j = i
          · subst d; exact hh
          · exact HS.out j (by omega))
        clear HS hls hok
        obtain ⟨x, hx⟩ : ∃ x, P i = x := ⟨_, rfl⟩
        rw [hx] at HX HS2 HC c0
        clear hx
        go_wp2_with fail
        refine HC.out.mono ?_
        rintro e w' ⟨q, rfl, hq, rfl⟩
        have HQ := boxed hq
        clear hq HC
        cases q with
        | true =>
          go_wp2_with fail
          go_roundw
          case rel => exact ⟨i + 1, by omega, by go_num, boxed (HS2.out (HQ.out.1 (by first | rfl | trivial))), (by first | rfl | trivial)⟩
          case measure => simp [intOf]; omega
        | false =>
          go_wp2_with fail
          go_ret
          exact ⟨false, rfl, ⟨(fun h => by cases h), (fun h => by have := HQ.out.2 (HX.out h); cases this)⟩, rfl⟩
      · obtain rfl : i = n := by omega
        have t0 : decide ((i : Int) < (i : Int)) = false := decide_eq_false (by omega)
        go_wp2_with fail
        go_ret
        exact ⟨true, rfl, ⟨fun _ => ⟨hn20, HS.out⟩, fun _ => rfl⟩, rfl⟩
/-- The lines' and pages' keys. -/
def kys (n : Nat) (F : Nat → Lne) : List Key := (List.range n).map (fun i => key (F i))
theorem kys_len (n : Nat) (F : Nat → Lne) : (kys n F).length = n := by simp [kys]
theorem kys_get (n : Nat) (F : Nat → Lne) (i : Nat) (h : i < n) : (kys n F)[i]? = some (key (F i)) := by simp [kys, h]
theorem lines_in {S : Nat → Prop} {w : World} {ao : Option Addr} {n : Nat} {F : Nat → Lne} (h : LnsAt S w ao n F) (hs : ShortP n F) (ho : ∀ i, i < n → LneOk (F i)) : LsAt S w ao (kys n F) := by
  refine ⟨F, by rw [kys_len]; exact h, fun i hi => ?_⟩
  rw [kys_len] at hi
  exact ⟨⟨(ho i hi).tx, (hs.2 i hi).1, (ho i hi).rn.2, (hs.2 i hi).2⟩, kys_get n F i hi⟩
def pgs (n : Nat) (P : Nat → Pgv) : List (List Key) := (List.range n).map (fun i => kys (P i).ln (P i).F)
theorem pgs_len (n : Nat) (P : Nat → Pgv) : (pgs n P).length = n := by simp [pgs]
theorem pgs_get (n : Nat) (P : Nat → Pgv) (i : Nat) (ks : List Key) (h : (pgs n P)[i]? = some ks) : i < n ∧ ks = kys (P i).ln (P i).F := by
  have hl := (List.getElem?_eq_some_iff.1 h).1
  rw [pgs_len] at hl
  simp [pgs, hl] at h
  exact ⟨hl, h.symm⟩
/-- Few pages: so many, and of so many lines. -/
def Few (ps : List (List Key)) : Prop := ps.length ≤ 20 ∧ ∀ (i : Nat) (ks : List Key), ps[i]? = some ks → ks.length ≤ 40
theorem pages_in {S : Nat → Prop} {w : World} {ao : Option Addr} {n : Nat} {P : Nat → Pgv} (h : PgsR S w ao n P) (hs : FewP n P) : PsAt S w ao (pgs n P) ∧ Few (pgs n P) := by
  refine ⟨fun i ks hi => ?_, by rw [pgs_len]; exact hs.1, fun i ks hi => ?_⟩
  · obtain ⟨hl, rfl⟩ := pgs_get n P i ks hi
    obtain ⟨hok, hls, b, off, e, hS, c⟩ := h i hl
    refine ⟨b, off, (P i).la, (P i).lc, e, hS, ?_, ?_, lines_in hls (hs.2 i hl) hok.all⟩
    · rw [kys_len]; exact c
    · rw [kys_len]; exact hok.sl
  · obtain ⟨hl, rfl⟩ := pgs_get n P i ks hi
    rw [kys_len]
    exact (hs.2 i hl).1
end Go.Proofs.Ytoodhpgaikmalaa
