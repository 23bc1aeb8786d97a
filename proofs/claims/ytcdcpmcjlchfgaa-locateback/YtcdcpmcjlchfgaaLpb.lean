/-
  Plain words of layer 15, no program in it: the style of a byte by runs, the seen runes, where each rune of a line stands; how many bytes pages have, and which line has a byte.
-/
import Derived.Test.YtcdcpmcjlchfgaaLpa
import Derived.Test.YtcdcpmcjlchfgaaNe
import Derived.Test.YtcdcpmcjlchfgaaScZ
namespace Go.Proofs.Ytcdcpmcjlchfgaa
open Go.RowKit
set_option linter.unusedSimpArgs false
set_option linter.unusedVariables false

/-- The style of the byte that lies so far behind where the run begins behind which m - 1 runs are left. -/
def rsm (L Y : Nat → Int) (rn : Nat) : Nat → Int → Int
  | 0, _ => 0
  | m + 1, a => if L (rn - (m + 1)) ≤ 0 then rsm L Y rn m a else if a < L (rn - (m + 1)) then Y (rn - (m + 1)) else rsm L Y rn m (a - L (rn - (m + 1)))
def rs (L Y : Nat → Int) (rn i : Nat) (a : Int) : Int := rsm L Y rn (rn - i) a
theorem rs_end (L Y : Nat → Int) (rn : Nat) (a : Int) : rs L Y rn rn a = 0 := by unfold rs; rw [Nat.sub_self]; rfl
theorem rs_step (L Y : Nat → Int) (rn i : Nat) (a : Int) (h : i < rn) : rs L Y rn i a = if L i ≤ 0 then rs L Y rn (i + 1) a else if a < L i then Y i else rs L Y rn (i + 1) (a - L i) := by
  unfold rs
  obtain ⟨m, hm⟩ : ∃ m, rn - i = m + 1 := ⟨rn - i - 1, by omega⟩
  have e1 : rn - (i + 1) = m := by omega
  have e2 : rn - (m + 1) = i := by omega
  rw [hm, e1]
  simp only [rsm, e2]
theorem rs_none (L Y : Nat → Int) (rn i : Nat) (a : Int) (h : i < rn) (hl : L i ≤ 0) : rs L Y rn i a = rs L Y rn (i + 1) a := by rw [rs_step L Y rn i a h, if_pos hl]
theorem rs_here (L Y : Nat → Int) (rn i : Nat) (a : Int) (h : i < rn) (hl : 0 < L i) (ha : a < L i) : rs L Y rn i a = Y i := by rw [rs_step L Y rn i a h, if_neg (by omega), if_pos ha]
theorem rs_far (L Y : Nat → Int) (rn i : Nat) (a : Int) (h : i < rn) (hl : 0 < L i) (ha : L i ≤ a) : rs L Y rn i a = rs L Y rn (i + 1) (a - L i) := by rw [rs_step L Y rn i a h, if_neg (by omega), if_neg (by omega)]
/-- The run under way: all bytes from x on have the style that the runs from i on tell, the run i beginning at b. -/
structure Alg (L Y : Nat → Int) (rn i : Nat) (b x : Int) : Prop where
  b0 : 0 ≤ b
  bx : b ≤ x
  le : i ≤ rn
  all : ∀ a, x ≤ a → rs L Y rn 0 a = rs L Y rn i (a - b)
theorem alg_zero (L Y : Nat → Int) (rn : Nat) : Alg L Y rn 0 0 0 := ⟨by omega, by omega, by omega, fun a _ => by rw [Int.sub_zero]⟩
theorem Alg.mono {L Y : Nat → Int} {rn i : Nat} {b x y : Int} (h : Alg L Y rn i b x) (hy : x ≤ y) : Alg L Y rn i b y := ⟨h.b0, Int.le_trans h.bx hy, h.le, fun a ha => h.all a (Int.le_trans hy ha)⟩
theorem Alg.next {L Y : Nat → Int} {rn i : Nat} {b x : Int} (h : Alg L Y rn i b x) (hi : i < rn) (hl : L i ≤ x - b) : Alg L Y rn (i + 1) (b + max (L i) 0) x := by
  have h1 := h.b0
  have h2 := h.bx
  by_cases c : L i ≤ 0
  · have e : b + max (L i) 0 = b := by omega
    rw [e]
    exact ⟨h1, h2, hi, fun a ha => by rw [h.all a ha, rs_none L Y rn i _ hi c]⟩
  · have e : max (L i) 0 = L i := by omega
    rw [e]
    exact ⟨by omega, by omega, hi, fun a ha => by rw [h.all a ha, rs_far L Y rn i _ hi (by omega) (by omega)]; congr 1; omega⟩
theorem Alg.here {L Y : Nat → Int} {rn i : Nat} {b x : Int} (h : Alg L Y rn i b x) (hi : i < rn) (hl : ¬ L i ≤ x - b) : rs L Y rn 0 x = Y i := by
  have h2 := h.bx
  rw [h.all x (Int.le_refl _), rs_here L Y rn i _ hi (by omega) (by omega)]
theorem Alg.gone {L Y : Nat → Int} {rn : Nat} {b x : Int} (h : Alg L Y rn rn b x) : rs L Y rn 0 x = 0 := by
  rw [h.all x (Int.le_refl _), rs_end]

/-- The style of the last of the first runs that isn't empty. -/
def lstS (L Y : Nat → Int) : Nat → Int
  | 0 => 0
  | n + 1 => if 0 < L n then Y n else lstS L Y n

/-- Is a rune seen? -/
def sn (r : Int) : Bool := decide (kd r = 0) || decide (kd r = 2) || decide (kd r = 6)
/-- Behind the last of the first k runes that is seen. -/
def ls (t : ByteArray) : Nat → Nat
  | 0 => 0
  | k + 1 => if sn (rn t k) = true then k + 1 else ls t k
theorem ls_le (t : ByteArray) (k : Nat) : ls t k ≤ k := by
  induction k with
  | zero => exact Nat.le_refl _
  | succ k ih => simp only [ls]; split <;> omega
theorem ls_seen (t : ByteArray) (k : Nat) (h : 0 < ls t k) : sn (rn t (ls t k - 1)) = true := by
  induction k with
  | zero => simp [ls] at h
  | succ k ih =>
    simp only [ls] at h ⊢
    split
    · rename_i c; simpa using c
    · rename_i c; rw [if_neg c] at h; exact ih h
/-- Where the last seen rune begins; -1: there is none. -/
def lsAt (t : ByteArray) (k : Nat) : Int := if ls t k = 0 then -1 else (it t (ls t k - 1) : Int)

/-- So many parts. -/
def scl (p n d : Int) : Int := if d ≤ 0 then 0 else Sc.mdv p n d
theorem scl_le (p n d : Int) : -1152921504606846976 ≤ scl p n d ∧ scl p n d ≤ 1152921504606846976 := by
  unfold scl
  split
  · omega
  · unfold Sc.mdv
    split
    · omega
    · exact Sc.cl_le _
/-- How wide a space is. -/
def glu (s : Sty) (num den : Int) : Int := s.sp + (if 0 < num then scl s.st num den else if num < 0 then scl s.sh num den else 0)
def gluP (s : Sty) (num den : Int) : Int := if 0 < num then ad s.sp (scl s.st num den) else if num < 0 then ad s.sp (scl s.sh num den) else s.sp
/-- How wide a rune of a line is. -/
def wdL (s : Sty) (num den r : Int) (within : Bool) : Int := if kd r ≠ 1 then wdS s r else if within = true then glu s num den else 0
def wdP (s : Sty) (num den r : Int) (within : Bool) : Int := if kd r ≠ 1 then wdS s r else if within = true then gluP s num den else 0
theorem bnd_sp {s : Sty} (h : Bnd s) : 0 ≤ s.sp ∧ s.sp ≤ 1048576 := by
  have h1 := h 32
  have e : wdS s 32 = s.sp := wdS_sp (Or.inl (by decide))
  rw [e] at h1
  exact h1
theorem ad_ad (x a b : Int) (ha : 0 ≤ a ∧ a ≤ 1048576) (hb : -1152921504606846976 ≤ b ∧ b ≤ 1152921504606846976) : ad x (ad a b) = ad x (a + b) := by
  unfold ad
  rw [cl_same a (by omega) (by omega), cl_same b (by omega) (by omega), cl_cl]
theorem ad_wd {s : Sty} (h : Bnd s) (x num den r : Int) (b : Bool) : ad x (wdP s num den r b) = ad x (wdL s num den r b) := by
  have hs := bnd_sp h
  have h1 := scl_le s.st num den
  have h2 := scl_le s.sh num den
  unfold wdP wdL
  split
  · rfl
  · split
    · unfold gluP glu
      split
      · exact ad_ad _ _ _ hs h1
      · split
        · exact ad_ad _ _ _ hs h2
        · rw [Int.add_zero]
    · rfl
/-- Where the runes of a line stand: G tells each style, N is how many runes it has. -/
def xs (G : Int → Sty) (L Y : Nat → Int) (m : Nat) (num den : Int) (t : ByteArray) (N : Nat) : Nat → Int
  | 0 => 0
  | k + 1 => ad (xs G L Y m num den t N k) (wdL (G (rs L Y m 0 (it t k))) num den (rn t k) (decide (k < ls t N)))
theorem xs_le (G : Int → Sty) (L Y : Nat → Int) (m : Nat) (num den : Int) (t : ByteArray) (N k : Nat) : -1152921504606846976 ≤ xs G L Y m num den t N k ∧ xs G L Y m num den t N k ≤ 1152921504606846976 := by
  cases k with
  | zero => simp [xs]
  | succ k => exact ad_le _ _
theorem wdL_like {s g : Sty} (h : Like s g) (num den r : Int) (b : Bool) : wdL g num den r b = wdL s num den r b := by
  unfold wdL glu
  rw [wdS_like h, h.sp, h.st, h.sh]
theorem xs_like {G K : Int → Sty} (h : ∀ a, Like (G a) (K a)) (L Y : Nat → Int) (m : Nat) (num den : Int) (t : ByteArray) (N k : Nat) : xs K L Y m num den t N k = xs G L Y m num den t N k := by
  induction k with
  | zero => rfl
  | succ k ih => simp only [xs]; rw [ih, wdL_like (h _)]
/-- Without glue that is set, no rune stands ahead of the one ahead of it. -/
theorem wd_pos {s : Sty} (h : Bnd s) (den r : Int) (b : Bool) : 0 ≤ wdL s 0 den r b := by
  have hs := bnd_sp h
  unfold wdL
  split
  · exact (h r).1
  · split
    · unfold glu; rw [if_neg (by omega), if_neg (by omega)]; omega
    · omega
theorem ad_up (x w : Int) (hx : -1152921504606846976 ≤ x ∧ x ≤ 1152921504606846976) (hw : 0 ≤ w) : x ≤ ad x w := by
  unfold ad
  rw [cl_same x hx.1 hx.2]
  have : 0 ≤ cl w := by
    by_cases c : w = 0
    · subst c; decide
    · have := (cl_pos w).2 (by omega); omega
  unfold cl at *
  split <;> (try split) <;> (repeat' split at this) <;> omega
theorem xs_up {G : Int → Sty} (h : ∀ a, Bnd (G a)) (L Y : Nat → Int) (m : Nat) (den : Int) (t : ByteArray) (N k : Nat) : xs G L Y m 0 den t N k ≤ xs G L Y m 0 den t N (k + 1) := by
  show _ ≤ ad _ _
  exact ad_up _ _ (xs_le _ _ _ _ _ _ _ _ _) (wd_pos (h _) _ _ _)
theorem xs_mono {G : Int → Sty} (h : ∀ a, Bnd (G a)) (L Y : Nat → Int) (m : Nat) (den : Int) (t : ByteArray) (N i j : Nat) (hij : i ≤ j) : xs G L Y m 0 den t N i ≤ xs G L Y m 0 den t N j := by
  induction j with
  | zero => have : i = 0 := by omega
            subst this; exact Int.le_refl _
  | succ j ih =>
    by_cases c : i = j + 1
    · subst c; exact Int.le_refl _
    · exact Int.le_trans (ih (by omega)) (xs_up h _ _ _ _ _ _ _)

/-- How many bytes the first lines have, and the first pages. -/
def lsz (F : Nat → Lne) : Nat → Nat
  | 0 => 0
  | k + 1 => lsz F k + (F k).tx.size
def psz (P : Nat → Pgv) : Nat → Nat
  | 0 => 0
  | p + 1 => psz P p + lsz (P p).F (P p).ln
theorem lsz_mono (F : Nat → Lne) (i j : Nat) (h : i ≤ j) : lsz F i ≤ lsz F j := by
  induction j with
  | zero => have : i = 0 := by omega
            subst this; exact Nat.le_refl _
  | succ j ih =>
    by_cases c : i = j + 1
    · subst c; exact Nat.le_refl _
    · have := ih (by omega); simp only [lsz]; omega
theorem psz_mono (P : Nat → Pgv) (i j : Nat) (h : i ≤ j) : psz P i ≤ psz P j := by
  induction j with
  | zero => have : i = 0 := by omega
            subst this; exact Nat.le_refl _
  | succ j ih =>
    by_cases c : i = j + 1
    · subst c; exact Nat.le_refl _
    · have := ih (by omega); simp only [psz]; omega
/-- The line k of the page p has the byte a: i of its bytes are ahead. -/
def InL (n : Nat) (P : Nat → Pgv) (a p k i : Nat) : Prop := p < n ∧ k < (P p).ln ∧ i < ((P p).F k).tx.size ∧ psz P p + lsz (P p).F k + i = a
theorem inl_lt {n : Nat} {P : Nat → Pgv} {a p k i : Nat} (h : InL n P a p k i) : a < psz P p + lsz (P p).F (k + 1) ∧ a < psz P (p + 1) ∧ psz P p ≤ a ∧ psz P p + lsz (P p).F k ≤ a := by
  obtain ⟨h1, h2, h3, h4⟩ := h
  have := lsz_mono (P p).F (k + 1) (P p).ln h2
  simp only [psz, lsz] at *
  omega
theorem inl_one {n : Nat} {P : Nat → Pgv} {a p k i p' k' i' : Nat} (h : InL n P a p k i) (g : InL n P a p' k' i') : p = p' ∧ k = k' ∧ i = i' := by
  have h1 := inl_lt h
  have g1 := inl_lt g
  have e : p = p' := by
    rcases Nat.lt_trichotomy p p' with c | c | c
    · have := psz_mono P (p + 1) p' c; omega
    · exact c
    · have := psz_mono P (p' + 1) p c; omega
  subst e
  have e : k = k' := by
    rcases Nat.lt_trichotomy k k' with c | c | c
    · have := lsz_mono (P p).F (k + 1) k' c; omega
    · exact c
    · have := lsz_mono (P p).F (k' + 1) k c; omega
  subst e
  exact ⟨rfl, rfl, by have := h.2.2.2; have := g.2.2.2; omega⟩
theorem inl_top {n : Nat} {P : Nat → Pgv} {a p k i : Nat} (h : InL n P a p k i) : a < psz P n := by
  have := inl_lt h
  have := psz_mono P (p + 1) n h.1
  omega
/-- The last line. -/
def LstL (n : Nat) (P : Nat → Pgv) (p k : Nat) : Prop := p < n ∧ k + 1 = (P p).ln ∧ ∀ q, p < q → q < n → (P q).ln = 0
theorem lst_one {n : Nat} {P : Nat → Pgv} {p k p' k' : Nat} (h : LstL n P p k) (g : LstL n P p' k') : p = p' ∧ k = k' := by
  have e : p = p' := by
    rcases Nat.lt_trichotomy p p' with c | c | c
    · have := h.2.2 p' c g.1; have := g.2.1; omega
    · exact c
    · have := g.2.2 p c h.1; have := h.2.1; omega
  subst e
  exact ⟨rfl, by have := h.2.1; have := g.2.1; omega⟩
/-- Which line has a byte. -/
def LnR (n : Nat) (P : Nat → Pgv) (a : Int) : Option (Nat × Nat × Nat) → Prop
  | some (p, k, i) => (0 ≤ a ∧ InL n P a.toNat p k i) ∨ (a = (psz P n : Int) ∧ LstL n P p k ∧ i = ((P p).F k).tx.size)
  | none => a < 0 ∨ (psz P n : Int) < a ∨ (a = (psz P n : Int) ∧ ∀ p, p < n → (P p).ln = 0)
theorem lnr_one {n : Nat} {P : Nat → Pgv} {a : Int} {r q : Option (Nat × Nat × Nat)} (h : LnR n P a r) (g : LnR n P a q) : r = q := by
  match r, q with
  | none, none => rfl
  | some (p, k, i), none =>
    exfalso
    rcases h with ⟨h0, h⟩ | ⟨h0, h, -⟩
    · have := inl_top h
      rcases g with g | g | ⟨g, -⟩ <;> omega
    · rcases g with g | g | ⟨-, g⟩
      · omega
      · omega
      · have := g p h.1; have := h.2.1; omega
  | none, some (p, k, i) =>
    exfalso
    rcases g with ⟨h0, h⟩ | ⟨h0, h, -⟩
    · have := inl_top h
      rename_i hh
      rcases hh with g | g | ⟨g, -⟩ <;> omega
    · rename_i hh
      rcases hh with g | g | ⟨-, g⟩
      · omega
      · omega
      · have := g p h.1; have := h.2.1; omega
  | some (p, k, i), some (p', k', i') =>
    rcases h with ⟨h0, h⟩ | ⟨h0, h, hi⟩
    · rcases g with ⟨g0, g⟩ | ⟨g0, g, gi⟩
      · obtain ⟨e1, e2, e3⟩ := inl_one h g
        rw [e1, e2, e3]
      · have := inl_top h; omega
    · rcases g with ⟨g0, g⟩ | ⟨g0, g, gi⟩
      · have := inl_top g; omega
      · obtain ⟨e1, e2⟩ := lst_one h g
        subst e1; subst e2; rw [hi, gi]
theorem lnr_in {n : Nat} {P : Nat → Pgv} {a p k i : Nat} (h : InL n P a p k i) : LnR n P (a : Int) (some (p, k, i)) := Or.inl ⟨by omega, by simpa using h⟩
/-- What is told of it. -/
def lnT : Option (Nat × Nat × Nat) → Value
  | some (p, k, i) => .tuple #[.int .i64 (p : Nat), .int .i64 (k : Nat), .int .i64 (i : Nat), .bool true]
  | none => .tuple #[.int .i64 0, .int .i64 0, .int .i64 0, .bool false]
/-- Where a line begins; false: there is none. -/
def ofsV (n : Nat) (P : Nat → Pgv) (p k : Int) : Value := if 0 ≤ p ∧ p < (n : Int) ∧ 0 ≤ k ∧ k < ((P p.toNat).ln : Int) then .tuple #[.int .i64 ((psz P p.toNat + lsz (P p.toNat).F k.toNat : Nat) : Int), .bool true] else .tuple #[.int .i64 0, .bool false]
theorem ofs_in (n : Nat) (P : Nat → Pgv) (p k : Nat) (hp : p < n) (hk : k < (P p).ln) : ofsV n P (p : Int) (k : Int) = .tuple #[.int .i64 ((psz P p + lsz (P p).F k : Nat) : Int), .bool true] := by
  unfold ofsV
  rw [if_pos (by simp; omega)]
  simp
end Go.Proofs.Ytcdcpmcjlchfgaa
