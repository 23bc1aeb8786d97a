/-
  Plain facts of a text's items: their bytes are the text's, one behind the other; they are such as may be; they are as wide as the runes together. And: how styles are cut into runs doesn't matter. No program in it.
-/
import Derived.Test.YteckbkcngkppmaaJu
namespace Go.Proofs.Yteckbkcngkppmaa
open Go.RowKit
set_option linter.unusedSimpArgs false
set_option linter.unusedVariables false

/-- From a to e, one behind the other. -/
def chn : Int → List Itm → Int → Prop
  | a, [], e => a = e
  | a, x :: r, e => x.fr = a ∧ x.fr ≤ x.to ∧ chn x.to r e
theorem chn_app (a : Int) (L M : List Itm) (e : Int) : chn a (L ++ M) e ↔ ∃ c, chn a L c ∧ chn c M e := by
  induction L generalizing a with
  | nil => simp [chn]
  | cons x r ih =>
    simp only [List.cons_append, chn, ih]
    constructor
    · rintro ⟨h1, h2, c, h3, h4⟩; exact ⟨c, ⟨h1, h2, h3⟩, h4⟩
    · rintro ⟨c, ⟨h1, h2, h3⟩, h4⟩; exact ⟨h1, h2, c, h3, h4⟩
theorem chn_le (a : Int) (L : List Itm) (e : Int) (h : chn a L e) : a ≤ e := by
  induction L generalizing a with
  | nil => exact Int.le_of_eq h
  | cons x r ih =>
    obtain ⟨h1, h2, h3⟩ := h
    have := ih _ h3
    omega
theorem nth_cons (x : Itm) (r : List Itm) (i : Nat) : nth (x :: r) (i + 1) = nth r i := by simp [nth]
theorem chn_nth (a : Int) (L : List Itm) (e : Int) (h : chn a L e) : ∀ i, i < L.length → (nth L i).fr = (if i = 0 then a else (nth L (i - 1)).to) ∧ (nth L i).fr ≤ (nth L i).to ∧ (nth L i).to ≤ e := by
  induction L generalizing a with
  | nil => intro i hi; simp at hi
  | cons x r ih =>
    intro i hi
    obtain ⟨h1, h2, h3⟩ := h
    cases i with
    | zero => exact ⟨h1, h2, chn_le _ _ _ h3⟩
    | succ i =>
      obtain ⟨g1, g2, g3⟩ := ih _ h3 i (by simpa using hi)
      rw [nth_cons]
      refine ⟨?_, g2, g3⟩
      rw [if_neg (Nat.succ_ne_zero i), g1]
      cases i with
      | zero => simp [nth]
      | succ i => simp [nth]
theorem nth_mem (L : List Itm) (i : Nat) (h : i < L.length) : nth L i ∈ L := by
  unfold nth
  rw [List.getD_eq_getElem?_getD, List.getElem?_eq_getElem h]
  exact List.getElem_mem h
/-- How wide items are together. -/
def wsm : List Itm → Int
  | [] => 0
  | x :: r => (if x.k = 3 then 0 else x.w) + wsm r
theorem wsm_app (L M : List Itm) : wsm (L ++ M) = wsm L + wsm M := by
  induction L with
  | nil => simp [wsm]
  | cons x r ih => simp only [List.cons_append, wsm, ih]; omega
theorem wsm_one (x : Itm) : wsm [x] = if x.k = 3 then 0 else x.w := by simp [wsm]

/-- Items that may be, up to a place. -/
structure Pi (L : List Itm) (a S M : Int) : Prop where
  ch : chn 0 L a
  ok : ∀ x ∈ L, msd x = true ∧ ofk x = true
  sm : wsm L = S
  wd : ∀ x ∈ L, x.k = 1 → x.w ≤ M
theorem Pi.snoc {L : List Itm} {a S M : Int} (h : Pi L a S M) (x : Itm) (hf : x.fr = a) (ht : x.fr ≤ x.to) (h1 : msd x = true) (h2 : ofk x = true) (S' M' : Int) (hS : S' = S + if x.k = 3 then 0 else x.w) (hM : M ≤ M') (hw : x.k = 1 → x.w ≤ M') : Pi (L ++ [x]) x.to S' M' := by
  refine ⟨(chn_app _ _ _ _).2 ⟨a, h.ch, hf, ht, rfl⟩, ?_, ?_, ?_⟩
  · intro y hy
    rcases List.mem_append.1 hy with hy | hy
    · exact h.ok y hy
    · simp at hy; subst hy; exact ⟨h1, h2⟩
  · rw [wsm_app, wsm_one, h.sm, hS]
  · intro y hy hk
    rcases List.mem_append.1 hy with hy | hy
    · exact Int.le_trans (h.wd y hy hk) hM
    · simp at hy; subst hy; exact hw hk
theorem Pi.mono {L : List Itm} {a S M M' : Int} (h : Pi L a S M) (hM : M ≤ M') : Pi L a S M' := ⟨h.ch, h.ok, h.sm, fun x hx hk => Int.le_trans (h.wd x hx hk) hM⟩
theorem msd_mk (x : Itm) (h1 : 0 ≤ x.w ∧ x.w ≤ 68719476736) (h2 : 0 ≤ x.st ∧ x.st ≤ 68719476736) (h3 : 0 ≤ x.sh ∧ x.sh ≤ 68719476736) (h4 : x.sh ≤ x.w) : msd x = true := by
  simp [msd, ms]; omega
theorem msd_w {x : Itm} (h : msd x = true) : 0 ≤ x.w ∧ x.w ≤ 68719476736 := by
  simp [msd, ms] at h; omega
theorem Pi.bxd {L : List Itm} {f S M : Int} (h : Pi L f S M) (sy W y g : Int) (hW : 0 ≤ W ∧ W ≤ 1048576) (hg : f ≤ g) (hM0 : 0 ≤ M) (hM : M ≤ 34359738368) : Pi (bxd L sy W y f g) g (S + W) (M + 1048576) := by
  unfold Go.Proofs.Yteckbkcngkppmaa.bxd
  by_cases c : lbox L = true ∧ sy = y
  · rw [if_pos c]
    obtain ⟨A, x, rfl, hx⟩ := lbox_pos L c.1
    rw [grow_snoc]
    obtain ⟨c1, hc1, hc2⟩ := (chn_app _ _ _ _).1 h.ch
    obtain ⟨e1, e2, e3⟩ := hc2
    have e3' : x.to = f := e3
    have hxm : x ∈ A ++ [x] := by simp
    obtain ⟨o1, o2⟩ := h.ok x hxm
    have hw := msd_w o1
    have hwM := h.wd x hxm hx
    have had : ad x.w W = x.w + W := ad_in _ _ hw.1 hW.1 (by omega)
    have hsm := h.sm
    rw [wsm_app, wsm_one, if_neg (by omega)] at hsm
    have hok : x.st = 0 ∧ x.sh = 0 ∧ x.c = 0 ∧ x.fill = false ∧ x.flag = false := by
      unfold ofk at o2
      rw [if_pos hx] at o2
      simp at o2
      exact ⟨o2.1.1.1.1, o2.1.1.1.2, o2.1.1.2, o2.1.2, o2.2⟩
    refine ⟨(chn_app _ _ _ _).2 ⟨c1, hc1, e1, by show x.fr ≤ g; omega, rfl⟩, ?_, ?_, ?_⟩
    · intro z hz
      rcases List.mem_append.1 hz with hz | hz
      · exact h.ok z (List.mem_append_left _ hz)
      · simp at hz
        subst hz
        refine ⟨msd_mk _ (by show 0 ≤ ad x.w W ∧ ad x.w W ≤ 68719476736; omega) (by show 0 ≤ x.st ∧ x.st ≤ 68719476736; omega) (by show 0 ≤ x.sh ∧ x.sh ≤ 68719476736; omega) (by show x.sh ≤ ad x.w W; omega), ?_⟩
        unfold ofk
        rw [if_pos hx]
        simp [hok]
    · rw [wsm_app, wsm_one, if_neg (by show ¬ x.k = 3; omega)]
      show wsm A + ad x.w W = _
      omega
    · intro z hz hk
      rcases List.mem_append.1 hz with hz | hz
      · have := h.wd z (List.mem_append_left _ hz) hk; omega
      · simp at hz; subst hz
        show ad x.w W ≤ _
        omega
  · rw [if_neg c]
    exact h.snoc (bxI W f g) rfl hg (msd_mk _ (by show 0 ≤ W ∧ W ≤ 68719476736; omega) (by show (0:Int) ≤ 0 ∧ (0:Int) ≤ 68719476736; omega) (by show (0:Int) ≤ 0 ∧ (0:Int) ≤ 68719476736; omega) (by show (0:Int) ≤ W; omega)) rfl _ _ (by rw [if_neg (by show ¬ (1:Int) = 3; omega)]; rfl) (by omega) (fun _ => by show W ≤ _; omega)
/-- A style's measures are such as may be. -/
structure StB (s : Sty) : Prop where
  sp : 0 ≤ s.sp ∧ s.sp ≤ 1048576
  st : 0 ≤ s.st ∧ s.st ≤ 1048576
  sh : 0 ≤ s.sh ∧ s.sh ≤ 1048576
  hy : 0 ≤ s.hy ∧ s.hy ≤ 1048576
  le : s.sh ≤ s.sp
  wd : Bnd s
theorem flt_stb {s : Sty} (h : flt s = 0) : StB s := by
  have hb := flt_bnd h
  unfold flt at h
  split at h
  · rename_i c
    simp [msr, un] at c
    exact ⟨by omega, by omega, by omega, by omega, by omega, hb⟩
  · omega
theorem ofS_stb {F : Nat → Sty} {n : Nat} (hg : ∀ i, i < n → flt (F i) = 0) (a : Int) : StB (ofS F n a) := by
  unfold ofS
  split
  · rename_i c; exact flt_stb (hg _ (by omega))
  · exact ⟨by simp [zeroS], by simp [zeroS], by simp [zeroS], by simp [zeroS], by simp [zeroS], zeroS_bnd⟩
theorem Pi.nx {L : List Itm} {f S M : Int} (h : Pi L f S M) {s : Sty} (hs : StB s) (sy r y g : Int) (hg : f ≤ g) (hM0 : 0 ≤ M) (hM : M ≤ 34359738368) : Pi (nx s L sy r y f g).1 g (S + wdS s r) (M + 1048576) := by
  have hw := hs.wd r
  have h9 := kd_nine r
  have z : (0 : Int) ≤ 0 ∧ (0 : Int) ≤ 68719476736 := by omega
  unfold Go.Proofs.Yteckbkcngkppmaa.nx
  by_cases k1 : kd r = 1
  · rw [if_pos k1, wdS_sp (Or.inl k1)]
    have := hs.sp; have := hs.st; have := hs.sh
    exact h.snoc (glI s.sp s.st s.sh f g) rfl hg (msd_mk _ (by show 0 ≤ s.sp ∧ s.sp ≤ 68719476736; omega) (by show 0 ≤ s.st ∧ s.st ≤ 68719476736; omega) (by show 0 ≤ s.sh ∧ s.sh ≤ 68719476736; omega) hs.le) rfl _ _ (by rw [if_neg (by show ¬ (2:Int) = 3; omega)]; rfl) (by omega) (fun c => by exact absurd c (by show ¬ (2:Int) = 1; omega))
  rw [if_neg k1]
  by_cases k3 : kd r = 3
  · rw [if_pos k3, wdS_no (by omega)]
    have := hs.hy
    exact h.snoc (pnI s.hy 50 true f g) rfl hg (msd_mk _ (by show 0 ≤ s.hy ∧ s.hy ≤ 68719476736; omega) z z (by show (0:Int) ≤ s.hy; omega)) rfl _ _ (by simp [pnI]) (by omega) (fun c => by exact absurd c (by show ¬ (3:Int) = 1; omega))
  rw [if_neg k3]
  by_cases k4 : kd r = 4
  · rw [if_pos k4, wdS_no (by omega)]
    exact h.snoc (pnI 0 0 false f g) rfl hg (msd_mk _ z z z (Int.le_refl _)) rfl _ _ (by simp [pnI]) (by omega) (fun c => by exact absurd c (by show ¬ (3:Int) = 1; omega))
  rw [if_neg k4]
  by_cases k5 : kd r = 5
  · rw [if_pos k5, wdS_no (by omega)]
    exact h.snoc (pnI 0 10000 false f g) rfl hg (msd_mk _ z z z (Int.le_refl _)) rfl _ _ (by simp [pnI]) (by omega) (fun c => by exact absurd c (by show ¬ (3:Int) = 1; omega))
  rw [if_neg k5]
  by_cases k7 : kd r = 7 ∨ kd r = 8
  · rw [if_pos k7, wdS_no (by omega)]
    have e : L ++ [flI f, pnI 0 (-10000) false f g] = (L ++ [flI f]) ++ [pnI 0 (-10000) false f g] := by simp
    rw [e]
    have h1 := h.snoc (flI f) rfl (Int.le_refl _) (msd_mk _ z z z (Int.le_refl _)) rfl (S + 0) M (by rw [if_neg (by show ¬ (2:Int) = 3; omega)]; rfl) (Int.le_refl _) (fun c => by exact absurd c (by show ¬ (2:Int) = 1; omega))
    exact h1.snoc (pnI 0 (-10000) false f g) rfl hg (msd_mk _ z z z (Int.le_refl _)) rfl _ _ (by simp [pnI]) (by omega) (fun c => by exact absurd c (by show ¬ (3:Int) = 1; omega))
  rw [if_neg k7]
  by_cases k6 : kd r = 6
  · rw [if_pos k6]
    have h1 := h.bxd sy (wdS s r) y g hw hg hM0 hM
    exact h1.snoc (pnI 0 50 true g g) rfl (Int.le_refl _) (msd_mk _ z z z (Int.le_refl _)) rfl _ _ (by simp [pnI]) (Int.le_refl _) (fun c => by exact absurd c (by show ¬ (3:Int) = 1; omega))
  rw [if_neg k6]
  exact h.bxd sy (wdS s r) y g hw hg hM0 hM
/-- How wide the first k runes are together. -/
def rsm (F : Nat → Sty) (n : Nat) (t : ByteArray) (Y : Nat → Int) : Nat → Int
  | 0 => 0
  | k + 1 => rsm F n t Y k + wdS (ofS F n (Y (it t k))) (rn t k : Nat)
theorem bs_pi {F : Nat → Sty} {n : Nat} (hg : ∀ i, i < n → flt (F i) = 0) (t : ByteArray) (Y : Nat → Int) (k : Nat) (hk : k ≤ 8192) : Pi (bs F n t Y k).1 (it t k : Nat) (rsm F n t Y k) (1048576 * (k : Int)) := by
  induction k with
  | zero => exact ⟨rfl, fun x hx => by simp [bs] at hx, rfl, fun x hx => by simp [bs] at hx⟩
  | succ k ih =>
    have h1 := ih (by omega)
    have h2 := h1.nx (ofS_stb hg (Y (it t k))) (bs F n t Y k).2 (rn t k : Nat) (Y (it t k)) (it t (k + 1) : Nat) (by simp only [it]; omega) (by omega) (by omega)
    have e : 1048576 * ((k : Int) + 1) = 1048576 * (k : Int) + 1048576 := by omega
    simp only [bs, rsm]
    rw [show ((k + 1 : Nat) : Int) = (k : Int) + 1 from rfl, e]
    exact h2
theorem fin_pi {F : Nat → Sty} {n : Nat} (hg : ∀ i, i < n → flt (F i) = 0) (t : ByteArray) (Y : Nat → Int) (N : Nat) (hN : Right t N) (hk : N ≤ 8192) (h0 : 0 < t.size) : Pi (fin F n t Y N) (t.size : Nat) (rsm F n t Y N) (1048576 * (N : Int)) ∧ ∃ A x, fin F n t Y N = A ++ [x] ∧ forc x = true := by
  have h := bs_pi hg t Y N hk
  rw [hN.2] at h
  have z : (0 : Int) ≤ 0 ∧ (0 : Int) ≤ 68719476736 := by omega
  unfold fin
  by_cases c : bt t (t.size - 1) = 10
  · rw [if_pos c]
    refine ⟨h, ?_⟩
    obtain ⟨j, hj, e, hr⟩ := nl_rune t N (t.size - 1) hN (by omega) c
    have hj1 : j + 1 = N := by
      have := rune_nl t N j hN.1 hj hr
      exact it_inj t N hN (j + 1) N (by omega) (Nat.le_refl _) (by rw [this.2, e, hN.2]; omega)
    subst hj1
    have hk8 : kd ((rn t j : Nat) : Int) = 8 := (kd_8 _).2 (by omega)
    refine ⟨(bs F n t Y j).1 ++ [flI (it t j : Nat)], pnI 0 (-10000) false (it t j : Nat) (it t (j + 1) : Nat), ?_, rfl⟩
    simp only [bs]
    unfold nx
    rw [if_neg (by omega), if_neg (by omega), if_neg (by omega), if_neg (by omega), if_pos (by omega)]
    simp
  · rw [if_neg c]
    have e : (bs F n t Y N).1 ++ [flI (t.size : Nat), pnI 0 (-10000) false (t.size : Nat) (t.size : Nat)] = ((bs F n t Y N).1 ++ [flI (t.size : Nat)]) ++ [pnI 0 (-10000) false (t.size : Nat) (t.size : Nat)] := by simp
    rw [e]
    have h1 := h.snoc (flI (t.size : Nat)) rfl (Int.le_refl _) (msd_mk _ z z z (Int.le_refl _)) rfl (rsm F n t Y N + 0) _ (by rw [if_neg (by show ¬ (2:Int) = 3; omega)]; rfl) (Int.le_refl _) (fun c => by exact absurd c (by show ¬ (2:Int) = 1; omega))
    exact ⟨h1.snoc (pnI 0 (-10000) false (t.size : Nat) (t.size : Nat)) rfl (Int.le_refl _) (msd_mk _ z z z (Int.le_refl _)) rfl _ _ (by simp [pnI]) (Int.le_refl _) (fun c => by exact absurd c (by show ¬ (3:Int) = 1; omega)), _, _, rfl, rfl⟩
theorem fin_len (F : Nat → Sty) (n : Nat) (t : ByteArray) (Y : Nat → Int) (N : Nat) : (fin F n t Y N).length ≤ 2 * N + 2 := by
  have := bs_len F n t Y N
  unfold fin
  split
  · omega
  · simp; omega
/-- A text's items may be a paragraph's. -/
theorem fin_rgt {F : Nat → Sty} {n : Nat} (hg : ∀ i, i < n → flt (F i) = 0) (t : ByteArray) (Y : Nat → Int) (N : Nat) (hN : Right t N) (hs : t.size ≤ 8192) (h0 : 0 < t.size) :
    rgt (nth (fin F n t Y N)) (fin F n t Y N).length = true ∧ 0 < (fin F n t Y N).length ∧ (nth (fin F n t Y N) ((fin F n t Y N).length - 1)).to = (t.size : Nat) ∧ wsm (fin F n t Y N) = rsm F n t Y N := by
  have hNs : N ≤ t.size := by have h1 := cnt_le t N hN.1; have h2 := it_le t N; omega
  obtain ⟨hp, A, x, hA, hx⟩ := fin_pi hg t Y N hN (by omega) h0
  have hl := fin_len F n t Y N
  have hlast : nth (fin F n t Y N) ((fin F n t Y N).length - 1) = x := by rw [hA]; simp [nth]
  have hpos : 0 < (fin F n t Y N).length := by rw [hA]; simp
  have hcn := chn_nth 0 _ _ hp.ch
  refine ⟨(rgt_iff _ _).2 ⟨hpos, by omega, by rw [hlast]; exact hx, ?_⟩, hpos, ?_, hp.sm⟩
  · intro i hi
    obtain ⟨g1, g2, g3⟩ := hcn i hi
    obtain ⟨o1, o2⟩ := hp.ok _ (nth_mem _ i hi)
    unfold okI pto
    rw [← g1]
    simp [o1, o2]
    omega
  · rw [hlast]
    have := hp.ch
    rw [hA] at this
    obtain ⟨c, _, _, _, h3⟩ := (chn_app _ _ _ _).1 this
    exact h3
end Go.Proofs.Yteckbkcngkppmaa
