/-
  The page's example: what awake answers.
-/
import Derived.Test.YtmnnmnggakbipaaSa
namespace Go.Proofs.Ytmnnmnggakbipaa
open Go.RowKit
set_option linter.unusedSimpArgs false
set_option linter.unusedVariables false

theorem Stp.det {room : Int} {o : Opr} {l a b : List (Ky × Int)} (hn : (l.map (·.1)).Nodup) (h1 : Stp room o l a) (h2 : Stp room o l b) : a = b := by
  rcases h1 with ⟨c, rfl⟩ | ⟨c, h1⟩
  · rcases h2 with ⟨d, rfl⟩ | ⟨d, h2⟩
    · rfl
    · exact absurd d c
  · rcases h2 with ⟨d, rfl⟩ | ⟨d, h2⟩
    · exact absurd c d
    · rcases h1 with ⟨e, h1⟩ | ⟨e, x, h1⟩ | ⟨e, h1⟩ | ⟨e1, e2, e3, h1⟩ <;> rcases h2 with ⟨f, h2⟩ | ⟨f, y, h2⟩ | ⟨f, h2⟩ | ⟨f1, f2, f3, h2⟩ <;> first
        | exact PutR.det hn h1 h2
        | exact (GetR.det hn h1 h2).2
        | exact h1.trans h2.symm
        | (exfalso; omega)
def kz (t : ByteArray) : Kv := ⟨t, none, 0, 0, 0, 0, ⟨0, 0, 0, 0, 0, 0, 0⟩, fun _ => 0, fun _ => 0⟩
def Oa : Nat → Opr
  | 0 => ⟨0, kz ⟨#[97]⟩, 1⟩
  | 1 => ⟨0, kz ⟨#[98]⟩, 2⟩
  | 2 => ⟨1, kz ⟨#[97]⟩, 0⟩
  | _ => ⟨0, kz ⟨#[99]⟩, 3⟩
theorem kz_fits (t : ByteArray) (h : t.size ≤ 200) : Fits (kz t) := ⟨h, by simp [kz], fun i hi => by simp [kz] at hi⟩
theorem kz_ne {t u : ByteArray} (h : t ≠ u) : (kz t).ky ≠ (kz u).ky := fun c => h (by have := congrArg Ky.tx c; exact this)
theorem ab_ne : (⟨#[97]⟩ : ByteArray) ≠ ⟨#[98]⟩ := by decide
theorem ac_ne : (⟨#[97]⟩ : ByteArray) ≠ ⟨#[99]⟩ := by decide
theorem bc_ne : (⟨#[98]⟩ : ByteArray) ≠ ⟨#[99]⟩ := by decide
theorem pls_awake {l : List (Ky × Int)} (h : Pls 2 Oa 4 l) : l = [((kz ⟨#[99]⟩).ky, 3), ((kz ⟨#[97]⟩).ky, 1)] := by
  obtain ⟨l3, ⟨l2, ⟨l1, ⟨l0, h0, s0⟩, s1⟩, s2⟩, s3⟩ := h
  have h0 : l0 = [] := h0
  subst h0
  have e0 : Stp 2 (Oa 0) [] [((kz ⟨#[97]⟩).ky, 1)] := .inr ⟨kz_fits _ (by decide), .inl ⟨rfl, .inr ⟨by decide, .inr ⟨by simp, .inr ⟨by decide, rfl⟩⟩⟩⟩⟩
  obtain rfl := Stp.det (by simp) s0 e0
  have e1 : Stp 2 (Oa 1) [((kz ⟨#[97]⟩).ky, 1)] [((kz ⟨#[98]⟩).ky, 2), ((kz ⟨#[97]⟩).ky, 1)] := .inr ⟨kz_fits _ (by decide), .inl ⟨rfl, .inr ⟨by decide, .inr ⟨by intro p hp; simp at hp; subst hp; exact kz_ne ab_ne, .inr ⟨by decide, rfl⟩⟩⟩⟩⟩
  obtain rfl := Stp.det (by simp) s1 e1
  have e2 : Stp 2 (Oa 2) [((kz ⟨#[98]⟩).ky, 2), ((kz ⟨#[97]⟩).ky, 1)] [((kz ⟨#[97]⟩).ky, 1), ((kz ⟨#[98]⟩).ky, 2)] := .inr ⟨kz_fits _ (by decide), .inr (.inl ⟨rfl, some 1, .inl ⟨1, 1, rfl, rfl, rfl⟩⟩)⟩
  obtain rfl := Stp.det (by simp; exact kz_ne ab_ne.symm) s2 e2
  have e3 : Stp 2 (Oa 3) [((kz ⟨#[97]⟩).ky, 1), ((kz ⟨#[98]⟩).ky, 2)] [((kz ⟨#[99]⟩).ky, 3), ((kz ⟨#[97]⟩).ky, 1)] := .inr ⟨kz_fits _ (by decide), .inl ⟨rfl, .inr ⟨by decide, .inr ⟨by intro p hp; simp at hp; rcases hp with rfl | rfl <;> first | exact kz_ne ac_ne | exact kz_ne bc_ne, .inl ⟨by decide, rfl⟩⟩⟩⟩⟩
  exact Stp.det (by simp; exact kz_ne ab_ne) s3 e3
theorem ky_tx {a b : Kv} (h : a.ky = b.ky) : a.tx = b.tx := by have := congrArg Ky.tx h; exact this
theorem ops_awake (W : World) (b : Nat) (hb : b = W.heap.size) : OpsAt (W.alloc (.cells #[.int .i64 0, .string ⟨#[97]⟩, .slice none 0 0, .int .i64 0, .int .i64 0, .int .i64 0, .int .i64 0, .int .i64 0, .int .i64 0, .int .i64 0, .int .i64 0, .int .i64 0, .int .i64 1, .int .i64 0, .string ⟨#[98]⟩, .slice none 0 0, .int .i64 0, .int .i64 0, .int .i64 0, .int .i64 0, .int .i64 0, .int .i64 0, .int .i64 0, .int .i64 0, .int .i64 0, .int .i64 2, .int .i64 1, .string ⟨#[97]⟩, .slice none 0 0, .int .i64 0, .int .i64 0, .int .i64 0, .int .i64 0, .int .i64 0, .int .i64 0, .int .i64 0, .int .i64 0, .int .i64 0, .int .i64 0, .int .i64 0, .string ⟨#[99]⟩, .slice none 0 0, .int .i64 0, .int .i64 0, .int .i64 0, .int .i64 0, .int .i64 0, .int .i64 0, .int .i64 0, .int .i64 0, .int .i64 0, .int .i64 3] 69)) (some ⟨b, 0, none⟩) 4 Oa := by
  intro i hi
  obtain rfl | rfl | rfl | rfl : i = 0 ∨ i = 1 ∨ i = 2 ∨ i = 3 := by omega
  all_goals
    refine ⟨⟨fun j hj => absurd hj (Nat.not_lt_zero _), Nat.le_refl 0⟩, b, 0, rfl, ?_, ?_, ?_, ?_, ?_, ?_, ?_, ?_, ?_, ?_, ?_, ?_, ?_⟩ <;> (rw [cell_new _ _ _ _ _ hb]; rfl)
/-- Two keys in a row: their texts. -/
theorem kys_two {B : Nat} {w : World} {v : Value} {x y : Kv} (h : KysAt B w v [x, y]) : ∃ g c, v = .slice (some ⟨g, 0, none⟩) 2 c ∧ w.cell? ⟨g, 0, none⟩ = some (.string x.tx) ∧ w.cell? ⟨g, 11, none⟩ = some (.string y.tx) := by
  have hr := h.row
  rcases hr.2 with ⟨_, h2⟩ | ⟨g, cap, cur, e, _⟩
  · simp at h2
  · have e' : v = .slice (some ⟨g, 0, none⟩) 2 cap := e
    subst e'
    exact ⟨g, cap, rfl, hr.cellAt 0 (by decide), hr.cellAt 11 (by decide)⟩
set_option maxRecDepth 100000 in
set_option maxHeartbeats 4000000 in
theorem awake_of (hp : ∀ (w : World) (ao : Option Addr) (N lc0 : Nat) (O : Nat → Opr), OpsAt w ao N O → N ≤ maxLen → Calls Try.prog 10 #[.int .i64 2, .slice ao N lc0] w fun r w' => PldP w 2 O N r w') (w : World) :
    Calls Try.prog 9 #[] w fun r w' => r = .returned (.bool true) ∧ Below w.heap.size w w' := by
  have HP := boxed hp
  clear hp
  obtain ⟨W, hW⟩ : ∃ W, (((w.alloc (.cells #[.string ⟨#[97]⟩, .slice none 0 0, .int .i64 0, .int .i64 0, .int .i64 0, .int .i64 0, .int .i64 0, .int .i64 0, .int .i64 0, .int .i64 0, .int .i64 0] 42)).alloc (.cells #[.string ⟨#[98]⟩, .slice none 0 0, .int .i64 0, .int .i64 0, .int .i64 0, .int .i64 0, .int .i64 0, .int .i64 0, .int .i64 0, .int .i64 0, .int .i64 0] 42)).alloc (.cells #[.string ⟨#[99]⟩, .slice none 0 0, .int .i64 0, .int .i64 0, .int .i64 0, .int .i64 0, .int .i64 0, .int .i64 0, .int .i64 0, .int .i64 0, .int .i64 0] 42)) = W := ⟨_, rfl⟩
  have HQ := laid3 w (.cells #[.string ⟨#[97]⟩, .slice none 0 0, .int .i64 0, .int .i64 0, .int .i64 0, .int .i64 0, .int .i64 0, .int .i64 0, .int .i64 0, .int .i64 0, .int .i64 0] 42) (.cells #[.string ⟨#[98]⟩, .slice none 0 0, .int .i64 0, .int .i64 0, .int .i64 0, .int .i64 0, .int .i64 0, .int .i64 0, .int .i64 0, .int .i64 0, .int .i64 0] 42) (.cells #[.string ⟨#[99]⟩, .slice none 0 0, .int .i64 0, .int .i64 0, .int .i64 0, .int .i64 0, .int .i64 0, .int .i64 0, .int .i64 0, .int .i64 0, .int .i64 0] 42)
  rw [hW] at HQ
  obtain ⟨-, -, -, hB, hz⟩ := HQ
  have hzz : W.heap.size = w.heap.size + 1 + 1 + 1 := by omega
  have HOp := boxed (ops_awake W (w.heap.size + 1 + 1 + 1) hzz.symm)
  have HBW := boxed hB
  have HW := boxed hW
  clear hW hB
  go_enter Try.func9, Try.ntmps9
  go_wp2_with fail
  rw [HW.out]
  refine (HP.out _ _ 4 4 Oa HOp.out (by decide)).mono ?_
  rintro r w1 ⟨F, cb, mb, fo, mi, L, Bk, M, lo, n, lc, es, rfl, hca, hrs, hab, hn, hF, hb, hpl, hnum⟩
  have hl := pls_awake hpl
  have hn2 : n = 2 := by rw [hn]; have := congrArg List.length (hab.trans hl); simpa [abR] using this
  subst hn2
  have hkl : L.map (fun e => e.k.ky) = [(kz ⟨#[99]⟩).ky, (kz ⟨#[97]⟩).ky] := by have := congrArg (List.map (·.1)) hl; simpa [abL, Function.comp_def] using this
  have HKL := boxed hkl
  have hb1 : Below w.heap.size w w1 := below_step HBW.out (Nat.le_refl _) (((Below.refl _ _).alloc (Nat.le_refl _) _).trans (hb.mono (by simp)))
  obtain ⟨Z, hZ⟩ : ∃ Z, w1.alloc (.cells #[.int .i64 2, .slice lo 2 lc, .int .i64 fo, .int .i64 mi] 27) = Z := ⟨_, rfl⟩
  have hbZ : Below w1.heap.size w1 Z := by rw [← hZ]; exact (Below.refl _ _).alloc (Nat.le_refl _) _
  have HCa := boxed (hca.below hbZ)
  have HBZ := boxed (below_step hb1 (Nat.le_refl _) hbZ)
  have HZ := boxed hZ
  have hZh : Z.heap[w1.heap.size]? = some (.cells #[.int .i64 2, .slice lo 2 lc, .int .i64 fo, .int .i64 mi] 27 (0, 0)) := by rw [← hZ]; exact heap_alloc_new w1 _
  clear hrs hab hn hpl hl hkl hb1 hb hF hca HOp HBW HW HP hbZ hZ hnum
  go_upto_region 3 with fail
  rw [HZ.out]
  obtain ⟨l0, l1, l2, l3⟩ := cells4 hZh
  clear hZh HZ
  go_wp2_with fail
  refine (room_any HCa.out).mono ?_
  rintro r w2 ⟨rfl, rfl⟩
  go_wp2_with fail
  refine (keys_any _ F cb mb _ _ _ L Bk M HCa.out).mono ?_
  rintro r w3 ⟨v, ks, rfl, hks, hkm, hb3⟩
  rw [HKL.out] at hkm
  have HB3 := boxed (below_step HBZ.out (Nat.le_refl _) hb3)
  obtain ⟨x, y, rfl⟩ : ∃ x y, ks = [x, y] := by
    match ks, congrArg List.length hkm with
    | [x, y], _ => exact ⟨x, y, rfl⟩
  simp only [List.map_cons, List.map_nil] at hkm
  injection hkm with hx hkm
  injection hkm with hy hkm
  have tx := ky_tx hx
  have ty := ky_tx hy
  obtain ⟨g, c, rfl, c0, c1⟩ := kys_two hks
  rw [tx] at c0
  rw [ty] at c1
  unfold kz at c0 c1
  clear hx hy hkm hks hb3 tx ty HKL HCa HBZ l0 l1 l2 l3
  go_wp2
  go_ret
  exact ⟨rfl, HB3.out⟩
end Go.Proofs.Ytmnnmnggakbipaa
