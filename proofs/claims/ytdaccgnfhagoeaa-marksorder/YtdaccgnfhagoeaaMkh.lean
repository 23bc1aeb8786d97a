/-
  What the program's order tells of two marks, and what the library's sort makes of a row of marks.
-/
import Derived.Test.YtdaccgnfhagoeaaMkf
import Derived.Test.YtdaccgnfhagoeaaM
namespace Go.Proofs.Ytdaccgnfhagoeaa
open Go.RowKit Go.Shelf
set_option linter.unusedSimpArgs false
set_option linter.unusedVariables false

def cpv (a b : Int) : Int := if a < b then -1 else if b < a then 1 else 0
theorem isnan_any (a : Int) (w : World) : Calls Try.prog 54 #[.int .i64 a] w fun e w' => e = .returned (.bool false) ∧ w' = w := by
  go_enter Try.func54, Try.ntmps54
  go_wp2_with fail
  go_ret
  exact ⟨by first | rfl | simp, rfl⟩
set_option maxRecDepth 100000 in
set_option maxHeartbeats 1000000 in
theorem compare16_any (a b : Int) (w : World) : Calls Try.prog 43 #[.int .i64 a, .int .i64 b] w fun e w' => e = .returned (.int .i64 (cpv a b)) ∧ w' = w := by
  unfold cpv
  by_cases h1 : a < b
  · rw [if_pos h1]
    have t1 : decide (a < b) = true := decide_eq_true h1
    clear h1
    go_enter Try.func43, Try.ntmps43
    go_wp2_with (go_at_call 54; refine (isnan_any _ _).mono ?_; rintro e w' ⟨rfl, hw'⟩; subst w')
    go_ret
    exact ⟨rfl, rfl⟩
  · rw [if_neg h1]
    have t1 : decide (a < b) = false := decide_eq_false h1
    by_cases h2 : b < a
    · rw [if_pos h2]
      have t2 : decide (b < a) = true := decide_eq_true h2
      clear h1 h2
      go_enter Try.func43, Try.ntmps43
      go_wp2_with (go_at_call 54; refine (isnan_any _ _).mono ?_; rintro e w' ⟨rfl, hw'⟩; subst w')
      go_ret
      exact ⟨rfl, rfl⟩
    · rw [if_neg h2]
      have t2 : decide (b < a) = false := decide_eq_false h2
      clear h1 h2
      go_enter Try.func43, Try.ntmps43
      go_wp2_with (go_at_call 54; refine (isnan_any _ _).mono ?_; rintro e w' ⟨rfl, hw'⟩; subst w')
      go_ret
      exact ⟨rfl, rfl⟩
def cf (x y : Mk) : Int := if x.pl = y.pl then cpv x.id y.id else cpv x.pl y.pl
set_option maxRecDepth 100000 in
set_option maxHeartbeats 1000000 in
theorem order_any (x y : Mk) (w : World) : Calls Try.prog 27 #[.agg #[.int .i64 x.id, .int .i64 x.pl, .bool x.st], .agg #[.int .i64 y.id, .int .i64 y.pl, .bool y.st]] w fun e w' => e = .returned (.int .i64 (cf x y)) ∧ ∃ q os', w' = Go.Sort.grow (w.drewN q) os' := by
  obtain ⟨i, p, s⟩ := x
  obtain ⟨j, r, t⟩ := y
  have hc := fun a b w => compare16_any a b w
  unfold cf
  simp only
  by_cases h : p = r
  · have HC := fun w => hc i j w
    rw [if_pos h]
    subst h
    generalize cpv i j = V at *
    clear hc
    go_enter Try.func27, Try.ntmps27
    go_wp2_with fail
    refine (HC _).mono ?_
    rintro e w1 ⟨rfl, hw1⟩
    have HB : Box (∃ q os', w1 = Go.Sort.grow (w.drewN q) os') := boxed (by subst hw1; exact ⟨0, _, by rw [Go.Sort.alloc_eq_grow, Go.Sort.alloc_eq_grow, Go.Sort.grow_grow]; rfl⟩)
    clear hw1
    go_wp2_with fail
    go_ret
    exact ⟨rfl, HB.out⟩
  · have HC := fun w => hc p r w
    rw [if_neg h]
    have t1 : decide (p = r) = false := decide_eq_false h
    generalize cpv p r = V at *
    clear hc
    go_enter Try.func27, Try.ntmps27
    go_wp2_with fail
    refine (HC _).mono ?_
    rintro e w1 ⟨rfl, hw1⟩
    have HB : Box (∃ q os', w1 = Go.Sort.grow (w.drewN q) os') := boxed (by subst hw1; exact ⟨0, _, by rw [Go.Sort.alloc_eq_grow, Go.Sort.alloc_eq_grow, Go.Sort.grow_grow]; rfl⟩)
    clear hw1
    go_wp2_with fail
    go_ret
    exact ⟨rfl, HB.out⟩
theorem cmpLays16 (blk off size : Nat) (w : World) : CmpLays Try.prog 27 #[] Mk.cs 3 cf blk off size w := fun _ _ _ _ x y => order_any x y _
theorem ltOf_lt (x y : Mk) : ltOf cf x y = lt x y := by
  unfold ltOf cf cpv lt
  by_cases h : x.pl = y.pl
  · rw [if_pos h]
    by_cases h1 : x.id < y.id
    · simp [h, h1]
    · by_cases h2 : y.id < x.id <;> simp [h, h1, h2]
  · rw [if_neg h]
    by_cases h1 : x.pl < y.pl
    · simp [h, h1]
    · by_cases h2 : y.pl < x.pl <;> simp [h, h1, h2]
theorem swo16 : Go.Sort.SWO (ltOf cf) where
  irrefl x := by rw [ltOf_lt, lt_no]; omega
  trans x y z h1 h2 := by rw [ltOf_lt, lt_iff] at *; omega
  ntrans x y z h1 h2 := by rw [ltOf_lt, lt_no] at *; omega
/-- The cells of marks, as the sort's row holds them. -/
theorem flat16 (d : Array Mk) : Go.Sort.flatK Mk.cs 3 d = (mcs d.toList).toArray := by
  refine Go.Sort.ext_get! (by rw [Go.Sort.size_flatK]; simp [mcs_len]) fun t ht => ?_
  have ht' : t < d.size * 3 := by simpa using ht
  rw [Go.Sort.get_flatK _ _ _ _ ht']
  obtain ⟨i, r, hr, rfl⟩ : ∃ i r, r < 3 ∧ t = i * 3 + r := ⟨t / 3, t % 3, by omega, by omega⟩
  have hi : i < d.size := by omega
  have h1 : (i * 3 + r) / 3 = i := by omega
  have h2 : (i * 3 + r) % 3 = r := by omega
  rw [h1, h2, getElem!_pos d i hi]
  obtain ⟨c0, c1, c2⟩ := mcs_get d.toList i (by simpa using hi)
  have hg : ∀ k v, (mcs d.toList)[k]? = some v → (mcs d.toList).toArray[k]! = v := fun k v h => by
    obtain ⟨hk, e⟩ := List.getElem?_eq_some_iff.1 h
    rw [getElem!_pos _ k (by simpa using hk)]
    simpa using e
  match r, hr with
  | 0, _ => rw [Nat.add_zero, hg _ _ c0]; rfl
  | 1, _ => rw [hg _ _ c1]; rfl
  | 2, _ => rw [hg _ _ c2]; rfl
theorem extract_all (d : Array Mk) : (d.extract 0 d.size).toList = d.toList := by simp
/-- What the library's sort makes of a row of marks. -/
theorem sort16_any (g cap : Nat) (L : List Mk) (w : World) (hg : w.heap[g]? = some (.cells (mcs L).toArray 36 (0, 0))) (hn : L.length ≤ 1000000) (hr : L.Pairwise (fun x y => x.id < y.id)) :
    Calls Try.prog 26 #[.slice (some ⟨g, 0, none⟩) L.length cap, .func (.func 27) #[] #[]] w fun e w' => e = .returned (.tuple #[]) ∧ w'.heap[g]? = some (.cells (mcs (srt L)).toArray 36 (0, 0)) ∧ Chg (fun b => b = g) w w' := by
  have hH : Go.Sort.HoldsK Mk.cs 3 w g 0 L.toArray := by
    intro j hj
    rw [flat16] at hj ⊢
    have hj' : j < (mcs L).length := by simpa using hj
    refine ⟨?_, row_free hg _⟩
    rw [cell_of_row _ _ _ _ _ _ hg, Nat.zero_add]
    show _ = some ((mcs L).toArray[j]!)
    rw [getElem!_pos _ j (by simpa using hj')]
    exact Array.getElem?_eq_getElem (by simpa using hj')
  have eg : ∀ args w, (callFunc 27 args).run Try.prog w = .ok (.enter 27 args) w := enters_of Try.func27 (by kernel_rfl) rfl
  have hcon := AnyQ.slices_SortFunc Try.sortMk 3 Try.isAgg36 Try.sizeOf36 Mk.cs (fun _ => rfl) (fun x v hv => by simp [Mk.cs] at hv; rcases hv with rfl | rfl | rfl <;> rfl) cf swo16 27 #[] g 0 cap L.toArray w eg (cmpLays16 g 0 L.toArray.size w) hH (heap_lt hg) (by simp; omega)
  have hcon' : Calls Try.prog 26 #[.slice (some ⟨g, 0, none⟩) L.toArray.size cap, .func (.func 27) #[] #[]] w _ := hcon
  rw [show L.toArray.size = L.length by simp] at hcon'
  refine hcon'.mono ?_
  rintro e w' ⟨rfl, d', n, os, hp, hs, rfl⟩
  have hsz : d'.size = L.length := by rw [hp.1]; simp
  have hperm : d'.toList.Perm L := by
    have h3 := hp.2.2
    rw [show d'.extract 0 L.length = d'.extract 0 d'.size by rw [hsz], show L.toArray.extract 0 L.length = L.toArray.extract 0 L.toArray.size by simp, extract_all, extract_all] at h3
    simpa using h3
  have hsr : Srtd d'.toList := by
    unfold Srtd
    rw [List.pairwise_iff_getElem]
    intro i j hi hj hij
    have h4 := hs i j (Nat.zero_le _) hij (by simpa [hsz] using hj)
    rw [ltOf_lt, getElem!_pos d' j (by simpa using hj), getElem!_pos d' i (by simpa using hi)] at h4
    simpa using h4
  have hfin := srt_of hr hperm hsr
  have hfl : Go.Sort.flatK Mk.cs 3 d' = (mcs (srt L)).toArray := by rw [flat16, hfin]
  have hput : (Go.Sort.putRowK Mk.cs 3 (Go.Sort.ahead w n) g 0 d').heap = w.heap.modify g (Go.Sort.onCells (Go.Sort.putCells id 0 (mcs (srt L)).toArray)) := by
    unfold Go.Sort.putRowK
    rw [hfl]
    rfl
  have hcells : Go.Sort.putCells id 0 (mcs (srt L)).toArray (mcs L).toArray = (mcs (srt L)).toArray := by
    have hl : (mcs (srt L)).length = (mcs L).length := by rw [mcs_len, mcs_len, srt_len]
    refine Go.Sort.ext_get! (by simp [Go.Sort.putCells, hl]) fun t ht => ?_
    have ht1 : t < (mcs L).length := by simpa [Go.Sort.putCells] using ht
    rw [getElem!_pos _ t ht]
    simp only [Go.Sort.putCells, Array.getElem_mapIdx]
    rw [if_pos ⟨Nat.zero_le _, by simpa [hl] using ht1⟩, Nat.sub_zero]
    rfl
  have hlt := heap_lt hg
  refine ⟨rfl, ?_, ⟨rfl, rfl, rfl, ?_, ?_⟩⟩
  · unfold sortWorldK Go.Sort.grow
    show ((Go.Sort.putRowK Mk.cs 3 (Go.Sort.ahead w n) g 0 d').heap ++ os)[g]? = _
    rw [hput, Array.getElem?_append_left (by simpa using hlt), Array.getElem?_modify, if_pos rfl, hg]
    simp [Go.Sort.onCells, hcells]
  · unfold sortWorldK Go.Sort.grow
    show w.heap.size ≤ ((Go.Sort.putRowK Mk.cs 3 (Go.Sort.ahead w n) g 0 d').heap ++ os).size
    rw [hput]; simp
  · intro k hk hne
    unfold sortWorldK Go.Sort.grow
    show ((Go.Sort.putRowK Mk.cs 3 (Go.Sort.ahead w n) g 0 d').heap ++ os)[k]? = _
    rw [hput, Array.getElem?_append_left (by simpa using hk), Array.getElem?_modify, if_neg (fun e => hne e.symm)]
end Go.Proofs.Ytdaccgnfhagoeaa
