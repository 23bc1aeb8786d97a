/-
  Plain facts for the law of the size: rows of one byte alone, as texts.
-/
import Derived.Deep.OwnRows
import Derived.Test.YtfikmlgmklnlaabXg
namespace Go.Proofs.Ytfikmlgmklnlaab
open Go.RowKit
set_option linter.unusedSimpArgs false
set_option linter.unusedVariables false

theorem info_byte1 : (Try.prog.info? 5).map (fun i => (i.zero, i.size, i.bytes)) = some (some (.int .u8 0), 1, 1) := by kernel_rfl
theorem rep_lt (n v : Nat) (hv : v < 256) : ∀ x ∈ List.replicate n v, x < 256 := by
  intro x hx
  rw [List.mem_replicate] at hx
  omega
theorem rep_asc (n v : Nat) (hv : v < 128) : ∀ x ∈ List.replicate n v, x < 128 := by
  intro x hx
  rw [List.mem_replicate] at hx
  omega
theorem bl_rep (n v : Nat) (hv : v < 256) : bl (tx (List.replicate n v)) = List.replicate n v := bl_tx _ (rep_lt n v hv)
theorem rep_size (n v : Nat) : (tx (List.replicate n v)).size = n := by rw [tx_size]; simp
/-- A row of one byte alone as a string. -/
theorem conv_rep {w : World} {b n : Nat} {v : Nat} (hv : v < 256) {f : Nat → Value} (h : w.rowIs b 5 n f) (hf : ∀ i, i < n → f i = .int .u8 (v : Nat)) :
    (convert 44 9 (.slice (some ⟨b, 0, none⟩) n n)).run Try.prog w = .ok (.string (tx (List.replicate n v))) w := by
  have k := run_convert_bytes_back (P := Try.prog) w 44 9 5 ⟨b, 0, none⟩ n ((List.replicate n v).map (fun d => UInt8.ofNat d)) Try.underlying44 Try.underlying5 Try.underlying9 (by
    intro j hj
    have hj' : j < n := by simpa using hj
    rw [Addr.add_lit, Nat.zero_add, h.cell hj', hf j hj']
    simp [hj']
    omega)
  have hlen : ((List.replicate n v).map (fun d => UInt8.ofNat d)).length = n := by simp
  rw [hlen] at k
  exact k
theorem cke_rep (n k : Nat) (hk : k ≤ n) : cke (List.replicate n 97) (k : Int) = 0 := by
  unfold cke
  rw [List.length_replicate, if_neg (by omega)]
  by_cases c : k < n
  · rw [bat_in _ _ (by simpa using c)]
    have : (List.replicate n 97).getD k 0 = 97 := by simp [List.getD_eq_getElem?_getD, c]
    rw [this, if_neg (by decide)]
  · have : k = n := by omega
    subst this
    have e := bat_end (List.replicate k 97)
    rw [List.length_replicate] at e
    rw [e, if_neg (by simp)]
theorem ine_rep (n m k : Nat) (hk : k ≤ n) : ine (List.replicate n 97) (k : Int) (tx (List.replicate m 10)) (cN (tx (List.replicate m 10))) = if 65536 < n + m then 31 else 0 := by
  unfold ine
  rw [cke_rep n k hk, chk_lit _ (rep_asc m 10 (by decide)), rep_size, List.length_replicate]
  simp
theorem nl_rep97 (n : Nat) : nl (List.replicate n 97) = 0 := by simp [nl, List.countP_replicate]
theorem nl_rep10 (n : Nat) : nl (List.replicate n 10) = n := by simp [nl, List.countP_replicate]
theorem len_in (n m k : Nat) (hk : k ≤ n) : ((List.replicate n 97).take k ++ (bl (tx (List.replicate m 10)) ++ (List.replicate n 97).drop k)).length = n + m := by
  rw [bl_rep _ _ (by decide)]
  simp
  omega
theorem nl_in (n m k : Nat) (hk : k ≤ n) : nl ((List.replicate n 97).take k ++ (bl (tx (List.replicate m 10)) ++ (List.replicate n 97).drop k)) = m := by
  rw [bl_rep _ _ (by decide), nl_app, nl_app, nl_rep10, List.take_replicate, List.drop_replicate, nl_rep97, nl_rep97]
  omega
end Go.Proofs.Ytfikmlgmklnlaab
