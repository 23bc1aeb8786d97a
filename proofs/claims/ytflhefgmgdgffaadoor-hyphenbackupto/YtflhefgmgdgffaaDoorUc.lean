/-
  What the program's read answers for every text: the rune with which it begins and how many bytes it has; 0 and 0, if there is none.
-/
import Derived.Test.YtflhefgmgdgffaaDoorUb
namespace Go.Proofs.YtflhefgmgdgffaaDoor
open Go.RowKit
set_option linter.unusedSimpArgs false
set_option linter.unusedVariables false

theorem not_empty (s : ByteArray) (h : 0 < s.size) : s.toList.isEmpty = false := by
  rw [← decide_eq_emptyBytes]
  simp only [decide_eq_false_iff_not]
  intro c; rw [c] at h; simp at h

set_option maxRecDepth 100000 in
set_option maxHeartbeats 1600000 in
theorem read_e (s : ByteArray) (w : World) (hs : s.size ≤ maxLen) (he : s.toList.isEmpty = true) :
    Calls Tryd.prog 59 #[.string s] w fun e w' => e = .returned (.tuple #[.int .i32 0, .int .i64 0]) ∧ w' = w := by
  unfold maxLen at hs
  go_enter Tryd.func59, Tryd.ntmps59
  go_wp2
  refine wp_scope_hops fun J hJ => ?_
  replace hJ := boxed hJ
  go_wp2
  repeat
    go_step3
    try refine hJ.out _ _ _ _ rfl ?_
    go_wp2_with (first | (go_at_call 65; refine (inside_any _ _).mono ?_; rintro e w' ⟨rfl, hw'⟩; subst w') | (go_at_call 66; refine (exists_any _ _).mono ?_; rintro e w' ⟨rfl, hw'⟩; subst w'))
  rw [jumps_ret]
  go_ret2
  exact ⟨rfl, rfl⟩

set_option maxRecDepth 100000 in
set_option maxHeartbeats 1600000 in
theorem read_1 (s : ByteArray) (w : World) (hs : s.size ≤ maxLen) (he : s.toList.isEmpty = false) (b0 : Nat) (k0 : 0 < s.size) (e0 : s[0].toNat = b0) (h : b0 < 128) (x : isR (b0 : Int) = true) :
    Calls Tryd.prog 59 #[.string s] w fun e w' => e = .returned (.tuple #[.int .i32 b0, .int .i64 1]) ∧ w' = w := by
  unfold maxLen at hs
  go_enter Tryd.func59, Tryd.ntmps59
  go_wp2
  refine wp_scope_hops fun J hJ => ?_
  replace hJ := boxed hJ
  go_wp2
  repeat
    go_step3
    try refine hJ.out _ _ _ _ rfl ?_
    go_wp2_with (first | (go_at_call 65; refine (inside_any _ _).mono ?_; rintro e w' ⟨rfl, hw'⟩; subst w') | (go_at_call 66; refine (exists_any _ _).mono ?_; rintro e w' ⟨rfl, hw'⟩; subst w'))
  rw [jumps_ret]
  go_ret2
  exact ⟨rfl, rfl⟩

set_option maxRecDepth 100000 in
set_option maxHeartbeats 1600000 in
theorem read_x (s : ByteArray) (w : World) (hs : s.size ≤ maxLen) (he : s.toList.isEmpty = false) (b0 : Nat) (k0 : 0 < s.size) (e0 : s[0].toNat = b0) (h : 128 ≤ b0 ∧ b0 < 192) :
    Calls Tryd.prog 59 #[.string s] w fun e w' => e = .returned (.tuple #[.int .i32 0, .int .i64 0]) ∧ w' = w := by
  unfold maxLen at hs
  go_enter Tryd.func59, Tryd.ntmps59
  go_wp2
  refine wp_scope_hops fun J hJ => ?_
  replace hJ := boxed hJ
  go_wp2
  repeat
    go_step3
    try refine hJ.out _ _ _ _ rfl ?_
    go_wp2_with (first | (go_at_call 65; refine (inside_any _ _).mono ?_; rintro e w' ⟨rfl, hw'⟩; subst w') | (go_at_call 66; refine (exists_any _ _).mono ?_; rintro e w' ⟨rfl, hw'⟩; subst w'))
  rw [jumps_ret]
  go_ret2
  exact ⟨rfl, rfl⟩

set_option maxRecDepth 100000 in
set_option maxHeartbeats 1600000 in
theorem read_y (s : ByteArray) (w : World) (hs : s.size ≤ maxLen) (he : s.toList.isEmpty = false) (b0 : Nat) (k0 : 0 < s.size) (e0 : s[0].toNat = b0) (h : 248 ≤ b0 ∧ b0 < 256) :
    Calls Tryd.prog 59 #[.string s] w fun e w' => e = .returned (.tuple #[.int .i32 0, .int .i64 0]) ∧ w' = w := by
  unfold maxLen at hs
  go_enter Tryd.func59, Tryd.ntmps59
  go_wp2
  refine wp_scope_hops fun J hJ => ?_
  replace hJ := boxed hJ
  go_wp2
  repeat
    go_step3
    try refine hJ.out _ _ _ _ rfl ?_
    go_wp2_with (first | (go_at_call 65; refine (inside_any _ _).mono ?_; rintro e w' ⟨rfl, hw'⟩; subst w') | (go_at_call 66; refine (exists_any _ _).mono ?_; rintro e w' ⟨rfl, hw'⟩; subst w'))
  rw [jumps_ret]
  go_ret2
  exact ⟨rfl, rfl⟩

set_option maxRecDepth 100000 in
set_option maxHeartbeats 1600000 in
theorem read_2s1 (s : ByteArray) (w : World) (hs : s.size ≤ maxLen) (he : s.toList.isEmpty = false) (b0 : Nat) (k0 : 0 < s.size) (e0 : s[0].toNat = b0) (h : 192 ≤ b0 ∧ b0 < 224) (n1 : ((1 : Int) == (s.size : Int)) = true) :
    Calls Tryd.prog 59 #[.string s] w fun e w' => e = .returned (.tuple #[.int .i32 0, .int .i64 0]) ∧ w' = w := by
  unfold maxLen at hs
  go_enter Tryd.func59, Tryd.ntmps59
  go_wp2
  refine wp_scope_hops fun J hJ => ?_
  replace hJ := boxed hJ
  go_wp2
  repeat
    go_step3
    try refine hJ.out _ _ _ _ rfl ?_
    go_wp2_with (first | (go_at_call 65; refine (inside_any _ _).mono ?_; rintro e w' ⟨rfl, hw'⟩; subst w') | (go_at_call 66; refine (exists_any _ _).mono ?_; rintro e w' ⟨rfl, hw'⟩; subst w'))
  rw [jumps_ret]
  go_ret2
  exact ⟨rfl, rfl⟩

set_option maxRecDepth 100000 in
set_option maxHeartbeats 1600000 in
theorem read_2n1 (s : ByteArray) (w : World) (hs : s.size ≤ maxLen) (he : s.toList.isEmpty = false) (b0 b1 : Nat) (k0 : 1 < s.size) (e0 : s[0].toNat = b0) (e1 : s[1].toNat = b1) (h : 192 ≤ b0 ∧ b0 < 224) (n1 : ((1 : Int) == (s.size : Int)) = false) (i1 : ins (b1 : Int) = false) :
    Calls Tryd.prog 59 #[.string s] w fun e w' => e = .returned (.tuple #[.int .i32 0, .int .i64 0]) ∧ w' = w := by
  unfold maxLen at hs
  go_enter Tryd.func59, Tryd.ntmps59
  go_wp2
  refine wp_scope_hops fun J hJ => ?_
  replace hJ := boxed hJ
  go_wp2
  repeat
    go_step3
    try refine hJ.out _ _ _ _ rfl ?_
    go_wp2_with (first | (go_at_call 65; refine (inside_any _ _).mono ?_; rintro e w' ⟨rfl, hw'⟩; subst w') | (go_at_call 66; refine (exists_any _ _).mono ?_; rintro e w' ⟨rfl, hw'⟩; subst w'))
  rw [jumps_ret]
  go_ret2
  exact ⟨rfl, rfl⟩

set_option maxRecDepth 100000 in
set_option maxHeartbeats 1600000 in
theorem read_2g (s : ByteArray) (w : World) (hs : s.size ≤ maxLen) (he : s.toList.isEmpty = false) (b0 b1 : Nat) (k0 : 1 < s.size) (e0 : s[0].toNat = b0) (e1 : s[1].toNat = b1) (h : 192 ≤ b0 ∧ b0 < 224) (n1 : ((1 : Int) == (s.size : Int)) = false) (i1 : ins (b1 : Int) = true) (j1 : 128 ≤ b1 ∧ b1 < 192) (g : decide ((128 : Int) ≤ ((b0 : Int) % 32) * 64 + (b1 : Int) % 64) = false) :
    Calls Tryd.prog 59 #[.string s] w fun e w' => e = .returned (.tuple #[.int .i32 0, .int .i64 0]) ∧ w' = w := by
  unfold maxLen at hs
  go_enter Tryd.func59, Tryd.ntmps59
  go_wp2
  refine wp_scope_hops fun J hJ => ?_
  replace hJ := boxed hJ
  go_wp2
  repeat
    go_step3
    try refine hJ.out _ _ _ _ rfl ?_
    go_wp2_with (first | (go_at_call 65; refine (inside_any _ _).mono ?_; rintro e w' ⟨rfl, hw'⟩; subst w') | (go_at_call 66; refine (exists_any _ _).mono ?_; rintro e w' ⟨rfl, hw'⟩; subst w'))
  rw [jumps_ret]
  go_ret2
  exact ⟨rfl, rfl⟩

set_option maxRecDepth 100000 in
set_option maxHeartbeats 1600000 in
theorem read_2r (s : ByteArray) (w : World) (hs : s.size ≤ maxLen) (he : s.toList.isEmpty = false) (b0 b1 : Nat) (k0 : 1 < s.size) (e0 : s[0].toNat = b0) (e1 : s[1].toNat = b1) (h : 192 ≤ b0 ∧ b0 < 224) (n1 : ((1 : Int) == (s.size : Int)) = false) (i1 : ins (b1 : Int) = true) (j1 : 128 ≤ b1 ∧ b1 < 192) (g : decide ((128 : Int) ≤ ((b0 : Int) % 32) * 64 + (b1 : Int) % 64) = true) (x : isR (((b0 : Int) % 32) * 64 + (b1 : Int) % 64) = false) :
    Calls Tryd.prog 59 #[.string s] w fun e w' => e = .returned (.tuple #[.int .i32 0, .int .i64 0]) ∧ w' = w := by
  unfold maxLen at hs
  go_enter Tryd.func59, Tryd.ntmps59
  go_wp2
  refine wp_scope_hops fun J hJ => ?_
  replace hJ := boxed hJ
  go_wp2
  repeat
    go_step3
    try refine hJ.out _ _ _ _ rfl ?_
    go_wp2_with (first | (go_at_call 65; refine (inside_any _ _).mono ?_; rintro e w' ⟨rfl, hw'⟩; subst w') | (go_at_call 66; refine (exists_any _ _).mono ?_; rintro e w' ⟨rfl, hw'⟩; subst w'))
  rw [jumps_ret]
  go_ret2
  exact ⟨rfl, rfl⟩

set_option maxRecDepth 100000 in
set_option maxHeartbeats 1600000 in
theorem read_2ok (s : ByteArray) (w : World) (hs : s.size ≤ maxLen) (he : s.toList.isEmpty = false) (b0 b1 : Nat) (k0 : 1 < s.size) (e0 : s[0].toNat = b0) (e1 : s[1].toNat = b1) (h : 192 ≤ b0 ∧ b0 < 224) (n1 : ((1 : Int) == (s.size : Int)) = false) (i1 : ins (b1 : Int) = true) (j1 : 128 ≤ b1 ∧ b1 < 192) (g : decide ((128 : Int) ≤ ((b0 : Int) % 32) * 64 + (b1 : Int) % 64) = true) (x : isR (((b0 : Int) % 32) * 64 + (b1 : Int) % 64) = true) :
    Calls Tryd.prog 59 #[.string s] w fun e w' => e = .returned (.tuple #[.int .i32 (((b0 : Int) % 32) * 64 + (b1 : Int) % 64), .int .i64 2]) ∧ w' = w := by
  unfold maxLen at hs
  go_enter Tryd.func59, Tryd.ntmps59
  go_wp2
  refine wp_scope_hops fun J hJ => ?_
  replace hJ := boxed hJ
  go_wp2
  repeat
    go_step3
    try refine hJ.out _ _ _ _ rfl ?_
    go_wp2_with (first | (go_at_call 65; refine (inside_any _ _).mono ?_; rintro e w' ⟨rfl, hw'⟩; subst w') | (go_at_call 66; refine (exists_any _ _).mono ?_; rintro e w' ⟨rfl, hw'⟩; subst w'))
  rw [jumps_ret]
  go_ret2
  exact ⟨rfl, rfl⟩

set_option maxRecDepth 100000 in
set_option maxHeartbeats 1600000 in
theorem read_3s1 (s : ByteArray) (w : World) (hs : s.size ≤ maxLen) (he : s.toList.isEmpty = false) (b0 : Nat) (k0 : 0 < s.size) (e0 : s[0].toNat = b0) (h : 224 ≤ b0 ∧ b0 < 240) (n1 : ((1 : Int) == (s.size : Int)) = true) :
    Calls Tryd.prog 59 #[.string s] w fun e w' => e = .returned (.tuple #[.int .i32 0, .int .i64 0]) ∧ w' = w := by
  unfold maxLen at hs
  go_enter Tryd.func59, Tryd.ntmps59
  go_wp2
  refine wp_scope_hops fun J hJ => ?_
  replace hJ := boxed hJ
  go_wp2
  repeat
    go_step3
    try refine hJ.out _ _ _ _ rfl ?_
    go_wp2_with (first | (go_at_call 65; refine (inside_any _ _).mono ?_; rintro e w' ⟨rfl, hw'⟩; subst w') | (go_at_call 66; refine (exists_any _ _).mono ?_; rintro e w' ⟨rfl, hw'⟩; subst w'))
  rw [jumps_ret]
  go_ret2
  exact ⟨rfl, rfl⟩

set_option maxRecDepth 100000 in
set_option maxHeartbeats 1600000 in
theorem read_3n1 (s : ByteArray) (w : World) (hs : s.size ≤ maxLen) (he : s.toList.isEmpty = false) (b0 b1 : Nat) (k0 : 1 < s.size) (e0 : s[0].toNat = b0) (e1 : s[1].toNat = b1) (h : 224 ≤ b0 ∧ b0 < 240) (n1 : ((1 : Int) == (s.size : Int)) = false) (i1 : ins (b1 : Int) = false) :
    Calls Tryd.prog 59 #[.string s] w fun e w' => e = .returned (.tuple #[.int .i32 0, .int .i64 0]) ∧ w' = w := by
  unfold maxLen at hs
  go_enter Tryd.func59, Tryd.ntmps59
  go_wp2
  refine wp_scope_hops fun J hJ => ?_
  replace hJ := boxed hJ
  go_wp2
  repeat
    go_step3
    try refine hJ.out _ _ _ _ rfl ?_
    go_wp2_with (first | (go_at_call 65; refine (inside_any _ _).mono ?_; rintro e w' ⟨rfl, hw'⟩; subst w') | (go_at_call 66; refine (exists_any _ _).mono ?_; rintro e w' ⟨rfl, hw'⟩; subst w'))
  rw [jumps_ret]
  go_ret2
  exact ⟨rfl, rfl⟩

set_option maxRecDepth 100000 in
set_option maxHeartbeats 1600000 in
theorem read_3s2 (s : ByteArray) (w : World) (hs : s.size ≤ maxLen) (he : s.toList.isEmpty = false) (b0 b1 : Nat) (k0 : 1 < s.size) (e0 : s[0].toNat = b0) (e1 : s[1].toNat = b1) (h : 224 ≤ b0 ∧ b0 < 240) (n1 : ((1 : Int) == (s.size : Int)) = false) (i1 : ins (b1 : Int) = true) (j1 : 128 ≤ b1 ∧ b1 < 192) (n2 : ((2 : Int) == (s.size : Int)) = true) :
    Calls Tryd.prog 59 #[.string s] w fun e w' => e = .returned (.tuple #[.int .i32 0, .int .i64 0]) ∧ w' = w := by
  unfold maxLen at hs
  go_enter Tryd.func59, Tryd.ntmps59
  go_wp2
  refine wp_scope_hops fun J hJ => ?_
  replace hJ := boxed hJ
  go_wp2
  repeat
    go_step3
    try refine hJ.out _ _ _ _ rfl ?_
    go_wp2_with (first | (go_at_call 65; refine (inside_any _ _).mono ?_; rintro e w' ⟨rfl, hw'⟩; subst w') | (go_at_call 66; refine (exists_any _ _).mono ?_; rintro e w' ⟨rfl, hw'⟩; subst w'))
  rw [jumps_ret]
  go_ret2
  exact ⟨rfl, rfl⟩

set_option maxRecDepth 100000 in
set_option maxHeartbeats 1600000 in
theorem read_3n2 (s : ByteArray) (w : World) (hs : s.size ≤ maxLen) (he : s.toList.isEmpty = false) (b0 b1 b2 : Nat) (k0 : 2 < s.size) (e0 : s[0].toNat = b0) (e1 : s[1].toNat = b1) (e2 : s[2].toNat = b2) (h : 224 ≤ b0 ∧ b0 < 240) (n1 : ((1 : Int) == (s.size : Int)) = false) (i1 : ins (b1 : Int) = true) (j1 : 128 ≤ b1 ∧ b1 < 192) (n2 : ((2 : Int) == (s.size : Int)) = false) (i2 : ins (b2 : Int) = false) :
    Calls Tryd.prog 59 #[.string s] w fun e w' => e = .returned (.tuple #[.int .i32 0, .int .i64 0]) ∧ w' = w := by
  unfold maxLen at hs
  go_enter Tryd.func59, Tryd.ntmps59
  go_wp2
  refine wp_scope_hops fun J hJ => ?_
  replace hJ := boxed hJ
  go_wp2
  repeat
    go_step3
    try refine hJ.out _ _ _ _ rfl ?_
    go_wp2_with (first | (go_at_call 65; refine (inside_any _ _).mono ?_; rintro e w' ⟨rfl, hw'⟩; subst w') | (go_at_call 66; refine (exists_any _ _).mono ?_; rintro e w' ⟨rfl, hw'⟩; subst w'))
  rw [jumps_ret]
  go_ret2
  exact ⟨rfl, rfl⟩

set_option maxRecDepth 100000 in
set_option maxHeartbeats 1600000 in
theorem read_3g (s : ByteArray) (w : World) (hs : s.size ≤ maxLen) (he : s.toList.isEmpty = false) (b0 b1 b2 : Nat) (k0 : 2 < s.size) (e0 : s[0].toNat = b0) (e1 : s[1].toNat = b1) (e2 : s[2].toNat = b2) (h : 224 ≤ b0 ∧ b0 < 240) (n1 : ((1 : Int) == (s.size : Int)) = false) (i1 : ins (b1 : Int) = true) (j1 : 128 ≤ b1 ∧ b1 < 192) (n2 : ((2 : Int) == (s.size : Int)) = false) (i2 : ins (b2 : Int) = true) (j2 : 128 ≤ b2 ∧ b2 < 192) (g : decide ((2048 : Int) ≤ (((b0 : Int) % 16) * 64 + (b1 : Int) % 64) * 64 + (b2 : Int) % 64) = false) :
    Calls Tryd.prog 59 #[.string s] w fun e w' => e = .returned (.tuple #[.int .i32 0, .int .i64 0]) ∧ w' = w := by
  unfold maxLen at hs
  go_enter Tryd.func59, Tryd.ntmps59
  go_wp2
  refine wp_scope_hops fun J hJ => ?_
  replace hJ := boxed hJ
  go_wp2
  repeat
    go_step3
    try refine hJ.out _ _ _ _ rfl ?_
    go_wp2_with (first | (go_at_call 65; refine (inside_any _ _).mono ?_; rintro e w' ⟨rfl, hw'⟩; subst w') | (go_at_call 66; refine (exists_any _ _).mono ?_; rintro e w' ⟨rfl, hw'⟩; subst w'))
  rw [jumps_ret]
  go_ret2
  exact ⟨rfl, rfl⟩

set_option maxRecDepth 100000 in
set_option maxHeartbeats 1600000 in
theorem read_3r (s : ByteArray) (w : World) (hs : s.size ≤ maxLen) (he : s.toList.isEmpty = false) (b0 b1 b2 : Nat) (k0 : 2 < s.size) (e0 : s[0].toNat = b0) (e1 : s[1].toNat = b1) (e2 : s[2].toNat = b2) (h : 224 ≤ b0 ∧ b0 < 240) (n1 : ((1 : Int) == (s.size : Int)) = false) (i1 : ins (b1 : Int) = true) (j1 : 128 ≤ b1 ∧ b1 < 192) (n2 : ((2 : Int) == (s.size : Int)) = false) (i2 : ins (b2 : Int) = true) (j2 : 128 ≤ b2 ∧ b2 < 192) (g : decide ((2048 : Int) ≤ (((b0 : Int) % 16) * 64 + (b1 : Int) % 64) * 64 + (b2 : Int) % 64) = true) (x : isR ((((b0 : Int) % 16) * 64 + (b1 : Int) % 64) * 64 + (b2 : Int) % 64) = false) :
    Calls Tryd.prog 59 #[.string s] w fun e w' => e = .returned (.tuple #[.int .i32 0, .int .i64 0]) ∧ w' = w := by
  unfold maxLen at hs
  go_enter Tryd.func59, Tryd.ntmps59
  go_wp2
  refine wp_scope_hops fun J hJ => ?_
  replace hJ := boxed hJ
  go_wp2
  repeat
    go_step3
    try refine hJ.out _ _ _ _ rfl ?_
    go_wp2_with (first | (go_at_call 65; refine (inside_any _ _).mono ?_; rintro e w' ⟨rfl, hw'⟩; subst w') | (go_at_call 66; refine (exists_any _ _).mono ?_; rintro e w' ⟨rfl, hw'⟩; subst w'))
  rw [jumps_ret]
  go_ret2
  exact ⟨rfl, rfl⟩

set_option maxRecDepth 100000 in
set_option maxHeartbeats 1600000 in
theorem read_3ok (s : ByteArray) (w : World) (hs : s.size ≤ maxLen) (he : s.toList.isEmpty = false) (b0 b1 b2 : Nat) (k0 : 2 < s.size) (e0 : s[0].toNat = b0) (e1 : s[1].toNat = b1) (e2 : s[2].toNat = b2) (h : 224 ≤ b0 ∧ b0 < 240) (n1 : ((1 : Int) == (s.size : Int)) = false) (i1 : ins (b1 : Int) = true) (j1 : 128 ≤ b1 ∧ b1 < 192) (n2 : ((2 : Int) == (s.size : Int)) = false) (i2 : ins (b2 : Int) = true) (j2 : 128 ≤ b2 ∧ b2 < 192) (g : decide ((2048 : Int) ≤ (((b0 : Int) % 16) * 64 + (b1 : Int) % 64) * 64 + (b2 : Int) % 64) = true) (x : isR ((((b0 : Int) % 16) * 64 + (b1 : Int) % 64) * 64 + (b2 : Int) % 64) = true) :
    Calls Tryd.prog 59 #[.string s] w fun e w' => e = .returned (.tuple #[.int .i32 ((((b0 : Int) % 16) * 64 + (b1 : Int) % 64) * 64 + (b2 : Int) % 64), .int .i64 3]) ∧ w' = w := by
  unfold maxLen at hs
  go_enter Tryd.func59, Tryd.ntmps59
  go_wp2
  refine wp_scope_hops fun J hJ => ?_
  replace hJ := boxed hJ
  go_wp2
  repeat
    go_step3
    try refine hJ.out _ _ _ _ rfl ?_
    go_wp2_with (first | (go_at_call 65; refine (inside_any _ _).mono ?_; rintro e w' ⟨rfl, hw'⟩; subst w') | (go_at_call 66; refine (exists_any _ _).mono ?_; rintro e w' ⟨rfl, hw'⟩; subst w'))
  rw [jumps_ret]
  go_ret2
  exact ⟨rfl, rfl⟩

set_option maxRecDepth 100000 in
set_option maxHeartbeats 1600000 in
theorem read_4s1 (s : ByteArray) (w : World) (hs : s.size ≤ maxLen) (he : s.toList.isEmpty = false) (b0 : Nat) (k0 : 0 < s.size) (e0 : s[0].toNat = b0) (h : 240 ≤ b0 ∧ b0 < 248) (n1 : ((1 : Int) == (s.size : Int)) = true) :
    Calls Tryd.prog 59 #[.string s] w fun e w' => e = .returned (.tuple #[.int .i32 0, .int .i64 0]) ∧ w' = w := by
  unfold maxLen at hs
  go_enter Tryd.func59, Tryd.ntmps59
  go_wp2
  refine wp_scope_hops fun J hJ => ?_
  replace hJ := boxed hJ
  go_wp2
  repeat
    go_step3
    try refine hJ.out _ _ _ _ rfl ?_
    go_wp2_with (first | (go_at_call 65; refine (inside_any _ _).mono ?_; rintro e w' ⟨rfl, hw'⟩; subst w') | (go_at_call 66; refine (exists_any _ _).mono ?_; rintro e w' ⟨rfl, hw'⟩; subst w'))
  rw [jumps_ret]
  go_ret2
  exact ⟨rfl, rfl⟩

set_option maxRecDepth 100000 in
set_option maxHeartbeats 1600000 in
theorem read_4n1 (s : ByteArray) (w : World) (hs : s.size ≤ maxLen) (he : s.toList.isEmpty = false) (b0 b1 : Nat) (k0 : 1 < s.size) (e0 : s[0].toNat = b0) (e1 : s[1].toNat = b1) (h : 240 ≤ b0 ∧ b0 < 248) (n1 : ((1 : Int) == (s.size : Int)) = false) (i1 : ins (b1 : Int) = false) :
    Calls Tryd.prog 59 #[.string s] w fun e w' => e = .returned (.tuple #[.int .i32 0, .int .i64 0]) ∧ w' = w := by
  unfold maxLen at hs
  go_enter Tryd.func59, Tryd.ntmps59
  go_wp2
  refine wp_scope_hops fun J hJ => ?_
  replace hJ := boxed hJ
  go_wp2
  repeat
    go_step3
    try refine hJ.out _ _ _ _ rfl ?_
    go_wp2_with (first | (go_at_call 65; refine (inside_any _ _).mono ?_; rintro e w' ⟨rfl, hw'⟩; subst w') | (go_at_call 66; refine (exists_any _ _).mono ?_; rintro e w' ⟨rfl, hw'⟩; subst w'))
  rw [jumps_ret]
  go_ret2
  exact ⟨rfl, rfl⟩

set_option maxRecDepth 100000 in
set_option maxHeartbeats 1600000 in
theorem read_4s2 (s : ByteArray) (w : World) (hs : s.size ≤ maxLen) (he : s.toList.isEmpty = false) (b0 b1 : Nat) (k0 : 1 < s.size) (e0 : s[0].toNat = b0) (e1 : s[1].toNat = b1) (h : 240 ≤ b0 ∧ b0 < 248) (n1 : ((1 : Int) == (s.size : Int)) = false) (i1 : ins (b1 : Int) = true) (j1 : 128 ≤ b1 ∧ b1 < 192) (n2 : ((2 : Int) == (s.size : Int)) = true) :
    Calls Tryd.prog 59 #[.string s] w fun e w' => e = .returned (.tuple #[.int .i32 0, .int .i64 0]) ∧ w' = w := by
  unfold maxLen at hs
  go_enter Tryd.func59, Tryd.ntmps59
  go_wp2
  refine wp_scope_hops fun J hJ => ?_
  replace hJ := boxed hJ
  go_wp2
  repeat
    go_step3
    try refine hJ.out _ _ _ _ rfl ?_
    go_wp2_with (first | (go_at_call 65; refine (inside_any _ _).mono ?_; rintro e w' ⟨rfl, hw'⟩; subst w') | (go_at_call 66; refine (exists_any _ _).mono ?_; rintro e w' ⟨rfl, hw'⟩; subst w'))
  rw [jumps_ret]
  go_ret2
  exact ⟨rfl, rfl⟩

set_option maxRecDepth 100000 in
set_option maxHeartbeats 1600000 in
theorem read_4n2 (s : ByteArray) (w : World) (hs : s.size ≤ maxLen) (he : s.toList.isEmpty = false) (b0 b1 b2 : Nat) (k0 : 2 < s.size) (e0 : s[0].toNat = b0) (e1 : s[1].toNat = b1) (e2 : s[2].toNat = b2) (h : 240 ≤ b0 ∧ b0 < 248) (n1 : ((1 : Int) == (s.size : Int)) = false) (i1 : ins (b1 : Int) = true) (j1 : 128 ≤ b1 ∧ b1 < 192) (n2 : ((2 : Int) == (s.size : Int)) = false) (i2 : ins (b2 : Int) = false) :
    Calls Tryd.prog 59 #[.string s] w fun e w' => e = .returned (.tuple #[.int .i32 0, .int .i64 0]) ∧ w' = w := by
  unfold maxLen at hs
  go_enter Tryd.func59, Tryd.ntmps59
  go_wp2
  refine wp_scope_hops fun J hJ => ?_
  replace hJ := boxed hJ
  go_wp2
  repeat
    go_step3
    try refine hJ.out _ _ _ _ rfl ?_
    go_wp2_with (first | (go_at_call 65; refine (inside_any _ _).mono ?_; rintro e w' ⟨rfl, hw'⟩; subst w') | (go_at_call 66; refine (exists_any _ _).mono ?_; rintro e w' ⟨rfl, hw'⟩; subst w'))
  rw [jumps_ret]
  go_ret2
  exact ⟨rfl, rfl⟩

set_option maxRecDepth 100000 in
set_option maxHeartbeats 1600000 in
theorem read_4s3 (s : ByteArray) (w : World) (hs : s.size ≤ maxLen) (he : s.toList.isEmpty = false) (b0 b1 b2 : Nat) (k0 : 2 < s.size) (e0 : s[0].toNat = b0) (e1 : s[1].toNat = b1) (e2 : s[2].toNat = b2) (h : 240 ≤ b0 ∧ b0 < 248) (n1 : ((1 : Int) == (s.size : Int)) = false) (i1 : ins (b1 : Int) = true) (j1 : 128 ≤ b1 ∧ b1 < 192) (n2 : ((2 : Int) == (s.size : Int)) = false) (i2 : ins (b2 : Int) = true) (j2 : 128 ≤ b2 ∧ b2 < 192) (n3 : ((3 : Int) == (s.size : Int)) = true) :
    Calls Tryd.prog 59 #[.string s] w fun e w' => e = .returned (.tuple #[.int .i32 0, .int .i64 0]) ∧ w' = w := by
  unfold maxLen at hs
  go_enter Tryd.func59, Tryd.ntmps59
  go_wp2
  refine wp_scope_hops fun J hJ => ?_
  replace hJ := boxed hJ
  go_wp2
  repeat
    go_step3
    try refine hJ.out _ _ _ _ rfl ?_
    go_wp2_with (first | (go_at_call 65; refine (inside_any _ _).mono ?_; rintro e w' ⟨rfl, hw'⟩; subst w') | (go_at_call 66; refine (exists_any _ _).mono ?_; rintro e w' ⟨rfl, hw'⟩; subst w'))
  rw [jumps_ret]
  go_ret2
  exact ⟨rfl, rfl⟩

set_option maxRecDepth 100000 in
set_option maxHeartbeats 1600000 in
theorem read_4n3 (s : ByteArray) (w : World) (hs : s.size ≤ maxLen) (he : s.toList.isEmpty = false) (b0 b1 b2 b3 : Nat) (k0 : 3 < s.size) (e0 : s[0].toNat = b0) (e1 : s[1].toNat = b1) (e2 : s[2].toNat = b2) (e3 : s[3].toNat = b3) (h : 240 ≤ b0 ∧ b0 < 248) (n1 : ((1 : Int) == (s.size : Int)) = false) (i1 : ins (b1 : Int) = true) (j1 : 128 ≤ b1 ∧ b1 < 192) (n2 : ((2 : Int) == (s.size : Int)) = false) (i2 : ins (b2 : Int) = true) (j2 : 128 ≤ b2 ∧ b2 < 192) (n3 : ((3 : Int) == (s.size : Int)) = false) (i3 : ins (b3 : Int) = false) :
    Calls Tryd.prog 59 #[.string s] w fun e w' => e = .returned (.tuple #[.int .i32 0, .int .i64 0]) ∧ w' = w := by
  unfold maxLen at hs
  go_enter Tryd.func59, Tryd.ntmps59
  go_wp2
  refine wp_scope_hops fun J hJ => ?_
  replace hJ := boxed hJ
  go_wp2
  repeat
    go_step3
    try refine hJ.out _ _ _ _ rfl ?_
    go_wp2_with (first | (go_at_call 65; refine (inside_any _ _).mono ?_; rintro e w' ⟨rfl, hw'⟩; subst w') | (go_at_call 66; refine (exists_any _ _).mono ?_; rintro e w' ⟨rfl, hw'⟩; subst w'))
  rw [jumps_ret]
  go_ret2
  exact ⟨rfl, rfl⟩

set_option maxRecDepth 100000 in
set_option maxHeartbeats 1600000 in
theorem read_4g (s : ByteArray) (w : World) (hs : s.size ≤ maxLen) (he : s.toList.isEmpty = false) (b0 b1 b2 b3 : Nat) (k0 : 3 < s.size) (e0 : s[0].toNat = b0) (e1 : s[1].toNat = b1) (e2 : s[2].toNat = b2) (e3 : s[3].toNat = b3) (h : 240 ≤ b0 ∧ b0 < 248) (n1 : ((1 : Int) == (s.size : Int)) = false) (i1 : ins (b1 : Int) = true) (j1 : 128 ≤ b1 ∧ b1 < 192) (n2 : ((2 : Int) == (s.size : Int)) = false) (i2 : ins (b2 : Int) = true) (j2 : 128 ≤ b2 ∧ b2 < 192) (n3 : ((3 : Int) == (s.size : Int)) = false) (i3 : ins (b3 : Int) = true) (j3 : 128 ≤ b3 ∧ b3 < 192) (g : decide ((65536 : Int) ≤ ((((b0 : Int) % 8) * 64 + (b1 : Int) % 64) * 64 + (b2 : Int) % 64) * 64 + (b3 : Int) % 64) = false) :
    Calls Tryd.prog 59 #[.string s] w fun e w' => e = .returned (.tuple #[.int .i32 0, .int .i64 0]) ∧ w' = w := by
  unfold maxLen at hs
  go_enter Tryd.func59, Tryd.ntmps59
  go_wp2
  refine wp_scope_hops fun J hJ => ?_
  replace hJ := boxed hJ
  go_wp2
  repeat
    go_step3
    try refine hJ.out _ _ _ _ rfl ?_
    go_wp2_with (first | (go_at_call 65; refine (inside_any _ _).mono ?_; rintro e w' ⟨rfl, hw'⟩; subst w') | (go_at_call 66; refine (exists_any _ _).mono ?_; rintro e w' ⟨rfl, hw'⟩; subst w'))
  rw [jumps_ret]
  go_ret2
  exact ⟨rfl, rfl⟩

set_option maxRecDepth 100000 in
set_option maxHeartbeats 1600000 in
theorem read_4r (s : ByteArray) (w : World) (hs : s.size ≤ maxLen) (he : s.toList.isEmpty = false) (b0 b1 b2 b3 : Nat) (k0 : 3 < s.size) (e0 : s[0].toNat = b0) (e1 : s[1].toNat = b1) (e2 : s[2].toNat = b2) (e3 : s[3].toNat = b3) (h : 240 ≤ b0 ∧ b0 < 248) (n1 : ((1 : Int) == (s.size : Int)) = false) (i1 : ins (b1 : Int) = true) (j1 : 128 ≤ b1 ∧ b1 < 192) (n2 : ((2 : Int) == (s.size : Int)) = false) (i2 : ins (b2 : Int) = true) (j2 : 128 ≤ b2 ∧ b2 < 192) (n3 : ((3 : Int) == (s.size : Int)) = false) (i3 : ins (b3 : Int) = true) (j3 : 128 ≤ b3 ∧ b3 < 192) (g : decide ((65536 : Int) ≤ ((((b0 : Int) % 8) * 64 + (b1 : Int) % 64) * 64 + (b2 : Int) % 64) * 64 + (b3 : Int) % 64) = true) (x : isR (((((b0 : Int) % 8) * 64 + (b1 : Int) % 64) * 64 + (b2 : Int) % 64) * 64 + (b3 : Int) % 64) = false) :
    Calls Tryd.prog 59 #[.string s] w fun e w' => e = .returned (.tuple #[.int .i32 0, .int .i64 0]) ∧ w' = w := by
  unfold maxLen at hs
  go_enter Tryd.func59, Tryd.ntmps59
  go_wp2
  refine wp_scope_hops fun J hJ => ?_
  replace hJ := boxed hJ
  go_wp2
  repeat
    go_step3
    try refine hJ.out _ _ _ _ rfl ?_
    go_wp2_with (first | (go_at_call 65; refine (inside_any _ _).mono ?_; rintro e w' ⟨rfl, hw'⟩; subst w') | (go_at_call 66; refine (exists_any _ _).mono ?_; rintro e w' ⟨rfl, hw'⟩; subst w'))
  rw [jumps_ret]
  go_ret2
  exact ⟨rfl, rfl⟩

set_option maxRecDepth 100000 in
set_option maxHeartbeats 1600000 in
theorem read_4ok (s : ByteArray) (w : World) (hs : s.size ≤ maxLen) (he : s.toList.isEmpty = false) (b0 b1 b2 b3 : Nat) (k0 : 3 < s.size) (e0 : s[0].toNat = b0) (e1 : s[1].toNat = b1) (e2 : s[2].toNat = b2) (e3 : s[3].toNat = b3) (h : 240 ≤ b0 ∧ b0 < 248) (n1 : ((1 : Int) == (s.size : Int)) = false) (i1 : ins (b1 : Int) = true) (j1 : 128 ≤ b1 ∧ b1 < 192) (n2 : ((2 : Int) == (s.size : Int)) = false) (i2 : ins (b2 : Int) = true) (j2 : 128 ≤ b2 ∧ b2 < 192) (n3 : ((3 : Int) == (s.size : Int)) = false) (i3 : ins (b3 : Int) = true) (j3 : 128 ≤ b3 ∧ b3 < 192) (g : decide ((65536 : Int) ≤ ((((b0 : Int) % 8) * 64 + (b1 : Int) % 64) * 64 + (b2 : Int) % 64) * 64 + (b3 : Int) % 64) = true) (x : isR (((((b0 : Int) % 8) * 64 + (b1 : Int) % 64) * 64 + (b2 : Int) % 64) * 64 + (b3 : Int) % 64) = true) :
    Calls Tryd.prog 59 #[.string s] w fun e w' => e = .returned (.tuple #[.int .i32 (((((b0 : Int) % 8) * 64 + (b1 : Int) % 64) * 64 + (b2 : Int) % 64) * 64 + (b3 : Int) % 64), .int .i64 4]) ∧ w' = w := by
  unfold maxLen at hs
  go_enter Tryd.func59, Tryd.ntmps59
  go_wp2
  refine wp_scope_hops fun J hJ => ?_
  replace hJ := boxed hJ
  go_wp2
  repeat
    go_step3
    try refine hJ.out _ _ _ _ rfl ?_
    go_wp2_with (first | (go_at_call 65; refine (inside_any _ _).mono ?_; rintro e w' ⟨rfl, hw'⟩; subst w') | (go_at_call 66; refine (exists_any _ _).mono ?_; rintro e w' ⟨rfl, hw'⟩; subst w'))
  rw [jumps_ret]
  go_ret2
  exact ⟨rfl, rfl⟩
end Go.Proofs.YtflhefgmgdgffaaDoor
