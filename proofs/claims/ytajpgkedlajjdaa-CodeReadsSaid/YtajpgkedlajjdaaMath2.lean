/- What is written is read back: the document's bytes, as lists. -/
import Derived.Test.YtajpgkedlajjdaaKnown
namespace Go.Proofs.Ytajpgkedlajjdaa
open Go.RowKit

theorem ret_num {k : IntKind} {a b : Int} (h : a = b) : Ending.returned (.int k a) = .returned (.int k b) := by rw [h]
theorem pow9 : (128 : Nat) ^ 9 = 9223372036854775808 := by decide
theorem dnum_num (r : List UInt8) : ∀ (n i acc : Nat), i ≤ 9 → n * 128 ^ i < 18446744073709551616 → (i ≠ 0 → 0 < n) → dnum i acc (num n ++ r) = some (acc + n * 128 ^ i, r) := by
  intro n
  induction n using Nat.strongRecOn with
  | ind n ih =>
    intro i acc hi hn hp
    have h9 : i = 9 → n ≤ 1 := by
      rintro rfl
      rw [pow9] at hn
      omega
    by_cases hs : n < 128
    · have e : (UInt8.ofNat n).toNat = n := by rw [UInt8.toNat_ofNat_of_lt' (by simp [UInt8.size]; omega)]
      rw [num_small hs]
      show dnum i acc (UInt8.ofNat n :: r) = _
      rw [dnum_last e (by omega) (by omega) (by omega), Nat.mod_eq_of_lt hs]
    · have e : (UInt8.ofNat (n % 128 + 128)).toNat = n % 128 + 128 := by rw [UInt8.toNat_ofNat_of_lt' (by simp [UInt8.size]; omega)]
      have hi8 : i < 9 := by omega
      have hsplit : n = n / 128 * 128 + n % 128 := by omega
      have hpow : n * 128 ^ i = n / 128 * 128 ^ (i + 1) + n % 128 * 128 ^ i := by
        rw [Nat.pow_succ, Nat.mul_comm (128 ^ i) 128, ← Nat.mul_assoc, ← Nat.add_mul, ← hsplit]
      rw [num_great (by omega)]
      show dnum i acc (UInt8.ofNat (n % 128 + 128) :: (num (n / 128) ++ r)) = _
      rw [dnum_more e (by omega) (by omega), show (n % 128 + 128) % 128 = n % 128 by omega, ih (n / 128) (by omega) (i + 1) _ (by omega) (by omega) (fun _ => by omega), hpow]
      congr 2; omega
theorem dnum0_num {n : Nat} (r : List UInt8) (h : n < 18446744073709551616) : dnum0 (num n ++ r) = some (n, r) := by
  have := dnum_num r n 0 0 (by omega) (by simpa using h) (by simp)
  show dnum 0 0 (num n ++ r) = _
  rw [this]; simp
theorem num_inj {a b : Nat} (ha : a < 18446744073709551616) (hb : b < 18446744073709551616) (h : num a = num b) : a = b := by
  have h1 := dnum0_num [] ha
  have h2 := dnum0_num [] hb
  rw [h, h2] at h1
  injection h1 with h1
  injection h1 with h1 _
  exact h1.symm
theorem unzig_zig (a : Int) : unzig (zig a) = a := by
  unfold unzig zig
  split <;> split <;> omega
theorem dint_num {a : Int} (r : List UInt8) (h1 : -9223372036854775808 ≤ a) (h2 : a ≤ 9223372036854775807) : dint (num (zig a) ++ r) = some (a, r) := by
  have := dnum0_num r (zig_lt h1 h2)
  unfold dint
  rw [show dnum 0 0 (num (zig a) ++ r) = _ from this]
  simp [unzig_zig]
theorem zig_inj {a b : Int} (h : zig a = zig b) : a = b := by rw [← unzig_zig a, ← unzig_zig b, h]

set_option maxRecDepth 100000 in
theorem lawZig_any (n : Int) (w : World) (h1 : -9223372036854775808 ≤ n) (h2 : n ≤ 9223372036854775807) :
    Calls Try.prog 35 #[.int .i64 n] w fun e w' => e = .returned (.int .u64 (zig n : Nat)) ∧ w = w' := by
  by_cases hn : n < 0
  · have hz := hide (zig_neg hn)
    obtain ⟨x, hx⟩ : ∃ x : Nat, n = -1 - (x : Int) := ⟨(-1 - n).toNat, by omega⟩
    subst hx
    rw [show (-1 - (-1 - (x : Int))).toNat = x by omega] at hz
    go_enter Try.func35, Try.ntmps35
    go_wp2_with fail
    go_ret
    rw [hz.out]
    exact ⟨ret_num (by push_cast; omega), rfl⟩
  · have hz := hide (zig_pos hn)
    obtain ⟨x, rfl⟩ := Int.eq_ofNat_of_zero_le (Int.not_lt.1 hn)
    go_enter Try.func35, Try.ntmps35
    go_wp2_with fail
    go_ret
    rw [hz.out]
    exact ⟨by simp, rfl⟩
end Go.Proofs.Ytajpgkedlajjdaa
