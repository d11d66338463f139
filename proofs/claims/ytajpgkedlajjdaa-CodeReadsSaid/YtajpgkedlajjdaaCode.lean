/- The document's bytes, as lists. -/
import Derived.Test.YtajpgkedlajjdaaMem
import Derived.Laws.BitsAllLaws
namespace Go.Proofs.Ytajpgkedlajjdaa
/-- A number's bytes. -/
def num (n : Nat) : List UInt8 := if n < 128 then [UInt8.ofNat n] else UInt8.ofNat (n % 128 + 128) :: num (n / 128)
termination_by n
decreasing_by omega
theorem num_small {n : Nat} (h : n < 128) : num n = [UInt8.ofNat n] := by rw [num, if_pos h]
theorem num_great {n : Nat} (h : 128 ≤ n) : num n = UInt8.ofNat (n % 128 + 128) :: num (n / 128) := by rw [num, if_neg (by omega)]
theorem num_len (k : Nat) : ∀ n, n < 128 ^ (k + 1) → (num n).length ≤ k + 1 := by
  induction k with
  | zero => intro n h; rw [num_small (by omega)]; simp
  | succ k ih =>
    intro n h
    by_cases hs : n < 128
    · rw [num_small hs]; simp
    · rw [num_great (by omega)]
      have : n / 128 < 128 ^ (k + 1) := by rw [Nat.div_lt_iff_lt_mul (by omega)]; rw [Nat.pow_succ] at h; exact h
      have := ih _ this
      simp only [List.length_cons]; omega
theorem pow70 : 128 ^ (9 + 1) = 1180591620717411303424 := by decide
theorem num_len10 {n : Nat} (h : n < 18446744073709551616) : (num n).length ≤ 10 := by
  have h2 : n < 128 ^ (9 + 1) := Nat.lt_of_lt_of_le h (by rw [pow70]; decide)
  exact num_len 9 n h2
/-- A signed number as an unsigned one. -/
def zig (n : Int) : Nat := if n < 0 then (-(2 * n) - 1).toNat else (2 * n).toNat
def nums (ns : List Nat) : List UInt8 := (ns.map num).flatten
theorem or128 (n : Nat) (h : n < 256) : n ||| 128 = n % 128 + 128 := by
  have : ∀ n : Fin 256, n.val ||| 128 = n.val % 128 + 128 := by decide +kernel
  exact this ⟨n, h⟩
theorem u8_more (n : Nat) : bits .or .u8 ((n % 256 : Nat) : Int) 128 = ((n % 128 + 128 : Nat) : Int) := by
  have := u8_or_nat (n % 256) 128 (by omega) (by decide)
  have e : n % 256 % 128 + 128 = n % 128 + 128 := by omega
  rw [or128 _ (by omega), e] at this
  exact this
theorem num_mono (m : Nat) : ∀ n, n ≤ m → (num n).length ≤ (num m).length := by
  induction m using Nat.strongRecOn with
  | ind m ih =>
    intro n h
    by_cases hn : n < 128
    · rw [num_small hn]
      by_cases hm : m < 128
      · rw [num_small hm]; simp
      · rw [num_great (by omega)]; simp
    · rw [num_great (by omega), num_great (n := m) (by omega)]
      have := ih (m / 128) (by omega) (n / 128) (by omega)
      simp only [List.length_cons]; omega
end Go.Proofs.Ytajpgkedlajjdaa
