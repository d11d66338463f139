/- Sums as plain functions of numbers: the reference's bit by bit, the program's four bits at a time; what a turned bit changes. -/
import Derived.Laws.BitsAllLaws
namespace Go.Proofs.YtimblkkojcbipaaDoor.Sums

/-- One bit of the division. -/
def s1 (c : Nat) : Nat := if c % 2 = 1 then (c / 2) ^^^ 3988292384 else c / 2
def s4 (c : Nat) : Nat := s1 (s1 (s1 (s1 c)))
def tab : List Nat := [0, 498536548, 997073096, 651767980, 1994146192, 1802195444, 1303535960, 1342533948, 3988292384, 4027552580, 3604390888, 3412177804, 2607071920, 2262029012, 2685067896, 3183342108]
/-- Four bits of the division, by the table. -/
def nib (c : Nat) : Nat := (c / 16) ^^^ tab.getD (c % 16) 0
def crcByte (c : Nat) (b : UInt8) : Nat := nib (nib (c ^^^ b.toNat))
def crcL (c : Nat) (l : List UInt8) : Nat := l.foldl crcByte c
def crcLs (c : Nat) (ls : List (List UInt8)) : Nat := ls.foldl crcL c

theorem crcLs_flat (c : Nat) (ls : List (List UInt8)) : crcLs c ls = crcL c ls.flatten := by
  induction ls generalizing c with
  | nil => rfl
  | cons l ls ih => simp only [crcLs, List.foldl_cons, List.flatten_cons, crcL, List.foldl_append]; exact ih _

theorem s1_lt {c : Nat} (h : c < 4294967296) : s1 c < 4294967296 := by
  unfold s1; split
  · exact Nat.xor_lt_two_pow (n := 32) (by omega) (by omega)
  · omega
theorem s1_xor (a b : Nat) : s1 (a ^^^ b) = s1 a ^^^ s1 b := by
  have h2 : (a ^^^ b) / 2 = (a / 2) ^^^ (b / 2) := by
    have := @Nat.xor_div_two_pow a b 1
    simpa using this
  have hm : (a ^^^ b) % 2 = (a % 2) ^^^ (b % 2) := by
    have := @Nat.xor_mod_two_pow a b 1
    simpa using this
  unfold s1
  rw [hm, h2]
  rcases Nat.mod_two_eq_zero_or_one a with ha | ha <;> rcases Nat.mod_two_eq_zero_or_one b with hb | hb <;> simp only [ha, hb] <;> simp only [show (0 ^^^ 0 : Nat) = 0 from rfl, show (0 ^^^ 1 : Nat) = 1 from rfl, show (1 ^^^ 0 : Nat) = 1 from rfl, show (1 ^^^ 1 : Nat) = 0 from rfl] <;> simp
  · rw [Nat.xor_assoc]
  · rw [Nat.xor_assoc, Nat.xor_assoc, Nat.xor_comm (b / 2)]
  · rw [Nat.xor_assoc, ← Nat.xor_assoc 3988292384, Nat.xor_comm 3988292384, Nat.xor_assoc (b / 2), Nat.xor_self, Nat.xor_zero]
theorem s4_xor (a b : Nat) : s4 (a ^^^ b) = s4 a ^^^ s4 b := by simp only [s4, s1_xor]
theorem s1_two (y : Nat) : s1 (2 * y) = y := by unfold s1; rw [if_neg (by omega)]; omega
theorem s4_high (y : Nat) : s4 (16 * y) = y := by
  have h : 16 * y = 2 * (2 * (2 * (2 * y))) := by omega
  rw [h]; simp only [s4, s1_two]
theorem s4_low : ∀ l, l < 16 → s4 l = tab.getD l 0 := by decide
theorem nib_eq (c : Nat) : nib c = s4 c := by
  have hc : c = (16 * (c / 16)) ^^^ (c % 16) := by
    have hlt : c % 16 < 2 ^ 4 := by omega
    have h1 := Nat.two_pow_add_eq_or_of_lt hlt (c / 16)
    have h2 : (16 * (c / 16)) ^^^ (c % 16) = (16 * (c / 16)) ||| (c % 16) := by
      apply Nat.eq_of_testBit_eq
      intro i
      rw [Nat.testBit_xor, Nat.testBit_or]
      rcases Nat.lt_or_ge i 4 with h | h
      · have : (16 * (c / 16)).testBit i = false := by
          rw [show (16 : Nat) = 2 ^ 4 from rfl, Nat.testBit_two_pow_mul]; simp; omega
        simp [this]
      · have : (c % 16).testBit i = false := Nat.testBit_lt_two_pow (Nat.lt_of_lt_of_le hlt (Nat.pow_le_pow_right (by decide) h))
        simp [this]
    rw [h2, ← h1]; omega
  unfold nib
  conv => rhs; rw [hc, s4_xor, s4_high, s4_low _ (Nat.mod_lt _ (by decide))]
theorem s4_lt {c : Nat} (h : c < 4294967296) : s4 c < 4294967296 := s1_lt (s1_lt (s1_lt (s1_lt h)))
theorem nib_lt {c : Nat} (h : c < 4294967296) : nib c < 4294967296 := by rw [nib_eq]; exact s4_lt h
theorem xorb_lt {c : Nat} (h : c < 4294967296) (b : UInt8) : c ^^^ b.toNat < 4294967296 :=
  Nat.xor_lt_two_pow (n := 32) (by omega) (by have := b.toNat_lt; omega)
theorem crcByte_lt {c : Nat} (h : c < 4294967296) (b : UInt8) : crcByte c b < 4294967296 := nib_lt (nib_lt (xorb_lt h b))
theorem crcL_lt (l : List UInt8) : ∀ {c : Nat}, c < 4294967296 → crcL c l < 4294967296 := by
  induction l with
  | nil => intro c h; exact h
  | cons b l ih => intro c h; exact ih (crcByte_lt h b)
theorem crcLs_lt (ls : List (List UInt8)) {c : Nat} (h : c < 4294967296) : crcLs c ls < 4294967296 := by
  rw [crcLs_flat]; exact crcL_lt _ h

/-- The document's sum of a list of parts. -/
def crc (ls : List (List UInt8)) : Nat := 4294967295 ^^^ crcLs 4294967295 ls

theorem crc_lt (ls : List (List UInt8)) : crc ls < 4294967296 := Nat.xor_lt_two_pow (n := 32) (by decide) (crcLs_lt _ (by decide))
/-- So many bits of the division. -/
def s1n : Nat → Nat → Nat
  | 0, c => c
  | n + 1, c => s1 (s1n n c)
theorem s1n_lt (n : Nat) {c : Nat} (h : c < 4294967296) : s1n n c < 4294967296 := by
  induction n with
  | zero => exact h
  | succ n ih => exact s1_lt ih
theorem s1n_eight (c : Nat) : s1n 8 c = nib (nib c) := by simp only [nib_eq, s4, s1n]

/-- One step of the fingerprint. -/
def fnv (h b : Nat) : Nat := (h ^^^ b) * 1099511628211 % 18446744073709551616
def fnvL (h : Nat) (l : List UInt8) : Nat := l.foldl (fun h c => fnv h c.toNat) h
def fnvN (h n : Nat) : Nat := fnv (fnv (fnv (fnv h (n / 16777216 % 256)) (n / 65536 % 256)) (n / 256 % 256)) (n % 256)
def fnvS (h : Nat) (s : ByteArray) : Nat := fnvL (fnvN h (s.size % 4294967296)) s.data.toList
def prints (h : Nat) (ss : List ByteArray) : Nat := ss.foldl fnvS h
theorem fnv_lt (h b : Nat) : fnv h b < 18446744073709551616 := Nat.mod_lt _ (by decide)
theorem fnvL_lt (l : List UInt8) : ∀ {h : Nat}, h < 18446744073709551616 → fnvL h l < 18446744073709551616 := by
  induction l with
  | nil => intro h hh; exact hh
  | cons b l ih => intro h _; exact ih (fnv_lt _ _)
theorem fnvN_lt (h n : Nat) : fnvN h n < 18446744073709551616 := fnv_lt _ _
theorem fnvS_lt (h : Nat) (s : ByteArray) : fnvS h s < 18446744073709551616 := fnvL_lt _ (fnvN_lt _ _)
theorem prints_lt (ss : List ByteArray) : ∀ {h : Nat}, h < 18446744073709551616 → prints h ss < 18446744073709551616 := by
  induction ss with
  | nil => intro h hh; exact hh
  | cons b l ih => intro h _; exact ih (fnvS_lt _ _)
end Go.Proofs.YtimblkkojcbipaaDoor.Sums
