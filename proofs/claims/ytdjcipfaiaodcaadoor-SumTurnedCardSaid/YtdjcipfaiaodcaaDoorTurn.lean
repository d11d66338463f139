/- What turned bits change: of at most 4000 bits, one, two or three that are turned never leave the sum as it was. Plain numbers. -/
import Derived.Test.YtdjcipfaiaodcaaDoorMath
namespace Go.Proofs.YtdjcipfaiaodcaaDoor.Sums

def step (c : Nat) : Nat := (c / 2) ^^^ (3988292384 * (c % 2))
def run : Nat → Nat → List Nat
  | 0, _ => []
  | n + 1, c => c :: run n (step c)
def half (r : Nat) : List Nat → List Nat
  | [] => []
  | x :: l => if x % 2 = r then x / 2 :: half r l else half r l
/-- No number stands in both lists (parted bit by bit). -/
def sepR : Nat → List Nat → List Nat → Bool
  | _, [], _ => true
  | _, _ :: _, [] => true
  | 0, _ :: _, _ :: _ => false
  | f + 1, x :: a, y :: b => sepR f (half 0 (x :: a)) (half 0 (y :: b)) && sepR f (half 1 (x :: a)) (half 1 (y :: b))
def noOne : List Nat → Bool
  | [] => true
  | x :: l => if x = 1 then false else noOne l
set_option maxRecDepth 100000 in
theorem sep_fact : sepR 32 (run 4000 (step 1)) ((run 4000 (step 1)).map fun x => x ^^^ 1) = true := by decide +kernel

theorem mem_half {r x : Nat} {l : List Nat} (h : x ∈ l) (hr : x % 2 = r) : x / 2 ∈ half r l := by
  induction l with
  | nil => cases h
  | cons y l ih =>
    unfold half
    rcases List.mem_cons.1 h with rfl | h
    · rw [if_pos hr]; exact List.mem_cons_self
    · split
      · exact List.mem_cons_of_mem _ (ih h)
      · exact ih h
theorem sepR_spec : ∀ (f : Nat) (a b : List Nat), sepR f a b = true → ∀ x, x ∈ a → x ∉ b
  | _, [], _, _, _, h => by cases h
  | _, _ :: _, [], _, _, _ => by intro h; cases h
  | 0, _ :: _, _ :: _, h, _, _ => by simp [sepR] at h
  | f + 1, x :: a, y :: b, h, z, hz => by
    intro hb
    unfold sepR at h
    rw [Bool.and_eq_true] at h
    rcases Nat.mod_two_eq_zero_or_one z with h0 | h1
    · exact sepR_spec f _ _ h.1 (z / 2) (mem_half hz h0) (mem_half hb h0)
    · exact sepR_spec f _ _ h.2 (z / 2) (mem_half hz h1) (mem_half hb h1)

theorem step_eq (c : Nat) : step c = s1 c := by
  unfold step s1
  rcases Nat.mod_two_eq_zero_or_one c with h | h
  · rw [h, if_neg (by omega), Nat.mul_zero, Nat.xor_zero]
  · rw [h, if_pos rfl, Nat.mul_one]
theorem s1n_succ' (n c : Nat) : s1n (n + 1) c = s1n n (s1 c) := by
  induction n with
  | zero => rfl
  | succ n ih => show s1 (s1n (n + 1) c) = s1 (s1n n (s1 c)); rw [ih]
theorem s1n_add (a b c : Nat) : s1n (a + b) c = s1n a (s1n b c) := by
  induction a with
  | zero => rw [Nat.zero_add]; rfl
  | succ a ih => rw [Nat.add_right_comm]; show s1 (s1n (a + b) c) = s1 (s1n a (s1n b c)); rw [ih]
theorem mem_run : ∀ (n i c : Nat), i < n → s1n i c ∈ run n c
  | 0, _, _, h => by omega
  | n + 1, 0, c, _ => by unfold run; exact List.mem_cons_self
  | n + 1, i + 1, c, h => by
    unfold run
    rw [s1n_succ', ← step_eq]
    exact List.mem_cons_of_mem _ (mem_run n i (step c) (by omega))
theorem s1n_xor (n a b : Nat) : s1n n (a ^^^ b) = s1n n a ^^^ s1n n b := by
  induction n with
  | zero => rfl
  | succ n ih => show s1 (s1n n (a ^^^ b)) = s1 (s1n n a) ^^^ s1 (s1n n b); rw [ih, s1_xor]
theorem s1_zero {c : Nat} (hc : c < 4294967296) (h : s1 c = 0) : c = 0 := by
  unfold s1 at h
  split at h
  · have h2 : c / 2 = 3988292384 := by
      have := congrArg (fun x => x ^^^ 3988292384) h
      simp only [Nat.xor_assoc, Nat.xor_self, Nat.xor_zero, Nat.zero_xor] at this
      exact this
    omega
  · omega
theorem s1n_zero (n : Nat) {c : Nat} (hc : c < 4294967296) (h : s1n n c = 0) : c = 0 := by
  induction n with
  | zero => exact h
  | succ n ih => exact ih (s1_zero (s1n_lt n hc) h)

/-- What a lone bit leaves so many bits later. -/
def bitT (m : Nat) : Nat := s1n m 1
theorem bitT_lt (m : Nat) : bitT m < 4294967296 := s1n_lt m (by decide)
theorem bitT_ne (m : Nat) : bitT m ≠ 0 := fun h => by have := s1n_zero m (by decide) h; omega
theorem xor_lt32 {a b : Nat} (ha : a < 4294967296) (hb : b < 4294967296) : a ^^^ b < 4294967296 := Nat.xor_lt_two_pow (n := 32) (by omega) (by omega)
theorem one_two (i j : Nat) (hi : i < 4000) (hj : j < 4000) : 1 ^^^ bitT i ^^^ bitT j ≠ 0 := by
  intro h
  rcases Nat.eq_zero_or_pos i with rfl | hi0
  · rw [show bitT 0 = 1 from rfl, Nat.xor_self, Nat.zero_xor] at h
    exact bitT_ne j h
  rcases Nat.eq_zero_or_pos j with rfl | hj0
  · rw [show bitT 0 = 1 from rfl, Nat.xor_comm, ← Nat.xor_assoc, Nat.xor_self, Nat.zero_xor] at h
    exact bitT_ne i h
  have hmi : bitT i ∈ run 4000 (step 1) := by
    have := mem_run 4000 (i - 1) (step 1) (by omega)
    rw [step_eq, ← s1n_succ', Nat.sub_add_cancel hi0, ← step_eq] at this
    exact this
  have hmj : bitT j ∈ run 4000 (step 1) := by
    have := mem_run 4000 (j - 1) (step 1) (by omega)
    rw [step_eq, ← s1n_succ', Nat.sub_add_cancel hj0, ← step_eq] at this
    exact this
  have he : bitT j ^^^ 1 = bitT i := by
    have h2 := congrArg (fun x => bitT i ^^^ x) h
    simp only [Nat.xor_zero] at h2
    rw [← h2, ← Nat.xor_assoc, Nat.xor_comm 1 (bitT i), ← Nat.xor_assoc, Nat.xor_self, Nat.zero_xor, Nat.xor_comm]
  exact sepR_spec 32 _ _ sep_fact (bitT i) hmi (List.mem_map.2 ⟨bitT j, hmj, he⟩)
theorem bitT_shift (m a : Nat) (h : m ≤ a) : bitT a = s1n m (bitT (a - m)) := by
  unfold bitT; rw [← s1n_add]; congr 1; omega
theorem three (a b c : Nat) (ha : 1 ≤ a ∧ a ≤ 4000) (hb : 1 ≤ b ∧ b ≤ 4000) (hc : 1 ≤ c ∧ c ≤ 4000) : bitT a ^^^ bitT b ^^^ bitT c ≠ 0 := by
  have key : ∀ a b c, 1 ≤ a → a ≤ b → a ≤ c → b ≤ 4000 → c ≤ 4000 → bitT a ^^^ bitT b ^^^ bitT c ≠ 0 := by
    intro a b c h1 h2 h3 h4 h5 h
    rw [bitT_shift a a (Nat.le_refl _), bitT_shift a b h2, bitT_shift a c h3, Nat.sub_self, ← s1n_xor, ← s1n_xor] at h
    have h0 := s1n_zero a (xor_lt32 (xor_lt32 (bitT_lt _) (bitT_lt _)) (bitT_lt _)) h
    exact one_two (b - a) (c - a) (by omega) (by omega) h0
  rcases Nat.le_total a b with h1 | h1 <;> rcases Nat.le_total b c with h2 | h2 <;> rcases Nat.le_total a c with h3 | h3
  · exact key a b c ha.1 h1 h3 hb.2 hc.2
  · exact key a b c ha.1 h1 (by omega) hb.2 hc.2
  · exact key a b c ha.1 h1 h3 hb.2 hc.2
  · intro h; exact key c a b hc.1 h3 h2 ha.2 hb.2 (by rw [Nat.xor_assoc, Nat.xor_comm]; exact h)
  · intro h; exact key b a c hb.1 h1 h2 ha.2 hc.2 (by rw [Nat.xor_comm (bitT b)]; exact h)
  · intro h; exact key b a c hb.1 h1 h2 ha.2 hc.2 (by rw [Nat.xor_comm (bitT b)]; exact h)
  · intro h; exact key c a b hc.1 (by omega) h2 ha.2 hb.2 (by rw [Nat.xor_assoc, Nat.xor_comm]; exact h)
  · intro h; exact key c a b hc.1 h3 h2 ha.2 hb.2 (by rw [Nat.xor_assoc, Nat.xor_comm]; exact h)

/-- The bytes with bit p turned. -/
def tog (l : List UInt8) (p : Nat) : List UInt8 := l.set (p / 8) (l.getD (p / 8) 0 ^^^ UInt8.ofNat (2 ^ (p % 8)))
theorem tog_len (l : List UInt8) (p : Nat) : (tog l p).length = l.length := by simp [tog]
theorem crcByte_s1n (c : Nat) (b : UInt8) : crcByte c b = s1n 8 (c ^^^ b.toNat) := by rw [s1n_eight]; rfl
theorem crcL_start (l : List UInt8) : ∀ x y, crcL (x ^^^ y) l = crcL x l ^^^ s1n (8 * l.length) y := by
  induction l with
  | nil => intro x y; rfl
  | cons b l ih =>
    intro x y
    show crcL (crcByte (x ^^^ y) b) l = crcL (crcByte x b) l ^^^ s1n (8 * (l.length + 1)) y
    have e : crcByte (x ^^^ y) b = crcByte x b ^^^ s1n 8 y := by
      rw [crcByte_s1n, crcByte_s1n, ← s1n_xor, Nat.xor_assoc, Nat.xor_comm y, ← Nat.xor_assoc]
    rw [e, ih, ← s1n_add, Nat.mul_add]
theorem s1n_pow : ∀ p, p < 8 → s1n 8 (2 ^ p) = bitT (8 - p) := by decide
theorem crc_tog (l : List UInt8) : ∀ (p x : Nat), p < 8 * l.length → crcL x (tog l p) = crcL x l ^^^ bitT (8 * l.length - p) := by
  induction l with
  | nil => intro p x h; simp at h
  | cons b l ih =>
    intro p x h
    rw [List.length_cons] at h ⊢
    by_cases hp : p < 8
    · have e0 : p / 8 = 0 := by omega
      have e1 : p % 8 = p := by omega
      have e2 : (UInt8.ofNat (2 ^ p)).toNat = 2 ^ p := by
        rw [UInt8.toNat_ofNat_of_lt']
        exact Nat.pow_lt_pow_right (by decide) hp
      unfold tog
      rw [e0, e1]
      show crcL (crcByte x (b ^^^ UInt8.ofNat (2 ^ p))) l = crcL (crcByte x b) l ^^^ bitT (8 * (l.length + 1) - p)
      have e : crcByte x (b ^^^ UInt8.ofNat (2 ^ p)) = crcByte x b ^^^ bitT (8 - p) := by
        rw [crcByte_s1n, crcByte_s1n, UInt8.toNat_xor, e2, ← Nat.xor_assoc, s1n_xor, s1n_pow p hp]
      rw [e, crcL_start]
      congr 1
      unfold bitT
      rw [← s1n_add]
      congr 1
      omega
    · have e0 : p / 8 = (p - 8) / 8 + 1 := by omega
      have e1 : p % 8 = (p - 8) % 8 := by omega
      have e2 : tog (b :: l) p = b :: tog l (p - 8) := by
        unfold tog; rw [e0, e1]; rfl
      rw [e2]
      show crcL (crcByte x b) (tog l (p - 8)) = crcL (crcByte x b) l ^^^ bitT (8 * (l.length + 1) - p)
      rw [ih (p - 8) _ (by omega)]
      congr 2
      omega
theorem crc_one (l : List UInt8) : crc [l] = 4294967295 ^^^ crcL 4294967295 l := rfl
theorem xor_left {a b c : Nat} (h : a ^^^ b = a ^^^ c) : b = c := by
  have := congrArg (fun x => a ^^^ x) h
  simp only [← Nat.xor_assoc, Nat.xor_self, Nat.zero_xor] at this
  exact this
theorem turned_one (l : List UInt8) (p : Nat) (hp : p < 8 * l.length) : crc [tog l p] ≠ crc [l] := by
  intro h
  rw [crc_one, crc_one] at h
  have h2 := xor_left h
  rw [crc_tog l p _ hp] at h2
  have h3 : bitT (8 * l.length - p) = 0 := xor_left (a := crcL 4294967295 l) (by rw [h2, Nat.xor_zero])
  exact bitT_ne _ h3
theorem turned_three (l : List UInt8) (p q r : Nat) (hl : l.length ≤ 500) (hp : p < 8 * l.length) (hq : q < 8 * l.length) (hr : r < 8 * l.length) : crc [tog (tog (tog l p) q) r] ≠ crc [l] := by
  intro h
  rw [crc_one, crc_one] at h
  have h2 := xor_left h
  rw [crc_tog _ r _ (by rw [tog_len, tog_len]; exact hr), crc_tog _ q _ (by rw [tog_len]; exact hq), crc_tog l p _ hp] at h2
  simp only [tog_len] at h2
  have h3 : bitT (8 * l.length - p) ^^^ (bitT (8 * l.length - q) ^^^ bitT (8 * l.length - r)) = 0 := xor_left (a := crcL 4294967295 l) (by rw [← Nat.xor_assoc, ← Nat.xor_assoc, h2, Nat.xor_zero])
  rw [← Nat.xor_assoc] at h3
  exact three _ _ _ (by omega) (by omega) (by omega) h3
end Go.Proofs.YtdjcipfaiaodcaaDoor.Sums
