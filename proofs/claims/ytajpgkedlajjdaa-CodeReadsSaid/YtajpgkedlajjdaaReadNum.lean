/- Walks of the reader: numbers. -/
import Derived.Test.YtajpgkedlajjdaaReader
namespace Go.Proofs.Ytajpgkedlajjdaa
open Go.RowKit

/-- What bytes tell as a number: its place, what was told already. -/
def dnum (i acc : Nat) : List UInt8 → Option (Nat × List UInt8)
  | [] => none
  | c :: r => if 9 ≤ i ∧ 1 < c.toNat then none else if 128 ≤ c.toNat then dnum (i + 1) (acc + c.toNat % 128 * 128 ^ i) r else if c.toNat = 0 ∧ i ≠ 0 then none else some (acc + c.toNat * 128 ^ i, r)

/-- What a decoding method comes to: it tells a value and what is left, or panics. -/
def Told {α : Type} (D p : Nat) (w : World) (f : α → Value) (o : Option (α × List UInt8)) (e : Ending) (w' : World) : Prop :=
  Upd (At p) w w' ∧ (match o with
    | some (a, r) => e = .returned (f a) ∧ Rd w' D p r false
    | none => (∃ pv, e = .panicked [{ v := .iface 108 pv, recovered := false }]) ∧ ∃ r, Rd w' D p r false)
def u64v (n : Nat) : Value := .int .u64 n

theorem pow_128 (i : Nat) : (2 : Nat) ^ (7 * i) = 128 ^ i := by rw [Nat.pow_mul]
theorem pow_le {i : Nat} (h : i ≤ 8) : (128 : Nat) ^ i ≤ 72057594037927936 := by
  have := Nat.pow_le_pow_right (n := 128) (by decide) h
  have e : (128 : Nat) ^ 8 = 72057594037927936 := by decide
  omega
/-- What one byte of a number adds. -/
theorem step_pack (i acc c : Nat) (hi : i ≤ 9) (hacc : acc < 128 ^ i) (hc : c < 256) (h9 : i = 9 → c ≤ 1) :
    ∃ m y z : Nat, bits .andNot .u8 (c : Int) 128 = (m : Int) ∧ IntKind.u64.wrap (m : Int) = (m : Int) ∧ IntKind.u64.wrap ((m : Int) * 2 ^ (7 * i)) = (y : Int) ∧ bits .or .u64 (acc : Int) (y : Int) = (z : Int) ∧ z = acc + c % 128 * 128 ^ i ∧ z < 128 ^ (i + 1) ∧ z < 18446744073709551616 := by
  have hpow : ((2 : Int) ^ (7 * i)) = ((128 ^ i : Nat) : Int) := by rw [← pow_128]; simp
  have hm : c &&& 127 = c % 128 := nat_mask7 c
  have hA := u8_andNot_nat c 128 hc (by decide)
  have e127 : 255 - 128 = 127 := by decide
  rw [e127, hm] at hA
  have hmul : c % 128 * 128 ^ i < 128 ^ (i + 1) := by
    rw [Nat.pow_succ, Nat.mul_comm (128 ^ i) 128]
    exact (Nat.mul_lt_mul_right (Nat.pow_pos (by decide))).2 (Nat.mod_lt _ (by decide))
  have hz : acc + c % 128 * 128 ^ i < 128 ^ (i + 1) := by
    have h1 : c % 128 + 1 ≤ 128 := by omega
    have h2 := Nat.mul_le_mul_right (128 ^ i) h1
    rw [Nat.add_mul, Nat.one_mul] at h2
    rw [Nat.pow_succ, Nat.mul_comm (128 ^ i) 128]
    omega
  have hzz : acc + c % 128 * 128 ^ i < 18446744073709551616 := by
    rcases Nat.lt_or_ge i 9 with h | h
    · have h3 := pow_le (i := i) (by omega)
      have : 128 ^ (i + 1) ≤ 9223372036854775808 := by rw [Nat.pow_succ]; omega
      omega
    · obtain rfl : i = 9 := by omega
      have hc1 := h9 rfl
      have e : (128 : Nat) ^ 9 = 9223372036854775808 := by decide
      rw [e] at hacc ⊢
      have : c % 128 ≤ 1 := by omega
      omega
  refine ⟨c % 128, c % 128 * 128 ^ i, acc + c % 128 * 128 ^ i, hA, ?_, ?_, ?_, rfl, hz, hzz⟩
  · simp [IntKind.wrap, IntKind.bits, IntKind.signed]; omega
  · rw [hpow]
    have : ((c % 128 : Nat) : Int) * ((128 ^ i : Nat) : Int) = ((c % 128 * 128 ^ i : Nat) : Int) := by push_cast; rfl
    rw [this]
    generalize c % 128 * 128 ^ i = q at *
    simp [IntKind.wrap, IntKind.bits, IntKind.signed]; omega
  · have h := u64_or_nat acc (c % 128 * 128 ^ i) (by omega) (by omega)
    rw [h]
    have hcm : acc ||| c % 128 * 128 ^ i = acc + c % 128 * 128 ^ i := by
      rw [Nat.or_comm, Nat.add_comm]
      exact nat_join (7 * i) _ _ (by rw [pow_128]; exact Nat.mul_mod_left _ _) (by rw [pow_128]; exact hacc)
    rw [hcm]

theorem dnum_more {i acc c : Nat} {b : UInt8} {r : List UInt8} (hb : b.toNat = c) (h9 : ¬ (9 ≤ i ∧ 1 < c)) (h : 128 ≤ c) : dnum i acc (b :: r) = dnum (i + 1) (acc + c % 128 * 128 ^ i) r := by
  subst hb; rw [dnum, if_neg h9, if_pos h]
theorem dnum_great {i acc c : Nat} {b : UInt8} {r : List UInt8} (hb : b.toNat = c) (h9 : 9 ≤ i ∧ 1 < c) : dnum i acc (b :: r) = none := by
  subst hb; rw [dnum, if_pos h9]
theorem dnum_zero {i acc c : Nat} {b : UInt8} {r : List UInt8} (hb : b.toNat = c) (h0 : c = 0) (hi : i ≠ 0) : dnum i acc (b :: r) = none := by
  subst hb; rw [dnum, if_neg (by omega), if_neg (by omega), if_pos ⟨h0, hi⟩]
theorem dnum_last {i acc c : Nat} {b : UInt8} {r : List UInt8} (hb : b.toNat = c) (h9 : ¬ (9 ≤ i ∧ 1 < c)) (h : ¬ 128 ≤ c) (h0 : ¬ (c = 0 ∧ i ≠ 0)) : dnum i acc (b :: r) = some (acc + c % 128 * 128 ^ i, r) := by
  subst hb; rw [dnum, if_neg h9, if_neg h, if_neg h0, Nat.mod_eq_of_lt (by omega : b.toNat < 128)]
theorem dnum_lt : ∀ (l : List UInt8) (i acc n : Nat) (r : List UInt8), i ≤ 9 → acc < 128 ^ i → dnum i acc l = some (n, r) → n < 18446744073709551616
  | [], _, _, _, _, _, _, h => by simp [dnum] at h
  | c :: t, i, acc, n, r, hi, hacc, h => by
    rw [dnum] at h
    split at h
    · cases h
    · rename_i h9
      obtain ⟨m, y, z, -, -, -, -, hz, hz1, hz2⟩ := step_pack i acc c.toNat hi hacc c.toNat_lt (by omega)
      split at h
      · refine dnum_lt t (i + 1) _ n r ?_ ?_ h
        · rcases Nat.lt_or_ge i 9 with h1 | h1
          · omega
          · have : ¬ 1 < c.toNat := by omega
            omega
        · rw [hz] at hz1; exact hz1
      · split at h
        · cases h
        · rename_i h128 _
          injection h with h
          injection h with h1 h2
          rw [← h1, ← Nat.mod_eq_of_lt (show c.toNat < 128 by omega), ← hz]
          exact hz2

set_option maxRecDepth 100000 in
set_option maxHeartbeats 1600000 in
theorem num_any (D p : Nat) (l : List UInt8) (w : World) (hR : Rd w D p l false) :
    Calls Try.prog 46 #[.pointer (some ⟨p, 0, none⟩)] w fun e w' => Told D p w u64v (dnum 0 0 l) e w' := by
  replace hR := hide hR
  go_enter Try.func46, Try.ntmps46
  go_wp2_with fail
  go_loopw [3, 4] (fun z s wr => ∃ (i acc : Nat) (l' : List UInt8), i ≤ 9 ∧ acc < 128 ^ i ∧ z = .int .u64 acc ∧ s = .int .i64 ((7 * i : Nat) : Int) ∧ Rd wr D p l' false ∧ Upd (At p) w wr ∧ dnum i acc l' = dnum 0 0 l) (fun _ s _ => 64 - (intOf s).toNat)
  case atStart => exact ⟨0, 0, l, Nat.zero_le _, by simp, rfl, rfl, hR.out, .refl _ _, rfl⟩
  case round =>
    obtain ⟨i, acc, l', hi, hacc, rfl, rfl, hR', hU, hE⟩ := hrel
    replace hU := hide hU
    generalize hs : 7 * i = s at *
    replace hs := hide hs
    replace hacc := hide hacc
    cases l' with
    | nil =>
      replace hE := hide hE
      go_wp2_with fail
      refine (next_any D p [] false _ hR').mono ?_
      rintro e w2 ⟨hU2, ⟨pv, rfl⟩, hR2⟩
      go_wp2_with fail
      refine ⟨rfl, ?_⟩
      rw [← hE.out]
      exact ⟨hU.out.then hU2, ⟨_, rfl⟩, _, hR2⟩
    | cons b r =>
      replace hR' := hide hR'
      have hb := b.toNat_lt
      generalize hbc : b.toNat = c at *
      replace hbc := hide hbc
      by_cases h9 : 9 ≤ i ∧ 1 < c
      · rw [dnum_great hbc.out h9] at hE
        replace hE := hide hE
        have h63 : ¬ (s : Int) < 63 := by have := hs.out; omega
        have hc1 : ¬ (c : Int) ≤ 1 := by omega
        go_wp2_with fail
        refine (next_any D p (b :: r) false _ hR'.out).mono ?_
        rintro e w2 ⟨hU2, rfl, hR2⟩
        rw [hbc.out]
        go_wp2_with fail
        refine (need_any _ _).mono ?_
        rintro e w' ⟨rfl, -, h⟩
        obtain ⟨pv, rfl⟩ := h (by simp; omega)
        go_wp2_with fail
        refine ⟨rfl, ?_⟩
        rw [← hE.out]
        exact ⟨hU.out.then hU2, ⟨_, rfl⟩, _, hR2⟩
      · obtain ⟨m, y, z, hm, hw1, hw2, ho, hz, hz1, hz2⟩ := step_pack i acc c hi hacc.out hb (by omega)
        rw [hs.out] at hw2
        have hmin : min s 64 = s := by have := hs.out; omega
        replace hz := hide hz
        replace hz1 := hide hz1
        by_cases hge : 128 ≤ c
        · rw [dnum_more hbc.out h9 hge, ← hz.out] at hE
          replace hE := hide hE
          have hi8 : i < 9 := by omega
          have h63 : (s : Int) < 63 := by have := hs.out; omega
          go_wp2_with fail
          refine (next_any D p (b :: r) false _ hR'.out).mono ?_
          rintro e w2 ⟨hU2, rfl, hR2⟩
          rw [hbc.out]
          go_wp2_with fail
          refine (need_any _ _).mono ?_
          rintro e w' ⟨rfl, h, -⟩
          obtain rfl := h (by simp)
          go_wp2_with fail
          go_roundw
          case rel => exact ⟨i + 1, z, r, by omega, hz1.out, rfl, by have := hs.out; go_num, hR2, hU.out.then hU2, hE.out⟩
          case measure => simp [intOf]; omega
        · by_cases h0 : c = 0 ∧ i ≠ 0
          · rw [dnum_zero hbc.out h0.1 h0.2] at hE
            replace hE := hide hE
            have hc0 : ((c : Int) != 0) = false := by simp; omega
            have hs0 : ((s : Int) == 0) = false := by have := hs.out; simp; omega
            by_cases hi8 : i < 9
            · have h63 : (s : Int) < 63 := by have := hs.out; omega
              go_wp2_with fail
              refine (next_any D p (b :: r) false _ hR'.out).mono ?_
              rintro e w2 ⟨hU2, rfl, hR2⟩
              rw [hbc.out]
              go_wp2_with fail
              refine (need_any _ _).mono ?_
              rintro e w' ⟨rfl, h, -⟩
              obtain rfl := h (by simp)
              go_wp2_with fail
              refine (need_any _ _).mono ?_
              rintro e w' ⟨rfl, -, h⟩
              obtain ⟨pv, rfl⟩ := h (by simp)
              go_wp2_with fail
              refine ⟨rfl, ?_⟩
              rw [← hE.out]
              exact ⟨hU.out.then hU2, ⟨_, rfl⟩, _, hR2⟩
            · have h63 : ¬ (s : Int) < 63 := by have := hs.out; omega
              have hc1 : (c : Int) ≤ 1 := by omega
              go_wp2_with fail
              refine (next_any D p (b :: r) false _ hR'.out).mono ?_
              rintro e w2 ⟨hU2, rfl, hR2⟩
              rw [hbc.out]
              go_wp2_with fail
              refine (need_any _ _).mono ?_
              rintro e w' ⟨rfl, h, -⟩
              obtain rfl := h (by simp; try omega)
              go_wp2_with fail
              refine (need_any _ _).mono ?_
              rintro e w' ⟨rfl, -, h⟩
              obtain ⟨pv, rfl⟩ := h (by simp)
              go_wp2_with fail
              refine ⟨rfl, ?_⟩
              rw [← hE.out]
              exact ⟨hU.out.then hU2, ⟨_, rfl⟩, _, hR2⟩
          · rw [dnum_last hbc.out h9 hge h0, ← hz.out] at hE
            replace hE := hide hE
            by_cases hc00 : c = 0
            · have hi0 : i = 0 := by omega
              have h63 : (s : Int) < 63 := by have := hs.out; omega
              have hcb : ((c : Int) != 0) = false := by simp; omega
              have hsb : ((s : Int) == 0) = true := by have := hs.out; simp; omega
              replace hc00 := hide hc00
              replace hi0 := hide hi0
              replace h0 := hide h0
              go_wp2_with fail
              refine (next_any D p (b :: r) false _ hR'.out).mono ?_
              rintro e w2 ⟨hU2, rfl, hR2⟩
              rw [hbc.out]
              go_wp2_with fail
              refine (need_any _ _).mono ?_
              rintro e w' ⟨rfl, h, -⟩
              obtain rfl := h (by simp; try omega)
              go_wp2_with fail
              refine (need_any _ _).mono ?_
              rintro e w' ⟨rfl, h, -⟩
              obtain rfl := h (by simp)
              go_wp2_with fail
              go_ret
              rw [← hE.out]
              exact ⟨hU.out.then hU2, rfl, hR2⟩
            · have hcb : ((c : Int) != 0) = true := by simp; omega
              by_cases hi8 : i < 9
              · have h63 : (s : Int) < 63 := by have := hs.out; omega
                go_wp2_with fail
                refine (next_any D p (b :: r) false _ hR'.out).mono ?_
                rintro e w2 ⟨hU2, rfl, hR2⟩
                rw [hbc.out]
                go_wp2_with fail
                refine (need_any _ _).mono ?_
                rintro e w' ⟨rfl, h, -⟩
                obtain rfl := h (by simp; try omega)
                go_wp2_with fail
                refine (need_any _ _).mono ?_
                rintro e w' ⟨rfl, h, -⟩
                obtain rfl := h (by simp)
                go_wp2_with fail
                go_ret
                rw [← hE.out]
                exact ⟨hU.out.then hU2, rfl, hR2⟩
              · have h63 : ¬ (s : Int) < 63 := by have := hs.out; omega
                have hc1 : (c : Int) ≤ 1 := by omega
                go_wp2_with fail
                refine (next_any D p (b :: r) false _ hR'.out).mono ?_
                rintro e w2 ⟨hU2, rfl, hR2⟩
                rw [hbc.out]
                go_wp2_with fail
                refine (need_any _ _).mono ?_
                rintro e w' ⟨rfl, h, -⟩
                obtain rfl := h (by simp; try omega)
                go_wp2_with fail
                refine (need_any _ _).mono ?_
                rintro e w' ⟨rfl, h, -⟩
                obtain rfl := h (by simp)
                go_wp2_with fail
                go_ret
                rw [← hE.out]
                exact ⟨hU.out.then hU2, rfl, hR2⟩
end Go.Proofs.Ytajpgkedlajjdaa
