/- Walks of the reference's sums. -/
import Derived.Test.YtdjcipfaiaodcaaDoorWalkA
namespace Go.Proofs.YtdjcipfaiaodcaaDoor
open Go.RowKit Sums

theorem crcL_snoc' (c : Nat) (l : List UInt8) (k : Nat) (h : k < l.length) : crcL c (l.take (k + 1)) = s1n 8 (crcL c (l.take k) ^^^ l[k].toNat) := by
  rw [crcL_snoc c l k h, s1n_eight]

theorem s1_pack (x : Nat) (hx : x < 4294967296) :
    (x % 2 = 1 ∧ bits .and .u32 (x : Int) 1 = 1 ∧ bits .xor .u32 ((x : Int) / 2) 3988292384 = (s1 x : Nat)) ∨
    (x % 2 = 0 ∧ bits .and .u32 (x : Int) 1 = 0 ∧ (x : Int) / 2 = (s1 x : Nat)) := by
  have h1 := u32_and_nat x 1 hx (by decide)
  rw [show (1 : Nat) = 2 ^ 1 - 1 from rfl, Nat.and_two_pow_sub_one_eq_mod] at h1
  have h2 := u32_xor_nat (x / 2) 3988292384 (by omega) (by decide)
  rcases Nat.mod_two_eq_zero_or_one x with h | h
  · refine .inr ⟨h, ?_, ?_⟩
    · rw [show x % 2 ^ 1 = 0 by omega] at h1; exact h1
    · unfold s1; rw [if_neg (by omega)]; omega
  · refine .inl ⟨h, ?_, ?_⟩
    · rw [show x % 2 ^ 1 = 1 by omega] at h1; exact h1
    · unfold s1; rw [if_pos h, show ((x : Int) / 2) = ((x / 2 : Nat) : Int) by omega]; exact h2

set_option maxHeartbeats 800000 in
theorem refCrc_any (v : Value) (ls : List (List UInt8)) (w : World) (B : Nat) (hv : RowsV w B v ls) :
    Calls Tryd.prog 10 #[v] w fun e w' => e = .returned (.int .u32 (crc ls : Nat)) ∧ w = w' := by
  obtain ⟨A, cap, vs, rfl, h1, h2, hs, hvs, hl⟩ := hv
  unfold maxLen at h2
  replace hvs := hide hvs
  replace hl := hide hl
  go_enter Tryd.func10, Tryd.ntmps10
  go_wp2
  go_loop [3, 4] (fun x i => ∃ k : Nat, k ≤ ls.length ∧ i = .int .i64 k ∧ x = .int .u32 (crcLs 4294967295 (ls.take k) : Nat)) (fun _ i => ls.length - (intOf i).toNat)
  case atStart => exact ⟨0, Nat.zero_le _, rfl, rfl⟩
  case round =>
    obtain ⟨k, hk, rfl, rfl⟩ := hrel
    have hcl : crcLs 4294967295 (ls.take k) < 4294967296 := crcLs_lt _ (by decide)
    by_cases hlt : k < ls.length
    · have hkv : k < vs.length := by rw [hvs.out]; exact hlt
      obtain ⟨b, o, rfl, _, hcell⟩ := hs.get (List.getElem?_eq_getElem hkv)
      have hrow := hl.out k _ _ (List.getElem?_eq_getElem hkv) (List.getElem?_eq_getElem hlt)
      have hsn := hide (crcLs_snoc 4294967295 ls k hlt)
      generalize crcLs 4294967295 (ls.take k) = c' at *
      generalize ls[k] = l at *
      obtain ⟨A2, cap2, hv2, h3, h4, hs2⟩ := hrow
      unfold maxLen at h4
      rw [hv2] at hcell
      clear hv2
      go_wp2
      go_loop [3, 5] (fun x i => ∃ j : Nat, j ≤ l.length ∧ i = .int .i64 j ∧ x = .int .u32 (crcL c' (l.take j) : Nat)) (fun _ i => l.length - (intOf i).toNat)
      case atStart => exact ⟨0, Nat.zero_le _, rfl, rfl⟩
      case round =>
        obtain ⟨j, hj, rfl, rfl⟩ := hrel
        have hcl2 : crcL c' (l.take j) < 4294967296 := crcL_lt _ hcl
        by_cases hjt : j < l.length
        · obtain ⟨b2, o2, rfl, _, hcell2⟩ := hs2.get (bv_get hjt)
          have hsn2 := hide (crcL_snoc' c' l j hjt)
          have hb := l[j].toNat_lt
          generalize l[j].toNat = m at *
          generalize crcL c' (l.take j) = c2 at *
          have hX := u32_xor_nat c2 m hcl2 (by omega)
          have hxl : c2 ^^^ m < 4294967296 := Nat.xor_lt_two_pow (n := 32) (by omega) (by omega)
          generalize c2 ^^^ m = x at *
          go_wp2
          go_loop [3, 6] (fun y i => ∃ n : Nat, n ≤ 8 ∧ i = .int .i64 n ∧ y = .int .u32 (s1n n x : Nat)) (fun _ i => 8 - (intOf i).toNat)
          case atStart => exact ⟨0, by omega, rfl, rfl⟩
          case round =>
            obtain ⟨n, hn, rfl, rfl⟩ := hrel
            have hnl := s1n_lt n hxl
            by_cases hnt : n < 8
            · have hsn3 : Hid (s1n (n + 1) x = s1 (s1n n x)) := rfl
              generalize s1n n x = y at *
              rcases s1_pack y hnl with ⟨_, ha, hb⟩ | ⟨_, ha, hb⟩
              · go_wp2
                go_round
                case rel => exact ⟨n + 1, by omega, by go_num, by rw [hsn3.out]⟩
                case measure => simp [intOf]; omega
              · go_wp2
                go_round
                case rel => exact ⟨n + 1, by omega, by go_num, by rw [hsn3.out]⟩
                case measure => simp [intOf]; omega
            · obtain rfl : n = 8 := by omega
              go_wp2
              go_round
              case rel => exact ⟨j + 1, by omega, by go_num, by rw [hsn2.out]⟩
              case measure => simp [intOf]; omega
        · obtain rfl : j = l.length := by omega
          go_wp2
          go_round
          case rel => exact ⟨k + 1, by omega, by go_num, by rw [hsn.out, List.take_of_length_le (Nat.le_refl _)]⟩
          case measure => simp [intOf]; omega
    · obtain rfl : k = ls.length := by omega
      go_wp2
      go_ret
      exact ⟨ret_num (crc_end ls), rfl⟩
end Go.Proofs.YtdjcipfaiaodcaaDoor
