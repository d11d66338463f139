/- Walks of the fingerprints: package sum's and the reference's. -/
import Derived.Test.YtdjcipfaiaodcaaDoorWalkA
namespace Go.Proofs.YtdjcipfaiaodcaaDoor
open Go.RowKit Sums

theorem fnv_int (h : Nat) (hh : h < 18446744073709551616) (b : Int) (h0 : 0 ≤ b) (h1 : b < 256) :
    IntKind.u64.wrap (bits .xor .u64 (h : Int) b * 1099511628211) = (fnv h b.toNat : Nat) := by
  obtain ⟨m, rfl⟩ := Int.eq_ofNat_of_zero_le h0
  rw [u64_xor_nat h m hh (by omega), IntKind.wrap_u64]
  unfold fnv
  simp

set_option maxHeartbeats 400000 in
theorem addByte_any (h : Nat) (b : Int) (w : World) (hh : h < 18446744073709551616) (h0 : 0 ≤ b) (h1 : b < 256) :
    Calls Tryd.prog 17 #[.int .u64 h, .int .u8 b] w fun e w' => e = .returned (.int .u64 (fnv h b.toNat : Nat)) ∧ w = w' := by
  go_enter Tryd.func17, Tryd.ntmps17
  go_wp2
  go_ret
  exact ⟨ret_num (fnv_int h hh b h0 h1), rfl⟩

theorem byte_of (x : Int) : 0 ≤ IntKind.u8.wrap x ∧ IntKind.u8.wrap x < 256 := by rw [IntKind.wrap_u8]; omega

set_option maxHeartbeats 400000 in
theorem addLength_any (h n : Nat) (w : World) (hh : h < 18446744073709551616) (hn : n < 4294967296) :
    Calls Tryd.prog 15 #[.int .u64 h, .int .u32 n] w fun e w' => e = .returned (.int .u64 (fnvN h n : Nat)) ∧ w = w' := by
  go_enter Tryd.func15, Tryd.ntmps15
  go_wp2
  refine wp_loop_rounds 5 ?_
  rw [rounds_succ]
  go_wp2_with fail
  refine (addByte_any h _ _ hh (by omega) (by omega)).mono ?_
  rintro e w' ⟨rfl, rfl⟩
  have hh1 := fnv_lt h ((n : Int) / 16777216).toNat
  generalize e1 : fnv h ((n : Int) / 16777216).toNat = x1 at *
  replace e1 := hide e1
  go_wp2_with fail
  rw [rounds_succ]
  go_wp2_with fail
  refine (addByte_any x1 _ _ hh1 (byte_of _).1 (byte_of _).2).mono ?_
  rintro e w' ⟨rfl, rfl⟩
  have hh2 := fnv_lt x1 (IntKind.u8.wrap ((n : Int) / 65536)).toNat
  generalize e2 : fnv x1 (IntKind.u8.wrap ((n : Int) / 65536)).toNat = x2 at *
  replace e2 := hide e2
  go_wp2_with fail
  rw [rounds_succ]
  go_wp2_with fail
  refine (addByte_any x2 _ _ hh2 (byte_of _).1 (byte_of _).2).mono ?_
  rintro e w' ⟨rfl, rfl⟩
  have hh3 := fnv_lt x2 (IntKind.u8.wrap ((n : Int) / 256)).toNat
  generalize e3 : fnv x2 (IntKind.u8.wrap ((n : Int) / 256)).toNat = x3 at *
  replace e3 := hide e3
  go_wp2_with fail
  rw [rounds_succ]
  go_wp2_with fail
  refine (addByte_any x3 _ _ hh3 (byte_of _).1 (byte_of _).2).mono ?_
  rintro e w' ⟨rfl, rfl⟩
  generalize e4 : fnv x3 (IntKind.u8.wrap (n : Int)).toNat = x4 at *
  replace e4 := hide e4
  go_wp2_with fail
  rw [rounds_succ]
  go_wp2_with fail
  go_ret
  refine ⟨ret_num ?_, rfl⟩
  rw [← e4.out, ← e3.out, ← e2.out, ← e1.out]
  simp only [IntKind.wrap_u8]
  unfold fnvN
  have a1 : ((n : Int) / 16777216).toNat = n / 16777216 % 256 := by omega
  have a2 : ((n : Int) / 65536 % 256).toNat = n / 65536 % 256 := by omega
  have a3 : ((n : Int) / 256 % 256).toNat = n / 256 % 256 := by omega
  have a4 : ((n : Int) % 256).toNat = n % 256 := by omega
  rw [a1, a2, a3, a4]

theorem fnvL_app (h : Nat) (l : List UInt8) (c : UInt8) : fnvL h (l ++ [c]) = fnv (fnvL h l) c.toNat := by
  unfold fnvL
  rw [List.foldl_append, List.foldl_cons, List.foldl_nil]
theorem prints_app (h : Nat) (l : List ByteArray) (c : ByteArray) : prints h (l ++ [c]) = fnvL (fnvN (prints h l) (c.size % 4294967296)) c.data.toList := by
  unfold prints
  rw [List.foldl_append, List.foldl_cons, List.foldl_nil]
  unfold fnvS
  rfl
theorem fnvL_snoc (h : Nat) (l : List UInt8) (k : Nat) (hk : k < l.length) : fnvL h (l.take (k + 1)) = fnv (fnvL h (l.take k)) l[k].toNat := by
  rw [List.take_succ_eq_append_getElem hk, fnvL_app]

set_option maxHeartbeats 400000 in
theorem addText_any (h : Nat) (s : ByteArray) (w : World) (hh : h < 18446744073709551616) (hs : s.size ≤ maxLen) :
    Calls Tryd.prog 16 #[.int .u64 h, .string s] w fun e w' => e = .returned (.int .u64 (fnvL h s.data.toList : Nat)) ∧ w = w' := by
  unfold maxLen at hs
  go_enter Tryd.func16, Tryd.ntmps16
  go_wp2
  go_loop [0, 8] (fun x i => ∃ k : Nat, k ≤ s.size ∧ i = .int .i64 k ∧ x = .int .u64 (fnvL h (s.data.toList.take k) : Nat)) (fun _ i => s.size - (intOf i).toNat)
  case atStart => exact ⟨0, Nat.zero_le _, rfl, rfl⟩
  case round =>
    obtain ⟨k, hk, rfl, rfl⟩ := hrel
    have hl := fnvL_lt (s.data.toList.take k) hh
    by_cases hlt : k < s.size
    · have hsn := hide (fnvL_snoc h s.data.toList k (by simpa using hlt))
      generalize fnvL h (s.data.toList.take k) = x at *
      have hb := s[k].toNat_lt
      go_wp2_with (go_at_call 17; refine (addByte_any x _ _ hl (by omega) (by omega)).mono ?_; rintro e w' ⟨rfl, rfl⟩)
      go_round
      case rel => exact ⟨k + 1, by omega, by go_num, by rw [hsn.out]; rfl⟩
      case measure => simp [intOf]; omega
    · obtain rfl : k = s.size := by omega
      go_wp2
      go_ret
      exact ⟨ret_num (by rw [List.take_of_length_le (by simp)]), rfl⟩

theorem prints_snoc (h : Nat) (ss : List ByteArray) (k : Nat) (hk : k < ss.length) : prints h (ss.take (k + 1)) = fnvL (fnvN (prints h (ss.take k)) (ss[k].size % 4294967296)) ss[k].data.toList := by
  rw [List.take_succ_eq_append_getElem hk, prints_app]

set_option maxHeartbeats 400000 in
theorem print_any (v : Value) (ss : List ByteArray) (w : World) (B : Nat) (hv : StrsV w B v ss) :
    Calls Tryd.prog 11 #[v] w fun e w' => e = .returned (.int .u64 (prints 14695981039346656037 ss : Nat)) ∧ w = w' := by
  obtain ⟨A, cap, rfl, h1, h2, hs, hsz⟩ := hv
  unfold maxLen at h2
  replace hsz := hide hsz
  go_enter Tryd.func11, Tryd.ntmps11
  go_wp2
  go_loop [3, 8] (fun x i => ∃ k : Nat, k ≤ ss.length ∧ i = .int .i64 k ∧ x = .int .u64 (prints 14695981039346656037 (ss.take k) : Nat)) (fun _ i => ss.length - (intOf i).toNat)
  case atStart => exact ⟨0, Nat.zero_le _, rfl, rfl⟩
  case round =>
    obtain ⟨k, hk, rfl, rfl⟩ := hrel
    have hl := prints_lt (ss.take k) (h := 14695981039346656037) (by decide)
    by_cases hlt : k < ss.length
    · obtain ⟨b, o, rfl, _, hcell⟩ := hs.get (i := k) (u := .string ss[k]) (by simp [hlt])
      have hsn := hide (prints_snoc 14695981039346656037 ss k hlt)
      have hz := hide (hsz.out ss[k] (List.getElem_mem hlt))
      have hzz : ss[k].size ≤ 9223372036854775807 := by have := hz.out; unfold maxLen at this; exact this
      generalize prints 14695981039346656037 (ss.take k) = x at *
      generalize ss[k] = s at *
      have hn : s.size % 4294967296 < 4294967296 := Nat.mod_lt _ (by decide)
      have hn' : ((s.size % 4294967296 : Nat) : Int) = (s.size : Int) % 4294967296 := by omega
      have hc := addLength_any x _ w hl hn
      rw [hn'] at hc
      clear hn'
      replace hc := hide hc
      have hfl := fnvN_lt x (s.size % 4294967296)
      generalize hx2 : fnvN x (s.size % 4294967296) = x2 at *
      go_wp2_with fail
      refine hc.out.mono ?_
      rintro e w' ⟨rfl, rfl⟩
      go_wp2_with fail
      refine (addText_any x2 s _ hfl hz.out).mono ?_
      rintro e w' ⟨rfl, rfl⟩
      go_wp2
      go_round
      case rel => exact ⟨k + 1, by omega, by go_num, by rw [hsn.out]⟩
      case measure => simp [intOf]; omega
    · obtain rfl : k = ss.length := by omega
      go_wp2
      go_ret
      exact ⟨rfl, rfl⟩

/-- What the walk meets at one byte of a length. -/
theorem fnv_pack (h : Nat) (hh : h < 18446744073709551616) (X : Int) (m : Nat) (hX : X % 256 = (m : Int)) :
    ∃ y : Nat, IntKind.u64.wrap (bits .xor .u64 (h : Int) (IntKind.u8.wrap X) * 1099511628211) = (y : Int) ∧ y = fnv h m ∧ y < 18446744073709551616 := by
  refine ⟨_, ?_, rfl, fnv_lt _ _⟩
  rw [fnv_int h hh _ (byte_of _).1 (byte_of _).2, IntKind.wrap_u8, hX]
  rfl
theorem u8_top (n : Nat) (hn : n < 4294967296) : IntKind.u8.wrap ((n : Int) / 16777216) = (n : Int) / 16777216 := by
  rw [IntKind.wrap_u8]; omega

set_option maxHeartbeats 800000 in
theorem refPrint_any (v : Value) (ss : List ByteArray) (w : World) (B : Nat) (hv : StrsV w B v ss) :
    Calls Tryd.prog 13 #[v] w fun e w' => e = .returned (.int .u64 (prints 14695981039346656037 ss : Nat)) ∧ w = w' := by
  obtain ⟨A, cap, rfl, h1, h2, hs, hsz⟩ := hv
  unfold maxLen at h2
  replace hsz := hide hsz
  go_enter Tryd.func13, Tryd.ntmps13
  go_wp2
  go_loop [3, 4] (fun x i => ∃ k : Nat, k ≤ ss.length ∧ i = .int .i64 k ∧ x = .int .u64 (prints 14695981039346656037 (ss.take k) : Nat)) (fun _ i => ss.length - (intOf i).toNat)
  case atStart => exact ⟨0, Nat.zero_le _, rfl, rfl⟩
  case round =>
    obtain ⟨k, hk, rfl, rfl⟩ := hrel
    have hl := prints_lt (ss.take k) (h := 14695981039346656037) (by decide)
    by_cases hlt : k < ss.length
    · obtain ⟨b, o, rfl, _, hcell⟩ := hs.get (i := k) (u := .string ss[k]) (by simp [hlt])
      have hsn := hide (prints_snoc 14695981039346656037 ss k hlt)
      have hz := hide (hsz.out ss[k] (List.getElem_mem hlt))
      have hzz : ss[k].size ≤ 9223372036854775807 := by have := hz.out; unfold maxLen at this; exact this
      generalize prints 14695981039346656037 (ss.take k) = x at *
      generalize ss[k] = s at *
      have hn : s.size % 4294967296 < 4294967296 := Nat.mod_lt _ (by decide)
      have hn' : (s.size : Int) % 4294967296 = ((s.size % 4294967296 : Nat) : Int) := by omega
      generalize s.size % 4294967296 = n at *
      obtain ⟨x1, p1, q1, r1⟩ := fnv_pack x hl ((n : Int) / 16777216) (n / 16777216 % 256) (by omega)
      rw [u8_top n hn] at p1
      obtain ⟨x2, p2, q2, r2⟩ := fnv_pack x1 r1 ((n : Int) / 65536) (n / 65536 % 256) (by omega)
      obtain ⟨x3, p3, q3, r3⟩ := fnv_pack x2 r2 ((n : Int) / 256) (n / 256 % 256) (by omega)
      obtain ⟨x4, p4, q4, r4⟩ := fnv_pack x3 r3 (n : Int) (n % 256) (by omega)
      rw [IntKind.wrap_u8] at p2 p3 p4
      have hx4 : Hid (x4 = fnvN x n) := by
        unfold fnvN; rw [q4, q3, q2, q1]; exact hide rfl
      clear q1 q2 q3 q4
      go_wp2
      refine wp_loop_rounds 5 ?_
      rw [rounds_succ]
      go_wp2
      rw [rounds_succ]
      go_wp2
      rw [rounds_succ]
      go_wp2
      rw [rounds_succ]
      go_wp2
      rw [rounds_succ]
      go_wp2
      clear p1 p2 p3 p4
      have hfl : fnvN x n < 18446744073709551616 := fnvN_lt _ _
      rw [← hx4.out] at hfl
      replace hsn := hsn.out
      rw [← hx4.out] at hsn
      replace hsn := hide hsn
      go_loop [3, 7] (fun y i => ∃ j : Nat, j ≤ s.size ∧ i = .int .i64 j ∧ y = .int .u64 (fnvL x4 (s.data.toList.take j) : Nat)) (fun _ i => s.size - (intOf i).toNat)
      case atStart => exact ⟨0, Nat.zero_le _, rfl, rfl⟩
      case round =>
        obtain ⟨j, hj, rfl, rfl⟩ := hrel
        have hl2 := fnvL_lt (s.data.toList.take j) hfl
        by_cases hjt : j < s.size
        · have hsn2 := fnvL_snoc x4 s.data.toList j (by simpa using hjt)
          generalize fnvL x4 (s.data.toList.take j) = y at *
          have hb := s[j].toNat_lt
          have hf := fnv_int y hl2 (s[j].toNat : Int) (by omega) (by omega)
          have hsn3 : Hid (((fnvL x4 (s.data.toList.take (j + 1)) : Nat) : Int) = (fnv y (s[j].toNat : Int).toNat : Nat)) := by rw [hsn2]; exact hide rfl
          clear hsn2
          generalize fnv y (s[j].toNat : Int).toNat = z at *
          go_wp2
          go_round
          case rel => exact ⟨j + 1, by omega, by go_num, by rw [hsn3.out]⟩
          case measure => simp [intOf]; omega
        · obtain rfl : j = s.size := by omega
          go_wp2
          go_round
          case rel => exact ⟨k + 1, by omega, by go_num, by rw [hsn.out, List.take_of_length_le (by simp)]⟩
          case measure => simp [intOf]; omega
    · obtain rfl : k = ss.length := by omega
      go_wp2
      go_ret
      exact ⟨rfl, rfl⟩
end Go.Proofs.YtdjcipfaiaodcaaDoor
