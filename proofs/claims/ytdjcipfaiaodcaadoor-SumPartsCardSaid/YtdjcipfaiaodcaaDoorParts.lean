/- The walk of SumParts. -/
import Derived.Test.YtdjcipfaiaodcaaDoorTells
import Derived.Test.YtdjcipfaiaodcaaDoorOrder
namespace Go.Proofs.YtdjcipfaiaodcaaDoor
open Go.RowKit Sums

theorem tmod_pack (x : Int) (n : Nat) : ∃ K : Nat, K ≤ n ∧ (x.tmod (n + 1) = K ∨ (x.tmod (n + 1) = -(K : Int) ∧ 0 < K)) := by
  have h1 := Int.tmod_lt_of_pos x (show (0 : Int) < n + 1 by omega)
  have h2 : -((n : Int) + 1) < x.tmod (n + 1) := by
    have := Int.tmod_lt_of_pos (-x) (show (0 : Int) < n + 1 by omega)
    rw [Int.neg_tmod] at this
    omega
  exact ⟨(x.tmod (n + 1)).natAbs, by omega, by omega⟩

/-- However the bytes are parted, one sum. -/
theorem crc_flat (v : Value) (l : List UInt8) (w : World) (h : ∃ ls, RowsV w w.heap.size v ls ∧ ls.flatten = l) (hT : Tab w) :
    Calls Tryd.prog 9 #[v] w fun e w' => e = .returned (.int .u32 (crc [l] : Nat)) ∧ w = w' := by
  obtain ⟨ls, h, rfl⟩ := h
  have e : crc [ls.flatten] = crc ls := by unfold crc; rw [crcLs_flat, crcLs_flat]; simp
  rw [e]
  exact crc_any v ls w _ h hT

theorem bytes_take {w : World} {B : Nat} {A : Option Addr} {c : Nat} {l : List UInt8} (h : BytesV w B (.slice A l.length c) l) (K : Nat) (hK : K ≤ l.length) : BytesV w B (.slice A K c) (l.take K) := by
  obtain ⟨A', c', e, h1, h2, h3⟩ := h
  injection e with e1 e2 e3
  subst e1 e3
  refine ⟨A, c, by rw [List.length_take, Nat.min_eq_left hK], by rw [List.length_take]; omega, h2, ?_⟩
  have := h3.take K
  rw [show bv (l.take K) = (bv l).take K by simp [bv, List.map_take]]
  exact this
theorem bytes_drop {w : World} {B : Nat} {A : Option Addr} {c : Nat} {l : List UInt8} (h : BytesV w B (.slice A l.length c) l) (K : Nat) (hK : K ≤ l.length) :
    BytesV w B (.slice (if c = K then A else Option.map (fun x => x.add K) A) (l.length - K) (c - K)) (l.drop K) := by
  obtain ⟨A', c', e, h1, h2, h3⟩ := h
  injection e with e1 e2 e3
  subst e1 e3
  refine ⟨_, c - K, by rw [List.length_drop], by rw [List.length_drop]; omega, by omega, ?_⟩
  by_cases hc : c = K
  · refine .inl ?_
    rw [List.drop_of_length_le (by omega)]; rfl
  · rw [if_neg hc]
    have := h3.cut K (l.length - K)
    rw [show bv (l.drop K) = ((bv l).drop K).take (l.length - K) by
      rw [List.take_of_length_le (by simp [bv])]; simp [bv, List.map_drop]]
    exact this

set_option maxHeartbeats 8000000 in
theorem parts_any (v : Value) (l : List UInt8) (x : Int) (w : World) (B : Nat) (hv : BytesV w B v l) (hT : Tab w) (hB : B ≤ w.heap.size) (h0 : 0 < w.heap.size) :
    Calls Tryd.prog 4 #[v, .int .i64 x] w fun e w' => e = .returned (.bool true) ∧ Below w.heap.size w w' := by
  replace hT := hide hT
  have hv0 := hide hv
  obtain ⟨A, c, rfl, hlc, hcm, hs⟩ := hv
  unfold maxLen at hcm
  by_cases h1000 : l.length ≤ 1000
  · obtain ⟨K, hK, hm⟩ := tmod_pack x l.length
    have k1 : (0 : Int) ≤ (K : Int) := by omega
    have k2 : (K : Int) ≤ (c : Int) := by omega
    have k3 : (K : Int) ≤ (l.length : Int) := by omega
    have hz1 : (bstr (l.take K)).size ≤ maxLen := by rw [bstr_size, List.length_take]; unfold maxLen; omega
    have hz2 : (bstr (l.drop K)).size ≤ maxLen := by rw [bstr_size, List.length_drop]; unfold maxLen; omega
    replace hz1 := hide hz1
    replace hz2 := hide hz2
    rcases hm with hm | ⟨hm, hK0⟩
    all_goals
      go_enter Tryd.func4, Tryd.ntmps4
      go_wp2_with fail
      refine (known_any _ hT.out h0).mono ?_
      rintro e w1 ⟨rfl, hb1⟩
      have hT1 := hide (hT.out.below h0 hb1)
      have h01 : 0 < w1.heap.size := hT1.out.pos
      have hv1 := hide ((hv0.out.below (hb1.mono hB)).more (Nat.le_trans hB hb1.size))
      have hp1 := hide (bytes_take hv1.out K hK)
      have hp2 := bytes_drop hv1.out K hK
      obtain ⟨A2, hA2⟩ : ∃ A2, (if c = K then A else Option.map (fun x => x.add K) A) = A2 := ⟨_, rfl⟩
      rw [hA2] at hp2
      replace hp2 := hide hp2
      replace hb1 := hide hb1
      go_wp2_with fail
      refine wp_region_kept (factAt [(fun v _ => v = (.slice A l.length c)), (fun v _ => v = (.int .i64 K)), (fun v _ => v = (.slice A K c)), (fun v _ => v = (.slice A l.length c)), (fun v _ => v = (.int .i64 K)), (fun v _ => v = (.slice A2 (l.length - K) (c - K))), (fun v w => RowsV w w.heap.size v [l.take K, l.drop K]), (fun v _ => v = (.int .u32 (crc [l] : Nat))), (fun v _ => v = (.slice A l.length c)), (fun v w => RowsV w w.heap.size v [l]), (fun v _ => v = (.int .u32 (crc [l] : Nat))), (fun v _ => v = (.bool true)), (fun v _ => v = (.bool true)), (fun v _ => v = (.slice A l.length c)), (fun v w => RowsV w w.heap.size v [l, []]), (fun v _ => v = (.int .u32 (crc [l] : Nat))), (fun v _ => v = (.slice A l.length c)), (fun v w => RowsV w w.heap.size v [l]), (fun v _ => v = (.int .u32 (crc [l] : Nat))), (fun v _ => v = (.bool true)), (fun v _ => v = (.bool true)), (fun v _ => v = (.bool true)), (fun v _ => v = (.slice A l.length c)), (fun v _ => v = (.int .i64 K)), (fun v _ => v = (.slice A K c)), (fun v _ => v = (.string (bstr (l.take K)))), (fun v _ => v = (.slice A l.length c)), (fun v _ => v = (.int .i64 K)), (fun v _ => v = (.slice A2 (l.length - K) (c - K))), (fun v _ => v = (.string (bstr (l.drop K)))), (fun v w => StrsV w w.heap.size v [bstr (l.take K), bstr (l.drop K)]), (fun v _ => v = (.int .u64 (prints 14695981039346656037 [bstr (l.take K), bstr (l.drop K)] : Nat))), (fun v _ => v = (.slice A l.length c)), (fun v _ => v = (.int .i64 K)), (fun v _ => v = (.slice A K c)), (fun v _ => v = (.string (bstr (l.take K)))), (fun v _ => v = (.slice A l.length c)), (fun v _ => v = (.int .i64 K)), (fun v _ => v = (.slice A2 (l.length - K) (c - K))), (fun v _ => v = (.string (bstr (l.drop K)))), (fun v w => StrsV w w.heap.size v [bstr (l.take K), bstr (l.drop K)]), (fun v _ => v = (.int .u64 (prints 14695981039346656037 [bstr (l.take K), bstr (l.drop K)] : Nat))), (fun v _ => v = (.bool true)), (fun v _ => v = (.bool true)), (fun v _ => v = (.bool true))]) (by kernel_rfl) (kept_at ⟨Kept.eq _, Kept.eq _, Kept.eq _, Kept.eq _, Kept.eq _, Kept.eq _, kept_rows _, Kept.eq _, Kept.eq _, kept_rows _, Kept.eq _, Kept.eq _, Kept.eq _, Kept.eq _, kept_rows _, Kept.eq _, Kept.eq _, kept_rows _, Kept.eq _, Kept.eq _, Kept.eq _, Kept.eq _, Kept.eq _, Kept.eq _, Kept.eq _, Kept.eq _, Kept.eq _, Kept.eq _, Kept.eq _, Kept.eq _, kept_strs _, Kept.eq _, Kept.eq _, Kept.eq _, Kept.eq _, Kept.eq _, Kept.eq _, Kept.eq _, Kept.eq _, Kept.eq _, kept_strs _, Kept.eq _, Kept.eq _, Kept.eq _, Kept.eq _, trivial⟩) (by kernel_rfl) (by kernel_rfl) (by kernel_rfl) ⟨?_, ?_, ?_, ?_, ?_, ?_, ?_, ?_, ?_, ?_, ?_, ?_, ?_, ?_, ?_, ?_, ?_, ?_, ?_, ?_, ?_, ?_, ?_, ?_, ?_, ?_, ?_, ?_, ?_, ?_, ?_, ?_, ?_, ?_, ?_, ?_, ?_, ?_, ?_, ?_, ?_, ?_, ?_, ?_, ?_, trivial⟩ ?_
      · intro T w Q hb hs hv hd
        have hx0 : T.getD 0 undef = (.slice A l.length c) := hv 0 (by kernel_rfl)
        refine ⟨wanted_none rfl, ?_⟩
        clear hd hv hb hs
        go_simp
        exact ⟨_, rfl, Below.refl _ _, rfl⟩
      · intro T w Q hb hs hv hd
        have hx5 : T.getD 5 undef = (.int .i64 K) := hv 5 (by kernel_rfl)
        refine ⟨wanted_none rfl, ?_⟩
        clear hd hv hb hs
        go_simp
        exact ⟨_, rfl, Below.refl _ _, rfl⟩
      · intro T w Q hb hs hv hd
        have hx20 : T.getD 20 undef = (.slice A l.length c) := Deps.at 0 hd (by kernel_rfl)
        have hx21 : T.getD 21 undef = (.int .i64 K) := Deps.at 1 hd (by kernel_rfl)
        refine ⟨wanted_none rfl, ?_⟩
        clear hd hv hs
        go_simp
        exact ⟨_, rfl, Below.refl _ _, rfl⟩
      · intro T w Q hb hs hv hd
        have hx0 : T.getD 0 undef = (.slice A l.length c) := hv 0 (by kernel_rfl)
        refine ⟨wanted_none rfl, ?_⟩
        clear hd hv hb hs
        go_simp
        exact ⟨_, rfl, Below.refl _ _, rfl⟩
      · intro T w Q hb hs hv hd
        have hx5 : T.getD 5 undef = (.int .i64 K) := hv 5 (by kernel_rfl)
        refine ⟨wanted_none rfl, ?_⟩
        clear hd hv hb hs
        go_simp
        exact ⟨_, rfl, Below.refl _ _, rfl⟩
      · intro T w Q hb hs hv hd
        have hx23 : T.getD 23 undef = (.slice A l.length c) := Deps.at 3 hd (by kernel_rfl)
        have hx24 : T.getD 24 undef = (.int .i64 K) := Deps.at 4 hd (by kernel_rfl)
        refine ⟨wanted_none rfl, ?_⟩
        clear hd hv hb hs
        go_simp
        exact ⟨_, rfl, Below.refl _ _, rfl⟩
      · intro T w Q hb hs hv hd
        have hx22 : T.getD 22 undef = (.slice A K c) := Deps.at 2 hd (by kernel_rfl)
        have hy22 := hx22
        rw [Array.getD_eq_getD_getElem?] at hy22
        have hx25 : T.getD 25 undef = (.slice A2 (l.length - K) (c - K)) := Deps.at 5 hd (by kernel_rfl)
        have hy25 := hx25
        rw [Array.getD_eq_getD_getElem?] at hy25
        refine ⟨wanted_none rfl, ?_⟩
        clear hd hv hs
        go_simp
        refine ⟨_, rfl, ((Below.refl _ _).alloc (Nat.le_refl _) _), RowsV.at2 ?_ ?_ ?_ (((hp1.out.below hb).alloc hb.size _).more ?_) (((hp2.out.below hb).alloc hb.size _).more ?_)⟩
        · simp
        · simp [go_sem]
        · simp [go_sem]
        · have := hb.size; simp; omega
        · have := hb.size; simp; omega
      · intro T w Q hb hs hv hd
        have f26 : (fun (v : Value) (w : World) => RowsV w w.heap.size v [l.take K, l.drop K]) (T.getD 26 undef) w := Deps.at 6 hd (by kernel_rfl)
        generalize hx26 : T.getD 26 undef = x26 at f26
        replace f26 := hide f26
        refine ⟨wanted_none rfl, ?_⟩
        clear hd hv hs
        go_simp
        refine (crc_flat _ l _ ⟨_, f26.out, by simp⟩ (hT1.out.below h01 hb)).mono ?_
        rintro e w2 ⟨rfl, rfl⟩
        exact ⟨_, rfl, Below.refl _ _, rfl⟩
      · intro T w Q hb hs hv hd
        have hx0 : T.getD 0 undef = (.slice A l.length c) := hv 0 (by kernel_rfl)
        refine ⟨wanted_none rfl, ?_⟩
        clear hd hv hb hs
        go_simp
        exact ⟨_, rfl, Below.refl _ _, rfl⟩
      · intro T w Q hb hs hv hd
        have hx28 : T.getD 28 undef = (.slice A l.length c) := Deps.at 8 hd (by kernel_rfl)
        have hy28 := hx28
        rw [Array.getD_eq_getD_getElem?] at hy28
        refine ⟨wanted_none rfl, ?_⟩
        clear hd hv hs
        go_simp
        refine ⟨_, rfl, ((Below.refl _ _).alloc (Nat.le_refl _) _), RowsV.at1 ?_ ?_ (((hv1.out.below hb).alloc hb.size _).more ?_)⟩
        · simp
        · simp [go_sem]
        · have := hb.size; simp; omega
      · intro T w Q hb hs hv hd
        have f29 : (fun (v : Value) (w : World) => RowsV w w.heap.size v [l]) (T.getD 29 undef) w := Deps.at 9 hd (by kernel_rfl)
        generalize hx29 : T.getD 29 undef = x29 at f29
        replace f29 := hide f29
        refine ⟨wanted_none rfl, ?_⟩
        clear hd hv hs
        go_simp
        refine (crc_flat _ l _ ⟨_, f29.out, by simp⟩ (hT1.out.below h01 hb)).mono ?_
        rintro e w2 ⟨rfl, rfl⟩
        exact ⟨_, rfl, Below.refl _ _, rfl⟩
      · intro T w Q hb hs hv hd
        have hx27 : T.getD 27 undef = (.int .u32 (crc [l] : Nat)) := Deps.at 7 hd (by kernel_rfl)
        have hx30 : T.getD 30 undef = (.int .u32 (crc [l] : Nat)) := Deps.at 10 hd (by kernel_rfl)
        refine ⟨wanted_none rfl, ?_⟩
        clear hd hv hb hs
        go_simp
        exact ⟨_, rfl, Below.refl _ _, rfl⟩
      · intro T w Q hb hs hv hd
        have hx31 : T.getD 31 undef = (.bool true) := Deps.at 11 hd (by kernel_rfl)
        refine ⟨wanted_none rfl, ?_⟩
        clear hd hv hb hs
        go_simp
        exact ⟨_, rfl, Below.refl _ _, rfl⟩
      · intro T w Q hb hs hv hd
        have hx0 : T.getD 0 undef = (.slice A l.length c) := hv 0 (by kernel_rfl)
        refine ⟨wanted_some rfl (Deps.at 12 hd (by kernel_rfl) : slotOf _ T 12 = .bool true), ?_⟩
        clear hd hv hb hs
        go_simp
        exact ⟨_, rfl, Below.refl _ _, rfl⟩
      · intro T w Q hb hs hv hd
        have hx33 : T.getD 33 undef = (.slice A l.length c) := Deps.at 13 hd (by kernel_rfl)
        have hy33 := hx33
        rw [Array.getD_eq_getD_getElem?] at hy33
        refine ⟨wanted_some rfl (Deps.at 12 hd (by kernel_rfl) : slotOf _ T 12 = .bool true), ?_⟩
        clear hd hv hs
        go_simp
        refine ⟨_, rfl, ((Below.refl _ _).alloc (Nat.le_refl _) _), RowsV.at2 ?_ ?_ ?_ (((hv1.out.below hb).alloc hb.size _).more ?_) (BytesV.nil_ _ _)⟩
        · simp
        · simp [go_sem]
        · simp [go_sem]
        · have := hb.size; simp; omega
      · intro T w Q hb hs hv hd
        have f34 : (fun (v : Value) (w : World) => RowsV w w.heap.size v [l, []]) (T.getD 34 undef) w := Deps.at 14 hd (by kernel_rfl)
        generalize hx34 : T.getD 34 undef = x34 at f34
        replace f34 := hide f34
        refine ⟨wanted_some rfl (Deps.at 12 hd (by kernel_rfl) : slotOf _ T 12 = .bool true), ?_⟩
        clear hd hv hs
        go_simp
        refine (crc_flat _ l _ ⟨_, f34.out, by simp⟩ (hT1.out.below h01 hb)).mono ?_
        rintro e w2 ⟨rfl, rfl⟩
        exact ⟨_, rfl, Below.refl _ _, rfl⟩
      · intro T w Q hb hs hv hd
        have hx0 : T.getD 0 undef = (.slice A l.length c) := hv 0 (by kernel_rfl)
        refine ⟨wanted_some rfl (Deps.at 12 hd (by kernel_rfl) : slotOf _ T 12 = .bool true), ?_⟩
        clear hd hv hb hs
        go_simp
        exact ⟨_, rfl, Below.refl _ _, rfl⟩
      · intro T w Q hb hs hv hd
        have hx36 : T.getD 36 undef = (.slice A l.length c) := Deps.at 16 hd (by kernel_rfl)
        have hy36 := hx36
        rw [Array.getD_eq_getD_getElem?] at hy36
        refine ⟨wanted_some rfl (Deps.at 12 hd (by kernel_rfl) : slotOf _ T 12 = .bool true), ?_⟩
        clear hd hv hs
        go_simp
        refine ⟨_, rfl, ((Below.refl _ _).alloc (Nat.le_refl _) _), RowsV.at1 ?_ ?_ (((hv1.out.below hb).alloc hb.size _).more ?_)⟩
        · simp
        · simp [go_sem]
        · have := hb.size; simp; omega
      · intro T w Q hb hs hv hd
        have f37 : (fun (v : Value) (w : World) => RowsV w w.heap.size v [l]) (T.getD 37 undef) w := Deps.at 17 hd (by kernel_rfl)
        generalize hx37 : T.getD 37 undef = x37 at f37
        replace f37 := hide f37
        refine ⟨wanted_some rfl (Deps.at 12 hd (by kernel_rfl) : slotOf _ T 12 = .bool true), ?_⟩
        clear hd hv hs
        go_simp
        refine (crc_flat _ l _ ⟨_, f37.out, by simp⟩ (hT1.out.below h01 hb)).mono ?_
        rintro e w2 ⟨rfl, rfl⟩
        exact ⟨_, rfl, Below.refl _ _, rfl⟩
      · intro T w Q hb hs hv hd
        have hx35 : T.getD 35 undef = (.int .u32 (crc [l] : Nat)) := Deps.at 15 hd (by kernel_rfl)
        have hx38 : T.getD 38 undef = (.int .u32 (crc [l] : Nat)) := Deps.at 18 hd (by kernel_rfl)
        refine ⟨wanted_some rfl (Deps.at 12 hd (by kernel_rfl) : slotOf _ T 12 = .bool true), ?_⟩
        clear hd hv hb hs
        go_simp
        exact ⟨_, rfl, Below.refl _ _, rfl⟩
      · intro T w Q hb hs hv hd
        have hx32 : T.getD 32 undef = (.bool true) := Deps.at 12 hd (by kernel_rfl)
        have hx39 : T.getD 39 undef = (.bool true) := Deps.at 19 hd (by kernel_rfl)
        refine ⟨wanted_none rfl, ?_⟩
        clear hd hv hb hs
        go_simp
        exact ⟨_, rfl, Below.refl _ _, rfl⟩
      · intro T w Q hb hs hv hd
        have hx40 : T.getD 40 undef = (.bool true) := Deps.at 20 hd (by kernel_rfl)
        refine ⟨wanted_none rfl, ?_⟩
        clear hd hv hb hs
        go_simp
        exact ⟨_, rfl, Below.refl _ _, rfl⟩
      · intro T w Q hb hs hv hd
        have hx0 : T.getD 0 undef = (.slice A l.length c) := hv 0 (by kernel_rfl)
        refine ⟨wanted_some rfl (Deps.at 21 hd (by kernel_rfl) : slotOf _ T 21 = .bool true), ?_⟩
        clear hd hv hb hs
        go_simp
        exact ⟨_, rfl, Below.refl _ _, rfl⟩
      · intro T w Q hb hs hv hd
        have hx5 : T.getD 5 undef = (.int .i64 K) := hv 5 (by kernel_rfl)
        refine ⟨wanted_some rfl (Deps.at 21 hd (by kernel_rfl) : slotOf _ T 21 = .bool true), ?_⟩
        clear hd hv hb hs
        go_simp
        exact ⟨_, rfl, Below.refl _ _, rfl⟩
      · intro T w Q hb hs hv hd
        have hx42 : T.getD 42 undef = (.slice A l.length c) := Deps.at 22 hd (by kernel_rfl)
        have hx43 : T.getD 43 undef = (.int .i64 K) := Deps.at 23 hd (by kernel_rfl)
        refine ⟨wanted_some rfl (Deps.at 21 hd (by kernel_rfl) : slotOf _ T 21 = .bool true), ?_⟩
        clear hd hv hs
        go_simp
        exact ⟨_, rfl, Below.refl _ _, rfl⟩
      · intro T w Q hb hs hv hd
        have hx44 : T.getD 44 undef = (.slice A K c) := Deps.at 24 hd (by kernel_rfl)
        refine ⟨wanted_some rfl (Deps.at 21 hd (by kernel_rfl) : slotOf _ T 21 = .bool true), ?_⟩
        have hc := (hp1.out.below hb).string (P := Tryd.prog) Tryd.underlying33 Tryd.underlying5 Tryd.underlying9
        clear hd hv hs
        go_simp
        exact ⟨_, rfl, Below.refl _ _, rfl⟩
      · intro T w Q hb hs hv hd
        have hx0 : T.getD 0 undef = (.slice A l.length c) := hv 0 (by kernel_rfl)
        refine ⟨wanted_some rfl (Deps.at 21 hd (by kernel_rfl) : slotOf _ T 21 = .bool true), ?_⟩
        clear hd hv hb hs
        go_simp
        exact ⟨_, rfl, Below.refl _ _, rfl⟩
      · intro T w Q hb hs hv hd
        have hx5 : T.getD 5 undef = (.int .i64 K) := hv 5 (by kernel_rfl)
        refine ⟨wanted_some rfl (Deps.at 21 hd (by kernel_rfl) : slotOf _ T 21 = .bool true), ?_⟩
        clear hd hv hb hs
        go_simp
        exact ⟨_, rfl, Below.refl _ _, rfl⟩
      · intro T w Q hb hs hv hd
        have hx46 : T.getD 46 undef = (.slice A l.length c) := Deps.at 26 hd (by kernel_rfl)
        have hx47 : T.getD 47 undef = (.int .i64 K) := Deps.at 27 hd (by kernel_rfl)
        refine ⟨wanted_some rfl (Deps.at 21 hd (by kernel_rfl) : slotOf _ T 21 = .bool true), ?_⟩
        clear hd hv hb hs
        go_simp
        exact ⟨_, rfl, Below.refl _ _, rfl⟩
      · intro T w Q hb hs hv hd
        have hx48 : T.getD 48 undef = (.slice A2 (l.length - K) (c - K)) := Deps.at 28 hd (by kernel_rfl)
        refine ⟨wanted_some rfl (Deps.at 21 hd (by kernel_rfl) : slotOf _ T 21 = .bool true), ?_⟩
        have hc := (hp2.out.below hb).string (P := Tryd.prog) Tryd.underlying33 Tryd.underlying5 Tryd.underlying9
        clear hd hv hs
        go_simp
        exact ⟨_, rfl, Below.refl _ _, rfl⟩
      · intro T w Q hb hs hv hd
        have hx45 : T.getD 45 undef = (.string (bstr (l.take K))) := Deps.at 25 hd (by kernel_rfl)
        have hy45 := hx45
        rw [Array.getD_eq_getD_getElem?] at hy45
        have hx49 : T.getD 49 undef = (.string (bstr (l.drop K))) := Deps.at 29 hd (by kernel_rfl)
        have hy49 := hx49
        rw [Array.getD_eq_getD_getElem?] at hy49
        refine ⟨wanted_some rfl (Deps.at 21 hd (by kernel_rfl) : slotOf _ T 21 = .bool true), ?_⟩
        clear hd hv hs
        go_simp
        refine ⟨_, rfl, ((Below.refl _ _).alloc (Nat.le_refl _) _), StrsV.at2 ?_ ?_ ?_ hz1.out hz2.out⟩
        · simp
        · simp [go_sem]
        · simp [go_sem]
      · intro T w Q hb hs hv hd
        have f50 : (fun (v : Value) (w : World) => StrsV w w.heap.size v [bstr (l.take K), bstr (l.drop K)]) (T.getD 50 undef) w := Deps.at 30 hd (by kernel_rfl)
        generalize hx50 : T.getD 50 undef = x50 at f50
        replace f50 := hide f50
        refine ⟨wanted_some rfl (Deps.at 21 hd (by kernel_rfl) : slotOf _ T 21 = .bool true), ?_⟩
        clear hd hv hs
        go_simp
        refine (print_any _ _ _ _ f50.out).mono ?_
        rintro e w2 ⟨rfl, rfl⟩
        exact ⟨_, rfl, Below.refl _ _, rfl⟩
      · intro T w Q hb hs hv hd
        have hx0 : T.getD 0 undef = (.slice A l.length c) := hv 0 (by kernel_rfl)
        refine ⟨wanted_some rfl (Deps.at 21 hd (by kernel_rfl) : slotOf _ T 21 = .bool true), ?_⟩
        clear hd hv hb hs
        go_simp
        exact ⟨_, rfl, Below.refl _ _, rfl⟩
      · intro T w Q hb hs hv hd
        have hx5 : T.getD 5 undef = (.int .i64 K) := hv 5 (by kernel_rfl)
        refine ⟨wanted_some rfl (Deps.at 21 hd (by kernel_rfl) : slotOf _ T 21 = .bool true), ?_⟩
        clear hd hv hb hs
        go_simp
        exact ⟨_, rfl, Below.refl _ _, rfl⟩
      · intro T w Q hb hs hv hd
        have hx52 : T.getD 52 undef = (.slice A l.length c) := Deps.at 32 hd (by kernel_rfl)
        have hx53 : T.getD 53 undef = (.int .i64 K) := Deps.at 33 hd (by kernel_rfl)
        refine ⟨wanted_some rfl (Deps.at 21 hd (by kernel_rfl) : slotOf _ T 21 = .bool true), ?_⟩
        clear hd hv hs
        go_simp
        exact ⟨_, rfl, Below.refl _ _, rfl⟩
      · intro T w Q hb hs hv hd
        have hx54 : T.getD 54 undef = (.slice A K c) := Deps.at 34 hd (by kernel_rfl)
        refine ⟨wanted_some rfl (Deps.at 21 hd (by kernel_rfl) : slotOf _ T 21 = .bool true), ?_⟩
        have hc := (hp1.out.below hb).string (P := Tryd.prog) Tryd.underlying33 Tryd.underlying5 Tryd.underlying9
        clear hd hv hs
        go_simp
        exact ⟨_, rfl, Below.refl _ _, rfl⟩
      · intro T w Q hb hs hv hd
        have hx0 : T.getD 0 undef = (.slice A l.length c) := hv 0 (by kernel_rfl)
        refine ⟨wanted_some rfl (Deps.at 21 hd (by kernel_rfl) : slotOf _ T 21 = .bool true), ?_⟩
        clear hd hv hb hs
        go_simp
        exact ⟨_, rfl, Below.refl _ _, rfl⟩
      · intro T w Q hb hs hv hd
        have hx5 : T.getD 5 undef = (.int .i64 K) := hv 5 (by kernel_rfl)
        refine ⟨wanted_some rfl (Deps.at 21 hd (by kernel_rfl) : slotOf _ T 21 = .bool true), ?_⟩
        clear hd hv hb hs
        go_simp
        exact ⟨_, rfl, Below.refl _ _, rfl⟩
      · intro T w Q hb hs hv hd
        have hx56 : T.getD 56 undef = (.slice A l.length c) := Deps.at 36 hd (by kernel_rfl)
        have hx57 : T.getD 57 undef = (.int .i64 K) := Deps.at 37 hd (by kernel_rfl)
        refine ⟨wanted_some rfl (Deps.at 21 hd (by kernel_rfl) : slotOf _ T 21 = .bool true), ?_⟩
        clear hd hv hb hs
        go_simp
        exact ⟨_, rfl, Below.refl _ _, rfl⟩
      · intro T w Q hb hs hv hd
        have hx58 : T.getD 58 undef = (.slice A2 (l.length - K) (c - K)) := Deps.at 38 hd (by kernel_rfl)
        refine ⟨wanted_some rfl (Deps.at 21 hd (by kernel_rfl) : slotOf _ T 21 = .bool true), ?_⟩
        have hc := (hp2.out.below hb).string (P := Tryd.prog) Tryd.underlying33 Tryd.underlying5 Tryd.underlying9
        clear hd hv hs
        go_simp
        exact ⟨_, rfl, Below.refl _ _, rfl⟩
      · intro T w Q hb hs hv hd
        have hx55 : T.getD 55 undef = (.string (bstr (l.take K))) := Deps.at 35 hd (by kernel_rfl)
        have hy55 := hx55
        rw [Array.getD_eq_getD_getElem?] at hy55
        have hx59 : T.getD 59 undef = (.string (bstr (l.drop K))) := Deps.at 39 hd (by kernel_rfl)
        have hy59 := hx59
        rw [Array.getD_eq_getD_getElem?] at hy59
        refine ⟨wanted_some rfl (Deps.at 21 hd (by kernel_rfl) : slotOf _ T 21 = .bool true), ?_⟩
        clear hd hv hs
        go_simp
        refine ⟨_, rfl, ((Below.refl _ _).alloc (Nat.le_refl _) _), StrsV.at2 ?_ ?_ ?_ hz1.out hz2.out⟩
        · simp
        · simp [go_sem]
        · simp [go_sem]
      · intro T w Q hb hs hv hd
        have f60 : (fun (v : Value) (w : World) => StrsV w w.heap.size v [bstr (l.take K), bstr (l.drop K)]) (T.getD 60 undef) w := Deps.at 40 hd (by kernel_rfl)
        generalize hx60 : T.getD 60 undef = x60 at f60
        replace f60 := hide f60
        refine ⟨wanted_some rfl (Deps.at 21 hd (by kernel_rfl) : slotOf _ T 21 = .bool true), ?_⟩
        clear hd hv hs
        go_simp
        refine (refPrint_any _ _ _ _ f60.out).mono ?_
        rintro e w2 ⟨rfl, rfl⟩
        exact ⟨_, rfl, Below.refl _ _, rfl⟩
      · intro T w Q hb hs hv hd
        have hx51 : T.getD 51 undef = (.int .u64 (prints 14695981039346656037 [bstr (l.take K), bstr (l.drop K)] : Nat)) := Deps.at 31 hd (by kernel_rfl)
        have hx61 : T.getD 61 undef = (.int .u64 (prints 14695981039346656037 [bstr (l.take K), bstr (l.drop K)] : Nat)) := Deps.at 41 hd (by kernel_rfl)
        refine ⟨wanted_some rfl (Deps.at 21 hd (by kernel_rfl) : slotOf _ T 21 = .bool true), ?_⟩
        clear hd hv hb hs
        go_simp
        exact ⟨_, rfl, Below.refl _ _, rfl⟩
      · intro T w Q hb hs hv hd
        have hx41 : T.getD 41 undef = (.bool true) := Deps.at 21 hd (by kernel_rfl)
        have hx62 : T.getD 62 undef = (.bool true) := Deps.at 42 hd (by kernel_rfl)
        refine ⟨wanted_none rfl, ?_⟩
        clear hd hv hb hs
        go_simp
        exact ⟨_, rfl, Below.refl _ _, rfl⟩
      · intro T w Q hb hs hv hd
        have hx63 : T.getD 63 undef = (.bool true) := Deps.at 43 hd (by kernel_rfl)
        refine ⟨wanted_none rfl, ?_⟩
        clear hd hv hb hs
        go_simp
        exact ⟨_, rfl, Below.refl _ _, rfl⟩
      · intro T w hb hs hv hf
        have f44 : T.getD 4 undef = (.bool true) := hf 44 (by decide)
        clear hf hs hv
        go_wp2_with fail
        go_ret
        exact ⟨congrArg Ending.returned f44, hb1.out.trans (hb.mono hb1.out.size)⟩
  · go_enter Tryd.func4, Tryd.ntmps4
    go_wp2_with fail
    refine (known_any _ hT.out h0).mono ?_
    rintro e w1 ⟨rfl, hb1⟩
    go_wp2_with fail
    go_ret
    exact ⟨rfl, hb1⟩
end Go.Proofs.YtdjcipfaiaodcaaDoor
