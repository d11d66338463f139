/- The walk of SumTurned. -/
import Derived.Test.YtdjcipfaiaodcaaDoorLong
import Derived.Test.YtdjcipfaiaodcaaDoorTurn
import Derived.BigRegion
namespace Go.Proofs.YtdjcipfaiaodcaaDoor
open Go.RowKit Sums

theorem u8_info : (Tryd.prog.info? 5).map (fun i => (i.zero, i.size, i.bytes)) = some (some (.int .u8 0), 1, 1) := by kernel_rfl

/-- The copy of the call's own, at block g. -/
def Cop (w1 W : World) (g n cap : Nat) (l : List UInt8) : Prop := W.ownsRow w1.heap.size 5 1 (.slice (some ⟨g, 0, none⟩) n cap) n (bv l) ∧ Below w1.heap.size w1 W
theorem Cop.of {w1 W : World} {v1 : Value} {n : Nat} {l : List UInt8} (hn : 0 < n) (ho : W.ownsRow w1.heap.size 5 1 v1 n (bv l)) (hg : w1.grownBy W none) : ∃ g cap, v1 = .slice (some ⟨g, 0, none⟩) n cap ∧ n ≤ cap ∧ cap ≤ maxLen ∧ Cop w1 W g n cap l := by
  have hb : Below w1.heap.size w1 W := (Below.refl _ _).grown hg (Nat.le_refl _) (fun _ h => by cases h)
  have ho' := ho
  rcases ho.2 with ⟨_, rfl⟩ | ⟨g, cap, cur, rfl, _, _, hnc, hcm, _⟩
  · omega
  · exact ⟨g, cap, rfl, hnc, hcm, ho', hb⟩
section
variable {w1 W : World} {g n cap : Nat} {l : List UInt8}
theorem Cop.len (h : Cop w1 W g n cap l) : l.length = n := by have := h.1.1; rw [bv_len, Nat.mul_one] at this; exact this
theorem Cop.drew (h : Cop w1 W g n cap l) : Cop w1 W.drew g n cap l := ⟨h.1, h.2.drew⟩
theorem Cop.alloc (h : Cop w1 W g n cap l) (o : Obj) : Cop w1 (W.alloc o) g n cap l := ⟨h.1.alloc o, h.2.alloc h.2.size o⟩
theorem Cop.cell (h : Cop w1 W g n cap l) {q : Nat} (hq : q < n) : W.cell? ⟨g, q, none⟩ = some (.int .u8 ((l.getD q 0).toNat : Nat)) := by
  rw [h.1.cellAt q (by omega)]
  have hl := h.len
  rw [bv_get (by omega), List.getD_eq_getElem?_getD, List.getElem?_eq_getElem (by omega)]
  rfl
theorem Cop.frozen (h : Cop w1 W g n cap l) (q : Nat) : W.frozen? ⟨g, q, none⟩ = false := h.1.frozenAt q
theorem Cop.set (h : Cop w1 W g n cap l) (p : Nat) (y : Nat) (hy : y = (l.getD (p / 8) 0 ^^^ UInt8.ofNat (2 ^ (p % 8))).toNat) : Cop w1 (W.setCell ⟨g, p / 8, none⟩ (.int .u8 (y : Nat))) g n cap (tog l p) := by
  have e : bv (tog l p) = (bv l).set (p / 8) (.int .u8 (y : Nat)) := by
    subst hy
    unfold tog bv
    rw [List.map_set]
  refine ⟨?_, h.2.setCell ((h.1.lt g rfl).1) _⟩
  rw [e]
  exact (h.1.stored (p / 8) _).1
theorem Cop.bytes (h : Cop w1 W g n cap l) (hc : n ≤ cap) (hm : cap ≤ maxLen) : BytesV W W.heap.size (.slice (some ⟨g, 0, none⟩) n cap) l := by
  obtain ⟨A, c, e, _, _, h3⟩ := ownsRow_sl h.1
  injection e with e1 e2 e3
  subst e1
  have hl := h.len
  exact ⟨_, cap, by rw [hl], by omega, hm, h3⟩
end
/-- What the walk meets at one bit. -/
theorem tog_pack {w1 W : World} {g n cap : Nat} {l : List UInt8} (h : Cop w1 W g n cap l) (I : Nat) (hn : 0 < n) :
    ∃ p x y : Nat, (I : Int) % (8 * (n : Int)) = (p : Int) ∧ p < 8 * n ∧ p / 8 < n ∧ W.cell? ⟨g, p / 8, none⟩ = some (.int .u8 (x : Int)) ∧ W.frozen? ⟨g, p / 8, none⟩ = false ∧
      bits .xor .u8 (x : Int) (2 ^ (p % 8) % 256) = (y : Int) ∧ Cop w1 (W.setCell ⟨g, p / 8, none⟩ (.int .u8 (y : Int))).drew g n cap (tog l p) := by
  have hp : I % (8 * n) < 8 * n := Nat.mod_lt _ (by omega)
  have hz : 2 ^ (I % (8 * n) % 8) < 2 ^ 8 := Nat.pow_lt_pow_right (by decide) (Nat.mod_lt _ (by decide))
  have hx := (l.getD (I % (8 * n) / 8) 0).toNat_lt
  refine ⟨I % (8 * n), (l.getD (I % (8 * n) / 8) 0).toNat, (l.getD (I % (8 * n) / 8) 0 ^^^ UInt8.ofNat (2 ^ (I % (8 * n) % 8))).toNat, ?_, hp, by omega, h.cell (by omega), h.frozen _, ?_, (h.set _ _ rfl).drew⟩
  · rw [show (8 * (n : Int)) = ((8 * n : Nat) : Int) by omega]; exact (Int.natCast_emod _ _).symm
  · rw [show ((2 : Int) ^ (I % (8 * n) % 8) % 256) = ((2 ^ (I % (8 * n) % 8) : Nat) : Int) by
      rw [show ((2 : Int) ^ (I % (8 * n) % 8)) = ((2 ^ (I % (8 * n) % 8) : Nat) : Int) by simp]
      generalize 2 ^ (I % (8 * n) % 8) = z at *
      omega]
    rw [u8_xor_nat _ _ (by omega) (by omega), UInt8.toNat_xor, UInt8.toNat_ofNat_of_lt' (by simpa using hz)]

set_option maxHeartbeats 1600000 in
theorem turned_any (v : Value) (l : List UInt8) (i j k : Int) (w : World) (B : Nat) (hv : BytesV w B v l) (hT : Tab w) (hB : B ≤ w.heap.size) (h0 : 0 < w.heap.size) (hi : 0 ≤ i ∧ i ≤ 65535) (hj : 0 ≤ j ∧ j ≤ 65535) (hk : 0 ≤ k ∧ k ≤ 65535) :
    Calls Tryd.prog 5 #[v, .int .u16 i, .int .u16 j, .int .u16 k] w fun e w' => e = .returned (.bool true) ∧ Below w.heap.size w w' := by
  replace hT := hide hT
  have hv0 := hide hv
  obtain ⟨A, c, rfl, hlc, hcm, hs⟩ := hv
  unfold maxLen at hcm
  obtain ⟨i0, hi0, hz0, hz1, hz2⟩ := info_parts u8_info
  replace hi0 := hide hi0
  replace hz0 := hide hz0
  replace hz1 := hide hz1
  replace hz2 := hide hz2
  obtain ⟨I, rfl⟩ := Int.eq_ofNat_of_zero_le hi.1
  obtain ⟨J, rfl⟩ := Int.eq_ofNat_of_zero_le hj.1
  obtain ⟨K, rfl⟩ := Int.eq_ofNat_of_zero_le hk.1
  by_cases hl0 : l.length = 0
  · obtain rfl : l = [] := List.eq_nil_of_length_eq_zero hl0
    clear hl0 hlc
    go_enter Tryd.func5, Tryd.ntmps5
    go_wp2_with fail
    refine (known_any _ hT.out h0).mono ?_
    rintro e w1 ⟨rfl, hb1⟩
    replace hb1 := hide hb1
    go_wp2_with fail
    go_ret
    exact ⟨rfl, hb1.out⟩
  by_cases hl5 : l.length ≤ 500
  · obtain ⟨b, o, rfl, hbB, _⟩ := hs.get (bv_get (l := l) (i := 0) (by omega))
    have hb0 : ((l.length : Int) == 0) = false := by rw [beq_eq_false_iff_ne]; omega
    have hpos : 0 < l.length := by omega
    go_enter Tryd.func5, Tryd.ntmps5
    go_wp2_with fail
    refine (known_any _ hT.out h0).mono ?_
    rintro e w1 ⟨rfl, hb1⟩
    have hT1 := hide (hT.out.below h0 hb1)
    have h01 : 0 < w1.heap.size := hT1.out.pos
    have hv1 := hide ((hv0.out.below (hb1.mono hB)).more (Nat.le_trans hB hb1.size))
    have hs1 := hide (hs.below (hb1.mono hB))
    replace hb1 := hide hb1
    clear hs
    go_wp2_with (at_builtin
                 refine wpList_append_own _ rfl (.const (.slice none 0 0)) (.tmp 21) 33 rfl w1.heap.size 5 i0 (.int .u8 0) 1 1 Tryd.underlying33 hi0.out hz0.out hz1.out hz2.out rfl Nat.one_pos _ 0 [] rfl (World.ownsRow_nil _ _ _ _) ⟨b, o, none⟩ l.length c (bv l) rfl (by simp [bv]) ?_ ?_ ?_ ?_ ?_ ?_
                 · intro j u hj; rw [Go.WideShapes.add_plain]; obtain ⟨b', o', hA, _, hc⟩ := hs1.out.get hj; injection hA with hA; injection hA with h1 h2; subst h1; subst h2; exact hc
                 · intro u hu; simp only [bv, List.mem_map] at hu; obtain ⟨x, _, rfl⟩ := hu; rfl
                 · unfold maxLen; omega
                 · omega
                 · exact Nat.le_refl _
                 intro v1 W1 hown hg1 hnn
                 have H := hide (And.intro hown hg1)
                 clear hown hg1 hnn)
    have Hh := H.out
    rw [Nat.zero_add, List.nil_append] at Hh
    obtain ⟨g, cap, rfl, hnc, hcap, hcop⟩ := Cop.of hpos Hh.1 Hh.2
    unfold maxLen at hcap
    clear Hh H
    obtain ⟨p, x, y, e1, e2, e3, e4, e5, e6, hcop1⟩ := tog_pack hcop I hpos
    clear hcop
    replace hcop1 := hide hcop1
    go_region
    generalize (W1.setCell ⟨g, p / 8, none⟩ (.int .u8 (y : Int))).drew = W2 at *
    have hne := turned_one l p e2
    clear e1 e4 e5 e6
    have hC1 := hide hcop1
    clear hcop1
    replace hC1 := hC1.out
    have hne' : (((crc [tog l p] : Nat) : Int) == ((crc [l] : Nat) : Int)) = false := by rw [beq_eq_false_iff_ne]; intro h; exact hne (by omega)
    have hbs := hide ((hv1.out.below hC1.out.2).more hC1.out.2.size)
    have hcs := hide (hC1.out.bytes hnc (by unfold maxLen; exact hcap))
    generalize hc1 : crc [tog l p] = c1 at *
    generalize hc0 : crc [l] = c0 at *
    replace hc1 := hide hc1
    replace hc0 := hide hc0
    clear hne
    go_wp2_with fail
    refine (crc_any _ [tog l p] _ (W2.heap.size + 1) (RowsV.at1 (by omega) (by simp [go_sem]) ((hcs.out.alloc (Nat.le_refl _) _).more (by omega))) (hT1.out.below h01 (hC1.out.2.alloc hC1.out.2.size _))).mono ?_
    rw [hc1.out]
    rintro e w2 ⟨rfl, rfl⟩
    go_wp2_with fail
    refine (crc_any _ [l] _ (W2.heap.size + 2) (RowsV.at1 (by omega) (by simp [go_sem]) (((hbs.out.alloc (Nat.le_refl _) _).alloc (by simp) _).more (by omega))) (hT1.out.below h01 ((hC1.out.2.alloc hC1.out.2.size _).alloc (by have := hC1.out.2.size; simp; omega) _))).mono ?_
    rw [hc0.out]
    rintro e w2 ⟨rfl, rfl⟩
    have hC2 := (hC1.out.alloc (.cells #[.slice (some ⟨g, 0, none⟩) l.length cap] 33)).alloc (.cells #[.slice (some ⟨b, o, none⟩) l.length c] 33)
    obtain ⟨q, x2, y2, a1, a2, a3, a4, a5, a6, hcop2⟩ := tog_pack hC2 J hpos
    clear hcs hbs hC1 hC2
    replace hcop2 := hide hcop2
    generalize (W2.alloc (.cells #[.slice (some ⟨g, 0, none⟩) l.length cap] 33)).alloc (.cells #[.slice (some ⟨b, o, none⟩) l.length c] 33) = W3 at *
    go_wp2_with fail
    go_region
    generalize (W3.setCell ⟨g, q / 8, none⟩ (.int .u8 (y2 : Int))).drew = W4 at *
    clear a1 a4 a5 a6
    obtain ⟨r, x3, y3, b1, b2, b3, b4, b5, b6, hcop3⟩ := tog_pack hcop2.out K hpos
    clear hcop2
    replace hcop3 := hide hcop3
    go_wp2_with fail
    go_region
    generalize (W4.setCell ⟨g, r / 8, none⟩ (.int .u8 (y3 : Int))).drew = W5 at *
    clear b1 b4 b5 b6
    have hne3 := turned_three l p q r hl5 e2 a2 b2
    generalize hl3 : tog (tog (tog l p) q) r = l3 at *
    have hlen3 : l3.length = l.length := by rw [← hl3]; simp [tog_len]
    replace hl3 := hide hl3
    have hc3 := hide (hcop3.out.bytes hnc (by unfold maxLen; exact hcap))
    have hb3 := hide ((hv1.out.below hcop3.out.2).more hcop3.out.2.size)
    have hT3 := hide (hT1.out.below h01 hcop3.out.2)
    have h03 : 0 < W5.heap.size := hT3.out.pos
    have hbW := hide hcop3.out.2
    have hz3 : Hid ((bstr l3).size ≤ maxLen) := by rw [bstr_size, hlen3]; unfold maxLen; exact hide (by omega)
    have hls : l3 ≠ l := by rintro rfl; exact hne3 rfl
    generalize hq3 : crc [l3] = c3 at *
    rw [hc0.out] at hne3
    have hne3' : (((c3 : Nat) : Int) == ((c0 : Nat) : Int)) = false := by rw [beq_eq_false_iff_ne]; intro h; exact hne3 (by omega)
    replace hq3 := hide hq3
    have hls' : (l3 == l) = false := by rw [beq_eq_false_iff_ne]; exact hls
    clear hls
    replace hlen3 := hide hlen3
    clear hne3
    go_wp2_with fail
    refine wp_region_kept (factAt [(fun v _ => v = (.slice (some ⟨g, 0, none⟩) l.length cap)), (fun v w => RowsV w w.heap.size v [l3]), (fun v _ => v = (.int .u32 (c3 : Nat))), (fun v _ => v = (.slice (some ⟨b, o, none⟩) l.length c)), (fun v w => RowsV w w.heap.size v [l]), (fun v _ => v = (.int .u32 (c0 : Nat))), (fun v _ => v = (.bool false)), (fun v _ => v = (.slice (some ⟨g, 0, none⟩) l.length cap)), (fun v _ => v = (.string ⟨l3.toArray⟩)), (fun v _ => v = (.slice (some ⟨b, o, none⟩) l.length c)), (fun v _ => v = (.string ⟨l.toArray⟩)), (fun v _ => v = (.bool false)), (fun v _ => v = (.bool true)), (fun v _ => v = (.bool true)), (fun v _ => v = (.slice (some ⟨g, 0, none⟩) l.length cap)), (fun v _ => v = (.string ⟨l3.toArray⟩)), (fun v w => StrsV w w.heap.size v [bstr l3]), (fun v _ => v = (.int .u64 (prints 14695981039346656037 [bstr l3] : Nat))), (fun v _ => v = (.slice (some ⟨g, 0, none⟩) l.length cap)), (fun v _ => v = (.string ⟨l3.toArray⟩)), (fun v w => StrsV w w.heap.size v [bstr l3]), (fun v _ => v = (.int .u64 (prints 14695981039346656037 [bstr l3] : Nat))), (fun v _ => v = (.bool true)), (fun v _ => v = (.bool true)), (fun v _ => v = (.bool true))]) (by kernel_rfl) (kept_at ⟨Kept.eq _, kept_rows _, Kept.eq _, Kept.eq _, kept_rows _, Kept.eq _, Kept.eq _, Kept.eq _, Kept.eq _, Kept.eq _, Kept.eq _, Kept.eq _, Kept.eq _, Kept.eq _, Kept.eq _, Kept.eq _, kept_strs _, Kept.eq _, Kept.eq _, Kept.eq _, kept_strs _, Kept.eq _, Kept.eq _, Kept.eq _, Kept.eq _, trivial⟩) (by kernel_rfl) (by kernel_rfl) (by kernel_rfl) ⟨?_, ?_, ?_, ?_, ?_, ?_, ?_, ?_, ?_, ?_, ?_, ?_, ?_, ?_, ?_, ?_, ?_, ?_, ?_, ?_, ?_, ?_, ?_, ?_, ?_, trivial⟩ ?_
    · intro T w Q hb hs hv hd
      have hx9 : T.getD 9 undef = (.slice (some ⟨g, 0, none⟩) l.length cap) := hv 9 (by kernel_rfl)
      refine ⟨wanted_none rfl, ?_⟩
      clear hd hv hb hs
      go_simp
      exact ⟨_, rfl, Below.refl _ _, rfl⟩
    · intro T w Q hb hs hv hd
      have hx81 : T.getD 81 undef = (.slice (some ⟨g, 0, none⟩) l.length cap) := Deps.at 0 hd (by kernel_rfl)
      have hy81 := hx81
      rw [Array.getD_eq_getD_getElem?] at hy81
      refine ⟨wanted_none rfl, ?_⟩
      clear hd hv hs
      go_simp
      refine ⟨_, rfl, ((Below.refl _ _).alloc (Nat.le_refl _) _), RowsV.at1 ?_ ?_ (((hc3.out.below hb).alloc hb.size _).more ?_)⟩
      · simp
      · simp [go_sem]
      · have := hb.size; simp; omega
    · intro T w Q hb hs hv hd
      have f82 : (fun (v : Value) (w : World) => RowsV w w.heap.size v [l3]) (T.getD 82 undef) w := Deps.at 1 hd (by kernel_rfl)
      generalize hx82 : T.getD 82 undef = x82 at f82
      replace f82 := hide f82
      refine ⟨wanted_none rfl, ?_⟩
      clear hd hv hs
      go_simp
      refine (crc_any _ _ _ _ f82.out (hT3.out.below h03 hb)).mono ?_
      rw [hq3.out]
      rintro e w2 ⟨rfl, rfl⟩
      exact ⟨_, rfl, Below.refl _ _, rfl⟩
    · intro T w Q hb hs hv hd
      have hx0 : T.getD 0 undef = (.slice (some ⟨b, o, none⟩) l.length c) := hv 0 (by kernel_rfl)
      refine ⟨wanted_none rfl, ?_⟩
      clear hd hv hb hs
      go_simp
      exact ⟨_, rfl, Below.refl _ _, rfl⟩
    · intro T w Q hb hs hv hd
      have hx84 : T.getD 84 undef = (.slice (some ⟨b, o, none⟩) l.length c) := Deps.at 3 hd (by kernel_rfl)
      have hy84 := hx84
      rw [Array.getD_eq_getD_getElem?] at hy84
      refine ⟨wanted_none rfl, ?_⟩
      clear hd hv hs
      go_simp
      refine ⟨_, rfl, ((Below.refl _ _).alloc (Nat.le_refl _) _), RowsV.at1 ?_ ?_ (((hb3.out.below hb).alloc hb.size _).more ?_)⟩
      · simp
      · simp [go_sem]
      · have := hb.size; simp; omega
    · intro T w Q hb hs hv hd
      have f85 : (fun (v : Value) (w : World) => RowsV w w.heap.size v [l]) (T.getD 85 undef) w := Deps.at 4 hd (by kernel_rfl)
      generalize hx85 : T.getD 85 undef = x85 at f85
      replace f85 := hide f85
      refine ⟨wanted_none rfl, ?_⟩
      clear hd hv hs
      go_simp
      refine (crc_any _ _ _ _ f85.out (hT3.out.below h03 hb)).mono ?_
      rw [hc0.out]
      rintro e w2 ⟨rfl, rfl⟩
      exact ⟨_, rfl, Below.refl _ _, rfl⟩
    · intro T w Q hb hs hv hd
      have hx83 : T.getD 83 undef = (.int .u32 (c3 : Nat)) := Deps.at 2 hd (by kernel_rfl)
      have hx86 : T.getD 86 undef = (.int .u32 (c0 : Nat)) := Deps.at 5 hd (by kernel_rfl)
      refine ⟨wanted_none rfl, ?_⟩
      clear hd hv hb hs
      go_simp
      exact ⟨_, rfl, Below.refl _ _, rfl⟩
    · intro T w Q hb hs hv hd
      have hx9 : T.getD 9 undef = (.slice (some ⟨g, 0, none⟩) l.length cap) := hv 9 (by kernel_rfl)
      refine ⟨wanted_none rfl, ?_⟩
      clear hd hv hb hs
      go_simp
      exact ⟨_, rfl, Below.refl _ _, rfl⟩
    · intro T w Q hb hs hv hd
      have hx88 : T.getD 88 undef = (.slice (some ⟨g, 0, none⟩) l.length cap) := Deps.at 7 hd (by kernel_rfl)
      refine ⟨wanted_none rfl, ?_⟩
      have hc := (hc3.out.below hb).string (P := Tryd.prog) Tryd.underlying33 Tryd.underlying5 Tryd.underlying9
      clear hd hv hs
      go_simp
      exact ⟨_, rfl, Below.refl _ _, rfl⟩
    · intro T w Q hb hs hv hd
      have hx0 : T.getD 0 undef = (.slice (some ⟨b, o, none⟩) l.length c) := hv 0 (by kernel_rfl)
      refine ⟨wanted_none rfl, ?_⟩
      clear hd hv hb hs
      go_simp
      exact ⟨_, rfl, Below.refl _ _, rfl⟩
    · intro T w Q hb hs hv hd
      have hx90 : T.getD 90 undef = (.slice (some ⟨b, o, none⟩) l.length c) := Deps.at 9 hd (by kernel_rfl)
      refine ⟨wanted_none rfl, ?_⟩
      have hc := (hb3.out.below hb).string (P := Tryd.prog) Tryd.underlying33 Tryd.underlying5 Tryd.underlying9
      clear hd hv hs
      go_simp
      exact ⟨_, rfl, Below.refl _ _, rfl⟩
    · intro T w Q hb hs hv hd
      have hx89 : T.getD 89 undef = (.string ⟨l3.toArray⟩) := Deps.at 8 hd (by kernel_rfl)
      have hx91 : T.getD 91 undef = (.string ⟨l.toArray⟩) := Deps.at 10 hd (by kernel_rfl)
      refine ⟨wanted_none rfl, ?_⟩
      clear hd hv hb hs
      go_simp
      exact ⟨_, rfl, Below.refl _ _, rfl⟩
    · intro T w Q hb hs hv hd
      have hx87 : T.getD 87 undef = (.bool false) := Deps.at 6 hd (by kernel_rfl)
      have hx92 : T.getD 92 undef = (.bool false) := Deps.at 11 hd (by kernel_rfl)
      refine ⟨wanted_none rfl, ?_⟩
      clear hd hv hb hs
      go_simp
      exact ⟨_, rfl, Below.refl _ _, rfl⟩
    · intro T w Q hb hs hv hd
      have hx93 : T.getD 93 undef = (.bool true) := Deps.at 12 hd (by kernel_rfl)
      refine ⟨wanted_none rfl, ?_⟩
      clear hd hv hb hs
      go_simp
      exact ⟨_, rfl, Below.refl _ _, rfl⟩
    · intro T w Q hb hs hv hd
      have hx9 : T.getD 9 undef = (.slice (some ⟨g, 0, none⟩) l.length cap) := hv 9 (by kernel_rfl)
      refine ⟨wanted_some rfl (Deps.at 13 hd (by kernel_rfl) : slotOf _ T 13 = .bool true), ?_⟩
      clear hd hv hb hs
      go_simp
      exact ⟨_, rfl, Below.refl _ _, rfl⟩
    · intro T w Q hb hs hv hd
      have hx95 : T.getD 95 undef = (.slice (some ⟨g, 0, none⟩) l.length cap) := Deps.at 14 hd (by kernel_rfl)
      refine ⟨wanted_some rfl (Deps.at 13 hd (by kernel_rfl) : slotOf _ T 13 = .bool true), ?_⟩
      have hc := (hc3.out.below hb).string (P := Tryd.prog) Tryd.underlying33 Tryd.underlying5 Tryd.underlying9
      clear hd hv hs
      go_simp
      exact ⟨_, rfl, Below.refl _ _, rfl⟩
    · intro T w Q hb hs hv hd
      have hx96 : T.getD 96 undef = (.string ⟨l3.toArray⟩) := Deps.at 15 hd (by kernel_rfl)
      have hy96 := hx96
      rw [Array.getD_eq_getD_getElem?] at hy96
      refine ⟨wanted_some rfl (Deps.at 13 hd (by kernel_rfl) : slotOf _ T 13 = .bool true), ?_⟩
      clear hd hv hs
      go_simp
      refine ⟨_, rfl, ((Below.refl _ _).alloc (Nat.le_refl _) _), StrsV.at1 ?_ ?_ hz3.out⟩
      · simp
      · simp [go_sem, bstr]
    · intro T w Q hb hs hv hd
      have f97 : (fun (v : Value) (w : World) => StrsV w w.heap.size v [bstr l3]) (T.getD 97 undef) w := Deps.at 16 hd (by kernel_rfl)
      generalize hx97 : T.getD 97 undef = x97 at f97
      replace f97 := hide f97
      refine ⟨wanted_some rfl (Deps.at 13 hd (by kernel_rfl) : slotOf _ T 13 = .bool true), ?_⟩
      clear hd hv hs
      go_simp
      refine (print_any _ _ _ _ f97.out).mono ?_
      rintro e w2 ⟨rfl, rfl⟩
      exact ⟨_, rfl, Below.refl _ _, rfl⟩
    · intro T w Q hb hs hv hd
      have hx9 : T.getD 9 undef = (.slice (some ⟨g, 0, none⟩) l.length cap) := hv 9 (by kernel_rfl)
      refine ⟨wanted_some rfl (Deps.at 13 hd (by kernel_rfl) : slotOf _ T 13 = .bool true), ?_⟩
      clear hd hv hb hs
      go_simp
      exact ⟨_, rfl, Below.refl _ _, rfl⟩
    · intro T w Q hb hs hv hd
      have hx99 : T.getD 99 undef = (.slice (some ⟨g, 0, none⟩) l.length cap) := Deps.at 18 hd (by kernel_rfl)
      refine ⟨wanted_some rfl (Deps.at 13 hd (by kernel_rfl) : slotOf _ T 13 = .bool true), ?_⟩
      have hc := (hc3.out.below hb).string (P := Tryd.prog) Tryd.underlying33 Tryd.underlying5 Tryd.underlying9
      clear hd hv hs
      go_simp
      exact ⟨_, rfl, Below.refl _ _, rfl⟩
    · intro T w Q hb hs hv hd
      have hx100 : T.getD 100 undef = (.string ⟨l3.toArray⟩) := Deps.at 19 hd (by kernel_rfl)
      have hy100 := hx100
      rw [Array.getD_eq_getD_getElem?] at hy100
      refine ⟨wanted_some rfl (Deps.at 13 hd (by kernel_rfl) : slotOf _ T 13 = .bool true), ?_⟩
      clear hd hv hs
      go_simp
      refine ⟨_, rfl, ((Below.refl _ _).alloc (Nat.le_refl _) _), StrsV.at1 ?_ ?_ hz3.out⟩
      · simp
      · simp [go_sem, bstr]
    · intro T w Q hb hs hv hd
      have f101 : (fun (v : Value) (w : World) => StrsV w w.heap.size v [bstr l3]) (T.getD 101 undef) w := Deps.at 20 hd (by kernel_rfl)
      generalize hx101 : T.getD 101 undef = x101 at f101
      replace f101 := hide f101
      refine ⟨wanted_some rfl (Deps.at 13 hd (by kernel_rfl) : slotOf _ T 13 = .bool true), ?_⟩
      clear hd hv hs
      go_simp
      refine (refPrint_any _ _ _ _ f101.out).mono ?_
      rintro e w2 ⟨rfl, rfl⟩
      exact ⟨_, rfl, Below.refl _ _, rfl⟩
    · intro T w Q hb hs hv hd
      have hx98 : T.getD 98 undef = (.int .u64 (prints 14695981039346656037 [bstr l3] : Nat)) := Deps.at 17 hd (by kernel_rfl)
      have hx102 : T.getD 102 undef = (.int .u64 (prints 14695981039346656037 [bstr l3] : Nat)) := Deps.at 21 hd (by kernel_rfl)
      refine ⟨wanted_some rfl (Deps.at 13 hd (by kernel_rfl) : slotOf _ T 13 = .bool true), ?_⟩
      clear hd hv hb hs
      go_simp
      exact ⟨_, rfl, Below.refl _ _, rfl⟩
    · intro T w Q hb hs hv hd
      have hx94 : T.getD 94 undef = (.bool true) := Deps.at 13 hd (by kernel_rfl)
      have hx103 : T.getD 103 undef = (.bool true) := Deps.at 22 hd (by kernel_rfl)
      refine ⟨wanted_none rfl, ?_⟩
      clear hd hv hb hs
      go_simp
      exact ⟨_, rfl, Below.refl _ _, rfl⟩
    · intro T w Q hb hs hv hd
      have hx104 : T.getD 104 undef = (.bool true) := Deps.at 23 hd (by kernel_rfl)
      refine ⟨wanted_none rfl, ?_⟩
      clear hd hv hb hs
      go_simp
      exact ⟨_, rfl, Below.refl _ _, rfl⟩
    · intro T w hb hs hv hf
      have f24 : T.getD 8 undef = (.bool true) := hf 24 (by decide)
      clear hf hs hv
      go_wp2_with fail
      go_ret
      exact ⟨congrArg Ending.returned f24, hb1.out.trans (hbW.out.trans (hb.mono hbW.out.size) |>.mono hb1.out.size)⟩
  · have hb0 : ((l.length : Int) == 0) = false := by rw [beq_eq_false_iff_ne]; omega
    have hb5 : (500 : Int) < (l.length : Int) := by omega
    go_enter Tryd.func5, Tryd.ntmps5
    go_wp2_with fail
    refine (known_any _ hT.out h0).mono ?_
    rintro e w1 ⟨rfl, hb1⟩
    replace hb1 := hide hb1
    go_wp2_with fail
    go_ret
    exact ⟨rfl, hb1.out⟩
end Go.Proofs.YtdjcipfaiaodcaaDoor
