/- Part 17 of the walks (merged): FallsLaw. -/
import Derived.Test.YtimblkkojcbipaaDoorY15
import Derived.Test.YtimblkkojcbipaaDoorY16
/- The walk of WalFalls. -/
namespace Go.Proofs.YtimblkkojcbipaaDoor
open Go Go.RowKit
theorem LgP.fit {n B sb lb : Nat} {S : Nat → Prop} {rs : List (List UInt8)} {W : World} (h : LgP n W B sb lb S rs) : (frames rs).length ≤ capC n := by
  obtain ⟨D, live, x, h1, h2, h3, h4, h5, h6, h7, _⟩ := h
  rw [← h4.lies.bytes, ← cap_of h6 h7]
  exact h4.lies.fit
theorem RecsV.form {u0 : World} {T : Nat → Prop} {v : Value} {rs : List (List UInt8)} (h : RecsV u0 T v rs) : ∃ A n c, v = .slice A n c ∧ n ≤ c ∧ c ≤ maxLen ∧ n = rs.length := by
  obtain ⟨vs, h1, ⟨A, c, e, h2, h3, _⟩, _⟩ := h
  exact ⟨A, _, c, e, h2, h3, h1⟩
set_option maxRecDepth 100000 in
set_option maxHeartbeats 16000000 in
theorem falls_any {u0 : World} {v1 v2 v3 : Value} {n : Nat} {qs : List ActQ} {cs : List UInt8} {ks : List Nat} (hn : n < 256) (h1 : ActsV u0 u0.heap.size v1 qs) (h2 : BytesV u0 u0.heap.size v2 cs) (h3 : ArgV u0 (· < u0.heap.size) v3 (ks.map fun n : Nat => .int .u64 n)) (hks : ∀ n ∈ ks, n < 18446744073709551616) (hT : Tab u0) (hz : 1 ≤ u0.heap.size) :
    Calls Tryd.prog 4 #[.int .u8 n, v1, v2, v3] u0 fun e w' => e = .returned (.bool true) ∧ Below u0.heap.size u0 w' := by
  have hk := known4 hT hz
  have a1 := h1
  have a2 := h2.arg
  have a3 := h3
  obtain ⟨A1, c1, rfl, m1, m1', -⟩ := h1.1
  obtain ⟨A2, c2, rfl, m2, m2', -⟩ := h2
  obtain ⟨A3, c3, rfl, m3, m3', -⟩ := h3
  rw [List.length_map] at a3 m3 ⊢
  have m1' : c1 ≤ 9223372036854775807 := by unfold maxLen at m1'; exact m1'
  have m2' : c2 ≤ 9223372036854775807 := by unfold maxLen at m2'; exact m2'
  have m3' : c3 ≤ 9223372036854775807 := by unfold maxLen at m3'; exact m3'
  have hT0 := hide hT
  replace a1 := hide a1
  replace a2 := hide a2
  replace a3 := hide a3
  replace hks := hide hks
  clear hT h1
  obtain ⟨q, hq⟩ : ∃ q, q = n % 60 := ⟨_, rfl⟩
  have hq2 : (n : Int) % 60 = (q : Nat) := by omega
  have hq3 : q < 60 := by omega
  obtain ⟨K, hK⟩ : ∃ K, K = 80 + q := ⟨_, rfl⟩
  have hK2 : (80 : Int) + q = (K : Nat) := by omega
  have hK3 : 80 ≤ K ∧ K ≤ 139 := by omega
  replace hK := hide hK
  replace hq := hide hq
  go_enter Tryd.func4, Tryd.ntmps4
  go_wp2_with fail
  refine hk.mono ?_
  rintro e w1 ⟨rfl, hb1⟩
  replace hb1 := hide hb1
  clear hk
  have hU1 := Upd.of_below (fun _ => False) hb1.out
  have hli := light4_any (a1.out.upd hU1 fun _ _ => id)
  clear hU1
  go_wp2_with fail
  refine hli.mono ?_
  rintro e w' ⟨b, rfl, hlt, rfl⟩
  clear hli
  cases b
  · replace hlt := hide hlt
    go_wp2_with fail
    go_ret
    exact ⟨rfl, hb1.out⟩
  have hlA := hide (hlt rfl)
  clear hlt
  by_cases q1 : 30 < cs.length
  · go_wp2_with fail
    go_ret
    exact ⟨rfl, hb1.out⟩
  by_cases q2 : 30 < ks.length
  · go_wp2_with fail
    go_ret
    exact ⟨rfl, hb1.out⟩
  have z1 := hb1.out.size
  have hn1 := new_dk w1 K (by omega) (by omega)
  go_wp2_with fail
  refine hn1.mono ?_
  rintro e w2 ⟨sb, S2, rfl, hd2, hb12⟩
  have z12 := hb12.size
  have hb2 := hb1.out.trans (hb12.mono z1)
  have z2 := hb2.size
  have ho2 := open_newP hd2 (by omega) z12 (hT0.out.below hz hb2)
  replace hb2 := hide hb2
  replace hd2 := hide hd2
  clear hn1 hb12
  go_wp2_with fail
  refine ho2.mono ?_
  rintro e w3 ⟨lb, v, S3, rfl, hl3, -, -, hlb, hm3⟩
  have hb3 := below_mv hb2.out hm3 z2 fun k hk => Nat.le_trans z1 (hd2.out.ge hk)
  have z3 := hb3.size
  have z13 : w1.heap.size ≤ w3.heap.size := Nat.le_trans z12 hm3.1.size
  obtain ⟨C, hC⟩ : ∃ C, C = capC K := ⟨_, rfl⟩
  have hC1 : 128 * K ≤ C + 512 := by rw [hC]; unfold capC; omega
  replace hC := hide hC
  replace hb3 := hide hb3
  replace hl3 := hide hl3
  clear ho2 hd2 hm3
  go_wp2_with fail
  go_loopw [10, 13, 14] (fun j z i wr => ∃ (k lb : Nat) (S T : Nat → Prop) (rs : List (List UInt8)), k ≤ qs.length ∧ j = .pointer (some ⟨lb, 0, none⟩) ∧ i = .int .i64 k ∧ Below u0.heap.size u0 wr ∧ LgP K wr w1.heap.size sb lb S rs ∧ RecsV wr T z rs ∧ (∀ k, T k → ¬ OL S lb k) ∧ (∀ k, T k → k < wr.heap.size) ∧ w1.heap.size ≤ wr.heap.size ∧ rs.length ≤ 6 * k) (fun _ _ i _ => qs.length - (intOf i).toNat)
  case atStart => exact ⟨0, lb, S3, fun _ => False, [], Nat.zero_le _, rfl, rfl, hb3.out, hl3.out, ⟨[], rfl, ⟨none, 0, rfl, Nat.le_refl _, Nat.zero_le _, .inl rfl⟩, fun i u r hi => by simp at hi⟩, fun _ h => h.elim, fun _ h => h.elim, z13, Nat.zero_le _⟩
  case round =>
    clear hb3 hl3 hlb
    obtain ⟨k, lb, S, T, rs, hk, rfl, rfl, hb, hl, hr, hTS, hTo, hzz, hrs⟩ := hrel
    have zr := hb.size
    have hk30 := hlA.out.1
    obtain ⟨Az, nz, cz, rfl, pz1, pz2, pz3⟩ := hr.form
    unfold maxLen at pz2
    replace pz3 := hide pz3
    replace hb := hide hb
    replace hl := hide hl
    replace hr := hide hr
    replace hTS := hide hTS
    replace hTo := hide hTo
    rcases Nat.lt_or_ge k qs.length with hlt2 | hge
    · have hU := Upd.of_below (fun _ => False) hb.out
      have haw := a1.out.upd hU fun _ _ => id
      obtain ⟨bq, oq, rfl, hbq, hcw, hcl⟩ := haw.at_ hlt2
      have hin := haw.2 _ (List.getElem_mem hlt2)
      have hl6 := hlA.out.2 _ (List.getElem_mem hlt2)
      have hcw1 : ∀ W : World, Below u0.heap.size u0 W → W.cell? ⟨bq, oq + k * 2, none⟩ = some (.int .i64 qs[k].1.1) := fun W hW => by
        obtain ⟨b2, o2, e2, -, h2, -⟩ := (a1.out.upd (Upd.of_below (fun _ => False) hW) fun _ _ => id).at_ hlt2
        injection e2 with e2
        injection e2 with e3 e4
        rw [e3, e4]; exact h2
      unfold ActIn at hin
      obtain ⟨what, hwhat⟩ : ∃ x, x = qs[k].1.1 := ⟨_, rfl⟩
      obtain ⟨lens, hlens⟩ : ∃ x, x = qs[k].1.2 := ⟨_, rfl⟩
      obtain ⟨vl, hvl⟩ : ∃ x, x = qs[k].2 := ⟨_, rfl⟩
      rw [← hlens] at hin hl6
      rw [← hvl] at hin hcl
      rw [← hwhat] at hcw hcw1
      replace hwhat := hide hwhat
      replace hlens := hide hlens
      replace hvl := hide hvl
      have hba := batch_any hin k (by omega) (by omega)
      replace hcw1 := hide hcw1
      clear hU haw hbq
      by_cases w5' : what = 5
      · subst w5'
        go_wp2_with fail
        go_roundw
        case rel => exact ⟨k + 1, lb, S, T, rs, by omega, rfl, by go_num, hb.out, hl.out, hr.out, hTS.out, hTo.out, hzz, by omega⟩
        case measure => simp [intOf]; omega
      go_wp2_with fail
      refine hba.mono ?_
      rintro e w5 ⟨v5, rfl, hv5, hb5⟩
      clear hba hin hcl hcw
      have hU5 := Upd.of_below (fun _ => False) hb5
      have hB5 := hb.out.trans (hb5.mono zr)
      have hl5 := hl.out.upd hU5 fun _ _ => id
      have hr5 := hr.out.upd hU5 fun _ _ => id
      have hbf := batch_frames k lens
      have hbs := batch_short k lens
      have hbl := batchL_len k lens lens.length
      obtain ⟨L, hL⟩ : ∃ L, L = batchL k lens lens.length := ⟨_, rfl⟩
      rw [← hL] at hbf hbs hbl hv5
      obtain ⟨A5, c5, rfl, hc5⟩ := hv5.len
      unfold maxLen at hc5
      have hrv5 := hv5.recsV
      obtain ⟨T5, hT5⟩ : ∃ T5 : Nat → Prop, T5 = fun k => wr.heap.size ≤ k ∧ k < w5.heap.size := ⟨_, rfl⟩
      rw [← hT5] at hrv5
      have hT5S : ∀ k, T5 k → ¬ OL S lb k := fun k hk h => by rw [hT5] at hk; have := hl.out.old h; omega
      have hT5o : ∀ k, T5 k → k < w5.heap.size := fun k hk => by rw [hT5] at hk; exact hk.2
      have z5 := hb5.size
      obtain ⟨f0, hf0⟩ : ∃ f0, f0 = (frames rs).length := ⟨_, rfl⟩
      have hf0C : f0 ≤ C := by rw [hf0, hC.out]; exact hl5.fit
      obtain ⟨f1, hf1⟩ : ∃ f1, f1 = (frames L).length := ⟨_, rfl⟩
      rw [← hf1] at hbf
      obtain ⟨m, hm⟩ : ∃ m, m = L.length := ⟨_, rfl⟩
      rw [← hm] at hrv5 hbl ⊢
      replace hB5 := hide hB5
      replace hl5 := hide hl5
      replace hr5 := hide hr5
      replace hrv5 := hide hrv5
      replace hT5 := hide hT5
      replace hT5S := hide hT5S
      replace hT5o := hide hT5o
      replace hbs := hide hbs
      replace hL := hide hL
      replace hf0 := hide hf0
      replace hf1 := hide hf1
      replace hm := hide hm
      replace hbl := hide hbl
      clear hv5 hb5 hU5 hb hl hr
      by_cases qc : k < cs.length
      · obtain ⟨bx, ox, rfl, hkx, hcx⟩ := (a2.out.upd (Upd.of_below (fun _ => False) hB5.out) fun _ _ => id).get (i := k) (u := .int .u8 (cs[k]'qc).toNat) (bv_get qc)
        obtain ⟨p, hp⟩ : ∃ p, p = (cs[k]'qc).toNat := ⟨_, rfl⟩
        have hp2 : p < 256 := by rw [hp]; exact UInt8.toNat_lt _
        rw [← hp] at hcx
        obtain ⟨pm, hpm⟩ : ∃ m, m = p % 12 := ⟨_, rfl⟩
        have hpm2 : (p : Int) % 12 = (pm : Nat) := by omega
        have hpm3 : pm < 12 := by omega
        replace hp := hide hp
        replace hpm := hide hpm
        have hbxS : ¬ S bx := fun h => by have := hl5.out.ge (.inl h); omega
        have htm : (p : Int).tmod 12 = (pm : Nat) := by rw [Int.tmod_eq_emod_of_nonneg (by omega)]; exact hpm2
        have hwp : IntKind.i64.wrap (pm : Int) = (pm : Int) := by rw [IntKind.wrap_i64]; omega
        replace hbxS := hide hbxS
        replace htm := hide htm
        replace hwp := hide hwp
        go_wp2_with fail
        refine wp_region_flow (S) (factAt [(fun v _ => v = (.pointer (some ⟨sb, 0, none⟩))), (fun v _ => v = (.pointer (some ⟨sb, 0, none⟩))), (fun v _ => v = (.pointer (some ⟨sb, 3, none⟩))), (fun v _ => v = (.slice (some ⟨bx, ox, none⟩) cs.length c2)), (fun v _ => v = (.int .i64 (k : Nat))), (fun v _ => v = (.pointer (some ⟨bx, ox + k, none⟩))), (fun v _ => v = (.int .u8 (p : Nat))), (fun v _ => v = (.int .u8 (pm : Nat))), (fun v _ => v = (.int .i64 (pm : Nat))), (fun v _ => v = (.tuple #[]))]) [none, none, none, none, none, none, none, none, none, some (fun _ w => LgP K w w1.heap.size sb lb S rs)] (fun w => LgP K w w1.heap.size sb lb S rs) (by kernel_rfl) (fkept_at ⟨FKept.eq _, FKept.eq _, FKept.eq _, FKept.eq _, FKept.eq _, FKept.eq _, FKept.eq _, FKept.eq _, FKept.eq _, FKept.eq _, trivial⟩) (fun w w' h hb => h.upd (.of_below (fun _ => False) hb) fun _ _ => id) ⟨fun v w w' h hb => h.upd (.of_below (fun _ => False) hb) fun _ _ => id, trivial⟩ (by kernel_rfl) (by kernel_rfl) (by kernel_rfl) (by kernel_rfl) (Nat.le_of_ble_eq_true (by kernel_rfl)) ?_ ⟨?_, ?_, ?_, ?_, ?_, ?_, ?_, ?_, ?_, ?_, trivial⟩ ?_
        · exact hl5.out
        · intro T w Q hu hs hv hw hd
          have hx9 : T.getD 9 undef = (.pointer (some ⟨sb, 0, none⟩)) := hv 9 (by kernel_rfl)
          refine .inl ⟨wanted_none rfl, ?_⟩
          clear hd hv hu hs hw
          go_simp
          exact ⟨_, rfl, DstOk.some rfl, Below.refl _ _, rfl⟩
        · intro T w Q hu hs hv hw hd
          have hx76 : T.getD 76 undef = (.pointer (some ⟨sb, 0, none⟩)) := Deps.at 0 hd (by kernel_rfl)
          refine .inl ⟨wanted_none rfl, ?_⟩
          clear hd hv hu hs hw
          go_simp
          exact ⟨_, rfl, DstOk.some rfl, Below.refl _ _, rfl⟩
        · intro T w Q hu hs hv hw hd
          have hx77 : T.getD 77 undef = (.pointer (some ⟨sb, 0, none⟩)) := Deps.at 1 hd (by kernel_rfl)
          refine .inl ⟨wanted_none rfl, ?_⟩
          clear hd hv hu hs hw
          go_simp
          exact ⟨_, rfl, DstOk.some rfl, Below.refl _ _, rfl⟩
        · intro T w Q hu hs hv hw hd
          have hx2 : T.getD 2 undef = (.slice (some ⟨bx, ox, none⟩) cs.length c2) := hv 2 (by kernel_rfl)
          refine .inl ⟨wanted_none rfl, ?_⟩
          clear hd hv hu hs hw
          go_simp
          exact ⟨_, rfl, DstOk.some rfl, Below.refl _ _, rfl⟩
        · intro T w Q hu hs hv hw hd
          have hx14 : T.getD 14 undef = (.int .i64 (k : Nat)) := hv 14 (by kernel_rfl)
          refine .inl ⟨wanted_none rfl, ?_⟩
          clear hd hv hu hs hw
          go_simp
          exact ⟨_, rfl, DstOk.some rfl, Below.refl _ _, rfl⟩
        · intro T w Q hu hs hv hw hd
          have hx79 : T.getD 79 undef = (.slice (some ⟨bx, ox, none⟩) cs.length c2) := Deps.at 3 hd (by kernel_rfl)
          have hx80 : T.getD 80 undef = (.int .i64 (k : Nat)) := Deps.at 4 hd (by kernel_rfl)
          refine .inl ⟨wanted_none rfl, ?_⟩
          clear hd hv hu hs hw
          go_simp
          exact ⟨_, rfl, DstOk.some rfl, Below.refl _ _, rfl⟩
        · intro T w Q hu hs hv hw hd
          have hx81 : T.getD 81 undef = (.pointer (some ⟨bx, ox + k, none⟩)) := Deps.at 5 hd (by kernel_rfl)
          refine .inl ⟨wanted_none rfl, ?_⟩
          have hq0 := hu.cell hcx hbxS.out
          clear hd hv hu hs hw
          go_simp
          exact ⟨_, rfl, DstOk.some rfl, Below.refl _ _, rfl⟩
        · intro T w Q hu hs hv hw hd
          have hx82 : T.getD 82 undef = (.int .u8 (p : Nat)) := Deps.at 6 hd (by kernel_rfl)
          refine .inl ⟨wanted_none rfl, ?_⟩
          clear hd hv hu hs hw
          go_simp
          exact ⟨_, rfl, DstOk.some rfl, Below.refl _ _, by simp only [htm.out]; exact rfl⟩
        · intro T w Q hu hs hv hw hd
          have hx83 : T.getD 83 undef = (.int .u8 (pm : Nat)) := Deps.at 7 hd (by kernel_rfl)
          refine .inl ⟨wanted_none rfl, ?_⟩
          clear hd hv hu hs hw
          go_simp
          exact ⟨_, rfl, DstOk.some rfl, Below.refl _ _, by simp only [hwp.out]; exact rfl⟩
        · intro T w Q hu hs hv hw hd hc0
          have hc : (fun w => LgP K w w1.heap.size sb lb S rs) w := hc0
          have hx78 : T.getD 78 undef = (.pointer (some ⟨sb, 3, none⟩)) := Deps.at 2 hd (by kernel_rfl)
          have hx84 : T.getD 84 undef = (.int .i64 (pm : Nat)) := Deps.at 8 hd (by kernel_rfl)
          replace hc := hide hc
          refine .inl ⟨wanted_none rfl, ?_⟩
          have hN := cut_lgP hc.out pm (by omega)
          clear hd hv hu hs hw hc hc0
          go_simp
          refine hN.mono ?_
          rintro e w5 ⟨rfl, h5, hU⟩
          exact ⟨_, rfl, DstOk.some rfl, hU, rfl, h5⟩
        intro T w hu hs hv hf hcur
        have hcur1 : (fun (w : World) => LgP K w w1.heap.size sb lb S rs) w := hcur
        replace hcur1 := hcur1
        have hT : T = #[T.getD 0 undef, T.getD 1 undef, T.getD 2 undef, T.getD 3 undef, T.getD 4 undef, T.getD 5 undef, T.getD 6 undef, T.getD 7 undef, T.getD 8 undef, T.getD 9 undef, T.getD 10 undef, T.getD 11 undef, T.getD 12 undef, T.getD 13 undef, T.getD 14 undef, T.getD 15 undef, T.getD 16 undef, T.getD 17 undef, T.getD 18 undef, T.getD 19 undef, T.getD 20 undef, T.getD 21 undef, T.getD 22 undef, T.getD 23 undef, T.getD 24 undef, T.getD 25 undef, T.getD 26 undef, T.getD 27 undef, T.getD 28 undef, T.getD 29 undef, T.getD 30 undef, T.getD 31 undef, T.getD 32 undef, T.getD 33 undef, T.getD 34 undef, T.getD 35 undef, T.getD 36 undef, T.getD 37 undef, T.getD 38 undef, T.getD 39 undef, T.getD 40 undef, T.getD 41 undef, T.getD 42 undef, T.getD 43 undef, T.getD 44 undef, T.getD 45 undef, T.getD 46 undef, T.getD 47 undef, T.getD 48 undef, T.getD 49 undef, T.getD 50 undef, T.getD 51 undef, T.getD 52 undef, T.getD 53 undef, T.getD 54 undef, T.getD 55 undef, T.getD 56 undef, T.getD 57 undef, T.getD 58 undef, T.getD 59 undef, T.getD 60 undef, T.getD 61 undef, T.getD 62 undef, T.getD 63 undef, T.getD 64 undef, T.getD 65 undef, T.getD 66 undef, T.getD 67 undef, T.getD 68 undef, T.getD 69 undef, T.getD 70 undef, T.getD 71 undef, T.getD 72 undef, T.getD 73 undef, T.getD 74 undef, T.getD 75 undef, T.getD 76 undef, T.getD 77 undef, T.getD 78 undef, T.getD 79 undef, T.getD 80 undef, T.getD 81 undef, T.getD 82 undef, T.getD 83 undef, T.getD 84 undef, T.getD 85 undef, T.getD 86 undef, T.getD 87 undef, T.getD 88 undef, T.getD 89 undef, T.getD 90 undef, T.getD 91 undef, T.getD 92 undef, T.getD 93 undef, T.getD 94 undef, T.getD 95 undef, T.getD 96 undef, T.getD 97 undef, T.getD 98 undef, T.getD 99 undef, T.getD 100 undef, T.getD 101 undef, T.getD 102 undef, T.getD 103 undef, T.getD 104 undef, T.getD 105 undef, T.getD 106 undef, T.getD 107 undef, T.getD 108 undef, T.getD 109 undef, T.getD 110 undef, T.getD 111 undef, T.getD 112 undef, T.getD 113 undef, T.getD 114 undef, T.getD 115 undef, T.getD 116 undef, T.getD 117 undef, T.getD 118 undef, T.getD 119 undef, T.getD 120 undef, T.getD 121 undef, T.getD 122 undef, T.getD 123 undef, T.getD 124 undef, T.getD 125 undef, T.getD 126 undef, T.getD 127 undef, T.getD 128 undef, T.getD 129 undef, T.getD 130 undef, T.getD 131 undef, T.getD 132 undef, T.getD 133 undef, T.getD 134 undef, T.getD 135 undef, T.getD 136 undef, T.getD 137 undef, T.getD 138 undef, T.getD 139 undef, T.getD 140 undef, T.getD 141 undef, T.getD 142 undef, T.getD 143 undef, T.getD 144 undef, T.getD 145 undef, T.getD 146 undef, T.getD 147 undef, T.getD 148 undef, T.getD 149 undef, T.getD 150 undef, T.getD 151 undef, T.getD 152 undef, T.getD 153 undef, T.getD 154 undef, T.getD 155 undef, T.getD 156 undef, T.getD 157 undef, T.getD 158 undef, T.getD 159 undef, T.getD 160 undef, T.getD 161 undef, T.getD 162 undef, T.getD 163 undef, T.getD 164 undef, T.getD 165 undef, T.getD 166 undef, T.getD 167 undef] := expl hs
        rw [hT]
        clear hT
        rw [show T.getD 0 undef = (.int .u8 n) from hv 0 (by kernel_rfl)]
        rw [show T.getD 1 undef = (.slice (some ⟨bq, oq, none⟩) qs.length c1) from hv 1 (by kernel_rfl)]
        rw [show T.getD 2 undef = (.slice (some ⟨bx, ox, none⟩) cs.length c2) from hv 2 (by kernel_rfl)]
        rw [show T.getD 3 undef = (.slice A3 ks.length c3) from hv 3 (by kernel_rfl)]
        rw [hv 4 (by kernel_rfl)]
        rw [hv 5 (by kernel_rfl)]
        rw [hv 6 (by kernel_rfl)]
        rw [hv 7 (by kernel_rfl)]
        rw [hv 8 (by kernel_rfl)]
        rw [show T.getD 9 undef = (.pointer (some ⟨sb, 0, none⟩)) from hv 9 (by kernel_rfl)]
        rw [show T.getD 10 undef = (.pointer (some ⟨lb, 0, none⟩)) from hv 10 (by kernel_rfl)]
        rw [hv 11 (by kernel_rfl)]
        rw [hv 12 (by kernel_rfl)]
        rw [show T.getD 13 undef = (.slice Az nz cz) from hv 13 (by kernel_rfl)]
        rw [show T.getD 14 undef = (.int .i64 (k : Nat)) from hv 14 (by kernel_rfl)]
        rw [show T.getD 15 undef = (.slice A5 m c5) from hv 15 (by kernel_rfl)]
        rw [hv 16 (by kernel_rfl)]
        rw [hv 17 (by kernel_rfl)]
        rw [hv 18 (by kernel_rfl)]
        rw [hv 19 (by kernel_rfl)]
        rw [hv 20 (by kernel_rfl)]
        rw [hv 21 (by kernel_rfl)]
        rw [hv 22 (by kernel_rfl)]
        rw [hv 23 (by kernel_rfl)]
        rw [hv 24 (by kernel_rfl)]
        rw [hv 25 (by kernel_rfl)]
        rw [hv 26 (by kernel_rfl)]
        rw [hv 27 (by kernel_rfl)]
        rw [hv 28 (by kernel_rfl)]
        rw [hv 29 (by kernel_rfl)]
        rw [hv 30 (by kernel_rfl)]
        rw [hv 31 (by kernel_rfl)]
        rw [hv 32 (by kernel_rfl)]
        rw [hv 33 (by kernel_rfl)]
        rw [hv 34 (by kernel_rfl)]
        rw [hv 35 (by kernel_rfl)]
        rw [hv 36 (by kernel_rfl)]
        rw [hv 37 (by kernel_rfl)]
        rw [hv 38 (by kernel_rfl)]
        rw [hv 39 (by kernel_rfl)]
        rw [hv 40 (by kernel_rfl)]
        rw [hv 41 (by kernel_rfl)]
        rw [hv 42 (by kernel_rfl)]
        rw [hv 43 (by kernel_rfl)]
        rw [hv 44 (by kernel_rfl)]
        rw [hv 45 (by kernel_rfl)]
        rw [hv 46 (by kernel_rfl)]
        rw [hv 47 (by kernel_rfl)]
        rw [hv 48 (by kernel_rfl)]
        rw [hv 49 (by kernel_rfl)]
        rw [hv 50 (by kernel_rfl)]
        rw [hv 51 (by kernel_rfl)]
        rw [hv 52 (by kernel_rfl)]
        rw [hv 53 (by kernel_rfl)]
        rw [hv 54 (by kernel_rfl)]
        rw [hv 55 (by kernel_rfl)]
        rw [hv 56 (by kernel_rfl)]
        rw [hv 57 (by kernel_rfl)]
        rw [hv 58 (by kernel_rfl)]
        rw [hv 59 (by kernel_rfl)]
        rw [hv 60 (by kernel_rfl)]
        rw [hv 61 (by kernel_rfl)]
        rw [hv 62 (by kernel_rfl)]
        rw [hv 63 (by kernel_rfl)]
        rw [hv 64 (by kernel_rfl)]
        rw [hv 65 (by kernel_rfl)]
        rw [hv 66 (by kernel_rfl)]
        rw [hv 67 (by kernel_rfl)]
        rw [hv 68 (by kernel_rfl)]
        rw [hv 69 (by kernel_rfl)]
        rw [hv 70 (by kernel_rfl)]
        rw [hv 71 (by kernel_rfl)]
        rw [hv 72 (by kernel_rfl)]
        rw [hv 73 (by kernel_rfl)]
        rw [hv 74 (by kernel_rfl)]
        rw [hv 75 (by kernel_rfl)]
        rw [show T.getD 76 undef = (.pointer (some ⟨sb, 0, none⟩)) from hf 0 (by decide)]
        rw [show T.getD 77 undef = (.pointer (some ⟨sb, 0, none⟩)) from hf 1 (by decide)]
        rw [show T.getD 78 undef = (.pointer (some ⟨sb, 3, none⟩)) from hf 2 (by decide)]
        rw [show T.getD 79 undef = (.slice (some ⟨bx, ox, none⟩) cs.length c2) from hf 3 (by decide)]
        rw [show T.getD 80 undef = (.int .i64 (k : Nat)) from hf 4 (by decide)]
        rw [show T.getD 81 undef = (.pointer (some ⟨bx, ox + k, none⟩)) from hf 5 (by decide)]
        rw [show T.getD 82 undef = (.int .u8 (p : Nat)) from hf 6 (by decide)]
        rw [show T.getD 83 undef = (.int .u8 (pm : Nat)) from hf 7 (by decide)]
        rw [show T.getD 84 undef = (.int .i64 (pm : Nat)) from hf 8 (by decide)]
        rw [show T.getD 85 undef = (.tuple #[]) from hf 9 (by decide)]
        rw [hv 86 (by kernel_rfl)]
        rw [hv 87 (by kernel_rfl)]
        rw [hv 88 (by kernel_rfl)]
        rw [hv 89 (by kernel_rfl)]
        rw [hv 90 (by kernel_rfl)]
        rw [hv 91 (by kernel_rfl)]
        rw [hv 92 (by kernel_rfl)]
        rw [hv 93 (by kernel_rfl)]
        rw [hv 94 (by kernel_rfl)]
        rw [hv 95 (by kernel_rfl)]
        rw [hv 96 (by kernel_rfl)]
        rw [hv 97 (by kernel_rfl)]
        rw [hv 98 (by kernel_rfl)]
        rw [hv 99 (by kernel_rfl)]
        rw [hv 100 (by kernel_rfl)]
        rw [hv 101 (by kernel_rfl)]
        rw [hv 102 (by kernel_rfl)]
        rw [hv 103 (by kernel_rfl)]
        rw [hv 104 (by kernel_rfl)]
        rw [hv 105 (by kernel_rfl)]
        rw [hv 106 (by kernel_rfl)]
        rw [hv 107 (by kernel_rfl)]
        rw [hv 108 (by kernel_rfl)]
        rw [hv 109 (by kernel_rfl)]
        rw [hv 110 (by kernel_rfl)]
        rw [hv 111 (by kernel_rfl)]
        rw [hv 112 (by kernel_rfl)]
        rw [hv 113 (by kernel_rfl)]
        rw [hv 114 (by kernel_rfl)]
        rw [hv 115 (by kernel_rfl)]
        rw [hv 116 (by kernel_rfl)]
        rw [hv 117 (by kernel_rfl)]
        rw [hv 118 (by kernel_rfl)]
        rw [hv 119 (by kernel_rfl)]
        rw [hv 120 (by kernel_rfl)]
        rw [hv 121 (by kernel_rfl)]
        rw [hv 122 (by kernel_rfl)]
        rw [hv 123 (by kernel_rfl)]
        rw [hv 124 (by kernel_rfl)]
        rw [hv 125 (by kernel_rfl)]
        rw [hv 126 (by kernel_rfl)]
        rw [hv 127 (by kernel_rfl)]
        rw [hv 128 (by kernel_rfl)]
        rw [hv 129 (by kernel_rfl)]
        rw [hv 130 (by kernel_rfl)]
        rw [hv 131 (by kernel_rfl)]
        rw [hv 132 (by kernel_rfl)]
        rw [hv 133 (by kernel_rfl)]
        rw [hv 134 (by kernel_rfl)]
        rw [hv 135 (by kernel_rfl)]
        rw [hv 136 (by kernel_rfl)]
        rw [hv 137 (by kernel_rfl)]
        rw [hv 138 (by kernel_rfl)]
        rw [hv 139 (by kernel_rfl)]
        rw [hv 140 (by kernel_rfl)]
        rw [hv 141 (by kernel_rfl)]
        rw [hv 142 (by kernel_rfl)]
        rw [hv 143 (by kernel_rfl)]
        rw [hv 144 (by kernel_rfl)]
        rw [hv 145 (by kernel_rfl)]
        rw [hv 146 (by kernel_rfl)]
        rw [hv 147 (by kernel_rfl)]
        rw [hv 148 (by kernel_rfl)]
        rw [hv 149 (by kernel_rfl)]
        rw [hv 150 (by kernel_rfl)]
        rw [hv 151 (by kernel_rfl)]
        rw [hv 152 (by kernel_rfl)]
        rw [hv 153 (by kernel_rfl)]
        rw [hv 154 (by kernel_rfl)]
        rw [hv 155 (by kernel_rfl)]
        rw [hv 156 (by kernel_rfl)]
        rw [hv 157 (by kernel_rfl)]
        rw [hv 158 (by kernel_rfl)]
        rw [hv 159 (by kernel_rfl)]
        rw [hv 160 (by kernel_rfl)]
        rw [hv 161 (by kernel_rfl)]
        rw [hv 162 (by kernel_rfl)]
        rw [hv 163 (by kernel_rfl)]
        rw [hv 164 (by kernel_rfl)]
        rw [hv 165 (by kernel_rfl)]
        rw [hv 166 (by kernel_rfl)]
        rw [hv 167 (by kernel_rfl)]
        clear hf hs hv hcur
        simp only [getD_toArray, List.getD_cons_succ, List.getD_cons_zero]
        clear T
        obtain ⟨w6, rfl⟩ : ∃ x, x = w := ⟨w, rfl⟩
        have hl6 : LgP K w6 w1.heap.size sb lb S rs := hcur1
        have hU6 : Upd S w5 w6 := hu
        clear hcur1 hu
        have z6 := hU6.size
        have hB6 := hB5.out.trans (hU6.below hB5.out.size fun k hk => by have := hl5.out.ge (.inl hk); omega)
        have hr6 := hr5.out.upd hU6 fun k hk h => hTS.out k hk (.inl h)
        have hrv6 := hrv5.out.upd hU6 fun k hk h => hT5S.out k hk (.inl h)
        clear hU6 hl5 hr5 hrv5 hB5
        obtain ⟨v8, w8, v9, w9, r8, r9, hU9, hc9⟩ := cat_recs hr6 hrv6 (by have := hm.out; have := hbl.out; omega) 28 28
        have z9 := hU9.size
        have hl9 := hl6.upd hU9 fun _ _ => id
        have hB9 := hB6.trans (hU9.below hB6.size fun _ h => h.elim)
        obtain ⟨T9, hT9⟩ : ∃ T9 : Nat → Prop, T9 = fun k => ((T k ∨ T5 k) ∨ w6.heap.size ≤ k) ∧ k < w9.heap.size := ⟨_, rfl⟩
        rw [← hT9] at hc9
        have ha9 : RecsV w9 T9 (.slice Az nz cz) rs := (hr6.low.upd hU9 fun _ _ => id).wide fun k hk => by rw [hT9]; exact ⟨.inl (.inl hk.1), by have := hk.2; omega⟩
        have hb9 : RecsV w9 T9 (.slice A5 m c5) L := (hrv6.low.upd hU9 fun _ _ => id).wide fun k hk => by rw [hT9]; exact ⟨.inl (.inr hk.1), by have := hk.2; omega⟩
        have hS9 : ∀ k, T9 k → ¬ OL S lb k := fun k hk h => by
          rw [hT9] at hk
          rcases hk.1 with (h1 | h1) | h1
          · exact hTS.out k h1 h
          · exact hT5S.out k h1 h
          · have := hl6.old h; omega
        have hTo9 : ∀ k, T9 k → k < w9.heap.size := fun k hk => by rw [hT9] at hk; exact hk.2
        obtain ⟨A9, n9, c9, rfl, q9a, q9b, q9c⟩ := hc9.form
        have hn9 := hc9
        unfold maxLen at q9b
        replace q9c := hide q9c
        replace hT9 := hide hT9
        replace hB9 := hide hB9
        replace hl9 := hide hl9
        replace ha9 := hide ha9
        replace hb9 := hide hb9
        replace hn9 := hide hn9
        replace hS9 := hide hS9
        replace hTo9 := hide hTo9
        replace r8 := hide r8
        replace r9 := hide r9
        clear hU9 hc9 hB6 hl6 hr6 hrv6
        have hcw := hcw1.out w9 hB9.out
        by_cases w4' : what = 4
        · subst w4'
          go_wp2_with (at_builtin; first | refine wp_append_run rfl (.const (.slice none 0 0)) (.tmp 86) 28 28 rfl _ _ _ rfl rfl r8.out ?_ | refine wp_append_run rfl (.tmp 87) (.tmp 88) 28 28 rfl _ _ _ rfl rfl r9.out ?_)
          have hcm := reset_p hl9.out (by omega) (by omega) (hT0.out.below hz hB9.out) hb9.out hS9.out (by have := hm.out; have := hbl.out; omega) hbs.out (by rw [← hf1.out, ← hC.out]; omega)
          refine hcm.mono ?_
          rintro e w10 ⟨S10, hm10, hR⟩
          clear hcm
          have z10 := hm10.1.size
          have hB10 := below_mv hB9.out hm10 hB9.out.size fun k hk => by have := hl9.out.ge hk; omega
          have ha10 := ha9.out.upd hm10.1 hS9.out
          have hb10 := hb9.out.upd hm10.1 hS9.out
          have hn10 := hn9.out.upd hm10.1 hS9.out
          have hS10 : ∀ k, T9 k → ¬ OL S10 lb k := fun k hk h => (hm10.2 k h).elim (hS9.out k hk) fun h => by have := hTo9.out k hk; omega
          replace hB10 := hide hB10
          replace ha10 := hide ha10
          replace hb10 := hide hb10
          replace hn10 := hide hn10
          replace hS10 := hide hS10
          rcases hR with ⟨rfl, hl10⟩ | ⟨rfl, ht⟩
          · have hTo10 : ∀ k, T9 k → k < w10.heap.size := fun k hk => by have := hTo9.out k hk; omega
            replace hl10 := hide hl10
            replace hTo10 := hide hTo10
            clear hm10
            go_wp2_with fail
            go_roundw
            case rel => exact ⟨k + 1, lb, S10, T9, L, by omega, rfl, by go_num, hB10.out, hl10.out, hb10.out, hS10.out, hTo10.out, by omega, by have := hm.out; have := hbl.out; omega⟩
            case measure => simp [intOf]; omega
          · have z11 := hm10.1.size
            have hdd := dead_tnP ht
            replace ht := hide ht
            go_wp2_with fail
            refine hdd.mono ?_
            rintro e w' ⟨rfl, rfl⟩
            clear hdd
            by_cases qk : k < ks.length
            · obtain ⟨bk, ok, rfl, hkb, hcell⟩ := (a3.out.upd (Upd.of_below (fun _ => False) hB10.out) fun _ _ => id).get (i := k) (u := .int .u64 (ks[k] : Nat)) (by simp [qk])
              have hkl := hks.out _ (List.getElem_mem qk)
              obtain ⟨kk, hkk⟩ : ∃ kk, kk = ks[k] := ⟨_, rfl⟩
              rw [← hkk] at hcell hkl
              replace hkk := hide hkk
              have hcr := crash_tnP ht.out (by omega) kk 0 (by omega)
              go_wp2_with fail
              refine hcr.mono ?_
              rintro e w11 ⟨rfl, S11, r, hor, hd11, hm11⟩
              clear hcr
              have z12' := hm11.1.size
              have hB11 := below_mv hB10.out hm11 hB10.out.size fun k hk => by have := ht.out.ge hk; omega
              have ha11 := ha10.out.upd hm11.1 fun k hk h => hS10.out k hk (.inl h)
              have hn11 := hb10.out.upd hm11.1 fun k hk h => hS10.out k hk (.inl h)
              have hS11 : ∀ k, T9 k → ¬ S11 k := fun k hk h => (hm11.2 k h).elim (fun h => hS10.out k hk (.inl h)) fun h => by have := hTo9.out k hk; omega
              have ho := open_onP hd11 (by omega) (by omega) (hT0.out.below hz hB11)
              replace hB11 := hide hB11
              replace ha11 := hide ha11
              replace hn11 := hide hn11
              replace hS11 := hide hS11
              replace hd11 := hide hd11
              clear hm11
              go_wp2_with fail
              refine ho.mono ?_
              rintro e w12 ⟨lc, v12, S12, rfl, hl12, hx12, -, hlc, hm12⟩
              clear ho
              have z13' := hm12.1.size
              have hB12 := below_mv hB11.out hm12 hB11.out.size fun k hk => by have := hd11.out.ge hk; omega
              have ha12 := ha11.out.upd hm12.1 hS11.out
              have hn12 := hn11.out.upd hm12.1 hS11.out
              have hS12 : ∀ k, T9 k → ¬ OL S12 lc k := fun k hk h => by
                have := hTo9.out k hk
                rcases h with h | h
                · rcases hm12.2 k h with h | h
                  · exact hS11.out k hk h
                  · omega
                · omega
              have hx := hx12.recsW
              have hsm := same_any hx ha12.recsW
              obtain ⟨A12, c12, rfl, -⟩ := hx12.slice
              replace hB12 := hide hB12
              replace ha12 := hide ha12
              replace hn12 := hide hn12
              replace hS12 := hide hS12
              replace hx := hide hx
              replace hl12 := hide hl12
              clear hm12 hx12
              by_cases hre : r = rs
              · rw [decide_eq_true hre] at hsm
                replace hre := hide hre
                replace hor := hide hor
                go_wp2_with fail
                refine hsm.mono ?_
                rintro e w13 ⟨rfl, hb13⟩
                clear hsm
                have hU13 := Upd.of_below (fun _ => False) hb13
                have z14 := hb13.size
                have hB13 := hB12.out.trans (hb13.mono hB12.out.size)
                have hl13 := hl12.out.upd hU13 fun _ _ => id
                have ha13 := ha12.out.upd hU13 fun _ _ => id
                have hTo13 : ∀ k, T9 k → k < w13.heap.size := fun k hk => by have := hTo9.out k hk; omega
                replace hB13 := hide hB13
                replace hl13 := hide hl13
                replace ha13 := hide ha13
                replace hTo13 := hide hTo13
                clear hU13 hb13
                go_wp2_with fail
                go_roundw
                case rel => exact ⟨k + 1, lc, S12, T9, rs, by omega, rfl, by go_num, hB13.out, by rw [← hre.out]; exact hl13.out, ha13.out, hS12.out, hTo13.out, by omega, by omega⟩
                case measure => simp [intOf]; omega
              · rw [decide_eq_false hre] at hsm
                have hrn := hor.resolve_left hre
                replace hre := hide hre
                replace hor := hide hor
                replace hrn := hide hrn
                go_wp2_with fail
                refine hsm.mono ?_
                rintro e w13 ⟨rfl, hb13⟩
                clear hsm
                have hU13 := Upd.of_below (fun _ => False) hb13
                have z14 := hb13.size
                have hB13 := hB12.out.trans (hb13.mono hB12.out.size)
                have hl13 := hl12.out.upd hU13 fun _ _ => id
                have hn13 := hn12.out.upd hU13 fun _ _ => id
                have hsm := same_any (hx.out.upd hU13 fun _ _ => id) hn13.recsW
                rw [decide_eq_true hrn.out] at hsm
                replace hB13 := hide hB13
                replace hl13 := hide hl13
                replace hn13 := hide hn13
                clear hU13 hb13
                go_wp2_with fail
                refine hsm.mono ?_
                rintro e w14 ⟨rfl, hb14⟩
                clear hsm
                have hU14 := Upd.of_below (fun _ => False) hb14
                have z15 := hb14.size
                have hB14 := hB13.out.trans (hb14.mono hB13.out.size)
                have hl14 := hl13.out.upd hU14 fun _ _ => id
                have hn14 := hn13.out.upd hU14 fun _ _ => id
                have hTo14 : ∀ k, T9 k → k < w14.heap.size := fun k hk => by have := hTo9.out k hk; omega
                replace hB14 := hide hB14
                replace hl14 := hide hl14
                replace hn14 := hide hn14
                replace hTo14 := hide hTo14
                clear hU14 hb14
                go_wp2_with fail
                go_roundw
                case rel => exact ⟨k + 1, lc, S12, T9, L, by omega, rfl, by go_num, hB14.out, by rw [← hrn.out]; exact hl14.out, hn14.out, hS12.out, hTo14.out, by omega, by have := hm.out; have := hbl.out; omega⟩
                case measure => simp [intOf]; omega
            · have hcr := crash_tnP ht.out (by omega) 0 0 (by omega)
              go_wp2_with fail
              refine hcr.mono ?_
              rintro e w11 ⟨rfl, S11, r, hor, hd11, hm11⟩
              clear hcr
              have z12' := hm11.1.size
              have hB11 := below_mv hB10.out hm11 hB10.out.size fun k hk => by have := ht.out.ge hk; omega
              have ha11 := ha10.out.upd hm11.1 fun k hk h => hS10.out k hk (.inl h)
              have hn11 := hb10.out.upd hm11.1 fun k hk h => hS10.out k hk (.inl h)
              have hS11 : ∀ k, T9 k → ¬ S11 k := fun k hk h => (hm11.2 k h).elim (fun h => hS10.out k hk (.inl h)) fun h => by have := hTo9.out k hk; omega
              have ho := open_onP hd11 (by omega) (by omega) (hT0.out.below hz hB11)
              replace hB11 := hide hB11
              replace ha11 := hide ha11
              replace hn11 := hide hn11
              replace hS11 := hide hS11
              replace hd11 := hide hd11
              clear hm11
              go_wp2_with fail
              refine ho.mono ?_
              rintro e w12 ⟨lc, v12, S12, rfl, hl12, hx12, -, hlc, hm12⟩
              clear ho
              have z13' := hm12.1.size
              have hB12 := below_mv hB11.out hm12 hB11.out.size fun k hk => by have := hd11.out.ge hk; omega
              have ha12 := ha11.out.upd hm12.1 hS11.out
              have hn12 := hn11.out.upd hm12.1 hS11.out
              have hS12 : ∀ k, T9 k → ¬ OL S12 lc k := fun k hk h => by
                have := hTo9.out k hk
                rcases h with h | h
                · rcases hm12.2 k h with h | h
                  · exact hS11.out k hk h
                  · omega
                · omega
              have hx := hx12.recsW
              have hsm := same_any hx ha12.recsW
              obtain ⟨A12, c12, rfl, -⟩ := hx12.slice
              replace hB12 := hide hB12
              replace ha12 := hide ha12
              replace hn12 := hide hn12
              replace hS12 := hide hS12
              replace hx := hide hx
              replace hl12 := hide hl12
              clear hm12 hx12
              by_cases hre : r = rs
              · rw [decide_eq_true hre] at hsm
                replace hre := hide hre
                replace hor := hide hor
                go_wp2_with fail
                refine hsm.mono ?_
                rintro e w13 ⟨rfl, hb13⟩
                clear hsm
                have hU13 := Upd.of_below (fun _ => False) hb13
                have z14 := hb13.size
                have hB13 := hB12.out.trans (hb13.mono hB12.out.size)
                have hl13 := hl12.out.upd hU13 fun _ _ => id
                have ha13 := ha12.out.upd hU13 fun _ _ => id
                have hTo13 : ∀ k, T9 k → k < w13.heap.size := fun k hk => by have := hTo9.out k hk; omega
                replace hB13 := hide hB13
                replace hl13 := hide hl13
                replace ha13 := hide ha13
                replace hTo13 := hide hTo13
                clear hU13 hb13
                go_wp2_with fail
                go_roundw
                case rel => exact ⟨k + 1, lc, S12, T9, rs, by omega, rfl, by go_num, hB13.out, by rw [← hre.out]; exact hl13.out, ha13.out, hS12.out, hTo13.out, by omega, by omega⟩
                case measure => simp [intOf]; omega
              · rw [decide_eq_false hre] at hsm
                have hrn := hor.resolve_left hre
                replace hre := hide hre
                replace hor := hide hor
                replace hrn := hide hrn
                go_wp2_with fail
                refine hsm.mono ?_
                rintro e w13 ⟨rfl, hb13⟩
                clear hsm
                have hU13 := Upd.of_below (fun _ => False) hb13
                have z14 := hb13.size
                have hB13 := hB12.out.trans (hb13.mono hB12.out.size)
                have hl13 := hl12.out.upd hU13 fun _ _ => id
                have hn13 := hn12.out.upd hU13 fun _ _ => id
                have hsm := same_any (hx.out.upd hU13 fun _ _ => id) hn13.recsW
                rw [decide_eq_true hrn.out] at hsm
                replace hB13 := hide hB13
                replace hl13 := hide hl13
                replace hn13 := hide hn13
                clear hU13 hb13
                go_wp2_with fail
                refine hsm.mono ?_
                rintro e w14 ⟨rfl, hb14⟩
                clear hsm
                have hU14 := Upd.of_below (fun _ => False) hb14
                have z15 := hb14.size
                have hB14 := hB13.out.trans (hb14.mono hB13.out.size)
                have hl14 := hl13.out.upd hU14 fun _ _ => id
                have hn14 := hn13.out.upd hU14 fun _ _ => id
                have hTo14 : ∀ k, T9 k → k < w14.heap.size := fun k hk => by have := hTo9.out k hk; omega
                replace hB14 := hide hB14
                replace hl14 := hide hl14
                replace hn14 := hide hn14
                replace hTo14 := hide hTo14
                clear hU14 hb14
                go_wp2_with fail
                go_roundw
                case rel => exact ⟨k + 1, lc, S12, T9, L, by omega, rfl, by go_num, hB14.out, by rw [← hrn.out]; exact hl14.out, hn14.out, hS12.out, hTo14.out, by omega, by have := hm.out; have := hbl.out; omega⟩
                case measure => simp [intOf]; omega
        · go_wp2_with (at_builtin; first | refine wp_append_run rfl (.const (.slice none 0 0)) (.tmp 86) 28 28 rfl _ _ _ rfl rfl r8.out ?_ | refine wp_append_run rfl (.tmp 87) (.tmp 88) 28 28 rfl _ _ _ rfl rfl r9.out ?_)
          by_cases hfit : f0 + f1 ≤ C
          · have hcm := commit_p hl9.out (by omega) (by omega) (hT0.out.below hz hB9.out) hb9.out hS9.out (by have := hm.out; have := hbl.out; omega) hbs.out (by rw [← hf1.out, ← hf0.out, ← hC.out]; exact hfit)
            refine hcm.mono ?_
            rintro e w10 ⟨S10, hm10, hR⟩
            clear hcm
            have z10 := hm10.1.size
            have hB10 := below_mv hB9.out hm10 hB9.out.size fun k hk => by have := hl9.out.ge hk; omega
            have ha10 := ha9.out.upd hm10.1 hS9.out
            have hb10 := hb9.out.upd hm10.1 hS9.out
            have hn10 := hn9.out.upd hm10.1 hS9.out
            have hS10 : ∀ k, T9 k → ¬ OL S10 lb k := fun k hk h => (hm10.2 k h).elim (hS9.out k hk) fun h => by have := hTo9.out k hk; omega
            replace hB10 := hide hB10
            replace ha10 := hide ha10
            replace hb10 := hide hb10
            replace hn10 := hide hn10
            replace hS10 := hide hS10
            rcases hR with ⟨rfl, hl10⟩ | ⟨rfl, ht⟩
            · have hTo10 : ∀ k, T9 k → k < w10.heap.size := fun k hk => by have := hTo9.out k hk; omega
              replace hl10 := hide hl10
              replace hTo10 := hide hTo10
              clear hm10
              go_wp2_with fail
              go_roundw
              case rel => exact ⟨k + 1, lb, S10, T9, (rs ++ L), by omega, rfl, by go_num, hB10.out, hl10.out, hn10.out, hS10.out, hTo10.out, by omega, by (rw [List.length_append]; have := hm.out; have := hbl.out; omega)⟩
              case measure => simp [intOf]; omega
            · have z11 := hm10.1.size
              have hdd := dead_tnP ht
              replace ht := hide ht
              go_wp2_with fail
              refine hdd.mono ?_
              rintro e w' ⟨rfl, rfl⟩
              clear hdd
              by_cases qk : k < ks.length
              · obtain ⟨bk, ok, rfl, hkb, hcell⟩ := (a3.out.upd (Upd.of_below (fun _ => False) hB10.out) fun _ _ => id).get (i := k) (u := .int .u64 (ks[k] : Nat)) (by simp [qk])
                have hkl := hks.out _ (List.getElem_mem qk)
                obtain ⟨kk, hkk⟩ : ∃ kk, kk = ks[k] := ⟨_, rfl⟩
                rw [← hkk] at hcell hkl
                replace hkk := hide hkk
                have hcr := crash_tnP ht.out (by omega) kk 0 (by omega)
                go_wp2_with fail
                refine hcr.mono ?_
                rintro e w11 ⟨rfl, S11, r, hor, hd11, hm11⟩
                clear hcr
                have z12' := hm11.1.size
                have hB11 := below_mv hB10.out hm11 hB10.out.size fun k hk => by have := ht.out.ge hk; omega
                have ha11 := ha10.out.upd hm11.1 fun k hk h => hS10.out k hk (.inl h)
                have hn11 := hn10.out.upd hm11.1 fun k hk h => hS10.out k hk (.inl h)
                have hS11 : ∀ k, T9 k → ¬ S11 k := fun k hk h => (hm11.2 k h).elim (fun h => hS10.out k hk (.inl h)) fun h => by have := hTo9.out k hk; omega
                have ho := open_onP hd11 (by omega) (by omega) (hT0.out.below hz hB11)
                replace hB11 := hide hB11
                replace ha11 := hide ha11
                replace hn11 := hide hn11
                replace hS11 := hide hS11
                replace hd11 := hide hd11
                clear hm11
                go_wp2_with fail
                refine ho.mono ?_
                rintro e w12 ⟨lc, v12, S12, rfl, hl12, hx12, -, hlc, hm12⟩
                clear ho
                have z13' := hm12.1.size
                have hB12 := below_mv hB11.out hm12 hB11.out.size fun k hk => by have := hd11.out.ge hk; omega
                have ha12 := ha11.out.upd hm12.1 hS11.out
                have hn12 := hn11.out.upd hm12.1 hS11.out
                have hS12 : ∀ k, T9 k → ¬ OL S12 lc k := fun k hk h => by
                  have := hTo9.out k hk
                  rcases h with h | h
                  · rcases hm12.2 k h with h | h
                    · exact hS11.out k hk h
                    · omega
                  · omega
                have hx := hx12.recsW
                have hsm := same_any hx ha12.recsW
                obtain ⟨A12, c12, rfl, -⟩ := hx12.slice
                replace hB12 := hide hB12
                replace ha12 := hide ha12
                replace hn12 := hide hn12
                replace hS12 := hide hS12
                replace hx := hide hx
                replace hl12 := hide hl12
                clear hm12 hx12
                by_cases hre : r = rs
                · rw [decide_eq_true hre] at hsm
                  replace hre := hide hre
                  replace hor := hide hor
                  go_wp2_with fail
                  refine hsm.mono ?_
                  rintro e w13 ⟨rfl, hb13⟩
                  clear hsm
                  have hU13 := Upd.of_below (fun _ => False) hb13
                  have z14 := hb13.size
                  have hB13 := hB12.out.trans (hb13.mono hB12.out.size)
                  have hl13 := hl12.out.upd hU13 fun _ _ => id
                  have ha13 := ha12.out.upd hU13 fun _ _ => id
                  have hTo13 : ∀ k, T9 k → k < w13.heap.size := fun k hk => by have := hTo9.out k hk; omega
                  replace hB13 := hide hB13
                  replace hl13 := hide hl13
                  replace ha13 := hide ha13
                  replace hTo13 := hide hTo13
                  clear hU13 hb13
                  go_wp2_with fail
                  go_roundw
                  case rel => exact ⟨k + 1, lc, S12, T9, rs, by omega, rfl, by go_num, hB13.out, by rw [← hre.out]; exact hl13.out, ha13.out, hS12.out, hTo13.out, by omega, by omega⟩
                  case measure => simp [intOf]; omega
                · rw [decide_eq_false hre] at hsm
                  have hrn := hor.resolve_left hre
                  replace hre := hide hre
                  replace hor := hide hor
                  replace hrn := hide hrn
                  go_wp2_with fail
                  refine hsm.mono ?_
                  rintro e w13 ⟨rfl, hb13⟩
                  clear hsm
                  have hU13 := Upd.of_below (fun _ => False) hb13
                  have z14 := hb13.size
                  have hB13 := hB12.out.trans (hb13.mono hB12.out.size)
                  have hl13 := hl12.out.upd hU13 fun _ _ => id
                  have hn13 := hn12.out.upd hU13 fun _ _ => id
                  have hsm := same_any (hx.out.upd hU13 fun _ _ => id) hn13.recsW
                  rw [decide_eq_true hrn.out] at hsm
                  replace hB13 := hide hB13
                  replace hl13 := hide hl13
                  replace hn13 := hide hn13
                  clear hU13 hb13
                  go_wp2_with fail
                  refine hsm.mono ?_
                  rintro e w14 ⟨rfl, hb14⟩
                  clear hsm
                  have hU14 := Upd.of_below (fun _ => False) hb14
                  have z15 := hb14.size
                  have hB14 := hB13.out.trans (hb14.mono hB13.out.size)
                  have hl14 := hl13.out.upd hU14 fun _ _ => id
                  have hn14 := hn13.out.upd hU14 fun _ _ => id
                  have hTo14 : ∀ k, T9 k → k < w14.heap.size := fun k hk => by have := hTo9.out k hk; omega
                  replace hB14 := hide hB14
                  replace hl14 := hide hl14
                  replace hn14 := hide hn14
                  replace hTo14 := hide hTo14
                  clear hU14 hb14
                  go_wp2_with fail
                  go_roundw
                  case rel => exact ⟨k + 1, lc, S12, T9, (rs ++ L), by omega, rfl, by go_num, hB14.out, by rw [← hrn.out]; exact hl14.out, hn14.out, hS12.out, hTo14.out, by omega, by rw [List.length_append]; have := hm.out; have := hbl.out; omega⟩
                  case measure => simp [intOf]; omega
              · have hcr := crash_tnP ht.out (by omega) 0 0 (by omega)
                go_wp2_with fail
                refine hcr.mono ?_
                rintro e w11 ⟨rfl, S11, r, hor, hd11, hm11⟩
                clear hcr
                have z12' := hm11.1.size
                have hB11 := below_mv hB10.out hm11 hB10.out.size fun k hk => by have := ht.out.ge hk; omega
                have ha11 := ha10.out.upd hm11.1 fun k hk h => hS10.out k hk (.inl h)
                have hn11 := hn10.out.upd hm11.1 fun k hk h => hS10.out k hk (.inl h)
                have hS11 : ∀ k, T9 k → ¬ S11 k := fun k hk h => (hm11.2 k h).elim (fun h => hS10.out k hk (.inl h)) fun h => by have := hTo9.out k hk; omega
                have ho := open_onP hd11 (by omega) (by omega) (hT0.out.below hz hB11)
                replace hB11 := hide hB11
                replace ha11 := hide ha11
                replace hn11 := hide hn11
                replace hS11 := hide hS11
                replace hd11 := hide hd11
                clear hm11
                go_wp2_with fail
                refine ho.mono ?_
                rintro e w12 ⟨lc, v12, S12, rfl, hl12, hx12, -, hlc, hm12⟩
                clear ho
                have z13' := hm12.1.size
                have hB12 := below_mv hB11.out hm12 hB11.out.size fun k hk => by have := hd11.out.ge hk; omega
                have ha12 := ha11.out.upd hm12.1 hS11.out
                have hn12 := hn11.out.upd hm12.1 hS11.out
                have hS12 : ∀ k, T9 k → ¬ OL S12 lc k := fun k hk h => by
                  have := hTo9.out k hk
                  rcases h with h | h
                  · rcases hm12.2 k h with h | h
                    · exact hS11.out k hk h
                    · omega
                  · omega
                have hx := hx12.recsW
                have hsm := same_any hx ha12.recsW
                obtain ⟨A12, c12, rfl, -⟩ := hx12.slice
                replace hB12 := hide hB12
                replace ha12 := hide ha12
                replace hn12 := hide hn12
                replace hS12 := hide hS12
                replace hx := hide hx
                replace hl12 := hide hl12
                clear hm12 hx12
                by_cases hre : r = rs
                · rw [decide_eq_true hre] at hsm
                  replace hre := hide hre
                  replace hor := hide hor
                  go_wp2_with fail
                  refine hsm.mono ?_
                  rintro e w13 ⟨rfl, hb13⟩
                  clear hsm
                  have hU13 := Upd.of_below (fun _ => False) hb13
                  have z14 := hb13.size
                  have hB13 := hB12.out.trans (hb13.mono hB12.out.size)
                  have hl13 := hl12.out.upd hU13 fun _ _ => id
                  have ha13 := ha12.out.upd hU13 fun _ _ => id
                  have hTo13 : ∀ k, T9 k → k < w13.heap.size := fun k hk => by have := hTo9.out k hk; omega
                  replace hB13 := hide hB13
                  replace hl13 := hide hl13
                  replace ha13 := hide ha13
                  replace hTo13 := hide hTo13
                  clear hU13 hb13
                  go_wp2_with fail
                  go_roundw
                  case rel => exact ⟨k + 1, lc, S12, T9, rs, by omega, rfl, by go_num, hB13.out, by rw [← hre.out]; exact hl13.out, ha13.out, hS12.out, hTo13.out, by omega, by omega⟩
                  case measure => simp [intOf]; omega
                · rw [decide_eq_false hre] at hsm
                  have hrn := hor.resolve_left hre
                  replace hre := hide hre
                  replace hor := hide hor
                  replace hrn := hide hrn
                  go_wp2_with fail
                  refine hsm.mono ?_
                  rintro e w13 ⟨rfl, hb13⟩
                  clear hsm
                  have hU13 := Upd.of_below (fun _ => False) hb13
                  have z14 := hb13.size
                  have hB13 := hB12.out.trans (hb13.mono hB12.out.size)
                  have hl13 := hl12.out.upd hU13 fun _ _ => id
                  have hn13 := hn12.out.upd hU13 fun _ _ => id
                  have hsm := same_any (hx.out.upd hU13 fun _ _ => id) hn13.recsW
                  rw [decide_eq_true hrn.out] at hsm
                  replace hB13 := hide hB13
                  replace hl13 := hide hl13
                  replace hn13 := hide hn13
                  clear hU13 hb13
                  go_wp2_with fail
                  refine hsm.mono ?_
                  rintro e w14 ⟨rfl, hb14⟩
                  clear hsm
                  have hU14 := Upd.of_below (fun _ => False) hb14
                  have z15 := hb14.size
                  have hB14 := hB13.out.trans (hb14.mono hB13.out.size)
                  have hl14 := hl13.out.upd hU14 fun _ _ => id
                  have hn14 := hn13.out.upd hU14 fun _ _ => id
                  have hTo14 : ∀ k, T9 k → k < w14.heap.size := fun k hk => by have := hTo9.out k hk; omega
                  replace hB14 := hide hB14
                  replace hl14 := hide hl14
                  replace hn14 := hide hn14
                  replace hTo14 := hide hTo14
                  clear hU14 hb14
                  go_wp2_with fail
                  go_roundw
                  case rel => exact ⟨k + 1, lc, S12, T9, (rs ++ L), by omega, rfl, by go_num, hB14.out, by rw [← hrn.out]; exact hl14.out, hn14.out, hS12.out, hTo14.out, by omega, by rw [List.length_append]; have := hm.out; have := hbl.out; omega⟩
                  case measure => simp [intOf]; omega
          · have hcm := full_p hl9.out hb9.out (by have := hm.out; have := hbl.out; omega) hbs.out (by rw [← hf1.out]; omega) (by rw [← hf1.out, ← hf0.out, ← hC.out]; omega)
            refine hcm.mono ?_
            rintro e w10 ⟨rfl, hb10⟩
            clear hcm
            have hB10 := hide (hB9.out.trans (hb10.mono hB9.out.size))
            clear hb10
            go_wp2_with fail
            go_ret
            exact ⟨rfl, hB10.out⟩
      · obtain ⟨w6, rfl⟩ : ∃ x, x = w5 := ⟨_, rfl⟩
        have hB6 := hB5.out
        have hl6 := hl5.out
        have hr6 := hr5.out
        have hrv6 := hrv5.out
        have z6 := Nat.le_refl w6.heap.size
        clear hl5 hr5 hrv5 hB5
        obtain ⟨v8, w8, v9, w9, r8, r9, hU9, hc9⟩ := cat_recs hr6 hrv6 (by have := hm.out; have := hbl.out; omega) 28 28
        have z9 := hU9.size
        have hl9 := hl6.upd hU9 fun _ _ => id
        have hB9 := hB6.trans (hU9.below hB6.size fun _ h => h.elim)
        obtain ⟨T9, hT9⟩ : ∃ T9 : Nat → Prop, T9 = fun k => ((T k ∨ T5 k) ∨ w6.heap.size ≤ k) ∧ k < w9.heap.size := ⟨_, rfl⟩
        rw [← hT9] at hc9
        have ha9 : RecsV w9 T9 (.slice Az nz cz) rs := (hr6.low.upd hU9 fun _ _ => id).wide fun k hk => by rw [hT9]; exact ⟨.inl (.inl hk.1), by have := hk.2; omega⟩
        have hb9 : RecsV w9 T9 (.slice A5 m c5) L := (hrv6.low.upd hU9 fun _ _ => id).wide fun k hk => by rw [hT9]; exact ⟨.inl (.inr hk.1), by have := hk.2; omega⟩
        have hS9 : ∀ k, T9 k → ¬ OL S lb k := fun k hk h => by
          rw [hT9] at hk
          rcases hk.1 with (h1 | h1) | h1
          · exact hTS.out k h1 h
          · exact hT5S.out k h1 h
          · have := hl6.old h; omega
        have hTo9 : ∀ k, T9 k → k < w9.heap.size := fun k hk => by rw [hT9] at hk; exact hk.2
        obtain ⟨A9, n9, c9, rfl, q9a, q9b, q9c⟩ := hc9.form
        have hn9 := hc9
        unfold maxLen at q9b
        replace q9c := hide q9c
        replace hT9 := hide hT9
        replace hB9 := hide hB9
        replace hl9 := hide hl9
        replace ha9 := hide ha9
        replace hb9 := hide hb9
        replace hn9 := hide hn9
        replace hS9 := hide hS9
        replace hTo9 := hide hTo9
        replace r8 := hide r8
        replace r9 := hide r9
        clear hU9 hc9 hB6 hl6 hr6 hrv6
        have hcw := hcw1.out w9 hB9.out
        by_cases w4' : what = 4
        · subst w4'
          go_wp2_with (at_builtin; first | refine wp_append_run rfl (.const (.slice none 0 0)) (.tmp 86) 28 28 rfl _ _ _ rfl rfl r8.out ?_ | refine wp_append_run rfl (.tmp 87) (.tmp 88) 28 28 rfl _ _ _ rfl rfl r9.out ?_)
          have hcm := reset_p hl9.out (by omega) (by omega) (hT0.out.below hz hB9.out) hb9.out hS9.out (by have := hm.out; have := hbl.out; omega) hbs.out (by rw [← hf1.out, ← hC.out]; omega)
          refine hcm.mono ?_
          rintro e w10 ⟨S10, hm10, hR⟩
          clear hcm
          have z10 := hm10.1.size
          have hB10 := below_mv hB9.out hm10 hB9.out.size fun k hk => by have := hl9.out.ge hk; omega
          have ha10 := ha9.out.upd hm10.1 hS9.out
          have hb10 := hb9.out.upd hm10.1 hS9.out
          have hn10 := hn9.out.upd hm10.1 hS9.out
          have hS10 : ∀ k, T9 k → ¬ OL S10 lb k := fun k hk h => (hm10.2 k h).elim (hS9.out k hk) fun h => by have := hTo9.out k hk; omega
          replace hB10 := hide hB10
          replace ha10 := hide ha10
          replace hb10 := hide hb10
          replace hn10 := hide hn10
          replace hS10 := hide hS10
          rcases hR with ⟨rfl, hl10⟩ | ⟨rfl, ht⟩
          · have hTo10 : ∀ k, T9 k → k < w10.heap.size := fun k hk => by have := hTo9.out k hk; omega
            replace hl10 := hide hl10
            replace hTo10 := hide hTo10
            clear hm10
            go_wp2_with fail
            go_roundw
            case rel => exact ⟨k + 1, lb, S10, T9, L, by omega, rfl, by go_num, hB10.out, hl10.out, hb10.out, hS10.out, hTo10.out, by omega, by have := hm.out; have := hbl.out; omega⟩
            case measure => simp [intOf]; omega
          · have z11 := hm10.1.size
            have hdd := dead_tnP ht
            replace ht := hide ht
            go_wp2_with fail
            refine hdd.mono ?_
            rintro e w' ⟨rfl, rfl⟩
            clear hdd
            by_cases qk : k < ks.length
            · obtain ⟨bk, ok, rfl, hkb, hcell⟩ := (a3.out.upd (Upd.of_below (fun _ => False) hB10.out) fun _ _ => id).get (i := k) (u := .int .u64 (ks[k] : Nat)) (by simp [qk])
              have hkl := hks.out _ (List.getElem_mem qk)
              obtain ⟨kk, hkk⟩ : ∃ kk, kk = ks[k] := ⟨_, rfl⟩
              rw [← hkk] at hcell hkl
              replace hkk := hide hkk
              have hcr := crash_tnP ht.out (by omega) kk 0 (by omega)
              go_wp2_with fail
              refine hcr.mono ?_
              rintro e w11 ⟨rfl, S11, r, hor, hd11, hm11⟩
              clear hcr
              have z12' := hm11.1.size
              have hB11 := below_mv hB10.out hm11 hB10.out.size fun k hk => by have := ht.out.ge hk; omega
              have ha11 := ha10.out.upd hm11.1 fun k hk h => hS10.out k hk (.inl h)
              have hn11 := hb10.out.upd hm11.1 fun k hk h => hS10.out k hk (.inl h)
              have hS11 : ∀ k, T9 k → ¬ S11 k := fun k hk h => (hm11.2 k h).elim (fun h => hS10.out k hk (.inl h)) fun h => by have := hTo9.out k hk; omega
              have ho := open_onP hd11 (by omega) (by omega) (hT0.out.below hz hB11)
              replace hB11 := hide hB11
              replace ha11 := hide ha11
              replace hn11 := hide hn11
              replace hS11 := hide hS11
              replace hd11 := hide hd11
              clear hm11
              go_wp2_with fail
              refine ho.mono ?_
              rintro e w12 ⟨lc, v12, S12, rfl, hl12, hx12, -, hlc, hm12⟩
              clear ho
              have z13' := hm12.1.size
              have hB12 := below_mv hB11.out hm12 hB11.out.size fun k hk => by have := hd11.out.ge hk; omega
              have ha12 := ha11.out.upd hm12.1 hS11.out
              have hn12 := hn11.out.upd hm12.1 hS11.out
              have hS12 : ∀ k, T9 k → ¬ OL S12 lc k := fun k hk h => by
                have := hTo9.out k hk
                rcases h with h | h
                · rcases hm12.2 k h with h | h
                  · exact hS11.out k hk h
                  · omega
                · omega
              have hx := hx12.recsW
              have hsm := same_any hx ha12.recsW
              obtain ⟨A12, c12, rfl, -⟩ := hx12.slice
              replace hB12 := hide hB12
              replace ha12 := hide ha12
              replace hn12 := hide hn12
              replace hS12 := hide hS12
              replace hx := hide hx
              replace hl12 := hide hl12
              clear hm12 hx12
              by_cases hre : r = rs
              · rw [decide_eq_true hre] at hsm
                replace hre := hide hre
                replace hor := hide hor
                go_wp2_with fail
                refine hsm.mono ?_
                rintro e w13 ⟨rfl, hb13⟩
                clear hsm
                have hU13 := Upd.of_below (fun _ => False) hb13
                have z14 := hb13.size
                have hB13 := hB12.out.trans (hb13.mono hB12.out.size)
                have hl13 := hl12.out.upd hU13 fun _ _ => id
                have ha13 := ha12.out.upd hU13 fun _ _ => id
                have hTo13 : ∀ k, T9 k → k < w13.heap.size := fun k hk => by have := hTo9.out k hk; omega
                replace hB13 := hide hB13
                replace hl13 := hide hl13
                replace ha13 := hide ha13
                replace hTo13 := hide hTo13
                clear hU13 hb13
                go_wp2_with fail
                go_roundw
                case rel => exact ⟨k + 1, lc, S12, T9, rs, by omega, rfl, by go_num, hB13.out, by rw [← hre.out]; exact hl13.out, ha13.out, hS12.out, hTo13.out, by omega, by omega⟩
                case measure => simp [intOf]; omega
              · rw [decide_eq_false hre] at hsm
                have hrn := hor.resolve_left hre
                replace hre := hide hre
                replace hor := hide hor
                replace hrn := hide hrn
                go_wp2_with fail
                refine hsm.mono ?_
                rintro e w13 ⟨rfl, hb13⟩
                clear hsm
                have hU13 := Upd.of_below (fun _ => False) hb13
                have z14 := hb13.size
                have hB13 := hB12.out.trans (hb13.mono hB12.out.size)
                have hl13 := hl12.out.upd hU13 fun _ _ => id
                have hn13 := hn12.out.upd hU13 fun _ _ => id
                have hsm := same_any (hx.out.upd hU13 fun _ _ => id) hn13.recsW
                rw [decide_eq_true hrn.out] at hsm
                replace hB13 := hide hB13
                replace hl13 := hide hl13
                replace hn13 := hide hn13
                clear hU13 hb13
                go_wp2_with fail
                refine hsm.mono ?_
                rintro e w14 ⟨rfl, hb14⟩
                clear hsm
                have hU14 := Upd.of_below (fun _ => False) hb14
                have z15 := hb14.size
                have hB14 := hB13.out.trans (hb14.mono hB13.out.size)
                have hl14 := hl13.out.upd hU14 fun _ _ => id
                have hn14 := hn13.out.upd hU14 fun _ _ => id
                have hTo14 : ∀ k, T9 k → k < w14.heap.size := fun k hk => by have := hTo9.out k hk; omega
                replace hB14 := hide hB14
                replace hl14 := hide hl14
                replace hn14 := hide hn14
                replace hTo14 := hide hTo14
                clear hU14 hb14
                go_wp2_with fail
                go_roundw
                case rel => exact ⟨k + 1, lc, S12, T9, L, by omega, rfl, by go_num, hB14.out, by rw [← hrn.out]; exact hl14.out, hn14.out, hS12.out, hTo14.out, by omega, by have := hm.out; have := hbl.out; omega⟩
                case measure => simp [intOf]; omega
            · have hcr := crash_tnP ht.out (by omega) 0 0 (by omega)
              go_wp2_with fail
              refine hcr.mono ?_
              rintro e w11 ⟨rfl, S11, r, hor, hd11, hm11⟩
              clear hcr
              have z12' := hm11.1.size
              have hB11 := below_mv hB10.out hm11 hB10.out.size fun k hk => by have := ht.out.ge hk; omega
              have ha11 := ha10.out.upd hm11.1 fun k hk h => hS10.out k hk (.inl h)
              have hn11 := hb10.out.upd hm11.1 fun k hk h => hS10.out k hk (.inl h)
              have hS11 : ∀ k, T9 k → ¬ S11 k := fun k hk h => (hm11.2 k h).elim (fun h => hS10.out k hk (.inl h)) fun h => by have := hTo9.out k hk; omega
              have ho := open_onP hd11 (by omega) (by omega) (hT0.out.below hz hB11)
              replace hB11 := hide hB11
              replace ha11 := hide ha11
              replace hn11 := hide hn11
              replace hS11 := hide hS11
              replace hd11 := hide hd11
              clear hm11
              go_wp2_with fail
              refine ho.mono ?_
              rintro e w12 ⟨lc, v12, S12, rfl, hl12, hx12, -, hlc, hm12⟩
              clear ho
              have z13' := hm12.1.size
              have hB12 := below_mv hB11.out hm12 hB11.out.size fun k hk => by have := hd11.out.ge hk; omega
              have ha12 := ha11.out.upd hm12.1 hS11.out
              have hn12 := hn11.out.upd hm12.1 hS11.out
              have hS12 : ∀ k, T9 k → ¬ OL S12 lc k := fun k hk h => by
                have := hTo9.out k hk
                rcases h with h | h
                · rcases hm12.2 k h with h | h
                  · exact hS11.out k hk h
                  · omega
                · omega
              have hx := hx12.recsW
              have hsm := same_any hx ha12.recsW
              obtain ⟨A12, c12, rfl, -⟩ := hx12.slice
              replace hB12 := hide hB12
              replace ha12 := hide ha12
              replace hn12 := hide hn12
              replace hS12 := hide hS12
              replace hx := hide hx
              replace hl12 := hide hl12
              clear hm12 hx12
              by_cases hre : r = rs
              · rw [decide_eq_true hre] at hsm
                replace hre := hide hre
                replace hor := hide hor
                go_wp2_with fail
                refine hsm.mono ?_
                rintro e w13 ⟨rfl, hb13⟩
                clear hsm
                have hU13 := Upd.of_below (fun _ => False) hb13
                have z14 := hb13.size
                have hB13 := hB12.out.trans (hb13.mono hB12.out.size)
                have hl13 := hl12.out.upd hU13 fun _ _ => id
                have ha13 := ha12.out.upd hU13 fun _ _ => id
                have hTo13 : ∀ k, T9 k → k < w13.heap.size := fun k hk => by have := hTo9.out k hk; omega
                replace hB13 := hide hB13
                replace hl13 := hide hl13
                replace ha13 := hide ha13
                replace hTo13 := hide hTo13
                clear hU13 hb13
                go_wp2_with fail
                go_roundw
                case rel => exact ⟨k + 1, lc, S12, T9, rs, by omega, rfl, by go_num, hB13.out, by rw [← hre.out]; exact hl13.out, ha13.out, hS12.out, hTo13.out, by omega, by omega⟩
                case measure => simp [intOf]; omega
              · rw [decide_eq_false hre] at hsm
                have hrn := hor.resolve_left hre
                replace hre := hide hre
                replace hor := hide hor
                replace hrn := hide hrn
                go_wp2_with fail
                refine hsm.mono ?_
                rintro e w13 ⟨rfl, hb13⟩
                clear hsm
                have hU13 := Upd.of_below (fun _ => False) hb13
                have z14 := hb13.size
                have hB13 := hB12.out.trans (hb13.mono hB12.out.size)
                have hl13 := hl12.out.upd hU13 fun _ _ => id
                have hn13 := hn12.out.upd hU13 fun _ _ => id
                have hsm := same_any (hx.out.upd hU13 fun _ _ => id) hn13.recsW
                rw [decide_eq_true hrn.out] at hsm
                replace hB13 := hide hB13
                replace hl13 := hide hl13
                replace hn13 := hide hn13
                clear hU13 hb13
                go_wp2_with fail
                refine hsm.mono ?_
                rintro e w14 ⟨rfl, hb14⟩
                clear hsm
                have hU14 := Upd.of_below (fun _ => False) hb14
                have z15 := hb14.size
                have hB14 := hB13.out.trans (hb14.mono hB13.out.size)
                have hl14 := hl13.out.upd hU14 fun _ _ => id
                have hn14 := hn13.out.upd hU14 fun _ _ => id
                have hTo14 : ∀ k, T9 k → k < w14.heap.size := fun k hk => by have := hTo9.out k hk; omega
                replace hB14 := hide hB14
                replace hl14 := hide hl14
                replace hn14 := hide hn14
                replace hTo14 := hide hTo14
                clear hU14 hb14
                go_wp2_with fail
                go_roundw
                case rel => exact ⟨k + 1, lc, S12, T9, L, by omega, rfl, by go_num, hB14.out, by rw [← hrn.out]; exact hl14.out, hn14.out, hS12.out, hTo14.out, by omega, by have := hm.out; have := hbl.out; omega⟩
                case measure => simp [intOf]; omega
        · go_wp2_with (at_builtin; first | refine wp_append_run rfl (.const (.slice none 0 0)) (.tmp 86) 28 28 rfl _ _ _ rfl rfl r8.out ?_ | refine wp_append_run rfl (.tmp 87) (.tmp 88) 28 28 rfl _ _ _ rfl rfl r9.out ?_)
          by_cases hfit : f0 + f1 ≤ C
          · have hcm := commit_p hl9.out (by omega) (by omega) (hT0.out.below hz hB9.out) hb9.out hS9.out (by have := hm.out; have := hbl.out; omega) hbs.out (by rw [← hf1.out, ← hf0.out, ← hC.out]; exact hfit)
            refine hcm.mono ?_
            rintro e w10 ⟨S10, hm10, hR⟩
            clear hcm
            have z10 := hm10.1.size
            have hB10 := below_mv hB9.out hm10 hB9.out.size fun k hk => by have := hl9.out.ge hk; omega
            have ha10 := ha9.out.upd hm10.1 hS9.out
            have hb10 := hb9.out.upd hm10.1 hS9.out
            have hn10 := hn9.out.upd hm10.1 hS9.out
            have hS10 : ∀ k, T9 k → ¬ OL S10 lb k := fun k hk h => (hm10.2 k h).elim (hS9.out k hk) fun h => by have := hTo9.out k hk; omega
            replace hB10 := hide hB10
            replace ha10 := hide ha10
            replace hb10 := hide hb10
            replace hn10 := hide hn10
            replace hS10 := hide hS10
            rcases hR with ⟨rfl, hl10⟩ | ⟨rfl, ht⟩
            · have hTo10 : ∀ k, T9 k → k < w10.heap.size := fun k hk => by have := hTo9.out k hk; omega
              replace hl10 := hide hl10
              replace hTo10 := hide hTo10
              clear hm10
              go_wp2_with fail
              go_roundw
              case rel => exact ⟨k + 1, lb, S10, T9, (rs ++ L), by omega, rfl, by go_num, hB10.out, hl10.out, hn10.out, hS10.out, hTo10.out, by omega, by (rw [List.length_append]; have := hm.out; have := hbl.out; omega)⟩
              case measure => simp [intOf]; omega
            · have z11 := hm10.1.size
              have hdd := dead_tnP ht
              replace ht := hide ht
              go_wp2_with fail
              refine hdd.mono ?_
              rintro e w' ⟨rfl, rfl⟩
              clear hdd
              by_cases qk : k < ks.length
              · obtain ⟨bk, ok, rfl, hkb, hcell⟩ := (a3.out.upd (Upd.of_below (fun _ => False) hB10.out) fun _ _ => id).get (i := k) (u := .int .u64 (ks[k] : Nat)) (by simp [qk])
                have hkl := hks.out _ (List.getElem_mem qk)
                obtain ⟨kk, hkk⟩ : ∃ kk, kk = ks[k] := ⟨_, rfl⟩
                rw [← hkk] at hcell hkl
                replace hkk := hide hkk
                have hcr := crash_tnP ht.out (by omega) kk 0 (by omega)
                go_wp2_with fail
                refine hcr.mono ?_
                rintro e w11 ⟨rfl, S11, r, hor, hd11, hm11⟩
                clear hcr
                have z12' := hm11.1.size
                have hB11 := below_mv hB10.out hm11 hB10.out.size fun k hk => by have := ht.out.ge hk; omega
                have ha11 := ha10.out.upd hm11.1 fun k hk h => hS10.out k hk (.inl h)
                have hn11 := hn10.out.upd hm11.1 fun k hk h => hS10.out k hk (.inl h)
                have hS11 : ∀ k, T9 k → ¬ S11 k := fun k hk h => (hm11.2 k h).elim (fun h => hS10.out k hk (.inl h)) fun h => by have := hTo9.out k hk; omega
                have ho := open_onP hd11 (by omega) (by omega) (hT0.out.below hz hB11)
                replace hB11 := hide hB11
                replace ha11 := hide ha11
                replace hn11 := hide hn11
                replace hS11 := hide hS11
                replace hd11 := hide hd11
                clear hm11
                go_wp2_with fail
                refine ho.mono ?_
                rintro e w12 ⟨lc, v12, S12, rfl, hl12, hx12, -, hlc, hm12⟩
                clear ho
                have z13' := hm12.1.size
                have hB12 := below_mv hB11.out hm12 hB11.out.size fun k hk => by have := hd11.out.ge hk; omega
                have ha12 := ha11.out.upd hm12.1 hS11.out
                have hn12 := hn11.out.upd hm12.1 hS11.out
                have hS12 : ∀ k, T9 k → ¬ OL S12 lc k := fun k hk h => by
                  have := hTo9.out k hk
                  rcases h with h | h
                  · rcases hm12.2 k h with h | h
                    · exact hS11.out k hk h
                    · omega
                  · omega
                have hx := hx12.recsW
                have hsm := same_any hx ha12.recsW
                obtain ⟨A12, c12, rfl, -⟩ := hx12.slice
                replace hB12 := hide hB12
                replace ha12 := hide ha12
                replace hn12 := hide hn12
                replace hS12 := hide hS12
                replace hx := hide hx
                replace hl12 := hide hl12
                clear hm12 hx12
                by_cases hre : r = rs
                · rw [decide_eq_true hre] at hsm
                  replace hre := hide hre
                  replace hor := hide hor
                  go_wp2_with fail
                  refine hsm.mono ?_
                  rintro e w13 ⟨rfl, hb13⟩
                  clear hsm
                  have hU13 := Upd.of_below (fun _ => False) hb13
                  have z14 := hb13.size
                  have hB13 := hB12.out.trans (hb13.mono hB12.out.size)
                  have hl13 := hl12.out.upd hU13 fun _ _ => id
                  have ha13 := ha12.out.upd hU13 fun _ _ => id
                  have hTo13 : ∀ k, T9 k → k < w13.heap.size := fun k hk => by have := hTo9.out k hk; omega
                  replace hB13 := hide hB13
                  replace hl13 := hide hl13
                  replace ha13 := hide ha13
                  replace hTo13 := hide hTo13
                  clear hU13 hb13
                  go_wp2_with fail
                  go_roundw
                  case rel => exact ⟨k + 1, lc, S12, T9, rs, by omega, rfl, by go_num, hB13.out, by rw [← hre.out]; exact hl13.out, ha13.out, hS12.out, hTo13.out, by omega, by omega⟩
                  case measure => simp [intOf]; omega
                · rw [decide_eq_false hre] at hsm
                  have hrn := hor.resolve_left hre
                  replace hre := hide hre
                  replace hor := hide hor
                  replace hrn := hide hrn
                  go_wp2_with fail
                  refine hsm.mono ?_
                  rintro e w13 ⟨rfl, hb13⟩
                  clear hsm
                  have hU13 := Upd.of_below (fun _ => False) hb13
                  have z14 := hb13.size
                  have hB13 := hB12.out.trans (hb13.mono hB12.out.size)
                  have hl13 := hl12.out.upd hU13 fun _ _ => id
                  have hn13 := hn12.out.upd hU13 fun _ _ => id
                  have hsm := same_any (hx.out.upd hU13 fun _ _ => id) hn13.recsW
                  rw [decide_eq_true hrn.out] at hsm
                  replace hB13 := hide hB13
                  replace hl13 := hide hl13
                  replace hn13 := hide hn13
                  clear hU13 hb13
                  go_wp2_with fail
                  refine hsm.mono ?_
                  rintro e w14 ⟨rfl, hb14⟩
                  clear hsm
                  have hU14 := Upd.of_below (fun _ => False) hb14
                  have z15 := hb14.size
                  have hB14 := hB13.out.trans (hb14.mono hB13.out.size)
                  have hl14 := hl13.out.upd hU14 fun _ _ => id
                  have hn14 := hn13.out.upd hU14 fun _ _ => id
                  have hTo14 : ∀ k, T9 k → k < w14.heap.size := fun k hk => by have := hTo9.out k hk; omega
                  replace hB14 := hide hB14
                  replace hl14 := hide hl14
                  replace hn14 := hide hn14
                  replace hTo14 := hide hTo14
                  clear hU14 hb14
                  go_wp2_with fail
                  go_roundw
                  case rel => exact ⟨k + 1, lc, S12, T9, (rs ++ L), by omega, rfl, by go_num, hB14.out, by rw [← hrn.out]; exact hl14.out, hn14.out, hS12.out, hTo14.out, by omega, by rw [List.length_append]; have := hm.out; have := hbl.out; omega⟩
                  case measure => simp [intOf]; omega
              · have hcr := crash_tnP ht.out (by omega) 0 0 (by omega)
                go_wp2_with fail
                refine hcr.mono ?_
                rintro e w11 ⟨rfl, S11, r, hor, hd11, hm11⟩
                clear hcr
                have z12' := hm11.1.size
                have hB11 := below_mv hB10.out hm11 hB10.out.size fun k hk => by have := ht.out.ge hk; omega
                have ha11 := ha10.out.upd hm11.1 fun k hk h => hS10.out k hk (.inl h)
                have hn11 := hn10.out.upd hm11.1 fun k hk h => hS10.out k hk (.inl h)
                have hS11 : ∀ k, T9 k → ¬ S11 k := fun k hk h => (hm11.2 k h).elim (fun h => hS10.out k hk (.inl h)) fun h => by have := hTo9.out k hk; omega
                have ho := open_onP hd11 (by omega) (by omega) (hT0.out.below hz hB11)
                replace hB11 := hide hB11
                replace ha11 := hide ha11
                replace hn11 := hide hn11
                replace hS11 := hide hS11
                replace hd11 := hide hd11
                clear hm11
                go_wp2_with fail
                refine ho.mono ?_
                rintro e w12 ⟨lc, v12, S12, rfl, hl12, hx12, -, hlc, hm12⟩
                clear ho
                have z13' := hm12.1.size
                have hB12 := below_mv hB11.out hm12 hB11.out.size fun k hk => by have := hd11.out.ge hk; omega
                have ha12 := ha11.out.upd hm12.1 hS11.out
                have hn12 := hn11.out.upd hm12.1 hS11.out
                have hS12 : ∀ k, T9 k → ¬ OL S12 lc k := fun k hk h => by
                  have := hTo9.out k hk
                  rcases h with h | h
                  · rcases hm12.2 k h with h | h
                    · exact hS11.out k hk h
                    · omega
                  · omega
                have hx := hx12.recsW
                have hsm := same_any hx ha12.recsW
                obtain ⟨A12, c12, rfl, -⟩ := hx12.slice
                replace hB12 := hide hB12
                replace ha12 := hide ha12
                replace hn12 := hide hn12
                replace hS12 := hide hS12
                replace hx := hide hx
                replace hl12 := hide hl12
                clear hm12 hx12
                by_cases hre : r = rs
                · rw [decide_eq_true hre] at hsm
                  replace hre := hide hre
                  replace hor := hide hor
                  go_wp2_with fail
                  refine hsm.mono ?_
                  rintro e w13 ⟨rfl, hb13⟩
                  clear hsm
                  have hU13 := Upd.of_below (fun _ => False) hb13
                  have z14 := hb13.size
                  have hB13 := hB12.out.trans (hb13.mono hB12.out.size)
                  have hl13 := hl12.out.upd hU13 fun _ _ => id
                  have ha13 := ha12.out.upd hU13 fun _ _ => id
                  have hTo13 : ∀ k, T9 k → k < w13.heap.size := fun k hk => by have := hTo9.out k hk; omega
                  replace hB13 := hide hB13
                  replace hl13 := hide hl13
                  replace ha13 := hide ha13
                  replace hTo13 := hide hTo13
                  clear hU13 hb13
                  go_wp2_with fail
                  go_roundw
                  case rel => exact ⟨k + 1, lc, S12, T9, rs, by omega, rfl, by go_num, hB13.out, by rw [← hre.out]; exact hl13.out, ha13.out, hS12.out, hTo13.out, by omega, by omega⟩
                  case measure => simp [intOf]; omega
                · rw [decide_eq_false hre] at hsm
                  have hrn := hor.resolve_left hre
                  replace hre := hide hre
                  replace hor := hide hor
                  replace hrn := hide hrn
                  go_wp2_with fail
                  refine hsm.mono ?_
                  rintro e w13 ⟨rfl, hb13⟩
                  clear hsm
                  have hU13 := Upd.of_below (fun _ => False) hb13
                  have z14 := hb13.size
                  have hB13 := hB12.out.trans (hb13.mono hB12.out.size)
                  have hl13 := hl12.out.upd hU13 fun _ _ => id
                  have hn13 := hn12.out.upd hU13 fun _ _ => id
                  have hsm := same_any (hx.out.upd hU13 fun _ _ => id) hn13.recsW
                  rw [decide_eq_true hrn.out] at hsm
                  replace hB13 := hide hB13
                  replace hl13 := hide hl13
                  replace hn13 := hide hn13
                  clear hU13 hb13
                  go_wp2_with fail
                  refine hsm.mono ?_
                  rintro e w14 ⟨rfl, hb14⟩
                  clear hsm
                  have hU14 := Upd.of_below (fun _ => False) hb14
                  have z15 := hb14.size
                  have hB14 := hB13.out.trans (hb14.mono hB13.out.size)
                  have hl14 := hl13.out.upd hU14 fun _ _ => id
                  have hn14 := hn13.out.upd hU14 fun _ _ => id
                  have hTo14 : ∀ k, T9 k → k < w14.heap.size := fun k hk => by have := hTo9.out k hk; omega
                  replace hB14 := hide hB14
                  replace hl14 := hide hl14
                  replace hn14 := hide hn14
                  replace hTo14 := hide hTo14
                  clear hU14 hb14
                  go_wp2_with fail
                  go_roundw
                  case rel => exact ⟨k + 1, lc, S12, T9, (rs ++ L), by omega, rfl, by go_num, hB14.out, by rw [← hrn.out]; exact hl14.out, hn14.out, hS12.out, hTo14.out, by omega, by rw [List.length_append]; have := hm.out; have := hbl.out; omega⟩
                  case measure => simp [intOf]; omega
          · have hcm := full_p hl9.out hb9.out (by have := hm.out; have := hbl.out; omega) hbs.out (by rw [← hf1.out]; omega) (by rw [← hf1.out, ← hf0.out, ← hC.out]; omega)
            refine hcm.mono ?_
            rintro e w10 ⟨rfl, hb10⟩
            clear hcm
            have hB10 := hide (hB9.out.trans (hb10.mono hB9.out.size))
            clear hb10
            go_wp2_with fail
            go_ret
            exact ⟨rfl, hB10.out⟩
    · obtain rfl : k = qs.length := by omega
      have hcr := crash_dkP hl.out.dk (by omega) 0 0 (by omega)
      go_wp2_with fail
      refine hcr.mono ?_
      rintro e w11 ⟨rfl, S11, hd11, hm11⟩
      clear hcr
      have z11 := hm11.1.size
      have hB11 := below_mv hb.out hm11 zr fun k hk => by have := hl.out.ge (.inl hk); omega
      have ha11 := hr.out.upd hm11.1 fun k hk h => hTS.out k hk (.inl h)
      have hS11 : ∀ k, T k → ¬ S11 k := fun k hk h => (hm11.2 k h).elim (fun h => hTS.out k hk (.inl h)) fun h => by have := hTo.out k hk; omega
      have ho := open_onP hd11 (by omega) (by omega) (hT0.out.below hz hB11)
      replace hB11 := hide hB11
      replace ha11 := hide ha11
      replace hS11 := hide hS11
      replace hd11 := hide hd11
      clear hm11
      go_wp2_with fail
      refine ho.mono ?_
      rintro e w12 ⟨lc, v12, S12, rfl, -, hx12, -, hlc, hm12⟩
      clear ho
      have hB12 := below_mv hB11.out hm12 hB11.out.size fun k hk => by have := hd11.out.ge hk; omega
      have ha12 := ha11.out.upd hm12.1 hS11.out
      have hsm := same_any hx12.recsW ha12.recsW
      rw [decide_eq_true rfl] at hsm
      obtain ⟨A12, c12, rfl, -⟩ := hx12.slice
      replace hB12 := hide hB12
      clear hm12 hx12 ha12
      go_wp2_with fail
      refine hsm.mono ?_
      rintro e w13 ⟨rfl, hb13⟩
      have hB13 := hide (hB12.out.trans (hb13.mono hB12.out.size))
      clear hsm hb13
      go_wp2_with fail
      go_ret
      exact ⟨rfl, hB13.out⟩
theorem falls_int {u0 : World} {v1 v2 v3 : Value} {n : Int} {qs : List ActQ} {cs : List UInt8} {ks : List Nat} (hn : 0 ≤ n ∧ n ≤ 255) (h1 : ActsV u0 u0.heap.size v1 qs) (h2 : BytesV u0 u0.heap.size v2 cs) (h3 : ArgV u0 (· < u0.heap.size) v3 (ks.map fun n : Nat => .int .u64 n)) (hks : ∀ n ∈ ks, n < 18446744073709551616) (hT : Tab u0) (hz : 1 ≤ u0.heap.size) :
    Calls Tryd.prog 4 #[.int .u8 n, v1, v2, v3] u0 fun e w' => e = .returned (.bool true) ∧ Below u0.heap.size u0 w' := by
  obtain ⟨k, rfl⟩ : ∃ k : Nat, n = k := ⟨n.toNat, by omega⟩
  exact falls_any (by omega) h1 h2 h3 hks hT hz
end Go.Proofs.YtimblkkojcbipaaDoor
