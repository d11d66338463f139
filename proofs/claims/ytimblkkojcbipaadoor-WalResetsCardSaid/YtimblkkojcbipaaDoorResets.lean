/- The walk of WalResets. -/
import Derived.Test.YtimblkkojcbipaaDoorLawMem
namespace Go.Proofs.YtimblkkojcbipaaDoor
open Go Go.RowKit
set_option maxRecDepth 100000 in
set_option maxHeartbeats 1000000 in
theorem resets_any {w : World} {v1 : Value} {n : Nat} {l1 : List UInt8} (hn : n < 256) (h1 : BytesV w w.heap.size v1 l1) (hT : Tab w) (hz : 1 ≤ w.heap.size) :
    Calls Tryd.prog 8 #[.int .u8 n, v1] w fun e w' => e = .returned (.bool true) ∧ Below w.heap.size w w' := by
  have hk := known4 hT hz
  have a1 := h1.arg
  obtain ⟨A1, c1, rfl, m1, m1', -⟩ := h1
  have m1' : c1 ≤ 9223372036854775807 := by unfold maxLen at m1'; exact m1'
  have hT0 := hide hT
  replace a1 := hide a1
  clear hT
  obtain ⟨q, hq⟩ : ∃ q, q = n % 40 := ⟨_, rfl⟩
  have hq2 : (n : Int) % 40 = (q : Nat) := by omega
  have hq3 : q < 40 := by omega
  replace hq := hide hq
  go_enter Tryd.func8, Tryd.ntmps8
  go_wp2_with fail
  refine hk.mono ?_
  rintro e w1 ⟨rfl, hb1⟩
  replace hb1 := hide hb1
  clear hk
  by_cases q1 : 6 < l1.length
  · go_wp2_with fail
    go_ret
    exact ⟨rfl, hb1.out⟩
  have z1 := hb1.out.size
  have hn1 := new_dk w1 80 (by decide) (by decide)
  go_wp2_with fail
  refine hn1.mono ?_
  rintro e w2 ⟨sb, S2, rfl, hd2, hb12⟩
  have z12 := hb12.size
  have hb2 := hb1.out.trans (hb12.mono z1)
  have hT2 := hT0.out.below hz hb2
  have z2 := hb2.size
  have ho2 := open_dk hd2 (by omega) z12 hT2
  replace hb2 := hide hb2
  replace hd2 := hide hd2
  clear hn1 hb12 hT2
  go_wp2_with fail
  refine ho2.mono ?_
  rintro e w3 ⟨lb, v, S3, rfl, hl3, -, -, hlb, hm3⟩
  have hb3 := below_mv hb2.out hm3 z2 fun k hk => Nat.le_trans z1 (hd2.out.ge hk)
  have z3 := hb3.size
  have z13 : w1.heap.size ≤ w3.heap.size := Nat.le_trans z12 hm3.1.size
  have hba := batch_any (a1.out.upd (Upd.of_below (fun _ => False) hb3) fun _ _ => id) 2 (by omega) (by omega)
  replace hb3 := hide hb3
  replace hl3 := hide hl3
  clear ho2 hd2 hm3
  go_wp2_with fail
  refine hba.mono ?_
  rintro e w4 ⟨v4, rfl, hv4, hb34⟩
  clear hba
  have z34 := hb34.size
  have hb4 := hb3.out.trans (hb34.mono z3)
  have hl4 := hl3.out.upd (Upd.of_below (fun _ => False) hb34) fun _ _ => id
  have hbf := batch_frames 2 l1
  have hbs := batch_short 2 l1
  have hbl := batchL_len 2 l1 l1.length
  obtain ⟨L, hL⟩ : ∃ L, L = batchL 2 l1 l1.length := ⟨_, rfl⟩
  rw [← hL] at hbf hbs hbl hv4
  obtain ⟨A4, c4, rfl, hc4⟩ := hv4.len
  unfold maxLen at hc4
  have hr4 := hv4.recsV
  rw [hbl] at hr4 ⊢
  obtain ⟨T, hTT⟩ : ∃ T : Nat → Prop, T = fun k => w3.heap.size ≤ k ∧ k < w4.heap.size := ⟨_, rfl⟩
  rw [← hTT] at hr4
  have hTd : ∀ k, T k → ¬ OL S3 lb k := fun k hk h => by rw [hTT] at hk; have := hl3.out.old h; omega
  have hTo : ∀ k, T k → k < w4.heap.size := fun k hk => by rw [hTT] at hk; exact hk.2
  replace hTT := hide hTT
  replace hb4 := hide hb4
  replace hl4 := hide hl4
  replace hr4 := hide hr4
  replace hTd := hide hTd
  replace hTo := hide hTo
  replace hbs := hide hbs
  replace hL := hide hL
  replace hbl := hide hbl
  clear hv4 hb34
  go_wp2_with fail
  go_loopw [10] (fun i wr => ∃ (k : Nat) (S : Nat → Prop) (rs : List (List UInt8)), k ≤ q + 1 ∧ i = .int .i64 k ∧ Below w.heap.size w wr ∧ LgC 80 wr w1.heap.size sb lb S rs ∧ (rs = [] ∨ rs = L) ∧ (0 < k → rs = L) ∧ RecsV wr T (.slice A4 l1.length c4) L ∧ (∀ k, T k → ¬ OL S lb k) ∧ w4.heap.size ≤ wr.heap.size) (fun i _ => q + 1 - (intOf i).toNat)
  case atStart => exact ⟨0, S3, [], Nat.zero_le _, rfl, hb4.out, hl4.out, .inl rfl, fun h => by omega, hr4.out, hTd.out, Nat.le_refl _⟩
  case round =>
    clear hb4 hl4 hr4
    obtain ⟨k, S, rs, hk, rfl, hb, hl, hrs, hrk, hr, hTS, hzz⟩ := hrel
    have zr := hb.size
    replace hb := hide hb
    replace hl := hide hl
    replace hrs := hide hrs
    replace hrk := hide hrk
    replace hr := hide hr
    replace hTS := hide hTS
    rcases Nat.lt_or_ge k (q + 1) with hlt | hge
    · go_wp2_with fail
      obtain ⟨w5, hw5⟩ : ∃ w5, w5 = wr.alloc (.cells #[.int .u8 255, .int .u8 255, .int .u8 255] 5) := ⟨_, rfl⟩
      have hU5 : Upd (fun _ => False) wr w5 := by rw [hw5]; exact .alloc _ _ _
      have ha5 : ArgV w5 (fun _ => True) (.slice (some ⟨wr.heap.size, 0, none⟩) 3 3) (bv [255, 255, 255]) := by rw [hw5]; exact arg_row (heap_new _ _) trivial rfl rfl (by unfold maxLen; simp)
      have hba := batch_any ha5 k (by omega) (by decide)
      have z5 := hU5.size
      rw [← hw5]
      replace hU5 := hide hU5
      clear hw5 ha5
      refine hba.mono ?_
      rintro e w6 ⟨v6, rfl, hv6, hb6⟩
      clear hba
      have hU6 := hU5.out.then (Upd.of_below (fun _ => False) hb6)
      have z6 := hU6.size
      have hl6 := hl.out.upd hU6 fun _ _ => id
      have hB6 := hb.out.trans (hU6.below zr fun _ h => h.elim)
      have hff : (frames rs).length ≤ 1578 := by
        rcases hrs.out with h | h
        · rw [h]; exact Nat.zero_le _
        · rw [h]; omega
      have hc6 := commit_lg hl6 (by omega) (hT0.out.below hz hB6) hv6.recsV (fun k hk h => by have := hl.out.old h; omega) (by rw [batchL_len]; decide) (batch_short k [255, 255, 255]) (by
        have h1 := batch_frames k [255, 255, 255]
        have e1 : capC 80 = 9728 := by decide
        have e2 : [(255 : UInt8), 255, 255].length = 3 := rfl
        omega)
      have hr6 := hr.out.upd hU6 fun _ _ => id
      replace hr6 := hide hr6
      replace hl6 := hide hl6
      replace hB6 := hide hB6
      clear hv6 hb6 hU6 hU5
      go_wp2_with fail
      refine hc6.mono ?_
      rintro e w7 ⟨rfl, S7, hl7, hm7⟩
      clear hc6
      have hB7 := below_mv hB6.out hm7 hB6.out.size fun k hk => Nat.le_trans z1 (hl6.out.ge hk)
      have hr7 := hr6.out.upd hm7.1 hTS.out
      have hTS7 : ∀ k, T k → ¬ OL S7 lb k := fun k hk h => (hm7.2 k h).elim (hTS.out k hk) fun h => by have := hTo.out k hk; omega
      have hc7 := reset_lg hl7 (by omega) (hT0.out.below hz hB7) hr7 hTS7 (by have := hbl.out; omega) hbs.out (by have e1 : capC 80 = 9728 := (by decide); omega)
      have z7 := hm7.1.size
      replace hl7 := hide hl7
      replace hr7 := hide hr7
      replace hB7 := hide hB7
      replace hTS7 := hide hTS7
      clear hm7
      go_wp2_with fail
      refine hc7.mono ?_
      rintro e w8 ⟨rfl, S8, hl8, hm8⟩
      clear hc7
      have hB8 := below_mv hB7.out hm8 hB7.out.size fun k hk => Nat.le_trans z1 (hl7.out.ge hk)
      have hr8 := hr7.out.upd hm8.1 hTS7.out
      have hTS8 : ∀ k, T k → ¬ OL S8 lb k := fun k hk h => (hm8.2 k h).elim (hTS7.out k hk) fun h => by have := hTo.out k hk; omega
      have hcn := count_lg hl8
      rw [hbl.out] at hcn
      have z8 := hm8.1.size
      replace hl8 := hide hl8
      replace hr8 := hide hr8
      replace hB8 := hide hB8
      replace hTS8 := hide hTS8
      clear hm8
      go_wp2_with fail
      refine hcn.mono ?_
      rintro e w9 ⟨rfl, rfl⟩
      clear hcn
      go_wp2_with fail
      go_roundw
      case rel => exact ⟨k + 1, S8, L, by omega, by go_num, hB8.out, hl8.out, .inr rfl, fun _ => rfl, hr8.out, hTS8.out, by omega⟩
      case measure => simp [intOf]; omega
    · obtain rfl : k = q + 1 := by omega
      obtain rfl : rs = L := hrk.out (by omega)
      have ho := open_dk hl.out.dk (by omega) (by omega) (hT0.out.below hz hb.out)
      go_wp2_with fail
      refine ho.mono ?_
      rintro e w5 ⟨lm, v5, S5, rfl, hl5, hr5, -, -, hm5⟩
      clear ho
      have hB5 := below_mv hb.out hm5 zr fun k hk => Nat.le_trans z1 (hl.out.ge (.inl hk))
      have hr45 := hr.out.upd hm5.1 fun k hk h => hTS.out k hk (.inl h)
      obtain ⟨A5, c5, rfl, -⟩ := hr5.slice
      have hsm := same_any hr5.recsW hr45.recsW
      rw [decide_eq_true rfl] at hsm
      have z5 := hB5.size
      replace hB5 := hide hB5
      clear hl5 hm5 hr5 hr45
      go_wp2_with fail
      refine hsm.mono ?_
      rintro e w6 ⟨rfl, hb6⟩
      have hB6 := hide (hB5.out.trans (hb6.mono z5))
      clear hsm hb6
      go_wp2_with fail
      go_ret
      exact ⟨rfl, hB6.out⟩
theorem resets_int {w : World} {v1 : Value} {n : Int} {l1 : List UInt8} (hn : 0 ≤ n ∧ n ≤ 255) (h1 : BytesV w w.heap.size v1 l1) (hT : Tab w) (hz : 1 ≤ w.heap.size) :
    Calls Tryd.prog 8 #[.int .u8 n, v1] w fun e w' => e = .returned (.bool true) ∧ Below w.heap.size w w' := by
  obtain ⟨k, rfl⟩ : ∃ k : Nat, n = k := ⟨n.toNat, by omega⟩
  exact resets_any (by omega) h1 hT hz
end Go.Proofs.YtimblkkojcbipaaDoor
