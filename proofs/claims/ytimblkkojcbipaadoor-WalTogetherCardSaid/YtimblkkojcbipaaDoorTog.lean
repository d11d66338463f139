/- The walk of WalTogether. -/
import Derived.Test.YtimblkkojcbipaaDoorLawMem
namespace Go.Proofs.YtimblkkojcbipaaDoor
open Go Go.RowKit
theorem RecsV.cut {w : World} {T : Nat → Prop} {A : Option Addr} {N c : Nat} {rs : List (List UInt8)} (h : RecsV w T (.slice A N c) rs) (k m : Nat) (hm : k + m ≤ rs.length) : RecsV w T (.slice (A.map fun x => x.add k) m (c - k)) ((rs.drop k).take m) := by
  obtain ⟨vs, h1, h2, h3⟩ := h
  have hl : ((vs.drop k).take m).length = m := by rw [List.length_take, List.length_drop]; omega
  have hg : ∀ i u, ((vs.drop k).take m)[i]? = some u → vs[k + i]? = some u := fun i u hi => by
    have hi' : i < m := by
      rcases Nat.lt_or_ge i m with h | h
      · exact h
      · rw [List.getElem?_eq_none (by omega)] at hi; cases hi
    rwa [List.getElem?_take_of_lt hi', List.getElem?_drop] at hi
  refine ⟨(vs.drop k).take m, by rw [hl, List.length_take, List.length_drop]; omega, ?_, fun i u r hi hr => ?_⟩
  · have hb := h2
    obtain ⟨A', c', e, h4, h5, h6⟩ := h2
    injection e with e1 e2 e3
    subst e1 e3
    refine ⟨_, _, by rw [hl], by rw [hl]; omega, by omega, ?_⟩
    rcases h6 with h6 | ⟨b, o, rfl, hb, hc⟩
    · exact .inl (List.eq_nil_of_length_eq_zero (by rw [hl]; rw [h6] at h1; simp at h1; omega))
    · refine .inr ⟨b, o + k, (by simp [Addr.add]), hb, fun i u hi => ?_⟩
      rw [Nat.add_assoc]
      exact hc _ _ (hg i u hi)
  · have hi' : i < m := by
      rcases Nat.lt_or_ge i m with h | h
      · exact h
      · rw [List.getElem?_eq_none (by omega)] at hi; cases hi
    refine h3 (k + i) u r (hg i u hi) ?_
    rwa [List.getElem?_take_of_lt hi', List.getElem?_drop] at hr
theorem frames_take_le (rs : List (List UInt8)) (a b : Nat) : (frames (rs.take a)).length + (frames ((rs.drop a).take b)).length ≤ (frames rs).length := by
  conv => rhs; rw [← List.take_append_drop a rs, ← List.take_append_drop b (rs.drop a)]
  rw [frames_append, frames_append, List.length_append, List.length_append]
  omega
set_option maxRecDepth 100000 in
set_option maxHeartbeats 1000000 in
theorem tog_any {w : World} {v0 v1 : Value} {l0 l1 : List UInt8} (h0 : BytesV w w.heap.size v0 l0) (h1 : BytesV w w.heap.size v1 l1) (hT : Tab w) (hz : 1 ≤ w.heap.size) :
    Calls Tryd.prog 7 #[v0, v1] w fun e w' => e = .returned (.bool true) ∧ Below w.heap.size w w' := by
  have hk := known4 hT hz
  have a0 := h0.arg
  have a1 := h1.arg
  obtain ⟨A0, c0, rfl, m0, m0', -⟩ := h0
  obtain ⟨A1, c1, rfl, m1, m1', -⟩ := h1
  have m0' : c0 ≤ 9223372036854775807 := by unfold maxLen at m0'; exact m0'
  have m1' : c1 ≤ 9223372036854775807 := by unfold maxLen at m1'; exact m1'
  have hT0 := hide hT
  replace a0 := hide a0
  replace a1 := hide a1
  clear hT
  go_enter Tryd.func7, Tryd.ntmps7
  go_wp2_with fail
  refine hk.mono ?_
  rintro e w1 ⟨rfl, hb1⟩
  replace hb1 := hide hb1
  clear hk
  by_cases q1 : 12 < l0.length
  · go_wp2_with fail
    go_ret
    exact ⟨rfl, hb1.out⟩
  by_cases q2 : l1.length < l0.length
  · go_wp2_with fail
    go_ret
    exact ⟨rfl, hb1.out⟩
  have z1 := hb1.out.size
  have hn1 := new_dk w1 200 (by decide) (by decide)
  go_wp2_with fail
  refine hn1.mono ?_
  rintro e w2 ⟨sa, S2, rfl, hd2, hb12⟩
  have z12 := hb12.size
  have hb2 := hb1.out.trans (hb12.mono z1)
  have hn2 := new_dk w2 200 (by decide) (by decide)
  replace hb2 := hide hb2
  replace hd2 := hide hd2
  clear hn1 hb12
  go_wp2_with fail
  refine hn2.mono ?_
  rintro e w3 ⟨sb, Q3, rfl, he3, hb23⟩
  have z23 := hb23.size
  have hU23 := Upd.of_below (fun _ => False) hb23
  have hb3 := hb2.out.trans (hb23.mono (by omega))
  have hd3 := hd2.out.upd hU23 fun _ _ => id
  have dj3 : ∀ k, S2 k → ¬ Q3 k := fun k h h' => by have := hd2.out.old h; have := he3.ge h'; omega
  have ho3 := open_dk hd3 (by omega) (by omega) (hT0.out.below hz hb3)
  replace hb3 := hide hb3
  replace hd3 := hide hd3
  replace he3 := hide he3
  replace dj3 := hide dj3
  clear hn2 hb23 hU23 hd2
  go_wp2_with fail
  refine ho3.mono ?_
  rintro e w4 ⟨la, va, S4, rfl, hl4, -, -, hla, hm4⟩
  have z34 := hm4.1.size
  have hb4 := below_mv hb3.out hm4 (by omega) fun k hk => Nat.le_trans z1 (hd3.out.ge hk)
  have he4 := he3.out.upd hm4.1 fun k h h' => dj3.out k h' h
  have dj4 : ∀ k, OL S4 la k → ¬ Q3 k := fun k h h' => by
    have := he3.out.old h'
    rcases h with h | rfl
    · rcases hm4.2 k h with h | h
      · exact dj3.out k h h'
      · omega
    · omega
  have ho4 := open_dk he4 (by omega) (by omega) (hT0.out.below hz hb4)
  replace hb4 := hide hb4
  replace hl4 := hide hl4
  replace he4 := hide he4
  replace dj4 := hide dj4
  clear ho3 hd3 hm4 he3 dj3
  go_wp2_with fail
  refine ho4.mono ?_
  rintro e w5 ⟨lb, vb, Q5, rfl, hr5, -, -, hlb, hm5⟩
  have z45 := hm5.1.size
  have hb5 := below_mv hb4.out hm5 (by omega) fun k hk => by have := he4.out.ge hk; omega
  have hl5 := hl4.out.upd hm5.1 dj4.out
  have dj5 : ∀ k, OL S4 la k → ¬ OL Q5 lb k := fun k h h' => by
    have := hl4.out.old h
    rcases h' with h' | rfl
    · rcases hm5.2 k h' with h' | h'
      · exact dj4.out k h h'
      · omega
    · omega
  have z5 := hb5.size
  have hba := batch_any (a0.out.upd (Upd.of_below (fun _ => False) hb5) fun _ _ => id) 5 (by omega) (by omega)
  replace hb5 := hide hb5
  replace hl5 := hide hl5
  replace hr5 := hide hr5
  replace dj5 := hide dj5
  clear ho4 he4 hm5 hl4 dj4
  go_wp2_with fail
  refine hba.mono ?_
  rintro e w6 ⟨v6, rfl, hv6, hb56⟩
  clear hba
  have z56 := hb56.size
  have hU56 := Upd.of_below (fun _ => False) hb56
  have hb6 := hb5.out.trans (hb56.mono z5)
  have hl6 := hl5.out.upd hU56 fun _ _ => id
  have hr6 := hr5.out.upd hU56 fun _ _ => id
  have hbf := batch_frames 5 l0
  have hbs := batch_short 5 l0
  have hbl := batchL_len 5 l0 l0.length
  obtain ⟨L, hL⟩ : ∃ L, L = batchL 5 l0 l0.length := ⟨_, rfl⟩
  rw [← hL] at hbf hbs hbl hv6
  obtain ⟨A6, c6, rfl, hc6⟩ := hv6.len
  have hc6' : c6 ≤ 9223372036854775807 := by unfold maxLen at hc6; exact hc6
  have hrv6 := hv6.recsV
  rw [hbl] at hrv6 ⊢
  obtain ⟨T, hTT⟩ : ∃ T : Nat → Prop, T = fun k => w5.heap.size ≤ k ∧ k < w6.heap.size := ⟨_, rfl⟩
  rw [← hTT] at hrv6
  have hTa : ∀ k, T k → ¬ OL S4 la k := fun k hk h => by rw [hTT] at hk; have := hl5.out.old h; omega
  have hTb : ∀ k, T k → ¬ OL Q5 lb k := fun k hk h => by rw [hTT] at hk; have := hr5.out.old h; omega
  have hTo : ∀ k, T k → k < w6.heap.size := fun k hk => by rw [hTT] at hk; exact hk.2
  have e200 : capC 200 = 25088 := by decide
  have e0 : (frames ([] : List (List UInt8))).length = 0 := rfl
  have hcm := commit_lg hl6 (by omega) (hT0.out.below hz hb6) hrv6 hTa (by omega) hbs (by omega)
  replace hTT := hide hTT
  replace hb6 := hide hb6
  replace hl6 := hide hl6
  replace hr6 := hide hr6
  replace hrv6 := hide hrv6
  replace hTa := hide hTa
  replace hTb := hide hTb
  replace hTo := hide hTo
  replace hbs := hide hbs
  replace hbl := hide hbl
  replace hL := hide hL
  replace e0 := hide e0
  clear hv6 hb56 hU56 hl5 hr5 hb5 hc6
  go_wp2_with fail
  refine hcm.mono ?_
  rintro e w7 ⟨rfl, S7, hl7, hm7⟩
  rw [List.nil_append] at hl7
  clear hcm
  have z7 := hm7.1.size
  have hb7 := below_mv hb6.out hm7 hb6.out.size fun k hk => by have := hl6.out.ge hk; omega
  have hrv7 := hrv6.out.upd hm7.1 hTa.out
  have hr7 := hr6.out.upd hm7.1 fun k h h' => dj5.out k h' h
  have dj7 : ∀ k, OL S7 la k → ¬ OL Q5 lb k := fun k h h' => by
    have := hr6.out.old h'
    rcases hm7.2 k h with h | h
    · exact dj5.out k h h'
    · omega
  have hTa7 : ∀ k, T k → ¬ OL S7 la k := fun k hk h => (hm7.2 k h).elim (hTa.out k hk) fun h => by have := hTo.out k hk; omega
  have hnil : RecsV w7 (fun _ => False) (.slice none 0 0) [] := ⟨[], rfl, ⟨none, 0, rfl, Nat.le_refl _, Nat.zero_le _, .inl rfl⟩, fun i u r hi => by simp at hi⟩
  have hcm := commit_lg hl7 (by omega) (hT0.out.below hz hb7) hnil (fun _ h => h.elim) (by simp) (fun r hr => by cases hr) (by have := e0.out; omega)
  replace hb7 := hide hb7
  replace hl7 := hide hl7
  replace hr7 := hide hr7
  replace hrv7 := hide hrv7
  replace hTa7 := hide hTa7
  replace dj7 := hide dj7
  clear hm7 hl6 hr6 hb6 hTa dj5 hrv6 hnil
  go_wp2_with fail
  refine hcm.mono ?_
  rintro e w8 ⟨rfl, S8, hl8, hm8⟩
  rw [List.append_nil] at hl8
  clear hcm
  have z8 := hm8.1.size
  have hb8 := below_mv hb7.out hm8 hb7.out.size fun k hk => by have := hl7.out.ge hk; omega
  have hrv8 := hrv7.out.upd hm8.1 hTa7.out
  have hr8 := hr7.out.upd hm8.1 fun k h h' => dj7.out k h' h
  have dj8 : ∀ k, OL S8 la k → ¬ OL Q5 lb k := fun k h h' => by
    have := hr7.out.old h'
    rcases hm8.2 k h with h | h
    · exact dj7.out k h h'
    · omega
  have hTa8 : ∀ k, T k → ¬ OL S8 la k := fun k hk h => (hm8.2 k h).elim (hTa7.out k hk) fun h => by have := hTo.out k hk; omega
  replace hb8 := hide hb8
  replace hl8 := hide hl8
  replace hr8 := hide hr8
  replace hrv8 := hide hrv8
  replace hTa8 := hide hTa8
  replace dj8 := hide dj8
  clear hm8 hl7 hr7 hb7 hTa7 dj7 hrv7
  have z0 : w2.heap.size ≤ w8.heap.size := by omega
  have z6 : w6.heap.size ≤ w8.heap.size := by omega
  go_wp2_with fail
  go_loopw [14, 15] (fun i _ wr => ∃ (k : Nat) (Q : Nat → Prop), k ≤ l0.length ∧ i = .int .i64 k ∧ Below w.heap.size w wr ∧ LgC 200 wr w1.heap.size sa la S8 L ∧ LgC 200 wr w2.heap.size sb lb Q (L.take k) ∧ RecsV wr T (.slice A6 l0.length c6) L ∧ (∀ k, OL S8 la k → ¬ OL Q lb k) ∧ (∀ k, T k → ¬ OL Q lb k) ∧ w8.heap.size ≤ wr.heap.size) (fun i _ _ => l0.length - (intOf i).toNat)
  case atStart => exact ⟨0, Q5, Nat.zero_le _, rfl, hb8.out, hl8.out, hr8.out, hrv8.out, dj8.out, hTb.out, Nat.le_refl _⟩
  case round =>
    clear hb8 hl8 hr8 hrv8
    obtain ⟨k, Q, hk, rfl, hb, hl, hr, hrv, dj, hTQ, hzz⟩ := hrel
    have zr := hb.size
    replace hb := hide hb
    replace hl := hide hl
    replace hr := hide hr
    replace hrv := hide hrv
    replace dj := hide dj
    replace hTQ := hide hTQ
    rcases Nat.lt_or_ge k l0.length with hlt | hge
    · obtain ⟨b, o, rfl, hkb, hcell⟩ := (a1.out.upd (Upd.of_below (fun _ => False) hb.out) fun _ _ => id).get (i := k) (u := .int .u8 (l1[k]'(by omega)).toNat) (bv_get (by omega))
      obtain ⟨p, hp⟩ : ∃ p, p = (l1[k]'(by omega)).toNat := ⟨_, rfl⟩
      have hp2 : p < 256 := by rw [hp]; exact UInt8.toNat_lt _
      rw [← hp] at hcell
      obtain ⟨m, hm⟩ : ∃ m, m = p % 3 := ⟨_, rfl⟩
      have hm2 : (p : Int) % 3 = (m : Nat) := by omega
      have hm3 : m < 3 := by omega
      replace hp := hide hp
      replace hm := hide hm
      have hc6l : l0.length ≤ c6 := by
        obtain ⟨vs, r1, ⟨A', c', r2, r3, -⟩, -⟩ := hrv.out
        injection r2 with _ r4 r5
        omega
      have hcommit : ∀ m', k + m' ≤ l0.length → Calls Tryd.prog 18 #[.pointer (some ⟨lb, 0, none⟩), .slice (A6.map fun x => x.add k) m' (c6 - k)] wr fun e w' => e = .returned (.int .i64 0) ∧ ∃ Q', LgC 200 w' w2.heap.size sb lb Q' (L.take (k + m')) ∧ LgC 200 w' w1.heap.size sa la S8 L ∧ RecsV w' T (.slice A6 l0.length c6) L ∧ (∀ k, OL S8 la k → ¬ OL Q' lb k) ∧ (∀ k, T k → ¬ OL Q' lb k) ∧ w8.heap.size ≤ w'.heap.size ∧ Below w.heap.size w w' := by
        intro m' hm'
        have hbl' := hbl.out
        refine (commit_lg hr.out (by omega) (hT0.out.below hz hb.out) (hrv.out.cut k m' (by omega)) hTQ.out (by rw [List.length_take]; omega) (fun r hr => hbs.out r (List.mem_of_mem_drop (List.mem_of_mem_take hr))) (by have := frames_take_le L k m'; omega)).mono ?_
        rintro e w' ⟨he, Q', h1, h2⟩
        rw [← List.take_add] at h1
        refine ⟨he, Q', h1, hl.out.upd h2.1 dj.out, hrv.out.upd h2.1 hTQ.out, fun k h h' => ?_, fun k h h' => ?_, Nat.le_trans hzz h2.1.size, below_mv hb.out h2 zr fun k hk => by have := hr.out.ge hk; omega⟩
        · rcases h2.2 k h' with h' | h'
          · exact dj.out k h h'
          · have := hl.out.old h; omega
        · rcases h2.2 k h' with h' | h'
          · exact hTQ.out k h h'
          · have := hTo.out k h; omega
      replace hcommit := hide hcommit
      by_cases hmin : (l0.length : Int) - k < 1 + m
      · go_wp2_with fail
        refine (hcommit.out (l0.length - k) (by omega)).mono ?_
        rintro e w9 ⟨rfl, Q9, g1, g2, g3, g4, g5, g6, g7⟩
        replace g1 := hide g1
        replace g2 := hide g2
        replace g3 := hide g3
        replace g4 := hide g4
        replace g5 := hide g5
        replace g7 := hide g7
        go_wp2_with fail
        go_roundw
        case rel => exact ⟨k + (l0.length - k), Q9, by omega, by go_num, g7.out, g2.out, g1.out, g3.out, g4.out, g5.out, g6⟩
        case measure => simp [intOf]; omega
      · have hmin2 : (k : Int) + (1 + m) ≤ l0.length := by omega
        have hmin3 : (k : Int) + (1 + m) ≤ c6 := by omega
        have hmin4 : k + (1 + m) ≤ l0.length := by omega
        go_wp2_with fail
        refine (hcommit.out (1 + m) (by omega)).mono ?_
        rintro e w9 ⟨rfl, Q9, g1, g2, g3, g4, g5, g6, g7⟩
        replace g1 := hide g1
        replace g2 := hide g2
        replace g3 := hide g3
        replace g4 := hide g4
        replace g5 := hide g5
        replace g7 := hide g7
        go_wp2_with fail
        go_roundw
        case rel => exact ⟨k + (1 + m), Q9, by omega, by go_num, g7.out, g2.out, g1.out, g3.out, g4.out, g5.out, g6⟩
        case measure => simp [intOf]; omega
    · obtain rfl : k = l0.length := by omega
      have hbl' := hbl.out
      rw [List.take_of_length_le (by omega)] at hr
      have ho := open_dk hl.out.dk (by omega) (by omega) (hT0.out.below hz hb.out)
      clear hge hbl'
      go_wp2_with fail
      refine ho.mono ?_
      rintro e w9 ⟨lc, v9, S9, rfl, hl9, hx9, -, hlc, hm9⟩
      clear ho
      have z9 := hm9.1.size
      have hb9 := below_mv hb.out hm9 zr fun k hk => by have := hl.out.ge (.inl hk); omega
      have hr9 := hr.out.upd hm9.1 fun k h h' => dj.out k (.inl h') h
      have hv9 := hrv.out.upd hm9.1 fun k h h' => by have := hTo.out k h; exact (hTa8.out k h) (.inl h')
      have hc9 := hl.out.cnt.upd hm9.1 hl.out.nlb
      have hla9 := hl.out.old (k := la) (.inr rfl)
      have djq : ∀ k, Q k → k < wr.heap.size := fun k h => hr.out.old (.inl h)
      have djl : ¬ Q la := fun h => dj.out la (.inr rfl) (.inl h)
      have hTQ9 : ∀ k, T k → ¬ Q k := fun k h h' => hTQ.out k h (.inl h')
      have hx9b := hx9.recsW
      have ho := open_dk hr9.dk (by omega) (by omega) (hT0.out.below hz hb9)
      obtain ⟨A9, c9, rfl, -⟩ := hx9.slice
      replace hb9 := hide hb9
      replace hr9 := hide hr9
      replace hv9 := hide hv9
      replace hc9 := hide hc9
      replace hx9b := hide hx9b
      replace djq := hide djq
      replace djl := hide djl
      replace hTQ9 := hide hTQ9
      clear hl9 hx9 hm9 hl hr hrv hb
      go_wp2_with fail
      refine ho.mono ?_
      rintro e w10 ⟨ld, v10, S10, rfl, hl10, hx10, -, hld, hm10⟩
      clear ho
      have z10 := hm10.1.size
      have hb10 := below_mv hb9.out hm10 hb9.out.size fun k hk => by have := hr9.out.ge (.inl hk); omega
      have hv10 := hv9.out.upd hm10.1 hTQ9.out
      have hc10 := hc9.out.upd hm10.1 djl.out
      have hx9c := hx9b.out.upd hm10.1 fun k h h' => by have := djq.out k h'; omega
      have hcb := hr9.out.cnt.upd hm10.1 hr9.out.nlb
      have hs1 := same_any hx9c hv10.recsW
      rw [decide_eq_true rfl] at hs1
      have hx10b := hx10.recsW
      obtain ⟨A10, c10, rfl, -⟩ := hx10.slice
      replace hb10 := hide hb10
      replace hv10 := hide hv10
      replace hc10 := hide hc10
      replace hcb := hide hcb
      replace hx10b := hide hx10b
      clear hl10 hx10 hm10 hr9 hv9 hc9 hx9c
      go_wp2_with fail
      refine hs1.mono ?_
      rintro e w11 ⟨rfl, hb11⟩
      clear hs1
      have hU11 := Upd.of_below (fun _ => False) hb11
      have hb12 := hb10.out.trans (hb11.mono hb10.out.size)
      have hs2 := same_any (hx10b.out.upd hU11 fun _ _ => id) (hv10.out.upd hU11 fun _ _ => id).recsW
      rw [decide_eq_true rfl] at hs2
      have hc11 := hc10.out.upd hU11 id
      have hd11 := hcb.out.upd hU11 id
      replace hb12 := hide hb12
      replace hc11 := hide hc11
      replace hd11 := hide hd11
      clear hU11 hb11
      go_wp2_with fail
      refine hs2.mono ?_
      rintro e w12 ⟨rfl, hb13⟩
      clear hs2
      have hU12 := Upd.of_below (fun _ => False) hb13
      have hb14 := hb12.out.trans (hb13.mono hb12.out.size)
      have hq1 := cnt_any (hc11.out.upd hU12 id)
      have hq2 := cnt_any (hd11.out.upd hU12 id)
      rw [hbl.out] at hq1 hq2
      replace hb14 := hide hb14
      clear hU12 hb13
      go_wp2_with fail
      refine hq1.mono ?_
      rintro e w' ⟨rfl, rfl⟩
      go_wp2_with fail
      refine hq2.mono ?_
      rintro e w' ⟨rfl, rfl⟩
      go_wp2_with fail
      go_ret
      exact ⟨rfl, hb14.out⟩
end Go.Proofs.YtimblkkojcbipaaDoor
