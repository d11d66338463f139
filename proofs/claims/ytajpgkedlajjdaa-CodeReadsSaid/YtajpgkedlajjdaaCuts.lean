/- The walk of CodeCuts. -/
import Derived.Test.YtajpgkedlajjdaaCutMath
import Derived.Test.YtajpgkedlajjdaaTogether
namespace Go.Proofs.Ytajpgkedlajjdaa
open Go.RowKit

theorem own_ne {w : World} {b1 b2 : Nat} {e1 e2 : TypeId} {s1 s2 n1 n2 : Nat} {v1 v2 : Value} {x1 x2 : List Value} (h1 : w.ownsRow b1 e1 s1 v1 n1 x1) (h2 : w.ownsRow b2 e2 s2 v2 n2 x2) (he : e1 ≠ e2) (k : Nat) (hk : v1.ownBlock = some k) : v2.ownBlock ≠ some k := by
  intro hk2
  rcases h1.2 with ⟨rfl, _⟩ | ⟨g1, c1, cur1, rfl, _, hg1, _⟩
  · cases hk
  · rcases h2.2 with ⟨rfl, _⟩ | ⟨g2, c2, cur2, rfl, _, hg2, _⟩
    · cases hk2
    · have e1 : g1 = k := by simpa [Value.ownBlock] using hk
      have e2 : g2 = k := by simpa [Value.ownBlock] using hk2
      subst e1
      subst e2
      rw [hg1] at hg2
      injection hg2 with hg2
      injection hg2 with _ hh
      exact he hh

set_option maxRecDepth 100000 in
theorem place_any (a : Int) (n : Nat) (w : World) (hn : 0 < n) (hn2 : n < 9223372036854775808) :
    Calls Try.prog 36 #[.int .i64 a, .int .i64 n] w fun e w' => ∃ k : Nat, k < n ∧ e = .returned (.int .i64 k) ∧ w = w' := by
  have hn0 : ¬ (n : Int) = 0 := by omega
  have hlt := Int.tmod_lt_of_pos a (show (0 : Int) < n by omega)
  have hgt : -(n : Int) < a.tmod n := by
    rcases Int.lt_or_le a 0 with h | h
    · have e : a.tmod n = -((-a).tmod n) := by rw [Int.neg_tmod]; omega
      have := Int.tmod_lt_of_pos (-a) (show (0 : Int) < n by omega)
      omega
    · have := Int.tmod_nonneg (n : Int) h
      omega
  by_cases hneg : a.tmod n < 0
  · obtain ⟨k, hk⟩ : ∃ k : Nat, a.tmod n + n = k := ⟨(a.tmod n + n).toNat, by omega⟩
    have hkn : k < n := by omega
    have hw : wrap64 (a.tmod n + n) = k := by rw [hk]; simp [wrap64]; omega
    replace hk := hide hk
    replace hlt := hide hlt
    replace hgt := hide hgt
    replace hw := hide hw
    go_enter Try.func36, Try.ntmps36
    go_wp2_with fail
    go_ret
    exact ⟨k, hkn, ret_num hw.out, rfl⟩
  · obtain ⟨k, hk⟩ : ∃ k : Nat, a.tmod n = k := ⟨(a.tmod n).toNat, by omega⟩
    have hkn : k < n := by omega
    clear hneg hlt hgt
    go_enter Try.func36, Try.ntmps36
    go_wp2_with fail
    go_ret
    exact ⟨k, hkn, rfl, rfl⟩

def endsOf (ss : List ByteArray) (k : Nat) : List Value := (List.range k).map fun i => .int .i64 (tlen ss (i + 1) : Nat)
theorem endsOf_succ (ss : List ByteArray) (k : Nat) : endsOf ss (k + 1) = endsOf ss k ++ [.int .i64 (tlen ss (k + 1) : Nat)] := by
  unfold endsOf; rw [List.range_succ, List.map_append]; rfl
theorem endsOf_get (ss : List ByteArray) {k i : Nat} (h : i < k) : (endsOf ss k)[i]? = some (.int .i64 (tlen ss (i + 1) : Nat)) := by
  unfold endsOf; simp [h]
theorem int_info : (Try.prog.info? 3).map (fun i => (i.zero, i.size, i.bytes)) = some (some (.int .i64 0), 1, 8) := by kernel_rfl
theorem one_cell {w : World} {g : Nat} {V : Value} (h : w.cell? ⟨g, 0, none⟩ = some V) : ∀ j u, [V][j]? = some u → w.cell? ((⟨g, 0, none⟩ : Addr).add j) = some u := by
  intro j u hj
  match j, hj with
  | 0, hj =>
    have : V = u := by simpa using hj
    subst this
    exact h

set_option maxRecDepth 100000 in
set_option maxHeartbeats 6400000 in
theorem cuts_any (vs : Value) (ss : List ByteArray) (at' : Int) (w : World) (hs : ArgV w (· < w.heap.size) vs (ss.map Value.string)) (_ha1 : -9223372036854775808 ≤ at') (_ha2 : at' ≤ 9223372036854775807) :
    Calls Try.prog 7 #[vs, .int .i64 at'] w fun e w' => e = .returned (.bool true) ∧ Below w.heap.size w w' := by
  have hs0 := hide hs
  obtain ⟨As, cs, rfl, hc1, hc2, -⟩ := hs
  rw [List.length_map] at *
  have hcs' : ss.length ≤ 2 ^ 63 - 1 := by unfold maxLen at hc2; omega
  clear hc1 hc2
  obtain ⟨i0, hi, hz0, hz1, hz2⟩ := info_parts int_info
  replace hi := hide hi
  replace hz0 := hide hz0
  replace hz1 := hide hz1
  replace hz2 := hide hz2
  by_cases l0 : ss.length = 0
  · have l0' : ((ss.length : Int) == 0) = true := beq_iff_eq.2 (by omega)
    replace l0 := hide l0
    go_enter Try.func7, Try.ntmps7
    go_wp2_with fail
    refine (known_any _).mono ?_
    rintro e w1 ⟨rfl, hb1⟩
    go_wp2_with fail
    go_ret
    exact ⟨rfl, hb1⟩
  have l0' : ((ss.length : Int) == 0) = false := beq_eq_false_iff_ne.2 (by omega)
  by_cases l10 : ss.length ≤ 10
  case neg =>
    replace l0 := hide l0
    go_enter Try.func7, Try.ntmps7
    go_wp2_with fail
    refine (known_any _).mono ?_
    rintro e w1 ⟨rfl, hb1⟩
    go_wp2_with fail
    go_ret
    exact ⟨rfl, hb1⟩
  replace l0 := hide l0
  go_enter Try.func7, Try.ntmps7
  go_wp2_with fail
  refine (known_any _).mono ?_
  rintro e w1 ⟨rfl, hb1⟩
  replace hb1 := hide hb1
  go_wp2_with fail
  refine (newWriter_any _).mono ?_
  rintro e w2 ⟨rfl, rfl⟩
  have hWa := wr_new w1 w1.heap.size (Nat.le_refl _)
  have hB := hide (hb1.out.trans ((Below.refl w.heap.size w1).alloc hb1.out.size (.cells #[.slice none 0 0] 75)))
  have hwp := hide (hb1.out.size)
  generalize w1.alloc (.cells #[.slice none 0 0] 75) = w2 at *
  generalize w1.heap.size = p at *
  replace hWa := hide hWa
  go_wp2_with fail
  go_loopw [6, 7] (fun ve i wr => ∃ (k : Nat) (v' : Value), k ≤ ss.length ∧ i = .int .i64 k ∧ (∀ (j : Nat) (h : j < ss.length), j < k → ss[j].size ≤ 200) ∧ Below w.heap.size w wr ∧ Wr wr p p (texts (ss.take k)) v' ∧ wr.ownsRow p 3 1 ve k (endsOf ss k)) (fun _ i _ => ss.length - (intOf i).toNat)
  case atStart => exact ⟨0, _, Nat.zero_le _, rfl, fun j _ h => absurd h (Nat.not_lt_zero _), hB.out, by simpa [texts] using hWa.out, World.ownsRow_nil _ _ _ _⟩
  case round =>
    clear hB hWa
    obtain ⟨k, v', hk, rfl, hsm, hB, hWa, hE⟩ := hrel
    have hx1 := argFor hs0.out hB hWa hwp.out
    replace hB := hide hB
    replace hWa := hide hWa
    replace hE := hide hE
    replace hsm := hide hsm
    by_cases hlt : k < ss.length
    · obtain ⟨b, o, rfl, hb, hcell⟩ := hx1.get (i := k) (u := .string ss[k]) (by simp [hlt])
      clear hx1
      by_cases hsz : ss[k].size ≤ 200
      · have hnext : ∀ (j : Nat) (h : j < ss.length), j < k + 1 → ss[j].size ≤ 200 := fun j h hj => by
          rcases Nat.lt_or_ge j k with h1 | h1
          · exact hsm.out j h h1
          · obtain rfl : j = k := by omega
            exact hsz
        have hl := hide (tlen_small ss 200 (by decide) (k + 1) hnext)
        have hle := hide (show tlen ss k ≤ tlen ss (k + 1) by rw [tlen_succ ss k hlt]; omega)
        have hsn := hide (texts_snoc ss k hlt)
        replace hnext := hide hnext
        generalize ss[k] = s0 at *
        go_wp2_with fail
        refine (wText_any p p _ v' [s0] _ _ (hWa.out.alloc _) (ArgV.one (by simp [go_sem]; done) ?_) ?_).mono ?_
        · exact fun h => Nat.lt_irrefl _ (Fp.lt hWa.out h)
        · rw [texts_one]
          have h1 := congrArg List.length hsn.out
          rw [List.length_append] at h1
          have h2 := hl.out
          unfold tlen at h2
          omega
        rintro e w3 ⟨rfl, v3, h3⟩
        rw [texts_one, ← hsn.out] at h3
        have hE2 := hE.out.alloc (.cells #[.string s0] 9)
        have hW2 := hWa.out.alloc (.cells #[.string s0] 9)
        have hE3 := hide (h3.2.1.own hE2 fun g hg => by
          rintro (hf | hf)
          · exact absurd (own_type hE2 hg (hf ▸ hW2.2.1)) (by decide)
          · exact own_ne hE2 hW2.2.2 (by decide) g hg hf)
        replace hB := hide ((hB.out.alloc hB.out.size _).trans ((h3.below (hWa.out.alloc _)).mono hwp.out))
        replace h3 := hide h3.1
        clear hWa hE hE2 hW2
        go_wp2_with fail
        refine (bytes_any p p _ v3 _ h3.out (by have h2 := hl.out; unfold tlen at h2; omega)).mono ?_
        rintro e w4 ⟨v4, rfl, h4, hb4⟩
        obtain ⟨A4, c4, rfl⟩ := h4.sl
        have hW4 := hide (h3.out.upd (.of_below (fun _ => False) hb4) fun _ _ => id)
        replace hE3 := hide ((Upd.of_below (fun _ => False) hb4).own hE3.out fun _ _ => id)
        replace hB := hide (hB.out.trans (hb4.mono hB.out.size))
        have htl : (texts (ss.take (k + 1))).length = tlen ss (k + 1) := rfl
        clear h3 h4 hb4
        go_wp2_with (
          at_builtin
          refine wpList_append_own _ rfl (.tmp 43) (.tmp 47) 66 rfl p 3 i0 (.int .i64 0) 1 8 Try.underlying66 hi.out hz0.out hz1.out hz2.out rfl Nat.one_pos _ k (endsOf ss k) rfl ?_ ⟨w4.heap.size, 0, none⟩ 1 1 [.int .i64 (tlen ss (k + 1) : Nat)] rfl rfl (one_cell ?_) ?_ ?_ ?_ ?_ ?_
          · exact hE3.out.alloc _
          · simp [go_sem]; done
          · simp [Value.oneCell']
          · unfold maxLen; omega
          · omega
          · exact (hW4.out.alloc _).base
          intro ve' w5 he5 hg5 hnn5)
        go_roundw
        case rel =>
          refine ⟨k + 1, v3, by omega, by go_num, hnext.out, ?_, ?_, ?_⟩
          · exact (hB.out.alloc hB.out.size _).grown hg5 (Nat.le_trans hB.out.size (by simp)) fun g hg => Nat.le_trans hwp.out (hE3.out.lt g hg).1
          · refine (hW4.out.alloc _).upd (.grown (F := fun g => _ = some g) hg5 fun g hg => hg) fun g hg hf => ?_
            rcases hg with rfl | hg
            · exact absurd (own_type hE3.out hf hW4.out.2.1) (by decide)
            · exact own_ne hE3.out hW4.out.2.2 (by decide) g hf hg
          · rw [endsOf_succ]; exact he5
        case measure => simp [intOf]; omega
      · generalize ss[k] = s0 at *
        go_wp2_with fail
        go_ret
        exact ⟨rfl, hB.out⟩
    · obtain rfl : k = ss.length := by omega
      clear hx1
      rw [List.take_length] at hWa
      have hTl := hide (tlen_small ss 200 (by decide) ss.length hsm.out)
      have hT : tlen ss ss.length = (texts ss).length := by unfold tlen; rw [List.take_length]
      have hT0 : 0 < (texts ss).length := by
        have h0 := l0.out
        have h1 := tlen_succ ss 0 (by omega)
        have h2 : tlen ss (0 + 1) ≤ (texts ss).length := texts_le ss 1
        have h3 : 0 < (text (ss[0]'(by omega))).length := by
          have := num_pos (ss[0]'(by omega)).size
          unfold text; rw [List.length_append]; omega
        omega
      replace hT := hide hT
      have hTb : (texts ss).length ≤ 2100 := by have := hTl.out; have := hT.out; omega
      go_wp2_with fail
      refine (bytes_any p p _ v' _ hWa.out (by omega)).mono ?_
      rintro e w3 ⟨vb, rfl, h3, hb3⟩
      replace hE := hide ((Upd.of_below (fun _ => False) hb3).own hE.out fun _ _ => id)
      replace hB := hide (hB.out.trans (hb3.mono hB.out.size))
      have hB1 := hide hB.out.size
      clear hWa hb3
      have h3b := hide h3.bytes
      obtain ⟨Ab, cb, rfl⟩ := h3.sl
      have hcb : (texts ss).length ≤ cb := by
        obtain ⟨_, _, e, h, _⟩ := h3b.out
        injection e with _ _ e3
        omega
      clear h3
      have hT0' : (((texts ss).length : Int) == 0) = false := beq_eq_false_iff_ne.2 (by omega)
      generalize hTT : (texts ss).length = N at *
      replace hTT := hide hTT
      go_wp2_with fail
      refine (place_any at' N _ (by omega) (by omega)).mono ?_
      rintro e w4 ⟨K, hK, rfl, rfl⟩
      have hkb := hide (h3b.out.take K (by have := hTT.out; omega))
      go_wp2_with fail
      refine (newReader_any _ _ _ _ hkb.out (by have := hTT.out; rw [List.length_take]; omega)).mono ?_
      rintro e wz ⟨pr, rfl, hpr, hrd, hb7⟩
      have hEz := (Upd.of_below (fun _ => False) hb7).own hE.out fun _ _ => id
      have hEs : ∃ A c, u6 = .slice A ss.length c ∧ Sl w3 w3.heap.size A (endsOf ss ss.length) := by
        obtain ⟨A, c, e, -, -, h⟩ := ownsRow_sl hE.out
        exact ⟨A, c, e, h⟩
      obtain ⟨Ae, ce, rfl, hEl⟩ := hEs
      have hEl2 := hide ((Upd.of_below (fun _ => False) hb7).sl hEl fun _ _ => id)
      replace hB := hide (hB.out.trans (hb7.mono hB.out.size))
      have hprw : ∀ k, At pr k → w.heap.size ≤ k := fun k hk => by have h1 := hB1.out; have : k = pr := hk; omega
      rw [← cut_start] at hrd
      clear hE hEz hkb h3b hb7 hEl
      replace hrd := hide hrd
      replace hpr := hide hpr
      replace hprw := hide hprw
      have hpz := hide (fun j (hj : j < w3.heap.size) => (show ¬ At pr j from fun e => by have := hpr.out; have : j = pr := e; omega))
      replace hsm := hide hsm
      go_wp2_with fail
      go_loopw [11] (fun i wr => ∃ k : Nat, k ≤ ss.length ∧ i = .int .i64 k ∧ RdS wr pr pr (cutAt ss K k) ∧ Upd (At pr) wz wr) (fun i _ => ss.length - (intOf i).toNat)
      case atStart => exact ⟨0, Nat.zero_le _, rfl, hrd.out, .refl _ _⟩
      case round =>
        clear hrd
        obtain ⟨k, hk, rfl, hR, hU⟩ := hrel
        have hBr := hide (hB.out.trans (hU.below hB.out.size hprw.out))
        by_cases hlt : k < ss.length
        · have hsz := hsm.out k hlt hlt
          have hread := cut_read ss K k hlt (by omega)
          go_wp2_with fail
          refine (rText_any pr pr _ _ hR).mono ?_
          rintro e w6 ⟨rfl, hU6, hR6⟩
          rw [hread] at hR6 ⊢
          have hx2 := hs0.out.upd (.of_below (fun _ => False) (hBr.out.trans (hU6.below hBr.out.size hprw.out))) fun _ _ => id
          obtain ⟨b, o, rfl, hb, hcell⟩ := hx2.get (i := k) (u := .string ss[k]) (by simp [hlt])
          obtain ⟨be, oe, rfl, -, hce⟩ := (Upd.sl (hU.then hU6) hEl2.out hpz.out).get (i := k) (endsOf_get ss hlt)
          replace hU6 := hide (hU.then hU6)
          replace hR6 := hide hR6
          clear hx2 hread
          generalize ss[k] = s0 at *
          by_cases hle : tlen ss (k + 1) ≤ K
          · rw [if_pos hle]
            generalize hT1 : tlen ss (k + 1) = T1 at *
            replace hT1 := hide hT1
            go_wp2_with fail
            go_roundw
            case rel => exact ⟨k + 1, by omega, by go_num, hR6.out, hU6.out⟩
            case measure => simp [intOf]; omega
          · rw [if_neg hle]
            rw [show Value.string (ByteArray.empty, cutAt ss K (k + 1)).1 = Value.string ⟨#[]⟩ from rfl]
            generalize hT1 : tlen ss (k + 1) = T1 at *
            replace hT1 := hide hT1
            go_wp2_with fail
            go_roundw
            case rel => exact ⟨k + 1, by omega, by go_num, hR6.out, hU6.out⟩
            case measure => simp [intOf]; omega
        · obtain rfl : k = ss.length := by omega
          rw [cut_end ss K (by have := hTT.out; omega)] at hR
          replace hR := hide hR
          replace hU := hide hU
          go_wp2_with fail
          refine (done_any pr pr _ _ hR.out).mono ?_
          rintro e w6 ⟨rfl, rfl⟩
          rw [show doneOf none = 20 from rfl]
          go_wp2_with fail
          refine (rNum_any pr pr _ _ hR.out).mono ?_
          rintro e w6 ⟨rfl, hU6, hR6⟩
          rw [read_none] at hR6 ⊢
          unfold u64v
          go_wp2_with fail
          refine (rInt_any pr pr _ _ hR6).mono ?_
          rintro e w7 ⟨rfl, hU7, hR7⟩
          rw [read_none] at hR7 ⊢
          unfold i64v
          go_wp2_with fail
          refine (rBool_any pr pr _ _ hR7).mono ?_
          rintro e w8 ⟨rfl, hU8, hR8⟩
          rw [read_none] at ⊢
          go_wp2_with fail
          go_ret
          exact ⟨rfl, hBr.out.trans (((hU6.then hU7).then hU8).below hBr.out.size hprw.out)⟩
end Go.Proofs.Ytajpgkedlajjdaa
