/- The walk of LexBounds. -/
import Derived.Test.YtibbaofmdechcaaDoorLxDigs
import Derived.Deep.OwnRows
namespace Go.Proofs.YtibbaofmdechcaaDoor
open Go Go.RowKit Go.Deep

theorem made_zeros (n : Nat) : madeCells #[Value.int .u8 0] n = (bv (List.replicate n 0)).toArray := by
  apply Array.ext'
  have h := toList_madeCells_one (Value.int .u8 0) n
  rw [h]
  simp [bv]
/-- A row of n bytes, the first j of which are x. -/
def fillL (x : UInt8) (j n : Nat) : List UInt8 := List.replicate j x ++ List.replicate (n - j) 0
theorem fillL_get {x : UInt8} {j n k : Nat} (h : k < n) (hj : j ≤ n) : (bv (fillL x j n)).toArray[k]? = some (.int .u8 (if k < j then x.toNat else 0)) := by
  rw [List.getElem?_toArray]
  unfold bv fillL
  rw [List.getElem?_map]
  by_cases hk : k < j
  · rw [List.getElem?_append_left (by simpa using hk), List.getElem?_replicate, if_pos hk, if_pos hk]; rfl
  · rw [List.getElem?_append_right (by simp; omega), List.getElem?_replicate, if_pos (by simp; omega), if_neg hk]; rfl
theorem fillL_set {x : UInt8} {j n : Nat} (h : j < n) : (bv (fillL x j n)).toArray.setIfInBounds j (.int .u8 x.toNat) = (bv (fillL x (j + 1) n)).toArray := by
  have hl : ∀ j, j ≤ n → (bv (fillL x j n)).length = n := fun j hj => by unfold bv fillL; simp; omega
  apply Array.ext_getElem?
  intro k
  rw [Array.getElem?_setIfInBounds]
  by_cases hk : k < n
  · by_cases hjk : j = k
    · subst hjk
      rw [if_pos rfl, if_pos (by simp [hl j (by omega)]; exact h), fillL_get hk (by omega), if_pos (by omega)]
    · rw [if_neg hjk, fillL_get hk (by omega), fillL_get hk (by omega)]
      by_cases h1 : k < j
      · rw [if_pos h1, if_pos (by omega)]
      · rw [if_neg h1, if_neg (by omega)]
  · have e1 : (bv (fillL x j n)).toArray[k]? = none := Array.getElem?_eq_none (by simp [hl j (by omega)]; omega)
    have e2 : (bv (fillL x (j + 1) n)).toArray[k]? = none := Array.getElem?_eq_none (by simp [hl (j + 1) (by omega)]; omega)
    rw [e1, e2]
    split
    · rw [if_neg (by simp [hl j (by omega)]; omega)]
    · rfl
theorem fillL_full (x : UInt8) (n : Nat) : fillL x n n = List.replicate n x := by unfold fillL; simp
theorem fill_bytes {w : World} {g n : Nat} {x : UInt8} (h : w.heap[g]? = some (.cells (bv (fillL x n n)).toArray 5 (0, 0))) (hn : n ≤ 10000) : BytesV w (g + 1) (.slice (some ⟨g, 0, none⟩) n n) (List.replicate n x) := by
  refine ⟨some ⟨g, 0, none⟩, n, by rw [List.length_replicate], by rw [List.length_replicate]; exact Nat.le_refl n, by unfold maxLen; omega, .inr ⟨g, 0, rfl, by omega, fun i u hi => ?_⟩⟩
  rw [cell_at h, Nat.zero_add, ← hi, fillL_full, List.getElem?_toArray]

/-- What Tokens comes to where it is told by a condition. -/
theorem tokF_if {W w : World} {e : Ending} {c : Prop} [Decidable c] {a n : Nat} {ts : List Tok} (h : TokF W (if c then .error (a, n) else .ok ts) e w) : ∃ (v : Value) (x y : Int), e = .returned (.tuple #[v, .int .i64 x, .int .i64 y]) ∧ Below W.heap.size W w ∧ (c → x = a ∧ y = n) ∧ (¬ c → x = 0 ∧ y = 0 ∧ ToksR w W.heap.size v ts) := by
  by_cases hc : c
  · rw [if_pos hc] at h
    obtain ⟨rfl, -, hb⟩ := tokF_err h
    exact ⟨_, _, _, rfl, hb, fun _ => ⟨rfl, rfl⟩, fun h => absurd hc h⟩
  · rw [if_neg hc] at h
    obtain ⟨A, c', rfl, hv, hb⟩ := tokF_ok h
    exact ⟨_, _, _, rfl, hb, fun h => absurd h hc, fun _ => ⟨rfl, rfl, hv⟩⟩
set_option maxRecDepth 100000 in
set_option maxHeartbeats 1600000 in
theorem lexBounds_any (n d : Nat) (hn : n < 256) (hd : d < 18446744073709551616) (W : World) (hE : ErrR W) : Calls Tryd.prog 5 #[.int .u8 n, .int .u64 d] W fun e w' => e = .returned (.bool true) ∧ Below W.heap.size W w' := by
  have hK := hide (known_any W hE)
  replace hE := hide hE
  obtain ⟨a, ha⟩ : ∃ a : Int, a = (d : Int) := ⟨_, rfl⟩
  rw [← ha]
  replace ha := hide ha
  replace hd := hide hd
  obtain ⟨k, hk⟩ : ∃ k, k = 29 + n % 6 := ⟨_, rfl⟩
  have hk' : (29 : Int) + (n : Int) % 6 = (k : Int) := by omega
  have hk1 : k ≤ 34 := by omega
  have hk2 : 0 < k := by omega
  have hn6 : (n : Int) % 6 ≤ 5 := by omega
  replace hk := hide hk
  replace hk' := hide hk'
  go_enter Tryd.func5, Tryd.ntmps5
  go_wp2_with fail
  refine hK.out.mono ?_
  rintro e w1 ⟨rfl, hb⟩
  replace hb := hide hb
  have hmk : (Instr.makeSlice 31 (.int .i64 (29 + (n : Int) % 6)) (.int .i64 (29 + (n : Int) % 6))).run Tryd.prog w1 = .ok (.slice (some ⟨w1.heap.size, 0, none⟩) k k) (w1.alloc (.cells (bv (fillL 120 0 k)).toArray 5)) := by
    rw [hk'.out, show fillL 120 0 k = List.replicate k 0 by unfold fillL; simp, ← made_zeros]
    exact run_make_row' (P := Tryd.prog) 31 5 (.int .u8 0) 1 Tryd.underlying31 byte_info rfl .i64 .i64 k (by omega) (by omega) w1
  go_wp2_with fail
  rw [hk'.out]
  clear hmk
  obtain ⟨g, hg⟩ : ∃ g, g = w1.heap.size := ⟨_, rfl⟩
  rw [← hg]
  have hWg : W.heap.size ≤ g := by rw [hg]; exact hb.out.size
  have hn0 := hide (hg ▸ heap_new w1 (.cells (bv (fillL 120 0 k)).toArray 5) : (w1.alloc (.cells (bv (fillL 120 0 k)).toArray 5)).heap[g]? = some (.cells (bv (fillL 120 0 k)).toArray 5))
  have hb0 := hide (hb.out.alloc hb.out.size (.cells (bv (fillL 120 0 k)).toArray 5))
  replace hg := hide hg
  go_loopw [7] (fun z wr => ∃ j : Nat, j ≤ k ∧ z = .int .i64 j ∧ wr.heap[g]? = some (.cells (bv (fillL 120 j k)).toArray 5) ∧ Below W.heap.size W wr) (fun z _ => k - (intOf z).toNat)
  case atStart => exact ⟨0, Nat.zero_le _, rfl, hn0.out, hb0.out⟩
  case round =>
    obtain ⟨j, hj, rfl, hh, hbr⟩ := hrel
    replace hbr := hide hbr
    by_cases hlt : j < k
    · have hlt' : (j : Int) < (k : Int) := by omega
      have hc := cell_at hh j
      rw [fillL_get hlt hj] at hc
      have hf := frozen_at hh j
      replace hh := hide hh
      go_wp2_with fail
      go_roundw
      case rel => exact ⟨j + 1, by omega, by go_num, (by have := heap_set hh.out j (.int .u8 (120 : UInt8).toNat); rw [fillL_set hlt] at this; exact this), (hbr.out.setCell hWg _)⟩
      case measure => simp [intOf]; omega
    · obtain rfl : j = k := by omega
      have hlt' : ¬ (j : Int) < (j : Int) := by omega
      have hconv := (fill_bytes hh (by omega)).string (P := Tryd.prog) Tryd.underlying31 Tryd.underlying5 Tryd.underlying9
      have hT := hide (tokens_any (32 :: List.replicate j 120) (by simp; omega) wr (hE.out.below hbr.out))
      rw [lex_xs j (by omega) hk2] at hT
      obtain ⟨X, hX⟩ : ∃ X, X = List.replicate j (120 : UInt8) := ⟨_, rfl⟩
      have hXl : X.length ≤ 34 := by rw [hX, List.length_replicate]; omega
      rw [← hX] at hconv hT
      have hadd : ∀ w, (Op.stringOp .add ⟨#[32]⟩ ⟨X.toArray⟩).run Tryd.prog w = .ok (.string (strB (32 :: X))) w := fun w => str_add [32] X (by simp; omega) w
      clear hX
      replace hh := hide hh
      go_wp2_with fail
      refine hT.out.mono ?_
      intro e w2 hr
      obtain ⟨v1, x1, y1, rfl, hb2, hc1, hc2⟩ := tokF_if hr
      replace hb2 := hide (hbr.out.trans (hb2.mono hbr.out.size))
      replace hc1 := hide hc1
      replace hc2 : ¬ 32 < j → x1 = 0 ∧ y1 = 0 := fun h => ⟨(hc2 h).1, (hc2 h).2.1⟩
      replace hc2 := hide hc2
      clear hr hT hconv hadd
      have hD := hide (digits_any 19 d w2 (by have := hd.out; have e : (10 : Nat) ^ (19 + 1) = 100000000000000000000 := by decide
                                              omega) hd.out (by decide))
      have hDl := (digs_val 19 d (by have := hd.out; have e : (10 : Nat) ^ (19 + 1) = 100000000000000000000 := by decide
                                     omega)).2.2.1
      have hDx := lex_digs (f := 19) (n := d) (by decide) (by have := hd.out; have e : (10 : Nat) ^ (19 + 1) = 100000000000000000000 := by decide
                                                              omega)
      rw [← ha.out] at hD
      generalize digs (19 + 1) d = D at *
      have hT2 := hide (tokens_any D (by omega) w2 (hE.out.below hb2.out))
      rw [hDx] at hT2
      clear hDx
      go_wp2_with fail
      refine hD.out.mono ?_
      rintro e w' ⟨rfl, rfl⟩
      go_wp2_with fail
      refine hT2.out.mono ?_
      intro e w3 hr
      obtain ⟨v2, x2, y2, rfl, hb3, hc3, hc4⟩ := tokF_if hr
      replace hb3 := hide (hb2.out.trans (hb3.mono hb2.out.size))
      replace hc3 := hide hc3
      replace hc4 := hide hc4
      clear hr hT2 hD hb2
      obtain ⟨m, hm⟩ : ∃ m, m = 4094 + n % 5 := ⟨_, rfl⟩
      have hm' : (4094 : Int) + (n : Int) % 5 = (m : Int) := by omega
      have hm1 : m ≤ 4098 := by omega
      have hn5 : (n : Int) % 5 ≤ 4 := by omega
      replace hm := hide hm
      replace hm' := hide hm'
      have hmk : (Instr.makeSlice 31 (.int .i64 (4094 + (n : Int) % 5)) (.int .i64 (4094 + (n : Int) % 5))).run Tryd.prog w3 = .ok (.slice (some ⟨w3.heap.size, 0, none⟩) m m) (w3.alloc (.cells (bv (fillL 32 0 m)).toArray 5)) := by
        rw [hm'.out, show fillL 32 0 m = List.replicate m 0 by unfold fillL; simp, ← made_zeros]
        exact run_make_row' (P := Tryd.prog) 31 5 (.int .u8 0) 1 Tryd.underlying31 byte_info rfl .i64 .i64 m (by omega) (by omega) w3
      go_wp2_with fail
      clear hmk hg hb
      obtain ⟨g2, hg2⟩ : ∃ g2, g2 = w3.heap.size := ⟨_, rfl⟩
      rw [← hg2]
      have hn2 := hide (hg2 ▸ heap_new w3 (.cells (bv (fillL 32 0 m)).toArray 5) : (w3.alloc (.cells (bv (fillL 32 0 m)).toArray 5)).heap[g2]? = some (.cells (bv (fillL 32 0 m)).toArray 5))
      replace hg2 := hide hg2
      obtain ⟨wo, rfl⟩ : ∃ y, y = wr := ⟨wr, rfl⟩
      go_loopw [16] (fun z wr => ∃ i : Nat, i ≤ m ∧ z = .int .i64 i ∧ wr.heap[g2]? = some (.cells (bv (fillL 32 i m)).toArray 5) ∧ Below w3.heap.size w3 wr) (fun z _ => m - (intOf z).toNat)
      case atStart => exact ⟨0, Nat.zero_le _, rfl, hn2.out, (Below.refl _ _).alloc (Nat.le_refl _) _⟩
      case round =>
        obtain ⟨i, hi, rfl, hh2, hbr2⟩ := hrel
        replace hbr2 := hide hbr2
        by_cases hlt2 : i < m
        · have hlt2' : (i : Int) < (m : Int) := by omega
          have hc := cell_at hh2 i
          rw [fillL_get hlt2 hi] at hc
          have hf := frozen_at hh2 i
          replace hh2 := hide hh2
          go_wp2_with fail
          go_roundw
          case rel => exact ⟨i + 1, by omega, by go_num, (by have := heap_set hh2.out i (.int .u8 (32 : UInt8).toNat); rw [fillL_set hlt2] at this; exact this), (hbr2.out.setCell (Nat.le_of_eq hg2.out.symm) _)⟩
          case measure => simp [intOf]; omega
        · obtain rfl : i = m := by omega
          have hlt2' : ¬ (i : Int) < (i : Int) := by omega
          have hconv := (fill_bytes hh2 (by omega)).string (P := Tryd.prog) Tryd.underlying31 Tryd.underlying5 Tryd.underlying9
          have hbW := hide (hb3.out.trans (hbr2.out.mono hb3.out.size))
          have hT3 := hide (tokens_any (List.replicate i 32) (by simp; omega) wr (hE.out.below hbW.out))
          rw [lex_spaces i] at hT3
          obtain ⟨X2, hX2⟩ : ∃ X, X = List.replicate i (32 : UInt8) := ⟨_, rfl⟩
          rw [← hX2] at hconv hT3
          clear hX2
          replace hh2 := hide hh2
          go_wp2_with fail
          refine hT3.out.mono ?_
          intro e w5 hr
          obtain ⟨v3, x3, y3, rfl, hb5, hc5, hc6⟩ := tokF_if hr
          have hfin := hide (hbW.out.trans (hb5.mono hbW.out.size))
          have hkeep := hide (hbr2.out.trans (hb5.mono hbr2.out.size))
          replace hc5 := hide (fun h => (hc5 h).2 : 4096 < i → y3 = 53)
          replace hc6 := hide (fun h => (hc6 h).2.1 : ¬ 4096 < i → y3 = 0)
          clear hr hT3 hconv hb5
          have ha9 : (9223372036854775807 < d) ↔ (9223372036854775807 : Int) < a := by have := ha.out; omega
          obtain ⟨big, hbig⟩ : ∃ big : Prop, big = (9223372036854775807 < d) := ⟨_, rfl⟩
          rw [← hbig] at hc3 hc4 ha9
          clear hbig
          have h18 : (x1 = 1 ∧ y1 = 53 ∧ (32 : Int) < (j : Int)) ∨ (y1 = 0 ∧ (j : Int) ≤ 32) := by
            by_cases h : 32 < j
            · exact .inl ⟨(hc1.out h).1, (hc1.out h).2, by omega⟩
            · exact .inr ⟨(hc2.out h).2, by omega⟩
          have h19 : (y3 = 53 ∧ (4096 : Int) < (i : Int)) ∨ (y3 = 0 ∧ (i : Int) ≤ 4096) := by
            by_cases h : 4096 < i
            · exact .inl ⟨hc5.out h, by omega⟩
            · exact .inr ⟨hc6.out h, by omega⟩
          by_cases hb9 : big
          · obtain ⟨rfl, rfl⟩ := hc3.out hb9
            have ha1 := ha9.1 hb9
            clear hc1 hc2 hc3 hc4 hc5 hc6 ha9
            rcases h18 with ⟨rfl, rfl, h18⟩ | ⟨rfl, h18⟩
            · rcases h19 with ⟨rfl, h19⟩ | ⟨rfl, h19⟩
              · go_wp2_with fail
                go_ret
                exact ⟨rfl, hfin.out⟩
              · go_wp2_with fail
                go_ret
                exact ⟨rfl, hfin.out⟩
            · rcases h19 with ⟨rfl, h19⟩ | ⟨rfl, h19⟩
              · go_wp2_with fail
                go_ret
                exact ⟨rfl, hfin.out⟩
              · go_wp2_with fail
                go_ret
                exact ⟨rfl, hfin.out⟩
          · obtain ⟨rfl, rfl, hv⟩ := hc4.out hb9
            have ha1 : ¬ (9223372036854775807 : Int) < a := fun h => hb9 (ha9.2 h)
            have hv5 := hv.below hkeep.out
            obtain ⟨A, c, rfl, -⟩ := hv5.slice
            obtain ⟨b, rfl, -, -, p1, -⟩ := hv5.get (i := 0) (by simp)
            simp at p1
            clear hc1 hc2 hc3 hc4 hc5 hc6 ha9 hv hv5
            rcases h18 with ⟨rfl, rfl, h18⟩ | ⟨rfl, h18⟩
            · rcases h19 with ⟨rfl, h19⟩ | ⟨rfl, h19⟩
              · go_wp2_with fail
                go_ret
                exact ⟨rfl, hfin.out⟩
              · go_wp2_with fail
                go_ret
                exact ⟨rfl, hfin.out⟩
            · rcases h19 with ⟨rfl, h19⟩ | ⟨rfl, h19⟩
              · go_wp2_with fail
                go_ret
                exact ⟨rfl, hfin.out⟩
              · go_wp2_with fail
                go_ret
                exact ⟨rfl, hfin.out⟩
theorem lexBounds_int {n d : Int} (h : 0 ≤ n ∧ n ≤ 255) (hd : 0 ≤ d ∧ d ≤ 18446744073709551615) (W : World) (hE : ErrR W) : Calls Tryd.prog 5 #[.int .u8 n, .int .u64 d] W fun e w' => e = .returned (.bool true) ∧ Below W.heap.size W w' := by
  have e : n = ((n.toNat : Nat) : Int) := by omega
  have e2 : d = ((d.toNat : Nat) : Int) := by omega
  rw [e, e2]
  exact lexBounds_any _ _ (by omega) (by omega) W hE
end Go.Proofs.YtibbaofmdechcaaDoor
