/- The walk of LexSigns. -/
import Derived.Test.YtibbaofmdechcaaDoorLxSigns
namespace Go.Proofs.YtibbaofmdechcaaDoor
open Go Go.RowKit

theorem alpha_cut (c : UInt8) (w : World) : (Instr.slice 9 (.string ⟨#[61, 33, 60, 62, 38, 124, 43, 45, 42, 47, 37, 40, 41, 123, 125, 91, 93, 44, 59, 97, 49, 32]⟩) (some (.int .u8 ((c.toNat : Int) % 22))) (some (.int .u8 ((c.toNat : Int) % 22 + 1))) none).run Tryd.prog w = .ok (.string (strB [alpha c])) w := by
  have hz : (strB alphaL).size = 22 := rfl
  have hq : c.toNat % 22 < 22 := Nat.mod_lt _ (by decide)
  have h := run_slice_string (P := Tryd.prog) w 9 (strB alphaL) .u8 .u8 ((c.toNat : Int) % 22) ((c.toNat : Int) % 22 + 1) Tryd.underlying9 (by omega) (by omega) (by omega)
  refine h.trans ?_
  have e1 : ((c.toNat : Int) % 22).toNat = c.toNat % 22 := by omega
  have e2 : ((c.toNat : Int) % 22 + 1).toNat = c.toNat % 22 + 1 := by omega
  rw [e1, e2]
  have h3 := str_cut (l := alphaL) (i := c.toNat % 22) (j := c.toNat % 22 + 1) (by omega) hq w
  have h4 := run_slice_string (P := Tryd.prog) w 9 (strB alphaL) .i64 .i64 ((c.toNat % 22 : Nat) : Int) ((c.toNat % 22 + 1 : Nat) : Int) Tryd.underlying9 (by omega) (by omega) (by omega)
  rw [h4] at h3
  rw [Int.toNat_natCast, Int.toNat_natCast] at h3
  rw [h3]
  congr 3
  rw [take_next (Nat.le_refl _) (alpha_at c)]
  simp
/-- A []byte's element, where it lies. -/
theorem BytesV.at_ {w : World} {B n c : Nat} {A : Option Addr} {l : List UInt8} (h : BytesV w B (.slice A n c) l) {i : Nat} (hi : i < l.length) : ∃ b o, A = some ⟨b, o, none⟩ ∧ w.cell? ⟨b, o + i, none⟩ = some (.int .u8 l[i].toNat) := by
  obtain ⟨A', c', h1, -, -, h4⟩ := h
  injection h1 with e1 _ _
  subst e1
  obtain ⟨b, o, h5, -, h6⟩ := h4.get (bv_get hi)
  exact ⟨b, o, h5, h6⟩

set_option maxRecDepth 100000 in
set_option maxHeartbeats 1600000 in
theorem lexSigns_any (v : Value) (l : List UInt8) (W : World) (hv : BytesV W W.heap.size v l) (hE : ErrR W) : Calls Tryd.prog 6 #[v] W fun e w' => e = .returned (.bool true) ∧ Below W.heap.size W w' := by
  have hK := hide (known_any W hE)
  obtain ⟨A, n0, c0, rfl⟩ := hv.slice'
  obtain rfl : n0 = l.length := by
    obtain ⟨A', c', e1, -⟩ := hv
    injection e1
  replace hv := hide hv
  replace hE := hide hE
  go_enter Tryd.func6, Tryd.ntmps6
  go_wp2_with fail
  refine hK.out.mono ?_
  rintro e w1 ⟨rfl, hb⟩
  replace hb := hide hb
  by_cases h4 : 40 < l.length
  · have h4' : (40 : Int) < (l.length : Int) := by omega
    go_wp2_with fail
    go_ret
    exact ⟨rfl, hb.out⟩
  · have h4' : ¬ (40 : Int) < (l.length : Int) := by omega
    obtain ⟨M, hM⟩ : ∃ M, M = l.map alpha := ⟨_, rfl⟩
    have hMl : M.length = l.length := by rw [hM, List.length_map]
    have hMs : ∀ c ∈ M, c ≠ 35 ∧ (blankB c.toNat = true → c = 32) := by
      intro c hc
      rw [hM, List.mem_map] at hc
      obtain ⟨x, -, rfl⟩ := hc
      exact alpha_ok x
    replace hMs := hide hMs
    replace hM := hide hM
    go_wp2_with fail
    go_loopw [3, 4] (fun s z wr => ∃ i : Nat, i ≤ l.length ∧ z = .int .i64 i ∧ s = .string (strB (M.take i)) ∧ Below W.heap.size W wr) (fun _ z _ => l.length - (intOf z).toNat)
    case atStart => exact ⟨0, Nat.zero_le _, rfl, rfl, hb.out⟩
    case round =>
      obtain ⟨i, hi, rfl, rfl, hbr⟩ := hrel
      by_cases hlt : i < l.length
      · have hlt' : (i : Int) < (l.length : Int) := by omega
        obtain ⟨b, o, rfl, hcell⟩ := (hv.out.below hbr).at_ hlt
        have hcut := alpha_cut l[i]
        have hD : M.take (i + 1) = M.take i ++ [alpha l[i]] := by
          rw [hM.out, List.take_succ_eq_append_getElem (by rw [List.length_map]; exact hlt), List.getElem_map]
        obtain ⟨D, hDD⟩ : ∃ D, D = M.take i := ⟨_, rfl⟩
        have hDl : D.length ≤ 40 := by rw [hDD, List.length_take]; omega
        rw [← hDD] at hD ⊢
        obtain ⟨D2, hD2⟩ : ∃ D2, D2 = M.take (i + 1) := ⟨_, rfl⟩
        rw [← hD2] at hD
        have hadd : ∀ w, (Op.stringOp .add (strB D) (strB [alpha l[i]])).run Tryd.prog w = .ok (.string (strB D2)) w := fun w => by rw [hD]; exact str_add D [alpha l[i]] (by simp; omega) w
        have hb2 : (l[i].toNat : Int) % 22 ≤ 21 := by omega
        have hb3 : 0 ≤ (l[i].toNat : Int) % 22 := by omega
        have hby : (l[i].toNat : Int) ≤ 255 := by have := l[i].toNat_lt; omega
        have hz1 : (strB D).size = D.length := rfl
        have hz2 : (strB [alpha l[i]]).size = 1 := rfl
        generalize l[i] = c at *
        clear hDD
        replace hbr := hide hbr
        replace hD := hide hD
        replace hD2 := hide hD2
        go_wp2_with fail
        go_quiet (fail)
        go_wp2_with fail
        go_roundw
        case rel => exact ⟨i + 1, by omega, by go_num, by rw [hD2.out], ⟨hbr.out.os, hbr.out.tape, hbr.out.output, hbr.out.size, hbr.out.block⟩⟩
        case measure => simp [intOf]; omega
      · obtain rfl : i = l.length := by omega
        have hlt' : ¬ (l.length : Int) < (l.length : Int) := by omega
        have hMt : M.take l.length = M := by rw [← hMl]; exact List.take_length
        rw [hMt]
        clear hMt
        have h1 := hide (tokens_any M (by omega) wr (hE.out.below hbr))
        replace hbr := hide hbr
        go_wp2_with fail
        refine h1.out.mono ?_
        intro e w2 hr
        have h2 := hide (refTokens_any M (by omega) w2)
        cases hR : lexT M with
        | error x =>
          obtain ⟨a, n⟩ := x
          rw [hR] at hr h2
          obtain ⟨rfl, hn, hb2⟩ := tokF_err hr
          have hb2' := hide (hbr.out.trans (hb2.mono hbr.out.size))
          clear hr hb2 h1 hR
          go_wp2_with fail
          refine h2.out.mono ?_
          intro e w3 hr
          obtain ⟨rfl, -, hb3⟩ := tokF_err hr
          have hb3' := hide (hb2'.out.trans (hb3.mono hb2'.out.size))
          have hS := hide (sameToks_any 0 0 (.slice none 0 0) (.slice none 0 0) [] w3 (World.ownsRow_nil _ _ _ _) (World.ownsRow_nil _ _ _ _))
          clear hr hb3
          go_wp2_with fail
          refine hS.out.mono ?_
          rintro e w4 ⟨rfl, hb4⟩
          have hb4' := hide (hb3'.out.trans (hb4.mono hb3'.out.size))
          have hn' : ((n : Int) != 0) = true := by rw [bne_iff_ne]; omega
          clear hb4
          go_wp2_with fail
          go_loopw [11, 12] (fun x z wr => x = .int .i64 0 ∧ z = .int .i64 0 ∧ wr = w4) (fun _ _ _ => 0)
          case atStart => exact ⟨rfl, rfl, rfl⟩
          case round =>
            obtain ⟨rfl, rfl, rfl⟩ := hrel
            go_wp2_with fail
            go_ret
            exact ⟨rfl, hb4'.out⟩
        | ok ts =>
          rw [hR] at hr h2
          obtain ⟨A1, c1, rfl, hv1, hb2⟩ := tokF_ok hr
          have hb2' := hide (hbr.out.trans (hb2.mono hbr.out.size))
          replace hv1 := hide hv1
          obtain ⟨ee, hch, hee⟩ := lex_lies hMs.out hR
          replace hch := hide hch
          clear hr hb2 h1 hR
          go_wp2_with fail
          refine h2.out.mono ?_
          intro e w3 hr
          obtain ⟨A2, c2, rfl, hv2, hb3⟩ := tokF_ok hr
          have hb3' := hide (hb2'.out.trans (hb3.mono hb2'.out.size))
          have hv3 := hv1.out.below hb3
          have hS := hide (sameToks_any _ _ _ _ ts w3 hv3 hv2)
          clear hr hb3 hv2
          replace hv3 := hide hv3
          go_wp2_with fail
          refine hS.out.mono ?_
          rintro e w4 ⟨rfl, hb4⟩
          have hb4' := hide (hb3'.out.trans (hb4.mono hb3'.out.size))
          have hv4 := hide (hv3.out.below hb4)
          clear hb4
          have hrel0 := hch.out
          obtain ⟨_, _, _, hts63⟩ := hv4.out.slice
          unfold maxLen at hts63
          go_wp2_with fail
          go_loopw [11, 12] (fun x z wr => ∃ (j a : Nat), j ≤ ts.length ∧ z = .int .i64 j ∧ x = .int .i64 a ∧ wr = w4 ∧ Ch M a (ts.drop j) ee) (fun _ z _ => ts.length - (intOf z).toNat)
          case atStart => exact ⟨0, 0, Nat.zero_le _, rfl, rfl, rfl, hrel0⟩
          case round =>
            obtain ⟨j, a, hj, rfl, rfl, rfl, hc⟩ := hrel
            have hae := hc.le
            by_cases hlt2 : j < ts.length
            · have hlt2' : (j : Int) < (ts.length : Int) := by omega
              rw [List.drop_eq_getElem_cons hlt2] at hc
              obtain ⟨q1, q2, q3, q4⟩ := hc
              have q5 := q4.le
              obtain ⟨b, rfl, -, -, p1, p2⟩ := hv4.out.get hlt2
              generalize ts[j] = t at *
              have hzt : (strB t.text).size = t.text.length := rfl
              generalize t.text = tx at *
              generalize t.at_ = ta at *
              replace q3 := hide q3
              replace q4 := hide q4
              replace hj := hide hj
              clear hrel0
              go_wp2_with fail
              go_loopw [11] (fun x wr' => ∃ p : Nat, a ≤ p ∧ p ≤ ta ∧ x = .int .i64 p ∧ wr' = wr) (fun x _ => ta - (intOf x).toNat)
              case atStart => exact ⟨a, Nat.le_refl _, q1, rfl, rfl⟩
              case round =>
                obtain ⟨p, hp1, hp2, rfl, rfl⟩ := hrel
                by_cases hlt3 : p < ta
                · have hlt3' : (p : Int) < (ta : Int) := by omega
                  have hx : ∀ w, (Instr.index 9 (.string (strB M)) (.int .i64 p)).run Tryd.prog w = .ok (.int .u8 32) w := str_at (q3.out p hp1 hlt3)
                  go_wp2_with fail
                  go_roundw
                  case rel => exact ⟨p + 1, by omega, by omega, by go_num, trivial⟩
                  case measure => simp [intOf]; omega
                · obtain rfl : p = ta := by omega
                  have hlt3' : ¬ (p : Int) < (p : Int) := by omega
                  go_wp2_with fail
                  go_roundw
                  case rel => exact ⟨j + 1, p + tx.length, hlt2, by go_num, by go_num, trivial, q4.out⟩
                  case measure => simp [intOf]; omega
            · obtain rfl : j = ts.length := by omega
              have hlt2' : ¬ (ts.length : Int) < (ts.length : Int) := by omega
              rw [List.drop_length] at hc
              have hc : a = ee := hc
              have hzM : (strB M).size = M.length := rfl
              have hle : (a : Int) ≤ ((strB M).size : Int) := by omega
              by_cases h0 : ts.length = 0
              · have h0' : ((ts.length : Int) == 0) = true := by rw [beq_iff_eq]; omega
                go_wp2_with fail
                go_ret
                exact ⟨rfl, hb4'.out⟩
              · have h0' : ((ts.length : Int) == 0) = false := by rw [beq_eq_false_iff_ne]; omega
                go_wp2_with fail
                go_ret
                exact ⟨by show Ending.returned (.bool (decide (ee ≤ l.length))) = _; rw [decide_eq_true (by omega)], hb4'.out⟩
end Go.Proofs.YtibbaofmdechcaaDoor
