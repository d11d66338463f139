/- A round of the document's Tokens: name. -/
import Derived.Test.YtibbaofmdechcaaDoorLxG0
namespace Go.Proofs.YtibbaofmdechcaaDoor
open Go Go.RowKit
set_option maxRecDepth 1000000 in
set_option maxHeartbeats 4000000 in
theorem ref_name (l : List UInt8) (hl : l.length ≤ 4096) (W wo : World) (R : Res) (i : Nat) (ts : List Tok) (c : UInt8) (v : Value) (K1 : Act → World → Prop) (Q0 : Exit → Act → World → Prop) (hK1 : GoesR l W R i K1) (hQ0 : RetsR W R Q0)
    (hlt : i < l.length) (hts : ts.length ≤ i) (hv : ToksR wo W.heap.size v ts) (hbr : Below W.heap.size W wo) (hrun : runT (St.begin i c) (i + 1) ts ((l ++ [10]).drop (i + 1)) = R) (hc : (l ++ [10])[i]? = some c) (hc1 : l[i]? = some c) (h1 : blankB c.toNat = false) (h2 : ¬ c = 35) (h3 : letterB c.toNat = true)
    (u1 u2 u3 u4 u7 u8 u9 u10 u11 u12 u13 u14 u15 u16 u17 u18 u19 u20 u21 u22 u23 u24 u25 u26 u27 u28 u29 u30 u31 u32 u33 u34 u35 u36 u37 u38 u39 u40 u41 u42 u43 u44 u45 u46 u47 u48 u49 u50 u51 u52 u53 u54 u55 u56 u57 u58 u59 u60 u61 u62 u63 u64 u65 u66 u67 u68 u69 u70 u71 u72 u73 u74 u75 u76 u77 u78 u79 u80 u81 u82 u83 u84 u85 u86 u87 u88 u89 u90 u91 u92 u93 u94 u95 u96 u97 u98 u99 u100 u101 u102 u103 u104 u105 u106 u107 u108 u109 u110 u111 u112 u113 u114 u115 u116 u117 u118 u119 u120 u121 u122 u123 u124 u125 u126 u127 u128 u129 u130 u131 u132 u133 u134 u135 u136 u137 u138 u139 u140 u141 u142 u143 u144 u145 u146 u147 u148 u149 u150 u151 u152 u153 u154 u155 u156 u157 u158 u159 u160 u161 u162 u163 u164 u165 u166 u167 u168 u169 u170 u171 u172 u173 u174 u175 u176 u177 u178 u179 u180 u181 u182 u183 u184 u185 u186 u187 u188 u189 u190 u191 u192 u193 u194 u195 u196 u197 u198 u199 u200 u201 u202 u203 u204 u205 u206 u207 u208 u209 u210 u211 u212 u213 u214 u215 u216 u217 u218 u219 u220 u221 u222 u223 u224 u225 u226 u227 u228 : Value) :
    Code.wp Tryd.prog refBody (Exit.then K1 Q0) ⟨#[.string (strB l), u1, u2, u3, u4, v, .int .i64 i, u7, u8, u9, u10, u11, u12, u13, u14, u15, u16, u17, u18, u19, u20, u21, u22, u23, u24, u25, u26, u27, u28, u29, u30, u31, u32, u33, u34, u35, u36, u37, u38, u39, u40, u41, u42, u43, u44, u45, u46, u47, u48, u49, u50, u51, u52, u53, u54, u55, u56, u57, u58, u59, u60, u61, u62, u63, u64, u65, u66, u67, u68, u69, u70, u71, u72, u73, u74, u75, u76, u77, u78, u79, u80, u81, u82, u83, u84, u85, u86, u87, u88, u89, u90, u91, u92, u93, u94, u95, u96, u97, u98, u99, u100, u101, u102, u103, u104, u105, u106, u107, u108, u109, u110, u111, u112, u113, u114, u115, u116, u117, u118, u119, u120, u121, u122, u123, u124, u125, u126, u127, u128, u129, u130, u131, u132, u133, u134, u135, u136, u137, u138, u139, u140, u141, u142, u143, u144, u145, u146, u147, u148, u149, u150, u151, u152, u153, u154, u155, u156, u157, u158, u159, u160, u161, u162, u163, u164, u165, u166, u167, u168, u169, u170, u171, u172, u173, u174, u175, u176, u177, u178, u179, u180, u181, u182, u183, u184, u185, u186, u187, u188, u189, u190, u191, u192, u193, u194, u195, u196, u197, u198, u199, u200, u201, u202, u203, u204, u205, u206, u207, u208, u209, u210, u211, u212, u213, u214, u215, u216, u217, u218, u219, u220, u221, u222, u223, u224, u225, u226, u227, u228], []⟩ wo := by
  conv => arg 2; whnf
  have hz : (strB l).size = l.length := rfl
  have hx := str_at hc1
  have hlt' : (i : Int) < (l.length : Int) := by omega
  have hi : i ≤ l.length := by omega
  replace hK1 := hide hK1
  replace hQ0 := hide hQ0
  replace hv := hide hv
  replace hbr := hide hbr
  replace hc1 := hide hc1
  have h1' := h1
  unfold blankB at h1'
  replace h1' := of_decide_eq_false h1'
  have b1 : ((c.toNat : Int) == 32) = false := by rw [beq_eq_false_iff_ne]; omega
  have b2 : ((c.toNat : Int) == 9) = false := by rw [beq_eq_false_iff_ne]; omega
  have b3 : ((c.toNat : Int) == 13) = false := by rw [beq_eq_false_iff_ne]; omega
  have b4 : ((c.toNat : Int) == 10) = false := by rw [beq_eq_false_iff_ne]; omega
  clear h1'
  have hc35 : ((c.toNat : Int) == 35) = false := by
    rw [beq_eq_false_iff_ne]
    intro h
    exact h2 (UInt8.toNat_inj.1 (by show c.toNat = 35; omega))
  rw [begin_name h1 h2 h3] at hrun
  have hW0 : WordAt l 0 i c ts R i := .inl ⟨rfl, hrun⟩
  replace hrun := hide hrun
  have h3h := hide h3
  clear h3 h1
  have hL := hide (letter_any c.toNat wo)
  rw [h3h.out] at hL
  go_wp2_with fail
  refine hL.out.mono ?_
  rintro e w' ⟨rfl, rfl⟩
  go_wp2_with fail
  go_loopw [6] (fun z wr => ∃ j : Nat, i ≤ j ∧ j ≤ l.length ∧ z = .int .i64 j ∧ wr = w' ∧ WordAt l 0 i c ts R j) (fun z _ => l.length - (intOf z).toNat)
  case atStart => exact ⟨i, Nat.le_refl _, hi, rfl, rfl, hW0⟩
  case round =>
    obtain ⟨j, hij, hj, rfl, rfl, hcom⟩ := hrel
    replace hcom := hide hcom
    obtain ⟨d, hd2, hdd, hd1, hd0⟩ := tx_at hj
    have hLd := hide (letter_any d.toNat wr)
    have hDd := hide (digit_any d.toNat wr)
    have hgo : (St.word 0 i (wdOf l i j)).goes d = (letterB d.toNat || digitB d.toNat) := rfl
    by_cases hlt3 : j < l.length
    · have hy := str_at (hd1 hlt3)
      have hlt2 : (j : Int) < (l.length : Int) := by omega
      cases hL2 : letterB d.toNat with
      | true =>
        rw [hL2] at hLd hgo
        have hnx := hide (hcom.out.next hc hij hlt3 hd2 hdd fun _ => hgo)
        clear hgo hL2
        go_wp2_with fail
        refine hLd.out.mono ?_
        rintro e w' ⟨rfl, rfl⟩
        go_wp2_with fail
        go_roundw
        case rel => exact ⟨j + 1, by omega, by omega, by go_num, trivial, hnx.out⟩
        case measure => simp [intOf]; omega
      | false =>
        rw [hL2] at hLd hgo
        cases hD2 : digitB d.toNat with
        | true =>
          rw [hD2] at hDd hgo
          have hnx := hide (hcom.out.next hc hij hlt3 hd2 hdd fun _ => hgo)
          clear hgo hL2 hD2
          go_wp2_with fail
          refine hLd.out.mono ?_
          rintro e w' ⟨rfl, rfl⟩
          go_wp2_with fail
          refine hDd.out.mono ?_
          rintro e w' ⟨rfl, rfl⟩
          go_wp2_with fail
          go_roundw
          case rel => exact ⟨j + 1, by omega, by omega, by go_num, trivial, hnx.out⟩
          case measure => simp [intOf]; omega
        | false =>
          rw [hD2] at hDd hgo
          have hlt4 : i < j := by
            rcases Nat.lt_or_ge i j with h | h
            · exact h
            · exfalso
              obtain rfl : i = j := by omega
              rw [hc] at hd2
              injection hd2 with hd2
              rw [← hd2, h3h.out] at hL2
              cases hL2
          have hlw := wdOf_len hij hj
          have hcut := str_wd hij hj
          by_cases h32 : 32 < j - i
          · have hfe := hide (hcom.out.fell hlt4 hdd hgo (n := 53) (by rw [fault_name, if_pos (by omega)]) (by decide))
            have h32' : (32 : Int) < (j : Int) - (i : Int) := by omega
            clear hgo hL2 hD2
            go_wp2_with fail
            refine hLd.out.mono ?_
            rintro e w' ⟨rfl, rfl⟩
            go_wp2_with fail
            refine hDd.out.mono ?_
            rintro e w' ⟨rfl, rfl⟩
            go_wp2_with fail
            exact hQ0.out _ _ i 53 rfl rfl rfl rfl hbr.out hfe.out (by decide)
          · have hst := hide (hcom.out.stop hlt4 hdd hgo (by rw [fault_name, if_neg (by omega)]))
            have h32' : (j : Int) - (i : Int) ≤ 32 := by omega
            clear hgo hL2 hD2
            go_wp2_with fail
            refine hLd.out.mono ?_
            rintro e w' ⟨rfl, rfl⟩
            go_wp2_with fail
            refine hDd.out.mono ?_
            rintro e w' ⟨rfl, rfl⟩
            go_wp2_with (
              at_builtin
              refine wp_tok rfl (.tmp 158) (.tmp 165) rfl W.heap.size v ts rfl (World.ownsRow.alloc hv.out _) _ rfl ⟨0, wdOf l i j, i⟩ ?_ ?_ ?_ (by omega) (Nat.le_trans hbr.out.size (by simp)) ?_
              · simp [go_sem]; done
              · simp [go_sem]; done
              · simp [go_sem]; done
              intro v9 w9 hv9 hb9)
            exact hK1.out _ _ _ (j) _ ⟨rfl, rfl, rfl, by first | rfl | go_num⟩ ⟨hj, by rw [List.length_append]; simp; omega, hv9, (hbr.out.alloc hbr.out.size _).trans hb9, hst.out⟩ (by omega)
    · have hlt2 : ¬ (j : Int) < (l.length : Int) := by omega
      have hd10 := hd0 (by omega)
      have hlt4 : i < j := by omega
      have hgo2 : (St.word 0 i (wdOf l i j)).goes d = false := by rw [hd10]; rfl
      have hlw := wdOf_len hij hj
      have hcut := str_wd hij hj
      by_cases h32 : 32 < j - i
      · have hfe := hide (hcom.out.fell hlt4 hdd hgo2 (n := 53) (by rw [fault_name, if_pos (by omega)]) (by decide))
        have h32' : (32 : Int) < (j : Int) - (i : Int) := by omega
        clear hgo hgo2
        go_wp2_with fail
        exact hQ0.out _ _ i 53 rfl rfl rfl rfl hbr.out hfe.out (by decide)
      · have hst := hide (hcom.out.stop hlt4 hdd hgo2 (by rw [fault_name, if_neg (by omega)]))
        have h32' : (j : Int) - (i : Int) ≤ 32 := by omega
        clear hgo hgo2
        go_wp2_with (
          at_builtin
          refine wp_tok rfl (.tmp 158) (.tmp 165) rfl W.heap.size v ts rfl (World.ownsRow.alloc hv.out _) _ rfl ⟨0, wdOf l i j, i⟩ ?_ ?_ ?_ (by omega) (Nat.le_trans hbr.out.size (by simp)) ?_
          · simp [go_sem]; done
          · simp [go_sem]; done
          · simp [go_sem]; done
          intro v9 w9 hv9 hb9)
        exact hK1.out _ _ _ (j) _ ⟨rfl, rfl, rfl, by first | rfl | go_num⟩ ⟨hj, by rw [List.length_append]; simp; omega, hv9, (hbr.out.alloc hbr.out.size _).trans hb9, hst.out⟩ (by omega)
end Go.Proofs.YtibbaofmdechcaaDoor
