/- A round of the document's Tokens: op. -/
import Derived.Test.YtibbaofmdechcaaDoorLxG0
namespace Go.Proofs.YtibbaofmdechcaaDoor
open Go Go.RowKit
set_option maxRecDepth 1000000 in
set_option maxHeartbeats 4000000 in
theorem ref_op (l : List UInt8) (hl : l.length ≤ 4096) (W wo : World) (R : Res) (i : Nat) (ts : List Tok) (c : UInt8) (v : Value) (K1 : Act → World → Prop) (Q0 : Exit → Act → World → Prop) (hK1 : GoesR l W R i K1) (hQ0 : RetsR W R Q0)
    (hlt : i < l.length) (hts : ts.length ≤ i) (hv : ToksR wo W.heap.size v ts) (hbr : Below W.heap.size W wo) (hrun : runT (St.begin i c) (i + 1) ts ((l ++ [10]).drop (i + 1)) = R) (hc : (l ++ [10])[i]? = some c) (hc1 : l[i]? = some c) (h1 : blankB c.toNat = false) (h2 : ¬ c = 35) (h3 : letterB c.toNat = false) (h5 : digitB c.toNat = false)
    (u1 u2 u3 u4 u7 u8 u9 u10 u11 u12 u13 u14 u15 u16 u17 u18 u19 u20 u21 u22 u23 u24 u25 u26 u27 u28 u29 u30 u31 u32 u33 u34 u35 u36 u37 u38 u39 u40 u41 u42 u43 u44 u45 u46 u47 u48 u49 u50 u51 u52 u53 u54 u55 u56 u57 u58 u59 u60 u61 u62 u63 u64 u65 u66 u67 u68 u69 u70 u71 u72 u73 u74 u75 u76 u77 u78 u79 u80 u81 u82 u83 u84 u85 u86 u87 u88 u89 u90 u91 u92 u93 u94 u95 u96 u97 u98 u99 u100 u101 u102 u103 u104 u105 u106 u107 u108 u109 u110 u111 u112 u113 u114 u115 u116 u117 u118 u119 u120 u121 u122 u123 u124 u125 u126 u127 u128 u129 u130 u131 u132 u133 u134 u135 u136 u137 u138 u139 u140 u141 u142 u143 u144 u145 u146 u147 u148 u149 u150 u151 u152 u153 u154 u155 u156 u157 u158 u159 u160 u161 u162 u163 u164 u165 u166 u167 u168 u169 u170 u171 u172 u173 u174 u175 u176 u177 u178 u179 u180 u181 u182 u183 u184 u185 u186 u187 u188 u189 u190 u191 u192 u193 u194 u195 u196 u197 u198 u199 u200 u201 u202 u203 u204 u205 u206 u207 u208 u209 u210 u211 u212 u213 u214 u215 u216 u217 u218 u219 u220 u221 u222 u223 u224 u225 u226 u227 u228 : Value) :
    Code.wp Tryd.prog refBody (Exit.then K1 Q0) ⟨#[.string (strB l), u1, u2, u3, u4, v, .int .i64 i, u7, u8, u9, u10, u11, u12, u13, u14, u15, u16, u17, u18, u19, u20, u21, u22, u23, u24, u25, u26, u27, u28, u29, u30, u31, u32, u33, u34, u35, u36, u37, u38, u39, u40, u41, u42, u43, u44, u45, u46, u47, u48, u49, u50, u51, u52, u53, u54, u55, u56, u57, u58, u59, u60, u61, u62, u63, u64, u65, u66, u67, u68, u69, u70, u71, u72, u73, u74, u75, u76, u77, u78, u79, u80, u81, u82, u83, u84, u85, u86, u87, u88, u89, u90, u91, u92, u93, u94, u95, u96, u97, u98, u99, u100, u101, u102, u103, u104, u105, u106, u107, u108, u109, u110, u111, u112, u113, u114, u115, u116, u117, u118, u119, u120, u121, u122, u123, u124, u125, u126, u127, u128, u129, u130, u131, u132, u133, u134, u135, u136, u137, u138, u139, u140, u141, u142, u143, u144, u145, u146, u147, u148, u149, u150, u151, u152, u153, u154, u155, u156, u157, u158, u159, u160, u161, u162, u163, u164, u165, u166, u167, u168, u169, u170, u171, u172, u173, u174, u175, u176, u177, u178, u179, u180, u181, u182, u183, u184, u185, u186, u187, u188, u189, u190, u191, u192, u193, u194, u195, u196, u197, u198, u199, u200, u201, u202, u203, u204, u205, u206, u207, u208, u209, u210, u211, u212, u213, u214, u215, u216, u217, u218, u219, u220, u221, u222, u223, u224, u225, u226, u227, u228], []⟩ wo := by
  conv => arg 2; whnf
  have hz : (strB l).size = l.length := rfl
  have hx := str_at hc1
  have hlt' : (i : Int) < (l.length : Int) := by omega
  have hi : i ≤ l.length := by omega
  replace hK1 := hide hK1
  replace hQ0 := hide hQ0
  replace hv := hide hv
  replace hbr := hide hbr
  replace hc1 := hide hc1
  have h1' := h1
  unfold blankB at h1'
  replace h1' := of_decide_eq_false h1'
  have b1 : ((c.toNat : Int) == 32) = false := by rw [beq_eq_false_iff_ne]; omega
  have b2 : ((c.toNat : Int) == 9) = false := by rw [beq_eq_false_iff_ne]; omega
  have b3 : ((c.toNat : Int) == 13) = false := by rw [beq_eq_false_iff_ne]; omega
  have b4 : ((c.toNat : Int) == 10) = false := by rw [beq_eq_false_iff_ne]; omega
  clear h1'
  have hc35 : ((c.toNat : Int) == 35) = false := by
    rw [beq_eq_false_iff_ne]
    intro h
    exact h2 (UInt8.toNat_inj.1 (by show c.toNat = 35; omega))
  have hL := hide (letter_any c.toNat wo)
  rw [h3] at hL
  have hDg := hide (digit_any c.toNat wo)
  rw [begin_op h1 h2 h3 h5] at hrun
  rw [h5] at hDg
  clear h5 h3 h1
  have hc1s := wdOf_one hc hlt
  have hz1 : (strB [c]).size = 1 := rfl
  have hcut1 : ∀ w, (Instr.slice 9 (.string (strB l)) (some (.int .i64 i)) (some (.int .i64 ((i : Int) + 1))) none).run Tryd.prog w = .ok (.string (strB [c])) w := fun w => by
    have := str_wd (l := l) (i := i) (j := i + 1) (by omega) (by omega) w
    rw [hc1s] at this
    exact this
  obtain ⟨d, hd2, hdd, hd1, hd0⟩ := tx_at (show i + 1 ≤ l.length by omega)
  have hones := hide (one_any signs c (by decide) wo)
  by_cases hlt2 : i + 1 < l.length
  · obtain ⟨x, -, hxx, -, -⟩ := tx_at (show i + 1 + 1 ≤ l.length by omega)
    have hi2 : (i : Int) + 2 ≤ (l.length : Int) := by omega
    have hcut2 : ∀ w, (Instr.slice 9 (.string (strB l)) (some (.int .i64 i)) (some (.int .i64 ((i : Int) + 2))) none).run Tryd.prog w = .ok (.string ⟨[c, d].toArray⟩) w := fun w => by
      have := str_wd (l := l) (i := i) (j := i + 1 + 1) (by omega) (by omega) w
      rw [wdOf_two hc hd2 hlt2] at this
      exact this
    by_cases ho : isOp [c, d] = true
    · have hst := hide (op_two hrun hdd hxx ho)
      rw [isOp_two] at ho
      clear hones hrun
      rcases ho with ⟨rfl, rfl⟩ | ⟨rfl, rfl⟩ | ⟨rfl, rfl⟩ | ⟨rfl, rfl⟩ | ⟨rfl, rfl⟩ | ⟨rfl, rfl⟩
      · go_wp2_with fail
        refine hL.out.mono ?_
        rintro e w' ⟨rfl, rfl⟩
        go_wp2_with fail
        refine hDg.out.mono ?_
        rintro e w' ⟨rfl, rfl⟩
        go_wp2_with (
          at_builtin
          refine wp_tok rfl (.tmp 94) (.tmp 98) rfl W.heap.size v ts rfl (World.ownsRow.alloc hv.out _) _ rfl ⟨2, [61, 61], i⟩ ?_ ?_ ?_ (by omega) (Nat.le_trans hbr.out.size (by simp)) ?_
          · simp [go_sem]; done
          · simp [go_sem, strB]; done
          · simp [go_sem]; done
          intro v9 w9 hv9 hb9)
        exact hK1.out _ _ _ (i + 1 + 1) _ ⟨rfl, rfl, rfl, by first | rfl | go_num⟩ ⟨by omega, by rw [List.length_append]; simp; omega, hv9, (hbr.out.alloc hbr.out.size _).trans hb9, hst.out⟩ (by omega)
      · go_wp2_with fail
        refine hL.out.mono ?_
        rintro e w' ⟨rfl, rfl⟩
        go_wp2_with fail
        refine hDg.out.mono ?_
        rintro e w' ⟨rfl, rfl⟩
        go_wp2_with (
          at_builtin
          refine wp_tok rfl (.tmp 94) (.tmp 98) rfl W.heap.size v ts rfl (World.ownsRow.alloc hv.out _) _ rfl ⟨2, [33, 61], i⟩ ?_ ?_ ?_ (by omega) (Nat.le_trans hbr.out.size (by simp)) ?_
          · simp [go_sem]; done
          · simp [go_sem, strB]; done
          · simp [go_sem]; done
          intro v9 w9 hv9 hb9)
        exact hK1.out _ _ _ (i + 1 + 1) _ ⟨rfl, rfl, rfl, by first | rfl | go_num⟩ ⟨by omega, by rw [List.length_append]; simp; omega, hv9, (hbr.out.alloc hbr.out.size _).trans hb9, hst.out⟩ (by omega)
      · go_wp2_with fail
        refine hL.out.mono ?_
        rintro e w' ⟨rfl, rfl⟩
        go_wp2_with fail
        refine hDg.out.mono ?_
        rintro e w' ⟨rfl, rfl⟩
        go_wp2_with (
          at_builtin
          refine wp_tok rfl (.tmp 94) (.tmp 98) rfl W.heap.size v ts rfl (World.ownsRow.alloc hv.out _) _ rfl ⟨2, [60, 61], i⟩ ?_ ?_ ?_ (by omega) (Nat.le_trans hbr.out.size (by simp)) ?_
          · simp [go_sem]; done
          · simp [go_sem, strB]; done
          · simp [go_sem]; done
          intro v9 w9 hv9 hb9)
        exact hK1.out _ _ _ (i + 1 + 1) _ ⟨rfl, rfl, rfl, by first | rfl | go_num⟩ ⟨by omega, by rw [List.length_append]; simp; omega, hv9, (hbr.out.alloc hbr.out.size _).trans hb9, hst.out⟩ (by omega)
      · go_wp2_with fail
        refine hL.out.mono ?_
        rintro e w' ⟨rfl, rfl⟩
        go_wp2_with fail
        refine hDg.out.mono ?_
        rintro e w' ⟨rfl, rfl⟩
        go_wp2_with (
          at_builtin
          refine wp_tok rfl (.tmp 94) (.tmp 98) rfl W.heap.size v ts rfl (World.ownsRow.alloc hv.out _) _ rfl ⟨2, [62, 61], i⟩ ?_ ?_ ?_ (by omega) (Nat.le_trans hbr.out.size (by simp)) ?_
          · simp [go_sem]; done
          · simp [go_sem, strB]; done
          · simp [go_sem]; done
          intro v9 w9 hv9 hb9)
        exact hK1.out _ _ _ (i + 1 + 1) _ ⟨rfl, rfl, rfl, by first | rfl | go_num⟩ ⟨by omega, by rw [List.length_append]; simp; omega, hv9, (hbr.out.alloc hbr.out.size _).trans hb9, hst.out⟩ (by omega)
      · go_wp2_with fail
        refine hL.out.mono ?_
        rintro e w' ⟨rfl, rfl⟩
        go_wp2_with fail
        refine hDg.out.mono ?_
        rintro e w' ⟨rfl, rfl⟩
        go_wp2_with (
          at_builtin
          refine wp_tok rfl (.tmp 94) (.tmp 98) rfl W.heap.size v ts rfl (World.ownsRow.alloc hv.out _) _ rfl ⟨2, [38, 38], i⟩ ?_ ?_ ?_ (by omega) (Nat.le_trans hbr.out.size (by simp)) ?_
          · simp [go_sem]; done
          · simp [go_sem, strB]; done
          · simp [go_sem]; done
          intro v9 w9 hv9 hb9)
        exact hK1.out _ _ _ (i + 1 + 1) _ ⟨rfl, rfl, rfl, by first | rfl | go_num⟩ ⟨by omega, by rw [List.length_append]; simp; omega, hv9, (hbr.out.alloc hbr.out.size _).trans hb9, hst.out⟩ (by omega)
      · go_wp2_with fail
        refine hL.out.mono ?_
        rintro e w' ⟨rfl, rfl⟩
        go_wp2_with fail
        refine hDg.out.mono ?_
        rintro e w' ⟨rfl, rfl⟩
        go_wp2_with (
          at_builtin
          refine wp_tok rfl (.tmp 94) (.tmp 98) rfl W.heap.size v ts rfl (World.ownsRow.alloc hv.out _) _ rfl ⟨2, [124, 124], i⟩ ?_ ?_ ?_ (by omega) (Nat.le_trans hbr.out.size (by simp)) ?_
          · simp [go_sem]; done
          · simp [go_sem, strB]; done
          · simp [go_sem]; done
          intro v9 w9 hv9 hb9)
        exact hK1.out _ _ _ (i + 1 + 1) _ ⟨rfl, rfl, rfl, by first | rfl | go_num⟩ ⟨by omega, by rw [List.length_append]; simp; omega, hv9, (hbr.out.alloc hbr.out.size _).trans hb9, hst.out⟩ (by omega)
    · rw [Bool.not_eq_true] at ho
      cases h1o : isOp [c] with
      | true =>
        have hst := hide (op_one hrun hdd ho h1o)
        rw [← isOp_one, h1o] at hones
        have ho2 := mt isOp_two.2 (by rw [ho]; simp)
        have q0 : ([c, d] == [61, 61]) = false := by
          rw [beq_eq_false_iff_ne]
          intro h
          injection h with h h2
          injection h2 with h2
          exact ho2 (by rw [h, h2]; simp)
        have q1 : ([c, d] == [33, 61]) = false := by
          rw [beq_eq_false_iff_ne]
          intro h
          injection h with h h2
          injection h2 with h2
          exact ho2 (by rw [h, h2]; simp)
        have q2 : ([c, d] == [60, 61]) = false := by
          rw [beq_eq_false_iff_ne]
          intro h
          injection h with h h2
          injection h2 with h2
          exact ho2 (by rw [h, h2]; simp)
        have q3 : ([c, d] == [62, 61]) = false := by
          rw [beq_eq_false_iff_ne]
          intro h
          injection h with h h2
          injection h2 with h2
          exact ho2 (by rw [h, h2]; simp)
        have q4 : ([c, d] == [38, 38]) = false := by
          rw [beq_eq_false_iff_ne]
          intro h
          injection h with h h2
          injection h2 with h2
          exact ho2 (by rw [h, h2]; simp)
        have q5 : ([c, d] == [124, 124]) = false := by
          rw [beq_eq_false_iff_ne]
          intro h
          injection h with h h2
          injection h2 with h2
          exact ho2 (by rw [h, h2]; simp)
        clear ho2
        clear ho h1o hrun
        go_wp2_with fail
        refine hL.out.mono ?_
        rintro e w' ⟨rfl, rfl⟩
        go_wp2_with fail
        refine hDg.out.mono ?_
        rintro e w' ⟨rfl, rfl⟩
        go_wp2_with fail
        refine hones.out.mono ?_
        rintro e w' ⟨rfl, hb8⟩
        replace hv := hide (ToksR.below hv.out hb8)
        replace hbr := hide (hbr.out.trans (hb8.mono hbr.out.size))
        clear hb8
        go_wp2_with (
          at_builtin
          refine wp_tok rfl (.tmp 94) (.tmp 98) rfl W.heap.size v ts rfl (World.ownsRow.alloc hv.out _) _ rfl ⟨2, [c], i⟩ ?_ ?_ ?_ (by omega) (Nat.le_trans hbr.out.size (by simp)) ?_
          · simp [go_sem]; done
          · simp [go_sem, strB]; done
          · simp [go_sem]; done
          intro v9 w9 hv9 hb9)
        exact hK1.out _ _ _ (i + 1) _ ⟨rfl, rfl, rfl, by first | rfl | go_num⟩ ⟨by omega, by rw [List.length_append]; simp; omega, hv9, (hbr.out.alloc hbr.out.size _).trans hb9, hst.out⟩ (by omega)
      | false =>
        have hfe := hide (op_fell hrun hdd ho h1o)
        rw [← isOp_one, h1o] at hones
        have ho2 := mt isOp_two.2 (by rw [ho]; simp)
        have q0 : ([c, d] == [61, 61]) = false := by
          rw [beq_eq_false_iff_ne]
          intro h
          injection h with h h2
          injection h2 with h2
          exact ho2 (by rw [h, h2]; simp)
        have q1 : ([c, d] == [33, 61]) = false := by
          rw [beq_eq_false_iff_ne]
          intro h
          injection h with h h2
          injection h2 with h2
          exact ho2 (by rw [h, h2]; simp)
        have q2 : ([c, d] == [60, 61]) = false := by
          rw [beq_eq_false_iff_ne]
          intro h
          injection h with h h2
          injection h2 with h2
          exact ho2 (by rw [h, h2]; simp)
        have q3 : ([c, d] == [62, 61]) = false := by
          rw [beq_eq_false_iff_ne]
          intro h
          injection h with h h2
          injection h2 with h2
          exact ho2 (by rw [h, h2]; simp)
        have q4 : ([c, d] == [38, 38]) = false := by
          rw [beq_eq_false_iff_ne]
          intro h
          injection h with h h2
          injection h2 with h2
          exact ho2 (by rw [h, h2]; simp)
        have q5 : ([c, d] == [124, 124]) = false := by
          rw [beq_eq_false_iff_ne]
          intro h
          injection h with h h2
          injection h2 with h2
          exact ho2 (by rw [h, h2]; simp)
        clear ho2
        clear ho h1o hrun
        go_wp2_with fail
        refine hL.out.mono ?_
        rintro e w' ⟨rfl, rfl⟩
        go_wp2_with fail
        refine hDg.out.mono ?_
        rintro e w' ⟨rfl, rfl⟩
        go_wp2_with fail
        refine hones.out.mono ?_
        rintro e w' ⟨rfl, hb8⟩
        replace hbr := hide (hbr.out.trans (hb8.mono hbr.out.size))
        go_wp2_with fail
        exact hQ0.out _ _ i 50 rfl rfl rfl rfl hbr.out hfe.out (by decide)
  · have hi2 : ¬ (i : Int) + 2 ≤ (l.length : Int) := by omega
    have ho : isOp [c, d] = false := by rw [hd0 (by omega)]; exact isOp_end c
    cases h1o : isOp [c] with
    | true =>
      have hst := hide (op_one hrun hdd ho h1o)
      rw [← isOp_one, h1o] at hones
      clear ho h1o hrun
      go_wp2_with fail
      refine hL.out.mono ?_
      rintro e w' ⟨rfl, rfl⟩
      go_wp2_with fail
      refine hDg.out.mono ?_
      rintro e w' ⟨rfl, rfl⟩
      go_wp2_with fail
      refine hones.out.mono ?_
      rintro e w' ⟨rfl, hb8⟩
      replace hv := hide (ToksR.below hv.out hb8)
      replace hbr := hide (hbr.out.trans (hb8.mono hbr.out.size))
      clear hb8
      go_wp2_with (
        at_builtin
        refine wp_tok rfl (.tmp 94) (.tmp 98) rfl W.heap.size v ts rfl (World.ownsRow.alloc hv.out _) _ rfl ⟨2, [c], i⟩ ?_ ?_ ?_ (by omega) (Nat.le_trans hbr.out.size (by simp)) ?_
        · simp [go_sem]; done
        · simp [go_sem, strB]; done
        · simp [go_sem]; done
        intro v9 w9 hv9 hb9)
      exact hK1.out _ _ _ (i + 1) _ ⟨rfl, rfl, rfl, by first | rfl | go_num⟩ ⟨by omega, by rw [List.length_append]; simp; omega, hv9, (hbr.out.alloc hbr.out.size _).trans hb9, hst.out⟩ (by omega)
    | false =>
      have hfe := hide (op_fell hrun hdd ho h1o)
      rw [← isOp_one, h1o] at hones
      clear ho h1o hrun
      go_wp2_with fail
      refine hL.out.mono ?_
      rintro e w' ⟨rfl, rfl⟩
      go_wp2_with fail
      refine hDg.out.mono ?_
      rintro e w' ⟨rfl, rfl⟩
      go_wp2_with fail
      refine hones.out.mono ?_
      rintro e w' ⟨rfl, hb8⟩
      replace hbr := hide (hbr.out.trans (hb8.mono hbr.out.size))
      go_wp2_with fail
      exact hQ0.out _ _ i 50 rfl rfl rfl rfl hbr.out hfe.out (by decide)
end Go.Proofs.YtibbaofmdechcaaDoor
