/- Part 16 of the walks (merged): GLxG5, GLxG, RgA. -/
import Derived.Test.YtiiihpokpfhclaaDoorMs15
import Derived.Test.YtiiihpokpfhclaaDoorMs13
import Derived.Test.YtiiihpokpfhclaaDoorMs14
import Derived.Test.YtiiihpokpfhclaaDoorMs4
import Derived.Test.YtiiihpokpfhclaaDoorMs8
import Derived.Deep.LoopGhost
import Derived.Deep.Cut
/- A round of the document's Tokens: op. -/
namespace Go.Proofs.YtiiihpokpfhclaaDoor
open Go Go.RowKit
set_option maxRecDepth 1000000 in
set_option maxHeartbeats 4000000 in
theorem ref_op (l : List UInt8) (hl : l.length ≤ 4096) (W wo : World) (R : Res) (i : Nat) (ts : List Tok) (c : UInt8) (v : Value) (K1 : Act → World → Prop) (Q0 : Exit → Act → World → Prop) (hK1 : GoesR l W R i K1) (hQ0 : RetsR W R Q0)
    (hlt : i < l.length) (hts : ts.length ≤ i) (hv : ToksR wo W.heap.size v ts) (hbr : Below W.heap.size W wo) (hrun : runT (St.begin i c) (i + 1) ts ((l ++ [10]).drop (i + 1)) = R) (hc : (l ++ [10])[i]? = some c) (hc1 : l[i]? = some c) (h1 : blankB c.toNat = false) (h2 : ¬ c = 35) (h3 : letterB c.toNat = false) (h5 : digitB c.toNat = false)
    (u1 u2 u3 u4 u7 u8 u9 u10 u11 u12 u13 u14 u15 u16 u17 u18 u19 u20 u21 u22 u23 u24 u25 u26 u27 u28 u29 u30 u31 u32 u33 u34 u35 u36 u37 u38 u39 u40 u41 u42 u43 u44 u45 u46 u47 u48 u49 u50 u51 u52 u53 u54 u55 u56 u57 u58 u59 u60 u61 u62 u63 u64 u65 u66 u67 u68 u69 u70 u71 u72 u73 u74 u75 u76 u77 u78 u79 u80 u81 u82 u83 u84 u85 u86 u87 u88 u89 u90 u91 u92 u93 u94 u95 u96 u97 u98 u99 u100 u101 u102 u103 u104 u105 u106 u107 u108 u109 u110 u111 u112 u113 u114 u115 u116 u117 u118 u119 u120 u121 u122 u123 u124 u125 u126 u127 u128 u129 u130 u131 u132 u133 u134 u135 u136 u137 u138 u139 u140 u141 u142 u143 u144 u145 u146 u147 u148 u149 u150 u151 u152 u153 u154 u155 u156 u157 u158 u159 u160 u161 u162 u163 u164 u165 u166 u167 u168 u169 u170 u171 u172 u173 u174 u175 u176 u177 u178 u179 u180 u181 u182 u183 u184 u185 u186 u187 u188 u189 u190 u191 u192 u193 u194 u195 u196 u197 u198 u199 u200 u201 u202 u203 u204 u205 u206 u207 u208 u209 u210 u211 u212 u213 u214 u215 u216 u217 u218 u219 u220 u221 u222 u223 u224 u225 u226 u227 u228 : Value) :
    Code.wp Tryd.prog refBody (Exit.then K1 Q0) ⟨#[.string (strB l), u1, u2, u3, u4, v, .int .i64 i, u7, u8, u9, u10, u11, u12, u13, u14, u15, u16, u17, u18, u19, u20, u21, u22, u23, u24, u25, u26, u27, u28, u29, u30, u31, u32, u33, u34, u35, u36, u37, u38, u39, u40, u41, u42, u43, u44, u45, u46, u47, u48, u49, u50, u51, u52, u53, u54, u55, u56, u57, u58, u59, u60, u61, u62, u63, u64, u65, u66, u67, u68, u69, u70, u71, u72, u73, u74, u75, u76, u77, u78, u79, u80, u81, u82, u83, u84, u85, u86, u87, u88, u89, u90, u91, u92, u93, u94, u95, u96, u97, u98, u99, u100, u101, u102, u103, u104, u105, u106, u107, u108, u109, u110, u111, u112, u113, u114, u115, u116, u117, u118, u119, u120, u121, u122, u123, u124, u125, u126, u127, u128, u129, u130, u131, u132, u133, u134, u135, u136, u137, u138, u139, u140, u141, u142, u143, u144, u145, u146, u147, u148, u149, u150, u151, u152, u153, u154, u155, u156, u157, u158, u159, u160, u161, u162, u163, u164, u165, u166, u167, u168, u169, u170, u171, u172, u173, u174, u175, u176, u177, u178, u179, u180, u181, u182, u183, u184, u185, u186, u187, u188, u189, u190, u191, u192, u193, u194, u195, u196, u197, u198, u199, u200, u201, u202, u203, u204, u205, u206, u207, u208, u209, u210, u211, u212, u213, u214, u215, u216, u217, u218, u219, u220, u221, u222, u223, u224, u225, u226, u227, u228], []⟩ wo := by
  conv => arg 2; whnf
  have hz : (strB l).size = l.length := rfl
  have hx := str_at hc1
  have hlt' : (i : Int) < (l.length : Int) := by omega
  have hi : i ≤ l.length := by omega
  replace hK1 := hide hK1
  replace hQ0 := hide hQ0
  replace hv := hide hv
  replace hbr := hide hbr
  replace hc1 := hide hc1
  have h1' := h1
  unfold blankB at h1'
  replace h1' := of_decide_eq_false h1'
  have b1 : ((c.toNat : Int) == 32) = false := by rw [beq_eq_false_iff_ne]; omega
  have b2 : ((c.toNat : Int) == 9) = false := by rw [beq_eq_false_iff_ne]; omega
  have b3 : ((c.toNat : Int) == 13) = false := by rw [beq_eq_false_iff_ne]; omega
  have b4 : ((c.toNat : Int) == 10) = false := by rw [beq_eq_false_iff_ne]; omega
  clear h1'
  have hc35 : ((c.toNat : Int) == 35) = false := by
    rw [beq_eq_false_iff_ne]
    intro h
    exact h2 (UInt8.toNat_inj.1 (by show c.toNat = 35; omega))
  have hL := hide (letter_any c.toNat wo)
  rw [h3] at hL
  have hDg := hide (digit_any c.toNat wo)
  rw [begin_op h1 h2 h3 h5] at hrun
  rw [h5] at hDg
  clear h5 h3 h1
  have hc1s := wdOf_one hc hlt
  have hz1 : (strB [c]).size = 1 := rfl
  have hcut1 : ∀ w, (Instr.slice 9 (.string (strB l)) (some (.int .i64 i)) (some (.int .i64 ((i : Int) + 1))) none).run Tryd.prog w = .ok (.string (strB [c])) w := fun w => by
    have := str_wd (l := l) (i := i) (j := i + 1) (by omega) (by omega) w
    rw [hc1s] at this
    exact this
  obtain ⟨d, hd2, hdd, hd1, hd0⟩ := tx_at (show i + 1 ≤ l.length by omega)
  have hones := hide (one_any signs c (by decide) wo)
  by_cases hlt2 : i + 1 < l.length
  · obtain ⟨x, -, hxx, -, -⟩ := tx_at (show i + 1 + 1 ≤ l.length by omega)
    have hi2 : (i : Int) + 2 ≤ (l.length : Int) := by omega
    have hcut2 : ∀ w, (Instr.slice 9 (.string (strB l)) (some (.int .i64 i)) (some (.int .i64 ((i : Int) + 2))) none).run Tryd.prog w = .ok (.string ⟨[c, d].toArray⟩) w := fun w => by
      have := str_wd (l := l) (i := i) (j := i + 1 + 1) (by omega) (by omega) w
      rw [wdOf_two hc hd2 hlt2] at this
      exact this
    by_cases ho : isOp [c, d] = true
    · have hst := hide (op_two hrun hdd hxx ho)
      rw [isOp_two] at ho
      clear hones hrun
      rcases ho with ⟨rfl, rfl⟩ | ⟨rfl, rfl⟩ | ⟨rfl, rfl⟩ | ⟨rfl, rfl⟩ | ⟨rfl, rfl⟩ | ⟨rfl, rfl⟩
      · go_wp2_with fail
        refine hL.out.mono ?_
        rintro e w' ⟨rfl, rfl⟩
        go_wp2_with fail
        refine hDg.out.mono ?_
        rintro e w' ⟨rfl, rfl⟩
        go_wp2_with (
          at_builtin
          refine wp_tok rfl (.tmp 94) (.tmp 98) rfl W.heap.size v ts rfl (World.ownsRow.alloc hv.out _) _ rfl ⟨2, [61, 61], i⟩ ?_ ?_ ?_ (by omega) (Nat.le_trans hbr.out.size (by simp)) ?_
          · simp [go_sem]; done
          · simp [go_sem, strB]; done
          · simp [go_sem]; done
          intro v9 w9 hv9 hb9)
        exact hK1.out _ _ _ (i + 1 + 1) _ ⟨rfl, rfl, rfl, by first | rfl | go_num⟩ ⟨by omega, by rw [List.length_append]; simp; omega, hv9, (hbr.out.alloc hbr.out.size _).trans hb9, hst.out⟩ (by omega)
      · go_wp2_with fail
        refine hL.out.mono ?_
        rintro e w' ⟨rfl, rfl⟩
        go_wp2_with fail
        refine hDg.out.mono ?_
        rintro e w' ⟨rfl, rfl⟩
        go_wp2_with (
          at_builtin
          refine wp_tok rfl (.tmp 94) (.tmp 98) rfl W.heap.size v ts rfl (World.ownsRow.alloc hv.out _) _ rfl ⟨2, [33, 61], i⟩ ?_ ?_ ?_ (by omega) (Nat.le_trans hbr.out.size (by simp)) ?_
          · simp [go_sem]; done
          · simp [go_sem, strB]; done
          · simp [go_sem]; done
          intro v9 w9 hv9 hb9)
        exact hK1.out _ _ _ (i + 1 + 1) _ ⟨rfl, rfl, rfl, by first | rfl | go_num⟩ ⟨by omega, by rw [List.length_append]; simp; omega, hv9, (hbr.out.alloc hbr.out.size _).trans hb9, hst.out⟩ (by omega)
      · go_wp2_with fail
        refine hL.out.mono ?_
        rintro e w' ⟨rfl, rfl⟩
        go_wp2_with fail
        refine hDg.out.mono ?_
        rintro e w' ⟨rfl, rfl⟩
        go_wp2_with (
          at_builtin
          refine wp_tok rfl (.tmp 94) (.tmp 98) rfl W.heap.size v ts rfl (World.ownsRow.alloc hv.out _) _ rfl ⟨2, [60, 61], i⟩ ?_ ?_ ?_ (by omega) (Nat.le_trans hbr.out.size (by simp)) ?_
          · simp [go_sem]; done
          · simp [go_sem, strB]; done
          · simp [go_sem]; done
          intro v9 w9 hv9 hb9)
        exact hK1.out _ _ _ (i + 1 + 1) _ ⟨rfl, rfl, rfl, by first | rfl | go_num⟩ ⟨by omega, by rw [List.length_append]; simp; omega, hv9, (hbr.out.alloc hbr.out.size _).trans hb9, hst.out⟩ (by omega)
      · go_wp2_with fail
        refine hL.out.mono ?_
        rintro e w' ⟨rfl, rfl⟩
        go_wp2_with fail
        refine hDg.out.mono ?_
        rintro e w' ⟨rfl, rfl⟩
        go_wp2_with (
          at_builtin
          refine wp_tok rfl (.tmp 94) (.tmp 98) rfl W.heap.size v ts rfl (World.ownsRow.alloc hv.out _) _ rfl ⟨2, [62, 61], i⟩ ?_ ?_ ?_ (by omega) (Nat.le_trans hbr.out.size (by simp)) ?_
          · simp [go_sem]; done
          · simp [go_sem, strB]; done
          · simp [go_sem]; done
          intro v9 w9 hv9 hb9)
        exact hK1.out _ _ _ (i + 1 + 1) _ ⟨rfl, rfl, rfl, by first | rfl | go_num⟩ ⟨by omega, by rw [List.length_append]; simp; omega, hv9, (hbr.out.alloc hbr.out.size _).trans hb9, hst.out⟩ (by omega)
      · go_wp2_with fail
        refine hL.out.mono ?_
        rintro e w' ⟨rfl, rfl⟩
        go_wp2_with fail
        refine hDg.out.mono ?_
        rintro e w' ⟨rfl, rfl⟩
        go_wp2_with (
          at_builtin
          refine wp_tok rfl (.tmp 94) (.tmp 98) rfl W.heap.size v ts rfl (World.ownsRow.alloc hv.out _) _ rfl ⟨2, [38, 38], i⟩ ?_ ?_ ?_ (by omega) (Nat.le_trans hbr.out.size (by simp)) ?_
          · simp [go_sem]; done
          · simp [go_sem, strB]; done
          · simp [go_sem]; done
          intro v9 w9 hv9 hb9)
        exact hK1.out _ _ _ (i + 1 + 1) _ ⟨rfl, rfl, rfl, by first | rfl | go_num⟩ ⟨by omega, by rw [List.length_append]; simp; omega, hv9, (hbr.out.alloc hbr.out.size _).trans hb9, hst.out⟩ (by omega)
      · go_wp2_with fail
        refine hL.out.mono ?_
        rintro e w' ⟨rfl, rfl⟩
        go_wp2_with fail
        refine hDg.out.mono ?_
        rintro e w' ⟨rfl, rfl⟩
        go_wp2_with (
          at_builtin
          refine wp_tok rfl (.tmp 94) (.tmp 98) rfl W.heap.size v ts rfl (World.ownsRow.alloc hv.out _) _ rfl ⟨2, [124, 124], i⟩ ?_ ?_ ?_ (by omega) (Nat.le_trans hbr.out.size (by simp)) ?_
          · simp [go_sem]; done
          · simp [go_sem, strB]; done
          · simp [go_sem]; done
          intro v9 w9 hv9 hb9)
        exact hK1.out _ _ _ (i + 1 + 1) _ ⟨rfl, rfl, rfl, by first | rfl | go_num⟩ ⟨by omega, by rw [List.length_append]; simp; omega, hv9, (hbr.out.alloc hbr.out.size _).trans hb9, hst.out⟩ (by omega)
    · rw [Bool.not_eq_true] at ho
      cases h1o : isOp [c] with
      | true =>
        have hst := hide (op_one hrun hdd ho h1o)
        rw [← isOp_one, h1o] at hones
        have ho2 := mt isOp_two.2 (by rw [ho]; simp)
        have q0 : ([c, d] == [61, 61]) = false := by
          rw [beq_eq_false_iff_ne]
          intro h
          injection h with h h2
          injection h2 with h2
          exact ho2 (by rw [h, h2]; simp)
        have q1 : ([c, d] == [33, 61]) = false := by
          rw [beq_eq_false_iff_ne]
          intro h
          injection h with h h2
          injection h2 with h2
          exact ho2 (by rw [h, h2]; simp)
        have q2 : ([c, d] == [60, 61]) = false := by
          rw [beq_eq_false_iff_ne]
          intro h
          injection h with h h2
          injection h2 with h2
          exact ho2 (by rw [h, h2]; simp)
        have q3 : ([c, d] == [62, 61]) = false := by
          rw [beq_eq_false_iff_ne]
          intro h
          injection h with h h2
          injection h2 with h2
          exact ho2 (by rw [h, h2]; simp)
        have q4 : ([c, d] == [38, 38]) = false := by
          rw [beq_eq_false_iff_ne]
          intro h
          injection h with h h2
          injection h2 with h2
          exact ho2 (by rw [h, h2]; simp)
        have q5 : ([c, d] == [124, 124]) = false := by
          rw [beq_eq_false_iff_ne]
          intro h
          injection h with h h2
          injection h2 with h2
          exact ho2 (by rw [h, h2]; simp)
        clear ho2
        clear ho h1o hrun
        go_wp2_with fail
        refine hL.out.mono ?_
        rintro e w' ⟨rfl, rfl⟩
        go_wp2_with fail
        refine hDg.out.mono ?_
        rintro e w' ⟨rfl, rfl⟩
        go_wp2_with fail
        refine hones.out.mono ?_
        rintro e w' ⟨rfl, hb8⟩
        replace hv := hide (ToksR.below hv.out hb8)
        replace hbr := hide (hbr.out.trans (hb8.mono hbr.out.size))
        clear hb8
        go_wp2_with (
          at_builtin
          refine wp_tok rfl (.tmp 94) (.tmp 98) rfl W.heap.size v ts rfl (World.ownsRow.alloc hv.out _) _ rfl ⟨2, [c], i⟩ ?_ ?_ ?_ (by omega) (Nat.le_trans hbr.out.size (by simp)) ?_
          · simp [go_sem]; done
          · simp [go_sem, strB]; done
          · simp [go_sem]; done
          intro v9 w9 hv9 hb9)
        exact hK1.out _ _ _ (i + 1) _ ⟨rfl, rfl, rfl, by first | rfl | go_num⟩ ⟨by omega, by rw [List.length_append]; simp; omega, hv9, (hbr.out.alloc hbr.out.size _).trans hb9, hst.out⟩ (by omega)
      | false =>
        have hfe := hide (op_fell hrun hdd ho h1o)
        rw [← isOp_one, h1o] at hones
        have ho2 := mt isOp_two.2 (by rw [ho]; simp)
        have q0 : ([c, d] == [61, 61]) = false := by
          rw [beq_eq_false_iff_ne]
          intro h
          injection h with h h2
          injection h2 with h2
          exact ho2 (by rw [h, h2]; simp)
        have q1 : ([c, d] == [33, 61]) = false := by
          rw [beq_eq_false_iff_ne]
          intro h
          injection h with h h2
          injection h2 with h2
          exact ho2 (by rw [h, h2]; simp)
        have q2 : ([c, d] == [60, 61]) = false := by
          rw [beq_eq_false_iff_ne]
          intro h
          injection h with h h2
          injection h2 with h2
          exact ho2 (by rw [h, h2]; simp)
        have q3 : ([c, d] == [62, 61]) = false := by
          rw [beq_eq_false_iff_ne]
          intro h
          injection h with h h2
          injection h2 with h2
          exact ho2 (by rw [h, h2]; simp)
        have q4 : ([c, d] == [38, 38]) = false := by
          rw [beq_eq_false_iff_ne]
          intro h
          injection h with h h2
          injection h2 with h2
          exact ho2 (by rw [h, h2]; simp)
        have q5 : ([c, d] == [124, 124]) = false := by
          rw [beq_eq_false_iff_ne]
          intro h
          injection h with h h2
          injection h2 with h2
          exact ho2 (by rw [h, h2]; simp)
        clear ho2
        clear ho h1o hrun
        go_wp2_with fail
        refine hL.out.mono ?_
        rintro e w' ⟨rfl, rfl⟩
        go_wp2_with fail
        refine hDg.out.mono ?_
        rintro e w' ⟨rfl, rfl⟩
        go_wp2_with fail
        refine hones.out.mono ?_
        rintro e w' ⟨rfl, hb8⟩
        replace hbr := hide (hbr.out.trans (hb8.mono hbr.out.size))
        go_wp2_with fail
        exact hQ0.out _ _ i 50 rfl rfl rfl rfl hbr.out hfe.out (by decide)
  · have hi2 : ¬ (i : Int) + 2 ≤ (l.length : Int) := by omega
    have ho : isOp [c, d] = false := by rw [hd0 (by omega)]; exact isOp_end c
    cases h1o : isOp [c] with
    | true =>
      have hst := hide (op_one hrun hdd ho h1o)
      rw [← isOp_one, h1o] at hones
      clear ho h1o hrun
      go_wp2_with fail
      refine hL.out.mono ?_
      rintro e w' ⟨rfl, rfl⟩
      go_wp2_with fail
      refine hDg.out.mono ?_
      rintro e w' ⟨rfl, rfl⟩
      go_wp2_with fail
      refine hones.out.mono ?_
      rintro e w' ⟨rfl, hb8⟩
      replace hv := hide (ToksR.below hv.out hb8)
      replace hbr := hide (hbr.out.trans (hb8.mono hbr.out.size))
      clear hb8
      go_wp2_with (
        at_builtin
        refine wp_tok rfl (.tmp 94) (.tmp 98) rfl W.heap.size v ts rfl (World.ownsRow.alloc hv.out _) _ rfl ⟨2, [c], i⟩ ?_ ?_ ?_ (by omega) (Nat.le_trans hbr.out.size (by simp)) ?_
        · simp [go_sem]; done
        · simp [go_sem, strB]; done
        · simp [go_sem]; done
        intro v9 w9 hv9 hb9)
      exact hK1.out _ _ _ (i + 1) _ ⟨rfl, rfl, rfl, by first | rfl | go_num⟩ ⟨by omega, by rw [List.length_append]; simp; omega, hv9, (hbr.out.alloc hbr.out.size _).trans hb9, hst.out⟩ (by omega)
    | false =>
      have hfe := hide (op_fell hrun hdd ho h1o)
      rw [← isOp_one, h1o] at hones
      clear ho h1o hrun
      go_wp2_with fail
      refine hL.out.mono ?_
      rintro e w' ⟨rfl, rfl⟩
      go_wp2_with fail
      refine hDg.out.mono ?_
      rintro e w' ⟨rfl, rfl⟩
      go_wp2_with fail
      refine hones.out.mono ?_
      rintro e w' ⟨rfl, hb8⟩
      replace hbr := hide (hbr.out.trans (hb8.mono hbr.out.size))
      go_wp2_with fail
      exact hQ0.out _ _ i 50 rfl rfl rfl rfl hbr.out hfe.out (by decide)
end Go.Proofs.YtiiihpokpfhclaaDoor
/- The walk of the document's Tokens. -/
namespace Go.Proofs.YtiiihpokpfhclaaDoor
open Go Go.RowKit
set_option maxRecDepth 1000000 in
/-- A round. -/
theorem ref_round (l : List UInt8) (hl : l.length ≤ 4096) (W wo : World) (R : Res) (i : Nat) (ts : List Tok) (v : Value) (T : Array Value) (K1 : Act → World → Prop) (Q0 : Exit → Act → World → Prop) (hK1 : GoesR l W R i K1) (hQ0 : RetsR W R Q0)
    (hT : FrR l T v i) (h : RelR l W R i ts v wo) (hlt : i < l.length) : Code.wp Tryd.prog refBody (Exit.then K1 Q0) ⟨T, []⟩ wo := by
  obtain ⟨hi, hts, hv, hbr, hrun⟩ := h
  obtain ⟨c, hc, hd, hc1, -⟩ := tx_at hi
  rw [hd, runT_start] at hrun
  have hE : T = #[T.getD 0 undef, T.getD 1 undef, T.getD 2 undef, T.getD 3 undef, T.getD 4 undef, T.getD 5 undef, T.getD 6 undef, T.getD 7 undef, T.getD 8 undef, T.getD 9 undef, T.getD 10 undef, T.getD 11 undef, T.getD 12 undef, T.getD 13 undef, T.getD 14 undef, T.getD 15 undef, T.getD 16 undef, T.getD 17 undef, T.getD 18 undef, T.getD 19 undef, T.getD 20 undef, T.getD 21 undef, T.getD 22 undef, T.getD 23 undef, T.getD 24 undef, T.getD 25 undef, T.getD 26 undef, T.getD 27 undef, T.getD 28 undef, T.getD 29 undef, T.getD 30 undef, T.getD 31 undef, T.getD 32 undef, T.getD 33 undef, T.getD 34 undef, T.getD 35 undef, T.getD 36 undef, T.getD 37 undef, T.getD 38 undef, T.getD 39 undef, T.getD 40 undef, T.getD 41 undef, T.getD 42 undef, T.getD 43 undef, T.getD 44 undef, T.getD 45 undef, T.getD 46 undef, T.getD 47 undef, T.getD 48 undef, T.getD 49 undef, T.getD 50 undef, T.getD 51 undef, T.getD 52 undef, T.getD 53 undef, T.getD 54 undef, T.getD 55 undef, T.getD 56 undef, T.getD 57 undef, T.getD 58 undef, T.getD 59 undef, T.getD 60 undef, T.getD 61 undef, T.getD 62 undef, T.getD 63 undef, T.getD 64 undef, T.getD 65 undef, T.getD 66 undef, T.getD 67 undef, T.getD 68 undef, T.getD 69 undef, T.getD 70 undef, T.getD 71 undef, T.getD 72 undef, T.getD 73 undef, T.getD 74 undef, T.getD 75 undef, T.getD 76 undef, T.getD 77 undef, T.getD 78 undef, T.getD 79 undef, T.getD 80 undef, T.getD 81 undef, T.getD 82 undef, T.getD 83 undef, T.getD 84 undef, T.getD 85 undef, T.getD 86 undef, T.getD 87 undef, T.getD 88 undef, T.getD 89 undef, T.getD 90 undef, T.getD 91 undef, T.getD 92 undef, T.getD 93 undef, T.getD 94 undef, T.getD 95 undef, T.getD 96 undef, T.getD 97 undef, T.getD 98 undef, T.getD 99 undef, T.getD 100 undef, T.getD 101 undef, T.getD 102 undef, T.getD 103 undef, T.getD 104 undef, T.getD 105 undef, T.getD 106 undef, T.getD 107 undef, T.getD 108 undef, T.getD 109 undef, T.getD 110 undef, T.getD 111 undef, T.getD 112 undef, T.getD 113 undef, T.getD 114 undef, T.getD 115 undef, T.getD 116 undef, T.getD 117 undef, T.getD 118 undef, T.getD 119 undef, T.getD 120 undef, T.getD 121 undef, T.getD 122 undef, T.getD 123 undef, T.getD 124 undef, T.getD 125 undef, T.getD 126 undef, T.getD 127 undef, T.getD 128 undef, T.getD 129 undef, T.getD 130 undef, T.getD 131 undef, T.getD 132 undef, T.getD 133 undef, T.getD 134 undef, T.getD 135 undef, T.getD 136 undef, T.getD 137 undef, T.getD 138 undef, T.getD 139 undef, T.getD 140 undef, T.getD 141 undef, T.getD 142 undef, T.getD 143 undef, T.getD 144 undef, T.getD 145 undef, T.getD 146 undef, T.getD 147 undef, T.getD 148 undef, T.getD 149 undef, T.getD 150 undef, T.getD 151 undef, T.getD 152 undef, T.getD 153 undef, T.getD 154 undef, T.getD 155 undef, T.getD 156 undef, T.getD 157 undef, T.getD 158 undef, T.getD 159 undef, T.getD 160 undef, T.getD 161 undef, T.getD 162 undef, T.getD 163 undef, T.getD 164 undef, T.getD 165 undef, T.getD 166 undef, T.getD 167 undef, T.getD 168 undef, T.getD 169 undef, T.getD 170 undef, T.getD 171 undef, T.getD 172 undef, T.getD 173 undef, T.getD 174 undef, T.getD 175 undef, T.getD 176 undef, T.getD 177 undef, T.getD 178 undef, T.getD 179 undef, T.getD 180 undef, T.getD 181 undef, T.getD 182 undef, T.getD 183 undef, T.getD 184 undef, T.getD 185 undef, T.getD 186 undef, T.getD 187 undef, T.getD 188 undef, T.getD 189 undef, T.getD 190 undef, T.getD 191 undef, T.getD 192 undef, T.getD 193 undef, T.getD 194 undef, T.getD 195 undef, T.getD 196 undef, T.getD 197 undef, T.getD 198 undef, T.getD 199 undef, T.getD 200 undef, T.getD 201 undef, T.getD 202 undef, T.getD 203 undef, T.getD 204 undef, T.getD 205 undef, T.getD 206 undef, T.getD 207 undef, T.getD 208 undef, T.getD 209 undef, T.getD 210 undef, T.getD 211 undef, T.getD 212 undef, T.getD 213 undef, T.getD 214 undef, T.getD 215 undef, T.getD 216 undef, T.getD 217 undef, T.getD 218 undef, T.getD 219 undef, T.getD 220 undef, T.getD 221 undef, T.getD 222 undef, T.getD 223 undef, T.getD 224 undef, T.getD 225 undef, T.getD 226 undef, T.getD 227 undef, T.getD 228 undef] := expl hT.size
  rw [hT.s0, hT.s5, hT.s6] at hE
  rw [hE]
  clear hE hT
  cases h1 : blankB c.toNat with
  | true => exact ref_blank l hl W wo R i ts c v K1 Q0 hK1 hQ0 hlt hts hv hbr hrun hc (hc1 hlt) h1 _ _ _ _ _ _ _ _ _ _ _ _ _ _ _ _ _ _ _ _ _ _ _ _ _ _ _ _ _ _ _ _ _ _ _ _ _ _ _ _ _ _ _ _ _ _ _ _ _ _ _ _ _ _ _ _ _ _ _ _ _ _ _ _ _ _ _ _ _ _ _ _ _ _ _ _ _ _ _ _ _ _ _ _ _ _ _ _ _ _ _ _ _ _ _ _ _ _ _ _ _ _ _ _ _ _ _ _ _ _ _ _ _ _ _ _ _ _ _ _ _ _ _ _ _ _ _ _ _ _ _ _ _ _ _ _ _ _ _ _ _ _ _ _ _ _ _ _ _ _ _ _ _ _ _ _ _ _ _ _ _ _ _ _ _ _ _ _ _ _ _ _ _ _ _ _ _ _ _ _ _ _ _ _ _ _ _ _ _ _ _ _ _ _ _ _ _ _ _ _ _ _ _ _ _ _ _ _ _ _ _ _ _ _ _ _ _ _ _ _ _ _ _ _ _ _
  | false =>
    by_cases h2 : c = 35
    · exact ref_com l hl W wo R i ts c v K1 Q0 hK1 hQ0 hlt hts hv hbr hrun hc (hc1 hlt) h1 h2 _ _ _ _ _ _ _ _ _ _ _ _ _ _ _ _ _ _ _ _ _ _ _ _ _ _ _ _ _ _ _ _ _ _ _ _ _ _ _ _ _ _ _ _ _ _ _ _ _ _ _ _ _ _ _ _ _ _ _ _ _ _ _ _ _ _ _ _ _ _ _ _ _ _ _ _ _ _ _ _ _ _ _ _ _ _ _ _ _ _ _ _ _ _ _ _ _ _ _ _ _ _ _ _ _ _ _ _ _ _ _ _ _ _ _ _ _ _ _ _ _ _ _ _ _ _ _ _ _ _ _ _ _ _ _ _ _ _ _ _ _ _ _ _ _ _ _ _ _ _ _ _ _ _ _ _ _ _ _ _ _ _ _ _ _ _ _ _ _ _ _ _ _ _ _ _ _ _ _ _ _ _ _ _ _ _ _ _ _ _ _ _ _ _ _ _ _ _ _ _ _ _ _ _ _ _ _ _ _ _ _ _ _ _ _ _ _ _ _ _ _ _ _ _ _ _
    · cases h3 : letterB c.toNat with
      | true => exact ref_name l hl W wo R i ts c v K1 Q0 hK1 hQ0 hlt hts hv hbr hrun hc (hc1 hlt) h1 h2 h3 _ _ _ _ _ _ _ _ _ _ _ _ _ _ _ _ _ _ _ _ _ _ _ _ _ _ _ _ _ _ _ _ _ _ _ _ _ _ _ _ _ _ _ _ _ _ _ _ _ _ _ _ _ _ _ _ _ _ _ _ _ _ _ _ _ _ _ _ _ _ _ _ _ _ _ _ _ _ _ _ _ _ _ _ _ _ _ _ _ _ _ _ _ _ _ _ _ _ _ _ _ _ _ _ _ _ _ _ _ _ _ _ _ _ _ _ _ _ _ _ _ _ _ _ _ _ _ _ _ _ _ _ _ _ _ _ _ _ _ _ _ _ _ _ _ _ _ _ _ _ _ _ _ _ _ _ _ _ _ _ _ _ _ _ _ _ _ _ _ _ _ _ _ _ _ _ _ _ _ _ _ _ _ _ _ _ _ _ _ _ _ _ _ _ _ _ _ _ _ _ _ _ _ _ _ _ _ _ _ _ _ _ _ _ _ _ _ _ _ _ _ _ _ _ _ _
      | false =>
        cases h5 : digitB c.toNat with
        | true => exact ref_num l hl W wo R i ts c v K1 Q0 hK1 hQ0 hlt hts hv hbr hrun hc (hc1 hlt) h1 h2 h3 h5 _ _ _ _ _ _ _ _ _ _ _ _ _ _ _ _ _ _ _ _ _ _ _ _ _ _ _ _ _ _ _ _ _ _ _ _ _ _ _ _ _ _ _ _ _ _ _ _ _ _ _ _ _ _ _ _ _ _ _ _ _ _ _ _ _ _ _ _ _ _ _ _ _ _ _ _ _ _ _ _ _ _ _ _ _ _ _ _ _ _ _ _ _ _ _ _ _ _ _ _ _ _ _ _ _ _ _ _ _ _ _ _ _ _ _ _ _ _ _ _ _ _ _ _ _ _ _ _ _ _ _ _ _ _ _ _ _ _ _ _ _ _ _ _ _ _ _ _ _ _ _ _ _ _ _ _ _ _ _ _ _ _ _ _ _ _ _ _ _ _ _ _ _ _ _ _ _ _ _ _ _ _ _ _ _ _ _ _ _ _ _ _ _ _ _ _ _ _ _ _ _ _ _ _ _ _ _ _ _ _ _ _ _ _ _ _ _ _ _ _ _ _ _ _ _ _
        | false => exact ref_op l hl W wo R i ts c v K1 Q0 hK1 hQ0 hlt hts hv hbr hrun hc (hc1 hlt) h1 h2 h3 h5 _ _ _ _ _ _ _ _ _ _ _ _ _ _ _ _ _ _ _ _ _ _ _ _ _ _ _ _ _ _ _ _ _ _ _ _ _ _ _ _ _ _ _ _ _ _ _ _ _ _ _ _ _ _ _ _ _ _ _ _ _ _ _ _ _ _ _ _ _ _ _ _ _ _ _ _ _ _ _ _ _ _ _ _ _ _ _ _ _ _ _ _ _ _ _ _ _ _ _ _ _ _ _ _ _ _ _ _ _ _ _ _ _ _ _ _ _ _ _ _ _ _ _ _ _ _ _ _ _ _ _ _ _ _ _ _ _ _ _ _ _ _ _ _ _ _ _ _ _ _ _ _ _ _ _ _ _ _ _ _ _ _ _ _ _ _ _ _ _ _ _ _ _ _ _ _ _ _ _ _ _ _ _ _ _ _ _ _ _ _ _ _ _ _ _ _ _ _ _ _ _ _ _ _ _ _ _ _ _ _ _ _ _ _ _ _ _ _ _ _ _ _ _ _ _ _
/-- The loop's invariant, its measure. -/
def WI (l : List UInt8) (W : World) (R : Res) (a : Act) (w : World) : Prop := ∃ T i ts v, a = ⟨T, []⟩ ∧ FrR l T v i ∧ RelR l W R i ts v w
def Wmu (l : List UInt8) (a : Act) (_ : World) : Nat := l.length - (intOf (a.tmps.getD 6 undef)).toNat
set_option maxRecDepth 1000000 in
set_option maxHeartbeats 1000000 in
/-- The loop, round by round: how it goes out. -/
theorem ref_out (l : List UInt8) (wo : World) (v : Value) (K1 : Act → World → Prop) (Q0 : Exit → Act → World → Prop) (u1 u2 u3 u4 u7 u8 u9 u10 u11 u12 u13 u14 u15 u16 u17 u18 u19 u20 u21 u22 u23 u24 u25 u26 u27 u28 u29 u30 u31 u32 u33 u34 u35 u36 u37 u38 u39 u40 u41 u42 u43 u44 u45 u46 u47 u48 u49 u50 u51 u52 u53 u54 u55 u56 u57 u58 u59 u60 u61 u62 u63 u64 u65 u66 u67 u68 u69 u70 u71 u72 u73 u74 u75 u76 u77 u78 u79 u80 u81 u82 u83 u84 u85 u86 u87 u88 u89 u90 u91 u92 u93 u94 u95 u96 u97 u98 u99 u100 u101 u102 u103 u104 u105 u106 u107 u108 u109 u110 u111 u112 u113 u114 u115 u116 u117 u118 u119 u120 u121 u122 u123 u124 u125 u126 u127 u128 u129 u130 u131 u132 u133 u134 u135 u136 u137 u138 u139 u140 u141 u142 u143 u144 u145 u146 u147 u148 u149 u150 u151 u152 u153 u154 u155 u156 u157 u158 u159 u160 u161 u162 u163 u164 u165 u166 u167 u168 u169 u170 u171 u172 u173 u174 u175 u176 u177 u178 u179 u180 u181 u182 u183 u184 u185 u186 u187 u188 u189 u190 u191 u192 u193 u194 u195 u196 u197 u198 u199 u200 u201 u202 u203 u204 u205 u206 u207 u208 u209 u210 u211 u212 u213 u214 u215 u216 u217 u218 u219 u220 u221 u222 u223 u224 u225 u226 u227 u228 : Value) (hX : ∀ T, T.size = 229 → T.getD 5 undef = v → Q0 (.exit 0) ⟨T, []⟩ wo) :
    Code.wp Tryd.prog refBody (Exit.then K1 Q0) ⟨#[.string (strB l), u1, u2, u3, u4, v, .int .i64 l.length, u7, u8, u9, u10, u11, u12, u13, u14, u15, u16, u17, u18, u19, u20, u21, u22, u23, u24, u25, u26, u27, u28, u29, u30, u31, u32, u33, u34, u35, u36, u37, u38, u39, u40, u41, u42, u43, u44, u45, u46, u47, u48, u49, u50, u51, u52, u53, u54, u55, u56, u57, u58, u59, u60, u61, u62, u63, u64, u65, u66, u67, u68, u69, u70, u71, u72, u73, u74, u75, u76, u77, u78, u79, u80, u81, u82, u83, u84, u85, u86, u87, u88, u89, u90, u91, u92, u93, u94, u95, u96, u97, u98, u99, u100, u101, u102, u103, u104, u105, u106, u107, u108, u109, u110, u111, u112, u113, u114, u115, u116, u117, u118, u119, u120, u121, u122, u123, u124, u125, u126, u127, u128, u129, u130, u131, u132, u133, u134, u135, u136, u137, u138, u139, u140, u141, u142, u143, u144, u145, u146, u147, u148, u149, u150, u151, u152, u153, u154, u155, u156, u157, u158, u159, u160, u161, u162, u163, u164, u165, u166, u167, u168, u169, u170, u171, u172, u173, u174, u175, u176, u177, u178, u179, u180, u181, u182, u183, u184, u185, u186, u187, u188, u189, u190, u191, u192, u193, u194, u195, u196, u197, u198, u199, u200, u201, u202, u203, u204, u205, u206, u207, u208, u209, u210, u211, u212, u213, u214, u215, u216, u217, u218, u219, u220, u221, u222, u223, u224, u225, u226, u227, u228], []⟩ wo := by
  conv => arg 2; whnf
  have hz : (strB l).size = l.length := rfl
  have hlt' : ¬ ((l.length : Int) < (l.length : Int)) := by omega
  replace hX := hide hX
  go_wp2_with fail
  exact hX.out _ rfl rfl
theorem ref_loop (l : List UInt8) (hl : l.length ≤ 4096) (W w0 : World) (R : Res) (T0 : Array Value) (Q0 : Exit → Act → World → Prop) (hQ0 : RetsR W R Q0) (hX : ∀ T w ts v, T.size = 229 → T.getD 5 undef = v → ToksR w W.heap.size v ts → Below W.heap.size W w → R = .ok ts → Q0 (.exit 0) ⟨T, []⟩ w)
    (v0 : Value) (hT : FrR l T0 v0 0) (h0 : RelR l W R 0 [] v0 w0) : Code.wp Tryd.prog (Code.loop refBody) Q0 ⟨T0, []⟩ w0 := by
  refine wp_loop (WI l W R) (Wmu l) ⟨T0, 0, [], v0, rfl, hT, h0⟩ ?_
  rintro a w ⟨T, i, ts, v, rfl, hF, hR⟩
  by_cases hlt : i < l.length
  · refine ref_round l hl W w R i ts v T _ Q0 ?_ hQ0 hF hR hlt
    intro T' w' v' j ts' hF' hR' hij
    refine ⟨⟨T', j, ts', v', rfl, hF', hR'⟩, ?_⟩
    show l.length - (intOf (T'.getD 6 undef)).toNat < l.length - (intOf (T.getD 6 undef)).toNat
    rw [hF'.s6, hF.s6]
    have := hR'.hi
    simp only [intOf, Int.toNat_natCast]
    omega
  · obtain rfl : i = l.length := by have := hR.hi; omega
    have e : R = .ok ts := by
      have := hR.hrun
      rw [List.drop_left] at this
      rw [← this]; rfl
    have hE : T = #[T.getD 0 undef, T.getD 1 undef, T.getD 2 undef, T.getD 3 undef, T.getD 4 undef, T.getD 5 undef, T.getD 6 undef, T.getD 7 undef, T.getD 8 undef, T.getD 9 undef, T.getD 10 undef, T.getD 11 undef, T.getD 12 undef, T.getD 13 undef, T.getD 14 undef, T.getD 15 undef, T.getD 16 undef, T.getD 17 undef, T.getD 18 undef, T.getD 19 undef, T.getD 20 undef, T.getD 21 undef, T.getD 22 undef, T.getD 23 undef, T.getD 24 undef, T.getD 25 undef, T.getD 26 undef, T.getD 27 undef, T.getD 28 undef, T.getD 29 undef, T.getD 30 undef, T.getD 31 undef, T.getD 32 undef, T.getD 33 undef, T.getD 34 undef, T.getD 35 undef, T.getD 36 undef, T.getD 37 undef, T.getD 38 undef, T.getD 39 undef, T.getD 40 undef, T.getD 41 undef, T.getD 42 undef, T.getD 43 undef, T.getD 44 undef, T.getD 45 undef, T.getD 46 undef, T.getD 47 undef, T.getD 48 undef, T.getD 49 undef, T.getD 50 undef, T.getD 51 undef, T.getD 52 undef, T.getD 53 undef, T.getD 54 undef, T.getD 55 undef, T.getD 56 undef, T.getD 57 undef, T.getD 58 undef, T.getD 59 undef, T.getD 60 undef, T.getD 61 undef, T.getD 62 undef, T.getD 63 undef, T.getD 64 undef, T.getD 65 undef, T.getD 66 undef, T.getD 67 undef, T.getD 68 undef, T.getD 69 undef, T.getD 70 undef, T.getD 71 undef, T.getD 72 undef, T.getD 73 undef, T.getD 74 undef, T.getD 75 undef, T.getD 76 undef, T.getD 77 undef, T.getD 78 undef, T.getD 79 undef, T.getD 80 undef, T.getD 81 undef, T.getD 82 undef, T.getD 83 undef, T.getD 84 undef, T.getD 85 undef, T.getD 86 undef, T.getD 87 undef, T.getD 88 undef, T.getD 89 undef, T.getD 90 undef, T.getD 91 undef, T.getD 92 undef, T.getD 93 undef, T.getD 94 undef, T.getD 95 undef, T.getD 96 undef, T.getD 97 undef, T.getD 98 undef, T.getD 99 undef, T.getD 100 undef, T.getD 101 undef, T.getD 102 undef, T.getD 103 undef, T.getD 104 undef, T.getD 105 undef, T.getD 106 undef, T.getD 107 undef, T.getD 108 undef, T.getD 109 undef, T.getD 110 undef, T.getD 111 undef, T.getD 112 undef, T.getD 113 undef, T.getD 114 undef, T.getD 115 undef, T.getD 116 undef, T.getD 117 undef, T.getD 118 undef, T.getD 119 undef, T.getD 120 undef, T.getD 121 undef, T.getD 122 undef, T.getD 123 undef, T.getD 124 undef, T.getD 125 undef, T.getD 126 undef, T.getD 127 undef, T.getD 128 undef, T.getD 129 undef, T.getD 130 undef, T.getD 131 undef, T.getD 132 undef, T.getD 133 undef, T.getD 134 undef, T.getD 135 undef, T.getD 136 undef, T.getD 137 undef, T.getD 138 undef, T.getD 139 undef, T.getD 140 undef, T.getD 141 undef, T.getD 142 undef, T.getD 143 undef, T.getD 144 undef, T.getD 145 undef, T.getD 146 undef, T.getD 147 undef, T.getD 148 undef, T.getD 149 undef, T.getD 150 undef, T.getD 151 undef, T.getD 152 undef, T.getD 153 undef, T.getD 154 undef, T.getD 155 undef, T.getD 156 undef, T.getD 157 undef, T.getD 158 undef, T.getD 159 undef, T.getD 160 undef, T.getD 161 undef, T.getD 162 undef, T.getD 163 undef, T.getD 164 undef, T.getD 165 undef, T.getD 166 undef, T.getD 167 undef, T.getD 168 undef, T.getD 169 undef, T.getD 170 undef, T.getD 171 undef, T.getD 172 undef, T.getD 173 undef, T.getD 174 undef, T.getD 175 undef, T.getD 176 undef, T.getD 177 undef, T.getD 178 undef, T.getD 179 undef, T.getD 180 undef, T.getD 181 undef, T.getD 182 undef, T.getD 183 undef, T.getD 184 undef, T.getD 185 undef, T.getD 186 undef, T.getD 187 undef, T.getD 188 undef, T.getD 189 undef, T.getD 190 undef, T.getD 191 undef, T.getD 192 undef, T.getD 193 undef, T.getD 194 undef, T.getD 195 undef, T.getD 196 undef, T.getD 197 undef, T.getD 198 undef, T.getD 199 undef, T.getD 200 undef, T.getD 201 undef, T.getD 202 undef, T.getD 203 undef, T.getD 204 undef, T.getD 205 undef, T.getD 206 undef, T.getD 207 undef, T.getD 208 undef, T.getD 209 undef, T.getD 210 undef, T.getD 211 undef, T.getD 212 undef, T.getD 213 undef, T.getD 214 undef, T.getD 215 undef, T.getD 216 undef, T.getD 217 undef, T.getD 218 undef, T.getD 219 undef, T.getD 220 undef, T.getD 221 undef, T.getD 222 undef, T.getD 223 undef, T.getD 224 undef, T.getD 225 undef, T.getD 226 undef, T.getD 227 undef, T.getD 228 undef] := expl hF.size
    have s0 := hF.s0
    have s5 := hF.s5
    have s6 := hF.s6
    rw [s0, s5, s6] at hE
    rw [hE]
    exact ref_out l w v _ Q0 _ _ _ _ _ _ _ _ _ _ _ _ _ _ _ _ _ _ _ _ _ _ _ _ _ _ _ _ _ _ _ _ _ _ _ _ _ _ _ _ _ _ _ _ _ _ _ _ _ _ _ _ _ _ _ _ _ _ _ _ _ _ _ _ _ _ _ _ _ _ _ _ _ _ _ _ _ _ _ _ _ _ _ _ _ _ _ _ _ _ _ _ _ _ _ _ _ _ _ _ _ _ _ _ _ _ _ _ _ _ _ _ _ _ _ _ _ _ _ _ _ _ _ _ _ _ _ _ _ _ _ _ _ _ _ _ _ _ _ _ _ _ _ _ _ _ _ _ _ _ _ _ _ _ _ _ _ _ _ _ _ _ _ _ _ _ _ _ _ _ _ _ _ _ _ _ _ _ _ _ _ _ _ _ _ _ _ _ _ _ _ _ _ _ _ _ _ _ _ _ _ _ _ _ _ _ _ _ _ _ _ _ _ _ _ _ _ _ _ _ _ _ _ _ _ _ fun T' h1 h2 => hX T' w ts v h1 h2 hR.hv hR.hbr e
set_option maxRecDepth 1000000 in
set_option maxHeartbeats 4000000 in
theorem refTokens_any (l : List UInt8) (hl : l.length ≤ 900000) (W : World) : Calls Tryd.prog 22 #[.string (strB l)] W fun e w' => TokF W (lexT l) e w' := by
  have hz : (strB l).size = l.length := rfl
  generalize hQ : (fun e w' => TokF W (lexT l) e w') = Q
  replace hQ := hide hQ
  go_enter Tryd.func22, Tryd.ntmps22
  by_cases h4 : 4096 < l.length
  · have h4' : (4096 : Int) < (l.length : Int) := by omega
    go_wp2_with fail
    go_ret3
    show Q (.returned (.tuple #[.slice none 0 0, .int .i64 0, .int .i64 53])) _
    rw [← hQ.out]
    show TokF W (lexT l) _ _
    unfold lexT
    rw [if_pos h4]
    exact ⟨Below.refl _ _, rfl, by decide⟩
  · have hlx : lexT l = runT .blank 0 [] (l ++ [10]) := by unfold lexT; rw [if_neg h4]
    replace hlx := hide hlx
    generalize hR : lexT l = R at hlx
    replace hR := hide hR
    go_wp2_with fail
    refine ref_loop l (by omega) W W R _ _ ?_ ?_ (.slice none 0 0) ⟨rfl, rfl, rfl, rfl⟩ ⟨Nat.zero_le _, Nat.le_refl _, World.ownsRow_nil _ _ _ _, Below.refl _ _, hlx.out.symm⟩
    · intro T w a n hs h2 h3 hn4 hb he hn
      show bodyPost Tryd.prog Tryd.f22 Q Exit.ret ⟨T, []⟩ w
      go_ret3
      show Q (.returned (.tuple #[T.getD 2 undef, T.getD 3 undef, T.getD 4 undef])) w
      rw [h2, h3, hn4, ← hQ.out]
      show TokF W (lexT l) _ _
      rw [hR.out, he]
      exact ⟨hb, rfl, hn⟩
    · intro T w ts v hs h5 hv hb he
      have hE : T = #[T.getD 0 undef, T.getD 1 undef, T.getD 2 undef, T.getD 3 undef, T.getD 4 undef, T.getD 5 undef, T.getD 6 undef, T.getD 7 undef, T.getD 8 undef, T.getD 9 undef, T.getD 10 undef, T.getD 11 undef, T.getD 12 undef, T.getD 13 undef, T.getD 14 undef, T.getD 15 undef, T.getD 16 undef, T.getD 17 undef, T.getD 18 undef, T.getD 19 undef, T.getD 20 undef, T.getD 21 undef, T.getD 22 undef, T.getD 23 undef, T.getD 24 undef, T.getD 25 undef, T.getD 26 undef, T.getD 27 undef, T.getD 28 undef, T.getD 29 undef, T.getD 30 undef, T.getD 31 undef, T.getD 32 undef, T.getD 33 undef, T.getD 34 undef, T.getD 35 undef, T.getD 36 undef, T.getD 37 undef, T.getD 38 undef, T.getD 39 undef, T.getD 40 undef, T.getD 41 undef, T.getD 42 undef, T.getD 43 undef, T.getD 44 undef, T.getD 45 undef, T.getD 46 undef, T.getD 47 undef, T.getD 48 undef, T.getD 49 undef, T.getD 50 undef, T.getD 51 undef, T.getD 52 undef, T.getD 53 undef, T.getD 54 undef, T.getD 55 undef, T.getD 56 undef, T.getD 57 undef, T.getD 58 undef, T.getD 59 undef, T.getD 60 undef, T.getD 61 undef, T.getD 62 undef, T.getD 63 undef, T.getD 64 undef, T.getD 65 undef, T.getD 66 undef, T.getD 67 undef, T.getD 68 undef, T.getD 69 undef, T.getD 70 undef, T.getD 71 undef, T.getD 72 undef, T.getD 73 undef, T.getD 74 undef, T.getD 75 undef, T.getD 76 undef, T.getD 77 undef, T.getD 78 undef, T.getD 79 undef, T.getD 80 undef, T.getD 81 undef, T.getD 82 undef, T.getD 83 undef, T.getD 84 undef, T.getD 85 undef, T.getD 86 undef, T.getD 87 undef, T.getD 88 undef, T.getD 89 undef, T.getD 90 undef, T.getD 91 undef, T.getD 92 undef, T.getD 93 undef, T.getD 94 undef, T.getD 95 undef, T.getD 96 undef, T.getD 97 undef, T.getD 98 undef, T.getD 99 undef, T.getD 100 undef, T.getD 101 undef, T.getD 102 undef, T.getD 103 undef, T.getD 104 undef, T.getD 105 undef, T.getD 106 undef, T.getD 107 undef, T.getD 108 undef, T.getD 109 undef, T.getD 110 undef, T.getD 111 undef, T.getD 112 undef, T.getD 113 undef, T.getD 114 undef, T.getD 115 undef, T.getD 116 undef, T.getD 117 undef, T.getD 118 undef, T.getD 119 undef, T.getD 120 undef, T.getD 121 undef, T.getD 122 undef, T.getD 123 undef, T.getD 124 undef, T.getD 125 undef, T.getD 126 undef, T.getD 127 undef, T.getD 128 undef, T.getD 129 undef, T.getD 130 undef, T.getD 131 undef, T.getD 132 undef, T.getD 133 undef, T.getD 134 undef, T.getD 135 undef, T.getD 136 undef, T.getD 137 undef, T.getD 138 undef, T.getD 139 undef, T.getD 140 undef, T.getD 141 undef, T.getD 142 undef, T.getD 143 undef, T.getD 144 undef, T.getD 145 undef, T.getD 146 undef, T.getD 147 undef, T.getD 148 undef, T.getD 149 undef, T.getD 150 undef, T.getD 151 undef, T.getD 152 undef, T.getD 153 undef, T.getD 154 undef, T.getD 155 undef, T.getD 156 undef, T.getD 157 undef, T.getD 158 undef, T.getD 159 undef, T.getD 160 undef, T.getD 161 undef, T.getD 162 undef, T.getD 163 undef, T.getD 164 undef, T.getD 165 undef, T.getD 166 undef, T.getD 167 undef, T.getD 168 undef, T.getD 169 undef, T.getD 170 undef, T.getD 171 undef, T.getD 172 undef, T.getD 173 undef, T.getD 174 undef, T.getD 175 undef, T.getD 176 undef, T.getD 177 undef, T.getD 178 undef, T.getD 179 undef, T.getD 180 undef, T.getD 181 undef, T.getD 182 undef, T.getD 183 undef, T.getD 184 undef, T.getD 185 undef, T.getD 186 undef, T.getD 187 undef, T.getD 188 undef, T.getD 189 undef, T.getD 190 undef, T.getD 191 undef, T.getD 192 undef, T.getD 193 undef, T.getD 194 undef, T.getD 195 undef, T.getD 196 undef, T.getD 197 undef, T.getD 198 undef, T.getD 199 undef, T.getD 200 undef, T.getD 201 undef, T.getD 202 undef, T.getD 203 undef, T.getD 204 undef, T.getD 205 undef, T.getD 206 undef, T.getD 207 undef, T.getD 208 undef, T.getD 209 undef, T.getD 210 undef, T.getD 211 undef, T.getD 212 undef, T.getD 213 undef, T.getD 214 undef, T.getD 215 undef, T.getD 216 undef, T.getD 217 undef, T.getD 218 undef, T.getD 219 undef, T.getD 220 undef, T.getD 221 undef, T.getD 222 undef, T.getD 223 undef, T.getD 224 undef, T.getD 225 undef, T.getD 226 undef, T.getD 227 undef, T.getD 228 undef] := expl hs
      rw [h5] at hE
      rw [hE]
      clear hE
      replace he := hide he
      replace hb := hide hb
      replace hv := hide hv
      generalize T.getD 0 undef = y0
      generalize T.getD 1 undef = y1
      generalize T.getD 2 undef = y2
      generalize T.getD 3 undef = y3
      generalize T.getD 4 undef = y4
      generalize T.getD 6 undef = y6
      generalize T.getD 7 undef = y7
      generalize T.getD 8 undef = y8
      generalize T.getD 9 undef = y9
      generalize T.getD 10 undef = y10
      generalize T.getD 11 undef = y11
      generalize T.getD 12 undef = y12
      generalize T.getD 13 undef = y13
      generalize T.getD 14 undef = y14
      generalize T.getD 15 undef = y15
      generalize T.getD 16 undef = y16
      generalize T.getD 17 undef = y17
      generalize T.getD 18 undef = y18
      generalize T.getD 19 undef = y19
      generalize T.getD 20 undef = y20
      generalize T.getD 21 undef = y21
      generalize T.getD 22 undef = y22
      generalize T.getD 23 undef = y23
      generalize T.getD 24 undef = y24
      generalize T.getD 25 undef = y25
      generalize T.getD 26 undef = y26
      generalize T.getD 27 undef = y27
      generalize T.getD 28 undef = y28
      generalize T.getD 29 undef = y29
      generalize T.getD 30 undef = y30
      generalize T.getD 31 undef = y31
      generalize T.getD 32 undef = y32
      generalize T.getD 33 undef = y33
      generalize T.getD 34 undef = y34
      generalize T.getD 35 undef = y35
      generalize T.getD 36 undef = y36
      generalize T.getD 37 undef = y37
      generalize T.getD 38 undef = y38
      generalize T.getD 39 undef = y39
      generalize T.getD 40 undef = y40
      generalize T.getD 41 undef = y41
      generalize T.getD 42 undef = y42
      generalize T.getD 43 undef = y43
      generalize T.getD 44 undef = y44
      generalize T.getD 45 undef = y45
      generalize T.getD 46 undef = y46
      generalize T.getD 47 undef = y47
      generalize T.getD 48 undef = y48
      generalize T.getD 49 undef = y49
      generalize T.getD 50 undef = y50
      generalize T.getD 51 undef = y51
      generalize T.getD 52 undef = y52
      generalize T.getD 53 undef = y53
      generalize T.getD 54 undef = y54
      generalize T.getD 55 undef = y55
      generalize T.getD 56 undef = y56
      generalize T.getD 57 undef = y57
      generalize T.getD 58 undef = y58
      generalize T.getD 59 undef = y59
      generalize T.getD 60 undef = y60
      generalize T.getD 61 undef = y61
      generalize T.getD 62 undef = y62
      generalize T.getD 63 undef = y63
      generalize T.getD 64 undef = y64
      generalize T.getD 65 undef = y65
      generalize T.getD 66 undef = y66
      generalize T.getD 67 undef = y67
      generalize T.getD 68 undef = y68
      generalize T.getD 69 undef = y69
      generalize T.getD 70 undef = y70
      generalize T.getD 71 undef = y71
      generalize T.getD 72 undef = y72
      generalize T.getD 73 undef = y73
      generalize T.getD 74 undef = y74
      generalize T.getD 75 undef = y75
      generalize T.getD 76 undef = y76
      generalize T.getD 77 undef = y77
      generalize T.getD 78 undef = y78
      generalize T.getD 79 undef = y79
      generalize T.getD 80 undef = y80
      generalize T.getD 81 undef = y81
      generalize T.getD 82 undef = y82
      generalize T.getD 83 undef = y83
      generalize T.getD 84 undef = y84
      generalize T.getD 85 undef = y85
      generalize T.getD 86 undef = y86
      generalize T.getD 87 undef = y87
      generalize T.getD 88 undef = y88
      generalize T.getD 89 undef = y89
      generalize T.getD 90 undef = y90
      generalize T.getD 91 undef = y91
      generalize T.getD 92 undef = y92
      generalize T.getD 93 undef = y93
      generalize T.getD 94 undef = y94
      generalize T.getD 95 undef = y95
      generalize T.getD 96 undef = y96
      generalize T.getD 97 undef = y97
      generalize T.getD 98 undef = y98
      generalize T.getD 99 undef = y99
      generalize T.getD 100 undef = y100
      generalize T.getD 101 undef = y101
      generalize T.getD 102 undef = y102
      generalize T.getD 103 undef = y103
      generalize T.getD 104 undef = y104
      generalize T.getD 105 undef = y105
      generalize T.getD 106 undef = y106
      generalize T.getD 107 undef = y107
      generalize T.getD 108 undef = y108
      generalize T.getD 109 undef = y109
      generalize T.getD 110 undef = y110
      generalize T.getD 111 undef = y111
      generalize T.getD 112 undef = y112
      generalize T.getD 113 undef = y113
      generalize T.getD 114 undef = y114
      generalize T.getD 115 undef = y115
      generalize T.getD 116 undef = y116
      generalize T.getD 117 undef = y117
      generalize T.getD 118 undef = y118
      generalize T.getD 119 undef = y119
      generalize T.getD 120 undef = y120
      generalize T.getD 121 undef = y121
      generalize T.getD 122 undef = y122
      generalize T.getD 123 undef = y123
      generalize T.getD 124 undef = y124
      generalize T.getD 125 undef = y125
      generalize T.getD 126 undef = y126
      generalize T.getD 127 undef = y127
      generalize T.getD 128 undef = y128
      generalize T.getD 129 undef = y129
      generalize T.getD 130 undef = y130
      generalize T.getD 131 undef = y131
      generalize T.getD 132 undef = y132
      generalize T.getD 133 undef = y133
      generalize T.getD 134 undef = y134
      generalize T.getD 135 undef = y135
      generalize T.getD 136 undef = y136
      generalize T.getD 137 undef = y137
      generalize T.getD 138 undef = y138
      generalize T.getD 139 undef = y139
      generalize T.getD 140 undef = y140
      generalize T.getD 141 undef = y141
      generalize T.getD 142 undef = y142
      generalize T.getD 143 undef = y143
      generalize T.getD 144 undef = y144
      generalize T.getD 145 undef = y145
      generalize T.getD 146 undef = y146
      generalize T.getD 147 undef = y147
      generalize T.getD 148 undef = y148
      generalize T.getD 149 undef = y149
      generalize T.getD 150 undef = y150
      generalize T.getD 151 undef = y151
      generalize T.getD 152 undef = y152
      generalize T.getD 153 undef = y153
      generalize T.getD 154 undef = y154
      generalize T.getD 155 undef = y155
      generalize T.getD 156 undef = y156
      generalize T.getD 157 undef = y157
      generalize T.getD 158 undef = y158
      generalize T.getD 159 undef = y159
      generalize T.getD 160 undef = y160
      generalize T.getD 161 undef = y161
      generalize T.getD 162 undef = y162
      generalize T.getD 163 undef = y163
      generalize T.getD 164 undef = y164
      generalize T.getD 165 undef = y165
      generalize T.getD 166 undef = y166
      generalize T.getD 167 undef = y167
      generalize T.getD 168 undef = y168
      generalize T.getD 169 undef = y169
      generalize T.getD 170 undef = y170
      generalize T.getD 171 undef = y171
      generalize T.getD 172 undef = y172
      generalize T.getD 173 undef = y173
      generalize T.getD 174 undef = y174
      generalize T.getD 175 undef = y175
      generalize T.getD 176 undef = y176
      generalize T.getD 177 undef = y177
      generalize T.getD 178 undef = y178
      generalize T.getD 179 undef = y179
      generalize T.getD 180 undef = y180
      generalize T.getD 181 undef = y181
      generalize T.getD 182 undef = y182
      generalize T.getD 183 undef = y183
      generalize T.getD 184 undef = y184
      generalize T.getD 185 undef = y185
      generalize T.getD 186 undef = y186
      generalize T.getD 187 undef = y187
      generalize T.getD 188 undef = y188
      generalize T.getD 189 undef = y189
      generalize T.getD 190 undef = y190
      generalize T.getD 191 undef = y191
      generalize T.getD 192 undef = y192
      generalize T.getD 193 undef = y193
      generalize T.getD 194 undef = y194
      generalize T.getD 195 undef = y195
      generalize T.getD 196 undef = y196
      generalize T.getD 197 undef = y197
      generalize T.getD 198 undef = y198
      generalize T.getD 199 undef = y199
      generalize T.getD 200 undef = y200
      generalize T.getD 201 undef = y201
      generalize T.getD 202 undef = y202
      generalize T.getD 203 undef = y203
      generalize T.getD 204 undef = y204
      generalize T.getD 205 undef = y205
      generalize T.getD 206 undef = y206
      generalize T.getD 207 undef = y207
      generalize T.getD 208 undef = y208
      generalize T.getD 209 undef = y209
      generalize T.getD 210 undef = y210
      generalize T.getD 211 undef = y211
      generalize T.getD 212 undef = y212
      generalize T.getD 213 undef = y213
      generalize T.getD 214 undef = y214
      generalize T.getD 215 undef = y215
      generalize T.getD 216 undef = y216
      generalize T.getD 217 undef = y217
      generalize T.getD 218 undef = y218
      generalize T.getD 219 undef = y219
      generalize T.getD 220 undef = y220
      generalize T.getD 221 undef = y221
      generalize T.getD 222 undef = y222
      generalize T.getD 223 undef = y223
      generalize T.getD 224 undef = y224
      generalize T.getD 225 undef = y225
      generalize T.getD 226 undef = y226
      generalize T.getD 227 undef = y227
      generalize T.getD 228 undef = y228
      clear h5 hs T
      go_wp2_with fail
      go_ret3
      show Q (.returned (.tuple #[v, .int .i64 0, .int .i64 0])) w
      rw [← hQ.out]
      show TokF W (lexT l) _ _
      rw [hR.out, he.out]
      exact ⟨hb.out, v, rfl, hv.out⟩
end Go.Proofs.YtiiihpokpfhclaaDoor
/- The document's Func: how it ends; a text that is no list of tokens. Written by mkfunc6.py. -/
namespace Go.Proofs.YtiiihpokpfhclaaDoor
open Go Go.RowKit Go.Lib

/-- The blocks that Func makes: its result, the parser, the function; the tokens' own. -/
structure BaseF (W wB : World) (p gf gR : Nat) (C : Cx) (len : Nat) : Prop where
  hb : Below W.heap.size W wB
  hR : W.heap.size ≤ gR
  h1 : gR < p
  h2 : p < gf
  h3 : gf < wB.heap.size
  tk : ∀ k, C.vt.ownBlock = some k → k < wB.heap.size ∧ k ≠ gf ∧ k ≠ gR ∧ W.heap.size ≤ k
  clen : C.len = len
section
variable {W wB cur : World} {p gf gR len : Nat} {C : Cx}
theorem BaseF.pg (h : BaseF W wB p gf gR C len) : ¬ At gf p := fun e => by have := h.h2; simp only [At] at e; omega
theorem BaseF.gt (h : BaseF W wB p gf gR C len) : ∀ k, C.vt.ownBlock = some k → ¬ At gf k := fun k hk e => (h.tk k hk).2.1 e
theorem BaseF.gp (h : BaseF W wB p gf gR C len) : ¬ At p gf := fun e => by have := h.h2; simp only [At] at e; omega
theorem BaseF.Rp (h : BaseF W wB p gf gR C len) : ¬ At p gR := fun e => by have := h.h1; simp only [At] at e; omega
theorem BaseF.Rg (h : BaseF W wB p gf gR C len) : ¬ At gf gR := fun e => by have := h.h1; have := h.h2; simp only [At] at e; omega
theorem BaseF.below (h : BaseF W wB p gf gR C len) (hu : Upd (fun b => b = p ∨ b = gf) wB cur) : Below W.heap.size W cur := by
  have a1 := h.hR
  have a2 := h.h1
  have a3 := h.h2
  exact ((Upd.of_below (fun _ => False) h.hb).trans (G := fun b => b = p ∨ b = gf) hu fun k hk e => by rcases e with e | e <;> omega).below (Nat.le_refl _) fun b e => e.elim
abbrev zF : Value := .agg #[.string ⟨#[]⟩, .slice none 0 0, .slice none 0 0, .slice none 0 0]
theorem dead_end {w : World} {p k d n len : Nat} {C : Cx} {r : List Tok} {Xr : Rs Fn7} (h : Dead w p C k (atOf C.len r) d n) (hX : .er r k = Xr) (hl : C.len = len) : ∃ k9 a9 : Nat, wholeP len Xr = some (.error (a9, k9)) ∧ k9 ≠ 0 ∧ ∃ i, RfW w p C i k9 a9 d n := by
  subst hX hl
  exact ⟨k, _, rfl, h.1, h.2⟩
theorem dead_end2 {w : World} {p d n len : Nat} {C : Cx} {x : Fn7} {r : List Tok} {Xr : Rs Fn7} (h : Dead w p C 51 (atOf C.len r) d n) (hX : .ok x r = Xr) (hr : r ≠ []) (hl : C.len = len) : ∃ k9 a9 : Nat, wholeP len Xr = some (.error (a9, k9)) ∧ k9 ≠ 0 ∧ ∃ i, RfW w p C i k9 a9 d n := by
  subst hX hl
  refine ⟨51, atOf C.len r, ?_, h.1, h.2⟩
  cases r with
  | nil => exact absurd rfl hr
  | cons t r => rfl
/-- What a variable more comes to: in memory. -/
def OutM (p : Nat) (C : Cx) (d n : Nat) (B : Nat) (l : List Vr) (b : Bool) (m : Nat) (r : List Tok) (v' : Value) (w' : World) : Prop :=
  if isNm r = true then (if l.length = m then JS v' ∧ Dead w' p C 53 (atOf C.len r) d n else RowS w' B 95 2 VarP (l ++ [⟨txt r, b⟩]) v' ∧ Lv w' p C 0 d n r.tail)
  else JS v' ∧ Dead w' p C 51 (atOf C.len r) d n
theorem OutM.upd {w w' : World} {p d n B m : Nat} {C : Cx} {l : List Vr} {b : Bool} {r : List Tok} {v' : Value} {F : Nat → Prop} (h : OutM p C d n B l b m r v' w) (hu : Upd F w w') (hp : ¬ F p) (hF : ∀ k, C.vt.ownBlock = some k → ¬ F k) (hB : ∀ b, B ≤ b → ¬ F b) : OutM p C d n B l b m r v' w' := by
  unfold OutM at h ⊢
  split
  · rename_i h1
    rw [if_pos h1] at h
    split
    · rename_i h2
      rw [if_pos h2] at h
      exact ⟨h.1, h.2.upd hu hp hF⟩
    · rename_i h2
      rw [if_neg h2] at h
      exact ⟨h.1.upd varFam hu hB, h.2.upd hu hp hF⟩
  · rename_i h1
    rw [if_neg h1] at h
    exact ⟨h.1, h.2.upd hu hp hF⟩
theorem OutM.js {w : World} {p d n B m : Nat} {C : Cx} {l : List Vr} {b : Bool} {r : List Tok} {v' : Value} (h : OutM p C d n B l b m r v' w) : JS v' := by
  unfold OutM at h
  split at h
  · split at h
    · exact h.1
    · obtain ⟨A, c, e⟩ := h.1.slice
      exact ⟨A, _, c, e⟩
  · exact h.1
/-- The state as a parameter is read. -/
structure FL (p gf gR : Nat) (C : Cx) (B : Nat) (r : List Tok) (l : List Vr) (v1 : Value) (nm : ByteArray) (w : World) : Prop where
  hs : Lv w p C 0 0 0 r
  row : RowS w B 95 2 VarP l v1
  hg : w.heap[gf]? = some (.cells #[.string nm, v1, .slice none 0 0, .slice none 0 0] 31 (0, 0))
  hr : w.heap[gR]? = some (.cells #[.string ⟨#[]⟩, .slice none 0 0, .slice none 0 0, .slice none 0 0] 31 (0, 0))
structure FM (p gf gR : Nat) (C : Cx) (B : Nat) (l : List Vr) (b : Bool) (r : List Tok) (v1 : Value) (nm : ByteArray) (v : Value) (w : World) : Prop where
  out : OutM p C 0 0 B l b 6 r v w
  hg : w.heap[gf]? = some (.cells #[.string nm, v1, .slice none 0 0, .slice none 0 0] 31 (0, 0))
  hr : w.heap[gR]? = some (.cells #[.string ⟨#[]⟩, .slice none 0 0, .slice none 0 0, .slice none 0 0] 31 (0, 0))
theorem FL.below {p gf gR : Nat} {C : Cx} {B : Nat} {r : List Tok} {l : List Vr} {v1 : Value} {nm : ByteArray} {w w' : World} (h : FL p gf gR C B r l v1 nm w) (hb : Below w.heap.size w w') : FL p gf gR C B r l v1 nm w' :=
  ⟨h.hs.below hb, h.row.upd varFam (.of_below (fun _ => False) hb) fun _ _ => id, heapB h.hg hb, heapB h.hr hb⟩
theorem FM.below {p gf gR : Nat} {C : Cx} {B : Nat} {l : List Vr} {b : Bool} {r : List Tok} {v1 : Value} {nm : ByteArray} {v : Value} {w w' : World} (h : FM p gf gR C B l b r v1 nm v w) (hb : Below w.heap.size w w') : FM p gf gR C B l b r v1 nm v w' :=
  ⟨h.out.upd (.of_below (fun _ => False) hb) id (fun _ _ => id) fun _ _ => id, heapB h.hg hb, heapB h.hr hb⟩
def FE (p gf gR : Nat) (C : Cx) (B : Nat) (l : List Vr) (b : Bool) (r : List Tok) (nm : ByteArray) (w : World) : Prop := ∃ v, JS v ∧ FM p gf gR C B l b r v nm v w
theorem FE.below {p gf gR : Nat} {C : Cx} {B : Nat} {l : List Vr} {b : Bool} {r : List Tok} {nm : ByteArray} {w w' : World} (h : FE p gf gR C B l b r nm w) (hb : Below w.heap.size w w') : FE p gf gR C B l b r nm w' := by
  obtain ⟨v, h1, h2⟩ := h
  exact ⟨v, h1, h2.below hb⟩
theorem JS.kept {F : Nat → Prop} : FKept F (fun v _ => JS v) := fun _ _ _ h _ => h
def tlQ (r : List Tok) : List Tok := if nx r [42] = true then r.tail else r
theorem paramP_ok {n : Nat} {r : List Tok} (h : isNm (tlQ r) = true) (hn : ¬ n = 6) : paramP n r = .ok ⟨txt (tlQ r), nx r [42]⟩ (tlQ r).tail := by
  show (declP n 6 (tlQ r)).bind _ = _
  unfold declP nameP
  rw [if_pos h]
  show Rs.bind (if n = 6 then _ else _) _ = _
  rw [if_neg hn]
  rfl
theorem paramP_many {n : Nat} {r : List Tok} (h : isNm (tlQ r) = true) (hn : n = 6) : paramP n r = .er (tlQ r) 53 := by
  show (declP n 6 (tlQ r)).bind _ = _
  unfold declP nameP
  rw [if_pos h]
  show Rs.bind (if n = 6 then _ else _) _ = _
  rw [if_pos hn]
  rfl
theorem paramP_no {n : Nat} {r : List Tok} (h : isNm (tlQ r) = false) : paramP n r = .er (tlQ r) 51 := by
  show (declP n 6 (tlQ r)).bind _ = _
  unfold declP nameP
  rw [if_neg (by rw [h]; exact Bool.false_ne_true)]
  rfl
theorem decl_ok {n m : Nat} {r : List Tok} (h : isNm r = true) (hn : ¬ n = m) : declP n m r = .ok (txt r) r.tail := by
  unfold declP nameP
  rw [if_pos h]
  show (if n = m then _ else _) = _
  rw [if_neg hn]
theorem decl_many {n m : Nat} {r : List Tok} (h : isNm r = true) (hn : n = m) : declP n m r = .er r 53 := by
  unfold declP nameP
  rw [if_pos h]
  show (if n = m then _ else _) = _
  rw [if_pos hn]
theorem decl_no {n m : Nat} {r : List Tok} (h : isNm r = false) : declP n m r = .er r 51 := by
  unfold declP nameP
  rw [if_neg (by rw [h]; exact Bool.false_ne_true)]
  rfl
theorem locs_more6 {g : Nat} {l : List Vr} {r : List Tok} (h : nx r [118, 97, 114] = true ∨ nx r [112, 116, 114] = true) : localsP (g + 1) l r = (declP l.length 20 r.tail).bind fun x r' => (want [59] r').bind fun _ r' => localsP g (l ++ [⟨x, nx r [112, 116, 114]⟩]) r' := by
  conv => lhs; unfold localsP
  rw [if_pos h]
theorem locs_end6 {g : Nat} {l : List Vr} {r : List Tok} (h1 : nx r [118, 97, 114] = false) (h2 : nx r [112, 116, 114] = false) : localsP (g + 1) l r = .ok l r := by
  conv => lhs; unfold localsP
  rw [if_neg (by rw [h1, h2]; simp)]
theorem BaseF.Bb (h : BaseF W wB p gf gR C len) : wB.heap.size ≤ wB.heap.size ∧ p < wB.heap.size ∧ gf < wB.heap.size ∧ gR < wB.heap.size := by
  have := h.h1
  have := h.h2
  have := h.h3
  omega
end
theorem bind_assoc6 {α β γ : Type} (X : Rs α) (f : α → List Tok → Rs β) (g : β → List Tok → Rs γ) : (X.bind f).bind g = X.bind fun a r => (f a r).bind g := by cases X <;> rfl
theorem whole_er {r : List Tok} {k len : Nat} {Xr : Rs Fn7} (h : .er r k = Xr) : wholeP len Xr = some (.error (atOf len r, k)) := by subst h; rfl
end Go.Proofs.YtiiihpokpfhclaaDoor
