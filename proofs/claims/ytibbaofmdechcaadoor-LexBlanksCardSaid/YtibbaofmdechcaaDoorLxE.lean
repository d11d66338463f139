/- The walk of lex.Tokens. -/
import Derived.Test.YtibbaofmdechcaaDoorLxD
namespace Go.Proofs.YtibbaofmdechcaaDoor
open Go Go.RowKit

theorem begin_kind (i : Nat) (c : UInt8) : (St.begin i c).kind = kindB c.toNat := by
  unfold St.begin kindB
  have h35 : c = 35 ↔ c.toNat = 35 := ⟨fun h => by rw [h]; rfl, fun h => UInt8.toNat_inj.1 (by rw [h]; rfl)⟩
  by_cases h1 : blankB c.toNat = true
  · rw [if_pos h1, if_pos h1]; rfl
  · rw [if_neg h1, if_neg h1]
    by_cases h2 : c = 35
    · rw [if_pos h2, if_pos (h35.1 h2)]; rfl
    · rw [if_neg h2, if_neg (fun h => h2 (h35.2 h))]
      by_cases h3 : letterB c.toNat = true
      · rw [if_pos h3, if_pos h3]; rfl
      · rw [if_neg h3, if_neg h3]
        by_cases h4 : digitB c.toNat = true
        · rw [if_pos h4, if_pos h4]; rfl
        · rw [if_neg h4, if_neg h4]; rfl
theorem begin_fits {T : List UInt8} {i : Nat} {c : UInt8} (h : T[i]? = some c) : (St.begin i c).fits T i (i + 1) := by
  have hi : i < T.length := by
    rcases Nat.lt_or_ge i T.length with h1 | h1
    · exact h1
    · rw [List.getElem?_eq_none h1] at h; cases h
  have hw : [c] = (T.drop i).take (i + 1 - i) := by
    rw [take_next (Nat.le_refl i) h]
    simp
  unfold St.begin
  split
  · trivial
  · split
    · trivial
    · split
      · exact ⟨rfl, by omega, by omega, hw, by omega, fun h => by cases h⟩
      · split
        · rename_i hd
          exact ⟨rfl, by omega, by omega, hw, by omega, fun _ x hx => by rw [List.mem_singleton] at hx; rw [hx]; exact hd⟩
        · exact ⟨rfl, by omega, by omega, hw, by omega, fun h => by cases h⟩
theorem push_fits {T : List UInt8} {fr i : Nat} {c : UInt8} {st : St} (hs : st.fits T fr i) (h : T[i]? = some c) (hg : st.goes c = true) : (st.push c).fits T fr (i + 1) := by
  have hi : i < T.length := by
    rcases Nat.lt_or_ge i T.length with h1 | h1
    · exact h1
    · rw [List.getElem?_eq_none h1] at h; cases h
  cases st with
  | blank => trivial
  | com => trivial
  | word k f x =>
    obtain ⟨rfl, h1, h2, hx, hk, h3⟩ := hs
    refine ⟨rfl, by omega, by omega, ?_, hk, ?_⟩
    · rw [take_next (by omega) h, hx]
    · rintro rfl y hy
      rw [List.mem_append, List.mem_singleton] at hy
      rcases hy with hy | rfl
      · exact h3 rfl y hy
      · exact hg
theorem push_kind (st : St) (c : UInt8) : (st.push c).kind = st.kind := by cases st <;> rfl
theorem fin_len {st : St} {ts ts' : List Tok} {c : UInt8} (h : st.fin ts c = .ok ts') : ts'.length ≤ ts.length + 1 := by
  cases st with
  | blank => injection h with h; rw [← h]; omega
  | com => injection h with h; rw [← h]; omega
  | word k f x =>
    by_cases hz : fault k x c = 0
    · rw [fin_ok hz] at h
      injection h with h; rw [← h]; simp
    · rw [fin_err rfl hz] at h; cases h
theorem runT_goes {st : St} {i : Nat} {ts : List Tok} {c : UInt8} {r : List UInt8} (h : st.goes c = true) : runT st i ts (c :: r) = runT (st.push c) (i + 1) ts r := by
  rw [runT, if_pos h]
theorem runT_err {st : St} {i : Nat} {ts : List Tok} {c : UInt8} {r : List UInt8} {x : Nat × Nat} (h : st.goes c = false) (hf : st.fin ts c = .error x) : runT st i ts (c :: r) = .error x := by
  rw [runT, if_neg (by rw [h]; simp), hf]
theorem runT_ok {st : St} {i : Nat} {ts ts' : List Tok} {c : UInt8} {r : List UInt8} (h : st.goes c = false) (hf : st.fin ts c = .ok ts') : runT st i ts (c :: r) = runT (St.begin i c) (i + 1) ts' r := by
  rw [runT, if_neg (by rw [h]; simp), hf]
theorem drop_at {T : List UInt8} {i : Nat} (h : i < T.length) : ∃ c, T[i]? = some c ∧ T.drop i = c :: T.drop (i + 1) := ⟨T[i], List.getElem?_eq_getElem h, List.drop_eq_getElem_cons h⟩

/-- What Tokens comes to. -/
def TokF (W : World) (r : Res) (e : Ending) (w : World) : Prop :=
  Below W.heap.size W w ∧ match r with
    | .ok ts => ∃ v, e = .returned (.tuple #[v, .int .i64 0, .int .i64 0]) ∧ ToksR w W.heap.size v ts
    | .error (a, n) => e = .returned (.tuple #[.slice none 0 0, .int .i64 a, .int .i64 n]) ∧ n ≠ 0

set_option maxRecDepth 100000 in
set_option maxHeartbeats 1600000 in
theorem tokens_any (l : List UInt8) (hl : l.length ≤ 900000) (W : World) (hE : ErrR W) : Calls Tryd.prog 9 #[.string (strB l)] W fun e w' => TokF W (lexT l) e w' := by
  have hz : (strB l).size = l.length := rfl
  have hN := hide (newReader_any l (by omega) W)
  generalize hQ : (fun e w' => TokF W (lexT l) e w') = Q
  replace hQ := hide hQ
  replace hE := hide hE
  go_enter Tryd.func9, Tryd.ntmps9
  by_cases h4 : 4096 < l.length
  · have h4' : (4096 : Int) < (l.length : Int) := by omega
    go_wp2_with fail
    go_ret3
    show Q (.returned (.tuple #[.slice none 0 0, .int .i64 0, .int .i64 53])) _
    rw [← hQ.out]
    show TokF W (lexT l) _ _
    unfold lexT
    rw [if_pos h4]
    exact ⟨Below.refl _ _, rfl, by decide⟩
  · have hlx : lexT l = runT .blank 0 [] (l ++ [10]) := by unfold lexT; rw [if_neg h4]
    obtain ⟨tx, htx⟩ : ∃ tx, tx = l ++ [10] := ⟨_, rfl⟩
    have hlen : tx.length = l.length + 1 := by rw [htx]; simp
    have hzt : (strB tx).size = tx.length := rfl
    rw [← htx] at hN hlx
    replace hlx := hide hlx
    clear htx
    go_wp2_with fail
    refine hN.out.mono ?_
    rintro e w1 ⟨rfl, hR, hb⟩
    have c0 : w1.cell? ⟨W.heap.size, 0, none⟩ = some (.string (strB tx)) := by
      obtain ⟨v, h1, -⟩ := hR.row
      exact cell_at h1 0
    have hp := hide hR.lt
    replace hR := hide hR
    replace hb := hide hb
    go_wp2_with fail
    go_loopw [18] (fun z wr => ∃ (i : Nat) (st : St) (ts : List Tok) (fr : Nat), i ≤ tx.length ∧ z = .int .i64 i ∧ ts.length ≤ i ∧ RdrV wr W.heap.size W.heap.size tx ts st.kind fr ∧ st.fits tx fr i ∧ Below W.heap.size W wr ∧ runT st i ts (tx.drop i) = lexT l) (fun z _ => tx.length - (intOf z).toNat)
    case atStart => exact ⟨0, .blank, [], 0, Nat.zero_le _, rfl, Nat.le_refl _, hR.out, trivial, hb.out, by rw [hlx.out]; rfl⟩
    case round =>
      obtain ⟨i, st, ts, fr, hi, rfl, hts, hRr, hfit, hbr, hrun⟩ := hrel
      have hEr := hide (hE.out.below hbr)
      replace hbr := hide hbr
      replace hrun := hide hrun
      replace hRr := hide hRr
      replace hfit := hide hfit
      by_cases hlt : i < tx.length
      · obtain ⟨c, hc, hd⟩ := drop_at hlt
        have hlt' : (i : Int) < (tx.length : Int) := by omega
        rw [hd] at hrun
        have hG := hide (goesOn_any W.heap.size W.heap.size tx ts st fr i c wr hRr.out hfit.out hc (by omega))
        go_wp2_with fail
        refine hG.out.mono ?_
        rintro e w2 ⟨rfl, hb2⟩
        have hR2 := hide (hRr.out.upd hb2)
        have hE2 := hide (hEr.out.below hb2)
        have hW2 := hide (hbr.out.trans (hb2.mono hbr.out.size))
        clear hb2
        cases hg : st.goes c with
        | true =>
          have hrun2 := hrun.out
          rw [runT_goes hg] at hrun2
          replace hrun2 := hide hrun2
          have hgh := hide hg
          clear hg
          go_wp2_with fail
          go_roundw
          case rel => exact ⟨i + 1, st.push c, ts, fr, by omega, by go_num, by omega, by rw [push_kind]; exact hR2.out, push_fits hfit.out hc hgh.out, hW2.out, hrun2.out⟩
          case measure => simp [intOf]; omega
        | false =>
          have hgh := hide hg
          clear hg
          have hEn := hide (end_any W.heap.size W.heap.size tx ts st fr i c w2 hR2.out hfit.out hc (by omega) (by omega) hE2.out)
          go_wp2_with fail
          refine hEn.out.mono ?_
          rintro e w3 ⟨hb3, hres⟩
          have hW3 := hide (hW2.out.trans hb3)
          cases hf : st.fin ts c with
          | error x =>
            obtain ⟨a, n⟩ := x
            rw [hf] at hres
            obtain ⟨rfl, hn, rfl, hR3⟩ := hres
            have hrun2 := hrun.out
            rw [runT_err hgh.out hf] at hrun2
            replace hrun2 := hide hrun2
            have hn' : ((n : Int) != 0) = true := by rw [bne_iff_ne]; omega
            have c3 : w3.cell? ⟨W.heap.size, 3, none⟩ = some (.int .i64 a) := by
              obtain ⟨v, h1, -⟩ := hR3.row
              exact cell_at h1 3
            clear hf hb3 hR3
            go_wp2_with fail
            go_region
            all_goals go_wp2_with fail
            all_goals go_ret3
            all_goals (
              show Q (.returned (.tuple #[.slice none 0 0, .int .i64 a, .int .i64 n])) _
              rw [← hQ.out]
              show TokF W (lexT l) _ _
              rw [← hrun2.out]
              exact ⟨⟨hW3.out.os, hW3.out.tape, hW3.out.output, hW3.out.size, hW3.out.block⟩, rfl, hn⟩)
          | ok ts' =>
            rw [hf] at hres
            obtain ⟨rfl, hR3⟩ := hres
            have hts' := fin_len hf
            have hrun2 := hrun.out
            rw [runT_ok hgh.out hf] at hrun2
            replace hrun2 := hide hrun2
            have hBe := hide (begin_any W.heap.size W.heap.size tx ts' _ fr i c w3 hR3 hc)
            clear hf hb3 hR3
            go_wp2_with fail
            refine hBe.out.mono ?_
            rintro e w4 ⟨rfl, hR4, hb4⟩
            have hW4 := hide (hW3.out.trans hb4)
            replace hR4 := hide hR4
            clear hb4
            go_wp2_with fail
            go_roundw
            case rel => exact ⟨i + 1, St.begin i c, ts', i, by omega, by go_num, by omega, by rw [begin_kind]; exact hR4.out, begin_fits hc, hW4.out, hrun2.out⟩
            case measure => simp [intOf]; omega
      · obtain rfl : i = tx.length := by omega
        have hlt' : ¬ ((tx.length : Int) < (tx.length : Int)) := by omega
        rw [List.drop_length] at hrun
        obtain ⟨v, h1, h2⟩ := hRr.out.row
        have c1 : wr.cell? ⟨W.heap.size, 1, none⟩ = some v := cell_at h1 1
        replace h1 := hide h1
        replace h2 := hide h2
        go_wp2_with fail
        go_ret3
        show Q (.returned (.tuple #[v, .int .i64 0, .int .i64 0])) _
        rw [← hQ.out]
        show TokF W (lexT l) _ _
        rw [← hrun.out]
        exact ⟨hbr.out, v, rfl, h2.out⟩
end Go.Proofs.YtibbaofmdechcaaDoor
