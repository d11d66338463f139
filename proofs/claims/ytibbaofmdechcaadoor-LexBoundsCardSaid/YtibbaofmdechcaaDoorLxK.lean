/- The chapter's example; the walk of LexReads. -/
import Derived.Test.YtibbaofmdechcaaDoorLxH
namespace Go.Proofs.YtibbaofmdechcaaDoor
open Go Go.RowKit

theorem tokF_ok {W w : World} {e : Ending} {ts : List Tok} (h : TokF W (.ok ts) e w) : ∃ A c, e = .returned (.tuple #[.slice A ts.length c, .int .i64 0, .int .i64 0]) ∧ ToksR w W.heap.size (.slice A ts.length c) ts ∧ Below W.heap.size W w := by
  obtain ⟨hb, v, rfl, hv⟩ := h
  obtain ⟨A, c, rfl, -⟩ := hv.slice
  exact ⟨A, c, rfl, hv, hb⟩
theorem tokF_err {W w : World} {e : Ending} {a n : Nat} (h : TokF W (.error (a, n)) e w) : e = .returned (.tuple #[.slice none 0 0, .int .i64 a, .int .i64 n]) ∧ n ≠ 0 ∧ Below W.heap.size W w := ⟨h.2.1, h.2.2, h.1⟩
theorem lex_known1 : lexT [97, 60, 61, 98, 32, 35, 32, 99] = .ok [⟨0, [97], 0⟩, ⟨2, [60, 61], 1⟩, ⟨0, [98], 3⟩] := by rfl
theorem lex_known2 : lexT [97, 32, 36] = .error (2, 50) := by rfl

set_option maxRecDepth 100000 in
set_option maxHeartbeats 1600000 in
theorem known_any (W : World) (hE : ErrR W) : Calls Tryd.prog 8 #[] W fun e w' => e = .returned (.bool true) ∧ Below W.heap.size W w' := by
  have h1 := hide (tokens_any [97, 60, 61, 98, 32, 35, 32, 99] (by decide) W hE)
  rw [lex_known1] at h1
  replace hE := hide hE
  go_enter Tryd.func8, Tryd.ntmps8
  go_wp2_with fail
  refine h1.out.mono ?_
  intro e w1 hr
  obtain ⟨A, c, rfl, hv, hb⟩ := tokF_ok hr
  clear hr
  have h2 := hide (tokens_any [97, 32, 36] (by decide) w1 (hE.out.below hb))
  rw [lex_known2] at h2
  replace hb := hide hb
  replace hv := hide hv
  go_wp2_with fail
  refine h2.out.mono ?_
  intro e w2 hr
  obtain ⟨rfl, -, hb2⟩ := tokF_err hr
  clear hr
  have hv2 := hv.out.below hb2
  obtain ⟨b, rfl, -, -, p1, -⟩ := hv2.get (i := 1) (by decide)
  obtain ⟨b', e, -, -, -, p2⟩ := hv2.get (i := 2) (by decide)
  injection e with e; injection e with e; subst e
  have hb3 := hide (hb.out.trans (hb2.mono hb.out.size))
  clear hv2 hb2
  simp at p1 p2
  unfold strB at p1
  go_wp2_with fail
  go_ret
  exact ⟨rfl, hb3.out⟩
set_option maxRecDepth 100000 in
set_option maxHeartbeats 1600000 in
theorem lexReads_any (l : List UInt8) (W : World) (hE : ErrR W) : Calls Tryd.prog 3 #[.string (strB l)] W fun e w' => e = .returned (.bool true) ∧ Below W.heap.size W w' := by
  have hz : (strB l).size = l.length := rfl
  have hK := hide (known_any W hE)
  replace hE := hide hE
  go_enter Tryd.func3, Tryd.ntmps3
  go_wp2_with fail
  refine hK.out.mono ?_
  rintro e w1 ⟨rfl, hb⟩
  replace hb := hide hb
  by_cases h4 : 4500 < l.length
  · have h4' : (4500 : Int) < (l.length : Int) := by omega
    go_wp2_with fail
    go_ret
    exact ⟨rfl, hb.out⟩
  · have h4' : ¬ (4500 : Int) < (l.length : Int) := by omega
    have h1 := hide (tokens_any l (by omega) w1 (hE.out.below hb.out))
    go_wp2_with fail
    refine h1.out.mono ?_
    intro e w2 hr
    have h2 := hide (refTokens_any l (by omega) w2)
    cases hR : lexT l with
    | error x =>
      obtain ⟨a, n⟩ := x
      rw [hR] at hr h2
      obtain ⟨rfl, -, hb2⟩ := tokF_err hr
      have hb2' := hide (hb.out.trans (hb2.mono hb.out.size))
      clear hr hb2 h1 hR
      go_wp2_with fail
      refine h2.out.mono ?_
      intro e w3 hr
      obtain ⟨rfl, -, hb3⟩ := tokF_err hr
      have hb3' := hide (hb2'.out.trans (hb3.mono hb2'.out.size))
      have hS := hide (sameToks_any 0 0 (.slice none 0 0) (.slice none 0 0) [] w3 (World.ownsRow_nil _ _ _ _) (World.ownsRow_nil _ _ _ _))
      clear hr hb3
      go_wp2_with fail
      refine hS.out.mono ?_
      rintro e w4 ⟨rfl, hb4⟩
      have hb4' := hide (hb3'.out.trans (hb4.mono hb3'.out.size))
      clear hb4
      go_wp2_with fail
      go_ret
      exact ⟨rfl, hb4'.out⟩
    | ok ts =>
      rw [hR] at hr h2
      obtain ⟨A, c, rfl, hv, hb2⟩ := tokF_ok hr
      have hb2' := hide (hb.out.trans (hb2.mono hb.out.size))
      replace hv := hide hv
      clear hr hb2 h1 hR
      go_wp2_with fail
      refine h2.out.mono ?_
      intro e w3 hr
      obtain ⟨A2, c2, rfl, hv2, hb3⟩ := tokF_ok hr
      have hb3' := hide (hb2'.out.trans (hb3.mono hb2'.out.size))
      have hS := hide (sameToks_any _ _ _ _ ts w3 (hv.out.below hb3) hv2)
      clear hr hb3 hv2
      go_wp2_with fail
      refine hS.out.mono ?_
      rintro e w4 ⟨rfl, hb4⟩
      have hb4' := hide (hb3'.out.trans (hb4.mono hb3'.out.size))
      clear hb4
      go_wp2_with fail
      go_ret
      exact ⟨rfl, hb4'.out⟩
theorem lexReads_str (s : ByteArray) (W : World) (hE : ErrR W) : Calls Tryd.prog 3 #[.string s] W fun e w' => e = .returned (.bool true) ∧ Below W.heap.size W w' := by
  rw [strB_eq s]
  exact lexReads_any _ W hE
end Go.Proofs.YtibbaofmdechcaaDoor
