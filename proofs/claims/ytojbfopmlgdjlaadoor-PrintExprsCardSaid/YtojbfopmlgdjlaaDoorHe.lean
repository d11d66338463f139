/- Walks of the helps: LightE, RightE. -/
import Derived.Test.YtojbfopmlgdjlaaDoorTr
import Derived.Test.YtojbfopmlgdjlaaDoorGPsF
namespace Go.Proofs.YtojbfopmlgdjlaaDoor
open Go Go.RowKit

theorem NdV.out {w : World} {S : Nat → Prop} {b o : Nat} {k n : Int} {s : ByteArray} {va vb : Value} (h : NdV w S b o k n s va vb) : S b ∧ w.cell? ⟨b, o, none⟩ = some (.int .i64 k) ∧ w.cell? ⟨b, o + 1, none⟩ = some (.int .i64 n) ∧ w.cell? ⟨b, o + 2, none⟩ = some (.string s) ∧ w.cell? ⟨b, o + 3, none⟩ = some va ∧ w.cell? ⟨b, o + 4, none⟩ = some vb := h
def LightR (T : XT) (g : Nat) (left : Int) (w : World) (r : Ending) (w' : World) : Prop :=
  ∃ (q : Bool) (l' : Int), r = .returned (.bool q) ∧ Upd (fun k => k = g) w w' ∧ w'.heap[g]? = some (.cells #[.int .i64 l'] 3 (0, 0)) ∧ -1 ≤ l' ∧ l' ≤ 1000 ∧ (q = true → l' = left - sizeX T ∧ 0 ≤ l' ∧ shortX T)
set_option maxRecDepth 100000 in
set_option maxHeartbeats 1600000 in
theorem light_any (S : Nat → Prop) (g : Nat) (hSg : ∀ b, S b → ¬ b = g) : ∀ (T : XT) (w : World) (left deep : Int), TrV w S T → w.heap[g]? = some (.cells #[.int .i64 left] 3 (0, 0)) → 0 ≤ left → left ≤ 1000 → -1 ≤ deep → deep ≤ 1000 →
    Calls Tryd.prog 7 #[T.ptr, .pointer (some ⟨g, 0, none⟩), .int .i64 deep] w fun r w' => LightR T g left w r w'
  | .nil, w, left, deep, _, hg, h1, h2, _, _ => by
    show Calls _ _ #[.pointer none, _, _] _ _
    go_enter Tryd.func7, Tryd.ntmps7
    go_wp2_with fail
    go_ret
    exact ⟨true, left, rfl, .refl _ _, hg, by omega, h2, fun _ => ⟨by simp [sizeX], h1, trivial⟩⟩
  | .node b o a l r, w, left, deep, hT, hg, h1, h2, h3, h4 => by
    have hT1 := TrV.upd (Upd.set w (F := fun k => k = g) (a := ⟨g, 0, none⟩) rfl (.int .i64 (left - 1))) hSg hT
    have u1 := hide (Upd.set w (F := fun k => k = g) (a := ⟨g, 0, none⟩) rfl (.int .i64 (left - 1)))
    have hg1 := heap_set hg 0 (.int .i64 (left - 1))
    simp at hg1
    have cg := cell_at hg 0
    have fg := frozen_at hg 0
    have cg1 := cell_at hg1 0
    simp at cg cg1
    obtain ⟨hN, -, -, -, hTl, hTr⟩ := hT1
    obtain ⟨hS, d0, d1, d2, d3, d4⟩ := hN.out
    have ihl := hide (fun w' (h : TrV w' S l) (l' : Int) hg' q1 q2 => light_any S g hSg l w' l' (deep - 1) h hg' q1 q2)
    have ihr := hide (fun w' (h : TrV w' S r) (l' : Int) hg' q1 q2 => light_any S g hSg r w' l' (deep - 1) h hg' q1 q2)
    have hw1 : IntKind.i64.wrap (left - 1) = left - 1 := by simp [IntKind.wrap, IntKind.bits, IntKind.signed]; omega
    replace hTl := hide hTl
    replace hTr := hide hTr
    replace hg1 := hide hg1
    clear hN hg d0 d1
    generalize hse : a.2.2 = s at *
    replace hse := hide hse
    show Calls _ _ #[.pointer (some ⟨b, o, none⟩), _, _] _ _
    by_cases hq : left - 1 < 0 ∨ deep < 0 ∨ 50 < (s.size : Int)
    · go_enter Tryd.func7, Tryd.ntmps7
      go_wp2_with fail
      all_goals (go_ret; exact ⟨false, left - 1, rfl, u1.out, hg1.out, by omega, by omega, fun h => by cases h⟩)
    · have q1 : ¬ left - 1 < 0 := fun h => hq (.inl h)
      have q2 : ¬ deep < 0 := fun h => hq (.inr (.inl h))
      have q3 : ¬ 50 < (s.size : Int) := fun h => hq (.inr (.inr h))
      have hw2 : IntKind.i64.wrap (deep - 1) = deep - 1 := by simp [IntKind.wrap, IntKind.bits, IntKind.signed]; omega
      have hcl := ihl.out _ hTl.out (left - 1) hg1.out (by omega) (by omega) (by omega) (by omega)
      replace hcl := hide hcl
      have d4w := hide d4
      clear hq d4
      go_enter Tryd.func7, Tryd.ntmps7
      go_wp2_with fail
      refine hcl.out.mono ?_
      rintro e w2 ⟨q, l', rfl, hu2, hg2, k1, k2, k3⟩
      replace k3 := hide k3
      cases q with
      | false =>
        replace hu2 := hide hu2
        replace hg2 := hide hg2
        go_wp2_with fail
        go_ret
        exact ⟨false, l', rfl, u1.out.then hu2.out, hg2.out, k1, k2, fun h => by cases h⟩
      | true =>
        obtain ⟨k4, k5, k6⟩ := k3.out rfl
        have d4 := hu2.cell d4w.out (hSg _ hS)
        have hcr := hide (ihr.out _ (TrV.upd hu2 hSg hTr.out) l' hg2 (by omega) (by omega) (by omega) (by omega))
        replace hu2 := hide hu2
        replace k4 := hide k4
        replace k6 := hide k6
        clear hg2
        go_wp2_with fail
        refine hcr.out.mono ?_
        rintro e w3 ⟨q, l2, rfl, hu3, hg3, m1, m2, m3⟩
        replace hu3 := hide hu3
        replace hg3 := hide hg3
        replace m3 := hide m3
        cases q with
        | false =>
          go_wp2_with fail
          go_ret
          exact ⟨false, l2, rfl, (u1.out.then hu2.out).then hu3.out, hg3.out, m1, m2, fun h => by cases h⟩
        | true =>
          go_wp2_with fail
          go_ret
          refine ⟨true, l2, rfl, (u1.out.then hu2.out).then hu3.out, hg3.out, m1, m2, fun _ => ?_⟩
          obtain ⟨m4, m5, m6⟩ := m3.out trivial
          have := k4.out
          refine ⟨?_, m5, ?_⟩
          · show l2 = left - ((1 + sizeX l + sizeX r : Nat) : Int)
            omega
          · exact ⟨by rw [show a.2.2 = s from hse.out]; omega, k6.out, m6⟩
theorem str_nil (s : ByteArray) : (s.toList == []) = decide (s = ⟨#[]⟩) := by
  rw [ByteArray.toList_eq]
  by_cases h : s = ⟨#[]⟩
  · subst h; rfl
  · rw [decide_eq_false h]
    cases hs : s.data.toList with
    | nil =>
      exfalso
      apply h
      cases s with
      | mk d =>
        have : d = #[] := by simpa using hs
        rw [this]
    | cons x y => rfl
set_option maxRecDepth 100000 in
set_option maxHeartbeats 1600000 in
theorem right_bin2 (ql qr : Bool) (w : World) (b o : Nat) (n : Int) (s : ByteArray) (va vb : Value) (d0 : w.cell? ⟨b, o, none⟩ = some (.int .i64 2)) (d1 : w.cell? ⟨b, o + 1, none⟩ = some (.int .i64 n)) (d2 : w.cell? ⟨b, o + 2, none⟩ = some (.string s))
    (d3 : w.cell? ⟨b, o + 3, none⟩ = some va) (d4 : w.cell? ⟨b, o + 4, none⟩ = some vb) (ihl : Calls Tryd.prog 8 #[va] w fun r w' => r = .returned (.bool ql) ∧ w = w') (ihr : Calls Tryd.prog 8 #[vb] w fun r w' => r = .returned (.bool qr) ∧ w = w') :
    Calls Tryd.prog 8 #[.pointer (some ⟨b, o, none⟩)] w fun r w' => r = .returned (.bool (ql && qr && decide (n = 0) && decide (s = ⟨#[]⟩))) ∧ w = w' := by
  have hs1 := str_nil s
  replace ihl := hide ihl
  replace ihr := hide ihr
  cases ql with
  | false =>
    clear ihr
    go_enter Tryd.func8, Tryd.ntmps8
    go_wp2_with fail
    refine ihl.out.mono ?_
    rintro e w2 ⟨rfl, rfl⟩
    go_wp2_with fail
    go_ret
    exact ⟨rfl, rfl⟩
  | true =>
    cases qr with
    | false =>
      go_enter Tryd.func8, Tryd.ntmps8
      go_wp2_with fail
      refine ihl.out.mono ?_
      rintro e w2 ⟨rfl, rfl⟩
      go_wp2_with fail
      refine ihr.out.mono ?_
      rintro e w2 ⟨rfl, rfl⟩
      go_wp2_with fail
      go_ret
      exact ⟨rfl, rfl⟩
    | true =>
      go_enter Tryd.func8, Tryd.ntmps8
      go_wp2_with fail
      refine ihl.out.mono ?_
      rintro e w2 ⟨rfl, rfl⟩
      go_wp2_with fail
      refine ihr.out.mono ?_
      rintro e w2 ⟨rfl, rfl⟩
      go_wp2_with fail
      all_goals go_ret
      all_goals refine ⟨?_, rfl⟩
      all_goals clear ihl ihr
      all_goals simp_all
set_option maxRecDepth 100000 in
set_option maxHeartbeats 1600000 in
theorem right_bin3 (ql qr : Bool) (w : World) (b o : Nat) (n : Int) (s : ByteArray) (va vb : Value) (d0 : w.cell? ⟨b, o, none⟩ = some (.int .i64 3)) (d1 : w.cell? ⟨b, o + 1, none⟩ = some (.int .i64 n)) (d2 : w.cell? ⟨b, o + 2, none⟩ = some (.string s))
    (d3 : w.cell? ⟨b, o + 3, none⟩ = some va) (d4 : w.cell? ⟨b, o + 4, none⟩ = some vb) (ihl : Calls Tryd.prog 8 #[va] w fun r w' => r = .returned (.bool ql) ∧ w = w') (ihr : Calls Tryd.prog 8 #[vb] w fun r w' => r = .returned (.bool qr) ∧ w = w') :
    Calls Tryd.prog 8 #[.pointer (some ⟨b, o, none⟩)] w fun r w' => r = .returned (.bool (ql && qr && decide (n = 0) && decide (s = ⟨#[]⟩))) ∧ w = w' := by
  have hs1 := str_nil s
  replace ihl := hide ihl
  replace ihr := hide ihr
  cases ql with
  | false =>
    clear ihr
    go_enter Tryd.func8, Tryd.ntmps8
    go_wp2_with fail
    refine ihl.out.mono ?_
    rintro e w2 ⟨rfl, rfl⟩
    go_wp2_with fail
    go_ret
    exact ⟨rfl, rfl⟩
  | true =>
    cases qr with
    | false =>
      go_enter Tryd.func8, Tryd.ntmps8
      go_wp2_with fail
      refine ihl.out.mono ?_
      rintro e w2 ⟨rfl, rfl⟩
      go_wp2_with fail
      refine ihr.out.mono ?_
      rintro e w2 ⟨rfl, rfl⟩
      go_wp2_with fail
      go_ret
      exact ⟨rfl, rfl⟩
    | true =>
      go_enter Tryd.func8, Tryd.ntmps8
      go_wp2_with fail
      refine ihl.out.mono ?_
      rintro e w2 ⟨rfl, rfl⟩
      go_wp2_with fail
      refine ihr.out.mono ?_
      rintro e w2 ⟨rfl, rfl⟩
      go_wp2_with fail
      all_goals go_ret
      all_goals refine ⟨?_, rfl⟩
      all_goals clear ihl ihr
      all_goals simp_all
set_option maxRecDepth 100000 in
set_option maxHeartbeats 1600000 in
theorem right_bin4 (ql qr : Bool) (w : World) (b o : Nat) (n : Int) (s : ByteArray) (va vb : Value) (d0 : w.cell? ⟨b, o, none⟩ = some (.int .i64 4)) (d1 : w.cell? ⟨b, o + 1, none⟩ = some (.int .i64 n)) (d2 : w.cell? ⟨b, o + 2, none⟩ = some (.string s))
    (d3 : w.cell? ⟨b, o + 3, none⟩ = some va) (d4 : w.cell? ⟨b, o + 4, none⟩ = some vb) (ihl : Calls Tryd.prog 8 #[va] w fun r w' => r = .returned (.bool ql) ∧ w = w') (ihr : Calls Tryd.prog 8 #[vb] w fun r w' => r = .returned (.bool qr) ∧ w = w') :
    Calls Tryd.prog 8 #[.pointer (some ⟨b, o, none⟩)] w fun r w' => r = .returned (.bool (ql && qr && decide (n = 0) && decide (s = ⟨#[]⟩))) ∧ w = w' := by
  have hs1 := str_nil s
  replace ihl := hide ihl
  replace ihr := hide ihr
  cases ql with
  | false =>
    clear ihr
    go_enter Tryd.func8, Tryd.ntmps8
    go_wp2_with fail
    refine ihl.out.mono ?_
    rintro e w2 ⟨rfl, rfl⟩
    go_wp2_with fail
    go_ret
    exact ⟨rfl, rfl⟩
  | true =>
    cases qr with
    | false =>
      go_enter Tryd.func8, Tryd.ntmps8
      go_wp2_with fail
      refine ihl.out.mono ?_
      rintro e w2 ⟨rfl, rfl⟩
      go_wp2_with fail
      refine ihr.out.mono ?_
      rintro e w2 ⟨rfl, rfl⟩
      go_wp2_with fail
      go_ret
      exact ⟨rfl, rfl⟩
    | true =>
      go_enter Tryd.func8, Tryd.ntmps8
      go_wp2_with fail
      refine ihl.out.mono ?_
      rintro e w2 ⟨rfl, rfl⟩
      go_wp2_with fail
      refine ihr.out.mono ?_
      rintro e w2 ⟨rfl, rfl⟩
      go_wp2_with fail
      all_goals go_ret
      all_goals refine ⟨?_, rfl⟩
      all_goals clear ihl ihr
      all_goals simp_all
set_option maxRecDepth 100000 in
set_option maxHeartbeats 1600000 in
theorem right_bin5 (ql qr : Bool) (w : World) (b o : Nat) (n : Int) (s : ByteArray) (va vb : Value) (d0 : w.cell? ⟨b, o, none⟩ = some (.int .i64 5)) (d1 : w.cell? ⟨b, o + 1, none⟩ = some (.int .i64 n)) (d2 : w.cell? ⟨b, o + 2, none⟩ = some (.string s))
    (d3 : w.cell? ⟨b, o + 3, none⟩ = some va) (d4 : w.cell? ⟨b, o + 4, none⟩ = some vb) (ihl : Calls Tryd.prog 8 #[va] w fun r w' => r = .returned (.bool ql) ∧ w = w') (ihr : Calls Tryd.prog 8 #[vb] w fun r w' => r = .returned (.bool qr) ∧ w = w') :
    Calls Tryd.prog 8 #[.pointer (some ⟨b, o, none⟩)] w fun r w' => r = .returned (.bool (ql && qr && decide (n = 0) && decide (s = ⟨#[]⟩))) ∧ w = w' := by
  have hs1 := str_nil s
  replace ihl := hide ihl
  replace ihr := hide ihr
  cases ql with
  | false =>
    clear ihr
    go_enter Tryd.func8, Tryd.ntmps8
    go_wp2_with fail
    refine ihl.out.mono ?_
    rintro e w2 ⟨rfl, rfl⟩
    go_wp2_with fail
    go_ret
    exact ⟨rfl, rfl⟩
  | true =>
    cases qr with
    | false =>
      go_enter Tryd.func8, Tryd.ntmps8
      go_wp2_with fail
      refine ihl.out.mono ?_
      rintro e w2 ⟨rfl, rfl⟩
      go_wp2_with fail
      refine ihr.out.mono ?_
      rintro e w2 ⟨rfl, rfl⟩
      go_wp2_with fail
      go_ret
      exact ⟨rfl, rfl⟩
    | true =>
      go_enter Tryd.func8, Tryd.ntmps8
      go_wp2_with fail
      refine ihl.out.mono ?_
      rintro e w2 ⟨rfl, rfl⟩
      go_wp2_with fail
      refine ihr.out.mono ?_
      rintro e w2 ⟨rfl, rfl⟩
      go_wp2_with fail
      all_goals go_ret
      all_goals refine ⟨?_, rfl⟩
      all_goals clear ihl ihr
      all_goals simp_all
set_option maxRecDepth 100000 in
set_option maxHeartbeats 1600000 in
theorem right_bin6 (ql qr : Bool) (w : World) (b o : Nat) (n : Int) (s : ByteArray) (va vb : Value) (d0 : w.cell? ⟨b, o, none⟩ = some (.int .i64 6)) (d1 : w.cell? ⟨b, o + 1, none⟩ = some (.int .i64 n)) (d2 : w.cell? ⟨b, o + 2, none⟩ = some (.string s))
    (d3 : w.cell? ⟨b, o + 3, none⟩ = some va) (d4 : w.cell? ⟨b, o + 4, none⟩ = some vb) (ihl : Calls Tryd.prog 8 #[va] w fun r w' => r = .returned (.bool ql) ∧ w = w') (ihr : Calls Tryd.prog 8 #[vb] w fun r w' => r = .returned (.bool qr) ∧ w = w') :
    Calls Tryd.prog 8 #[.pointer (some ⟨b, o, none⟩)] w fun r w' => r = .returned (.bool (ql && qr && decide (n = 0) && decide (s = ⟨#[]⟩))) ∧ w = w' := by
  have hs1 := str_nil s
  replace ihl := hide ihl
  replace ihr := hide ihr
  cases ql with
  | false =>
    clear ihr
    go_enter Tryd.func8, Tryd.ntmps8
    go_wp2_with fail
    refine ihl.out.mono ?_
    rintro e w2 ⟨rfl, rfl⟩
    go_wp2_with fail
    go_ret
    exact ⟨rfl, rfl⟩
  | true =>
    cases qr with
    | false =>
      go_enter Tryd.func8, Tryd.ntmps8
      go_wp2_with fail
      refine ihl.out.mono ?_
      rintro e w2 ⟨rfl, rfl⟩
      go_wp2_with fail
      refine ihr.out.mono ?_
      rintro e w2 ⟨rfl, rfl⟩
      go_wp2_with fail
      go_ret
      exact ⟨rfl, rfl⟩
    | true =>
      go_enter Tryd.func8, Tryd.ntmps8
      go_wp2_with fail
      refine ihl.out.mono ?_
      rintro e w2 ⟨rfl, rfl⟩
      go_wp2_with fail
      refine ihr.out.mono ?_
      rintro e w2 ⟨rfl, rfl⟩
      go_wp2_with fail
      all_goals go_ret
      all_goals refine ⟨?_, rfl⟩
      all_goals clear ihl ihr
      all_goals simp_all
set_option maxRecDepth 100000 in
set_option maxHeartbeats 1600000 in
theorem right_any (S : Nat → Prop) : ∀ (T : XT) (w : World), TrV w S T → Calls Tryd.prog 8 #[T.ptr] w fun r w' => r = .returned (.bool (rightT T)) ∧ w = w'
  | .nil, w, _ => by
    show Calls _ _ #[.pointer none] _ _
    go_enter Tryd.func8, Tryd.ntmps8
    go_wp2_with fail
    go_ret
    exact ⟨rfl, rfl⟩
  | .node b o (k, n, s) l r, w, hT => by
    obtain ⟨hN, -, -, -, hTl, hTr⟩ := hT
    obtain ⟨hS, d0, d1, d2, d3, d4⟩ := hN.out
    have ihl := hide (right_any S l w hTl)
    have ihr := hide (right_any S r w hTr)
    have hs1 := str_nil s
    clear hN hTl hTr
    show Calls _ _ #[.pointer (some ⟨b, o, none⟩)] _ _
    generalize hX : rightT (.node b o (k, n, s) l r) = X
    unfold rightT at hX
    replace hX := hide hX
    simp only at d0 d1 d2
    by_cases k0 : k = 0
    · subst k0
      cases l <;> cases r
      all_goals simp only [Deep.BT.ptr] at d3 d4
      all_goals go_enter Tryd.func8, Tryd.ntmps8
      all_goals go_wp2_with fail
      all_goals go_ret
      all_goals refine ⟨?_, rfl⟩
      all_goals rw [← hX.out]
      all_goals clear hX ihl ihr
      all_goals simp_all [isNil]
      all_goals (intro; omega)
    by_cases k1 : k = 1
    · subst k1
      cases l <;> cases r
      all_goals simp only [Deep.BT.ptr] at d3 d4
      all_goals go_enter Tryd.func8, Tryd.ntmps8
      all_goals go_wp2_with fail
      all_goals go_ret
      all_goals refine ⟨?_, rfl⟩
      all_goals rw [← hX.out]
      all_goals clear hX ihl ihr
      all_goals simp_all [isNil]
      all_goals (rw [Bool.eq_iff_iff]; simp)
    by_cases k7 : k = 7
    · subst k7
      generalize rightT l = ql at *
      cases r
      all_goals simp only [Deep.BT.ptr] at d4
      all_goals go_enter Tryd.func8, Tryd.ntmps8
      all_goals go_wp2_with fail
      all_goals refine ihl.out.mono ?_
      all_goals rintro e w2 ⟨rfl, rfl⟩
      all_goals cases ql
      all_goals go_wp2_with fail
      all_goals go_ret
      all_goals refine ⟨?_, rfl⟩
      all_goals rw [← hX.out]
      all_goals clear hX ihl ihr
      all_goals simp_all [isNil]
    by_cases kk : 2 ≤ k ∧ k ≤ 6
    · have : k = 2 ∨ k = 3 ∨ k = 4 ∨ k = 5 ∨ k = 6 := by omega
      have hX2 := hX.out
      rw [if_neg k0, if_neg k1, if_neg k7, if_pos kk] at hX2
      rw [← hX2]
      rcases this with rfl | rfl | rfl | rfl | rfl
      · exact right_bin2 (rightT l) (rightT r) w b o n s l.ptr r.ptr d0 d1 d2 d3 d4 ihl.out ihr.out
      · exact right_bin3 (rightT l) (rightT r) w b o n s l.ptr r.ptr d0 d1 d2 d3 d4 ihl.out ihr.out
      · exact right_bin4 (rightT l) (rightT r) w b o n s l.ptr r.ptr d0 d1 d2 d3 d4 ihl.out ihr.out
      · exact right_bin5 (rightT l) (rightT r) w b o n s l.ptr r.ptr d0 d1 d2 d3 d4 ihl.out ihr.out
      · exact right_bin6 (rightT l) (rightT r) w b o n s l.ptr r.ptr d0 d1 d2 d3 d4 ihl.out ihr.out
    · have e2 : (k == 2) = false := beq_false_of_ne (by omega)
      have e3 : (k == 3) = false := beq_false_of_ne (by omega)
      have e4 : (k == 4) = false := beq_false_of_ne (by omega)
      have e5 : (k == 5) = false := beq_false_of_ne (by omega)
      have e6 : (k == 6) = false := beq_false_of_ne (by omega)
      have e0 : (k == 0) = false := beq_false_of_ne k0
      have e1 : (k == 1) = false := beq_false_of_ne k1
      have e7 : (k == 7) = false := beq_false_of_ne k7
      have hX2 := hX.out
      rw [if_neg k0, if_neg k1, if_neg k7, if_neg kk] at hX2
      subst hX2
      go_enter Tryd.func8, Tryd.ntmps8
      go_wp2_with fail
      go_ret
      exact ⟨rfl, rfl⟩
end Go.Proofs.YtojbfopmlgdjlaaDoor
