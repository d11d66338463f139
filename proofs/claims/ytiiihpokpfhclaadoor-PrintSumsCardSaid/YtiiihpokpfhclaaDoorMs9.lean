/- Part 9 of the walks (merged): He, Rt1, Rt2, GPsG. -/
import Derived.Test.YtiiihpokpfhclaaDoorMs5
import Derived.Test.YtiiihpokpfhclaaDoorMs8
/- Walks of the helps: LightE, RightE. -/
namespace Go.Proofs.YtiiihpokpfhclaaDoor
open Go Go.RowKit

theorem NdV.out {w : World} {S : Nat → Prop} {b o : Nat} {k n : Int} {s : ByteArray} {va vb : Value} (h : NdV w S b o k n s va vb) : S b ∧ w.cell? ⟨b, o, none⟩ = some (.int .i64 k) ∧ w.cell? ⟨b, o + 1, none⟩ = some (.int .i64 n) ∧ w.cell? ⟨b, o + 2, none⟩ = some (.string s) ∧ w.cell? ⟨b, o + 3, none⟩ = some va ∧ w.cell? ⟨b, o + 4, none⟩ = some vb := h
def LightR (T : XT) (g : Nat) (left : Int) (w : World) (r : Ending) (w' : World) : Prop :=
  ∃ (q : Bool) (l' : Int), r = .returned (.bool q) ∧ Upd (fun k => k = g) w w' ∧ w'.heap[g]? = some (.cells #[.int .i64 l'] 3 (0, 0)) ∧ -1 ≤ l' ∧ l' ≤ 1000 ∧ (q = true → l' = left - sizeX T ∧ 0 ≤ l' ∧ shortX T)
set_option maxRecDepth 100000 in
set_option maxHeartbeats 1600000 in
theorem light_any (S : Nat → Prop) (g : Nat) (hSg : ∀ b, S b → ¬ b = g) : ∀ (T : XT) (w : World) (left deep : Int), TrV w S T → w.heap[g]? = some (.cells #[.int .i64 left] 3 (0, 0)) → 0 ≤ left → left ≤ 1000 → -1 ≤ deep → deep ≤ 1000 →
    Calls Tryd.prog 11 #[T.ptr, .pointer (some ⟨g, 0, none⟩), .int .i64 deep] w fun r w' => LightR T g left w r w'
  | .nil, w, left, deep, _, hg, h1, h2, _, _ => by
    show Calls _ _ #[.pointer none, _, _] _ _
    go_enter Tryd.func11, Tryd.ntmps11
    go_wp2_with fail
    go_ret
    exact ⟨true, left, rfl, .refl _ _, hg, by omega, h2, fun _ => ⟨by simp [sizeX], h1, trivial⟩⟩
  | .node b o a l r, w, left, deep, hT, hg, h1, h2, h3, h4 => by
    have hT1 := TrV.upd (Upd.set w (F := fun k => k = g) (a := ⟨g, 0, none⟩) rfl (.int .i64 (left - 1))) hSg hT
    have u1 := hide (Upd.set w (F := fun k => k = g) (a := ⟨g, 0, none⟩) rfl (.int .i64 (left - 1)))
    have hg1 := heap_set hg 0 (.int .i64 (left - 1))
    simp at hg1
    have cg := cell_at hg 0
    have fg := frozen_at hg 0
    have cg1 := cell_at hg1 0
    simp at cg cg1
    obtain ⟨hN, -, -, -, hTl, hTr⟩ := hT1
    obtain ⟨hS, d0, d1, d2, d3, d4⟩ := hN.out
    have ihl := hide (fun w' (h : TrV w' S l) (l' : Int) hg' q1 q2 => light_any S g hSg l w' l' (deep - 1) h hg' q1 q2)
    have ihr := hide (fun w' (h : TrV w' S r) (l' : Int) hg' q1 q2 => light_any S g hSg r w' l' (deep - 1) h hg' q1 q2)
    have hw1 : IntKind.i64.wrap (left - 1) = left - 1 := by simp [IntKind.wrap, IntKind.bits, IntKind.signed]; omega
    replace hTl := hide hTl
    replace hTr := hide hTr
    replace hg1 := hide hg1
    clear hN hg d0 d1
    generalize hse : a.2.2 = s at *
    replace hse := hide hse
    show Calls _ _ #[.pointer (some ⟨b, o, none⟩), _, _] _ _
    by_cases hq : left - 1 < 0 ∨ deep < 0 ∨ 50 < (s.size : Int)
    · go_enter Tryd.func11, Tryd.ntmps11
      go_wp2_with fail
      all_goals (go_ret; exact ⟨false, left - 1, rfl, u1.out, hg1.out, by omega, by omega, fun h => by cases h⟩)
    · have q1 : ¬ left - 1 < 0 := fun h => hq (.inl h)
      have q2 : ¬ deep < 0 := fun h => hq (.inr (.inl h))
      have q3 : ¬ 50 < (s.size : Int) := fun h => hq (.inr (.inr h))
      have hw2 : IntKind.i64.wrap (deep - 1) = deep - 1 := by simp [IntKind.wrap, IntKind.bits, IntKind.signed]; omega
      have hcl := ihl.out _ hTl.out (left - 1) hg1.out (by omega) (by omega) (by omega) (by omega)
      replace hcl := hide hcl
      have d4w := hide d4
      clear hq d4
      go_enter Tryd.func11, Tryd.ntmps11
      go_wp2_with fail
      refine hcl.out.mono ?_
      rintro e w2 ⟨q, l', rfl, hu2, hg2, k1, k2, k3⟩
      replace k3 := hide k3
      cases q with
      | false =>
        replace hu2 := hide hu2
        replace hg2 := hide hg2
        go_wp2_with fail
        go_ret
        exact ⟨false, l', rfl, u1.out.then hu2.out, hg2.out, k1, k2, fun h => by cases h⟩
      | true =>
        obtain ⟨k4, k5, k6⟩ := k3.out rfl
        have d4 := hu2.cell d4w.out (hSg _ hS)
        have hcr := hide (ihr.out _ (TrV.upd hu2 hSg hTr.out) l' hg2 (by omega) (by omega) (by omega) (by omega))
        replace hu2 := hide hu2
        replace k4 := hide k4
        replace k6 := hide k6
        clear hg2
        go_wp2_with fail
        refine hcr.out.mono ?_
        rintro e w3 ⟨q, l2, rfl, hu3, hg3, m1, m2, m3⟩
        replace hu3 := hide hu3
        replace hg3 := hide hg3
        replace m3 := hide m3
        cases q with
        | false =>
          go_wp2_with fail
          go_ret
          exact ⟨false, l2, rfl, (u1.out.then hu2.out).then hu3.out, hg3.out, m1, m2, fun h => by cases h⟩
        | true =>
          go_wp2_with fail
          go_ret
          refine ⟨true, l2, rfl, (u1.out.then hu2.out).then hu3.out, hg3.out, m1, m2, fun _ => ?_⟩
          obtain ⟨m4, m5, m6⟩ := m3.out trivial
          have := k4.out
          refine ⟨?_, m5, ?_⟩
          · show l2 = left - ((1 + sizeX l + sizeX r : Nat) : Int)
            omega
          · exact ⟨by rw [show a.2.2 = s from hse.out]; omega, k6.out, m6⟩
theorem str_nil (s : ByteArray) : (s.toList == []) = decide (s = ⟨#[]⟩) := by
  rw [ByteArray.toList_eq]
  by_cases h : s = ⟨#[]⟩
  · subst h; rfl
  · rw [decide_eq_false h]
    cases hs : s.data.toList with
    | nil =>
      exfalso
      apply h
      cases s with
      | mk d =>
        have : d = #[] := by simpa using hs
        rw [this]
    | cons x y => rfl
set_option maxRecDepth 100000 in
set_option maxHeartbeats 1600000 in
theorem right_bin2 (ql qr : Bool) (w : World) (b o : Nat) (n : Int) (s : ByteArray) (va vb : Value) (d0 : w.cell? ⟨b, o, none⟩ = some (.int .i64 2)) (d1 : w.cell? ⟨b, o + 1, none⟩ = some (.int .i64 n)) (d2 : w.cell? ⟨b, o + 2, none⟩ = some (.string s))
    (d3 : w.cell? ⟨b, o + 3, none⟩ = some va) (d4 : w.cell? ⟨b, o + 4, none⟩ = some vb) (ihl : Calls Tryd.prog 12 #[va] w fun r w' => r = .returned (.bool ql) ∧ w = w') (ihr : Calls Tryd.prog 12 #[vb] w fun r w' => r = .returned (.bool qr) ∧ w = w') :
    Calls Tryd.prog 12 #[.pointer (some ⟨b, o, none⟩)] w fun r w' => r = .returned (.bool (ql && qr && decide (n = 0) && decide (s = ⟨#[]⟩))) ∧ w = w' := by
  have hs1 := str_nil s
  replace ihl := hide ihl
  replace ihr := hide ihr
  cases ql with
  | false =>
    clear ihr
    go_enter Tryd.func12, Tryd.ntmps12
    go_wp2_with fail
    refine ihl.out.mono ?_
    rintro e w2 ⟨rfl, rfl⟩
    go_wp2_with fail
    go_ret
    exact ⟨rfl, rfl⟩
  | true =>
    cases qr with
    | false =>
      go_enter Tryd.func12, Tryd.ntmps12
      go_wp2_with fail
      refine ihl.out.mono ?_
      rintro e w2 ⟨rfl, rfl⟩
      go_wp2_with fail
      refine ihr.out.mono ?_
      rintro e w2 ⟨rfl, rfl⟩
      go_wp2_with fail
      go_ret
      exact ⟨rfl, rfl⟩
    | true =>
      go_enter Tryd.func12, Tryd.ntmps12
      go_wp2_with fail
      refine ihl.out.mono ?_
      rintro e w2 ⟨rfl, rfl⟩
      go_wp2_with fail
      refine ihr.out.mono ?_
      rintro e w2 ⟨rfl, rfl⟩
      go_wp2_with fail
      all_goals go_ret
      all_goals refine ⟨?_, rfl⟩
      all_goals clear ihl ihr
      all_goals simp_all
set_option maxRecDepth 100000 in
set_option maxHeartbeats 1600000 in
theorem right_bin3 (ql qr : Bool) (w : World) (b o : Nat) (n : Int) (s : ByteArray) (va vb : Value) (d0 : w.cell? ⟨b, o, none⟩ = some (.int .i64 3)) (d1 : w.cell? ⟨b, o + 1, none⟩ = some (.int .i64 n)) (d2 : w.cell? ⟨b, o + 2, none⟩ = some (.string s))
    (d3 : w.cell? ⟨b, o + 3, none⟩ = some va) (d4 : w.cell? ⟨b, o + 4, none⟩ = some vb) (ihl : Calls Tryd.prog 12 #[va] w fun r w' => r = .returned (.bool ql) ∧ w = w') (ihr : Calls Tryd.prog 12 #[vb] w fun r w' => r = .returned (.bool qr) ∧ w = w') :
    Calls Tryd.prog 12 #[.pointer (some ⟨b, o, none⟩)] w fun r w' => r = .returned (.bool (ql && qr && decide (n = 0) && decide (s = ⟨#[]⟩))) ∧ w = w' := by
  have hs1 := str_nil s
  replace ihl := hide ihl
  replace ihr := hide ihr
  cases ql with
  | false =>
    clear ihr
    go_enter Tryd.func12, Tryd.ntmps12
    go_wp2_with fail
    refine ihl.out.mono ?_
    rintro e w2 ⟨rfl, rfl⟩
    go_wp2_with fail
    go_ret
    exact ⟨rfl, rfl⟩
  | true =>
    cases qr with
    | false =>
      go_enter Tryd.func12, Tryd.ntmps12
      go_wp2_with fail
      refine ihl.out.mono ?_
      rintro e w2 ⟨rfl, rfl⟩
      go_wp2_with fail
      refine ihr.out.mono ?_
      rintro e w2 ⟨rfl, rfl⟩
      go_wp2_with fail
      go_ret
      exact ⟨rfl, rfl⟩
    | true =>
      go_enter Tryd.func12, Tryd.ntmps12
      go_wp2_with fail
      refine ihl.out.mono ?_
      rintro e w2 ⟨rfl, rfl⟩
      go_wp2_with fail
      refine ihr.out.mono ?_
      rintro e w2 ⟨rfl, rfl⟩
      go_wp2_with fail
      all_goals go_ret
      all_goals refine ⟨?_, rfl⟩
      all_goals clear ihl ihr
      all_goals simp_all
set_option maxRecDepth 100000 in
set_option maxHeartbeats 1600000 in
theorem right_bin4 (ql qr : Bool) (w : World) (b o : Nat) (n : Int) (s : ByteArray) (va vb : Value) (d0 : w.cell? ⟨b, o, none⟩ = some (.int .i64 4)) (d1 : w.cell? ⟨b, o + 1, none⟩ = some (.int .i64 n)) (d2 : w.cell? ⟨b, o + 2, none⟩ = some (.string s))
    (d3 : w.cell? ⟨b, o + 3, none⟩ = some va) (d4 : w.cell? ⟨b, o + 4, none⟩ = some vb) (ihl : Calls Tryd.prog 12 #[va] w fun r w' => r = .returned (.bool ql) ∧ w = w') (ihr : Calls Tryd.prog 12 #[vb] w fun r w' => r = .returned (.bool qr) ∧ w = w') :
    Calls Tryd.prog 12 #[.pointer (some ⟨b, o, none⟩)] w fun r w' => r = .returned (.bool (ql && qr && decide (n = 0) && decide (s = ⟨#[]⟩))) ∧ w = w' := by
  have hs1 := str_nil s
  replace ihl := hide ihl
  replace ihr := hide ihr
  cases ql with
  | false =>
    clear ihr
    go_enter Tryd.func12, Tryd.ntmps12
    go_wp2_with fail
    refine ihl.out.mono ?_
    rintro e w2 ⟨rfl, rfl⟩
    go_wp2_with fail
    go_ret
    exact ⟨rfl, rfl⟩
  | true =>
    cases qr with
    | false =>
      go_enter Tryd.func12, Tryd.ntmps12
      go_wp2_with fail
      refine ihl.out.mono ?_
      rintro e w2 ⟨rfl, rfl⟩
      go_wp2_with fail
      refine ihr.out.mono ?_
      rintro e w2 ⟨rfl, rfl⟩
      go_wp2_with fail
      go_ret
      exact ⟨rfl, rfl⟩
    | true =>
      go_enter Tryd.func12, Tryd.ntmps12
      go_wp2_with fail
      refine ihl.out.mono ?_
      rintro e w2 ⟨rfl, rfl⟩
      go_wp2_with fail
      refine ihr.out.mono ?_
      rintro e w2 ⟨rfl, rfl⟩
      go_wp2_with fail
      all_goals go_ret
      all_goals refine ⟨?_, rfl⟩
      all_goals clear ihl ihr
      all_goals simp_all
set_option maxRecDepth 100000 in
set_option maxHeartbeats 1600000 in
theorem right_bin5 (ql qr : Bool) (w : World) (b o : Nat) (n : Int) (s : ByteArray) (va vb : Value) (d0 : w.cell? ⟨b, o, none⟩ = some (.int .i64 5)) (d1 : w.cell? ⟨b, o + 1, none⟩ = some (.int .i64 n)) (d2 : w.cell? ⟨b, o + 2, none⟩ = some (.string s))
    (d3 : w.cell? ⟨b, o + 3, none⟩ = some va) (d4 : w.cell? ⟨b, o + 4, none⟩ = some vb) (ihl : Calls Tryd.prog 12 #[va] w fun r w' => r = .returned (.bool ql) ∧ w = w') (ihr : Calls Tryd.prog 12 #[vb] w fun r w' => r = .returned (.bool qr) ∧ w = w') :
    Calls Tryd.prog 12 #[.pointer (some ⟨b, o, none⟩)] w fun r w' => r = .returned (.bool (ql && qr && decide (n = 0) && decide (s = ⟨#[]⟩))) ∧ w = w' := by
  have hs1 := str_nil s
  replace ihl := hide ihl
  replace ihr := hide ihr
  cases ql with
  | false =>
    clear ihr
    go_enter Tryd.func12, Tryd.ntmps12
    go_wp2_with fail
    refine ihl.out.mono ?_
    rintro e w2 ⟨rfl, rfl⟩
    go_wp2_with fail
    go_ret
    exact ⟨rfl, rfl⟩
  | true =>
    cases qr with
    | false =>
      go_enter Tryd.func12, Tryd.ntmps12
      go_wp2_with fail
      refine ihl.out.mono ?_
      rintro e w2 ⟨rfl, rfl⟩
      go_wp2_with fail
      refine ihr.out.mono ?_
      rintro e w2 ⟨rfl, rfl⟩
      go_wp2_with fail
      go_ret
      exact ⟨rfl, rfl⟩
    | true =>
      go_enter Tryd.func12, Tryd.ntmps12
      go_wp2_with fail
      refine ihl.out.mono ?_
      rintro e w2 ⟨rfl, rfl⟩
      go_wp2_with fail
      refine ihr.out.mono ?_
      rintro e w2 ⟨rfl, rfl⟩
      go_wp2_with fail
      all_goals go_ret
      all_goals refine ⟨?_, rfl⟩
      all_goals clear ihl ihr
      all_goals simp_all
set_option maxRecDepth 100000 in
set_option maxHeartbeats 1600000 in
theorem right_bin6 (ql qr : Bool) (w : World) (b o : Nat) (n : Int) (s : ByteArray) (va vb : Value) (d0 : w.cell? ⟨b, o, none⟩ = some (.int .i64 6)) (d1 : w.cell? ⟨b, o + 1, none⟩ = some (.int .i64 n)) (d2 : w.cell? ⟨b, o + 2, none⟩ = some (.string s))
    (d3 : w.cell? ⟨b, o + 3, none⟩ = some va) (d4 : w.cell? ⟨b, o + 4, none⟩ = some vb) (ihl : Calls Tryd.prog 12 #[va] w fun r w' => r = .returned (.bool ql) ∧ w = w') (ihr : Calls Tryd.prog 12 #[vb] w fun r w' => r = .returned (.bool qr) ∧ w = w') :
    Calls Tryd.prog 12 #[.pointer (some ⟨b, o, none⟩)] w fun r w' => r = .returned (.bool (ql && qr && decide (n = 0) && decide (s = ⟨#[]⟩))) ∧ w = w' := by
  have hs1 := str_nil s
  replace ihl := hide ihl
  replace ihr := hide ihr
  cases ql with
  | false =>
    clear ihr
    go_enter Tryd.func12, Tryd.ntmps12
    go_wp2_with fail
    refine ihl.out.mono ?_
    rintro e w2 ⟨rfl, rfl⟩
    go_wp2_with fail
    go_ret
    exact ⟨rfl, rfl⟩
  | true =>
    cases qr with
    | false =>
      go_enter Tryd.func12, Tryd.ntmps12
      go_wp2_with fail
      refine ihl.out.mono ?_
      rintro e w2 ⟨rfl, rfl⟩
      go_wp2_with fail
      refine ihr.out.mono ?_
      rintro e w2 ⟨rfl, rfl⟩
      go_wp2_with fail
      go_ret
      exact ⟨rfl, rfl⟩
    | true =>
      go_enter Tryd.func12, Tryd.ntmps12
      go_wp2_with fail
      refine ihl.out.mono ?_
      rintro e w2 ⟨rfl, rfl⟩
      go_wp2_with fail
      refine ihr.out.mono ?_
      rintro e w2 ⟨rfl, rfl⟩
      go_wp2_with fail
      all_goals go_ret
      all_goals refine ⟨?_, rfl⟩
      all_goals clear ihl ihr
      all_goals simp_all
set_option maxRecDepth 100000 in
set_option maxHeartbeats 1600000 in
theorem right_any (S : Nat → Prop) : ∀ (T : XT) (w : World), TrV w S T → Calls Tryd.prog 12 #[T.ptr] w fun r w' => r = .returned (.bool (rightT T)) ∧ w = w'
  | .nil, w, _ => by
    show Calls _ _ #[.pointer none] _ _
    go_enter Tryd.func12, Tryd.ntmps12
    go_wp2_with fail
    go_ret
    exact ⟨rfl, rfl⟩
  | .node b o (k, n, s) l r, w, hT => by
    obtain ⟨hN, -, -, -, hTl, hTr⟩ := hT
    obtain ⟨hS, d0, d1, d2, d3, d4⟩ := hN.out
    have ihl := hide (right_any S l w hTl)
    have ihr := hide (right_any S r w hTr)
    have hs1 := str_nil s
    clear hN hTl hTr
    show Calls _ _ #[.pointer (some ⟨b, o, none⟩)] _ _
    generalize hX : rightT (.node b o (k, n, s) l r) = X
    unfold rightT at hX
    replace hX := hide hX
    simp only at d0 d1 d2
    by_cases k0 : k = 0
    · subst k0
      cases l <;> cases r
      all_goals simp only [Deep.BT.ptr] at d3 d4
      all_goals go_enter Tryd.func12, Tryd.ntmps12
      all_goals go_wp2_with fail
      all_goals go_ret
      all_goals refine ⟨?_, rfl⟩
      all_goals rw [← hX.out]
      all_goals clear hX ihl ihr
      all_goals simp_all [isNil]
      all_goals (intro; omega)
    by_cases k1 : k = 1
    · subst k1
      cases l <;> cases r
      all_goals simp only [Deep.BT.ptr] at d3 d4
      all_goals go_enter Tryd.func12, Tryd.ntmps12
      all_goals go_wp2_with fail
      all_goals go_ret
      all_goals refine ⟨?_, rfl⟩
      all_goals rw [← hX.out]
      all_goals clear hX ihl ihr
      all_goals simp_all [isNil]
      all_goals (rw [Bool.eq_iff_iff]; simp)
    by_cases k7 : k = 7
    · subst k7
      generalize rightT l = ql at *
      cases r
      all_goals simp only [Deep.BT.ptr] at d4
      all_goals go_enter Tryd.func12, Tryd.ntmps12
      all_goals go_wp2_with fail
      all_goals refine ihl.out.mono ?_
      all_goals rintro e w2 ⟨rfl, rfl⟩
      all_goals cases ql
      all_goals go_wp2_with fail
      all_goals go_ret
      all_goals refine ⟨?_, rfl⟩
      all_goals rw [← hX.out]
      all_goals clear hX ihl ihr
      all_goals simp_all [isNil]
    by_cases kk : 2 ≤ k ∧ k ≤ 6
    · have : k = 2 ∨ k = 3 ∨ k = 4 ∨ k = 5 ∨ k = 6 := by omega
      have hX2 := hX.out
      rw [if_neg k0, if_neg k1, if_neg k7, if_pos kk] at hX2
      rw [← hX2]
      rcases this with rfl | rfl | rfl | rfl | rfl
      · exact right_bin2 (rightT l) (rightT r) w b o n s l.ptr r.ptr d0 d1 d2 d3 d4 ihl.out ihr.out
      · exact right_bin3 (rightT l) (rightT r) w b o n s l.ptr r.ptr d0 d1 d2 d3 d4 ihl.out ihr.out
      · exact right_bin4 (rightT l) (rightT r) w b o n s l.ptr r.ptr d0 d1 d2 d3 d4 ihl.out ihr.out
      · exact right_bin5 (rightT l) (rightT r) w b o n s l.ptr r.ptr d0 d1 d2 d3 d4 ihl.out ihr.out
      · exact right_bin6 (rightT l) (rightT r) w b o n s l.ptr r.ptr d0 d1 d2 d3 d4 ihl.out ihr.out
    · have e2 : (k == 2) = false := beq_false_of_ne (by omega)
      have e3 : (k == 3) = false := beq_false_of_ne (by omega)
      have e4 : (k == 4) = false := beq_false_of_ne (by omega)
      have e5 : (k == 5) = false := beq_false_of_ne (by omega)
      have e6 : (k == 6) = false := beq_false_of_ne (by omega)
      have e0 : (k == 0) = false := beq_false_of_ne k0
      have e1 : (k == 1) = false := beq_false_of_ne k1
      have e7 : (k == 7) = false := beq_false_of_ne k7
      have hX2 := hX.out
      rw [if_neg k0, if_neg k1, if_neg k7, if_neg kk] at hX2
      subst hX2
      go_enter Tryd.func12, Tryd.ntmps12
      go_wp2_with fail
      go_ret
      exact ⟨rfl, rfl⟩
end Go.Proofs.YtiiihpokpfhclaaDoor
/- What is printed, read again: the tokens of an expression's and a condition's text. -/
namespace Go.Proofs.YtiiihpokpfhclaaDoor

/-- A name that a text may tell. -/
def wfN : List UInt8 → Bool
  | [] => false
  | c :: r => letterB c.toNat && (r.all fun c => letterB c.toNat || digitB c.toNat) && decide (r.length < 32) && !isKw (c :: r)
def WfR : Ex → Prop
  | .num n => n ≤ 9223372036854775807
  | .var s => wfN s = true
  | .neg a => WfR a
  | .bin k a b => 2 ≤ k ∧ k ≤ 6 ∧ WfR a ∧ WfR b
def opT (k : Nat) : UInt8 := if k = 2 then 43 else if k = 3 then 45 else if k = 4 then 42 else if k = 5 then 47 else 37
theorem sign_op (k : Nat) : signT k = [32, opT k, 32] := by
  unfold signT opT
  split
  · rfl
  · split
    · rfl
    · split
      · rfl
      · split <;> rfl
/-- In parentheses, or not. -/
def parK (b : Bool) (i n : Nat) (f : Nat → List Tok) : List Tok := if b = true then ⟨2, [40], i⟩ :: (f (i + 1) ++ [⟨2, [41], i + 1 + n⟩]) else f i
def exK : Ex → Nat → List Tok
  | .num n, i => [⟨1, Lib.decDigits n, i⟩]
  | .var s, i => [⟨0, s, i⟩]
  | .neg a, i => ⟨2, [45], i⟩ :: parK (decide (bindE a < 2)) (i + 1) (exT a).length (exK a)
  | .bin k a b, i =>
    let j := i + (parT (decide (bindE a < bindK k)) (exT a)).length
    parK (decide (bindE a < bindK k)) i (exT a).length (exK a) ++ (⟨2, [opT k], j + 1⟩ :: parK (decide (bindE b < bindK k + 1)) (j + 3) (exT b).length (exK b))
/-- What stands there is a token, and what comes next none of it. -/
def Clo (st : St) (ts full : List Tok) : Prop := ∀ c : UInt8, c = 32 ∨ c = 41 ∨ c = 59 → st.goes c = false ∧ st.fin ts c = .ok full
/-- Something may begin. -/
def bgB (c : UInt8) : Bool := letterB c.toNat || digitB c.toNat || c == 40 || c == 45 || c == 33
def Ope (st : St) (ts full : List Tok) : Prop := ∀ c : UInt8, bgB c = true → st.goes c = false ∧ st.fin ts c = .ok full
theorem ope_blank (ts : List Tok) : Ope .blank ts ts := fun _ _ => ⟨rfl, rfl⟩
theorem rt_two {a : UInt8} (h : a = 40 ∨ a = 45 ∨ a = 33) {c : UInt8} (hc : c ≠ 61) : isOp ([a] ++ [c]) = false := by
  rcases h with rfl | rfl | rfl <;> simp [isOp, opsL, hc]
theorem ope_sign {a : UInt8} (h : a = 40 ∨ a = 45 ∨ a = 33) (i : Nat) (ts : List Tok) : Ope (.word 2 i [a]) ts (ts ++ [⟨2, [a], i⟩]) := by
  intro c hc
  have hne : c ≠ 61 := by rintro rfl; exact absurd hc (by decide)
  refine ⟨rt_two h hne, ?_⟩
  rcases h with rfl | rfl | rfl <;> rfl
theorem clo_par (i : Nat) (ts : List Tok) : Clo (.word 2 i [41]) ts (ts ++ [⟨2, [41], i⟩]) := by
  rintro c (rfl | rfl | rfl) <;> exact ⟨rfl, rfl⟩
theorem run_bg {st : St} {ts full : List Tok} (h : Ope st ts full) {c : UInt8} (hc : bgB c = true) (i : Nat) (r : List UInt8) : runT st i ts (c :: r) = runT (St.begin i c) (i + 1) full r := by
  obtain ⟨h1, h2⟩ := h c hc
  conv => lhs; unfold runT
  rw [if_neg (by rw [h1]; exact Bool.false_ne_true), h2]
theorem run_clo {st : St} {ts full : List Tok} (h : Clo st ts full) {c : UInt8} (hc : c = 32 ∨ c = 41 ∨ c = 59) (i : Nat) (r : List UInt8) : runT st i ts (c :: r) = runT (St.begin i c) (i + 1) full r := by
  obtain ⟨h1, h2⟩ := h c hc
  conv => lhs; unfold runT
  rw [if_neg (by rw [h1]; exact Bool.false_ne_true), h2]
theorem rt_fin {k fr : Nat} {w : List UInt8} {c : UInt8} {ts : List Tok} (h : fault k w c = 0) : (St.word k fr w).fin ts c = .ok (ts ++ [⟨k, w, fr⟩]) := if_pos h
theorem run_go {st : St} {c : UInt8} (h : st.goes c = true) (i : Nat) (ts : List Tok) (r : List UInt8) : runT st i ts (c :: r) = runT (st.push c) (i + 1) ts r := by
  conv => lhs; unfold runT
  rw [if_pos h]
theorem run_word (k fr : Nat) (ts : List Tok) (b : List UInt8) (p : UInt8 → Bool) (hp : ∀ w c, p c = true → (St.word k fr w).goes c = true) : ∀ (s w : List UInt8) (i : Nat), s.all p = true → runT (.word k fr w) i ts (s ++ b) = runT (.word k fr (w ++ s)) (i + s.length) ts b
  | [], w, i, _ => by simp
  | c :: s, w, i, h => by
    rw [List.all_cons, Bool.and_eq_true] at h
    rw [List.cons_append, run_go (hp w c h.1)]
    show runT (.word k fr (w ++ [c])) (i + 1) ts (s ++ b) = _
    rw [run_word k fr ts b p hp s (w ++ [c]) (i + 1) h.2, List.append_assoc]
    simp only [List.cons_append, List.nil_append, List.length_cons]
    congr 1
    omega
/-- A name. -/
theorem name_run {st : St} {ts full : List Tok} (h : Ope st ts full) {s : List UInt8} (hs : wfN s = true) (i : Nat) (b : List UInt8) : ∃ st' ts', runT st i ts (s ++ b) = runT st' (i + s.length) ts' b ∧ Clo st' ts' (full ++ [⟨0, s, i⟩]) := by
  cases s with
  | nil => cases hs
  | cons c r =>
    simp only [wfN, Bool.and_eq_true, decide_eq_true_eq] at hs
    obtain ⟨⟨⟨h1, h2⟩, h3⟩, -⟩ := hs
    have hb : bgB c = true := by unfold bgB; rw [h1]; rfl
    have hbg : St.begin i c = .word 0 i [c] := by
      unfold St.begin
      rw [if_neg, if_neg, if_pos h1]
      · rintro rfl; exact absurd h1 (by decide)
      · intro hx
        simp only [letterB, blankB, decide_eq_true_eq] at h1 hx
        omega
    refine ⟨.word 0 i ([c] ++ r), full, ?_, ?_⟩
    · rw [List.cons_append, run_bg h hb, hbg, run_word 0 i full b (fun c => letterB c.toNat || digitB c.toNat) (fun w c hc => hc) r [c] (i + 1) h2]
      congr 1
      simp only [List.length_cons]
      omega
    · have hf : (if 32 < ([c] ++ r).length then 53 else 0) = 0 := if_neg (by simp only [List.cons_append, List.nil_append, List.length_cons]; omega)
      rintro x (rfl | rfl | rfl) <;> exact ⟨rfl, rt_fin hf⟩
theorem rt_val (w : List UInt8) (c : UInt8) : valL (w ++ [c]) = 10 * valL w + (c.toNat - 48) := by
  unfold valL
  rw [List.foldl_append]
  rfl
theorem dec_facts (n : Nat) : (∀ c ∈ Lib.decDigits n, digitB c.toNat = true) ∧ valL (Lib.decDigits n) = n ∧ Lib.decDigits n ≠ [] ∧ ((Lib.decDigits n).headD 0 = 48 → n = 0) := by
  induction n using Nat.strongRecOn with
  | _ n ih =>
    have hd : ∀ k, k < 10 → (UInt8.ofNat (48 + k)).toNat = 48 + k := fun k hk => by simp [UInt8.toNat_ofNat']; omega
    have hdig : ∀ k, k < 10 → digitB (UInt8.ofNat (48 + k)).toNat = true := fun k hk => by rw [hd k hk]; unfold digitB; simp; omega
    by_cases h : n < 10
    · rw [Lib.decDigits_one h]
      refine ⟨fun c hc => ?_, ?_, by simp, fun he => ?_⟩
      · obtain rfl := List.mem_singleton.1 hc
        exact hdig n h
      · show 10 * 0 + ((UInt8.ofNat (48 + n)).toNat - 48) = n
        rw [hd n h]; omega
      · have : (UInt8.ofNat (48 + n)).toNat = 48 := by rw [show UInt8.ofNat (48 + n) = 48 from he]; rfl
        rw [hd n h] at this; omega
    · obtain ⟨h1, h2, h3, h4⟩ := ih (n / 10) (by omega)
      rw [Lib.decDigits, dif_neg h]
      refine ⟨fun c hc => ?_, ?_, by simp, fun he => ?_⟩
      · rcases List.mem_append.1 hc with hc | hc
        · exact h1 c hc
        · obtain rfl := List.mem_singleton.1 hc
          exact hdig _ (by omega)
      · rw [rt_val, h2, hd _ (by omega)]; omega
      · exfalso
        have : (Lib.decDigits (n / 10)).headD 0 = 48 := by
          cases hl : Lib.decDigits (n / 10) with
          | nil => exact absurd hl h3
          | cons a r => rw [hl] at he; exact he
        have := h4 this
        omega
theorem num_run {st : St} {ts full : List Tok} (h : Ope st ts full) {n : Nat} (hn : n ≤ 9223372036854775807) (i : Nat) (b : List UInt8) : ∃ st' ts', runT st i ts (Lib.decDigits n ++ b) = runT st' (i + (Lib.decDigits n).length) ts' b ∧ Clo st' ts' (full ++ [⟨1, Lib.decDigits n, i⟩]) := by
  obtain ⟨h1, h2, h3, h4⟩ := dec_facts n
  have h5 : (Lib.decDigits n).headD 0 = 48 → (Lib.decDigits n).length = 1 := fun e => by
    rw [h4 e, Lib.decDigits_one (by decide)]; rfl
  generalize Lib.decDigits n = s at *
  cases s with
  | nil => exact absurd rfl h3
  | cons c r =>
    have hc := h1 c List.mem_cons_self
    have hr : r.all (fun c => digitB c.toNat) = true := List.all_eq_true.2 fun x hx => h1 x (List.mem_cons_of_mem _ hx)
    have hb : bgB c = true := by unfold bgB; rw [hc]; simp
    have hbg : St.begin i c = .word 1 i [c] := by
      have hc' := hc
      simp only [digitB, decide_eq_true_eq] at hc'
      unfold St.begin
      rw [if_neg, if_neg, if_neg, if_pos hc]
      · intro hx; simp only [letterB, decide_eq_true_eq] at hx; omega
      · rintro rfl; exact absurd hc (by decide)
      · intro hx; simp only [blankB, decide_eq_true_eq] at hx; omega
    refine ⟨.word 1 i ([c] ++ r), full, ?_, ?_⟩
    · rw [List.cons_append, run_bg h hb, hbg, run_word 1 i full b (fun c => digitB c.toNat) (fun w c hc => hc) r [c] (i + 1) hr]
      congr 1
      simp only [List.length_cons]
      omega
    · have hz : ((([c] ++ r).headD 0 == 48) && decide (1 < ([c] ++ r).length)) = false := by
        by_cases e : (c :: r).headD 0 = 48
        · have := h5 e
          rw [show [c] ++ r = c :: r from rfl, this]; simp
        · have : (([c] ++ r).headD 0 == 48) = false := beq_eq_false_iff_ne.2 e
          rw [this]; rfl
      have hv : ¬ 9223372036854775807 < valL ([c] ++ r) := by rw [show [c] ++ r = c :: r from rfl, h2]; omega
      rintro x hx
      refine ⟨by rcases hx with rfl | rfl | rfl <;> rfl, ?_⟩
      have hl : letterB x.toNat = false := by rcases hx with rfl | rfl | rfl <;> rfl
      have : faultN ([c] ++ r) x = 0 := by
        unfold faultN
        rw [if_neg hv, hl, hz]; rfl
      exact rt_fin this
theorem par_run {X : List UInt8} {K : Nat → List Tok} (hX : ∀ (st : St) (ts full : List Tok) (i : Nat) (b : List UInt8), Ope st ts full → ∃ st' ts', runT st i ts (X ++ b) = runT st' (i + X.length) ts' b ∧ Clo st' ts' (full ++ K i))
    (q : Bool) {st : St} {ts full : List Tok} (i : Nat) (b : List UInt8) (h : Ope st ts full) : ∃ st' ts', runT st i ts (parT q X ++ b) = runT st' (i + (parT q X).length) ts' b ∧ Clo st' ts' (full ++ parK q i X.length K) := by
  cases q with
  | false => exact hX st ts full i b h
  | true =>
    obtain ⟨st1, ts1, h1, h2⟩ := hX (.word 2 i [40]) full (full ++ [⟨2, [40], i⟩]) (i + 1) ([41] ++ b) (ope_sign (.inl rfl) i full)
    refine ⟨.word 2 (i + 1 + X.length) [41], full ++ [⟨2, [40], i⟩] ++ K (i + 1), ?_, ?_⟩
    · show runT st i ts ([40] ++ X ++ [41] ++ b) = _
      rw [List.append_assoc, List.append_assoc]
      show runT st i ts (40 :: (X ++ ([41] ++ b))) = _
      rw [run_bg h (by decide)]
      show runT (.word 2 i [40]) (i + 1) full (X ++ ([41] ++ b)) = _
      rw [h1]
      show runT st1 (i + 1 + X.length) ts1 (41 :: b) = _
      rw [run_clo h2 (.inr (.inl rfl))]
      show runT (.word 2 (i + 1 + X.length) [41]) _ _ b = _
      congr 1
      show i + 1 + X.length + 1 = i + ([40] ++ X ++ [41]).length
      simp only [List.length_append, List.length_cons, List.length_nil]
      omega
    · have := clo_par (i + 1 + X.length) (full ++ [⟨2, [40], i⟩] ++ K (i + 1))
      have e : full ++ [⟨2, [40], i⟩] ++ K (i + 1) ++ [⟨2, [41], i + 1 + X.length⟩] = full ++ parK true i X.length K := by
        unfold parK
        rw [if_pos rfl]
        simp
      rw [← e]
      exact this
/-- A sign between blanks. -/
theorem sign_run {st : St} {ts full : List Tok} (h : Clo st ts full) (w : List UInt8) (hw : w ∈ [[43], [45], [42], [47], [37], [60], [62], [61, 61], [33, 61], [60, 61], [62, 61], [38, 38], [124, 124]]) (i : Nat) (b : List UInt8) :
    runT st i ts ([32] ++ w ++ [32] ++ b) = runT .blank (i + (2 + w.length)) (full ++ [⟨2, w, i + 1⟩]) b := by
  simp only [List.mem_cons, List.not_mem_nil, or_false] at hw
  have e : ∀ r, runT st i ts (32 :: r) = runT .blank (i + 1) full r := fun r => run_clo h (.inl rfl) i r
  rcases hw with rfl | rfl | rfl | rfl | rfl | rfl | rfl | rfl | rfl | rfl | rfl | rfl | rfl
  all_goals simp only [List.cons_append, List.nil_append]; rw [e]; rfl
theorem op_mem (k : Nat) : [opT k] ∈ [[43], [45], [42], [47], [37], [60], [62], [61, 61], [33, 61], [60, 61], [62, 61], [38, 38], [124, 124]] := by
  unfold opT
  split
  · decide
  · split
    · decide
    · split
      · decide
      · split <;> decide
/-- An expression's text has its tokens. -/
theorem ex_run : ∀ (e : Ex), WfR e → ∀ (st : St) (ts full : List Tok) (i : Nat) (b : List UInt8), Ope st ts full → ∃ st' ts', runT st i ts (exT e ++ b) = runT st' (i + (exT e).length) ts' b ∧ Clo st' ts' (full ++ exK e i)
  | .num n, hw, st, ts, full, i, b, h => num_run h hw i b
  | .var s, hw, st, ts, full, i, b, h => name_run h hw i b
  | .neg a, hw, st, ts, full, i, b, h => by
    obtain ⟨st1, ts1, h1, h2⟩ := par_run (ex_run a hw) (decide (bindE a < 2)) (i + 1) b (ope_sign (.inr (.inl rfl)) i full)
    refine ⟨st1, ts1, ?_, ?_⟩
    · show runT st i ts (45 :: (parT (decide (bindE a < 2)) (exT a) ++ b)) = _
      rw [run_bg h (by decide)]
      show runT (.word 2 i [45]) (i + 1) full _ = _
      rw [h1]
      congr 1
      show _ = i + (45 :: parT (decide (bindE a < 2)) (exT a)).length
      rw [List.length_cons]; omega
    · have e : full ++ exK (.neg a) i = full ++ [⟨2, [45], i⟩] ++ parK (decide (bindE a < 2)) (i + 1) (exT a).length (exK a) := by
        rw [exK, List.append_assoc]; rfl
      rw [e]
      exact h2
  | .bin k x y, hw, st, ts, full, i, b, h => by
    obtain ⟨-, -, hx, hy⟩ := hw
    generalize hq1 : decide (bindE x < bindK k) = q1
    generalize hq2 : decide (bindE y < bindK k + 1) = q2
    have et : exT (.bin k x y) = parT q1 (exT x) ++ ([32] ++ [opT k] ++ [32]) ++ parT q2 (exT y) := by
      rw [exT, hq1, hq2, sign_op]; rfl
    have ek : exK (.bin k x y) i = parK q1 i (exT x).length (exK x) ++ (⟨2, [opT k], i + (parT q1 (exT x)).length + 1⟩ :: parK q2 (i + (parT q1 (exT x)).length + 3) (exT y).length (exK y)) := by
      rw [exK, hq1, hq2]
    obtain ⟨st1, ts1, h1, h2⟩ := par_run (ex_run x hx) q1 i (([32] ++ [opT k] ++ [32]) ++ (parT q2 (exT y) ++ b)) h
    obtain ⟨st2, ts2, h3, h4⟩ := par_run (ex_run y hy) q2 (i + (parT q1 (exT x)).length + 3) b (ope_blank (full ++ parK q1 i (exT x).length (exK x) ++ [⟨2, [opT k], i + (parT q1 (exT x)).length + 1⟩]))
    refine ⟨st2, ts2, ?_, ?_⟩
    · rw [et, List.append_assoc, List.append_assoc, h1, sign_run h2 [opT k] (op_mem k)]
      show runT .blank (i + (parT q1 (exT x)).length + 3) _ _ = _
      rw [h3]
      congr 1
      simp only [List.length_append, List.length_cons, List.length_nil]
      omega
    · rw [ek]
      have e : full ++ (parK q1 i (exT x).length (exK x) ++ (⟨2, [opT k], i + (parT q1 (exT x)).length + 1⟩ :: parK q2 (i + (parT q1 (exT x)).length + 3) (exT y).length (exK y))) = full ++ parK q1 i (exT x).length (exK x) ++ [⟨2, [opT k], i + (parT q1 (exT x)).length + 1⟩] ++ parK q2 (i + (parT q1 (exT x)).length + 3) (exT y).length (exK y) := by simp
      rw [e]
      exact h4
end Go.Proofs.YtiiihpokpfhclaaDoor
/- What is printed, read again: an expression's tokens are read as it. -/
namespace Go.Proofs.YtiiihpokpfhclaaDoor

/-- Steps enough, and how deep. -/
def szE : Ex → Nat
  | .num _ => 1
  | .var _ => 1
  | .neg a => szE a + 2
  | .bin _ a b => szE a + szE b + 2
def parD (q : Bool) (n : Nat) : Nat := if q = true then n + 1 else n
def depE : Ex → Nat
  | .num _ => 0
  | .var _ => 0
  | .neg a => parD (decide (bindE a < 2)) (depE a) + 1
  | .bin k a b => max (parD (decide (bindE a < bindK k)) (depE a)) (parD (decide (bindE b < bindK k + 1)) (depE b))
/-- How many signs of its own strength stand on the left. -/
def nopE : Ex → Nat
  | .bin _ a b => (if bindE a = 1 then nopE a else 0) + 1
  | _ => 0
def sopE : Ex → Nat
  | .bin k a b => if bindK k = 0 then (if bindE a = 0 then sopE a else 0) + 1 else 0
  | _ => 0
theorem sz_pos (e : Ex) : 1 ≤ szE e := by cases e <;> simp [szE]
theorem nop_sz : ∀ e : Ex, nopE e < szE e
  | .num _ => by simp [nopE, szE]
  | .var _ => by simp [nopE, szE]
  | .neg a => by simp [nopE, szE]
  | .bin k a b => by
    have := nop_sz a
    simp only [nopE, szE]
    split <;> omega
theorem sop_sz : ∀ e : Ex, sopE e < szE e
  | .num _ => by simp [sopE, szE]
  | .var _ => by simp [sopE, szE]
  | .neg a => by simp [sopE, szE]
  | .bin k a b => by
    have := sop_sz a
    simp only [sopE, szE]
    split
    · split <;> omega
    · omega
theorem bindK_cases {k : Nat} (h1 : 2 ≤ k) (h2 : k ≤ 6) : (bindK k = 0 ∧ (k = 2 ∨ k = 3)) ∨ (bindK k = 1 ∧ (k = 4 ∨ k = 5 ∨ k = 6)) := by
  have : k = 2 ∨ k = 3 ∨ k = 4 ∨ k = 5 ∨ k = 6 := by omega
  rcases this with rfl | rfl | rfl | rfl | rfl <;> decide
theorem opT_prod {k : Nat} (h : k = 4 ∨ k = 5 ∨ k = 6) : prodK [opT k] = some k := by rcases h with rfl | rfl | rfl <;> rfl
theorem opT_prod_no {k : Nat} (h : k = 2 ∨ k = 3) : prodK [opT k] = none := by rcases h with rfl | rfl <;> rfl
theorem opT_sum {k : Nat} (h : k = 2 ∨ k = 3) : sumK [opT k] = some k := by rcases h with rfl | rfl <;> rfl
theorem rch_none {α : Type} {mk : Nat → α → α → α} {K : List UInt8 → Option Nat} {u : List Tok → Rs α} {g : Nat} {a : α} {r : List Tok} (hg : 0 < g) (h : K (txt r) = none) : chain mk K u g a r = .ok a r := by
  obtain ⟨g, rfl⟩ : ∃ q, g = q + 1 := ⟨g - 1, by omega⟩
  unfold chain
  rw [h]
theorem rch_some {α : Type} {mk : Nat → α → α → α} {K : List UInt8 → Option Nat} {u : List Tok → Rs α} {g k : Nat} {a : α} {r : List Tok} (hg : 0 < g) (h : K (txt r) = some k) : chain mk K u g a r = (u r.tail).bind fun b r => chain mk K u (g - 1) (mk k a b) r := by
  obtain ⟨g, rfl⟩ : ∃ q, g = q + 1 := ⟨g - 1, by omega⟩
  conv => lhs; unfold chain
  rw [h]
  rfl
theorem wfN_nm {s : List UInt8} (h : wfN s = true) (i : Nat) (r : List Tok) : nx (⟨0, s, i⟩ :: r) [45] = false ∧ nx (⟨0, s, i⟩ :: r) [40] = false ∧ nx (⟨0, s, i⟩ :: r) [33] = false ∧ isNm (⟨0, s, i⟩ :: r) = true := by
  cases s with
  | nil => cases h
  | cons c t =>
    simp only [wfN, Bool.and_eq_true, Bool.not_eq_true'] at h
    obtain ⟨⟨⟨h1, -⟩, -⟩, h4⟩ := h
    have key : ∀ x : UInt8, letterB x.toNat = false → nx (⟨0, c :: t, i⟩ :: r) [x] = false := by
      intro x hx
      show ((c :: t) == [x]) = false
      rw [beq_eq_false_iff_ne]
      intro e
      injection e with e1 _
      rw [e1, hx] at h1
      cases h1
    refine ⟨key 45 (by decide), key 40 (by decide), key 33 (by decide), ?_⟩
    show (0 == 0 && !isKw (c :: t)) = true
    rw [h4]; rfl
theorem dec_nm (n i : Nat) (r : List Tok) : nx (⟨1, Lib.decDigits n, i⟩ :: r) [45] = false ∧ nx (⟨1, Lib.decDigits n, i⟩ :: r) [40] = false ∧ nx (⟨1, Lib.decDigits n, i⟩ :: r) [33] = false := by
  obtain ⟨h1, -, -, -⟩ := dec_facts n
  have key : ∀ x : UInt8, digitB x.toNat = false → nx (⟨1, Lib.decDigits n, i⟩ :: r) [x] = false := by
    intro x hx
    show (Lib.decDigits n == [x]) = false
    rw [beq_eq_false_iff_ne]
    intro e
    have := h1 x (by rw [e]; exact List.mem_singleton_self _)
    rw [hx] at this
    cases this
  exact ⟨key 45 (by decide), key 40 (by decide), key 33 (by decide)⟩
theorem bindE_pos {e : Ex} : bindE e = 0 ∨ bindE e = 1 ∨ bindE e = 2 := by
  cases e with
  | bin k a b =>
    show bindK k = 0 ∨ bindK k = 1 ∨ bindK k = 2
    unfold bindK
    split
    · exact .inl rfl
    · split <;> simp
  | _ => exact .inr (.inr rfl)
/-- What the three levels of the grammar make of an expression's tokens. -/
structure Rd (e : Ex) (f d : Nat) : Prop where
  un_ : bindE e = 2 → ∀ i r, un f d (exK e i ++ r) = .ok e r
  prod : 1 ≤ bindE e → ∀ F i r, szE e ≤ F → prodOf (un f d) F (exK e i ++ r) = chain .bin prodK (un f d) (F - (if bindE e = 1 then nopE e else 0)) e r
  sum : ∀ F i r, szE e ≤ F → prodK (txt r) = none → sumOf (un f d) F (exK e i ++ r) = chain .bin sumK (prodOf (un f d) F) (F - (if bindE e = 0 then sopE e else 0)) e r
theorem prod_of_un {e : Ex} {u : List Tok → Rs Ex} {F : Nat} {r r' : List Tok} (h : u r = .ok e r') : prodOf u F r = chain .bin prodK u F e r' := by
  unfold prodOf
  rw [h]; rfl
theorem sum_of_prod {e : Ex} {u : List Tok → Rs Ex} {F : Nat} {r r' : List Tok} (h : prodOf u F r = .ok e r') : sumOf u F r = chain .bin sumK (prodOf u F) F e r' := by
  unfold sumOf
  rw [h]; rfl
/-- In parentheses. -/
theorem par_un {e : Ex} {f d : Nat} (h : Rd e f (d + 1)) (hf : szE e < f) (hd : d < 40) (i n : Nat) (r : List Tok) : un (f + 1) d (parK true i n (exK e) ++ r) = .ok e r := by
  have e1 : parK true i n (exK e) ++ r = ⟨2, [40], i⟩ :: (exK e (i + 1) ++ (⟨2, [41], i + 1 + n⟩ :: r)) := by
    unfold parK
    rw [if_pos rfl]
    simp
  rw [e1]
  have e2 : enterP [40] d (⟨2, [40], i⟩ :: (exK e (i + 1) ++ (⟨2, [41], i + 1 + n⟩ :: r))) = .ok () (exK e (i + 1) ++ (⟨2, [41], i + 1 + n⟩ :: r)) := by
    unfold enterP
    rw [if_pos (show nx _ [40] = true from rfl), if_neg (by omega)]
    rfl
  unfold un
  rw [if_neg (show ¬ nx _ [45] = true from by show ¬ (([40] : List UInt8) == [45]) = true; decide), if_pos (show nx _ [40] = true from rfl), e2]
  show Rs.bind (sumOf (un f (d + 1)) f _) _ = _
  rw [h.sum f (i + 1) _ (by omega) rfl, rch_none (by have := sop_sz e; split <;> omega) rfl]
  rfl
theorem part_un {e : Ex} {f d : Nat} (q : Bool) (h1 : Rd e (f + 1) d) (h2 : q = true → Rd e f (d + 1)) (hb : q = false → bindE e = 2) (hf : szE e < f) (hd : q = true → d < 40) (i n : Nat) (r : List Tok) : un (f + 1) d (parK q i n (exK e) ++ r) = .ok e r := by
  cases q with
  | true => exact par_un (h2 rfl) hf (hd rfl) i n r
  | false => exact h1.un_ (hb rfl) i r
theorem rd_any : ∀ (e : Ex), WfR e → ∀ f d, szE e < f → d + depE e ≤ 40 → Rd e f d
  | .num n, hw, f + 1, d, hf, hd => by
    have hu : ∀ i r, un (f + 1) d (exK (.num n) i ++ r) = .ok (.num n) r := by
      intro i r
      obtain ⟨h1, h2, -⟩ := dec_nm n i r
      show un (f + 1) d (⟨1, Lib.decDigits n, i⟩ :: r) = _
      unfold un
      rw [if_neg (by rw [h1]; exact Bool.false_ne_true), if_neg (by rw [h2]; exact Bool.false_ne_true), if_pos (show isNum _ = true from rfl)]
      show Rs.bind (numP (⟨1, Lib.decDigits n, i⟩ :: r)) _ = _
      unfold numP
      rw [if_pos (show isNum _ = true from rfl)]
      show Rs.ok (Ex.num (valL (Lib.decDigits n))) r = _
      rw [(dec_facts n).2.1]
    refine ⟨fun _ => hu, fun _ F i r _ => ?_, fun F i r hF hr => ?_⟩
    · exact prod_of_un (hu i r)
    · refine sum_of_prod ?_
      rw [prod_of_un (hu i r)]
      exact rch_none (by simp only [szE] at hF; omega) hr
  | .var s, hw, f + 1, d, hf, hd => by
    have hu : ∀ i r, un (f + 1) d (exK (.var s) i ++ r) = .ok (.var s) r := by
      intro i r
      obtain ⟨h1, h2, -, h3⟩ := wfN_nm hw i r
      show un (f + 1) d (⟨0, s, i⟩ :: r) = _
      unfold un
      rw [if_neg (by rw [h1]; exact Bool.false_ne_true), if_neg (by rw [h2]; exact Bool.false_ne_true), if_neg (show ¬ isNum _ = true from by show ¬ (0 == 1) = true; decide)]
      show Rs.bind (nameP (⟨0, s, i⟩ :: r)) _ = _
      unfold nameP
      rw [if_pos h3]
      rfl
    refine ⟨fun _ => hu, fun _ F i r _ => ?_, fun F i r hF hr => ?_⟩
    · exact prod_of_un (hu i r)
    · refine sum_of_prod ?_
      rw [prod_of_un (hu i r)]
      exact rch_none (by simp only [szE] at hF; omega) hr
  | .neg a, hw, f + 1, d, hf, hd => by
    simp only [szE, depE] at hf hd
    have hu : ∀ i r, un (f + 1) d (exK (.neg a) i ++ r) = .ok (.neg a) r := by
      intro i r
      show un (f + 1) d (⟨2, [45], i⟩ :: (parK (decide (bindE a < 2)) (i + 1) (exT a).length (exK a) ++ r)) = _
      have e2 : ∀ R, enterP [45] d (⟨2, [45], i⟩ :: R) = .ok () R := by
        intro R
        unfold enterP
        rw [if_pos (show nx _ [45] = true from rfl), if_neg (by omega)]
        rfl
      unfold un
      rw [if_pos (show nx _ [45] = true from rfl), e2]
      show Rs.bind (un f (d + 1) _) _ = _
      obtain ⟨f, rfl⟩ : ∃ q, f = q + 1 := ⟨f - 1, by omega⟩
      rw [part_un (decide (bindE a < 2)) (rd_any a hw (f + 1) (d + 1) (by omega) (by unfold parD at hd; split at hd <;> omega)) (fun hq => rd_any a hw f (d + 1 + 1) (by omega) (by rw [hq] at hd; simp only [parD, if_true] at hd; omega)) (fun hq => by have := bindE_pos (e := a); have := of_decide_eq_false hq; omega) (by omega) (fun hq => by rw [hq] at hd; simp only [parD, if_true] at hd; omega)]
      rfl
    refine ⟨fun _ => hu, fun _ F i r _ => ?_, fun F i r hF hr => ?_⟩
    · exact prod_of_un (hu i r)
    · refine sum_of_prod ?_
      rw [prod_of_un (hu i r)]
      exact rch_none (by have := sz_pos (.neg a); omega) hr
  | .bin k a b, hw, f + 1, d, hf, hd => by
    obtain ⟨hk1, hk2, ha, hb⟩ := hw
    simp only [szE, depE] at hf hd
    have hda : d + parD (decide (bindE a < bindK k)) (depE a) ≤ 40 := by omega
    have hdb : d + parD (decide (bindE b < bindK k + 1)) (depE b) ≤ 40 := by omega
    have hA := rd_any a ha (f + 1) d (by omega) (by unfold parD at hda; split at hda <;> omega)
    have hB := rd_any b hb (f + 1) d (by omega) (by unfold parD at hdb; split at hdb <;> omega)
    have hb2 : bindE (.bin k a b) = bindK k := rfl
    have hsa := sz_pos a
    have hsb := sz_pos b
    have hzA : szE (.bin k a b) = szE a + szE b + 2 := rfl
    -- the parts
    have hPa : decide (bindE a < bindK k) = true → ∀ i n r, un (f + 1) d (parK true i n (exK a) ++ r) = .ok a r := fun hq i n r =>
      par_un (rd_any a ha f (d + 1) (by omega) (by rw [hq] at hda; simp only [parD, if_true] at hda; omega)) (by omega) (by rw [hq] at hda; simp only [parD, if_true] at hda; omega) i n r
    have hPb : decide (bindE b < bindK k + 1) = true → ∀ i n r, un (f + 1) d (parK true i n (exK b) ++ r) = .ok b r := fun hq i n r =>
      par_un (rd_any b hb f (d + 1) (by omega) (by rw [hq] at hdb; simp only [parD, if_true] at hdb; omega)) (by omega) (by rw [hq] at hdb; simp only [parD, if_true] at hdb; omega) i n r
    have eK : ∀ i r, ∃ j, exK (.bin k a b) i ++ r = parK (decide (bindE a < bindK k)) i (exT a).length (exK a) ++ (⟨2, [opT k], j⟩ :: (parK (decide (bindE b < bindK k + 1)) (j + 2) (exT b).length (exK b) ++ r)) := by
      intro i r
      refine ⟨i + (parT (decide (bindE a < bindK k)) (exT a)).length + 1, ?_⟩
      rw [exK]
      simp
    rcases bindK_cases hk1 hk2 with ⟨h0, hk⟩ | ⟨h0, hk⟩
    · -- a sum
      have hq1 : decide (bindE a < bindK k) = false := by rw [h0]; exact decide_eq_false (Nat.not_lt_zero _)
      refine ⟨fun h => by rw [hb2] at h; omega, fun h => by rw [hb2] at h; omega, fun F i r hF hr => ?_⟩
      obtain ⟨j, ej⟩ := eK i r
      rw [ej, hq1]
      show sumOf (un (f + 1) d) F (exK a i ++ _) = _
      rw [hA.sum F i (⟨2, [opT k], j⟩ :: (parK (decide (bindE b < bindK k + 1)) (j + 2) (exT b).length (exK b) ++ r)) (by omega) (opT_prod_no hk), hb2, if_pos h0]
      have hn : sopE (.bin k a b) = (if bindE a = 0 then sopE a else 0) + 1 := by simp only [sopE, h0, if_true]
      rw [hn]
      have := sop_sz a
      generalize hm : (if bindE a = 0 then sopE a else 0) = m
      have hm2 : m < szE a := by rw [← hm]; split <;> omega
      rw [rch_some (by omega) (opT_sum hk)]
      show Rs.bind (prodOf (un (f + 1) d) F (parK _ (j + 2) _ (exK b) ++ r)) _ = _
      have hp : prodOf (un (f + 1) d) F (parK (decide (bindE b < bindK k + 1)) (j + 2) (exT b).length (exK b) ++ r) = .ok b r := by
        by_cases hq : decide (bindE b < bindK k + 1) = true
        · rw [hq, prod_of_un (hPb hq _ _ _)]
          exact rch_none (by omega) hr
        · have hq' : decide (bindE b < bindK k + 1) = false := by simpa using hq
          have := of_decide_eq_false hq'
          rw [hq']
          show prodOf (un (f + 1) d) F (exK b (j + 2) ++ r) = _
          rw [hB.prod (by omega) F _ _ (by omega)]
          exact rch_none (by have := nop_sz b; split <;> omega) hr
      rw [hp]
      show chain Ex.bin sumK _ (F - m - 1) _ r = _
      congr 1
    · -- a product
      have hP : ∀ F i r, szE (.bin k a b) ≤ F → prodOf (un (f + 1) d) F (exK (.bin k a b) i ++ r) = chain .bin prodK (un (f + 1) d) (F - nopE (.bin k a b)) (.bin k a b) r := by
        intro F i r hF
        obtain ⟨j, ej⟩ := eK i r
        rw [ej]
        have hn : nopE (.bin k a b) = (if bindE a = 1 then nopE a else 0) + 1 := rfl
        rw [hn]
        have hbb : un (f + 1) d (parK (decide (bindE b < bindK k + 1)) (j + 2) (exT b).length (exK b) ++ r) = .ok b r := by
          by_cases hq : decide (bindE b < bindK k + 1) = true
          · rw [hq]; exact hPb hq _ _ _
          · have hq' : decide (bindE b < bindK k + 1) = false := by simpa using hq
            have := of_decide_eq_false hq'
            have := bindE_pos (e := b)
            rw [hq']
            exact hB.un_ (by omega) (j + 2) r
        have := nop_sz a
        have hstep : ∀ m, m < szE a → chain .bin prodK (un (f + 1) d) (F - m) a (⟨2, [opT k], j⟩ :: (parK (decide (bindE b < bindK k + 1)) (j + 2) (exT b).length (exK b) ++ r)) = chain .bin prodK (un (f + 1) d) (F - (m + 1)) (.bin k a b) r := by
          intro m hm
          rw [rch_some (by omega) (opT_prod hk)]
          show Rs.bind (un (f + 1) d (parK _ (j + 2) _ (exK b) ++ r)) _ = _
          rw [hbb]
          show chain Ex.bin prodK _ (F - m - 1) _ r = _
          congr 1
        by_cases hq : decide (bindE a < bindK k) = true
        · have := of_decide_eq_true hq
          have hz : (if bindE a = 1 then nopE a else 0) = 0 := if_neg (by omega)
          rw [hq, prod_of_un (hPa hq _ _ _), hz]
          exact hstep 0 (by omega)
        · have hq' : decide (bindE a < bindK k) = false := by simpa using hq
          have := of_decide_eq_false hq'
          rw [hq']
          show prodOf (un (f + 1) d) F (exK a i ++ _) = _
          rw [hA.prod (by omega) F _ _ (by omega)]
          exact hstep _ (by split <;> omega)
      refine ⟨fun h => by rw [hb2] at h; omega, fun _ F i r hF => ?_, fun F i r hF hr => ?_⟩
      · rw [hb2, if_pos h0]
        exact hP F i r hF
      · rw [hb2, if_neg (by omega)]
        refine sum_of_prod ?_
        rw [hP F i r hF]
        have h := nop_sz (.bin k a b)
        exact rch_none (by omega) hr
/-- A sum is read as it. -/
theorem sum_reads {e : Ex} (hw : WfR e) {f d : Nat} (hf : szE e < f) (hd : d + depE e ≤ 40) (i : Nat) (r : List Tok) (h1 : prodK (txt r) = none) (h2 : sumK (txt r) = none) : sumP f d (exK e i ++ r) = .ok e r := by
  unfold sumP
  rw [(rd_any e hw f d hf hd).sum f i r (by omega) h1]
  exact rch_none (by have := sop_sz e; split <;> omega) h2
end Go.Proofs.YtiiihpokpfhclaaDoor
/- Conditions in memory; walks of the parser's methods for them. Written by mkcond.py. -/
namespace Go.Proofs.YtiiihpokpfhclaaDoor
open Go Go.RowKit Go.Lib
/-- A node of a condition. -/
def NodeC (w : World) (S : Nat → Prop) (v : Value) (k : Int) (va vb vp vq : Value) (s : ByteArray) : Prop :=
  ∃ g, v = .pointer (some ⟨g, 0, none⟩) ∧ S g ∧ w.heap[g]? = some (.cells #[.int .i64 k, va, vb, vp, vq, .string s] 48 (0, 0))
/-- A condition in memory, in blocks of S. -/
def CnV (w : World) (S : Nat → Prop) : Cn → Value → Prop
  | .cmp k a b, v => ∃ va vb, NodeC w S v k va vb (.pointer none) (.pointer none) ⟨#[]⟩ ∧ ExV w S a va ∧ ExV w S b vb
  | .null s, v => NodeC w S v 9 (.pointer none) (.pointer none) (.pointer none) (.pointer none) (strB s)
  | .not c, v => ∃ vp, NodeC w S v 8 (.pointer none) (.pointer none) vp (.pointer none) ⟨#[]⟩ ∧ CnV w S c vp
  | .both k c c2, v => ∃ vp vq, NodeC w S v k (.pointer none) (.pointer none) vp vq ⟨#[]⟩ ∧ CnV w S c vp ∧ CnV w S c2 vq
section
variable {w w' : World} {S S' F : Nat → Prop}
theorem NodeC.upd {v va vb vp vq : Value} {k : Int} {s : ByteArray} (h : NodeC w S v k va vb vp vq s) (hu : Upd F w w') (hS : ∀ b, S b → ¬ F b) : NodeC w' S v k va vb vp vq s := by
  obtain ⟨g, h1, h2, h3⟩ := h
  exact ⟨g, h1, h2, hu.heap h3 (hS g h2)⟩
theorem NodeC.mono {v va vb vp vq : Value} {k : Int} {s : ByteArray} (h : NodeC w S v k va vb vp vq s) (hS : ∀ b, b < w.heap.size → S b → S' b) : NodeC w S' v k va vb vp vq s := by
  obtain ⟨g, h1, h2, h3⟩ := h
  exact ⟨g, h1, hS g (Array.getElem?_eq_some_iff.1 h3).1 h2, h3⟩
theorem CnV.upd (hu : Upd F w w') (hS : ∀ b, S b → ¬ F b) : ∀ (e : Cn) (v : Value), CnV w S e v → CnV w' S e v
  | .cmp _ a b, _, ⟨va, vb, h1, h2, h3⟩ => ⟨va, vb, h1.upd hu hS, ExV.upd hu hS a va h2, ExV.upd hu hS b vb h3⟩
  | .null _, _, h => NodeC.upd h hu hS
  | .not a, _, ⟨va, h1, h2⟩ => ⟨va, h1.upd hu hS, CnV.upd hu hS a va h2⟩
  | .both _ a b, _, ⟨va, vb, h1, h2, h3⟩ => ⟨va, vb, h1.upd hu hS, CnV.upd hu hS a va h2, CnV.upd hu hS b vb h3⟩
theorem CnV.mono (hS : ∀ b, b < w.heap.size → S b → S' b) : ∀ (e : Cn) (v : Value), CnV w S e v → CnV w S' e v
  | .cmp _ a b, _, ⟨va, vb, h1, h2, h3⟩ => ⟨va, vb, h1.mono hS, ExV.mono hS a va h2, ExV.mono hS b vb h3⟩
  | .null _, _, h => NodeC.mono h hS
  | .not a, _, ⟨va, h1, h2⟩ => ⟨va, h1.mono hS, CnV.mono hS a va h2⟩
  | .both _ a b, _, ⟨va, vb, h1, h2, h3⟩ => ⟨va, vb, h1.mono hS, CnV.mono hS a va h2, CnV.mono hS b vb h3⟩
theorem CnV.ptr : ∀ {e : Cn} {v : Value}, CnV w S e v → ∃ g, v = .pointer (some ⟨g, 0, none⟩)
  | .cmp _ _ _, _, ⟨_, _, h, _⟩ => ⟨h.choose, h.choose_spec.1⟩
  | .null _, _, h => ⟨h.choose, h.choose_spec.1⟩
  | .not _, _, ⟨_, h, _⟩ => ⟨h.choose, h.choose_spec.1⟩
  | .both _ _ _, _, ⟨_, _, h, _⟩ => ⟨h.choose, h.choose_spec.1⟩
end
end Go.Proofs.YtiiihpokpfhclaaDoor
