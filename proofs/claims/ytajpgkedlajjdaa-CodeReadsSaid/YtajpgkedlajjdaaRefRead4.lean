/- Walks of the document's reader: intervals. -/
import Derived.Test.YtajpgkedlajjdaaRefRead3
namespace Go.Proofs.Ytajpgkedlajjdaa
open Go.RowKit

def zeroI : IvalD := ⟨false, 0, 0⟩
theorem read_ival_no (st : Option (List UInt8)) (h : (read false dbool st).1 = false) : (read zeroI dival st).2 = (read false dbool st).2 ∧ (read zeroI dival st).1 = zeroI := by
  cases st with
  | none => exact ⟨rfl, rfl⟩
  | some l =>
    unfold read at h ⊢
    rw [Option.bind_some] at h ⊢
    rw [Option.bind_some]
    unfold dival
    cases hd : dbool l with
    | none => exact ⟨rfl, rfl⟩
    | some x =>
      obtain ⟨b, r⟩ := x
      rw [hd] at h
      simp only at h
      subst h
      exact ⟨rfl, rfl⟩
theorem read_ival_yes (st : Option (List UInt8)) (h : (read false dbool st).1 = true) : (read zeroI dival st).2 = (read 0 dint (read 0 dint (read false dbool st).2).2).2 ∧ ((read zeroI dival st).2 ≠ none → (read zeroI dival st).1 = ⟨true, (read 0 dint (read false dbool st).2).1, (read 0 dint (read 0 dint (read false dbool st).2).2).1⟩) := by
  cases st with
  | none => cases h
  | some l =>
    unfold read at h
    rw [Option.bind_some] at h
    cases hd : dbool l with
    | none => rw [hd] at h; cases h
    | some x =>
      obtain ⟨b, r⟩ := x
      rw [hd] at h
      simp only at h
      subst h
      have e1 : read false dbool (some l) = (true, some r) := by unfold read; rw [Option.bind_some, hd]
      rw [e1]
      simp only
      cases h2 : dint r with
      | none =>
        have e2 : read 0 dint (some r) = (0, none) := by unfold read; rw [Option.bind_some, h2]
        have e3 : read zeroI dival (some l) = (zeroI, none) := by unfold read; rw [Option.bind_some]; unfold dival; rw [hd]; simp [h2]
        rw [e2, e3]
        exact ⟨rfl, fun h => absurd rfl h⟩
      | some y =>
        have e2 : read 0 dint (some r) = (y.1, some y.2) := by unfold read; rw [Option.bind_some, h2]
        rw [e2]
        simp only
        cases h3 : dint y.2 with
        | none =>
          have e4 : read 0 dint (some y.2) = (0, none) := by unfold read; rw [Option.bind_some, h3]
          have e3 : read zeroI dival (some l) = (zeroI, none) := by unfold read; rw [Option.bind_some]; unfold dival; rw [hd]; simp [h2, h3]
          rw [e4, e3]
          exact ⟨rfl, fun h => absurd rfl h⟩
        | some z =>
          have e4 : read 0 dint (some y.2) = (z.1, some z.2) := by unfold read; rw [Option.bind_some, h3]
          have e3 : read zeroI dival (some l) = (⟨true, y.1, z.1⟩, some z.2) := by unfold read; rw [Option.bind_some]; unfold dival; rw [hd]; simp [h2, h3]
          rw [e4, e3]
          exact ⟨rfl, fun _ => rfl⟩

/-- What a method comes to whose value counts only where it hasn't failed. -/
def MetI (D m : Nat) (w : World) (x : IvalD × Option (List UInt8)) (e : Ending) (w' : World) : Prop :=
  ∃ iv : IvalD, e = .returned (ivalV iv) ∧ Upd (At m) w w' ∧ RfS w' D m x.2 ∧ (x.2 ≠ none → iv = x.1)

theorem RfS.setFar {w : World} {D m g o : Nat} {st : Option (List UInt8)} (h : RfS w D m st) (hg : m < g) (u : Value) : RfS (w.setCell ⟨g, o, none⟩ u) D m st := by
  have hD : D ≤ m := by
    cases st with
    | none => obtain ⟨l, hl⟩ := h; exact hl.1
    | some l => exact h.1
  exact h.upd (Upd.set (F := fun k => k = g) w (a := ⟨g, o, none⟩) rfl u) (by omega) fun k hk e => by omega

set_option maxRecDepth 100000 in
set_option maxHeartbeats 1600000 in
theorem fIval_any (D m : Nat) (st : Option (List UInt8)) (w : World) (hR : RfS w D m st) :
    Calls Try.prog 58 #[.pointer (some ⟨m, 0, none⟩)] w fun e w' => MetI D m w (read zeroI dival st) e w' := by
  have hno := hide (read_ival_no st)
  have hyes := hide (read_ival_yes st)
  have hlt := hide hR.lt
  obtain ⟨w1, hw1⟩ : ∃ w1, w1 = (w.alloc (.cells #[.bool false, .int .i64 0, .int .i64 0] 32)).alloc (.cells #[.bool false, .int .i64 0, .int .i64 0] 32) := ⟨_, rfl⟩
  have hb1 : Below w.heap.size w w1 := by rw [hw1]; exact ((Below.refl _ w).alloc (Nat.le_refl _) _).alloc (by simp) _
  have hres : w1.heap[w.heap.size]? = some (.cells #[.bool false, .int .i64 0, .int .i64 0] 32) := by rw [hw1]; exact heap_old (heap_new _ _) _
  have hbox : w1.heap[w.heap.size + 1]? = some (.cells #[.bool false, .int .i64 0, .int .i64 0] 32) := by
    rw [hw1]
    have := heap_new (w.alloc (.cells #[.bool false, .int .i64 0, .int .i64 0] 32)) (.cells #[.bool false, .int .i64 0, .int .i64 0] 32)
    simpa using this
  have hR1 : RfS w1 D m st := hR.upd (.of_below (fun _ => False) hb1) id fun _ _ => id
  have hU1 := hide (Upd.of_below (At m) hb1)
  replace hw1 := hw1.symm
  go_enter Try.func58, Try.ntmps58
  go_wp2_with fail
  refine (fBool_any D m st _ hR1).mono ?_
  rintro e w2 ⟨rfl, hU2, hR2⟩
  have hres2 := hide (hU2.heap hres (show ¬ w.heap.size = m from by have := hlt.out; omega))
  have hbox2 := hide (hU2.heap hbox (show ¬ w.heap.size + 1 = m from by have := hlt.out; omega))
  replace hU2 := hide (hU1.out.then hU2)
  clear hw1 hb1 hres hbox hR1 hU1
  have hg0 := hide (show m < w.heap.size from hlt.out)
  have hg1 := hide (show m < w.heap.size + 1 by have := hlt.out; omega)
  obtain ⟨b, st1, hx⟩ : ∃ b st1, read false dbool st = (b, st1) := ⟨_, _, rfl⟩
  rw [hx] at hR2
  simp only at hR2
  have hno2 := hno.out
  have hyes2 := hyes.out
  rw [hx] at hno2 hyes2 ⊢
  simp only at hno2 hyes2
  clear hno hyes hx
  cases b
  · clear hyes2
    obtain ⟨h1, h2⟩ := hno2 rfl
    rw [← h1] at hR2
    replace h2 := hide h2
    clear h1 hno2
    have d0 : w2.cell? ⟨w.heap.size, 0, none⟩ = some (.bool false) := by rw [cell_at hres2.out]; rfl
    have d1 : w2.cell? ⟨w.heap.size, 1, none⟩ = some (.int .i64 0) := by rw [cell_at hres2.out]; rfl
    have d2 : w2.cell? ⟨w.heap.size, 2, none⟩ = some (.int .i64 0) := by rw [cell_at hres2.out]; rfl
    have f0 := frozen_at hres2.out 0
    have f1 := frozen_at hres2.out 1
    have f2 := frozen_at hres2.out 2
    have c0 : w2.cell? ⟨w.heap.size + 1, 0, none⟩ = some (.bool false) := by rw [cell_at hbox2.out]; rfl
    have c1 : w2.cell? ⟨w.heap.size + 1, 1, none⟩ = some (.int .i64 0) := by rw [cell_at hbox2.out]; rfl
    have c2 : w2.cell? ⟨w.heap.size + 1, 2, none⟩ = some (.int .i64 0) := by rw [cell_at hbox2.out]; rfl
    go_wp2_with fail
    refine bodyPost_ret (v := .agg #[.bool false, .int .i64 0, .int .i64 0]) (by simp [results, Try.results58, go_sem, d0, d1, d2]) rfl ?_
    exact ⟨zeroI, rfl, ((hU2.out.setNew (a := ⟨w.heap.size, 0, none⟩) (Nat.le_refl _) _).setNew (a := ⟨w.heap.size, 1, none⟩) (Nat.le_refl _) _).setNew (a := ⟨w.heap.size, 2, none⟩) (Nat.le_refl _) _, ((hR2.setFar hg0.out _).setFar hg0.out _).setFar hg0.out _, fun _ => h2.out.symm⟩
  · clear hno2
    obtain ⟨h1, h2⟩ := hyes2 rfl
    rw [h1] at h2
    clear hyes2
    have c0 : w2.cell? ⟨w.heap.size + 1, 0, none⟩ = some (.bool false) := by rw [cell_at hbox2.out]; rfl
    have e0 := frozen_at hbox2.out 0
    have hbox3 := hide (show (w2.setCell ⟨w.heap.size + 1, 0, none⟩ (.bool true)).heap[w.heap.size + 1]? = some (.cells #[.bool true, .int .i64 0, .int .i64 0] 32) from by rw [heap_set hbox2.out]; rfl)
    have hres3 := hide (show (w2.setCell ⟨w.heap.size + 1, 0, none⟩ (.bool true)).heap[w.heap.size]? = some (.cells #[.bool false, .int .i64 0, .int .i64 0] 32) from (heap_set_other (by omega) _ _).trans hres2.out)
    have hR3 := hide (RfS.setFar hR2 hg1.out (o := 0) (.bool true))
    have hU3 := hide (hU2.out.setNew (a := ⟨w.heap.size + 1, 0, none⟩) (by simp) (.bool true))
    replace h1 := hide h1
    replace h2 := hide h2
    clear hU2 hR2 hres2
    go_wp2_with fail
    refine (fInt_any D m st1 _ hR3.out).mono ?_
    rintro e w3 ⟨rfl, hU4, hR4⟩
    have hbox4 := hide (hU4.heap hbox3.out (show ¬ w.heap.size + 1 = m from by have := hlt.out; omega))
    have hres4 := hide (hU4.heap hres3.out (show ¬ w.heap.size = m from by have := hlt.out; omega))
    obtain ⟨lo, st2, hy⟩ : ∃ lo st2, read 0 dint st1 = (lo, st2) := ⟨_, _, rfl⟩
    have h1' := h1.out
    have h2' := h2.out
    rw [hy] at hR4 h1' h2' ⊢
    simp only at hR4 h1' h2'
    replace h1 := hide h1'
    replace h2 := hide h2'
    clear h1' h2' hy
    have hU4' := hide (hU3.out.then hU4)
    clear hU3 hR3 hbox3 hres3 c0 e0
    have c1 : w3.cell? ⟨w.heap.size + 1, 1, none⟩ = some (.int .i64 0) := by rw [cell_at hbox4.out]; rfl
    have e1 := frozen_at hbox4.out 1
    have hbox5 := hide (show (w3.setCell ⟨w.heap.size + 1, 1, none⟩ (.int .i64 lo)).heap[w.heap.size + 1]? = some (.cells #[.bool true, .int .i64 lo, .int .i64 0] 32) from by rw [heap_set hbox4.out]; rfl)
    have hres5 := hide (show (w3.setCell ⟨w.heap.size + 1, 1, none⟩ (.int .i64 lo)).heap[w.heap.size]? = some (.cells #[.bool false, .int .i64 0, .int .i64 0] 32) from (heap_set_other (by omega) _ _).trans hres4.out)
    have hR5 := hide (RfS.setFar hR4 hg1.out (o := 1) (.int .i64 lo))
    have hU5 := hide (hU4'.out.setNew (a := ⟨w.heap.size + 1, 1, none⟩) (by simp) (.int .i64 lo))
    clear hU4 hU4' hR4 hbox4 hres4
    unfold i64v
    go_wp2_with fail
    refine (fInt_any D m st2 _ hR5.out).mono ?_
    rintro e w4 ⟨rfl, hU6, hR6⟩
    have hbox6 := hide (hU6.heap hbox5.out (show ¬ w.heap.size + 1 = m from by have := hlt.out; omega))
    have hres6 := hide (hU6.heap hres5.out (show ¬ w.heap.size = m from by have := hlt.out; omega))
    obtain ⟨hi, st3, hy⟩ : ∃ hi st3, read 0 dint st2 = (hi, st3) := ⟨_, _, rfl⟩
    have h1' := h1.out
    have h2' := h2.out
    rw [hy] at hR6 h1' h2' ⊢
    simp only at hR6 h1' h2'
    have hU6' := hide (hU5.out.then hU6)
    replace hR6 := hide (show RfS w4 D m (read zeroI dival st).2 from by rw [h1']; exact hR6)
    replace h2 := hide (show (read zeroI dival st).2 ≠ none → (⟨true, lo, hi⟩ : IvalD) = (read zeroI dival st).1 from fun h => (h2' (by rw [← h1']; exact h)).symm)
    clear h1' h2' h1 hy hU5 hR5 hbox5 hres5 c1 e1 hU6
    have c0 : w4.cell? ⟨w.heap.size + 1, 0, none⟩ = some (.bool true) := by rw [cell_at hbox6.out]; rfl
    have c1 : w4.cell? ⟨w.heap.size + 1, 1, none⟩ = some (.int .i64 lo) := by rw [cell_at hbox6.out]; rfl
    have c2 : w4.cell? ⟨w.heap.size + 1, 2, none⟩ = some (.int .i64 0) := by rw [cell_at hbox6.out]; rfl
    have e2 := frozen_at hbox6.out 2
    have d0 : w4.cell? ⟨w.heap.size, 0, none⟩ = some (.bool false) := by rw [cell_at hres6.out]; rfl
    have d1 : w4.cell? ⟨w.heap.size, 1, none⟩ = some (.int .i64 0) := by rw [cell_at hres6.out]; rfl
    have d2 : w4.cell? ⟨w.heap.size, 2, none⟩ = some (.int .i64 0) := by rw [cell_at hres6.out]; rfl
    have f0 := frozen_at hres6.out 0
    have f1 := frozen_at hres6.out 1
    have f2 := frozen_at hres6.out 2
    unfold i64v
    go_wp2_with fail
    refine bodyPost_ret (v := .agg #[.bool true, .int .i64 lo, .int .i64 hi]) (by simp [results, Try.results58, go_sem, d0, d1, d2]) rfl ?_
    exact ⟨⟨true, lo, hi⟩, rfl, (((hU6'.out.setNew (a := ⟨w.heap.size + 1, 2, none⟩) (by simp) _).setNew (a := ⟨w.heap.size, 0, none⟩) (Nat.le_refl _) _).setNew (a := ⟨w.heap.size, 1, none⟩) (Nat.le_refl _) _).setNew (a := ⟨w.heap.size, 2, none⟩) (Nat.le_refl _) _, (((hR6.out.setFar hg1.out _).setFar hg0.out _).setFar hg0.out _).setFar hg0.out _, h2.out⟩
end Go.Proofs.Ytajpgkedlajjdaa
