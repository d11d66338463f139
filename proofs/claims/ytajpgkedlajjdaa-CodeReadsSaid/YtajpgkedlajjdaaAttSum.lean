/- What reading a summary comes to: a value, or that it has failed. -/
import Derived.Test.YtajpgkedlajjdaaReadSum2
namespace Go.Proofs.Ytajpgkedlajjdaa
open Go.RowKit

theorem caught_sum (g p : Nat) (u : TypeId) (pv : Value) (older : List PanicEntry) (b : Bool) (w : World) (hc : w.cell? ⟨g, 0, none⟩ = some (.pointer (some ⟨p, 0, none⟩))) (hb : w.cell? ⟨p, 1, none⟩ = some (.bool b)) (hz : w.frozen? ⟨p, 1, none⟩ = false) :
    CallsD Try.prog 71 #[.pointer (some ⟨g, 0, none⟩)] (.panicking ({ v := .iface u pv, recovered := false } :: older)) w fun e u' w' =>
      e = .returned (.tuple #[]) ∧ u' = .panicking ({ v := .iface u pv, recovered := true } :: older) ∧ w' = w.setCell ⟨p, 1, none⟩ (.bool true) := by
  refine callsD_of_wpS Try.func71 rfl fun c₀ cs hu => ?_
  apply wpS_seq
  apply wpS_region
  simp [wpOpsS, go_sem, recoverD, hu, Try.ntmps71, Exit.thenS]
  refine wpS_cond (t := true) (by simp [Act.eval, Array.replicate]) ?_
  simp only [if_true]
  apply wpS_region
  simp [wpOpsS, go_sem, hc, hb, hz, bodyPostS, results, Try.results71]

theorem idle_sum (g : Nat) (w : World) :
    CallsD Try.prog 71 #[.pointer (some ⟨g, 0, none⟩)] .returning w fun e u' w' => e = .returned (.tuple #[]) ∧ u' = .returning ∧ w' = w := by
  refine callsD_of_wpS Try.func71 rfl fun c₀ cs hu => ?_
  apply wpS_seq
  apply wpS_region
  simp [wpOpsS, go_sem, recoverD, hu, Try.ntmps71, Exit.thenS]
  refine wpS_cond (t := false) (by simp [Act.eval, Array.replicate]) ?_
  simp only [Bool.false_eq_true, if_false]
  refine wpS_of_wp (wp_skip ?_)
  cases c₀
  simp_all [bodyPostS, results, Try.results71]


def zeroS : SumD := ⟨[], false, ⟨false, 0, 0⟩, []⟩
def MetP {α : Type} (D p : Nat) (w : World) (R : Value → World → α → Prop) (x : α × Option (List UInt8)) (e : Ending) (w' : World) : Prop :=
  (∃ v, e = .returned v ∧ R v w' x.1) ∧ Upd (At p) w w' ∧ RdS w' D p x.2
theorem zeroS_at (w : World) (base : Nat) : SumAt w base (.agg #[.slice none 0 0, .bool false, .bool false, .int .i64 0, .int .i64 0, .slice none 0 0]) zeroS :=
  ⟨_, _, rfl, World.ownsRow_nil _ _ _ _, World.ownsRow_nil _ _ _ _⟩

set_option maxRecDepth 100000 in
set_option maxHeartbeats 3200000 in
theorem attempt_sum (D p : Nat) (st : Option (List UInt8)) (w : World) (hR : RdS w D p st) (hl : ∀ l, st = some l → l.length ≤ 4294967296) :
    Calls Try.prog 55 #[.pointer (some ⟨p, 0, none⟩), .func (.func 56) #[.pointer (some ⟨p, 0, none⟩)] #[]] w fun e w' => MetP D p w (fun v w' s => SumAt w' w.heap.size v s) (read zeroS dsum st) e w' := by
  have hmf : ∀ (fn : Fn) (first cap : Array Value) (w : World), (Instr.makeFunc fn first cap).run Try.prog w = .ok (.func fn first cap) w := fun _ _ _ _ => rfl
  have hlt := hR.lt
  obtain ⟨w1, hw1⟩ : ∃ w1, w1 = (w.alloc (.cells #[.pointer (some ⟨p, 0, none⟩)] 47)).alloc (.cells #[.slice none 0 0, .bool false, .bool false, .int .i64 0, .int .i64 0, .slice none 0 0] 35) := ⟨_, rfl⟩
  have hU0 : Upd (At p) w w1 := by rw [hw1]; exact (Upd.alloc _ _ _).then (.alloc _ _ _)
  have hbox : w1.heap[w.heap.size]? = some (.cells #[.pointer (some ⟨p, 0, none⟩)] 47) := by rw [hw1]; exact heap_old (heap_new _ _) _
  have hres : w1.heap[w.heap.size + 1]? = some (.cells #[.slice none 0 0, .bool false, .bool false, .int .i64 0, .int .i64 0, .slice none 0 0] 35) := by
    rw [hw1]
    have := heap_new (w.alloc (.cells #[.pointer (some ⟨p, 0, none⟩)] 47)) (.cells #[.slice none 0 0, .bool false, .bool false, .int .i64 0, .int .i64 0, .slice none 0 0] 35)
    simpa using this
  have hR1 : RdS w1 D p st := by
    rw [hw1]
    exact hR.upd (.of_below (fun _ => False) (((Below.refl _ w).alloc (Nat.le_refl _) _).alloc (by simp) _)) id fun _ _ => id
  have hs1 : w1.heap.size = w.heap.size + 2 := by rw [hw1]; simp
  have hcb : w1.cell? ⟨w.heap.size, 0, none⟩ = some (.pointer (some ⟨p, 0, none⟩)) := by rw [cell_at hbox]; rfl
  have cells : ∀ W : World, W.heap[w.heap.size + 1]? = some (.cells #[.slice none 0 0, .bool false, .bool false, .int .i64 0, .int .i64 0, .slice none 0 0] 35) → W.cell? ⟨w.heap.size + 1, 0, none⟩ = some (.slice none 0 0) ∧ W.cell? ⟨w.heap.size + 1, 1, none⟩ = some (.bool false) ∧ W.cell? ⟨w.heap.size + 1, 2, none⟩ = some (.bool false) ∧ W.cell? ⟨w.heap.size + 1, 3, none⟩ = some (.int .i64 0) ∧ W.cell? ⟨w.heap.size + 1, 4, none⟩ = some (.int .i64 0) ∧ W.cell? ⟨w.heap.size + 1, 5, none⟩ = some (.slice none 0 0) := by
    intro W h
    refine ⟨?_, ?_, ?_, ?_, ?_, ?_⟩ <;> (rw [cell_at h]; rfl)
  replace cells := hide cells
  replace hU0 := hide hU0
  replace hlt := hide hlt
  replace hs1 := hide hs1
  cases st with
  | none =>
    obtain ⟨l, hl1⟩ := hR1
    have hh2 := hl1.blk
    obtain ⟨v, hh2⟩ := hh2
    have hc1 : w1.cell? ⟨p, 1, none⟩ = some (.bool true) := by rw [cell_at hh2]; rfl
    obtain ⟨d0, d1, d2, d3, d4, d5⟩ := cells.out w1 hres
    have hf0 := frozen_at hres 0
    have hf1 := frozen_at hres 1
    have hf2 := frozen_at hres 2
    have hf3 := frozen_at hres 3
    have hf4 := frozen_at hres 4
    have hf5 := frozen_at hres 5
    replace hh2 := hide hh2
    replace hl1 := hide hl1
    replace hbox := hide hbox
    replace hres := hide hres
    clear hR
    replace hw1 := hw1.symm
    go_enter_defers Try.func55, Try.ntmps55
    go_wp2_with fail
    have hpg : p < w.heap.size + 1 := by have := hlt.out; omega
    refine ⟨.agg #[.slice none 0 0, .bool false, .bool false, .int .i64 0, .int .i64 0, .slice none 0 0], by simp [results, Try.results55, go_sem, d0, d1, d2, d3, d4, d5], ?_⟩
    exact ⟨⟨_, rfl, zeroS_at _ _⟩, ((((((hU0.out.setNew (a := ⟨w.heap.size + 1, 0, none⟩) (Nat.le_succ _) _).setNew (a := ⟨w.heap.size + 1, 1, none⟩) (Nat.le_succ _) _).setNew (a := ⟨w.heap.size + 1, 2, none⟩) (Nat.le_succ _) _).setNew (a := ⟨w.heap.size + 1, 3, none⟩) (Nat.le_succ _) _).setNew (a := ⟨w.heap.size + 1, 4, none⟩) (Nat.le_succ _) _).setNew (a := ⟨w.heap.size + 1, 5, none⟩) (Nat.le_succ _) _), l, ((((((hl1.out.setFar hpg _).setFar hpg _).setFar hpg _).setFar hpg _).setFar hpg _).setFar hpg _)⟩
  | some l =>
    have hlen := hl l rfl
    have hN := hide (rsummary_any D p l w1 hR1 hlen)
    have hh2 := Rd.blk hR1
    obtain ⟨v, hh2⟩ := hh2
    have hc1 : w1.cell? ⟨p, 1, none⟩ = some (.bool false) := by rw [cell_at hh2]; rfl
    replace hh2 := hide hh2
    replace hbox := hide hbox
    replace hres := hide hres
    clear hR hR1
    replace hw1 := hw1.symm
    have hpg : p < w.heap.size + 1 := by have := hlt.out; omega
    replace hpg := hide hpg
    cases hd : dsum l with
    | none =>
      have hr : read zeroS dsum (some l) = (zeroS, none) := by simp [read, hd]
      rw [hr]
      rw [hd] at hN
      clear hd hr
      go_enter_defers Try.func55, Try.ntmps55
      go_wp2_with fail
      refine hN.out.mono ?_
      rintro e w2 ⟨hU, ⟨pv, rfl⟩, r, hR2⟩
      have hbox2 := hU.heap hbox.out (fun e => by have := hlt.out; have : w.heap.size = p := e; omega)
      have hres2 := hU.heap hres.out (fun e => by have := hlt.out; have : w.heap.size + 1 = p := e; omega)
      have hres3 : (w2.setCell ⟨p, 1, none⟩ (.bool true)).heap[w.heap.size + 1]? = _ := (heap_set_other (by have := hlt.out; omega) 1 (.bool true)).trans hres2
      obtain ⟨d0, d1, d2, d3, d4, d5⟩ := cells.out _ hres3
      replace hres2 := hide hres2
      replace hres3 := hide hres3
      go_wp2_with fail
      refine leaves_cons (f := 71) (args := #[.pointer (some ⟨w.heap.size, 0, none⟩)]) (by simp) (by simp [go_sem]) ?_
      obtain ⟨v2, hh3⟩ := hR2.blk
      refine (caught_sum w.heap.size p _ pv [] false _ ?_ ?_ ?_).mono ?_
      · rw [cell_at hbox2]; rfl
      · rw [cell_at hh3]; rfl
      · exact frozen_at hh3 1
      rintro e u' w3 ⟨rfl, rfl, rfl⟩
      refine ⟨.agg #[.slice none 0 0, .bool false, .bool false, .int .i64 0, .int .i64 0, .slice none 0 0], by simp [results, Try.results55, go_sem, d0, d1, d2, d3, d4, d5], ?_⟩
      exact ⟨⟨_, rfl, zeroS_at _ _⟩, (hU0.out.then hU).then (Upd.set _ (F := At p) (a := ⟨p, 1, none⟩) rfl _), r, hR2.fail⟩
    | some x =>
      obtain ⟨s, r⟩ := x
      have hr : read zeroS dsum (some l) = (s, some r) := by simp [read, hd]
      rw [hr]
      rw [hd] at hN
      clear hd hr
      go_enter_defers Try.func55, Try.ntmps55
      go_wp2_with fail
      refine hN.out.mono ?_
      rintro e w2 ⟨hU, ⟨v2, rfl, va, vm, rfl, hva, hvm⟩, hR2⟩
      have hres2 := hU.heap hres.out (fun e => by have := hlt.out; have : w.heap.size + 1 = p := e; omega)
      obtain ⟨d0, d1, d2, d3, d4, d5⟩ := cells.out _ hres2
      have hf0 := frozen_at hres2 0
      have hf1 := frozen_at hres2 1
      have hf2 := frozen_at hres2 2
      have hf3 := frozen_at hres2 3
      have hf4 := frozen_at hres2 4
      have hf5 := frozen_at hres2 5
      obtain ⟨Aa, ca, rfl⟩ := own_slice hva
      obtain ⟨Am, cm, rfl⟩ := own_slice hvm
      replace hva := hide hva
      replace hvm := hide hvm
      replace hU := hide (hU0.out.then hU)
      replace hres2 := hide hres2
      replace hR2 := hide hR2
      go_wp2_with fail
      refine leaves_cons (f := 71) (args := #[.pointer (some ⟨w.heap.size, 0, none⟩)]) (by simp) (by simp [go_sem]) ?_
      refine (idle_sum w.heap.size _).mono ?_
      rintro e u' w3 ⟨rfl, rfl, rfl⟩
      refine ⟨.agg #[.slice Aa s.alarms.length ca, .bool s.ends, .bool s.ret.some, .int .i64 s.ret.lo, .int .i64 s.ret.hi, .slice Am s.mod.length cm], by simp [results, Try.results55, go_sem, d0, d1, d2, d3, d4, d5], ?_⟩
      have hna : ∀ k, Value.ownBlock (.slice Aa s.alarms.length ca) = some k → k ≠ w.heap.size + 1 := fun k hk e => by have := (World.ownsRow.lt hva.out k hk).1; have := hs1.out; omega
      have hnm : ∀ k, Value.ownBlock (.slice Am s.mod.length cm) = some k → k ≠ w.heap.size + 1 := fun k hk e => by have := (World.ownsRow.lt hvm.out k hk).1; have := hs1.out; omega
      have hpg := hpg.out
      refine ⟨⟨_, rfl, _, _, rfl, ?_, ?_⟩, ((((((hU.out.setNew (a := ⟨w.heap.size + 1, 0, none⟩) (Nat.le_succ _) _).setNew (a := ⟨w.heap.size + 1, 1, none⟩) (Nat.le_succ _) _).setNew (a := ⟨w.heap.size + 1, 2, none⟩) (Nat.le_succ _) _).setNew (a := ⟨w.heap.size + 1, 3, none⟩) (Nat.le_succ _) _).setNew (a := ⟨w.heap.size + 1, 4, none⟩) (Nat.le_succ _) _).setNew (a := ⟨w.heap.size + 1, 5, none⟩) (Nat.le_succ _) _), (((((((show Rd _ D p r false from hR2.out).setFar hpg _).setFar hpg _).setFar hpg _).setFar hpg _).setFar hpg _).setFar hpg _)⟩
      · exact ownsRow_base (own_set (own_set (own_set (own_set (own_set (own_set hva.out hna _ _) hna _ _) hna _ _) hna _ _) hna _ _) hna _ _) (by have := hs1.out; omega)
      · exact ownsRow_base (own_set (own_set (own_set (own_set (own_set (own_set hvm.out hnm _ _) hnm _ _) hnm _ _) hnm _ _) hnm _ _) hnm _ _) (by have := hs1.out; omega)
end Go.Proofs.Ytajpgkedlajjdaa
