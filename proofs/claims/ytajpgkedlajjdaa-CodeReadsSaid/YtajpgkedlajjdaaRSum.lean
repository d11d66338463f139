/- A summary read. -/
import Derived.Test.YtajpgkedlajjdaaAttSum
namespace Go.Proofs.Ytajpgkedlajjdaa
open Go.RowKit

theorem RdS.setFar {w : World} {D p g o : Nat} : ∀ {st : Option (List UInt8)}, RdS w D p st → p < g → ∀ u, RdS (w.setCell ⟨g, o, none⟩ u) D p st
  | some _, h, hg, u => Rd.setFar h hg u
  | none, ⟨l, h⟩, hg, u => ⟨l, h.setFar hg u⟩
set_option maxRecDepth 100000 in
set_option maxHeartbeats 3200000 in
theorem rSummary_any (D p : Nat) (st : Option (List UInt8)) (w : World) (hR : RdS w D p st) (hl : ∀ l, st = some l → l.length ≤ 4294967296) :
    Calls Try.prog 31 #[.pointer (some ⟨p, 0, none⟩)] w fun e w' => MetP D p w (fun v w' s => SumAt w' w.heap.size v s) (read zeroS dsum st) e w' := by
  have hmf : ∀ (fn : Fn) (first cap : Array Value) (w : World), (Instr.makeFunc fn first cap).run Try.prog w = .ok (.func fn first cap) w := fun _ _ _ _ => rfl
  have hlt := hide hR.lt
  obtain ⟨w1, hw1⟩ : ∃ w1, w1 = w.alloc (.cells #[.slice none 0 0, .bool false, .bool false, .int .i64 0, .int .i64 0, .slice none 0 0] 35) := ⟨_, rfl⟩
  have hU0 := hide (show Upd (At p) w w1 by rw [hw1]; exact .alloc _ _ _)
  have hres : w1.heap[w.heap.size]? = some (.cells #[.slice none 0 0, .bool false, .bool false, .int .i64 0, .int .i64 0, .slice none 0 0] 35) := by rw [hw1]; exact heap_new _ _
  have hR1 : RdS w1 D p st := by
    rw [hw1]
    exact hR.upd (.of_below (fun _ => False) ((Below.refl _ w).alloc (Nat.le_refl _) _)) id fun _ _ => id
  have hs1 := hide (show w1.heap.size = w.heap.size + 1 by rw [hw1]; simp)
  have hN := hide (attempt_sum D p st w1 hR1 hl)
  replace hres := hide hres
  clear hR hR1
  replace hw1 := hw1.symm
  generalize read zeroS dsum st = x at *
  obtain ⟨s, st2⟩ := x
  go_enter Try.func31, Try.ntmps31
  go_wp2_with fail
  refine hN.out.mono ?_
  rintro e w2 ⟨⟨v2, rfl, va, vm, rfl, hva, hvm⟩, hU, hR2⟩
  have hres2 := hU.heap hres.out (fun e => by have := hlt.out; have : w.heap.size = p := e; omega)
  have d0 : w2.cell? ⟨w.heap.size, 0, none⟩ = some (.slice none 0 0) := by rw [cell_at hres2]; rfl
  have d1 : w2.cell? ⟨w.heap.size, 1, none⟩ = some (.bool false) := by rw [cell_at hres2]; rfl
  have d2 : w2.cell? ⟨w.heap.size, 2, none⟩ = some (.bool false) := by rw [cell_at hres2]; rfl
  have d3 : w2.cell? ⟨w.heap.size, 3, none⟩ = some (.int .i64 0) := by rw [cell_at hres2]; rfl
  have d4 : w2.cell? ⟨w.heap.size, 4, none⟩ = some (.int .i64 0) := by rw [cell_at hres2]; rfl
  have d5 : w2.cell? ⟨w.heap.size, 5, none⟩ = some (.slice none 0 0) := by rw [cell_at hres2]; rfl
  have hf0 := frozen_at hres2 0
  have hf1 := frozen_at hres2 1
  have hf2 := frozen_at hres2 2
  have hf3 := frozen_at hres2 3
  have hf4 := frozen_at hres2 4
  have hf5 := frozen_at hres2 5
  obtain ⟨Aa, ca, rfl⟩ := own_slice hva
  obtain ⟨Am, cm, rfl⟩ := own_slice hvm
  replace hva := hide hva
  replace hvm := hide hvm
  replace hU := hide (hU0.out.then hU)
  replace hres2 := hide hres2
  replace hR2 := hide hR2
  go_wp2_with fail
  refine bodyPost_ret (v := .agg #[.slice Aa s.alarms.length ca, .bool s.ends, .bool s.ret.some, .int .i64 s.ret.lo, .int .i64 s.ret.hi, .slice Am s.mod.length cm]) (by simp [results, Try.results31, go_sem, d0, d1, d2, d3, d4, d5]) rfl ?_
  have hna : ∀ k, Value.ownBlock (.slice Aa s.alarms.length ca) = some k → k ≠ w.heap.size := fun k hk e => by have := (World.ownsRow.lt hva.out k hk).1; have := hs1.out; omega
  have hnm : ∀ k, Value.ownBlock (.slice Am s.mod.length cm) = some k → k ≠ w.heap.size := fun k hk e => by have := (World.ownsRow.lt hvm.out k hk).1; have := hs1.out; omega
  refine ⟨⟨_, rfl, _, _, rfl, ?_, ?_⟩, ((((((hU.out.setNew (a := ⟨w.heap.size, 0, none⟩) (Nat.le_refl _) _).setNew (a := ⟨w.heap.size, 1, none⟩) (Nat.le_refl _) _).setNew (a := ⟨w.heap.size, 2, none⟩) (Nat.le_refl _) _).setNew (a := ⟨w.heap.size, 3, none⟩) (Nat.le_refl _) _).setNew (a := ⟨w.heap.size, 4, none⟩) (Nat.le_refl _) _).setNew (a := ⟨w.heap.size, 5, none⟩) (Nat.le_refl _) _), (RdS.setFar (RdS.setFar (RdS.setFar (RdS.setFar (RdS.setFar (RdS.setFar hR2.out hlt.out _) hlt.out _) hlt.out _) hlt.out _) hlt.out _) hlt.out _)⟩
  · exact ownsRow_base (own_set (own_set (own_set (own_set (own_set (own_set hva.out hna _ _) hna _ _) hna _ _) hna _ _) hna _ _) hna _ _) (by have := hs1.out; omega)
  · exact ownsRow_base (own_set (own_set (own_set (own_set (own_set (own_set hvm.out hnm _ _) hnm _ _) hnm _ _) hnm _ _) hnm _ _) hnm _ _) (by have := hs1.out; omega)
end Go.Proofs.Ytajpgkedlajjdaa
