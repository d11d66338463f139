/- Part 11 of the walks (merged): PutB, Tide, FindR. -/
import Derived.Test.YtpnboihbifhigaaGreatDoorM10
import Derived.Test.YtpnboihbifhigaaGreatDoorM4
import Derived.Test.YtpnboihbifhigaaGreatDoorM9
import Derived.Maps.AppendAt
/- Walks of wal: puts that are refused; Commit, Reset. -/
namespace Go.Proofs.YtpnboihbifhigaaGreatDoor
open Go Go.RowKit
section
variable {W : World} {lb sb live : Nat} {x : Ext} {S : Nat → Prop} {D : DS}
set_option maxRecDepth 100000 in
theorem put_long (lb : Nat) (y : Ext) {T : Nat → Prop} {rv : Value} {rs : List (List UInt8)} (hr : RecsV W T rv rs) (hany : rs.any tooL = true) :
    Calls Tryz.prog 83 #[.pointer (some ⟨lb, 0, none⟩), extV y, rv] W fun e w' => e = .returned (.int .i64 42) ∧ Below W.heap.size W w' := by
  obtain ⟨w1, hw1⟩ : ∃ w1, w1 = W.alloc (.cells #[.int .i64 y.area, .int .i64 y.bytes, .int .i64 y.records] 128) := ⟨_, rfl⟩
  have hU1 : Upd (fun _ => False) W w1 := by rw [hw1]; exact .alloc _ _ _
  have hcf := containsFunc_any (hr.upd hU1 fun _ _ => id)
  rw [hany] at hcf
  unfold extV
  replace hU1 := hide hU1
  replace hr := hide hr
  replace hany := hide hany
  go_enter Tryz.func83, Tryz.ntmps83
  go_wp2_with fail
  rw [← hw1]
  replace hw1 := hide hw1
  refine hcf.mono ?_
  rintro e w' ⟨rfl, rfl⟩
  go_wp2_with fail
  go_ret
  refine ⟨rfl, hU1.out.below (Nat.le_refl _) fun _ h => h.elim⟩
set_option maxRecDepth 100000 in
set_option maxHeartbeats 1000000 in
theorem put_full (hL : LogV W lb sb live x) (hD : DiskV W sb S D) (hn : 16 ≤ D.n) (y : Ext) (hya : y.area ≤ 1) (hyr : y.records + (y.bytes + 1) ≤ 2147483648)
    {T : Nat → Prop} {rv : Value} {rs : List (List UInt8)} (hr : RecsV W T rv rs) (hrl : rs.length ≤ 2147483648) (hfl : (frames rs).length ≤ 2251799813685248) (hany : rs.any tooL = false) (hfull : capN D < y.bytes + (frames rs).length) :
    Calls Tryz.prog 83 #[.pointer (some ⟨lb, 0, none⟩), extV y, rv] W fun e w' => e = .returned (.int .i64 40) ∧ Below W.heap.size W w' := by
  obtain ⟨w1, hw1⟩ : ∃ w1, w1 = W.alloc (.cells #[.int .i64 y.area, .int .i64 y.bytes, .int .i64 y.records] 128) := ⟨_, rfl⟩
  have y4 : w1.heap[W.heap.size]? = some (.cells #[.int .i64 y.area, .int .i64 y.bytes, .int .i64 y.records] 128) := by rw [hw1]; exact heap_new _ _
  have hU1 : Upd (fun _ => False) W w1 := by rw [hw1]; exact .alloc _ _ _
  have hr1 := hr.upd hU1 fun _ _ => id
  have hcf := containsFunc_any hr1
  rw [hany] at hcf
  have hwi := with_any hr1 y (by omega) (by omega) (by omega)
  unfold extV at hwi ⊢
  obtain ⟨p, hp⟩ : ∃ p : Ext, p = y.plus rs := ⟨_, rfl⟩
  rw [← hp] at hwi
  have hpb : p.bytes = y.bytes + (frames rs).length := by rw [hp]; rfl
  have x0 : w1.cell? ⟨W.heap.size, 0, none⟩ = some (.int .i64 y.area) := by rw [cell_at y4]; rfl
  have x1 : w1.cell? ⟨W.heap.size, 1, none⟩ = some (.int .i64 y.bytes) := by rw [cell_at y4]; rfl
  have x2 : w1.cell? ⟨W.heap.size, 2, none⟩ = some (.int .i64 y.records) := by rw [cell_at y4]; rfl
  replace hL := hide hL
  replace hD := hide hD
  replace hr := hide hr
  replace hr1 := hide hr1
  replace hp := hide hp
  replace hpb := hide hpb
  replace y4 := hide y4
  replace hU1 := hide hU1
  replace hany := hide hany
  go_enter Tryz.func83, Tryz.ntmps83
  go_wp2_with fail
  rw [← hw1]
  replace hw1 := hide hw1
  refine hcf.mono ?_
  rintro e w' ⟨rfl, rfl⟩
  go_wp2_with fail
  refine hwi.mono ?_
  rintro e w2 ⟨rfl, hb2⟩
  have hU2 : Upd (fun _ => False) w1 w2 := .of_below _ hb2
  replace hU2 := hide hU2
  clear hb2 hwi hcf
  go_wp2_with fail
  obtain ⟨w3, hw3⟩ : ∃ w3, w3 = w2.alloc (.cells #[.int .i64 p.area, .int .i64 p.bytes, .int .i64 p.records] 128) := ⟨_, rfl⟩
  have y7 : w3.heap[w2.heap.size]? = some (.cells #[.int .i64 p.area, .int .i64 p.bytes, .int .i64 p.records] 128) := by rw [hw3]; exact heap_new _ _
  have hU3 : Upd (fun _ => False) w2 w3 := by rw [hw3]; exact .alloc _ _ _
  rw [← hw3]
  replace hw3 := hide hw3
  have hU13 : Upd (fun _ => False) W w3 := (hU1.out.then hU2.out).then hU3
  have hD3 := hD.out.upd hU13 fun _ _ => id
  have hL3 := hU13.heap hL.out id
  have c7 : w3.cell? ⟨w2.heap.size, 1, none⟩ = some (.int .i64 p.bytes) := by rw [cell_at y7]; rfl
  have k0 : w3.cell? ⟨lb, 0, none⟩ = some (.pointer (some ⟨sb, 0, none⟩)) := by rw [cell_at hL3]; rfl
  have hfz : capN D < p.bytes := by rw [hpb.out]; exact hfull
  replace hD3 := hide hD3
  replace hL3 := hide hL3
  replace y7 := hide y7
  replace hU13 := hide hU13
  replace hU3 := hide hU3
  clear x0 x1 x2
  refine wp_region_flow (fun _ => False) (factAt [(fun v _ => v = (.pointer (some ⟨w2.heap.size, 1, none⟩))), (fun v _ => v = (.int .i64 (p.bytes : Nat))), (fun v _ => v = (.pointer (some ⟨lb, 0, none⟩))), (fun v _ => v = (.pointer (some ⟨lb, 0, none⟩))), (fun v _ => v = (.pointer (some ⟨lb, 0, none⟩))), (fun v _ => v = (.pointer (some ⟨sb, 0, none⟩))), (fun v _ => v = (.int .i64 (capN D : Nat))), (fun v _ => v = (.bool true))]) [] (fun _ => True) (by kernel_rfl) (fkept_at ⟨FKept.eq _, FKept.eq _, FKept.eq _, FKept.eq _, FKept.eq _, FKept.eq _, FKept.eq _, FKept.eq _, trivial⟩) (fun _ _ h _ => h) trivial (by kernel_rfl) (by kernel_rfl) (by kernel_rfl) (by kernel_rfl) (Nat.le_of_ble_eq_true (by kernel_rfl)) ?_ ⟨?_, ?_, ?_, ?_, ?_, ?_, ?_, ?_, trivial⟩ ?_
  · first | exact trivial | assumption
  · intro T w Q hu hs hv hw hd
    have hx7 : T.getD 7 undef = (.pointer (some ⟨w2.heap.size, 0, none⟩)) := hv 7 (by kernel_rfl)
    refine .inl ⟨wanted_none rfl, ?_⟩
    clear hd hv hu hs hw
    go_simp
    exact ⟨_, rfl, DstOk.some rfl, Below.refl _ _, rfl⟩
  · intro T w Q hu hs hv hw hd
    have hx15 : T.getD 15 undef = (.pointer (some ⟨w2.heap.size, 1, none⟩)) := Deps.at 0 hd (by kernel_rfl)
    refine .inl ⟨wanted_none rfl, ?_⟩
    have hq0 := hu.cell c7 id
    clear hd hv hu hs hw
    go_simp
    exact ⟨_, rfl, DstOk.some rfl, Below.refl _ _, rfl⟩
  · intro T w Q hu hs hv hw hd
    have hx0 : T.getD 0 undef = (.pointer (some ⟨lb, 0, none⟩)) := hv 0 (by kernel_rfl)
    refine .inl ⟨wanted_none rfl, ?_⟩
    clear hd hv hu hs hw
    go_simp
    exact ⟨_, rfl, DstOk.some rfl, Below.refl _ _, rfl⟩
  · intro T w Q hu hs hv hw hd
    have hx17 : T.getD 17 undef = (.pointer (some ⟨lb, 0, none⟩)) := Deps.at 2 hd (by kernel_rfl)
    refine .inl ⟨wanted_none rfl, ?_⟩
    clear hd hv hu hs hw
    go_simp
    exact ⟨_, rfl, DstOk.some rfl, Below.refl _ _, rfl⟩
  · intro T w Q hu hs hv hw hd
    have hx18 : T.getD 18 undef = (.pointer (some ⟨lb, 0, none⟩)) := Deps.at 3 hd (by kernel_rfl)
    refine .inl ⟨wanted_none rfl, ?_⟩
    clear hd hv hu hs hw
    go_simp
    exact ⟨_, rfl, DstOk.some rfl, Below.refl _ _, rfl⟩
  · intro T w Q hu hs hv hw hd
    have hx19 : T.getD 19 undef = (.pointer (some ⟨lb, 0, none⟩)) := Deps.at 4 hd (by kernel_rfl)
    refine .inl ⟨wanted_none rfl, ?_⟩
    have hq0 := hu.cell k0 id
    clear hd hv hu hs hw
    go_simp
    exact ⟨_, rfl, DstOk.some rfl, Below.refl _ _, rfl⟩
  · intro T w Q hu hs hv hw hd
    have hx20 : T.getD 20 undef = (.pointer (some ⟨sb, 0, none⟩)) := Deps.at 5 hd (by kernel_rfl)
    refine .inl ⟨wanted_none rfl, ?_⟩
    have hN := capacity_any (hD3.out.upd hu fun _ _ => id) hn
    clear hd hv hu hs hw
    go_simp
    refine hN.mono ?_
    rintro e w5 ⟨rfl, hb⟩
    exact ⟨_, rfl, DstOk.some rfl, hb, rfl⟩
  · intro T w Q hu hs hv hw hd
    have hx16 : T.getD 16 undef = (.int .i64 (p.bytes : Nat)) := Deps.at 1 hd (by kernel_rfl)
    have hx21 : T.getD 21 undef = (.int .i64 (capN D : Nat)) := Deps.at 6 hd (by kernel_rfl)
    refine .inl ⟨wanted_none rfl, ?_⟩
    clear hd hv hu hs hw
    go_simp
    exact ⟨_, rfl, DstOk.some rfl, Below.refl _ _, by first | rfl | exact congrArg Value.bool (decide_eq_true (by omega))⟩
  intro T w hu hs hv hf hcur
  have hT : T = #[T.getD 0 undef, T.getD 1 undef, T.getD 2 undef, T.getD 3 undef, T.getD 4 undef, T.getD 5 undef, T.getD 6 undef, T.getD 7 undef, T.getD 8 undef, T.getD 9 undef, T.getD 10 undef, T.getD 11 undef, T.getD 12 undef, T.getD 13 undef, T.getD 14 undef, T.getD 15 undef, T.getD 16 undef, T.getD 17 undef, T.getD 18 undef, T.getD 19 undef, T.getD 20 undef, T.getD 21 undef, T.getD 22 undef, T.getD 23 undef, T.getD 24 undef, T.getD 25 undef, T.getD 26 undef, T.getD 27 undef, T.getD 28 undef, T.getD 29 undef, T.getD 30 undef, T.getD 31 undef, T.getD 32 undef, T.getD 33 undef, T.getD 34 undef, T.getD 35 undef, T.getD 36 undef, T.getD 37 undef, T.getD 38 undef, T.getD 39 undef, T.getD 40 undef, T.getD 41 undef, T.getD 42 undef, T.getD 43 undef, T.getD 44 undef, T.getD 45 undef, T.getD 46 undef, T.getD 47 undef, T.getD 48 undef, T.getD 49 undef, T.getD 50 undef, T.getD 51 undef, T.getD 52 undef, T.getD 53 undef, T.getD 54 undef, T.getD 55 undef, T.getD 56 undef, T.getD 57 undef, T.getD 58 undef, T.getD 59 undef, T.getD 60 undef, T.getD 61 undef, T.getD 62 undef, T.getD 63 undef, T.getD 64 undef, T.getD 65 undef, T.getD 66 undef, T.getD 67 undef, T.getD 68 undef, T.getD 69 undef, T.getD 70 undef, T.getD 71 undef, T.getD 72 undef] := expl hs
  rw [hT]
  clear hT
  rw [show T.getD 0 undef = (.pointer (some ⟨lb, 0, none⟩)) from hv 0 (by kernel_rfl)]
  rw [hv 1 (by kernel_rfl)]
  rw [show T.getD 2 undef = rv from hv 2 (by kernel_rfl)]
  rw [hv 3 (by kernel_rfl)]
  rw [show T.getD 4 undef = (.pointer (some ⟨W.heap.size, 0, none⟩)) from hv 4 (by kernel_rfl)]
  rw [hv 5 (by kernel_rfl)]
  rw [show T.getD 6 undef = (.int .i64 0) from hv 6 (by kernel_rfl)]
  rw [show T.getD 7 undef = (.pointer (some ⟨w2.heap.size, 0, none⟩)) from hv 7 (by kernel_rfl)]
  rw [hv 8 (by kernel_rfl)]
  rw [hv 9 (by kernel_rfl)]
  rw [hv 10 (by kernel_rfl)]
  rw [hv 11 (by kernel_rfl)]
  rw [hv 12 (by kernel_rfl)]
  rw [hv 13 (by kernel_rfl)]
  rw [hv 14 (by kernel_rfl)]
  rw [show T.getD 15 undef = (.pointer (some ⟨w2.heap.size, 1, none⟩)) from hf 0 (by decide)]
  rw [show T.getD 16 undef = (.int .i64 (p.bytes : Nat)) from hf 1 (by decide)]
  rw [show T.getD 17 undef = (.pointer (some ⟨lb, 0, none⟩)) from hf 2 (by decide)]
  rw [show T.getD 18 undef = (.pointer (some ⟨lb, 0, none⟩)) from hf 3 (by decide)]
  rw [show T.getD 19 undef = (.pointer (some ⟨lb, 0, none⟩)) from hf 4 (by decide)]
  rw [show T.getD 20 undef = (.pointer (some ⟨sb, 0, none⟩)) from hf 5 (by decide)]
  rw [show T.getD 21 undef = (.int .i64 (capN D : Nat)) from hf 6 (by decide)]
  rw [show T.getD 22 undef = (.bool true) from hf 7 (by decide)]
  rw [hv 23 (by kernel_rfl)]
  rw [hv 24 (by kernel_rfl)]
  rw [hv 25 (by kernel_rfl)]
  rw [hv 26 (by kernel_rfl)]
  rw [hv 27 (by kernel_rfl)]
  rw [hv 28 (by kernel_rfl)]
  rw [hv 29 (by kernel_rfl)]
  rw [hv 30 (by kernel_rfl)]
  rw [hv 31 (by kernel_rfl)]
  rw [hv 32 (by kernel_rfl)]
  rw [hv 33 (by kernel_rfl)]
  rw [hv 34 (by kernel_rfl)]
  rw [hv 35 (by kernel_rfl)]
  rw [hv 36 (by kernel_rfl)]
  rw [hv 37 (by kernel_rfl)]
  rw [hv 38 (by kernel_rfl)]
  rw [hv 39 (by kernel_rfl)]
  rw [hv 40 (by kernel_rfl)]
  rw [hv 41 (by kernel_rfl)]
  rw [hv 42 (by kernel_rfl)]
  rw [hv 43 (by kernel_rfl)]
  rw [hv 44 (by kernel_rfl)]
  rw [hv 45 (by kernel_rfl)]
  rw [hv 46 (by kernel_rfl)]
  rw [hv 47 (by kernel_rfl)]
  rw [hv 48 (by kernel_rfl)]
  rw [hv 49 (by kernel_rfl)]
  rw [hv 50 (by kernel_rfl)]
  rw [hv 51 (by kernel_rfl)]
  rw [hv 52 (by kernel_rfl)]
  rw [hv 53 (by kernel_rfl)]
  rw [hv 54 (by kernel_rfl)]
  rw [hv 55 (by kernel_rfl)]
  rw [hv 56 (by kernel_rfl)]
  rw [hv 57 (by kernel_rfl)]
  rw [hv 58 (by kernel_rfl)]
  rw [hv 59 (by kernel_rfl)]
  rw [hv 60 (by kernel_rfl)]
  rw [hv 61 (by kernel_rfl)]
  rw [hv 62 (by kernel_rfl)]
  rw [hv 63 (by kernel_rfl)]
  rw [hv 64 (by kernel_rfl)]
  rw [hv 65 (by kernel_rfl)]
  rw [hv 66 (by kernel_rfl)]
  rw [hv 67 (by kernel_rfl)]
  rw [hv 68 (by kernel_rfl)]
  rw [hv 69 (by kernel_rfl)]
  rw [hv 70 (by kernel_rfl)]
  rw [hv 71 (by kernel_rfl)]
  rw [hv 72 (by kernel_rfl)]
  clear hf hs hv hcur
  simp only [getD_toArray, List.getD_cons_succ, List.getD_cons_zero]
  clear T
  have hU4 : Upd (fun _ => False) W w := hU13.out.then hu
  replace hU4 := hide hU4
  clear hu k0 c7
  go_wp2_with fail
  go_ret
  exact ⟨rfl, hU4.out.below (Nat.le_refl _) fun _ h => h.elim⟩
set_option maxRecDepth 100000 in
theorem commit_of {rv : Value} {R : Ending → World → Prop} (hL : LogV W lb sb live x) (h : Calls Tryz.prog 83 #[.pointer (some ⟨lb, 0, none⟩), extV x, rv] W R) (hR : ∀ e w', R e w' → ∃ v, e = .returned v) :
    Calls Tryz.prog 59 #[.pointer (some ⟨lb, 0, none⟩), rv] W R := by
  have s2 : W.cell? ⟨lb, 2, none⟩ = some (.int .i64 x.area) := by rw [cell_at hL]; rfl
  have s3 : W.cell? ⟨lb, 3, none⟩ = some (.int .i64 x.bytes) := by rw [cell_at hL]; rfl
  have s4 : W.cell? ⟨lb, 4, none⟩ = some (.int .i64 x.records) := by rw [cell_at hL]; rfl
  unfold extV at h
  replace hL := hide hL
  replace hR := hide hR
  go_enter Tryz.func59, Tryz.ntmps59
  go_wp2_with fail
  refine h.mono ?_
  intro e w' hr
  obtain ⟨v, rfl⟩ := hR.out e w' hr
  replace hr := hide hr
  go_wp2_with fail
  exact hr.out
set_option maxRecDepth 100000 in
theorem reset_of {rv : Value} {R : Ending → World → Prop} (hL : LogV W lb sb live x) (hx : x.area ≤ 1) (h : Calls Tryz.prog 83 #[.pointer (some ⟨lb, 0, none⟩), extV ⟨1 - x.area, 0, 0⟩, rv] W R) (hR : ∀ e w', R e w' → ∃ v, e = .returned v) :
    Calls Tryz.prog 52 #[.pointer (some ⟨lb, 0, none⟩), rv] W R := by
  have s2 : W.cell? ⟨lb, 2, none⟩ = some (.int .i64 x.area) := by rw [cell_at hL]; rfl
  have hot := other_any W x.area hx
  obtain ⟨o, ho⟩ : ∃ o, o = 1 - x.area := ⟨_, rfl⟩
  rw [← ho] at hot h
  unfold extV at h
  replace ho := hide ho
  replace hL := hide hL
  replace hR := hide hR
  go_enter Tryz.func52, Tryz.ntmps52
  go_wp2_with fail
  refine hot.mono ?_
  rintro e w' ⟨rfl, rfl⟩
  go_wp2_with fail
  refine h.mono ?_
  intro e w' hr
  obtain ⟨v, rfl⟩ := hR.out e w' hr
  replace hr := hide hr
  go_wp2_with fail
  exact hr.out
end
end Go.Proofs.YtpnboihbifhigaaGreatDoor
/- As XFlow, and a fact of memory that holds up to one operation of the chain (which ends it): whoever that operation waits for may use it. -/
namespace Go.Proofs.YtpnboihbifhigaaGreatDoor
open Go Go.RowKit

section
variable (P : Program) (ops : Array Oper) (F : Nat → Prop) (Φ : Nat → Fact) (T0 : Array Value) (D : List Deferred) (w0 : World) (inv : World → Prop) (stop : Nat)
/-- An operation that only reads, or makes new memory. -/
def QuietI (i : Nat) (o : Oper) : Prop :=
  ∀ (T : Array Value) (w : World) (Q : Exit → Act → World → Prop), Upd F w0 w → T.size = T0.size → (∀ s, (ops.any fun o => o.dst == some s) = false → T.getD s undef = T0.getD s undef) →
    (∀ s, lateB ops i s = true → T.getD s undef = T0.getD s undef) → Deps ops Φ T w o.after.toList → ((marks ops i ops.size).getD stop false = true → inv w) →
    (Region.wanted o (yielded ops T) = true ∧ o.wp P ⟨T, D⟩ w (fun a' w' => ∃ v, a' = (⟨T, D⟩ : Act).put o.dst v ∧ DstOk o v ∧ Below w.heap.size w w' ∧ Φ i v w') Q) ∨ (Region.wanted o (yielded ops T) = false ∧ Φ i undef w)
/-- An operation of the chain: it takes what the one before it left. -/
def TurnsI (i : Nat) (o : Oper) (cur : Cur) (φ : Fact) : Prop :=
  ∀ (T : Array Value) (w : World) (Q : Exit → Act → World → Prop), Upd F w0 w → T.size = T0.size → (∀ s, (ops.any fun o => o.dst == some s) = false → T.getD s undef = T0.getD s undef) →
    (∀ s, lateB ops i s = true → T.getD s undef = T0.getD s undef) → Deps ops Φ T w o.after.toList → ((marks ops i ops.size).getD stop false = true → inv w) → cur (slotOf ops T) w →
    (Region.wanted o (yielded ops T) = true ∧ o.wp P ⟨T, D⟩ w (fun a' w' => ∃ v, a' = (⟨T, D⟩ : Act).put o.dst v ∧ DstOk o v ∧ Upd F w w' ∧ ((marks ops i ops.size).getD stop false = true → i ≠ stop → inv w') ∧ Φ i v w' ∧ φ v w') Q) ∨ (Region.wanted o (yielded ops T) = false ∧ Φ i undef w ∧ φ undef w)
/-- All operations, in the text's order; 'kinds' tells which of them turn something. -/
def StepsI : Nat → List Oper → List (Option Fact) → Cur → Prop
  | _, [], _, _ => True
  | i, o :: r, [], cur => QuietI P ops F Φ T0 D w0 inv stop i o ∧ StepsI (i + 1) r [] cur
  | i, o :: r, none :: ks, cur => QuietI P ops F Φ T0 D w0 inv stop i o ∧ StepsI (i + 1) r ks cur
  | i, o :: r, some φ :: ks, cur => TurnsI P ops F Φ T0 D w0 inv stop i o cur φ ∧ StepsI (i + 1) r ks fun V w => φ (V i) w
end


theorem stepsI_get {P : Program} {ops : Array Oper} {F : Nat → Prop} {Φ : Nat → Fact} {T0 : Array Value} {D : List Deferred} {w0 : World} {inv : World → Prop} {stop : Nat} : ∀ {l : List Oper} {b i : Nat} {o : Oper} {ks : List (Option Fact)} {cur : Cur}, StepsI P ops F Φ T0 D w0 inv stop b l ks cur → l[i]? = some o →
    (match ks.getD i none with | none => QuietI P ops F Φ T0 D w0 inv stop (b + i) o | some φ => TurnsI P ops F Φ T0 D w0 inv stop (b + i) o (curOf cur b ks i) φ)
  | [], _, _, _, _, _, _, h => by simp at h
  | x :: l, b, i, o, [], cur, h, hi => by
    cases i with
    | zero =>
      obtain rfl : x = o := by simpa using hi
      exact h.1
    | succ i =>
      have := stepsI_get (i := i) h.2 (by simpa using hi)
      simp only [List.getD_nil] at this ⊢
      rwa [Nat.add_assoc, Nat.add_comm 1 i] at this
  | x :: l, b, i, o, none :: ks, cur, h, hi => by
    cases i with
    | zero =>
      obtain rfl : x = o := by simpa using hi
      exact h.1
    | succ i =>
      have := stepsI_get (i := i) h.2 (by simpa using hi)
      rw [Nat.add_assoc, Nat.add_comm 1 i] at this
      simpa [curOf] using this
  | x :: l, b, i, o, some φ :: ks, cur, h, hi => by
    cases i with
    | zero =>
      obtain rfl : x = o := by simpa using hi
      exact h.1
    | succ i =>
      have := stepsI_get (i := i) h.2 (by simpa using hi)
      rw [Nat.add_assoc, Nat.add_comm 1 i] at this
      simpa [curOf] using this


structure FInvI (ops : Array Oper) (F : Nat → Prop) (Φ : Nat → Fact) (ks : List (Option Fact)) (P0 : World → Prop) (T0 : Array Value) (D : List Deferred) (w0 : World) (inv : World → Prop) (stop : Nat) (listed : Array Bool) (a : Act) (w : World) : Prop where
  upd : Upd F w0 w
  defers : a.defers = D
  size : a.tmps.size = T0.size
  lsize : listed.size = ops.size
  vars : ∀ s, (ops.any fun o => o.dst == some s) = false → a.tmps.getD s undef = T0.getD s undef
  facts : ∀ j, listed[j]? = some true → Φ j (slotOf ops a.tmps j) w
  closed : Closed ops fun i => listed[i]? = some true
  early : ∀ (j : Nat) (o : Oper) (s : Tmp), ops[j]? = some o → o.dst = some s → listed[j]? = some false → a.tmps.getD s undef = T0.getD s undef
  tide : listed[stop]? = some false → inv w
  phase : ∃ f, (∀ j, j < ops.size → inChain ks j = true → (listed[j]? = some true ↔ j < f)) ∧ curOf (fun _ w => P0 w) 0 ks f (slotOf ops a.tmps) w

theorem fdepsI {ops : Array Oper} {F : Nat → Prop} {Φ : Nat → Fact} {ks : List (Option Fact)} {P0 : World → Prop} {T0 : Array Value} {D : List Deferred} {w0 : World} {inv : World → Prop} {stop : Nat} {listed : Array Bool} {a : Act} {w : World} (h : FInvI ops F Φ ks P0 T0 D w0 inv stop listed a w) : ∀ (l : List Edge),
    (l.all fun e => !Region.binds .any e || listed.getD e.on false) = true → Deps ops Φ a.tmps w l
  | [], _ => trivial
  | e :: r, hl => by
    rw [List.all_cons, Bool.and_eq_true] at hl
    refine ⟨fun hb => h.facts _ ?_, fdepsI h r hl.2⟩
    have h1 := hl.1
    rw [hb] at h1
    simp only [Bool.not_true, Bool.false_or] at h1
    rw [Array.getD_eq_getD_getElem?] at h1
    cases hx : listed[e.on]? with
    | none => rw [hx] at h1; simp at h1
    | some b => rw [hx] at h1; simpa using h1


theorem wpAny_tide {P : Program} {ops : Array Oper} {F : Nat → Prop} {Φ : Nat → Fact} {ks : List (Option Fact)} {P0 : World → Prop} {T0 : Array Value} {D : List Deferred} {w0 : World} {inv : World → Prop} {stop : Nat} {Q : Exit → Act → World → Prop}
    (hk : ∀ i, FKept F (Φ i)) (hP0 : ∀ w w', P0 w → Below w.heap.size w w' → P0 w') (hinv : ∀ w w', inv w → Below w.heap.size w w' → inv w') (hst : stop < ops.size → inChain ks stop = true) (hks : KeptKinds ks) (hd : dsts2B ops T0.size = true) (ha : apart2B ops = true) (hbk : backB ops = true) (hch : chainB ops (ks.map (·.isSome)) = true) (hlen : ks.length ≤ ops.size)
    (hs : StepsI P ops F Φ T0 D w0 inv stop 0 ops.toList ks fun _ w => P0 w)
    (hQ : ∀ T w, Upd F w0 w → T.size = T0.size → (∀ s, (ops.any fun o => o.dst == some s) = false → T.getD s undef = T0.getD s undef) → (∀ j, j < ops.size → Φ j (slotOf ops T j) w) → curOf (fun _ w => P0 w) 0 ks ops.size (slotOf ops T) w → Q .normal ⟨T, D⟩ w) :
    ∀ (fuel : Nat) (listed : Array Bool) (a : Act) (w : World), (listed.toList.countP fun b => !b) ≤ fuel → FInvI ops F Φ ks P0 T0 D w0 inv stop listed a w → wpAny P .any ops Q fuel listed a w := by
  have hend : ∀ (listed : Array Bool) (a : Act) (w : World), FInvI ops F Φ ks P0 T0 D w0 inv stop listed a w → (∀ j, j < ops.size → listed[j]? = some true) → Q .normal a w := by
    intro listed a w h hall
    obtain ⟨T, D'⟩ := a
    have hD : D' = D := h.defers
    subst hD
    obtain ⟨f, hf1, hf2⟩ := h.phase
    refine hQ T w h.upd h.size h.vars (fun j hj => h.facts j (hall j hj)) ?_
    rcases Nat.le_total f ops.size with hle | hge
    · rw [← cur_skip (f := f) (i := ops.size) hle (fun j h1 h2 => by
        cases hc : inChain ks j with
        | false => rfl
        | true => have := (hf1 j h2 hc).1 (hall j h2); omega)]
      exact hf2
    · rw [cur_skip (f := ops.size) (i := f) hge (fun j h1 _ => by
        unfold inChain
        rw [List.getD_eq_getElem?_getD, List.getElem?_eq_none (by omega)]; rfl)]
      exact hf2
  intro fuel
  induction fuel with
  | zero =>
    intro listed a w hc h
    have hall : ∀ j, j < ops.size → listed[j]? = some true := by
      intro j hj
      have hj' : j < listed.size := by rw [h.lsize]; exact hj
      have h0 : (listed.toList.countP fun b => !b) = 0 := by omega
      rw [List.countP_eq_zero] at h0
      have := h0 listed[j] (by simp)
      rw [Array.getElem?_eq_getElem hj']
      simpa using this
    refine ⟨?_, hend _ _ _ h hall⟩
    unfold Region.ready
    rw [List.filter_eq_nil_iff]
    intro i hi
    rw [List.mem_range] at hi
    rw [Array.getD_eq_getD_getElem?, hall i hi]
    simp
  | succ fuel ih =>
    intro listed a w hc h
    have hstep : ∀ i ∈ Region.ready .any ops listed, wpOp P ops Q i (wpAny P .any ops Q fuel (listed.setIfInBounds i true)) a w := by
      intro i hi
      unfold Region.ready at hi
      rw [List.mem_filter, List.mem_range, Bool.and_eq_true] at hi
      obtain ⟨hin, hnl, hde⟩ := hi
      have hin' : i < listed.size := by rw [h.lsize]; exact hin
      have ho : ops[i]? = some ops[i] := Array.getElem?_eq_getElem hin
      rw [ho] at hde
      simp only [Option.map_some, Option.getD_some] at hde
      have hdeps := fdepsI h ops[i].after.toList (by rw [← Array.all_toList] at hde; exact hde)
      have hstep := stepsI_get (i := i) (o := ops[i]) hs (by simp [hin])
      rw [Nat.zero_add] at hstep
      obtain ⟨T, D'⟩ := a
      have hD : D' = D := h.defers
      subst hD
      have hlt : listed.getD i true = false := by simpa using hnl
      have hli : listed[i]? = some false := by
        rw [Array.getD_eq_getD_getElem?, Array.getElem?_eq_getElem hin'] at hlt
        rw [Array.getElem?_eq_getElem hin']
        simpa using hlt
      -- what is left, once the operation's value lies
      have hput : ∀ (v : Value) (w' : World), (ops[i].dst = none → v = undef) → Upd F w w' → Φ i v w' → (listed[stop]? = some false → i ≠ stop → inv w') →
          (∃ f, (∀ j, j < ops.size → inChain ks j = true → ((listed.setIfInBounds i true)[j]? = some true ↔ j < f)) ∧ ∀ V, V i = v → (∀ j, j ≠ i → V j = slotOf ops T j) → curOf (fun _ w => P0 w) 0 ks f V w') →
          wpAny P .any ops Q fuel (listed.setIfInBounds i true) ((⟨T, D'⟩ : Act).put ops[i].dst v) w' := by
        intro v w' hvn hu hφ hti hph
        have hself : slotOf ops ((⟨T, D'⟩ : Act).put ops[i].dst v).tmps i = v := by
          cases hdd : ops[i].dst with
          | none =>
            rw [slot_none ho hdd]
            exact (hvn hdd).symm
          | some d =>
            have hdT : d < T.size := by
              unfold dsts2B at hd
              rw [Array.all_eq_true] at hd
              have := hd i hin
              rw [hdd] at this
              rw [show T.size = T0.size from h.size]
              simpa using this
            unfold slotOf
            rw [ho]
            simp only [Option.bind_some, hdd, Option.map_some, Option.getD_some]
            show (T.setIfInBounds d v).getD d undef = v
            rw [Array.getD_eq_getD_getElem?, Array.getElem?_setIfInBounds_self_of_lt hdT]
            rfl
        have hother : ∀ j, j ≠ i → slotOf ops ((⟨T, D'⟩ : Act).put ops[i].dst v).tmps j = slotOf ops T j := by
          intro j hji
          cases hdd : ops[i].dst with
          | none => rfl
          | some d =>
            unfold slotOf
            cases hoj : ops[j]? with
            | none => rfl
            | some oj =>
              cases hdj : oj.dst with
              | none => simp [hdj]
              | some dj =>
                have hjn : j < ops.size := by
                  rcases Nat.lt_or_ge j ops.size with h1 | h1
                  · exact h1
                  · rw [Array.getElem?_eq_none h1] at hoj; cases hoj
                have hne : d ≠ dj := by
                  rintro rfl
                  unfold apart2B at ha
                  rw [List.all_eq_true] at ha
                  have h2 := ha i (List.mem_range.2 hin)
                  rw [List.all_eq_true] at h2
                  have h3 := h2 j (List.mem_range.2 hjn)
                  rw [ho, hoj] at h3
                  simp only [Option.bind_some, hdd, hdj, bne_self_eq_false, Bool.or_false] at h3
                  simp at h3
                  exact hji h3.symm
                simp only [Option.bind_some, hdj, Option.map_some, Option.getD_some]
                show (T.setIfInBounds d v).getD dj undef = T.getD dj undef
                rw [Array.getD_eq_getD_getElem?, Array.getD_eq_getD_getElem?, Array.getElem?_setIfInBounds_ne hne]
        refine ih _ _ _ ?_ ⟨h.upd.then hu, ?_, ?_, ?_, ?_, ?_, ?_, ?_, ?_, ?_⟩
        · have hcount : ((listed.setIfInBounds i true).toList.countP fun b => !b) + 1 = (listed.toList.countP fun b => !b) := by
            rw [Array.toList_setIfInBounds]
            have hil : i < listed.toList.length := by simpa using hin'
            have hf : listed.toList[i] = false := by
              rw [Array.getElem?_eq_getElem hin'] at hli
              simpa using hli
            have h1 := List.countP_set (p := fun b => !b) (l := listed.toList) (i := i) (a := true) hil
            have hpos : 0 < (listed.toList.countP fun b => !b) := by
              rw [List.countP_pos_iff]
              exact ⟨false, by rw [← hf]; exact List.getElem_mem hil, rfl⟩
            rw [h1, hf]
            simp only [Bool.not_false, if_true, Bool.not_true, Bool.false_eq_true, if_false]
            omega
          omega
        · show (Act.put _ _ _).defers = _
          cases hdd : ops[i].dst <;> rfl
        · show (Act.put _ _ _).tmps.size = _
          cases hdd : ops[i].dst with
          | none => exact h.size
          | some d =>
            show (T.setIfInBounds d v).size = _
            rw [Array.size_setIfInBounds]; exact h.size
        · rw [Array.size_setIfInBounds]; exact h.lsize
        · intro s hsn
          rw [← h.vars s hsn]
          cases hdd : ops[i].dst with
          | none => rfl
          | some d =>
            have hne : s ≠ d := by
              rintro rfl
              rw [any_of_get ho hdd] at hsn
              cases hsn
            show (T.setIfInBounds d v).getD s undef = T.getD s undef
            rw [Array.getD_eq_getD_getElem?, Array.getD_eq_getD_getElem?, Array.getElem?_setIfInBounds_ne (Ne.symm hne)]
        · intro j hj
          by_cases hji : j = i
          · subst hji
            rw [hself]; exact hφ
          · rw [Array.getElem?_setIfInBounds_ne (Ne.symm hji)] at hj
            rw [hother j hji]
            exact hk j _ _ _ (h.facts j hj) hu
        · intro j o hj hoj e he hb
          have hold : listed[e.on]? = some true := by
            by_cases hji : j = i
            · subst hji
              obtain rfl : ops[j] = o := by rw [ho] at hoj; exact Option.some.inj hoj
              rw [Array.all_eq_true'] at hde
              have h4 := hde e he
              rw [hb] at h4
              simp only [Bool.not_true, Bool.false_or] at h4
              rw [Array.getD_eq_getD_getElem?] at h4
              cases hx : listed[e.on]? with
              | none => rw [hx] at h4; simp at h4
              | some b => rw [hx] at h4; simpa using h4
            · rw [Array.getElem?_setIfInBounds_ne (Ne.symm hji)] at hj
              exact h.closed j o hj hoj e he hb
          by_cases hei : e.on = i
          · rw [hei]; exact Array.getElem?_setIfInBounds_self_of_lt hin'
          · rw [Array.getElem?_setIfInBounds_ne (Ne.symm hei)]; exact hold
        · intro j o s hoj hds hlj
          have hji : j ≠ i := by
            rintro rfl
            rw [Array.getElem?_setIfInBounds_self_of_lt hin'] at hlj
            cases hlj
          rw [Array.getElem?_setIfInBounds_ne (Ne.symm hji)] at hlj
          have h1 := hother j hji
          unfold slotOf at h1
          rw [hoj] at h1
          simp only [Option.bind_some, hds, Option.map_some, Option.getD_some] at h1
          rw [h1]
          exact h.early j o s hoj hds hlj
        · intro hl
          by_cases his : i = stop
          · rw [← his, Array.getElem?_setIfInBounds_self_of_lt hin'] at hl
            cases hl
          · rw [Array.getElem?_setIfInBounds_ne his] at hl
            exact hti hl his
        · obtain ⟨f, hf1, hf2⟩ := hph
          exact ⟨f, hf1, hf2 _ hself hother⟩
      obtain ⟨f, hf1, hf2⟩ := h.phase
      have hlate : ∀ s, lateB ops i s = true → T.getD s undef = T0.getD s undef := by
        intro s hs'
        unfold lateB at hs'
        rw [List.any_eq_true] at hs'
        obtain ⟨j, hj, hs'⟩ := hs'
        rw [Bool.and_eq_true] at hs'
        have hjn := List.mem_range.1 hj
        have hlj : listed[j]? = some false := by
          have hjl : j < listed.size := by rw [h.lsize]; exact hjn
          rw [Array.getElem?_eq_getElem hjl]
          cases hb : listed[j] with
          | false => rfl
          | true =>
            have h3 : listed[i]? = some true := marks_closed h.closed i ops.size j hs'.2 (by
              show listed[j]? = some true
              rw [Array.getElem?_eq_getElem hjl, hb])
            rw [hli] at h3; cases h3
        refine h.early j ops[j] s (Array.getElem?_eq_getElem hjn) ?_ hlj
        have h4 := hs'.1
        rw [Array.getElem?_eq_getElem hjn] at h4
        simpa using h4
      have hinvw : (marks ops i ops.size).getD stop false = true → inv w := by
        intro hms
        refine h.tide ?_
        have hsl : stop < listed.size := by rw [h.lsize]; exact marks_lt hms
        rw [Array.getElem?_eq_getElem hsl]
        cases hb : listed[stop] with
        | false => rfl
        | true =>
          have h3 : listed[i]? = some true := marks_closed h.closed i ops.size stop hms (by
            show listed[stop]? = some true
            rw [Array.getElem?_eq_getElem hsl, hb])
          rw [hli] at h3; cases h3
      unfold wpOp
      simp only [ho]
      cases hkind : ks.getD i none with
      | none =>
        have hic : inChain ks i = false := by unfold inChain; rw [hkind]; rfl
        rw [hkind] at hstep
        have hph : ∀ (v : Value) (w' : World), Below w.heap.size w w' → ∃ f, (∀ j, j < ops.size → inChain ks j = true → ((listed.setIfInBounds i true)[j]? = some true ↔ j < f)) ∧ ∀ V, V i = v → (∀ j, j ≠ i → V j = slotOf ops T j) → curOf (fun _ w => P0 w) 0 ks f V w' := by
          intro v w' hb
          refine ⟨f, fun j hj hcj => ?_, fun V _ hV => ?_⟩
          · have hne : i ≠ j := by rintro rfl; rw [hic] at hcj; cases hcj
            rw [Array.getElem?_setIfInBounds_ne hne]
            exact hf1 j hj hcj
          · refine cur_keep hks hb (fun j hj => ?_) (fun hp => hP0 _ _ hp hb) hf2
            rw [Nat.zero_add]
            exact hV j (by rintro rfl; rw [hic] at hj; cases hj)
        rcases hstep T w Q h.upd h.size h.vars hlate hdeps hinvw with ⟨hw, hwp⟩ | ⟨hw, hφ⟩
        · simp only [hw, if_true]
          refine .inl (Oper.wp_mono ?_ hwp)
          rintro a' w' ⟨v, rfl, hvn, hb, hφ⟩
          exact hput v w' hvn (.of_below F hb) hφ (fun hl _ => hinv _ _ (h.tide hl) hb) (hph v w' hb)
        · simp only [hw, Bool.false_eq_true, if_false]
          exact hput undef w (fun _ => rfl) (.refl F w) hφ (fun hl _ => h.tide hl) (hph undef w (Below.refl _ _))
      | some φ =>
        have hic : inChain ks i = true := by unfold inChain; rw [hkind]; rfl
        rw [hkind] at hstep
        have hfi : f ≤ i := by
          rcases Nat.lt_or_ge i f with h1 | h1
          · have := (hf1 i hin hic).2 h1
            rw [hli] at this; cases this
          · exact h1
        have hprev : ∀ j, j < i → inChain ks j = true → j < f := by
          intro j hj hcj
          unfold chainB at hch
          rw [List.all_eq_true] at hch
          have h1 := hch i (List.mem_range.2 hin)
          rw [chain_isSome, hic] at h1
          simp only [Bool.not_true, Bool.false_or] at h1
          rw [List.all_eq_true] at h1
          have h2 := h1 j (List.mem_range.2 hj)
          rw [chain_isSome, hcj] at h2
          simp only [Bool.not_true, Bool.false_or] at h2
          rw [marks_at (marks_lt h2), Bool.or_eq_true] at h2
          rcases h2 with h2 | h2
          · have := eq_of_beq h2; omega
          · rw [ho] at h2
            simp only [Option.map_some, Option.getD_some] at h2
            rw [Array.any_eq_true'] at h2
            obtain ⟨e, he, h3⟩ := h2
            rw [Bool.and_eq_true] at h3
            rw [Array.all_eq_true'] at hde
            have h4 := hde e he
            rw [h3.1] at h4
            simp only [Bool.not_true, Bool.false_or] at h4
            have hel : listed[e.on]? = some true := by
              rw [Array.getD_eq_getD_getElem?] at h4
              cases hx : listed[e.on]? with
              | none => rw [hx] at h4; simp at h4
              | some b => rw [hx] at h4; simpa using h4
            exact (hf1 j (by omega) hcj).1 (marks_closed h.closed j i e.on h3.2 hel)
        have hahead : listed[stop]? = some false → i ≠ stop → (marks ops i ops.size).getD stop false = true := by
          intro hl hne
          have hsn : stop < ops.size := by
            have hsl : stop < listed.size := by
              rcases Nat.lt_or_ge stop listed.size with h1 | h1
              · exact h1
              · rw [Array.getElem?_eq_none h1] at hl; cases hl
            rw [← h.lsize]; exact hsl
          have hcs := hst hsn
          rcases Nat.lt_or_ge i stop with h1 | h1
          · unfold chainB at hch
            rw [List.all_eq_true] at hch
            have h2 := hch stop (List.mem_range.2 hsn)
            rw [chain_isSome, hcs] at h2
            simp only [Bool.not_true, Bool.false_or] at h2
            rw [List.all_eq_true] at h2
            have h3 := h2 i (List.mem_range.2 h1)
            rw [chain_isSome, hic] at h3
            simpa using h3
          · exfalso
            have h2 := (hf1 stop hsn hcs).2 (hprev stop (by omega) hcs)
            rw [hl] at h2; cases h2
        have hcur : curOf (fun _ w => P0 w) 0 ks i (slotOf ops T) w := by
          rw [← cur_skip hfi (fun j h1 h2 => by
            cases hc : inChain ks j with
            | false => rfl
            | true => have := hprev j h2 hc; omega)]
          exact hf2
        have hph : ∀ (v : Value) (w' : World), φ v w' → ∃ f, (∀ j, j < ops.size → inChain ks j = true → ((listed.setIfInBounds i true)[j]? = some true ↔ j < f)) ∧ ∀ V, V i = v → (∀ j, j ≠ i → V j = slotOf ops T j) → curOf (fun _ w => P0 w) 0 ks f V w' := by
          intro v w' hφ
          refine ⟨i + 1, fun j hj hcj => ?_, fun V hVi _ => ?_⟩
          · by_cases hji : j = i
            · subst hji
              rw [Array.getElem?_setIfInBounds_self_of_lt hin']
              simp
            · rw [Array.getElem?_setIfInBounds_ne (Ne.symm hji), hf1 j hj hcj]
              constructor
              · intro h1; omega
              · intro h1; exact hprev j (by omega) hcj
          · rw [cur_succ hkind]
            show φ (V (0 + i)) w'
            rw [Nat.zero_add, hVi]
            exact hφ
        rcases hstep T w Q h.upd h.size h.vars hlate hdeps hinvw hcur with ⟨hw, hwp⟩ | ⟨hw, hφ, hψ⟩
        · simp only [hw, if_true]
          refine .inl (Oper.wp_mono ?_ hwp)
          rintro a' w' ⟨v, rfl, hvn, hu, hti, hφ, hψ⟩
          exact hput v w' hvn hu hφ (fun hl hne => hti (hahead hl hne) hne) (hph v w' hψ)
        · simp only [hw, Bool.false_eq_true, if_false]
          exact hput undef w (fun _ => rfl) (.refl F w) hφ (fun hl _ => h.tide hl) (hph undef w hψ)
    refine ⟨fun hr => ?_, hstep⟩
    refine hend _ _ _ h ?_
    intro j
    induction j using Nat.strongRecOn with
    | ind j ihj =>
      intro hj
      have hjl : j < listed.size := by rw [h.lsize]; exact hj
      cases hb : listed[j] with
      | true => rw [Array.getElem?_eq_getElem hjl, hb]
      | false =>
        exfalso
        have hmem : j ∈ Region.ready .any ops listed := by
          unfold Region.ready
          rw [List.mem_filter, List.mem_range, Bool.and_eq_true]
          refine ⟨hj, ?_, ?_⟩
          · rw [Array.getD_eq_getD_getElem?, Array.getElem?_eq_getElem hjl, hb]; rfl
          · rw [Array.getElem?_eq_getElem hj]
            simp only [Option.map_some, Option.getD_some]
            unfold backB at hbk
            rw [List.all_eq_true] at hbk
            have h1 := hbk j (List.mem_range.2 hj)
            rw [Array.getElem?_eq_getElem hj] at h1
            simp only [Option.map_some, Option.getD_some] at h1
            rw [Array.all_eq_true'] at h1 ⊢
            intro e he
            have h2 := h1 e he
            rw [decide_eq_true_iff] at h2
            rw [Array.getD_eq_getD_getElem?, ihj e.on h2 (by omega)]
            simp
        rw [hr] at hmem
        cases hmem

/-- The region's rule. -/
theorem wp_region_tide {P : Program} {ops : Array Oper} {id : Nat} {a0 : Act} {w0 : World} {Q : Exit → Act → World → Prop} (F : Nat → Prop) (Φ : Nat → Fact) (ks : List (Option Fact)) (P0 : World → Prop) (inv : World → Prop) (stop : Nat)
    (hm : P.follows .mixedOrders = true) (hk : ∀ i, FKept F (Φ i)) (hP0 : ∀ w w', P0 w → Below w.heap.size w w' → P0 w') (hinv : ∀ w w', inv w → Below w.heap.size w w' → inv w') (hst : stop < ops.size → inChain ks stop = true) (hks : KeptKinds ks) (hd : dsts2B ops a0.tmps.size = true) (ha : apart2B ops = true) (hbk : backB ops = true) (hch : chainB ops (ks.map (·.isSome)) = true) (hlen : ks.length ≤ ops.size)
    (h0 : P0 w0) (hi0 : inv w0) (hs : StepsI P ops F Φ a0.tmps a0.defers w0 inv stop 0 ops.toList ks fun _ w => P0 w)
    (hQ : ∀ T w, Upd F w0 w → T.size = a0.tmps.size → (∀ s, (ops.any fun o => o.dst == some s) = false → T.getD s undef = a0.tmps.getD s undef) → (∀ j, j < ops.size → Φ j (slotOf ops T j) w) → curOf (fun _ w => P0 w) 0 ks ops.size (slotOf ops T) w → Q .normal ⟨T, a0.defers⟩ w) :
    (Code.region id ops true).wp P Q a0 w0 := by
  refine wp_region_any hm (wpAny_tide hk hP0 hinv hst hks hd ha hbk hch hlen hs hQ _ _ _ _ ?_ ⟨(Upd.refl F w0).drew, rfl, rfl, by simp, fun _ _ => rfl, fun j hj => ?_, fun i o hi => ?_, fun _ _ _ _ _ _ => rfl, fun _ => hinv _ _ hi0 (Below.refl _ w0).drew, 0, fun j hj _ => ?_, ?_⟩)
  · rw [Array.toList_replicate]
    exact Nat.le_trans List.countP_le_length (by simp)
  · rw [Array.getElem?_replicate] at hj
    split at hj <;> simp at hj
  · replace hi : (Array.replicate ops.size false)[i]? = some true := hi
    rw [Array.getElem?_replicate] at hi
    split at hi <;> simp at hi
  · rw [Array.getElem?_replicate]
    constructor
    · intro h; split at h <;> simp at h
    · intro h; omega
  · simp only [curOf]
    exact hP0 _ _ h0 (Below.refl _ w0).drew
end Go.Proofs.YtpnboihbifhigaaGreatDoor
/- The state of find's loop: the reader, the records told, the cell that holds them. -/
namespace Go.Proofs.YtpnboihbifhigaaGreatDoor
open Go Go.RowKit
theorem frameP_rest {l rec r : List UInt8} (h : frameP l = some (rec, r)) : r.length ≤ l.length := by
  unfold frameP at h
  cases h1 : takeP 4 l with
  | none => rw [h1] at h; cases h
  | some x =>
    rw [h1] at h
    simp only [Option.bind_some] at h
    cases h2 : numP x.2 with
    | none => rw [h2] at h; cases h
    | some y =>
      rw [h2] at h
      simp only [Option.bind_some] at h
      cases h3 : takeP (val4 x.1) y.2 with
      | none => rw [h3] at h; cases h
      | some z =>
        rw [h3] at h
        simp only [Option.bind_some] at h
        split at h
        · injection h with h
          subst h
          have e1 := (takeP_len (a := x.1) (r := x.2) h1).2
          have e3 := (takeP_len h3).2
          have e2 := (numP_len (n := y.1) (r := y.2) h2).2
          omega
        · cases h
def recsP : Nat → List UInt8 → Option (List (List UInt8) × List UInt8)
  | 0, l => some ([], l)
  | n + 1, l => (frameP l).bind fun f => (recsP n f.2).bind fun q => some (f.1 :: q.1, q.2)
def findP (D : DS) : Option (Nat × Ext × List (List UInt8)) :=
  (markP (D.last 0)).bind fun live => (slotP D (D.last (1 + live))).bind fun x => (recsP x.records (extL D x)).bind fun q => if q.2 = [] then some (live, x, q.1) else none
/-- Records of the call's own, all in blocks from B on. -/
def RecsO (w : World) (B : Nat) (v : Value) (rs : List (List UInt8)) : Prop :=
  ∃ vs R, w.ownsRow B 62 1 v rs.length vs ∧ (∀ (i : Nat) (u : Value) (r : List UInt8), vs[i]? = some u → rs[i]? = some r → ArgV w R u (bv r)) ∧ (∀ u ∈ vs, ∃ a n c, u = .slice a n c) ∧ ∀ k, R k → B ≤ k ∧ k < w.heap.size ∧ ¬ Own v k
theorem RecsO.upd {w w' : World} {F : Nat → Prop} {B : Nat} {v : Value} {rs : List (List UInt8)} (h : RecsO w B v rs) (hu : Upd F w w') (hF : ∀ k, B ≤ k → k < w.heap.size → ¬ F k) : RecsO w' B v rs := by
  obtain ⟨vs, R, h1, h2, h3, h4⟩ := h
  refine ⟨vs, R, hu.own h1 fun k hk => ?_, fun i u r hi hr => (h2 i u r hi hr).upd hu fun k hk => hF k (h4 k hk).1 (h4 k hk).2.1, h3, fun k hk => ⟨(h4 k hk).1, Nat.lt_of_lt_of_le (h4 k hk).2.1 hu.size, (h4 k hk).2.2⟩⟩
  rcases h1.2 with ⟨rfl, _⟩ | ⟨g, cap, cur, rfl, hb, hg, _⟩
  · cases hk
  · have : g = k := by simpa [Value.ownBlock] using hk
    subst this
    exact hF g hb (Array.getElem?_eq_some_iff.1 hg).1
theorem RecsO.base {w : World} {B B' : Nat} {v : Value} {rs : List (List UInt8)} (h : RecsO w B v rs) (hB : B' ≤ B) : RecsO w B' v rs := by
  obtain ⟨vs, R, h1, h2, h3, h4⟩ := h
  exact ⟨vs, R, ownsRow_base h1 hB, h2, h3, fun k hk => ⟨Nat.le_trans hB (h4 k hk).1, (h4 k hk).2⟩⟩
theorem own_lt {w : World} {B n : Nat} {e : TypeId} {v : Value} {vs : List Value} (h : w.ownsRow B e 1 v n vs) {k : Nat} (hk : Own v k) : B ≤ k ∧ k < w.heap.size := by
  rcases h.2 with ⟨rfl, _⟩ | ⟨g, cap, cur, rfl, hb, hg, _⟩
  · cases hk
  · have : g = k := by simpa [Own, Value.ownBlock] using hk
    subst this
    exact ⟨hb, (Array.getElem?_eq_some_iff.1 hg).1⟩
structure RF (w : World) (p2 b3 B : Nat) (S1 : Nat → Prop) (v cv : Value) (ds : List (List UInt8)) (rest : List UInt8) : Prop where
  rd : RdV w p2 S1 rest
  recs : RecsO w B v ds
  box : w.heap[b3]? = some (.cells #[cv] 49)
  hp : p2 < B
  hb : b3 < B
  hB : B ≤ w.heap.size
  ne : p2 ≠ b3
  s1 : ∀ k, S1 k → k < B ∧ k ≠ b3 ∧ k ≠ p2
/-- What the round's operations may turn. -/
def FindF (p2 b3 : Nat) (v : Value) : Nat → Prop := fun k => k = p2 ∨ k = b3 ∨ Own v k
def RecF (F : Nat → Prop) (B : Nat) (r : List UInt8) (v : Value) (w : World) : Prop := (∃ a n c, v = .slice a n c) ∧ ∃ Ru, ArgV w Ru v (bv r) ∧ ∀ k, Ru k → B ≤ k ∧ k < w.heap.size ∧ ¬ F k
def OneF (F : Nat → Prop) (B : Nat) (r : List UInt8) (v : Value) (w : World) : Prop := ∃ g u, v = .slice (some ⟨g, 0, none⟩) 1 1 ∧ w.cell? ⟨g, 0, none⟩ = some u ∧ ¬ F g ∧ RecF F B r u w
def SlF (v : Value) : Prop := ∃ a n c, v = .slice a n c
theorem RecF.kept {F : Nat → Prop} {B : Nat} {r : List UInt8} : FKept F (fun v w => RecF F B r v w) := fun _ _ _ ⟨h0, Ru, h1, h2⟩ hu => ⟨h0, Ru, h1.upd hu fun k hk => (h2 k hk).2.2, fun k hk => ⟨(h2 k hk).1, Nat.lt_of_lt_of_le (h2 k hk).2.1 hu.size, (h2 k hk).2.2⟩⟩
theorem OneF.kept {F : Nat → Prop} {B : Nat} {r : List UInt8} : FKept F (fun v w => OneF F B r v w) := fun _ _ _ ⟨g, u, h1, h2, h3, h4⟩ hu => ⟨g, u, h1, hu.cell h2 h3, h3, RecF.kept u _ _ h4 hu⟩
section
variable {w w' : World} {p2 b3 B : Nat} {S1 : Nat → Prop} {v cv : Value} {ds : List (List UInt8)} {rest rest' r : List UInt8}
theorem RF.upd {F : Nat → Prop} (h : RF w p2 b3 B S1 v cv ds rest) (hu : Upd F w w') (hF : ∀ k, k < w.heap.size → ¬ F k) : RF w' p2 b3 B S1 v cv ds rest where
  rd := h.rd.upd hu (hF _ (Nat.lt_of_lt_of_le h.hp h.hB)) fun k hk => hF _ (Nat.lt_of_lt_of_le (h.s1 k hk).1 h.hB)
  recs := h.recs.upd hu fun k _ hk => hF k hk
  box := hu.heap h.box (hF _ (Nat.lt_of_lt_of_le h.hb h.hB))
  hp := h.hp
  hb := h.hb
  hB := Nat.le_trans h.hB hu.size
  ne := h.ne
  s1 := h.s1
theorem RF.below (h : RF w p2 b3 B S1 v cv ds rest) (hu : Below w.heap.size w w') : RF w' p2 b3 B S1 v cv ds rest := h.upd (.of_below (fun _ => False) hu) fun _ _ => id
theorem RF.read (h : RF w p2 b3 B S1 v cv ds rest) (hu : Upd (At p2) w w') (hR : RdV w' p2 S1 rest') : RF w' p2 b3 B S1 v cv ds rest' where
  rd := hR
  recs := h.recs.upd hu fun k hk _ e => by have := h.hp; omega
  box := hu.heap h.box fun e => h.ne e.symm
  hp := h.hp
  hb := h.hb
  hB := Nat.le_trans h.hB hu.size
  ne := h.ne
  s1 := h.s1
theorem RF.cell (h : RF w p2 b3 B S1 v cv ds rest) : w.cell? ⟨b3, 0, none⟩ = some cv := by rw [cell_at h.box]; rfl
theorem RF.own (h : RF w p2 b3 B S1 v cv ds rest) {k : Nat} (hk : Own v k) : B ≤ k ∧ k < w.heap.size := by
  obtain ⟨vs, R, h1, _⟩ := h.recs
  exact own_lt h1 hk
theorem RF.notF (h : RF w p2 b3 B S1 v cv ds rest) : ¬ FindF p2 b3 v w.heap.size := by
  rintro (e | e | e)
  · have := h.hp; have := h.hB; omega
  · have := h.hb; have := h.hB; omega
  · have := (h.own e).2; omega
theorem RF.newF (h : RF w p2 b3 B S1 v cv ds rest) {k : Nat} (hk : w.heap.size ≤ k) : ¬ FindF p2 b3 v k := by
  rintro (e | e | e)
  · have := h.hp; have := h.hB; omega
  · have := h.hb; have := h.hB; omega
  · have := (h.own e).2; omega
theorem RF.store (h : RF w p2 b3 B S1 v cv ds rest) : RF (w.setCell ⟨b3, 0, none⟩ v) p2 b3 B S1 v v ds rest where
  rd := h.rd.upd (.set (F := At b3) w (a := ⟨b3, 0, none⟩) rfl _) h.ne fun k hk e => (h.s1 k hk).2.1 e
  recs := h.recs.upd (.set (F := At b3) w (a := ⟨b3, 0, none⟩) rfl _) fun k hk _ e => by have := h.hb; omega
  box := by rw [heap_set h.box]; rfl
  hp := h.hp
  hb := h.hb
  hB := by simpa [World.setCell] using h.hB
  ne := h.ne
  s1 := h.s1
theorem RF.grow {v' u : Value} {F : Nat → Prop} (h : RF w p2 b3 B S1 v cv ds rest) (hF : F = FindF p2 b3 v) (hu : RecF F B r u w) {vs : List Value} {R : Nat → Prop}
    (h1 : w.ownsRow B 62 1 v ds.length vs) (h2 : ∀ (i : Nat) (u : Value) (r : List UInt8), vs[i]? = some u → ds[i]? = some r → ArgV w R u (bv r)) (h3 : ∀ u ∈ vs, ∃ a n c, u = .slice a n c) (h4 : ∀ k, R k → B ≤ k ∧ k < w.heap.size ∧ ¬ Own v k)
    (ho : w'.ownsRow B 62 1 v' (ds.length + 1) (vs ++ [u])) (hg : w.grownBy w' v.ownBlock) (hm : ∀ k, Own v' k → Own v k ∨ w.heap.size ≤ k) : RF w' p2 b3 B S1 v' cv (ds ++ [r]) rest := by
  have hU : Upd (Own v) w w' := .grown hg fun k hk => hk
  have hvl : vs.length = ds.length := by have := h1.1; omega
  obtain ⟨hsl, Ru, hu1, hu2⟩ := hu
  refine ⟨h.rd.upd hU (fun e => by have := (h.own e).1; have := h.hp; omega) (fun k hk e => by have := (h.own e).1; have := (h.s1 k hk).1; omega), ⟨vs ++ [u], fun k => R k ∨ Ru k, by simpa using ho, fun i x s hi hs => ?_, ?_, fun k hk => ?_⟩, hU.heap h.box (fun e => by have := (h.own e).1; have := h.hb; omega), h.hp, h.hb, Nat.le_trans h.hB hU.size, h.ne, h.s1⟩
  · rcases Nat.lt_or_ge i ds.length with hlt | hge
    · rw [List.getElem?_append_left (by omega)] at hi
      rw [List.getElem?_append_left (by omega)] at hs
      exact ((h2 i x s hi hs).upd hU fun k hk => (h4 k hk).2.2).mono fun k _ => .inl
    · have e1 : i = ds.length := by
        rcases Nat.lt_or_ge ds.length i with h | h
        · rw [List.getElem?_eq_none (by simp; omega)] at hs; cases hs
        · omega
      subst e1
      rw [← hvl, List.getElem?_concat_length] at hi
      rw [List.getElem?_concat_length] at hs
      injection hi with hi
      injection hs with hs
      subst hi hs
      exact (hu1.upd hU fun k hk ho => (hu2 k hk).2.2 (by rw [hF]; exact .inr (.inr ho))).mono fun k _ => .inr
  · intro x hx
    rcases List.mem_append.1 hx with hx | hx
    · exact h3 x hx
    · obtain rfl := List.mem_singleton.1 hx
      exact hsl
  · have key : B ≤ k ∧ k < w.heap.size ∧ ¬ Own v k := hk.elim (h4 k) fun hk => ⟨(hu2 k hk).1, (hu2 k hk).2.1, fun ho => (hu2 k hk).2.2 (by rw [hF]; exact .inr (.inr ho))⟩
    exact ⟨key.1, Nat.lt_of_lt_of_le key.2.1 hU.size, fun ho => (hm k ho).elim key.2.2 (by have := key.2.1; omega)⟩
end
/-- Behind the round. -/
def RF4 (p2 b3 B : Nat) (S1 : Nat → Prop) (ds : List (List UInt8)) (rest : List UInt8) (w : World) : Prop := ∃ v, RF w p2 b3 B S1 v v ds rest ∧ SlF v
theorem RF4.of {w : World} {p2 b3 B : Nat} {S1 : Nat → Prop} {v : Value} {ds : List (List UInt8)} {rest : List UInt8} (h : RF w p2 b3 B S1 v v ds rest) (hv : SlF v) : RF4 p2 b3 B S1 ds rest w := ⟨v, h, hv⟩
theorem RF4.kept {p2 b3 B : Nat} {S1 : Nat → Prop} {ds : List (List UInt8)} {rest : List UInt8} : Kept (fun _ w => RF4 p2 b3 B S1 ds rest w) := fun _ _ _ ⟨v, h, hv⟩ hb => ⟨v, h.below hb, hv⟩
/-- One element behind a row of the call's own, as a step of a region. -/
theorem wp_append_at {w : World} {o : Oper} {a : Act} {K : Act → World → Prop} {Q : Exit → Act → World → Prop} (s x : Operand) (ho : o.op = .call { callee := .builtin .append, args := #[s, x], argTypes := #[49, 49] })
    (base : Nat) (v : Value) (n : Nat) (xs : List Value) (hs : a.eval s = v) (hown : w.ownsRow base 62 1 v n xs)
    (g : Nat) (u : Value) (hx : a.eval x = .slice (some ⟨g, 0, none⟩) 1 1) (hc : w.cell? ⟨g, 0, none⟩ = some u) (hu : ∃ a n c, u = .slice a n c) (hn : n ≤ 4294967296) (hbase : base ≤ w.heap.size)
    (h : ∀ v' w', w'.ownsRow base 62 1 v' (n + 1) (xs ++ [u]) → w.grownBy w' v.ownBlock → (∀ k, Own v' k → Own v k ∨ w.heap.size ≤ k) → K (a.put o.dst v') w') : o.wp Tryz.prog a w K Q := by
  obtain ⟨i0, hi, hz0, hz1, hz2⟩ := info_parts rows_info
  obtain ⟨v', w', hr, h2, h3, h4, h5⟩ := run_append_own_at (P := Tryz.prog) w base 49 o.type 62 i0 (.slice none 0 0) 1 24 Tryz.underlying49 hi hz0 hz1 hz2 rfl Nat.one_pos v n xs hown ⟨g, 0, none⟩ 1 1 [u] rfl (fun j y hj => by
    match j, hj with
    | 0, hj =>
      simp at hj
      subst hj
      exact hc) (fun y hy => by obtain rfl := List.mem_singleton.1 hy; exact oneSlice _ hu) (by unfold maxLen; omega) (by omega) hbase
  unfold Oper.wp execOp
  simp only [ho, resolve, invoke, builtin, Sem.run_bind, Sem.run_pure, Result.andThen_ok, List.map_toArray, List.map_cons, List.map_nil, hs, hx, hr]
  refine h v' w' h2 h3 fun k hk => ?_
  rcases h5 with h5 | h5
  · exact .inl (h5.symm.trans hk)
  · have : w.heap.size = k := by rw [Own, h5] at hk; exact Option.some.inj hk
    exact .inr (by omega)
end Go.Proofs.YtpnboihbifhigaaGreatDoor
