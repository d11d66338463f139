/- Walks of wal: puts that are refused; Commit, Reset. -/
import Derived.Test.YtimblkkojcbipaaDoorPut
namespace Go.Proofs.YtimblkkojcbipaaDoor
open Go Go.RowKit
section
variable {W : World} {lb sb live : Nat} {x : Ext} {S : Nat → Prop} {D : DS}
set_option maxRecDepth 100000 in
theorem put_long (lb : Nat) (y : Ext) {T : Nat → Prop} {rv : Value} {rs : List (List UInt8)} (hr : RecsV W T rv rs) (hany : rs.any tooL = true) :
    Calls Tryd.prog 34 #[.pointer (some ⟨lb, 0, none⟩), extV y, rv] W fun e w' => e = .returned (.int .i64 42) ∧ Below W.heap.size W w' := by
  obtain ⟨w1, hw1⟩ : ∃ w1, w1 = W.alloc (.cells #[.int .i64 y.area, .int .i64 y.bytes, .int .i64 y.records] 73) := ⟨_, rfl⟩
  have hU1 : Upd (fun _ => False) W w1 := by rw [hw1]; exact .alloc _ _ _
  have hcf := containsFunc_any (hr.upd hU1 fun _ _ => id)
  rw [hany] at hcf
  unfold extV
  replace hU1 := hide hU1
  replace hr := hide hr
  replace hany := hide hany
  go_enter Tryd.func34, Tryd.ntmps34
  go_wp2_with fail
  rw [← hw1]
  replace hw1 := hide hw1
  refine hcf.mono ?_
  rintro e w' ⟨rfl, rfl⟩
  go_wp2_with fail
  go_ret
  refine ⟨rfl, hU1.out.below (Nat.le_refl _) fun _ h => h.elim⟩
set_option maxRecDepth 100000 in
set_option maxHeartbeats 1000000 in
theorem put_full (hL : LogV W lb sb live x) (hD : DiskV W sb S D) (hn : 16 ≤ D.n) (y : Ext) (hya : y.area ≤ 1) (hyr : y.records + (y.bytes + 1) ≤ 2147483648)
    {T : Nat → Prop} {rv : Value} {rs : List (List UInt8)} (hr : RecsV W T rv rs) (hrl : rs.length ≤ 2147483648) (hfl : (frames rs).length ≤ 2251799813685248) (hany : rs.any tooL = false) (hfull : capN D < y.bytes + (frames rs).length) :
    Calls Tryd.prog 34 #[.pointer (some ⟨lb, 0, none⟩), extV y, rv] W fun e w' => e = .returned (.int .i64 40) ∧ Below W.heap.size W w' := by
  obtain ⟨w1, hw1⟩ : ∃ w1, w1 = W.alloc (.cells #[.int .i64 y.area, .int .i64 y.bytes, .int .i64 y.records] 73) := ⟨_, rfl⟩
  have y4 : w1.heap[W.heap.size]? = some (.cells #[.int .i64 y.area, .int .i64 y.bytes, .int .i64 y.records] 73) := by rw [hw1]; exact heap_new _ _
  have hU1 : Upd (fun _ => False) W w1 := by rw [hw1]; exact .alloc _ _ _
  have hr1 := hr.upd hU1 fun _ _ => id
  have hcf := containsFunc_any hr1
  rw [hany] at hcf
  have hwi := with_any hr1 y (by omega) (by omega) (by omega)
  unfold extV at hwi ⊢
  obtain ⟨p, hp⟩ : ∃ p : Ext, p = y.plus rs := ⟨_, rfl⟩
  rw [← hp] at hwi
  have hpb : p.bytes = y.bytes + (frames rs).length := by rw [hp]; rfl
  have x0 : w1.cell? ⟨W.heap.size, 0, none⟩ = some (.int .i64 y.area) := by rw [cell_at y4]; rfl
  have x1 : w1.cell? ⟨W.heap.size, 1, none⟩ = some (.int .i64 y.bytes) := by rw [cell_at y4]; rfl
  have x2 : w1.cell? ⟨W.heap.size, 2, none⟩ = some (.int .i64 y.records) := by rw [cell_at y4]; rfl
  replace hL := hide hL
  replace hD := hide hD
  replace hr := hide hr
  replace hr1 := hide hr1
  replace hp := hide hp
  replace hpb := hide hpb
  replace y4 := hide y4
  replace hU1 := hide hU1
  replace hany := hide hany
  go_enter Tryd.func34, Tryd.ntmps34
  go_wp2_with fail
  rw [← hw1]
  replace hw1 := hide hw1
  refine hcf.mono ?_
  rintro e w' ⟨rfl, rfl⟩
  go_wp2_with fail
  refine hwi.mono ?_
  rintro e w2 ⟨rfl, hb2⟩
  have hU2 : Upd (fun _ => False) w1 w2 := .of_below _ hb2
  replace hU2 := hide hU2
  clear hb2 hwi hcf
  go_wp2_with fail
  obtain ⟨w3, hw3⟩ : ∃ w3, w3 = w2.alloc (.cells #[.int .i64 p.area, .int .i64 p.bytes, .int .i64 p.records] 73) := ⟨_, rfl⟩
  have y7 : w3.heap[w2.heap.size]? = some (.cells #[.int .i64 p.area, .int .i64 p.bytes, .int .i64 p.records] 73) := by rw [hw3]; exact heap_new _ _
  have hU3 : Upd (fun _ => False) w2 w3 := by rw [hw3]; exact .alloc _ _ _
  rw [← hw3]
  replace hw3 := hide hw3
  have hU13 : Upd (fun _ => False) W w3 := (hU1.out.then hU2.out).then hU3
  have hD3 := hD.out.upd hU13 fun _ _ => id
  have hL3 := hU13.heap hL.out id
  have c7 : w3.cell? ⟨w2.heap.size, 1, none⟩ = some (.int .i64 p.bytes) := by rw [cell_at y7]; rfl
  have k0 : w3.cell? ⟨lb, 0, none⟩ = some (.pointer (some ⟨sb, 0, none⟩)) := by rw [cell_at hL3]; rfl
  have hfz : capN D < p.bytes := by rw [hpb.out]; exact hfull
  replace hD3 := hide hD3
  replace hL3 := hide hL3
  replace y7 := hide y7
  replace hU13 := hide hU13
  replace hU3 := hide hU3
  clear x0 x1 x2
  refine wp_region_flow (fun _ => False) (factAt [(fun v _ => v = (.pointer (some ⟨w2.heap.size, 1, none⟩))), (fun v _ => v = (.int .i64 (p.bytes : Nat))), (fun v _ => v = (.pointer (some ⟨lb, 0, none⟩))), (fun v _ => v = (.pointer (some ⟨lb, 0, none⟩))), (fun v _ => v = (.pointer (some ⟨lb, 0, none⟩))), (fun v _ => v = (.pointer (some ⟨sb, 0, none⟩))), (fun v _ => v = (.int .i64 (capN D : Nat))), (fun v _ => v = (.bool true))]) [] (fun _ => True) (by kernel_rfl) (fkept_at ⟨FKept.eq _, FKept.eq _, FKept.eq _, FKept.eq _, FKept.eq _, FKept.eq _, FKept.eq _, FKept.eq _, trivial⟩) (fun _ _ h _ => h) trivial (by kernel_rfl) (by kernel_rfl) (by kernel_rfl) (by kernel_rfl) (Nat.le_of_ble_eq_true (by kernel_rfl)) ?_ ⟨?_, ?_, ?_, ?_, ?_, ?_, ?_, ?_, trivial⟩ ?_
  · first | exact trivial | assumption
  · intro T w Q hu hs hv hw hd
    have hx7 : T.getD 7 undef = (.pointer (some ⟨w2.heap.size, 0, none⟩)) := hv 7 (by kernel_rfl)
    refine .inl ⟨wanted_none rfl, ?_⟩
    clear hd hv hu hs hw
    go_simp
    exact ⟨_, rfl, DstOk.some rfl, Below.refl _ _, rfl⟩
  · intro T w Q hu hs hv hw hd
    have hx15 : T.getD 15 undef = (.pointer (some ⟨w2.heap.size, 1, none⟩)) := Deps.at 0 hd (by kernel_rfl)
    refine .inl ⟨wanted_none rfl, ?_⟩
    have hq0 := hu.cell c7 id
    clear hd hv hu hs hw
    go_simp
    exact ⟨_, rfl, DstOk.some rfl, Below.refl _ _, rfl⟩
  · intro T w Q hu hs hv hw hd
    have hx0 : T.getD 0 undef = (.pointer (some ⟨lb, 0, none⟩)) := hv 0 (by kernel_rfl)
    refine .inl ⟨wanted_none rfl, ?_⟩
    clear hd hv hu hs hw
    go_simp
    exact ⟨_, rfl, DstOk.some rfl, Below.refl _ _, rfl⟩
  · intro T w Q hu hs hv hw hd
    have hx17 : T.getD 17 undef = (.pointer (some ⟨lb, 0, none⟩)) := Deps.at 2 hd (by kernel_rfl)
    refine .inl ⟨wanted_none rfl, ?_⟩
    clear hd hv hu hs hw
    go_simp
    exact ⟨_, rfl, DstOk.some rfl, Below.refl _ _, rfl⟩
  · intro T w Q hu hs hv hw hd
    have hx18 : T.getD 18 undef = (.pointer (some ⟨lb, 0, none⟩)) := Deps.at 3 hd (by kernel_rfl)
    refine .inl ⟨wanted_none rfl, ?_⟩
    clear hd hv hu hs hw
    go_simp
    exact ⟨_, rfl, DstOk.some rfl, Below.refl _ _, rfl⟩
  · intro T w Q hu hs hv hw hd
    have hx19 : T.getD 19 undef = (.pointer (some ⟨lb, 0, none⟩)) := Deps.at 4 hd (by kernel_rfl)
    refine .inl ⟨wanted_none rfl, ?_⟩
    have hq0 := hu.cell k0 id
    clear hd hv hu hs hw
    go_simp
    exact ⟨_, rfl, DstOk.some rfl, Below.refl _ _, rfl⟩
  · intro T w Q hu hs hv hw hd
    have hx20 : T.getD 20 undef = (.pointer (some ⟨sb, 0, none⟩)) := Deps.at 5 hd (by kernel_rfl)
    refine .inl ⟨wanted_none rfl, ?_⟩
    have hN := capacity_any (hD3.out.upd hu fun _ _ => id) hn
    clear hd hv hu hs hw
    go_simp
    refine hN.mono ?_
    rintro e w5 ⟨rfl, hb⟩
    exact ⟨_, rfl, DstOk.some rfl, hb, rfl⟩
  · intro T w Q hu hs hv hw hd
    have hx16 : T.getD 16 undef = (.int .i64 (p.bytes : Nat)) := Deps.at 1 hd (by kernel_rfl)
    have hx21 : T.getD 21 undef = (.int .i64 (capN D : Nat)) := Deps.at 6 hd (by kernel_rfl)
    refine .inl ⟨wanted_none rfl, ?_⟩
    clear hd hv hu hs hw
    go_simp
    exact ⟨_, rfl, DstOk.some rfl, Below.refl _ _, by first | rfl | exact congrArg Value.bool (decide_eq_true (by omega))⟩
  intro T w hu hs hv hf hcur
  have hT : T = #[T.getD 0 undef, T.getD 1 undef, T.getD 2 undef, T.getD 3 undef, T.getD 4 undef, T.getD 5 undef, T.getD 6 undef, T.getD 7 undef, T.getD 8 undef, T.getD 9 undef, T.getD 10 undef, T.getD 11 undef, T.getD 12 undef, T.getD 13 undef, T.getD 14 undef, T.getD 15 undef, T.getD 16 undef, T.getD 17 undef, T.getD 18 undef, T.getD 19 undef, T.getD 20 undef, T.getD 21 undef, T.getD 22 undef, T.getD 23 undef, T.getD 24 undef, T.getD 25 undef, T.getD 26 undef, T.getD 27 undef, T.getD 28 undef, T.getD 29 undef, T.getD 30 undef, T.getD 31 undef, T.getD 32 undef, T.getD 33 undef, T.getD 34 undef, T.getD 35 undef, T.getD 36 undef, T.getD 37 undef, T.getD 38 undef, T.getD 39 undef, T.getD 40 undef, T.getD 41 undef, T.getD 42 undef, T.getD 43 undef, T.getD 44 undef, T.getD 45 undef, T.getD 46 undef, T.getD 47 undef, T.getD 48 undef, T.getD 49 undef, T.getD 50 undef, T.getD 51 undef, T.getD 52 undef, T.getD 53 undef, T.getD 54 undef, T.getD 55 undef, T.getD 56 undef, T.getD 57 undef, T.getD 58 undef, T.getD 59 undef, T.getD 60 undef, T.getD 61 undef, T.getD 62 undef, T.getD 63 undef, T.getD 64 undef, T.getD 65 undef, T.getD 66 undef, T.getD 67 undef, T.getD 68 undef, T.getD 69 undef, T.getD 70 undef, T.getD 71 undef, T.getD 72 undef] := expl hs
  rw [hT]
  clear hT
  rw [show T.getD 0 undef = (.pointer (some ⟨lb, 0, none⟩)) from hv 0 (by kernel_rfl)]
  rw [hv 1 (by kernel_rfl)]
  rw [show T.getD 2 undef = rv from hv 2 (by kernel_rfl)]
  rw [hv 3 (by kernel_rfl)]
  rw [show T.getD 4 undef = (.pointer (some ⟨W.heap.size, 0, none⟩)) from hv 4 (by kernel_rfl)]
  rw [hv 5 (by kernel_rfl)]
  rw [show T.getD 6 undef = (.int .i64 0) from hv 6 (by kernel_rfl)]
  rw [show T.getD 7 undef = (.pointer (some ⟨w2.heap.size, 0, none⟩)) from hv 7 (by kernel_rfl)]
  rw [hv 8 (by kernel_rfl)]
  rw [hv 9 (by kernel_rfl)]
  rw [hv 10 (by kernel_rfl)]
  rw [hv 11 (by kernel_rfl)]
  rw [hv 12 (by kernel_rfl)]
  rw [hv 13 (by kernel_rfl)]
  rw [hv 14 (by kernel_rfl)]
  rw [show T.getD 15 undef = (.pointer (some ⟨w2.heap.size, 1, none⟩)) from hf 0 (by decide)]
  rw [show T.getD 16 undef = (.int .i64 (p.bytes : Nat)) from hf 1 (by decide)]
  rw [show T.getD 17 undef = (.pointer (some ⟨lb, 0, none⟩)) from hf 2 (by decide)]
  rw [show T.getD 18 undef = (.pointer (some ⟨lb, 0, none⟩)) from hf 3 (by decide)]
  rw [show T.getD 19 undef = (.pointer (some ⟨lb, 0, none⟩)) from hf 4 (by decide)]
  rw [show T.getD 20 undef = (.pointer (some ⟨sb, 0, none⟩)) from hf 5 (by decide)]
  rw [show T.getD 21 undef = (.int .i64 (capN D : Nat)) from hf 6 (by decide)]
  rw [show T.getD 22 undef = (.bool true) from hf 7 (by decide)]
  rw [hv 23 (by kernel_rfl)]
  rw [hv 24 (by kernel_rfl)]
  rw [hv 25 (by kernel_rfl)]
  rw [hv 26 (by kernel_rfl)]
  rw [hv 27 (by kernel_rfl)]
  rw [hv 28 (by kernel_rfl)]
  rw [hv 29 (by kernel_rfl)]
  rw [hv 30 (by kernel_rfl)]
  rw [hv 31 (by kernel_rfl)]
  rw [hv 32 (by kernel_rfl)]
  rw [hv 33 (by kernel_rfl)]
  rw [hv 34 (by kernel_rfl)]
  rw [hv 35 (by kernel_rfl)]
  rw [hv 36 (by kernel_rfl)]
  rw [hv 37 (by kernel_rfl)]
  rw [hv 38 (by kernel_rfl)]
  rw [hv 39 (by kernel_rfl)]
  rw [hv 40 (by kernel_rfl)]
  rw [hv 41 (by kernel_rfl)]
  rw [hv 42 (by kernel_rfl)]
  rw [hv 43 (by kernel_rfl)]
  rw [hv 44 (by kernel_rfl)]
  rw [hv 45 (by kernel_rfl)]
  rw [hv 46 (by kernel_rfl)]
  rw [hv 47 (by kernel_rfl)]
  rw [hv 48 (by kernel_rfl)]
  rw [hv 49 (by kernel_rfl)]
  rw [hv 50 (by kernel_rfl)]
  rw [hv 51 (by kernel_rfl)]
  rw [hv 52 (by kernel_rfl)]
  rw [hv 53 (by kernel_rfl)]
  rw [hv 54 (by kernel_rfl)]
  rw [hv 55 (by kernel_rfl)]
  rw [hv 56 (by kernel_rfl)]
  rw [hv 57 (by kernel_rfl)]
  rw [hv 58 (by kernel_rfl)]
  rw [hv 59 (by kernel_rfl)]
  rw [hv 60 (by kernel_rfl)]
  rw [hv 61 (by kernel_rfl)]
  rw [hv 62 (by kernel_rfl)]
  rw [hv 63 (by kernel_rfl)]
  rw [hv 64 (by kernel_rfl)]
  rw [hv 65 (by kernel_rfl)]
  rw [hv 66 (by kernel_rfl)]
  rw [hv 67 (by kernel_rfl)]
  rw [hv 68 (by kernel_rfl)]
  rw [hv 69 (by kernel_rfl)]
  rw [hv 70 (by kernel_rfl)]
  rw [hv 71 (by kernel_rfl)]
  rw [hv 72 (by kernel_rfl)]
  clear hf hs hv hcur
  simp only [getD_toArray, List.getD_cons_succ, List.getD_cons_zero]
  clear T
  have hU4 : Upd (fun _ => False) W w := hU13.out.then hu
  replace hU4 := hide hU4
  clear hu k0 c7
  go_wp2_with fail
  go_ret
  exact ⟨rfl, hU4.out.below (Nat.le_refl _) fun _ h => h.elim⟩
set_option maxRecDepth 100000 in
theorem commit_of {rv : Value} {R : Ending → World → Prop} (hL : LogV W lb sb live x) (h : Calls Tryd.prog 34 #[.pointer (some ⟨lb, 0, none⟩), extV x, rv] W R) (hR : ∀ e w', R e w' → ∃ v, e = .returned v) :
    Calls Tryd.prog 18 #[.pointer (some ⟨lb, 0, none⟩), rv] W R := by
  have s2 : W.cell? ⟨lb, 2, none⟩ = some (.int .i64 x.area) := by rw [cell_at hL]; rfl
  have s3 : W.cell? ⟨lb, 3, none⟩ = some (.int .i64 x.bytes) := by rw [cell_at hL]; rfl
  have s4 : W.cell? ⟨lb, 4, none⟩ = some (.int .i64 x.records) := by rw [cell_at hL]; rfl
  unfold extV at h
  replace hL := hide hL
  replace hR := hide hR
  go_enter Tryd.func18, Tryd.ntmps18
  go_wp2_with fail
  refine h.mono ?_
  intro e w' hr
  obtain ⟨v, rfl⟩ := hR.out e w' hr
  replace hr := hide hr
  go_wp2_with fail
  exact hr.out
set_option maxRecDepth 100000 in
theorem reset_of {rv : Value} {R : Ending → World → Prop} (hL : LogV W lb sb live x) (hx : x.area ≤ 1) (h : Calls Tryd.prog 34 #[.pointer (some ⟨lb, 0, none⟩), extV ⟨1 - x.area, 0, 0⟩, rv] W R) (hR : ∀ e w', R e w' → ∃ v, e = .returned v) :
    Calls Tryd.prog 16 #[.pointer (some ⟨lb, 0, none⟩), rv] W R := by
  have s2 : W.cell? ⟨lb, 2, none⟩ = some (.int .i64 x.area) := by rw [cell_at hL]; rfl
  have hot := other_any W x.area hx
  obtain ⟨o, ho⟩ : ∃ o, o = 1 - x.area := ⟨_, rfl⟩
  rw [← ho] at hot h
  unfold extV at h
  replace ho := hide ho
  replace hL := hide hL
  replace hR := hide hR
  go_enter Tryd.func16, Tryd.ntmps16
  go_wp2_with fail
  refine hot.mono ?_
  rintro e w' ⟨rfl, rfl⟩
  go_wp2_with fail
  refine h.mono ?_
  intro e w' hr
  obtain ⟨v, rfl⟩ := hR.out e w' hr
  replace hr := hide hr
  go_wp2_with fail
  exact hr.out
end
end Go.Proofs.YtimblkkojcbipaaDoor
