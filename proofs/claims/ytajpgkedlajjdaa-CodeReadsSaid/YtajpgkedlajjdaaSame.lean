/- Walks of the comparison of summaries, where they are the same. -/
import Derived.Test.YtajpgkedlajjdaaRSum
namespace Go.Proofs.Ytajpgkedlajjdaa
open Go.RowKit

theorem own_argN {w : World} {b size n : Nat} {e : TypeId} {v : Value} {xs : List Value} (h : w.ownsRow b e size v n xs) : ArgN w (fun g => v.ownBlock = some g) v n xs := by
  rcases h.2 with ⟨rfl, rfl⟩ | ⟨g, cap, cur, rfl, hb, hg, h1, h2, h3, h4⟩
  · have : xs = [] := List.eq_nil_of_length_eq_zero (by simpa using h.1)
    exact ⟨none, 0, rfl, Nat.le_refl _, Nat.zero_le _, .inl this⟩
  · refine ⟨_, cap, rfl, h1, h2, .inr ⟨g, 0, rfl, rfl, fun i u hi => ?_⟩⟩
    have := h.cells (g := g) rfl i u hi
    rwa [Go.WideShapes.add_plain] at this

set_option maxRecDepth 100000 in
set_option maxHeartbeats 1600000 in
theorem sameAlarms_any (S S2 : Nat → Prop) (va vb : Value) (al : List AlarmD) (w : World) (ha : ArgN w S va al.length (al.map AlarmD.cells).flatten) (hb : ArgN w S2 vb al.length (al.map AlarmD.cells).flatten) :
    Calls Try.prog 54 #[va, vb] w fun e w' => e = .returned (.bool true) ∧ Below w.heap.size w w' := by
  obtain ⟨Aa, ca, rfl, hna⟩ := ha.slice
  obtain ⟨Ab, cb, rfl, -⟩ := hb.slice
  unfold maxLen at hna
  replace ha := hide ha
  replace hb := hide hb
  go_enter Try.func54, Try.ntmps54
  go_wp2_with fail
  go_loopw [5] (fun i wr => ∃ k : Nat, k ≤ al.length ∧ i = .int .i64 k ∧ Below w.heap.size w wr) (fun i _ => al.length - (intOf i).toNat)
  case atStart => exact ⟨0, Nat.zero_le _, rfl, Below.refl _ _⟩
  case round =>
    obtain ⟨k, hk, rfl, hB⟩ := hrel
    by_cases hlt : k < al.length
    · obtain ⟨b, o, rfl, -, hcell⟩ := (ha.out.upd (.of_below (fun _ => False) hB) fun _ _ => id).get (k := 2) (fun _ => rfl) (by decide) hlt
      obtain ⟨b2, o2, rfl, -, hcell2⟩ := (hb.out.upd (.of_below (fun _ => False) hB) fun _ _ => id).get (k := 2) (fun _ => rfl) (by decide) hlt
      have hcA := hcell 0 _ (by decide) rfl
      have hcB := hcell 1 _ (by decide) rfl
      have hdA := hcell2 0 _ (by decide) rfl
      have hdB := hcell2 1 _ (by decide) rfl
      clear hcell hcell2
      generalize al[k].pos = lo at *
      generalize al[k].kind = hi at *
      have e0 : o + k * 2 = o + (2 * k + 0) := by omega
      have e1 : o + k * 2 + 1 = o + (2 * k + 1) := by omega
      have e2 : o2 + k * 2 = o2 + (2 * k + 0) := by omega
      have e3 : o2 + k * 2 + 1 = o2 + (2 * k + 1) := by omega
      rw [← e0] at hcA
      rw [← e1] at hcB
      rw [← e2] at hdA
      rw [← e3] at hdB
      clear e0 e1 e2 e3
      replace hB := hide hB
      replace hcA := hide hcA
      replace hcB := hide hcB
      replace hdA := hide hdA
      replace hdB := hide hdB
      go_wp2_with fail
      refine wp_region_flow (fun _ => False) (factAt [(fun v _ => v = (.slice (some ⟨b, o, none⟩) al.length ca)), (fun v _ => v = (.int .i64 k)), (fun v _ => v = (.pointer (some ⟨b, o + k * 2, none⟩))), (fun v _ => v = (.agg #[.int .i64 lo, .int .i64 hi])), (fun v _ => v = (.slice (some ⟨b2, o2, none⟩) al.length cb)), (fun v _ => v = (.int .i64 k)), (fun v _ => v = (.pointer (some ⟨b2, o2 + k * 2, none⟩))), (fun v _ => v = (.agg #[.int .i64 lo, .int .i64 hi])), (fun v _ => v = (.bool false))]) [] (fun _ => True) (by kernel_rfl) (fkept_at ⟨FKept.eq _, FKept.eq _, FKept.eq _, FKept.eq _, FKept.eq _, FKept.eq _, FKept.eq _, FKept.eq _, FKept.eq _, trivial⟩) (fun _ _ h _ => h) trivial (by kernel_rfl) (by kernel_rfl) (by kernel_rfl) (by kernel_rfl) (Nat.le_of_ble_eq_true (by kernel_rfl)) ?_ ⟨?_, ?_, ?_, ?_, ?_, ?_, ?_, ?_, ?_, trivial⟩ ?_
      · first | exact trivial | assumption
      · intro T w Q hu hs hv hw hd
        have hx0 : T.getD 0 undef = (.slice (some ⟨b, o, none⟩) al.length ca) := hv 0 (by kernel_rfl)
        refine .inl ⟨wanted_none rfl, ?_⟩
        clear hd hv hu hs hw
        go_simp
        exact ⟨_, rfl, DstOk.some rfl, Below.refl _ _, rfl⟩
      · intro T w Q hu hs hv hw hd
        have hx5 : T.getD 5 undef = (.int .i64 k) := hv 5 (by kernel_rfl)
        refine .inl ⟨wanted_none rfl, ?_⟩
        clear hd hv hu hs hw
        go_simp
        exact ⟨_, rfl, DstOk.some rfl, Below.refl _ _, rfl⟩
      · intro T w Q hu hs hv hw hd
        have hx17 : T.getD 17 undef = (.slice (some ⟨b, o, none⟩) al.length ca) := Deps.at 0 hd (by kernel_rfl)
        have hx18 : T.getD 18 undef = (.int .i64 k) := Deps.at 1 hd (by kernel_rfl)
        refine .inl ⟨wanted_none rfl, ?_⟩
        clear hd hv hu hs hw
        go_simp
        exact ⟨_, rfl, DstOk.some rfl, Below.refl _ _, rfl⟩
      · intro T w Q hu hs hv hw hd
        have hx19 : T.getD 19 undef = (.pointer (some ⟨b, o + k * 2, none⟩)) := Deps.at 2 hd (by kernel_rfl)
        refine .inl ⟨wanted_none rfl, ?_⟩
        have hq0 := hu.cell hcA.out id
        have hq1 := hu.cell hcB.out id
        clear hd hv hu hs hw
        go_simp
        exact ⟨_, rfl, DstOk.some rfl, Below.refl _ _, rfl⟩
      · intro T w Q hu hs hv hw hd
        have hx1 : T.getD 1 undef = (.slice (some ⟨b2, o2, none⟩) al.length cb) := hv 1 (by kernel_rfl)
        refine .inl ⟨wanted_none rfl, ?_⟩
        clear hd hv hu hs hw
        go_simp
        exact ⟨_, rfl, DstOk.some rfl, Below.refl _ _, rfl⟩
      · intro T w Q hu hs hv hw hd
        have hx5 : T.getD 5 undef = (.int .i64 k) := hv 5 (by kernel_rfl)
        refine .inl ⟨wanted_none rfl, ?_⟩
        clear hd hv hu hs hw
        go_simp
        exact ⟨_, rfl, DstOk.some rfl, Below.refl _ _, rfl⟩
      · intro T w Q hu hs hv hw hd
        have hx21 : T.getD 21 undef = (.slice (some ⟨b2, o2, none⟩) al.length cb) := Deps.at 4 hd (by kernel_rfl)
        have hx22 : T.getD 22 undef = (.int .i64 k) := Deps.at 5 hd (by kernel_rfl)
        refine .inl ⟨wanted_none rfl, ?_⟩
        clear hd hv hu hs hw
        go_simp
        exact ⟨_, rfl, DstOk.some rfl, Below.refl _ _, rfl⟩
      · intro T w Q hu hs hv hw hd
        have hx23 : T.getD 23 undef = (.pointer (some ⟨b2, o2 + k * 2, none⟩)) := Deps.at 6 hd (by kernel_rfl)
        refine .inl ⟨wanted_none rfl, ?_⟩
        have hq0 := hu.cell hdA.out id
        have hq1 := hu.cell hdB.out id
        clear hd hv hu hs hw
        go_simp
        exact ⟨_, rfl, DstOk.some rfl, Below.refl _ _, rfl⟩
      · intro T w Q hu hs hv hw hd
        have hx20 : T.getD 20 undef = (.agg #[.int .i64 lo, .int .i64 hi]) := Deps.at 3 hd (by kernel_rfl)
        have hx24 : T.getD 24 undef = (.agg #[.int .i64 lo, .int .i64 hi]) := Deps.at 7 hd (by kernel_rfl)
        refine .inl ⟨wanted_none rfl, ?_⟩
        clear hd hv hu hs hw
        go_simp
        exact ⟨_, rfl, DstOk.some rfl, Below.refl _ _, rfl⟩
      · intro T w hu hs hv hf hcur
        have hT : T = #[T.getD 0 undef, T.getD 1 undef, T.getD 2 undef, T.getD 3 undef, T.getD 4 undef, T.getD 5 undef, T.getD 6 undef, T.getD 7 undef, T.getD 8 undef, T.getD 9 undef, T.getD 10 undef, T.getD 11 undef, T.getD 12 undef, T.getD 13 undef, T.getD 14 undef, T.getD 15 undef, T.getD 16 undef, T.getD 17 undef, T.getD 18 undef, T.getD 19 undef, T.getD 20 undef, T.getD 21 undef, T.getD 22 undef, T.getD 23 undef, T.getD 24 undef, T.getD 25 undef] := expl hs
        rw [hT]
        clear hT
        rw [show T.getD 0 undef = (.slice (some ⟨b, o, none⟩) al.length ca) from hv 0 (by kernel_rfl)]
        rw [show T.getD 1 undef = (.slice (some ⟨b2, o2, none⟩) al.length cb) from hv 1 (by kernel_rfl)]
        rw [hv 2 (by kernel_rfl)]
        rw [hv 3 (by kernel_rfl)]
        rw [hv 4 (by kernel_rfl)]
        rw [show T.getD 5 undef = (.int .i64 k) from hv 5 (by kernel_rfl)]
        rw [hv 6 (by kernel_rfl)]
        rw [hv 7 (by kernel_rfl)]
        rw [hv 8 (by kernel_rfl)]
        rw [hv 9 (by kernel_rfl)]
        rw [hv 10 (by kernel_rfl)]
        rw [hv 11 (by kernel_rfl)]
        rw [hv 12 (by kernel_rfl)]
        rw [hv 13 (by kernel_rfl)]
        rw [hv 14 (by kernel_rfl)]
        rw [hv 15 (by kernel_rfl)]
        rw [hv 16 (by kernel_rfl)]
        rw [show T.getD 17 undef = (.slice (some ⟨b, o, none⟩) al.length ca) from hf 0 (by decide)]
        rw [show T.getD 18 undef = (.int .i64 k) from hf 1 (by decide)]
        rw [show T.getD 19 undef = (.pointer (some ⟨b, o + k * 2, none⟩)) from hf 2 (by decide)]
        rw [show T.getD 20 undef = (.agg #[.int .i64 lo, .int .i64 hi]) from hf 3 (by decide)]
        rw [show T.getD 21 undef = (.slice (some ⟨b2, o2, none⟩) al.length cb) from hf 4 (by decide)]
        rw [show T.getD 22 undef = (.int .i64 k) from hf 5 (by decide)]
        rw [show T.getD 23 undef = (.pointer (some ⟨b2, o2 + k * 2, none⟩)) from hf 6 (by decide)]
        rw [show T.getD 24 undef = (.agg #[.int .i64 lo, .int .i64 hi]) from hf 7 (by decide)]
        rw [show T.getD 25 undef = (.bool false) from hf 8 (by decide)]
        clear hf hs hv hcur
        simp only [getD_toArray, List.getD_cons_succ, List.getD_cons_zero]
        clear T
        go_wp2_with fail
        go_roundw
        case rel => exact ⟨k + 1, by omega, by go_num, hB.out.trans (hu.below hB.out.size fun _ h => h.elim)⟩
        case measure => simp [intOf]; omega
    · obtain rfl : k = al.length := by omega
      replace hB := hide hB
      go_wp2_with fail
      go_ret
      exact ⟨rfl, hB.out⟩

/-- A summary's value, its lists wherever they lie. -/
def SumV (w : World) (v : Value) (s : SumD) : Prop :=
  ∃ va vm, v = .agg #[va, .bool s.ends, .bool s.ret.some, .int .i64 s.ret.lo, .int .i64 s.ret.hi, vm] ∧ ArgN w (fun _ => True) va s.alarms.length (s.alarms.map AlarmD.cells).flatten ∧ ArgN w (fun _ => True) vm s.mod.length (s.mod.map NamedD.cells).flatten
theorem SumAt.val {w : World} {base : Nat} {v : Value} {s : SumD} (h : SumAt w base v s) : SumV w v s := by
  obtain ⟨va, vm, h1, h2, h3⟩ := h
  exact ⟨va, vm, h1, (own_argN h2).mono fun _ _ _ => trivial, (own_argN h3).mono fun _ _ _ => trivial⟩
theorem SumV.below {w w' : World} {v : Value} {s : SumD} (h : SumV w v s) (hb : Below w.heap.size w w') : SumV w' v s := by
  obtain ⟨va, vm, h1, h2, h3⟩ := h
  exact ⟨va, vm, h1, h2.upd (.of_below (fun _ => False) hb) fun _ _ => id, h3.upd (.of_below (fun _ => False) hb) fun _ _ => id⟩

set_option maxRecDepth 100000 in
set_option maxHeartbeats 3200000 in
theorem same_any (va vb : Value) (s : SumD) (w : World) (ha : SumV w va s) (hb : SumV w vb s) :
    Calls Try.prog 30 #[va, vb] w fun e w' => e = .returned (.bool true) ∧ Below w.heap.size w w' := by
  obtain ⟨xa, xm, rfl, ha1, ha2⟩ := ha
  obtain ⟨ya, ym, rfl, hb1, hb2⟩ := hb
  obtain ⟨Aa, ca, rfl, hna⟩ := ha1.slice
  obtain ⟨Am, cm, rfl, hnm⟩ := ha2.slice
  obtain ⟨Ab, cb, rfl, -⟩ := hb1.slice
  obtain ⟨Am2, cm2, rfl, -⟩ := hb2.slice
  obtain ⟨al, ends, ⟨sm, lo, hi⟩, md⟩ := s
  simp only at *
  unfold maxLen at hna hnm
  obtain ⟨w1, hw1⟩ : ∃ w1, w1 = (w.alloc (.cells #[.slice Aa al.length ca, .bool ends, .bool sm, .int .i64 lo, .int .i64 hi, .slice Am md.length cm] 35)).alloc (.cells #[.slice Ab al.length cb, .bool ends, .bool sm, .int .i64 lo, .int .i64 hi, .slice Am2 md.length cm2] 35) := ⟨_, rfl⟩
  have hB1 : Below w.heap.size w w1 := by rw [hw1]; exact ((Below.refl _ w).alloc (Nat.le_refl _) _).alloc (by simp) _
  have hx : w1.heap[w.heap.size]? = some (.cells #[.slice Aa al.length ca, .bool ends, .bool sm, .int .i64 lo, .int .i64 hi, .slice Am md.length cm] 35) := by rw [hw1]; exact heap_old (heap_new _ _) _
  have hy : w1.heap[w.heap.size + 1]? = some (.cells #[.slice Ab al.length cb, .bool ends, .bool sm, .int .i64 lo, .int .i64 hi, .slice Am2 md.length cm2] 35) := by
    rw [hw1]
    have := heap_new (w.alloc (.cells #[.slice Aa al.length ca, .bool ends, .bool sm, .int .i64 lo, .int .i64 hi, .slice Am md.length cm] 35)) (.cells #[.slice Ab al.length cb, .bool ends, .bool sm, .int .i64 lo, .int .i64 hi, .slice Am2 md.length cm2] 35)
    simpa using this
  have hN := hide (sameAlarms_any _ _ _ _ al w1 (ha1.upd (.of_below (fun _ => False) hB1) fun _ _ => id) (hb1.upd (.of_below (fun _ => False) hB1) fun _ _ => id))
  have hm1 := hide (ha2.upd (.of_below (fun _ => False) hB1) fun _ _ => id)
  have hm2 := hide (hb2.upd (.of_below (fun _ => False) hB1) fun _ _ => id)
  have cells : ∀ W : World, Below w1.heap.size w1 W → (W.cell? ⟨w.heap.size, 0, none⟩ = some (.slice Aa al.length ca) ∧ W.cell? ⟨w.heap.size, 1, none⟩ = some (.bool ends) ∧ W.cell? ⟨w.heap.size, 2, none⟩ = some (.bool sm) ∧ W.cell? ⟨w.heap.size, 3, none⟩ = some (.int .i64 lo) ∧ W.cell? ⟨w.heap.size, 4, none⟩ = some (.int .i64 hi) ∧ W.cell? ⟨w.heap.size, 5, none⟩ = some (.slice Am md.length cm)) ∧ (W.cell? ⟨w.heap.size + 1, 0, none⟩ = some (.slice Ab al.length cb) ∧ W.cell? ⟨w.heap.size + 1, 1, none⟩ = some (.bool ends) ∧ W.cell? ⟨w.heap.size + 1, 2, none⟩ = some (.bool sm) ∧ W.cell? ⟨w.heap.size + 1, 3, none⟩ = some (.int .i64 lo) ∧ W.cell? ⟨w.heap.size + 1, 4, none⟩ = some (.int .i64 hi) ∧ W.cell? ⟨w.heap.size + 1, 5, none⟩ = some (.slice Am2 md.length cm2)) := by
    intro W h
    have h1 := (Upd.of_below (fun _ => False) h).heap hx id
    have h2 := (Upd.of_below (fun _ => False) h).heap hy id
    refine ⟨⟨?_, ?_, ?_, ?_, ?_, ?_⟩, ?_, ?_, ?_, ?_, ?_, ?_⟩
    iterate 6 (rw [cell_at h1]; rfl)
    iterate 6 (rw [cell_at h2]; rfl)
  obtain ⟨g, hg⟩ : ∃ g, w.heap.size = g := ⟨_, rfl⟩
  rw [hg] at cells
  obtain ⟨⟨c0, c1, c2, c3, c4, c5⟩, d0, d1, d2, d3, d4, d5⟩ := cells w1 (Below.refl _ _)
  replace cells := hide cells
  replace hB1 := hide hB1
  replace hx := hide hx
  replace hy := hide hy
  clear ha1 ha2 hb1 hb2
  replace hw1 := hw1.symm
  go_enter Try.func30, Try.ntmps30
  go_wp2_with fail
  refine hN.out.mono ?_
  rintro e w2 ⟨rfl, hb2⟩
  clear c0 c1 c2 c3 c4 c5 d0 d1 d2 d3 d4 d5
  obtain ⟨⟨c0, c1, c2, c3, c4, c5⟩, d0, d1, d2, d3, d4, d5⟩ := cells.out w2 hb2
  replace hb2 := hide hb2
  go_wp2_with fail
  clear c0 c1 c2 c3 c4 c5 d0 d1 d2 d3 d4 d5
  have hsz := hide hB1.out.size
  go_loopw [5] (fun i wr => ∃ k : Nat, k ≤ md.length ∧ i = .int .i64 k ∧ Below w1.heap.size w1 wr) (fun i _ => md.length - (intOf i).toNat)
  case atStart => exact ⟨0, Nat.zero_le _, rfl, hb2.out⟩
  case round =>
    obtain ⟨k, hk, rfl, hB⟩ := hrel
    obtain ⟨⟨-, -, -, -, -, hma⟩, -, -, -, -, -, hmb⟩ := cells.out wr hB
    by_cases hlt : k < md.length
    · obtain ⟨b, o, rfl, -, hcell⟩ := (hm1.out.upd (.of_below (fun _ => False) hB) fun _ _ => id).get (k := 4) (fun _ => rfl) (by decide) hlt
      obtain ⟨b2, o2, rfl, -, hcell2⟩ := (hm2.out.upd (.of_below (fun _ => False) hB) fun _ _ => id).get (k := 4) (fun _ => rfl) (by decide) hlt
      have hcA := hcell 0 _ (by decide) rfl
      have hcB := hcell 1 _ (by decide) rfl
      have hcC := hcell 2 _ (by decide) rfl
      have hcD := hcell 3 _ (by decide) rfl
      have hdA := hcell2 0 _ (by decide) rfl
      have hdB := hcell2 1 _ (by decide) rfl
      have hdC := hcell2 2 _ (by decide) rfl
      have hdD := hcell2 3 _ (by decide) rfl
      clear hcell hcell2
      generalize md[k].name = nm at *
      generalize md[k].v = iv at *
      obtain ⟨sm2, lo2, hi2⟩ := iv
      have e0 : o + k * 4 = o + (4 * k + 0) := by omega
      have e1 : o + k * 4 + 1 = o + (4 * k + 1) := by omega
      have e2 : o + k * 4 + 2 = o + (4 * k + 2) := by omega
      have e3 : o + k * 4 + 3 = o + (4 * k + 3) := by omega
      rw [← e0] at hcA
      rw [← e1] at hcB
      rw [← e2] at hcC
      rw [← e3] at hcD
      clear e0 e1 e2 e3
      have e0 : o2 + k * 4 = o2 + (4 * k + 0) := by omega
      have e1 : o2 + k * 4 + 1 = o2 + (4 * k + 1) := by omega
      have e2 : o2 + k * 4 + 2 = o2 + (4 * k + 2) := by omega
      have e3 : o2 + k * 4 + 3 = o2 + (4 * k + 3) := by omega
      rw [← e0] at hdA
      rw [← e1] at hdB
      rw [← e2] at hdC
      rw [← e3] at hdD
      clear e0 e1 e2 e3
      go_wp2_with fail
      replace hB := hide hB
      replace hcA := hide hcA
      replace hcB := hide hcB
      replace hcC := hide hcC
      replace hcD := hide hcD
      replace hdA := hide hdA
      replace hdB := hide hdB
      replace hdC := hide hdC
      replace hdD := hide hdD
      replace hma := hide hma
      replace hmb := hide hmb
      refine wp_region_flow (fun _ => False) (factAt [(fun v _ => v = (.pointer (some ⟨g, 5, none⟩))), (fun v _ => v = (.slice (some ⟨b, o, none⟩) md.length cm)), (fun v _ => v = (.int .i64 k)), (fun v _ => v = (.pointer (some ⟨b, o + k * 4, none⟩))), (fun v _ => v = (.agg #[.string nm, .bool sm2, .int .i64 lo2, .int .i64 hi2])), (fun v _ => v = (.pointer (some ⟨g + 1, 5, none⟩))), (fun v _ => v = (.slice (some ⟨b2, o2, none⟩) md.length cm2)), (fun v _ => v = (.int .i64 k)), (fun v _ => v = (.pointer (some ⟨b2, o2 + k * 4, none⟩))), (fun v _ => v = (.agg #[.string nm, .bool sm2, .int .i64 lo2, .int .i64 hi2])), (fun v _ => v = (.bool false))]) [] (fun _ => True) (by kernel_rfl) (fkept_at ⟨FKept.eq _, FKept.eq _, FKept.eq _, FKept.eq _, FKept.eq _, FKept.eq _, FKept.eq _, FKept.eq _, FKept.eq _, FKept.eq _, FKept.eq _, trivial⟩) (fun _ _ h _ => h) trivial (by kernel_rfl) (by kernel_rfl) (by kernel_rfl) (by kernel_rfl) (Nat.le_of_ble_eq_true (by kernel_rfl)) ?_ ⟨?_, ?_, ?_, ?_, ?_, ?_, ?_, ?_, ?_, ?_, ?_, trivial⟩ ?_
      · first | exact trivial | assumption
      · intro T w Q hu hs hv hw hd
        have hx2 : T.getD 2 undef = (.pointer (some ⟨g, 0, none⟩)) := hv 2 (by kernel_rfl)
        refine .inl ⟨wanted_none rfl, ?_⟩
        clear hd hv hu hs hw
        go_simp
        exact ⟨_, rfl, DstOk.some rfl, Below.refl _ _, rfl⟩
      · intro T w Q hu hs hv hw hd
        have hx42 : T.getD 42 undef = (.pointer (some ⟨g, 5, none⟩)) := Deps.at 0 hd (by kernel_rfl)
        refine .inl ⟨wanted_none rfl, ?_⟩
        have hq0 := hu.cell hma.out id
        clear hd hv hu hs hw
        go_simp
        exact ⟨_, rfl, DstOk.some rfl, Below.refl _ _, rfl⟩
      · intro T w Q hu hs hv hw hd
        have hx5 : T.getD 5 undef = (.int .i64 k) := hv 5 (by kernel_rfl)
        refine .inl ⟨wanted_none rfl, ?_⟩
        clear hd hv hu hs hw
        go_simp
        exact ⟨_, rfl, DstOk.some rfl, Below.refl _ _, rfl⟩
      · intro T w Q hu hs hv hw hd
        have hx43 : T.getD 43 undef = (.slice (some ⟨b, o, none⟩) md.length cm) := Deps.at 1 hd (by kernel_rfl)
        have hx44 : T.getD 44 undef = (.int .i64 k) := Deps.at 2 hd (by kernel_rfl)
        refine .inl ⟨wanted_none rfl, ?_⟩
        clear hd hv hu hs hw
        go_simp
        exact ⟨_, rfl, DstOk.some rfl, Below.refl _ _, rfl⟩
      · intro T w Q hu hs hv hw hd
        have hx45 : T.getD 45 undef = (.pointer (some ⟨b, o + k * 4, none⟩)) := Deps.at 3 hd (by kernel_rfl)
        refine .inl ⟨wanted_none rfl, ?_⟩
        have hq0 := hu.cell hcA.out id
        have hq1 := hu.cell hcB.out id
        have hq2 := hu.cell hcC.out id
        have hq3 := hu.cell hcD.out id
        clear hd hv hu hs hw
        go_simp
        exact ⟨_, rfl, DstOk.some rfl, Below.refl _ _, rfl⟩
      · intro T w Q hu hs hv hw hd
        have hx3 : T.getD 3 undef = (.pointer (some ⟨g + 1, 0, none⟩)) := hv 3 (by kernel_rfl)
        refine .inl ⟨wanted_none rfl, ?_⟩
        clear hd hv hu hs hw
        go_simp
        exact ⟨_, rfl, DstOk.some rfl, Below.refl _ _, rfl⟩
      · intro T w Q hu hs hv hw hd
        have hx47 : T.getD 47 undef = (.pointer (some ⟨g + 1, 5, none⟩)) := Deps.at 5 hd (by kernel_rfl)
        refine .inl ⟨wanted_none rfl, ?_⟩
        have hq0 := hu.cell hmb.out id
        clear hd hv hu hs hw
        go_simp
        exact ⟨_, rfl, DstOk.some rfl, Below.refl _ _, rfl⟩
      · intro T w Q hu hs hv hw hd
        have hx5 : T.getD 5 undef = (.int .i64 k) := hv 5 (by kernel_rfl)
        refine .inl ⟨wanted_none rfl, ?_⟩
        clear hd hv hu hs hw
        go_simp
        exact ⟨_, rfl, DstOk.some rfl, Below.refl _ _, rfl⟩
      · intro T w Q hu hs hv hw hd
        have hx48 : T.getD 48 undef = (.slice (some ⟨b2, o2, none⟩) md.length cm2) := Deps.at 6 hd (by kernel_rfl)
        have hx49 : T.getD 49 undef = (.int .i64 k) := Deps.at 7 hd (by kernel_rfl)
        refine .inl ⟨wanted_none rfl, ?_⟩
        clear hd hv hu hs hw
        go_simp
        exact ⟨_, rfl, DstOk.some rfl, Below.refl _ _, rfl⟩
      · intro T w Q hu hs hv hw hd
        have hx50 : T.getD 50 undef = (.pointer (some ⟨b2, o2 + k * 4, none⟩)) := Deps.at 8 hd (by kernel_rfl)
        refine .inl ⟨wanted_none rfl, ?_⟩
        have hq0 := hu.cell hdA.out id
        have hq1 := hu.cell hdB.out id
        have hq2 := hu.cell hdC.out id
        have hq3 := hu.cell hdD.out id
        clear hd hv hu hs hw
        go_simp
        exact ⟨_, rfl, DstOk.some rfl, Below.refl _ _, rfl⟩
      · intro T w Q hu hs hv hw hd
        have hx46 : T.getD 46 undef = (.agg #[.string nm, .bool sm2, .int .i64 lo2, .int .i64 hi2]) := Deps.at 4 hd (by kernel_rfl)
        have hx51 : T.getD 51 undef = (.agg #[.string nm, .bool sm2, .int .i64 lo2, .int .i64 hi2]) := Deps.at 9 hd (by kernel_rfl)
        refine .inl ⟨wanted_none rfl, ?_⟩
        clear hd hv hu hs hw
        go_simp
        exact ⟨_, rfl, DstOk.some rfl, Below.refl _ _, rfl⟩
      · intro T w hu hs hv hf hcur
        have hT : T = #[T.getD 0 undef, T.getD 1 undef, T.getD 2 undef, T.getD 3 undef, T.getD 4 undef, T.getD 5 undef, T.getD 6 undef, T.getD 7 undef, T.getD 8 undef, T.getD 9 undef, T.getD 10 undef, T.getD 11 undef, T.getD 12 undef, T.getD 13 undef, T.getD 14 undef, T.getD 15 undef, T.getD 16 undef, T.getD 17 undef, T.getD 18 undef, T.getD 19 undef, T.getD 20 undef, T.getD 21 undef, T.getD 22 undef, T.getD 23 undef, T.getD 24 undef, T.getD 25 undef, T.getD 26 undef, T.getD 27 undef, T.getD 28 undef, T.getD 29 undef, T.getD 30 undef, T.getD 31 undef, T.getD 32 undef, T.getD 33 undef, T.getD 34 undef, T.getD 35 undef, T.getD 36 undef, T.getD 37 undef, T.getD 38 undef, T.getD 39 undef, T.getD 40 undef, T.getD 41 undef, T.getD 42 undef, T.getD 43 undef, T.getD 44 undef, T.getD 45 undef, T.getD 46 undef, T.getD 47 undef, T.getD 48 undef, T.getD 49 undef, T.getD 50 undef, T.getD 51 undef, T.getD 52 undef] := expl hs
        rw [hT]
        clear hT
        rw [hv 0 (by kernel_rfl)]
        rw [hv 1 (by kernel_rfl)]
        rw [show T.getD 2 undef = (.pointer (some ⟨g, 0, none⟩)) from hv 2 (by kernel_rfl)]
        rw [show T.getD 3 undef = (.pointer (some ⟨g + 1, 0, none⟩)) from hv 3 (by kernel_rfl)]
        rw [hv 4 (by kernel_rfl)]
        rw [show T.getD 5 undef = (.int .i64 k) from hv 5 (by kernel_rfl)]
        rw [hv 6 (by kernel_rfl)]
        rw [hv 7 (by kernel_rfl)]
        rw [hv 8 (by kernel_rfl)]
        rw [hv 9 (by kernel_rfl)]
        rw [hv 10 (by kernel_rfl)]
        rw [hv 11 (by kernel_rfl)]
        rw [hv 12 (by kernel_rfl)]
        rw [hv 13 (by kernel_rfl)]
        rw [hv 14 (by kernel_rfl)]
        rw [hv 15 (by kernel_rfl)]
        rw [hv 16 (by kernel_rfl)]
        rw [hv 17 (by kernel_rfl)]
        rw [hv 18 (by kernel_rfl)]
        rw [hv 19 (by kernel_rfl)]
        rw [hv 20 (by kernel_rfl)]
        rw [hv 21 (by kernel_rfl)]
        rw [hv 22 (by kernel_rfl)]
        rw [hv 23 (by kernel_rfl)]
        rw [hv 24 (by kernel_rfl)]
        rw [hv 25 (by kernel_rfl)]
        rw [hv 26 (by kernel_rfl)]
        rw [hv 27 (by kernel_rfl)]
        rw [hv 28 (by kernel_rfl)]
        rw [hv 29 (by kernel_rfl)]
        rw [hv 30 (by kernel_rfl)]
        rw [hv 31 (by kernel_rfl)]
        rw [hv 32 (by kernel_rfl)]
        rw [hv 33 (by kernel_rfl)]
        rw [hv 34 (by kernel_rfl)]
        rw [hv 35 (by kernel_rfl)]
        rw [hv 36 (by kernel_rfl)]
        rw [hv 37 (by kernel_rfl)]
        rw [hv 38 (by kernel_rfl)]
        rw [hv 39 (by kernel_rfl)]
        rw [hv 40 (by kernel_rfl)]
        rw [hv 41 (by kernel_rfl)]
        rw [show T.getD 42 undef = (.pointer (some ⟨g, 5, none⟩)) from hf 0 (by decide)]
        rw [show T.getD 43 undef = (.slice (some ⟨b, o, none⟩) md.length cm) from hf 1 (by decide)]
        rw [show T.getD 44 undef = (.int .i64 k) from hf 2 (by decide)]
        rw [show T.getD 45 undef = (.pointer (some ⟨b, o + k * 4, none⟩)) from hf 3 (by decide)]
        rw [show T.getD 46 undef = (.agg #[.string nm, .bool sm2, .int .i64 lo2, .int .i64 hi2]) from hf 4 (by decide)]
        rw [show T.getD 47 undef = (.pointer (some ⟨g + 1, 5, none⟩)) from hf 5 (by decide)]
        rw [show T.getD 48 undef = (.slice (some ⟨b2, o2, none⟩) md.length cm2) from hf 6 (by decide)]
        rw [show T.getD 49 undef = (.int .i64 k) from hf 7 (by decide)]
        rw [show T.getD 50 undef = (.pointer (some ⟨b2, o2 + k * 4, none⟩)) from hf 8 (by decide)]
        rw [show T.getD 51 undef = (.agg #[.string nm, .bool sm2, .int .i64 lo2, .int .i64 hi2]) from hf 9 (by decide)]
        rw [show T.getD 52 undef = (.bool false) from hf 10 (by decide)]
        clear hf hs hv hcur
        simp only [getD_toArray, List.getD_cons_succ, List.getD_cons_zero]
        clear T
        go_wp2_with fail
        go_roundw
        case rel => exact ⟨k + 1, by omega, by go_num, hB.out.trans (hu.below hB.out.size fun _ h => h.elim)⟩
        case measure => simp [intOf]; omega
    · obtain rfl : k = md.length := by omega
      replace hB := hide hB
      go_wp2_with fail
      go_ret
      exact ⟨rfl, hB1.out.trans (hB.out.mono hsz.out)⟩
end Go.Proofs.Ytajpgkedlajjdaa
