/- Part 11 of the walks (merged): RfA. -/
import Derived.Test.YtiiihpokpfhclaaDoorMs10
/- Walks of the document's parser: is, named, word. -/
namespace Go.Proofs.YtiiihpokpfhclaaDoor
open Go Go.RowKit

set_option maxRecDepth 100000 in
set_option maxHeartbeats 1600000 in
theorem is_e (x : List UInt8) (p : Nat) (w : World) (e a d n i : Nat) (C : Cx) (h : RfW w p C i e a d n) (he0 : e ≠ 0) :
    Calls Tryd.prog 27 #[.pointer (some ⟨p, 0, none⟩), .string (strB x)] w fun r w' => r = .returned (.bool false) ∧ Below w.heap.size w w' := by
  have hh := h.heap
  obtain ⟨A, c, hA, hm⟩ := h.row.slice
  have hrow := h.row
  rw [hA] at hh hrow
  generalize hN : C.ts.length = N at *
  have c0 := cell_at hh 0
  have c1 := cell_at hh 1
  have c3 := cell_at hh 3
  simp at c0 c1 c3
  have he : ((e : Int) == 0) = false := beq_false_of_ne (by omega)
  replace he := hide he
  clear he0
  replace c0 := hide c0
  replace c1 := hide c1
  replace c3 := hide c3
  clear hh hrow hm hA h hN
  go_enter Tryd.func27, Tryd.ntmps27
  go_wp2_with fail
  refine wp_region_flow (fun _ => False) (factAt [(fun v _ => v = (.pointer (some ⟨p, 0, none⟩))), (fun v _ => v = (.pointer (some ⟨p, 0, none⟩))), (fun v _ => v = (.pointer (some ⟨p, 3, none⟩))), (fun v _ => v = (.int .i64 e)), (fun v _ => v = (.bool false)), (fun v _ => v = (.bool false)), (fun v _ => v = undef), (fun v _ => v = undef), (fun v _ => v = undef), (fun v _ => v = undef), (fun v _ => v = undef), (fun v _ => v = undef), (fun v _ => v = undef), (fun v _ => v = undef), (fun v _ => v = undef), (fun v _ => v = undef), (fun v _ => v = (Value.bool false)), (fun v _ => v = (Value.bool false)), (fun v _ => v = undef), (fun v _ => v = undef), (fun v _ => v = undef), (fun v _ => v = undef), (fun v _ => v = undef), (fun v _ => v = undef), (fun v _ => v = undef), (fun v _ => v = undef), (fun v _ => v = undef), (fun v _ => v = undef), (fun v _ => v = undef), (fun v _ => v = undef), (fun v _ => v = (Value.bool false)), (fun v _ => v = (Value.bool false)), (fun v _ => v = undef), (fun v _ => v = undef), (fun v _ => v = undef), (fun v _ => v = undef), (fun v _ => v = undef), (fun v _ => v = undef), (fun v _ => v = undef), (fun v _ => v = undef), (fun v _ => v = undef), (fun v _ => v = undef), (fun v _ => v = undef), (fun v _ => v = undef), (fun v _ => v = undef), (fun v _ => v = (Value.bool false)), (fun v _ => v = (Value.bool false))]) [] (fun _ => True) (by kernel_rfl) (fkept_at ⟨FKept.eq _, FKept.eq _, FKept.eq _, FKept.eq _, FKept.eq _, FKept.eq _, FKept.eq _, FKept.eq _, FKept.eq _, FKept.eq _, FKept.eq _, FKept.eq _, FKept.eq _, FKept.eq _, FKept.eq _, FKept.eq _, FKept.eq _, FKept.eq _, FKept.eq _, FKept.eq _, FKept.eq _, FKept.eq _, FKept.eq _, FKept.eq _, FKept.eq _, FKept.eq _, FKept.eq _, FKept.eq _, FKept.eq _, FKept.eq _, FKept.eq _, FKept.eq _, FKept.eq _, FKept.eq _, FKept.eq _, FKept.eq _, FKept.eq _, FKept.eq _, FKept.eq _, FKept.eq _, FKept.eq _, FKept.eq _, FKept.eq _, FKept.eq _, FKept.eq _, FKept.eq _, FKept.eq _, trivial⟩) (fun _ _ h _ => h) trivial (by kernel_rfl) (by kernel_rfl) (by kernel_rfl) (by kernel_rfl) (Nat.le_of_ble_eq_true (by kernel_rfl)) ?_ ⟨?_, ?_, ?_, ?_, ?_, ?_, ?_, ?_, ?_, ?_, ?_, ?_, ?_, ?_, ?_, ?_, ?_, ?_, ?_, ?_, ?_, ?_, ?_, ?_, ?_, ?_, ?_, ?_, ?_, ?_, ?_, ?_, ?_, ?_, ?_, ?_, ?_, ?_, ?_, ?_, ?_, ?_, ?_, ?_, ?_, ?_, ?_, trivial⟩ ?_
  · first | exact trivial | assumption
  · intro T w Q hu hs hv hw hd
    have hx0 : T.getD 0 undef = (.pointer (some ⟨p, 0, none⟩)) := hv 0 (by kernel_rfl)
    refine .inl ⟨wanted_none rfl, ?_⟩
    clear hd hv hu hs hw
    go_simp
    exact ⟨_, rfl, DstOk.some rfl, Below.refl _ _, rfl⟩
  · intro T w Q hu hs hv hw hd
    have hx5 : T.getD 5 undef = (.pointer (some ⟨p, 0, none⟩)) := Deps.at 0 hd (by kernel_rfl)
    refine .inl ⟨wanted_none rfl, ?_⟩
    clear hd hv hu hs hw
    go_simp
    exact ⟨_, rfl, DstOk.some rfl, Below.refl _ _, rfl⟩
  · intro T w Q hu hs hv hw hd
    have hx6 : T.getD 6 undef = (.pointer (some ⟨p, 0, none⟩)) := Deps.at 1 hd (by kernel_rfl)
    refine .inl ⟨wanted_none rfl, ?_⟩
    clear hd hv hu hs hw
    go_simp
    exact ⟨_, rfl, DstOk.some rfl, Below.refl _ _, rfl⟩
  · intro T w Q hu hs hv hw hd
    have hx7 : T.getD 7 undef = (.pointer (some ⟨p, 3, none⟩)) := Deps.at 2 hd (by kernel_rfl)
    refine .inl ⟨wanted_none rfl, ?_⟩
    have hq := hu.cell c3.out id
    clear hd hv hu hs hw
    go_simp
    exact ⟨_, rfl, DstOk.some rfl, Below.refl _ _, rfl⟩
  · intro T w Q hu hs hv hw hd
    have hx8 : T.getD 8 undef = (.int .i64 e) := Deps.at 3 hd (by kernel_rfl)
    refine .inl ⟨wanted_none rfl, ?_⟩
    have a0 := he.out
    clear hd hv hu hs hw
    go_simp
    exact ⟨_, rfl, DstOk.some rfl, Below.refl _ _, by first | rfl | exact congrArg Value.bool (by first | (simp only [decide_eq_true_eq, decide_eq_false_iff_not]; omega) | (simp; exact eq_of_beq a0) | (simp; exact ne_of_beq_false a0) | simp [a0] | simp_all)⟩
  · intro T w Q hu hs hv hw hd
    have hx9 : T.getD 9 undef = (.bool false) := Deps.at 4 hd (by kernel_rfl)
    refine .inl ⟨wanted_none rfl, ?_⟩
    clear hd hv hu hs hw
    go_simp
    exact ⟨_, rfl, DstOk.some rfl, Below.refl _ _, rfl⟩
  · intro T w Q hu hs hv hw hd
    exact .inr ⟨wanted_not rfl (Deps.at 5 hd (by kernel_rfl) : slotOf _ T 5 = .bool (!true)), rfl⟩
  · intro T w Q hu hs hv hw hd
    exact .inr ⟨wanted_not rfl (Deps.at 5 hd (by kernel_rfl) : slotOf _ T 5 = .bool (!true)), rfl⟩
  · intro T w Q hu hs hv hw hd
    exact .inr ⟨wanted_not rfl (Deps.at 5 hd (by kernel_rfl) : slotOf _ T 5 = .bool (!true)), rfl⟩
  · intro T w Q hu hs hv hw hd
    exact .inr ⟨wanted_not rfl (Deps.at 5 hd (by kernel_rfl) : slotOf _ T 5 = .bool (!true)), rfl⟩
  · intro T w Q hu hs hv hw hd
    exact .inr ⟨wanted_not rfl (Deps.at 5 hd (by kernel_rfl) : slotOf _ T 5 = .bool (!true)), rfl⟩
  · intro T w Q hu hs hv hw hd
    exact .inr ⟨wanted_not rfl (Deps.at 5 hd (by kernel_rfl) : slotOf _ T 5 = .bool (!true)), rfl⟩
  · intro T w Q hu hs hv hw hd
    exact .inr ⟨wanted_not rfl (Deps.at 5 hd (by kernel_rfl) : slotOf _ T 5 = .bool (!true)), rfl⟩
  · intro T w Q hu hs hv hw hd
    exact .inr ⟨wanted_not rfl (Deps.at 5 hd (by kernel_rfl) : slotOf _ T 5 = .bool (!true)), rfl⟩
  · intro T w Q hu hs hv hw hd
    exact .inr ⟨wanted_not rfl (Deps.at 5 hd (by kernel_rfl) : slotOf _ T 5 = .bool (!true)), rfl⟩
  · intro T w Q hu hs hv hw hd
    exact .inr ⟨wanted_not rfl (Deps.at 5 hd (by kernel_rfl) : slotOf _ T 5 = .bool (!true)), rfl⟩
  · intro T w Q hu hs hv hw hd
    have hx10 : T.getD 10 undef = (.bool false) := Deps.at 5 hd (by kernel_rfl)
    have hx20 : T.getD 20 undef = undef := Deps.at 15 hd (by kernel_rfl)
    refine .inl ⟨wanted_none rfl, ?_⟩
    clear hd hv hu hs hw
    go_simp
    exact ⟨_, rfl, DstOk.some rfl, Below.refl _ _, rfl⟩
  · intro T w Q hu hs hv hw hd
    have hx21 : T.getD 21 undef = (Value.bool false) := Deps.at 16 hd (by kernel_rfl)
    refine .inl ⟨wanted_none rfl, ?_⟩
    clear hd hv hu hs hw
    go_simp
    exact ⟨_, rfl, DstOk.some rfl, Below.refl _ _, rfl⟩
  · intro T w Q hu hs hv hw hd
    exact .inr ⟨wanted_not rfl (Deps.at 17 hd (by kernel_rfl) : slotOf _ T 17 = .bool (!true)), rfl⟩
  · intro T w Q hu hs hv hw hd
    exact .inr ⟨wanted_not rfl (Deps.at 17 hd (by kernel_rfl) : slotOf _ T 17 = .bool (!true)), rfl⟩
  · intro T w Q hu hs hv hw hd
    exact .inr ⟨wanted_not rfl (Deps.at 17 hd (by kernel_rfl) : slotOf _ T 17 = .bool (!true)), rfl⟩
  · intro T w Q hu hs hv hw hd
    exact .inr ⟨wanted_not rfl (Deps.at 17 hd (by kernel_rfl) : slotOf _ T 17 = .bool (!true)), rfl⟩
  · intro T w Q hu hs hv hw hd
    exact .inr ⟨wanted_not rfl (Deps.at 17 hd (by kernel_rfl) : slotOf _ T 17 = .bool (!true)), rfl⟩
  · intro T w Q hu hs hv hw hd
    exact .inr ⟨wanted_not rfl (Deps.at 17 hd (by kernel_rfl) : slotOf _ T 17 = .bool (!true)), rfl⟩
  · intro T w Q hu hs hv hw hd
    exact .inr ⟨wanted_not rfl (Deps.at 17 hd (by kernel_rfl) : slotOf _ T 17 = .bool (!true)), rfl⟩
  · intro T w Q hu hs hv hw hd
    exact .inr ⟨wanted_not rfl (Deps.at 17 hd (by kernel_rfl) : slotOf _ T 17 = .bool (!true)), rfl⟩
  · intro T w Q hu hs hv hw hd
    exact .inr ⟨wanted_not rfl (Deps.at 17 hd (by kernel_rfl) : slotOf _ T 17 = .bool (!true)), rfl⟩
  · intro T w Q hu hs hv hw hd
    exact .inr ⟨wanted_not rfl (Deps.at 17 hd (by kernel_rfl) : slotOf _ T 17 = .bool (!true)), rfl⟩
  · intro T w Q hu hs hv hw hd
    exact .inr ⟨wanted_not rfl (Deps.at 17 hd (by kernel_rfl) : slotOf _ T 17 = .bool (!true)), rfl⟩
  · intro T w Q hu hs hv hw hd
    exact .inr ⟨wanted_not rfl (Deps.at 17 hd (by kernel_rfl) : slotOf _ T 17 = .bool (!true)), rfl⟩
  · intro T w Q hu hs hv hw hd
    have hx22 : T.getD 22 undef = (Value.bool false) := Deps.at 17 hd (by kernel_rfl)
    have hx34 : T.getD 34 undef = undef := Deps.at 29 hd (by kernel_rfl)
    refine .inl ⟨wanted_none rfl, ?_⟩
    clear hd hv hu hs hw
    go_simp
    exact ⟨_, rfl, DstOk.some rfl, Below.refl _ _, rfl⟩
  · intro T w Q hu hs hv hw hd
    have hx35 : T.getD 35 undef = (Value.bool false) := Deps.at 30 hd (by kernel_rfl)
    refine .inl ⟨wanted_none rfl, ?_⟩
    clear hd hv hu hs hw
    go_simp
    exact ⟨_, rfl, DstOk.some rfl, Below.refl _ _, rfl⟩
  · intro T w Q hu hs hv hw hd
    exact .inr ⟨wanted_not rfl (Deps.at 31 hd (by kernel_rfl) : slotOf _ T 31 = .bool (!true)), rfl⟩
  · intro T w Q hu hs hv hw hd
    exact .inr ⟨wanted_not rfl (Deps.at 31 hd (by kernel_rfl) : slotOf _ T 31 = .bool (!true)), rfl⟩
  · intro T w Q hu hs hv hw hd
    exact .inr ⟨wanted_not rfl (Deps.at 31 hd (by kernel_rfl) : slotOf _ T 31 = .bool (!true)), rfl⟩
  · intro T w Q hu hs hv hw hd
    exact .inr ⟨wanted_not rfl (Deps.at 31 hd (by kernel_rfl) : slotOf _ T 31 = .bool (!true)), rfl⟩
  · intro T w Q hu hs hv hw hd
    exact .inr ⟨wanted_not rfl (Deps.at 31 hd (by kernel_rfl) : slotOf _ T 31 = .bool (!true)), rfl⟩
  · intro T w Q hu hs hv hw hd
    exact .inr ⟨wanted_not rfl (Deps.at 31 hd (by kernel_rfl) : slotOf _ T 31 = .bool (!true)), rfl⟩
  · intro T w Q hu hs hv hw hd
    exact .inr ⟨wanted_not rfl (Deps.at 31 hd (by kernel_rfl) : slotOf _ T 31 = .bool (!true)), rfl⟩
  · intro T w Q hu hs hv hw hd
    exact .inr ⟨wanted_not rfl (Deps.at 31 hd (by kernel_rfl) : slotOf _ T 31 = .bool (!true)), rfl⟩
  · intro T w Q hu hs hv hw hd
    exact .inr ⟨wanted_not rfl (Deps.at 31 hd (by kernel_rfl) : slotOf _ T 31 = .bool (!true)), rfl⟩
  · intro T w Q hu hs hv hw hd
    exact .inr ⟨wanted_not rfl (Deps.at 31 hd (by kernel_rfl) : slotOf _ T 31 = .bool (!true)), rfl⟩
  · intro T w Q hu hs hv hw hd
    exact .inr ⟨wanted_not rfl (Deps.at 31 hd (by kernel_rfl) : slotOf _ T 31 = .bool (!true)), rfl⟩
  · intro T w Q hu hs hv hw hd
    exact .inr ⟨wanted_not rfl (Deps.at 31 hd (by kernel_rfl) : slotOf _ T 31 = .bool (!true)), rfl⟩
  · intro T w Q hu hs hv hw hd
    exact .inr ⟨wanted_not rfl (Deps.at 31 hd (by kernel_rfl) : slotOf _ T 31 = .bool (!true)), rfl⟩
  · intro T w Q hu hs hv hw hd
    have hx36 : T.getD 36 undef = (Value.bool false) := Deps.at 31 hd (by kernel_rfl)
    have hx49 : T.getD 49 undef = undef := Deps.at 44 hd (by kernel_rfl)
    refine .inl ⟨wanted_none rfl, ?_⟩
    clear hd hv hu hs hw
    go_simp
    exact ⟨_, rfl, DstOk.some rfl, Below.refl _ _, rfl⟩
  · intro T w Q hu hs hv hw hd
    have hx50 : T.getD 50 undef = (Value.bool false) := Deps.at 45 hd (by kernel_rfl)
    refine .inl ⟨wanted_none rfl, ?_⟩
    clear hd hv hu hs hw
    go_simp
    exact ⟨_, rfl, DstOk.some rfl, Below.refl _ _, rfl⟩
  intro T w hu hs hv hf hcur
  have hT : T = #[T.getD 0 undef, T.getD 1 undef, T.getD 2 undef, T.getD 3 undef, T.getD 4 undef, T.getD 5 undef, T.getD 6 undef, T.getD 7 undef, T.getD 8 undef, T.getD 9 undef, T.getD 10 undef, T.getD 11 undef, T.getD 12 undef, T.getD 13 undef, T.getD 14 undef, T.getD 15 undef, T.getD 16 undef, T.getD 17 undef, T.getD 18 undef, T.getD 19 undef, T.getD 20 undef, T.getD 21 undef, T.getD 22 undef, T.getD 23 undef, T.getD 24 undef, T.getD 25 undef, T.getD 26 undef, T.getD 27 undef, T.getD 28 undef, T.getD 29 undef, T.getD 30 undef, T.getD 31 undef, T.getD 32 undef, T.getD 33 undef, T.getD 34 undef, T.getD 35 undef, T.getD 36 undef, T.getD 37 undef, T.getD 38 undef, T.getD 39 undef, T.getD 40 undef, T.getD 41 undef, T.getD 42 undef, T.getD 43 undef, T.getD 44 undef, T.getD 45 undef, T.getD 46 undef, T.getD 47 undef, T.getD 48 undef, T.getD 49 undef, T.getD 50 undef] := expl hs
  rw [hT]
  clear hT
  rw [show T.getD 0 undef = (.pointer (some ⟨p, 0, none⟩)) from hv 0 (by kernel_rfl)]
  rw [show T.getD 1 undef = (.string (strB x)) from hv 1 (by kernel_rfl)]
  rw [hv 2 (by kernel_rfl)]
  rw [hv 3 (by kernel_rfl)]
  rw [show T.getD 4 undef = (Value.bool false) from hf 46 (by decide)]
  rw [show T.getD 5 undef = (.pointer (some ⟨p, 0, none⟩)) from hf 0 (by decide)]
  rw [show T.getD 6 undef = (.pointer (some ⟨p, 0, none⟩)) from hf 1 (by decide)]
  rw [show T.getD 7 undef = (.pointer (some ⟨p, 3, none⟩)) from hf 2 (by decide)]
  rw [show T.getD 8 undef = (.int .i64 e) from hf 3 (by decide)]
  rw [show T.getD 9 undef = (.bool false) from hf 4 (by decide)]
  rw [show T.getD 10 undef = (.bool false) from hf 5 (by decide)]
  rw [show T.getD 11 undef = undef from hf 6 (by decide)]
  rw [show T.getD 12 undef = undef from hf 7 (by decide)]
  rw [show T.getD 13 undef = undef from hf 8 (by decide)]
  rw [show T.getD 14 undef = undef from hf 9 (by decide)]
  rw [show T.getD 15 undef = undef from hf 10 (by decide)]
  rw [show T.getD 16 undef = undef from hf 11 (by decide)]
  rw [show T.getD 17 undef = undef from hf 12 (by decide)]
  rw [show T.getD 18 undef = undef from hf 13 (by decide)]
  rw [show T.getD 19 undef = undef from hf 14 (by decide)]
  rw [show T.getD 20 undef = undef from hf 15 (by decide)]
  rw [show T.getD 21 undef = (Value.bool false) from hf 16 (by decide)]
  rw [show T.getD 22 undef = (Value.bool false) from hf 17 (by decide)]
  rw [show T.getD 23 undef = undef from hf 18 (by decide)]
  rw [show T.getD 24 undef = undef from hf 19 (by decide)]
  rw [show T.getD 25 undef = undef from hf 20 (by decide)]
  rw [show T.getD 26 undef = undef from hf 21 (by decide)]
  rw [show T.getD 27 undef = undef from hf 22 (by decide)]
  rw [show T.getD 28 undef = undef from hf 23 (by decide)]
  rw [show T.getD 29 undef = undef from hf 24 (by decide)]
  rw [show T.getD 30 undef = undef from hf 25 (by decide)]
  rw [show T.getD 31 undef = undef from hf 26 (by decide)]
  rw [show T.getD 32 undef = undef from hf 27 (by decide)]
  rw [show T.getD 33 undef = undef from hf 28 (by decide)]
  rw [show T.getD 34 undef = undef from hf 29 (by decide)]
  rw [show T.getD 35 undef = (Value.bool false) from hf 30 (by decide)]
  rw [show T.getD 36 undef = (Value.bool false) from hf 31 (by decide)]
  rw [show T.getD 37 undef = undef from hf 32 (by decide)]
  rw [show T.getD 38 undef = undef from hf 33 (by decide)]
  rw [show T.getD 39 undef = undef from hf 34 (by decide)]
  rw [show T.getD 40 undef = undef from hf 35 (by decide)]
  rw [show T.getD 41 undef = undef from hf 36 (by decide)]
  rw [show T.getD 42 undef = undef from hf 37 (by decide)]
  rw [show T.getD 43 undef = undef from hf 38 (by decide)]
  rw [show T.getD 44 undef = undef from hf 39 (by decide)]
  rw [show T.getD 45 undef = undef from hf 40 (by decide)]
  rw [show T.getD 46 undef = undef from hf 41 (by decide)]
  rw [show T.getD 47 undef = undef from hf 42 (by decide)]
  rw [show T.getD 48 undef = undef from hf 43 (by decide)]
  rw [show T.getD 49 undef = undef from hf 44 (by decide)]
  rw [show T.getD 50 undef = (Value.bool false) from hf 45 (by decide)]
  clear hf hs hv hcur
  simp only [getD_toArray, List.getD_cons_succ, List.getD_cons_zero]
  clear T
  have hb9 := hide (hu.below (Nat.le_refl _) fun _ h => h.elim)
  clear hu
  go_wp2_with fail
  go_ret
  exact ⟨rfl, hb9.out⟩
set_option maxRecDepth 100000 in
set_option maxHeartbeats 1600000 in
theorem is_end (x : List UInt8) (p : Nat) (w : World) (a d n i : Nat) (C : Cx) (h : RfW w p C i 0 a d n) (hl : ¬ i < C.ts.length) :
    Calls Tryd.prog 27 #[.pointer (some ⟨p, 0, none⟩), .string (strB x)] w fun r w' => r = .returned (.bool false) ∧ Below w.heap.size w w' := by
  have hh := h.heap
  obtain ⟨A, c, hA, hm⟩ := h.row.slice
  have hrow := h.row
  rw [hA] at hh hrow
  generalize hN : C.ts.length = N at *
  have c0 := cell_at hh 0
  have c1 := cell_at hh 1
  have c3 := cell_at hh 3
  simp at c0 c1 c3
  have hlt : ¬ (i : Int) < (N : Int) := by omega
  replace hlt := hide hlt
  clear hl
  replace c0 := hide c0
  replace c1 := hide c1
  replace c3 := hide c3
  clear hh hrow hm hA h hN
  go_enter Tryd.func27, Tryd.ntmps27
  go_wp2_with fail
  refine wp_region_flow (fun _ => False) (factAt [(fun v _ => v = (.pointer (some ⟨p, 0, none⟩))), (fun v _ => v = (.pointer (some ⟨p, 0, none⟩))), (fun v _ => v = (.pointer (some ⟨p, 3, none⟩))), (fun v _ => v = (.int .i64 0)), (fun v _ => v = (.bool true)), (fun v _ => v = (.bool true)), (fun v _ => v = (.pointer (some ⟨p, 0, none⟩))), (fun v _ => v = (.pointer (some ⟨p, 0, none⟩))), (fun v _ => v = (.pointer (some ⟨p, 1, none⟩))), (fun v _ => v = (.int .i64 i)), (fun v _ => v = (.pointer (some ⟨p, 0, none⟩))), (fun v _ => v = (.pointer (some ⟨p, 0, none⟩))), (fun v _ => v = (.pointer (some ⟨p, 0, none⟩))), (fun v _ => v = (.slice A N c)), (fun v _ => v = (.int .i64 N)), (fun v _ => v = (.bool false)), (fun v _ => v = (.bool false)), (fun v _ => v = (.bool false)), (fun v _ => v = undef), (fun v _ => v = undef), (fun v _ => v = undef), (fun v _ => v = undef), (fun v _ => v = undef), (fun v _ => v = undef), (fun v _ => v = undef), (fun v _ => v = undef), (fun v _ => v = undef), (fun v _ => v = undef), (fun v _ => v = undef), (fun v _ => v = undef), (fun v _ => v = (Value.bool false)), (fun v _ => v = (Value.bool false)), (fun v _ => v = undef), (fun v _ => v = undef), (fun v _ => v = undef), (fun v _ => v = undef), (fun v _ => v = undef), (fun v _ => v = undef), (fun v _ => v = undef), (fun v _ => v = undef), (fun v _ => v = undef), (fun v _ => v = undef), (fun v _ => v = undef), (fun v _ => v = undef), (fun v _ => v = undef), (fun v _ => v = (Value.bool false)), (fun v _ => v = (Value.bool false))]) [] (fun _ => True) (by kernel_rfl) (fkept_at ⟨FKept.eq _, FKept.eq _, FKept.eq _, FKept.eq _, FKept.eq _, FKept.eq _, FKept.eq _, FKept.eq _, FKept.eq _, FKept.eq _, FKept.eq _, FKept.eq _, FKept.eq _, FKept.eq _, FKept.eq _, FKept.eq _, FKept.eq _, FKept.eq _, FKept.eq _, FKept.eq _, FKept.eq _, FKept.eq _, FKept.eq _, FKept.eq _, FKept.eq _, FKept.eq _, FKept.eq _, FKept.eq _, FKept.eq _, FKept.eq _, FKept.eq _, FKept.eq _, FKept.eq _, FKept.eq _, FKept.eq _, FKept.eq _, FKept.eq _, FKept.eq _, FKept.eq _, FKept.eq _, FKept.eq _, FKept.eq _, FKept.eq _, FKept.eq _, FKept.eq _, FKept.eq _, FKept.eq _, trivial⟩) (fun _ _ h _ => h) trivial (by kernel_rfl) (by kernel_rfl) (by kernel_rfl) (by kernel_rfl) (Nat.le_of_ble_eq_true (by kernel_rfl)) ?_ ⟨?_, ?_, ?_, ?_, ?_, ?_, ?_, ?_, ?_, ?_, ?_, ?_, ?_, ?_, ?_, ?_, ?_, ?_, ?_, ?_, ?_, ?_, ?_, ?_, ?_, ?_, ?_, ?_, ?_, ?_, ?_, ?_, ?_, ?_, ?_, ?_, ?_, ?_, ?_, ?_, ?_, ?_, ?_, ?_, ?_, ?_, ?_, trivial⟩ ?_
  · first | exact trivial | assumption
  · intro T w Q hu hs hv hw hd
    have hx0 : T.getD 0 undef = (.pointer (some ⟨p, 0, none⟩)) := hv 0 (by kernel_rfl)
    refine .inl ⟨wanted_none rfl, ?_⟩
    clear hd hv hu hs hw
    go_simp
    exact ⟨_, rfl, DstOk.some rfl, Below.refl _ _, rfl⟩
  · intro T w Q hu hs hv hw hd
    have hx5 : T.getD 5 undef = (.pointer (some ⟨p, 0, none⟩)) := Deps.at 0 hd (by kernel_rfl)
    refine .inl ⟨wanted_none rfl, ?_⟩
    clear hd hv hu hs hw
    go_simp
    exact ⟨_, rfl, DstOk.some rfl, Below.refl _ _, rfl⟩
  · intro T w Q hu hs hv hw hd
    have hx6 : T.getD 6 undef = (.pointer (some ⟨p, 0, none⟩)) := Deps.at 1 hd (by kernel_rfl)
    refine .inl ⟨wanted_none rfl, ?_⟩
    clear hd hv hu hs hw
    go_simp
    exact ⟨_, rfl, DstOk.some rfl, Below.refl _ _, rfl⟩
  · intro T w Q hu hs hv hw hd
    have hx7 : T.getD 7 undef = (.pointer (some ⟨p, 3, none⟩)) := Deps.at 2 hd (by kernel_rfl)
    refine .inl ⟨wanted_none rfl, ?_⟩
    have hq := hu.cell c3.out id
    clear hd hv hu hs hw
    go_simp
    exact ⟨_, rfl, DstOk.some rfl, Below.refl _ _, rfl⟩
  · intro T w Q hu hs hv hw hd
    have hx8 : T.getD 8 undef = (.int .i64 0) := Deps.at 3 hd (by kernel_rfl)
    refine .inl ⟨wanted_none rfl, ?_⟩
    clear hd hv hu hs hw
    go_simp
    exact ⟨_, rfl, DstOk.some rfl, Below.refl _ _, by first | rfl | exact congrArg Value.bool (by first | (simp only [decide_eq_true_eq, decide_eq_false_iff_not]; omega) | (simp; exact eq_of_beq a0) | (simp; exact ne_of_beq_false a0) | simp [a0] | simp_all)⟩
  · intro T w Q hu hs hv hw hd
    have hx9 : T.getD 9 undef = (.bool true) := Deps.at 4 hd (by kernel_rfl)
    refine .inl ⟨wanted_none rfl, ?_⟩
    clear hd hv hu hs hw
    go_simp
    exact ⟨_, rfl, DstOk.some rfl, Below.refl _ _, rfl⟩
  · intro T w Q hu hs hv hw hd
    have hx0 : T.getD 0 undef = (.pointer (some ⟨p, 0, none⟩)) := hv 0 (by kernel_rfl)
    refine .inl ⟨wanted_some rfl (Deps.at 5 hd (by kernel_rfl) : slotOf _ T 5 = .bool true), ?_⟩
    clear hd hv hu hs hw
    go_simp
    exact ⟨_, rfl, DstOk.some rfl, Below.refl _ _, rfl⟩
  · intro T w Q hu hs hv hw hd
    have hx11 : T.getD 11 undef = (.pointer (some ⟨p, 0, none⟩)) := Deps.at 6 hd (by kernel_rfl)
    refine .inl ⟨wanted_some rfl (Deps.at 5 hd (by kernel_rfl) : slotOf _ T 5 = .bool true), ?_⟩
    clear hd hv hu hs hw
    go_simp
    exact ⟨_, rfl, DstOk.some rfl, Below.refl _ _, rfl⟩
  · intro T w Q hu hs hv hw hd
    have hx12 : T.getD 12 undef = (.pointer (some ⟨p, 0, none⟩)) := Deps.at 7 hd (by kernel_rfl)
    refine .inl ⟨wanted_some rfl (Deps.at 5 hd (by kernel_rfl) : slotOf _ T 5 = .bool true), ?_⟩
    clear hd hv hu hs hw
    go_simp
    exact ⟨_, rfl, DstOk.some rfl, Below.refl _ _, rfl⟩
  · intro T w Q hu hs hv hw hd
    have hx13 : T.getD 13 undef = (.pointer (some ⟨p, 1, none⟩)) := Deps.at 8 hd (by kernel_rfl)
    refine .inl ⟨wanted_some rfl (Deps.at 5 hd (by kernel_rfl) : slotOf _ T 5 = .bool true), ?_⟩
    have hq := hu.cell c1.out id
    clear hd hv hu hs hw
    go_simp
    exact ⟨_, rfl, DstOk.some rfl, Below.refl _ _, rfl⟩
  · intro T w Q hu hs hv hw hd
    have hx0 : T.getD 0 undef = (.pointer (some ⟨p, 0, none⟩)) := hv 0 (by kernel_rfl)
    refine .inl ⟨wanted_some rfl (Deps.at 5 hd (by kernel_rfl) : slotOf _ T 5 = .bool true), ?_⟩
    clear hd hv hu hs hw
    go_simp
    exact ⟨_, rfl, DstOk.some rfl, Below.refl _ _, rfl⟩
  · intro T w Q hu hs hv hw hd
    have hx15 : T.getD 15 undef = (.pointer (some ⟨p, 0, none⟩)) := Deps.at 10 hd (by kernel_rfl)
    refine .inl ⟨wanted_some rfl (Deps.at 5 hd (by kernel_rfl) : slotOf _ T 5 = .bool true), ?_⟩
    clear hd hv hu hs hw
    go_simp
    exact ⟨_, rfl, DstOk.some rfl, Below.refl _ _, rfl⟩
  · intro T w Q hu hs hv hw hd
    have hx16 : T.getD 16 undef = (.pointer (some ⟨p, 0, none⟩)) := Deps.at 11 hd (by kernel_rfl)
    refine .inl ⟨wanted_some rfl (Deps.at 5 hd (by kernel_rfl) : slotOf _ T 5 = .bool true), ?_⟩
    clear hd hv hu hs hw
    go_simp
    exact ⟨_, rfl, DstOk.some rfl, Below.refl _ _, rfl⟩
  · intro T w Q hu hs hv hw hd
    have hx17 : T.getD 17 undef = (.pointer (some ⟨p, 0, none⟩)) := Deps.at 12 hd (by kernel_rfl)
    refine .inl ⟨wanted_some rfl (Deps.at 5 hd (by kernel_rfl) : slotOf _ T 5 = .bool true), ?_⟩
    have hq := hu.cell c0.out id
    clear hd hv hu hs hw
    go_simp
    exact ⟨_, rfl, DstOk.some rfl, Below.refl _ _, rfl⟩
  · intro T w Q hu hs hv hw hd
    have hx18 : T.getD 18 undef = (.slice A N c) := Deps.at 13 hd (by kernel_rfl)
    refine .inl ⟨wanted_some rfl (Deps.at 5 hd (by kernel_rfl) : slotOf _ T 5 = .bool true), ?_⟩
    clear hd hv hu hs hw
    go_simp
    exact ⟨_, rfl, DstOk.some rfl, Below.refl _ _, rfl⟩
  · intro T w Q hu hs hv hw hd
    have hx14 : T.getD 14 undef = (.int .i64 i) := Deps.at 9 hd (by kernel_rfl)
    have hx19 : T.getD 19 undef = (.int .i64 N) := Deps.at 14 hd (by kernel_rfl)
    refine .inl ⟨wanted_some rfl (Deps.at 5 hd (by kernel_rfl) : slotOf _ T 5 = .bool true), ?_⟩
    have a0 := hlt.out
    clear hd hv hu hs hw
    go_simp
    exact ⟨_, rfl, DstOk.some rfl, Below.refl _ _, by first | rfl | exact congrArg Value.bool (by first | (simp only [decide_eq_true_eq, decide_eq_false_iff_not]; omega) | (simp; exact eq_of_beq a0) | (simp; exact ne_of_beq_false a0) | simp [a0] | simp_all)⟩
  · intro T w Q hu hs hv hw hd
    have hx10 : T.getD 10 undef = (.bool true) := Deps.at 5 hd (by kernel_rfl)
    have hx20 : T.getD 20 undef = (.bool false) := Deps.at 15 hd (by kernel_rfl)
    refine .inl ⟨wanted_none rfl, ?_⟩
    clear hd hv hu hs hw
    go_simp
    exact ⟨_, rfl, DstOk.some rfl, Below.refl _ _, rfl⟩
  · intro T w Q hu hs hv hw hd
    have hx21 : T.getD 21 undef = (.bool false) := Deps.at 16 hd (by kernel_rfl)
    refine .inl ⟨wanted_none rfl, ?_⟩
    clear hd hv hu hs hw
    go_simp
    exact ⟨_, rfl, DstOk.some rfl, Below.refl _ _, rfl⟩
  · intro T w Q hu hs hv hw hd
    exact .inr ⟨wanted_not rfl (Deps.at 17 hd (by kernel_rfl) : slotOf _ T 17 = .bool (!true)), rfl⟩
  · intro T w Q hu hs hv hw hd
    exact .inr ⟨wanted_not rfl (Deps.at 17 hd (by kernel_rfl) : slotOf _ T 17 = .bool (!true)), rfl⟩
  · intro T w Q hu hs hv hw hd
    exact .inr ⟨wanted_not rfl (Deps.at 17 hd (by kernel_rfl) : slotOf _ T 17 = .bool (!true)), rfl⟩
  · intro T w Q hu hs hv hw hd
    exact .inr ⟨wanted_not rfl (Deps.at 17 hd (by kernel_rfl) : slotOf _ T 17 = .bool (!true)), rfl⟩
  · intro T w Q hu hs hv hw hd
    exact .inr ⟨wanted_not rfl (Deps.at 17 hd (by kernel_rfl) : slotOf _ T 17 = .bool (!true)), rfl⟩
  · intro T w Q hu hs hv hw hd
    exact .inr ⟨wanted_not rfl (Deps.at 17 hd (by kernel_rfl) : slotOf _ T 17 = .bool (!true)), rfl⟩
  · intro T w Q hu hs hv hw hd
    exact .inr ⟨wanted_not rfl (Deps.at 17 hd (by kernel_rfl) : slotOf _ T 17 = .bool (!true)), rfl⟩
  · intro T w Q hu hs hv hw hd
    exact .inr ⟨wanted_not rfl (Deps.at 17 hd (by kernel_rfl) : slotOf _ T 17 = .bool (!true)), rfl⟩
  · intro T w Q hu hs hv hw hd
    exact .inr ⟨wanted_not rfl (Deps.at 17 hd (by kernel_rfl) : slotOf _ T 17 = .bool (!true)), rfl⟩
  · intro T w Q hu hs hv hw hd
    exact .inr ⟨wanted_not rfl (Deps.at 17 hd (by kernel_rfl) : slotOf _ T 17 = .bool (!true)), rfl⟩
  · intro T w Q hu hs hv hw hd
    exact .inr ⟨wanted_not rfl (Deps.at 17 hd (by kernel_rfl) : slotOf _ T 17 = .bool (!true)), rfl⟩
  · intro T w Q hu hs hv hw hd
    exact .inr ⟨wanted_not rfl (Deps.at 17 hd (by kernel_rfl) : slotOf _ T 17 = .bool (!true)), rfl⟩
  · intro T w Q hu hs hv hw hd
    have hx22 : T.getD 22 undef = (.bool false) := Deps.at 17 hd (by kernel_rfl)
    have hx34 : T.getD 34 undef = undef := Deps.at 29 hd (by kernel_rfl)
    refine .inl ⟨wanted_none rfl, ?_⟩
    clear hd hv hu hs hw
    go_simp
    exact ⟨_, rfl, DstOk.some rfl, Below.refl _ _, rfl⟩
  · intro T w Q hu hs hv hw hd
    have hx35 : T.getD 35 undef = (Value.bool false) := Deps.at 30 hd (by kernel_rfl)
    refine .inl ⟨wanted_none rfl, ?_⟩
    clear hd hv hu hs hw
    go_simp
    exact ⟨_, rfl, DstOk.some rfl, Below.refl _ _, rfl⟩
  · intro T w Q hu hs hv hw hd
    exact .inr ⟨wanted_not rfl (Deps.at 31 hd (by kernel_rfl) : slotOf _ T 31 = .bool (!true)), rfl⟩
  · intro T w Q hu hs hv hw hd
    exact .inr ⟨wanted_not rfl (Deps.at 31 hd (by kernel_rfl) : slotOf _ T 31 = .bool (!true)), rfl⟩
  · intro T w Q hu hs hv hw hd
    exact .inr ⟨wanted_not rfl (Deps.at 31 hd (by kernel_rfl) : slotOf _ T 31 = .bool (!true)), rfl⟩
  · intro T w Q hu hs hv hw hd
    exact .inr ⟨wanted_not rfl (Deps.at 31 hd (by kernel_rfl) : slotOf _ T 31 = .bool (!true)), rfl⟩
  · intro T w Q hu hs hv hw hd
    exact .inr ⟨wanted_not rfl (Deps.at 31 hd (by kernel_rfl) : slotOf _ T 31 = .bool (!true)), rfl⟩
  · intro T w Q hu hs hv hw hd
    exact .inr ⟨wanted_not rfl (Deps.at 31 hd (by kernel_rfl) : slotOf _ T 31 = .bool (!true)), rfl⟩
  · intro T w Q hu hs hv hw hd
    exact .inr ⟨wanted_not rfl (Deps.at 31 hd (by kernel_rfl) : slotOf _ T 31 = .bool (!true)), rfl⟩
  · intro T w Q hu hs hv hw hd
    exact .inr ⟨wanted_not rfl (Deps.at 31 hd (by kernel_rfl) : slotOf _ T 31 = .bool (!true)), rfl⟩
  · intro T w Q hu hs hv hw hd
    exact .inr ⟨wanted_not rfl (Deps.at 31 hd (by kernel_rfl) : slotOf _ T 31 = .bool (!true)), rfl⟩
  · intro T w Q hu hs hv hw hd
    exact .inr ⟨wanted_not rfl (Deps.at 31 hd (by kernel_rfl) : slotOf _ T 31 = .bool (!true)), rfl⟩
  · intro T w Q hu hs hv hw hd
    exact .inr ⟨wanted_not rfl (Deps.at 31 hd (by kernel_rfl) : slotOf _ T 31 = .bool (!true)), rfl⟩
  · intro T w Q hu hs hv hw hd
    exact .inr ⟨wanted_not rfl (Deps.at 31 hd (by kernel_rfl) : slotOf _ T 31 = .bool (!true)), rfl⟩
  · intro T w Q hu hs hv hw hd
    exact .inr ⟨wanted_not rfl (Deps.at 31 hd (by kernel_rfl) : slotOf _ T 31 = .bool (!true)), rfl⟩
  · intro T w Q hu hs hv hw hd
    have hx36 : T.getD 36 undef = (Value.bool false) := Deps.at 31 hd (by kernel_rfl)
    have hx49 : T.getD 49 undef = undef := Deps.at 44 hd (by kernel_rfl)
    refine .inl ⟨wanted_none rfl, ?_⟩
    clear hd hv hu hs hw
    go_simp
    exact ⟨_, rfl, DstOk.some rfl, Below.refl _ _, rfl⟩
  · intro T w Q hu hs hv hw hd
    have hx50 : T.getD 50 undef = (Value.bool false) := Deps.at 45 hd (by kernel_rfl)
    refine .inl ⟨wanted_none rfl, ?_⟩
    clear hd hv hu hs hw
    go_simp
    exact ⟨_, rfl, DstOk.some rfl, Below.refl _ _, rfl⟩
  intro T w hu hs hv hf hcur
  have hT : T = #[T.getD 0 undef, T.getD 1 undef, T.getD 2 undef, T.getD 3 undef, T.getD 4 undef, T.getD 5 undef, T.getD 6 undef, T.getD 7 undef, T.getD 8 undef, T.getD 9 undef, T.getD 10 undef, T.getD 11 undef, T.getD 12 undef, T.getD 13 undef, T.getD 14 undef, T.getD 15 undef, T.getD 16 undef, T.getD 17 undef, T.getD 18 undef, T.getD 19 undef, T.getD 20 undef, T.getD 21 undef, T.getD 22 undef, T.getD 23 undef, T.getD 24 undef, T.getD 25 undef, T.getD 26 undef, T.getD 27 undef, T.getD 28 undef, T.getD 29 undef, T.getD 30 undef, T.getD 31 undef, T.getD 32 undef, T.getD 33 undef, T.getD 34 undef, T.getD 35 undef, T.getD 36 undef, T.getD 37 undef, T.getD 38 undef, T.getD 39 undef, T.getD 40 undef, T.getD 41 undef, T.getD 42 undef, T.getD 43 undef, T.getD 44 undef, T.getD 45 undef, T.getD 46 undef, T.getD 47 undef, T.getD 48 undef, T.getD 49 undef, T.getD 50 undef] := expl hs
  rw [hT]
  clear hT
  rw [show T.getD 0 undef = (.pointer (some ⟨p, 0, none⟩)) from hv 0 (by kernel_rfl)]
  rw [show T.getD 1 undef = (.string (strB x)) from hv 1 (by kernel_rfl)]
  rw [hv 2 (by kernel_rfl)]
  rw [hv 3 (by kernel_rfl)]
  rw [show T.getD 4 undef = (Value.bool false) from hf 46 (by decide)]
  rw [show T.getD 5 undef = (.pointer (some ⟨p, 0, none⟩)) from hf 0 (by decide)]
  rw [show T.getD 6 undef = (.pointer (some ⟨p, 0, none⟩)) from hf 1 (by decide)]
  rw [show T.getD 7 undef = (.pointer (some ⟨p, 3, none⟩)) from hf 2 (by decide)]
  rw [show T.getD 8 undef = (.int .i64 0) from hf 3 (by decide)]
  rw [show T.getD 9 undef = (.bool true) from hf 4 (by decide)]
  rw [show T.getD 10 undef = (.bool true) from hf 5 (by decide)]
  rw [show T.getD 11 undef = (.pointer (some ⟨p, 0, none⟩)) from hf 6 (by decide)]
  rw [show T.getD 12 undef = (.pointer (some ⟨p, 0, none⟩)) from hf 7 (by decide)]
  rw [show T.getD 13 undef = (.pointer (some ⟨p, 1, none⟩)) from hf 8 (by decide)]
  rw [show T.getD 14 undef = (.int .i64 i) from hf 9 (by decide)]
  rw [show T.getD 15 undef = (.pointer (some ⟨p, 0, none⟩)) from hf 10 (by decide)]
  rw [show T.getD 16 undef = (.pointer (some ⟨p, 0, none⟩)) from hf 11 (by decide)]
  rw [show T.getD 17 undef = (.pointer (some ⟨p, 0, none⟩)) from hf 12 (by decide)]
  rw [show T.getD 18 undef = (.slice A N c) from hf 13 (by decide)]
  rw [show T.getD 19 undef = (.int .i64 N) from hf 14 (by decide)]
  rw [show T.getD 20 undef = (.bool false) from hf 15 (by decide)]
  rw [show T.getD 21 undef = (.bool false) from hf 16 (by decide)]
  rw [show T.getD 22 undef = (.bool false) from hf 17 (by decide)]
  rw [show T.getD 23 undef = undef from hf 18 (by decide)]
  rw [show T.getD 24 undef = undef from hf 19 (by decide)]
  rw [show T.getD 25 undef = undef from hf 20 (by decide)]
  rw [show T.getD 26 undef = undef from hf 21 (by decide)]
  rw [show T.getD 27 undef = undef from hf 22 (by decide)]
  rw [show T.getD 28 undef = undef from hf 23 (by decide)]
  rw [show T.getD 29 undef = undef from hf 24 (by decide)]
  rw [show T.getD 30 undef = undef from hf 25 (by decide)]
  rw [show T.getD 31 undef = undef from hf 26 (by decide)]
  rw [show T.getD 32 undef = undef from hf 27 (by decide)]
  rw [show T.getD 33 undef = undef from hf 28 (by decide)]
  rw [show T.getD 34 undef = undef from hf 29 (by decide)]
  rw [show T.getD 35 undef = (Value.bool false) from hf 30 (by decide)]
  rw [show T.getD 36 undef = (Value.bool false) from hf 31 (by decide)]
  rw [show T.getD 37 undef = undef from hf 32 (by decide)]
  rw [show T.getD 38 undef = undef from hf 33 (by decide)]
  rw [show T.getD 39 undef = undef from hf 34 (by decide)]
  rw [show T.getD 40 undef = undef from hf 35 (by decide)]
  rw [show T.getD 41 undef = undef from hf 36 (by decide)]
  rw [show T.getD 42 undef = undef from hf 37 (by decide)]
  rw [show T.getD 43 undef = undef from hf 38 (by decide)]
  rw [show T.getD 44 undef = undef from hf 39 (by decide)]
  rw [show T.getD 45 undef = undef from hf 40 (by decide)]
  rw [show T.getD 46 undef = undef from hf 41 (by decide)]
  rw [show T.getD 47 undef = undef from hf 42 (by decide)]
  rw [show T.getD 48 undef = undef from hf 43 (by decide)]
  rw [show T.getD 49 undef = undef from hf 44 (by decide)]
  rw [show T.getD 50 undef = (Value.bool false) from hf 45 (by decide)]
  clear hf hs hv hcur
  simp only [getD_toArray, List.getD_cons_succ, List.getD_cons_zero]
  clear T
  have hb9 := hide (hu.below (Nat.le_refl _) fun _ h => h.elim)
  clear hu
  go_wp2_with fail
  go_ret
  exact ⟨rfl, hb9.out⟩
set_option maxRecDepth 100000 in
set_option maxHeartbeats 1600000 in
theorem is_num (x : List UInt8) (p : Nat) (w : World) (a d n i : Nat) (C : Cx) (h : RfW w p C i 0 a d n) (t : Tok) (ht : C.ts[i]? = some t) (hk1 : t.kind = 1) :
    Calls Tryd.prog 27 #[.pointer (some ⟨p, 0, none⟩), .string (strB x)] w fun r w' => r = .returned (.bool false) ∧ Below w.heap.size w w' := by
  have hh := h.heap
  obtain ⟨A, c, hA, hm⟩ := h.row.slice
  have hrow := h.row
  rw [hA] at hh hrow
  generalize hN : C.ts.length = N at *
  have c0 := cell_at hh 0
  have c1 := cell_at hh 1
  have c3 := cell_at hh 3
  simp at c0 c1 c3
  have hlt0 : i < C.ts.length := (List.getElem?_eq_some_iff.1 ht).1
  rw [hN] at hlt0
  have hlt : (i : Int) < (N : Int) := by omega
  obtain ⟨b, rfl, t0, t1, -⟩ := hrow.get ht
  have hk : ((t.kind : Int) == 1) = true := by rw [hk1]; rfl
  generalize t.kind = k at *
  generalize t.text = tx at *
  replace t0 := hide t0
  replace t1 := hide t1
  replace hk := hide hk
  clear ht hk1 hlt0
  replace hlt := hide hlt
  replace c0 := hide c0
  replace c1 := hide c1
  replace c3 := hide c3
  clear hh hrow hm hA h hN
  go_enter Tryd.func27, Tryd.ntmps27
  go_wp2_with fail
  refine wp_region_flow (fun _ => False) (factAt [(fun v _ => v = (.pointer (some ⟨p, 0, none⟩))), (fun v _ => v = (.pointer (some ⟨p, 0, none⟩))), (fun v _ => v = (.pointer (some ⟨p, 3, none⟩))), (fun v _ => v = (.int .i64 0)), (fun v _ => v = (.bool true)), (fun v _ => v = (.bool true)), (fun v _ => v = (.pointer (some ⟨p, 0, none⟩))), (fun v _ => v = (.pointer (some ⟨p, 0, none⟩))), (fun v _ => v = (.pointer (some ⟨p, 1, none⟩))), (fun v _ => v = (.int .i64 i)), (fun v _ => v = (.pointer (some ⟨p, 0, none⟩))), (fun v _ => v = (.pointer (some ⟨p, 0, none⟩))), (fun v _ => v = (.pointer (some ⟨p, 0, none⟩))), (fun v _ => v = (.slice (some ⟨b, 0, none⟩) N c)), (fun v _ => v = (.int .i64 N)), (fun v _ => v = (.bool true)), (fun v _ => v = (.bool true)), (fun v _ => v = (.bool true)), (fun v _ => v = (.pointer (some ⟨p, 0, none⟩))), (fun v _ => v = (.pointer (some ⟨p, 0, none⟩))), (fun v _ => v = (.pointer (some ⟨p, 0, none⟩))), (fun v _ => v = (.slice (some ⟨b, 0, none⟩) N c)), (fun v _ => v = (.pointer (some ⟨p, 0, none⟩))), (fun v _ => v = (.pointer (some ⟨p, 0, none⟩))), (fun v _ => v = (.pointer (some ⟨p, 1, none⟩))), (fun v _ => v = (.int .i64 i)), (fun v _ => v = (.pointer (some ⟨b, i * 3, none⟩))), (fun v _ => v = (.pointer (some ⟨b, i * 3, none⟩))), (fun v _ => v = (.int .i64 k)), (fun v _ => v = (.bool false)), (fun v _ => v = (.bool false)), (fun v _ => v = (.bool false)), (fun v _ => v = undef), (fun v _ => v = undef), (fun v _ => v = undef), (fun v _ => v = undef), (fun v _ => v = undef), (fun v _ => v = undef), (fun v _ => v = undef), (fun v _ => v = undef), (fun v _ => v = undef), (fun v _ => v = undef), (fun v _ => v = undef), (fun v _ => v = undef), (fun v _ => v = undef), (fun v _ => v = (Value.bool false)), (fun v _ => v = (Value.bool false))]) [] (fun _ => True) (by kernel_rfl) (fkept_at ⟨FKept.eq _, FKept.eq _, FKept.eq _, FKept.eq _, FKept.eq _, FKept.eq _, FKept.eq _, FKept.eq _, FKept.eq _, FKept.eq _, FKept.eq _, FKept.eq _, FKept.eq _, FKept.eq _, FKept.eq _, FKept.eq _, FKept.eq _, FKept.eq _, FKept.eq _, FKept.eq _, FKept.eq _, FKept.eq _, FKept.eq _, FKept.eq _, FKept.eq _, FKept.eq _, FKept.eq _, FKept.eq _, FKept.eq _, FKept.eq _, FKept.eq _, FKept.eq _, FKept.eq _, FKept.eq _, FKept.eq _, FKept.eq _, FKept.eq _, FKept.eq _, FKept.eq _, FKept.eq _, FKept.eq _, FKept.eq _, FKept.eq _, FKept.eq _, FKept.eq _, FKept.eq _, FKept.eq _, trivial⟩) (fun _ _ h _ => h) trivial (by kernel_rfl) (by kernel_rfl) (by kernel_rfl) (by kernel_rfl) (Nat.le_of_ble_eq_true (by kernel_rfl)) ?_ ⟨?_, ?_, ?_, ?_, ?_, ?_, ?_, ?_, ?_, ?_, ?_, ?_, ?_, ?_, ?_, ?_, ?_, ?_, ?_, ?_, ?_, ?_, ?_, ?_, ?_, ?_, ?_, ?_, ?_, ?_, ?_, ?_, ?_, ?_, ?_, ?_, ?_, ?_, ?_, ?_, ?_, ?_, ?_, ?_, ?_, ?_, ?_, trivial⟩ ?_
  · first | exact trivial | assumption
  · intro T w Q hu hs hv hw hd
    have hx0 : T.getD 0 undef = (.pointer (some ⟨p, 0, none⟩)) := hv 0 (by kernel_rfl)
    refine .inl ⟨wanted_none rfl, ?_⟩
    clear hd hv hu hs hw
    go_simp
    exact ⟨_, rfl, DstOk.some rfl, Below.refl _ _, rfl⟩
  · intro T w Q hu hs hv hw hd
    have hx5 : T.getD 5 undef = (.pointer (some ⟨p, 0, none⟩)) := Deps.at 0 hd (by kernel_rfl)
    refine .inl ⟨wanted_none rfl, ?_⟩
    clear hd hv hu hs hw
    go_simp
    exact ⟨_, rfl, DstOk.some rfl, Below.refl _ _, rfl⟩
  · intro T w Q hu hs hv hw hd
    have hx6 : T.getD 6 undef = (.pointer (some ⟨p, 0, none⟩)) := Deps.at 1 hd (by kernel_rfl)
    refine .inl ⟨wanted_none rfl, ?_⟩
    clear hd hv hu hs hw
    go_simp
    exact ⟨_, rfl, DstOk.some rfl, Below.refl _ _, rfl⟩
  · intro T w Q hu hs hv hw hd
    have hx7 : T.getD 7 undef = (.pointer (some ⟨p, 3, none⟩)) := Deps.at 2 hd (by kernel_rfl)
    refine .inl ⟨wanted_none rfl, ?_⟩
    have hq := hu.cell c3.out id
    clear hd hv hu hs hw
    go_simp
    exact ⟨_, rfl, DstOk.some rfl, Below.refl _ _, rfl⟩
  · intro T w Q hu hs hv hw hd
    have hx8 : T.getD 8 undef = (.int .i64 0) := Deps.at 3 hd (by kernel_rfl)
    refine .inl ⟨wanted_none rfl, ?_⟩
    clear hd hv hu hs hw
    go_simp
    exact ⟨_, rfl, DstOk.some rfl, Below.refl _ _, by first | rfl | exact congrArg Value.bool (by first | (simp only [decide_eq_true_eq, decide_eq_false_iff_not]; omega) | (simp; exact eq_of_beq a0) | (simp; exact ne_of_beq_false a0) | simp [a0] | simp_all)⟩
  · intro T w Q hu hs hv hw hd
    have hx9 : T.getD 9 undef = (.bool true) := Deps.at 4 hd (by kernel_rfl)
    refine .inl ⟨wanted_none rfl, ?_⟩
    clear hd hv hu hs hw
    go_simp
    exact ⟨_, rfl, DstOk.some rfl, Below.refl _ _, rfl⟩
  · intro T w Q hu hs hv hw hd
    have hx0 : T.getD 0 undef = (.pointer (some ⟨p, 0, none⟩)) := hv 0 (by kernel_rfl)
    refine .inl ⟨wanted_some rfl (Deps.at 5 hd (by kernel_rfl) : slotOf _ T 5 = .bool true), ?_⟩
    clear hd hv hu hs hw
    go_simp
    exact ⟨_, rfl, DstOk.some rfl, Below.refl _ _, rfl⟩
  · intro T w Q hu hs hv hw hd
    have hx11 : T.getD 11 undef = (.pointer (some ⟨p, 0, none⟩)) := Deps.at 6 hd (by kernel_rfl)
    refine .inl ⟨wanted_some rfl (Deps.at 5 hd (by kernel_rfl) : slotOf _ T 5 = .bool true), ?_⟩
    clear hd hv hu hs hw
    go_simp
    exact ⟨_, rfl, DstOk.some rfl, Below.refl _ _, rfl⟩
  · intro T w Q hu hs hv hw hd
    have hx12 : T.getD 12 undef = (.pointer (some ⟨p, 0, none⟩)) := Deps.at 7 hd (by kernel_rfl)
    refine .inl ⟨wanted_some rfl (Deps.at 5 hd (by kernel_rfl) : slotOf _ T 5 = .bool true), ?_⟩
    clear hd hv hu hs hw
    go_simp
    exact ⟨_, rfl, DstOk.some rfl, Below.refl _ _, rfl⟩
  · intro T w Q hu hs hv hw hd
    have hx13 : T.getD 13 undef = (.pointer (some ⟨p, 1, none⟩)) := Deps.at 8 hd (by kernel_rfl)
    refine .inl ⟨wanted_some rfl (Deps.at 5 hd (by kernel_rfl) : slotOf _ T 5 = .bool true), ?_⟩
    have hq := hu.cell c1.out id
    clear hd hv hu hs hw
    go_simp
    exact ⟨_, rfl, DstOk.some rfl, Below.refl _ _, rfl⟩
  · intro T w Q hu hs hv hw hd
    have hx0 : T.getD 0 undef = (.pointer (some ⟨p, 0, none⟩)) := hv 0 (by kernel_rfl)
    refine .inl ⟨wanted_some rfl (Deps.at 5 hd (by kernel_rfl) : slotOf _ T 5 = .bool true), ?_⟩
    clear hd hv hu hs hw
    go_simp
    exact ⟨_, rfl, DstOk.some rfl, Below.refl _ _, rfl⟩
  · intro T w Q hu hs hv hw hd
    have hx15 : T.getD 15 undef = (.pointer (some ⟨p, 0, none⟩)) := Deps.at 10 hd (by kernel_rfl)
    refine .inl ⟨wanted_some rfl (Deps.at 5 hd (by kernel_rfl) : slotOf _ T 5 = .bool true), ?_⟩
    clear hd hv hu hs hw
    go_simp
    exact ⟨_, rfl, DstOk.some rfl, Below.refl _ _, rfl⟩
  · intro T w Q hu hs hv hw hd
    have hx16 : T.getD 16 undef = (.pointer (some ⟨p, 0, none⟩)) := Deps.at 11 hd (by kernel_rfl)
    refine .inl ⟨wanted_some rfl (Deps.at 5 hd (by kernel_rfl) : slotOf _ T 5 = .bool true), ?_⟩
    clear hd hv hu hs hw
    go_simp
    exact ⟨_, rfl, DstOk.some rfl, Below.refl _ _, rfl⟩
  · intro T w Q hu hs hv hw hd
    have hx17 : T.getD 17 undef = (.pointer (some ⟨p, 0, none⟩)) := Deps.at 12 hd (by kernel_rfl)
    refine .inl ⟨wanted_some rfl (Deps.at 5 hd (by kernel_rfl) : slotOf _ T 5 = .bool true), ?_⟩
    have hq := hu.cell c0.out id
    clear hd hv hu hs hw
    go_simp
    exact ⟨_, rfl, DstOk.some rfl, Below.refl _ _, rfl⟩
  · intro T w Q hu hs hv hw hd
    have hx18 : T.getD 18 undef = (.slice (some ⟨b, 0, none⟩) N c) := Deps.at 13 hd (by kernel_rfl)
    refine .inl ⟨wanted_some rfl (Deps.at 5 hd (by kernel_rfl) : slotOf _ T 5 = .bool true), ?_⟩
    clear hd hv hu hs hw
    go_simp
    exact ⟨_, rfl, DstOk.some rfl, Below.refl _ _, rfl⟩
  · intro T w Q hu hs hv hw hd
    have hx14 : T.getD 14 undef = (.int .i64 i) := Deps.at 9 hd (by kernel_rfl)
    have hx19 : T.getD 19 undef = (.int .i64 N) := Deps.at 14 hd (by kernel_rfl)
    refine .inl ⟨wanted_some rfl (Deps.at 5 hd (by kernel_rfl) : slotOf _ T 5 = .bool true), ?_⟩
    have a0 := hlt.out
    clear hd hv hu hs hw
    go_simp
    exact ⟨_, rfl, DstOk.some rfl, Below.refl _ _, by first | rfl | exact congrArg Value.bool (by first | (simp only [decide_eq_true_eq, decide_eq_false_iff_not]; omega) | (simp; exact eq_of_beq a0) | (simp; exact ne_of_beq_false a0) | simp [a0] | simp_all)⟩
  · intro T w Q hu hs hv hw hd
    have hx10 : T.getD 10 undef = (.bool true) := Deps.at 5 hd (by kernel_rfl)
    have hx20 : T.getD 20 undef = (.bool true) := Deps.at 15 hd (by kernel_rfl)
    refine .inl ⟨wanted_none rfl, ?_⟩
    clear hd hv hu hs hw
    go_simp
    exact ⟨_, rfl, DstOk.some rfl, Below.refl _ _, rfl⟩
  · intro T w Q hu hs hv hw hd
    have hx21 : T.getD 21 undef = (.bool true) := Deps.at 16 hd (by kernel_rfl)
    refine .inl ⟨wanted_none rfl, ?_⟩
    clear hd hv hu hs hw
    go_simp
    exact ⟨_, rfl, DstOk.some rfl, Below.refl _ _, rfl⟩
  · intro T w Q hu hs hv hw hd
    have hx0 : T.getD 0 undef = (.pointer (some ⟨p, 0, none⟩)) := hv 0 (by kernel_rfl)
    refine .inl ⟨wanted_some rfl (Deps.at 17 hd (by kernel_rfl) : slotOf _ T 17 = .bool true), ?_⟩
    clear hd hv hu hs hw
    go_simp
    exact ⟨_, rfl, DstOk.some rfl, Below.refl _ _, rfl⟩
  · intro T w Q hu hs hv hw hd
    have hx23 : T.getD 23 undef = (.pointer (some ⟨p, 0, none⟩)) := Deps.at 18 hd (by kernel_rfl)
    refine .inl ⟨wanted_some rfl (Deps.at 17 hd (by kernel_rfl) : slotOf _ T 17 = .bool true), ?_⟩
    clear hd hv hu hs hw
    go_simp
    exact ⟨_, rfl, DstOk.some rfl, Below.refl _ _, rfl⟩
  · intro T w Q hu hs hv hw hd
    have hx24 : T.getD 24 undef = (.pointer (some ⟨p, 0, none⟩)) := Deps.at 19 hd (by kernel_rfl)
    refine .inl ⟨wanted_some rfl (Deps.at 17 hd (by kernel_rfl) : slotOf _ T 17 = .bool true), ?_⟩
    clear hd hv hu hs hw
    go_simp
    exact ⟨_, rfl, DstOk.some rfl, Below.refl _ _, rfl⟩
  · intro T w Q hu hs hv hw hd
    have hx25 : T.getD 25 undef = (.pointer (some ⟨p, 0, none⟩)) := Deps.at 20 hd (by kernel_rfl)
    refine .inl ⟨wanted_some rfl (Deps.at 17 hd (by kernel_rfl) : slotOf _ T 17 = .bool true), ?_⟩
    have hq := hu.cell c0.out id
    clear hd hv hu hs hw
    go_simp
    exact ⟨_, rfl, DstOk.some rfl, Below.refl _ _, rfl⟩
  · intro T w Q hu hs hv hw hd
    have hx0 : T.getD 0 undef = (.pointer (some ⟨p, 0, none⟩)) := hv 0 (by kernel_rfl)
    refine .inl ⟨wanted_some rfl (Deps.at 17 hd (by kernel_rfl) : slotOf _ T 17 = .bool true), ?_⟩
    clear hd hv hu hs hw
    go_simp
    exact ⟨_, rfl, DstOk.some rfl, Below.refl _ _, rfl⟩
  · intro T w Q hu hs hv hw hd
    have hx27 : T.getD 27 undef = (.pointer (some ⟨p, 0, none⟩)) := Deps.at 22 hd (by kernel_rfl)
    refine .inl ⟨wanted_some rfl (Deps.at 17 hd (by kernel_rfl) : slotOf _ T 17 = .bool true), ?_⟩
    clear hd hv hu hs hw
    go_simp
    exact ⟨_, rfl, DstOk.some rfl, Below.refl _ _, rfl⟩
  · intro T w Q hu hs hv hw hd
    have hx28 : T.getD 28 undef = (.pointer (some ⟨p, 0, none⟩)) := Deps.at 23 hd (by kernel_rfl)
    refine .inl ⟨wanted_some rfl (Deps.at 17 hd (by kernel_rfl) : slotOf _ T 17 = .bool true), ?_⟩
    clear hd hv hu hs hw
    go_simp
    exact ⟨_, rfl, DstOk.some rfl, Below.refl _ _, rfl⟩
  · intro T w Q hu hs hv hw hd
    have hx29 : T.getD 29 undef = (.pointer (some ⟨p, 1, none⟩)) := Deps.at 24 hd (by kernel_rfl)
    refine .inl ⟨wanted_some rfl (Deps.at 17 hd (by kernel_rfl) : slotOf _ T 17 = .bool true), ?_⟩
    have hq := hu.cell c1.out id
    clear hd hv hu hs hw
    go_simp
    exact ⟨_, rfl, DstOk.some rfl, Below.refl _ _, rfl⟩
  · intro T w Q hu hs hv hw hd
    have hx26 : T.getD 26 undef = (.slice (some ⟨b, 0, none⟩) N c) := Deps.at 21 hd (by kernel_rfl)
    have hx30 : T.getD 30 undef = (.int .i64 i) := Deps.at 25 hd (by kernel_rfl)
    refine .inl ⟨wanted_some rfl (Deps.at 17 hd (by kernel_rfl) : slotOf _ T 17 = .bool true), ?_⟩
    have a0 := hlt.out
    clear hd hv hu hs hw
    go_simp
    exact ⟨_, rfl, DstOk.some rfl, Below.refl _ _, rfl⟩
  · intro T w Q hu hs hv hw hd
    have hx31 : T.getD 31 undef = (.pointer (some ⟨b, i * 3, none⟩)) := Deps.at 26 hd (by kernel_rfl)
    refine .inl ⟨wanted_some rfl (Deps.at 17 hd (by kernel_rfl) : slotOf _ T 17 = .bool true), ?_⟩
    clear hd hv hu hs hw
    go_simp
    exact ⟨_, rfl, DstOk.some rfl, Below.refl _ _, rfl⟩
  · intro T w Q hu hs hv hw hd
    have hx32 : T.getD 32 undef = (.pointer (some ⟨b, i * 3, none⟩)) := Deps.at 27 hd (by kernel_rfl)
    refine .inl ⟨wanted_some rfl (Deps.at 17 hd (by kernel_rfl) : slotOf _ T 17 = .bool true), ?_⟩
    have hq := hu.cell t0.out id
    clear hd hv hu hs hw
    go_simp
    exact ⟨_, rfl, DstOk.some rfl, Below.refl _ _, rfl⟩
  · intro T w Q hu hs hv hw hd
    have hx33 : T.getD 33 undef = (.int .i64 k) := Deps.at 28 hd (by kernel_rfl)
    refine .inl ⟨wanted_some rfl (Deps.at 17 hd (by kernel_rfl) : slotOf _ T 17 = .bool true), ?_⟩
    have a0 := hk.out
    clear hd hv hu hs hw
    go_simp
    exact ⟨_, rfl, DstOk.some rfl, Below.refl _ _, by first | rfl | exact congrArg Value.bool (by first | (simp only [decide_eq_true_eq, decide_eq_false_iff_not]; omega) | (simp; exact eq_of_beq a0) | (simp; exact ne_of_beq_false a0) | simp [a0] | simp_all)⟩
  · intro T w Q hu hs hv hw hd
    have hx22 : T.getD 22 undef = (.bool true) := Deps.at 17 hd (by kernel_rfl)
    have hx34 : T.getD 34 undef = (.bool false) := Deps.at 29 hd (by kernel_rfl)
    refine .inl ⟨wanted_none rfl, ?_⟩
    clear hd hv hu hs hw
    go_simp
    exact ⟨_, rfl, DstOk.some rfl, Below.refl _ _, rfl⟩
  · intro T w Q hu hs hv hw hd
    have hx35 : T.getD 35 undef = (.bool false) := Deps.at 30 hd (by kernel_rfl)
    refine .inl ⟨wanted_none rfl, ?_⟩
    clear hd hv hu hs hw
    go_simp
    exact ⟨_, rfl, DstOk.some rfl, Below.refl _ _, rfl⟩
  · intro T w Q hu hs hv hw hd
    exact .inr ⟨wanted_not rfl (Deps.at 31 hd (by kernel_rfl) : slotOf _ T 31 = .bool (!true)), rfl⟩
  · intro T w Q hu hs hv hw hd
    exact .inr ⟨wanted_not rfl (Deps.at 31 hd (by kernel_rfl) : slotOf _ T 31 = .bool (!true)), rfl⟩
  · intro T w Q hu hs hv hw hd
    exact .inr ⟨wanted_not rfl (Deps.at 31 hd (by kernel_rfl) : slotOf _ T 31 = .bool (!true)), rfl⟩
  · intro T w Q hu hs hv hw hd
    exact .inr ⟨wanted_not rfl (Deps.at 31 hd (by kernel_rfl) : slotOf _ T 31 = .bool (!true)), rfl⟩
  · intro T w Q hu hs hv hw hd
    exact .inr ⟨wanted_not rfl (Deps.at 31 hd (by kernel_rfl) : slotOf _ T 31 = .bool (!true)), rfl⟩
  · intro T w Q hu hs hv hw hd
    exact .inr ⟨wanted_not rfl (Deps.at 31 hd (by kernel_rfl) : slotOf _ T 31 = .bool (!true)), rfl⟩
  · intro T w Q hu hs hv hw hd
    exact .inr ⟨wanted_not rfl (Deps.at 31 hd (by kernel_rfl) : slotOf _ T 31 = .bool (!true)), rfl⟩
  · intro T w Q hu hs hv hw hd
    exact .inr ⟨wanted_not rfl (Deps.at 31 hd (by kernel_rfl) : slotOf _ T 31 = .bool (!true)), rfl⟩
  · intro T w Q hu hs hv hw hd
    exact .inr ⟨wanted_not rfl (Deps.at 31 hd (by kernel_rfl) : slotOf _ T 31 = .bool (!true)), rfl⟩
  · intro T w Q hu hs hv hw hd
    exact .inr ⟨wanted_not rfl (Deps.at 31 hd (by kernel_rfl) : slotOf _ T 31 = .bool (!true)), rfl⟩
  · intro T w Q hu hs hv hw hd
    exact .inr ⟨wanted_not rfl (Deps.at 31 hd (by kernel_rfl) : slotOf _ T 31 = .bool (!true)), rfl⟩
  · intro T w Q hu hs hv hw hd
    exact .inr ⟨wanted_not rfl (Deps.at 31 hd (by kernel_rfl) : slotOf _ T 31 = .bool (!true)), rfl⟩
  · intro T w Q hu hs hv hw hd
    exact .inr ⟨wanted_not rfl (Deps.at 31 hd (by kernel_rfl) : slotOf _ T 31 = .bool (!true)), rfl⟩
  · intro T w Q hu hs hv hw hd
    have hx36 : T.getD 36 undef = (.bool false) := Deps.at 31 hd (by kernel_rfl)
    have hx49 : T.getD 49 undef = undef := Deps.at 44 hd (by kernel_rfl)
    refine .inl ⟨wanted_none rfl, ?_⟩
    clear hd hv hu hs hw
    go_simp
    exact ⟨_, rfl, DstOk.some rfl, Below.refl _ _, rfl⟩
  · intro T w Q hu hs hv hw hd
    have hx50 : T.getD 50 undef = (Value.bool false) := Deps.at 45 hd (by kernel_rfl)
    refine .inl ⟨wanted_none rfl, ?_⟩
    clear hd hv hu hs hw
    go_simp
    exact ⟨_, rfl, DstOk.some rfl, Below.refl _ _, rfl⟩
  intro T w hu hs hv hf hcur
  have hT : T = #[T.getD 0 undef, T.getD 1 undef, T.getD 2 undef, T.getD 3 undef, T.getD 4 undef, T.getD 5 undef, T.getD 6 undef, T.getD 7 undef, T.getD 8 undef, T.getD 9 undef, T.getD 10 undef, T.getD 11 undef, T.getD 12 undef, T.getD 13 undef, T.getD 14 undef, T.getD 15 undef, T.getD 16 undef, T.getD 17 undef, T.getD 18 undef, T.getD 19 undef, T.getD 20 undef, T.getD 21 undef, T.getD 22 undef, T.getD 23 undef, T.getD 24 undef, T.getD 25 undef, T.getD 26 undef, T.getD 27 undef, T.getD 28 undef, T.getD 29 undef, T.getD 30 undef, T.getD 31 undef, T.getD 32 undef, T.getD 33 undef, T.getD 34 undef, T.getD 35 undef, T.getD 36 undef, T.getD 37 undef, T.getD 38 undef, T.getD 39 undef, T.getD 40 undef, T.getD 41 undef, T.getD 42 undef, T.getD 43 undef, T.getD 44 undef, T.getD 45 undef, T.getD 46 undef, T.getD 47 undef, T.getD 48 undef, T.getD 49 undef, T.getD 50 undef] := expl hs
  rw [hT]
  clear hT
  rw [show T.getD 0 undef = (.pointer (some ⟨p, 0, none⟩)) from hv 0 (by kernel_rfl)]
  rw [show T.getD 1 undef = (.string (strB x)) from hv 1 (by kernel_rfl)]
  rw [hv 2 (by kernel_rfl)]
  rw [hv 3 (by kernel_rfl)]
  rw [show T.getD 4 undef = (Value.bool false) from hf 46 (by decide)]
  rw [show T.getD 5 undef = (.pointer (some ⟨p, 0, none⟩)) from hf 0 (by decide)]
  rw [show T.getD 6 undef = (.pointer (some ⟨p, 0, none⟩)) from hf 1 (by decide)]
  rw [show T.getD 7 undef = (.pointer (some ⟨p, 3, none⟩)) from hf 2 (by decide)]
  rw [show T.getD 8 undef = (.int .i64 0) from hf 3 (by decide)]
  rw [show T.getD 9 undef = (.bool true) from hf 4 (by decide)]
  rw [show T.getD 10 undef = (.bool true) from hf 5 (by decide)]
  rw [show T.getD 11 undef = (.pointer (some ⟨p, 0, none⟩)) from hf 6 (by decide)]
  rw [show T.getD 12 undef = (.pointer (some ⟨p, 0, none⟩)) from hf 7 (by decide)]
  rw [show T.getD 13 undef = (.pointer (some ⟨p, 1, none⟩)) from hf 8 (by decide)]
  rw [show T.getD 14 undef = (.int .i64 i) from hf 9 (by decide)]
  rw [show T.getD 15 undef = (.pointer (some ⟨p, 0, none⟩)) from hf 10 (by decide)]
  rw [show T.getD 16 undef = (.pointer (some ⟨p, 0, none⟩)) from hf 11 (by decide)]
  rw [show T.getD 17 undef = (.pointer (some ⟨p, 0, none⟩)) from hf 12 (by decide)]
  rw [show T.getD 18 undef = (.slice (some ⟨b, 0, none⟩) N c) from hf 13 (by decide)]
  rw [show T.getD 19 undef = (.int .i64 N) from hf 14 (by decide)]
  rw [show T.getD 20 undef = (.bool true) from hf 15 (by decide)]
  rw [show T.getD 21 undef = (.bool true) from hf 16 (by decide)]
  rw [show T.getD 22 undef = (.bool true) from hf 17 (by decide)]
  rw [show T.getD 23 undef = (.pointer (some ⟨p, 0, none⟩)) from hf 18 (by decide)]
  rw [show T.getD 24 undef = (.pointer (some ⟨p, 0, none⟩)) from hf 19 (by decide)]
  rw [show T.getD 25 undef = (.pointer (some ⟨p, 0, none⟩)) from hf 20 (by decide)]
  rw [show T.getD 26 undef = (.slice (some ⟨b, 0, none⟩) N c) from hf 21 (by decide)]
  rw [show T.getD 27 undef = (.pointer (some ⟨p, 0, none⟩)) from hf 22 (by decide)]
  rw [show T.getD 28 undef = (.pointer (some ⟨p, 0, none⟩)) from hf 23 (by decide)]
  rw [show T.getD 29 undef = (.pointer (some ⟨p, 1, none⟩)) from hf 24 (by decide)]
  rw [show T.getD 30 undef = (.int .i64 i) from hf 25 (by decide)]
  rw [show T.getD 31 undef = (.pointer (some ⟨b, i * 3, none⟩)) from hf 26 (by decide)]
  rw [show T.getD 32 undef = (.pointer (some ⟨b, i * 3, none⟩)) from hf 27 (by decide)]
  rw [show T.getD 33 undef = (.int .i64 k) from hf 28 (by decide)]
  rw [show T.getD 34 undef = (.bool false) from hf 29 (by decide)]
  rw [show T.getD 35 undef = (.bool false) from hf 30 (by decide)]
  rw [show T.getD 36 undef = (.bool false) from hf 31 (by decide)]
  rw [show T.getD 37 undef = undef from hf 32 (by decide)]
  rw [show T.getD 38 undef = undef from hf 33 (by decide)]
  rw [show T.getD 39 undef = undef from hf 34 (by decide)]
  rw [show T.getD 40 undef = undef from hf 35 (by decide)]
  rw [show T.getD 41 undef = undef from hf 36 (by decide)]
  rw [show T.getD 42 undef = undef from hf 37 (by decide)]
  rw [show T.getD 43 undef = undef from hf 38 (by decide)]
  rw [show T.getD 44 undef = undef from hf 39 (by decide)]
  rw [show T.getD 45 undef = undef from hf 40 (by decide)]
  rw [show T.getD 46 undef = undef from hf 41 (by decide)]
  rw [show T.getD 47 undef = undef from hf 42 (by decide)]
  rw [show T.getD 48 undef = undef from hf 43 (by decide)]
  rw [show T.getD 49 undef = undef from hf 44 (by decide)]
  rw [show T.getD 50 undef = (Value.bool false) from hf 45 (by decide)]
  clear hf hs hv hcur
  simp only [getD_toArray, List.getD_cons_succ, List.getD_cons_zero]
  clear T
  have hb9 := hide (hu.below (Nat.le_refl _) fun _ h => h.elim)
  clear hu
  go_wp2_with fail
  go_ret
  exact ⟨rfl, hb9.out⟩
set_option maxRecDepth 100000 in
set_option maxHeartbeats 1600000 in
theorem is_yes (x : List UInt8) (p : Nat) (w : World) (a d n i : Nat) (C : Cx) (h : RfW w p C i 0 a d n) (t : Tok) (ht : C.ts[i]? = some t) (hk1 : t.kind ≠ 1) :
    Calls Tryd.prog 27 #[.pointer (some ⟨p, 0, none⟩), .string (strB x)] w fun r w' => r = .returned (.bool (t.text == x)) ∧ Below w.heap.size w w' := by
  have hh := h.heap
  obtain ⟨A, c, hA, hm⟩ := h.row.slice
  have hrow := h.row
  rw [hA] at hh hrow
  generalize hN : C.ts.length = N at *
  have c0 := cell_at hh 0
  have c1 := cell_at hh 1
  have c3 := cell_at hh 3
  simp at c0 c1 c3
  have hlt0 : i < C.ts.length := (List.getElem?_eq_some_iff.1 ht).1
  rw [hN] at hlt0
  have hlt : (i : Int) < (N : Int) := by omega
  obtain ⟨b, rfl, t0, t1, -⟩ := hrow.get ht
  have hk : ((t.kind : Int) == 1) = false := by exact beq_false_of_ne (by omega)
  generalize t.kind = k at *
  generalize t.text = tx at *
  replace t0 := hide t0
  replace t1 := hide t1
  replace hk := hide hk
  clear ht hk1 hlt0
  replace hlt := hide hlt
  replace c0 := hide c0
  replace c1 := hide c1
  replace c3 := hide c3
  clear hh hrow hm hA h hN
  go_enter Tryd.func27, Tryd.ntmps27
  go_wp2_with fail
  refine wp_region_flow (fun _ => False) (factAt [(fun v _ => v = (.pointer (some ⟨p, 0, none⟩))), (fun v _ => v = (.pointer (some ⟨p, 0, none⟩))), (fun v _ => v = (.pointer (some ⟨p, 3, none⟩))), (fun v _ => v = (.int .i64 0)), (fun v _ => v = (.bool true)), (fun v _ => v = (.bool true)), (fun v _ => v = (.pointer (some ⟨p, 0, none⟩))), (fun v _ => v = (.pointer (some ⟨p, 0, none⟩))), (fun v _ => v = (.pointer (some ⟨p, 1, none⟩))), (fun v _ => v = (.int .i64 i)), (fun v _ => v = (.pointer (some ⟨p, 0, none⟩))), (fun v _ => v = (.pointer (some ⟨p, 0, none⟩))), (fun v _ => v = (.pointer (some ⟨p, 0, none⟩))), (fun v _ => v = (.slice (some ⟨b, 0, none⟩) N c)), (fun v _ => v = (.int .i64 N)), (fun v _ => v = (.bool true)), (fun v _ => v = (.bool true)), (fun v _ => v = (.bool true)), (fun v _ => v = (.pointer (some ⟨p, 0, none⟩))), (fun v _ => v = (.pointer (some ⟨p, 0, none⟩))), (fun v _ => v = (.pointer (some ⟨p, 0, none⟩))), (fun v _ => v = (.slice (some ⟨b, 0, none⟩) N c)), (fun v _ => v = (.pointer (some ⟨p, 0, none⟩))), (fun v _ => v = (.pointer (some ⟨p, 0, none⟩))), (fun v _ => v = (.pointer (some ⟨p, 1, none⟩))), (fun v _ => v = (.int .i64 i)), (fun v _ => v = (.pointer (some ⟨b, i * 3, none⟩))), (fun v _ => v = (.pointer (some ⟨b, i * 3, none⟩))), (fun v _ => v = (.int .i64 k)), (fun v _ => v = (.bool true)), (fun v _ => v = (.bool true)), (fun v _ => v = (.bool true)), (fun v _ => v = (.pointer (some ⟨p, 0, none⟩))), (fun v _ => v = (.pointer (some ⟨p, 0, none⟩))), (fun v _ => v = (.pointer (some ⟨p, 0, none⟩))), (fun v _ => v = (.slice (some ⟨b, 0, none⟩) N c)), (fun v _ => v = (.pointer (some ⟨p, 0, none⟩))), (fun v _ => v = (.pointer (some ⟨p, 0, none⟩))), (fun v _ => v = (.pointer (some ⟨p, 1, none⟩))), (fun v _ => v = (.int .i64 i)), (fun v _ => v = (.pointer (some ⟨b, i * 3, none⟩))), (fun v _ => v = (.pointer (some ⟨b, i * 3 + 1, none⟩))), (fun v _ => v = (.string (strB tx))), (fun v _ => v = (.string (strB x))), (fun v _ => v = (.bool (tx == x))), (fun v _ => v = (.bool (tx == x))), (fun v _ => v = (.bool (tx == x)))]) [] (fun _ => True) (by kernel_rfl) (fkept_at ⟨FKept.eq _, FKept.eq _, FKept.eq _, FKept.eq _, FKept.eq _, FKept.eq _, FKept.eq _, FKept.eq _, FKept.eq _, FKept.eq _, FKept.eq _, FKept.eq _, FKept.eq _, FKept.eq _, FKept.eq _, FKept.eq _, FKept.eq _, FKept.eq _, FKept.eq _, FKept.eq _, FKept.eq _, FKept.eq _, FKept.eq _, FKept.eq _, FKept.eq _, FKept.eq _, FKept.eq _, FKept.eq _, FKept.eq _, FKept.eq _, FKept.eq _, FKept.eq _, FKept.eq _, FKept.eq _, FKept.eq _, FKept.eq _, FKept.eq _, FKept.eq _, FKept.eq _, FKept.eq _, FKept.eq _, FKept.eq _, FKept.eq _, FKept.eq _, FKept.eq _, FKept.eq _, FKept.eq _, trivial⟩) (fun _ _ h _ => h) trivial (by kernel_rfl) (by kernel_rfl) (by kernel_rfl) (by kernel_rfl) (Nat.le_of_ble_eq_true (by kernel_rfl)) ?_ ⟨?_, ?_, ?_, ?_, ?_, ?_, ?_, ?_, ?_, ?_, ?_, ?_, ?_, ?_, ?_, ?_, ?_, ?_, ?_, ?_, ?_, ?_, ?_, ?_, ?_, ?_, ?_, ?_, ?_, ?_, ?_, ?_, ?_, ?_, ?_, ?_, ?_, ?_, ?_, ?_, ?_, ?_, ?_, ?_, ?_, ?_, ?_, trivial⟩ ?_
  · first | exact trivial | assumption
  · intro T w Q hu hs hv hw hd
    have hx0 : T.getD 0 undef = (.pointer (some ⟨p, 0, none⟩)) := hv 0 (by kernel_rfl)
    refine .inl ⟨wanted_none rfl, ?_⟩
    clear hd hv hu hs hw
    go_simp
    exact ⟨_, rfl, DstOk.some rfl, Below.refl _ _, rfl⟩
  · intro T w Q hu hs hv hw hd
    have hx5 : T.getD 5 undef = (.pointer (some ⟨p, 0, none⟩)) := Deps.at 0 hd (by kernel_rfl)
    refine .inl ⟨wanted_none rfl, ?_⟩
    clear hd hv hu hs hw
    go_simp
    exact ⟨_, rfl, DstOk.some rfl, Below.refl _ _, rfl⟩
  · intro T w Q hu hs hv hw hd
    have hx6 : T.getD 6 undef = (.pointer (some ⟨p, 0, none⟩)) := Deps.at 1 hd (by kernel_rfl)
    refine .inl ⟨wanted_none rfl, ?_⟩
    clear hd hv hu hs hw
    go_simp
    exact ⟨_, rfl, DstOk.some rfl, Below.refl _ _, rfl⟩
  · intro T w Q hu hs hv hw hd
    have hx7 : T.getD 7 undef = (.pointer (some ⟨p, 3, none⟩)) := Deps.at 2 hd (by kernel_rfl)
    refine .inl ⟨wanted_none rfl, ?_⟩
    have hq := hu.cell c3.out id
    clear hd hv hu hs hw
    go_simp
    exact ⟨_, rfl, DstOk.some rfl, Below.refl _ _, rfl⟩
  · intro T w Q hu hs hv hw hd
    have hx8 : T.getD 8 undef = (.int .i64 0) := Deps.at 3 hd (by kernel_rfl)
    refine .inl ⟨wanted_none rfl, ?_⟩
    clear hd hv hu hs hw
    go_simp
    exact ⟨_, rfl, DstOk.some rfl, Below.refl _ _, by first | rfl | exact congrArg Value.bool (by first | (simp only [decide_eq_true_eq, decide_eq_false_iff_not]; omega) | (simp; exact eq_of_beq a0) | (simp; exact ne_of_beq_false a0) | simp [a0] | simp_all)⟩
  · intro T w Q hu hs hv hw hd
    have hx9 : T.getD 9 undef = (.bool true) := Deps.at 4 hd (by kernel_rfl)
    refine .inl ⟨wanted_none rfl, ?_⟩
    clear hd hv hu hs hw
    go_simp
    exact ⟨_, rfl, DstOk.some rfl, Below.refl _ _, rfl⟩
  · intro T w Q hu hs hv hw hd
    have hx0 : T.getD 0 undef = (.pointer (some ⟨p, 0, none⟩)) := hv 0 (by kernel_rfl)
    refine .inl ⟨wanted_some rfl (Deps.at 5 hd (by kernel_rfl) : slotOf _ T 5 = .bool true), ?_⟩
    clear hd hv hu hs hw
    go_simp
    exact ⟨_, rfl, DstOk.some rfl, Below.refl _ _, rfl⟩
  · intro T w Q hu hs hv hw hd
    have hx11 : T.getD 11 undef = (.pointer (some ⟨p, 0, none⟩)) := Deps.at 6 hd (by kernel_rfl)
    refine .inl ⟨wanted_some rfl (Deps.at 5 hd (by kernel_rfl) : slotOf _ T 5 = .bool true), ?_⟩
    clear hd hv hu hs hw
    go_simp
    exact ⟨_, rfl, DstOk.some rfl, Below.refl _ _, rfl⟩
  · intro T w Q hu hs hv hw hd
    have hx12 : T.getD 12 undef = (.pointer (some ⟨p, 0, none⟩)) := Deps.at 7 hd (by kernel_rfl)
    refine .inl ⟨wanted_some rfl (Deps.at 5 hd (by kernel_rfl) : slotOf _ T 5 = .bool true), ?_⟩
    clear hd hv hu hs hw
    go_simp
    exact ⟨_, rfl, DstOk.some rfl, Below.refl _ _, rfl⟩
  · intro T w Q hu hs hv hw hd
    have hx13 : T.getD 13 undef = (.pointer (some ⟨p, 1, none⟩)) := Deps.at 8 hd (by kernel_rfl)
    refine .inl ⟨wanted_some rfl (Deps.at 5 hd (by kernel_rfl) : slotOf _ T 5 = .bool true), ?_⟩
    have hq := hu.cell c1.out id
    clear hd hv hu hs hw
    go_simp
    exact ⟨_, rfl, DstOk.some rfl, Below.refl _ _, rfl⟩
  · intro T w Q hu hs hv hw hd
    have hx0 : T.getD 0 undef = (.pointer (some ⟨p, 0, none⟩)) := hv 0 (by kernel_rfl)
    refine .inl ⟨wanted_some rfl (Deps.at 5 hd (by kernel_rfl) : slotOf _ T 5 = .bool true), ?_⟩
    clear hd hv hu hs hw
    go_simp
    exact ⟨_, rfl, DstOk.some rfl, Below.refl _ _, rfl⟩
  · intro T w Q hu hs hv hw hd
    have hx15 : T.getD 15 undef = (.pointer (some ⟨p, 0, none⟩)) := Deps.at 10 hd (by kernel_rfl)
    refine .inl ⟨wanted_some rfl (Deps.at 5 hd (by kernel_rfl) : slotOf _ T 5 = .bool true), ?_⟩
    clear hd hv hu hs hw
    go_simp
    exact ⟨_, rfl, DstOk.some rfl, Below.refl _ _, rfl⟩
  · intro T w Q hu hs hv hw hd
    have hx16 : T.getD 16 undef = (.pointer (some ⟨p, 0, none⟩)) := Deps.at 11 hd (by kernel_rfl)
    refine .inl ⟨wanted_some rfl (Deps.at 5 hd (by kernel_rfl) : slotOf _ T 5 = .bool true), ?_⟩
    clear hd hv hu hs hw
    go_simp
    exact ⟨_, rfl, DstOk.some rfl, Below.refl _ _, rfl⟩
  · intro T w Q hu hs hv hw hd
    have hx17 : T.getD 17 undef = (.pointer (some ⟨p, 0, none⟩)) := Deps.at 12 hd (by kernel_rfl)
    refine .inl ⟨wanted_some rfl (Deps.at 5 hd (by kernel_rfl) : slotOf _ T 5 = .bool true), ?_⟩
    have hq := hu.cell c0.out id
    clear hd hv hu hs hw
    go_simp
    exact ⟨_, rfl, DstOk.some rfl, Below.refl _ _, rfl⟩
  · intro T w Q hu hs hv hw hd
    have hx18 : T.getD 18 undef = (.slice (some ⟨b, 0, none⟩) N c) := Deps.at 13 hd (by kernel_rfl)
    refine .inl ⟨wanted_some rfl (Deps.at 5 hd (by kernel_rfl) : slotOf _ T 5 = .bool true), ?_⟩
    clear hd hv hu hs hw
    go_simp
    exact ⟨_, rfl, DstOk.some rfl, Below.refl _ _, rfl⟩
  · intro T w Q hu hs hv hw hd
    have hx14 : T.getD 14 undef = (.int .i64 i) := Deps.at 9 hd (by kernel_rfl)
    have hx19 : T.getD 19 undef = (.int .i64 N) := Deps.at 14 hd (by kernel_rfl)
    refine .inl ⟨wanted_some rfl (Deps.at 5 hd (by kernel_rfl) : slotOf _ T 5 = .bool true), ?_⟩
    have a0 := hlt.out
    clear hd hv hu hs hw
    go_simp
    exact ⟨_, rfl, DstOk.some rfl, Below.refl _ _, by first | rfl | exact congrArg Value.bool (by first | (simp only [decide_eq_true_eq, decide_eq_false_iff_not]; omega) | (simp; exact eq_of_beq a0) | (simp; exact ne_of_beq_false a0) | simp [a0] | simp_all)⟩
  · intro T w Q hu hs hv hw hd
    have hx10 : T.getD 10 undef = (.bool true) := Deps.at 5 hd (by kernel_rfl)
    have hx20 : T.getD 20 undef = (.bool true) := Deps.at 15 hd (by kernel_rfl)
    refine .inl ⟨wanted_none rfl, ?_⟩
    clear hd hv hu hs hw
    go_simp
    exact ⟨_, rfl, DstOk.some rfl, Below.refl _ _, rfl⟩
  · intro T w Q hu hs hv hw hd
    have hx21 : T.getD 21 undef = (.bool true) := Deps.at 16 hd (by kernel_rfl)
    refine .inl ⟨wanted_none rfl, ?_⟩
    clear hd hv hu hs hw
    go_simp
    exact ⟨_, rfl, DstOk.some rfl, Below.refl _ _, rfl⟩
  · intro T w Q hu hs hv hw hd
    have hx0 : T.getD 0 undef = (.pointer (some ⟨p, 0, none⟩)) := hv 0 (by kernel_rfl)
    refine .inl ⟨wanted_some rfl (Deps.at 17 hd (by kernel_rfl) : slotOf _ T 17 = .bool true), ?_⟩
    clear hd hv hu hs hw
    go_simp
    exact ⟨_, rfl, DstOk.some rfl, Below.refl _ _, rfl⟩
  · intro T w Q hu hs hv hw hd
    have hx23 : T.getD 23 undef = (.pointer (some ⟨p, 0, none⟩)) := Deps.at 18 hd (by kernel_rfl)
    refine .inl ⟨wanted_some rfl (Deps.at 17 hd (by kernel_rfl) : slotOf _ T 17 = .bool true), ?_⟩
    clear hd hv hu hs hw
    go_simp
    exact ⟨_, rfl, DstOk.some rfl, Below.refl _ _, rfl⟩
  · intro T w Q hu hs hv hw hd
    have hx24 : T.getD 24 undef = (.pointer (some ⟨p, 0, none⟩)) := Deps.at 19 hd (by kernel_rfl)
    refine .inl ⟨wanted_some rfl (Deps.at 17 hd (by kernel_rfl) : slotOf _ T 17 = .bool true), ?_⟩
    clear hd hv hu hs hw
    go_simp
    exact ⟨_, rfl, DstOk.some rfl, Below.refl _ _, rfl⟩
  · intro T w Q hu hs hv hw hd
    have hx25 : T.getD 25 undef = (.pointer (some ⟨p, 0, none⟩)) := Deps.at 20 hd (by kernel_rfl)
    refine .inl ⟨wanted_some rfl (Deps.at 17 hd (by kernel_rfl) : slotOf _ T 17 = .bool true), ?_⟩
    have hq := hu.cell c0.out id
    clear hd hv hu hs hw
    go_simp
    exact ⟨_, rfl, DstOk.some rfl, Below.refl _ _, rfl⟩
  · intro T w Q hu hs hv hw hd
    have hx0 : T.getD 0 undef = (.pointer (some ⟨p, 0, none⟩)) := hv 0 (by kernel_rfl)
    refine .inl ⟨wanted_some rfl (Deps.at 17 hd (by kernel_rfl) : slotOf _ T 17 = .bool true), ?_⟩
    clear hd hv hu hs hw
    go_simp
    exact ⟨_, rfl, DstOk.some rfl, Below.refl _ _, rfl⟩
  · intro T w Q hu hs hv hw hd
    have hx27 : T.getD 27 undef = (.pointer (some ⟨p, 0, none⟩)) := Deps.at 22 hd (by kernel_rfl)
    refine .inl ⟨wanted_some rfl (Deps.at 17 hd (by kernel_rfl) : slotOf _ T 17 = .bool true), ?_⟩
    clear hd hv hu hs hw
    go_simp
    exact ⟨_, rfl, DstOk.some rfl, Below.refl _ _, rfl⟩
  · intro T w Q hu hs hv hw hd
    have hx28 : T.getD 28 undef = (.pointer (some ⟨p, 0, none⟩)) := Deps.at 23 hd (by kernel_rfl)
    refine .inl ⟨wanted_some rfl (Deps.at 17 hd (by kernel_rfl) : slotOf _ T 17 = .bool true), ?_⟩
    clear hd hv hu hs hw
    go_simp
    exact ⟨_, rfl, DstOk.some rfl, Below.refl _ _, rfl⟩
  · intro T w Q hu hs hv hw hd
    have hx29 : T.getD 29 undef = (.pointer (some ⟨p, 1, none⟩)) := Deps.at 24 hd (by kernel_rfl)
    refine .inl ⟨wanted_some rfl (Deps.at 17 hd (by kernel_rfl) : slotOf _ T 17 = .bool true), ?_⟩
    have hq := hu.cell c1.out id
    clear hd hv hu hs hw
    go_simp
    exact ⟨_, rfl, DstOk.some rfl, Below.refl _ _, rfl⟩
  · intro T w Q hu hs hv hw hd
    have hx26 : T.getD 26 undef = (.slice (some ⟨b, 0, none⟩) N c) := Deps.at 21 hd (by kernel_rfl)
    have hx30 : T.getD 30 undef = (.int .i64 i) := Deps.at 25 hd (by kernel_rfl)
    refine .inl ⟨wanted_some rfl (Deps.at 17 hd (by kernel_rfl) : slotOf _ T 17 = .bool true), ?_⟩
    have a0 := hlt.out
    clear hd hv hu hs hw
    go_simp
    exact ⟨_, rfl, DstOk.some rfl, Below.refl _ _, rfl⟩
  · intro T w Q hu hs hv hw hd
    have hx31 : T.getD 31 undef = (.pointer (some ⟨b, i * 3, none⟩)) := Deps.at 26 hd (by kernel_rfl)
    refine .inl ⟨wanted_some rfl (Deps.at 17 hd (by kernel_rfl) : slotOf _ T 17 = .bool true), ?_⟩
    clear hd hv hu hs hw
    go_simp
    exact ⟨_, rfl, DstOk.some rfl, Below.refl _ _, rfl⟩
  · intro T w Q hu hs hv hw hd
    have hx32 : T.getD 32 undef = (.pointer (some ⟨b, i * 3, none⟩)) := Deps.at 27 hd (by kernel_rfl)
    refine .inl ⟨wanted_some rfl (Deps.at 17 hd (by kernel_rfl) : slotOf _ T 17 = .bool true), ?_⟩
    have hq := hu.cell t0.out id
    clear hd hv hu hs hw
    go_simp
    exact ⟨_, rfl, DstOk.some rfl, Below.refl _ _, rfl⟩
  · intro T w Q hu hs hv hw hd
    have hx33 : T.getD 33 undef = (.int .i64 k) := Deps.at 28 hd (by kernel_rfl)
    refine .inl ⟨wanted_some rfl (Deps.at 17 hd (by kernel_rfl) : slotOf _ T 17 = .bool true), ?_⟩
    have a0 := hk.out
    clear hd hv hu hs hw
    go_simp
    exact ⟨_, rfl, DstOk.some rfl, Below.refl _ _, by first | rfl | exact congrArg Value.bool (by first | (simp only [decide_eq_true_eq, decide_eq_false_iff_not]; omega) | (simp; exact eq_of_beq a0) | (simp; exact ne_of_beq_false a0) | simp [a0] | simp_all)⟩
  · intro T w Q hu hs hv hw hd
    have hx22 : T.getD 22 undef = (.bool true) := Deps.at 17 hd (by kernel_rfl)
    have hx34 : T.getD 34 undef = (.bool true) := Deps.at 29 hd (by kernel_rfl)
    refine .inl ⟨wanted_none rfl, ?_⟩
    clear hd hv hu hs hw
    go_simp
    exact ⟨_, rfl, DstOk.some rfl, Below.refl _ _, rfl⟩
  · intro T w Q hu hs hv hw hd
    have hx35 : T.getD 35 undef = (.bool true) := Deps.at 30 hd (by kernel_rfl)
    refine .inl ⟨wanted_none rfl, ?_⟩
    clear hd hv hu hs hw
    go_simp
    exact ⟨_, rfl, DstOk.some rfl, Below.refl _ _, rfl⟩
  · intro T w Q hu hs hv hw hd
    have hx0 : T.getD 0 undef = (.pointer (some ⟨p, 0, none⟩)) := hv 0 (by kernel_rfl)
    refine .inl ⟨wanted_some rfl (Deps.at 31 hd (by kernel_rfl) : slotOf _ T 31 = .bool true), ?_⟩
    clear hd hv hu hs hw
    go_simp
    exact ⟨_, rfl, DstOk.some rfl, Below.refl _ _, rfl⟩
  · intro T w Q hu hs hv hw hd
    have hx37 : T.getD 37 undef = (.pointer (some ⟨p, 0, none⟩)) := Deps.at 32 hd (by kernel_rfl)
    refine .inl ⟨wanted_some rfl (Deps.at 31 hd (by kernel_rfl) : slotOf _ T 31 = .bool true), ?_⟩
    clear hd hv hu hs hw
    go_simp
    exact ⟨_, rfl, DstOk.some rfl, Below.refl _ _, rfl⟩
  · intro T w Q hu hs hv hw hd
    have hx38 : T.getD 38 undef = (.pointer (some ⟨p, 0, none⟩)) := Deps.at 33 hd (by kernel_rfl)
    refine .inl ⟨wanted_some rfl (Deps.at 31 hd (by kernel_rfl) : slotOf _ T 31 = .bool true), ?_⟩
    clear hd hv hu hs hw
    go_simp
    exact ⟨_, rfl, DstOk.some rfl, Below.refl _ _, rfl⟩
  · intro T w Q hu hs hv hw hd
    have hx39 : T.getD 39 undef = (.pointer (some ⟨p, 0, none⟩)) := Deps.at 34 hd (by kernel_rfl)
    refine .inl ⟨wanted_some rfl (Deps.at 31 hd (by kernel_rfl) : slotOf _ T 31 = .bool true), ?_⟩
    have hq := hu.cell c0.out id
    clear hd hv hu hs hw
    go_simp
    exact ⟨_, rfl, DstOk.some rfl, Below.refl _ _, rfl⟩
  · intro T w Q hu hs hv hw hd
    have hx0 : T.getD 0 undef = (.pointer (some ⟨p, 0, none⟩)) := hv 0 (by kernel_rfl)
    refine .inl ⟨wanted_some rfl (Deps.at 31 hd (by kernel_rfl) : slotOf _ T 31 = .bool true), ?_⟩
    clear hd hv hu hs hw
    go_simp
    exact ⟨_, rfl, DstOk.some rfl, Below.refl _ _, rfl⟩
  · intro T w Q hu hs hv hw hd
    have hx41 : T.getD 41 undef = (.pointer (some ⟨p, 0, none⟩)) := Deps.at 36 hd (by kernel_rfl)
    refine .inl ⟨wanted_some rfl (Deps.at 31 hd (by kernel_rfl) : slotOf _ T 31 = .bool true), ?_⟩
    clear hd hv hu hs hw
    go_simp
    exact ⟨_, rfl, DstOk.some rfl, Below.refl _ _, rfl⟩
  · intro T w Q hu hs hv hw hd
    have hx42 : T.getD 42 undef = (.pointer (some ⟨p, 0, none⟩)) := Deps.at 37 hd (by kernel_rfl)
    refine .inl ⟨wanted_some rfl (Deps.at 31 hd (by kernel_rfl) : slotOf _ T 31 = .bool true), ?_⟩
    clear hd hv hu hs hw
    go_simp
    exact ⟨_, rfl, DstOk.some rfl, Below.refl _ _, rfl⟩
  · intro T w Q hu hs hv hw hd
    have hx43 : T.getD 43 undef = (.pointer (some ⟨p, 1, none⟩)) := Deps.at 38 hd (by kernel_rfl)
    refine .inl ⟨wanted_some rfl (Deps.at 31 hd (by kernel_rfl) : slotOf _ T 31 = .bool true), ?_⟩
    have hq := hu.cell c1.out id
    clear hd hv hu hs hw
    go_simp
    exact ⟨_, rfl, DstOk.some rfl, Below.refl _ _, rfl⟩
  · intro T w Q hu hs hv hw hd
    have hx40 : T.getD 40 undef = (.slice (some ⟨b, 0, none⟩) N c) := Deps.at 35 hd (by kernel_rfl)
    have hx44 : T.getD 44 undef = (.int .i64 i) := Deps.at 39 hd (by kernel_rfl)
    refine .inl ⟨wanted_some rfl (Deps.at 31 hd (by kernel_rfl) : slotOf _ T 31 = .bool true), ?_⟩
    have a0 := hlt.out
    clear hd hv hu hs hw
    go_simp
    exact ⟨_, rfl, DstOk.some rfl, Below.refl _ _, rfl⟩
  · intro T w Q hu hs hv hw hd
    have hx45 : T.getD 45 undef = (.pointer (some ⟨b, i * 3, none⟩)) := Deps.at 40 hd (by kernel_rfl)
    refine .inl ⟨wanted_some rfl (Deps.at 31 hd (by kernel_rfl) : slotOf _ T 31 = .bool true), ?_⟩
    clear hd hv hu hs hw
    go_simp
    exact ⟨_, rfl, DstOk.some rfl, Below.refl _ _, rfl⟩
  · intro T w Q hu hs hv hw hd
    have hx46 : T.getD 46 undef = (.pointer (some ⟨b, i * 3 + 1, none⟩)) := Deps.at 41 hd (by kernel_rfl)
    refine .inl ⟨wanted_some rfl (Deps.at 31 hd (by kernel_rfl) : slotOf _ T 31 = .bool true), ?_⟩
    have hq := hu.cell t1.out id
    clear hd hv hu hs hw
    go_simp
    exact ⟨_, rfl, DstOk.some rfl, Below.refl _ _, rfl⟩
  · intro T w Q hu hs hv hw hd
    have hx1 : T.getD 1 undef = (.string (strB x)) := hv 1 (by kernel_rfl)
    refine .inl ⟨wanted_some rfl (Deps.at 31 hd (by kernel_rfl) : slotOf _ T 31 = .bool true), ?_⟩
    clear hd hv hu hs hw
    go_simp
    exact ⟨_, rfl, DstOk.some rfl, Below.refl _ _, rfl⟩
  · intro T w Q hu hs hv hw hd
    have hx47 : T.getD 47 undef = (.string (strB tx)) := Deps.at 42 hd (by kernel_rfl)
    have hx48 : T.getD 48 undef = (.string (strB x)) := Deps.at 43 hd (by kernel_rfl)
    refine .inl ⟨wanted_some rfl (Deps.at 31 hd (by kernel_rfl) : slotOf _ T 31 = .bool true), ?_⟩
    clear hd hv hu hs hw
    have hE := str_beq tx x
    go_simp
    exact ⟨_, rfl, DstOk.some rfl, Below.refl _ _, rfl⟩
  · intro T w Q hu hs hv hw hd
    have hx36 : T.getD 36 undef = (.bool true) := Deps.at 31 hd (by kernel_rfl)
    have hx49 : T.getD 49 undef = (.bool (tx == x)) := Deps.at 44 hd (by kernel_rfl)
    refine .inl ⟨wanted_none rfl, ?_⟩
    clear hd hv hu hs hw
    go_simp
    exact ⟨_, rfl, DstOk.some rfl, Below.refl _ _, rfl⟩
  · intro T w Q hu hs hv hw hd
    have hx50 : T.getD 50 undef = (.bool (tx == x)) := Deps.at 45 hd (by kernel_rfl)
    refine .inl ⟨wanted_none rfl, ?_⟩
    clear hd hv hu hs hw
    go_simp
    exact ⟨_, rfl, DstOk.some rfl, Below.refl _ _, rfl⟩
  intro T w hu hs hv hf hcur
  have hT : T = #[T.getD 0 undef, T.getD 1 undef, T.getD 2 undef, T.getD 3 undef, T.getD 4 undef, T.getD 5 undef, T.getD 6 undef, T.getD 7 undef, T.getD 8 undef, T.getD 9 undef, T.getD 10 undef, T.getD 11 undef, T.getD 12 undef, T.getD 13 undef, T.getD 14 undef, T.getD 15 undef, T.getD 16 undef, T.getD 17 undef, T.getD 18 undef, T.getD 19 undef, T.getD 20 undef, T.getD 21 undef, T.getD 22 undef, T.getD 23 undef, T.getD 24 undef, T.getD 25 undef, T.getD 26 undef, T.getD 27 undef, T.getD 28 undef, T.getD 29 undef, T.getD 30 undef, T.getD 31 undef, T.getD 32 undef, T.getD 33 undef, T.getD 34 undef, T.getD 35 undef, T.getD 36 undef, T.getD 37 undef, T.getD 38 undef, T.getD 39 undef, T.getD 40 undef, T.getD 41 undef, T.getD 42 undef, T.getD 43 undef, T.getD 44 undef, T.getD 45 undef, T.getD 46 undef, T.getD 47 undef, T.getD 48 undef, T.getD 49 undef, T.getD 50 undef] := expl hs
  rw [hT]
  clear hT
  rw [show T.getD 0 undef = (.pointer (some ⟨p, 0, none⟩)) from hv 0 (by kernel_rfl)]
  rw [show T.getD 1 undef = (.string (strB x)) from hv 1 (by kernel_rfl)]
  rw [hv 2 (by kernel_rfl)]
  rw [hv 3 (by kernel_rfl)]
  rw [show T.getD 4 undef = (.bool (tx == x)) from hf 46 (by decide)]
  rw [show T.getD 5 undef = (.pointer (some ⟨p, 0, none⟩)) from hf 0 (by decide)]
  rw [show T.getD 6 undef = (.pointer (some ⟨p, 0, none⟩)) from hf 1 (by decide)]
  rw [show T.getD 7 undef = (.pointer (some ⟨p, 3, none⟩)) from hf 2 (by decide)]
  rw [show T.getD 8 undef = (.int .i64 0) from hf 3 (by decide)]
  rw [show T.getD 9 undef = (.bool true) from hf 4 (by decide)]
  rw [show T.getD 10 undef = (.bool true) from hf 5 (by decide)]
  rw [show T.getD 11 undef = (.pointer (some ⟨p, 0, none⟩)) from hf 6 (by decide)]
  rw [show T.getD 12 undef = (.pointer (some ⟨p, 0, none⟩)) from hf 7 (by decide)]
  rw [show T.getD 13 undef = (.pointer (some ⟨p, 1, none⟩)) from hf 8 (by decide)]
  rw [show T.getD 14 undef = (.int .i64 i) from hf 9 (by decide)]
  rw [show T.getD 15 undef = (.pointer (some ⟨p, 0, none⟩)) from hf 10 (by decide)]
  rw [show T.getD 16 undef = (.pointer (some ⟨p, 0, none⟩)) from hf 11 (by decide)]
  rw [show T.getD 17 undef = (.pointer (some ⟨p, 0, none⟩)) from hf 12 (by decide)]
  rw [show T.getD 18 undef = (.slice (some ⟨b, 0, none⟩) N c) from hf 13 (by decide)]
  rw [show T.getD 19 undef = (.int .i64 N) from hf 14 (by decide)]
  rw [show T.getD 20 undef = (.bool true) from hf 15 (by decide)]
  rw [show T.getD 21 undef = (.bool true) from hf 16 (by decide)]
  rw [show T.getD 22 undef = (.bool true) from hf 17 (by decide)]
  rw [show T.getD 23 undef = (.pointer (some ⟨p, 0, none⟩)) from hf 18 (by decide)]
  rw [show T.getD 24 undef = (.pointer (some ⟨p, 0, none⟩)) from hf 19 (by decide)]
  rw [show T.getD 25 undef = (.pointer (some ⟨p, 0, none⟩)) from hf 20 (by decide)]
  rw [show T.getD 26 undef = (.slice (some ⟨b, 0, none⟩) N c) from hf 21 (by decide)]
  rw [show T.getD 27 undef = (.pointer (some ⟨p, 0, none⟩)) from hf 22 (by decide)]
  rw [show T.getD 28 undef = (.pointer (some ⟨p, 0, none⟩)) from hf 23 (by decide)]
  rw [show T.getD 29 undef = (.pointer (some ⟨p, 1, none⟩)) from hf 24 (by decide)]
  rw [show T.getD 30 undef = (.int .i64 i) from hf 25 (by decide)]
  rw [show T.getD 31 undef = (.pointer (some ⟨b, i * 3, none⟩)) from hf 26 (by decide)]
  rw [show T.getD 32 undef = (.pointer (some ⟨b, i * 3, none⟩)) from hf 27 (by decide)]
  rw [show T.getD 33 undef = (.int .i64 k) from hf 28 (by decide)]
  rw [show T.getD 34 undef = (.bool true) from hf 29 (by decide)]
  rw [show T.getD 35 undef = (.bool true) from hf 30 (by decide)]
  rw [show T.getD 36 undef = (.bool true) from hf 31 (by decide)]
  rw [show T.getD 37 undef = (.pointer (some ⟨p, 0, none⟩)) from hf 32 (by decide)]
  rw [show T.getD 38 undef = (.pointer (some ⟨p, 0, none⟩)) from hf 33 (by decide)]
  rw [show T.getD 39 undef = (.pointer (some ⟨p, 0, none⟩)) from hf 34 (by decide)]
  rw [show T.getD 40 undef = (.slice (some ⟨b, 0, none⟩) N c) from hf 35 (by decide)]
  rw [show T.getD 41 undef = (.pointer (some ⟨p, 0, none⟩)) from hf 36 (by decide)]
  rw [show T.getD 42 undef = (.pointer (some ⟨p, 0, none⟩)) from hf 37 (by decide)]
  rw [show T.getD 43 undef = (.pointer (some ⟨p, 1, none⟩)) from hf 38 (by decide)]
  rw [show T.getD 44 undef = (.int .i64 i) from hf 39 (by decide)]
  rw [show T.getD 45 undef = (.pointer (some ⟨b, i * 3, none⟩)) from hf 40 (by decide)]
  rw [show T.getD 46 undef = (.pointer (some ⟨b, i * 3 + 1, none⟩)) from hf 41 (by decide)]
  rw [show T.getD 47 undef = (.string (strB tx)) from hf 42 (by decide)]
  rw [show T.getD 48 undef = (.string (strB x)) from hf 43 (by decide)]
  rw [show T.getD 49 undef = (.bool (tx == x)) from hf 44 (by decide)]
  rw [show T.getD 50 undef = (.bool (tx == x)) from hf 45 (by decide)]
  clear hf hs hv hcur
  simp only [getD_toArray, List.getD_cons_succ, List.getD_cons_zero]
  clear T
  have hb9 := hide (hu.below (Nat.le_refl _) fun _ h => h.elim)
  clear hu
  go_wp2_with fail
  go_ret
  exact ⟨rfl, hb9.out⟩
def kwsC : Array Value := #[.string ⟨#[102, 110]⟩, .string ⟨#[118, 97, 114]⟩, .string ⟨#[112, 116, 114]⟩, .string ⟨#[105, 102]⟩, .string ⟨#[101, 108, 115, 101]⟩, .string ⟨#[119, 104, 105, 108, 101]⟩, .string ⟨#[114, 101, 116, 117, 114, 110]⟩, .string ⟨#[97, 115, 115, 101, 114, 116]⟩, .string ⟨#[110, 117, 108, 108]⟩, .string ⟨#[99, 101, 108, 108]⟩, .string ⟨#[97, 114, 114, 97, 121]⟩]
theorem kwsC_at {k : Nat} (h : k < kws.length) : kwsC[k]? = some (.string (strB kws[k])) := by
  have e : kwsC = (kws.map fun x => Value.string (strB x)).toArray := rfl
  rw [e, List.getElem?_toArray, List.getElem?_map, List.getElem?_eq_getElem h]; rfl
theorem isKw_at {s : List UInt8} {k : Nat} (h : k < kws.length) (e : (kws[k] == s) = true) : isKw s = true := by
  unfold isKw
  rw [List.contains_iff_mem]
  have := List.getElem_mem h
  rw [eq_of_beq e] at this
  exact this
theorem isKw_none {s : List UInt8} (h : ∀ j (hj : j < kws.length), (kws[j] == s) = false) : isKw s = false := by
  unfold isKw
  rw [Bool.eq_false_iff, Ne, List.contains_iff_mem]
  intro hm
  obtain ⟨j, hj, e⟩ := List.getElem_of_mem hm
  have := h j hj
  rw [e] at this
  simp at this
set_option maxRecDepth 100000 in
set_option maxHeartbeats 1600000 in
theorem word_any (s : List UInt8) (w : World) : Calls Tryd.prog 63 #[.string (strB s)] w fun e w' => e = .returned (.bool (isKw s)) ∧ Below w.heap.size w w' := by
  have hb := hide ((Below.refl w.heap.size w).alloc (Nat.le_refl _) (.cells kwsC 9))
  have hx := hide (heap_new w (.cells kwsC 9))
  have hkl : kws.length = 11 := rfl
  replace hkl := hide hkl
  go_enter Tryd.func63, Tryd.ntmps63
  go_wp2_with fail
  generalize hw2 : w.alloc (.cells #[.string ⟨#[102, 110]⟩, .string ⟨#[118, 97, 114]⟩, .string ⟨#[112, 116, 114]⟩, .string ⟨#[105, 102]⟩, .string ⟨#[101, 108, 115, 101]⟩, .string ⟨#[119, 104, 105, 108, 101]⟩, .string ⟨#[114, 101, 116, 117, 114, 110]⟩, .string ⟨#[97, 115, 115, 101, 114, 116]⟩, .string ⟨#[110, 117, 108, 108]⟩, .string ⟨#[99, 101, 108, 108]⟩, .string ⟨#[97, 114, 114, 97, 121]⟩] 9) = w2 at *
  have hb2 : Below w.heap.size w w2 := by rw [← hw2]; exact hb.out
  have hx2 : w2.heap[w.heap.size]? = some (.cells kwsC 9) := by rw [← hw2]; exact hx.out
  generalize hg : w.heap.size = g at hb2 hx2 ⊢
  replace hg := hide hg
  replace hw2 := hide hw2
  clear hb hx hw2
  go_loop [4] (fun i => ∃ k : Nat, k ≤ 11 ∧ i = .int .i64 k ∧ ∀ j (hj : j < kws.length), j < k → (kws[j] == s) = false) (fun i => 11 - (RowKit.intOf i).toNat)
  case atStart => exact ⟨0, Nat.zero_le _, rfl, fun j _ h => absurd h (Nat.not_lt_zero _)⟩
  case round =>
    obtain ⟨k, hk, rfl, hprev⟩ := hrel
    replace hprev := hide hprev
    by_cases hlt : k < 11
    · have hlt' : (k : Int) < 11 := by omega
      have hkk : k < kws.length := by rw [hkl.out]; exact hlt
      have hc : w2.cell? ⟨g, k, none⟩ = some (.string (strB kws[k])) := (cell_at hx2 k).trans (kwsC_at hkk)
      have hq := str_beq kws[k] s
      have hall := hide (fun e => isKw_at (s := s) hkk e)
      have hnext := hide (fun (e : (kws[k] == s) = false) => (fun j hj hjk => by
        rcases Nat.lt_succ_iff_lt_or_eq.1 hjk with h | h
        · exact hprev.out j hj h
        · subst h; exact e : ∀ j (hj : j < kws.length), j < k + 1 → (kws[j] == s) = false))
      generalize hK : kws[k] = K at hc hq hall
      cases hb3 : K == s with
      | true =>
        rw [hb3] at hq
        have hI := hall.out hb3
        replace hI := hide hI
        replace hx2 := hide hx2
        replace hb2 := hide hb2
        replace hK := hide hK
        clear hall hnext hb3
        go_wp2_with fail
        go_ret
        exact ⟨(congrArg (fun b => Ending.returned (.bool b)) hI.out).symm, by rw [hg.out]; exact hb2.out⟩
      | false =>
        rw [hb3] at hq
        have hn := hide (hnext.out (by rw [hK]; exact hb3))
        replace hK := hide hK
        replace hx2 := hide hx2
        replace hb2 := hide hb2
        clear hall hnext hb3
        go_wp2_with fail
        go_round
        case rel => exact ⟨k + 1, by omega, by go_num, hn.out⟩
        case measure => simp [RowKit.intOf]; omega
    · obtain rfl : k = 11 := by omega
      have hI := hide (isKw_none (s := s) fun j hj => hprev.out j hj (by rw [hkl.out] at hj; exact hj))
      replace hx2 := hide hx2
      replace hb2 := hide hb2
      go_wp2_with fail
      go_ret
      exact ⟨(congrArg (fun b => Ending.returned (.bool b)) hI.out).symm, by rw [hg.out]; exact hb2.out⟩
set_option maxRecDepth 100000 in
set_option maxHeartbeats 1600000 in
theorem nm_e (p : Nat) (w : World) (e a d n i : Nat) (C : Cx) (h : RfW w p C i e a d n) (he0 : e ≠ 0) :
    Calls Tryd.prog 52 #[.pointer (some ⟨p, 0, none⟩)] w fun r w' => r = .returned (.bool false) ∧ Below w.heap.size w w' := by
  have hh := h.heap
  obtain ⟨A, c, hA, hm⟩ := h.row.slice
  have hrow := h.row
  rw [hA] at hh hrow
  generalize hN : C.ts.length = N at *
  have c0 := cell_at hh 0
  have c1 := cell_at hh 1
  have c3 := cell_at hh 3
  simp at c0 c1 c3
  have he : ((e : Int) == 0) = false := beq_false_of_ne (by omega)
  replace he := hide he
  clear he0
  replace c0 := hide c0
  replace c1 := hide c1
  replace c3 := hide c3
  clear hh hrow hm hA h hN
  go_enter Tryd.func52, Tryd.ntmps52
  go_wp2_with fail
  refine wp_region_flow (fun _ => False) (factAt [(fun v _ => v = (.pointer (some ⟨p, 0, none⟩))), (fun v _ => v = (.pointer (some ⟨p, 0, none⟩))), (fun v _ => v = (.pointer (some ⟨p, 3, none⟩))), (fun v _ => v = (.int .i64 e)), (fun v _ => v = (.bool false)), (fun v _ => v = (.bool false)), (fun v _ => v = undef), (fun v _ => v = undef), (fun v _ => v = undef), (fun v _ => v = undef), (fun v _ => v = undef), (fun v _ => v = undef), (fun v _ => v = undef), (fun v _ => v = undef), (fun v _ => v = undef), (fun v _ => v = undef), (fun v _ => v = (Value.bool false)), (fun v _ => v = (Value.bool false)), (fun v _ => v = undef), (fun v _ => v = undef), (fun v _ => v = undef), (fun v _ => v = undef), (fun v _ => v = undef), (fun v _ => v = undef), (fun v _ => v = undef), (fun v _ => v = undef), (fun v _ => v = undef), (fun v _ => v = undef), (fun v _ => v = undef), (fun v _ => v = undef), (fun v _ => v = (Value.bool false)), (fun v _ => v = (Value.bool false)), (fun v _ => v = undef), (fun v _ => v = undef), (fun v _ => v = undef), (fun v _ => v = undef), (fun v _ => v = undef), (fun v _ => v = undef), (fun v _ => v = undef), (fun v _ => v = undef), (fun v _ => v = undef), (fun v _ => v = undef), (fun v _ => v = undef), (fun v _ => v = undef), (fun v _ => v = undef), (fun v _ => v = (Value.bool false)), (fun v _ => v = (Value.bool false))]) [] (fun _ => True) (by kernel_rfl) (fkept_at ⟨FKept.eq _, FKept.eq _, FKept.eq _, FKept.eq _, FKept.eq _, FKept.eq _, FKept.eq _, FKept.eq _, FKept.eq _, FKept.eq _, FKept.eq _, FKept.eq _, FKept.eq _, FKept.eq _, FKept.eq _, FKept.eq _, FKept.eq _, FKept.eq _, FKept.eq _, FKept.eq _, FKept.eq _, FKept.eq _, FKept.eq _, FKept.eq _, FKept.eq _, FKept.eq _, FKept.eq _, FKept.eq _, FKept.eq _, FKept.eq _, FKept.eq _, FKept.eq _, FKept.eq _, FKept.eq _, FKept.eq _, FKept.eq _, FKept.eq _, FKept.eq _, FKept.eq _, FKept.eq _, FKept.eq _, FKept.eq _, FKept.eq _, FKept.eq _, FKept.eq _, FKept.eq _, FKept.eq _, trivial⟩) (fun _ _ h _ => h) trivial (by kernel_rfl) (by kernel_rfl) (by kernel_rfl) (by kernel_rfl) (Nat.le_of_ble_eq_true (by kernel_rfl)) ?_ ⟨?_, ?_, ?_, ?_, ?_, ?_, ?_, ?_, ?_, ?_, ?_, ?_, ?_, ?_, ?_, ?_, ?_, ?_, ?_, ?_, ?_, ?_, ?_, ?_, ?_, ?_, ?_, ?_, ?_, ?_, ?_, ?_, ?_, ?_, ?_, ?_, ?_, ?_, ?_, ?_, ?_, ?_, ?_, ?_, ?_, ?_, ?_, trivial⟩ ?_
  · first | exact trivial | assumption
  · intro T w Q hu hs hv hw hd
    have hx0 : T.getD 0 undef = (.pointer (some ⟨p, 0, none⟩)) := hv 0 (by kernel_rfl)
    refine .inl ⟨wanted_none rfl, ?_⟩
    clear hd hv hu hs hw
    go_simp
    exact ⟨_, rfl, DstOk.some rfl, Below.refl _ _, rfl⟩
  · intro T w Q hu hs hv hw hd
    have hx3 : T.getD 3 undef = (.pointer (some ⟨p, 0, none⟩)) := Deps.at 0 hd (by kernel_rfl)
    refine .inl ⟨wanted_none rfl, ?_⟩
    clear hd hv hu hs hw
    go_simp
    exact ⟨_, rfl, DstOk.some rfl, Below.refl _ _, rfl⟩
  · intro T w Q hu hs hv hw hd
    have hx4 : T.getD 4 undef = (.pointer (some ⟨p, 0, none⟩)) := Deps.at 1 hd (by kernel_rfl)
    refine .inl ⟨wanted_none rfl, ?_⟩
    clear hd hv hu hs hw
    go_simp
    exact ⟨_, rfl, DstOk.some rfl, Below.refl _ _, rfl⟩
  · intro T w Q hu hs hv hw hd
    have hx5 : T.getD 5 undef = (.pointer (some ⟨p, 3, none⟩)) := Deps.at 2 hd (by kernel_rfl)
    refine .inl ⟨wanted_none rfl, ?_⟩
    have hq := hu.cell c3.out id
    clear hd hv hu hs hw
    go_simp
    exact ⟨_, rfl, DstOk.some rfl, Below.refl _ _, rfl⟩
  · intro T w Q hu hs hv hw hd
    have hx6 : T.getD 6 undef = (.int .i64 e) := Deps.at 3 hd (by kernel_rfl)
    refine .inl ⟨wanted_none rfl, ?_⟩
    have a0 := he.out
    clear hd hv hu hs hw
    go_simp
    exact ⟨_, rfl, DstOk.some rfl, Below.refl _ _, by first | rfl | exact congrArg Value.bool (by first | (simp only [decide_eq_true_eq, decide_eq_false_iff_not]; omega) | (simp; exact eq_of_beq a0) | (simp; exact ne_of_beq_false a0) | simp [a0] | simp_all)⟩
  · intro T w Q hu hs hv hw hd
    have hx7 : T.getD 7 undef = (.bool false) := Deps.at 4 hd (by kernel_rfl)
    refine .inl ⟨wanted_none rfl, ?_⟩
    clear hd hv hu hs hw
    go_simp
    exact ⟨_, rfl, DstOk.some rfl, Below.refl _ _, rfl⟩
  · intro T w Q hu hs hv hw hd
    exact .inr ⟨wanted_not rfl (Deps.at 5 hd (by kernel_rfl) : slotOf _ T 5 = .bool (!true)), rfl⟩
  · intro T w Q hu hs hv hw hd
    exact .inr ⟨wanted_not rfl (Deps.at 5 hd (by kernel_rfl) : slotOf _ T 5 = .bool (!true)), rfl⟩
  · intro T w Q hu hs hv hw hd
    exact .inr ⟨wanted_not rfl (Deps.at 5 hd (by kernel_rfl) : slotOf _ T 5 = .bool (!true)), rfl⟩
  · intro T w Q hu hs hv hw hd
    exact .inr ⟨wanted_not rfl (Deps.at 5 hd (by kernel_rfl) : slotOf _ T 5 = .bool (!true)), rfl⟩
  · intro T w Q hu hs hv hw hd
    exact .inr ⟨wanted_not rfl (Deps.at 5 hd (by kernel_rfl) : slotOf _ T 5 = .bool (!true)), rfl⟩
  · intro T w Q hu hs hv hw hd
    exact .inr ⟨wanted_not rfl (Deps.at 5 hd (by kernel_rfl) : slotOf _ T 5 = .bool (!true)), rfl⟩
  · intro T w Q hu hs hv hw hd
    exact .inr ⟨wanted_not rfl (Deps.at 5 hd (by kernel_rfl) : slotOf _ T 5 = .bool (!true)), rfl⟩
  · intro T w Q hu hs hv hw hd
    exact .inr ⟨wanted_not rfl (Deps.at 5 hd (by kernel_rfl) : slotOf _ T 5 = .bool (!true)), rfl⟩
  · intro T w Q hu hs hv hw hd
    exact .inr ⟨wanted_not rfl (Deps.at 5 hd (by kernel_rfl) : slotOf _ T 5 = .bool (!true)), rfl⟩
  · intro T w Q hu hs hv hw hd
    exact .inr ⟨wanted_not rfl (Deps.at 5 hd (by kernel_rfl) : slotOf _ T 5 = .bool (!true)), rfl⟩
  · intro T w Q hu hs hv hw hd
    have hx8 : T.getD 8 undef = (.bool false) := Deps.at 5 hd (by kernel_rfl)
    have hx18 : T.getD 18 undef = undef := Deps.at 15 hd (by kernel_rfl)
    refine .inl ⟨wanted_none rfl, ?_⟩
    clear hd hv hu hs hw
    go_simp
    exact ⟨_, rfl, DstOk.some rfl, Below.refl _ _, rfl⟩
  · intro T w Q hu hs hv hw hd
    have hx19 : T.getD 19 undef = (Value.bool false) := Deps.at 16 hd (by kernel_rfl)
    refine .inl ⟨wanted_none rfl, ?_⟩
    clear hd hv hu hs hw
    go_simp
    exact ⟨_, rfl, DstOk.some rfl, Below.refl _ _, rfl⟩
  · intro T w Q hu hs hv hw hd
    exact .inr ⟨wanted_not rfl (Deps.at 17 hd (by kernel_rfl) : slotOf _ T 17 = .bool (!true)), rfl⟩
  · intro T w Q hu hs hv hw hd
    exact .inr ⟨wanted_not rfl (Deps.at 17 hd (by kernel_rfl) : slotOf _ T 17 = .bool (!true)), rfl⟩
  · intro T w Q hu hs hv hw hd
    exact .inr ⟨wanted_not rfl (Deps.at 17 hd (by kernel_rfl) : slotOf _ T 17 = .bool (!true)), rfl⟩
  · intro T w Q hu hs hv hw hd
    exact .inr ⟨wanted_not rfl (Deps.at 17 hd (by kernel_rfl) : slotOf _ T 17 = .bool (!true)), rfl⟩
  · intro T w Q hu hs hv hw hd
    exact .inr ⟨wanted_not rfl (Deps.at 17 hd (by kernel_rfl) : slotOf _ T 17 = .bool (!true)), rfl⟩
  · intro T w Q hu hs hv hw hd
    exact .inr ⟨wanted_not rfl (Deps.at 17 hd (by kernel_rfl) : slotOf _ T 17 = .bool (!true)), rfl⟩
  · intro T w Q hu hs hv hw hd
    exact .inr ⟨wanted_not rfl (Deps.at 17 hd (by kernel_rfl) : slotOf _ T 17 = .bool (!true)), rfl⟩
  · intro T w Q hu hs hv hw hd
    exact .inr ⟨wanted_not rfl (Deps.at 17 hd (by kernel_rfl) : slotOf _ T 17 = .bool (!true)), rfl⟩
  · intro T w Q hu hs hv hw hd
    exact .inr ⟨wanted_not rfl (Deps.at 17 hd (by kernel_rfl) : slotOf _ T 17 = .bool (!true)), rfl⟩
  · intro T w Q hu hs hv hw hd
    exact .inr ⟨wanted_not rfl (Deps.at 17 hd (by kernel_rfl) : slotOf _ T 17 = .bool (!true)), rfl⟩
  · intro T w Q hu hs hv hw hd
    exact .inr ⟨wanted_not rfl (Deps.at 17 hd (by kernel_rfl) : slotOf _ T 17 = .bool (!true)), rfl⟩
  · intro T w Q hu hs hv hw hd
    exact .inr ⟨wanted_not rfl (Deps.at 17 hd (by kernel_rfl) : slotOf _ T 17 = .bool (!true)), rfl⟩
  · intro T w Q hu hs hv hw hd
    have hx20 : T.getD 20 undef = (Value.bool false) := Deps.at 17 hd (by kernel_rfl)
    have hx32 : T.getD 32 undef = undef := Deps.at 29 hd (by kernel_rfl)
    refine .inl ⟨wanted_none rfl, ?_⟩
    clear hd hv hu hs hw
    go_simp
    exact ⟨_, rfl, DstOk.some rfl, Below.refl _ _, rfl⟩
  · intro T w Q hu hs hv hw hd
    have hx33 : T.getD 33 undef = (Value.bool false) := Deps.at 30 hd (by kernel_rfl)
    refine .inl ⟨wanted_none rfl, ?_⟩
    clear hd hv hu hs hw
    go_simp
    exact ⟨_, rfl, DstOk.some rfl, Below.refl _ _, rfl⟩
  · intro T w Q hu hs hv hw hd
    exact .inr ⟨wanted_not rfl (Deps.at 31 hd (by kernel_rfl) : slotOf _ T 31 = .bool (!true)), rfl⟩
  · intro T w Q hu hs hv hw hd
    exact .inr ⟨wanted_not rfl (Deps.at 31 hd (by kernel_rfl) : slotOf _ T 31 = .bool (!true)), rfl⟩
  · intro T w Q hu hs hv hw hd
    exact .inr ⟨wanted_not rfl (Deps.at 31 hd (by kernel_rfl) : slotOf _ T 31 = .bool (!true)), rfl⟩
  · intro T w Q hu hs hv hw hd
    exact .inr ⟨wanted_not rfl (Deps.at 31 hd (by kernel_rfl) : slotOf _ T 31 = .bool (!true)), rfl⟩
  · intro T w Q hu hs hv hw hd
    exact .inr ⟨wanted_not rfl (Deps.at 31 hd (by kernel_rfl) : slotOf _ T 31 = .bool (!true)), rfl⟩
  · intro T w Q hu hs hv hw hd
    exact .inr ⟨wanted_not rfl (Deps.at 31 hd (by kernel_rfl) : slotOf _ T 31 = .bool (!true)), rfl⟩
  · intro T w Q hu hs hv hw hd
    exact .inr ⟨wanted_not rfl (Deps.at 31 hd (by kernel_rfl) : slotOf _ T 31 = .bool (!true)), rfl⟩
  · intro T w Q hu hs hv hw hd
    exact .inr ⟨wanted_not rfl (Deps.at 31 hd (by kernel_rfl) : slotOf _ T 31 = .bool (!true)), rfl⟩
  · intro T w Q hu hs hv hw hd
    exact .inr ⟨wanted_not rfl (Deps.at 31 hd (by kernel_rfl) : slotOf _ T 31 = .bool (!true)), rfl⟩
  · intro T w Q hu hs hv hw hd
    exact .inr ⟨wanted_not rfl (Deps.at 31 hd (by kernel_rfl) : slotOf _ T 31 = .bool (!true)), rfl⟩
  · intro T w Q hu hs hv hw hd
    exact .inr ⟨wanted_not rfl (Deps.at 31 hd (by kernel_rfl) : slotOf _ T 31 = .bool (!true)), rfl⟩
  · intro T w Q hu hs hv hw hd
    exact .inr ⟨wanted_not rfl (Deps.at 31 hd (by kernel_rfl) : slotOf _ T 31 = .bool (!true)), rfl⟩
  · intro T w Q hu hs hv hw hd
    exact .inr ⟨wanted_not rfl (Deps.at 31 hd (by kernel_rfl) : slotOf _ T 31 = .bool (!true)), rfl⟩
  · intro T w Q hu hs hv hw hd
    have hx34 : T.getD 34 undef = (Value.bool false) := Deps.at 31 hd (by kernel_rfl)
    have hx47 : T.getD 47 undef = undef := Deps.at 44 hd (by kernel_rfl)
    refine .inl ⟨wanted_none rfl, ?_⟩
    clear hd hv hu hs hw
    go_simp
    exact ⟨_, rfl, DstOk.some rfl, Below.refl _ _, rfl⟩
  · intro T w Q hu hs hv hw hd
    have hx48 : T.getD 48 undef = (Value.bool false) := Deps.at 45 hd (by kernel_rfl)
    refine .inl ⟨wanted_none rfl, ?_⟩
    clear hd hv hu hs hw
    go_simp
    exact ⟨_, rfl, DstOk.some rfl, Below.refl _ _, rfl⟩
  intro T w hu hs hv hf hcur
  have hT : T = #[T.getD 0 undef, T.getD 1 undef, T.getD 2 undef, T.getD 3 undef, T.getD 4 undef, T.getD 5 undef, T.getD 6 undef, T.getD 7 undef, T.getD 8 undef, T.getD 9 undef, T.getD 10 undef, T.getD 11 undef, T.getD 12 undef, T.getD 13 undef, T.getD 14 undef, T.getD 15 undef, T.getD 16 undef, T.getD 17 undef, T.getD 18 undef, T.getD 19 undef, T.getD 20 undef, T.getD 21 undef, T.getD 22 undef, T.getD 23 undef, T.getD 24 undef, T.getD 25 undef, T.getD 26 undef, T.getD 27 undef, T.getD 28 undef, T.getD 29 undef, T.getD 30 undef, T.getD 31 undef, T.getD 32 undef, T.getD 33 undef, T.getD 34 undef, T.getD 35 undef, T.getD 36 undef, T.getD 37 undef, T.getD 38 undef, T.getD 39 undef, T.getD 40 undef, T.getD 41 undef, T.getD 42 undef, T.getD 43 undef, T.getD 44 undef, T.getD 45 undef, T.getD 46 undef, T.getD 47 undef, T.getD 48 undef] := expl hs
  rw [hT]
  clear hT
  rw [show T.getD 0 undef = (.pointer (some ⟨p, 0, none⟩)) from hv 0 (by kernel_rfl)]
  rw [hv 1 (by kernel_rfl)]
  rw [show T.getD 2 undef = (Value.bool false) from hf 46 (by decide)]
  rw [show T.getD 3 undef = (.pointer (some ⟨p, 0, none⟩)) from hf 0 (by decide)]
  rw [show T.getD 4 undef = (.pointer (some ⟨p, 0, none⟩)) from hf 1 (by decide)]
  rw [show T.getD 5 undef = (.pointer (some ⟨p, 3, none⟩)) from hf 2 (by decide)]
  rw [show T.getD 6 undef = (.int .i64 e) from hf 3 (by decide)]
  rw [show T.getD 7 undef = (.bool false) from hf 4 (by decide)]
  rw [show T.getD 8 undef = (.bool false) from hf 5 (by decide)]
  rw [show T.getD 9 undef = undef from hf 6 (by decide)]
  rw [show T.getD 10 undef = undef from hf 7 (by decide)]
  rw [show T.getD 11 undef = undef from hf 8 (by decide)]
  rw [show T.getD 12 undef = undef from hf 9 (by decide)]
  rw [show T.getD 13 undef = undef from hf 10 (by decide)]
  rw [show T.getD 14 undef = undef from hf 11 (by decide)]
  rw [show T.getD 15 undef = undef from hf 12 (by decide)]
  rw [show T.getD 16 undef = undef from hf 13 (by decide)]
  rw [show T.getD 17 undef = undef from hf 14 (by decide)]
  rw [show T.getD 18 undef = undef from hf 15 (by decide)]
  rw [show T.getD 19 undef = (Value.bool false) from hf 16 (by decide)]
  rw [show T.getD 20 undef = (Value.bool false) from hf 17 (by decide)]
  rw [show T.getD 21 undef = undef from hf 18 (by decide)]
  rw [show T.getD 22 undef = undef from hf 19 (by decide)]
  rw [show T.getD 23 undef = undef from hf 20 (by decide)]
  rw [show T.getD 24 undef = undef from hf 21 (by decide)]
  rw [show T.getD 25 undef = undef from hf 22 (by decide)]
  rw [show T.getD 26 undef = undef from hf 23 (by decide)]
  rw [show T.getD 27 undef = undef from hf 24 (by decide)]
  rw [show T.getD 28 undef = undef from hf 25 (by decide)]
  rw [show T.getD 29 undef = undef from hf 26 (by decide)]
  rw [show T.getD 30 undef = undef from hf 27 (by decide)]
  rw [show T.getD 31 undef = undef from hf 28 (by decide)]
  rw [show T.getD 32 undef = undef from hf 29 (by decide)]
  rw [show T.getD 33 undef = (Value.bool false) from hf 30 (by decide)]
  rw [show T.getD 34 undef = (Value.bool false) from hf 31 (by decide)]
  rw [show T.getD 35 undef = undef from hf 32 (by decide)]
  rw [show T.getD 36 undef = undef from hf 33 (by decide)]
  rw [show T.getD 37 undef = undef from hf 34 (by decide)]
  rw [show T.getD 38 undef = undef from hf 35 (by decide)]
  rw [show T.getD 39 undef = undef from hf 36 (by decide)]
  rw [show T.getD 40 undef = undef from hf 37 (by decide)]
  rw [show T.getD 41 undef = undef from hf 38 (by decide)]
  rw [show T.getD 42 undef = undef from hf 39 (by decide)]
  rw [show T.getD 43 undef = undef from hf 40 (by decide)]
  rw [show T.getD 44 undef = undef from hf 41 (by decide)]
  rw [show T.getD 45 undef = undef from hf 42 (by decide)]
  rw [show T.getD 46 undef = undef from hf 43 (by decide)]
  rw [show T.getD 47 undef = undef from hf 44 (by decide)]
  rw [show T.getD 48 undef = (Value.bool false) from hf 45 (by decide)]
  clear hf hs hv hcur
  simp only [getD_toArray, List.getD_cons_succ, List.getD_cons_zero]
  clear T
  have hb9 := hide (hu.below (Nat.le_refl _) fun _ h => h.elim)
  clear hu
  go_wp2_with fail
  go_ret
  exact ⟨rfl, hb9.out⟩
set_option maxRecDepth 100000 in
set_option maxHeartbeats 1600000 in
theorem nm_end (p : Nat) (w : World) (a d n i : Nat) (C : Cx) (h : RfW w p C i 0 a d n) (hl : ¬ i < C.ts.length) :
    Calls Tryd.prog 52 #[.pointer (some ⟨p, 0, none⟩)] w fun r w' => r = .returned (.bool false) ∧ Below w.heap.size w w' := by
  have hh := h.heap
  obtain ⟨A, c, hA, hm⟩ := h.row.slice
  have hrow := h.row
  rw [hA] at hh hrow
  generalize hN : C.ts.length = N at *
  have c0 := cell_at hh 0
  have c1 := cell_at hh 1
  have c3 := cell_at hh 3
  simp at c0 c1 c3
  have hlt : ¬ (i : Int) < (N : Int) := by omega
  replace hlt := hide hlt
  clear hl
  replace c0 := hide c0
  replace c1 := hide c1
  replace c3 := hide c3
  clear hh hrow hm hA h hN
  go_enter Tryd.func52, Tryd.ntmps52
  go_wp2_with fail
  refine wp_region_flow (fun _ => False) (factAt [(fun v _ => v = (.pointer (some ⟨p, 0, none⟩))), (fun v _ => v = (.pointer (some ⟨p, 0, none⟩))), (fun v _ => v = (.pointer (some ⟨p, 3, none⟩))), (fun v _ => v = (.int .i64 0)), (fun v _ => v = (.bool true)), (fun v _ => v = (.bool true)), (fun v _ => v = (.pointer (some ⟨p, 0, none⟩))), (fun v _ => v = (.pointer (some ⟨p, 0, none⟩))), (fun v _ => v = (.pointer (some ⟨p, 1, none⟩))), (fun v _ => v = (.int .i64 i)), (fun v _ => v = (.pointer (some ⟨p, 0, none⟩))), (fun v _ => v = (.pointer (some ⟨p, 0, none⟩))), (fun v _ => v = (.pointer (some ⟨p, 0, none⟩))), (fun v _ => v = (.slice A N c)), (fun v _ => v = (.int .i64 N)), (fun v _ => v = (.bool false)), (fun v _ => v = (.bool false)), (fun v _ => v = (.bool false)), (fun v _ => v = undef), (fun v _ => v = undef), (fun v _ => v = undef), (fun v _ => v = undef), (fun v _ => v = undef), (fun v _ => v = undef), (fun v _ => v = undef), (fun v _ => v = undef), (fun v _ => v = undef), (fun v _ => v = undef), (fun v _ => v = undef), (fun v _ => v = undef), (fun v _ => v = (Value.bool false)), (fun v _ => v = (Value.bool false)), (fun v _ => v = undef), (fun v _ => v = undef), (fun v _ => v = undef), (fun v _ => v = undef), (fun v _ => v = undef), (fun v _ => v = undef), (fun v _ => v = undef), (fun v _ => v = undef), (fun v _ => v = undef), (fun v _ => v = undef), (fun v _ => v = undef), (fun v _ => v = undef), (fun v _ => v = undef), (fun v _ => v = (Value.bool false)), (fun v _ => v = (Value.bool false))]) [] (fun _ => True) (by kernel_rfl) (fkept_at ⟨FKept.eq _, FKept.eq _, FKept.eq _, FKept.eq _, FKept.eq _, FKept.eq _, FKept.eq _, FKept.eq _, FKept.eq _, FKept.eq _, FKept.eq _, FKept.eq _, FKept.eq _, FKept.eq _, FKept.eq _, FKept.eq _, FKept.eq _, FKept.eq _, FKept.eq _, FKept.eq _, FKept.eq _, FKept.eq _, FKept.eq _, FKept.eq _, FKept.eq _, FKept.eq _, FKept.eq _, FKept.eq _, FKept.eq _, FKept.eq _, FKept.eq _, FKept.eq _, FKept.eq _, FKept.eq _, FKept.eq _, FKept.eq _, FKept.eq _, FKept.eq _, FKept.eq _, FKept.eq _, FKept.eq _, FKept.eq _, FKept.eq _, FKept.eq _, FKept.eq _, FKept.eq _, FKept.eq _, trivial⟩) (fun _ _ h _ => h) trivial (by kernel_rfl) (by kernel_rfl) (by kernel_rfl) (by kernel_rfl) (Nat.le_of_ble_eq_true (by kernel_rfl)) ?_ ⟨?_, ?_, ?_, ?_, ?_, ?_, ?_, ?_, ?_, ?_, ?_, ?_, ?_, ?_, ?_, ?_, ?_, ?_, ?_, ?_, ?_, ?_, ?_, ?_, ?_, ?_, ?_, ?_, ?_, ?_, ?_, ?_, ?_, ?_, ?_, ?_, ?_, ?_, ?_, ?_, ?_, ?_, ?_, ?_, ?_, ?_, ?_, trivial⟩ ?_
  · first | exact trivial | assumption
  · intro T w Q hu hs hv hw hd
    have hx0 : T.getD 0 undef = (.pointer (some ⟨p, 0, none⟩)) := hv 0 (by kernel_rfl)
    refine .inl ⟨wanted_none rfl, ?_⟩
    clear hd hv hu hs hw
    go_simp
    exact ⟨_, rfl, DstOk.some rfl, Below.refl _ _, rfl⟩
  · intro T w Q hu hs hv hw hd
    have hx3 : T.getD 3 undef = (.pointer (some ⟨p, 0, none⟩)) := Deps.at 0 hd (by kernel_rfl)
    refine .inl ⟨wanted_none rfl, ?_⟩
    clear hd hv hu hs hw
    go_simp
    exact ⟨_, rfl, DstOk.some rfl, Below.refl _ _, rfl⟩
  · intro T w Q hu hs hv hw hd
    have hx4 : T.getD 4 undef = (.pointer (some ⟨p, 0, none⟩)) := Deps.at 1 hd (by kernel_rfl)
    refine .inl ⟨wanted_none rfl, ?_⟩
    clear hd hv hu hs hw
    go_simp
    exact ⟨_, rfl, DstOk.some rfl, Below.refl _ _, rfl⟩
  · intro T w Q hu hs hv hw hd
    have hx5 : T.getD 5 undef = (.pointer (some ⟨p, 3, none⟩)) := Deps.at 2 hd (by kernel_rfl)
    refine .inl ⟨wanted_none rfl, ?_⟩
    have hq := hu.cell c3.out id
    clear hd hv hu hs hw
    go_simp
    exact ⟨_, rfl, DstOk.some rfl, Below.refl _ _, rfl⟩
  · intro T w Q hu hs hv hw hd
    have hx6 : T.getD 6 undef = (.int .i64 0) := Deps.at 3 hd (by kernel_rfl)
    refine .inl ⟨wanted_none rfl, ?_⟩
    clear hd hv hu hs hw
    go_simp
    exact ⟨_, rfl, DstOk.some rfl, Below.refl _ _, by first | rfl | exact congrArg Value.bool (by first | (simp only [decide_eq_true_eq, decide_eq_false_iff_not]; omega) | (simp; exact eq_of_beq a0) | (simp; exact ne_of_beq_false a0) | simp [a0] | simp_all)⟩
  · intro T w Q hu hs hv hw hd
    have hx7 : T.getD 7 undef = (.bool true) := Deps.at 4 hd (by kernel_rfl)
    refine .inl ⟨wanted_none rfl, ?_⟩
    clear hd hv hu hs hw
    go_simp
    exact ⟨_, rfl, DstOk.some rfl, Below.refl _ _, rfl⟩
  · intro T w Q hu hs hv hw hd
    have hx0 : T.getD 0 undef = (.pointer (some ⟨p, 0, none⟩)) := hv 0 (by kernel_rfl)
    refine .inl ⟨wanted_some rfl (Deps.at 5 hd (by kernel_rfl) : slotOf _ T 5 = .bool true), ?_⟩
    clear hd hv hu hs hw
    go_simp
    exact ⟨_, rfl, DstOk.some rfl, Below.refl _ _, rfl⟩
  · intro T w Q hu hs hv hw hd
    have hx9 : T.getD 9 undef = (.pointer (some ⟨p, 0, none⟩)) := Deps.at 6 hd (by kernel_rfl)
    refine .inl ⟨wanted_some rfl (Deps.at 5 hd (by kernel_rfl) : slotOf _ T 5 = .bool true), ?_⟩
    clear hd hv hu hs hw
    go_simp
    exact ⟨_, rfl, DstOk.some rfl, Below.refl _ _, rfl⟩
  · intro T w Q hu hs hv hw hd
    have hx10 : T.getD 10 undef = (.pointer (some ⟨p, 0, none⟩)) := Deps.at 7 hd (by kernel_rfl)
    refine .inl ⟨wanted_some rfl (Deps.at 5 hd (by kernel_rfl) : slotOf _ T 5 = .bool true), ?_⟩
    clear hd hv hu hs hw
    go_simp
    exact ⟨_, rfl, DstOk.some rfl, Below.refl _ _, rfl⟩
  · intro T w Q hu hs hv hw hd
    have hx11 : T.getD 11 undef = (.pointer (some ⟨p, 1, none⟩)) := Deps.at 8 hd (by kernel_rfl)
    refine .inl ⟨wanted_some rfl (Deps.at 5 hd (by kernel_rfl) : slotOf _ T 5 = .bool true), ?_⟩
    have hq := hu.cell c1.out id
    clear hd hv hu hs hw
    go_simp
    exact ⟨_, rfl, DstOk.some rfl, Below.refl _ _, rfl⟩
  · intro T w Q hu hs hv hw hd
    have hx0 : T.getD 0 undef = (.pointer (some ⟨p, 0, none⟩)) := hv 0 (by kernel_rfl)
    refine .inl ⟨wanted_some rfl (Deps.at 5 hd (by kernel_rfl) : slotOf _ T 5 = .bool true), ?_⟩
    clear hd hv hu hs hw
    go_simp
    exact ⟨_, rfl, DstOk.some rfl, Below.refl _ _, rfl⟩
  · intro T w Q hu hs hv hw hd
    have hx13 : T.getD 13 undef = (.pointer (some ⟨p, 0, none⟩)) := Deps.at 10 hd (by kernel_rfl)
    refine .inl ⟨wanted_some rfl (Deps.at 5 hd (by kernel_rfl) : slotOf _ T 5 = .bool true), ?_⟩
    clear hd hv hu hs hw
    go_simp
    exact ⟨_, rfl, DstOk.some rfl, Below.refl _ _, rfl⟩
  · intro T w Q hu hs hv hw hd
    have hx14 : T.getD 14 undef = (.pointer (some ⟨p, 0, none⟩)) := Deps.at 11 hd (by kernel_rfl)
    refine .inl ⟨wanted_some rfl (Deps.at 5 hd (by kernel_rfl) : slotOf _ T 5 = .bool true), ?_⟩
    clear hd hv hu hs hw
    go_simp
    exact ⟨_, rfl, DstOk.some rfl, Below.refl _ _, rfl⟩
  · intro T w Q hu hs hv hw hd
    have hx15 : T.getD 15 undef = (.pointer (some ⟨p, 0, none⟩)) := Deps.at 12 hd (by kernel_rfl)
    refine .inl ⟨wanted_some rfl (Deps.at 5 hd (by kernel_rfl) : slotOf _ T 5 = .bool true), ?_⟩
    have hq := hu.cell c0.out id
    clear hd hv hu hs hw
    go_simp
    exact ⟨_, rfl, DstOk.some rfl, Below.refl _ _, rfl⟩
  · intro T w Q hu hs hv hw hd
    have hx16 : T.getD 16 undef = (.slice A N c) := Deps.at 13 hd (by kernel_rfl)
    refine .inl ⟨wanted_some rfl (Deps.at 5 hd (by kernel_rfl) : slotOf _ T 5 = .bool true), ?_⟩
    clear hd hv hu hs hw
    go_simp
    exact ⟨_, rfl, DstOk.some rfl, Below.refl _ _, rfl⟩
  · intro T w Q hu hs hv hw hd
    have hx12 : T.getD 12 undef = (.int .i64 i) := Deps.at 9 hd (by kernel_rfl)
    have hx17 : T.getD 17 undef = (.int .i64 N) := Deps.at 14 hd (by kernel_rfl)
    refine .inl ⟨wanted_some rfl (Deps.at 5 hd (by kernel_rfl) : slotOf _ T 5 = .bool true), ?_⟩
    have a0 := hlt.out
    clear hd hv hu hs hw
    go_simp
    exact ⟨_, rfl, DstOk.some rfl, Below.refl _ _, by first | rfl | exact congrArg Value.bool (by first | (simp only [decide_eq_true_eq, decide_eq_false_iff_not]; omega) | (simp; exact eq_of_beq a0) | (simp; exact ne_of_beq_false a0) | simp [a0] | simp_all)⟩
  · intro T w Q hu hs hv hw hd
    have hx8 : T.getD 8 undef = (.bool true) := Deps.at 5 hd (by kernel_rfl)
    have hx18 : T.getD 18 undef = (.bool false) := Deps.at 15 hd (by kernel_rfl)
    refine .inl ⟨wanted_none rfl, ?_⟩
    clear hd hv hu hs hw
    go_simp
    exact ⟨_, rfl, DstOk.some rfl, Below.refl _ _, rfl⟩
  · intro T w Q hu hs hv hw hd
    have hx19 : T.getD 19 undef = (.bool false) := Deps.at 16 hd (by kernel_rfl)
    refine .inl ⟨wanted_none rfl, ?_⟩
    clear hd hv hu hs hw
    go_simp
    exact ⟨_, rfl, DstOk.some rfl, Below.refl _ _, rfl⟩
  · intro T w Q hu hs hv hw hd
    exact .inr ⟨wanted_not rfl (Deps.at 17 hd (by kernel_rfl) : slotOf _ T 17 = .bool (!true)), rfl⟩
  · intro T w Q hu hs hv hw hd
    exact .inr ⟨wanted_not rfl (Deps.at 17 hd (by kernel_rfl) : slotOf _ T 17 = .bool (!true)), rfl⟩
  · intro T w Q hu hs hv hw hd
    exact .inr ⟨wanted_not rfl (Deps.at 17 hd (by kernel_rfl) : slotOf _ T 17 = .bool (!true)), rfl⟩
  · intro T w Q hu hs hv hw hd
    exact .inr ⟨wanted_not rfl (Deps.at 17 hd (by kernel_rfl) : slotOf _ T 17 = .bool (!true)), rfl⟩
  · intro T w Q hu hs hv hw hd
    exact .inr ⟨wanted_not rfl (Deps.at 17 hd (by kernel_rfl) : slotOf _ T 17 = .bool (!true)), rfl⟩
  · intro T w Q hu hs hv hw hd
    exact .inr ⟨wanted_not rfl (Deps.at 17 hd (by kernel_rfl) : slotOf _ T 17 = .bool (!true)), rfl⟩
  · intro T w Q hu hs hv hw hd
    exact .inr ⟨wanted_not rfl (Deps.at 17 hd (by kernel_rfl) : slotOf _ T 17 = .bool (!true)), rfl⟩
  · intro T w Q hu hs hv hw hd
    exact .inr ⟨wanted_not rfl (Deps.at 17 hd (by kernel_rfl) : slotOf _ T 17 = .bool (!true)), rfl⟩
  · intro T w Q hu hs hv hw hd
    exact .inr ⟨wanted_not rfl (Deps.at 17 hd (by kernel_rfl) : slotOf _ T 17 = .bool (!true)), rfl⟩
  · intro T w Q hu hs hv hw hd
    exact .inr ⟨wanted_not rfl (Deps.at 17 hd (by kernel_rfl) : slotOf _ T 17 = .bool (!true)), rfl⟩
  · intro T w Q hu hs hv hw hd
    exact .inr ⟨wanted_not rfl (Deps.at 17 hd (by kernel_rfl) : slotOf _ T 17 = .bool (!true)), rfl⟩
  · intro T w Q hu hs hv hw hd
    exact .inr ⟨wanted_not rfl (Deps.at 17 hd (by kernel_rfl) : slotOf _ T 17 = .bool (!true)), rfl⟩
  · intro T w Q hu hs hv hw hd
    have hx20 : T.getD 20 undef = (.bool false) := Deps.at 17 hd (by kernel_rfl)
    have hx32 : T.getD 32 undef = undef := Deps.at 29 hd (by kernel_rfl)
    refine .inl ⟨wanted_none rfl, ?_⟩
    clear hd hv hu hs hw
    go_simp
    exact ⟨_, rfl, DstOk.some rfl, Below.refl _ _, rfl⟩
  · intro T w Q hu hs hv hw hd
    have hx33 : T.getD 33 undef = (Value.bool false) := Deps.at 30 hd (by kernel_rfl)
    refine .inl ⟨wanted_none rfl, ?_⟩
    clear hd hv hu hs hw
    go_simp
    exact ⟨_, rfl, DstOk.some rfl, Below.refl _ _, rfl⟩
  · intro T w Q hu hs hv hw hd
    exact .inr ⟨wanted_not rfl (Deps.at 31 hd (by kernel_rfl) : slotOf _ T 31 = .bool (!true)), rfl⟩
  · intro T w Q hu hs hv hw hd
    exact .inr ⟨wanted_not rfl (Deps.at 31 hd (by kernel_rfl) : slotOf _ T 31 = .bool (!true)), rfl⟩
  · intro T w Q hu hs hv hw hd
    exact .inr ⟨wanted_not rfl (Deps.at 31 hd (by kernel_rfl) : slotOf _ T 31 = .bool (!true)), rfl⟩
  · intro T w Q hu hs hv hw hd
    exact .inr ⟨wanted_not rfl (Deps.at 31 hd (by kernel_rfl) : slotOf _ T 31 = .bool (!true)), rfl⟩
  · intro T w Q hu hs hv hw hd
    exact .inr ⟨wanted_not rfl (Deps.at 31 hd (by kernel_rfl) : slotOf _ T 31 = .bool (!true)), rfl⟩
  · intro T w Q hu hs hv hw hd
    exact .inr ⟨wanted_not rfl (Deps.at 31 hd (by kernel_rfl) : slotOf _ T 31 = .bool (!true)), rfl⟩
  · intro T w Q hu hs hv hw hd
    exact .inr ⟨wanted_not rfl (Deps.at 31 hd (by kernel_rfl) : slotOf _ T 31 = .bool (!true)), rfl⟩
  · intro T w Q hu hs hv hw hd
    exact .inr ⟨wanted_not rfl (Deps.at 31 hd (by kernel_rfl) : slotOf _ T 31 = .bool (!true)), rfl⟩
  · intro T w Q hu hs hv hw hd
    exact .inr ⟨wanted_not rfl (Deps.at 31 hd (by kernel_rfl) : slotOf _ T 31 = .bool (!true)), rfl⟩
  · intro T w Q hu hs hv hw hd
    exact .inr ⟨wanted_not rfl (Deps.at 31 hd (by kernel_rfl) : slotOf _ T 31 = .bool (!true)), rfl⟩
  · intro T w Q hu hs hv hw hd
    exact .inr ⟨wanted_not rfl (Deps.at 31 hd (by kernel_rfl) : slotOf _ T 31 = .bool (!true)), rfl⟩
  · intro T w Q hu hs hv hw hd
    exact .inr ⟨wanted_not rfl (Deps.at 31 hd (by kernel_rfl) : slotOf _ T 31 = .bool (!true)), rfl⟩
  · intro T w Q hu hs hv hw hd
    exact .inr ⟨wanted_not rfl (Deps.at 31 hd (by kernel_rfl) : slotOf _ T 31 = .bool (!true)), rfl⟩
  · intro T w Q hu hs hv hw hd
    have hx34 : T.getD 34 undef = (Value.bool false) := Deps.at 31 hd (by kernel_rfl)
    have hx47 : T.getD 47 undef = undef := Deps.at 44 hd (by kernel_rfl)
    refine .inl ⟨wanted_none rfl, ?_⟩
    clear hd hv hu hs hw
    go_simp
    exact ⟨_, rfl, DstOk.some rfl, Below.refl _ _, rfl⟩
  · intro T w Q hu hs hv hw hd
    have hx48 : T.getD 48 undef = (Value.bool false) := Deps.at 45 hd (by kernel_rfl)
    refine .inl ⟨wanted_none rfl, ?_⟩
    clear hd hv hu hs hw
    go_simp
    exact ⟨_, rfl, DstOk.some rfl, Below.refl _ _, rfl⟩
  intro T w hu hs hv hf hcur
  have hT : T = #[T.getD 0 undef, T.getD 1 undef, T.getD 2 undef, T.getD 3 undef, T.getD 4 undef, T.getD 5 undef, T.getD 6 undef, T.getD 7 undef, T.getD 8 undef, T.getD 9 undef, T.getD 10 undef, T.getD 11 undef, T.getD 12 undef, T.getD 13 undef, T.getD 14 undef, T.getD 15 undef, T.getD 16 undef, T.getD 17 undef, T.getD 18 undef, T.getD 19 undef, T.getD 20 undef, T.getD 21 undef, T.getD 22 undef, T.getD 23 undef, T.getD 24 undef, T.getD 25 undef, T.getD 26 undef, T.getD 27 undef, T.getD 28 undef, T.getD 29 undef, T.getD 30 undef, T.getD 31 undef, T.getD 32 undef, T.getD 33 undef, T.getD 34 undef, T.getD 35 undef, T.getD 36 undef, T.getD 37 undef, T.getD 38 undef, T.getD 39 undef, T.getD 40 undef, T.getD 41 undef, T.getD 42 undef, T.getD 43 undef, T.getD 44 undef, T.getD 45 undef, T.getD 46 undef, T.getD 47 undef, T.getD 48 undef] := expl hs
  rw [hT]
  clear hT
  rw [show T.getD 0 undef = (.pointer (some ⟨p, 0, none⟩)) from hv 0 (by kernel_rfl)]
  rw [hv 1 (by kernel_rfl)]
  rw [show T.getD 2 undef = (Value.bool false) from hf 46 (by decide)]
  rw [show T.getD 3 undef = (.pointer (some ⟨p, 0, none⟩)) from hf 0 (by decide)]
  rw [show T.getD 4 undef = (.pointer (some ⟨p, 0, none⟩)) from hf 1 (by decide)]
  rw [show T.getD 5 undef = (.pointer (some ⟨p, 3, none⟩)) from hf 2 (by decide)]
  rw [show T.getD 6 undef = (.int .i64 0) from hf 3 (by decide)]
  rw [show T.getD 7 undef = (.bool true) from hf 4 (by decide)]
  rw [show T.getD 8 undef = (.bool true) from hf 5 (by decide)]
  rw [show T.getD 9 undef = (.pointer (some ⟨p, 0, none⟩)) from hf 6 (by decide)]
  rw [show T.getD 10 undef = (.pointer (some ⟨p, 0, none⟩)) from hf 7 (by decide)]
  rw [show T.getD 11 undef = (.pointer (some ⟨p, 1, none⟩)) from hf 8 (by decide)]
  rw [show T.getD 12 undef = (.int .i64 i) from hf 9 (by decide)]
  rw [show T.getD 13 undef = (.pointer (some ⟨p, 0, none⟩)) from hf 10 (by decide)]
  rw [show T.getD 14 undef = (.pointer (some ⟨p, 0, none⟩)) from hf 11 (by decide)]
  rw [show T.getD 15 undef = (.pointer (some ⟨p, 0, none⟩)) from hf 12 (by decide)]
  rw [show T.getD 16 undef = (.slice A N c) from hf 13 (by decide)]
  rw [show T.getD 17 undef = (.int .i64 N) from hf 14 (by decide)]
  rw [show T.getD 18 undef = (.bool false) from hf 15 (by decide)]
  rw [show T.getD 19 undef = (.bool false) from hf 16 (by decide)]
  rw [show T.getD 20 undef = (.bool false) from hf 17 (by decide)]
  rw [show T.getD 21 undef = undef from hf 18 (by decide)]
  rw [show T.getD 22 undef = undef from hf 19 (by decide)]
  rw [show T.getD 23 undef = undef from hf 20 (by decide)]
  rw [show T.getD 24 undef = undef from hf 21 (by decide)]
  rw [show T.getD 25 undef = undef from hf 22 (by decide)]
  rw [show T.getD 26 undef = undef from hf 23 (by decide)]
  rw [show T.getD 27 undef = undef from hf 24 (by decide)]
  rw [show T.getD 28 undef = undef from hf 25 (by decide)]
  rw [show T.getD 29 undef = undef from hf 26 (by decide)]
  rw [show T.getD 30 undef = undef from hf 27 (by decide)]
  rw [show T.getD 31 undef = undef from hf 28 (by decide)]
  rw [show T.getD 32 undef = undef from hf 29 (by decide)]
  rw [show T.getD 33 undef = (Value.bool false) from hf 30 (by decide)]
  rw [show T.getD 34 undef = (Value.bool false) from hf 31 (by decide)]
  rw [show T.getD 35 undef = undef from hf 32 (by decide)]
  rw [show T.getD 36 undef = undef from hf 33 (by decide)]
  rw [show T.getD 37 undef = undef from hf 34 (by decide)]
  rw [show T.getD 38 undef = undef from hf 35 (by decide)]
  rw [show T.getD 39 undef = undef from hf 36 (by decide)]
  rw [show T.getD 40 undef = undef from hf 37 (by decide)]
  rw [show T.getD 41 undef = undef from hf 38 (by decide)]
  rw [show T.getD 42 undef = undef from hf 39 (by decide)]
  rw [show T.getD 43 undef = undef from hf 40 (by decide)]
  rw [show T.getD 44 undef = undef from hf 41 (by decide)]
  rw [show T.getD 45 undef = undef from hf 42 (by decide)]
  rw [show T.getD 46 undef = undef from hf 43 (by decide)]
  rw [show T.getD 47 undef = undef from hf 44 (by decide)]
  rw [show T.getD 48 undef = (Value.bool false) from hf 45 (by decide)]
  clear hf hs hv hcur
  simp only [getD_toArray, List.getD_cons_succ, List.getD_cons_zero]
  clear T
  have hb9 := hide (hu.below (Nat.le_refl _) fun _ h => h.elim)
  clear hu
  go_wp2_with fail
  go_ret
  exact ⟨rfl, hb9.out⟩
set_option maxRecDepth 100000 in
set_option maxHeartbeats 1600000 in
theorem nm_num (p : Nat) (w : World) (a d n i : Nat) (C : Cx) (h : RfW w p C i 0 a d n) (t : Tok) (ht : C.ts[i]? = some t) (hk1 : t.kind ≠ 0) :
    Calls Tryd.prog 52 #[.pointer (some ⟨p, 0, none⟩)] w fun r w' => r = .returned (.bool false) ∧ Below w.heap.size w w' := by
  have hh := h.heap
  obtain ⟨A, c, hA, hm⟩ := h.row.slice
  have hrow := h.row
  rw [hA] at hh hrow
  generalize hN : C.ts.length = N at *
  have c0 := cell_at hh 0
  have c1 := cell_at hh 1
  have c3 := cell_at hh 3
  simp at c0 c1 c3
  have hlt0 : i < C.ts.length := (List.getElem?_eq_some_iff.1 ht).1
  rw [hN] at hlt0
  have hlt : (i : Int) < (N : Int) := by omega
  obtain ⟨b, rfl, t0, t1, -⟩ := hrow.get ht
  have hk : ((t.kind : Int) == 0) = false := by exact beq_false_of_ne (by omega)
  generalize t.kind = k at *
  generalize t.text = tx at *
  replace t0 := hide t0
  replace t1 := hide t1
  replace hk := hide hk
  clear ht hk1 hlt0
  replace hlt := hide hlt
  replace c0 := hide c0
  replace c1 := hide c1
  replace c3 := hide c3
  clear hh hrow hm hA h hN
  go_enter Tryd.func52, Tryd.ntmps52
  go_wp2_with fail
  refine wp_region_flow (fun _ => False) (factAt [(fun v _ => v = (.pointer (some ⟨p, 0, none⟩))), (fun v _ => v = (.pointer (some ⟨p, 0, none⟩))), (fun v _ => v = (.pointer (some ⟨p, 3, none⟩))), (fun v _ => v = (.int .i64 0)), (fun v _ => v = (.bool true)), (fun v _ => v = (.bool true)), (fun v _ => v = (.pointer (some ⟨p, 0, none⟩))), (fun v _ => v = (.pointer (some ⟨p, 0, none⟩))), (fun v _ => v = (.pointer (some ⟨p, 1, none⟩))), (fun v _ => v = (.int .i64 i)), (fun v _ => v = (.pointer (some ⟨p, 0, none⟩))), (fun v _ => v = (.pointer (some ⟨p, 0, none⟩))), (fun v _ => v = (.pointer (some ⟨p, 0, none⟩))), (fun v _ => v = (.slice (some ⟨b, 0, none⟩) N c)), (fun v _ => v = (.int .i64 N)), (fun v _ => v = (.bool true)), (fun v _ => v = (.bool true)), (fun v _ => v = (.bool true)), (fun v _ => v = (.pointer (some ⟨p, 0, none⟩))), (fun v _ => v = (.pointer (some ⟨p, 0, none⟩))), (fun v _ => v = (.pointer (some ⟨p, 0, none⟩))), (fun v _ => v = (.slice (some ⟨b, 0, none⟩) N c)), (fun v _ => v = (.pointer (some ⟨p, 0, none⟩))), (fun v _ => v = (.pointer (some ⟨p, 0, none⟩))), (fun v _ => v = (.pointer (some ⟨p, 1, none⟩))), (fun v _ => v = (.int .i64 i)), (fun v _ => v = (.pointer (some ⟨b, i * 3, none⟩))), (fun v _ => v = (.pointer (some ⟨b, i * 3, none⟩))), (fun v _ => v = (.int .i64 k)), (fun v _ => v = (.bool false)), (fun v _ => v = (.bool false)), (fun v _ => v = (.bool false)), (fun v _ => v = undef), (fun v _ => v = undef), (fun v _ => v = undef), (fun v _ => v = undef), (fun v _ => v = undef), (fun v _ => v = undef), (fun v _ => v = undef), (fun v _ => v = undef), (fun v _ => v = undef), (fun v _ => v = undef), (fun v _ => v = undef), (fun v _ => v = undef), (fun v _ => v = undef), (fun v _ => v = (Value.bool false)), (fun v _ => v = (Value.bool false))]) [] (fun _ => True) (by kernel_rfl) (fkept_at ⟨FKept.eq _, FKept.eq _, FKept.eq _, FKept.eq _, FKept.eq _, FKept.eq _, FKept.eq _, FKept.eq _, FKept.eq _, FKept.eq _, FKept.eq _, FKept.eq _, FKept.eq _, FKept.eq _, FKept.eq _, FKept.eq _, FKept.eq _, FKept.eq _, FKept.eq _, FKept.eq _, FKept.eq _, FKept.eq _, FKept.eq _, FKept.eq _, FKept.eq _, FKept.eq _, FKept.eq _, FKept.eq _, FKept.eq _, FKept.eq _, FKept.eq _, FKept.eq _, FKept.eq _, FKept.eq _, FKept.eq _, FKept.eq _, FKept.eq _, FKept.eq _, FKept.eq _, FKept.eq _, FKept.eq _, FKept.eq _, FKept.eq _, FKept.eq _, FKept.eq _, FKept.eq _, FKept.eq _, trivial⟩) (fun _ _ h _ => h) trivial (by kernel_rfl) (by kernel_rfl) (by kernel_rfl) (by kernel_rfl) (Nat.le_of_ble_eq_true (by kernel_rfl)) ?_ ⟨?_, ?_, ?_, ?_, ?_, ?_, ?_, ?_, ?_, ?_, ?_, ?_, ?_, ?_, ?_, ?_, ?_, ?_, ?_, ?_, ?_, ?_, ?_, ?_, ?_, ?_, ?_, ?_, ?_, ?_, ?_, ?_, ?_, ?_, ?_, ?_, ?_, ?_, ?_, ?_, ?_, ?_, ?_, ?_, ?_, ?_, ?_, trivial⟩ ?_
  · first | exact trivial | assumption
  · intro T w Q hu hs hv hw hd
    have hx0 : T.getD 0 undef = (.pointer (some ⟨p, 0, none⟩)) := hv 0 (by kernel_rfl)
    refine .inl ⟨wanted_none rfl, ?_⟩
    clear hd hv hu hs hw
    go_simp
    exact ⟨_, rfl, DstOk.some rfl, Below.refl _ _, rfl⟩
  · intro T w Q hu hs hv hw hd
    have hx3 : T.getD 3 undef = (.pointer (some ⟨p, 0, none⟩)) := Deps.at 0 hd (by kernel_rfl)
    refine .inl ⟨wanted_none rfl, ?_⟩
    clear hd hv hu hs hw
    go_simp
    exact ⟨_, rfl, DstOk.some rfl, Below.refl _ _, rfl⟩
  · intro T w Q hu hs hv hw hd
    have hx4 : T.getD 4 undef = (.pointer (some ⟨p, 0, none⟩)) := Deps.at 1 hd (by kernel_rfl)
    refine .inl ⟨wanted_none rfl, ?_⟩
    clear hd hv hu hs hw
    go_simp
    exact ⟨_, rfl, DstOk.some rfl, Below.refl _ _, rfl⟩
  · intro T w Q hu hs hv hw hd
    have hx5 : T.getD 5 undef = (.pointer (some ⟨p, 3, none⟩)) := Deps.at 2 hd (by kernel_rfl)
    refine .inl ⟨wanted_none rfl, ?_⟩
    have hq := hu.cell c3.out id
    clear hd hv hu hs hw
    go_simp
    exact ⟨_, rfl, DstOk.some rfl, Below.refl _ _, rfl⟩
  · intro T w Q hu hs hv hw hd
    have hx6 : T.getD 6 undef = (.int .i64 0) := Deps.at 3 hd (by kernel_rfl)
    refine .inl ⟨wanted_none rfl, ?_⟩
    clear hd hv hu hs hw
    go_simp
    exact ⟨_, rfl, DstOk.some rfl, Below.refl _ _, by first | rfl | exact congrArg Value.bool (by first | (simp only [decide_eq_true_eq, decide_eq_false_iff_not]; omega) | (simp; exact eq_of_beq a0) | (simp; exact ne_of_beq_false a0) | simp [a0] | simp_all)⟩
  · intro T w Q hu hs hv hw hd
    have hx7 : T.getD 7 undef = (.bool true) := Deps.at 4 hd (by kernel_rfl)
    refine .inl ⟨wanted_none rfl, ?_⟩
    clear hd hv hu hs hw
    go_simp
    exact ⟨_, rfl, DstOk.some rfl, Below.refl _ _, rfl⟩
  · intro T w Q hu hs hv hw hd
    have hx0 : T.getD 0 undef = (.pointer (some ⟨p, 0, none⟩)) := hv 0 (by kernel_rfl)
    refine .inl ⟨wanted_some rfl (Deps.at 5 hd (by kernel_rfl) : slotOf _ T 5 = .bool true), ?_⟩
    clear hd hv hu hs hw
    go_simp
    exact ⟨_, rfl, DstOk.some rfl, Below.refl _ _, rfl⟩
  · intro T w Q hu hs hv hw hd
    have hx9 : T.getD 9 undef = (.pointer (some ⟨p, 0, none⟩)) := Deps.at 6 hd (by kernel_rfl)
    refine .inl ⟨wanted_some rfl (Deps.at 5 hd (by kernel_rfl) : slotOf _ T 5 = .bool true), ?_⟩
    clear hd hv hu hs hw
    go_simp
    exact ⟨_, rfl, DstOk.some rfl, Below.refl _ _, rfl⟩
  · intro T w Q hu hs hv hw hd
    have hx10 : T.getD 10 undef = (.pointer (some ⟨p, 0, none⟩)) := Deps.at 7 hd (by kernel_rfl)
    refine .inl ⟨wanted_some rfl (Deps.at 5 hd (by kernel_rfl) : slotOf _ T 5 = .bool true), ?_⟩
    clear hd hv hu hs hw
    go_simp
    exact ⟨_, rfl, DstOk.some rfl, Below.refl _ _, rfl⟩
  · intro T w Q hu hs hv hw hd
    have hx11 : T.getD 11 undef = (.pointer (some ⟨p, 1, none⟩)) := Deps.at 8 hd (by kernel_rfl)
    refine .inl ⟨wanted_some rfl (Deps.at 5 hd (by kernel_rfl) : slotOf _ T 5 = .bool true), ?_⟩
    have hq := hu.cell c1.out id
    clear hd hv hu hs hw
    go_simp
    exact ⟨_, rfl, DstOk.some rfl, Below.refl _ _, rfl⟩
  · intro T w Q hu hs hv hw hd
    have hx0 : T.getD 0 undef = (.pointer (some ⟨p, 0, none⟩)) := hv 0 (by kernel_rfl)
    refine .inl ⟨wanted_some rfl (Deps.at 5 hd (by kernel_rfl) : slotOf _ T 5 = .bool true), ?_⟩
    clear hd hv hu hs hw
    go_simp
    exact ⟨_, rfl, DstOk.some rfl, Below.refl _ _, rfl⟩
  · intro T w Q hu hs hv hw hd
    have hx13 : T.getD 13 undef = (.pointer (some ⟨p, 0, none⟩)) := Deps.at 10 hd (by kernel_rfl)
    refine .inl ⟨wanted_some rfl (Deps.at 5 hd (by kernel_rfl) : slotOf _ T 5 = .bool true), ?_⟩
    clear hd hv hu hs hw
    go_simp
    exact ⟨_, rfl, DstOk.some rfl, Below.refl _ _, rfl⟩
  · intro T w Q hu hs hv hw hd
    have hx14 : T.getD 14 undef = (.pointer (some ⟨p, 0, none⟩)) := Deps.at 11 hd (by kernel_rfl)
    refine .inl ⟨wanted_some rfl (Deps.at 5 hd (by kernel_rfl) : slotOf _ T 5 = .bool true), ?_⟩
    clear hd hv hu hs hw
    go_simp
    exact ⟨_, rfl, DstOk.some rfl, Below.refl _ _, rfl⟩
  · intro T w Q hu hs hv hw hd
    have hx15 : T.getD 15 undef = (.pointer (some ⟨p, 0, none⟩)) := Deps.at 12 hd (by kernel_rfl)
    refine .inl ⟨wanted_some rfl (Deps.at 5 hd (by kernel_rfl) : slotOf _ T 5 = .bool true), ?_⟩
    have hq := hu.cell c0.out id
    clear hd hv hu hs hw
    go_simp
    exact ⟨_, rfl, DstOk.some rfl, Below.refl _ _, rfl⟩
  · intro T w Q hu hs hv hw hd
    have hx16 : T.getD 16 undef = (.slice (some ⟨b, 0, none⟩) N c) := Deps.at 13 hd (by kernel_rfl)
    refine .inl ⟨wanted_some rfl (Deps.at 5 hd (by kernel_rfl) : slotOf _ T 5 = .bool true), ?_⟩
    clear hd hv hu hs hw
    go_simp
    exact ⟨_, rfl, DstOk.some rfl, Below.refl _ _, rfl⟩
  · intro T w Q hu hs hv hw hd
    have hx12 : T.getD 12 undef = (.int .i64 i) := Deps.at 9 hd (by kernel_rfl)
    have hx17 : T.getD 17 undef = (.int .i64 N) := Deps.at 14 hd (by kernel_rfl)
    refine .inl ⟨wanted_some rfl (Deps.at 5 hd (by kernel_rfl) : slotOf _ T 5 = .bool true), ?_⟩
    have a0 := hlt.out
    clear hd hv hu hs hw
    go_simp
    exact ⟨_, rfl, DstOk.some rfl, Below.refl _ _, by first | rfl | exact congrArg Value.bool (by first | (simp only [decide_eq_true_eq, decide_eq_false_iff_not]; omega) | (simp; exact eq_of_beq a0) | (simp; exact ne_of_beq_false a0) | simp [a0] | simp_all)⟩
  · intro T w Q hu hs hv hw hd
    have hx8 : T.getD 8 undef = (.bool true) := Deps.at 5 hd (by kernel_rfl)
    have hx18 : T.getD 18 undef = (.bool true) := Deps.at 15 hd (by kernel_rfl)
    refine .inl ⟨wanted_none rfl, ?_⟩
    clear hd hv hu hs hw
    go_simp
    exact ⟨_, rfl, DstOk.some rfl, Below.refl _ _, rfl⟩
  · intro T w Q hu hs hv hw hd
    have hx19 : T.getD 19 undef = (.bool true) := Deps.at 16 hd (by kernel_rfl)
    refine .inl ⟨wanted_none rfl, ?_⟩
    clear hd hv hu hs hw
    go_simp
    exact ⟨_, rfl, DstOk.some rfl, Below.refl _ _, rfl⟩
  · intro T w Q hu hs hv hw hd
    have hx0 : T.getD 0 undef = (.pointer (some ⟨p, 0, none⟩)) := hv 0 (by kernel_rfl)
    refine .inl ⟨wanted_some rfl (Deps.at 17 hd (by kernel_rfl) : slotOf _ T 17 = .bool true), ?_⟩
    clear hd hv hu hs hw
    go_simp
    exact ⟨_, rfl, DstOk.some rfl, Below.refl _ _, rfl⟩
  · intro T w Q hu hs hv hw hd
    have hx21 : T.getD 21 undef = (.pointer (some ⟨p, 0, none⟩)) := Deps.at 18 hd (by kernel_rfl)
    refine .inl ⟨wanted_some rfl (Deps.at 17 hd (by kernel_rfl) : slotOf _ T 17 = .bool true), ?_⟩
    clear hd hv hu hs hw
    go_simp
    exact ⟨_, rfl, DstOk.some rfl, Below.refl _ _, rfl⟩
  · intro T w Q hu hs hv hw hd
    have hx22 : T.getD 22 undef = (.pointer (some ⟨p, 0, none⟩)) := Deps.at 19 hd (by kernel_rfl)
    refine .inl ⟨wanted_some rfl (Deps.at 17 hd (by kernel_rfl) : slotOf _ T 17 = .bool true), ?_⟩
    clear hd hv hu hs hw
    go_simp
    exact ⟨_, rfl, DstOk.some rfl, Below.refl _ _, rfl⟩
  · intro T w Q hu hs hv hw hd
    have hx23 : T.getD 23 undef = (.pointer (some ⟨p, 0, none⟩)) := Deps.at 20 hd (by kernel_rfl)
    refine .inl ⟨wanted_some rfl (Deps.at 17 hd (by kernel_rfl) : slotOf _ T 17 = .bool true), ?_⟩
    have hq := hu.cell c0.out id
    clear hd hv hu hs hw
    go_simp
    exact ⟨_, rfl, DstOk.some rfl, Below.refl _ _, rfl⟩
  · intro T w Q hu hs hv hw hd
    have hx0 : T.getD 0 undef = (.pointer (some ⟨p, 0, none⟩)) := hv 0 (by kernel_rfl)
    refine .inl ⟨wanted_some rfl (Deps.at 17 hd (by kernel_rfl) : slotOf _ T 17 = .bool true), ?_⟩
    clear hd hv hu hs hw
    go_simp
    exact ⟨_, rfl, DstOk.some rfl, Below.refl _ _, rfl⟩
  · intro T w Q hu hs hv hw hd
    have hx25 : T.getD 25 undef = (.pointer (some ⟨p, 0, none⟩)) := Deps.at 22 hd (by kernel_rfl)
    refine .inl ⟨wanted_some rfl (Deps.at 17 hd (by kernel_rfl) : slotOf _ T 17 = .bool true), ?_⟩
    clear hd hv hu hs hw
    go_simp
    exact ⟨_, rfl, DstOk.some rfl, Below.refl _ _, rfl⟩
  · intro T w Q hu hs hv hw hd
    have hx26 : T.getD 26 undef = (.pointer (some ⟨p, 0, none⟩)) := Deps.at 23 hd (by kernel_rfl)
    refine .inl ⟨wanted_some rfl (Deps.at 17 hd (by kernel_rfl) : slotOf _ T 17 = .bool true), ?_⟩
    clear hd hv hu hs hw
    go_simp
    exact ⟨_, rfl, DstOk.some rfl, Below.refl _ _, rfl⟩
  · intro T w Q hu hs hv hw hd
    have hx27 : T.getD 27 undef = (.pointer (some ⟨p, 1, none⟩)) := Deps.at 24 hd (by kernel_rfl)
    refine .inl ⟨wanted_some rfl (Deps.at 17 hd (by kernel_rfl) : slotOf _ T 17 = .bool true), ?_⟩
    have hq := hu.cell c1.out id
    clear hd hv hu hs hw
    go_simp
    exact ⟨_, rfl, DstOk.some rfl, Below.refl _ _, rfl⟩
  · intro T w Q hu hs hv hw hd
    have hx24 : T.getD 24 undef = (.slice (some ⟨b, 0, none⟩) N c) := Deps.at 21 hd (by kernel_rfl)
    have hx28 : T.getD 28 undef = (.int .i64 i) := Deps.at 25 hd (by kernel_rfl)
    refine .inl ⟨wanted_some rfl (Deps.at 17 hd (by kernel_rfl) : slotOf _ T 17 = .bool true), ?_⟩
    have a0 := hlt.out
    clear hd hv hu hs hw
    go_simp
    exact ⟨_, rfl, DstOk.some rfl, Below.refl _ _, rfl⟩
  · intro T w Q hu hs hv hw hd
    have hx29 : T.getD 29 undef = (.pointer (some ⟨b, i * 3, none⟩)) := Deps.at 26 hd (by kernel_rfl)
    refine .inl ⟨wanted_some rfl (Deps.at 17 hd (by kernel_rfl) : slotOf _ T 17 = .bool true), ?_⟩
    clear hd hv hu hs hw
    go_simp
    exact ⟨_, rfl, DstOk.some rfl, Below.refl _ _, rfl⟩
  · intro T w Q hu hs hv hw hd
    have hx30 : T.getD 30 undef = (.pointer (some ⟨b, i * 3, none⟩)) := Deps.at 27 hd (by kernel_rfl)
    refine .inl ⟨wanted_some rfl (Deps.at 17 hd (by kernel_rfl) : slotOf _ T 17 = .bool true), ?_⟩
    have hq := hu.cell t0.out id
    clear hd hv hu hs hw
    go_simp
    exact ⟨_, rfl, DstOk.some rfl, Below.refl _ _, rfl⟩
  · intro T w Q hu hs hv hw hd
    have hx31 : T.getD 31 undef = (.int .i64 k) := Deps.at 28 hd (by kernel_rfl)
    refine .inl ⟨wanted_some rfl (Deps.at 17 hd (by kernel_rfl) : slotOf _ T 17 = .bool true), ?_⟩
    have a0 := hk.out
    clear hd hv hu hs hw
    go_simp
    exact ⟨_, rfl, DstOk.some rfl, Below.refl _ _, by first | rfl | exact congrArg Value.bool (by first | (simp only [decide_eq_true_eq, decide_eq_false_iff_not]; omega) | (simp; exact eq_of_beq a0) | (simp; exact ne_of_beq_false a0) | simp [a0] | simp_all)⟩
  · intro T w Q hu hs hv hw hd
    have hx20 : T.getD 20 undef = (.bool true) := Deps.at 17 hd (by kernel_rfl)
    have hx32 : T.getD 32 undef = (.bool false) := Deps.at 29 hd (by kernel_rfl)
    refine .inl ⟨wanted_none rfl, ?_⟩
    clear hd hv hu hs hw
    go_simp
    exact ⟨_, rfl, DstOk.some rfl, Below.refl _ _, rfl⟩
  · intro T w Q hu hs hv hw hd
    have hx33 : T.getD 33 undef = (.bool false) := Deps.at 30 hd (by kernel_rfl)
    refine .inl ⟨wanted_none rfl, ?_⟩
    clear hd hv hu hs hw
    go_simp
    exact ⟨_, rfl, DstOk.some rfl, Below.refl _ _, rfl⟩
  · intro T w Q hu hs hv hw hd
    exact .inr ⟨wanted_not rfl (Deps.at 31 hd (by kernel_rfl) : slotOf _ T 31 = .bool (!true)), rfl⟩
  · intro T w Q hu hs hv hw hd
    exact .inr ⟨wanted_not rfl (Deps.at 31 hd (by kernel_rfl) : slotOf _ T 31 = .bool (!true)), rfl⟩
  · intro T w Q hu hs hv hw hd
    exact .inr ⟨wanted_not rfl (Deps.at 31 hd (by kernel_rfl) : slotOf _ T 31 = .bool (!true)), rfl⟩
  · intro T w Q hu hs hv hw hd
    exact .inr ⟨wanted_not rfl (Deps.at 31 hd (by kernel_rfl) : slotOf _ T 31 = .bool (!true)), rfl⟩
  · intro T w Q hu hs hv hw hd
    exact .inr ⟨wanted_not rfl (Deps.at 31 hd (by kernel_rfl) : slotOf _ T 31 = .bool (!true)), rfl⟩
  · intro T w Q hu hs hv hw hd
    exact .inr ⟨wanted_not rfl (Deps.at 31 hd (by kernel_rfl) : slotOf _ T 31 = .bool (!true)), rfl⟩
  · intro T w Q hu hs hv hw hd
    exact .inr ⟨wanted_not rfl (Deps.at 31 hd (by kernel_rfl) : slotOf _ T 31 = .bool (!true)), rfl⟩
  · intro T w Q hu hs hv hw hd
    exact .inr ⟨wanted_not rfl (Deps.at 31 hd (by kernel_rfl) : slotOf _ T 31 = .bool (!true)), rfl⟩
  · intro T w Q hu hs hv hw hd
    exact .inr ⟨wanted_not rfl (Deps.at 31 hd (by kernel_rfl) : slotOf _ T 31 = .bool (!true)), rfl⟩
  · intro T w Q hu hs hv hw hd
    exact .inr ⟨wanted_not rfl (Deps.at 31 hd (by kernel_rfl) : slotOf _ T 31 = .bool (!true)), rfl⟩
  · intro T w Q hu hs hv hw hd
    exact .inr ⟨wanted_not rfl (Deps.at 31 hd (by kernel_rfl) : slotOf _ T 31 = .bool (!true)), rfl⟩
  · intro T w Q hu hs hv hw hd
    exact .inr ⟨wanted_not rfl (Deps.at 31 hd (by kernel_rfl) : slotOf _ T 31 = .bool (!true)), rfl⟩
  · intro T w Q hu hs hv hw hd
    exact .inr ⟨wanted_not rfl (Deps.at 31 hd (by kernel_rfl) : slotOf _ T 31 = .bool (!true)), rfl⟩
  · intro T w Q hu hs hv hw hd
    have hx34 : T.getD 34 undef = (.bool false) := Deps.at 31 hd (by kernel_rfl)
    have hx47 : T.getD 47 undef = undef := Deps.at 44 hd (by kernel_rfl)
    refine .inl ⟨wanted_none rfl, ?_⟩
    clear hd hv hu hs hw
    go_simp
    exact ⟨_, rfl, DstOk.some rfl, Below.refl _ _, rfl⟩
  · intro T w Q hu hs hv hw hd
    have hx48 : T.getD 48 undef = (Value.bool false) := Deps.at 45 hd (by kernel_rfl)
    refine .inl ⟨wanted_none rfl, ?_⟩
    clear hd hv hu hs hw
    go_simp
    exact ⟨_, rfl, DstOk.some rfl, Below.refl _ _, rfl⟩
  intro T w hu hs hv hf hcur
  have hT : T = #[T.getD 0 undef, T.getD 1 undef, T.getD 2 undef, T.getD 3 undef, T.getD 4 undef, T.getD 5 undef, T.getD 6 undef, T.getD 7 undef, T.getD 8 undef, T.getD 9 undef, T.getD 10 undef, T.getD 11 undef, T.getD 12 undef, T.getD 13 undef, T.getD 14 undef, T.getD 15 undef, T.getD 16 undef, T.getD 17 undef, T.getD 18 undef, T.getD 19 undef, T.getD 20 undef, T.getD 21 undef, T.getD 22 undef, T.getD 23 undef, T.getD 24 undef, T.getD 25 undef, T.getD 26 undef, T.getD 27 undef, T.getD 28 undef, T.getD 29 undef, T.getD 30 undef, T.getD 31 undef, T.getD 32 undef, T.getD 33 undef, T.getD 34 undef, T.getD 35 undef, T.getD 36 undef, T.getD 37 undef, T.getD 38 undef, T.getD 39 undef, T.getD 40 undef, T.getD 41 undef, T.getD 42 undef, T.getD 43 undef, T.getD 44 undef, T.getD 45 undef, T.getD 46 undef, T.getD 47 undef, T.getD 48 undef] := expl hs
  rw [hT]
  clear hT
  rw [show T.getD 0 undef = (.pointer (some ⟨p, 0, none⟩)) from hv 0 (by kernel_rfl)]
  rw [hv 1 (by kernel_rfl)]
  rw [show T.getD 2 undef = (Value.bool false) from hf 46 (by decide)]
  rw [show T.getD 3 undef = (.pointer (some ⟨p, 0, none⟩)) from hf 0 (by decide)]
  rw [show T.getD 4 undef = (.pointer (some ⟨p, 0, none⟩)) from hf 1 (by decide)]
  rw [show T.getD 5 undef = (.pointer (some ⟨p, 3, none⟩)) from hf 2 (by decide)]
  rw [show T.getD 6 undef = (.int .i64 0) from hf 3 (by decide)]
  rw [show T.getD 7 undef = (.bool true) from hf 4 (by decide)]
  rw [show T.getD 8 undef = (.bool true) from hf 5 (by decide)]
  rw [show T.getD 9 undef = (.pointer (some ⟨p, 0, none⟩)) from hf 6 (by decide)]
  rw [show T.getD 10 undef = (.pointer (some ⟨p, 0, none⟩)) from hf 7 (by decide)]
  rw [show T.getD 11 undef = (.pointer (some ⟨p, 1, none⟩)) from hf 8 (by decide)]
  rw [show T.getD 12 undef = (.int .i64 i) from hf 9 (by decide)]
  rw [show T.getD 13 undef = (.pointer (some ⟨p, 0, none⟩)) from hf 10 (by decide)]
  rw [show T.getD 14 undef = (.pointer (some ⟨p, 0, none⟩)) from hf 11 (by decide)]
  rw [show T.getD 15 undef = (.pointer (some ⟨p, 0, none⟩)) from hf 12 (by decide)]
  rw [show T.getD 16 undef = (.slice (some ⟨b, 0, none⟩) N c) from hf 13 (by decide)]
  rw [show T.getD 17 undef = (.int .i64 N) from hf 14 (by decide)]
  rw [show T.getD 18 undef = (.bool true) from hf 15 (by decide)]
  rw [show T.getD 19 undef = (.bool true) from hf 16 (by decide)]
  rw [show T.getD 20 undef = (.bool true) from hf 17 (by decide)]
  rw [show T.getD 21 undef = (.pointer (some ⟨p, 0, none⟩)) from hf 18 (by decide)]
  rw [show T.getD 22 undef = (.pointer (some ⟨p, 0, none⟩)) from hf 19 (by decide)]
  rw [show T.getD 23 undef = (.pointer (some ⟨p, 0, none⟩)) from hf 20 (by decide)]
  rw [show T.getD 24 undef = (.slice (some ⟨b, 0, none⟩) N c) from hf 21 (by decide)]
  rw [show T.getD 25 undef = (.pointer (some ⟨p, 0, none⟩)) from hf 22 (by decide)]
  rw [show T.getD 26 undef = (.pointer (some ⟨p, 0, none⟩)) from hf 23 (by decide)]
  rw [show T.getD 27 undef = (.pointer (some ⟨p, 1, none⟩)) from hf 24 (by decide)]
  rw [show T.getD 28 undef = (.int .i64 i) from hf 25 (by decide)]
  rw [show T.getD 29 undef = (.pointer (some ⟨b, i * 3, none⟩)) from hf 26 (by decide)]
  rw [show T.getD 30 undef = (.pointer (some ⟨b, i * 3, none⟩)) from hf 27 (by decide)]
  rw [show T.getD 31 undef = (.int .i64 k) from hf 28 (by decide)]
  rw [show T.getD 32 undef = (.bool false) from hf 29 (by decide)]
  rw [show T.getD 33 undef = (.bool false) from hf 30 (by decide)]
  rw [show T.getD 34 undef = (.bool false) from hf 31 (by decide)]
  rw [show T.getD 35 undef = undef from hf 32 (by decide)]
  rw [show T.getD 36 undef = undef from hf 33 (by decide)]
  rw [show T.getD 37 undef = undef from hf 34 (by decide)]
  rw [show T.getD 38 undef = undef from hf 35 (by decide)]
  rw [show T.getD 39 undef = undef from hf 36 (by decide)]
  rw [show T.getD 40 undef = undef from hf 37 (by decide)]
  rw [show T.getD 41 undef = undef from hf 38 (by decide)]
  rw [show T.getD 42 undef = undef from hf 39 (by decide)]
  rw [show T.getD 43 undef = undef from hf 40 (by decide)]
  rw [show T.getD 44 undef = undef from hf 41 (by decide)]
  rw [show T.getD 45 undef = undef from hf 42 (by decide)]
  rw [show T.getD 46 undef = undef from hf 43 (by decide)]
  rw [show T.getD 47 undef = undef from hf 44 (by decide)]
  rw [show T.getD 48 undef = (Value.bool false) from hf 45 (by decide)]
  clear hf hs hv hcur
  simp only [getD_toArray, List.getD_cons_succ, List.getD_cons_zero]
  clear T
  have hb9 := hide (hu.below (Nat.le_refl _) fun _ h => h.elim)
  clear hu
  go_wp2_with fail
  go_ret
  exact ⟨rfl, hb9.out⟩
set_option maxRecDepth 100000 in
set_option maxHeartbeats 1600000 in
theorem nm_yes (p : Nat) (w : World) (a d n i : Nat) (C : Cx) (h : RfW w p C i 0 a d n) (t : Tok) (ht : C.ts[i]? = some t) (hk1 : t.kind = 0) :
    Calls Tryd.prog 52 #[.pointer (some ⟨p, 0, none⟩)] w fun r w' => r = .returned (.bool (!isKw t.text)) ∧ Below w.heap.size w w' := by
  have hh := h.heap
  obtain ⟨A, c, hA, hm⟩ := h.row.slice
  have hrow := h.row
  rw [hA] at hh hrow
  generalize hN : C.ts.length = N at *
  have c0 := cell_at hh 0
  have c1 := cell_at hh 1
  have c3 := cell_at hh 3
  simp at c0 c1 c3
  have hlt0 : i < C.ts.length := (List.getElem?_eq_some_iff.1 ht).1
  rw [hN] at hlt0
  have hlt : (i : Int) < (N : Int) := by omega
  obtain ⟨b, rfl, t0, t1, -⟩ := hrow.get ht
  have hk : ((t.kind : Int) == 0) = true := by rw [hk1]; rfl
  generalize t.kind = k at *
  generalize t.text = tx at *
  replace t0 := hide t0
  replace t1 := hide t1
  replace hk := hide hk
  clear ht hk1 hlt0
  replace hlt := hide hlt
  have hW := hide word_any
  replace c0 := hide c0
  replace c1 := hide c1
  replace c3 := hide c3
  clear hh hrow hm hA h hN
  go_enter Tryd.func52, Tryd.ntmps52
  go_wp2_with fail
  refine wp_region_flow (fun _ => False) (factAt [(fun v _ => v = (.pointer (some ⟨p, 0, none⟩))), (fun v _ => v = (.pointer (some ⟨p, 0, none⟩))), (fun v _ => v = (.pointer (some ⟨p, 3, none⟩))), (fun v _ => v = (.int .i64 0)), (fun v _ => v = (.bool true)), (fun v _ => v = (.bool true)), (fun v _ => v = (.pointer (some ⟨p, 0, none⟩))), (fun v _ => v = (.pointer (some ⟨p, 0, none⟩))), (fun v _ => v = (.pointer (some ⟨p, 1, none⟩))), (fun v _ => v = (.int .i64 i)), (fun v _ => v = (.pointer (some ⟨p, 0, none⟩))), (fun v _ => v = (.pointer (some ⟨p, 0, none⟩))), (fun v _ => v = (.pointer (some ⟨p, 0, none⟩))), (fun v _ => v = (.slice (some ⟨b, 0, none⟩) N c)), (fun v _ => v = (.int .i64 N)), (fun v _ => v = (.bool true)), (fun v _ => v = (.bool true)), (fun v _ => v = (.bool true)), (fun v _ => v = (.pointer (some ⟨p, 0, none⟩))), (fun v _ => v = (.pointer (some ⟨p, 0, none⟩))), (fun v _ => v = (.pointer (some ⟨p, 0, none⟩))), (fun v _ => v = (.slice (some ⟨b, 0, none⟩) N c)), (fun v _ => v = (.pointer (some ⟨p, 0, none⟩))), (fun v _ => v = (.pointer (some ⟨p, 0, none⟩))), (fun v _ => v = (.pointer (some ⟨p, 1, none⟩))), (fun v _ => v = (.int .i64 i)), (fun v _ => v = (.pointer (some ⟨b, i * 3, none⟩))), (fun v _ => v = (.pointer (some ⟨b, i * 3, none⟩))), (fun v _ => v = (.int .i64 k)), (fun v _ => v = (.bool true)), (fun v _ => v = (.bool true)), (fun v _ => v = (.bool true)), (fun v _ => v = (.pointer (some ⟨p, 0, none⟩))), (fun v _ => v = (.pointer (some ⟨p, 0, none⟩))), (fun v _ => v = (.pointer (some ⟨p, 0, none⟩))), (fun v _ => v = (.slice (some ⟨b, 0, none⟩) N c)), (fun v _ => v = (.pointer (some ⟨p, 0, none⟩))), (fun v _ => v = (.pointer (some ⟨p, 0, none⟩))), (fun v _ => v = (.pointer (some ⟨p, 1, none⟩))), (fun v _ => v = (.int .i64 i)), (fun v _ => v = (.pointer (some ⟨b, i * 3, none⟩))), (fun v _ => v = (.pointer (some ⟨b, i * 3 + 1, none⟩))), (fun v _ => v = (.string (strB tx))), (fun v _ => v = (.bool (isKw tx))), (fun v _ => v = (.bool (!isKw tx))), (fun v _ => v = (.bool (!isKw tx))), (fun v _ => v = (.bool (!isKw tx)))]) [] (fun _ => True) (by kernel_rfl) (fkept_at ⟨FKept.eq _, FKept.eq _, FKept.eq _, FKept.eq _, FKept.eq _, FKept.eq _, FKept.eq _, FKept.eq _, FKept.eq _, FKept.eq _, FKept.eq _, FKept.eq _, FKept.eq _, FKept.eq _, FKept.eq _, FKept.eq _, FKept.eq _, FKept.eq _, FKept.eq _, FKept.eq _, FKept.eq _, FKept.eq _, FKept.eq _, FKept.eq _, FKept.eq _, FKept.eq _, FKept.eq _, FKept.eq _, FKept.eq _, FKept.eq _, FKept.eq _, FKept.eq _, FKept.eq _, FKept.eq _, FKept.eq _, FKept.eq _, FKept.eq _, FKept.eq _, FKept.eq _, FKept.eq _, FKept.eq _, FKept.eq _, FKept.eq _, FKept.eq _, FKept.eq _, FKept.eq _, FKept.eq _, trivial⟩) (fun _ _ h _ => h) trivial (by kernel_rfl) (by kernel_rfl) (by kernel_rfl) (by kernel_rfl) (Nat.le_of_ble_eq_true (by kernel_rfl)) ?_ ⟨?_, ?_, ?_, ?_, ?_, ?_, ?_, ?_, ?_, ?_, ?_, ?_, ?_, ?_, ?_, ?_, ?_, ?_, ?_, ?_, ?_, ?_, ?_, ?_, ?_, ?_, ?_, ?_, ?_, ?_, ?_, ?_, ?_, ?_, ?_, ?_, ?_, ?_, ?_, ?_, ?_, ?_, ?_, ?_, ?_, ?_, ?_, trivial⟩ ?_
  · first | exact trivial | assumption
  · intro T w Q hu hs hv hw hd
    have hx0 : T.getD 0 undef = (.pointer (some ⟨p, 0, none⟩)) := hv 0 (by kernel_rfl)
    refine .inl ⟨wanted_none rfl, ?_⟩
    clear hd hv hu hs hw
    go_simp
    exact ⟨_, rfl, DstOk.some rfl, Below.refl _ _, rfl⟩
  · intro T w Q hu hs hv hw hd
    have hx3 : T.getD 3 undef = (.pointer (some ⟨p, 0, none⟩)) := Deps.at 0 hd (by kernel_rfl)
    refine .inl ⟨wanted_none rfl, ?_⟩
    clear hd hv hu hs hw
    go_simp
    exact ⟨_, rfl, DstOk.some rfl, Below.refl _ _, rfl⟩
  · intro T w Q hu hs hv hw hd
    have hx4 : T.getD 4 undef = (.pointer (some ⟨p, 0, none⟩)) := Deps.at 1 hd (by kernel_rfl)
    refine .inl ⟨wanted_none rfl, ?_⟩
    clear hd hv hu hs hw
    go_simp
    exact ⟨_, rfl, DstOk.some rfl, Below.refl _ _, rfl⟩
  · intro T w Q hu hs hv hw hd
    have hx5 : T.getD 5 undef = (.pointer (some ⟨p, 3, none⟩)) := Deps.at 2 hd (by kernel_rfl)
    refine .inl ⟨wanted_none rfl, ?_⟩
    have hq := hu.cell c3.out id
    clear hd hv hu hs hw
    go_simp
    exact ⟨_, rfl, DstOk.some rfl, Below.refl _ _, rfl⟩
  · intro T w Q hu hs hv hw hd
    have hx6 : T.getD 6 undef = (.int .i64 0) := Deps.at 3 hd (by kernel_rfl)
    refine .inl ⟨wanted_none rfl, ?_⟩
    clear hd hv hu hs hw
    go_simp
    exact ⟨_, rfl, DstOk.some rfl, Below.refl _ _, by first | rfl | exact congrArg Value.bool (by first | (simp only [decide_eq_true_eq, decide_eq_false_iff_not]; omega) | (simp; exact eq_of_beq a0) | (simp; exact ne_of_beq_false a0) | simp [a0] | simp_all)⟩
  · intro T w Q hu hs hv hw hd
    have hx7 : T.getD 7 undef = (.bool true) := Deps.at 4 hd (by kernel_rfl)
    refine .inl ⟨wanted_none rfl, ?_⟩
    clear hd hv hu hs hw
    go_simp
    exact ⟨_, rfl, DstOk.some rfl, Below.refl _ _, rfl⟩
  · intro T w Q hu hs hv hw hd
    have hx0 : T.getD 0 undef = (.pointer (some ⟨p, 0, none⟩)) := hv 0 (by kernel_rfl)
    refine .inl ⟨wanted_some rfl (Deps.at 5 hd (by kernel_rfl) : slotOf _ T 5 = .bool true), ?_⟩
    clear hd hv hu hs hw
    go_simp
    exact ⟨_, rfl, DstOk.some rfl, Below.refl _ _, rfl⟩
  · intro T w Q hu hs hv hw hd
    have hx9 : T.getD 9 undef = (.pointer (some ⟨p, 0, none⟩)) := Deps.at 6 hd (by kernel_rfl)
    refine .inl ⟨wanted_some rfl (Deps.at 5 hd (by kernel_rfl) : slotOf _ T 5 = .bool true), ?_⟩
    clear hd hv hu hs hw
    go_simp
    exact ⟨_, rfl, DstOk.some rfl, Below.refl _ _, rfl⟩
  · intro T w Q hu hs hv hw hd
    have hx10 : T.getD 10 undef = (.pointer (some ⟨p, 0, none⟩)) := Deps.at 7 hd (by kernel_rfl)
    refine .inl ⟨wanted_some rfl (Deps.at 5 hd (by kernel_rfl) : slotOf _ T 5 = .bool true), ?_⟩
    clear hd hv hu hs hw
    go_simp
    exact ⟨_, rfl, DstOk.some rfl, Below.refl _ _, rfl⟩
  · intro T w Q hu hs hv hw hd
    have hx11 : T.getD 11 undef = (.pointer (some ⟨p, 1, none⟩)) := Deps.at 8 hd (by kernel_rfl)
    refine .inl ⟨wanted_some rfl (Deps.at 5 hd (by kernel_rfl) : slotOf _ T 5 = .bool true), ?_⟩
    have hq := hu.cell c1.out id
    clear hd hv hu hs hw
    go_simp
    exact ⟨_, rfl, DstOk.some rfl, Below.refl _ _, rfl⟩
  · intro T w Q hu hs hv hw hd
    have hx0 : T.getD 0 undef = (.pointer (some ⟨p, 0, none⟩)) := hv 0 (by kernel_rfl)
    refine .inl ⟨wanted_some rfl (Deps.at 5 hd (by kernel_rfl) : slotOf _ T 5 = .bool true), ?_⟩
    clear hd hv hu hs hw
    go_simp
    exact ⟨_, rfl, DstOk.some rfl, Below.refl _ _, rfl⟩
  · intro T w Q hu hs hv hw hd
    have hx13 : T.getD 13 undef = (.pointer (some ⟨p, 0, none⟩)) := Deps.at 10 hd (by kernel_rfl)
    refine .inl ⟨wanted_some rfl (Deps.at 5 hd (by kernel_rfl) : slotOf _ T 5 = .bool true), ?_⟩
    clear hd hv hu hs hw
    go_simp
    exact ⟨_, rfl, DstOk.some rfl, Below.refl _ _, rfl⟩
  · intro T w Q hu hs hv hw hd
    have hx14 : T.getD 14 undef = (.pointer (some ⟨p, 0, none⟩)) := Deps.at 11 hd (by kernel_rfl)
    refine .inl ⟨wanted_some rfl (Deps.at 5 hd (by kernel_rfl) : slotOf _ T 5 = .bool true), ?_⟩
    clear hd hv hu hs hw
    go_simp
    exact ⟨_, rfl, DstOk.some rfl, Below.refl _ _, rfl⟩
  · intro T w Q hu hs hv hw hd
    have hx15 : T.getD 15 undef = (.pointer (some ⟨p, 0, none⟩)) := Deps.at 12 hd (by kernel_rfl)
    refine .inl ⟨wanted_some rfl (Deps.at 5 hd (by kernel_rfl) : slotOf _ T 5 = .bool true), ?_⟩
    have hq := hu.cell c0.out id
    clear hd hv hu hs hw
    go_simp
    exact ⟨_, rfl, DstOk.some rfl, Below.refl _ _, rfl⟩
  · intro T w Q hu hs hv hw hd
    have hx16 : T.getD 16 undef = (.slice (some ⟨b, 0, none⟩) N c) := Deps.at 13 hd (by kernel_rfl)
    refine .inl ⟨wanted_some rfl (Deps.at 5 hd (by kernel_rfl) : slotOf _ T 5 = .bool true), ?_⟩
    clear hd hv hu hs hw
    go_simp
    exact ⟨_, rfl, DstOk.some rfl, Below.refl _ _, rfl⟩
  · intro T w Q hu hs hv hw hd
    have hx12 : T.getD 12 undef = (.int .i64 i) := Deps.at 9 hd (by kernel_rfl)
    have hx17 : T.getD 17 undef = (.int .i64 N) := Deps.at 14 hd (by kernel_rfl)
    refine .inl ⟨wanted_some rfl (Deps.at 5 hd (by kernel_rfl) : slotOf _ T 5 = .bool true), ?_⟩
    have a0 := hlt.out
    clear hd hv hu hs hw
    go_simp
    exact ⟨_, rfl, DstOk.some rfl, Below.refl _ _, by first | rfl | exact congrArg Value.bool (by first | (simp only [decide_eq_true_eq, decide_eq_false_iff_not]; omega) | (simp; exact eq_of_beq a0) | (simp; exact ne_of_beq_false a0) | simp [a0] | simp_all)⟩
  · intro T w Q hu hs hv hw hd
    have hx8 : T.getD 8 undef = (.bool true) := Deps.at 5 hd (by kernel_rfl)
    have hx18 : T.getD 18 undef = (.bool true) := Deps.at 15 hd (by kernel_rfl)
    refine .inl ⟨wanted_none rfl, ?_⟩
    clear hd hv hu hs hw
    go_simp
    exact ⟨_, rfl, DstOk.some rfl, Below.refl _ _, rfl⟩
  · intro T w Q hu hs hv hw hd
    have hx19 : T.getD 19 undef = (.bool true) := Deps.at 16 hd (by kernel_rfl)
    refine .inl ⟨wanted_none rfl, ?_⟩
    clear hd hv hu hs hw
    go_simp
    exact ⟨_, rfl, DstOk.some rfl, Below.refl _ _, rfl⟩
  · intro T w Q hu hs hv hw hd
    have hx0 : T.getD 0 undef = (.pointer (some ⟨p, 0, none⟩)) := hv 0 (by kernel_rfl)
    refine .inl ⟨wanted_some rfl (Deps.at 17 hd (by kernel_rfl) : slotOf _ T 17 = .bool true), ?_⟩
    clear hd hv hu hs hw
    go_simp
    exact ⟨_, rfl, DstOk.some rfl, Below.refl _ _, rfl⟩
  · intro T w Q hu hs hv hw hd
    have hx21 : T.getD 21 undef = (.pointer (some ⟨p, 0, none⟩)) := Deps.at 18 hd (by kernel_rfl)
    refine .inl ⟨wanted_some rfl (Deps.at 17 hd (by kernel_rfl) : slotOf _ T 17 = .bool true), ?_⟩
    clear hd hv hu hs hw
    go_simp
    exact ⟨_, rfl, DstOk.some rfl, Below.refl _ _, rfl⟩
  · intro T w Q hu hs hv hw hd
    have hx22 : T.getD 22 undef = (.pointer (some ⟨p, 0, none⟩)) := Deps.at 19 hd (by kernel_rfl)
    refine .inl ⟨wanted_some rfl (Deps.at 17 hd (by kernel_rfl) : slotOf _ T 17 = .bool true), ?_⟩
    clear hd hv hu hs hw
    go_simp
    exact ⟨_, rfl, DstOk.some rfl, Below.refl _ _, rfl⟩
  · intro T w Q hu hs hv hw hd
    have hx23 : T.getD 23 undef = (.pointer (some ⟨p, 0, none⟩)) := Deps.at 20 hd (by kernel_rfl)
    refine .inl ⟨wanted_some rfl (Deps.at 17 hd (by kernel_rfl) : slotOf _ T 17 = .bool true), ?_⟩
    have hq := hu.cell c0.out id
    clear hd hv hu hs hw
    go_simp
    exact ⟨_, rfl, DstOk.some rfl, Below.refl _ _, rfl⟩
  · intro T w Q hu hs hv hw hd
    have hx0 : T.getD 0 undef = (.pointer (some ⟨p, 0, none⟩)) := hv 0 (by kernel_rfl)
    refine .inl ⟨wanted_some rfl (Deps.at 17 hd (by kernel_rfl) : slotOf _ T 17 = .bool true), ?_⟩
    clear hd hv hu hs hw
    go_simp
    exact ⟨_, rfl, DstOk.some rfl, Below.refl _ _, rfl⟩
  · intro T w Q hu hs hv hw hd
    have hx25 : T.getD 25 undef = (.pointer (some ⟨p, 0, none⟩)) := Deps.at 22 hd (by kernel_rfl)
    refine .inl ⟨wanted_some rfl (Deps.at 17 hd (by kernel_rfl) : slotOf _ T 17 = .bool true), ?_⟩
    clear hd hv hu hs hw
    go_simp
    exact ⟨_, rfl, DstOk.some rfl, Below.refl _ _, rfl⟩
  · intro T w Q hu hs hv hw hd
    have hx26 : T.getD 26 undef = (.pointer (some ⟨p, 0, none⟩)) := Deps.at 23 hd (by kernel_rfl)
    refine .inl ⟨wanted_some rfl (Deps.at 17 hd (by kernel_rfl) : slotOf _ T 17 = .bool true), ?_⟩
    clear hd hv hu hs hw
    go_simp
    exact ⟨_, rfl, DstOk.some rfl, Below.refl _ _, rfl⟩
  · intro T w Q hu hs hv hw hd
    have hx27 : T.getD 27 undef = (.pointer (some ⟨p, 1, none⟩)) := Deps.at 24 hd (by kernel_rfl)
    refine .inl ⟨wanted_some rfl (Deps.at 17 hd (by kernel_rfl) : slotOf _ T 17 = .bool true), ?_⟩
    have hq := hu.cell c1.out id
    clear hd hv hu hs hw
    go_simp
    exact ⟨_, rfl, DstOk.some rfl, Below.refl _ _, rfl⟩
  · intro T w Q hu hs hv hw hd
    have hx24 : T.getD 24 undef = (.slice (some ⟨b, 0, none⟩) N c) := Deps.at 21 hd (by kernel_rfl)
    have hx28 : T.getD 28 undef = (.int .i64 i) := Deps.at 25 hd (by kernel_rfl)
    refine .inl ⟨wanted_some rfl (Deps.at 17 hd (by kernel_rfl) : slotOf _ T 17 = .bool true), ?_⟩
    have a0 := hlt.out
    clear hd hv hu hs hw
    go_simp
    exact ⟨_, rfl, DstOk.some rfl, Below.refl _ _, rfl⟩
  · intro T w Q hu hs hv hw hd
    have hx29 : T.getD 29 undef = (.pointer (some ⟨b, i * 3, none⟩)) := Deps.at 26 hd (by kernel_rfl)
    refine .inl ⟨wanted_some rfl (Deps.at 17 hd (by kernel_rfl) : slotOf _ T 17 = .bool true), ?_⟩
    clear hd hv hu hs hw
    go_simp
    exact ⟨_, rfl, DstOk.some rfl, Below.refl _ _, rfl⟩
  · intro T w Q hu hs hv hw hd
    have hx30 : T.getD 30 undef = (.pointer (some ⟨b, i * 3, none⟩)) := Deps.at 27 hd (by kernel_rfl)
    refine .inl ⟨wanted_some rfl (Deps.at 17 hd (by kernel_rfl) : slotOf _ T 17 = .bool true), ?_⟩
    have hq := hu.cell t0.out id
    clear hd hv hu hs hw
    go_simp
    exact ⟨_, rfl, DstOk.some rfl, Below.refl _ _, rfl⟩
  · intro T w Q hu hs hv hw hd
    have hx31 : T.getD 31 undef = (.int .i64 k) := Deps.at 28 hd (by kernel_rfl)
    refine .inl ⟨wanted_some rfl (Deps.at 17 hd (by kernel_rfl) : slotOf _ T 17 = .bool true), ?_⟩
    have a0 := hk.out
    clear hd hv hu hs hw
    go_simp
    exact ⟨_, rfl, DstOk.some rfl, Below.refl _ _, by first | rfl | exact congrArg Value.bool (by first | (simp only [decide_eq_true_eq, decide_eq_false_iff_not]; omega) | (simp; exact eq_of_beq a0) | (simp; exact ne_of_beq_false a0) | simp [a0] | simp_all)⟩
  · intro T w Q hu hs hv hw hd
    have hx20 : T.getD 20 undef = (.bool true) := Deps.at 17 hd (by kernel_rfl)
    have hx32 : T.getD 32 undef = (.bool true) := Deps.at 29 hd (by kernel_rfl)
    refine .inl ⟨wanted_none rfl, ?_⟩
    clear hd hv hu hs hw
    go_simp
    exact ⟨_, rfl, DstOk.some rfl, Below.refl _ _, rfl⟩
  · intro T w Q hu hs hv hw hd
    have hx33 : T.getD 33 undef = (.bool true) := Deps.at 30 hd (by kernel_rfl)
    refine .inl ⟨wanted_none rfl, ?_⟩
    clear hd hv hu hs hw
    go_simp
    exact ⟨_, rfl, DstOk.some rfl, Below.refl _ _, rfl⟩
  · intro T w Q hu hs hv hw hd
    have hx0 : T.getD 0 undef = (.pointer (some ⟨p, 0, none⟩)) := hv 0 (by kernel_rfl)
    refine .inl ⟨wanted_some rfl (Deps.at 31 hd (by kernel_rfl) : slotOf _ T 31 = .bool true), ?_⟩
    clear hd hv hu hs hw
    go_simp
    exact ⟨_, rfl, DstOk.some rfl, Below.refl _ _, rfl⟩
  · intro T w Q hu hs hv hw hd
    have hx35 : T.getD 35 undef = (.pointer (some ⟨p, 0, none⟩)) := Deps.at 32 hd (by kernel_rfl)
    refine .inl ⟨wanted_some rfl (Deps.at 31 hd (by kernel_rfl) : slotOf _ T 31 = .bool true), ?_⟩
    clear hd hv hu hs hw
    go_simp
    exact ⟨_, rfl, DstOk.some rfl, Below.refl _ _, rfl⟩
  · intro T w Q hu hs hv hw hd
    have hx36 : T.getD 36 undef = (.pointer (some ⟨p, 0, none⟩)) := Deps.at 33 hd (by kernel_rfl)
    refine .inl ⟨wanted_some rfl (Deps.at 31 hd (by kernel_rfl) : slotOf _ T 31 = .bool true), ?_⟩
    clear hd hv hu hs hw
    go_simp
    exact ⟨_, rfl, DstOk.some rfl, Below.refl _ _, rfl⟩
  · intro T w Q hu hs hv hw hd
    have hx37 : T.getD 37 undef = (.pointer (some ⟨p, 0, none⟩)) := Deps.at 34 hd (by kernel_rfl)
    refine .inl ⟨wanted_some rfl (Deps.at 31 hd (by kernel_rfl) : slotOf _ T 31 = .bool true), ?_⟩
    have hq := hu.cell c0.out id
    clear hd hv hu hs hw
    go_simp
    exact ⟨_, rfl, DstOk.some rfl, Below.refl _ _, rfl⟩
  · intro T w Q hu hs hv hw hd
    have hx0 : T.getD 0 undef = (.pointer (some ⟨p, 0, none⟩)) := hv 0 (by kernel_rfl)
    refine .inl ⟨wanted_some rfl (Deps.at 31 hd (by kernel_rfl) : slotOf _ T 31 = .bool true), ?_⟩
    clear hd hv hu hs hw
    go_simp
    exact ⟨_, rfl, DstOk.some rfl, Below.refl _ _, rfl⟩
  · intro T w Q hu hs hv hw hd
    have hx39 : T.getD 39 undef = (.pointer (some ⟨p, 0, none⟩)) := Deps.at 36 hd (by kernel_rfl)
    refine .inl ⟨wanted_some rfl (Deps.at 31 hd (by kernel_rfl) : slotOf _ T 31 = .bool true), ?_⟩
    clear hd hv hu hs hw
    go_simp
    exact ⟨_, rfl, DstOk.some rfl, Below.refl _ _, rfl⟩
  · intro T w Q hu hs hv hw hd
    have hx40 : T.getD 40 undef = (.pointer (some ⟨p, 0, none⟩)) := Deps.at 37 hd (by kernel_rfl)
    refine .inl ⟨wanted_some rfl (Deps.at 31 hd (by kernel_rfl) : slotOf _ T 31 = .bool true), ?_⟩
    clear hd hv hu hs hw
    go_simp
    exact ⟨_, rfl, DstOk.some rfl, Below.refl _ _, rfl⟩
  · intro T w Q hu hs hv hw hd
    have hx41 : T.getD 41 undef = (.pointer (some ⟨p, 1, none⟩)) := Deps.at 38 hd (by kernel_rfl)
    refine .inl ⟨wanted_some rfl (Deps.at 31 hd (by kernel_rfl) : slotOf _ T 31 = .bool true), ?_⟩
    have hq := hu.cell c1.out id
    clear hd hv hu hs hw
    go_simp
    exact ⟨_, rfl, DstOk.some rfl, Below.refl _ _, rfl⟩
  · intro T w Q hu hs hv hw hd
    have hx38 : T.getD 38 undef = (.slice (some ⟨b, 0, none⟩) N c) := Deps.at 35 hd (by kernel_rfl)
    have hx42 : T.getD 42 undef = (.int .i64 i) := Deps.at 39 hd (by kernel_rfl)
    refine .inl ⟨wanted_some rfl (Deps.at 31 hd (by kernel_rfl) : slotOf _ T 31 = .bool true), ?_⟩
    have a0 := hlt.out
    clear hd hv hu hs hw
    go_simp
    exact ⟨_, rfl, DstOk.some rfl, Below.refl _ _, rfl⟩
  · intro T w Q hu hs hv hw hd
    have hx43 : T.getD 43 undef = (.pointer (some ⟨b, i * 3, none⟩)) := Deps.at 40 hd (by kernel_rfl)
    refine .inl ⟨wanted_some rfl (Deps.at 31 hd (by kernel_rfl) : slotOf _ T 31 = .bool true), ?_⟩
    clear hd hv hu hs hw
    go_simp
    exact ⟨_, rfl, DstOk.some rfl, Below.refl _ _, rfl⟩
  · intro T w Q hu hs hv hw hd
    have hx44 : T.getD 44 undef = (.pointer (some ⟨b, i * 3 + 1, none⟩)) := Deps.at 41 hd (by kernel_rfl)
    refine .inl ⟨wanted_some rfl (Deps.at 31 hd (by kernel_rfl) : slotOf _ T 31 = .bool true), ?_⟩
    have hq := hu.cell t1.out id
    clear hd hv hu hs hw
    go_simp
    exact ⟨_, rfl, DstOk.some rfl, Below.refl _ _, rfl⟩
  · intro T w Q hu hs hv hw hd
    have hx45 : T.getD 45 undef = (.string (strB tx)) := Deps.at 42 hd (by kernel_rfl)
    refine .inl ⟨wanted_some rfl (Deps.at 31 hd (by kernel_rfl) : slotOf _ T 31 = .bool true), ?_⟩
    have hN := hW.out tx w
    clear hd hv hu hs hw
    go_simp
    refine hN.mono ?_
    rintro e w5 ⟨rfl, hb⟩
    exact ⟨_, rfl, DstOk.some rfl, hb, rfl⟩
  · intro T w Q hu hs hv hw hd
    have hx46 : T.getD 46 undef = (.bool (isKw tx)) := Deps.at 43 hd (by kernel_rfl)
    refine .inl ⟨wanted_some rfl (Deps.at 31 hd (by kernel_rfl) : slotOf _ T 31 = .bool true), ?_⟩
    clear hd hv hu hs hw
    go_simp
    exact ⟨_, rfl, DstOk.some rfl, Below.refl _ _, rfl⟩
  · intro T w Q hu hs hv hw hd
    have hx34 : T.getD 34 undef = (.bool true) := Deps.at 31 hd (by kernel_rfl)
    have hx47 : T.getD 47 undef = (.bool (!isKw tx)) := Deps.at 44 hd (by kernel_rfl)
    refine .inl ⟨wanted_none rfl, ?_⟩
    clear hd hv hu hs hw
    go_simp
    exact ⟨_, rfl, DstOk.some rfl, Below.refl _ _, rfl⟩
  · intro T w Q hu hs hv hw hd
    have hx48 : T.getD 48 undef = (.bool (!isKw tx)) := Deps.at 45 hd (by kernel_rfl)
    refine .inl ⟨wanted_none rfl, ?_⟩
    clear hd hv hu hs hw
    go_simp
    exact ⟨_, rfl, DstOk.some rfl, Below.refl _ _, rfl⟩
  intro T w hu hs hv hf hcur
  have hT : T = #[T.getD 0 undef, T.getD 1 undef, T.getD 2 undef, T.getD 3 undef, T.getD 4 undef, T.getD 5 undef, T.getD 6 undef, T.getD 7 undef, T.getD 8 undef, T.getD 9 undef, T.getD 10 undef, T.getD 11 undef, T.getD 12 undef, T.getD 13 undef, T.getD 14 undef, T.getD 15 undef, T.getD 16 undef, T.getD 17 undef, T.getD 18 undef, T.getD 19 undef, T.getD 20 undef, T.getD 21 undef, T.getD 22 undef, T.getD 23 undef, T.getD 24 undef, T.getD 25 undef, T.getD 26 undef, T.getD 27 undef, T.getD 28 undef, T.getD 29 undef, T.getD 30 undef, T.getD 31 undef, T.getD 32 undef, T.getD 33 undef, T.getD 34 undef, T.getD 35 undef, T.getD 36 undef, T.getD 37 undef, T.getD 38 undef, T.getD 39 undef, T.getD 40 undef, T.getD 41 undef, T.getD 42 undef, T.getD 43 undef, T.getD 44 undef, T.getD 45 undef, T.getD 46 undef, T.getD 47 undef, T.getD 48 undef] := expl hs
  rw [hT]
  clear hT
  rw [show T.getD 0 undef = (.pointer (some ⟨p, 0, none⟩)) from hv 0 (by kernel_rfl)]
  rw [hv 1 (by kernel_rfl)]
  rw [show T.getD 2 undef = (.bool (!isKw tx)) from hf 46 (by decide)]
  rw [show T.getD 3 undef = (.pointer (some ⟨p, 0, none⟩)) from hf 0 (by decide)]
  rw [show T.getD 4 undef = (.pointer (some ⟨p, 0, none⟩)) from hf 1 (by decide)]
  rw [show T.getD 5 undef = (.pointer (some ⟨p, 3, none⟩)) from hf 2 (by decide)]
  rw [show T.getD 6 undef = (.int .i64 0) from hf 3 (by decide)]
  rw [show T.getD 7 undef = (.bool true) from hf 4 (by decide)]
  rw [show T.getD 8 undef = (.bool true) from hf 5 (by decide)]
  rw [show T.getD 9 undef = (.pointer (some ⟨p, 0, none⟩)) from hf 6 (by decide)]
  rw [show T.getD 10 undef = (.pointer (some ⟨p, 0, none⟩)) from hf 7 (by decide)]
  rw [show T.getD 11 undef = (.pointer (some ⟨p, 1, none⟩)) from hf 8 (by decide)]
  rw [show T.getD 12 undef = (.int .i64 i) from hf 9 (by decide)]
  rw [show T.getD 13 undef = (.pointer (some ⟨p, 0, none⟩)) from hf 10 (by decide)]
  rw [show T.getD 14 undef = (.pointer (some ⟨p, 0, none⟩)) from hf 11 (by decide)]
  rw [show T.getD 15 undef = (.pointer (some ⟨p, 0, none⟩)) from hf 12 (by decide)]
  rw [show T.getD 16 undef = (.slice (some ⟨b, 0, none⟩) N c) from hf 13 (by decide)]
  rw [show T.getD 17 undef = (.int .i64 N) from hf 14 (by decide)]
  rw [show T.getD 18 undef = (.bool true) from hf 15 (by decide)]
  rw [show T.getD 19 undef = (.bool true) from hf 16 (by decide)]
  rw [show T.getD 20 undef = (.bool true) from hf 17 (by decide)]
  rw [show T.getD 21 undef = (.pointer (some ⟨p, 0, none⟩)) from hf 18 (by decide)]
  rw [show T.getD 22 undef = (.pointer (some ⟨p, 0, none⟩)) from hf 19 (by decide)]
  rw [show T.getD 23 undef = (.pointer (some ⟨p, 0, none⟩)) from hf 20 (by decide)]
  rw [show T.getD 24 undef = (.slice (some ⟨b, 0, none⟩) N c) from hf 21 (by decide)]
  rw [show T.getD 25 undef = (.pointer (some ⟨p, 0, none⟩)) from hf 22 (by decide)]
  rw [show T.getD 26 undef = (.pointer (some ⟨p, 0, none⟩)) from hf 23 (by decide)]
  rw [show T.getD 27 undef = (.pointer (some ⟨p, 1, none⟩)) from hf 24 (by decide)]
  rw [show T.getD 28 undef = (.int .i64 i) from hf 25 (by decide)]
  rw [show T.getD 29 undef = (.pointer (some ⟨b, i * 3, none⟩)) from hf 26 (by decide)]
  rw [show T.getD 30 undef = (.pointer (some ⟨b, i * 3, none⟩)) from hf 27 (by decide)]
  rw [show T.getD 31 undef = (.int .i64 k) from hf 28 (by decide)]
  rw [show T.getD 32 undef = (.bool true) from hf 29 (by decide)]
  rw [show T.getD 33 undef = (.bool true) from hf 30 (by decide)]
  rw [show T.getD 34 undef = (.bool true) from hf 31 (by decide)]
  rw [show T.getD 35 undef = (.pointer (some ⟨p, 0, none⟩)) from hf 32 (by decide)]
  rw [show T.getD 36 undef = (.pointer (some ⟨p, 0, none⟩)) from hf 33 (by decide)]
  rw [show T.getD 37 undef = (.pointer (some ⟨p, 0, none⟩)) from hf 34 (by decide)]
  rw [show T.getD 38 undef = (.slice (some ⟨b, 0, none⟩) N c) from hf 35 (by decide)]
  rw [show T.getD 39 undef = (.pointer (some ⟨p, 0, none⟩)) from hf 36 (by decide)]
  rw [show T.getD 40 undef = (.pointer (some ⟨p, 0, none⟩)) from hf 37 (by decide)]
  rw [show T.getD 41 undef = (.pointer (some ⟨p, 1, none⟩)) from hf 38 (by decide)]
  rw [show T.getD 42 undef = (.int .i64 i) from hf 39 (by decide)]
  rw [show T.getD 43 undef = (.pointer (some ⟨b, i * 3, none⟩)) from hf 40 (by decide)]
  rw [show T.getD 44 undef = (.pointer (some ⟨b, i * 3 + 1, none⟩)) from hf 41 (by decide)]
  rw [show T.getD 45 undef = (.string (strB tx)) from hf 42 (by decide)]
  rw [show T.getD 46 undef = (.bool (isKw tx)) from hf 43 (by decide)]
  rw [show T.getD 47 undef = (.bool (!isKw tx)) from hf 44 (by decide)]
  rw [show T.getD 48 undef = (.bool (!isKw tx)) from hf 45 (by decide)]
  clear hf hs hv hcur
  simp only [getD_toArray, List.getD_cons_succ, List.getD_cons_zero]
  clear T
  have hb9 := hide (hu.below (Nat.le_refl _) fun _ h => h.elim)
  clear hu
  go_wp2_with fail
  go_ret
  exact ⟨rfl, hb9.out⟩
end Go.Proofs.YtiiihpokpfhclaaDoor
