/- Walks of wal: where things lie. -/
import Derived.Test.YtimblkkojcbipaaDoorPages
import Derived.Test.YtimblkkojcbipaaDoorFlow
namespace Go.Proofs.YtimblkkojcbipaaDoor
open Go Go.RowKit
theorem w64 {n : Int} (h : -9223372036854775808 ≤ n ∧ n ≤ 9223372036854775807) : wrap64 n = n := by unfold wrap64; omega
def areaN (D : DS) : Nat := (D.n - 3) / 2
def capN (D : DS) : Nat := areaN D * D.size
theorem other_any (w : World) (i : Nat) (hi : i ≤ 1) : Calls Tryd.prog 35 #[.int .i64 i] w fun e w' => e = .returned (.int .i64 (1 - i : Nat)) ∧ w = w' := by
  go_enter Tryd.func35, Tryd.ntmps35
  go_wp2_with fail
  go_ret
  exact ⟨by simp; omega, rfl⟩
theorem area_any {w : World} {S : Nat → Prop} {sb : Nat} {D : DS} (h : DiskV w sb S D) (hn : 16 ≤ D.n) : Calls Tryd.prog 52 #[.pointer (some ⟨sb, 0, none⟩)] w fun e w' => e = .returned (.int .i64 (areaN D)) ∧ w = w' := by
  have hs := sectorsV h
  have h1 := h.n1
  have e : ((D.n : Int) - 3).tdiv 2 = (areaN D : Nat) := by
    have : ((D.n : Int) - 3) = ((D.n - 3 : Nat) : Int) := by omega
    rw [this]
    exact (Int.natCast_ediv _ 2 ▸ rfl)
  have hz2 : areaN D ≤ 2046 := by unfold areaN; omega
  generalize areaN D = z at *
  have hz : wrap64 (z : Int) = z := w64 (by omega)
  clear h
  go_enter Tryd.func52, Tryd.ntmps52
  go_wp2_with fail
  refine hs.mono ?_
  rintro e w' ⟨rfl, rfl⟩
  go_wp2_with fail
  go_ret
  exact ⟨rfl, rfl⟩
def secN (D : DS) (a t : Nat) : Nat := 3 + a * areaN D + t / D.size
theorem area_le {D : DS} (h : D.n ≤ 4096) : areaN D ≤ 2046 := by unfold areaN; omega
set_option maxRecDepth 100000 in
theorem capacity_any {w : World} {S : Nat → Prop} {sb : Nat} {D : DS} (h : DiskV w sb S D) (hn : 16 ≤ D.n) : Calls Tryd.prog 33 #[.pointer (some ⟨sb, 0, none⟩)] w fun e w' => e = .returned (.int .i64 (capN D)) ∧ Below w.heap.size w w' := by
  have h1 := h.n1
  have h2 := h.s1
  have ha := area_le h1.2
  have hm : areaN D * D.size ≤ 2046 * 4096 := Nat.mul_le_mul ha h2.2
  have hwr : IntKind.i64.wrap ((areaN D : Int) * (D.size : Int)) = (capN D : Int) := by
    unfold capN
    rw [IntKind.wrap_i64, ← Int.natCast_mul]
    omega
  have hD := hide h
  replace hwr := hide hwr
  clear h hm ha
  go_enter Tryd.func33, Tryd.ntmps33
  go_wp2_with fail
  refine wp_region_flow (fun _ => False) (factAt [(fun v _ => v = (.pointer (some ⟨sb, 0, none⟩))), (fun v _ => v = (.int .i64 (areaN D : Nat))), (fun v _ => v = (.pointer (some ⟨sb, 0, none⟩))), (fun v _ => v = (.pointer (some ⟨sb, 0, none⟩))), (fun v _ => v = (.pointer (some ⟨sb, 0, none⟩))), (fun v _ => v = (.int .i64 (D.size : Nat))), (fun v _ => v = (.int .i64 (capN D : Nat))), (fun v _ => v = (.int .i64 (capN D : Nat)))]) [] (fun _ => True) (by kernel_rfl) (fkept_at ⟨FKept.eq _, FKept.eq _, FKept.eq _, FKept.eq _, FKept.eq _, FKept.eq _, FKept.eq _, FKept.eq _, trivial⟩) (fun _ _ h _ => h) trivial (by kernel_rfl) (by kernel_rfl) (by kernel_rfl) (by kernel_rfl) (Nat.le_of_ble_eq_true (by kernel_rfl)) ?_ ⟨?_, ?_, ?_, ?_, ?_, ?_, ?_, ?_, trivial⟩ ?_
  · first | exact trivial | assumption
  · intro T w Q hu hs hv hw hd
    have hx0 : T.getD 0 undef = (.pointer (some ⟨sb, 0, none⟩)) := hv 0 (by kernel_rfl)
    refine .inl ⟨wanted_none rfl, ?_⟩
    clear hd hv hu hs hw
    go_simp
    exact ⟨_, rfl, DstOk.some rfl, Below.refl _ _, rfl⟩
  · intro T w Q hu hs hv hw hd
    have hx3 : T.getD 3 undef = (.pointer (some ⟨sb, 0, none⟩)) := Deps.at 0 hd (by kernel_rfl)
    refine .inl ⟨wanted_none rfl, ?_⟩
    have hN := area_any (hD.out.upd hu fun _ _ => id) hn
    clear hd hv hu hs hw
    go_simp
    refine hN.mono ?_
    rintro e w2 ⟨rfl, rfl⟩
    exact ⟨_, rfl, DstOk.some rfl, Below.refl _ _, rfl⟩
  · intro T w Q hu hs hv hw hd
    have hx0 : T.getD 0 undef = (.pointer (some ⟨sb, 0, none⟩)) := hv 0 (by kernel_rfl)
    refine .inl ⟨wanted_none rfl, ?_⟩
    clear hd hv hu hs hw
    go_simp
    exact ⟨_, rfl, DstOk.some rfl, Below.refl _ _, rfl⟩
  · intro T w Q hu hs hv hw hd
    have hx5 : T.getD 5 undef = (.pointer (some ⟨sb, 0, none⟩)) := Deps.at 2 hd (by kernel_rfl)
    refine .inl ⟨wanted_none rfl, ?_⟩
    clear hd hv hu hs hw
    go_simp
    exact ⟨_, rfl, DstOk.some rfl, Below.refl _ _, rfl⟩
  · intro T w Q hu hs hv hw hd
    have hx6 : T.getD 6 undef = (.pointer (some ⟨sb, 0, none⟩)) := Deps.at 3 hd (by kernel_rfl)
    refine .inl ⟨wanted_none rfl, ?_⟩
    clear hd hv hu hs hw
    go_simp
    exact ⟨_, rfl, DstOk.some rfl, Below.refl _ _, rfl⟩
  · intro T w Q hu hs hv hw hd
    have hx7 : T.getD 7 undef = (.pointer (some ⟨sb, 0, none⟩)) := Deps.at 4 hd (by kernel_rfl)
    refine .inl ⟨wanted_none rfl, ?_⟩
    have hN := sizeV (hD.out.upd hu fun _ _ => id)
    clear hd hv hu hs hw
    go_simp
    refine hN.mono ?_
    rintro e w2 ⟨rfl, rfl⟩
    exact ⟨_, rfl, DstOk.some rfl, Below.refl _ _, rfl⟩
  · intro T w Q hu hs hv hw hd
    have hx4 : T.getD 4 undef = (.int .i64 (areaN D : Nat)) := Deps.at 1 hd (by kernel_rfl)
    have hx8 : T.getD 8 undef = (.int .i64 (D.size : Nat)) := Deps.at 5 hd (by kernel_rfl)
    refine .inl ⟨wanted_none rfl, ?_⟩
    clear hd hv hu hs hw
    go_simp
    exact ⟨_, rfl, DstOk.some rfl, Below.refl _ _, by simp only [hwr.out]; exact rfl⟩
  · intro T w Q hu hs hv hw hd
    have hx9 : T.getD 9 undef = (.int .i64 (capN D : Nat)) := Deps.at 6 hd (by kernel_rfl)
    refine .inl ⟨wanted_none rfl, ?_⟩
    clear hd hv hu hs hw
    go_simp
    exact ⟨_, rfl, DstOk.some rfl, Below.refl _ _, rfl⟩
  · intro T w hu hs hv hf hcur
    go_wp2_with fail
    go_ret
    exact ⟨by have := hf 7 (by decide); exact congrArg _ this, hu.below (Nat.le_refl _) fun _ h => h.elim⟩
theorem area_hi {D : DS} {a : Nat} (ha : a ≤ 1) (h : 16 ≤ D.n) : 3 + a * areaN D + areaN D ≤ D.n := by
  unfold areaN
  have : a * ((D.n - 3) / 2) ≤ (D.n - 3) / 2 := by
    have := Nat.mul_le_mul_right ((D.n - 3) / 2) ha
    omega
  omega
set_option maxRecDepth 100000 in
theorem sectorOf_any {w : World} {S : Nat → Prop} {sb : Nat} {D : DS} (h : DiskV w sb S D) (hn : 16 ≤ D.n) (a t : Nat) (ha : a ≤ 1) (ht : t ≤ 16777216) : Calls Tryd.prog 70 #[.pointer (some ⟨sb, 0, none⟩), .int .i64 a, .int .i64 t] w fun e w' => e = .returned (.int .i64 (secN D a t)) ∧ Below w.heap.size w w' := by
  have h1 := h.n1
  have h2 := h.s1
  have hz := area_le h1.2
  have hm : a * areaN D ≤ 1 * 2046 := Nat.mul_le_mul ha hz
  have hdiv : t / D.size ≤ t := Nat.div_le_self _ _
  obtain ⟨z, hzz⟩ : ∃ z, z = areaN D := ⟨_, rfl⟩
  obtain ⟨q, hq⟩ : ∃ q, q = a * areaN D := ⟨_, rfl⟩
  obtain ⟨q3, hq3⟩ : ∃ q3, q3 = 3 + q := ⟨_, rfl⟩
  obtain ⟨r, hr⟩ : ∃ r, r = t / D.size := ⟨_, rfl⟩
  obtain ⟨s, htot⟩ : ∃ s, s = secN D a t := ⟨_, rfl⟩
  have htt : s = 3 + a * areaN D + t / D.size := htot
  have hN2 : ∀ w', Upd (fun _ => False) w w' → Calls Tryd.prog 52 #[.pointer (some ⟨sb, 0, none⟩)] w' fun e w'' => e = .returned (.int .i64 (z : Nat)) ∧ w' = w'' := fun w' hu => by rw [hzz]; exact area_any (h.upd hu fun _ _ => id) hn
  have hw1 : IntKind.i64.wrap ((a : Int) * (z : Int)) = (q : Int) := by
    rw [IntKind.wrap_i64, ← Int.natCast_mul, hzz]
    omega
  have hw2 : IntKind.i64.wrap (3 + (q : Int)) = (q3 : Int) := by
    rw [IntKind.wrap_i64]
    omega
  have hw3 : IntKind.i64.wrap ((t : Int) / (D.size : Int)) = (r : Int) := by
    rw [IntKind.wrap_i64, ← Int.natCast_ediv, ← hr]
    omega
  have hw4 : IntKind.i64.wrap ((q3 : Int) + (r : Int)) = (s : Int) := by
    rw [IntKind.wrap_i64]
    omega
  have hsz : ¬ D.size = 0 := by omega
  have hD := hide h
  replace hw1 := hide hw1
  replace hw2 := hide hw2
  replace hw3 := hide hw3
  replace hw4 := hide hw4
  replace htot := hide htot
  replace hN2 := hide hN2
  clear h htt hm hdiv hq hq3 hr hzz hz h1 h2
  go_enter Tryd.func70, Tryd.ntmps70
  go_wp2_with fail
  refine wp_region_flow (fun _ => False) (factAt [(fun v _ => v = (.int .i64 (a : Nat))), (fun v _ => v = (.pointer (some ⟨sb, 0, none⟩))), (fun v _ => v = (.int .i64 (z : Nat))), (fun v _ => v = (.int .i64 (q : Nat))), (fun v _ => v = (.int .i64 (q3 : Nat))), (fun v _ => v = (.int .i64 (t : Nat))), (fun v _ => v = (.pointer (some ⟨sb, 0, none⟩))), (fun v _ => v = (.pointer (some ⟨sb, 0, none⟩))), (fun v _ => v = (.pointer (some ⟨sb, 0, none⟩))), (fun v _ => v = (.int .i64 (D.size : Nat))), (fun v _ => v = (.int .i64 (r : Nat))), (fun v _ => v = (.int .i64 (s : Nat))), (fun v _ => v = (.int .i64 (s : Nat)))]) [] (fun _ => True) (by kernel_rfl) (fkept_at ⟨FKept.eq _, FKept.eq _, FKept.eq _, FKept.eq _, FKept.eq _, FKept.eq _, FKept.eq _, FKept.eq _, FKept.eq _, FKept.eq _, FKept.eq _, FKept.eq _, FKept.eq _, trivial⟩) (fun _ _ h _ => h) trivial (by kernel_rfl) (by kernel_rfl) (by kernel_rfl) (by kernel_rfl) (Nat.le_of_ble_eq_true (by kernel_rfl)) ?_ ⟨?_, ?_, ?_, ?_, ?_, ?_, ?_, ?_, ?_, ?_, ?_, ?_, ?_, trivial⟩ ?_
  · first | exact trivial | assumption
  · intro T w Q hu hs hv hw hd
    have hx1 : T.getD 1 undef = (.int .i64 (a : Nat)) := hv 1 (by kernel_rfl)
    refine .inl ⟨wanted_none rfl, ?_⟩
    clear hd hv hu hs hw
    go_simp
    exact ⟨_, rfl, DstOk.some rfl, Below.refl _ _, rfl⟩
  · intro T w Q hu hs hv hw hd
    have hx0 : T.getD 0 undef = (.pointer (some ⟨sb, 0, none⟩)) := hv 0 (by kernel_rfl)
    refine .inl ⟨wanted_none rfl, ?_⟩
    clear hd hv hu hs hw
    go_simp
    exact ⟨_, rfl, DstOk.some rfl, Below.refl _ _, rfl⟩
  · intro T w Q hu hs hv hw hd
    have hx8 : T.getD 8 undef = (.pointer (some ⟨sb, 0, none⟩)) := Deps.at 1 hd (by kernel_rfl)
    refine .inl ⟨wanted_none rfl, ?_⟩
    have hN := hN2.out w hu
    clear hd hv hu hs hw
    go_simp
    refine hN.mono ?_
    rintro e w2 ⟨rfl, rfl⟩
    exact ⟨_, rfl, DstOk.some rfl, Below.refl _ _, rfl⟩
  · intro T w Q hu hs hv hw hd
    have hx7 : T.getD 7 undef = (.int .i64 (a : Nat)) := Deps.at 0 hd (by kernel_rfl)
    have hx9 : T.getD 9 undef = (.int .i64 (z : Nat)) := Deps.at 2 hd (by kernel_rfl)
    refine .inl ⟨wanted_none rfl, ?_⟩
    clear hd hv hu hs hw
    go_simp
    exact ⟨_, rfl, DstOk.some rfl, Below.refl _ _, by simp only [hw1.out]; exact rfl⟩
  · intro T w Q hu hs hv hw hd
    have hx10 : T.getD 10 undef = (.int .i64 (q : Nat)) := Deps.at 3 hd (by kernel_rfl)
    refine .inl ⟨wanted_none rfl, ?_⟩
    clear hd hv hu hs hw
    go_simp
    exact ⟨_, rfl, DstOk.some rfl, Below.refl _ _, by simp only [hw2.out]; exact rfl⟩
  · intro T w Q hu hs hv hw hd
    have hx2 : T.getD 2 undef = (.int .i64 (t : Nat)) := hv 2 (by kernel_rfl)
    refine .inl ⟨wanted_none rfl, ?_⟩
    clear hd hv hu hs hw
    go_simp
    exact ⟨_, rfl, DstOk.some rfl, Below.refl _ _, rfl⟩
  · intro T w Q hu hs hv hw hd
    have hx0 : T.getD 0 undef = (.pointer (some ⟨sb, 0, none⟩)) := hv 0 (by kernel_rfl)
    refine .inl ⟨wanted_none rfl, ?_⟩
    clear hd hv hu hs hw
    go_simp
    exact ⟨_, rfl, DstOk.some rfl, Below.refl _ _, rfl⟩
  · intro T w Q hu hs hv hw hd
    have hx13 : T.getD 13 undef = (.pointer (some ⟨sb, 0, none⟩)) := Deps.at 6 hd (by kernel_rfl)
    refine .inl ⟨wanted_none rfl, ?_⟩
    clear hd hv hu hs hw
    go_simp
    exact ⟨_, rfl, DstOk.some rfl, Below.refl _ _, rfl⟩
  · intro T w Q hu hs hv hw hd
    have hx14 : T.getD 14 undef = (.pointer (some ⟨sb, 0, none⟩)) := Deps.at 7 hd (by kernel_rfl)
    refine .inl ⟨wanted_none rfl, ?_⟩
    clear hd hv hu hs hw
    go_simp
    exact ⟨_, rfl, DstOk.some rfl, Below.refl _ _, rfl⟩
  · intro T w Q hu hs hv hw hd
    have hx15 : T.getD 15 undef = (.pointer (some ⟨sb, 0, none⟩)) := Deps.at 8 hd (by kernel_rfl)
    refine .inl ⟨wanted_none rfl, ?_⟩
    have hN := sizeV (hD.out.upd hu fun _ _ => id)
    clear hd hv hu hs hw
    go_simp
    refine hN.mono ?_
    rintro e w2 ⟨rfl, rfl⟩
    exact ⟨_, rfl, DstOk.some rfl, Below.refl _ _, rfl⟩
  · intro T w Q hu hs hv hw hd
    have hx12 : T.getD 12 undef = (.int .i64 (t : Nat)) := Deps.at 5 hd (by kernel_rfl)
    have hx16 : T.getD 16 undef = (.int .i64 (D.size : Nat)) := Deps.at 9 hd (by kernel_rfl)
    refine .inl ⟨wanted_none rfl, ?_⟩
    clear hd hv hu hs hw
    go_simp
    exact ⟨_, rfl, DstOk.some rfl, Below.refl _ _, by simp only [hw3.out]; exact rfl⟩
  · intro T w Q hu hs hv hw hd
    have hx11 : T.getD 11 undef = (.int .i64 (q3 : Nat)) := Deps.at 4 hd (by kernel_rfl)
    have hx17 : T.getD 17 undef = (.int .i64 (r : Nat)) := Deps.at 10 hd (by kernel_rfl)
    refine .inl ⟨wanted_none rfl, ?_⟩
    clear hd hv hu hs hw
    go_simp
    exact ⟨_, rfl, DstOk.some rfl, Below.refl _ _, by simp only [hw4.out]; exact rfl⟩
  · intro T w Q hu hs hv hw hd
    have hx18 : T.getD 18 undef = (.int .i64 (s : Nat)) := Deps.at 11 hd (by kernel_rfl)
    refine .inl ⟨wanted_none rfl, ?_⟩
    clear hd hv hu hs hw
    go_simp
    exact ⟨_, rfl, DstOk.some rfl, Below.refl _ _, rfl⟩
  · intro T w hu hs hv hf hcur
    go_wp2_with fail
    go_ret
    exact ⟨by rw [← htot.out]; have := hf 12 (by decide); exact congrArg _ this, hu.below (Nat.le_refl _) fun _ h => h.elim⟩
end Go.Proofs.YtimblkkojcbipaaDoor
