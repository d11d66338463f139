/- Walks of wal: a log's room, its count; an empty one is laid. -/
import Derived.Test.YtimblkkojcbipaaDoorReadSlot
namespace Go.Proofs.YtimblkkojcbipaaDoor
open Go Go.RowKit
/-- The log at block lb, on the disk at sb. -/
def LogV (w : World) (lb sb live : Nat) (x : Ext) : Prop := w.heap[lb]? = some (.cells #[.pointer (some ⟨sb, 0, none⟩), .int .i64 live, .int .i64 x.area, .int .i64 x.bytes, .int .i64 x.records] 75)
section
variable {w : World} {pb sb lb : Nat} {S : Nat → Prop} {D : DS} {live : Nat} {x : Ext}
theorem LogV.cell (h : LogV w lb sb live x) (o : Nat) : w.cell? ⟨lb, o, none⟩ = #[Value.pointer (some ⟨sb, 0, none⟩), .int .i64 live, .int .i64 x.area, .int .i64 x.bytes, .int .i64 x.records][o]? := cell_at h o
theorem count_any (h : LogV w lb sb live x) : Calls Tryd.prog 19 #[.pointer (some ⟨lb, 0, none⟩)] w fun e w' => e = .returned (.int .i64 x.records) ∧ w = w' := by
  have k4 : w.cell? ⟨lb, 4, none⟩ = some (.int .i64 x.records) := by rw [h.cell]; rfl
  clear h
  go_enter Tryd.func19, Tryd.ntmps19
  go_wp2_with fail
  go_ret
  exact ⟨rfl, rfl⟩
set_option maxRecDepth 100000 in
theorem room_any (h : LogV w lb sb live x) (hd : DiskV w sb S D) (hn : 16 ≤ D.n) (hx : x.bytes ≤ capN D) : Calls Tryd.prog 13 #[.pointer (some ⟨lb, 0, none⟩)] w fun e w' => e = .returned (.int .i64 (capN D - x.bytes : Nat)) ∧ Below w.heap.size w w' := by
  have k0 : w.cell? ⟨lb, 0, none⟩ = some (.pointer (some ⟨sb, 0, none⟩)) := by rw [h.cell]; rfl
  have k3 : w.cell? ⟨lb, 3, none⟩ = some (.int .i64 x.bytes) := by rw [h.cell]; rfl
  have hcm : capN D ≤ 2046 * 4096 := Nat.mul_le_mul (area_le hd.n1.2) hd.s1.2
  have hsub := hide (show IntKind.i64.wrap ((capN D : Int) - (x.bytes : Int)) = ((capN D - x.bytes : Nat) : Int) by rw [IntKind.wrap_i64]; omega)
  have hD := hide hd
  obtain ⟨rm, hrm⟩ : ∃ rm, rm = capN D - x.bytes := ⟨_, rfl⟩
  rw [← hrm] at hsub ⊢
  clear h hd hrm
  go_enter Tryd.func13, Tryd.ntmps13
  go_wp2_with fail
  refine wp_region_flow (fun _ => False) (factAt [(fun v _ => v = (.pointer (some ⟨lb, 0, none⟩))), (fun v _ => v = (.pointer (some ⟨lb, 0, none⟩))), (fun v _ => v = (.pointer (some ⟨lb, 0, none⟩))), (fun v _ => v = (.pointer (some ⟨sb, 0, none⟩))), (fun v _ => v = (.int .i64 (capN D : Nat))), (fun v _ => v = (.pointer (some ⟨lb, 0, none⟩))), (fun v _ => v = (.pointer (some ⟨lb, 0, none⟩))), (fun v _ => v = (.pointer (some ⟨lb, 2, none⟩))), (fun v _ => v = (.pointer (some ⟨lb, 3, none⟩))), (fun v _ => v = (.int .i64 (x.bytes : Nat))), (fun v _ => v = (.int .i64 (rm : Nat))), (fun v _ => v = (.int .i64 (rm : Nat)))]) [] (fun _ => True) (by kernel_rfl) (fkept_at ⟨FKept.eq _, FKept.eq _, FKept.eq _, FKept.eq _, FKept.eq _, FKept.eq _, FKept.eq _, FKept.eq _, FKept.eq _, FKept.eq _, FKept.eq _, FKept.eq _, trivial⟩) (fun _ _ h _ => h) trivial (by kernel_rfl) (by kernel_rfl) (by kernel_rfl) (by kernel_rfl) (Nat.le_of_ble_eq_true (by kernel_rfl)) ?_ ⟨?_, ?_, ?_, ?_, ?_, ?_, ?_, ?_, ?_, ?_, ?_, ?_, trivial⟩ ?_
  · first | exact trivial | assumption
  · intro T w Q hu hs hv hw hd
    have hx0 : T.getD 0 undef = (.pointer (some ⟨lb, 0, none⟩)) := hv 0 (by kernel_rfl)
    refine .inl ⟨wanted_none rfl, ?_⟩
    clear hd hv hu hs hw
    go_simp
    exact ⟨_, rfl, DstOk.some rfl, Below.refl _ _, rfl⟩
  · intro T w Q hu hs hv hw hd
    have hx3 : T.getD 3 undef = (.pointer (some ⟨lb, 0, none⟩)) := Deps.at 0 hd (by kernel_rfl)
    refine .inl ⟨wanted_none rfl, ?_⟩
    clear hd hv hu hs hw
    go_simp
    exact ⟨_, rfl, DstOk.some rfl, Below.refl _ _, rfl⟩
  · intro T w Q hu hs hv hw hd
    have hx4 : T.getD 4 undef = (.pointer (some ⟨lb, 0, none⟩)) := Deps.at 1 hd (by kernel_rfl)
    refine .inl ⟨wanted_none rfl, ?_⟩
    clear hd hv hu hs hw
    go_simp
    exact ⟨_, rfl, DstOk.some rfl, Below.refl _ _, rfl⟩
  · intro T w Q hu hs hv hw hd
    have hx5 : T.getD 5 undef = (.pointer (some ⟨lb, 0, none⟩)) := Deps.at 2 hd (by kernel_rfl)
    refine .inl ⟨wanted_none rfl, ?_⟩
    have hq0 := hu.cell k0 id
    clear hd hv hu hs hw
    go_simp
    exact ⟨_, rfl, DstOk.some rfl, Below.refl _ _, rfl⟩
  · intro T w Q hu hs hv hw hd
    have hx6 : T.getD 6 undef = (.pointer (some ⟨sb, 0, none⟩)) := Deps.at 3 hd (by kernel_rfl)
    refine .inl ⟨wanted_none rfl, ?_⟩
    have hN := capacity_any (hD.out.upd hu fun _ _ => id) hn
    clear hd hv hu hs hw
    go_simp
    refine hN.mono ?_
    rintro e w2 ⟨rfl, hb⟩
    exact ⟨_, rfl, DstOk.some rfl, hb, rfl⟩
  · intro T w Q hu hs hv hw hd
    have hx0 : T.getD 0 undef = (.pointer (some ⟨lb, 0, none⟩)) := hv 0 (by kernel_rfl)
    refine .inl ⟨wanted_none rfl, ?_⟩
    clear hd hv hu hs hw
    go_simp
    exact ⟨_, rfl, DstOk.some rfl, Below.refl _ _, rfl⟩
  · intro T w Q hu hs hv hw hd
    have hx8 : T.getD 8 undef = (.pointer (some ⟨lb, 0, none⟩)) := Deps.at 5 hd (by kernel_rfl)
    refine .inl ⟨wanted_none rfl, ?_⟩
    clear hd hv hu hs hw
    go_simp
    exact ⟨_, rfl, DstOk.some rfl, Below.refl _ _, rfl⟩
  · intro T w Q hu hs hv hw hd
    have hx9 : T.getD 9 undef = (.pointer (some ⟨lb, 0, none⟩)) := Deps.at 6 hd (by kernel_rfl)
    refine .inl ⟨wanted_none rfl, ?_⟩
    clear hd hv hu hs hw
    go_simp
    exact ⟨_, rfl, DstOk.some rfl, Below.refl _ _, rfl⟩
  · intro T w Q hu hs hv hw hd
    have hx10 : T.getD 10 undef = (.pointer (some ⟨lb, 2, none⟩)) := Deps.at 7 hd (by kernel_rfl)
    refine .inl ⟨wanted_none rfl, ?_⟩
    clear hd hv hu hs hw
    go_simp
    exact ⟨_, rfl, DstOk.some rfl, Below.refl _ _, rfl⟩
  · intro T w Q hu hs hv hw hd
    have hx11 : T.getD 11 undef = (.pointer (some ⟨lb, 3, none⟩)) := Deps.at 8 hd (by kernel_rfl)
    refine .inl ⟨wanted_none rfl, ?_⟩
    have hq0 := hu.cell k3 id
    clear hd hv hu hs hw
    go_simp
    exact ⟨_, rfl, DstOk.some rfl, Below.refl _ _, rfl⟩
  · intro T w Q hu hs hv hw hd
    have hx7 : T.getD 7 undef = (.int .i64 (capN D : Nat)) := Deps.at 4 hd (by kernel_rfl)
    have hx12 : T.getD 12 undef = (.int .i64 (x.bytes : Nat)) := Deps.at 9 hd (by kernel_rfl)
    refine .inl ⟨wanted_none rfl, ?_⟩
    clear hd hv hu hs hw
    go_simp
    exact ⟨_, rfl, DstOk.some rfl, Below.refl _ _, by simp only [hsub.out]; exact rfl⟩
  · intro T w Q hu hs hv hw hd
    have hx13 : T.getD 13 undef = (.int .i64 (rm : Nat)) := Deps.at 10 hd (by kernel_rfl)
    refine .inl ⟨wanted_none rfl, ?_⟩
    clear hd hv hu hs hw
    go_simp
    exact ⟨_, rfl, DstOk.some rfl, Below.refl _ _, rfl⟩
  · intro T w hu hs hv hf hcur
    go_wp2_with fail
    go_ret
    exact ⟨by have := hf 11 (by decide); exact congrArg _ this, hu.below (Nat.le_refl _) fun _ h => h.elim⟩
/-- What an empty log is laid by. -/
def DS.format (D : DS) : DS := (((((D.write 0 (pad D.size [])).flush).write 1 (pad D.size (slotL ⟨0, 0, 0⟩))).flush).write 0 (pad D.size (markL 0)))
set_option maxRecDepth 100000 in
theorem format_any (h : PgV w pb sb S D) (hT : Tab w) (hn : 16 ≤ D.n) (hS0 : ¬ S 0) (hpb : 0 < pb) : Calls Tryd.prog 31 #[.pointer (some ⟨pb, 0, none⟩)] w fun e w' => ∃ lb S', e = .returned (.pointer (some ⟨lb, 0, none⟩)) ∧ w.heap.size ≤ lb ∧ ¬ S' lb ∧ lb ≠ pb ∧ LogV w' lb sb 0 ⟨0, 0, 0⟩ ∧ PgV w' pb sb S' D.format ∧ Mv w (OO pb S) w' (OO pb S') := by
  have hlt := h.lt
  have h1 := pwrite_any h 0 (by omega) (T := fun _ => False) (u := .slice none 0 0) (l := []) ⟨none, 0, rfl, Nat.le_refl _, by unfold maxLen; simp, .inl rfl⟩ (by simp)
  have hsz : D.size = D.size := rfl
  replace h := hide h
  replace hT := hide hT
  go_enter Tryd.func31, Tryd.ntmps31
  go_wp2_with fail
  refine h1.mono ?_
  rintro e w1 ⟨rfl, S1, p1, m1⟩
  have h2 := pflush_any p1
  replace p1 := hide p1
  replace m1 := hide m1
  go_wp2_with fail
  refine h2.mono ?_
  rintro e w2 ⟨rfl, S2, p2, m2⟩
  have m12 := m1.out.trans m2
  have z2 := m12.1.size
  have h3 := writeSlot_any p2 (hT.out.upd m12.1 (fun h => h.elim (by omega) hS0)) (by omega) 0 (by omega) (by simp only [DS.flush_n, DS.write_n]; omega) ⟨0, 0, 0⟩ ⟨by simp, by simp, by simp⟩
  unfold extV at h3
  simp only [DS.flush_size, DS.write_size] at h3
  replace p2 := hide p2
  replace m12 := hide m12
  clear m1 m2 p1 h1 h2
  go_wp2_with fail
  refine h3.mono ?_
  rintro e w3 ⟨rfl, S3, p3, m3⟩
  have m13 := m12.out.trans m3
  have h4 := pflush_any p3
  replace p3 := hide p3
  replace m13 := hide m13
  clear m3 m12 p2 h3
  go_wp2_with fail
  refine h4.mono ?_
  rintro e w4 ⟨rfl, S4, p4, m4⟩
  have m14 := m13.out.trans m4
  have h5 := writeMark_any p4 0 (by omega)
  simp only [DS.flush_size, DS.write_size] at h5
  replace p4 := hide p4
  replace m14 := hide m14
  clear m4 m13 p3 h4
  go_wp2_with fail
  refine h5.mono ?_
  rintro e w5 ⟨rfl, S5, p5, m5⟩
  have m15 := m14.out.trans m5
  have k0 := p5.c0
  have z5 := m15.1.size
  have hold := p5.disk.old
  have hlt5 := p5.lt
  replace p5 := hide p5
  replace m15 := hide m15
  clear m5 m14 p4 h5
  go_wp2_with fail
  go_ret
  refine ⟨_, S5, rfl, z5, fun hk => by have := hold _ hk; omega, by omega, heap_new _ _, ?_, ?_⟩
  · exact p5.out.upd (.alloc (fun _ => False) _ _) id fun _ _ => id
  · exact ⟨m15.out.1.then (.alloc _ _ _), m15.out.2⟩
end
end Go.Proofs.YtimblkkojcbipaaDoor
