/- Part 19 of the walks (merged): CmE, SmL, Tab8, Tv. -/
import Derived.Test.YtiiihpokpfhclaaDoorMs5
import Derived.Test.YtiiihpokpfhclaaDoorMs4
import Derived.Test.YtiiihpokpfhclaaDoorMs9
import Derived.Test.YtiiihpokpfhclaaDoorMs7
import Derived.Test.YtiiihpokpfhclaaDoorMs12
import Derived.Test.YtiiihpokpfhclaaDoorMs18
import Derived.Test.YtiiihpokpfhclaaDoorCards
import Derived.Stop.LaidErr
import Derived.MakeChecks
/- augurhelp.Expr: the same tree twice. -/
namespace Go.Proofs.YtiiihpokpfhclaaDoor
open Go Go.RowKit

theorem ExV.exA {w : World} {S : Nat → Prop} : ∀ {e : Ex} {v : Value}, ExV w S e v → ExA w S e v
  | .num n, v, ⟨g, h1, h2, h3⟩ => ⟨g, 0, h1, h2, cell_at h3 0, cell_at h3 1, cell_at h3 2, cell_at h3 3, cell_at h3 4⟩
  | .var s, v, ⟨g, h1, h2, h3⟩ => ⟨g, 0, h1, h2, cell_at h3 0, cell_at h3 1, cell_at h3 2, cell_at h3 3, cell_at h3 4⟩
  | .neg a, v, ⟨va, ⟨g, h1, h2, h3⟩, h4⟩ => ⟨g, 0, va, h1, ⟨h2, cell_at h3 0, cell_at h3 1, cell_at h3 2, cell_at h3 3, cell_at h3 4⟩, h4.exA⟩
  | .bin k a b, v, ⟨va, vb, ⟨g, h1, h2, h3⟩, h4, h5⟩ => ⟨g, 0, va, vb, h1, ⟨h2, cell_at h3 0, cell_at h3 1, cell_at h3 2, cell_at h3 3, cell_at h3 4⟩, h4.exA, h5.exA⟩
/-- Two values are told to be the same, in this world and in those that it becomes. -/
def SameQ (f : FuncId) (a b : Value) (w : World) : Prop := ∀ w', Upd (fun _ => False) w w' → Calls Tryd.prog f #[a, b] w' fun r w2 => r = .returned (.bool true) ∧ Below w'.heap.size w' w2
theorem SameQ.upd {f : FuncId} {a b : Value} {w w' : World} (h : SameQ f a b w) (hu : Upd (fun _ => False) w w') : SameQ f a b w' := fun w2 h2 => h w2 (hu.then h2)
set_option maxRecDepth 100000 in
theorem sameE_nil (w : World) : SameQ 15 (.pointer none) (.pointer none) w := by
  intro w' _
  go_enter Tryd.func15, Tryd.ntmps15
  go_wp2_with fail
  go_ret
  exact ⟨rfl, Below.refl _ _⟩
set_option maxRecDepth 100000 in
set_option maxHeartbeats 3200000 in
theorem sameE_node (b1 o1 b2 o2 : Nat) (k n : Int) (s : ByteArray) (pa1 pb1 pa2 pb2 : Value) (w : World)
    (c10 : w.cell? ⟨b1, o1, none⟩ = some (.int .i64 k)) (c11 : w.cell? ⟨b1, o1 + 1, none⟩ = some (.int .i64 n)) (c12 : w.cell? ⟨b1, o1 + 2, none⟩ = some (.string s)) (c13 : w.cell? ⟨b1, o1 + 3, none⟩ = some pa1) (c14 : w.cell? ⟨b1, o1 + 4, none⟩ = some pb1)
    (c20 : w.cell? ⟨b2, o2, none⟩ = some (.int .i64 k)) (c21 : w.cell? ⟨b2, o2 + 1, none⟩ = some (.int .i64 n)) (c22 : w.cell? ⟨b2, o2 + 2, none⟩ = some (.string s)) (c23 : w.cell? ⟨b2, o2 + 3, none⟩ = some pa2) (c24 : w.cell? ⟨b2, o2 + 4, none⟩ = some pb2)
    (hA : SameQ 15 pa1 pa2 w) (hC : SameQ 15 pb1 pb2 w) :
    Calls Tryd.prog 15 #[.pointer (some ⟨b1, o1, none⟩), .pointer (some ⟨b2, o2, none⟩)] w fun r w2 => r = .returned (.bool true) ∧ Below w.heap.size w w2 := by
  replace c10 := hide c10
  replace c11 := hide c11
  replace c12 := hide c12
  replace c13 := hide c13
  replace c14 := hide c14
  replace c20 := hide c20
  replace c21 := hide c21
  replace c22 := hide c22
  replace c23 := hide c23
  replace c24 := hide c24
  replace hA := hide hA
  replace hC := hide hC
  go_enter Tryd.func15, Tryd.ntmps15
  go_wp2_with fail
  refine wp_region_flow (fun _ => False) (factAt [(fun v _ => v = (.pointer (some ⟨b1, o1, none⟩))), (fun v _ => v = (.pointer (some ⟨b1, o1, none⟩))), (fun v _ => v = (.pointer (some ⟨b1, o1, none⟩))), (fun v _ => v = (.int .i64 k)), (fun v _ => v = (.pointer (some ⟨b2, o2, none⟩))), (fun v _ => v = (.pointer (some ⟨b2, o2, none⟩))), (fun v _ => v = (.pointer (some ⟨b2, o2, none⟩))), (fun v _ => v = (.int .i64 k)), (fun v _ => v = (.bool true)), (fun v _ => v = (.bool true)), (fun v _ => v = (.pointer (some ⟨b1, o1, none⟩))), (fun v _ => v = (.pointer (some ⟨b1, o1, none⟩))), (fun v _ => v = (.pointer (some ⟨b1, o1 + 1, none⟩))), (fun v _ => v = (.int .i64 n)), (fun v _ => v = (.pointer (some ⟨b2, o2, none⟩))), (fun v _ => v = (.pointer (some ⟨b2, o2, none⟩))), (fun v _ => v = (.pointer (some ⟨b2, o2 + 1, none⟩))), (fun v _ => v = (.int .i64 n)), (fun v _ => v = (.bool true)), (fun v _ => v = (.bool true)), (fun v _ => v = (.bool true)), (fun v _ => v = (.pointer (some ⟨b1, o1, none⟩))), (fun v _ => v = (.pointer (some ⟨b1, o1, none⟩))), (fun v _ => v = (.pointer (some ⟨b1, o1 + 2, none⟩))), (fun v _ => v = (.string s)), (fun v _ => v = (.pointer (some ⟨b2, o2, none⟩))), (fun v _ => v = (.pointer (some ⟨b2, o2, none⟩))), (fun v _ => v = (.pointer (some ⟨b2, o2 + 2, none⟩))), (fun v _ => v = (.string s)), (fun v _ => v = (.bool true)), (fun v _ => v = (.bool true)), (fun v _ => v = (.bool true)), (fun v _ => v = (.pointer (some ⟨b1, o1, none⟩))), (fun v _ => v = (.pointer (some ⟨b1, o1, none⟩))), (fun v _ => v = (.pointer (some ⟨b1, o1 + 3, none⟩))), (fun v _ => v = pa1), (fun v _ => v = (.pointer (some ⟨b2, o2, none⟩))), (fun v _ => v = (.pointer (some ⟨b2, o2, none⟩))), (fun v _ => v = (.pointer (some ⟨b2, o2 + 3, none⟩))), (fun v _ => v = pa2), (fun v _ => v = (.bool true)), (fun v _ => v = (.bool true)), (fun v _ => v = (.bool true)), (fun v _ => v = (.pointer (some ⟨b1, o1, none⟩))), (fun v _ => v = (.pointer (some ⟨b1, o1, none⟩))), (fun v _ => v = (.pointer (some ⟨b1, o1 + 4, none⟩))), (fun v _ => v = pb1), (fun v _ => v = (.pointer (some ⟨b2, o2, none⟩))), (fun v _ => v = (.pointer (some ⟨b2, o2, none⟩))), (fun v _ => v = (.pointer (some ⟨b2, o2 + 4, none⟩))), (fun v _ => v = pb2), (fun v _ => v = (.bool true)), (fun v _ => v = (.bool true)), (fun v _ => v = (.bool true))]) [] (fun _ => True) (by kernel_rfl) (fkept_at ⟨FKept.eq _, FKept.eq _, FKept.eq _, FKept.eq _, FKept.eq _, FKept.eq _, FKept.eq _, FKept.eq _, FKept.eq _, FKept.eq _, FKept.eq _, FKept.eq _, FKept.eq _, FKept.eq _, FKept.eq _, FKept.eq _, FKept.eq _, FKept.eq _, FKept.eq _, FKept.eq _, FKept.eq _, FKept.eq _, FKept.eq _, FKept.eq _, FKept.eq _, FKept.eq _, FKept.eq _, FKept.eq _, FKept.eq _, FKept.eq _, FKept.eq _, FKept.eq _, FKept.eq _, FKept.eq _, FKept.eq _, FKept.eq _, FKept.eq _, FKept.eq _, FKept.eq _, FKept.eq _, FKept.eq _, FKept.eq _, FKept.eq _, FKept.eq _, FKept.eq _, FKept.eq _, FKept.eq _, FKept.eq _, FKept.eq _, FKept.eq _, FKept.eq _, FKept.eq _, FKept.eq _, FKept.eq _, trivial⟩) (fun _ _ h _ => h) trivial (by kernel_rfl) (by kernel_rfl) (by kernel_rfl) (by kernel_rfl) (Nat.le_of_ble_eq_true (by kernel_rfl)) ?_ ⟨?_, ?_, ?_, ?_, ?_, ?_, ?_, ?_, ?_, ?_, ?_, ?_, ?_, ?_, ?_, ?_, ?_, ?_, ?_, ?_, ?_, ?_, ?_, ?_, ?_, ?_, ?_, ?_, ?_, ?_, ?_, ?_, ?_, ?_, ?_, ?_, ?_, ?_, ?_, ?_, ?_, ?_, ?_, ?_, ?_, ?_, ?_, ?_, ?_, ?_, ?_, ?_, ?_, ?_, trivial⟩ ?_
  · first | exact trivial | assumption
  · intro T w Q hu hs hv hw hd
    have hx0 : T.getD 0 undef = (.pointer (some ⟨b1, o1, none⟩)) := hv 0 (by kernel_rfl)
    refine .inl ⟨wanted_none rfl, ?_⟩
    clear hd hv hu hs hw
    go_simp
    exact ⟨_, rfl, DstOk.some rfl, Below.refl _ _, rfl⟩
  · intro T w Q hu hs hv hw hd
    have hx17 : T.getD 17 undef = (.pointer (some ⟨b1, o1, none⟩)) := Deps.at 0 hd (by kernel_rfl)
    refine .inl ⟨wanted_none rfl, ?_⟩
    clear hd hv hu hs hw
    go_simp
    exact ⟨_, rfl, DstOk.some rfl, Below.refl _ _, rfl⟩
  · intro T w Q hu hs hv hw hd
    have hx18 : T.getD 18 undef = (.pointer (some ⟨b1, o1, none⟩)) := Deps.at 1 hd (by kernel_rfl)
    refine .inl ⟨wanted_none rfl, ?_⟩
    clear hd hv hu hs hw
    go_simp
    exact ⟨_, rfl, DstOk.some rfl, Below.refl _ _, rfl⟩
  · intro T w Q hu hs hv hw hd
    have hx19 : T.getD 19 undef = (.pointer (some ⟨b1, o1, none⟩)) := Deps.at 2 hd (by kernel_rfl)
    refine .inl ⟨wanted_none rfl, ?_⟩
    have hq := hu.cell c10.out id
    clear hd hv hu hs hw
    go_simp
    exact ⟨_, rfl, DstOk.some rfl, Below.refl _ _, rfl⟩
  · intro T w Q hu hs hv hw hd
    have hx1 : T.getD 1 undef = (.pointer (some ⟨b2, o2, none⟩)) := hv 1 (by kernel_rfl)
    refine .inl ⟨wanted_none rfl, ?_⟩
    clear hd hv hu hs hw
    go_simp
    exact ⟨_, rfl, DstOk.some rfl, Below.refl _ _, rfl⟩
  · intro T w Q hu hs hv hw hd
    have hx21 : T.getD 21 undef = (.pointer (some ⟨b2, o2, none⟩)) := Deps.at 4 hd (by kernel_rfl)
    refine .inl ⟨wanted_none rfl, ?_⟩
    clear hd hv hu hs hw
    go_simp
    exact ⟨_, rfl, DstOk.some rfl, Below.refl _ _, rfl⟩
  · intro T w Q hu hs hv hw hd
    have hx22 : T.getD 22 undef = (.pointer (some ⟨b2, o2, none⟩)) := Deps.at 5 hd (by kernel_rfl)
    refine .inl ⟨wanted_none rfl, ?_⟩
    clear hd hv hu hs hw
    go_simp
    exact ⟨_, rfl, DstOk.some rfl, Below.refl _ _, rfl⟩
  · intro T w Q hu hs hv hw hd
    have hx23 : T.getD 23 undef = (.pointer (some ⟨b2, o2, none⟩)) := Deps.at 6 hd (by kernel_rfl)
    refine .inl ⟨wanted_none rfl, ?_⟩
    have hq := hu.cell c20.out id
    clear hd hv hu hs hw
    go_simp
    exact ⟨_, rfl, DstOk.some rfl, Below.refl _ _, rfl⟩
  · intro T w Q hu hs hv hw hd
    have hx20 : T.getD 20 undef = (.int .i64 k) := Deps.at 3 hd (by kernel_rfl)
    have hx24 : T.getD 24 undef = (.int .i64 k) := Deps.at 7 hd (by kernel_rfl)
    refine .inl ⟨wanted_none rfl, ?_⟩
    clear hd hv hu hs hw
    go_simp
    exact ⟨_, rfl, DstOk.some rfl, Below.refl _ _, by first | rfl | simp⟩
  · intro T w Q hu hs hv hw hd
    have hx25 : T.getD 25 undef = (.bool true) := Deps.at 8 hd (by kernel_rfl)
    refine .inl ⟨wanted_none rfl, ?_⟩
    clear hd hv hu hs hw
    go_simp
    exact ⟨_, rfl, DstOk.some rfl, Below.refl _ _, rfl⟩
  · intro T w Q hu hs hv hw hd
    have hx0 : T.getD 0 undef = (.pointer (some ⟨b1, o1, none⟩)) := hv 0 (by kernel_rfl)
    refine .inl ⟨wanted_some rfl (Deps.at 9 hd (by kernel_rfl) : slotOf _ T 9 = .bool true), ?_⟩
    clear hd hv hu hs hw
    go_simp
    exact ⟨_, rfl, DstOk.some rfl, Below.refl _ _, rfl⟩
  · intro T w Q hu hs hv hw hd
    have hx27 : T.getD 27 undef = (.pointer (some ⟨b1, o1, none⟩)) := Deps.at 10 hd (by kernel_rfl)
    refine .inl ⟨wanted_some rfl (Deps.at 9 hd (by kernel_rfl) : slotOf _ T 9 = .bool true), ?_⟩
    clear hd hv hu hs hw
    go_simp
    exact ⟨_, rfl, DstOk.some rfl, Below.refl _ _, rfl⟩
  · intro T w Q hu hs hv hw hd
    have hx28 : T.getD 28 undef = (.pointer (some ⟨b1, o1, none⟩)) := Deps.at 11 hd (by kernel_rfl)
    refine .inl ⟨wanted_some rfl (Deps.at 9 hd (by kernel_rfl) : slotOf _ T 9 = .bool true), ?_⟩
    clear hd hv hu hs hw
    go_simp
    exact ⟨_, rfl, DstOk.some rfl, Below.refl _ _, rfl⟩
  · intro T w Q hu hs hv hw hd
    have hx29 : T.getD 29 undef = (.pointer (some ⟨b1, o1 + 1, none⟩)) := Deps.at 12 hd (by kernel_rfl)
    refine .inl ⟨wanted_some rfl (Deps.at 9 hd (by kernel_rfl) : slotOf _ T 9 = .bool true), ?_⟩
    have hq := hu.cell c11.out id
    clear hd hv hu hs hw
    go_simp
    exact ⟨_, rfl, DstOk.some rfl, Below.refl _ _, rfl⟩
  · intro T w Q hu hs hv hw hd
    have hx1 : T.getD 1 undef = (.pointer (some ⟨b2, o2, none⟩)) := hv 1 (by kernel_rfl)
    refine .inl ⟨wanted_some rfl (Deps.at 9 hd (by kernel_rfl) : slotOf _ T 9 = .bool true), ?_⟩
    clear hd hv hu hs hw
    go_simp
    exact ⟨_, rfl, DstOk.some rfl, Below.refl _ _, rfl⟩
  · intro T w Q hu hs hv hw hd
    have hx31 : T.getD 31 undef = (.pointer (some ⟨b2, o2, none⟩)) := Deps.at 14 hd (by kernel_rfl)
    refine .inl ⟨wanted_some rfl (Deps.at 9 hd (by kernel_rfl) : slotOf _ T 9 = .bool true), ?_⟩
    clear hd hv hu hs hw
    go_simp
    exact ⟨_, rfl, DstOk.some rfl, Below.refl _ _, rfl⟩
  · intro T w Q hu hs hv hw hd
    have hx32 : T.getD 32 undef = (.pointer (some ⟨b2, o2, none⟩)) := Deps.at 15 hd (by kernel_rfl)
    refine .inl ⟨wanted_some rfl (Deps.at 9 hd (by kernel_rfl) : slotOf _ T 9 = .bool true), ?_⟩
    clear hd hv hu hs hw
    go_simp
    exact ⟨_, rfl, DstOk.some rfl, Below.refl _ _, rfl⟩
  · intro T w Q hu hs hv hw hd
    have hx33 : T.getD 33 undef = (.pointer (some ⟨b2, o2 + 1, none⟩)) := Deps.at 16 hd (by kernel_rfl)
    refine .inl ⟨wanted_some rfl (Deps.at 9 hd (by kernel_rfl) : slotOf _ T 9 = .bool true), ?_⟩
    have hq := hu.cell c21.out id
    clear hd hv hu hs hw
    go_simp
    exact ⟨_, rfl, DstOk.some rfl, Below.refl _ _, rfl⟩
  · intro T w Q hu hs hv hw hd
    have hx30 : T.getD 30 undef = (.int .i64 n) := Deps.at 13 hd (by kernel_rfl)
    have hx34 : T.getD 34 undef = (.int .i64 n) := Deps.at 17 hd (by kernel_rfl)
    refine .inl ⟨wanted_some rfl (Deps.at 9 hd (by kernel_rfl) : slotOf _ T 9 = .bool true), ?_⟩
    clear hd hv hu hs hw
    go_simp
    exact ⟨_, rfl, DstOk.some rfl, Below.refl _ _, by first | rfl | simp⟩
  · intro T w Q hu hs hv hw hd
    have hx26 : T.getD 26 undef = (.bool true) := Deps.at 9 hd (by kernel_rfl)
    have hx35 : T.getD 35 undef = (.bool true) := Deps.at 18 hd (by kernel_rfl)
    refine .inl ⟨wanted_none rfl, ?_⟩
    clear hd hv hu hs hw
    go_simp
    exact ⟨_, rfl, DstOk.some rfl, Below.refl _ _, rfl⟩
  · intro T w Q hu hs hv hw hd
    have hx36 : T.getD 36 undef = (.bool true) := Deps.at 19 hd (by kernel_rfl)
    refine .inl ⟨wanted_none rfl, ?_⟩
    clear hd hv hu hs hw
    go_simp
    exact ⟨_, rfl, DstOk.some rfl, Below.refl _ _, rfl⟩
  · intro T w Q hu hs hv hw hd
    have hx0 : T.getD 0 undef = (.pointer (some ⟨b1, o1, none⟩)) := hv 0 (by kernel_rfl)
    refine .inl ⟨wanted_some rfl (Deps.at 20 hd (by kernel_rfl) : slotOf _ T 20 = .bool true), ?_⟩
    clear hd hv hu hs hw
    go_simp
    exact ⟨_, rfl, DstOk.some rfl, Below.refl _ _, rfl⟩
  · intro T w Q hu hs hv hw hd
    have hx38 : T.getD 38 undef = (.pointer (some ⟨b1, o1, none⟩)) := Deps.at 21 hd (by kernel_rfl)
    refine .inl ⟨wanted_some rfl (Deps.at 20 hd (by kernel_rfl) : slotOf _ T 20 = .bool true), ?_⟩
    clear hd hv hu hs hw
    go_simp
    exact ⟨_, rfl, DstOk.some rfl, Below.refl _ _, rfl⟩
  · intro T w Q hu hs hv hw hd
    have hx39 : T.getD 39 undef = (.pointer (some ⟨b1, o1, none⟩)) := Deps.at 22 hd (by kernel_rfl)
    refine .inl ⟨wanted_some rfl (Deps.at 20 hd (by kernel_rfl) : slotOf _ T 20 = .bool true), ?_⟩
    clear hd hv hu hs hw
    go_simp
    exact ⟨_, rfl, DstOk.some rfl, Below.refl _ _, rfl⟩
  · intro T w Q hu hs hv hw hd
    have hx40 : T.getD 40 undef = (.pointer (some ⟨b1, o1 + 2, none⟩)) := Deps.at 23 hd (by kernel_rfl)
    refine .inl ⟨wanted_some rfl (Deps.at 20 hd (by kernel_rfl) : slotOf _ T 20 = .bool true), ?_⟩
    have hq := hu.cell c12.out id
    clear hd hv hu hs hw
    go_simp
    exact ⟨_, rfl, DstOk.some rfl, Below.refl _ _, rfl⟩
  · intro T w Q hu hs hv hw hd
    have hx1 : T.getD 1 undef = (.pointer (some ⟨b2, o2, none⟩)) := hv 1 (by kernel_rfl)
    refine .inl ⟨wanted_some rfl (Deps.at 20 hd (by kernel_rfl) : slotOf _ T 20 = .bool true), ?_⟩
    clear hd hv hu hs hw
    go_simp
    exact ⟨_, rfl, DstOk.some rfl, Below.refl _ _, rfl⟩
  · intro T w Q hu hs hv hw hd
    have hx42 : T.getD 42 undef = (.pointer (some ⟨b2, o2, none⟩)) := Deps.at 25 hd (by kernel_rfl)
    refine .inl ⟨wanted_some rfl (Deps.at 20 hd (by kernel_rfl) : slotOf _ T 20 = .bool true), ?_⟩
    clear hd hv hu hs hw
    go_simp
    exact ⟨_, rfl, DstOk.some rfl, Below.refl _ _, rfl⟩
  · intro T w Q hu hs hv hw hd
    have hx43 : T.getD 43 undef = (.pointer (some ⟨b2, o2, none⟩)) := Deps.at 26 hd (by kernel_rfl)
    refine .inl ⟨wanted_some rfl (Deps.at 20 hd (by kernel_rfl) : slotOf _ T 20 = .bool true), ?_⟩
    clear hd hv hu hs hw
    go_simp
    exact ⟨_, rfl, DstOk.some rfl, Below.refl _ _, rfl⟩
  · intro T w Q hu hs hv hw hd
    have hx44 : T.getD 44 undef = (.pointer (some ⟨b2, o2 + 2, none⟩)) := Deps.at 27 hd (by kernel_rfl)
    refine .inl ⟨wanted_some rfl (Deps.at 20 hd (by kernel_rfl) : slotOf _ T 20 = .bool true), ?_⟩
    have hq := hu.cell c22.out id
    clear hd hv hu hs hw
    go_simp
    exact ⟨_, rfl, DstOk.some rfl, Below.refl _ _, rfl⟩
  · intro T w Q hu hs hv hw hd
    have hx41 : T.getD 41 undef = (.string s) := Deps.at 24 hd (by kernel_rfl)
    have hx45 : T.getD 45 undef = (.string s) := Deps.at 28 hd (by kernel_rfl)
    refine .inl ⟨wanted_some rfl (Deps.at 20 hd (by kernel_rfl) : slotOf _ T 20 = .bool true), ?_⟩
    clear hd hv hu hs hw
    go_simp
    exact ⟨_, rfl, DstOk.some rfl, Below.refl _ _, by first | rfl | simp⟩
  · intro T w Q hu hs hv hw hd
    have hx37 : T.getD 37 undef = (.bool true) := Deps.at 20 hd (by kernel_rfl)
    have hx46 : T.getD 46 undef = (.bool true) := Deps.at 29 hd (by kernel_rfl)
    refine .inl ⟨wanted_none rfl, ?_⟩
    clear hd hv hu hs hw
    go_simp
    exact ⟨_, rfl, DstOk.some rfl, Below.refl _ _, rfl⟩
  · intro T w Q hu hs hv hw hd
    have hx47 : T.getD 47 undef = (.bool true) := Deps.at 30 hd (by kernel_rfl)
    refine .inl ⟨wanted_none rfl, ?_⟩
    clear hd hv hu hs hw
    go_simp
    exact ⟨_, rfl, DstOk.some rfl, Below.refl _ _, rfl⟩
  · intro T w Q hu hs hv hw hd
    have hx0 : T.getD 0 undef = (.pointer (some ⟨b1, o1, none⟩)) := hv 0 (by kernel_rfl)
    refine .inl ⟨wanted_some rfl (Deps.at 31 hd (by kernel_rfl) : slotOf _ T 31 = .bool true), ?_⟩
    clear hd hv hu hs hw
    go_simp
    exact ⟨_, rfl, DstOk.some rfl, Below.refl _ _, rfl⟩
  · intro T w Q hu hs hv hw hd
    have hx49 : T.getD 49 undef = (.pointer (some ⟨b1, o1, none⟩)) := Deps.at 32 hd (by kernel_rfl)
    refine .inl ⟨wanted_some rfl (Deps.at 31 hd (by kernel_rfl) : slotOf _ T 31 = .bool true), ?_⟩
    clear hd hv hu hs hw
    go_simp
    exact ⟨_, rfl, DstOk.some rfl, Below.refl _ _, rfl⟩
  · intro T w Q hu hs hv hw hd
    have hx50 : T.getD 50 undef = (.pointer (some ⟨b1, o1, none⟩)) := Deps.at 33 hd (by kernel_rfl)
    refine .inl ⟨wanted_some rfl (Deps.at 31 hd (by kernel_rfl) : slotOf _ T 31 = .bool true), ?_⟩
    clear hd hv hu hs hw
    go_simp
    exact ⟨_, rfl, DstOk.some rfl, Below.refl _ _, rfl⟩
  · intro T w Q hu hs hv hw hd
    have hx51 : T.getD 51 undef = (.pointer (some ⟨b1, o1 + 3, none⟩)) := Deps.at 34 hd (by kernel_rfl)
    refine .inl ⟨wanted_some rfl (Deps.at 31 hd (by kernel_rfl) : slotOf _ T 31 = .bool true), ?_⟩
    have hq := hu.cell c13.out id
    clear hd hv hu hs hw
    go_simp
    exact ⟨_, rfl, DstOk.some rfl, Below.refl _ _, rfl⟩
  · intro T w Q hu hs hv hw hd
    have hx1 : T.getD 1 undef = (.pointer (some ⟨b2, o2, none⟩)) := hv 1 (by kernel_rfl)
    refine .inl ⟨wanted_some rfl (Deps.at 31 hd (by kernel_rfl) : slotOf _ T 31 = .bool true), ?_⟩
    clear hd hv hu hs hw
    go_simp
    exact ⟨_, rfl, DstOk.some rfl, Below.refl _ _, rfl⟩
  · intro T w Q hu hs hv hw hd
    have hx53 : T.getD 53 undef = (.pointer (some ⟨b2, o2, none⟩)) := Deps.at 36 hd (by kernel_rfl)
    refine .inl ⟨wanted_some rfl (Deps.at 31 hd (by kernel_rfl) : slotOf _ T 31 = .bool true), ?_⟩
    clear hd hv hu hs hw
    go_simp
    exact ⟨_, rfl, DstOk.some rfl, Below.refl _ _, rfl⟩
  · intro T w Q hu hs hv hw hd
    have hx54 : T.getD 54 undef = (.pointer (some ⟨b2, o2, none⟩)) := Deps.at 37 hd (by kernel_rfl)
    refine .inl ⟨wanted_some rfl (Deps.at 31 hd (by kernel_rfl) : slotOf _ T 31 = .bool true), ?_⟩
    clear hd hv hu hs hw
    go_simp
    exact ⟨_, rfl, DstOk.some rfl, Below.refl _ _, rfl⟩
  · intro T w Q hu hs hv hw hd
    have hx55 : T.getD 55 undef = (.pointer (some ⟨b2, o2 + 3, none⟩)) := Deps.at 38 hd (by kernel_rfl)
    refine .inl ⟨wanted_some rfl (Deps.at 31 hd (by kernel_rfl) : slotOf _ T 31 = .bool true), ?_⟩
    have hq := hu.cell c23.out id
    clear hd hv hu hs hw
    go_simp
    exact ⟨_, rfl, DstOk.some rfl, Below.refl _ _, rfl⟩
  · intro T w Q hu hs hv hw hd
    have hx52 : T.getD 52 undef = pa1 := Deps.at 35 hd (by kernel_rfl)
    have hx56 : T.getD 56 undef = pa2 := Deps.at 39 hd (by kernel_rfl)
    refine .inl ⟨wanted_some rfl (Deps.at 31 hd (by kernel_rfl) : slotOf _ T 31 = .bool true), ?_⟩
    have hN := hA.out w hu
    clear hd hv hu hs hw
    go_simp
    refine hN.mono ?_
    rintro e w5 ⟨rfl, hb⟩
    exact ⟨_, rfl, DstOk.some rfl, hb, rfl⟩
  · intro T w Q hu hs hv hw hd
    have hx48 : T.getD 48 undef = (.bool true) := Deps.at 31 hd (by kernel_rfl)
    have hx57 : T.getD 57 undef = (.bool true) := Deps.at 40 hd (by kernel_rfl)
    refine .inl ⟨wanted_none rfl, ?_⟩
    clear hd hv hu hs hw
    go_simp
    exact ⟨_, rfl, DstOk.some rfl, Below.refl _ _, rfl⟩
  · intro T w Q hu hs hv hw hd
    have hx58 : T.getD 58 undef = (.bool true) := Deps.at 41 hd (by kernel_rfl)
    refine .inl ⟨wanted_none rfl, ?_⟩
    clear hd hv hu hs hw
    go_simp
    exact ⟨_, rfl, DstOk.some rfl, Below.refl _ _, rfl⟩
  · intro T w Q hu hs hv hw hd
    have hx0 : T.getD 0 undef = (.pointer (some ⟨b1, o1, none⟩)) := hv 0 (by kernel_rfl)
    refine .inl ⟨wanted_some rfl (Deps.at 42 hd (by kernel_rfl) : slotOf _ T 42 = .bool true), ?_⟩
    clear hd hv hu hs hw
    go_simp
    exact ⟨_, rfl, DstOk.some rfl, Below.refl _ _, rfl⟩
  · intro T w Q hu hs hv hw hd
    have hx60 : T.getD 60 undef = (.pointer (some ⟨b1, o1, none⟩)) := Deps.at 43 hd (by kernel_rfl)
    refine .inl ⟨wanted_some rfl (Deps.at 42 hd (by kernel_rfl) : slotOf _ T 42 = .bool true), ?_⟩
    clear hd hv hu hs hw
    go_simp
    exact ⟨_, rfl, DstOk.some rfl, Below.refl _ _, rfl⟩
  · intro T w Q hu hs hv hw hd
    have hx61 : T.getD 61 undef = (.pointer (some ⟨b1, o1, none⟩)) := Deps.at 44 hd (by kernel_rfl)
    refine .inl ⟨wanted_some rfl (Deps.at 42 hd (by kernel_rfl) : slotOf _ T 42 = .bool true), ?_⟩
    clear hd hv hu hs hw
    go_simp
    exact ⟨_, rfl, DstOk.some rfl, Below.refl _ _, rfl⟩
  · intro T w Q hu hs hv hw hd
    have hx62 : T.getD 62 undef = (.pointer (some ⟨b1, o1 + 4, none⟩)) := Deps.at 45 hd (by kernel_rfl)
    refine .inl ⟨wanted_some rfl (Deps.at 42 hd (by kernel_rfl) : slotOf _ T 42 = .bool true), ?_⟩
    have hq := hu.cell c14.out id
    clear hd hv hu hs hw
    go_simp
    exact ⟨_, rfl, DstOk.some rfl, Below.refl _ _, rfl⟩
  · intro T w Q hu hs hv hw hd
    have hx1 : T.getD 1 undef = (.pointer (some ⟨b2, o2, none⟩)) := hv 1 (by kernel_rfl)
    refine .inl ⟨wanted_some rfl (Deps.at 42 hd (by kernel_rfl) : slotOf _ T 42 = .bool true), ?_⟩
    clear hd hv hu hs hw
    go_simp
    exact ⟨_, rfl, DstOk.some rfl, Below.refl _ _, rfl⟩
  · intro T w Q hu hs hv hw hd
    have hx64 : T.getD 64 undef = (.pointer (some ⟨b2, o2, none⟩)) := Deps.at 47 hd (by kernel_rfl)
    refine .inl ⟨wanted_some rfl (Deps.at 42 hd (by kernel_rfl) : slotOf _ T 42 = .bool true), ?_⟩
    clear hd hv hu hs hw
    go_simp
    exact ⟨_, rfl, DstOk.some rfl, Below.refl _ _, rfl⟩
  · intro T w Q hu hs hv hw hd
    have hx65 : T.getD 65 undef = (.pointer (some ⟨b2, o2, none⟩)) := Deps.at 48 hd (by kernel_rfl)
    refine .inl ⟨wanted_some rfl (Deps.at 42 hd (by kernel_rfl) : slotOf _ T 42 = .bool true), ?_⟩
    clear hd hv hu hs hw
    go_simp
    exact ⟨_, rfl, DstOk.some rfl, Below.refl _ _, rfl⟩
  · intro T w Q hu hs hv hw hd
    have hx66 : T.getD 66 undef = (.pointer (some ⟨b2, o2 + 4, none⟩)) := Deps.at 49 hd (by kernel_rfl)
    refine .inl ⟨wanted_some rfl (Deps.at 42 hd (by kernel_rfl) : slotOf _ T 42 = .bool true), ?_⟩
    have hq := hu.cell c24.out id
    clear hd hv hu hs hw
    go_simp
    exact ⟨_, rfl, DstOk.some rfl, Below.refl _ _, rfl⟩
  · intro T w Q hu hs hv hw hd
    have hx63 : T.getD 63 undef = pb1 := Deps.at 46 hd (by kernel_rfl)
    have hx67 : T.getD 67 undef = pb2 := Deps.at 50 hd (by kernel_rfl)
    refine .inl ⟨wanted_some rfl (Deps.at 42 hd (by kernel_rfl) : slotOf _ T 42 = .bool true), ?_⟩
    have hN := hC.out w hu
    clear hd hv hu hs hw
    go_simp
    refine hN.mono ?_
    rintro e w5 ⟨rfl, hb⟩
    exact ⟨_, rfl, DstOk.some rfl, hb, rfl⟩
  · intro T w Q hu hs hv hw hd
    have hx59 : T.getD 59 undef = (.bool true) := Deps.at 42 hd (by kernel_rfl)
    have hx68 : T.getD 68 undef = (.bool true) := Deps.at 51 hd (by kernel_rfl)
    refine .inl ⟨wanted_none rfl, ?_⟩
    clear hd hv hu hs hw
    go_simp
    exact ⟨_, rfl, DstOk.some rfl, Below.refl _ _, rfl⟩
  · intro T w Q hu hs hv hw hd
    have hx69 : T.getD 69 undef = (.bool true) := Deps.at 52 hd (by kernel_rfl)
    refine .inl ⟨wanted_none rfl, ?_⟩
    clear hd hv hu hs hw
    go_simp
    exact ⟨_, rfl, DstOk.some rfl, Below.refl _ _, rfl⟩
  intro T w hu hs hv hf hcur
  have hT : T = #[T.getD 0 undef, T.getD 1 undef, T.getD 2 undef, T.getD 3 undef, T.getD 4 undef, T.getD 5 undef, T.getD 6 undef, T.getD 7 undef, T.getD 8 undef, T.getD 9 undef, T.getD 10 undef, T.getD 11 undef, T.getD 12 undef, T.getD 13 undef, T.getD 14 undef, T.getD 15 undef, T.getD 16 undef, T.getD 17 undef, T.getD 18 undef, T.getD 19 undef, T.getD 20 undef, T.getD 21 undef, T.getD 22 undef, T.getD 23 undef, T.getD 24 undef, T.getD 25 undef, T.getD 26 undef, T.getD 27 undef, T.getD 28 undef, T.getD 29 undef, T.getD 30 undef, T.getD 31 undef, T.getD 32 undef, T.getD 33 undef, T.getD 34 undef, T.getD 35 undef, T.getD 36 undef, T.getD 37 undef, T.getD 38 undef, T.getD 39 undef, T.getD 40 undef, T.getD 41 undef, T.getD 42 undef, T.getD 43 undef, T.getD 44 undef, T.getD 45 undef, T.getD 46 undef, T.getD 47 undef, T.getD 48 undef, T.getD 49 undef, T.getD 50 undef, T.getD 51 undef, T.getD 52 undef, T.getD 53 undef, T.getD 54 undef, T.getD 55 undef, T.getD 56 undef, T.getD 57 undef, T.getD 58 undef, T.getD 59 undef, T.getD 60 undef, T.getD 61 undef, T.getD 62 undef, T.getD 63 undef, T.getD 64 undef, T.getD 65 undef, T.getD 66 undef, T.getD 67 undef, T.getD 68 undef, T.getD 69 undef] := expl hs
  rw [hT]
  clear hT
  rw [show T.getD 0 undef = (.pointer (some ⟨b1, o1, none⟩)) from hv 0 (by kernel_rfl)]
  rw [show T.getD 1 undef = (.pointer (some ⟨b2, o2, none⟩)) from hv 1 (by kernel_rfl)]
  rw [hv 2 (by kernel_rfl)]
  rw [hv 3 (by kernel_rfl)]
  rw [show T.getD 4 undef = (.bool true) from hf 53 (by decide)]
  rw [hv 5 (by kernel_rfl)]
  rw [hv 6 (by kernel_rfl)]
  rw [hv 7 (by kernel_rfl)]
  rw [hv 8 (by kernel_rfl)]
  rw [hv 9 (by kernel_rfl)]
  rw [hv 10 (by kernel_rfl)]
  rw [hv 11 (by kernel_rfl)]
  rw [hv 12 (by kernel_rfl)]
  rw [hv 13 (by kernel_rfl)]
  rw [hv 14 (by kernel_rfl)]
  rw [hv 15 (by kernel_rfl)]
  rw [hv 16 (by kernel_rfl)]
  rw [show T.getD 17 undef = (.pointer (some ⟨b1, o1, none⟩)) from hf 0 (by decide)]
  rw [show T.getD 18 undef = (.pointer (some ⟨b1, o1, none⟩)) from hf 1 (by decide)]
  rw [show T.getD 19 undef = (.pointer (some ⟨b1, o1, none⟩)) from hf 2 (by decide)]
  rw [show T.getD 20 undef = (.int .i64 k) from hf 3 (by decide)]
  rw [show T.getD 21 undef = (.pointer (some ⟨b2, o2, none⟩)) from hf 4 (by decide)]
  rw [show T.getD 22 undef = (.pointer (some ⟨b2, o2, none⟩)) from hf 5 (by decide)]
  rw [show T.getD 23 undef = (.pointer (some ⟨b2, o2, none⟩)) from hf 6 (by decide)]
  rw [show T.getD 24 undef = (.int .i64 k) from hf 7 (by decide)]
  rw [show T.getD 25 undef = (.bool true) from hf 8 (by decide)]
  rw [show T.getD 26 undef = (.bool true) from hf 9 (by decide)]
  rw [show T.getD 27 undef = (.pointer (some ⟨b1, o1, none⟩)) from hf 10 (by decide)]
  rw [show T.getD 28 undef = (.pointer (some ⟨b1, o1, none⟩)) from hf 11 (by decide)]
  rw [show T.getD 29 undef = (.pointer (some ⟨b1, o1 + 1, none⟩)) from hf 12 (by decide)]
  rw [show T.getD 30 undef = (.int .i64 n) from hf 13 (by decide)]
  rw [show T.getD 31 undef = (.pointer (some ⟨b2, o2, none⟩)) from hf 14 (by decide)]
  rw [show T.getD 32 undef = (.pointer (some ⟨b2, o2, none⟩)) from hf 15 (by decide)]
  rw [show T.getD 33 undef = (.pointer (some ⟨b2, o2 + 1, none⟩)) from hf 16 (by decide)]
  rw [show T.getD 34 undef = (.int .i64 n) from hf 17 (by decide)]
  rw [show T.getD 35 undef = (.bool true) from hf 18 (by decide)]
  rw [show T.getD 36 undef = (.bool true) from hf 19 (by decide)]
  rw [show T.getD 37 undef = (.bool true) from hf 20 (by decide)]
  rw [show T.getD 38 undef = (.pointer (some ⟨b1, o1, none⟩)) from hf 21 (by decide)]
  rw [show T.getD 39 undef = (.pointer (some ⟨b1, o1, none⟩)) from hf 22 (by decide)]
  rw [show T.getD 40 undef = (.pointer (some ⟨b1, o1 + 2, none⟩)) from hf 23 (by decide)]
  rw [show T.getD 41 undef = (.string s) from hf 24 (by decide)]
  rw [show T.getD 42 undef = (.pointer (some ⟨b2, o2, none⟩)) from hf 25 (by decide)]
  rw [show T.getD 43 undef = (.pointer (some ⟨b2, o2, none⟩)) from hf 26 (by decide)]
  rw [show T.getD 44 undef = (.pointer (some ⟨b2, o2 + 2, none⟩)) from hf 27 (by decide)]
  rw [show T.getD 45 undef = (.string s) from hf 28 (by decide)]
  rw [show T.getD 46 undef = (.bool true) from hf 29 (by decide)]
  rw [show T.getD 47 undef = (.bool true) from hf 30 (by decide)]
  rw [show T.getD 48 undef = (.bool true) from hf 31 (by decide)]
  rw [show T.getD 49 undef = (.pointer (some ⟨b1, o1, none⟩)) from hf 32 (by decide)]
  rw [show T.getD 50 undef = (.pointer (some ⟨b1, o1, none⟩)) from hf 33 (by decide)]
  rw [show T.getD 51 undef = (.pointer (some ⟨b1, o1 + 3, none⟩)) from hf 34 (by decide)]
  rw [show T.getD 52 undef = pa1 from hf 35 (by decide)]
  rw [show T.getD 53 undef = (.pointer (some ⟨b2, o2, none⟩)) from hf 36 (by decide)]
  rw [show T.getD 54 undef = (.pointer (some ⟨b2, o2, none⟩)) from hf 37 (by decide)]
  rw [show T.getD 55 undef = (.pointer (some ⟨b2, o2 + 3, none⟩)) from hf 38 (by decide)]
  rw [show T.getD 56 undef = pa2 from hf 39 (by decide)]
  rw [show T.getD 57 undef = (.bool true) from hf 40 (by decide)]
  rw [show T.getD 58 undef = (.bool true) from hf 41 (by decide)]
  rw [show T.getD 59 undef = (.bool true) from hf 42 (by decide)]
  rw [show T.getD 60 undef = (.pointer (some ⟨b1, o1, none⟩)) from hf 43 (by decide)]
  rw [show T.getD 61 undef = (.pointer (some ⟨b1, o1, none⟩)) from hf 44 (by decide)]
  rw [show T.getD 62 undef = (.pointer (some ⟨b1, o1 + 4, none⟩)) from hf 45 (by decide)]
  rw [show T.getD 63 undef = pb1 from hf 46 (by decide)]
  rw [show T.getD 64 undef = (.pointer (some ⟨b2, o2, none⟩)) from hf 47 (by decide)]
  rw [show T.getD 65 undef = (.pointer (some ⟨b2, o2, none⟩)) from hf 48 (by decide)]
  rw [show T.getD 66 undef = (.pointer (some ⟨b2, o2 + 4, none⟩)) from hf 49 (by decide)]
  rw [show T.getD 67 undef = pb2 from hf 50 (by decide)]
  rw [show T.getD 68 undef = (.bool true) from hf 51 (by decide)]
  rw [show T.getD 69 undef = (.bool true) from hf 52 (by decide)]
  clear hf hs hv hcur
  simp only [getD_toArray, List.getD_cons_succ, List.getD_cons_zero]
  clear T
  have hu1 := hu
  clear hu
  replace hu1 := hide hu1
  go_wp2_with fail
  go_ret
  exact ⟨rfl, hu1.out.below (Nat.le_refl _) fun _ h => h.elim⟩
/-- The same tree twice. -/
theorem sameE_any : ∀ (e : Ex) (v1 v2 : Value) (w : World) (S1 S2 : Nat → Prop), ExA w S1 e v1 → ExA w S2 e v2 → SameQ 15 v1 v2 w
  | .num n, v1, v2, w, S1, S2, h1, h2 => by
    intro w' hu
    obtain ⟨b1, o1, rfl, -, a0, a1, a2, a3, a4⟩ := h1.upd hu fun _ _ => id
    obtain ⟨b2, o2, rfl, -, d0, d1, d2, d3, d4⟩ := h2.upd hu fun _ _ => id
    exact sameE_node b1 o1 b2 o2 _ _ _ _ _ _ _ w' a0 a1 a2 a3 a4 d0 d1 d2 d3 d4 (sameE_nil w') (sameE_nil w')
  | .var s, v1, v2, w, S1, S2, h1, h2 => by
    intro w' hu
    obtain ⟨b1, o1, rfl, -, a0, a1, a2, a3, a4⟩ := h1.upd hu fun _ _ => id
    obtain ⟨b2, o2, rfl, -, d0, d1, d2, d3, d4⟩ := h2.upd hu fun _ _ => id
    exact sameE_node b1 o1 b2 o2 _ _ _ _ _ _ _ w' a0 a1 a2 a3 a4 d0 d1 d2 d3 d4 (sameE_nil w') (sameE_nil w')
  | .neg x, v1, v2, w, S1, S2, h1, h2 => by
    intro w' hu
    obtain ⟨b1, o1, y1, rfl, ⟨-, a0, a1, a2, a3, a4⟩, x1⟩ := h1.upd hu fun _ _ => id
    obtain ⟨b2, o2, y2, rfl, ⟨-, d0, d1, d2, d3, d4⟩, x2⟩ := h2.upd hu fun _ _ => id
    exact sameE_node b1 o1 b2 o2 _ _ _ _ _ _ _ w' a0 a1 a2 a3 a4 d0 d1 d2 d3 d4 (sameE_any x y1 y2 w' S1 S2 x1 x2) (sameE_nil w')
  | .bin k x y, v1, v2, w, S1, S2, h1, h2 => by
    intro w' hu
    obtain ⟨b1, o1, y1, z1, rfl, ⟨-, a0, a1, a2, a3, a4⟩, x1, t1⟩ := h1.upd hu fun _ _ => id
    obtain ⟨b2, o2, y2, z2, rfl, ⟨-, d0, d1, d2, d3, d4⟩, x2, t2⟩ := h2.upd hu fun _ _ => id
    exact sameE_node b1 o1 b2 o2 _ _ _ _ _ _ _ w' a0 a1 a2 a3 a4 d0 d1 d2 d3 d4 (sameE_any x y1 y2 w' S1 S2 x1 x2) (sameE_any y z1 z2 w' S1 S2 t1 t2)
end Go.Proofs.YtiiihpokpfhclaaDoor
/- The walk of the law PrintSums. -/
namespace Go.Proofs.YtiiihpokpfhclaaDoor
open Go Go.RowKit

/-- A function of one statement, told: what is read of it. -/
theorem body_one {w : World} {B : Nat} {a : Fn7} {v : Value} {s : Sm} (hb : a.body = [s]) (h : FnV w B a v) :
    ∃ A1 n1 c1 A2 n2 c2 g c3 us, v = .agg #[.string (strB a.name), .slice A1 n1 c1, .slice A2 n2 c2, .slice (some ⟨g, 0, none⟩) 1 c3] ∧ 1 ≤ c3 ∧ B ≤ g ∧ SmV w (B ≤ ·) s us ∧ ∀ (j : Nat) (u : Value), us[j]? = some u → w.cell? ⟨g, j, none⟩ = some u := by
  obtain ⟨A1, n1, c1, A2, n2, c2, A3, n3, c3, rfl, -, -, uss, h1, h2⟩ := h
  rw [hb] at h1 h2
  unfold SmsV at h2
  obtain ⟨us, rest, rfl, h3, h4⟩ := h2
  unfold SmsV at h4
  subst h4
  obtain ⟨A, c, e, hc1, -, hg⟩ := h1
  injection e with e1 e2 e3
  subst e1 e2 e3
  rcases hg with hg | ⟨g, rfl, hS, hcell⟩
  · cases hg
  · exact ⟨A1, n1, c1, A2, n2, c2, g, _, us, rfl, hc1, hS, h3, fun j u hj => hcell j u (by simpa using hj)⟩
theorem sm_expr {w : World} {S : Nat → Prop} {k : Nat} {x y : List UInt8} {e : Ex} {f : Option Ex} {c : Option Cn} {args : List Ex} {t l : List Sm} {a : Nat} {us : List Value} (h : SmV w S (.mk k x y (some e) f c args t l a) us) : ∃ ve, us[3]? = some ve ∧ ExV w S e ve := by
  unfold SmV at h
  obtain ⟨ve, vf, vc, va, vt, vl, ut, ul, rfl, h2, -⟩ := h
  exact ⟨ve, rfl, h2⟩
set_option maxRecDepth 100000 in
set_option maxHeartbeats 3200000 in
theorem sums_any (T : XT) (w : World) (hv : TrV w (· < w.heap.size) T) (hT : TabP w) : Calls Tryd.prog 4 #[T.ptr] w fun r w' => r = .returned (.bool true) ∧ Below w.heap.size w w' := by
  have hK := hide (known8_any w hT)
  replace hv := hide hv
  replace hT := hide hT
  generalize hx : T.ptr = x
  go_enter Tryd.func4, Tryd.ntmps4
  go_wp2_with fail
  refine hK.out.mono ?_
  rintro r w1 ⟨rfl, hb1⟩
  have hlow : ∀ w', Below w.heap.size w w' → TrV w' (· < w.heap.size) T := fun w' hb => TrV.upd (F := (w.heap.size ≤ ·)) ⟨hb.os, hb.tape, hb.output, hb.size, fun k _ hn => hb.block k (by omega)⟩ (fun k h1 h2 => by omega) hv.out
  have hg := heap_new w1 (.cells #[.int .i64 40] 3)
  have hc := fun v => heap_set (heap_new w1 (.cells #[v] 3)) 0 (.int .i64 40)
  have hb2 := hb1.alloc hb1.size (.cells #[.int .i64 40] 3)
  have hL := hide (light_any (· < w.heap.size) w1.heap.size (fun b h => by have := hb1.size; omega) T _ 40 12 (hlow _ hb2) hg (by omega) (by omega) (by omega) (by omega))
  rw [hx] at hL
  replace hlow := hide hlow
  replace hb2 := hide hb2
  have hz1 := hide hb1.size
  clear hb1 hc hg
  go_wp2_with fail
  refine hL.out.mono ?_
  rintro r w2 ⟨q, l', rfl, hu, -, -, -, hq⟩
  have hb3 := hide (hb2.out.trans (hu.below (B := w.heap.size) (by rw [new_size]; have := hz1.out; omega) fun k hk => by have := hz1.out; omega))
  replace hq := hide hq
  clear hu
  cases q with
  | false =>
    go_wp2_with fail
    go_ret
    exact ⟨rfl, hb3.out⟩
  | true =>
    have hv2 := hlow.out _ hb3.out
    have hR := right_any _ T w2 hv2
    rw [hx] at hR
    cases hrt : rightT T with
    | false =>
      rw [hrt] at hR
      replace hR := hide hR
      go_wp2_with fail
      refine hR.out.mono ?_
      rintro r w3 ⟨rfl, rfl⟩
      go_wp2_with fail
      go_ret
      exact ⟨rfl, hb3.out⟩
    | true =>
      rw [hrt] at hR
      obtain ⟨hq1, hq2, hq3⟩ := hq.out rfl
      obtain ⟨e, he, hw, hl, hne, hnd⟩ := right_ex2 hv2 hrt hq3
      rw [hx] at he
      have hP := hide (plain_any e x w2 _ he hw)
      replace hR := hide hR
      cases hpl : plainE e with
      | false =>
        rw [hpl] at hP
        clear hv2 hrt hq1 hq2 hq3 he hw hl hne hnd hq
        go_wp2_with fail
        refine hR.out.mono ?_
        rintro r w3 ⟨rfl, rfl⟩
        go_wp2_with fail
        refine Calls.mono hP.out ?_
        rintro r w3 ⟨rfl, rfl⟩
        go_wp2_with fail
        go_ret
        exact ⟨rfl, hb3.out⟩
      | true =>
        rw [hpl] at hP
        have hsz : (exT e).length ≤ 3000 := by omega
        have hwr := plain_wf hw hpl
        have hE := hide (printExpr_any e x w2 (he.mono fun b h => by have := hb3.out.size; omega) hw (hT.out.below hb3.out) hne (by omega))
        have hF := hide (fun w' => sm_call hwr (by omega) (by omega : ndE e ≤ 40) w')
        replace he := hide he
        generalize hX : exT e = X at *
        have hz : X.length ≤ 3000 := hsz
        have hadd1 : Hid (∀ w, (Op.stringOp .add ⟨#[102, 110, 32, 102, 40, 41, 32, 123, 32, 114, 101, 116, 117, 114, 110, 32]⟩ (strB X)).run Tryd.prog w = .ok (.string (strB (smPre ++ X))) w) := hide fun w => str_add smPre X (by show 16 + _ ≤ _; omega) w
        have hadd2 : Hid (∀ w, (Op.stringOp .add (strB (smPre ++ X)) ⟨#[59, 32, 125]⟩).run Tryd.prog w = .ok (.string (strB (smPre ++ X ++ [59, 32, 125]))) w) := hide fun w => str_add (smPre ++ X) [59, 32, 125] (by simp [smPre]; omega) w
        generalize smPre ++ X ++ [59, 32, 125] = T2 at *
        generalize smPre ++ X = T1 at *
        clear hv2 hrt hq1 hq2 hq3 hw hl hne hnd hq hX hsz hz hwr hpl
        go_wp2_with fail
        refine hR.out.mono ?_
        rintro r w3 ⟨rfl, rfl⟩
        go_wp2_with fail
        refine Calls.mono hP.out ?_
        rintro r w3 ⟨rfl, rfl⟩
        go_wp2_with fail
        refine hE.out.mono ?_
        rintro r w4 ⟨rfl, hb4⟩
        have hb5 := hide (hb3.out.trans (hb4.mono hb3.out.size))
        replace he := hide (he.out.upd (F := fun _ => False) (.of_below _ hb4) fun _ _ => id)
        clear hb4
        have ha1 := hadd1.out
        have ha2 := hadd2.out
        go_wp2_with fail
        refine (hF.out _).mono ?_
        rintro r w5 ⟨hb6, v, rfl, hv⟩
        have hb7 := hide (hb5.out.trans (hb6.mono hb5.out.size))
        replace he := hide (he.out.upd (F := fun _ => False) (.of_below _ hb6) fun _ _ => id)
        obtain ⟨A1, n1, c1, A2, n2, c2, g, c3, us, rfl, hc3, -, hs, hcell⟩ := body_one (s := .mk 9 [] [] (some e) none none [] [] [] 0) rfl hv
        obtain ⟨ve, hv3, hve⟩ := sm_expr hs
        have hc3x := hcell 3 ve hv3
        replace hve := hide hve.exA
        generalize strB (smF e).name = nm at *
        have hn5 := heap_new w5 (.cells #[.string nm, .slice A1 n1 c1, .slice A2 n2 c2, .slice (some ⟨g, 0, none⟩) 1 c3] 31)
        have hu5 := Upd.alloc (fun _ => False) w5 (.cells #[.string nm, .slice A1 n1 c1, .slice A2 n2 c2, .slice (some ⟨g, 0, none⟩) 1 c3] 31)
        have q3 : (w5.alloc (.cells #[.string nm, .slice A1 n1 c1, .slice A2 n2 c2, .slice (some ⟨g, 0, none⟩) 1 c3] 31)).cell? ⟨w5.heap.size, 3, none⟩ = some (.slice (some ⟨g, 0, none⟩) 1 c3) := (cell_at hn5 3).trans rfl
        have p3 := hu5.cell hc3x id
        have hS := hide (sameE_any e ve x w5 _ _ hve.out he.out)
        have hb8 := hide (hb7.out.alloc hb7.out.size (.cells #[.string nm, .slice A1 n1 c1, .slice A2 n2 c2, .slice (some ⟨g, 0, none⟩) 1 c3] 31))
        replace hu5 := hide hu5
        obtain ⟨vb, vo, rfl⟩ := hve.out.ptr
        clear hcell hv hs hv3 hc3x hn5 ha1 ha2 hb6 he hve
        go_wp2_with fail
        refine (hS.out _ hu5.out).mono ?_
        rintro r w6 ⟨rfl, hb9⟩
        have hb10 := hide (hb8.out.trans (hb9.mono hb8.out.size))
        clear hb9
        go_wp2_with fail
        go_ret
        exact ⟨rfl, hb10.out⟩
end Go.Proofs.YtiiihpokpfhclaaDoor
/- What the listed variables give the walks of package print: the table of tens. -/
namespace Go.Proofs.YtiiihpokpfhclaaDoor
open Go Go.RowKit
theorem tab8_type : (Tryd.prog.globals[0]?).map (·.type) = some 134 := by kernel_rfl
theorem tab8_a : Tryd.prog.cellsOf 134 = 20 := by kernel_rfl
theorem tab8_e : Tryd.prog.cellsOf 92 = 1 := by kernel_rfl
theorem tab8 {W : World} {laid : List (String × DataW Unit)} {a b : String × DataW Unit} (hl : laid = [a, b, ("internal/strconv.uint64pow10", Lib.tabData .u64 Lib.pow10Tab)]) (hp : (laid.all fun x => x.2.handleName?.isNone) = true) (h : laidMetH Tryd.prog laid W) : TabP W := by
  rw [MakeChecks.laidMetH_plain _ _ _ hp, hl] at h
  exact Lib.tabIs_of_head (rest := []) tab_name tab8_type Tryd.underlying134 Tryd.underlying92 tab8_e tab8_a (laidMet.tail (laidMet.tail h))
end Go.Proofs.YtiiihpokpfhclaaDoor
/- A tree that came in. -/
namespace Go.Proofs.YtiiihpokpfhclaaDoor
open Go Go.RowKit
set_option maxRecDepth 100000 in
theorem open_treeV {H : Type} {enc : TypeId × Value → H} {w : World} {base : Nat} {spare : Nat → Bool} {held : Bool} {base' : Nat} {v : Value} {d : DataW H} {p : List MemPlace} (hval : Value.okWide Tryd.prog w .any base' 35 v) (h : DataW.Trod enc Tryd.prog w base spare held 35 v d p) :
    ∃ T : XT, v = T.ptr ∧ TrV w (· < w.heap.size) T := by
  obtain ⟨a, rfl⟩ := Go.WideShapes.okWide_pointer Tryd.underlying35 hval
  obtain ⟨fuel, hf⟩ := h
  obtain ⟨T, hc, hT⟩ := open_tr fuel _ _ hf
  exact ⟨T, by simpa [Value.cells] using hc, hT⟩
end Go.Proofs.YtiiihpokpfhclaaDoor
