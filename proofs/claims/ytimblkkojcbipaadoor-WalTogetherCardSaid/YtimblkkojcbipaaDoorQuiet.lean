/- Walks of the disk: what only reads. -/
import Derived.Test.YtimblkkojcbipaaDoorDisk
import Derived.Lib.SliceRun
namespace Go.Proofs.YtimblkkojcbipaaDoor
open Go Go.RowKit
section
variable {w : World} {sb db mb cap : Nat} {vs : Array Value} {g : Nat → Option Value} {R : Nat → Prop} {D : DS}
theorem DiskAt.c0 (h : DiskAt w sb db mb cap vs g R D) : w.cell? ⟨sb, 0, none⟩ = some (.int .i64 D.size) := by rw [cell_at h.head]; rfl
theorem DiskAt.c1 (h : DiskAt w sb db mb cap vs g R D) : w.cell? ⟨sb, 1, none⟩ = some (.slice (some ⟨db, 0, none⟩) D.n cap) := by rw [cell_at h.head]; rfl
theorem DiskAt.c2 (h : DiskAt w sb db mb cap vs g R D) : w.cell? ⟨sb, 2, none⟩ = some (.map (some mb)) := by rw [cell_at h.head]; rfl
theorem DiskAt.c3 (h : DiskAt w sb db mb cap vs g R D) : w.cell? ⟨sb, 3, none⟩ = some (.bool D.dead) := by rw [cell_at h.head]; rfl
theorem DiskAt.c4 (h : DiskAt w sb db mb cap vs g R D) : w.cell? ⟨sb, 4, none⟩ = some (.bool D.sched) := by rw [cell_at h.head]; rfl
theorem DiskAt.c5 (h : DiskAt w sb db mb cap vs g R D) : w.cell? ⟨sb, 5, none⟩ = some (.int .i64 D.left) := by rw [cell_at h.head]; rfl
theorem DiskAt.f (h : DiskAt w sb db mb cap vs g R D) (o : Nat) : w.frozen? ⟨sb, o, none⟩ = false := frozen_at h.head o

theorem dead_any (h : DiskAt w sb db mb cap vs g R D) : Calls Tryd.prog 21 #[.pointer (some ⟨sb, 3, none⟩)] w fun e w' => e = .returned (.bool D.dead) ∧ w = w' := by
  have c3 := h.c3
  replace h := hide h
  go_enter Tryd.func21, Tryd.ntmps21
  go_wp2_with fail
  go_ret
  exact ⟨rfl, rfl⟩
theorem sectors_any (h : DiskAt w sb db mb cap vs g R D) : Calls Tryd.prog 28 #[.pointer (some ⟨sb, 0, none⟩)] w fun e w' => e = .returned (.int .i64 D.n) ∧ w = w' := by
  have c1 := h.c1
  replace h := hide h
  go_enter Tryd.func28, Tryd.ntmps28
  go_wp2_with fail
  go_ret
  exact ⟨rfl, rfl⟩
theorem size_any (h : DiskAt w sb db mb cap vs g R D) : Calls Tryd.prog 29 #[.pointer (some ⟨sb, 0, none⟩)] w fun e w' => e = .returned (.int .i64 D.size) ∧ w = w' := by
  have c0 := h.c0
  replace h := hide h
  go_enter Tryd.func29, Tryd.ntmps29
  go_wp2_with fail
  go_ret
  exact ⟨rfl, rfl⟩
theorem has_any (h : DiskAt w sb db mb cap vs g R D) (i : Nat) (hi : i < D.n) : Calls Tryd.prog 63 #[.pointer (some ⟨sb, 0, none⟩), .int .i64 i] w fun e w' => e = .returned (.bool true) ∧ w = w' := by
  have c1 := h.c1
  replace h := hide h
  go_enter Tryd.func63, Tryd.ntmps63
  go_wp2_with fail
  go_ret
  exact ⟨by simp, rfl⟩
theorem reach_any (h : DiskAt w sb db mb cap vs g R D) (i : Nat) (hi : i < D.n) : Calls Tryd.prog 37 #[.pointer (some ⟨sb, 0, none⟩), .int .i64 i] w fun e w' => e = .returned (.int .i64 (if D.dead then 32 else 0)) ∧ w = w' := by
  have hd := dead_any h
  have hh := has_any h i hi
  cases hD : D.dead
  · rw [hD] at hd
    clear hD h
    go_enter Tryd.func37, Tryd.ntmps37
    go_wp2_with fail
    refine hd.mono ?_
    rintro e w' ⟨rfl, rfl⟩
    go_wp2_with fail
    refine hh.mono ?_
    rintro e w' ⟨rfl, rfl⟩
    go_wp2_with fail
    go_ret
    exact ⟨by simp, rfl⟩
  · rw [hD] at hd
    clear hD h
    go_enter Tryd.func37, Tryd.ntmps37
    go_wp2_with fail
    refine hd.mono ?_
    rintro e w' ⟨rfl, rfl⟩
    go_wp2_with fail
    go_ret
    exact ⟨by simp, rfl⟩
end
theorem eql_nil (w : World) (a : Option Addr) (n c n' c' : Nat) : (binOp .eql 34 (.slice a n c) (.slice none n' c')).run Tryd.prog w = .ok (.bool a.isNone) w := Lib.run_eql_slice_nil w _ _ a n c n' c' Tryd.underlying34
/-- bytes.Clone: the same bytes, in memory of their own. -/
theorem clone_any {w : World} {S : Nat → Prop} {v : Value} {l : List UInt8} (h : ArgV w S v (bv l)) (hl : l.length ≤ 70368744177664) : Calls Tryd.prog 64 #[v] w fun e w' => ∃ v', e = .returned v' ∧ RowB w' w.heap.size v' l ∧ Below w.heap.size w w' := by
  obtain ⟨A, c, rfl, h2, h3, h4⟩ := h
  have q := eql_nil
  replace h4 := hide h4
  cases A with
  | none =>
    go_enter Tryd.func64, Tryd.ntmps64
    go_wp2_with fail
    go_ret
    rcases h4.out with h0 | ⟨b, o, h0, _⟩
    · have : l = [] := by simpa [bv] using h0
      subst this
      exact ⟨_, rfl, RowB.nil_ _ _, Below.refl _ _⟩
    · cases h0
  | some a =>
    rw [bv_len] at h2 ⊢
    go_enter Tryd.func64, Tryd.ntmps64
    go_wp2_with (first | (at_builtin; refine wp_bytes rfl _ _ rfl w.heap.size _ [] rfl ?_ a l.length c l rfl rfl ?_ ?_ ?_ ?_) | go_in)
    · refine ⟨rfl, .inr ⟨w.heap.size, 0, #[], rfl, Nat.le_refl _, heap_alloc_new _ _, Nat.le_refl _, Nat.zero_le _, rfl, rfl⟩⟩
    · intro j u hj
      rcases h4.out with h0 | ⟨b, o, h0, _, hc⟩
      · rw [h0] at hj; simp at hj
      · obtain rfl := Option.some.inj h0
        rw [Go.WideShapes.add_plain]
        exact ((Below.refl w.heap.size w).alloc (Nat.le_refl _) _).cell (World.block_lt_of_cell? w _ (hc j u hj)) |>.trans (hc j u hj)
    · simpa using hl
    · simp
    · intro v' w' h1 h2 h3
      go_wp2_with fail
      go_ret
      refine ⟨_, rfl, by simpa using h1, ?_⟩
      exact ((Below.refl w.heap.size w).alloc (Nat.le_refl _) _).grown h2 (by simp) (fun k hk => by cases hk; exact Nat.le_refl _)
end Go.Proofs.YtimblkkojcbipaaDoor
