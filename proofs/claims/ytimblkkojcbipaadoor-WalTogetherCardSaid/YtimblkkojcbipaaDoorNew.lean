/- Walks of the disk: New. -/
import Derived.Test.YtimblkkojcbipaaDoorOps
import Derived.Test.YtimblkkojcbipaaDoorRepeat
namespace Go.Proofs.YtimblkkojcbipaaDoor
open Go Go.RowKit
def DS.new (n s : Nat) : DS := { n := n, size := s, dur := fun _ => List.replicate s 0, wr := fun _ => none, dead := false, sched := false, left := 0 }
theorem bytes_info : (Tryd.prog.info? 5).map (fun i => (i.zero, i.size, i.bytes)) = some (some (.int .u8 0), 1, 1) := by kernel_rfl
theorem bv_zeros (s : Nat) : (bv (List.replicate s 0)).toArray = madeCells #[.int .u8 0] s := by
  rw [← toList_madeCells_one_eq]; simp [bv]
/-- A row of zeros that has just been made. -/
theorem zeros_arg (w : World) (s : Nat) (hs : s ≤ 4096) : ArgV (w.alloc (.cells (madeCells #[.int .u8 0] s) 5)) (fun k => k = w.heap.size) (.slice (some ⟨w.heap.size, 0, none⟩) s s) (bv (List.replicate s 0)) := by
  have e : (bv (List.replicate s 0)).length = s := by rw [bv_len, List.length_replicate]
  refine ⟨some ⟨w.heap.size, 0, none⟩, s, by rw [e], by rw [e]; exact Nat.le_refl _, by unfold maxLen; omega, .inr ⟨_, _, rfl, rfl, fun i u hi => ?_⟩⟩
  rw [cell_at (heap_new _ _), ← bv_zeros]
  simpa using hi
/-- The three parts of sectors. -/
def SecV (w : World) (B : Nat) (n s : Nat) (v : Value) : Prop :=
  ∃ db mb zb, v = .agg #[.int .i64 s, .slice (some ⟨db, 0, none⟩) n n, .map (some mb)] ∧ B ≤ db ∧ B ≤ mb ∧ B ≤ zb ∧
    w.heap[db]? = some (.cells (List.replicate n (.slice (some ⟨zb, 0, none⟩) s s)).toArray 34) ∧ w.heap[mb]? = some (.map #[] 0) ∧ w.heap[zb]? = some (.cells (bv (List.replicate s 0)).toArray 5)
set_option maxRecDepth 100000 in
theorem newSectors_any (w : World) (n s : Nat) (h1 : 1 ≤ n) (hn : n ≤ 4096) (hs : s ≤ 4096) :
    Calls Tryd.prog 27 #[.int .i64 n, .int .i64 s] w fun e w' => ∃ v, e = .returned v ∧ SecV w' w.heap.size n s v ∧ Below w.heap.size w w' := by
  have hmk := run_make_row' (P := Tryd.prog) 34 5 (.int .u8 0) 1 Tryd.underlying34 bytes_info rfl .i64 .i64 s (by omega) (by omega)
  have hmm := @run_makeMap Tryd.prog
  go_enter Tryd.func27, Tryd.ntmps27
  go_wp2_with fail
  obtain ⟨w0, hw0⟩ : ∃ w0, w0 = (((w.alloc (.cells #[.int .i64 0, .slice none 0 0, .map none] 45)).alloc (.cells (madeCells #[.int .u8 0] s) 5)).alloc (.cells #[.slice (some ⟨w.heap.size + 1, 0, none⟩) s s] 34)) := ⟨_, rfl⟩
  have z0 : w0.heap.size = w.heap.size + 3 := by rw [hw0]; simp
  have y1 : w0.heap[w.heap.size]? = some (.cells #[.int .i64 0, .slice none 0 0, .map none] 45) := by rw [hw0]; exact heap_old (heap_old (heap_new _ _) _) _
  have y2 : w0.heap[w.heap.size + 1]? = some (.cells (madeCells #[.int .u8 0] s) 5) := by
    rw [hw0]
    have := heap_new (w.alloc (.cells #[.int .i64 0, .slice none 0 0, .map none] 45)) (.cells (madeCells #[.int .u8 0] s) 5)
    rw [World.size_alloc] at this
    exact heap_old this _
  have y3 : w0.cell? ⟨w.heap.size + 1 + 1, 0, none⟩ = some (.slice (some ⟨w.heap.size + 1, 0, none⟩) s s) := by
    have := heap_new ((w.alloc (.cells #[.int .i64 0, .slice none 0 0, .map none] 45)).alloc (.cells (madeCells #[.int .u8 0] s) 5)) (.cells #[.slice (some ⟨w.heap.size + 1, 0, none⟩) s s] 34)
    rw [World.size_alloc, World.size_alloc, ← hw0] at this
    rw [cell_at this]; rfl
  have hb0 : Below w.heap.size w w0 := by rw [hw0]; exact (((Below.refl _ w).alloc (Nat.le_refl _) _).alloc (by simp) _).alloc (by simp; omega) _
  rw [← hw0]
  replace hw0 := hide hw0
  refine (repeat_any y3 ⟨_, _, _, rfl⟩ h1 hn).mono ?_
  rintro e w1 ⟨g, rfl, hg1, hg2, hg3⟩
  rw [z0] at hg1 hg3
  have x1 := (hg3.block w.heap.size (by omega)).trans y1
  have x2 := (hg3.block (w.heap.size + 1) (by omega)).trans y2
  have hb1 : Below w.heap.size w w1 := hb0.trans (hg3.mono (by omega))
  have xm := heap_old x1 (.map #[] 0)
  have a0 : (w1.alloc (.map #[] 0)).cell? ⟨w.heap.size, 0, none⟩ = some (.int .i64 0) := by rw [cell_at xm]; rfl
  have a1 : (w1.alloc (.map #[] 0)).cell? ⟨w.heap.size, 1, none⟩ = some (.slice none 0 0) := by rw [cell_at xm]; rfl
  have a2 : (w1.alloc (.map #[] 0)).cell? ⟨w.heap.size, 2, none⟩ = some (.map none) := by rw [cell_at xm]; rfl
  have b0 := frozen_at xm 0
  have b1 := frozen_at xm 1
  have b2 := frozen_at xm 2
  replace xm := hide xm
  have z1 : w.heap.size + 3 ≤ w1.heap.size := by have := hg3.size; omega
  replace hg2 := hide hg2
  replace hg3 := hide hg3
  replace hb0 := hide hb0
  replace hb1 := hide hb1
  replace x1 := hide x1
  replace x2 := hide x2
  replace y1 := hide y1
  replace y2 := hide y2
  clear y3 hmk z0
  replace z1 := hide z1
  go_wp2_with fail
  refine bodyPost_ret (v := .agg #[.int .i64 s, .slice (some ⟨g, 0, none⟩) n n, .map (some w1.heap.size)]) ?_ rfl ?_
  · simp [results, Tryd.results27, go_sem, a0, a1, a2]
  · have hzz := z1.out
    have hw1 : w.heap.size + 3 ≤ w1.heap.size := hzz
    have hU : Upd (fun k => k = w.heap.size) (w1.alloc (.map #[] 0)) ((((w1.alloc (.map #[] 0)).setCell ⟨w.heap.size, 0, none⟩ (.int .i64 s)).setCell ⟨w.heap.size, 1, none⟩ (.slice (some ⟨g, 0, none⟩) n n)).setCell ⟨w.heap.size, 2, none⟩ (.map (some w1.heap.size))) :=
      ((Upd.set (F := fun k => k = w.heap.size) _ (a := ⟨w.heap.size, 0, none⟩) rfl _).then (.set (F := fun k => k = w.heap.size) _ (a := ⟨w.heap.size, 1, none⟩) rfl _)).then (.set (F := fun k => k = w.heap.size) _ (a := ⟨w.heap.size, 2, none⟩) rfl _)
    refine ⟨_, rfl, ⟨g, w1.heap.size, w.heap.size + 1, rfl, by omega, by omega, by omega, ?_, ?_, ?_⟩, ?_⟩
    · exact hU.heap (heap_old hg2.out _) (by omega)
    · exact hU.heap (heap_new _ _) (by omega)
    · rw [bv_zeros]; exact hU.heap (heap_old x2.out _) (by omega)
    · exact (((Upd.of_below (fun k => k = w.heap.size) (hb1.out.alloc (by omega) (.map #[] 0))).then hU).below (Nat.le_refl _) fun k e => by omega)
set_option maxRecDepth 100000 in
theorem new_any (w : World) (n s : Nat) (h1 : 1 ≤ n) (hn : n ≤ 4096) (h2 : 64 ≤ s) (hs : s ≤ 4096) :
    Calls Tryd.prog 11 #[.int .i64 n, .int .i64 s] w fun e w' => ∃ sb S, e = .returned (.pointer (some ⟨sb, 0, none⟩)) ∧ DiskV w' sb S (DS.new n s) ∧ (∀ k, S k → w.heap.size ≤ k) ∧ Below w.heap.size w w' := by
  have hns := newSectors_any w n s h1 hn hs
  go_enter Tryd.func11, Tryd.ntmps11
  go_wp2_with fail
  refine hns.mono ?_
  rintro e w1 ⟨v, rfl, ⟨db, mb, zb, rfl, g1, g2, g3, g4, g5, g6⟩, hb⟩
  replace g4 := hide g4
  replace g5 := hide g5
  replace g6 := hide g6
  replace hb := hide hb
  go_wp2_with fail
  go_ret
  have l4 := (Array.getElem?_eq_some_iff.1 g4.out).1
  have l5 := (Array.getElem?_eq_some_iff.1 g5.out).1
  have l6 := (Array.getElem?_eq_some_iff.1 g6.out).1
  have hz := hb.out.size
  have n46 : zb ≠ db := fun e => by
    subst e
    have := g4.out.symm.trans g6.out
    injection this with this
    injection this with _ this
    exact absurd this (by decide)
  have n56 : zb ≠ mb := fun e => by subst e; have := g5.out.symm.trans g6.out; injection this with this; cases this
  have n45 : db ≠ mb := fun e => by subst e; have := g5.out.symm.trans g4.out; injection this with this; cases this
  have hlen : (List.replicate s (0 : UInt8)).length = s := by simp
  refine ⟨_, _, rfl, ⟨db, mb, n, (List.replicate n (Value.slice (some ⟨zb, 0, none⟩) s s)).toArray, fun _ => none, fun k => k = zb, ?_, rfl⟩, ?_, hb.out.alloc hz _⟩
  · exact {
      head := by rw [heap_new]; simp [DS.new]
      arr := heap_old g4.out _
      len := by simp [DS.new]
      cap := rfl
      map := MapV.empty _ (heap_old g5.out _)
      dur := fun i hi => by
        refine ⟨hlen, .slice (some ⟨zb, 0, none⟩) s s, by have hi2 : i < n := hi; simp [hi2], ⟨some ⟨zb, 0, none⟩, s, by rw [bv_len]; simp [DS.new], by rw [bv_len]; simp [DS.new], by unfold maxLen; omega, .inr ⟨zb, 0, rfl, rfl, fun i u hi => ?_⟩⟩⟩
        rw [cell_at (heap_old g6.out _)]
        simpa [DS.new] using hi
      wr := fun _ _ => trivial
      ne := ⟨by omega, by omega, by omega, by omega, by omega, n45⟩
      old := fun k hk => by subst hk; exact ⟨_, _, _, heap_old g6.out _⟩
      n1 := ⟨h1, hn⟩
      s1 := ⟨h2, hs⟩
      l1 := Nat.zero_le _ }
  · rintro k (e | e | e | e) <;> omega
end Go.Proofs.YtimblkkojcbipaaDoor
