/- print.Func of a function that has a name alone; print.Globals of cells alone. -/
import Derived.Test.YtojbfopmlgdjlaaDoorKc
namespace Go.Proofs.YtojbfopmlgdjlaaDoor
open Go Go.RowKit

set_option maxRecDepth 100000 in
set_option maxHeartbeats 1600000 in
theorem printFunc_nil (nm : List UInt8) (hnm : nm.length ≤ 1000) (w : World) :
    Calls Tryd.prog 19 #[.agg #[.string (strB nm), .slice none 0 0, .slice none 0 0, .slice none 0 0]] w fun r w' => r = .returned (.string (strB ([102, 110, 32] ++ nm ++ [40, 41, 32, 123, 10, 125, 10]))) ∧ Below w.heap.size w w' := by
  obtain ⟨oF, hoF⟩ : ∃ o, o = Obj.cells #[.string (strB nm), .slice none 0 0, .slice none 0 0, .slice none 0 0] 36 (0, 0) := ⟨_, rfl⟩
  obtain ⟨oP, hoP⟩ : ∃ o, o = Obj.cells #[.pointer none, .slice none 0 0, .int .i64 0, .bool false] 61 (0, 0) := ⟨_, rfl⟩
  have hB0 : Below w.heap.size w (w.alloc oF) := (Below.refl _ w).alloc (Nat.le_refl _) _
  have hB1 : Below (w.alloc oF).heap.size (w.alloc oF) ((w.alloc oF).alloc oP) := (Below.refl _ _).alloc (Nat.le_refl _) _
  have hz : (w.alloc oF).heap.size = w.heap.size + 1 := new_size _ _
  have hF0 := heap_old (heap_new w oF) oP
  have hn := Prn.new (w.alloc oF)
  rw [← hoP] at hn
  have hz2 : ((w.alloc oF).alloc oP).heap.size = w.heap.size + 1 + 1 := by rw [new_size, hz]
  rw [hz] at hn
  have hP1 := put_new [[102, 110, 32], nm, [40]] (by simp) (by simp) _ _ _ 0 _ [] false hn (by rw [hz2]; omega) (by omega) (by simp; omega)
  rw [hz2] at hP1
  rw [show putT [] 0 false ([[102, 110, 32], nm, [40]] : List (List UInt8)).flatten = [102, 110, 32] ++ nm ++ [40] by simp [putT, tabsL, Lib.repeatL]] at hP1
  have hlP : ([102, 110, 32] ++ nm ++ [40]).length ≤ 1004 := by simp; omega
  have hfin : [102, 110, 32] ++ nm ++ [40, 41, 32, 123, 10, 125, 10] = ([102, 110, 32] ++ nm ++ [40]) ++ [41, 32, 123, 10, 125, 10] := by simp
  rw [hfin]
  generalize [102, 110, 32] ++ nm ++ [40] = T1 at *
  have hF0w := hide hF0
  have hF1 : ∀ w', Below (w.heap.size + 1) ((w.alloc oF).alloc oP) w' → w'.heap[w.heap.size]? = some oF := fun w' hb => (hb.block _ (by omega)).trans hF0
  subst hoF
  have c0 : World.cell? _ ⟨w.heap.size, 0, none⟩ = _ := (cell_at hF0 0)
  simp at c0
  replace hP1 := hide hP1
  replace hF1 := hide hF1
  replace hn := hide hn
  replace hz := hide hz
  subst hoP
  replace hz2 := hide hz2
  replace hB0 := hide hB0
  replace hB1 := hide hB1
  clear hfin hF0
  go_enter Tryd.func19, Tryd.ntmps19
  go_wp2_with fail
  refine hP1.out.mono ?_
  rintro r w1 ⟨rfl, v1, hm1, h1⟩
  have hb1 := hm1.below hn.out (by rw [hz2.out]; omega)
  have hs1 : w.heap.size + 1 ≤ w1.heap.size := Nat.le_trans (by rw [hz2.out]; omega) hb1.size
  have c1 : w1.cell? ⟨w.heap.size, 1, none⟩ = some (.slice none 0 0) := (cell_at (hF1.out _ hb1) 1).trans rfl
  have hP2 := hide (put_new [[41, 32]] (by decide) (by decide) w1 _ _ 0 v1 _ true h1 hs1 (by omega) (by simp; omega))
  replace hm1 := hide hm1
  replace hb1 := hide hb1
  clear h1 c0
  go_wp2_with fail
  refine (params_nil w1 _).mono ?_
  rintro r w2 ⟨rfl, rfl⟩
  go_wp2_with fail
  refine hP2.out.mono ?_
  rintro r w2 ⟨rfl, v2, hm2, h2⟩
  have hm3 := hide (hm1.out.trans hm2)
  rw [show putT T1 0 true ([[41, 32]] : List (List UInt8)).flatten = T1 ++ [41, 32] by simp [putT]] at h2
  have hs2 : w.heap.size + 1 ≤ w2.heap.size := Nat.le_trans hs1 hm2.upd.size
  have hO := hide (open6_any w2 _ _ 0 v2 _ true h2 hs2 (by omega) (by simp; omega))
  clear hm2 h2 c1
  go_wp2_with fail
  refine hO.out.mono ?_
  rintro r w3 ⟨rfl, v3, hm4, h3⟩
  have hm5 := hide (hm3.out.trans hm4)
  rw [show putT (T1 ++ [41, 32]) 0 true [123] ++ [10] = T1 ++ [41, 32, 123, 10] by simp [putT]] at h3
  have hs3 : w.heap.size + 1 ≤ w3.heap.size := Nat.le_trans hs2 hm4.upd.size
  have hb3 := hm5.out.below hn.out (by rw [hz2.out]; omega)
  have c2 : w3.cell? ⟨w.heap.size, 2, none⟩ = some (.slice none 0 0) := (cell_at (hF1.out _ hb3) 2).trans rfl
  have c3 : w3.cell? ⟨w.heap.size, 3, none⟩ = some (.slice none 0 0) := (cell_at (hF1.out _ hb3) 3).trans rfl
  have hC := hide (close6_any w3 _ _ 0 v3 _ false h3 hs3 (by omega) (by simp; omega))
  clear hm4 h3 hb3
  go_wp2_with fail
  refine (locals_nil w3 _).mono ?_
  rintro r w4 ⟨rfl, rfl⟩
  go_wp2_with fail
  refine (stmts_nil w3 _).mono ?_
  rintro r w4 ⟨rfl, rfl⟩
  clear c2 c3
  go_wp2_with fail
  refine hC.out.mono ?_
  rintro r w4 ⟨rfl, v4, hm6, h4⟩
  have hm7 := hide (hm5.out.trans hm6)
  rw [show putT (T1 ++ [41, 32, 123, 10]) 0 false [125] = T1 ++ [41, 32, 123, 10, 125] by simp [putT, tabsL, Lib.repeatL]] at h4
  have hs4 : w.heap.size + 1 ≤ w4.heap.size := Nat.le_trans hs3 hm6.upd.size
  have hE := hide (endL_any w4 _ _ 0 v4 _ true h4 hs4 (by simp; omega))
  clear hm6 h4
  go_wp2_with fail
  refine hE.out.mono ?_
  rintro r w5 ⟨rfl, v5, hm8, h5⟩
  have hm9 := hm7.out.trans hm8
  have hb5 := hide ((hB0.out.trans (hB1.out.mono (by rw [hz.out]; omega))).trans ((hm9.below hn.out (by rw [hz2.out]; omega)).mono (by omega)))
  rw [show T1 ++ [41, 32, 123, 10, 125] ++ [10] = T1 ++ [41, 32, 123, 10, 125, 10] by simp] at h5
  have hT := hide (text_any w5 _ _ _ _ _ _ h5 (by simp))
  clear hm8 h5 hm9
  go_wp2_with fail
  refine hT.out.mono ?_
  rintro r w6 ⟨rfl, hb6⟩
  have hb7 := hide (hb5.out.trans (hb6.mono (by omega)))
  clear hb6
  go_wp2_with fail
  go_ret
  exact ⟨rfl, hb7.out⟩
end Go.Proofs.YtojbfopmlgdjlaaDoor
