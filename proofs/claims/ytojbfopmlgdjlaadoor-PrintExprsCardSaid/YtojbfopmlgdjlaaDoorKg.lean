/- print.Globals of cells alone. -/
import Derived.Test.YtojbfopmlgdjlaaDoorKf
namespace Go.Proofs.YtojbfopmlgdjlaaDoor
open Go Go.RowKit

def cellT (x : List UInt8) : List UInt8 := [99, 101, 108, 108, 32] ++ x ++ [59, 10]
def cellsT (xs : List (List UInt8)) : List UInt8 := (xs.map cellT).flatten
theorem cellsT_len (xs : List (List UInt8)) : (cellsT xs).length = xs.flatten.length + 7 * xs.length := by
  induction xs with
  | nil => rfl
  | cons x r ih =>
    have : cellsT (x :: r) = cellT x ++ cellsT r := rfl
    rw [this, List.length_append, ih]
    simp [cellT]
    omega
theorem cellsT_next {xs : List (List UInt8)} {k : Nat} (hk : k < xs.length) : cellsT (xs.take (k + 1)) = cellsT (xs.take k) ++ cellT xs[k] := by
  unfold cellsT
  rw [List.take_succ_eq_append_getElem hk, List.map_append, List.flatten_append]
  congr 1
  simp
set_option maxRecDepth 100000 in
set_option maxHeartbeats 1600000 in
theorem printCells (xs : List (List UInt8)) (A : Option Addr) (c : Nat) (w : World) (hx : ArgV w (· < w.heap.size) (.slice A xs.length c) (strL xs)) (hne : xs ≠ []) (hl : xs.flatten.length + 7 * xs.length ≤ 1000000) :
    Calls Tryd.prog 18 #[.agg #[.slice A xs.length c, .slice none 0 0]] w fun r w' => r = .returned (.string (strB (cellsT xs))) ∧ Below w.heap.size w w' := by
  have hlen : xs.length ≤ 1000000 := by omega
  obtain ⟨oF, hoF⟩ : ∃ o, o = Obj.cells #[.slice A xs.length c, .slice none 0 0] 53 (0, 0) := ⟨_, rfl⟩
  obtain ⟨oP, hoP⟩ : ∃ o, o = Obj.cells #[.pointer none, .slice none 0 0, .int .i64 0, .bool false] 61 (0, 0) := ⟨_, rfl⟩
  have hB0 : Below w.heap.size w (w.alloc oF) := (Below.refl _ w).alloc (Nat.le_refl _) _
  have hB1 : Below (w.alloc oF).heap.size (w.alloc oF) ((w.alloc oF).alloc oP) := (Below.refl _ _).alloc (Nat.le_refl _) _
  have hz : (w.alloc oF).heap.size = w.heap.size + 1 := new_size _ _
  have hF0 := heap_old (heap_new w oF) oP
  have hn := Prn.new (w.alloc oF)
  rw [← hoP] at hn
  have hz2 : ((w.alloc oF).alloc oP).heap.size = w.heap.size + 1 + 1 := by rw [new_size, hz]
  rw [hz] at hn
  have hF1 : ∀ w', Below (w.heap.size + 1) ((w.alloc oF).alloc oP) w' → w'.heap[w.heap.size]? = some oF := fun w' hb => (hb.block _ (by omega)).trans hF0
  have hBB : Below w.heap.size w ((w.alloc oF).alloc oP) := hB0.trans (hB1.mono (by omega))
  have hx1 := hide (fun w' (hb : Below w.heap.size w w') => hx.upd (F := (w.heap.size ≤ ·)) ⟨hb.os, hb.tape, hb.output, hb.size, fun k _ hn => hb.block k (by omega)⟩ fun k h1 h2 => by omega)
  subst hoF
  have c0 : World.cell? _ ⟨w.heap.size, 0, none⟩ = some (.slice A xs.length c) := (cell_at hF0 0).trans rfl
  obtain ⟨T, hT⟩ : ∃ T, T = cellsT xs := ⟨_, rfl⟩
  rw [← hT]
  replace hT := hide hT
  replace hF1 := hide hF1
  replace hn := hide hn
  replace hz := hide hz
  subst hoP
  replace hz2 := hide hz2
  replace hBB := hide hBB
  clear hF0 hB0 hB1 hx
  go_enter Tryd.func18, Tryd.ntmps18
  go_wp2_with fail
  obtain ⟨W0, hW0⟩ : ∃ W, W = ((w.alloc (Obj.cells #[.slice A xs.length c, .slice none 0 0] 53 (0, 0))).alloc (Obj.cells #[.pointer none, .slice none 0 0, .int .i64 0, .bool false] 61 (0, 0))) := ⟨_, rfl⟩
  clear c0
  rw [← hW0] at hF1 hn hz2 hBB
  rw [← hW0]
  replace hW0 := hide hW0
  go_loopw [11] (fun i wr => ∃ k : Nat, k ≤ xs.length ∧ i = .int .i64 k ∧ PrO W0 (w.heap.size + 1) (w.heap.size + 1) (.slice none 0 0) (cellsT (xs.take k)) 0 false wr) (fun i _ => xs.length - (RowKit.intOf i).toNat)
  case atStart => exact ⟨0, Nat.zero_le _, rfl, PrO.of hn.out⟩
  case round =>
    obtain ⟨k, hk, rfl, v1, hm, h1⟩ := hrel
    by_cases hlt : k < xs.length
    · have hlt' : (k : Int) < (xs.length : Int) := by omega
      have hnx := cellsT_next hlt
      have hb1 := hm.below hn.out (by rw [hz2.out]; omega)
      have hs1 : w.heap.size + 1 ≤ wr.heap.size := Nat.le_trans (by rw [hz2.out]; omega) hm.upd.size
      have hxw := hx1.out wr (hBB.out.trans (hb1.mono (by omega)))
      obtain ⟨b1, o1, rfl, -, cx⟩ := str_get hxw hlt
      have hLk : (cellsT (xs.take (k + 1))).length ≤ 1000000 := by
        rw [cellsT_len]
        have e1 : (xs.take (k + 1)).flatten.length ≤ xs.flatten.length := by
          conv => rhs; rw [← List.take_append_drop (k + 1) xs]
          rw [List.flatten_append, List.length_append]
          omega
        have e2 : (xs.take (k + 1)).length ≤ xs.length := by rw [List.length_take]; omega
        omega
      rw [hnx, List.length_append] at hLk
      have hcl : (cellT xs[k]).length = xs[k].length + 7 := by simp [cellT]
      have hP := put_new [[99, 101, 108, 108, 32], xs[k], [59]] (by simp) (by simp) wr _ _ 0 v1 _ false h1 hs1 (by omega) (by simp; omega)
      rw [show putT (cellsT (xs.take k)) 0 false ([[99, 101, 108, 108, 32], xs[k], [59]] : List (List UInt8)).flatten = cellsT (xs.take k) ++ ([99, 101, 108, 108, 32] ++ xs[k] ++ [59]) by simp [putT, tabsL, Lib.repeatL]] at hP
      have hq : cellsT (xs.take k) ++ ([99, 101, 108, 108, 32] ++ xs[k] ++ [59]) ++ [10] = cellsT (xs.take (k + 1)) := by rw [hnx]; simp [cellT]
      have hE := hide (fun w1 v (h : Prn w1 (w.heap.size + 1) (w.heap.size + 1) v (cellsT (xs.take k) ++ ([99, 101, 108, 108, 32] ++ xs[k] ++ [59])) 0 true) (hs : w.heap.size + 1 ≤ w1.heap.size) => endL_any w1 _ _ 0 v _ true h hs (by simp; omega))
      rw [hq] at hE
      obtain ⟨T2, hT2⟩ : ∃ T2, T2 = cellsT (xs.take (k + 1)) := ⟨_, rfl⟩
      rw [← hT2] at hE hq
      replace hT2 := hide hT2
      generalize cellsT (xs.take k) ++ ([99, 101, 108, 108, 32] ++ xs[k] ++ [59]) = T1 at *
      generalize xs[k] = xk at *
      replace hP := hide hP
      replace hm := hide hm
      replace hq := hide hq
      replace hnx := hide hnx
      clear h1 hxw hLk hcl hb1
      go_wp2_with fail
      refine hP.out.mono ?_
      rintro r w1 ⟨rfl, v2, hm2, h2⟩
      have hm3 := hide (hm.out.trans hm2)
      have hE2 := hide (hE.out w1 v2 h2 (Nat.le_trans hs1 hm2.upd.size))
      clear hm2 h2
      go_wp2_with fail
      refine hE2.out.mono ?_
      rintro r w2 ⟨rfl, v3, hm4, h3⟩
      have hm5 := hide (hm3.out.trans hm4)
      replace h3 := hide h3
      clear hm4
      go_wp2_with fail
      go_round
      case rel => exact ⟨k + 1, hlt, by go_num, v3, hm5.out, by rw [← hT2.out]; exact h3.out⟩
      case measure => simp [RowKit.intOf]; omega
    · obtain rfl : k = xs.length := by omega
      have hlt' : ¬ (xs.length : Int) < (xs.length : Int) := by omega
      have ht : xs.take xs.length = xs := List.take_length
      rw [ht, ← hT.out] at h1
      have hb1 := hm.below hn.out (by rw [hz2.out]; omega)
      have c1 : wr.cell? ⟨w.heap.size, 1, none⟩ = some (.slice none 0 0) := (cell_at (hF1.out _ hb1) 1).trans rfl
      have hTne : T ≠ [] := by
        rw [hT.out]
        intro e
        have := cellsT_len xs
        rw [e] at this
        cases xs with
        | nil => exact hne rfl
        | cons _ _ => simp at this
      have hTx := hide (text_any wr _ _ _ _ _ _ h1 hTne)
      have hb2 := hide (hBB.out.trans (hb1.mono (by omega)))
      clear hm h1 hb1
      go_wp2_with fail
      go_loopw [25] (fun i wr2 => i = .int .i64 0 ∧ wr2 = wr) (fun _ _ => 0)
      case atStart => exact ⟨rfl, rfl⟩
      case round =>
        obtain ⟨rfl, rfl⟩ := hrel
        go_wp2_with fail
        refine hTx.out.mono ?_
        rintro r w6 ⟨rfl, hb6⟩
        have hb7 := hide (hb2.out.trans (hb6.mono (by omega)))
        clear hb6
        go_wp2_with fail
        go_ret
        exact ⟨rfl, hb7.out⟩
end Go.Proofs.YtojbfopmlgdjlaaDoor
