/- slices.Repeat of one element. -/
import Derived.Test.YtimblkkojcbipaaDoorOwn
import Derived.Laws.CopyOwn
import Derived.Deep.RegionWith
import Derived.Deep.OwnRows
import Derived.Laws.OwnMore
namespace Go.Proofs.YtimblkkojcbipaaDoor
open Go Go.RowKit

theorem and_low (n : Nat) (h : n < 4294967296) : bits .and .u64 (n : Int) 4294967295 = (n : Int) := by
  have := u64_and_nat n 4294967295 (by omega) (by decide)
  rw [show ((4294967295 : Nat) : Int) = 4294967295 from rfl] at this
  rw [this]
  congr 1
  have : (4294967295 : Nat) = 2 ^ 32 - 1 := by decide
  rw [this, Nat.and_two_pow_sub_one_eq_mod]
  exact Nat.mod_eq_of_lt h
theorem mul64_any (w : World) (n : Nat) (h : n ≤ 4096) : Calls Tryd.prog 82 #[.int .u64 1, .int .u64 (n : Int)] w fun e w' => e = .returned (.tuple #[.int .u64 0, .int .u64 (n : Int)]) ∧ w = w' := by
  have h1 := and_low n (by omega)
  have h2 := and_low 1 (by omega)
  have h0 := and_low 0 (by omega)
  have h3 : (n : Int) / 4294967296 = 0 := by omega
  simp only [Int.cast_ofNat_Int] at h2 h0
  go_enter Tryd.func82, Tryd.ntmps82
  go_wp2_with fail
  go_ret2
  exact ⟨rfl, rfl⟩
theorem mul_any (w : World) (n : Nat) (h : n ≤ 4096) : Calls Tryd.prog 65 #[.int .u64 1, .int .u64 (n : Int)] w fun e w' => e = .returned (.tuple #[.int .u64 0, .int .u64 (n : Int)]) ∧ w = w' := by
  have hm := mul64_any w n h
  go_enter Tryd.func65, Tryd.ntmps65
  go_wp2_with fail
  refine hm.mono ?_
  rintro e w' ⟨rfl, rfl⟩
  go_wp2_with fail
  go_ret2
  exact ⟨rfl, rfl⟩
theorem rows_info : (Tryd.prog.info? 34).map (fun i => (i.zero, i.size, i.bytes)) = some (some (.slice none 0 0), 1, 24) := by kernel_rfl
theorem rows_size : (Tryd.prog.info? 34).map (·.size) = some 1 := by kernel_rfl
/-- k of v, and what is left of n. -/
def fillV (v : Value) (k n : Nat) : List Value := List.replicate k v ++ List.replicate (n - k) (.slice none 0 0)
theorem splice_fill (v : Value) (k m n : Nat) : splice (fillV v k n) k (List.replicate m v) = fillV v (k + m) n := by
  unfold splice fillV
  have e1 : (List.replicate k v ++ List.replicate (n - k) (Value.slice none 0 0)).take k = List.replicate k v := by
    rw [List.take_append_of_le_length (by simp)]; simp
  have e2 : (List.replicate k v ++ List.replicate (n - k) (Value.slice none 0 0)).drop (k + (List.replicate m v).length) = List.replicate (n - (k + m)) (Value.slice none 0 0) := by
    rw [List.drop_append]
    simp only [List.length_replicate, List.drop_replicate]
    rw [show k - (k + m) = 0 by omega, show k + m - k = m by omega, show n - k - m = n - (k + m) by omega]
    simp
  rw [e1, e2, ← List.append_assoc, List.replicate_append_replicate]
theorem fill_len (v : Value) (k n : Nat) (h : k ≤ n) : (fillV v k n).length = n := by simp [fillV]; omega
theorem fill_get (v : Value) (k n i : Nat) (h : i < k) : (fillV v k n)[i]? = some v := by
  unfold fillV
  rw [List.getElem?_append_left (by simpa using h)]
  simp [h]
theorem toList_madeCells_one_eq (z : Value) (n : Nat) : (List.replicate n z).toArray = madeCells #[z] n := by rw [← toList_madeCells_one]
theorem oneSlice (v : Value) (h : ∃ a n c, v = .slice a n c) : v.oneCell' = true := by obtain ⟨a, n, c, rfl⟩ := h; rfl

set_option maxRecDepth 100000 in
theorem repeat_any {w : World} {xb n : Nat} {v : Value} (hc : w.cell? ⟨xb, 0, none⟩ = some v) (hv : ∃ a n c, v = .slice a n c) (h1 : 1 ≤ n) (hn : n ≤ 4096) :
    Calls Tryd.prog 42 #[.slice (some ⟨xb, 0, none⟩) 1 1, .int .i64 n] w fun e w' => ∃ g, e = .returned (.slice (some ⟨g, 0, none⟩) n n) ∧ w.heap.size ≤ g ∧ w'.heap[g]? = some (.cells (List.replicate n v).toArray 34) ∧ Below w.heap.size w w' := by
  have hm := mul_any w n hn
  have hmk := run_make_row' (P := Tryd.prog) 28 34 (.slice none 0 0) 24 Tryd.underlying28 rows_info rfl .i64 .i64 n (by omega) (by omega)
  have hb := World.block_lt_of_cell? _ _ hc
  go_enter Tryd.func42, Tryd.ntmps42
  go_wp2_with fail
  refine hm.mono ?_
  rintro e w' ⟨rfl, rfl⟩
  go_wp2_with (with_reducible refine wpList_copy_splice rfl (.tmp 31) (.tmp 32) 28 28 rfl 34 Tryd.underlying28 rows_size _ _ _ _ _ _ rfl rfl w.heap.size 0 (fillV v 0 n) 34 ?_ [v] ?_ ?_ ?_ ?_ w.heap.size w ?_ (Nat.le_refl _) ?_)
  · rw [heap_new]
    have e : madeCells #[Value.slice none 0 0] n = (fillV v 0 n).toArray := by rw [← toList_madeCells_one_eq]; simp [fillV]
    rw [e]
  · simp [Nat.min_eq_left h1]
  · intro j u hj
    match j, hj with
    | 0, hj =>
      simp at hj
      subst hj
      exact hc
  · rw [fill_len v 0 n (by omega)]; simpa using h1
  · intro u hu
    obtain rfl := List.mem_singleton.1 hu
    exact oneSlice _ hv
  · exact (Below.refl _ _).alloc (Nat.le_refl _) _
  · intro w1 hg1 hb1
    have e1 : splice (fillV v 0 n) 0 [v] = fillV v 1 n := by
      have := splice_fill v 0 1 n
      simpa using this
    rw [e1] at hg1
    clear hm hmk e1
    go_wp2_with fail
    go_loopw [8] (fun x wr => ∃ k : Nat, 1 ≤ k ∧ k ≤ n ∧ x = .int .i64 k ∧ wr.heap[w.heap.size]? = some (.cells (fillV v k n).toArray 34) ∧ Below w.heap.size w wr) (fun x _ => n - (intOf x).toNat)
    case atStart => exact ⟨1, Nat.le_refl _, h1, rfl, hg1.out, hb1⟩
    case round =>
      obtain ⟨k, hk1, hkn, rfl, hg, hB⟩ := hrel
      replace hg := hide hg
      replace hB := hide hB
      replace hg1 := hide hg1
      go_wp2_with fail
      · have hlt : k < n := by omega
        obtain ⟨m, hm⟩ : ∃ m, m = min k (n - k) := ⟨_, rfl⟩
        have hm1 : k + m ≤ n := by omega
        have hm2 : 1 ≤ m := by omega
        have hm3 : m ≤ k := by omega
        replace hm := hide hm
        have hcp := run_copy_row (P := Tryd.prog) wr.drew 28 28 3 34 w.heap.size k (n - k) (n - k) ⟨w.heap.size, 0, none⟩ k n (fillV v k n).toArray 34 (List.replicate m v) Tryd.underlying28 rows_size hg.out (by rw [List.length_replicate]; exact hm.out)
          (fun j u hj => by
            rw [Go.WideShapes.add_plain]
            have hj1 : j < m := by
              rcases Nat.lt_or_ge j m with h | h
              · exact h
              · rw [List.getElem?_eq_none (by simpa using h)] at hj; cases hj
            have hj2 : u = v := by simpa [hj1] using hj.symm
            subst hj2
            have : wr.cell? ⟨w.heap.size, 0 + j, none⟩ = some u := by
              rw [cell_at hg.out]
              simpa using fill_get u k n j (by omega)
            exact this)
          (by simp [fill_len v k n hkn]; exact hm1)
          (fun u hu => by obtain rfl := List.eq_of_mem_replicate hu; exact oneSlice _ hv)
        rw [List.length_replicate, List.append_assoc, show k + m = k + (List.replicate m v).length by simp, show ((fillV v k n).toArray.toList.take k ++ (List.replicate m v ++ (fillV v k n).toArray.toList.drop (k + (List.replicate m v).length))).toArray = (fillV v (k + m) n).toArray by rw [← splice_fill]; rfl] at hcp
        go_region
        go_wp2_with fail
        go_roundw
        case rel => exact ⟨k + m, by omega, hm1, by simp, setRow_heap _ _ _ _ _ _ hg.out, below_setRow (hB.out.drew) (Nat.le_refl _) _⟩
        case measure => simp [intOf]; omega
      · go_ret
        have : k = n := by omega
        subst this
        refine ⟨_, rfl, Nat.le_refl _, by rw [hg.out]; simp [fillV], hB.out⟩
end Go.Proofs.YtimblkkojcbipaaDoor
