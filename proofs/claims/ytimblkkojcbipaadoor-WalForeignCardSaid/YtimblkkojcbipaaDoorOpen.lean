/- Arguments opened to lists of values: slices of numbers, strings, booleans. -/
import Derived.Test.YtimblkkojcbipaaDoorFrame
import Derived.Test.YtimblkkojcbipaaDoorOwn
import Derived.Deep.Strs
import Derived.Deep.Grids
namespace Go.Proofs.YtimblkkojcbipaaDoor
open Go Go.RowKit Go.ChangeShapes Go.WideShapes Go.ChangeAt Go.Deep
section
variable {H : Type} {enc : TypeId × Value → H} {P : Program} {W : World}
theorem argV_of_at {W : World} {a : Addr} {len cap : Nat} {xs : List Value} (hlen : xs.length = len) (hl : len ≤ cap) (hm : cap ≤ maxLen) (h : ∀ i u, xs[i]? = some u → W.cell? (a.add i) = some u) : ArgV W (· < W.heap.size) (.slice (some a) len cap) xs := by
  subst hlen
  exact ArgV.of_sl (sl_of_at h) hl hm
theorem argV_nil (W : World) (S : Nat → Prop) : ArgV W S (.slice none 0 0) [] := ⟨none, 0, rfl, Nat.le_refl _, Nat.zero_le _, .inl rfl⟩

/-- A slice of numbers that came in. -/
theorem open_numsV {t e : TypeId} {k : IntKind} {base base' : Nat} {spare : Nat → Bool} {held : Bool} {v : Value} {d : DataW H} {p : List MemPlace} (ht : P.underlying t = some (.slice e)) (he : P.underlying e = some (.int k)) (hc : P.cellsOf e = 1)
    (hval : Value.okWide P W .any base' t v) (h : DataW.Trod enc P W base spare held t v d p) : ∃ zs : List Int, ArgV W (· < W.heap.size) v (zs.map fun z : Int => .int k z) ∧ ∀ z ∈ zs, (Lit.int k z).wf = true := by
  obtain ⟨a0, len, cap, rfl⟩ := okWide_slice ht hval
  obtain ⟨fuel, hf⟩ := h
  rcases open_ints ht he hc hf with ⟨hcs, _⟩ | ⟨a, len', cap', zs, hcs, _, hl, hm, hz, _, hcell, hw⟩
  · have : a0 = none ∧ len = 0 ∧ cap = 0 := by simpa [Value.cells] using hcs
    obtain ⟨rfl, rfl, rfl⟩ := this
    exact ⟨[], argV_nil _ _, fun _ h => by cases h⟩
  · have : a0 = some a ∧ len = len' ∧ cap = cap' := by simpa [Value.cells] using hcs
    obtain ⟨rfl, rfl, rfl⟩ := this
    have hlen : len ≤ zs.length := by rw [hz]; split <;> omega
    refine ⟨zs.take len, argV_of_at (by simp; omega) hl hm fun i u hu => ?_, fun z hz' => hw z (List.mem_of_mem_take hz')⟩
    have hi : i < len := by
      rcases Nat.lt_or_ge i len with h | h
      · exact h
      · rw [List.getElem?_eq_none (by simp; omega)] at hu; cases hu
    rw [hcell i (by omega)]
    rw [List.getElem?_map, List.getElem?_take_of_lt hi, List.getElem?_eq_getElem (by omega)] at hu
    rw [List.getD_eq_getElem?_getD, List.getElem?_eq_getElem (by omega)]
    simpa using hu
/-- A slice of uint64s that came in. -/
theorem open_u64sV {t e : TypeId} {base base' : Nat} {spare : Nat → Bool} {held : Bool} {v : Value} {d : DataW H} {p : List MemPlace} (ht : P.underlying t = some (.slice e)) (he : P.underlying e = some (.int .u64)) (hc : P.cellsOf e = 1)
    (hval : Value.okWide P W .any base' t v) (h : DataW.Trod enc P W base spare held t v d p) : ∃ ns : List Nat, ArgV W (· < W.heap.size) v (ns.map fun n : Nat => .int .u64 n) ∧ ∀ n ∈ ns, n < 18446744073709551616 := by
  obtain ⟨zs, hz, hw⟩ := open_numsV ht he hc hval h
  refine ⟨zs.map Int.toNat, ?_, ?_⟩
  · have e : (zs.map Int.toNat).map (fun n : Nat => Value.int .u64 n) = zs.map fun z : Int => .int .u64 z := by
      rw [List.map_map]
      refine List.map_congr_left fun z hz' => ?_
      have := bounds_u64 (hw z hz')
      simp only [Function.comp]
      congr 1; omega
    rw [e]; exact hz
  · intro n hn
    rw [List.mem_map] at hn
    obtain ⟨z, hz', rfl⟩ := hn
    have := bounds_u64 (hw z hz')
    omega
/-- A []string that came in. -/
theorem open_strsV {t e : TypeId} {base base' : Nat} {spare : Nat → Bool} {held : Bool} {v : Value} {d : DataW H} {p : List MemPlace} (ht : P.underlying t = some (.slice e)) (he : P.underlying e = some .string) (hc : P.cellsOf e = 1)
    (hval : Value.okWide P W .any base' t v) (h : DataW.Trod enc P W base spare held t v d p) : ∃ ss : List ByteArray, ArgV W (· < W.heap.size) v (ss.map Value.string) ∧ ∀ s ∈ ss, s.size ≤ maxLen := by
  obtain ⟨a0, len, cap, rfl⟩ := okWide_slice ht hval
  obtain ⟨fuel, hf⟩ := h
  rcases open_strs ht he hc hf with ⟨hcs, _⟩ | ⟨a, len', cap', m, S, hcs, _, hl, hm, hz, _, hcell⟩
  · have : a0 = none ∧ len = 0 ∧ cap = 0 := by simpa [Value.cells] using hcs
    obtain ⟨rfl, rfl, rfl⟩ := this
    exact ⟨[], argV_nil _ _, fun _ h => by cases h⟩
  · have : a0 = some a ∧ len = len' ∧ cap = cap' := by simpa [Value.cells] using hcs
    obtain ⟨rfl, rfl, rfl⟩ := this
    have hlen : len ≤ m := by rw [hz]; split <;> omega
    refine ⟨(List.range len).map S, argV_of_at (by simp) hl hm fun i u hu => ?_, fun z hz' => ?_⟩
    · have hi : i < len := by
        rcases Nat.lt_or_ge i len with h | h
        · exact h
        · rw [List.getElem?_eq_none (by simp; omega)] at hu; cases hu
      rw [(hcell i (by omega)).1]
      simpa [hi] using hu
    · rw [List.mem_map] at hz'
      obtain ⟨i, hi, rfl⟩ := hz'
      rw [List.mem_range] at hi
      exact (hcell i (by omega)).2
/-- A []bool that came in. -/
theorem open_boolsV {t e : TypeId} {base base' : Nat} {held : Bool} {v : Value} {d : DataW H} {p : List MemPlace} (ht : P.underlying t = some (.slice e)) (he : P.underlying e = some .bool) (hc : P.cellsOf e = 1)
    (hval : Value.okWide P W .any base' t v) (h : DataW.Trod enc P W base (fun _ => true) held t v d p) : ∃ bs : List Bool, ArgV W (· < W.heap.size) v (bs.map Value.bool) := by
  obtain ⟨a0, len, cap, rfl⟩ := okWide_slice ht hval
  obtain ⟨fuel, hf⟩ := h
  rcases open_bools ht he hc hf with ⟨hcs, _⟩ | ⟨a, len', cap', B, hcs, _, hl, hm, _, hcell⟩
  · have : a0 = none ∧ len = 0 ∧ cap = 0 := by simpa [Value.cells] using hcs
    obtain ⟨rfl, rfl, rfl⟩ := this
    exact ⟨[], argV_nil _ _⟩
  · have : a0 = some a ∧ len = len' ∧ cap = cap' := by simpa [Value.cells] using hcs
    obtain ⟨rfl, rfl, rfl⟩ := this
    refine ⟨(List.range len).map B, argV_of_at (by simp) hl hm fun i u hu => ?_⟩
    have hi : i < len := by
      rcases Nat.lt_or_ge i len with h | h
      · exact h
      · rw [List.getElem?_eq_none (by simp; omega)] at hu; cases hu
    rw [hcell i (by omega)]
    simpa [hi] using hu
end
end Go.Proofs.YtimblkkojcbipaaDoor
