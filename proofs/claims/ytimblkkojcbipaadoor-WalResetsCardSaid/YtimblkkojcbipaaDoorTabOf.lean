/- The listed table, as the card's row lays it. -/
import Derived.Test.YtimblkkojcbipaaDoorWalkA
import Derived.Lib.LaidTab
namespace Go.Proofs.YtimblkkojcbipaaDoor
open Go Go.RowKit Sums
theorem Tab.pos {w : World} (h : Tab w) : 0 < w.heap.size := by
  have h0 := h 0 0 rfl
  rcases Nat.eq_zero_or_pos w.heap.size with he | hp
  · unfold World.cell? at h0
    rw [Array.getElem?_eq_none (by simp [he])] at h0
    cases h0
  · exact hp
theorem tabOf {w : World} (h : Lib.TabIs Tryd.prog w "augur/sum.nibbleSums" .u32 [0, 498536548, 997073096, 651767980, 1994146192, 1802195444, 1303535960, 1342533948, 3988292384, 4027552580, 3604390888, 3412177804, 2607071920, 2262029012, 2685067896, 3183342108]) : Tab w := by
  intro i x hx
  have hi : i < tab.length := by
    rcases Nat.lt_or_ge i tab.length with h | h
    · exact h
    · rw [List.getElem?_eq_none h] at hx; cases hx
  have hc := h.cell (g := 0) (by kernel_rfl) i hi
  rw [hc]
  have key : ∀ (i x : Nat), tab[i]? = some x → ([0, 498536548, 997073096, 651767980, 1994146192, 1802195444, 1303535960, 1342533948, 3988292384, 4027552580, 3604390888, 3412177804, 2607071920, 2262029012, 2685067896, 3183342108] : List Int).getD i 0 = (x : Int) := by
    intro i x hx
    have e : ([0, 498536548, 997073096, 651767980, 1994146192, 1802195444, 1303535960, 1342533948, 3988292384, 4027552580, 3604390888, 3412177804, 2607071920, 2262029012, 2685067896, 3183342108] : List Int) = tab.map (fun (n : Nat) => (n : Int)) := rfl
    rw [e, List.getD_eq_getElem?_getD, List.getElem?_map, hx]
    rfl
  rw [key i x hx]

end Go.Proofs.YtimblkkojcbipaaDoor
