/- For every list of byte strings the law SumTells returns true: package sum's two sums are those of the reference; the list stays as it was. -/
import Derived.Test.YtdjcipfaiaodcaaDoorWalkD
import Derived.Lib.LaidTab
namespace Go.Proofs.YtdjcipfaiaodcaaDoor
open Go.RowKit Sums

theorem bstr_size (l : List UInt8) : (bstr l).size = l.length := rfl

/-- What texts makes reads as the strings. -/
theorem texts_read {w : World} {base : Nat} {v : Value} {ls : List (List UInt8)} (h : w.ownsRow base 9 1 v ls.length (ls.map fun l => .string (bstr l))) (hl : ∀ l ∈ ls, l.length ≤ maxLen) :
    StrsV w w.heap.size v (ls.map bstr) := by
  obtain ⟨A, c, rfl, h1, h2, h3⟩ := ownsRow_sl h
  refine ⟨A, c, by rw [List.length_map], by rw [List.length_map]; exact h1, h2, by rw [List.map_map]; exact h3, fun s hs => ?_⟩
  obtain ⟨l, hm, rfl⟩ := List.mem_map.1 hs
  rw [bstr_size]; exact hl l hm

theorem lightB_true {ls : List (List UInt8)} (h : lightB ls = true) : ls.length ≤ 65536 ∧ ∀ l ∈ ls, l.length ≤ maxLen := by
  unfold lightB at h
  rw [Bool.and_eq_true, decide_eq_true_iff, List.all_eq_true] at h
  refine ⟨by omega, fun l hl => ?_⟩
  have := h.2 l hl
  rw [decide_eq_true_iff] at this
  unfold maxLen; omega

theorem Tab.pos {w : World} (h : Tab w) : 0 < w.heap.size := by
  have h0 := h 0 0 rfl
  rcases Nat.eq_zero_or_pos w.heap.size with he | hp
  · unfold World.cell? at h0
    rw [Array.getElem?_eq_none (by simp [he])] at h0
    cases h0
  · exact hp
theorem tabOf {w : World} (h : Lib.TabIs Tryd.prog w "augur/sum.nibbleSums" .u32 [0, 498536548, 997073096, 651767980, 1994146192, 1802195444, 1303535960, 1342533948, 3988292384, 4027552580, 3604390888, 3412177804, 2607071920, 2262029012, 2685067896, 3183342108]) : Tab w := by
  intro i x hx
  have hi : i < tab.length := by
    rcases Nat.lt_or_ge i tab.length with h | h
    · exact h
    · rw [List.getElem?_eq_none h] at hx; cases hx
  have hc := h.cell (g := 0) (by kernel_rfl) i hi
  rw [hc]
  have key : ∀ (i x : Nat), tab[i]? = some x → ([0, 498536548, 997073096, 651767980, 1994146192, 1802195444, 1303535960, 1342533948, 3988292384, 4027552580, 3604390888, 3412177804, 2607071920, 2262029012, 2685067896, 3183342108] : List Int).getD i 0 = (x : Int) := by
    intro i x hx
    have e : ([0, 498536548, 997073096, 651767980, 1994146192, 1802195444, 1303535960, 1342533948, 3988292384, 4027552580, 3604390888, 3412177804, 2607071920, 2262029012, 2685067896, 3183342108] : List Int) = tab.map (fun (n : Nat) => (n : Int)) := rfl
    rw [e, List.getD_eq_getElem?_getD, List.getElem?_map, hx]
    rfl
  rw [key i x hx]

set_option maxHeartbeats 800000 in
theorem tells_any (v : Value) (ls : List (List UInt8)) (w : World) (B : Nat) (hv : RowsV w B v ls) (hT : Tab w) (hB : B ≤ w.heap.size) (h0 : 0 < w.heap.size) :
    Calls Tryd.prog 3 #[v] w fun e w' => e = .returned (.bool true) ∧ Below w.heap.size w w' := by
  replace hT := hide hT
  replace hv := hide hv
  cases hlt : lightB ls
  · replace hlt := hide hlt
    go_enter Tryd.func3, Tryd.ntmps3
    go_wp2_with fail
    refine (known_any _ hT.out h0).mono ?_
    rintro e w1 ⟨rfl, hb1⟩
    go_wp2_with fail
    refine (light_any _ ls _ B (hv.out.below (hb1.mono hB))).mono ?_
    rw [hlt.out]
    rintro e w2 ⟨rfl, rfl⟩
    go_wp2_with fail
    go_ret
    exact ⟨rfl, hb1⟩
  · obtain ⟨hn, hls⟩ := lightB_true hlt
    replace hlt := hide hlt
    replace hls := hide hls
    go_enter Tryd.func3, Tryd.ntmps3
    go_wp2_with fail
    refine (known_any _ hT.out h0).mono ?_
    rintro e w1 ⟨rfl, hb1⟩
    have hv1 := hide (hv.out.below (hb1.mono hB))
    have hT1 := hide (hT.out.below h0 hb1)
    have hs1 := hb1.size
    replace hb1 := hide hb1
    go_wp2_with fail
    refine (light_any _ ls _ B hv1.out).mono ?_
    rw [hlt.out]
    rintro e w2 ⟨rfl, rfl⟩
    go_wp2_with fail
    refine (crc_any _ ls _ B hv1.out hT1.out).mono ?_
    rintro e w2 ⟨rfl, rfl⟩
    go_wp2_with fail
    refine (refCrc_any _ ls _ B hv1.out).mono ?_
    rintro e w2 ⟨rfl, rfl⟩
    go_wp2_with fail
    refine (texts_any _ ls _ B (by omega) hv1.out hn).mono ?_
    rintro e w2 ⟨v2, rfl, hown2, hb2⟩
    have hr2 := hide (texts_read hown2 hls.out)
    have hv2 := hide (hv1.out.below (hb2.mono (by omega)))
    have hs2 := hb2.size
    replace hb2 := hide hb2
    clear hown2
    go_wp2_with fail
    refine (print_any _ _ _ _ hr2.out).mono ?_
    rintro e w3 ⟨rfl, rfl⟩
    go_wp2_with fail
    refine (texts_any _ ls _ B (by omega) hv2.out hn).mono ?_
    rintro e w3 ⟨v3, rfl, hown3, hb3⟩
    have hr3 := hide (texts_read hown3 hls.out)
    replace hb3 := hide hb3
    clear hown3
    go_wp2_with fail
    refine (refPrint_any _ _ _ _ hr3.out).mono ?_
    rintro e w4 ⟨rfl, rfl⟩
    go_wp2_with fail
    go_ret
    exact ⟨rfl, hb1.out.trans ((hb2.out.trans (hb3.out.mono (by omega))).mono (by omega))⟩
end Go.Proofs.YtdjcipfaiaodcaaDoor
