/- Walks of the statements' helps: light, texts, known. -/
import Derived.Test.YtdjcipfaiaodcaaDoorWalkB
import Derived.Test.YtdjcipfaiaodcaaDoorWalkC
import Derived.Lib.SmallJoins
namespace Go.Proofs.YtdjcipfaiaodcaaDoor
open Go.RowKit Sums

def lightB (ls : List (List UInt8)) : Bool := decide (ls.length ≤ 20) && ls.all fun l => decide (l.length ≤ 300)

set_option maxHeartbeats 400000 in
theorem light_any (v : Value) (ls : List (List UInt8)) (w : World) (B : Nat) (hv : RowsV w B v ls) :
    Calls Tryd.prog 8 #[v] w fun e w' => e = .returned (.bool (lightB ls)) ∧ w = w' := by
  obtain ⟨A, cap, vs, rfl, h1, h2, hs, hvs, hl⟩ := hv
  unfold maxLen at h2
  replace hvs := hide hvs
  replace hl := hide hl
  by_cases h20 : ls.length ≤ 20
  · go_enter Tryd.func8, Tryd.ntmps8
    go_wp2
    go_loop [3] (fun i => ∃ k : Nat, k ≤ ls.length ∧ i = .int .i64 k ∧ (ls.take k).all (fun l => decide (l.length ≤ 300)) = true) (fun i => ls.length - (intOf i).toNat)
    case atStart => exact ⟨0, Nat.zero_le _, rfl, rfl⟩
    case round =>
      obtain ⟨k, hk, rfl, hall⟩ := hrel
      by_cases hlt : k < ls.length
      · have hkv : k < vs.length := by rw [hvs.out]; exact hlt
        obtain ⟨b, o, rfl, _, hcell⟩ := hs.get (List.getElem?_eq_getElem hkv)
        have hrow := hl.out k _ _ (List.getElem?_eq_getElem hkv) (List.getElem?_eq_getElem hlt)
        have hmem : ls[k] ∈ ls := List.getElem_mem hlt
        have hsn : ls.take (k + 1) = ls.take k ++ [ls[k]] := List.take_succ_eq_append_getElem hlt
        generalize ls[k] = l at *
        obtain ⟨A2, cap2, hv2, h3, h4, hs2⟩ := hrow
        unfold maxLen at h4
        rw [hv2] at hcell
        clear hv2
        by_cases h300 : l.length ≤ 300
        · have hall2 := hide (show (ls.take (k + 1)).all (fun l => decide (l.length ≤ 300)) = true by rw [hsn, List.all_append, hall]; simp [h300])
          clear hall hsn
          go_wp2
          go_round
          case rel => exact ⟨k + 1, by omega, by go_num, hall2.out⟩
          case measure => simp [intOf]; omega
        · have hno := hide (show lightB ls = false by
            unfold lightB
            rw [show (ls.all fun l => decide (l.length ≤ 300)) = false by
              rw [List.all_eq_false]; exact ⟨l, hmem, by simpa using h300⟩]
            simp)
          clear hall hsn
          go_wp2
          go_ret
          exact ⟨by rw [hno.out]; rfl, rfl⟩
      · obtain rfl : k = ls.length := by omega
        have hyes := hide (show lightB ls = true by
          rw [List.take_of_length_le (Nat.le_refl _)] at hall
          unfold lightB; rw [hall]; simp [h20])
        clear hall
        go_wp2
        go_ret
        exact ⟨by rw [hyes.out]; rfl, rfl⟩
  · have hno := hide (show lightB ls = false by unfold lightB; simp [h20])
    go_enter Tryd.func8, Tryd.ntmps8
    go_wp2
    go_ret
    exact ⟨by rw [hno.out]; rfl, rfl⟩

def bstr (l : List UInt8) : ByteArray := ⟨l.toArray⟩
theorem string_info : (Tryd.prog.info? 9).map (fun i => (i.zero, i.size, i.bytes)) = some (some (.string .empty), 1, 16) := by kernel_rfl

set_option maxHeartbeats 800000 in
theorem texts_any (v : Value) (ls : List (List UInt8)) (w : World) (B : Nat) (hB : B ≤ w.heap.size) (hv : RowsV w B v ls) (hn : ls.length ≤ 65536) :
    Calls Tryd.prog 12 #[v] w fun e w' => ∃ v', e = .returned v' ∧ w'.ownsRow w.heap.size 9 1 v' ls.length (ls.map fun l => .string (bstr l)) ∧ Below w.heap.size w w' := by
  obtain ⟨A, cap, vs, rfl, h1, h2, hs, hvs, hl⟩ := hv
  unfold maxLen at h2
  replace hvs := hide hvs
  replace hl := hide hl
  obtain ⟨i0, hi, hz0, hz1, hz2⟩ := info_parts string_info
  replace hi := hide hi
  replace hz0 := hide hz0
  replace hz1 := hide hz1
  replace hz2 := hide hz2
  go_enter Tryd.func12, Tryd.ntmps12
  go_wp2
  go_loopw [3, 4] (fun x i wr => ∃ k : Nat, k ≤ ls.length ∧ i = .int .i64 k ∧ wr.ownsRow w.heap.size 9 1 x k ((ls.take k).map fun l => .string (bstr l)) ∧ Below w.heap.size w wr) (fun _ i _ => ls.length - (intOf i).toNat)
  case atStart => exact ⟨0, Nat.zero_le _, rfl, World.ownsRow_nil _ _ _ _, Below.refl _ _⟩
  case round =>
    obtain ⟨k, hk, rfl, hown, hbel⟩ := hrel
    by_cases hlt : k < ls.length
    · have hkv : k < vs.length := by rw [hvs.out]; exact hlt
      obtain ⟨b, o, rfl, hbB, hcell⟩ := (hs.below (hbel.mono hB)).get (List.getElem?_eq_getElem hkv)
      have hrow := (hl.out k _ _ (List.getElem?_eq_getElem hkv) (List.getElem?_eq_getElem hlt)).below (hbel.mono hB)
      have hcv := hrow.string (P := Tryd.prog) Tryd.underlying33 Tryd.underlying5 Tryd.underlying9
      have hsn : Hid (ls.take (k + 1) = ls.take k ++ [ls[k]]) := List.take_succ_eq_append_getElem hlt
      clear hrow
      generalize ls[k] = l at *
      generalize vs[k] = u at *
      replace hown := hide hown
      go_wp2_with (at_builtin; refine wpList_append_own _ rfl _ _ 30 rfl w.heap.size 9 i0 (.string .empty) 1 16 Tryd.underlying30 hi.out hz0.out hz1.out hz2.out rfl (by decide) _ k _ rfl (hown.out.alloc _) ⟨wr.heap.size, 0, none⟩ 1 1 [.string (bstr l)] rfl rfl (cell_one_new _ _ _) (by simp [Value.oneCell']) (by unfold maxLen; omega) (by omega) (by have := hbel.size; simp; omega) ?_; intro v1 w1 hown1 hg1 hnn; have H := hide (And.intro hown1 hg1); clear hown1 hg1 hnn)
      go_roundw
      case rel =>
        obtain ⟨h3, h4⟩ := H.out
        refine ⟨k + 1, by omega, by go_num, ?_, ?_⟩
        · rw [hsn.out, List.map_append]; exact h3
        · exact (hbel.alloc hbel.size _).grown h4 (by have := hbel.size; simp; omega) (fun g hg => (hown.out.lt g hg).1)
      case measure => simp [intOf]; omega
    · obtain rfl : k = ls.length := by omega
      have H := hide (And.intro hown hbel)
      clear hown hbel
      go_wp2
      go_ret
      obtain ⟨h1, h2⟩ := H.out
      rw [List.take_of_length_le (Nat.le_refl _)] at h1
      exact ⟨_, rfl, h1, h2⟩

theorem crc_known : crc [[49, 50, 51, 52, 53], [54, 55, 56, 57]] = 3421780262 := by decide +kernel
theorem print_known : prints 14695981039346656037 [] = 14695981039346656037 := rfl
theorem print_a_b : prints 14695981039346656037 [⟨#[97]⟩, ⟨#[98]⟩] = 17169659217789386460 := by decide +kernel
theorem print_ab : prints 14695981039346656037 [⟨#[97, 98]⟩] = 14399273521368734104 := by decide +kernel

set_option maxHeartbeats 400000 in
theorem known_any (w : World) (hT : Tab w) (hB : 0 < w.heap.size) :
    Calls Tryd.prog 7 #[] w fun e w' => e = .returned (.bool true) ∧ Below w.heap.size w w' := by
  replace hT := hide hT
  have hcv := fun (W : World) (C : Array Value) (n c g : Nat) (hg : g = W.heap.size) => Joins.run_convert_bytes_const_at (P := Tryd.prog) W 33 5 C n c g hg Tryd.underlying33 Tryd.underlying5
  go_enter Tryd.func7, Tryd.ntmps7
  go_wp2_with fail
  refine (crc_any _ [[49, 50, 51, 52, 53], [54, 55, 56, 57]] _ (w.heap.size + 3) ?_ ?_).mono ?_
  · refine RowsV.two _ _ _ _ _ _ _ _ _ (by simp) (by omega) ?_ ?_
    · refine BytesV.more (B := w.heap.size + 1) ?_ (by simp)
      refine BytesV.alloc ?_ (by simp) _
      exact BytesV.new _ _ _ _ _ _ _ _ _ rfl (by omega) rfl rfl rfl (by decide)
    · exact BytesV.new _ _ _ _ _ _ _ _ _ (by simp) (by simp) rfl rfl rfl (by decide)
  · exact hT.out.below hB (by go_grown)
  rw [crc_known]
  rintro e w' ⟨rfl, rfl⟩
  go_wp2_with fail
  refine (print_any _ [] _ _ (StrsV.nil_ _ 0)).mono ?_
  rw [print_known]
  rintro e w' ⟨rfl, rfl⟩
  go_wp2_with fail
  refine (print_any _ [⟨#[97]⟩, ⟨#[98]⟩] _ (w.heap.size + 4) ?_).mono ?_
  · exact StrsV.new _ _ _ _ _ _ _ _ _ (by simp) (by omega) rfl rfl rfl (by decide) (by decide)
  rw [print_a_b]
  rintro e w' ⟨rfl, rfl⟩
  go_wp2_with fail
  refine (print_any _ [⟨#[97, 98]⟩] _ (w.heap.size + 5) ?_).mono ?_
  · exact StrsV.new _ _ _ _ _ _ _ _ _ (by simp) (by omega) rfl rfl rfl (by decide) (by decide)
  rw [print_ab]
  rintro e w' ⟨rfl, rfl⟩
  go_wp2_with fail
  go_ret
  exact ⟨rfl, by go_grown⟩
end Go.Proofs.YtdjcipfaiaodcaaDoor
