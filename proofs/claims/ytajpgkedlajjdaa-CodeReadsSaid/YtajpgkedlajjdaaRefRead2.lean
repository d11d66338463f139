/- Walks of the document's reader: integers, texts. -/
import Derived.Test.YtajpgkedlajjdaaRefRead
namespace Go.Proofs.Ytajpgkedlajjdaa
open Go.RowKit

theorem read_num_lt (st : Option (List UInt8)) : (read 0 dnum0 st).1 < 18446744073709551616 := by
  cases st with
  | none => decide
  | some l =>
    unfold read
    rw [Option.bind_some]
    cases h : dnum0 l with
    | none => decide
    | some x => exact dnum_lt l 0 0 x.1 x.2 (by omega) (by simp) h
theorem read_int (st : Option (List UInt8)) : read 0 dint st = (unzig (read 0 dnum0 st).1, (read 0 dnum0 st).2) := by
  cases st with
  | none => rfl
  | some l =>
    unfold read
    rw [Option.bind_some, Option.bind_some]
    unfold dint
    rw [show dnum 0 0 l = dnum0 l from rfl]
    cases dnum0 l with
    | none => rfl
    | some x => rfl

set_option maxRecDepth 100000 in
theorem fInt_any (D m : Nat) (st : Option (List UInt8)) (w : World) (hR : RfS w D m st) :
    Calls Try.prog 49 #[.pointer (some ⟨m, 0, none⟩)] w fun e w' => MetR D m w i64v (read 0 dint st) e w' := by
  have hN := fNum_any D m st w hR
  have hn := read_num_lt st
  rw [read_int]
  generalize read 0 dnum0 st = x at *
  obtain ⟨n, st'⟩ := x
  simp only at hn
  have h1 := u64_and_nat n 1 hn (by decide)
  rw [nat_mask1] at h1
  have h1' : bits .and .u64 (n : Int) 1 = ((n % 2 : Nat) : Int) := h1
  clear h1
  by_cases h2 : n % 2 = 1
  · have hu : -((n : Int) / 2) - 1 = unzig n := by unfold unzig; rw [if_pos h2]; omega
    have hT : (bits .and .u64 (n : Int) 1 == 1) = true := by rw [h1', h2]; rfl
    clear h1'
    replace hu := hide hu
    go_enter Try.func49, Try.ntmps49
    go_wp2_with fail
    refine hN.mono ?_
    rintro e w2 ⟨rfl, hU, hR2⟩
    unfold u64v
    go_wp2_with fail
    go_ret
    refine ⟨?_, hU, hR2⟩
    show Ending.returned (.int .i64 (-((n : Int) / 2) - 1)) = _
    rw [hu.out]; rfl
  · have hu : (n : Int) / 2 = unzig n := by unfold unzig; rw [if_neg h2]; omega
    have hT : (bits .and .u64 (n : Int) 1 == 1) = false := by rw [h1', show n % 2 = 0 by omega]; rfl
    clear h1'
    replace hu := hide hu
    go_enter Try.func49, Try.ntmps49
    go_wp2_with fail
    refine hN.mono ?_
    rintro e w2 ⟨rfl, hU, hR2⟩
    unfold u64v
    go_wp2_with fail
    go_ret
    refine ⟨?_, hU, hR2⟩
    show Ending.returned (.int .i64 ((n : Int) / 2)) = _
    rw [hu.out]; rfl
theorem read_small (st : Option (List UInt8)) : read 0 dsmall st = (if -2147483648 ≤ (read 0 dint st).1 ∧ (read 0 dint st).1 ≤ 2147483647 then read 0 dint st else (0, none)) := by
  cases st with
  | none => rfl
  | some l =>
    unfold read
    rw [Option.bind_some, Option.bind_some]
    unfold dsmall
    cases dint l with
    | none => rfl
    | some x =>
      obtain ⟨a, r⟩ := x
      rw [Option.bind_some]
      simp only
      by_cases h : -2147483648 ≤ a ∧ a ≤ 2147483647
      · rw [if_pos h, if_pos h]
      · rw [if_neg h, if_neg h]
theorem RfS.fail {w : World} {D m : Nat} {st : Option (List UInt8)} (h : RfS w D m st) : RfS (w.setCell ⟨m, 1, none⟩ (.bool true)) D m none := by
  cases st with
  | none => obtain ⟨l, hl⟩ := h; exact ⟨l, hl.fail⟩
  | some l => exact ⟨l, Rf.fail h⟩
theorem RfS.flag {w : World} {D m : Nat} {st : Option (List UInt8)} (h : RfS w D m st) : w.cell? ⟨m, 1, none⟩ = some (.bool st.isNone) ∧ w.frozen? ⟨m, 1, none⟩ = false := by
  cases st with
  | none =>
    obtain ⟨l, hD, v, hh, hb⟩ := h
    exact ⟨by rw [cell_at hh]; rfl, frozen_at hh 1⟩
  | some l =>
    obtain ⟨hD, v, hh, hb⟩ := h
    exact ⟨by rw [cell_at hh]; rfl, frozen_at hh 1⟩

set_option maxRecDepth 100000 in
theorem fSmall_any (D m : Nat) (st : Option (List UInt8)) (w : World) (hR : RfS w D m st) :
    Calls Try.prog 75 #[.pointer (some ⟨m, 0, none⟩)] w fun e w' => MetR D m w i64v (read 0 dsmall st) e w' := by
  have hN := fInt_any D m st w hR
  rw [read_small]
  generalize read 0 dint st = x at *
  obtain ⟨a, st'⟩ := x
  simp only at *
  by_cases h1 : a < -2147483648
  · rw [if_neg (by omega)]
    go_enter Try.func75, Try.ntmps75
    go_wp2_with fail
    refine hN.mono ?_
    rintro e w2 ⟨rfl, hU, hR2⟩
    unfold i64v
    obtain ⟨hc, hf⟩ := RfS.flag hR2
    go_wp2_with fail
    go_ret
    exact ⟨rfl, hU.then (Upd.set _ (F := At m) (a := ⟨m, 1, none⟩) rfl _), RfS.fail hR2⟩
  by_cases h2 : 2147483647 < a
  · rw [if_neg (by omega)]
    go_enter Try.func75, Try.ntmps75
    go_wp2_with fail
    refine hN.mono ?_
    rintro e w2 ⟨rfl, hU, hR2⟩
    unfold i64v
    obtain ⟨hc, hf⟩ := RfS.flag hR2
    go_wp2_with fail
    go_ret
    exact ⟨rfl, hU.then (Upd.set _ (F := At m) (a := ⟨m, 1, none⟩) rfl _), RfS.fail hR2⟩
  rw [if_pos (by omega)]
  go_enter Try.func75, Try.ntmps75
  go_wp2_with fail
  refine hN.mono ?_
  rintro e w2 ⟨rfl, hU, hR2⟩
  unfold i64v
  go_wp2_with fail
  go_ret
  exact ⟨rfl, hU, hR2⟩
end Go.Proofs.Ytajpgkedlajjdaa
