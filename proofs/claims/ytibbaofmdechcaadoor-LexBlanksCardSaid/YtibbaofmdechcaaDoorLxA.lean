/- Walks of small functions of package lex and of the document's: which bytes are letters, digits, blanks; which words are operators. -/
import Derived.Test.YtibbaofmdechcaaDoorLx
import Derived.Test.YtibbaofmdechcaaDoorOwn
namespace Go.Proofs.YtibbaofmdechcaaDoor
open Go.RowKit
theorem ret_bool {b c : Bool} {w : World} (h : b = c) : (Ending.returned (.bool b) = .returned (.bool c)) ∧ w = w := ⟨by rw [h], rfl⟩
theorem nat_beq (c k : Nat) : ((c : Int) == (k : Int)) = decide (c = k) := by
  by_cases h : c = k
  · subst h; simp
  · have : (c : Int) ≠ (k : Int) := by omega
    simp [h, this]
set_option maxRecDepth 100000 in
theorem isLetter_any (c : Nat) (w : World) : Calls Tryd.prog 20 #[.int .u8 c] w fun e w' => e = .returned (.bool (letterB c)) ∧ w' = w := by
  go_enter Tryd.func20, Tryd.ntmps20
  go_wp2
  all_goals go_ret
  all_goals refine ret_bool ?_
  all_goals (unfold letterB; rw [Bool.eq_iff_iff]; simp; omega)
set_option maxRecDepth 100000 in
theorem isDigit_any (c : Nat) (w : World) : Calls Tryd.prog 21 #[.int .u8 c] w fun e w' => e = .returned (.bool (digitB c)) ∧ w' = w := by
  go_enter Tryd.func21, Tryd.ntmps21
  go_wp2
  all_goals go_ret
  all_goals refine ret_bool ?_
  all_goals (unfold digitB; rw [Bool.eq_iff_iff]; simp; omega)
set_option maxRecDepth 100000 in
theorem isBlank_any (c : Nat) (w : World) : Calls Tryd.prog 28 #[.int .u8 c] w fun e w' => e = .returned (.bool (blankB c)) ∧ w' = w := by
  go_enter Tryd.func28, Tryd.ntmps28
  go_wp2
  all_goals go_ret
  all_goals refine ret_bool ?_
  all_goals (unfold blankB; rw [Bool.eq_iff_iff]; simp_all; try omega)
set_option maxRecDepth 100000 in
theorem letter_any (c : Nat) (w : World) : Calls Tryd.prog 17 #[.int .u8 c] w fun e w' => e = .returned (.bool (letterB c)) ∧ w' = w := by
  go_enter Tryd.func17, Tryd.ntmps17
  go_wp2
  all_goals go_ret
  all_goals refine ret_bool ?_
  all_goals (unfold letterB; rw [Bool.eq_iff_iff]; simp; omega)
set_option maxRecDepth 100000 in
theorem digit_any (c : Nat) (w : World) : Calls Tryd.prog 18 #[.int .u8 c] w fun e w' => e = .returned (.bool (digitB c)) ∧ w' = w := by
  go_enter Tryd.func18, Tryd.ntmps18
  go_wp2
  all_goals go_ret
  all_goals refine ret_bool ?_
  all_goals (unfold digitB; rw [Bool.eq_iff_iff]; simp; omega)
/-- Bytes as a string. -/
def strB (l : List UInt8) : ByteArray := ⟨l.toArray⟩
theorem strB_eq (s : ByteArray) : s = strB s.data.toList := by cases s; simp [strB]
set_option maxRecDepth 100000 in
set_option maxHeartbeats 1600000 in
theorem isOperator_any (s : List UInt8) (w : World) : Calls Tryd.prog 22 #[.string (strB s)] w fun e w' => e = .returned (.bool (isOp s)) ∧ w' = w := by
  unfold strB
  go_enter Tryd.func22, Tryd.ntmps22
  go_wp2
  all_goals go_ret
  all_goals refine ret_bool ?_
  all_goals (unfold isOp opsL; simp_all)
end Go.Proofs.YtibbaofmdechcaaDoor
