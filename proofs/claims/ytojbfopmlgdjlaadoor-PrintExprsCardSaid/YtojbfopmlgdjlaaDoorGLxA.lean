/- Walks of small functions of package lex and of the document's: which bytes are letters, digits, blanks; which words are operators. -/
import Derived.Test.YtojbfopmlgdjlaaDoorLx
import Derived.Test.YtojbfopmlgdjlaaDoorOwn
namespace Go.Proofs.YtojbfopmlgdjlaaDoor
open Go.RowKit
theorem ret_bool {b c : Bool} {w : World} (h : b = c) : (Ending.returned (.bool b) = .returned (.bool c)) ∧ w = w := ⟨by rw [h], rfl⟩
theorem nat_beq (c k : Nat) : ((c : Int) == (k : Int)) = decide (c = k) := by
  by_cases h : c = k
  · subst h; simp
  · have : (c : Int) ≠ (k : Int) := by omega
    simp [h, this]
set_option maxRecDepth 100000 in
theorem letter_any (c : Nat) (w : World) : Calls Tryd.prog 54 #[.int .u8 c] w fun e w' => e = .returned (.bool (letterB c)) ∧ w' = w := by
  go_enter Tryd.func54, Tryd.ntmps54
  go_wp2
  all_goals go_ret
  all_goals refine ret_bool ?_
  all_goals (unfold letterB; rw [Bool.eq_iff_iff]; simp; omega)
set_option maxRecDepth 100000 in
theorem digit_any (c : Nat) (w : World) : Calls Tryd.prog 55 #[.int .u8 c] w fun e w' => e = .returned (.bool (digitB c)) ∧ w' = w := by
  go_enter Tryd.func55, Tryd.ntmps55
  go_wp2
  all_goals go_ret
  all_goals refine ret_bool ?_
  all_goals (unfold digitB; rw [Bool.eq_iff_iff]; simp; omega)
/-- Bytes as a string. -/
def strB (l : List UInt8) : ByteArray := ⟨l.toArray⟩
theorem strB_eq (s : ByteArray) : s = strB s.data.toList := by cases s; simp [strB]
end Go.Proofs.YtojbfopmlgdjlaaDoor
