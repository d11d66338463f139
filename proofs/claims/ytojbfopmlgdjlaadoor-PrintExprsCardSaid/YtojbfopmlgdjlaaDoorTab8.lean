/- What the listed variables give the walks of package print: the table of tens. -/
import Derived.Test.YtojbfopmlgdjlaaDoorPw
import Derived.Test.YtojbfopmlgdjlaaDoorCards
import Derived.Stop.LaidErr
import Derived.MakeChecks
namespace Go.Proofs.YtojbfopmlgdjlaaDoor
open Go Go.RowKit
theorem tab8_type : (Tryd.prog.globals[0]?).map (·.type) = some 134 := by kernel_rfl
theorem tab8_a : Tryd.prog.cellsOf 134 = 20 := by kernel_rfl
theorem tab8_e : Tryd.prog.cellsOf 95 = 1 := by kernel_rfl
theorem tab8 {W : World} {laid : List (String × DataW Unit)} {a b : String × DataW Unit} (hl : laid = [a, b, ("internal/strconv.uint64pow10", Lib.tabData .u64 Lib.pow10Tab)]) (hp : (laid.all fun x => x.2.handleName?.isNone) = true) (h : laidMetH Tryd.prog laid W) : TabP W := by
  rw [MakeChecks.laidMetH_plain _ _ _ hp, hl] at h
  exact Lib.tabIs_of_head (rest := []) tab_name tab8_type Tryd.underlying134 Tryd.underlying95 tab8_e tab8_a (laidMet.tail (laidMet.tail h))
end Go.Proofs.YtojbfopmlgdjlaaDoor
