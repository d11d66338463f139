/- Walks of the parser's small functions: number, isNamed, isEnd, expectEnd, enter, leave, declared. -/
import Derived.Test.YtojbfopmlgdjlaaDoorGPsB
namespace Go.Proofs.YtojbfopmlgdjlaaDoor
open Go Go.RowKit Go.Lib
theorem isNum_hd (len : Nat) (r : List Tok) : ((hdT len r).kind == 1) = isNum r := by cases r <;> rfl
/-- Whether all tokens are read. -/
def endB : List Tok → Bool
  | [] => true
  | _ => false
theorem field_kind (a b : Int) (s : ByteArray) (w : World) : (Instr.field 94 (.agg #[.int .i64 a, .string s, .int .i64 b]) 0).run Tryd.prog w = .ok (.int .i64 a) w := by kernel_rfl
end Go.Proofs.YtojbfopmlgdjlaaDoor
