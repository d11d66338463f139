/- Walks of the parser's small functions: peek, skip, isNext, isName. -/
import Derived.Test.YtojbfopmlgdjlaaDoorGPsM
namespace Go.Proofs.YtojbfopmlgdjlaaDoor
open Go Go.RowKit
theorem drop_get {α : Type} {l : List α} {i k : Nat} {r : List α} (h : l.drop i = r) : l[i + k]? = r[k]? := by
  rw [← h, List.getElem?_drop]
theorem drop_tail {α : Type} {l : List α} {i : Nat} {r : List α} (h : l.drop i = r) : l.drop (i + 1) = r.tail := by
  rw [← h, List.tail_drop]
theorem drop_len {α : Type} {l : List α} {i : Nat} {r : List α} (h : l.drop i = r) (hi : i ≤ l.length) : i + r.length = l.length := by
  rw [← h, List.length_drop]; omega
theorem below_drewN {B : Nat} {w w' : World} (h : Below B w w') (n : Nat) : Below B w (w'.drewN n) := ⟨h.os, h.tape, h.output, h.size, h.block⟩
theorem str_beq (a b : List UInt8) : ((strB a).toList == (strB b).toList) = (a == b) := by rw [ByteArray.toList_eq, ByteArray.toList_eq]; rfl
theorem field_text (a b : Int) (s : ByteArray) (w : World) : (Instr.field 94 (.agg #[.int .i64 a, .string s, .int .i64 b]) 1).run Tryd.prog w = .ok (.string s) w := by kernel_rfl
/-- Whether a token is a name. -/
def nmT (t : Tok) : Bool := t.kind == 0 && !isKw t.text
theorem nmT_hd (len : Nat) (r : List Tok) : nmT (hdT len r) = isNm r := by cases r <;> rfl
end Go.Proofs.YtojbfopmlgdjlaaDoor
