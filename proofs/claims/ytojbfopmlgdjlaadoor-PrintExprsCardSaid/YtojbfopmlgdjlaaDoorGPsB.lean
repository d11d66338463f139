/- Walks of the parser's small functions: accept, expect, name, number, enter, leave. -/
import Derived.Test.YtojbfopmlgdjlaaDoorGPsA
namespace Go.Proofs.YtojbfopmlgdjlaaDoor
open Go Go.RowKit
theorem nx_ne {r : List Tok} {x : List UInt8} (h : nx r x = true) (hx : x ≠ []) : r ≠ [] := by
  rintro rfl
  unfold nx txt at h
  rw [beq_iff_eq] at h
  exact hx h.symm
theorem nm_ne {r : List Tok} (h : isNm r = true) : r ≠ [] := by
  rintro rfl
  cases h
theorem num_ne {r : List Tok} (h : isNum r = true) : r ≠ [] := by
  rintro rfl
  cases h
theorem at_below {p : Nat} {w w' : World} (h : Below w.heap.size w w') : Upd (At p) w w' := .of_below _ h
theorem tokV_def (t : Tok) : tokV t = .agg #[.int .i64 t.kind, .string (strB t.text), .int .i64 t.at_] := rfl
end Go.Proofs.YtojbfopmlgdjlaaDoor
