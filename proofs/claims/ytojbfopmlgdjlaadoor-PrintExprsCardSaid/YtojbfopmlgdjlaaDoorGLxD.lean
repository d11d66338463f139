/- The reader of package lex: end, which keeps a token, or tells its fault. -/
import Derived.Test.YtojbfopmlgdjlaaDoorGx
import Derived.Test.YtojbfopmlgdjlaaDoorGLxC
import Derived.Test.YtojbfopmlgdjlaaDoorTide
namespace Go.Proofs.YtojbfopmlgdjlaaDoor
open Go Go.RowKit
theorem three_cells {w : World} {g : Nat} {V V2 V3 : Value} (h : w.cell? ⟨g, 0, none⟩ = some V) (h2 : w.cell? ⟨g, 1, none⟩ = some V2) (h3 : w.cell? ⟨g, 2, none⟩ = some V3) : ∀ j u, [V, V2, V3][j]? = some u → w.cell? ((⟨g, 0, none⟩ : Addr).add j) = some u := by
  intro j u hj
  match j, hj with
  | 0, hj =>
    have : V = u := by simpa using hj
    subst this
    exact h
  | 1, hj =>
    have : V2 = u := by simpa using hj
    subst this
    exact h2
  | 2, hj =>
    have : V3 = u := by simpa using hj
    subst this
    exact h3
theorem own_slice {w : World} {b size n : Nat} {e : TypeId} {v : Value} {xs : List Value} (h : w.ownsRow b e size v n xs) : ∃ A c, v = .slice A n c := by
  rcases h.2 with ⟨rfl, rfl⟩ | ⟨g, cap, cur, rfl, _⟩
  · exact ⟨_, _, rfl⟩
  · exact ⟨_, _, rfl⟩
theorem heapB {w w' : World} {p : Nat} {o : Obj} (h : w.heap[p]? = some o) (hb : Below w.heap.size w w') : w'.heap[p]? = some o := (Upd.of_below (fun _ => False) hb).heap h id
theorem tok_info : (Tryd.prog.info? 94).map (fun i => (i.zero, i.size, i.bytes)) = some (some (.agg #[.int .i64 0, .string .empty, .int .i64 0]), 3, 32) := by kernel_rfl
section
variable {p B : Nat} {T : List UInt8} {ts : List Tok} {k f : Nat} {rv : Value} {x : List UInt8} {w w' : World}
/-- A new row of one token. -/
def NewF (F : Nat → Prop) (t : Tok) (v : Value) (w : World) : Prop := ∃ g, v = .slice (some ⟨g, 0, none⟩) 1 1 ∧ ¬ F g ∧ w.cell? ⟨g, 0, none⟩ = some (.int .i64 t.kind) ∧ w.cell? ⟨g, 1, none⟩ = some (.string (strB t.text)) ∧ w.cell? ⟨g, 2, none⟩ = some (.int .i64 t.at_)
theorem NewF.kept {F : Nat → Prop} {t : Tok} : FKept F (NewF F t) := fun _ _ _ ⟨g, h1, h2, h3, h4, h5⟩ hu => ⟨g, h1, h2, hu.cell h3 h2, hu.cell h4 h2, hu.cell h5 h2⟩
theorem NewF.of {F : Nat → Prop} {g : Nat} (h1 : ¬ F g) (h2 : w.cell? ⟨g, 0, none⟩ = some (.int .i64 k)) (h3 : w.cell? ⟨g, 1, none⟩ = some (.string (strB x))) (h4 : w.cell? ⟨g, 2, none⟩ = some (.int .i64 f)) : NewF F ⟨k, x, f⟩ (.slice (some ⟨g, 0, none⟩) 1 1) w := ⟨g, rfl, h1, h2, h3, h4⟩
def SlF (v : Value) : Prop := ∃ A n c, v = .slice A n c
end
theorem fin_ok {k f : Nat} {wd : List UInt8} {ts : List Tok} {c : UInt8} (h : fault k wd c = 0) : (St.word k f wd).fin ts c = .ok (ts ++ [⟨k, wd, f⟩]) := by
  show (if fault k wd c = 0 then _ else _) = _
  rw [if_pos h]
theorem fin_err {k f n : Nat} {wd : List UInt8} {ts : List Tok} {c : UInt8} (h : fault k wd c = n) (hn : n ≠ 0) : (St.word k f wd).fin ts c = .error (f, n) := by
  show (if fault k wd c = 0 then _ else _) = _
  rw [if_neg (by rw [h]; exact hn), h]
end Go.Proofs.YtojbfopmlgdjlaaDoor
