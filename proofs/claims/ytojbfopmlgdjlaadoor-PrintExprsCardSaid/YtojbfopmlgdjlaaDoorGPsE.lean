/- Expressions in memory; which operators there are. -/
import Derived.Test.YtojbfopmlgdjlaaDoorGPsD
import Derived.Deep.LoopGhost
namespace Go.Proofs.YtojbfopmlgdjlaaDoor
open Go Go.RowKit Go.Lib
/-- A node of an expression. -/
def NodeE (w : World) (S : Nat → Prop) (v : Value) (k n : Int) (s : ByteArray) (va vb : Value) : Prop :=
  ∃ g, v = .pointer (some ⟨g, 0, none⟩) ∧ S g ∧ w.heap[g]? = some (.cells #[.int .i64 k, .int .i64 n, .string s, va, vb] 46 (0, 0))
/-- An expression in memory, in blocks of S. -/
def ExV (w : World) (S : Nat → Prop) : Ex → Value → Prop
  | .num n, v => NodeE w S v 0 n ⟨#[]⟩ (.pointer none) (.pointer none)
  | .var s, v => NodeE w S v 1 0 (strB s) (.pointer none) (.pointer none)
  | .neg a, v => ∃ va, NodeE w S v 7 0 ⟨#[]⟩ va (.pointer none) ∧ ExV w S a va
  | .bin k a b, v => ∃ va vb, NodeE w S v k 0 ⟨#[]⟩ va vb ∧ ExV w S a va ∧ ExV w S b vb
section
variable {w w' : World} {S S' F : Nat → Prop}
theorem NodeE.upd {v va vb : Value} {k n : Int} {s : ByteArray} (h : NodeE w S v k n s va vb) (hu : Upd F w w') (hS : ∀ b, S b → ¬ F b) : NodeE w' S v k n s va vb := by
  obtain ⟨g, h1, h2, h3⟩ := h
  exact ⟨g, h1, h2, hu.heap h3 (hS g h2)⟩
theorem NodeE.mono {v va vb : Value} {k n : Int} {s : ByteArray} (h : NodeE w S v k n s va vb) (hS : ∀ b, b < w.heap.size → S b → S' b) : NodeE w S' v k n s va vb := by
  obtain ⟨g, h1, h2, h3⟩ := h
  exact ⟨g, h1, hS g (Array.getElem?_eq_some_iff.1 h3).1 h2, h3⟩
theorem ExV.upd (hu : Upd F w w') (hS : ∀ b, S b → ¬ F b) : ∀ (e : Ex) (v : Value), ExV w S e v → ExV w' S e v
  | .num _, _, h => NodeE.upd h hu hS
  | .var _, _, h => NodeE.upd h hu hS
  | .neg a, _, ⟨va, h1, h2⟩ => ⟨va, h1.upd hu hS, ExV.upd hu hS a va h2⟩
  | .bin _ a b, _, ⟨va, vb, h1, h2, h3⟩ => ⟨va, vb, h1.upd hu hS, ExV.upd hu hS a va h2, ExV.upd hu hS b vb h3⟩
theorem ExV.mono (hS : ∀ b, b < w.heap.size → S b → S' b) : ∀ (e : Ex) (v : Value), ExV w S e v → ExV w S' e v
  | .num _, _, h => NodeE.mono h hS
  | .var _, _, h => NodeE.mono h hS
  | .neg a, _, ⟨va, h1, h2⟩ => ⟨va, h1.mono hS, ExV.mono hS a va h2⟩
  | .bin _ a b, _, ⟨va, vb, h1, h2, h3⟩ => ⟨va, vb, h1.mono hS, ExV.mono hS a va h2, ExV.mono hS b vb h3⟩
theorem ExV.ptr : ∀ {e : Ex} {v : Value}, ExV w S e v → ∃ g, v = .pointer (some ⟨g, 0, none⟩)
  | .num _, _, h => ⟨h.choose, h.choose_spec.1⟩
  | .var _, _, h => ⟨h.choose, h.choose_spec.1⟩
  | .neg _, _, ⟨_, h, _⟩ => ⟨h.choose, h.choose_spec.1⟩
  | .bin _ _ _, _, ⟨_, _, h, _⟩ => ⟨h.choose, h.choose_spec.1⟩
end
section
variable {α : Type} {mk : Nat → α → α → α} {K : List UInt8 → Option Nat} {u : List Tok → Rs α} {g k : Nat} {a : α} {r : List Tok}
theorem chain_none (h : K (txt r) = none) : chain mk K u (g + 1) a r = .ok a r := by
  unfold chain
  rw [h]
theorem chain_some (h : K (txt r) = some k) : chain mk K u (g + 1) a r = (u r.tail).bind fun b r => chain mk K u g (mk k a b) r := by
  conv => lhs; unfold chain
  rw [h]
end
def optV : Option Nat → Value
  | some k => .tuple #[.int .i64 k, .bool true]
  | none => .tuple #[.int .i64 0, .bool false]
end Go.Proofs.YtojbfopmlgdjlaaDoor
