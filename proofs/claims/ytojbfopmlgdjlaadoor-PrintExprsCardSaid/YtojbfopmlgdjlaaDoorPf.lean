/- The walk of print.Expr. -/
import Derived.Test.YtojbfopmlgdjlaaDoorPe
namespace Go.Proofs.YtojbfopmlgdjlaaDoor
open Go Go.RowKit

theorem Prn.new (w : World) : Prn (w.alloc (.cells #[.pointer none, .slice none 0 0, .int .i64 0, .bool false] 61)) w.heap.size w.heap.size (.slice none 0 0) [] 0 false :=
  ⟨Nat.le_refl _, ⟨_, heap_new w _, .inl rfl⟩, RowB.nil_ _ _⟩
theorem EnvP.new {w : World} (h : TabP w) (o : Obj) : EnvP (w.alloc o) w.heap.size :=
  ⟨by show _ ≤ (w.heap.push o).size; rw [Array.size_push]; omega, h.below ((Below.refl _ w).alloc (Nat.le_refl _) o), h.lt⟩
set_option maxRecDepth 100000 in
theorem printExpr_any (e : Ex) (x : Value) (w : World) (hx : ExA w (· < w.heap.size) e x) (hw : WfX e) (hT : TabP w) (hne : exT e ≠ []) (hl : (exT e).length ≤ 1000000) :
    Calls Tryd.prog 9 #[x] w fun r w' => r = .returned (.string (strB (exT e))) ∧ Below w.heap.size w w' := by
  have hB0 : Below w.heap.size w (w.alloc (.cells #[.pointer none, .slice none 0 0, .int .i64 0, .bool false] 61)) := (Below.refl _ w).alloc (Nat.le_refl _) _
  have hE := hide (expr_any e x (w.alloc (.cells #[.pointer none, .slice none 0 0, .int .i64 0, .bool false] 61)) w.heap.size w.heap.size 0 (.slice none 0 0) [] false (hx.low hB0) hw (Prn.new w) (EnvP.new hT _) (by omega) (by simp [padL]; omega))
  obtain ⟨xb, xo, rfl⟩ := hx.ptr
  have hX : putT [] 0 false (exT e) = exT e := by simp [putT, tabsL, Lib.repeatL]
  rw [hX] at hE
  generalize exT e = X at *
  clear hx hw hT hX
  have hn := hide (Prn.new w)
  replace hB0 := hide hB0
  go_enter Tryd.func9, Tryd.ntmps9
  go_wp2_with fail
  refine hE.out.mono ?_
  rintro r w1 ⟨rfl, v1, hm1, h1⟩
  have hb1 := hide (hB0.out.trans (hm1.below hn.out (by show _ ≤ (w.heap.push _).size; rw [Array.size_push]; omega)))
  have hT := hide (text_any w1 _ _ _ _ _ _ h1 hne)
  clear hm1 h1
  go_wp2_with fail
  refine hT.out.mono ?_
  rintro r w2 ⟨rfl, hb2⟩
  have hb3 := hide (hb1.out.trans hb2)
  clear hb2
  go_wp2_with fail
  go_ret
  exact ⟨rfl, hb3.out⟩
end Go.Proofs.YtojbfopmlgdjlaaDoor
