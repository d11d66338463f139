/- What the listed variables give the walks: strconv.ErrRange holds an error. -/
import Derived.Test.YtibbaofmdechcaaDoorLxB
import Derived.Test.YtibbaofmdechcaaDoorCards
import Derived.Stop.LaidErr
import Derived.MakeChecks
namespace Go.Proofs.YtibbaofmdechcaaDoor
open Go Go.RowKit
theorem errName : Tryd.prog.globalNamed "strconv.ErrRange" = some 1 := by kernel_rfl
theorem errStar : "*" ++ "errors.errorString" = "*errors.errorString" := by decide
theorem errRow (u : TypeId) (h : Tryd.prog.typeName? 3 u = some "*errors.errorString") : u = 72 :=
  typeName_ptr_named (nm := "errors.errorString") (by rw [errStar]; kernel_rfl) (by kernel_rfl) (by decide) u (by rw [errStar]; exact h)
theorem errOf {W : World} (h : laidMetH Tryd.prog Rows.lexReadsRow.laid W) : ErrR W := by
  rw [MakeChecks.laidMetH_plain _ _ _ (by kernel_rfl)] at h
  have h3 := laidMet.tail (laidMet.tail (laidMet.tail h))
  obtain ⟨a, s, hv, -, -, -⟩ := laid_sentinel h3 errName (ti := 54) (by kernel_rfl) Tryd.underlying54 errRow Tryd.underlying72 Tryd.underlying74 rfl rfl Tryd.underlying9 (by kernel_rfl) (by kernel_rfl)
  exact ⟨_, _, by have h0 := World.var?_cell errName hv 0; simpa using h0⟩
end Go.Proofs.YtibbaofmdechcaaDoor
