/- The laws' helper Place: a number brought below another. -/
import Derived.Test.YtimblkkojcbipaaDoorSizeR
namespace Go.Proofs.YtimblkkojcbipaaDoor
open Go Go.RowKit
set_option maxRecDepth 100000 in
theorem place_any (w : World) (a n : Nat) (ha : a ≤ 4294967296) (hn : 1 ≤ n) (hn2 : n ≤ 4294967296) :
    Calls Tryd.prog 23 #[.int .i64 a, .int .i64 n] w fun e w' => e = .returned (.int .i64 (a % n : Nat)) ∧ w = w' := by
  have hz : ¬ n = 0 := by omega
  obtain ⟨m, hm⟩ : ∃ m, m = a % n := ⟨_, rfl⟩
  have hrem : (a : Int) % (n : Int) = (m : Int) := by rw [← Int.natCast_emod, ← hm]
  have hml : m < n := by rw [hm]; exact Nat.mod_lt _ (by omega)
  rw [← hm]
  replace hm := hide hm
  go_enter Tryd.func23, Tryd.ntmps23
  go_wp2_with fail
  simp only [hrem]
  go_wp2_with fail
  go_ret
  exact ⟨rfl, rfl⟩
end Go.Proofs.YtimblkkojcbipaaDoor
