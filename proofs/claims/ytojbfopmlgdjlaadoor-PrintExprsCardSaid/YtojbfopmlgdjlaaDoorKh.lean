/- The laws' known. -/
import Derived.Test.YtojbfopmlgdjlaaDoorKg
namespace Go.Proofs.YtojbfopmlgdjlaaDoor
open Go Go.RowKit

def exObj (k n : Int) (s : ByteArray) (va vb : Value) : Obj := .cells #[.int .i64 k, .int .i64 n, .string s, va, vb] 46 (0, 0)
theorem NdV.of {w : World} {S : Nat → Prop} {g : Nat} {k n : Int} {s : ByteArray} {va vb : Value} (h : w.heap[g]? = some (exObj k n s va vb)) (hS : S g) : NdV w S g 0 k n s va vb :=
  ⟨hS, (cell_at h 0).trans rfl, (cell_at h 1).trans rfl, (cell_at h 2).trans rfl, (cell_at h 3).trans rfl, (cell_at h 4).trans rfl⟩
set_option maxRecDepth 100000 in
set_option maxHeartbeats 1600000 in
theorem known8_any (w : World) (hT : TabP w) : Calls Tryd.prog 6 #[] w fun r w' => r = .returned (.bool true) ∧ Below w.heap.size w w' := by
  obtain ⟨o1, ho1⟩ : ∃ o, o = exObj 1 0 ⟨#[97]⟩ (.pointer none) (.pointer none) := ⟨_, rfl⟩
  obtain ⟨o2, ho2⟩ : ∃ o, o = exObj 3 0 ⟨#[]⟩ (.pointer (some ⟨w.heap.size, 0, none⟩)) (.pointer (some ⟨w.heap.size, 0, none⟩)) := ⟨_, rfl⟩
  obtain ⟨o3, ho3⟩ : ∃ o, o = exObj 3 0 ⟨#[]⟩ (.pointer (some ⟨w.heap.size, 0, none⟩)) (.pointer (some ⟨w.heap.size + 1, 0, none⟩)) := ⟨_, rfl⟩
  have z1 : (w.alloc o1).heap.size = w.heap.size + 1 := new_size _ _
  have z2 : ((w.alloc o1).alloc o2).heap.size = w.heap.size + 1 + 1 := by rw [new_size, z1]
  have z3 : (((w.alloc o1).alloc o2).alloc o3).heap.size = w.heap.size + 1 + 1 + 1 := by rw [new_size, z2]
  have b1 : Below w.heap.size w (w.alloc o1) := (Below.refl _ w).alloc (Nat.le_refl _) _
  have b2 : Below w.heap.size w ((w.alloc o1).alloc o2) := b1.alloc (by omega) _
  have b3 : Below w.heap.size w (((w.alloc o1).alloc o2).alloc o3) := b2.alloc (by omega) _
  have h1 := heap_old (heap_old (heap_new w o1) o2) o3
  have h2 := heap_old (heap_new (w.alloc o1) o2) o3
  have h3 := heap_new ((w.alloc o1).alloc o2) o3
  rw [z1] at h2
  rw [z2] at h3
  generalize hW : ((w.alloc o1).alloc o2).alloc o3 = W at *
  have hTW : TabP W := hT.below b3
  have e1 : ExA W (· < W.heap.size) (.var [97]) (.pointer (some ⟨w.heap.size, 0, none⟩)) := ⟨_, _, rfl, NdV.of (by rw [h1, ho1]; rfl) (by rw [z3]; omega)⟩
  have e2 : ExA W (· < W.heap.size) (.bin 3 (.var [97]) (.var [97])) (.pointer (some ⟨w.heap.size + 1, 0, none⟩)) := ⟨_, _, _, _, rfl, NdV.of (by rw [h2, ho2]; rfl) (by rw [z3]; omega), e1, e1⟩
  have e3 : ExA W (· < W.heap.size) (.bin 3 (.var [97]) (.bin 3 (.var [97]) (.var [97]))) (.pointer (some ⟨w.heap.size + 1 + 1, 0, none⟩)) := ⟨_, _, _, _, rfl, NdV.of (by rw [h3, ho3]; rfl) (by rw [z3]; omega), e1, e2⟩
  have hv : WfX (.var [97]) := by show [97].length ≤ 1000000; decide
  have hE := hide (printExpr_any _ _ W e3 ⟨by decide, by decide, hv, by decide, by decide, hv, hv⟩ hTW (by decide) (by decide))
  rw [show strB (exT (.bin 3 (.var [97]) (.bin 3 (.var [97]) (.var [97])))) = ⟨#[97, 32, 45, 32, 40, 97, 32, 45, 32, 97, 41]⟩ from rfl] at hE
  subst ho1 ho2 ho3
  unfold exObj at hW
  replace b3 := hide b3
  have hz3 := hide z3
  clear h1 h2 h3 e1 e2 e3 b1 b2 hv z1 z2 hT hTW
  go_enter Tryd.func6, Tryd.ntmps6
  go_wp2_with fail
  replace hW := hide hW
  refine hE.out.mono ?_
  rintro r w1 ⟨rfl, hb1⟩
  have c1 := hide (b3.out.trans (hb1.mono (by rw [hz3.out]; omega)))
  have hg := heap_new w1 (.cells #[.int .i64 9, .pointer none, .pointer none, .pointer none, .pointer none, .string ⟨#[112]⟩] 48)
  have hC := hide (printNull_any [112] (by decide) _ _ hg)
  rw [show strB ([112] ++ [32, 61, 61, 32, 110, 117, 108, 108]) = ⟨#[112, 32, 61, 61, 32, 110, 117, 108, 108]⟩ from rfl] at hC
  clear hb1 hg
  go_wp2_with fail
  refine hC.out.mono ?_
  rintro r w2 ⟨rfl, hb2⟩
  have c2 := hide ((c1.out.alloc c1.out.size (.cells #[.int .i64 9, .pointer none, .pointer none, .pointer none, .pointer none, .string ⟨#[112]⟩] 48)).trans (hb2.mono (by have := c1.out.size; rw [new_size]; omega)))
  have hs := heap_new w2 (.cells #[.string ⟨#[99]⟩] 9)
  have hx : ArgV (w2.alloc (.cells #[.string ⟨#[99]⟩] 9)) (· < (w2.alloc (.cells #[.string ⟨#[99]⟩] 9)).heap.size) (.slice (some ⟨w2.heap.size, 0, none⟩) 1 1) (strL [[99]]) :=
    ArgV.one ((cell_at hs 0).trans rfl) (by rw [new_size]; omega)
  have hG := hide (printCells [[99]] _ _ _ hx (by decide) (by decide))
  rw [show strB (cellsT [[99]]) = ⟨#[99, 101, 108, 108, 32, 99, 59, 10]⟩ from rfl] at hG
  clear hb2 hs hx
  go_wp2_with fail
  refine hG.out.mono ?_
  rintro r w3 ⟨rfl, hb3⟩
  have c3 := hide ((c2.out.alloc c2.out.size (.cells #[.string ⟨#[99]⟩] 9)).trans (hb3.mono (by have := c2.out.size; rw [new_size]; omega)))
  have hF := hide (printFunc_nil [102] (by decide) w3)
  rw [show strB ([102, 110, 32] ++ [102] ++ [40, 41, 32, 123, 10, 125, 10]) = ⟨#[102, 110, 32, 102, 40, 41, 32, 123, 10, 125, 10]⟩ from rfl] at hF
  clear hb3
  go_wp2_with fail
  refine hF.out.mono ?_
  rintro r w4 ⟨rfl, hb4⟩
  have c4 := hide (c3.out.trans (hb4.mono c3.out.size))
  clear hb4
  go_wp2_with fail
  go_ret
  exact ⟨rfl, c4.out⟩
end Go.Proofs.YtojbfopmlgdjlaaDoor
