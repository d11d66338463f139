/- The walk of the law PrintExprs. -/
import Derived.Test.YtojbfopmlgdjlaaDoorKh
import Derived.Test.YtojbfopmlgdjlaaDoorHe
import Derived.Test.YtojbfopmlgdjlaaDoorRx
import Derived.Test.YtojbfopmlgdjlaaDoorGPsA
namespace Go.Proofs.YtojbfopmlgdjlaaDoor
open Go Go.RowKit

set_option maxRecDepth 100000 in
set_option maxHeartbeats 1600000 in
theorem exprs_any (T : XT) (w : World) (hv : TrV w (· < w.heap.size) T) (hT : TabP w) : Calls Tryd.prog 3 #[T.ptr] w fun r w' => r = .returned (.bool true) ∧ Below w.heap.size w w' := by
  have hK := hide (known8_any w hT)
  replace hv := hide hv
  replace hT := hide hT
  generalize hx : T.ptr = x
  go_enter Tryd.func3, Tryd.ntmps3
  go_wp2_with fail
  refine hK.out.mono ?_
  rintro r w1 ⟨rfl, hb1⟩
  have hlow : ∀ w', Below w.heap.size w w' → TrV w' (· < w.heap.size) T := fun w' hb => TrV.upd (F := (w.heap.size ≤ ·)) ⟨hb.os, hb.tape, hb.output, hb.size, fun k _ hn => hb.block k (by omega)⟩ (fun k h1 h2 => by omega) hv.out
  have hg := heap_new w1 (.cells #[.int .i64 60] 3)
  have hc := fun v => heap_set (heap_new w1 (.cells #[v] 3)) 0 (.int .i64 60)
  have hb2 := hb1.alloc hb1.size (.cells #[.int .i64 60] 3)
  have hL := hide (light_any (· < w.heap.size) w1.heap.size (fun b h => by have := hb1.size; omega) T _ 60 20 (hlow _ hb2) hg (by omega) (by omega) (by omega) (by omega))
  rw [hx] at hL
  replace hlow := hide hlow
  replace hb2 := hide hb2
  have hz1 := hide hb1.size
  clear hb1 hc hg
  go_wp2_with fail
  refine hL.out.mono ?_
  rintro r w2 ⟨q, l', rfl, hu, -, -, -, hq⟩
  have hb3 := hide (hb2.out.trans (hu.below (B := w.heap.size) (by rw [new_size]; have := hz1.out; omega) fun k hk => by have := hz1.out; omega))
  replace hq := hide hq
  clear hu
  cases q with
  | false =>
    go_wp2_with fail
    go_ret
    exact ⟨rfl, hb3.out⟩
  | true =>
    have hv2 := hlow.out _ hb3.out
    have hR := right_any _ T w2 hv2
    rw [hx] at hR
    cases hrt : rightT T with
    | false =>
      rw [hrt] at hR
      replace hR := hide hR
      go_wp2_with fail
      refine hR.out.mono ?_
      rintro r w3 ⟨rfl, rfl⟩
      go_wp2_with fail
      go_ret
      exact ⟨rfl, hb3.out⟩
    | true =>
      rw [hrt] at hR
      obtain ⟨hq1, hq2, hq3⟩ := hq.out rfl
      obtain ⟨e, he, hw, hl, hne⟩ := right_ex hv2 hrt hq3
      rw [hx] at he
      have hsz : (exT e).length ≤ 1000000 := by omega
      have hE := printExpr_any e x w2 (he.mono fun b h => by have := hb3.out.size; omega) hw (hT.out.below hb3.out) hne hsz
      have hE6 := hide (fun w' (hb : Below w.heap.size w w') (hb2 : Below w2.heap.size w2 w') => ex6_any e x w' _ (he.upd (F := fun _ => False) (.of_below _ hb2) fun _ _ => id) hw hsz)
      replace hE := hide hE
      generalize exT e = X at *
      have hXX : ((strB X).toList == (strB X).toList) = true := by rw [str_beq]; simp
      replace hR := hide hR
      clear hv2 hrt hq1 hq2 hq3 he hw hl hne hsz hq
      go_wp2_with fail
      refine hR.out.mono ?_
      rintro r w3 ⟨rfl, rfl⟩
      go_wp2_with fail
      refine hE.out.mono ?_
      rintro r w4 ⟨rfl, hb4⟩
      have hb5 := hide (hb3.out.trans (hb4.mono hb3.out.size))
      have hE7 := hide (hE6.out w4 hb5.out hb4)
      clear hb4 hE6
      go_wp2_with fail
      refine hE7.out.mono ?_
      rintro r w5 ⟨rfl, hb6⟩
      have hb7 := hide (hb5.out.trans (hb6.mono hb5.out.size))
      clear hb6
      go_wp2_with fail
      go_ret
      exact ⟨rfl, hb7.out⟩

set_option maxRecDepth 100000 in
theorem open_treeV {H : Type} {enc : TypeId × Value → H} {w : World} {base : Nat} {spare : Nat → Bool} {held : Bool} {base' : Nat} {v : Value} {d : DataW H} {p : List MemPlace} (hval : Value.okWide Tryd.prog w .any base' 22 v) (h : DataW.Trod enc Tryd.prog w base spare held 22 v d p) :
    ∃ T : XT, v = T.ptr ∧ TrV w (· < w.heap.size) T := by
  obtain ⟨a, rfl⟩ := Go.WideShapes.okWide_pointer Tryd.underlying22 hval
  obtain ⟨fuel, hf⟩ := h
  obtain ⟨T, hc, hT⟩ := open_tr fuel _ _ hf
  exact ⟨T, by simpa [Value.cells] using hc, hT⟩
end Go.Proofs.YtojbfopmlgdjlaaDoor
