/- Part 17 of the walks (merged): PsR2, PsR3, FlowP. -/
import Derived.Test.YteplkhgaoaphhaaGreatDoorM16
import Derived.Deep.Cut
import Derived.Test.YteplkhgaoaphhaaGreatDoorM3
/- The walk of the parser's read. Written by mkread.py. -/
namespace Go.Proofs.YteplkhgaoaphhaaGreatDoor
open Go Go.RowKit Go.Lib

set_option maxRecDepth 100000 in
set_option maxHeartbeats 3200000 in
theorem FnVRead_any (f : Nat) (hf : f ≤ 1000000) (l : List UInt8) (hl : l.length ≤ 900000) (W : World) (hE : ErrR W) (hno : textP (funcP f) l ≠ none) :
    Calls Tryz.prog 21 #[.string (strB l), .func (.func 22) #[] #[]] W fun e w' => TextR W (.agg #[.string ⟨#[]⟩, .slice none 0 0, .slice none 0 0, .slice none 0 0]) FnV (textP (funcP f) l) e w' := by
  have hmf : ∀ (fn : Fn) (first cap : Array Value) (w : World), (Instr.makeFunc fn first cap).run Tryz.prog w = .ok (.func fn first cap) w := fun _ _ _ _ => rfl
  have hz : (strB l).size = l.length := rfl
  generalize hX : textP (funcP f) l = X at hno ⊢
  replace hX := hide hX
  replace hno := hide hno
  have b0 := hide (heap_old (heap_old (heap_new W (.cells #[.string ⟨#[]⟩, .slice none 0 0, .slice none 0 0, .slice none 0 0] 27)) (.cells #[.int .i64 0] 3)) (.cells #[.int .i64 0] 28))
  have b1 := hide (heap_old (heap_new (W.alloc (.cells #[.string ⟨#[]⟩, .slice none 0 0, .slice none 0 0, .slice none 0 0] 27)) (.cells #[.int .i64 0] 3)) (.cells #[.int .i64 0] 28))
  have b2 := hide (heap_new ((W.alloc (.cells #[.string ⟨#[]⟩, .slice none 0 0, .slice none 0 0, .slice none 0 0] 27)).alloc (.cells #[.int .i64 0] 3)) (.cells #[.int .i64 0] 28))
  have hB : Below W.heap.size W (((W.alloc (.cells #[.string ⟨#[]⟩, .slice none 0 0, .slice none 0 0, .slice none 0 0] 27)).alloc (.cells #[.int .i64 0] 3)).alloc (.cells #[.int .i64 0] 28)) := (((Below.refl _ _).alloc (Nat.le_refl _) _).alloc (by simp) _).alloc (by simp; omega) _
  have hN := hide (tokens_any l hl (((W.alloc (.cells #[.string ⟨#[]⟩, .slice none 0 0, .slice none 0 0, .slice none 0 0] 27)).alloc (.cells #[.int .i64 0] 3)).alloc (.cells #[.int .i64 0] 28)) (hE.below hB))
  replace hB := hide hB
  have s1 : ((W.alloc (.cells #[.string ⟨#[]⟩, .slice none 0 0, .slice none 0 0, .slice none 0 0] 27))).heap.size = W.heap.size + 1 := by simp
  have s2 : (((W.alloc (.cells #[.string ⟨#[]⟩, .slice none 0 0, .slice none 0 0, .slice none 0 0] 27)).alloc (.cells #[.int .i64 0] 3))).heap.size = W.heap.size + 1 + 1 := by simp
  have s3 : (((W.alloc (.cells #[.string ⟨#[]⟩, .slice none 0 0, .slice none 0 0, .slice none 0 0] 27)).alloc (.cells #[.int .i64 0] 3)).alloc (.cells #[.int .i64 0] 28)).heap.size = W.heap.size + 3 := by simp
  rw [s1] at b1
  rw [s2] at b2
  generalize hW3 : (((W.alloc (.cells #[.string ⟨#[]⟩, .slice none 0 0, .slice none 0 0, .slice none 0 0] 27)).alloc (.cells #[.int .i64 0] 3)).alloc (.cells #[.int .i64 0] 28)) = W3 at *
  replace hW3 := hide hW3
  replace s3 := hide s3
  clear s1 s2
  cases hlx : lexT l with
  | error x =>
    obtain ⟨a, k⟩ := x
    have hX : Hid (X = some (.error (a, k))) := hide (by rw [← hX.out]; unfold textP; rw [hlx])
    rw [hlx] at hN
    clear hlx
    go_enter_defers Tryz.func21, Tryz.ntmps21
    go_wp2_with fail
    rw [hW3.out]
    refine hN.out.mono ?_
    rintro e w1 ⟨hb, rfl, hk⟩
    have d0 := heapB b0.out hb
    have d1 := heapB b1.out hb
    have d2 := heapB b2.out hb
    have c1 := cell_at d1 0
    have f1 := frozen_at d1 0
    have c2 : (w1.setCell ⟨W.heap.size + 1, 0, none⟩ (.int .i64 a)).cell? ⟨W.heap.size + 1 + 1, 0, none⟩ = _ := cell_at (by rw [heap_set_other (by omega)]; exact d2) 0
    have f2 : (w1.setCell ⟨W.heap.size + 1, 0, none⟩ (.int .i64 a)).frozen? ⟨W.heap.size + 1 + 1, 0, none⟩ = _ := frozen_at (by rw [heap_set_other (by omega)]; exact d2) 0
    simp at c1 c2
    have hk1 : ((k : Int) != 0) = true := bne_iff_ne.2 (by omega)
    have e0 := hide (show ((w1.setCell ⟨W.heap.size + 1, 0, none⟩ (.int .i64 a)).setCell ⟨W.heap.size + 1 + 1, 0, none⟩ (.int .i64 k)).heap[W.heap.size]? = some (.cells #[.string ⟨#[]⟩, .slice none 0 0, .slice none 0 0, .slice none 0 0] 27 (0, 0)) by rw [heap_set_other (by omega), heap_set_other (by omega)]; exact d0)
    have e1 := hide (show ((w1.setCell ⟨W.heap.size + 1, 0, none⟩ (.int .i64 a)).setCell ⟨W.heap.size + 1 + 1, 0, none⟩ (.int .i64 k)).heap[W.heap.size + 1]? = some (.cells #[.int .i64 a] 3 (0, 0)) by rw [heap_set_other (by omega)]; exact heap_set d1 0 _)
    have e2 := hide (show ((w1.setCell ⟨W.heap.size + 1, 0, none⟩ (.int .i64 a)).setCell ⟨W.heap.size + 1 + 1, 0, none⟩ (.int .i64 k)).heap[W.heap.size + 1 + 1]? = some (.cells #[.int .i64 k] 28 (0, 0)) from (by
      have h9 : (w1.setCell ⟨W.heap.size + 1, 0, none⟩ (.int .i64 a)).heap[W.heap.size + 1 + 1]? = some (.cells #[.int .i64 0] 28 (0, 0)) := by rw [heap_set_other (by omega)]; exact d2
      exact heap_set h9 0 _))
    have hb3 := hide (((hB.out.trans (hb.mono hB.out.size)).setCell (show W.heap.size ≤ (⟨W.heap.size + 1, 0, none⟩ : Addr).block from by simp) (.int .i64 a)).setCell (show W.heap.size ≤ (⟨W.heap.size + 1 + 1, 0, none⟩ : Addr).block from by simp; omega) (.int .i64 k))
    clear hk d0 d1 d2 hb
    go_upto_region 3 with (fail)
    clear c1 c2 f1 f2
    generalize (w1.setCell ⟨W.heap.size + 1, 0, none⟩ (.int .i64 a)).setCell ⟨W.heap.size + 1 + 1, 0, none⟩ (.int .i64 k) = w2 at e0 e1 e2 hb3 ⊢
    have j0 := setCell_id (v := .string ⟨#[]⟩) e0.out (o := 0) rfl
    have u0 := cell_at e0.out 0
    have v0 := frozen_at e0.out 0
    have j1 := setCell_id (v := .slice none 0 0) e0.out (o := 1) rfl
    have u1 := cell_at e0.out 1
    have v1 := frozen_at e0.out 1
    have j2 := setCell_id (v := .slice none 0 0) e0.out (o := 2) rfl
    have u2 := cell_at e0.out 2
    have v2 := frozen_at e0.out 2
    have j3 := setCell_id (v := .slice none 0 0) e0.out (o := 3) rfl
    have u3 := cell_at e0.out 3
    have v3 := frozen_at e0.out 3
    have i1 := setCell_id (v := .int .i64 a) e1.out (o := 0) rfl
    have i2 := setCell_id (v := .int .i64 k) e2.out (o := 0) rfl
    have x1 := cell_at e1.out 0
    have x2 := cell_at e2.out 0
    have y1 := frozen_at e1.out 0
    have y2 := frozen_at e2.out 0
    simp at u0 u1 u2 u3 x1 x2
    go_region
    go_wp2_with fail
    refine ⟨.tuple #[.agg #[.string ⟨#[]⟩, .slice none 0 0, .slice none 0 0, .slice none 0 0], .int .i64 a, .int .i64 k], by simp [results, Tryz.results21, go_sem, x1, x2, u0, u1, u2, u3], ?_⟩
    refine ⟨?_, ?_⟩
    · exact ⟨hb3.out.os, hb3.out.tape, hb3.out.output, hb3.out.size, hb3.out.block⟩
    · rw [hX.out]
  | ok ts =>
    have hX : Hid (wholeP l.length (funcP f ts) = X) := hide (by rw [← hX.out]; unfold textP; rw [hlx])
    have hgd := hide (lexT_good hlx)
    rw [hlx] at hN
    clear hlx
    go_enter_defers Tryz.func21, Tryz.ntmps21
    go_wp2_with fail
    rw [hW3.out]
    refine hN.out.mono ?_
    rintro e w1 ⟨hb, v, rfl, hrow⟩
    obtain ⟨A, c, rfl, -⟩ := hrow.slice
    have d0 := heapB b0.out hb
    have d1 := heapB b1.out hb
    have d2 := heapB b2.out hb
    have c1 := cell_at d1 0
    have f1 := frozen_at d1 0
    have i1 := setCell_id (v := .int .i64 0) d1 (o := 0) rfl
    have c2 := cell_at d2 0
    have f2 := frozen_at d2 0
    have i2 := setCell_id (v := .int .i64 0) d2 (o := 0) rfl
    simp at c1 c2
    have hW1 : W3.heap.size ≤ w1.heap.size := hb.size
    have hrl := hide hrow.lt
    replace hrow := hide hrow
    have hb3 := hide (hB.out.trans (hb.mono hB.out.size))
    replace d0 := hide d0
    replace d1 := hide d1
    replace d2 := hide d2
    replace hb := hide hb
    go_wp2_with fail
    have hp3 : W.heap.size + 3 ≤ w1.heap.size := by have := s3.out; omega
    have hPs : PsW (w1.alloc (.cells #[.slice A ts.length c, .int .i64 0, .int .i64 l.length, .int .i64 0, .int .i64 0] 102)) w1.heap.size ⟨.slice A ts.length c, ts, l.length, W3.heap.size⟩ 0 0 ts :=
      ⟨(Upd.alloc (fun _ => False) w1 _).own hrow.out fun _ _ => id, ⟨0, heap_new w1 (.cells #[.slice A ts.length c, .int .i64 0, .int .i64 l.length, .int .i64 0, .int .i64 0] 102), Nat.zero_le _, List.drop_zero⟩, Nat.zero_le _, Nat.zero_le _, ⟨Nat.le_trans hgd.out.2 (by decide), hgd.out.1⟩⟩
    have hb4 := hide (hb3.out.alloc (by omega) (.cells #[.slice A ts.length c, .int .i64 0, .int .i64 l.length, .int .i64 0, .int .i64 0] 102))
    replace d0 := hide (heap_old d0.out (.cells #[.slice A ts.length c, .int .i64 0, .int .i64 l.length, .int .i64 0, .int .i64 0] 102))
    replace d1 := hide (heap_old d1.out (.cells #[.slice A ts.length c, .int .i64 0, .int .i64 l.length, .int .i64 0, .int .i64 0] 102))
    replace d2 := hide (heap_old d2.out (.cells #[.slice A ts.length c, .int .i64 0, .int .i64 l.length, .int .i64 0, .int .i64 0] 102))
    have hwp : w1.heap.size < (w1.alloc (.cells #[.slice A ts.length c, .int .i64 0, .int .i64 l.length, .int .i64 0, .int .i64 0] 102)).heap.size := by simp
    have hF := function_ok f hf w1.heap.size ⟨.slice A ts.length c, ts, l.length, W3.heap.size⟩ ts _ hPs
    generalize (w1.alloc (.cells #[.slice A ts.length c, .int .i64 0, .int .i64 l.length, .int .i64 0, .int .i64 0] 102)) = w4 at hF hb4 d0 d1 d2 hwp ⊢
    have fall : ∀ (w5 : World) (a k : Nat), X = some (.error (a, k)) → Upd (At w1.heap.size) w4 w5 → ∀ (w6 : World), Upd (fun b => b = W.heap.size + 1 ∨ b = W.heap.size + 1 + 1) w5 w6 → w6.heap[W.heap.size + 1]? = some (.cells #[.int .i64 a] 3 (0, 0)) → w6.heap[W.heap.size + 1 + 1]? = some (.cells #[.int .i64 k] 28 (0, 0)) →
        TextR W (.agg #[.string ⟨#[]⟩, .slice none 0 0, .slice none 0 0, .slice none 0 0]) FnV X (.returned (.tuple #[.agg #[.string ⟨#[]⟩, .slice none 0 0, .slice none 0 0, .slice none 0 0], .int .i64 a, .int .i64 k])) w6 ∧ w6.heap[W.heap.size]? = some (.cells #[.string ⟨#[]⟩, .slice none 0 0, .slice none 0 0, .slice none 0 0] 27 (0, 0)) := by
      intro w5 a k hx hU w6 hU6 h1 h2
      refine ⟨⟨?_, by rw [hx]⟩, ?_⟩
      · exact (((Upd.of_below (fun _ => False) hb4.out).trans hU fun b hb e => by simp only [At] at e; omega).trans hU6 fun b hb e => by rcases e with e | e <;> omega).below (Nat.le_refl _) fun b e => e.elim
      · exact hU6.heap (hU.heap d0.out (by simp only [At]; omega)) (by omega)
    cases hr : funcP f ts with
    | no =>
      rw [hr] at hX
      exact absurd hX.out.symm hno.out
    | er r k =>
      rw [hr] at hX hF
      have hX2 : X = some (.error (atOf l.length r, k)) := hX.out.symm
      replace fall := hide (fun w5 h1 w6 => fall w5 _ _ hX2 h1 w6)
      refine (hF fun e => by cases e).mono ?_
      rintro e w5 ⟨hU, rfl⟩
      have g1 := hide (hU.heap d1.out (by simp only [At]; omega))
      have g2 := hide (hU.heap d2.out (by simp only [At]; omega))
      replace fall := hide (fall.out w5 hU)
      clear hU hr hF hX hX2 hPs i1 i2 c1 c2 f1 f2
      go_wp2_with fail
      refine leaves_cons (f := 44) (args := #[.pointer (some ⟨W.heap.size + 1, 0, none⟩), .pointer (some ⟨W.heap.size + 1 + 1, 0, none⟩)]) (by simp) (by simp [go_sem]) ?_
      refine (caughtF (W.heap.size + 1) (W.heap.size + 1 + 1) (atOf l.length r) k [] w5 _ _ g1.out g2.out (by omega)).mono ?_
      rintro e u' w6 ⟨rfl, rfl, hU6, h1, h2⟩
      obtain ⟨q1, q2⟩ := fall.out w6 hU6 h1 h2
      have x1 := cell_at h1 0
      have x2 := cell_at h2 0
      have u0 := cell_at q2 0
      have u1 := cell_at q2 1
      have u2 := cell_at q2 2
      have u3 := cell_at q2 3
      simp at x1 x2 u0 u1 u2 u3
      clear h1 h2 q2 hU6
      refine ⟨.tuple #[.agg #[.string ⟨#[]⟩, .slice none 0 0, .slice none 0 0, .slice none 0 0], .int .i64 (atOf l.length r), .int .i64 k], by simp [results, Tryz.results21, go_sem, x1, x2, u0, u1, u2, u3], ?_⟩
      exact q1
    | ok a r =>
      rw [hr] at hX hF
      refine (hF fun e => by cases e).mono ?_
      rintro e w5 ⟨hU, v5, rfl, hv, n5, hp5⟩
      have hv0 := hv
      obtain ⟨A1, n1, k1, A2, n2, k2, A3, n3, k3, rfl, -⟩ := hv
      have e0 := hide (heap_old (hU.heap d0.out (by simp only [At]; omega)) (.cells #[.string (strB a.name), .slice A1 n1 k1, .slice A2 n2 k2, .slice A3 n3 k3] 27))
      have e1 := hide (heap_old (hU.heap d1.out (by simp only [At]; omega)) (.cells #[.string (strB a.name), .slice A1 n1 k1, .slice A2 n2 k2, .slice A3 n3 k3] 27))
      have e2 := hide (heap_old (hU.heap d2.out (by simp only [At]; omega)) (.cells #[.string (strB a.name), .slice A1 n1 k1, .slice A2 n2 k2, .slice A3 n3 k3] 27))
      have ht := hide (heap_new w5 (.cells #[.string (strB a.name), .slice A1 n1 k1, .slice A2 n2 k2, .slice A3 n3 k3] 27))
      have hp6 := hp5.alloc (.cells #[.string (strB a.name), .slice A1 n1 k1, .slice A2 n2 k2, .slice A3 n3 k3] 27)
      have hv6 := hide (FnV.upd (Upd.alloc (fun _ => False) w5 (.cells #[.string (strB a.name), .slice A1 n1 k1, .slice A2 n2 k2, .slice A3 n3 k3] 27)) (fun _ _ => id) hv0)
      have hU6 := hide (hU.then (Upd.alloc (At w1.heap.size) w5 (.cells #[.string (strB a.name), .slice A1 n1 k1, .slice A2 n2 k2, .slice A3 n3 k3] 27)))
      have hz5 : w4.heap.size ≤ w5.heap.size := hU.size
      have hE := expectEnd_any w1.heap.size ⟨.slice A ts.length c, ts, l.length, W3.heap.size⟩ 0 n5 r _ hp6
      clear hv0 hp5 hp6 hU hF hr hPs
      replace fall := hide fall
      go_wp2_with fail
      cases r with
      | cons t rr =>
        have hX2 : X = some (.error (t.at_, 51)) := hX.out.symm
        rw [if_neg (show ¬ (endB (t :: rr) = true) from fun e => by cases e)] at hE
        refine hE.mono ?_
        rintro e w7 ⟨hU7, rfl⟩
        rw [show atOf _ (t :: rr) = t.at_ from rfl]
        replace fall := hide (fall.out w7 t.at_ 51 hX2 (hU6.out.then hU7))
        have g1 := hide (hU7.heap e1.out (by simp only [At]; omega))
        have g2 := hide (hU7.heap e2.out (by simp only [At]; omega))
        clear hU7 hX hX2 hE i1 i2 c1 c2 f1 f2
        go_wp2_with fail
        refine leaves_cons (f := 44) (args := #[.pointer (some ⟨W.heap.size + 1, 0, none⟩), .pointer (some ⟨W.heap.size + 1 + 1, 0, none⟩)]) (by simp) (by simp [go_sem]) ?_
        refine (caughtF (W.heap.size + 1) (W.heap.size + 1 + 1) t.at_ 51 [] w7 _ _ g1.out g2.out (by omega)).mono ?_
        rintro e u' w8 ⟨rfl, rfl, hU8, h1, h2⟩
        obtain ⟨q1, q2⟩ := fall.out w8 hU8 h1 h2
        have x1 := cell_at h1 0
        have x2 := cell_at h2 0
        have u0 := cell_at q2 0
        have u1 := cell_at q2 1
        have u2 := cell_at q2 2
        have u3 := cell_at q2 3
        simp at x1 x2 u0 u1 u2 u3
        clear h1 h2 q2 hU8
        refine ⟨.tuple #[.agg #[.string ⟨#[]⟩, .slice none 0 0, .slice none 0 0, .slice none 0 0], .int .i64 t.at_, .int .i64 (51 : Nat)], by simp [results, Tryz.results21, go_sem, x1, x2, u0, u1, u2, u3], ?_⟩
        exact q1
      | nil =>
        have hX2 : X = some (.ok a) := hX.out.symm
        rw [if_pos (show endB [] = true from rfl)] at hE
        refine hE.mono ?_
        rintro e w7 ⟨hU7, v7, rfl, rfl, -⟩
        have g0 := hU7.heap e0.out (by simp only [At]; omega)
        have g1 := hU7.heap e1.out (by simp only [At]; omega)
        have g2 := hU7.heap e2.out (by simp only [At]; omega)
        have g3 := hU7.heap ht.out (by simp only [At]; omega)
        have hv7 := hide (FnV.upd hU7 (fun b hb e => by simp only [At] at e; omega) hv6.out)
        have hb7 := hide (((Upd.of_below (fun _ => False) hb4.out).trans (hU6.out.then hU7) fun b hb e => by simp only [At] at e; omega).below (Nat.le_refl _) fun b e => e.elim)
        replace hX2 := hide hX2
        clear hU7 hX hE fall
        have cc0 := cell_at g3 0
        have cc1 := cell_at g3 1
        have cc2 := cell_at g3 2
        have cc3 := cell_at g3 3
        simp at cc0 cc1 cc2 cc3
        have rr0 := g0
        have dd0 := cell_at rr0 0
        have ff0 := frozen_at rr0 0
        have rr1 : (w7.setCell ⟨W.heap.size, 0, none⟩ (.string (strB a.name))).heap[W.heap.size]? = some (.cells #[.string (strB a.name), .slice none 0 0, .slice none 0 0, .slice none 0 0] 27 (0, 0)) := heap_set rr0 0 _
        have dd1 := cell_at rr1 1
        have ff1 := frozen_at rr1 1
        have rr2 : ((w7.setCell ⟨W.heap.size, 0, none⟩ (.string (strB a.name))).setCell ⟨W.heap.size, 1, none⟩ (.slice A1 n1 k1)).heap[W.heap.size]? = some (.cells #[.string (strB a.name), .slice A1 n1 k1, .slice none 0 0, .slice none 0 0] 27 (0, 0)) := heap_set rr1 1 _
        have dd2 := cell_at rr2 2
        have ff2 := frozen_at rr2 2
        have rr3 : (((w7.setCell ⟨W.heap.size, 0, none⟩ (.string (strB a.name))).setCell ⟨W.heap.size, 1, none⟩ (.slice A1 n1 k1)).setCell ⟨W.heap.size, 2, none⟩ (.slice A2 n2 k2)).heap[W.heap.size]? = some (.cells #[.string (strB a.name), .slice A1 n1 k1, .slice A2 n2 k2, .slice none 0 0] 27 (0, 0)) := heap_set rr2 2 _
        have dd3 := cell_at rr3 3
        have ff3 := frozen_at rr3 3
        have rr4 : ((((w7.setCell ⟨W.heap.size, 0, none⟩ (.string (strB a.name))).setCell ⟨W.heap.size, 1, none⟩ (.slice A1 n1 k1)).setCell ⟨W.heap.size, 2, none⟩ (.slice A2 n2 k2)).setCell ⟨W.heap.size, 3, none⟩ (.slice A3 n3 k3)).heap[W.heap.size]? = some (.cells #[.string (strB a.name), .slice A1 n1 k1, .slice A2 n2 k2, .slice A3 n3 k3] 27 (0, 0)) := heap_set rr3 3 _
        simp at dd0 dd1 dd2 dd3
        have r1 : ((((w7.setCell ⟨W.heap.size, 0, none⟩ (.string (strB a.name))).setCell ⟨W.heap.size, 1, none⟩ (.slice A1 n1 k1)).setCell ⟨W.heap.size, 2, none⟩ (.slice A2 n2 k2)).setCell ⟨W.heap.size, 3, none⟩ (.slice A3 n3 k3)).heap[W.heap.size + 1]? = some (.cells #[.int .i64 0] 3 (0, 0)) := by rw [heap_set_other (by omega), heap_set_other (by omega), heap_set_other (by omega), heap_set_other (by omega)]; exact g1
        have r2 : ((((w7.setCell ⟨W.heap.size, 0, none⟩ (.string (strB a.name))).setCell ⟨W.heap.size, 1, none⟩ (.slice A1 n1 k1)).setCell ⟨W.heap.size, 2, none⟩ (.slice A2 n2 k2)).setCell ⟨W.heap.size, 3, none⟩ (.slice A3 n3 k3)).heap[W.heap.size + 1 + 1]? = some (.cells #[.int .i64 0] 28 (0, 0)) := by rw [heap_set_other (by omega), heap_set_other (by omega), heap_set_other (by omega), heap_set_other (by omega)]; exact g2
        have i1 := setCell_id (v := .int .i64 0) r1 (o := 0) rfl
        have i2 := setCell_id (v := .int .i64 0) r2 (o := 0) rfl
        have c1 := cell_at r1 0
        have c2 := cell_at r2 0
        simp at c1 c2
        have f1 := frozen_at r1 0
        have f2 := frozen_at r2 0
        have rr := hide rr4
        replace r1 := hide r1
        replace r2 := hide r2
        clear rr0 rr1 rr2 rr3 rr4 g0 g1 g2 g3
        have hv8 := hide (FnV.upd (((((Upd.refl (At W.heap.size) w7).setOn 0 (.string (strB a.name))).setOn 1 (.slice A1 n1 k1)).setOn 2 (.slice A2 n2 k2)).setOn 3 (.slice A3 n3 k3)) (fun b hb e => by simp only [At] at e; omega) hv7.out)
        have hb8 := hide (((((hb7.out).setCell (show W.heap.size ≤ (⟨W.heap.size, 0, none⟩ : Addr).block from Nat.le_refl _) (.string (strB a.name))).setCell (show W.heap.size ≤ (⟨W.heap.size, 1, none⟩ : Addr).block from Nat.le_refl _) (.slice A1 n1 k1)).setCell (show W.heap.size ≤ (⟨W.heap.size, 2, none⟩ : Addr).block from Nat.le_refl _) (.slice A2 n2 k2)).setCell (show W.heap.size ≤ (⟨W.heap.size, 3, none⟩ : Addr).block from Nat.le_refl _) (.slice A3 n3 k3))
        go_wp2_with fail
        refine leaves_cons (f := 44) (args := #[.pointer (some ⟨W.heap.size + 1, 0, none⟩), .pointer (some ⟨W.heap.size + 1 + 1, 0, none⟩)]) (by simp) (by simp [go_sem]) ?_
        refine (idleF (W.heap.size + 1) (W.heap.size + 1 + 1) _).mono ?_
        rintro e u' w9 ⟨rfl, rfl, hb9⟩
        have h0 := heapB rr.out hb9
        have h1 := heapB r1.out hb9
        have h2 := heapB r2.out hb9
        have x1 := cell_at h1 0
        have x2 := cell_at h2 0
        have u0 := cell_at h0 0
        have u1 := cell_at h0 1
        have u2 := cell_at h0 2
        have u3 := cell_at h0 3
        simp at x1 x2 u0 u1 u2 u3
        refine ⟨.tuple #[.agg #[.string (strB a.name), .slice A1 n1 k1, .slice A2 n2 k2, .slice A3 n3 k3], .int .i64 0, .int .i64 0], by simp [results, Tryz.results21, go_sem, x1, x2, u0, u1, u2, u3], ?_⟩
        refine ⟨hb8.out.trans (hb9.mono hb8.out.size), ?_⟩
        rw [hX2.out]
        exact ⟨_, rfl, FnV.mono (by have := hb4.out.size; omega) (FnV.upd (Upd.of_below (fun _ => False) hb9) (fun _ _ => id) hv8.out)⟩
end Go.Proofs.YteplkhgaoaphhaaGreatDoor
/- The walk of the parser's face. Written by mkread.py. -/
namespace Go.Proofs.YteplkhgaoaphhaaGreatDoor
open Go Go.RowKit Go.Lib
set_option maxRecDepth 100000 in
set_option maxHeartbeats 3200000 in
theorem Func_any (f : Nat) (hf : f ≤ 1000000) (l : List UInt8) (hl : l.length ≤ 900000) (W : World) (hE : ErrR W) (hno : textP (funcP f) l ≠ none) :
    Calls Tryz.prog 10 #[.string (strB l)] W fun e w' => TextR W (.agg #[.string ⟨#[]⟩, .slice none 0 0, .slice none 0 0, .slice none 0 0]) FnV (textP (funcP f) l) e w' := by
  have hb : Below W.heap.size W (W.alloc (.cells #[.string ⟨#[]⟩, .slice none 0 0, .slice none 0 0, .slice none 0 0] 27)) := (Below.refl _ _).alloc (Nat.le_refl _) _
  have hR := hide (FnVRead_any f hf l hl (W.alloc (.cells #[.string ⟨#[]⟩, .slice none 0 0, .slice none 0 0, .slice none 0 0] 27)) (hE.below hb) hno)
  replace hb := hide hb
  have hr0 := hide (heap_new W (.cells #[.string ⟨#[]⟩, .slice none 0 0, .slice none 0 0, .slice none 0 0] 27))
  have hs1 : (W.alloc (.cells #[.string ⟨#[]⟩, .slice none 0 0, .slice none 0 0, .slice none 0 0] 27)).heap.size = W.heap.size + 1 := by simp
  replace hs1 := hide hs1
  generalize textP (funcP f) l = X at hno hR ⊢
  match X, hR, hno with
  | none, _, hno => exact absurd rfl hno
  | some (.error (a, k)), hR, _ =>
    go_enter Tryz.func10, Tryz.ntmps10
    go_wp2_with fail
    refine hR.out.mono ?_
    rintro e w2 ⟨hB, h⟩
    have hb2 := hide (hb.out.trans (hB.mono hb.out.size))
    have g0 := heapB hr0.out hB
    obtain rfl := h
    have rr0 := g0
    have dd0 := cell_at rr0 0
    have ff0 := frozen_at rr0 0
    have rr1 : (w2.setCell ⟨W.heap.size, 0, none⟩ (.string ⟨#[]⟩)).heap[W.heap.size]? = some (.cells #[.string ⟨#[]⟩, .slice none 0 0, .slice none 0 0, .slice none 0 0] 27 (0, 0)) := heap_set rr0 0 _
    have kk0 : (w2.setCell ⟨W.heap.size, 0, none⟩ (.string ⟨#[]⟩)).cell? ⟨W.heap.size, 0, none⟩ = some (.string ⟨#[]⟩) := cell_at rr1 0
    replace kk0 := hide kk0
    have dd1 := cell_at rr1 1
    have ff1 := frozen_at rr1 1
    have rr2 : ((w2.setCell ⟨W.heap.size, 0, none⟩ (.string ⟨#[]⟩)).setCell ⟨W.heap.size, 1, none⟩ (.slice none 0 0)).heap[W.heap.size]? = some (.cells #[.string ⟨#[]⟩, .slice none 0 0, .slice none 0 0, .slice none 0 0] 27 (0, 0)) := heap_set rr1 1 _
    have kk1 : ((w2.setCell ⟨W.heap.size, 0, none⟩ (.string ⟨#[]⟩)).setCell ⟨W.heap.size, 1, none⟩ (.slice none 0 0)).cell? ⟨W.heap.size, 1, none⟩ = some (.slice none 0 0) := cell_at rr2 1
    replace kk1 := hide kk1
    have dd2 := cell_at rr2 2
    have ff2 := frozen_at rr2 2
    have rr3 : (((w2.setCell ⟨W.heap.size, 0, none⟩ (.string ⟨#[]⟩)).setCell ⟨W.heap.size, 1, none⟩ (.slice none 0 0)).setCell ⟨W.heap.size, 2, none⟩ (.slice none 0 0)).heap[W.heap.size]? = some (.cells #[.string ⟨#[]⟩, .slice none 0 0, .slice none 0 0, .slice none 0 0] 27 (0, 0)) := heap_set rr2 2 _
    have kk2 : (((w2.setCell ⟨W.heap.size, 0, none⟩ (.string ⟨#[]⟩)).setCell ⟨W.heap.size, 1, none⟩ (.slice none 0 0)).setCell ⟨W.heap.size, 2, none⟩ (.slice none 0 0)).cell? ⟨W.heap.size, 2, none⟩ = some (.slice none 0 0) := cell_at rr3 2
    replace kk2 := hide kk2
    have dd3 := cell_at rr3 3
    have ff3 := frozen_at rr3 3
    have rr4 : ((((w2.setCell ⟨W.heap.size, 0, none⟩ (.string ⟨#[]⟩)).setCell ⟨W.heap.size, 1, none⟩ (.slice none 0 0)).setCell ⟨W.heap.size, 2, none⟩ (.slice none 0 0)).setCell ⟨W.heap.size, 3, none⟩ (.slice none 0 0)).heap[W.heap.size]? = some (.cells #[.string ⟨#[]⟩, .slice none 0 0, .slice none 0 0, .slice none 0 0] 27 (0, 0)) := heap_set rr3 3 _
    have kk3 : ((((w2.setCell ⟨W.heap.size, 0, none⟩ (.string ⟨#[]⟩)).setCell ⟨W.heap.size, 1, none⟩ (.slice none 0 0)).setCell ⟨W.heap.size, 2, none⟩ (.slice none 0 0)).setCell ⟨W.heap.size, 3, none⟩ (.slice none 0 0)).cell? ⟨W.heap.size, 3, none⟩ = some (.slice none 0 0) := cell_at rr4 3
    replace kk3 := hide kk3
    simp at dd0 dd1 dd2 dd3
    clear rr0 rr1 rr2 rr3 rr4
    go_wp2_with fail
    refine bodyPost_ret (v := .tuple #[.agg #[.string ⟨#[]⟩, .slice none 0 0, .slice none 0 0, .slice none 0 0], .int .i64 a, .int .i64 k]) (by simp [results, Tryz.results10, go_sem, kk0.out, kk1.out, kk2.out, kk3.out]) rfl ?_
    exact ⟨((((hb2.out).setCell (show W.heap.size ≤ (⟨W.heap.size, 0, none⟩ : Addr).block from Nat.le_refl _) (.string ⟨#[]⟩)).setCell (show W.heap.size ≤ (⟨W.heap.size, 1, none⟩ : Addr).block from Nat.le_refl _) (.slice none 0 0)).setCell (show W.heap.size ≤ (⟨W.heap.size, 2, none⟩ : Addr).block from Nat.le_refl _) (.slice none 0 0)).setCell (show W.heap.size ≤ (⟨W.heap.size, 3, none⟩ : Addr).block from Nat.le_refl _) (.slice none 0 0), rfl⟩
  | some (.ok a), hR, _ =>
    go_enter Tryz.func10, Tryz.ntmps10
    go_wp2_with fail
    refine hR.out.mono ?_
    rintro e w2 ⟨hB, h⟩
    have hb2 := hide (hb.out.trans (hB.mono hb.out.size))
    have g0 := heapB hr0.out hB
    obtain ⟨v, rfl, hv⟩ := h
    have hv0 := hv
    obtain ⟨A1, n1, k1, A2, n2, k2, A3, n3, k3, rfl, -⟩ := hv
    replace hv0 := hide hv0
    have rr0 := g0
    have dd0 := cell_at rr0 0
    have ff0 := frozen_at rr0 0
    have rr1 : (w2.setCell ⟨W.heap.size, 0, none⟩ (.string (strB a.name))).heap[W.heap.size]? = some (.cells #[.string (strB a.name), .slice none 0 0, .slice none 0 0, .slice none 0 0] 27 (0, 0)) := heap_set rr0 0 _
    have kk0 : (w2.setCell ⟨W.heap.size, 0, none⟩ (.string (strB a.name))).cell? ⟨W.heap.size, 0, none⟩ = some (.string (strB a.name)) := cell_at rr1 0
    replace kk0 := hide kk0
    have dd1 := cell_at rr1 1
    have ff1 := frozen_at rr1 1
    have rr2 : ((w2.setCell ⟨W.heap.size, 0, none⟩ (.string (strB a.name))).setCell ⟨W.heap.size, 1, none⟩ (.slice A1 n1 k1)).heap[W.heap.size]? = some (.cells #[.string (strB a.name), .slice A1 n1 k1, .slice none 0 0, .slice none 0 0] 27 (0, 0)) := heap_set rr1 1 _
    have kk1 : ((w2.setCell ⟨W.heap.size, 0, none⟩ (.string (strB a.name))).setCell ⟨W.heap.size, 1, none⟩ (.slice A1 n1 k1)).cell? ⟨W.heap.size, 1, none⟩ = some (.slice A1 n1 k1) := cell_at rr2 1
    replace kk1 := hide kk1
    have dd2 := cell_at rr2 2
    have ff2 := frozen_at rr2 2
    have rr3 : (((w2.setCell ⟨W.heap.size, 0, none⟩ (.string (strB a.name))).setCell ⟨W.heap.size, 1, none⟩ (.slice A1 n1 k1)).setCell ⟨W.heap.size, 2, none⟩ (.slice A2 n2 k2)).heap[W.heap.size]? = some (.cells #[.string (strB a.name), .slice A1 n1 k1, .slice A2 n2 k2, .slice none 0 0] 27 (0, 0)) := heap_set rr2 2 _
    have kk2 : (((w2.setCell ⟨W.heap.size, 0, none⟩ (.string (strB a.name))).setCell ⟨W.heap.size, 1, none⟩ (.slice A1 n1 k1)).setCell ⟨W.heap.size, 2, none⟩ (.slice A2 n2 k2)).cell? ⟨W.heap.size, 2, none⟩ = some (.slice A2 n2 k2) := cell_at rr3 2
    replace kk2 := hide kk2
    have dd3 := cell_at rr3 3
    have ff3 := frozen_at rr3 3
    have rr4 : ((((w2.setCell ⟨W.heap.size, 0, none⟩ (.string (strB a.name))).setCell ⟨W.heap.size, 1, none⟩ (.slice A1 n1 k1)).setCell ⟨W.heap.size, 2, none⟩ (.slice A2 n2 k2)).setCell ⟨W.heap.size, 3, none⟩ (.slice A3 n3 k3)).heap[W.heap.size]? = some (.cells #[.string (strB a.name), .slice A1 n1 k1, .slice A2 n2 k2, .slice A3 n3 k3] 27 (0, 0)) := heap_set rr3 3 _
    have kk3 : ((((w2.setCell ⟨W.heap.size, 0, none⟩ (.string (strB a.name))).setCell ⟨W.heap.size, 1, none⟩ (.slice A1 n1 k1)).setCell ⟨W.heap.size, 2, none⟩ (.slice A2 n2 k2)).setCell ⟨W.heap.size, 3, none⟩ (.slice A3 n3 k3)).cell? ⟨W.heap.size, 3, none⟩ = some (.slice A3 n3 k3) := cell_at rr4 3
    replace kk3 := hide kk3
    simp at dd0 dd1 dd2 dd3
    clear rr0 rr1 rr2 rr3 rr4
    go_wp2_with fail
    refine bodyPost_ret (v := .tuple #[.agg #[.string (strB a.name), .slice A1 n1 k1, .slice A2 n2 k2, .slice A3 n3 k3], .int .i64 0, .int .i64 0]) (by simp [results, Tryz.results10, go_sem, kk0.out, kk1.out, kk2.out, kk3.out]) rfl ?_
    have hfin := ((((Upd.refl (At W.heap.size) w2).setOn 0 (.string (strB a.name))).setOn 1 (.slice A1 n1 k1)).setOn 2 (.slice A2 n2 k2)).setOn 3 (.slice A3 n3 k3)
    refine ⟨((((hb2.out).setCell (show W.heap.size ≤ (⟨W.heap.size, 0, none⟩ : Addr).block from Nat.le_refl _) (.string (strB a.name))).setCell (show W.heap.size ≤ (⟨W.heap.size, 1, none⟩ : Addr).block from Nat.le_refl _) (.slice A1 n1 k1)).setCell (show W.heap.size ≤ (⟨W.heap.size, 2, none⟩ : Addr).block from Nat.le_refl _) (.slice A2 n2 k2)).setCell (show W.heap.size ≤ (⟨W.heap.size, 3, none⟩ : Addr).block from Nat.le_refl _) (.slice A3 n3 k3), _, rfl, ?_⟩
    exact FnV.mono (by have := hs1.out; omega) (FnV.upd hfin (fun b hb e => by have := hs1.out; simp only [At] at e; omega) hv0.out)
end Go.Proofs.YteplkhgaoaphhaaGreatDoor
/- As XFlow, where an operation may know what the region's ways out come to (PQ): so that one of them may panic. -/
namespace Go.Proofs.YteplkhgaoaphhaaGreatDoor
open Go Go.RowKit
section
variable (PQ : (Exit → Act → World → Prop) → Prop) (P : Program) (ops : Array Oper) (F : Nat → Prop) (Φ : Nat → Fact) (T0 : Array Value) (D : List Deferred) (w0 : World)
/-- An operation that only reads, or makes new memory. -/
def QuietP (i : Nat) (o : Oper) : Prop :=
  ∀ (T : Array Value) (w : World) (Q : Exit → Act → World → Prop), PQ Q → Upd F w0 w → T.size = T0.size → (∀ s, (ops.any fun o => o.dst == some s) = false → T.getD s undef = T0.getD s undef) →
    (∀ s, lateB ops i s = true → T.getD s undef = T0.getD s undef) → Deps ops Φ T w o.after.toList →
    (Region.wanted o (yielded ops T) = true ∧ o.wp P ⟨T, D⟩ w (fun a' w' => ∃ v, a' = (⟨T, D⟩ : Act).put o.dst v ∧ DstOk o v ∧ Below w.heap.size w w' ∧ Φ i v w') Q) ∨ (Region.wanted o (yielded ops T) = false ∧ Φ i undef w)
/-- An operation of the chain: it takes what the one before it left. -/
def TurnsP (i : Nat) (o : Oper) (cur : Cur) (φ : Fact) : Prop :=
  ∀ (T : Array Value) (w : World) (Q : Exit → Act → World → Prop), PQ Q → Upd F w0 w → T.size = T0.size → (∀ s, (ops.any fun o => o.dst == some s) = false → T.getD s undef = T0.getD s undef) →
    (∀ s, lateB ops i s = true → T.getD s undef = T0.getD s undef) → Deps ops Φ T w o.after.toList → cur (slotOf ops T) w →
    (Region.wanted o (yielded ops T) = true ∧ o.wp P ⟨T, D⟩ w (fun a' w' => ∃ v, a' = (⟨T, D⟩ : Act).put o.dst v ∧ DstOk o v ∧ Upd F w w' ∧ Φ i v w' ∧ φ v w') Q) ∨ (Region.wanted o (yielded ops T) = false ∧ Φ i undef w ∧ φ undef w)
/-- All operations, in the text's order; 'kinds' tells which of them turn something. -/
def StepsP : Nat → List Oper → List (Option Fact) → Cur → Prop
  | _, [], _, _ => True
  | i, o :: r, [], cur => QuietP PQ P ops F Φ T0 D w0 i o ∧ StepsP (i + 1) r [] cur
  | i, o :: r, none :: ks, cur => QuietP PQ P ops F Φ T0 D w0 i o ∧ StepsP (i + 1) r ks cur
  | i, o :: r, some φ :: ks, cur => TurnsP PQ P ops F Φ T0 D w0 i o cur φ ∧ StepsP (i + 1) r ks fun V w => φ (V i) w
end

theorem stepsP_get {PQ : (Exit → Act → World → Prop) → Prop} {P : Program} {ops : Array Oper} {F : Nat → Prop} {Φ : Nat → Fact} {T0 : Array Value} {D : List Deferred} {w0 : World} : ∀ {l : List Oper} {b i : Nat} {o : Oper} {ks : List (Option Fact)} {cur : Cur}, StepsP PQ P ops F Φ T0 D w0 b l ks cur → l[i]? = some o →
    (match ks.getD i none with | none => QuietP PQ P ops F Φ T0 D w0 (b + i) o | some φ => TurnsP PQ P ops F Φ T0 D w0 (b + i) o (curOf cur b ks i) φ)
  | [], _, _, _, _, _, _, h => by simp at h
  | x :: l, b, i, o, [], cur, h, hi => by
    cases i with
    | zero =>
      obtain rfl : x = o := by simpa using hi
      exact h.1
    | succ i =>
      have := stepsP_get (i := i) h.2 (by simpa using hi)
      simp only [List.getD_nil] at this ⊢
      rwa [Nat.add_assoc, Nat.add_comm 1 i] at this
  | x :: l, b, i, o, none :: ks, cur, h, hi => by
    cases i with
    | zero =>
      obtain rfl : x = o := by simpa using hi
      exact h.1
    | succ i =>
      have := stepsP_get (i := i) h.2 (by simpa using hi)
      rw [Nat.add_assoc, Nat.add_comm 1 i] at this
      simpa [curOf] using this
  | x :: l, b, i, o, some φ :: ks, cur, h, hi => by
    cases i with
    | zero =>
      obtain rfl : x = o := by simpa using hi
      exact h.1
    | succ i =>
      have := stepsP_get (i := i) h.2 (by simpa using hi)
      rw [Nat.add_assoc, Nat.add_comm 1 i] at this
      simpa [curOf] using this

theorem wpAny_flowP {PQ : (Exit → Act → World → Prop) → Prop} {P : Program} {ops : Array Oper} {F : Nat → Prop} {Φ : Nat → Fact} {ks : List (Option Fact)} {P0 : World → Prop} {T0 : Array Value} {D : List Deferred} {w0 : World} {Q : Exit → Act → World → Prop}
    (hk : ∀ i, FKept F (Φ i)) (hP0 : ∀ w w', P0 w → Below w.heap.size w w' → P0 w') (hks : KeptKinds ks) (hd : dsts2B ops T0.size = true) (ha : apart2B ops = true) (hbk : backB ops = true) (hch : chainB ops (ks.map (·.isSome)) = true) (hlen : ks.length ≤ ops.size)
    (hs : StepsP PQ P ops F Φ T0 D w0 0 ops.toList ks fun _ w => P0 w)
    (hPQ : PQ Q) (hQ : ∀ T w, Upd F w0 w → T.size = T0.size → (∀ s, (ops.any fun o => o.dst == some s) = false → T.getD s undef = T0.getD s undef) → (∀ j, j < ops.size → Φ j (slotOf ops T j) w) → curOf (fun _ w => P0 w) 0 ks ops.size (slotOf ops T) w → Q .normal ⟨T, D⟩ w) :
    ∀ (fuel : Nat) (listed : Array Bool) (a : Act) (w : World), (listed.toList.countP fun b => !b) ≤ fuel → FInv ops F Φ ks P0 T0 D w0 listed a w → wpAny P .any ops Q fuel listed a w := by
  have hend : ∀ (listed : Array Bool) (a : Act) (w : World), FInv ops F Φ ks P0 T0 D w0 listed a w → (∀ j, j < ops.size → listed[j]? = some true) → Q .normal a w := by
    intro listed a w h hall
    obtain ⟨T, D'⟩ := a
    have hD : D' = D := h.defers
    subst hD
    obtain ⟨f, hf1, hf2⟩ := h.phase
    refine hQ T w h.upd h.size h.vars (fun j hj => h.facts j (hall j hj)) ?_
    rcases Nat.le_total f ops.size with hle | hge
    · rw [← cur_skip (f := f) (i := ops.size) hle (fun j h1 h2 => by
        cases hc : inChain ks j with
        | false => rfl
        | true => have := (hf1 j h2 hc).1 (hall j h2); omega)]
      exact hf2
    · rw [cur_skip (f := ops.size) (i := f) hge (fun j h1 _ => by
        unfold inChain
        rw [List.getD_eq_getElem?_getD, List.getElem?_eq_none (by omega)]; rfl)]
      exact hf2
  intro fuel
  induction fuel with
  | zero =>
    intro listed a w hc h
    have hall : ∀ j, j < ops.size → listed[j]? = some true := by
      intro j hj
      have hj' : j < listed.size := by rw [h.lsize]; exact hj
      have h0 : (listed.toList.countP fun b => !b) = 0 := by omega
      rw [List.countP_eq_zero] at h0
      have := h0 listed[j] (by simp)
      rw [Array.getElem?_eq_getElem hj']
      simpa using this
    refine ⟨?_, hend _ _ _ h hall⟩
    unfold Region.ready
    rw [List.filter_eq_nil_iff]
    intro i hi
    rw [List.mem_range] at hi
    rw [Array.getD_eq_getD_getElem?, hall i hi]
    simp
  | succ fuel ih =>
    intro listed a w hc h
    have hstep : ∀ i ∈ Region.ready .any ops listed, wpOp P ops Q i (wpAny P .any ops Q fuel (listed.setIfInBounds i true)) a w := by
      intro i hi
      unfold Region.ready at hi
      rw [List.mem_filter, List.mem_range, Bool.and_eq_true] at hi
      obtain ⟨hin, hnl, hde⟩ := hi
      have hin' : i < listed.size := by rw [h.lsize]; exact hin
      have ho : ops[i]? = some ops[i] := Array.getElem?_eq_getElem hin
      rw [ho] at hde
      simp only [Option.map_some, Option.getD_some] at hde
      have hdeps := fdeps h ops[i].after.toList (by rw [← Array.all_toList] at hde; exact hde)
      have hstep := stepsP_get (i := i) (o := ops[i]) hs (by simp [hin])
      rw [Nat.zero_add] at hstep
      obtain ⟨T, D'⟩ := a
      have hD : D' = D := h.defers
      subst hD
      have hlt : listed.getD i true = false := by simpa using hnl
      have hli : listed[i]? = some false := by
        rw [Array.getD_eq_getD_getElem?, Array.getElem?_eq_getElem hin'] at hlt
        rw [Array.getElem?_eq_getElem hin']
        simpa using hlt
      -- what is left, once the operation's value lies
      have hput : ∀ (v : Value) (w' : World), (ops[i].dst = none → v = undef) → Upd F w w' → Φ i v w' →
          (∃ f, (∀ j, j < ops.size → inChain ks j = true → ((listed.setIfInBounds i true)[j]? = some true ↔ j < f)) ∧ ∀ V, V i = v → (∀ j, j ≠ i → V j = slotOf ops T j) → curOf (fun _ w => P0 w) 0 ks f V w') →
          wpAny P .any ops Q fuel (listed.setIfInBounds i true) ((⟨T, D'⟩ : Act).put ops[i].dst v) w' := by
        intro v w' hvn hu hφ hph
        have hself : slotOf ops ((⟨T, D'⟩ : Act).put ops[i].dst v).tmps i = v := by
          cases hdd : ops[i].dst with
          | none =>
            rw [slot_none ho hdd]
            exact (hvn hdd).symm
          | some d =>
            have hdT : d < T.size := by
              unfold dsts2B at hd
              rw [Array.all_eq_true] at hd
              have := hd i hin
              rw [hdd] at this
              rw [show T.size = T0.size from h.size]
              simpa using this
            unfold slotOf
            rw [ho]
            simp only [Option.bind_some, hdd, Option.map_some, Option.getD_some]
            show (T.setIfInBounds d v).getD d undef = v
            rw [Array.getD_eq_getD_getElem?, Array.getElem?_setIfInBounds_self_of_lt hdT]
            rfl
        have hother : ∀ j, j ≠ i → slotOf ops ((⟨T, D'⟩ : Act).put ops[i].dst v).tmps j = slotOf ops T j := by
          intro j hji
          cases hdd : ops[i].dst with
          | none => rfl
          | some d =>
            unfold slotOf
            cases hoj : ops[j]? with
            | none => rfl
            | some oj =>
              cases hdj : oj.dst with
              | none => simp [hdj]
              | some dj =>
                have hjn : j < ops.size := by
                  rcases Nat.lt_or_ge j ops.size with h1 | h1
                  · exact h1
                  · rw [Array.getElem?_eq_none h1] at hoj; cases hoj
                have hne : d ≠ dj := by
                  rintro rfl
                  unfold apart2B at ha
                  rw [List.all_eq_true] at ha
                  have h2 := ha i (List.mem_range.2 hin)
                  rw [List.all_eq_true] at h2
                  have h3 := h2 j (List.mem_range.2 hjn)
                  rw [ho, hoj] at h3
                  simp only [Option.bind_some, hdd, hdj, bne_self_eq_false, Bool.or_false] at h3
                  simp at h3
                  exact hji h3.symm
                simp only [Option.bind_some, hdj, Option.map_some, Option.getD_some]
                show (T.setIfInBounds d v).getD dj undef = T.getD dj undef
                rw [Array.getD_eq_getD_getElem?, Array.getD_eq_getD_getElem?, Array.getElem?_setIfInBounds_ne hne]
        refine ih _ _ _ ?_ ⟨h.upd.then hu, ?_, ?_, ?_, ?_, ?_, ?_, ?_, ?_⟩
        · have hcount : ((listed.setIfInBounds i true).toList.countP fun b => !b) + 1 = (listed.toList.countP fun b => !b) := by
            rw [Array.toList_setIfInBounds]
            have hil : i < listed.toList.length := by simpa using hin'
            have hf : listed.toList[i] = false := by
              rw [Array.getElem?_eq_getElem hin'] at hli
              simpa using hli
            have h1 := List.countP_set (p := fun b => !b) (l := listed.toList) (i := i) (a := true) hil
            have hpos : 0 < (listed.toList.countP fun b => !b) := by
              rw [List.countP_pos_iff]
              exact ⟨false, by rw [← hf]; exact List.getElem_mem hil, rfl⟩
            rw [h1, hf]
            simp only [Bool.not_false, if_true, Bool.not_true, Bool.false_eq_true, if_false]
            omega
          omega
        · show (Act.put _ _ _).defers = _
          cases hdd : ops[i].dst <;> rfl
        · show (Act.put _ _ _).tmps.size = _
          cases hdd : ops[i].dst with
          | none => exact h.size
          | some d =>
            show (T.setIfInBounds d v).size = _
            rw [Array.size_setIfInBounds]; exact h.size
        · rw [Array.size_setIfInBounds]; exact h.lsize
        · intro s hsn
          rw [← h.vars s hsn]
          cases hdd : ops[i].dst with
          | none => rfl
          | some d =>
            have hne : s ≠ d := by
              rintro rfl
              rw [any_of_get ho hdd] at hsn
              cases hsn
            show (T.setIfInBounds d v).getD s undef = T.getD s undef
            rw [Array.getD_eq_getD_getElem?, Array.getD_eq_getD_getElem?, Array.getElem?_setIfInBounds_ne (Ne.symm hne)]
        · intro j hj
          by_cases hji : j = i
          · subst hji
            rw [hself]; exact hφ
          · rw [Array.getElem?_setIfInBounds_ne (Ne.symm hji)] at hj
            rw [hother j hji]
            exact hk j _ _ _ (h.facts j hj) hu
        · intro j o hj hoj e he hb
          have hold : listed[e.on]? = some true := by
            by_cases hji : j = i
            · subst hji
              obtain rfl : ops[j] = o := by rw [ho] at hoj; exact Option.some.inj hoj
              rw [Array.all_eq_true'] at hde
              have h4 := hde e he
              rw [hb] at h4
              simp only [Bool.not_true, Bool.false_or] at h4
              rw [Array.getD_eq_getD_getElem?] at h4
              cases hx : listed[e.on]? with
              | none => rw [hx] at h4; simp at h4
              | some b => rw [hx] at h4; simpa using h4
            · rw [Array.getElem?_setIfInBounds_ne (Ne.symm hji)] at hj
              exact h.closed j o hj hoj e he hb
          by_cases hei : e.on = i
          · rw [hei]; exact Array.getElem?_setIfInBounds_self_of_lt hin'
          · rw [Array.getElem?_setIfInBounds_ne (Ne.symm hei)]; exact hold
        · intro j o s hoj hds hlj
          have hji : j ≠ i := by
            rintro rfl
            rw [Array.getElem?_setIfInBounds_self_of_lt hin'] at hlj
            cases hlj
          rw [Array.getElem?_setIfInBounds_ne (Ne.symm hji)] at hlj
          have h1 := hother j hji
          unfold slotOf at h1
          rw [hoj] at h1
          simp only [Option.bind_some, hds, Option.map_some, Option.getD_some] at h1
          rw [h1]
          exact h.early j o s hoj hds hlj
        · obtain ⟨f, hf1, hf2⟩ := hph
          exact ⟨f, hf1, hf2 _ hself hother⟩
      obtain ⟨f, hf1, hf2⟩ := h.phase
      have hlate : ∀ s, lateB ops i s = true → T.getD s undef = T0.getD s undef := by
        intro s hs'
        unfold lateB at hs'
        rw [List.any_eq_true] at hs'
        obtain ⟨j, hj, hs'⟩ := hs'
        rw [Bool.and_eq_true] at hs'
        have hjn := List.mem_range.1 hj
        have hlj : listed[j]? = some false := by
          have hjl : j < listed.size := by rw [h.lsize]; exact hjn
          rw [Array.getElem?_eq_getElem hjl]
          cases hb : listed[j] with
          | false => rfl
          | true =>
            have h3 : listed[i]? = some true := marks_closed h.closed i ops.size j hs'.2 (by
              show listed[j]? = some true
              rw [Array.getElem?_eq_getElem hjl, hb])
            rw [hli] at h3; cases h3
        refine h.early j ops[j] s (Array.getElem?_eq_getElem hjn) ?_ hlj
        have h4 := hs'.1
        rw [Array.getElem?_eq_getElem hjn] at h4
        simpa using h4
      unfold wpOp
      simp only [ho]
      cases hkind : ks.getD i none with
      | none =>
        have hic : inChain ks i = false := by unfold inChain; rw [hkind]; rfl
        rw [hkind] at hstep
        have hph : ∀ (v : Value) (w' : World), Below w.heap.size w w' → ∃ f, (∀ j, j < ops.size → inChain ks j = true → ((listed.setIfInBounds i true)[j]? = some true ↔ j < f)) ∧ ∀ V, V i = v → (∀ j, j ≠ i → V j = slotOf ops T j) → curOf (fun _ w => P0 w) 0 ks f V w' := by
          intro v w' hb
          refine ⟨f, fun j hj hcj => ?_, fun V _ hV => ?_⟩
          · have hne : i ≠ j := by rintro rfl; rw [hic] at hcj; cases hcj
            rw [Array.getElem?_setIfInBounds_ne hne]
            exact hf1 j hj hcj
          · refine cur_keep hks hb (fun j hj => ?_) (fun hp => hP0 _ _ hp hb) hf2
            rw [Nat.zero_add]
            exact hV j (by rintro rfl; rw [hic] at hj; cases hj)
        rcases hstep T w Q hPQ h.upd h.size h.vars hlate hdeps with ⟨hw, hwp⟩ | ⟨hw, hφ⟩
        · simp only [hw, if_true]
          refine .inl (Oper.wp_mono ?_ hwp)
          rintro a' w' ⟨v, rfl, hvn, hb, hφ⟩
          exact hput v w' hvn (.of_below F hb) hφ (hph v w' hb)
        · simp only [hw, Bool.false_eq_true, if_false]
          exact hput undef w (fun _ => rfl) (.refl F w) hφ (hph undef w (Below.refl _ _))
      | some φ =>
        have hic : inChain ks i = true := by unfold inChain; rw [hkind]; rfl
        rw [hkind] at hstep
        have hfi : f ≤ i := by
          rcases Nat.lt_or_ge i f with h1 | h1
          · have := (hf1 i hin hic).2 h1
            rw [hli] at this; cases this
          · exact h1
        have hprev : ∀ j, j < i → inChain ks j = true → j < f := by
          intro j hj hcj
          unfold chainB at hch
          rw [List.all_eq_true] at hch
          have h1 := hch i (List.mem_range.2 hin)
          rw [chain_isSome, hic] at h1
          simp only [Bool.not_true, Bool.false_or] at h1
          rw [List.all_eq_true] at h1
          have h2 := h1 j (List.mem_range.2 hj)
          rw [chain_isSome, hcj] at h2
          simp only [Bool.not_true, Bool.false_or] at h2
          rw [marks_at (marks_lt h2), Bool.or_eq_true] at h2
          rcases h2 with h2 | h2
          · have := eq_of_beq h2; omega
          · rw [ho] at h2
            simp only [Option.map_some, Option.getD_some] at h2
            rw [Array.any_eq_true'] at h2
            obtain ⟨e, he, h3⟩ := h2
            rw [Bool.and_eq_true] at h3
            rw [Array.all_eq_true'] at hde
            have h4 := hde e he
            rw [h3.1] at h4
            simp only [Bool.not_true, Bool.false_or] at h4
            have hel : listed[e.on]? = some true := by
              rw [Array.getD_eq_getD_getElem?] at h4
              cases hx : listed[e.on]? with
              | none => rw [hx] at h4; simp at h4
              | some b => rw [hx] at h4; simpa using h4
            exact (hf1 j (by omega) hcj).1 (marks_closed h.closed j i e.on h3.2 hel)
        have hcur : curOf (fun _ w => P0 w) 0 ks i (slotOf ops T) w := by
          rw [← cur_skip hfi (fun j h1 h2 => by
            cases hc : inChain ks j with
            | false => rfl
            | true => have := hprev j h2 hc; omega)]
          exact hf2
        have hph : ∀ (v : Value) (w' : World), φ v w' → ∃ f, (∀ j, j < ops.size → inChain ks j = true → ((listed.setIfInBounds i true)[j]? = some true ↔ j < f)) ∧ ∀ V, V i = v → (∀ j, j ≠ i → V j = slotOf ops T j) → curOf (fun _ w => P0 w) 0 ks f V w' := by
          intro v w' hφ
          refine ⟨i + 1, fun j hj hcj => ?_, fun V hVi _ => ?_⟩
          · by_cases hji : j = i
            · subst hji
              rw [Array.getElem?_setIfInBounds_self_of_lt hin']
              simp
            · rw [Array.getElem?_setIfInBounds_ne (Ne.symm hji), hf1 j hj hcj]
              constructor
              · intro h1; omega
              · intro h1; exact hprev j (by omega) hcj
          · rw [cur_succ hkind]
            show φ (V (0 + i)) w'
            rw [Nat.zero_add, hVi]
            exact hφ
        rcases hstep T w Q hPQ h.upd h.size h.vars hlate hdeps hcur with ⟨hw, hwp⟩ | ⟨hw, hφ, hψ⟩
        · simp only [hw, if_true]
          refine .inl (Oper.wp_mono ?_ hwp)
          rintro a' w' ⟨v, rfl, hvn, hu, hφ, hψ⟩
          exact hput v w' hvn hu hφ (hph v w' hψ)
        · simp only [hw, Bool.false_eq_true, if_false]
          exact hput undef w (fun _ => rfl) (.refl F w) hφ (hph undef w hψ)
    refine ⟨fun hr => ?_, hstep⟩
    refine hend _ _ _ h ?_
    intro j
    induction j using Nat.strongRecOn with
    | ind j ihj =>
      intro hj
      have hjl : j < listed.size := by rw [h.lsize]; exact hj
      cases hb : listed[j] with
      | true => rw [Array.getElem?_eq_getElem hjl, hb]
      | false =>
        exfalso
        have hmem : j ∈ Region.ready .any ops listed := by
          unfold Region.ready
          rw [List.mem_filter, List.mem_range, Bool.and_eq_true]
          refine ⟨hj, ?_, ?_⟩
          · rw [Array.getD_eq_getD_getElem?, Array.getElem?_eq_getElem hjl, hb]; rfl
          · rw [Array.getElem?_eq_getElem hj]
            simp only [Option.map_some, Option.getD_some]
            unfold backB at hbk
            rw [List.all_eq_true] at hbk
            have h1 := hbk j (List.mem_range.2 hj)
            rw [Array.getElem?_eq_getElem hj] at h1
            simp only [Option.map_some, Option.getD_some] at h1
            rw [Array.all_eq_true'] at h1 ⊢
            intro e he
            have h2 := h1 e he
            rw [decide_eq_true_iff] at h2
            rw [Array.getD_eq_getD_getElem?, ihj e.on h2 (by omega)]
            simp
        rw [hr] at hmem
        cases hmem

/-- The region's rule. -/
theorem wp_region_flowP {PQ : (Exit → Act → World → Prop) → Prop} {P : Program} {ops : Array Oper} {id : Nat} {a0 : Act} {w0 : World} {Q : Exit → Act → World → Prop} (F : Nat → Prop) (Φ : Nat → Fact) (ks : List (Option Fact)) (P0 : World → Prop)
    (hm : P.follows .mixedOrders = true) (hk : ∀ i, FKept F (Φ i)) (hP0 : ∀ w w', P0 w → Below w.heap.size w w' → P0 w') (hks : KeptKinds ks) (hd : dsts2B ops a0.tmps.size = true) (ha : apart2B ops = true) (hbk : backB ops = true) (hch : chainB ops (ks.map (·.isSome)) = true) (hlen : ks.length ≤ ops.size)
    (h0 : P0 w0) (hs : StepsP PQ P ops F Φ a0.tmps a0.defers w0 0 ops.toList ks fun _ w => P0 w)
    (hPQ : PQ Q) (hQ : ∀ T w, Upd F w0 w → T.size = a0.tmps.size → (∀ s, (ops.any fun o => o.dst == some s) = false → T.getD s undef = a0.tmps.getD s undef) → (∀ j, j < ops.size → Φ j (slotOf ops T j) w) → curOf (fun _ w => P0 w) 0 ks ops.size (slotOf ops T) w → Q .normal ⟨T, a0.defers⟩ w) :
    (Code.region id ops true).wp P Q a0 w0 := by
  refine wp_region_any hm (wpAny_flowP hk hP0 hks hd ha hbk hch hlen hs hPQ hQ _ _ _ _ ?_ ⟨(Upd.refl F w0).drew, rfl, rfl, by simp, fun _ _ => rfl, fun j hj => ?_, fun i o hi => ?_, fun _ _ _ _ _ _ => rfl, 0, fun j hj _ => ?_, ?_⟩)
  · rw [Array.toList_replicate]
    exact Nat.le_trans List.countP_le_length (by simp)
  · rw [Array.getElem?_replicate] at hj
    split at hj <;> simp at hj
  · replace hi : (Array.replicate ops.size false)[i]? = some true := hi
    rw [Array.getElem?_replicate] at hi
    split at hi <;> simp at hi
  · rw [Array.getElem?_replicate]
    constructor
    · intro h; split at h <;> simp at h
    · intro h; omega
  · simp only [curOf]
    exact hP0 _ _ h0 (Below.refl _ w0).drew
end Go.Proofs.YteplkhgaoaphhaaGreatDoor
