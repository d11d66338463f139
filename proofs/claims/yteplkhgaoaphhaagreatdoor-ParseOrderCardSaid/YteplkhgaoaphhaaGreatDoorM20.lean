/- Part 20 of the walks (merged): PsR4, PsR5, PsR6, Known7, OrdW. -/
import Derived.Test.YteplkhgaoaphhaaGreatDoorM16
import Derived.Test.YteplkhgaoaphhaaGreatDoorM19
import Derived.Deep.Cut
import Derived.Test.YteplkhgaoaphhaaGreatDoorM17
import Derived.Test.YteplkhgaoaphhaaGreatDoorM7
/- The deferred closure of the parser's read, of globals. Written by mkread.py. -/
namespace Go.Proofs.YteplkhgaoaphhaaGreatDoor
open Go Go.RowKit Go.Lib
theorem GlV.upd {w w' : World} {B : Nat} {F : Nat → Prop} {a : Gl} {v : Value} (hu : Upd F w w') (hF : ∀ b, B ≤ b → ¬ F b) (h : GlV w B a v) : GlV w' B a v := by
  obtain ⟨A1, n1, c1, A2, n2, c2, h1, h2, h3⟩ := h
  exact ⟨A1, n1, c1, A2, n2, c2, h1, h2.upd strFam hu hF, h3.upd arrFam hu hF⟩
theorem GlV.mono {w : World} {B B' : Nat} {a : Gl} {v : Value} (hB : B' ≤ B) (h : GlV w B a v) : GlV w B' a v := by
  obtain ⟨A1, n1, c1, A2, n2, c2, h1, h2, h3⟩ := h
  exact ⟨A1, n1, c1, A2, n2, c2, h1, h2.mono strFam (fun b _ hb => Nat.le_trans hB hb) (by decide), h3.mono arrFam (fun b _ hb => Nat.le_trans hB hb) (by decide)⟩
set_option maxRecDepth 100000 in
set_option maxHeartbeats 1600000 in
theorem caughtG (g h : Nat) (a k : Nat) (older : List PanicEntry) (w : World) (u0 u1 : Value) (Hg : w.heap[g]? = some (.cells #[u0] 3 (0, 0))) (Hh : w.heap[h]? = some (.cells #[u1] 28 (0, 0))) (hne : g ≠ h) :
    CallsD Tryz.prog 60 #[.pointer (some ⟨g, 0, none⟩), .pointer (some ⟨h, 0, none⟩)] (.panicking ({ v := faultV a k, recovered := false } :: older)) w fun e u' w' =>
      e = .returned (.tuple #[]) ∧ u' = .panicking ({ v := faultV a k, recovered := true } :: older) ∧ Upd (fun b => b = g ∨ b = h) w w' ∧ w'.heap[g]? = some (.cells #[.int .i64 a] 3 (0, 0)) ∧ w'.heap[h]? = some (.cells #[.int .i64 k] 28 (0, 0)) := by
  have hg := cell_at Hg 0
  have hh := cell_at Hh 0
  have fg := frozen_at Hg 0
  have fh := frozen_at Hh 0
  simp at hg hh
  unfold faultV
  have hta : ∀ w, (Instr.typeAssert (.iface 97 (.agg #[.int .i64 a, .int .i64 k])) 20 97 true).run Tryz.prog w = .ok (.tuple #[.agg #[.int .i64 a, .int .i64 k], .bool true]) w := fun _ => by kernel_rfl
  refine callsD_of_wpS Tryz.func60 rfl fun c₀ cs hu => ?_
  apply wpS_seq
  apply wpS_region
  simp [wpOpsS, go_sem, recoverD, hu, hta, Tryz.ntmps60, Exit.thenS]
  apply wpS_seq
  apply wpS_region
  simp [wpOpsS, go_sem, Exit.thenS]
  refine wpS_cond (t := true) (by simp [Act.eval, Array.replicate]) ?_
  simp only [if_true]
  refine wpS_of_wp ?_
  have lg := World.block_lt_of_cell? w _ hg
  have lh := World.block_lt_of_cell? w _ hh
  have hne2 : ¬ (h = g) := fun e => hne e.symm
  have eg : ¬ (w.heap.size = g) := by have : g < w.heap.size := lg; omega
  have eh : ¬ (w.heap.size = h) := by have : h < w.heap.size := lh; omega
  have ag : (w.alloc (.cells #[.int .i64 a, .int .i64 k] 97)).cell? ⟨g, 0, none⟩ = some u0 := (Upd.alloc (fun _ => False) w _).cell hg id
  have ah : (w.alloc (.cells #[.int .i64 a, .int .i64 k] 97)).cell? ⟨h, 0, none⟩ = some u1 := (Upd.alloc (fun _ => False) w _).cell hh id
  have zg : (w.alloc (.cells #[.int .i64 a, .int .i64 k] 97)).frozen? ⟨g, 0, none⟩ = false := by rw [((Below.refl w.heap.size w).alloc (Nat.le_refl _) _).frozen (p := ⟨g, 0, none⟩) lg]; exact fg
  have zh : (w.alloc (.cells #[.int .i64 a, .int .i64 k] 97)).frozen? ⟨h, 0, none⟩ = false := by rw [((Below.refl w.heap.size w).alloc (Nat.le_refl _) _).frozen (p := ⟨h, 0, none⟩) lh]; exact fh
  clear hta
  refine wp_mono (Q := fun e a' w' => e = .normal ∧ a'.defers = [] ∧ Upd (fun b => b = g ∨ b = h) w w' ∧ w'.heap[g]? = some (.cells #[.int .i64 a] 3 (0, 0)) ∧ w'.heap[h]? = some (.cells #[.int .i64 k] 28 (0, 0))) ?_ ?_
  · go_wp2_with fail
    go_region
    all_goals exact ⟨rfl, rfl, set2 Hg Hh hne⟩
  · rintro e a' w' ⟨rfl, h0, h1, h2, h3⟩
    simp [bodyPostS, results, Tryz.results60]
    exact ⟨h0, h1, h2, h3⟩
set_option maxRecDepth 100000 in
set_option maxHeartbeats 1600000 in
theorem idleG (g h : Nat) (w : World) :
    CallsD Tryz.prog 60 #[.pointer (some ⟨g, 0, none⟩), .pointer (some ⟨h, 0, none⟩)] .returning w fun e u' w' => e = .returned (.tuple #[]) ∧ u' = .returning ∧ Below w.heap.size w w' := by
  have hta : ∀ w, (Instr.typeAssert .nilIface 20 97 true).run Tryz.prog w = .ok (.tuple #[.agg #[.int .i64 0, .int .i64 0], .bool false]) w := fun _ => by kernel_rfl
  refine callsD_of_wpS Tryz.func60 rfl fun c₀ cs hu => ?_
  apply wpS_seq
  apply wpS_region
  simp [wpOpsS, go_sem, recoverD, hu, hta, Tryz.ntmps60, Exit.thenS]
  apply wpS_seq
  apply wpS_region
  simp [wpOpsS, go_sem, Exit.thenS]
  refine wpS_cond (t := false) (by simp [Act.eval, Array.replicate]) ?_
  simp only [Bool.false_eq_true, if_false]
  refine wpS_of_wp (wp_skip ?_)
  cases c₀
  simp_all [bodyPostS, results, Tryz.results60]
  exact (Below.refl _ _).alloc (Nat.le_refl _) _
end Go.Proofs.YteplkhgaoaphhaaGreatDoor
/- The walk of the parser's read. Written by mkread.py. -/
namespace Go.Proofs.YteplkhgaoaphhaaGreatDoor
open Go Go.RowKit Go.Lib

set_option maxRecDepth 100000 in
set_option maxHeartbeats 3200000 in
theorem GlVRead_any (f : Nat) (hf : f ≤ 1000000) (l : List UInt8) (hl : l.length ≤ 900000) (W : World) (hE : ErrR W) (hno : textP (globP f) l ≠ none) :
    Calls Tryz.prog 27 #[.string (strB l), .func (.func 28) #[] #[]] W fun e w' => TextR W (.agg #[.slice none 0 0, .slice none 0 0]) GlV (textP (globP f) l) e w' := by
  have hmf : ∀ (fn : Fn) (first cap : Array Value) (w : World), (Instr.makeFunc fn first cap).run Tryz.prog w = .ok (.func fn first cap) w := fun _ _ _ _ => rfl
  have hz : (strB l).size = l.length := rfl
  generalize hX : textP (globP f) l = X at hno ⊢
  replace hX := hide hX
  replace hno := hide hno
  have b0 := hide (heap_old (heap_old (heap_new W (.cells #[.slice none 0 0, .slice none 0 0] 41)) (.cells #[.int .i64 0] 3)) (.cells #[.int .i64 0] 28))
  have b1 := hide (heap_old (heap_new (W.alloc (.cells #[.slice none 0 0, .slice none 0 0] 41)) (.cells #[.int .i64 0] 3)) (.cells #[.int .i64 0] 28))
  have b2 := hide (heap_new ((W.alloc (.cells #[.slice none 0 0, .slice none 0 0] 41)).alloc (.cells #[.int .i64 0] 3)) (.cells #[.int .i64 0] 28))
  have hB : Below W.heap.size W (((W.alloc (.cells #[.slice none 0 0, .slice none 0 0] 41)).alloc (.cells #[.int .i64 0] 3)).alloc (.cells #[.int .i64 0] 28)) := (((Below.refl _ _).alloc (Nat.le_refl _) _).alloc (by simp) _).alloc (by simp; omega) _
  have hN := hide (tokens_any l hl (((W.alloc (.cells #[.slice none 0 0, .slice none 0 0] 41)).alloc (.cells #[.int .i64 0] 3)).alloc (.cells #[.int .i64 0] 28)) (hE.below hB))
  replace hB := hide hB
  have s1 : ((W.alloc (.cells #[.slice none 0 0, .slice none 0 0] 41))).heap.size = W.heap.size + 1 := by simp
  have s2 : (((W.alloc (.cells #[.slice none 0 0, .slice none 0 0] 41)).alloc (.cells #[.int .i64 0] 3))).heap.size = W.heap.size + 1 + 1 := by simp
  have s3 : (((W.alloc (.cells #[.slice none 0 0, .slice none 0 0] 41)).alloc (.cells #[.int .i64 0] 3)).alloc (.cells #[.int .i64 0] 28)).heap.size = W.heap.size + 3 := by simp
  rw [s1] at b1
  rw [s2] at b2
  generalize hW3 : (((W.alloc (.cells #[.slice none 0 0, .slice none 0 0] 41)).alloc (.cells #[.int .i64 0] 3)).alloc (.cells #[.int .i64 0] 28)) = W3 at *
  replace hW3 := hide hW3
  replace s3 := hide s3
  clear s1 s2
  cases hlx : lexT l with
  | error x =>
    obtain ⟨a, k⟩ := x
    have hX : Hid (X = some (.error (a, k))) := hide (by rw [← hX.out]; unfold textP; rw [hlx])
    rw [hlx] at hN
    clear hlx
    go_enter_defers Tryz.func27, Tryz.ntmps27
    go_wp2_with fail
    rw [hW3.out]
    refine hN.out.mono ?_
    rintro e w1 ⟨hb, rfl, hk⟩
    have d0 := heapB b0.out hb
    have d1 := heapB b1.out hb
    have d2 := heapB b2.out hb
    have c1 := cell_at d1 0
    have f1 := frozen_at d1 0
    have c2 : (w1.setCell ⟨W.heap.size + 1, 0, none⟩ (.int .i64 a)).cell? ⟨W.heap.size + 1 + 1, 0, none⟩ = _ := cell_at (by rw [heap_set_other (by omega)]; exact d2) 0
    have f2 : (w1.setCell ⟨W.heap.size + 1, 0, none⟩ (.int .i64 a)).frozen? ⟨W.heap.size + 1 + 1, 0, none⟩ = _ := frozen_at (by rw [heap_set_other (by omega)]; exact d2) 0
    simp at c1 c2
    have hk1 : ((k : Int) != 0) = true := bne_iff_ne.2 (by omega)
    have e0 := hide (show ((w1.setCell ⟨W.heap.size + 1, 0, none⟩ (.int .i64 a)).setCell ⟨W.heap.size + 1 + 1, 0, none⟩ (.int .i64 k)).heap[W.heap.size]? = some (.cells #[.slice none 0 0, .slice none 0 0] 41 (0, 0)) by rw [heap_set_other (by omega), heap_set_other (by omega)]; exact d0)
    have e1 := hide (show ((w1.setCell ⟨W.heap.size + 1, 0, none⟩ (.int .i64 a)).setCell ⟨W.heap.size + 1 + 1, 0, none⟩ (.int .i64 k)).heap[W.heap.size + 1]? = some (.cells #[.int .i64 a] 3 (0, 0)) by rw [heap_set_other (by omega)]; exact heap_set d1 0 _)
    have e2 := hide (show ((w1.setCell ⟨W.heap.size + 1, 0, none⟩ (.int .i64 a)).setCell ⟨W.heap.size + 1 + 1, 0, none⟩ (.int .i64 k)).heap[W.heap.size + 1 + 1]? = some (.cells #[.int .i64 k] 28 (0, 0)) from (by
      have h9 : (w1.setCell ⟨W.heap.size + 1, 0, none⟩ (.int .i64 a)).heap[W.heap.size + 1 + 1]? = some (.cells #[.int .i64 0] 28 (0, 0)) := by rw [heap_set_other (by omega)]; exact d2
      exact heap_set h9 0 _))
    have hb3 := hide (((hB.out.trans (hb.mono hB.out.size)).setCell (show W.heap.size ≤ (⟨W.heap.size + 1, 0, none⟩ : Addr).block from by simp) (.int .i64 a)).setCell (show W.heap.size ≤ (⟨W.heap.size + 1 + 1, 0, none⟩ : Addr).block from by simp; omega) (.int .i64 k))
    clear hk d0 d1 d2 hb
    go_upto_region 3 with (fail)
    clear c1 c2 f1 f2
    generalize (w1.setCell ⟨W.heap.size + 1, 0, none⟩ (.int .i64 a)).setCell ⟨W.heap.size + 1 + 1, 0, none⟩ (.int .i64 k) = w2 at e0 e1 e2 hb3 ⊢
    have j0 := setCell_id (v := .slice none 0 0) e0.out (o := 0) rfl
    have u0 := cell_at e0.out 0
    have v0 := frozen_at e0.out 0
    have j1 := setCell_id (v := .slice none 0 0) e0.out (o := 1) rfl
    have u1 := cell_at e0.out 1
    have v1 := frozen_at e0.out 1
    have i1 := setCell_id (v := .int .i64 a) e1.out (o := 0) rfl
    have i2 := setCell_id (v := .int .i64 k) e2.out (o := 0) rfl
    have x1 := cell_at e1.out 0
    have x2 := cell_at e2.out 0
    have y1 := frozen_at e1.out 0
    have y2 := frozen_at e2.out 0
    simp at u0 u1 x1 x2
    go_region
    go_wp2_with fail
    refine ⟨.tuple #[.agg #[.slice none 0 0, .slice none 0 0], .int .i64 a, .int .i64 k], by simp [results, Tryz.results27, go_sem, x1, x2, u0, u1], ?_⟩
    refine ⟨?_, ?_⟩
    · exact ⟨hb3.out.os, hb3.out.tape, hb3.out.output, hb3.out.size, hb3.out.block⟩
    · rw [hX.out]
  | ok ts =>
    have hX : Hid (wholeP l.length (globP f ts) = X) := hide (by rw [← hX.out]; unfold textP; rw [hlx])
    have hgd := hide (lexT_good hlx)
    rw [hlx] at hN
    clear hlx
    go_enter_defers Tryz.func27, Tryz.ntmps27
    go_wp2_with fail
    rw [hW3.out]
    refine hN.out.mono ?_
    rintro e w1 ⟨hb, v, rfl, hrow⟩
    obtain ⟨A, c, rfl, -⟩ := hrow.slice
    have d0 := heapB b0.out hb
    have d1 := heapB b1.out hb
    have d2 := heapB b2.out hb
    have c1 := cell_at d1 0
    have f1 := frozen_at d1 0
    have i1 := setCell_id (v := .int .i64 0) d1 (o := 0) rfl
    have c2 := cell_at d2 0
    have f2 := frozen_at d2 0
    have i2 := setCell_id (v := .int .i64 0) d2 (o := 0) rfl
    simp at c1 c2
    have hW1 : W3.heap.size ≤ w1.heap.size := hb.size
    have hrl := hide hrow.lt
    replace hrow := hide hrow
    have hb3 := hide (hB.out.trans (hb.mono hB.out.size))
    replace d0 := hide d0
    replace d1 := hide d1
    replace d2 := hide d2
    replace hb := hide hb
    go_wp2_with fail
    have hp3 : W.heap.size + 3 ≤ w1.heap.size := by have := s3.out; omega
    have hPs : PsW (w1.alloc (.cells #[.slice A ts.length c, .int .i64 0, .int .i64 l.length, .int .i64 0, .int .i64 0] 102)) w1.heap.size ⟨.slice A ts.length c, ts, l.length, W3.heap.size⟩ 0 0 ts :=
      ⟨(Upd.alloc (fun _ => False) w1 _).own hrow.out fun _ _ => id, ⟨0, heap_new w1 (.cells #[.slice A ts.length c, .int .i64 0, .int .i64 l.length, .int .i64 0, .int .i64 0] 102), Nat.zero_le _, List.drop_zero⟩, Nat.zero_le _, Nat.zero_le _, ⟨Nat.le_trans hgd.out.2 (by decide), hgd.out.1⟩⟩
    have hb4 := hide (hb3.out.alloc (by omega) (.cells #[.slice A ts.length c, .int .i64 0, .int .i64 l.length, .int .i64 0, .int .i64 0] 102))
    replace d0 := hide (heap_old d0.out (.cells #[.slice A ts.length c, .int .i64 0, .int .i64 l.length, .int .i64 0, .int .i64 0] 102))
    replace d1 := hide (heap_old d1.out (.cells #[.slice A ts.length c, .int .i64 0, .int .i64 l.length, .int .i64 0, .int .i64 0] 102))
    replace d2 := hide (heap_old d2.out (.cells #[.slice A ts.length c, .int .i64 0, .int .i64 l.length, .int .i64 0, .int .i64 0] 102))
    have hwp : w1.heap.size < (w1.alloc (.cells #[.slice A ts.length c, .int .i64 0, .int .i64 l.length, .int .i64 0, .int .i64 0] 102)).heap.size := by simp
    have hF := globals_ok f hf w1.heap.size ⟨.slice A ts.length c, ts, l.length, W3.heap.size⟩ ts _ hPs
    generalize (w1.alloc (.cells #[.slice A ts.length c, .int .i64 0, .int .i64 l.length, .int .i64 0, .int .i64 0] 102)) = w4 at hF hb4 d0 d1 d2 hwp ⊢
    have fall : ∀ (w5 : World) (a k : Nat), X = some (.error (a, k)) → Upd (At w1.heap.size) w4 w5 → ∀ (w6 : World), Upd (fun b => b = W.heap.size + 1 ∨ b = W.heap.size + 1 + 1) w5 w6 → w6.heap[W.heap.size + 1]? = some (.cells #[.int .i64 a] 3 (0, 0)) → w6.heap[W.heap.size + 1 + 1]? = some (.cells #[.int .i64 k] 28 (0, 0)) →
        TextR W (.agg #[.slice none 0 0, .slice none 0 0]) GlV X (.returned (.tuple #[.agg #[.slice none 0 0, .slice none 0 0], .int .i64 a, .int .i64 k])) w6 ∧ w6.heap[W.heap.size]? = some (.cells #[.slice none 0 0, .slice none 0 0] 41 (0, 0)) := by
      intro w5 a k hx hU w6 hU6 h1 h2
      refine ⟨⟨?_, by rw [hx]⟩, ?_⟩
      · exact (((Upd.of_below (fun _ => False) hb4.out).trans hU fun b hb e => by simp only [At] at e; omega).trans hU6 fun b hb e => by rcases e with e | e <;> omega).below (Nat.le_refl _) fun b e => e.elim
      · exact hU6.heap (hU.heap d0.out (by simp only [At]; omega)) (by omega)
    cases hr : globP f ts with
    | no =>
      rw [hr] at hX
      exact absurd hX.out.symm hno.out
    | er r k =>
      rw [hr] at hX hF
      have hX2 : X = some (.error (atOf l.length r, k)) := hX.out.symm
      replace fall := hide (fun w5 h1 w6 => fall w5 _ _ hX2 h1 w6)
      refine (hF fun e => by cases e).mono ?_
      rintro e w5 ⟨hU, rfl⟩
      have g1 := hide (hU.heap d1.out (by simp only [At]; omega))
      have g2 := hide (hU.heap d2.out (by simp only [At]; omega))
      replace fall := hide (fall.out w5 hU)
      clear hU hr hF hX hX2 hPs i1 i2 c1 c2 f1 f2
      go_wp2_with fail
      refine leaves_cons (f := 60) (args := #[.pointer (some ⟨W.heap.size + 1, 0, none⟩), .pointer (some ⟨W.heap.size + 1 + 1, 0, none⟩)]) (by simp) (by simp [go_sem]) ?_
      refine (caughtG (W.heap.size + 1) (W.heap.size + 1 + 1) (atOf l.length r) k [] w5 _ _ g1.out g2.out (by omega)).mono ?_
      rintro e u' w6 ⟨rfl, rfl, hU6, h1, h2⟩
      obtain ⟨q1, q2⟩ := fall.out w6 hU6 h1 h2
      have x1 := cell_at h1 0
      have x2 := cell_at h2 0
      have u0 := cell_at q2 0
      have u1 := cell_at q2 1
      simp at x1 x2 u0 u1
      clear h1 h2 q2 hU6
      refine ⟨.tuple #[.agg #[.slice none 0 0, .slice none 0 0], .int .i64 (atOf l.length r), .int .i64 k], by simp [results, Tryz.results27, go_sem, x1, x2, u0, u1], ?_⟩
      exact q1
    | ok a r =>
      rw [hr] at hX hF
      refine (hF fun e => by cases e).mono ?_
      rintro e w5 ⟨hU, v5, rfl, hv, n5, hp5⟩
      have hv0 := hv
      obtain ⟨A1, n1, k1, A2, n2, k2, rfl, -⟩ := hv
      have e0 := hide (heap_old (hU.heap d0.out (by simp only [At]; omega)) (.cells #[.slice A1 n1 k1, .slice A2 n2 k2] 41))
      have e1 := hide (heap_old (hU.heap d1.out (by simp only [At]; omega)) (.cells #[.slice A1 n1 k1, .slice A2 n2 k2] 41))
      have e2 := hide (heap_old (hU.heap d2.out (by simp only [At]; omega)) (.cells #[.slice A1 n1 k1, .slice A2 n2 k2] 41))
      have ht := hide (heap_new w5 (.cells #[.slice A1 n1 k1, .slice A2 n2 k2] 41))
      have hp6 := hp5.alloc (.cells #[.slice A1 n1 k1, .slice A2 n2 k2] 41)
      have hv6 := hide (GlV.upd (Upd.alloc (fun _ => False) w5 (.cells #[.slice A1 n1 k1, .slice A2 n2 k2] 41)) (fun _ _ => id) hv0)
      have hU6 := hide (hU.then (Upd.alloc (At w1.heap.size) w5 (.cells #[.slice A1 n1 k1, .slice A2 n2 k2] 41)))
      have hz5 : w4.heap.size ≤ w5.heap.size := hU.size
      have hE := expectEnd_any w1.heap.size ⟨.slice A ts.length c, ts, l.length, W3.heap.size⟩ 0 n5 r _ hp6
      clear hv0 hp5 hp6 hU hF hr hPs
      replace fall := hide fall
      go_wp2_with fail
      cases r with
      | cons t rr =>
        have hX2 : X = some (.error (t.at_, 51)) := hX.out.symm
        rw [if_neg (show ¬ (endB (t :: rr) = true) from fun e => by cases e)] at hE
        refine hE.mono ?_
        rintro e w7 ⟨hU7, rfl⟩
        rw [show atOf _ (t :: rr) = t.at_ from rfl]
        replace fall := hide (fall.out w7 t.at_ 51 hX2 (hU6.out.then hU7))
        have g1 := hide (hU7.heap e1.out (by simp only [At]; omega))
        have g2 := hide (hU7.heap e2.out (by simp only [At]; omega))
        clear hU7 hX hX2 hE i1 i2 c1 c2 f1 f2
        go_wp2_with fail
        refine leaves_cons (f := 60) (args := #[.pointer (some ⟨W.heap.size + 1, 0, none⟩), .pointer (some ⟨W.heap.size + 1 + 1, 0, none⟩)]) (by simp) (by simp [go_sem]) ?_
        refine (caughtG (W.heap.size + 1) (W.heap.size + 1 + 1) t.at_ 51 [] w7 _ _ g1.out g2.out (by omega)).mono ?_
        rintro e u' w8 ⟨rfl, rfl, hU8, h1, h2⟩
        obtain ⟨q1, q2⟩ := fall.out w8 hU8 h1 h2
        have x1 := cell_at h1 0
        have x2 := cell_at h2 0
        have u0 := cell_at q2 0
        have u1 := cell_at q2 1
        simp at x1 x2 u0 u1
        clear h1 h2 q2 hU8
        refine ⟨.tuple #[.agg #[.slice none 0 0, .slice none 0 0], .int .i64 t.at_, .int .i64 (51 : Nat)], by simp [results, Tryz.results27, go_sem, x1, x2, u0, u1], ?_⟩
        exact q1
      | nil =>
        have hX2 : X = some (.ok a) := hX.out.symm
        rw [if_pos (show endB [] = true from rfl)] at hE
        refine hE.mono ?_
        rintro e w7 ⟨hU7, v7, rfl, rfl, -⟩
        have g0 := hU7.heap e0.out (by simp only [At]; omega)
        have g1 := hU7.heap e1.out (by simp only [At]; omega)
        have g2 := hU7.heap e2.out (by simp only [At]; omega)
        have g3 := hU7.heap ht.out (by simp only [At]; omega)
        have hv7 := hide (GlV.upd hU7 (fun b hb e => by simp only [At] at e; omega) hv6.out)
        have hb7 := hide (((Upd.of_below (fun _ => False) hb4.out).trans (hU6.out.then hU7) fun b hb e => by simp only [At] at e; omega).below (Nat.le_refl _) fun b e => e.elim)
        replace hX2 := hide hX2
        clear hU7 hX hE fall
        have cc0 := cell_at g3 0
        have cc1 := cell_at g3 1
        simp at cc0 cc1
        have rr0 := g0
        have dd0 := cell_at rr0 0
        have ff0 := frozen_at rr0 0
        have rr1 : (w7.setCell ⟨W.heap.size, 0, none⟩ (.slice A1 n1 k1)).heap[W.heap.size]? = some (.cells #[.slice A1 n1 k1, .slice none 0 0] 41 (0, 0)) := heap_set rr0 0 _
        have dd1 := cell_at rr1 1
        have ff1 := frozen_at rr1 1
        have rr2 : ((w7.setCell ⟨W.heap.size, 0, none⟩ (.slice A1 n1 k1)).setCell ⟨W.heap.size, 1, none⟩ (.slice A2 n2 k2)).heap[W.heap.size]? = some (.cells #[.slice A1 n1 k1, .slice A2 n2 k2] 41 (0, 0)) := heap_set rr1 1 _
        simp at dd0 dd1
        have r1 : ((w7.setCell ⟨W.heap.size, 0, none⟩ (.slice A1 n1 k1)).setCell ⟨W.heap.size, 1, none⟩ (.slice A2 n2 k2)).heap[W.heap.size + 1]? = some (.cells #[.int .i64 0] 3 (0, 0)) := by rw [heap_set_other (by omega), heap_set_other (by omega)]; exact g1
        have r2 : ((w7.setCell ⟨W.heap.size, 0, none⟩ (.slice A1 n1 k1)).setCell ⟨W.heap.size, 1, none⟩ (.slice A2 n2 k2)).heap[W.heap.size + 1 + 1]? = some (.cells #[.int .i64 0] 28 (0, 0)) := by rw [heap_set_other (by omega), heap_set_other (by omega)]; exact g2
        have i1 := setCell_id (v := .int .i64 0) r1 (o := 0) rfl
        have i2 := setCell_id (v := .int .i64 0) r2 (o := 0) rfl
        have c1 := cell_at r1 0
        have c2 := cell_at r2 0
        simp at c1 c2
        have f1 := frozen_at r1 0
        have f2 := frozen_at r2 0
        have rr := hide rr2
        replace r1 := hide r1
        replace r2 := hide r2
        clear rr0 rr1 rr2 g0 g1 g2 g3
        have hv8 := hide (GlV.upd (((Upd.refl (At W.heap.size) w7).setOn 0 (.slice A1 n1 k1)).setOn 1 (.slice A2 n2 k2)) (fun b hb e => by simp only [At] at e; omega) hv7.out)
        have hb8 := hide (((hb7.out).setCell (show W.heap.size ≤ (⟨W.heap.size, 0, none⟩ : Addr).block from Nat.le_refl _) (.slice A1 n1 k1)).setCell (show W.heap.size ≤ (⟨W.heap.size, 1, none⟩ : Addr).block from Nat.le_refl _) (.slice A2 n2 k2))
        go_wp2_with fail
        refine leaves_cons (f := 60) (args := #[.pointer (some ⟨W.heap.size + 1, 0, none⟩), .pointer (some ⟨W.heap.size + 1 + 1, 0, none⟩)]) (by simp) (by simp [go_sem]) ?_
        refine (idleG (W.heap.size + 1) (W.heap.size + 1 + 1) _).mono ?_
        rintro e u' w9 ⟨rfl, rfl, hb9⟩
        have h0 := heapB rr.out hb9
        have h1 := heapB r1.out hb9
        have h2 := heapB r2.out hb9
        have x1 := cell_at h1 0
        have x2 := cell_at h2 0
        have u0 := cell_at h0 0
        have u1 := cell_at h0 1
        simp at x1 x2 u0 u1
        refine ⟨.tuple #[.agg #[.slice A1 n1 k1, .slice A2 n2 k2], .int .i64 0, .int .i64 0], by simp [results, Tryz.results27, go_sem, x1, x2, u0, u1], ?_⟩
        refine ⟨hb8.out.trans (hb9.mono hb8.out.size), ?_⟩
        rw [hX2.out]
        exact ⟨_, rfl, GlV.mono (by have := hb4.out.size; omega) (GlV.upd (Upd.of_below (fun _ => False) hb9) (fun _ _ => id) hv8.out)⟩
end Go.Proofs.YteplkhgaoaphhaaGreatDoor
/- The walk of the parser's face. Written by mkread.py. -/
namespace Go.Proofs.YteplkhgaoaphhaaGreatDoor
open Go Go.RowKit Go.Lib
set_option maxRecDepth 100000 in
set_option maxHeartbeats 3200000 in
theorem Globals_any (f : Nat) (hf : f ≤ 1000000) (l : List UInt8) (hl : l.length ≤ 900000) (W : World) (hE : ErrR W) (hno : textP (globP f) l ≠ none) :
    Calls Tryz.prog 15 #[.string (strB l)] W fun e w' => TextR W (.agg #[.slice none 0 0, .slice none 0 0]) GlV (textP (globP f) l) e w' := by
  have hb : Below W.heap.size W (W.alloc (.cells #[.slice none 0 0, .slice none 0 0] 41)) := (Below.refl _ _).alloc (Nat.le_refl _) _
  have hR := hide (GlVRead_any f hf l hl (W.alloc (.cells #[.slice none 0 0, .slice none 0 0] 41)) (hE.below hb) hno)
  replace hb := hide hb
  have hr0 := hide (heap_new W (.cells #[.slice none 0 0, .slice none 0 0] 41))
  have hs1 : (W.alloc (.cells #[.slice none 0 0, .slice none 0 0] 41)).heap.size = W.heap.size + 1 := by simp
  replace hs1 := hide hs1
  generalize textP (globP f) l = X at hno hR ⊢
  match X, hR, hno with
  | none, _, hno => exact absurd rfl hno
  | some (.error (a, k)), hR, _ =>
    go_enter Tryz.func15, Tryz.ntmps15
    go_wp2_with fail
    refine hR.out.mono ?_
    rintro e w2 ⟨hB, h⟩
    have hb2 := hide (hb.out.trans (hB.mono hb.out.size))
    have g0 := heapB hr0.out hB
    obtain rfl := h
    have rr0 := g0
    have dd0 := cell_at rr0 0
    have ff0 := frozen_at rr0 0
    have rr1 : (w2.setCell ⟨W.heap.size, 0, none⟩ (.slice none 0 0)).heap[W.heap.size]? = some (.cells #[.slice none 0 0, .slice none 0 0] 41 (0, 0)) := heap_set rr0 0 _
    have kk0 : (w2.setCell ⟨W.heap.size, 0, none⟩ (.slice none 0 0)).cell? ⟨W.heap.size, 0, none⟩ = some (.slice none 0 0) := cell_at rr1 0
    replace kk0 := hide kk0
    have dd1 := cell_at rr1 1
    have ff1 := frozen_at rr1 1
    have rr2 : ((w2.setCell ⟨W.heap.size, 0, none⟩ (.slice none 0 0)).setCell ⟨W.heap.size, 1, none⟩ (.slice none 0 0)).heap[W.heap.size]? = some (.cells #[.slice none 0 0, .slice none 0 0] 41 (0, 0)) := heap_set rr1 1 _
    have kk1 : ((w2.setCell ⟨W.heap.size, 0, none⟩ (.slice none 0 0)).setCell ⟨W.heap.size, 1, none⟩ (.slice none 0 0)).cell? ⟨W.heap.size, 1, none⟩ = some (.slice none 0 0) := cell_at rr2 1
    replace kk1 := hide kk1
    simp at dd0 dd1
    clear rr0 rr1 rr2
    go_wp2_with fail
    refine bodyPost_ret (v := .tuple #[.agg #[.slice none 0 0, .slice none 0 0], .int .i64 a, .int .i64 k]) (by simp [results, Tryz.results15, go_sem, kk0.out, kk1.out]) rfl ?_
    exact ⟨((hb2.out).setCell (show W.heap.size ≤ (⟨W.heap.size, 0, none⟩ : Addr).block from Nat.le_refl _) (.slice none 0 0)).setCell (show W.heap.size ≤ (⟨W.heap.size, 1, none⟩ : Addr).block from Nat.le_refl _) (.slice none 0 0), rfl⟩
  | some (.ok a), hR, _ =>
    go_enter Tryz.func15, Tryz.ntmps15
    go_wp2_with fail
    refine hR.out.mono ?_
    rintro e w2 ⟨hB, h⟩
    have hb2 := hide (hb.out.trans (hB.mono hb.out.size))
    have g0 := heapB hr0.out hB
    obtain ⟨v, rfl, hv⟩ := h
    have hv0 := hv
    obtain ⟨A1, n1, k1, A2, n2, k2, rfl, -⟩ := hv
    replace hv0 := hide hv0
    have rr0 := g0
    have dd0 := cell_at rr0 0
    have ff0 := frozen_at rr0 0
    have rr1 : (w2.setCell ⟨W.heap.size, 0, none⟩ (.slice A1 n1 k1)).heap[W.heap.size]? = some (.cells #[.slice A1 n1 k1, .slice none 0 0] 41 (0, 0)) := heap_set rr0 0 _
    have kk0 : (w2.setCell ⟨W.heap.size, 0, none⟩ (.slice A1 n1 k1)).cell? ⟨W.heap.size, 0, none⟩ = some (.slice A1 n1 k1) := cell_at rr1 0
    replace kk0 := hide kk0
    have dd1 := cell_at rr1 1
    have ff1 := frozen_at rr1 1
    have rr2 : ((w2.setCell ⟨W.heap.size, 0, none⟩ (.slice A1 n1 k1)).setCell ⟨W.heap.size, 1, none⟩ (.slice A2 n2 k2)).heap[W.heap.size]? = some (.cells #[.slice A1 n1 k1, .slice A2 n2 k2] 41 (0, 0)) := heap_set rr1 1 _
    have kk1 : ((w2.setCell ⟨W.heap.size, 0, none⟩ (.slice A1 n1 k1)).setCell ⟨W.heap.size, 1, none⟩ (.slice A2 n2 k2)).cell? ⟨W.heap.size, 1, none⟩ = some (.slice A2 n2 k2) := cell_at rr2 1
    replace kk1 := hide kk1
    simp at dd0 dd1
    clear rr0 rr1 rr2
    go_wp2_with fail
    refine bodyPost_ret (v := .tuple #[.agg #[.slice A1 n1 k1, .slice A2 n2 k2], .int .i64 0, .int .i64 0]) (by simp [results, Tryz.results15, go_sem, kk0.out, kk1.out]) rfl ?_
    have hfin := ((Upd.refl (At W.heap.size) w2).setOn 0 (.slice A1 n1 k1)).setOn 1 (.slice A2 n2 k2)
    refine ⟨((hb2.out).setCell (show W.heap.size ≤ (⟨W.heap.size, 0, none⟩ : Addr).block from Nat.le_refl _) (.slice A1 n1 k1)).setCell (show W.heap.size ≤ (⟨W.heap.size, 1, none⟩ : Addr).block from Nat.le_refl _) (.slice A2 n2 k2), _, rfl, ?_⟩
    exact GlV.mono (by have := hs1.out; omega) (GlV.upd hfin (fun b hb e => by have := hs1.out; simp only [At] at e; omega) hv0.out)
end Go.Proofs.YteplkhgaoaphhaaGreatDoor
/- The chapter's example, as the laws have it. -/
namespace Go.Proofs.YteplkhgaoaphhaaGreatDoor
open Go Go.RowKit Go.Lib

theorem SlcV.len {w : World} {S : Nat → Prop} {n m c : Nat} {A : Option Addr} {uss : List (List Value)} (h : SlcV w S n uss (.slice A m c)) : m = n := by
  obtain ⟨A', c', h1, -⟩ := h
  injection h1
theorem FnV.read {w : World} {B : Nat} {a : Fn7} {v : Value} (h : FnV w B a v) : ∃ A1 c1 A2 c2 A3 c3, v = .agg #[.string (strB a.name), .slice A1 a.params.length c1, .slice A2 a.locals.length c2, .slice A3 a.body.length c3] ∧ BlkV w (B ≤ ·) a.body (.slice A3 a.body.length c3) := by
  obtain ⟨A1, n1, c1, A2, n2, c2, A3, n3, c3, rfl, ⟨u1, h1, -⟩, ⟨u2, h2, -⟩, h3⟩ := h
  have h3' := h3
  obtain ⟨u3, h4, -⟩ := h3'
  obtain rfl := h1.len
  obtain rfl := h2.len
  obtain rfl := h4.len
  exact ⟨A1, c1, A2, c2, A3, c3, rfl, h3⟩
theorem GlV.read {w : World} {B : Nat} {a : Gl} {v : Value} (h : GlV w B a v) : ∃ A1 c1 A2 c2, v = .agg #[.slice A1 a.cells.length c1, .slice A2 a.arrays.length c2] ∧ ListV w (B ≤ ·) ArrP 2 a.arrays (.slice A2 a.arrays.length c2) := by
  obtain ⟨A1, n1, c1, A2, n2, c2, rfl, ⟨u1, h1, -⟩, h3⟩ := h
  have h3' := h3
  obtain ⟨u2, h2, -⟩ := h3'
  obtain rfl := h1.len
  obtain rfl := h2.len
  exact ⟨A1, c1, A2, c2, rfl, h3⟩
theorem BlkV.head {w : World} {S : Nat → Prop} {s : Sm} {l : List Sm} {A : Option Addr} {n c : Nat} (h : BlkV w S (s :: l) (.slice A n c)) : ∃ g us, A = some ⟨g, 0, none⟩ ∧ SmV w S s us ∧ ∀ j u, us[j]? = some u → w.cell? ⟨g, j, none⟩ = some u := by
  obtain ⟨uss, ⟨A', c', h1, h2, h3, h4⟩, h5⟩ := h
  unfold SmsV at h5
  obtain ⟨us, rest, rfl, h6, -⟩ := h5
  injection h1 with e1 e2 e3
  subst e1
  rcases h4 with h4 | ⟨g, rfl, -, h7⟩
  · simp at h4
  · refine ⟨g, us, rfl, h6, fun j u hj => h7 j u ?_⟩
    rw [List.flatten_cons, List.getElem?_append_left (List.getElem?_eq_some_iff.1 hj).1]
    exact hj
theorem ListV.head {α : Type} {P : World → (Nat → Prop) → α → List Value → Prop} {w : World} {S : Nat → Prop} {sz : Nat} {a : α} {l : List α} {A : Option Addr} {n c : Nat} (h : ListV w S P sz (a :: l) (.slice A n c)) : ∃ g us, A = some ⟨g, 0, none⟩ ∧ P w S a us ∧ ∀ j u, us[j]? = some u → w.cell? ⟨g, j, none⟩ = some u := by
  obtain ⟨uss, ⟨A', c', h1, h2, h3, h4⟩, h5⟩ := h
  match uss, h5 with
  | us :: rest, ⟨⟨_, h6⟩, _⟩ =>
    injection h1 with e1 e2 e3
    subst e1
    rcases h4 with h4 | ⟨g, rfl, -, h7⟩
    · simp at h4
    · refine ⟨g, us, rfl, h6, fun j u hj => h7 j u ?_⟩
      rw [List.flatten_cons, List.getElem?_append_left (List.getElem?_eq_some_iff.1 hj).1]
      exact hj
def kF : Fn7 := ⟨[102], [⟨[120], false⟩], [], [.mk 9 [] [] (some (.bin 2 (.var [120]) (.num 1))) none none [] [] [] 0]⟩
set_option maxRecDepth 100000 in
theorem k1 : textP (funcP 30) [102, 110, 32, 102, 40, 120, 41, 32, 123, 32, 114, 101, 116, 117, 114, 110, 32, 120, 32, 43, 32, 49, 59, 32, 125] = some (.ok kF) := by rfl
set_option maxRecDepth 100000 in
theorem k2 : textP (funcP 30) [102, 110, 32, 102, 40, 120, 41, 32, 123, 32, 114, 101, 116, 117, 114, 110, 32, 59, 32, 125] = some (.error (17, 51)) := by rfl
set_option maxRecDepth 100000 in
theorem k3 : textP (globP 30) [99, 101, 108, 108, 32, 99, 59, 32, 97, 114, 114, 97, 121, 32, 97, 91, 51, 93, 59] = some (.ok ⟨[[99]], [([97], 3)]⟩) := by rfl

set_option maxRecDepth 100000 in
set_option maxHeartbeats 3200000 in
theorem known_any (W : World) (hE : ErrR W) : Calls Tryz.prog 9 #[] W fun e w' => e = .returned (.bool true) ∧ Below W.heap.size W w' := by
  have h1 := hide (Func_any 30 (by decide) [102, 110, 32, 102, 40, 120, 41, 32, 123, 32, 114, 101, 116, 117, 114, 110, 32, 120, 32, 43, 32, 49, 59, 32, 125] (by decide) W hE (by rw [k1]; exact fun e => by cases e))
  rw [k1] at h1
  replace hE := hide hE
  go_enter Tryz.func9, Tryz.ntmps9
  go_wp2_with fail
  refine h1.out.mono ?_
  rintro e w1 ⟨hb1, v1, rfl, hv1⟩
  obtain ⟨A1, c1, A2, c2, A3, c3, hve, -⟩ := hv1.read
  obtain rfl : v1 = .agg #[.string (strB [102]), .slice A1 1 c1, .slice A2 0 c2, .slice A3 1 c3] := hve
  have hx1 := hide (heap_new w1 (.cells #[.string (strB [102]), .slice A1 1 c1, .slice A2 0 c2, .slice A3 1 c3] 27))
  have hw1 := FnV.upd (Upd.alloc (fun _ => False) w1 (.cells #[.string (strB [102]), .slice A1 1 c1, .slice A2 0 c2, .slice A3 1 c3] 27)) (fun _ _ => id) hv1
  have hb1' := hb1.alloc hb1.size (.cells #[.string (strB [102]), .slice A1 1 c1, .slice A2 0 c2, .slice A3 1 c3] 27)
  have h2 := hide (Func_any 30 (by decide) [102, 110, 32, 102, 40, 120, 41, 32, 123, 32, 114, 101, 116, 117, 114, 110, 32, 59, 32, 125] (by decide) _ (hE.out.below hb1') (by rw [k2]; exact fun e => by cases e))
  rw [k2] at h2
  replace hw1 := hide hw1
  replace hb1' := hide hb1'
  clear hv1 hb1
  go_wp2_with fail
  refine h2.out.mono ?_
  rintro e w2 ⟨hb2, rfl⟩
  have hx2 := heap_old (heapB hx1.out hb2) (.cells #[.string ⟨#[]⟩, .slice none 0 0, .slice none 0 0, .slice none 0 0] 27)
  have hw2 := FnV.upd (Upd.alloc (fun _ => False) w2 (.cells #[.string ⟨#[]⟩, .slice none 0 0, .slice none 0 0, .slice none 0 0] 27)) (fun _ _ => id) (FnV.upd (Upd.of_below (fun _ => False) hb2) (fun _ _ => id) hw1.out)
  have hb2' := (hb1'.out.trans (hb2.mono hb1'.out.size)).alloc (Nat.le_trans hb1'.out.size hb2.size) (.cells #[.string ⟨#[]⟩, .slice none 0 0, .slice none 0 0, .slice none 0 0] 27)
  have h3 := hide (Globals_any 30 (by decide) [99, 101, 108, 108, 32, 99, 59, 32, 97, 114, 114, 97, 121, 32, 97, 91, 51, 93, 59] (by decide) _ (hE.out.below hb2') (by rw [k3]; exact fun e => by cases e))
  rw [k3] at h3
  replace hx2 := hide hx2
  replace hw2 := hide hw2
  replace hb2' := hide hb2'
  clear hb2
  go_wp2_with fail
  refine h3.out.mono ?_
  rintro e w3 ⟨hb3, v3, rfl, hv3⟩
  obtain ⟨D1, d1, D2, d2, hve, hv4⟩ := hv3.read
  obtain rfl : v3 = .agg #[.slice D1 1 d1, .slice D2 1 d2] := hve
  have hx3 := heapB hx2.out hb3
  have hw3 := FnV.upd (Upd.of_below (fun _ => False) hb3) (fun _ _ => id) hw2.out
  obtain ⟨_, _, _, _, _, _, he, hbk⟩ := hw3.read
  injection he with he
  injection he with he
  injection he with _ he
  injection he with _ he
  injection he with _ he
  injection he with he _
  injection he with e1 e2 e3
  subst e1 e3
  clear e2
  obtain ⟨g, us, rfl, hs, hg⟩ := BlkV.head hbk
  unfold SmV at hs
  obtain ⟨ve, vf, vc, va, vt, vl, ut, ul, rfl, hxe, -⟩ := hs
  have hxx : ExV w3 (W.heap.size ≤ ·) (.bin 2 (.var [120]) (.num 1)) ve := hxe
  clear hxe
  obtain ⟨va', vb', ⟨ge, rfl, -, hge⟩, -, -⟩ := hxx
  obtain ⟨ga, us2, rfl, hap, hga⟩ := ListV.head hv4
  obtain rfl : us2 = [.string (strB [97]), .int .i64 3] := hap
  have ho := fun {b o : Nat} {u : Value} (h : w3.cell? ⟨b, o, none⟩ = some u) => (Upd.alloc (fun _ => False) w3 (.cells #[.slice D1 1 d1, .slice (some ⟨ga, 0, none⟩) 1 d2] 41)).cell h id
  have hq : ∀ j u, #[Value.string (strB [102]), .slice A1 1 c1, .slice A2 0 c2, .slice (some ⟨g, 0, none⟩) 1 c3][j]? = some u → (w3.alloc (.cells #[.slice D1 1 d1, .slice (some ⟨ga, 0, none⟩) 1 d2] 41)).cell? ⟨w1.heap.size, j, none⟩ = some u := fun j u h => ho ((cell_at hx3 j).trans h)
  have q0 := hq 0 _ rfl
  have q1 := hq 1 _ rfl
  have q3 := hq 3 _ rfl
  have p0 : (w3.alloc (.cells #[.slice D1 1 d1, .slice (some ⟨ga, 0, none⟩) 1 d2] 41)).cell? ⟨g, 0, none⟩ = some (.int .i64 9) := ho (hg 0 _ rfl)
  have p3 := ho (hg 3 _ rfl)
  have n0 : (w3.alloc (.cells #[.slice D1 1 d1, .slice (some ⟨ga, 0, none⟩) 1 d2] 41)).cell? ⟨ge, 0, none⟩ = some (.int .i64 2) := ho ((cell_at hge 0).trans rfl)
  have m1 := ho (hga 1 _ rfl)
  have hsq : ((strB [102]).toList == [102]) = true := by rw [str_beq']; rfl
  clear ho hq
  have hb4 := hide ((hb2'.out.trans (hb3.mono hb2'.out.size)).alloc (Nat.le_trans hb2'.out.size hb3.size) (.cells #[.slice D1 1 d1, .slice (some ⟨ga, 0, none⟩) 1 d2] 41))
  clear hx3 hw3 hbk hg hge hga hv4 hv3 hb3
  go_wp2_with fail
  go_ret
  exact ⟨rfl, hb4.out⟩
end Go.Proofs.YteplkhgaoaphhaaGreatDoor
/- A sum with all its parentheses: the law's whole. -/
namespace Go.Proofs.YteplkhgaoaphhaaGreatDoor
open Go Go.RowKit Go.Lib

def signsC : Array Value := #[.string ⟨#[43]⟩, .string ⟨#[45]⟩, .string ⟨#[42]⟩, .string ⟨#[47]⟩, .string ⟨#[37]⟩]
theorem signsC_at {s : Nat} (hs : s < 5) : signsC[s]? = some (.string (strB [sgB s])) := by
  rcases lt5 hs with rfl | rfl | rfl | rfl | rfl <;> rfl
/-- A new row of the five signs. -/
def FiveS (v : Value) (w : World) : Prop := ∃ g, v = .slice (some ⟨g, 0, none⟩) 5 5 ∧ ∀ k, k < 5 → w.cell? ⟨g, k, none⟩ = signsC[k]?
theorem FiveS.kept : FKept (fun _ => False) FiveS := fun _ _ _ ⟨g, h1, h2⟩ hu => ⟨g, h1, fun k hk => by
  have h3 := h2 k hk
  have h4 : k < signsC.size := hk
  rw [Array.getElem?_eq_getElem h4] at h3 ⊢
  exact hu.cell h3 id⟩
theorem FiveS.new (w : World) : FiveS (.slice (some ⟨w.heap.size, 0, none⟩) 5 5) (w.alloc (.cells signsC 9)) := ⟨_, rfl, fun k _ => cell_at (heap_new w _) k⟩
def PtS (s : Nat) (v : Value) (w : World) : Prop := ∃ g, v = .pointer (some ⟨g, s, none⟩) ∧ w.cell? ⟨g, s, none⟩ = some (.string (strB [sgB s]))
theorem PtS.kept {s : Nat} : FKept (fun _ => False) (PtS s) := fun _ _ _ ⟨g, h1, h2⟩ hu => ⟨g, h1, hu.cell h2 id⟩
theorem PtS.of {s g : Nat} {w : World} (h : w.cell? ⟨g, s, none⟩ = some (.string (strB [sgB s]))) : PtS s (.pointer (some ⟨g, s, none⟩)) w := ⟨g, rfl, h⟩
theorem cut_one {l : List UInt8} {i : Nat} {c : UInt8} (h : l[i]? = some c) (w : World) : (Instr.slice 9 (.string (strB l)) (some (.int .i64 i)) (some (.int .i64 ((i : Int) + 1))) none).run Tryz.prog w = .ok (.string (strB [c])) w := by
  obtain ⟨hi, rfl⟩ := List.getElem?_eq_some_iff.1 h
  have e : (l.drop i).take (i + 1 - i) = [l[i]] := by
    rw [show i + 1 - i = 1 by omega, List.drop_eq_getElem_cons hi]
    rfl
  rw [← e]
  exact str_cut (l := l) (i := i) (j := i + 1) (by omega) (by omega) w
set_option maxRecDepth 100000 in
theorem dec_any (n : Nat) (h : n < 10) (w : World) : Calls Tryz.prog 42 #[.int .i64 n] w fun e w' => e = .returned (.string (strB [UInt8.ofNat (48 + n)])) ∧ w = w' := by
  have hl : ([48, 49, 50, 51, 52, 53, 54, 55, 56, 57] : List UInt8)[n]? = some (UInt8.ofNat (48 + n)) := by
    have : n = 0 ∨ n = 1 ∨ n = 2 ∨ n = 3 ∨ n = 4 ∨ n = 5 ∨ n = 6 ∨ n = 7 ∨ n = 8 ∨ n = 9 := by omega
    rcases this with rfl | rfl | rfl | rfl | rfl | rfl | rfl | rfl | rfl | rfl <;> rfl
  have hcut : ∀ w, (Instr.slice 9 (.string ⟨#[48, 49, 50, 51, 52, 53, 54, 55, 56, 57]⟩) (some (.int .i64 n)) (some (.int .i64 ((n : Int) + 1))) none).run Tryz.prog w = .ok (.string (strB [UInt8.ofNat (48 + n)])) w := fun w => cut_one hl w
  replace hl := hide hl
  have h10 : (n : Int) < 10 := by omega
  have h0 : ¬ (n : Int) < 0 := by omega
  clear h
  go_enter Tryz.func42, Tryz.ntmps42
  go_wp2_with fail
  go_ret
  exact ⟨rfl, rfl⟩
set_option maxRecDepth 100000 in
set_option maxHeartbeats 1600000 in
theorem whole_two (k : Nat) (a b : Ex) (va vb : Value) (g : Nat) (w : World) (hg : w.heap[g]? = some (.cells #[.int .i64 k, .int .i64 0, .string ⟨#[]⟩, va, vb] 63 (0, 0))) (hk : 2 ≤ k) (hk6 : k ≤ 6) (hl : (wholeT (.bin k a b)).length ≤ 100000)
    (hA : ∀ w', Upd (fun _ => False) w w' → Calls Tryz.prog 19 #[va] w' fun e w2 => e = .returned (.string (strB (wholeT a))) ∧ Below w'.heap.size w' w2)
    (hB : ∀ w', Upd (fun _ => False) w w' → Calls Tryz.prog 19 #[vb] w' fun e w2 => e = .returned (.string (strB (wholeT b))) ∧ Below w'.heap.size w' w2) :
    Calls Tryz.prog 19 #[.pointer (some ⟨g, 0, none⟩)] w fun e w' => e = .returned (.string (strB (wholeT (.bin k a b)))) ∧ Below w.heap.size w w' := by
  obtain ⟨s, hs⟩ : ∃ s, s = k - 2 := ⟨_, rfl⟩
  have hs5 : s < 5 := by omega
  rw [whole_bin] at hl
  obtain ⟨T4, hT4⟩ : ∃ T4, T4 = wholeT (.bin k a b) := ⟨_, rfl⟩
  rw [← hT4]
  rw [wholeT, ← hs] at hT4
  generalize wholeT a = Ta at *
  generalize wholeT b = Tb at *
  obtain ⟨T1, e1⟩ : ∃ T, T = [40] ++ Ta := ⟨_, rfl⟩
  rw [← e1] at hT4
  obtain ⟨T2, e2⟩ : ∃ T, T = T1 ++ [sgB s] := ⟨_, rfl⟩
  rw [← e2] at hT4
  obtain ⟨T3, e3⟩ : ∃ T, T = T2 ++ Tb := ⟨_, rfl⟩
  rw [← e3] at hT4
  have h1 := hide (fun w => by rw [e1]; exact str_add [40] Ta (by show 1 + _ ≤ _; omega) w : ∀ w, (Op.stringOp .add ⟨#[40]⟩ (strB Ta)).run Tryz.prog w = .ok (.string (strB T1)) w)
  have h2 := hide (fun w => by rw [e2]; exact str_add T1 [sgB s] (by rw [e1, List.length_append]; show 1 + _ + 1 ≤ _; omega) w : ∀ w, (Op.stringOp .add (strB T1) (strB [sgB s])).run Tryz.prog w = .ok (.string (strB T2)) w)
  have h3 := hide (fun w => by rw [e3]; exact str_add T2 Tb (by rw [e2, e1, List.length_append, List.length_append]; show 1 + _ + 1 + _ ≤ _; omega) w : ∀ w, (Op.stringOp .add (strB T2) (strB Tb)).run Tryz.prog w = .ok (.string (strB T3)) w)
  have h4 := hide (fun w => by rw [hT4]; exact str_add T3 [41] (by rw [e3, e2, e1, List.length_append, List.length_append, List.length_append]; show 1 + _ + 1 + _ + 1 ≤ _; omega) w : ∀ w, (Op.stringOp .add (strB T3) ⟨#[41]⟩).run Tryz.prog w = .ok (.string (strB T4)) w)
  have hsub := hide (show IntKind.i64.wrap ((k : Int) - 2) = (s : Int) by simp [IntKind.wrap, IntKind.bits, IntKind.signed]; omega)
  have hm := hide (show (s : Int).tmod 5 = (s : Int) by rw [Int.tmod_eq_emod_of_nonneg (by omega)]; omega)
  have c0 : w.cell? ⟨g, 0, none⟩ = some (.int .i64 k) := (cell_at hg 0).trans rfl
  have c3 : w.cell? ⟨g, 3, none⟩ = some va := (cell_at hg 3).trans rfl
  have c4 : w.cell? ⟨g, 4, none⟩ = some vb := (cell_at hg 4).trans rfl
  have k0 : ((k : Int) == 0) = false := beq_false_of_ne (by omega)
  have k1 : ((k : Int) == 1) = false := beq_false_of_ne (by omega)
  replace hA := hide hA
  replace hB := hide hB
  replace hs := hide hs
  clear hT4 e1 e2 e3 hl hk hk6 hg
  go_enter Tryz.func19, Tryz.ntmps19
  go_wp2_with fail
  replace c0 := hide c0
  replace c3 := hide c3
  replace c4 := hide c4
  refine wp_region_flow (fun _ => False) (factAt [(fun v _ => v = (.pointer (some ⟨g, 0, none⟩))), (fun v _ => v = (.pointer (some ⟨g, 0, none⟩))), (fun v _ => v = (.pointer (some ⟨g, 3, none⟩))), (fun v _ => v = va), (fun v _ => v = (.string (strB Ta))), (fun v _ => v = (.string (strB T1))), (fun v w => FiveS v w), (fun v _ => v = (.pointer (some ⟨g, 0, none⟩))), (fun v _ => v = (.pointer (some ⟨g, 0, none⟩))), (fun v _ => v = (.pointer (some ⟨g, 0, none⟩))), (fun v _ => v = (.int .i64 k)), (fun v _ => v = (.int .i64 s)), (fun v _ => v = (.int .i64 s)), (fun v w => PtS s v w), (fun v _ => v = (.string (strB [sgB s]))), (fun v _ => v = (.string (strB T2))), (fun v _ => v = (.pointer (some ⟨g, 0, none⟩))), (fun v _ => v = (.pointer (some ⟨g, 0, none⟩))), (fun v _ => v = (.pointer (some ⟨g, 4, none⟩))), (fun v _ => v = vb), (fun v _ => v = (.string (strB Tb))), (fun v _ => v = (.string (strB T3))), (fun v _ => v = (.string (strB T4))), (fun v _ => v = (.string (strB T4)))]) [] (fun _ => True) (by kernel_rfl) (fkept_at ⟨FKept.eq _, FKept.eq _, FKept.eq _, FKept.eq _, FKept.eq _, FKept.eq _, FiveS.kept, FKept.eq _, FKept.eq _, FKept.eq _, FKept.eq _, FKept.eq _, FKept.eq _, PtS.kept, FKept.eq _, FKept.eq _, FKept.eq _, FKept.eq _, FKept.eq _, FKept.eq _, FKept.eq _, FKept.eq _, FKept.eq _, FKept.eq _, trivial⟩) (fun _ _ h _ => h) trivial (by kernel_rfl) (by kernel_rfl) (by kernel_rfl) (by kernel_rfl) (Nat.le_of_ble_eq_true (by kernel_rfl)) ?_ ⟨?_, ?_, ?_, ?_, ?_, ?_, ?_, ?_, ?_, ?_, ?_, ?_, ?_, ?_, ?_, ?_, ?_, ?_, ?_, ?_, ?_, ?_, ?_, ?_, trivial⟩ ?_
  · first | exact trivial | assumption
  · intro T w Q hu hs hv hw hd
    have hx0 : T.getD 0 undef = (.pointer (some ⟨g, 0, none⟩)) := hv 0 (by kernel_rfl)
    refine .inl ⟨wanted_none rfl, ?_⟩
    clear hd hv hu hs hw
    go_simp
    exact ⟨_, rfl, DstOk.some rfl, Below.refl _ _, rfl⟩
  · intro T w Q hu hs hv hw hd
    have hx20 : T.getD 20 undef = (.pointer (some ⟨g, 0, none⟩)) := Deps.at 0 hd (by kernel_rfl)
    refine .inl ⟨wanted_none rfl, ?_⟩
    clear hd hv hu hs hw
    go_simp
    exact ⟨_, rfl, DstOk.some rfl, Below.refl _ _, rfl⟩
  · intro T w Q hu hs hv hw hd
    have hx21 : T.getD 21 undef = (.pointer (some ⟨g, 0, none⟩)) := Deps.at 1 hd (by kernel_rfl)
    refine .inl ⟨wanted_none rfl, ?_⟩
    clear hd hv hu hs hw
    go_simp
    exact ⟨_, rfl, DstOk.some rfl, Below.refl _ _, rfl⟩
  · intro T w Q hu hs hv hw hd
    have hx22 : T.getD 22 undef = (.pointer (some ⟨g, 3, none⟩)) := Deps.at 2 hd (by kernel_rfl)
    refine .inl ⟨wanted_none rfl, ?_⟩
    have hq := hu.cell c3.out id
    clear hd hv hu hs hw
    go_simp
    exact ⟨_, rfl, DstOk.some rfl, Below.refl _ _, rfl⟩
  · intro T w Q hu hs hv hw hd
    have hx23 : T.getD 23 undef = va := Deps.at 3 hd (by kernel_rfl)
    refine .inl ⟨wanted_none rfl, ?_⟩
    have hN := hA.out w hu
    clear hd hv hu hs hw
    go_simp
    refine hN.mono ?_
    rintro e w5 ⟨rfl, hb⟩
    exact ⟨_, rfl, DstOk.some rfl, hb, rfl⟩
  · intro T w Q hu hs hv hw hd
    have hx24 : T.getD 24 undef = (.string (strB Ta)) := Deps.at 4 hd (by kernel_rfl)
    refine .inl ⟨wanted_none rfl, ?_⟩
    have hC := h1.out w
    clear hd hv hu hs hw
    go_simp
    exact ⟨_, rfl, DstOk.some rfl, Below.refl _ _, rfl⟩
  · intro T w Q hu hs hv hw hd
    refine .inl ⟨wanted_none rfl, ?_⟩
    clear hd hv hu hs hw
    go_simp
    exact ⟨_, rfl, DstOk.some rfl, (Below.refl _ w).alloc (Nat.le_refl _) _, FiveS.new w⟩
  · intro T w Q hu hs hv hw hd
    have hx0 : T.getD 0 undef = (.pointer (some ⟨g, 0, none⟩)) := hv 0 (by kernel_rfl)
    refine .inl ⟨wanted_none rfl, ?_⟩
    clear hd hv hu hs hw
    go_simp
    exact ⟨_, rfl, DstOk.some rfl, Below.refl _ _, rfl⟩
  · intro T w Q hu hs hv hw hd
    have hx27 : T.getD 27 undef = (.pointer (some ⟨g, 0, none⟩)) := Deps.at 7 hd (by kernel_rfl)
    refine .inl ⟨wanted_none rfl, ?_⟩
    clear hd hv hu hs hw
    go_simp
    exact ⟨_, rfl, DstOk.some rfl, Below.refl _ _, rfl⟩
  · intro T w Q hu hs hv hw hd
    have hx28 : T.getD 28 undef = (.pointer (some ⟨g, 0, none⟩)) := Deps.at 8 hd (by kernel_rfl)
    refine .inl ⟨wanted_none rfl, ?_⟩
    clear hd hv hu hs hw
    go_simp
    exact ⟨_, rfl, DstOk.some rfl, Below.refl _ _, rfl⟩
  · intro T w Q hu hs hv hw hd
    have hx29 : T.getD 29 undef = (.pointer (some ⟨g, 0, none⟩)) := Deps.at 9 hd (by kernel_rfl)
    refine .inl ⟨wanted_none rfl, ?_⟩
    have hq := hu.cell c0.out id
    clear hd hv hu hs hw
    go_simp
    exact ⟨_, rfl, DstOk.some rfl, Below.refl _ _, rfl⟩
  · intro T w Q hu hs hv hw hd
    have hx30 : T.getD 30 undef = (.int .i64 k) := Deps.at 10 hd (by kernel_rfl)
    refine .inl ⟨wanted_none rfl, ?_⟩
    clear hd hv hu hs hw
    go_simp
    exact ⟨_, rfl, DstOk.some rfl, Below.refl _ _, congrArg (Value.int .i64) hsub.out⟩
  · intro T w Q hu hs hv hw hd
    have hx31 : T.getD 31 undef = (.int .i64 s) := Deps.at 11 hd (by kernel_rfl)
    refine .inl ⟨wanted_none rfl, ?_⟩
    clear hd hv hu hs hw
    go_simp
    exact ⟨_, rfl, DstOk.some rfl, Below.refl _ _, congrArg (Value.int .i64) hm.out⟩
  · intro T w Q hu hs hv hw hd
    have f26 : (fun (v : Value) (w : World) => FiveS v w) (T.getD 26 undef) w := Deps.at 6 hd (by kernel_rfl)
    generalize hx26 : T.getD 26 undef = x26 at f26
    replace f26 := hide f26
    have hx32 : T.getD 32 undef = (.int .i64 s) := Deps.at 12 hd (by kernel_rfl)
    refine .inl ⟨wanted_none rfl, ?_⟩
    obtain ⟨g5, rfl, hg5⟩ := f26.out
    have hp := hg5 s hs5
    rw [signsC_at hs5] at hp
    replace hp := hide hp
    replace hg5 := hide hg5
    have hsI : (s : Int) < 5 := by omega
    clear hd hv hu hs hw f26
    go_simp
    exact ⟨_, rfl, DstOk.some rfl, Below.refl _ _, PtS.of hp.out⟩
  · intro T w Q hu hs hv hw hd
    have f33 : (fun (v : Value) (w : World) => PtS s v w) (T.getD 33 undef) w := Deps.at 13 hd (by kernel_rfl)
    generalize hx33 : T.getD 33 undef = x33 at f33
    replace f33 := hide f33
    refine .inl ⟨wanted_none rfl, ?_⟩
    obtain ⟨g5, rfl, hp⟩ := f33.out
    clear hd hv hu hs hw f33
    go_simp
    exact ⟨_, rfl, DstOk.some rfl, Below.refl _ _, rfl⟩
  · intro T w Q hu hs hv hw hd
    have hx25 : T.getD 25 undef = (.string (strB T1)) := Deps.at 5 hd (by kernel_rfl)
    have hx34 : T.getD 34 undef = (.string (strB [sgB s])) := Deps.at 14 hd (by kernel_rfl)
    refine .inl ⟨wanted_none rfl, ?_⟩
    have hC := h2.out w
    clear hd hv hu hs hw
    go_simp
    exact ⟨_, rfl, DstOk.some rfl, Below.refl _ _, rfl⟩
  · intro T w Q hu hs hv hw hd
    have hx0 : T.getD 0 undef = (.pointer (some ⟨g, 0, none⟩)) := hv 0 (by kernel_rfl)
    refine .inl ⟨wanted_none rfl, ?_⟩
    clear hd hv hu hs hw
    go_simp
    exact ⟨_, rfl, DstOk.some rfl, Below.refl _ _, rfl⟩
  · intro T w Q hu hs hv hw hd
    have hx36 : T.getD 36 undef = (.pointer (some ⟨g, 0, none⟩)) := Deps.at 16 hd (by kernel_rfl)
    refine .inl ⟨wanted_none rfl, ?_⟩
    clear hd hv hu hs hw
    go_simp
    exact ⟨_, rfl, DstOk.some rfl, Below.refl _ _, rfl⟩
  · intro T w Q hu hs hv hw hd
    have hx37 : T.getD 37 undef = (.pointer (some ⟨g, 0, none⟩)) := Deps.at 17 hd (by kernel_rfl)
    refine .inl ⟨wanted_none rfl, ?_⟩
    clear hd hv hu hs hw
    go_simp
    exact ⟨_, rfl, DstOk.some rfl, Below.refl _ _, rfl⟩
  · intro T w Q hu hs hv hw hd
    have hx38 : T.getD 38 undef = (.pointer (some ⟨g, 4, none⟩)) := Deps.at 18 hd (by kernel_rfl)
    refine .inl ⟨wanted_none rfl, ?_⟩
    have hq := hu.cell c4.out id
    clear hd hv hu hs hw
    go_simp
    exact ⟨_, rfl, DstOk.some rfl, Below.refl _ _, rfl⟩
  · intro T w Q hu hs hv hw hd
    have hx39 : T.getD 39 undef = vb := Deps.at 19 hd (by kernel_rfl)
    refine .inl ⟨wanted_none rfl, ?_⟩
    have hN := hB.out w hu
    clear hd hv hu hs hw
    go_simp
    refine hN.mono ?_
    rintro e w5 ⟨rfl, hb⟩
    exact ⟨_, rfl, DstOk.some rfl, hb, rfl⟩
  · intro T w Q hu hs hv hw hd
    have hx35 : T.getD 35 undef = (.string (strB T2)) := Deps.at 15 hd (by kernel_rfl)
    have hx40 : T.getD 40 undef = (.string (strB Tb)) := Deps.at 20 hd (by kernel_rfl)
    refine .inl ⟨wanted_none rfl, ?_⟩
    have hC := h3.out w
    clear hd hv hu hs hw
    go_simp
    exact ⟨_, rfl, DstOk.some rfl, Below.refl _ _, rfl⟩
  · intro T w Q hu hs hv hw hd
    have hx41 : T.getD 41 undef = (.string (strB T3)) := Deps.at 21 hd (by kernel_rfl)
    refine .inl ⟨wanted_none rfl, ?_⟩
    have hC := h4.out w
    clear hd hv hu hs hw
    go_simp
    exact ⟨_, rfl, DstOk.some rfl, Below.refl _ _, rfl⟩
  · intro T w Q hu hs hv hw hd
    have hx42 : T.getD 42 undef = (.string (strB T4)) := Deps.at 22 hd (by kernel_rfl)
    refine .inl ⟨wanted_none rfl, ?_⟩
    clear hd hv hu hs hw
    go_simp
    exact ⟨_, rfl, DstOk.some rfl, Below.refl _ _, rfl⟩
  intro T w hu hs hv hf hcur
  have hT : T = #[T.getD 0 undef, T.getD 1 undef, T.getD 2 undef, T.getD 3 undef, T.getD 4 undef, T.getD 5 undef, T.getD 6 undef, T.getD 7 undef, T.getD 8 undef, T.getD 9 undef, T.getD 10 undef, T.getD 11 undef, T.getD 12 undef, T.getD 13 undef, T.getD 14 undef, T.getD 15 undef, T.getD 16 undef, T.getD 17 undef, T.getD 18 undef, T.getD 19 undef, T.getD 20 undef, T.getD 21 undef, T.getD 22 undef, T.getD 23 undef, T.getD 24 undef, T.getD 25 undef, T.getD 26 undef, T.getD 27 undef, T.getD 28 undef, T.getD 29 undef, T.getD 30 undef, T.getD 31 undef, T.getD 32 undef, T.getD 33 undef, T.getD 34 undef, T.getD 35 undef, T.getD 36 undef, T.getD 37 undef, T.getD 38 undef, T.getD 39 undef, T.getD 40 undef, T.getD 41 undef, T.getD 42 undef] := expl hs
  rw [hT]
  clear hT
  rw [show T.getD 0 undef = (.pointer (some ⟨g, 0, none⟩)) from hv 0 (by kernel_rfl)]
  rw [hv 1 (by kernel_rfl)]
  rw [show T.getD 2 undef = (.string (strB T4)) from hf 23 (by decide)]
  rw [hv 3 (by kernel_rfl)]
  rw [hv 4 (by kernel_rfl)]
  rw [hv 5 (by kernel_rfl)]
  rw [hv 6 (by kernel_rfl)]
  rw [hv 7 (by kernel_rfl)]
  rw [hv 8 (by kernel_rfl)]
  rw [hv 9 (by kernel_rfl)]
  rw [hv 10 (by kernel_rfl)]
  rw [hv 11 (by kernel_rfl)]
  rw [hv 12 (by kernel_rfl)]
  rw [hv 13 (by kernel_rfl)]
  rw [hv 14 (by kernel_rfl)]
  rw [hv 15 (by kernel_rfl)]
  rw [hv 16 (by kernel_rfl)]
  rw [hv 17 (by kernel_rfl)]
  rw [hv 18 (by kernel_rfl)]
  rw [hv 19 (by kernel_rfl)]
  rw [show T.getD 20 undef = (.pointer (some ⟨g, 0, none⟩)) from hf 0 (by decide)]
  rw [show T.getD 21 undef = (.pointer (some ⟨g, 0, none⟩)) from hf 1 (by decide)]
  rw [show T.getD 22 undef = (.pointer (some ⟨g, 3, none⟩)) from hf 2 (by decide)]
  rw [show T.getD 23 undef = va from hf 3 (by decide)]
  rw [show T.getD 24 undef = (.string (strB Ta)) from hf 4 (by decide)]
  rw [show T.getD 25 undef = (.string (strB T1)) from hf 5 (by decide)]
  rw [show T.getD 27 undef = (.pointer (some ⟨g, 0, none⟩)) from hf 7 (by decide)]
  rw [show T.getD 28 undef = (.pointer (some ⟨g, 0, none⟩)) from hf 8 (by decide)]
  rw [show T.getD 29 undef = (.pointer (some ⟨g, 0, none⟩)) from hf 9 (by decide)]
  rw [show T.getD 30 undef = (.int .i64 k) from hf 10 (by decide)]
  rw [show T.getD 31 undef = (.int .i64 s) from hf 11 (by decide)]
  rw [show T.getD 32 undef = (.int .i64 s) from hf 12 (by decide)]
  rw [show T.getD 34 undef = (.string (strB [sgB s])) from hf 14 (by decide)]
  rw [show T.getD 35 undef = (.string (strB T2)) from hf 15 (by decide)]
  rw [show T.getD 36 undef = (.pointer (some ⟨g, 0, none⟩)) from hf 16 (by decide)]
  rw [show T.getD 37 undef = (.pointer (some ⟨g, 0, none⟩)) from hf 17 (by decide)]
  rw [show T.getD 38 undef = (.pointer (some ⟨g, 4, none⟩)) from hf 18 (by decide)]
  rw [show T.getD 39 undef = vb from hf 19 (by decide)]
  rw [show T.getD 40 undef = (.string (strB Tb)) from hf 20 (by decide)]
  rw [show T.getD 41 undef = (.string (strB T3)) from hf 21 (by decide)]
  rw [show T.getD 42 undef = (.string (strB T4)) from hf 22 (by decide)]
  clear hf hs hv hcur
  simp only [getD_toArray, List.getD_cons_succ, List.getD_cons_zero]
  generalize T.getD 26 undef = y26
  generalize T.getD 33 undef = y33
  clear T
  have hb9 := hide (hu.below (Nat.le_refl _) fun _ h => h.elim)
  clear hu
  go_wp2_with fail
  go_ret
  exact ⟨rfl, hb9.out⟩
set_option maxRecDepth 100000 in
theorem whole_num (n : Nat) (g : Nat) (va vb : Value) (w : World) (hn : n < 10) (hg : w.heap[g]? = some (.cells #[.int .i64 0, .int .i64 n, .string ⟨#[]⟩, va, vb] 63 (0, 0))) : Calls Tryz.prog 19 #[.pointer (some ⟨g, 0, none⟩)] w fun e w' => e = .returned (.string (strB (wholeT (.num n)))) ∧ Below w.heap.size w w' := by
  have c0 : w.cell? ⟨g, 0, none⟩ = some (.int .i64 0) := (cell_at hg 0).trans rfl
  have c1 : w.cell? ⟨g, 1, none⟩ = some (.int .i64 n) := (cell_at hg 1).trans rfl
  have hD := hide (dec_any n hn)
  show Calls _ _ _ _ fun e w' => e = .returned (.string (strB [UInt8.ofNat (48 + n)])) ∧ _
  generalize UInt8.ofNat (48 + n) = cd at *
  clear hg hn
  go_enter Tryz.func19, Tryz.ntmps19
  go_wp2_with fail
  refine (hD.out w).mono ?_
  rintro e w1 ⟨rfl, rfl⟩
  go_wp2_with fail
  go_ret
  exact ⟨rfl, Below.refl _ _⟩
set_option maxRecDepth 100000 in
theorem whole_var (x : List UInt8) (g : Nat) (va vb : Value) (w : World) (hg : w.heap[g]? = some (.cells #[.int .i64 1, .int .i64 0, .string (strB x), va, vb] 63 (0, 0))) : Calls Tryz.prog 19 #[.pointer (some ⟨g, 0, none⟩)] w fun e w' => e = .returned (.string (strB (wholeT (.var x)))) ∧ Below w.heap.size w w' := by
  have c0 : w.cell? ⟨g, 0, none⟩ = some (.int .i64 1) := (cell_at hg 0).trans rfl
  have c2 : w.cell? ⟨g, 2, none⟩ = some (.string (strB x)) := (cell_at hg 2).trans rfl
  show Calls _ _ _ _ fun e w' => e = .returned (.string (strB x)) ∧ _
  clear hg
  go_enter Tryz.func19, Tryz.ntmps19
  go_wp2_with fail
  go_ret
  exact ⟨rfl, Below.refl _ _⟩
theorem whole_any {S : Nat → Prop} : ∀ (e : Ex) (v : Value) (w : World), ExV w S e v → WfE e → (wholeT e).length ≤ 100000 → Calls Tryz.prog 19 #[v] w fun r w' => r = .returned (.string (strB (wholeT e))) ∧ Below w.heap.size w w'
  | .num n, _, w, ⟨g, h1, _, hg⟩, hw, _ => by subst h1; exact whole_num n g _ _ w hw hg
  | .var x, _, w, ⟨g, h1, _, hg⟩, _, _ => by subst h1; exact whole_var x g _ _ w hg
  | .neg _, _, _, _, hw, _ => hw.elim
  | .bin k a b, _, w, ⟨va, vb, ⟨g, h1, _, hg⟩, ha, hb⟩, ⟨h2, h6, hwa, hwb⟩, hl => by
    subst h1
    have hl' := hl
    rw [whole_bin] at hl'
    exact whole_two k a b va vb g w hg h2 h6 hl (fun w' hu => whole_any a va w' (ExV.upd hu (fun _ _ => id) _ _ ha) hwa (by omega)) (fun w' hu => whole_any b vb w' (ExV.upd hu (fun _ _ => id) _ _ hb) hwb (by omega))
end Go.Proofs.YteplkhgaoaphhaaGreatDoor
