/- Part 20 of the walks (merged): PsR4, PsR5, PsR6, Known7, Rep, Many. -/
import Derived.Test.YteplkhgaoaphhaaGreatDoorM16
import Derived.Test.YteplkhgaoaphhaaGreatDoorM19
import Derived.Deep.Cut
import Derived.Test.YteplkhgaoaphhaaGreatDoorM17
import Derived.Test.YteplkhgaoaphhaaGreatDoorM1
/- The deferred closure of the parser's read, of globals. Written by mkread.py. -/
namespace Go.Proofs.YteplkhgaoaphhaaGreatDoor
open Go Go.RowKit Go.Lib
theorem GlV.upd {w w' : World} {B : Nat} {F : Nat → Prop} {a : Gl} {v : Value} (hu : Upd F w w') (hF : ∀ b, B ≤ b → ¬ F b) (h : GlV w B a v) : GlV w' B a v := by
  obtain ⟨A1, n1, c1, A2, n2, c2, h1, h2, h3⟩ := h
  exact ⟨A1, n1, c1, A2, n2, c2, h1, h2.upd strFam hu hF, h3.upd arrFam hu hF⟩
theorem GlV.mono {w : World} {B B' : Nat} {a : Gl} {v : Value} (hB : B' ≤ B) (h : GlV w B a v) : GlV w B' a v := by
  obtain ⟨A1, n1, c1, A2, n2, c2, h1, h2, h3⟩ := h
  exact ⟨A1, n1, c1, A2, n2, c2, h1, h2.mono strFam (fun b _ hb => Nat.le_trans hB hb) (by decide), h3.mono arrFam (fun b _ hb => Nat.le_trans hB hb) (by decide)⟩
set_option maxRecDepth 100000 in
set_option maxHeartbeats 1600000 in
theorem caughtG (g h : Nat) (a k : Nat) (older : List PanicEntry) (w : World) (u0 u1 : Value) (Hg : w.heap[g]? = some (.cells #[u0] 3 (0, 0))) (Hh : w.heap[h]? = some (.cells #[u1] 28 (0, 0))) (hne : g ≠ h) :
    CallsD Tryz.prog 60 #[.pointer (some ⟨g, 0, none⟩), .pointer (some ⟨h, 0, none⟩)] (.panicking ({ v := faultV a k, recovered := false } :: older)) w fun e u' w' =>
      e = .returned (.tuple #[]) ∧ u' = .panicking ({ v := faultV a k, recovered := true } :: older) ∧ Upd (fun b => b = g ∨ b = h) w w' ∧ w'.heap[g]? = some (.cells #[.int .i64 a] 3 (0, 0)) ∧ w'.heap[h]? = some (.cells #[.int .i64 k] 28 (0, 0)) := by
  have hg := cell_at Hg 0
  have hh := cell_at Hh 0
  have fg := frozen_at Hg 0
  have fh := frozen_at Hh 0
  simp at hg hh
  unfold faultV
  have hta : ∀ w, (Instr.typeAssert (.iface 97 (.agg #[.int .i64 a, .int .i64 k])) 20 97 true).run Tryz.prog w = .ok (.tuple #[.agg #[.int .i64 a, .int .i64 k], .bool true]) w := fun _ => by kernel_rfl
  refine callsD_of_wpS Tryz.func60 rfl fun c₀ cs hu => ?_
  apply wpS_seq
  apply wpS_region
  simp [wpOpsS, go_sem, recoverD, hu, hta, Tryz.ntmps60, Exit.thenS]
  apply wpS_seq
  apply wpS_region
  simp [wpOpsS, go_sem, Exit.thenS]
  refine wpS_cond (t := true) (by simp [Act.eval, Array.replicate]) ?_
  simp only [if_true]
  refine wpS_of_wp ?_
  have lg := World.block_lt_of_cell? w _ hg
  have lh := World.block_lt_of_cell? w _ hh
  have hne2 : ¬ (h = g) := fun e => hne e.symm
  have eg : ¬ (w.heap.size = g) := by have : g < w.heap.size := lg; omega
  have eh : ¬ (w.heap.size = h) := by have : h < w.heap.size := lh; omega
  have ag : (w.alloc (.cells #[.int .i64 a, .int .i64 k] 97)).cell? ⟨g, 0, none⟩ = some u0 := (Upd.alloc (fun _ => False) w _).cell hg id
  have ah : (w.alloc (.cells #[.int .i64 a, .int .i64 k] 97)).cell? ⟨h, 0, none⟩ = some u1 := (Upd.alloc (fun _ => False) w _).cell hh id
  have zg : (w.alloc (.cells #[.int .i64 a, .int .i64 k] 97)).frozen? ⟨g, 0, none⟩ = false := by rw [((Below.refl w.heap.size w).alloc (Nat.le_refl _) _).frozen (p := ⟨g, 0, none⟩) lg]; exact fg
  have zh : (w.alloc (.cells #[.int .i64 a, .int .i64 k] 97)).frozen? ⟨h, 0, none⟩ = false := by rw [((Below.refl w.heap.size w).alloc (Nat.le_refl _) _).frozen (p := ⟨h, 0, none⟩) lh]; exact fh
  clear hta
  refine wp_mono (Q := fun e a' w' => e = .normal ∧ a'.defers = [] ∧ Upd (fun b => b = g ∨ b = h) w w' ∧ w'.heap[g]? = some (.cells #[.int .i64 a] 3 (0, 0)) ∧ w'.heap[h]? = some (.cells #[.int .i64 k] 28 (0, 0))) ?_ ?_
  · go_wp2_with fail
    go_region
    all_goals exact ⟨rfl, rfl, set2 Hg Hh hne⟩
  · rintro e a' w' ⟨rfl, h0, h1, h2, h3⟩
    simp [bodyPostS, results, Tryz.results60]
    exact ⟨h0, h1, h2, h3⟩
set_option maxRecDepth 100000 in
set_option maxHeartbeats 1600000 in
theorem idleG (g h : Nat) (w : World) :
    CallsD Tryz.prog 60 #[.pointer (some ⟨g, 0, none⟩), .pointer (some ⟨h, 0, none⟩)] .returning w fun e u' w' => e = .returned (.tuple #[]) ∧ u' = .returning ∧ Below w.heap.size w w' := by
  have hta : ∀ w, (Instr.typeAssert .nilIface 20 97 true).run Tryz.prog w = .ok (.tuple #[.agg #[.int .i64 0, .int .i64 0], .bool false]) w := fun _ => by kernel_rfl
  refine callsD_of_wpS Tryz.func60 rfl fun c₀ cs hu => ?_
  apply wpS_seq
  apply wpS_region
  simp [wpOpsS, go_sem, recoverD, hu, hta, Tryz.ntmps60, Exit.thenS]
  apply wpS_seq
  apply wpS_region
  simp [wpOpsS, go_sem, Exit.thenS]
  refine wpS_cond (t := false) (by simp [Act.eval, Array.replicate]) ?_
  simp only [Bool.false_eq_true, if_false]
  refine wpS_of_wp (wp_skip ?_)
  cases c₀
  simp_all [bodyPostS, results, Tryz.results60]
  exact (Below.refl _ _).alloc (Nat.le_refl _) _
end Go.Proofs.YteplkhgaoaphhaaGreatDoor
/- The walk of the parser's read. Written by mkread.py. -/
namespace Go.Proofs.YteplkhgaoaphhaaGreatDoor
open Go Go.RowKit Go.Lib

set_option maxRecDepth 100000 in
set_option maxHeartbeats 3200000 in
theorem GlVRead_any (f : Nat) (hf : f ≤ 1000000) (l : List UInt8) (hl : l.length ≤ 900000) (W : World) (hE : ErrR W) (hno : textP (globP f) l ≠ none) :
    Calls Tryz.prog 27 #[.string (strB l), .func (.func 28) #[] #[]] W fun e w' => TextR W (.agg #[.slice none 0 0, .slice none 0 0]) GlV (textP (globP f) l) e w' := by
  have hmf : ∀ (fn : Fn) (first cap : Array Value) (w : World), (Instr.makeFunc fn first cap).run Tryz.prog w = .ok (.func fn first cap) w := fun _ _ _ _ => rfl
  have hz : (strB l).size = l.length := rfl
  generalize hX : textP (globP f) l = X at hno ⊢
  replace hX := hide hX
  replace hno := hide hno
  have b0 := hide (heap_old (heap_old (heap_new W (.cells #[.slice none 0 0, .slice none 0 0] 41)) (.cells #[.int .i64 0] 3)) (.cells #[.int .i64 0] 28))
  have b1 := hide (heap_old (heap_new (W.alloc (.cells #[.slice none 0 0, .slice none 0 0] 41)) (.cells #[.int .i64 0] 3)) (.cells #[.int .i64 0] 28))
  have b2 := hide (heap_new ((W.alloc (.cells #[.slice none 0 0, .slice none 0 0] 41)).alloc (.cells #[.int .i64 0] 3)) (.cells #[.int .i64 0] 28))
  have hB : Below W.heap.size W (((W.alloc (.cells #[.slice none 0 0, .slice none 0 0] 41)).alloc (.cells #[.int .i64 0] 3)).alloc (.cells #[.int .i64 0] 28)) := (((Below.refl _ _).alloc (Nat.le_refl _) _).alloc (by simp) _).alloc (by simp; omega) _
  have hN := hide (tokens_any l hl (((W.alloc (.cells #[.slice none 0 0, .slice none 0 0] 41)).alloc (.cells #[.int .i64 0] 3)).alloc (.cells #[.int .i64 0] 28)) (hE.below hB))
  replace hB := hide hB
  have s1 : ((W.alloc (.cells #[.slice none 0 0, .slice none 0 0] 41))).heap.size = W.heap.size + 1 := by simp
  have s2 : (((W.alloc (.cells #[.slice none 0 0, .slice none 0 0] 41)).alloc (.cells #[.int .i64 0] 3))).heap.size = W.heap.size + 1 + 1 := by simp
  have s3 : (((W.alloc (.cells #[.slice none 0 0, .slice none 0 0] 41)).alloc (.cells #[.int .i64 0] 3)).alloc (.cells #[.int .i64 0] 28)).heap.size = W.heap.size + 3 := by simp
  rw [s1] at b1
  rw [s2] at b2
  generalize hW3 : (((W.alloc (.cells #[.slice none 0 0, .slice none 0 0] 41)).alloc (.cells #[.int .i64 0] 3)).alloc (.cells #[.int .i64 0] 28)) = W3 at *
  replace hW3 := hide hW3
  replace s3 := hide s3
  clear s1 s2
  cases hlx : lexT l with
  | error x =>
    obtain ⟨a, k⟩ := x
    have hX : Hid (X = some (.error (a, k))) := hide (by rw [← hX.out]; unfold textP; rw [hlx])
    rw [hlx] at hN
    clear hlx
    go_enter_defers Tryz.func27, Tryz.ntmps27
    go_wp2_with fail
    rw [hW3.out]
    refine hN.out.mono ?_
    rintro e w1 ⟨hb, rfl, hk⟩
    have d0 := heapB b0.out hb
    have d1 := heapB b1.out hb
    have d2 := heapB b2.out hb
    have c1 := cell_at d1 0
    have f1 := frozen_at d1 0
    have c2 : (w1.setCell ⟨W.heap.size + 1, 0, none⟩ (.int .i64 a)).cell? ⟨W.heap.size + 1 + 1, 0, none⟩ = _ := cell_at (by rw [heap_set_other (by omega)]; exact d2) 0
    have f2 : (w1.setCell ⟨W.heap.size + 1, 0, none⟩ (.int .i64 a)).frozen? ⟨W.heap.size + 1 + 1, 0, none⟩ = _ := frozen_at (by rw [heap_set_other (by omega)]; exact d2) 0
    simp at c1 c2
    have hk1 : ((k : Int) != 0) = true := bne_iff_ne.2 (by omega)
    have e0 := hide (show ((w1.setCell ⟨W.heap.size + 1, 0, none⟩ (.int .i64 a)).setCell ⟨W.heap.size + 1 + 1, 0, none⟩ (.int .i64 k)).heap[W.heap.size]? = some (.cells #[.slice none 0 0, .slice none 0 0] 41 (0, 0)) by rw [heap_set_other (by omega), heap_set_other (by omega)]; exact d0)
    have e1 := hide (show ((w1.setCell ⟨W.heap.size + 1, 0, none⟩ (.int .i64 a)).setCell ⟨W.heap.size + 1 + 1, 0, none⟩ (.int .i64 k)).heap[W.heap.size + 1]? = some (.cells #[.int .i64 a] 3 (0, 0)) by rw [heap_set_other (by omega)]; exact heap_set d1 0 _)
    have e2 := hide (show ((w1.setCell ⟨W.heap.size + 1, 0, none⟩ (.int .i64 a)).setCell ⟨W.heap.size + 1 + 1, 0, none⟩ (.int .i64 k)).heap[W.heap.size + 1 + 1]? = some (.cells #[.int .i64 k] 28 (0, 0)) from (by
      have h9 : (w1.setCell ⟨W.heap.size + 1, 0, none⟩ (.int .i64 a)).heap[W.heap.size + 1 + 1]? = some (.cells #[.int .i64 0] 28 (0, 0)) := by rw [heap_set_other (by omega)]; exact d2
      exact heap_set h9 0 _))
    have hb3 := hide (((hB.out.trans (hb.mono hB.out.size)).setCell (show W.heap.size ≤ (⟨W.heap.size + 1, 0, none⟩ : Addr).block from by simp) (.int .i64 a)).setCell (show W.heap.size ≤ (⟨W.heap.size + 1 + 1, 0, none⟩ : Addr).block from by simp; omega) (.int .i64 k))
    clear hk d0 d1 d2 hb
    go_upto_region 3 with (fail)
    clear c1 c2 f1 f2
    generalize (w1.setCell ⟨W.heap.size + 1, 0, none⟩ (.int .i64 a)).setCell ⟨W.heap.size + 1 + 1, 0, none⟩ (.int .i64 k) = w2 at e0 e1 e2 hb3 ⊢
    have j0 := setCell_id (v := .slice none 0 0) e0.out (o := 0) rfl
    have u0 := cell_at e0.out 0
    have v0 := frozen_at e0.out 0
    have j1 := setCell_id (v := .slice none 0 0) e0.out (o := 1) rfl
    have u1 := cell_at e0.out 1
    have v1 := frozen_at e0.out 1
    have i1 := setCell_id (v := .int .i64 a) e1.out (o := 0) rfl
    have i2 := setCell_id (v := .int .i64 k) e2.out (o := 0) rfl
    have x1 := cell_at e1.out 0
    have x2 := cell_at e2.out 0
    have y1 := frozen_at e1.out 0
    have y2 := frozen_at e2.out 0
    simp at u0 u1 x1 x2
    go_region
    go_wp2_with fail
    refine ⟨.tuple #[.agg #[.slice none 0 0, .slice none 0 0], .int .i64 a, .int .i64 k], by simp [results, Tryz.results27, go_sem, x1, x2, u0, u1], ?_⟩
    refine ⟨?_, ?_⟩
    · exact ⟨hb3.out.os, hb3.out.tape, hb3.out.output, hb3.out.size, hb3.out.block⟩
    · rw [hX.out]
  | ok ts =>
    have hX : Hid (wholeP l.length (globP f ts) = X) := hide (by rw [← hX.out]; unfold textP; rw [hlx])
    have hgd := hide (lexT_good hlx)
    rw [hlx] at hN
    clear hlx
    go_enter_defers Tryz.func27, Tryz.ntmps27
    go_wp2_with fail
    rw [hW3.out]
    refine hN.out.mono ?_
    rintro e w1 ⟨hb, v, rfl, hrow⟩
    obtain ⟨A, c, rfl, -⟩ := hrow.slice
    have d0 := heapB b0.out hb
    have d1 := heapB b1.out hb
    have d2 := heapB b2.out hb
    have c1 := cell_at d1 0
    have f1 := frozen_at d1 0
    have i1 := setCell_id (v := .int .i64 0) d1 (o := 0) rfl
    have c2 := cell_at d2 0
    have f2 := frozen_at d2 0
    have i2 := setCell_id (v := .int .i64 0) d2 (o := 0) rfl
    simp at c1 c2
    have hW1 : W3.heap.size ≤ w1.heap.size := hb.size
    have hrl := hide hrow.lt
    replace hrow := hide hrow
    have hb3 := hide (hB.out.trans (hb.mono hB.out.size))
    replace d0 := hide d0
    replace d1 := hide d1
    replace d2 := hide d2
    replace hb := hide hb
    go_wp2_with fail
    have hp3 : W.heap.size + 3 ≤ w1.heap.size := by have := s3.out; omega
    have hPs : PsW (w1.alloc (.cells #[.slice A ts.length c, .int .i64 0, .int .i64 l.length, .int .i64 0, .int .i64 0] 102)) w1.heap.size ⟨.slice A ts.length c, ts, l.length, W3.heap.size⟩ 0 0 ts :=
      ⟨(Upd.alloc (fun _ => False) w1 _).own hrow.out fun _ _ => id, ⟨0, heap_new w1 (.cells #[.slice A ts.length c, .int .i64 0, .int .i64 l.length, .int .i64 0, .int .i64 0] 102), Nat.zero_le _, List.drop_zero⟩, Nat.zero_le _, Nat.zero_le _, ⟨Nat.le_trans hgd.out.2 (by decide), hgd.out.1⟩⟩
    have hb4 := hide (hb3.out.alloc (by omega) (.cells #[.slice A ts.length c, .int .i64 0, .int .i64 l.length, .int .i64 0, .int .i64 0] 102))
    replace d0 := hide (heap_old d0.out (.cells #[.slice A ts.length c, .int .i64 0, .int .i64 l.length, .int .i64 0, .int .i64 0] 102))
    replace d1 := hide (heap_old d1.out (.cells #[.slice A ts.length c, .int .i64 0, .int .i64 l.length, .int .i64 0, .int .i64 0] 102))
    replace d2 := hide (heap_old d2.out (.cells #[.slice A ts.length c, .int .i64 0, .int .i64 l.length, .int .i64 0, .int .i64 0] 102))
    have hwp : w1.heap.size < (w1.alloc (.cells #[.slice A ts.length c, .int .i64 0, .int .i64 l.length, .int .i64 0, .int .i64 0] 102)).heap.size := by simp
    have hF := globals_ok f hf w1.heap.size ⟨.slice A ts.length c, ts, l.length, W3.heap.size⟩ ts _ hPs
    generalize (w1.alloc (.cells #[.slice A ts.length c, .int .i64 0, .int .i64 l.length, .int .i64 0, .int .i64 0] 102)) = w4 at hF hb4 d0 d1 d2 hwp ⊢
    have fall : ∀ (w5 : World) (a k : Nat), X = some (.error (a, k)) → Upd (At w1.heap.size) w4 w5 → ∀ (w6 : World), Upd (fun b => b = W.heap.size + 1 ∨ b = W.heap.size + 1 + 1) w5 w6 → w6.heap[W.heap.size + 1]? = some (.cells #[.int .i64 a] 3 (0, 0)) → w6.heap[W.heap.size + 1 + 1]? = some (.cells #[.int .i64 k] 28 (0, 0)) →
        TextR W (.agg #[.slice none 0 0, .slice none 0 0]) GlV X (.returned (.tuple #[.agg #[.slice none 0 0, .slice none 0 0], .int .i64 a, .int .i64 k])) w6 ∧ w6.heap[W.heap.size]? = some (.cells #[.slice none 0 0, .slice none 0 0] 41 (0, 0)) := by
      intro w5 a k hx hU w6 hU6 h1 h2
      refine ⟨⟨?_, by rw [hx]⟩, ?_⟩
      · exact (((Upd.of_below (fun _ => False) hb4.out).trans hU fun b hb e => by simp only [At] at e; omega).trans hU6 fun b hb e => by rcases e with e | e <;> omega).below (Nat.le_refl _) fun b e => e.elim
      · exact hU6.heap (hU.heap d0.out (by simp only [At]; omega)) (by omega)
    cases hr : globP f ts with
    | no =>
      rw [hr] at hX
      exact absurd hX.out.symm hno.out
    | er r k =>
      rw [hr] at hX hF
      have hX2 : X = some (.error (atOf l.length r, k)) := hX.out.symm
      replace fall := hide (fun w5 h1 w6 => fall w5 _ _ hX2 h1 w6)
      refine (hF fun e => by cases e).mono ?_
      rintro e w5 ⟨hU, rfl⟩
      have g1 := hide (hU.heap d1.out (by simp only [At]; omega))
      have g2 := hide (hU.heap d2.out (by simp only [At]; omega))
      replace fall := hide (fall.out w5 hU)
      clear hU hr hF hX hX2 hPs i1 i2 c1 c2 f1 f2
      go_wp2_with fail
      refine leaves_cons (f := 60) (args := #[.pointer (some ⟨W.heap.size + 1, 0, none⟩), .pointer (some ⟨W.heap.size + 1 + 1, 0, none⟩)]) (by simp) (by simp [go_sem]) ?_
      refine (caughtG (W.heap.size + 1) (W.heap.size + 1 + 1) (atOf l.length r) k [] w5 _ _ g1.out g2.out (by omega)).mono ?_
      rintro e u' w6 ⟨rfl, rfl, hU6, h1, h2⟩
      obtain ⟨q1, q2⟩ := fall.out w6 hU6 h1 h2
      have x1 := cell_at h1 0
      have x2 := cell_at h2 0
      have u0 := cell_at q2 0
      have u1 := cell_at q2 1
      simp at x1 x2 u0 u1
      clear h1 h2 q2 hU6
      refine ⟨.tuple #[.agg #[.slice none 0 0, .slice none 0 0], .int .i64 (atOf l.length r), .int .i64 k], by simp [results, Tryz.results27, go_sem, x1, x2, u0, u1], ?_⟩
      exact q1
    | ok a r =>
      rw [hr] at hX hF
      refine (hF fun e => by cases e).mono ?_
      rintro e w5 ⟨hU, v5, rfl, hv, n5, hp5⟩
      have hv0 := hv
      obtain ⟨A1, n1, k1, A2, n2, k2, rfl, -⟩ := hv
      have e0 := hide (heap_old (hU.heap d0.out (by simp only [At]; omega)) (.cells #[.slice A1 n1 k1, .slice A2 n2 k2] 41))
      have e1 := hide (heap_old (hU.heap d1.out (by simp only [At]; omega)) (.cells #[.slice A1 n1 k1, .slice A2 n2 k2] 41))
      have e2 := hide (heap_old (hU.heap d2.out (by simp only [At]; omega)) (.cells #[.slice A1 n1 k1, .slice A2 n2 k2] 41))
      have ht := hide (heap_new w5 (.cells #[.slice A1 n1 k1, .slice A2 n2 k2] 41))
      have hp6 := hp5.alloc (.cells #[.slice A1 n1 k1, .slice A2 n2 k2] 41)
      have hv6 := hide (GlV.upd (Upd.alloc (fun _ => False) w5 (.cells #[.slice A1 n1 k1, .slice A2 n2 k2] 41)) (fun _ _ => id) hv0)
      have hU6 := hide (hU.then (Upd.alloc (At w1.heap.size) w5 (.cells #[.slice A1 n1 k1, .slice A2 n2 k2] 41)))
      have hz5 : w4.heap.size ≤ w5.heap.size := hU.size
      have hE := expectEnd_any w1.heap.size ⟨.slice A ts.length c, ts, l.length, W3.heap.size⟩ 0 n5 r _ hp6
      clear hv0 hp5 hp6 hU hF hr hPs
      replace fall := hide fall
      go_wp2_with fail
      cases r with
      | cons t rr =>
        have hX2 : X = some (.error (t.at_, 51)) := hX.out.symm
        rw [if_neg (show ¬ (endB (t :: rr) = true) from fun e => by cases e)] at hE
        refine hE.mono ?_
        rintro e w7 ⟨hU7, rfl⟩
        rw [show atOf _ (t :: rr) = t.at_ from rfl]
        replace fall := hide (fall.out w7 t.at_ 51 hX2 (hU6.out.then hU7))
        have g1 := hide (hU7.heap e1.out (by simp only [At]; omega))
        have g2 := hide (hU7.heap e2.out (by simp only [At]; omega))
        clear hU7 hX hX2 hE i1 i2 c1 c2 f1 f2
        go_wp2_with fail
        refine leaves_cons (f := 60) (args := #[.pointer (some ⟨W.heap.size + 1, 0, none⟩), .pointer (some ⟨W.heap.size + 1 + 1, 0, none⟩)]) (by simp) (by simp [go_sem]) ?_
        refine (caughtG (W.heap.size + 1) (W.heap.size + 1 + 1) t.at_ 51 [] w7 _ _ g1.out g2.out (by omega)).mono ?_
        rintro e u' w8 ⟨rfl, rfl, hU8, h1, h2⟩
        obtain ⟨q1, q2⟩ := fall.out w8 hU8 h1 h2
        have x1 := cell_at h1 0
        have x2 := cell_at h2 0
        have u0 := cell_at q2 0
        have u1 := cell_at q2 1
        simp at x1 x2 u0 u1
        clear h1 h2 q2 hU8
        refine ⟨.tuple #[.agg #[.slice none 0 0, .slice none 0 0], .int .i64 t.at_, .int .i64 (51 : Nat)], by simp [results, Tryz.results27, go_sem, x1, x2, u0, u1], ?_⟩
        exact q1
      | nil =>
        have hX2 : X = some (.ok a) := hX.out.symm
        rw [if_pos (show endB [] = true from rfl)] at hE
        refine hE.mono ?_
        rintro e w7 ⟨hU7, v7, rfl, rfl, -⟩
        have g0 := hU7.heap e0.out (by simp only [At]; omega)
        have g1 := hU7.heap e1.out (by simp only [At]; omega)
        have g2 := hU7.heap e2.out (by simp only [At]; omega)
        have g3 := hU7.heap ht.out (by simp only [At]; omega)
        have hv7 := hide (GlV.upd hU7 (fun b hb e => by simp only [At] at e; omega) hv6.out)
        have hb7 := hide (((Upd.of_below (fun _ => False) hb4.out).trans (hU6.out.then hU7) fun b hb e => by simp only [At] at e; omega).below (Nat.le_refl _) fun b e => e.elim)
        replace hX2 := hide hX2
        clear hU7 hX hE fall
        have cc0 := cell_at g3 0
        have cc1 := cell_at g3 1
        simp at cc0 cc1
        have rr0 := g0
        have dd0 := cell_at rr0 0
        have ff0 := frozen_at rr0 0
        have rr1 : (w7.setCell ⟨W.heap.size, 0, none⟩ (.slice A1 n1 k1)).heap[W.heap.size]? = some (.cells #[.slice A1 n1 k1, .slice none 0 0] 41 (0, 0)) := heap_set rr0 0 _
        have dd1 := cell_at rr1 1
        have ff1 := frozen_at rr1 1
        have rr2 : ((w7.setCell ⟨W.heap.size, 0, none⟩ (.slice A1 n1 k1)).setCell ⟨W.heap.size, 1, none⟩ (.slice A2 n2 k2)).heap[W.heap.size]? = some (.cells #[.slice A1 n1 k1, .slice A2 n2 k2] 41 (0, 0)) := heap_set rr1 1 _
        simp at dd0 dd1
        have r1 : ((w7.setCell ⟨W.heap.size, 0, none⟩ (.slice A1 n1 k1)).setCell ⟨W.heap.size, 1, none⟩ (.slice A2 n2 k2)).heap[W.heap.size + 1]? = some (.cells #[.int .i64 0] 3 (0, 0)) := by rw [heap_set_other (by omega), heap_set_other (by omega)]; exact g1
        have r2 : ((w7.setCell ⟨W.heap.size, 0, none⟩ (.slice A1 n1 k1)).setCell ⟨W.heap.size, 1, none⟩ (.slice A2 n2 k2)).heap[W.heap.size + 1 + 1]? = some (.cells #[.int .i64 0] 28 (0, 0)) := by rw [heap_set_other (by omega), heap_set_other (by omega)]; exact g2
        have i1 := setCell_id (v := .int .i64 0) r1 (o := 0) rfl
        have i2 := setCell_id (v := .int .i64 0) r2 (o := 0) rfl
        have c1 := cell_at r1 0
        have c2 := cell_at r2 0
        simp at c1 c2
        have f1 := frozen_at r1 0
        have f2 := frozen_at r2 0
        have rr := hide rr2
        replace r1 := hide r1
        replace r2 := hide r2
        clear rr0 rr1 rr2 g0 g1 g2 g3
        have hv8 := hide (GlV.upd (((Upd.refl (At W.heap.size) w7).setOn 0 (.slice A1 n1 k1)).setOn 1 (.slice A2 n2 k2)) (fun b hb e => by simp only [At] at e; omega) hv7.out)
        have hb8 := hide (((hb7.out).setCell (show W.heap.size ≤ (⟨W.heap.size, 0, none⟩ : Addr).block from Nat.le_refl _) (.slice A1 n1 k1)).setCell (show W.heap.size ≤ (⟨W.heap.size, 1, none⟩ : Addr).block from Nat.le_refl _) (.slice A2 n2 k2))
        go_wp2_with fail
        refine leaves_cons (f := 60) (args := #[.pointer (some ⟨W.heap.size + 1, 0, none⟩), .pointer (some ⟨W.heap.size + 1 + 1, 0, none⟩)]) (by simp) (by simp [go_sem]) ?_
        refine (idleG (W.heap.size + 1) (W.heap.size + 1 + 1) _).mono ?_
        rintro e u' w9 ⟨rfl, rfl, hb9⟩
        have h0 := heapB rr.out hb9
        have h1 := heapB r1.out hb9
        have h2 := heapB r2.out hb9
        have x1 := cell_at h1 0
        have x2 := cell_at h2 0
        have u0 := cell_at h0 0
        have u1 := cell_at h0 1
        simp at x1 x2 u0 u1
        refine ⟨.tuple #[.agg #[.slice A1 n1 k1, .slice A2 n2 k2], .int .i64 0, .int .i64 0], by simp [results, Tryz.results27, go_sem, x1, x2, u0, u1], ?_⟩
        refine ⟨hb8.out.trans (hb9.mono hb8.out.size), ?_⟩
        rw [hX2.out]
        exact ⟨_, rfl, GlV.mono (by have := hb4.out.size; omega) (GlV.upd (Upd.of_below (fun _ => False) hb9) (fun _ _ => id) hv8.out)⟩
end Go.Proofs.YteplkhgaoaphhaaGreatDoor
/- The walk of the parser's face. Written by mkread.py. -/
namespace Go.Proofs.YteplkhgaoaphhaaGreatDoor
open Go Go.RowKit Go.Lib
set_option maxRecDepth 100000 in
set_option maxHeartbeats 3200000 in
theorem Globals_any (f : Nat) (hf : f ≤ 1000000) (l : List UInt8) (hl : l.length ≤ 900000) (W : World) (hE : ErrR W) (hno : textP (globP f) l ≠ none) :
    Calls Tryz.prog 15 #[.string (strB l)] W fun e w' => TextR W (.agg #[.slice none 0 0, .slice none 0 0]) GlV (textP (globP f) l) e w' := by
  have hb : Below W.heap.size W (W.alloc (.cells #[.slice none 0 0, .slice none 0 0] 41)) := (Below.refl _ _).alloc (Nat.le_refl _) _
  have hR := hide (GlVRead_any f hf l hl (W.alloc (.cells #[.slice none 0 0, .slice none 0 0] 41)) (hE.below hb) hno)
  replace hb := hide hb
  have hr0 := hide (heap_new W (.cells #[.slice none 0 0, .slice none 0 0] 41))
  have hs1 : (W.alloc (.cells #[.slice none 0 0, .slice none 0 0] 41)).heap.size = W.heap.size + 1 := by simp
  replace hs1 := hide hs1
  generalize textP (globP f) l = X at hno hR ⊢
  match X, hR, hno with
  | none, _, hno => exact absurd rfl hno
  | some (.error (a, k)), hR, _ =>
    go_enter Tryz.func15, Tryz.ntmps15
    go_wp2_with fail
    refine hR.out.mono ?_
    rintro e w2 ⟨hB, h⟩
    have hb2 := hide (hb.out.trans (hB.mono hb.out.size))
    have g0 := heapB hr0.out hB
    obtain rfl := h
    have rr0 := g0
    have dd0 := cell_at rr0 0
    have ff0 := frozen_at rr0 0
    have rr1 : (w2.setCell ⟨W.heap.size, 0, none⟩ (.slice none 0 0)).heap[W.heap.size]? = some (.cells #[.slice none 0 0, .slice none 0 0] 41 (0, 0)) := heap_set rr0 0 _
    have kk0 : (w2.setCell ⟨W.heap.size, 0, none⟩ (.slice none 0 0)).cell? ⟨W.heap.size, 0, none⟩ = some (.slice none 0 0) := cell_at rr1 0
    replace kk0 := hide kk0
    have dd1 := cell_at rr1 1
    have ff1 := frozen_at rr1 1
    have rr2 : ((w2.setCell ⟨W.heap.size, 0, none⟩ (.slice none 0 0)).setCell ⟨W.heap.size, 1, none⟩ (.slice none 0 0)).heap[W.heap.size]? = some (.cells #[.slice none 0 0, .slice none 0 0] 41 (0, 0)) := heap_set rr1 1 _
    have kk1 : ((w2.setCell ⟨W.heap.size, 0, none⟩ (.slice none 0 0)).setCell ⟨W.heap.size, 1, none⟩ (.slice none 0 0)).cell? ⟨W.heap.size, 1, none⟩ = some (.slice none 0 0) := cell_at rr2 1
    replace kk1 := hide kk1
    simp at dd0 dd1
    clear rr0 rr1 rr2
    go_wp2_with fail
    refine bodyPost_ret (v := .tuple #[.agg #[.slice none 0 0, .slice none 0 0], .int .i64 a, .int .i64 k]) (by simp [results, Tryz.results15, go_sem, kk0.out, kk1.out]) rfl ?_
    exact ⟨((hb2.out).setCell (show W.heap.size ≤ (⟨W.heap.size, 0, none⟩ : Addr).block from Nat.le_refl _) (.slice none 0 0)).setCell (show W.heap.size ≤ (⟨W.heap.size, 1, none⟩ : Addr).block from Nat.le_refl _) (.slice none 0 0), rfl⟩
  | some (.ok a), hR, _ =>
    go_enter Tryz.func15, Tryz.ntmps15
    go_wp2_with fail
    refine hR.out.mono ?_
    rintro e w2 ⟨hB, h⟩
    have hb2 := hide (hb.out.trans (hB.mono hb.out.size))
    have g0 := heapB hr0.out hB
    obtain ⟨v, rfl, hv⟩ := h
    have hv0 := hv
    obtain ⟨A1, n1, k1, A2, n2, k2, rfl, -⟩ := hv
    replace hv0 := hide hv0
    have rr0 := g0
    have dd0 := cell_at rr0 0
    have ff0 := frozen_at rr0 0
    have rr1 : (w2.setCell ⟨W.heap.size, 0, none⟩ (.slice A1 n1 k1)).heap[W.heap.size]? = some (.cells #[.slice A1 n1 k1, .slice none 0 0] 41 (0, 0)) := heap_set rr0 0 _
    have kk0 : (w2.setCell ⟨W.heap.size, 0, none⟩ (.slice A1 n1 k1)).cell? ⟨W.heap.size, 0, none⟩ = some (.slice A1 n1 k1) := cell_at rr1 0
    replace kk0 := hide kk0
    have dd1 := cell_at rr1 1
    have ff1 := frozen_at rr1 1
    have rr2 : ((w2.setCell ⟨W.heap.size, 0, none⟩ (.slice A1 n1 k1)).setCell ⟨W.heap.size, 1, none⟩ (.slice A2 n2 k2)).heap[W.heap.size]? = some (.cells #[.slice A1 n1 k1, .slice A2 n2 k2] 41 (0, 0)) := heap_set rr1 1 _
    have kk1 : ((w2.setCell ⟨W.heap.size, 0, none⟩ (.slice A1 n1 k1)).setCell ⟨W.heap.size, 1, none⟩ (.slice A2 n2 k2)).cell? ⟨W.heap.size, 1, none⟩ = some (.slice A2 n2 k2) := cell_at rr2 1
    replace kk1 := hide kk1
    simp at dd0 dd1
    clear rr0 rr1 rr2
    go_wp2_with fail
    refine bodyPost_ret (v := .tuple #[.agg #[.slice A1 n1 k1, .slice A2 n2 k2], .int .i64 0, .int .i64 0]) (by simp [results, Tryz.results15, go_sem, kk0.out, kk1.out]) rfl ?_
    have hfin := ((Upd.refl (At W.heap.size) w2).setOn 0 (.slice A1 n1 k1)).setOn 1 (.slice A2 n2 k2)
    refine ⟨((hb2.out).setCell (show W.heap.size ≤ (⟨W.heap.size, 0, none⟩ : Addr).block from Nat.le_refl _) (.slice A1 n1 k1)).setCell (show W.heap.size ≤ (⟨W.heap.size, 1, none⟩ : Addr).block from Nat.le_refl _) (.slice A2 n2 k2), _, rfl, ?_⟩
    exact GlV.mono (by have := hs1.out; omega) (GlV.upd hfin (fun b hb e => by have := hs1.out; simp only [At] at e; omega) hv0.out)
end Go.Proofs.YteplkhgaoaphhaaGreatDoor
/- The chapter's example, as the laws have it. -/
namespace Go.Proofs.YteplkhgaoaphhaaGreatDoor
open Go Go.RowKit Go.Lib

theorem SlcV.len {w : World} {S : Nat → Prop} {n m c : Nat} {A : Option Addr} {uss : List (List Value)} (h : SlcV w S n uss (.slice A m c)) : m = n := by
  obtain ⟨A', c', h1, -⟩ := h
  injection h1
theorem FnV.read {w : World} {B : Nat} {a : Fn7} {v : Value} (h : FnV w B a v) : ∃ A1 c1 A2 c2 A3 c3, v = .agg #[.string (strB a.name), .slice A1 a.params.length c1, .slice A2 a.locals.length c2, .slice A3 a.body.length c3] ∧ BlkV w (B ≤ ·) a.body (.slice A3 a.body.length c3) := by
  obtain ⟨A1, n1, c1, A2, n2, c2, A3, n3, c3, rfl, ⟨u1, h1, -⟩, ⟨u2, h2, -⟩, h3⟩ := h
  have h3' := h3
  obtain ⟨u3, h4, -⟩ := h3'
  obtain rfl := h1.len
  obtain rfl := h2.len
  obtain rfl := h4.len
  exact ⟨A1, c1, A2, c2, A3, c3, rfl, h3⟩
theorem GlV.read {w : World} {B : Nat} {a : Gl} {v : Value} (h : GlV w B a v) : ∃ A1 c1 A2 c2, v = .agg #[.slice A1 a.cells.length c1, .slice A2 a.arrays.length c2] ∧ ListV w (B ≤ ·) ArrP 2 a.arrays (.slice A2 a.arrays.length c2) := by
  obtain ⟨A1, n1, c1, A2, n2, c2, rfl, ⟨u1, h1, -⟩, h3⟩ := h
  have h3' := h3
  obtain ⟨u2, h2, -⟩ := h3'
  obtain rfl := h1.len
  obtain rfl := h2.len
  exact ⟨A1, c1, A2, c2, rfl, h3⟩
theorem BlkV.head {w : World} {S : Nat → Prop} {s : Sm} {l : List Sm} {A : Option Addr} {n c : Nat} (h : BlkV w S (s :: l) (.slice A n c)) : ∃ g us, A = some ⟨g, 0, none⟩ ∧ SmV w S s us ∧ ∀ j u, us[j]? = some u → w.cell? ⟨g, j, none⟩ = some u := by
  obtain ⟨uss, ⟨A', c', h1, h2, h3, h4⟩, h5⟩ := h
  unfold SmsV at h5
  obtain ⟨us, rest, rfl, h6, -⟩ := h5
  injection h1 with e1 e2 e3
  subst e1
  rcases h4 with h4 | ⟨g, rfl, -, h7⟩
  · simp at h4
  · refine ⟨g, us, rfl, h6, fun j u hj => h7 j u ?_⟩
    rw [List.flatten_cons, List.getElem?_append_left (List.getElem?_eq_some_iff.1 hj).1]
    exact hj
theorem ListV.head {α : Type} {P : World → (Nat → Prop) → α → List Value → Prop} {w : World} {S : Nat → Prop} {sz : Nat} {a : α} {l : List α} {A : Option Addr} {n c : Nat} (h : ListV w S P sz (a :: l) (.slice A n c)) : ∃ g us, A = some ⟨g, 0, none⟩ ∧ P w S a us ∧ ∀ j u, us[j]? = some u → w.cell? ⟨g, j, none⟩ = some u := by
  obtain ⟨uss, ⟨A', c', h1, h2, h3, h4⟩, h5⟩ := h
  match uss, h5 with
  | us :: rest, ⟨⟨_, h6⟩, _⟩ =>
    injection h1 with e1 e2 e3
    subst e1
    rcases h4 with h4 | ⟨g, rfl, -, h7⟩
    · simp at h4
    · refine ⟨g, us, rfl, h6, fun j u hj => h7 j u ?_⟩
      rw [List.flatten_cons, List.getElem?_append_left (List.getElem?_eq_some_iff.1 hj).1]
      exact hj
def kF : Fn7 := ⟨[102], [⟨[120], false⟩], [], [.mk 9 [] [] (some (.bin 2 (.var [120]) (.num 1))) none none [] [] [] 0]⟩
set_option maxRecDepth 100000 in
theorem k1 : textP (funcP 30) [102, 110, 32, 102, 40, 120, 41, 32, 123, 32, 114, 101, 116, 117, 114, 110, 32, 120, 32, 43, 32, 49, 59, 32, 125] = some (.ok kF) := by rfl
set_option maxRecDepth 100000 in
theorem k2 : textP (funcP 30) [102, 110, 32, 102, 40, 120, 41, 32, 123, 32, 114, 101, 116, 117, 114, 110, 32, 59, 32, 125] = some (.error (17, 51)) := by rfl
set_option maxRecDepth 100000 in
theorem k3 : textP (globP 30) [99, 101, 108, 108, 32, 99, 59, 32, 97, 114, 114, 97, 121, 32, 97, 91, 51, 93, 59] = some (.ok ⟨[[99]], [([97], 3)]⟩) := by rfl

set_option maxRecDepth 100000 in
set_option maxHeartbeats 3200000 in
theorem known_any (W : World) (hE : ErrR W) : Calls Tryz.prog 9 #[] W fun e w' => e = .returned (.bool true) ∧ Below W.heap.size W w' := by
  have h1 := hide (Func_any 30 (by decide) [102, 110, 32, 102, 40, 120, 41, 32, 123, 32, 114, 101, 116, 117, 114, 110, 32, 120, 32, 43, 32, 49, 59, 32, 125] (by decide) W hE (by rw [k1]; exact fun e => by cases e))
  rw [k1] at h1
  replace hE := hide hE
  go_enter Tryz.func9, Tryz.ntmps9
  go_wp2_with fail
  refine h1.out.mono ?_
  rintro e w1 ⟨hb1, v1, rfl, hv1⟩
  obtain ⟨A1, c1, A2, c2, A3, c3, hve, -⟩ := hv1.read
  obtain rfl : v1 = .agg #[.string (strB [102]), .slice A1 1 c1, .slice A2 0 c2, .slice A3 1 c3] := hve
  have hx1 := hide (heap_new w1 (.cells #[.string (strB [102]), .slice A1 1 c1, .slice A2 0 c2, .slice A3 1 c3] 27))
  have hw1 := FnV.upd (Upd.alloc (fun _ => False) w1 (.cells #[.string (strB [102]), .slice A1 1 c1, .slice A2 0 c2, .slice A3 1 c3] 27)) (fun _ _ => id) hv1
  have hb1' := hb1.alloc hb1.size (.cells #[.string (strB [102]), .slice A1 1 c1, .slice A2 0 c2, .slice A3 1 c3] 27)
  have h2 := hide (Func_any 30 (by decide) [102, 110, 32, 102, 40, 120, 41, 32, 123, 32, 114, 101, 116, 117, 114, 110, 32, 59, 32, 125] (by decide) _ (hE.out.below hb1') (by rw [k2]; exact fun e => by cases e))
  rw [k2] at h2
  replace hw1 := hide hw1
  replace hb1' := hide hb1'
  clear hv1 hb1
  go_wp2_with fail
  refine h2.out.mono ?_
  rintro e w2 ⟨hb2, rfl⟩
  have hx2 := heap_old (heapB hx1.out hb2) (.cells #[.string ⟨#[]⟩, .slice none 0 0, .slice none 0 0, .slice none 0 0] 27)
  have hw2 := FnV.upd (Upd.alloc (fun _ => False) w2 (.cells #[.string ⟨#[]⟩, .slice none 0 0, .slice none 0 0, .slice none 0 0] 27)) (fun _ _ => id) (FnV.upd (Upd.of_below (fun _ => False) hb2) (fun _ _ => id) hw1.out)
  have hb2' := (hb1'.out.trans (hb2.mono hb1'.out.size)).alloc (Nat.le_trans hb1'.out.size hb2.size) (.cells #[.string ⟨#[]⟩, .slice none 0 0, .slice none 0 0, .slice none 0 0] 27)
  have h3 := hide (Globals_any 30 (by decide) [99, 101, 108, 108, 32, 99, 59, 32, 97, 114, 114, 97, 121, 32, 97, 91, 51, 93, 59] (by decide) _ (hE.out.below hb2') (by rw [k3]; exact fun e => by cases e))
  rw [k3] at h3
  replace hx2 := hide hx2
  replace hw2 := hide hw2
  replace hb2' := hide hb2'
  clear hb2
  go_wp2_with fail
  refine h3.out.mono ?_
  rintro e w3 ⟨hb3, v3, rfl, hv3⟩
  obtain ⟨D1, d1, D2, d2, hve, hv4⟩ := hv3.read
  obtain rfl : v3 = .agg #[.slice D1 1 d1, .slice D2 1 d2] := hve
  have hx3 := heapB hx2.out hb3
  have hw3 := FnV.upd (Upd.of_below (fun _ => False) hb3) (fun _ _ => id) hw2.out
  obtain ⟨_, _, _, _, _, _, he, hbk⟩ := hw3.read
  injection he with he
  injection he with he
  injection he with _ he
  injection he with _ he
  injection he with _ he
  injection he with he _
  injection he with e1 e2 e3
  subst e1 e3
  clear e2
  obtain ⟨g, us, rfl, hs, hg⟩ := BlkV.head hbk
  unfold SmV at hs
  obtain ⟨ve, vf, vc, va, vt, vl, ut, ul, rfl, hxe, -⟩ := hs
  have hxx : ExV w3 (W.heap.size ≤ ·) (.bin 2 (.var [120]) (.num 1)) ve := hxe
  clear hxe
  obtain ⟨va', vb', ⟨ge, rfl, -, hge⟩, -, -⟩ := hxx
  obtain ⟨ga, us2, rfl, hap, hga⟩ := ListV.head hv4
  obtain rfl : us2 = [.string (strB [97]), .int .i64 3] := hap
  have ho := fun {b o : Nat} {u : Value} (h : w3.cell? ⟨b, o, none⟩ = some u) => (Upd.alloc (fun _ => False) w3 (.cells #[.slice D1 1 d1, .slice (some ⟨ga, 0, none⟩) 1 d2] 41)).cell h id
  have hq : ∀ j u, #[Value.string (strB [102]), .slice A1 1 c1, .slice A2 0 c2, .slice (some ⟨g, 0, none⟩) 1 c3][j]? = some u → (w3.alloc (.cells #[.slice D1 1 d1, .slice (some ⟨ga, 0, none⟩) 1 d2] 41)).cell? ⟨w1.heap.size, j, none⟩ = some u := fun j u h => ho ((cell_at hx3 j).trans h)
  have q0 := hq 0 _ rfl
  have q1 := hq 1 _ rfl
  have q3 := hq 3 _ rfl
  have p0 : (w3.alloc (.cells #[.slice D1 1 d1, .slice (some ⟨ga, 0, none⟩) 1 d2] 41)).cell? ⟨g, 0, none⟩ = some (.int .i64 9) := ho (hg 0 _ rfl)
  have p3 := ho (hg 3 _ rfl)
  have n0 : (w3.alloc (.cells #[.slice D1 1 d1, .slice (some ⟨ga, 0, none⟩) 1 d2] 41)).cell? ⟨ge, 0, none⟩ = some (.int .i64 2) := ho ((cell_at hge 0).trans rfl)
  have m1 := ho (hga 1 _ rfl)
  have hsq : ((strB [102]).toList == [102]) = true := by rw [str_beq']; rfl
  clear ho hq
  have hb4 := hide ((hb2'.out.trans (hb3.mono hb2'.out.size)).alloc (Nat.le_trans hb2'.out.size hb3.size) (.cells #[.slice D1 1 d1, .slice (some ⟨ga, 0, none⟩) 1 d2] 41))
  clear hx3 hw3 hbk hg hge hga hv4 hv3 hb3
  go_wp2_with fail
  go_ret
  exact ⟨rfl, hb4.out⟩
end Go.Proofs.YteplkhgaoaphhaaGreatDoor
/- A text so many times. -/
namespace Go.Proofs.YteplkhgaoaphhaaGreatDoor
/-- So many times the same. -/
def rep (s : List UInt8) : Nat → List UInt8
  | 0 => []
  | n + 1 => rep s n ++ s
theorem rep_len (s : List UInt8) : ∀ n, (rep s n).length = n * s.length
  | 0 => by simp [rep]
  | n + 1 => by rw [rep, List.length_append, rep_len s n, Nat.succ_mul]
end Go.Proofs.YteplkhgaoaphhaaGreatDoor
/- The texts of ParseMany: what they come to. -/
namespace Go.Proofs.YteplkhgaoaphhaaGreatDoor

/-- Reading a piece of a text: where one is then. -/
def runP : St → Nat → List Tok → List UInt8 → Except (Nat × Nat) (St × Nat × List Tok)
  | st, i, ts, [] => .ok (st, i, ts)
  | st, i, ts, c :: r => if st.goes c = true then runP (st.push c) (i + 1) ts r else
    match st.fin ts c with
    | .error e => .error e
    | .ok ts' => runP (St.begin i c) (i + 1) ts' r
theorem runT_app : ∀ (a : List UInt8) (st : St) (i : Nat) (ts : List Tok) (b : List UInt8) (st' : St) (i' : Nat) (ts' : List Tok), runP st i ts a = .ok (st', i', ts') → runT st i ts (a ++ b) = runT st' i' ts' b
  | [], st, i, ts, b, st', i', ts', h => by
    unfold runP at h
    injection h with h
    injection h with h1 h
    injection h with h2 h3
    subst h1 h2 h3
    rfl
  | c :: r, st, i, ts, b, st', i', ts', h => by
    unfold runP at h
    rw [List.cons_append]
    conv => lhs; unfold runT
    by_cases hg : st.goes c = true
    · rw [if_pos hg] at h ⊢
      exact runT_app r _ _ _ b _ _ _ h
    · rw [if_neg hg] at h ⊢
      cases hf : st.fin ts c with
      | error e => rw [hf] at h; cases h
      | ok ts2 =>
        rw [hf] at h
        show runT (St.begin i c) (i + 1) ts2 (r ++ b) = _
        exact runT_app r _ _ _ b _ _ _ h
/-- A sign of one byte has been read; with it the tokens are these. -/
structure Pend (st : St) (ts full : List Tok) : Prop where
  is : ∃ fr c, (c = 123 ∨ c = 59) ∧ st = .word 2 fr [c] ∧ full = ts ++ [⟨2, [c], fr⟩]
def varT (i : Nat) : List Tok := [⟨0, [118, 97, 114], i⟩, ⟨0, [118], i + 4⟩, ⟨2, [59], i + 5⟩]
def asgT (i : Nat) : List Tok := [⟨0, [120], i⟩, ⟨2, [61], i + 1⟩, ⟨1, [49], i + 2⟩, ⟨2, [59], i + 3⟩]
theorem var_run {st : St} {ts full : List Tok} (i : Nat) (h : Pend st ts full) : ∃ st' ts', runP st i ts [118, 97, 114, 32, 118, 59] = .ok (st', i + 6, ts') ∧ Pend st' ts' (full ++ varT i) := by
  obtain ⟨fr, c, hc, rfl, rfl⟩ := h.is
  rcases hc with rfl | rfl
  · exact ⟨.word 2 (i + 5) [59], ts ++ [⟨2, [123], fr⟩] ++ [⟨0, [118, 97, 114], i⟩] ++ [⟨0, [118], i + 4⟩], rfl, ⟨i + 5, 59, .inr rfl, rfl, by simp [varT]⟩⟩
  · exact ⟨.word 2 (i + 5) [59], ts ++ [⟨2, [59], fr⟩] ++ [⟨0, [118, 97, 114], i⟩] ++ [⟨0, [118], i + 4⟩], rfl, ⟨i + 5, 59, .inr rfl, rfl, by simp [varT]⟩⟩
theorem asg_run {st : St} {ts full : List Tok} (i : Nat) (h : Pend st ts full) : ∃ st' ts', runP st i ts [120, 61, 49, 59] = .ok (st', i + 4, ts') ∧ Pend st' ts' (full ++ asgT i) := by
  obtain ⟨fr, c, hc, rfl, rfl⟩ := h.is
  rcases hc with rfl | rfl
  · exact ⟨.word 2 (i + 3) [59], ts ++ [⟨2, [123], fr⟩] ++ [⟨0, [120], i⟩] ++ [⟨2, [61], i + 1⟩] ++ [⟨1, [49], i + 2⟩], rfl, ⟨i + 3, 59, .inr rfl, rfl, by simp [asgT]⟩⟩
  · exact ⟨.word 2 (i + 3) [59], ts ++ [⟨2, [59], fr⟩] ++ [⟨0, [120], i⟩] ++ [⟨2, [61], i + 1⟩] ++ [⟨1, [49], i + 2⟩], rfl, ⟨i + 3, 59, .inr rfl, rfl, by simp [asgT]⟩⟩
/-- So many of them, from there on. -/
def varsT (i : Nat) : Nat → List Tok
  | 0 => []
  | l + 1 => varT i ++ varsT (i + 6) l
def asgsT (i : Nat) : Nat → List Tok
  | 0 => []
  | l + 1 => asgT i ++ asgsT (i + 4) l
def times' (s : List UInt8) : Nat → List UInt8
  | 0 => []
  | n + 1 => s ++ times' s n
theorem rep_front (s : List UInt8) : ∀ n, s ++ rep s n = rep s n ++ s
  | 0 => by simp [rep]
  | n + 1 => by rw [rep, ← List.append_assoc, rep_front s n]
theorem times_rep (s : List UInt8) : ∀ n, times' s n = rep s n
  | 0 => rfl
  | n + 1 => by rw [times', times_rep s n, rep_front, rep]
theorem vars_run (b : List UInt8) : ∀ (l : Nat) (st : St) (ts full : List Tok) (i : Nat), Pend st ts full → ∃ st' ts', runT st i ts (times' [118, 97, 114, 32, 118, 59] l ++ b) = runT st' (i + 6 * l) ts' b ∧ Pend st' ts' (full ++ varsT i l)
  | 0, st, ts, full, i, h => ⟨st, ts, rfl, by rw [varsT, List.append_nil]; exact h⟩
  | l + 1, st, ts, full, i, h => by
    obtain ⟨st1, ts1, h1, h2⟩ := var_run i h
    obtain ⟨st2, ts2, h3, h4⟩ := vars_run b l st1 ts1 _ (i + 6) h2
    refine ⟨st2, ts2, ?_, by rw [varsT, ← List.append_assoc]; exact h4⟩
    rw [times', List.append_assoc, runT_app _ _ _ _ _ _ _ _ h1, h3]
    congr 1
    omega
theorem asgs_run (b : List UInt8) : ∀ (l : Nat) (st : St) (ts full : List Tok) (i : Nat), Pend st ts full → ∃ st' ts', runT st i ts (times' [120, 61, 49, 59] l ++ b) = runT st' (i + 4 * l) ts' b ∧ Pend st' ts' (full ++ asgsT i l)
  | 0, st, ts, full, i, h => ⟨st, ts, rfl, by rw [asgsT, List.append_nil]; exact h⟩
  | l + 1, st, ts, full, i, h => by
    obtain ⟨st1, ts1, h1, h2⟩ := asg_run i h
    obtain ⟨st2, ts2, h3, h4⟩ := asgs_run b l st1 ts1 _ (i + 4) h2
    refine ⟨st2, ts2, ?_, by rw [asgsT, ← List.append_assoc]; exact h4⟩
    rw [times', List.append_assoc, runT_app _ _ _ _ _ _ _ _ h1, h3]
    congr 1
    omega
theorem end_run {st : St} {ts full : List Tok} (i : Nat) (h : Pend st ts full) : runT st i ts ([125] ++ [10]) = .ok (full ++ [⟨2, [125], i⟩]) := by
  obtain ⟨fr, c, hc, rfl, rfl⟩ := h.is
  rcases hc with rfl | rfl <;> rfl
/-- The parameters. -/
def pars : Nat → List UInt8
  | 0 => []
  | 1 => [112]
  | n + 2 => pars (n + 1) ++ [44, 112]
def preB (p : Nat) : List UInt8 := [102, 110, 32, 102, 40] ++ pars p ++ [41, 123]
def preLen (p : Nat) : Nat := (preB p).length
/-- What the text's beginning comes to: its tokens, but for the last. -/
def preTs (p : Nat) : List Tok := match runP .blank 0 [] (preB p) with
  | .ok (_, _, ts) => ts
  | .error _ => []
theorem pre_run : ∀ p, p < 9 → runP .blank 0 [] (preB p) = .ok (.word 2 (preLen p - 1) [123], preLen p, preTs p) := by
  intro p hp
  match p, hp with
  | 0, _ => rfl
  | 1, _ => rfl
  | 2, _ => rfl
  | 3, _ => rfl
  | 4, _ => rfl
  | 5, _ => rfl
  | 6, _ => rfl
  | 7, _ => rfl
  | 8, _ => rfl
def manyB (p l n : Nat) : List UInt8 := preB p ++ rep [118, 97, 114, 32, 118, 59] l ++ rep [120, 61, 49, 59] n ++ [125]
theorem many_len (p l n : Nat) (hp : p < 9) (hl : l < 24) (hn : n < 205) : (manyB p l n).length = preLen p + 6 * l + 4 * n + 1 ∧ preLen p ≤ 30 := by
  unfold manyB
  simp only [List.length_append, rep_len, List.length_cons, List.length_nil]
  have : preLen p ≤ 30 := by
    match p, hp with
    | 0, _ => decide
    | 1, _ => decide
    | 2, _ => decide
    | 3, _ => decide
    | 4, _ => decide
    | 5, _ => decide
    | 6, _ => decide
    | 7, _ => decide
    | 8, _ => decide
  exact ⟨by unfold preLen; omega, this⟩
theorem many_lex (p l n : Nat) (hp : p < 9) (hl : l < 24) (hn : n < 205) :
    lexT (manyB p l n) = .ok (preTs p ++ (⟨2, [123], preLen p - 1⟩ :: (varsT (preLen p) l ++ (asgsT (preLen p + 6 * l) n ++ [⟨2, [125], preLen p + 6 * l + 4 * n⟩])))) := by
  obtain ⟨h1, h2⟩ := many_len p l n hp hl hn
  unfold lexT
  rw [if_neg (by omega)]
  unfold manyB
  rw [← times_rep, ← times_rep, List.append_assoc, List.append_assoc, List.append_assoc, runT_app _ _ _ _ _ _ _ _ (pre_run p hp)]
  obtain ⟨st1, ts1, h3, h4⟩ := vars_run (times' [120, 61, 49, 59] n ++ ([125] ++ [10])) l (.word 2 (preLen p - 1) [123]) (preTs p) (preTs p ++ [⟨2, [123], preLen p - 1⟩]) (preLen p) ⟨_, _, .inl rfl, rfl, rfl⟩
  rw [h3]
  obtain ⟨st2, ts2, h5, h6⟩ := asgs_run ([125] ++ [10]) n st1 ts1 _ (preLen p + 6 * l) h4
  rw [h5, end_run _ h6]
  simp [List.append_assoc]
/-- The locals are read. -/
theorem locals_run (R : List Tok) (hR : nx R [118, 97, 114] = false ∧ nx R [112, 116, 114] = false) : ∀ (l g i : Nat) (acc : List Vr), acc.length ≤ 20 → l < g →
    (acc.length + l ≤ 20 → ∃ acc', localsP g acc (varsT i l ++ R) = .ok acc' R ∧ acc'.length = acc.length + l) ∧
    (20 < acc.length + l → ∃ r, localsP g acc (varsT i l ++ R) = .er r 53 ∧ ∀ len, atOf len r = i + 6 * (20 - acc.length) + 4)
  | 0, g + 1, i, acc, ha, _ => ⟨fun _ => ⟨acc, by rw [varsT, List.nil_append]; conv => { lhs; unfold localsP }; rw [if_neg (by rw [hR.1, hR.2]; simp)], rfl⟩, fun h => by omega⟩
  | l + 1, g + 1, i, acc, ha, hg => by
    have key : localsP (g + 1) acc (varsT i (l + 1) ++ R) = if acc.length = 20 then .er (⟨0, [118], i + 4⟩ :: ⟨2, [59], i + 5⟩ :: (varsT (i + 6) l ++ R)) 53 else localsP g (acc ++ [⟨[118], false⟩]) (varsT (i + 6) l ++ R) := by
      show (declP acc.length 20 _).bind _ = _
      unfold declP
      by_cases h : acc.length = 20
      · rw [if_pos h]
        show Rs.bind (Rs.bind (.ok _ _) _) _ = _
        show Rs.bind (if acc.length = 20 then _ else _) _ = _
        rw [if_pos h]
        rfl
      · rw [if_neg h]
        show Rs.bind (Rs.bind (.ok _ _) _) _ = _
        show Rs.bind (if acc.length = 20 then _ else _) _ = _
        rw [if_neg h]
        rfl
    by_cases h : acc.length = 20
    · refine ⟨fun h2 => by omega, fun _ => ⟨_, by rw [key, if_pos h], fun len => ?_⟩⟩
      show i + 4 = _
      omega
    · rw [key, if_neg h]
      have ih := locals_run R hR l g (i + 6) (acc ++ [⟨[118], false⟩]) (by simp; omega) (by omega)
      simp only [List.length_append, List.length_cons, List.length_nil] at ih
      refine ⟨fun h2 => ?_, fun h2 => ?_⟩
      · obtain ⟨a, h3, h4⟩ := ih.1 (by omega)
        exact ⟨a, h3, by omega⟩
      · obtain ⟨r, h3, h4⟩ := ih.2 (by omega)
        exact ⟨r, h3, fun len => by rw [h4]; omega⟩
/-- The statements are read. -/
theorem asg_stm (i n : Nat) (R : List Tok) : stm 260 1 n (asgT i ++ R) = if n = 200 then .er (asgT i ++ R) 53 else .ok (.mk 0 [120] [] (some (.num 1)) none none [] [] [] n, n + 1) R := by
  show (if n = 200 then _ else _) = _
  by_cases h : n = 200
  · rw [if_pos h, if_pos h]
  · rw [if_neg h, if_neg h]
    rfl
theorem stms_run (j : Nat) : ∀ (m g i n : Nat) (acc : List Sm), n ≤ 200 → m < g →
    (n + m ≤ 200 → ∃ acc', stmsOf (stm 260 1) g acc n (asgsT i m ++ [⟨2, [125], j⟩]) = .ok (acc', n + m) [] ∧ acc'.length = acc.length + m) ∧
    (200 < n + m → ∃ r, stmsOf (stm 260 1) g acc n (asgsT i m ++ [⟨2, [125], j⟩]) = .er r 53 ∧ ∀ len, atOf len r = i + 4 * (200 - n))
  | 0, g + 1, i, n, acc, _, _ => ⟨fun _ => ⟨acc, rfl, rfl⟩, fun h => by omega⟩
  | m + 1, g + 1, i, n, acc, hn, hg => by
    have key : stmsOf (stm 260 1) (g + 1) acc n (asgsT i (m + 1) ++ [⟨2, [125], j⟩]) = (stm 260 1 n (asgT i ++ (asgsT (i + 4) m ++ [⟨2, [125], j⟩]))).bind fun x r => stmsOf (stm 260 1) g (acc ++ [x.1]) x.2 r := by
      rw [asgsT, List.append_assoc]
      conv => { lhs; unfold stmsOf }
      rw [if_neg (show ¬ (nx (asgT i ++ (asgsT (i + 4) m ++ [⟨2, [125], j⟩])) [125] = true) from fun e => by cases e)]
    rw [key, asg_stm]
    by_cases h : n = 200
    · rw [if_pos h]
      exact ⟨fun h2 => by omega, fun _ => ⟨_, rfl, fun len => by show i = _; omega⟩⟩
    · rw [if_neg h]
      have ih := stms_run j m g (i + 4) (n + 1) (acc ++ [.mk 0 [120] [] (some (.num 1)) none none [] [] [] n]) (by omega) (by omega)
      simp only [List.length_append, List.length_cons, List.length_nil] at ih
      refine ⟨fun h2 => ?_, fun h2 => ?_⟩
      · obtain ⟨a, h3, h4⟩ := ih.1 (by omega)
        exact ⟨a, by rw [show n + (m + 1) = n + 1 + m by omega]; exact h3, by omega⟩
      · obtain ⟨r, h3, h4⟩ := ih.2 (by omega)
        exact ⟨r, h3, fun len => by rw [h4]; omega⟩
theorem not_var (R : List Tok) (i n : Nat) (j : Nat) : nx (asgsT i n ++ [⟨2, [125], j⟩]) [118, 97, 114] = false ∧ nx (asgsT i n ++ [⟨2, [125], j⟩]) [112, 116, 114] = false := by
  cases n <;> exact ⟨rfl, rfl⟩
/-- Behind the parameters. -/
def restP (ps : List Vr) (R : List Tok) : Rs Fn7 := (localsP 260 [] R).bind fun ls r => (stmsOf (stm 260 1) 260 [] 0 r).bind fun b r => .ok ⟨[102], ps, ls, b.1⟩ r
set_option maxHeartbeats 4000000 in
theorem pars_run (q : Nat) (R : List Tok) : ∀ p, p < 9 → (p ≤ 6 → ∃ ps, funcP 260 (preTs p ++ (⟨2, [123], q⟩ :: R)) = restP ps R ∧ ps.length = p) ∧ (6 < p → ∃ r, funcP 260 (preTs p ++ (⟨2, [123], q⟩ :: R)) = .er r 53 ∧ ∀ len, atOf len r = 17) := by
  intro p hp
  match p, hp with
  | 0, _ => exact ⟨fun _ => ⟨_, rfl, rfl⟩, fun h => by omega⟩
  | 1, _ => exact ⟨fun _ => ⟨_, rfl, rfl⟩, fun h => by omega⟩
  | 2, _ => exact ⟨fun _ => ⟨_, rfl, rfl⟩, fun h => by omega⟩
  | 3, _ => exact ⟨fun _ => ⟨_, rfl, rfl⟩, fun h => by omega⟩
  | 4, _ => exact ⟨fun _ => ⟨_, rfl, rfl⟩, fun h => by omega⟩
  | 5, _ => exact ⟨fun _ => ⟨_, rfl, rfl⟩, fun h => by omega⟩
  | 6, _ => exact ⟨fun _ => ⟨_, rfl, rfl⟩, fun h => by omega⟩
  | 7, _ => exact ⟨fun h => by omega, fun _ => ⟨⟨0, [112], 17⟩ :: ⟨2, [41], 18⟩ :: ⟨2, [123], q⟩ :: R, rfl, fun _ => rfl⟩⟩
  | 8, _ => exact ⟨fun h => by omega, fun _ => ⟨⟨0, [112], 17⟩ :: ⟨2, [44], 18⟩ :: ⟨0, [112], 19⟩ :: ⟨2, [41], 20⟩ :: ⟨2, [123], q⟩ :: R, rfl, fun _ => rfl⟩⟩
/-- Where the first error stands (0: nowhere). -/
def firstE (p l n : Nat) : Nat := if 6 < p then 17 else if 20 < l then preLen p + 124 else if 200 < n then preLen p + 6 * l + 800 else 0
theorem many_text (p l n : Nat) (hp : p < 9) (hl : l < 24) (hn : n < 205) :
    (0 < firstE p l n ∧ textP (funcP 260) (manyB p l n) = some (.error (firstE p l n, 53))) ∨
    (firstE p l n = 0 ∧ ∃ f, textP (funcP 260) (manyB p l n) = some (.ok f) ∧ f.params.length = p ∧ f.locals.length = l ∧ f.body.length = n) := by
  have hlx := many_lex p l n hp hl hn
  have hP := pars_run (preLen p - 1) (varsT (preLen p) l ++ (asgsT (preLen p + 6 * l) n ++ [⟨2, [125], preLen p + 6 * l + 4 * n⟩])) p hp
  have hL := locals_run (asgsT (preLen p + 6 * l) n ++ [⟨2, [125], preLen p + 6 * l + 4 * n⟩]) (not_var [] _ _ _) l 260 (preLen p) [] (by simp) (by omega)
  have hS := stms_run (preLen p + 6 * l + 4 * n) n 260 (preLen p + 6 * l) 0 [] (by omega) (by omega)
  simp only [List.length_nil, Nat.zero_add, Nat.sub_zero] at hL hS
  have hpre : 0 < preLen p := by unfold preLen preB; simp
  unfold textP firstE
  rw [hlx]
  by_cases h1 : 6 < p
  · obtain ⟨r, h2, h3⟩ := hP.2 h1
    rw [if_pos h1]
    refine .inl ⟨by omega, ?_⟩
    show wholeP _ (funcP 260 _) = _
    rw [h2]
    show some (Except.error (atOf _ r, 53)) = _
    rw [h3]
  · obtain ⟨ps, h2, h3⟩ := hP.1 (by omega)
    rw [if_neg h1]
    show _ ∧ wholeP _ (funcP 260 _) = _ ∨ _ ∧ ∃ f, wholeP _ (funcP 260 _) = _ ∧ _
    rw [h2]
    unfold restP
    by_cases h4 : 20 < l
    · obtain ⟨r, h5, h6⟩ := hL.2 h4
      rw [if_pos h4, h5]
      refine .inl ⟨by omega, ?_⟩
      show some (Except.error (atOf _ r, 53)) = _
      rw [h6]
    · obtain ⟨ls, h5, h6⟩ := hL.1 (by omega)
      rw [if_neg h4, h5]
      show _ ∧ wholeP _ (Rs.bind (stmsOf _ _ _ _ _) _) = _ ∨ _ ∧ ∃ f, wholeP _ (Rs.bind (stmsOf _ _ _ _ _) _) = _ ∧ _
      by_cases h7 : 200 < n
      · obtain ⟨r, h8, h9⟩ := hS.2 h7
        rw [if_pos h7, h8]
        refine .inl ⟨by omega, ?_⟩
        show some (Except.error (atOf _ r, 53)) = _
        rw [h9]
      · obtain ⟨b, h8, h9⟩ := hS.1 (by omega)
        rw [if_neg h7, h8]
        exact .inr ⟨rfl, ⟨[102], ps, ls, b⟩, rfl, h3, h6, h9⟩
/-- The globals. -/
def globChk (g : Nat) : Bool := match textP (globP 60) (rep [99, 101, 108, 108, 32, 99, 59] g) with
  | some (.error (a, n)) => decide (20 < g) && (a == 145 && n == 53)
  | some (.ok f) => decide (g ≤ 20) && f.cells.length == g
  | none => false
set_option maxRecDepth 100000 in
theorem glob_all : ∀ g, g < 24 → globChk g = true := by decide +kernel
end Go.Proofs.YteplkhgaoaphhaaGreatDoor
