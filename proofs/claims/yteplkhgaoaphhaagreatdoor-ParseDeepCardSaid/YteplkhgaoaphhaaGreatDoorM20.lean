/- Part 20 of the walks (merged): PsR4, PsR5, PsR6, Known7, Deep. -/
import Derived.Test.YteplkhgaoaphhaaGreatDoorM16
import Derived.Test.YteplkhgaoaphhaaGreatDoorM19
import Derived.Deep.Cut
import Derived.Test.YteplkhgaoaphhaaGreatDoorM17
/- The deferred closure of the parser's read, of globals. Written by mkread.py. -/
namespace Go.Proofs.YteplkhgaoaphhaaGreatDoor
open Go Go.RowKit Go.Lib
theorem GlV.upd {w w' : World} {B : Nat} {F : Nat → Prop} {a : Gl} {v : Value} (hu : Upd F w w') (hF : ∀ b, B ≤ b → ¬ F b) (h : GlV w B a v) : GlV w' B a v := by
  obtain ⟨A1, n1, c1, A2, n2, c2, h1, h2, h3⟩ := h
  exact ⟨A1, n1, c1, A2, n2, c2, h1, h2.upd strFam hu hF, h3.upd arrFam hu hF⟩
theorem GlV.mono {w : World} {B B' : Nat} {a : Gl} {v : Value} (hB : B' ≤ B) (h : GlV w B a v) : GlV w B' a v := by
  obtain ⟨A1, n1, c1, A2, n2, c2, h1, h2, h3⟩ := h
  exact ⟨A1, n1, c1, A2, n2, c2, h1, h2.mono strFam (fun b _ hb => Nat.le_trans hB hb) (by decide), h3.mono arrFam (fun b _ hb => Nat.le_trans hB hb) (by decide)⟩
set_option maxRecDepth 100000 in
set_option maxHeartbeats 1600000 in
theorem caughtG (g h : Nat) (a k : Nat) (older : List PanicEntry) (w : World) (u0 u1 : Value) (Hg : w.heap[g]? = some (.cells #[u0] 3 (0, 0))) (Hh : w.heap[h]? = some (.cells #[u1] 28 (0, 0))) (hne : g ≠ h) :
    CallsD Tryz.prog 60 #[.pointer (some ⟨g, 0, none⟩), .pointer (some ⟨h, 0, none⟩)] (.panicking ({ v := faultV a k, recovered := false } :: older)) w fun e u' w' =>
      e = .returned (.tuple #[]) ∧ u' = .panicking ({ v := faultV a k, recovered := true } :: older) ∧ Upd (fun b => b = g ∨ b = h) w w' ∧ w'.heap[g]? = some (.cells #[.int .i64 a] 3 (0, 0)) ∧ w'.heap[h]? = some (.cells #[.int .i64 k] 28 (0, 0)) := by
  have hg := cell_at Hg 0
  have hh := cell_at Hh 0
  have fg := frozen_at Hg 0
  have fh := frozen_at Hh 0
  simp at hg hh
  unfold faultV
  have hta : ∀ w, (Instr.typeAssert (.iface 97 (.agg #[.int .i64 a, .int .i64 k])) 20 97 true).run Tryz.prog w = .ok (.tuple #[.agg #[.int .i64 a, .int .i64 k], .bool true]) w := fun _ => by kernel_rfl
  refine callsD_of_wpS Tryz.func60 rfl fun c₀ cs hu => ?_
  apply wpS_seq
  apply wpS_region
  simp [wpOpsS, go_sem, recoverD, hu, hta, Tryz.ntmps60, Exit.thenS]
  apply wpS_seq
  apply wpS_region
  simp [wpOpsS, go_sem, Exit.thenS]
  refine wpS_cond (t := true) (by simp [Act.eval, Array.replicate]) ?_
  simp only [if_true]
  refine wpS_of_wp ?_
  have lg := World.block_lt_of_cell? w _ hg
  have lh := World.block_lt_of_cell? w _ hh
  have hne2 : ¬ (h = g) := fun e => hne e.symm
  have eg : ¬ (w.heap.size = g) := by have : g < w.heap.size := lg; omega
  have eh : ¬ (w.heap.size = h) := by have : h < w.heap.size := lh; omega
  have ag : (w.alloc (.cells #[.int .i64 a, .int .i64 k] 97)).cell? ⟨g, 0, none⟩ = some u0 := (Upd.alloc (fun _ => False) w _).cell hg id
  have ah : (w.alloc (.cells #[.int .i64 a, .int .i64 k] 97)).cell? ⟨h, 0, none⟩ = some u1 := (Upd.alloc (fun _ => False) w _).cell hh id
  have zg : (w.alloc (.cells #[.int .i64 a, .int .i64 k] 97)).frozen? ⟨g, 0, none⟩ = false := by rw [((Below.refl w.heap.size w).alloc (Nat.le_refl _) _).frozen (p := ⟨g, 0, none⟩) lg]; exact fg
  have zh : (w.alloc (.cells #[.int .i64 a, .int .i64 k] 97)).frozen? ⟨h, 0, none⟩ = false := by rw [((Below.refl w.heap.size w).alloc (Nat.le_refl _) _).frozen (p := ⟨h, 0, none⟩) lh]; exact fh
  clear hta
  refine wp_mono (Q := fun e a' w' => e = .normal ∧ a'.defers = [] ∧ Upd (fun b => b = g ∨ b = h) w w' ∧ w'.heap[g]? = some (.cells #[.int .i64 a] 3 (0, 0)) ∧ w'.heap[h]? = some (.cells #[.int .i64 k] 28 (0, 0))) ?_ ?_
  · go_wp2_with fail
    go_region
    all_goals exact ⟨rfl, rfl, set2 Hg Hh hne⟩
  · rintro e a' w' ⟨rfl, h0, h1, h2, h3⟩
    simp [bodyPostS, results, Tryz.results60]
    exact ⟨h0, h1, h2, h3⟩
set_option maxRecDepth 100000 in
set_option maxHeartbeats 1600000 in
theorem idleG (g h : Nat) (w : World) :
    CallsD Tryz.prog 60 #[.pointer (some ⟨g, 0, none⟩), .pointer (some ⟨h, 0, none⟩)] .returning w fun e u' w' => e = .returned (.tuple #[]) ∧ u' = .returning ∧ Below w.heap.size w w' := by
  have hta : ∀ w, (Instr.typeAssert .nilIface 20 97 true).run Tryz.prog w = .ok (.tuple #[.agg #[.int .i64 0, .int .i64 0], .bool false]) w := fun _ => by kernel_rfl
  refine callsD_of_wpS Tryz.func60 rfl fun c₀ cs hu => ?_
  apply wpS_seq
  apply wpS_region
  simp [wpOpsS, go_sem, recoverD, hu, hta, Tryz.ntmps60, Exit.thenS]
  apply wpS_seq
  apply wpS_region
  simp [wpOpsS, go_sem, Exit.thenS]
  refine wpS_cond (t := false) (by simp [Act.eval, Array.replicate]) ?_
  simp only [Bool.false_eq_true, if_false]
  refine wpS_of_wp (wp_skip ?_)
  cases c₀
  simp_all [bodyPostS, results, Tryz.results60]
  exact (Below.refl _ _).alloc (Nat.le_refl _) _
end Go.Proofs.YteplkhgaoaphhaaGreatDoor
/- The walk of the parser's read. Written by mkread.py. -/
namespace Go.Proofs.YteplkhgaoaphhaaGreatDoor
open Go Go.RowKit Go.Lib

set_option maxRecDepth 100000 in
set_option maxHeartbeats 3200000 in
theorem GlVRead_any (f : Nat) (hf : f ≤ 1000000) (l : List UInt8) (hl : l.length ≤ 900000) (W : World) (hE : ErrR W) (hno : textP (globP f) l ≠ none) :
    Calls Tryz.prog 27 #[.string (strB l), .func (.func 28) #[] #[]] W fun e w' => TextR W (.agg #[.slice none 0 0, .slice none 0 0]) GlV (textP (globP f) l) e w' := by
  have hmf : ∀ (fn : Fn) (first cap : Array Value) (w : World), (Instr.makeFunc fn first cap).run Tryz.prog w = .ok (.func fn first cap) w := fun _ _ _ _ => rfl
  have hz : (strB l).size = l.length := rfl
  generalize hX : textP (globP f) l = X at hno ⊢
  replace hX := hide hX
  replace hno := hide hno
  have b0 := hide (heap_old (heap_old (heap_new W (.cells #[.slice none 0 0, .slice none 0 0] 41)) (.cells #[.int .i64 0] 3)) (.cells #[.int .i64 0] 28))
  have b1 := hide (heap_old (heap_new (W.alloc (.cells #[.slice none 0 0, .slice none 0 0] 41)) (.cells #[.int .i64 0] 3)) (.cells #[.int .i64 0] 28))
  have b2 := hide (heap_new ((W.alloc (.cells #[.slice none 0 0, .slice none 0 0] 41)).alloc (.cells #[.int .i64 0] 3)) (.cells #[.int .i64 0] 28))
  have hB : Below W.heap.size W (((W.alloc (.cells #[.slice none 0 0, .slice none 0 0] 41)).alloc (.cells #[.int .i64 0] 3)).alloc (.cells #[.int .i64 0] 28)) := (((Below.refl _ _).alloc (Nat.le_refl _) _).alloc (by simp) _).alloc (by simp; omega) _
  have hN := hide (tokens_any l hl (((W.alloc (.cells #[.slice none 0 0, .slice none 0 0] 41)).alloc (.cells #[.int .i64 0] 3)).alloc (.cells #[.int .i64 0] 28)) (hE.below hB))
  replace hB := hide hB
  have s1 : ((W.alloc (.cells #[.slice none 0 0, .slice none 0 0] 41))).heap.size = W.heap.size + 1 := by simp
  have s2 : (((W.alloc (.cells #[.slice none 0 0, .slice none 0 0] 41)).alloc (.cells #[.int .i64 0] 3))).heap.size = W.heap.size + 1 + 1 := by simp
  have s3 : (((W.alloc (.cells #[.slice none 0 0, .slice none 0 0] 41)).alloc (.cells #[.int .i64 0] 3)).alloc (.cells #[.int .i64 0] 28)).heap.size = W.heap.size + 3 := by simp
  rw [s1] at b1
  rw [s2] at b2
  generalize hW3 : (((W.alloc (.cells #[.slice none 0 0, .slice none 0 0] 41)).alloc (.cells #[.int .i64 0] 3)).alloc (.cells #[.int .i64 0] 28)) = W3 at *
  replace hW3 := hide hW3
  replace s3 := hide s3
  clear s1 s2
  cases hlx : lexT l with
  | error x =>
    obtain ⟨a, k⟩ := x
    have hX : Hid (X = some (.error (a, k))) := hide (by rw [← hX.out]; unfold textP; rw [hlx])
    rw [hlx] at hN
    clear hlx
    go_enter_defers Tryz.func27, Tryz.ntmps27
    go_wp2_with fail
    rw [hW3.out]
    refine hN.out.mono ?_
    rintro e w1 ⟨hb, rfl, hk⟩
    have d0 := heapB b0.out hb
    have d1 := heapB b1.out hb
    have d2 := heapB b2.out hb
    have c1 := cell_at d1 0
    have f1 := frozen_at d1 0
    have c2 : (w1.setCell ⟨W.heap.size + 1, 0, none⟩ (.int .i64 a)).cell? ⟨W.heap.size + 1 + 1, 0, none⟩ = _ := cell_at (by rw [heap_set_other (by omega)]; exact d2) 0
    have f2 : (w1.setCell ⟨W.heap.size + 1, 0, none⟩ (.int .i64 a)).frozen? ⟨W.heap.size + 1 + 1, 0, none⟩ = _ := frozen_at (by rw [heap_set_other (by omega)]; exact d2) 0
    simp at c1 c2
    have hk1 : ((k : Int) != 0) = true := bne_iff_ne.2 (by omega)
    have e0 := hide (show ((w1.setCell ⟨W.heap.size + 1, 0, none⟩ (.int .i64 a)).setCell ⟨W.heap.size + 1 + 1, 0, none⟩ (.int .i64 k)).heap[W.heap.size]? = some (.cells #[.slice none 0 0, .slice none 0 0] 41 (0, 0)) by rw [heap_set_other (by omega), heap_set_other (by omega)]; exact d0)
    have e1 := hide (show ((w1.setCell ⟨W.heap.size + 1, 0, none⟩ (.int .i64 a)).setCell ⟨W.heap.size + 1 + 1, 0, none⟩ (.int .i64 k)).heap[W.heap.size + 1]? = some (.cells #[.int .i64 a] 3 (0, 0)) by rw [heap_set_other (by omega)]; exact heap_set d1 0 _)
    have e2 := hide (show ((w1.setCell ⟨W.heap.size + 1, 0, none⟩ (.int .i64 a)).setCell ⟨W.heap.size + 1 + 1, 0, none⟩ (.int .i64 k)).heap[W.heap.size + 1 + 1]? = some (.cells #[.int .i64 k] 28 (0, 0)) from (by
      have h9 : (w1.setCell ⟨W.heap.size + 1, 0, none⟩ (.int .i64 a)).heap[W.heap.size + 1 + 1]? = some (.cells #[.int .i64 0] 28 (0, 0)) := by rw [heap_set_other (by omega)]; exact d2
      exact heap_set h9 0 _))
    have hb3 := hide (((hB.out.trans (hb.mono hB.out.size)).setCell (show W.heap.size ≤ (⟨W.heap.size + 1, 0, none⟩ : Addr).block from by simp) (.int .i64 a)).setCell (show W.heap.size ≤ (⟨W.heap.size + 1 + 1, 0, none⟩ : Addr).block from by simp; omega) (.int .i64 k))
    clear hk d0 d1 d2 hb
    go_upto_region 3 with (fail)
    clear c1 c2 f1 f2
    generalize (w1.setCell ⟨W.heap.size + 1, 0, none⟩ (.int .i64 a)).setCell ⟨W.heap.size + 1 + 1, 0, none⟩ (.int .i64 k) = w2 at e0 e1 e2 hb3 ⊢
    have j0 := setCell_id (v := .slice none 0 0) e0.out (o := 0) rfl
    have u0 := cell_at e0.out 0
    have v0 := frozen_at e0.out 0
    have j1 := setCell_id (v := .slice none 0 0) e0.out (o := 1) rfl
    have u1 := cell_at e0.out 1
    have v1 := frozen_at e0.out 1
    have i1 := setCell_id (v := .int .i64 a) e1.out (o := 0) rfl
    have i2 := setCell_id (v := .int .i64 k) e2.out (o := 0) rfl
    have x1 := cell_at e1.out 0
    have x2 := cell_at e2.out 0
    have y1 := frozen_at e1.out 0
    have y2 := frozen_at e2.out 0
    simp at u0 u1 x1 x2
    go_region
    go_wp2_with fail
    refine ⟨.tuple #[.agg #[.slice none 0 0, .slice none 0 0], .int .i64 a, .int .i64 k], by simp [results, Tryz.results27, go_sem, x1, x2, u0, u1], ?_⟩
    refine ⟨?_, ?_⟩
    · exact ⟨hb3.out.os, hb3.out.tape, hb3.out.output, hb3.out.size, hb3.out.block⟩
    · rw [hX.out]
  | ok ts =>
    have hX : Hid (wholeP l.length (globP f ts) = X) := hide (by rw [← hX.out]; unfold textP; rw [hlx])
    have hgd := hide (lexT_good hlx)
    rw [hlx] at hN
    clear hlx
    go_enter_defers Tryz.func27, Tryz.ntmps27
    go_wp2_with fail
    rw [hW3.out]
    refine hN.out.mono ?_
    rintro e w1 ⟨hb, v, rfl, hrow⟩
    obtain ⟨A, c, rfl, -⟩ := hrow.slice
    have d0 := heapB b0.out hb
    have d1 := heapB b1.out hb
    have d2 := heapB b2.out hb
    have c1 := cell_at d1 0
    have f1 := frozen_at d1 0
    have i1 := setCell_id (v := .int .i64 0) d1 (o := 0) rfl
    have c2 := cell_at d2 0
    have f2 := frozen_at d2 0
    have i2 := setCell_id (v := .int .i64 0) d2 (o := 0) rfl
    simp at c1 c2
    have hW1 : W3.heap.size ≤ w1.heap.size := hb.size
    have hrl := hide hrow.lt
    replace hrow := hide hrow
    have hb3 := hide (hB.out.trans (hb.mono hB.out.size))
    replace d0 := hide d0
    replace d1 := hide d1
    replace d2 := hide d2
    replace hb := hide hb
    go_wp2_with fail
    have hp3 : W.heap.size + 3 ≤ w1.heap.size := by have := s3.out; omega
    have hPs : PsW (w1.alloc (.cells #[.slice A ts.length c, .int .i64 0, .int .i64 l.length, .int .i64 0, .int .i64 0] 102)) w1.heap.size ⟨.slice A ts.length c, ts, l.length, W3.heap.size⟩ 0 0 ts :=
      ⟨(Upd.alloc (fun _ => False) w1 _).own hrow.out fun _ _ => id, ⟨0, heap_new w1 (.cells #[.slice A ts.length c, .int .i64 0, .int .i64 l.length, .int .i64 0, .int .i64 0] 102), Nat.zero_le _, List.drop_zero⟩, Nat.zero_le _, Nat.zero_le _, ⟨Nat.le_trans hgd.out.2 (by decide), hgd.out.1⟩⟩
    have hb4 := hide (hb3.out.alloc (by omega) (.cells #[.slice A ts.length c, .int .i64 0, .int .i64 l.length, .int .i64 0, .int .i64 0] 102))
    replace d0 := hide (heap_old d0.out (.cells #[.slice A ts.length c, .int .i64 0, .int .i64 l.length, .int .i64 0, .int .i64 0] 102))
    replace d1 := hide (heap_old d1.out (.cells #[.slice A ts.length c, .int .i64 0, .int .i64 l.length, .int .i64 0, .int .i64 0] 102))
    replace d2 := hide (heap_old d2.out (.cells #[.slice A ts.length c, .int .i64 0, .int .i64 l.length, .int .i64 0, .int .i64 0] 102))
    have hwp : w1.heap.size < (w1.alloc (.cells #[.slice A ts.length c, .int .i64 0, .int .i64 l.length, .int .i64 0, .int .i64 0] 102)).heap.size := by simp
    have hF := globals_ok f hf w1.heap.size ⟨.slice A ts.length c, ts, l.length, W3.heap.size⟩ ts _ hPs
    generalize (w1.alloc (.cells #[.slice A ts.length c, .int .i64 0, .int .i64 l.length, .int .i64 0, .int .i64 0] 102)) = w4 at hF hb4 d0 d1 d2 hwp ⊢
    have fall : ∀ (w5 : World) (a k : Nat), X = some (.error (a, k)) → Upd (At w1.heap.size) w4 w5 → ∀ (w6 : World), Upd (fun b => b = W.heap.size + 1 ∨ b = W.heap.size + 1 + 1) w5 w6 → w6.heap[W.heap.size + 1]? = some (.cells #[.int .i64 a] 3 (0, 0)) → w6.heap[W.heap.size + 1 + 1]? = some (.cells #[.int .i64 k] 28 (0, 0)) →
        TextR W (.agg #[.slice none 0 0, .slice none 0 0]) GlV X (.returned (.tuple #[.agg #[.slice none 0 0, .slice none 0 0], .int .i64 a, .int .i64 k])) w6 ∧ w6.heap[W.heap.size]? = some (.cells #[.slice none 0 0, .slice none 0 0] 41 (0, 0)) := by
      intro w5 a k hx hU w6 hU6 h1 h2
      refine ⟨⟨?_, by rw [hx]⟩, ?_⟩
      · exact (((Upd.of_below (fun _ => False) hb4.out).trans hU fun b hb e => by simp only [At] at e; omega).trans hU6 fun b hb e => by rcases e with e | e <;> omega).below (Nat.le_refl _) fun b e => e.elim
      · exact hU6.heap (hU.heap d0.out (by simp only [At]; omega)) (by omega)
    cases hr : globP f ts with
    | no =>
      rw [hr] at hX
      exact absurd hX.out.symm hno.out
    | er r k =>
      rw [hr] at hX hF
      have hX2 : X = some (.error (atOf l.length r, k)) := hX.out.symm
      replace fall := hide (fun w5 h1 w6 => fall w5 _ _ hX2 h1 w6)
      refine (hF fun e => by cases e).mono ?_
      rintro e w5 ⟨hU, rfl⟩
      have g1 := hide (hU.heap d1.out (by simp only [At]; omega))
      have g2 := hide (hU.heap d2.out (by simp only [At]; omega))
      replace fall := hide (fall.out w5 hU)
      clear hU hr hF hX hX2 hPs i1 i2 c1 c2 f1 f2
      go_wp2_with fail
      refine leaves_cons (f := 60) (args := #[.pointer (some ⟨W.heap.size + 1, 0, none⟩), .pointer (some ⟨W.heap.size + 1 + 1, 0, none⟩)]) (by simp) (by simp [go_sem]) ?_
      refine (caughtG (W.heap.size + 1) (W.heap.size + 1 + 1) (atOf l.length r) k [] w5 _ _ g1.out g2.out (by omega)).mono ?_
      rintro e u' w6 ⟨rfl, rfl, hU6, h1, h2⟩
      obtain ⟨q1, q2⟩ := fall.out w6 hU6 h1 h2
      have x1 := cell_at h1 0
      have x2 := cell_at h2 0
      have u0 := cell_at q2 0
      have u1 := cell_at q2 1
      simp at x1 x2 u0 u1
      clear h1 h2 q2 hU6
      refine ⟨.tuple #[.agg #[.slice none 0 0, .slice none 0 0], .int .i64 (atOf l.length r), .int .i64 k], by simp [results, Tryz.results27, go_sem, x1, x2, u0, u1], ?_⟩
      exact q1
    | ok a r =>
      rw [hr] at hX hF
      refine (hF fun e => by cases e).mono ?_
      rintro e w5 ⟨hU, v5, rfl, hv, n5, hp5⟩
      have hv0 := hv
      obtain ⟨A1, n1, k1, A2, n2, k2, rfl, -⟩ := hv
      have e0 := hide (heap_old (hU.heap d0.out (by simp only [At]; omega)) (.cells #[.slice A1 n1 k1, .slice A2 n2 k2] 41))
      have e1 := hide (heap_old (hU.heap d1.out (by simp only [At]; omega)) (.cells #[.slice A1 n1 k1, .slice A2 n2 k2] 41))
      have e2 := hide (heap_old (hU.heap d2.out (by simp only [At]; omega)) (.cells #[.slice A1 n1 k1, .slice A2 n2 k2] 41))
      have ht := hide (heap_new w5 (.cells #[.slice A1 n1 k1, .slice A2 n2 k2] 41))
      have hp6 := hp5.alloc (.cells #[.slice A1 n1 k1, .slice A2 n2 k2] 41)
      have hv6 := hide (GlV.upd (Upd.alloc (fun _ => False) w5 (.cells #[.slice A1 n1 k1, .slice A2 n2 k2] 41)) (fun _ _ => id) hv0)
      have hU6 := hide (hU.then (Upd.alloc (At w1.heap.size) w5 (.cells #[.slice A1 n1 k1, .slice A2 n2 k2] 41)))
      have hz5 : w4.heap.size ≤ w5.heap.size := hU.size
      have hE := expectEnd_any w1.heap.size ⟨.slice A ts.length c, ts, l.length, W3.heap.size⟩ 0 n5 r _ hp6
      clear hv0 hp5 hp6 hU hF hr hPs
      replace fall := hide fall
      go_wp2_with fail
      cases r with
      | cons t rr =>
        have hX2 : X = some (.error (t.at_, 51)) := hX.out.symm
        rw [if_neg (show ¬ (endB (t :: rr) = true) from fun e => by cases e)] at hE
        refine hE.mono ?_
        rintro e w7 ⟨hU7, rfl⟩
        rw [show atOf _ (t :: rr) = t.at_ from rfl]
        replace fall := hide (fall.out w7 t.at_ 51 hX2 (hU6.out.then hU7))
        have g1 := hide (hU7.heap e1.out (by simp only [At]; omega))
        have g2 := hide (hU7.heap e2.out (by simp only [At]; omega))
        clear hU7 hX hX2 hE i1 i2 c1 c2 f1 f2
        go_wp2_with fail
        refine leaves_cons (f := 60) (args := #[.pointer (some ⟨W.heap.size + 1, 0, none⟩), .pointer (some ⟨W.heap.size + 1 + 1, 0, none⟩)]) (by simp) (by simp [go_sem]) ?_
        refine (caughtG (W.heap.size + 1) (W.heap.size + 1 + 1) t.at_ 51 [] w7 _ _ g1.out g2.out (by omega)).mono ?_
        rintro e u' w8 ⟨rfl, rfl, hU8, h1, h2⟩
        obtain ⟨q1, q2⟩ := fall.out w8 hU8 h1 h2
        have x1 := cell_at h1 0
        have x2 := cell_at h2 0
        have u0 := cell_at q2 0
        have u1 := cell_at q2 1
        simp at x1 x2 u0 u1
        clear h1 h2 q2 hU8
        refine ⟨.tuple #[.agg #[.slice none 0 0, .slice none 0 0], .int .i64 t.at_, .int .i64 (51 : Nat)], by simp [results, Tryz.results27, go_sem, x1, x2, u0, u1], ?_⟩
        exact q1
      | nil =>
        have hX2 : X = some (.ok a) := hX.out.symm
        rw [if_pos (show endB [] = true from rfl)] at hE
        refine hE.mono ?_
        rintro e w7 ⟨hU7, v7, rfl, rfl, -⟩
        have g0 := hU7.heap e0.out (by simp only [At]; omega)
        have g1 := hU7.heap e1.out (by simp only [At]; omega)
        have g2 := hU7.heap e2.out (by simp only [At]; omega)
        have g3 := hU7.heap ht.out (by simp only [At]; omega)
        have hv7 := hide (GlV.upd hU7 (fun b hb e => by simp only [At] at e; omega) hv6.out)
        have hb7 := hide (((Upd.of_below (fun _ => False) hb4.out).trans (hU6.out.then hU7) fun b hb e => by simp only [At] at e; omega).below (Nat.le_refl _) fun b e => e.elim)
        replace hX2 := hide hX2
        clear hU7 hX hE fall
        have cc0 := cell_at g3 0
        have cc1 := cell_at g3 1
        simp at cc0 cc1
        have rr0 := g0
        have dd0 := cell_at rr0 0
        have ff0 := frozen_at rr0 0
        have rr1 : (w7.setCell ⟨W.heap.size, 0, none⟩ (.slice A1 n1 k1)).heap[W.heap.size]? = some (.cells #[.slice A1 n1 k1, .slice none 0 0] 41 (0, 0)) := heap_set rr0 0 _
        have dd1 := cell_at rr1 1
        have ff1 := frozen_at rr1 1
        have rr2 : ((w7.setCell ⟨W.heap.size, 0, none⟩ (.slice A1 n1 k1)).setCell ⟨W.heap.size, 1, none⟩ (.slice A2 n2 k2)).heap[W.heap.size]? = some (.cells #[.slice A1 n1 k1, .slice A2 n2 k2] 41 (0, 0)) := heap_set rr1 1 _
        simp at dd0 dd1
        have r1 : ((w7.setCell ⟨W.heap.size, 0, none⟩ (.slice A1 n1 k1)).setCell ⟨W.heap.size, 1, none⟩ (.slice A2 n2 k2)).heap[W.heap.size + 1]? = some (.cells #[.int .i64 0] 3 (0, 0)) := by rw [heap_set_other (by omega), heap_set_other (by omega)]; exact g1
        have r2 : ((w7.setCell ⟨W.heap.size, 0, none⟩ (.slice A1 n1 k1)).setCell ⟨W.heap.size, 1, none⟩ (.slice A2 n2 k2)).heap[W.heap.size + 1 + 1]? = some (.cells #[.int .i64 0] 28 (0, 0)) := by rw [heap_set_other (by omega), heap_set_other (by omega)]; exact g2
        have i1 := setCell_id (v := .int .i64 0) r1 (o := 0) rfl
        have i2 := setCell_id (v := .int .i64 0) r2 (o := 0) rfl
        have c1 := cell_at r1 0
        have c2 := cell_at r2 0
        simp at c1 c2
        have f1 := frozen_at r1 0
        have f2 := frozen_at r2 0
        have rr := hide rr2
        replace r1 := hide r1
        replace r2 := hide r2
        clear rr0 rr1 rr2 g0 g1 g2 g3
        have hv8 := hide (GlV.upd (((Upd.refl (At W.heap.size) w7).setOn 0 (.slice A1 n1 k1)).setOn 1 (.slice A2 n2 k2)) (fun b hb e => by simp only [At] at e; omega) hv7.out)
        have hb8 := hide (((hb7.out).setCell (show W.heap.size ≤ (⟨W.heap.size, 0, none⟩ : Addr).block from Nat.le_refl _) (.slice A1 n1 k1)).setCell (show W.heap.size ≤ (⟨W.heap.size, 1, none⟩ : Addr).block from Nat.le_refl _) (.slice A2 n2 k2))
        go_wp2_with fail
        refine leaves_cons (f := 60) (args := #[.pointer (some ⟨W.heap.size + 1, 0, none⟩), .pointer (some ⟨W.heap.size + 1 + 1, 0, none⟩)]) (by simp) (by simp [go_sem]) ?_
        refine (idleG (W.heap.size + 1) (W.heap.size + 1 + 1) _).mono ?_
        rintro e u' w9 ⟨rfl, rfl, hb9⟩
        have h0 := heapB rr.out hb9
        have h1 := heapB r1.out hb9
        have h2 := heapB r2.out hb9
        have x1 := cell_at h1 0
        have x2 := cell_at h2 0
        have u0 := cell_at h0 0
        have u1 := cell_at h0 1
        simp at x1 x2 u0 u1
        refine ⟨.tuple #[.agg #[.slice A1 n1 k1, .slice A2 n2 k2], .int .i64 0, .int .i64 0], by simp [results, Tryz.results27, go_sem, x1, x2, u0, u1], ?_⟩
        refine ⟨hb8.out.trans (hb9.mono hb8.out.size), ?_⟩
        rw [hX2.out]
        exact ⟨_, rfl, GlV.mono (by have := hb4.out.size; omega) (GlV.upd (Upd.of_below (fun _ => False) hb9) (fun _ _ => id) hv8.out)⟩
end Go.Proofs.YteplkhgaoaphhaaGreatDoor
/- The walk of the parser's face. Written by mkread.py. -/
namespace Go.Proofs.YteplkhgaoaphhaaGreatDoor
open Go Go.RowKit Go.Lib
set_option maxRecDepth 100000 in
set_option maxHeartbeats 3200000 in
theorem Globals_any (f : Nat) (hf : f ≤ 1000000) (l : List UInt8) (hl : l.length ≤ 900000) (W : World) (hE : ErrR W) (hno : textP (globP f) l ≠ none) :
    Calls Tryz.prog 15 #[.string (strB l)] W fun e w' => TextR W (.agg #[.slice none 0 0, .slice none 0 0]) GlV (textP (globP f) l) e w' := by
  have hb : Below W.heap.size W (W.alloc (.cells #[.slice none 0 0, .slice none 0 0] 41)) := (Below.refl _ _).alloc (Nat.le_refl _) _
  have hR := hide (GlVRead_any f hf l hl (W.alloc (.cells #[.slice none 0 0, .slice none 0 0] 41)) (hE.below hb) hno)
  replace hb := hide hb
  have hr0 := hide (heap_new W (.cells #[.slice none 0 0, .slice none 0 0] 41))
  have hs1 : (W.alloc (.cells #[.slice none 0 0, .slice none 0 0] 41)).heap.size = W.heap.size + 1 := by simp
  replace hs1 := hide hs1
  generalize textP (globP f) l = X at hno hR ⊢
  match X, hR, hno with
  | none, _, hno => exact absurd rfl hno
  | some (.error (a, k)), hR, _ =>
    go_enter Tryz.func15, Tryz.ntmps15
    go_wp2_with fail
    refine hR.out.mono ?_
    rintro e w2 ⟨hB, h⟩
    have hb2 := hide (hb.out.trans (hB.mono hb.out.size))
    have g0 := heapB hr0.out hB
    obtain rfl := h
    have rr0 := g0
    have dd0 := cell_at rr0 0
    have ff0 := frozen_at rr0 0
    have rr1 : (w2.setCell ⟨W.heap.size, 0, none⟩ (.slice none 0 0)).heap[W.heap.size]? = some (.cells #[.slice none 0 0, .slice none 0 0] 41 (0, 0)) := heap_set rr0 0 _
    have kk0 : (w2.setCell ⟨W.heap.size, 0, none⟩ (.slice none 0 0)).cell? ⟨W.heap.size, 0, none⟩ = some (.slice none 0 0) := cell_at rr1 0
    replace kk0 := hide kk0
    have dd1 := cell_at rr1 1
    have ff1 := frozen_at rr1 1
    have rr2 : ((w2.setCell ⟨W.heap.size, 0, none⟩ (.slice none 0 0)).setCell ⟨W.heap.size, 1, none⟩ (.slice none 0 0)).heap[W.heap.size]? = some (.cells #[.slice none 0 0, .slice none 0 0] 41 (0, 0)) := heap_set rr1 1 _
    have kk1 : ((w2.setCell ⟨W.heap.size, 0, none⟩ (.slice none 0 0)).setCell ⟨W.heap.size, 1, none⟩ (.slice none 0 0)).cell? ⟨W.heap.size, 1, none⟩ = some (.slice none 0 0) := cell_at rr2 1
    replace kk1 := hide kk1
    simp at dd0 dd1
    clear rr0 rr1 rr2
    go_wp2_with fail
    refine bodyPost_ret (v := .tuple #[.agg #[.slice none 0 0, .slice none 0 0], .int .i64 a, .int .i64 k]) (by simp [results, Tryz.results15, go_sem, kk0.out, kk1.out]) rfl ?_
    exact ⟨((hb2.out).setCell (show W.heap.size ≤ (⟨W.heap.size, 0, none⟩ : Addr).block from Nat.le_refl _) (.slice none 0 0)).setCell (show W.heap.size ≤ (⟨W.heap.size, 1, none⟩ : Addr).block from Nat.le_refl _) (.slice none 0 0), rfl⟩
  | some (.ok a), hR, _ =>
    go_enter Tryz.func15, Tryz.ntmps15
    go_wp2_with fail
    refine hR.out.mono ?_
    rintro e w2 ⟨hB, h⟩
    have hb2 := hide (hb.out.trans (hB.mono hb.out.size))
    have g0 := heapB hr0.out hB
    obtain ⟨v, rfl, hv⟩ := h
    have hv0 := hv
    obtain ⟨A1, n1, k1, A2, n2, k2, rfl, -⟩ := hv
    replace hv0 := hide hv0
    have rr0 := g0
    have dd0 := cell_at rr0 0
    have ff0 := frozen_at rr0 0
    have rr1 : (w2.setCell ⟨W.heap.size, 0, none⟩ (.slice A1 n1 k1)).heap[W.heap.size]? = some (.cells #[.slice A1 n1 k1, .slice none 0 0] 41 (0, 0)) := heap_set rr0 0 _
    have kk0 : (w2.setCell ⟨W.heap.size, 0, none⟩ (.slice A1 n1 k1)).cell? ⟨W.heap.size, 0, none⟩ = some (.slice A1 n1 k1) := cell_at rr1 0
    replace kk0 := hide kk0
    have dd1 := cell_at rr1 1
    have ff1 := frozen_at rr1 1
    have rr2 : ((w2.setCell ⟨W.heap.size, 0, none⟩ (.slice A1 n1 k1)).setCell ⟨W.heap.size, 1, none⟩ (.slice A2 n2 k2)).heap[W.heap.size]? = some (.cells #[.slice A1 n1 k1, .slice A2 n2 k2] 41 (0, 0)) := heap_set rr1 1 _
    have kk1 : ((w2.setCell ⟨W.heap.size, 0, none⟩ (.slice A1 n1 k1)).setCell ⟨W.heap.size, 1, none⟩ (.slice A2 n2 k2)).cell? ⟨W.heap.size, 1, none⟩ = some (.slice A2 n2 k2) := cell_at rr2 1
    replace kk1 := hide kk1
    simp at dd0 dd1
    clear rr0 rr1 rr2
    go_wp2_with fail
    refine bodyPost_ret (v := .tuple #[.agg #[.slice A1 n1 k1, .slice A2 n2 k2], .int .i64 0, .int .i64 0]) (by simp [results, Tryz.results15, go_sem, kk0.out, kk1.out]) rfl ?_
    have hfin := ((Upd.refl (At W.heap.size) w2).setOn 0 (.slice A1 n1 k1)).setOn 1 (.slice A2 n2 k2)
    refine ⟨((hb2.out).setCell (show W.heap.size ≤ (⟨W.heap.size, 0, none⟩ : Addr).block from Nat.le_refl _) (.slice A1 n1 k1)).setCell (show W.heap.size ≤ (⟨W.heap.size, 1, none⟩ : Addr).block from Nat.le_refl _) (.slice A2 n2 k2), _, rfl, ?_⟩
    exact GlV.mono (by have := hs1.out; omega) (GlV.upd hfin (fun b hb e => by have := hs1.out; simp only [At] at e; omega) hv0.out)
end Go.Proofs.YteplkhgaoaphhaaGreatDoor
/- The chapter's example, as the laws have it. -/
namespace Go.Proofs.YteplkhgaoaphhaaGreatDoor
open Go Go.RowKit Go.Lib

theorem SlcV.len {w : World} {S : Nat → Prop} {n m c : Nat} {A : Option Addr} {uss : List (List Value)} (h : SlcV w S n uss (.slice A m c)) : m = n := by
  obtain ⟨A', c', h1, -⟩ := h
  injection h1
theorem FnV.read {w : World} {B : Nat} {a : Fn7} {v : Value} (h : FnV w B a v) : ∃ A1 c1 A2 c2 A3 c3, v = .agg #[.string (strB a.name), .slice A1 a.params.length c1, .slice A2 a.locals.length c2, .slice A3 a.body.length c3] ∧ BlkV w (B ≤ ·) a.body (.slice A3 a.body.length c3) := by
  obtain ⟨A1, n1, c1, A2, n2, c2, A3, n3, c3, rfl, ⟨u1, h1, -⟩, ⟨u2, h2, -⟩, h3⟩ := h
  have h3' := h3
  obtain ⟨u3, h4, -⟩ := h3'
  obtain rfl := h1.len
  obtain rfl := h2.len
  obtain rfl := h4.len
  exact ⟨A1, c1, A2, c2, A3, c3, rfl, h3⟩
theorem GlV.read {w : World} {B : Nat} {a : Gl} {v : Value} (h : GlV w B a v) : ∃ A1 c1 A2 c2, v = .agg #[.slice A1 a.cells.length c1, .slice A2 a.arrays.length c2] ∧ ListV w (B ≤ ·) ArrP 2 a.arrays (.slice A2 a.arrays.length c2) := by
  obtain ⟨A1, n1, c1, A2, n2, c2, rfl, ⟨u1, h1, -⟩, h3⟩ := h
  have h3' := h3
  obtain ⟨u2, h2, -⟩ := h3'
  obtain rfl := h1.len
  obtain rfl := h2.len
  exact ⟨A1, c1, A2, c2, rfl, h3⟩
theorem BlkV.head {w : World} {S : Nat → Prop} {s : Sm} {l : List Sm} {A : Option Addr} {n c : Nat} (h : BlkV w S (s :: l) (.slice A n c)) : ∃ g us, A = some ⟨g, 0, none⟩ ∧ SmV w S s us ∧ ∀ j u, us[j]? = some u → w.cell? ⟨g, j, none⟩ = some u := by
  obtain ⟨uss, ⟨A', c', h1, h2, h3, h4⟩, h5⟩ := h
  unfold SmsV at h5
  obtain ⟨us, rest, rfl, h6, -⟩ := h5
  injection h1 with e1 e2 e3
  subst e1
  rcases h4 with h4 | ⟨g, rfl, -, h7⟩
  · simp at h4
  · refine ⟨g, us, rfl, h6, fun j u hj => h7 j u ?_⟩
    rw [List.flatten_cons, List.getElem?_append_left (List.getElem?_eq_some_iff.1 hj).1]
    exact hj
theorem ListV.head {α : Type} {P : World → (Nat → Prop) → α → List Value → Prop} {w : World} {S : Nat → Prop} {sz : Nat} {a : α} {l : List α} {A : Option Addr} {n c : Nat} (h : ListV w S P sz (a :: l) (.slice A n c)) : ∃ g us, A = some ⟨g, 0, none⟩ ∧ P w S a us ∧ ∀ j u, us[j]? = some u → w.cell? ⟨g, j, none⟩ = some u := by
  obtain ⟨uss, ⟨A', c', h1, h2, h3, h4⟩, h5⟩ := h
  match uss, h5 with
  | us :: rest, ⟨⟨_, h6⟩, _⟩ =>
    injection h1 with e1 e2 e3
    subst e1
    rcases h4 with h4 | ⟨g, rfl, -, h7⟩
    · simp at h4
    · refine ⟨g, us, rfl, h6, fun j u hj => h7 j u ?_⟩
      rw [List.flatten_cons, List.getElem?_append_left (List.getElem?_eq_some_iff.1 hj).1]
      exact hj
def kF : Fn7 := ⟨[102], [⟨[120], false⟩], [], [.mk 9 [] [] (some (.bin 2 (.var [120]) (.num 1))) none none [] [] [] 0]⟩
set_option maxRecDepth 100000 in
theorem k1 : textP (funcP 30) [102, 110, 32, 102, 40, 120, 41, 32, 123, 32, 114, 101, 116, 117, 114, 110, 32, 120, 32, 43, 32, 49, 59, 32, 125] = some (.ok kF) := by rfl
set_option maxRecDepth 100000 in
theorem k2 : textP (funcP 30) [102, 110, 32, 102, 40, 120, 41, 32, 123, 32, 114, 101, 116, 117, 114, 110, 32, 59, 32, 125] = some (.error (17, 51)) := by rfl
set_option maxRecDepth 100000 in
theorem k3 : textP (globP 30) [99, 101, 108, 108, 32, 99, 59, 32, 97, 114, 114, 97, 121, 32, 97, 91, 51, 93, 59] = some (.ok ⟨[[99]], [([97], 3)]⟩) := by rfl

set_option maxRecDepth 100000 in
set_option maxHeartbeats 3200000 in
theorem known_any (W : World) (hE : ErrR W) : Calls Tryz.prog 9 #[] W fun e w' => e = .returned (.bool true) ∧ Below W.heap.size W w' := by
  have h1 := hide (Func_any 30 (by decide) [102, 110, 32, 102, 40, 120, 41, 32, 123, 32, 114, 101, 116, 117, 114, 110, 32, 120, 32, 43, 32, 49, 59, 32, 125] (by decide) W hE (by rw [k1]; exact fun e => by cases e))
  rw [k1] at h1
  replace hE := hide hE
  go_enter Tryz.func9, Tryz.ntmps9
  go_wp2_with fail
  refine h1.out.mono ?_
  rintro e w1 ⟨hb1, v1, rfl, hv1⟩
  obtain ⟨A1, c1, A2, c2, A3, c3, hve, -⟩ := hv1.read
  obtain rfl : v1 = .agg #[.string (strB [102]), .slice A1 1 c1, .slice A2 0 c2, .slice A3 1 c3] := hve
  have hx1 := hide (heap_new w1 (.cells #[.string (strB [102]), .slice A1 1 c1, .slice A2 0 c2, .slice A3 1 c3] 27))
  have hw1 := FnV.upd (Upd.alloc (fun _ => False) w1 (.cells #[.string (strB [102]), .slice A1 1 c1, .slice A2 0 c2, .slice A3 1 c3] 27)) (fun _ _ => id) hv1
  have hb1' := hb1.alloc hb1.size (.cells #[.string (strB [102]), .slice A1 1 c1, .slice A2 0 c2, .slice A3 1 c3] 27)
  have h2 := hide (Func_any 30 (by decide) [102, 110, 32, 102, 40, 120, 41, 32, 123, 32, 114, 101, 116, 117, 114, 110, 32, 59, 32, 125] (by decide) _ (hE.out.below hb1') (by rw [k2]; exact fun e => by cases e))
  rw [k2] at h2
  replace hw1 := hide hw1
  replace hb1' := hide hb1'
  clear hv1 hb1
  go_wp2_with fail
  refine h2.out.mono ?_
  rintro e w2 ⟨hb2, rfl⟩
  have hx2 := heap_old (heapB hx1.out hb2) (.cells #[.string ⟨#[]⟩, .slice none 0 0, .slice none 0 0, .slice none 0 0] 27)
  have hw2 := FnV.upd (Upd.alloc (fun _ => False) w2 (.cells #[.string ⟨#[]⟩, .slice none 0 0, .slice none 0 0, .slice none 0 0] 27)) (fun _ _ => id) (FnV.upd (Upd.of_below (fun _ => False) hb2) (fun _ _ => id) hw1.out)
  have hb2' := (hb1'.out.trans (hb2.mono hb1'.out.size)).alloc (Nat.le_trans hb1'.out.size hb2.size) (.cells #[.string ⟨#[]⟩, .slice none 0 0, .slice none 0 0, .slice none 0 0] 27)
  have h3 := hide (Globals_any 30 (by decide) [99, 101, 108, 108, 32, 99, 59, 32, 97, 114, 114, 97, 121, 32, 97, 91, 51, 93, 59] (by decide) _ (hE.out.below hb2') (by rw [k3]; exact fun e => by cases e))
  rw [k3] at h3
  replace hx2 := hide hx2
  replace hw2 := hide hw2
  replace hb2' := hide hb2'
  clear hb2
  go_wp2_with fail
  refine h3.out.mono ?_
  rintro e w3 ⟨hb3, v3, rfl, hv3⟩
  obtain ⟨D1, d1, D2, d2, hve, hv4⟩ := hv3.read
  obtain rfl : v3 = .agg #[.slice D1 1 d1, .slice D2 1 d2] := hve
  have hx3 := heapB hx2.out hb3
  have hw3 := FnV.upd (Upd.of_below (fun _ => False) hb3) (fun _ _ => id) hw2.out
  obtain ⟨_, _, _, _, _, _, he, hbk⟩ := hw3.read
  injection he with he
  injection he with he
  injection he with _ he
  injection he with _ he
  injection he with _ he
  injection he with he _
  injection he with e1 e2 e3
  subst e1 e3
  clear e2
  obtain ⟨g, us, rfl, hs, hg⟩ := BlkV.head hbk
  unfold SmV at hs
  obtain ⟨ve, vf, vc, va, vt, vl, ut, ul, rfl, hxe, -⟩ := hs
  have hxx : ExV w3 (W.heap.size ≤ ·) (.bin 2 (.var [120]) (.num 1)) ve := hxe
  clear hxe
  obtain ⟨va', vb', ⟨ge, rfl, -, hge⟩, -, -⟩ := hxx
  obtain ⟨ga, us2, rfl, hap, hga⟩ := ListV.head hv4
  obtain rfl : us2 = [.string (strB [97]), .int .i64 3] := hap
  have ho := fun {b o : Nat} {u : Value} (h : w3.cell? ⟨b, o, none⟩ = some u) => (Upd.alloc (fun _ => False) w3 (.cells #[.slice D1 1 d1, .slice (some ⟨ga, 0, none⟩) 1 d2] 41)).cell h id
  have hq : ∀ j u, #[Value.string (strB [102]), .slice A1 1 c1, .slice A2 0 c2, .slice (some ⟨g, 0, none⟩) 1 c3][j]? = some u → (w3.alloc (.cells #[.slice D1 1 d1, .slice (some ⟨ga, 0, none⟩) 1 d2] 41)).cell? ⟨w1.heap.size, j, none⟩ = some u := fun j u h => ho ((cell_at hx3 j).trans h)
  have q0 := hq 0 _ rfl
  have q1 := hq 1 _ rfl
  have q3 := hq 3 _ rfl
  have p0 : (w3.alloc (.cells #[.slice D1 1 d1, .slice (some ⟨ga, 0, none⟩) 1 d2] 41)).cell? ⟨g, 0, none⟩ = some (.int .i64 9) := ho (hg 0 _ rfl)
  have p3 := ho (hg 3 _ rfl)
  have n0 : (w3.alloc (.cells #[.slice D1 1 d1, .slice (some ⟨ga, 0, none⟩) 1 d2] 41)).cell? ⟨ge, 0, none⟩ = some (.int .i64 2) := ho ((cell_at hge 0).trans rfl)
  have m1 := ho (hga 1 _ rfl)
  have hsq : ((strB [102]).toList == [102]) = true := by rw [str_beq']; rfl
  clear ho hq
  have hb4 := hide ((hb2'.out.trans (hb3.mono hb2'.out.size)).alloc (Nat.le_trans hb2'.out.size hb3.size) (.cells #[.slice D1 1 d1, .slice (some ⟨ga, 0, none⟩) 1 d2] 41))
  clear hx3 hw3 hbk hg hge hga hv4 hv3 hb3
  go_wp2_with fail
  go_ret
  exact ⟨rfl, hb4.out⟩
end Go.Proofs.YteplkhgaoaphhaaGreatDoor
/- The walk of ParseDeep. -/
namespace Go.Proofs.YteplkhgaoaphhaaGreatDoor
open Go Go.RowKit Go.Lib

/-- So many times the same. -/
def rep (s : List UInt8) : Nat → List UInt8
  | 0 => []
  | n + 1 => rep s n ++ s
theorem rep_len (s : List UInt8) : ∀ n, (rep s n).length = n * s.length
  | 0 => by simp [rep]
  | n + 1 => by rw [rep, List.length_append, rep_len s n, Nat.succ_mul]
set_option maxRecDepth 100000 in
theorem times_any (s : List UInt8) (n : Nat) (hn : n ≤ 300) (hs : s.length ≤ 100) (w : World) : Calls Tryz.prog 14 #[.string (strB s), .int .i64 n] w fun e w' => e = .returned (.string (strB (rep s n))) ∧ w = w' := by
  go_enter Tryz.func14, Tryz.ntmps14
  go_wp2_with fail
  go_loop [5, 6] (fun t i => ∃ k : Nat, k ≤ n ∧ i = .int .i64 k ∧ t = .string (strB (rep s k))) (fun _ i => n - (RowKit.intOf i).toNat)
  case atStart => exact ⟨0, Nat.zero_le _, rfl, rfl⟩
  case round =>
    obtain ⟨k, hk, rfl, rfl⟩ := hrel
    by_cases hlt : k < n
    · have hl : (rep s k).length ≤ 300 * 100 := by rw [rep_len]; exact Nat.mul_le_mul (by omega) hs
      have hadd : ∀ w, (Op.stringOp .add (strB (rep s k)) (strB s)).run Tryz.prog w = .ok (.string (strB (rep s (k + 1)))) w := fun w => str_add (rep s k) s (by omega) w
      have hlt' : (k : Int) < (n : Int) := by omega
      go_wp2_with fail
      go_round
      case rel => exact ⟨k + 1, by omega, by go_num, rfl⟩
      case measure => simp [RowKit.intOf]; omega
    · obtain rfl : k = n := by omega
      have hlt' : ¬ ((k : Int) < (k : Int)) := by omega
      go_wp2_with fail
      go_ret
      exact ⟨rfl, rfl⟩
/-- The texts, by their kind. -/
def deepT : Nat → Nat → List UInt8
  | 0, k => [102, 110, 32, 102, 40, 41, 32, 123, 32, 120, 32, 61, 32] ++ rep [40] k ++ [49] ++ rep [41] k ++ [59, 32, 125]
  | 1, k => [102, 110, 32, 102, 40, 41, 32, 123, 32, 120, 32, 61, 32] ++ rep [45] k ++ [49, 59, 32, 125]
  | 2, k => [102, 110, 32, 102, 40, 41, 32, 123, 32, 97, 115, 115, 101, 114, 116, 32, 40] ++ rep [33] k ++ [120, 32, 61, 61, 32, 49, 41, 59, 32, 125]
  | _, k => [102, 110, 32, 102, 40, 41, 32, 123, 32] ++ rep [105, 102, 32, 40, 120, 32, 61, 61, 32, 49, 41, 32, 123, 32] k ++ rep [125, 32] k ++ [125]
def deepAt : Nat → Nat
  | 0 => 52
  | 1 => 52
  | 2 => 56
  | _ => 567
def deepChk (h k : Nat) : Bool :=
  match textP (funcP 60) (deepT h k) with
  | some (.error (a, n)) => decide (40 ≤ k) && (a == deepAt h && n == 52)
  | some (.ok f) => decide (k < 40) && f.body.length == 1
  | none => false
set_option maxRecDepth 100000 in
theorem deep_all : ∀ h, h < 4 → ∀ j, j < 8 → deepChk h (36 + j) = true := by decide +kernel
end Go.Proofs.YteplkhgaoaphhaaGreatDoor
