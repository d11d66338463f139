/- Walks of the writer's methods: end, open, close. -/
import Derived.Test.YtojbfopmlgdjlaaDoorPw
namespace Go.Proofs.YtojbfopmlgdjlaaDoor
open Go Go.RowKit

theorem PrO.trans {w w1 w2 : World} {B b d1 d2 : Nat} {v : Value} {t1 t2 : List UInt8} {g1 g2 : Bool} (h : PrO w B b v t1 d1 g1 w1) (k : ∀ v1, Prn w1 B b v1 t1 d1 g1 → PrO w1 B b v1 t2 d2 g2 w2) : PrO w B b v t2 d2 g2 w2 := by
  obtain ⟨v1, h1, h2⟩ := h
  obtain ⟨v2, k1, k2⟩ := k v1 h2
  exact ⟨v2, h1.trans k1, k2⟩
theorem PrO.quiet {w w1 w2 : World} {B b d : Nat} {v : Value} {t : List UInt8} {g : Bool} (h : PrO w B b v t d g w1) (hb : Below w1.heap.size w1 w2) : PrO w B b v t d g w2 := by
  obtain ⟨v1, h1, h2⟩ := h
  exact ⟨v1, h1.quiet hb, h2.below hb⟩
theorem PrO.of {w : World} {B b d : Nat} {v : Value} {t : List UInt8} {g : Bool} (h : Prn w B b v t d g) : PrO w B b v t d g w := ⟨v, .refl _ _ _, h⟩
theorem PrO.size {w w1 : World} {B b d : Nat} {v : Value} {t : List UInt8} {g : Bool} (h : PrO w B b v t d g w1) : w.heap.size ≤ w1.heap.size := by
  obtain ⟨v1, h1, -⟩ := h
  exact h1.upd.size
theorem PrO.below {w w1 : World} {B b d d' : Nat} {v : Value} {t t' : List UInt8} {g g' : Bool} (h : PrO w B b v t d g w1) (h0 : Prn w B b v t' d' g') (hB : B ≤ w.heap.size) : Below B w w1 := by
  obtain ⟨v1, h1, -⟩ := h
  exact h1.below h0 hB
/-- put of strings that stand in a row of their own, just made. -/
theorem put_new (xs : List (List UInt8)) (hn : xs.length ≤ 1000) (hpos : xs ≠ []) (w : World) (B b d : Nat) (rv : Value) (t : List UInt8) (g : Bool) (h : Prn w B b rv t d g) (hB : B ≤ w.heap.size) (hd : d ≤ 1000000) (hl : t.length + xs.flatten.length ≤ 70368740000000) :
    Calls Tryd.prog 37 #[.pointer (some ⟨b, 0, none⟩), .slice (some ⟨w.heap.size, 0, none⟩) xs.length xs.length] (w.alloc (.cells (strL xs).toArray 9)) fun e w' => e = .returned (.tuple #[]) ∧ PrO w B b rv (putT t d g xs.flatten) d true w' := by
  have h1 := h.alloc (.cells (strL xs).toArray 9)
  have hsz : (w.alloc (.cells (strL xs).toArray 9)).heap.size = w.heap.size + 1 := Array.size_push ..
  have hnew := heap_new w (.cells (strL xs).toArray 9)
  have hlen : (strL xs).length = xs.length := by rw [strL, List.length_map]
  have hA : ArgV (w.alloc (.cells (strL xs).toArray 9)) (fun k => k ≠ b ∧ rv.ownBlock ≠ some k ∧ k < (w.alloc (.cells (strL xs).toArray 9)).heap.size) (.slice (some ⟨w.heap.size, 0, none⟩) xs.length xs.length) (strL xs) :=
    ⟨some ⟨w.heap.size, 0, none⟩, xs.length, by rw [hlen], by rw [hlen]; exact Nat.le_refl _, by unfold maxLen; omega,
      .inr ⟨w.heap.size, 0, rfl, ⟨Nat.ne_of_gt h.lt, fun e => Nat.lt_irrefl _ (h.own _ e).2, by rw [hsz]; omega⟩, fun i u hi => by
        rw [Nat.zero_add, cell_at hnew, List.getElem?_toArray]
        exact hi⟩⟩
  refine (put_any xs _ _ _ B b d rv t g h1 (by rw [hsz]; omega) hd hl hA).mono ?_
  rintro e w' ⟨rfl, v1, h2, h3⟩
  exact ⟨rfl, v1, (PrM.of_below b rv ((Below.refl _ w).alloc (Nat.le_refl _) _)).trans h2, h3⟩
set_option maxRecDepth 100000 in
theorem endL_any (w : World) (B b d : Nat) (rv : Value) (t : List UInt8) (g : Bool) (h : Prn w B b rv t d g) (hB : B ≤ w.heap.size) (hl : t.length ≤ 70368740000000) :
    Calls Tryd.prog 38 #[.pointer (some ⟨b, 0, none⟩)] w fun e w' => e = .returned (.tuple #[]) ∧ PrO w B b rv (t ++ [10]) d false w' := by
  have hW := hide (WriteByte_any 10 w B b d rv t g h hB (by omega))
  clear h
  go_enter Tryd.func38, Tryd.ntmps38
  go_wp2_with fail
  refine hW.out.mono ?_
  rintro e w1 ⟨rfl, v1, hm, h1⟩
  obtain ⟨p1, hh1, hp1⟩ := h1.cells
  have f3 := frozen_at hh1 3
  have c3 := cell_at hh1 3
  simp at c3
  have h2 : Prn (w1.setCell ⟨b, 3, none⟩ (.bool false)) B b v1 (t ++ [10]) d false :=
    ⟨h1.hB, ⟨p1, heap_set hh1 3 _, hp1⟩, (Upd.set w1 (F := fun k => k = b) (a := ⟨b, 3, none⟩) rfl _).own h1.row fun k hk e => h1.ne (by rw [← e]; exact hk)⟩
  have hm2 := hide (hm.set 3 (.bool false))
  replace h2 := hide h2
  clear hm h1 hh1
  go_wp2_with fail
  go_end0
  exact ⟨rfl, v1, hm2.out, h2.out⟩
set_option maxRecDepth 100000 in
theorem open6_any (w : World) (B b d : Nat) (rv : Value) (t : List UInt8) (g : Bool) (h : Prn w B b rv t d g) (hB : B ≤ w.heap.size) (hd : d ≤ 1000000) (hl : t.length ≤ 70368730000000) :
    Calls Tryd.prog 41 #[.pointer (some ⟨b, 0, none⟩)] w fun e w' => e = .returned (.tuple #[]) ∧ PrO w B b rv (putT t d g [123] ++ [10]) (d + 1) false w' := by
  have hP := hide (put_new [[123]] (by decide) (by decide) w B b d rv t g h hB hd (by show _ + 1 ≤ _; omega))
  have hq := putT_len t d g [123]
  have hw1 := hide (show ∀ w1, PrO w B b rv (putT t d g [123]) d true w1 → B ≤ w1.heap.size from fun w1 h => Nat.le_trans hB h.size)
  clear h
  go_enter Tryd.func41, Tryd.ntmps41
  go_wp2_with fail
  refine hP.out.mono ?_
  rintro e w1 ⟨rfl, h1⟩
  have hw1' := hw1.out _ h1
  obtain ⟨v1, hm1, h1⟩ := h1
  have hE := hide (endL_any w1 B b d v1 _ true h1 hw1' (by simp at hq; show (putT t d g [123]).length ≤ _; omega))
  replace hm1 := hide hm1
  clear h1
  go_wp2_with fail
  refine hE.out.mono ?_
  rintro e w2 ⟨rfl, v2, hm2, h2⟩
  obtain ⟨p1, hh1, hp1⟩ := h2.cells
  have f2 := frozen_at hh1 2
  have c2 := cell_at hh1 2
  simp at c2
  have hws : IntKind.i64.wrap ((d : Int) + 1) = (d : Int) + 1 := by simp [IntKind.wrap, IntKind.bits, IntKind.signed]; omega
  have h3 : Prn (w2.setCell ⟨b, 2, none⟩ (.int .i64 ((d : Int) + 1))) B b v2 (putT t d g [123] ++ [10]) (d + 1) false :=
    ⟨h2.hB, ⟨p1, heap_set hh1 2 _, hp1⟩, (Upd.set w2 (F := fun k => k = b) (a := ⟨b, 2, none⟩) rfl _).own h2.row fun k hk e => h2.ne (by rw [← e]; exact hk)⟩
  have hm3 := hide ((hm1.out.trans hm2).set 2 (.int .i64 ((d : Int) + 1)))
  replace h3 := hide h3
  clear hm2 h2 hh1
  go_wp2_with fail
  go_end0
  exact ⟨rfl, v2, hm3.out, h3.out⟩
set_option maxRecDepth 100000 in
theorem close6_any (w : World) (B b d : Nat) (rv : Value) (t : List UInt8) (g : Bool) (h : Prn w B b rv t (d + 1) g) (hB : B ≤ w.heap.size) (hd : d ≤ 1000000) (hl : t.length ≤ 70368730000000) :
    Calls Tryd.prog 44 #[.pointer (some ⟨b, 0, none⟩)] w fun e w' => e = .returned (.tuple #[]) ∧ PrO w B b rv (putT t d g [125]) d true w' := by
  obtain ⟨p1, hh1, hp1⟩ := h.cells
  have f2 := frozen_at hh1 2
  have c2 := cell_at hh1 2
  simp at c2
  have hws : IntKind.i64.wrap ((d : Int) + 1 - 1) = (d : Int) := by simp [IntKind.wrap, IntKind.bits, IntKind.signed]; omega
  have h3 : Prn (w.setCell ⟨b, 2, none⟩ (.int .i64 (d : Int))) B b rv t d g :=
    ⟨h.hB, ⟨p1, heap_set hh1 2 _, hp1⟩, (Upd.set w (F := fun k => k = b) (a := ⟨b, 2, none⟩) rfl _).own h.row fun k hk e => h.ne (by rw [← e]; exact hk)⟩
  have hm3 := hide ((PrM.refl b rv w).set 2 (.int .i64 (d : Int)))
  have hsz : (w.setCell ⟨b, 2, none⟩ (.int .i64 (d : Int))).heap.size = w.heap.size := by simp [World.setCell]
  have hP := put_new [[125]] (by decide) (by decide) _ B b d rv t g h3 (by rw [hsz]; exact hB) hd (by show _ + 1 ≤ _; omega)
  rw [hsz] at hP
  replace hP := hide hP
  clear h hh1 h3
  go_enter Tryd.func44, Tryd.ntmps44
  go_wp2_with fail
  refine hP.out.mono ?_
  rintro e w1 ⟨rfl, h1⟩
  replace h1 := hide h1
  go_wp2_with fail
  go_end0
  obtain ⟨v1, h4, h5⟩ := h1.out
  exact ⟨rfl, v1, hm3.out.trans h4, h5⟩
end Go.Proofs.YtojbfopmlgdjlaaDoor
