/- Part 14 of the walks (merged): RfK, RfL, RfSd. -/
import Derived.Test.YtiiihpokpfhclaaDoorMs13
/- The document's parser: un at - and at a parenthesis. Written by mkun6.py. -/
namespace Go.Proofs.YtiiihpokpfhclaaDoor
open Go Go.RowKit Go.Lib

theorem RfL.ok {α : Type} {V : World → (Nat → Prop) → α → Value → Prop} {J : Value → Prop} {p : Nat} {C : Cx} {a d n : Nat} {w w' : World} {X : Rs α} {x : α} {r : List Tok} {v : Value} (hu : Upd (At p) w w') (hX : .ok x r = X) (hv : V w' (w.heap.size ≤ ·) x v) (hs : Lv w' p C a d n r) : RfL V J p C a d n w X (.returned v) w' := by
  subst hX
  exact ⟨hu, v, rfl, hv, hs⟩
theorem RfL.er {α : Type} {V : World → (Nat → Prop) → α → Value → Prop} {J : Value → Prop} {p : Nat} {C : Cx} {a d n : Nat} {w w' : World} {X : Rs α} {k : Nat} {r : List Tok} {v : Value} (hu : Upd (At p) w w') (hX : .er r k = X) (hv : J v) (hs : Dead w' p C k (atOf C.len r) d n) : RfL V J p C a d n w X (.returned v) w' := by
  subst hX
  exact ⟨hu, v, rfl, hv, hs⟩
theorem setCell_size (w : World) (a : Addr) (v : Value) : (w.setCell a v).heap.size = w.heap.size := by simp [World.setCell]
def DeadP (f : FuncId) (z : Value) : Prop := ∀ (p : Nat) (C : Cx) (k a d n : Nat) (w : World), Dead w p C k a d n → Calls Tryd.prog f #[.pointer (some ⟨p, 0, none⟩)] w fun e w' => e = .returned z ∧ Upd (At p) w w' ∧ Dead w' p C k a d n
theorem un_dead : DeadP 91 (.pointer none) := by
  rintro p C k a d n w ⟨he, i, h⟩
  refine (un_e p w k a d n i C h he).mono ?_
  rintro e w' ⟨rfl, hu, h1⟩
  exact ⟨rfl, hu, he, i, h1⟩
def UnL (f : Nat) : Prop := ∀ (p : Nat) (C : Cx) (a d n : Nat) (r : List Tok) (w : World), Lv w p C a d n r → un f d r ≠ .no →
  Calls Tryd.prog 91 #[.pointer (some ⟨p, 0, none⟩)] w fun e w' => RfE p C a d n w (un f d r) e w'
def ProdL (f : Nat) : Prop := ∀ (p : Nat) (C : Cx) (a d n : Nat) (r : List Tok) (w : World), Lv w p C a d n r → prodOf (un f d) f r ≠ .no →
  Calls Tryd.prog 78 #[.pointer (some ⟨p, 0, none⟩)] w fun e w' => RfE p C a d n w (prodOf (un f d) f r) e w'
def SumL (f : Nat) : Prop := ∀ (p : Nat) (C : Cx) (a d n : Nat) (r : List Tok) (w : World), Lv w p C a d n r → sumOf (un f d) f r ≠ .no →
  Calls Tryd.prog 64 #[.pointer (some ⟨p, 0, none⟩)] w fun e w' => RfE p C a d n w (sumOf (un f d) f r) e w'
set_option maxRecDepth 100000 in
set_option maxHeartbeats 3200000 in
theorem un_minus (f : Nat) (hU : UnL f) : ∀ (p : Nat) (C : Cx) (a d n : Nat) (r : List Tok) (w : World), Lv w p C a d n r → nx r [45] = true → un (f + 1) d r ≠ .no →
    Calls Tryd.prog 91 #[.pointer (some ⟨p, 0, none⟩)] w fun e w' => RfE p C a d n w (un (f + 1) d r) e w' := by
  intro p C a d n r w h hx hno
  generalize hX : un (f + 1) d r = X at hno ⊢
  unfold un at hX
  rw [if_pos hx] at hX
  have hU := hide hU
  obtain ⟨i, hir, h⟩ := h
  have hl : i < C.ts.length := by
    rcases Nat.lt_or_ge i C.ts.length with h1 | h1
    · exact h1
    · rw [List.drop_eq_nil_of_le h1] at hir
      subst hir
      cases hx
  have hs : Lv w p C a d n r := ⟨i, hir, h⟩
  replace hs := hide hs
  have hQ := hide (fun w1 (hb : Below w.heap.size w w1) => isL [45] (by decide) (by decide) (hs.out.below hb))
  rw [hx] at hQ
  obtain ⟨A, c, hA, hm⟩ := h.row.slice
  have hh := h.heap
  rw [hA] at hh
  have c0 := cell_at hh 0
  have c1 := cell_at hh 1
  have c3 := cell_at hh 3
  simp at c0 c1 c3
  have hdec : decide ((C.ts.length : Int) ≤ (i : Int)) = false := by simp; omega
  have hnl : ¬ (C.ts.length : Int) ≤ (i : Int) := by omega
  have hlt := h.lt
  generalize C.ts.length = N at *
  replace hX := hide hX
  replace hno := hide hno
  clear hm hh h hir hl
  go_enter Tryd.func91, Tryd.ntmps91
  go_wp2_with fail
  go_quiet (fail)
  go_wp2_with fail
  have hb0 := below_drewN (Below.refl w.heap.size w)
  have hu := hide (Upd.refl (At p) w)
  refine (hQ.out _ (hb0 _)).mono ?_
  rintro e w1 ⟨rfl, hb⟩
  have hb1 := (hb0 _).trans (hb.mono (hb0 _).size)
  replace hs := hide (hs.out.below hb1)
  replace hu := hide (hu.out.then (at_below6 p hb1))
  clear hb hb1 hb0 c0 c1 c3 hQ
  go_wp2_with fail
  have hxh := hide hx
  by_cases hd0 : d = 40
  · have hI := openL hs.out
    have hX2 := hX.out
    rw [show enterP [45] d r = .er r 52 from by unfold enterP; rw [if_pos hxh.out, if_pos hd0]] at hX2
    simp only [bind_er] at hX2
    simp only [if_pos hd0] at hI
    replace hX := hide hX2
    clear hX2
    refine hI.mono ?_
    rintro e wq1 ⟨hU, rfl, h1⟩
    clear hI
    replace hd0 := hide hd0
    replace hs := hide h1
    replace hu := hide (hu.out.then hU)
    clear hU h1
    go_wp2_with fail
    go_ret
    exact RfL.er hu.out hX.out ⟨_, rfl⟩ hs.out
  · have hI := openL hs.out
    have hX2 := hX.out
    rw [show enterP [45] d r = .ok () r.tail from by unfold enterP; rw [if_pos hxh.out, if_neg hd0]] at hX2
    simp only [bind_ok] at hX2
    simp only [if_neg hd0] at hI
    replace hX := hide hX2
    clear hX2
    refine hI.mono ?_
    rintro e wq1 ⟨hU, rfl, h1⟩
    clear hI
    replace hd0 := hide hd0
    replace hs := hide h1
    replace hu := hide (hu.out.then hU)
    clear hU h1
    obtain ⟨i2, ci2, fi2, wi2, h1⟩ := hs.out.inc (nx_ne hxh.out (by decide))
    have hU := Upd.set wq1 (F := At p) (a := ⟨p, 1, none⟩) rfl (.int .i64 ((i2 : Int) + 1))
    replace hs := hide h1
    replace hu := hide (hu.out.then hU)
    clear hU h1
    go_wp2_with fail
    generalize hg2 : World.setCell _ _ _ = ws2 at hs hu ⊢
    clear ci2 fi2 wi2 hg2
    have hG := hU.out p C a (d + 1) n r.tail _ hs.out
    cases hr : un f (d + 1) r.tail with
    | no =>
      have hX2 := hX.out
      rw [hr] at hX2
      try simp only [bind_no] at hX2
      exact absurd hX2.symm hno.out
    | er r9 k9 =>
      rw [hr] at hG
      have hX2 := hX.out
      rw [hr] at hX2
      try simp only [bind_er] at hX2
      replace hX := hide hX2
      refine (hG (fun e => by cases e)).mono ?_
      rintro e wq2 ⟨hU, v3, rfl, hJ, h1⟩
      obtain ⟨q3, rfl⟩ := hJ
      replace hs := hide h1
      replace hu := hide (hu.out.then hU)
      clear hU h1
      clear hr hG hX2
      obtain ⟨ce4, fe4, we4, h1⟩ := hs.out.dec
      have hU := Upd.set wq2 (F := At p) (a := ⟨p, 5, none⟩) rfl (.int .i64 (d : Int))
      replace hs := hide h1
      replace hu := hide (hu.out.then hU)
      clear hU h1
      replace hs := hide (hs.out.alloc (.cells #[.int .i64 7, .int .i64 0, .string ⟨#[]⟩, .pointer q3, .pointer none] 46))
      replace hu := hide (hu.out.then (Upd.alloc (At p) _ (.cells #[.int .i64 7, .int .i64 0, .string ⟨#[]⟩, .pointer q3, .pointer none] 46)))
      go_wp2_with fail
      go_ret
      exact RfL.er hu.out hX.out ⟨_, rfl⟩ hs.out
    | ok a3 r3 =>
      rw [hr] at hG
      have hX2 := hX.out
      rw [hr] at hX2
      try simp only [bind_ok] at hX2
      replace hX := hide hX2
      refine (hG (fun e => by cases e)).mono ?_
      rintro e wq2 ⟨hU, v3, rfl, hv, h1⟩
      have hsz := hu.out.size
      have hva := hide (ExV.mono (S' := (w.heap.size ≤ ·)) (fun b _ hb => Nat.le_trans hsz hb) _ _ hv)
      clear hv
      obtain ⟨gv3, rfl⟩ := hva.out.ptr
      replace hs := hide h1
      replace hu := hide (hu.out.then hU)
      clear hU h1
      clear hr hG hX2 hsz
      obtain ⟨ce4, fe4, we4, h1⟩ := hs.out.dec
      have hU := Upd.set wq2 (F := At p) (a := ⟨p, 5, none⟩) rfl (.int .i64 (d : Int))
      replace hva := hide (ExV.upd (hU) (above_not hlt) _ _ hva.out)
      replace hs := hide h1
      replace hu := hide (hu.out.then hU)
      clear hU h1
      have hg := heap_new (wq2.setCell ⟨p, 5, none⟩ (.int .i64 (d : Int))) (.cells #[.int .i64 7, .int .i64 0, .string ⟨#[]⟩, .pointer (some ⟨gv3, 0, none⟩), .pointer none] 46)
      have hgs := hu.out.size
      rw [setCell_size] at hg hgs
      replace hg := hide hg
      replace hs := hide (hs.out.alloc (.cells #[.int .i64 7, .int .i64 0, .string ⟨#[]⟩, .pointer (some ⟨gv3, 0, none⟩), .pointer none] 46))
      replace hva := hide (ExV.upd (Upd.alloc (fun _ => False) _ (.cells #[.int .i64 7, .int .i64 0, .string ⟨#[]⟩, .pointer (some ⟨gv3, 0, none⟩), .pointer none] 46)) (fun _ _ => id) _ _ hva.out)
      replace hu := hide (hu.out.then (Upd.alloc (At p) _ (.cells #[.int .i64 7, .int .i64 0, .string ⟨#[]⟩, .pointer (some ⟨gv3, 0, none⟩), .pointer none] 46)))
      go_wp2_with fail
      go_ret
      exact RfL.ok hu.out hX.out ⟨_, ⟨_, rfl, hgs, hg.out⟩, hva.out⟩ hs.out
set_option maxRecDepth 100000 in
theorem prod_dead : DeadP 78 (.pointer none) := by
  intro p C k a d n w h
  have hC := hide (un_dead p C k a d n w h)
  clear h
  go_enter Tryd.func78, Tryd.ntmps78
  go_wp2_with fail
  refine hC.out.mono ?_
  rintro e w1 ⟨rfl, hu, h1⟩
  obtain ⟨c3, c3b⟩ := h1.err
  replace hu := hide hu
  replace h1 := hide h1
  go_wp2_with fail
  go_loopg [3] 1 (fun gk v wr => v = .pointer none ∧ wr = w1)
  case atStart => exact ⟨rfl, rfl⟩
  case round =>
    obtain ⟨rfl, rfl⟩ := hrel
    go_wp2_with fail
    go_ret
    exact ⟨rfl, hu.out, h1.out⟩
set_option maxRecDepth 100000 in
theorem sum_dead : DeadP 64 (.pointer none) := by
  intro p C k a d n w h
  have hC := hide (prod_dead p C k a d n w h)
  clear h
  go_enter Tryd.func64, Tryd.ntmps64
  go_wp2_with fail
  refine hC.out.mono ?_
  rintro e w1 ⟨rfl, hu, h1⟩
  obtain ⟨c3, c3b⟩ := h1.err
  replace hu := hide hu
  replace h1 := hide h1
  go_wp2_with fail
  go_loopg [3] 1 (fun gk v wr => v = .pointer none ∧ wr = w1)
  case atStart => exact ⟨rfl, rfl⟩
  case round =>
    obtain ⟨rfl, rfl⟩ := hrel
    go_wp2_with fail
    go_ret
    exact ⟨rfl, hu.out, h1.out⟩
set_option maxRecDepth 100000 in
set_option maxHeartbeats 3200000 in
theorem un_paren (f : Nat) (hS : SumL f) : ∀ (p : Nat) (C : Cx) (a d n : Nat) (r : List Tok) (w : World), Lv w p C a d n r → nx r [45] = false → nx r [40] = true → un (f + 1) d r ≠ .no →
    Calls Tryd.prog 91 #[.pointer (some ⟨p, 0, none⟩)] w fun e w' => RfE p C a d n w (un (f + 1) d r) e w' := by
  intro p C a d n r w h hx1 hx hno
  generalize hX : un (f + 1) d r = X at hno ⊢
  unfold un at hX
  rw [if_neg (by rw [hx1]; exact Bool.false_ne_true), if_pos hx] at hX
  have hS := hide hS
  obtain ⟨i, hir, h⟩ := h
  have hl : i < C.ts.length := by
    rcases Nat.lt_or_ge i C.ts.length with h1 | h1
    · exact h1
    · rw [List.drop_eq_nil_of_le h1] at hir
      subst hir
      cases hx
  have hs : Lv w p C a d n r := ⟨i, hir, h⟩
  replace hs := hide hs
  have hQ := hide (fun w1 (hb : Below w.heap.size w w1) => isL [45] (by decide) (by decide) (hs.out.below hb))
  rw [hx1] at hQ
  obtain ⟨A, c, hA, hm⟩ := h.row.slice
  have hh := h.heap
  rw [hA] at hh
  have c0 := cell_at hh 0
  have c1 := cell_at hh 1
  have c3 := cell_at hh 3
  simp at c0 c1 c3
  have hdec : decide ((C.ts.length : Int) ≤ (i : Int)) = false := by simp; omega
  have hnl : ¬ (C.ts.length : Int) ≤ (i : Int) := by omega
  have hlt := h.lt
  generalize C.ts.length = N at *
  replace hX := hide hX
  replace hno := hide hno
  clear hm hh h hir hl
  go_enter Tryd.func91, Tryd.ntmps91
  go_wp2_with fail
  go_quiet (fail)
  go_wp2_with fail
  have hb0 := below_drewN (Below.refl w.heap.size w)
  have hu := hide (Upd.refl (At p) w)
  refine (hQ.out _ (hb0 _)).mono ?_
  rintro e w1 ⟨rfl, hb⟩
  have hb1 := (hb0 _).trans (hb.mono (hb0 _).size)
  replace hs := hide (hs.out.below hb1)
  replace hu := hide (hu.out.then (at_below6 p hb1))
  clear hb hb1 hb0 c0 c1 c3 hQ
  go_wp2_with fail
  have hxh := hide hx
  have hI := isL [40] (by decide) (by decide) hs.out
  rw [hx] at hI
  refine hI.mono ?_
  rintro e wq1 ⟨rfl, hb⟩
  clear hI
  replace hs := hide (hs.out.below hb)
  replace hu := hide (hu.out.then (at_below6 p hb))
  clear hb
  go_wp2_with fail
  by_cases hd0 : d = 40
  · have hI := openL hs.out
    have hX2 := hX.out
    rw [show enterP [40] d r = .er r 52 from by unfold enterP; rw [if_pos hxh.out, if_pos hd0]] at hX2
    simp only [bind_er] at hX2
    simp only [if_pos hd0] at hI
    replace hX := hide hX2
    clear hX2
    refine hI.mono ?_
    rintro e wq2 ⟨hU, rfl, h1⟩
    clear hI
    replace hd0 := hide hd0
    replace hs := hide h1
    replace hu := hide (hu.out.then hU)
    clear hU h1
    go_wp2_with fail
    go_ret
    exact RfL.er hu.out hX.out ⟨_, rfl⟩ hs.out
  · have hI := openL hs.out
    have hX2 := hX.out
    rw [show enterP [40] d r = .ok () r.tail from by unfold enterP; rw [if_pos hxh.out, if_neg hd0]] at hX2
    simp only [bind_ok] at hX2
    simp only [if_neg hd0] at hI
    replace hX := hide hX2
    clear hX2
    refine hI.mono ?_
    rintro e wq2 ⟨hU, rfl, h1⟩
    clear hI
    replace hd0 := hide hd0
    replace hs := hide h1
    replace hu := hide (hu.out.then hU)
    clear hU h1
    obtain ⟨i2, ci2, fi2, wi2, h1⟩ := hs.out.inc (nx_ne hxh.out (by decide))
    have hU := Upd.set wq2 (F := At p) (a := ⟨p, 1, none⟩) rfl (.int .i64 ((i2 : Int) + 1))
    replace hs := hide h1
    replace hu := hide (hu.out.then hU)
    clear hU h1
    go_wp2_with fail
    generalize hg2 : World.setCell _ _ _ = ws2 at hs hu ⊢
    clear ci2 fi2 wi2 hg2
    have hG := hS.out p C a (d + 1) n r.tail _ hs.out
    cases hr : sumOf (un f (d + 1)) f r.tail with
    | no =>
      have hX2 := hX.out
      rw [hr] at hX2
      try simp only [bind_no] at hX2
      exact absurd hX2.symm hno.out
    | er r9 k9 =>
      rw [hr] at hG
      have hX2 := hX.out
      rw [hr] at hX2
      try simp only [bind_er] at hX2
      replace hX := hide hX2
      refine (hG (fun e => by cases e)).mono ?_
      rintro e wq3 ⟨hU, v3, rfl, hJ, h1⟩
      obtain ⟨q3, rfl⟩ := hJ
      replace hs := hide h1
      replace hu := hide (hu.out.then hU)
      clear hU h1
      clear hr hG hX2
      go_wp2_with fail
      refine (wantD [41] (by decide) hs.out).mono ?_
      rintro e wq4 ⟨rfl, hU, h1⟩
      replace hs := hide h1
      replace hu := hide (hu.out.then hU)
      clear hU h1
      obtain ⟨ce4, fe4, we4, h1⟩ := hs.out.dec
      have hU := Upd.set wq4 (F := At p) (a := ⟨p, 5, none⟩) rfl (.int .i64 (d : Int))
      replace hs := hide h1
      replace hu := hide (hu.out.then hU)
      clear hU h1
      go_wp2_with fail
      go_ret
      exact RfL.er hu.out hX.out ⟨_, rfl⟩ hs.out
    | ok a3 r3 =>
      rw [hr] at hG
      have hX2 := hX.out
      rw [hr] at hX2
      try simp only [bind_ok] at hX2
      replace hX := hide hX2
      refine (hG (fun e => by cases e)).mono ?_
      rintro e wq3 ⟨hU, v3, rfl, hv, h1⟩
      have hsz := hu.out.size
      have hva := hide (ExV.mono (S' := (w.heap.size ≤ ·)) (fun b _ hb => Nat.le_trans hsz hb) _ _ hv)
      clear hv
      obtain ⟨gv3, rfl⟩ := hva.out.ptr
      replace hs := hide h1
      replace hu := hide (hu.out.then hU)
      clear hU h1
      clear hr hG hX2 hsz
      go_wp2_with fail
      by_cases hx3 : nx r3 [41] = true
      · have hI := wantL [41] (by decide) (by decide) hs.out
        have hX2 := hX.out
        rw [show want [41] r3 = .ok () r3.tail from if_pos hx3] at hX2
        simp only [bind_ok] at hX2
        simp only [hx3, if_true] at hI
        replace hX := hide hX2
        clear hX2
        refine hI.mono ?_
        rintro e wq4 ⟨rfl, hU, h1⟩
        clear hI
        replace hx3 := hide hx3
        replace hva := hide (ExV.upd (hU) (above_not hlt) _ _ hva.out)
        replace hs := hide h1
        replace hu := hide (hu.out.then hU)
        clear hU h1
        obtain ⟨ce5, fe5, we5, h1⟩ := hs.out.dec
        have hU := Upd.set wq4 (F := At p) (a := ⟨p, 5, none⟩) rfl (.int .i64 (d : Int))
        replace hva := hide (ExV.upd (hU) (above_not hlt) _ _ hva.out)
        replace hs := hide h1
        replace hu := hide (hu.out.then hU)
        clear hU h1
        go_wp2_with fail
        go_ret
        exact RfL.ok hu.out hX.out hva.out hs.out
      · have hI := wantL [41] (by decide) (by decide) hs.out
        have hX2 := hX.out
        have hx3 : nx r3 [41] = false := by simpa using hx3
        rw [show want [41] r3 = .er r3 51 from if_neg (by rw [hx3]; exact Bool.false_ne_true)] at hX2
        simp only [bind_er] at hX2
        simp only [hx3, Bool.false_eq_true, if_false] at hI
        replace hX := hide hX2
        clear hX2
        refine hI.mono ?_
        rintro e wq4 ⟨rfl, hU, h1⟩
        clear hI
        replace hx3 := hide hx3
        replace hva := hide (ExV.upd (hU) (above_not hlt) _ _ hva.out)
        replace hs := hide h1
        replace hu := hide (hu.out.then hU)
        clear hU h1
        obtain ⟨ce5, fe5, we5, h1⟩ := hs.out.dec
        have hU := Upd.set wq4 (F := At p) (a := ⟨p, 5, none⟩) rfl (.int .i64 (d : Int))
        replace hva := hide (ExV.upd (hU) (above_not hlt) _ _ hva.out)
        replace hs := hide h1
        replace hu := hide (hu.out.then hU)
        clear hU h1
        go_wp2_with fail
        go_ret
        exact RfL.er hu.out hX.out ⟨_, rfl⟩ hs.out
theorem nx_txt {r : List Tok} {x : List UInt8} (h : nx r x = true) : txt r = x := by simpa [nx] using h
theorem nx_not {r : List Tok} {x : List UInt8} (h : nx r x = false) : ¬ txt r = x := fun e => by rw [nx, e] at h; simp at h
set_option maxRecDepth 100000 in
set_option maxHeartbeats 6400000 in
theorem prod_of6 (f : Nat) (hU0 : UnL f) : ProdL f := by
  intro p C a d n r w h hno
  generalize hX : prodOf (un f d) f r = X at hno ⊢
  unfold prodOf at hX
  have hU := hide hU0
  have hlt := h.lt
  have hu := hide (Upd.refl (At p) w)
  have hs := hide h
  replace hX := hide hX
  replace hno := hide hno
  clear h
  go_enter Tryd.func78, Tryd.ntmps78
  go_wp2_with fail
  have hG := hU.out p C a d n r _ hs.out
  cases hr : (un f d) r with
  | no =>
    have hX2 := hX.out
    rw [hr] at hX2
    try simp only [bind_no] at hX2
    exact absurd hX2.symm hno.out
  | er r9 k9 =>
    rw [hr] at hG
    have hX2 := hX.out
    rw [hr] at hX2
    try simp only [bind_er] at hX2
    replace hX := hide hX2
    refine (hG (fun e => by cases e)).mono ?_
    rintro e wq1 ⟨hU, v1, rfl, hJ, h1⟩
    obtain ⟨q1, rfl⟩ := hJ
    replace hs := hide h1
    replace hu := hide (hu.out.then hU)
    clear hU h1
    clear hr hG hX2
    obtain ⟨c3, c3b⟩ := hs.out.err
    have hsw := hs
    have huw := hu
    go_wp2_with fail
    go_loopg [3] 1 (fun gk v wr => v = .pointer q1 ∧ wr = wq1)
    case atStart => exact ⟨rfl, rfl⟩
    case round =>
      obtain ⟨rfl, rfl⟩ := hrel
      go_wp2_with fail
      go_ret
      exact RfL.er hu.out hX.out ⟨_, rfl⟩ hs.out
  | ok a1 r1 =>
    rw [hr] at hG
    have hX2 := hX.out
    rw [hr] at hX2
    try simp only [bind_ok] at hX2
    replace hX := hide hX2
    refine (hG (fun e => by cases e)).mono ?_
    rintro e wq1 ⟨hU, v1, rfl, hv, h1⟩
    have hsz := hu.out.size
    have hva := hide (ExV.mono (S' := (w.heap.size ≤ ·)) (fun b _ hb => Nat.le_trans hsz hb) _ _ hv)
    clear hv
    obtain ⟨gv1, rfl⟩ := hva.out.ptr
    replace hs := hide h1
    replace hu := hide (hu.out.then hU)
    clear hU h1
    clear hr hG hX2 hsz
    go_wp2_with fail
    go_loopg [3] (f + 1) (fun gk v wr => (∃ (x : Ex) (r : List Tok), 0 < gk ∧ Upd (At p) w wr ∧ ExV wr (w.heap.size ≤ ·) x v ∧ Lv wr p C a d n r ∧ chain .bin prodK (un f d) (gk - 1) x r = X) ∨ (∃ (r : List Tok) (k : Nat), Upd (At p) w wr ∧ JP v ∧ Dead wr p C k (atOf C.len r) d n ∧ .er r k = X))
    case atStart => exact .inl ⟨a1, r1, by omega, hu.out, hva.out, hs.out, hX.out⟩
    case round =>
      clear hu hva hs hX
      rcases hrel with ⟨x, r, hgk, hu, hva, hs, hX⟩ | ⟨r, k, hu, hJ, hs, hX⟩
      · obtain ⟨gk, rfl⟩ : ∃ q, gk = q + 1 := ⟨gk - 1, by omega⟩
        simp only [Nat.add_sub_cancel] at hX
        obtain ⟨gx, rfl⟩ := hva.ptr
        have c3 := hs.err
        replace hs := hide hs
        replace hu := hide hu
        replace hva := hide hva
        replace hX := hide hX
        cases gk with
        | zero => exact absurd hX.out.symm hno.out
        | succ gk =>
          go_wp2_with fail
          by_cases hx40 : nx r [42] = true
          · have hx40h := hide hx40
            have hI := isL [42] (by decide) (by decide) hs.out
            rw [hx40] at hI
            refine hI.mono ?_
            rintro e wq41 ⟨rfl, hb⟩
            clear hI
            replace hs := hide (hs.out.below hb)
            replace hva := hide (ExV.upd (at_below6 p hb) (above_not hlt) _ _ hva.out)
            replace hu := hide (hu.out.then (at_below6 p hb))
            clear hb
            have hX2 := hX.out
            rw [chain_some (k := 4) (show prodK (txt r) = some 4 by rw [nx_txt hx40]; rfl)] at hX2
            replace hX := hide hX2
            clear hX2
            obtain ⟨i42, ci42, fi42, wi42, h1⟩ := hs.out.inc (nx_ne hx40h.out (by decide))
            have hU := Upd.set wq41 (F := At p) (a := ⟨p, 1, none⟩) rfl (.int .i64 ((i42 : Int) + 1))
            replace hva := hide (ExV.upd (hU) (above_not hlt) _ _ hva.out)
            replace hs := hide h1
            replace hu := hide (hu.out.then hU)
            clear hU h1
            go_wp2_with fail
            generalize hg42 : World.setCell _ _ _ = ws42 at hs hu hva ⊢
            clear ci42 fi42 wi42 hg42
            have hG := hU.out p C a d n r.tail _ hs.out
            cases hr : (un f d) r.tail with
            | no =>
              have hX2 := hX.out
              rw [hr] at hX2
              try simp only [bind_no] at hX2
              exact absurd hX2.symm hno.out
            | er r9 k9 =>
              rw [hr] at hG
              have hX2 := hX.out
              rw [hr] at hX2
              try simp only [bind_er] at hX2
              replace hX := hide hX2
              refine (hG (fun e => by cases e)).mono ?_
              rintro e wq42 ⟨hU, v43, rfl, hJ, h1⟩
              obtain ⟨q43, rfl⟩ := hJ
              replace hva := hide (ExV.upd (hU) (above_not hlt) _ _ hva.out)
              replace hs := hide h1
              replace hu := hide (hu.out.then hU)
              clear hU h1
              clear hr hG hX2
              replace hs := hide (hs.out.alloc (.cells #[.int .i64 4, .int .i64 0, .string ⟨#[]⟩, .pointer (some ⟨gx, 0, none⟩), .pointer q43] 46))
              replace hva := hide (ExV.upd (Upd.alloc (fun _ => False) _ (.cells #[.int .i64 4, .int .i64 0, .string ⟨#[]⟩, .pointer (some ⟨gx, 0, none⟩), .pointer q43] 46)) (fun _ _ => id) _ _ hva.out)
              replace hu := hide (hu.out.then (Upd.alloc (At p) _ (.cells #[.int .i64 4, .int .i64 0, .string ⟨#[]⟩, .pointer (some ⟨gx, 0, none⟩), .pointer q43] 46)))
              go_wp2_with fail
              go_roundg 0
              case measure => omega
              case rel => exact .inr ⟨r9, k9, hu.out, ⟨_, rfl⟩, hs.out, hX.out⟩
            | ok a43 r43 =>
              rw [hr] at hG
              have hX2 := hX.out
              rw [hr] at hX2
              try simp only [bind_ok] at hX2
              replace hX := hide hX2
              refine (hG (fun e => by cases e)).mono ?_
              rintro e wq42 ⟨hU, v43, rfl, hv, h1⟩
              have hsz := hu.out.size
              have hvb := hide (ExV.mono (S' := (w.heap.size ≤ ·)) (fun b _ hb => Nat.le_trans hsz hb) _ _ hv)
              clear hv
              obtain ⟨gv43, rfl⟩ := hvb.out.ptr
              replace hva := hide (ExV.upd (hU) (above_not hlt) _ _ hva.out)
              replace hs := hide h1
              replace hu := hide (hu.out.then hU)
              clear hU h1
              clear hr hG hX2 hsz
              have hg := heap_new wq42 (.cells #[.int .i64 4, .int .i64 0, .string ⟨#[]⟩, .pointer (some ⟨gx, 0, none⟩), .pointer (some ⟨gv43, 0, none⟩)] 46)
              have hgs := hu.out.size
              replace hg := hide hg
              replace hs := hide (hs.out.alloc (.cells #[.int .i64 4, .int .i64 0, .string ⟨#[]⟩, .pointer (some ⟨gx, 0, none⟩), .pointer (some ⟨gv43, 0, none⟩)] 46))
              replace hva := hide (ExV.upd (Upd.alloc (fun _ => False) _ (.cells #[.int .i64 4, .int .i64 0, .string ⟨#[]⟩, .pointer (some ⟨gx, 0, none⟩), .pointer (some ⟨gv43, 0, none⟩)] 46)) (fun _ _ => id) _ _ hva.out)
              replace hvb := hide (ExV.upd (Upd.alloc (fun _ => False) _ (.cells #[.int .i64 4, .int .i64 0, .string ⟨#[]⟩, .pointer (some ⟨gx, 0, none⟩), .pointer (some ⟨gv43, 0, none⟩)] 46)) (fun _ _ => id) _ _ hvb.out)
              replace hu := hide (hu.out.then (Upd.alloc (At p) _ (.cells #[.int .i64 4, .int .i64 0, .string ⟨#[]⟩, .pointer (some ⟨gx, 0, none⟩), .pointer (some ⟨gv43, 0, none⟩)] 46)))
              go_wp2_with fail
              go_roundg (gk + 1)
              case measure => omega
              case rel => exact .inl ⟨.bin 4 x a43, r43, by omega, hu.out, ⟨_, _, ⟨_, rfl, hgs, hg.out⟩, hva.out, hvb.out⟩, hs.out, hX.out⟩
          · have hx40 : nx r [42] = false := by simpa using hx40
            have hx40h := hide hx40
            have hI := isL [42] (by decide) (by decide) hs.out
            rw [hx40] at hI
            refine hI.mono ?_
            rintro e wq41 ⟨rfl, hb⟩
            clear hI
            replace hs := hide (hs.out.below hb)
            replace hva := hide (ExV.upd (at_below6 p hb) (above_not hlt) _ _ hva.out)
            replace hu := hide (hu.out.then (at_below6 p hb))
            clear hb
            go_wp2_with fail
            by_cases hx41 : nx r [47] = true
            · have hx41h := hide hx41
              have hI := isL [47] (by decide) (by decide) hs.out
              rw [hx41] at hI
              refine hI.mono ?_
              rintro e wq42 ⟨rfl, hb⟩
              clear hI
              replace hs := hide (hs.out.below hb)
              replace hva := hide (ExV.upd (at_below6 p hb) (above_not hlt) _ _ hva.out)
              replace hu := hide (hu.out.then (at_below6 p hb))
              clear hb
              have hX2 := hX.out
              rw [chain_some (k := 5) (show prodK (txt r) = some 5 by rw [nx_txt hx41]; rfl)] at hX2
              replace hX := hide hX2
              clear hX2
              obtain ⟨i43, ci43, fi43, wi43, h1⟩ := hs.out.inc (nx_ne hx41h.out (by decide))
              have hU := Upd.set wq42 (F := At p) (a := ⟨p, 1, none⟩) rfl (.int .i64 ((i43 : Int) + 1))
              replace hva := hide (ExV.upd (hU) (above_not hlt) _ _ hva.out)
              replace hs := hide h1
              replace hu := hide (hu.out.then hU)
              clear hU h1
              go_wp2_with fail
              generalize hg43 : World.setCell _ _ _ = ws43 at hs hu hva ⊢
              clear ci43 fi43 wi43 hg43
              have hG := hU.out p C a d n r.tail _ hs.out
              cases hr : (un f d) r.tail with
              | no =>
                have hX2 := hX.out
                rw [hr] at hX2
                try simp only [bind_no] at hX2
                exact absurd hX2.symm hno.out
              | er r9 k9 =>
                rw [hr] at hG
                have hX2 := hX.out
                rw [hr] at hX2
                try simp only [bind_er] at hX2
                replace hX := hide hX2
                refine (hG (fun e => by cases e)).mono ?_
                rintro e wq43 ⟨hU, v44, rfl, hJ, h1⟩
                obtain ⟨q44, rfl⟩ := hJ
                replace hva := hide (ExV.upd (hU) (above_not hlt) _ _ hva.out)
                replace hs := hide h1
                replace hu := hide (hu.out.then hU)
                clear hU h1
                clear hr hG hX2
                replace hs := hide (hs.out.alloc (.cells #[.int .i64 5, .int .i64 0, .string ⟨#[]⟩, .pointer (some ⟨gx, 0, none⟩), .pointer q44] 46))
                replace hva := hide (ExV.upd (Upd.alloc (fun _ => False) _ (.cells #[.int .i64 5, .int .i64 0, .string ⟨#[]⟩, .pointer (some ⟨gx, 0, none⟩), .pointer q44] 46)) (fun _ _ => id) _ _ hva.out)
                replace hu := hide (hu.out.then (Upd.alloc (At p) _ (.cells #[.int .i64 5, .int .i64 0, .string ⟨#[]⟩, .pointer (some ⟨gx, 0, none⟩), .pointer q44] 46)))
                go_wp2_with fail
                go_roundg 0
                case measure => omega
                case rel => exact .inr ⟨r9, k9, hu.out, ⟨_, rfl⟩, hs.out, hX.out⟩
              | ok a44 r44 =>
                rw [hr] at hG
                have hX2 := hX.out
                rw [hr] at hX2
                try simp only [bind_ok] at hX2
                replace hX := hide hX2
                refine (hG (fun e => by cases e)).mono ?_
                rintro e wq43 ⟨hU, v44, rfl, hv, h1⟩
                have hsz := hu.out.size
                have hvb := hide (ExV.mono (S' := (w.heap.size ≤ ·)) (fun b _ hb => Nat.le_trans hsz hb) _ _ hv)
                clear hv
                obtain ⟨gv44, rfl⟩ := hvb.out.ptr
                replace hva := hide (ExV.upd (hU) (above_not hlt) _ _ hva.out)
                replace hs := hide h1
                replace hu := hide (hu.out.then hU)
                clear hU h1
                clear hr hG hX2 hsz
                have hg := heap_new wq43 (.cells #[.int .i64 5, .int .i64 0, .string ⟨#[]⟩, .pointer (some ⟨gx, 0, none⟩), .pointer (some ⟨gv44, 0, none⟩)] 46)
                have hgs := hu.out.size
                replace hg := hide hg
                replace hs := hide (hs.out.alloc (.cells #[.int .i64 5, .int .i64 0, .string ⟨#[]⟩, .pointer (some ⟨gx, 0, none⟩), .pointer (some ⟨gv44, 0, none⟩)] 46))
                replace hva := hide (ExV.upd (Upd.alloc (fun _ => False) _ (.cells #[.int .i64 5, .int .i64 0, .string ⟨#[]⟩, .pointer (some ⟨gx, 0, none⟩), .pointer (some ⟨gv44, 0, none⟩)] 46)) (fun _ _ => id) _ _ hva.out)
                replace hvb := hide (ExV.upd (Upd.alloc (fun _ => False) _ (.cells #[.int .i64 5, .int .i64 0, .string ⟨#[]⟩, .pointer (some ⟨gx, 0, none⟩), .pointer (some ⟨gv44, 0, none⟩)] 46)) (fun _ _ => id) _ _ hvb.out)
                replace hu := hide (hu.out.then (Upd.alloc (At p) _ (.cells #[.int .i64 5, .int .i64 0, .string ⟨#[]⟩, .pointer (some ⟨gx, 0, none⟩), .pointer (some ⟨gv44, 0, none⟩)] 46)))
                go_wp2_with fail
                go_roundg (gk + 1)
                case measure => omega
                case rel => exact .inl ⟨.bin 5 x a44, r44, by omega, hu.out, ⟨_, _, ⟨_, rfl, hgs, hg.out⟩, hva.out, hvb.out⟩, hs.out, hX.out⟩
            · have hx41 : nx r [47] = false := by simpa using hx41
              have hx41h := hide hx41
              have hI := isL [47] (by decide) (by decide) hs.out
              rw [hx41] at hI
              refine hI.mono ?_
              rintro e wq42 ⟨rfl, hb⟩
              clear hI
              replace hs := hide (hs.out.below hb)
              replace hva := hide (ExV.upd (at_below6 p hb) (above_not hlt) _ _ hva.out)
              replace hu := hide (hu.out.then (at_below6 p hb))
              clear hb
              go_wp2_with fail
              by_cases hx42 : nx r [37] = true
              · have hx42h := hide hx42
                have hI := isL [37] (by decide) (by decide) hs.out
                rw [hx42] at hI
                refine hI.mono ?_
                rintro e wq43 ⟨rfl, hb⟩
                clear hI
                replace hs := hide (hs.out.below hb)
                replace hva := hide (ExV.upd (at_below6 p hb) (above_not hlt) _ _ hva.out)
                replace hu := hide (hu.out.then (at_below6 p hb))
                clear hb
                have hX2 := hX.out
                rw [chain_some (k := 6) (show prodK (txt r) = some 6 by rw [nx_txt hx42]; rfl)] at hX2
                replace hX := hide hX2
                clear hX2
                obtain ⟨i44, ci44, fi44, wi44, h1⟩ := hs.out.inc (nx_ne hx42h.out (by decide))
                have hU := Upd.set wq43 (F := At p) (a := ⟨p, 1, none⟩) rfl (.int .i64 ((i44 : Int) + 1))
                replace hva := hide (ExV.upd (hU) (above_not hlt) _ _ hva.out)
                replace hs := hide h1
                replace hu := hide (hu.out.then hU)
                clear hU h1
                go_wp2_with fail
                generalize hg44 : World.setCell _ _ _ = ws44 at hs hu hva ⊢
                clear ci44 fi44 wi44 hg44
                have hG := hU.out p C a d n r.tail _ hs.out
                cases hr : (un f d) r.tail with
                | no =>
                  have hX2 := hX.out
                  rw [hr] at hX2
                  try simp only [bind_no] at hX2
                  exact absurd hX2.symm hno.out
                | er r9 k9 =>
                  rw [hr] at hG
                  have hX2 := hX.out
                  rw [hr] at hX2
                  try simp only [bind_er] at hX2
                  replace hX := hide hX2
                  refine (hG (fun e => by cases e)).mono ?_
                  rintro e wq44 ⟨hU, v45, rfl, hJ, h1⟩
                  obtain ⟨q45, rfl⟩ := hJ
                  replace hva := hide (ExV.upd (hU) (above_not hlt) _ _ hva.out)
                  replace hs := hide h1
                  replace hu := hide (hu.out.then hU)
                  clear hU h1
                  clear hr hG hX2
                  replace hs := hide (hs.out.alloc (.cells #[.int .i64 6, .int .i64 0, .string ⟨#[]⟩, .pointer (some ⟨gx, 0, none⟩), .pointer q45] 46))
                  replace hva := hide (ExV.upd (Upd.alloc (fun _ => False) _ (.cells #[.int .i64 6, .int .i64 0, .string ⟨#[]⟩, .pointer (some ⟨gx, 0, none⟩), .pointer q45] 46)) (fun _ _ => id) _ _ hva.out)
                  replace hu := hide (hu.out.then (Upd.alloc (At p) _ (.cells #[.int .i64 6, .int .i64 0, .string ⟨#[]⟩, .pointer (some ⟨gx, 0, none⟩), .pointer q45] 46)))
                  go_wp2_with fail
                  go_roundg 0
                  case measure => omega
                  case rel => exact .inr ⟨r9, k9, hu.out, ⟨_, rfl⟩, hs.out, hX.out⟩
                | ok a45 r45 =>
                  rw [hr] at hG
                  have hX2 := hX.out
                  rw [hr] at hX2
                  try simp only [bind_ok] at hX2
                  replace hX := hide hX2
                  refine (hG (fun e => by cases e)).mono ?_
                  rintro e wq44 ⟨hU, v45, rfl, hv, h1⟩
                  have hsz := hu.out.size
                  have hvb := hide (ExV.mono (S' := (w.heap.size ≤ ·)) (fun b _ hb => Nat.le_trans hsz hb) _ _ hv)
                  clear hv
                  obtain ⟨gv45, rfl⟩ := hvb.out.ptr
                  replace hva := hide (ExV.upd (hU) (above_not hlt) _ _ hva.out)
                  replace hs := hide h1
                  replace hu := hide (hu.out.then hU)
                  clear hU h1
                  clear hr hG hX2 hsz
                  have hg := heap_new wq44 (.cells #[.int .i64 6, .int .i64 0, .string ⟨#[]⟩, .pointer (some ⟨gx, 0, none⟩), .pointer (some ⟨gv45, 0, none⟩)] 46)
                  have hgs := hu.out.size
                  replace hg := hide hg
                  replace hs := hide (hs.out.alloc (.cells #[.int .i64 6, .int .i64 0, .string ⟨#[]⟩, .pointer (some ⟨gx, 0, none⟩), .pointer (some ⟨gv45, 0, none⟩)] 46))
                  replace hva := hide (ExV.upd (Upd.alloc (fun _ => False) _ (.cells #[.int .i64 6, .int .i64 0, .string ⟨#[]⟩, .pointer (some ⟨gx, 0, none⟩), .pointer (some ⟨gv45, 0, none⟩)] 46)) (fun _ _ => id) _ _ hva.out)
                  replace hvb := hide (ExV.upd (Upd.alloc (fun _ => False) _ (.cells #[.int .i64 6, .int .i64 0, .string ⟨#[]⟩, .pointer (some ⟨gx, 0, none⟩), .pointer (some ⟨gv45, 0, none⟩)] 46)) (fun _ _ => id) _ _ hvb.out)
                  replace hu := hide (hu.out.then (Upd.alloc (At p) _ (.cells #[.int .i64 6, .int .i64 0, .string ⟨#[]⟩, .pointer (some ⟨gx, 0, none⟩), .pointer (some ⟨gv45, 0, none⟩)] 46)))
                  go_wp2_with fail
                  go_roundg (gk + 1)
                  case measure => omega
                  case rel => exact .inl ⟨.bin 6 x a45, r45, by omega, hu.out, ⟨_, _, ⟨_, rfl, hgs, hg.out⟩, hva.out, hvb.out⟩, hs.out, hX.out⟩
              · have hx42 : nx r [37] = false := by simpa using hx42
                have hx42h := hide hx42
                have hI := isL [37] (by decide) (by decide) hs.out
                rw [hx42] at hI
                refine hI.mono ?_
                rintro e wq43 ⟨rfl, hb⟩
                clear hI
                replace hs := hide (hs.out.below hb)
                replace hva := hide (ExV.upd (at_below6 p hb) (above_not hlt) _ _ hva.out)
                replace hu := hide (hu.out.then (at_below6 p hb))
                clear hb
                have hX2 := hX.out
                rw [chain_none (show prodK (txt r) = none by unfold prodK; rw [if_neg (nx_not hx40h.out)]; rw [if_neg (nx_not hx41h.out)]; rw [if_neg (nx_not hx42h.out)])] at hX2
                replace hX := hide hX2
                clear hX2
                go_wp2_with fail
                go_ret
                exact RfL.ok hu.out hX.out hva.out hs.out
      · obtain ⟨q, rfl⟩ := hJ
        obtain ⟨c3, c3b⟩ := hs.err
        replace hs := hide hs
        replace hu := hide hu
        go_wp2_with fail
        go_ret
        exact RfL.er hu.out hX ⟨_, rfl⟩ hs.out
set_option maxRecDepth 100000 in
set_option maxHeartbeats 6400000 in
theorem sum_of6 (f : Nat) (hU0 : ProdL f) : SumL f := by
  intro p C a d n r w h hno
  generalize hX : sumOf (un f d) f r = X at hno ⊢
  unfold sumOf at hX
  have hU := hide hU0
  have hlt := h.lt
  have hu := hide (Upd.refl (At p) w)
  have hs := hide h
  replace hX := hide hX
  replace hno := hide hno
  clear h
  go_enter Tryd.func64, Tryd.ntmps64
  go_wp2_with fail
  have hG := hU.out p C a d n r _ hs.out
  cases hr : (prodOf (un f d) f) r with
  | no =>
    have hX2 := hX.out
    rw [hr] at hX2
    try simp only [bind_no] at hX2
    exact absurd hX2.symm hno.out
  | er r9 k9 =>
    rw [hr] at hG
    have hX2 := hX.out
    rw [hr] at hX2
    try simp only [bind_er] at hX2
    replace hX := hide hX2
    refine (hG (fun e => by cases e)).mono ?_
    rintro e wq1 ⟨hU, v1, rfl, hJ, h1⟩
    obtain ⟨q1, rfl⟩ := hJ
    replace hs := hide h1
    replace hu := hide (hu.out.then hU)
    clear hU h1
    clear hr hG hX2
    obtain ⟨c3, c3b⟩ := hs.out.err
    have hsw := hs
    have huw := hu
    go_wp2_with fail
    go_loopg [3] 1 (fun gk v wr => v = .pointer q1 ∧ wr = wq1)
    case atStart => exact ⟨rfl, rfl⟩
    case round =>
      obtain ⟨rfl, rfl⟩ := hrel
      go_wp2_with fail
      go_ret
      exact RfL.er hu.out hX.out ⟨_, rfl⟩ hs.out
  | ok a1 r1 =>
    rw [hr] at hG
    have hX2 := hX.out
    rw [hr] at hX2
    try simp only [bind_ok] at hX2
    replace hX := hide hX2
    refine (hG (fun e => by cases e)).mono ?_
    rintro e wq1 ⟨hU, v1, rfl, hv, h1⟩
    have hsz := hu.out.size
    have hva := hide (ExV.mono (S' := (w.heap.size ≤ ·)) (fun b _ hb => Nat.le_trans hsz hb) _ _ hv)
    clear hv
    obtain ⟨gv1, rfl⟩ := hva.out.ptr
    replace hs := hide h1
    replace hu := hide (hu.out.then hU)
    clear hU h1
    clear hr hG hX2 hsz
    go_wp2_with fail
    go_loopg [3] (f + 1) (fun gk v wr => (∃ (x : Ex) (r : List Tok), 0 < gk ∧ Upd (At p) w wr ∧ ExV wr (w.heap.size ≤ ·) x v ∧ Lv wr p C a d n r ∧ chain .bin sumK (prodOf (un f d) f) (gk - 1) x r = X) ∨ (∃ (r : List Tok) (k : Nat), Upd (At p) w wr ∧ JP v ∧ Dead wr p C k (atOf C.len r) d n ∧ .er r k = X))
    case atStart => exact .inl ⟨a1, r1, by omega, hu.out, hva.out, hs.out, hX.out⟩
    case round =>
      clear hu hva hs hX
      rcases hrel with ⟨x, r, hgk, hu, hva, hs, hX⟩ | ⟨r, k, hu, hJ, hs, hX⟩
      · obtain ⟨gk, rfl⟩ : ∃ q, gk = q + 1 := ⟨gk - 1, by omega⟩
        simp only [Nat.add_sub_cancel] at hX
        obtain ⟨gx, rfl⟩ := hva.ptr
        have c3 := hs.err
        replace hs := hide hs
        replace hu := hide hu
        replace hva := hide hva
        replace hX := hide hX
        cases gk with
        | zero => exact absurd hX.out.symm hno.out
        | succ gk =>
          go_wp2_with fail
          by_cases hx40 : nx r [45] = true
          · have hx40h := hide hx40
            have hI := isL [45] (by decide) (by decide) hs.out
            rw [hx40] at hI
            refine hI.mono ?_
            rintro e wq41 ⟨rfl, hb⟩
            clear hI
            replace hs := hide (hs.out.below hb)
            replace hva := hide (ExV.upd (at_below6 p hb) (above_not hlt) _ _ hva.out)
            replace hu := hide (hu.out.then (at_below6 p hb))
            clear hb
            have hX2 := hX.out
            rw [chain_some (k := 3) (show sumK (txt r) = some 3 by rw [nx_txt hx40]; rfl)] at hX2
            replace hX := hide hX2
            clear hX2
            obtain ⟨i42, ci42, fi42, wi42, h1⟩ := hs.out.inc (nx_ne hx40h.out (by decide))
            have hU := Upd.set wq41 (F := At p) (a := ⟨p, 1, none⟩) rfl (.int .i64 ((i42 : Int) + 1))
            replace hva := hide (ExV.upd (hU) (above_not hlt) _ _ hva.out)
            replace hs := hide h1
            replace hu := hide (hu.out.then hU)
            clear hU h1
            go_wp2_with fail
            generalize hg42 : World.setCell _ _ _ = ws42 at hs hu hva ⊢
            clear ci42 fi42 wi42 hg42
            have hG := hU.out p C a d n r.tail _ hs.out
            cases hr : (prodOf (un f d) f) r.tail with
            | no =>
              have hX2 := hX.out
              rw [hr] at hX2
              try simp only [bind_no] at hX2
              exact absurd hX2.symm hno.out
            | er r9 k9 =>
              rw [hr] at hG
              have hX2 := hX.out
              rw [hr] at hX2
              try simp only [bind_er] at hX2
              replace hX := hide hX2
              refine (hG (fun e => by cases e)).mono ?_
              rintro e wq42 ⟨hU, v43, rfl, hJ, h1⟩
              obtain ⟨q43, rfl⟩ := hJ
              replace hva := hide (ExV.upd (hU) (above_not hlt) _ _ hva.out)
              replace hs := hide h1
              replace hu := hide (hu.out.then hU)
              clear hU h1
              clear hr hG hX2
              replace hs := hide (hs.out.alloc (.cells #[.int .i64 3, .int .i64 0, .string ⟨#[]⟩, .pointer (some ⟨gx, 0, none⟩), .pointer q43] 46))
              replace hva := hide (ExV.upd (Upd.alloc (fun _ => False) _ (.cells #[.int .i64 3, .int .i64 0, .string ⟨#[]⟩, .pointer (some ⟨gx, 0, none⟩), .pointer q43] 46)) (fun _ _ => id) _ _ hva.out)
              replace hu := hide (hu.out.then (Upd.alloc (At p) _ (.cells #[.int .i64 3, .int .i64 0, .string ⟨#[]⟩, .pointer (some ⟨gx, 0, none⟩), .pointer q43] 46)))
              go_wp2_with fail
              go_roundg 0
              case measure => omega
              case rel => exact .inr ⟨r9, k9, hu.out, ⟨_, rfl⟩, hs.out, hX.out⟩
            | ok a43 r43 =>
              rw [hr] at hG
              have hX2 := hX.out
              rw [hr] at hX2
              try simp only [bind_ok] at hX2
              replace hX := hide hX2
              refine (hG (fun e => by cases e)).mono ?_
              rintro e wq42 ⟨hU, v43, rfl, hv, h1⟩
              have hsz := hu.out.size
              have hvb := hide (ExV.mono (S' := (w.heap.size ≤ ·)) (fun b _ hb => Nat.le_trans hsz hb) _ _ hv)
              clear hv
              obtain ⟨gv43, rfl⟩ := hvb.out.ptr
              replace hva := hide (ExV.upd (hU) (above_not hlt) _ _ hva.out)
              replace hs := hide h1
              replace hu := hide (hu.out.then hU)
              clear hU h1
              clear hr hG hX2 hsz
              have hg := heap_new wq42 (.cells #[.int .i64 3, .int .i64 0, .string ⟨#[]⟩, .pointer (some ⟨gx, 0, none⟩), .pointer (some ⟨gv43, 0, none⟩)] 46)
              have hgs := hu.out.size
              replace hg := hide hg
              replace hs := hide (hs.out.alloc (.cells #[.int .i64 3, .int .i64 0, .string ⟨#[]⟩, .pointer (some ⟨gx, 0, none⟩), .pointer (some ⟨gv43, 0, none⟩)] 46))
              replace hva := hide (ExV.upd (Upd.alloc (fun _ => False) _ (.cells #[.int .i64 3, .int .i64 0, .string ⟨#[]⟩, .pointer (some ⟨gx, 0, none⟩), .pointer (some ⟨gv43, 0, none⟩)] 46)) (fun _ _ => id) _ _ hva.out)
              replace hvb := hide (ExV.upd (Upd.alloc (fun _ => False) _ (.cells #[.int .i64 3, .int .i64 0, .string ⟨#[]⟩, .pointer (some ⟨gx, 0, none⟩), .pointer (some ⟨gv43, 0, none⟩)] 46)) (fun _ _ => id) _ _ hvb.out)
              replace hu := hide (hu.out.then (Upd.alloc (At p) _ (.cells #[.int .i64 3, .int .i64 0, .string ⟨#[]⟩, .pointer (some ⟨gx, 0, none⟩), .pointer (some ⟨gv43, 0, none⟩)] 46)))
              go_wp2_with fail
              go_roundg (gk + 1)
              case measure => omega
              case rel => exact .inl ⟨.bin 3 x a43, r43, by omega, hu.out, ⟨_, _, ⟨_, rfl, hgs, hg.out⟩, hva.out, hvb.out⟩, hs.out, hX.out⟩
          · have hx40 : nx r [45] = false := by simpa using hx40
            have hx40h := hide hx40
            have hI := isL [45] (by decide) (by decide) hs.out
            rw [hx40] at hI
            refine hI.mono ?_
            rintro e wq41 ⟨rfl, hb⟩
            clear hI
            replace hs := hide (hs.out.below hb)
            replace hva := hide (ExV.upd (at_below6 p hb) (above_not hlt) _ _ hva.out)
            replace hu := hide (hu.out.then (at_below6 p hb))
            clear hb
            go_wp2_with fail
            by_cases hx41 : nx r [43] = true
            · have hx41h := hide hx41
              have hI := isL [43] (by decide) (by decide) hs.out
              rw [hx41] at hI
              refine hI.mono ?_
              rintro e wq42 ⟨rfl, hb⟩
              clear hI
              replace hs := hide (hs.out.below hb)
              replace hva := hide (ExV.upd (at_below6 p hb) (above_not hlt) _ _ hva.out)
              replace hu := hide (hu.out.then (at_below6 p hb))
              clear hb
              have hX2 := hX.out
              rw [chain_some (k := 2) (show sumK (txt r) = some 2 by rw [nx_txt hx41]; rfl)] at hX2
              replace hX := hide hX2
              clear hX2
              obtain ⟨i43, ci43, fi43, wi43, h1⟩ := hs.out.inc (nx_ne hx41h.out (by decide))
              have hU := Upd.set wq42 (F := At p) (a := ⟨p, 1, none⟩) rfl (.int .i64 ((i43 : Int) + 1))
              replace hva := hide (ExV.upd (hU) (above_not hlt) _ _ hva.out)
              replace hs := hide h1
              replace hu := hide (hu.out.then hU)
              clear hU h1
              go_wp2_with fail
              generalize hg43 : World.setCell _ _ _ = ws43 at hs hu hva ⊢
              clear ci43 fi43 wi43 hg43
              have hG := hU.out p C a d n r.tail _ hs.out
              cases hr : (prodOf (un f d) f) r.tail with
              | no =>
                have hX2 := hX.out
                rw [hr] at hX2
                try simp only [bind_no] at hX2
                exact absurd hX2.symm hno.out
              | er r9 k9 =>
                rw [hr] at hG
                have hX2 := hX.out
                rw [hr] at hX2
                try simp only [bind_er] at hX2
                replace hX := hide hX2
                refine (hG (fun e => by cases e)).mono ?_
                rintro e wq43 ⟨hU, v44, rfl, hJ, h1⟩
                obtain ⟨q44, rfl⟩ := hJ
                replace hva := hide (ExV.upd (hU) (above_not hlt) _ _ hva.out)
                replace hs := hide h1
                replace hu := hide (hu.out.then hU)
                clear hU h1
                clear hr hG hX2
                replace hs := hide (hs.out.alloc (.cells #[.int .i64 2, .int .i64 0, .string ⟨#[]⟩, .pointer (some ⟨gx, 0, none⟩), .pointer q44] 46))
                replace hva := hide (ExV.upd (Upd.alloc (fun _ => False) _ (.cells #[.int .i64 2, .int .i64 0, .string ⟨#[]⟩, .pointer (some ⟨gx, 0, none⟩), .pointer q44] 46)) (fun _ _ => id) _ _ hva.out)
                replace hu := hide (hu.out.then (Upd.alloc (At p) _ (.cells #[.int .i64 2, .int .i64 0, .string ⟨#[]⟩, .pointer (some ⟨gx, 0, none⟩), .pointer q44] 46)))
                go_wp2_with fail
                go_roundg 0
                case measure => omega
                case rel => exact .inr ⟨r9, k9, hu.out, ⟨_, rfl⟩, hs.out, hX.out⟩
              | ok a44 r44 =>
                rw [hr] at hG
                have hX2 := hX.out
                rw [hr] at hX2
                try simp only [bind_ok] at hX2
                replace hX := hide hX2
                refine (hG (fun e => by cases e)).mono ?_
                rintro e wq43 ⟨hU, v44, rfl, hv, h1⟩
                have hsz := hu.out.size
                have hvb := hide (ExV.mono (S' := (w.heap.size ≤ ·)) (fun b _ hb => Nat.le_trans hsz hb) _ _ hv)
                clear hv
                obtain ⟨gv44, rfl⟩ := hvb.out.ptr
                replace hva := hide (ExV.upd (hU) (above_not hlt) _ _ hva.out)
                replace hs := hide h1
                replace hu := hide (hu.out.then hU)
                clear hU h1
                clear hr hG hX2 hsz
                have hg := heap_new wq43 (.cells #[.int .i64 2, .int .i64 0, .string ⟨#[]⟩, .pointer (some ⟨gx, 0, none⟩), .pointer (some ⟨gv44, 0, none⟩)] 46)
                have hgs := hu.out.size
                replace hg := hide hg
                replace hs := hide (hs.out.alloc (.cells #[.int .i64 2, .int .i64 0, .string ⟨#[]⟩, .pointer (some ⟨gx, 0, none⟩), .pointer (some ⟨gv44, 0, none⟩)] 46))
                replace hva := hide (ExV.upd (Upd.alloc (fun _ => False) _ (.cells #[.int .i64 2, .int .i64 0, .string ⟨#[]⟩, .pointer (some ⟨gx, 0, none⟩), .pointer (some ⟨gv44, 0, none⟩)] 46)) (fun _ _ => id) _ _ hva.out)
                replace hvb := hide (ExV.upd (Upd.alloc (fun _ => False) _ (.cells #[.int .i64 2, .int .i64 0, .string ⟨#[]⟩, .pointer (some ⟨gx, 0, none⟩), .pointer (some ⟨gv44, 0, none⟩)] 46)) (fun _ _ => id) _ _ hvb.out)
                replace hu := hide (hu.out.then (Upd.alloc (At p) _ (.cells #[.int .i64 2, .int .i64 0, .string ⟨#[]⟩, .pointer (some ⟨gx, 0, none⟩), .pointer (some ⟨gv44, 0, none⟩)] 46)))
                go_wp2_with fail
                go_roundg (gk + 1)
                case measure => omega
                case rel => exact .inl ⟨.bin 2 x a44, r44, by omega, hu.out, ⟨_, _, ⟨_, rfl, hgs, hg.out⟩, hva.out, hvb.out⟩, hs.out, hX.out⟩
            · have hx41 : nx r [43] = false := by simpa using hx41
              have hx41h := hide hx41
              have hI := isL [43] (by decide) (by decide) hs.out
              rw [hx41] at hI
              refine hI.mono ?_
              rintro e wq42 ⟨rfl, hb⟩
              clear hI
              replace hs := hide (hs.out.below hb)
              replace hva := hide (ExV.upd (at_below6 p hb) (above_not hlt) _ _ hva.out)
              replace hu := hide (hu.out.then (at_below6 p hb))
              clear hb
              have hX2 := hX.out
              rw [chain_none (show sumK (txt r) = none by unfold sumK; rw [if_neg (nx_not hx40h.out)]; rw [if_neg (nx_not hx41h.out)])] at hX2
              replace hX := hide hX2
              clear hX2
              go_wp2_with fail
              go_ret
              exact RfL.ok hu.out hX.out hva.out hs.out
      · obtain ⟨q, rfl⟩ := hJ
        obtain ⟨c3, c3b⟩ := hs.err
        replace hs := hide hs
        replace hu := hide hu
        go_wp2_with fail
        go_ret
        exact RfL.er hu.out hX ⟨_, rfl⟩ hs.out
end Go.Proofs.YtiiihpokpfhclaaDoor
/- The document's parser: expressions, whole. -/
namespace Go.Proofs.YtiiihpokpfhclaaDoor
open Go Go.RowKit

theorem RfG.L {p : Nat} {C : Cx} {a d n : Nat} {w w' : World} {X : Rs Ex} {e : Ending} (h : RfG p C a d n w X e w') : RfE p C a d n w X e w' := by
  obtain ⟨hu, v, rfl, h⟩ := h
  refine ⟨hu, v, rfl, ?_⟩
  cases X with
  | ok x r => exact ⟨h.2, h.1⟩
  | er r k => exact ⟨h.1, h.2⟩
  | no => exact h
theorem nx_nil (x : List UInt8) (hx : x ≠ []) : nx [] x = false := by
  cases x with
  | nil => exact absurd rfl hx
  | cons _ _ => rfl
theorem un_rest (f : Nat) (p : Nat) (C : Cx) (a d n : Nat) (r : List Tok) (w : World) (h : Lv w p C a d n r) (h1 : nx r [45] = false) (h2 : nx r [40] = false) :
    Calls Tryd.prog 91 #[.pointer (some ⟨p, 0, none⟩)] w fun e w' => RfE p C a d n w (un (f + 1) d r) e w' := by
  obtain ⟨i, rfl, h⟩ := h
  have hs : un (f + 1) d (C.ts.drop i) = if isNum (C.ts.drop i) = true then (numP (C.ts.drop i)).bind fun n r => .ok (.num n) r else (nameP (C.ts.drop i)).bind fun x r => .ok (.var x) r := by
    rw [un, if_neg (by rw [h1]; exact Bool.false_ne_true), if_neg (by rw [h2]; exact Bool.false_ne_true)]
  rw [hs]
  rcases Nat.lt_or_ge i C.ts.length with hl | hl
  · obtain ⟨t, ht⟩ : ∃ t, C.ts[i]? = some t := ⟨_, List.getElem?_eq_getElem hl⟩
    have hq1 : isQ C i 0 [45] = false := by rw [isQ_nx h.ok ⟨45, by decide, by decide⟩]; exact h1
    have hq2 : isQ C i 0 [40] = false := by rw [isQ_nx h.ok ⟨40, by decide, by decide⟩]; exact h2
    by_cases hk : t.kind = 1
    · have hn : isNum (C.ts.drop i) = true := by rw [drop_cons ht]; simp [isNum, hk]
      rw [if_pos hn, numP, if_pos hn, bind_ok, show txt (C.ts.drop i) = t.text by rw [drop_cons ht]; rfl, ← drop_tl]
      exact (un_num p w a d n i C h t ht hk).mono fun _ _ h => h.L
    · have hn : isNum (C.ts.drop i) = false := by rw [drop_cons ht]; simp [isNum, hk]
      rw [if_neg (by rw [hn]; exact Bool.false_ne_true), nameP]
      by_cases hm : isNm (C.ts.drop i) = true
      · rw [if_pos hm, bind_ok, ← drop_tl]
        exact (un_name p w a d n i C h t ht hk hq1 hq2 (by rw [nmQ_nm]; exact hm)).mono fun _ _ h => h.L
      · rw [if_neg hm, bind_er]
        exact (un_no p w a d n i C h t ht hk hq1 hq2 (by rw [nmQ_nm]; simpa using hm)).mono fun _ _ h => h.L
  · have hr := List.drop_eq_nil_of_le hl
    have hE := un_end p w a d n i C h hl
    rw [hr] at hE ⊢
    refine hE.mono ?_
    rintro e w' ⟨rfl, hu, h1⟩
    exact ⟨hu, _, rfl, ⟨_, rfl⟩, by decide, i, h1⟩
theorem un_ok6 : ∀ f, UnL f
  | 0 => fun _ _ _ _ _ _ _ _ hno => absurd rfl hno
  | f + 1 => fun p C a d n r w h hno => by
    by_cases h1 : nx r [45] = true
    · exact un_minus f (un_ok6 f) p C a d n r w h h1 hno
    · have h1 : nx r [45] = false := by simpa using h1
      by_cases h2 : nx r [40] = true
      · exact un_paren f (sum_of6 f (prod_of6 f (un_ok6 f))) p C a d n r w h h1 h2 hno
      · exact un_rest f p C a d n r w h h1 (by simpa using h2)
theorem sum_ok6 (f : Nat) (p : Nat) (C : Cx) (a d n : Nat) (r : List Tok) (w : World) (h : Lv w p C a d n r) (hno : sumP f d r ≠ .no) :
    Calls Tryd.prog 64 #[.pointer (some ⟨p, 0, none⟩)] w fun e w' => RfE p C a d n w (sumP f d r) e w' := sum_of6 f (prod_of6 f (un_ok6 f)) p C a d n r w h hno
end Go.Proofs.YtiiihpokpfhclaaDoor
/- The document's parser: rows, junk; what stands of a list. -/
namespace Go.Proofs.YtiiihpokpfhclaaDoor
open Go Go.RowKit Go.Lib

section
variable {w w' : World} {p B : Nat} {C : Cx} {k a d n : Nat} {r : List Tok} {v : Value}
theorem Lv.tokLt (h : Lv w p C a d n r) : ∀ k, C.vt.ownBlock = some k → k < w.heap.size := by obtain ⟨i, -, h⟩ := h; exact fun k hk => (h.row.lt k hk).2
theorem Dead.tokLt (h : Dead w p C k a d n) : ∀ k, C.vt.ownBlock = some k → k < w.heap.size := by obtain ⟨-, i, h⟩ := h; exact fun k hk => (h.row.lt k hk).2
theorem Lv.row_ (h : Lv w p C a d n r) (hu : Upd (fun k => v.ownBlock = some k) w w') (hB : ∀ k, v.ownBlock = some k → B ≤ k) (hp : p < B) (ht : ∀ k, C.vt.ownBlock = some k → k < B) : Lv w' p C a d n r :=
  h.upd hu (fun e => by have := hB p e; omega) fun k hk e => by have := hB k e; have := ht k hk; omega
theorem Dead.row_ (h : Dead w p C k a d n) (hu : Upd (fun k => v.ownBlock = some k) w w') (hB : ∀ k, v.ownBlock = some k → B ≤ k) (hp : p < B) (ht : ∀ k, C.vt.ownBlock = some k → k < B) : Dead w' p C k a d n :=
  h.upd hu (fun e => by have := hB p e; omega) fun k hk e => by have := hB k e; have := ht k hk; omega
end
/-- Cells of anything. -/
def JunkP {α : Type} (_ : World) (_ : Nat → Prop) (_ : α) (us : List Value) : Prop := ∀ u ∈ us, u.oneCell' = true
theorem junkFam {α : Type} : Fam (JunkP (α := α)) where
  upd := fun _ _ h => h
  mono := fun _ h => h
  one := fun h => h
theorem RowS.junk {α : Type} {P : World → (Nat → Prop) → α → List Value → Prop} (hP : Fam P) {w : World} {B : Nat} {e : TypeId} {sz : Nat} {l : List α} {v : Value} (h : RowS w B e sz P l v) : RowS w B e sz JunkP l v := by
  obtain ⟨uss, h1, h2⟩ := h
  exact ⟨uss, h1, h2.mono fun a us ⟨h3, h4⟩ => ⟨h3, hP.one h4⟩⟩
theorem bind_assoc {α β γ : Type} (x : Rs α) (f : α → List Tok → Rs β) (g : β → List Tok → Rs γ) : (x.bind f).bind g = x.bind fun a r => (f a r).bind g := by cases x <;> rfl
def JS (v : Value) : Prop := ∃ A n c, v = .slice A n c
end Go.Proofs.YtiiihpokpfhclaaDoor
