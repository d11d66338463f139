/- Part 11 of the walks (merged): PsK2. -/
import Derived.Test.YteplkhgaoaphhaaGreatDoorM9
/- Walks of the parser's methods for statements. Written by mkstmt.py. -/
namespace Go.Proofs.YteplkhgaoaphhaaGreatDoor
open Go Go.RowKit Go.Lib

def CallOK (f : Nat) : Prop := ∀ (p : Nat) (C : Cx) (d n : Nat) (x : List UInt8) (a : Nat) (r : List Tok) (w : World), PsW w p C d n r → callP f d x a r ≠ .no →
  Calls Tryz.prog 119 #[.pointer (some ⟨p, 0, none⟩)] w fun e w' => Got p C w (SmX p C d n w.heap.size x a) (callP f d x a r) e w'

set_option maxRecDepth 100000 in
set_option maxHeartbeats 3200000 in
theorem call_ok (f : Nat) (hf : f ≤ 1000000) : CallOK f := by
  intro p C d n x a r w h hno
  generalize hX : callP f d x a r = X at hno ⊢
  unfold callP at hX
  have hlt := h.lt
  have htk := hide h.tokLt
  have hrp : w.heap.size ≠ p := by omega
  have hu := hide (Upd.refl (At p) (w.alloc (.cells #[.int .i64 0, .string ⟨#[]⟩, .string ⟨#[]⟩, .pointer none, .pointer none, .pointer none, .slice none 0 0, .slice none 0 0, .slice none 0 0, .int .i64 0] 58)))
  have hs := hide (h.alloc (.cells #[.int .i64 0, .string ⟨#[]⟩, .string ⟨#[]⟩, .pointer none, .pointer none, .pointer none, .slice none 0 0, .slice none 0 0, .slice none 0 0, .int .i64 0] 58))
  replace hX := hide hX
  replace hno := hide hno
  have hrs := hide (heap_new w (.cells #[.int .i64 0, .string ⟨#[]⟩, .string ⟨#[]⟩, .pointer none, .pointer none, .pointer none, .slice none 0 0, .slice none 0 0, .slice none 0 0, .int .i64 0] 58))
  have hw0 : w.heap.size < (w.alloc (.cells #[.int .i64 0, .string ⟨#[]⟩, .string ⟨#[]⟩, .pointer none, .pointer none, .pointer none, .slice none 0 0, .slice none 0 0, .slice none 0 0, .int .i64 0] 58)).heap.size := by simp
  clear h
  go_enter Tryz.func119, Tryz.ntmps119
  go_wp2_with fail
  have hG := name_any p C d n r _ hs.out
  cases hr : nameP r with
  | no =>
    have hX2 := hX.out
    rw [hr] at hX2
    try simp only [bind_no] at hX2
    exact absurd hX2.symm hno.out
  | er r9 k9 =>
    rw [hr] at hG
    have hX2 := hX.out
    rw [hr] at hX2
    try simp only [bind_er] at hX2
    replace hX := hide hX2
    refine (hG).mono ?_
    rintro e wq1 ⟨hU, rfl⟩
    replace hu := hide (hu.out.then hU)
    clear hr hG hU hX2
    go_wp2_with fail
    refine ⟨rfl, ?_⟩
    exact Got.er ((Upd.alloc (At p) w _).then hu.out) hX.out.symm
  | ok a1 r1 =>
    rw [hr] at hG
    have hX2 := hX.out
    rw [hr] at hX2
    try simp only [bind_ok] at hX2
    replace hX := hide hX2
    refine (hG).mono ?_
    rintro e wq1 ⟨hU, v1, rfl, rfl, h1⟩
    have hsz := hu.out.size
    replace hrs := hide ((hU).heap hrs.out hrp)
    replace hs := hide h1
    replace hu := hide (hu.out.then hU)
    clear hr hG hU h1 hX2 hsz
    have hbx := hide (heap_new wq1 (.cells #[.int .i64 8, .string ⟨#[]⟩, .string (strB a1), .pointer none, .pointer none, .pointer none, .slice none 0 0, .slice none 0 0, .slice none 0 0, .int .i64 0] 58))
    have hgw : w.heap.size < wq1.heap.size := Nat.lt_of_lt_of_le hw0 hu.out.size
    have hgp : wq1.heap.size ≠ p := by omega
    replace hs := hide (hs.out.alloc (.cells #[.int .i64 8, .string ⟨#[]⟩, .string (strB a1), .pointer none, .pointer none, .pointer none, .slice none 0 0, .slice none 0 0, .slice none 0 0, .int .i64 0] 58))
    replace hrs := hide (heap_old hrs.out (.cells #[.int .i64 8, .string ⟨#[]⟩, .string (strB a1), .pointer none, .pointer none, .pointer none, .slice none 0 0, .slice none 0 0, .slice none 0 0, .int .i64 0] 58))
    replace hu := hide (hu.out.then (Upd.alloc (At p) _ (.cells #[.int .i64 8, .string ⟨#[]⟩, .string (strB a1), .pointer none, .pointer none, .pointer none, .slice none 0 0, .slice none 0 0, .slice none 0 0, .int .i64 0] 58)))
    have hgu : (w.alloc (.cells #[.int .i64 0, .string ⟨#[]⟩, .string ⟨#[]⟩, .pointer none, .pointer none, .pointer none, .slice none 0 0, .slice none 0 0, .slice none 0 0, .int .i64 0] 58)).heap.size ≤ wq1.heap.size := by simp; omega
    go_wp2_with fail
    have hG := args_ok f hf p C d n r1 _ hs.out
    cases hr : argsP f d r1 with
    | no =>
      have hX2 := hX.out
      rw [hr] at hX2
      try simp only [bind_no] at hX2
      exact absurd hX2.symm hno.out
    | er r9 k9 =>
      rw [hr] at hG
      have hX2 := hX.out
      rw [hr] at hX2
      try simp only [bind_er] at hX2
      replace hX := hide hX2
      refine (hG (fun e => by cases e)).mono ?_
      rintro e wq2 ⟨hU, rfl⟩
      replace hu := hide (hu.out.then hU)
      clear hr hG hU hX2
      go_wp2_with fail
      refine ⟨rfl, ?_⟩
      exact Got.er ((Upd.alloc (At p) w _).then hu.out) hX.out.symm
    | ok a2 r2 =>
      rw [hr] at hG
      have hX2 := hX.out
      rw [hr] at hX2
      try simp only [bind_ok] at hX2
      replace hX := hide hX2
      refine (hG (fun e => by cases e)).mono ?_
      rintro e wq2 ⟨hU, v2, rfl, hv, h1⟩
      have hsz := hu.out.size
      have hold := (Array.getElem?_eq_some_iff.1 hbx.out).1
      replace hrs := hide ((hU).heap hrs.out hrp)
      replace hbx := hide ((hU).heap hbx.out hgp)
      have hva := hide (ListV.mono argFam (S' := (fun b => w.heap.size < b ∧ b ≠ wq1.heap.size)) (fun b _ hb => ⟨Nat.lt_of_lt_of_le (Nat.lt_of_lt_of_le hw0 hsz) hb, fun e => by omega⟩) (by decide) hv)
      clear hv
      obtain ⟨A1, m1, c1, rfl⟩ := hva.out.slc
      replace hs := hide h1
      replace hu := hide (hu.out.then hU)
      clear hr hG hU h1 hX2 hsz hold
      have cj := cell_at hbx.out 6
      simp at cj
      have fj := frozen_at hbx.out 6
      have hb2 : (wq2.setCell ⟨wq1.heap.size, 6, none⟩ (.slice A1 m1 c1)).heap[wq1.heap.size]? = some (.cells #[.int .i64 8, .string ⟨#[]⟩, .string (strB a1), .pointer none, .pointer none, .pointer none, .slice A1 m1 c1, .slice none 0 0, .slice none 0 0, .int .i64 0] 58 (0, 0)) := heap_set hbx.out 6 _
      replace hbx := hide hb2
      clear hb2
      replace hva := hide (hva.out.upd argFam (set_upd wq2 (wq1.heap.size) 6 (.slice A1 m1 c1)) (fun b hb => hb.2))
      replace hrs := hide ((set_upd wq2 (wq1.heap.size) 6 (.slice A1 m1 c1)).heap hrs.out (by simp only [At]; omega))
      replace hs := hide (hs.out.setNew hlt htk.out (Nat.le_of_lt hgw) 6 (.slice A1 m1 c1))
      replace hu := hide (hu.out.setNew (hgu) 6 (.slice A1 m1 c1))
      have cc0 := cell_at hbx.out 0
      have cc1 := cell_at hbx.out 1
      have cc2 := cell_at hbx.out 2
      have cc3 := cell_at hbx.out 3
      have cc4 := cell_at hbx.out 4
      have cc5 := cell_at hbx.out 5
      have cc6 := cell_at hbx.out 6
      have cc7 := cell_at hbx.out 7
      have cc8 := cell_at hbx.out 8
      have cc9 := cell_at hbx.out 9
      simp at cc0 cc1 cc2 cc3 cc4 cc5 cc6 cc7 cc8 cc9
      have rr0 := hrs.out
      have dd0 := cell_at rr0 0
      have ff0 := frozen_at rr0 0
      have rr1 : ((wq2.setCell ⟨wq1.heap.size, 6, none⟩ (.slice A1 m1 c1)).setCell ⟨w.heap.size, 0, none⟩ (.int .i64 8)).heap[w.heap.size]? = some (.cells #[.int .i64 8, .string ⟨#[]⟩, .string ⟨#[]⟩, .pointer none, .pointer none, .pointer none, .slice none 0 0, .slice none 0 0, .slice none 0 0, .int .i64 0] 58 (0, 0)) := heap_set rr0 0 _
      have kk0 : ((wq2.setCell ⟨wq1.heap.size, 6, none⟩ (.slice A1 m1 c1)).setCell ⟨w.heap.size, 0, none⟩ (.int .i64 8)).cell? ⟨w.heap.size, 0, none⟩ = some (.int .i64 8) := cell_at rr1 0
      replace kk0 := hide kk0
      have dd1 := cell_at rr1 1
      have ff1 := frozen_at rr1 1
      have rr2 : (((wq2.setCell ⟨wq1.heap.size, 6, none⟩ (.slice A1 m1 c1)).setCell ⟨w.heap.size, 0, none⟩ (.int .i64 8)).setCell ⟨w.heap.size, 1, none⟩ (.string ⟨#[]⟩)).heap[w.heap.size]? = some (.cells #[.int .i64 8, .string ⟨#[]⟩, .string ⟨#[]⟩, .pointer none, .pointer none, .pointer none, .slice none 0 0, .slice none 0 0, .slice none 0 0, .int .i64 0] 58 (0, 0)) := heap_set rr1 1 _
      have kk1 : (((wq2.setCell ⟨wq1.heap.size, 6, none⟩ (.slice A1 m1 c1)).setCell ⟨w.heap.size, 0, none⟩ (.int .i64 8)).setCell ⟨w.heap.size, 1, none⟩ (.string ⟨#[]⟩)).cell? ⟨w.heap.size, 1, none⟩ = some (.string ⟨#[]⟩) := cell_at rr2 1
      replace kk1 := hide kk1
      have dd2 := cell_at rr2 2
      have ff2 := frozen_at rr2 2
      have rr3 : ((((wq2.setCell ⟨wq1.heap.size, 6, none⟩ (.slice A1 m1 c1)).setCell ⟨w.heap.size, 0, none⟩ (.int .i64 8)).setCell ⟨w.heap.size, 1, none⟩ (.string ⟨#[]⟩)).setCell ⟨w.heap.size, 2, none⟩ (.string (strB a1))).heap[w.heap.size]? = some (.cells #[.int .i64 8, .string ⟨#[]⟩, .string (strB a1), .pointer none, .pointer none, .pointer none, .slice none 0 0, .slice none 0 0, .slice none 0 0, .int .i64 0] 58 (0, 0)) := heap_set rr2 2 _
      have kk2 : ((((wq2.setCell ⟨wq1.heap.size, 6, none⟩ (.slice A1 m1 c1)).setCell ⟨w.heap.size, 0, none⟩ (.int .i64 8)).setCell ⟨w.heap.size, 1, none⟩ (.string ⟨#[]⟩)).setCell ⟨w.heap.size, 2, none⟩ (.string (strB a1))).cell? ⟨w.heap.size, 2, none⟩ = some (.string (strB a1)) := cell_at rr3 2
      replace kk2 := hide kk2
      have dd3 := cell_at rr3 3
      have ff3 := frozen_at rr3 3
      have rr4 : (((((wq2.setCell ⟨wq1.heap.size, 6, none⟩ (.slice A1 m1 c1)).setCell ⟨w.heap.size, 0, none⟩ (.int .i64 8)).setCell ⟨w.heap.size, 1, none⟩ (.string ⟨#[]⟩)).setCell ⟨w.heap.size, 2, none⟩ (.string (strB a1))).setCell ⟨w.heap.size, 3, none⟩ (.pointer none)).heap[w.heap.size]? = some (.cells #[.int .i64 8, .string ⟨#[]⟩, .string (strB a1), .pointer none, .pointer none, .pointer none, .slice none 0 0, .slice none 0 0, .slice none 0 0, .int .i64 0] 58 (0, 0)) := heap_set rr3 3 _
      have kk3 : (((((wq2.setCell ⟨wq1.heap.size, 6, none⟩ (.slice A1 m1 c1)).setCell ⟨w.heap.size, 0, none⟩ (.int .i64 8)).setCell ⟨w.heap.size, 1, none⟩ (.string ⟨#[]⟩)).setCell ⟨w.heap.size, 2, none⟩ (.string (strB a1))).setCell ⟨w.heap.size, 3, none⟩ (.pointer none)).cell? ⟨w.heap.size, 3, none⟩ = some (.pointer none) := cell_at rr4 3
      replace kk3 := hide kk3
      have dd4 := cell_at rr4 4
      have ff4 := frozen_at rr4 4
      have rr5 : ((((((wq2.setCell ⟨wq1.heap.size, 6, none⟩ (.slice A1 m1 c1)).setCell ⟨w.heap.size, 0, none⟩ (.int .i64 8)).setCell ⟨w.heap.size, 1, none⟩ (.string ⟨#[]⟩)).setCell ⟨w.heap.size, 2, none⟩ (.string (strB a1))).setCell ⟨w.heap.size, 3, none⟩ (.pointer none)).setCell ⟨w.heap.size, 4, none⟩ (.pointer none)).heap[w.heap.size]? = some (.cells #[.int .i64 8, .string ⟨#[]⟩, .string (strB a1), .pointer none, .pointer none, .pointer none, .slice none 0 0, .slice none 0 0, .slice none 0 0, .int .i64 0] 58 (0, 0)) := heap_set rr4 4 _
      have kk4 : ((((((wq2.setCell ⟨wq1.heap.size, 6, none⟩ (.slice A1 m1 c1)).setCell ⟨w.heap.size, 0, none⟩ (.int .i64 8)).setCell ⟨w.heap.size, 1, none⟩ (.string ⟨#[]⟩)).setCell ⟨w.heap.size, 2, none⟩ (.string (strB a1))).setCell ⟨w.heap.size, 3, none⟩ (.pointer none)).setCell ⟨w.heap.size, 4, none⟩ (.pointer none)).cell? ⟨w.heap.size, 4, none⟩ = some (.pointer none) := cell_at rr5 4
      replace kk4 := hide kk4
      have dd5 := cell_at rr5 5
      have ff5 := frozen_at rr5 5
      have rr6 : (((((((wq2.setCell ⟨wq1.heap.size, 6, none⟩ (.slice A1 m1 c1)).setCell ⟨w.heap.size, 0, none⟩ (.int .i64 8)).setCell ⟨w.heap.size, 1, none⟩ (.string ⟨#[]⟩)).setCell ⟨w.heap.size, 2, none⟩ (.string (strB a1))).setCell ⟨w.heap.size, 3, none⟩ (.pointer none)).setCell ⟨w.heap.size, 4, none⟩ (.pointer none)).setCell ⟨w.heap.size, 5, none⟩ (.pointer none)).heap[w.heap.size]? = some (.cells #[.int .i64 8, .string ⟨#[]⟩, .string (strB a1), .pointer none, .pointer none, .pointer none, .slice none 0 0, .slice none 0 0, .slice none 0 0, .int .i64 0] 58 (0, 0)) := heap_set rr5 5 _
      have kk5 : (((((((wq2.setCell ⟨wq1.heap.size, 6, none⟩ (.slice A1 m1 c1)).setCell ⟨w.heap.size, 0, none⟩ (.int .i64 8)).setCell ⟨w.heap.size, 1, none⟩ (.string ⟨#[]⟩)).setCell ⟨w.heap.size, 2, none⟩ (.string (strB a1))).setCell ⟨w.heap.size, 3, none⟩ (.pointer none)).setCell ⟨w.heap.size, 4, none⟩ (.pointer none)).setCell ⟨w.heap.size, 5, none⟩ (.pointer none)).cell? ⟨w.heap.size, 5, none⟩ = some (.pointer none) := cell_at rr6 5
      replace kk5 := hide kk5
      have dd6 := cell_at rr6 6
      have ff6 := frozen_at rr6 6
      have rr7 : ((((((((wq2.setCell ⟨wq1.heap.size, 6, none⟩ (.slice A1 m1 c1)).setCell ⟨w.heap.size, 0, none⟩ (.int .i64 8)).setCell ⟨w.heap.size, 1, none⟩ (.string ⟨#[]⟩)).setCell ⟨w.heap.size, 2, none⟩ (.string (strB a1))).setCell ⟨w.heap.size, 3, none⟩ (.pointer none)).setCell ⟨w.heap.size, 4, none⟩ (.pointer none)).setCell ⟨w.heap.size, 5, none⟩ (.pointer none)).setCell ⟨w.heap.size, 6, none⟩ (.slice A1 m1 c1)).heap[w.heap.size]? = some (.cells #[.int .i64 8, .string ⟨#[]⟩, .string (strB a1), .pointer none, .pointer none, .pointer none, .slice A1 m1 c1, .slice none 0 0, .slice none 0 0, .int .i64 0] 58 (0, 0)) := heap_set rr6 6 _
      have kk6 : ((((((((wq2.setCell ⟨wq1.heap.size, 6, none⟩ (.slice A1 m1 c1)).setCell ⟨w.heap.size, 0, none⟩ (.int .i64 8)).setCell ⟨w.heap.size, 1, none⟩ (.string ⟨#[]⟩)).setCell ⟨w.heap.size, 2, none⟩ (.string (strB a1))).setCell ⟨w.heap.size, 3, none⟩ (.pointer none)).setCell ⟨w.heap.size, 4, none⟩ (.pointer none)).setCell ⟨w.heap.size, 5, none⟩ (.pointer none)).setCell ⟨w.heap.size, 6, none⟩ (.slice A1 m1 c1)).cell? ⟨w.heap.size, 6, none⟩ = some (.slice A1 m1 c1) := cell_at rr7 6
      replace kk6 := hide kk6
      have dd7 := cell_at rr7 7
      have ff7 := frozen_at rr7 7
      have rr8 : (((((((((wq2.setCell ⟨wq1.heap.size, 6, none⟩ (.slice A1 m1 c1)).setCell ⟨w.heap.size, 0, none⟩ (.int .i64 8)).setCell ⟨w.heap.size, 1, none⟩ (.string ⟨#[]⟩)).setCell ⟨w.heap.size, 2, none⟩ (.string (strB a1))).setCell ⟨w.heap.size, 3, none⟩ (.pointer none)).setCell ⟨w.heap.size, 4, none⟩ (.pointer none)).setCell ⟨w.heap.size, 5, none⟩ (.pointer none)).setCell ⟨w.heap.size, 6, none⟩ (.slice A1 m1 c1)).setCell ⟨w.heap.size, 7, none⟩ (.slice none 0 0)).heap[w.heap.size]? = some (.cells #[.int .i64 8, .string ⟨#[]⟩, .string (strB a1), .pointer none, .pointer none, .pointer none, .slice A1 m1 c1, .slice none 0 0, .slice none 0 0, .int .i64 0] 58 (0, 0)) := heap_set rr7 7 _
      have kk7 : (((((((((wq2.setCell ⟨wq1.heap.size, 6, none⟩ (.slice A1 m1 c1)).setCell ⟨w.heap.size, 0, none⟩ (.int .i64 8)).setCell ⟨w.heap.size, 1, none⟩ (.string ⟨#[]⟩)).setCell ⟨w.heap.size, 2, none⟩ (.string (strB a1))).setCell ⟨w.heap.size, 3, none⟩ (.pointer none)).setCell ⟨w.heap.size, 4, none⟩ (.pointer none)).setCell ⟨w.heap.size, 5, none⟩ (.pointer none)).setCell ⟨w.heap.size, 6, none⟩ (.slice A1 m1 c1)).setCell ⟨w.heap.size, 7, none⟩ (.slice none 0 0)).cell? ⟨w.heap.size, 7, none⟩ = some (.slice none 0 0) := cell_at rr8 7
      replace kk7 := hide kk7
      have dd8 := cell_at rr8 8
      have ff8 := frozen_at rr8 8
      have rr9 : ((((((((((wq2.setCell ⟨wq1.heap.size, 6, none⟩ (.slice A1 m1 c1)).setCell ⟨w.heap.size, 0, none⟩ (.int .i64 8)).setCell ⟨w.heap.size, 1, none⟩ (.string ⟨#[]⟩)).setCell ⟨w.heap.size, 2, none⟩ (.string (strB a1))).setCell ⟨w.heap.size, 3, none⟩ (.pointer none)).setCell ⟨w.heap.size, 4, none⟩ (.pointer none)).setCell ⟨w.heap.size, 5, none⟩ (.pointer none)).setCell ⟨w.heap.size, 6, none⟩ (.slice A1 m1 c1)).setCell ⟨w.heap.size, 7, none⟩ (.slice none 0 0)).setCell ⟨w.heap.size, 8, none⟩ (.slice none 0 0)).heap[w.heap.size]? = some (.cells #[.int .i64 8, .string ⟨#[]⟩, .string (strB a1), .pointer none, .pointer none, .pointer none, .slice A1 m1 c1, .slice none 0 0, .slice none 0 0, .int .i64 0] 58 (0, 0)) := heap_set rr8 8 _
      have kk8 : ((((((((((wq2.setCell ⟨wq1.heap.size, 6, none⟩ (.slice A1 m1 c1)).setCell ⟨w.heap.size, 0, none⟩ (.int .i64 8)).setCell ⟨w.heap.size, 1, none⟩ (.string ⟨#[]⟩)).setCell ⟨w.heap.size, 2, none⟩ (.string (strB a1))).setCell ⟨w.heap.size, 3, none⟩ (.pointer none)).setCell ⟨w.heap.size, 4, none⟩ (.pointer none)).setCell ⟨w.heap.size, 5, none⟩ (.pointer none)).setCell ⟨w.heap.size, 6, none⟩ (.slice A1 m1 c1)).setCell ⟨w.heap.size, 7, none⟩ (.slice none 0 0)).setCell ⟨w.heap.size, 8, none⟩ (.slice none 0 0)).cell? ⟨w.heap.size, 8, none⟩ = some (.slice none 0 0) := cell_at rr9 8
      replace kk8 := hide kk8
      have dd9 := cell_at rr9 9
      have ff9 := frozen_at rr9 9
      have rr10 : (((((((((((wq2.setCell ⟨wq1.heap.size, 6, none⟩ (.slice A1 m1 c1)).setCell ⟨w.heap.size, 0, none⟩ (.int .i64 8)).setCell ⟨w.heap.size, 1, none⟩ (.string ⟨#[]⟩)).setCell ⟨w.heap.size, 2, none⟩ (.string (strB a1))).setCell ⟨w.heap.size, 3, none⟩ (.pointer none)).setCell ⟨w.heap.size, 4, none⟩ (.pointer none)).setCell ⟨w.heap.size, 5, none⟩ (.pointer none)).setCell ⟨w.heap.size, 6, none⟩ (.slice A1 m1 c1)).setCell ⟨w.heap.size, 7, none⟩ (.slice none 0 0)).setCell ⟨w.heap.size, 8, none⟩ (.slice none 0 0)).setCell ⟨w.heap.size, 9, none⟩ (.int .i64 0)).heap[w.heap.size]? = some (.cells #[.int .i64 8, .string ⟨#[]⟩, .string (strB a1), .pointer none, .pointer none, .pointer none, .slice A1 m1 c1, .slice none 0 0, .slice none 0 0, .int .i64 0] 58 (0, 0)) := heap_set rr9 9 _
      have kk9 : (((((((((((wq2.setCell ⟨wq1.heap.size, 6, none⟩ (.slice A1 m1 c1)).setCell ⟨w.heap.size, 0, none⟩ (.int .i64 8)).setCell ⟨w.heap.size, 1, none⟩ (.string ⟨#[]⟩)).setCell ⟨w.heap.size, 2, none⟩ (.string (strB a1))).setCell ⟨w.heap.size, 3, none⟩ (.pointer none)).setCell ⟨w.heap.size, 4, none⟩ (.pointer none)).setCell ⟨w.heap.size, 5, none⟩ (.pointer none)).setCell ⟨w.heap.size, 6, none⟩ (.slice A1 m1 c1)).setCell ⟨w.heap.size, 7, none⟩ (.slice none 0 0)).setCell ⟨w.heap.size, 8, none⟩ (.slice none 0 0)).setCell ⟨w.heap.size, 9, none⟩ (.int .i64 0)).cell? ⟨w.heap.size, 9, none⟩ = some (.int .i64 0) := cell_at rr10 9
      replace kk9 := hide kk9
      simp at dd0 dd1 dd2 dd3 dd4 dd5 dd6 dd7 dd8 dd9
      clear rr0 rr1 rr2 rr3 rr4 rr5 rr6 rr7 rr8 rr9 rr10
      go_wp2_with fail
      refine bodyPost_ret (v := .agg #[.int .i64 8, .string ⟨#[]⟩, .string (strB a1), .pointer none, .pointer none, .pointer none, .slice A1 m1 c1, .slice none 0 0, .slice none 0 0, .int .i64 0]) (by simp [results, Tryz.results119, go_sem, kk0.out, kk1.out, kk2.out, kk3.out, kk4.out, kk5.out, kk6.out, kk7.out, kk8.out, kk9.out]) rfl ?_
      obtain ⟨q1, q2, q3⟩ := fin_got (S := (fun b => w.heap.size < b ∧ b ≠ wq1.heap.size)) (((((((((((Upd.refl (At w.heap.size) (wq2.setCell ⟨wq1.heap.size, 6, none⟩ (.slice A1 m1 c1))).setOn 0 (.int .i64 8)).setOn 1 (.string ⟨#[]⟩)).setOn 2 (.string (strB a1))).setOn 3 (.pointer none)).setOn 4 (.pointer none)).setOn 5 (.pointer none)).setOn 6 (.slice A1 m1 c1)).setOn 7 (.slice none 0 0)).setOn 8 (.slice none 0 0)).setOn 9 (.int .i64 0)) ((Upd.alloc (At p) w _).then hu.out) hlt htk.out hs.out (fun b hb => hb.1) (sm_flat (k := 8) (x := x) (y := a1) (e := none) (f := none) (c := none) (args := a2) (a := a) rfl rfl rfl hva.out)
      exact Got.ok q1 hX.out.symm ⟨⟨8, strB a1, _, _, _, _, _, _, _, _, _, _, _, _, rfl, q3⟩, q2⟩

def CallAloneOK (f : Nat) : Prop := ∀ (p : Nat) (C : Cx) (d n : Nat) (a : Nat) (r : List Tok) (w : World), PsW w p C d n r → callAloneP f d a r ≠ .no →
  Calls Tryz.prog 109 #[.pointer (some ⟨p, 0, none⟩)] w fun e w' => Got p C w (SmR p C d n w.heap.size a) (callAloneP f d a r) e w'

set_option maxRecDepth 100000 in
set_option maxHeartbeats 3200000 in
theorem callAlone_ok (f : Nat) (hf : f ≤ 1000000) : CallAloneOK f := by
  intro p C d n a r w h hno
  generalize hX : callAloneP f d a r = X at hno ⊢
  unfold callAloneP at hX
  have hlt := h.lt
  have htk := hide h.tokLt
  have hrp : w.heap.size ≠ p := by omega
  have hu := hide (Upd.refl (At p) (w.alloc (.cells #[.int .i64 0, .string ⟨#[]⟩, .string ⟨#[]⟩, .pointer none, .pointer none, .pointer none, .slice none 0 0, .slice none 0 0, .slice none 0 0, .int .i64 0] 58)))
  have hs := hide (h.alloc (.cells #[.int .i64 0, .string ⟨#[]⟩, .string ⟨#[]⟩, .pointer none, .pointer none, .pointer none, .slice none 0 0, .slice none 0 0, .slice none 0 0, .int .i64 0] 58))
  replace hX := hide hX
  replace hno := hide hno
  have hrs := hide (heap_new w (.cells #[.int .i64 0, .string ⟨#[]⟩, .string ⟨#[]⟩, .pointer none, .pointer none, .pointer none, .slice none 0 0, .slice none 0 0, .slice none 0 0, .int .i64 0] 58))
  have hw0 : w.heap.size < (w.alloc (.cells #[.int .i64 0, .string ⟨#[]⟩, .string ⟨#[]⟩, .pointer none, .pointer none, .pointer none, .slice none 0 0, .slice none 0 0, .slice none 0 0, .int .i64 0] 58)).heap.size := by simp
  clear h
  go_enter Tryz.func109, Tryz.ntmps109
  go_wp2_with fail
  have hG := call_ok f hf p C d n [] a r _ hs.out
  cases hr : callP f d [] a r with
  | no =>
    have hX2 := hX.out
    rw [hr] at hX2
    try simp only [bind_no] at hX2
    exact absurd hX2.symm hno.out
  | er r9 k9 =>
    rw [hr] at hG
    have hX2 := hX.out
    rw [hr] at hX2
    try simp only [bind_er] at hX2
    replace hX := hide hX2
    refine (hG (fun e => by cases e)).mono ?_
    rintro e wq1 ⟨hU, rfl⟩
    replace hu := hide (hu.out.then hU)
    clear hr hG hU hX2
    go_wp2_with fail
    refine ⟨rfl, ?_⟩
    exact Got.er ((Upd.alloc (At p) w _).then hu.out) hX.out.symm
  | ok a1 r1 =>
    rw [hr] at hG
    have hX2 := hX.out
    rw [hr] at hX2
    try simp only [bind_ok] at hX2
    replace hX := hide hX2
    refine (hG (fun e => by cases e)).mono ?_
    rintro e wq1 ⟨hU, v1, rfl, ⟨k1, y1, pe, pf, pc, sa1, sn1, sc1, sa2, sn2, sc2, sa3, sn3, sc3, rfl, hv⟩, h1⟩
    have hsz := hu.out.size
    replace hrs := hide ((hU).heap hrs.out hrp)
    have hva := hide (SmV.mono (S' := (w.heap.size < ·)) (fun b _ hb => Nat.lt_of_lt_of_le (Nat.lt_of_lt_of_le hw0 hsz) hb) _ _ hv)
    clear hv
    replace hs := hide h1
    replace hu := hide (hu.out.then hU)
    clear hr hG hU h1 hX2 hsz
    have hbx := hide (heap_new wq1 (.cells #[.int .i64 k1, .string ⟨#[]⟩, .string y1, .pointer pe, .pointer pf, .pointer pc, .slice sa1 sn1 sc1, .slice sa2 sn2 sc2, .slice sa3 sn3 sc3, .int .i64 0] 58))
    have hgw : w.heap.size < wq1.heap.size := Nat.lt_of_lt_of_le hw0 hu.out.size
    have hgp : wq1.heap.size ≠ p := by omega
    replace hva := hide (SmV.mono (S' := (fun b => w.heap.size < b ∧ b ≠ wq1.heap.size)) (fun b hb h => ⟨h, Nat.ne_of_lt hb⟩) _ _ hva.out)
    replace hva := hide (SmV.upd (Upd.alloc (fun _ => False) _ (.cells #[.int .i64 k1, .string ⟨#[]⟩, .string y1, .pointer pe, .pointer pf, .pointer pc, .slice sa1 sn1 sc1, .slice sa2 sn2 sc2, .slice sa3 sn3 sc3, .int .i64 0] 58)) (fun _ _ => id) _ _ hva.out)
    replace hs := hide (hs.out.alloc (.cells #[.int .i64 k1, .string ⟨#[]⟩, .string y1, .pointer pe, .pointer pf, .pointer pc, .slice sa1 sn1 sc1, .slice sa2 sn2 sc2, .slice sa3 sn3 sc3, .int .i64 0] 58))
    replace hrs := hide (heap_old hrs.out (.cells #[.int .i64 k1, .string ⟨#[]⟩, .string y1, .pointer pe, .pointer pf, .pointer pc, .slice sa1 sn1 sc1, .slice sa2 sn2 sc2, .slice sa3 sn3 sc3, .int .i64 0] 58))
    replace hu := hide (hu.out.then (Upd.alloc (At p) _ (.cells #[.int .i64 k1, .string ⟨#[]⟩, .string y1, .pointer pe, .pointer pf, .pointer pc, .slice sa1 sn1 sc1, .slice sa2 sn2 sc2, .slice sa3 sn3 sc3, .int .i64 0] 58)))
    go_wp2_with fail
    have hG := expect_any [59] (by decide) p C d n r1 _ hs.out
    cases hr : want [59] r1 with
    | no =>
      have hX2 := hX.out
      rw [hr] at hX2
      try simp only [bind_no] at hX2
      exact absurd hX2.symm hno.out
    | er r9 k9 =>
      rw [hr] at hG
      have hX2 := hX.out
      rw [hr] at hX2
      try simp only [bind_er] at hX2
      replace hX := hide hX2
      refine (hG).mono ?_
      rintro e wq2 ⟨hU, rfl⟩
      replace hu := hide (hu.out.then hU)
      clear hr hG hU hX2
      go_wp2_with fail
      refine ⟨rfl, ?_⟩
      exact Got.er ((Upd.alloc (At p) w _).then hu.out) hX.out.symm
    | ok a2 r2 =>
      rw [hr] at hG
      have hX2 := hX.out
      rw [hr] at hX2
      try simp only [bind_ok] at hX2
      replace hX := hide hX2
      refine (hG).mono ?_
      rintro e wq2 ⟨hU, v2, rfl, rfl, h1⟩
      have hsz := hu.out.size
      have hold := (Array.getElem?_eq_some_iff.1 hbx.out).1
      replace hva := hide (SmV.upd (hU) (fun b hb => above_not hlt b (Nat.le_of_lt hb.1)) _ _ hva.out)
      replace hrs := hide ((hU).heap hrs.out hrp)
      replace hbx := hide ((hU).heap hbx.out hgp)
      replace hs := hide h1
      replace hu := hide (hu.out.then hU)
      clear hr hG hU h1 hX2 hsz hold
      have cc0 := cell_at hbx.out 0
      have cc1 := cell_at hbx.out 1
      have cc2 := cell_at hbx.out 2
      have cc3 := cell_at hbx.out 3
      have cc4 := cell_at hbx.out 4
      have cc5 := cell_at hbx.out 5
      have cc6 := cell_at hbx.out 6
      have cc7 := cell_at hbx.out 7
      have cc8 := cell_at hbx.out 8
      have cc9 := cell_at hbx.out 9
      simp at cc0 cc1 cc2 cc3 cc4 cc5 cc6 cc7 cc8 cc9
      have rr0 := hrs.out
      have dd0 := cell_at rr0 0
      have ff0 := frozen_at rr0 0
      have rr1 : (wq2.setCell ⟨w.heap.size, 0, none⟩ (.int .i64 k1)).heap[w.heap.size]? = some (.cells #[.int .i64 k1, .string ⟨#[]⟩, .string ⟨#[]⟩, .pointer none, .pointer none, .pointer none, .slice none 0 0, .slice none 0 0, .slice none 0 0, .int .i64 0] 58 (0, 0)) := heap_set rr0 0 _
      have kk0 : (wq2.setCell ⟨w.heap.size, 0, none⟩ (.int .i64 k1)).cell? ⟨w.heap.size, 0, none⟩ = some (.int .i64 k1) := cell_at rr1 0
      replace kk0 := hide kk0
      have dd1 := cell_at rr1 1
      have ff1 := frozen_at rr1 1
      have rr2 : ((wq2.setCell ⟨w.heap.size, 0, none⟩ (.int .i64 k1)).setCell ⟨w.heap.size, 1, none⟩ (.string ⟨#[]⟩)).heap[w.heap.size]? = some (.cells #[.int .i64 k1, .string ⟨#[]⟩, .string ⟨#[]⟩, .pointer none, .pointer none, .pointer none, .slice none 0 0, .slice none 0 0, .slice none 0 0, .int .i64 0] 58 (0, 0)) := heap_set rr1 1 _
      have kk1 : ((wq2.setCell ⟨w.heap.size, 0, none⟩ (.int .i64 k1)).setCell ⟨w.heap.size, 1, none⟩ (.string ⟨#[]⟩)).cell? ⟨w.heap.size, 1, none⟩ = some (.string ⟨#[]⟩) := cell_at rr2 1
      replace kk1 := hide kk1
      have dd2 := cell_at rr2 2
      have ff2 := frozen_at rr2 2
      have rr3 : (((wq2.setCell ⟨w.heap.size, 0, none⟩ (.int .i64 k1)).setCell ⟨w.heap.size, 1, none⟩ (.string ⟨#[]⟩)).setCell ⟨w.heap.size, 2, none⟩ (.string y1)).heap[w.heap.size]? = some (.cells #[.int .i64 k1, .string ⟨#[]⟩, .string y1, .pointer none, .pointer none, .pointer none, .slice none 0 0, .slice none 0 0, .slice none 0 0, .int .i64 0] 58 (0, 0)) := heap_set rr2 2 _
      have kk2 : (((wq2.setCell ⟨w.heap.size, 0, none⟩ (.int .i64 k1)).setCell ⟨w.heap.size, 1, none⟩ (.string ⟨#[]⟩)).setCell ⟨w.heap.size, 2, none⟩ (.string y1)).cell? ⟨w.heap.size, 2, none⟩ = some (.string y1) := cell_at rr3 2
      replace kk2 := hide kk2
      have dd3 := cell_at rr3 3
      have ff3 := frozen_at rr3 3
      have rr4 : ((((wq2.setCell ⟨w.heap.size, 0, none⟩ (.int .i64 k1)).setCell ⟨w.heap.size, 1, none⟩ (.string ⟨#[]⟩)).setCell ⟨w.heap.size, 2, none⟩ (.string y1)).setCell ⟨w.heap.size, 3, none⟩ (.pointer pe)).heap[w.heap.size]? = some (.cells #[.int .i64 k1, .string ⟨#[]⟩, .string y1, .pointer pe, .pointer none, .pointer none, .slice none 0 0, .slice none 0 0, .slice none 0 0, .int .i64 0] 58 (0, 0)) := heap_set rr3 3 _
      have kk3 : ((((wq2.setCell ⟨w.heap.size, 0, none⟩ (.int .i64 k1)).setCell ⟨w.heap.size, 1, none⟩ (.string ⟨#[]⟩)).setCell ⟨w.heap.size, 2, none⟩ (.string y1)).setCell ⟨w.heap.size, 3, none⟩ (.pointer pe)).cell? ⟨w.heap.size, 3, none⟩ = some (.pointer pe) := cell_at rr4 3
      replace kk3 := hide kk3
      have dd4 := cell_at rr4 4
      have ff4 := frozen_at rr4 4
      have rr5 : (((((wq2.setCell ⟨w.heap.size, 0, none⟩ (.int .i64 k1)).setCell ⟨w.heap.size, 1, none⟩ (.string ⟨#[]⟩)).setCell ⟨w.heap.size, 2, none⟩ (.string y1)).setCell ⟨w.heap.size, 3, none⟩ (.pointer pe)).setCell ⟨w.heap.size, 4, none⟩ (.pointer pf)).heap[w.heap.size]? = some (.cells #[.int .i64 k1, .string ⟨#[]⟩, .string y1, .pointer pe, .pointer pf, .pointer none, .slice none 0 0, .slice none 0 0, .slice none 0 0, .int .i64 0] 58 (0, 0)) := heap_set rr4 4 _
      have kk4 : (((((wq2.setCell ⟨w.heap.size, 0, none⟩ (.int .i64 k1)).setCell ⟨w.heap.size, 1, none⟩ (.string ⟨#[]⟩)).setCell ⟨w.heap.size, 2, none⟩ (.string y1)).setCell ⟨w.heap.size, 3, none⟩ (.pointer pe)).setCell ⟨w.heap.size, 4, none⟩ (.pointer pf)).cell? ⟨w.heap.size, 4, none⟩ = some (.pointer pf) := cell_at rr5 4
      replace kk4 := hide kk4
      have dd5 := cell_at rr5 5
      have ff5 := frozen_at rr5 5
      have rr6 : ((((((wq2.setCell ⟨w.heap.size, 0, none⟩ (.int .i64 k1)).setCell ⟨w.heap.size, 1, none⟩ (.string ⟨#[]⟩)).setCell ⟨w.heap.size, 2, none⟩ (.string y1)).setCell ⟨w.heap.size, 3, none⟩ (.pointer pe)).setCell ⟨w.heap.size, 4, none⟩ (.pointer pf)).setCell ⟨w.heap.size, 5, none⟩ (.pointer pc)).heap[w.heap.size]? = some (.cells #[.int .i64 k1, .string ⟨#[]⟩, .string y1, .pointer pe, .pointer pf, .pointer pc, .slice none 0 0, .slice none 0 0, .slice none 0 0, .int .i64 0] 58 (0, 0)) := heap_set rr5 5 _
      have kk5 : ((((((wq2.setCell ⟨w.heap.size, 0, none⟩ (.int .i64 k1)).setCell ⟨w.heap.size, 1, none⟩ (.string ⟨#[]⟩)).setCell ⟨w.heap.size, 2, none⟩ (.string y1)).setCell ⟨w.heap.size, 3, none⟩ (.pointer pe)).setCell ⟨w.heap.size, 4, none⟩ (.pointer pf)).setCell ⟨w.heap.size, 5, none⟩ (.pointer pc)).cell? ⟨w.heap.size, 5, none⟩ = some (.pointer pc) := cell_at rr6 5
      replace kk5 := hide kk5
      have dd6 := cell_at rr6 6
      have ff6 := frozen_at rr6 6
      have rr7 : (((((((wq2.setCell ⟨w.heap.size, 0, none⟩ (.int .i64 k1)).setCell ⟨w.heap.size, 1, none⟩ (.string ⟨#[]⟩)).setCell ⟨w.heap.size, 2, none⟩ (.string y1)).setCell ⟨w.heap.size, 3, none⟩ (.pointer pe)).setCell ⟨w.heap.size, 4, none⟩ (.pointer pf)).setCell ⟨w.heap.size, 5, none⟩ (.pointer pc)).setCell ⟨w.heap.size, 6, none⟩ (.slice sa1 sn1 sc1)).heap[w.heap.size]? = some (.cells #[.int .i64 k1, .string ⟨#[]⟩, .string y1, .pointer pe, .pointer pf, .pointer pc, .slice sa1 sn1 sc1, .slice none 0 0, .slice none 0 0, .int .i64 0] 58 (0, 0)) := heap_set rr6 6 _
      have kk6 : (((((((wq2.setCell ⟨w.heap.size, 0, none⟩ (.int .i64 k1)).setCell ⟨w.heap.size, 1, none⟩ (.string ⟨#[]⟩)).setCell ⟨w.heap.size, 2, none⟩ (.string y1)).setCell ⟨w.heap.size, 3, none⟩ (.pointer pe)).setCell ⟨w.heap.size, 4, none⟩ (.pointer pf)).setCell ⟨w.heap.size, 5, none⟩ (.pointer pc)).setCell ⟨w.heap.size, 6, none⟩ (.slice sa1 sn1 sc1)).cell? ⟨w.heap.size, 6, none⟩ = some (.slice sa1 sn1 sc1) := cell_at rr7 6
      replace kk6 := hide kk6
      have dd7 := cell_at rr7 7
      have ff7 := frozen_at rr7 7
      have rr8 : ((((((((wq2.setCell ⟨w.heap.size, 0, none⟩ (.int .i64 k1)).setCell ⟨w.heap.size, 1, none⟩ (.string ⟨#[]⟩)).setCell ⟨w.heap.size, 2, none⟩ (.string y1)).setCell ⟨w.heap.size, 3, none⟩ (.pointer pe)).setCell ⟨w.heap.size, 4, none⟩ (.pointer pf)).setCell ⟨w.heap.size, 5, none⟩ (.pointer pc)).setCell ⟨w.heap.size, 6, none⟩ (.slice sa1 sn1 sc1)).setCell ⟨w.heap.size, 7, none⟩ (.slice sa2 sn2 sc2)).heap[w.heap.size]? = some (.cells #[.int .i64 k1, .string ⟨#[]⟩, .string y1, .pointer pe, .pointer pf, .pointer pc, .slice sa1 sn1 sc1, .slice sa2 sn2 sc2, .slice none 0 0, .int .i64 0] 58 (0, 0)) := heap_set rr7 7 _
      have kk7 : ((((((((wq2.setCell ⟨w.heap.size, 0, none⟩ (.int .i64 k1)).setCell ⟨w.heap.size, 1, none⟩ (.string ⟨#[]⟩)).setCell ⟨w.heap.size, 2, none⟩ (.string y1)).setCell ⟨w.heap.size, 3, none⟩ (.pointer pe)).setCell ⟨w.heap.size, 4, none⟩ (.pointer pf)).setCell ⟨w.heap.size, 5, none⟩ (.pointer pc)).setCell ⟨w.heap.size, 6, none⟩ (.slice sa1 sn1 sc1)).setCell ⟨w.heap.size, 7, none⟩ (.slice sa2 sn2 sc2)).cell? ⟨w.heap.size, 7, none⟩ = some (.slice sa2 sn2 sc2) := cell_at rr8 7
      replace kk7 := hide kk7
      have dd8 := cell_at rr8 8
      have ff8 := frozen_at rr8 8
      have rr9 : (((((((((wq2.setCell ⟨w.heap.size, 0, none⟩ (.int .i64 k1)).setCell ⟨w.heap.size, 1, none⟩ (.string ⟨#[]⟩)).setCell ⟨w.heap.size, 2, none⟩ (.string y1)).setCell ⟨w.heap.size, 3, none⟩ (.pointer pe)).setCell ⟨w.heap.size, 4, none⟩ (.pointer pf)).setCell ⟨w.heap.size, 5, none⟩ (.pointer pc)).setCell ⟨w.heap.size, 6, none⟩ (.slice sa1 sn1 sc1)).setCell ⟨w.heap.size, 7, none⟩ (.slice sa2 sn2 sc2)).setCell ⟨w.heap.size, 8, none⟩ (.slice sa3 sn3 sc3)).heap[w.heap.size]? = some (.cells #[.int .i64 k1, .string ⟨#[]⟩, .string y1, .pointer pe, .pointer pf, .pointer pc, .slice sa1 sn1 sc1, .slice sa2 sn2 sc2, .slice sa3 sn3 sc3, .int .i64 0] 58 (0, 0)) := heap_set rr8 8 _
      have kk8 : (((((((((wq2.setCell ⟨w.heap.size, 0, none⟩ (.int .i64 k1)).setCell ⟨w.heap.size, 1, none⟩ (.string ⟨#[]⟩)).setCell ⟨w.heap.size, 2, none⟩ (.string y1)).setCell ⟨w.heap.size, 3, none⟩ (.pointer pe)).setCell ⟨w.heap.size, 4, none⟩ (.pointer pf)).setCell ⟨w.heap.size, 5, none⟩ (.pointer pc)).setCell ⟨w.heap.size, 6, none⟩ (.slice sa1 sn1 sc1)).setCell ⟨w.heap.size, 7, none⟩ (.slice sa2 sn2 sc2)).setCell ⟨w.heap.size, 8, none⟩ (.slice sa3 sn3 sc3)).cell? ⟨w.heap.size, 8, none⟩ = some (.slice sa3 sn3 sc3) := cell_at rr9 8
      replace kk8 := hide kk8
      have dd9 := cell_at rr9 9
      have ff9 := frozen_at rr9 9
      have rr10 : ((((((((((wq2.setCell ⟨w.heap.size, 0, none⟩ (.int .i64 k1)).setCell ⟨w.heap.size, 1, none⟩ (.string ⟨#[]⟩)).setCell ⟨w.heap.size, 2, none⟩ (.string y1)).setCell ⟨w.heap.size, 3, none⟩ (.pointer pe)).setCell ⟨w.heap.size, 4, none⟩ (.pointer pf)).setCell ⟨w.heap.size, 5, none⟩ (.pointer pc)).setCell ⟨w.heap.size, 6, none⟩ (.slice sa1 sn1 sc1)).setCell ⟨w.heap.size, 7, none⟩ (.slice sa2 sn2 sc2)).setCell ⟨w.heap.size, 8, none⟩ (.slice sa3 sn3 sc3)).setCell ⟨w.heap.size, 9, none⟩ (.int .i64 0)).heap[w.heap.size]? = some (.cells #[.int .i64 k1, .string ⟨#[]⟩, .string y1, .pointer pe, .pointer pf, .pointer pc, .slice sa1 sn1 sc1, .slice sa2 sn2 sc2, .slice sa3 sn3 sc3, .int .i64 0] 58 (0, 0)) := heap_set rr9 9 _
      have kk9 : ((((((((((wq2.setCell ⟨w.heap.size, 0, none⟩ (.int .i64 k1)).setCell ⟨w.heap.size, 1, none⟩ (.string ⟨#[]⟩)).setCell ⟨w.heap.size, 2, none⟩ (.string y1)).setCell ⟨w.heap.size, 3, none⟩ (.pointer pe)).setCell ⟨w.heap.size, 4, none⟩ (.pointer pf)).setCell ⟨w.heap.size, 5, none⟩ (.pointer pc)).setCell ⟨w.heap.size, 6, none⟩ (.slice sa1 sn1 sc1)).setCell ⟨w.heap.size, 7, none⟩ (.slice sa2 sn2 sc2)).setCell ⟨w.heap.size, 8, none⟩ (.slice sa3 sn3 sc3)).setCell ⟨w.heap.size, 9, none⟩ (.int .i64 0)).cell? ⟨w.heap.size, 9, none⟩ = some (.int .i64 0) := cell_at rr10 9
      replace kk9 := hide kk9
      simp at dd0 dd1 dd2 dd3 dd4 dd5 dd6 dd7 dd8 dd9
      clear rr0 rr1 rr2 rr3 rr4 rr5 rr6 rr7 rr8 rr9 rr10
      go_wp2_with fail
      refine bodyPost_ret (v := .agg #[.int .i64 k1, .string ⟨#[]⟩, .string y1, .pointer pe, .pointer pf, .pointer pc, .slice sa1 sn1 sc1, .slice sa2 sn2 sc2, .slice sa3 sn3 sc3, .int .i64 0]) (by simp [results, Tryz.results109, go_sem, kk0.out, kk1.out, kk2.out, kk3.out, kk4.out, kk5.out, kk6.out, kk7.out, kk8.out, kk9.out]) rfl ?_
      obtain ⟨q1, q2, q3⟩ := fin_got (S := (fun b => w.heap.size < b ∧ b ≠ wq1.heap.size)) (((((((((((Upd.refl (At w.heap.size) wq2).setOn 0 (.int .i64 k1)).setOn 1 (.string ⟨#[]⟩)).setOn 2 (.string y1)).setOn 3 (.pointer pe)).setOn 4 (.pointer pf)).setOn 5 (.pointer pc)).setOn 6 (.slice sa1 sn1 sc1)).setOn 7 (.slice sa2 sn2 sc2)).setOn 8 (.slice sa3 sn3 sc3)).setOn 9 (.int .i64 0)) ((Upd.alloc (At p) w _).then hu.out) hlt htk.out hs.out (fun b hb => hb.1) (hva.out)
      exact Got.ok q1 hX.out.symm ⟨⟨k1, ⟨#[]⟩, y1, _, _, _, _, _, _, _, _, _, _, _, _, rfl, q3⟩, q2⟩
end Go.Proofs.YteplkhgaoaphhaaGreatDoor
