/- Part 12 of the walks (merged): PsK3. -/
import Derived.Test.YteplkhgaoaphhaaGreatDoorM11
/- Walks of the parser's methods for statements. Written by mkstmt.py. -/
namespace Go.Proofs.YteplkhgaoaphhaaGreatDoor
open Go Go.RowKit Go.Lib

def ValueOK (f : Nat) : Prop := ∀ (p : Nat) (C : Cx) (d n : Nat) (x : List UInt8) (a : Nat) (r : List Tok) (w : World), PsW w p C d n r → valueP f d x a r ≠ .no →
  Calls Tryz.prog 120 #[.pointer (some ⟨p, 0, none⟩)] w fun e w' => Got p C w (SmX p C d n w.heap.size x a) (valueP f d x a r) e w'

set_option maxRecDepth 100000 in
set_option maxHeartbeats 3200000 in
theorem value_ok (f : Nat) (hf : f ≤ 1000000) : ValueOK f := by
  intro p C d n x a r w h hno
  generalize hX : valueP f d x a r = X at hno ⊢
  unfold valueP at hX
  have hlt := h.lt
  have htk := hide h.tokLt
  have hrp : w.heap.size ≠ p := by omega
  have hu := hide (Upd.refl (At p) (w.alloc (.cells #[.int .i64 0, .string ⟨#[]⟩, .string ⟨#[]⟩, .pointer none, .pointer none, .pointer none, .slice none 0 0, .slice none 0 0, .slice none 0 0, .int .i64 0] 58)))
  have hs := hide (h.alloc (.cells #[.int .i64 0, .string ⟨#[]⟩, .string ⟨#[]⟩, .pointer none, .pointer none, .pointer none, .slice none 0 0, .slice none 0 0, .slice none 0 0, .int .i64 0] 58))
  replace hX := hide hX
  replace hno := hide hno
  have hrs := hide (heap_new w (.cells #[.int .i64 0, .string ⟨#[]⟩, .string ⟨#[]⟩, .pointer none, .pointer none, .pointer none, .slice none 0 0, .slice none 0 0, .slice none 0 0, .int .i64 0] 58))
  have hw0 : w.heap.size < (w.alloc (.cells #[.int .i64 0, .string ⟨#[]⟩, .string ⟨#[]⟩, .pointer none, .pointer none, .pointer none, .slice none 0 0, .slice none 0 0, .slice none 0 0, .int .i64 0] 58)).heap.size := by simp
  clear h
  go_enter Tryz.func120, Tryz.ntmps120
  go_wp2_with fail
  by_cases hx0 : nx r [110, 117, 108, 108] = true
  · have hne := hide (nx_ne hx0 (by decide))
    have hX2 := hX.out
    rw [if_pos hx0] at hX2
    replace hX := hide hX2
    clear hX2
    refine (accept_yes [110, 117, 108, 108] (by decide) p C d n r _ hs.out hx0).mono ?_
    rintro e wq1 ⟨rfl, hU, h1⟩
    replace hx0 := hide hx0
    replace hrs := hide ((hU).heap hrs.out hrp)
    replace hs := hide h1
    replace hu := hide (hu.out.then hU)
    clear hU h1
    have rr0 := hrs.out
    have dd0 := cell_at rr0 0
    have ff0 := frozen_at rr0 0
    have rr1 : (wq1.setCell ⟨w.heap.size, 0, none⟩ (.int .i64 3)).heap[w.heap.size]? = some (.cells #[.int .i64 3, .string ⟨#[]⟩, .string ⟨#[]⟩, .pointer none, .pointer none, .pointer none, .slice none 0 0, .slice none 0 0, .slice none 0 0, .int .i64 0] 58 (0, 0)) := heap_set rr0 0 _
    have kk0 : (wq1.setCell ⟨w.heap.size, 0, none⟩ (.int .i64 3)).cell? ⟨w.heap.size, 0, none⟩ = some (.int .i64 3) := cell_at rr1 0
    replace kk0 := hide kk0
    have dd1 := cell_at rr1 1
    have ff1 := frozen_at rr1 1
    have rr2 : ((wq1.setCell ⟨w.heap.size, 0, none⟩ (.int .i64 3)).setCell ⟨w.heap.size, 1, none⟩ (.string ⟨#[]⟩)).heap[w.heap.size]? = some (.cells #[.int .i64 3, .string ⟨#[]⟩, .string ⟨#[]⟩, .pointer none, .pointer none, .pointer none, .slice none 0 0, .slice none 0 0, .slice none 0 0, .int .i64 0] 58 (0, 0)) := heap_set rr1 1 _
    have kk1 : ((wq1.setCell ⟨w.heap.size, 0, none⟩ (.int .i64 3)).setCell ⟨w.heap.size, 1, none⟩ (.string ⟨#[]⟩)).cell? ⟨w.heap.size, 1, none⟩ = some (.string ⟨#[]⟩) := cell_at rr2 1
    replace kk1 := hide kk1
    have dd2 := cell_at rr2 2
    have ff2 := frozen_at rr2 2
    have rr3 : (((wq1.setCell ⟨w.heap.size, 0, none⟩ (.int .i64 3)).setCell ⟨w.heap.size, 1, none⟩ (.string ⟨#[]⟩)).setCell ⟨w.heap.size, 2, none⟩ (.string ⟨#[]⟩)).heap[w.heap.size]? = some (.cells #[.int .i64 3, .string ⟨#[]⟩, .string ⟨#[]⟩, .pointer none, .pointer none, .pointer none, .slice none 0 0, .slice none 0 0, .slice none 0 0, .int .i64 0] 58 (0, 0)) := heap_set rr2 2 _
    have kk2 : (((wq1.setCell ⟨w.heap.size, 0, none⟩ (.int .i64 3)).setCell ⟨w.heap.size, 1, none⟩ (.string ⟨#[]⟩)).setCell ⟨w.heap.size, 2, none⟩ (.string ⟨#[]⟩)).cell? ⟨w.heap.size, 2, none⟩ = some (.string ⟨#[]⟩) := cell_at rr3 2
    replace kk2 := hide kk2
    have dd3 := cell_at rr3 3
    have ff3 := frozen_at rr3 3
    have rr4 : ((((wq1.setCell ⟨w.heap.size, 0, none⟩ (.int .i64 3)).setCell ⟨w.heap.size, 1, none⟩ (.string ⟨#[]⟩)).setCell ⟨w.heap.size, 2, none⟩ (.string ⟨#[]⟩)).setCell ⟨w.heap.size, 3, none⟩ (.pointer none)).heap[w.heap.size]? = some (.cells #[.int .i64 3, .string ⟨#[]⟩, .string ⟨#[]⟩, .pointer none, .pointer none, .pointer none, .slice none 0 0, .slice none 0 0, .slice none 0 0, .int .i64 0] 58 (0, 0)) := heap_set rr3 3 _
    have kk3 : ((((wq1.setCell ⟨w.heap.size, 0, none⟩ (.int .i64 3)).setCell ⟨w.heap.size, 1, none⟩ (.string ⟨#[]⟩)).setCell ⟨w.heap.size, 2, none⟩ (.string ⟨#[]⟩)).setCell ⟨w.heap.size, 3, none⟩ (.pointer none)).cell? ⟨w.heap.size, 3, none⟩ = some (.pointer none) := cell_at rr4 3
    replace kk3 := hide kk3
    have dd4 := cell_at rr4 4
    have ff4 := frozen_at rr4 4
    have rr5 : (((((wq1.setCell ⟨w.heap.size, 0, none⟩ (.int .i64 3)).setCell ⟨w.heap.size, 1, none⟩ (.string ⟨#[]⟩)).setCell ⟨w.heap.size, 2, none⟩ (.string ⟨#[]⟩)).setCell ⟨w.heap.size, 3, none⟩ (.pointer none)).setCell ⟨w.heap.size, 4, none⟩ (.pointer none)).heap[w.heap.size]? = some (.cells #[.int .i64 3, .string ⟨#[]⟩, .string ⟨#[]⟩, .pointer none, .pointer none, .pointer none, .slice none 0 0, .slice none 0 0, .slice none 0 0, .int .i64 0] 58 (0, 0)) := heap_set rr4 4 _
    have kk4 : (((((wq1.setCell ⟨w.heap.size, 0, none⟩ (.int .i64 3)).setCell ⟨w.heap.size, 1, none⟩ (.string ⟨#[]⟩)).setCell ⟨w.heap.size, 2, none⟩ (.string ⟨#[]⟩)).setCell ⟨w.heap.size, 3, none⟩ (.pointer none)).setCell ⟨w.heap.size, 4, none⟩ (.pointer none)).cell? ⟨w.heap.size, 4, none⟩ = some (.pointer none) := cell_at rr5 4
    replace kk4 := hide kk4
    have dd5 := cell_at rr5 5
    have ff5 := frozen_at rr5 5
    have rr6 : ((((((wq1.setCell ⟨w.heap.size, 0, none⟩ (.int .i64 3)).setCell ⟨w.heap.size, 1, none⟩ (.string ⟨#[]⟩)).setCell ⟨w.heap.size, 2, none⟩ (.string ⟨#[]⟩)).setCell ⟨w.heap.size, 3, none⟩ (.pointer none)).setCell ⟨w.heap.size, 4, none⟩ (.pointer none)).setCell ⟨w.heap.size, 5, none⟩ (.pointer none)).heap[w.heap.size]? = some (.cells #[.int .i64 3, .string ⟨#[]⟩, .string ⟨#[]⟩, .pointer none, .pointer none, .pointer none, .slice none 0 0, .slice none 0 0, .slice none 0 0, .int .i64 0] 58 (0, 0)) := heap_set rr5 5 _
    have kk5 : ((((((wq1.setCell ⟨w.heap.size, 0, none⟩ (.int .i64 3)).setCell ⟨w.heap.size, 1, none⟩ (.string ⟨#[]⟩)).setCell ⟨w.heap.size, 2, none⟩ (.string ⟨#[]⟩)).setCell ⟨w.heap.size, 3, none⟩ (.pointer none)).setCell ⟨w.heap.size, 4, none⟩ (.pointer none)).setCell ⟨w.heap.size, 5, none⟩ (.pointer none)).cell? ⟨w.heap.size, 5, none⟩ = some (.pointer none) := cell_at rr6 5
    replace kk5 := hide kk5
    have dd6 := cell_at rr6 6
    have ff6 := frozen_at rr6 6
    have rr7 : (((((((wq1.setCell ⟨w.heap.size, 0, none⟩ (.int .i64 3)).setCell ⟨w.heap.size, 1, none⟩ (.string ⟨#[]⟩)).setCell ⟨w.heap.size, 2, none⟩ (.string ⟨#[]⟩)).setCell ⟨w.heap.size, 3, none⟩ (.pointer none)).setCell ⟨w.heap.size, 4, none⟩ (.pointer none)).setCell ⟨w.heap.size, 5, none⟩ (.pointer none)).setCell ⟨w.heap.size, 6, none⟩ (.slice none 0 0)).heap[w.heap.size]? = some (.cells #[.int .i64 3, .string ⟨#[]⟩, .string ⟨#[]⟩, .pointer none, .pointer none, .pointer none, .slice none 0 0, .slice none 0 0, .slice none 0 0, .int .i64 0] 58 (0, 0)) := heap_set rr6 6 _
    have kk6 : (((((((wq1.setCell ⟨w.heap.size, 0, none⟩ (.int .i64 3)).setCell ⟨w.heap.size, 1, none⟩ (.string ⟨#[]⟩)).setCell ⟨w.heap.size, 2, none⟩ (.string ⟨#[]⟩)).setCell ⟨w.heap.size, 3, none⟩ (.pointer none)).setCell ⟨w.heap.size, 4, none⟩ (.pointer none)).setCell ⟨w.heap.size, 5, none⟩ (.pointer none)).setCell ⟨w.heap.size, 6, none⟩ (.slice none 0 0)).cell? ⟨w.heap.size, 6, none⟩ = some (.slice none 0 0) := cell_at rr7 6
    replace kk6 := hide kk6
    have dd7 := cell_at rr7 7
    have ff7 := frozen_at rr7 7
    have rr8 : ((((((((wq1.setCell ⟨w.heap.size, 0, none⟩ (.int .i64 3)).setCell ⟨w.heap.size, 1, none⟩ (.string ⟨#[]⟩)).setCell ⟨w.heap.size, 2, none⟩ (.string ⟨#[]⟩)).setCell ⟨w.heap.size, 3, none⟩ (.pointer none)).setCell ⟨w.heap.size, 4, none⟩ (.pointer none)).setCell ⟨w.heap.size, 5, none⟩ (.pointer none)).setCell ⟨w.heap.size, 6, none⟩ (.slice none 0 0)).setCell ⟨w.heap.size, 7, none⟩ (.slice none 0 0)).heap[w.heap.size]? = some (.cells #[.int .i64 3, .string ⟨#[]⟩, .string ⟨#[]⟩, .pointer none, .pointer none, .pointer none, .slice none 0 0, .slice none 0 0, .slice none 0 0, .int .i64 0] 58 (0, 0)) := heap_set rr7 7 _
    have kk7 : ((((((((wq1.setCell ⟨w.heap.size, 0, none⟩ (.int .i64 3)).setCell ⟨w.heap.size, 1, none⟩ (.string ⟨#[]⟩)).setCell ⟨w.heap.size, 2, none⟩ (.string ⟨#[]⟩)).setCell ⟨w.heap.size, 3, none⟩ (.pointer none)).setCell ⟨w.heap.size, 4, none⟩ (.pointer none)).setCell ⟨w.heap.size, 5, none⟩ (.pointer none)).setCell ⟨w.heap.size, 6, none⟩ (.slice none 0 0)).setCell ⟨w.heap.size, 7, none⟩ (.slice none 0 0)).cell? ⟨w.heap.size, 7, none⟩ = some (.slice none 0 0) := cell_at rr8 7
    replace kk7 := hide kk7
    have dd8 := cell_at rr8 8
    have ff8 := frozen_at rr8 8
    have rr9 : (((((((((wq1.setCell ⟨w.heap.size, 0, none⟩ (.int .i64 3)).setCell ⟨w.heap.size, 1, none⟩ (.string ⟨#[]⟩)).setCell ⟨w.heap.size, 2, none⟩ (.string ⟨#[]⟩)).setCell ⟨w.heap.size, 3, none⟩ (.pointer none)).setCell ⟨w.heap.size, 4, none⟩ (.pointer none)).setCell ⟨w.heap.size, 5, none⟩ (.pointer none)).setCell ⟨w.heap.size, 6, none⟩ (.slice none 0 0)).setCell ⟨w.heap.size, 7, none⟩ (.slice none 0 0)).setCell ⟨w.heap.size, 8, none⟩ (.slice none 0 0)).heap[w.heap.size]? = some (.cells #[.int .i64 3, .string ⟨#[]⟩, .string ⟨#[]⟩, .pointer none, .pointer none, .pointer none, .slice none 0 0, .slice none 0 0, .slice none 0 0, .int .i64 0] 58 (0, 0)) := heap_set rr8 8 _
    have kk8 : (((((((((wq1.setCell ⟨w.heap.size, 0, none⟩ (.int .i64 3)).setCell ⟨w.heap.size, 1, none⟩ (.string ⟨#[]⟩)).setCell ⟨w.heap.size, 2, none⟩ (.string ⟨#[]⟩)).setCell ⟨w.heap.size, 3, none⟩ (.pointer none)).setCell ⟨w.heap.size, 4, none⟩ (.pointer none)).setCell ⟨w.heap.size, 5, none⟩ (.pointer none)).setCell ⟨w.heap.size, 6, none⟩ (.slice none 0 0)).setCell ⟨w.heap.size, 7, none⟩ (.slice none 0 0)).setCell ⟨w.heap.size, 8, none⟩ (.slice none 0 0)).cell? ⟨w.heap.size, 8, none⟩ = some (.slice none 0 0) := cell_at rr9 8
    replace kk8 := hide kk8
    have dd9 := cell_at rr9 9
    have ff9 := frozen_at rr9 9
    have rr10 : ((((((((((wq1.setCell ⟨w.heap.size, 0, none⟩ (.int .i64 3)).setCell ⟨w.heap.size, 1, none⟩ (.string ⟨#[]⟩)).setCell ⟨w.heap.size, 2, none⟩ (.string ⟨#[]⟩)).setCell ⟨w.heap.size, 3, none⟩ (.pointer none)).setCell ⟨w.heap.size, 4, none⟩ (.pointer none)).setCell ⟨w.heap.size, 5, none⟩ (.pointer none)).setCell ⟨w.heap.size, 6, none⟩ (.slice none 0 0)).setCell ⟨w.heap.size, 7, none⟩ (.slice none 0 0)).setCell ⟨w.heap.size, 8, none⟩ (.slice none 0 0)).setCell ⟨w.heap.size, 9, none⟩ (.int .i64 0)).heap[w.heap.size]? = some (.cells #[.int .i64 3, .string ⟨#[]⟩, .string ⟨#[]⟩, .pointer none, .pointer none, .pointer none, .slice none 0 0, .slice none 0 0, .slice none 0 0, .int .i64 0] 58 (0, 0)) := heap_set rr9 9 _
    have kk9 : ((((((((((wq1.setCell ⟨w.heap.size, 0, none⟩ (.int .i64 3)).setCell ⟨w.heap.size, 1, none⟩ (.string ⟨#[]⟩)).setCell ⟨w.heap.size, 2, none⟩ (.string ⟨#[]⟩)).setCell ⟨w.heap.size, 3, none⟩ (.pointer none)).setCell ⟨w.heap.size, 4, none⟩ (.pointer none)).setCell ⟨w.heap.size, 5, none⟩ (.pointer none)).setCell ⟨w.heap.size, 6, none⟩ (.slice none 0 0)).setCell ⟨w.heap.size, 7, none⟩ (.slice none 0 0)).setCell ⟨w.heap.size, 8, none⟩ (.slice none 0 0)).setCell ⟨w.heap.size, 9, none⟩ (.int .i64 0)).cell? ⟨w.heap.size, 9, none⟩ = some (.int .i64 0) := cell_at rr10 9
    replace kk9 := hide kk9
    simp at dd0 dd1 dd2 dd3 dd4 dd5 dd6 dd7 dd8 dd9
    clear rr0 rr1 rr2 rr3 rr4 rr5 rr6 rr7 rr8 rr9 rr10
    go_wp2_with fail
    refine bodyPost_ret (v := .agg #[.int .i64 3, .string ⟨#[]⟩, .string ⟨#[]⟩, .pointer none, .pointer none, .pointer none, .slice none 0 0, .slice none 0 0, .slice none 0 0, .int .i64 0]) (by simp [results, Tryz.results120, go_sem, kk0.out, kk1.out, kk2.out, kk3.out, kk4.out, kk5.out, kk6.out, kk7.out, kk8.out, kk9.out]) rfl ?_
    obtain ⟨q1, q2, q3⟩ := fin_got (S := (w.heap.size < ·)) (((((((((((Upd.refl (At w.heap.size) wq1).setOn 0 (.int .i64 3)).setOn 1 (.string ⟨#[]⟩)).setOn 2 (.string ⟨#[]⟩)).setOn 3 (.pointer none)).setOn 4 (.pointer none)).setOn 5 (.pointer none)).setOn 6 (.slice none 0 0)).setOn 7 (.slice none 0 0)).setOn 8 (.slice none 0 0)).setOn 9 (.int .i64 0)) ((Upd.alloc (At p) w _).then hu.out) hlt htk.out hs.out (fun b hb => hb) (sm_flat (k := 3) (x := x) (y := []) (e := none) (f := none) (c := none) (args := []) (a := a) rfl rfl rfl (list_nil _ _))
    exact Got.ok q1 hX.out.symm ⟨⟨3, ⟨#[]⟩, _, _, _, _, _, _, _, _, _, _, _, _, rfl, q3⟩, q2⟩
  · have hx0 : nx r [110, 117, 108, 108] = false := by simpa using hx0
    have hX2 := hX.out
    rw [if_neg (by rw [hx0]; exact Bool.false_ne_true)] at hX2
    replace hX := hide hX2
    clear hX2
    refine (accept_no [110, 117, 108, 108] p C d n r _ hs.out hx0).mono ?_
    rintro e wq1 ⟨rfl, hU, h1⟩
    replace hx0 := hide hx0
    replace hrs := hide ((hU).heap hrs.out hrp)
    replace hs := hide h1
    replace hu := hide (hu.out.then hU)
    clear hU h1
    go_wp2_with fail
    by_cases hx1 : nx r [38] = true
    · have hne := hide (nx_ne hx1 (by decide))
      have hX2 := hX.out
      rw [if_pos hx1] at hX2
      replace hX := hide hX2
      clear hX2
      refine (accept_yes [38] (by decide) p C d n r _ hs.out hx1).mono ?_
      rintro e wq2 ⟨rfl, hU, h1⟩
      replace hx1 := hide hx1
      replace hrs := hide ((hU).heap hrs.out hrp)
      replace hs := hide h1
      replace hu := hide (hu.out.then hU)
      clear hU h1
      go_wp2_with fail
      have hG := name_any p C d n r.tail _ hs.out
      cases hr : nameP r.tail with
      | no =>
        have hX2 := hX.out
        rw [hr] at hX2
        try simp only [bind_no] at hX2
        exact absurd hX2.symm hno.out
      | er r9 k9 =>
        rw [hr] at hG
        have hX2 := hX.out
        rw [hr] at hX2
        try simp only [bind_er] at hX2
        replace hX := hide hX2
        refine (hG).mono ?_
        rintro e wq3 ⟨hU, rfl⟩
        replace hu := hide (hu.out.then hU)
        clear hr hG hU hX2
        go_wp2_with fail
        refine ⟨rfl, ?_⟩
        exact Got.er ((Upd.alloc (At p) w _).then hu.out) hX.out.symm
      | ok a3 r3 =>
        rw [hr] at hG
        have hX2 := hX.out
        rw [hr] at hX2
        try simp only [bind_ok] at hX2
        replace hX := hide hX2
        refine (hG).mono ?_
        rintro e wq3 ⟨hU, v3, rfl, rfl, h1⟩
        have hsz := hu.out.size
        replace hrs := hide ((hU).heap hrs.out hrp)
        replace hs := hide h1
        replace hu := hide (hu.out.then hU)
        clear hr hG hU h1 hX2 hsz
        have rr0 := hrs.out
        have dd0 := cell_at rr0 0
        have ff0 := frozen_at rr0 0
        have rr1 : (wq3.setCell ⟨w.heap.size, 0, none⟩ (.int .i64 1)).heap[w.heap.size]? = some (.cells #[.int .i64 1, .string ⟨#[]⟩, .string ⟨#[]⟩, .pointer none, .pointer none, .pointer none, .slice none 0 0, .slice none 0 0, .slice none 0 0, .int .i64 0] 58 (0, 0)) := heap_set rr0 0 _
        have kk0 : (wq3.setCell ⟨w.heap.size, 0, none⟩ (.int .i64 1)).cell? ⟨w.heap.size, 0, none⟩ = some (.int .i64 1) := cell_at rr1 0
        replace kk0 := hide kk0
        have dd1 := cell_at rr1 1
        have ff1 := frozen_at rr1 1
        have rr2 : ((wq3.setCell ⟨w.heap.size, 0, none⟩ (.int .i64 1)).setCell ⟨w.heap.size, 1, none⟩ (.string ⟨#[]⟩)).heap[w.heap.size]? = some (.cells #[.int .i64 1, .string ⟨#[]⟩, .string ⟨#[]⟩, .pointer none, .pointer none, .pointer none, .slice none 0 0, .slice none 0 0, .slice none 0 0, .int .i64 0] 58 (0, 0)) := heap_set rr1 1 _
        have kk1 : ((wq3.setCell ⟨w.heap.size, 0, none⟩ (.int .i64 1)).setCell ⟨w.heap.size, 1, none⟩ (.string ⟨#[]⟩)).cell? ⟨w.heap.size, 1, none⟩ = some (.string ⟨#[]⟩) := cell_at rr2 1
        replace kk1 := hide kk1
        have dd2 := cell_at rr2 2
        have ff2 := frozen_at rr2 2
        have rr3 : (((wq3.setCell ⟨w.heap.size, 0, none⟩ (.int .i64 1)).setCell ⟨w.heap.size, 1, none⟩ (.string ⟨#[]⟩)).setCell ⟨w.heap.size, 2, none⟩ (.string (strB a3))).heap[w.heap.size]? = some (.cells #[.int .i64 1, .string ⟨#[]⟩, .string (strB a3), .pointer none, .pointer none, .pointer none, .slice none 0 0, .slice none 0 0, .slice none 0 0, .int .i64 0] 58 (0, 0)) := heap_set rr2 2 _
        have kk2 : (((wq3.setCell ⟨w.heap.size, 0, none⟩ (.int .i64 1)).setCell ⟨w.heap.size, 1, none⟩ (.string ⟨#[]⟩)).setCell ⟨w.heap.size, 2, none⟩ (.string (strB a3))).cell? ⟨w.heap.size, 2, none⟩ = some (.string (strB a3)) := cell_at rr3 2
        replace kk2 := hide kk2
        have dd3 := cell_at rr3 3
        have ff3 := frozen_at rr3 3
        have rr4 : ((((wq3.setCell ⟨w.heap.size, 0, none⟩ (.int .i64 1)).setCell ⟨w.heap.size, 1, none⟩ (.string ⟨#[]⟩)).setCell ⟨w.heap.size, 2, none⟩ (.string (strB a3))).setCell ⟨w.heap.size, 3, none⟩ (.pointer none)).heap[w.heap.size]? = some (.cells #[.int .i64 1, .string ⟨#[]⟩, .string (strB a3), .pointer none, .pointer none, .pointer none, .slice none 0 0, .slice none 0 0, .slice none 0 0, .int .i64 0] 58 (0, 0)) := heap_set rr3 3 _
        have kk3 : ((((wq3.setCell ⟨w.heap.size, 0, none⟩ (.int .i64 1)).setCell ⟨w.heap.size, 1, none⟩ (.string ⟨#[]⟩)).setCell ⟨w.heap.size, 2, none⟩ (.string (strB a3))).setCell ⟨w.heap.size, 3, none⟩ (.pointer none)).cell? ⟨w.heap.size, 3, none⟩ = some (.pointer none) := cell_at rr4 3
        replace kk3 := hide kk3
        have dd4 := cell_at rr4 4
        have ff4 := frozen_at rr4 4
        have rr5 : (((((wq3.setCell ⟨w.heap.size, 0, none⟩ (.int .i64 1)).setCell ⟨w.heap.size, 1, none⟩ (.string ⟨#[]⟩)).setCell ⟨w.heap.size, 2, none⟩ (.string (strB a3))).setCell ⟨w.heap.size, 3, none⟩ (.pointer none)).setCell ⟨w.heap.size, 4, none⟩ (.pointer none)).heap[w.heap.size]? = some (.cells #[.int .i64 1, .string ⟨#[]⟩, .string (strB a3), .pointer none, .pointer none, .pointer none, .slice none 0 0, .slice none 0 0, .slice none 0 0, .int .i64 0] 58 (0, 0)) := heap_set rr4 4 _
        have kk4 : (((((wq3.setCell ⟨w.heap.size, 0, none⟩ (.int .i64 1)).setCell ⟨w.heap.size, 1, none⟩ (.string ⟨#[]⟩)).setCell ⟨w.heap.size, 2, none⟩ (.string (strB a3))).setCell ⟨w.heap.size, 3, none⟩ (.pointer none)).setCell ⟨w.heap.size, 4, none⟩ (.pointer none)).cell? ⟨w.heap.size, 4, none⟩ = some (.pointer none) := cell_at rr5 4
        replace kk4 := hide kk4
        have dd5 := cell_at rr5 5
        have ff5 := frozen_at rr5 5
        have rr6 : ((((((wq3.setCell ⟨w.heap.size, 0, none⟩ (.int .i64 1)).setCell ⟨w.heap.size, 1, none⟩ (.string ⟨#[]⟩)).setCell ⟨w.heap.size, 2, none⟩ (.string (strB a3))).setCell ⟨w.heap.size, 3, none⟩ (.pointer none)).setCell ⟨w.heap.size, 4, none⟩ (.pointer none)).setCell ⟨w.heap.size, 5, none⟩ (.pointer none)).heap[w.heap.size]? = some (.cells #[.int .i64 1, .string ⟨#[]⟩, .string (strB a3), .pointer none, .pointer none, .pointer none, .slice none 0 0, .slice none 0 0, .slice none 0 0, .int .i64 0] 58 (0, 0)) := heap_set rr5 5 _
        have kk5 : ((((((wq3.setCell ⟨w.heap.size, 0, none⟩ (.int .i64 1)).setCell ⟨w.heap.size, 1, none⟩ (.string ⟨#[]⟩)).setCell ⟨w.heap.size, 2, none⟩ (.string (strB a3))).setCell ⟨w.heap.size, 3, none⟩ (.pointer none)).setCell ⟨w.heap.size, 4, none⟩ (.pointer none)).setCell ⟨w.heap.size, 5, none⟩ (.pointer none)).cell? ⟨w.heap.size, 5, none⟩ = some (.pointer none) := cell_at rr6 5
        replace kk5 := hide kk5
        have dd6 := cell_at rr6 6
        have ff6 := frozen_at rr6 6
        have rr7 : (((((((wq3.setCell ⟨w.heap.size, 0, none⟩ (.int .i64 1)).setCell ⟨w.heap.size, 1, none⟩ (.string ⟨#[]⟩)).setCell ⟨w.heap.size, 2, none⟩ (.string (strB a3))).setCell ⟨w.heap.size, 3, none⟩ (.pointer none)).setCell ⟨w.heap.size, 4, none⟩ (.pointer none)).setCell ⟨w.heap.size, 5, none⟩ (.pointer none)).setCell ⟨w.heap.size, 6, none⟩ (.slice none 0 0)).heap[w.heap.size]? = some (.cells #[.int .i64 1, .string ⟨#[]⟩, .string (strB a3), .pointer none, .pointer none, .pointer none, .slice none 0 0, .slice none 0 0, .slice none 0 0, .int .i64 0] 58 (0, 0)) := heap_set rr6 6 _
        have kk6 : (((((((wq3.setCell ⟨w.heap.size, 0, none⟩ (.int .i64 1)).setCell ⟨w.heap.size, 1, none⟩ (.string ⟨#[]⟩)).setCell ⟨w.heap.size, 2, none⟩ (.string (strB a3))).setCell ⟨w.heap.size, 3, none⟩ (.pointer none)).setCell ⟨w.heap.size, 4, none⟩ (.pointer none)).setCell ⟨w.heap.size, 5, none⟩ (.pointer none)).setCell ⟨w.heap.size, 6, none⟩ (.slice none 0 0)).cell? ⟨w.heap.size, 6, none⟩ = some (.slice none 0 0) := cell_at rr7 6
        replace kk6 := hide kk6
        have dd7 := cell_at rr7 7
        have ff7 := frozen_at rr7 7
        have rr8 : ((((((((wq3.setCell ⟨w.heap.size, 0, none⟩ (.int .i64 1)).setCell ⟨w.heap.size, 1, none⟩ (.string ⟨#[]⟩)).setCell ⟨w.heap.size, 2, none⟩ (.string (strB a3))).setCell ⟨w.heap.size, 3, none⟩ (.pointer none)).setCell ⟨w.heap.size, 4, none⟩ (.pointer none)).setCell ⟨w.heap.size, 5, none⟩ (.pointer none)).setCell ⟨w.heap.size, 6, none⟩ (.slice none 0 0)).setCell ⟨w.heap.size, 7, none⟩ (.slice none 0 0)).heap[w.heap.size]? = some (.cells #[.int .i64 1, .string ⟨#[]⟩, .string (strB a3), .pointer none, .pointer none, .pointer none, .slice none 0 0, .slice none 0 0, .slice none 0 0, .int .i64 0] 58 (0, 0)) := heap_set rr7 7 _
        have kk7 : ((((((((wq3.setCell ⟨w.heap.size, 0, none⟩ (.int .i64 1)).setCell ⟨w.heap.size, 1, none⟩ (.string ⟨#[]⟩)).setCell ⟨w.heap.size, 2, none⟩ (.string (strB a3))).setCell ⟨w.heap.size, 3, none⟩ (.pointer none)).setCell ⟨w.heap.size, 4, none⟩ (.pointer none)).setCell ⟨w.heap.size, 5, none⟩ (.pointer none)).setCell ⟨w.heap.size, 6, none⟩ (.slice none 0 0)).setCell ⟨w.heap.size, 7, none⟩ (.slice none 0 0)).cell? ⟨w.heap.size, 7, none⟩ = some (.slice none 0 0) := cell_at rr8 7
        replace kk7 := hide kk7
        have dd8 := cell_at rr8 8
        have ff8 := frozen_at rr8 8
        have rr9 : (((((((((wq3.setCell ⟨w.heap.size, 0, none⟩ (.int .i64 1)).setCell ⟨w.heap.size, 1, none⟩ (.string ⟨#[]⟩)).setCell ⟨w.heap.size, 2, none⟩ (.string (strB a3))).setCell ⟨w.heap.size, 3, none⟩ (.pointer none)).setCell ⟨w.heap.size, 4, none⟩ (.pointer none)).setCell ⟨w.heap.size, 5, none⟩ (.pointer none)).setCell ⟨w.heap.size, 6, none⟩ (.slice none 0 0)).setCell ⟨w.heap.size, 7, none⟩ (.slice none 0 0)).setCell ⟨w.heap.size, 8, none⟩ (.slice none 0 0)).heap[w.heap.size]? = some (.cells #[.int .i64 1, .string ⟨#[]⟩, .string (strB a3), .pointer none, .pointer none, .pointer none, .slice none 0 0, .slice none 0 0, .slice none 0 0, .int .i64 0] 58 (0, 0)) := heap_set rr8 8 _
        have kk8 : (((((((((wq3.setCell ⟨w.heap.size, 0, none⟩ (.int .i64 1)).setCell ⟨w.heap.size, 1, none⟩ (.string ⟨#[]⟩)).setCell ⟨w.heap.size, 2, none⟩ (.string (strB a3))).setCell ⟨w.heap.size, 3, none⟩ (.pointer none)).setCell ⟨w.heap.size, 4, none⟩ (.pointer none)).setCell ⟨w.heap.size, 5, none⟩ (.pointer none)).setCell ⟨w.heap.size, 6, none⟩ (.slice none 0 0)).setCell ⟨w.heap.size, 7, none⟩ (.slice none 0 0)).setCell ⟨w.heap.size, 8, none⟩ (.slice none 0 0)).cell? ⟨w.heap.size, 8, none⟩ = some (.slice none 0 0) := cell_at rr9 8
        replace kk8 := hide kk8
        have dd9 := cell_at rr9 9
        have ff9 := frozen_at rr9 9
        have rr10 : ((((((((((wq3.setCell ⟨w.heap.size, 0, none⟩ (.int .i64 1)).setCell ⟨w.heap.size, 1, none⟩ (.string ⟨#[]⟩)).setCell ⟨w.heap.size, 2, none⟩ (.string (strB a3))).setCell ⟨w.heap.size, 3, none⟩ (.pointer none)).setCell ⟨w.heap.size, 4, none⟩ (.pointer none)).setCell ⟨w.heap.size, 5, none⟩ (.pointer none)).setCell ⟨w.heap.size, 6, none⟩ (.slice none 0 0)).setCell ⟨w.heap.size, 7, none⟩ (.slice none 0 0)).setCell ⟨w.heap.size, 8, none⟩ (.slice none 0 0)).setCell ⟨w.heap.size, 9, none⟩ (.int .i64 0)).heap[w.heap.size]? = some (.cells #[.int .i64 1, .string ⟨#[]⟩, .string (strB a3), .pointer none, .pointer none, .pointer none, .slice none 0 0, .slice none 0 0, .slice none 0 0, .int .i64 0] 58 (0, 0)) := heap_set rr9 9 _
        have kk9 : ((((((((((wq3.setCell ⟨w.heap.size, 0, none⟩ (.int .i64 1)).setCell ⟨w.heap.size, 1, none⟩ (.string ⟨#[]⟩)).setCell ⟨w.heap.size, 2, none⟩ (.string (strB a3))).setCell ⟨w.heap.size, 3, none⟩ (.pointer none)).setCell ⟨w.heap.size, 4, none⟩ (.pointer none)).setCell ⟨w.heap.size, 5, none⟩ (.pointer none)).setCell ⟨w.heap.size, 6, none⟩ (.slice none 0 0)).setCell ⟨w.heap.size, 7, none⟩ (.slice none 0 0)).setCell ⟨w.heap.size, 8, none⟩ (.slice none 0 0)).setCell ⟨w.heap.size, 9, none⟩ (.int .i64 0)).cell? ⟨w.heap.size, 9, none⟩ = some (.int .i64 0) := cell_at rr10 9
        replace kk9 := hide kk9
        simp at dd0 dd1 dd2 dd3 dd4 dd5 dd6 dd7 dd8 dd9
        clear rr0 rr1 rr2 rr3 rr4 rr5 rr6 rr7 rr8 rr9 rr10
        go_wp2_with fail
        refine bodyPost_ret (v := .agg #[.int .i64 1, .string ⟨#[]⟩, .string (strB a3), .pointer none, .pointer none, .pointer none, .slice none 0 0, .slice none 0 0, .slice none 0 0, .int .i64 0]) (by simp [results, Tryz.results120, go_sem, kk0.out, kk1.out, kk2.out, kk3.out, kk4.out, kk5.out, kk6.out, kk7.out, kk8.out, kk9.out]) rfl ?_
        obtain ⟨q1, q2, q3⟩ := fin_got (S := (w.heap.size < ·)) (((((((((((Upd.refl (At w.heap.size) wq3).setOn 0 (.int .i64 1)).setOn 1 (.string ⟨#[]⟩)).setOn 2 (.string (strB a3))).setOn 3 (.pointer none)).setOn 4 (.pointer none)).setOn 5 (.pointer none)).setOn 6 (.slice none 0 0)).setOn 7 (.slice none 0 0)).setOn 8 (.slice none 0 0)).setOn 9 (.int .i64 0)) ((Upd.alloc (At p) w _).then hu.out) hlt htk.out hs.out (fun b hb => hb) (sm_flat (k := 1) (x := x) (y := a3) (e := none) (f := none) (c := none) (args := []) (a := a) rfl rfl rfl (list_nil _ _))
        exact Got.ok q1 hX.out.symm ⟨⟨1, strB a3, _, _, _, _, _, _, _, _, _, _, _, _, rfl, q3⟩, q2⟩
    · have hx1 : nx r [38] = false := by simpa using hx1
      have hX2 := hX.out
      rw [if_neg (by rw [hx1]; exact Bool.false_ne_true)] at hX2
      replace hX := hide hX2
      clear hX2
      refine (accept_no [38] p C d n r _ hs.out hx1).mono ?_
      rintro e wq2 ⟨rfl, hU, h1⟩
      replace hx1 := hide hx1
      replace hrs := hide ((hU).heap hrs.out hrp)
      replace hs := hide h1
      replace hu := hide (hu.out.then hU)
      clear hU h1
      go_wp2_with fail
      by_cases hx2 : nx r [42] = true
      · have hne := hide (nx_ne hx2 (by decide))
        have hX2 := hX.out
        rw [if_pos hx2] at hX2
        replace hX := hide hX2
        clear hX2
        refine (accept_yes [42] (by decide) p C d n r _ hs.out hx2).mono ?_
        rintro e wq3 ⟨rfl, hU, h1⟩
        replace hx2 := hide hx2
        replace hrs := hide ((hU).heap hrs.out hrp)
        replace hs := hide h1
        replace hu := hide (hu.out.then hU)
        clear hU h1
        go_wp2_with fail
        have hG := name_any p C d n r.tail _ hs.out
        cases hr : nameP r.tail with
        | no =>
          have hX2 := hX.out
          rw [hr] at hX2
          try simp only [bind_no] at hX2
          exact absurd hX2.symm hno.out
        | er r9 k9 =>
          rw [hr] at hG
          have hX2 := hX.out
          rw [hr] at hX2
          try simp only [bind_er] at hX2
          replace hX := hide hX2
          refine (hG).mono ?_
          rintro e wq4 ⟨hU, rfl⟩
          replace hu := hide (hu.out.then hU)
          clear hr hG hU hX2
          go_wp2_with fail
          refine ⟨rfl, ?_⟩
          exact Got.er ((Upd.alloc (At p) w _).then hu.out) hX.out.symm
        | ok a4 r4 =>
          rw [hr] at hG
          have hX2 := hX.out
          rw [hr] at hX2
          try simp only [bind_ok] at hX2
          replace hX := hide hX2
          refine (hG).mono ?_
          rintro e wq4 ⟨hU, v4, rfl, rfl, h1⟩
          have hsz := hu.out.size
          replace hrs := hide ((hU).heap hrs.out hrp)
          replace hs := hide h1
          replace hu := hide (hu.out.then hU)
          clear hr hG hU h1 hX2 hsz
          have rr0 := hrs.out
          have dd0 := cell_at rr0 0
          have ff0 := frozen_at rr0 0
          have rr1 : (wq4.setCell ⟨w.heap.size, 0, none⟩ (.int .i64 4)).heap[w.heap.size]? = some (.cells #[.int .i64 4, .string ⟨#[]⟩, .string ⟨#[]⟩, .pointer none, .pointer none, .pointer none, .slice none 0 0, .slice none 0 0, .slice none 0 0, .int .i64 0] 58 (0, 0)) := heap_set rr0 0 _
          have kk0 : (wq4.setCell ⟨w.heap.size, 0, none⟩ (.int .i64 4)).cell? ⟨w.heap.size, 0, none⟩ = some (.int .i64 4) := cell_at rr1 0
          replace kk0 := hide kk0
          have dd1 := cell_at rr1 1
          have ff1 := frozen_at rr1 1
          have rr2 : ((wq4.setCell ⟨w.heap.size, 0, none⟩ (.int .i64 4)).setCell ⟨w.heap.size, 1, none⟩ (.string ⟨#[]⟩)).heap[w.heap.size]? = some (.cells #[.int .i64 4, .string ⟨#[]⟩, .string ⟨#[]⟩, .pointer none, .pointer none, .pointer none, .slice none 0 0, .slice none 0 0, .slice none 0 0, .int .i64 0] 58 (0, 0)) := heap_set rr1 1 _
          have kk1 : ((wq4.setCell ⟨w.heap.size, 0, none⟩ (.int .i64 4)).setCell ⟨w.heap.size, 1, none⟩ (.string ⟨#[]⟩)).cell? ⟨w.heap.size, 1, none⟩ = some (.string ⟨#[]⟩) := cell_at rr2 1
          replace kk1 := hide kk1
          have dd2 := cell_at rr2 2
          have ff2 := frozen_at rr2 2
          have rr3 : (((wq4.setCell ⟨w.heap.size, 0, none⟩ (.int .i64 4)).setCell ⟨w.heap.size, 1, none⟩ (.string ⟨#[]⟩)).setCell ⟨w.heap.size, 2, none⟩ (.string (strB a4))).heap[w.heap.size]? = some (.cells #[.int .i64 4, .string ⟨#[]⟩, .string (strB a4), .pointer none, .pointer none, .pointer none, .slice none 0 0, .slice none 0 0, .slice none 0 0, .int .i64 0] 58 (0, 0)) := heap_set rr2 2 _
          have kk2 : (((wq4.setCell ⟨w.heap.size, 0, none⟩ (.int .i64 4)).setCell ⟨w.heap.size, 1, none⟩ (.string ⟨#[]⟩)).setCell ⟨w.heap.size, 2, none⟩ (.string (strB a4))).cell? ⟨w.heap.size, 2, none⟩ = some (.string (strB a4)) := cell_at rr3 2
          replace kk2 := hide kk2
          have dd3 := cell_at rr3 3
          have ff3 := frozen_at rr3 3
          have rr4 : ((((wq4.setCell ⟨w.heap.size, 0, none⟩ (.int .i64 4)).setCell ⟨w.heap.size, 1, none⟩ (.string ⟨#[]⟩)).setCell ⟨w.heap.size, 2, none⟩ (.string (strB a4))).setCell ⟨w.heap.size, 3, none⟩ (.pointer none)).heap[w.heap.size]? = some (.cells #[.int .i64 4, .string ⟨#[]⟩, .string (strB a4), .pointer none, .pointer none, .pointer none, .slice none 0 0, .slice none 0 0, .slice none 0 0, .int .i64 0] 58 (0, 0)) := heap_set rr3 3 _
          have kk3 : ((((wq4.setCell ⟨w.heap.size, 0, none⟩ (.int .i64 4)).setCell ⟨w.heap.size, 1, none⟩ (.string ⟨#[]⟩)).setCell ⟨w.heap.size, 2, none⟩ (.string (strB a4))).setCell ⟨w.heap.size, 3, none⟩ (.pointer none)).cell? ⟨w.heap.size, 3, none⟩ = some (.pointer none) := cell_at rr4 3
          replace kk3 := hide kk3
          have dd4 := cell_at rr4 4
          have ff4 := frozen_at rr4 4
          have rr5 : (((((wq4.setCell ⟨w.heap.size, 0, none⟩ (.int .i64 4)).setCell ⟨w.heap.size, 1, none⟩ (.string ⟨#[]⟩)).setCell ⟨w.heap.size, 2, none⟩ (.string (strB a4))).setCell ⟨w.heap.size, 3, none⟩ (.pointer none)).setCell ⟨w.heap.size, 4, none⟩ (.pointer none)).heap[w.heap.size]? = some (.cells #[.int .i64 4, .string ⟨#[]⟩, .string (strB a4), .pointer none, .pointer none, .pointer none, .slice none 0 0, .slice none 0 0, .slice none 0 0, .int .i64 0] 58 (0, 0)) := heap_set rr4 4 _
          have kk4 : (((((wq4.setCell ⟨w.heap.size, 0, none⟩ (.int .i64 4)).setCell ⟨w.heap.size, 1, none⟩ (.string ⟨#[]⟩)).setCell ⟨w.heap.size, 2, none⟩ (.string (strB a4))).setCell ⟨w.heap.size, 3, none⟩ (.pointer none)).setCell ⟨w.heap.size, 4, none⟩ (.pointer none)).cell? ⟨w.heap.size, 4, none⟩ = some (.pointer none) := cell_at rr5 4
          replace kk4 := hide kk4
          have dd5 := cell_at rr5 5
          have ff5 := frozen_at rr5 5
          have rr6 : ((((((wq4.setCell ⟨w.heap.size, 0, none⟩ (.int .i64 4)).setCell ⟨w.heap.size, 1, none⟩ (.string ⟨#[]⟩)).setCell ⟨w.heap.size, 2, none⟩ (.string (strB a4))).setCell ⟨w.heap.size, 3, none⟩ (.pointer none)).setCell ⟨w.heap.size, 4, none⟩ (.pointer none)).setCell ⟨w.heap.size, 5, none⟩ (.pointer none)).heap[w.heap.size]? = some (.cells #[.int .i64 4, .string ⟨#[]⟩, .string (strB a4), .pointer none, .pointer none, .pointer none, .slice none 0 0, .slice none 0 0, .slice none 0 0, .int .i64 0] 58 (0, 0)) := heap_set rr5 5 _
          have kk5 : ((((((wq4.setCell ⟨w.heap.size, 0, none⟩ (.int .i64 4)).setCell ⟨w.heap.size, 1, none⟩ (.string ⟨#[]⟩)).setCell ⟨w.heap.size, 2, none⟩ (.string (strB a4))).setCell ⟨w.heap.size, 3, none⟩ (.pointer none)).setCell ⟨w.heap.size, 4, none⟩ (.pointer none)).setCell ⟨w.heap.size, 5, none⟩ (.pointer none)).cell? ⟨w.heap.size, 5, none⟩ = some (.pointer none) := cell_at rr6 5
          replace kk5 := hide kk5
          have dd6 := cell_at rr6 6
          have ff6 := frozen_at rr6 6
          have rr7 : (((((((wq4.setCell ⟨w.heap.size, 0, none⟩ (.int .i64 4)).setCell ⟨w.heap.size, 1, none⟩ (.string ⟨#[]⟩)).setCell ⟨w.heap.size, 2, none⟩ (.string (strB a4))).setCell ⟨w.heap.size, 3, none⟩ (.pointer none)).setCell ⟨w.heap.size, 4, none⟩ (.pointer none)).setCell ⟨w.heap.size, 5, none⟩ (.pointer none)).setCell ⟨w.heap.size, 6, none⟩ (.slice none 0 0)).heap[w.heap.size]? = some (.cells #[.int .i64 4, .string ⟨#[]⟩, .string (strB a4), .pointer none, .pointer none, .pointer none, .slice none 0 0, .slice none 0 0, .slice none 0 0, .int .i64 0] 58 (0, 0)) := heap_set rr6 6 _
          have kk6 : (((((((wq4.setCell ⟨w.heap.size, 0, none⟩ (.int .i64 4)).setCell ⟨w.heap.size, 1, none⟩ (.string ⟨#[]⟩)).setCell ⟨w.heap.size, 2, none⟩ (.string (strB a4))).setCell ⟨w.heap.size, 3, none⟩ (.pointer none)).setCell ⟨w.heap.size, 4, none⟩ (.pointer none)).setCell ⟨w.heap.size, 5, none⟩ (.pointer none)).setCell ⟨w.heap.size, 6, none⟩ (.slice none 0 0)).cell? ⟨w.heap.size, 6, none⟩ = some (.slice none 0 0) := cell_at rr7 6
          replace kk6 := hide kk6
          have dd7 := cell_at rr7 7
          have ff7 := frozen_at rr7 7
          have rr8 : ((((((((wq4.setCell ⟨w.heap.size, 0, none⟩ (.int .i64 4)).setCell ⟨w.heap.size, 1, none⟩ (.string ⟨#[]⟩)).setCell ⟨w.heap.size, 2, none⟩ (.string (strB a4))).setCell ⟨w.heap.size, 3, none⟩ (.pointer none)).setCell ⟨w.heap.size, 4, none⟩ (.pointer none)).setCell ⟨w.heap.size, 5, none⟩ (.pointer none)).setCell ⟨w.heap.size, 6, none⟩ (.slice none 0 0)).setCell ⟨w.heap.size, 7, none⟩ (.slice none 0 0)).heap[w.heap.size]? = some (.cells #[.int .i64 4, .string ⟨#[]⟩, .string (strB a4), .pointer none, .pointer none, .pointer none, .slice none 0 0, .slice none 0 0, .slice none 0 0, .int .i64 0] 58 (0, 0)) := heap_set rr7 7 _
          have kk7 : ((((((((wq4.setCell ⟨w.heap.size, 0, none⟩ (.int .i64 4)).setCell ⟨w.heap.size, 1, none⟩ (.string ⟨#[]⟩)).setCell ⟨w.heap.size, 2, none⟩ (.string (strB a4))).setCell ⟨w.heap.size, 3, none⟩ (.pointer none)).setCell ⟨w.heap.size, 4, none⟩ (.pointer none)).setCell ⟨w.heap.size, 5, none⟩ (.pointer none)).setCell ⟨w.heap.size, 6, none⟩ (.slice none 0 0)).setCell ⟨w.heap.size, 7, none⟩ (.slice none 0 0)).cell? ⟨w.heap.size, 7, none⟩ = some (.slice none 0 0) := cell_at rr8 7
          replace kk7 := hide kk7
          have dd8 := cell_at rr8 8
          have ff8 := frozen_at rr8 8
          have rr9 : (((((((((wq4.setCell ⟨w.heap.size, 0, none⟩ (.int .i64 4)).setCell ⟨w.heap.size, 1, none⟩ (.string ⟨#[]⟩)).setCell ⟨w.heap.size, 2, none⟩ (.string (strB a4))).setCell ⟨w.heap.size, 3, none⟩ (.pointer none)).setCell ⟨w.heap.size, 4, none⟩ (.pointer none)).setCell ⟨w.heap.size, 5, none⟩ (.pointer none)).setCell ⟨w.heap.size, 6, none⟩ (.slice none 0 0)).setCell ⟨w.heap.size, 7, none⟩ (.slice none 0 0)).setCell ⟨w.heap.size, 8, none⟩ (.slice none 0 0)).heap[w.heap.size]? = some (.cells #[.int .i64 4, .string ⟨#[]⟩, .string (strB a4), .pointer none, .pointer none, .pointer none, .slice none 0 0, .slice none 0 0, .slice none 0 0, .int .i64 0] 58 (0, 0)) := heap_set rr8 8 _
          have kk8 : (((((((((wq4.setCell ⟨w.heap.size, 0, none⟩ (.int .i64 4)).setCell ⟨w.heap.size, 1, none⟩ (.string ⟨#[]⟩)).setCell ⟨w.heap.size, 2, none⟩ (.string (strB a4))).setCell ⟨w.heap.size, 3, none⟩ (.pointer none)).setCell ⟨w.heap.size, 4, none⟩ (.pointer none)).setCell ⟨w.heap.size, 5, none⟩ (.pointer none)).setCell ⟨w.heap.size, 6, none⟩ (.slice none 0 0)).setCell ⟨w.heap.size, 7, none⟩ (.slice none 0 0)).setCell ⟨w.heap.size, 8, none⟩ (.slice none 0 0)).cell? ⟨w.heap.size, 8, none⟩ = some (.slice none 0 0) := cell_at rr9 8
          replace kk8 := hide kk8
          have dd9 := cell_at rr9 9
          have ff9 := frozen_at rr9 9
          have rr10 : ((((((((((wq4.setCell ⟨w.heap.size, 0, none⟩ (.int .i64 4)).setCell ⟨w.heap.size, 1, none⟩ (.string ⟨#[]⟩)).setCell ⟨w.heap.size, 2, none⟩ (.string (strB a4))).setCell ⟨w.heap.size, 3, none⟩ (.pointer none)).setCell ⟨w.heap.size, 4, none⟩ (.pointer none)).setCell ⟨w.heap.size, 5, none⟩ (.pointer none)).setCell ⟨w.heap.size, 6, none⟩ (.slice none 0 0)).setCell ⟨w.heap.size, 7, none⟩ (.slice none 0 0)).setCell ⟨w.heap.size, 8, none⟩ (.slice none 0 0)).setCell ⟨w.heap.size, 9, none⟩ (.int .i64 0)).heap[w.heap.size]? = some (.cells #[.int .i64 4, .string ⟨#[]⟩, .string (strB a4), .pointer none, .pointer none, .pointer none, .slice none 0 0, .slice none 0 0, .slice none 0 0, .int .i64 0] 58 (0, 0)) := heap_set rr9 9 _
          have kk9 : ((((((((((wq4.setCell ⟨w.heap.size, 0, none⟩ (.int .i64 4)).setCell ⟨w.heap.size, 1, none⟩ (.string ⟨#[]⟩)).setCell ⟨w.heap.size, 2, none⟩ (.string (strB a4))).setCell ⟨w.heap.size, 3, none⟩ (.pointer none)).setCell ⟨w.heap.size, 4, none⟩ (.pointer none)).setCell ⟨w.heap.size, 5, none⟩ (.pointer none)).setCell ⟨w.heap.size, 6, none⟩ (.slice none 0 0)).setCell ⟨w.heap.size, 7, none⟩ (.slice none 0 0)).setCell ⟨w.heap.size, 8, none⟩ (.slice none 0 0)).setCell ⟨w.heap.size, 9, none⟩ (.int .i64 0)).cell? ⟨w.heap.size, 9, none⟩ = some (.int .i64 0) := cell_at rr10 9
          replace kk9 := hide kk9
          simp at dd0 dd1 dd2 dd3 dd4 dd5 dd6 dd7 dd8 dd9
          clear rr0 rr1 rr2 rr3 rr4 rr5 rr6 rr7 rr8 rr9 rr10
          go_wp2_with fail
          refine bodyPost_ret (v := .agg #[.int .i64 4, .string ⟨#[]⟩, .string (strB a4), .pointer none, .pointer none, .pointer none, .slice none 0 0, .slice none 0 0, .slice none 0 0, .int .i64 0]) (by simp [results, Tryz.results120, go_sem, kk0.out, kk1.out, kk2.out, kk3.out, kk4.out, kk5.out, kk6.out, kk7.out, kk8.out, kk9.out]) rfl ?_
          obtain ⟨q1, q2, q3⟩ := fin_got (S := (w.heap.size < ·)) (((((((((((Upd.refl (At w.heap.size) wq4).setOn 0 (.int .i64 4)).setOn 1 (.string ⟨#[]⟩)).setOn 2 (.string (strB a4))).setOn 3 (.pointer none)).setOn 4 (.pointer none)).setOn 5 (.pointer none)).setOn 6 (.slice none 0 0)).setOn 7 (.slice none 0 0)).setOn 8 (.slice none 0 0)).setOn 9 (.int .i64 0)) ((Upd.alloc (At p) w _).then hu.out) hlt htk.out hs.out (fun b hb => hb) (sm_flat (k := 4) (x := x) (y := a4) (e := none) (f := none) (c := none) (args := []) (a := a) rfl rfl rfl (list_nil _ _))
          exact Got.ok q1 hX.out.symm ⟨⟨4, strB a4, _, _, _, _, _, _, _, _, _, _, _, _, rfl, q3⟩, q2⟩
      · have hx2 : nx r [42] = false := by simpa using hx2
        have hX2 := hX.out
        rw [if_neg (by rw [hx2]; exact Bool.false_ne_true)] at hX2
        replace hX := hide hX2
        clear hX2
        refine (accept_no [42] p C d n r _ hs.out hx2).mono ?_
        rintro e wq3 ⟨rfl, hU, h1⟩
        replace hx2 := hide hx2
        replace hrs := hide ((hU).heap hrs.out hrp)
        replace hs := hide h1
        replace hu := hide (hu.out.then hU)
        clear hU h1
        go_wp2_with fail
        by_cases hx3 : named r [91] = true
        · have hX2 := hX.out
          rw [if_pos hx3] at hX2
          replace hX := hide hX2
          clear hX2
          have hx3h := hide hx3
          have hI := isNamed_any [91] p C d n r _ hs.out
          rw [hx3] at hI
          refine hI.mono ?_
          rintro e wq4 ⟨rfl, hb⟩
          clear hI
          replace hs := hide (hs.out.below hb)
          replace hrs := hide ((at_below hb).heap hrs.out hrp)
          replace hu := hide (hu.out.then (at_below hb))
          clear hb
          go_wp2_with fail
          have hG := name_any p C d n r _ hs.out
          cases hr : nameP r with
          | no =>
            have hX2 := hX.out
            rw [hr] at hX2
            try simp only [bind_no] at hX2
            exact absurd hX2.symm hno.out
          | er r9 k9 =>
            rw [hr] at hG
            have hX2 := hX.out
            rw [hr] at hX2
            try simp only [bind_er] at hX2
            replace hX := hide hX2
            refine (hG).mono ?_
            rintro e wq5 ⟨hU, rfl⟩
            replace hu := hide (hu.out.then hU)
            clear hr hG hU hX2
            go_wp2_with fail
            refine ⟨rfl, ?_⟩
            exact Got.er ((Upd.alloc (At p) w _).then hu.out) hX.out.symm
          | ok a5 r5 =>
            rw [hr] at hG
            have hX2 := hX.out
            rw [hr] at hX2
            try simp only [bind_ok] at hX2
            replace hX := hide hX2
            refine (hG).mono ?_
            rintro e wq5 ⟨hU, v5, rfl, rfl, h1⟩
            have hsz := hu.out.size
            replace hrs := hide ((hU).heap hrs.out hrp)
            replace hs := hide h1
            replace hu := hide (hu.out.then hU)
            clear hr hG hU h1 hX2 hsz
            have hbx := hide (heap_new wq5 (.cells #[.int .i64 6, .string ⟨#[]⟩, .string (strB a5), .pointer none, .pointer none, .pointer none, .slice none 0 0, .slice none 0 0, .slice none 0 0, .int .i64 0] 58))
            have hgw : w.heap.size < wq5.heap.size := Nat.lt_of_lt_of_le hw0 hu.out.size
            have hgp : wq5.heap.size ≠ p := by omega
            replace hs := hide (hs.out.alloc (.cells #[.int .i64 6, .string ⟨#[]⟩, .string (strB a5), .pointer none, .pointer none, .pointer none, .slice none 0 0, .slice none 0 0, .slice none 0 0, .int .i64 0] 58))
            replace hrs := hide (heap_old hrs.out (.cells #[.int .i64 6, .string ⟨#[]⟩, .string (strB a5), .pointer none, .pointer none, .pointer none, .slice none 0 0, .slice none 0 0, .slice none 0 0, .int .i64 0] 58))
            replace hu := hide (hu.out.then (Upd.alloc (At p) _ (.cells #[.int .i64 6, .string ⟨#[]⟩, .string (strB a5), .pointer none, .pointer none, .pointer none, .slice none 0 0, .slice none 0 0, .slice none 0 0, .int .i64 0] 58)))
            have hgu : (w.alloc (.cells #[.int .i64 0, .string ⟨#[]⟩, .string ⟨#[]⟩, .pointer none, .pointer none, .pointer none, .slice none 0 0, .slice none 0 0, .slice none 0 0, .int .i64 0] 58)).heap.size ≤ wq5.heap.size := by simp; omega
            go_wp2_with fail
            have hG := index_ok f p C d n r5 _ hs.out
            cases hr : indexP f d r5 with
            | no =>
              have hX2 := hX.out
              rw [hr] at hX2
              try simp only [bind_no] at hX2
              exact absurd hX2.symm hno.out
            | er r9 k9 =>
              rw [hr] at hG
              have hX2 := hX.out
              rw [hr] at hX2
              try simp only [bind_er] at hX2
              replace hX := hide hX2
              refine (hG (fun e => by cases e)).mono ?_
              rintro e wq6 ⟨hU, rfl⟩
              replace hu := hide (hu.out.then hU)
              clear hr hG hU hX2
              go_wp2_with fail
              refine ⟨rfl, ?_⟩
              exact Got.er ((Upd.alloc (At p) w _).then hu.out) hX.out.symm
            | ok a6 r6 =>
              rw [hr] at hG
              have hX2 := hX.out
              rw [hr] at hX2
              try simp only [bind_ok] at hX2
              replace hX := hide hX2
              refine (hG (fun e => by cases e)).mono ?_
              rintro e wq6 ⟨hU, v6, rfl, hv, h1⟩
              have hsz := hu.out.size
              have hold := (Array.getElem?_eq_some_iff.1 hbx.out).1
              replace hrs := hide ((hU).heap hrs.out hrp)
              replace hbx := hide ((hU).heap hbx.out hgp)
              have hva := hide (ExV.mono (S' := (fun b => w.heap.size < b ∧ b ≠ wq5.heap.size)) (fun b _ hb => ⟨Nat.lt_of_lt_of_le (Nat.lt_of_lt_of_le hw0 hsz) hb, fun e => by omega⟩) _ _ hv)
              clear hv
              obtain ⟨gv6, rfl⟩ := hva.out.ptr
              replace hs := hide h1
              replace hu := hide (hu.out.then hU)
              clear hr hG hU h1 hX2 hsz hold
              have cj := cell_at hbx.out 3
              simp at cj
              have fj := frozen_at hbx.out 3
              have hb2 : (wq6.setCell ⟨wq5.heap.size, 3, none⟩ (.pointer (some ⟨gv6, 0, none⟩))).heap[wq5.heap.size]? = some (.cells #[.int .i64 6, .string ⟨#[]⟩, .string (strB a5), .pointer (some ⟨gv6, 0, none⟩), .pointer none, .pointer none, .slice none 0 0, .slice none 0 0, .slice none 0 0, .int .i64 0] 58 (0, 0)) := heap_set hbx.out 3 _
              replace hbx := hide hb2
              clear hb2
              replace hva := hide (ExV.upd (set_upd wq6 (wq5.heap.size) 3 (.pointer (some ⟨gv6, 0, none⟩))) (fun b hb => hb.2) _ _ hva.out)
              replace hrs := hide ((set_upd wq6 (wq5.heap.size) 3 (.pointer (some ⟨gv6, 0, none⟩))).heap hrs.out (by simp only [At]; omega))
              replace hs := hide (hs.out.setNew hlt htk.out (Nat.le_of_lt hgw) 3 (.pointer (some ⟨gv6, 0, none⟩)))
              replace hu := hide (hu.out.setNew (hgu) 3 (.pointer (some ⟨gv6, 0, none⟩)))
              have cc0 := cell_at hbx.out 0
              have cc1 := cell_at hbx.out 1
              have cc2 := cell_at hbx.out 2
              have cc3 := cell_at hbx.out 3
              have cc4 := cell_at hbx.out 4
              have cc5 := cell_at hbx.out 5
              have cc6 := cell_at hbx.out 6
              have cc7 := cell_at hbx.out 7
              have cc8 := cell_at hbx.out 8
              have cc9 := cell_at hbx.out 9
              simp at cc0 cc1 cc2 cc3 cc4 cc5 cc6 cc7 cc8 cc9
              have rr0 := hrs.out
              have dd0 := cell_at rr0 0
              have ff0 := frozen_at rr0 0
              have rr1 : ((wq6.setCell ⟨wq5.heap.size, 3, none⟩ (.pointer (some ⟨gv6, 0, none⟩))).setCell ⟨w.heap.size, 0, none⟩ (.int .i64 6)).heap[w.heap.size]? = some (.cells #[.int .i64 6, .string ⟨#[]⟩, .string ⟨#[]⟩, .pointer none, .pointer none, .pointer none, .slice none 0 0, .slice none 0 0, .slice none 0 0, .int .i64 0] 58 (0, 0)) := heap_set rr0 0 _
              have kk0 : ((wq6.setCell ⟨wq5.heap.size, 3, none⟩ (.pointer (some ⟨gv6, 0, none⟩))).setCell ⟨w.heap.size, 0, none⟩ (.int .i64 6)).cell? ⟨w.heap.size, 0, none⟩ = some (.int .i64 6) := cell_at rr1 0
              replace kk0 := hide kk0
              have dd1 := cell_at rr1 1
              have ff1 := frozen_at rr1 1
              have rr2 : (((wq6.setCell ⟨wq5.heap.size, 3, none⟩ (.pointer (some ⟨gv6, 0, none⟩))).setCell ⟨w.heap.size, 0, none⟩ (.int .i64 6)).setCell ⟨w.heap.size, 1, none⟩ (.string ⟨#[]⟩)).heap[w.heap.size]? = some (.cells #[.int .i64 6, .string ⟨#[]⟩, .string ⟨#[]⟩, .pointer none, .pointer none, .pointer none, .slice none 0 0, .slice none 0 0, .slice none 0 0, .int .i64 0] 58 (0, 0)) := heap_set rr1 1 _
              have kk1 : (((wq6.setCell ⟨wq5.heap.size, 3, none⟩ (.pointer (some ⟨gv6, 0, none⟩))).setCell ⟨w.heap.size, 0, none⟩ (.int .i64 6)).setCell ⟨w.heap.size, 1, none⟩ (.string ⟨#[]⟩)).cell? ⟨w.heap.size, 1, none⟩ = some (.string ⟨#[]⟩) := cell_at rr2 1
              replace kk1 := hide kk1
              have dd2 := cell_at rr2 2
              have ff2 := frozen_at rr2 2
              have rr3 : ((((wq6.setCell ⟨wq5.heap.size, 3, none⟩ (.pointer (some ⟨gv6, 0, none⟩))).setCell ⟨w.heap.size, 0, none⟩ (.int .i64 6)).setCell ⟨w.heap.size, 1, none⟩ (.string ⟨#[]⟩)).setCell ⟨w.heap.size, 2, none⟩ (.string (strB a5))).heap[w.heap.size]? = some (.cells #[.int .i64 6, .string ⟨#[]⟩, .string (strB a5), .pointer none, .pointer none, .pointer none, .slice none 0 0, .slice none 0 0, .slice none 0 0, .int .i64 0] 58 (0, 0)) := heap_set rr2 2 _
              have kk2 : ((((wq6.setCell ⟨wq5.heap.size, 3, none⟩ (.pointer (some ⟨gv6, 0, none⟩))).setCell ⟨w.heap.size, 0, none⟩ (.int .i64 6)).setCell ⟨w.heap.size, 1, none⟩ (.string ⟨#[]⟩)).setCell ⟨w.heap.size, 2, none⟩ (.string (strB a5))).cell? ⟨w.heap.size, 2, none⟩ = some (.string (strB a5)) := cell_at rr3 2
              replace kk2 := hide kk2
              have dd3 := cell_at rr3 3
              have ff3 := frozen_at rr3 3
              have rr4 : (((((wq6.setCell ⟨wq5.heap.size, 3, none⟩ (.pointer (some ⟨gv6, 0, none⟩))).setCell ⟨w.heap.size, 0, none⟩ (.int .i64 6)).setCell ⟨w.heap.size, 1, none⟩ (.string ⟨#[]⟩)).setCell ⟨w.heap.size, 2, none⟩ (.string (strB a5))).setCell ⟨w.heap.size, 3, none⟩ (.pointer (some ⟨gv6, 0, none⟩))).heap[w.heap.size]? = some (.cells #[.int .i64 6, .string ⟨#[]⟩, .string (strB a5), .pointer (some ⟨gv6, 0, none⟩), .pointer none, .pointer none, .slice none 0 0, .slice none 0 0, .slice none 0 0, .int .i64 0] 58 (0, 0)) := heap_set rr3 3 _
              have kk3 : (((((wq6.setCell ⟨wq5.heap.size, 3, none⟩ (.pointer (some ⟨gv6, 0, none⟩))).setCell ⟨w.heap.size, 0, none⟩ (.int .i64 6)).setCell ⟨w.heap.size, 1, none⟩ (.string ⟨#[]⟩)).setCell ⟨w.heap.size, 2, none⟩ (.string (strB a5))).setCell ⟨w.heap.size, 3, none⟩ (.pointer (some ⟨gv6, 0, none⟩))).cell? ⟨w.heap.size, 3, none⟩ = some (.pointer (some ⟨gv6, 0, none⟩)) := cell_at rr4 3
              replace kk3 := hide kk3
              have dd4 := cell_at rr4 4
              have ff4 := frozen_at rr4 4
              have rr5 : ((((((wq6.setCell ⟨wq5.heap.size, 3, none⟩ (.pointer (some ⟨gv6, 0, none⟩))).setCell ⟨w.heap.size, 0, none⟩ (.int .i64 6)).setCell ⟨w.heap.size, 1, none⟩ (.string ⟨#[]⟩)).setCell ⟨w.heap.size, 2, none⟩ (.string (strB a5))).setCell ⟨w.heap.size, 3, none⟩ (.pointer (some ⟨gv6, 0, none⟩))).setCell ⟨w.heap.size, 4, none⟩ (.pointer none)).heap[w.heap.size]? = some (.cells #[.int .i64 6, .string ⟨#[]⟩, .string (strB a5), .pointer (some ⟨gv6, 0, none⟩), .pointer none, .pointer none, .slice none 0 0, .slice none 0 0, .slice none 0 0, .int .i64 0] 58 (0, 0)) := heap_set rr4 4 _
              have kk4 : ((((((wq6.setCell ⟨wq5.heap.size, 3, none⟩ (.pointer (some ⟨gv6, 0, none⟩))).setCell ⟨w.heap.size, 0, none⟩ (.int .i64 6)).setCell ⟨w.heap.size, 1, none⟩ (.string ⟨#[]⟩)).setCell ⟨w.heap.size, 2, none⟩ (.string (strB a5))).setCell ⟨w.heap.size, 3, none⟩ (.pointer (some ⟨gv6, 0, none⟩))).setCell ⟨w.heap.size, 4, none⟩ (.pointer none)).cell? ⟨w.heap.size, 4, none⟩ = some (.pointer none) := cell_at rr5 4
              replace kk4 := hide kk4
              have dd5 := cell_at rr5 5
              have ff5 := frozen_at rr5 5
              have rr6 : (((((((wq6.setCell ⟨wq5.heap.size, 3, none⟩ (.pointer (some ⟨gv6, 0, none⟩))).setCell ⟨w.heap.size, 0, none⟩ (.int .i64 6)).setCell ⟨w.heap.size, 1, none⟩ (.string ⟨#[]⟩)).setCell ⟨w.heap.size, 2, none⟩ (.string (strB a5))).setCell ⟨w.heap.size, 3, none⟩ (.pointer (some ⟨gv6, 0, none⟩))).setCell ⟨w.heap.size, 4, none⟩ (.pointer none)).setCell ⟨w.heap.size, 5, none⟩ (.pointer none)).heap[w.heap.size]? = some (.cells #[.int .i64 6, .string ⟨#[]⟩, .string (strB a5), .pointer (some ⟨gv6, 0, none⟩), .pointer none, .pointer none, .slice none 0 0, .slice none 0 0, .slice none 0 0, .int .i64 0] 58 (0, 0)) := heap_set rr5 5 _
              have kk5 : (((((((wq6.setCell ⟨wq5.heap.size, 3, none⟩ (.pointer (some ⟨gv6, 0, none⟩))).setCell ⟨w.heap.size, 0, none⟩ (.int .i64 6)).setCell ⟨w.heap.size, 1, none⟩ (.string ⟨#[]⟩)).setCell ⟨w.heap.size, 2, none⟩ (.string (strB a5))).setCell ⟨w.heap.size, 3, none⟩ (.pointer (some ⟨gv6, 0, none⟩))).setCell ⟨w.heap.size, 4, none⟩ (.pointer none)).setCell ⟨w.heap.size, 5, none⟩ (.pointer none)).cell? ⟨w.heap.size, 5, none⟩ = some (.pointer none) := cell_at rr6 5
              replace kk5 := hide kk5
              have dd6 := cell_at rr6 6
              have ff6 := frozen_at rr6 6
              have rr7 : ((((((((wq6.setCell ⟨wq5.heap.size, 3, none⟩ (.pointer (some ⟨gv6, 0, none⟩))).setCell ⟨w.heap.size, 0, none⟩ (.int .i64 6)).setCell ⟨w.heap.size, 1, none⟩ (.string ⟨#[]⟩)).setCell ⟨w.heap.size, 2, none⟩ (.string (strB a5))).setCell ⟨w.heap.size, 3, none⟩ (.pointer (some ⟨gv6, 0, none⟩))).setCell ⟨w.heap.size, 4, none⟩ (.pointer none)).setCell ⟨w.heap.size, 5, none⟩ (.pointer none)).setCell ⟨w.heap.size, 6, none⟩ (.slice none 0 0)).heap[w.heap.size]? = some (.cells #[.int .i64 6, .string ⟨#[]⟩, .string (strB a5), .pointer (some ⟨gv6, 0, none⟩), .pointer none, .pointer none, .slice none 0 0, .slice none 0 0, .slice none 0 0, .int .i64 0] 58 (0, 0)) := heap_set rr6 6 _
              have kk6 : ((((((((wq6.setCell ⟨wq5.heap.size, 3, none⟩ (.pointer (some ⟨gv6, 0, none⟩))).setCell ⟨w.heap.size, 0, none⟩ (.int .i64 6)).setCell ⟨w.heap.size, 1, none⟩ (.string ⟨#[]⟩)).setCell ⟨w.heap.size, 2, none⟩ (.string (strB a5))).setCell ⟨w.heap.size, 3, none⟩ (.pointer (some ⟨gv6, 0, none⟩))).setCell ⟨w.heap.size, 4, none⟩ (.pointer none)).setCell ⟨w.heap.size, 5, none⟩ (.pointer none)).setCell ⟨w.heap.size, 6, none⟩ (.slice none 0 0)).cell? ⟨w.heap.size, 6, none⟩ = some (.slice none 0 0) := cell_at rr7 6
              replace kk6 := hide kk6
              have dd7 := cell_at rr7 7
              have ff7 := frozen_at rr7 7
              have rr8 : (((((((((wq6.setCell ⟨wq5.heap.size, 3, none⟩ (.pointer (some ⟨gv6, 0, none⟩))).setCell ⟨w.heap.size, 0, none⟩ (.int .i64 6)).setCell ⟨w.heap.size, 1, none⟩ (.string ⟨#[]⟩)).setCell ⟨w.heap.size, 2, none⟩ (.string (strB a5))).setCell ⟨w.heap.size, 3, none⟩ (.pointer (some ⟨gv6, 0, none⟩))).setCell ⟨w.heap.size, 4, none⟩ (.pointer none)).setCell ⟨w.heap.size, 5, none⟩ (.pointer none)).setCell ⟨w.heap.size, 6, none⟩ (.slice none 0 0)).setCell ⟨w.heap.size, 7, none⟩ (.slice none 0 0)).heap[w.heap.size]? = some (.cells #[.int .i64 6, .string ⟨#[]⟩, .string (strB a5), .pointer (some ⟨gv6, 0, none⟩), .pointer none, .pointer none, .slice none 0 0, .slice none 0 0, .slice none 0 0, .int .i64 0] 58 (0, 0)) := heap_set rr7 7 _
              have kk7 : (((((((((wq6.setCell ⟨wq5.heap.size, 3, none⟩ (.pointer (some ⟨gv6, 0, none⟩))).setCell ⟨w.heap.size, 0, none⟩ (.int .i64 6)).setCell ⟨w.heap.size, 1, none⟩ (.string ⟨#[]⟩)).setCell ⟨w.heap.size, 2, none⟩ (.string (strB a5))).setCell ⟨w.heap.size, 3, none⟩ (.pointer (some ⟨gv6, 0, none⟩))).setCell ⟨w.heap.size, 4, none⟩ (.pointer none)).setCell ⟨w.heap.size, 5, none⟩ (.pointer none)).setCell ⟨w.heap.size, 6, none⟩ (.slice none 0 0)).setCell ⟨w.heap.size, 7, none⟩ (.slice none 0 0)).cell? ⟨w.heap.size, 7, none⟩ = some (.slice none 0 0) := cell_at rr8 7
              replace kk7 := hide kk7
              have dd8 := cell_at rr8 8
              have ff8 := frozen_at rr8 8
              have rr9 : ((((((((((wq6.setCell ⟨wq5.heap.size, 3, none⟩ (.pointer (some ⟨gv6, 0, none⟩))).setCell ⟨w.heap.size, 0, none⟩ (.int .i64 6)).setCell ⟨w.heap.size, 1, none⟩ (.string ⟨#[]⟩)).setCell ⟨w.heap.size, 2, none⟩ (.string (strB a5))).setCell ⟨w.heap.size, 3, none⟩ (.pointer (some ⟨gv6, 0, none⟩))).setCell ⟨w.heap.size, 4, none⟩ (.pointer none)).setCell ⟨w.heap.size, 5, none⟩ (.pointer none)).setCell ⟨w.heap.size, 6, none⟩ (.slice none 0 0)).setCell ⟨w.heap.size, 7, none⟩ (.slice none 0 0)).setCell ⟨w.heap.size, 8, none⟩ (.slice none 0 0)).heap[w.heap.size]? = some (.cells #[.int .i64 6, .string ⟨#[]⟩, .string (strB a5), .pointer (some ⟨gv6, 0, none⟩), .pointer none, .pointer none, .slice none 0 0, .slice none 0 0, .slice none 0 0, .int .i64 0] 58 (0, 0)) := heap_set rr8 8 _
              have kk8 : ((((((((((wq6.setCell ⟨wq5.heap.size, 3, none⟩ (.pointer (some ⟨gv6, 0, none⟩))).setCell ⟨w.heap.size, 0, none⟩ (.int .i64 6)).setCell ⟨w.heap.size, 1, none⟩ (.string ⟨#[]⟩)).setCell ⟨w.heap.size, 2, none⟩ (.string (strB a5))).setCell ⟨w.heap.size, 3, none⟩ (.pointer (some ⟨gv6, 0, none⟩))).setCell ⟨w.heap.size, 4, none⟩ (.pointer none)).setCell ⟨w.heap.size, 5, none⟩ (.pointer none)).setCell ⟨w.heap.size, 6, none⟩ (.slice none 0 0)).setCell ⟨w.heap.size, 7, none⟩ (.slice none 0 0)).setCell ⟨w.heap.size, 8, none⟩ (.slice none 0 0)).cell? ⟨w.heap.size, 8, none⟩ = some (.slice none 0 0) := cell_at rr9 8
              replace kk8 := hide kk8
              have dd9 := cell_at rr9 9
              have ff9 := frozen_at rr9 9
              have rr10 : (((((((((((wq6.setCell ⟨wq5.heap.size, 3, none⟩ (.pointer (some ⟨gv6, 0, none⟩))).setCell ⟨w.heap.size, 0, none⟩ (.int .i64 6)).setCell ⟨w.heap.size, 1, none⟩ (.string ⟨#[]⟩)).setCell ⟨w.heap.size, 2, none⟩ (.string (strB a5))).setCell ⟨w.heap.size, 3, none⟩ (.pointer (some ⟨gv6, 0, none⟩))).setCell ⟨w.heap.size, 4, none⟩ (.pointer none)).setCell ⟨w.heap.size, 5, none⟩ (.pointer none)).setCell ⟨w.heap.size, 6, none⟩ (.slice none 0 0)).setCell ⟨w.heap.size, 7, none⟩ (.slice none 0 0)).setCell ⟨w.heap.size, 8, none⟩ (.slice none 0 0)).setCell ⟨w.heap.size, 9, none⟩ (.int .i64 0)).heap[w.heap.size]? = some (.cells #[.int .i64 6, .string ⟨#[]⟩, .string (strB a5), .pointer (some ⟨gv6, 0, none⟩), .pointer none, .pointer none, .slice none 0 0, .slice none 0 0, .slice none 0 0, .int .i64 0] 58 (0, 0)) := heap_set rr9 9 _
              have kk9 : (((((((((((wq6.setCell ⟨wq5.heap.size, 3, none⟩ (.pointer (some ⟨gv6, 0, none⟩))).setCell ⟨w.heap.size, 0, none⟩ (.int .i64 6)).setCell ⟨w.heap.size, 1, none⟩ (.string ⟨#[]⟩)).setCell ⟨w.heap.size, 2, none⟩ (.string (strB a5))).setCell ⟨w.heap.size, 3, none⟩ (.pointer (some ⟨gv6, 0, none⟩))).setCell ⟨w.heap.size, 4, none⟩ (.pointer none)).setCell ⟨w.heap.size, 5, none⟩ (.pointer none)).setCell ⟨w.heap.size, 6, none⟩ (.slice none 0 0)).setCell ⟨w.heap.size, 7, none⟩ (.slice none 0 0)).setCell ⟨w.heap.size, 8, none⟩ (.slice none 0 0)).setCell ⟨w.heap.size, 9, none⟩ (.int .i64 0)).cell? ⟨w.heap.size, 9, none⟩ = some (.int .i64 0) := cell_at rr10 9
              replace kk9 := hide kk9
              simp at dd0 dd1 dd2 dd3 dd4 dd5 dd6 dd7 dd8 dd9
              clear rr0 rr1 rr2 rr3 rr4 rr5 rr6 rr7 rr8 rr9 rr10
              go_wp2_with fail
              refine bodyPost_ret (v := .agg #[.int .i64 6, .string ⟨#[]⟩, .string (strB a5), .pointer (some ⟨gv6, 0, none⟩), .pointer none, .pointer none, .slice none 0 0, .slice none 0 0, .slice none 0 0, .int .i64 0]) (by simp [results, Tryz.results120, go_sem, kk0.out, kk1.out, kk2.out, kk3.out, kk4.out, kk5.out, kk6.out, kk7.out, kk8.out, kk9.out]) rfl ?_
              obtain ⟨q1, q2, q3⟩ := fin_got (S := (fun b => w.heap.size < b ∧ b ≠ wq5.heap.size)) (((((((((((Upd.refl (At w.heap.size) (wq6.setCell ⟨wq5.heap.size, 3, none⟩ (.pointer (some ⟨gv6, 0, none⟩)))).setOn 0 (.int .i64 6)).setOn 1 (.string ⟨#[]⟩)).setOn 2 (.string (strB a5))).setOn 3 (.pointer (some ⟨gv6, 0, none⟩))).setOn 4 (.pointer none)).setOn 5 (.pointer none)).setOn 6 (.slice none 0 0)).setOn 7 (.slice none 0 0)).setOn 8 (.slice none 0 0)).setOn 9 (.int .i64 0)) ((Upd.alloc (At p) w _).then hu.out) hlt htk.out hs.out (fun b hb => hb.1) (sm_flat (k := 6) (x := x) (y := a5) (e := some a6) (f := none) (c := none) (args := []) (a := a) hva.out rfl rfl (list_nil _ _))
              exact Got.ok q1 hX.out.symm ⟨⟨6, strB a5, _, _, _, _, _, _, _, _, _, _, _, _, rfl, q3⟩, q2⟩
        · have hx3 : named r [91] = false := by simpa using hx3
          have hX2 := hX.out
          rw [if_neg (by rw [hx3]; exact Bool.false_ne_true)] at hX2
          replace hX := hide hX2
          clear hX2
          have hx3h := hide hx3
          have hI := isNamed_any [91] p C d n r _ hs.out
          rw [hx3] at hI
          refine hI.mono ?_
          rintro e wq4 ⟨rfl, hb⟩
          clear hI
          replace hs := hide (hs.out.below hb)
          replace hrs := hide ((at_below hb).heap hrs.out hrp)
          replace hu := hide (hu.out.then (at_below hb))
          clear hb
          go_wp2_with fail
          by_cases hx4 : named r [40] = true
          · have hX2 := hX.out
            rw [if_pos hx4] at hX2
            replace hX := hide hX2
            clear hX2
            have hx4h := hide hx4
            have hI := isNamed_any [40] p C d n r _ hs.out
            rw [hx4] at hI
            refine hI.mono ?_
            rintro e wq5 ⟨rfl, hb⟩
            clear hI
            replace hs := hide (hs.out.below hb)
            replace hrs := hide ((at_below hb).heap hrs.out hrp)
            replace hu := hide (hu.out.then (at_below hb))
            clear hb
            go_wp2_with fail
            have hG := call_ok f hf p C d n x a r _ hs.out
            cases hr : callP f d x a r with
            | no =>
              have hX2 := hX.out
              rw [hr] at hX2
              try simp only [bind_no] at hX2
              exact absurd hX2.symm hno.out
            | er r9 k9 =>
              rw [hr] at hG
              have hX2 := hX.out
              rw [hr] at hX2
              try simp only [bind_er] at hX2
              replace hX := hide hX2
              refine (hG (fun e => by cases e)).mono ?_
              rintro e wq6 ⟨hU, rfl⟩
              replace hu := hide (hu.out.then hU)
              clear hr hG hU hX2
              go_wp2_with fail
              refine ⟨rfl, ?_⟩
              exact Got.er ((Upd.alloc (At p) w _).then hu.out) hX.out.symm
            | ok a6 r6 =>
              rw [hr] at hG
              have hX2 := hX.out
              rw [hr] at hX2
              try simp only [bind_ok] at hX2
              replace hX := hide hX2
              refine (hG (fun e => by cases e)).mono ?_
              rintro e wq6 ⟨hU, v6, rfl, ⟨k1, y1, pe, pf, pc, sa1, sn1, sc1, sa2, sn2, sc2, sa3, sn3, sc3, rfl, hv⟩, h1⟩
              have hsz := hu.out.size
              replace hrs := hide ((hU).heap hrs.out hrp)
              have hva := hide (SmV.mono (S' := (w.heap.size < ·)) (fun b _ hb => Nat.lt_of_lt_of_le (Nat.lt_of_lt_of_le hw0 hsz) hb) _ _ hv)
              clear hv
              replace hs := hide h1
              replace hu := hide (hu.out.then hU)
              clear hr hG hU h1 hX2 hsz
              have rr0 := hrs.out
              have dd0 := cell_at rr0 0
              have ff0 := frozen_at rr0 0
              have rr1 : (wq6.setCell ⟨w.heap.size, 0, none⟩ (.int .i64 k1)).heap[w.heap.size]? = some (.cells #[.int .i64 k1, .string ⟨#[]⟩, .string ⟨#[]⟩, .pointer none, .pointer none, .pointer none, .slice none 0 0, .slice none 0 0, .slice none 0 0, .int .i64 0] 58 (0, 0)) := heap_set rr0 0 _
              have kk0 : (wq6.setCell ⟨w.heap.size, 0, none⟩ (.int .i64 k1)).cell? ⟨w.heap.size, 0, none⟩ = some (.int .i64 k1) := cell_at rr1 0
              replace kk0 := hide kk0
              have dd1 := cell_at rr1 1
              have ff1 := frozen_at rr1 1
              have rr2 : ((wq6.setCell ⟨w.heap.size, 0, none⟩ (.int .i64 k1)).setCell ⟨w.heap.size, 1, none⟩ (.string ⟨#[]⟩)).heap[w.heap.size]? = some (.cells #[.int .i64 k1, .string ⟨#[]⟩, .string ⟨#[]⟩, .pointer none, .pointer none, .pointer none, .slice none 0 0, .slice none 0 0, .slice none 0 0, .int .i64 0] 58 (0, 0)) := heap_set rr1 1 _
              have kk1 : ((wq6.setCell ⟨w.heap.size, 0, none⟩ (.int .i64 k1)).setCell ⟨w.heap.size, 1, none⟩ (.string ⟨#[]⟩)).cell? ⟨w.heap.size, 1, none⟩ = some (.string ⟨#[]⟩) := cell_at rr2 1
              replace kk1 := hide kk1
              have dd2 := cell_at rr2 2
              have ff2 := frozen_at rr2 2
              have rr3 : (((wq6.setCell ⟨w.heap.size, 0, none⟩ (.int .i64 k1)).setCell ⟨w.heap.size, 1, none⟩ (.string ⟨#[]⟩)).setCell ⟨w.heap.size, 2, none⟩ (.string y1)).heap[w.heap.size]? = some (.cells #[.int .i64 k1, .string ⟨#[]⟩, .string y1, .pointer none, .pointer none, .pointer none, .slice none 0 0, .slice none 0 0, .slice none 0 0, .int .i64 0] 58 (0, 0)) := heap_set rr2 2 _
              have kk2 : (((wq6.setCell ⟨w.heap.size, 0, none⟩ (.int .i64 k1)).setCell ⟨w.heap.size, 1, none⟩ (.string ⟨#[]⟩)).setCell ⟨w.heap.size, 2, none⟩ (.string y1)).cell? ⟨w.heap.size, 2, none⟩ = some (.string y1) := cell_at rr3 2
              replace kk2 := hide kk2
              have dd3 := cell_at rr3 3
              have ff3 := frozen_at rr3 3
              have rr4 : ((((wq6.setCell ⟨w.heap.size, 0, none⟩ (.int .i64 k1)).setCell ⟨w.heap.size, 1, none⟩ (.string ⟨#[]⟩)).setCell ⟨w.heap.size, 2, none⟩ (.string y1)).setCell ⟨w.heap.size, 3, none⟩ (.pointer pe)).heap[w.heap.size]? = some (.cells #[.int .i64 k1, .string ⟨#[]⟩, .string y1, .pointer pe, .pointer none, .pointer none, .slice none 0 0, .slice none 0 0, .slice none 0 0, .int .i64 0] 58 (0, 0)) := heap_set rr3 3 _
              have kk3 : ((((wq6.setCell ⟨w.heap.size, 0, none⟩ (.int .i64 k1)).setCell ⟨w.heap.size, 1, none⟩ (.string ⟨#[]⟩)).setCell ⟨w.heap.size, 2, none⟩ (.string y1)).setCell ⟨w.heap.size, 3, none⟩ (.pointer pe)).cell? ⟨w.heap.size, 3, none⟩ = some (.pointer pe) := cell_at rr4 3
              replace kk3 := hide kk3
              have dd4 := cell_at rr4 4
              have ff4 := frozen_at rr4 4
              have rr5 : (((((wq6.setCell ⟨w.heap.size, 0, none⟩ (.int .i64 k1)).setCell ⟨w.heap.size, 1, none⟩ (.string ⟨#[]⟩)).setCell ⟨w.heap.size, 2, none⟩ (.string y1)).setCell ⟨w.heap.size, 3, none⟩ (.pointer pe)).setCell ⟨w.heap.size, 4, none⟩ (.pointer pf)).heap[w.heap.size]? = some (.cells #[.int .i64 k1, .string ⟨#[]⟩, .string y1, .pointer pe, .pointer pf, .pointer none, .slice none 0 0, .slice none 0 0, .slice none 0 0, .int .i64 0] 58 (0, 0)) := heap_set rr4 4 _
              have kk4 : (((((wq6.setCell ⟨w.heap.size, 0, none⟩ (.int .i64 k1)).setCell ⟨w.heap.size, 1, none⟩ (.string ⟨#[]⟩)).setCell ⟨w.heap.size, 2, none⟩ (.string y1)).setCell ⟨w.heap.size, 3, none⟩ (.pointer pe)).setCell ⟨w.heap.size, 4, none⟩ (.pointer pf)).cell? ⟨w.heap.size, 4, none⟩ = some (.pointer pf) := cell_at rr5 4
              replace kk4 := hide kk4
              have dd5 := cell_at rr5 5
              have ff5 := frozen_at rr5 5
              have rr6 : ((((((wq6.setCell ⟨w.heap.size, 0, none⟩ (.int .i64 k1)).setCell ⟨w.heap.size, 1, none⟩ (.string ⟨#[]⟩)).setCell ⟨w.heap.size, 2, none⟩ (.string y1)).setCell ⟨w.heap.size, 3, none⟩ (.pointer pe)).setCell ⟨w.heap.size, 4, none⟩ (.pointer pf)).setCell ⟨w.heap.size, 5, none⟩ (.pointer pc)).heap[w.heap.size]? = some (.cells #[.int .i64 k1, .string ⟨#[]⟩, .string y1, .pointer pe, .pointer pf, .pointer pc, .slice none 0 0, .slice none 0 0, .slice none 0 0, .int .i64 0] 58 (0, 0)) := heap_set rr5 5 _
              have kk5 : ((((((wq6.setCell ⟨w.heap.size, 0, none⟩ (.int .i64 k1)).setCell ⟨w.heap.size, 1, none⟩ (.string ⟨#[]⟩)).setCell ⟨w.heap.size, 2, none⟩ (.string y1)).setCell ⟨w.heap.size, 3, none⟩ (.pointer pe)).setCell ⟨w.heap.size, 4, none⟩ (.pointer pf)).setCell ⟨w.heap.size, 5, none⟩ (.pointer pc)).cell? ⟨w.heap.size, 5, none⟩ = some (.pointer pc) := cell_at rr6 5
              replace kk5 := hide kk5
              have dd6 := cell_at rr6 6
              have ff6 := frozen_at rr6 6
              have rr7 : (((((((wq6.setCell ⟨w.heap.size, 0, none⟩ (.int .i64 k1)).setCell ⟨w.heap.size, 1, none⟩ (.string ⟨#[]⟩)).setCell ⟨w.heap.size, 2, none⟩ (.string y1)).setCell ⟨w.heap.size, 3, none⟩ (.pointer pe)).setCell ⟨w.heap.size, 4, none⟩ (.pointer pf)).setCell ⟨w.heap.size, 5, none⟩ (.pointer pc)).setCell ⟨w.heap.size, 6, none⟩ (.slice sa1 sn1 sc1)).heap[w.heap.size]? = some (.cells #[.int .i64 k1, .string ⟨#[]⟩, .string y1, .pointer pe, .pointer pf, .pointer pc, .slice sa1 sn1 sc1, .slice none 0 0, .slice none 0 0, .int .i64 0] 58 (0, 0)) := heap_set rr6 6 _
              have kk6 : (((((((wq6.setCell ⟨w.heap.size, 0, none⟩ (.int .i64 k1)).setCell ⟨w.heap.size, 1, none⟩ (.string ⟨#[]⟩)).setCell ⟨w.heap.size, 2, none⟩ (.string y1)).setCell ⟨w.heap.size, 3, none⟩ (.pointer pe)).setCell ⟨w.heap.size, 4, none⟩ (.pointer pf)).setCell ⟨w.heap.size, 5, none⟩ (.pointer pc)).setCell ⟨w.heap.size, 6, none⟩ (.slice sa1 sn1 sc1)).cell? ⟨w.heap.size, 6, none⟩ = some (.slice sa1 sn1 sc1) := cell_at rr7 6
              replace kk6 := hide kk6
              have dd7 := cell_at rr7 7
              have ff7 := frozen_at rr7 7
              have rr8 : ((((((((wq6.setCell ⟨w.heap.size, 0, none⟩ (.int .i64 k1)).setCell ⟨w.heap.size, 1, none⟩ (.string ⟨#[]⟩)).setCell ⟨w.heap.size, 2, none⟩ (.string y1)).setCell ⟨w.heap.size, 3, none⟩ (.pointer pe)).setCell ⟨w.heap.size, 4, none⟩ (.pointer pf)).setCell ⟨w.heap.size, 5, none⟩ (.pointer pc)).setCell ⟨w.heap.size, 6, none⟩ (.slice sa1 sn1 sc1)).setCell ⟨w.heap.size, 7, none⟩ (.slice sa2 sn2 sc2)).heap[w.heap.size]? = some (.cells #[.int .i64 k1, .string ⟨#[]⟩, .string y1, .pointer pe, .pointer pf, .pointer pc, .slice sa1 sn1 sc1, .slice sa2 sn2 sc2, .slice none 0 0, .int .i64 0] 58 (0, 0)) := heap_set rr7 7 _
              have kk7 : ((((((((wq6.setCell ⟨w.heap.size, 0, none⟩ (.int .i64 k1)).setCell ⟨w.heap.size, 1, none⟩ (.string ⟨#[]⟩)).setCell ⟨w.heap.size, 2, none⟩ (.string y1)).setCell ⟨w.heap.size, 3, none⟩ (.pointer pe)).setCell ⟨w.heap.size, 4, none⟩ (.pointer pf)).setCell ⟨w.heap.size, 5, none⟩ (.pointer pc)).setCell ⟨w.heap.size, 6, none⟩ (.slice sa1 sn1 sc1)).setCell ⟨w.heap.size, 7, none⟩ (.slice sa2 sn2 sc2)).cell? ⟨w.heap.size, 7, none⟩ = some (.slice sa2 sn2 sc2) := cell_at rr8 7
              replace kk7 := hide kk7
              have dd8 := cell_at rr8 8
              have ff8 := frozen_at rr8 8
              have rr9 : (((((((((wq6.setCell ⟨w.heap.size, 0, none⟩ (.int .i64 k1)).setCell ⟨w.heap.size, 1, none⟩ (.string ⟨#[]⟩)).setCell ⟨w.heap.size, 2, none⟩ (.string y1)).setCell ⟨w.heap.size, 3, none⟩ (.pointer pe)).setCell ⟨w.heap.size, 4, none⟩ (.pointer pf)).setCell ⟨w.heap.size, 5, none⟩ (.pointer pc)).setCell ⟨w.heap.size, 6, none⟩ (.slice sa1 sn1 sc1)).setCell ⟨w.heap.size, 7, none⟩ (.slice sa2 sn2 sc2)).setCell ⟨w.heap.size, 8, none⟩ (.slice sa3 sn3 sc3)).heap[w.heap.size]? = some (.cells #[.int .i64 k1, .string ⟨#[]⟩, .string y1, .pointer pe, .pointer pf, .pointer pc, .slice sa1 sn1 sc1, .slice sa2 sn2 sc2, .slice sa3 sn3 sc3, .int .i64 0] 58 (0, 0)) := heap_set rr8 8 _
              have kk8 : (((((((((wq6.setCell ⟨w.heap.size, 0, none⟩ (.int .i64 k1)).setCell ⟨w.heap.size, 1, none⟩ (.string ⟨#[]⟩)).setCell ⟨w.heap.size, 2, none⟩ (.string y1)).setCell ⟨w.heap.size, 3, none⟩ (.pointer pe)).setCell ⟨w.heap.size, 4, none⟩ (.pointer pf)).setCell ⟨w.heap.size, 5, none⟩ (.pointer pc)).setCell ⟨w.heap.size, 6, none⟩ (.slice sa1 sn1 sc1)).setCell ⟨w.heap.size, 7, none⟩ (.slice sa2 sn2 sc2)).setCell ⟨w.heap.size, 8, none⟩ (.slice sa3 sn3 sc3)).cell? ⟨w.heap.size, 8, none⟩ = some (.slice sa3 sn3 sc3) := cell_at rr9 8
              replace kk8 := hide kk8
              have dd9 := cell_at rr9 9
              have ff9 := frozen_at rr9 9
              have rr10 : ((((((((((wq6.setCell ⟨w.heap.size, 0, none⟩ (.int .i64 k1)).setCell ⟨w.heap.size, 1, none⟩ (.string ⟨#[]⟩)).setCell ⟨w.heap.size, 2, none⟩ (.string y1)).setCell ⟨w.heap.size, 3, none⟩ (.pointer pe)).setCell ⟨w.heap.size, 4, none⟩ (.pointer pf)).setCell ⟨w.heap.size, 5, none⟩ (.pointer pc)).setCell ⟨w.heap.size, 6, none⟩ (.slice sa1 sn1 sc1)).setCell ⟨w.heap.size, 7, none⟩ (.slice sa2 sn2 sc2)).setCell ⟨w.heap.size, 8, none⟩ (.slice sa3 sn3 sc3)).setCell ⟨w.heap.size, 9, none⟩ (.int .i64 0)).heap[w.heap.size]? = some (.cells #[.int .i64 k1, .string ⟨#[]⟩, .string y1, .pointer pe, .pointer pf, .pointer pc, .slice sa1 sn1 sc1, .slice sa2 sn2 sc2, .slice sa3 sn3 sc3, .int .i64 0] 58 (0, 0)) := heap_set rr9 9 _
              have kk9 : ((((((((((wq6.setCell ⟨w.heap.size, 0, none⟩ (.int .i64 k1)).setCell ⟨w.heap.size, 1, none⟩ (.string ⟨#[]⟩)).setCell ⟨w.heap.size, 2, none⟩ (.string y1)).setCell ⟨w.heap.size, 3, none⟩ (.pointer pe)).setCell ⟨w.heap.size, 4, none⟩ (.pointer pf)).setCell ⟨w.heap.size, 5, none⟩ (.pointer pc)).setCell ⟨w.heap.size, 6, none⟩ (.slice sa1 sn1 sc1)).setCell ⟨w.heap.size, 7, none⟩ (.slice sa2 sn2 sc2)).setCell ⟨w.heap.size, 8, none⟩ (.slice sa3 sn3 sc3)).setCell ⟨w.heap.size, 9, none⟩ (.int .i64 0)).cell? ⟨w.heap.size, 9, none⟩ = some (.int .i64 0) := cell_at rr10 9
              replace kk9 := hide kk9
              simp at dd0 dd1 dd2 dd3 dd4 dd5 dd6 dd7 dd8 dd9
              clear rr0 rr1 rr2 rr3 rr4 rr5 rr6 rr7 rr8 rr9 rr10
              go_wp2_with fail
              refine bodyPost_ret (v := .agg #[.int .i64 k1, .string ⟨#[]⟩, .string y1, .pointer pe, .pointer pf, .pointer pc, .slice sa1 sn1 sc1, .slice sa2 sn2 sc2, .slice sa3 sn3 sc3, .int .i64 0]) (by simp [results, Tryz.results120, go_sem, kk0.out, kk1.out, kk2.out, kk3.out, kk4.out, kk5.out, kk6.out, kk7.out, kk8.out, kk9.out]) rfl ?_
              obtain ⟨q1, q2, q3⟩ := fin_got (S := (w.heap.size < ·)) (((((((((((Upd.refl (At w.heap.size) wq6).setOn 0 (.int .i64 k1)).setOn 1 (.string ⟨#[]⟩)).setOn 2 (.string y1)).setOn 3 (.pointer pe)).setOn 4 (.pointer pf)).setOn 5 (.pointer pc)).setOn 6 (.slice sa1 sn1 sc1)).setOn 7 (.slice sa2 sn2 sc2)).setOn 8 (.slice sa3 sn3 sc3)).setOn 9 (.int .i64 0)) ((Upd.alloc (At p) w _).then hu.out) hlt htk.out hs.out (fun b hb => hb) (hva.out)
              exact Got.ok q1 hX.out.symm ⟨⟨k1, y1, _, _, _, _, _, _, _, _, _, _, _, _, rfl, q3⟩, q2⟩
          · have hx4 : named r [40] = false := by simpa using hx4
            have hX2 := hX.out
            rw [if_neg (by rw [hx4]; exact Bool.false_ne_true)] at hX2
            replace hX := hide hX2
            clear hX2
            have hx4h := hide hx4
            have hI := isNamed_any [40] p C d n r _ hs.out
            rw [hx4] at hI
            refine hI.mono ?_
            rintro e wq5 ⟨rfl, hb⟩
            clear hI
            replace hs := hide (hs.out.below hb)
            replace hrs := hide ((at_below hb).heap hrs.out hrp)
            replace hu := hide (hu.out.then (at_below hb))
            clear hb
            go_wp2_with fail
            have hG := sumP_ok f p C d n r _ hs.out
            cases hr : sumP f d r with
            | no =>
              have hX2 := hX.out
              rw [hr] at hX2
              try simp only [bind_no] at hX2
              exact absurd hX2.symm hno.out
            | er r9 k9 =>
              rw [hr] at hG
              have hX2 := hX.out
              rw [hr] at hX2
              try simp only [bind_er] at hX2
              replace hX := hide hX2
              refine (hG (fun e => by cases e)).mono ?_
              rintro e wq6 ⟨hU, rfl⟩
              replace hu := hide (hu.out.then hU)
              clear hr hG hU hX2
              go_wp2_with fail
              refine ⟨rfl, ?_⟩
              exact Got.er ((Upd.alloc (At p) w _).then hu.out) hX.out.symm
            | ok a6 r6 =>
              rw [hr] at hG
              have hX2 := hX.out
              rw [hr] at hX2
              try simp only [bind_ok] at hX2
              replace hX := hide hX2
              refine (hG (fun e => by cases e)).mono ?_
              rintro e wq6 ⟨hU, v6, rfl, hv, h1⟩
              have hsz := hu.out.size
              replace hrs := hide ((hU).heap hrs.out hrp)
              have hva := hide (ExV.mono (S' := (w.heap.size < ·)) (fun b _ hb => Nat.lt_of_lt_of_le (Nat.lt_of_lt_of_le hw0 hsz) hb) _ _ hv)
              clear hv
              obtain ⟨gv6, rfl⟩ := hva.out.ptr
              replace hs := hide h1
              replace hu := hide (hu.out.then hU)
              clear hr hG hU h1 hX2 hsz
              have rr0 := hrs.out
              have dd0 := cell_at rr0 0
              have ff0 := frozen_at rr0 0
              have rr1 : (wq6.setCell ⟨w.heap.size, 0, none⟩ (.int .i64 0)).heap[w.heap.size]? = some (.cells #[.int .i64 0, .string ⟨#[]⟩, .string ⟨#[]⟩, .pointer none, .pointer none, .pointer none, .slice none 0 0, .slice none 0 0, .slice none 0 0, .int .i64 0] 58 (0, 0)) := heap_set rr0 0 _
              have kk0 : (wq6.setCell ⟨w.heap.size, 0, none⟩ (.int .i64 0)).cell? ⟨w.heap.size, 0, none⟩ = some (.int .i64 0) := cell_at rr1 0
              replace kk0 := hide kk0
              have dd1 := cell_at rr1 1
              have ff1 := frozen_at rr1 1
              have rr2 : ((wq6.setCell ⟨w.heap.size, 0, none⟩ (.int .i64 0)).setCell ⟨w.heap.size, 1, none⟩ (.string ⟨#[]⟩)).heap[w.heap.size]? = some (.cells #[.int .i64 0, .string ⟨#[]⟩, .string ⟨#[]⟩, .pointer none, .pointer none, .pointer none, .slice none 0 0, .slice none 0 0, .slice none 0 0, .int .i64 0] 58 (0, 0)) := heap_set rr1 1 _
              have kk1 : ((wq6.setCell ⟨w.heap.size, 0, none⟩ (.int .i64 0)).setCell ⟨w.heap.size, 1, none⟩ (.string ⟨#[]⟩)).cell? ⟨w.heap.size, 1, none⟩ = some (.string ⟨#[]⟩) := cell_at rr2 1
              replace kk1 := hide kk1
              have dd2 := cell_at rr2 2
              have ff2 := frozen_at rr2 2
              have rr3 : (((wq6.setCell ⟨w.heap.size, 0, none⟩ (.int .i64 0)).setCell ⟨w.heap.size, 1, none⟩ (.string ⟨#[]⟩)).setCell ⟨w.heap.size, 2, none⟩ (.string ⟨#[]⟩)).heap[w.heap.size]? = some (.cells #[.int .i64 0, .string ⟨#[]⟩, .string ⟨#[]⟩, .pointer none, .pointer none, .pointer none, .slice none 0 0, .slice none 0 0, .slice none 0 0, .int .i64 0] 58 (0, 0)) := heap_set rr2 2 _
              have kk2 : (((wq6.setCell ⟨w.heap.size, 0, none⟩ (.int .i64 0)).setCell ⟨w.heap.size, 1, none⟩ (.string ⟨#[]⟩)).setCell ⟨w.heap.size, 2, none⟩ (.string ⟨#[]⟩)).cell? ⟨w.heap.size, 2, none⟩ = some (.string ⟨#[]⟩) := cell_at rr3 2
              replace kk2 := hide kk2
              have dd3 := cell_at rr3 3
              have ff3 := frozen_at rr3 3
              have rr4 : ((((wq6.setCell ⟨w.heap.size, 0, none⟩ (.int .i64 0)).setCell ⟨w.heap.size, 1, none⟩ (.string ⟨#[]⟩)).setCell ⟨w.heap.size, 2, none⟩ (.string ⟨#[]⟩)).setCell ⟨w.heap.size, 3, none⟩ (.pointer (some ⟨gv6, 0, none⟩))).heap[w.heap.size]? = some (.cells #[.int .i64 0, .string ⟨#[]⟩, .string ⟨#[]⟩, .pointer (some ⟨gv6, 0, none⟩), .pointer none, .pointer none, .slice none 0 0, .slice none 0 0, .slice none 0 0, .int .i64 0] 58 (0, 0)) := heap_set rr3 3 _
              have kk3 : ((((wq6.setCell ⟨w.heap.size, 0, none⟩ (.int .i64 0)).setCell ⟨w.heap.size, 1, none⟩ (.string ⟨#[]⟩)).setCell ⟨w.heap.size, 2, none⟩ (.string ⟨#[]⟩)).setCell ⟨w.heap.size, 3, none⟩ (.pointer (some ⟨gv6, 0, none⟩))).cell? ⟨w.heap.size, 3, none⟩ = some (.pointer (some ⟨gv6, 0, none⟩)) := cell_at rr4 3
              replace kk3 := hide kk3
              have dd4 := cell_at rr4 4
              have ff4 := frozen_at rr4 4
              have rr5 : (((((wq6.setCell ⟨w.heap.size, 0, none⟩ (.int .i64 0)).setCell ⟨w.heap.size, 1, none⟩ (.string ⟨#[]⟩)).setCell ⟨w.heap.size, 2, none⟩ (.string ⟨#[]⟩)).setCell ⟨w.heap.size, 3, none⟩ (.pointer (some ⟨gv6, 0, none⟩))).setCell ⟨w.heap.size, 4, none⟩ (.pointer none)).heap[w.heap.size]? = some (.cells #[.int .i64 0, .string ⟨#[]⟩, .string ⟨#[]⟩, .pointer (some ⟨gv6, 0, none⟩), .pointer none, .pointer none, .slice none 0 0, .slice none 0 0, .slice none 0 0, .int .i64 0] 58 (0, 0)) := heap_set rr4 4 _
              have kk4 : (((((wq6.setCell ⟨w.heap.size, 0, none⟩ (.int .i64 0)).setCell ⟨w.heap.size, 1, none⟩ (.string ⟨#[]⟩)).setCell ⟨w.heap.size, 2, none⟩ (.string ⟨#[]⟩)).setCell ⟨w.heap.size, 3, none⟩ (.pointer (some ⟨gv6, 0, none⟩))).setCell ⟨w.heap.size, 4, none⟩ (.pointer none)).cell? ⟨w.heap.size, 4, none⟩ = some (.pointer none) := cell_at rr5 4
              replace kk4 := hide kk4
              have dd5 := cell_at rr5 5
              have ff5 := frozen_at rr5 5
              have rr6 : ((((((wq6.setCell ⟨w.heap.size, 0, none⟩ (.int .i64 0)).setCell ⟨w.heap.size, 1, none⟩ (.string ⟨#[]⟩)).setCell ⟨w.heap.size, 2, none⟩ (.string ⟨#[]⟩)).setCell ⟨w.heap.size, 3, none⟩ (.pointer (some ⟨gv6, 0, none⟩))).setCell ⟨w.heap.size, 4, none⟩ (.pointer none)).setCell ⟨w.heap.size, 5, none⟩ (.pointer none)).heap[w.heap.size]? = some (.cells #[.int .i64 0, .string ⟨#[]⟩, .string ⟨#[]⟩, .pointer (some ⟨gv6, 0, none⟩), .pointer none, .pointer none, .slice none 0 0, .slice none 0 0, .slice none 0 0, .int .i64 0] 58 (0, 0)) := heap_set rr5 5 _
              have kk5 : ((((((wq6.setCell ⟨w.heap.size, 0, none⟩ (.int .i64 0)).setCell ⟨w.heap.size, 1, none⟩ (.string ⟨#[]⟩)).setCell ⟨w.heap.size, 2, none⟩ (.string ⟨#[]⟩)).setCell ⟨w.heap.size, 3, none⟩ (.pointer (some ⟨gv6, 0, none⟩))).setCell ⟨w.heap.size, 4, none⟩ (.pointer none)).setCell ⟨w.heap.size, 5, none⟩ (.pointer none)).cell? ⟨w.heap.size, 5, none⟩ = some (.pointer none) := cell_at rr6 5
              replace kk5 := hide kk5
              have dd6 := cell_at rr6 6
              have ff6 := frozen_at rr6 6
              have rr7 : (((((((wq6.setCell ⟨w.heap.size, 0, none⟩ (.int .i64 0)).setCell ⟨w.heap.size, 1, none⟩ (.string ⟨#[]⟩)).setCell ⟨w.heap.size, 2, none⟩ (.string ⟨#[]⟩)).setCell ⟨w.heap.size, 3, none⟩ (.pointer (some ⟨gv6, 0, none⟩))).setCell ⟨w.heap.size, 4, none⟩ (.pointer none)).setCell ⟨w.heap.size, 5, none⟩ (.pointer none)).setCell ⟨w.heap.size, 6, none⟩ (.slice none 0 0)).heap[w.heap.size]? = some (.cells #[.int .i64 0, .string ⟨#[]⟩, .string ⟨#[]⟩, .pointer (some ⟨gv6, 0, none⟩), .pointer none, .pointer none, .slice none 0 0, .slice none 0 0, .slice none 0 0, .int .i64 0] 58 (0, 0)) := heap_set rr6 6 _
              have kk6 : (((((((wq6.setCell ⟨w.heap.size, 0, none⟩ (.int .i64 0)).setCell ⟨w.heap.size, 1, none⟩ (.string ⟨#[]⟩)).setCell ⟨w.heap.size, 2, none⟩ (.string ⟨#[]⟩)).setCell ⟨w.heap.size, 3, none⟩ (.pointer (some ⟨gv6, 0, none⟩))).setCell ⟨w.heap.size, 4, none⟩ (.pointer none)).setCell ⟨w.heap.size, 5, none⟩ (.pointer none)).setCell ⟨w.heap.size, 6, none⟩ (.slice none 0 0)).cell? ⟨w.heap.size, 6, none⟩ = some (.slice none 0 0) := cell_at rr7 6
              replace kk6 := hide kk6
              have dd7 := cell_at rr7 7
              have ff7 := frozen_at rr7 7
              have rr8 : ((((((((wq6.setCell ⟨w.heap.size, 0, none⟩ (.int .i64 0)).setCell ⟨w.heap.size, 1, none⟩ (.string ⟨#[]⟩)).setCell ⟨w.heap.size, 2, none⟩ (.string ⟨#[]⟩)).setCell ⟨w.heap.size, 3, none⟩ (.pointer (some ⟨gv6, 0, none⟩))).setCell ⟨w.heap.size, 4, none⟩ (.pointer none)).setCell ⟨w.heap.size, 5, none⟩ (.pointer none)).setCell ⟨w.heap.size, 6, none⟩ (.slice none 0 0)).setCell ⟨w.heap.size, 7, none⟩ (.slice none 0 0)).heap[w.heap.size]? = some (.cells #[.int .i64 0, .string ⟨#[]⟩, .string ⟨#[]⟩, .pointer (some ⟨gv6, 0, none⟩), .pointer none, .pointer none, .slice none 0 0, .slice none 0 0, .slice none 0 0, .int .i64 0] 58 (0, 0)) := heap_set rr7 7 _
              have kk7 : ((((((((wq6.setCell ⟨w.heap.size, 0, none⟩ (.int .i64 0)).setCell ⟨w.heap.size, 1, none⟩ (.string ⟨#[]⟩)).setCell ⟨w.heap.size, 2, none⟩ (.string ⟨#[]⟩)).setCell ⟨w.heap.size, 3, none⟩ (.pointer (some ⟨gv6, 0, none⟩))).setCell ⟨w.heap.size, 4, none⟩ (.pointer none)).setCell ⟨w.heap.size, 5, none⟩ (.pointer none)).setCell ⟨w.heap.size, 6, none⟩ (.slice none 0 0)).setCell ⟨w.heap.size, 7, none⟩ (.slice none 0 0)).cell? ⟨w.heap.size, 7, none⟩ = some (.slice none 0 0) := cell_at rr8 7
              replace kk7 := hide kk7
              have dd8 := cell_at rr8 8
              have ff8 := frozen_at rr8 8
              have rr9 : (((((((((wq6.setCell ⟨w.heap.size, 0, none⟩ (.int .i64 0)).setCell ⟨w.heap.size, 1, none⟩ (.string ⟨#[]⟩)).setCell ⟨w.heap.size, 2, none⟩ (.string ⟨#[]⟩)).setCell ⟨w.heap.size, 3, none⟩ (.pointer (some ⟨gv6, 0, none⟩))).setCell ⟨w.heap.size, 4, none⟩ (.pointer none)).setCell ⟨w.heap.size, 5, none⟩ (.pointer none)).setCell ⟨w.heap.size, 6, none⟩ (.slice none 0 0)).setCell ⟨w.heap.size, 7, none⟩ (.slice none 0 0)).setCell ⟨w.heap.size, 8, none⟩ (.slice none 0 0)).heap[w.heap.size]? = some (.cells #[.int .i64 0, .string ⟨#[]⟩, .string ⟨#[]⟩, .pointer (some ⟨gv6, 0, none⟩), .pointer none, .pointer none, .slice none 0 0, .slice none 0 0, .slice none 0 0, .int .i64 0] 58 (0, 0)) := heap_set rr8 8 _
              have kk8 : (((((((((wq6.setCell ⟨w.heap.size, 0, none⟩ (.int .i64 0)).setCell ⟨w.heap.size, 1, none⟩ (.string ⟨#[]⟩)).setCell ⟨w.heap.size, 2, none⟩ (.string ⟨#[]⟩)).setCell ⟨w.heap.size, 3, none⟩ (.pointer (some ⟨gv6, 0, none⟩))).setCell ⟨w.heap.size, 4, none⟩ (.pointer none)).setCell ⟨w.heap.size, 5, none⟩ (.pointer none)).setCell ⟨w.heap.size, 6, none⟩ (.slice none 0 0)).setCell ⟨w.heap.size, 7, none⟩ (.slice none 0 0)).setCell ⟨w.heap.size, 8, none⟩ (.slice none 0 0)).cell? ⟨w.heap.size, 8, none⟩ = some (.slice none 0 0) := cell_at rr9 8
              replace kk8 := hide kk8
              have dd9 := cell_at rr9 9
              have ff9 := frozen_at rr9 9
              have rr10 : ((((((((((wq6.setCell ⟨w.heap.size, 0, none⟩ (.int .i64 0)).setCell ⟨w.heap.size, 1, none⟩ (.string ⟨#[]⟩)).setCell ⟨w.heap.size, 2, none⟩ (.string ⟨#[]⟩)).setCell ⟨w.heap.size, 3, none⟩ (.pointer (some ⟨gv6, 0, none⟩))).setCell ⟨w.heap.size, 4, none⟩ (.pointer none)).setCell ⟨w.heap.size, 5, none⟩ (.pointer none)).setCell ⟨w.heap.size, 6, none⟩ (.slice none 0 0)).setCell ⟨w.heap.size, 7, none⟩ (.slice none 0 0)).setCell ⟨w.heap.size, 8, none⟩ (.slice none 0 0)).setCell ⟨w.heap.size, 9, none⟩ (.int .i64 0)).heap[w.heap.size]? = some (.cells #[.int .i64 0, .string ⟨#[]⟩, .string ⟨#[]⟩, .pointer (some ⟨gv6, 0, none⟩), .pointer none, .pointer none, .slice none 0 0, .slice none 0 0, .slice none 0 0, .int .i64 0] 58 (0, 0)) := heap_set rr9 9 _
              have kk9 : ((((((((((wq6.setCell ⟨w.heap.size, 0, none⟩ (.int .i64 0)).setCell ⟨w.heap.size, 1, none⟩ (.string ⟨#[]⟩)).setCell ⟨w.heap.size, 2, none⟩ (.string ⟨#[]⟩)).setCell ⟨w.heap.size, 3, none⟩ (.pointer (some ⟨gv6, 0, none⟩))).setCell ⟨w.heap.size, 4, none⟩ (.pointer none)).setCell ⟨w.heap.size, 5, none⟩ (.pointer none)).setCell ⟨w.heap.size, 6, none⟩ (.slice none 0 0)).setCell ⟨w.heap.size, 7, none⟩ (.slice none 0 0)).setCell ⟨w.heap.size, 8, none⟩ (.slice none 0 0)).setCell ⟨w.heap.size, 9, none⟩ (.int .i64 0)).cell? ⟨w.heap.size, 9, none⟩ = some (.int .i64 0) := cell_at rr10 9
              replace kk9 := hide kk9
              simp at dd0 dd1 dd2 dd3 dd4 dd5 dd6 dd7 dd8 dd9
              clear rr0 rr1 rr2 rr3 rr4 rr5 rr6 rr7 rr8 rr9 rr10
              go_wp2_with fail
              refine bodyPost_ret (v := .agg #[.int .i64 0, .string ⟨#[]⟩, .string ⟨#[]⟩, .pointer (some ⟨gv6, 0, none⟩), .pointer none, .pointer none, .slice none 0 0, .slice none 0 0, .slice none 0 0, .int .i64 0]) (by simp [results, Tryz.results120, go_sem, kk0.out, kk1.out, kk2.out, kk3.out, kk4.out, kk5.out, kk6.out, kk7.out, kk8.out, kk9.out]) rfl ?_
              obtain ⟨q1, q2, q3⟩ := fin_got (S := (w.heap.size < ·)) (((((((((((Upd.refl (At w.heap.size) wq6).setOn 0 (.int .i64 0)).setOn 1 (.string ⟨#[]⟩)).setOn 2 (.string ⟨#[]⟩)).setOn 3 (.pointer (some ⟨gv6, 0, none⟩))).setOn 4 (.pointer none)).setOn 5 (.pointer none)).setOn 6 (.slice none 0 0)).setOn 7 (.slice none 0 0)).setOn 8 (.slice none 0 0)).setOn 9 (.int .i64 0)) ((Upd.alloc (At p) w _).then hu.out) hlt htk.out hs.out (fun b hb => hb) (sm_flat (k := 0) (x := x) (y := []) (e := some a6) (f := none) (c := none) (args := []) (a := a) hva.out rfl rfl (list_nil _ _))
              exact Got.ok q1 hX.out.symm ⟨⟨0, ⟨#[]⟩, _, _, _, _, _, _, _, _, _, _, _, _, rfl, q3⟩, q2⟩
end Go.Proofs.YteplkhgaoaphhaaGreatDoor
