/- Part 10 of the walks (merged): PsK1. -/
import Derived.Test.YteplkhgaoaphhaaGreatDoorM9
/- Walks of the parser's methods for statements. Written by mkstmt.py. -/
namespace Go.Proofs.YteplkhgaoaphhaaGreatDoor
open Go Go.RowKit Go.Lib

def StoreOK (f : Nat) : Prop := ∀ (p : Nat) (C : Cx) (d n : Nat) (a : Nat) (r : List Tok) (w : World), PsW w p C d n r → storeP f d a r ≠ .no →
  Calls Tryz.prog 102 #[.pointer (some ⟨p, 0, none⟩)] w fun e w' => Got p C w (SmR p C d n w.heap.size a) (storeP f d a r) e w'

set_option maxRecDepth 100000 in
set_option maxHeartbeats 3200000 in
theorem store_ok : ∀ f, StoreOK f := by
  intro f p C d n a r w h hno
  generalize hX : storeP f d a r = X at hno ⊢
  unfold storeP at hX
  have hlt := h.lt
  have htk := hide h.tokLt
  have hrp : w.heap.size ≠ p := by omega
  have hu := hide (Upd.refl (At p) (w.alloc (.cells #[.int .i64 0, .string ⟨#[]⟩, .string ⟨#[]⟩, .pointer none, .pointer none, .pointer none, .slice none 0 0, .slice none 0 0, .slice none 0 0, .int .i64 0] 58)))
  have hs := hide (h.alloc (.cells #[.int .i64 0, .string ⟨#[]⟩, .string ⟨#[]⟩, .pointer none, .pointer none, .pointer none, .slice none 0 0, .slice none 0 0, .slice none 0 0, .int .i64 0] 58))
  replace hX := hide hX
  replace hno := hide hno
  have hrs := hide (heap_new w (.cells #[.int .i64 0, .string ⟨#[]⟩, .string ⟨#[]⟩, .pointer none, .pointer none, .pointer none, .slice none 0 0, .slice none 0 0, .slice none 0 0, .int .i64 0] 58))
  have hw0 : w.heap.size < (w.alloc (.cells #[.int .i64 0, .string ⟨#[]⟩, .string ⟨#[]⟩, .pointer none, .pointer none, .pointer none, .slice none 0 0, .slice none 0 0, .slice none 0 0, .int .i64 0] 58)).heap.size := by simp
  clear h
  go_enter Tryz.func102, Tryz.ntmps102
  go_wp2_with fail
  have hG := expect_any [42] (by decide) p C d n r _ hs.out
  cases hr : want [42] r with
  | no =>
    have hX2 := hX.out
    rw [hr] at hX2
    try simp only [bind_no] at hX2
    exact absurd hX2.symm hno.out
  | er r9 k9 =>
    rw [hr] at hG
    have hX2 := hX.out
    rw [hr] at hX2
    try simp only [bind_er] at hX2
    replace hX := hide hX2
    refine (hG).mono ?_
    rintro e wq1 ⟨hU, rfl⟩
    replace hu := hide (hu.out.then hU)
    clear hr hG hU hX2
    go_wp2_with fail
    refine ⟨rfl, ?_⟩
    exact Got.er ((Upd.alloc (At p) w _).then hu.out) hX.out.symm
  | ok a1 r1 =>
    rw [hr] at hG
    have hX2 := hX.out
    rw [hr] at hX2
    try simp only [bind_ok] at hX2
    replace hX := hide hX2
    refine (hG).mono ?_
    rintro e wq1 ⟨hU, v1, rfl, rfl, h1⟩
    have hsz := hu.out.size
    replace hrs := hide ((hU).heap hrs.out hrp)
    replace hs := hide h1
    replace hu := hide (hu.out.then hU)
    clear hr hG hU h1 hX2 hsz
    go_wp2_with fail
    have hG := name_any p C d n r1 _ hs.out
    cases hr : nameP r1 with
    | no =>
      have hX2 := hX.out
      rw [hr] at hX2
      try simp only [bind_no] at hX2
      exact absurd hX2.symm hno.out
    | er r9 k9 =>
      rw [hr] at hG
      have hX2 := hX.out
      rw [hr] at hX2
      try simp only [bind_er] at hX2
      replace hX := hide hX2
      refine (hG).mono ?_
      rintro e wq2 ⟨hU, rfl⟩
      replace hu := hide (hu.out.then hU)
      clear hr hG hU hX2
      go_wp2_with fail
      refine ⟨rfl, ?_⟩
      exact Got.er ((Upd.alloc (At p) w _).then hu.out) hX.out.symm
    | ok a2 r2 =>
      rw [hr] at hG
      have hX2 := hX.out
      rw [hr] at hX2
      try simp only [bind_ok] at hX2
      replace hX := hide hX2
      refine (hG).mono ?_
      rintro e wq2 ⟨hU, v2, rfl, rfl, h1⟩
      have hsz := hu.out.size
      replace hrs := hide ((hU).heap hrs.out hrp)
      replace hs := hide h1
      replace hu := hide (hu.out.then hU)
      clear hr hG hU h1 hX2 hsz
      have hbx := hide (heap_new wq2 (.cells #[.int .i64 5, .string (strB a2), .string ⟨#[]⟩, .pointer none, .pointer none, .pointer none, .slice none 0 0, .slice none 0 0, .slice none 0 0, .int .i64 0] 58))
      have hgw : w.heap.size < wq2.heap.size := Nat.lt_of_lt_of_le hw0 hu.out.size
      have hgp : wq2.heap.size ≠ p := by omega
      replace hs := hide (hs.out.alloc (.cells #[.int .i64 5, .string (strB a2), .string ⟨#[]⟩, .pointer none, .pointer none, .pointer none, .slice none 0 0, .slice none 0 0, .slice none 0 0, .int .i64 0] 58))
      replace hrs := hide (heap_old hrs.out (.cells #[.int .i64 5, .string (strB a2), .string ⟨#[]⟩, .pointer none, .pointer none, .pointer none, .slice none 0 0, .slice none 0 0, .slice none 0 0, .int .i64 0] 58))
      replace hu := hide (hu.out.then (Upd.alloc (At p) _ (.cells #[.int .i64 5, .string (strB a2), .string ⟨#[]⟩, .pointer none, .pointer none, .pointer none, .slice none 0 0, .slice none 0 0, .slice none 0 0, .int .i64 0] 58)))
      have hgu : (w.alloc (.cells #[.int .i64 0, .string ⟨#[]⟩, .string ⟨#[]⟩, .pointer none, .pointer none, .pointer none, .slice none 0 0, .slice none 0 0, .slice none 0 0, .int .i64 0] 58)).heap.size ≤ wq2.heap.size := by simp; omega
      go_wp2_with fail
      have hG := expect_any [61] (by decide) p C d n r2 _ hs.out
      cases hr : want [61] r2 with
      | no =>
        have hX2 := hX.out
        rw [hr] at hX2
        try simp only [bind_no] at hX2
        exact absurd hX2.symm hno.out
      | er r9 k9 =>
        rw [hr] at hG
        have hX2 := hX.out
        rw [hr] at hX2
        try simp only [bind_er] at hX2
        replace hX := hide hX2
        refine (hG).mono ?_
        rintro e wq3 ⟨hU, rfl⟩
        replace hu := hide (hu.out.then hU)
        clear hr hG hU hX2
        go_wp2_with fail
        refine ⟨rfl, ?_⟩
        exact Got.er ((Upd.alloc (At p) w _).then hu.out) hX.out.symm
      | ok a3 r3 =>
        rw [hr] at hG
        have hX2 := hX.out
        rw [hr] at hX2
        try simp only [bind_ok] at hX2
        replace hX := hide hX2
        refine (hG).mono ?_
        rintro e wq3 ⟨hU, v3, rfl, rfl, h1⟩
        have hsz := hu.out.size
        have hold := (Array.getElem?_eq_some_iff.1 hbx.out).1
        replace hrs := hide ((hU).heap hrs.out hrp)
        replace hbx := hide ((hU).heap hbx.out hgp)
        replace hs := hide h1
        replace hu := hide (hu.out.then hU)
        clear hr hG hU h1 hX2 hsz hold
        go_wp2_with fail
        have hG := sumP_ok f p C d n r3 _ hs.out
        cases hr : sumP f d r3 with
        | no =>
          have hX2 := hX.out
          rw [hr] at hX2
          try simp only [bind_no] at hX2
          exact absurd hX2.symm hno.out
        | er r9 k9 =>
          rw [hr] at hG
          have hX2 := hX.out
          rw [hr] at hX2
          try simp only [bind_er] at hX2
          replace hX := hide hX2
          refine (hG (fun e => by cases e)).mono ?_
          rintro e wq4 ⟨hU, rfl⟩
          replace hu := hide (hu.out.then hU)
          clear hr hG hU hX2
          go_wp2_with fail
          refine ⟨rfl, ?_⟩
          exact Got.er ((Upd.alloc (At p) w _).then hu.out) hX.out.symm
        | ok a4 r4 =>
          rw [hr] at hG
          have hX2 := hX.out
          rw [hr] at hX2
          try simp only [bind_ok] at hX2
          replace hX := hide hX2
          refine (hG (fun e => by cases e)).mono ?_
          rintro e wq4 ⟨hU, v4, rfl, hv, h1⟩
          have hsz := hu.out.size
          have hold := (Array.getElem?_eq_some_iff.1 hbx.out).1
          replace hrs := hide ((hU).heap hrs.out hrp)
          replace hbx := hide ((hU).heap hbx.out hgp)
          have hva := hide (ExV.mono (S' := (fun b => w.heap.size < b ∧ b ≠ wq2.heap.size)) (fun b _ hb => ⟨Nat.lt_of_lt_of_le (Nat.lt_of_lt_of_le hw0 hsz) hb, fun e => by omega⟩) _ _ hv)
          clear hv
          obtain ⟨gv4, rfl⟩ := hva.out.ptr
          replace hs := hide h1
          replace hu := hide (hu.out.then hU)
          clear hr hG hU h1 hX2 hsz hold
          have cj := cell_at hbx.out 3
          simp at cj
          have fj := frozen_at hbx.out 3
          go_wp2_with fail
          have hb2 : (wq4.setCell ⟨wq2.heap.size, 3, none⟩ (.pointer (some ⟨gv4, 0, none⟩))).heap[wq2.heap.size]? = some (.cells #[.int .i64 5, .string (strB a2), .string ⟨#[]⟩, .pointer (some ⟨gv4, 0, none⟩), .pointer none, .pointer none, .slice none 0 0, .slice none 0 0, .slice none 0 0, .int .i64 0] 58 (0, 0)) := heap_set hbx.out 3 _
          replace hbx := hide hb2
          clear hb2 cj fj
          replace hva := hide (ExV.upd (set_upd wq4 (wq2.heap.size) 3 (.pointer (some ⟨gv4, 0, none⟩))) (fun b hb => hb.2) _ _ hva.out)
          replace hrs := hide ((set_upd wq4 (wq2.heap.size) 3 (.pointer (some ⟨gv4, 0, none⟩))).heap hrs.out (by simp only [At]; omega))
          replace hs := hide (hs.out.setNew hlt htk.out (Nat.le_of_lt hgw) 3 (.pointer (some ⟨gv4, 0, none⟩)))
          replace hu := hide (hu.out.setNew (hgu) 3 (.pointer (some ⟨gv4, 0, none⟩)))
          have hG := expect_any [59] (by decide) p C d n r4 _ hs.out
          cases hr : want [59] r4 with
          | no =>
            have hX2 := hX.out
            rw [hr] at hX2
            try simp only [bind_no] at hX2
            exact absurd hX2.symm hno.out
          | er r9 k9 =>
            rw [hr] at hG
            have hX2 := hX.out
            rw [hr] at hX2
            try simp only [bind_er] at hX2
            replace hX := hide hX2
            refine (hG).mono ?_
            rintro e wq5 ⟨hU, rfl⟩
            replace hu := hide (hu.out.then hU)
            clear hr hG hU hX2
            go_wp2_with fail
            refine ⟨rfl, ?_⟩
            exact Got.er ((Upd.alloc (At p) w _).then hu.out) hX.out.symm
          | ok a5 r5 =>
            rw [hr] at hG
            have hX2 := hX.out
            rw [hr] at hX2
            try simp only [bind_ok] at hX2
            replace hX := hide hX2
            refine (hG).mono ?_
            rintro e wq5 ⟨hU, v5, rfl, rfl, h1⟩
            have hsz := hu.out.size
            have hold := (Array.getElem?_eq_some_iff.1 hbx.out).1
            replace hva := hide (ExV.upd (hU) (fun b hb => above_not hlt b (Nat.le_of_lt hb.1)) _ _ hva.out)
            replace hrs := hide ((hU).heap hrs.out hrp)
            replace hbx := hide ((hU).heap hbx.out hgp)
            replace hs := hide h1
            replace hu := hide (hu.out.then hU)
            clear hr hG hU h1 hX2 hsz hold
            have cc0 := cell_at hbx.out 0
            have cc1 := cell_at hbx.out 1
            have cc2 := cell_at hbx.out 2
            have cc3 := cell_at hbx.out 3
            have cc4 := cell_at hbx.out 4
            have cc5 := cell_at hbx.out 5
            have cc6 := cell_at hbx.out 6
            have cc7 := cell_at hbx.out 7
            have cc8 := cell_at hbx.out 8
            have cc9 := cell_at hbx.out 9
            simp at cc0 cc1 cc2 cc3 cc4 cc5 cc6 cc7 cc8 cc9
            have rr0 := hrs.out
            have dd0 := cell_at rr0 0
            have ff0 := frozen_at rr0 0
            have rr1 : (wq5.setCell ⟨w.heap.size, 0, none⟩ (.int .i64 5)).heap[w.heap.size]? = some (.cells #[.int .i64 5, .string ⟨#[]⟩, .string ⟨#[]⟩, .pointer none, .pointer none, .pointer none, .slice none 0 0, .slice none 0 0, .slice none 0 0, .int .i64 0] 58 (0, 0)) := heap_set rr0 0 _
            have kk0 : (wq5.setCell ⟨w.heap.size, 0, none⟩ (.int .i64 5)).cell? ⟨w.heap.size, 0, none⟩ = some (.int .i64 5) := cell_at rr1 0
            replace kk0 := hide kk0
            have dd1 := cell_at rr1 1
            have ff1 := frozen_at rr1 1
            have rr2 : ((wq5.setCell ⟨w.heap.size, 0, none⟩ (.int .i64 5)).setCell ⟨w.heap.size, 1, none⟩ (.string (strB a2))).heap[w.heap.size]? = some (.cells #[.int .i64 5, .string (strB a2), .string ⟨#[]⟩, .pointer none, .pointer none, .pointer none, .slice none 0 0, .slice none 0 0, .slice none 0 0, .int .i64 0] 58 (0, 0)) := heap_set rr1 1 _
            have kk1 : ((wq5.setCell ⟨w.heap.size, 0, none⟩ (.int .i64 5)).setCell ⟨w.heap.size, 1, none⟩ (.string (strB a2))).cell? ⟨w.heap.size, 1, none⟩ = some (.string (strB a2)) := cell_at rr2 1
            replace kk1 := hide kk1
            have dd2 := cell_at rr2 2
            have ff2 := frozen_at rr2 2
            have rr3 : (((wq5.setCell ⟨w.heap.size, 0, none⟩ (.int .i64 5)).setCell ⟨w.heap.size, 1, none⟩ (.string (strB a2))).setCell ⟨w.heap.size, 2, none⟩ (.string ⟨#[]⟩)).heap[w.heap.size]? = some (.cells #[.int .i64 5, .string (strB a2), .string ⟨#[]⟩, .pointer none, .pointer none, .pointer none, .slice none 0 0, .slice none 0 0, .slice none 0 0, .int .i64 0] 58 (0, 0)) := heap_set rr2 2 _
            have kk2 : (((wq5.setCell ⟨w.heap.size, 0, none⟩ (.int .i64 5)).setCell ⟨w.heap.size, 1, none⟩ (.string (strB a2))).setCell ⟨w.heap.size, 2, none⟩ (.string ⟨#[]⟩)).cell? ⟨w.heap.size, 2, none⟩ = some (.string ⟨#[]⟩) := cell_at rr3 2
            replace kk2 := hide kk2
            have dd3 := cell_at rr3 3
            have ff3 := frozen_at rr3 3
            have rr4 : ((((wq5.setCell ⟨w.heap.size, 0, none⟩ (.int .i64 5)).setCell ⟨w.heap.size, 1, none⟩ (.string (strB a2))).setCell ⟨w.heap.size, 2, none⟩ (.string ⟨#[]⟩)).setCell ⟨w.heap.size, 3, none⟩ (.pointer (some ⟨gv4, 0, none⟩))).heap[w.heap.size]? = some (.cells #[.int .i64 5, .string (strB a2), .string ⟨#[]⟩, .pointer (some ⟨gv4, 0, none⟩), .pointer none, .pointer none, .slice none 0 0, .slice none 0 0, .slice none 0 0, .int .i64 0] 58 (0, 0)) := heap_set rr3 3 _
            have kk3 : ((((wq5.setCell ⟨w.heap.size, 0, none⟩ (.int .i64 5)).setCell ⟨w.heap.size, 1, none⟩ (.string (strB a2))).setCell ⟨w.heap.size, 2, none⟩ (.string ⟨#[]⟩)).setCell ⟨w.heap.size, 3, none⟩ (.pointer (some ⟨gv4, 0, none⟩))).cell? ⟨w.heap.size, 3, none⟩ = some (.pointer (some ⟨gv4, 0, none⟩)) := cell_at rr4 3
            replace kk3 := hide kk3
            have dd4 := cell_at rr4 4
            have ff4 := frozen_at rr4 4
            have rr5 : (((((wq5.setCell ⟨w.heap.size, 0, none⟩ (.int .i64 5)).setCell ⟨w.heap.size, 1, none⟩ (.string (strB a2))).setCell ⟨w.heap.size, 2, none⟩ (.string ⟨#[]⟩)).setCell ⟨w.heap.size, 3, none⟩ (.pointer (some ⟨gv4, 0, none⟩))).setCell ⟨w.heap.size, 4, none⟩ (.pointer none)).heap[w.heap.size]? = some (.cells #[.int .i64 5, .string (strB a2), .string ⟨#[]⟩, .pointer (some ⟨gv4, 0, none⟩), .pointer none, .pointer none, .slice none 0 0, .slice none 0 0, .slice none 0 0, .int .i64 0] 58 (0, 0)) := heap_set rr4 4 _
            have kk4 : (((((wq5.setCell ⟨w.heap.size, 0, none⟩ (.int .i64 5)).setCell ⟨w.heap.size, 1, none⟩ (.string (strB a2))).setCell ⟨w.heap.size, 2, none⟩ (.string ⟨#[]⟩)).setCell ⟨w.heap.size, 3, none⟩ (.pointer (some ⟨gv4, 0, none⟩))).setCell ⟨w.heap.size, 4, none⟩ (.pointer none)).cell? ⟨w.heap.size, 4, none⟩ = some (.pointer none) := cell_at rr5 4
            replace kk4 := hide kk4
            have dd5 := cell_at rr5 5
            have ff5 := frozen_at rr5 5
            have rr6 : ((((((wq5.setCell ⟨w.heap.size, 0, none⟩ (.int .i64 5)).setCell ⟨w.heap.size, 1, none⟩ (.string (strB a2))).setCell ⟨w.heap.size, 2, none⟩ (.string ⟨#[]⟩)).setCell ⟨w.heap.size, 3, none⟩ (.pointer (some ⟨gv4, 0, none⟩))).setCell ⟨w.heap.size, 4, none⟩ (.pointer none)).setCell ⟨w.heap.size, 5, none⟩ (.pointer none)).heap[w.heap.size]? = some (.cells #[.int .i64 5, .string (strB a2), .string ⟨#[]⟩, .pointer (some ⟨gv4, 0, none⟩), .pointer none, .pointer none, .slice none 0 0, .slice none 0 0, .slice none 0 0, .int .i64 0] 58 (0, 0)) := heap_set rr5 5 _
            have kk5 : ((((((wq5.setCell ⟨w.heap.size, 0, none⟩ (.int .i64 5)).setCell ⟨w.heap.size, 1, none⟩ (.string (strB a2))).setCell ⟨w.heap.size, 2, none⟩ (.string ⟨#[]⟩)).setCell ⟨w.heap.size, 3, none⟩ (.pointer (some ⟨gv4, 0, none⟩))).setCell ⟨w.heap.size, 4, none⟩ (.pointer none)).setCell ⟨w.heap.size, 5, none⟩ (.pointer none)).cell? ⟨w.heap.size, 5, none⟩ = some (.pointer none) := cell_at rr6 5
            replace kk5 := hide kk5
            have dd6 := cell_at rr6 6
            have ff6 := frozen_at rr6 6
            have rr7 : (((((((wq5.setCell ⟨w.heap.size, 0, none⟩ (.int .i64 5)).setCell ⟨w.heap.size, 1, none⟩ (.string (strB a2))).setCell ⟨w.heap.size, 2, none⟩ (.string ⟨#[]⟩)).setCell ⟨w.heap.size, 3, none⟩ (.pointer (some ⟨gv4, 0, none⟩))).setCell ⟨w.heap.size, 4, none⟩ (.pointer none)).setCell ⟨w.heap.size, 5, none⟩ (.pointer none)).setCell ⟨w.heap.size, 6, none⟩ (.slice none 0 0)).heap[w.heap.size]? = some (.cells #[.int .i64 5, .string (strB a2), .string ⟨#[]⟩, .pointer (some ⟨gv4, 0, none⟩), .pointer none, .pointer none, .slice none 0 0, .slice none 0 0, .slice none 0 0, .int .i64 0] 58 (0, 0)) := heap_set rr6 6 _
            have kk6 : (((((((wq5.setCell ⟨w.heap.size, 0, none⟩ (.int .i64 5)).setCell ⟨w.heap.size, 1, none⟩ (.string (strB a2))).setCell ⟨w.heap.size, 2, none⟩ (.string ⟨#[]⟩)).setCell ⟨w.heap.size, 3, none⟩ (.pointer (some ⟨gv4, 0, none⟩))).setCell ⟨w.heap.size, 4, none⟩ (.pointer none)).setCell ⟨w.heap.size, 5, none⟩ (.pointer none)).setCell ⟨w.heap.size, 6, none⟩ (.slice none 0 0)).cell? ⟨w.heap.size, 6, none⟩ = some (.slice none 0 0) := cell_at rr7 6
            replace kk6 := hide kk6
            have dd7 := cell_at rr7 7
            have ff7 := frozen_at rr7 7
            have rr8 : ((((((((wq5.setCell ⟨w.heap.size, 0, none⟩ (.int .i64 5)).setCell ⟨w.heap.size, 1, none⟩ (.string (strB a2))).setCell ⟨w.heap.size, 2, none⟩ (.string ⟨#[]⟩)).setCell ⟨w.heap.size, 3, none⟩ (.pointer (some ⟨gv4, 0, none⟩))).setCell ⟨w.heap.size, 4, none⟩ (.pointer none)).setCell ⟨w.heap.size, 5, none⟩ (.pointer none)).setCell ⟨w.heap.size, 6, none⟩ (.slice none 0 0)).setCell ⟨w.heap.size, 7, none⟩ (.slice none 0 0)).heap[w.heap.size]? = some (.cells #[.int .i64 5, .string (strB a2), .string ⟨#[]⟩, .pointer (some ⟨gv4, 0, none⟩), .pointer none, .pointer none, .slice none 0 0, .slice none 0 0, .slice none 0 0, .int .i64 0] 58 (0, 0)) := heap_set rr7 7 _
            have kk7 : ((((((((wq5.setCell ⟨w.heap.size, 0, none⟩ (.int .i64 5)).setCell ⟨w.heap.size, 1, none⟩ (.string (strB a2))).setCell ⟨w.heap.size, 2, none⟩ (.string ⟨#[]⟩)).setCell ⟨w.heap.size, 3, none⟩ (.pointer (some ⟨gv4, 0, none⟩))).setCell ⟨w.heap.size, 4, none⟩ (.pointer none)).setCell ⟨w.heap.size, 5, none⟩ (.pointer none)).setCell ⟨w.heap.size, 6, none⟩ (.slice none 0 0)).setCell ⟨w.heap.size, 7, none⟩ (.slice none 0 0)).cell? ⟨w.heap.size, 7, none⟩ = some (.slice none 0 0) := cell_at rr8 7
            replace kk7 := hide kk7
            have dd8 := cell_at rr8 8
            have ff8 := frozen_at rr8 8
            have rr9 : (((((((((wq5.setCell ⟨w.heap.size, 0, none⟩ (.int .i64 5)).setCell ⟨w.heap.size, 1, none⟩ (.string (strB a2))).setCell ⟨w.heap.size, 2, none⟩ (.string ⟨#[]⟩)).setCell ⟨w.heap.size, 3, none⟩ (.pointer (some ⟨gv4, 0, none⟩))).setCell ⟨w.heap.size, 4, none⟩ (.pointer none)).setCell ⟨w.heap.size, 5, none⟩ (.pointer none)).setCell ⟨w.heap.size, 6, none⟩ (.slice none 0 0)).setCell ⟨w.heap.size, 7, none⟩ (.slice none 0 0)).setCell ⟨w.heap.size, 8, none⟩ (.slice none 0 0)).heap[w.heap.size]? = some (.cells #[.int .i64 5, .string (strB a2), .string ⟨#[]⟩, .pointer (some ⟨gv4, 0, none⟩), .pointer none, .pointer none, .slice none 0 0, .slice none 0 0, .slice none 0 0, .int .i64 0] 58 (0, 0)) := heap_set rr8 8 _
            have kk8 : (((((((((wq5.setCell ⟨w.heap.size, 0, none⟩ (.int .i64 5)).setCell ⟨w.heap.size, 1, none⟩ (.string (strB a2))).setCell ⟨w.heap.size, 2, none⟩ (.string ⟨#[]⟩)).setCell ⟨w.heap.size, 3, none⟩ (.pointer (some ⟨gv4, 0, none⟩))).setCell ⟨w.heap.size, 4, none⟩ (.pointer none)).setCell ⟨w.heap.size, 5, none⟩ (.pointer none)).setCell ⟨w.heap.size, 6, none⟩ (.slice none 0 0)).setCell ⟨w.heap.size, 7, none⟩ (.slice none 0 0)).setCell ⟨w.heap.size, 8, none⟩ (.slice none 0 0)).cell? ⟨w.heap.size, 8, none⟩ = some (.slice none 0 0) := cell_at rr9 8
            replace kk8 := hide kk8
            have dd9 := cell_at rr9 9
            have ff9 := frozen_at rr9 9
            have rr10 : ((((((((((wq5.setCell ⟨w.heap.size, 0, none⟩ (.int .i64 5)).setCell ⟨w.heap.size, 1, none⟩ (.string (strB a2))).setCell ⟨w.heap.size, 2, none⟩ (.string ⟨#[]⟩)).setCell ⟨w.heap.size, 3, none⟩ (.pointer (some ⟨gv4, 0, none⟩))).setCell ⟨w.heap.size, 4, none⟩ (.pointer none)).setCell ⟨w.heap.size, 5, none⟩ (.pointer none)).setCell ⟨w.heap.size, 6, none⟩ (.slice none 0 0)).setCell ⟨w.heap.size, 7, none⟩ (.slice none 0 0)).setCell ⟨w.heap.size, 8, none⟩ (.slice none 0 0)).setCell ⟨w.heap.size, 9, none⟩ (.int .i64 0)).heap[w.heap.size]? = some (.cells #[.int .i64 5, .string (strB a2), .string ⟨#[]⟩, .pointer (some ⟨gv4, 0, none⟩), .pointer none, .pointer none, .slice none 0 0, .slice none 0 0, .slice none 0 0, .int .i64 0] 58 (0, 0)) := heap_set rr9 9 _
            have kk9 : ((((((((((wq5.setCell ⟨w.heap.size, 0, none⟩ (.int .i64 5)).setCell ⟨w.heap.size, 1, none⟩ (.string (strB a2))).setCell ⟨w.heap.size, 2, none⟩ (.string ⟨#[]⟩)).setCell ⟨w.heap.size, 3, none⟩ (.pointer (some ⟨gv4, 0, none⟩))).setCell ⟨w.heap.size, 4, none⟩ (.pointer none)).setCell ⟨w.heap.size, 5, none⟩ (.pointer none)).setCell ⟨w.heap.size, 6, none⟩ (.slice none 0 0)).setCell ⟨w.heap.size, 7, none⟩ (.slice none 0 0)).setCell ⟨w.heap.size, 8, none⟩ (.slice none 0 0)).setCell ⟨w.heap.size, 9, none⟩ (.int .i64 0)).cell? ⟨w.heap.size, 9, none⟩ = some (.int .i64 0) := cell_at rr10 9
            replace kk9 := hide kk9
            simp at dd0 dd1 dd2 dd3 dd4 dd5 dd6 dd7 dd8 dd9
            clear rr0 rr1 rr2 rr3 rr4 rr5 rr6 rr7 rr8 rr9 rr10
            go_wp2_with fail
            refine bodyPost_ret (v := .agg #[.int .i64 5, .string (strB a2), .string ⟨#[]⟩, .pointer (some ⟨gv4, 0, none⟩), .pointer none, .pointer none, .slice none 0 0, .slice none 0 0, .slice none 0 0, .int .i64 0]) (by simp [results, Tryz.results102, go_sem, kk0.out, kk1.out, kk2.out, kk3.out, kk4.out, kk5.out, kk6.out, kk7.out, kk8.out, kk9.out]) rfl ?_
            obtain ⟨q1, q2, q3⟩ := fin_got (S := (fun b => w.heap.size < b ∧ b ≠ wq2.heap.size)) (((((((((((Upd.refl (At w.heap.size) wq5).setOn 0 (.int .i64 5)).setOn 1 (.string (strB a2))).setOn 2 (.string ⟨#[]⟩)).setOn 3 (.pointer (some ⟨gv4, 0, none⟩))).setOn 4 (.pointer none)).setOn 5 (.pointer none)).setOn 6 (.slice none 0 0)).setOn 7 (.slice none 0 0)).setOn 8 (.slice none 0 0)).setOn 9 (.int .i64 0)) ((Upd.alloc (At p) w _).then hu.out) hlt htk.out hs.out (fun b hb => hb.1) (sm_flat (k := 5) (x := a2) (y := []) (e := some a4) (f := none) (c := none) (args := []) (a := a) hva.out rfl rfl (list_nil _ _))
            exact Got.ok q1 hX.out.symm ⟨⟨5, strB a2, ⟨#[]⟩, _, _, _, _, _, _, _, _, _, _, _, _, rfl, q3⟩, q2⟩

def ReturnOK (f : Nat) : Prop := ∀ (p : Nat) (C : Cx) (d n : Nat) (a : Nat) (r : List Tok) (w : World), PsW w p C d n r → returnP f d a r ≠ .no →
  Calls Tryz.prog 103 #[.pointer (some ⟨p, 0, none⟩)] w fun e w' => Got p C w (SmR p C d n w.heap.size a) (returnP f d a r) e w'

set_option maxRecDepth 100000 in
set_option maxHeartbeats 3200000 in
theorem returned_ok : ∀ f, ReturnOK f := by
  intro f p C d n a r w h hno
  generalize hX : returnP f d a r = X at hno ⊢
  unfold returnP at hX
  have hlt := h.lt
  have htk := hide h.tokLt
  have hrp : w.heap.size ≠ p := by omega
  have hu := hide (Upd.refl (At p) (w.alloc (.cells #[.int .i64 0, .string ⟨#[]⟩, .string ⟨#[]⟩, .pointer none, .pointer none, .pointer none, .slice none 0 0, .slice none 0 0, .slice none 0 0, .int .i64 0] 58)))
  have hs := hide (h.alloc (.cells #[.int .i64 0, .string ⟨#[]⟩, .string ⟨#[]⟩, .pointer none, .pointer none, .pointer none, .slice none 0 0, .slice none 0 0, .slice none 0 0, .int .i64 0] 58))
  replace hX := hide hX
  replace hno := hide hno
  have hrs := hide (heap_new w (.cells #[.int .i64 0, .string ⟨#[]⟩, .string ⟨#[]⟩, .pointer none, .pointer none, .pointer none, .slice none 0 0, .slice none 0 0, .slice none 0 0, .int .i64 0] 58))
  have hw0 : w.heap.size < (w.alloc (.cells #[.int .i64 0, .string ⟨#[]⟩, .string ⟨#[]⟩, .pointer none, .pointer none, .pointer none, .slice none 0 0, .slice none 0 0, .slice none 0 0, .int .i64 0] 58)).heap.size := by simp
  clear h
  go_enter Tryz.func103, Tryz.ntmps103
  go_wp2_with fail
  have hG := expect_any [114, 101, 116, 117, 114, 110] (by decide) p C d n r _ hs.out
  cases hr : want [114, 101, 116, 117, 114, 110] r with
  | no =>
    have hX2 := hX.out
    rw [hr] at hX2
    try simp only [bind_no] at hX2
    exact absurd hX2.symm hno.out
  | er r9 k9 =>
    rw [hr] at hG
    have hX2 := hX.out
    rw [hr] at hX2
    try simp only [bind_er] at hX2
    replace hX := hide hX2
    refine (hG).mono ?_
    rintro e wq1 ⟨hU, rfl⟩
    replace hu := hide (hu.out.then hU)
    clear hr hG hU hX2
    go_wp2_with fail
    refine ⟨rfl, ?_⟩
    exact Got.er ((Upd.alloc (At p) w _).then hu.out) hX.out.symm
  | ok a1 r1 =>
    rw [hr] at hG
    have hX2 := hX.out
    rw [hr] at hX2
    try simp only [bind_ok] at hX2
    replace hX := hide hX2
    refine (hG).mono ?_
    rintro e wq1 ⟨hU, v1, rfl, rfl, h1⟩
    have hsz := hu.out.size
    replace hrs := hide ((hU).heap hrs.out hrp)
    replace hs := hide h1
    replace hu := hide (hu.out.then hU)
    clear hr hG hU h1 hX2 hsz
    go_wp2_with fail
    have hG := sumP_ok f p C d n r1 _ hs.out
    cases hr : sumP f d r1 with
    | no =>
      have hX2 := hX.out
      rw [hr] at hX2
      try simp only [bind_no] at hX2
      exact absurd hX2.symm hno.out
    | er r9 k9 =>
      rw [hr] at hG
      have hX2 := hX.out
      rw [hr] at hX2
      try simp only [bind_er] at hX2
      replace hX := hide hX2
      refine (hG (fun e => by cases e)).mono ?_
      rintro e wq2 ⟨hU, rfl⟩
      replace hu := hide (hu.out.then hU)
      clear hr hG hU hX2
      go_wp2_with fail
      refine ⟨rfl, ?_⟩
      exact Got.er ((Upd.alloc (At p) w _).then hu.out) hX.out.symm
    | ok a2 r2 =>
      rw [hr] at hG
      have hX2 := hX.out
      rw [hr] at hX2
      try simp only [bind_ok] at hX2
      replace hX := hide hX2
      refine (hG (fun e => by cases e)).mono ?_
      rintro e wq2 ⟨hU, v2, rfl, hv, h1⟩
      have hsz := hu.out.size
      replace hrs := hide ((hU).heap hrs.out hrp)
      have hva := hide (ExV.mono (S' := (w.heap.size < ·)) (fun b _ hb => Nat.lt_of_lt_of_le (Nat.lt_of_lt_of_le hw0 hsz) hb) _ _ hv)
      clear hv
      obtain ⟨gv2, rfl⟩ := hva.out.ptr
      replace hs := hide h1
      replace hu := hide (hu.out.then hU)
      clear hr hG hU h1 hX2 hsz
      have hbx := hide (heap_new wq2 (.cells #[.int .i64 9, .string ⟨#[]⟩, .string ⟨#[]⟩, .pointer (some ⟨gv2, 0, none⟩), .pointer none, .pointer none, .slice none 0 0, .slice none 0 0, .slice none 0 0, .int .i64 0] 58))
      have hgw : w.heap.size < wq2.heap.size := Nat.lt_of_lt_of_le hw0 hu.out.size
      have hgp : wq2.heap.size ≠ p := by omega
      replace hva := hide (ExV.mono (S' := (fun b => w.heap.size < b ∧ b ≠ wq2.heap.size)) (fun b hb h => ⟨h, Nat.ne_of_lt hb⟩) _ _ hva.out)
      replace hva := hide (ExV.upd (Upd.alloc (fun _ => False) _ (.cells #[.int .i64 9, .string ⟨#[]⟩, .string ⟨#[]⟩, .pointer (some ⟨gv2, 0, none⟩), .pointer none, .pointer none, .slice none 0 0, .slice none 0 0, .slice none 0 0, .int .i64 0] 58)) (fun _ _ => id) _ _ hva.out)
      replace hs := hide (hs.out.alloc (.cells #[.int .i64 9, .string ⟨#[]⟩, .string ⟨#[]⟩, .pointer (some ⟨gv2, 0, none⟩), .pointer none, .pointer none, .slice none 0 0, .slice none 0 0, .slice none 0 0, .int .i64 0] 58))
      replace hrs := hide (heap_old hrs.out (.cells #[.int .i64 9, .string ⟨#[]⟩, .string ⟨#[]⟩, .pointer (some ⟨gv2, 0, none⟩), .pointer none, .pointer none, .slice none 0 0, .slice none 0 0, .slice none 0 0, .int .i64 0] 58))
      replace hu := hide (hu.out.then (Upd.alloc (At p) _ (.cells #[.int .i64 9, .string ⟨#[]⟩, .string ⟨#[]⟩, .pointer (some ⟨gv2, 0, none⟩), .pointer none, .pointer none, .slice none 0 0, .slice none 0 0, .slice none 0 0, .int .i64 0] 58)))
      go_wp2_with fail
      have hG := expect_any [59] (by decide) p C d n r2 _ hs.out
      cases hr : want [59] r2 with
      | no =>
        have hX2 := hX.out
        rw [hr] at hX2
        try simp only [bind_no] at hX2
        exact absurd hX2.symm hno.out
      | er r9 k9 =>
        rw [hr] at hG
        have hX2 := hX.out
        rw [hr] at hX2
        try simp only [bind_er] at hX2
        replace hX := hide hX2
        refine (hG).mono ?_
        rintro e wq3 ⟨hU, rfl⟩
        replace hu := hide (hu.out.then hU)
        clear hr hG hU hX2
        go_wp2_with fail
        refine ⟨rfl, ?_⟩
        exact Got.er ((Upd.alloc (At p) w _).then hu.out) hX.out.symm
      | ok a3 r3 =>
        rw [hr] at hG
        have hX2 := hX.out
        rw [hr] at hX2
        try simp only [bind_ok] at hX2
        replace hX := hide hX2
        refine (hG).mono ?_
        rintro e wq3 ⟨hU, v3, rfl, rfl, h1⟩
        have hsz := hu.out.size
        have hold := (Array.getElem?_eq_some_iff.1 hbx.out).1
        replace hva := hide (ExV.upd (hU) (fun b hb => above_not hlt b (Nat.le_of_lt hb.1)) _ _ hva.out)
        replace hrs := hide ((hU).heap hrs.out hrp)
        replace hbx := hide ((hU).heap hbx.out hgp)
        replace hs := hide h1
        replace hu := hide (hu.out.then hU)
        clear hr hG hU h1 hX2 hsz hold
        have cc0 := cell_at hbx.out 0
        have cc1 := cell_at hbx.out 1
        have cc2 := cell_at hbx.out 2
        have cc3 := cell_at hbx.out 3
        have cc4 := cell_at hbx.out 4
        have cc5 := cell_at hbx.out 5
        have cc6 := cell_at hbx.out 6
        have cc7 := cell_at hbx.out 7
        have cc8 := cell_at hbx.out 8
        have cc9 := cell_at hbx.out 9
        simp at cc0 cc1 cc2 cc3 cc4 cc5 cc6 cc7 cc8 cc9
        have rr0 := hrs.out
        have dd0 := cell_at rr0 0
        have ff0 := frozen_at rr0 0
        have rr1 : (wq3.setCell ⟨w.heap.size, 0, none⟩ (.int .i64 9)).heap[w.heap.size]? = some (.cells #[.int .i64 9, .string ⟨#[]⟩, .string ⟨#[]⟩, .pointer none, .pointer none, .pointer none, .slice none 0 0, .slice none 0 0, .slice none 0 0, .int .i64 0] 58 (0, 0)) := heap_set rr0 0 _
        have kk0 : (wq3.setCell ⟨w.heap.size, 0, none⟩ (.int .i64 9)).cell? ⟨w.heap.size, 0, none⟩ = some (.int .i64 9) := cell_at rr1 0
        replace kk0 := hide kk0
        have dd1 := cell_at rr1 1
        have ff1 := frozen_at rr1 1
        have rr2 : ((wq3.setCell ⟨w.heap.size, 0, none⟩ (.int .i64 9)).setCell ⟨w.heap.size, 1, none⟩ (.string ⟨#[]⟩)).heap[w.heap.size]? = some (.cells #[.int .i64 9, .string ⟨#[]⟩, .string ⟨#[]⟩, .pointer none, .pointer none, .pointer none, .slice none 0 0, .slice none 0 0, .slice none 0 0, .int .i64 0] 58 (0, 0)) := heap_set rr1 1 _
        have kk1 : ((wq3.setCell ⟨w.heap.size, 0, none⟩ (.int .i64 9)).setCell ⟨w.heap.size, 1, none⟩ (.string ⟨#[]⟩)).cell? ⟨w.heap.size, 1, none⟩ = some (.string ⟨#[]⟩) := cell_at rr2 1
        replace kk1 := hide kk1
        have dd2 := cell_at rr2 2
        have ff2 := frozen_at rr2 2
        have rr3 : (((wq3.setCell ⟨w.heap.size, 0, none⟩ (.int .i64 9)).setCell ⟨w.heap.size, 1, none⟩ (.string ⟨#[]⟩)).setCell ⟨w.heap.size, 2, none⟩ (.string ⟨#[]⟩)).heap[w.heap.size]? = some (.cells #[.int .i64 9, .string ⟨#[]⟩, .string ⟨#[]⟩, .pointer none, .pointer none, .pointer none, .slice none 0 0, .slice none 0 0, .slice none 0 0, .int .i64 0] 58 (0, 0)) := heap_set rr2 2 _
        have kk2 : (((wq3.setCell ⟨w.heap.size, 0, none⟩ (.int .i64 9)).setCell ⟨w.heap.size, 1, none⟩ (.string ⟨#[]⟩)).setCell ⟨w.heap.size, 2, none⟩ (.string ⟨#[]⟩)).cell? ⟨w.heap.size, 2, none⟩ = some (.string ⟨#[]⟩) := cell_at rr3 2
        replace kk2 := hide kk2
        have dd3 := cell_at rr3 3
        have ff3 := frozen_at rr3 3
        have rr4 : ((((wq3.setCell ⟨w.heap.size, 0, none⟩ (.int .i64 9)).setCell ⟨w.heap.size, 1, none⟩ (.string ⟨#[]⟩)).setCell ⟨w.heap.size, 2, none⟩ (.string ⟨#[]⟩)).setCell ⟨w.heap.size, 3, none⟩ (.pointer (some ⟨gv2, 0, none⟩))).heap[w.heap.size]? = some (.cells #[.int .i64 9, .string ⟨#[]⟩, .string ⟨#[]⟩, .pointer (some ⟨gv2, 0, none⟩), .pointer none, .pointer none, .slice none 0 0, .slice none 0 0, .slice none 0 0, .int .i64 0] 58 (0, 0)) := heap_set rr3 3 _
        have kk3 : ((((wq3.setCell ⟨w.heap.size, 0, none⟩ (.int .i64 9)).setCell ⟨w.heap.size, 1, none⟩ (.string ⟨#[]⟩)).setCell ⟨w.heap.size, 2, none⟩ (.string ⟨#[]⟩)).setCell ⟨w.heap.size, 3, none⟩ (.pointer (some ⟨gv2, 0, none⟩))).cell? ⟨w.heap.size, 3, none⟩ = some (.pointer (some ⟨gv2, 0, none⟩)) := cell_at rr4 3
        replace kk3 := hide kk3
        have dd4 := cell_at rr4 4
        have ff4 := frozen_at rr4 4
        have rr5 : (((((wq3.setCell ⟨w.heap.size, 0, none⟩ (.int .i64 9)).setCell ⟨w.heap.size, 1, none⟩ (.string ⟨#[]⟩)).setCell ⟨w.heap.size, 2, none⟩ (.string ⟨#[]⟩)).setCell ⟨w.heap.size, 3, none⟩ (.pointer (some ⟨gv2, 0, none⟩))).setCell ⟨w.heap.size, 4, none⟩ (.pointer none)).heap[w.heap.size]? = some (.cells #[.int .i64 9, .string ⟨#[]⟩, .string ⟨#[]⟩, .pointer (some ⟨gv2, 0, none⟩), .pointer none, .pointer none, .slice none 0 0, .slice none 0 0, .slice none 0 0, .int .i64 0] 58 (0, 0)) := heap_set rr4 4 _
        have kk4 : (((((wq3.setCell ⟨w.heap.size, 0, none⟩ (.int .i64 9)).setCell ⟨w.heap.size, 1, none⟩ (.string ⟨#[]⟩)).setCell ⟨w.heap.size, 2, none⟩ (.string ⟨#[]⟩)).setCell ⟨w.heap.size, 3, none⟩ (.pointer (some ⟨gv2, 0, none⟩))).setCell ⟨w.heap.size, 4, none⟩ (.pointer none)).cell? ⟨w.heap.size, 4, none⟩ = some (.pointer none) := cell_at rr5 4
        replace kk4 := hide kk4
        have dd5 := cell_at rr5 5
        have ff5 := frozen_at rr5 5
        have rr6 : ((((((wq3.setCell ⟨w.heap.size, 0, none⟩ (.int .i64 9)).setCell ⟨w.heap.size, 1, none⟩ (.string ⟨#[]⟩)).setCell ⟨w.heap.size, 2, none⟩ (.string ⟨#[]⟩)).setCell ⟨w.heap.size, 3, none⟩ (.pointer (some ⟨gv2, 0, none⟩))).setCell ⟨w.heap.size, 4, none⟩ (.pointer none)).setCell ⟨w.heap.size, 5, none⟩ (.pointer none)).heap[w.heap.size]? = some (.cells #[.int .i64 9, .string ⟨#[]⟩, .string ⟨#[]⟩, .pointer (some ⟨gv2, 0, none⟩), .pointer none, .pointer none, .slice none 0 0, .slice none 0 0, .slice none 0 0, .int .i64 0] 58 (0, 0)) := heap_set rr5 5 _
        have kk5 : ((((((wq3.setCell ⟨w.heap.size, 0, none⟩ (.int .i64 9)).setCell ⟨w.heap.size, 1, none⟩ (.string ⟨#[]⟩)).setCell ⟨w.heap.size, 2, none⟩ (.string ⟨#[]⟩)).setCell ⟨w.heap.size, 3, none⟩ (.pointer (some ⟨gv2, 0, none⟩))).setCell ⟨w.heap.size, 4, none⟩ (.pointer none)).setCell ⟨w.heap.size, 5, none⟩ (.pointer none)).cell? ⟨w.heap.size, 5, none⟩ = some (.pointer none) := cell_at rr6 5
        replace kk5 := hide kk5
        have dd6 := cell_at rr6 6
        have ff6 := frozen_at rr6 6
        have rr7 : (((((((wq3.setCell ⟨w.heap.size, 0, none⟩ (.int .i64 9)).setCell ⟨w.heap.size, 1, none⟩ (.string ⟨#[]⟩)).setCell ⟨w.heap.size, 2, none⟩ (.string ⟨#[]⟩)).setCell ⟨w.heap.size, 3, none⟩ (.pointer (some ⟨gv2, 0, none⟩))).setCell ⟨w.heap.size, 4, none⟩ (.pointer none)).setCell ⟨w.heap.size, 5, none⟩ (.pointer none)).setCell ⟨w.heap.size, 6, none⟩ (.slice none 0 0)).heap[w.heap.size]? = some (.cells #[.int .i64 9, .string ⟨#[]⟩, .string ⟨#[]⟩, .pointer (some ⟨gv2, 0, none⟩), .pointer none, .pointer none, .slice none 0 0, .slice none 0 0, .slice none 0 0, .int .i64 0] 58 (0, 0)) := heap_set rr6 6 _
        have kk6 : (((((((wq3.setCell ⟨w.heap.size, 0, none⟩ (.int .i64 9)).setCell ⟨w.heap.size, 1, none⟩ (.string ⟨#[]⟩)).setCell ⟨w.heap.size, 2, none⟩ (.string ⟨#[]⟩)).setCell ⟨w.heap.size, 3, none⟩ (.pointer (some ⟨gv2, 0, none⟩))).setCell ⟨w.heap.size, 4, none⟩ (.pointer none)).setCell ⟨w.heap.size, 5, none⟩ (.pointer none)).setCell ⟨w.heap.size, 6, none⟩ (.slice none 0 0)).cell? ⟨w.heap.size, 6, none⟩ = some (.slice none 0 0) := cell_at rr7 6
        replace kk6 := hide kk6
        have dd7 := cell_at rr7 7
        have ff7 := frozen_at rr7 7
        have rr8 : ((((((((wq3.setCell ⟨w.heap.size, 0, none⟩ (.int .i64 9)).setCell ⟨w.heap.size, 1, none⟩ (.string ⟨#[]⟩)).setCell ⟨w.heap.size, 2, none⟩ (.string ⟨#[]⟩)).setCell ⟨w.heap.size, 3, none⟩ (.pointer (some ⟨gv2, 0, none⟩))).setCell ⟨w.heap.size, 4, none⟩ (.pointer none)).setCell ⟨w.heap.size, 5, none⟩ (.pointer none)).setCell ⟨w.heap.size, 6, none⟩ (.slice none 0 0)).setCell ⟨w.heap.size, 7, none⟩ (.slice none 0 0)).heap[w.heap.size]? = some (.cells #[.int .i64 9, .string ⟨#[]⟩, .string ⟨#[]⟩, .pointer (some ⟨gv2, 0, none⟩), .pointer none, .pointer none, .slice none 0 0, .slice none 0 0, .slice none 0 0, .int .i64 0] 58 (0, 0)) := heap_set rr7 7 _
        have kk7 : ((((((((wq3.setCell ⟨w.heap.size, 0, none⟩ (.int .i64 9)).setCell ⟨w.heap.size, 1, none⟩ (.string ⟨#[]⟩)).setCell ⟨w.heap.size, 2, none⟩ (.string ⟨#[]⟩)).setCell ⟨w.heap.size, 3, none⟩ (.pointer (some ⟨gv2, 0, none⟩))).setCell ⟨w.heap.size, 4, none⟩ (.pointer none)).setCell ⟨w.heap.size, 5, none⟩ (.pointer none)).setCell ⟨w.heap.size, 6, none⟩ (.slice none 0 0)).setCell ⟨w.heap.size, 7, none⟩ (.slice none 0 0)).cell? ⟨w.heap.size, 7, none⟩ = some (.slice none 0 0) := cell_at rr8 7
        replace kk7 := hide kk7
        have dd8 := cell_at rr8 8
        have ff8 := frozen_at rr8 8
        have rr9 : (((((((((wq3.setCell ⟨w.heap.size, 0, none⟩ (.int .i64 9)).setCell ⟨w.heap.size, 1, none⟩ (.string ⟨#[]⟩)).setCell ⟨w.heap.size, 2, none⟩ (.string ⟨#[]⟩)).setCell ⟨w.heap.size, 3, none⟩ (.pointer (some ⟨gv2, 0, none⟩))).setCell ⟨w.heap.size, 4, none⟩ (.pointer none)).setCell ⟨w.heap.size, 5, none⟩ (.pointer none)).setCell ⟨w.heap.size, 6, none⟩ (.slice none 0 0)).setCell ⟨w.heap.size, 7, none⟩ (.slice none 0 0)).setCell ⟨w.heap.size, 8, none⟩ (.slice none 0 0)).heap[w.heap.size]? = some (.cells #[.int .i64 9, .string ⟨#[]⟩, .string ⟨#[]⟩, .pointer (some ⟨gv2, 0, none⟩), .pointer none, .pointer none, .slice none 0 0, .slice none 0 0, .slice none 0 0, .int .i64 0] 58 (0, 0)) := heap_set rr8 8 _
        have kk8 : (((((((((wq3.setCell ⟨w.heap.size, 0, none⟩ (.int .i64 9)).setCell ⟨w.heap.size, 1, none⟩ (.string ⟨#[]⟩)).setCell ⟨w.heap.size, 2, none⟩ (.string ⟨#[]⟩)).setCell ⟨w.heap.size, 3, none⟩ (.pointer (some ⟨gv2, 0, none⟩))).setCell ⟨w.heap.size, 4, none⟩ (.pointer none)).setCell ⟨w.heap.size, 5, none⟩ (.pointer none)).setCell ⟨w.heap.size, 6, none⟩ (.slice none 0 0)).setCell ⟨w.heap.size, 7, none⟩ (.slice none 0 0)).setCell ⟨w.heap.size, 8, none⟩ (.slice none 0 0)).cell? ⟨w.heap.size, 8, none⟩ = some (.slice none 0 0) := cell_at rr9 8
        replace kk8 := hide kk8
        have dd9 := cell_at rr9 9
        have ff9 := frozen_at rr9 9
        have rr10 : ((((((((((wq3.setCell ⟨w.heap.size, 0, none⟩ (.int .i64 9)).setCell ⟨w.heap.size, 1, none⟩ (.string ⟨#[]⟩)).setCell ⟨w.heap.size, 2, none⟩ (.string ⟨#[]⟩)).setCell ⟨w.heap.size, 3, none⟩ (.pointer (some ⟨gv2, 0, none⟩))).setCell ⟨w.heap.size, 4, none⟩ (.pointer none)).setCell ⟨w.heap.size, 5, none⟩ (.pointer none)).setCell ⟨w.heap.size, 6, none⟩ (.slice none 0 0)).setCell ⟨w.heap.size, 7, none⟩ (.slice none 0 0)).setCell ⟨w.heap.size, 8, none⟩ (.slice none 0 0)).setCell ⟨w.heap.size, 9, none⟩ (.int .i64 0)).heap[w.heap.size]? = some (.cells #[.int .i64 9, .string ⟨#[]⟩, .string ⟨#[]⟩, .pointer (some ⟨gv2, 0, none⟩), .pointer none, .pointer none, .slice none 0 0, .slice none 0 0, .slice none 0 0, .int .i64 0] 58 (0, 0)) := heap_set rr9 9 _
        have kk9 : ((((((((((wq3.setCell ⟨w.heap.size, 0, none⟩ (.int .i64 9)).setCell ⟨w.heap.size, 1, none⟩ (.string ⟨#[]⟩)).setCell ⟨w.heap.size, 2, none⟩ (.string ⟨#[]⟩)).setCell ⟨w.heap.size, 3, none⟩ (.pointer (some ⟨gv2, 0, none⟩))).setCell ⟨w.heap.size, 4, none⟩ (.pointer none)).setCell ⟨w.heap.size, 5, none⟩ (.pointer none)).setCell ⟨w.heap.size, 6, none⟩ (.slice none 0 0)).setCell ⟨w.heap.size, 7, none⟩ (.slice none 0 0)).setCell ⟨w.heap.size, 8, none⟩ (.slice none 0 0)).setCell ⟨w.heap.size, 9, none⟩ (.int .i64 0)).cell? ⟨w.heap.size, 9, none⟩ = some (.int .i64 0) := cell_at rr10 9
        replace kk9 := hide kk9
        simp at dd0 dd1 dd2 dd3 dd4 dd5 dd6 dd7 dd8 dd9
        clear rr0 rr1 rr2 rr3 rr4 rr5 rr6 rr7 rr8 rr9 rr10
        go_wp2_with fail
        refine bodyPost_ret (v := .agg #[.int .i64 9, .string ⟨#[]⟩, .string ⟨#[]⟩, .pointer (some ⟨gv2, 0, none⟩), .pointer none, .pointer none, .slice none 0 0, .slice none 0 0, .slice none 0 0, .int .i64 0]) (by simp [results, Tryz.results103, go_sem, kk0.out, kk1.out, kk2.out, kk3.out, kk4.out, kk5.out, kk6.out, kk7.out, kk8.out, kk9.out]) rfl ?_
        obtain ⟨q1, q2, q3⟩ := fin_got (S := (fun b => w.heap.size < b ∧ b ≠ wq2.heap.size)) (((((((((((Upd.refl (At w.heap.size) wq3).setOn 0 (.int .i64 9)).setOn 1 (.string ⟨#[]⟩)).setOn 2 (.string ⟨#[]⟩)).setOn 3 (.pointer (some ⟨gv2, 0, none⟩))).setOn 4 (.pointer none)).setOn 5 (.pointer none)).setOn 6 (.slice none 0 0)).setOn 7 (.slice none 0 0)).setOn 8 (.slice none 0 0)).setOn 9 (.int .i64 0)) ((Upd.alloc (At p) w _).then hu.out) hlt htk.out hs.out (fun b hb => hb.1) (sm_flat (k := 9) (x := []) (y := []) (e := some a2) (f := none) (c := none) (args := []) (a := a) hva.out rfl rfl (list_nil _ _))
        exact Got.ok q1 hX.out.symm ⟨⟨9, ⟨#[]⟩, ⟨#[]⟩, _, _, _, _, _, _, _, _, _, _, _, _, rfl, q3⟩, q2⟩

def AssertOK (f : Nat) : Prop := ∀ (p : Nat) (C : Cx) (d n : Nat) (a : Nat) (r : List Tok) (w : World), PsW w p C d n r → assertP f d a r ≠ .no →
  Calls Tryz.prog 104 #[.pointer (some ⟨p, 0, none⟩)] w fun e w' => Got p C w (SmR p C d n w.heap.size a) (assertP f d a r) e w'

set_option maxRecDepth 100000 in
set_option maxHeartbeats 3200000 in
theorem assertion_ok : ∀ f, AssertOK f := by
  intro f p C d n a r w h hno
  generalize hX : assertP f d a r = X at hno ⊢
  unfold assertP at hX
  have hlt := h.lt
  have htk := hide h.tokLt
  have hrp : w.heap.size ≠ p := by omega
  have hu := hide (Upd.refl (At p) (w.alloc (.cells #[.int .i64 0, .string ⟨#[]⟩, .string ⟨#[]⟩, .pointer none, .pointer none, .pointer none, .slice none 0 0, .slice none 0 0, .slice none 0 0, .int .i64 0] 58)))
  have hs := hide (h.alloc (.cells #[.int .i64 0, .string ⟨#[]⟩, .string ⟨#[]⟩, .pointer none, .pointer none, .pointer none, .slice none 0 0, .slice none 0 0, .slice none 0 0, .int .i64 0] 58))
  replace hX := hide hX
  replace hno := hide hno
  have hrs := hide (heap_new w (.cells #[.int .i64 0, .string ⟨#[]⟩, .string ⟨#[]⟩, .pointer none, .pointer none, .pointer none, .slice none 0 0, .slice none 0 0, .slice none 0 0, .int .i64 0] 58))
  have hw0 : w.heap.size < (w.alloc (.cells #[.int .i64 0, .string ⟨#[]⟩, .string ⟨#[]⟩, .pointer none, .pointer none, .pointer none, .slice none 0 0, .slice none 0 0, .slice none 0 0, .int .i64 0] 58)).heap.size := by simp
  clear h
  go_enter Tryz.func104, Tryz.ntmps104
  go_wp2_with fail
  have hG := expect_any [97, 115, 115, 101, 114, 116] (by decide) p C d n r _ hs.out
  cases hr : want [97, 115, 115, 101, 114, 116] r with
  | no =>
    have hX2 := hX.out
    rw [hr] at hX2
    try simp only [bind_no] at hX2
    exact absurd hX2.symm hno.out
  | er r9 k9 =>
    rw [hr] at hG
    have hX2 := hX.out
    rw [hr] at hX2
    try simp only [bind_er] at hX2
    replace hX := hide hX2
    refine (hG).mono ?_
    rintro e wq1 ⟨hU, rfl⟩
    replace hu := hide (hu.out.then hU)
    clear hr hG hU hX2
    go_wp2_with fail
    refine ⟨rfl, ?_⟩
    exact Got.er ((Upd.alloc (At p) w _).then hu.out) hX.out.symm
  | ok a1 r1 =>
    rw [hr] at hG
    have hX2 := hX.out
    rw [hr] at hX2
    try simp only [bind_ok] at hX2
    replace hX := hide hX2
    refine (hG).mono ?_
    rintro e wq1 ⟨hU, v1, rfl, rfl, h1⟩
    have hsz := hu.out.size
    replace hrs := hide ((hU).heap hrs.out hrp)
    replace hs := hide h1
    replace hu := hide (hu.out.then hU)
    clear hr hG hU h1 hX2 hsz
    go_wp2_with fail
    have hG := test_ok f p C d n r1 _ hs.out
    cases hr : testP f d r1 with
    | no =>
      have hX2 := hX.out
      rw [hr] at hX2
      try simp only [bind_no] at hX2
      exact absurd hX2.symm hno.out
    | er r9 k9 =>
      rw [hr] at hG
      have hX2 := hX.out
      rw [hr] at hX2
      try simp only [bind_er] at hX2
      replace hX := hide hX2
      refine (hG (fun e => by cases e)).mono ?_
      rintro e wq2 ⟨hU, rfl⟩
      replace hu := hide (hu.out.then hU)
      clear hr hG hU hX2
      go_wp2_with fail
      refine ⟨rfl, ?_⟩
      exact Got.er ((Upd.alloc (At p) w _).then hu.out) hX.out.symm
    | ok a2 r2 =>
      rw [hr] at hG
      have hX2 := hX.out
      rw [hr] at hX2
      try simp only [bind_ok] at hX2
      replace hX := hide hX2
      refine (hG (fun e => by cases e)).mono ?_
      rintro e wq2 ⟨hU, v2, rfl, hv, h1⟩
      have hsz := hu.out.size
      replace hrs := hide ((hU).heap hrs.out hrp)
      have hva := hide (CnV.mono (S' := (w.heap.size < ·)) (fun b _ hb => Nat.lt_of_lt_of_le (Nat.lt_of_lt_of_le hw0 hsz) hb) _ _ hv)
      clear hv
      obtain ⟨gv2, rfl⟩ := hva.out.ptr
      replace hs := hide h1
      replace hu := hide (hu.out.then hU)
      clear hr hG hU h1 hX2 hsz
      have hbx := hide (heap_new wq2 (.cells #[.int .i64 12, .string ⟨#[]⟩, .string ⟨#[]⟩, .pointer none, .pointer none, .pointer (some ⟨gv2, 0, none⟩), .slice none 0 0, .slice none 0 0, .slice none 0 0, .int .i64 0] 58))
      have hgw : w.heap.size < wq2.heap.size := Nat.lt_of_lt_of_le hw0 hu.out.size
      have hgp : wq2.heap.size ≠ p := by omega
      replace hva := hide (CnV.mono (S' := (fun b => w.heap.size < b ∧ b ≠ wq2.heap.size)) (fun b hb h => ⟨h, Nat.ne_of_lt hb⟩) _ _ hva.out)
      replace hva := hide (CnV.upd (Upd.alloc (fun _ => False) _ (.cells #[.int .i64 12, .string ⟨#[]⟩, .string ⟨#[]⟩, .pointer none, .pointer none, .pointer (some ⟨gv2, 0, none⟩), .slice none 0 0, .slice none 0 0, .slice none 0 0, .int .i64 0] 58)) (fun _ _ => id) _ _ hva.out)
      replace hs := hide (hs.out.alloc (.cells #[.int .i64 12, .string ⟨#[]⟩, .string ⟨#[]⟩, .pointer none, .pointer none, .pointer (some ⟨gv2, 0, none⟩), .slice none 0 0, .slice none 0 0, .slice none 0 0, .int .i64 0] 58))
      replace hrs := hide (heap_old hrs.out (.cells #[.int .i64 12, .string ⟨#[]⟩, .string ⟨#[]⟩, .pointer none, .pointer none, .pointer (some ⟨gv2, 0, none⟩), .slice none 0 0, .slice none 0 0, .slice none 0 0, .int .i64 0] 58))
      replace hu := hide (hu.out.then (Upd.alloc (At p) _ (.cells #[.int .i64 12, .string ⟨#[]⟩, .string ⟨#[]⟩, .pointer none, .pointer none, .pointer (some ⟨gv2, 0, none⟩), .slice none 0 0, .slice none 0 0, .slice none 0 0, .int .i64 0] 58)))
      go_wp2_with fail
      have hG := expect_any [59] (by decide) p C d n r2 _ hs.out
      cases hr : want [59] r2 with
      | no =>
        have hX2 := hX.out
        rw [hr] at hX2
        try simp only [bind_no] at hX2
        exact absurd hX2.symm hno.out
      | er r9 k9 =>
        rw [hr] at hG
        have hX2 := hX.out
        rw [hr] at hX2
        try simp only [bind_er] at hX2
        replace hX := hide hX2
        refine (hG).mono ?_
        rintro e wq3 ⟨hU, rfl⟩
        replace hu := hide (hu.out.then hU)
        clear hr hG hU hX2
        go_wp2_with fail
        refine ⟨rfl, ?_⟩
        exact Got.er ((Upd.alloc (At p) w _).then hu.out) hX.out.symm
      | ok a3 r3 =>
        rw [hr] at hG
        have hX2 := hX.out
        rw [hr] at hX2
        try simp only [bind_ok] at hX2
        replace hX := hide hX2
        refine (hG).mono ?_
        rintro e wq3 ⟨hU, v3, rfl, rfl, h1⟩
        have hsz := hu.out.size
        have hold := (Array.getElem?_eq_some_iff.1 hbx.out).1
        replace hva := hide (CnV.upd (hU) (fun b hb => above_not hlt b (Nat.le_of_lt hb.1)) _ _ hva.out)
        replace hrs := hide ((hU).heap hrs.out hrp)
        replace hbx := hide ((hU).heap hbx.out hgp)
        replace hs := hide h1
        replace hu := hide (hu.out.then hU)
        clear hr hG hU h1 hX2 hsz hold
        have cc0 := cell_at hbx.out 0
        have cc1 := cell_at hbx.out 1
        have cc2 := cell_at hbx.out 2
        have cc3 := cell_at hbx.out 3
        have cc4 := cell_at hbx.out 4
        have cc5 := cell_at hbx.out 5
        have cc6 := cell_at hbx.out 6
        have cc7 := cell_at hbx.out 7
        have cc8 := cell_at hbx.out 8
        have cc9 := cell_at hbx.out 9
        simp at cc0 cc1 cc2 cc3 cc4 cc5 cc6 cc7 cc8 cc9
        have rr0 := hrs.out
        have dd0 := cell_at rr0 0
        have ff0 := frozen_at rr0 0
        have rr1 : (wq3.setCell ⟨w.heap.size, 0, none⟩ (.int .i64 12)).heap[w.heap.size]? = some (.cells #[.int .i64 12, .string ⟨#[]⟩, .string ⟨#[]⟩, .pointer none, .pointer none, .pointer none, .slice none 0 0, .slice none 0 0, .slice none 0 0, .int .i64 0] 58 (0, 0)) := heap_set rr0 0 _
        have kk0 : (wq3.setCell ⟨w.heap.size, 0, none⟩ (.int .i64 12)).cell? ⟨w.heap.size, 0, none⟩ = some (.int .i64 12) := cell_at rr1 0
        replace kk0 := hide kk0
        have dd1 := cell_at rr1 1
        have ff1 := frozen_at rr1 1
        have rr2 : ((wq3.setCell ⟨w.heap.size, 0, none⟩ (.int .i64 12)).setCell ⟨w.heap.size, 1, none⟩ (.string ⟨#[]⟩)).heap[w.heap.size]? = some (.cells #[.int .i64 12, .string ⟨#[]⟩, .string ⟨#[]⟩, .pointer none, .pointer none, .pointer none, .slice none 0 0, .slice none 0 0, .slice none 0 0, .int .i64 0] 58 (0, 0)) := heap_set rr1 1 _
        have kk1 : ((wq3.setCell ⟨w.heap.size, 0, none⟩ (.int .i64 12)).setCell ⟨w.heap.size, 1, none⟩ (.string ⟨#[]⟩)).cell? ⟨w.heap.size, 1, none⟩ = some (.string ⟨#[]⟩) := cell_at rr2 1
        replace kk1 := hide kk1
        have dd2 := cell_at rr2 2
        have ff2 := frozen_at rr2 2
        have rr3 : (((wq3.setCell ⟨w.heap.size, 0, none⟩ (.int .i64 12)).setCell ⟨w.heap.size, 1, none⟩ (.string ⟨#[]⟩)).setCell ⟨w.heap.size, 2, none⟩ (.string ⟨#[]⟩)).heap[w.heap.size]? = some (.cells #[.int .i64 12, .string ⟨#[]⟩, .string ⟨#[]⟩, .pointer none, .pointer none, .pointer none, .slice none 0 0, .slice none 0 0, .slice none 0 0, .int .i64 0] 58 (0, 0)) := heap_set rr2 2 _
        have kk2 : (((wq3.setCell ⟨w.heap.size, 0, none⟩ (.int .i64 12)).setCell ⟨w.heap.size, 1, none⟩ (.string ⟨#[]⟩)).setCell ⟨w.heap.size, 2, none⟩ (.string ⟨#[]⟩)).cell? ⟨w.heap.size, 2, none⟩ = some (.string ⟨#[]⟩) := cell_at rr3 2
        replace kk2 := hide kk2
        have dd3 := cell_at rr3 3
        have ff3 := frozen_at rr3 3
        have rr4 : ((((wq3.setCell ⟨w.heap.size, 0, none⟩ (.int .i64 12)).setCell ⟨w.heap.size, 1, none⟩ (.string ⟨#[]⟩)).setCell ⟨w.heap.size, 2, none⟩ (.string ⟨#[]⟩)).setCell ⟨w.heap.size, 3, none⟩ (.pointer none)).heap[w.heap.size]? = some (.cells #[.int .i64 12, .string ⟨#[]⟩, .string ⟨#[]⟩, .pointer none, .pointer none, .pointer none, .slice none 0 0, .slice none 0 0, .slice none 0 0, .int .i64 0] 58 (0, 0)) := heap_set rr3 3 _
        have kk3 : ((((wq3.setCell ⟨w.heap.size, 0, none⟩ (.int .i64 12)).setCell ⟨w.heap.size, 1, none⟩ (.string ⟨#[]⟩)).setCell ⟨w.heap.size, 2, none⟩ (.string ⟨#[]⟩)).setCell ⟨w.heap.size, 3, none⟩ (.pointer none)).cell? ⟨w.heap.size, 3, none⟩ = some (.pointer none) := cell_at rr4 3
        replace kk3 := hide kk3
        have dd4 := cell_at rr4 4
        have ff4 := frozen_at rr4 4
        have rr5 : (((((wq3.setCell ⟨w.heap.size, 0, none⟩ (.int .i64 12)).setCell ⟨w.heap.size, 1, none⟩ (.string ⟨#[]⟩)).setCell ⟨w.heap.size, 2, none⟩ (.string ⟨#[]⟩)).setCell ⟨w.heap.size, 3, none⟩ (.pointer none)).setCell ⟨w.heap.size, 4, none⟩ (.pointer none)).heap[w.heap.size]? = some (.cells #[.int .i64 12, .string ⟨#[]⟩, .string ⟨#[]⟩, .pointer none, .pointer none, .pointer none, .slice none 0 0, .slice none 0 0, .slice none 0 0, .int .i64 0] 58 (0, 0)) := heap_set rr4 4 _
        have kk4 : (((((wq3.setCell ⟨w.heap.size, 0, none⟩ (.int .i64 12)).setCell ⟨w.heap.size, 1, none⟩ (.string ⟨#[]⟩)).setCell ⟨w.heap.size, 2, none⟩ (.string ⟨#[]⟩)).setCell ⟨w.heap.size, 3, none⟩ (.pointer none)).setCell ⟨w.heap.size, 4, none⟩ (.pointer none)).cell? ⟨w.heap.size, 4, none⟩ = some (.pointer none) := cell_at rr5 4
        replace kk4 := hide kk4
        have dd5 := cell_at rr5 5
        have ff5 := frozen_at rr5 5
        have rr6 : ((((((wq3.setCell ⟨w.heap.size, 0, none⟩ (.int .i64 12)).setCell ⟨w.heap.size, 1, none⟩ (.string ⟨#[]⟩)).setCell ⟨w.heap.size, 2, none⟩ (.string ⟨#[]⟩)).setCell ⟨w.heap.size, 3, none⟩ (.pointer none)).setCell ⟨w.heap.size, 4, none⟩ (.pointer none)).setCell ⟨w.heap.size, 5, none⟩ (.pointer (some ⟨gv2, 0, none⟩))).heap[w.heap.size]? = some (.cells #[.int .i64 12, .string ⟨#[]⟩, .string ⟨#[]⟩, .pointer none, .pointer none, .pointer (some ⟨gv2, 0, none⟩), .slice none 0 0, .slice none 0 0, .slice none 0 0, .int .i64 0] 58 (0, 0)) := heap_set rr5 5 _
        have kk5 : ((((((wq3.setCell ⟨w.heap.size, 0, none⟩ (.int .i64 12)).setCell ⟨w.heap.size, 1, none⟩ (.string ⟨#[]⟩)).setCell ⟨w.heap.size, 2, none⟩ (.string ⟨#[]⟩)).setCell ⟨w.heap.size, 3, none⟩ (.pointer none)).setCell ⟨w.heap.size, 4, none⟩ (.pointer none)).setCell ⟨w.heap.size, 5, none⟩ (.pointer (some ⟨gv2, 0, none⟩))).cell? ⟨w.heap.size, 5, none⟩ = some (.pointer (some ⟨gv2, 0, none⟩)) := cell_at rr6 5
        replace kk5 := hide kk5
        have dd6 := cell_at rr6 6
        have ff6 := frozen_at rr6 6
        have rr7 : (((((((wq3.setCell ⟨w.heap.size, 0, none⟩ (.int .i64 12)).setCell ⟨w.heap.size, 1, none⟩ (.string ⟨#[]⟩)).setCell ⟨w.heap.size, 2, none⟩ (.string ⟨#[]⟩)).setCell ⟨w.heap.size, 3, none⟩ (.pointer none)).setCell ⟨w.heap.size, 4, none⟩ (.pointer none)).setCell ⟨w.heap.size, 5, none⟩ (.pointer (some ⟨gv2, 0, none⟩))).setCell ⟨w.heap.size, 6, none⟩ (.slice none 0 0)).heap[w.heap.size]? = some (.cells #[.int .i64 12, .string ⟨#[]⟩, .string ⟨#[]⟩, .pointer none, .pointer none, .pointer (some ⟨gv2, 0, none⟩), .slice none 0 0, .slice none 0 0, .slice none 0 0, .int .i64 0] 58 (0, 0)) := heap_set rr6 6 _
        have kk6 : (((((((wq3.setCell ⟨w.heap.size, 0, none⟩ (.int .i64 12)).setCell ⟨w.heap.size, 1, none⟩ (.string ⟨#[]⟩)).setCell ⟨w.heap.size, 2, none⟩ (.string ⟨#[]⟩)).setCell ⟨w.heap.size, 3, none⟩ (.pointer none)).setCell ⟨w.heap.size, 4, none⟩ (.pointer none)).setCell ⟨w.heap.size, 5, none⟩ (.pointer (some ⟨gv2, 0, none⟩))).setCell ⟨w.heap.size, 6, none⟩ (.slice none 0 0)).cell? ⟨w.heap.size, 6, none⟩ = some (.slice none 0 0) := cell_at rr7 6
        replace kk6 := hide kk6
        have dd7 := cell_at rr7 7
        have ff7 := frozen_at rr7 7
        have rr8 : ((((((((wq3.setCell ⟨w.heap.size, 0, none⟩ (.int .i64 12)).setCell ⟨w.heap.size, 1, none⟩ (.string ⟨#[]⟩)).setCell ⟨w.heap.size, 2, none⟩ (.string ⟨#[]⟩)).setCell ⟨w.heap.size, 3, none⟩ (.pointer none)).setCell ⟨w.heap.size, 4, none⟩ (.pointer none)).setCell ⟨w.heap.size, 5, none⟩ (.pointer (some ⟨gv2, 0, none⟩))).setCell ⟨w.heap.size, 6, none⟩ (.slice none 0 0)).setCell ⟨w.heap.size, 7, none⟩ (.slice none 0 0)).heap[w.heap.size]? = some (.cells #[.int .i64 12, .string ⟨#[]⟩, .string ⟨#[]⟩, .pointer none, .pointer none, .pointer (some ⟨gv2, 0, none⟩), .slice none 0 0, .slice none 0 0, .slice none 0 0, .int .i64 0] 58 (0, 0)) := heap_set rr7 7 _
        have kk7 : ((((((((wq3.setCell ⟨w.heap.size, 0, none⟩ (.int .i64 12)).setCell ⟨w.heap.size, 1, none⟩ (.string ⟨#[]⟩)).setCell ⟨w.heap.size, 2, none⟩ (.string ⟨#[]⟩)).setCell ⟨w.heap.size, 3, none⟩ (.pointer none)).setCell ⟨w.heap.size, 4, none⟩ (.pointer none)).setCell ⟨w.heap.size, 5, none⟩ (.pointer (some ⟨gv2, 0, none⟩))).setCell ⟨w.heap.size, 6, none⟩ (.slice none 0 0)).setCell ⟨w.heap.size, 7, none⟩ (.slice none 0 0)).cell? ⟨w.heap.size, 7, none⟩ = some (.slice none 0 0) := cell_at rr8 7
        replace kk7 := hide kk7
        have dd8 := cell_at rr8 8
        have ff8 := frozen_at rr8 8
        have rr9 : (((((((((wq3.setCell ⟨w.heap.size, 0, none⟩ (.int .i64 12)).setCell ⟨w.heap.size, 1, none⟩ (.string ⟨#[]⟩)).setCell ⟨w.heap.size, 2, none⟩ (.string ⟨#[]⟩)).setCell ⟨w.heap.size, 3, none⟩ (.pointer none)).setCell ⟨w.heap.size, 4, none⟩ (.pointer none)).setCell ⟨w.heap.size, 5, none⟩ (.pointer (some ⟨gv2, 0, none⟩))).setCell ⟨w.heap.size, 6, none⟩ (.slice none 0 0)).setCell ⟨w.heap.size, 7, none⟩ (.slice none 0 0)).setCell ⟨w.heap.size, 8, none⟩ (.slice none 0 0)).heap[w.heap.size]? = some (.cells #[.int .i64 12, .string ⟨#[]⟩, .string ⟨#[]⟩, .pointer none, .pointer none, .pointer (some ⟨gv2, 0, none⟩), .slice none 0 0, .slice none 0 0, .slice none 0 0, .int .i64 0] 58 (0, 0)) := heap_set rr8 8 _
        have kk8 : (((((((((wq3.setCell ⟨w.heap.size, 0, none⟩ (.int .i64 12)).setCell ⟨w.heap.size, 1, none⟩ (.string ⟨#[]⟩)).setCell ⟨w.heap.size, 2, none⟩ (.string ⟨#[]⟩)).setCell ⟨w.heap.size, 3, none⟩ (.pointer none)).setCell ⟨w.heap.size, 4, none⟩ (.pointer none)).setCell ⟨w.heap.size, 5, none⟩ (.pointer (some ⟨gv2, 0, none⟩))).setCell ⟨w.heap.size, 6, none⟩ (.slice none 0 0)).setCell ⟨w.heap.size, 7, none⟩ (.slice none 0 0)).setCell ⟨w.heap.size, 8, none⟩ (.slice none 0 0)).cell? ⟨w.heap.size, 8, none⟩ = some (.slice none 0 0) := cell_at rr9 8
        replace kk8 := hide kk8
        have dd9 := cell_at rr9 9
        have ff9 := frozen_at rr9 9
        have rr10 : ((((((((((wq3.setCell ⟨w.heap.size, 0, none⟩ (.int .i64 12)).setCell ⟨w.heap.size, 1, none⟩ (.string ⟨#[]⟩)).setCell ⟨w.heap.size, 2, none⟩ (.string ⟨#[]⟩)).setCell ⟨w.heap.size, 3, none⟩ (.pointer none)).setCell ⟨w.heap.size, 4, none⟩ (.pointer none)).setCell ⟨w.heap.size, 5, none⟩ (.pointer (some ⟨gv2, 0, none⟩))).setCell ⟨w.heap.size, 6, none⟩ (.slice none 0 0)).setCell ⟨w.heap.size, 7, none⟩ (.slice none 0 0)).setCell ⟨w.heap.size, 8, none⟩ (.slice none 0 0)).setCell ⟨w.heap.size, 9, none⟩ (.int .i64 0)).heap[w.heap.size]? = some (.cells #[.int .i64 12, .string ⟨#[]⟩, .string ⟨#[]⟩, .pointer none, .pointer none, .pointer (some ⟨gv2, 0, none⟩), .slice none 0 0, .slice none 0 0, .slice none 0 0, .int .i64 0] 58 (0, 0)) := heap_set rr9 9 _
        have kk9 : ((((((((((wq3.setCell ⟨w.heap.size, 0, none⟩ (.int .i64 12)).setCell ⟨w.heap.size, 1, none⟩ (.string ⟨#[]⟩)).setCell ⟨w.heap.size, 2, none⟩ (.string ⟨#[]⟩)).setCell ⟨w.heap.size, 3, none⟩ (.pointer none)).setCell ⟨w.heap.size, 4, none⟩ (.pointer none)).setCell ⟨w.heap.size, 5, none⟩ (.pointer (some ⟨gv2, 0, none⟩))).setCell ⟨w.heap.size, 6, none⟩ (.slice none 0 0)).setCell ⟨w.heap.size, 7, none⟩ (.slice none 0 0)).setCell ⟨w.heap.size, 8, none⟩ (.slice none 0 0)).setCell ⟨w.heap.size, 9, none⟩ (.int .i64 0)).cell? ⟨w.heap.size, 9, none⟩ = some (.int .i64 0) := cell_at rr10 9
        replace kk9 := hide kk9
        simp at dd0 dd1 dd2 dd3 dd4 dd5 dd6 dd7 dd8 dd9
        clear rr0 rr1 rr2 rr3 rr4 rr5 rr6 rr7 rr8 rr9 rr10
        go_wp2_with fail
        refine bodyPost_ret (v := .agg #[.int .i64 12, .string ⟨#[]⟩, .string ⟨#[]⟩, .pointer none, .pointer none, .pointer (some ⟨gv2, 0, none⟩), .slice none 0 0, .slice none 0 0, .slice none 0 0, .int .i64 0]) (by simp [results, Tryz.results104, go_sem, kk0.out, kk1.out, kk2.out, kk3.out, kk4.out, kk5.out, kk6.out, kk7.out, kk8.out, kk9.out]) rfl ?_
        obtain ⟨q1, q2, q3⟩ := fin_got (S := (fun b => w.heap.size < b ∧ b ≠ wq2.heap.size)) (((((((((((Upd.refl (At w.heap.size) wq3).setOn 0 (.int .i64 12)).setOn 1 (.string ⟨#[]⟩)).setOn 2 (.string ⟨#[]⟩)).setOn 3 (.pointer none)).setOn 4 (.pointer none)).setOn 5 (.pointer (some ⟨gv2, 0, none⟩))).setOn 6 (.slice none 0 0)).setOn 7 (.slice none 0 0)).setOn 8 (.slice none 0 0)).setOn 9 (.int .i64 0)) ((Upd.alloc (At p) w _).then hu.out) hlt htk.out hs.out (fun b hb => hb.1) (sm_flat (k := 12) (x := []) (y := []) (e := none) (f := none) (c := some a2) (args := []) (a := a) rfl rfl hva.out (list_nil _ _))
        exact Got.ok q1 hX.out.symm ⟨⟨12, ⟨#[]⟩, ⟨#[]⟩, _, _, _, _, _, _, _, _, _, _, _, _, rfl, q3⟩, q2⟩

def PutOK (f : Nat) : Prop := ∀ (p : Nat) (C : Cx) (d n : Nat) (a : Nat) (r : List Tok) (w : World), PsW w p C d n r → putP f d a r ≠ .no →
  Calls Tryz.prog 108 #[.pointer (some ⟨p, 0, none⟩)] w fun e w' => Got p C w (SmR p C d n w.heap.size a) (putP f d a r) e w'

set_option maxRecDepth 100000 in
set_option maxHeartbeats 3200000 in
theorem put_ok : ∀ f, PutOK f := by
  intro f p C d n a r w h hno
  generalize hX : putP f d a r = X at hno ⊢
  unfold putP at hX
  have hlt := h.lt
  have htk := hide h.tokLt
  have hrp : w.heap.size ≠ p := by omega
  have hu := hide (Upd.refl (At p) (w.alloc (.cells #[.int .i64 0, .string ⟨#[]⟩, .string ⟨#[]⟩, .pointer none, .pointer none, .pointer none, .slice none 0 0, .slice none 0 0, .slice none 0 0, .int .i64 0] 58)))
  have hs := hide (h.alloc (.cells #[.int .i64 0, .string ⟨#[]⟩, .string ⟨#[]⟩, .pointer none, .pointer none, .pointer none, .slice none 0 0, .slice none 0 0, .slice none 0 0, .int .i64 0] 58))
  replace hX := hide hX
  replace hno := hide hno
  have hrs := hide (heap_new w (.cells #[.int .i64 0, .string ⟨#[]⟩, .string ⟨#[]⟩, .pointer none, .pointer none, .pointer none, .slice none 0 0, .slice none 0 0, .slice none 0 0, .int .i64 0] 58))
  have hw0 : w.heap.size < (w.alloc (.cells #[.int .i64 0, .string ⟨#[]⟩, .string ⟨#[]⟩, .pointer none, .pointer none, .pointer none, .slice none 0 0, .slice none 0 0, .slice none 0 0, .int .i64 0] 58)).heap.size := by simp
  clear h
  go_enter Tryz.func108, Tryz.ntmps108
  go_wp2_with fail
  have hG := name_any p C d n r _ hs.out
  cases hr : nameP r with
  | no =>
    have hX2 := hX.out
    rw [hr] at hX2
    try simp only [bind_no] at hX2
    exact absurd hX2.symm hno.out
  | er r9 k9 =>
    rw [hr] at hG
    have hX2 := hX.out
    rw [hr] at hX2
    try simp only [bind_er] at hX2
    replace hX := hide hX2
    refine (hG).mono ?_
    rintro e wq1 ⟨hU, rfl⟩
    replace hu := hide (hu.out.then hU)
    clear hr hG hU hX2
    go_wp2_with fail
    refine ⟨rfl, ?_⟩
    exact Got.er ((Upd.alloc (At p) w _).then hu.out) hX.out.symm
  | ok a1 r1 =>
    rw [hr] at hG
    have hX2 := hX.out
    rw [hr] at hX2
    try simp only [bind_ok] at hX2
    replace hX := hide hX2
    refine (hG).mono ?_
    rintro e wq1 ⟨hU, v1, rfl, rfl, h1⟩
    have hsz := hu.out.size
    replace hrs := hide ((hU).heap hrs.out hrp)
    replace hs := hide h1
    replace hu := hide (hu.out.then hU)
    clear hr hG hU h1 hX2 hsz
    have hbx := hide (heap_new wq1 (.cells #[.int .i64 7, .string ⟨#[]⟩, .string (strB a1), .pointer none, .pointer none, .pointer none, .slice none 0 0, .slice none 0 0, .slice none 0 0, .int .i64 0] 58))
    have hgw : w.heap.size < wq1.heap.size := Nat.lt_of_lt_of_le hw0 hu.out.size
    have hgp : wq1.heap.size ≠ p := by omega
    replace hs := hide (hs.out.alloc (.cells #[.int .i64 7, .string ⟨#[]⟩, .string (strB a1), .pointer none, .pointer none, .pointer none, .slice none 0 0, .slice none 0 0, .slice none 0 0, .int .i64 0] 58))
    replace hrs := hide (heap_old hrs.out (.cells #[.int .i64 7, .string ⟨#[]⟩, .string (strB a1), .pointer none, .pointer none, .pointer none, .slice none 0 0, .slice none 0 0, .slice none 0 0, .int .i64 0] 58))
    replace hu := hide (hu.out.then (Upd.alloc (At p) _ (.cells #[.int .i64 7, .string ⟨#[]⟩, .string (strB a1), .pointer none, .pointer none, .pointer none, .slice none 0 0, .slice none 0 0, .slice none 0 0, .int .i64 0] 58)))
    have hgu : (w.alloc (.cells #[.int .i64 0, .string ⟨#[]⟩, .string ⟨#[]⟩, .pointer none, .pointer none, .pointer none, .slice none 0 0, .slice none 0 0, .slice none 0 0, .int .i64 0] 58)).heap.size ≤ wq1.heap.size := by simp; omega
    go_wp2_with fail
    have hG := index_ok f p C d n r1 _ hs.out
    cases hr : indexP f d r1 with
    | no =>
      have hX2 := hX.out
      rw [hr] at hX2
      try simp only [bind_no] at hX2
      exact absurd hX2.symm hno.out
    | er r9 k9 =>
      rw [hr] at hG
      have hX2 := hX.out
      rw [hr] at hX2
      try simp only [bind_er] at hX2
      replace hX := hide hX2
      refine (hG (fun e => by cases e)).mono ?_
      rintro e wq2 ⟨hU, rfl⟩
      replace hu := hide (hu.out.then hU)
      clear hr hG hU hX2
      go_wp2_with fail
      refine ⟨rfl, ?_⟩
      exact Got.er ((Upd.alloc (At p) w _).then hu.out) hX.out.symm
    | ok a2 r2 =>
      rw [hr] at hG
      have hX2 := hX.out
      rw [hr] at hX2
      try simp only [bind_ok] at hX2
      replace hX := hide hX2
      refine (hG (fun e => by cases e)).mono ?_
      rintro e wq2 ⟨hU, v2, rfl, hv, h1⟩
      have hsz := hu.out.size
      have hold := (Array.getElem?_eq_some_iff.1 hbx.out).1
      replace hrs := hide ((hU).heap hrs.out hrp)
      replace hbx := hide ((hU).heap hbx.out hgp)
      have hva := hide (ExV.mono (S' := (fun b => w.heap.size < b ∧ b ≠ wq1.heap.size)) (fun b _ hb => ⟨Nat.lt_of_lt_of_le (Nat.lt_of_lt_of_le hw0 hsz) hb, fun e => by omega⟩) _ _ hv)
      clear hv
      obtain ⟨gv2, rfl⟩ := hva.out.ptr
      replace hs := hide h1
      replace hu := hide (hu.out.then hU)
      clear hr hG hU h1 hX2 hsz hold
      have cj := cell_at hbx.out 3
      simp at cj
      have fj := frozen_at hbx.out 3
      go_wp2_with fail
      have hb2 : (wq2.setCell ⟨wq1.heap.size, 3, none⟩ (.pointer (some ⟨gv2, 0, none⟩))).heap[wq1.heap.size]? = some (.cells #[.int .i64 7, .string ⟨#[]⟩, .string (strB a1), .pointer (some ⟨gv2, 0, none⟩), .pointer none, .pointer none, .slice none 0 0, .slice none 0 0, .slice none 0 0, .int .i64 0] 58 (0, 0)) := heap_set hbx.out 3 _
      replace hbx := hide hb2
      clear hb2 cj fj
      replace hva := hide (ExV.upd (set_upd wq2 (wq1.heap.size) 3 (.pointer (some ⟨gv2, 0, none⟩))) (fun b hb => hb.2) _ _ hva.out)
      replace hrs := hide ((set_upd wq2 (wq1.heap.size) 3 (.pointer (some ⟨gv2, 0, none⟩))).heap hrs.out (by simp only [At]; omega))
      replace hs := hide (hs.out.setNew hlt htk.out (Nat.le_of_lt hgw) 3 (.pointer (some ⟨gv2, 0, none⟩)))
      replace hu := hide (hu.out.setNew (hgu) 3 (.pointer (some ⟨gv2, 0, none⟩)))
      have hG := expect_any [61] (by decide) p C d n r2 _ hs.out
      cases hr : want [61] r2 with
      | no =>
        have hX2 := hX.out
        rw [hr] at hX2
        try simp only [bind_no] at hX2
        exact absurd hX2.symm hno.out
      | er r9 k9 =>
        rw [hr] at hG
        have hX2 := hX.out
        rw [hr] at hX2
        try simp only [bind_er] at hX2
        replace hX := hide hX2
        refine (hG).mono ?_
        rintro e wq3 ⟨hU, rfl⟩
        replace hu := hide (hu.out.then hU)
        clear hr hG hU hX2
        go_wp2_with fail
        refine ⟨rfl, ?_⟩
        exact Got.er ((Upd.alloc (At p) w _).then hu.out) hX.out.symm
      | ok a3 r3 =>
        rw [hr] at hG
        have hX2 := hX.out
        rw [hr] at hX2
        try simp only [bind_ok] at hX2
        replace hX := hide hX2
        refine (hG).mono ?_
        rintro e wq3 ⟨hU, v3, rfl, rfl, h1⟩
        have hsz := hu.out.size
        have hold := (Array.getElem?_eq_some_iff.1 hbx.out).1
        replace hva := hide (ExV.upd (hU) (fun b hb => above_not hlt b (Nat.le_of_lt hb.1)) _ _ hva.out)
        replace hrs := hide ((hU).heap hrs.out hrp)
        replace hbx := hide ((hU).heap hbx.out hgp)
        replace hs := hide h1
        replace hu := hide (hu.out.then hU)
        clear hr hG hU h1 hX2 hsz hold
        go_wp2_with fail
        have hG := sumP_ok f p C d n r3 _ hs.out
        cases hr : sumP f d r3 with
        | no =>
          have hX2 := hX.out
          rw [hr] at hX2
          try simp only [bind_no] at hX2
          exact absurd hX2.symm hno.out
        | er r9 k9 =>
          rw [hr] at hG
          have hX2 := hX.out
          rw [hr] at hX2
          try simp only [bind_er] at hX2
          replace hX := hide hX2
          refine (hG (fun e => by cases e)).mono ?_
          rintro e wq4 ⟨hU, rfl⟩
          replace hu := hide (hu.out.then hU)
          clear hr hG hU hX2
          go_wp2_with fail
          refine ⟨rfl, ?_⟩
          exact Got.er ((Upd.alloc (At p) w _).then hu.out) hX.out.symm
        | ok a4 r4 =>
          rw [hr] at hG
          have hX2 := hX.out
          rw [hr] at hX2
          try simp only [bind_ok] at hX2
          replace hX := hide hX2
          refine (hG (fun e => by cases e)).mono ?_
          rintro e wq4 ⟨hU, v4, rfl, hv, h1⟩
          have hsz := hu.out.size
          have hold := (Array.getElem?_eq_some_iff.1 hbx.out).1
          replace hva := hide (ExV.upd (hU) (fun b hb => above_not hlt b (Nat.le_of_lt hb.1)) _ _ hva.out)
          replace hrs := hide ((hU).heap hrs.out hrp)
          replace hbx := hide ((hU).heap hbx.out hgp)
          have hvb := hide (ExV.mono (S' := (fun b => w.heap.size < b ∧ b ≠ wq1.heap.size)) (fun b _ hb => ⟨Nat.lt_of_lt_of_le (Nat.lt_of_lt_of_le hw0 hsz) hb, fun e => by omega⟩) _ _ hv)
          clear hv
          obtain ⟨gv4, rfl⟩ := hvb.out.ptr
          replace hs := hide h1
          replace hu := hide (hu.out.then hU)
          clear hr hG hU h1 hX2 hsz hold
          have cj := cell_at hbx.out 4
          simp at cj
          have fj := frozen_at hbx.out 4
          go_wp2_with fail
          have hb2 : (wq4.setCell ⟨wq1.heap.size, 4, none⟩ (.pointer (some ⟨gv4, 0, none⟩))).heap[wq1.heap.size]? = some (.cells #[.int .i64 7, .string ⟨#[]⟩, .string (strB a1), .pointer (some ⟨gv2, 0, none⟩), .pointer (some ⟨gv4, 0, none⟩), .pointer none, .slice none 0 0, .slice none 0 0, .slice none 0 0, .int .i64 0] 58 (0, 0)) := heap_set hbx.out 4 _
          replace hbx := hide hb2
          clear hb2 cj fj
          replace hva := hide (ExV.upd (set_upd wq4 (wq1.heap.size) 4 (.pointer (some ⟨gv4, 0, none⟩))) (fun b hb => hb.2) _ _ hva.out)
          replace hvb := hide (ExV.upd (set_upd wq4 (wq1.heap.size) 4 (.pointer (some ⟨gv4, 0, none⟩))) (fun b hb => hb.2) _ _ hvb.out)
          replace hrs := hide ((set_upd wq4 (wq1.heap.size) 4 (.pointer (some ⟨gv4, 0, none⟩))).heap hrs.out (by simp only [At]; omega))
          replace hs := hide (hs.out.setNew hlt htk.out (Nat.le_of_lt hgw) 4 (.pointer (some ⟨gv4, 0, none⟩)))
          replace hu := hide (hu.out.setNew (hgu) 4 (.pointer (some ⟨gv4, 0, none⟩)))
          have hG := expect_any [59] (by decide) p C d n r4 _ hs.out
          cases hr : want [59] r4 with
          | no =>
            have hX2 := hX.out
            rw [hr] at hX2
            try simp only [bind_no] at hX2
            exact absurd hX2.symm hno.out
          | er r9 k9 =>
            rw [hr] at hG
            have hX2 := hX.out
            rw [hr] at hX2
            try simp only [bind_er] at hX2
            replace hX := hide hX2
            refine (hG).mono ?_
            rintro e wq5 ⟨hU, rfl⟩
            replace hu := hide (hu.out.then hU)
            clear hr hG hU hX2
            go_wp2_with fail
            refine ⟨rfl, ?_⟩
            exact Got.er ((Upd.alloc (At p) w _).then hu.out) hX.out.symm
          | ok a5 r5 =>
            rw [hr] at hG
            have hX2 := hX.out
            rw [hr] at hX2
            try simp only [bind_ok] at hX2
            replace hX := hide hX2
            refine (hG).mono ?_
            rintro e wq5 ⟨hU, v5, rfl, rfl, h1⟩
            have hsz := hu.out.size
            have hold := (Array.getElem?_eq_some_iff.1 hbx.out).1
            replace hva := hide (ExV.upd (hU) (fun b hb => above_not hlt b (Nat.le_of_lt hb.1)) _ _ hva.out)
            replace hvb := hide (ExV.upd (hU) (fun b hb => above_not hlt b (Nat.le_of_lt hb.1)) _ _ hvb.out)
            replace hrs := hide ((hU).heap hrs.out hrp)
            replace hbx := hide ((hU).heap hbx.out hgp)
            replace hs := hide h1
            replace hu := hide (hu.out.then hU)
            clear hr hG hU h1 hX2 hsz hold
            have cc0 := cell_at hbx.out 0
            have cc1 := cell_at hbx.out 1
            have cc2 := cell_at hbx.out 2
            have cc3 := cell_at hbx.out 3
            have cc4 := cell_at hbx.out 4
            have cc5 := cell_at hbx.out 5
            have cc6 := cell_at hbx.out 6
            have cc7 := cell_at hbx.out 7
            have cc8 := cell_at hbx.out 8
            have cc9 := cell_at hbx.out 9
            simp at cc0 cc1 cc2 cc3 cc4 cc5 cc6 cc7 cc8 cc9
            have rr0 := hrs.out
            have dd0 := cell_at rr0 0
            have ff0 := frozen_at rr0 0
            have rr1 : (wq5.setCell ⟨w.heap.size, 0, none⟩ (.int .i64 7)).heap[w.heap.size]? = some (.cells #[.int .i64 7, .string ⟨#[]⟩, .string ⟨#[]⟩, .pointer none, .pointer none, .pointer none, .slice none 0 0, .slice none 0 0, .slice none 0 0, .int .i64 0] 58 (0, 0)) := heap_set rr0 0 _
            have kk0 : (wq5.setCell ⟨w.heap.size, 0, none⟩ (.int .i64 7)).cell? ⟨w.heap.size, 0, none⟩ = some (.int .i64 7) := cell_at rr1 0
            replace kk0 := hide kk0
            have dd1 := cell_at rr1 1
            have ff1 := frozen_at rr1 1
            have rr2 : ((wq5.setCell ⟨w.heap.size, 0, none⟩ (.int .i64 7)).setCell ⟨w.heap.size, 1, none⟩ (.string ⟨#[]⟩)).heap[w.heap.size]? = some (.cells #[.int .i64 7, .string ⟨#[]⟩, .string ⟨#[]⟩, .pointer none, .pointer none, .pointer none, .slice none 0 0, .slice none 0 0, .slice none 0 0, .int .i64 0] 58 (0, 0)) := heap_set rr1 1 _
            have kk1 : ((wq5.setCell ⟨w.heap.size, 0, none⟩ (.int .i64 7)).setCell ⟨w.heap.size, 1, none⟩ (.string ⟨#[]⟩)).cell? ⟨w.heap.size, 1, none⟩ = some (.string ⟨#[]⟩) := cell_at rr2 1
            replace kk1 := hide kk1
            have dd2 := cell_at rr2 2
            have ff2 := frozen_at rr2 2
            have rr3 : (((wq5.setCell ⟨w.heap.size, 0, none⟩ (.int .i64 7)).setCell ⟨w.heap.size, 1, none⟩ (.string ⟨#[]⟩)).setCell ⟨w.heap.size, 2, none⟩ (.string (strB a1))).heap[w.heap.size]? = some (.cells #[.int .i64 7, .string ⟨#[]⟩, .string (strB a1), .pointer none, .pointer none, .pointer none, .slice none 0 0, .slice none 0 0, .slice none 0 0, .int .i64 0] 58 (0, 0)) := heap_set rr2 2 _
            have kk2 : (((wq5.setCell ⟨w.heap.size, 0, none⟩ (.int .i64 7)).setCell ⟨w.heap.size, 1, none⟩ (.string ⟨#[]⟩)).setCell ⟨w.heap.size, 2, none⟩ (.string (strB a1))).cell? ⟨w.heap.size, 2, none⟩ = some (.string (strB a1)) := cell_at rr3 2
            replace kk2 := hide kk2
            have dd3 := cell_at rr3 3
            have ff3 := frozen_at rr3 3
            have rr4 : ((((wq5.setCell ⟨w.heap.size, 0, none⟩ (.int .i64 7)).setCell ⟨w.heap.size, 1, none⟩ (.string ⟨#[]⟩)).setCell ⟨w.heap.size, 2, none⟩ (.string (strB a1))).setCell ⟨w.heap.size, 3, none⟩ (.pointer (some ⟨gv2, 0, none⟩))).heap[w.heap.size]? = some (.cells #[.int .i64 7, .string ⟨#[]⟩, .string (strB a1), .pointer (some ⟨gv2, 0, none⟩), .pointer none, .pointer none, .slice none 0 0, .slice none 0 0, .slice none 0 0, .int .i64 0] 58 (0, 0)) := heap_set rr3 3 _
            have kk3 : ((((wq5.setCell ⟨w.heap.size, 0, none⟩ (.int .i64 7)).setCell ⟨w.heap.size, 1, none⟩ (.string ⟨#[]⟩)).setCell ⟨w.heap.size, 2, none⟩ (.string (strB a1))).setCell ⟨w.heap.size, 3, none⟩ (.pointer (some ⟨gv2, 0, none⟩))).cell? ⟨w.heap.size, 3, none⟩ = some (.pointer (some ⟨gv2, 0, none⟩)) := cell_at rr4 3
            replace kk3 := hide kk3
            have dd4 := cell_at rr4 4
            have ff4 := frozen_at rr4 4
            have rr5 : (((((wq5.setCell ⟨w.heap.size, 0, none⟩ (.int .i64 7)).setCell ⟨w.heap.size, 1, none⟩ (.string ⟨#[]⟩)).setCell ⟨w.heap.size, 2, none⟩ (.string (strB a1))).setCell ⟨w.heap.size, 3, none⟩ (.pointer (some ⟨gv2, 0, none⟩))).setCell ⟨w.heap.size, 4, none⟩ (.pointer (some ⟨gv4, 0, none⟩))).heap[w.heap.size]? = some (.cells #[.int .i64 7, .string ⟨#[]⟩, .string (strB a1), .pointer (some ⟨gv2, 0, none⟩), .pointer (some ⟨gv4, 0, none⟩), .pointer none, .slice none 0 0, .slice none 0 0, .slice none 0 0, .int .i64 0] 58 (0, 0)) := heap_set rr4 4 _
            have kk4 : (((((wq5.setCell ⟨w.heap.size, 0, none⟩ (.int .i64 7)).setCell ⟨w.heap.size, 1, none⟩ (.string ⟨#[]⟩)).setCell ⟨w.heap.size, 2, none⟩ (.string (strB a1))).setCell ⟨w.heap.size, 3, none⟩ (.pointer (some ⟨gv2, 0, none⟩))).setCell ⟨w.heap.size, 4, none⟩ (.pointer (some ⟨gv4, 0, none⟩))).cell? ⟨w.heap.size, 4, none⟩ = some (.pointer (some ⟨gv4, 0, none⟩)) := cell_at rr5 4
            replace kk4 := hide kk4
            have dd5 := cell_at rr5 5
            have ff5 := frozen_at rr5 5
            have rr6 : ((((((wq5.setCell ⟨w.heap.size, 0, none⟩ (.int .i64 7)).setCell ⟨w.heap.size, 1, none⟩ (.string ⟨#[]⟩)).setCell ⟨w.heap.size, 2, none⟩ (.string (strB a1))).setCell ⟨w.heap.size, 3, none⟩ (.pointer (some ⟨gv2, 0, none⟩))).setCell ⟨w.heap.size, 4, none⟩ (.pointer (some ⟨gv4, 0, none⟩))).setCell ⟨w.heap.size, 5, none⟩ (.pointer none)).heap[w.heap.size]? = some (.cells #[.int .i64 7, .string ⟨#[]⟩, .string (strB a1), .pointer (some ⟨gv2, 0, none⟩), .pointer (some ⟨gv4, 0, none⟩), .pointer none, .slice none 0 0, .slice none 0 0, .slice none 0 0, .int .i64 0] 58 (0, 0)) := heap_set rr5 5 _
            have kk5 : ((((((wq5.setCell ⟨w.heap.size, 0, none⟩ (.int .i64 7)).setCell ⟨w.heap.size, 1, none⟩ (.string ⟨#[]⟩)).setCell ⟨w.heap.size, 2, none⟩ (.string (strB a1))).setCell ⟨w.heap.size, 3, none⟩ (.pointer (some ⟨gv2, 0, none⟩))).setCell ⟨w.heap.size, 4, none⟩ (.pointer (some ⟨gv4, 0, none⟩))).setCell ⟨w.heap.size, 5, none⟩ (.pointer none)).cell? ⟨w.heap.size, 5, none⟩ = some (.pointer none) := cell_at rr6 5
            replace kk5 := hide kk5
            have dd6 := cell_at rr6 6
            have ff6 := frozen_at rr6 6
            have rr7 : (((((((wq5.setCell ⟨w.heap.size, 0, none⟩ (.int .i64 7)).setCell ⟨w.heap.size, 1, none⟩ (.string ⟨#[]⟩)).setCell ⟨w.heap.size, 2, none⟩ (.string (strB a1))).setCell ⟨w.heap.size, 3, none⟩ (.pointer (some ⟨gv2, 0, none⟩))).setCell ⟨w.heap.size, 4, none⟩ (.pointer (some ⟨gv4, 0, none⟩))).setCell ⟨w.heap.size, 5, none⟩ (.pointer none)).setCell ⟨w.heap.size, 6, none⟩ (.slice none 0 0)).heap[w.heap.size]? = some (.cells #[.int .i64 7, .string ⟨#[]⟩, .string (strB a1), .pointer (some ⟨gv2, 0, none⟩), .pointer (some ⟨gv4, 0, none⟩), .pointer none, .slice none 0 0, .slice none 0 0, .slice none 0 0, .int .i64 0] 58 (0, 0)) := heap_set rr6 6 _
            have kk6 : (((((((wq5.setCell ⟨w.heap.size, 0, none⟩ (.int .i64 7)).setCell ⟨w.heap.size, 1, none⟩ (.string ⟨#[]⟩)).setCell ⟨w.heap.size, 2, none⟩ (.string (strB a1))).setCell ⟨w.heap.size, 3, none⟩ (.pointer (some ⟨gv2, 0, none⟩))).setCell ⟨w.heap.size, 4, none⟩ (.pointer (some ⟨gv4, 0, none⟩))).setCell ⟨w.heap.size, 5, none⟩ (.pointer none)).setCell ⟨w.heap.size, 6, none⟩ (.slice none 0 0)).cell? ⟨w.heap.size, 6, none⟩ = some (.slice none 0 0) := cell_at rr7 6
            replace kk6 := hide kk6
            have dd7 := cell_at rr7 7
            have ff7 := frozen_at rr7 7
            have rr8 : ((((((((wq5.setCell ⟨w.heap.size, 0, none⟩ (.int .i64 7)).setCell ⟨w.heap.size, 1, none⟩ (.string ⟨#[]⟩)).setCell ⟨w.heap.size, 2, none⟩ (.string (strB a1))).setCell ⟨w.heap.size, 3, none⟩ (.pointer (some ⟨gv2, 0, none⟩))).setCell ⟨w.heap.size, 4, none⟩ (.pointer (some ⟨gv4, 0, none⟩))).setCell ⟨w.heap.size, 5, none⟩ (.pointer none)).setCell ⟨w.heap.size, 6, none⟩ (.slice none 0 0)).setCell ⟨w.heap.size, 7, none⟩ (.slice none 0 0)).heap[w.heap.size]? = some (.cells #[.int .i64 7, .string ⟨#[]⟩, .string (strB a1), .pointer (some ⟨gv2, 0, none⟩), .pointer (some ⟨gv4, 0, none⟩), .pointer none, .slice none 0 0, .slice none 0 0, .slice none 0 0, .int .i64 0] 58 (0, 0)) := heap_set rr7 7 _
            have kk7 : ((((((((wq5.setCell ⟨w.heap.size, 0, none⟩ (.int .i64 7)).setCell ⟨w.heap.size, 1, none⟩ (.string ⟨#[]⟩)).setCell ⟨w.heap.size, 2, none⟩ (.string (strB a1))).setCell ⟨w.heap.size, 3, none⟩ (.pointer (some ⟨gv2, 0, none⟩))).setCell ⟨w.heap.size, 4, none⟩ (.pointer (some ⟨gv4, 0, none⟩))).setCell ⟨w.heap.size, 5, none⟩ (.pointer none)).setCell ⟨w.heap.size, 6, none⟩ (.slice none 0 0)).setCell ⟨w.heap.size, 7, none⟩ (.slice none 0 0)).cell? ⟨w.heap.size, 7, none⟩ = some (.slice none 0 0) := cell_at rr8 7
            replace kk7 := hide kk7
            have dd8 := cell_at rr8 8
            have ff8 := frozen_at rr8 8
            have rr9 : (((((((((wq5.setCell ⟨w.heap.size, 0, none⟩ (.int .i64 7)).setCell ⟨w.heap.size, 1, none⟩ (.string ⟨#[]⟩)).setCell ⟨w.heap.size, 2, none⟩ (.string (strB a1))).setCell ⟨w.heap.size, 3, none⟩ (.pointer (some ⟨gv2, 0, none⟩))).setCell ⟨w.heap.size, 4, none⟩ (.pointer (some ⟨gv4, 0, none⟩))).setCell ⟨w.heap.size, 5, none⟩ (.pointer none)).setCell ⟨w.heap.size, 6, none⟩ (.slice none 0 0)).setCell ⟨w.heap.size, 7, none⟩ (.slice none 0 0)).setCell ⟨w.heap.size, 8, none⟩ (.slice none 0 0)).heap[w.heap.size]? = some (.cells #[.int .i64 7, .string ⟨#[]⟩, .string (strB a1), .pointer (some ⟨gv2, 0, none⟩), .pointer (some ⟨gv4, 0, none⟩), .pointer none, .slice none 0 0, .slice none 0 0, .slice none 0 0, .int .i64 0] 58 (0, 0)) := heap_set rr8 8 _
            have kk8 : (((((((((wq5.setCell ⟨w.heap.size, 0, none⟩ (.int .i64 7)).setCell ⟨w.heap.size, 1, none⟩ (.string ⟨#[]⟩)).setCell ⟨w.heap.size, 2, none⟩ (.string (strB a1))).setCell ⟨w.heap.size, 3, none⟩ (.pointer (some ⟨gv2, 0, none⟩))).setCell ⟨w.heap.size, 4, none⟩ (.pointer (some ⟨gv4, 0, none⟩))).setCell ⟨w.heap.size, 5, none⟩ (.pointer none)).setCell ⟨w.heap.size, 6, none⟩ (.slice none 0 0)).setCell ⟨w.heap.size, 7, none⟩ (.slice none 0 0)).setCell ⟨w.heap.size, 8, none⟩ (.slice none 0 0)).cell? ⟨w.heap.size, 8, none⟩ = some (.slice none 0 0) := cell_at rr9 8
            replace kk8 := hide kk8
            have dd9 := cell_at rr9 9
            have ff9 := frozen_at rr9 9
            have rr10 : ((((((((((wq5.setCell ⟨w.heap.size, 0, none⟩ (.int .i64 7)).setCell ⟨w.heap.size, 1, none⟩ (.string ⟨#[]⟩)).setCell ⟨w.heap.size, 2, none⟩ (.string (strB a1))).setCell ⟨w.heap.size, 3, none⟩ (.pointer (some ⟨gv2, 0, none⟩))).setCell ⟨w.heap.size, 4, none⟩ (.pointer (some ⟨gv4, 0, none⟩))).setCell ⟨w.heap.size, 5, none⟩ (.pointer none)).setCell ⟨w.heap.size, 6, none⟩ (.slice none 0 0)).setCell ⟨w.heap.size, 7, none⟩ (.slice none 0 0)).setCell ⟨w.heap.size, 8, none⟩ (.slice none 0 0)).setCell ⟨w.heap.size, 9, none⟩ (.int .i64 0)).heap[w.heap.size]? = some (.cells #[.int .i64 7, .string ⟨#[]⟩, .string (strB a1), .pointer (some ⟨gv2, 0, none⟩), .pointer (some ⟨gv4, 0, none⟩), .pointer none, .slice none 0 0, .slice none 0 0, .slice none 0 0, .int .i64 0] 58 (0, 0)) := heap_set rr9 9 _
            have kk9 : ((((((((((wq5.setCell ⟨w.heap.size, 0, none⟩ (.int .i64 7)).setCell ⟨w.heap.size, 1, none⟩ (.string ⟨#[]⟩)).setCell ⟨w.heap.size, 2, none⟩ (.string (strB a1))).setCell ⟨w.heap.size, 3, none⟩ (.pointer (some ⟨gv2, 0, none⟩))).setCell ⟨w.heap.size, 4, none⟩ (.pointer (some ⟨gv4, 0, none⟩))).setCell ⟨w.heap.size, 5, none⟩ (.pointer none)).setCell ⟨w.heap.size, 6, none⟩ (.slice none 0 0)).setCell ⟨w.heap.size, 7, none⟩ (.slice none 0 0)).setCell ⟨w.heap.size, 8, none⟩ (.slice none 0 0)).setCell ⟨w.heap.size, 9, none⟩ (.int .i64 0)).cell? ⟨w.heap.size, 9, none⟩ = some (.int .i64 0) := cell_at rr10 9
            replace kk9 := hide kk9
            simp at dd0 dd1 dd2 dd3 dd4 dd5 dd6 dd7 dd8 dd9
            clear rr0 rr1 rr2 rr3 rr4 rr5 rr6 rr7 rr8 rr9 rr10
            go_wp2_with fail
            refine bodyPost_ret (v := .agg #[.int .i64 7, .string ⟨#[]⟩, .string (strB a1), .pointer (some ⟨gv2, 0, none⟩), .pointer (some ⟨gv4, 0, none⟩), .pointer none, .slice none 0 0, .slice none 0 0, .slice none 0 0, .int .i64 0]) (by simp [results, Tryz.results108, go_sem, kk0.out, kk1.out, kk2.out, kk3.out, kk4.out, kk5.out, kk6.out, kk7.out, kk8.out, kk9.out]) rfl ?_
            obtain ⟨q1, q2, q3⟩ := fin_got (S := (fun b => w.heap.size < b ∧ b ≠ wq1.heap.size)) (((((((((((Upd.refl (At w.heap.size) wq5).setOn 0 (.int .i64 7)).setOn 1 (.string ⟨#[]⟩)).setOn 2 (.string (strB a1))).setOn 3 (.pointer (some ⟨gv2, 0, none⟩))).setOn 4 (.pointer (some ⟨gv4, 0, none⟩))).setOn 5 (.pointer none)).setOn 6 (.slice none 0 0)).setOn 7 (.slice none 0 0)).setOn 8 (.slice none 0 0)).setOn 9 (.int .i64 0)) ((Upd.alloc (At p) w _).then hu.out) hlt htk.out hs.out (fun b hb => hb.1) (sm_flat (k := 7) (x := []) (y := a1) (e := some a2) (f := some a4) (c := none) (args := []) (a := a) hva.out hvb.out rfl (list_nil _ _))
            exact Got.ok q1 hX.out.symm ⟨⟨7, ⟨#[]⟩, strB a1, _, _, _, _, _, _, _, _, _, _, _, _, rfl, q3⟩, q2⟩
end Go.Proofs.YteplkhgaoaphhaaGreatDoor
