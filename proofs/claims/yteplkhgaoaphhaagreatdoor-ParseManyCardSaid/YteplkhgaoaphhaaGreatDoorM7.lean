/- Part 7 of the walks (merged): PsF. -/
import Derived.Test.YteplkhgaoaphhaaGreatDoorM6
/- Walks of the parser's methods for expressions: operand. Written by mkexpr.py. -/
namespace Go.Proofs.YteplkhgaoaphhaaGreatDoor
open Go Go.RowKit Go.Lib

theorem bind_ok {α β : Type} (a : α) (r : List Tok) (f : α → List Tok → Rs β) : (Rs.ok a r).bind f = f a r := rfl
theorem bind_er {α β : Type} (r : List Tok) (k : Nat) (f : α → List Tok → Rs β) : (Rs.er r k : Rs α).bind f = .er r k := rfl
theorem bind_no {α β : Type} (f : α → List Tok → Rs β) : (Rs.no : Rs α).bind f = .no := rfl
theorem above_not {p B : Nat} (h : p < B) : ∀ b, B ≤ b → ¬ At p b := fun b hb e => by
  simp only [At] at e
  omega
theorem eq1_iff {r : List Tok} (len : Nat) : (((hdT len r).kind : Int) == 1) = isNum r := by
  rw [← isNum_hd len]
  by_cases h : (hdT len r).kind = 1
  · rw [h]; rfl
  · rw [beq_false_of_ne h]
    exact beq_false_of_ne (by omega)

set_option maxRecDepth 100000 in
set_option maxHeartbeats 1600000 in
theorem operand_succ (f : Nat) (hU : UnOK f) (hS : SumOK f) : UnOK (f + 1) := by
  intro p C d n r w h hno
  generalize hX : un (f + 1) d r = X at hno ⊢
  unfold un at hX
  replace hU := hide hU
  replace hS := hide hS
  have hlt := h.lt
  have hu := hide (Upd.refl (At p) w)
  have hs := hide h
  replace hX := hide hX
  replace hno := hide hno
  clear h
  go_enter Tryz.func136, Tryz.ntmps136
  go_wp2_with fail
  by_cases hx0 : nx r [45] = true
  · have hX2 := hX.out
    rw [if_pos hx0] at hX2
    replace hX := hide hX2
    clear hX2
    have hx0h := hide hx0
    have hI := isNext_any [45] p C d n r _ hs.out
    rw [hx0] at hI
    refine hI.mono ?_
    rintro e wq1 ⟨rfl, hb⟩
    clear hI
    replace hs := hide (hs.out.below hb)
    replace hu := hide (hu.out.then (at_below hb))
    clear hb
    go_wp2_with fail
    have hG := enter_any [45] (by decide) p C d n r _ hs.out
    cases hr : enterP [45] d r with
    | no =>
      have hX2 := hX.out
      rw [hr] at hX2
      try simp only [bind_no] at hX2
      exact absurd hX2.symm hno.out
    | er r9 k9 =>
      rw [hr] at hG
      have hX2 := hX.out
      rw [hr] at hX2
      try simp only [bind_er] at hX2
      replace hX := hide hX2
      refine (hG).mono ?_
      rintro e wq2 ⟨hU, rfl⟩
      replace hu := hide (hu.out.then hU)
      clear hr hG hU hX2
      go_wp2_with fail
      refine ⟨rfl, ?_⟩
      exact Got.er hu.out hX.out.symm
    | ok a2 r2 =>
      rw [hr] at hG
      have hX2 := hX.out
      rw [hr] at hX2
      try simp only [bind_ok] at hX2
      replace hX := hide hX2
      refine (hG).mono ?_
      rintro e wq2 ⟨hU, v2, rfl, rfl, h1⟩
      have hsz := hu.out.size
      replace hs := hide h1
      replace hu := hide (hu.out.then hU)
      clear hr hG hU h1 hX2 hsz
      go_wp2_with fail
      have hG := hU.out p C (d + 1) n r2 _ hs.out
      cases hr : un f (d + 1) r2 with
      | no =>
        have hX2 := hX.out
        rw [hr] at hX2
        try simp only [bind_no] at hX2
        exact absurd hX2.symm hno.out
      | er r9 k9 =>
        rw [hr] at hG
        have hX2 := hX.out
        rw [hr] at hX2
        try simp only [bind_er] at hX2
        replace hX := hide hX2
        refine (hG (fun e => by cases e)).mono ?_
        rintro e wq3 ⟨hU, rfl⟩
        replace hu := hide (hu.out.then hU)
        clear hr hG hU hX2
        go_wp2_with fail
        refine ⟨rfl, ?_⟩
        exact Got.er hu.out hX.out.symm
      | ok a3 r3 =>
        rw [hr] at hG
        have hX2 := hX.out
        rw [hr] at hX2
        try simp only [bind_ok] at hX2
        replace hX := hide hX2
        refine (hG (fun e => by cases e)).mono ?_
        rintro e wq3 ⟨hU, v3, rfl, hv, h1⟩
        have hsz := hu.out.size
        have hva := hide (ExV.mono (S' := (w.heap.size ≤ ·)) (fun b _ hb => Nat.le_trans hsz hb) _ _ hv)
        clear hv
        obtain ⟨gv3, rfl⟩ := hva.out.ptr
        replace hs := hide h1
        replace hu := hide (hu.out.then hU)
        clear hr hG hU h1 hX2 hsz
        have hg := hide (heap_new wq3 (.cells #[.int .i64 7, .int .i64 0, .string ⟨#[]⟩, .pointer (some ⟨gv3, 0, none⟩), .pointer none] 63))
        have hgs := hu.out.size
        replace hs := hide (hs.out.alloc (.cells #[.int .i64 7, .int .i64 0, .string ⟨#[]⟩, .pointer (some ⟨gv3, 0, none⟩), .pointer none] 63))
        replace hva := hide (ExV.upd (Upd.alloc (fun _ => False) _ (.cells #[.int .i64 7, .int .i64 0, .string ⟨#[]⟩, .pointer (some ⟨gv3, 0, none⟩), .pointer none] 63)) (fun _ _ => id) _ _ hva.out)
        replace hu := hide (hu.out.then (Upd.alloc (At p) _ (.cells #[.int .i64 7, .int .i64 0, .string ⟨#[]⟩, .pointer (some ⟨gv3, 0, none⟩), .pointer none] 63)))
        have hn : Hid (ExV (wq3.alloc (.cells #[.int .i64 7, .int .i64 0, .string ⟨#[]⟩, .pointer (some ⟨gv3, 0, none⟩), .pointer none] 63)) (w.heap.size ≤ ·) (.neg a3) _) := hide ⟨_, ⟨_, rfl, hgs, hg.out⟩, hva.out⟩
        clear hg hgs hva
        go_wp2_with fail
        refine (leave_any p C d n r3 _ hs.out).mono ?_
        rintro e wq4 ⟨rfl, hU, h1⟩
        replace hn := hide (ExV.upd (hU) (above_not hlt) _ _ hn.out)
        replace hs := hide h1
        replace hu := hide (hu.out.then hU)
        clear hU h1
        go_wp2_with fail
        go_ret
        exact Got.ok hu.out hX.out.symm ⟨hn.out, hs.out⟩
  · have hx0 : nx r [45] = false := by simpa using hx0
    have hX2 := hX.out
    rw [if_neg (by rw [hx0]; exact Bool.false_ne_true)] at hX2
    replace hX := hide hX2
    clear hX2
    have hx0h := hide hx0
    have hI := isNext_any [45] p C d n r _ hs.out
    rw [hx0] at hI
    refine hI.mono ?_
    rintro e wq1 ⟨rfl, hb⟩
    clear hI
    replace hs := hide (hs.out.below hb)
    replace hu := hide (hu.out.then (at_below hb))
    clear hb
    go_wp2_with fail
    by_cases hx1 : nx r [40] = true
    · have hX2 := hX.out
      rw [if_pos hx1] at hX2
      replace hX := hide hX2
      clear hX2
      have hx1h := hide hx1
      have hI := isNext_any [40] p C d n r _ hs.out
      rw [hx1] at hI
      refine hI.mono ?_
      rintro e wq2 ⟨rfl, hb⟩
      clear hI
      replace hs := hide (hs.out.below hb)
      replace hu := hide (hu.out.then (at_below hb))
      clear hb
      go_wp2_with fail
      have hG := enter_any [40] (by decide) p C d n r _ hs.out
      cases hr : enterP [40] d r with
      | no =>
        have hX2 := hX.out
        rw [hr] at hX2
        try simp only [bind_no] at hX2
        exact absurd hX2.symm hno.out
      | er r9 k9 =>
        rw [hr] at hG
        have hX2 := hX.out
        rw [hr] at hX2
        try simp only [bind_er] at hX2
        replace hX := hide hX2
        refine (hG).mono ?_
        rintro e wq3 ⟨hU, rfl⟩
        replace hu := hide (hu.out.then hU)
        clear hr hG hU hX2
        go_wp2_with fail
        refine ⟨rfl, ?_⟩
        exact Got.er hu.out hX.out.symm
      | ok a3 r3 =>
        rw [hr] at hG
        have hX2 := hX.out
        rw [hr] at hX2
        try simp only [bind_ok] at hX2
        replace hX := hide hX2
        refine (hG).mono ?_
        rintro e wq3 ⟨hU, v3, rfl, rfl, h1⟩
        have hsz := hu.out.size
        replace hs := hide h1
        replace hu := hide (hu.out.then hU)
        clear hr hG hU h1 hX2 hsz
        go_wp2_with fail
        have hG := hS.out p C (d + 1) n r3 _ hs.out
        cases hr : sumOf (un f (d + 1)) f r3 with
        | no =>
          have hX2 := hX.out
          rw [hr] at hX2
          try simp only [bind_no] at hX2
          exact absurd hX2.symm hno.out
        | er r9 k9 =>
          rw [hr] at hG
          have hX2 := hX.out
          rw [hr] at hX2
          try simp only [bind_er] at hX2
          replace hX := hide hX2
          refine (hG (fun e => by cases e)).mono ?_
          rintro e wq4 ⟨hU, rfl⟩
          replace hu := hide (hu.out.then hU)
          clear hr hG hU hX2
          go_wp2_with fail
          refine ⟨rfl, ?_⟩
          exact Got.er hu.out hX.out.symm
        | ok a4 r4 =>
          rw [hr] at hG
          have hX2 := hX.out
          rw [hr] at hX2
          try simp only [bind_ok] at hX2
          replace hX := hide hX2
          refine (hG (fun e => by cases e)).mono ?_
          rintro e wq4 ⟨hU, v4, rfl, hv, h1⟩
          have hsz := hu.out.size
          have hva := hide (ExV.mono (S' := (w.heap.size ≤ ·)) (fun b _ hb => Nat.le_trans hsz hb) _ _ hv)
          clear hv
          obtain ⟨gv4, rfl⟩ := hva.out.ptr
          replace hs := hide h1
          replace hu := hide (hu.out.then hU)
          clear hr hG hU h1 hX2 hsz
          go_wp2_with fail
          have hG := expect_any [41] (by decide) p C (d + 1) n r4 _ hs.out
          cases hr : want [41] r4 with
          | no =>
            have hX2 := hX.out
            rw [hr] at hX2
            try simp only [bind_no] at hX2
            exact absurd hX2.symm hno.out
          | er r9 k9 =>
            rw [hr] at hG
            have hX2 := hX.out
            rw [hr] at hX2
            try simp only [bind_er] at hX2
            replace hX := hide hX2
            refine (hG).mono ?_
            rintro e wq5 ⟨hU, rfl⟩
            replace hu := hide (hu.out.then hU)
            clear hr hG hU hX2
            go_wp2_with fail
            refine ⟨rfl, ?_⟩
            exact Got.er hu.out hX.out.symm
          | ok a5 r5 =>
            rw [hr] at hG
            have hX2 := hX.out
            rw [hr] at hX2
            try simp only [bind_ok] at hX2
            replace hX := hide hX2
            refine (hG).mono ?_
            rintro e wq5 ⟨hU, v5, rfl, rfl, h1⟩
            have hsz := hu.out.size
            replace hva := hide (ExV.upd (hU) (above_not hlt) _ _ hva.out)
            replace hs := hide h1
            replace hu := hide (hu.out.then hU)
            clear hr hG hU h1 hX2 hsz
            go_wp2_with fail
            refine (leave_any p C d n r5 _ hs.out).mono ?_
            rintro e wq6 ⟨rfl, hU, h1⟩
            replace hva := hide (ExV.upd (hU) (above_not hlt) _ _ hva.out)
            replace hs := hide h1
            replace hu := hide (hu.out.then hU)
            clear hU h1
            go_wp2_with fail
            go_ret
            exact Got.ok hu.out hX.out.symm ⟨hva.out, hs.out⟩
    · have hx1 : nx r [40] = false := by simpa using hx1
      have hX2 := hX.out
      rw [if_neg (by rw [hx1]; exact Bool.false_ne_true)] at hX2
      replace hX := hide hX2
      clear hX2
      have hx1h := hide hx1
      have hI := isNext_any [40] p C d n r _ hs.out
      rw [hx1] at hI
      refine hI.mono ?_
      rintro e wq2 ⟨rfl, hb⟩
      clear hI
      replace hs := hide (hs.out.below hb)
      replace hu := hide (hu.out.then (at_below hb))
      clear hb
      go_wp2_with fail
      have hP := peek_any 0 (by omega) p C d n r _ hs.out
      refine hP.mono ?_
      rintro e wp ⟨rfl, hb⟩
      clear hP
      replace hs := hide (hs.out.below hb)
      replace hu := hide (hu.out.then (at_below hb))
      clear hb
      rw [List.drop_zero, tokV_def]
      have hf := field_kind (hdT C.len r).kind (hdT C.len r).at_ (strB (hdT C.len r).text)
      have he1 := eq1_iff (r := r) C.len
      by_cases hx2 : isNum r = true
      · have hX2 := hX.out
        rw [if_pos hx2] at hX2
        replace hX := hide hX2
        clear hX2
        rw [hx2] at he1
        go_wp2_with fail
        clear hf he1
        have hG := number_any p C d n r _ hs.out
        cases hr : numP r with
        | no =>
          have hX2 := hX.out
          rw [hr] at hX2
          try simp only [bind_no] at hX2
          exact absurd hX2.symm hno.out
        | er r9 k9 =>
          rw [hr] at hG
          have hX2 := hX.out
          rw [hr] at hX2
          try simp only [bind_er] at hX2
          replace hX := hide hX2
          refine (hG).mono ?_
          rintro e wq3 ⟨hU, rfl⟩
          replace hu := hide (hu.out.then hU)
          clear hr hG hU hX2
          go_wp2_with fail
          refine ⟨rfl, ?_⟩
          exact Got.er hu.out hX.out.symm
        | ok a4 r4 =>
          rw [hr] at hG
          have hX2 := hX.out
          rw [hr] at hX2
          try simp only [bind_ok] at hX2
          replace hX := hide hX2
          refine (hG).mono ?_
          rintro e wq3 ⟨hU, v4, rfl, rfl, h1⟩
          have hsz := hu.out.size
          replace hs := hide h1
          replace hu := hide (hu.out.then hU)
          clear hr hG hU h1 hX2 hsz
          have hg := hide (heap_new wq3 (.cells #[.int .i64 0, .int .i64 a4, .string ⟨#[]⟩, .pointer none, .pointer none] 63))
          have hgs := hu.out.size
          replace hs := hide (hs.out.alloc (.cells #[.int .i64 0, .int .i64 a4, .string ⟨#[]⟩, .pointer none, .pointer none] 63))
          replace hu := hide (hu.out.then (Upd.alloc (At p) _ (.cells #[.int .i64 0, .int .i64 a4, .string ⟨#[]⟩, .pointer none, .pointer none] 63)))
          have hn : Hid (ExV (wq3.alloc (.cells #[.int .i64 0, .int .i64 a4, .string ⟨#[]⟩, .pointer none, .pointer none] 63)) (w.heap.size ≤ ·) (.num a4) _) := hide ⟨_, rfl, hgs, hg.out⟩
          go_wp2_with fail
          go_ret
          exact Got.ok hu.out hX.out.symm ⟨hn.out, hs.out⟩
      · have hx2 : isNum r = false := by simpa using hx2
        have hX2 := hX.out
        rw [if_neg (by rw [hx2]; exact Bool.false_ne_true)] at hX2
        replace hX := hide hX2
        clear hX2
        rw [hx2] at he1
        go_wp2_with fail
        clear hf he1
        have hG := name_any p C d n r _ hs.out
        cases hr : nameP r with
        | no =>
          have hX2 := hX.out
          rw [hr] at hX2
          try simp only [bind_no] at hX2
          exact absurd hX2.symm hno.out
        | er r9 k9 =>
          rw [hr] at hG
          have hX2 := hX.out
          rw [hr] at hX2
          try simp only [bind_er] at hX2
          replace hX := hide hX2
          refine (hG).mono ?_
          rintro e wq3 ⟨hU, rfl⟩
          replace hu := hide (hu.out.then hU)
          clear hr hG hU hX2
          go_wp2_with fail
          refine ⟨rfl, ?_⟩
          exact Got.er hu.out hX.out.symm
        | ok a4 r4 =>
          rw [hr] at hG
          have hX2 := hX.out
          rw [hr] at hX2
          try simp only [bind_ok] at hX2
          replace hX := hide hX2
          refine (hG).mono ?_
          rintro e wq3 ⟨hU, v4, rfl, rfl, h1⟩
          have hsz := hu.out.size
          replace hs := hide h1
          replace hu := hide (hu.out.then hU)
          clear hr hG hU h1 hX2 hsz
          have hg := hide (heap_new wq3 (.cells #[.int .i64 1, .int .i64 0, .string (strB a4), .pointer none, .pointer none] 63))
          have hgs := hu.out.size
          replace hs := hide (hs.out.alloc (.cells #[.int .i64 1, .int .i64 0, .string (strB a4), .pointer none, .pointer none] 63))
          replace hu := hide (hu.out.then (Upd.alloc (At p) _ (.cells #[.int .i64 1, .int .i64 0, .string (strB a4), .pointer none, .pointer none] 63)))
          have hn : Hid (ExV (wq3.alloc (.cells #[.int .i64 1, .int .i64 0, .string (strB a4), .pointer none, .pointer none] 63)) (w.heap.size ≤ ·) (.var a4) _) := hide ⟨_, rfl, hgs, hg.out⟩
          go_wp2_with fail
          go_ret
          exact Got.ok hu.out hX.out.symm ⟨hn.out, hs.out⟩
theorem un_ok : ∀ f, UnOK f
  | 0 => fun _ _ _ _ _ _ _ hno => absurd rfl hno
  | f + 1 => operand_succ f (un_ok f) (sum_of f (product_of f (un_ok f)))
theorem sum_ok (f : Nat) : SumOK f := sum_of f (product_of f (un_ok f))
theorem sumP_ok (f : Nat) (p : Nat) (C : Cx) (d n : Nat) (r : List Tok) (w : World) (h : PsW w p C d n r) : sumP f d r ≠ .no →
    Calls Tryz.prog 115 #[.pointer (some ⟨p, 0, none⟩)] w fun e w' => Got p C w (ExR p C d n w.heap.size) (sumP f d r) e w' := fun hno => sum_ok f p C d n r w h hno
theorem str_beq' (a b : List UInt8) : ((strB a).toList == b) = (a == b) := by rw [ByteArray.toList_eq]; rfl
end Go.Proofs.YteplkhgaoaphhaaGreatDoor
