/- Part 18 of the walks (merged): PsQ, PsQ1. -/
import Derived.Test.YteplkhgaoaphhaaGreatDoorM16
import Derived.Test.YteplkhgaoaphhaaGreatDoorM4
import Derived.Test.YteplkhgaoaphhaaGreatDoorM17
import Derived.Deep.Cut
/- Globals in memory; an append ars one operation. -/
namespace Go.Proofs.YteplkhgaoaphhaaGreatDoor
open Go Go.RowKit Go.Lib

section
variable {α : Type} {P : World → (Nat → Prop) → α → List Value → Prop} {w : World} {o : Oper} {a : Act} {K : Act → World → Prop} {Q : Exit → Act → World → Prop}
/-- The operation's law: one element more in such a list. -/
theorem wp_row_op (hP : Fam P) (t e : TypeId) (z : Value) (sz bytes : Nat) (ht : Tryz.prog.underlying t = some (.slice e)) (hinfo : (Tryz.prog.info? e).map (fun i => (i.zero, i.size, i.bytes)) = some (some z, sz, bytes)) (hzs : z.cells.size = sz) (hsz : 0 < sz) (hby : bytes ≤ 200)
    (s x : Operand) (ho : o.op = .call { callee := .builtin .append, args := #[s, x], argTypes := #[t, t] })
    (B : Nat) (v : Value) (l : List α) (hs : a.eval s = v) (hrow : RowS w B e sz P l v) (g c : Nat) (hx : a.eval x = .slice (some ⟨g, 0, none⟩) 1 c) (el : α) (us : List Value) (hl : us.length = sz)
    (hcell : ∀ j u, us[j]? = some u → w.cell? ⟨g, j, none⟩ = some u) (hPa : P w (fun b => B ≤ b ∧ v.ownBlock ≠ some b) el us) (hlen : l.length ≤ 1000000) (hbase : B ≤ w.heap.size)
    (h : ∀ v' w', RowS w' B e sz P (l ++ [el]) v' → Upd (fun k => v.ownBlock = some k) w w' → K (a.put o.dst v') w') : o.wp Tryz.prog a w K Q := by
  obtain ⟨i0, hi, hz0, hz1, hz2⟩ := info_parts hinfo
  have hrow0 := hrow
  obtain ⟨uss, hown, hall⟩ := hrow
  have hb2 : (l.length + 1) * bytes ≤ 140737488355328 := Nat.le_trans (Nat.mul_le_mul (Nat.succ_le_succ hlen) hby) (by decide)
  obtain ⟨v', w', hr, h2, h3, h4⟩ := run_append_moved (P := Tryz.prog) w B t o.type e i0 z sz bytes ht hi hz0 hz1 hz2 hzs hsz v l.length uss.flatten hown ⟨g, 0, none⟩ 1 c us (by rw [Nat.one_mul]; exact hl) (fun j u hj => by rw [Go.WideShapes.add_plain, Nat.zero_add]; exact hcell j u hj) (hP.one hPa) (by unfold maxLen; omega) hb2 hbase
  unfold Oper.wp execOp
  simp only [ho, resolve, invoke, builtin, Sem.run_bind, Sem.run_pure, Result.andThen_ok, List.map_toArray, List.map_cons, List.map_nil, hs, hx, hr]
  exact h v' w' (RowS.push hP hrow0 hl hPa h3 h4 uss hall h2) (Upd.grown h3 fun k hk => hk)
end
def StrP (_ : World) (_ : Nat → Prop) (a : List UInt8) (us : List Value) : Prop := us = [.string (strB a)]
def ArrP (_ : World) (_ : Nat → Prop) (a : List UInt8 × Nat) (us : List Value) : Prop := us = [.string (strB a.1), .int .i64 a.2]
theorem strFam : Fam StrP where
  upd := fun _ _ h => h
  mono := fun _ h => h
  one := fun h u hu => by
    subst h
    simp only [List.mem_cons, List.not_mem_nil, or_false] at hu
    subst hu
    rfl
theorem arrFam : Fam ArrP where
  upd := fun _ _ h => h
  mono := fun _ h => h
  one := fun h u hu => by
    subst h
    simp only [List.mem_cons, List.not_mem_nil, or_false] at hu
    rcases hu with rfl | rfl <;> rfl
theorem str_info : (Tryz.prog.info? 9).map (fun i => (i.zero, i.size, i.bytes)) = some (some (.string .empty), 1, 16) := by kernel_rfl
theorem arr_info : (Tryz.prog.info? 65).map (fun i => (i.zero, i.size, i.bytes)) = some (some (.agg #[.string .empty, .int .i64 0]), 2, 24) := by kernel_rfl
/-- The globals that are being read, in block gb. -/
structure GS (p gb B : Nat) (C : Cx) (d n : Nat) (r : List Tok) (cs : List (List UInt8)) (ars : List (List UInt8 × Nat)) (cv av : Value) (w : World) : Prop where
  heap : w.heap[gb]? = some (.cells #[cv, av] 41 (0, 0))
  ps : PsW w p C d n r
  cells : RowS w B 9 1 StrP cs cv
  arrs : RowS w B 65 2 ArrP ars av
/-- The cells' row has grown, the block holds the old one still. -/
structure GC (p gb B : Nat) (C : Cx) (d n : Nat) (r : List Tok) (cs : List (List UInt8)) (ars : List (List UInt8 × Nat)) (cv av v : Value) (w : World) : Prop where
  heap : w.heap[gb]? = some (.cells #[cv, av] 41 (0, 0))
  ps : PsW w p C d n r
  cells : RowS w B 9 1 StrP cs v
  arrs : RowS w B 65 2 ArrP ars av
structure GA (p gb B : Nat) (C : Cx) (d n : Nat) (r : List Tok) (cs : List (List UInt8)) (ars : List (List UInt8 × Nat)) (cv av v : Value) (w : World) : Prop where
  heap : w.heap[gb]? = some (.cells #[cv, av] 41 (0, 0))
  ps : PsW w p C d n r
  cells : RowS w B 9 1 StrP cs cv
  arrs : RowS w B 65 2 ArrP ars v
section
variable {w w' : World} {p gb B : Nat} {C : Cx} {d n : Nat} {r : List Tok} {cs : List (List UInt8)} {ars : List (List UInt8 × Nat)} {cv av v : Value}
theorem RowS.below {α : Type} {P : World → (Nat → Prop) → α → List Value → Prop} (hP : Fam P) {e : TypeId} {sz : Nat} {l : List α} (h : RowS w B e sz P l v) (hb : Below w.heap.size w w') : RowS w' B e sz P l v := h.upd hP (Upd.of_below (fun _ => False) hb) fun _ _ => id
theorem GS.below (h : GS p gb B C d n r cs ars cv av w) (hb : Below w.heap.size w w') : GS p gb B C d n r cs ars cv av w' := ⟨heapB h.heap hb, h.ps.below hb, h.cells.below strFam hb, h.arrs.below arrFam hb⟩
theorem GC.kept : Kept (GC p gb B C d n r cs ars cv av) := fun _ _ _ h hb => ⟨heapB h.heap hb, h.ps.below hb, h.cells.below strFam hb, h.arrs.below arrFam hb⟩
theorem GA.kept : Kept (GA p gb B C d n r cs ars cv av) := fun _ _ _ h hb => ⟨heapB h.heap hb, h.ps.below hb, h.cells.below strFam hb, h.arrs.below arrFam hb⟩
theorem RowS.type {α : Type} {P : World → (Nat → Prop) → α → List Value → Prop} {e : TypeId} {sz : Nat} {l : List α} {k : Nat} {cs : Array Value} {t : TypeId} (h : RowS w B e sz P l v) (hk : v.ownBlock = some k) (hh : w.heap[k]? = some (.cells cs t (0, 0))) : e = t := by
  obtain ⟨uss, h1, -⟩ := h
  exact own_type h1 hk hh
/-- A row is another one's block never, of another type. -/
theorem RowS.apart {α β : Type} {P : World → (Nat → Prop) → α → List Value → Prop} {P' : World → (Nat → Prop) → β → List Value → Prop} {e e' : TypeId} {sz sz' : Nat} {l : List α} {l' : List β} {u : Value} (h : RowS w B e sz P l v) (h' : RowS w B e' sz' P' l' u) (hne : e ≠ e') : ∀ k, v.ownBlock = some k → u.ownBlock ≠ some k := by
  intro k h1 h2
  obtain ⟨uss, h3, -⟩ := h
  rcases h3.2 with ⟨rfl, _⟩ | ⟨g, cap, cur, rfl, _, hg, _⟩
  · cases h1
  · have : g = k := by simpa [Value.ownBlock] using h1
    subst this
    exact hne (h'.type h2 hg).symm
/-- An old row, where another one's block has turned. -/
theorem RowS.other {α : Type} {P : World → (Nat → Prop) → α → List Value → Prop} (_ : Fam P) (hi : ∀ (w w' : World) (S : Nat → Prop) (a : α) (us : List Value), P w S a us → P w' S a us) {e : TypeId} {sz : Nat} {l : List α} {F : Nat → Prop} (h : RowS w B e sz P l v) (hu : Upd F w w') (hF : ∀ k, v.ownBlock = some k → ¬ F k) : RowS w' B e sz P l v := by
  obtain ⟨uss, h1, h2⟩ := h
  exact ⟨uss, hu.own h1 hF, h2.mono fun a us ⟨h3, h4⟩ => ⟨h3, hi _ _ _ _ _ h4⟩⟩
end
section
variable {w : World} {p gb B : Nat} {C : Cx} {d n : Nat} {r : List Tok} {cs : List (List UInt8)} {ars : List (List UInt8 × Nat)} {cv av v : Value}
theorem GC.store (h : GC p gb B C d n r cs ars cv av v w) (hgp : gb ≠ p) (ht : ∀ k, C.vt.ownBlock = some k → k ≠ gb) : GS p gb B C d n r cs ars v av (w.setCell ⟨gb, 0, none⟩ v) := by
  have hu := set_upd w gb 0 v
  exact ⟨heap_set h.heap 0 v, h.ps.upd hu (fun e => hgp (by simp only [At] at e; exact e.symm)) (fun k hk e => ht k hk e), h.cells.other strFam (fun _ _ _ _ _ h => h) hu (fun k hk e => by simp only [At] at e; subst e; exact absurd (h.cells.type hk h.heap) (by decide)), h.arrs.other arrFam (fun _ _ _ _ _ h => h) hu (fun k hk e => by simp only [At] at e; subst e; exact absurd (h.arrs.type hk h.heap) (by decide))⟩
theorem GA.store (h : GA p gb B C d n r cs ars cv av v w) (hgp : gb ≠ p) (ht : ∀ k, C.vt.ownBlock = some k → k ≠ gb) : GS p gb B C d n r cs ars cv v (w.setCell ⟨gb, 1, none⟩ v) := by
  have hu := set_upd w gb 1 v
  exact ⟨heap_set h.heap 1 v, h.ps.upd hu (fun e => hgp (by simp only [At] at e; exact e.symm)) (fun k hk e => ht k hk e), h.cells.other strFam (fun _ _ _ _ _ h => h) hu (fun k hk e => by simp only [At] at e; subst e; exact absurd (h.cells.type hk h.heap) (by decide)), h.arrs.other arrFam (fun _ _ _ _ _ h => h) hu (fun k hk e => by simp only [At] at e; subst e; exact absurd (h.arrs.type hk h.heap) (by decide))⟩
end
/-- A new row of one element, in a block that F does not hold. -/
def OneF (F : Nat → Prop) (us : List Value) (v : Value) (w : World) : Prop := ∃ g t, v = .slice (some ⟨g, 0, none⟩) 1 1 ∧ ¬ F g ∧ w.heap[g]? = some (.cells us.toArray t (0, 0))
theorem OneF.kept {F : Nat → Prop} {us : List Value} : FKept F (OneF F us) := fun _ _ _ ⟨g, t, h1, h2, h3⟩ hu => ⟨g, t, h1, h2, hu.heap h3 h2⟩
theorem OneF.of {F : Nat → Prop} {us : List Value} {w : World} {g : Nat} {t : TypeId} (h1 : ¬ F g) (h2 : w.heap[g]? = some (.cells us.toArray t (0, 0))) : OneF F us (.slice (some ⟨g, 0, none⟩) 1 1) w := ⟨g, t, rfl, h1, h2⟩
end Go.Proofs.YteplkhgaoaphhaaGreatDoor
/- The walk of the parser's bounds. Written by mkfunc.py. -/
namespace Go.Proofs.YteplkhgaoaphhaaGreatDoor
open Go Go.RowKit Go.Lib


set_option maxRecDepth 100000 in
set_option maxHeartbeats 3200000 in
theorem bounds_any : ∀ (p : Nat) (C : Cx) (d n : Nat) (r : List Tok) (w : World), PsW w p C d n r → boundsP r ≠ .no → Calls Tryz.prog 64 #[.pointer (some ⟨p, 0, none⟩)] w fun e w' => Got p C w (NumR p C d n) (boundsP r) e w' := by
  intro p C d n r w h hno
  generalize hX : boundsP r = X at hno ⊢
  unfold boundsP at hX
  have hlt := h.lt
  have hu := hide (Upd.refl (At p) w)
  have hs := hide h
  replace hX := hide hX
  replace hno := hide hno
  clear h
  go_enter Tryz.func64, Tryz.ntmps64
  go_wp2_with fail
  have hG := expect_any [91] (by decide) p C d n r _ hs.out
  cases hr : want [91] r with
  | no =>
    have hX2 := hX.out
    rw [hr] at hX2
    try simp only [bind_no] at hX2
    exact absurd hX2.symm hno.out
  | er r9 k9 =>
    rw [hr] at hG
    have hX2 := hX.out
    rw [hr] at hX2
    try simp only [bind_er] at hX2
    replace hX := hide hX2
    refine (hG).mono ?_
    rintro e wq1 ⟨hU, rfl⟩
    replace hu := hide (hu.out.then hU)
    clear hr hG hU hX2
    go_wp2_with fail
    refine ⟨rfl, ?_⟩
    exact Got.er hu.out hX.out.symm
  | ok a1 r1 =>
    rw [hr] at hG
    have hX2 := hX.out
    rw [hr] at hX2
    try simp only [bind_ok] at hX2
    replace hX := hide hX2
    refine (hG).mono ?_
    rintro e wq1 ⟨hU, v1, rfl, rfl, h1⟩
    have hsz := hu.out.size
    replace hs := hide h1
    replace hu := hide (hu.out.then hU)
    clear hr hG hU h1 hX2 hsz
    go_wp2_with fail
    have hA := hide (hdT_at C.len r1)
    refine (peek_any 0 (by omega) p C d n r1 _ hs.out).mono ?_
    rintro e wp ⟨rfl, hb⟩
    replace hs := hide (hs.out.below hb)
    replace hu := hide (hu.out.then (at_below hb))
    clear hb
    rw [List.drop_zero, tokV_def]
    have htb := hide (heap_new wp (.cells #[.int .i64 (hdT C.len r1).kind, .string (strB (hdT C.len r1).text), .int .i64 (hdT C.len r1).at_] 49))
    have htp : wp.heap.size ≠ p := Nat.ne_of_gt hs.out.lt
    replace hs := hide (hs.out.alloc (.cells #[.int .i64 (hdT C.len r1).kind, .string (strB (hdT C.len r1).text), .int .i64 (hdT C.len r1).at_] 49))
    replace hu := hide (hu.out.then (Upd.alloc (At p) wp (.cells #[.int .i64 (hdT C.len r1).kind, .string (strB (hdT C.len r1).text), .int .i64 (hdT C.len r1).at_] 49)))
    go_wp2_with fail
    have hG := number_any p C d n r1 _ hs.out
    cases hr : numP r1 with
    | no =>
      have hX2 := hX.out
      rw [hr] at hX2
      try simp only [bind_no] at hX2
      exact absurd hX2.symm hno.out
    | er r9 k9 =>
      rw [hr] at hG
      have hX2 := hX.out
      rw [hr] at hX2
      try simp only [bind_er] at hX2
      replace hX := hide hX2
      refine (hG).mono ?_
      rintro e wq2 ⟨hU, rfl⟩
      replace hu := hide (hu.out.then hU)
      clear hr hG hU hX2
      go_wp2_with fail
      refine ⟨rfl, ?_⟩
      exact Got.er hu.out hX.out.symm
    | ok a2 r2 =>
      rw [hr] at hG
      have hX2 := hX.out
      rw [hr] at hX2
      try simp only [bind_ok] at hX2
      replace hX := hide hX2
      refine (hG).mono ?_
      rintro e wq2 ⟨hU, v2, rfl, rfl, h1⟩
      have hsz := hu.out.size
      replace htb := hide ((hU).heap htb.out htp)
      replace hs := hide h1
      replace hu := hide (hu.out.then hU)
      clear hr hG hU h1 hX2 hsz
      by_cases hm : a2 = 0
      · have hX2 := hX.out
        rw [if_pos hm] at hX2
        replace hX := hide hX2
        clear hX2
        have hm1 : (((a2 : Nat) : Int) == 0) = true := by rw [hm]; rfl
        replace hm := hide hm
        have b0 := cell_at htb.out 0
        have b1 := cell_at htb.out 1
        have b2 := cell_at htb.out 2
        simp at b0 b1 b2
        go_wp2_with fail
        refine (refuse_any (hdT C.len r1) 51 _).mono ?_
        rintro e wr2 ⟨rfl, hb⟩
        replace hu := hide (hu.out.then (at_below hb))
        clear hb
        rw [hA.out]
        go_wp2_with fail
        refine ⟨rfl, ?_⟩
        exact Got.er hu.out hX.out.symm
      · have hX2 := hX.out
        rw [if_neg hm] at hX2
        replace hX := hide hX2
        clear hX2
        have hm1 : (((a2 : Nat) : Int) == 0) = false := beq_false_of_ne (by omega)
        by_cases hM : 1048576 < a2
        · have hX2 := hX.out
          rw [if_pos hM] at hX2
          replace hX := hide hX2
          clear hX2
          have hM1 : (1048576 : Int) < ((a2 : Nat) : Int) := by omega
          have b0 := cell_at htb.out 0
          have b1 := cell_at htb.out 1
          have b2 := cell_at htb.out 2
          simp at b0 b1 b2
          go_wp2_with fail
          refine (refuse_any (hdT C.len r1) 53 _).mono ?_
          rintro e wr2 ⟨rfl, hb⟩
          replace hu := hide (hu.out.then (at_below hb))
          clear hb
          rw [hA.out]
          go_wp2_with fail
          refine ⟨rfl, ?_⟩
          exact Got.er hu.out hX.out.symm
        · have hX2 := hX.out
          rw [if_neg hM] at hX2
          replace hX := hide hX2
          clear hX2
          have hM1 : ¬ (1048576 : Int) < ((a2 : Nat) : Int) := by omega
          have hM2 : ((a2 : Nat) : Int) ≤ 1048576 := by omega
          go_wp2_with fail
          have hG := expect_any [93] (by decide) p C d n r2 _ hs.out
          cases hr : want [93] r2 with
          | no =>
            have hX2 := hX.out
            rw [hr] at hX2
            try simp only [bind_no] at hX2
            exact absurd hX2.symm hno.out
          | er r9 k9 =>
            rw [hr] at hG
            have hX2 := hX.out
            rw [hr] at hX2
            try simp only [bind_er] at hX2
            replace hX := hide hX2
            refine (hG).mono ?_
            rintro e wq3 ⟨hU, rfl⟩
            replace hu := hide (hu.out.then hU)
            clear hr hG hU hX2
            go_wp2_with fail
            refine ⟨rfl, ?_⟩
            exact Got.er hu.out hX.out.symm
          | ok a3 r3 =>
            rw [hr] at hG
            have hX2 := hX.out
            rw [hr] at hX2
            try simp only [bind_ok] at hX2
            replace hX := hide hX2
            refine (hG).mono ?_
            rintro e wq3 ⟨hU, v3, rfl, rfl, h1⟩
            have hsz := hu.out.size
            replace htb := hide ((hU).heap htb.out htp)
            replace hs := hide h1
            replace hu := hide (hu.out.then hU)
            clear hr hG hU h1 hX2 hsz
            go_wp2_with fail
            go_ret
            exact Got.ok hu.out hX.out.symm ⟨rfl, hs.out⟩
end Go.Proofs.YteplkhgaoaphhaaGreatDoor
