/- Part 19 of the walks (merged): PsQ2. -/
import Derived.Test.YteplkhgaoaphhaaGreatDoorM18
import Derived.Deep.Cut
/- The walk of the parser's globals. Written by mkfunc.py. -/
namespace Go.Proofs.YteplkhgaoaphhaaGreatDoor
open Go Go.RowKit Go.Lib

/-- Globals are told. -/
def GlV (w : World) (B : Nat) (a : Gl) (v : Value) : Prop :=
  ∃ (A1 : Option Addr) (n1 c1 : Nat) (A2 : Option Addr) (n2 c2 : Nat), v = .agg #[.slice A1 n1 c1, .slice A2 n2 c2] ∧ ListV w (B ≤ ·) StrP 1 a.cells (.slice A1 n1 c1) ∧ ListV w (B ≤ ·) ArrP 2 a.arrays (.slice A2 n2 c2)
def GlR (p : Nat) (C : Cx) (B : Nat) (v : Value) (w : World) (a : Gl) (r : List Tok) : Prop := GlV w B a v ∧ ∃ n, PsW w p C 0 n r
theorem PsW.upd2 {w w' : World} {p : Nat} {C : Cx} {d n : Nat} {r : List Tok} (h : PsW w p C d n r) (hb : Below w.heap.size w w') : PsW w' p C d n r := h.below hb
theorem ListV.fin {α : Type} {P : World → (Nat → Prop) → α → List Value → Prop} (_ : Fam P) {cur fin : World} {B sz : Nat} {l : List α} {v : Value} (hfin : Upd (At B) cur fin) (h : ListV cur (B ≤ ·) P sz l v) (hb : ∀ k, v.ownBlock = some k → k ≠ B) (hi : ∀ (w w' : World) (S S' : Nat → Prop) (a : α) (us : List Value), P w S a us → P w' S' a us) : ListV fin (B ≤ ·) P sz l v := by
  obtain ⟨uss, ⟨A, c, rfl, h2, h3, h4⟩, h5⟩ := h
  refine ⟨uss, ⟨A, c, rfl, h2, h3, ?_⟩, h5.mono fun a us ⟨h6, h7⟩ => ⟨h6, hi _ _ _ _ _ _ h7⟩⟩
  rcases h4 with h4 | ⟨g, rfl, h5, h6⟩
  · exact .inl h4
  · exact .inr ⟨g, rfl, h5, fun j u hj => hfin.cell (h6 j u hj) (hb g rfl)⟩
theorem glob_end {f : Nat} {g : Gl} : globL (f + 1) g [] = .ok g [] := rfl
theorem glob_cell {f : Nat} {g : Gl} {t : Tok} {r : List Tok} (h : nx (t :: r) [99, 101, 108, 108] = true) : globL (f + 1) g (t :: r) = (declP (g.cells.length + g.arrays.length) 20 r).bind fun x r => (want [59] r).bind fun _ r => globL f ⟨g.cells ++ [x], g.arrays⟩ r := by
  conv => lhs; unfold globL
  rw [if_pos h]
theorem glob_arr {f : Nat} {g : Gl} {t : Tok} {r : List Tok} (h : nx (t :: r) [99, 101, 108, 108] = false) : globL (f + 1) g (t :: r) = (want [97, 114, 114, 97, 121] (t :: r)).bind fun _ r => (declP (g.cells.length + g.arrays.length) 20 r).bind fun x r => (boundsP r).bind fun n r => (want [59] r).bind fun _ r => globL f ⟨g.cells, g.arrays ++ [(x, n)]⟩ r := by
  conv => lhs; unfold globL
  rw [if_neg (by rw [h]; exact Bool.false_ne_true)]
/-- The globals that are being read, but for the parser. -/
structure GR (gb B : Nat) (cs : List (List UInt8)) (ars : List (List UInt8 × Nat)) (cv av : Value) (w : World) : Prop where
  heap : w.heap[gb]? = some (.cells #[cv, av] 41 (0, 0))
  cells : RowS w B 9 1 StrP cs cv
  arrs : RowS w B 65 2 ArrP ars av
theorem GR.upd {w w' : World} {p gb B : Nat} {cs : List (List UInt8)} {ars : List (List UInt8 × Nat)} {cv av : Value} (h : GR gb B cs ars cv av w) (hu : Upd (At p) w w') (hgp : gb ≠ p) (hpB : p < B) : GR gb B cs ars cv av w' :=
  ⟨hu.heap h.heap hgp, h.cells.upd strFam hu (above_not hpB), h.arrs.upd arrFam hu (above_not hpB)⟩

set_option maxRecDepth 100000 in
set_option maxHeartbeats 3200000 in
theorem globals_ok (f : Nat) (hf : f ≤ 1000000) : ∀ (p : Nat) (C : Cx) (r : List Tok) (w : World), PsW w p C 0 0 r → globP f r ≠ .no → Calls Tryz.prog 28 #[.pointer (some ⟨p, 0, none⟩)] w fun e w' => Got p C w (GlR p C w.heap.size) (globP f r) e w' := by
  intro p C r w00 h hno
  generalize hX : globP f r = X at hno ⊢
  unfold globP at hX
  have hlt := h.lt
  have htok := hide h.tokLt
  replace hX := hide hX
  replace hno := hide hno
  have hrs := hide (heap_old (heap_new w00 (.cells #[.slice none 0 0, .slice none 0 0] 41)) (.cells #[.slice none 0 0, .slice none 0 0] 41))
  have hgh := heap_new (w00.alloc (.cells #[.slice none 0 0, .slice none 0 0] 41)) (.cells #[.slice none 0 0, .slice none 0 0] 41)
  rw [show (w00.alloc (.cells #[.slice none 0 0, .slice none 0 0] 41)).heap.size = w00.heap.size + 1 by simp] at hgh
  have hs := hide ((h.alloc (.cells #[.slice none 0 0, .slice none 0 0] 41)).alloc (.cells #[.slice none 0 0, .slice none 0 0] 41))
  have hR : Hid (GR (w00.heap.size + 1) w00.heap.size [] [] (.slice none 0 0) (.slice none 0 0) ((w00.alloc (.cells #[.slice none 0 0, .slice none 0 0] 41)).alloc (.cells #[.slice none 0 0, .slice none 0 0] 41))) := hide ⟨hgh, RowS.nil_ _ _ _ _ _, RowS.nil_ _ _ _ _ _⟩
  obtain ⟨gb, hgb⟩ : ∃ gb, gb = w00.heap.size + 1 := ⟨_, rfl⟩
  have hgp := hide (show gb ≠ p by omega)
  have htok2 := hide (fun k hk => (by have := htok.out k hk; omega : k ≠ gb))
  have hpB2 := hide hlt
  have hgbB : w00.heap.size < gb := by omega
  have hrp : w00.heap.size ≠ p := by omega
  have hu := hide ((Upd.alloc (At p) w00 (.cells #[.slice none 0 0, .slice none 0 0] 41)).then (Upd.alloc (At p) _ (.cells #[.slice none 0 0, .slice none 0 0] 41)))
  clear h hgh
  go_enter Tryz.func28, Tryz.ntmps28
  go_wp2_with fail
  rw [← hgb] at hR ⊢
  replace hgb := hide hgb
  go_loopg [4] f (fun k v wr => ∃ (cs : List (List UInt8)) (ars : List (List UInt8 × Nat)) (cv av : Value) (r : List Tok), Upd (At p) w00 wr ∧ GR gb w00.heap.size cs ars cv av wr ∧ PsW wr p C 0 0 r ∧ wr.heap[w00.heap.size]? = some (.cells #[.slice none 0 0, .slice none 0 0] 41 (0, 0)) ∧ cs.length + ars.length + k ≤ f ∧ globL k ⟨cs, ars⟩ r = X)
  case atStart => exact ⟨[], [], _, _, r, hu.out, hR.out, hs.out, hrs.out, by simp, hX.out⟩
  case round =>
    clear hu hR hs hrs hX
    obtain ⟨cs, ars, cv, av, r, hu, hR, hs, hrs, hlk, hX⟩ := hrel
    cases gk with
    | zero => exact absurd hX.symm hno.out
    | succ g =>
      obtain ⟨A1, c1, rfl⟩ := hR.cells.slice
      obtain ⟨A2, c2, rfl⟩ := hR.arrs.slice
      replace hu := hide hu
      replace hR := hide hR
      replace hs := hide hs
      replace hrs := hide hrs
      have hl1 : cs.length ≤ 1000000 := by omega
      have hl2 : ars.length ≤ 1000000 := by omega
      replace hlk := hide hlk
      replace hX := hide hX
      go_wp2_with fail
      have hE := isEnd_any p C 0 0 r _ hs.out
      cases r with
      | nil =>
        have hX2 := hX.out
        rw [glob_end] at hX2
        replace hX := hide hX2
        rw [show endB [] = true from rfl] at hE
        refine hE.mono ?_
        rintro e we ⟨rfl, hb⟩
        replace hs := hide (hs.out.below hb)
        replace hR := hide (hR.out.upd (at_below hb) hgp.out hpB2.out)
        replace hrs := hide ((at_below hb).heap hrs.out hrp)
        replace hu := hide (hu.out.then (at_below hb))
        clear hb hE hX2
        have cc0 := cell_at hR.out.heap 0
        have cc1 := cell_at hR.out.heap 1
        simp at cc0 cc1
        have rr0 := hrs.out
        have dd0 := cell_at rr0 0
        have ff0 := frozen_at rr0 0
        have rr1 : (we.setCell ⟨w00.heap.size, 0, none⟩ (Value.slice A1 cs.length c1)).heap[w00.heap.size]? = some (.cells #[(Value.slice A1 cs.length c1), .slice none 0 0] 41 (0, 0)) := heap_set rr0 0 _
        have dd1 := cell_at rr1 1
        have ff1 := frozen_at rr1 1
        have kk0 : (we.setCell ⟨w00.heap.size, 0, none⟩ (Value.slice A1 cs.length c1)).cell? ⟨w00.heap.size, 0, none⟩ = some (Value.slice A1 cs.length c1) := cell_at rr1 0
        have rr2 : ((we.setCell ⟨w00.heap.size, 0, none⟩ (Value.slice A1 cs.length c1)).setCell ⟨w00.heap.size, 1, none⟩ (Value.slice A2 ars.length c2)).heap[w00.heap.size]? = some (.cells #[(Value.slice A1 cs.length c1), (Value.slice A2 ars.length c2)] 41 (0, 0)) := heap_set rr1 1 _
        have kk1 : ((we.setCell ⟨w00.heap.size, 0, none⟩ (Value.slice A1 cs.length c1)).setCell ⟨w00.heap.size, 1, none⟩ (Value.slice A2 ars.length c2)).cell? ⟨w00.heap.size, 1, none⟩ = some (Value.slice A2 ars.length c2) := cell_at rr2 1
        replace kk0 := hide kk0
        replace kk1 := hide kk1
        simp at dd0 dd1
        have nc : ∀ k, (Value.slice A1 cs.length c1).ownBlock = some k → k ≠ w00.heap.size := fun k hk e => by subst e; exact absurd (hR.out.cells.type hk hrs.out) (by decide)
        have na : ∀ k, (Value.slice A2 ars.length c2).ownBlock = some k → k ≠ w00.heap.size := fun k hk e => by subst e; exact absurd (hR.out.arrs.type hk hrs.out) (by decide)
        replace nc := hide nc
        replace na := hide na
        clear rr0 rr1 rr2
        go_wp2_with fail
        refine bodyPost_ret (v := .agg #[(Value.slice A1 cs.length c1), (Value.slice A2 ars.length c2)]) (by simp [results, Tryz.results28, go_sem, kk0.out, kk1.out]) rfl ?_
        have hfin := ((Upd.refl (At w00.heap.size) we).setOn 0 (Value.slice A1 cs.length c1)).setOn 1 (Value.slice A2 ars.length c2)
        obtain ⟨q1, q2⟩ := fin_gen hfin hu.out hlt htok.out hs.out
        exact Got.ok q1 hX.out.symm ⟨⟨_, _, _, _, _, _, rfl, ListV.fin strFam hfin (hR.out.cells.list strFam) nc.out (fun _ _ _ _ _ _ h => h), ListV.fin arrFam hfin (hR.out.arrs.list arrFam) na.out (fun _ _ _ _ _ _ h => h)⟩, _, q2⟩
      | cons t r =>
        rw [show endB (t :: r) = false from rfl] at hE
        refine hE.mono ?_
        rintro e we ⟨rfl, hb⟩
        replace hs := hide (hs.out.below hb)
        replace hR := hide (hR.out.upd (at_below hb) hgp.out hpB2.out)
        replace hrs := hide ((at_below hb).heap hrs.out hrp)
        replace hu := hide (hu.out.then (at_below hb))
        clear hb hE
        have cc0 := cell_at hR.out.heap 0
        have cc1 := cell_at hR.out.heap 1
        simp at cc0 cc1
        go_wp2_with fail
        clear cc0 cc1
        by_cases hx40 : nx (t :: r) [99, 101, 108, 108] = true
        · have hne := hide (nx_ne hx40 (by decide))
          refine (accept_yes [99, 101, 108, 108] (by decide) p C 0 0 (t :: r) _ hs.out hx40).mono ?_
          rintro e wq41 ⟨rfl, hU, h1⟩
          replace hx40 := hide hx40
          replace hR := hide (hR.out.upd (hU) hgp.out hpB2.out)
          replace hrs := hide ((hU).heap hrs.out hrp)
          replace hs := hide h1
          replace hu := hide (hu.out.then hU)
          clear hU h1
          go_wp2_with fail
          have hX2 := hX.out
          rw [glob_cell hx40.out] at hX2
          replace hX := hide hX2
          clear hX2
          cases hd : declP (cs.length + ars.length) 20 r with
          | no =>
            have hX2 := hX.out
            rw [hd] at hX2
            exact absurd hX2.symm hno.out
          | er r7 k9 =>
            have hX2 := hX.out
            rw [hd] at hX2
            simp only [bind_er] at hX2
            replace hX := hide hX2
            have hdecl := hide (fun (w : World) (hu9 : Upd (fun _ => False) wq41 w) => (show Calls Tryz.prog 63 #[.pointer (some ⟨p, 0, none⟩), .int .i64 ((cs.length : Int) + (ars.length : Int)), .int .i64 20] w (fun e w2 => Upd (At p) w w2 ∧ e = .panicked [{ v := faultV (atOf C.len r7) k9, recovered := false }]) from by have hN := declared_any (cs.length + ars.length) 20 p C 0 0 r w (hs.out.upd hu9 id (fun _ _ => id)); rw [hd] at hN; exact hN))
            have hps0 := hide hs.out
            have l0 := hide (cell_at hR.out.heap 0)
            have l1 := hide (cell_at hR.out.heap 1)
            have hu0 := hide hu.out
            clear hX2 hd
            refine wp_region_flowP (PQ := fun Q => ∀ (T : Array Value) (w : World), Upd (At p) wq41 w → Q (Exit.panic [{ v := faultV (atOf C.len r7) k9, recovered := false }]) ⟨T, []⟩ w) (fun _ => False) (factAt [(fun v _ => v = (.pointer (some ⟨gb, 0, none⟩))), (fun v _ => v = (Value.slice A1 cs.length c1)), (fun v _ => v = (.pointer (some ⟨p, 0, none⟩))), (fun v _ => v = (.int .i64 ((cs.length : Int) + (ars.length : Int)))), (fun v w => False), (fun v w => False), (fun v w => False), (fun v _ => v = (.pointer (some ⟨gb, 0, none⟩))), (fun v w => False)]) [] (fun w => PsW w p C 0 0 r) (by kernel_rfl) (fkept_at ⟨FKept.eq _, FKept.eq _, FKept.eq _, FKept.eq _, fun _ _ _ h _ => h, fun _ _ _ h _ => h, fun _ _ _ h _ => h, FKept.eq _, fun _ _ _ h _ => h, trivial⟩) (fun _ _ h hb => h.below hb) trivial (by kernel_rfl) (by kernel_rfl) (by kernel_rfl) (by kernel_rfl) (Nat.le_of_ble_eq_true (by kernel_rfl)) ?_ ⟨?_, ?_, ?_, ?_, ?_, ?_, ?_, ?_, ?_, trivial⟩ ?_ ?_
            · exact hps0.out
            · intro T w Q hpq hu hs hv hw hd
              have hx3 : T.getD 3 undef = (.pointer (some ⟨gb, 0, none⟩)) := hv 3 (by kernel_rfl)
              refine .inl ⟨wanted_none rfl, ?_⟩
              clear hd hv hu hs hw
              go_simp
              exact ⟨_, rfl, DstOk.some rfl, Below.refl _ _, rfl⟩
            · intro T w Q hpq hu hs hv hw hd
              have hx22 : T.getD 22 undef = (.pointer (some ⟨gb, 0, none⟩)) := Deps.at 0 hd (by kernel_rfl)
              refine .inl ⟨wanted_none rfl, ?_⟩
              have hI := hu.cell l0.out id
              clear hd hv hu hs hw
              go_simp
              exact ⟨_, rfl, DstOk.some rfl, Below.refl _ _, rfl⟩
            · intro T w Q hpq hu hs hv hw hd
              have hx0 : T.getD 0 undef = (.pointer (some ⟨p, 0, none⟩)) := hv 0 (by kernel_rfl)
              refine .inl ⟨wanted_none rfl, ?_⟩
              clear hd hv hu hs hw
              go_simp
              exact ⟨_, rfl, DstOk.some rfl, Below.refl _ _, rfl⟩
            · intro T w Q hpq hu hs hv hw hd
              have hx4 : T.getD 4 undef = (.int .i64 ((cs.length : Int) + (ars.length : Int))) := hv 4 (by kernel_rfl)
              refine .inl ⟨wanted_none rfl, ?_⟩
              clear hd hv hu hs hw
              go_simp
              exact ⟨_, rfl, DstOk.some rfl, Below.refl _ _, rfl⟩
            · intro T w Q hpq hu hs hv hw hd
              have hx24 : T.getD 24 undef = (.pointer (some ⟨p, 0, none⟩)) := Deps.at 2 hd (by kernel_rfl)
              have hx25 : T.getD 25 undef = (.int .i64 ((cs.length : Int) + (ars.length : Int))) := Deps.at 3 hd (by kernel_rfl)
              refine .inl ⟨wanted_none rfl, ?_⟩
              have hN := hdecl.out w hu
              replace hu := hide hu
              replace hpq := hide hpq
              clear hd hv hs hw
              go_simp
              refine hN.mono ?_
              rintro e w5 ⟨hU, rfl⟩
              exact hpq.out _ _ ((hu.out.mono fun _ _ h => h.elim).then hU)
            · intro T w Q hpq hu hs hv hw hd
              have f26 : (fun (v : Value) (w : World) => False) (T.getD 26 undef) w := Deps.at 4 hd (by kernel_rfl)
              generalize hx26 : T.getD 26 undef = x26 at f26
              replace f26 := hide f26
              have hy26 := hx26
              rw [Array.getD_eq_getD_getElem?] at hy26
              refine .inl ⟨wanted_none rfl, ?_⟩
              exact (f26.out).elim
            · intro T w Q hpq hu hs hv hw hd
              have hx23 : T.getD 23 undef = (Value.slice A1 cs.length c1) := Deps.at 1 hd (by kernel_rfl)
              have f27 : (fun (v : Value) (w : World) => False) (T.getD 27 undef) w := Deps.at 5 hd (by kernel_rfl)
              generalize hx27 : T.getD 27 undef = x27 at f27
              replace f27 := hide f27
              refine .inl ⟨wanted_none rfl, ?_⟩
              exact (f27.out).elim
            · intro T w Q hpq hu hs hv hw hd
              have hx3 : T.getD 3 undef = (.pointer (some ⟨gb, 0, none⟩)) := hv 3 (by kernel_rfl)
              refine .inl ⟨wanted_none rfl, ?_⟩
              clear hd hv hu hs hw
              go_simp
              exact ⟨_, rfl, DstOk.some rfl, Below.refl _ _, rfl⟩
            · intro T w Q hpq hu hs hv hw hd
              have f28 : (fun (v : Value) (w : World) => False) (T.getD 28 undef) w := Deps.at 6 hd (by kernel_rfl)
              generalize hx28 : T.getD 28 undef = x28 at f28
              replace f28 := hide f28
              have hx29 : T.getD 29 undef = (.pointer (some ⟨gb, 0, none⟩)) := Deps.at 7 hd (by kernel_rfl)
              refine .inl ⟨wanted_none rfl, ?_⟩
              exact (f28.out).elim
            · intro T w hu
              replace hu := hide hu
              go_wp2_with fail
              refine ⟨rfl, ?_⟩
              exact Got.er (hu0.out.then hu.out) hX.out.symm
            · intro T w hu hs hv hf hcur
              exact (hf 4 (by decide)).elim
          | ok x r7 =>
            have hX2 := hX.out
            rw [hd] at hX2
            simp only [bind_ok] at hX2
            replace hX := hide hX2
            clear hX2
            have hdecl := hide (fun (w : World) (h9 : PsW w p C 0 0 r) => (show Calls Tryz.prog 63 #[.pointer (some ⟨p, 0, none⟩), .int .i64 ((cs.length : Int) + (ars.length : Int)), .int .i64 20] w (fun e w' => Got p C w (StrR p C 0 0) (.ok x r7) e w') from by have hN := declared_any (cs.length + ars.length) 20 p C 0 0 r w h9; rw [hd] at hN; exact hN))
            clear hd
            have hpB := hide (fun b (hb : w00.heap.size ≤ b) => above_not hlt b hb)
            have hB0 := hide hu.out.size
            have hGS := hide (show GS p gb w00.heap.size C 0 0 r cs ars (Value.slice A1 cs.length c1) (Value.slice A2 ars.length c2) wq41 from ⟨hR.out.heap, hs.out, hR.out.cells, hR.out.arrs⟩)
            have hlen := hide hl1
            have hnew := hide (fun (w : World) (hu9 : Upd (fun b => b = p ∨ b = gb ∨ (Value.slice A1 cs.length c1).ownBlock = some b) wq41 w) => (show ¬ (fun b => b = p ∨ b = gb ∨ (Value.slice A1 cs.length c1).ownBlock = some b) w.heap.size from fun h => by
              have h0 := hu9.size
              have h1 := hs.out.lt
              have h2 := (Array.getElem?_eq_some_iff.1 hR.out.heap).1
              rcases h with h | h | h
              · omega
              · omega
              · have := (hR.out.cells.own _ h).2; omega))
            refine wp_region_tide (fun b => b = p ∨ b = gb ∨ (Value.slice A1 cs.length c1).ownBlock = some b) (factAt [(fun v _ => v = (.pointer (some ⟨gb, 0, none⟩))), (fun v _ => v = (Value.slice A1 cs.length c1)), (fun v _ => v = (.pointer (some ⟨p, 0, none⟩))), (fun v _ => v = (.int .i64 ((cs.length : Int) + (ars.length : Int)))), (fun v _ => v = (.string (strB x))), (fun v w => OneF (fun b => b = p ∨ b = gb ∨ (Value.slice A1 cs.length c1).ownBlock = some b) [.string (strB x)] v w), (fun v w => SlF v), (fun v _ => v = (.pointer (some ⟨gb, 0, none⟩))), (fun _ _ => True)]) [none, none, none, none, some (fun _ w => GS p gb w00.heap.size C 0 0 r7 cs ars (Value.slice A1 cs.length c1) (Value.slice A2 ars.length c2) w), none, some (fun v w => GC p gb w00.heap.size C 0 0 r7 (cs ++ [x]) ars (Value.slice A1 cs.length c1) (Value.slice A2 ars.length c2) v w), none, some (fun _ w => ∃ cw2, GS p gb w00.heap.size C 0 0 r7 (cs ++ [x]) ars cw2 (Value.slice A2 ars.length c2) w)] (fun w => GS p gb w00.heap.size C 0 0 r cs ars (Value.slice A1 cs.length c1) (Value.slice A2 ars.length c2) w) (fun w => w.heap[gb]? = some (.cells #[(Value.slice A1 cs.length c1), (Value.slice A2 ars.length c2)] 41 (0, 0))) 8 (by kernel_rfl) (fkept_at ⟨FKept.eq _, FKept.eq _, FKept.eq _, FKept.eq _, FKept.eq _, OneF.kept, fun _ _ _ h _ => h, FKept.eq _, FKept.triv, trivial⟩) (fun _ _ h hb => h.below hb) (fun w w' h hb => heapB h hb) (fun _ => by kernel_rfl) ⟨fun _ _ _ h hb => h.below hb, GC.kept, fun _ _ _ ⟨c, h⟩ hb => ⟨c, h.below hb⟩, trivial⟩ (by kernel_rfl) (by kernel_rfl) (by kernel_rfl) (by kernel_rfl) (Nat.le_of_ble_eq_true (by kernel_rfl)) ?_ (hGS.out.heap) ⟨?_, ?_, ?_, ?_, ?_, ?_, ?_, ?_, ?_, trivial⟩ ?_
            · exact hGS.out
            · intro T w Q hu hs hv hw hd ht
              have hx3 : T.getD 3 undef = (.pointer (some ⟨gb, 0, none⟩)) := hv 3 (by kernel_rfl)
              refine .inl ⟨wanted_none rfl, ?_⟩
              clear hd hv hu hs hw ht
              go_simp
              exact ⟨_, rfl, DstOk.some rfl, Below.refl _ _, rfl⟩
            · intro T w Q hu hs hv hw hd ht
              have hx22 : T.getD 22 undef = (.pointer (some ⟨gb, 0, none⟩)) := Deps.at 0 hd (by kernel_rfl)
              refine .inl ⟨wanted_none rfl, ?_⟩
              have hI := cell_at (ht (by kernel_rfl)) 0
              simp at hI
              clear hd hv hu hs hw ht
              go_simp
              exact ⟨_, rfl, DstOk.some rfl, Below.refl _ _, rfl⟩
            · intro T w Q hu hs hv hw hd ht
              have hx0 : T.getD 0 undef = (.pointer (some ⟨p, 0, none⟩)) := hv 0 (by kernel_rfl)
              refine .inl ⟨wanted_none rfl, ?_⟩
              clear hd hv hu hs hw ht
              go_simp
              exact ⟨_, rfl, DstOk.some rfl, Below.refl _ _, rfl⟩
            · intro T w Q hu hs hv hw hd ht
              have hx4 : T.getD 4 undef = (.int .i64 ((cs.length : Int) + (ars.length : Int))) := hv 4 (by kernel_rfl)
              refine .inl ⟨wanted_none rfl, ?_⟩
              clear hd hv hu hs hw ht
              go_simp
              exact ⟨_, rfl, DstOk.some rfl, Below.refl _ _, rfl⟩
            · intro T w Q hu hs hv hw hd ht hc0
              have hc : (fun w => GS p gb w00.heap.size C 0 0 r cs ars (Value.slice A1 cs.length c1) (Value.slice A2 ars.length c2) w) w := hc0
              have hx24 : T.getD 24 undef = (.pointer (some ⟨p, 0, none⟩)) := Deps.at 2 hd (by kernel_rfl)
              have hx25 : T.getD 25 undef = (.int .i64 ((cs.length : Int) + (ars.length : Int))) := Deps.at 3 hd (by kernel_rfl)
              replace hc := hide hc
              refine .inl ⟨wanted_none rfl, ?_⟩
              have hN := hdecl.out w hc.out.ps
              have hc2 := hc
              clear hd hv hu hs hw ht hc hc0
              go_simp
              refine hN.mono ?_
              rintro e w5 ⟨hU, v, rfl, rfl, hps⟩
              exact ⟨_, rfl, DstOk.some rfl, hU.mono fun _ _ h => .inl h, (by intros; exact hU.heap hc2.out.heap hgp.out), rfl, ⟨hU.heap hc2.out.heap hgp.out, hps, hc2.out.cells.upd strFam hU (fun b hb e => hpB.out b hb e), hc2.out.arrs.upd arrFam hU (fun b hb e => hpB.out b hb e)⟩⟩
            · intro T w Q hu hs hv hw hd ht
              have hx26 : T.getD 26 undef = (.string (strB x)) := Deps.at 4 hd (by kernel_rfl)
              have hy26 := hx26
              rw [Array.getD_eq_getD_getElem?] at hy26
              refine .inl ⟨wanted_none rfl, ?_⟩
              have hF := hnew.out w hu
              clear hd hv hu hs hw ht
              go_simp
              refine ⟨_, rfl, DstOk.some rfl, (Below.refl _ w).alloc (Nat.le_refl _) _, OneF.of hF (heap_new _ _)⟩
            · intro T w Q hu hs hv hw hd ht hc0
              have hc : (fun (w : World) => GS p gb w00.heap.size C 0 0 r7 cs ars (Value.slice A1 cs.length c1) (Value.slice A2 ars.length c2) w) w := hc0
              have hx23 : T.getD 23 undef = (Value.slice A1 cs.length c1) := Deps.at 1 hd (by kernel_rfl)
              have f27 : (fun (v : Value) (w : World) => OneF (fun b => b = p ∨ b = gb ∨ (Value.slice A1 cs.length c1).ownBlock = some b) [.string (strB x)] v w) (T.getD 27 undef) w := Deps.at 5 hd (by kernel_rfl)
              generalize hx27 : T.getD 27 undef = x27 at f27 hc
              replace f27 := hide f27
              replace hc := hide hc
              refine .inl ⟨wanted_none rfl, ?_⟩
              obtain ⟨g, tt, rfl, hgF, hgh⟩ := f27.out
              have hsz : w00.heap.size ≤ w.heap.size := Nat.le_trans hB0.out hu.size
              refine wp_row_op strFam 38 9 (.string .empty) 1 16 Tryz.underlying38 str_info rfl (by decide) (by decide) (.tmp 23) (.tmp 27) rfl w00.heap.size (Value.slice A1 cs.length c1) cs hx23 hc.out.cells g 1 hx27 x [.string (strB x)] rfl ?_ rfl hlen.out hsz ?_
              · intro j u hj
                rw [cell_at hgh]
                simpa using hj
              intro v' w' hrow hu9
              obtain ⟨A5, c5, rfl⟩ := hrow.slice
              have hgb : w'.heap[gb]? = some (.cells #[(Value.slice A1 cs.length c1), (Value.slice A2 ars.length c2)] 41 (0, 0)) := hu9.heap hc.out.heap (fun e => by have := hc.out.cells.type e hc.out.heap; exact absurd this (by decide))
              exact ⟨_, rfl, DstOk.some rfl, hu9.mono fun _ _ h => .inr (.inr h), (by intros; exact hgb), ⟨_, _, _, rfl⟩, ⟨hgb, hc.out.ps.row_ hu9 (fun k hk => (hc.out.cells.own k hk).1) hpB2.out htok.out, hrow, hc.out.arrs.other arrFam (fun _ _ _ _ _ h => h) hu9 (fun k hk e => hc.out.cells.apart hc.out.arrs (by decide) k e hk)⟩⟩
            · intro T w Q hu hs hv hw hd ht
              have hx3 : T.getD 3 undef = (.pointer (some ⟨gb, 0, none⟩)) := hv 3 (by kernel_rfl)
              refine .inl ⟨wanted_none rfl, ?_⟩
              clear hd hv hu hs hw ht
              go_simp
              exact ⟨_, rfl, DstOk.some rfl, Below.refl _ _, rfl⟩
            · intro T w Q hu hs hv hw hd ht hc0
              have hc : (fun (v : Value) (w : World) => GC p gb w00.heap.size C 0 0 r7 (cs ++ [x]) ars (Value.slice A1 cs.length c1) (Value.slice A2 ars.length c2) v w) (T.getD 28 undef) w := hc0
              have f28 : (fun (v : Value) (w : World) => SlF v) (T.getD 28 undef) w := Deps.at 6 hd (by kernel_rfl)
              generalize hx28 : T.getD 28 undef = x28 at f28 hc
              replace f28 := hide f28
              have hx29 : T.getD 29 undef = (.pointer (some ⟨gb, 0, none⟩)) := Deps.at 7 hd (by kernel_rfl)
              replace hc := hide hc
              refine .inl ⟨wanted_none rfl, ?_⟩
              have hq := hc.out
              obtain ⟨A5, n5, c5, rfl⟩ := f28.out
              have hq5 := hide hq
              have hfr := frozen_at hq.heap 0
              have hc1 := cell_at hq.heap 0
              simp at hc1
              clear hd hv hu hs hw ht hc hc0 hq f28
              go_simp
              exact ⟨undef, fun _ => rfl, Upd.set w (F := fun b => b = p ∨ b = gb ∨ (Value.slice A1 cs.length c1).ownBlock = some b) (a := ⟨gb, 0, none⟩) (.inr (.inl rfl)) _, trivial, _, hq5.out.store hgp.out htok2.out⟩
            intro T w hu5 hsz5 hv hf hcur
            have hcur1 : (fun (w : World) => ∃ cw2, GS p gb w00.heap.size C 0 0 r7 (cs ++ [x]) ars cw2 (Value.slice A2 ars.length c2) w) w := hcur
            replace hcur1 := hcur1
            have hT : T = #[T.getD 0 undef, T.getD 1 undef, T.getD 2 undef, T.getD 3 undef, T.getD 4 undef, T.getD 5 undef, T.getD 6 undef, T.getD 7 undef, T.getD 8 undef, T.getD 9 undef, T.getD 10 undef, T.getD 11 undef, T.getD 12 undef, T.getD 13 undef, T.getD 14 undef, T.getD 15 undef, T.getD 16 undef, T.getD 17 undef, T.getD 18 undef, T.getD 19 undef, T.getD 20 undef, T.getD 21 undef, T.getD 22 undef, T.getD 23 undef, T.getD 24 undef, T.getD 25 undef, T.getD 26 undef, T.getD 27 undef, T.getD 28 undef, T.getD 29 undef, T.getD 30 undef, T.getD 31 undef, T.getD 32 undef, T.getD 33 undef, T.getD 34 undef, T.getD 35 undef, T.getD 36 undef, T.getD 37 undef, T.getD 38 undef, T.getD 39 undef, T.getD 40 undef, T.getD 41 undef, T.getD 42 undef, T.getD 43 undef, T.getD 44 undef, T.getD 45 undef, T.getD 46 undef, T.getD 47 undef, T.getD 48 undef, T.getD 49 undef, T.getD 50 undef] := expl hsz5
            rw [hT]
            clear hT
            rw [show T.getD 0 undef = (.pointer (some ⟨p, 0, none⟩)) from hv 0 (by kernel_rfl)]
            rw [hv 1 (by kernel_rfl)]
            rw [hv 2 (by kernel_rfl)]
            rw [show T.getD 3 undef = (.pointer (some ⟨gb, 0, none⟩)) from hv 3 (by kernel_rfl)]
            rw [show T.getD 4 undef = (.int .i64 ((cs.length : Int) + (ars.length : Int))) from hv 4 (by kernel_rfl)]
            rw [hv 5 (by kernel_rfl)]
            rw [hv 6 (by kernel_rfl)]
            rw [hv 7 (by kernel_rfl)]
            rw [hv 8 (by kernel_rfl)]
            rw [hv 9 (by kernel_rfl)]
            rw [hv 10 (by kernel_rfl)]
            rw [hv 11 (by kernel_rfl)]
            rw [hv 12 (by kernel_rfl)]
            rw [hv 13 (by kernel_rfl)]
            rw [hv 14 (by kernel_rfl)]
            rw [hv 15 (by kernel_rfl)]
            rw [hv 16 (by kernel_rfl)]
            rw [hv 17 (by kernel_rfl)]
            rw [hv 18 (by kernel_rfl)]
            rw [hv 19 (by kernel_rfl)]
            rw [hv 20 (by kernel_rfl)]
            rw [hv 21 (by kernel_rfl)]
            rw [show T.getD 22 undef = (.pointer (some ⟨gb, 0, none⟩)) from hf 0 (by decide)]
            rw [show T.getD 23 undef = (Value.slice A1 cs.length c1) from hf 1 (by decide)]
            rw [show T.getD 24 undef = (.pointer (some ⟨p, 0, none⟩)) from hf 2 (by decide)]
            rw [show T.getD 25 undef = (.int .i64 ((cs.length : Int) + (ars.length : Int))) from hf 3 (by decide)]
            rw [show T.getD 26 undef = (.string (strB x)) from hf 4 (by decide)]
            rw [show T.getD 29 undef = (.pointer (some ⟨gb, 0, none⟩)) from hf 7 (by decide)]
            rw [hv 30 (by kernel_rfl)]
            rw [hv 31 (by kernel_rfl)]
            rw [hv 32 (by kernel_rfl)]
            rw [hv 33 (by kernel_rfl)]
            rw [hv 34 (by kernel_rfl)]
            rw [hv 35 (by kernel_rfl)]
            rw [hv 36 (by kernel_rfl)]
            rw [hv 37 (by kernel_rfl)]
            rw [hv 38 (by kernel_rfl)]
            rw [hv 39 (by kernel_rfl)]
            rw [hv 40 (by kernel_rfl)]
            rw [hv 41 (by kernel_rfl)]
            rw [hv 42 (by kernel_rfl)]
            rw [hv 43 (by kernel_rfl)]
            rw [hv 44 (by kernel_rfl)]
            rw [hv 45 (by kernel_rfl)]
            rw [hv 46 (by kernel_rfl)]
            rw [hv 47 (by kernel_rfl)]
            rw [hv 48 (by kernel_rfl)]
            rw [hv 49 (by kernel_rfl)]
            rw [hv 50 (by kernel_rfl)]
            clear hf hsz5 hv hcur
            simp only [getD_toArray, List.getD_cons_succ, List.getD_cons_zero]
            generalize T.getD 27 undef = y27
            generalize T.getD 28 undef = y28
            clear T
            obtain ⟨nv, hGS2⟩ := hcur1
            replace hu5 := hide hu5
            replace hrs := hide (hu5.out.heap hrs.out (fun e => by
              rcases e with e | e | e
              · omega
              · omega
              · exact absurd (hR.out.cells.type e hrs.out) (by decide)))
            replace hu := hide (hu.out.trans hu5.out (fun k hk e => by
              rcases e with e | e | e
              · exact e
              · omega
              · have := (hR.out.cells.own _ e).1; omega))
            replace hR := hide (show GR gb w00.heap.size (cs ++ [x]) ars nv (Value.slice A2 ars.length c2) _ from ⟨hGS2.heap, hGS2.cells, hGS2.arrs⟩)
            replace hs := hide hGS2.ps
            clear hGS hGS2 hu5 hnew hdecl
            go_wp2_with fail
            have hG := expect_any [59] (by decide) p C 0 0 r7 _ hs.out
            cases hr : want [59] r7 with
            | no =>
              have hX2 := hX.out
              rw [hr] at hX2
              try simp only [bind_no] at hX2
              exact absurd hX2.symm hno.out
            | er r9 k9 =>
              rw [hr] at hG
              have hX2 := hX.out
              rw [hr] at hX2
              try simp only [bind_er] at hX2
              replace hX := hide hX2
              refine (hG).mono ?_
              rintro e wq42 ⟨hU, rfl⟩
              replace hu := hide (hu.out.then hU)
              clear hr hG hU hX2
              go_wp2_with fail
              refine ⟨rfl, ?_⟩
              exact Got.er hu.out hX.out.symm
            | ok a42 r42 =>
              rw [hr] at hG
              have hX2 := hX.out
              rw [hr] at hX2
              try simp only [bind_ok] at hX2
              replace hX := hide hX2
              refine (hG).mono ?_
              rintro e wq42 ⟨hU, v42, rfl, rfl, h1⟩
              have hsz := hu.out.size
              replace hR := hide (hR.out.upd (hU) hgp.out hpB2.out)
              replace hrs := hide ((hU).heap hrs.out hrp)
              replace hs := hide h1
              replace hu := hide (hu.out.then hU)
              clear hr hG hU h1 hX2 hsz
              go_wp2_with fail
              go_roundg g
              case measure => omega
              case rel => exact ⟨cs ++ [x], ars, nv, _, r42, hu.out, hR.out, hs.out, hrs.out, by have := hlk.out; simp; omega, hX.out⟩
        · have hx40 : nx (t :: r) [99, 101, 108, 108] = false := by simpa using hx40
          refine (accept_no [99, 101, 108, 108] p C 0 0 (t :: r) _ hs.out hx40).mono ?_
          rintro e wq41 ⟨rfl, hU, h1⟩
          replace hx40 := hide hx40
          replace hR := hide (hR.out.upd (hU) hgp.out hpB2.out)
          replace hrs := hide ((hU).heap hrs.out hrp)
          replace hs := hide h1
          replace hu := hide (hu.out.then hU)
          clear hU h1
          go_wp2_with fail
          have hX2 := hX.out
          rw [glob_arr hx40.out] at hX2
          replace hX := hide hX2
          clear hX2
          have hG := expect_any [97, 114, 114, 97, 121] (by decide) p C 0 0 (t :: r) _ hs.out
          cases hr : want [97, 114, 114, 97, 121] (t :: r) with
          | no =>
            have hX2 := hX.out
            rw [hr] at hX2
            try simp only [bind_no] at hX2
            exact absurd hX2.symm hno.out
          | er r9 k9 =>
            rw [hr] at hG
            have hX2 := hX.out
            rw [hr] at hX2
            try simp only [bind_er] at hX2
            replace hX := hide hX2
            refine (hG).mono ?_
            rintro e wq42 ⟨hU, rfl⟩
            replace hu := hide (hu.out.then hU)
            clear hr hG hU hX2
            go_wp2_with fail
            refine ⟨rfl, ?_⟩
            exact Got.er hu.out hX.out.symm
          | ok a42 r42 =>
            rw [hr] at hG
            have hX2 := hX.out
            rw [hr] at hX2
            try simp only [bind_ok] at hX2
            replace hX := hide hX2
            refine (hG).mono ?_
            rintro e wq42 ⟨hU, v42, rfl, rfl, h1⟩
            have hsz := hu.out.size
            replace hR := hide (hR.out.upd (hU) hgp.out hpB2.out)
            replace hrs := hide ((hU).heap hrs.out hrp)
            replace hs := hide h1
            replace hu := hide (hu.out.then hU)
            clear hr hG hU h1 hX2 hsz
            go_wp2_with fail
            have hG := declared_any (cs.length + ars.length) 20 p C 0 0 r42 _ hs.out
            cases hr : declP (cs.length + ars.length) 20 r42 with
            | no =>
              have hX2 := hX.out
              rw [hr] at hX2
              try simp only [bind_no] at hX2
              exact absurd hX2.symm hno.out
            | er r9 k9 =>
              rw [hr] at hG
              have hX2 := hX.out
              rw [hr] at hX2
              try simp only [bind_er] at hX2
              replace hX := hide hX2
              refine (hG).mono ?_
              rintro e wq43 ⟨hU, rfl⟩
              replace hu := hide (hu.out.then hU)
              clear hr hG hU hX2
              go_wp2_with fail
              refine ⟨rfl, ?_⟩
              exact Got.er hu.out hX.out.symm
            | ok a43 r43 =>
              rw [hr] at hG
              have hX2 := hX.out
              rw [hr] at hX2
              try simp only [bind_ok] at hX2
              replace hX := hide hX2
              refine (hG).mono ?_
              rintro e wq43 ⟨hU, v43, rfl, rfl, h1⟩
              have hsz := hu.out.size
              replace hR := hide (hR.out.upd (hU) hgp.out hpB2.out)
              replace hrs := hide ((hU).heap hrs.out hrp)
              replace hs := hide h1
              replace hu := hide (hu.out.then hU)
              clear hr hG hU h1 hX2 hsz
              go_wp2_with fail
              cases hd : boundsP r43 with
              | no =>
                have hX2 := hX.out
                rw [hd] at hX2
                exact absurd hX2.symm hno.out
              | er r7 k9 =>
                have hX2 := hX.out
                rw [hd] at hX2
                simp only [bind_er] at hX2
                replace hX := hide hX2
                have hdecl := hide (fun (w : World) (hu9 : Upd (fun _ => False) wq43 w) => (show Calls Tryz.prog 64 #[.pointer (some ⟨p, 0, none⟩)] w (fun e w2 => Upd (At p) w w2 ∧ e = .panicked [{ v := faultV (atOf C.len r7) k9, recovered := false }]) from by have hN := bounds_any p C 0 0 r43 w (hs.out.upd hu9 id (fun _ _ => id)); rw [hd] at hN; exact hN (fun e => by cases e)))
                have hps0 := hide hs.out
                have l0 := hide (cell_at hR.out.heap 0)
                have l1 := hide (cell_at hR.out.heap 1)
                have hu0 := hide hu.out
                clear hX2 hd
                refine wp_region_flowP (PQ := fun Q => ∀ (T : Array Value) (w : World), Upd (At p) wq43 w → Q (Exit.panic [{ v := faultV (atOf C.len r7) k9, recovered := false }]) ⟨T, []⟩ w) (fun _ => False) (factAt [(fun v _ => v = (.pointer (some ⟨gb, 1, none⟩))), (fun v _ => v = (Value.slice A2 ars.length c2)), (fun v _ => v = (.string (strB a43))), (fun v _ => v = (.pointer (some ⟨p, 0, none⟩))), (fun v w => False), (fun v w => False), (fun v w => False), (fun v w => False), (fun v _ => v = (.pointer (some ⟨gb, 1, none⟩))), (fun v w => False)]) [] (fun w => PsW w p C 0 0 r43) (by kernel_rfl) (fkept_at ⟨FKept.eq _, FKept.eq _, FKept.eq _, FKept.eq _, fun _ _ _ h _ => h, fun _ _ _ h _ => h, fun _ _ _ h _ => h, fun _ _ _ h _ => h, FKept.eq _, fun _ _ _ h _ => h, trivial⟩) (fun _ _ h hb => h.below hb) trivial (by kernel_rfl) (by kernel_rfl) (by kernel_rfl) (by kernel_rfl) (Nat.le_of_ble_eq_true (by kernel_rfl)) ?_ ⟨?_, ?_, ?_, ?_, ?_, ?_, ?_, ?_, ?_, ?_, trivial⟩ ?_ ?_
                · exact hps0.out
                · intro T w Q hpq hu hs hv hw hd
                  have hx3 : T.getD 3 undef = (.pointer (some ⟨gb, 0, none⟩)) := hv 3 (by kernel_rfl)
                  refine .inl ⟨wanted_none rfl, ?_⟩
                  clear hd hv hu hs hw
                  go_simp
                  exact ⟨_, rfl, DstOk.some rfl, Below.refl _ _, rfl⟩
                · intro T w Q hpq hu hs hv hw hd
                  have hx37 : T.getD 37 undef = (.pointer (some ⟨gb, 1, none⟩)) := Deps.at 0 hd (by kernel_rfl)
                  refine .inl ⟨wanted_none rfl, ?_⟩
                  have hI := hu.cell l1.out id
                  clear hd hv hu hs hw
                  go_simp
                  exact ⟨_, rfl, DstOk.some rfl, Below.refl _ _, rfl⟩
                · intro T w Q hpq hu hs hv hw hd
                  have hx5 : T.getD 5 undef = (.string (strB a43)) := hv 5 (by kernel_rfl)
                  refine .inl ⟨wanted_none rfl, ?_⟩
                  clear hd hv hu hs hw
                  go_simp
                  exact ⟨_, rfl, DstOk.some rfl, Below.refl _ _, rfl⟩
                · intro T w Q hpq hu hs hv hw hd
                  have hx0 : T.getD 0 undef = (.pointer (some ⟨p, 0, none⟩)) := hv 0 (by kernel_rfl)
                  refine .inl ⟨wanted_none rfl, ?_⟩
                  clear hd hv hu hs hw
                  go_simp
                  exact ⟨_, rfl, DstOk.some rfl, Below.refl _ _, rfl⟩
                · intro T w Q hpq hu hs hv hw hd
                  have hx40 : T.getD 40 undef = (.pointer (some ⟨p, 0, none⟩)) := Deps.at 3 hd (by kernel_rfl)
                  refine .inl ⟨wanted_none rfl, ?_⟩
                  have hN := hdecl.out w hu
                  replace hu := hide hu
                  replace hpq := hide hpq
                  clear hd hv hs hw
                  go_simp
                  refine hN.mono ?_
                  rintro e w5 ⟨hU, rfl⟩
                  exact hpq.out _ _ ((hu.out.mono fun _ _ h => h.elim).then hU)
                · intro T w Q hpq hu hs hv hw hd
                  have hx39 : T.getD 39 undef = (.string (strB a43)) := Deps.at 2 hd (by kernel_rfl)
                  have hy39 := hx39
                  rw [Array.getD_eq_getD_getElem?] at hy39
                  have f41 : (fun (v : Value) (w : World) => False) (T.getD 41 undef) w := Deps.at 4 hd (by kernel_rfl)
                  generalize hx41 : T.getD 41 undef = x41 at f41
                  replace f41 := hide f41
                  have hy41 := hx41
                  rw [Array.getD_eq_getD_getElem?] at hy41
                  refine .inl ⟨wanted_none rfl, ?_⟩
                  exact (f41.out).elim
                · intro T w Q hpq hu hs hv hw hd
                  have f42 : (fun (v : Value) (w : World) => False) (T.getD 42 undef) w := Deps.at 5 hd (by kernel_rfl)
                  generalize hx42 : T.getD 42 undef = x42 at f42
                  replace f42 := hide f42
                  have hy42 := hx42
                  rw [Array.getD_eq_getD_getElem?] at hy42
                  refine .inl ⟨wanted_none rfl, ?_⟩
                  exact (f42.out).elim
                · intro T w Q hpq hu hs hv hw hd
                  have hx38 : T.getD 38 undef = (Value.slice A2 ars.length c2) := Deps.at 1 hd (by kernel_rfl)
                  have f43 : (fun (v : Value) (w : World) => False) (T.getD 43 undef) w := Deps.at 6 hd (by kernel_rfl)
                  generalize hx43 : T.getD 43 undef = x43 at f43
                  replace f43 := hide f43
                  refine .inl ⟨wanted_none rfl, ?_⟩
                  exact (f43.out).elim
                · intro T w Q hpq hu hs hv hw hd
                  have hx3 : T.getD 3 undef = (.pointer (some ⟨gb, 0, none⟩)) := hv 3 (by kernel_rfl)
                  refine .inl ⟨wanted_none rfl, ?_⟩
                  clear hd hv hu hs hw
                  go_simp
                  exact ⟨_, rfl, DstOk.some rfl, Below.refl _ _, rfl⟩
                · intro T w Q hpq hu hs hv hw hd
                  have f44 : (fun (v : Value) (w : World) => False) (T.getD 44 undef) w := Deps.at 7 hd (by kernel_rfl)
                  generalize hx44 : T.getD 44 undef = x44 at f44
                  replace f44 := hide f44
                  have hx45 : T.getD 45 undef = (.pointer (some ⟨gb, 1, none⟩)) := Deps.at 8 hd (by kernel_rfl)
                  refine .inl ⟨wanted_none rfl, ?_⟩
                  exact (f44.out).elim
                · intro T w hu
                  replace hu := hide hu
                  go_wp2_with fail
                  refine ⟨rfl, ?_⟩
                  exact Got.er (hu0.out.then hu.out) hX.out.symm
                · intro T w hu hs hv hf hcur
                  exact (hf 4 (by decide)).elim
              | ok m r7 =>
                have hX2 := hX.out
                rw [hd] at hX2
                simp only [bind_ok] at hX2
                replace hX := hide hX2
                clear hX2
                have hdecl := hide (fun (w : World) (h9 : PsW w p C 0 0 r43) => (show Calls Tryz.prog 64 #[.pointer (some ⟨p, 0, none⟩)] w (fun e w2 => Got p C w (NumR p C 0 0) (.ok m r7) e w2) from by have hN := bounds_any p C 0 0 r43 w h9; rw [hd] at hN; exact hN (fun e => by cases e)))
                clear hd
                have hpB := hide (fun b (hb : w00.heap.size ≤ b) => above_not hlt b hb)
                have hB0 := hide hu.out.size
                have hGS := hide (show GS p gb w00.heap.size C 0 0 r43 cs ars (Value.slice A1 cs.length c1) (Value.slice A2 ars.length c2) wq43 from ⟨hR.out.heap, hs.out, hR.out.cells, hR.out.arrs⟩)
                have hlen := hide hl2
                have hnew := hide (fun (w : World) (hu9 : Upd (fun b => b = p ∨ b = gb ∨ (Value.slice A2 ars.length c2).ownBlock = some b) wq43 w) => (show ¬ (fun b => b = p ∨ b = gb ∨ (Value.slice A2 ars.length c2).ownBlock = some b) w.heap.size from fun h => by
                  have h0 := hu9.size
                  have h1 := hs.out.lt
                  have h2 := (Array.getElem?_eq_some_iff.1 hR.out.heap).1
                  rcases h with h | h | h
                  · omega
                  · omega
                  · have := (hR.out.arrs.own _ h).2; omega))
                refine wp_region_tide (fun b => b = p ∨ b = gb ∨ (Value.slice A2 ars.length c2).ownBlock = some b) (factAt [(fun v _ => v = (.pointer (some ⟨gb, 1, none⟩))), (fun v _ => v = (Value.slice A2 ars.length c2)), (fun v _ => v = (.string (strB a43))), (fun v _ => v = (.pointer (some ⟨p, 0, none⟩))), (fun v _ => v = (.int .i64 (m : Nat))), (fun v _ => v = (.agg #[.string (strB a43), .int .i64 (m : Nat)])), (fun v w => OneF (fun b => b = p ∨ b = gb ∨ (Value.slice A2 ars.length c2).ownBlock = some b) [.string (strB a43), .int .i64 (m : Nat)] v w), (fun v w => SlF v), (fun v _ => v = (.pointer (some ⟨gb, 1, none⟩))), (fun _ _ => True)]) [none, none, none, none, some (fun _ w => GS p gb w00.heap.size C 0 0 r7 cs ars (Value.slice A1 cs.length c1) (Value.slice A2 ars.length c2) w), none, none, some (fun v w => GA p gb w00.heap.size C 0 0 r7 cs (ars ++ [(a43, m)]) (Value.slice A1 cs.length c1) (Value.slice A2 ars.length c2) v w), none, some (fun _ w => ∃ aw2, GS p gb w00.heap.size C 0 0 r7 cs (ars ++ [(a43, m)]) (Value.slice A1 cs.length c1) aw2 w)] (fun w => GS p gb w00.heap.size C 0 0 r43 cs ars (Value.slice A1 cs.length c1) (Value.slice A2 ars.length c2) w) (fun w => w.heap[gb]? = some (.cells #[(Value.slice A1 cs.length c1), (Value.slice A2 ars.length c2)] 41 (0, 0))) 9 (by kernel_rfl) (fkept_at ⟨FKept.eq _, FKept.eq _, FKept.eq _, FKept.eq _, FKept.eq _, FKept.eq _, OneF.kept, fun _ _ _ h _ => h, FKept.eq _, FKept.triv, trivial⟩) (fun _ _ h hb => h.below hb) (fun w w' h hb => heapB h hb) (fun _ => by kernel_rfl) ⟨fun _ _ _ h hb => h.below hb, GA.kept, fun _ _ _ ⟨c, h⟩ hb => ⟨c, h.below hb⟩, trivial⟩ (by kernel_rfl) (by kernel_rfl) (by kernel_rfl) (by kernel_rfl) (Nat.le_of_ble_eq_true (by kernel_rfl)) ?_ (hGS.out.heap) ⟨?_, ?_, ?_, ?_, ?_, ?_, ?_, ?_, ?_, ?_, trivial⟩ ?_
                · exact hGS.out
                · intro T w Q hu hs hv hw hd ht
                  have hx3 : T.getD 3 undef = (.pointer (some ⟨gb, 0, none⟩)) := hv 3 (by kernel_rfl)
                  refine .inl ⟨wanted_none rfl, ?_⟩
                  clear hd hv hu hs hw ht
                  go_simp
                  exact ⟨_, rfl, DstOk.some rfl, Below.refl _ _, rfl⟩
                · intro T w Q hu hs hv hw hd ht
                  have hx37 : T.getD 37 undef = (.pointer (some ⟨gb, 1, none⟩)) := Deps.at 0 hd (by kernel_rfl)
                  refine .inl ⟨wanted_none rfl, ?_⟩
                  have hI := cell_at (ht (by kernel_rfl)) 1
                  simp at hI
                  clear hd hv hu hs hw ht
                  go_simp
                  exact ⟨_, rfl, DstOk.some rfl, Below.refl _ _, rfl⟩
                · intro T w Q hu hs hv hw hd ht
                  have hx5 : T.getD 5 undef = (.string (strB a43)) := hv 5 (by kernel_rfl)
                  refine .inl ⟨wanted_none rfl, ?_⟩
                  clear hd hv hu hs hw ht
                  go_simp
                  exact ⟨_, rfl, DstOk.some rfl, Below.refl _ _, rfl⟩
                · intro T w Q hu hs hv hw hd ht
                  have hx0 : T.getD 0 undef = (.pointer (some ⟨p, 0, none⟩)) := hv 0 (by kernel_rfl)
                  refine .inl ⟨wanted_none rfl, ?_⟩
                  clear hd hv hu hs hw ht
                  go_simp
                  exact ⟨_, rfl, DstOk.some rfl, Below.refl _ _, rfl⟩
                · intro T w Q hu hs hv hw hd ht hc0
                  have hc : (fun w => GS p gb w00.heap.size C 0 0 r43 cs ars (Value.slice A1 cs.length c1) (Value.slice A2 ars.length c2) w) w := hc0
                  have hx40 : T.getD 40 undef = (.pointer (some ⟨p, 0, none⟩)) := Deps.at 3 hd (by kernel_rfl)
                  replace hc := hide hc
                  refine .inl ⟨wanted_none rfl, ?_⟩
                  have hN := hdecl.out w hc.out.ps
                  have hc2 := hc
                  clear hd hv hu hs hw ht hc hc0
                  go_simp
                  refine hN.mono ?_
                  rintro e w5 ⟨hU, v, rfl, rfl, hps⟩
                  exact ⟨_, rfl, DstOk.some rfl, hU.mono fun _ _ h => .inl h, (by intros; exact hU.heap hc2.out.heap hgp.out), rfl, ⟨hU.heap hc2.out.heap hgp.out, hps, hc2.out.cells.upd strFam hU (fun b hb e => hpB.out b hb e), hc2.out.arrs.upd arrFam hU (fun b hb e => hpB.out b hb e)⟩⟩
                · intro T w Q hu hs hv hw hd ht
                  have hx39 : T.getD 39 undef = (.string (strB a43)) := Deps.at 2 hd (by kernel_rfl)
                  have hy39 := hx39
                  rw [Array.getD_eq_getD_getElem?] at hy39
                  have hx41 : T.getD 41 undef = (.int .i64 (m : Nat)) := Deps.at 4 hd (by kernel_rfl)
                  have hy41 := hx41
                  rw [Array.getD_eq_getD_getElem?] at hy41
                  refine .inl ⟨wanted_none rfl, ?_⟩
                  clear hd hv hu hs hw ht
                  go_simp
                  exact ⟨_, rfl, DstOk.some rfl, Below.refl _ _, rfl⟩
                · intro T w Q hu hs hv hw hd ht
                  have hx42 : T.getD 42 undef = (.agg #[.string (strB a43), .int .i64 (m : Nat)]) := Deps.at 5 hd (by kernel_rfl)
                  have hy42 := hx42
                  rw [Array.getD_eq_getD_getElem?] at hy42
                  refine .inl ⟨wanted_none rfl, ?_⟩
                  have hF := hnew.out w hu
                  clear hd hv hu hs hw ht
                  go_simp
                  refine ⟨_, rfl, DstOk.some rfl, (Below.refl _ w).alloc (Nat.le_refl _) _, OneF.of hF (heap_new _ _)⟩
                · intro T w Q hu hs hv hw hd ht hc0
                  have hc : (fun (w : World) => GS p gb w00.heap.size C 0 0 r7 cs ars (Value.slice A1 cs.length c1) (Value.slice A2 ars.length c2) w) w := hc0
                  have hx38 : T.getD 38 undef = (Value.slice A2 ars.length c2) := Deps.at 1 hd (by kernel_rfl)
                  have f43 : (fun (v : Value) (w : World) => OneF (fun b => b = p ∨ b = gb ∨ (Value.slice A2 ars.length c2).ownBlock = some b) [.string (strB a43), .int .i64 (m : Nat)] v w) (T.getD 43 undef) w := Deps.at 6 hd (by kernel_rfl)
                  generalize hx43 : T.getD 43 undef = x43 at f43 hc
                  replace f43 := hide f43
                  replace hc := hide hc
                  refine .inl ⟨wanted_none rfl, ?_⟩
                  obtain ⟨g, tt, rfl, hgF, hgh⟩ := f43.out
                  have hsz : w00.heap.size ≤ w.heap.size := Nat.le_trans hB0.out hu.size
                  refine wp_row_op arrFam 39 65 (.agg #[.string .empty, .int .i64 0]) 2 24 Tryz.underlying39 arr_info rfl (by decide) (by decide) (.tmp 38) (.tmp 43) rfl w00.heap.size (Value.slice A2 ars.length c2) ars hx38 hc.out.arrs g 1 hx43 (a43, m) [.string (strB a43), .int .i64 (m : Nat)] rfl ?_ rfl hlen.out hsz ?_
                  · intro j u hj
                    rw [cell_at hgh]
                    simpa using hj
                  intro v' w' hrow hu9
                  obtain ⟨A5, c5, rfl⟩ := hrow.slice
                  have hgb : w'.heap[gb]? = some (.cells #[(Value.slice A1 cs.length c1), (Value.slice A2 ars.length c2)] 41 (0, 0)) := hu9.heap hc.out.heap (fun e => by have := hc.out.arrs.type e hc.out.heap; exact absurd this (by decide))
                  exact ⟨_, rfl, DstOk.some rfl, hu9.mono fun _ _ h => .inr (.inr h), (by intros; exact hgb), ⟨_, _, _, rfl⟩, ⟨hgb, hc.out.ps.row_ hu9 (fun k hk => (hc.out.arrs.own k hk).1) hpB2.out htok.out, hc.out.cells.other strFam (fun _ _ _ _ _ h => h) hu9 (fun k hk e => hc.out.cells.apart hc.out.arrs (by decide) k hk e), hrow⟩⟩
                · intro T w Q hu hs hv hw hd ht
                  have hx3 : T.getD 3 undef = (.pointer (some ⟨gb, 0, none⟩)) := hv 3 (by kernel_rfl)
                  refine .inl ⟨wanted_none rfl, ?_⟩
                  clear hd hv hu hs hw ht
                  go_simp
                  exact ⟨_, rfl, DstOk.some rfl, Below.refl _ _, rfl⟩
                · intro T w Q hu hs hv hw hd ht hc0
                  have hc : (fun (v : Value) (w : World) => GA p gb w00.heap.size C 0 0 r7 cs (ars ++ [(a43, m)]) (Value.slice A1 cs.length c1) (Value.slice A2 ars.length c2) v w) (T.getD 44 undef) w := hc0
                  have f44 : (fun (v : Value) (w : World) => SlF v) (T.getD 44 undef) w := Deps.at 7 hd (by kernel_rfl)
                  generalize hx44 : T.getD 44 undef = x44 at f44 hc
                  replace f44 := hide f44
                  have hx45 : T.getD 45 undef = (.pointer (some ⟨gb, 1, none⟩)) := Deps.at 8 hd (by kernel_rfl)
                  replace hc := hide hc
                  refine .inl ⟨wanted_none rfl, ?_⟩
                  have hq := hc.out
                  obtain ⟨A5, n5, c5, rfl⟩ := f44.out
                  have hq5 := hide hq
                  have hfr := frozen_at hq.heap 1
                  have hc1 := cell_at hq.heap 1
                  simp at hc1
                  clear hd hv hu hs hw ht hc hc0 hq f44
                  go_simp
                  exact ⟨undef, fun _ => rfl, Upd.set w (F := fun b => b = p ∨ b = gb ∨ (Value.slice A2 ars.length c2).ownBlock = some b) (a := ⟨gb, 1, none⟩) (.inr (.inl rfl)) _, trivial, _, hq5.out.store hgp.out htok2.out⟩
                intro T w hu5 hsz5 hv hf hcur
                have hcur1 : (fun (w : World) => ∃ aw2, GS p gb w00.heap.size C 0 0 r7 cs (ars ++ [(a43, m)]) (Value.slice A1 cs.length c1) aw2 w) w := hcur
                replace hcur1 := hcur1
                have hT : T = #[T.getD 0 undef, T.getD 1 undef, T.getD 2 undef, T.getD 3 undef, T.getD 4 undef, T.getD 5 undef, T.getD 6 undef, T.getD 7 undef, T.getD 8 undef, T.getD 9 undef, T.getD 10 undef, T.getD 11 undef, T.getD 12 undef, T.getD 13 undef, T.getD 14 undef, T.getD 15 undef, T.getD 16 undef, T.getD 17 undef, T.getD 18 undef, T.getD 19 undef, T.getD 20 undef, T.getD 21 undef, T.getD 22 undef, T.getD 23 undef, T.getD 24 undef, T.getD 25 undef, T.getD 26 undef, T.getD 27 undef, T.getD 28 undef, T.getD 29 undef, T.getD 30 undef, T.getD 31 undef, T.getD 32 undef, T.getD 33 undef, T.getD 34 undef, T.getD 35 undef, T.getD 36 undef, T.getD 37 undef, T.getD 38 undef, T.getD 39 undef, T.getD 40 undef, T.getD 41 undef, T.getD 42 undef, T.getD 43 undef, T.getD 44 undef, T.getD 45 undef, T.getD 46 undef, T.getD 47 undef, T.getD 48 undef, T.getD 49 undef, T.getD 50 undef] := expl hsz5
                rw [hT]
                clear hT
                rw [show T.getD 0 undef = (.pointer (some ⟨p, 0, none⟩)) from hv 0 (by kernel_rfl)]
                rw [hv 1 (by kernel_rfl)]
                rw [hv 2 (by kernel_rfl)]
                rw [show T.getD 3 undef = (.pointer (some ⟨gb, 0, none⟩)) from hv 3 (by kernel_rfl)]
                rw [hv 4 (by kernel_rfl)]
                rw [show T.getD 5 undef = (.string (strB a43)) from hv 5 (by kernel_rfl)]
                rw [hv 6 (by kernel_rfl)]
                rw [hv 7 (by kernel_rfl)]
                rw [hv 8 (by kernel_rfl)]
                rw [hv 9 (by kernel_rfl)]
                rw [hv 10 (by kernel_rfl)]
                rw [hv 11 (by kernel_rfl)]
                rw [hv 12 (by kernel_rfl)]
                rw [hv 13 (by kernel_rfl)]
                rw [hv 14 (by kernel_rfl)]
                rw [hv 15 (by kernel_rfl)]
                rw [hv 16 (by kernel_rfl)]
                rw [hv 17 (by kernel_rfl)]
                rw [hv 18 (by kernel_rfl)]
                rw [hv 19 (by kernel_rfl)]
                rw [hv 20 (by kernel_rfl)]
                rw [hv 21 (by kernel_rfl)]
                rw [hv 22 (by kernel_rfl)]
                rw [hv 23 (by kernel_rfl)]
                rw [hv 24 (by kernel_rfl)]
                rw [hv 25 (by kernel_rfl)]
                rw [hv 26 (by kernel_rfl)]
                rw [hv 27 (by kernel_rfl)]
                rw [hv 28 (by kernel_rfl)]
                rw [hv 29 (by kernel_rfl)]
                rw [hv 30 (by kernel_rfl)]
                rw [hv 31 (by kernel_rfl)]
                rw [hv 32 (by kernel_rfl)]
                rw [hv 33 (by kernel_rfl)]
                rw [hv 34 (by kernel_rfl)]
                rw [hv 35 (by kernel_rfl)]
                rw [hv 36 (by kernel_rfl)]
                rw [show T.getD 37 undef = (.pointer (some ⟨gb, 1, none⟩)) from hf 0 (by decide)]
                rw [show T.getD 38 undef = (Value.slice A2 ars.length c2) from hf 1 (by decide)]
                rw [show T.getD 39 undef = (.string (strB a43)) from hf 2 (by decide)]
                rw [show T.getD 40 undef = (.pointer (some ⟨p, 0, none⟩)) from hf 3 (by decide)]
                rw [show T.getD 41 undef = (.int .i64 (m : Nat)) from hf 4 (by decide)]
                rw [show T.getD 42 undef = (.agg #[.string (strB a43), .int .i64 (m : Nat)]) from hf 5 (by decide)]
                rw [show T.getD 45 undef = (.pointer (some ⟨gb, 1, none⟩)) from hf 8 (by decide)]
                rw [hv 46 (by kernel_rfl)]
                rw [hv 47 (by kernel_rfl)]
                rw [hv 48 (by kernel_rfl)]
                rw [hv 49 (by kernel_rfl)]
                rw [hv 50 (by kernel_rfl)]
                clear hf hsz5 hv hcur
                simp only [getD_toArray, List.getD_cons_succ, List.getD_cons_zero]
                generalize T.getD 43 undef = y43
                generalize T.getD 44 undef = y44
                clear T
                obtain ⟨nv, hGS2⟩ := hcur1
                replace hu5 := hide hu5
                replace hrs := hide (hu5.out.heap hrs.out (fun e => by
                  rcases e with e | e | e
                  · omega
                  · omega
                  · exact absurd (hR.out.arrs.type e hrs.out) (by decide)))
                replace hu := hide (hu.out.trans hu5.out (fun k hk e => by
                  rcases e with e | e | e
                  · exact e
                  · omega
                  · have := (hR.out.arrs.own _ e).1; omega))
                replace hR := hide (show GR gb w00.heap.size cs (ars ++ [(a43, m)]) (Value.slice A1 cs.length c1) nv _ from ⟨hGS2.heap, hGS2.cells, hGS2.arrs⟩)
                replace hs := hide hGS2.ps
                clear hGS hGS2 hu5 hnew hdecl
                go_wp2_with fail
                have hG := expect_any [59] (by decide) p C 0 0 r7 _ hs.out
                cases hr : want [59] r7 with
                | no =>
                  have hX2 := hX.out
                  rw [hr] at hX2
                  try simp only [bind_no] at hX2
                  exact absurd hX2.symm hno.out
                | er r9 k9 =>
                  rw [hr] at hG
                  have hX2 := hX.out
                  rw [hr] at hX2
                  try simp only [bind_er] at hX2
                  replace hX := hide hX2
                  refine (hG).mono ?_
                  rintro e wq44 ⟨hU, rfl⟩
                  replace hu := hide (hu.out.then hU)
                  clear hr hG hU hX2
                  go_wp2_with fail
                  refine ⟨rfl, ?_⟩
                  exact Got.er hu.out hX.out.symm
                | ok a44 r44 =>
                  rw [hr] at hG
                  have hX2 := hX.out
                  rw [hr] at hX2
                  try simp only [bind_ok] at hX2
                  replace hX := hide hX2
                  refine (hG).mono ?_
                  rintro e wq44 ⟨hU, v44, rfl, rfl, h1⟩
                  have hsz := hu.out.size
                  replace hR := hide (hR.out.upd (hU) hgp.out hpB2.out)
                  replace hrs := hide ((hU).heap hrs.out hrp)
                  replace hs := hide h1
                  replace hu := hide (hu.out.then hU)
                  clear hr hG hU h1 hX2 hsz
                  go_wp2_with fail
                  go_roundg g
                  case measure => omega
                  case rel => exact ⟨cs, ars ++ [(a43, m)], _, nv, r44, hu.out, hR.out, hs.out, hrs.out, by have := hlk.out; simp; omega, hX.out⟩
end Go.Proofs.YteplkhgaoaphhaaGreatDoor
