/- Part 17 of the walks (merged): RgP, RfTd, RfV, RgS. -/
import Derived.Test.YtiiihpokpfhclaaDoorMs16
import Derived.Test.YtiiihpokpfhclaaDoorMs14
import Derived.Test.YtiiihpokpfhclaaDoorMs15
import Derived.Test.YtiiihpokpfhclaaDoorMs4
import Derived.Deep.LoopGhost
/- The document's Func: one statement. Written by mkfunc6.py. -/
namespace Go.Proofs.YtiiihpokpfhclaaDoor
open Go Go.RowKit Go.Lib
set_option maxRecDepth 100000 in
set_option maxHeartbeats 12800000 in
theorem func6_one (l : List UInt8) (hl : l.length ≤ 900000) (W : World) (ts : List Tok) (s : Sm) (hlx : lexT l = .ok ts) (hn : nx ts [102, 110] = true) (hm : isNm ts.tail = true) (hp : nx ts.tail.tail [40] = true) (hq : nx ts.tail.tail.tail [41] = true) (hb4 : nx ts.tail.tail.tail.tail [123] = true) (hb5 : nx ts.tail.tail.tail.tail.tail [118, 97, 114] = false) (hb6 : nx ts.tail.tail.tail.tail.tail [112, 116, 114] = false) (hS : (∀ (p : Nat) (C : Cx) (w : World), Lv w p C 0 1 0 ts.tail.tail.tail.tail.tail → Calls Tryd.prog 30 #[.pointer (some ⟨p, 0, none⟩)] w fun e w' => Upd (At p) w w' ∧ ∃ v, e = .returned v ∧ BlkV w' (w.heap.size ≤ ·) [s] v ∧ Lv w' p C 0 1 1 [])) :
    Calls Tryd.prog 9 #[.string (strB l)] W fun e w' => TextR W zF FnV (some (.ok ⟨txt ts.tail, [], [], [s]⟩) : Option (Except (Nat × Nat) Fn7)) e w' := by
  have hN := refTokens_any l hl (W.alloc (.cells #[.string ⟨#[]⟩, .slice none 0 0, .slice none 0 0, .slice none 0 0] 31))
  rw [hlx] at hN
  replace hN := hide hN
  have hlx2 := hide hlx
  clear hlx
  skip
  go_enter Tryd.func9, Tryd.ntmps9
  go_wp2_with fail
  refine hN.out.mono ?_
  rintro e w1 ⟨hb, v, rfl, hrow⟩
  have hslc := hrow.slice
  obtain ⟨A, c, rfl, -⟩ := hslc
  have hs := Lv.start hlx2.out hrow hb
  have hb0 : Below W.heap.size W w1 := ((Below.refl _ W).alloc (Nat.le_refl _) (.cells #[.string ⟨#[]⟩, .slice none 0 0, .slice none 0 0, .slice none 0 0] 31)).trans (hb.mono (by simp))
  have hr := heapB (heap_new W (.cells #[.string ⟨#[]⟩, .slice none 0 0, .slice none 0 0, .slice none 0 0] 31)) hb
  have hsz : W.heap.size < w1.heap.size := by have := hb.size; simp at this; omega
  have hown : ∀ k, (Value.slice A ts.length c).ownBlock = some k → W.heap.size + 1 ≤ k ∧ k < w1.heap.size := fun k hk => by have := World.ownsRow.lt hrow k hk; simp at this; omega
  replace hr := heap_old (heap_old hr (.cells #[.slice A ts.length c, .int .i64 0, .int .i64 l.length, .int .i64 0, .int .i64 0, .int .i64 0, .int .i64 0] 70)) (.cells #[.string ⟨#[]⟩, .slice none 0 0, .slice none 0 0, .slice none 0 0] 31)
  replace hs := hs.alloc (.cells #[.string ⟨#[]⟩, .slice none 0 0, .slice none 0 0, .slice none 0 0] 31)
  have hg := heap_new (w1.alloc (.cells #[.slice A ts.length c, .int .i64 0, .int .i64 l.length, .int .i64 0, .int .i64 0, .int .i64 0, .int .i64 0] 70)) (.cells #[.string ⟨#[]⟩, .slice none 0 0, .slice none 0 0, .slice none 0 0] 31)
  have hB : BaseF W ((w1.alloc (.cells #[.slice A ts.length c, .int .i64 0, .int .i64 l.length, .int .i64 0, .int .i64 0, .int .i64 0, .int .i64 0] 70)).alloc (.cells #[.string ⟨#[]⟩, .slice none 0 0, .slice none 0 0, .slice none 0 0] 31)) w1.heap.size (w1.alloc (.cells #[.slice A ts.length c, .int .i64 0, .int .i64 l.length, .int .i64 0, .int .i64 0, .int .i64 0, .int .i64 0] 70)).heap.size W.heap.size ⟨.slice A ts.length c, ts, l.length, (W.alloc (.cells #[.string ⟨#[]⟩, .slice none 0 0, .slice none 0 0, .slice none 0 0] 31)).heap.size⟩ l.length := ⟨(hb0.alloc (by omega) _).alloc (by simp; omega) _, Nat.le_refl _, hsz, by simp, by simp, fun k hk => by have := hown k hk; simp; omega, rfl⟩
  have hsz1 : (w1.alloc (.cells #[.slice A ts.length c, .int .i64 0, .int .i64 l.length, .int .i64 0, .int .i64 0, .int .i64 0, .int .i64 0] 70)).heap.size = w1.heap.size + 1 := by simp
  rw [hsz1] at hg hB
  have hsl : (strB l).size = l.length := rfl
  clear hb hb0 hown hN hrow hlx2
  replace hs := hide hs
  replace hr := hide hr
  replace hg := hide hg
  replace hB := hide hB
  go_wp2_with fail
  generalize (w1.alloc (.cells #[.slice A ts.length c, .int .i64 0, .int .i64 l.length, .int .i64 0, .int .i64 0, .int .i64 0, .int .i64 0] 70)).alloc (.cells #[.string ⟨#[]⟩, .slice none 0 0, .slice none 0 0, .slice none 0 0] 31) = wB at hs hr hg hB ⊢
  generalize hCx : (⟨.slice A ts.length c, ts, l.length, (W.alloc (.cells #[.string ⟨#[]⟩, .slice none 0 0, .slice none 0 0, .slice none 0 0] 31)).heap.size⟩ : Cx) = C at hs hB
  clear hCx hsl
  generalize hp : w1.heap.size = p at *
  generalize hgf : p + 1 = gf at *
  generalize hgR : W.heap.size = gR at *
  clear hsz1 hp hgf hsz
  have hu := hide (Upd.refl (fun b => b = p ∨ b = gf) wB)
  have hpg := hB.out.pg
  have hgt := hB.out.gt
  have hI := wantL [102, 110] (by decide) (by decide) hs.out
  simp only [hn, if_true] at hI
  refine hI.mono ?_
  rintro e wq1 ⟨rfl, hU, h1⟩
  clear hI
  replace hg := hide ((hU).heap hg.out hB.out.gp)
  replace hr := hide ((hU).heap hr.out hB.out.Rp)
  replace hs := hide h1
  replace hu := hide (hu.out.then ((hU).mono fun _ _ h => .inl h))
  clear hU h1
  go_wp2_with fail
  have hI := nameL hs.out
  simp only [hm, if_true] at hI
  refine hI.mono ?_
  rintro e wq2 ⟨hU, rfl, h1⟩
  clear hI
  replace hg := hide ((hU).heap hg.out hB.out.gp)
  replace hr := hide ((hU).heap hr.out hB.out.Rp)
  replace hs := hide h1
  replace hu := hide (hu.out.then ((hU).mono fun _ _ h => .inl h))
  clear hU h1
  have cg1 : wq2.cell? ⟨gf, 0, none⟩ = some (.string ⟨#[]⟩) := (cell_at hg.out 0).trans rfl
  have fg1 := frozen_at hg.out 0
  have hsg1 := hide (set_upd wq2 gf 0 (.string (strB (txt ts.tail))))
  replace hs := hide (hs.out.upd hsg1.out hpg hgt)
  replace hr := hide (hsg1.out.heap hr.out hB.out.Rg)
  replace hu := hide (hu.out.then (hsg1.out.mono fun _ _ h => .inr h))
  have hgn1 : Hid ((wq2.setCell ⟨gf, 0, none⟩ (.string (strB (txt ts.tail)))).heap[gf]? = some (.cells #[(.string (strB (txt ts.tail))), .slice none 0 0, .slice none 0 0, .slice none 0 0] 31 (0, 0))) := hide (heap_set hg.out 0 (.string (strB (txt ts.tail))))
  clear hg
  have hg := hgn1
  clear hgn1 hsg1
  go_wp2_with fail
  generalize hz1 : World.setCell _ _ _ = wz1 at hs hu hg hr ⊢
  clear cg1 fg1 hz1
  have hI := wantL [40] (by decide) (by decide) hs.out
  simp only [hp, if_true] at hI
  refine hI.mono ?_
  rintro e wq3 ⟨rfl, hU, h1⟩
  clear hI
  replace hg := hide ((hU).heap hg.out hB.out.gp)
  replace hr := hide ((hU).heap hr.out hB.out.Rp)
  replace hs := hide h1
  replace hu := hide (hu.out.then ((hU).mono fun _ _ h => .inl h))
  clear hU h1
  go_wp2_with fail
  have hI := takeL [41] (by decide) (by decide) hs.out
  simp only [hq, if_true] at hI
  refine hI.mono ?_
  rintro e wq4 ⟨rfl, hU, h1⟩
  clear hI
  replace hg := hide ((hU).heap hg.out hB.out.gp)
  replace hr := hide ((hU).heap hr.out hB.out.Rp)
  replace hs := hide h1
  replace hu := hide (hu.out.then ((hU).mono fun _ _ h => .inl h))
  clear hU h1
  have hltp : p < wB.heap.size := by have := hB.out.h2; have := hB.out.h3; omega
  have hltg : gf < wB.heap.size := hB.out.h3
  have htkl : ∀ k, C.vt.ownBlock = some k → k < wB.heap.size := fun k hk => (hB.out.tk k hk).1
  go_wp2_with fail
  have hI := isL [123] (by decide) (by decide) hs.out
  rw [hb4] at hI
  refine hI.mono ?_
  rintro e wq5 ⟨rfl, hb⟩
  clear hI
  replace hs := hide (hs.out.below hb)
  replace hg := hide ((at_below6 p hb).heap hg.out hB.out.gp)
  replace hr := hide ((at_below6 p hb).heap hr.out hB.out.Rp)
  replace hu := hide (hu.out.then ((at_below6 p hb).mono fun _ _ h => .inl h))
  clear hb
  go_wp2_with fail
  have hI := openL hs.out
  simp only [eq_false (show ¬ (0 : Nat) = 40 by decide), if_false] at hI
  refine hI.mono ?_
  rintro e wq6 ⟨hU, rfl, h1⟩
  clear hI
  replace hg := hide ((hU).heap hg.out hB.out.gp)
  replace hr := hide ((hU).heap hr.out hB.out.Rp)
  replace hs := hide h1
  replace hu := hide (hu.out.then ((hU).mono fun _ _ h => .inl h))
  clear hU h1
  replace hs : Hid (Lv wq6 p C 0 1 0 ts.tail.tail.tail.tail) := hs
  obtain ⟨i2, ci2, fi2, wi2, h1⟩ := hs.out.inc (nx_ne hb4 (by decide))
  have hU := Upd.set wq6 (F := At p) (a := ⟨p, 1, none⟩) rfl (.int .i64 ((i2 : Int) + 1))
  replace hg := hide ((hU).heap hg.out hB.out.gp)
  replace hr := hide ((hU).heap hr.out hB.out.Rp)
  replace hs := hide h1
  replace hu := hide (hu.out.then ((hU).mono fun _ _ h => .inl h))
  clear hU h1
  go_wp2_with fail
  generalize hz2 : World.setCell _ _ _ = ws2 at hs hu hg hr ⊢
  clear ci2 fi2 wi2 hz2
  have hBl := hide hu.out.size
  generalize hwl : ws2 = wl at hs hu hg hr hBl ⊢
  clear hwl
  go_loopg [10] 1 (fun gk pv wr => wr = wl)
  case atStart => rfl
  case round =>
    obtain rfl := hrel
    go_wp2_with fail
    have hI := isL [118, 97, 114] (by decide) (by decide) hs.out
    rw [hb5] at hI
    refine hI.mono ?_
    rintro e wq7 ⟨rfl, hb⟩
    clear hI
    replace hs := hide (hs.out.below hb)
    replace hg := hide ((at_below6 p hb).heap hg.out hB.out.gp)
    replace hr := hide ((at_below6 p hb).heap hr.out hB.out.Rp)
    replace hu := hide (hu.out.then ((at_below6 p hb).mono fun _ _ h => .inl h))
    clear hb
    go_wp2_with fail
    have hI := isL [112, 116, 114] (by decide) (by decide) hs.out
    rw [hb6] at hI
    refine hI.mono ?_
    rintro e wq8 ⟨rfl, hb⟩
    clear hI
    replace hs := hide (hs.out.below hb)
    replace hg := hide ((at_below6 p hb).heap hg.out hB.out.gp)
    replace hr := hide ((at_below6 p hb).heap hr.out hB.out.Rp)
    replace hu := hide (hu.out.then ((at_below6 p hb).mono fun _ _ h => .inl h))
    clear hb
    go_wp2_with fail
    have hsz := hu.out.size
    refine (hS p C _ hs.out).mono ?_
    rintro e wq9 ⟨hU, v9, rfl, hv, h1⟩
    have hbd := hide (BlkV.mono (S' := (wB.heap.size ≤ ·)) (fun b _ hb => Nat.le_trans hsz hb) _ _ hv)
    have hslc := hbd.out.slc
    obtain ⟨A9, m9, c9, rfl⟩ := hslc
    clear hv hsz
    replace hg := hide ((hU).heap hg.out hB.out.gp)
    replace hr := hide ((hU).heap hr.out hB.out.Rp)
    replace hs := hide h1
    replace hu := hide (hu.out.then ((hU).mono fun _ _ h => .inl h))
    clear hU h1
    have hps : Hid (ListV wq9 (fun b => wB.heap.size ≤ b ∧ b < wq9.heap.size) VarP 2 [] (.slice none 0 0)) := hide ⟨[], slc_nil _ _, trivial⟩
    have hloc : Hid (ListV wq9 (wr.heap.size ≤ ·) VarP 2 [] (.slice none 0 0)) := hide ⟨[], slc_nil _ _, trivial⟩
    have cg3 : wq9.cell? ⟨gf, 3, none⟩ = some (.slice none 0 0) := (cell_at hg.out 3).trans rfl
    have fg3 := frozen_at hg.out 3
    have hsg3 := hide (set_upd wq9 gf 3 (.slice A9 m9 c9))
    replace hs := hide (hs.out.upd hsg3.out hpg hgt)
    replace hps := hide (ListV.upd varFam (hsg3.out) (fun b hb => (above_not hltg) b hb.1) hps.out)
    replace hloc := hide (ListV.upd varFam (hsg3.out) (fun b hb => (above_not hltg) b (Nat.le_trans hBl.out hb)) hloc.out)
    replace hbd := hide (BlkV.upd (hsg3.out) (above_not hltg) _ _ hbd.out)
    replace hr := hide (hsg3.out.heap hr.out hB.out.Rg)
    replace hu := hide (hu.out.then (hsg3.out.mono fun _ _ h => .inr h))
    have hgn3 : Hid ((wq9.setCell ⟨gf, 3, none⟩ (.slice A9 m9 c9)).heap[gf]? = some (.cells #[(.string (strB (txt ts.tail))), .slice none 0 0, .slice none 0 0, (.slice A9 m9 c9)] 31 (0, 0))) := hide (heap_set hg.out 3 (.slice A9 m9 c9))
    clear hg
    have hg := hgn3
    clear hgn3 hsg3
    go_wp2_with fail
    generalize hz3 : World.setCell _ _ _ = wz3 at hs hu hg hr hps hloc hbd ⊢
    clear cg3 fg3 hz3
    obtain ⟨i, hir, hw⟩ := hs.out
    have hsl := hw.row.slice
    obtain ⟨A, c, hA, hm⟩ := hsl
    have hh := hw.heap
    rw [hA] at hh
    have c0 : wz3.cell? ⟨p, 0, none⟩ = _ := cell_at hh 0
    have c1 : wz3.cell? ⟨p, 1, none⟩ = _ := cell_at hh 1
    have c3 : wz3.cell? ⟨p, 3, none⟩ = _ := cell_at hh 3
    simp at c0 c1 c3
    have hlt : Hid (¬ ((i : Int) < (C.ts.length : Int))) := hide (by have := List.drop_eq_nil_iff.1 hir; omega)
    generalize C.ts.length = N at c0 hlt
    replace c0 := hide c0
    replace c1 := hide c1
    have c3w := hide c3
    clear hh hw hm hA hir c3
    refine wp_region_flow (fun _ => False) (factAt [(fun v _ => v = (.pointer (some ⟨p, 0, none⟩))), (fun v _ => v = (.pointer (some ⟨p, 0, none⟩))), (fun v _ => v = (.pointer (some ⟨p, 3, none⟩))), (fun v _ => v = (.int .i64 0)), (fun v _ => v = (.bool true)), (fun v _ => v = (.bool true)), (fun v _ => v = (.pointer (some ⟨p, 0, none⟩))), (fun v _ => v = (.pointer (some ⟨p, 0, none⟩))), (fun v _ => v = (.pointer (some ⟨p, 1, none⟩))), (fun v _ => v = (.int .i64 i)), (fun v _ => v = (.pointer (some ⟨p, 0, none⟩))), (fun v _ => v = (.pointer (some ⟨p, 0, none⟩))), (fun v _ => v = (.pointer (some ⟨p, 0, none⟩))), (fun v _ => v = (.slice A N c)), (fun v _ => v = (.int .i64 N)), (fun v _ => v = (.bool false)), (fun v _ => v = (.bool false))]) [] (fun _ => True) (by kernel_rfl) (fkept_at ⟨FKept.eq _, FKept.eq _, FKept.eq _, FKept.eq _, FKept.eq _, FKept.eq _, FKept.eq _, FKept.eq _, FKept.eq _, FKept.eq _, FKept.eq _, FKept.eq _, FKept.eq _, FKept.eq _, FKept.eq _, FKept.eq _, FKept.eq _, trivial⟩) (fun _ _ h _ => h) trivial (by kernel_rfl) (by kernel_rfl) (by kernel_rfl) (by kernel_rfl) (Nat.le_of_ble_eq_true (by kernel_rfl)) ?_ ⟨?_, ?_, ?_, ?_, ?_, ?_, ?_, ?_, ?_, ?_, ?_, ?_, ?_, ?_, ?_, ?_, ?_, trivial⟩ ?_
    · first | exact trivial | assumption
    · intro T w Q hu hs hv hw hd
      have hx8 : T.getD 8 undef = (.pointer (some ⟨p, 0, none⟩)) := hv 8 (by kernel_rfl)
      refine .inl ⟨wanted_none rfl, ?_⟩
      clear hd hv hu hs hw
      go_simp
      exact ⟨_, rfl, DstOk.some rfl, Below.refl _ _, rfl⟩
    · intro T w Q hu hs hv hw hd
      have hx94 : T.getD 94 undef = (.pointer (some ⟨p, 0, none⟩)) := Deps.at 0 hd (by kernel_rfl)
      refine .inl ⟨wanted_none rfl, ?_⟩
      clear hd hv hu hs hw
      go_simp
      exact ⟨_, rfl, DstOk.some rfl, Below.refl _ _, rfl⟩
    · intro T w Q hu hs hv hw hd
      have hx95 : T.getD 95 undef = (.pointer (some ⟨p, 0, none⟩)) := Deps.at 1 hd (by kernel_rfl)
      refine .inl ⟨wanted_none rfl, ?_⟩
      clear hd hv hu hs hw
      go_simp
      exact ⟨_, rfl, DstOk.some rfl, Below.refl _ _, rfl⟩
    · intro T w Q hu hs hv hw hd
      have hx96 : T.getD 96 undef = (.pointer (some ⟨p, 3, none⟩)) := Deps.at 2 hd (by kernel_rfl)
      refine .inl ⟨wanted_none rfl, ?_⟩
      have hq := hu.cell c3w.out id
      clear hd hv hu hs hw
      go_simp
      exact ⟨_, rfl, DstOk.some rfl, Below.refl _ _, rfl⟩
    · intro T w Q hu hs hv hw hd
      have hx97 : T.getD 97 undef = (.int .i64 0) := Deps.at 3 hd (by kernel_rfl)
      refine .inl ⟨wanted_none rfl, ?_⟩
      clear hd hv hu hs hw
      go_simp
      exact ⟨_, rfl, DstOk.some rfl, Below.refl _ _, by first | rfl | exact congrArg Value.bool (by first | (simp only [decide_eq_true_eq, decide_eq_false_iff_not]; omega) | (simp; exact eq_of_beq a0) | (simp; exact ne_of_beq_false a0) | simp [a0] | simp_all)⟩
    · intro T w Q hu hs hv hw hd
      have hx98 : T.getD 98 undef = (.bool true) := Deps.at 4 hd (by kernel_rfl)
      refine .inl ⟨wanted_none rfl, ?_⟩
      clear hd hv hu hs hw
      go_simp
      exact ⟨_, rfl, DstOk.some rfl, Below.refl _ _, rfl⟩
    · intro T w Q hu hs hv hw hd
      have hx8 : T.getD 8 undef = (.pointer (some ⟨p, 0, none⟩)) := hv 8 (by kernel_rfl)
      refine .inl ⟨wanted_some rfl (Deps.at 5 hd (by kernel_rfl) : slotOf _ T 5 = .bool true), ?_⟩
      clear hd hv hu hs hw
      go_simp
      exact ⟨_, rfl, DstOk.some rfl, Below.refl _ _, rfl⟩
    · intro T w Q hu hs hv hw hd
      have hx100 : T.getD 100 undef = (.pointer (some ⟨p, 0, none⟩)) := Deps.at 6 hd (by kernel_rfl)
      refine .inl ⟨wanted_some rfl (Deps.at 5 hd (by kernel_rfl) : slotOf _ T 5 = .bool true), ?_⟩
      clear hd hv hu hs hw
      go_simp
      exact ⟨_, rfl, DstOk.some rfl, Below.refl _ _, rfl⟩
    · intro T w Q hu hs hv hw hd
      have hx101 : T.getD 101 undef = (.pointer (some ⟨p, 0, none⟩)) := Deps.at 7 hd (by kernel_rfl)
      refine .inl ⟨wanted_some rfl (Deps.at 5 hd (by kernel_rfl) : slotOf _ T 5 = .bool true), ?_⟩
      clear hd hv hu hs hw
      go_simp
      exact ⟨_, rfl, DstOk.some rfl, Below.refl _ _, rfl⟩
    · intro T w Q hu hs hv hw hd
      have hx102 : T.getD 102 undef = (.pointer (some ⟨p, 1, none⟩)) := Deps.at 8 hd (by kernel_rfl)
      refine .inl ⟨wanted_some rfl (Deps.at 5 hd (by kernel_rfl) : slotOf _ T 5 = .bool true), ?_⟩
      have hq := hu.cell c1.out id
      clear hd hv hu hs hw
      go_simp
      exact ⟨_, rfl, DstOk.some rfl, Below.refl _ _, rfl⟩
    · intro T w Q hu hs hv hw hd
      have hx8 : T.getD 8 undef = (.pointer (some ⟨p, 0, none⟩)) := hv 8 (by kernel_rfl)
      refine .inl ⟨wanted_some rfl (Deps.at 5 hd (by kernel_rfl) : slotOf _ T 5 = .bool true), ?_⟩
      clear hd hv hu hs hw
      go_simp
      exact ⟨_, rfl, DstOk.some rfl, Below.refl _ _, rfl⟩
    · intro T w Q hu hs hv hw hd
      have hx104 : T.getD 104 undef = (.pointer (some ⟨p, 0, none⟩)) := Deps.at 10 hd (by kernel_rfl)
      refine .inl ⟨wanted_some rfl (Deps.at 5 hd (by kernel_rfl) : slotOf _ T 5 = .bool true), ?_⟩
      clear hd hv hu hs hw
      go_simp
      exact ⟨_, rfl, DstOk.some rfl, Below.refl _ _, rfl⟩
    · intro T w Q hu hs hv hw hd
      have hx105 : T.getD 105 undef = (.pointer (some ⟨p, 0, none⟩)) := Deps.at 11 hd (by kernel_rfl)
      refine .inl ⟨wanted_some rfl (Deps.at 5 hd (by kernel_rfl) : slotOf _ T 5 = .bool true), ?_⟩
      clear hd hv hu hs hw
      go_simp
      exact ⟨_, rfl, DstOk.some rfl, Below.refl _ _, rfl⟩
    · intro T w Q hu hs hv hw hd
      have hx106 : T.getD 106 undef = (.pointer (some ⟨p, 0, none⟩)) := Deps.at 12 hd (by kernel_rfl)
      refine .inl ⟨wanted_some rfl (Deps.at 5 hd (by kernel_rfl) : slotOf _ T 5 = .bool true), ?_⟩
      have hq := hu.cell c0.out id
      clear hd hv hu hs hw
      go_simp
      exact ⟨_, rfl, DstOk.some rfl, Below.refl _ _, rfl⟩
    · intro T w Q hu hs hv hw hd
      have hx107 : T.getD 107 undef = (.slice A N c) := Deps.at 13 hd (by kernel_rfl)
      refine .inl ⟨wanted_some rfl (Deps.at 5 hd (by kernel_rfl) : slotOf _ T 5 = .bool true), ?_⟩
      clear hd hv hu hs hw
      go_simp
      exact ⟨_, rfl, DstOk.some rfl, Below.refl _ _, rfl⟩
    · intro T w Q hu hs hv hw hd
      have hx103 : T.getD 103 undef = (.int .i64 i) := Deps.at 9 hd (by kernel_rfl)
      have hx108 : T.getD 108 undef = (.int .i64 N) := Deps.at 14 hd (by kernel_rfl)
      refine .inl ⟨wanted_some rfl (Deps.at 5 hd (by kernel_rfl) : slotOf _ T 5 = .bool true), ?_⟩
      have a0 := hlt.out
      clear hd hv hu hs hw
      go_simp
      exact ⟨_, rfl, DstOk.some rfl, Below.refl _ _, by first | rfl | exact congrArg Value.bool (by first | (simp only [decide_eq_true_eq, decide_eq_false_iff_not]; omega) | (simp; exact eq_of_beq a0) | (simp; exact ne_of_beq_false a0) | simp [a0] | simp_all)⟩
    · intro T w Q hu hs hv hw hd
      have hx99 : T.getD 99 undef = (.bool true) := Deps.at 5 hd (by kernel_rfl)
      have hx109 : T.getD 109 undef = (.bool false) := Deps.at 15 hd (by kernel_rfl)
      refine .inl ⟨wanted_none rfl, ?_⟩
      clear hd hv hu hs hw
      go_simp
      exact ⟨_, rfl, DstOk.some rfl, Below.refl _ _, rfl⟩
    intro T w hu hs hv hf hcur
    have hT : T = #[T.getD 0 undef, T.getD 1 undef, T.getD 2 undef, T.getD 3 undef, T.getD 4 undef, T.getD 5 undef, T.getD 6 undef, T.getD 7 undef, T.getD 8 undef, T.getD 9 undef, T.getD 10 undef, T.getD 11 undef, T.getD 12 undef, T.getD 13 undef, T.getD 14 undef, T.getD 15 undef, T.getD 16 undef, T.getD 17 undef, T.getD 18 undef, T.getD 19 undef, T.getD 20 undef, T.getD 21 undef, T.getD 22 undef, T.getD 23 undef, T.getD 24 undef, T.getD 25 undef, T.getD 26 undef, T.getD 27 undef, T.getD 28 undef, T.getD 29 undef, T.getD 30 undef, T.getD 31 undef, T.getD 32 undef, T.getD 33 undef, T.getD 34 undef, T.getD 35 undef, T.getD 36 undef, T.getD 37 undef, T.getD 38 undef, T.getD 39 undef, T.getD 40 undef, T.getD 41 undef, T.getD 42 undef, T.getD 43 undef, T.getD 44 undef, T.getD 45 undef, T.getD 46 undef, T.getD 47 undef, T.getD 48 undef, T.getD 49 undef, T.getD 50 undef, T.getD 51 undef, T.getD 52 undef, T.getD 53 undef, T.getD 54 undef, T.getD 55 undef, T.getD 56 undef, T.getD 57 undef, T.getD 58 undef, T.getD 59 undef, T.getD 60 undef, T.getD 61 undef, T.getD 62 undef, T.getD 63 undef, T.getD 64 undef, T.getD 65 undef, T.getD 66 undef, T.getD 67 undef, T.getD 68 undef, T.getD 69 undef, T.getD 70 undef, T.getD 71 undef, T.getD 72 undef, T.getD 73 undef, T.getD 74 undef, T.getD 75 undef, T.getD 76 undef, T.getD 77 undef, T.getD 78 undef, T.getD 79 undef, T.getD 80 undef, T.getD 81 undef, T.getD 82 undef, T.getD 83 undef, T.getD 84 undef, T.getD 85 undef, T.getD 86 undef, T.getD 87 undef, T.getD 88 undef, T.getD 89 undef, T.getD 90 undef, T.getD 91 undef, T.getD 92 undef, T.getD 93 undef, T.getD 94 undef, T.getD 95 undef, T.getD 96 undef, T.getD 97 undef, T.getD 98 undef, T.getD 99 undef, T.getD 100 undef, T.getD 101 undef, T.getD 102 undef, T.getD 103 undef, T.getD 104 undef, T.getD 105 undef, T.getD 106 undef, T.getD 107 undef, T.getD 108 undef, T.getD 109 undef, T.getD 110 undef, T.getD 111 undef, T.getD 112 undef, T.getD 113 undef, T.getD 114 undef, T.getD 115 undef, T.getD 116 undef, T.getD 117 undef, T.getD 118 undef, T.getD 119 undef, T.getD 120 undef, T.getD 121 undef, T.getD 122 undef, T.getD 123 undef, T.getD 124 undef, T.getD 125 undef, T.getD 126 undef, T.getD 127 undef] := expl hs
    rw [hT]
    clear hT
    rw [hv 0 (by kernel_rfl)]
    rw [hv 1 (by kernel_rfl)]
    rw [hv 2 (by kernel_rfl)]
    rw [hv 3 (by kernel_rfl)]
    rw [hv 4 (by kernel_rfl)]
    rw [hv 5 (by kernel_rfl)]
    rw [hv 6 (by kernel_rfl)]
    rw [hv 7 (by kernel_rfl)]
    rw [show T.getD 8 undef = (.pointer (some ⟨p, 0, none⟩)) from hv 8 (by kernel_rfl)]
    rw [hv 9 (by kernel_rfl)]
    rw [hv 10 (by kernel_rfl)]
    rw [hv 11 (by kernel_rfl)]
    rw [hv 12 (by kernel_rfl)]
    rw [hv 13 (by kernel_rfl)]
    rw [hv 14 (by kernel_rfl)]
    rw [hv 15 (by kernel_rfl)]
    rw [hv 16 (by kernel_rfl)]
    rw [hv 17 (by kernel_rfl)]
    rw [hv 18 (by kernel_rfl)]
    rw [hv 19 (by kernel_rfl)]
    rw [hv 20 (by kernel_rfl)]
    rw [hv 21 (by kernel_rfl)]
    rw [hv 22 (by kernel_rfl)]
    rw [hv 23 (by kernel_rfl)]
    rw [hv 24 (by kernel_rfl)]
    rw [hv 25 (by kernel_rfl)]
    rw [hv 26 (by kernel_rfl)]
    rw [hv 27 (by kernel_rfl)]
    rw [hv 28 (by kernel_rfl)]
    rw [hv 29 (by kernel_rfl)]
    rw [hv 30 (by kernel_rfl)]
    rw [hv 31 (by kernel_rfl)]
    rw [hv 32 (by kernel_rfl)]
    rw [hv 33 (by kernel_rfl)]
    rw [hv 34 (by kernel_rfl)]
    rw [hv 35 (by kernel_rfl)]
    rw [hv 36 (by kernel_rfl)]
    rw [hv 37 (by kernel_rfl)]
    rw [hv 38 (by kernel_rfl)]
    rw [hv 39 (by kernel_rfl)]
    rw [hv 40 (by kernel_rfl)]
    rw [hv 41 (by kernel_rfl)]
    rw [hv 42 (by kernel_rfl)]
    rw [hv 43 (by kernel_rfl)]
    rw [hv 44 (by kernel_rfl)]
    rw [hv 45 (by kernel_rfl)]
    rw [hv 46 (by kernel_rfl)]
    rw [hv 47 (by kernel_rfl)]
    rw [hv 48 (by kernel_rfl)]
    rw [hv 49 (by kernel_rfl)]
    rw [hv 50 (by kernel_rfl)]
    rw [hv 51 (by kernel_rfl)]
    rw [hv 52 (by kernel_rfl)]
    rw [hv 53 (by kernel_rfl)]
    rw [hv 54 (by kernel_rfl)]
    rw [hv 55 (by kernel_rfl)]
    rw [hv 56 (by kernel_rfl)]
    rw [hv 57 (by kernel_rfl)]
    rw [hv 58 (by kernel_rfl)]
    rw [hv 59 (by kernel_rfl)]
    rw [hv 60 (by kernel_rfl)]
    rw [hv 61 (by kernel_rfl)]
    rw [hv 62 (by kernel_rfl)]
    rw [hv 63 (by kernel_rfl)]
    rw [hv 64 (by kernel_rfl)]
    rw [hv 65 (by kernel_rfl)]
    rw [hv 66 (by kernel_rfl)]
    rw [hv 67 (by kernel_rfl)]
    rw [hv 68 (by kernel_rfl)]
    rw [hv 69 (by kernel_rfl)]
    rw [hv 70 (by kernel_rfl)]
    rw [hv 71 (by kernel_rfl)]
    rw [hv 72 (by kernel_rfl)]
    rw [hv 73 (by kernel_rfl)]
    rw [hv 74 (by kernel_rfl)]
    rw [hv 75 (by kernel_rfl)]
    rw [hv 76 (by kernel_rfl)]
    rw [hv 77 (by kernel_rfl)]
    rw [hv 78 (by kernel_rfl)]
    rw [hv 79 (by kernel_rfl)]
    rw [hv 80 (by kernel_rfl)]
    rw [hv 81 (by kernel_rfl)]
    rw [hv 82 (by kernel_rfl)]
    rw [hv 83 (by kernel_rfl)]
    rw [hv 84 (by kernel_rfl)]
    rw [hv 85 (by kernel_rfl)]
    rw [hv 86 (by kernel_rfl)]
    rw [hv 87 (by kernel_rfl)]
    rw [hv 88 (by kernel_rfl)]
    rw [hv 89 (by kernel_rfl)]
    rw [hv 90 (by kernel_rfl)]
    rw [hv 91 (by kernel_rfl)]
    rw [hv 92 (by kernel_rfl)]
    rw [hv 93 (by kernel_rfl)]
    rw [show T.getD 94 undef = (.pointer (some ⟨p, 0, none⟩)) from hf 0 (by decide)]
    rw [show T.getD 95 undef = (.pointer (some ⟨p, 0, none⟩)) from hf 1 (by decide)]
    rw [show T.getD 96 undef = (.pointer (some ⟨p, 3, none⟩)) from hf 2 (by decide)]
    rw [show T.getD 97 undef = (.int .i64 0) from hf 3 (by decide)]
    rw [show T.getD 98 undef = (.bool true) from hf 4 (by decide)]
    rw [show T.getD 99 undef = (.bool true) from hf 5 (by decide)]
    rw [show T.getD 100 undef = (.pointer (some ⟨p, 0, none⟩)) from hf 6 (by decide)]
    rw [show T.getD 101 undef = (.pointer (some ⟨p, 0, none⟩)) from hf 7 (by decide)]
    rw [show T.getD 102 undef = (.pointer (some ⟨p, 1, none⟩)) from hf 8 (by decide)]
    rw [show T.getD 103 undef = (.int .i64 i) from hf 9 (by decide)]
    rw [show T.getD 104 undef = (.pointer (some ⟨p, 0, none⟩)) from hf 10 (by decide)]
    rw [show T.getD 105 undef = (.pointer (some ⟨p, 0, none⟩)) from hf 11 (by decide)]
    rw [show T.getD 106 undef = (.pointer (some ⟨p, 0, none⟩)) from hf 12 (by decide)]
    rw [show T.getD 107 undef = (.slice A N c) from hf 13 (by decide)]
    rw [show T.getD 108 undef = (.int .i64 N) from hf 14 (by decide)]
    rw [show T.getD 109 undef = (.bool false) from hf 15 (by decide)]
    rw [show T.getD 110 undef = (.bool false) from hf 16 (by decide)]
    rw [hv 111 (by kernel_rfl)]
    rw [hv 112 (by kernel_rfl)]
    rw [hv 113 (by kernel_rfl)]
    rw [hv 114 (by kernel_rfl)]
    rw [hv 115 (by kernel_rfl)]
    rw [hv 116 (by kernel_rfl)]
    rw [hv 117 (by kernel_rfl)]
    rw [hv 118 (by kernel_rfl)]
    rw [hv 119 (by kernel_rfl)]
    rw [hv 120 (by kernel_rfl)]
    rw [hv 121 (by kernel_rfl)]
    rw [hv 122 (by kernel_rfl)]
    rw [hv 123 (by kernel_rfl)]
    rw [hv 124 (by kernel_rfl)]
    rw [hv 125 (by kernel_rfl)]
    rw [hv 126 (by kernel_rfl)]
    rw [hv 127 (by kernel_rfl)]
    clear hf hs hv hcur
    simp only [getD_toArray, List.getD_cons_succ, List.getD_cons_zero]
    clear T
    have hu1 := hu
    clear hu
    replace hs := hide (hs.out.upd hu1 id fun _ _ => id)
    replace hg := hide (hu1.heap hg.out id)
    replace hr := hide (hu1.heap hr.out id)
    replace hps := hide (ListV.upd varFam (hu1) (fun _ _ => id) hps.out)
    replace hloc := hide (ListV.upd varFam (hu1) (fun _ _ => id) hloc.out)
    replace hbd := hide (BlkV.upd (hu1) (fun _ _ => id) _ _ hbd.out)
    have c3 := hu1.cell c3w.out id
    replace hu := hide (hu.out.then (hu1.mono fun _ _ h => h.elim))
    clear hu1 c3w c0 c1 hlt
    have hgh := hg.out
    have gR0 := hr.out
    have gg0 := cell_at hgh 0
    have gg1 := cell_at hgh 1
    have gg2 := cell_at hgh 2
    have gg3 := cell_at hgh 3
    simp at gg0 gg1 gg2 gg3
    have rr0 := gR0
    have dd0 := cell_at rr0 0
    have ff0 := frozen_at rr0 0
    have rr1 : (w.setCell ⟨gR, 0, none⟩ (.string (strB (txt ts.tail)))).heap[gR]? = some (.cells #[.string (strB (txt ts.tail)), .slice none 0 0, .slice none 0 0, .slice none 0 0] 31 (0, 0)) := heap_set rr0 0 _
    have dd1 := cell_at rr1 1
    have ff1 := frozen_at rr1 1
    have rr2 : ((w.setCell ⟨gR, 0, none⟩ (.string (strB (txt ts.tail)))).setCell ⟨gR, 1, none⟩ (.slice none 0 0)).heap[gR]? = some (.cells #[.string (strB (txt ts.tail)), .slice none 0 0, .slice none 0 0, .slice none 0 0] 31 (0, 0)) := heap_set rr1 1 _
    have dd2 := cell_at rr2 2
    have ff2 := frozen_at rr2 2
    have rr3 : (((w.setCell ⟨gR, 0, none⟩ (.string (strB (txt ts.tail)))).setCell ⟨gR, 1, none⟩ (.slice none 0 0)).setCell ⟨gR, 2, none⟩ (.slice none 0 0)).heap[gR]? = some (.cells #[.string (strB (txt ts.tail)), .slice none 0 0, .slice none 0 0, .slice none 0 0] 31 (0, 0)) := heap_set rr2 2 _
    have dd3 := cell_at rr3 3
    have ff3 := frozen_at rr3 3
    have rr4 : ((((w.setCell ⟨gR, 0, none⟩ (.string (strB (txt ts.tail)))).setCell ⟨gR, 1, none⟩ (.slice none 0 0)).setCell ⟨gR, 2, none⟩ (.slice none 0 0)).setCell ⟨gR, 3, none⟩ (.slice A9 m9 c9)).heap[gR]? = some (.cells #[.string (strB (txt ts.tail)), .slice none 0 0, .slice none 0 0, .slice A9 m9 c9] 31 (0, 0)) := heap_set rr3 3 _
    have kk0 : ((((w.setCell ⟨gR, 0, none⟩ (.string (strB (txt ts.tail)))).setCell ⟨gR, 1, none⟩ (.slice none 0 0)).setCell ⟨gR, 2, none⟩ (.slice none 0 0)).setCell ⟨gR, 3, none⟩ (.slice A9 m9 c9)).cell? ⟨gR, 0, none⟩ = some (.string (strB (txt ts.tail))) := (cell_at rr4 0).trans rfl
    replace kk0 := hide kk0
    have kk1 : ((((w.setCell ⟨gR, 0, none⟩ (.string (strB (txt ts.tail)))).setCell ⟨gR, 1, none⟩ (.slice none 0 0)).setCell ⟨gR, 2, none⟩ (.slice none 0 0)).setCell ⟨gR, 3, none⟩ (.slice A9 m9 c9)).cell? ⟨gR, 1, none⟩ = some (.slice none 0 0) := (cell_at rr4 1).trans rfl
    replace kk1 := hide kk1
    have kk2 : ((((w.setCell ⟨gR, 0, none⟩ (.string (strB (txt ts.tail)))).setCell ⟨gR, 1, none⟩ (.slice none 0 0)).setCell ⟨gR, 2, none⟩ (.slice none 0 0)).setCell ⟨gR, 3, none⟩ (.slice A9 m9 c9)).cell? ⟨gR, 2, none⟩ = some (.slice none 0 0) := (cell_at rr4 2).trans rfl
    replace kk2 := hide kk2
    have kk3 : ((((w.setCell ⟨gR, 0, none⟩ (.string (strB (txt ts.tail)))).setCell ⟨gR, 1, none⟩ (.slice none 0 0)).setCell ⟨gR, 2, none⟩ (.slice none 0 0)).setCell ⟨gR, 3, none⟩ (.slice A9 m9 c9)).cell? ⟨gR, 3, none⟩ = some (.slice A9 m9 c9) := (cell_at rr4 3).trans rfl
    replace kk3 := hide kk3
    simp at dd0 dd1 dd2 dd3
    clear rr0 rr1 rr2 rr3 rr4 hgh gR0
    go_wp2_with fail
    refine bodyPost_ret (v := .tuple #[.agg #[.string (strB (txt ts.tail)), .slice none 0 0, .slice none 0 0, .slice A9 m9 c9], .int .i64 0, .int .i64 0]) (by simp [results, Tryd.results9, go_sem, kk0.out, kk1.out, kk2.out, kk3.out]) rfl ?_
    have hfin := (((((Upd.refl (At gR) w).setOn 0 (.string (strB (txt ts.tail)))).setOn 1 (.slice none 0 0)).setOn 2 (.slice none 0 0)).setOn 3 (.slice A9 m9 c9))
    have hgRB : gR < wB.heap.size := hB.out.Bb.2.2.2
    have hWB : W.heap.size ≤ wB.heap.size := hB.out.hb.size
    have hBlo := hBl.out
    refine ⟨(((((hB.out.below hu.out).setCell (show W.heap.size ≤ (⟨gR, 0, none⟩ : Addr).block from hB.out.hR) (.string (strB (txt ts.tail)))).setCell (show W.heap.size ≤ (⟨gR, 1, none⟩ : Addr).block from hB.out.hR) (.slice none 0 0)).setCell (show W.heap.size ≤ (⟨gR, 2, none⟩ : Addr).block from hB.out.hR) (.slice none 0 0)).setCell (show W.heap.size ≤ (⟨gR, 3, none⟩ : Addr).block from hB.out.hR) (.slice A9 m9 c9)), _, rfl, _, _, _, _, _, _, _, _, _, rfl, ?_, ?_, ?_⟩
    · exact ListV.mono varFam (fun b _ hb => Nat.le_trans hWB hb.1) (by decide) (ListV.upd varFam hfin (fun b hb e => by have := hb.1; simp only [At] at e; omega) hps.out)
    · exact ListV.mono varFam (fun b _ hb => Nat.le_trans hWB (Nat.le_trans hBlo hb)) (by decide) (ListV.upd varFam hfin (fun b hb e => by simp only [At] at e; omega) hloc.out)
    · exact BlkV.mono (fun b _ hb => Nat.le_trans hWB hb) _ _ (BlkV.upd hfin (fun b hb e => by simp only [At] at e; omega) _ _ hbd.out)
end Go.Proofs.YtiiihpokpfhclaaDoor
/- The document's parser: a statement's cells. -/
namespace Go.Proofs.YtiiihpokpfhclaaDoor
open Go Go.RowKit Go.Lib

/-- A statement's cells in the block g. -/
def StB (w : World) (g : Nat) (us : List Value) : Prop := w.heap[g]? = some (.cells us.toArray 38 (0, 0))
/-- Ten cells that have a statement's shape. -/
def JkS (us : List Value) : Prop := ∃ k x y pe pf pc s1 n1 c1 s2 n2 c2 s3 n3 c3 m,
  us = [.int .i64 k, .string x, .string y, .pointer pe, .pointer pf, .pointer pc, .slice s1 n1 c1, .slice s2 n2 c2, .slice s3 n3 c3, .int .i64 m]
def ValO (p : Nat) (C : Cx) (a d n g : Nat) (w : World) (X : Rs Sm) (e : Ending) (w' : World) : Prop :=
  e = .returned (.tuple #[]) ∧ Upd (fun b => b = p ∨ b = g) w w' ∧ match X with
    | .ok s r => Lv w' p C a d n r ∧ ∃ us, StB w' g us ∧ SmV w' (w.heap.size ≤ ·) s us
    | .er r k => Dead w' p C k (atOf C.len r) d n ∧ ∃ us, StB w' g us ∧ JkS us
    | .no => False
theorem ValO.ok {p : Nat} {C : Cx} {a d n g : Nat} {w w' : World} {X : Rs Sm} {s : Sm} {r : List Tok} {us : List Value} (hu : Upd (fun b => b = p ∨ b = g) w w') (hX : .ok s r = X) (hs : Lv w' p C a d n r) (hg : StB w' g us) (hv : SmV w' (w.heap.size ≤ ·) s us) : ValO p C a d n g w X (.returned (.tuple #[])) w' := by
  subst hX
  exact ⟨rfl, hu, hs, us, hg, hv⟩
theorem ValO.er {p : Nat} {C : Cx} {a d n g : Nat} {w w' : World} {X : Rs Sm} {r : List Tok} {k : Nat} {us : List Value} (hu : Upd (fun b => b = p ∨ b = g) w w') (hX : .er r k = X) (hs : Dead w' p C k (atOf C.len r) d n) (hg : StB w' g us) (hj : JkS us) : ValO p C a d n g w X (.returned (.tuple #[])) w' := by
  subst hX
  exact ⟨rfl, hu, hs, us, hg, hj⟩
/-- The cells of a statement that has its name and its number. -/
def st0 (x : List UInt8) (m : Nat) : List Value := [.int .i64 0, .string (strB x), .string ⟨#[]⟩, .pointer none, .pointer none, .pointer none, .slice none 0 0, .slice none 0 0, .slice none 0 0, .int .i64 m]
theorem Lv.ownS {w : World} {p g : Nat} {C : Cx} {a d n : Nat} {r : List Tok} {us : List Value} (h : Lv w p C a d n r) (hg : StB w g us) : C.vt.ownBlock ≠ some g := fun e => by
  obtain ⟨i, -, h⟩ := h
  exact absurd (own_type h.row e hg) (by decide)
theorem Lv.neS {w : World} {p g : Nat} {C : Cx} {a d n : Nat} {r : List Tok} {us : List Value} (h : Lv w p C a d n r) (hg : StB w g us) : p ≠ g := fun e => by
  obtain ⟨i, -, h⟩ := h
  have := h.heap
  rw [e, hg] at this
  injection this with this
  injection this with _ h2
  exact absurd h2 (by decide)
end Go.Proofs.YtiiihpokpfhclaaDoor
/- The document's parser: what a statement's function comes to. -/
namespace Go.Proofs.YtiiihpokpfhclaaDoor
open Go Go.RowKit Go.Lib
section
variable {w w' wb wf : World} {p g gr : Nat} {C : Cx} {k a d n : Nat} {r : List Tok}
/-- One statement more is counted. -/
theorem Lv.incN (h : Lv w p C a d n r) (hn : n ≤ 200) : w.cell? ⟨p, 6, none⟩ = some (.int .i64 n) ∧ w.frozen? ⟨p, 6, none⟩ = false ∧ IntKind.i64.wrap ((n : Int) + 1) = (n : Int) + 1 ∧ Lv (w.setCell ⟨p, 6, none⟩ (.int .i64 ((n : Int) + 1))) p C a d (n + 1) r := by
  obtain ⟨i, rfl, h⟩ := h
  refine ⟨(cell_at h.heap 6).trans rfl, frozen_at h.heap 6, by simp [IntKind.wrap, IntKind.bits, IntKind.signed]; omega, i, rfl, ?_⟩
  exact h.set (n' := n + 1) 6 (.int .i64 ((n : Int) + 1)) (heap_set h.heap 6 _) h.hi h.hd (by omega)
/-- A keyword is no name. -/
theorem kw_nm {x : List UInt8} (h : nx r x = true) (hx : isKw x = true) : isNm r = false := by
  cases r with
  | nil => rfl
  | cons t r =>
    have e : t.text = x := eq_of_beq h
    show (t.kind == 0 && !isKw t.text) = false
    rw [e, hx]; simp
theorem nx_two {x y : List UInt8} (h : nx r x = true) (hne : ¬ x = y) : nx r y = false := by
  have e : txt r = x := eq_of_beq h
  show (txt r == y) = false
  rw [e, beq_eq_false_iff_ne]; exact hne
theorem SmV.jk {S : Nat → Prop} {s : Sm} {us : List Value} (h : SmV w S s us) : JkS us := by
  cases s with
  | mk k x y e f c args t e2 a =>
    unfold SmV at h
    obtain ⟨ve, vf, vc, va, vt, vl, ut, ul, rfl, h2, h3, h4, ⟨u5, h5, -⟩, h6, -, h8, -⟩ := h
    have hE : ∀ {o : Option Ex} {v : Value}, OptE w S o v → ∃ q, v = .pointer q := by
      intro o v hv
      cases o with
      | none => exact ⟨_, hv⟩
      | some e => obtain ⟨g, hg⟩ := ExV.ptr hv; exact ⟨_, hg⟩
    have hC : ∀ {o : Option Cn} {v : Value}, OptC w S o v → ∃ q, v = .pointer q := by
      intro o v hv
      cases o with
      | none => exact ⟨_, hv⟩
      | some e => obtain ⟨g, hg⟩ := CnV.ptr hv; exact ⟨_, hg⟩
    obtain ⟨q1, rfl⟩ := hE h2
    obtain ⟨q2, rfl⟩ := hE h3
    obtain ⟨q3, rfl⟩ := hC h4
    obtain ⟨A5, c5, rfl, -⟩ := h5
    obtain ⟨A6, c6, rfl, -⟩ := h6
    obtain ⟨A8, c8, rfl, -⟩ := h8
    exact ⟨_, _, _, _, _, _, _, _, _, _, _, _, _, _, _, _, rfl⟩
def StO (p : Nat) (C : Cx) (a d : Nat) (w : World) (X : Rs (Sm × Nat)) (e : Ending) (w' : World) : Prop :=
  Upd (At p) w w' ∧ ∃ us, e = .returned (.agg (List.toArray us)) ∧ match X with
    | .ok s r => SmV w' (w.heap.size ≤ ·) s.1 us ∧ Lv w' p C a d s.2 r ∧ s.2 ≤ 200
    | .er r k => JkS us ∧ ∃ n, Dead w' p C k (atOf C.len r) d n
    | .no => False
/-- The call's own two blocks. -/
structure Own2 (w wb : World) (p g gr : Nat) (C : Cx) : Prop where
  up : Upd (At p) w wb
  hg : w.heap.size ≤ g
  hr : w.heap.size ≤ gr
  hgb : g < wb.heap.size
  hrb : gr < wb.heap.size
  ne : gr ≠ g
  hp : p < w.heap.size
  hk : ∀ k, C.vt.ownBlock = some k → k < w.heap.size
variable {X : Rs (Sm × Nat)} {us : List Value} {cur : World}
theorem Own2.fin (h : Own2 w wb p g gr C) (hu : Upd (fun b => b = p ∨ b = g) wb cur) (hf : Upd (At gr) cur wf) : Upd (At p) w wf := by
  have h1 : Upd (fun b => b = p ∨ b = g ∨ b = gr) w wf := (h.up.mono fun _ _ e => .inl e).then ((hu.mono fun _ _ e => e.elim .inl fun e => .inr (.inl e)).then (hf.mono fun _ _ e => .inr (.inr e)))
  have := h.hg
  have := h.hr
  exact h1.mono fun k hk e => by
    rcases e with e | e | e
    · exact e
    · omega
    · omega
theorem StO.ok (h : Own2 w wb p g gr C) {s : Sm} {m : Nat} (hX : .ok (s, m) r = X) (hs : Lv cur p C a d m r) (hm : m ≤ 200) (hv : SmV cur (wb.heap.size ≤ ·) s us) (hu : Upd (fun b => b = p ∨ b = g) wb cur) (hf : Upd (At gr) cur wf) :
    StO p C a d w X (.returned (.agg us.toArray)) wf := by
  subst hX
  have hrb := h.hrb
  refine ⟨h.fin hu hf, us, rfl, ?_, hs.upd hf (fun e => by have := h.hp; have := h.hr; simp only [At] at e; omega) (fun k hk e => by have := h.hk k hk; have := h.hr; simp only [At] at e; omega), hm⟩
  have hsz := h.up.size
  exact SmV.mono (fun b _ hb => Nat.le_trans hsz hb) _ _ (SmV.upd hf (fun b hb e => by simp only [At] at e; omega) _ _ hv)
theorem StO.er (h : Own2 w wb p g gr C) {k m : Nat} (hX : .er r k = X) (hs : Dead cur p C k (atOf C.len r) d m) (hv : JkS us) (hu : Upd (fun b => b = p ∨ b = g) wb cur) (hf : Upd (At gr) cur wf) :
    StO p C a d w X (.returned (.agg us.toArray)) wf := by
  subst hX
  exact ⟨h.fin hu hf, us, rfl, hv, m, hs.upd hf (fun e => by have := h.hp; have := h.hr; simp only [At] at e; omega) (fun k hk e => by have := h.hk k hk; have := h.hr; simp only [At] at e; omega)⟩
end
end Go.Proofs.YtiiihpokpfhclaaDoor
/- The document's parser: stmts at one statement and its }. Written by mkone6.py. -/
namespace Go.Proofs.YtiiihpokpfhclaaDoor
open Go Go.RowKit Go.Lib

set_option maxRecDepth 100000 in
set_option maxHeartbeats 6400000 in
theorem stms_one (p : Nat) (C : Cx) (a : Nat) (r r1 : List Tok) (s : Sm) (wa : World) (h : Lv wa p C a 1 0 r) (hnil : r ≠ []) (hx40 : nx r [125] = false) (hx41 : nx r1 [125] = true)
    (hst : ∀ w, Lv w p C a 1 0 r → Calls Tryd.prog 53 #[.pointer (some ⟨p, 0, none⟩)] w fun e w' => Upd (At p) w w' ∧ ∃ us, e = .returned (.agg (List.toArray us)) ∧ SmV w' (w.heap.size ≤ ·) s us ∧ Lv w' p C a 1 1 r1) :
    Calls Tryd.prog 30 #[.pointer (some ⟨p, 0, none⟩)] wa fun e w' => Upd (At p) wa w' ∧ ∃ v, e = .returned v ∧ BlkV w' (wa.heap.size ≤ ·) [s] v ∧ Lv w' p C a 1 1 r1.tail := by
  have hlt := h.lt
  have htk := hide h.tokLt
  have hu := hide (Upd.refl (At p) wa)
  have hs := hide h
  clear h
  go_enter Tryd.func30, Tryd.ntmps30
  go_wp2_with fail
  go_loopg [3] 2 (fun gk v wr => (gk = 2 ∧ Upd (At p) wa wr ∧ RowS wr wa.heap.size 38 10 SmV [] v ∧ Lv wr p C a 1 0 r) ∨ (gk = 1 ∧ Upd (At p) wa wr ∧ RowS wr wa.heap.size 38 10 SmV [s] v ∧ Lv wr p C a 1 1 r1))
  case atStart => exact .inl ⟨rfl, hu.out, RowS.nil_ _ _ _ _ _, hs.out⟩
  case round =>
    clear hu hs
    rcases hrel with ⟨rfl, hu, hrow, hs⟩ | ⟨rfl, hu, hrow, hs⟩
    · obtain ⟨l, hl⟩ : ∃ l : List Sm, l = [] := ⟨_, rfl⟩
      rw [← hl] at hrow
      have hl0 : l.length = 0 := by rw [hl]; rfl
      obtain ⟨A1, c1, rfl⟩ := hrow.slice
      have c3 := hs.err
      have hlk2 : l.length ≤ 1000000 := by omega
      replace hl := hide hl
      replace hl0 := hide hl0
      replace hs := hide hs
      replace hu := hide hu
      replace hrow := hide hrow
      go_wp2_with fail
      have hI := takeL [125] (by decide) (by decide) hs.out
      simp only [hx40, Bool.false_eq_true, if_false] at hI
      refine hI.mono ?_
      rintro e wq41 ⟨rfl, hU, h1⟩
      clear hI
      replace hrow := hide (hrow.out.upd smFam (hU) (above_not hlt))
      replace hs := hide h1
      replace hu := hide (hu.out.then (hU))
      clear hU h1
      obtain ⟨i, hir, hw⟩ := hs.out
      obtain ⟨A, c, hA, hm⟩ := hw.row.slice
      have hh := hw.heap
      rw [hA] at hh
      have c0 : wq41.cell? ⟨p, 0, none⟩ = _ := cell_at hh 0
      have c1q : wq41.cell? ⟨p, 1, none⟩ = _ := cell_at hh 1
      simp at c0 c1q
      have hge : Hid (¬ ((i : Int) ≥ (C.ts.length : Int))) := hide (by have e := congrArg List.length hir; rw [List.length_drop] at e; have := List.length_pos_iff.2 hnil; omega)
      generalize C.ts.length = N at *
      replace c0 := hide c0
      replace c1q := hide c1q
      clear hh hw hm hA hir
      go_wp2_with fail
      refine wp_region_flow (fun _ => False) (factAt [(fun v _ => v = (.pointer (some ⟨p, 0, none⟩))), (fun v _ => v = (.pointer (some ⟨p, 0, none⟩))), (fun v _ => v = (.pointer (some ⟨p, 1, none⟩))), (fun v _ => v = (.int .i64 i)), (fun v _ => v = (.pointer (some ⟨p, 0, none⟩))), (fun v _ => v = (.pointer (some ⟨p, 0, none⟩))), (fun v _ => v = (.pointer (some ⟨p, 0, none⟩))), (fun v _ => v = (.slice A N c)), (fun v _ => v = (.int .i64 N)), (fun v _ => v = (.bool false))]) [] (fun _ => True) (by kernel_rfl) (fkept_at ⟨FKept.eq _, FKept.eq _, FKept.eq _, FKept.eq _, FKept.eq _, FKept.eq _, FKept.eq _, FKept.eq _, FKept.eq _, FKept.eq _, trivial⟩) (fun _ _ h _ => h) trivial (by kernel_rfl) (by kernel_rfl) (by kernel_rfl) (by kernel_rfl) (Nat.le_of_ble_eq_true (by kernel_rfl)) ?_ ⟨?_, ?_, ?_, ?_, ?_, ?_, ?_, ?_, ?_, ?_, trivial⟩ ?_
      · first | exact trivial | assumption
      · intro T w Q hu hs hv hw hd
        have hx0 : T.getD 0 undef = (.pointer (some ⟨p, 0, none⟩)) := hv 0 (by kernel_rfl)
        refine .inl ⟨wanted_none rfl, ?_⟩
        clear hd hv hu hs hw
        go_simp
        exact ⟨_, rfl, DstOk.some rfl, Below.refl _ _, rfl⟩
      · intro T w Q hu hs hv hw hd
        have hx14 : T.getD 14 undef = (.pointer (some ⟨p, 0, none⟩)) := Deps.at 0 hd (by kernel_rfl)
        refine .inl ⟨wanted_none rfl, ?_⟩
        clear hd hv hu hs hw
        go_simp
        exact ⟨_, rfl, DstOk.some rfl, Below.refl _ _, rfl⟩
      · intro T w Q hu hs hv hw hd
        have hx15 : T.getD 15 undef = (.pointer (some ⟨p, 0, none⟩)) := Deps.at 1 hd (by kernel_rfl)
        refine .inl ⟨wanted_none rfl, ?_⟩
        clear hd hv hu hs hw
        go_simp
        exact ⟨_, rfl, DstOk.some rfl, Below.refl _ _, rfl⟩
      · intro T w Q hu hs hv hw hd
        have hx16 : T.getD 16 undef = (.pointer (some ⟨p, 1, none⟩)) := Deps.at 2 hd (by kernel_rfl)
        refine .inl ⟨wanted_none rfl, ?_⟩
        have hq := hu.cell c1q.out id
        clear hd hv hu hs hw
        go_simp
        exact ⟨_, rfl, DstOk.some rfl, Below.refl _ _, rfl⟩
      · intro T w Q hu hs hv hw hd
        have hx0 : T.getD 0 undef = (.pointer (some ⟨p, 0, none⟩)) := hv 0 (by kernel_rfl)
        refine .inl ⟨wanted_none rfl, ?_⟩
        clear hd hv hu hs hw
        go_simp
        exact ⟨_, rfl, DstOk.some rfl, Below.refl _ _, rfl⟩
      · intro T w Q hu hs hv hw hd
        have hx18 : T.getD 18 undef = (.pointer (some ⟨p, 0, none⟩)) := Deps.at 4 hd (by kernel_rfl)
        refine .inl ⟨wanted_none rfl, ?_⟩
        clear hd hv hu hs hw
        go_simp
        exact ⟨_, rfl, DstOk.some rfl, Below.refl _ _, rfl⟩
      · intro T w Q hu hs hv hw hd
        have hx19 : T.getD 19 undef = (.pointer (some ⟨p, 0, none⟩)) := Deps.at 5 hd (by kernel_rfl)
        refine .inl ⟨wanted_none rfl, ?_⟩
        clear hd hv hu hs hw
        go_simp
        exact ⟨_, rfl, DstOk.some rfl, Below.refl _ _, rfl⟩
      · intro T w Q hu hs hv hw hd
        have hx20 : T.getD 20 undef = (.pointer (some ⟨p, 0, none⟩)) := Deps.at 6 hd (by kernel_rfl)
        refine .inl ⟨wanted_none rfl, ?_⟩
        have hq := hu.cell c0.out id
        clear hd hv hu hs hw
        go_simp
        exact ⟨_, rfl, DstOk.some rfl, Below.refl _ _, rfl⟩
      · intro T w Q hu hs hv hw hd
        have hx21 : T.getD 21 undef = (.slice A N c) := Deps.at 7 hd (by kernel_rfl)
        refine .inl ⟨wanted_none rfl, ?_⟩
        clear hd hv hu hs hw
        go_simp
        exact ⟨_, rfl, DstOk.some rfl, Below.refl _ _, rfl⟩
      · intro T w Q hu hs hv hw hd
        have hx17 : T.getD 17 undef = (.int .i64 i) := Deps.at 3 hd (by kernel_rfl)
        have hx22 : T.getD 22 undef = (.int .i64 N) := Deps.at 8 hd (by kernel_rfl)
        refine .inl ⟨wanted_none rfl, ?_⟩
        have a0 := hge.out
        clear hd hv hu hs hw
        go_simp
        exact ⟨_, rfl, DstOk.some rfl, Below.refl _ _, by first | rfl | exact congrArg Value.bool (by first | (simp only [decide_eq_true_eq, decide_eq_false_iff_not]; omega) | (simp; exact eq_of_beq a0) | (simp; exact ne_of_beq_false a0) | simp [a0] | simp_all)⟩
      intro T w hu hs hv hf hcur
      have hT : T = #[T.getD 0 undef, T.getD 1 undef, T.getD 2 undef, T.getD 3 undef, T.getD 4 undef, T.getD 5 undef, T.getD 6 undef, T.getD 7 undef, T.getD 8 undef, T.getD 9 undef, T.getD 10 undef, T.getD 11 undef, T.getD 12 undef, T.getD 13 undef, T.getD 14 undef, T.getD 15 undef, T.getD 16 undef, T.getD 17 undef, T.getD 18 undef, T.getD 19 undef, T.getD 20 undef, T.getD 21 undef, T.getD 22 undef, T.getD 23 undef, T.getD 24 undef, T.getD 25 undef, T.getD 26 undef, T.getD 27 undef, T.getD 28 undef, T.getD 29 undef, T.getD 30 undef, T.getD 31 undef] := expl hs
      rw [hT]
      clear hT
      rw [show T.getD 0 undef = (.pointer (some ⟨p, 0, none⟩)) from hv 0 (by kernel_rfl)]
      rw [hv 1 (by kernel_rfl)]
      rw [hv 2 (by kernel_rfl)]
      rw [show T.getD 3 undef = (.slice A1 l.length c1) from hv 3 (by kernel_rfl)]
      rw [hv 4 (by kernel_rfl)]
      rw [hv 5 (by kernel_rfl)]
      rw [hv 6 (by kernel_rfl)]
      rw [hv 7 (by kernel_rfl)]
      rw [hv 8 (by kernel_rfl)]
      rw [hv 9 (by kernel_rfl)]
      rw [hv 10 (by kernel_rfl)]
      rw [hv 11 (by kernel_rfl)]
      rw [hv 12 (by kernel_rfl)]
      rw [hv 13 (by kernel_rfl)]
      rw [show T.getD 14 undef = (.pointer (some ⟨p, 0, none⟩)) from hf 0 (by decide)]
      rw [show T.getD 15 undef = (.pointer (some ⟨p, 0, none⟩)) from hf 1 (by decide)]
      rw [show T.getD 16 undef = (.pointer (some ⟨p, 1, none⟩)) from hf 2 (by decide)]
      rw [show T.getD 17 undef = (.int .i64 i) from hf 3 (by decide)]
      rw [show T.getD 18 undef = (.pointer (some ⟨p, 0, none⟩)) from hf 4 (by decide)]
      rw [show T.getD 19 undef = (.pointer (some ⟨p, 0, none⟩)) from hf 5 (by decide)]
      rw [show T.getD 20 undef = (.pointer (some ⟨p, 0, none⟩)) from hf 6 (by decide)]
      rw [show T.getD 21 undef = (.slice A N c) from hf 7 (by decide)]
      rw [show T.getD 22 undef = (.int .i64 N) from hf 8 (by decide)]
      rw [show T.getD 23 undef = (.bool false) from hf 9 (by decide)]
      rw [hv 24 (by kernel_rfl)]
      rw [hv 25 (by kernel_rfl)]
      rw [hv 26 (by kernel_rfl)]
      rw [hv 27 (by kernel_rfl)]
      rw [hv 28 (by kernel_rfl)]
      rw [hv 29 (by kernel_rfl)]
      rw [hv 30 (by kernel_rfl)]
      rw [hv 31 (by kernel_rfl)]
      clear hf hs hv hcur
      simp only [getD_toArray, List.getD_cons_succ, List.getD_cons_zero]
      clear T
      have hu1 := hu
      clear hu
      replace hs := hide (hs.out.upd hu1 id fun _ _ => id)
      replace hrow := hide (hrow.out.upd smFam hu1 fun _ _ => id)
      replace hu := hide (hu.out.then (hu1.mono fun _ _ h => h.elim))
      clear hu1 c0 c1q hge
      go_wp2_with fail
      have hsz := hu.out.size
      have hold := fun k hk => (hrow.out.own k hk).2
      refine (hst _ hs.out).mono ?_
      rintro e wq42 ⟨hU, us, rfl, hv, h1⟩
      have hJ := hv.jk
      obtain ⟨kv42, xv42, yv42, pev42, pfv42, pcv42, sav42, nav42, cav42, sbv42, nbv42, cbv42, scv42, ncv42, ccv42, mv42, rfl⟩ := hJ
      have hva := hide (SmV.mono (S' := (fun b => wa.heap.size ≤ b ∧ (Value.slice A1 l.length c1).ownBlock ≠ some b)) (fun b _ hb => ⟨Nat.le_trans hsz hb, fun e => Nat.lt_irrefl _ (Nat.lt_of_lt_of_le (hold b e) hb)⟩) _ _ hv)
      clear hv
      replace hrow := hide (hrow.out.upd smFam (hU) (above_not hlt))
      replace hs := hide h1
      replace hu := hide (hu.out.then (hU))
      clear hU h1
      clear hsz hold
      have hnew := hide (heap_new wq42 (.cells #[.int .i64 kv42, .string xv42, .string yv42, .pointer pev42, .pointer pfv42, .pointer pcv42, .slice sav42 nav42 cav42, .slice sbv42 nbv42 cbv42, .slice scv42 ncv42 ccv42, .int .i64 mv42] 38))
      have hbs := hide hu.out.size
      replace hs := hide (hs.out.alloc (.cells #[.int .i64 kv42, .string xv42, .string yv42, .pointer pev42, .pointer pfv42, .pointer pcv42, .slice sav42 nav42 cav42, .slice sbv42 nbv42 cbv42, .slice scv42 ncv42 ccv42, .int .i64 mv42] 38))
      replace hrow := hide (hrow.out.upd smFam (Upd.alloc (fun _ => False) wq42 (.cells #[.int .i64 kv42, .string xv42, .string yv42, .pointer pev42, .pointer pfv42, .pointer pcv42, .slice sav42 nav42 cav42, .slice sbv42 nbv42 cbv42, .slice scv42 ncv42 ccv42, .int .i64 mv42] 38)) fun _ _ => id)
      replace hu := hide (hu.out.then (Upd.alloc (At p) wq42 (.cells #[.int .i64 kv42, .string xv42, .string yv42, .pointer pev42, .pointer pfv42, .pointer pcv42, .slice sav42 nav42 cav42, .slice sbv42 nbv42 cbv42, .slice scv42 ncv42 ccv42, .int .i64 mv42] 38)))
      have hel : Hid (SmV (wq42.alloc (.cells #[.int .i64 kv42, .string xv42, .string yv42, .pointer pev42, .pointer pfv42, .pointer pcv42, .slice sav42 nav42 cav42, .slice sbv42 nbv42 cbv42, .slice scv42 ncv42 ccv42, .int .i64 mv42] 38)) (fun b => wa.heap.size ≤ b ∧ (Value.slice A1 l.length c1).ownBlock ≠ some b) s [.int .i64 kv42, .string xv42, .string yv42, .pointer pev42, .pointer pfv42, .pointer pcv42, .slice sav42 nav42 cav42, .slice sbv42 nbv42 cbv42, .slice scv42 ncv42 ccv42, .int .i64 mv42]) := hide (SmV.upd (Upd.alloc (fun _ => False) _ _) (fun _ _ => id) _ _ hva.out)
      have hown := hrow.out.own
      replace hown := hide hown
      go_wp2_with (
        at_builtin
        refine wp_row smFam 29 38 (.agg #[.int .i64 0, .string .empty, .string .empty, .pointer none, .pointer none, .pointer none, .slice none 0 0, .slice none 0 0, .slice none 0 0, .int .i64 0]) 10 144 Tryd.underlying29 stmt_info rfl (by decide) (by decide) rfl (.tmp 26) (.tmp 29) rfl wa.heap.size (.slice A1 l.length c1) _ rfl hrow.out wq42.heap.size 1 rfl (s) [.int .i64 kv42, .string xv42, .string yv42, .pointer pev42, .pointer pfv42, .pointer pcv42, .slice sav42 nav42 cav42, .slice sbv42 nbv42 cbv42, .slice scv42 ncv42 ccv42, .int .i64 mv42] rfl ?_ hel.out ?_ ?_ ?_
        · intro j u hj
          rw [cell_at hnew.out]
          simpa using hj
        · exact hlk2
        · exact hu.out.size
        intro v9 w9 hrow9 hu9)
      replace hs := hide (hs.out.row_ hu9 (fun k hk => (hown.out k hk).1) hlt htk.out)
      replace hu := hide (hu.out.row_ hu9 fun k hk => (hown.out k hk).1)
      replace hrow9 := hide hrow9
      clear hu9 hel hnew hown hbs
      go_wp2_with fail
      go_roundg 1
      case measure => omega
      case rel =>
        refine .inr ⟨rfl, hu.out, ?_, hs.out⟩
        have := hrow9.out
        rw [hl.out] at this
        exact this
    · obtain ⟨A1, c1, rfl⟩ := hrow.slice
      have c3 := hs.err
      replace hs := hide hs
      replace hu := hide hu
      replace hrow := hide hrow
      go_wp2_with fail
      have hI := takeL [125] (by decide) (by decide) hs.out
      simp only [hx41, if_true] at hI
      refine hI.mono ?_
      rintro e wq41 ⟨rfl, hU, h1⟩
      clear hI
      replace hrow := hide (hrow.out.upd smFam (hU) (above_not hlt))
      replace hs := hide h1
      replace hu := hide (hu.out.then (hU))
      clear hU h1
      go_wp2_with fail
      go_ret
      exact ⟨hu.out, _, rfl, hrow.out.sms, hs.out⟩
end Go.Proofs.YtiiihpokpfhclaaDoor
