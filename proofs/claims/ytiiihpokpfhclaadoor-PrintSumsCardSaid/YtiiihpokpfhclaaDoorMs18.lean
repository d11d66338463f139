/- Part 18 of the walks (merged): RfV0, SmC. -/
import Derived.Test.YtiiihpokpfhclaaDoorMs17
import Derived.Test.YtiiihpokpfhclaaDoorMs12
/- The document's parser: stmt. Written by mkstm6.py. -/
namespace Go.Proofs.YtiiihpokpfhclaaDoor
open Go Go.RowKit Go.Lib

set_option maxRecDepth 100000 in
set_option maxHeartbeats 6400000 in
theorem stm_return (f : Nat) (hf : f ≤ 1000000) (p : Nat) (C : Cx) (a d n : Nat) (r : List Tok) (w0 : World) (h : Lv w0 p C a d n r) (hn : n < 200) (hN : isNm r = false) (h0 : nx r [42] = false) (h1 : nx r [114, 101, 116, 117, 114, 110] = true) (hno : withN (n + 1) (returnP f d n r) ≠ .no) :
    Calls Tryd.prog 53 #[.pointer (some ⟨p, 0, none⟩)] w0 fun e w' => StO p C a d w0 (withN (n + 1) (returnP f d n r)) e w' := by
  generalize hX : withN (n + 1) (returnP f d n r) = X at hno ⊢
  replace hno := hide hno
  rw [withN, returnP, show want [114, 101, 116, 117, 114, 110] r = .ok () r.tail from if_pos h1, bind_ok, bind_assoc] at hX
  have hlt0 := h.lt
  have own0 : ∀ k, C.vt.ownBlock = some k → k < w0.heap.size := h.tokLt
  have hs := hide (h.alloc (.cells #[.int .i64 0, .string ⟨#[]⟩, .string ⟨#[]⟩, .pointer none, .pointer none, .pointer none, .slice none 0 0, .slice none 0 0, .slice none 0 0, .int .i64 0] 38))
  have hc6 := (Lv.incN hs.out (by omega)).1
  clear h
  go_enter Tryd.func53, Tryd.ntmps53
  go_wp2_with fail
  replace hs := hide (hs.out.alloc (.cells #[.int .i64 0, .string ⟨#[]⟩, .string ⟨#[]⟩, .pointer none, .pointer none, .pointer none, .slice none 0 0, .slice none 0 0, .slice none 0 0, .int .i64 n] 38))
  have hr9 := heap_old (heap_new w0 (.cells #[.int .i64 0, .string ⟨#[]⟩, .string ⟨#[]⟩, .pointer none, .pointer none, .pointer none, .slice none 0 0, .slice none 0 0, .slice none 0 0, .int .i64 0] 38)) (.cells #[.int .i64 0, .string ⟨#[]⟩, .string ⟨#[]⟩, .pointer none, .pointer none, .pointer none, .slice none 0 0, .slice none 0 0, .slice none 0 0, .int .i64 n] 38)
  have hg := heap_new (w0.alloc (.cells #[.int .i64 0, .string ⟨#[]⟩, .string ⟨#[]⟩, .pointer none, .pointer none, .pointer none, .slice none 0 0, .slice none 0 0, .slice none 0 0, .int .i64 0] 38)) (.cells #[.int .i64 0, .string ⟨#[]⟩, .string ⟨#[]⟩, .pointer none, .pointer none, .pointer none, .slice none 0 0, .slice none 0 0, .slice none 0 0, .int .i64 n] 38)
  have hsz : (w0.alloc (.cells #[.int .i64 0, .string ⟨#[]⟩, .string ⟨#[]⟩, .pointer none, .pointer none, .pointer none, .slice none 0 0, .slice none 0 0, .slice none 0 0, .int .i64 0] 38)).heap.size = w0.heap.size + 1 := by simp
  rw [hsz] at hg
  have own : Own2 w0 ((w0.alloc (.cells #[.int .i64 0, .string ⟨#[]⟩, .string ⟨#[]⟩, .pointer none, .pointer none, .pointer none, .slice none 0 0, .slice none 0 0, .slice none 0 0, .int .i64 0] 38)).alloc (.cells #[.int .i64 0, .string ⟨#[]⟩, .string ⟨#[]⟩, .pointer none, .pointer none, .pointer none, .slice none 0 0, .slice none 0 0, .slice none 0 0, .int .i64 n] 38)) p (w0.heap.size + 1) w0.heap.size C := ⟨(Upd.alloc _ _ _).then (Upd.alloc _ _ _), Nat.le_succ _, Nat.le_refl _, by simp <;> omega, by simp <;> omega, by omega, hlt0, own0⟩
  have hgp : w0.heap.size + 1 ≠ p := by omega
  have hrp : w0.heap.size ≠ p := by omega
  have hgt : ∀ k, C.vt.ownBlock = some k → ¬ At (w0.heap.size + 1) k := fun k hk e => by have := own0 k hk; simp only [At] at e; omega
  have hpg : ¬ At (w0.heap.size + 1) p := fun e => hgp e.symm
  replace hs := hide hs.out
  clear hsz hc6 own0 hlt0
  replace own := hide own
  generalize hW : World.alloc (World.alloc w0 _) _ = wb at hs hr9 hg own ⊢
  clear hW
  generalize hgd : w0.heap.size + 1 = g at hg own hgp hgt hpg ⊢
  clear hgd
  generalize hrd : w0.heap.size = gr at hr9 own hrp ⊢
  clear hrd
  have hlt : p < wb.heap.size := hs.out.lt
  have hltg : g < wb.heap.size := own.out.hgb
  have hu := hide (Upd.refl (fun b => b = p ∨ b = g) wb)
  replace hg := hide hg
  replace hr9 := hide hr9
  replace hX := hide hX
  have hI := namedL hs.out
  rw [hN] at hI
  refine hI.mono ?_
  rintro e wq1 ⟨rfl, hb⟩
  clear hI
  replace hs := hide (hs.out.below hb)
  replace hg := hide ((at_below6 p hb).heap hg.out hgp)
  replace hr9 := hide ((at_below6 p hb).heap hr9.out hrp)
  replace hu := hide (hu.out.then ((at_below6 p hb).mono fun _ _ h => .inl h))
  clear hb
  go_wp2_with fail
  have hI := isL [42] (by decide) (by decide) hs.out
  rw [h0] at hI
  refine hI.mono ?_
  rintro e wq2 ⟨rfl, hb⟩
  clear hI
  replace hs := hide (hs.out.below hb)
  replace hg := hide ((at_below6 p hb).heap hg.out hgp)
  replace hr9 := hide ((at_below6 p hb).heap hr9.out hrp)
  replace hu := hide (hu.out.then ((at_below6 p hb).mono fun _ _ h => .inl h))
  clear hb
  go_wp2_with fail
  have hI := isL [114, 101, 116, 117, 114, 110] (by decide) (by decide) hs.out
  rw [h1] at hI
  refine hI.mono ?_
  rintro e wq3 ⟨rfl, hb⟩
  clear hI
  replace hs := hide (hs.out.below hb)
  replace hg := hide ((at_below6 p hb).heap hg.out hgp)
  replace hr9 := hide ((at_below6 p hb).heap hr9.out hrp)
  replace hu := hide (hu.out.then ((at_below6 p hb).mono fun _ _ h => .inl h))
  clear hb
  have hge : ((n : Int) ≥ 200) = False := eq_false (by omega)
  obtain ⟨c6, f6, w6, h1⟩ := Lv.incN hs.out (by omega)
  have hU := Upd.set wq3 (F := At p) (a := ⟨p, 6, none⟩) rfl (.int .i64 ((n : Int) + 1))
  replace hg := hide ((hU).heap hg.out hgp)
  replace hr9 := hide ((hU).heap hr9.out hrp)
  replace hs := hide h1
  replace hu := hide (hu.out.then ((hU).mono fun _ _ h => .inl h))
  clear hU h1
  go_wp2_with fail
  generalize hg1 : World.setCell _ _ _ = ws1 at hs hu hg hr9 ⊢
  clear c6 f6 w6 hg1 hge
  have hI := takeL [114, 101, 116, 117, 114, 110] (by decide) (by decide) hs.out
  simp only [h1, if_true] at hI
  refine hI.mono ?_
  rintro e wq4 ⟨rfl, hU, h1⟩
  clear hI
  replace hg := hide ((hU).heap hg.out hgp)
  replace hr9 := hide ((hU).heap hr9.out hrp)
  replace hs := hide h1
  replace hu := hide (hu.out.then ((hU).mono fun _ _ h => .inl h))
  clear hU h1
  go_wp2_with fail
  have hG := sum_ok6 f p C a d (n + 1) r.tail _ hs.out
  cases hr : sumP f d r.tail with
  | no =>
    have hX2 := hX.out
    rw [hr] at hX2
    try simp only [bind_no] at hX2
    exact absurd hX2.symm hno.out
  | er r9 k9 =>
    rw [hr] at hG
    have hX2 := hX.out
    rw [hr] at hX2
    try simp only [bind_er] at hX2
    replace hX := hide hX2
    refine (hG (fun e => by cases e)).mono ?_
    rintro e wq5 ⟨hU, v2, rfl, hJ, h1⟩
    obtain ⟨q2, rfl⟩ := hJ
    replace hg := hide ((hU).heap hg.out hgp)
    replace hr9 := hide ((hU).heap hr9.out hrp)
    replace hs := hide h1
    replace hu := hide (hu.out.then ((hU).mono fun _ _ h => .inl h))
    clear hU h1
    clear hr hG hX2
    have cg3 : wq5.cell? ⟨g, 0, none⟩ = some (.int .i64 0) := (cell_at hg.out 0).trans rfl
    have fg3 := frozen_at hg.out 0
    have hsg3 := hide (set_upd wq5 g 0 (.int .i64 9))
    replace hs := hide (hs.out.upd hsg3.out hpg hgt)
    replace hr9 := hide (hsg3.out.heap hr9.out own.out.ne)
    replace hu := hide (hu.out.then (hsg3.out.mono fun _ _ h => .inr h))
    have hgn3 : Hid ((wq5.setCell ⟨g, 0, none⟩ (.int .i64 9)).heap[g]? = some (.cells #[(.int .i64 9), .string ⟨#[]⟩, .string ⟨#[]⟩, .pointer none, .pointer none, .pointer none, .slice none 0 0, .slice none 0 0, .slice none 0 0, .int .i64 n] 38 (0, 0))) := hide (heap_set hg.out 0 (.int .i64 9))
    clear hg
    have hg := hgn3
    clear hgn3 hsg3
    have cg4 : (wq5.setCell ⟨g, 0, none⟩ (.int .i64 9)).cell? ⟨g, 3, none⟩ = some (.pointer none) := (cell_at hg.out 3).trans rfl
    have fg4 := frozen_at hg.out 3
    have hsg4 := hide (set_upd (wq5.setCell ⟨g, 0, none⟩ (.int .i64 9)) g 3 (.pointer q2))
    replace hs := hide (hs.out.upd hsg4.out hpg hgt)
    replace hr9 := hide (hsg4.out.heap hr9.out own.out.ne)
    replace hu := hide (hu.out.then (hsg4.out.mono fun _ _ h => .inr h))
    have hgn4 : Hid (((wq5.setCell ⟨g, 0, none⟩ (.int .i64 9)).setCell ⟨g, 3, none⟩ (.pointer q2)).heap[g]? = some (.cells #[(.int .i64 9), .string ⟨#[]⟩, .string ⟨#[]⟩, (.pointer q2), .pointer none, .pointer none, .slice none 0 0, .slice none 0 0, .slice none 0 0, .int .i64 n] 38 (0, 0))) := hide (heap_set hg.out 3 (.pointer q2))
    clear hg
    have hg := hgn4
    clear hgn4 hsg4
    go_wp2_with fail
    refine (wantD [59] (by decide) hs.out).mono ?_
    rintro e wq6 ⟨rfl, hU, h1⟩
    replace hg := hide ((hU).heap hg.out hgp)
    replace hr9 := hide ((hU).heap hr9.out hrp)
    replace hs := hide h1
    replace hu := hide (hu.out.then ((hU).mono fun _ _ h => .inl h))
    clear hU h1
    have cc0 := cell_at hg.out 0
    have cc1 := cell_at hg.out 1
    have cc2 := cell_at hg.out 2
    have cc3 := cell_at hg.out 3
    have cc4 := cell_at hg.out 4
    have cc5 := cell_at hg.out 5
    have cc6 := cell_at hg.out 6
    have cc7 := cell_at hg.out 7
    have cc8 := cell_at hg.out 8
    have cc9 := cell_at hg.out 9
    simp at cc0 cc1 cc2 cc3 cc4 cc5 cc6 cc7 cc8 cc9
    have rr0 := hr9.out
    have dd0 := cell_at rr0 0
    have ff0 := frozen_at rr0 0
    have rr1 : (wq6.setCell ⟨gr, 0, none⟩ ((.int .i64 9))).heap[gr]? = some (.cells #[(.int .i64 9), .string ⟨#[]⟩, .string ⟨#[]⟩, .pointer none, .pointer none, .pointer none, .slice none 0 0, .slice none 0 0, .slice none 0 0, .int .i64 0] 38 (0, 0)) := heap_set rr0 0 _
    have kk0 : (wq6.setCell ⟨gr, 0, none⟩ ((.int .i64 9))).cell? ⟨gr, 0, none⟩ = some ((.int .i64 9)) := cell_at rr1 0
    replace kk0 := hide kk0
    have dd1 := cell_at rr1 1
    have ff1 := frozen_at rr1 1
    have rr2 : ((wq6.setCell ⟨gr, 0, none⟩ ((.int .i64 9))).setCell ⟨gr, 1, none⟩ (.string ⟨#[]⟩)).heap[gr]? = some (.cells #[(.int .i64 9), .string ⟨#[]⟩, .string ⟨#[]⟩, .pointer none, .pointer none, .pointer none, .slice none 0 0, .slice none 0 0, .slice none 0 0, .int .i64 0] 38 (0, 0)) := heap_set rr1 1 _
    have kk1 : ((wq6.setCell ⟨gr, 0, none⟩ ((.int .i64 9))).setCell ⟨gr, 1, none⟩ (.string ⟨#[]⟩)).cell? ⟨gr, 1, none⟩ = some (.string ⟨#[]⟩) := cell_at rr2 1
    replace kk1 := hide kk1
    have dd2 := cell_at rr2 2
    have ff2 := frozen_at rr2 2
    have rr3 : (((wq6.setCell ⟨gr, 0, none⟩ ((.int .i64 9))).setCell ⟨gr, 1, none⟩ (.string ⟨#[]⟩)).setCell ⟨gr, 2, none⟩ (.string ⟨#[]⟩)).heap[gr]? = some (.cells #[(.int .i64 9), .string ⟨#[]⟩, .string ⟨#[]⟩, .pointer none, .pointer none, .pointer none, .slice none 0 0, .slice none 0 0, .slice none 0 0, .int .i64 0] 38 (0, 0)) := heap_set rr2 2 _
    have kk2 : (((wq6.setCell ⟨gr, 0, none⟩ ((.int .i64 9))).setCell ⟨gr, 1, none⟩ (.string ⟨#[]⟩)).setCell ⟨gr, 2, none⟩ (.string ⟨#[]⟩)).cell? ⟨gr, 2, none⟩ = some (.string ⟨#[]⟩) := cell_at rr3 2
    replace kk2 := hide kk2
    have dd3 := cell_at rr3 3
    have ff3 := frozen_at rr3 3
    have rr4 : ((((wq6.setCell ⟨gr, 0, none⟩ ((.int .i64 9))).setCell ⟨gr, 1, none⟩ (.string ⟨#[]⟩)).setCell ⟨gr, 2, none⟩ (.string ⟨#[]⟩)).setCell ⟨gr, 3, none⟩ ((.pointer q2))).heap[gr]? = some (.cells #[(.int .i64 9), .string ⟨#[]⟩, .string ⟨#[]⟩, (.pointer q2), .pointer none, .pointer none, .slice none 0 0, .slice none 0 0, .slice none 0 0, .int .i64 0] 38 (0, 0)) := heap_set rr3 3 _
    have kk3 : ((((wq6.setCell ⟨gr, 0, none⟩ ((.int .i64 9))).setCell ⟨gr, 1, none⟩ (.string ⟨#[]⟩)).setCell ⟨gr, 2, none⟩ (.string ⟨#[]⟩)).setCell ⟨gr, 3, none⟩ ((.pointer q2))).cell? ⟨gr, 3, none⟩ = some ((.pointer q2)) := cell_at rr4 3
    replace kk3 := hide kk3
    have dd4 := cell_at rr4 4
    have ff4 := frozen_at rr4 4
    have rr5 : (((((wq6.setCell ⟨gr, 0, none⟩ ((.int .i64 9))).setCell ⟨gr, 1, none⟩ (.string ⟨#[]⟩)).setCell ⟨gr, 2, none⟩ (.string ⟨#[]⟩)).setCell ⟨gr, 3, none⟩ ((.pointer q2))).setCell ⟨gr, 4, none⟩ (.pointer none)).heap[gr]? = some (.cells #[(.int .i64 9), .string ⟨#[]⟩, .string ⟨#[]⟩, (.pointer q2), .pointer none, .pointer none, .slice none 0 0, .slice none 0 0, .slice none 0 0, .int .i64 0] 38 (0, 0)) := heap_set rr4 4 _
    have kk4 : (((((wq6.setCell ⟨gr, 0, none⟩ ((.int .i64 9))).setCell ⟨gr, 1, none⟩ (.string ⟨#[]⟩)).setCell ⟨gr, 2, none⟩ (.string ⟨#[]⟩)).setCell ⟨gr, 3, none⟩ ((.pointer q2))).setCell ⟨gr, 4, none⟩ (.pointer none)).cell? ⟨gr, 4, none⟩ = some (.pointer none) := cell_at rr5 4
    replace kk4 := hide kk4
    have dd5 := cell_at rr5 5
    have ff5 := frozen_at rr5 5
    have rr6 : ((((((wq6.setCell ⟨gr, 0, none⟩ ((.int .i64 9))).setCell ⟨gr, 1, none⟩ (.string ⟨#[]⟩)).setCell ⟨gr, 2, none⟩ (.string ⟨#[]⟩)).setCell ⟨gr, 3, none⟩ ((.pointer q2))).setCell ⟨gr, 4, none⟩ (.pointer none)).setCell ⟨gr, 5, none⟩ (.pointer none)).heap[gr]? = some (.cells #[(.int .i64 9), .string ⟨#[]⟩, .string ⟨#[]⟩, (.pointer q2), .pointer none, .pointer none, .slice none 0 0, .slice none 0 0, .slice none 0 0, .int .i64 0] 38 (0, 0)) := heap_set rr5 5 _
    have kk5 : ((((((wq6.setCell ⟨gr, 0, none⟩ ((.int .i64 9))).setCell ⟨gr, 1, none⟩ (.string ⟨#[]⟩)).setCell ⟨gr, 2, none⟩ (.string ⟨#[]⟩)).setCell ⟨gr, 3, none⟩ ((.pointer q2))).setCell ⟨gr, 4, none⟩ (.pointer none)).setCell ⟨gr, 5, none⟩ (.pointer none)).cell? ⟨gr, 5, none⟩ = some (.pointer none) := cell_at rr6 5
    replace kk5 := hide kk5
    have dd6 := cell_at rr6 6
    have ff6 := frozen_at rr6 6
    have rr7 : (((((((wq6.setCell ⟨gr, 0, none⟩ ((.int .i64 9))).setCell ⟨gr, 1, none⟩ (.string ⟨#[]⟩)).setCell ⟨gr, 2, none⟩ (.string ⟨#[]⟩)).setCell ⟨gr, 3, none⟩ ((.pointer q2))).setCell ⟨gr, 4, none⟩ (.pointer none)).setCell ⟨gr, 5, none⟩ (.pointer none)).setCell ⟨gr, 6, none⟩ (.slice none 0 0)).heap[gr]? = some (.cells #[(.int .i64 9), .string ⟨#[]⟩, .string ⟨#[]⟩, (.pointer q2), .pointer none, .pointer none, .slice none 0 0, .slice none 0 0, .slice none 0 0, .int .i64 0] 38 (0, 0)) := heap_set rr6 6 _
    have kk6 : (((((((wq6.setCell ⟨gr, 0, none⟩ ((.int .i64 9))).setCell ⟨gr, 1, none⟩ (.string ⟨#[]⟩)).setCell ⟨gr, 2, none⟩ (.string ⟨#[]⟩)).setCell ⟨gr, 3, none⟩ ((.pointer q2))).setCell ⟨gr, 4, none⟩ (.pointer none)).setCell ⟨gr, 5, none⟩ (.pointer none)).setCell ⟨gr, 6, none⟩ (.slice none 0 0)).cell? ⟨gr, 6, none⟩ = some (.slice none 0 0) := cell_at rr7 6
    replace kk6 := hide kk6
    have dd7 := cell_at rr7 7
    have ff7 := frozen_at rr7 7
    have rr8 : ((((((((wq6.setCell ⟨gr, 0, none⟩ ((.int .i64 9))).setCell ⟨gr, 1, none⟩ (.string ⟨#[]⟩)).setCell ⟨gr, 2, none⟩ (.string ⟨#[]⟩)).setCell ⟨gr, 3, none⟩ ((.pointer q2))).setCell ⟨gr, 4, none⟩ (.pointer none)).setCell ⟨gr, 5, none⟩ (.pointer none)).setCell ⟨gr, 6, none⟩ (.slice none 0 0)).setCell ⟨gr, 7, none⟩ (.slice none 0 0)).heap[gr]? = some (.cells #[(.int .i64 9), .string ⟨#[]⟩, .string ⟨#[]⟩, (.pointer q2), .pointer none, .pointer none, .slice none 0 0, .slice none 0 0, .slice none 0 0, .int .i64 0] 38 (0, 0)) := heap_set rr7 7 _
    have kk7 : ((((((((wq6.setCell ⟨gr, 0, none⟩ ((.int .i64 9))).setCell ⟨gr, 1, none⟩ (.string ⟨#[]⟩)).setCell ⟨gr, 2, none⟩ (.string ⟨#[]⟩)).setCell ⟨gr, 3, none⟩ ((.pointer q2))).setCell ⟨gr, 4, none⟩ (.pointer none)).setCell ⟨gr, 5, none⟩ (.pointer none)).setCell ⟨gr, 6, none⟩ (.slice none 0 0)).setCell ⟨gr, 7, none⟩ (.slice none 0 0)).cell? ⟨gr, 7, none⟩ = some (.slice none 0 0) := cell_at rr8 7
    replace kk7 := hide kk7
    have dd8 := cell_at rr8 8
    have ff8 := frozen_at rr8 8
    have rr9 : (((((((((wq6.setCell ⟨gr, 0, none⟩ ((.int .i64 9))).setCell ⟨gr, 1, none⟩ (.string ⟨#[]⟩)).setCell ⟨gr, 2, none⟩ (.string ⟨#[]⟩)).setCell ⟨gr, 3, none⟩ ((.pointer q2))).setCell ⟨gr, 4, none⟩ (.pointer none)).setCell ⟨gr, 5, none⟩ (.pointer none)).setCell ⟨gr, 6, none⟩ (.slice none 0 0)).setCell ⟨gr, 7, none⟩ (.slice none 0 0)).setCell ⟨gr, 8, none⟩ (.slice none 0 0)).heap[gr]? = some (.cells #[(.int .i64 9), .string ⟨#[]⟩, .string ⟨#[]⟩, (.pointer q2), .pointer none, .pointer none, .slice none 0 0, .slice none 0 0, .slice none 0 0, .int .i64 0] 38 (0, 0)) := heap_set rr8 8 _
    have kk8 : (((((((((wq6.setCell ⟨gr, 0, none⟩ ((.int .i64 9))).setCell ⟨gr, 1, none⟩ (.string ⟨#[]⟩)).setCell ⟨gr, 2, none⟩ (.string ⟨#[]⟩)).setCell ⟨gr, 3, none⟩ ((.pointer q2))).setCell ⟨gr, 4, none⟩ (.pointer none)).setCell ⟨gr, 5, none⟩ (.pointer none)).setCell ⟨gr, 6, none⟩ (.slice none 0 0)).setCell ⟨gr, 7, none⟩ (.slice none 0 0)).setCell ⟨gr, 8, none⟩ (.slice none 0 0)).cell? ⟨gr, 8, none⟩ = some (.slice none 0 0) := cell_at rr9 8
    replace kk8 := hide kk8
    have dd9 := cell_at rr9 9
    have ff9 := frozen_at rr9 9
    have rr10 : ((((((((((wq6.setCell ⟨gr, 0, none⟩ ((.int .i64 9))).setCell ⟨gr, 1, none⟩ (.string ⟨#[]⟩)).setCell ⟨gr, 2, none⟩ (.string ⟨#[]⟩)).setCell ⟨gr, 3, none⟩ ((.pointer q2))).setCell ⟨gr, 4, none⟩ (.pointer none)).setCell ⟨gr, 5, none⟩ (.pointer none)).setCell ⟨gr, 6, none⟩ (.slice none 0 0)).setCell ⟨gr, 7, none⟩ (.slice none 0 0)).setCell ⟨gr, 8, none⟩ (.slice none 0 0)).setCell ⟨gr, 9, none⟩ (.int .i64 n)).heap[gr]? = some (.cells #[(.int .i64 9), .string ⟨#[]⟩, .string ⟨#[]⟩, (.pointer q2), .pointer none, .pointer none, .slice none 0 0, .slice none 0 0, .slice none 0 0, .int .i64 n] 38 (0, 0)) := heap_set rr9 9 _
    have kk9 : ((((((((((wq6.setCell ⟨gr, 0, none⟩ ((.int .i64 9))).setCell ⟨gr, 1, none⟩ (.string ⟨#[]⟩)).setCell ⟨gr, 2, none⟩ (.string ⟨#[]⟩)).setCell ⟨gr, 3, none⟩ ((.pointer q2))).setCell ⟨gr, 4, none⟩ (.pointer none)).setCell ⟨gr, 5, none⟩ (.pointer none)).setCell ⟨gr, 6, none⟩ (.slice none 0 0)).setCell ⟨gr, 7, none⟩ (.slice none 0 0)).setCell ⟨gr, 8, none⟩ (.slice none 0 0)).setCell ⟨gr, 9, none⟩ (.int .i64 n)).cell? ⟨gr, 9, none⟩ = some (.int .i64 n) := cell_at rr10 9
    replace kk9 := hide kk9
    simp at dd0 dd1 dd2 dd3 dd4 dd5 dd6 dd7 dd8 dd9
    clear rr0 rr1 rr2 rr3 rr4 rr5 rr6 rr7 rr8 rr9 rr10
    go_wp2_with fail
    refine bodyPost_ret (v := .agg #[(.int .i64 9), .string ⟨#[]⟩, .string ⟨#[]⟩, (.pointer q2), .pointer none, .pointer none, .slice none 0 0, .slice none 0 0, .slice none 0 0, .int .i64 n]) (by simp [results, Tryd.results53, go_sem, kk0.out, kk1.out, kk2.out, kk3.out, kk4.out, kk5.out, kk6.out, kk7.out, kk8.out, kk9.out]) rfl ?_
    exact StO.er (us := [(.int .i64 9), .string ⟨#[]⟩, .string ⟨#[]⟩, (.pointer q2), .pointer none, .pointer none, .slice none 0 0, .slice none 0 0, .slice none 0 0, .int .i64 n]) own.out hX.out hs.out ⟨_, _, _, _, _, _, _, _, _, _, _, _, _, _, _, _, rfl⟩ hu.out (((((((((((Upd.refl (At gr) wq6).setOn 0 ((.int .i64 9))).setOn 1 (.string ⟨#[]⟩)).setOn 2 (.string ⟨#[]⟩)).setOn 3 ((.pointer q2))).setOn 4 (.pointer none)).setOn 5 (.pointer none)).setOn 6 (.slice none 0 0)).setOn 7 (.slice none 0 0)).setOn 8 (.slice none 0 0)).setOn 9 (.int .i64 n))
  | ok a2 r2 =>
    rw [hr] at hG
    have hX2 := hX.out
    rw [hr] at hX2
    try simp only [bind_ok] at hX2
    replace hX := hide hX2
    refine (hG (fun e => by cases e)).mono ?_
    rintro e wq5 ⟨hU, v2, rfl, hv, h1⟩
    have hsz := hu.out.size
    have hva := hide (ExV.mono (S' := (wb.heap.size ≤ ·)) (fun b _ hb => Nat.le_trans hsz hb) _ _ hv)
    clear hv
    obtain ⟨gv2, rfl⟩ := hva.out.ptr
    replace hg := hide ((hU).heap hg.out hgp)
    replace hr9 := hide ((hU).heap hr9.out hrp)
    replace hs := hide h1
    replace hu := hide (hu.out.then ((hU).mono fun _ _ h => .inl h))
    clear hU h1
    clear hr hG hX2 hsz
    have cg3 : wq5.cell? ⟨g, 0, none⟩ = some (.int .i64 0) := (cell_at hg.out 0).trans rfl
    have fg3 := frozen_at hg.out 0
    have hsg3 := hide (set_upd wq5 g 0 (.int .i64 9))
    replace hs := hide (hs.out.upd hsg3.out hpg hgt)
    replace hva := hide (ExV.upd hsg3.out (above_not hltg) _ _ hva.out)
    replace hr9 := hide (hsg3.out.heap hr9.out own.out.ne)
    replace hu := hide (hu.out.then (hsg3.out.mono fun _ _ h => .inr h))
    have hgn3 : Hid ((wq5.setCell ⟨g, 0, none⟩ (.int .i64 9)).heap[g]? = some (.cells #[(.int .i64 9), .string ⟨#[]⟩, .string ⟨#[]⟩, .pointer none, .pointer none, .pointer none, .slice none 0 0, .slice none 0 0, .slice none 0 0, .int .i64 n] 38 (0, 0))) := hide (heap_set hg.out 0 (.int .i64 9))
    clear hg
    have hg := hgn3
    clear hgn3 hsg3
    have cg4 : (wq5.setCell ⟨g, 0, none⟩ (.int .i64 9)).cell? ⟨g, 3, none⟩ = some (.pointer none) := (cell_at hg.out 3).trans rfl
    have fg4 := frozen_at hg.out 3
    have hsg4 := hide (set_upd (wq5.setCell ⟨g, 0, none⟩ (.int .i64 9)) g 3 (.pointer (some ⟨gv2, 0, none⟩)))
    replace hs := hide (hs.out.upd hsg4.out hpg hgt)
    replace hva := hide (ExV.upd hsg4.out (above_not hltg) _ _ hva.out)
    replace hr9 := hide (hsg4.out.heap hr9.out own.out.ne)
    replace hu := hide (hu.out.then (hsg4.out.mono fun _ _ h => .inr h))
    have hgn4 : Hid (((wq5.setCell ⟨g, 0, none⟩ (.int .i64 9)).setCell ⟨g, 3, none⟩ (.pointer (some ⟨gv2, 0, none⟩))).heap[g]? = some (.cells #[(.int .i64 9), .string ⟨#[]⟩, .string ⟨#[]⟩, (.pointer (some ⟨gv2, 0, none⟩)), .pointer none, .pointer none, .slice none 0 0, .slice none 0 0, .slice none 0 0, .int .i64 n] 38 (0, 0))) := hide (heap_set hg.out 3 (.pointer (some ⟨gv2, 0, none⟩)))
    clear hg
    have hg := hgn4
    clear hgn4 hsg4
    go_wp2_with fail
    by_cases hx4 : nx r2 [59] = true
    · have hI := wantL [59] (by decide) (by decide) hs.out
      have hX2 := hX.out
      rw [show want [59] r2 = .ok () r2.tail from if_pos hx4] at hX2
      simp only [bind_ok] at hX2
      simp only [hx4, if_true] at hI
      replace hX := hide hX2
      clear hX2
      refine hI.mono ?_
      rintro e wq6 ⟨rfl, hU, h1⟩
      clear hI
      replace hx4 := hide hx4
      replace hva := hide (ExV.upd (hU) (above_not hlt) _ _ hva.out)
      replace hg := hide ((hU).heap hg.out hgp)
      replace hr9 := hide ((hU).heap hr9.out hrp)
      replace hs := hide h1
      replace hu := hide (hu.out.then ((hU).mono fun _ _ h => .inl h))
      clear hU h1
      have cc0 := cell_at hg.out 0
      have cc1 := cell_at hg.out 1
      have cc2 := cell_at hg.out 2
      have cc3 := cell_at hg.out 3
      have cc4 := cell_at hg.out 4
      have cc5 := cell_at hg.out 5
      have cc6 := cell_at hg.out 6
      have cc7 := cell_at hg.out 7
      have cc8 := cell_at hg.out 8
      have cc9 := cell_at hg.out 9
      simp at cc0 cc1 cc2 cc3 cc4 cc5 cc6 cc7 cc8 cc9
      have rr0 := hr9.out
      have dd0 := cell_at rr0 0
      have ff0 := frozen_at rr0 0
      have rr1 : (wq6.setCell ⟨gr, 0, none⟩ ((.int .i64 9))).heap[gr]? = some (.cells #[(.int .i64 9), .string ⟨#[]⟩, .string ⟨#[]⟩, .pointer none, .pointer none, .pointer none, .slice none 0 0, .slice none 0 0, .slice none 0 0, .int .i64 0] 38 (0, 0)) := heap_set rr0 0 _
      have kk0 : (wq6.setCell ⟨gr, 0, none⟩ ((.int .i64 9))).cell? ⟨gr, 0, none⟩ = some ((.int .i64 9)) := cell_at rr1 0
      replace kk0 := hide kk0
      have dd1 := cell_at rr1 1
      have ff1 := frozen_at rr1 1
      have rr2 : ((wq6.setCell ⟨gr, 0, none⟩ ((.int .i64 9))).setCell ⟨gr, 1, none⟩ (.string ⟨#[]⟩)).heap[gr]? = some (.cells #[(.int .i64 9), .string ⟨#[]⟩, .string ⟨#[]⟩, .pointer none, .pointer none, .pointer none, .slice none 0 0, .slice none 0 0, .slice none 0 0, .int .i64 0] 38 (0, 0)) := heap_set rr1 1 _
      have kk1 : ((wq6.setCell ⟨gr, 0, none⟩ ((.int .i64 9))).setCell ⟨gr, 1, none⟩ (.string ⟨#[]⟩)).cell? ⟨gr, 1, none⟩ = some (.string ⟨#[]⟩) := cell_at rr2 1
      replace kk1 := hide kk1
      have dd2 := cell_at rr2 2
      have ff2 := frozen_at rr2 2
      have rr3 : (((wq6.setCell ⟨gr, 0, none⟩ ((.int .i64 9))).setCell ⟨gr, 1, none⟩ (.string ⟨#[]⟩)).setCell ⟨gr, 2, none⟩ (.string ⟨#[]⟩)).heap[gr]? = some (.cells #[(.int .i64 9), .string ⟨#[]⟩, .string ⟨#[]⟩, .pointer none, .pointer none, .pointer none, .slice none 0 0, .slice none 0 0, .slice none 0 0, .int .i64 0] 38 (0, 0)) := heap_set rr2 2 _
      have kk2 : (((wq6.setCell ⟨gr, 0, none⟩ ((.int .i64 9))).setCell ⟨gr, 1, none⟩ (.string ⟨#[]⟩)).setCell ⟨gr, 2, none⟩ (.string ⟨#[]⟩)).cell? ⟨gr, 2, none⟩ = some (.string ⟨#[]⟩) := cell_at rr3 2
      replace kk2 := hide kk2
      have dd3 := cell_at rr3 3
      have ff3 := frozen_at rr3 3
      have rr4 : ((((wq6.setCell ⟨gr, 0, none⟩ ((.int .i64 9))).setCell ⟨gr, 1, none⟩ (.string ⟨#[]⟩)).setCell ⟨gr, 2, none⟩ (.string ⟨#[]⟩)).setCell ⟨gr, 3, none⟩ ((.pointer (some ⟨gv2, 0, none⟩)))).heap[gr]? = some (.cells #[(.int .i64 9), .string ⟨#[]⟩, .string ⟨#[]⟩, (.pointer (some ⟨gv2, 0, none⟩)), .pointer none, .pointer none, .slice none 0 0, .slice none 0 0, .slice none 0 0, .int .i64 0] 38 (0, 0)) := heap_set rr3 3 _
      have kk3 : ((((wq6.setCell ⟨gr, 0, none⟩ ((.int .i64 9))).setCell ⟨gr, 1, none⟩ (.string ⟨#[]⟩)).setCell ⟨gr, 2, none⟩ (.string ⟨#[]⟩)).setCell ⟨gr, 3, none⟩ ((.pointer (some ⟨gv2, 0, none⟩)))).cell? ⟨gr, 3, none⟩ = some ((.pointer (some ⟨gv2, 0, none⟩))) := cell_at rr4 3
      replace kk3 := hide kk3
      have dd4 := cell_at rr4 4
      have ff4 := frozen_at rr4 4
      have rr5 : (((((wq6.setCell ⟨gr, 0, none⟩ ((.int .i64 9))).setCell ⟨gr, 1, none⟩ (.string ⟨#[]⟩)).setCell ⟨gr, 2, none⟩ (.string ⟨#[]⟩)).setCell ⟨gr, 3, none⟩ ((.pointer (some ⟨gv2, 0, none⟩)))).setCell ⟨gr, 4, none⟩ (.pointer none)).heap[gr]? = some (.cells #[(.int .i64 9), .string ⟨#[]⟩, .string ⟨#[]⟩, (.pointer (some ⟨gv2, 0, none⟩)), .pointer none, .pointer none, .slice none 0 0, .slice none 0 0, .slice none 0 0, .int .i64 0] 38 (0, 0)) := heap_set rr4 4 _
      have kk4 : (((((wq6.setCell ⟨gr, 0, none⟩ ((.int .i64 9))).setCell ⟨gr, 1, none⟩ (.string ⟨#[]⟩)).setCell ⟨gr, 2, none⟩ (.string ⟨#[]⟩)).setCell ⟨gr, 3, none⟩ ((.pointer (some ⟨gv2, 0, none⟩)))).setCell ⟨gr, 4, none⟩ (.pointer none)).cell? ⟨gr, 4, none⟩ = some (.pointer none) := cell_at rr5 4
      replace kk4 := hide kk4
      have dd5 := cell_at rr5 5
      have ff5 := frozen_at rr5 5
      have rr6 : ((((((wq6.setCell ⟨gr, 0, none⟩ ((.int .i64 9))).setCell ⟨gr, 1, none⟩ (.string ⟨#[]⟩)).setCell ⟨gr, 2, none⟩ (.string ⟨#[]⟩)).setCell ⟨gr, 3, none⟩ ((.pointer (some ⟨gv2, 0, none⟩)))).setCell ⟨gr, 4, none⟩ (.pointer none)).setCell ⟨gr, 5, none⟩ (.pointer none)).heap[gr]? = some (.cells #[(.int .i64 9), .string ⟨#[]⟩, .string ⟨#[]⟩, (.pointer (some ⟨gv2, 0, none⟩)), .pointer none, .pointer none, .slice none 0 0, .slice none 0 0, .slice none 0 0, .int .i64 0] 38 (0, 0)) := heap_set rr5 5 _
      have kk5 : ((((((wq6.setCell ⟨gr, 0, none⟩ ((.int .i64 9))).setCell ⟨gr, 1, none⟩ (.string ⟨#[]⟩)).setCell ⟨gr, 2, none⟩ (.string ⟨#[]⟩)).setCell ⟨gr, 3, none⟩ ((.pointer (some ⟨gv2, 0, none⟩)))).setCell ⟨gr, 4, none⟩ (.pointer none)).setCell ⟨gr, 5, none⟩ (.pointer none)).cell? ⟨gr, 5, none⟩ = some (.pointer none) := cell_at rr6 5
      replace kk5 := hide kk5
      have dd6 := cell_at rr6 6
      have ff6 := frozen_at rr6 6
      have rr7 : (((((((wq6.setCell ⟨gr, 0, none⟩ ((.int .i64 9))).setCell ⟨gr, 1, none⟩ (.string ⟨#[]⟩)).setCell ⟨gr, 2, none⟩ (.string ⟨#[]⟩)).setCell ⟨gr, 3, none⟩ ((.pointer (some ⟨gv2, 0, none⟩)))).setCell ⟨gr, 4, none⟩ (.pointer none)).setCell ⟨gr, 5, none⟩ (.pointer none)).setCell ⟨gr, 6, none⟩ (.slice none 0 0)).heap[gr]? = some (.cells #[(.int .i64 9), .string ⟨#[]⟩, .string ⟨#[]⟩, (.pointer (some ⟨gv2, 0, none⟩)), .pointer none, .pointer none, .slice none 0 0, .slice none 0 0, .slice none 0 0, .int .i64 0] 38 (0, 0)) := heap_set rr6 6 _
      have kk6 : (((((((wq6.setCell ⟨gr, 0, none⟩ ((.int .i64 9))).setCell ⟨gr, 1, none⟩ (.string ⟨#[]⟩)).setCell ⟨gr, 2, none⟩ (.string ⟨#[]⟩)).setCell ⟨gr, 3, none⟩ ((.pointer (some ⟨gv2, 0, none⟩)))).setCell ⟨gr, 4, none⟩ (.pointer none)).setCell ⟨gr, 5, none⟩ (.pointer none)).setCell ⟨gr, 6, none⟩ (.slice none 0 0)).cell? ⟨gr, 6, none⟩ = some (.slice none 0 0) := cell_at rr7 6
      replace kk6 := hide kk6
      have dd7 := cell_at rr7 7
      have ff7 := frozen_at rr7 7
      have rr8 : ((((((((wq6.setCell ⟨gr, 0, none⟩ ((.int .i64 9))).setCell ⟨gr, 1, none⟩ (.string ⟨#[]⟩)).setCell ⟨gr, 2, none⟩ (.string ⟨#[]⟩)).setCell ⟨gr, 3, none⟩ ((.pointer (some ⟨gv2, 0, none⟩)))).setCell ⟨gr, 4, none⟩ (.pointer none)).setCell ⟨gr, 5, none⟩ (.pointer none)).setCell ⟨gr, 6, none⟩ (.slice none 0 0)).setCell ⟨gr, 7, none⟩ (.slice none 0 0)).heap[gr]? = some (.cells #[(.int .i64 9), .string ⟨#[]⟩, .string ⟨#[]⟩, (.pointer (some ⟨gv2, 0, none⟩)), .pointer none, .pointer none, .slice none 0 0, .slice none 0 0, .slice none 0 0, .int .i64 0] 38 (0, 0)) := heap_set rr7 7 _
      have kk7 : ((((((((wq6.setCell ⟨gr, 0, none⟩ ((.int .i64 9))).setCell ⟨gr, 1, none⟩ (.string ⟨#[]⟩)).setCell ⟨gr, 2, none⟩ (.string ⟨#[]⟩)).setCell ⟨gr, 3, none⟩ ((.pointer (some ⟨gv2, 0, none⟩)))).setCell ⟨gr, 4, none⟩ (.pointer none)).setCell ⟨gr, 5, none⟩ (.pointer none)).setCell ⟨gr, 6, none⟩ (.slice none 0 0)).setCell ⟨gr, 7, none⟩ (.slice none 0 0)).cell? ⟨gr, 7, none⟩ = some (.slice none 0 0) := cell_at rr8 7
      replace kk7 := hide kk7
      have dd8 := cell_at rr8 8
      have ff8 := frozen_at rr8 8
      have rr9 : (((((((((wq6.setCell ⟨gr, 0, none⟩ ((.int .i64 9))).setCell ⟨gr, 1, none⟩ (.string ⟨#[]⟩)).setCell ⟨gr, 2, none⟩ (.string ⟨#[]⟩)).setCell ⟨gr, 3, none⟩ ((.pointer (some ⟨gv2, 0, none⟩)))).setCell ⟨gr, 4, none⟩ (.pointer none)).setCell ⟨gr, 5, none⟩ (.pointer none)).setCell ⟨gr, 6, none⟩ (.slice none 0 0)).setCell ⟨gr, 7, none⟩ (.slice none 0 0)).setCell ⟨gr, 8, none⟩ (.slice none 0 0)).heap[gr]? = some (.cells #[(.int .i64 9), .string ⟨#[]⟩, .string ⟨#[]⟩, (.pointer (some ⟨gv2, 0, none⟩)), .pointer none, .pointer none, .slice none 0 0, .slice none 0 0, .slice none 0 0, .int .i64 0] 38 (0, 0)) := heap_set rr8 8 _
      have kk8 : (((((((((wq6.setCell ⟨gr, 0, none⟩ ((.int .i64 9))).setCell ⟨gr, 1, none⟩ (.string ⟨#[]⟩)).setCell ⟨gr, 2, none⟩ (.string ⟨#[]⟩)).setCell ⟨gr, 3, none⟩ ((.pointer (some ⟨gv2, 0, none⟩)))).setCell ⟨gr, 4, none⟩ (.pointer none)).setCell ⟨gr, 5, none⟩ (.pointer none)).setCell ⟨gr, 6, none⟩ (.slice none 0 0)).setCell ⟨gr, 7, none⟩ (.slice none 0 0)).setCell ⟨gr, 8, none⟩ (.slice none 0 0)).cell? ⟨gr, 8, none⟩ = some (.slice none 0 0) := cell_at rr9 8
      replace kk8 := hide kk8
      have dd9 := cell_at rr9 9
      have ff9 := frozen_at rr9 9
      have rr10 : ((((((((((wq6.setCell ⟨gr, 0, none⟩ ((.int .i64 9))).setCell ⟨gr, 1, none⟩ (.string ⟨#[]⟩)).setCell ⟨gr, 2, none⟩ (.string ⟨#[]⟩)).setCell ⟨gr, 3, none⟩ ((.pointer (some ⟨gv2, 0, none⟩)))).setCell ⟨gr, 4, none⟩ (.pointer none)).setCell ⟨gr, 5, none⟩ (.pointer none)).setCell ⟨gr, 6, none⟩ (.slice none 0 0)).setCell ⟨gr, 7, none⟩ (.slice none 0 0)).setCell ⟨gr, 8, none⟩ (.slice none 0 0)).setCell ⟨gr, 9, none⟩ (.int .i64 n)).heap[gr]? = some (.cells #[(.int .i64 9), .string ⟨#[]⟩, .string ⟨#[]⟩, (.pointer (some ⟨gv2, 0, none⟩)), .pointer none, .pointer none, .slice none 0 0, .slice none 0 0, .slice none 0 0, .int .i64 n] 38 (0, 0)) := heap_set rr9 9 _
      have kk9 : ((((((((((wq6.setCell ⟨gr, 0, none⟩ ((.int .i64 9))).setCell ⟨gr, 1, none⟩ (.string ⟨#[]⟩)).setCell ⟨gr, 2, none⟩ (.string ⟨#[]⟩)).setCell ⟨gr, 3, none⟩ ((.pointer (some ⟨gv2, 0, none⟩)))).setCell ⟨gr, 4, none⟩ (.pointer none)).setCell ⟨gr, 5, none⟩ (.pointer none)).setCell ⟨gr, 6, none⟩ (.slice none 0 0)).setCell ⟨gr, 7, none⟩ (.slice none 0 0)).setCell ⟨gr, 8, none⟩ (.slice none 0 0)).setCell ⟨gr, 9, none⟩ (.int .i64 n)).cell? ⟨gr, 9, none⟩ = some (.int .i64 n) := cell_at rr10 9
      replace kk9 := hide kk9
      simp at dd0 dd1 dd2 dd3 dd4 dd5 dd6 dd7 dd8 dd9
      clear rr0 rr1 rr2 rr3 rr4 rr5 rr6 rr7 rr8 rr9 rr10
      go_wp2_with fail
      refine bodyPost_ret (v := .agg #[(.int .i64 9), .string ⟨#[]⟩, .string ⟨#[]⟩, (.pointer (some ⟨gv2, 0, none⟩)), .pointer none, .pointer none, .slice none 0 0, .slice none 0 0, .slice none 0 0, .int .i64 n]) (by simp [results, Tryd.results53, go_sem, kk0.out, kk1.out, kk2.out, kk3.out, kk4.out, kk5.out, kk6.out, kk7.out, kk8.out, kk9.out]) rfl ?_
      exact StO.ok (us := [(.int .i64 9), .string ⟨#[]⟩, .string ⟨#[]⟩, (.pointer (some ⟨gv2, 0, none⟩)), .pointer none, .pointer none, .slice none 0 0, .slice none 0 0, .slice none 0 0, .int .i64 n]) own.out hX.out hs.out (by omega) (sm_flat hva.out rfl rfl (list_nil _ _)) hu.out (((((((((((Upd.refl (At gr) wq6).setOn 0 ((.int .i64 9))).setOn 1 (.string ⟨#[]⟩)).setOn 2 (.string ⟨#[]⟩)).setOn 3 ((.pointer (some ⟨gv2, 0, none⟩)))).setOn 4 (.pointer none)).setOn 5 (.pointer none)).setOn 6 (.slice none 0 0)).setOn 7 (.slice none 0 0)).setOn 8 (.slice none 0 0)).setOn 9 (.int .i64 n))
    · have hI := wantL [59] (by decide) (by decide) hs.out
      have hX2 := hX.out
      have hx4 : nx r2 [59] = false := by simpa using hx4
      rw [show want [59] r2 = .er r2 51 from if_neg (by rw [hx4]; exact Bool.false_ne_true)] at hX2
      simp only [bind_er] at hX2
      simp only [hx4, Bool.false_eq_true, if_false] at hI
      replace hX := hide hX2
      clear hX2
      refine hI.mono ?_
      rintro e wq6 ⟨rfl, hU, h1⟩
      clear hI
      replace hx4 := hide hx4
      replace hva := hide (ExV.upd (hU) (above_not hlt) _ _ hva.out)
      replace hg := hide ((hU).heap hg.out hgp)
      replace hr9 := hide ((hU).heap hr9.out hrp)
      replace hs := hide h1
      replace hu := hide (hu.out.then ((hU).mono fun _ _ h => .inl h))
      clear hU h1
      have cc0 := cell_at hg.out 0
      have cc1 := cell_at hg.out 1
      have cc2 := cell_at hg.out 2
      have cc3 := cell_at hg.out 3
      have cc4 := cell_at hg.out 4
      have cc5 := cell_at hg.out 5
      have cc6 := cell_at hg.out 6
      have cc7 := cell_at hg.out 7
      have cc8 := cell_at hg.out 8
      have cc9 := cell_at hg.out 9
      simp at cc0 cc1 cc2 cc3 cc4 cc5 cc6 cc7 cc8 cc9
      have rr0 := hr9.out
      have dd0 := cell_at rr0 0
      have ff0 := frozen_at rr0 0
      have rr1 : (wq6.setCell ⟨gr, 0, none⟩ ((.int .i64 9))).heap[gr]? = some (.cells #[(.int .i64 9), .string ⟨#[]⟩, .string ⟨#[]⟩, .pointer none, .pointer none, .pointer none, .slice none 0 0, .slice none 0 0, .slice none 0 0, .int .i64 0] 38 (0, 0)) := heap_set rr0 0 _
      have kk0 : (wq6.setCell ⟨gr, 0, none⟩ ((.int .i64 9))).cell? ⟨gr, 0, none⟩ = some ((.int .i64 9)) := cell_at rr1 0
      replace kk0 := hide kk0
      have dd1 := cell_at rr1 1
      have ff1 := frozen_at rr1 1
      have rr2 : ((wq6.setCell ⟨gr, 0, none⟩ ((.int .i64 9))).setCell ⟨gr, 1, none⟩ (.string ⟨#[]⟩)).heap[gr]? = some (.cells #[(.int .i64 9), .string ⟨#[]⟩, .string ⟨#[]⟩, .pointer none, .pointer none, .pointer none, .slice none 0 0, .slice none 0 0, .slice none 0 0, .int .i64 0] 38 (0, 0)) := heap_set rr1 1 _
      have kk1 : ((wq6.setCell ⟨gr, 0, none⟩ ((.int .i64 9))).setCell ⟨gr, 1, none⟩ (.string ⟨#[]⟩)).cell? ⟨gr, 1, none⟩ = some (.string ⟨#[]⟩) := cell_at rr2 1
      replace kk1 := hide kk1
      have dd2 := cell_at rr2 2
      have ff2 := frozen_at rr2 2
      have rr3 : (((wq6.setCell ⟨gr, 0, none⟩ ((.int .i64 9))).setCell ⟨gr, 1, none⟩ (.string ⟨#[]⟩)).setCell ⟨gr, 2, none⟩ (.string ⟨#[]⟩)).heap[gr]? = some (.cells #[(.int .i64 9), .string ⟨#[]⟩, .string ⟨#[]⟩, .pointer none, .pointer none, .pointer none, .slice none 0 0, .slice none 0 0, .slice none 0 0, .int .i64 0] 38 (0, 0)) := heap_set rr2 2 _
      have kk2 : (((wq6.setCell ⟨gr, 0, none⟩ ((.int .i64 9))).setCell ⟨gr, 1, none⟩ (.string ⟨#[]⟩)).setCell ⟨gr, 2, none⟩ (.string ⟨#[]⟩)).cell? ⟨gr, 2, none⟩ = some (.string ⟨#[]⟩) := cell_at rr3 2
      replace kk2 := hide kk2
      have dd3 := cell_at rr3 3
      have ff3 := frozen_at rr3 3
      have rr4 : ((((wq6.setCell ⟨gr, 0, none⟩ ((.int .i64 9))).setCell ⟨gr, 1, none⟩ (.string ⟨#[]⟩)).setCell ⟨gr, 2, none⟩ (.string ⟨#[]⟩)).setCell ⟨gr, 3, none⟩ ((.pointer (some ⟨gv2, 0, none⟩)))).heap[gr]? = some (.cells #[(.int .i64 9), .string ⟨#[]⟩, .string ⟨#[]⟩, (.pointer (some ⟨gv2, 0, none⟩)), .pointer none, .pointer none, .slice none 0 0, .slice none 0 0, .slice none 0 0, .int .i64 0] 38 (0, 0)) := heap_set rr3 3 _
      have kk3 : ((((wq6.setCell ⟨gr, 0, none⟩ ((.int .i64 9))).setCell ⟨gr, 1, none⟩ (.string ⟨#[]⟩)).setCell ⟨gr, 2, none⟩ (.string ⟨#[]⟩)).setCell ⟨gr, 3, none⟩ ((.pointer (some ⟨gv2, 0, none⟩)))).cell? ⟨gr, 3, none⟩ = some ((.pointer (some ⟨gv2, 0, none⟩))) := cell_at rr4 3
      replace kk3 := hide kk3
      have dd4 := cell_at rr4 4
      have ff4 := frozen_at rr4 4
      have rr5 : (((((wq6.setCell ⟨gr, 0, none⟩ ((.int .i64 9))).setCell ⟨gr, 1, none⟩ (.string ⟨#[]⟩)).setCell ⟨gr, 2, none⟩ (.string ⟨#[]⟩)).setCell ⟨gr, 3, none⟩ ((.pointer (some ⟨gv2, 0, none⟩)))).setCell ⟨gr, 4, none⟩ (.pointer none)).heap[gr]? = some (.cells #[(.int .i64 9), .string ⟨#[]⟩, .string ⟨#[]⟩, (.pointer (some ⟨gv2, 0, none⟩)), .pointer none, .pointer none, .slice none 0 0, .slice none 0 0, .slice none 0 0, .int .i64 0] 38 (0, 0)) := heap_set rr4 4 _
      have kk4 : (((((wq6.setCell ⟨gr, 0, none⟩ ((.int .i64 9))).setCell ⟨gr, 1, none⟩ (.string ⟨#[]⟩)).setCell ⟨gr, 2, none⟩ (.string ⟨#[]⟩)).setCell ⟨gr, 3, none⟩ ((.pointer (some ⟨gv2, 0, none⟩)))).setCell ⟨gr, 4, none⟩ (.pointer none)).cell? ⟨gr, 4, none⟩ = some (.pointer none) := cell_at rr5 4
      replace kk4 := hide kk4
      have dd5 := cell_at rr5 5
      have ff5 := frozen_at rr5 5
      have rr6 : ((((((wq6.setCell ⟨gr, 0, none⟩ ((.int .i64 9))).setCell ⟨gr, 1, none⟩ (.string ⟨#[]⟩)).setCell ⟨gr, 2, none⟩ (.string ⟨#[]⟩)).setCell ⟨gr, 3, none⟩ ((.pointer (some ⟨gv2, 0, none⟩)))).setCell ⟨gr, 4, none⟩ (.pointer none)).setCell ⟨gr, 5, none⟩ (.pointer none)).heap[gr]? = some (.cells #[(.int .i64 9), .string ⟨#[]⟩, .string ⟨#[]⟩, (.pointer (some ⟨gv2, 0, none⟩)), .pointer none, .pointer none, .slice none 0 0, .slice none 0 0, .slice none 0 0, .int .i64 0] 38 (0, 0)) := heap_set rr5 5 _
      have kk5 : ((((((wq6.setCell ⟨gr, 0, none⟩ ((.int .i64 9))).setCell ⟨gr, 1, none⟩ (.string ⟨#[]⟩)).setCell ⟨gr, 2, none⟩ (.string ⟨#[]⟩)).setCell ⟨gr, 3, none⟩ ((.pointer (some ⟨gv2, 0, none⟩)))).setCell ⟨gr, 4, none⟩ (.pointer none)).setCell ⟨gr, 5, none⟩ (.pointer none)).cell? ⟨gr, 5, none⟩ = some (.pointer none) := cell_at rr6 5
      replace kk5 := hide kk5
      have dd6 := cell_at rr6 6
      have ff6 := frozen_at rr6 6
      have rr7 : (((((((wq6.setCell ⟨gr, 0, none⟩ ((.int .i64 9))).setCell ⟨gr, 1, none⟩ (.string ⟨#[]⟩)).setCell ⟨gr, 2, none⟩ (.string ⟨#[]⟩)).setCell ⟨gr, 3, none⟩ ((.pointer (some ⟨gv2, 0, none⟩)))).setCell ⟨gr, 4, none⟩ (.pointer none)).setCell ⟨gr, 5, none⟩ (.pointer none)).setCell ⟨gr, 6, none⟩ (.slice none 0 0)).heap[gr]? = some (.cells #[(.int .i64 9), .string ⟨#[]⟩, .string ⟨#[]⟩, (.pointer (some ⟨gv2, 0, none⟩)), .pointer none, .pointer none, .slice none 0 0, .slice none 0 0, .slice none 0 0, .int .i64 0] 38 (0, 0)) := heap_set rr6 6 _
      have kk6 : (((((((wq6.setCell ⟨gr, 0, none⟩ ((.int .i64 9))).setCell ⟨gr, 1, none⟩ (.string ⟨#[]⟩)).setCell ⟨gr, 2, none⟩ (.string ⟨#[]⟩)).setCell ⟨gr, 3, none⟩ ((.pointer (some ⟨gv2, 0, none⟩)))).setCell ⟨gr, 4, none⟩ (.pointer none)).setCell ⟨gr, 5, none⟩ (.pointer none)).setCell ⟨gr, 6, none⟩ (.slice none 0 0)).cell? ⟨gr, 6, none⟩ = some (.slice none 0 0) := cell_at rr7 6
      replace kk6 := hide kk6
      have dd7 := cell_at rr7 7
      have ff7 := frozen_at rr7 7
      have rr8 : ((((((((wq6.setCell ⟨gr, 0, none⟩ ((.int .i64 9))).setCell ⟨gr, 1, none⟩ (.string ⟨#[]⟩)).setCell ⟨gr, 2, none⟩ (.string ⟨#[]⟩)).setCell ⟨gr, 3, none⟩ ((.pointer (some ⟨gv2, 0, none⟩)))).setCell ⟨gr, 4, none⟩ (.pointer none)).setCell ⟨gr, 5, none⟩ (.pointer none)).setCell ⟨gr, 6, none⟩ (.slice none 0 0)).setCell ⟨gr, 7, none⟩ (.slice none 0 0)).heap[gr]? = some (.cells #[(.int .i64 9), .string ⟨#[]⟩, .string ⟨#[]⟩, (.pointer (some ⟨gv2, 0, none⟩)), .pointer none, .pointer none, .slice none 0 0, .slice none 0 0, .slice none 0 0, .int .i64 0] 38 (0, 0)) := heap_set rr7 7 _
      have kk7 : ((((((((wq6.setCell ⟨gr, 0, none⟩ ((.int .i64 9))).setCell ⟨gr, 1, none⟩ (.string ⟨#[]⟩)).setCell ⟨gr, 2, none⟩ (.string ⟨#[]⟩)).setCell ⟨gr, 3, none⟩ ((.pointer (some ⟨gv2, 0, none⟩)))).setCell ⟨gr, 4, none⟩ (.pointer none)).setCell ⟨gr, 5, none⟩ (.pointer none)).setCell ⟨gr, 6, none⟩ (.slice none 0 0)).setCell ⟨gr, 7, none⟩ (.slice none 0 0)).cell? ⟨gr, 7, none⟩ = some (.slice none 0 0) := cell_at rr8 7
      replace kk7 := hide kk7
      have dd8 := cell_at rr8 8
      have ff8 := frozen_at rr8 8
      have rr9 : (((((((((wq6.setCell ⟨gr, 0, none⟩ ((.int .i64 9))).setCell ⟨gr, 1, none⟩ (.string ⟨#[]⟩)).setCell ⟨gr, 2, none⟩ (.string ⟨#[]⟩)).setCell ⟨gr, 3, none⟩ ((.pointer (some ⟨gv2, 0, none⟩)))).setCell ⟨gr, 4, none⟩ (.pointer none)).setCell ⟨gr, 5, none⟩ (.pointer none)).setCell ⟨gr, 6, none⟩ (.slice none 0 0)).setCell ⟨gr, 7, none⟩ (.slice none 0 0)).setCell ⟨gr, 8, none⟩ (.slice none 0 0)).heap[gr]? = some (.cells #[(.int .i64 9), .string ⟨#[]⟩, .string ⟨#[]⟩, (.pointer (some ⟨gv2, 0, none⟩)), .pointer none, .pointer none, .slice none 0 0, .slice none 0 0, .slice none 0 0, .int .i64 0] 38 (0, 0)) := heap_set rr8 8 _
      have kk8 : (((((((((wq6.setCell ⟨gr, 0, none⟩ ((.int .i64 9))).setCell ⟨gr, 1, none⟩ (.string ⟨#[]⟩)).setCell ⟨gr, 2, none⟩ (.string ⟨#[]⟩)).setCell ⟨gr, 3, none⟩ ((.pointer (some ⟨gv2, 0, none⟩)))).setCell ⟨gr, 4, none⟩ (.pointer none)).setCell ⟨gr, 5, none⟩ (.pointer none)).setCell ⟨gr, 6, none⟩ (.slice none 0 0)).setCell ⟨gr, 7, none⟩ (.slice none 0 0)).setCell ⟨gr, 8, none⟩ (.slice none 0 0)).cell? ⟨gr, 8, none⟩ = some (.slice none 0 0) := cell_at rr9 8
      replace kk8 := hide kk8
      have dd9 := cell_at rr9 9
      have ff9 := frozen_at rr9 9
      have rr10 : ((((((((((wq6.setCell ⟨gr, 0, none⟩ ((.int .i64 9))).setCell ⟨gr, 1, none⟩ (.string ⟨#[]⟩)).setCell ⟨gr, 2, none⟩ (.string ⟨#[]⟩)).setCell ⟨gr, 3, none⟩ ((.pointer (some ⟨gv2, 0, none⟩)))).setCell ⟨gr, 4, none⟩ (.pointer none)).setCell ⟨gr, 5, none⟩ (.pointer none)).setCell ⟨gr, 6, none⟩ (.slice none 0 0)).setCell ⟨gr, 7, none⟩ (.slice none 0 0)).setCell ⟨gr, 8, none⟩ (.slice none 0 0)).setCell ⟨gr, 9, none⟩ (.int .i64 n)).heap[gr]? = some (.cells #[(.int .i64 9), .string ⟨#[]⟩, .string ⟨#[]⟩, (.pointer (some ⟨gv2, 0, none⟩)), .pointer none, .pointer none, .slice none 0 0, .slice none 0 0, .slice none 0 0, .int .i64 n] 38 (0, 0)) := heap_set rr9 9 _
      have kk9 : ((((((((((wq6.setCell ⟨gr, 0, none⟩ ((.int .i64 9))).setCell ⟨gr, 1, none⟩ (.string ⟨#[]⟩)).setCell ⟨gr, 2, none⟩ (.string ⟨#[]⟩)).setCell ⟨gr, 3, none⟩ ((.pointer (some ⟨gv2, 0, none⟩)))).setCell ⟨gr, 4, none⟩ (.pointer none)).setCell ⟨gr, 5, none⟩ (.pointer none)).setCell ⟨gr, 6, none⟩ (.slice none 0 0)).setCell ⟨gr, 7, none⟩ (.slice none 0 0)).setCell ⟨gr, 8, none⟩ (.slice none 0 0)).setCell ⟨gr, 9, none⟩ (.int .i64 n)).cell? ⟨gr, 9, none⟩ = some (.int .i64 n) := cell_at rr10 9
      replace kk9 := hide kk9
      simp at dd0 dd1 dd2 dd3 dd4 dd5 dd6 dd7 dd8 dd9
      clear rr0 rr1 rr2 rr3 rr4 rr5 rr6 rr7 rr8 rr9 rr10
      go_wp2_with fail
      refine bodyPost_ret (v := .agg #[(.int .i64 9), .string ⟨#[]⟩, .string ⟨#[]⟩, (.pointer (some ⟨gv2, 0, none⟩)), .pointer none, .pointer none, .slice none 0 0, .slice none 0 0, .slice none 0 0, .int .i64 n]) (by simp [results, Tryd.results53, go_sem, kk0.out, kk1.out, kk2.out, kk3.out, kk4.out, kk5.out, kk6.out, kk7.out, kk8.out, kk9.out]) rfl ?_
      exact StO.er (us := [(.int .i64 9), .string ⟨#[]⟩, .string ⟨#[]⟩, (.pointer (some ⟨gv2, 0, none⟩)), .pointer none, .pointer none, .slice none 0 0, .slice none 0 0, .slice none 0 0, .int .i64 n]) own.out hX.out hs.out ⟨_, _, _, _, _, _, _, _, _, _, _, _, _, _, _, _, rfl⟩ hu.out (((((((((((Upd.refl (At gr) wq6).setOn 0 ((.int .i64 9))).setOn 1 (.string ⟨#[]⟩)).setOn 2 (.string ⟨#[]⟩)).setOn 3 ((.pointer (some ⟨gv2, 0, none⟩)))).setOn 4 (.pointer none)).setOn 5 (.pointer none)).setOn 6 (.slice none 0 0)).setOn 7 (.slice none 0 0)).setOn 8 (.slice none 0 0)).setOn 9 (.int .i64 n))
end Go.Proofs.YtiiihpokpfhclaaDoor
/- PrintSums: the document's Func at its text. -/
namespace Go.Proofs.YtiiihpokpfhclaaDoor
open Go Go.RowKit

theorem sm_stmt {e : Ex} (hw : WfR e) (hn : ndE e ≤ 40) (q1 q2 : Nat) (p : Nat) (C : Cx) (w : World) (h : Lv w p C 0 1 0 (⟨0, [114, 101, 116, 117, 114, 110], 9⟩ :: (exK e 16 ++ [⟨2, [59], q1⟩, ⟨2, [125], q2⟩]))) :
    Calls Tryd.prog 53 #[.pointer (some ⟨p, 0, none⟩)] w fun r w' => Upd (At p) w w' ∧ ∃ us, r = .returned (.agg (List.toArray us)) ∧ SmV w' (w.heap.size ≤ ·) (.mk 9 [] [] (some e) none none [] [] [] 0) us ∧ Lv w' p C 0 1 1 [⟨2, [125], q2⟩] := by
  have h1 := sz_nd e
  have h2 := (dep_nd e).1
  have hX : withN 1 (returnP 200 1 0 (⟨0, [114, 101, 116, 117, 114, 110], 9⟩ :: (exK e 16 ++ [⟨2, [59], q1⟩, ⟨2, [125], q2⟩]))) = .ok (.mk 9 [] [] (some e) none none [] [] [] 0, 1) [⟨2, [125], q2⟩] := by
    unfold withN returnP
    show Rs.bind (Rs.bind (sumP 200 1 (exK e 16 ++ [⟨2, [59], q1⟩, ⟨2, [125], q2⟩])) _) _ = _
    rw [sum_reads hw (by omega) (by omega) 16 _ rfl rfl]
    rfl
  have hG := stm_return 200 (by decide) p C 0 1 0 _ w h (by decide) rfl rfl rfl (by rw [hX]; exact fun e => by cases e)
  rw [hX] at hG
  refine hG.mono ?_
  rintro r w' ⟨hU, us, rfl, hv, h1, -⟩
  exact ⟨hU, us, rfl, hv, h1⟩
theorem sm_call {e : Ex} (hw : WfR e) (hl : (exT e).length ≤ 4000) (hn : ndE e ≤ 40) (W : World) :
    Calls Tryd.prog 9 #[.string (strB (smPre ++ exT e ++ [59, 32, 125]))] W fun r w' => TextR W zF FnV (some (.ok (smF e)) : Option (Except (Nat × Nat) Fn7)) r w' := by
  refine func6_one _ (by simp [smPre]; omega) W _ (.mk 9 [] [] (some e) none none [] [] [] 0) (sm_lex hw hl) rfl rfl rfl rfl rfl rfl rfl ?_
  intro p C w h
  exact stms_one p C 0 _ [⟨2, [125], _⟩] _ w h (by intro e; cases e) rfl rfl fun w h => sm_stmt hw hn _ _ p C w h
end Go.Proofs.YtiiihpokpfhclaaDoor
