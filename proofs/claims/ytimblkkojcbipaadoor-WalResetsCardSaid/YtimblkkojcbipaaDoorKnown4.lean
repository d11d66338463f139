/- The law's helper known. -/
import Derived.Test.YtimblkkojcbipaaDoorLife2
namespace Go.Proofs.YtimblkkojcbipaaDoor
open Go Go.RowKit
theorem heap3 (w : World) (a b c : Obj) : (((w.alloc a).alloc b).alloc c).heap[w.heap.size]? = some a ∧ (((w.alloc a).alloc b).alloc c).heap[w.heap.size + 1]? = some b ∧ (((w.alloc a).alloc b).alloc c).heap[w.heap.size + 1 + 1]? = some c := by
  refine ⟨heap_old (heap_old (heap_new _ _) _) _, ?_, ?_⟩
  · have := heap_new (w.alloc a) b
    rw [World.size_alloc] at this
    exact heap_old this _
  · have := heap_new ((w.alloc a).alloc b) c
    rw [World.size_alloc, World.size_alloc] at this
    exact this
theorem arg_row {w : World} {g : Nat} {l : List UInt8} {t : TypeId} {fr : Nat × Nat} {T : Nat → Prop} {n : Nat} {cs : Array Value} (h : w.heap[g]? = some (.cells cs t fr)) (hT : T g) (hn : l.length = n) (hcs : cs = (bv l).toArray) (hm : n ≤ maxLen) : ArgV w T (.slice (some ⟨g, 0, none⟩) n n) (bv l) := by
  subst hcs hn
  refine ⟨_, _, by rw [bv_len], by rw [bv_len]; exact Nat.le_refl _, hm, .inr ⟨g, 0, rfl, hT, fun i u hi => ?_⟩⟩
  rw [Nat.zero_add, cell_of_row w g i _ t fr h]
  simpa using hi
theorem lits4 (W : World) : RecsV (((W.alloc (.cells #[.int .u8 97] 5 (1, 2))).alloc (.cells #[.int .u8 98, .int .u8 99] 5 (2, 3))).alloc (.cells #[.slice (some ⟨W.heap.size, 0, none⟩) 1 1, .slice (some ⟨W.heap.size + 1, 0, none⟩) 2 2] 34)) (fun k => W.heap.size ≤ k) (.slice (some ⟨W.heap.size + 1 + 1, 0, none⟩) 2 2) [[97], [98, 99]] := by
  obtain ⟨h1, h2, h3⟩ := heap3 W (.cells #[.int .u8 97] 5 (1, 2)) (.cells #[.int .u8 98, .int .u8 99] 5 (2, 3)) (.cells #[.slice (some ⟨W.heap.size, 0, none⟩) 1 1, .slice (some ⟨W.heap.size + 1, 0, none⟩) 2 2] 34)
  exact .at2 (by rw [cell_at h3]; rfl) (by rw [cell_at h3]; rfl) (show W.heap.size ≤ _ by omega) (arg_row h1 (show W.heap.size ≤ _ by omega) rfl rfl (by unfold maxLen; simp)) (arg_row h2 (show W.heap.size ≤ _ by omega) rfl rfl (by unfold maxLen; simp)) ⟨_, _, _, rfl⟩ ⟨_, _, _, rfl⟩
theorem big4 (W : World) (N : Nat) (h : 1048576 < N) (hm : N ≤ maxLen) : RecsV ((W.alloc (.cells (madeCells #[.int .u8 0] N) 5)).alloc (.cells #[.slice (some ⟨W.heap.size, 0, none⟩) N N] 34)) (fun k => W.heap.size ≤ k) (.slice (some ⟨W.heap.size + 1, 0, none⟩) 1 1) [List.replicate N 0] ∧ [List.replicate N (0 : UInt8)].any tooL = true := by
  have h2 := heap_new (W.alloc (.cells (madeCells #[.int .u8 0] N) 5)) (.cells #[.slice (some ⟨W.heap.size, 0, none⟩) N N] 34)
  rw [World.size_alloc] at h2
  refine ⟨.at1 (by rw [cell_at h2]; rfl) (show W.heap.size ≤ _ by omega) (arg_row (heap_old (heap_new _ _) _) (Nat.le_refl _) (by simp) (bv_zeros N).symm hm) ⟨_, _, _, rfl⟩, ?_⟩
  simp only [List.any_cons, List.any_nil, Bool.or_false, tooL, List.length_replicate]
  exact decide_eq_true h
set_option maxRecDepth 100000 in
set_option maxHeartbeats 1000000 in
theorem known4 {w : World} (hT : Tab w) (hz : 1 ≤ w.heap.size) :
    Calls Tryd.prog 9 #[] w fun e w' => e = .returned (.bool true) ∧ Below w.heap.size w w' := by
  have hn1 := new_dk w 60 (by decide) (by decide)
  have hT0 := hide hT
  have hcv := fun (W : World) (C : Array Value) (n c g : Nat) (hg : g = W.heap.size) => Joins.run_convert_bytes_const_at (P := Tryd.prog) W 34 5 C n c g hg Tryd.underlying34 Tryd.underlying5
  go_enter Tryd.func9, Tryd.ntmps9
  go_wp2_with fail
  refine hn1.mono ?_
  rintro e w1 ⟨sb, S1, rfl, hd1, hb1⟩
  have hT1 := hT0.out.below hz hb1
  have z1 := hb1.size
  have ho1 := open_dk hd1 hz z1 hT1
  replace hd1 := hide hd1
  replace hb1 := hide hb1
  replace hT1 := hide hT1
  clear hn1 hT
  go_wp2_with fail
  refine ho1.mono ?_
  rintro e w2 ⟨lb, v, S2, rfl, hl2, hr2, -, hlb, hm2⟩
  obtain ⟨vs, R, hvo, -⟩ := hr2
  have hvs : ∃ A c, v = .slice A 0 c := by
    rcases hvo.2 with ⟨rfl, _⟩ | ⟨g, cap, cur, rfl, _⟩
    · exact ⟨_, _, rfl⟩
    · exact ⟨_, _, rfl⟩
  obtain ⟨A, c, rfl⟩ := hvs
  clear hvo ho1
  replace hl2 := hide hl2
  replace hm2 := hide hm2
  go_wp2_with fail
  obtain ⟨w3, hw3⟩ : ∃ w3, w3 = (((w2.alloc (.cells #[.int .u8 97] 5 (1, 2))).alloc (.cells #[.int .u8 98, .int .u8 99] 5 (2, 3))).alloc (.cells #[.slice (some ⟨w2.heap.size, 0, none⟩) 1 1, .slice (some ⟨w2.heap.size + 1, 0, none⟩) 2 2] 34)) := ⟨_, rfl⟩
  have hlit := lits4 w2
  have hU3 : Upd (fun _ => False) w2 w3 := by rw [hw3]; exact ((Upd.alloc _ _ _).then (.alloc _ _ _)).then (.alloc _ _ _)
  rw [← hw3] at hlit ⊢
  clear hw3
  have hl3 := hl2.out.upd hU3 fun _ _ => id
  have hb3 : Below w.heap.size w w3 := (hb1.out.trans (hm2.out.1.below z1 fun k hk => hd1.out.ge hk)).trans (hU3.below (by have := hm2.out.1.size; omega) fun _ h => h.elim)
  have hT3 := hT0.out.below hz hb3
  have hc3 := commit_lg hl3 hz hT3 hlit (fun k hk hk' => by have := hl2.out.old hk'; omega) (by decide) (by decide) (by decide)
  replace hb3 := hide hb3
  replace hT3 := hide hT3
  replace hl3 := hide hl3
  clear hlit hU3 hl2 hm2 hd1
  refine hc3.mono ?_
  rintro e w4 ⟨rfl, S4, hl4, hm4⟩
  have hb4 := hb3.out.trans (hm4.1.below (B := w.heap.size) hb3.out.size fun k hk => hl3.out.ge hk)
  have z4 := hb4.size
  have hT4 := hT0.out.below hz hb4
  have hcn := count_lg hl4
  have ho4 := open_dk hl4.dk hz z4 hT4
  replace hb4 := hide hb4
  replace hl4 := hide hl4
  clear hc3 hm4 hT4
  go_wp2_with fail
  refine hcn.mono ?_
  rintro e w4' ⟨rfl, rfl⟩
  clear hcn
  go_wp2_with fail
  refine ho4.mono ?_
  rintro e w5 ⟨lm, v5, S5, rfl, hl5, hr5, hv5, hlm, hm5⟩
  clear ho4
  have hb5 := hb4.out.trans (hm5.1.below (B := w.heap.size) z4 fun k hk => hl4.out.ge (.inl hk))
  have z5 := hb5.size
  replace hb5 := hide hb5
  replace hr5 := hide hr5
  replace hm5 := hide hm5
  go_wp2_with fail
  refine (new_any w5 9 256 (by decide) (by decide) (by decide) (by decide)).mono ?_
  rintro e w6 ⟨sc, S6, rfl, hd6, -, hb6⟩
  have ho6 := open_small hd6 (by decide)
  replace hb6 := hide hb6
  go_wp2_with fail
  refine ho6.mono ?_
  rintro e w7 ⟨rfl, hb7⟩
  clear ho6 hd6
  have hb57 := hb6.out.trans (hb7.mono hb6.out.size)
  have hU57 : Upd (fun _ => False) w5 w7 := .of_below _ hb57
  have hb7 := hb5.out.trans (hb57.mono z5)
  have hr7 := (hr5.out.upd hU57 fun _ _ _ => id)
  have hl7 := (hl4.out.any.upd hm5.out.1 hl4.out.nlb).upd hU57 id
  have hrw := hr7.recsW
  obtain ⟨A5, c5, rfl, -⟩ := hr7.slice
  obtain ⟨b0, o0, u0, rfl, k0, hu0⟩ := hrw.at (k := 0) (by decide)
  obtain ⟨b1, o1, u1, e1, k1, hu1⟩ := hrw.at (k := 1) (by decide)
  obtain ⟨rfl, rfl⟩ : b0 = b1 ∧ o0 = o1 := by injection e1 with e1; injection e1 with e2 e3; exact ⟨e2, e3⟩
  rw [Nat.add_zero] at k0
  have cv0 := hu0.bytes.string (P := Tryd.prog) Tryd.underlying34 Tryd.underlying5 Tryd.underlying9
  have cv1 := hu1.bytes.string (P := Tryd.prog) Tryd.underlying34 Tryd.underlying5 Tryd.underlying9
  replace hr7 := hide hr7
  replace hl7 := hide hl7
  replace hb7 := hide hb7
  replace hrw := hide hrw
  clear hU57 hb57 hb6 hr5 hm5 hl4 hv5 hl5 hb4 hb3 hb5
  obtain ⟨C, hC⟩ : ∃ C, C = madeCells #[.int .u8 0] 1048577 := ⟨_, rfl⟩
  have hmk : (Instr.makeSlice 34 (.int .i64 1048577) (.int .i64 1048577)).run Tryd.prog w7 = .ok (.slice (some ⟨w7.heap.size, 0, none⟩) 1048577 1048577) (w7.alloc (.cells C 5)) := by
    rw [hC]
    exact run_make_row' (P := Tryd.prog) 34 5 (.int .u8 0) 1 Tryd.underlying34 byte_info rfl .i64 .i64 1048577 (by omega) (by omega) w7
  replace hC := hide hC
  go_wp2_with fail
  have hbg := big4 w7 1048577 (by decide) (by unfold maxLen; simp)
  rw [← hC.out] at hbg
  obtain ⟨w8, hw8⟩ : ∃ w8, w8 = (w7.alloc (.cells C 5)).alloc (.cells #[.slice (some ⟨w7.heap.size, 0, none⟩) 1048577 1048577] 34) := ⟨_, rfl⟩
  have hU8 : Upd (fun _ => False) w7 w8 := by rw [hw8]; exact (Upd.alloc _ _ _).then (.alloc _ _ _)
  rw [← hw8] at hbg ⊢
  clear hw8 hmk
  have hl8 := hl7.out.upd hU8 id
  have hb8 := hb7.out.trans (hU8.below (by have := hb7.out.size; omega) fun _ h => h.elim)
  have hc8 := long_lg hl8 hbg.1 hbg.2
  replace hb8 := hide hb8
  clear hbg hl8 hU8
  refine hc8.mono ?_
  rintro e w9 ⟨rfl, hb9⟩
  have hb9 := hide (hb8.out.trans (hb9.mono hb8.out.size))
  clear hc8
  go_wp2_with fail
  go_ret
  exact ⟨rfl, hb9.out⟩
end Go.Proofs.YtimblkkojcbipaaDoor
