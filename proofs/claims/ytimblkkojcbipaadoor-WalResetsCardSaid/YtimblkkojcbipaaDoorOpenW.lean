/- Walks of wal: a log is opened. -/
import Derived.Test.YtimblkkojcbipaaDoorPutB
import Derived.Test.YtimblkkojcbipaaDoorFind
namespace Go.Proofs.YtimblkkojcbipaaDoor
open Go Go.RowKit
theorem RecsO.nil (w : World) (B : Nat) : RecsO w B (.slice none 0 0) [] := ⟨[], fun _ => False, World.ownsRow_nil _ _ _ _, fun _ _ _ h _ => by simp at h, fun _ h => by simp at h, fun _ h => h.elim⟩
/-- What is written when a disk is opened. -/
def DS.opened (D : DS) : DS := match findP D with
  | some _ => D.flush
  | none => D.format.flush
/-- What the log holds then. -/
def openX (D : DS) : Nat × Ext × List (List UInt8) := match findP D with
  | some t => t
  | none => (0, ⟨0, 0, 0⟩, [])
def OpenR (W : World) (sb : Nat) (S : Nat → Prop) (D : DS) (e : Ending) (w' : World) : Prop :=
  ∃ S', DiskV w' sb S' D.opened ∧ Mv W S w' S' ∧
    ((D.opened.dead = true ∧ e = .returned (.tuple #[.pointer none, .slice none 0 0, .int .i64 32])) ∨
     (D.opened.dead = false ∧ ∃ lb v, e = .returned (.tuple #[.pointer (some ⟨lb, 0, none⟩), v, .int .i64 0]) ∧ W.heap.size ≤ lb ∧ ¬ S' lb ∧ LogV w' lb sb (openX D).1 (openX D).2.1 ∧ RecsO w' W.heap.size v (openX D).2.2 ∧ (∀ k, Own v k → k ≠ lb)))
theorem mvF {W w2 w4 : World} {S S4 : Nat → Prop} (h : Upd (At W.heap.size) W w2) (h' : Mv w2 (OO W.heap.size S) w4 (OO W.heap.size S4)) (hz : W.heap.size ≤ w2.heap.size) : Mv W S w4 S4 := by
  refine ⟨(h.mono (G := S) fun k hk e => ?_).trans h'.1 fun k hk e => ?_, fun k hk => ?_⟩
  · have e' : k = W.heap.size := e
    omega
  · rcases e with e | e
    · omega
    · exact e
  · rcases h'.2 k (.inr hk) with (e | e) | e
    · exact .inr (by omega)
    · exact .inl e
    · exact .inr (by omega)
section
variable {W : World} {sb : Nat} {S : Nat → Prop} {D : DS}
set_option maxRecDepth 100000 in
set_option maxHeartbeats 1000000 in
theorem open_any (hD : DiskV W sb S D) (hd : D.dead = false) (hT : Tab W) (hS0 : ¬ S 0) (h0 : 0 < W.heap.size) (hn : 16 ≤ D.n) (hs : 128 ≤ D.size) :
    Calls Tryd.prog 12 #[.pointer (some ⟨sb, 0, none⟩)] W fun e w' => OpenR W sb S D e w' := by
  have hold := hD.old
  have hsec := sectorsV hD
  have hsiz := sizeV hD
  obtain ⟨w1, hw1⟩ : ∃ w1, w1 = W.alloc (.cells #[.pointer (some ⟨sb, 0, none⟩), .int .i64 0] 67) := ⟨_, rfl⟩
  have hh1 : w1.heap[W.heap.size]? = some (.cells #[.pointer (some ⟨sb, 0, none⟩), .int .i64 0] 67) := by rw [hw1]; exact heap_new _ _
  have hU1 : Upd (fun _ => False) W w1 := by rw [hw1]; exact .alloc _ _ _
  have he0 : errOf D = 0 := by unfold errOf; rw [hd]; rfl
  have hp1 : PgV w1 W.heap.size sb S D := ⟨by rw [he0]; exact hh1, hD.upd hU1 fun _ _ => id, fun h => by have := hold _ h; omega⟩
  have hf := find_any hp1 hd (hT.upd hU1 id) h0 hn
  have z1 : W.heap.size + 1 ≤ w1.heap.size := by rw [hw1]; simp
  replace hD := hide hD
  replace hd := hide hd
  replace hT := hide hT
  replace hold := hide hold
  replace hh1 := hide hh1
  replace hU1 := hide hU1
  replace hp1 := hide hp1
  go_enter Tryd.func12, Tryd.ntmps12
  go_wp2_with fail
  refine hsec.mono ?_
  rintro e w' ⟨rfl, rfl⟩
  go_wp2_with fail
  refine hsiz.mono ?_
  rintro e w' ⟨rfl, rfl⟩
  go_wp2_with fail
  rw [← hw1]
  replace hw1 := hide hw1
  clear hsec hsiz
  refine hf.mono ?_
  intro e w2 hF
  clear hf
  unfold Found at hF
  obtain ⟨hp2, hU2, hF⟩ := hF
  have hT2 : Tab w2 := (hT.out.upd hU1.out id).upd hU2 (by omega)
  have hU12 : Upd (At W.heap.size) W w2 := (hU1.out.mono fun _ _ h => h.elim).then hU2
  have z2 := hU2.size
  cases hfp : findP D with
  | none =>
    rw [hfp] at hF
    dsimp only at hF
    subst hF
    have hop : D.opened = D.format.flush := by unfold DS.opened; rw [hfp]
    have hox : openX D = (0, ⟨0, 0, 0⟩, []) := by unfold openX; rw [hfp]
    have hfm := format_any hp2 hT2 hn hS0 h0
    replace hop := hide hop
    replace hox := hide hox
    replace hfp := hide hfp
    replace hp2 := hide hp2
    replace hT2 := hide hT2
    replace hU12 := hide hU12
    clear hU2
    go_wp2_with fail
    refine hfm.mono ?_
    rintro e w3 ⟨lb, S3, rfl, hlb, hnS3, hnp3, hL3, hp3, hM3⟩
    have hfl := pflush_any hp3
    have hnl3 : ¬ OO W.heap.size S3 lb := fun h => h.elim (fun e => hnp3 e) hnS3
    have zl3 : lb < w3.heap.size := (Array.getElem?_eq_some_iff.1 hL3).1
    have z3 := hM3.1.size
    have hvl : Hid (∀ k, Own (.slice none 0 0) k → k ≠ lb) := hide (fun k hk => by cases hk)
    replace hp3 := hide hp3
    replace hM3 := hide hM3
    replace hL3 := hide hL3
    replace hnl3 := hide hnl3
    clear hfm hnS3 hnp3
    go_wp2_with fail
    refine hfl.mono ?_
    rintro e w4 ⟨rfl, S4, hp4, hM4⟩
    have hMM := hM3.out.trans hM4
    have hnl4 : ¬ OO W.heap.size S4 lb := fun h => (hM4.2 _ h).elim hnl3.out fun h => by omega
    have hL4 := hM4.1.heap hL3.out hnl3.out
    have cp := hp4.c1
    have hMF : Mv W S w4 S4 := mvF hU12.out hMM (by omega)
    have hR4 : RecsO w4 W.heap.size (.slice none 0 0) [] := .nil _ _
    rw [← hop.out] at hp4 cp
    clear hM4 hMM hfl
    cases hdead : D.opened.dead
    · have he : errOf D.opened = 0 := by unfold errOf; rw [hdead]; rfl
      rw [he] at cp
      replace hp4 := hide hp4
      replace hMF := hide hMF
      replace hL4 := hide hL4
      replace hR4 := hide hR4
      replace hdead := hide hdead
      replace he := hide he
      replace hnl4 := hide hnl4
      go_wp2_with fail
      refine bodyPost_ret (v := .tuple #[.pointer (some ⟨lb, 0, none⟩), (.slice none 0 0), .int .i64 0]) (by simp [results, Tryd.results12, go_sem]) rfl ?_
      exact ⟨S4, hp4.out.disk, hMF.out, .inr ⟨hdead.out, lb, _, rfl, by omega, fun h => hnl4.out (.inr h), by rw [hox.out]; exact hL4.out, by rw [hox.out]; exact hR4.out, hvl.out⟩⟩
    · have he : errOf D.opened = 32 := by unfold errOf; rw [hdead]; rfl
      rw [he] at cp
      replace hp4 := hide hp4
      replace hMF := hide hMF
      replace hL4 := hide hL4
      replace hR4 := hide hR4
      replace hdead := hide hdead
      replace he := hide he
      replace hnl4 := hide hnl4
      go_wp2_with fail
      go_region
      all_goals
        go_wp2_with fail
        refine bodyPost_ret (v := .tuple #[.pointer none, .slice none 0 0, .int .i64 32]) (by simp [results, Tryd.results12, go_sem]) rfl ?_
        have hUd : Upd (fun _ => False) w4 w4.drew := (Upd.refl _ _).drew
        exact ⟨S4, hp4.out.disk.upd hUd fun _ _ => id, ⟨hMF.out.1.then (hUd.mono fun _ _ h => h.elim), hMF.out.2⟩, .inl ⟨hdead.out, rfl⟩⟩
  | some t =>
    obtain ⟨live, x, rs⟩ := t
    rw [hfp] at hF
    dsimp only at hF
    obtain ⟨lb, v, rfl, hlb, hL2, hR2, hvl⟩ := hF
    have hop : D.opened = D.flush := by unfold DS.opened; rw [hfp]
    have hox : openX D = (live, x, rs) := by unfold openX; rw [hfp]
    have hfl := pflush_any hp2
    replace hop := hide hop
    replace hox := hide hox
    replace hfp := hide hfp
    replace hp2 := hide hp2
    replace hT2 := hide hT2
    replace hU12 := hide hU12
    replace hL2 := hide hL2
    replace hR2 := hide hR2
    replace hvl := hide hvl
    clear hU2
    go_wp2_with fail
    refine hfl.mono ?_
    rintro e w4 ⟨rfl, S4, hp4, hM4⟩
    have hnl : ¬ OO W.heap.size S lb := fun h => h.elim (fun e => by omega) fun h => by have := hold.out _ h; omega
    have hnl4 : ¬ OO W.heap.size S4 lb := fun h => (hM4.2 _ h).elim hnl fun h => by have := (Array.getElem?_eq_some_iff.1 hL2.out).1; omega
    have hL4 := hM4.1.heap hL2.out hnl
    have cp := hp4.c1
    have hMF : Mv W S w4 S4 := mvF hU12.out hM4 (by omega)
    have hR4 : RecsO w4 W.heap.size v rs := (hR2.out.upd hM4.1 fun k h1 _ h => h.elim (fun e => by omega) fun h => by have := hold.out k h; omega).base (by omega)
    rw [← hop.out] at hp4 cp
    clear hM4 hfl
    cases hdead : D.opened.dead
    · have he : errOf D.opened = 0 := by unfold errOf; rw [hdead]; rfl
      rw [he] at cp
      replace hp4 := hide hp4
      replace hMF := hide hMF
      replace hL4 := hide hL4
      replace hR4 := hide hR4
      replace hdead := hide hdead
      replace he := hide he
      replace hnl4 := hide hnl4
      go_wp2_with fail
      refine bodyPost_ret (v := .tuple #[.pointer (some ⟨lb, 0, none⟩), v, .int .i64 0]) (by simp [results, Tryd.results12, go_sem]) rfl ?_
      exact ⟨S4, hp4.out.disk, hMF.out, .inr ⟨hdead.out, lb, _, rfl, by omega, fun h => hnl4.out (.inr h), by rw [hox.out]; exact hL4.out, by rw [hox.out]; exact hR4.out, hvl.out⟩⟩
    · have he : errOf D.opened = 32 := by unfold errOf; rw [hdead]; rfl
      rw [he] at cp
      replace hp4 := hide hp4
      replace hMF := hide hMF
      replace hL4 := hide hL4
      replace hR4 := hide hR4
      replace hdead := hide hdead
      replace he := hide he
      replace hnl4 := hide hnl4
      go_wp2_with fail
      go_region
      all_goals
        go_wp2_with fail
        refine bodyPost_ret (v := .tuple #[.pointer none, .slice none 0 0, .int .i64 32]) (by simp [results, Tryd.results12, go_sem]) rfl ?_
        have hUd : Upd (fun _ => False) w4 w4.drew := (Upd.refl _ _).drew
        exact ⟨S4, hp4.out.disk.upd hUd fun _ _ => id, ⟨hMF.out.1.then (hUd.mono fun _ _ h => h.elim), hMF.out.2⟩, .inl ⟨hdead.out, rfl⟩⟩
end
end Go.Proofs.YtimblkkojcbipaaDoor
