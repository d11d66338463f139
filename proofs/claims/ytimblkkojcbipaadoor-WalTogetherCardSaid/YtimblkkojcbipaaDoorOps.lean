/- Walks of the disk: Read, Write, Flush, Cut. -/
import Derived.Test.YtimblkkojcbipaaDoorSettle
namespace Go.Proofs.YtimblkkojcbipaaDoor
open Go Go.RowKit
def DS.write (D : DS) (i : Nat) (l : List UInt8) : DS := if D.draw.dead then D.draw else { D.draw with wr := setAt D.draw.wr i l }
def DS.flush (D : DS) : DS := if D.draw.dead then D.draw else { D.draw with dur := D.draw.last, wr := fun _ => none }
def DS.cut (D : DS) (n : Nat) : DS := { D with sched := true, left := n }
theorem DS.draw_dead {D : DS} (h : D.dead = true) : D.draw = D := by unfold DS.draw; rw [if_pos h]
section
variable {w : World} {sb db mb cap : Nat} {vs : Array Value} {g : Nat → Option Value} {R S : Nat → Prop} {D : DS}
theorem read_any (h : DiskV w sb S D) (hd : D.dead = false) (i : Nat) (hi : i < D.n) : Calls Tryd.prog 24 #[.pointer (some ⟨sb, 0, none⟩), .int .i64 i] w fun e w' => ∃ v', e = .returned (.tuple #[v', .int .i64 0]) ∧ RowB w' w.heap.size v' (D.last i) ∧ Below w.heap.size w w' := by
  obtain ⟨db, mb, cap, vs, g, R, h, rfl⟩ := h
  have hr := reach_any h i hi
  have hl := last_any h i hi
  rw [hd] at hr
  clear h hd
  go_enter Tryd.func24, Tryd.ntmps24
  go_wp2_with fail
  refine hr.mono ?_
  rintro e w' ⟨rfl, rfl⟩
  go_wp2_with fail
  refine hl.mono ?_
  rintro e w' ⟨v', rfl, h1, h2⟩
  replace h1 := hide h1
  replace h2 := hide h2
  go_wp2_with fail
  go_ret2
  exact ⟨_, rfl, h1.out, h2.out⟩
theorem write_anyM (h : DiskM w sb mb S D) (i : Nat) (hi : i < D.n) {T : Nat → Prop} {v : Value} {l : List UInt8} (hv : ArgV w T v (bv l)) (hT : ∀ k, T k → ¬ S k) (hl : l.length = D.size) :
    Calls Tryd.prog 25 #[.pointer (some ⟨sb, 0, none⟩), .int .i64 i, v] w fun e w' => e = .returned (.int .i64 (if (D.write i l).dead then 32 else 0)) ∧ ∃ S', DiskM w' sb mb S' (D.write i l) ∧ Mv w S w' S' := by
  obtain ⟨db, cap, vs, g, R, h, rfl⟩ := h
  have hr := reach_any h i hi
  have hz := size_any h
  have hdr := draw_any h
  have hlen : (bv l).length = D.size := by rw [bv_len]; exact hl
  have hs1 := h.s1
  cases hd : D.dead
  · rw [hd] at hr
    obtain ⟨A, c, rfl, hv2⟩ := id hv
    rw [hlen]
    rw [hlen] at hv
    clear hv2
    have hw1 : ∀ w1, Upd (fun k => k = sb) w w1 → ArgV w1 T (.slice A D.size c) (bv l) := fun w1 hu => hv.upd hu fun k hk e => hT k hk (.inl e)
    replace hw1 := hide hw1
    replace h := hide h
    replace hv := hide hv
    replace hT := hide hT
    replace hlen := hide hlen
    replace hd := hide hd
    cases hdd : D.draw.dead
    · have hW : D.write i l = { D.draw with wr := setAt D.draw.wr i l } := by unfold DS.write; rw [hdd]; rfl
      have hWd : (if (D.write i l).dead = true then (32 : Int) else 0) = 0 := by rw [hW]; simp [hdd]
      rw [hWd]
      rw [hdd] at hdr
      replace hW := hide hW
      clear hWd hdd
      go_enter Tryd.func25, Tryd.ntmps25
      go_wp2_with fail
      refine hr.mono ?_
      rintro e w' ⟨rfl, rfl⟩
      go_wp2_with fail
      refine hz.mono ?_
      rintro e w' ⟨rfl, rfl⟩
      go_wp2_with fail
      refine hdr.mono ?_
      rintro e w1 ⟨rfl, hU1, hD1⟩
      have hrep := replace_any hD1 i (by rw [D.draw_n]; exact hi) (hw1.out _ hU1) (by rw [D.draw_size]; exact hl)
      replace hU1 := hide hU1
      replace hD1 := hide hD1
      go_wp2_with fail
      refine hrep.mono ?_
      rintro e w2 ⟨rfl, g', R', hD2, hM⟩
      replace hD2 := hide hD2
      replace hM := hide hM
      go_wp2_with fail
      go_ret
      refine ⟨rfl, _, ⟨db, cap, vs, g', R', by rw [hW.out]; exact hD2.out, rfl⟩, ?_⟩
      exact Mv.trans ⟨hU1.out.mono fun k _ e => .inl e, fun k => .inl⟩ hM.out
    · have hW : D.write i l = D.draw := by unfold DS.write; rw [hdd]; rfl
      have hWd : (if (D.write i l).dead = true then (32 : Int) else 0) = 32 := by rw [hW]; simp [hdd]
      rw [hWd]
      rw [hdd] at hdr
      replace hW := hide hW
      clear hWd hdd
      go_enter Tryd.func25, Tryd.ntmps25
      go_wp2_with fail
      refine hr.mono ?_
      rintro e w' ⟨rfl, rfl⟩
      go_wp2_with fail
      refine hz.mono ?_
      rintro e w' ⟨rfl, rfl⟩
      go_wp2_with fail
      refine hdr.mono ?_
      rintro e w1 ⟨rfl, hU1, hD1⟩
      replace hU1 := hide hU1
      replace hD1 := hide hD1
      go_wp2_with fail
      go_ret
      exact ⟨rfl, _, ⟨db, cap, vs, g, R, by rw [hW.out]; exact hD1.out, rfl⟩, hU1.out.mono fun k _ e => .inl e, fun k => .inl⟩
  · rw [hd] at hr
    have hW : D.write i l = D := by unfold DS.write; rw [DS.draw_dead hd, hd]; rfl
    have hWd : (if (D.write i l).dead = true then (32 : Int) else 0) = 32 := by rw [hW]; simp [hd]
    rw [hWd]
    clear hdr hz hv hT hl hlen hWd hd
    replace hW := hide hW
    replace h := hide h
    go_enter Tryd.func25, Tryd.ntmps25
    go_wp2_with fail
    refine hr.mono ?_
    rintro e w' ⟨rfl, rfl⟩
    go_wp2_with fail
    go_ret
    exact ⟨rfl, _, ⟨db, cap, vs, g, R, by rw [hW.out]; exact h.out, rfl⟩, .refl _ _⟩
theorem write_any (h : DiskV w sb S D) (i : Nat) (hi : i < D.n) {T : Nat → Prop} {v : Value} {l : List UInt8} (hv : ArgV w T v (bv l)) (hT : ∀ k, T k → ¬ S k) (hl : l.length = D.size) :
    Calls Tryd.prog 25 #[.pointer (some ⟨sb, 0, none⟩), .int .i64 i, v] w fun e w' => e = .returned (.int .i64 (if (D.write i l).dead then 32 else 0)) ∧ ∃ S', DiskV w' sb S' (D.write i l) ∧ Mv w S w' S' := by
  obtain ⟨mb, hm, _⟩ := h.toM
  exact (write_anyM hm i hi hv hT hl).mono fun e w' ⟨h1, S', h2, h3⟩ => ⟨h1, S', h2.toV, h3⟩
theorem flush_any (h : DiskV w sb S D) : Calls Tryd.prog 26 #[.pointer (some ⟨sb, 0, none⟩)] w fun e w' => e = .returned (.int .i64 (if D.flush.dead then 32 else 0)) ∧ ∃ S', DiskV w' sb S' D.flush ∧ Mv w S w' S' := by
  obtain ⟨db, mb, cap, vs, g, R, h, rfl⟩ := h
  have hdr := draw_any h
  replace h := hide h
  cases hdd : D.draw.dead
  · have hW : D.flush = { D.draw with dur := D.draw.last, wr := fun _ => none } := by unfold DS.flush; rw [hdd]; rfl
    have hWd : (if D.flush.dead = true then (32 : Int) else 0) = 0 := by rw [hW]; simp [hdd]
    rw [hWd]
    rw [hdd] at hdr
    replace hW := hide hW
    clear hWd hdd
    go_enter Tryd.func26, Tryd.ntmps26
    go_wp2_with fail
    refine hdr.mono ?_
    rintro e w1 ⟨rfl, hU1, hD1⟩
    have hse := settle_any hD1
    replace hU1 := hide hU1
    replace hD1 := hide hD1
    go_wp2_with fail
    refine hse.mono ?_
    rintro e w2 ⟨rfl, mb', vs', g', hD2, hM⟩
    replace hD2 := hide hD2
    replace hM := hide hM
    go_wp2_with fail
    go_ret
    refine ⟨rfl, _, ⟨db, mb', cap, vs', g', R, by rw [hW.out]; exact hD2.out, rfl⟩, ?_⟩
    exact Mv.trans ⟨hU1.out.mono fun k _ e => .inl e, fun k => .inl⟩ hM.out
  · have hW : D.flush = D.draw := by unfold DS.flush; rw [hdd]; rfl
    have hWd : (if D.flush.dead = true then (32 : Int) else 0) = 32 := by rw [hW]; simp [hdd]
    rw [hWd]
    rw [hdd] at hdr
    replace hW := hide hW
    clear hWd hdd
    go_enter Tryd.func26, Tryd.ntmps26
    go_wp2_with fail
    refine hdr.mono ?_
    rintro e w1 ⟨rfl, hU1, hD1⟩
    replace hU1 := hide hU1
    replace hD1 := hide hD1
    go_wp2_with fail
    go_ret
    exact ⟨rfl, _, ⟨db, mb, cap, vs, g, R, by rw [hW.out]; exact hD1.out, rfl⟩, hU1.out.mono fun k _ e => .inl e, fun k => .inl⟩
theorem cut_any (h : DiskV w sb S D) (n : Nat) (hn : n ≤ 1000000) : Calls Tryd.prog 20 #[.pointer (some ⟨sb, 3, none⟩), .int .i64 n] w fun e w' => e = .returned (.tuple #[]) ∧ DiskV w' sb S (D.cut n) ∧ Upd S w w' := by
  obtain ⟨db, mb, cap, vs, g, R, h, rfl⟩ := h
  have c4 := h.c4
  have c5 := h.c5
  have f4 := h.f 4
  have f5 := h.f 5
  replace h := hide h
  go_enter Tryd.func20, Tryd.ntmps20
  go_wp2_with fail
  go_end0
  have hU : Upd (fun k => k = sb) w ((w.setCell ⟨sb, 4, none⟩ (.bool true)).setCell ⟨sb, 5, none⟩ (.int .i64 n)) := (Upd.set (F := fun k => k = sb) w (a := ⟨sb, 4, none⟩) rfl _).then (.set (F := fun k => k = sb) _ (a := ⟨sb, 5, none⟩) rfl _)
  refine ⟨rfl, ⟨db, mb, cap, vs, g, R, h.out.rehead hU ?_ rfl rfl rfl rfl (by simp [DS.cut]; omega), rfl⟩, hU.mono fun k _ e => .inl e⟩
  rw [heap_set (heap_set h.out.head 4 _)]
  simp [DS.cut]
end
end Go.Proofs.YtimblkkojcbipaaDoor
