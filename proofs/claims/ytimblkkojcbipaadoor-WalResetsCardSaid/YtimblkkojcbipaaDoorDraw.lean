/- Walks of the disk: power, the sector written last. -/
import Derived.Test.YtimblkkojcbipaaDoorQuiet
import Derived.Deep.RegionWith
namespace Go.Proofs.YtimblkkojcbipaaDoor
open Go Go.RowKit

/-- A call that takes power. -/
def DS.draw (D : DS) : DS := if D.dead then D else if D.sched then (if D.left = 0 then { D with dead := true } else { D with left := D.left - 1 }) else D
theorem DS.draw_n (D : DS) : D.draw.n = D.n := by unfold DS.draw; split <;> (try split) <;> (try split) <;> rfl
theorem DS.draw_size (D : DS) : D.draw.size = D.size := by unfold DS.draw; split <;> (try split) <;> (try split) <;> rfl
theorem DS.draw_dur (D : DS) : D.draw.dur = D.dur := by unfold DS.draw; split <;> (try split) <;> (try split) <;> rfl
theorem DS.draw_wr (D : DS) : D.draw.wr = D.wr := by unfold DS.draw; split <;> (try split) <;> (try split) <;> rfl
theorem DS.draw_left (D : DS) : D.draw.left ≤ D.left := by unfold DS.draw; split <;> (try split) <;> (try split) <;> simp
def DS.last (D : DS) (i : Nat) : List UInt8 := (D.wr i).getD (D.dur i)

section
variable {w w' : World} {sb db mb cap : Nat} {vs : Array Value} {g : Nat → Option Value} {R : Nat → Prop} {D D' : DS}
theorem DiskAt.rehead (h : DiskAt w sb db mb cap vs g R D) (hu : Upd (fun k => k = sb) w w') (hh : w'.heap[sb]? = some (.cells #[.int .i64 D'.size, .slice (some ⟨db, 0, none⟩) D'.n cap, .map (some mb), .bool D'.dead, .bool D'.sched, .int .i64 D'.left] 49))
    (h1 : D'.n = D.n) (h2 : D'.size = D.size) (h3 : D'.dur = D.dur) (h4 : D'.wr = D.wr) (h5 : D'.left ≤ 4611686018427387904) : DiskAt w' sb db mb cap vs g R D' where
  head := hh
  arr := hu.heap h.arr (fun e => h.ne.2.2.2.1 e.symm)
  len := by rw [h1]; exact h.len
  cap := by rw [h1]; exact h.cap
  map := by rw [h1]; exact h.map.upd hu (fun e => h.ne.2.2.2.2.1 e.symm)
  dur i hi := by
    rw [h1] at hi
    obtain ⟨a1, v, a2, a3⟩ := h.dur i hi
    rw [h3, h2]
    exact ⟨a1, v, a2, a3.upd hu fun k hk e => h.ne.1 (e ▸ hk)⟩
  wr i hi := by
    rw [h1] at hi
    have := h.wr i hi
    rw [h4, h2]
    split at this
    · trivial
    · exact ⟨this.1, this.2.upd hu fun k hk e => h.ne.1 (e ▸ hk)⟩
    · exact this
  ne := h.ne
  old k hk := (h.old k hk).upd hu fun e => h.ne.1 (e ▸ hk)
  n1 := by rw [h1]; exact h.n1
  s1 := by rw [h2]; exact h.s1
  l1 := h5

theorem draw_any (h : DiskAt w sb db mb cap vs g R D) : Calls Tryd.prog 39 #[.pointer (some ⟨sb, 3, none⟩)] w fun e w' => e = .returned (.bool (!D.draw.dead)) ∧ Upd (fun k => k = sb) w w' ∧ DiskAt w' sb db mb cap vs g R D.draw := by
  have c3 := h.c3
  have c4 := h.c4
  have c5 := h.c5
  have f3 := h.f 3
  have f5 := h.f 5
  obtain ⟨n, size, dur, wr, dead, sched, left⟩ := D
  have hl : left ≤ 4611686018427387904 := h.l1
  replace h := hide h
  simp only at c3 c4 c5
  cases dead
  · cases sched
    · go_enter Tryd.func39, Tryd.ntmps39
      go_wp2_with fail
      go_ret
      exact ⟨by simp [DS.draw], .refl _ _, by simpa [DS.draw] using h.out⟩
    · rcases Nat.eq_zero_or_pos left with h0 | h0
      · subst h0
        go_enter Tryd.func39, Tryd.ntmps39
        go_wp2_with fail
        go_ret
        exact ⟨by simp [DS.draw], .set (F := fun k => k = sb) w (a := ⟨sb, 3, none⟩) rfl _, h.out.rehead (.set (F := fun k => k = sb) w (a := ⟨sb, 3, none⟩) rfl _) (by rw [heap_set h.out.head]; simp [DS.draw]) rfl rfl rfl rfl (Nat.zero_le _)⟩
      · have hne : (decide ((left : Int) = 0)) = false := by simp; omega
        go_enter Tryd.func39, Tryd.ntmps39
        go_wp2_with fail
        go_ret
        exact ⟨by simp [DS.draw, show left ≠ 0 by omega], .set (F := fun k => k = sb) w (a := ⟨sb, 5, none⟩) rfl _, h.out.rehead (.set (F := fun k => k = sb) w (a := ⟨sb, 5, none⟩) rfl _) (by rw [heap_set h.out.head]; simp [DS.draw, show left ≠ 0 by omega]; omega) (by simp [DS.draw_n]) (by simp [DS.draw_size]) (by simp [DS.draw_dur]) (by simp [DS.draw_wr]) (Nat.le_trans (DS.draw_left _) hl)⟩
  · cases sched
    · go_enter Tryd.func39, Tryd.ntmps39
      go_wp2_with fail
      go_ret
      exact ⟨by simp [DS.draw], .refl _ _, by simpa [DS.draw] using h.out⟩
    · rcases Nat.eq_zero_or_pos left with h0 | h0
      · subst h0
        go_enter Tryd.func39, Tryd.ntmps39
        go_wp2_with fail
        go_ret
        exact ⟨by simp [DS.draw], .set (F := fun k => k = sb) w (a := ⟨sb, 3, none⟩) rfl _, h.out.rehead (.set (F := fun k => k = sb) w (a := ⟨sb, 3, none⟩) rfl _) (by rw [heap_set h.out.head]; simp [DS.draw]) rfl rfl rfl rfl (Nat.zero_le _)⟩
      · have hne : (decide ((left : Int) = 0)) = false := by simp; omega
        go_enter Tryd.func39, Tryd.ntmps39
        go_wp2_with fail
        go_ret
        exact ⟨by simp [DS.draw], .refl _ _, by simpa [DS.draw] using h.out⟩
end
section
variable {w : World} {sb db mb cap : Nat} {vs : Array Value} {g : Nat → Option Value} {R : Nat → Prop} {D : DS}
theorem zero_bytes (w : World) : (zeroValue 34).run Tryd.prog w = .ok (.slice none 0 0) w := by kernel_rfl
theorem key_int (i : Nat) (h : i ≤ 4611686018427387904) : keyOf Tryd.prog 3 (.int .i64 (i : Int)) = some (kI i) := Maps.keyOf_int_mk Tryd.underlying3 (WalkArith.wf_i64 (by omega))

theorem last_any (h : DiskAt w sb db mb cap vs g R D) (i : Nat) (hi : i < D.n) : Calls Tryd.prog 38 #[.pointer (some ⟨sb, 0, none⟩), .int .i64 i] w fun e w' => ∃ v', e = .returned v' ∧ RowB w' w.heap.size v' (D.last i) ∧ Below w.heap.size w w' := by
  have c1 := h.c1
  have c2 := h.c2
  obtain ⟨DM, m1, m2, m3, m4⟩ := h.map
  obtain ⟨m5, m6⟩ := m4 i hi
  have hn := h.n1
  have hs := h.s1
  obtain ⟨d1, v, d2, d3⟩ := h.dur i hi
  have w1 := h.wr i hi
  have cv : w.cell? ⟨db, i, none⟩ = some v := by rw [cell_at h.arr]; exact d2
  have hk := key_int i (by omega)
  have hd : DS.last D i = (D.wr i).getD (D.dur i) := rfl
  cases hg : g i with
  | none =>
    rw [hg] at m5 m6 w1
    have hw : D.wr i = none := by
      cases hw : D.wr i with
      | none => rfl
      | some _ => rw [hw] at w1; exact w1.elim
    rw [hw] at hd
    have hcl := clone_any d3 (by omega)
    rw [hd]
    obtain ⟨A, c, rfl, d4⟩ := d3
    clear h m4 w1 d2 hd hg
    replace m1 := hide m1
    replace m6 := hide m6
    replace m3 := hide m3
    replace d4 := hide d4
    replace d1 := hide d1
    go_enter Tryd.func38, Tryd.ntmps38
    go_wp2_with (at_lookup; refine wpList_lookup_own_ok _ rfl _ _ 43 rfl 3 34 int_key Tryd.underlying43 heldE (zero_bytes _) (.held (.slice none 0 0)) [] rfl mb _ DM rfl m1.out _ _ rfl hk ?_; intro v ps hv; rw [m5]; clear hv)
    refine hcl.mono ?_
    rintro e w' ⟨v', rfl, h1, h2⟩
    replace h1 := hide h1
    replace h2 := hide h2
    go_wp2_with fail
    go_ret
    exact ⟨_, rfl, h1.out, h2.out⟩
  | some u =>
    rw [hg] at m5 m6 w1
    cases hw : D.wr i with
    | none => rw [hw] at w1; exact w1.elim
    | some l =>
      rw [hw] at hd w1
      obtain ⟨w1, w2⟩ := w1
      have hcl := clone_any w2 (by omega)
      rw [hd]
      obtain ⟨A, c, rfl, d4⟩ := w2
      clear h m4 d3 d2 d1 hd hg cv
      replace m1 := hide m1
      replace m6 := hide m6
      replace m3 := hide m3
      replace d4 := hide d4
      replace w1 := hide w1
      go_enter Tryd.func38, Tryd.ntmps38
      go_wp2_with (at_lookup; refine wpList_lookup_own_ok _ rfl _ _ 43 rfl 3 34 int_key Tryd.underlying43 heldE (zero_bytes _) (.held (.slice none 0 0)) [] rfl mb _ DM rfl m1.out _ _ rfl hk ?_; intro v ps hv; rw [m5]; rw [m6.out] at hv; obtain rfl := heldE_val hv)
      refine hcl.mono ?_
      rintro e w' ⟨v', rfl, h1, h2⟩
      replace h1 := hide h1
      replace h2 := hide h2
      go_wp2_with fail
      go_ret
      exact ⟨_, rfl, h1.out, h2.out⟩
end
end Go.Proofs.YtimblkkojcbipaaDoor
