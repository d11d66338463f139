/- Walks of the disk: a sector is written. -/
import Derived.Test.YtimblkkojcbipaaDoorDraw
namespace Go.Proofs.YtimblkkojcbipaaDoor
open Go Go.RowKit
section
variable {w : World} {sb db mb cap : Nat} {vs : Array Value} {g : Nat → Option Value} {R : Nat → Prop} {D : DS}
set_option maxRecDepth 100000 in
theorem replace_any (h : DiskAt w sb db mb cap vs g R D) (i : Nat) (hi : i < D.n) {S : Nat → Prop} {v : Value} {l : List UInt8} (hv : ArgV w S v (bv l)) (hl : l.length = D.size) :
    Calls Tryd.prog 40 #[.pointer (some ⟨sb, 0, none⟩), .int .i64 i, v] w fun e w' => e = .returned (.tuple #[]) ∧
      ∃ g' R', DiskAt w' sb db mb cap vs g' R' { D with wr := setAt D.wr i l } ∧ Mv w (Foot sb db mb R) w' (Foot sb db mb R') := by
  have c2 := h.c2
  obtain ⟨DM, m1, m2, m3, m4⟩ := h.map
  have hn := h.n1
  have hs := h.s1
  have hk := key_int i (by omega)
  have hcl : Calls Tryd.prog 64 #[v] w.drew fun e w' => ∃ v', e = .returned v' ∧ RowB w' w.heap.size v' l ∧ Below w.heap.size w w' :=
    (clone_any (hv.upd (Upd.refl (fun _ => False) w).drew fun _ _ => id) (by omega)).mono fun e w' ⟨v', h1, h2, h3⟩ => ⟨v', h1, h2, ((Below.refl _ w).drew).trans h3⟩
  have hc := cnt_le g D.n
  have hm := m1.lt
  have hsb := (Array.getElem?_eq_some_iff.1 h.head).1
  obtain ⟨A, c, rfl, hv2⟩ := hv
  replace h := hide h
  replace m1 := hide m1
  replace m2 := hide m2
  replace m3 := hide m3
  replace m4 := hide m4
  replace hv2 := hide hv2
  go_enter Tryd.func40, Tryd.ntmps40
  go_region_with (
       go_at_call 64
       refine hcl.mono ?_
       rintro e w1 ⟨v1, rfl, h1, h2⟩
       obtain ⟨A1, n1, c1, rfl⟩ := h1.slice
       have c2' := (h2.cell (World.block_lt_of_cell? _ _ c2)).trans c2
       have mo : w1.ownsMap Tryd.prog 3 heldE mb (cnt g D.n) DM := by
         obtain ⟨es, clock, hb, r⟩ := m1.out
         exact ⟨es, clock, (h2.block mb hm).trans hb, r⟩
       obtain ⟨w2, hrun, ho2, ht2⟩ := mo.store int_key Tryd.underlying43 (by unfold maxLen; omega) hk (rfl : heldE (.slice A1 n1 c1) = some (_, []))
       clear mo
       replace h1 := hide h1
       replace h2 := hide h2
       replace ho2 := hide ho2
       replace ht2 := hide ht2)
  all_goals
    have hg := ht2.out.grown
    have hU1 : Upd (fun _ => False) w w1 := .of_below _ h2.out
    have hU2 : Upd (fun k => k = mb) w1 w2 := .grown hg fun k hk => (Option.some.inj hk).symm
    have hU : Upd (fun k => k = mb) w w2 := (Upd.mono hU1 fun _ _ h => h.elim).then hU2
    go_wp2_with fail
    go_end0
    have hD := h.out
    have hmv := ho2.out
    refine ⟨rfl, setAt g i (.slice A1 n1 c1), fun k => R k ∨ (w.heap.size ≤ k ∧ IsC w2 k), ?_, hU.mono (fun k hk e => Or.inr (Or.inr (Or.inl e))), fun k hk => ?_⟩
    · exact {
        head := hU.heap hD.head hD.ne.2.2.2.2.1
        arr := hU.heap hD.arr hD.ne.2.2.2.2.2
        len := hD.len
        cap := hD.cap
        map := MapV.put hi (m1.out.tidy int_key) m2.out m3.out m4.out hmv
        dur := fun j hj => by
          obtain ⟨a1, v, a2, a3⟩ := hD.dur j hj
          exact ⟨a1, v, a2, (a3.upd hU fun k hk e => hD.ne.2.2.1 (e ▸ hk)).mono fun k _ => .inl⟩
        wr := fun j hj => by
          by_cases e : j = i
          · subst e
            have : D.wr j = D.wr j := rfl
            simp only [setAt_self]
            refine ⟨hl, (h1.out.arg.upd hU2 fun k hk e => by subst e; omega).cel.mono fun k _ hk2 => .inr hk2⟩
          · simp only [setAt_other _ _ e]
            have := hD.wr j hj
            split at this
            · trivial
            · exact ⟨this.1, (this.2.upd hU fun k hk e => hD.ne.2.2.1 (e ▸ hk)).mono fun k _ => .inl⟩
            · exact this
        ne := by
          have ha := (Array.getElem?_eq_some_iff.1 hD.arr).1
          obtain ⟨n1, n2, n3, n4⟩ := hD.ne
          exact ⟨fun h => h.elim n1 (by omega), fun h => h.elim n2 (by omega), fun h => h.elim n3 (by omega), n4⟩
        old := fun k hk => hk.elim (fun h => (hD.old k h).upd hU fun e => hD.ne.2.2.1 (e ▸ h)) (·.2)
        n1 := hD.n1
        s1 := hD.s1
        l1 := hD.l1 }
    · rcases hk with h | h | h | h | h
      · exact .inl (.inl h)
      · exact .inl (.inr (.inl h))
      · exact .inl (.inr (.inr (.inl h)))
      · exact .inl (.inr (.inr (.inr h)))
      · exact .inr h.1
end
end Go.Proofs.YtimblkkojcbipaaDoor
