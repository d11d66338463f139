/- Walks of the reader of summaries: the whole. -/
import Derived.Test.YtajpgkedlajjdaaReadSum
import Derived.Test.YtajpgkedlajjdaaAttempt
namespace Go.Proofs.Ytajpgkedlajjdaa
open Go.RowKit

/-- A summary's value, its lists in rows of the call's own from 'base' on. -/
def SumAt (w : World) (base : Nat) (v : Value) (s : SumD) : Prop :=
  ∃ va vm, v = .agg #[va, .bool s.ends, .bool s.ret.some, .int .i64 s.ret.lo, .int .i64 s.ret.hi, vm] ∧ w.ownsRow base 62 2 va s.alarms.length (s.alarms.map AlarmD.cells).flatten ∧ w.ownsRow base 94 4 vm s.mod.length (s.mod.map NamedD.cells).flatten
theorem SumAt.upd {w w' : World} {base : Nat} {v : Value} {s : SumD} {F : Nat → Prop} (h : SumAt w base v s) (hu : Upd F w w') (hF : ∀ k, F k → k < base) : SumAt w' base v s := by
  obtain ⟨va, vm, h1, h2, h3⟩ := h
  exact ⟨va, vm, h1, hu.own h2 fun k hk hf => by have := hF k hf; have := (World.ownsRow.lt h2 k hk).1; omega, hu.own h3 fun k hk hf => by have := hF k hf; have := (World.ownsRow.lt h3 k hk).1; omega⟩
theorem SumAt.base {w : World} {b b' : Nat} {v : Value} {s : SumD} (h : SumAt w b v s) (hb : b' ≤ b) : SumAt w b' v s := by
  obtain ⟨va, vm, h1, h2, h3⟩ := h
  exact ⟨va, vm, h1, ownsRow_base h2 hb, ownsRow_base h3 hb⟩
theorem ToldP.cases {α : Type} {D p : Nat} {w : World} {R : Value → World → α → Prop} {o : Option (α × List UInt8)} {e : Ending} {w' : World} (h : ToldP D p w R o e w') :
    Upd (At p) w w' ∧ ((∃ a r v, o = some (a, r) ∧ e = .returned v ∧ R v w' a ∧ Rd w' D p r false) ∨ (o = none ∧ (∃ pv, e = .panicked [{ v := .iface 108 pv, recovered := false }]) ∧ ∃ r, Rd w' D p r false)) := by
  refine ⟨h.1, ?_⟩
  cases o with
  | none => exact .inr ⟨rfl, h.2⟩
  | some x =>
    obtain ⟨⟨v, h1, h2⟩, h3⟩ := h.2
    exact .inl ⟨x.1, x.2, v, rfl, h1, h2, h3⟩
theorem own_set {w : World} {b size n g : Nat} {e : TypeId} {v : Value} {xs : List Value} (h : w.ownsRow b e size v n xs) (hne : ∀ k, v.ownBlock = some k → k ≠ g) (o : Nat) (u : Value) : (w.setCell ⟨g, o, none⟩ u).ownsRow b e size v n xs :=
  (Upd.set (F := fun k => k = g) w (a := ⟨g, o, none⟩) rfl u).own h fun k hk hf => hne k hk hf
theorem own_slice {w : World} {b size n : Nat} {e : TypeId} {v : Value} {xs : List Value} (h : w.ownsRow b e size v n xs) : ∃ A c, v = .slice A n c := by
  rcases h.2 with ⟨rfl, rfl⟩ | ⟨g, cap, cur, rfl, _⟩
  · exact ⟨_, _, rfl⟩
  · exact ⟨_, _, rfl⟩
theorem dlist_len {α : Type} (d : List UInt8 → Option (α × List UInt8)) (hd : ∀ l a r, d l = some (a, r) → r.length ≤ l.length) : ∀ (n : Nat) (l : List UInt8) (al : List α) (r : List UInt8), dlist d n l = some (al, r) → r.length ≤ l.length
  | 0, l, al, r, h => by
    unfold dlist at h
    injection h with h
    injection h with _ h
    rw [h]; exact Nat.le_refl _
  | n + 1, l, al, r, h => by
    rw [dlist_snoc] at h
    cases h1 : d l with
    | none => rw [h1] at h; cases h
    | some x =>
      rw [h1] at h
      simp only [Option.bind_some] at h
      cases h2 : dlist d n x.2 with
      | none => rw [h2] at h; cases h
      | some y =>
        rw [h2] at h
        simp only [Option.map_some] at h
        injection h with h
        injection h with _ h
        have h3 := dlist_len d hd n x.2 y.1 y.2 h2
        have h4 := hd l x.1 x.2 h1
        rw [← h]; omega
theorem dint_len {l r : List UInt8} {n : Int} (h : dint l = some (n, r)) : r.length ≤ l.length := by
  unfold dint at h
  cases hd : dnum 0 0 l with
  | none => rw [hd] at h; cases h
  | some x =>
    rw [hd] at h
    obtain ⟨a, b⟩ := x
    simp only [Option.map_some] at h
    injection h with h
    injection h with _ h
    have h5 : b = r := h
    have := dnum_le l 0 0 a b hd
    rw [← h5]; omega
theorem dsmall_len {l r : List UInt8} {n : Int} (h : dsmall l = some (n, r)) : r.length ≤ l.length := by
  unfold dsmall at h
  cases hd : dint l with
  | none => rw [hd] at h; cases h
  | some x =>
    rw [hd] at h
    simp only [Option.bind_some] at h
    split at h
    · injection h with h
      subst h
      exact dint_len hd
    · cases h
theorem dalarm_len (l : List UInt8) (a : AlarmD) (r : List UInt8) (h : dalarm l = some (a, r)) : r.length ≤ l.length := by
  unfold dalarm at h
  cases h1 : dsmall l with
  | none => rw [h1] at h; cases h
  | some x =>
    rw [h1] at h
    simp only [Option.bind_some] at h
    cases h2 : dsmall x.2 with
    | none => rw [h2] at h; cases h
    | some y =>
      rw [h2] at h
      simp only [Option.map_some] at h
      injection h with h
      injection h with _ h
      have h3 : y.2.length ≤ x.2.length := dsmall_len (n := y.1) h2
      have h4 : x.2.length ≤ l.length := dsmall_len (n := x.1) h1
      rw [← h]; omega
theorem dalarms_len {l r : List UInt8} {al : List AlarmD} (h : dalarms l = some (al, r)) : r.length ≤ l.length := by
  unfold dalarms at h
  cases h1 : dcount l with
  | none => rw [h1] at h; cases h
  | some x =>
    rw [h1] at h
    simp only [Option.bind_some] at h
    have h2 := dlist_len dalarm dalarm_len _ _ _ _ h
    have h3 := (dcount_len (n := x.1) (r := x.2) h1).2
    omega
theorem dbool_len {l r : List UInt8} {b : Bool} (h : dbool l = some (b, r)) : r.length ≤ l.length := by
  cases l with
  | nil => cases h
  | cons c t =>
    have hdb : dbool (c :: t) = if c.toNat ≤ 1 then some (c.toNat == 1, t) else none := rfl
    rw [hdb] at h
    by_cases h1 : c.toNat ≤ 1
    · rw [if_pos h1] at h
      injection h with h
      injection h with _ h
      rw [← h]; simp
    · rw [if_neg h1] at h
      cases h
theorem dival_len {l r : List UInt8} {v : IvalD} (h : dival l = some (v, r)) : r.length ≤ l.length := by
  unfold dival at h
  cases h1 : dbool l with
  | none => rw [h1] at h; cases h
  | some x =>
    rw [h1] at h
    simp only [Option.bind_some] at h
    have h5 : x.2.length ≤ l.length := dbool_len (b := x.1) h1
    split at h
    · cases h2 : dint x.2 with
      | none => rw [h2] at h; cases h
      | some y =>
        rw [h2] at h
        simp only [Option.bind_some] at h
        cases h3 : dint y.2 with
        | none => rw [h3] at h; cases h
        | some z =>
          rw [h3] at h
          simp only [Option.map_some] at h
          injection h with h
          injection h with _ h
          have h6 : y.2.length ≤ x.2.length := dint_len (n := y.1) h2
          have h7 : z.2.length ≤ y.2.length := dint_len (n := z.1) h3
          rw [← h]; omega
    · injection h with h
      injection h with _ h
      rw [← h]; exact h5

set_option maxRecDepth 100000 in
set_option maxHeartbeats 3200000 in
theorem rsummary_any (D p : Nat) (l : List UInt8) (w : World) (hR : Rd w D p l false) (hl : l.length ≤ 4294967296) :
    Calls Try.prog 56 #[.pointer (some ⟨p, 0, none⟩)] w fun e w' => ToldP D p w (fun v w' s => SumAt w' w.heap.size v s) (dsum l) e w' := by
  have hlt := hR.lt
  obtain ⟨w1, hw1⟩ : ∃ w1, w1 = w.alloc (.cells #[.slice none 0 0, .bool false, .bool false, .int .i64 0, .int .i64 0, .slice none 0 0] 35) := ⟨_, rfl⟩
  obtain ⟨g, hg⟩ : ∃ g, g = w.heap.size := ⟨_, rfl⟩
  have hbx1 : w1.heap[g]? = some (.cells #[.slice none 0 0, .bool false, .bool false, .int .i64 0, .int .i64 0, .slice none 0 0] 35) := by rw [hw1, hg]; exact heap_new _ _
  have hR1 : Rd w1 D p l false := by rw [hw1]; exact hR.alloc _
  have hU1 : Upd (At p) w w1 := by rw [hw1]; exact .alloc _ _ _
  have hs1 : g < w1.heap.size := (Array.getElem?_eq_some_iff.1 hbx1).1
  have hgp : p < g := by omega
  have hds : dsum l = (dalarms l).bind fun a => (dbool a.2).bind fun b => (dival b.2).bind fun c => (dmod c.2).map fun d => (⟨a.1, b.1, c.1, d.1⟩, d.2) := rfl
  clear hR
  replace hU1 := hide hU1
  replace hs1 := hide hs1
  replace hgp := hide hgp
  replace hlt := hide hlt
  replace hw1 := hw1.symm
  have hgs := hg.symm
  replace hg := hide hg
  have hfail : ∀ w2 r, Upd (At p) w1 w2 → Rd w2 D p r false → dsum l = none → ∀ pv, ToldP D p w (fun v w' s => SumAt w' w.heap.size v s) (dsum l) (.panicked [{ v := .iface 108 pv, recovered := false }]) w2 := by
    intro w2 r hU hR hn pv
    rw [hn]
    exact ⟨hU1.out.then hU, ⟨_, rfl⟩, _, hR⟩
  replace hfail := hide hfail
  replace hR1 := hide hR1
  replace hbx1 := hide hbx1
  go_enter Try.func56, Try.ntmps56
  go_wp2_with fail
  refine (alarms_any D p l w1 hR1.out hl).mono ?_
  intro e w2 ht
  obtain ⟨hU2, ⟨al, r2, va, hb2, rfl, hva, hR2⟩ | ⟨hb2, ⟨pv, rfl⟩, r2, hR2⟩⟩ := ht.cases
  · rw [hb2] at hds
    simp only [Option.bind_some] at hds
    have hl2 := dalarms_len hb2
    have hbx2 := hide (hU2.heap hbx1.out (Nat.ne_of_gt hgp.out))
    obtain ⟨Aa, ca, rfl⟩ := own_slice hva
    replace hU2 := hide hU2
    replace hva := hide hva
    clear ht hb2 hbx1 hR1
    go_wp2_with fail
    refine (truth_any D p r2 w2 hR2).mono ?_
    intro e w3 ht
    obtain ⟨hU3, ⟨ends, r3, hb3, rfl, hR3⟩ | ⟨hb3, ⟨pv, rfl⟩, r3, hR3⟩⟩ := ht.cases
    · rw [hb3] at hds
      simp only [Option.bind_some] at hds
      have hl3 := dbool_len hb3
      have hbx3 := hide (hU3.heap hbx2.out (Nat.ne_of_gt hgp.out))
      have hva3 := hide (hU3.own hva.out fun k hk hf => by have := (World.ownsRow.lt hva.out k hk).1; have := hgp.out; have := hs1.out; have : k = p := hf; omega)
      replace hU3 := hide (hU2.out.then hU3)
      clear ht hb3 hbx2 hva hR2 hU2
      go_wp2_with fail
      refine (interval_any D p r3 w3 hR3).mono ?_
      intro e w4 ht
      obtain ⟨hU4, ⟨⟨sm, lo, hi⟩, r4, hb4, rfl, hR4⟩ | ⟨hb4, ⟨pv, rfl⟩, r4, hR4⟩⟩ := ht.cases
      · rw [hb4] at hds
        simp only [Option.bind_some] at hds
        have hl4 := dival_len hb4
        have hbx4 := hide (hU4.heap hbx3.out (Nat.ne_of_gt hgp.out))
        have hva4 := hide (hU4.own hva3.out fun k hk hf => by have := (World.ownsRow.lt hva3.out k hk).1; have := hgp.out; have := hs1.out; have : k = p := hf; omega)
        replace hU4 := hide (hU3.out.then hU4)
        clear ht hb4 hbx3 hva3 hR3 hU3
        unfold ivalV
        go_wp2_with fail
        refine (cells_any D p r4 w4 hR4 (by omega)).mono ?_
        intro e w5 ht
        obtain ⟨hU5, ⟨md, r5, vm, hb5, rfl, hvm, hR5⟩ | ⟨hb5, ⟨pv, rfl⟩, r5, hR5⟩⟩ := ht.cases
        · rw [hb5] at hds
          simp only [Option.map_some] at hds
          have hbx5 := hU5.heap hbx4.out (Nat.ne_of_gt hgp.out)
          have hva5 := hide (hU5.own hva4.out fun k hk hf => by have := (World.ownsRow.lt hva4.out k hk).1; have := hgp.out; have := hs1.out; have : k = p := hf; omega)
          obtain ⟨Am, cm, rfl⟩ := own_slice hvm
          have hvm5 := hide hvm
          have hs4 := hide (hU4.out.size)
          replace hU5 := hide (hU1.out.then (hU4.out.then hU5))
          clear ht hb5 hbx4 hva4 hR4 hU4 hvm
          have hc0 : w5.cell? ⟨g, 0, none⟩ = some (.slice none 0 0) := by rw [cell_at hbx5]; rfl
          have hc1 : w5.cell? ⟨g, 1, none⟩ = some (.bool false) := by rw [cell_at hbx5]; rfl
          have hc2 : w5.cell? ⟨g, 2, none⟩ = some (.bool false) := by rw [cell_at hbx5]; rfl
          have hc3 : w5.cell? ⟨g, 3, none⟩ = some (.int .i64 0) := by rw [cell_at hbx5]; rfl
          have hc4 : w5.cell? ⟨g, 4, none⟩ = some (.int .i64 0) := by rw [cell_at hbx5]; rfl
          have hc5 : w5.cell? ⟨g, 5, none⟩ = some (.slice none 0 0) := by rw [cell_at hbx5]; rfl
          have hf0 := frozen_at hbx5 0
          have hf1 := frozen_at hbx5 1
          have hf2 := frozen_at hbx5 2
          have hf3 := frozen_at hbx5 3
          have hf4 := frozen_at hbx5 4
          have hf5 := frozen_at hbx5 5
          replace hbx5 := hide hbx5
          replace hds := hide hds
          replace hR5 := hide hR5
          go_wp2_with fail
          refine bodyPost_ret (v := .agg #[.slice Aa al.length ca, .bool ends, .bool sm, .int .i64 lo, .int .i64 hi, .slice Am md.length cm]) (by simp [results, Try.results56, go_sem, hc0, hc1, hc2, hc3, hc4, hc5]) rfl ?_
          have hgw : w.heap.size ≤ g := by have := hg.out; omega
          rw [hds.out]
          refine ⟨(((((hU5.out.setNew (a := ⟨g, 0, none⟩) hgw _).setNew (a := ⟨g, 1, none⟩) hgw _).setNew (a := ⟨g, 2, none⟩) hgw _).setNew (a := ⟨g, 3, none⟩) hgw _).setNew (a := ⟨g, 4, none⟩) hgw _).setNew (a := ⟨g, 5, none⟩) hgw _, ⟨_, rfl, _, _, rfl, ?_, ?_⟩, (((((hR5.out.setFar hgp.out _).setFar hgp.out _).setFar hgp.out _).setFar hgp.out _).setFar hgp.out _).setFar hgp.out _⟩
          · have hne : ∀ k, Value.ownBlock (.slice Aa al.length ca) = some k → k ≠ g := fun k hk e => by have := (World.ownsRow.lt hva5.out k hk).1; have := hs1.out; omega
            exact ownsRow_base (own_set (own_set (own_set (own_set (own_set (own_set hva5.out hne _ _) hne _ _) hne _ _) hne _ _) hne _ _) hne _ _) (by have := hs1.out; omega)
          · have hne : ∀ k, Value.ownBlock (.slice Am md.length cm) = some k → k ≠ g := fun k hk e => by have := (World.ownsRow.lt hvm5.out k hk).1; have := hs4.out; have := hs1.out; omega
            exact ownsRow_base (own_set (own_set (own_set (own_set (own_set (own_set hvm5.out hne _ _) hne _ _) hne _ _) hne _ _) hne _ _) hne _ _) (by have := hs1.out; have := hs4.out; omega)
        · rw [hb5] at hds
          clear ht hb5
          go_wp2_with fail
          exact ⟨rfl, hfail.out _ _ (hU4.out.then hU5) hR5 hds pv⟩
      · rw [hb4] at hds
        clear ht hb4
        go_wp2_with fail
        exact ⟨rfl, hfail.out _ _ (hU3.out.then hU4) hR4 hds pv⟩
    · rw [hb3] at hds
      clear ht hb3
      go_wp2_with fail
      exact ⟨rfl, hfail.out _ _ (hU2.out.then hU3) hR3 hds pv⟩
  · rw [hb2] at hds
    clear ht hb2
    go_wp2_with fail
    exact ⟨rfl, hfail.out _ _ hU2 hR2 hds pv⟩
end Go.Proofs.Ytajpgkedlajjdaa
