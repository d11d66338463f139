/- Walks of the reader of summaries. -/
import Derived.Test.YtajpgkedlajjdaaLight
namespace Go.Proofs.Ytajpgkedlajjdaa
open Go.RowKit

def dsmall (l : List UInt8) : Option (Int × List UInt8) := (dint l).bind fun x => if -2147483648 ≤ x.1 ∧ x.1 ≤ 2147483647 then some x else none
def dival (l : List UInt8) : Option (IvalD × List UInt8) := (dbool l).bind fun x => if x.1 = true then (dint x.2).bind fun y => (dint y.2).map fun z => (⟨true, y.1, z.1⟩, z.2) else some (⟨false, 0, 0⟩, x.2)
def dlist {α : Type} (d : List UInt8 → Option (α × List UInt8)) : Nat → List UInt8 → Option (List α × List UInt8)
  | 0, l => some ([], l)
  | n + 1, l => (d l).bind fun x => (dlist d n x.2).map fun y => (x.1 :: y.1, y.2)
def dalarm (l : List UInt8) : Option (AlarmD × List UInt8) := (dsmall l).bind fun x => (dsmall x.2).map fun y => (⟨x.1, y.1⟩, y.2)
def dalarms (l : List UInt8) : Option (List AlarmD × List UInt8) := (dcount l).bind fun x => dlist dalarm x.1 x.2
def dnamed (l : List UInt8) : Option (NamedD × List UInt8) := (dtext l).bind fun x => (dival x.2).map fun y => (⟨x.1, y.1⟩, y.2)
def dmod (l : List UInt8) : Option (List NamedD × List UInt8) := (dcount l).bind fun x => dlist dnamed x.1 x.2
def dsum (l : List UInt8) : Option (SumD × List UInt8) := (dalarms l).bind fun a => (dbool a.2).bind fun b => (dival b.2).bind fun c => (dmod c.2).map fun d => (⟨a.1, b.1, c.1, d.1⟩, d.2)

/-- What a decoding method comes to, whose value may lie in new memory. -/
def ToldP {α : Type} (D p : Nat) (w : World) (R : Value → World → α → Prop) (o : Option (α × List UInt8)) (e : Ending) (w' : World) : Prop :=
  Upd (At p) w w' ∧ (match o with
    | some (a, r) => (∃ v, e = .returned v ∧ R v w' a) ∧ Rd w' D p r false
    | none => (∃ pv, e = .panicked [{ v := .iface 108 pv, recovered := false }]) ∧ ∃ r, Rd w' D p r false)
def ivalV (v : IvalD) : Value := .agg #[.bool v.some, .int .i64 v.lo, .int .i64 v.hi]

set_option maxRecDepth 100000 in
theorem small_any (D p : Nat) (l : List UInt8) (w : World) (hR : Rd w D p l false) :
    Calls Try.prog 76 #[.pointer (some ⟨p, 0, none⟩)] w fun e w' => Told D p w i64v (dsmall l) e w' := by
  have hN := signed_any D p l w hR
  cases hd : dint l with
  | none =>
    rw [hd] at hN
    replace hd := hide hd
    go_enter Try.func76, Try.ntmps76
    go_wp2_with fail
    refine hN.mono ?_
    rintro e w2 ⟨hU, ⟨pv, rfl⟩, r, hR2⟩
    go_wp2_with fail
    refine ⟨rfl, ?_⟩
    unfold dsmall
    rw [hd.out]
    exact ⟨hU, ⟨_, rfl⟩, _, hR2⟩
  | some x =>
    obtain ⟨n, r⟩ := x
    rw [hd] at hN
    have hds : dsmall l = if -2147483648 ≤ n ∧ n ≤ 2147483647 then some (n, r) else none := by unfold dsmall; rw [hd]; rfl
    replace hds := hide hds
    clear hd
    by_cases h1 : -2147483648 ≤ n
    · by_cases h2 : n ≤ 2147483647
      · go_enter Try.func76, Try.ntmps76
        go_wp2_with fail
        refine hN.mono ?_
        rintro e w2 ⟨hU, rfl, hR2⟩
        unfold i64v
        go_wp2_with fail
        refine (need_any _ _).mono ?_
        rintro e w' ⟨rfl, h, -⟩
        obtain rfl := h (by simp; try omega)
        go_wp2_with fail
        go_ret
        rw [hds.out, if_pos ⟨h1, h2⟩]
        exact ⟨hU, rfl, hR2⟩
      · go_enter Try.func76, Try.ntmps76
        go_wp2_with fail
        refine hN.mono ?_
        rintro e w2 ⟨hU, rfl, hR2⟩
        unfold i64v
        go_wp2_with fail
        refine (need_any _ _).mono ?_
        rintro e w' ⟨rfl, -, h⟩
        obtain ⟨pv, rfl⟩ := h (by simp; try omega)
        go_wp2_with fail
        refine ⟨rfl, ?_⟩
        rw [hds.out, if_neg (fun h => by omega)]
        exact ⟨hU, ⟨_, rfl⟩, _, hR2⟩
    · go_enter Try.func76, Try.ntmps76
      go_wp2_with fail
      refine hN.mono ?_
      rintro e w2 ⟨hU, rfl, hR2⟩
      unfold i64v
      go_wp2_with fail
      refine (need_any _ _).mono ?_
      rintro e w' ⟨rfl, -, h⟩
      obtain ⟨pv, rfl⟩ := h (by simp; try omega)
      go_wp2_with fail
      refine ⟨rfl, ?_⟩
      rw [hds.out, if_neg (fun h => by omega)]
      exact ⟨hU, ⟨_, rfl⟩, _, hR2⟩

theorem Upd.setNew {F : Nat → Prop} {w w' : World} (h : Upd F w w') {a : Addr} (ha : w.heap.size ≤ a.block) (u : Value) : Upd F w (w'.setCell a u) :=
  h.trans (Upd.set (F := fun k => k = a.block) w' rfl u) fun k hk e => by omega
theorem Rd.setFar {w : World} {D p g o : Nat} {l : List UInt8} {bad : Bool} (h : Rd w D p l bad) (hg : p < g) (u : Value) : Rd (w.setCell ⟨g, o, none⟩ u) D p l bad :=
  h.upd (Upd.set (F := fun k => k = g) w (a := ⟨g, o, none⟩) rfl u) (by omega) fun k hk e => by have := h.1; omega
theorem Told.cases {α : Type} {D p : Nat} {w : World} {f : α → Value} {o : Option (α × List UInt8)} {e : Ending} {w' : World} (h : Told D p w f o e w') :
    Upd (At p) w w' ∧ ((∃ a r, o = some (a, r) ∧ e = .returned (f a) ∧ Rd w' D p r false) ∨ (o = none ∧ (∃ pv, e = .panicked [{ v := .iface 108 pv, recovered := false }]) ∧ ∃ r, Rd w' D p r false)) := by
  refine ⟨h.1, ?_⟩
  cases o with
  | none => exact .inr ⟨rfl, h.2⟩
  | some x => exact .inl ⟨x.1, x.2, rfl, h.2.1, h.2.2⟩

set_option maxRecDepth 100000 in
set_option maxHeartbeats 1600000 in
theorem interval_any (D p : Nat) (l : List UInt8) (w : World) (hR : Rd w D p l false) :
    Calls Try.prog 73 #[.pointer (some ⟨p, 0, none⟩)] w fun e w' => Told D p w ivalV (dival l) e w' := by
  have hlt := hide hR.lt
  replace hR := hide (hR.alloc (.cells #[.bool false, .int .i64 0, .int .i64 0] 32))
  have hU0 := hide (Upd.alloc (At p) w (.cells #[.bool false, .int .i64 0, .int .i64 0] 32))
  go_enter Try.func73, Try.ntmps73
  go_wp2_with fail
  have hbx0 := heap_new w (.cells #[.bool false, .int .i64 0, .int .i64 0] 32)
  have hgp : p < w.heap.size := hlt.out
  have hgw : w.heap.size ≤ w.heap.size := Nat.le_refl _
  generalize w.alloc (.cells #[.bool false, .int .i64 0, .int .i64 0] 32) = w1 at *
  obtain ⟨g, hg⟩ : ∃ g, g = w.heap.size := ⟨_, rfl⟩
  rw [← hg] at hgp hbx0 ⊢
  replace hgw := hide (show w.heap.size ≤ g by omega)
  clear hlt
  replace hg := hide hg
  replace hgp := hide hgp
  refine (truth_any D p l _ hR.out).mono ?_
  intro e w2 ht
  obtain ⟨hU, ⟨b, r, hb, rfl, hR2⟩ | ⟨hb, ⟨pv, rfl⟩, r, hR2⟩⟩ := ht.cases
  · have hbx := hU.heap hbx0 (Nat.ne_of_gt hgp.out)
    replace hU := hide (hU0.out.then hU)
    have hdv : dival l = if b = true then (dint r).bind fun y => (dint y.2).map fun z => (⟨true, y.1, z.1⟩, z.2) else some (⟨false, 0, 0⟩, r) := by unfold dival; rw [hb]; rfl
    clear hb ht
    have hc0 : w2.cell? ⟨g, 0, none⟩ = some (.bool false) := by rw [cell_at hbx]; rfl
    have hc1 : w2.cell? ⟨g, 1, none⟩ = some (.int .i64 0) := by rw [cell_at hbx]; rfl
    have hc2 : w2.cell? ⟨g, 2, none⟩ = some (.int .i64 0) := by rw [cell_at hbx]; rfl
    have hf0 := frozen_at hbx 0
    have hf1 := frozen_at hbx 1
    have hf2 := frozen_at hbx 2
    cases b
    · rw [if_neg (by decide)] at hdv
      replace hdv := hide hdv
      replace hbx := hide hbx
      go_wp2_with fail
      refine bodyPost_ret (v := .agg #[.bool false, .int .i64 0, .int .i64 0]) (by simp [results, Try.results73, go_sem, hc0, hc1, hc2]) rfl ?_
      rw [hdv.out]
      exact ⟨((hU.out.setNew (a := ⟨g, 0, none⟩) hgw.out _).setNew (a := ⟨g, 1, none⟩) hgw.out _).setNew (a := ⟨g, 2, none⟩) hgw.out _, rfl, ((hR2.setFar hgp.out _).setFar hgp.out _).setFar hgp.out _⟩
    · rw [if_pos rfl] at hdv
      clear hc0 hc1 hc2 hf0 hf1 hf2
      replace hbx := hide hbx
      go_wp2_with fail
      refine (signed_any D p r _ hR2).mono ?_
      intro e w3 ht
      obtain ⟨hU3, ⟨lo, r2, hb2, rfl, hR3⟩ | ⟨hb2, ⟨pv, rfl⟩, r2, hR3⟩⟩ := ht.cases
      · rw [hb2] at hdv
        simp only [Option.bind_some] at hdv
        have hbx3 := hide (hU3.heap hbx.out (Nat.ne_of_gt hgp.out))
        replace hU := hide (hU.out.then hU3)
        clear ht hb2 hbx hU3
        unfold i64v
        go_wp2_with fail
        refine (signed_any D p r2 _ hR3).mono ?_
        intro e w4 ht
        obtain ⟨hU4, ⟨hi, r3, hb3, rfl, hR4⟩ | ⟨hb3, ⟨pv, rfl⟩, r3, hR4⟩⟩ := ht.cases
        · rw [hb3] at hdv
          simp only [Option.map_some] at hdv
          have hbx4 := hU4.heap hbx3.out (Nat.ne_of_gt hgp.out)
          replace hU := hide (hU.out.then hU4)
          clear ht hb3 hbx3 hU4
          have hc0 : w4.cell? ⟨g, 0, none⟩ = some (.bool false) := by rw [cell_at hbx4]; rfl
          have hc1 : w4.cell? ⟨g, 1, none⟩ = some (.int .i64 0) := by rw [cell_at hbx4]; rfl
          have hc2 : w4.cell? ⟨g, 2, none⟩ = some (.int .i64 0) := by rw [cell_at hbx4]; rfl
          have hf0 := frozen_at hbx4 0
          have hf1 := frozen_at hbx4 1
          have hf2 := frozen_at hbx4 2
          replace hdv := hide hdv
          replace hbx4 := hide hbx4
          unfold i64v
          go_wp2_with fail
          refine bodyPost_ret (v := .agg #[.bool true, .int .i64 lo, .int .i64 hi]) (by simp [results, Try.results73, go_sem, hc0, hc1, hc2]) rfl ?_
          rw [hdv.out]
          exact ⟨((hU.out.setNew (a := ⟨g, 0, none⟩) hgw.out _).setNew (a := ⟨g, 1, none⟩) hgw.out _).setNew (a := ⟨g, 2, none⟩) hgw.out _, rfl, ((hR4.setFar hgp.out _).setFar hgp.out _).setFar hgp.out _⟩
        · rw [hb3] at hdv
          replace hU := hide (hU.out.then hU4)
          clear ht hb3 hbx3
          replace hdv := hide hdv
          go_wp2_with fail
          refine ⟨rfl, ?_⟩
          rw [hdv.out]
          exact ⟨hU.out, ⟨_, rfl⟩, _, hR4⟩
      · rw [hb2] at hdv
        replace hU := hide (hU.out.then hU3)
        clear ht hb2
        replace hdv := hide hdv
        go_wp2_with fail
        refine ⟨rfl, ?_⟩
        rw [hdv.out]
        exact ⟨hU.out, ⟨_, rfl⟩, _, hR3⟩
  · replace hU := hide (hU0.out.then hU)
    go_wp2_with fail
    refine ⟨rfl, ?_⟩
    unfold dival
    rw [hb]
    exact ⟨hU.out, ⟨_, rfl⟩, _, hR2⟩

theorem dlist_snoc {α : Type} (d : List UInt8 → Option (α × List UInt8)) : ∀ (n : Nat) (l : List UInt8), dlist d (n + 1) l = (d l).bind fun x => (dlist d n x.2).map fun y => (x.1 :: y.1, y.2) := fun _ _ => rfl
theorem Rd.blk {w : World} {D p : Nat} {l : List UInt8} {bad : Bool} (h : Rd w D p l bad) : ∃ v, w.heap[p]? = some (.cells #[v, .bool bad] 87) := by
  obtain ⟨_, v, h, _⟩ := h
  exact ⟨v, h⟩
theorem Rd.len {w : World} {D p : Nat} {l : List UInt8} {bad : Bool} (h : Rd w D p l bad) : l.length ≤ maxLen := by
  obtain ⟨_, v, _, A, c, _, h1, h2, _⟩ := h
  exact Nat.le_trans h1 h2
theorem dnum_le : ∀ (l : List UInt8) (i acc n : Nat) (r : List UInt8), dnum i acc l = some (n, r) → r.length < l.length
  | [], _, _, _, _, h => by simp [dnum] at h
  | c :: t, i, acc, n, r, h => by
    rw [dnum] at h
    split at h
    · cases h
    · split at h
      · have := dnum_le t _ _ n r h
        simp only [List.length_cons]; omega
      · split at h
        · cases h
        · injection h with h
          injection h with h1 h2
          subst h2
          simp
theorem dcount_len {l r : List UInt8} {n : Nat} (h : dcount l = some (n, r)) : n ≤ r.length ∧ r.length < l.length := by
  refine ⟨dcount_le h, ?_⟩
  unfold dcount at h
  cases hd : dnum 0 0 l with
  | none => rw [hd] at h; cases h
  | some x =>
    rw [hd] at h
    simp only [Option.bind_some] at h
    split at h
    · injection h with h
      obtain ⟨a, b⟩ := x
      injection h with h1 h2
      subst h2
      exact dnum_le l 0 0 a b hd
    · cases h
theorem two_cells {w : World} {g : Nat} {V V2 : Value} (h : w.cell? ⟨g, 0, none⟩ = some V) (h2 : w.cell? ⟨g, 1, none⟩ = some V2) : ∀ j u, [V, V2][j]? = some u → w.cell? ((⟨g, 0, none⟩ : Addr).add j) = some u := by
  intro j u hj
  match j, hj with
  | 0, hj =>
    have : V = u := by simpa using hj
    subst this
    exact h
  | 1, hj =>
    have : V2 = u := by simpa using hj
    subst this
    exact h2
theorem four_cells {w : World} {g : Nat} {V V2 V3 V4 : Value} (h : w.cell? ⟨g, 0, none⟩ = some V) (h2 : w.cell? ⟨g, 1, none⟩ = some V2) (h3 : w.cell? ⟨g, 2, none⟩ = some V3) (h4 : w.cell? ⟨g, 3, none⟩ = some V4) : ∀ j u, [V, V2, V3, V4][j]? = some u → w.cell? ((⟨g, 0, none⟩ : Addr).add j) = some u := by
  intro j u hj
  match j, hj with
  | 0, hj =>
    have : V = u := by simpa using hj
    subst this
    exact h
  | 1, hj =>
    have : V2 = u := by simpa using hj
    subst this
    exact h2
  | 2, hj =>
    have : V3 = u := by simpa using hj
    subst this
    exact h3
  | 3, hj =>
    have : V4 = u := by simpa using hj
    subst this
    exact h4
theorem alarm_info : (Try.prog.info? 62).map (fun i => (i.zero, i.size, i.bytes)) = some (some (.agg #[.int .i64 0, .int .i64 0]), 2, 16) := by kernel_rfl
theorem named_info : (Try.prog.info? 94).map (fun i => (i.zero, i.size, i.bytes)) = some (some (.agg #[.string .empty, .bool false, .int .i64 0, .int .i64 0]), 4, 40) := by kernel_rfl

set_option maxRecDepth 100000 in
set_option maxHeartbeats 3200000 in
theorem alarms_any (D p : Nat) (l : List UInt8) (w : World) (hR : Rd w D p l false) (hl : l.length ≤ 4294967296) :
    Calls Try.prog 72 #[.pointer (some ⟨p, 0, none⟩)] w fun e w' => ToldP D p w (fun v w' al => w'.ownsRow w.heap.size 62 2 v al.length (al.map AlarmD.cells).flatten) (dalarms l) e w' := by
  have hN := hide (count_any D p l w hR)
  have hlt := hide hR.lt
  obtain ⟨i0, hi, hz0, hz1, hz2⟩ := info_parts alarm_info
  replace hi := hide hi
  replace hz0 := hide hz0
  replace hz1 := hide hz1
  replace hz2 := hide hz2
  clear hR
  go_enter Try.func72, Try.ntmps72
  go_wp2_with fail
  refine hN.out.mono ?_
  intro e w2 ht
  obtain ⟨hU, ⟨n, r, hb, rfl, hR2⟩ | ⟨hb, ⟨pv, rfl⟩, r, hR2⟩⟩ := ht.cases
  · have hnl := dcount_len hb
    have hn32 : n ≤ 4294967296 := by omega
    have hda : dalarms l = dlist dalarm n r := by unfold dalarms; rw [hb]; rfl
    replace hda := hide hda
    replace hU := hide hU
    replace hR2 := hide hR2
    clear ht hb hnl
    unfold intv
    go_wp2_with fail
    go_loopw [3, 6] (fun v i wr => ∃ (k : Nat) (al : List AlarmD) (l' : List UInt8) (A1 : Option Addr) (c1 : Nat), k ≤ n ∧ al.length = k ∧ v = .slice A1 k c1 ∧ i = .int .i64 k ∧ Upd (At p) w wr ∧ Rd wr D p l' false ∧ wr.ownsRow w.heap.size 62 2 (.slice A1 k c1) k (al.map AlarmD.cells).flatten ∧ dlist dalarm n r = (dlist dalarm (n - k) l').map fun y => (al ++ y.1, y.2)) (fun _ i _ => n - (intOf i).toNat)
    case atStart => exact ⟨0, [], r, none, 0, Nat.zero_le _, rfl, rfl, rfl, hU.out, hR2.out, World.ownsRow_nil _ _ _ _, by cases dlist dalarm n r <;> simp⟩
    case round =>
      clear hU hR2
      obtain ⟨k, al, l', A1, c1, hk, hal, rfl, rfl, hU, hR, hO, hE⟩ := hrel
      replace hal := hide hal
      replace hU := hide hU
      replace hO := hide hO
      by_cases hlt2 : k < n
      · rw [show n - k = (n - (k + 1)) + 1 by omega, dlist_snoc] at hE
        have hda1 : dalarm l' = (dsmall l').bind fun x => (dsmall x.2).map fun y => (⟨x.1, y.1⟩, y.2) := rfl
        have hfarp : ∀ g, Value.ownBlock (.slice A1 k c1) = some g → w.heap.size ≤ g := fun g hg => (World.ownsRow.lt hO.out g hg).1
        replace hfarp := hide hfarp
        go_wp2_with fail
        refine (small_any D p l' _ hR).mono ?_
        intro e w3 ht
        obtain ⟨hU3, ⟨lo, r3, hb3, rfl, hR3⟩ | ⟨hb3, ⟨pv, rfl⟩, r3, hR3⟩⟩ := ht.cases
        · rw [hb3] at hda1
          simp only [Option.bind_some] at hda1
          have hO3 := hide (hU3.own hO.out fun g hg e => by have := hfarp.out g hg; have := hlt.out; have : g = p := e; omega)
          replace hU3 := hide (hU.out.then hU3)
          clear ht hb3 hR
          unfold i64v
          go_wp2_with fail
          refine (small_any D p r3 _ hR3).mono ?_
          intro e w4 ht
          obtain ⟨hU4, ⟨hi2, r4, hb4, rfl, hR4⟩ | ⟨hb4, ⟨pv, rfl⟩, r4, hR4⟩⟩ := ht.cases
          · rw [hb4] at hda1
            simp only [Option.map_some] at hda1
            rw [hda1] at hE
            simp only [Option.bind_some] at hE
            have hO4 := hide (hU4.own hO3.out fun g hg e => by have := hfarp.out g hg; have := hlt.out; have : g = p := e; omega)
            replace hU4 := hide (hU3.out.then hU4)
            replace hR4 := hide hR4
            replace hE := hide hE
            clear ht hb4 hR3 hda1
            unfold i64v
            go_wp2_with (
              at_builtin
              refine wpList_append_own _ rfl (.tmp 8) (.tmp 14) 30 rfl w.heap.size 62 i0 (.agg #[.int .i64 0, .int .i64 0]) 2 16 Try.underlying30 hi.out hz0.out hz1.out hz2.out rfl (by decide) (.slice A1 k c1) k ((al.map AlarmD.cells).flatten) rfl ?_ ⟨w4.heap.size, 0, none⟩ 1 1 [.int .i64 lo, .int .i64 hi2] rfl rfl (two_cells ?_ ?_) ?_ ?_ ?_ ?_ ?_
              · exact hO4.out.alloc _
              · simp [go_sem]; done
              · simp [go_sem]; done
              · simp [Value.oneCell']
              · unfold maxLen; omega
              · omega
              · exact Nat.le_trans hU4.out.size (by simp)
              intro ve' w5 he5 hg5 hnn5
              obtain ⟨A5, c5, rfl⟩ : ∃ A c, ve' = .slice A (k + 1) c := by
                rcases he5.2 with ⟨_, h⟩ | ⟨g, cap, cur, h, _⟩
                · omega
                · exact ⟨_, _, h⟩)
            go_roundw
            case rel =>
              refine ⟨k + 1, al ++ [⟨lo, hi2⟩], r4, A5, c5, by omega, by simp [hal.out], rfl, by go_num, ?_, ?_, ?_, ?_⟩
              · exact (hU4.out.then (.alloc _ _ _)).trans (.grown (F := fun g => Value.ownBlock (.slice A1 k c1) = some g) hg5 fun g hg => hg) fun g hg hf => by have := hfarp.out g hf; omega
              · refine (hR4.out.alloc _).upd (.grown (F := fun g => Value.ownBlock (.slice A1 k c1) = some g) hg5 fun g hg => hg) (fun hf => ?_) fun g hg hf => ?_
                · have := hfarp.out p hf; have := hlt.out; omega
                · have := hfarp.out g hf; have := hlt.out; have := hR4.out.1; omega
              · have e5 : ((al ++ [(⟨lo, hi2⟩ : AlarmD)]).map AlarmD.cells).flatten = (al.map AlarmD.cells).flatten ++ [.int .i64 lo, .int .i64 hi2] := by simp [AlarmD.cells]
                rw [e5]; exact he5
              · rw [hE.out, Option.map_map]
                congr 1
                funext y
                simp
            case measure => simp [intOf]; omega
          · rw [hb4] at hda1
            simp only [Option.map_none] at hda1
            rw [hda1] at hE
            simp only [Option.bind_none, Option.map_none] at hE
            replace hU4 := hide (hU3.out.then hU4)
            replace hE := hide hE
            clear ht hb4 hda1
            go_wp2_with fail
            refine ⟨rfl, ?_⟩
            rw [hda.out, hE.out]
            exact ⟨hU4.out, ⟨_, rfl⟩, _, hR4⟩
        · rw [hb3] at hda1
          simp only [Option.bind_none] at hda1
          rw [hda1] at hE
          simp only [Option.bind_none, Option.map_none] at hE
          replace hU3 := hide (hU.out.then hU3)
          replace hE := hide hE
          clear ht hb3 hda1
          go_wp2_with fail
          refine ⟨rfl, ?_⟩
          rw [hda.out, hE.out]
          exact ⟨hU3.out, ⟨_, rfl⟩, _, hR3⟩
      · obtain rfl : k = n := by omega
        rw [Nat.sub_self] at hE
        have hE2 : dlist dalarm k r = some (al, l') := by rw [hE]; simp [dlist]
        replace hE2 := hide hE2
        replace hR := hide hR
        clear hE
        go_wp2_with fail
        go_ret
        rw [hda.out, hE2.out]
        obtain rfl := hal.out
        exact ⟨hU.out, ⟨_, rfl, hO.out⟩, hR.out⟩
  · replace hU := hide hU
    go_wp2_with fail
    refine ⟨rfl, ?_⟩
    unfold dalarms
    rw [hb]
    exact ⟨hU.out, ⟨_, rfl⟩, _, hR2⟩
set_option maxRecDepth 100000 in
set_option maxHeartbeats 3200000 in
theorem cells_any (D p : Nat) (l : List UInt8) (w : World) (hR : Rd w D p l false) (hl : l.length ≤ 4294967296) :
    Calls Try.prog 74 #[.pointer (some ⟨p, 0, none⟩)] w fun e w' => ToldP D p w (fun v w' al => w'.ownsRow w.heap.size 94 4 v al.length (al.map NamedD.cells).flatten) (dmod l) e w' := by
  have hN := hide (count_any D p l w hR)
  have hlt := hide hR.lt
  obtain ⟨i0, hi, hz0, hz1, hz2⟩ := info_parts named_info
  replace hi := hide hi
  replace hz0 := hide hz0
  replace hz1 := hide hz1
  replace hz2 := hide hz2
  clear hR
  go_enter Try.func74, Try.ntmps74
  go_wp2_with fail
  refine hN.out.mono ?_
  intro e w2 ht
  obtain ⟨hU, ⟨n, r, hb, rfl, hR2⟩ | ⟨hb, ⟨pv, rfl⟩, r, hR2⟩⟩ := ht.cases
  · have hnl := dcount_len hb
    have hn32 : n ≤ 4294967296 := by omega
    have hda : dmod l = dlist dnamed n r := by unfold dmod; rw [hb]; rfl
    replace hda := hide hda
    replace hU := hide hU
    replace hR2 := hide hR2
    clear ht hb hnl
    unfold intv
    go_wp2_with fail
    go_loopw [3, 6] (fun v i wr => ∃ (k : Nat) (al : List NamedD) (l' : List UInt8) (A1 : Option Addr) (c1 : Nat), k ≤ n ∧ al.length = k ∧ v = .slice A1 k c1 ∧ i = .int .i64 k ∧ Upd (At p) w wr ∧ Rd wr D p l' false ∧ wr.ownsRow w.heap.size 94 4 (.slice A1 k c1) k (al.map NamedD.cells).flatten ∧ dlist dnamed n r = (dlist dnamed (n - k) l').map fun y => (al ++ y.1, y.2)) (fun _ i _ => n - (intOf i).toNat)
    case atStart => exact ⟨0, [], r, none, 0, Nat.zero_le _, rfl, rfl, rfl, hU.out, hR2.out, World.ownsRow_nil _ _ _ _, by cases dlist dnamed n r <;> simp⟩
    case round =>
      clear hU hR2
      obtain ⟨k, al, l', A1, c1, hk, hal, rfl, rfl, hU, hR, hO, hE⟩ := hrel
      replace hal := hide hal
      replace hU := hide hU
      replace hO := hide hO
      by_cases hlt2 : k < n
      · rw [show n - k = (n - (k + 1)) + 1 by omega, dlist_snoc] at hE
        have hda1 : dnamed l' = (dtext l').bind fun x => (dival x.2).map fun y => (⟨x.1, y.1⟩, y.2) := rfl
        have hfarp : ∀ g, Value.ownBlock (.slice A1 k c1) = some g → w.heap.size ≤ g := fun g hg => (World.ownsRow.lt hO.out g hg).1
        replace hfarp := hide hfarp
        go_wp2_with fail
        refine (text_any D p l' _ hR).mono ?_
        intro e w3 ht
        obtain ⟨hU3, ⟨nm, r3, hb3, rfl, hR3⟩ | ⟨hb3, ⟨pv, rfl⟩, r3, hR3⟩⟩ := ht.cases
        · rw [hb3] at hda1
          simp only [Option.bind_some] at hda1
          have hO3 := hide (hU3.own hO.out fun g hg e => by have := hfarp.out g hg; have := hlt.out; have : g = p := e; omega)
          replace hU3 := hide (hU.out.then hU3)
          clear ht hb3 hR
          go_wp2_with fail
          refine (interval_any D p r3 _ hR3).mono ?_
          intro e w4 ht
          obtain ⟨hU4, ⟨⟨sm, lo, hi2⟩, r4, hb4, rfl, hR4⟩ | ⟨hb4, ⟨pv, rfl⟩, r4, hR4⟩⟩ := ht.cases
          · rw [hb4] at hda1
            simp only [Option.map_some] at hda1
            rw [hda1] at hE
            simp only [Option.bind_some] at hE
            have hO4 := hide (hU4.own hO3.out fun g hg e => by have := hfarp.out g hg; have := hlt.out; have : g = p := e; omega)
            replace hU4 := hide (hU3.out.then hU4)
            replace hR4 := hide hR4
            replace hE := hide hE
            clear ht hb4 hR3 hda1
            unfold ivalV
            go_wp2_with (
              at_builtin
              refine wpList_append_own _ rfl (.tmp 8) (.tmp 14) 33 rfl w.heap.size 94 i0 (.agg #[.string .empty, .bool false, .int .i64 0, .int .i64 0]) 4 40 Try.underlying33 hi.out hz0.out hz1.out hz2.out rfl (by decide) (.slice A1 k c1) k ((al.map NamedD.cells).flatten) rfl ?_ ⟨w4.heap.size, 0, none⟩ 1 1 [.string nm, .bool sm, .int .i64 lo, .int .i64 hi2] rfl rfl (four_cells ?_ ?_ ?_ ?_) ?_ ?_ ?_ ?_ ?_
              · exact hO4.out.alloc _
              · simp [go_sem]; done
              · simp [go_sem]; done
              · simp [go_sem]; done
              · simp [go_sem]; done
              · simp [Value.oneCell']
              · unfold maxLen; omega
              · omega
              · exact Nat.le_trans hU4.out.size (by simp)
              intro ve' w5 he5 hg5 hnn5
              obtain ⟨A5, c5, rfl⟩ : ∃ A c, ve' = .slice A (k + 1) c := by
                rcases he5.2 with ⟨_, h⟩ | ⟨g, cap, cur, h, _⟩
                · omega
                · exact ⟨_, _, h⟩)
            go_roundw
            case rel =>
              refine ⟨k + 1, al ++ [⟨nm, ⟨sm, lo, hi2⟩⟩], r4, A5, c5, by omega, by simp [hal.out], rfl, by go_num, ?_, ?_, ?_, ?_⟩
              · exact (hU4.out.then (.alloc _ _ _)).trans (.grown (F := fun g => Value.ownBlock (.slice A1 k c1) = some g) hg5 fun g hg => hg) fun g hg hf => by have := hfarp.out g hf; omega
              · refine (hR4.out.alloc _).upd (.grown (F := fun g => Value.ownBlock (.slice A1 k c1) = some g) hg5 fun g hg => hg) (fun hf => ?_) fun g hg hf => ?_
                · have := hfarp.out p hf; have := hlt.out; omega
                · have := hfarp.out g hf; have := hlt.out; have := hR4.out.1; omega
              · have e5 : ((al ++ [(⟨nm, ⟨sm, lo, hi2⟩⟩ : NamedD)]).map NamedD.cells).flatten = (al.map NamedD.cells).flatten ++ [.string nm, .bool sm, .int .i64 lo, .int .i64 hi2] := by simp [NamedD.cells, IvalD.cells]
                rw [e5]; exact he5
              · rw [hE.out, Option.map_map]
                congr 1
                funext y
                simp
            case measure => simp [intOf]; omega
          · rw [hb4] at hda1
            simp only [Option.map_none] at hda1
            rw [hda1] at hE
            simp only [Option.bind_none, Option.map_none] at hE
            replace hU4 := hide (hU3.out.then hU4)
            replace hE := hide hE
            clear ht hb4 hda1
            go_wp2_with fail
            refine ⟨rfl, ?_⟩
            rw [hda.out, hE.out]
            exact ⟨hU4.out, ⟨_, rfl⟩, _, hR4⟩
        · rw [hb3] at hda1
          simp only [Option.bind_none] at hda1
          rw [hda1] at hE
          simp only [Option.bind_none, Option.map_none] at hE
          replace hU3 := hide (hU.out.then hU3)
          replace hE := hide hE
          clear ht hb3 hda1
          go_wp2_with fail
          refine ⟨rfl, ?_⟩
          rw [hda.out, hE.out]
          exact ⟨hU3.out, ⟨_, rfl⟩, _, hR3⟩
      · obtain rfl : k = n := by omega
        rw [Nat.sub_self] at hE
        have hE2 : dlist dnamed k r = some (al, l') := by rw [hE]; simp [dlist]
        replace hE2 := hide hE2
        replace hR := hide hR
        clear hE
        go_wp2_with fail
        go_ret
        rw [hda.out, hE2.out]
        obtain rfl := hal.out
        exact ⟨hU.out, ⟨_, rfl, hO.out⟩, hR.out⟩
  · replace hU := hide hU
    go_wp2_with fail
    refine ⟨rfl, ?_⟩
    unfold dmod
    rw [hb]
    exact ⟨hU.out, ⟨_, rfl⟩, _, hR2⟩
end Go.Proofs.Ytajpgkedlajjdaa
