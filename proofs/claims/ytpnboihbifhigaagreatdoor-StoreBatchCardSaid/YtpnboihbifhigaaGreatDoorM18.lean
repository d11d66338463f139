/- Part 18 of the walks (merged): Repl, Add, Apply, SizeT, LaySort, KeysT, StrEq. -/
import Derived.Test.YtpnboihbifhigaaGreatDoorM17
import Derived.Maps.RangeWalk
import Derived.Sort.KeysCollected
import Derived.Shelf.Sort.Plain
import Derived.Shelf.Slices.In.SortNone
import Derived.Shelf.Strings.Prefix
import Derived.Test.YtpnboihbifhigaaGreatDoorProg
import Derived.Sort.OwnSorted
import Derived.BigQuiet
/- The store's log: replace and add, whatever the log below does. -/
namespace Go.Proofs.YtpnboihbifhigaaGreatDoor
open Go Go.RowKit
def IntF (v : Value) : Prop := ∃ n : Nat, v = .int .i64 n
/-- Records that stand apart from F. -/
def BatF (F : Nat → Prop) (rs : List (List UInt8)) (v : Value) (w : World) : Prop := ∃ B, (∀ k, B ≤ k → ¬ F k) ∧ BatV w B v rs
theorem BatF.kept {F : Nat → Prop} {rs : List (List UInt8)} : FKept F (BatF F rs) := fun _ _ _ ⟨B, h1, h2⟩ hu => ⟨B, h1, h2.upd hu fun k hk _ => h1 k hk⟩
theorem BatF.of {F : Nat → Prop} {rs : List (List UInt8)} {v : Value} {w : World} {B : Nat} (h : BatV w B v rs) (hF : ∀ k, B ≤ k → ¬ F k) : BatF F rs v w := ⟨B, hF, h⟩
def ResF (Post : Nat → World → Prop) (q lb mb : Nat) (down : Bool) (v : Value) (w : World) : Prop := ∃ n : Nat, v = .int .i64 n ∧ Post n w ∧ StV w q lb mb down
theorem ResF.kept {Post : Nat → World → Prop} {q lb mb : Nat} {down : Bool} (hP : ∀ n w w', Post n w → Below w.heap.size w w' → Post n w') : Kept (ResF Post q lb mb down) := fun _ _ _ ⟨n, e, h1, h2⟩ hb => ⟨n, e, hP _ _ _ h1 hb, h2.upd (.of_below (fun _ => False) hb) id⟩
/-- Told: what the log below answered, and the store's mark of it. -/
def ToldF (Post : Nat → World → Prop) (q lb mb : Nat) (down : Bool) (v : Value) (w : World) : Prop := ∃ (n : Nat) (w1 : World), v = .int .i64 n ∧ Post n w1 ∧ StV w1 q lb mb down ∧ StV w q lb mb (decide (n = 32)) ∧ Upd (fun k => k = q) w1 w
theorem ToldF.kept {Post : Nat → World → Prop} {q lb mb : Nat} {down : Bool} : Kept (ToldF Post q lb mb down) := fun _ _ _ ⟨n, w1, e, h1, h2, h3, h4⟩ hb => ⟨n, w1, e, h1, h2, h3.upd (.of_below (fun _ => False) hb) id, h4.then (.of_below _ hb)⟩
set_option maxRecDepth 100000 in
set_option maxHeartbeats 1000000 in
theorem replace_of {w : World} {q lb mb : Nat} {down : Bool} {S F : Nat → Prop} {v : Value} {ps : List PairD} {P0 : World → Prop} {Post : Nat → World → Prop} (hst : StV w q lb mb down) (hv0 : PrsV w S v ps) (hok : ∀ p ∈ ps, p.ok) (hl : ps.length ≤ 4294967295)
    (hFw : ∀ k, (F k ∨ k = q) → k < w.heap.size) (hFq : ¬ F q) (hSF : ∀ k, S k → ¬ (F k ∨ k = q)) (hp0 : P0 w) (hPS : ∀ w w', (P0 w ∧ StV w q lb mb down) → Below w.heap.size w w' → (P0 w' ∧ StV w' q lb mb down)) (hPk : ∀ n w w', Post n w → Below w.heap.size w w' → Post n w')
    (hR : ∀ W rv, P0 W → BatF (fun k => F k ∨ k = q) (ps.map recB) rv W → Calls Tryz.prog 52 #[.pointer (some ⟨lb, 0, none⟩), rv] W fun e w' => ∃ n : Nat, e = .returned (.int .i64 n) ∧ Post n w' ∧ Upd F W w') :
    Calls Tryz.prog 31 #[.pointer (some ⟨q, 0, none⟩), v] w fun e w' => ∃ rv, e = .returned rv ∧ ToldF Post q lb mb down rv w' ∧ Upd (fun k => F k ∨ k = q) w w' := by
  obtain ⟨A, c, rfl, -⟩ := id hv0
  replace hst := hide hst
  replace hv0 := hide hv0
  replace hok := hide hok
  replace hFw := hide hFw
  replace hFq := hide hFq
  replace hSF := hide hSF
  replace hp0 := hide hp0
  replace hPS := hide hPS
  replace hPk := hide hPk
  replace hR := hide hR
  go_enter Tryz.func31, Tryz.ntmps31
  go_wp2_with fail
  refine wp_region_tide (fun k => F k ∨ k = q) (factAt [(fun v _ => v = (.pointer (some ⟨q, 0, none⟩))), (fun v _ => v = (.pointer (some ⟨q, 0, none⟩))), (fun v _ => v = (.pointer (some ⟨q, 0, none⟩))), (fun v _ => v = (.pointer (some ⟨q, 0, none⟩))), (fun v _ => v = (.pointer (some ⟨lb, 0, none⟩))), (fun v _ => v = (.slice A ps.length c)), (fun v w => BatF (fun k => F k ∨ k = q) (ps.map recB) v w), (fun v w => IntF v), (fun v w => IntF v), (fun v w => IntF v)]) [none, none, none, none, none, none, none, some (fun v w => ResF Post q lb mb down v w), some (fun v w => ToldF Post q lb mb down v w), some (fun v w => ToldF Post q lb mb down v w)] (fun w => P0 w ∧ StV w q lb mb down) (fun w => w.cell? ⟨q, 0, none⟩ = some (.pointer (some ⟨lb, 0, none⟩))) 8 (by kernel_rfl) (fkept_at ⟨FKept.eq _, FKept.eq _, FKept.eq _, FKept.eq _, FKept.eq _, FKept.eq _, BatF.kept, fun _ _ _ h _ => h, fun _ _ _ h _ => h, fun _ _ _ h _ => h, trivial⟩) (hPS.out) (fun w w' h hb => hb.cell (World.block_lt_of_cell? w _ h) ▸ h) (fun _ => by kernel_rfl) ⟨ResF.kept hPk.out, ToldF.kept, ToldF.kept, trivial⟩ (by kernel_rfl) (by kernel_rfl) (by kernel_rfl) (by kernel_rfl) (Nat.le_of_ble_eq_true (by kernel_rfl)) ?_ (hst.out.cell 0) ⟨?_, ?_, ?_, ?_, ?_, ?_, ?_, ?_, ?_, ?_, trivial⟩ ?_
  · exact ⟨hp0.out, hst.out⟩
  · intro T w Q hu hs hv hw hd ht
    have hx0 : T.getD 0 undef = (.pointer (some ⟨q, 0, none⟩)) := hv 0 (by kernel_rfl)
    refine .inl ⟨wanted_none rfl, ?_⟩
    clear hd hv hu hs hw ht
    go_simp
    exact ⟨_, rfl, DstOk.some rfl, Below.refl _ _, rfl⟩
  · intro T w Q hu hs hv hw hd ht
    have hx0 : T.getD 0 undef = (.pointer (some ⟨q, 0, none⟩)) := hv 0 (by kernel_rfl)
    refine .inl ⟨wanted_none rfl, ?_⟩
    clear hd hv hu hs hw ht
    go_simp
    exact ⟨_, rfl, DstOk.some rfl, Below.refl _ _, rfl⟩
  · intro T w Q hu hs hv hw hd ht
    have hx6 : T.getD 6 undef = (.pointer (some ⟨q, 0, none⟩)) := Deps.at 1 hd (by kernel_rfl)
    refine .inl ⟨wanted_none rfl, ?_⟩
    clear hd hv hu hs hw ht
    go_simp
    exact ⟨_, rfl, DstOk.some rfl, Below.refl _ _, rfl⟩
  · intro T w Q hu hs hv hw hd ht
    have hx7 : T.getD 7 undef = (.pointer (some ⟨q, 0, none⟩)) := Deps.at 2 hd (by kernel_rfl)
    refine .inl ⟨wanted_none rfl, ?_⟩
    clear hd hv hu hs hw ht
    go_simp
    exact ⟨_, rfl, DstOk.some rfl, Below.refl _ _, rfl⟩
  · intro T w Q hu hs hv hw hd ht
    have hx8 : T.getD 8 undef = (.pointer (some ⟨q, 0, none⟩)) := Deps.at 3 hd (by kernel_rfl)
    refine .inl ⟨wanted_none rfl, ?_⟩
    have hI : w.cell? ⟨q, 0, none⟩ = some (.pointer (some ⟨lb, 0, none⟩)) := ht (by kernel_rfl)
    clear hd hv hu hs hw ht
    go_simp
    exact ⟨_, rfl, DstOk.some rfl, Below.refl _ _, rfl⟩
  · intro T w Q hu hs hv hw hd ht
    have hx1 : T.getD 1 undef = (.slice A ps.length c) := hv 1 (by kernel_rfl)
    refine .inl ⟨wanted_none rfl, ?_⟩
    clear hd hv hu hs hw ht
    go_simp
    exact ⟨_, rfl, DstOk.some rfl, Below.refl _ _, rfl⟩
  · intro T w Q hu hs hv hw hd ht
    have hx10 : T.getD 10 undef = (.slice A ps.length c) := Deps.at 5 hd (by kernel_rfl)
    refine .inl ⟨wanted_none rfl, ?_⟩
    have hz := hu.size
    have hN := recordsOf_any (hv0.out.upd hu hSF.out) hok.out hl
    clear hd hv hu hs hw ht
    go_simp
    refine hN.mono ?_
    rintro e w5 ⟨v5, rfl, h5, hb⟩
    exact ⟨_, rfl, DstOk.some rfl, hb, BatF.of h5 fun k hk h => by have := hFw.out k h; omega⟩
  · intro T w Q hu hs hv hw hd ht hc0
    have hc : (fun w => P0 w ∧ StV w q lb mb down) w := hc0
    have hx9 : T.getD 9 undef = (.pointer (some ⟨lb, 0, none⟩)) := Deps.at 4 hd (by kernel_rfl)
    have f11 : (fun (v : Value) (w : World) => BatF (fun k => F k ∨ k = q) (ps.map recB) v w) (T.getD 11 undef) w := Deps.at 6 hd (by kernel_rfl)
    generalize hx11 : T.getD 11 undef = x11 at f11 hc
    replace f11 := hide f11
    replace hc := hide hc
    refine .inl ⟨wanted_none rfl, ?_⟩
    have hN := hR.out w _ hc.out.1 f11.out
    have hcs := hide hc.out.2
    have hcc := hide (hc.out.2.cell 0)
    clear hd hv hu hs hw ht hc hc0
    go_simp
    refine hN.mono ?_
    rintro e w5 ⟨n, rfl, hp, hU⟩
    have hs5 := hcs.out.upd hU hFq.out
    have hi5 := hs5.cell 0
    exact ⟨_, rfl, DstOk.some rfl, hU.mono fun _ _ h => .inl h, (by intros; exact hi5), ⟨n, rfl⟩, ⟨n, rfl, hp, hs5⟩⟩
  · intro T w Q hu hs hv hw hd ht hc0
    have hc : (fun (v : Value) (w : World) => ResF Post q lb mb down v w) (T.getD 12 undef) w := hc0
    have hx5 : T.getD 5 undef = (.pointer (some ⟨q, 0, none⟩)) := Deps.at 0 hd (by kernel_rfl)
    have f12 : (fun (v : Value) (w : World) => IntF v) (T.getD 12 undef) w := Deps.at 7 hd (by kernel_rfl)
    generalize hx12 : T.getD 12 undef = x12 at f12 hc
    replace f12 := hide f12
    replace hc := hide hc
    refine .inl ⟨wanted_none rfl, ?_⟩
    obtain ⟨n, rfl⟩ := f12.out
    obtain ⟨n2, e2, hp, hs2⟩ := hc.out
    injection e2 with _ e2
    obtain rfl : n = n2 := by omega
    have hN := told_any hs2 n
    have hw1 := hide (⟨_, rfl⟩ : ∃ wx, wx = w)
    replace hp := hide hp
    clear hd hv hu hs hw ht hc hc0
    go_simp
    refine hN.mono ?_
    rintro e w5 ⟨rfl, h5, hU⟩
    exact ⟨_, rfl, DstOk.some rfl, hU.mono fun _ _ h => .inr h, ⟨n, rfl⟩, ⟨n, w, rfl, hp.out, hs2, h5, hU⟩⟩
  · intro T w Q hu hs hv hw hd ht hc0
    have hc : (fun (v : Value) (w : World) => ToldF Post q lb mb down v w) (T.getD 13 undef) w := hc0
    have f13 : (fun (v : Value) (w : World) => IntF v) (T.getD 13 undef) w := Deps.at 8 hd (by kernel_rfl)
    generalize hx13 : T.getD 13 undef = x13 at f13 hc
    replace f13 := hide f13
    replace hc := hide hc
    refine .inl ⟨wanted_none rfl, ?_⟩
    obtain ⟨n, rfl⟩ := f13.out
    have hcc := hide hc.out
    clear hd hv hu hs hw ht hc hc0
    go_simp
    exact ⟨_, rfl, DstOk.some rfl, .refl _ _, (fun h => by have h2 : true = false := Eq.trans h.symm (by kernel_rfl); cases h2), ⟨n, rfl⟩, hcc.out⟩
  intro T w hu hs hv hf hcur
  have hcur1 : (fun (v : Value) (w : World) => ToldF Post q lb mb down v w) (T.getD 4 undef) w := hcur
  replace hcur1 := hcur1
  have hT : T = #[T.getD 0 undef, T.getD 1 undef, T.getD 2 undef, T.getD 3 undef, T.getD 4 undef, T.getD 5 undef, T.getD 6 undef, T.getD 7 undef, T.getD 8 undef, T.getD 9 undef, T.getD 10 undef, T.getD 11 undef, T.getD 12 undef, T.getD 13 undef] := expl hs
  rw [hT]
  clear hT
  rw [show T.getD 0 undef = (.pointer (some ⟨q, 0, none⟩)) from hv 0 (by kernel_rfl)]
  rw [show T.getD 1 undef = (.slice A ps.length c) from hv 1 (by kernel_rfl)]
  rw [hv 2 (by kernel_rfl)]
  rw [hv 3 (by kernel_rfl)]
  rw [show T.getD 5 undef = (.pointer (some ⟨q, 0, none⟩)) from hf 0 (by decide)]
  rw [show T.getD 6 undef = (.pointer (some ⟨q, 0, none⟩)) from hf 1 (by decide)]
  rw [show T.getD 7 undef = (.pointer (some ⟨q, 0, none⟩)) from hf 2 (by decide)]
  rw [show T.getD 8 undef = (.pointer (some ⟨q, 0, none⟩)) from hf 3 (by decide)]
  rw [show T.getD 9 undef = (.pointer (some ⟨lb, 0, none⟩)) from hf 4 (by decide)]
  rw [show T.getD 10 undef = (.slice A ps.length c) from hf 5 (by decide)]
  clear hf hs hv hcur
  simp only [getD_toArray, List.getD_cons_succ, List.getD_cons_zero]
  generalize T.getD 4 undef = y4 at hcur1 ⊢
  generalize T.getD 11 undef = y11
  generalize T.getD 12 undef = y12
  generalize T.getD 13 undef = y13
  clear T
  replace hcur1 := hide hcur1
  replace hu := hide hu
  go_wp2_with fail
  go_ret
  exact ⟨_, rfl, hcur1.out, hu.out⟩
end Go.Proofs.YtpnboihbifhigaaGreatDoor
/- The store's log: add, whatever the log below does. -/
namespace Go.Proofs.YtpnboihbifhigaaGreatDoor
open Go Go.RowKit
set_option maxRecDepth 100000 in
set_option maxHeartbeats 1000000 in
theorem add_of {w : World} {q lb mb : Nat} {down : Bool} {S F : Nat → Prop} {v : Value} {ps : List PairD} {P0 : World → Prop} {Post : Nat → World → Prop} (hst : StV w q lb mb down) (hv0 : PrsV w S v ps) (hok : ∀ p ∈ ps, p.ok) (hl : ps.length ≤ 4294967295)
    (hFw : ∀ k, (F k ∨ k = q) → k < w.heap.size) (hFq : ¬ F q) (hSF : ∀ k, S k → ¬ (F k ∨ k = q)) (hp0 : P0 w) (hPS : ∀ w w', (P0 w ∧ StV w q lb mb down) → Below w.heap.size w w' → (P0 w' ∧ StV w' q lb mb down)) (hPk : ∀ n w w', Post n w → Below w.heap.size w w' → Post n w')
    (hR : ∀ W rv, P0 W → BatF (fun k => F k ∨ k = q) (ps.map recB) rv W → Calls Tryz.prog 59 #[.pointer (some ⟨lb, 0, none⟩), rv] W fun e w' => ∃ n : Nat, e = .returned (.int .i64 n) ∧ Post n w' ∧ Upd F W w') :
    Calls Tryz.prog 35 #[.pointer (some ⟨q, 0, none⟩), v] w fun e w' => ∃ rv, e = .returned rv ∧ ToldF Post q lb mb down rv w' ∧ Upd (fun k => F k ∨ k = q) w w' := by
  obtain ⟨A, c, rfl, -⟩ := id hv0
  replace hst := hide hst
  replace hv0 := hide hv0
  replace hok := hide hok
  replace hFw := hide hFw
  replace hFq := hide hFq
  replace hSF := hide hSF
  replace hp0 := hide hp0
  replace hPS := hide hPS
  replace hPk := hide hPk
  replace hR := hide hR
  go_enter Tryz.func35, Tryz.ntmps35
  go_wp2_with fail
  refine wp_region_tide (fun k => F k ∨ k = q) (factAt [(fun v _ => v = (.pointer (some ⟨q, 0, none⟩))), (fun v _ => v = (.pointer (some ⟨q, 0, none⟩))), (fun v _ => v = (.pointer (some ⟨q, 0, none⟩))), (fun v _ => v = (.pointer (some ⟨q, 0, none⟩))), (fun v _ => v = (.pointer (some ⟨lb, 0, none⟩))), (fun v _ => v = (.slice A ps.length c)), (fun v w => BatF (fun k => F k ∨ k = q) (ps.map recB) v w), (fun v w => IntF v), (fun v w => IntF v), (fun v w => IntF v)]) [none, none, none, none, none, none, none, some (fun v w => ResF Post q lb mb down v w), some (fun v w => ToldF Post q lb mb down v w), some (fun v w => ToldF Post q lb mb down v w)] (fun w => P0 w ∧ StV w q lb mb down) (fun w => w.cell? ⟨q, 0, none⟩ = some (.pointer (some ⟨lb, 0, none⟩))) 8 (by kernel_rfl) (fkept_at ⟨FKept.eq _, FKept.eq _, FKept.eq _, FKept.eq _, FKept.eq _, FKept.eq _, BatF.kept, fun _ _ _ h _ => h, fun _ _ _ h _ => h, fun _ _ _ h _ => h, trivial⟩) (hPS.out) (fun w w' h hb => hb.cell (World.block_lt_of_cell? w _ h) ▸ h) (fun _ => by kernel_rfl) ⟨ResF.kept hPk.out, ToldF.kept, ToldF.kept, trivial⟩ (by kernel_rfl) (by kernel_rfl) (by kernel_rfl) (by kernel_rfl) (Nat.le_of_ble_eq_true (by kernel_rfl)) ?_ (hst.out.cell 0) ⟨?_, ?_, ?_, ?_, ?_, ?_, ?_, ?_, ?_, ?_, trivial⟩ ?_
  · exact ⟨hp0.out, hst.out⟩
  · intro T w Q hu hs hv hw hd ht
    have hx0 : T.getD 0 undef = (.pointer (some ⟨q, 0, none⟩)) := hv 0 (by kernel_rfl)
    refine .inl ⟨wanted_none rfl, ?_⟩
    clear hd hv hu hs hw ht
    go_simp
    exact ⟨_, rfl, DstOk.some rfl, Below.refl _ _, rfl⟩
  · intro T w Q hu hs hv hw hd ht
    have hx0 : T.getD 0 undef = (.pointer (some ⟨q, 0, none⟩)) := hv 0 (by kernel_rfl)
    refine .inl ⟨wanted_none rfl, ?_⟩
    clear hd hv hu hs hw ht
    go_simp
    exact ⟨_, rfl, DstOk.some rfl, Below.refl _ _, rfl⟩
  · intro T w Q hu hs hv hw hd ht
    have hx6 : T.getD 6 undef = (.pointer (some ⟨q, 0, none⟩)) := Deps.at 1 hd (by kernel_rfl)
    refine .inl ⟨wanted_none rfl, ?_⟩
    clear hd hv hu hs hw ht
    go_simp
    exact ⟨_, rfl, DstOk.some rfl, Below.refl _ _, rfl⟩
  · intro T w Q hu hs hv hw hd ht
    have hx7 : T.getD 7 undef = (.pointer (some ⟨q, 0, none⟩)) := Deps.at 2 hd (by kernel_rfl)
    refine .inl ⟨wanted_none rfl, ?_⟩
    clear hd hv hu hs hw ht
    go_simp
    exact ⟨_, rfl, DstOk.some rfl, Below.refl _ _, rfl⟩
  · intro T w Q hu hs hv hw hd ht
    have hx8 : T.getD 8 undef = (.pointer (some ⟨q, 0, none⟩)) := Deps.at 3 hd (by kernel_rfl)
    refine .inl ⟨wanted_none rfl, ?_⟩
    have hI : w.cell? ⟨q, 0, none⟩ = some (.pointer (some ⟨lb, 0, none⟩)) := ht (by kernel_rfl)
    clear hd hv hu hs hw ht
    go_simp
    exact ⟨_, rfl, DstOk.some rfl, Below.refl _ _, rfl⟩
  · intro T w Q hu hs hv hw hd ht
    have hx1 : T.getD 1 undef = (.slice A ps.length c) := hv 1 (by kernel_rfl)
    refine .inl ⟨wanted_none rfl, ?_⟩
    clear hd hv hu hs hw ht
    go_simp
    exact ⟨_, rfl, DstOk.some rfl, Below.refl _ _, rfl⟩
  · intro T w Q hu hs hv hw hd ht
    have hx10 : T.getD 10 undef = (.slice A ps.length c) := Deps.at 5 hd (by kernel_rfl)
    refine .inl ⟨wanted_none rfl, ?_⟩
    have hz := hu.size
    have hN := recordsOf_any (hv0.out.upd hu hSF.out) hok.out hl
    clear hd hv hu hs hw ht
    go_simp
    refine hN.mono ?_
    rintro e w5 ⟨v5, rfl, h5, hb⟩
    exact ⟨_, rfl, DstOk.some rfl, hb, BatF.of h5 fun k hk h => by have := hFw.out k h; omega⟩
  · intro T w Q hu hs hv hw hd ht hc0
    have hc : (fun w => P0 w ∧ StV w q lb mb down) w := hc0
    have hx9 : T.getD 9 undef = (.pointer (some ⟨lb, 0, none⟩)) := Deps.at 4 hd (by kernel_rfl)
    have f11 : (fun (v : Value) (w : World) => BatF (fun k => F k ∨ k = q) (ps.map recB) v w) (T.getD 11 undef) w := Deps.at 6 hd (by kernel_rfl)
    generalize hx11 : T.getD 11 undef = x11 at f11 hc
    replace f11 := hide f11
    replace hc := hide hc
    refine .inl ⟨wanted_none rfl, ?_⟩
    have hN := hR.out w _ hc.out.1 f11.out
    have hcs := hide hc.out.2
    have hcc := hide (hc.out.2.cell 0)
    clear hd hv hu hs hw ht hc hc0
    go_simp
    refine hN.mono ?_
    rintro e w5 ⟨n, rfl, hp, hU⟩
    have hs5 := hcs.out.upd hU hFq.out
    have hi5 := hs5.cell 0
    exact ⟨_, rfl, DstOk.some rfl, hU.mono fun _ _ h => .inl h, (by intros; exact hi5), ⟨n, rfl⟩, ⟨n, rfl, hp, hs5⟩⟩
  · intro T w Q hu hs hv hw hd ht hc0
    have hc : (fun (v : Value) (w : World) => ResF Post q lb mb down v w) (T.getD 12 undef) w := hc0
    have hx5 : T.getD 5 undef = (.pointer (some ⟨q, 0, none⟩)) := Deps.at 0 hd (by kernel_rfl)
    have f12 : (fun (v : Value) (w : World) => IntF v) (T.getD 12 undef) w := Deps.at 7 hd (by kernel_rfl)
    generalize hx12 : T.getD 12 undef = x12 at f12 hc
    replace f12 := hide f12
    replace hc := hide hc
    refine .inl ⟨wanted_none rfl, ?_⟩
    obtain ⟨n, rfl⟩ := f12.out
    obtain ⟨n2, e2, hp, hs2⟩ := hc.out
    injection e2 with _ e2
    obtain rfl : n = n2 := by omega
    have hN := told_any hs2 n
    have hw1 := hide (⟨_, rfl⟩ : ∃ wx, wx = w)
    replace hp := hide hp
    clear hd hv hu hs hw ht hc hc0
    go_simp
    refine hN.mono ?_
    rintro e w5 ⟨rfl, h5, hU⟩
    exact ⟨_, rfl, DstOk.some rfl, hU.mono fun _ _ h => .inr h, ⟨n, rfl⟩, ⟨n, w, rfl, hp.out, hs2, h5, hU⟩⟩
  · intro T w Q hu hs hv hw hd ht hc0
    have hc : (fun (v : Value) (w : World) => ToldF Post q lb mb down v w) (T.getD 13 undef) w := hc0
    have f13 : (fun (v : Value) (w : World) => IntF v) (T.getD 13 undef) w := Deps.at 8 hd (by kernel_rfl)
    generalize hx13 : T.getD 13 undef = x13 at f13 hc
    replace f13 := hide f13
    replace hc := hide hc
    refine .inl ⟨wanted_none rfl, ?_⟩
    obtain ⟨n, rfl⟩ := f13.out
    have hcc := hide hc.out
    clear hd hv hu hs hw ht hc hc0
    go_simp
    exact ⟨_, rfl, DstOk.some rfl, .refl _ _, (fun h => by have h2 : true = false := Eq.trans h.symm (by kernel_rfl); cases h2), ⟨n, rfl⟩, hcc.out⟩
  intro T w hu hs hv hf hcur
  have hcur1 : (fun (v : Value) (w : World) => ToldF Post q lb mb down v w) (T.getD 4 undef) w := hcur
  replace hcur1 := hcur1
  have hT : T = #[T.getD 0 undef, T.getD 1 undef, T.getD 2 undef, T.getD 3 undef, T.getD 4 undef, T.getD 5 undef, T.getD 6 undef, T.getD 7 undef, T.getD 8 undef, T.getD 9 undef, T.getD 10 undef, T.getD 11 undef, T.getD 12 undef, T.getD 13 undef] := expl hs
  rw [hT]
  clear hT
  rw [show T.getD 0 undef = (.pointer (some ⟨q, 0, none⟩)) from hv 0 (by kernel_rfl)]
  rw [show T.getD 1 undef = (.slice A ps.length c) from hv 1 (by kernel_rfl)]
  rw [hv 2 (by kernel_rfl)]
  rw [hv 3 (by kernel_rfl)]
  rw [show T.getD 5 undef = (.pointer (some ⟨q, 0, none⟩)) from hf 0 (by decide)]
  rw [show T.getD 6 undef = (.pointer (some ⟨q, 0, none⟩)) from hf 1 (by decide)]
  rw [show T.getD 7 undef = (.pointer (some ⟨q, 0, none⟩)) from hf 2 (by decide)]
  rw [show T.getD 8 undef = (.pointer (some ⟨q, 0, none⟩)) from hf 3 (by decide)]
  rw [show T.getD 9 undef = (.pointer (some ⟨lb, 0, none⟩)) from hf 4 (by decide)]
  rw [show T.getD 10 undef = (.slice A ps.length c) from hf 5 (by decide)]
  clear hf hs hv hcur
  simp only [getD_toArray, List.getD_cons_succ, List.getD_cons_zero]
  generalize T.getD 4 undef = y4 at hcur1 ⊢
  generalize T.getD 11 undef = y11
  generalize T.getD 12 undef = y12
  generalize T.getD 13 undef = y13
  clear T
  replace hcur1 := hide hcur1
  replace hu := hide hu
  go_wp2_with fail
  go_ret
  exact ⟨_, rfl, hcur1.out, hu.out⟩
end Go.Proofs.YtpnboihbifhigaaGreatDoor
/- The store: Apply, where the log has room. -/
namespace Go.Proofs.YtpnboihbifhigaaGreatDoor
open Go Go.RowKit
theorem text_le {s : ByteArray} (h : s.size ≤ 4294967296) : (Cd.text s).length ≤ s.size + 10 := by
  unfold Cd.text
  rw [List.length_append, Cd.toList_len]
  have := Cd.num_len 9 s.size (by have : (128 : Nat) ^ 10 = 1180591620717411303424 := rfl; omega)
  omega
theorem recB_le {p : PairD} (h : p.ok) : (recB p).length ≤ p.key.size + p.val.size + 40 := by
  have h1 := text_le h.1
  have h2 := text_le h.2
  have h3 := text_le (s := setB) (by decide)
  have h4 := text_le (s := goneB) (by decide)
  have h5 : setB.size = 3 := rfl
  have h6 : goneB.size = 4 := rfl
  unfold recB
  cases p.gone with
  | true =>
    simp only [if_true, Cd.texts, List.map_cons, List.map_nil, List.flatten_cons, List.flatten_nil, List.length_append, List.length_nil]
    omega
  | false =>
    simp only [Bool.false_eq_true, if_false, Cd.texts, List.map_cons, List.map_nil, List.flatten_cons, List.flatten_nil, List.length_append, List.length_nil]
    omega
theorem fits_len {p : PairD} (h : p.fits) : p.key.size + p.val.size ≤ 1048512 := by
  have h3 := h.2
  unfold PairD.long at h3
  simp only [decide_eq_false_iff_not] at h3
  omega
theorem fits_of {p : PairD} (h : p.key.size + p.val.size ≤ 1048512) : p.fits := ⟨⟨by omega, by omega⟩, by unfold PairD.long; simp only [decide_eq_false_iff_not]; omega⟩
theorem recs_each {ps : List PairD} (h : ∀ p ∈ ps, p.fits) : ∀ r ∈ ps.map recB, r.length ≤ 1048576 := by
  intro r hr
  rw [List.mem_map] at hr
  obtain ⟨p, hp, rfl⟩ := hr
  have h1 := recB_le (h p hp).1
  have h2 := fits_len (h p hp)
  omega
theorem frames_small {c : Nat} : ∀ {ps : List PairD}, (∀ p ∈ ps, p.ok ∧ p.key.size + p.val.size ≤ c) → (frames (ps.map recB)).length ≤ ps.length * (c + 48)
  | [], _ => by simp [frames]
  | p :: ps, h => by
    have h1 := recB_le (h p (.head _)).1
    have h2 := (h p (.head _)).2
    have h3 := frames_small (ps := ps) fun q hq => h q (.tail _ hq)
    rw [List.map_cons, frames_cons, List.length_append, frame_len, List.length_cons, Nat.succ_mul]
    omega
theorem Tbl.chs_append (X : Tbl) (ps qs : List PairD) : X.chs (ps ++ qs) = (X.chs ps).chs qs := by simp [Tbl.chs]
section
variable {n z B sb q lb mb : Nat} {S T : Nat → Prop} {ps qs : List PairD} {w w' : World} {v : Value} {down : Bool}
theorem StoV.upd {F : Nat → Prop} (h : StoV n z w B sb q lb mb S ps down) (hu : Upd F w w') (hF : ∀ k, SO S q lb mb k → ¬ F k) : StoV n z w' B sb q lb mb S ps down :=
  ⟨h.st.upd hu (hF _ (.inr (.inl rfl))), h.lg.upd hu fun k hk => hF k (.inl hk), h.tb.upd hu (hF _ (.inr (.inr rfl))), h.fits, h.nq, h.nm, h.nqm, h.lowq, h.lowm⟩
theorem StoV.old (h : StoV n z w B sb q lb mb S ps down) {k : Nat} (hk : SO S q lb mb k) : k < w.heap.size := by
  rcases hk with hk | rfl | rfl
  · exact h.lg.old hk
  · exact h.st.lt
  · exact h.tb.lt
theorem StoV.ge (h : StoV n z w B sb q lb mb S ps down) {k : Nat} (hk : SO S q lb mb k) : B ≤ k := by
  rcases hk with hk | rfl | rfl
  · exact h.lg.ge hk
  · exact h.lowq
  · exact h.lowm
set_option maxRecDepth 100000 in
set_option maxHeartbeats 1000000 in
/-- Pairs are added. -/
theorem applyS_any (h : StoV n z w B sb q lb mb S ps false) (hB : 1 + 1 ≤ B) (hT : Tab w) (hv : PrsV w T v qs) (hTd : ∀ k, T k → ¬ SO S q lb mb k) (hf : ∀ p ∈ qs, p.fits) (hl : ps.length + qs.length ≤ 2147483648)
    (hfit : (frames (ps.map recB)).length + (frames (qs.map recB)).length ≤ capZ n z) :
    Calls Tryz.prog 14 #[.pointer (some ⟨q, 0, none⟩), v] w fun e w' => e = .returned (.int .i64 0) ∧ ∃ S', StoV n z w' B sb q lb mb S' (ps ++ qs) false ∧ Mv w (SO S q lb mb) w' (SO S' q lb mb) := by
  have hok : ∀ p ∈ qs, p.ok := fun p hp => (hf p hp).1
  have hany : qs.any PairD.long = false := by
    rw [List.any_eq_false]
    intro p hp
    rw [(hf p hp).2]
    exact Bool.false_ne_true
  have hcon := contains_any hv hok (by omega)
  rw [hany] at hcon
  have hst := h.st
  have hq1 := h.st.cell 1
  have hlt := h.st.lt
  have hg : ¬ SO S q lb mb 1 := fun hk => by have := h.ge hk; omega
  obtain ⟨A, c, rfl, -⟩ := id hv
  replace h := hide h
  replace hT := hide hT
  replace hv := hide hv
  replace hTd := hide hTd
  replace hf := hide hf
  replace hok := hide hok
  replace hfit := hide hfit
  replace hcon := hide hcon
  replace hst := hide hst
  replace hg := hide hg
  clear hany
  go_enter Tryz.func14, Tryz.ntmps14
  go_wp2_with fail
  refine hcon.out.mono ?_
  rintro e w1 ⟨rfl, hb1⟩
  have hU1 := Upd.of_below (fun _ => False) hb1
  have h1 := h.out.upd hU1 fun _ _ => id
  have hv1 := hv.out.upd hU1 fun _ _ => id
  have hT1 := hT.out.upd hU1 id
  have z1 := hb1.size
  replace h1 := hide h1
  replace hv1 := hide hv1
  replace hT1 := hide hT1
  replace hU1 := hide hU1
  clear hcon hb1
  go_wp2_with fail
  have hadd := add_of (F := OL S lb) (P0 := fun W => LgZ n z W B sb lb S (ps.map recB) ∧ Tab W ∧ w1.heap.size ≤ W.heap.size) (Post := fun m W => m = 0 ∧ ∃ S', LgZ n z W B sb lb S' ((ps ++ qs).map recB) ∧ ∀ k, OL S' lb k → OL S lb k ∨ w1.heap.size ≤ k)
    h1.out.st hv1.out hok.out (by omega) (fun k hk => by
      rcases hk with hk | rfl
      · exact h1.out.lg.old hk
      · exact h1.out.st.lt) h1.out.nq (fun k hk hk' => hTd.out k hk (by
      rcases hk' with hk' | rfl
      · exact .inl hk'
      · exact .inr (.inl rfl))) ⟨h1.out.lg, hT1.out, Nat.le_refl _⟩
    (fun W W' hp hb => by
      have hU := Upd.of_below (fun _ => False) hb
      exact ⟨⟨hp.1.1.upd hU fun _ _ => id, hp.1.2.1.upd hU id, Nat.le_trans hp.1.2.2 hb.size⟩, hp.2.upd hU id⟩)
    (fun m W W' hp hb => by
      obtain ⟨e, S', p1, p2⟩ := hp
      exact ⟨e, S', p1.upd (Upd.of_below (fun _ => False) hb) fun _ _ => id, p2⟩)
    (fun W rv hp hbat => by
      obtain ⟨B', hB', hbt⟩ := hbat
      refine (commit_lgz hp.1 hB hp.2.1 hbt.recsV (fun k hk hO => hB' k hk.1 (.inl hO)) (by rw [List.length_map]; omega) (recs_each hf.out) hfit.out).mono ?_
      rintro e w' ⟨rfl, S', hS', hM⟩
      exact ⟨0, rfl, ⟨rfl, S', by rw [List.map_append]; exact hS', fun k hk => (hM.2 k hk).imp id fun h => Nat.le_trans hp.2.2 h⟩, hM.1⟩)
  refine hadd.mono ?_
  rintro e w2 ⟨rv, rfl, ⟨m, wx, rfl, ⟨rfl, S', p1, p2⟩, p3, p4, p5⟩, hU2⟩
  have p4' : StV w2 q lb mb false := p4
  have hqS : ¬ OL S' lb q := fun hk => by
    rcases p2 q hk with h5 | h5
    · exact h.out.nq h5
    · omega
  have hmlt := h.out.tb.lt
  have hmS : ¬ OL S' lb mb := fun hk => by
    rcases p2 mb hk with h5 | h5
    · exact h.out.nm h5
    · omega
  have hnF : ¬ (OL S lb mb ∨ mb = q) := fun hk => by
    rcases hk with hk | hk
    · exact h.out.nm hk
    · exact h.out.nqm hk.symm
  have hlg2 := p1.upd p5 (fun k hk e => hqS (e ▸ hk))
  have htb2 := h1.out.tb.upd hU2 hnF
  have hv2 := hv1.out.upd hU2 (fun k hk hk' => hTd.out k hk (by
    rcases hk' with hk' | rfl
    · exact .inl hk'
    · exact .inr (.inl rfl)))
  have hch := change_any htb2 hv2 (fun k hk e => hTd.out k hk (.inr (.inr e))) (fun p hp => hok.out p hp) (by omega)
  rw [← Tbl.chs_append, ← List.length_append] at hch
  have z2 := hU2.size
  have hU02 := (hU1.out.mono (G := SO S q lb mb) fun _ _ h => h.elim).trans (hU2.mono (G := SO S q lb mb) fun k _ hk => by
    rcases hk with hk | rfl
    · exact .inl hk
    · exact .inr (.inl rfl)) fun _ _ h => h
  have c2 := p4'.cell 2
  replace hch := hide hch
  replace hU02 := hide hU02
  replace hlg2 := hide hlg2
  replace htb2 := hide htb2
  replace hv2 := hide hv2
  replace p4' := hide p4'
  replace p2 := hide p2
  replace hqS := hide hqS
  replace hmS := hide hmS
  replace hnF := hide hnF
  clear p1 p3 p4 p5 hU2 hadd h1 hv1 hT1 hU1 hq1
  go_wp2_with fail
  refine hch.out.mono ?_
  rintro e w3 ⟨rfl, htb3, hU3⟩
  have hlg3 := hlg2.out.upd hU3 (fun k hk e => hmS.out (e ▸ hk))
  have hst3 := p4'.out.upd hU3 (fun e => h.out.nqm e)
  have hU03 := hU02.out.trans hU3 fun k _ e => .inr (.inr e)
  replace hlg3 := hide hlg3
  replace hst3 := hide hst3
  replace htb3 := hide htb3
  replace hU03 := hide hU03
  clear hU3 hch
  go_wp2_with fail
  go_ret
  refine ⟨rfl, S', ⟨hst3.out, hlg3.out, htb3.out, fun p hp => ?_, hqS.out, hmS.out, h.out.nqm, h.out.lowq, h.out.lowm⟩, hU03.out, fun k hk => ?_⟩
  · rcases List.mem_append.1 hp with hp | hp
    · exact h.out.fits p hp
    · exact hf.out p hp
  · rcases hk with hk | hk
    · rcases p2.out k hk with h5 | h5
      · exact .inl (.inl h5)
      · exact .inr (by omega)
    · exact .inl (.inr hk)
end
end Go.Proofs.YtpnboihbifhigaaGreatDoor
/- The store: Size. -/
namespace Go.Proofs.YtpnboihbifhigaaGreatDoor
open Go Go.RowKit
theorem ranges_upd {w w' : World} {F : Nat → Prop} {b r n : Nat} {D : DV} {left : Lit → Bool} {cnt : Nat} (h : w.ranges Tryz.prog 9 heldP b r n D left cnt) (hu : Upd F w w') (hb : ¬ F b) (hr : ¬ F r) : w'.ranges Tryz.prog 9 heldP b r n D left cnt := by
  obtain ⟨es, clock, since, seen, c0, h1, h2, h3, h4, h5, h6⟩ := h
  exact ⟨es, clock, since, seen, c0, hu.heap h1 hb, h2, h3, h4, hu.heap h5 hr, h6⟩
/-- The lengths of the keys in ss and of their values. -/
def sumT (T : Tbl) (ss : List (List UInt8)) : Nat := (ss.map fun x => x.length + ((T x).getD ByteArray.empty).size).sum
theorem sumT_snoc (T : Tbl) (ss : List (List UInt8)) (x : List UInt8) : sumT T (ss ++ [x]) = sumT T ss + (x.length + ((T x).getD ByteArray.empty).size) := by simp [sumT]
theorem sumT_le {T : Tbl} {c : Nat} : ∀ {ss : List (List UInt8)}, (∀ x ∈ ss, x.length + ((T x).getD ByteArray.empty).size ≤ c) → sumT T ss ≤ ss.length * c
  | [], _ => by simp [sumT]
  | x :: ss, h => by
    have h1 := sumT_le (ss := ss) fun y hy => h y (.tail _ hy)
    have h2 := h x (.head _)
    unfold sumT at h1 ⊢
    rw [List.map_cons, List.sum_cons, List.length_cons, Nat.succ_mul]
    omega
theorem heldP_inv2 (v : Value) (y : DataW Value × List MemPlace) (h : heldP v = some y) : ∃ a, v = Value.agg a := (heldP_inv h).1
theorem enc_inv (key : Value) (kl : Lit) (h : keyOf Tryz.prog 9 key = some kl) : ∃ x, key = Go.Proofs.encStr x := by
  obtain ⟨x, hx, _⟩ := Maps.keyOf_str Tryz.underlying9 h
  exact ⟨x, hx⟩
/-- An entry of the table as a range meets it. -/
theorem TblD.met {D : DV} {T : Tbl} (h : TblD D T) {x : List UInt8} {c : Array Value} {yd : DV} {yp : List MemPlace} (hv : heldP (.agg c) = some (yd, yp)) (hat : ∀ zd, D.atKey (kS x) zd = yd) : ∃ v, T x = some v ∧ Value.agg c = entV x v := by
  have e1 : yd = .held (.agg c) := by
    have := (heldP_inv hv).2
    injection this
  have hhas : Maps.has D (kS x) = true := Maps.has_true_of_atKey hat
  obtain ⟨a1, a2⟩ := h.2 x
  rw [hhas] at a1
  cases hx : T x with
  | none => rw [hx] at a1; cases a1
  | some v =>
    refine ⟨v, rfl, ?_⟩
    have := a2 yd
    rw [hat, hx, e1] at this
    injection this
theorem TblD.all {D : DV} {T : Tbl} (h : TblD D T) {left : Lit → Bool} {ss : List (List UInt8)} (hC : Collected D left ss) (hl : ∀ kl, left kl = false) (x : List UInt8) : x ∈ ss ↔ (T x).isSome = true := by
  rw [hC.2 x, ← (h.2 x).1, hl]
  simp [kS]
theorem TblD.in_ {D : DV} {T : Tbl} (h : TblD D T) {left : Lit → Bool} {ss : List (List UInt8)} (hC : Collected D left ss) {x : List UInt8} (hx : x ∈ ss) : (T x).isSome = true := by
  rw [← (h.2 x).1]
  exact ((hC.2 x).1 hx).1
set_option maxRecDepth 100000 in
set_option maxHeartbeats 1000000 in
theorem sizeT_any {w : World} {mb n : Nat} {T : Tbl} (h : TblV w mb n T) (hn : n ≤ 4294967295) (hbd : ∀ x v, T x = some v → x.length + v.size ≤ 1048512) :
    Calls Tryz.prog 26 #[.map (some mb)] w fun e w' => ∃ ss : List (List UInt8), ss.Nodup ∧ (∀ x, x ∈ ss ↔ (T x).isSome = true) ∧ e = .returned (.int .i64 (sumT T ss : Nat)) ∧ Below w.heap.size w w' := by
  obtain ⟨D, m1, m2⟩ := id h
  have hbl := m1.lt
  have hsz := m1.size_le
  replace m1 := hide m1
  replace m2 := hide m2
  replace hbd := hide hbd
  clear h
  go_enter Tryz.func26, Tryz.ntmps26
  go_wp2_with (first
    | (at_range; refine wpList_range_own _ rfl _ 44 rfl 9 66 str_key Tryz.underlying44 heldP mb n D rfl m1.out ?_; intro w0 hrg0 hg0 hs0)
    | go_in)
  go_frame
  go_loopw [3] (fun i wr => ∃ (left : Lit → Bool) (cnt : Nat) (ss : List (List UInt8)), wr.ranges Tryz.prog 9 heldP mb w.heap.size n D left cnt ∧ ss.length + cnt ≤ n ∧ Collected D left ss ∧ i = .int .i64 (sumT T ss : Nat) ∧ Upd (fun _ => False) w wr) (fun _ wr => wr.rangeLeft mb w.heap.size)
  case atStart => exact ⟨_, _, [], hrg0, by simpa using hsz, Collected.start D, rfl, Upd.grown hg0 fun k hk => by cases hk⟩
  case round =>
    obtain ⟨left, cnt, ss, hrg, hcs, hC, rfl, hU⟩ := hrel
    have zr := hU.size
    have hbs : sumT T ss ≤ ss.length * 1048512 := sumT_le fun x hx => by
      have h1 := m2.out.in_ hC hx
      cases hx2 : T x with
      | none => rw [hx2] at h1; cases h1
      | some v => exact hbd.out x v hx2
    replace hU := hide hU
    go_wp2_with (first
      | (at_next; refine wpList_next_ranges _ rfl _ rfl 9 str_key heldP Go.Proofs.encStr Value.agg enc_inv heldP_inv2 mb w.heap.size n _ _ _ rfl hrg ?_ ?_)
      | go_in)
    · intro hc0 hl0
      go_wp2_with fail
      go_ret
      exact ⟨ss, hC.1, m2.out.all hC hl0, rfl, hU.out.below (Nat.le_refl _) fun _ h => h.elim⟩
    · intro x c kl yd yp w2 cnt2 hkey hlk hv hat hrg2 hlt hg2 hs2 hen
      obtain ⟨x', ex, rfl, hxl⟩ := Maps.keyOf_str Tryz.underlying9 hkey
      obtain rfl : x = x' := encStr_inj ex
      obtain ⟨v, hTx, hcv⟩ := m2.out.met hv hat
      have hC2 := hC.step hlk hat
      have hbx := hbd.out x v hTx
      have hsn := sumT_snoc T ss x
      rw [hTx] at hsn
      simp only [Option.getD_some] at hsn
      unfold entV at hcv
      injection hcv with hcv
      subst hcv
      have hU2 : Upd (fun k => k = w.heap.size) wr w2 := Upd.grown hg2 fun k hk => by injection hk with hk; exact hk.symm
      have hxs : (⟨x.toArray⟩ : ByteArray).size = x.length := by simp [ByteArray.size]
      have hok : PairD.ok ⟨⟨x.toArray⟩, v, false⟩ := ⟨by show (⟨x.toArray⟩ : ByteArray).size ≤ _; omega, by show v.size ≤ _; omega⟩
      have hlen := fun W => length_any W ⟨⟨x.toArray⟩, v, false⟩ hok
      unfold pairV at hlen
      simp only [hxs] at hlen
      have hmul : ss.length * 1048512 ≤ 4294967295 * 1048512 := Nat.mul_le_mul_right _ (by omega)
      have hbl2 : mb < w2.heap.size := by omega
      replace hsn := hide hsn
      replace hU2 := hide hU2
      replace hC2 := hide hC2
      replace hlen := hide hlen
      replace hrg2 := hide hrg2
      replace hxs := hide hxs
      replace hTx := hide hTx
      replace hat := hide hat
      replace hv := hide hv
      replace hrg := hide hrg
      replace hC := hide hC
      replace hg2 := hide hg2
      clear hs2 hkey hlk
      unfold Go.Proofs.encStr at *
      go_wp2_with fail
      refine (hlen.out _).mono ?_
      rintro e w4 ⟨rfl, hb4⟩
      have hU4 : Upd (fun _ => False) w2 w4 := (Upd.alloc _ _ _).then (Upd.of_below _ hb4)
      have hrg4 := ranges_upd hrg2.out hU4 id id
      have hU04 : Upd (fun _ => False) w w4 := (hU.out.trans hU2.out fun k hk e => by omega).trans hU4 fun _ _ h => h
      replace hrg4 := hide hrg4
      replace hU04 := hide hU04
      clear hb4 hU4
      go_wp2_with fail
      go_roundw
      case rel => exact ⟨_, cnt2, ss ++ [x], hrg4.out, by simp; omega, hC2.out, by rw [hsn.out]; go_num, hU04.out⟩
      case measure => rw [hrg4.out.left_eq, hrg.out.left_eq]; exact hlt
end Go.Proofs.YtpnboihbifhigaaGreatDoor
/- Library functions, laid at this dump: slices.Sort, strings.HasPrefix. -/
namespace Go.Proofs.YtpnboihbifhigaaGreatDoor
open Go Go.RowKit Go.Shelf
def laySortS_ren : Go.Shelf.Ren := ⟨fun | 190 => 39 | 125 => 67 | 258 => 66 | 128 => 104 | 129 => 105 | 302 => 95 | 303 => 96 | 304 => 97 | 305 => 98 | 306 => 99 | 307 => 100 | 308 => 101 | 309 => 102 | 310 => 103 | 333 => 138 | 329 => 139 | 330 => 140 | 334 => 141 | 335 => 142 | 336 => 143 | 344 => 171 | n => n, fun | 31 => 68 | 9 => 9 | 3 => 3 | 46 => 124 | 0 => 0 | 51 => 160 | 53 => 47 | 4 => 4 | 183 => 153 | 182 => 152 | 131 => 157 | 5 => 5 | 218 => 189 | 222 => 193 | 228 => 220 | 229 => 221 | n => n, fun | n => n⟩
theorem laySortS : Go.Proofs.Lays.n190 Tryz.prog laySortS_ren := {
  mixed := by kernel_rfl
  f125 := Tryz.func67.trans (congrArg some (by kernel_rfl))
  f128 := Tryz.func104.trans (congrArg some (by kernel_rfl))
  f129 := Tryz.func105.trans (congrArg some (by kernel_rfl))
  f190 := Tryz.func39.trans (congrArg some (by kernel_rfl))
  f258 := Tryz.func66.trans (congrArg some (by kernel_rfl))
  f302 := Tryz.func95.trans (congrArg some (by kernel_rfl))
  f303 := Tryz.func96.trans (congrArg some (by kernel_rfl))
  f304 := Tryz.func97.trans (congrArg some (by kernel_rfl))
  f305 := Tryz.func98.trans (congrArg some (by kernel_rfl))
  f306 := Tryz.func99.trans (congrArg some (by kernel_rfl))
  f307 := Tryz.func100.trans (congrArg some (by kernel_rfl))
  f308 := Tryz.func101.trans (congrArg some (by kernel_rfl))
  f309 := Tryz.func102.trans (congrArg some (by kernel_rfl))
  f310 := Tryz.func103.trans (congrArg some (by kernel_rfl))
  f329 := Tryz.func139.trans (congrArg some (by kernel_rfl))
  f330 := Tryz.func140.trans (congrArg some (by kernel_rfl))
  f333 := Tryz.func138.trans (congrArg some (by kernel_rfl))
  f334 := Tryz.func141.trans (congrArg some (by kernel_rfl))
  f335 := Tryz.func142.trans (congrArg some (by kernel_rfl))
  f336 := Tryz.func143.trans (congrArg some (by kernel_rfl))
  f344 := Tryz.func171.trans (congrArg some (by kernel_rfl))
  t0 := Tryz.underlying0
  a0 := Tryz.isAgg0
  z0 := Tryz.sizeOf0
  v0 := Tryz.zeroValue0
  t3 := Tryz.underlying3
  a3 := Tryz.isAgg3
  z3 := Tryz.sizeOf3
  v3 := Tryz.zeroValue3
  t4 := Tryz.underlying4
  a4 := Tryz.isAgg4
  z4 := Tryz.sizeOf4
  v4 := Tryz.zeroValue4
  t5 := Tryz.underlying5
  a5 := Tryz.isAgg5
  z5 := Tryz.sizeOf5
  v5 := Tryz.zeroValue5
  t9 := Tryz.underlying9
  a9 := Tryz.isAgg9
  z9 := Tryz.sizeOf9
  v9 := Tryz.zeroValue9
  t31 := Tryz.underlying68
  a31 := Tryz.isAgg68
  z31 := Tryz.sizeOf68
  v31 := Tryz.zeroValue68
  t46 := Tryz.underlying124
  a46 := Tryz.isAgg124
  z46 := Tryz.sizeOf124
  v46 := Tryz.zeroValue124
  t51 := Tryz.underlying160
  a51 := Tryz.isAgg160
  z51 := Tryz.sizeOf160
  v51 := Tryz.zeroValue160
  t53 := Tryz.underlying47
  a53 := Tryz.isAgg47
  z53 := Tryz.sizeOf47
  v53 := Tryz.zeroValue47
  t131 := Tryz.underlying157
  a131 := Tryz.isAgg157
  z131 := Tryz.sizeOf157
  v131 := Tryz.zeroValue157
  t182 := Tryz.underlying152
  a182 := Tryz.isAgg152
  z182 := Tryz.sizeOf152
  v182 := Tryz.zeroValue152
  t183 := Tryz.underlying153
  a183 := Tryz.isAgg153
  z183 := Tryz.sizeOf153
  v183 := Tryz.zeroValue153
  t218 := Tryz.underlying189
  a218 := Tryz.isAgg189
  z218 := Tryz.sizeOf189
  v218 := Tryz.zeroValue189
  t222 := Tryz.underlying193
  a222 := Tryz.isAgg193
  z222 := Tryz.sizeOf193
  v222 := Tryz.zeroValue193
  t228 := Tryz.underlying220
  a228 := Tryz.isAgg220
  z228 := Tryz.sizeOf220
  v228 := Tryz.zeroValue220
  t229 := Tryz.underlying221
  a229 := Tryz.isAgg221
  z229 := Tryz.sizeOf221
  v229 := Tryz.zeroValue221 }
def layPre_ren : Go.Shelf.Ren := ⟨fun | 99 => 38 | 206 => 65 | n => n, fun | 9 => 9 | 4 => 4 | 3 => 3 | n => n, fun | n => n⟩
theorem layPre : Go.Proofs.Lays.n99 Tryz.prog layPre_ren := {
  mixed := by kernel_rfl
  f99 := Tryz.func38.trans (congrArg some (by kernel_rfl))
  f206 := Tryz.func65.trans (congrArg some (by kernel_rfl))
  t3 := Tryz.underlying3
  a3 := Tryz.isAgg3
  z3 := Tryz.sizeOf3
  v3 := Tryz.zeroValue3
  t4 := Tryz.underlying4
  a4 := Tryz.isAgg4
  z4 := Tryz.sizeOf4
  v4 := Tryz.zeroValue4
  t9 := Tryz.underlying9
  a9 := Tryz.isAgg9
  z9 := Tryz.sizeOf9
  v9 := Tryz.zeroValue9 }
end Go.Proofs.YtpnboihbifhigaaGreatDoor
/- The store: Keys. -/
namespace Go.Proofs.YtpnboihbifhigaaGreatDoor
open Go Go.RowKit
open Go.Proofs (encStr)
/-- Its own strings, as bytes. -/
def KsV (w : World) (B : Nat) (v : Value) (ks : List (List UInt8)) : Prop := w.ownsRow B 9 1 v ks.length (ks.map encStr)
theorem str_info : (Tryz.prog.info? 9).map (fun i => (i.zero, i.size, i.bytes)) = some (some (.string ⟨#[]⟩), 1, 16) := by kernel_rfl
/-- What Keys tells: the keys with that prefix, in order, each once. -/
structure KeysT (T : Tbl) (p : List UInt8) (ks : List (List UInt8)) : Prop where
  nodup : ks.Nodup
  mem : ∀ x, x ∈ ks ↔ ((T x).isSome = true ∧ p.isPrefixOf x = true)
  le : ks.Pairwise fun a b => a ≤ b
theorem KeysT.of {T : Tbl} {p : List UInt8} {ss : List (List UInt8)} (h1 : ss.Nodup) (h2 : ∀ x, x ∈ ss ↔ (T x).isSome = true) : KeysT T p ((ss.filter fun x => p.isPrefixOf x).mergeSort fun x y => decide (x ≤ y)) := by
  have hp := List.mergeSort_perm (ss.filter fun x => p.isPrefixOf x) fun x y => decide (x ≤ y)
  refine ⟨hp.nodup_iff.2 (h1.filter _), fun x => ?_, ?_⟩
  · rw [hp.mem_iff, List.mem_filter, h2 x]
  · have tr : ∀ a b c : List UInt8, leB a b = true → leB b c = true → leB a c = true := fun a b c h1 h2 => by simp only [leB, decide_eq_true_eq] at *; exact List.le_trans h1 h2
    have tot : ∀ a b : List UInt8, (leB a b || leB b a) = true := fun a b => by simp only [leB, Bool.or_eq_true, decide_eq_true_eq]; exact List.le_total a b
    exact (List.pairwise_mergeSort tr tot _).imp fun h => by simpa [leB] using h
theorem KsV.upd {w w' : World} {F : Nat → Prop} {B : Nat} {v : Value} {ks : List (List UInt8)} (h : KsV w B v ks) (hu : Upd F w w') (hF : ∀ k, Own v k → ¬ F k) : KsV w' B v ks := Upd.own hu h hF
set_option maxRecDepth 100000 in
set_option maxHeartbeats 1000000 in
theorem keysT_any {w : World} {mb n : Nat} {T : Tbl} (h : TblV w mb n T) (hn : n ≤ 4294967295) (p : ByteArray) :
    Calls Tryz.prog 23 #[.map (some mb), .string p] w fun e w' => ∃ v ks, e = .returned v ∧ KeysT T p.data.toList ks ∧ KsV w' w.heap.size v ks ∧ Below w.heap.size w w' := by
  obtain ⟨D, m1, m2⟩ := id h
  obtain ⟨i0, hi, hz0, hz1, hz2⟩ := info_parts str_info
  have hbl := m1.lt
  have hsz := m1.size_le
  have hpre := fun (s : ByteArray) W => Any.strings_HasPrefix layPre s p W
  have hst := fun g cap (ss : List (List UInt8)) W h1 h2 h3 => Any.slices_Sort_string laySortS g 0 cap ss W h1 h2 h3
  have hsn := fun q cap W => Any.slices_Sort_string_none laySortS q cap W
  replace m1 := hide m1
  replace m2 := hide m2
  replace hpre := hide hpre
  replace hst := hide hst
  replace hsn := hide hsn
  replace hi := hide hi
  replace hz0 := hide hz0
  replace hz1 := hide hz1
  replace hz2 := hide hz2
  clear h
  go_enter Tryz.func23, Tryz.ntmps23
  go_wp2_with (first
    | (at_range; refine wpList_range_own _ rfl _ 44 rfl 9 66 str_key Tryz.underlying44 heldP mb n D rfl m1.out ?_; intro w0 hrg0 hg0 hs0)
    | go_in)
  go_frame
  go_loopw [5] (fun i wr => ∃ (left : Lit → Bool) (cnt : Nat) (ss : List (List UInt8)), wr.ranges Tryz.prog 9 heldP mb w.heap.size n D left cnt ∧ ss.length + cnt ≤ n ∧ Collected D left ss ∧ KsV wr w.heap.size i (ss.filter fun x => p.data.toList.isPrefixOf x) ∧ Upd (fun _ => False) w wr) (fun _ wr => wr.rangeLeft mb w.heap.size)
  case atStart => exact ⟨_, _, [], hrg0, by simpa using hsz, Collected.start D, World.ownsRow_nil _ _ _ _, Upd.grown hg0 fun k hk => by cases hk⟩
  case round =>
    obtain ⟨left, cnt, ss, hrg, hcs, hC, hK, hU⟩ := hrel
    have zr := hU.size
    have hfl : (ss.filter fun x => p.data.toList.isPrefixOf x).length ≤ ss.length := List.length_filter_le _ _
    obtain ⟨ks, hks⟩ : ∃ ks, ks = ss.filter fun x => p.data.toList.isPrefixOf x := ⟨_, rfl⟩
    rw [← hks] at hK hfl
    replace hU := hide hU
    go_wp2_with (first
      | (at_next; refine wpList_next_ranges _ rfl _ rfl 9 str_key heldP encStr Value.agg enc_inv heldP_inv2 mb w.heap.size n _ _ _ rfl hrg ?_ ?_)
      | go_in)
    · intro hc0 hl0
      have hKT : KeysT T p.data.toList (ks.mergeSort fun x y => decide (x ≤ y)) := by rw [hks]; exact KeysT.of hC.1 (m2.out.all hC hl0)
      replace hKT := hide hKT
      replace hks := hide hks
      have hK' := hK
      rcases hK.2 with ⟨rfl, hnil⟩ | ⟨g, cap, cur, rfl, hbase, hb, h1, h2, h3, h4⟩
      · have hsn1 := hsn.out none 0 wr
        replace hsn1 := hide hsn1
        replace hK := hide hK
        go_wp2_with fail
        refine hsn1.out.mono ?_
        rintro e w1 ⟨rfl, rfl⟩
        go_wp2_with fail
        go_ret
        have hk0 : ks = [] := List.eq_nil_of_length_eq_zero hnil
        refine ⟨.slice none 0 0, _, rfl, hKT.out, ?_, hU.out.below (Nat.le_refl _) fun _ h => h.elim⟩
        rw [hk0]
        unfold KsV
        simp only [List.mergeSort_nil, List.length_nil, List.map_nil]
        exact World.ownsRow_nil _ _ _ _
      · have hH : Go.Sort.Holds encStr wr g 0 ks.toArray := holds_of_block hb (by simpa using h4)
        have hgl : g < wr.heap.size := (Array.getElem?_eq_some_iff.1 hb).1
        have hst1 := hst.out g cap ks wr hH hgl (by omega)
        have hb' := hide hb
        replace hst1 := hide hst1
        replace hK := hide hK
        replace hK' := hide hK'
        replace h4 := hide h4
        replace hH := hide hH
        replace h3 := hide h3
        clear hb
        go_wp2_with fail
        refine hst1.out.mono ?_
        rintro e w1 ⟨rfl, nn, os, hw1⟩
        have hown : KsV w1 w.heap.size (.slice (some ⟨g, 0, none⟩) ks.length cap) (ks.mergeSort fun x y => decide (x ≤ y)) := by
          have := ownsRow_sorted (ts := ks.mergeSort fun x y => decide (x ≤ y)) (n := nn) (os := os) (by simp) hbase hb'.out h1 h2 h3.out
          rw [← hw1] at this
          unfold KsV
          rw [List.length_mergeSort]
          exact this
        have hg1 : wr.grownBy w1 (some g) := by rw [hw1]; exact grownBy_sorted _
        have hU1 : Upd (fun _ => False) w w1 := hU.out.trans (Upd.grown (F := fun k => k = g) hg1 fun k hk => by injection hk with hk; exact hk.symm) fun k hk e => by omega
        replace hown := hide hown
        replace hU1 := hide hU1
        replace hw1 := hide hw1
        clear hg1
        go_wp2_with fail
        go_ret
        exact ⟨_, _, rfl, hKT.out, hown.out, hU1.out.below (Nat.le_refl _) fun _ h => h.elim⟩
    · intro x c kl yd yp w2 cnt2 hkey hlk hv hat hrg2 hlt hg2 hs2 hen
      obtain ⟨x', ex, rfl, hxl⟩ := Maps.keyOf_str Tryz.underlying9 hkey
      obtain rfl : x = x' := encStr_inj ex
      have hC2 := hC.step hlk hat
      have hU2 : Upd (fun k => k = w.heap.size) wr w2 := Upd.grown hg2 fun k hk => by injection hk with hk; exact hk.symm
      have hK2 : KsV w2 w.heap.size u5 ks := World.ownsRow.kept hK hg2 (Or.inr (row_ne_iter hK hrg).symm)
      have hpre1 := hpre.out ⟨x.toArray⟩ w2
      have hU02 := hU.out.trans hU2 fun k hk e => by omega
      obtain ⟨bb, hbb⟩ : ∃ bb, bb = p.data.toList.isPrefixOf x := ⟨_, rfl⟩
      have hbe : Lib.hasPrefix (⟨x.toArray⟩ : ByteArray).data.toList p.data.toList = bb := by rw [hbb]; rfl
      rw [hbe] at hpre1
      have zw2 := hU2.size
      replace hpre1 := hide hpre1
      replace hU02 := hide hU02
      replace hU2 := hide hU2
      replace hC2 := hide hC2
      replace hrg2 := hide hrg2
      replace hat := hide hat
      replace hv := hide hv
      replace hg2 := hide hg2
      replace hks := hide hks
      replace hbb := hide hbb
      replace hC := hide hC
      have hrgo := hide hrg
      have hsl : ∃ a n c, u5 = .slice a n c := by
        rcases hK2.2 with ⟨rfl, _⟩ | ⟨g, cap, cur, rfl, _⟩
        · exact ⟨_, _, _, rfl⟩
        · exact ⟨_, _, _, rfl⟩
      obtain ⟨A2, n2, c2, rfl⟩ := hsl
      replace hK2 := hide hK2
      replace hK := hide hK
      clear hs2 hkey hlk hrg hbe
      unfold Go.Proofs.encStr at hen ⊢
      go_wp2_with fail
      refine hpre1.out.mono ?_
      rintro e w3 ⟨rfl, rfl⟩
      cases bb with
      | false =>
        have hfil : (ss ++ [x]).filter (fun x => p.data.toList.isPrefixOf x) = ks := by rw [List.filter_append, hks.out]; simp [← hbb.out]
        replace hfil := hide hfil
        go_wp2_with fail
        go_roundw
        case rel => exact ⟨_, cnt2, ss ++ [x], hrg2.out, by simp; omega, hC2.out, by rw [hfil.out]; exact hK2.out, hU02.out⟩
        case measure => rw [hrg2.out.left_eq, hrgo.out.left_eq]; exact hlt
      | true =>
        have hfil : (ss ++ [x]).filter (fun x => p.data.toList.isPrefixOf x) = ks ++ [x] := by rw [List.filter_append, hks.out]; simp [← hbb.out]
        replace hfil := hide hfil
        go_wp2_with (first
          | (at_builtin; refine wpList_append_own _ rfl _ _ 68 rfl w.heap.size 9 i0 (.string ⟨#[]⟩) 1 16 Tryz.underlying68 hi.out hz0.out hz1.out hz2.out rfl (by decide) _ _ _ rfl (World.ownsRow.alloc hK2.out _) ⟨w3.heap.size, 0, none⟩ 1 1 [encStr x] rfl rfl (cell_one_new _ _ _) (by simp [Value.oneCell', encStr]) (by unfold maxLen at *; omega) (by omega) (by simp; omega) ?_; intro v' w4 hown' hg3 hnil3; go_frame)
          | go_in)
        have hKa : KsV (w3.alloc (.cells #[encStr x] 9)) w.heap.size (.slice A2 n2 c2) ks := World.ownsRow.alloc hK2.out _
        have hrg4 := World.ranges.kept (hrg2.out.alloc _) hg3 (row_ne_low hKa hbl) (row_ne_iter hKa (hrg2.out.alloc _))
        have hU4 : Upd (fun _ => False) w w4 := (hU02.out.then (Upd.alloc _ _ _)).trans (Upd.grown (F := fun k => Own (.slice A2 n2 c2) k) hg3 fun k hk => hk) fun k hk hO => by
          have := (own_lt hK2.out hO).1
          omega
        refine ⟨⟨_, cnt2, ss ++ [x], hrg4, by simp; omega, hC2.out, ?_, hU4⟩, ?_⟩
        · rw [hfil.out]
          unfold KsV
          simpa using hown'
        · rw [hrg4.left_eq, hrgo.out.left_eq]; exact hlt
end Go.Proofs.YtpnboihbifhigaaGreatDoor
/- augurhelp.Strings; PrsV of a new block; Down. -/
namespace Go.Proofs.YtpnboihbifhigaaGreatDoor
open Go Go.RowKit
theorem below_drewN {B : Nat} {a w : World} (h : Below B a w) (n : Nat) : Below B a (w.drewN n) := ⟨h.os, h.tape, h.output, h.size, h.block⟩
theorem beq_strs {x y : ByteArray} : (x.toList == y.toList) = decide (x = y) := by
  rw [Bool.eq_iff_iff, beq_iff_eq, decide_eq_true_eq, ByteArray.toList_eq, ByteArray.toList_eq]
  refine ⟨fun e => ByteArray.ext (Array.toList_inj.1 e), fun e => by rw [e]⟩
theorem PrsV.new {w : World} {g : Nat} {S : Nat → Prop} {ps : List PairD} {t : TypeId} {cs : Array Value} {n : Nat} (h : w.heap[g]? = some (.cells cs t)) (hcs : cs = (ps.map pairCells).flatten.toArray) (hn : n = ps.length) (hS : S g) (hl : n ≤ maxLen) : PrsV w S (.slice (some ⟨g, 0, none⟩) n n) ps := by
  subst hn
  refine ⟨some ⟨g, 0, none⟩, ps.length, rfl, Nat.le_refl _, hl, .inr ⟨g, 0, rfl, hS, fun i u hi => ?_⟩⟩
  rw [Nat.zero_add, cell_at h, hcs, ← hi]
  simp
theorem down_any {w : World} {q lb mb : Nat} {down : Bool} (h : StV w q lb mb down) : Calls Tryz.prog 17 #[.pointer (some ⟨q, 0, none⟩)] w fun e w' => e = .returned (.bool down) ∧ w' = w := by
  have c1 := h.cell 1
  replace h := hide h
  go_enter Tryz.func17, Tryz.ntmps17
  go_wp2_with fail
  go_ret
  exact ⟨rfl, rfl⟩
set_option maxRecDepth 100000 in
set_option maxHeartbeats 1000000 in
theorem strings_any {w : World} {S1 S2 : Nat → Prop} {v1 v2 : Value} {ss ts : List ByteArray} (h1 : ArgV w S1 v1 (ss.map Value.string)) (h2 : ArgV w S2 v2 (ts.map Value.string)) :
    Calls Tryz.prog 25 #[v1, v2] w fun e w' => e = .returned (.bool (decide (ss = ts))) ∧ Below w.heap.size w w' := by
  obtain ⟨A1, c1, rfl, a1, a2, -⟩ := id h1
  obtain ⟨A2, c2, rfl, b1, b2, -⟩ := id h2
  simp only [List.length_map] at a1 a2 b1 b2 ⊢
  simp only [List.length_map] at h1 h2
  have hm1 : ss.length ≤ 9223372036854775807 := by unfold maxLen at a2; omega
  have hm2 : ts.length ≤ 9223372036854775807 := by unfold maxLen at b2; omega
  obtain ⟨n1, hn1⟩ : ∃ n, n = ss.length := ⟨_, rfl⟩
  obtain ⟨n2, hn2⟩ : ∃ n, n = ts.length := ⟨_, rfl⟩
  replace h1 := hide h1
  replace h2 := hide h2
  by_cases hl : ss.length = ts.length
  · rw [hl] at h1 hm1
    rw [show (Value.slice A1 ss.length c1) = .slice A1 ts.length c1 by rw [hl]]
    replace hl := hide hl
    replace hn1 := hide hn1
    replace hn2 := hide hn2
    go_enter Tryz.func25, Tryz.ntmps25
    go_wp2_with fail
    go_loopw [5] (fun i wr => ∃ k : Nat, k ≤ ts.length ∧ i = .int .i64 k ∧ Below w.heap.size w wr ∧ ss.take k = ts.take k) (fun i _ => ts.length - (intOf i).toNat)
    case atStart => exact ⟨0, Nat.zero_le _, rfl, .refl _ _, rfl⟩
    case round =>
      obtain ⟨k, hk, rfl, hbw, hke⟩ := hrel
      have hu := Upd.of_below (fun _ => False) hbw
      rcases Nat.lt_or_ge k ts.length with hlt | hge
      · have hlt1 : k < ss.length := by rw [hl.out]; exact hlt
        obtain ⟨g1, o1, rfl, -, d1⟩ := h1.out.get (i := k) (u := .string ss[k]) (by simp [hlt1])
        replace d1 := hu.cell d1 id
        obtain ⟨g2, o2, rfl, -, d2⟩ := h2.out.get (i := k) (u := .string ts[k]) (by simp [hlt])
        replace d2 := hu.cell d2 id
        replace hbw := hide hbw
        clear hu
        have hs1 : ss.take (k + 1) = ss.take k ++ [ss[k]] := List.take_succ_eq_append_getElem hlt1
        have hs2 : ts.take (k + 1) = ts.take k ++ [ts[k]] := List.take_succ_eq_append_getElem hlt
        have hne : ss[k] ≠ ts[k] → ss ≠ ts := fun h e => h (by subst e; rfl)
        generalize ss[k] = x at *
        generalize ts[k] = y at *
        replace hs1 := hide hs1
        replace hs2 := hide hs2
        replace hke := hide hke
        replace hne := hide hne
        by_cases hxy : x = y
        · subst hxy
          go_wp2_with (go_quiet (fail))
          go_roundw
          case rel => exact ⟨k + 1, hlt, by go_num, below_drewN hbw.out _, by rw [hs1.out, hs2.out, hke.out]⟩
          case measure => simp [intOf]; omega
        · have hdx : (x.toList == y.toList) = false := by rw [beq_strs]; simpa using hxy
          have hf : decide (ss = ts) = false := by simpa using hne.out hxy
          replace hf := hide hf
          go_wp2_with (go_quiet (fail))
          go_ret
          rw [hf.out]
          exact ⟨rfl, below_drewN hbw.out _⟩
      · obtain rfl : k = ts.length := by omega
        have ht : decide (ss = ts) = true := by
          rw [List.take_length, ← hl.out, List.take_length] at hke
          simpa using hke
        replace ht := hide ht
        replace hke := hide hke
        go_wp2_with fail
        go_ret
        rw [ht.out]
        exact ⟨rfl, hbw⟩
  · have hf : decide (ss = ts) = false := by
      simp only [decide_eq_false_iff_not]
      exact fun e => hl (by rw [e])
    replace hf := hide hf
    rw [← hn1, ← hn2] at *
    replace hn1 := hide hn1
    replace hn2 := hide hn2
    go_enter Tryz.func25, Tryz.ntmps25
    go_wp2_with fail
    go_ret
    rw [hf.out]
    exact ⟨rfl, .refl _ _⟩
end Go.Proofs.YtpnboihbifhigaaGreatDoor
