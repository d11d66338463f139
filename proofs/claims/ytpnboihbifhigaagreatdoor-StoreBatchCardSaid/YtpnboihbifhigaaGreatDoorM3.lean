/- Part 3 of the walks (merged): Concat, Take, Chunk, Order. -/
import Derived.Test.YtpnboihbifhigaaGreatDoorM2
import Derived.Lib.AppendZeros
import Derived.RangeFuncNested
import Derived.RangeFuncBound
import Derived.RangeFuncCalls
import Derived.RangeFuncLeaves
import Derived.RangeFuncWrites
import Derived.WalkKit
import Derived.OwnWalkIn
import Derived.TacticsInMore
import Derived.LoopNIn
import Derived.LoopIn
import Derived.Test.YtpnboihbifhigaaGreatDoorM1
import Derived.RegionTactic
/- slices.Grow of nothing, slices.Concat. -/
namespace Go.Proofs.YtpnboihbifhigaaGreatDoor
open Go Go.RowKit
theorem run_append_none {w : World} {a : Addr} {n c : Nat} (h : n ≤ c) (ty : TypeId) : (Builtin.append_ #[62, 62] ty #[.slice (some a) n c, .slice none 0 0]).run Tryz.prog w = .ok (.slice (some a) n c) w := by
  obtain ⟨i0, hi, hz0, hz1, hz2⟩ := info_parts byte_info
  simp [Builtin.append_, run_underlying Tryz.underlying62, sizeOf, typeInfo, hi, Builtin.lenOf, Builtin.firstCells, loadCells, storeCells, h]
theorem run_append_nones {w : World} (ty : TypeId) : (Builtin.append_ #[62, 62] ty #[.slice none 0 0, .slice none 0 0]).run Tryz.prog w = .ok (.slice none 0 0) w := by
  obtain ⟨i0, hi, hz0, hz1, hz2⟩ := info_parts byte_info
  simp [Builtin.append_, run_underlying Tryz.underlying62, sizeOf, typeInfo, hi, Builtin.lenOf, Builtin.firstCells]
theorem RowB.append_none {w : World} {B : Nat} {v : Value} {l : List UInt8} (h : RowB w B v l) (ty : TypeId) : (Builtin.append_ #[62, 62] ty #[v, .slice none 0 0]).run Tryz.prog w = .ok v w := by
  rcases h.2 with ⟨rfl, h0⟩ | ⟨g, cap, cur, rfl, hb, hg, hle, -⟩
  · exact run_append_nones ty
  · exact run_append_none hle ty
theorem wp_append_run {w w' : World} {ops : Array Oper} {rest : List Oper} {o : Oper} {a : Act} {Q : Exit → Act → World → Prop} (hgd : o.guard = none) (s x : Operand) (t1 t2 : TypeId) (ho : o.op = .call { callee := .builtin .append, args := #[s, x], argTypes := #[t1, t2] })
    (vs vx v' : Value) (hs : a.eval s = vs) (hx : a.eval x = vx) (hr : (Builtin.append_ #[t1, t2] o.type #[vs, vx]).run Tryz.prog w = .ok v' w') (h : wpList Tryz.prog ops Q rest (a.put o.dst v') w') : wpList Tryz.prog ops Q (o :: rest) a w := by
  refine wpList_plain hgd fun K hK => ?_
  unfold Oper.wp execOp
  simp only [ho, resolve, invoke, builtin, Sem.run_bind, Sem.run_pure, Result.andThen_ok, List.map_toArray, List.map_cons, List.map_nil, hs, hx, hr]
  exact hK _ _ h
set_option maxRecDepth 100000 in
theorem grow_any {w : World} (n : Nat) (hn : 0 < n) (hn2 : n ≤ 4294967296) : Calls Tryz.prog 137 #[.slice none 0 0, .int .i64 n] w fun e w' => ∃ v', e = .returned v' ∧ NonNil v' ∧ RowB w' w.heap.size v' [] ∧ Below w.heap.size w w' := by
  obtain ⟨i0, hi, hz0, hz1, hz2⟩ := info_parts byte_info
  have happ := Lib.run_append_nil_zeros (P := Tryz.prog) w 62 3 62 5 i0 (.int .u8 0) .i64 .i64 Tryz.underlying62 Tryz.underlying3 hi hz0 n hn (by omega) (by omega) (by rw [hz2]; omega)
  have hge := grownCap_ge w n 0 5
  have hle := grownCap_le_maxLen w n 0 5 (by unfold maxLen; omega)
  generalize grownCap w n 0 5 = cap2 at happ hge hle
  have hle' : cap2 ≤ 9223372036854775807 := by unfold maxLen at hle; exact hle
  have hZs : (Builtin.zeroCells (Value.int .u8 0).cells n ++ Builtin.zeroCells (Value.int .u8 0).cells (cap2 - n)).size = cap2 := by simp [size_zeroCells, Value.cells]; omega
  generalize (Builtin.zeroCells (Value.int .u8 0).cells n ++ Builtin.zeroCells (Value.int .u8 0).cells (cap2 - n)) = Z at happ hZs
  obtain ⟨W1, hW1⟩ : ∃ W1, W1 = w.drew.alloc (.cells Z 5) := ⟨_, rfl⟩
  have hblk : W1.heap[w.heap.size]? = some (.cells Z 5) := by rw [hW1]; exact heap_new w.drew _
  have hB : Below w.heap.size w W1 := by rw [hW1]; exact ((Below.refl _ w).drew).alloc (Nat.le_refl _) _
  rw [← hW1] at happ
  clear hi hz0 hz1 hz2 hW1
  replace hblk := hide hblk
  replace hB := hide hB
  replace hZs := hide hZs
  replace happ := hide happ
  go_enter Tryz.func137, Tryz.ntmps137
  go_wp2_with (at_builtin; refine wp_append_run rfl (.tmp 20) (.tmp 21) 62 3 rfl _ _ _ rfl rfl happ.out ?_)
  go_ret
  refine ⟨_, rfl, ⟨_, _, _, rfl⟩, ⟨rfl, .inr ⟨w.heap.size, cap2, Z, rfl, Nat.le_refl _, hblk.out, Nat.zero_le _, hle, by simpa using hZs.out, by simp [bv]⟩⟩, hB.out⟩
theorem flat_take (rs : List (List UInt8)) (k : Nat) (h : k < rs.length) : (rs.take (k + 1)).flatten = (rs.take k).flatten ++ rs[k] := by
  rw [List.take_succ_eq_append_getElem h, List.flatten_append]; simp
theorem flat_le (rs : List (List UInt8)) (k : Nat) : (rs.take k).flatten.length ≤ rs.flatten.length := by
  conv => rhs; rw [← List.take_append_drop k rs, List.flatten_append]
  simp
/-- Rows to be put together: some may be nil. -/
def RowsN (w : World) (S : Nat → Prop) (v : Value) (rs : List (List UInt8)) : Prop :=
  ∃ vs, vs.length = rs.length ∧ ArgV w S v vs ∧ ∀ (i : Nat) (u : Value) (r : List UInt8), vs[i]? = some u → rs[i]? = some r → ArgV w S u (bv r) ∧ (NonNil u ∨ u = .slice none 0 0)
set_option maxRecDepth 100000 in
set_option maxHeartbeats 1000000 in
theorem concat_any {w : World} {S : Nat → Prop} {v : Value} {rs : List (List UInt8)} (h : RowsN w S v rs) (hpos : 0 < rs.flatten.length) (hl : rs.flatten.length ≤ 4294967296) :
    Calls Tryz.prog 94 #[v] w fun e w' => ∃ v', e = .returned v' ∧ NonNil v' ∧ RowB w' w.heap.size v' rs.flatten ∧ Below w.heap.size w w' := by
  obtain ⟨vs, hvs, ha, hrs⟩ := h
  obtain ⟨A, c, rfl, hc1, hc2, hcells⟩ := ha
  rw [hvs] at hc1 ⊢
  have hc2' : c ≤ 9223372036854775807 := by unfold maxLen at hc2; exact hc2
  replace hrs := hide hrs
  replace hcells := hide hcells
  replace hc2 := hide hc2
  replace hvs := hide hvs
  obtain ⟨T, hT⟩ : ∃ T, T = rs.flatten.length := ⟨_, rfl⟩
  have hfl := flat_le rs
  rw [← hT] at hpos hl
  simp only [← hT] at hfl
  have hft := flat_take rs
  replace hT := hide hT
  replace hfl := hide hfl
  replace hft := hide hft
  have hat : ∀ k, k < rs.length → ∃ b o u, A = some ⟨b, o, none⟩ ∧ w.cell? ⟨b, o + k, none⟩ = some u ∧ ArgV w S u (bv (rs.getD k [])) ∧ (NonNil u ∨ u = .slice none 0 0) := by
    intro k hk
    obtain ⟨u, hu⟩ : ∃ u, vs[k]? = some u := ⟨vs[k]'(by rw [hvs.out]; exact hk), List.getElem?_eq_getElem _⟩
    obtain ⟨b, o, rfl, hS, hc⟩ : ∃ b o, A = some ⟨b, o, none⟩ ∧ S b ∧ w.cell? ⟨b, o + k, none⟩ = some u := by
      rcases hcells.out with h | ⟨b, o, h1, h2, h3⟩
      · rw [h] at hu; simp at hu
      · exact ⟨b, o, h1, h2, h3 k u hu⟩
    have hru := hrs.out k u (rs.getD k []) hu (by rw [List.getD_eq_getElem?_getD, List.getElem?_eq_getElem hk]; rfl)
    exact ⟨b, o, u, rfl, hc, hru.1, hru.2⟩
  replace hat := hide hat
  go_enter Tryz.func94, Tryz.ntmps94
  go_wp2_with fail
  go_loopw [3, 11] (fun z i wr => ∃ k : Nat, k ≤ rs.length ∧ i = .int .i64 k ∧ z = .int .i64 ((rs.take k).flatten.length : Nat) ∧ wr = w) (fun _ i _ => rs.length - (intOf i).toNat)
  case atStart => exact ⟨0, Nat.zero_le _, rfl, by simp, rfl⟩
  case round =>
    obtain ⟨k, hk, rfl, rfl, hwr⟩ := hrel
    obtain rfl : w = wr := hwr.symm
    rcases Nat.lt_or_ge k rs.length with hlt | hge
    · obtain ⟨b, o, u, rfl, hc, hu, -⟩ := hat.out k hlt
      obtain ⟨A2, c2, rfl, -⟩ := hu
      have hf1 := hfl.out (k + 1)
      have hf2 := hft.out k hlt
      have hget : rs.getD k [] = rs[k] := by rw [List.getD_eq_getElem?_getD, List.getElem?_eq_getElem hlt]; rfl
      rw [hget, bv_len] at hc
      rw [hf2, List.length_append] at hf1
      obtain ⟨n, hn⟩ : ∃ n, n = (rs.take k).flatten.length := ⟨_, rfl⟩
      obtain ⟨m, hm⟩ : ∃ m, m = rs[k].length := ⟨_, rfl⟩
      rw [← hn, ← hm] at hf1
      rw [← hm] at hc
      rw [← hn]
      replace hn := hide hn
      replace hm := hide hm
      replace hf2 := hide hf2
      clear hget
      go_wp2_with fail
      go_roundw
      case rel =>
        refine ⟨k + 1, hlt, by go_num, ?_, by simp⟩
        rw [hf2.out, List.length_append, ← hn.out, ← hm.out]
        go_num
      case measure => simp [intOf]; omega
    · obtain rfl : k = rs.length := by omega
      clear hge
      rw [List.take_length, ← hT.out]
      go_wp2_with fail
      refine (grow_any T hpos hl).mono ?_
      rintro e w1 ⟨v1, rfl, hnn1, h1, hb1⟩
      have hu1 : Upd (fun _ => False) w w1 := .of_below _ hb1
      have hsz := hu1.size
      obtain ⟨A1, n1, c1, rfl⟩ := h1.slice
      replace h1 := hide h1
      replace hu1 := hide hu1
      clear hb1 hnn1
      go_wp2_with fail
      go_loopw [6, 27] (fun z i wx => ∃ k : Nat, k ≤ rs.length ∧ i = .int .i64 k ∧ RowB wx w.heap.size z (rs.take k).flatten ∧ Upd (fun _ => False) w wx) (fun _ i _ => rs.length - (intOf i).toNat)
      case atStart => exact ⟨0, Nat.zero_le _, rfl, by simpa using h1.out, hu1.out⟩
      case round =>
        obtain ⟨k, hk, rfl, hb, hU⟩ := hrel
        obtain ⟨A2, n2, c2, rfl⟩ := hb.slice
        replace hb := hide hb
        replace hU := hide hU
        rcases Nat.lt_or_ge k rs.length with hlt | hge
        · obtain ⟨b, o, u, rfl, hc, hu, hnu⟩ := hat.out k hlt
          have hf1 := hfl.out (k + 1)
          have hf2 := hft.out k hlt
          have hget : rs.getD k [] = rs[k] := by rw [List.getD_eq_getElem?_getD, List.getElem?_eq_getElem hlt]; rfl
          rw [hget] at hu
          have hc' := hU.out.cell hc id
          have hu' := hu.upd hU.out fun _ _ => id
          have hud := ArgV.mono' hu' hu
          have hdis : ∀ j, (S j ∧ j < w.heap.size) → ¬ Own (.slice A2 n2 c2) j := fun j hj ho => by have := (hb.out.own_ge ho).1; omega
          rw [hf2, List.length_append] at hf1
          replace hf2 := hide hf2
          replace hu := hide hu
          replace hud := hide hud
          replace hu' := hide hu'
          replace hdis := hide hdis
          clear hc hget
          rcases hnu with hnu | rfl
          · obtain ⟨ad, nu, cu, rfl⟩ := id hnu
            replace hnu := hide hnu
            go_wp2_with (at_builtin; refine wp_cat rfl (.tmp 31) (.tmp 32) rfl w.heap.size _ (rs.take k).flatten rfl hb.out _ _ rs[k] rfl hud.out hnu.out ?_ ?_ ?_)
            · omega
            · exact hU.out.size
            intro v5 w5 h5 m5
            replace h5 := hide h5
            replace m5 := hide m5
            go_wp2_with fail
            go_roundw
            case rel =>
              refine ⟨k + 1, hlt, by go_num, by rw [hf2.out]; exact h5.out, ?_⟩
              exact hU.out.trans m5.out.1 fun j hj ho => by have := (hb.out.own_ge ho).1; omega
            case measure => simp [intOf]; omega
          · have hnil : rs[k] = [] := by
              obtain ⟨_, _, e, _⟩ := hu.out
              injection e with _ e _
              rw [bv_len] at e
              exact List.length_eq_zero_iff.1 e.symm
            replace hnil := hide hnil
            have hap := hb.out.append_none 62
            replace hap := hide hap
            go_wp2_with (at_builtin; refine wp_append_run rfl (.tmp 31) (.tmp 32) 62 62 rfl _ _ _ rfl rfl hap.out ?_)
            go_roundw
            case rel =>
              refine ⟨k + 1, hlt, by go_num, by rw [hf2.out, hnil.out, List.append_nil]; exact hb.out, hU.out⟩
            case measure => simp [intOf]; omega
        · obtain rfl : k = rs.length := by omega
          clear hge
          have hfin := hb.out
          rw [List.take_length] at hfin
          have hnn := hfin.nonNil (by have := hT.out; omega)
          replace hfin := hide hfin
          replace hnn := hide hnn
          go_wp2_with fail
          go_ret
          exact ⟨_, rfl, hnn.out, hfin.out, hU.out.below (Nat.le_refl _) fun _ h => h.elim⟩
end Go.Proofs.YtpnboihbifhigaaGreatDoor
/- Walks of the reader of frames. -/
namespace Go.Proofs.YtpnboihbifhigaaGreatDoor
open Go Go.RowKit
open Sums (crc)
abbrev At (p : Nat) : Nat → Prop := fun k => k = p
/-- The reader at block p has the bytes l left, in blocks of S. -/
def RdV (w : World) (p : Nat) (S : Nat → Prop) (l : List UInt8) : Prop := ∃ v, w.heap[p]? = some (.cells #[v] 132) ∧ ArgV w S v (bv l) ∧ ¬ S p
theorem RdV.upd {w w' : World} {F : Nat → Prop} {p : Nat} {S : Nat → Prop} {l : List UInt8} (h : RdV w p S l) (hu : Upd F w w') (hp : ¬ F p) (hS : ∀ k, S k → ¬ F k) : RdV w' p S l := by
  obtain ⟨v, h1, h2, h3⟩ := h
  exact ⟨v, hu.heap h1 hp, h2.upd hu hS, h3⟩
theorem ArgV.cut' {w : World} {S : Nat → Prop} {A : Option Addr} {c : Nat} {l : List UInt8} (h : ArgV w S (.slice A l.length c) (bv l)) (k : Nat) (hk : k ≤ l.length) : ArgV w S (.slice (Option.map (fun x => x.add k) A) (l.length - k) (c - k)) (bv (l.drop k)) := by
  obtain ⟨A0, c0, h1, h2, h3, h4⟩ := h
  injection h1 with e1 e2 e3
  subst e1 e3
  have hl : (bv (l.drop k)).length = l.length - k := by rw [bv_len, List.length_drop]
  rw [bv_len] at h2
  refine ⟨_, _, by rw [hl], by omega, by omega, ?_⟩
  have e : bv (l.drop k) = (bv l).drop k := by unfold bv; rw [List.map_drop]
  rw [e]
  rcases h4 with h4 | ⟨b, o, rfl, hS, hc⟩
  · exact .inl (by rw [h4]; simp)
  · refine .inr ⟨b, o + k, by simp [Addr.add], hS, fun i u hi => ?_⟩
    rw [List.getElem?_drop] at hi
    have := hc (k + i) u hi
    rwa [← Nat.add_assoc] at this
theorem ArgV.take' {w : World} {S : Nat → Prop} {A : Option Addr} {c n : Nat} {l : List UInt8} (h : ArgV w S (.slice A n c) (bv l)) (k : Nat) (hk : k ≤ l.length) : ArgV w S (.slice A k c) (bv (l.take k)) := by
  obtain ⟨A0, c0, h1, h2, h3, h4⟩ := h
  injection h1 with e1 e2 e3
  subst e1 e3
  rw [bv_len] at h2
  have hl : (bv (l.take k)).length = k := by rw [bv_len, List.length_take]; omega
  refine ⟨A, c, by rw [hl], by omega, h3, ?_⟩
  have e : bv (l.take k) = (bv l).take k := by unfold bv; rw [List.map_take]
  rw [e]
  rcases h4 with h4 | ⟨b, o, rfl, hS, hc⟩
  · exact .inl (by rw [h4]; simp)
  · refine .inr ⟨b, o, rfl, hS, fun i u hi => hc i u ?_⟩
    rw [List.getElem?_take] at hi
    split at hi
    · exact hi
    · cases hi
/-- What a method of the reader comes to: a value, and what is left; or it panics. -/
def Told {α : Type} (p : Nat) (S : Nat → Prop) (w : World) (f : α → World → Value → Prop) (o : Option (α × List UInt8)) (e : Ending) (w' : World) : Prop :=
  Upd (At p) w w' ∧ match o with
    | some (a, r) => ∃ v, e = .returned v ∧ f a w' v ∧ RdV w' p S r
    | none => ∃ pv, e = .panicked [{ v := .iface 199 pv, recovered := false }]
def takeP (n : Nat) (l : List UInt8) : Option (List UInt8 × List UInt8) := if n ≤ l.length then some (l.take n, l.drop n) else none
def numP (l : List UInt8) : Option (Nat × List UInt8) := (takeP 4 l).map fun x => (val4 x.1, x.2)
def frameP (l : List UInt8) : Option (List UInt8 × List UInt8) :=
  (takeP 4 l).bind fun x => (numP x.2).bind fun y => (takeP (val4 x.1) y.2).bind fun z => if y.1 = crc [x.1, z.1] then some z else none
def bytesIn (S : Nat → Prop) (l : List UInt8) (w : World) (v : Value) : Prop := ArgV w S v (bv l)

set_option maxRecDepth 100000 in
theorem take_any {w : World} {p : Nat} {S : Nat → Prop} {l : List UInt8} (h : RdV w p S l) (_hl : l.length ≤ 70368744177664) (n : Nat) (hn : n < 4294967296) :
    Calls Tryz.prog 110 #[.pointer (some ⟨p, 0, none⟩), .int .i64 n] w fun e w' => Told p S w (bytesIn S) (takeP n l) e w' := by
  obtain ⟨v, hh, ha, hS⟩ := h
  obtain ⟨A, c, rfl, hlc, hcm, hs⟩ := id ha
  rw [bv_len] at ha hlc hh
  have hc0 : w.cell? ⟨p, 0, none⟩ = some (.slice A l.length c) := by rw [cell_at hh]; rfl
  have hf0 := frozen_at hh 0
  have hcm' : c ≤ 9223372036854775807 := by unfold maxLen at hcm; exact hcm
  replace hs := hide hs
  replace ha := hide ha
  replace hh := hide hh
  replace hS := hide hS
  by_cases hle : n ≤ l.length
  · go_enter Tryz.func110, Tryz.ntmps110
    go_wp2_with fail
    refine (need_any _ _).mono ?_
    rintro e w' ⟨rfl, h, -⟩
    obtain rfl := h (by simp; try omega)
    go_wp2_with fail
    · obtain rfl : c = n := by first | assumption | omega
      go_ret
      unfold takeP
      rw [if_pos hle]
      refine ⟨.set (F := At p) w (a := ⟨p, 0, none⟩) rfl _, _, rfl, ?_, ?_⟩
      · exact (ha.out.take' _ hle).upd (.set (F := At p) w (a := ⟨p, 0, none⟩) rfl _) fun k hk e => hS.out (e ▸ hk)
      · have hd : l.drop c = [] := List.drop_eq_nil_of_le (by omega)
        rw [hd]
        exact ⟨_, heap_set hh.out 0 _, ⟨A, 0, by rw [bv_len, show l.length - c = 0 by omega]; rfl, Nat.le_refl _, Nat.zero_le _, .inl rfl⟩, hS.out⟩
    · go_ret
      unfold takeP
      rw [if_pos hle]
      refine ⟨.set (F := At p) w (a := ⟨p, 0, none⟩) rfl _, _, rfl, ?_, _, heap_set hh.out 0 _, ?_, hS.out⟩
      · exact (ha.out.take' n hle).upd (.set (F := At p) w (a := ⟨p, 0, none⟩) rfl _) fun k hk e => hS.out (e ▸ hk)
      · exact (ha.out.cut' n hle).upd (.set (F := At p) w (a := ⟨p, 0, none⟩) rfl _) fun k hk e => hS.out (e ▸ hk)
  · go_enter Tryz.func110, Tryz.ntmps110
    go_wp2_with fail
    refine (need_any _ _).mono ?_
    rintro e w' ⟨rfl, -, h⟩
    obtain ⟨pv, rfl⟩ := h (by simp; try omega)
    go_wp2_with fail
    refine ⟨rfl, ?_⟩
    unfold takeP
    rw [if_neg hle]
    exact ⟨.refl _ _, _, rfl⟩
theorem takeP_len {n : Nat} {l a r : List UInt8} (h : takeP n l = some (a, r)) : a.length = n ∧ r.length ≤ l.length := by
  unfold takeP at h
  split at h
  · injection h with h
    injection h with h1 h2
    subst h1 h2
    constructor
    · rw [List.length_take]; omega
    · rw [List.length_drop]; omega
  · cases h
theorem number_any {w : World} {p : Nat} {S : Nat → Prop} {l : List UInt8} (h : RdV w p S l) (hl : l.length ≤ 70368744177664) :
    Calls Tryz.prog 111 #[.pointer (some ⟨p, 0, none⟩)] w fun e w' => Told p S w (fun n _ v => v = .int .i64 (n : Nat)) (numP l) e w' := by
  have ht := take_any h hl 4 (by omega)
  unfold numP
  cases ho : takeP 4 l with
  | none =>
    rw [ho] at ht
    replace ho := hide ho
    go_enter Tryz.func111, Tryz.ntmps111
    go_wp2_with fail
    refine ht.mono ?_
    rintro e w2 ⟨hU, pv, rfl⟩
    go_wp2_with fail
    refine ⟨rfl, ?_⟩
    exact ⟨hU, _, rfl⟩
  | some x =>
    obtain ⟨a, r⟩ := x
    have hla := (takeP_len ho).1
    rw [ho] at ht
    replace ho := hide ho
    go_enter Tryz.func111, Tryz.ntmps111
    go_wp2_with fail
    refine ht.mono ?_
    rintro e w2 ⟨hU, v, rfl, ha, hR⟩
    have hnum := numberOf_any ha hla
    replace hU := hide hU
    replace hR := hide hR
    replace ha := hide ha
    go_wp2_with fail
    refine hnum.mono ?_
    rintro e w3 ⟨rfl, rfl⟩
    go_wp2_with fail
    go_ret
    exact ⟨hU.out, _, rfl, rfl, hR.out⟩
theorem end_any {w : World} {p : Nat} {S : Nat → Prop} {l : List UInt8} (h : RdV w p S l) :
    Calls Tryz.prog 74 #[.pointer (some ⟨p, 0, none⟩)] w fun e w' => w = w' ∧ (l = [] → e = .returned (.tuple #[])) ∧ (l ≠ [] → ∃ pv, e = .panicked [{ v := .iface 199 pv, recovered := false }]) := by
  obtain ⟨v, hh, ha, hS⟩ := h
  obtain ⟨A, c, rfl, hlc, hcm, hs⟩ := ha
  rw [bv_len] at hlc hh
  have hc0 : w.cell? ⟨p, 0, none⟩ = some (.slice A l.length c) := by rw [cell_at hh]; rfl
  clear hs hS hh
  by_cases hle : l = []
  · subst hle
    clear hlc
    simp only [List.length_nil] at hc0
    go_enter Tryz.func74, Tryz.ntmps74
    go_wp2_with fail
    refine (need_any _ _).mono ?_
    rintro e w' ⟨rfl, h, -⟩
    obtain rfl := h (by simp)
    go_wp2_with fail
    go_end0
    exact ⟨rfl, fun _ => rfl, fun h => absurd rfl h⟩
  · have hpos : 0 < l.length := List.length_pos_iff.2 hle
    replace hle := hide hle
    go_enter Tryz.func74, Tryz.ntmps74
    go_wp2_with fail
    refine (need_any _ _).mono ?_
    rintro e w' ⟨rfl, -, h⟩
    obtain ⟨pv, rfl⟩ := h (by simp; first | exact hle.out | omega)
    go_wp2_with fail
    refine ⟨rfl, ?_⟩
    exact ⟨rfl, fun h => absurd h hle.out, fun _ => ⟨_, rfl⟩⟩
set_option maxRecDepth 100000 in
theorem frame_any {w : World} {p : Nat} {S : Nat → Prop} {l : List UInt8} (h : RdV w p S l) (hl : l.length ≤ 70368744177664) (hT : Tab w) (h0 : 1 < p) :
    Calls Tryz.prog 73 #[.pointer (some ⟨p, 0, none⟩)] w fun e w' => Told p S w (fun r w' v => RowB w' w.heap.size v r) (frameP l) e w' := by
  have ht := take_any h hl 4 (by omega)
  unfold frameP
  cases ho : takeP 4 l with
  | none =>
    rw [ho] at ht
    replace ho := hide ho
    go_enter Tryz.func73, Tryz.ntmps73
    go_wp2_with fail
    refine ht.mono ?_
    rintro e w2 ⟨hU, pv, rfl⟩
    go_wp2_with fail
    refine ⟨rfl, ?_⟩
    exact ⟨hU, _, rfl⟩
  | some x =>
    obtain ⟨a, r⟩ := x
    obtain ⟨hla, hlr⟩ := takeP_len ho
    have hsp : ¬ S p := h.choose_spec.2.2
    rw [ho] at ht
    simp only [Option.bind_some]
    replace ho := hide ho
    replace hsp := hide hsp
    replace hT := hide hT
    cases ho2 : numP r with
    | none =>
      replace ho2 := hide ho2
      go_enter Tryz.func73, Tryz.ntmps73
      go_wp2_with fail
      refine ht.mono ?_
      rintro e w2 ⟨hU, v, rfl, ha, hR⟩
      have hn := number_any hR (by omega)
      rw [ho2.out] at hn
      replace hU := hide hU
      replace hR := hide hR
      replace ha := hide ha
      go_wp2_with fail
      refine hn.mono ?_
      rintro e w3 ⟨hU3, pv, rfl⟩
      replace hU3 := hide hU3
      go_wp2_with fail
      refine ⟨rfl, ?_⟩
      exact ⟨hU.out.then hU3.out, _, rfl⟩
    | some y =>
      obtain ⟨ck, r2⟩ := y
      simp only [Option.bind_some]
      have hlr2 : r2.length ≤ r.length := by
        unfold numP at ho2
        cases h3 : takeP 4 r with
        | none => rw [h3] at ho2; cases ho2
        | some z => rw [h3] at ho2; injection ho2 with ho2; injection ho2 with _ ho2; rw [← ho2]; exact (takeP_len (a := z.1) (r := z.2) h3).2
      replace ho2 := hide ho2
      have hva := val_lt a
      cases ho3 : takeP (val4 a) r2 with
      | none =>
        replace ho3 := hide ho3
        go_enter Tryz.func73, Tryz.ntmps73
        go_wp2_with fail
        refine ht.mono ?_
        rintro e w2 ⟨hU, v, rfl, ha, hR⟩
        have hn := number_any hR (by omega)
        rw [ho2.out] at hn
        replace hU := hide hU
        replace hR := hide hR
        replace ha := hide ha
        go_wp2_with fail
        refine hn.mono ?_
        rintro e w3 ⟨hU3, v3, rfl, rfl, hR3⟩
        have ha3 := ha.out.upd hU3 fun k hk e => hsp.out (e ▸ hk)
        have hnum := numberOf_any ha3 hla
        replace hU3 := hide hU3
        replace hR3 := hide hR3
        go_wp2_with fail
        refine hnum.mono ?_
        rintro e w4 ⟨rfl, rfl⟩
        go_wp2_with fail
        have ht2 := take_any hR3.out (by omega) (val4 a) hva
        rw [ho3.out] at ht2
        refine ht2.mono ?_
        rintro e w5 ⟨hU5, pv, rfl⟩
        replace hU5 := hide hU5
        go_wp2_with fail
        refine ⟨rfl, ?_⟩
        exact ⟨(hU.out.then hU3.out).then hU5.out, _, rfl⟩
      | some z =>
        obtain ⟨rec, r3⟩ := z
        obtain ⟨hl3, hl4⟩ := takeP_len ho3
        simp only [Option.bind_some]
        replace ho3 := hide ho3
        by_cases he : ck = crc [a, rec]
        · rw [if_pos he]
          replace he := hide he
          go_enter Tryz.func73, Tryz.ntmps73
          go_wp2_with fail
          refine ht.mono ?_
          rintro e w2 ⟨hU, v, rfl, ha, hR⟩
          have hn := number_any hR (by omega)
          rw [ho2.out] at hn
          replace hU := hide hU
          replace hR := hide hR
          replace ha := hide ha
          go_wp2_with fail
          refine hn.mono ?_
          rintro e w3 ⟨hU3, v3, rfl, rfl, hR3⟩
          have ha3 := ha.out.upd hU3 fun k hk e => hsp.out (e ▸ hk)
          have hnum := numberOf_any ha3 hla
          replace hU3 := hide hU3
          replace hR3 := hide hR3
          go_wp2_with fail
          refine hnum.mono ?_
          rintro e w4 ⟨rfl, rfl⟩
          go_wp2_with fail
          have ht2 := take_any hR3.out (by omega) (val4 a) hva
          rw [ho3.out] at ht2
          refine ht2.mono ?_
          rintro e w5 ⟨hU5, v5, rfl, ha5, hR5⟩
          have ha35 := ha3.upd hU5 fun k hk e => hsp.out (e ▸ hk)
          have hT5 := hT.out.upd ((hU.out.then hU3.out).then hU5) (by omega)
          have hp5 : 1 < w5.heap.size := by obtain ⟨v, hh, _⟩ := hR5; have := (Array.getElem?_eq_some_iff.1 hh).1; omega
          have hck := checksum_any ha35 ha5 hT5 hp5
          replace hU5 := hide hU5
          replace hR5 := hide hR5
          replace ha5 := hide ha5
          clear hnum ht2 hn
          go_wp2_with fail
          refine hck.mono ?_
          rintro e w6 ⟨rfl, hb6⟩
          have hU6 : Upd (At p) w5 w6 := .of_below _ hb6
          have hU60 : Upd (fun _ => False) w5 w6 := .of_below _ hb6
          have hR6 := hR5.out.upd hU60 id fun _ _ => id
          have ha6 := ha5.out.upd hU60 fun _ _ => id
          have hws := ((hU.out.then hU3.out).then hU5.out).then hU6
          replace hU6 := hide hU6
          replace hU60 := hide hU60
          replace hR6 := hide hR6
          replace hws := hide hws
          clear hck hb6
          go_wp2_with fail
          refine (need_any _ _).mono ?_
          rintro e w' ⟨rfl, h, -⟩
          obtain rfl := h (by rw [he.out]; simp)
          go_wp2_with fail
          refine (clone_any ha6 (by omega)).mono ?_
          rintro e w7 ⟨v7, rfl, h7, hb7⟩
          have hU70 : Upd (fun _ => False) w6 w7 := .of_below _ hb7
          replace h7 := hide h7
          replace hU70 := hide hU70
          clear hb7
          go_wp2_with fail
          go_ret
          refine ⟨hws.out.then (hU70.out.mono fun _ _ h => h.elim), _, rfl, ownsRow_base h7.out hws.out.size, hR6.out.upd hU70.out id fun _ _ => id⟩
        · rw [if_neg he]
          replace he := hide he
          go_enter Tryz.func73, Tryz.ntmps73
          go_wp2_with fail
          refine ht.mono ?_
          rintro e w2 ⟨hU, v, rfl, ha, hR⟩
          have hn := number_any hR (by omega)
          rw [ho2.out] at hn
          replace hU := hide hU
          replace hR := hide hR
          replace ha := hide ha
          go_wp2_with fail
          refine hn.mono ?_
          rintro e w3 ⟨hU3, v3, rfl, rfl, hR3⟩
          have ha3 := ha.out.upd hU3 fun k hk e => hsp.out (e ▸ hk)
          have hnum := numberOf_any ha3 hla
          replace hU3 := hide hU3
          replace hR3 := hide hR3
          go_wp2_with fail
          refine hnum.mono ?_
          rintro e w4 ⟨rfl, rfl⟩
          go_wp2_with fail
          have ht2 := take_any hR3.out (by omega) (val4 a) hva
          rw [ho3.out] at ht2
          refine ht2.mono ?_
          rintro e w5 ⟨hU5, v5, rfl, ha5, hR5⟩
          have ha35 := ha3.upd hU5 fun k hk e => hsp.out (e ▸ hk)
          have hT5 := hT.out.upd ((hU.out.then hU3.out).then hU5) (by omega)
          have hp5 : 1 < w5.heap.size := by obtain ⟨v, hh, _⟩ := hR5; have := (Array.getElem?_eq_some_iff.1 hh).1; omega
          have hck := checksum_any ha35 ha5 hT5 hp5
          replace hU5 := hide hU5
          replace hR5 := hide hR5
          replace ha5 := hide ha5
          clear hnum ht2 hn
          go_wp2_with fail
          refine hck.mono ?_
          rintro e w6 ⟨rfl, hb6⟩
          have hU6 : Upd (At p) w5 w6 := .of_below _ hb6
          have hU60 : Upd (fun _ => False) w5 w6 := .of_below _ hb6
          have hR6 := hR5.out.upd hU60 id fun _ _ => id
          have ha6 := ha5.out.upd hU60 fun _ _ => id
          have hws := ((hU.out.then hU3.out).then hU5.out).then hU6
          replace hU6 := hide hU6
          replace hU60 := hide hU60
          replace hR6 := hide hR6
          replace hws := hide hws
          clear hck hb6
          go_wp2_with fail
          refine (need_any _ _).mono ?_
          rintro e w' ⟨rfl, -, h⟩
          obtain ⟨pv, rfl⟩ := h (by have := he.out; simp; omega)
          go_wp2_with fail
          refine ⟨rfl, ?_⟩
          exact ⟨hws.out, _, rfl⟩
end Go.Proofs.YtpnboihbifhigaaGreatDoor
/- slices.Chunk: its pieces, one after another. -/
namespace Go.Proofs.YtpnboihbifhigaaGreatDoor
open Go Go.RowKit
attribute [local go_sem] Oper.semAt_some
/-- l in pieces of n. -/
def chunkL (n : Nat) (l : List UInt8) : List (List UInt8) := if _h : l = [] ∨ n = 0 then [] else l.take n :: chunkL n (l.drop n)
termination_by l.length
decreasing_by
  rw [List.length_drop]
  have : 0 < l.length := List.length_pos_iff.2 fun e => _h (.inl e)
  have : n ≠ 0 := fun e => _h (.inr e)
  omega
theorem chunkL_nil (n : Nat) : chunkL n [] = [] := by rw [chunkL]; simp
theorem chunkL_cons {n : Nat} {l : List UInt8} (hn : 1 ≤ n) (hl : 0 < l.length) : chunkL n l = l.take n :: chunkL n (l.drop n) := by
  rw [chunkL, dif_neg]
  rintro (h | h)
  · rw [h] at hl; simp at hl
  · omega
abbrev Piece (wB : World) (SB : Nat → Prop) (sz : Nat) := { x : Value × List UInt8 // ArgV wB SB x.1 (bv x.2) ∧ x.2.length ≤ sz ∧ NonNil x.1 }
def KpB (b1 b2 : Nat) (A B : World) : Prop := B.heap[b1]? = A.heap[b1]? ∧ B.heap[b2]? = A.heap[b2]?
set_option maxRecDepth 100000 in
set_option maxHeartbeats 1000000 in
theorem chunk_in (m l b1 b2 : Nat) (hm : 1 ≤ m) (wB : World) (SB : Nat → Prop) (sz : Nat) (hsz : 1 ≤ sz) (hsz2 : sz ≤ 4096) (A : Option Addr) (cap : Nat) (l0 : List UInt8) (h0 : ArgV wB SB (.slice A l0.length cap) (bv l0)) (hl0 : l0.length ≤ 70368744177664)
    (J Jx : List (Piece wB SB sz) → World → Prop) (W : World) (hJa : AbidesFrom W.heap.size J)
    (hY : ∀ pre x W1, J pre W1 → pre.length < (chunkL sz l0).length → YieldAt Fence.wide (m - 1) Tryz.prog l #[x.1.1] W1 fun e W' =>
      (e = .returned (.bool true) ∧ J (pre ++ [x]) W' ∧ KpB b1 b2 W1 W') ∨ (e = .returned (.bool false) ∧ Jx (pre ++ [x]) W'))
    (c1 : W.heap[b1]? = some (.cells #[.slice A l0.length cap] 62)) (c2 : W.heap[b2]? = some (.cells #[.int .i64 sz] 3)) (hJ0 : J [] W) :
    CallsIn Fence.wide m Tryz.prog 177 #[.func (.yield l) #[] #[], .pointer (some ⟨b1, 0, none⟩), .pointer (some ⟨b2, 0, none⟩)] W fun e W' => (∃ v, e = .returned v) ∧
      ((∃ xs : List (Piece wB SB sz), xs.map (·.1.2) = chunkL sz l0 ∧ J xs W') ∨ (∃ pre, True ∧ Jx pre W')) := by
  obtain ⟨A0, cc, he, hlc, hcm, hcells⟩ := id h0
  injection he with e1 e2 e3
  subst e1 e3
  clear e2
  rw [bv_len] at hlc
  have hcm' : cap ≤ 9223372036854775807 := by unfold maxLen at hcm; exact hcm
  clear hcells
  replace h0 := hide h0
  replace hJa := hide hJa
  refine callsIn_of_wp Tryz.func177 rfl trivial ?_ rfl
  simp only [Tryz.ntmps177, List.size_toArray, List.length_cons, List.length_nil, Nat.reduceAdd, Nat.reduceSub, Array.replicate_succ, Array.replicate_zero, List.push_toArray, List.append_toArray, List.nil_append, List.cons_append]
  gi_wp2
  gi_loopw [4] (fun p wr => ∃ (i : Nat) (pre : List (Piece wB SB sz)), p = .int .i64 i ∧ i ≤ l0.length + sz ∧ pre.map (·.1.2) ++ chunkL sz (l0.drop i) = chunkL sz l0 ∧ J pre wr ∧ wr.heap[b1]? = some (.cells #[.slice A l0.length cap] 62) ∧ wr.heap[b2]? = some (.cells #[.int .i64 sz] 3)) (fun p _ => l0.length + sz - (intOf p).toNat)
  case atStart => exact ⟨0, [], rfl, Nat.zero_le _, by simp, hJ0, c1, c2⟩
  case round =>
    obtain ⟨i, pre, rfl, hi, hE, hJ, c1', c2'⟩ := hrel
    clear c1 c2
    have d1 : wr.cell? ⟨b1, 0, none⟩ = some (.slice A l0.length cap) := by rw [cell_at c1']; rfl
    have d2 : wr.cell? ⟨b2, 0, none⟩ = some (.int .i64 sz) := by rw [cell_at c2']; rfl
    replace hE := hide hE
    by_cases hlt : i < l0.length
    · have hic : ¬ cap = i := by omega
      obtain ⟨b, o, rfl⟩ : ∃ b o, A = some ⟨b, o, none⟩ := by
        obtain ⟨A9, c9, q1, q2, q3, q4⟩ := h0.out
        injection q1 with r1 r2 r3
        rcases q4 with q4 | ⟨b', o', q5, q6, q7⟩
        · have := congrArg List.length q4
          rw [bv_len] at this
          simp only [List.length_nil] at this
          omega
        · exact ⟨b', o', r1.trans q5⟩
      obtain ⟨e, he⟩ : ∃ e, e = min sz (l0.length - i) := ⟨_, rfl⟩
      have he1 : 1 ≤ e := by omega
      have he2 : e ≤ sz := by omega
      have he3 : i + e ≤ l0.length := by omega
      have hdl : (l0.drop i).length = l0.length - i := List.length_drop
      have hte : (l0.drop i).take sz = (l0.drop i).take e := by
        rcases Nat.le_total sz (l0.length - i) with h | h
        · rw [show e = sz by omega]
        · rw [List.take_of_length_le (by omega), List.take_of_length_le (by omega)]
      have hcc := chunkL_cons hsz (l := l0.drop i) (by omega)
      rw [hte, List.drop_drop] at hcc
      have hE2 := hE.out
      rw [hcc] at hE2
      have hpa : ArgV wB SB (.slice (some ⟨b, o + i, none⟩) e e) (bv ((l0.drop i).take e)) := by
        have h1 := h0.out.cut' i (by omega)
        have h2 := h1.take' e (by omega)
        obtain ⟨A9, c9, q1, q2, q3, q4⟩ := h2
        injection q1 with r1 r2 r3
        have hle : (bv ((l0.drop i).take e)).length = e := by rw [bv_len, List.length_take]; omega
        refine ⟨some ⟨b, o + i, none⟩, e, by rw [hle], by rw [hle]; exact Nat.le_refl _, by unfold maxLen; omega, ?_⟩
        rcases q4 with q4 | ⟨b', o', q5, q6, q7⟩
        · exact .inl q4
        · rw [← r1] at q5
          rw [Option.map_some, Go.WideShapes.add_plain] at q5
          exact .inr ⟨b', o', q5, q6, q7⟩
      obtain ⟨xp, hxp⟩ : ∃ xp : Piece wB SB sz, xp.1 = (.slice (some ⟨b, o + i, none⟩) e e, (l0.drop i).take e) := ⟨⟨(.slice (some ⟨b, o + i, none⟩) e e, (l0.drop i).take e), hpa, by rw [List.length_take]; omega, ⟨_, _, _, rfl⟩⟩, rfl⟩
      obtain ⟨fn, tmps, assign, body, hy, hR⟩ := hY pre xp wr.drew (hJa.out pre wr wr.drew none hJ ⟨rfl, rfl, rfl, Nat.le_refl _, fun _ _ _ => rfl⟩ (fun r h => by cases h)) (by
        have := congrArg List.length hE2
        simp only [List.length_append, List.length_map, List.length_cons] at this
        omega)
      rw [hxp] at hy
      dsimp only at hy
      have hxl : xp.1.2 = (l0.drop i).take e := by rw [hxp]
      replace hxl := hide hxl
      clear hxp
      replace hE2 := hide hE2
      replace hpa := hide hpa
      replace hte := hide hte
      replace hcc := hide hcc
      have hmin : (if l0.length - i < sz then ((l0.length - i : Nat) : Int) else (sz : Int)) = (e : Int) := by split <;> omega
      subst he
      gi_wp2
      gi_region
      all_goals
        gi_wp2
        refine hR.mono ?_
        rintro e' W3 (⟨rfl, hJ3, hk3⟩ | ⟨rfl, hJx3⟩)
        · have c3 := hk3.1.trans c1'
          have c4 := hk3.2.trans c2'
          have d3 : W3.cell? ⟨b2, 0, none⟩ = some (.int .i64 sz) := by rw [cell_at c4]; rfl
          gi_wp2
          go_roundw
          case rel =>
            refine ⟨i + sz, pre ++ [xp], by go_num, by omega, ?_, hJ3, c3, c4⟩
            rw [← hE2.out, List.map_append, List.append_assoc]
            simp [hxl.out]
          case measure => simp [intOf]; omega
        · gi_wp2
          refine bodyPost_ret (results_none rfl _ _ _) rfl ?_
          exact ⟨⟨_, rfl⟩, .inr ⟨_, trivial, hJx3⟩⟩
    · have hend : l0.drop i = [] := List.drop_eq_nil_of_le (by omega)
      have hE2 := hE.out
      rw [hend, chunkL_nil, List.append_nil] at hE2
      replace hE2 := hide hE2
      clear hend
      gi_wp2
      go_end0
      exact ⟨⟨_, rfl⟩, .inl ⟨pre, hE2.out, hJ⟩⟩
theorem chunk_stops (m b1 b2 : Nat) (hm : 1 ≤ m) (wB w : World) (SB : Nat → Prop) (sz : Nat) (hsz : 1 ≤ sz) (hsz2 : sz ≤ 4096) (A : Option Addr) (cap : Nat) (l0 : List UInt8) (h0 : ArgV wB SB (.slice A l0.length cap) (bv l0)) (hl0 : l0.length ≤ 70368744177664)
    (c1 : w.heap[b1]? = some (.cells #[.slice A l0.length cap] 62)) (c2 : w.heap[b2]? = some (.cells #[.int .i64 sz] 3)) :
    SeqStopsK Fence.wide m Tryz.prog 177 #[.pointer (some ⟨b1, 0, none⟩), .pointer (some ⟨b2, 0, none⟩)] (fun x : Piece wB SB sz => #[x.1.1]) (KpB b1 b2) (fun xs => xs.map (·.1.2) = chunkL sz l0) (fun _ => True) (chunkL sz l0).length w := by
  intro l J Jx W hW hJ _ hY hJ0
  have l1 := (Array.getElem?_eq_some_iff.1 c1).1
  have l2 := (Array.getElem?_eq_some_iff.1 c2).1
  exact chunk_in m l b1 b2 hm wB SB sz hsz hsz2 A cap l0 h0 hl0 J Jx W hJ hY ((hW.block b1 l1).trans c1) ((hW.block b2 l2).trans c2) hJ0
theorem chunkOf_any {w : World} (A : Option Addr) (n cap sz : Nat) (hsz : 1 ≤ sz) : Calls Tryz.prog 152 #[.slice A n cap, .int .i64 sz] w fun e w' => e = .returned (.func (.func 177) #[] #[.pointer (some ⟨w.heap.size, 0, none⟩), .pointer (some ⟨w.heap.size + 1, 0, none⟩)]) ∧ w' = (w.alloc (.cells #[.slice A n cap] 62)).alloc (.cells #[.int .i64 sz] 3) := by
  have hmf : ∀ (fn : Fn) (first cap : Array Value) (w : World), (Instr.makeFunc fn first cap).run Tryz.prog w = .ok (.func fn first cap) w := fun _ _ _ _ => rfl
  have hc : ((w.alloc (.cells #[.slice A n cap] 62)).alloc (.cells #[.int .i64 sz] 3)).cell? ⟨w.heap.size + 1, 0, none⟩ = some (.int .i64 sz) := by
    have := heap_new (w.alloc (.cells #[.slice A n cap] 62)) (.cells #[.int .i64 sz] 3)
    rw [World.size_alloc] at this
    rw [cell_at this]; rfl
  go_enter Tryz.func152, Tryz.ntmps152
  go_wp2_with fail
  go_ret
  exact ⟨rfl, rfl⟩
end Go.Proofs.YtpnboihbifhigaaGreatDoor
/- A region that draws its order, and whose operations only read what was there and make new memory: what holds behind each operation, and is kept as memory grows, holds behind all of them, in whatever order they come. -/
namespace Go.Proofs.YtpnboihbifhigaaGreatDoor
open Go Go.RowKit

/-- What an operation's slot holds. -/
def slotOf (ops : Array Oper) (T : Array Value) (j : Nat) : Value := ((((ops[j]?).bind (·.dst)).map fun d => T.getD d undef)).getD undef

abbrev Fact := Value → World → Prop
/-- A fact that is kept as memory grows. -/
def Kept (φ : Fact) : Prop := ∀ v w w', φ v w → Below w.heap.size w w' → φ v w'
theorem Kept.eq (c : Value) : Kept (fun v _ => v = c) := fun _ _ _ h _ => h

/-- The facts of the operations ahead of which an operation may not come. -/
def Deps (ops : Array Oper) (Φ : Nat → Fact) (T : Array Value) (w : World) : List Edge → Prop
  | [] => True
  | e :: r => (Region.binds .any e = true → Φ e.on (slotOf ops T e.on) w) ∧ Deps ops Φ T w r

/-- One operation does what its fact says, whatever has been done beside it. -/
def StepOk (P : Program) (ops : Array Oper) (Φ : Nat → Fact) (T0 : Array Value) (D : List Deferred) (w0 : World) (i : Nat) (o : Oper) : Prop :=
  ∀ (T : Array Value) (w : World) (Q : Exit → Act → World → Prop), Below w0.heap.size w0 w → T.size = T0.size → (∀ s, (ops.any fun o => o.dst == some s) = false → T.getD s undef = T0.getD s undef) →
    Deps ops Φ T w o.after.toList → Region.wanted o (yielded ops T) = true ∧ o.wp P ⟨T, D⟩ w (fun a' w' => ∃ v, a' = (⟨T, D⟩ : Act).put o.dst v ∧ Below w.heap.size w w' ∧ Φ i v w') Q

def StepsOk (P : Program) (ops : Array Oper) (Φ : Nat → Fact) (T0 : Array Value) (D : List Deferred) (w0 : World) : Nat → List Oper → Prop
  | _, [] => True
  | i, o :: r => StepOk P ops Φ T0 D w0 i o ∧ StepsOk P ops Φ T0 D w0 (i + 1) r
theorem StepsOk.get {P : Program} {ops : Array Oper} {Φ : Nat → Fact} {T0 : Array Value} {D : List Deferred} {w0 : World} : ∀ {k : Nat} {l : List Oper} {i : Nat} {o : Oper},
    StepsOk P ops Φ T0 D w0 k l → l[i]? = some o → StepOk P ops Φ T0 D w0 (k + i) o
  | k, [], i, o, _, h => by simp at h
  | k, x :: l, 0, o, h, hi => by
    have : x = o := by simpa using hi
    exact this ▸ h.1
  | k, x :: l, i + 1, o, h, hi => by
    have := StepsOk.get (i := i) h.2 (by simpa using hi)
    rwa [Nat.add_assoc, Nat.add_comm 1 i] at this

/-- Each operation writes a slot of its own, within the frame. -/
def dstsB (ops : Array Oper) (n : Nat) : Bool :=
  ops.all fun o => match o.dst with | some d => decide (d < n) | none => false
def apartB (ops : Array Oper) : Bool :=
  (List.range ops.size).all fun i => (List.range ops.size).all fun j => i == j || ((ops[i]?).bind (·.dst)) != ((ops[j]?).bind (·.dst))

/-- Edges lead back in the text. -/
def backB (ops : Array Oper) : Bool :=
  (List.range ops.size).all fun i => ((ops[i]?).map fun o => o.after.all fun e => decide (e.on < i)).getD false

structure Inv (ops : Array Oper) (Φ : Nat → Fact) (T0 : Array Value) (D : List Deferred) (w0 : World) (listed : Array Bool) (a : Act) (w : World) : Prop where
  below : Below w0.heap.size w0 w
  defers : a.defers = D
  size : a.tmps.size = T0.size
  lsize : listed.size = ops.size
  vars : ∀ s, (ops.any fun o => o.dst == some s) = false → a.tmps.getD s undef = T0.getD s undef
  facts : ∀ j, listed[j]? = some true → Φ j (slotOf ops a.tmps j) w

theorem deps_of {ops : Array Oper} {Φ : Nat → Fact} {T0 : Array Value} {D : List Deferred} {w0 : World} {listed : Array Bool} {a : Act} {w : World} (h : Inv ops Φ T0 D w0 listed a w) : ∀ (l : List Edge),
    (l.all fun e => !Region.binds .any e || listed.getD e.on false) = true → Deps ops Φ a.tmps w l
  | [], _ => trivial
  | e :: r, hl => by
    rw [List.all_cons, Bool.and_eq_true] at hl
    refine ⟨fun hb => h.facts _ ?_, deps_of h r hl.2⟩
    have h1 := hl.1
    rw [hb] at h1
    simp only [Bool.not_true, Bool.false_or] at h1
    rw [Array.getD_eq_getD_getElem?] at h1
    cases hx : listed[e.on]? with
    | none => rw [hx] at h1; simp at h1
    | some b => rw [hx] at h1; simpa using h1

theorem any_of_get {ops : Array Oper} {i : Nat} {o : Oper} {d : Tmp} (ho : ops[i]? = some o) (hd : o.dst = some d) : (ops.any fun o => o.dst == some d) = true := by
  rw [Array.any_eq_true']
  exact ⟨o, Array.mem_of_getElem? ho, by simp [hd]⟩

theorem wpAny_inv {P : Program} {ops : Array Oper} {Φ : Nat → Fact} {T0 : Array Value} {D : List Deferred} {w0 : World} {Q : Exit → Act → World → Prop}
    (hk : ∀ i, Kept (Φ i)) (hd : dstsB ops T0.size = true) (ha : apartB ops = true) (hbk : backB ops = true) (hs : StepsOk P ops Φ T0 D w0 0 ops.toList)
    (hQ : ∀ T w, Below w0.heap.size w0 w → T.size = T0.size → (∀ s, (ops.any fun o => o.dst == some s) = false → T.getD s undef = T0.getD s undef) → (∀ j, j < ops.size → Φ j (slotOf ops T j) w) → Q .normal ⟨T, D⟩ w) :
    ∀ (fuel : Nat) (listed : Array Bool) (a : Act) (w : World), (listed.toList.countP fun b => !b) ≤ fuel → Inv ops Φ T0 D w0 listed a w → wpAny P .any ops Q fuel listed a w := by
  have hend : ∀ (listed : Array Bool) (a : Act) (w : World), Inv ops Φ T0 D w0 listed a w → (∀ j, j < ops.size → listed[j]? = some true) → Q .normal a w := by
    intro listed a w h hall
    obtain ⟨T, D'⟩ := a
    have hD : D' = D := h.defers
    subst hD
    exact hQ T w h.below h.size h.vars fun j hj => h.facts j (hall j hj)
  -- an operation that is not listed and whose edges' ends are listed may come up: so where none may, all are listed
  intro fuel
  induction fuel with
  | zero =>
    intro listed a w hc h
    have hall : ∀ j, j < ops.size → listed[j]? = some true := by
      intro j hj
      have hj' : j < listed.size := by rw [h.lsize]; exact hj
      have h0 : (listed.toList.countP fun b => !b) = 0 := by omega
      rw [List.countP_eq_zero] at h0
      have := h0 listed[j] (by simp)
      rw [Array.getElem?_eq_getElem hj']
      simpa using this
    refine ⟨?_, hend _ _ _ h hall⟩
    unfold Region.ready
    rw [List.filter_eq_nil_iff]
    intro i hi
    rw [List.mem_range] at hi
    rw [Array.getD_eq_getD_getElem?, hall i hi]
    simp
  | succ fuel ih =>
    intro listed a w hc h
    have hstep : ∀ i ∈ Region.ready .any ops listed, wpOp P ops Q i (wpAny P .any ops Q fuel (listed.setIfInBounds i true)) a w := by
      intro i hi
      unfold Region.ready at hi
      rw [List.mem_filter, List.mem_range, Bool.and_eq_true] at hi
      obtain ⟨hin, hnl, hde⟩ := hi
      have hin' : i < listed.size := by rw [h.lsize]; exact hin
      have ho : ops[i]? = some ops[i] := Array.getElem?_eq_getElem hin
      rw [ho] at hde
      simp only [Option.map_some, Option.getD_some] at hde
      have hdeps := deps_of h ops[i].after.toList (by rw [← Array.all_toList] at hde; exact hde)
      have hstep := StepsOk.get (i := i) (o := ops[i]) hs (by simp [hin])
      rw [Nat.zero_add] at hstep
      obtain ⟨T, D'⟩ := a
      have hD : D' = D := h.defers
      subst hD
      obtain ⟨hw, hwp⟩ := hstep T w Q h.below h.size h.vars hdeps
      have hdst : ∃ d, ops[i].dst = some d ∧ d < T.size := by
        unfold dstsB at hd
        rw [Array.all_eq_true] at hd
        have := hd i hin
        cases hx : ops[i].dst with
        | none => rw [hx] at this; simp at this
        | some d => rw [hx] at this; exact ⟨d, rfl, by rw [h.size]; simpa using this⟩
      obtain ⟨d, hdd, hdT⟩ := hdst
      unfold wpOp
      simp only [ho, hw, if_true]
      refine .inl (Oper.wp_mono ?_ hwp)
      rintro a' w' ⟨v, rfl, hb, hφ⟩
      have hlt : listed.getD i true = false := by simpa using hnl
      refine ih _ _ _ ?_ ⟨?_, ?_, ?_, ?_, ?_, ?_⟩
      · have hcount : ((listed.setIfInBounds i true).toList.countP fun b => !b) + 1 = (listed.toList.countP fun b => !b) := by
          rw [Array.toList_setIfInBounds]
          have hil : i < listed.toList.length := by simpa using hin'
          have hf : listed.toList[i] = false := by
            rw [Array.getD_eq_getD_getElem?, Array.getElem?_eq_getElem hin'] at hlt
            simpa using hlt
          have h1 := List.countP_set (p := fun b => !b) (l := listed.toList) (i := i) (a := true) hil
          have hpos : 0 < (listed.toList.countP fun b => !b) := by
            rw [List.countP_pos_iff]
            exact ⟨false, by rw [← hf]; exact List.getElem_mem hil, rfl⟩
          rw [h1, hf]
          simp only [Bool.not_false, if_true, Bool.not_true, Bool.false_eq_true, if_false]
          omega
        omega
      · exact h.below.trans (hb.mono h.below.size)
      · show (Act.put _ _ _).defers = _
        rw [hdd]; rfl
      · show (Act.put _ _ _).tmps.size = _
        rw [hdd]
        show (T.setIfInBounds d v).size = _
        rw [Array.size_setIfInBounds]; exact h.size
      · rw [Array.size_setIfInBounds]; exact h.lsize
      · intro s hsn
        have hne : s ≠ d := by
          rintro rfl
          rw [any_of_get ho hdd] at hsn
          cases hsn
        rw [← h.vars s hsn, hdd]
        show (T.setIfInBounds d v).getD s undef = T.getD s undef
        rw [Array.getD_eq_getD_getElem?, Array.getD_eq_getD_getElem?, Array.getElem?_setIfInBounds_ne (Ne.symm hne)]
      · intro j hj
        by_cases hji : j = i
        · subst hji
          have hv : slotOf ops ((⟨T, D'⟩ : Act).put ops[j].dst v).tmps j = v := by
            unfold slotOf
            rw [ho]
            simp only [Option.bind_some, hdd, Option.map_some, Option.getD_some]
            show (T.setIfInBounds d v).getD d undef = v
            rw [Array.getD_eq_getD_getElem?, Array.getElem?_setIfInBounds_self_of_lt hdT]
            rfl
          rw [hv]; exact hφ
        · rw [Array.getElem?_setIfInBounds_ne (Ne.symm hji)] at hj
          have hold := h.facts j hj
          have hjn : j < ops.size := by
            rw [← h.lsize]
            rcases Nat.lt_or_ge j listed.size with hlt | hge
            · exact hlt
            · rw [Array.getElem?_eq_none hge] at hj; cases hj
          have hs' : slotOf ops ((⟨T, D'⟩ : Act).put ops[i].dst v).tmps j = slotOf ops T j := by
            unfold slotOf
            rw [Array.getElem?_eq_getElem hjn]
            cases hdj : ops[j].dst with
            | none => simp [hdj]
            | some dj =>
              have hne : d ≠ dj := by
                rintro rfl
                unfold apartB at ha
                rw [List.all_eq_true] at ha
                have h2 := ha i (List.mem_range.2 hin)
                rw [List.all_eq_true] at h2
                have h3 := h2 j (List.mem_range.2 hjn)
                rw [ho, Array.getElem?_eq_getElem hjn] at h3
                simp only [Option.bind_some, hdd, hdj, bne_self_eq_false, Bool.or_false, beq_iff_eq] at h3
                exact hji h3.symm
              simp only [Option.bind_some, hdj, Option.map_some, Option.getD_some, hdd]
              show (T.setIfInBounds d v).getD dj undef = T.getD dj undef
              rw [Array.getD_eq_getD_getElem?, Array.getD_eq_getD_getElem?, Array.getElem?_setIfInBounds_ne hne]
          rw [hs']
          exact hk j _ _ _ hold hb
    refine ⟨fun hr => ?_, hstep⟩
    refine hend _ _ _ h ?_
    intro j
    induction j using Nat.strongRecOn with
    | ind j ihj =>
      intro hj
      have hjl : j < listed.size := by rw [h.lsize]; exact hj
      cases hb : listed[j] with
      | true => rw [Array.getElem?_eq_getElem hjl, hb]
      | false =>
        exfalso
        have hmem : j ∈ Region.ready .any ops listed := by
          unfold Region.ready
          rw [List.mem_filter, List.mem_range, Bool.and_eq_true]
          refine ⟨hj, ?_, ?_⟩
          · rw [Array.getD_eq_getD_getElem?, Array.getElem?_eq_getElem hjl, hb]; rfl
          · rw [Array.getElem?_eq_getElem hj]
            simp only [Option.map_some, Option.getD_some]
            unfold backB at hbk
            rw [List.all_eq_true] at hbk
            have h1 := hbk j (List.mem_range.2 hj)
            rw [Array.getElem?_eq_getElem hj] at h1
            simp only [Option.map_some, Option.getD_some] at h1
            rw [Array.all_eq_true'] at h1 ⊢
            intro e he
            have h2 := h1 e he
            rw [decide_eq_true_iff] at h2
            rw [Array.getD_eq_getD_getElem?, ihj e.on h2 (by omega)]
            simp
        rw [hr] at hmem
        cases hmem

/-- The region's rule. -/
theorem wp_region_kept {P : Program} {ops : Array Oper} {id : Nat} {a0 : Act} {w0 : World} {Q : Exit → Act → World → Prop} (Φ : Nat → Fact)
    (hm : P.follows .mixedOrders = true) (hk : ∀ i, Kept (Φ i)) (hd : dstsB ops a0.tmps.size = true) (ha : apartB ops = true) (hbk : backB ops = true) (hs : StepsOk P ops Φ a0.tmps a0.defers w0 0 ops.toList)
    (hQ : ∀ T w, Below w0.heap.size w0 w → T.size = a0.tmps.size → (∀ s, (ops.any fun o => o.dst == some s) = false → T.getD s undef = a0.tmps.getD s undef) → (∀ j, j < ops.size → Φ j (slotOf ops T j) w) → Q .normal ⟨T, a0.defers⟩ w) :
    (Code.region id ops true).wp P Q a0 w0 := by
  refine wp_region_any hm (wpAny_inv hk hd ha hbk hs hQ _ _ _ _ ?_ ⟨?_, rfl, rfl, by simp, fun _ _ => rfl, fun j hj => ?_⟩)
  · rw [Array.toList_replicate]
    exact Nat.le_trans List.countP_le_length (by simp)
  · exact (Below.refl _ w0).drew
  · rw [Array.getElem?_replicate] at hj
    split at hj <;> simp at hj

theorem Deps.at {ops : Array Oper} {Φ : Nat → Fact} {T : Array Value} {w : World} (j : Nat) : ∀ {l : List Edge}, Deps ops Φ T w l → (l.any fun e => Region.binds .any e && e.on == j) = true → Φ j (slotOf ops T j) w
  | [], _, h => by simp at h
  | e :: r, h, hj => by
    rw [List.any_cons, Bool.or_eq_true, Bool.and_eq_true, beq_iff_eq] at hj
    rcases hj with ⟨hb, rfl⟩ | hj
    · exact h.1 hb
    · exact Deps.at j h.2 hj
theorem wanted_none {o : Oper} {y : Nat → Option Bool} (h : o.guard = none) : Region.wanted o y = true := by
  unfold Region.wanted; rw [h]
theorem wanted_some {ops : Array Oper} {T : Array Value} {o : Oper} {g : Nat} {b : Bool} (h : o.guard = some (g, b)) (hs : slotOf ops T g = .bool b) : Region.wanted o (yielded ops T) = true := by
  unfold Region.wanted; rw [h]
  have hy : yielded ops T g = some b := by
    unfold slotOf at hs
    unfold yielded
    cases hd : (ops[g]?).bind (·.dst) with
    | none => rw [hd] at hs; simp [undef] at hs
    | some d =>
      rw [hd] at hs
      simp only [Option.map_some, Option.getD_some] at hs
      rw [Array.getD_eq_getD_getElem?] at hs
      cases ht : T[d]? with
      | none => rw [ht] at hs; simp [undef] at hs
      | some v =>
        rw [ht] at hs
        simp only [Option.getD_some] at hs
        subst hs
        show (match T[d]? with | some (Value.bool b) => some b | _ => none) = some b
        rw [ht]
  show (yielded ops T g == some b) = true
  rw [hy]; simp
def factAt (L : List Fact) (i : Nat) : Fact := L.getD i fun _ _ => True
def KeptAll : List Fact → Prop
  | [] => True
  | φ :: r => Kept φ ∧ KeptAll r
theorem kept_at : ∀ {L : List Fact}, KeptAll L → ∀ i, Kept (factAt L i)
  | [], _, i => by intro v w w' h _; simp [factAt]
  | φ :: r, h, 0 => h.1
  | φ :: r, h, i + 1 => kept_at h.2 i

theorem kept_rows (ls : List (List UInt8)) : Kept (fun v w => RowsV w w.heap.size v ls) := fun _ _ _ h hb => (h.below hb).more hb.size
theorem kept_strs (ss : List ByteArray) : Kept (fun v w => StrsV w w.heap.size v ss) := fun _ _ _ h hb => (h.below hb).more hb.size
end Go.Proofs.YtpnboihbifhigaaGreatDoor
