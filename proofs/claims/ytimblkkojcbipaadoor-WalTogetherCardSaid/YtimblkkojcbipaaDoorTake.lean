/- Walks of the reader of frames. -/
import Derived.Test.YtimblkkojcbipaaDoorFramesOf
namespace Go.Proofs.YtimblkkojcbipaaDoor
open Go Go.RowKit
open Sums (crc)
abbrev At (p : Nat) : Nat → Prop := fun k => k = p
/-- The reader at block p has the bytes l left, in blocks of S. -/
def RdV (w : World) (p : Nat) (S : Nat → Prop) (l : List UInt8) : Prop := ∃ v, w.heap[p]? = some (.cells #[v] 87) ∧ ArgV w S v (bv l) ∧ ¬ S p
theorem RdV.upd {w w' : World} {F : Nat → Prop} {p : Nat} {S : Nat → Prop} {l : List UInt8} (h : RdV w p S l) (hu : Upd F w w') (hp : ¬ F p) (hS : ∀ k, S k → ¬ F k) : RdV w' p S l := by
  obtain ⟨v, h1, h2, h3⟩ := h
  exact ⟨v, hu.heap h1 hp, h2.upd hu hS, h3⟩
theorem ArgV.cut' {w : World} {S : Nat → Prop} {A : Option Addr} {c : Nat} {l : List UInt8} (h : ArgV w S (.slice A l.length c) (bv l)) (k : Nat) (hk : k ≤ l.length) : ArgV w S (.slice (Option.map (fun x => x.add k) A) (l.length - k) (c - k)) (bv (l.drop k)) := by
  obtain ⟨A0, c0, h1, h2, h3, h4⟩ := h
  injection h1 with e1 e2 e3
  subst e1 e3
  have hl : (bv (l.drop k)).length = l.length - k := by rw [bv_len, List.length_drop]
  rw [bv_len] at h2
  refine ⟨_, _, by rw [hl], by omega, by omega, ?_⟩
  have e : bv (l.drop k) = (bv l).drop k := by unfold bv; rw [List.map_drop]
  rw [e]
  rcases h4 with h4 | ⟨b, o, rfl, hS, hc⟩
  · exact .inl (by rw [h4]; simp)
  · refine .inr ⟨b, o + k, by simp [Addr.add], hS, fun i u hi => ?_⟩
    rw [List.getElem?_drop] at hi
    have := hc (k + i) u hi
    rwa [← Nat.add_assoc] at this
theorem ArgV.take' {w : World} {S : Nat → Prop} {A : Option Addr} {c n : Nat} {l : List UInt8} (h : ArgV w S (.slice A n c) (bv l)) (k : Nat) (hk : k ≤ l.length) : ArgV w S (.slice A k c) (bv (l.take k)) := by
  obtain ⟨A0, c0, h1, h2, h3, h4⟩ := h
  injection h1 with e1 e2 e3
  subst e1 e3
  rw [bv_len] at h2
  have hl : (bv (l.take k)).length = k := by rw [bv_len, List.length_take]; omega
  refine ⟨A, c, by rw [hl], by omega, h3, ?_⟩
  have e : bv (l.take k) = (bv l).take k := by unfold bv; rw [List.map_take]
  rw [e]
  rcases h4 with h4 | ⟨b, o, rfl, hS, hc⟩
  · exact .inl (by rw [h4]; simp)
  · refine .inr ⟨b, o, rfl, hS, fun i u hi => hc i u ?_⟩
    rw [List.getElem?_take] at hi
    split at hi
    · exact hi
    · cases hi
/-- What a method of the reader comes to: a value, and what is left; or it panics. -/
def Told {α : Type} (p : Nat) (S : Nat → Prop) (w : World) (f : α → World → Value → Prop) (o : Option (α × List UInt8)) (e : Ending) (w' : World) : Prop :=
  Upd (At p) w w' ∧ match o with
    | some (a, r) => ∃ v, e = .returned v ∧ f a w' v ∧ RdV w' p S r
    | none => ∃ pv, e = .panicked [{ v := .iface 126 pv, recovered := false }]
def takeP (n : Nat) (l : List UInt8) : Option (List UInt8 × List UInt8) := if n ≤ l.length then some (l.take n, l.drop n) else none
def numP (l : List UInt8) : Option (Nat × List UInt8) := (takeP 4 l).map fun x => (val4 x.1, x.2)
def frameP (l : List UInt8) : Option (List UInt8 × List UInt8) :=
  (takeP 4 l).bind fun x => (numP x.2).bind fun y => (takeP (val4 x.1) y.2).bind fun z => if y.1 = crc [x.1, z.1] then some z else none
def bytesIn (S : Nat → Prop) (l : List UInt8) (w : World) (v : Value) : Prop := ArgV w S v (bv l)

set_option maxRecDepth 100000 in
theorem take_any {w : World} {p : Nat} {S : Nat → Prop} {l : List UInt8} (h : RdV w p S l) (_hl : l.length ≤ 70368744177664) (n : Nat) (hn : n < 4294967296) :
    Calls Tryd.prog 68 #[.pointer (some ⟨p, 0, none⟩), .int .i64 n] w fun e w' => Told p S w (bytesIn S) (takeP n l) e w' := by
  obtain ⟨v, hh, ha, hS⟩ := h
  obtain ⟨A, c, rfl, hlc, hcm, hs⟩ := id ha
  rw [bv_len] at ha hlc hh
  have hc0 : w.cell? ⟨p, 0, none⟩ = some (.slice A l.length c) := by rw [cell_at hh]; rfl
  have hf0 := frozen_at hh 0
  have hcm' : c ≤ 9223372036854775807 := by unfold maxLen at hcm; exact hcm
  replace hs := hide hs
  replace ha := hide ha
  replace hh := hide hh
  replace hS := hide hS
  by_cases hle : n ≤ l.length
  · go_enter Tryd.func68, Tryd.ntmps68
    go_wp2_with fail
    refine (need_any _ _).mono ?_
    rintro e w' ⟨rfl, h, -⟩
    obtain rfl := h (by simp; try omega)
    go_wp2_with fail
    · obtain rfl : c = n := by first | assumption | omega
      go_ret
      unfold takeP
      rw [if_pos hle]
      refine ⟨.set (F := At p) w (a := ⟨p, 0, none⟩) rfl _, _, rfl, ?_, ?_⟩
      · exact (ha.out.take' _ hle).upd (.set (F := At p) w (a := ⟨p, 0, none⟩) rfl _) fun k hk e => hS.out (e ▸ hk)
      · have hd : l.drop c = [] := List.drop_eq_nil_of_le (by omega)
        rw [hd]
        exact ⟨_, heap_set hh.out 0 _, ⟨A, 0, by rw [bv_len, show l.length - c = 0 by omega]; rfl, Nat.le_refl _, Nat.zero_le _, .inl rfl⟩, hS.out⟩
    · go_ret
      unfold takeP
      rw [if_pos hle]
      refine ⟨.set (F := At p) w (a := ⟨p, 0, none⟩) rfl _, _, rfl, ?_, _, heap_set hh.out 0 _, ?_, hS.out⟩
      · exact (ha.out.take' n hle).upd (.set (F := At p) w (a := ⟨p, 0, none⟩) rfl _) fun k hk e => hS.out (e ▸ hk)
      · exact (ha.out.cut' n hle).upd (.set (F := At p) w (a := ⟨p, 0, none⟩) rfl _) fun k hk e => hS.out (e ▸ hk)
  · go_enter Tryd.func68, Tryd.ntmps68
    go_wp2_with fail
    refine (need_any _ _).mono ?_
    rintro e w' ⟨rfl, -, h⟩
    obtain ⟨pv, rfl⟩ := h (by simp; try omega)
    go_wp2_with fail
    refine ⟨rfl, ?_⟩
    unfold takeP
    rw [if_neg hle]
    exact ⟨.refl _ _, _, rfl⟩
theorem takeP_len {n : Nat} {l a r : List UInt8} (h : takeP n l = some (a, r)) : a.length = n ∧ r.length ≤ l.length := by
  unfold takeP at h
  split at h
  · injection h with h
    injection h with h1 h2
    subst h1 h2
    constructor
    · rw [List.length_take]; omega
    · rw [List.length_drop]; omega
  · cases h
theorem number_any {w : World} {p : Nat} {S : Nat → Prop} {l : List UInt8} (h : RdV w p S l) (hl : l.length ≤ 70368744177664) :
    Calls Tryd.prog 69 #[.pointer (some ⟨p, 0, none⟩)] w fun e w' => Told p S w (fun n _ v => v = .int .i64 (n : Nat)) (numP l) e w' := by
  have ht := take_any h hl 4 (by omega)
  unfold numP
  cases ho : takeP 4 l with
  | none =>
    rw [ho] at ht
    replace ho := hide ho
    go_enter Tryd.func69, Tryd.ntmps69
    go_wp2_with fail
    refine ht.mono ?_
    rintro e w2 ⟨hU, pv, rfl⟩
    go_wp2_with fail
    refine ⟨rfl, ?_⟩
    exact ⟨hU, _, rfl⟩
  | some x =>
    obtain ⟨a, r⟩ := x
    have hla := (takeP_len ho).1
    rw [ho] at ht
    replace ho := hide ho
    go_enter Tryd.func69, Tryd.ntmps69
    go_wp2_with fail
    refine ht.mono ?_
    rintro e w2 ⟨hU, v, rfl, ha, hR⟩
    have hnum := numberOf_any ha hla
    replace hU := hide hU
    replace hR := hide hR
    replace ha := hide ha
    go_wp2_with fail
    refine hnum.mono ?_
    rintro e w3 ⟨rfl, rfl⟩
    go_wp2_with fail
    go_ret
    exact ⟨hU.out, _, rfl, rfl, hR.out⟩
theorem end_any {w : World} {p : Nat} {S : Nat → Prop} {l : List UInt8} (h : RdV w p S l) :
    Calls Tryd.prog 48 #[.pointer (some ⟨p, 0, none⟩)] w fun e w' => w = w' ∧ (l = [] → e = .returned (.tuple #[])) ∧ (l ≠ [] → ∃ pv, e = .panicked [{ v := .iface 126 pv, recovered := false }]) := by
  obtain ⟨v, hh, ha, hS⟩ := h
  obtain ⟨A, c, rfl, hlc, hcm, hs⟩ := ha
  rw [bv_len] at hlc hh
  have hc0 : w.cell? ⟨p, 0, none⟩ = some (.slice A l.length c) := by rw [cell_at hh]; rfl
  clear hs hS hh
  by_cases hle : l = []
  · subst hle
    clear hlc
    simp only [List.length_nil] at hc0
    go_enter Tryd.func48, Tryd.ntmps48
    go_wp2_with fail
    refine (need_any _ _).mono ?_
    rintro e w' ⟨rfl, h, -⟩
    obtain rfl := h (by simp)
    go_wp2_with fail
    go_end0
    exact ⟨rfl, fun _ => rfl, fun h => absurd rfl h⟩
  · have hpos : 0 < l.length := List.length_pos_iff.2 hle
    replace hle := hide hle
    go_enter Tryd.func48, Tryd.ntmps48
    go_wp2_with fail
    refine (need_any _ _).mono ?_
    rintro e w' ⟨rfl, -, h⟩
    obtain ⟨pv, rfl⟩ := h (by simp; first | exact hle.out | omega)
    go_wp2_with fail
    refine ⟨rfl, ?_⟩
    exact ⟨rfl, fun h => absurd h hle.out, fun _ => ⟨_, rfl⟩⟩
set_option maxRecDepth 100000 in
theorem frame_any {w : World} {p : Nat} {S : Nat → Prop} {l : List UInt8} (h : RdV w p S l) (hl : l.length ≤ 70368744177664) (hT : Tab w) (h0 : 0 < p) :
    Calls Tryd.prog 47 #[.pointer (some ⟨p, 0, none⟩)] w fun e w' => Told p S w (fun r w' v => RowB w' w.heap.size v r) (frameP l) e w' := by
  have ht := take_any h hl 4 (by omega)
  unfold frameP
  cases ho : takeP 4 l with
  | none =>
    rw [ho] at ht
    replace ho := hide ho
    go_enter Tryd.func47, Tryd.ntmps47
    go_wp2_with fail
    refine ht.mono ?_
    rintro e w2 ⟨hU, pv, rfl⟩
    go_wp2_with fail
    refine ⟨rfl, ?_⟩
    exact ⟨hU, _, rfl⟩
  | some x =>
    obtain ⟨a, r⟩ := x
    obtain ⟨hla, hlr⟩ := takeP_len ho
    have hsp : ¬ S p := h.choose_spec.2.2
    rw [ho] at ht
    simp only [Option.bind_some]
    replace ho := hide ho
    replace hsp := hide hsp
    replace hT := hide hT
    cases ho2 : numP r with
    | none =>
      replace ho2 := hide ho2
      go_enter Tryd.func47, Tryd.ntmps47
      go_wp2_with fail
      refine ht.mono ?_
      rintro e w2 ⟨hU, v, rfl, ha, hR⟩
      have hn := number_any hR (by omega)
      rw [ho2.out] at hn
      replace hU := hide hU
      replace hR := hide hR
      replace ha := hide ha
      go_wp2_with fail
      refine hn.mono ?_
      rintro e w3 ⟨hU3, pv, rfl⟩
      replace hU3 := hide hU3
      go_wp2_with fail
      refine ⟨rfl, ?_⟩
      exact ⟨hU.out.then hU3.out, _, rfl⟩
    | some y =>
      obtain ⟨ck, r2⟩ := y
      simp only [Option.bind_some]
      have hlr2 : r2.length ≤ r.length := by
        unfold numP at ho2
        cases h3 : takeP 4 r with
        | none => rw [h3] at ho2; cases ho2
        | some z => rw [h3] at ho2; injection ho2 with ho2; injection ho2 with _ ho2; rw [← ho2]; exact (takeP_len (a := z.1) (r := z.2) h3).2
      replace ho2 := hide ho2
      have hva := val_lt a
      cases ho3 : takeP (val4 a) r2 with
      | none =>
        replace ho3 := hide ho3
        go_enter Tryd.func47, Tryd.ntmps47
        go_wp2_with fail
        refine ht.mono ?_
        rintro e w2 ⟨hU, v, rfl, ha, hR⟩
        have hn := number_any hR (by omega)
        rw [ho2.out] at hn
        replace hU := hide hU
        replace hR := hide hR
        replace ha := hide ha
        go_wp2_with fail
        refine hn.mono ?_
        rintro e w3 ⟨hU3, v3, rfl, rfl, hR3⟩
        have ha3 := ha.out.upd hU3 fun k hk e => hsp.out (e ▸ hk)
        have hnum := numberOf_any ha3 hla
        replace hU3 := hide hU3
        replace hR3 := hide hR3
        go_wp2_with fail
        refine hnum.mono ?_
        rintro e w4 ⟨rfl, rfl⟩
        go_wp2_with fail
        have ht2 := take_any hR3.out (by omega) (val4 a) hva
        rw [ho3.out] at ht2
        refine ht2.mono ?_
        rintro e w5 ⟨hU5, pv, rfl⟩
        replace hU5 := hide hU5
        go_wp2_with fail
        refine ⟨rfl, ?_⟩
        exact ⟨(hU.out.then hU3.out).then hU5.out, _, rfl⟩
      | some z =>
        obtain ⟨rec, r3⟩ := z
        obtain ⟨hl3, hl4⟩ := takeP_len ho3
        simp only [Option.bind_some]
        replace ho3 := hide ho3
        by_cases he : ck = crc [a, rec]
        · rw [if_pos he]
          replace he := hide he
          go_enter Tryd.func47, Tryd.ntmps47
          go_wp2_with fail
          refine ht.mono ?_
          rintro e w2 ⟨hU, v, rfl, ha, hR⟩
          have hn := number_any hR (by omega)
          rw [ho2.out] at hn
          replace hU := hide hU
          replace hR := hide hR
          replace ha := hide ha
          go_wp2_with fail
          refine hn.mono ?_
          rintro e w3 ⟨hU3, v3, rfl, rfl, hR3⟩
          have ha3 := ha.out.upd hU3 fun k hk e => hsp.out (e ▸ hk)
          have hnum := numberOf_any ha3 hla
          replace hU3 := hide hU3
          replace hR3 := hide hR3
          go_wp2_with fail
          refine hnum.mono ?_
          rintro e w4 ⟨rfl, rfl⟩
          go_wp2_with fail
          have ht2 := take_any hR3.out (by omega) (val4 a) hva
          rw [ho3.out] at ht2
          refine ht2.mono ?_
          rintro e w5 ⟨hU5, v5, rfl, ha5, hR5⟩
          have ha35 := ha3.upd hU5 fun k hk e => hsp.out (e ▸ hk)
          have hT5 := hT.out.upd ((hU.out.then hU3.out).then hU5) (by omega)
          have hp5 : 0 < w5.heap.size := by obtain ⟨v, hh, _⟩ := hR5; have := (Array.getElem?_eq_some_iff.1 hh).1; omega
          have hck := checksum_any ha35 ha5 hT5 hp5
          replace hU5 := hide hU5
          replace hR5 := hide hR5
          replace ha5 := hide ha5
          clear hnum ht2 hn
          go_wp2_with fail
          refine hck.mono ?_
          rintro e w6 ⟨rfl, hb6⟩
          have hU6 : Upd (At p) w5 w6 := .of_below _ hb6
          have hU60 : Upd (fun _ => False) w5 w6 := .of_below _ hb6
          have hR6 := hR5.out.upd hU60 id fun _ _ => id
          have ha6 := ha5.out.upd hU60 fun _ _ => id
          have hws := ((hU.out.then hU3.out).then hU5.out).then hU6
          replace hU6 := hide hU6
          replace hU60 := hide hU60
          replace hR6 := hide hR6
          replace hws := hide hws
          clear hck hb6
          go_wp2_with fail
          refine (need_any _ _).mono ?_
          rintro e w' ⟨rfl, h, -⟩
          obtain rfl := h (by rw [he.out]; simp)
          go_wp2_with fail
          refine (clone_any ha6 (by omega)).mono ?_
          rintro e w7 ⟨v7, rfl, h7, hb7⟩
          have hU70 : Upd (fun _ => False) w6 w7 := .of_below _ hb7
          replace h7 := hide h7
          replace hU70 := hide hU70
          clear hb7
          go_wp2_with fail
          go_ret
          refine ⟨hws.out.then (hU70.out.mono fun _ _ h => h.elim), _, rfl, ownsRow_base h7.out hws.out.size, hR6.out.upd hU70.out id fun _ _ => id⟩
        · rw [if_neg he]
          replace he := hide he
          go_enter Tryd.func47, Tryd.ntmps47
          go_wp2_with fail
          refine ht.mono ?_
          rintro e w2 ⟨hU, v, rfl, ha, hR⟩
          have hn := number_any hR (by omega)
          rw [ho2.out] at hn
          replace hU := hide hU
          replace hR := hide hR
          replace ha := hide ha
          go_wp2_with fail
          refine hn.mono ?_
          rintro e w3 ⟨hU3, v3, rfl, rfl, hR3⟩
          have ha3 := ha.out.upd hU3 fun k hk e => hsp.out (e ▸ hk)
          have hnum := numberOf_any ha3 hla
          replace hU3 := hide hU3
          replace hR3 := hide hR3
          go_wp2_with fail
          refine hnum.mono ?_
          rintro e w4 ⟨rfl, rfl⟩
          go_wp2_with fail
          have ht2 := take_any hR3.out (by omega) (val4 a) hva
          rw [ho3.out] at ht2
          refine ht2.mono ?_
          rintro e w5 ⟨hU5, v5, rfl, ha5, hR5⟩
          have ha35 := ha3.upd hU5 fun k hk e => hsp.out (e ▸ hk)
          have hT5 := hT.out.upd ((hU.out.then hU3.out).then hU5) (by omega)
          have hp5 : 0 < w5.heap.size := by obtain ⟨v, hh, _⟩ := hR5; have := (Array.getElem?_eq_some_iff.1 hh).1; omega
          have hck := checksum_any ha35 ha5 hT5 hp5
          replace hU5 := hide hU5
          replace hR5 := hide hR5
          replace ha5 := hide ha5
          clear hnum ht2 hn
          go_wp2_with fail
          refine hck.mono ?_
          rintro e w6 ⟨rfl, hb6⟩
          have hU6 : Upd (At p) w5 w6 := .of_below _ hb6
          have hU60 : Upd (fun _ => False) w5 w6 := .of_below _ hb6
          have hR6 := hR5.out.upd hU60 id fun _ _ => id
          have ha6 := ha5.out.upd hU60 fun _ _ => id
          have hws := ((hU.out.then hU3.out).then hU5.out).then hU6
          replace hU6 := hide hU6
          replace hU60 := hide hU60
          replace hR6 := hide hR6
          replace hws := hide hws
          clear hck hb6
          go_wp2_with fail
          refine (need_any _ _).mono ?_
          rintro e w' ⟨rfl, -, h⟩
          obtain ⟨pv, rfl⟩ := h (by have := he.out; simp; omega)
          go_wp2_with fail
          refine ⟨rfl, ?_⟩
          exact ⟨hws.out, _, rfl⟩
end Go.Proofs.YtimblkkojcbipaaDoor
