/- Walks of the reader: signed numbers, counts, texts, booleans. -/
import Derived.Test.YtajpgkedlajjdaaReadNum
namespace Go.Proofs.Ytajpgkedlajjdaa
open Go.RowKit

def unzig (n : Nat) : Int := if n % 2 = 1 then -1 - ((n / 2 : Nat) : Int) else ((n / 2 : Nat) : Int)
def dint (l : List UInt8) : Option (Int × List UInt8) := (dnum 0 0 l).map fun x => (unzig x.1, x.2)
def dcount (l : List UInt8) : Option (Nat × List UInt8) := (dnum 0 0 l).bind fun x => if x.1 ≤ x.2.length then some x else none
def dtext (l : List UInt8) : Option (ByteArray × List UInt8) := (dcount l).map fun x => (⟨(x.2.take x.1).toArray⟩, x.2.drop x.1)
def dbool : List UInt8 → Option (Bool × List UInt8)
  | [] => none
  | c :: r => if c.toNat ≤ 1 then some (c.toNat == 1, r) else none
def i64v (n : Int) : Value := .int .i64 n
def intv (n : Nat) : Value := .int .i64 n

set_option maxRecDepth 100000 in
theorem signed_any (D p : Nat) (l : List UInt8) (w : World) (hR : Rd w D p l false) :
    Calls Try.prog 48 #[.pointer (some ⟨p, 0, none⟩)] w fun e w' => Told D p w i64v (dint l) e w' := by
  have hN := num_any D p l w hR
  cases hd : dnum 0 0 l with
  | none =>
    rw [hd] at hN
    replace hd := hide hd
    go_enter Try.func48, Try.ntmps48
    go_wp2_with fail
    refine hN.mono ?_
    rintro e w2 ⟨hU, ⟨pv, rfl⟩, r, hR2⟩
    go_wp2_with fail
    refine ⟨rfl, ?_⟩
    unfold dint
    rw [hd.out]
    exact ⟨hU, ⟨_, rfl⟩, _, hR2⟩
  | some x =>
    obtain ⟨n, r⟩ := x
    have hn := dnum_lt l 0 0 n r (by omega) (by simp) hd
    rw [hd] at hN
    replace hd := hide hd
    have h1 := u64_and_nat n 1 hn (by decide)
    rw [nat_mask1] at h1
    have h1' : bits .and .u64 (n : Int) 1 = ((n % 2 : Nat) : Int) := h1
    have hf := i64_flip ((n : Int) / 2) (by omega) (by omega)
    clear h1
    by_cases h2 : n % 2 = 1
    · have hu : -1 - (n : Int) / 2 = unzig n := by unfold unzig; rw [if_pos h2]; omega
      rw [hu] at hf
      have hT : (bits .and .u64 (n : Int) 1 == 1) = true := by rw [h1', h2]; rfl
      clear h1'
      replace hu := hide hu
      go_enter Try.func48, Try.ntmps48
      go_wp2_with fail
      refine hN.mono ?_
      rintro e w2 ⟨hU, rfl, hR2⟩
      unfold u64v
      go_wp2_with fail
      go_ret
      unfold dint
      rw [hd.out]
      exact ⟨hU, rfl, hR2⟩
    · have hu : (n : Int) / 2 = unzig n := by unfold unzig; rw [if_neg h2]; omega
      have hT : (bits .and .u64 (n : Int) 1 == 1) = false := by rw [h1', show n % 2 = 0 by omega]; rfl
      clear h1' hf
      replace hu := hide hu
      go_enter Try.func48, Try.ntmps48
      go_wp2_with fail
      refine hN.mono ?_
      rintro e w2 ⟨hU, rfl, hR2⟩
      unfold u64v
      go_wp2_with fail
      go_ret
      unfold dint
      rw [hd.out]
      refine ⟨hU, ?_, hR2⟩
      show Ending.returned (.int .i64 ((n : Int) / 2)) = _
      rw [hu.out]; rfl

set_option maxRecDepth 100000 in
theorem count_any (D p : Nat) (l : List UInt8) (w : World) (hR : Rd w D p l false) :
    Calls Try.prog 69 #[.pointer (some ⟨p, 0, none⟩)] w fun e w' => Told D p w intv (dcount l) e w' := by
  have hN := num_any D p l w hR
  cases hd : dnum 0 0 l with
  | none =>
    rw [hd] at hN
    replace hd := hide hd
    go_enter Try.func69, Try.ntmps69
    go_wp2_with fail
    refine hN.mono ?_
    rintro e w2 ⟨hU, ⟨pv, rfl⟩, r, hR2⟩
    go_wp2_with fail
    refine ⟨rfl, ?_⟩
    unfold dcount
    rw [hd.out]
    exact ⟨hU, ⟨_, rfl⟩, _, hR2⟩
  | some x =>
    obtain ⟨n, r⟩ := x
    have hn := dnum_lt l 0 0 n r (by omega) (by simp) hd
    rw [hd] at hN
    replace hd := hide hd
    go_enter Try.func69, Try.ntmps69
    go_wp2_with fail
    refine hN.mono ?_
    rintro e w2 ⟨hU, rfl, hR2⟩
    unfold u64v
    have hR3 := hide hR2
    obtain ⟨hD, v, hh, A, c, rfl, hlc, hcm, hs⟩ := hR2
    have hc0 : w2.cell? ⟨p, 0, none⟩ = some (.slice A r.length c) := by rw [cell_at hh]; rfl
    unfold maxLen at hcm
    replace hh := hide hh
    by_cases hle : n ≤ r.length
    · go_wp2_with fail
      refine (need_any _ _).mono ?_
      rintro e w' ⟨rfl, h, -⟩
      obtain rfl := h (by simp; try omega)
      go_wp2_with fail
      go_ret
      unfold dcount
      rw [hd.out]
      simp only [Option.bind_some, hle, if_true]
      exact ⟨hU, rfl, hR3.out⟩
    · go_wp2_with fail
      refine (need_any _ _).mono ?_
      rintro e w' ⟨rfl, -, h⟩
      obtain ⟨pv, rfl⟩ := h (by simp; try omega)
      go_wp2_with fail
      refine ⟨rfl, ?_⟩
      unfold dcount
      rw [hd.out]
      simp only [Option.bind_some, hle, if_false]
      exact ⟨hU, ⟨_, rfl⟩, _, hR3.out⟩

theorem BytesV.drop {w : World} {B c : Nat} {A : Option Addr} {l : List UInt8} (h : BytesV w B (.slice A l.length c) l) (k : Nat) (hk : k ≤ l.length) : BytesV w B (.slice (Option.map (fun x => x.add k) A) (l.length - k) (c - k)) (l.drop k) := by
  obtain ⟨A0, c0, h1, h2, h3, h4⟩ := h
  injection h1 with e1 e2 e3
  subst e1 e3
  have hl : (l.drop k).length = l.length - k := by rw [List.length_drop]
  refine ⟨_, _, by rw [hl], by omega, by omega, ?_⟩
  have := h4.cut k (l.length - k)
  have e : ((bv l).drop k).take (l.length - k) = bv (l.drop k) := by
    unfold bv; rw [← List.map_drop, List.take_of_length_le (by simp)]
  rw [e] at this
  exact this
theorem dcount_le {l r : List UInt8} {n : Nat} (h : dcount l = some (n, r)) : n ≤ r.length := by
  unfold dcount at h
  cases hd : dnum 0 0 l with
  | none => rw [hd] at h; cases h
  | some x =>
    rw [hd] at h
    simp only [Option.bind_some] at h
    split at h
    · injection h with h; subst h; assumption
    · cases h

set_option maxRecDepth 100000 in
theorem text_any (D p : Nat) (l : List UInt8) (w : World) (hR : Rd w D p l false) :
    Calls Try.prog 51 #[.pointer (some ⟨p, 0, none⟩)] w fun e w' => Told D p w Value.string (dtext l) e w' := by
  have hN := count_any D p l w hR
  cases hd : dcount l with
  | none =>
    rw [hd] at hN
    replace hd := hide hd
    go_enter Try.func51, Try.ntmps51
    go_wp2_with fail
    refine hN.mono ?_
    rintro e w2 ⟨hU, ⟨pv, rfl⟩, r, hR2⟩
    go_wp2_with fail
    refine ⟨rfl, ?_⟩
    unfold dtext
    rw [hd.out]
    exact ⟨hU, ⟨_, rfl⟩, _, hR2⟩
  | some x =>
    obtain ⟨n, r⟩ := x
    have hn := dcount_le hd
    rw [hd] at hN
    replace hd := hide hd
    go_enter Try.func51, Try.ntmps51
    go_wp2_with fail
    refine hN.mono ?_
    rintro e w2 ⟨hU, rfl, hR2⟩
    unfold intv
    have hR3 := hide hR2
    obtain ⟨hD, v, hh, hb⟩ := hR2
    obtain ⟨A, n0, c, rfl⟩ := hb.slice'
    have hb3 := hide hb
    obtain ⟨A', c', hv, hlc, hcm, hs⟩ := hb
    injection hv with e1 e2 e3
    subst e1 e2 e3
    have hc0 : w2.cell? ⟨p, 0, none⟩ = some (.slice A r.length c) := by rw [cell_at hh]; rfl
    have hf0 := frozen_at hh 0
    unfold maxLen at hcm
    have hconv := (hb3.out.take n hn).string (P := Try.prog) Try.underlying27 Try.underlying5 Try.underlying9
    replace hh := hide hh
    go_wp2_with fail
    · go_ret
      unfold dtext
      rw [hd.out]
      have hrn : r.drop n = [] := List.drop_eq_nil_of_le (by omega)
      refine ⟨hU.then (Upd.set _ (F := At p) (a := ⟨p, 0, none⟩) rfl _), rfl, ?_⟩
      show Rd _ D p (r.drop n) false
      rw [hrn]
      exact hR3.out.rest ⟨_, _, by rw [show r.length - n = 0 by omega]; rfl, Nat.le_refl _, Nat.zero_le _, .inl rfl⟩
    · go_ret
      unfold dtext
      rw [hd.out]
      exact ⟨hU.then (Upd.set _ (F := At p) (a := ⟨p, 0, none⟩) rfl _), rfl, hR3.out.rest (hb3.out.drop n hn)⟩

set_option maxRecDepth 100000 in
theorem truth_any (D p : Nat) (l : List UInt8) (w : World) (hR : Rd w D p l false) :
    Calls Try.prog 53 #[.pointer (some ⟨p, 0, none⟩)] w fun e w' => Told D p w Value.bool (dbool l) e w' := by
  have hN := next_any D p l false w hR
  cases l with
  | nil =>
    go_enter Try.func53, Try.ntmps53
    go_wp2_with fail
    refine hN.mono ?_
    rintro e w2 ⟨hU, ⟨pv, rfl⟩, hR2⟩
    go_wp2_with fail
    refine ⟨rfl, ?_⟩
    exact ⟨hU, ⟨_, rfl⟩, _, hR2⟩
  | cons c r =>
    have hc := c.toNat_lt
    by_cases h1 : c.toNat ≤ 1
    · go_enter Try.func53, Try.ntmps53
      go_wp2_with fail
      refine hN.mono ?_
      rintro e w2 ⟨hU, rfl, hR2⟩
      go_wp2_with fail
      refine (need_any _ _).mono ?_
      rintro e w' ⟨rfl, h, -⟩
      obtain rfl := h (by simp; try omega)
      go_wp2_with fail
      go_ret
      have hdb : dbool (c :: r) = some (c.toNat == 1, r) := if_pos h1
      rw [hdb]
      refine ⟨hU, ?_, hR2⟩
      show Ending.returned (.bool ((c.toNat : Int) == 1)) = _
      have e : ((c.toNat : Int) == 1) = (c.toNat == 1) := by rw [Bool.eq_iff_iff]; simp; omega
      rw [e]
    · go_enter Try.func53, Try.ntmps53
      go_wp2_with fail
      refine hN.mono ?_
      rintro e w2 ⟨hU, rfl, hR2⟩
      go_wp2_with fail
      refine (need_any _ _).mono ?_
      rintro e w' ⟨rfl, -, h⟩
      obtain ⟨pv, rfl⟩ := h (by simp; try omega)
      go_wp2_with fail
      refine ⟨rfl, ?_⟩
      have hdb : dbool (c :: r) = none := if_neg h1
      rw [hdb]
      exact ⟨hU, ⟨_, rfl⟩, _, hR2⟩
end Go.Proofs.Ytajpgkedlajjdaa
