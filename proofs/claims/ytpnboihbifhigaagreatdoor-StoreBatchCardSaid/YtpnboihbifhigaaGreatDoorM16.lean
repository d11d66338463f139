/- Part 16 of the walks (merged): CdReadMore, CdAttempt, St1, CdKnown, St2, St3, CdMath2, CdCutMath, PairOf. -/
import Derived.Test.YtpnboihbifhigaaGreatDoorM15
import Derived.Test.YtpnboihbifhigaaGreatDoorM13
/- Walks of the reader: signed numbers, counts, texts, booleans. -/
namespace Go.Proofs.YtpnboihbifhigaaGreatDoor
open Go.RowKit
theorem BytesV.drop {w : World} {B c : Nat} {A : Option Addr} {l : List UInt8} (h : BytesV w B (.slice A l.length c) l) (k : Nat) (hk : k ≤ l.length) : BytesV w B (.slice (Option.map (fun x => x.add k) A) (l.length - k) (c - k)) (l.drop k) := by
  obtain ⟨A0, c0, h1, h2, h3, h4⟩ := h
  injection h1 with e1 e2 e3
  subst e1 e3
  have hl : (l.drop k).length = l.length - k := by rw [List.length_drop]
  refine ⟨_, _, by rw [hl], by omega, by omega, ?_⟩
  have := h4.cut k (l.length - k)
  have e : ((bv l).drop k).take (l.length - k) = bv (l.drop k) := by
    unfold bv; rw [← List.map_drop, List.take_of_length_le (by simp)]
  rw [e] at this
  exact this
end Go.Proofs.YtpnboihbifhigaaGreatDoor
namespace Go.Proofs.YtpnboihbifhigaaGreatDoor.Cd
open Go.RowKit

def unzig (n : Nat) : Int := if n % 2 = 1 then -1 - ((n / 2 : Nat) : Int) else ((n / 2 : Nat) : Int)
def dint (l : List UInt8) : Option (Int × List UInt8) := (dnum 0 0 l).map fun x => (unzig x.1, x.2)
def dcount (l : List UInt8) : Option (Nat × List UInt8) := (dnum 0 0 l).bind fun x => if x.1 ≤ x.2.length then some x else none
def dtext (l : List UInt8) : Option (ByteArray × List UInt8) := (dcount l).map fun x => (⟨(x.2.take x.1).toArray⟩, x.2.drop x.1)
def dbool : List UInt8 → Option (Bool × List UInt8)
  | [] => none
  | c :: r => if c.toNat ≤ 1 then some (c.toNat == 1, r) else none
def i64v (n : Int) : Value := .int .i64 n
def intv (n : Nat) : Value := .int .i64 n

set_option maxRecDepth 100000 in
theorem count_any (D p : Nat) (l : List UInt8) (w : World) (hR : Rd w D p l false) :
    Calls Tryz.prog 122 #[.pointer (some ⟨p, 0, none⟩)] w fun e w' => Told D p w intv (dcount l) e w' := by
  have hN := num_any D p l w hR
  cases hd : dnum 0 0 l with
  | none =>
    rw [hd] at hN
    replace hd := hide hd
    go_enter Tryz.func122, Tryz.ntmps122
    go_wp2_with fail
    refine hN.mono ?_
    rintro e w2 ⟨hU, ⟨pv, rfl⟩, r, hR2⟩
    go_wp2_with fail
    refine ⟨rfl, ?_⟩
    unfold dcount
    rw [hd.out]
    exact ⟨hU, ⟨_, rfl⟩, _, hR2⟩
  | some x =>
    obtain ⟨n, r⟩ := x
    have hn := dnum_lt l 0 0 n r (by omega) (by simp) hd
    rw [hd] at hN
    replace hd := hide hd
    go_enter Tryz.func122, Tryz.ntmps122
    go_wp2_with fail
    refine hN.mono ?_
    rintro e w2 ⟨hU, rfl, hR2⟩
    unfold u64v
    have hR3 := hide hR2
    obtain ⟨hD, v, hh, A, c, rfl, hlc, hcm, hs⟩ := hR2
    have hc0 : w2.cell? ⟨p, 0, none⟩ = some (.slice A r.length c) := by rw [cell_at hh]; rfl
    unfold maxLen at hcm
    replace hh := hide hh
    by_cases hle : n ≤ r.length
    · go_wp2_with fail
      refine (need_any _ _).mono ?_
      rintro e w' ⟨rfl, h, -⟩
      obtain rfl := h (by simp; try omega)
      go_wp2_with fail
      go_ret
      unfold dcount
      rw [hd.out]
      simp only [Option.bind_some, hle, if_true]
      exact ⟨hU, rfl, hR3.out⟩
    · go_wp2_with fail
      refine (need_any _ _).mono ?_
      rintro e w' ⟨rfl, -, h⟩
      obtain ⟨pv, rfl⟩ := h (by simp; try omega)
      go_wp2_with fail
      refine ⟨rfl, ?_⟩
      unfold dcount
      rw [hd.out]
      simp only [Option.bind_some, hle, if_false]
      exact ⟨hU, ⟨_, rfl⟩, _, hR3.out⟩

theorem dcount_le {l r : List UInt8} {n : Nat} (h : dcount l = some (n, r)) : n ≤ r.length := by
  unfold dcount at h
  cases hd : dnum 0 0 l with
  | none => rw [hd] at h; cases h
  | some x =>
    rw [hd] at h
    simp only [Option.bind_some] at h
    split at h
    · injection h with h; subst h; assumption
    · cases h

set_option maxRecDepth 100000 in
theorem text_any (D p : Nat) (l : List UInt8) (w : World) (hR : Rd w D p l false) :
    Calls Tryz.prog 81 #[.pointer (some ⟨p, 0, none⟩)] w fun e w' => Told D p w Value.string (dtext l) e w' := by
  have hN := count_any D p l w hR
  cases hd : dcount l with
  | none =>
    rw [hd] at hN
    replace hd := hide hd
    go_enter Tryz.func81, Tryz.ntmps81
    go_wp2_with fail
    refine hN.mono ?_
    rintro e w2 ⟨hU, ⟨pv, rfl⟩, r, hR2⟩
    go_wp2_with fail
    refine ⟨rfl, ?_⟩
    unfold dtext
    rw [hd.out]
    exact ⟨hU, ⟨_, rfl⟩, _, hR2⟩
  | some x =>
    obtain ⟨n, r⟩ := x
    have hn := dcount_le hd
    rw [hd] at hN
    replace hd := hide hd
    go_enter Tryz.func81, Tryz.ntmps81
    go_wp2_with fail
    refine hN.mono ?_
    rintro e w2 ⟨hU, rfl, hR2⟩
    unfold intv
    have hR3 := hide hR2
    obtain ⟨hD, v, hh, hb⟩ := hR2
    obtain ⟨A, n0, c, rfl⟩ := hb.slice'
    have hb3 := hide hb
    obtain ⟨A', c', hv, hlc, hcm, hs⟩ := hb
    injection hv with e1 e2 e3
    subst e1 e2 e3
    have hc0 : w2.cell? ⟨p, 0, none⟩ = some (.slice A r.length c) := by rw [cell_at hh]; rfl
    have hf0 := frozen_at hh 0
    unfold maxLen at hcm
    have hconv := (hb3.out.take n hn).string (P := Tryz.prog) Tryz.underlying62 Tryz.underlying5 Tryz.underlying9
    replace hh := hide hh
    go_wp2_with fail
    · go_ret
      unfold dtext
      rw [hd.out]
      have hrn : r.drop n = [] := List.drop_eq_nil_of_le (by omega)
      refine ⟨hU.then (Upd.set _ (F := At p) (a := ⟨p, 0, none⟩) rfl _), rfl, ?_⟩
      show Rd _ D p (r.drop n) false
      rw [hrn]
      exact hR3.out.rest ⟨_, _, by rw [show r.length - n = 0 by omega]; rfl, Nat.le_refl _, Nat.zero_le _, .inl rfl⟩
    · go_ret
      unfold dtext
      rw [hd.out]
      exact ⟨hU.then (Upd.set _ (F := At p) (a := ⟨p, 0, none⟩) rfl _), rfl, hR3.out.rest (hb3.out.drop n hn)⟩

end Go.Proofs.YtpnboihbifhigaaGreatDoor.Cd
/- What the reader's methods come to: a value, or that it has failed. -/
namespace Go.Proofs.YtpnboihbifhigaaGreatDoor.Cd
open Go.RowKit

/-- The reader at p: what is left, or that a call has failed. -/
def RdS (w : World) (D p : Nat) : Option (List UInt8) → Prop
  | some l => Rd w D p l false
  | none => ∃ l, Rd w D p l true
theorem RdS.upd {w w' : World} {D p : Nat} {F : Nat → Prop} : ∀ {st : Option (List UInt8)}, RdS w D p st → Upd F w w' → ¬ F p → (∀ k, k < D → ¬ F k) → RdS w' D p st
  | some _, h, hu, hp, hD => Rd.upd h hu hp hD
  | none, ⟨l, h⟩, hu, hp, hD => ⟨l, h.upd hu hp hD⟩
theorem RdS.lt {w : World} {D p : Nat} : ∀ {st : Option (List UInt8)}, RdS w D p st → p < w.heap.size
  | some _, h => Rd.lt h
  | none, ⟨_, h⟩ => h.lt
/-- What a method tells, and what it leaves. -/
def read {α : Type} (z : α) (d : List UInt8 → Option (α × List UInt8)) (st : Option (List UInt8)) : α × Option (List UInt8) :=
  match st.bind d with
  | some (a, r) => (a, some r)
  | none => (z, none)
def Met {α : Type} (D p : Nat) (w : World) (f : α → Value) (x : α × Option (List UInt8)) (e : Ending) (w' : World) : Prop :=
  e = .returned (f x.1) ∧ Upd (At p) w w' ∧ RdS w' D p x.2
def dnum0 : List UInt8 → Option (Nat × List UInt8) := dnum 0 0
theorem num0_any (D p : Nat) (l : List UInt8) (w : World) (hR : Rd w D p l false) :
    Calls Tryz.prog 149 #[.pointer (some ⟨p, 0, none⟩)] w fun e w' => Told D p w u64v (dnum0 l) e w' := num_any D p l w hR

theorem caught_str (g p : Nat) (u : TypeId) (pv : Value) (older : List PanicEntry) (b : Bool) (w : World) (hc : w.cell? ⟨g, 0, none⟩ = some (.pointer (some ⟨p, 0, none⟩))) (hb : w.cell? ⟨p, 1, none⟩ = some (.bool b)) (hz : w.frozen? ⟨p, 1, none⟩ = false) :
    CallsD Tryz.prog 121 #[.pointer (some ⟨g, 0, none⟩)] (.panicking ({ v := .iface u pv, recovered := false } :: older)) w fun e u' w' =>
      e = .returned (.tuple #[]) ∧ u' = .panicking ({ v := .iface u pv, recovered := true } :: older) ∧ w' = w.setCell ⟨p, 1, none⟩ (.bool true) := by
  refine callsD_of_wpS Tryz.func121 rfl fun c₀ cs hu => ?_
  apply wpS_seq
  apply wpS_region
  simp [wpOpsS, go_sem, recoverD, hu, Tryz.ntmps121, Exit.thenS]
  refine wpS_cond (t := true) (by simp [Act.eval, Array.replicate]) ?_
  simp only [if_true]
  apply wpS_region
  simp [wpOpsS, go_sem, hc, hb, hz, bodyPostS, results, Tryz.results121]

theorem idle_str (g : Nat) (w : World) :
    CallsD Tryz.prog 121 #[.pointer (some ⟨g, 0, none⟩)] .returning w fun e u' w' => e = .returned (.tuple #[]) ∧ u' = .returning ∧ w' = w := by
  refine callsD_of_wpS Tryz.func121 rfl fun c₀ cs hu => ?_
  apply wpS_seq
  apply wpS_region
  simp [wpOpsS, go_sem, recoverD, hu, Tryz.ntmps121, Exit.thenS]
  refine wpS_cond (t := false) (by simp [Act.eval, Array.replicate]) ?_
  simp only [Bool.false_eq_true, if_false]
  refine wpS_of_wp (wp_skip ?_)
  cases c₀
  simp_all [bodyPostS, results, Tryz.results121]

set_option maxRecDepth 100000 in
theorem attempt_str (D p : Nat) (st : Option (List UInt8)) (w : World) (hR : RdS w D p st) :
    Calls Tryz.prog 80 #[.pointer (some ⟨p, 0, none⟩), .func (.func 81) #[.pointer (some ⟨p, 0, none⟩)] #[]] w fun e w' => Met D p w Value.string (read ByteArray.empty dtext st) e w' := by
  have hmf : ∀ (fn : Fn) (first cap : Array Value) (w : World), (Instr.makeFunc fn first cap).run Tryz.prog w = .ok (.func fn first cap) w := fun _ _ _ _ => rfl
  cases st with
  | none =>
    obtain ⟨l, hl⟩ := hR
    have hh := hl.alloc (.cells #[.pointer (some ⟨p, 0, none⟩)] 100)
    obtain ⟨hD, v, hh2, -⟩ := hh
    have hc1 := cell_at hh2 1
    replace hc1 : (w.alloc (.cells #[.pointer (some ⟨p, 0, none⟩)] 100)).cell? ⟨p, 1, none⟩ = some (.bool true) := hc1
    replace hh2 := hide hh2
    replace hl := hide hl
    go_enter_defers Tryz.func80, Tryz.ntmps80
    go_wp2_with fail
    refine ⟨_, results_tmp rfl _ _ _, ?_⟩
    exact ⟨rfl, .alloc _ _ _, l, hl.out.alloc _⟩
  | some l =>
    have hlt := hR.lt
    have hh := hR.alloc (.cells #[.pointer (some ⟨p, 0, none⟩)] 100)
    have hN := text_any D p l _ hh
    obtain ⟨hD, v, hh2, -⟩ := hh
    have hc1 : (w.alloc (.cells #[.pointer (some ⟨p, 0, none⟩)] 100)).cell? ⟨p, 1, none⟩ = some (.bool false) := cell_at hh2 1
    have hbox : (w.alloc (.cells #[.pointer (some ⟨p, 0, none⟩)] 100)).cell? ⟨w.heap.size, 0, none⟩ = some (.pointer (some ⟨p, 0, none⟩)) := by rw [cell_at (heap_new _ _)]; rfl
    have hU0 := hide (Upd.alloc (At p) w (.cells #[.pointer (some ⟨p, 0, none⟩)] 100))
    replace hbox := hide hbox
    replace hh2 := hide hh2
    replace hR := hide hR
    cases hd : dtext l with
    | none =>
      rw [hd] at hN
      have hr : read ByteArray.empty dtext (some l) = (ByteArray.empty, none) := by simp [read, hd]
      rw [hr]
      clear hd hr
      go_enter_defers Tryz.func80, Tryz.ntmps80
      go_wp2_with fail
      refine hN.mono ?_
      rintro e w2 ⟨hU, ⟨pv, rfl⟩, r, hR2⟩
      go_wp2_with fail
      refine leaves_cons (f := 121) (args := #[.pointer (some ⟨w.heap.size, 0, none⟩)]) (by simp) (by simp [go_sem]) ?_
      have hR3 := hR2
      obtain ⟨-, v2, hh3, -⟩ := hR3
      refine (caught_str w.heap.size p _ pv [] false _ ?_ ?_ ?_).mono ?_
      · exact hU.cell hbox.out (fun e => by have : w.heap.size = p := e
                                            omega)
      · rw [cell_at hh3]; rfl
      · exact frozen_at hh3 1
      rintro e u' w3 ⟨rfl, rfl, rfl⟩
      refine ⟨_, results_tmp rfl _ _ _, ?_⟩
      exact ⟨rfl, (hU0.out.then hU).then (Upd.set _ (F := At p) (a := ⟨p, 1, none⟩) rfl _), r, hR2.fail⟩
    | some x =>
      obtain ⟨a, r⟩ := x
      rw [hd] at hN
      have hr : read ByteArray.empty dtext (some l) = (a, some r) := by simp [read, hd]
      rw [hr]
      clear hd hr
      go_enter_defers Tryz.func80, Tryz.ntmps80
      go_wp2_with fail
      refine hN.mono ?_
      rintro e w2 ⟨hU, rfl, hR2⟩
      go_wp2_with fail
      refine leaves_cons (f := 121) (args := #[.pointer (some ⟨w.heap.size, 0, none⟩)]) (by simp) (by simp [go_sem]) ?_
      refine (idle_str w.heap.size _).mono ?_
      rintro e u' w3 ⟨rfl, rfl, rfl⟩
      refine ⟨_, results_tmp rfl _ _ _, ?_⟩
      exact ⟨rfl, hU0.out.then hU, hR2⟩

set_option maxRecDepth 100000 in
theorem rText_any (D p : Nat) (st : Option (List UInt8)) (w : World) (hR : RdS w D p st) :
    Calls Tryz.prog 48 #[.pointer (some ⟨p, 0, none⟩)] w fun e w' => Met D p w Value.string (read ByteArray.empty dtext st) e w' := by
  have hmf : ∀ (fn : Fn) (first cap : Array Value) (w : World), (Instr.makeFunc fn first cap).run Tryz.prog w = .ok (.func fn first cap) w := fun _ _ _ _ => rfl
  go_enter Tryz.func48, Tryz.ntmps48
  go_wp2_with fail
  refine (attempt_str D p st w hR).mono ?_
  rintro e w2 ⟨rfl, hU, hR2⟩
  go_wp2_with fail
  go_ret
  exact ⟨rfl, hU, hR2⟩

end Go.Proofs.YtpnboihbifhigaaGreatDoor.Cd
/- Walks of the store: pairs, and the records of them. -/
namespace Go.Proofs.YtpnboihbifhigaaGreatDoor
open Go Go.RowKit
/-- A change of the store. -/
structure PairD where
  key : ByteArray
  val : ByteArray
  gone : Bool
def pairV (p : PairD) : Value := .agg #[.string p.key, .string p.val, .bool p.gone]
def PairD.ok (p : PairD) : Prop := p.key.size ≤ 4294967296 ∧ p.val.size ≤ 4294967296
def PairD.long (p : PairD) : Bool := decide (1048512 < p.key.size + p.val.size)
theorem length_any (w : World) (p : PairD) (h : p.ok) : Calls Tryz.prog 40 #[pairV p] w fun e w' => e = .returned (.int .i64 (p.key.size + p.val.size : Nat)) ∧ Below w.heap.size w w' := by
  obtain ⟨k, v, g⟩ := p
  obtain ⟨h1, h2⟩ := h
  unfold pairV
  simp only at h1 h2 ⊢
  obtain ⟨w1, hw1⟩ : ∃ w1, w1 = w.alloc (.cells #[.string k, .string v, .bool g] 66) := ⟨_, rfl⟩
  have hh : w1.heap[w.heap.size]? = some (.cells #[.string k, .string v, .bool g] 66) := by rw [hw1]; exact heap_new _ _
  have hb : Below w.heap.size w w1 := by rw [hw1]; exact (Below.refl _ _).alloc (Nat.le_refl _) _
  have c0 : w1.cell? ⟨w.heap.size, 0, none⟩ = some (.string k) := by rw [cell_at hh]; rfl
  have c1 : w1.cell? ⟨w.heap.size, 1, none⟩ = some (.string v) := by rw [cell_at hh]; rfl
  replace hb := hide hb
  replace hh := hide hh
  go_enter Tryz.func40, Tryz.ntmps40
  go_wp2_with fail
  rw [← hw1]
  replace hw1 := hide hw1
  go_wp2_with fail
  go_ret
  exact ⟨by go_num, hb.out⟩
theorem tooLongS_any (w : World) (p : PairD) (h : p.ok) : Calls Tryz.prog 34 #[pairV p] w fun e w' => e = .returned (.bool p.long) ∧ Below w.heap.size w w' := by
  have hl : ∀ W, Calls Tryz.prog 40 #[pairV p] W fun e w' => e = .returned (.int .i64 (p.key.size + p.val.size : Nat)) ∧ Below W.heap.size W w' := fun W => length_any W p h
  obtain ⟨k, v, g⟩ := p
  unfold pairV at hl ⊢
  simp only at hl ⊢
  obtain ⟨w1, hw1⟩ : ∃ w1, w1 = w.alloc (.cells #[.string k, .string v, .bool g] 66) := ⟨_, rfl⟩
  have hh : w1.heap[w.heap.size]? = some (.cells #[.string k, .string v, .bool g] 66) := by rw [hw1]; exact heap_new _ _
  have hb : Below w.heap.size w w1 := by rw [hw1]; exact (Below.refl _ _).alloc (Nat.le_refl _) _
  have c0 : w1.cell? ⟨w.heap.size, 0, none⟩ = some (.string k) := by rw [cell_at hh]; rfl
  have c1 : w1.cell? ⟨w.heap.size, 1, none⟩ = some (.string v) := by rw [cell_at hh]; rfl
  have c2 : w1.cell? ⟨w.heap.size, 2, none⟩ = some (.bool g) := by rw [cell_at hh]; rfl
  have hll := hl w1
  obtain ⟨m, hm⟩ : ∃ m, m = k.size + v.size := ⟨_, rfl⟩
  rw [← hm] at hll
  have hlg : PairD.long ⟨k, v, g⟩ = decide (1048512 < m) := by rw [hm]; rfl
  rw [hlg]
  replace hb := hide hb
  replace hh := hide hh
  replace hm := hide hm
  clear hl hlg
  go_enter Tryz.func34, Tryz.ntmps34
  go_wp2_with fail
  rw [← hw1]
  replace hw1 := hide hw1
  refine hll.mono ?_
  rintro e w2 ⟨rfl, hb2⟩
  clear hll
  have hb3 := hide (hb.out.trans (hb2.mono hb.out.size))
  clear hb2
  go_wp2_with fail
  go_ret
  exact ⟨by simp; omega, hb3.out⟩
end Go.Proofs.YtpnboihbifhigaaGreatDoor
/- Walks: a new reader, Done, and what is known. -/
namespace Go.Proofs.YtpnboihbifhigaaGreatDoor.Cd
open Go.RowKit

set_option maxRecDepth 100000 in
theorem newReader_any (v : Value) (l : List UInt8) (w : World) (B : Nat) (hv : BytesV w B v l) (hlen : l.length ≤ 70368744177664) :
    Calls Tryz.prog 47 #[v] w fun e w' => ∃ p, e = .returned (.pointer (some ⟨p, 0, none⟩)) ∧ w.heap.size ≤ p ∧ RdS w' p p (some l) ∧ Below w.heap.size w w' := by
  have hv0 := hide hv
  obtain ⟨A, n, c, rfl⟩ := hv.slice'
  go_enter Tryz.func47, Tryz.ntmps47
  go_wp2_with fail
  refine (clone_any _ _ _ _ hv0.out hlen).mono ?_
  rintro e w1 ⟨v1, rfl, h1, h2⟩
  replace h1 := h1.bytes
  have h1' := hide h1
  obtain ⟨A1, n1, c1, rfl⟩ := h1.slice'
  clear h1
  go_wp2_with fail
  go_ret
  refine ⟨w1.heap.size, rfl, h2.size, ?_, h2.alloc h2.size _⟩
  exact ⟨Nat.le_refl _, _, heap_new _ _, (h1'.out.alloc (Nat.le_refl _) _)⟩

def doneOf (st : Option (List UInt8)) : Int := if st = some [] then 0 else 20
set_option maxRecDepth 100000 in
theorem done_any (D p : Nat) (st : Option (List UInt8)) (w : World) (hR : RdS w D p st) :
    Calls Tryz.prog 49 #[.pointer (some ⟨p, 0, none⟩)] w fun e w' => e = .returned (.int .i64 (doneOf st)) ∧ w = w' := by
  cases st with
  | none =>
    obtain ⟨l, hl⟩ := hR
    obtain ⟨hD, v, hh, -⟩ := hl
    have hc1 : w.cell? ⟨p, 1, none⟩ = some (.bool true) := cell_at hh 1
    replace hh := hide hh
    go_enter Tryz.func49, Tryz.ntmps49
    go_wp2_with fail
    go_ret
    exact ⟨rfl, rfl⟩
  | some l =>
    obtain ⟨hD, v, hh, A, c, rfl, -⟩ := hR
    have hc1 : w.cell? ⟨p, 1, none⟩ = some (.bool false) := cell_at hh 1
    have hc0 : w.cell? ⟨p, 0, none⟩ = some (.slice A l.length c) := cell_at hh 0
    replace hh := hide hh
    cases l with
    | nil =>
      go_enter Tryz.func49, Tryz.ntmps49
      go_wp2_with fail
      go_ret
      exact ⟨rfl, rfl⟩
    | cons x l =>
      have hd : doneOf (some (x :: l)) = 20 := by unfold doneOf; rw [if_neg (by simp)]
      rw [hd]
      clear hd
      go_enter Tryz.func49, Tryz.ntmps49
      go_wp2_with fail
      go_ret
      exact ⟨rfl, rfl⟩

theorem WStep.below {B p : Nat} {w w' : World} {l l' : List UInt8} {v v' : Value} (hW : Wr w B p l v) (h : WStep B p w v w' l' v') : Below B w w' :=
  h.2.1.below hW.base fun k hk => by
    rcases hk with rfl | hk
    · exact hW.1
    · exact (hW.2.2.lt k hk).1
theorem known_bytes : nums ([-1, 1].map zig) = [1, 2] := by
  have h1 : zig (-1) = 1 := rfl
  have h2 : zig 1 = 2 := rfl
  simp only [nums, List.map_cons, List.map_nil, h1, h2, num_small (show 1 < 128 by decide), num_small (show 2 < 128 by decide)]
  rfl
theorem known_read1 : read 0 dint (some [1, 2]) = (-1, some [2]) := by decide
theorem known_read2 : read 0 dint (some [2]) = (1, some []) := by decide
theorem known_read3 : read ByteArray.empty dtext (some []) = (ByteArray.empty, none) := by rfl

end Go.Proofs.YtpnboihbifhigaaGreatDoor.Cd
/- Walks of the store: the record of a pair. -/
namespace Go.Proofs.YtpnboihbifhigaaGreatDoor
open Go Go.RowKit
open Cd (texts text)
def goneB : ByteArray := { data := #[103, 111, 110, 101] }
def setB : ByteArray := { data := #[115, 101, 116] }
/-- The bytes of a pair's record. -/
def recB (p : PairD) : List UInt8 := if p.gone then texts [goneB, p.key] else texts [setB, p.key, p.val]
theorem text_bound {k : ByteArray} (h : k.size ≤ 4294967296) : (Cd.text k).length ≤ 4294967306 := by
  unfold Cd.text
  rw [List.length_append, Cd.toList_len]
  have := Cd.num_len 9 k.size (by have : (128 : Nat) ^ 10 = 1180591620717411303424 := rfl; omega)
  omega
theorem texts3_len (a b c : ByteArray) (ha : a.size ≤ 100) (hb : b.size ≤ 4294967296) (hc : c.size ≤ 4294967296) : (Cd.texts [a, b, c]).length ≤ 9000000000 := by
  have h2 := text_bound hb
  have h3 := text_bound hc
  have h1 : (Cd.text a).length ≤ 110 := by
    unfold Cd.text
    rw [List.length_append, Cd.toList_len]
    have := Cd.num_len 9 a.size (by have : (128 : Nat) ^ 10 = 1180591620717411303424 := rfl; omega)
    omega
  unfold Cd.texts
  simp only [List.map_cons, List.map_nil, List.flatten_cons, List.flatten_nil, List.length_append, List.length_nil]
  omega
theorem texts2_len (a b : ByteArray) (ha : a.size ≤ 100) (hb : b.size ≤ 4294967296) : (Cd.texts [a, b]).length ≤ 9000000000 := by
  have := texts3_len a b b ha hb hb
  unfold Cd.texts at this ⊢
  simp only [List.map_cons, List.map_nil, List.flatten_cons, List.flatten_nil, List.length_append, List.length_nil] at this ⊢
  omega
set_option maxRecDepth 100000 in
theorem recordOf_any (w : World) (p : PairD) (h : p.ok) : Calls Tryz.prog 85 #[pairV p] w fun e w' => ∃ v, e = .returned v ∧ RowB w' w.heap.size v (recB p) ∧ Below w.heap.size w w' := by
  obtain ⟨k, v, g⟩ := p
  obtain ⟨h1, h2⟩ := h
  unfold pairV
  simp only at h1 h2 ⊢
  obtain ⟨w1, hw1⟩ : ∃ w1, w1 = w.alloc (.cells #[.string k, .string v, .bool g] 66) := ⟨_, rfl⟩
  have hh : w1.heap[w.heap.size]? = some (.cells #[.string k, .string v, .bool g] 66) := by rw [hw1]; exact heap_new _ _
  have z1 : w1.heap.size = w.heap.size + 1 := by rw [hw1]; simp
  have hb : Below w.heap.size w w1 := by rw [hw1]; exact (Below.refl _ _).alloc (Nat.le_refl _) _
  have hnw := Cd.newWriter_any w1
  replace hb := hide hb
  replace hh := hide hh
  go_enter Tryz.func85, Tryz.ntmps85
  go_wp2_with fail
  rw [← hw1]
  replace hw1 := hide hw1
  refine hnw.mono ?_
  rintro e w2 ⟨rfl, hw2⟩
  have hU2 : Upd (fun _ => False) w1 w2 := by rw [hw2]; exact .alloc _ _ _
  have hW2 : Cd.Wr w2 w1.heap.size w1.heap.size [] (.slice none 0 0) := ⟨Nat.le_refl _, by rw [hw2]; exact heap_new _ _, RowB.nil_ _ _⟩
  have hh2 := hU2.heap hh.out id
  have c0 : w2.cell? ⟨w.heap.size, 0, none⟩ = some (.string k) := by rw [cell_at hh2]; rfl
  have c1 : w2.cell? ⟨w.heap.size, 1, none⟩ = some (.string v) := by rw [cell_at hh2]; rfl
  have c2 : w2.cell? ⟨w.heap.size, 2, none⟩ = some (.bool g) := by rw [cell_at hh2]; rfl
  have z2 : w2.heap.size = w1.heap.size + 1 := by rw [hw2]; simp
  have hb2 := hb.out.trans (hU2.below (B := w.heap.size) (by omega) fun _ h => h.elim)
  replace hw2 := hide hw2
  replace hW2 := hide hW2
  replace hh2 := hide hh2
  replace hb2 := hide hb2
  replace hU2 := hide hU2
  clear hnw
  cases g
  · go_wp2_with fail
    obtain ⟨w3, hw3⟩ : ∃ w3, w3 = w2.alloc (.cells #[.string setB, .string k, .string v] 9) := ⟨_, rfl⟩
    have hU3 : Upd (fun _ => False) w2 w3 := by rw [hw3]; exact .alloc _ _ _
    have hn3 : w3.heap[w2.heap.size]? = some (.cells #[.string setB, .string k, .string v] 9) := by rw [hw3]; exact heap_new _ _
    have z3 : w3.heap.size = w2.heap.size + 1 := by rw [hw3]; simp
    have hW3 := hW2.out.upd hU3 fun _ _ => id
    have hx3 : ArgV w3 (fun k => ¬ Cd.Fp w1.heap.size (.slice none 0 0) k) (.slice (some ⟨w2.heap.size, 0, none⟩) 3 3) ([setB, k, v].map Value.string) := by
      refine ⟨_, _, rfl, Nat.le_refl _, by unfold maxLen; simp, .inr ⟨_, _, rfl, ?_, fun i u hi => ?_⟩⟩
      · rintro (h | h)
        · omega
        · cases h
      · rw [Nat.zero_add, cell_at hn3]
        simpa using hi
    have hb3 := hb2.out.trans (hU3.below (B := w.heap.size) hb2.out.size fun _ h => h.elim)
    have htl : (Cd.texts [setB, k, v]).length ≤ 9000000000 := texts3_len _ _ _ (by decide) h1 h2
    have hwt := Cd.wText_any w1.heap.size w1.heap.size [] (.slice none 0 0) [setB, k, v] (.slice (some ⟨w2.heap.size, 0, none⟩) 3 3) w3 hW3 hx3 (by simp only [List.length_nil]; omega)
    have hw3' := hw3
    unfold setB at hw3'
    rw [← hw3']
    clear hw3'
    rw [show w2.heap.size = w.heap.size + 1 + 1 by omega, show w1.heap.size = w.heap.size + 1 by omega] at hwt
    replace hb3 := hide hb3
    clear hx3 hW3 hw3 hU3
    refine hwt.mono ?_
    rintro e w4 ⟨rfl, v4, hs4⟩
    clear hwt
    rw [List.nil_append] at hs4
    have hW4 := hs4.1
    have hb4 := hb3.out.trans (hs4.2.1.below (B := w.heap.size) hb3.out.size fun k hk => by
      rcases hk with h | h
      · omega
      · cases h)
    have hby := Cd.bytes_any _ _ _ _ w4 hW4 (by omega)
    replace hb4 := hide hb4
    replace hs4 := hide hs4
    replace hW4 := hide hW4
    go_wp2_with fail
    refine hby.mono ?_
    rintro e w5 ⟨v5, rfl, hr5, hb5⟩
    clear hby
    have z4 := hb4.out.size
    have hb6 := hide (hb4.out.trans (hb5.mono z4))
    have hr6 := hide (show RowB w5 w.heap.size v5 (recB ⟨k, v, false⟩) from ownsRow_base hr5 z4)
    clear hr5 hb5
    go_wp2_with fail
    go_ret
    exact ⟨_, rfl, hr6.out, hb6.out⟩
  · go_wp2_with fail
    obtain ⟨w3, hw3⟩ : ∃ w3, w3 = w2.alloc (.cells #[.string goneB, .string k] 9) := ⟨_, rfl⟩
    have hU3 : Upd (fun _ => False) w2 w3 := by rw [hw3]; exact .alloc _ _ _
    have hn3 : w3.heap[w2.heap.size]? = some (.cells #[.string goneB, .string k] 9) := by rw [hw3]; exact heap_new _ _
    have z3 : w3.heap.size = w2.heap.size + 1 := by rw [hw3]; simp
    have hW3 := hW2.out.upd hU3 fun _ _ => id
    have hx3 : ArgV w3 (fun k => ¬ Cd.Fp w1.heap.size (.slice none 0 0) k) (.slice (some ⟨w2.heap.size, 0, none⟩) 2 2) ([goneB, k].map Value.string) := by
      refine ⟨_, _, rfl, Nat.le_refl _, by unfold maxLen; simp, .inr ⟨_, _, rfl, ?_, fun i u hi => ?_⟩⟩
      · rintro (h | h)
        · omega
        · cases h
      · rw [Nat.zero_add, cell_at hn3]
        simpa using hi
    have hb3 := hb2.out.trans (hU3.below (B := w.heap.size) hb2.out.size fun _ h => h.elim)
    have htl : (Cd.texts [goneB, k]).length ≤ 9000000000 := texts2_len _ _ (by decide) h1
    have hwt := Cd.wText_any w1.heap.size w1.heap.size [] (.slice none 0 0) [goneB, k] (.slice (some ⟨w2.heap.size, 0, none⟩) 2 2) w3 hW3 hx3 (by simp only [List.length_nil]; omega)
    have hw3' := hw3
    unfold goneB at hw3'
    rw [← hw3']
    clear hw3'
    rw [show w2.heap.size = w.heap.size + 1 + 1 by omega, show w1.heap.size = w.heap.size + 1 by omega] at hwt
    replace hb3 := hide hb3
    clear hx3 hW3 hw3 hU3
    refine hwt.mono ?_
    rintro e w4 ⟨rfl, v4, hs4⟩
    clear hwt
    rw [List.nil_append] at hs4
    have hW4 := hs4.1
    have hb4 := hb3.out.trans (hs4.2.1.below (B := w.heap.size) hb3.out.size fun k hk => by
      rcases hk with h | h
      · omega
      · cases h)
    have hby := Cd.bytes_any _ _ _ _ w4 hW4 (by omega)
    replace hb4 := hide hb4
    replace hs4 := hide hs4
    replace hW4 := hide hW4
    go_wp2_with fail
    refine hby.mono ?_
    rintro e w5 ⟨v5, rfl, hr5, hb5⟩
    clear hby
    have z4 := hb4.out.size
    have hb6 := hide (hb4.out.trans (hb5.mono z4))
    have hr6 := hide (show RowB w5 w.heap.size v5 (recB ⟨k, v, true⟩) from ownsRow_base hr5 z4)
    clear hr5 hb5
    go_wp2_with fail
    go_ret
    exact ⟨_, rfl, hr6.out, hb6.out⟩
end Go.Proofs.YtpnboihbifhigaaGreatDoor
/- Walks of the store: the records of pairs. -/
namespace Go.Proofs.YtpnboihbifhigaaGreatDoor
open Go Go.RowKit
def pairCells (p : PairD) : List Value := [.string p.key, .string p.val, .bool p.gone]
theorem pairCells_len (p : PairD) : (pairCells p).length = 3 := rfl
/-- A slice of pairs. -/
def PrsV (w : World) (S : Nat → Prop) (v : Value) (ps : List PairD) : Prop := SegV w S v ps.length (ps.map pairCells).flatten
theorem PrsV.upd {w w' : World} {F S : Nat → Prop} {v : Value} {ps : List PairD} (h : PrsV w S v ps) (hu : Upd F w w') (hS : ∀ k, S k → ¬ F k) : PrsV w' S v ps := SegV.upd h hu hS
theorem PrsV.at_ {w : World} {S : Nat → Prop} {n c : Nat} {A : Option Addr} {ps : List PairD} (h : PrsV w S (.slice A n c) ps) {k : Nat} (hk : k < ps.length) : ∃ b o, A = some ⟨b, o, none⟩ ∧ S b ∧ w.cell? ⟨b, o + k * 3, none⟩ = some (.string ps[k].key) ∧ w.cell? ⟨b, o + k * 3 + 1, none⟩ = some (.string ps[k].val) ∧ w.cell? ⟨b, o + k * 3 + 2, none⟩ = some (.bool ps[k].gone) := by
  have h' := h
  unfold PrsV at h'
  obtain ⟨Ax, cx, e, _⟩ := h'
  injection e with e1 e2 e3
  subst e1 e2 e3
  obtain ⟨b, o, rfl, hb, hc⟩ := SegV.get (k := 3) pairCells_len (by decide) h hk
  exact ⟨b, o, rfl, hb, by rw [show o + k * 3 = o + (3 * k + 0) by omega]; exact hc 0 _ (by decide) rfl, by rw [show o + k * 3 + 1 = o + (3 * k + 1) by omega]; exact hc 1 _ (by decide) rfl, by rw [show o + k * 3 + 2 = o + (3 * k + 2) by omega]; exact hc 2 _ (by decide) rfl⟩
/-- Records of the call's own, none of them nil. -/
def BatV (w : World) (B : Nat) (v : Value) (rs : List (List UInt8)) : Prop :=
  ∃ vs R, w.ownsRow B 62 1 v rs.length vs ∧ (∀ (i : Nat) (u : Value) (r : List UInt8), vs[i]? = some u → rs[i]? = some r → ArgV w R u (bv r) ∧ NonNil u) ∧ ∀ k, R k → B ≤ k ∧ k < w.heap.size ∧ ¬ Own v k
theorem BatV.upd {w w' : World} {F : Nat → Prop} {B : Nat} {v : Value} {rs : List (List UInt8)} (h : BatV w B v rs) (hu : Upd F w w') (hF : ∀ k, B ≤ k → k < w.heap.size → ¬ F k) : BatV w' B v rs := by
  obtain ⟨vs, R, h1, h2, h4⟩ := h
  exact ⟨vs, R, hu.own h1 fun k hk => hF k (own_lt h1 hk).1 (own_lt h1 hk).2, fun i u r hi hr => ⟨(h2 i u r hi hr).1.upd hu fun k hk => hF k (h4 k hk).1 (h4 k hk).2.1, (h2 i u r hi hr).2⟩, fun k hk => ⟨(h4 k hk).1, Nat.lt_of_lt_of_le (h4 k hk).2.1 hu.size, (h4 k hk).2.2⟩⟩
theorem BatV.slice {w : World} {B : Nat} {v : Value} {rs : List (List UInt8)} (h : BatV w B v rs) : ∃ A n c, v = .slice A n c := by
  obtain ⟨vs, R, h1, _⟩ := h
  rcases h1.2 with ⟨rfl, _⟩ | ⟨g, cap, cur, rfl, _⟩
  · exact ⟨_, _, _, rfl⟩
  · exact ⟨_, _, _, rfl⟩
theorem BatV.nil (w : World) (B : Nat) : BatV w B (.slice none 0 0) [] := ⟨[], fun _ => False, World.ownsRow_nil _ _ _ _, fun _ _ _ h _ => by simp at h, fun _ h => h.elim⟩
theorem BatV.recsV {w : World} {B : Nat} {v : Value} {rs : List (List UInt8)} (h : BatV w B v rs) : RecsV w (fun k => B ≤ k ∧ k < w.heap.size) v rs := by
  obtain ⟨vs, R, h1, h2, h4⟩ := h
  exact ⟨vs, by have := h1.1; omega, own_arg h1, fun i u r hi hr => ⟨(h2 i u r hi hr).1.wide fun k hk => ⟨(h4 k hk).1, (h4 k hk).2.1⟩, (h2 i u r hi hr).2⟩⟩
theorem wpl_append_at {w : World} {ops : Array Oper} {rest : List Oper} {o : Oper} {a : Act} {Q : Exit → Act → World → Prop} (hgd : o.guard = none) (s x : Operand) (ho : o.op = .call { callee := .builtin .append, args := #[s, x], argTypes := #[49, 49] })
    (base : Nat) (v : Value) (n : Nat) (xs : List Value) (hs : a.eval s = v) (hown : w.ownsRow base 62 1 v n xs)
    (g : Nat) (u : Value) (hx : a.eval x = .slice (some ⟨g, 0, none⟩) 1 1) (hc : w.cell? ⟨g, 0, none⟩ = some u) (hu : ∃ a n c, u = .slice a n c) (hn : n ≤ 4294967296) (hbase : base ≤ w.heap.size)
    (h : ∀ v' w', w'.ownsRow base 62 1 v' (n + 1) (xs ++ [u]) → w.grownBy w' v.ownBlock → (∀ k, Own v' k → Own v k ∨ w.heap.size ≤ k) → wpList Tryz.prog ops Q rest (a.put o.dst v') w') : wpList Tryz.prog ops Q (o :: rest) a w := by
  refine wpList_plain hgd fun K hK => wp_append_at s x ho base v n xs hs hown g u hx hc hu hn hbase fun v' w' h1 h2 h3 => hK _ _ (h v' w' h1 h2 h3)
/-- One more record behind those. -/
theorem BatV.snoc {w w' : World} {B : Nat} {v v' u : Value} {rs : List (List UInt8)} {r : List UInt8} {vs : List Value} {R : Nat → Prop} (h1 : w.ownsRow B 62 1 v rs.length vs) (h2 : ∀ (i : Nat) (u : Value) (r : List UInt8), vs[i]? = some u → rs[i]? = some r → ArgV w R u (bv r) ∧ NonNil u) (h4 : ∀ k, R k → B ≤ k ∧ k < w.heap.size ∧ ¬ Own v k)
    {Ru : Nat → Prop} (hu : ArgV w Ru u (bv r)) (hun : NonNil u) (hR : ∀ k, Ru k → B ≤ k ∧ k < w.heap.size ∧ ¬ Own v k) (ho : w'.ownsRow B 62 1 v' (rs.length + 1) (vs ++ [u])) (hg : w.grownBy w' v.ownBlock) (hm : ∀ k, Own v' k → Own v k ∨ w.heap.size ≤ k) : BatV w' B v' (rs ++ [r]) := by
  have hU : Upd (Own v) w w' := .grown hg fun k hk => hk
  have hvl : vs.length = rs.length := by have := h1.1; omega
  refine ⟨vs ++ [u], fun k => R k ∨ Ru k, by simpa using ho, fun i x s hi hs => ?_, fun k hk => ?_⟩
  · rcases Nat.lt_or_ge i rs.length with hlt | hge
    · rw [List.getElem?_append_left (by omega)] at hi
      rw [List.getElem?_append_left (by omega)] at hs
      have := h2 i x s hi hs
      exact ⟨(this.1.upd hU fun k hk => (h4 k hk).2.2).mono fun k _ => .inl, this.2⟩
    · have e1 : i = rs.length := by
        rcases Nat.lt_or_ge rs.length i with h | h
        · rw [List.getElem?_eq_none (by simp; omega)] at hs; cases hs
        · omega
      subst e1
      rw [← hvl, List.getElem?_concat_length] at hi
      rw [List.getElem?_concat_length] at hs
      injection hi with hi
      injection hs with hs
      subst hi hs
      exact ⟨(hu.upd hU fun k hk => (hR k hk).2.2).mono fun k _ => .inr, hun⟩
  · have key : B ≤ k ∧ k < w.heap.size ∧ ¬ Own v k := hk.elim (h4 k) (hR k)
    exact ⟨key.1, Nat.lt_of_lt_of_le key.2.1 hU.size, fun ho => (hm k ho).elim key.2.2 (by have := key.2.1; omega)⟩
theorem recB_pos (p : PairD) : 0 < (recB p).length := by
  have h : ∀ (s : ByteArray) (l : List ByteArray), 0 < s.size → 0 < (Cd.texts (s :: l)).length := fun s l hs => by
    have := Cd.text_len s
    unfold Cd.texts
    rw [List.map_cons, List.flatten_cons, List.length_append]
    omega
  unfold recB
  split
  · exact h _ _ (by decide)
  · exact h _ _ (by decide)
set_option maxRecDepth 100000 in
set_option maxHeartbeats 1000000 in
theorem recordsOf_any {w : World} {S : Nat → Prop} {v : Value} {ps : List PairD} (h : PrsV w S v ps) (hok : ∀ p ∈ ps, p.ok) (hl : ps.length ≤ 4294967295) :
    Calls Tryz.prog 53 #[v] w fun e w' => ∃ v', e = .returned v' ∧ BatV w' w.heap.size v' (ps.map recB) ∧ Below w.heap.size w w' := by
  have ha := h
  obtain ⟨A, c, rfl, hc1, hc2, -⟩ := id h
  have hc3 : c ≤ 9223372036854775807 := by unfold maxLen at hc2; exact hc2
  replace ha := hide ha
  replace hok := hide hok
  clear hc2 h
  go_enter Tryz.func53, Tryz.ntmps53
  go_wp2_with fail
  go_loopw [3, 8] (fun z i wr => ∃ k : Nat, k ≤ ps.length ∧ i = .int .i64 k ∧ BatV wr w.heap.size z ((ps.take k).map recB) ∧ Upd (fun _ => False) w wr) (fun _ i _ => ps.length - (intOf i).toNat)
  case atStart => exact ⟨0, Nat.zero_le _, rfl, by simpa using BatV.nil w _, .refl _ _⟩
  case round =>
    obtain ⟨k, hk, rfl, hb, hU⟩ := hrel
    obtain ⟨A2, n2, c2, rfl⟩ := hb.slice
    have zr := hU.size
    rcases Nat.lt_or_ge k ps.length with hlt | hge
    · obtain ⟨b, o, rfl, hSb, g0, g1, g2⟩ := (ha.out.upd hU fun _ _ => id).at_ hlt
      have hok1 := hok.out _ (List.getElem_mem hlt)
      have hsn : (ps.take (k + 1)).map recB = (ps.take k).map recB ++ [recB ps[k]] := by rw [List.take_succ_eq_append_getElem hlt, List.map_append]; rfl
      generalize ps[k] = p at *
      obtain ⟨pk, pv, pg⟩ := p
      simp only at g0 g1 g2
      have hro := fun W => recordOf_any W ⟨pk, pv, pg⟩ hok1
      unfold pairV at hro
      simp only at hro
      replace hb := hide hb
      replace hU := hide hU
      replace hsn := hide hsn
      replace hro := hide hro
      go_wp2_with fail
      obtain ⟨w1, hw1⟩ : ∃ w1, w1 = wr.alloc (.cells #[.string pk, .string pv, .bool pg] 66) := ⟨_, rfl⟩
      have hU1 : Upd (fun _ => False) wr w1 := by rw [hw1]; exact .alloc _ _ _
      have hr1 := hro.out w1
      rw [← hw1]
      replace hU1 := hide hU1
      clear hw1
      refine hr1.mono ?_
      rintro e w2 ⟨v2, rfl, hv2, hb2⟩
      clear hr1
      have z1 := hU1.out.size
      have z2 := hb2.size
      have hU2 := hU1.out.then (Upd.of_below (fun _ => False) hb2)
      have hbb := hb.out.upd hU2 fun _ _ _ => id
      have hlr : 0 < (recB ⟨pk, pv, pg⟩).length := recB_pos _
      have hnn := hv2.nonNil hlr
      have hav := hv2.arg
      obtain ⟨A3, n3, c3, rfl⟩ := hv2.slice
      obtain ⟨vs, R, o1, o2, o4⟩ := hbb
      rw [List.length_map, List.length_take, Nat.min_eq_left hk] at o1
      have o1' : ∀ ob, (w2.alloc ob).ownsRow w.heap.size 62 1 (.slice A2 n2 c2) k vs := fun ob => (Upd.alloc (fun _ => False) w2 ob).own o1 fun _ _ => id
      replace hU2 := hide hU2
      replace o1' := hide o1'
      replace o2 := hide o2
      replace o4 := hide o4
      replace hav := hide hav
      replace hnn := hide hnn
      clear hv2 hb2 hU1
      go_wp2_with (at_builtin; refine wpl_append_at rfl (.tmp 12) (.tmp 15) rfl w.heap.size (.slice A2 n2 c2) k vs rfl (o1'.out _) w2.heap.size (.slice A3 n3 c3) rfl ?_ ⟨_, _, _, rfl⟩ (by omega) (by rw [World.size_alloc]; omega) ?_)
      · rw [cell_at (heap_new _ _)]; rfl
      intro v' wf h1 hgr hmv
      have hUa : Upd (fun _ => False) w2 (w2.alloc (.cells #[.slice A3 n3 c3] 62)) := .alloc _ _ _
      have hUf : Upd (fun q => Own (.slice A2 n2 c2) q) (w2.alloc (.cells #[.slice A3 n3 c3] 62)) wf := .grown hgr fun q hq => hq
      have hown : ∀ q, Own (.slice A2 n2 c2) q → w.heap.size ≤ q ∧ q < wr.heap.size := fun q hq => by
        obtain ⟨vs0, R0, p1, _⟩ := hb.out
        exact own_lt p1 hq
      have za : (w2.alloc (.cells #[.slice A3 n3 c3] 62)).heap.size = w2.heap.size + 1 := World.size_alloc _ _
      have hlen : ((ps.take k).map recB).length = k := by rw [List.length_map, List.length_take, Nat.min_eq_left hk]
      have hBf : BatV wf w.heap.size v' ((ps.take (k + 1)).map recB) := by
        rw [hsn.out]
        refine BatV.snoc (Ru := fun q => w1.heap.size ≤ q ∧ q < w2.heap.size) (by rw [hlen]; exact o1'.out _) (fun i u r hi hr => ⟨(o2.out i u r hi hr).1.upd hUa fun _ _ => id, (o2.out i u r hi hr).2⟩) (fun q hq => ⟨(o4.out q hq).1, by have := (o4.out q hq).2.1; omega, (o4.out q hq).2.2⟩) ((hav.out.mono fun q hq hq2 => ⟨hq2, hq⟩).upd hUa fun _ _ => id) hnn.out (fun q hq => ⟨by omega, by omega, fun ho => by have := (hown q ho).2; omega⟩) (by rw [hlen]; exact h1) hgr (by rw [za]; exact hmv)
      have hUF : Upd (fun _ => False) w wf := ((hU.out.trans hU2.out fun _ _ h => h).trans hUa fun _ _ h => h).trans hUf fun q hq h => by have := (hown q h).1; omega
      obtain ⟨A4, n4, c4, rfl⟩ := hBf.slice
      replace hBf := hide hBf
      replace hUF := hide hUF
      clear hgr h1 hUf hUa hmv
      go_wp2_with fail
      go_roundw
      case rel => exact ⟨k + 1, hlt, by go_num, hBf.out, hUF.out⟩
      case measure => simp [intOf]; omega
    · obtain rfl : k = ps.length := by omega
      rw [List.take_length] at hb
      replace hb := hide hb
      replace hU := hide hU
      go_wp2_with fail
      go_ret
      exact ⟨_, rfl, hb.out, hU.out.below (Nat.le_refl _) fun _ h => h.elim⟩
end Go.Proofs.YtpnboihbifhigaaGreatDoor
/- What is written is read back: the document's bytes, as lists. -/
namespace Go.Proofs.YtpnboihbifhigaaGreatDoor.Cd
open Go.RowKit

theorem ret_num {k : IntKind} {a b : Int} (h : a = b) : Ending.returned (.int k a) = .returned (.int k b) := by rw [h]
theorem pow9 : (128 : Nat) ^ 9 = 9223372036854775808 := by decide
theorem dnum_num (r : List UInt8) : ∀ (n i acc : Nat), i ≤ 9 → n * 128 ^ i < 18446744073709551616 → (i ≠ 0 → 0 < n) → dnum i acc (num n ++ r) = some (acc + n * 128 ^ i, r) := by
  intro n
  induction n using Nat.strongRecOn with
  | ind n ih =>
    intro i acc hi hn hp
    have h9 : i = 9 → n ≤ 1 := by
      rintro rfl
      rw [pow9] at hn
      omega
    by_cases hs : n < 128
    · have e : (UInt8.ofNat n).toNat = n := by rw [UInt8.toNat_ofNat_of_lt' (by simp [UInt8.size]; omega)]
      rw [num_small hs]
      show dnum i acc (UInt8.ofNat n :: r) = _
      rw [dnum_last e (by omega) (by omega) (by omega), Nat.mod_eq_of_lt hs]
    · have e : (UInt8.ofNat (n % 128 + 128)).toNat = n % 128 + 128 := by rw [UInt8.toNat_ofNat_of_lt' (by simp [UInt8.size]; omega)]
      have hi8 : i < 9 := by omega
      have hsplit : n = n / 128 * 128 + n % 128 := by omega
      have hpow : n * 128 ^ i = n / 128 * 128 ^ (i + 1) + n % 128 * 128 ^ i := by
        rw [Nat.pow_succ, Nat.mul_comm (128 ^ i) 128, ← Nat.mul_assoc, ← Nat.add_mul, ← hsplit]
      rw [num_great (by omega)]
      show dnum i acc (UInt8.ofNat (n % 128 + 128) :: (num (n / 128) ++ r)) = _
      rw [dnum_more e (by omega) (by omega), show (n % 128 + 128) % 128 = n % 128 by omega, ih (n / 128) (by omega) (i + 1) _ (by omega) (by omega) (fun _ => by omega), hpow]
      congr 2; omega
theorem dnum0_num {n : Nat} (r : List UInt8) (h : n < 18446744073709551616) : dnum0 (num n ++ r) = some (n, r) := by
  have := dnum_num r n 0 0 (by omega) (by simpa using h) (by simp)
  show dnum 0 0 (num n ++ r) = _
  rw [this]; simp
theorem num_inj {a b : Nat} (ha : a < 18446744073709551616) (hb : b < 18446744073709551616) (h : num a = num b) : a = b := by
  have h1 := dnum0_num [] ha
  have h2 := dnum0_num [] hb
  rw [h, h2] at h1
  injection h1 with h1
  injection h1 with h1 _
  exact h1.symm
theorem unzig_zig (a : Int) : unzig (zig a) = a := by
  unfold unzig zig
  split <;> split <;> omega
theorem dint_num {a : Int} (r : List UInt8) (h1 : -9223372036854775808 ≤ a) (h2 : a ≤ 9223372036854775807) : dint (num (zig a) ++ r) = some (a, r) := by
  have := dnum0_num r (zig_lt h1 h2)
  unfold dint
  rw [show dnum 0 0 (num (zig a) ++ r) = _ from this]
  simp [unzig_zig]
theorem zig_inj {a b : Int} (h : zig a = zig b) : a = b := by rw [← unzig_zig a, ← unzig_zig b, h]

end Go.Proofs.YtpnboihbifhigaaGreatDoor.Cd
/- What is left of texts that are cut off. -/
namespace Go.Proofs.YtpnboihbifhigaaGreatDoor.Cd
open Go.RowKit

theorem dnum_cut : ∀ (n i acc j : Nat), j < (num n).length → dnum i acc ((num n).take j) = none := by
  intro n
  induction n using Nat.strongRecOn with
  | ind n ih =>
    intro i acc j hj
    by_cases hs : n < 128
    · rw [num_small hs] at hj ⊢
      obtain rfl : j = 0 := by simpa using hj
      rfl
    · have e : (UInt8.ofNat (n % 128 + 128)).toNat = n % 128 + 128 := by rw [UInt8.toNat_ofNat_of_lt' (by simp [UInt8.size]; omega)]
      rw [num_great (by omega)] at hj ⊢
      cases j with
      | zero => rfl
      | succ j =>
        rw [List.take_succ_cons]
        by_cases h9 : 9 ≤ i ∧ 1 < n % 128 + 128
        · exact dnum_great e h9
        · rw [dnum_more e h9 (by omega)]
          exact ih (n / 128) (by omega) _ _ j (by simpa using hj)
theorem dtext_full (s : ByteArray) (r : List UInt8) (h : s.size < 18446744073709551616) : dtext (text s ++ r) = some (s, r) := by
  have h1 : dnum 0 0 (num s.size ++ (s.data.toList ++ r)) = some (s.size, s.data.toList ++ r) := dnum0_num _ h
  have e : text s ++ r = num s.size ++ (s.data.toList ++ r) := by unfold text; rw [List.append_assoc]
  have hl := toList_len s
  unfold dtext dcount
  rw [e, h1]
  simp only [Option.bind_some]
  rw [if_pos (by rw [List.length_append]; omega)]
  simp only [Option.map_some]
  have e1 : (s.data.toList ++ r).take s.size = s.data.toList := by rw [← hl]; exact List.take_left
  have e2 : (s.data.toList ++ r).drop s.size = r := by rw [← hl]; exact List.drop_left
  rw [e1, e2]
theorem dtext_cut (s : ByteArray) (r : List UInt8) (m : Nat) (h : s.size < 18446744073709551616) (hm : m < (text s).length) : dtext ((text s ++ r).take m) = none := by
  have hl := toList_len s
  have e : (text s ++ r).take m = (num s.size).take m ++ (s.data.toList.take (m - (num s.size).length)) := by
    rw [List.take_append_of_le_length (by omega)]
    unfold text
    rw [List.take_append]
  unfold dtext dcount
  rcases Nat.lt_or_ge m (num s.size).length with h1 | h1
  · have e2 : s.data.toList.take (m - (num s.size).length) = [] := by rw [show m - (num s.size).length = 0 by omega]; rfl
    rw [e, e2, List.append_nil, dnum_cut _ _ _ _ h1]
    rfl
  · have e1 : (num s.size).take m = num s.size := List.take_of_length_le h1
    rw [e, e1]
    have h2 : dnum 0 0 (num s.size ++ s.data.toList.take (m - (num s.size).length)) = some (s.size, s.data.toList.take (m - (num s.size).length)) := dnum0_num _ h
    rw [h2]
    simp only [Option.bind_some]
    rw [if_neg]
    · rfl
    · rw [List.length_take]
      unfold text at hm
      rw [List.length_append] at hm
      omega
theorem texts_drop (ss : List ByteArray) (i : Nat) (h : i < ss.length) : texts (ss.drop i) = text ss[i] ++ texts (ss.drop (i + 1)) := by
  unfold texts
  rw [List.drop_eq_getElem_cons h, List.map_cons, List.flatten_cons]
/-- How long the first i texts are. -/
def tlen (ss : List ByteArray) (i : Nat) : Nat := (texts (ss.take i)).length
theorem tlen_succ (ss : List ByteArray) (i : Nat) (h : i < ss.length) : tlen ss (i + 1) = tlen ss i + (text ss[i]).length := by
  unfold tlen; rw [texts_snoc ss i h, List.length_append]
/-- What is left behind i texts of those that were cut off at k. -/
def cutAt (ss : List ByteArray) (k i : Nat) : Option (List UInt8) := if tlen ss i ≤ k then some ((texts (ss.drop i)).take (k - tlen ss i)) else none
theorem cut_read (ss : List ByteArray) (k i : Nat) (h : i < ss.length) (hs : ss[i].size < 18446744073709551616) :
    read ByteArray.empty dtext (cutAt ss k i) = (if tlen ss (i + 1) ≤ k then ss[i] else ByteArray.empty, cutAt ss k (i + 1)) := by
  have h1 := tlen_succ ss i h
  unfold cutAt
  by_cases h2 : tlen ss (i + 1) ≤ k
  · rw [if_pos (by omega), if_pos h2, if_pos h2, texts_drop ss i h, List.take_append, List.take_of_length_le (by omega)]
    simp only [read, Option.bind_some]
    rw [dtext_full _ _ hs, show k - tlen ss i - (text ss[i]).length = k - tlen ss (i + 1) by omega]
  · rw [if_neg h2, if_neg h2]
    by_cases h3 : tlen ss i ≤ k
    · rw [if_pos h3, texts_drop ss i h]
      simp only [read, Option.bind_some]
      rw [dtext_cut _ _ _ hs (by omega)]
    · rw [if_neg h3]; rfl
theorem cut_start (ss : List ByteArray) (k : Nat) : cutAt ss k 0 = some ((texts ss).take k) := by
  unfold cutAt tlen
  rw [if_pos (by simp [texts])]
  simp [texts]
theorem cut_end (ss : List ByteArray) (k : Nat) (h : k < (texts ss).length) : cutAt ss k ss.length = none := by
  unfold cutAt tlen
  rw [List.take_length, if_neg (by omega)]
theorem read_none {α : Type} (z : α) (d : List UInt8 → Option (α × List UInt8)) : read z d none = (z, none) := rfl
theorem tlen_small (ss : List ByteArray) (b : Nat) (hb : b < 18446744073709551616) : ∀ k, (∀ (j : Nat) (h : j < ss.length), j < k → ss[j].size ≤ b) → tlen ss k ≤ (b + 10) * k := by
  intro k
  induction k with
  | zero => intro _; simp [tlen, texts]
  | succ k ih =>
    intro h
    have h1 := ih fun j hj hk => h j hj (by omega)
    by_cases hk : k < ss.length
    · rw [tlen_succ ss k hk]
      have h2 := h k hk (by omega)
      have h3 := num_len10 (n := ss[k].size) (by omega)
      have e : (text ss[k]).length = (num ss[k].size).length + ss[k].size := by unfold text; rw [List.length_append, toList_len]
      rw [Nat.mul_add]
      omega
    · have e : tlen ss (k + 1) = tlen ss k := by unfold tlen; rw [List.take_of_length_le (by omega), List.take_of_length_le (by omega)]
      rw [e, Nat.mul_add]; omega
end Go.Proofs.YtpnboihbifhigaaGreatDoor.Cd
/- The store: a pair out of its record. -/
namespace Go.Proofs.YtpnboihbifhigaaGreatDoor
open Go Go.RowKit
open Cd (RdS dtext)
/-- A pair as its record keeps it. -/
def PairD.kept (p : PairD) : PairD := if p.gone then ⟨p.key, ByteArray.empty, true⟩ else p
theorem read_text (s : ByteArray) (l : List ByteArray) (h : s.size ≤ 4294967296) : Cd.read ByteArray.empty dtext (some (Cd.texts (s :: l))) = (s, some (Cd.texts l)) := by
  have e : Cd.texts (s :: l) = Cd.text s ++ Cd.texts l := by unfold Cd.texts; rfl
  unfold Cd.read
  rw [e, Option.bind_some, Cd.dtext_full _ _ (by omega)]
theorem texts_nil : Cd.texts [] = [] := rfl
set_option maxRecDepth 100000 in
set_option maxHeartbeats 1000000 in
theorem pairOf_set {w : World} {B : Nat} {v : Value} {k u : ByteArray} (hk : k.size ≤ 4294967296) (hu : u.size ≤ 4294967296) (hnl : k.size + u.size ≤ 1048512) (hv : BytesV w B v (Cd.texts [setB, k, u])) :
    Calls Tryz.prog 29 #[v] w fun e w' => e = .returned (.tuple #[.agg #[.string k, .string u, .bool false], .bool true]) ∧ Below w.heap.size w w' := by
  have hlen := texts3_len setB k u (by decide) hk hu
  have r1 := read_text setB [k, u] (by decide)
  have r2 := read_text k [u] hk
  have r3 := read_text u [] hu
  have hN := fun W (h : BytesV W B v (Cd.texts [setB, k, u])) => Cd.newReader_any v _ W B h (by omega)
  replace hN := hide hN
  replace hlen := hide hlen
  replace r1 := hide r1
  replace r2 := hide r2
  replace r3 := hide r3
  have hv0 := hide hv
  clear hv
  obtain ⟨A, n, c, rfl⟩ := hv0.out.slice'
  go_enter Tryz.func29, Tryz.ntmps29
  go_wp2_with fail
  obtain ⟨w2, hw2⟩ : ∃ w2, w2 = (w.alloc (.cells #[.string ⟨#[]⟩, .string ⟨#[]⟩, .bool false] 66)).alloc (.cells #[.string ⟨#[]⟩, .string ⟨#[]⟩, .bool false] 66) := ⟨_, rfl⟩
  have hU2 : Upd (fun _ => False) w w2 := by rw [hw2]; exact (Upd.alloc _ _ _).then (Upd.alloc _ _ _)
  have hz2 : w2.heap.size = w.heap.size + 2 := by rw [hw2, World.size_alloc, World.size_alloc]
  have hb2 : Below w.heap.size w w2 := hU2.below (Nat.le_refl _) fun _ h => h.elim
  have ha2 : w2.heap[w.heap.size]? = some (.cells #[.string ⟨#[]⟩, .string ⟨#[]⟩, .bool false] 66) := by rw [hw2]; exact (Upd.alloc (fun _ => False) _ _).heap (heap_new _ _) id
  have hc2 : w2.heap[w.heap.size + 1]? = some (.cells #[.string ⟨#[]⟩, .string ⟨#[]⟩, .bool false] 66) := by rw [hw2, show w.heap.size + 1 = (w.alloc (.cells #[.string ⟨#[]⟩, .string ⟨#[]⟩, .bool false] 66)).heap.size by rw [World.size_alloc]]; exact heap_new _ _
  rw [← hw2]
  clear hw2
  refine (hN.out w2 (hU2.bytes hv0.out fun _ _ => id)).mono ?_
  rintro e w3 ⟨p, rfl, hp, hR3, hb3⟩
  have ha3 := (Upd.of_below (fun _ => False) hb3).heap ha2 id
  have hc3 := (Upd.of_below (fun _ => False) hb3).heap hc2 id
  have hb3' := hb2.trans (hb3.mono (by omega))
  have hz3 := hb3.size
  replace hb3' := hide hb3'
  replace ha3 := hide ha3
  replace hc3 := hide hc3
  clear hb2 hb3 ha2 hc2 hU2 hv0 hN
  have hs1 : (setB.toList == [115, 101, 116]) = true := by kernel_rfl
  have t1 := Cd.rText_any p p _ w3 hR3
  rw [r1.out] at t1
  replace t1 := hide t1
  go_wp2_with fail
  refine t1.out.mono ?_
  rintro e w4 ⟨rfl, hU4, hR4⟩
  clear t1 hR3
  have ha4 := hU4.heap ha3.out (fun h => by unfold Cd.At at h; omega)
  have hc4 := hU4.heap hc3.out (fun h => by unfold Cd.At at h; omega)
  replace hU4 := hide hU4
  replace ha4 := hide ha4
  replace hc4 := hide hc4
  have t2 := Cd.rText_any p p _ w4 hR4
  rw [r2.out] at t2
  replace t2 := hide t2
  go_wp2_with fail
  refine t2.out.mono ?_
  rintro e w5 ⟨rfl, hU5, hR5⟩
  clear t2 hR4
  have ha5 := hU5.heap ha4.out (fun h => by unfold Cd.At at h; omega)
  have hc5 := hU5.heap hc4.out (fun h => by unfold Cd.At at h; omega)
  replace hU5 := hide (hU4.out.then hU5)
  replace ha5 := hide ha5
  replace hc5 := hide hc5
  clear ha4 hc4 hU4
  have t3 := Cd.rText_any p p _ w5 hR5
  rw [r3.out, texts_nil] at t3
  replace t3 := hide t3
  go_wp2_with fail
  refine t3.out.mono ?_
  rintro e w6 ⟨rfl, hU6, hR6⟩
  clear t3 hR5
  have ha6 := hU6.heap ha5.out (fun h => by unfold Cd.At at h; omega)
  have hc6 := hU6.heap hc5.out (fun h => by unfold Cd.At at h; omega)
  replace hU6 := hide (hU5.out.then hU6)
  have g0 : w6.cell? ⟨w.heap.size + 1, 0, none⟩ = some (.string ⟨#[]⟩) := by rw [cell_at hc6]; rfl
  have f0 := frozen_at hc6 0
  have hd6 : (w6.setCell ⟨w.heap.size + 1, 0, none⟩ (.string k)).heap[w.heap.size + 1]? = some (.cells #[.string k, .string ⟨#[]⟩, .bool false] 66) := by rw [heap_set hc6]; rfl
  have g1 : (w6.setCell ⟨w.heap.size + 1, 0, none⟩ (.string k)).cell? ⟨w.heap.size + 1, 1, none⟩ = some (.string ⟨#[]⟩) := by rw [cell_at hd6]; rfl
  have f1 := frozen_at hd6 1
  have he6 : ((w6.setCell ⟨w.heap.size + 1, 0, none⟩ (.string k)).setCell ⟨w.heap.size + 1, 1, none⟩ (.string u)).heap[w.heap.size + 1]? = some (.cells #[.string k, .string u, .bool false] 66) := by rw [heap_set hd6]; rfl
  have g2 : ((w6.setCell ⟨w.heap.size + 1, 0, none⟩ (.string k)).setCell ⟨w.heap.size + 1, 1, none⟩ (.string u)).cell? ⟨w.heap.size + 1, 2, none⟩ = some (.bool false) := by rw [cell_at he6]; rfl
  have f2 := frozen_at he6 2
  have hg6 : (((w6.setCell ⟨w.heap.size + 1, 0, none⟩ (.string k)).setCell ⟨w.heap.size + 1, 1, none⟩ (.string u)).setCell ⟨w.heap.size + 1, 2, none⟩ (.bool false)).heap[w.heap.size + 1]? = some (.cells #[.string k, .string u, .bool false] 66) := by rw [heap_set he6]; rfl
  have hUs : Upd (fun q => q = w.heap.size + 1) w6 (((w6.setCell ⟨w.heap.size + 1, 0, none⟩ (.string k)).setCell ⟨w.heap.size + 1, 1, none⟩ (.string u)).setCell ⟨w.heap.size + 1, 2, none⟩ (.bool false)) := ((Upd.set (F := fun q => q = w.heap.size + 1) w6 (a := ⟨w.heap.size + 1, 0, none⟩) rfl _).then (Upd.set (F := fun q => q = w.heap.size + 1) _ (a := ⟨w.heap.size + 1, 1, none⟩) rfl _)).then (Upd.set (F := fun q => q = w.heap.size + 1) _ (a := ⟨w.heap.size + 1, 2, none⟩) rfl _)
  obtain ⟨w7, hw7⟩ : ∃ w7, w7 = ((w6.setCell ⟨w.heap.size + 1, 0, none⟩ (.string k)).setCell ⟨w.heap.size + 1, 1, none⟩ (.string u)).setCell ⟨w.heap.size + 1, 2, none⟩ (.bool false) := ⟨_, rfl⟩
  rw [← hw7] at hg6 hUs
  have hR7 : RdS w7 p p (some []) := by
    obtain ⟨d1, vx, d2, A', c', e1, e2, e3, -⟩ := hR6
    exact ⟨d1, vx, hUs.heap d2 (by omega), A', c', e1, e2, e3, .inl rfl⟩
  have ha7 := hUs.heap ha6 (by omega)
  have hD7 := Cd.done_any p p _ w7 hR7
  have ht7 := tooLongS_any w7 ⟨k, u, false⟩ ⟨hk, hu⟩
  replace hUs := hide hUs
  replace ha7 := hide ha7
  replace hg6 := hide hg6
  replace hw7 := hide hw7.symm
  replace hc6 := hide hc6
  replace hd6 := hide hd6
  replace he6 := hide he6
  replace ha6 := hide ha6
  replace hR7 := hide hR7
  replace hD7 := hide hD7
  have ht7 := hide ht7
  clear ha5 hc5 hU5 hR6
  go_wp2_with fail
  rw [hw7.out]
  have hz7 : w2.heap.size ≤ w7.heap.size := by
    have a := hU6.out.size
    have b := hUs.out.size
    omega
  refine hD7.out.mono ?_
  rintro e w8 ⟨rfl, rfl⟩
  have hd0 : Cd.doneOf (some []) = 0 := rfl
  rw [hd0]
  have hlf : PairD.long ⟨k, u, false⟩ = false := by unfold PairD.long; exact decide_eq_false (by simp only; omega)
  unfold pairV at ht7
  simp only at ht7
  rw [hlf] at ht7
  have l0 : w7.cell? ⟨w.heap.size + 1, 0, none⟩ = some (.string k) := by rw [cell_at hg6.out]; rfl
  have l1 : w7.cell? ⟨w.heap.size + 1, 1, none⟩ = some (.string u) := by rw [cell_at hg6.out]; rfl
  have l2 : w7.cell? ⟨w.heap.size + 1, 2, none⟩ = some (.bool false) := by rw [cell_at hg6.out]; rfl
  replace ht7 := hide ht7
  clear hD7 hR7
  go_wp2_with fail
  refine ht7.out.mono ?_
  rintro e w8 ⟨rfl, hb8⟩
  clear ht7
  have hU8 := Upd.of_below (fun _ => False) hb8
  have m0 := hU8.cell l0 id
  have m1 := hU8.cell l1 id
  have m2 := hU8.cell l2 id
  have hc8 := hU8.heap ha7.out id
  replace hb8 := hide hb8
  replace hU8 := hide hU8
  clear l0 l1 l2 g0 g1 g2 f0 f1 f2
  have g0 : w8.cell? ⟨w.heap.size, 0, none⟩ = some (.string ⟨#[]⟩) := by rw [cell_at hc8]; rfl
  have f0 := frozen_at hc8 0
  have hd8 : (w8.setCell ⟨w.heap.size, 0, none⟩ (.string k)).heap[w.heap.size]? = some (.cells #[.string k, .string ⟨#[]⟩, .bool false] 66) := by rw [heap_set hc8]; rfl
  have g1 : (w8.setCell ⟨w.heap.size, 0, none⟩ (.string k)).cell? ⟨w.heap.size, 1, none⟩ = some (.string ⟨#[]⟩) := by rw [cell_at hd8]; rfl
  have f1 := frozen_at hd8 1
  have he8 : ((w8.setCell ⟨w.heap.size, 0, none⟩ (.string k)).setCell ⟨w.heap.size, 1, none⟩ (.string u)).heap[w.heap.size]? = some (.cells #[.string k, .string u, .bool false] 66) := by rw [heap_set hd8]; rfl
  have g2 : ((w8.setCell ⟨w.heap.size, 0, none⟩ (.string k)).setCell ⟨w.heap.size, 1, none⟩ (.string u)).cell? ⟨w.heap.size, 2, none⟩ = some (.bool false) := by rw [cell_at he8]; rfl
  have f2 := frozen_at he8 2
  have hg8 : (((w8.setCell ⟨w.heap.size, 0, none⟩ (.string k)).setCell ⟨w.heap.size, 1, none⟩ (.string u)).setCell ⟨w.heap.size, 2, none⟩ (.bool false)).heap[w.heap.size]? = some (.cells #[.string k, .string u, .bool false] 66) := by rw [heap_set he8]; rfl
  have hUt : Upd (fun q => q = w.heap.size) w8 (((w8.setCell ⟨w.heap.size, 0, none⟩ (.string k)).setCell ⟨w.heap.size, 1, none⟩ (.string u)).setCell ⟨w.heap.size, 2, none⟩ (.bool false)) := ((Upd.set (F := fun q => q = w.heap.size) w8 (a := ⟨w.heap.size, 0, none⟩) rfl _).then (Upd.set (F := fun q => q = w.heap.size) _ (a := ⟨w.heap.size, 1, none⟩) rfl _)).then (Upd.set (F := fun q => q = w.heap.size) _ (a := ⟨w.heap.size, 2, none⟩) rfl _)
  obtain ⟨w9, hw9⟩ : ∃ w9, w9 = ((w8.setCell ⟨w.heap.size, 0, none⟩ (.string k)).setCell ⟨w.heap.size, 1, none⟩ (.string u)).setCell ⟨w.heap.size, 2, none⟩ (.bool false) := ⟨_, rfl⟩
  rw [← hw9] at hg8 hUt
  have n0 : w9.cell? ⟨w.heap.size, 0, none⟩ = some (.string k) := by rw [cell_at hg8]; rfl
  have n1 : w9.cell? ⟨w.heap.size, 1, none⟩ = some (.string u) := by rw [cell_at hg8]; rfl
  have n2 : w9.cell? ⟨w.heap.size, 2, none⟩ = some (.bool false) := by rw [cell_at hg8]; rfl
  have hE : Below w.heap.size w w9 := (((hb3'.out.trans (hU6.out.below (by omega) fun q h => by unfold Cd.At at h; omega)).trans (hUs.out.below (by have := hU6.out.size; omega) fun q h => by omega)).trans (hb8.out.mono (by omega))).trans (hUt.below (by have := hb8.out.size; omega) fun q h => by omega)
  replace hc8 := hide hc8
  replace hd8 := hide hd8
  replace he8 := hide he8
  replace hg8 := hide hg8
  replace hUt := hide hUt
  replace hE := hide hE
  replace hw9 := hide hw9.symm
  go_wp2_with fail
  rw [hw9.out]
  refine bodyPost_ret (v := .tuple #[.agg #[.string k, .string u, .bool false], .bool true]) (by simp [results, Tryz.results29, go_sem, n0, n1, n2]) rfl ?_
  exact ⟨rfl, hE.out⟩
end Go.Proofs.YtpnboihbifhigaaGreatDoor
