/- Walks of the reader. -/
import Derived.Test.YtajpgkedlajjdaaWriter3
import Derived.Recover
namespace Go.Proofs.Ytajpgkedlajjdaa
open Go.RowKit

/-- The reader at block p has the bytes l left; they lie below D. -/
def Rd (w : World) (D p : Nat) (l : List UInt8) (bad : Bool) : Prop :=
  D ≤ p ∧ ∃ v, w.heap[p]? = some (.cells #[v, .bool bad] 87) ∧ BytesV w D v l
section
variable {w w' : World} {D p : Nat} {l : List UInt8} {bad : Bool}
theorem Rd.upd {F : Nat → Prop} (h : Rd w D p l bad) (hu : Upd F w w') (hp : ¬ F p) (hD : ∀ k, k < D → ¬ F k) : Rd w' D p l bad := by
  obtain ⟨h1, v, h2, h3⟩ := h
  exact ⟨h1, v, hu.heap h2 hp, hu.bytes h3 hD⟩
theorem Rd.alloc (h : Rd w D p l bad) (o : Obj) : Rd (w.alloc o) D p l bad := h.upd (F := fun _ => False) (.alloc _ _ _) id fun _ _ => id
theorem Rd.lt (h : Rd w D p l bad) : p < w.heap.size := by
  obtain ⟨_, v, h2, _⟩ := h
  exact (Array.getElem?_eq_some_iff.1 h2).1
theorem Rd.fail (h : Rd w D p l bad) : Rd (w.setCell ⟨p, 1, none⟩ (.bool true)) D p l true := by
  obtain ⟨h1, v, h2, h3⟩ := h
  exact ⟨h1, v, heap_set h2 1 _, (Upd.set (F := fun k => k = p) w (a := ⟨p, 1, none⟩) rfl _).bytes h3 fun k hk e => by subst e; omega⟩
theorem Rd.rest (h : Rd w D p l bad) {v' : Value} {l' : List UInt8} (hv : BytesV w D v' l') : Rd (w.setCell ⟨p, 0, none⟩ v') D p l' bad := by
  obtain ⟨h1, v, h2, h3⟩ := h
  exact ⟨h1, v', heap_set h2 0 _, (Upd.set (F := fun k => k = p) w (a := ⟨p, 0, none⟩) rfl _).bytes hv fun k hk e => by subst e; omega⟩
end
/-- Of the reader at p alone. -/
abbrev At (p : Nat) : Nat → Prop := fun k => k = p
theorem BytesV.cut {w : World} {B : Nat} {A : Option Addr} {l : List UInt8} {n c : Nat} (h : BytesV w B (.slice A n c) l) (k m : Nat) (hk : k ≤ m) (hm : m ≤ l.length) {A' : Option Addr} (hA : k < m → A' = A.map (·.add k)) {c' : Nat} (hc : m - k ≤ c') (hcm : c' ≤ maxLen) : BytesV w B (.slice A' (m - k) c') ((l.drop k).take (m - k)) := by
  obtain ⟨A0, c0, h1, h2, h3, h4⟩ := h
  injection h1 with e1 e2 e3
  subst e1 e2 e3
  have hl : ((l.drop k).take (m - k)).length = m - k := by rw [List.length_take, List.length_drop]; omega
  refine ⟨A', c', by rw [hl], by omega, hcm, ?_⟩
  rcases Nat.lt_or_ge k m with hlt | hge
  · rw [hA hlt]
    have := h4.cut k (m - k)
    have e : bv ((l.drop k).take (m - k)) = ((bv l).drop k).take (m - k) := by unfold bv; rw [List.map_take, List.map_drop]
    rw [e]; exact this
  · have : (l.drop k).take (m - k) = [] := List.eq_nil_of_length_eq_zero (by omega)
    rw [this]; exact .inl rfl

theorem BytesV.tail {w : World} {B b o n c : Nat} {c0 : UInt8} {r : List UInt8} (h : BytesV w B (.slice (some ⟨b, o, none⟩) n c) (c0 :: r)) : BytesV w B (.slice (some ⟨b, o + 1, none⟩) r.length (c - 1)) r := by
  obtain ⟨A0, c0', h1, h2, h3, h4⟩ := h
  injection h1 with e1 e2 e3
  subst e1 e2 e3
  simp at h2
  refine ⟨_, _, rfl, by omega, by omega, ?_⟩
  have := h4.cut 1 r.length
  have e : ((bv (c0 :: r)).drop 1).take r.length = bv r := by
    rw [List.take_of_length_le (by simp [bv])]; rfl
  rw [e] at this
  simpa [Addr.add] using this
theorem need_any (b : Bool) (w : World) : Calls Try.prog 66 #[.bool b] w fun e w' => w = w' ∧ (b = true → e = .returned (.tuple #[])) ∧ (b = false → ∃ pv, e = .panicked [{ v := .iface 108 pv, recovered := false }]) := by
  cases b
  · go_enter Try.func66, Try.ntmps66
    go_wp2_with fail
    refine ⟨rfl, ?_⟩
    exact ⟨rfl, fun h => (by cases h), fun _ => ⟨_, rfl⟩⟩
  · go_enter Try.func66, Try.ntmps66
    go_wp2_with fail
    go_end0
    exact ⟨rfl, fun _ => rfl, fun h => by cases h⟩

theorem next_any (D p : Nat) (l : List UInt8) (bad : Bool) (w : World) (hR : Rd w D p l bad) :
    Calls Try.prog 65 #[.pointer (some ⟨p, 0, none⟩)] w fun e w' => Upd (At p) w w' ∧ (match l with
      | [] => (∃ pv, e = .panicked [{ v := .iface 108 pv, recovered := false }]) ∧ Rd w' D p [] bad
      | c :: r => e = .returned (.int .u8 c.toNat) ∧ Rd w' D p r bad) := by
  have hR0 := hide hR
  obtain ⟨hD, v, hh, hb⟩ := hR
  have hc0 : w.cell? ⟨p, 0, none⟩ = some v := by rw [cell_at hh]; rfl
  have hc1 : w.cell? ⟨p, 1, none⟩ = some (.bool bad) := by rw [cell_at hh]; rfl
  have hf0 := frozen_at hh 0
  have hb0 := hide hb
  obtain ⟨A, c, rfl, hlc, hcm, hs⟩ := hb
  replace hh := hide hh
  replace hcm := hide hcm
  cases l with
  | nil =>
    go_enter Try.func65, Try.ntmps65
    go_wp2_with fail
    refine (need_any _ _).mono ?_
    rintro e w' ⟨rfl, -, h⟩
    obtain ⟨pv, rfl⟩ := h (by simp)
    go_wp2_with fail
    refine ⟨rfl, ?_⟩
    exact ⟨.refl _ _, ⟨_, rfl⟩, hR0.out⟩
  | cons c0 r =>
    obtain ⟨b, o, rfl, hbD, hcell⟩ := hs.get (i := 0) (u := .int .u8 c0.toNat) (by simp [bv])
    replace hcell : w.cell? ⟨b, o, none⟩ = some (.int .u8 c0.toNat) := hcell
    go_enter Try.func65, Try.ntmps65
    go_wp2_with fail
    refine (need_any _ _).mono ?_
    rintro e w' ⟨rfl, h, -⟩
    obtain rfl := h (by simp)
    go_wp2_with fail
    · obtain rfl : r = [] := List.eq_nil_of_length_eq_zero (by simp at hlc; omega)
      go_ret
      exact ⟨Upd.set w (F := At p) (a := ⟨p, 0, none⟩) rfl _, rfl, hR0.out.rest ⟨_, _, rfl, Nat.le_refl _, Nat.zero_le _, .inl rfl⟩⟩
    · go_ret
      exact ⟨Upd.set w (F := At p) (a := ⟨p, 0, none⟩) rfl _, rfl, hR0.out.rest (hb0.out.tail)⟩
end Go.Proofs.Ytajpgkedlajjdaa
