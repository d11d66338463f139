/- Walks of the document's reader: alarms. -/
import Derived.Test.YtajpgkedlajjdaaRefRead4
namespace Go.Proofs.Ytajpgkedlajjdaa
open Go.RowKit

theorem read_some {α : Type} (z : α) (d : List UInt8 → Option (α × List UInt8)) (l : List UInt8) : read z d (some l) = (match d l with | some (a, r) => (a, some r) | none => (z, none)) := rfl
/-- What is left of a list's reading, from a state on. -/
def left_ {α : Type} (d : List UInt8 → Option (α × List UInt8)) (n : Nat) (al : List α) (st : Option (List UInt8)) : Option (List α × List UInt8) := st.bind fun l => (dlist d n l).map fun y => (al ++ y.1, y.2)
theorem left_zero {α : Type} (d : List UInt8 → Option (α × List UInt8)) (al : List α) (st : Option (List UInt8)) : left_ d 0 al st = st.map fun l => (al, l) := by
  cases st with
  | none => rfl
  | some l => show some (al ++ [], l) = some (al, l); rw [List.append_nil]
theorem left_none {α : Type} (d : List UInt8 → Option (α × List UInt8)) (n : Nat) (al : List α) : left_ d n al none = none := rfl
theorem left_alarm (n : Nat) (al : List AlarmD) (l : List UInt8) : left_ dalarm (n + 1) al (some l) = left_ dalarm n (al ++ [⟨(read 0 dsmall (some l)).1, (read 0 dsmall (read 0 dsmall (some l)).2).1⟩]) (read 0 dsmall (read 0 dsmall (some l)).2).2 := by
  unfold left_
  rw [Option.bind_some, dlist_snoc]
  unfold dalarm
  cases h1 : dsmall l with
  | none =>
    have e1 : read 0 dsmall (some l) = (0, none) := by rw [read_some, h1]
    rw [e1]; rfl
  | some x =>
    have e1 : read 0 dsmall (some l) = (x.1, some x.2) := by rw [read_some, h1]
    rw [e1]
    simp only [Option.bind_some]
    cases h2 : dsmall x.2 with
    | none =>
      have e2 : read 0 dsmall (some x.2) = (0, none) := by rw [read_some, h2]
      rw [e2]; rfl
    | some y =>
      have e2 : read 0 dsmall (some x.2) = (y.1, some y.2) := by rw [read_some, h2]
      rw [e2]
      simp only [Option.map_some, Option.bind_some, Option.map_map]
      congr 1
      funext z
      simp
theorem read_alarms_some {st : Option (List UInt8)} {n : Nat} {r : List UInt8} (h : read 0 dnum0 st = (n, some r)) (hle : n ≤ r.length) : read [] dalarms st = (match left_ dalarm n [] (some r) with | some (a, r) => (a, some r) | none => ([], none)) := by
  cases st with
  | none => cases h
  | some l =>
    unfold read at h ⊢
    rw [Option.bind_some] at h ⊢
    unfold dalarms dcount
    rw [show dnum 0 0 l = dnum0 l from rfl]
    cases hd : dnum0 l with
    | none => rw [hd] at h; cases h
    | some x =>
      obtain ⟨a, b⟩ := x
      rw [hd] at h
      simp only [Prod.mk.injEq, Option.some.injEq] at h
      obtain ⟨rfl, rfl⟩ := h
      rw [Option.bind_some]
      simp only
      rw [if_pos hle, Option.bind_some]
      unfold left_
      rw [Option.bind_some]
      simp only [List.nil_append]
      cases dlist dalarm a b <;> rfl
theorem read_alarms_great {st : Option (List UInt8)} {n : Nat} {r : List UInt8} (h : read 0 dnum0 st = (n, some r)) (hle : ¬ n ≤ r.length) : read [] dalarms st = ([], none) := by
  cases st with
  | none => cases h
  | some l =>
    unfold read at h ⊢
    rw [Option.bind_some] at h ⊢
    unfold dalarms dcount
    rw [show dnum 0 0 l = dnum0 l from rfl]
    cases hd : dnum0 l with
    | none => rw [hd] at h; cases h
    | some x =>
      obtain ⟨a, b⟩ := x
      rw [hd] at h
      simp only [Prod.mk.injEq, Option.some.injEq] at h
      obtain ⟨rfl, rfl⟩ := h
      rw [Option.bind_some]
      simp only
      rw [if_neg hle]
      rfl
theorem read_alarms_none (st : Option (List UInt8)) (h : (read 0 dnum0 st).2 = none) : read [] dalarms st = ([], none) := by
  cases st with
  | none => rfl
  | some l =>
    unfold read at h ⊢
    rw [Option.bind_some] at h ⊢
    unfold dalarms dcount
    rw [show dnum 0 0 l = dnum0 l from rfl]
    cases hd : dnum0 l with
    | none => rfl
    | some x => rw [hd] at h; cases h
/-- The reader's bytes, whatever its state. -/
theorem RfS.slice {w : World} {D m : Nat} {st : Option (List UInt8)} (h : RfS w D m st) : ∃ A n c, w.cell? ⟨m, 0, none⟩ = some (.slice A n c) ∧ n ≤ c ∧ c ≤ maxLen ∧ ∀ l, st = some l → n = l.length := by
  cases st with
  | none =>
    obtain ⟨l, hD, v, hh, A, c, rfl, h1, h2, _⟩ := h
    exact ⟨A, _, c, by rw [cell_at hh]; rfl, h1, h2, fun l h => by cases h⟩
  | some l =>
    obtain ⟨hD, v, hh, A, c, rfl, h1, h2, _⟩ := h
    exact ⟨A, _, c, by rw [cell_at hh]; rfl, h1, h2, fun l h => by cases h; rfl⟩
end Go.Proofs.Ytajpgkedlajjdaa
