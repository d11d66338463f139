/- What is written of a summary is read back: as the document's answer has it. -/
import Derived.Test.YtdjkjeaoeolieaaSame
namespace Go.Proofs.Ytdjkjeaoeolieaa
open Go.RowKit

def plainI (v : IvalD) : IvalD := if v.some then v else ⟨false, 0, 0⟩
def plainN (n : NamedD) : NamedD := ⟨n.name, plainI n.v⟩
def plainS (s : SumD) : SumD := ⟨s.alarms, s.ends, plainI s.ret, s.mod.map plainN⟩
def Small (n : Int) : Prop := -2147483648 ≤ n ∧ n ≤ 2147483647
def SmallA (a : AlarmD) : Prop := Small a.pos ∧ Small a.kind

theorem dcount_num (n : Nat) (r : List UInt8) (h : n ≤ r.length) (hr : r.length < 18446744073709551616) : dcount (num n ++ r) = some (n, r) := by
  unfold dcount
  rw [show dnum 0 0 (num n ++ r) = some (n, r) from dnum0_num r (by omega)]
  simp [h]
theorem dsmall_num {a : Int} (h : Small a) (r : List UInt8) : dsmall (num (zig a) ++ r) = some (a, r) := by
  obtain ⟨h1, h2⟩ := h
  unfold dsmall
  rw [dint_num r (by omega) (by omega)]
  simp [h1, h2]
theorem dbool_bit (b : Bool) (r : List UInt8) : dbool (bit b :: r) = some (b, r) := by cases b <;> rfl
theorem dival_bytes {v : IvalD} (h : v.ok) (r : List UInt8) : dival (v.bytes ++ r) = some (plainI v, r) := by
  obtain ⟨sm, lo, hi⟩ := v
  obtain ⟨⟨h1, h2⟩, h3, h4⟩ := h
  unfold dival IvalD.bytes plainI
  rw [List.cons_append, dbool_bit]
  cases sm
  · rfl
  · simp only [if_true, Option.bind_some, List.append_assoc]
    rw [dint_num _ h1 h2]
    simp only [Option.bind_some]
    rw [dint_num _ h3 h4]
    rfl
theorem dalarm_bytes {a : AlarmD} (h : SmallA a) (r : List UInt8) : dalarm (a.bytes ++ r) = some (a, r) := by
  unfold dalarm AlarmD.bytes
  rw [List.append_assoc, dsmall_num h.1]
  simp only [Option.bind_some]
  rw [dsmall_num h.2]
  rfl
theorem dnamed_bytes {n : NamedD} (h : n.v.ok) (hs : n.name.size < 18446744073709551616) (r : List UInt8) : dnamed (n.bytes ++ r) = some (plainN n, r) := by
  unfold dnamed NamedD.bytes
  rw [List.append_assoc, dtext_full _ _ hs]
  simp only [Option.bind_some]
  rw [dival_bytes h]
  rfl
theorem dlist_map {α β : Type} (d : List UInt8 → Option (β × List UInt8)) (f : α → List UInt8) (g : α → β) : ∀ (l : List α) (r : List UInt8), (∀ a ∈ l, ∀ r, d (f a ++ r) = some (g a, r)) → dlist d l.length ((l.map f).flatten ++ r) = some (l.map g, r)
  | [], r, _ => rfl
  | a :: l, r, h => by
    rw [List.length_cons, dlist_snoc, List.map_cons, List.flatten_cons, List.append_assoc, h a (.head _)]
    simp only [Option.bind_some]
    rw [dlist_map d f g l r fun b hb => h b (.tail _ hb)]
    rfl
theorem flat_ge {α : Type} (f : α → List UInt8) (hf : ∀ a, 1 ≤ (f a).length) : ∀ l : List α, l.length ≤ (l.map f).flatten.length
  | [] => Nat.le_refl _
  | a :: l => by
    have := flat_ge f hf l
    have := hf a
    rw [List.map_cons, List.flatten_cons, List.length_append, List.length_cons]; omega
theorem dalarms_bytes {l : List AlarmD} (h : ∀ a ∈ l, SmallA a) (r : List UInt8) (hl : (alarmsB l ++ r).length < 18446744073709551616) : dalarms (num l.length ++ (alarmsB l ++ r)) = some (l, r) := by
  unfold dalarms
  have hf := flat_ge AlarmD.bytes (fun a => by unfold AlarmD.bytes; have := num_pos (zig a.pos); rw [List.length_append]; omega) l
  rw [dcount_num _ _ (by unfold alarmsB; rw [List.length_append]; omega) hl]
  simp only [Option.bind_some]
  have := dlist_map dalarm AlarmD.bytes id l r fun a ha r => dalarm_bytes (h a ha) r
  rw [List.map_id] at this
  exact this
theorem dmod_bytes {l : List NamedD} (h : ∀ a ∈ l, a.v.ok) (hs : ∀ a ∈ l, a.name.size ≤ 50) (r : List UInt8) (hl : (modB l ++ r).length < 18446744073709551616) : dmod (num l.length ++ (modB l ++ r)) = some (l.map plainN, r) := by
  unfold dmod
  have hf := flat_ge NamedD.bytes (fun a => by unfold NamedD.bytes text; have := num_pos a.name.size; simp only [List.length_append]; omega) l
  rw [dcount_num _ _ (by unfold modB; rw [List.length_append]; omega) hl]
  simp only [Option.bind_some]
  exact dlist_map dnamed NamedD.bytes plainN l r fun a ha r => dnamed_bytes (h a ha) (by have := hs a ha; omega) r
theorem dsum_bytes {s : SumD} (hok : s.ok) (hl : s.light) (hsm : ∀ a ∈ s.alarms, SmallA a) (r : List UInt8) (hr : (s.bytes ++ r).length < 18446744073709551616) : dsum (s.bytes ++ r) = some (plainS s, r) := by
  have e : s.bytes ++ r = num s.alarms.length ++ (alarmsB s.alarms ++ (bit s.ends :: (s.ret.bytes ++ (num s.mod.length ++ (modB s.mod ++ r))))) := by
    unfold SumD.bytes; simp only [List.append_assoc, List.cons_append, List.nil_append]
  rw [e] at hr ⊢
  have h2 : (alarmsB s.alarms ++ (bit s.ends :: (s.ret.bytes ++ (num s.mod.length ++ (modB s.mod ++ r))))).length < 18446744073709551616 := by rw [List.length_append] at hr; omega
  have h3 : (modB s.mod ++ r).length < 18446744073709551616 := by
    simp only [List.length_append, List.length_cons] at h2 ⊢; omega
  unfold dsum
  rw [dalarms_bytes hsm _ h2]
  simp only [Option.bind_some]
  rw [dbool_bit]
  simp only [Option.bind_some]
  rw [dival_bytes hok.2.1]
  simp only [Option.bind_some]
  rw [dmod_bytes hok.2.2 hl.2.2 _ h3]
  rfl
end Go.Proofs.Ytdjkjeaoeolieaa
