/- The faults of words: names, numbers, operators; the kind that a byte begins. -/
import Derived.Test.YtojbfopmlgdjlaaDoorGLxA
import Derived.Lib.ParseIntBCases
namespace Go.Proofs.YtojbfopmlgdjlaaDoor
open Go Go.RowKit Go.Lib
theorem valF_ge (l : List UInt8) : ∀ a, a ≤ l.foldl valF a := by
  induction l with
  | nil => exact fun a => Nat.le_refl a
  | cons c r ih =>
    intro a
    have := ih (valF a c)
    simp only [List.foldl_cons]
    unfold valF at this ⊢
    omega
theorem uintM_digits : ∀ (l : List UInt8) (acc : Nat), (∀ c ∈ l, digitB c.toNat = true) → acc ≤ 18446744073709551615 → parseUintM 18446744073709551615 acc l = if 18446744073709551615 < l.foldl valF acc then .range else .ok (l.foldl valF acc)
  | [], acc, _, ha => by rw [parseUintM, List.foldl_nil, if_neg (by omega)]
  | c :: r, acc, hd, ha => by
    have hc := hd c (List.mem_cons_self ..)
    unfold digitB at hc
    have hc := of_decide_eq_true hc
    rw [parseUintM, if_pos hc, List.foldl_cons]
    have hge := valF_ge r (valF acc c)
    by_cases h1 : 1844674407370955162 ≤ acc
    · rw [if_pos h1, if_pos]
      unfold valF at hge ⊢
      omega
    · rw [if_neg h1]
      by_cases h2 : 18446744073709551615 < acc * 10 + (c.toNat - 48)
      · rw [if_pos h2, if_pos]
        unfold valF at hge ⊢
        omega
      · rw [if_neg h2, uintM_digits r _ (fun x hx => hd x (List.mem_cons_of_mem _ hx)) (by omega)]
        have e : acc * 10 + (c.toNat - 48) = valF acc c := by unfold valF; omega
        rw [e]
theorem parse_digits {l : List UInt8} (hne : l ≠ []) (hd : ∀ c ∈ l, digitB c.toNat = true) : parseIntB 64 l = if 9223372036854775807 < valL l then .range else .ok ((valL l : Nat) : Int) := by
  cases l with
  | nil => exact absurd rfl hne
  | cons c r =>
    have hc := hd c (List.mem_cons_self ..)
    unfold digitB at hc
    have hc := of_decide_eq_true hc
    rw [parseIntB_plain 64 c r (by omega) (by omega)]
    unfold parseUintB
    rw [if_neg (by simp)]
    have e : 2 ^ 64 - 1 = 18446744073709551615 := by decide
    have e2 : 2 ^ (64 - 1) = 9223372036854775808 := by decide
    rw [e, e2, uintM_digits _ 0 hd (by omega)]
    show signlessC _ (if 18446744073709551615 < valL (c :: r) then _ else _) = _
    by_cases h1 : 18446744073709551615 < valL (c :: r)
    · rw [if_pos h1, if_pos (by omega)]; rfl
    · rw [if_neg h1]
      show (if 9223372036854775808 ≤ valL (c :: r) then _ else _) = _
      by_cases h2 : 9223372036854775807 < valL (c :: r)
      · rw [if_pos h2, if_pos (by omega)]
      · rw [if_neg h2, if_neg (by omega)]; rfl
theorem fault_name (l : List UInt8) (c : UInt8) : fault 0 l c = if 32 < l.length then 53 else 0 := rfl
theorem fault_op (l : List UInt8) (c : UInt8) : fault 2 l c = if isOp l = true then 0 else 50 := rfl
/-- A string's byte, as an operation reads it. -/
theorem str_at {l : List UInt8} {i : Nat} {c : UInt8} (h : l[i]? = some c) (w : World) : (Instr.index 9 (.string (strB l)) (.int .i64 i)).run Tryd.prog w = .ok (.int .u8 c.toNat) w := by
  have hi : i < l.length := by
    rcases Nat.lt_or_ge i l.length with h1 | h1
    · exact h1
    · rw [List.getElem?_eq_none h1] at h; cases h
  have hz : (strB l).size = l.length := rfl
  rw [run_index_string w 9 (strB l) .i64 i Tryd.underlying9, dif_pos ⟨by omega, by omega⟩]
  have e : (strB l)[(i : Int).toNat]'(by rw [hz]; omega) = c := by
    rw [List.getElem?_eq_getElem hi] at h
    have := Option.some.inj h
    simp only [Int.toNat_natCast]
    rw [← this]
    rfl
  rw [e]
set_option maxRecDepth 100000 in
/-- A string's cut. -/
theorem str_cut {l : List UInt8} {i j : Nat} (hij : i ≤ j) (hj : j ≤ l.length) (w : World) : (Instr.slice 9 (.string (strB l)) (some (.int .i64 i)) (some (.int .i64 j)) none).run Tryd.prog w = .ok (.string (strB ((l.drop i).take (j - i)))) w := by
  have hz : (strB l).size = l.length := rfl
  have h := run_slice_string (P := Tryd.prog) w 9 (strB l) .i64 .i64 i j Tryd.underlying9 (by omega) (by omega) (by omega)
  rw [h]
  congr 2
  apply ByteArray.ext
  apply Array.ext'
  simp [strB, ByteArray.extract, ByteArray.copySlice]
end Go.Proofs.YtojbfopmlgdjlaaDoor
