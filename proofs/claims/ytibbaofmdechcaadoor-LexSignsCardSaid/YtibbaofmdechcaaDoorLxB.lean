/- The faults of words: names, numbers, operators; the kind that a byte begins. -/
import Derived.Test.YtibbaofmdechcaaDoorLxA
import Derived.Test.YtibbaofmdechcaaDoorLayParse
import Derived.Lib.ParseIntBCases
namespace Go.Proofs.YtibbaofmdechcaaDoor
open Go Go.RowKit Go.Lib

theorem valF_ge (l : List UInt8) : ∀ a, a ≤ l.foldl valF a := by
  induction l with
  | nil => exact fun a => Nat.le_refl a
  | cons c r ih =>
    intro a
    have := ih (valF a c)
    simp only [List.foldl_cons]
    unfold valF at this ⊢
    omega
theorem uintM_digits : ∀ (l : List UInt8) (acc : Nat), (∀ c ∈ l, digitB c.toNat = true) → acc ≤ 18446744073709551615 → parseUintM 18446744073709551615 acc l = if 18446744073709551615 < l.foldl valF acc then .range else .ok (l.foldl valF acc)
  | [], acc, _, ha => by rw [parseUintM, List.foldl_nil, if_neg (by omega)]
  | c :: r, acc, hd, ha => by
    have hc := hd c (List.mem_cons_self ..)
    unfold digitB at hc
    have hc := of_decide_eq_true hc
    rw [parseUintM, if_pos hc, List.foldl_cons]
    have hge := valF_ge r (valF acc c)
    by_cases h1 : 1844674407370955162 ≤ acc
    · rw [if_pos h1, if_pos]
      unfold valF at hge ⊢
      omega
    · rw [if_neg h1]
      by_cases h2 : 18446744073709551615 < acc * 10 + (c.toNat - 48)
      · rw [if_pos h2, if_pos]
        unfold valF at hge ⊢
        omega
      · rw [if_neg h2, uintM_digits r _ (fun x hx => hd x (List.mem_cons_of_mem _ hx)) (by omega)]
        have e : acc * 10 + (c.toNat - 48) = valF acc c := by unfold valF; omega
        rw [e]
theorem parse_digits {l : List UInt8} (hne : l ≠ []) (hd : ∀ c ∈ l, digitB c.toNat = true) : parseIntB 64 l = if 9223372036854775807 < valL l then .range else .ok ((valL l : Nat) : Int) := by
  cases l with
  | nil => exact absurd rfl hne
  | cons c r =>
    have hc := hd c (List.mem_cons_self ..)
    unfold digitB at hc
    have hc := of_decide_eq_true hc
    rw [parseIntB_plain 64 c r (by omega) (by omega)]
    unfold parseUintB
    rw [if_neg (by simp)]
    have e : 2 ^ 64 - 1 = 18446744073709551615 := by decide
    have e2 : 2 ^ (64 - 1) = 9223372036854775808 := by decide
    rw [e, e2, uintM_digits _ 0 hd (by omega)]
    show signlessC _ (if 18446744073709551615 < valL (c :: r) then _ else _) = _
    by_cases h1 : 18446744073709551615 < valL (c :: r)
    · rw [if_pos h1, if_pos (by omega)]; rfl
    · rw [if_neg h1]
      show (if 9223372036854775808 ≤ valL (c :: r) then _ else _) = _
      by_cases h2 : 9223372036854775807 < valL (c :: r)
      · rw [if_pos h2, if_pos (by omega)]
      · rw [if_neg h2, if_neg (by omega)]; rfl

/-- The variable strconv.ErrRange holds an error. -/
def ErrR (w : World) : Prop := ∃ tp p, w.cell? ⟨1, 0, none⟩ = some (.iface tp p)
theorem ErrR.lt {w : World} (h : ErrR w) : 1 < w.heap.size := by
  obtain ⟨tp, p, h⟩ := h
  exact World.block_lt_of_cell? _ _ h
theorem ErrR.below {w w' : World} (h : ErrR w) (hb : Below w.heap.size w w') : ErrR w' := by
  obtain ⟨tp, p, h1⟩ := h
  exact ⟨tp, p, (hb.cell (show (⟨1, 0, none⟩ : Addr).block < w.heap.size from ErrR.lt ⟨tp, p, h1⟩)).trans h1⟩
theorem bytes_below {w w' : World} {t : TypeId} (h : w' = w ∨ ∃ s, w' = Lib.bytesWorld w t s) : Below w.heap.size w w' := by
  rcases h with rfl | ⟨t, rfl⟩
  · exact Below.refl _ _
  · exact Lib.bytesWorld_below _ _ _
theorem parseInt_any (l : List UInt8) (hne : l ≠ []) (hd : ∀ c ∈ l, digitB c.toNat = true) (hlen : l.length ≤ 1000000) (w : World) (hE : ErrR w) :
    Calls Tryd.prog 29 #[.string (strB l), .int .i64 10, .int .i64 64] w fun e w' => ∃ (n : Int) (v : Value), e = .returned (.tuple #[.int .i64 n, v]) ∧ Below w.heap.size w w' ∧ (if 9223372036854775807 < valL l then ∃ tp p, v = .iface tp p else v = .nilIface) := by
  have hs : (strB l).data.toList = l := rfl
  have hz : (strB l).size = l.length := rfl
  have hp := parse_digits hne hd
  by_cases h : 9223372036854775807 < valL l
  · rw [if_pos h] at hp
    obtain ⟨tp, p, hc⟩ := hE
    refine (Any.strconv_ParseInt_10_at64_range layParse (strB l) (by rw [hz]; omega) (by rw [hs]; exact hp) (.iface tp p) w hc (.inr ⟨tp, p, rfl⟩)).mono ?_
    rintro e w' ⟨N, rfl, -, -, hb⟩
    exact ⟨_, _, rfl, hb, by rw [if_pos h]; exact ⟨_, _, rfl⟩⟩
  · rw [if_neg h] at hp
    refine (Any.strconv_ParseInt_10_at64_ok layParse (strB l) (by rw [hz]; omega) _ (by rw [hs]; exact hp) w).mono ?_
    rintro e w' ⟨rfl, hb⟩
    exact ⟨_, _, rfl, bytes_below hb, by rw [if_neg h]⟩

theorem fault_name (l : List UInt8) (c : UInt8) : fault 0 l c = if 32 < l.length then 53 else 0 := rfl
theorem fault_op (l : List UInt8) (c : UInt8) : fault 2 l c = if isOp l = true then 0 else 50 := rfl
set_option maxRecDepth 100000 in
theorem faultOfName_any (l : List UInt8) (hlen : l.length ≤ 1000000) (c : UInt8) (w : World) : Calls Tryd.prog 25 #[.string (strB l)] w fun e w' => e = .returned (.int .i64 (fault 0 l c : Nat)) ∧ w' = w := by
  have hz : (strB l).size = l.length := rfl
  generalize hf : fault 0 l c = f
  replace hf := hide hf
  go_enter Tryd.func25, Tryd.ntmps25
  by_cases h : 32 < l.length
  · have : f = 53 := by rw [← hf.out, fault_name, if_pos h]
    subst this
    go_wp2
    all_goals go_ret
    all_goals exact ⟨rfl, rfl⟩
  · have : f = 0 := by rw [← hf.out, fault_name, if_neg h]
    subst this
    go_wp2
    all_goals go_ret
    all_goals exact ⟨rfl, rfl⟩
set_option maxRecDepth 100000 in
theorem faultOfOperator_any (l : List UInt8) (c : UInt8) (w : World) : Calls Tryd.prog 27 #[.string (strB l)] w fun e w' => e = .returned (.int .i64 (fault 2 l c : Nat)) ∧ w' = w := by
  generalize hf : fault 2 l c = f
  replace hf := hide hf
  go_enter Tryd.func27, Tryd.ntmps27
  go_wp2_with fail
  refine (isOperator_any l _).mono ?_
  rintro e w' ⟨rfl, rfl⟩
  by_cases h : isOp l = true
  · have : f = 0 := by rw [← hf.out, fault_op, if_pos h]
    subst this
    rw [h]
    go_wp2
    all_goals go_ret
    all_goals exact ⟨rfl, rfl⟩
  · have : f = 50 := by rw [← hf.out, fault_op, if_neg h]
    subst this
    rw [Bool.not_eq_true] at h
    rw [h]
    go_wp2
    all_goals go_ret
    all_goals exact ⟨rfl, rfl⟩
/-- A string's byte, as an operation reads it. -/
theorem str_at {l : List UInt8} {i : Nat} {c : UInt8} (h : l[i]? = some c) (w : World) : (Instr.index 9 (.string (strB l)) (.int .i64 i)).run Tryd.prog w = .ok (.int .u8 c.toNat) w := by
  have hi : i < l.length := by
    rcases Nat.lt_or_ge i l.length with h1 | h1
    · exact h1
    · rw [List.getElem?_eq_none h1] at h; cases h
  have hz : (strB l).size = l.length := rfl
  rw [run_index_string w 9 (strB l) .i64 i Tryd.underlying9, dif_pos ⟨by omega, by omega⟩]
  have e : (strB l)[(i : Int).toNat]'(by rw [hz]; omega) = c := by
    rw [List.getElem?_eq_getElem hi] at h
    have := Option.some.inj h
    simp only [Int.toNat_natCast]
    rw [← this]
    rfl
  rw [e]
/-- A string's cut. -/
theorem str_cut {l : List UInt8} {i j : Nat} (hij : i ≤ j) (hj : j ≤ l.length) (w : World) : (Instr.slice 9 (.string (strB l)) (some (.int .i64 i)) (some (.int .i64 j)) none).run Tryd.prog w = .ok (.string (strB ((l.drop i).take (j - i)))) w := by
  have hz : (strB l).size = l.length := rfl
  have h := run_slice_string (P := Tryd.prog) w 9 (strB l) .i64 .i64 i j Tryd.underlying9 (by omega) (by omega) (by omega)
  rw [h]
  congr 2
  apply ByteArray.ext
  apply Array.ext'
  simp [strB, ByteArray.extract, ByteArray.copySlice]
set_option maxRecDepth 100000 in
theorem faultOfNumber_any (l : List UInt8) (c : UInt8) (hne : l ≠ []) (hd : ∀ c ∈ l, digitB c.toNat = true) (hlen : l.length ≤ 1000000) (w : World) (hE : ErrR w) :
    Calls Tryd.prog 26 #[.string (strB l), .int .u8 c.toNat] w fun e w' => e = .returned (.int .i64 (faultN l c : Nat)) ∧ Below w.heap.size w w' := by
  have hP := hide (parseInt_any l hne hd hlen w hE)
  have hz : (strB l).size = l.length := rfl
  generalize hf : faultN l c = f
  replace hf := hide hf
  go_enter Tryd.func26, Tryd.ntmps26
  go_wp2_with fail
  refine hP.out.mono ?_
  rintro e w' ⟨n, v, rfl, hb, hv⟩
  replace hb := hide hb
  by_cases h : 9223372036854775807 < valL l
  · rw [if_pos h] at hv
    obtain ⟨tp, p, rfl⟩ := hv
    have : f = 53 := by rw [← hf.out, faultN, if_pos h]
    subst this
    go_wp2_with fail
    go_ret
    exact ⟨rfl, hb.out⟩
  · rw [if_neg h] at hv
    subst hv
    replace h := hide h
    go_wp2_with fail
    refine (isLetter_any _ _).mono ?_
    rintro e w2 ⟨rfl, rfl⟩
    obtain ⟨d, r, hl⟩ : ∃ d r, l = d :: r := by
      cases l with
      | nil => exact absurd rfl hne
      | cons d r => exact ⟨d, r, rfl⟩
    subst hl
    have hx : ∀ w, (Instr.index 9 (.string (strB (d :: r))) (.int .i64 0)).run Tryd.prog w = .ok (.int .u8 d.toNat) w := fun w => str_at (i := 0) rfl w
    by_cases hL : letterB c.toNat = true
    · have : f = 50 := by rw [← hf.out, faultN, if_neg h.out, if_pos (by rw [hL]; rfl)]
      subst this
      rw [hL]
      go_wp2_with fail
      go_ret
      exact ⟨rfl, hb.out⟩
    · rw [Bool.not_eq_true] at hL
      rw [hL]
      replace hf : f = if ((d == 48) && decide (1 < r.length + 1)) = true then 50 else 0 := by
        rw [← hf.out, faultN, if_neg h.out, hL]; rfl
      have h48 : (d == 48) = decide (d.toNat = 48) := by
        rw [Bool.eq_iff_iff, beq_iff_eq, decide_eq_true_iff]
        constructor
        · rintro rfl; rfl
        · intro h; exact UInt8.toNat_inj.1 h
      rw [h48] at hf
      by_cases h1 : d.toNat = 48
      · have hd1 : ((d.toNat : Int) == 48) = true := by rw [beq_iff_eq]; omega
        by_cases h2 : 1 < r.length + 1
        · rw [if_pos (by rw [Bool.and_eq_true, decide_eq_true_iff, decide_eq_true_iff]; exact ⟨h1, h2⟩)] at hf
          subst hf
          go_wp2_with fail
          go_ret
          exact ⟨rfl, hb.out⟩
        · rw [if_neg (by rw [Bool.and_eq_true, decide_eq_true_iff, decide_eq_true_iff]; exact fun h => h2 h.2)] at hf
          subst hf
          go_wp2_with fail
          go_ret
          exact ⟨rfl, hb.out⟩
      · have hd1 : ((d.toNat : Int) == 48) = false := by rw [beq_eq_false_iff_ne]; omega
        rw [if_neg (by rw [Bool.and_eq_true, decide_eq_true_iff, decide_eq_true_iff]; exact fun h => h1 h.1)] at hf
        subst hf
        go_wp2_with fail
        go_ret
        exact ⟨rfl, hb.out⟩
end Go.Proofs.YtibbaofmdechcaaDoor
