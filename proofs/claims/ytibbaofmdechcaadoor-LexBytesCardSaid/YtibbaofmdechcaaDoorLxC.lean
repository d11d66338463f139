/- The reader of package lex: its block, its tokens' row; newReader, begin, goesOn. -/
import Derived.Test.YtibbaofmdechcaaDoorLxB
import Derived.Test.YtibbaofmdechcaaDoorFlow
import Derived.BigQuiet
namespace Go.Proofs.YtibbaofmdechcaaDoor
open Go Go.RowKit

def Tok.cells (t : Tok) : List Value := [.int .i64 t.kind, .string (strB t.text), .int .i64 t.at_]
/-- A slice of tokens of the call's own. -/
def ToksR (w : World) (B : Nat) (v : Value) (ts : List Tok) : Prop := w.ownsRow B 34 3 v ts.length (ts.map Tok.cells).flatten
/-- The reader in block p: its text, its tokens, the kind that is being read, where that begins. -/
structure RdrV (w : World) (p B : Nat) (T : List UInt8) (ts : List Tok) (k fr : Nat) : Prop where
  row : ∃ v, w.heap[p]? = some (.cells #[.string (strB T), v, .int .i64 k, .int .i64 fr] 44 (0, 0)) ∧ ToksR w B v ts
  base : B ≤ p
theorem RdrV.upd {w w' : World} {p B : Nat} {T : List UInt8} {ts : List Tok} {k fr : Nat} (h : RdrV w p B T ts k fr) (hb : Below w.heap.size w w') : RdrV w' p B T ts k fr := by
  obtain ⟨v, h1, h2⟩ := h.row
  have hu : Upd (fun _ => False) w w' := .of_below _ hb
  exact ⟨⟨v, hu.heap h1 id, hu.own h2 fun _ _ => id⟩, h.base⟩
theorem RdrV.lt {w : World} {p B : Nat} {T : List UInt8} {ts : List Tok} {k fr : Nat} (h : RdrV w p B T ts k fr) : p < w.heap.size := by
  obtain ⟨v, h1, -⟩ := h.row
  exact (Array.getElem?_eq_some_iff.1 h1).1
def kindB (c : Nat) : Nat := if blankB c = true then 3 else if c = 35 then 4 else if letterB c = true then 0 else if digitB c = true then 1 else 2
set_option maxRecDepth 100000 in
theorem kindOf_any (c : Nat) (w : World) : Calls Tryd.prog 24 #[.int .u8 c] w fun e w' => e = .returned (.int .i64 (kindB c : Nat)) ∧ w' = w := by
  generalize hf : kindB c = f
  replace hf := hide hf
  go_enter Tryd.func24, Tryd.ntmps24
  go_wp2_with fail
  refine (isBlank_any _ _).mono ?_
  rintro e w' ⟨rfl, rfl⟩
  by_cases h1 : blankB c = true
  · obtain rfl : f = 3 := by rw [← hf.out, kindB, if_pos h1]
    rw [h1]
    go_wp2_with fail
    go_ret
    exact ⟨rfl, rfl⟩
  · have h1' := h1
    rw [Bool.not_eq_true] at h1'
    rw [h1']
    by_cases h2 : c = 35
    · obtain rfl : f = 4 := by rw [← hf.out, kindB, if_neg h1, if_pos h2]
      subst h2
      go_wp2_with fail
      go_ret
      exact ⟨rfl, rfl⟩
    · have h2' : ((c : Int) == 35) = false := by rw [beq_eq_false_iff_ne]; omega
      go_wp2_with fail
      refine (isLetter_any _ _).mono ?_
      rintro e w' ⟨rfl, rfl⟩
      by_cases h3 : letterB c = true
      · obtain rfl : f = 0 := by rw [← hf.out, kindB, if_neg h1, if_neg h2, if_pos h3]
        rw [h3]
        go_wp2_with fail
        go_ret
        exact ⟨rfl, rfl⟩
      · have h3' := h3
        rw [Bool.not_eq_true] at h3'
        rw [h3']
        go_wp2_with fail
        refine (isDigit_any _ _).mono ?_
        rintro e w' ⟨rfl, rfl⟩
        by_cases h4 : digitB c = true
        · obtain rfl : f = 1 := by rw [← hf.out, kindB, if_neg h1, if_neg h2, if_neg h3, if_pos h4]
          rw [h4]
          go_wp2_with fail
          go_ret
          exact ⟨rfl, rfl⟩
        · obtain rfl : f = 2 := by rw [← hf.out, kindB, if_neg h1, if_neg h2, if_neg h3, if_neg h4]
          rw [Bool.not_eq_true] at h4
          rw [h4]
          go_wp2_with fail
          go_ret
          exact ⟨rfl, rfl⟩
theorem str_add (a b : List UInt8) (h : a.length + b.length ≤ 9223372036854775807) (w : World) : (Op.stringOp .add ⟨a.toArray⟩ ⟨b.toArray⟩).run Tryd.prog w = .ok (.string (strB (a ++ b))) w := by
  have ha : (strB a).size = a.length := rfl
  have hb : (strB b).size = b.length := rfl
  have := run_string_add_sum (P := Tryd.prog) w (strB a) (strB b) (by omega)
  refine this.trans ?_
  have e : strB a ++ strB b = strB (a ++ b) := by
    apply ByteArray.ext
    simp [strB]
  rw [e]
set_option maxRecDepth 100000 in
theorem newReader_any (l : List UInt8) (hlen : l.length ≤ 1000000) (w : World) : Calls Tryd.prog 13 #[.string (strB l)] w fun e w' => e = .returned (.pointer (some ⟨w.heap.size, 0, none⟩)) ∧ RdrV w' w.heap.size w.heap.size (l ++ [10]) [] 3 0 ∧ Below w.heap.size w w' := by
  have hadd : ∀ w, (Op.stringOp .add (strB l) ⟨#[10]⟩).run Tryd.prog w = .ok (.string (strB (l ++ [10]))) w := fun w => str_add l [10] (by simp; omega) w
  go_enter Tryd.func13, Tryd.ntmps13
  go_wp2
  go_ret
  refine ⟨rfl, ⟨⟨.slice none 0 0, heap_new w _, World.ownsRow_nil _ _ _ _⟩, Nat.le_refl _⟩, (Below.refl _ _).alloc (Nat.le_refl _) _⟩
set_option maxRecDepth 100000 in
theorem begin_any (p B : Nat) (T : List UInt8) (ts : List Tok) (k fr i : Nat) (c : UInt8) (w : World) (hR : RdrV w p B T ts k fr) (hi : T[i]? = some c) :
    Calls Tryd.prog 16 #[.pointer (some ⟨p, 0, none⟩), .int .i64 i] w fun e w' => e = .returned (.tuple #[]) ∧ RdrV w' p B T ts (kindB c.toNat) i ∧ Below B w w' := by
  obtain ⟨v, h1, h2⟩ := hR.row
  have hB := hide hR.base
  have c0 := cell_at h1 0
  have c2 := cell_at h1 2
  have c3 := cell_at h1 3
  have f0 := frozen_at h1 0
  have f2 := frozen_at h1 2
  have f3 := frozen_at h1 3
  simp at c0 c2 c3
  replace h1 := hide h1
  replace h2 := hide h2
  have hx := str_at hi
  go_enter Tryd.func16, Tryd.ntmps16
  go_wp2_with fail
  refine (kindOf_any _ _).mono ?_
  rintro e w' ⟨rfl, rfl⟩
  go_wp2_with fail
  go_end0
  have hv : v.ownBlock ≠ some p := fun e => by have := own_type h2.out e h1.out; exact absurd this (by decide)
  refine ⟨rfl, ⟨⟨v, ?_, ?_⟩, hB.out⟩, ?_⟩
  · exact heap_set (heap_set h1.out 3 _) 2 _
  · refine (((Upd.set (F := (· = p)) w (a := ⟨p, 3, none⟩) rfl _).then (Upd.set (F := (· = p)) _ (a := ⟨p, 2, none⟩) rfl _)).own h2.out fun k hk e => hv (hk.trans (congrArg some e)))
  · exact ((Upd.set (F := (· = p)) w (a := ⟨p, 3, none⟩) rfl _).then (Upd.set (F := (· = p)) _ (a := ⟨p, 2, none⟩) rfl _)).below (Nat.le_trans hB.out (Nat.le_of_lt hR.lt)) fun k e => by rw [e]; exact hB.out

/-- What is read, as the reader's fields tell it. -/
def St.kind : St → Nat
  | .blank => 3
  | .com => 4
  | .word k _ _ => k
/-- What is read begins where the reader says, ahead of i. -/
def St.fits (T : List UInt8) (fr i : Nat) : St → Prop
  | .word k f w => f = fr ∧ f < i ∧ i ≤ T.length ∧ w = (T.drop f).take (i - f) ∧ k ≤ 2 ∧ (k = 1 → ∀ c ∈ w, digitB c.toNat = true)
  | _ => True
theorem take_next {T : List UInt8} {f i : Nat} {c : UInt8} (hf : f ≤ i) (h : T[i]? = some c) : (T.drop f).take (i + 1 - f) = (T.drop f).take (i - f) ++ [c] := by
  have e : i + 1 - f = (i - f) + 1 := by omega
  rw [e, List.take_add_one]
  congr 1
  rw [List.getElem?_drop]
  have : f + (i - f) = i := by omega
  rw [this, h]
  rfl
set_option maxRecDepth 100000 in
theorem goesOn_any (p B : Nat) (T : List UInt8) (ts : List Tok) (st : St) (fr i : Nat) (c : UInt8) (w : World) (hR : RdrV w p B T ts st.kind fr) (hs : st.fits T fr i) (hi : T[i]? = some c) (hT : T.length ≤ 1000001) :
    Calls Tryd.prog 14 #[.pointer (some ⟨p, 0, none⟩), .int .i64 i] w fun e w' => e = .returned (.bool (st.goes c)) ∧ Below w.heap.size w w' := by
  obtain ⟨v, h1, h2⟩ := hR.row
  have c0 := cell_at h1 0
  have c2 := cell_at h1 2
  have c3 := cell_at h1 3
  simp at c0 c2 c3
  clear hR h1 h2
  have hx := str_at hi
  generalize hg : st.goes c = g
  replace hg := hide hg
  go_enter Tryd.func14, Tryd.ntmps14
  cases st with
  | blank =>
    obtain rfl : g = false := hg.out.symm
    replace c2 : w.cell? ⟨p, 2, none⟩ = some (.int .i64 3) := c2
    go_wp2_with fail
    go_ret
    exact ⟨rfl, Below.refl _ _⟩
  | com =>
    replace c2 : w.cell? ⟨p, 2, none⟩ = some (.int .i64 4) := c2
    have e : ((c.toNat : Int) != 10) = g := by
      rw [← hg.out]
      show _ = (c != 10)
      rw [Bool.eq_iff_iff, bne_iff_ne, bne_iff_ne]
      constructor
      · rintro h rfl; exact h rfl
      · intro h h2; exact h (UInt8.toNat_inj.1 (by show c.toNat = 10; omega))
    go_wp2_with fail
    go_ret
    exact ⟨by rw [← e]; rfl, Below.refl _ _⟩
  | word k f x =>
    obtain ⟨rfl, h1, h2, hx2, hk, h3⟩ := hs
    replace hx2 := hide hx2
    have hiT : i < T.length := by
      rcases Nat.lt_or_ge i T.length with h | h
      · exact h
      · rw [List.getElem?_eq_none h] at hi; cases hi
    match k, hk with
    | 0, _ =>
      replace c2 : w.cell? ⟨p, 2, none⟩ = some (.int .i64 0) := c2
      replace hg : Hid ((letterB c.toNat || digitB c.toNat) = g) := hg
      go_wp2_with fail
      refine (isLetter_any _ _).mono ?_
      rintro e w' ⟨rfl, rfl⟩
      cases hL : letterB c.toNat with
      | true =>
        obtain rfl : g = true := by rw [← hg.out, hL]; rfl
        go_wp2_with fail
        go_ret
        exact ⟨rfl, Below.refl _ _⟩
      | false =>
        obtain rfl : g = digitB c.toNat := by rw [← hg.out, hL]; rfl
        go_wp2_with fail
        refine (isDigit_any _ _).mono ?_
        rintro e w' ⟨rfl, rfl⟩
        go_wp2_with fail
        go_ret
        exact ⟨rfl, Below.refl _ _⟩
    | 1, _ =>
      replace c2 : w.cell? ⟨p, 2, none⟩ = some (.int .i64 1) := c2
      replace hg : Hid (digitB c.toNat = g) := hg
      go_wp2_with fail
      refine (isDigit_any _ _).mono ?_
      rintro e w' ⟨rfl, rfl⟩
      rw [hg.out]
      go_wp2_with fail
      go_ret
      exact ⟨rfl, Below.refl _ _⟩
    | 2, _ => 
      replace c2 : w.cell? ⟨p, 2, none⟩ = some (.int .i64 2) := c2
      replace hg : Hid (isOp (x ++ [c]) = g) := hg
      have hz : (strB T).size = T.length := rfl
      have hb1 : (f : Int) ≤ (i : Int) + 1 := by omega
      have hb2 : (i : Int) + 1 ≤ ((strB T).size : Int) := by omega
      have hb0 : (0 : Int) ≤ (f : Int) := by omega
      have hcut : ∀ w, (Instr.slice 9 (.string (strB T)) (some (.int .i64 f)) (some (.int .i64 ((i : Int) + 1))) none).run Tryd.prog w = .ok (.string (strB (x ++ [c]))) w := fun w => by
        have := str_cut (l := T) (i := f) (j := i + 1) (by omega) (by omega) w
        rw [take_next (by omega) hi, ← hx2.out] at this
        exact this
      go_wp2_with fail
      go_quiet (first | (go_at_call 22; refine Calls.quiet_of_same (isOperator_any (x ++ [c]) _)))
      go_wp2_with fail
      go_ret
      exact ⟨by rw [hg.out]; rfl, ⟨rfl, rfl, rfl, Nat.le_refl _, fun _ _ => rfl⟩⟩
set_option maxRecDepth 100000 in
theorem faultOf_any (k : Nat) (hk : k ≤ 2) (l : List UInt8) (c : UInt8) (hne : l ≠ []) (hd : k = 1 → ∀ c ∈ l, digitB c.toNat = true) (hlen : l.length ≤ 1000000) (w : World) (hE : ErrR w) :
    Calls Tryd.prog 23 #[.int .i64 k, .string (strB l), .int .u8 c.toNat] w fun e w' => e = .returned (.int .i64 (fault k l c : Nat)) ∧ Below w.heap.size w w' := by
  generalize hf : fault k l c = f
  replace hf := hide hf
  match k, hk with
  | 0, _ =>
    have hN := hide (faultOfName_any l hlen c w)
    rw [hf.out] at hN
    go_enter Tryd.func23, Tryd.ntmps23
    go_wp2_with fail
    refine hN.out.mono ?_
    rintro e w' ⟨rfl, rfl⟩
    go_wp2_with fail
    go_ret
    exact ⟨rfl, Below.refl _ _⟩
  | 1, _ =>
    have hN := hide (faultOfNumber_any l c hne (hd rfl) hlen w hE)
    have hf' : faultN l c = f := hf.out
    rw [hf'] at hN
    go_enter Tryd.func23, Tryd.ntmps23
    go_wp2_with fail
    refine hN.out.mono ?_
    rintro e w' ⟨rfl, hb⟩
    replace hb := hide hb
    go_wp2_with fail
    go_ret
    exact ⟨rfl, hb.out⟩
  | 2, _ =>
    have hN := hide (faultOfOperator_any l c w)
    rw [hf.out] at hN
    go_enter Tryd.func23, Tryd.ntmps23
    go_wp2_with fail
    refine hN.out.mono ?_
    rintro e w' ⟨rfl, rfl⟩
    go_wp2_with fail
    go_ret
    exact ⟨rfl, Below.refl _ _⟩
end Go.Proofs.YtibbaofmdechcaaDoor
