/- Part 6 of the walks (merged): PsA, PsB, PsC, PsD, PsE. -/
import Derived.Test.YteplkhgaoaphhaaGreatDoorM5
import Derived.Deep.LoopGhost
/- Walks of the parser's small functions: peek, skip, isNext, isName. -/
namespace Go.Proofs.YteplkhgaoaphhaaGreatDoor
open Go Go.RowKit

theorem drop_get {α : Type} {l : List α} {i k : Nat} {r : List α} (h : l.drop i = r) : l[i + k]? = r[k]? := by
  rw [← h, List.getElem?_drop]
theorem drop_tail {α : Type} {l : List α} {i : Nat} {r : List α} (h : l.drop i = r) : l.drop (i + 1) = r.tail := by
  rw [← h, List.tail_drop]
theorem drop_len {α : Type} {l : List α} {i : Nat} {r : List α} (h : l.drop i = r) (hi : i ≤ l.length) : i + r.length = l.length := by
  rw [← h, List.length_drop]; omega

theorem below_drewN {B : Nat} {w w' : World} (h : Below B w w') (n : Nat) : Below B w (w'.drewN n) := ⟨h.os, h.tape, h.output, h.size, h.block⟩
set_option maxRecDepth 100000 in
set_option maxHeartbeats 1600000 in
theorem peek_any (k : Nat) (hk : k ≤ 2) (p : Nat) (C : Cx) (d n : Nat) (r : List Tok) (w : World) (h : PsW w p C d n r) :
    Calls Tryz.prog 73 #[.pointer (some ⟨p, 0, none⟩), .int .i64 k] w fun e w' => e = .returned (tokV (hdT C.len (r.drop k))) ∧ Below w.heap.size w w' := by
  obtain ⟨i, hh, hi, hr⟩ := h.heap
  have hlen := drop_len hr hi
  have hsm := h.ok.small
  obtain ⟨A, c, hA, hm⟩ := h.row.slice
  have hrow := hide h.row
  rw [hA] at hh hrow
  have c0 := cell_at hh 0
  have c1 := cell_at hh 1
  have c2 := cell_at hh 2
  simp at c0 c1 c2
  have a0 : (w.alloc (.cells #[.int .i64 0, .string ⟨#[]⟩, .int .i64 0] 49)).cell? ⟨p, 0, none⟩ = _ := (Upd.alloc (fun _ => False) w _).cell c0 id
  have a1 : (w.alloc (.cells #[.int .i64 0, .string ⟨#[]⟩, .int .i64 0] 49)).cell? ⟨p, 1, none⟩ = _ := (Upd.alloc (fun _ => False) w _).cell c1 id
  have a2 : (w.alloc (.cells #[.int .i64 0, .string ⟨#[]⟩, .int .i64 0] 49)).cell? ⟨p, 2, none⟩ = _ := (Upd.alloc (fun _ => False) w _).cell c2 id
  have hg := hide (fun (t : Tok) (ht : C.ts[i + k]? = some t) => hrow.out.get ht)
  have hd2 := hide (drop_get (k := k) hr)
  replace hh := hide hh
  replace hr := hide hr
  clear hm hA hrow h
  rcases Nat.lt_or_ge (i + k) C.ts.length with hlt | hge
  · obtain ⟨t, ht⟩ : ∃ t, C.ts[i + k]? = some t := ⟨_, List.getElem?_eq_getElem hlt⟩
    obtain ⟨b, rfl, p0, p1, p2⟩ := hg.out t ht
    have q0 : (w.alloc (.cells #[.int .i64 0, .string ⟨#[]⟩, .int .i64 0] 49)).cell? ⟨b, (i + k) * 3, none⟩ = _ := (Upd.alloc (fun _ => False) w _).cell p0 id
    have q1 : (w.alloc (.cells #[.int .i64 0, .string ⟨#[]⟩, .int .i64 0] 49)).cell? ⟨b, (i + k) * 3 + 1, none⟩ = _ := (Upd.alloc (fun _ => False) w _).cell p1 id
    have q2 : (w.alloc (.cells #[.int .i64 0, .string ⟨#[]⟩, .int .i64 0] 49)).cell? ⟨b, (i + k) * 3 + 2, none⟩ = _ := (Upd.alloc (fun _ => False) w _).cell p2 id
    have hx : hdT C.len (r.drop k) = t := by
      rw [hd2.out] at ht
      obtain ⟨hk2, rfl⟩ := List.getElem?_eq_some_iff.1 ht
      rw [List.drop_eq_getElem_cons hk2]; rfl
    rw [hx]
    generalize hN : C.ts.length = N at *
    generalize hL : C.len = L at *
    replace hN := hide hN
    replace hL := hide hL
    replace ht := hide ht
    clear hg hd2 hx
    have hdec : decide ((N : Int) ≤ (i : Int) + k) = false := by simp; omega
    have hnn : ((i : Int) + k).toNat = i + k := by omega
    go_enter Tryz.func73, Tryz.ntmps73
    go_wp2_with fail
    go_quiet (fail)
    go_wp2_with fail
    go_region
    go_wp2_with fail
    refine bodyPost_ret (v := .agg #[.int .i64 t.kind, .string (strB t.text), .int .i64 t.at_]) (by simp [results, Tryz.results73, go_sem]) rfl ⟨rfl, ?_⟩
    exact (((below_drewN ((Below.refl _ _).alloc (Nat.le_refl _) _) _).setCell (Nat.le_refl _) _).setCell (Nat.le_refl _) _).setCell (Nat.le_refl _) _
  · have hx : hdT C.len (r.drop k) = ⟨3, [], C.len⟩ := by
      rw [List.drop_eq_nil_of_le (by omega)]; rfl
    rw [hx]
    generalize hN : C.ts.length = N at *
    generalize hL : C.len = L at *
    replace hN := hide hN
    replace hL := hide hL
    have hdec : decide ((N : Int) ≤ (i : Int) + k) = true := by simp; omega
    go_enter Tryz.func73, Tryz.ntmps73
    go_wp2_with fail
    go_quiet (fail)
    go_wp2_with fail
    refine bodyPost_ret (v := .agg #[.int .i64 3, .string ⟨#[]⟩, .int .i64 L]) (by simp [results, Tryz.results73, go_sem]) rfl ⟨rfl, ?_⟩
    exact (((below_drewN ((Below.refl _ _).alloc (Nat.le_refl _) _) _).setCell (Nat.le_refl _) _).setCell (Nat.le_refl _) _).setCell (Nat.le_refl _) _

set_option maxRecDepth 100000 in
theorem skip_any (p : Nat) (C : Cx) (d n : Nat) (r : List Tok) (w : World) (h : PsW w p C d n r) (hne : r ≠ []) :
    Calls Tryz.prog 75 #[.pointer (some ⟨p, 0, none⟩)] w fun e w' => e = .returned (.tuple #[]) ∧ Upd (At p) w w' ∧ PsW w' p C d n r.tail := by
  have h0 := hide h
  obtain ⟨i, hh, hi, hr⟩ := h.heap
  have hlen := drop_len hr hi
  have hpos : 0 < r.length := List.length_pos_iff.2 hne
  have hsm := h.ok.small
  have c1 := cell_at hh 1
  have f1 := frozen_at hh 1
  simp at c1
  have hS := hide (fun u => heap_set hh 1 u)
  replace hh := hide hh
  replace hr := hide hr
  clear h hne
  go_enter Tryz.func75, Tryz.ntmps75
  go_wp2_with fail
  go_end0
  have hh2 := hS.out (.int .i64 (i + 1 : Nat))
  refine ⟨rfl, Upd.set w (F := At p) (a := ⟨p, 1, none⟩) rfl _, ?_⟩
  exact h0.out.set (i := i + 1) 1 (.int .i64 (i + 1 : Nat)) hh2 (by omega) (drop_tail hr.out) h0.out.hd h0.out.hn

theorem str_beq (a b : List UInt8) : ((strB a).toList == (strB b).toList) = (a == b) := by rw [ByteArray.toList_eq, ByteArray.toList_eq]; rfl
theorem field_text (a b : Int) (s : ByteArray) (w : World) : (Instr.field 49 (.agg #[.int .i64 a, .string s, .int .i64 b]) 1).run Tryz.prog w = .ok (.string s) w := by kernel_rfl
set_option maxRecDepth 100000 in
theorem isNext_any (x : List UInt8) (p : Nat) (C : Cx) (d n : Nat) (r : List Tok) (w : World) (h : PsW w p C d n r) :
    Calls Tryz.prog 77 #[.pointer (some ⟨p, 0, none⟩), .string (strB x)] w fun e w' => e = .returned (.bool (nx r x)) ∧ Below w.heap.size w w' := by
  have hP := hide (peek_any 0 (by omega) p C d n r w h)
  replace h := hide h
  go_enter Tryz.func77, Tryz.ntmps77
  go_wp2_with fail
  refine hP.out.mono ?_
  rintro e w' ⟨rfl, hb⟩
  unfold tokV
  rw [hdT_text, List.drop_zero]
  replace hb := hide hb
  have hf := field_text (hdT C.len r).kind (hdT C.len r).at_ (strB (txt r))
  go_wp2_with fail
  go_ret
  exact ⟨by rw [str_beq]; rfl, hb.out⟩
set_option maxRecDepth 100000 in
set_option maxHeartbeats 1600000 in
theorem isKeyword_any (s : List UInt8) (w : World) : Calls Tryz.prog 93 #[.string (strB s)] w fun e w' => e = .returned (.bool (isKw s)) ∧ w' = w := by
  unfold strB
  go_enter Tryz.func93, Tryz.ntmps93
  go_wp2
  all_goals go_ret
  all_goals refine ret_bool ?_
  all_goals (unfold isKw kws; simp_all)
theorem isKeyword_same (s : List UInt8) (w : World) : Calls Tryz.prog 93 #[.string (strB s)] w fun e w' => e = .returned (.bool (isKw s)) ∧ w = w' := (isKeyword_any s w).mono fun _ _ ⟨h1, h2⟩ => ⟨h1, h2.symm⟩
/-- Whether a token is a name. -/
def nmT (t : Tok) : Bool := t.kind == 0 && !isKw t.text
set_option maxRecDepth 100000 in
theorem isName_any (t : Tok) (w : World) : Calls Tryz.prog 74 #[tokV t] w fun e w' => e = .returned (.bool (nmT t)) ∧ Below w.heap.size w w' := by
  unfold tokV
  by_cases hk : t.kind = 0
  · have hn : nmT t = !isKw t.text := by unfold nmT; rw [hk]; rfl
    rw [hn]
    have hk' : ((t.kind : Int) == 0) = true := by rw [hk]; rfl
    go_enter Tryz.func74, Tryz.ntmps74
    go_wp2_with fail
    refine (isKeyword_same _ _).mono ?_
    rintro e w' ⟨rfl, rfl⟩
    go_wp2_with fail
    go_ret
    exact ⟨rfl, (Below.refl _ _).alloc (Nat.le_refl _) _⟩
  · have hn : nmT t = false := by unfold nmT; rw [beq_false_of_ne hk]; rfl
    rw [hn]
    have hk' : ((t.kind : Int) == 0) = false := beq_false_of_ne (by omega)
    go_enter Tryz.func74, Tryz.ntmps74
    go_wp2_with fail
    go_ret
    exact ⟨rfl, (Below.refl _ _).alloc (Nat.le_refl _) _⟩
theorem nmT_hd (len : Nat) (r : List Tok) : nmT (hdT len r) = isNm r := by cases r <;> rfl
set_option maxRecDepth 100000 in
theorem refuse_any (t : Tok) (k : Nat) (w : World) : Calls Tryz.prog 72 #[tokV t, .int .i64 k] w fun e w' => e = .panicked [{ v := faultV t.at_ k, recovered := false }] ∧ Below w.heap.size w w' := by
  unfold tokV faultV
  go_enter Tryz.func72, Tryz.ntmps72
  go_wp2_with fail
  refine ⟨rfl, ?_⟩
  exact ⟨rfl, (Below.refl _ _).alloc (Nat.le_refl _) _⟩
end Go.Proofs.YteplkhgaoaphhaaGreatDoor
/- Walks of the parser's small functions: accept, expect, name, number, enter, leave. -/
namespace Go.Proofs.YteplkhgaoaphhaaGreatDoor
open Go Go.RowKit

theorem nx_ne {r : List Tok} {x : List UInt8} (h : nx r x = true) (hx : x ≠ []) : r ≠ [] := by
  rintro rfl
  unfold nx txt at h
  rw [beq_iff_eq] at h
  exact hx h.symm
theorem nm_ne {r : List Tok} (h : isNm r = true) : r ≠ [] := by
  rintro rfl
  cases h
theorem num_ne {r : List Tok} (h : isNum r = true) : r ≠ [] := by
  rintro rfl
  cases h
theorem at_below {p : Nat} {w w' : World} (h : Below w.heap.size w w') : Upd (At p) w w' := .of_below _ h

set_option maxRecDepth 100000 in
theorem accept_yes (x : List UInt8) (hx0 : x ≠ []) (p : Nat) (C : Cx) (d n : Nat) (r : List Tok) (w : World) (h : PsW w p C d n r) (hx : nx r x = true) :
    Calls Tryz.prog 62 #[.pointer (some ⟨p, 0, none⟩), .string (strB x)] w fun e w' => e = .returned (.bool true) ∧ Upd (At p) w w' ∧ PsW w' p C d n r.tail := by
  have hP := hide (isNext_any x p C d n r w h)
  have hne := nx_ne hx hx0
  rw [hx] at hP
  replace h := hide h
  clear hx hx0
  go_enter Tryz.func62, Tryz.ntmps62
  go_wp2_with fail
  refine hP.out.mono ?_
  rintro e w' ⟨rfl, hb⟩
  have h1 := hide (h.out.below hb)
  replace hb := hide hb
  go_wp2_with fail
  refine (skip_any p C d n r _ h1.out hne).mono ?_
  rintro e w2 ⟨rfl, hu, h2⟩
  replace hu := hide hu
  replace h2 := hide h2
  go_wp2_with fail
  go_ret
  exact ⟨rfl, (at_below hb.out).then hu.out, h2.out⟩
set_option maxRecDepth 100000 in
theorem accept_no (x : List UInt8) (p : Nat) (C : Cx) (d n : Nat) (r : List Tok) (w : World) (h : PsW w p C d n r) (hx : nx r x = false) :
    Calls Tryz.prog 62 #[.pointer (some ⟨p, 0, none⟩), .string (strB x)] w fun e w' => e = .returned (.bool false) ∧ Upd (At p) w w' ∧ PsW w' p C d n r := by
  have hP := hide (isNext_any x p C d n r w h)
  rw [hx] at hP
  replace h := hide h
  clear hx
  go_enter Tryz.func62, Tryz.ntmps62
  go_wp2_with fail
  refine hP.out.mono ?_
  rintro e w' ⟨rfl, hb⟩
  have h1 := hide (h.out.below hb)
  replace hb := hide hb
  go_wp2_with fail
  go_ret
  exact ⟨rfl, at_below hb.out, h1.out⟩
/-- Nothing is told, the tokens go on. -/
def UnitR (p : Nat) (C : Cx) (d n : Nat) (v : Value) (w : World) (_ : Unit) (r : List Tok) : Prop := v = .tuple #[] ∧ PsW w p C d n r
set_option maxRecDepth 100000 in
theorem expect_any (x : List UInt8) (hx0 : x ≠ []) (p : Nat) (C : Cx) (d n : Nat) (r : List Tok) (w : World) (h : PsW w p C d n r) :
    Calls Tryz.prog 46 #[.pointer (some ⟨p, 0, none⟩), .string (strB x)] w fun e w' => Got p C w (UnitR p C d n) (want x r) e w' := by
  have ha := h.row
  by_cases hx : nx r x = true
  · have hw : want x r = .ok () r.tail := by unfold want; rw [if_pos hx]
    have hA := hide (accept_yes x hx0 p C d n r w h hx)
    rw [hw]
    clear hx hw hx0 ha h
    go_enter Tryz.func46, Tryz.ntmps46
    go_wp2_with fail
    refine hA.out.mono ?_
    rintro e w2 ⟨rfl, hu, h2⟩
    replace hu := hide hu
    replace h2 := hide h2
    go_wp2_with fail
    go_end0
    exact ⟨hu.out, _, rfl, rfl, h2.out⟩
  · have hw : want x r = .er r 51 := by unfold want; rw [if_neg hx]
    have hA := hide (accept_no x p C d n r w h (by simpa using hx))
    rw [hw]
    clear hx hw hx0 ha h
    go_enter Tryz.func46, Tryz.ntmps46
    go_wp2_with fail
    refine hA.out.mono ?_
    rintro e w2 ⟨rfl, hu, h2⟩
    replace hu := hide hu
    replace h2 := hide h2
    go_wp2_with fail
    refine (peek_any 0 (by omega) p C d n r _ h2.out).mono ?_
    rintro e w3 ⟨rfl, hb⟩
    rw [List.drop_zero]
    replace hb := hide hb
    go_wp2_with fail
    refine (refuse_any _ 51 _).mono ?_
    rintro e w4 ⟨rfl, hb2⟩
    rw [hdT_at]
    replace hb2 := hide hb2
    go_wp2_with fail
    refine ⟨rfl, ?_⟩
    exact ⟨(hu.out.then (at_below hb.out)).then (at_below hb2.out), rfl⟩

/-- A name is told. -/
def StrR (p : Nat) (C : Cx) (d n : Nat) (v : Value) (w : World) (a : List UInt8) (r : List Tok) : Prop := v = .string (strB a) ∧ PsW w p C d n r
def NumR (p : Nat) (C : Cx) (d n : Nat) (v : Value) (w : World) (a : Nat) (r : List Tok) : Prop := v = .int .i64 a ∧ PsW w p C d n r
theorem tokV_def (t : Tok) : tokV t = .agg #[.int .i64 t.kind, .string (strB t.text), .int .i64 t.at_] := rfl
set_option maxRecDepth 100000 in
theorem name_any (p : Nat) (C : Cx) (d n : Nat) (r : List Tok) (w : World) (h : PsW w p C d n r) :
    Calls Tryz.prog 47 #[.pointer (some ⟨p, 0, none⟩)] w fun e w' => Got p C w (StrR p C d n) (nameP r) e w' := by
  have hP := hide (peek_any 0 (by omega) p C d n r w h)
  have hN := hide (fun w => isName_any (hdT C.len r) w)
  have hT := hide (hdT_text C.len r)
  have hA := hide (hdT_at C.len r)
  have hM := hide (nmT_hd C.len r)
  replace h := hide h
  by_cases hx : isNm r = true
  · have hw : nameP r = .ok (txt r) r.tail := by unfold nameP; rw [if_pos hx]
    have hne := nm_ne hx
    rw [hw]
    replace hx := hide hx
    clear hw hA
    go_enter Tryz.func47, Tryz.ntmps47
    go_wp2_with fail
    refine hP.out.mono ?_
    rintro e w' ⟨rfl, hb⟩
    have h1 := hide (h.out.below hb)
    replace hb := hide hb
    rw [List.drop_zero, tokV_def]
    go_wp2_with fail
    refine (hN.out _).mono ?_
    rintro e w2 ⟨rfl, hb2⟩
    have hg := hide (heapB (heap_new w' (.cells #[.int .i64 (hdT C.len r).kind, .string (strB (hdT C.len r).text), .int .i64 (hdT C.len r).at_] 49)) hb2)
    have hgp : w'.heap.size ≠ p := Nat.ne_of_gt h1.out.lt
    have h2 := hide ((h1.out.alloc (.cells #[.int .i64 (hdT C.len r).kind, .string (strB (hdT C.len r).text), .int .i64 (hdT C.len r).at_] 49)).below hb2)
    replace hb2 := hide ((Below.refl _ _).alloc (Nat.le_refl _) _ |>.trans (hb2.mono (by simp)))
    rw [hM.out, hx.out]
    go_wp2_with fail
    refine (skip_any p C d n r _ h2.out hne).mono ?_
    rintro e w3 ⟨rfl, hu, h3⟩
    have hg3 := cell_at (hu.heap hg.out hgp) 1
    simp at hg3
    replace hu := hide hu
    replace h3 := hide h3
    go_wp2_with fail
    go_ret
    rw [hT.out]
    exact ⟨((at_below hb.out).then (at_below hb2.out)).then hu.out, _, rfl, rfl, h3.out⟩
  · have hw : nameP r = .er r 51 := by unfold nameP; rw [if_neg hx]
    rw [hw]
    have hx : isNm r = false := by simpa using hx
    replace hx := hide hx
    clear hw hT
    go_enter Tryz.func47, Tryz.ntmps47
    go_wp2_with fail
    refine hP.out.mono ?_
    rintro e w' ⟨rfl, hb⟩
    replace hb := hide hb
    rw [List.drop_zero, tokV_def]
    go_wp2_with fail
    refine (hN.out _).mono ?_
    rintro e w2 ⟨rfl, hb2⟩
    have hg := heapB (heap_new w' (.cells #[.int .i64 (hdT C.len r).kind, .string (strB (hdT C.len r).text), .int .i64 (hdT C.len r).at_] 49)) hb2
    have g0 := cell_at hg 0
    have g1 := cell_at hg 1
    have g2 := cell_at hg 2
    simp at g0 g1 g2
    replace hg := hide hg
    replace hb2 := hide ((Below.refl _ _).alloc (Nat.le_refl _) _ |>.trans (hb2.mono (by simp)))
    rw [hM.out, hx.out]
    go_wp2_with fail
    refine (refuse_any (hdT C.len r) 51 _).mono ?_
    rintro e w4 ⟨rfl, hb3⟩
    rw [hA.out]
    replace hb3 := hide hb3
    go_wp2_with fail
    refine ⟨rfl, ?_⟩
    exact ⟨((at_below hb.out).then (at_below hb2.out)).then (at_below hb3.out), rfl⟩
end Go.Proofs.YteplkhgaoaphhaaGreatDoor
/- Walks of the parser's small functions: number, isNamed, isEnd, expectEnd, enter, leave, declared. -/
namespace Go.Proofs.YteplkhgaoaphhaaGreatDoor
open Go Go.RowKit Go.Lib

theorem parseInt_fits (l : List UInt8) (hne : l ≠ []) (hd : ∀ c ∈ l, digitB c.toNat = true) (hlen : l.length ≤ 1000000) (hv : valL l ≤ 9223372036854775807) (w : World) :
    Calls Tryz.prog 95 #[.string (strB l), .int .i64 10, .int .i64 64] w fun e w' => e = .returned (.tuple #[.int .i64 (valL l : Nat), .nilIface]) ∧ Below w.heap.size w w' := by
  have hs : (strB l).data.toList = l := rfl
  have hz : (strB l).size = l.length := rfl
  have hp := parse_digits hne hd
  rw [if_neg (by omega)] at hp
  refine (Any.strconv_ParseInt_10_at64_ok layParse (strB l) (by rw [hz]; omega) _ (by rw [hs]; exact hp) w).mono ?_
  rintro e w' ⟨rfl, hb⟩
  exact ⟨rfl, bytes_below hb⟩
theorem PsW.good {w : World} {p : Nat} {C : Cx} {d n : Nat} {t : Tok} {r : List Tok} (h : PsW w p C d n (t :: r)) : Good t := by
  obtain ⟨i, h1, h2, h3⟩ := h.heap
  exact h.ok.good t (List.mem_of_mem_drop (i := i) (by rw [h3]; exact List.mem_cons_self ..))
theorem isNum_hd (len : Nat) (r : List Tok) : ((hdT len r).kind == 1) = isNum r := by cases r <;> rfl

set_option maxRecDepth 100000 in
theorem number_any (p : Nat) (C : Cx) (d n : Nat) (r : List Tok) (w : World) (h : PsW w p C d n r) :
    Calls Tryz.prog 79 #[.pointer (some ⟨p, 0, none⟩)] w fun e w' => Got p C w (NumR p C d n) (numP r) e w' := by
  have hP := hide (peek_any 0 (by omega) p C d n r w h)
  have hA := hide (hdT_at C.len r)
  by_cases hx : isNum r = true
  · have hw : numP r = .ok (valL (txt r)) r.tail := by unfold numP; rw [if_pos hx]
    have hne := num_ne hx
    cases r with
    | nil => cases hx
    | cons t r =>
    obtain ⟨h1, h2⟩ := h.good.num (beq_iff_eq.1 hx)
    have hI := hide (parseInt_fits t.text h.good.ne h1 h.good.len h2)
    have hkk : ((t.kind : Int) != 1) = false := by rw [beq_iff_eq.1 hx]; rfl
    replace h := hide h
    rw [hw]
    replace hx := hide hx
    clear hw hA h1 h2
    show Calls _ _ _ _ fun e w' => Got p C w (NumR p C d n) (.ok (valL t.text) r) e w'
    go_enter Tryz.func79, Tryz.ntmps79
    go_wp2_with fail
    refine hP.out.mono ?_
    rintro e w' ⟨rfl, hb⟩
    have h1 := hide (h.out.below hb)
    replace hb := hide hb
    rw [List.drop_zero, tokV_def]
    rw [show hdT C.len (t :: r) = t from rfl]
    have hg := heap_new w' (.cells #[.int .i64 t.kind, .string (strB t.text), .int .i64 t.at_] 49)
    have hgp : w'.heap.size ≠ p := Nat.ne_of_gt h1.out.lt
    have h2 := hide (h1.out.alloc (.cells #[.int .i64 t.kind, .string (strB t.text), .int .i64 t.at_] 49))
    have hu0 := hide (Upd.alloc (At p) w' (.cells #[.int .i64 t.kind, .string (strB t.text), .int .i64 t.at_] 49))
    replace hg := hide hg
    go_wp2_with fail
    refine (skip_any p C d n _ _ h2.out hne).mono ?_
    rintro e w3 ⟨rfl, hu, h3⟩
    have hg3 := cell_at (hu.heap hg.out hgp) 1
    simp at hg3
    replace hu := hide hu
    replace h3 := hide h3
    go_wp2_with fail
    refine (hI.out _).mono ?_
    rintro e w4 ⟨rfl, hb4⟩
    have h4 := hide (h3.out.below hb4)
    replace hb4 := hide hb4
    go_wp2_with fail
    go_ret
    exact ⟨(((at_below hb.out).then hu0.out).then hu.out).then (at_below hb4.out), _, rfl, rfl, h4.out⟩
  · have hw : numP r = .er r 51 := by unfold numP; rw [if_neg hx]
    rw [hw]
    have hkk : (((hdT C.len r).kind : Int) != 1) = true := by
      have h1 : isNum r = false := by simpa using hx
      rw [← isNum_hd C.len] at h1
      have h2 : (hdT C.len r).kind ≠ 1 := by
        intro e
        rw [e] at h1
        cases h1
      have h3 : ((hdT C.len r).kind : Int) ≠ 1 := by omega
      exact bne_iff_ne.2 h3
    clear hw hx h
    go_enter Tryz.func79, Tryz.ntmps79
    go_wp2_with fail
    refine hP.out.mono ?_
    rintro e w' ⟨rfl, hb⟩
    replace hb := hide hb
    rw [List.drop_zero, tokV_def]
    have hu0 := hide (Upd.alloc (At p) w' (.cells #[.int .i64 (hdT C.len r).kind, .string (strB (hdT C.len r).text), .int .i64 (hdT C.len r).at_] 49))
    go_wp2_with fail
    refine (refuse_any (hdT C.len r) 51 _).mono ?_
    rintro e w4 ⟨rfl, hb3⟩
    rw [hA.out]
    replace hb3 := hide hb3
    go_wp2_with fail
    refine ⟨rfl, ?_⟩
    exact ⟨((at_below hb.out).then hu0.out).then (at_below hb3.out), rfl⟩

set_option maxRecDepth 100000 in
theorem isNamed_any (x : List UInt8) (p : Nat) (C : Cx) (d n : Nat) (r : List Tok) (w : World) (h : PsW w p C d n r) :
    Calls Tryz.prog 107 #[.pointer (some ⟨p, 0, none⟩), .string (strB x)] w fun e w' => e = .returned (.bool (named r x)) ∧ Below w.heap.size w w' := by
  have hP := hide (peek_any 0 (by omega) p C d n r w h)
  have hM := hide (nmT_hd C.len r)
  replace h := hide h
  by_cases hx : isNm r = true
  · have hw : named r x = nx r.tail x := by unfold named; rw [hx]; rfl
    rw [hw]
    clear hw
    replace hx := hide hx
    go_enter Tryz.func107, Tryz.ntmps107
    go_wp2_with fail
    refine hP.out.mono ?_
    rintro e w' ⟨rfl, hb⟩
    have h1 := hide (h.out.below hb)
    replace hb := hide hb
    rw [List.drop_zero]
    go_wp2_with fail
    refine (isName_any (hdT C.len r) _).mono ?_
    rintro e w2 ⟨rfl, hb2⟩
    have h2 := hide (h1.out.below hb2)
    replace hb2 := hide hb2
    rw [hM.out, hx.out]
    go_wp2_with fail
    refine (peek_any 1 (by omega) p C d n r _ h2.out).mono ?_
    rintro e w3 ⟨rfl, hb3⟩
    replace hb3 := hide hb3
    rw [tokV_def, hdT_text, show r.drop 1 = r.tail from List.drop_one]
    have hf := field_text (hdT C.len r.tail).kind (hdT C.len r.tail).at_ (strB (txt r.tail))
    go_wp2_with fail
    go_ret
    exact ⟨by rw [str_beq]; rfl, (hb.out.trans (hb2.out.mono hb.out.size)).trans (hb3.out.mono (Nat.le_trans hb.out.size hb2.out.size))⟩
  · have hx : isNm r = false := by simpa using hx
    have hw : named r x = false := by unfold named; rw [hx]; rfl
    rw [hw]
    clear hw
    replace hx := hide hx
    go_enter Tryz.func107, Tryz.ntmps107
    go_wp2_with fail
    refine hP.out.mono ?_
    rintro e w' ⟨rfl, hb⟩
    replace hb := hide hb
    rw [List.drop_zero]
    go_wp2_with fail
    refine (isName_any (hdT C.len r) _).mono ?_
    rintro e w2 ⟨rfl, hb2⟩
    replace hb2 := hide hb2
    rw [hM.out, hx.out]
    go_wp2_with fail
    go_ret
    exact ⟨rfl, hb.out.trans (hb2.out.mono hb.out.size)⟩

/-- Whether all tokens are read. -/
def endB : List Tok → Bool
  | [] => true
  | _ => false
theorem field_kind (a b : Int) (s : ByteArray) (w : World) : (Instr.field 49 (.agg #[.int .i64 a, .string s, .int .i64 b]) 0).run Tryz.prog w = .ok (.int .i64 a) w := by kernel_rfl
theorem PsW.end_ {w : World} {p : Nat} {C : Cx} {d n : Nat} {r : List Tok} (h : PsW w p C d n r) : ((((hdT C.len r).kind : Nat) : Int) == 3) = endB r := by
  cases r with
  | nil => rfl
  | cons t r =>
    have := h.good.kind
    show ((t.kind : Int) == 3) = false
    exact beq_false_of_ne (by omega)
set_option maxRecDepth 100000 in
theorem isEnd_any (p : Nat) (C : Cx) (d n : Nat) (r : List Tok) (w : World) (h : PsW w p C d n r) :
    Calls Tryz.prog 61 #[.pointer (some ⟨p, 0, none⟩)] w fun e w' => e = .returned (.bool (endB r)) ∧ Below w.heap.size w w' := by
  have hP := hide (peek_any 0 (by omega) p C d n r w h)
  have hE := hide h.end_
  clear h
  go_enter Tryz.func61, Tryz.ntmps61
  go_wp2_with fail
  refine hP.out.mono ?_
  rintro e w' ⟨rfl, hb⟩
  replace hb := hide hb
  rw [List.drop_zero, tokV_def]
  have hf := field_kind (hdT C.len r).kind (hdT C.len r).at_ (strB (hdT C.len r).text)
  go_wp2_with fail
  go_ret
  refine ⟨?_, hb.out⟩
  show Ending.returned (.bool (((hdT C.len r).kind : Int) == 3)) = _
  rw [hE.out]
set_option maxRecDepth 100000 in
theorem expectEnd_any (p : Nat) (C : Cx) (d n : Nat) (r : List Tok) (w : World) (h : PsW w p C d n r) :
    Calls Tryz.prog 45 #[.pointer (some ⟨p, 0, none⟩)] w fun e w' => Got p C w (UnitR p C d n) (if endB r = true then .ok () r else .er r 51) e w' := by
  have hP := hide (isEnd_any p C d n r w h)
  replace h := hide h
  by_cases hx : endB r = true
  · rw [if_pos hx]
    rw [hx] at hP
    clear hx
    go_enter Tryz.func45, Tryz.ntmps45
    go_wp2_with fail
    refine hP.out.mono ?_
    rintro e w' ⟨rfl, hb⟩
    have h1 := hide (h.out.below hb)
    replace hb := hide hb
    go_wp2_with fail
    go_end0
    exact ⟨at_below hb.out, _, rfl, rfl, h1.out⟩
  · rw [if_neg hx]
    have hx : endB r = false := by simpa using hx
    rw [hx] at hP
    clear hx
    go_enter Tryz.func45, Tryz.ntmps45
    go_wp2_with fail
    refine hP.out.mono ?_
    rintro e w' ⟨rfl, hb⟩
    have h1 := hide (h.out.below hb)
    replace hb := hide hb
    go_wp2_with fail
    refine (peek_any 0 (by omega) p C d n r _ h1.out).mono ?_
    rintro e w3 ⟨rfl, hb3⟩
    rw [List.drop_zero]
    replace hb3 := hide hb3
    go_wp2_with fail
    refine (refuse_any _ 51 _).mono ?_
    rintro e w4 ⟨rfl, hb2⟩
    rw [hdT_at]
    replace hb2 := hide hb2
    go_wp2_with fail
    refine ⟨rfl, ?_⟩
    exact ⟨((at_below hb.out).then (at_below hb3.out)).then (at_below hb2.out), rfl⟩
end Go.Proofs.YteplkhgaoaphhaaGreatDoor
/- Walks of the parser's small functions: enter, leave, declared. -/
namespace Go.Proofs.YteplkhgaoaphhaaGreatDoor
open Go Go.RowKit Go.Lib

section
variable {w : World} {p : Nat} {C : Cx} {d n : Nat} {r : List Tok}
/-- Another depth, another count. -/
theorem PsW.setD (h : PsW w p C d n r) (d' : Nat) (hd : d' ≤ 40) : PsW (w.setCell ⟨p, 3, none⟩ (.int .i64 d')) p C d' n r := by
  obtain ⟨i, h1, h2, h3⟩ := h.heap
  exact h.set 3 _ (heap_set h1 3 _) h2 h3 hd h.hn
theorem PsW.setN (h : PsW w p C d n r) (n' : Nat) (hn : n' ≤ 200) : PsW (w.setCell ⟨p, 4, none⟩ (.int .i64 n')) p C d n' r := by
  obtain ⟨i, h1, h2, h3⟩ := h.heap
  exact h.set 4 _ (heap_set h1 4 _) h2 h3 h.hd hn
theorem PsW.cell3 (h : PsW w p C d n r) : w.cell? ⟨p, 3, none⟩ = some (.int .i64 d) := by
  obtain ⟨i, h1, -⟩ := h.heap
  rw [cell_at h1]; rfl
theorem PsW.cell4 (h : PsW w p C d n r) : w.cell? ⟨p, 4, none⟩ = some (.int .i64 n) := by
  obtain ⟨i, h1, -⟩ := h.heap
  rw [cell_at h1]; rfl
theorem PsW.thaw (h : PsW w p C d n r) (o : Nat) : w.frozen? ⟨p, o, none⟩ = false := by
  obtain ⟨i, h1, -⟩ := h.heap
  exact frozen_at h1 o
end

section
variable {α : Type} {p : Nat} {C : Cx} {w w' : World} {R : Value → World → α → List Tok → Prop} {X : Rs α}
theorem Got.er {r : List Tok} {k : Nat} (hu : Upd (At p) w w') (h : X = .er r k) : Got p C w R X (.panicked [{ v := faultV (atOf C.len r) k, recovered := false }]) w' := by
  subst h
  exact ⟨hu, rfl⟩
theorem Got.ok {v : Value} {a : α} {r : List Tok} (hu : Upd (At p) w w') (h : X = .ok a r) (hR : R v w' a r) : Got p C w R X (.returned v) w' := by
  subst h
  exact ⟨hu, v, rfl, hR⟩
end

set_option maxRecDepth 100000 in
theorem leave_any (p : Nat) (C : Cx) (d n : Nat) (r : List Tok) (w : World) (h : PsW w p C (d + 1) n r) :
    Calls Tryz.prog 52 #[.pointer (some ⟨p, 0, none⟩)] w fun e w' => e = .returned (.tuple #[]) ∧ Upd (At p) w w' ∧ PsW w' p C d n r := by
  have c3 := h.cell3
  have f3 := h.thaw 3
  have hd := h.hd
  have hS := hide (h.setD d (by omega))
  have e1 : (((d + 1 : Nat) : Int) - 1) = (d : Int) := by omega
  replace h := hide h
  go_enter Tryz.func52, Tryz.ntmps52
  go_wp2_with fail
  go_end0
  exact ⟨rfl, Upd.set w (F := At p) (a := ⟨p, 3, none⟩) rfl _, hS.out⟩

set_option maxRecDepth 100000 in
theorem enter_any (x : List UInt8) (hx0 : x ≠ []) (p : Nat) (C : Cx) (d n : Nat) (r : List Tok) (w : World) (h : PsW w p C d n r) :
    Calls Tryz.prog 49 #[.pointer (some ⟨p, 0, none⟩), .string (strB x)] w fun e w' => Got p C w (UnitR p C (d + 1) n) (enterP x d r) e w' := by
  have hP := hide (peek_any 0 (by omega) p C d n r w h)
  have hA := hide (hdT_at C.len r)
  have hd := h.hd
  replace h := hide h
  by_cases hx : nx r x = true
  · have hw : want x r = .ok () r.tail := by unfold want; rw [if_pos hx]
    have hw2 : enterP x d r = if d = 40 then .er r 52 else .ok () r.tail := by unfold enterP; rw [if_pos hx]
    rw [hw2]
    generalize hX : (if d = 40 then Rs.er r 52 else .ok () r.tail : Rs Unit) = X
    replace hX := hide hX
    replace hw := hide hw
    clear hw2 hx
    go_enter Tryz.func49, Tryz.ntmps49
    go_wp2_with fail
    refine hP.out.mono ?_
    rintro e w' ⟨rfl, hb⟩
    have h1 := hide (h.out.below hb)
    have hgp : w'.heap.size ≠ p := Nat.ne_of_gt h1.out.lt
    replace hb := hide hb
    rw [List.drop_zero, tokV_def]
    have hg := hide (heap_new w' (.cells #[.int .i64 (hdT C.len r).kind, .string (strB (hdT C.len r).text), .int .i64 (hdT C.len r).at_] 49))
    have hu0 := hide (Upd.alloc (At p) w' (.cells #[.int .i64 (hdT C.len r).kind, .string (strB (hdT C.len r).text), .int .i64 (hdT C.len r).at_] 49))
    have h2 := hide (h1.out.alloc (.cells #[.int .i64 (hdT C.len r).kind, .string (strB (hdT C.len r).text), .int .i64 (hdT C.len r).at_] 49))
    go_wp2_with fail
    have hE := expect_any x hx0 p C d n r _ h2.out
    rw [hw.out] at hE
    refine hE.mono ?_
    rintro e w3 ⟨hu3, v, rfl, rfl, h3⟩
    have hg3 := hu3.heap hg.out hgp
    have g0 := cell_at hg3 0
    have g1 := cell_at hg3 1
    have g2 := cell_at hg3 2
    simp at g0 g1 g2
    have c3 := h3.cell3
    have f3 := h3.thaw 3
    replace h3 := hide h3
    replace hu3 := hide hu3
    replace hg3 := hide hg3
    clear hE
    by_cases h40 : d = 40
    · have h40' : ((d : Int) == 40) = true := by rw [h40]; rfl
      replace h40 := hide h40
      go_wp2_with fail
      refine (refuse_any (hdT C.len r) 52 _).mono ?_
      rintro e w4 ⟨rfl, hb3⟩
      rw [hA.out]
      replace hb3 := hide hb3
      go_wp2_with fail
      refine ⟨rfl, ?_⟩
      exact Got.er ((((at_below hb.out).then hu0.out).then hu3.out).then (at_below hb3.out)) (by rw [← hX.out, if_pos h40.out])
    · have h40' : ((d : Int) == 40) = false := beq_false_of_ne (by omega)
      have hS := hide (h3.out.setD (d + 1) (by omega))
      go_wp2_with fail
      go_end0
      exact Got.ok ((((at_below hb.out).then hu0.out).then hu3.out).then (Upd.set _ (F := At p) (a := ⟨p, 3, none⟩) rfl _)) (by rw [← hX.out, if_neg h40]) ⟨rfl, hS.out⟩
  · have hw : want x r = .er r 51 := by unfold want; rw [if_neg hx]
    have hw2 : enterP x d r = .er r 51 := by unfold enterP; rw [if_neg hx]
    rw [hw2]
    replace hw := hide hw
    clear hw2 hx
    go_enter Tryz.func49, Tryz.ntmps49
    go_wp2_with fail
    refine hP.out.mono ?_
    rintro e w' ⟨rfl, hb⟩
    have h1 := hide (h.out.below hb)
    replace hb := hide hb
    rw [List.drop_zero, tokV_def]
    have hu0 := hide (Upd.alloc (At p) w' (.cells #[.int .i64 (hdT C.len r).kind, .string (strB (hdT C.len r).text), .int .i64 (hdT C.len r).at_] 49))
    have h2 := hide (h1.out.alloc (.cells #[.int .i64 (hdT C.len r).kind, .string (strB (hdT C.len r).text), .int .i64 (hdT C.len r).at_] 49))
    go_wp2_with fail
    have hE := expect_any x hx0 p C d n r _ h2.out
    rw [hw.out] at hE
    refine hE.mono ?_
    rintro e w3 ⟨hu3, rfl⟩
    replace hu3 := hide hu3
    clear hE
    go_wp2_with fail
    refine ⟨rfl, ?_⟩
    exact ⟨((at_below hb.out).then hu0.out).then hu3.out, rfl⟩

set_option maxRecDepth 100000 in
theorem declared_any (k most : Nat) (p : Nat) (C : Cx) (d n : Nat) (r : List Tok) (w : World) (h : PsW w p C d n r) :
    Calls Tryz.prog 63 #[.pointer (some ⟨p, 0, none⟩), .int .i64 k, .int .i64 most] w fun e w' => Got p C w (StrR p C d n) (declP k most r) e w' := by
  have hP := hide (peek_any 0 (by omega) p C d n r w h)
  have hA := hide (hdT_at C.len r)
  replace h := hide h
  generalize hX : declP k most r = X
  replace hX := hide hX
  go_enter Tryz.func63, Tryz.ntmps63
  go_wp2_with fail
  refine hP.out.mono ?_
  rintro e w' ⟨rfl, hb⟩
  have h1 := hide (h.out.below hb)
  have hgp : w'.heap.size ≠ p := Nat.ne_of_gt h1.out.lt
  replace hb := hide hb
  rw [List.drop_zero, tokV_def]
  have hg := hide (heap_new w' (.cells #[.int .i64 (hdT C.len r).kind, .string (strB (hdT C.len r).text), .int .i64 (hdT C.len r).at_] 49))
  have hu0 := hide (Upd.alloc (At p) w' (.cells #[.int .i64 (hdT C.len r).kind, .string (strB (hdT C.len r).text), .int .i64 (hdT C.len r).at_] 49))
  have h2 := hide (h1.out.alloc (.cells #[.int .i64 (hdT C.len r).kind, .string (strB (hdT C.len r).text), .int .i64 (hdT C.len r).at_] 49))
  go_wp2_with fail
  have hN := name_any p C d n r _ h2.out
  cases hr : nameP r with
  | no => rw [hr] at hN; exact hN.mono fun _ _ h => h.2.elim
  | er r' k' =>
    rw [hr] at hN
    refine hN.mono ?_
    rintro e w3 ⟨hu3, rfl⟩
    replace hu3 := hide hu3
    have hX : Hid (X = .er r' k') := hide (by rw [← hX.out, declP, hr]; rfl)
    clear hN hr
    go_wp2_with fail
    refine ⟨rfl, ?_⟩
    exact Got.er (((at_below hb.out).then hu0.out).then hu3.out) hX.out
  | ok x r' =>
    rw [hr] at hN
    refine hN.mono ?_
    rintro e w3 ⟨hu3, v, rfl, rfl, h3⟩
    have hX : Hid (X = if k = most then .er r 53 else .ok x r') := hide (by rw [← hX.out, declP, hr]; rfl)
    have hg3 := hu3.heap hg.out hgp
    have g0 := cell_at hg3 0
    have g1 := cell_at hg3 1
    have g2 := cell_at hg3 2
    simp at g0 g1 g2
    replace h3 := hide h3
    replace hu3 := hide hu3
    replace hg3 := hide hg3
    clear hN hr
    by_cases hk : k = most
    · have hk' : ((k : Int) == (most : Int)) = true := by rw [hk]; exact beq_self_eq_true _
      replace hk := hide hk
      go_wp2_with fail
      refine (refuse_any (hdT C.len r) 53 _).mono ?_
      rintro e w4 ⟨rfl, hb3⟩
      rw [hA.out]
      replace hb3 := hide hb3
      go_wp2_with fail
      refine ⟨rfl, ?_⟩
      exact Got.er ((((at_below hb.out).then hu0.out).then hu3.out).then (at_below hb3.out)) (by rw [hX.out, if_pos hk.out])
    · have hk' : ((k : Int) == (most : Int)) = false := beq_false_of_ne (by omega)
      go_wp2_with fail
      go_ret
      exact Got.ok (((at_below hb.out).then hu0.out).then hu3.out) (by rw [hX.out, if_neg hk]) ⟨rfl, h3.out⟩
end Go.Proofs.YteplkhgaoaphhaaGreatDoor
/- Expressions in memory; which operators there are. -/
namespace Go.Proofs.YteplkhgaoaphhaaGreatDoor
open Go Go.RowKit Go.Lib

/-- A node of an expression. -/
def NodeE (w : World) (S : Nat → Prop) (v : Value) (k n : Int) (s : ByteArray) (va vb : Value) : Prop :=
  ∃ g, v = .pointer (some ⟨g, 0, none⟩) ∧ S g ∧ w.heap[g]? = some (.cells #[.int .i64 k, .int .i64 n, .string s, va, vb] 63 (0, 0))
/-- An expression in memory, in blocks of S. -/
def ExV (w : World) (S : Nat → Prop) : Ex → Value → Prop
  | .num n, v => NodeE w S v 0 n ⟨#[]⟩ (.pointer none) (.pointer none)
  | .var s, v => NodeE w S v 1 0 (strB s) (.pointer none) (.pointer none)
  | .neg a, v => ∃ va, NodeE w S v 7 0 ⟨#[]⟩ va (.pointer none) ∧ ExV w S a va
  | .bin k a b, v => ∃ va vb, NodeE w S v k 0 ⟨#[]⟩ va vb ∧ ExV w S a va ∧ ExV w S b vb
section
variable {w w' : World} {S S' F : Nat → Prop}
theorem NodeE.upd {v va vb : Value} {k n : Int} {s : ByteArray} (h : NodeE w S v k n s va vb) (hu : Upd F w w') (hS : ∀ b, S b → ¬ F b) : NodeE w' S v k n s va vb := by
  obtain ⟨g, h1, h2, h3⟩ := h
  exact ⟨g, h1, h2, hu.heap h3 (hS g h2)⟩
theorem NodeE.mono {v va vb : Value} {k n : Int} {s : ByteArray} (h : NodeE w S v k n s va vb) (hS : ∀ b, b < w.heap.size → S b → S' b) : NodeE w S' v k n s va vb := by
  obtain ⟨g, h1, h2, h3⟩ := h
  exact ⟨g, h1, hS g (Array.getElem?_eq_some_iff.1 h3).1 h2, h3⟩
theorem ExV.upd (hu : Upd F w w') (hS : ∀ b, S b → ¬ F b) : ∀ (e : Ex) (v : Value), ExV w S e v → ExV w' S e v
  | .num _, _, h => NodeE.upd h hu hS
  | .var _, _, h => NodeE.upd h hu hS
  | .neg a, _, ⟨va, h1, h2⟩ => ⟨va, h1.upd hu hS, ExV.upd hu hS a va h2⟩
  | .bin _ a b, _, ⟨va, vb, h1, h2, h3⟩ => ⟨va, vb, h1.upd hu hS, ExV.upd hu hS a va h2, ExV.upd hu hS b vb h3⟩
theorem ExV.mono (hS : ∀ b, b < w.heap.size → S b → S' b) : ∀ (e : Ex) (v : Value), ExV w S e v → ExV w S' e v
  | .num _, _, h => NodeE.mono h hS
  | .var _, _, h => NodeE.mono h hS
  | .neg a, _, ⟨va, h1, h2⟩ => ⟨va, h1.mono hS, ExV.mono hS a va h2⟩
  | .bin _ a b, _, ⟨va, vb, h1, h2, h3⟩ => ⟨va, vb, h1.mono hS, ExV.mono hS a va h2, ExV.mono hS b vb h3⟩
theorem ExV.ptr : ∀ {e : Ex} {v : Value}, ExV w S e v → ∃ g, v = .pointer (some ⟨g, 0, none⟩)
  | .num _, _, h => ⟨h.choose, h.choose_spec.1⟩
  | .var _, _, h => ⟨h.choose, h.choose_spec.1⟩
  | .neg _, _, ⟨_, h, _⟩ => ⟨h.choose, h.choose_spec.1⟩
  | .bin _ _ _, _, ⟨_, _, h, _⟩ => ⟨h.choose, h.choose_spec.1⟩
end
/-- An expression is told, in blocks of S. -/
def ExR (p : Nat) (C : Cx) (d n : Nat) (B : Nat) (v : Value) (w : World) (a : Ex) (r : List Tok) : Prop := ExV w (B ≤ ·) a v ∧ PsW w p C d n r

section
variable {α : Type} {mk : Nat → α → α → α} {K : List UInt8 → Option Nat} {u : List Tok → Rs α} {g k : Nat} {a : α} {r : List Tok}
theorem chain_none (h : K (txt r) = none) : chain mk K u (g + 1) a r = .ok a r := by
  unfold chain
  rw [h]
theorem chain_some (h : K (txt r) = some k) : chain mk K u (g + 1) a r = (u r.tail).bind fun b r => chain mk K u g (mk k a b) r := by
  conv => lhs; unfold chain
  rw [h]
end
def optV : Option Nat → Value
  | some k => .tuple #[.int .i64 k, .bool true]
  | none => .tuple #[.int .i64 0, .bool false]
set_option maxRecDepth 100000 in
theorem productKind_any (x : List UInt8) (w : World) : Calls Tryz.prog 137 #[.string (strB x)] w fun e w' => e = .returned (optV (prodK x)) ∧ w = w' := by
  generalize hX : optV (prodK x) = X
  replace hX := hide hX
  unfold strB
  go_enter Tryz.func137, Tryz.ntmps137
  go_wp2
  all_goals go_ret2
  all_goals refine ⟨?_, rfl⟩
  all_goals rw [← hX.out]
  all_goals clear hX
  all_goals simp_all [prodK, optV]
set_option maxRecDepth 100000 in
theorem sumKind_any (x : List UInt8) (w : World) : Calls Tryz.prog 128 #[.string (strB x)] w fun e w' => e = .returned (optV (sumK x)) ∧ w = w' := by
  generalize hX : optV (sumK x) = X
  replace hX := hide hX
  unfold strB
  go_enter Tryz.func128, Tryz.ntmps128
  go_wp2
  all_goals go_ret2
  all_goals refine ⟨?_, rfl⟩
  all_goals rw [← hX.out]
  all_goals clear hX
  all_goals simp_all [sumK, optV]
set_option maxRecDepth 100000 in
theorem comparisonKind_any (x : List UInt8) (w : World) : Calls Tryz.prog 149 #[.string (strB x)] w fun e w' => e = .returned (optV (cmpK x)) ∧ w = w' := by
  generalize hX : optV (cmpK x) = X
  replace hX := hide hX
  unfold strB
  go_enter Tryz.func149, Tryz.ntmps149
  go_wp2
  all_goals go_ret2
  all_goals refine ⟨?_, rfl⟩
  all_goals rw [← hX.out]
  all_goals clear hX
  all_goals simp_all [cmpK, optV]

def UnOK (f : Nat) : Prop := ∀ (p : Nat) (C : Cx) (d n : Nat) (r : List Tok) (w : World), PsW w p C d n r → un f d r ≠ .no →
  Calls Tryz.prog 136 #[.pointer (some ⟨p, 0, none⟩)] w fun e w' => Got p C w (ExR p C d n w.heap.size) (un f d r) e w'

def ProdOK (f : Nat) : Prop := ∀ (p : Nat) (C : Cx) (d n : Nat) (r : List Tok) (w : World), PsW w p C d n r → prodOf (un f d) f r ≠ .no →
  Calls Tryz.prog 127 #[.pointer (some ⟨p, 0, none⟩)] w fun e w' => Got p C w (ExR p C d n w.heap.size) (prodOf (un f d) f r) e w'

def SumOK (f : Nat) : Prop := ∀ (p : Nat) (C : Cx) (d n : Nat) (r : List Tok) (w : World), PsW w p C d n r → sumOf (un f d) f r ≠ .no →
  Calls Tryz.prog 115 #[.pointer (some ⟨p, 0, none⟩)] w fun e w' => Got p C w (ExR p C d n w.heap.size) (sumOf (un f d) f r) e w'


set_option maxRecDepth 100000 in
set_option maxHeartbeats 800000 in
theorem product_of (f : Nat) (hU : UnOK f) : ProdOK f := by
  intro p C d n r w h hno
  generalize hX : prodOf (un f d) f r = X at hno ⊢
  have hC := hide (hU p C d n r w h)
  have hU := hide hU
  have hlt := h.lt
  replace hX := hide hX
  replace hno := hide hno
  replace h := hide h
  cases hr : un f d r with
  | no => exact absurd (by rw [← hX.out, prodOf, hr]; rfl) hno.out
  | er r' k' =>
    have hN := hC.out (by rw [hr]; exact fun e => by cases e)
    rw [hr] at hN
    have hX : Hid (X = .er r' k') := hide (by rw [← hX.out, prodOf, hr]; rfl)
    replace hN := hide hN
    clear hr
    go_enter Tryz.func127, Tryz.ntmps127
    go_wp2_with fail
    refine hN.out.mono ?_
    rintro e w' ⟨hu, rfl⟩
    replace hu := hide hu
    go_wp2_with fail
    refine ⟨rfl, ?_⟩
    exact Got.er hu.out hX.out
  | ok a r' =>
    have hN := hC.out (by rw [hr]; exact fun e => by cases e)
    rw [hr] at hN
    have hX : Hid (chain .bin prodK (un f d) f a r' = X) := hide (by rw [← hX.out, prodOf, hr]; rfl)
    replace hN := hide hN
    clear hr hC
    go_enter Tryz.func127, Tryz.ntmps127
    go_wp2_with fail
    refine hN.out.mono ?_
    rintro e w' ⟨hu, v, rfl, hv, h1⟩
    replace hu := hide hu
    replace hv := hide hv
    replace h1 := hide h1
    go_wp2_with fail
    go_loopg [3] f (fun k v wr => ∃ (a : Ex) (r : List Tok), Upd (At p) w wr ∧ ExV wr (w.heap.size ≤ ·) a v ∧ PsW wr p C d n r ∧ chain .bin prodK (un f d) k a r = X)
    case atStart => exact ⟨a, r', hu.out, hv.out, h1.out, hX.out⟩
    case round =>
      obtain ⟨a, r, hu, hv, h1, hX⟩ := hrel
      cases gk with
      | zero => exact absurd hX.symm hno.out
      | succ g =>
        obtain ⟨g1, rfl⟩ := hv.ptr
        have hP := hide (peek_any 0 (by omega) p C d n r wr h1)
        have hf := field_text (hdT C.len r).kind (hdT C.len r).at_ (strB (txt r))
        cases hk : prodK (txt r) with
        | none =>
          have hX : Hid (X = .ok a r) := hide (by rw [← hX, chain_none hk])
          have hK := productKind_any (txt r)
          rw [hk] at hK
          unfold optV at hK
          replace hK := hide hK
          replace hu := hide hu
          replace hv := hide hv
          replace h1 := hide h1
          clear hk
          go_wp2_with fail
          refine hP.out.mono ?_
          rintro e w2 ⟨rfl, hb⟩
          have h2 := hide (h1.out.below hb)
          have hv2 := hide (ExV.upd (F := fun _ => False) (.of_below _ hb) (fun _ _ => id) _ _ hv.out)
          replace hb := hide hb
          rw [List.drop_zero, tokV_def, hdT_text]
          go_wp2_with fail
          refine (hK.out _).mono ?_
          rintro e w3 ⟨rfl, rfl⟩
          go_wp2_with fail
          go_ret
          exact Got.ok (hu.out.then (at_below hb.out)) hX.out ⟨hv2.out, h2.out⟩
        | some k =>
          have hX : Hid (((un f d) r.tail).bind (fun b r => chain .bin prodK (un f d) g (.bin k a b) r) = X) := hide (by rw [← hX, chain_some hk])
          have hne : r ≠ [] := by
            rintro rfl
            cases hk
          have hK := productKind_any (txt r)
          rw [hk] at hK
          unfold optV at hK
          replace hK := hide hK
          replace hu := hide hu
          replace hv := hide hv
          replace h1 := hide h1
          clear hk
          go_wp2_with fail
          refine hP.out.mono ?_
          rintro e w2 ⟨rfl, hb⟩
          have h2 := hide (h1.out.below hb)
          have hv2 := hide (ExV.upd (F := fun _ => False) (.of_below _ hb) (fun _ _ => id) _ _ hv.out)
          replace hb := hide hb
          rw [List.drop_zero, tokV_def, hdT_text]
          go_wp2_with fail
          refine (hK.out _).mono ?_
          rintro e w3 ⟨rfl, rfl⟩
          go_wp2_with fail
          refine (skip_any p C d n r _ h2.out hne).mono ?_
          rintro e w4 ⟨rfl, hu4, h4⟩
          have hv4 := hide (ExV.upd hu4 (fun b hb e => by have := hlt; simp only [At] at e; omega) _ _ hv2.out)
          have hu5 := hide ((hu.out.then (at_below hb.out)).then hu4)
          have hU4 := hU.out p C d n r.tail _ h4
          replace h4 := hide h4
          clear hu4
          go_wp2_with fail
          cases hr : (un f d) r.tail with
          | no => exact absurd (by rw [← hX.out, hr]; rfl) hno.out
          | er r' k' =>
            rw [hr] at hU4
            have hX : Hid (X = .er r' k') := hide (by rw [← hX.out, hr]; rfl)
            refine (hU4 (fun e => by cases e)).mono ?_
            rintro e w6 ⟨hu6, rfl⟩
            replace hu6 := hide hu6
            clear hr hU4
            go_wp2_with fail
            refine ⟨rfl, ?_⟩
            exact Got.er (hu5.out.then hu6.out) hX.out
          | ok b r' =>
            rw [hr] at hU4
            have hX : Hid (chain .bin prodK (un f d) g (.bin k a b) r' = X) := hide (by rw [← hX.out, hr]; rfl)
            refine (hU4 (fun e => by cases e)).mono ?_
            rintro e w6 ⟨hu6, v6, rfl, hv6, h6⟩
            obtain ⟨g2, rfl⟩ := hv6.ptr
            have hw4 := hu5.out.size
            have hva := hide (ExV.upd (Upd.alloc (fun _ => False) _ (.cells #[.int .i64 k, .int .i64 0, .string ⟨#[]⟩, (.pointer (some ⟨g1, 0, none⟩)), (.pointer (some ⟨g2, 0, none⟩))] 63)) (fun _ _ => id) _ _ (ExV.upd hu6 (fun b hb e => by have := hlt; simp only [At] at e; omega) _ _ hv4.out))
            have hvb := hide (ExV.upd (Upd.alloc (fun _ => False) _ (.cells #[.int .i64 k, .int .i64 0, .string ⟨#[]⟩, (.pointer (some ⟨g1, 0, none⟩)), (.pointer (some ⟨g2, 0, none⟩))] 63)) (fun _ _ => id) _ _ (ExV.mono (S' := (w.heap.size ≤ ·)) (fun b _ hb => by omega) _ _ hv6))
            have hg := hide (heap_new w6 (.cells #[.int .i64 k, .int .i64 0, .string ⟨#[]⟩, (.pointer (some ⟨g1, 0, none⟩)), (.pointer (some ⟨g2, 0, none⟩))] 63))
            have hsz : w.heap.size ≤ w6.heap.size := Nat.le_trans hw4 hu6.size
            have h7 := hide (h6.alloc (.cells #[.int .i64 k, .int .i64 0, .string ⟨#[]⟩, (.pointer (some ⟨g1, 0, none⟩)), (.pointer (some ⟨g2, 0, none⟩))] 63))
            have hu7 := hide ((hu5.out.then hu6).then (Upd.alloc (At p) _ (.cells #[.int .i64 k, .int .i64 0, .string ⟨#[]⟩, (.pointer (some ⟨g1, 0, none⟩)), (.pointer (some ⟨g2, 0, none⟩))] 63)))
            clear hr hU4 hu6 hv6 h6
            go_wp2_with fail
            go_roundg g
            case measure => omega
            case rel => exact ⟨.bin k a b, r', hu7.out, ⟨_, _, ⟨_, rfl, hsz, hg.out⟩, hva.out, hvb.out⟩, h7.out, hX.out⟩

set_option maxRecDepth 100000 in
set_option maxHeartbeats 800000 in
theorem sum_of (f : Nat) (hU : ProdOK f) : SumOK f := by
  intro p C d n r w h hno
  generalize hX : sumOf (un f d) f r = X at hno ⊢
  have hC := hide (hU p C d n r w h)
  have hU := hide hU
  have hlt := h.lt
  replace hX := hide hX
  replace hno := hide hno
  replace h := hide h
  cases hr : prodOf (un f d) f r with
  | no => exact absurd (by rw [← hX.out, sumOf, hr]; rfl) hno.out
  | er r' k' =>
    have hN := hC.out (by rw [hr]; exact fun e => by cases e)
    rw [hr] at hN
    have hX : Hid (X = .er r' k') := hide (by rw [← hX.out, sumOf, hr]; rfl)
    replace hN := hide hN
    clear hr
    go_enter Tryz.func115, Tryz.ntmps115
    go_wp2_with fail
    refine hN.out.mono ?_
    rintro e w' ⟨hu, rfl⟩
    replace hu := hide hu
    go_wp2_with fail
    refine ⟨rfl, ?_⟩
    exact Got.er hu.out hX.out
  | ok a r' =>
    have hN := hC.out (by rw [hr]; exact fun e => by cases e)
    rw [hr] at hN
    have hX : Hid (chain .bin sumK (prodOf (un f d) f) f a r' = X) := hide (by rw [← hX.out, sumOf, hr]; rfl)
    replace hN := hide hN
    clear hr hC
    go_enter Tryz.func115, Tryz.ntmps115
    go_wp2_with fail
    refine hN.out.mono ?_
    rintro e w' ⟨hu, v, rfl, hv, h1⟩
    replace hu := hide hu
    replace hv := hide hv
    replace h1 := hide h1
    go_wp2_with fail
    go_loopg [3] f (fun k v wr => ∃ (a : Ex) (r : List Tok), Upd (At p) w wr ∧ ExV wr (w.heap.size ≤ ·) a v ∧ PsW wr p C d n r ∧ chain .bin sumK (prodOf (un f d) f) k a r = X)
    case atStart => exact ⟨a, r', hu.out, hv.out, h1.out, hX.out⟩
    case round =>
      obtain ⟨a, r, hu, hv, h1, hX⟩ := hrel
      cases gk with
      | zero => exact absurd hX.symm hno.out
      | succ g =>
        obtain ⟨g1, rfl⟩ := hv.ptr
        have hP := hide (peek_any 0 (by omega) p C d n r wr h1)
        have hf := field_text (hdT C.len r).kind (hdT C.len r).at_ (strB (txt r))
        cases hk : sumK (txt r) with
        | none =>
          have hX : Hid (X = .ok a r) := hide (by rw [← hX, chain_none hk])
          have hK := sumKind_any (txt r)
          rw [hk] at hK
          unfold optV at hK
          replace hK := hide hK
          replace hu := hide hu
          replace hv := hide hv
          replace h1 := hide h1
          clear hk
          go_wp2_with fail
          refine hP.out.mono ?_
          rintro e w2 ⟨rfl, hb⟩
          have h2 := hide (h1.out.below hb)
          have hv2 := hide (ExV.upd (F := fun _ => False) (.of_below _ hb) (fun _ _ => id) _ _ hv.out)
          replace hb := hide hb
          rw [List.drop_zero, tokV_def, hdT_text]
          go_wp2_with fail
          refine (hK.out _).mono ?_
          rintro e w3 ⟨rfl, rfl⟩
          go_wp2_with fail
          go_ret
          exact Got.ok (hu.out.then (at_below hb.out)) hX.out ⟨hv2.out, h2.out⟩
        | some k =>
          have hX : Hid (((prodOf (un f d) f) r.tail).bind (fun b r => chain .bin sumK (prodOf (un f d) f) g (.bin k a b) r) = X) := hide (by rw [← hX, chain_some hk])
          have hne : r ≠ [] := by
            rintro rfl
            cases hk
          have hK := sumKind_any (txt r)
          rw [hk] at hK
          unfold optV at hK
          replace hK := hide hK
          replace hu := hide hu
          replace hv := hide hv
          replace h1 := hide h1
          clear hk
          go_wp2_with fail
          refine hP.out.mono ?_
          rintro e w2 ⟨rfl, hb⟩
          have h2 := hide (h1.out.below hb)
          have hv2 := hide (ExV.upd (F := fun _ => False) (.of_below _ hb) (fun _ _ => id) _ _ hv.out)
          replace hb := hide hb
          rw [List.drop_zero, tokV_def, hdT_text]
          go_wp2_with fail
          refine (hK.out _).mono ?_
          rintro e w3 ⟨rfl, rfl⟩
          go_wp2_with fail
          refine (skip_any p C d n r _ h2.out hne).mono ?_
          rintro e w4 ⟨rfl, hu4, h4⟩
          have hv4 := hide (ExV.upd hu4 (fun b hb e => by have := hlt; simp only [At] at e; omega) _ _ hv2.out)
          have hu5 := hide ((hu.out.then (at_below hb.out)).then hu4)
          have hU4 := hU.out p C d n r.tail _ h4
          replace h4 := hide h4
          clear hu4
          go_wp2_with fail
          cases hr : (prodOf (un f d) f) r.tail with
          | no => exact absurd (by rw [← hX.out, hr]; rfl) hno.out
          | er r' k' =>
            rw [hr] at hU4
            have hX : Hid (X = .er r' k') := hide (by rw [← hX.out, hr]; rfl)
            refine (hU4 (fun e => by cases e)).mono ?_
            rintro e w6 ⟨hu6, rfl⟩
            replace hu6 := hide hu6
            clear hr hU4
            go_wp2_with fail
            refine ⟨rfl, ?_⟩
            exact Got.er (hu5.out.then hu6.out) hX.out
          | ok b r' =>
            rw [hr] at hU4
            have hX : Hid (chain .bin sumK (prodOf (un f d) f) g (.bin k a b) r' = X) := hide (by rw [← hX.out, hr]; rfl)
            refine (hU4 (fun e => by cases e)).mono ?_
            rintro e w6 ⟨hu6, v6, rfl, hv6, h6⟩
            obtain ⟨g2, rfl⟩ := hv6.ptr
            have hw4 := hu5.out.size
            have hva := hide (ExV.upd (Upd.alloc (fun _ => False) _ (.cells #[.int .i64 k, .int .i64 0, .string ⟨#[]⟩, (.pointer (some ⟨g1, 0, none⟩)), (.pointer (some ⟨g2, 0, none⟩))] 63)) (fun _ _ => id) _ _ (ExV.upd hu6 (fun b hb e => by have := hlt; simp only [At] at e; omega) _ _ hv4.out))
            have hvb := hide (ExV.upd (Upd.alloc (fun _ => False) _ (.cells #[.int .i64 k, .int .i64 0, .string ⟨#[]⟩, (.pointer (some ⟨g1, 0, none⟩)), (.pointer (some ⟨g2, 0, none⟩))] 63)) (fun _ _ => id) _ _ (ExV.mono (S' := (w.heap.size ≤ ·)) (fun b _ hb => by omega) _ _ hv6))
            have hg := hide (heap_new w6 (.cells #[.int .i64 k, .int .i64 0, .string ⟨#[]⟩, (.pointer (some ⟨g1, 0, none⟩)), (.pointer (some ⟨g2, 0, none⟩))] 63))
            have hsz : w.heap.size ≤ w6.heap.size := Nat.le_trans hw4 hu6.size
            have h7 := hide (h6.alloc (.cells #[.int .i64 k, .int .i64 0, .string ⟨#[]⟩, (.pointer (some ⟨g1, 0, none⟩)), (.pointer (some ⟨g2, 0, none⟩))] 63))
            have hu7 := hide ((hu5.out.then hu6).then (Upd.alloc (At p) _ (.cells #[.int .i64 k, .int .i64 0, .string ⟨#[]⟩, (.pointer (some ⟨g1, 0, none⟩)), (.pointer (some ⟨g2, 0, none⟩))] 63)))
            clear hr hU4 hu6 hv6 h6
            go_wp2_with fail
            go_roundg g
            case measure => omega
            case rel => exact ⟨.bin k a b, r', hu7.out, ⟨_, _, ⟨_, rfl, hsz, hg.out⟩, hva.out, hvb.out⟩, h7.out, hX.out⟩
end Go.Proofs.YteplkhgaoaphhaaGreatDoor
