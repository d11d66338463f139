/- Part 13 of the walks (merged): GPsJ, RfJ, GPsGd, RfZ0. -/
import Derived.Test.YtiiihpokpfhclaaDoorMs10
import Derived.Test.YtiiihpokpfhclaaDoorMs12
import Derived.Test.YtiiihpokpfhclaaDoorMs8
/- What a statement's method tells; the call's own variables. -/
namespace Go.Proofs.YtiiihpokpfhclaaDoor
open Go Go.RowKit Go.Lib
section
variable {w w' W : World} {p g : Nat} {C : Cx} {d n : Nat} {r : List Tok} {F : Nat → Prop}
theorem Upd.setNew (h : Upd F W w) (hg : W.heap.size ≤ g) (o : Nat) (u : Value) : Upd F W (w.setCell ⟨g, o, none⟩ u) :=
  h.trans (Upd.set w (F := At g) (a := ⟨g, o, none⟩) rfl u) fun k hk e => by simp only [At] at e; omega
theorem set_upd (w : World) (g o : Nat) (u : Value) : Upd (At g) w (w.setCell ⟨g, o, none⟩ u) := Upd.set w (F := At g) (a := ⟨g, o, none⟩) rfl u
end
theorem Upd.setOn {W w : World} {g : Nat} (h : Upd (At g) W w) (o : Nat) (u : Value) : Upd (At g) W (w.setCell ⟨g, o, none⟩ u) := h.then (set_upd w g o u)
theorem slc_nil (w : World) (S : Nat → Prop) : SlcV w S 0 [] (.slice none 0 0) := ⟨none, 0, rfl, Nat.le_refl _, Nat.zero_le _, .inl rfl⟩
theorem list_nil (w : World) (S : Nat → Prop) : ListV w S ArgP 3 [] (.slice none 0 0) := ⟨[], slc_nil w S, trivial⟩
/-- A statement without blocks. -/
theorem sm_flat {w : World} {S : Nat → Prop} {k : Nat} {x y : List UInt8} {e f : Option Ex} {c : Option Cn} {args : List Ex} {a : Nat} {ve vf vc va : Value} (he : OptE w S e ve) (hf : OptE w S f vf) (hc : OptC w S c vc) (ha : ListV w S ArgP 3 args va) :
    SmV w S (.mk k x y e f c args [] [] a) [.int .i64 k, .string (strB x), .string (strB y), ve, vf, vc, va, .slice none 0 0, .slice none 0 0, .int .i64 a] := by
  unfold SmV
  refine ⟨ve, vf, vc, va, _, _, [], [], rfl, he, hf, hc, ha, slc_nil w S, ?_, slc_nil w S, ?_⟩
  · unfold SmsV; rfl
  · unfold SmsV; rfl
end Go.Proofs.YtiiihpokpfhclaaDoor
/- The document's parser: alive, with so many tokens left; or dead, behind its first error; what its small functions come to. -/
namespace Go.Proofs.YtiiihpokpfhclaaDoor
open Go Go.RowKit

/-- It has the tokens r left, and no error. -/
def Lv (w : World) (p : Nat) (C : Cx) (a d n : Nat) (r : List Tok) : Prop := ∃ i, C.ts.drop i = r ∧ RfW w p C i 0 a d n
/-- Its first error is k, at a. -/
def Dead (w : World) (p : Nat) (C : Cx) (k a d n : Nat) : Prop := k ≠ 0 ∧ ∃ i, RfW w p C i k a d n
section
variable {w w' : World} {p : Nat} {C : Cx} {k a d n : Nat} {r : List Tok}
theorem Lv.lt (h : Lv w p C a d n r) : p < w.heap.size := by obtain ⟨i, -, h⟩ := h; exact h.lt
theorem Dead.lt (h : Dead w p C k a d n) : p < w.heap.size := by obtain ⟨-, i, h⟩ := h; exact h.lt
theorem Lv.below (h : Lv w p C a d n r) (hb : Below w.heap.size w w') : Lv w' p C a d n r := by obtain ⟨i, e, h⟩ := h; exact ⟨i, e, h.below hb⟩
theorem Dead.below (h : Dead w p C k a d n) (hb : Below w.heap.size w w') : Dead w' p C k a d n := by obtain ⟨e, i, h⟩ := h; exact ⟨e, i, h.below hb⟩
theorem Lv.alloc (h : Lv w p C a d n r) (o : Obj) : Lv (w.alloc o) p C a d n r := by obtain ⟨i, e, h⟩ := h; exact ⟨i, e, h.alloc o⟩
theorem Dead.alloc (h : Dead w p C k a d n) (o : Obj) : Dead (w.alloc o) p C k a d n := by obtain ⟨e, i, h⟩ := h; exact ⟨e, i, h.alloc o⟩
theorem Lv.upd {F : Nat → Prop} (h : Lv w p C a d n r) (hu : Upd F w w') (hp : ¬ F p) (hF : ∀ k, C.vt.ownBlock = some k → ¬ F k) : Lv w' p C a d n r := by obtain ⟨i, e, h⟩ := h; exact ⟨i, e, h.upd hu hp hF⟩
theorem Dead.upd {F : Nat → Prop} (h : Dead w p C k a d n) (hu : Upd F w w') (hp : ¬ F p) (hF : ∀ k, C.vt.ownBlock = some k → ¬ F k) : Dead w' p C k a d n := by obtain ⟨e, i, h⟩ := h; exact ⟨e, i, h.upd hu hp hF⟩
theorem Lv.ok (h : Lv w p C a d n r) : CxOk C := by obtain ⟨i, -, h⟩ := h; exact h.ok
theorem Lv.hd (h : Lv w p C a d n r) : d ≤ 40 := by obtain ⟨i, -, h⟩ := h; exact h.hd
theorem at_below6 (p : Nat) {w w' : World} (hb : Below w.heap.size w w') : Upd (At p) w w' := .of_below _ hb
/-- A word with a sign that is no digit is no number. -/
theorem isQ_nx {i : Nat} {x : List UInt8} (hok : CxOk C) (hx : ∃ c ∈ x, digitB c.toNat = false) : isQ C i 0 x = nx (C.ts.drop i) x := by
  unfold isQ
  show (true && _ && _) = _
  rw [Bool.true_and]
  by_cases hn : isNum (C.ts.drop i) = true
  · rw [hn]
    have : nx (C.ts.drop i) x = false := by
      cases hr : C.ts.drop i with
      | nil => rw [hr] at hn; cases hn
      | cons t r =>
        rw [hr] at hn
        have hg := hok.good t (List.mem_of_mem_drop (i := i) (by rw [hr]; exact List.mem_cons_self ..))
        have hk := (hg.num (beq_iff_eq.1 hn)).1
        show (t.text == x) = false
        rw [beq_eq_false_iff_ne]
        rintro rfl
        obtain ⟨c, hc, hd⟩ := hx
        rw [hk c hc] at hd
        cases hd
    rw [this]; rfl
  · have : isNum (C.ts.drop i) = false := by simpa using hn
    rw [this]; simp
theorem isQ_dead {i e : Nat} {x : List UInt8} (he : e ≠ 0) : isQ C i e x = false := by unfold isQ; rw [beq_false_of_ne he]; rfl
theorem nmQ_nm {i : Nat} : nmQ C i 0 = isNm (C.ts.drop i) := by unfold nmQ; rfl
theorem nmQ_dead {i e : Nat} (he : e ≠ 0) : nmQ C i e = false := by unfold nmQ; rw [beq_false_of_ne he]; rfl
theorem drop_tl {i : Nat} : C.ts.drop (i + 1) = (C.ts.drop i).tail := by rw [List.tail_drop]
theorem isL (x : List UInt8) (hx : x ≠ []) (hd : ∃ c ∈ x, digitB c.toNat = false) (h : Lv w p C a d n r) :
    Calls Tryd.prog 27 #[.pointer (some ⟨p, 0, none⟩), .string (strB x)] w fun e w' => e = .returned (.bool (nx r x)) ∧ Below w.heap.size w w' := by
  obtain ⟨i, rfl, h⟩ := h
  rw [← isQ_nx h.ok hd]
  exact is_any x hx p w 0 a d n i C h
theorem isD (x : List UInt8) (hx : x ≠ []) (h : Dead w p C k a d n) :
    Calls Tryd.prog 27 #[.pointer (some ⟨p, 0, none⟩), .string (strB x)] w fun e w' => e = .returned (.bool false) ∧ Below w.heap.size w w' := by
  obtain ⟨he, i, h⟩ := h
  rw [← isQ_dead (C := C) (i := i) (x := x) he]
  exact is_any x hx p w k a d n i C h
theorem takeL (x : List UInt8) (hx : x ≠ []) (hd : ∃ c ∈ x, digitB c.toNat = false) (h : Lv w p C a d n r) :
    Calls Tryd.prog 25 #[.pointer (some ⟨p, 0, none⟩), .string (strB x)] w fun e w' => e = .returned (.bool (nx r x)) ∧ Upd (At p) w w' ∧ Lv w' p C a d n (if nx r x = true then r.tail else r) := by
  obtain ⟨i, rfl, h⟩ := h
  have hq := isQ_nx (i := i) h.ok hd
  refine (take_any x hx p w 0 a d n i C h).mono ?_
  rintro e w' ⟨rfl, hu, h1⟩
  rw [hq] at h1 ⊢
  refine ⟨rfl, hu, _, ?_, h1⟩
  split
  · exact drop_tl
  · rfl
theorem takeD (x : List UInt8) (hx : x ≠ []) (h : Dead w p C k a d n) :
    Calls Tryd.prog 25 #[.pointer (some ⟨p, 0, none⟩), .string (strB x)] w fun e w' => e = .returned (.bool false) ∧ Upd (At p) w w' ∧ Dead w' p C k a d n := by
  obtain ⟨he, i, h⟩ := h
  refine (take_any x hx p w k a d n i C h).mono ?_
  rintro e w' ⟨rfl, hu, h1⟩
  rw [isQ_dead he] at h1 ⊢
  exact ⟨rfl, hu, he, _, h1⟩
theorem wantL (x : List UInt8) (hx : x ≠ []) (hd : ∃ c ∈ x, digitB c.toNat = false) (h : Lv w p C a d n r) :
    Calls Tryd.prog 23 #[.pointer (some ⟨p, 0, none⟩), .string (strB x)] w fun e w' => e = .returned (.tuple #[]) ∧ Upd (At p) w w' ∧ if nx r x = true then Lv w' p C a d n r.tail else Dead w' p C 51 (atOf C.len r) d n := by
  obtain ⟨i, rfl, h⟩ := h
  have hq := isQ_nx (i := i) h.ok hd
  refine (want_any x hx p w 0 a d n i C h).mono ?_
  rintro e w' ⟨rfl, hu, h1⟩
  rw [hq] at h1
  refine ⟨rfl, hu, ?_⟩
  split
  · rename_i hx1
    rw [if_pos hx1] at h1
    exact ⟨_, drop_tl, h1⟩
  · rename_i hx1
    rw [if_neg hx1] at h1
    exact ⟨by decide, i, h1⟩
theorem wantD (x : List UInt8) (hx : x ≠ []) (h : Dead w p C k a d n) :
    Calls Tryd.prog 23 #[.pointer (some ⟨p, 0, none⟩), .string (strB x)] w fun e w' => e = .returned (.tuple #[]) ∧ Upd (At p) w w' ∧ Dead w' p C k a d n := by
  obtain ⟨he, i, h⟩ := h
  refine (want_any x hx p w k a d n i C h).mono ?_
  rintro e w' ⟨rfl, hu, h1⟩
  rw [isQ_dead he, if_neg (by decide)] at h1
  have e1 : errQ k 51 = k := if_neg he
  have e2 : atQ C i k a = a := if_neg he
  rw [e1, e2] at h1
  exact ⟨rfl, hu, he, _, h1⟩
theorem namedL (h : Lv w p C a d n r) : Calls Tryd.prog 52 #[.pointer (some ⟨p, 0, none⟩)] w fun e w' => e = .returned (.bool (isNm r)) ∧ Below w.heap.size w w' := by
  obtain ⟨i, rfl, h⟩ := h
  rw [← nmQ_nm]
  exact named_any p w 0 a d n i C h
theorem namedD (h : Dead w p C k a d n) : Calls Tryd.prog 52 #[.pointer (some ⟨p, 0, none⟩)] w fun e w' => e = .returned (.bool false) ∧ Below w.heap.size w w' := by
  obtain ⟨he, i, h⟩ := h
  rw [← nmQ_dead (C := C) (i := i) he]
  exact named_any p w k a d n i C h
theorem failL (k : Nat) (hk : k ≠ 0) (h : Lv w p C a d n r) : Calls Tryd.prog 29 #[.pointer (some ⟨p, 0, none⟩), .int .i64 k] w fun e w' => e = .returned (.tuple #[]) ∧ Upd (At p) w w' ∧ Dead w' p C k (atOf C.len r) d n := by
  obtain ⟨i, rfl, h⟩ := h
  refine (fail_0 k p w a d n i C h).mono ?_
  rintro e w' ⟨rfl, hu, h1⟩
  exact ⟨rfl, hu, hk, i, h1⟩
theorem failD (k' : Nat) (h : Dead w p C k a d n) : Calls Tryd.prog 29 #[.pointer (some ⟨p, 0, none⟩), .int .i64 k'] w fun e w' => e = .returned (.tuple #[]) ∧ Upd (At p) w w' ∧ Dead w' p C k a d n := by
  obtain ⟨he, i, h⟩ := h
  refine (fail_e k' p w k a d n i C h he).mono ?_
  rintro e w' ⟨rfl, rfl⟩
  exact ⟨rfl, .refl _ _, he, i, h⟩
theorem nameL (h : Lv w p C a d n r) : Calls Tryd.prog 24 #[.pointer (some ⟨p, 0, none⟩)] w fun e w' => Upd (At p) w w' ∧ if isNm r = true then e = .returned (.string (strB (txt r))) ∧ Lv w' p C a d n r.tail else e = .returned (.string ⟨#[]⟩) ∧ Dead w' p C 51 (atOf C.len r) d n := by
  obtain ⟨i, rfl, h⟩ := h
  cases hq : nmQ C i 0 with
  | true =>
    refine (name_yes p w a d n i C h hq).mono ?_
    rintro e w' ⟨rfl, hu, h1⟩
    refine ⟨hu, ?_⟩
    rw [if_pos (by rw [← nmQ_nm]; exact hq)]
    exact ⟨rfl, _, drop_tl, h1⟩
  | false =>
    refine (name_no p w 0 a d n i C h hq).mono ?_
    rintro e w' ⟨rfl, hu, h1⟩
    refine ⟨hu, ?_⟩
    rw [if_neg (by rw [← nmQ_nm, hq]; decide)]
    exact ⟨rfl, by decide, _, h1⟩
theorem nameD (h : Dead w p C k a d n) : Calls Tryd.prog 24 #[.pointer (some ⟨p, 0, none⟩)] w fun e w' => e = .returned (.string ⟨#[]⟩) ∧ Upd (At p) w w' ∧ Dead w' p C k a d n := by
  obtain ⟨he, i, h⟩ := h
  refine (name_no p w k a d n i C h (nmQ_dead he)).mono ?_
  rintro e w' ⟨rfl, hu, h1⟩
  have e1 : errQ k 51 = k := if_neg he
  have e2 : atQ C i k a = a := if_neg he
  rw [e1, e2] at h1
  exact ⟨rfl, hu, he, _, h1⟩
theorem openL (h : Lv w p C a d n r) : Calls Tryd.prog 28 #[.pointer (some ⟨p, 0, none⟩)] w fun e w' => Upd (At p) w w' ∧ if d = 40 then e = .returned (.bool false) ∧ Dead w' p C 52 (atOf C.len r) d n else e = .returned (.bool true) ∧ Lv w' p C a (d + 1) n r := by
  obtain ⟨i, rfl, h⟩ := h
  have hd := h.hd
  by_cases h4 : d = 40
  · subst h4
    refine (open_deep p w a n i C h).mono ?_
    rintro e w' ⟨rfl, hu, h1⟩
    refine ⟨hu, ?_⟩
    rw [if_pos rfl]
    exact ⟨rfl, by decide, i, h1⟩
  · refine (open_ok p w a d n i C h (by omega)).mono ?_
    rintro e w' ⟨rfl, hu, h1⟩
    refine ⟨hu, ?_⟩
    rw [if_neg h4]
    exact ⟨rfl, i, rfl, h1⟩
/-- One token further on. -/
theorem Lv.inc (h : Lv w p C a d n r) (hr : r ≠ []) : ∃ i : Nat, w.cell? ⟨p, 1, none⟩ = some (.int .i64 i) ∧ w.frozen? ⟨p, 1, none⟩ = false ∧ IntKind.i64.wrap ((i : Int) + 1) = (i : Int) + 1 ∧ Lv (w.setCell ⟨p, 1, none⟩ (.int .i64 ((i : Int) + 1))) p C a d n r.tail := by
  obtain ⟨i, rfl, h⟩ := h
  have hl : i < C.ts.length := by
    rcases Nat.lt_or_ge i C.ts.length with h1 | h1
    · exact h1
    · exact absurd (List.drop_eq_nil_of_le h1) hr
  have hs := h.ok.small
  refine ⟨i, (cell_at h.heap 1).trans rfl, frozen_at h.heap 1, by simp [IntKind.wrap, IntKind.bits, IntKind.signed]; omega, i + 1, drop_tl, ?_⟩
  exact h.set (i' := i + 1) 1 (.int .i64 ((i : Int) + 1)) (heap_set h.heap 1 _) hl h.hd h.hn
/-- One less that is open. -/
theorem Lv.dec (h : Lv w p C a (d + 1) n r) : w.cell? ⟨p, 5, none⟩ = some (.int .i64 ((d : Int) + 1)) ∧ w.frozen? ⟨p, 5, none⟩ = false ∧ IntKind.i64.wrap (d : Int) = (d : Int) ∧ Lv (w.setCell ⟨p, 5, none⟩ (.int .i64 (d : Int))) p C a d n r := by
  obtain ⟨i, rfl, h⟩ := h
  have hd := h.hd
  refine ⟨(cell_at h.heap 5).trans rfl, frozen_at h.heap 5, by simp [IntKind.wrap, IntKind.bits, IntKind.signed]; omega, i, rfl, ?_⟩
  exact h.set (d' := d) 5 (.int .i64 (d : Int)) (heap_set h.heap 5 _) h.hi (by omega) h.hn
theorem Dead.dec (h : Dead w p C k a (d + 1) n) : w.cell? ⟨p, 5, none⟩ = some (.int .i64 ((d : Int) + 1)) ∧ w.frozen? ⟨p, 5, none⟩ = false ∧ IntKind.i64.wrap (d : Int) = (d : Int) ∧ Dead (w.setCell ⟨p, 5, none⟩ (.int .i64 (d : Int))) p C k a d n := by
  obtain ⟨he, i, h⟩ := h
  have hd := h.hd
  refine ⟨(cell_at h.heap 5).trans rfl, frozen_at h.heap 5, by simp [IntKind.wrap, IntKind.bits, IntKind.signed]; omega, he, i, ?_⟩
  exact h.set (d' := d) 5 (.int .i64 (d : Int)) (heap_set h.heap 5 _) h.hi (by omega) h.hn
theorem Lv.err (h : Lv w p C a d n r) : w.cell? ⟨p, 3, none⟩ = some (.int .i64 0) := by
  obtain ⟨i, rfl, h⟩ := h
  exact (cell_at h.heap 3).trans rfl
theorem Dead.err (h : Dead w p C k a d n) : w.cell? ⟨p, 3, none⟩ = some (.int .i64 k) ∧ ((k : Int) == 0) = false := by
  obtain ⟨he, i, h⟩ := h
  exact ⟨(cell_at h.heap 3).trans rfl, beq_false_of_ne (by omega)⟩
end
/-- What a call that reads comes to, from no error. -/
def RfL {α : Type} (V : World → (Nat → Prop) → α → Value → Prop) (J : Value → Prop) (p : Nat) (C : Cx) (a d n : Nat) (w : World) (X : Rs α) (e : Ending) (w' : World) : Prop :=
  Upd (At p) w w' ∧ ∃ v, e = .returned v ∧ match X with
    | .ok x r => V w' (w.heap.size ≤ ·) x v ∧ Lv w' p C a d n r
    | .er r k => J v ∧ Dead w' p C k (atOf C.len r) d n
    | .no => False
def JP (v : Value) : Prop := ∃ q, v = .pointer q
abbrev RfE := RfL ExV JP
abbrev RfC := RfL CnV JP
end Go.Proofs.YtiiihpokpfhclaaDoor
/- What lex tells: each token is as the grammar takes it. -/
namespace Go.Proofs.YtiiihpokpfhclaaDoor

def StOk (m : Nat) : St → Prop
  | .word k _ w => k ≤ 2 ∧ w ≠ [] ∧ w.length ≤ m ∧ (k = 0 → ∃ c ∈ w, digitB c.toNat = false) ∧ (k = 1 → ∀ c ∈ w, digitB c.toNat = true)
  | _ => True
theorem ops_name : ∀ w ∈ opsL, ∃ c ∈ w, digitB c.toNat = false := by
  unfold opsL
  simp only [List.forall_mem_cons, List.not_mem_nil, false_imp_iff, implies_true, and_true]
  decide
theorem stOk_begin (i : Nat) (c : UInt8) {m : Nat} (hm : 1 ≤ m) : StOk m (St.begin i c) := by
  unfold St.begin
  split
  · trivial
  split
  · trivial
  split
  · rename_i h
    refine ⟨by omega, by simp, by simpa using hm, fun _ => ⟨c, by simp, ?_⟩, fun h => by cases h⟩
    unfold letterB at h
    unfold digitB
    rw [decide_eq_true_iff] at h
    rw [decide_eq_false_iff_not]
    omega
  split
  · rename_i h
    refine ⟨by omega, by simp, by simpa using hm, fun h => (by cases h), fun _ => ?_⟩
    intro d hd
    rw [List.mem_singleton] at hd
    subst hd
    exact h
  · exact ⟨by omega, by simp, by simpa using hm, fun h => (by cases h), fun h => by cases h⟩
theorem stOk_push {m : Nat} : ∀ {st : St} {c : UInt8}, StOk m st → st.goes c = true → StOk (m + 1) (st.push c)
  | .blank, _, _, _ => trivial
  | .com, _, _, _ => trivial
  | .word k fr w, c, ⟨h1, h2, h3, h4, h5⟩, hg => by
    refine ⟨h1, by simp, by simp; omega, fun hk => ?_, fun hk => ?_⟩
    · obtain ⟨d, hd, h6⟩ := h4 hk
      exact ⟨d, by simp [hd], h6⟩
    · subst hk
      intro d hd
      rw [List.mem_append, List.mem_singleton] at hd
      rcases hd with hd | rfl
      · exact h5 rfl d hd
      · exact hg
theorem fin_good {m : Nat} (hM : m ≤ 1000000) {ts ts' : List Tok} {c : UInt8} : ∀ {st : St}, StOk m st → st.fin ts c = .ok ts' → (∀ t ∈ ts, Good t) → (∀ t ∈ ts', Good t) ∧ ts'.length ≤ ts.length + 1
  | .blank, _, h, hg => by
    injection h with h; subst h
    exact ⟨hg, by omega⟩
  | .com, _, h, hg => by
    injection h with h; subst h
    exact ⟨hg, by omega⟩
  | .word k fr w, ⟨h1, h2, h3, h4, h5⟩, h, hg => by
    by_cases hf : fault k w c = 0
    · rw [fin_ok hf] at h
      injection h with h; subst h
      refine ⟨fun t ht => ?_, by simp⟩
      rw [List.mem_append, List.mem_singleton] at ht
      rcases ht with ht | rfl
      · exact hg t ht
      · refine ⟨h1, h2, by show w.length ≤ _; omega, fun hk => ?_, fun hk => ?_⟩
        · have hk : k = 1 := hk
          subst hk
          refine ⟨h5 rfl, ?_⟩
          have hf : faultN w c = 0 := hf
          unfold faultN at hf
          split at hf
          · cases hf
          · show valL w ≤ _
            omega
        · have hk : k ≠ 1 := hk
          by_cases h0 : k = 0
          · exact h4 h0
          · have h2 : k = 2 := by omega
            subst h2
            have hf : (if isOp w = true then 0 else 50) = 0 := hf
            split at hf
            · rename_i ho
              exact ops_name w (by unfold isOp at ho; simpa using ho)
            · cases hf
    · rw [fin_err rfl hf] at h
      cases h
theorem runT_good : ∀ (r : List UInt8) (st : St) (i m : Nat) (ts ts' : List Tok), runT st i ts r = .ok ts' → StOk m st → m + r.length ≤ 1000000 → (∀ t ∈ ts, Good t) → (∀ t ∈ ts', Good t) ∧ ts'.length ≤ ts.length + r.length
  | [], st, i, m, ts, ts', h, _, _, hg => by
    unfold runT at h
    injection h with h; subst h
    exact ⟨hg, by omega⟩
  | c :: r, st, i, m, ts, ts', h, hst, hm, hg => by
    unfold runT at h
    simp only [List.length_cons] at hm ⊢
    split at h
    · rename_i hgo
      obtain ⟨h1, h2⟩ := runT_good r (st.push c) (i + 1) (m + 1) ts ts' h (stOk_push hst hgo) (by omega) hg
      exact ⟨h1, by omega⟩
    · split at h
      · cases h
      · rename_i ts2 hfin
        obtain ⟨h1, h2⟩ := fin_good (m := m) (by omega) hst hfin hg
        obtain ⟨h3, h4⟩ := runT_good r (St.begin i c) (i + 1) (m + 1) ts2 ts' h (stOk_begin i c (by omega)) (by omega) h1
        exact ⟨h3, by omega⟩
theorem lexT_good {l : List UInt8} {ts : List Tok} (h : lexT l = .ok ts) : (∀ t ∈ ts, Good t) ∧ ts.length ≤ 4097 := by
  unfold lexT at h
  split at h
  · cases h
  · have hl : (l ++ [10]).length ≤ 4097 := by simp; omega
    obtain ⟨h1, h2⟩ := runT_good (l ++ [10]) .blank 0 0 [] ts h trivial (by omega) (fun _ h => by cases h)
    exact ⟨h1, by simp at h2; simp at hl; omega⟩
end Go.Proofs.YtiiihpokpfhclaaDoor
/- The parser as Func makes it. -/
namespace Go.Proofs.YtiiihpokpfhclaaDoor
open Go Go.RowKit Go.Lib

/-- The parser as Func makes it, behind Tokens. -/
theorem Lv.start {w w1 : World} {l : List UInt8} {ts : List Tok} {v : Value} (hx : lexT l = .ok ts) (hv : ToksR w1 w.heap.size v ts) (hb : Below w.heap.size w w1) :
    Lv (w1.alloc (.cells #[v, .int .i64 0, .int .i64 l.length, .int .i64 0, .int .i64 0, .int .i64 0, .int .i64 0] 70)) w1.heap.size ⟨v, ts, l.length, w.heap.size⟩ 0 0 0 ts := by
  obtain ⟨h1, h2⟩ := lexT_good hx
  refine ⟨0, rfl, ?_, heap_new _ _, Nat.zero_le _, by omega, by omega, ⟨by show ts.length ≤ _; omega, h1⟩⟩
  exact (Upd.alloc (fun _ => False) w1 _).own hv fun _ _ => id
end Go.Proofs.YtiiihpokpfhclaaDoor
