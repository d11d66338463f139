/- Part 8 of the walks (merged): PsG. -/
import Derived.Test.YteplkhgaoaphhaaGreatDoorM7
/- Conditions in memory; walks of the parser's methods for them. Written by mkcond.py. -/
namespace Go.Proofs.YteplkhgaoaphhaaGreatDoor
open Go Go.RowKit Go.Lib

/-- A node of a condition. -/
def NodeC (w : World) (S : Nat → Prop) (v : Value) (k : Int) (va vb vp vq : Value) (s : ByteArray) : Prop :=
  ∃ g, v = .pointer (some ⟨g, 0, none⟩) ∧ S g ∧ w.heap[g]? = some (.cells #[.int .i64 k, va, vb, vp, vq, .string s] 138 (0, 0))
/-- A condition in memory, in blocks of S. -/
def CnV (w : World) (S : Nat → Prop) : Cn → Value → Prop
  | .cmp k a b, v => ∃ va vb, NodeC w S v k va vb (.pointer none) (.pointer none) ⟨#[]⟩ ∧ ExV w S a va ∧ ExV w S b vb
  | .null s, v => NodeC w S v 9 (.pointer none) (.pointer none) (.pointer none) (.pointer none) (strB s)
  | .not c, v => ∃ vp, NodeC w S v 8 (.pointer none) (.pointer none) vp (.pointer none) ⟨#[]⟩ ∧ CnV w S c vp
  | .both k c c2, v => ∃ vp vq, NodeC w S v k (.pointer none) (.pointer none) vp vq ⟨#[]⟩ ∧ CnV w S c vp ∧ CnV w S c2 vq
section
variable {w w' : World} {S S' F : Nat → Prop}
theorem NodeC.upd {v va vb vp vq : Value} {k : Int} {s : ByteArray} (h : NodeC w S v k va vb vp vq s) (hu : Upd F w w') (hS : ∀ b, S b → ¬ F b) : NodeC w' S v k va vb vp vq s := by
  obtain ⟨g, h1, h2, h3⟩ := h
  exact ⟨g, h1, h2, hu.heap h3 (hS g h2)⟩
theorem NodeC.mono {v va vb vp vq : Value} {k : Int} {s : ByteArray} (h : NodeC w S v k va vb vp vq s) (hS : ∀ b, b < w.heap.size → S b → S' b) : NodeC w S' v k va vb vp vq s := by
  obtain ⟨g, h1, h2, h3⟩ := h
  exact ⟨g, h1, hS g (Array.getElem?_eq_some_iff.1 h3).1 h2, h3⟩
theorem CnV.upd (hu : Upd F w w') (hS : ∀ b, S b → ¬ F b) : ∀ (e : Cn) (v : Value), CnV w S e v → CnV w' S e v
  | .cmp _ a b, _, ⟨va, vb, h1, h2, h3⟩ => ⟨va, vb, h1.upd hu hS, ExV.upd hu hS a va h2, ExV.upd hu hS b vb h3⟩
  | .null _, _, h => NodeC.upd h hu hS
  | .not a, _, ⟨va, h1, h2⟩ => ⟨va, h1.upd hu hS, CnV.upd hu hS a va h2⟩
  | .both _ a b, _, ⟨va, vb, h1, h2, h3⟩ => ⟨va, vb, h1.upd hu hS, CnV.upd hu hS a va h2, CnV.upd hu hS b vb h3⟩
theorem CnV.mono (hS : ∀ b, b < w.heap.size → S b → S' b) : ∀ (e : Cn) (v : Value), CnV w S e v → CnV w S' e v
  | .cmp _ a b, _, ⟨va, vb, h1, h2, h3⟩ => ⟨va, vb, h1.mono hS, ExV.mono hS a va h2, ExV.mono hS b vb h3⟩
  | .null _, _, h => NodeC.mono h hS
  | .not a, _, ⟨va, h1, h2⟩ => ⟨va, h1.mono hS, CnV.mono hS a va h2⟩
  | .both _ a b, _, ⟨va, vb, h1, h2, h3⟩ => ⟨va, vb, h1.mono hS, CnV.mono hS a va h2, CnV.mono hS b vb h3⟩
theorem CnV.ptr : ∀ {e : Cn} {v : Value}, CnV w S e v → ∃ g, v = .pointer (some ⟨g, 0, none⟩)
  | .cmp _ _ _, _, ⟨_, _, h, _⟩ => ⟨h.choose, h.choose_spec.1⟩
  | .null _, _, h => ⟨h.choose, h.choose_spec.1⟩
  | .not _, _, ⟨_, h, _⟩ => ⟨h.choose, h.choose_spec.1⟩
  | .both _ _ _, _, ⟨_, _, h, _⟩ => ⟨h.choose, h.choose_spec.1⟩
end
/-- A condition is told. -/
def CnR (p : Nat) (C : Cx) (d n : Nat) (B : Nat) (v : Value) (w : World) (a : Cn) (r : List Tok) : Prop := CnV w (B ≤ ·) a v ∧ PsW w p C d n r

set_option maxRecDepth 100000 in
theorem isNullTest_any (p : Nat) (C : Cx) (d n : Nat) (r : List Tok) (w : World) (h : PsW w p C d n r) :
    Calls Tryz.prog 142 #[.pointer (some ⟨p, 0, none⟩)] w fun e w' => e = .returned (.bool (isNull r)) ∧ Below w.heap.size w w' := by
  have hu := hide (Upd.refl (At p) w)
  have hb0 := hide (Below.refl w.heap.size w)
  have hs := hide h
  clear h
  generalize hX : isNull r = X
  replace hX := hide hX
  by_cases h1 : named r [61, 61] = true
  · go_enter Tryz.func142, Tryz.ntmps142
    go_wp2_with fail
    refine (isNamed_any [61, 61] p C d n r _ hs.out).mono ?_
    rintro e wq1 ⟨rfl, hb⟩
    replace hs := hide (hs.out.below hb)
    replace hb0 := hide (hb0.out.trans (hb.mono hb0.out.size))
    clear hb
    rw [h1]
    go_wp2_with fail
    refine (peek_any 2 (by omega) p C d n r _ hs.out).mono ?_
    rintro e wq7 ⟨rfl, hb⟩
    replace hb0 := hide (hb0.out.trans (hb.mono hb0.out.size))
    clear hb
    rw [tokV_def, hdT_text, show r.drop 2 = r.tail.tail by cases r with
      | nil => rfl
      | cons a l => cases l <;> rfl]
    have hf := field_text (hdT C.len r.tail.tail).kind (hdT C.len r.tail.tail).at_ (strB (txt r.tail.tail))
    go_wp2_with fail
    go_ret
    refine ⟨?_, hb0.out⟩
    show Ending.returned (.bool ((strB (txt r.tail.tail)).toList == [110, 117, 108, 108])) = _
    rw [str_beq', ← hX.out]
    unfold isNull nx
    rw [h1]
    rfl
  · have h1 : named r [61, 61] = false := by simpa using h1
    by_cases h2 : named r [33, 61] = true
    · go_enter Tryz.func142, Tryz.ntmps142
      go_wp2_with fail
      refine (isNamed_any [61, 61] p C d n r _ hs.out).mono ?_
      rintro e wq1 ⟨rfl, hb⟩
      replace hs := hide (hs.out.below hb)
      replace hb0 := hide (hb0.out.trans (hb.mono hb0.out.size))
      clear hb
      rw [h1]
      go_wp2_with fail
      refine (isNamed_any [33, 61] p C d n r _ hs.out).mono ?_
      rintro e wq2 ⟨rfl, hb⟩
      replace hs := hide (hs.out.below hb)
      replace hb0 := hide (hb0.out.trans (hb.mono hb0.out.size))
      clear hb
      rw [h2]
      go_wp2_with fail
      refine (peek_any 2 (by omega) p C d n r _ hs.out).mono ?_
      rintro e wq7 ⟨rfl, hb⟩
      replace hb0 := hide (hb0.out.trans (hb.mono hb0.out.size))
      clear hb
      rw [tokV_def, hdT_text, show r.drop 2 = r.tail.tail by cases r with
        | nil => rfl
        | cons a l => cases l <;> rfl]
      have hf := field_text (hdT C.len r.tail.tail).kind (hdT C.len r.tail.tail).at_ (strB (txt r.tail.tail))
      go_wp2_with fail
      go_ret
      refine ⟨?_, hb0.out⟩
      show Ending.returned (.bool ((strB (txt r.tail.tail)).toList == [110, 117, 108, 108])) = _
      rw [str_beq', ← hX.out]
      unfold isNull nx
      rw [h1, h2]
      rfl
    · have h2 : named r [33, 61] = false := by simpa using h2
      go_enter Tryz.func142, Tryz.ntmps142
      go_wp2_with fail
      refine (isNamed_any [61, 61] p C d n r _ hs.out).mono ?_
      rintro e wq1 ⟨rfl, hb⟩
      replace hs := hide (hs.out.below hb)
      replace hb0 := hide (hb0.out.trans (hb.mono hb0.out.size))
      clear hb
      rw [h1]
      go_wp2_with fail
      refine (isNamed_any [33, 61] p C d n r _ hs.out).mono ?_
      rintro e wq2 ⟨rfl, hb⟩
      replace hs := hide (hs.out.below hb)
      replace hb0 := hide (hb0.out.trans (hb.mono hb0.out.size))
      clear hb
      rw [h2]
      go_wp2_with fail
      go_ret
      refine ⟨?_, hb0.out⟩
      show Ending.returned (.bool false) = _
      rw [← hX.out]
      unfold isNull
      rw [h1, h2]
      rfl

def NullOK (f : Nat) : Prop := ∀ (p : Nat) (C : Cx) (d n : Nat) (r : List Tok) (w : World), PsW w p C d n r → nullP r ≠ .no →
  Calls Tryz.prog 143 #[.pointer (some ⟨p, 0, none⟩)] w fun e w' => Got p C w (CnR p C d n w.heap.size) (nullP r) e w'

set_option maxRecDepth 100000 in
set_option maxHeartbeats 1600000 in
theorem nullTest_any : ∀ f, NullOK f := by
  intro f p C d n r w h hno
  generalize hX : nullP r = X at hno ⊢
  unfold nullP at hX
  have hlt := h.lt
  have hu := hide (Upd.refl (At p) w)
  have hs := hide h
  replace hX := hide hX
  replace hno := hide hno
  clear h
  go_enter Tryz.func143, Tryz.ntmps143
  go_wp2_with fail
  have hG := name_any p C d n r _ hs.out
  cases hr : nameP r with
  | no =>
    have hX2 := hX.out
    rw [hr] at hX2
    try simp only [bind_no] at hX2
    exact absurd hX2.symm hno.out
  | er r9 k9 =>
    rw [hr] at hG
    have hX2 := hX.out
    rw [hr] at hX2
    try simp only [bind_er] at hX2
    replace hX := hide hX2
    refine (hG).mono ?_
    rintro e wq1 ⟨hU, rfl⟩
    replace hu := hide (hu.out.then hU)
    clear hr hG hU hX2
    go_wp2_with fail
    refine ⟨rfl, ?_⟩
    exact Got.er hu.out hX.out.symm
  | ok a1 r1 =>
    rw [hr] at hG
    have hX2 := hX.out
    rw [hr] at hX2
    try simp only [bind_ok] at hX2
    replace hX := hide hX2
    refine (hG).mono ?_
    rintro e wq1 ⟨hU, v1, rfl, rfl, h1⟩
    have hsz := hu.out.size
    replace hs := hide h1
    replace hu := hide (hu.out.then hU)
    clear hr hG hU h1 hX2 hsz
    have hg := hide (heap_new wq1 (.cells #[.int .i64 9, .pointer none, .pointer none, .pointer none, .pointer none, .string (strB a1)] 138))
    have hgs := hu.out.size
    replace hs := hide (hs.out.alloc (.cells #[.int .i64 9, .pointer none, .pointer none, .pointer none, .pointer none, .string (strB a1)] 138))
    replace hu := hide (hu.out.then (Upd.alloc (At p) _ (.cells #[.int .i64 9, .pointer none, .pointer none, .pointer none, .pointer none, .string (strB a1)] 138)))
    have hc : Hid (CnV (wq1.alloc (.cells #[.int .i64 9, .pointer none, .pointer none, .pointer none, .pointer none, .string (strB a1)] 138)) (w.heap.size ≤ ·) (.null a1) _) := hide ⟨_, rfl, hgs, hg.out⟩
    clear hg hgs
    go_wp2_with fail
    by_cases hx1 : nx r1 [33, 61] = true
    · have hne := hide (nx_ne hx1 (by decide))
      have hX2 := hX.out
      rw [if_pos hx1] at hX2
      replace hX := hide hX2
      clear hX2
      refine (accept_yes [33, 61] (by decide) p C d n r1 _ hs.out hx1).mono ?_
      rintro e wq2 ⟨rfl, hU, h1⟩
      replace hx1 := hide hx1
      replace hc := hide (CnV.upd (hU) (above_not hlt) _ _ hc.out)
      replace hs := hide h1
      replace hu := hide (hu.out.then hU)
      clear hU h1
      go_wp2_with fail
      have hg := hide (heap_new wq2 (.cells #[.int .i64 8, .pointer none, .pointer none, .pointer (some ⟨wq1.heap.size, 0, none⟩), .pointer none, .string ⟨#[]⟩] 138))
      have hgs := hu.out.size
      replace hs := hide (hs.out.alloc (.cells #[.int .i64 8, .pointer none, .pointer none, .pointer (some ⟨wq1.heap.size, 0, none⟩), .pointer none, .string ⟨#[]⟩] 138))
      replace hc := hide (CnV.upd (Upd.alloc (fun _ => False) _ (.cells #[.int .i64 8, .pointer none, .pointer none, .pointer (some ⟨wq1.heap.size, 0, none⟩), .pointer none, .string ⟨#[]⟩] 138)) (fun _ _ => id) _ _ hc.out)
      replace hu := hide (hu.out.then (Upd.alloc (At p) _ (.cells #[.int .i64 8, .pointer none, .pointer none, .pointer (some ⟨wq1.heap.size, 0, none⟩), .pointer none, .string ⟨#[]⟩] 138)))
      have hn : Hid (CnV (wq2.alloc (.cells #[.int .i64 8, .pointer none, .pointer none, .pointer (some ⟨wq1.heap.size, 0, none⟩), .pointer none, .string ⟨#[]⟩] 138)) (w.heap.size ≤ ·) (.not (.null a1)) _) := hide ⟨_, ⟨_, rfl, hgs, hg.out⟩, hc.out⟩
      clear hg hgs hc
      go_wp2_with fail
      have hG := expect_any [110, 117, 108, 108] (by decide) p C d n r1.tail _ hs.out
      cases hr : want [110, 117, 108, 108] r1.tail with
      | no =>
        have hX2 := hX.out
        rw [hr] at hX2
        try simp only [bind_no] at hX2
        exact absurd hX2.symm hno.out
      | er r9 k9 =>
        rw [hr] at hG
        have hX2 := hX.out
        rw [hr] at hX2
        try simp only [bind_er] at hX2
        replace hX := hide hX2
        refine (hG).mono ?_
        rintro e wq3 ⟨hU, rfl⟩
        replace hu := hide (hu.out.then hU)
        clear hr hG hU hX2
        go_wp2_with fail
        refine ⟨rfl, ?_⟩
        exact Got.er hu.out hX.out.symm
      | ok a3 r3 =>
        rw [hr] at hG
        have hX2 := hX.out
        rw [hr] at hX2
        try simp only [bind_ok] at hX2
        replace hX := hide hX2
        refine (hG).mono ?_
        rintro e wq3 ⟨hU, v3, rfl, rfl, h1⟩
        have hsz := hu.out.size
        replace hn := hide (CnV.upd (hU) (above_not hlt) _ _ hn.out)
        replace hs := hide h1
        replace hu := hide (hu.out.then hU)
        clear hr hG hU h1 hX2 hsz
        go_wp2_with fail
        go_ret
        exact Got.ok hu.out hX.out.symm ⟨hn.out, hs.out⟩
    · have hx1 : nx r1 [33, 61] = false := by simpa using hx1
      have hX2 := hX.out
      rw [if_neg (by rw [hx1]; exact Bool.false_ne_true)] at hX2
      replace hX := hide hX2
      clear hX2
      refine (accept_no [33, 61] p C d n r1 _ hs.out hx1).mono ?_
      rintro e wq2 ⟨rfl, hU, h1⟩
      replace hx1 := hide hx1
      replace hc := hide (CnV.upd (hU) (above_not hlt) _ _ hc.out)
      replace hs := hide h1
      replace hu := hide (hu.out.then hU)
      clear hU h1
      go_wp2_with fail
      have hG := expect_any [61, 61] (by decide) p C d n r1 _ hs.out
      cases hr : want [61, 61] r1 with
      | no =>
        have hX2 := hX.out
        rw [hr] at hX2
        try simp only [bind_no] at hX2
        exact absurd hX2.symm hno.out
      | er r9 k9 =>
        rw [hr] at hG
        have hX2 := hX.out
        rw [hr] at hX2
        try simp only [bind_er] at hX2
        replace hX := hide hX2
        refine (hG).mono ?_
        rintro e wq3 ⟨hU, rfl⟩
        replace hu := hide (hu.out.then hU)
        clear hr hG hU hX2
        go_wp2_with fail
        refine ⟨rfl, ?_⟩
        exact Got.er hu.out hX.out.symm
      | ok a3 r3 =>
        rw [hr] at hG
        have hX2 := hX.out
        rw [hr] at hX2
        try simp only [bind_ok] at hX2
        replace hX := hide hX2
        refine (hG).mono ?_
        rintro e wq3 ⟨hU, v3, rfl, rfl, h1⟩
        have hsz := hu.out.size
        replace hc := hide (CnV.upd (hU) (above_not hlt) _ _ hc.out)
        replace hs := hide h1
        replace hu := hide (hu.out.then hU)
        clear hr hG hU h1 hX2 hsz
        go_wp2_with fail
        have hG := expect_any [110, 117, 108, 108] (by decide) p C d n r3 _ hs.out
        cases hr : want [110, 117, 108, 108] r3 with
        | no =>
          have hX2 := hX.out
          rw [hr] at hX2
          try simp only [bind_no] at hX2
          exact absurd hX2.symm hno.out
        | er r9 k9 =>
          rw [hr] at hG
          have hX2 := hX.out
          rw [hr] at hX2
          try simp only [bind_er] at hX2
          replace hX := hide hX2
          refine (hG).mono ?_
          rintro e wq4 ⟨hU, rfl⟩
          replace hu := hide (hu.out.then hU)
          clear hr hG hU hX2
          go_wp2_with fail
          refine ⟨rfl, ?_⟩
          exact Got.er hu.out hX.out.symm
        | ok a4 r4 =>
          rw [hr] at hG
          have hX2 := hX.out
          rw [hr] at hX2
          try simp only [bind_ok] at hX2
          replace hX := hide hX2
          refine (hG).mono ?_
          rintro e wq4 ⟨hU, v4, rfl, rfl, h1⟩
          have hsz := hu.out.size
          replace hc := hide (CnV.upd (hU) (above_not hlt) _ _ hc.out)
          replace hs := hide h1
          replace hu := hide (hu.out.then hU)
          clear hr hG hU h1 hX2 hsz
          go_wp2_with fail
          go_ret
          exact Got.ok hu.out hX.out.symm ⟨hc.out, hs.out⟩

def CmpOK (f : Nat) : Prop := ∀ (p : Nat) (C : Cx) (d n : Nat) (r : List Tok) (w : World), PsW w p C d n r → cmpP f d r ≠ .no →
  Calls Tryz.prog 144 #[.pointer (some ⟨p, 0, none⟩)] w fun e w' => Got p C w (CnR p C d n w.heap.size) (cmpP f d r) e w'

set_option maxRecDepth 100000 in
set_option maxHeartbeats 1600000 in
theorem comparison_any : ∀ f, CmpOK f := by
  intro f p C d n r w h hno
  generalize hX : cmpP f d r = X at hno ⊢
  unfold cmpP at hX
  have hlt := h.lt
  have hu := hide (Upd.refl (At p) w)
  have hs := hide h
  replace hX := hide hX
  replace hno := hide hno
  clear h
  go_enter Tryz.func144, Tryz.ntmps144
  go_wp2_with fail
  have hG := sumP_ok f p C d n r _ hs.out
  cases hr : sumP f d r with
  | no =>
    have hX2 := hX.out
    rw [hr] at hX2
    try simp only [bind_no] at hX2
    exact absurd hX2.symm hno.out
  | er r9 k9 =>
    rw [hr] at hG
    have hX2 := hX.out
    rw [hr] at hX2
    try simp only [bind_er] at hX2
    replace hX := hide hX2
    refine (hG (fun e => by cases e)).mono ?_
    rintro e wq1 ⟨hU, rfl⟩
    replace hu := hide (hu.out.then hU)
    clear hr hG hU hX2
    go_wp2_with fail
    refine ⟨rfl, ?_⟩
    exact Got.er hu.out hX.out.symm
  | ok a1 r1 =>
    rw [hr] at hG
    have hX2 := hX.out
    rw [hr] at hX2
    try simp only [bind_ok] at hX2
    replace hX := hide hX2
    refine (hG (fun e => by cases e)).mono ?_
    rintro e wq1 ⟨hU, v1, rfl, hv, h1⟩
    have hsz := hu.out.size
    have hva := hide (ExV.mono (S' := (w.heap.size ≤ ·)) (fun b _ hb => Nat.le_trans hsz hb) _ _ hv)
    clear hv
    obtain ⟨gv1, rfl⟩ := hva.out.ptr
    replace hs := hide h1
    replace hu := hide (hu.out.then hU)
    clear hr hG hU h1 hX2 hsz
    go_wp2_with fail
    have hP := peek_any 0 (by omega) p C d n r1 _ hs.out
    refine hP.mono ?_
    rintro e wp ⟨rfl, hb⟩
    clear hP
    replace hs := hide (hs.out.below hb)
    replace hva := hide (ExV.upd (at_below hb) (above_not hlt) _ _ hva.out)
    replace hu := hide (hu.out.then (at_below hb))
    clear hb
    rw [List.drop_zero, tokV_def]
    have hA := hide (hdT_at C.len r1)
    have hT := hdT_text C.len r1
    generalize htok : hdT C.len r1 = tk at *
    replace htok := hide htok
    replace hT := hide hT
    have hg := hide (heap_new wp (.cells #[.int .i64 tk.kind, .string (strB tk.text), .int .i64 tk.at_] 49))
    have hgs := hu.out.size
    replace hs := hide (hs.out.alloc (.cells #[.int .i64 tk.kind, .string (strB tk.text), .int .i64 tk.at_] 49))
    replace hva := hide (ExV.upd (Upd.alloc (fun _ => False) _ (.cells #[.int .i64 tk.kind, .string (strB tk.text), .int .i64 tk.at_] 49)) (fun _ _ => id) _ _ hva.out)
    replace hu := hide (hu.out.then (Upd.alloc (At p) _ (.cells #[.int .i64 tk.kind, .string (strB tk.text), .int .i64 tk.at_] 49)))
    have hK := comparisonKind_any tk.text
    rw [hT.out] at hK
    cases hk : cmpK (txt r1) with
    | none =>
      rw [hk] at hK
      unfold optV at hK
      replace hK := hide hK
      have hX2 := hX.out
      simp only [hk] at hX2
      replace hX := hide hX2
      clear hX2
      have g1 := cell_at hg.out 1
      have g0 := cell_at hg.out 0
      have g2 := cell_at hg.out 2
      simp at g0 g1 g2
      clear hk
      rw [← hT.out] at hK
      go_wp2_with fail
      refine (hK.out _).mono ?_
      rintro e wr ⟨rfl, rfl⟩
      go_wp2_with fail
      refine (refuse_any tk 51 _).mono ?_
      rintro e wr2 ⟨rfl, hb⟩
      replace hu := hide (hu.out.then (at_below hb))
      clear hb
      rw [hA.out]
      go_wp2_with fail
      refine ⟨rfl, ?_⟩
      exact Got.er hu.out hX.out.symm
    | some k =>
      have hne : r1 ≠ [] := by
        rintro rfl
        cases hk
      rw [hk] at hK
      unfold optV at hK
      replace hK := hide hK
      have hX2 := hX.out
      simp only [hk] at hX2
      replace hX := hide hX2
      clear hX2
      have g1 := cell_at hg.out 1
      simp at g1
      clear hk
      rw [← hT.out] at hK
      go_wp2_with fail
      refine (hK.out _).mono ?_
      rintro e wr ⟨rfl, rfl⟩
      go_wp2_with fail
      refine (skip_any p C d n r1 _ hs.out hne).mono ?_
      rintro e wk ⟨rfl, hU, h1⟩
      replace hva := hide (ExV.upd (hU) (above_not hlt) _ _ hva.out)
      replace hs := hide h1
      replace hu := hide (hu.out.then hU)
      clear hU h1 hg
      go_wp2_with fail
      have hG := sumP_ok f p C d n r1.tail _ hs.out
      cases hr : sumP f d r1.tail with
      | no =>
        have hX2 := hX.out
        rw [hr] at hX2
        try simp only [bind_no] at hX2
        exact absurd hX2.symm hno.out
      | er r9 k9 =>
        rw [hr] at hG
        have hX2 := hX.out
        rw [hr] at hX2
        try simp only [bind_er] at hX2
        replace hX := hide hX2
        refine (hG (fun e => by cases e)).mono ?_
        rintro e wq2 ⟨hU, rfl⟩
        replace hu := hide (hu.out.then hU)
        clear hr hG hU hX2
        go_wp2_with fail
        refine ⟨rfl, ?_⟩
        exact Got.er hu.out hX.out.symm
      | ok a2 r2 =>
        rw [hr] at hG
        have hX2 := hX.out
        rw [hr] at hX2
        try simp only [bind_ok] at hX2
        replace hX := hide hX2
        refine (hG (fun e => by cases e)).mono ?_
        rintro e wq2 ⟨hU, v2, rfl, hv, h1⟩
        have hsz := hu.out.size
        replace hva := hide (ExV.upd (hU) (above_not hlt) _ _ hva.out)
        have hvb := hide (ExV.mono (S' := (w.heap.size ≤ ·)) (fun b _ hb => Nat.le_trans hsz hb) _ _ hv)
        clear hv
        obtain ⟨gv2, rfl⟩ := hvb.out.ptr
        replace hs := hide h1
        replace hu := hide (hu.out.then hU)
        clear hr hG hU h1 hX2 hsz
        have hg := hide (heap_new wq2 (.cells #[.int .i64 k, .pointer (some ⟨gv1, 0, none⟩), .pointer (some ⟨gv2, 0, none⟩), .pointer none, .pointer none, .string ⟨#[]⟩] 138))
        have hgs := hu.out.size
        replace hs := hide (hs.out.alloc (.cells #[.int .i64 k, .pointer (some ⟨gv1, 0, none⟩), .pointer (some ⟨gv2, 0, none⟩), .pointer none, .pointer none, .string ⟨#[]⟩] 138))
        replace hva := hide (ExV.upd (Upd.alloc (fun _ => False) _ (.cells #[.int .i64 k, .pointer (some ⟨gv1, 0, none⟩), .pointer (some ⟨gv2, 0, none⟩), .pointer none, .pointer none, .string ⟨#[]⟩] 138)) (fun _ _ => id) _ _ hva.out)
        replace hvb := hide (ExV.upd (Upd.alloc (fun _ => False) _ (.cells #[.int .i64 k, .pointer (some ⟨gv1, 0, none⟩), .pointer (some ⟨gv2, 0, none⟩), .pointer none, .pointer none, .string ⟨#[]⟩] 138)) (fun _ _ => id) _ _ hvb.out)
        replace hu := hide (hu.out.then (Upd.alloc (At p) _ (.cells #[.int .i64 k, .pointer (some ⟨gv1, 0, none⟩), .pointer (some ⟨gv2, 0, none⟩), .pointer none, .pointer none, .string ⟨#[]⟩] 138)))
        have hn : Hid (CnV (wq2.alloc (.cells #[.int .i64 k, .pointer (some ⟨gv1, 0, none⟩), .pointer (some ⟨gv2, 0, none⟩), .pointer none, .pointer none, .string ⟨#[]⟩] 138)) (w.heap.size ≤ ·) (.cmp k a1 a2) _) := hide ⟨_, _, ⟨_, rfl, hgs, hg.out⟩, hva.out, hvb.out⟩
        go_wp2_with fail
        go_ret
        exact Got.ok hu.out hX.out.symm ⟨hn.out, hs.out⟩

def NotOK (f : Nat) : Prop := ∀ (p : Nat) (C : Cx) (d n : Nat) (r : List Tok) (w : World), PsW w p C d n r → notP f d r ≠ .no →
  Calls Tryz.prog 140 #[.pointer (some ⟨p, 0, none⟩)] w fun e w' => Got p C w (CnR p C d n w.heap.size) (notP f d r) e w'

def AndOK (f : Nat) : Prop := ∀ (p : Nat) (C : Cx) (d n : Nat) (r : List Tok) (w : World), PsW w p C d n r → andOf (notP f d) f r ≠ .no →
  Calls Tryz.prog 138 #[.pointer (some ⟨p, 0, none⟩)] w fun e w' => Got p C w (CnR p C d n w.heap.size) (andOf (notP f d) f r) e w'

def CondOK (f : Nat) : Prop := ∀ (p : Nat) (C : Cx) (d n : Nat) (r : List Tok) (w : World), PsW w p C d n r → condOf (notP f d) f r ≠ .no →
  Calls Tryz.prog 129 #[.pointer (some ⟨p, 0, none⟩)] w fun e w' => Got p C w (CnR p C d n w.heap.size) (condOf (notP f d) f r) e w'

set_option maxRecDepth 100000 in
set_option maxHeartbeats 1600000 in
theorem and_of (f : Nat) (hU : NotOK f) : AndOK f := by
  intro p C d n r w h hno
  generalize hX : andOf (notP f d) f r = X at hno ⊢
  unfold andOf at hX
  replace hU := hide hU
  have hlt := h.lt
  have hu := hide (Upd.refl (At p) w)
  have hs := hide h
  replace hX := hide hX
  replace hno := hide hno
  clear h
  go_enter Tryz.func138, Tryz.ntmps138
  go_wp2_with fail
  have hG := hU.out p C d n r _ hs.out
  cases hr : notP f d r with
  | no =>
    have hX2 := hX.out
    rw [hr] at hX2
    try simp only [bind_no] at hX2
    exact absurd hX2.symm hno.out
  | er r9 k9 =>
    rw [hr] at hG
    have hX2 := hX.out
    rw [hr] at hX2
    try simp only [bind_er] at hX2
    replace hX := hide hX2
    refine (hG (fun e => by cases e)).mono ?_
    rintro e wq1 ⟨hU, rfl⟩
    replace hu := hide (hu.out.then hU)
    clear hr hG hU hX2
    go_wp2_with fail
    refine ⟨rfl, ?_⟩
    exact Got.er hu.out hX.out.symm
  | ok a1 r1 =>
    rw [hr] at hG
    have hX2 := hX.out
    rw [hr] at hX2
    try simp only [bind_ok] at hX2
    replace hX := hide hX2
    refine (hG (fun e => by cases e)).mono ?_
    rintro e wq1 ⟨hU, v1, rfl, hv, h1⟩
    have hsz := hu.out.size
    have hva := hide (CnV.mono (S' := (w.heap.size ≤ ·)) (fun b _ hb => Nat.le_trans hsz hb) _ _ hv)
    clear hv
    obtain ⟨gv1, rfl⟩ := hva.out.ptr
    replace hs := hide h1
    replace hu := hide (hu.out.then hU)
    clear hr hG hU h1 hX2 hsz
    go_wp2_with fail
    go_loopg [3] f (fun k v wr => ∃ (a : Cn) (r : List Tok), Upd (At p) w wr ∧ CnV wr (w.heap.size ≤ ·) a v ∧ PsW wr p C d n r ∧ chain .both andK (notP f d) k a r = X)
    case atStart => exact ⟨a1, r1, hu.out, hva.out, hs.out, hX.out⟩
    case round =>
      clear hu hva hs hX
      obtain ⟨a, r, hu, hva, hs, hX⟩ := hrel
      cases gk with
      | zero => exact absurd hX.symm hno.out
      | succ g =>
        obtain ⟨g1, rfl⟩ := hva.ptr
        replace hu := hide hu
        replace hva := hide hva
        replace hs := hide hs
        go_wp2_with fail
        by_cases hx20 : nx r [38, 38] = true
        · have hne := hide (nx_ne hx20 (by decide))
          refine (accept_yes [38, 38] (by decide) p C d n r _ hs.out hx20).mono ?_
          rintro e wq21 ⟨rfl, hU, h1⟩
          replace hx20 := hide hx20
          replace hva := hide (CnV.upd (hU) (above_not hlt) _ _ hva.out)
          replace hs := hide h1
          replace hu := hide (hu.out.then hU)
          clear hU h1
          go_wp2_with fail
          have hX2 := hX
          rw [chain_some (k := 6) (by rw [andK, if_pos (beq_iff_eq.1 hx20.out)])] at hX2
          replace hX := hide hX2
          clear hX2
          have hG := hU.out p C d n r.tail _ hs.out
          cases hr : notP f d r.tail with
          | no =>
            have hX2 := hX.out
            rw [hr] at hX2
            try simp only [bind_no] at hX2
            exact absurd hX2.symm hno.out
          | er r9 k9 =>
            rw [hr] at hG
            have hX2 := hX.out
            rw [hr] at hX2
            try simp only [bind_er] at hX2
            replace hX := hide hX2
            refine (hG (fun e => by cases e)).mono ?_
            rintro e wq22 ⟨hU, rfl⟩
            replace hu := hide (hu.out.then hU)
            clear hr hG hU hX2
            go_wp2_with fail
            refine ⟨rfl, ?_⟩
            exact Got.er hu.out hX.out.symm
          | ok a22 r22 =>
            rw [hr] at hG
            have hX2 := hX.out
            rw [hr] at hX2
            try simp only [bind_ok] at hX2
            replace hX := hide hX2
            refine (hG (fun e => by cases e)).mono ?_
            rintro e wq22 ⟨hU, v22, rfl, hv, h1⟩
            have hsz := hu.out.size
            replace hva := hide (CnV.upd (hU) (above_not hlt) _ _ hva.out)
            have hvb := hide (CnV.mono (S' := (w.heap.size ≤ ·)) (fun b _ hb => Nat.le_trans hsz hb) _ _ hv)
            clear hv
            obtain ⟨gv22, rfl⟩ := hvb.out.ptr
            replace hs := hide h1
            replace hu := hide (hu.out.then hU)
            clear hr hG hU h1 hX2 hsz
            have hg := hide (heap_new wq22 (.cells #[.int .i64 6, .pointer none, .pointer none, .pointer (some ⟨g1, 0, none⟩), .pointer (some ⟨gv22, 0, none⟩), .string ⟨#[]⟩] 138))
            have hgs := hu.out.size
            replace hs := hide (hs.out.alloc (.cells #[.int .i64 6, .pointer none, .pointer none, .pointer (some ⟨g1, 0, none⟩), .pointer (some ⟨gv22, 0, none⟩), .string ⟨#[]⟩] 138))
            replace hva := hide (CnV.upd (Upd.alloc (fun _ => False) _ (.cells #[.int .i64 6, .pointer none, .pointer none, .pointer (some ⟨g1, 0, none⟩), .pointer (some ⟨gv22, 0, none⟩), .string ⟨#[]⟩] 138)) (fun _ _ => id) _ _ hva.out)
            replace hvb := hide (CnV.upd (Upd.alloc (fun _ => False) _ (.cells #[.int .i64 6, .pointer none, .pointer none, .pointer (some ⟨g1, 0, none⟩), .pointer (some ⟨gv22, 0, none⟩), .string ⟨#[]⟩] 138)) (fun _ _ => id) _ _ hvb.out)
            replace hu := hide (hu.out.then (Upd.alloc (At p) _ (.cells #[.int .i64 6, .pointer none, .pointer none, .pointer (some ⟨g1, 0, none⟩), .pointer (some ⟨gv22, 0, none⟩), .string ⟨#[]⟩] 138)))
            go_wp2_with fail
            go_roundg g
            case measure => omega
            case rel => exact ⟨.both 6 a a22, r22, hu.out, ⟨_, _, ⟨_, rfl, hgs, hg.out⟩, hva.out, hvb.out⟩, hs.out, hX.out⟩
        · have hx20 : nx r [38, 38] = false := by simpa using hx20
          refine (accept_no [38, 38] p C d n r _ hs.out hx20).mono ?_
          rintro e wq21 ⟨rfl, hU, h1⟩
          replace hx20 := hide hx20
          replace hva := hide (CnV.upd (hU) (above_not hlt) _ _ hva.out)
          replace hs := hide h1
          replace hu := hide (hu.out.then hU)
          clear hU h1
          go_wp2_with fail
          have hX2 := hX
          rw [chain_none (by rw [andK, if_neg (fun e => by have h2 := hx20.out; unfold nx at h2; rw [e] at h2; cases h2)])] at hX2
          replace hX := hide hX2
          clear hX2
          go_ret
          exact Got.ok hu.out hX.out.symm ⟨hva.out, hs.out⟩

set_option maxRecDepth 100000 in
set_option maxHeartbeats 1600000 in
theorem cond_of (f : Nat) (hU : AndOK f) : CondOK f := by
  intro p C d n r w h hno
  generalize hX : condOf (notP f d) f r = X at hno ⊢
  unfold condOf at hX
  replace hU := hide hU
  have hlt := h.lt
  have hu := hide (Upd.refl (At p) w)
  have hs := hide h
  replace hX := hide hX
  replace hno := hide hno
  clear h
  go_enter Tryz.func129, Tryz.ntmps129
  go_wp2_with fail
  have hG := hU.out p C d n r _ hs.out
  cases hr : andOf (notP f d) f r with
  | no =>
    have hX2 := hX.out
    rw [hr] at hX2
    try simp only [bind_no] at hX2
    exact absurd hX2.symm hno.out
  | er r9 k9 =>
    rw [hr] at hG
    have hX2 := hX.out
    rw [hr] at hX2
    try simp only [bind_er] at hX2
    replace hX := hide hX2
    refine (hG (fun e => by cases e)).mono ?_
    rintro e wq1 ⟨hU, rfl⟩
    replace hu := hide (hu.out.then hU)
    clear hr hG hU hX2
    go_wp2_with fail
    refine ⟨rfl, ?_⟩
    exact Got.er hu.out hX.out.symm
  | ok a1 r1 =>
    rw [hr] at hG
    have hX2 := hX.out
    rw [hr] at hX2
    try simp only [bind_ok] at hX2
    replace hX := hide hX2
    refine (hG (fun e => by cases e)).mono ?_
    rintro e wq1 ⟨hU, v1, rfl, hv, h1⟩
    have hsz := hu.out.size
    have hva := hide (CnV.mono (S' := (w.heap.size ≤ ·)) (fun b _ hb => Nat.le_trans hsz hb) _ _ hv)
    clear hv
    obtain ⟨gv1, rfl⟩ := hva.out.ptr
    replace hs := hide h1
    replace hu := hide (hu.out.then hU)
    clear hr hG hU h1 hX2 hsz
    go_wp2_with fail
    go_loopg [3] f (fun k v wr => ∃ (a : Cn) (r : List Tok), Upd (At p) w wr ∧ CnV wr (w.heap.size ≤ ·) a v ∧ PsW wr p C d n r ∧ chain .both orK (andOf (notP f d) f) k a r = X)
    case atStart => exact ⟨a1, r1, hu.out, hva.out, hs.out, hX.out⟩
    case round =>
      clear hu hva hs hX
      obtain ⟨a, r, hu, hva, hs, hX⟩ := hrel
      cases gk with
      | zero => exact absurd hX.symm hno.out
      | succ g =>
        obtain ⟨g1, rfl⟩ := hva.ptr
        replace hu := hide hu
        replace hva := hide hva
        replace hs := hide hs
        go_wp2_with fail
        by_cases hx20 : nx r [124, 124] = true
        · have hne := hide (nx_ne hx20 (by decide))
          refine (accept_yes [124, 124] (by decide) p C d n r _ hs.out hx20).mono ?_
          rintro e wq21 ⟨rfl, hU, h1⟩
          replace hx20 := hide hx20
          replace hva := hide (CnV.upd (hU) (above_not hlt) _ _ hva.out)
          replace hs := hide h1
          replace hu := hide (hu.out.then hU)
          clear hU h1
          go_wp2_with fail
          have hX2 := hX
          rw [chain_some (k := 7) (by rw [orK, if_pos (beq_iff_eq.1 hx20.out)])] at hX2
          replace hX := hide hX2
          clear hX2
          have hG := hU.out p C d n r.tail _ hs.out
          cases hr : andOf (notP f d) f r.tail with
          | no =>
            have hX2 := hX.out
            rw [hr] at hX2
            try simp only [bind_no] at hX2
            exact absurd hX2.symm hno.out
          | er r9 k9 =>
            rw [hr] at hG
            have hX2 := hX.out
            rw [hr] at hX2
            try simp only [bind_er] at hX2
            replace hX := hide hX2
            refine (hG (fun e => by cases e)).mono ?_
            rintro e wq22 ⟨hU, rfl⟩
            replace hu := hide (hu.out.then hU)
            clear hr hG hU hX2
            go_wp2_with fail
            refine ⟨rfl, ?_⟩
            exact Got.er hu.out hX.out.symm
          | ok a22 r22 =>
            rw [hr] at hG
            have hX2 := hX.out
            rw [hr] at hX2
            try simp only [bind_ok] at hX2
            replace hX := hide hX2
            refine (hG (fun e => by cases e)).mono ?_
            rintro e wq22 ⟨hU, v22, rfl, hv, h1⟩
            have hsz := hu.out.size
            replace hva := hide (CnV.upd (hU) (above_not hlt) _ _ hva.out)
            have hvb := hide (CnV.mono (S' := (w.heap.size ≤ ·)) (fun b _ hb => Nat.le_trans hsz hb) _ _ hv)
            clear hv
            obtain ⟨gv22, rfl⟩ := hvb.out.ptr
            replace hs := hide h1
            replace hu := hide (hu.out.then hU)
            clear hr hG hU h1 hX2 hsz
            have hg := hide (heap_new wq22 (.cells #[.int .i64 7, .pointer none, .pointer none, .pointer (some ⟨g1, 0, none⟩), .pointer (some ⟨gv22, 0, none⟩), .string ⟨#[]⟩] 138))
            have hgs := hu.out.size
            replace hs := hide (hs.out.alloc (.cells #[.int .i64 7, .pointer none, .pointer none, .pointer (some ⟨g1, 0, none⟩), .pointer (some ⟨gv22, 0, none⟩), .string ⟨#[]⟩] 138))
            replace hva := hide (CnV.upd (Upd.alloc (fun _ => False) _ (.cells #[.int .i64 7, .pointer none, .pointer none, .pointer (some ⟨g1, 0, none⟩), .pointer (some ⟨gv22, 0, none⟩), .string ⟨#[]⟩] 138)) (fun _ _ => id) _ _ hva.out)
            replace hvb := hide (CnV.upd (Upd.alloc (fun _ => False) _ (.cells #[.int .i64 7, .pointer none, .pointer none, .pointer (some ⟨g1, 0, none⟩), .pointer (some ⟨gv22, 0, none⟩), .string ⟨#[]⟩] 138)) (fun _ _ => id) _ _ hvb.out)
            replace hu := hide (hu.out.then (Upd.alloc (At p) _ (.cells #[.int .i64 7, .pointer none, .pointer none, .pointer (some ⟨g1, 0, none⟩), .pointer (some ⟨gv22, 0, none⟩), .string ⟨#[]⟩] 138)))
            go_wp2_with fail
            go_roundg g
            case measure => omega
            case rel => exact ⟨.both 7 a a22, r22, hu.out, ⟨_, _, ⟨_, rfl, hgs, hg.out⟩, hva.out, hvb.out⟩, hs.out, hX.out⟩
        · have hx20 : nx r [124, 124] = false := by simpa using hx20
          refine (accept_no [124, 124] p C d n r _ hs.out hx20).mono ?_
          rintro e wq21 ⟨rfl, hU, h1⟩
          replace hx20 := hide hx20
          replace hva := hide (CnV.upd (hU) (above_not hlt) _ _ hva.out)
          replace hs := hide h1
          replace hu := hide (hu.out.then hU)
          clear hU h1
          go_wp2_with fail
          have hX2 := hX
          rw [chain_none (by rw [orK, if_neg (fun e => by have h2 := hx20.out; unfold nx at h2; rw [e] at h2; cases h2)])] at hX2
          replace hX := hide hX2
          clear hX2
          go_ret
          exact Got.ok hu.out hX.out.symm ⟨hva.out, hs.out⟩

set_option maxRecDepth 100000 in
set_option maxHeartbeats 1600000 in
theorem not_succ (f : Nat) (hU : NotOK f) (hS : CondOK f) : NotOK (f + 1) := by
  intro p C d n r w h hno
  generalize hX : notP (f + 1) d r = X at hno ⊢
  unfold notP at hX
  replace hU := hide hU
  replace hS := hide hS
  have hlt := h.lt
  have hu := hide (Upd.refl (At p) w)
  have hs := hide h
  replace hX := hide hX
  replace hno := hide hno
  clear h
  go_enter Tryz.func140, Tryz.ntmps140
  go_wp2_with fail
  by_cases hx0 : nx r [33] = true
  · have hX2 := hX.out
    rw [if_pos hx0] at hX2
    replace hX := hide hX2
    clear hX2
    have hx0h := hide hx0
    have hI := isNext_any [33] p C d n r _ hs.out
    rw [hx0] at hI
    refine hI.mono ?_
    rintro e wq1 ⟨rfl, hb⟩
    clear hI
    replace hs := hide (hs.out.below hb)
    replace hu := hide (hu.out.then (at_below hb))
    clear hb
    go_wp2_with fail
    have hG := enter_any [33] (by decide) p C d n r _ hs.out
    cases hr : enterP [33] d r with
    | no =>
      have hX2 := hX.out
      rw [hr] at hX2
      try simp only [bind_no] at hX2
      exact absurd hX2.symm hno.out
    | er r9 k9 =>
      rw [hr] at hG
      have hX2 := hX.out
      rw [hr] at hX2
      try simp only [bind_er] at hX2
      replace hX := hide hX2
      refine (hG).mono ?_
      rintro e wq2 ⟨hU, rfl⟩
      replace hu := hide (hu.out.then hU)
      clear hr hG hU hX2
      go_wp2_with fail
      refine ⟨rfl, ?_⟩
      exact Got.er hu.out hX.out.symm
    | ok a2 r2 =>
      rw [hr] at hG
      have hX2 := hX.out
      rw [hr] at hX2
      try simp only [bind_ok] at hX2
      replace hX := hide hX2
      refine (hG).mono ?_
      rintro e wq2 ⟨hU, v2, rfl, rfl, h1⟩
      have hsz := hu.out.size
      replace hs := hide h1
      replace hu := hide (hu.out.then hU)
      clear hr hG hU h1 hX2 hsz
      go_wp2_with fail
      have hG := hU.out p C (d + 1) n r2 _ hs.out
      cases hr : notP f (d + 1) r2 with
      | no =>
        have hX2 := hX.out
        rw [hr] at hX2
        try simp only [bind_no] at hX2
        exact absurd hX2.symm hno.out
      | er r9 k9 =>
        rw [hr] at hG
        have hX2 := hX.out
        rw [hr] at hX2
        try simp only [bind_er] at hX2
        replace hX := hide hX2
        refine (hG (fun e => by cases e)).mono ?_
        rintro e wq3 ⟨hU, rfl⟩
        replace hu := hide (hu.out.then hU)
        clear hr hG hU hX2
        go_wp2_with fail
        refine ⟨rfl, ?_⟩
        exact Got.er hu.out hX.out.symm
      | ok a3 r3 =>
        rw [hr] at hG
        have hX2 := hX.out
        rw [hr] at hX2
        try simp only [bind_ok] at hX2
        replace hX := hide hX2
        refine (hG (fun e => by cases e)).mono ?_
        rintro e wq3 ⟨hU, v3, rfl, hv, h1⟩
        have hsz := hu.out.size
        have hva := hide (CnV.mono (S' := (w.heap.size ≤ ·)) (fun b _ hb => Nat.le_trans hsz hb) _ _ hv)
        clear hv
        obtain ⟨gv3, rfl⟩ := hva.out.ptr
        replace hs := hide h1
        replace hu := hide (hu.out.then hU)
        clear hr hG hU h1 hX2 hsz
        have hg := hide (heap_new wq3 (.cells #[.int .i64 8, .pointer none, .pointer none, .pointer (some ⟨gv3, 0, none⟩), .pointer none, .string ⟨#[]⟩] 138))
        have hgs := hu.out.size
        replace hs := hide (hs.out.alloc (.cells #[.int .i64 8, .pointer none, .pointer none, .pointer (some ⟨gv3, 0, none⟩), .pointer none, .string ⟨#[]⟩] 138))
        replace hva := hide (CnV.upd (Upd.alloc (fun _ => False) _ (.cells #[.int .i64 8, .pointer none, .pointer none, .pointer (some ⟨gv3, 0, none⟩), .pointer none, .string ⟨#[]⟩] 138)) (fun _ _ => id) _ _ hva.out)
        replace hu := hide (hu.out.then (Upd.alloc (At p) _ (.cells #[.int .i64 8, .pointer none, .pointer none, .pointer (some ⟨gv3, 0, none⟩), .pointer none, .string ⟨#[]⟩] 138)))
        have hn : Hid (CnV (wq3.alloc (.cells #[.int .i64 8, .pointer none, .pointer none, .pointer (some ⟨gv3, 0, none⟩), .pointer none, .string ⟨#[]⟩] 138)) (w.heap.size ≤ ·) (.not a3) _) := hide ⟨_, ⟨_, rfl, hgs, hg.out⟩, hva.out⟩
        clear hg hgs hva
        go_wp2_with fail
        refine (leave_any p C d n r3 _ hs.out).mono ?_
        rintro e wq4 ⟨rfl, hU, h1⟩
        replace hn := hide (CnV.upd (hU) (above_not hlt) _ _ hn.out)
        replace hs := hide h1
        replace hu := hide (hu.out.then hU)
        clear hU h1
        go_wp2_with fail
        go_ret
        exact Got.ok hu.out hX.out.symm ⟨hn.out, hs.out⟩
  · have hx0 : nx r [33] = false := by simpa using hx0
    have hX2 := hX.out
    rw [if_neg (by rw [hx0]; exact Bool.false_ne_true)] at hX2
    replace hX := hide hX2
    clear hX2
    have hx0h := hide hx0
    have hI := isNext_any [33] p C d n r _ hs.out
    rw [hx0] at hI
    refine hI.mono ?_
    rintro e wq1 ⟨rfl, hb⟩
    clear hI
    replace hs := hide (hs.out.below hb)
    replace hu := hide (hu.out.then (at_below hb))
    clear hb
    go_wp2_with fail
    by_cases hx1 : nx r [40] = true
    · have hX2 := hX.out
      rw [if_pos hx1] at hX2
      replace hX := hide hX2
      clear hX2
      have hx1h := hide hx1
      have hI := isNext_any [40] p C d n r _ hs.out
      rw [hx1] at hI
      refine hI.mono ?_
      rintro e wq2 ⟨rfl, hb⟩
      clear hI
      replace hs := hide (hs.out.below hb)
      replace hu := hide (hu.out.then (at_below hb))
      clear hb
      go_wp2_with fail
      have hG := enter_any [40] (by decide) p C d n r _ hs.out
      cases hr : enterP [40] d r with
      | no =>
        have hX2 := hX.out
        rw [hr] at hX2
        try simp only [bind_no] at hX2
        exact absurd hX2.symm hno.out
      | er r9 k9 =>
        rw [hr] at hG
        have hX2 := hX.out
        rw [hr] at hX2
        try simp only [bind_er] at hX2
        replace hX := hide hX2
        refine (hG).mono ?_
        rintro e wq3 ⟨hU, rfl⟩
        replace hu := hide (hu.out.then hU)
        clear hr hG hU hX2
        go_wp2_with fail
        refine ⟨rfl, ?_⟩
        exact Got.er hu.out hX.out.symm
      | ok a3 r3 =>
        rw [hr] at hG
        have hX2 := hX.out
        rw [hr] at hX2
        try simp only [bind_ok] at hX2
        replace hX := hide hX2
        refine (hG).mono ?_
        rintro e wq3 ⟨hU, v3, rfl, rfl, h1⟩
        have hsz := hu.out.size
        replace hs := hide h1
        replace hu := hide (hu.out.then hU)
        clear hr hG hU h1 hX2 hsz
        go_wp2_with fail
        have hG := hS.out p C (d + 1) n r3 _ hs.out
        cases hr : condOf (notP f (d + 1)) f r3 with
        | no =>
          have hX2 := hX.out
          rw [hr] at hX2
          try simp only [bind_no] at hX2
          exact absurd hX2.symm hno.out
        | er r9 k9 =>
          rw [hr] at hG
          have hX2 := hX.out
          rw [hr] at hX2
          try simp only [bind_er] at hX2
          replace hX := hide hX2
          refine (hG (fun e => by cases e)).mono ?_
          rintro e wq4 ⟨hU, rfl⟩
          replace hu := hide (hu.out.then hU)
          clear hr hG hU hX2
          go_wp2_with fail
          refine ⟨rfl, ?_⟩
          exact Got.er hu.out hX.out.symm
        | ok a4 r4 =>
          rw [hr] at hG
          have hX2 := hX.out
          rw [hr] at hX2
          try simp only [bind_ok] at hX2
          replace hX := hide hX2
          refine (hG (fun e => by cases e)).mono ?_
          rintro e wq4 ⟨hU, v4, rfl, hv, h1⟩
          have hsz := hu.out.size
          have hva := hide (CnV.mono (S' := (w.heap.size ≤ ·)) (fun b _ hb => Nat.le_trans hsz hb) _ _ hv)
          clear hv
          obtain ⟨gv4, rfl⟩ := hva.out.ptr
          replace hs := hide h1
          replace hu := hide (hu.out.then hU)
          clear hr hG hU h1 hX2 hsz
          go_wp2_with fail
          have hG := expect_any [41] (by decide) p C (d + 1) n r4 _ hs.out
          cases hr : want [41] r4 with
          | no =>
            have hX2 := hX.out
            rw [hr] at hX2
            try simp only [bind_no] at hX2
            exact absurd hX2.symm hno.out
          | er r9 k9 =>
            rw [hr] at hG
            have hX2 := hX.out
            rw [hr] at hX2
            try simp only [bind_er] at hX2
            replace hX := hide hX2
            refine (hG).mono ?_
            rintro e wq5 ⟨hU, rfl⟩
            replace hu := hide (hu.out.then hU)
            clear hr hG hU hX2
            go_wp2_with fail
            refine ⟨rfl, ?_⟩
            exact Got.er hu.out hX.out.symm
          | ok a5 r5 =>
            rw [hr] at hG
            have hX2 := hX.out
            rw [hr] at hX2
            try simp only [bind_ok] at hX2
            replace hX := hide hX2
            refine (hG).mono ?_
            rintro e wq5 ⟨hU, v5, rfl, rfl, h1⟩
            have hsz := hu.out.size
            replace hva := hide (CnV.upd (hU) (above_not hlt) _ _ hva.out)
            replace hs := hide h1
            replace hu := hide (hu.out.then hU)
            clear hr hG hU h1 hX2 hsz
            go_wp2_with fail
            refine (leave_any p C d n r5 _ hs.out).mono ?_
            rintro e wq6 ⟨rfl, hU, h1⟩
            replace hva := hide (CnV.upd (hU) (above_not hlt) _ _ hva.out)
            replace hs := hide h1
            replace hu := hide (hu.out.then hU)
            clear hU h1
            go_wp2_with fail
            go_ret
            exact Got.ok hu.out hX.out.symm ⟨hva.out, hs.out⟩
    · have hx1 : nx r [40] = false := by simpa using hx1
      have hX2 := hX.out
      rw [if_neg (by rw [hx1]; exact Bool.false_ne_true)] at hX2
      replace hX := hide hX2
      clear hX2
      have hx1h := hide hx1
      have hI := isNext_any [40] p C d n r _ hs.out
      rw [hx1] at hI
      refine hI.mono ?_
      rintro e wq2 ⟨rfl, hb⟩
      clear hI
      replace hs := hide (hs.out.below hb)
      replace hu := hide (hu.out.then (at_below hb))
      clear hb
      go_wp2_with fail
      by_cases hx2 : isNull r = true
      · have hX2 := hX.out
        rw [if_pos hx2] at hX2
        replace hX := hide hX2
        clear hX2
        have hx2h := hide hx2
        have hI := isNullTest_any p C d n r _ hs.out
        rw [hx2] at hI
        refine hI.mono ?_
        rintro e wq3 ⟨rfl, hb⟩
        clear hI
        replace hs := hide (hs.out.below hb)
        replace hu := hide (hu.out.then (at_below hb))
        clear hb
        go_wp2_with fail
        have hG := nullTest_any f p C d n r _ hs.out
        cases hr : nullP r with
        | no =>
          have hX2 := hX.out
          rw [hr] at hX2
          try simp only [bind_no] at hX2
          exact absurd hX2.symm hno.out
        | er r9 k9 =>
          rw [hr] at hG
          have hX2 := hX.out
          rw [hr] at hX2
          try simp only [bind_er] at hX2
          replace hX := hide hX2
          refine (hG (fun e => by cases e)).mono ?_
          rintro e wq4 ⟨hU, rfl⟩
          replace hu := hide (hu.out.then hU)
          clear hr hG hU hX2
          go_wp2_with fail
          refine ⟨rfl, ?_⟩
          exact Got.er hu.out hX.out.symm
        | ok a4 r4 =>
          rw [hr] at hG
          have hX2 := hX.out
          rw [hr] at hX2
          try simp only [bind_ok] at hX2
          replace hX := hide hX2
          refine (hG (fun e => by cases e)).mono ?_
          rintro e wq4 ⟨hU, v4, rfl, hv, h1⟩
          have hsz := hu.out.size
          have hva := hide (CnV.mono (S' := (w.heap.size ≤ ·)) (fun b _ hb => Nat.le_trans hsz hb) _ _ hv)
          clear hv
          obtain ⟨gv4, rfl⟩ := hva.out.ptr
          replace hs := hide h1
          replace hu := hide (hu.out.then hU)
          clear hr hG hU h1 hX2 hsz
          go_wp2_with fail
          go_ret
          exact Got.ok hu.out hX.out.symm ⟨hva.out, hs.out⟩
      · have hx2 : isNull r = false := by simpa using hx2
        have hX2 := hX.out
        rw [if_neg (by rw [hx2]; exact Bool.false_ne_true)] at hX2
        replace hX := hide hX2
        clear hX2
        have hx2h := hide hx2
        have hI := isNullTest_any p C d n r _ hs.out
        rw [hx2] at hI
        refine hI.mono ?_
        rintro e wq3 ⟨rfl, hb⟩
        clear hI
        replace hs := hide (hs.out.below hb)
        replace hu := hide (hu.out.then (at_below hb))
        clear hb
        go_wp2_with fail
        have hG := comparison_any f p C d n r _ hs.out
        cases hr : cmpP f d r with
        | no =>
          have hX2 := hX.out
          rw [hr] at hX2
          try simp only [bind_no] at hX2
          exact absurd hX2.symm hno.out
        | er r9 k9 =>
          rw [hr] at hG
          have hX2 := hX.out
          rw [hr] at hX2
          try simp only [bind_er] at hX2
          replace hX := hide hX2
          refine (hG (fun e => by cases e)).mono ?_
          rintro e wq4 ⟨hU, rfl⟩
          replace hu := hide (hu.out.then hU)
          clear hr hG hU hX2
          go_wp2_with fail
          refine ⟨rfl, ?_⟩
          exact Got.er hu.out hX.out.symm
        | ok a4 r4 =>
          rw [hr] at hG
          have hX2 := hX.out
          rw [hr] at hX2
          try simp only [bind_ok] at hX2
          replace hX := hide hX2
          refine (hG (fun e => by cases e)).mono ?_
          rintro e wq4 ⟨hU, v4, rfl, hv, h1⟩
          have hsz := hu.out.size
          have hva := hide (CnV.mono (S' := (w.heap.size ≤ ·)) (fun b _ hb => Nat.le_trans hsz hb) _ _ hv)
          clear hv
          obtain ⟨gv4, rfl⟩ := hva.out.ptr
          replace hs := hide h1
          replace hu := hide (hu.out.then hU)
          clear hr hG hU h1 hX2 hsz
          go_wp2_with fail
          go_ret
          exact Got.ok hu.out hX.out.symm ⟨hva.out, hs.out⟩
theorem not_ok : ∀ f, NotOK f
  | 0 => fun _ _ _ _ _ _ _ hno => absurd rfl hno
  | f + 1 => not_succ f (not_ok f) (cond_of f (and_of f (not_ok f)))
theorem cond_ok (f : Nat) : CondOK f := cond_of f (and_of f (not_ok f))
end Go.Proofs.YteplkhgaoaphhaaGreatDoor
