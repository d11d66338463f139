/- Part 14 of the walks (merged): PsN1. -/
import Derived.Test.YteplkhgaoaphhaaGreatDoorM10
import Derived.Test.YteplkhgaoaphhaaGreatDoorM13
/- Walks of the parser's methods for blocks. Written by mkblock.py. -/
namespace Go.Proofs.YteplkhgaoaphhaaGreatDoor
open Go Go.RowKit Go.Lib

/-- A block's statements in memory. -/
def BlkV (w : World) (S : Nat → Prop) (l : List Sm) (v : Value) : Prop := ∃ uss, SlcV w S l.length uss v ∧ SmsV w S l uss
section
variable {w w' : World} {S S' F : Nat → Prop}
theorem BlkV.upd (hu : Upd F w w') (hS : ∀ b, S b → ¬ F b) (l : List Sm) (v : Value) (h : BlkV w S l v) : BlkV w' S l v := by
  obtain ⟨uss, h1, h2⟩ := h
  exact ⟨uss, h1.upd hu hS, SmsV.upd hu hS _ _ h2⟩
theorem BlkV.mono (hS : ∀ b, b < w.heap.size → S b → S' b) (l : List Sm) (v : Value) (h : BlkV w S l v) : BlkV w S' l v := by
  obtain ⟨uss, h1, h2⟩ := h
  exact ⟨uss, h1.mono hS (sms_ne h2), SmsV.mono hS _ _ h2⟩
theorem BlkV.slc {l : List Sm} {v : Value} (h : BlkV w S l v) : ∃ A m c, v = .slice A m c := by
  obtain ⟨uss, h1, -⟩ := h
  exact h1.slc
theorem BlkV.nil_ (w : World) (S : Nat → Prop) : BlkV w S [] (.slice none 0 0) := ⟨[], slc_nil w S, by unfold SmsV; rfl⟩
theorem sm_blk {k : Nat} {c : Option Cn} {t e : List Sm} {a : Nat} {vc vt ve : Value} (hc : OptC w S c vc) (ht : BlkV w S t vt) (he : BlkV w S e ve) :
    SmV w S (.mk k [] [] none none c [] t e a) [.int .i64 k, .string (strB []), .string (strB []), .pointer none, .pointer none, vc, .slice none 0 0, vt, ve, .int .i64 a] := by
  obtain ⟨ut, h1, h2⟩ := ht
  obtain ⟨ue, h3, h4⟩ := he
  unfold SmV
  exact ⟨_, _, vc, _, vt, ve, ut, ue, rfl, rfl, rfl, hc, list_nil w S, h1, h2, h3, h4⟩
end
/-- A statement is told, but for its number; how many there are then. -/
def SmRN (p : Nat) (C : Cx) (d B a : Nat) (v : Value) (w : World) (s : Sm × Nat) (r : List Tok) : Prop :=
  (∃ (k : Nat) (x y : ByteArray) (pe pf pc a1 : Option Addr) (n1 c1 : Nat) (a2 : Option Addr) (n2 c2 : Nat) (a3 : Option Addr) (n3 c3 : Nat), v = .agg #[.int .i64 k, .string x, .string y, .pointer pe, .pointer pf, .pointer pc, .slice a1 n1 c1, .slice a2 n2 c2, .slice a3 n3 c3, .int .i64 0] ∧ SmV w (B ≤ ·) s.1 [.int .i64 k, .string x, .string y, .pointer pe, .pointer pf, .pointer pc, .slice a1 n1 c1, .slice a2 n2 c2, .slice a3 n3 c3, .int .i64 a]) ∧ PsW w p C d s.2 r
/-- A statement is told. -/
def SmN (p : Nat) (C : Cx) (d B : Nat) (v : Value) (w : World) (s : Sm × Nat) (r : List Tok) : Prop :=
  (∃ (k : Nat) (x y : ByteArray) (pe pf pc a1 : Option Addr) (n1 c1 : Nat) (a2 : Option Addr) (n2 c2 : Nat) (a3 : Option Addr) (n3 c3 : Nat) (a : Nat), v = .agg #[.int .i64 k, .string x, .string y, .pointer pe, .pointer pf, .pointer pc, .slice a1 n1 c1, .slice a2 n2 c2, .slice a3 n3 c3, .int .i64 a] ∧ SmV w (B ≤ ·) s.1 [.int .i64 k, .string x, .string y, .pointer pe, .pointer pf, .pointer pc, .slice a1 n1 c1, .slice a2 n2 c2, .slice a3 n3 c3, .int .i64 a]) ∧ PsW w p C d s.2 r
/-- Statements are told. -/
def SmsR (p : Nat) (C : Cx) (d B : Nat) (v : Value) (w : World) (l : List Sm × Nat) (r : List Tok) : Prop := BlkV w (B ≤ ·) l.1 v ∧ PsW w p C d l.2 r
theorem Got.withN {p : Nat} {C : Cx} {d n B a : Nat} {w w' : World} {X : Rs Sm} {e : Ending} (h : Got p C w (SmR p C d n B a) X e w') : Got p C w (SmRN p C d B a) (withN n X) e w' := by
  cases X with
  | ok s r => exact h
  | er r k => exact h
  | no => exact h
theorem stmt_info : (Tryz.prog.info? 58).map (fun i => (i.zero, i.size, i.bytes)) = some (some (.agg #[.int .i64 0, .string .empty, .string .empty, .pointer none, .pointer none, .pointer none, .slice none 0 0, .slice none 0 0, .slice none 0 0, .int .i64 0]), 10, 144) := by kernel_rfl

def StmtOK (f : Nat) : Prop := ∀ (p : Nat) (C : Cx) (d n : Nat) (r : List Tok) (w : World), PsW w p C d n r → stm f d n r ≠ .no →
  Calls Tryz.prog 78 #[.pointer (some ⟨p, 0, none⟩)] w fun e w' => Got p C w (SmN p C d w.heap.size) (stm f d n r) e w'

def StmtsOK (f : Nat) : Prop := ∀ (p : Nat) (C : Cx) (d n : Nat) (r : List Tok) (w : World), PsW w p C d n r → stmsOf (stm f d) f [] n r ≠ .no →
  Calls Tryz.prog 51 #[.pointer (some ⟨p, 0, none⟩)] w fun e w' => Got p C w (SmsR p C d w.heap.size) (stmsOf (stm f d) f [] n r) e w'

def BlockOK (f : Nat) : Prop := ∀ (p : Nat) (C : Cx) (d n : Nat) (r : List Tok) (w : World), PsW w p C d n r → blockOf (stm f (d + 1)) f d n r ≠ .no →
  Calls Tryz.prog 117 #[.pointer (some ⟨p, 0, none⟩)] w fun e w' => Got p C w (SmsR p C d w.heap.size) (blockOf (stm f (d + 1)) f d n r) e w'

theorem stms_end {s : Nat → List Tok → Rs (Sm × Nat)} {g : Nat} {l : List Sm} {n : Nat} {r : List Tok} (h : nx r [125] = true) : stmsOf s (g + 1) l n r = .ok (l, n) r.tail := by
  conv => lhs; unfold stmsOf
  rw [if_pos h]
theorem stms_more {s : Nat → List Tok → Rs (Sm × Nat)} {g : Nat} {l : List Sm} {n : Nat} {r : List Tok} (h : nx r [125] = false) : stmsOf s (g + 1) l n r = (s n r).bind fun x r => stmsOf s g (l ++ [x.1]) x.2 r := by
  conv => lhs; unfold stmsOf
  rw [if_neg (by rw [h]; exact Bool.false_ne_true)]

set_option maxRecDepth 100000 in
set_option maxHeartbeats 3200000 in
theorem stmtsToEnd_of (f : Nat) (hf : f ≤ 1000000) (hU : StmtOK f) : StmtsOK f := by
  intro p C d n r w h hno
  generalize hX : stmsOf (stm f d) f [] n r = X at hno ⊢
  have htk := hide h.tokLt
  have hlt := h.lt
  have hu := hide (Upd.refl (At p) w)
  have hs := hide h
  replace hX := hide hX
  replace hno := hide hno
  replace hU := hide hU
  clear h
  go_enter Tryz.func51, Tryz.ntmps51
  go_wp2_with fail
  go_loopg [3] f (fun k v wr => ∃ (l : List Sm) (n : Nat) (r : List Tok), Upd (At p) w wr ∧ RowS wr w.heap.size 58 10 SmV l v ∧ PsW wr p C d n r ∧ l.length + k ≤ f ∧ stmsOf (stm f d) k l n r = X)
  case atStart => exact ⟨[], n, r, hu.out, RowS.nil_ _ _ _ _ _, hs.out, by simp, hX.out⟩
  case round =>
    clear hu hs hX
    obtain ⟨l, n, r, hu, hrow, hs, hlk, hX⟩ := hrel
    cases gk with
    | zero => exact absurd hX.symm hno.out
    | succ g =>
      obtain ⟨A1, c1, rfl⟩ := hrow.slice
      replace hu := hide hu
      replace hrow := hide hrow
      replace hs := hide hs
      have hlk2 : l.length ≤ 1000000 := by omega
      replace hlk := hide hlk
      replace hX := hide hX
      go_wp2_with fail
      by_cases hx40 : nx r [125] = true
      · have hne := hide (nx_ne hx40 (by decide))
        refine (accept_yes [125] (by decide) p C d n r _ hs.out hx40).mono ?_
        rintro e wq41 ⟨rfl, hU, h1⟩
        replace hx40 := hide hx40
        replace hrow := hide (hrow.out.upd smFam (hU) (above_not hlt))
        replace hs := hide h1
        replace hu := hide (hu.out.then hU)
        clear hU h1
        go_wp2_with fail
        have hX2 := hX.out
        rw [stms_end hx40.out] at hX2
        replace hX := hide hX2
        clear hX2
        go_ret
        exact Got.ok hu.out hX.out.symm ⟨hrow.out.sms, hs.out⟩
      · have hx40 : nx r [125] = false := by simpa using hx40
        refine (accept_no [125] p C d n r _ hs.out hx40).mono ?_
        rintro e wq41 ⟨rfl, hU, h1⟩
        replace hx40 := hide hx40
        replace hrow := hide (hrow.out.upd smFam (hU) (above_not hlt))
        replace hs := hide h1
        replace hu := hide (hu.out.then hU)
        clear hU h1
        go_wp2_with fail
        have hX2 := hX.out
        rw [stms_more hx40.out] at hX2
        replace hX := hide hX2
        clear hX2
        have hG := hU.out p C d n r _ hs.out
        cases hr : stm f d n r with
        | no =>
          have hX2 := hX.out
          rw [hr] at hX2
          try simp only [bind_no] at hX2
          exact absurd hX2.symm hno.out
        | er r9 k9 =>
          rw [hr] at hG
          have hX2 := hX.out
          rw [hr] at hX2
          try simp only [bind_er] at hX2
          replace hX := hide hX2
          refine (hG (fun e => by cases e)).mono ?_
          rintro e wq42 ⟨hU, rfl⟩
          replace hu := hide (hu.out.then hU)
          clear hr hG hU hX2
          go_wp2_with fail
          refine ⟨rfl, ?_⟩
          exact Got.er hu.out hX.out.symm
        | ok a42 r42 =>
          rw [hr] at hG
          have hX2 := hX.out
          rw [hr] at hX2
          try simp only [bind_ok] at hX2
          replace hX := hide hX2
          refine (hG (fun e => by cases e)).mono ?_
          rintro e wq42 ⟨hU, v42, rfl, ⟨k1, x1, y1, pe, pf, pc, sa1, sn1, sc1, sa2, sn2, sc2, sa3, sn3, sc3, a9, rfl, hv⟩, h1⟩
          have hsz := hu.out.size
          have hold := fun k hk => (hrow.out.own k hk).2
          replace hrow := hide (hrow.out.upd smFam (hU) (above_not hlt))
          have hva := hide (SmV.mono (S' := (fun b => w.heap.size ≤ b ∧ (Value.slice A1 l.length c1).ownBlock ≠ some b)) (fun b _ hb => ⟨Nat.le_trans hsz hb, fun e => Nat.lt_irrefl _ (Nat.lt_of_lt_of_le (hold b e) hb)⟩) _ _ hv)
          clear hv
          replace hs := hide h1
          replace hu := hide (hu.out.then hU)
          clear hr hG hU h1 hX2 hsz hold
          have hnew := hide (heap_new wq42 (.cells #[.int .i64 k1, .string x1, .string y1, .pointer pe, .pointer pf, .pointer pc, .slice sa1 sn1 sc1, .slice sa2 sn2 sc2, .slice sa3 sn3 sc3, .int .i64 a9] 58))
          have hbs := hide hu.out.size
          replace hs := hide (hs.out.alloc (.cells #[.int .i64 k1, .string x1, .string y1, .pointer pe, .pointer pf, .pointer pc, .slice sa1 sn1 sc1, .slice sa2 sn2 sc2, .slice sa3 sn3 sc3, .int .i64 a9] 58))
          replace hrow := hide (hrow.out.upd smFam (Upd.alloc (fun _ => False) wq42 (.cells #[.int .i64 k1, .string x1, .string y1, .pointer pe, .pointer pf, .pointer pc, .slice sa1 sn1 sc1, .slice sa2 sn2 sc2, .slice sa3 sn3 sc3, .int .i64 a9] 58)) fun _ _ => id)
          replace hu := hide (hu.out.then (Upd.alloc (At p) wq42 (.cells #[.int .i64 k1, .string x1, .string y1, .pointer pe, .pointer pf, .pointer pc, .slice sa1 sn1 sc1, .slice sa2 sn2 sc2, .slice sa3 sn3 sc3, .int .i64 a9] 58)))
          have hel : Hid (SmV (wq42.alloc (.cells #[.int .i64 k1, .string x1, .string y1, .pointer pe, .pointer pf, .pointer pc, .slice sa1 sn1 sc1, .slice sa2 sn2 sc2, .slice sa3 sn3 sc3, .int .i64 a9] 58)) (fun b => w.heap.size ≤ b ∧ (Value.slice A1 l.length c1).ownBlock ≠ some b) a42.1 [.int .i64 k1, .string x1, .string y1, .pointer pe, .pointer pf, .pointer pc, .slice sa1 sn1 sc1, .slice sa2 sn2 sc2, .slice sa3 sn3 sc3, .int .i64 a9]) := hide (SmV.upd (Upd.alloc (fun _ => False) _ _) (fun _ _ => id) _ _ hva.out)
          have hown := hrow.out.own
          replace hown := hide hown
          go_wp2_with (
            at_builtin
            refine wp_row smFam 25 58 (.agg #[.int .i64 0, .string .empty, .string .empty, .pointer none, .pointer none, .pointer none, .slice none 0 0, .slice none 0 0, .slice none 0 0, .int .i64 0]) 10 144 Tryz.underlying25 stmt_info rfl (by decide) (by decide) rfl (.tmp 9) (.tmp 12) rfl w.heap.size (.slice A1 l.length c1) _ rfl hrow.out wq42.heap.size 1 rfl (a42.1) [.int .i64 k1, .string x1, .string y1, .pointer pe, .pointer pf, .pointer pc, .slice sa1 sn1 sc1, .slice sa2 sn2 sc2, .slice sa3 sn3 sc3, .int .i64 a9] rfl ?_ hel.out ?_ ?_ ?_
            · intro j u hj
              rw [cell_at hnew.out]
              simpa using hj
            · exact hlk2
            · exact hu.out.size
            intro v9 w9 hrow9 hu9)
          replace hs := hide (hs.out.row_ hu9 (fun k hk => (hown.out k hk).1) hlt htk.out)
          replace hu := hide (hu.out.row_ hu9 fun k hk => (hown.out k hk).1)
          replace hrow9 := hide hrow9
          clear hu9 hel hnew hown hbs
          go_wp2_with fail
          go_roundg g
          case measure => omega
          case rel => exact ⟨l ++ [a42.1], a42.2, r42, hu.out, hrow9.out, hs.out, by have := hlk.out; simp; omega, hX.out⟩

set_option maxRecDepth 100000 in
set_option maxHeartbeats 3200000 in
theorem block_of (f : Nat) (hU : StmtsOK f) : BlockOK f := by
  intro p C d n r w h hno
  generalize hX : blockOf (stm f (d + 1)) f d n r = X at hno ⊢
  unfold blockOf at hX
  have hlt := h.lt
  have hu := hide (Upd.refl (At p) w)
  have hs := hide h
  replace hX := hide hX
  replace hno := hide hno
  replace hU := hide hU
  clear h
  go_enter Tryz.func117, Tryz.ntmps117
  go_wp2_with fail
  have hG := enter_any [123] (by decide) p C d n r _ hs.out
  cases hr : enterP [123] d r with
  | no =>
    have hX2 := hX.out
    rw [hr] at hX2
    try simp only [bind_no] at hX2
    exact absurd hX2.symm hno.out
  | er r9 k9 =>
    rw [hr] at hG
    have hX2 := hX.out
    rw [hr] at hX2
    try simp only [bind_er] at hX2
    replace hX := hide hX2
    refine (hG).mono ?_
    rintro e wq1 ⟨hU, rfl⟩
    replace hu := hide (hu.out.then hU)
    clear hr hG hU hX2
    go_wp2_with fail
    refine ⟨rfl, ?_⟩
    exact Got.er hu.out hX.out.symm
  | ok a1 r1 =>
    rw [hr] at hG
    have hX2 := hX.out
    rw [hr] at hX2
    try simp only [bind_ok] at hX2
    replace hX := hide hX2
    refine (hG).mono ?_
    rintro e wq1 ⟨hU, v1, rfl, rfl, h1⟩
    have hsz := hu.out.size
    replace hs := hide h1
    replace hu := hide (hu.out.then hU)
    clear hr hG hU h1 hX2 hsz
    go_wp2_with fail
    have hG := hU.out p C (d + 1) n r1 _ hs.out
    cases hr : stmsOf (stm f (d + 1)) f [] n r1 with
    | no =>
      have hX2 := hX.out
      rw [hr] at hX2
      try simp only [bind_no] at hX2
      exact absurd hX2.symm hno.out
    | er r9 k9 =>
      rw [hr] at hG
      have hX2 := hX.out
      rw [hr] at hX2
      try simp only [bind_er] at hX2
      replace hX := hide hX2
      refine (hG (fun e => by cases e)).mono ?_
      rintro e wq2 ⟨hU, rfl⟩
      replace hu := hide (hu.out.then hU)
      clear hr hG hU hX2
      go_wp2_with fail
      refine ⟨rfl, ?_⟩
      exact Got.er hu.out hX.out.symm
    | ok a2 r2 =>
      rw [hr] at hG
      have hX2 := hX.out
      rw [hr] at hX2
      try simp only [bind_ok] at hX2
      replace hX := hide hX2
      refine (hG (fun e => by cases e)).mono ?_
      rintro e wq2 ⟨hU, v2, rfl, hv, h1⟩
      have hsz := hu.out.size
      have hva := hide (BlkV.mono (S' := (w.heap.size ≤ ·)) (fun b _ hb => Nat.le_trans hsz hb) _ _ hv)
      clear hv
      obtain ⟨Ahva, mhva, chva, rfl⟩ := hva.out.slc
      replace hs := hide h1
      replace hu := hide (hu.out.then hU)
      clear hr hG hU h1 hX2 hsz
      go_wp2_with fail
      refine (leave_any p C d a2.2 r2 _ hs.out).mono ?_
      rintro e wq3 ⟨rfl, hU, h1⟩
      replace hva := hide (BlkV.upd (hU) (above_not hlt) _ _ hva.out)
      replace hs := hide h1
      replace hu := hide (hu.out.then hU)
      clear hU h1
      go_wp2_with fail
      go_ret
      exact Got.ok hu.out hX.out.symm ⟨hva.out, hs.out⟩

def ChoiceOK (f : Nat) : Prop := ∀ (p : Nat) (C : Cx) (d a n : Nat) (r : List Tok) (w : World), PsW w p C d n r → ifP (stm f (d + 1)) f d a n r ≠ .no →
  Calls Tryz.prog 105 #[.pointer (some ⟨p, 0, none⟩)] w fun e w' => Got p C w (SmRN p C d w.heap.size a) (ifP (stm f (d + 1)) f d a n r) e w'

def LoopOK (f : Nat) : Prop := ∀ (p : Nat) (C : Cx) (d a n : Nat) (r : List Tok) (w : World), PsW w p C d n r → whileP (stm f (d + 1)) f d a n r ≠ .no →
  Calls Tryz.prog 106 #[.pointer (some ⟨p, 0, none⟩)] w fun e w' => Got p C w (SmRN p C d w.heap.size a) (whileP (stm f (d + 1)) f d a n r) e w'

set_option maxRecDepth 100000 in
set_option maxHeartbeats 3200000 in
theorem loop_of (f : Nat) (hB : BlockOK f) : LoopOK f := by
  intro p C d a n r w h hno
  generalize hX : whileP (stm f (d + 1)) f d a n r = X at hno ⊢
  unfold whileP at hX
  have hlt := h.lt
  have htk := hide h.tokLt
  have hrp : w.heap.size ≠ p := by omega
  replace hB := hide hB
  have hu := hide (Upd.refl (At p) (w.alloc (.cells #[.int .i64 0, .string ⟨#[]⟩, .string ⟨#[]⟩, .pointer none, .pointer none, .pointer none, .slice none 0 0, .slice none 0 0, .slice none 0 0, .int .i64 0] 58)))
  have hs := hide (h.alloc (.cells #[.int .i64 0, .string ⟨#[]⟩, .string ⟨#[]⟩, .pointer none, .pointer none, .pointer none, .slice none 0 0, .slice none 0 0, .slice none 0 0, .int .i64 0] 58))
  replace hX := hide hX
  replace hno := hide hno
  have hrs := hide (heap_new w (.cells #[.int .i64 0, .string ⟨#[]⟩, .string ⟨#[]⟩, .pointer none, .pointer none, .pointer none, .slice none 0 0, .slice none 0 0, .slice none 0 0, .int .i64 0] 58))
  have hw0 : w.heap.size < (w.alloc (.cells #[.int .i64 0, .string ⟨#[]⟩, .string ⟨#[]⟩, .pointer none, .pointer none, .pointer none, .slice none 0 0, .slice none 0 0, .slice none 0 0, .int .i64 0] 58)).heap.size := by simp
  clear h
  go_enter Tryz.func106, Tryz.ntmps106
  go_wp2_with fail
  have hG := expect_any [119, 104, 105, 108, 101] (by decide) p C d n r _ hs.out
  cases hr : want [119, 104, 105, 108, 101] r with
  | no =>
    have hX2 := hX.out
    rw [hr] at hX2
    try simp only [bind_no] at hX2
    exact absurd hX2.symm hno.out
  | er r9 k9 =>
    rw [hr] at hG
    have hX2 := hX.out
    rw [hr] at hX2
    try simp only [bind_er] at hX2
    replace hX := hide hX2
    refine (hG).mono ?_
    rintro e wq1 ⟨hU, rfl⟩
    replace hu := hide (hu.out.then hU)
    clear hr hG hU hX2
    go_wp2_with fail
    refine ⟨rfl, ?_⟩
    exact Got.er ((Upd.alloc (At p) w _).then hu.out) hX.out.symm
  | ok a1 r1 =>
    rw [hr] at hG
    have hX2 := hX.out
    rw [hr] at hX2
    try simp only [bind_ok] at hX2
    replace hX := hide hX2
    refine (hG).mono ?_
    rintro e wq1 ⟨hU, v1, rfl, rfl, h1⟩
    have hsz := hu.out.size
    replace hrs := hide ((hU).heap hrs.out hrp)
    replace hs := hide h1
    replace hu := hide (hu.out.then hU)
    clear hr hG hU h1 hX2 hsz
    go_wp2_with fail
    have hG := test_ok f p C d n r1 _ hs.out
    cases hr : testP f d r1 with
    | no =>
      have hX2 := hX.out
      rw [hr] at hX2
      try simp only [bind_no] at hX2
      exact absurd hX2.symm hno.out
    | er r9 k9 =>
      rw [hr] at hG
      have hX2 := hX.out
      rw [hr] at hX2
      try simp only [bind_er] at hX2
      replace hX := hide hX2
      refine (hG (fun e => by cases e)).mono ?_
      rintro e wq2 ⟨hU, rfl⟩
      replace hu := hide (hu.out.then hU)
      clear hr hG hU hX2
      go_wp2_with fail
      refine ⟨rfl, ?_⟩
      exact Got.er ((Upd.alloc (At p) w _).then hu.out) hX.out.symm
    | ok a2 r2 =>
      rw [hr] at hG
      have hX2 := hX.out
      rw [hr] at hX2
      try simp only [bind_ok] at hX2
      replace hX := hide hX2
      refine (hG (fun e => by cases e)).mono ?_
      rintro e wq2 ⟨hU, v2, rfl, hv, h1⟩
      have hsz := hu.out.size
      replace hrs := hide ((hU).heap hrs.out hrp)
      have hva := hide (CnV.mono (S' := (w.heap.size < ·)) (fun b _ hb => Nat.lt_of_lt_of_le (Nat.lt_of_lt_of_le hw0 hsz) hb) _ _ hv)
      clear hv
      obtain ⟨gv2, rfl⟩ := hva.out.ptr
      replace hs := hide h1
      replace hu := hide (hu.out.then hU)
      clear hr hG hU h1 hX2 hsz
      have hbx := hide (heap_new wq2 (.cells #[.int .i64 11, .string ⟨#[]⟩, .string ⟨#[]⟩, .pointer none, .pointer none, .pointer (some ⟨gv2, 0, none⟩), .slice none 0 0, .slice none 0 0, .slice none 0 0, .int .i64 0] 58))
      have hgw : w.heap.size < wq2.heap.size := Nat.lt_of_lt_of_le hw0 hu.out.size
      have hgp : wq2.heap.size ≠ p := by omega
      replace hva := hide (CnV.mono (S' := (fun b => w.heap.size < b ∧ b ≠ wq2.heap.size)) (fun b hb h => ⟨h, Nat.ne_of_lt hb⟩) _ _ hva.out)
      replace hva := hide (CnV.upd (Upd.alloc (fun _ => False) _ (.cells #[.int .i64 11, .string ⟨#[]⟩, .string ⟨#[]⟩, .pointer none, .pointer none, .pointer (some ⟨gv2, 0, none⟩), .slice none 0 0, .slice none 0 0, .slice none 0 0, .int .i64 0] 58)) (fun _ _ => id) _ _ hva.out)
      replace hs := hide (hs.out.alloc (.cells #[.int .i64 11, .string ⟨#[]⟩, .string ⟨#[]⟩, .pointer none, .pointer none, .pointer (some ⟨gv2, 0, none⟩), .slice none 0 0, .slice none 0 0, .slice none 0 0, .int .i64 0] 58))
      replace hrs := hide (heap_old hrs.out (.cells #[.int .i64 11, .string ⟨#[]⟩, .string ⟨#[]⟩, .pointer none, .pointer none, .pointer (some ⟨gv2, 0, none⟩), .slice none 0 0, .slice none 0 0, .slice none 0 0, .int .i64 0] 58))
      replace hu := hide (hu.out.then (Upd.alloc (At p) _ (.cells #[.int .i64 11, .string ⟨#[]⟩, .string ⟨#[]⟩, .pointer none, .pointer none, .pointer (some ⟨gv2, 0, none⟩), .slice none 0 0, .slice none 0 0, .slice none 0 0, .int .i64 0] 58)))
      have hgu : (w.alloc (.cells #[.int .i64 0, .string ⟨#[]⟩, .string ⟨#[]⟩, .pointer none, .pointer none, .pointer none, .slice none 0 0, .slice none 0 0, .slice none 0 0, .int .i64 0] 58)).heap.size ≤ wq2.heap.size := by simp; omega
      go_wp2_with fail
      have hG := hB.out p C d n r2 _ hs.out
      cases hr : blockOf (stm f (d + 1)) f d n r2 with
      | no =>
        have hX2 := hX.out
        rw [hr] at hX2
        try simp only [bind_no] at hX2
        exact absurd hX2.symm hno.out
      | er r9 k9 =>
        rw [hr] at hG
        have hX2 := hX.out
        rw [hr] at hX2
        try simp only [bind_er] at hX2
        replace hX := hide hX2
        refine (hG (fun e => by cases e)).mono ?_
        rintro e wq3 ⟨hU, rfl⟩
        replace hu := hide (hu.out.then hU)
        clear hr hG hU hX2
        go_wp2_with fail
        refine ⟨rfl, ?_⟩
        exact Got.er ((Upd.alloc (At p) w _).then hu.out) hX.out.symm
      | ok a3 r3 =>
        rw [hr] at hG
        have hX2 := hX.out
        rw [hr] at hX2
        try simp only [bind_ok] at hX2
        replace hX := hide hX2
        refine (hG (fun e => by cases e)).mono ?_
        rintro e wq3 ⟨hU, v3, rfl, hv, h1⟩
        have hsz := hu.out.size
        have hold := (Array.getElem?_eq_some_iff.1 hbx.out).1
        replace hva := hide (CnV.upd (hU) (fun b hb => above_not hlt b (Nat.le_of_lt hb.1)) _ _ hva.out)
        replace hrs := hide ((hU).heap hrs.out hrp)
        replace hbx := hide ((hU).heap hbx.out hgp)
        have hvt := hide (BlkV.mono (S' := (fun b => w.heap.size < b ∧ b ≠ wq2.heap.size)) (fun b _ hb => ⟨Nat.lt_of_lt_of_le (Nat.lt_of_lt_of_le hw0 hsz) hb, fun e => by omega⟩) _ _ hv)
        clear hv
        obtain ⟨Ahvt, mhvt, chvt, rfl⟩ := hvt.out.slc
        replace hs := hide h1
        replace hu := hide (hu.out.then hU)
        clear hr hG hU h1 hX2 hsz hold
        have cj := cell_at hbx.out 7
        simp at cj
        have fj := frozen_at hbx.out 7
        have hb2 : (wq3.setCell ⟨wq2.heap.size, 7, none⟩ (.slice Ahvt mhvt chvt)).heap[wq2.heap.size]? = some (.cells #[.int .i64 11, .string ⟨#[]⟩, .string ⟨#[]⟩, .pointer none, .pointer none, .pointer (some ⟨gv2, 0, none⟩), .slice none 0 0, .slice Ahvt mhvt chvt, .slice none 0 0, .int .i64 0] 58 (0, 0)) := heap_set hbx.out 7 _
        replace hbx := hide hb2
        clear hb2
        replace hva := hide (CnV.upd (set_upd wq3 (wq2.heap.size) 7 (.slice Ahvt mhvt chvt)) (fun b hb => hb.2) _ _ hva.out)
        replace hvt := hide (BlkV.upd (set_upd wq3 (wq2.heap.size) 7 (.slice Ahvt mhvt chvt)) (fun b hb => hb.2) _ _ hvt.out)
        replace hrs := hide ((set_upd wq3 (wq2.heap.size) 7 (.slice Ahvt mhvt chvt)).heap hrs.out (by simp only [At]; omega))
        replace hs := hide (hs.out.setNew hlt htk.out (Nat.le_of_lt hgw) 7 (.slice Ahvt mhvt chvt))
        replace hu := hide (hu.out.setNew (hgu) 7 (.slice Ahvt mhvt chvt))
        have cc0 := cell_at hbx.out 0
        have cc1 := cell_at hbx.out 1
        have cc2 := cell_at hbx.out 2
        have cc3 := cell_at hbx.out 3
        have cc4 := cell_at hbx.out 4
        have cc5 := cell_at hbx.out 5
        have cc6 := cell_at hbx.out 6
        have cc7 := cell_at hbx.out 7
        have cc8 := cell_at hbx.out 8
        have cc9 := cell_at hbx.out 9
        simp at cc0 cc1 cc2 cc3 cc4 cc5 cc6 cc7 cc8 cc9
        have rr0 := hrs.out
        have dd0 := cell_at rr0 0
        have ff0 := frozen_at rr0 0
        have rr1 : ((wq3.setCell ⟨wq2.heap.size, 7, none⟩ (.slice Ahvt mhvt chvt)).setCell ⟨w.heap.size, 0, none⟩ (.int .i64 11)).heap[w.heap.size]? = some (.cells #[.int .i64 11, .string ⟨#[]⟩, .string ⟨#[]⟩, .pointer none, .pointer none, .pointer none, .slice none 0 0, .slice none 0 0, .slice none 0 0, .int .i64 0] 58 (0, 0)) := heap_set rr0 0 _
        have kk0 : ((wq3.setCell ⟨wq2.heap.size, 7, none⟩ (.slice Ahvt mhvt chvt)).setCell ⟨w.heap.size, 0, none⟩ (.int .i64 11)).cell? ⟨w.heap.size, 0, none⟩ = some (.int .i64 11) := cell_at rr1 0
        replace kk0 := hide kk0
        have dd1 := cell_at rr1 1
        have ff1 := frozen_at rr1 1
        have rr2 : (((wq3.setCell ⟨wq2.heap.size, 7, none⟩ (.slice Ahvt mhvt chvt)).setCell ⟨w.heap.size, 0, none⟩ (.int .i64 11)).setCell ⟨w.heap.size, 1, none⟩ (.string ⟨#[]⟩)).heap[w.heap.size]? = some (.cells #[.int .i64 11, .string ⟨#[]⟩, .string ⟨#[]⟩, .pointer none, .pointer none, .pointer none, .slice none 0 0, .slice none 0 0, .slice none 0 0, .int .i64 0] 58 (0, 0)) := heap_set rr1 1 _
        have kk1 : (((wq3.setCell ⟨wq2.heap.size, 7, none⟩ (.slice Ahvt mhvt chvt)).setCell ⟨w.heap.size, 0, none⟩ (.int .i64 11)).setCell ⟨w.heap.size, 1, none⟩ (.string ⟨#[]⟩)).cell? ⟨w.heap.size, 1, none⟩ = some (.string ⟨#[]⟩) := cell_at rr2 1
        replace kk1 := hide kk1
        have dd2 := cell_at rr2 2
        have ff2 := frozen_at rr2 2
        have rr3 : ((((wq3.setCell ⟨wq2.heap.size, 7, none⟩ (.slice Ahvt mhvt chvt)).setCell ⟨w.heap.size, 0, none⟩ (.int .i64 11)).setCell ⟨w.heap.size, 1, none⟩ (.string ⟨#[]⟩)).setCell ⟨w.heap.size, 2, none⟩ (.string ⟨#[]⟩)).heap[w.heap.size]? = some (.cells #[.int .i64 11, .string ⟨#[]⟩, .string ⟨#[]⟩, .pointer none, .pointer none, .pointer none, .slice none 0 0, .slice none 0 0, .slice none 0 0, .int .i64 0] 58 (0, 0)) := heap_set rr2 2 _
        have kk2 : ((((wq3.setCell ⟨wq2.heap.size, 7, none⟩ (.slice Ahvt mhvt chvt)).setCell ⟨w.heap.size, 0, none⟩ (.int .i64 11)).setCell ⟨w.heap.size, 1, none⟩ (.string ⟨#[]⟩)).setCell ⟨w.heap.size, 2, none⟩ (.string ⟨#[]⟩)).cell? ⟨w.heap.size, 2, none⟩ = some (.string ⟨#[]⟩) := cell_at rr3 2
        replace kk2 := hide kk2
        have dd3 := cell_at rr3 3
        have ff3 := frozen_at rr3 3
        have rr4 : (((((wq3.setCell ⟨wq2.heap.size, 7, none⟩ (.slice Ahvt mhvt chvt)).setCell ⟨w.heap.size, 0, none⟩ (.int .i64 11)).setCell ⟨w.heap.size, 1, none⟩ (.string ⟨#[]⟩)).setCell ⟨w.heap.size, 2, none⟩ (.string ⟨#[]⟩)).setCell ⟨w.heap.size, 3, none⟩ (.pointer none)).heap[w.heap.size]? = some (.cells #[.int .i64 11, .string ⟨#[]⟩, .string ⟨#[]⟩, .pointer none, .pointer none, .pointer none, .slice none 0 0, .slice none 0 0, .slice none 0 0, .int .i64 0] 58 (0, 0)) := heap_set rr3 3 _
        have kk3 : (((((wq3.setCell ⟨wq2.heap.size, 7, none⟩ (.slice Ahvt mhvt chvt)).setCell ⟨w.heap.size, 0, none⟩ (.int .i64 11)).setCell ⟨w.heap.size, 1, none⟩ (.string ⟨#[]⟩)).setCell ⟨w.heap.size, 2, none⟩ (.string ⟨#[]⟩)).setCell ⟨w.heap.size, 3, none⟩ (.pointer none)).cell? ⟨w.heap.size, 3, none⟩ = some (.pointer none) := cell_at rr4 3
        replace kk3 := hide kk3
        have dd4 := cell_at rr4 4
        have ff4 := frozen_at rr4 4
        have rr5 : ((((((wq3.setCell ⟨wq2.heap.size, 7, none⟩ (.slice Ahvt mhvt chvt)).setCell ⟨w.heap.size, 0, none⟩ (.int .i64 11)).setCell ⟨w.heap.size, 1, none⟩ (.string ⟨#[]⟩)).setCell ⟨w.heap.size, 2, none⟩ (.string ⟨#[]⟩)).setCell ⟨w.heap.size, 3, none⟩ (.pointer none)).setCell ⟨w.heap.size, 4, none⟩ (.pointer none)).heap[w.heap.size]? = some (.cells #[.int .i64 11, .string ⟨#[]⟩, .string ⟨#[]⟩, .pointer none, .pointer none, .pointer none, .slice none 0 0, .slice none 0 0, .slice none 0 0, .int .i64 0] 58 (0, 0)) := heap_set rr4 4 _
        have kk4 : ((((((wq3.setCell ⟨wq2.heap.size, 7, none⟩ (.slice Ahvt mhvt chvt)).setCell ⟨w.heap.size, 0, none⟩ (.int .i64 11)).setCell ⟨w.heap.size, 1, none⟩ (.string ⟨#[]⟩)).setCell ⟨w.heap.size, 2, none⟩ (.string ⟨#[]⟩)).setCell ⟨w.heap.size, 3, none⟩ (.pointer none)).setCell ⟨w.heap.size, 4, none⟩ (.pointer none)).cell? ⟨w.heap.size, 4, none⟩ = some (.pointer none) := cell_at rr5 4
        replace kk4 := hide kk4
        have dd5 := cell_at rr5 5
        have ff5 := frozen_at rr5 5
        have rr6 : (((((((wq3.setCell ⟨wq2.heap.size, 7, none⟩ (.slice Ahvt mhvt chvt)).setCell ⟨w.heap.size, 0, none⟩ (.int .i64 11)).setCell ⟨w.heap.size, 1, none⟩ (.string ⟨#[]⟩)).setCell ⟨w.heap.size, 2, none⟩ (.string ⟨#[]⟩)).setCell ⟨w.heap.size, 3, none⟩ (.pointer none)).setCell ⟨w.heap.size, 4, none⟩ (.pointer none)).setCell ⟨w.heap.size, 5, none⟩ (.pointer (some ⟨gv2, 0, none⟩))).heap[w.heap.size]? = some (.cells #[.int .i64 11, .string ⟨#[]⟩, .string ⟨#[]⟩, .pointer none, .pointer none, .pointer (some ⟨gv2, 0, none⟩), .slice none 0 0, .slice none 0 0, .slice none 0 0, .int .i64 0] 58 (0, 0)) := heap_set rr5 5 _
        have kk5 : (((((((wq3.setCell ⟨wq2.heap.size, 7, none⟩ (.slice Ahvt mhvt chvt)).setCell ⟨w.heap.size, 0, none⟩ (.int .i64 11)).setCell ⟨w.heap.size, 1, none⟩ (.string ⟨#[]⟩)).setCell ⟨w.heap.size, 2, none⟩ (.string ⟨#[]⟩)).setCell ⟨w.heap.size, 3, none⟩ (.pointer none)).setCell ⟨w.heap.size, 4, none⟩ (.pointer none)).setCell ⟨w.heap.size, 5, none⟩ (.pointer (some ⟨gv2, 0, none⟩))).cell? ⟨w.heap.size, 5, none⟩ = some (.pointer (some ⟨gv2, 0, none⟩)) := cell_at rr6 5
        replace kk5 := hide kk5
        have dd6 := cell_at rr6 6
        have ff6 := frozen_at rr6 6
        have rr7 : ((((((((wq3.setCell ⟨wq2.heap.size, 7, none⟩ (.slice Ahvt mhvt chvt)).setCell ⟨w.heap.size, 0, none⟩ (.int .i64 11)).setCell ⟨w.heap.size, 1, none⟩ (.string ⟨#[]⟩)).setCell ⟨w.heap.size, 2, none⟩ (.string ⟨#[]⟩)).setCell ⟨w.heap.size, 3, none⟩ (.pointer none)).setCell ⟨w.heap.size, 4, none⟩ (.pointer none)).setCell ⟨w.heap.size, 5, none⟩ (.pointer (some ⟨gv2, 0, none⟩))).setCell ⟨w.heap.size, 6, none⟩ (.slice none 0 0)).heap[w.heap.size]? = some (.cells #[.int .i64 11, .string ⟨#[]⟩, .string ⟨#[]⟩, .pointer none, .pointer none, .pointer (some ⟨gv2, 0, none⟩), .slice none 0 0, .slice none 0 0, .slice none 0 0, .int .i64 0] 58 (0, 0)) := heap_set rr6 6 _
        have kk6 : ((((((((wq3.setCell ⟨wq2.heap.size, 7, none⟩ (.slice Ahvt mhvt chvt)).setCell ⟨w.heap.size, 0, none⟩ (.int .i64 11)).setCell ⟨w.heap.size, 1, none⟩ (.string ⟨#[]⟩)).setCell ⟨w.heap.size, 2, none⟩ (.string ⟨#[]⟩)).setCell ⟨w.heap.size, 3, none⟩ (.pointer none)).setCell ⟨w.heap.size, 4, none⟩ (.pointer none)).setCell ⟨w.heap.size, 5, none⟩ (.pointer (some ⟨gv2, 0, none⟩))).setCell ⟨w.heap.size, 6, none⟩ (.slice none 0 0)).cell? ⟨w.heap.size, 6, none⟩ = some (.slice none 0 0) := cell_at rr7 6
        replace kk6 := hide kk6
        have dd7 := cell_at rr7 7
        have ff7 := frozen_at rr7 7
        have rr8 : (((((((((wq3.setCell ⟨wq2.heap.size, 7, none⟩ (.slice Ahvt mhvt chvt)).setCell ⟨w.heap.size, 0, none⟩ (.int .i64 11)).setCell ⟨w.heap.size, 1, none⟩ (.string ⟨#[]⟩)).setCell ⟨w.heap.size, 2, none⟩ (.string ⟨#[]⟩)).setCell ⟨w.heap.size, 3, none⟩ (.pointer none)).setCell ⟨w.heap.size, 4, none⟩ (.pointer none)).setCell ⟨w.heap.size, 5, none⟩ (.pointer (some ⟨gv2, 0, none⟩))).setCell ⟨w.heap.size, 6, none⟩ (.slice none 0 0)).setCell ⟨w.heap.size, 7, none⟩ (.slice Ahvt mhvt chvt)).heap[w.heap.size]? = some (.cells #[.int .i64 11, .string ⟨#[]⟩, .string ⟨#[]⟩, .pointer none, .pointer none, .pointer (some ⟨gv2, 0, none⟩), .slice none 0 0, .slice Ahvt mhvt chvt, .slice none 0 0, .int .i64 0] 58 (0, 0)) := heap_set rr7 7 _
        have kk7 : (((((((((wq3.setCell ⟨wq2.heap.size, 7, none⟩ (.slice Ahvt mhvt chvt)).setCell ⟨w.heap.size, 0, none⟩ (.int .i64 11)).setCell ⟨w.heap.size, 1, none⟩ (.string ⟨#[]⟩)).setCell ⟨w.heap.size, 2, none⟩ (.string ⟨#[]⟩)).setCell ⟨w.heap.size, 3, none⟩ (.pointer none)).setCell ⟨w.heap.size, 4, none⟩ (.pointer none)).setCell ⟨w.heap.size, 5, none⟩ (.pointer (some ⟨gv2, 0, none⟩))).setCell ⟨w.heap.size, 6, none⟩ (.slice none 0 0)).setCell ⟨w.heap.size, 7, none⟩ (.slice Ahvt mhvt chvt)).cell? ⟨w.heap.size, 7, none⟩ = some (.slice Ahvt mhvt chvt) := cell_at rr8 7
        replace kk7 := hide kk7
        have dd8 := cell_at rr8 8
        have ff8 := frozen_at rr8 8
        have rr9 : ((((((((((wq3.setCell ⟨wq2.heap.size, 7, none⟩ (.slice Ahvt mhvt chvt)).setCell ⟨w.heap.size, 0, none⟩ (.int .i64 11)).setCell ⟨w.heap.size, 1, none⟩ (.string ⟨#[]⟩)).setCell ⟨w.heap.size, 2, none⟩ (.string ⟨#[]⟩)).setCell ⟨w.heap.size, 3, none⟩ (.pointer none)).setCell ⟨w.heap.size, 4, none⟩ (.pointer none)).setCell ⟨w.heap.size, 5, none⟩ (.pointer (some ⟨gv2, 0, none⟩))).setCell ⟨w.heap.size, 6, none⟩ (.slice none 0 0)).setCell ⟨w.heap.size, 7, none⟩ (.slice Ahvt mhvt chvt)).setCell ⟨w.heap.size, 8, none⟩ (.slice none 0 0)).heap[w.heap.size]? = some (.cells #[.int .i64 11, .string ⟨#[]⟩, .string ⟨#[]⟩, .pointer none, .pointer none, .pointer (some ⟨gv2, 0, none⟩), .slice none 0 0, .slice Ahvt mhvt chvt, .slice none 0 0, .int .i64 0] 58 (0, 0)) := heap_set rr8 8 _
        have kk8 : ((((((((((wq3.setCell ⟨wq2.heap.size, 7, none⟩ (.slice Ahvt mhvt chvt)).setCell ⟨w.heap.size, 0, none⟩ (.int .i64 11)).setCell ⟨w.heap.size, 1, none⟩ (.string ⟨#[]⟩)).setCell ⟨w.heap.size, 2, none⟩ (.string ⟨#[]⟩)).setCell ⟨w.heap.size, 3, none⟩ (.pointer none)).setCell ⟨w.heap.size, 4, none⟩ (.pointer none)).setCell ⟨w.heap.size, 5, none⟩ (.pointer (some ⟨gv2, 0, none⟩))).setCell ⟨w.heap.size, 6, none⟩ (.slice none 0 0)).setCell ⟨w.heap.size, 7, none⟩ (.slice Ahvt mhvt chvt)).setCell ⟨w.heap.size, 8, none⟩ (.slice none 0 0)).cell? ⟨w.heap.size, 8, none⟩ = some (.slice none 0 0) := cell_at rr9 8
        replace kk8 := hide kk8
        have dd9 := cell_at rr9 9
        have ff9 := frozen_at rr9 9
        have rr10 : (((((((((((wq3.setCell ⟨wq2.heap.size, 7, none⟩ (.slice Ahvt mhvt chvt)).setCell ⟨w.heap.size, 0, none⟩ (.int .i64 11)).setCell ⟨w.heap.size, 1, none⟩ (.string ⟨#[]⟩)).setCell ⟨w.heap.size, 2, none⟩ (.string ⟨#[]⟩)).setCell ⟨w.heap.size, 3, none⟩ (.pointer none)).setCell ⟨w.heap.size, 4, none⟩ (.pointer none)).setCell ⟨w.heap.size, 5, none⟩ (.pointer (some ⟨gv2, 0, none⟩))).setCell ⟨w.heap.size, 6, none⟩ (.slice none 0 0)).setCell ⟨w.heap.size, 7, none⟩ (.slice Ahvt mhvt chvt)).setCell ⟨w.heap.size, 8, none⟩ (.slice none 0 0)).setCell ⟨w.heap.size, 9, none⟩ (.int .i64 0)).heap[w.heap.size]? = some (.cells #[.int .i64 11, .string ⟨#[]⟩, .string ⟨#[]⟩, .pointer none, .pointer none, .pointer (some ⟨gv2, 0, none⟩), .slice none 0 0, .slice Ahvt mhvt chvt, .slice none 0 0, .int .i64 0] 58 (0, 0)) := heap_set rr9 9 _
        have kk9 : (((((((((((wq3.setCell ⟨wq2.heap.size, 7, none⟩ (.slice Ahvt mhvt chvt)).setCell ⟨w.heap.size, 0, none⟩ (.int .i64 11)).setCell ⟨w.heap.size, 1, none⟩ (.string ⟨#[]⟩)).setCell ⟨w.heap.size, 2, none⟩ (.string ⟨#[]⟩)).setCell ⟨w.heap.size, 3, none⟩ (.pointer none)).setCell ⟨w.heap.size, 4, none⟩ (.pointer none)).setCell ⟨w.heap.size, 5, none⟩ (.pointer (some ⟨gv2, 0, none⟩))).setCell ⟨w.heap.size, 6, none⟩ (.slice none 0 0)).setCell ⟨w.heap.size, 7, none⟩ (.slice Ahvt mhvt chvt)).setCell ⟨w.heap.size, 8, none⟩ (.slice none 0 0)).setCell ⟨w.heap.size, 9, none⟩ (.int .i64 0)).cell? ⟨w.heap.size, 9, none⟩ = some (.int .i64 0) := cell_at rr10 9
        replace kk9 := hide kk9
        simp at dd0 dd1 dd2 dd3 dd4 dd5 dd6 dd7 dd8 dd9
        clear rr0 rr1 rr2 rr3 rr4 rr5 rr6 rr7 rr8 rr9 rr10
        go_wp2_with fail
        refine bodyPost_ret (v := .agg #[.int .i64 11, .string ⟨#[]⟩, .string ⟨#[]⟩, .pointer none, .pointer none, .pointer (some ⟨gv2, 0, none⟩), .slice none 0 0, .slice Ahvt mhvt chvt, .slice none 0 0, .int .i64 0]) (by simp [results, Tryz.results106, go_sem, kk0.out, kk1.out, kk2.out, kk3.out, kk4.out, kk5.out, kk6.out, kk7.out, kk8.out, kk9.out]) rfl ?_
        obtain ⟨q1, q2, q3⟩ := fin_got (S := (fun b => w.heap.size < b ∧ b ≠ wq2.heap.size)) (((((((((((Upd.refl (At w.heap.size) (wq3.setCell ⟨wq2.heap.size, 7, none⟩ (.slice Ahvt mhvt chvt))).setOn 0 (.int .i64 11)).setOn 1 (.string ⟨#[]⟩)).setOn 2 (.string ⟨#[]⟩)).setOn 3 (.pointer none)).setOn 4 (.pointer none)).setOn 5 (.pointer (some ⟨gv2, 0, none⟩))).setOn 6 (.slice none 0 0)).setOn 7 (.slice Ahvt mhvt chvt)).setOn 8 (.slice none 0 0)).setOn 9 (.int .i64 0)) ((Upd.alloc (At p) w _).then hu.out) hlt htk.out hs.out (fun b hb => hb.1) (sm_blk (k := 11) (c := some a2) (a := a) hva.out hvt.out (BlkV.nil_ _ _))
        exact Got.ok q1 hX.out.symm ⟨⟨11, ⟨#[]⟩, ⟨#[]⟩, _, _, _, _, _, _, _, _, _, _, _, _, rfl, q3⟩, q2⟩

set_option maxRecDepth 100000 in
set_option maxHeartbeats 3200000 in
theorem choice_of (f : Nat) (hB : BlockOK f) : ChoiceOK f := by
  intro p C d a n r w h hno
  generalize hX : ifP (stm f (d + 1)) f d a n r = X at hno ⊢
  unfold ifP at hX
  have hlt := h.lt
  have htk := hide h.tokLt
  have hrp : w.heap.size ≠ p := by omega
  replace hB := hide hB
  have hu := hide (Upd.refl (At p) (w.alloc (.cells #[.int .i64 0, .string ⟨#[]⟩, .string ⟨#[]⟩, .pointer none, .pointer none, .pointer none, .slice none 0 0, .slice none 0 0, .slice none 0 0, .int .i64 0] 58)))
  have hs := hide (h.alloc (.cells #[.int .i64 0, .string ⟨#[]⟩, .string ⟨#[]⟩, .pointer none, .pointer none, .pointer none, .slice none 0 0, .slice none 0 0, .slice none 0 0, .int .i64 0] 58))
  replace hX := hide hX
  replace hno := hide hno
  have hrs := hide (heap_new w (.cells #[.int .i64 0, .string ⟨#[]⟩, .string ⟨#[]⟩, .pointer none, .pointer none, .pointer none, .slice none 0 0, .slice none 0 0, .slice none 0 0, .int .i64 0] 58))
  have hw0 : w.heap.size < (w.alloc (.cells #[.int .i64 0, .string ⟨#[]⟩, .string ⟨#[]⟩, .pointer none, .pointer none, .pointer none, .slice none 0 0, .slice none 0 0, .slice none 0 0, .int .i64 0] 58)).heap.size := by simp
  clear h
  go_enter Tryz.func105, Tryz.ntmps105
  go_wp2_with fail
  have hG := expect_any [105, 102] (by decide) p C d n r _ hs.out
  cases hr : want [105, 102] r with
  | no =>
    have hX2 := hX.out
    rw [hr] at hX2
    try simp only [bind_no] at hX2
    exact absurd hX2.symm hno.out
  | er r9 k9 =>
    rw [hr] at hG
    have hX2 := hX.out
    rw [hr] at hX2
    try simp only [bind_er] at hX2
    replace hX := hide hX2
    refine (hG).mono ?_
    rintro e wq1 ⟨hU, rfl⟩
    replace hu := hide (hu.out.then hU)
    clear hr hG hU hX2
    go_wp2_with fail
    refine ⟨rfl, ?_⟩
    exact Got.er ((Upd.alloc (At p) w _).then hu.out) hX.out.symm
  | ok a1 r1 =>
    rw [hr] at hG
    have hX2 := hX.out
    rw [hr] at hX2
    try simp only [bind_ok] at hX2
    replace hX := hide hX2
    refine (hG).mono ?_
    rintro e wq1 ⟨hU, v1, rfl, rfl, h1⟩
    have hsz := hu.out.size
    replace hrs := hide ((hU).heap hrs.out hrp)
    replace hs := hide h1
    replace hu := hide (hu.out.then hU)
    clear hr hG hU h1 hX2 hsz
    go_wp2_with fail
    have hG := test_ok f p C d n r1 _ hs.out
    cases hr : testP f d r1 with
    | no =>
      have hX2 := hX.out
      rw [hr] at hX2
      try simp only [bind_no] at hX2
      exact absurd hX2.symm hno.out
    | er r9 k9 =>
      rw [hr] at hG
      have hX2 := hX.out
      rw [hr] at hX2
      try simp only [bind_er] at hX2
      replace hX := hide hX2
      refine (hG (fun e => by cases e)).mono ?_
      rintro e wq2 ⟨hU, rfl⟩
      replace hu := hide (hu.out.then hU)
      clear hr hG hU hX2
      go_wp2_with fail
      refine ⟨rfl, ?_⟩
      exact Got.er ((Upd.alloc (At p) w _).then hu.out) hX.out.symm
    | ok a2 r2 =>
      rw [hr] at hG
      have hX2 := hX.out
      rw [hr] at hX2
      try simp only [bind_ok] at hX2
      replace hX := hide hX2
      refine (hG (fun e => by cases e)).mono ?_
      rintro e wq2 ⟨hU, v2, rfl, hv, h1⟩
      have hsz := hu.out.size
      replace hrs := hide ((hU).heap hrs.out hrp)
      have hva := hide (CnV.mono (S' := (w.heap.size < ·)) (fun b _ hb => Nat.lt_of_lt_of_le (Nat.lt_of_lt_of_le hw0 hsz) hb) _ _ hv)
      clear hv
      obtain ⟨gv2, rfl⟩ := hva.out.ptr
      replace hs := hide h1
      replace hu := hide (hu.out.then hU)
      clear hr hG hU h1 hX2 hsz
      have hbx := hide (heap_new wq2 (.cells #[.int .i64 10, .string ⟨#[]⟩, .string ⟨#[]⟩, .pointer none, .pointer none, .pointer (some ⟨gv2, 0, none⟩), .slice none 0 0, .slice none 0 0, .slice none 0 0, .int .i64 0] 58))
      have hgw : w.heap.size < wq2.heap.size := Nat.lt_of_lt_of_le hw0 hu.out.size
      have hgp : wq2.heap.size ≠ p := by omega
      replace hva := hide (CnV.mono (S' := (fun b => w.heap.size < b ∧ b ≠ wq2.heap.size)) (fun b hb h => ⟨h, Nat.ne_of_lt hb⟩) _ _ hva.out)
      replace hva := hide (CnV.upd (Upd.alloc (fun _ => False) _ (.cells #[.int .i64 10, .string ⟨#[]⟩, .string ⟨#[]⟩, .pointer none, .pointer none, .pointer (some ⟨gv2, 0, none⟩), .slice none 0 0, .slice none 0 0, .slice none 0 0, .int .i64 0] 58)) (fun _ _ => id) _ _ hva.out)
      replace hs := hide (hs.out.alloc (.cells #[.int .i64 10, .string ⟨#[]⟩, .string ⟨#[]⟩, .pointer none, .pointer none, .pointer (some ⟨gv2, 0, none⟩), .slice none 0 0, .slice none 0 0, .slice none 0 0, .int .i64 0] 58))
      replace hrs := hide (heap_old hrs.out (.cells #[.int .i64 10, .string ⟨#[]⟩, .string ⟨#[]⟩, .pointer none, .pointer none, .pointer (some ⟨gv2, 0, none⟩), .slice none 0 0, .slice none 0 0, .slice none 0 0, .int .i64 0] 58))
      replace hu := hide (hu.out.then (Upd.alloc (At p) _ (.cells #[.int .i64 10, .string ⟨#[]⟩, .string ⟨#[]⟩, .pointer none, .pointer none, .pointer (some ⟨gv2, 0, none⟩), .slice none 0 0, .slice none 0 0, .slice none 0 0, .int .i64 0] 58)))
      have hgu : (w.alloc (.cells #[.int .i64 0, .string ⟨#[]⟩, .string ⟨#[]⟩, .pointer none, .pointer none, .pointer none, .slice none 0 0, .slice none 0 0, .slice none 0 0, .int .i64 0] 58)).heap.size ≤ wq2.heap.size := by simp; omega
      go_wp2_with fail
      have hG := hB.out p C d n r2 _ hs.out
      cases hr : blockOf (stm f (d + 1)) f d n r2 with
      | no =>
        have hX2 := hX.out
        rw [hr] at hX2
        try simp only [bind_no] at hX2
        exact absurd hX2.symm hno.out
      | er r9 k9 =>
        rw [hr] at hG
        have hX2 := hX.out
        rw [hr] at hX2
        try simp only [bind_er] at hX2
        replace hX := hide hX2
        refine (hG (fun e => by cases e)).mono ?_
        rintro e wq3 ⟨hU, rfl⟩
        replace hu := hide (hu.out.then hU)
        clear hr hG hU hX2
        go_wp2_with fail
        refine ⟨rfl, ?_⟩
        exact Got.er ((Upd.alloc (At p) w _).then hu.out) hX.out.symm
      | ok a3 r3 =>
        rw [hr] at hG
        have hX2 := hX.out
        rw [hr] at hX2
        try simp only [bind_ok] at hX2
        replace hX := hide hX2
        refine (hG (fun e => by cases e)).mono ?_
        rintro e wq3 ⟨hU, v3, rfl, hv, h1⟩
        have hsz := hu.out.size
        have hold := (Array.getElem?_eq_some_iff.1 hbx.out).1
        replace hva := hide (CnV.upd (hU) (fun b hb => above_not hlt b (Nat.le_of_lt hb.1)) _ _ hva.out)
        replace hrs := hide ((hU).heap hrs.out hrp)
        replace hbx := hide ((hU).heap hbx.out hgp)
        have hvt := hide (BlkV.mono (S' := (fun b => w.heap.size < b ∧ b ≠ wq2.heap.size)) (fun b _ hb => ⟨Nat.lt_of_lt_of_le (Nat.lt_of_lt_of_le hw0 hsz) hb, fun e => by omega⟩) _ _ hv)
        clear hv
        obtain ⟨Ahvt, mhvt, chvt, rfl⟩ := hvt.out.slc
        replace hs := hide h1
        replace hu := hide (hu.out.then hU)
        clear hr hG hU h1 hX2 hsz hold
        have cj := cell_at hbx.out 7
        simp at cj
        have fj := frozen_at hbx.out 7
        go_wp2_with fail
        have hb2 : (wq3.setCell ⟨wq2.heap.size, 7, none⟩ (.slice Ahvt mhvt chvt)).heap[wq2.heap.size]? = some (.cells #[.int .i64 10, .string ⟨#[]⟩, .string ⟨#[]⟩, .pointer none, .pointer none, .pointer (some ⟨gv2, 0, none⟩), .slice none 0 0, .slice Ahvt mhvt chvt, .slice none 0 0, .int .i64 0] 58 (0, 0)) := heap_set hbx.out 7 _
        replace hbx := hide hb2
        clear hb2 cj fj
        replace hva := hide (CnV.upd (set_upd wq3 (wq2.heap.size) 7 (.slice Ahvt mhvt chvt)) (fun b hb => hb.2) _ _ hva.out)
        replace hvt := hide (BlkV.upd (set_upd wq3 (wq2.heap.size) 7 (.slice Ahvt mhvt chvt)) (fun b hb => hb.2) _ _ hvt.out)
        replace hrs := hide ((set_upd wq3 (wq2.heap.size) 7 (.slice Ahvt mhvt chvt)).heap hrs.out (by simp only [At]; omega))
        replace hs := hide (hs.out.setNew hlt htk.out (Nat.le_of_lt hgw) 7 (.slice Ahvt mhvt chvt))
        replace hu := hide (hu.out.setNew (hgu) 7 (.slice Ahvt mhvt chvt))
        by_cases hx3 : nx r3 [101, 108, 115, 101] = true
        · have hne := hide (nx_ne hx3 (by decide))
          have hX2 := hX.out
          rw [if_pos hx3] at hX2
          replace hX := hide hX2
          clear hX2
          refine (accept_yes [101, 108, 115, 101] (by decide) p C d a3.2 r3 _ hs.out hx3).mono ?_
          rintro e wq4 ⟨rfl, hU, h1⟩
          replace hx3 := hide hx3
          replace hva := hide (CnV.upd (hU) (fun b hb => above_not hlt b (Nat.le_of_lt hb.1)) _ _ hva.out)
          replace hvt := hide (BlkV.upd (hU) (fun b hb => above_not hlt b (Nat.le_of_lt hb.1)) _ _ hvt.out)
          replace hrs := hide ((hU).heap hrs.out hrp)
          replace hbx := hide ((hU).heap hbx.out hgp)
          replace hs := hide h1
          replace hu := hide (hu.out.then hU)
          clear hU h1
          go_wp2_with fail
          have hG := hB.out p C d a3.2 r3.tail _ hs.out
          cases hr : blockOf (stm f (d + 1)) f d a3.2 r3.tail with
          | no =>
            have hX2 := hX.out
            rw [hr] at hX2
            try simp only [bind_no] at hX2
            exact absurd hX2.symm hno.out
          | er r9 k9 =>
            rw [hr] at hG
            have hX2 := hX.out
            rw [hr] at hX2
            try simp only [bind_er] at hX2
            replace hX := hide hX2
            refine (hG (fun e => by cases e)).mono ?_
            rintro e wq5 ⟨hU, rfl⟩
            replace hu := hide (hu.out.then hU)
            clear hr hG hU hX2
            go_wp2_with fail
            refine ⟨rfl, ?_⟩
            exact Got.er ((Upd.alloc (At p) w _).then hu.out) hX.out.symm
          | ok a5 r5 =>
            rw [hr] at hG
            have hX2 := hX.out
            rw [hr] at hX2
            try simp only [bind_ok] at hX2
            replace hX := hide hX2
            refine (hG (fun e => by cases e)).mono ?_
            rintro e wq5 ⟨hU, v5, rfl, hv, h1⟩
            have hsz := hu.out.size
            have hold := (Array.getElem?_eq_some_iff.1 hbx.out).1
            replace hva := hide (CnV.upd (hU) (fun b hb => above_not hlt b (Nat.le_of_lt hb.1)) _ _ hva.out)
            replace hvt := hide (BlkV.upd (hU) (fun b hb => above_not hlt b (Nat.le_of_lt hb.1)) _ _ hvt.out)
            replace hrs := hide ((hU).heap hrs.out hrp)
            replace hbx := hide ((hU).heap hbx.out hgp)
            have hve := hide (BlkV.mono (S' := (fun b => w.heap.size < b ∧ b ≠ wq2.heap.size)) (fun b _ hb => ⟨Nat.lt_of_lt_of_le (Nat.lt_of_lt_of_le hw0 hsz) hb, fun e => by omega⟩) _ _ hv)
            clear hv
            obtain ⟨Ahve, mhve, chve, rfl⟩ := hve.out.slc
            replace hs := hide h1
            replace hu := hide (hu.out.then hU)
            clear hr hG hU h1 hX2 hsz hold
            have cj := cell_at hbx.out 8
            simp at cj
            have fj := frozen_at hbx.out 8
            have hb2 : (wq5.setCell ⟨wq2.heap.size, 8, none⟩ (.slice Ahve mhve chve)).heap[wq2.heap.size]? = some (.cells #[.int .i64 10, .string ⟨#[]⟩, .string ⟨#[]⟩, .pointer none, .pointer none, .pointer (some ⟨gv2, 0, none⟩), .slice none 0 0, .slice Ahvt mhvt chvt, .slice Ahve mhve chve, .int .i64 0] 58 (0, 0)) := heap_set hbx.out 8 _
            replace hbx := hide hb2
            clear hb2
            replace hva := hide (CnV.upd (set_upd wq5 (wq2.heap.size) 8 (.slice Ahve mhve chve)) (fun b hb => hb.2) _ _ hva.out)
            replace hvt := hide (BlkV.upd (set_upd wq5 (wq2.heap.size) 8 (.slice Ahve mhve chve)) (fun b hb => hb.2) _ _ hvt.out)
            replace hve := hide (BlkV.upd (set_upd wq5 (wq2.heap.size) 8 (.slice Ahve mhve chve)) (fun b hb => hb.2) _ _ hve.out)
            replace hrs := hide ((set_upd wq5 (wq2.heap.size) 8 (.slice Ahve mhve chve)).heap hrs.out (by simp only [At]; omega))
            replace hs := hide (hs.out.setNew hlt htk.out (Nat.le_of_lt hgw) 8 (.slice Ahve mhve chve))
            replace hu := hide (hu.out.setNew (hgu) 8 (.slice Ahve mhve chve))
            have cc0 := cell_at hbx.out 0
            have cc1 := cell_at hbx.out 1
            have cc2 := cell_at hbx.out 2
            have cc3 := cell_at hbx.out 3
            have cc4 := cell_at hbx.out 4
            have cc5 := cell_at hbx.out 5
            have cc6 := cell_at hbx.out 6
            have cc7 := cell_at hbx.out 7
            have cc8 := cell_at hbx.out 8
            have cc9 := cell_at hbx.out 9
            simp at cc0 cc1 cc2 cc3 cc4 cc5 cc6 cc7 cc8 cc9
            have rr0 := hrs.out
            have dd0 := cell_at rr0 0
            have ff0 := frozen_at rr0 0
            have rr1 : ((wq5.setCell ⟨wq2.heap.size, 8, none⟩ (.slice Ahve mhve chve)).setCell ⟨w.heap.size, 0, none⟩ (.int .i64 10)).heap[w.heap.size]? = some (.cells #[.int .i64 10, .string ⟨#[]⟩, .string ⟨#[]⟩, .pointer none, .pointer none, .pointer none, .slice none 0 0, .slice none 0 0, .slice none 0 0, .int .i64 0] 58 (0, 0)) := heap_set rr0 0 _
            have kk0 : ((wq5.setCell ⟨wq2.heap.size, 8, none⟩ (.slice Ahve mhve chve)).setCell ⟨w.heap.size, 0, none⟩ (.int .i64 10)).cell? ⟨w.heap.size, 0, none⟩ = some (.int .i64 10) := cell_at rr1 0
            replace kk0 := hide kk0
            have dd1 := cell_at rr1 1
            have ff1 := frozen_at rr1 1
            have rr2 : (((wq5.setCell ⟨wq2.heap.size, 8, none⟩ (.slice Ahve mhve chve)).setCell ⟨w.heap.size, 0, none⟩ (.int .i64 10)).setCell ⟨w.heap.size, 1, none⟩ (.string ⟨#[]⟩)).heap[w.heap.size]? = some (.cells #[.int .i64 10, .string ⟨#[]⟩, .string ⟨#[]⟩, .pointer none, .pointer none, .pointer none, .slice none 0 0, .slice none 0 0, .slice none 0 0, .int .i64 0] 58 (0, 0)) := heap_set rr1 1 _
            have kk1 : (((wq5.setCell ⟨wq2.heap.size, 8, none⟩ (.slice Ahve mhve chve)).setCell ⟨w.heap.size, 0, none⟩ (.int .i64 10)).setCell ⟨w.heap.size, 1, none⟩ (.string ⟨#[]⟩)).cell? ⟨w.heap.size, 1, none⟩ = some (.string ⟨#[]⟩) := cell_at rr2 1
            replace kk1 := hide kk1
            have dd2 := cell_at rr2 2
            have ff2 := frozen_at rr2 2
            have rr3 : ((((wq5.setCell ⟨wq2.heap.size, 8, none⟩ (.slice Ahve mhve chve)).setCell ⟨w.heap.size, 0, none⟩ (.int .i64 10)).setCell ⟨w.heap.size, 1, none⟩ (.string ⟨#[]⟩)).setCell ⟨w.heap.size, 2, none⟩ (.string ⟨#[]⟩)).heap[w.heap.size]? = some (.cells #[.int .i64 10, .string ⟨#[]⟩, .string ⟨#[]⟩, .pointer none, .pointer none, .pointer none, .slice none 0 0, .slice none 0 0, .slice none 0 0, .int .i64 0] 58 (0, 0)) := heap_set rr2 2 _
            have kk2 : ((((wq5.setCell ⟨wq2.heap.size, 8, none⟩ (.slice Ahve mhve chve)).setCell ⟨w.heap.size, 0, none⟩ (.int .i64 10)).setCell ⟨w.heap.size, 1, none⟩ (.string ⟨#[]⟩)).setCell ⟨w.heap.size, 2, none⟩ (.string ⟨#[]⟩)).cell? ⟨w.heap.size, 2, none⟩ = some (.string ⟨#[]⟩) := cell_at rr3 2
            replace kk2 := hide kk2
            have dd3 := cell_at rr3 3
            have ff3 := frozen_at rr3 3
            have rr4 : (((((wq5.setCell ⟨wq2.heap.size, 8, none⟩ (.slice Ahve mhve chve)).setCell ⟨w.heap.size, 0, none⟩ (.int .i64 10)).setCell ⟨w.heap.size, 1, none⟩ (.string ⟨#[]⟩)).setCell ⟨w.heap.size, 2, none⟩ (.string ⟨#[]⟩)).setCell ⟨w.heap.size, 3, none⟩ (.pointer none)).heap[w.heap.size]? = some (.cells #[.int .i64 10, .string ⟨#[]⟩, .string ⟨#[]⟩, .pointer none, .pointer none, .pointer none, .slice none 0 0, .slice none 0 0, .slice none 0 0, .int .i64 0] 58 (0, 0)) := heap_set rr3 3 _
            have kk3 : (((((wq5.setCell ⟨wq2.heap.size, 8, none⟩ (.slice Ahve mhve chve)).setCell ⟨w.heap.size, 0, none⟩ (.int .i64 10)).setCell ⟨w.heap.size, 1, none⟩ (.string ⟨#[]⟩)).setCell ⟨w.heap.size, 2, none⟩ (.string ⟨#[]⟩)).setCell ⟨w.heap.size, 3, none⟩ (.pointer none)).cell? ⟨w.heap.size, 3, none⟩ = some (.pointer none) := cell_at rr4 3
            replace kk3 := hide kk3
            have dd4 := cell_at rr4 4
            have ff4 := frozen_at rr4 4
            have rr5 : ((((((wq5.setCell ⟨wq2.heap.size, 8, none⟩ (.slice Ahve mhve chve)).setCell ⟨w.heap.size, 0, none⟩ (.int .i64 10)).setCell ⟨w.heap.size, 1, none⟩ (.string ⟨#[]⟩)).setCell ⟨w.heap.size, 2, none⟩ (.string ⟨#[]⟩)).setCell ⟨w.heap.size, 3, none⟩ (.pointer none)).setCell ⟨w.heap.size, 4, none⟩ (.pointer none)).heap[w.heap.size]? = some (.cells #[.int .i64 10, .string ⟨#[]⟩, .string ⟨#[]⟩, .pointer none, .pointer none, .pointer none, .slice none 0 0, .slice none 0 0, .slice none 0 0, .int .i64 0] 58 (0, 0)) := heap_set rr4 4 _
            have kk4 : ((((((wq5.setCell ⟨wq2.heap.size, 8, none⟩ (.slice Ahve mhve chve)).setCell ⟨w.heap.size, 0, none⟩ (.int .i64 10)).setCell ⟨w.heap.size, 1, none⟩ (.string ⟨#[]⟩)).setCell ⟨w.heap.size, 2, none⟩ (.string ⟨#[]⟩)).setCell ⟨w.heap.size, 3, none⟩ (.pointer none)).setCell ⟨w.heap.size, 4, none⟩ (.pointer none)).cell? ⟨w.heap.size, 4, none⟩ = some (.pointer none) := cell_at rr5 4
            replace kk4 := hide kk4
            have dd5 := cell_at rr5 5
            have ff5 := frozen_at rr5 5
            have rr6 : (((((((wq5.setCell ⟨wq2.heap.size, 8, none⟩ (.slice Ahve mhve chve)).setCell ⟨w.heap.size, 0, none⟩ (.int .i64 10)).setCell ⟨w.heap.size, 1, none⟩ (.string ⟨#[]⟩)).setCell ⟨w.heap.size, 2, none⟩ (.string ⟨#[]⟩)).setCell ⟨w.heap.size, 3, none⟩ (.pointer none)).setCell ⟨w.heap.size, 4, none⟩ (.pointer none)).setCell ⟨w.heap.size, 5, none⟩ (.pointer (some ⟨gv2, 0, none⟩))).heap[w.heap.size]? = some (.cells #[.int .i64 10, .string ⟨#[]⟩, .string ⟨#[]⟩, .pointer none, .pointer none, .pointer (some ⟨gv2, 0, none⟩), .slice none 0 0, .slice none 0 0, .slice none 0 0, .int .i64 0] 58 (0, 0)) := heap_set rr5 5 _
            have kk5 : (((((((wq5.setCell ⟨wq2.heap.size, 8, none⟩ (.slice Ahve mhve chve)).setCell ⟨w.heap.size, 0, none⟩ (.int .i64 10)).setCell ⟨w.heap.size, 1, none⟩ (.string ⟨#[]⟩)).setCell ⟨w.heap.size, 2, none⟩ (.string ⟨#[]⟩)).setCell ⟨w.heap.size, 3, none⟩ (.pointer none)).setCell ⟨w.heap.size, 4, none⟩ (.pointer none)).setCell ⟨w.heap.size, 5, none⟩ (.pointer (some ⟨gv2, 0, none⟩))).cell? ⟨w.heap.size, 5, none⟩ = some (.pointer (some ⟨gv2, 0, none⟩)) := cell_at rr6 5
            replace kk5 := hide kk5
            have dd6 := cell_at rr6 6
            have ff6 := frozen_at rr6 6
            have rr7 : ((((((((wq5.setCell ⟨wq2.heap.size, 8, none⟩ (.slice Ahve mhve chve)).setCell ⟨w.heap.size, 0, none⟩ (.int .i64 10)).setCell ⟨w.heap.size, 1, none⟩ (.string ⟨#[]⟩)).setCell ⟨w.heap.size, 2, none⟩ (.string ⟨#[]⟩)).setCell ⟨w.heap.size, 3, none⟩ (.pointer none)).setCell ⟨w.heap.size, 4, none⟩ (.pointer none)).setCell ⟨w.heap.size, 5, none⟩ (.pointer (some ⟨gv2, 0, none⟩))).setCell ⟨w.heap.size, 6, none⟩ (.slice none 0 0)).heap[w.heap.size]? = some (.cells #[.int .i64 10, .string ⟨#[]⟩, .string ⟨#[]⟩, .pointer none, .pointer none, .pointer (some ⟨gv2, 0, none⟩), .slice none 0 0, .slice none 0 0, .slice none 0 0, .int .i64 0] 58 (0, 0)) := heap_set rr6 6 _
            have kk6 : ((((((((wq5.setCell ⟨wq2.heap.size, 8, none⟩ (.slice Ahve mhve chve)).setCell ⟨w.heap.size, 0, none⟩ (.int .i64 10)).setCell ⟨w.heap.size, 1, none⟩ (.string ⟨#[]⟩)).setCell ⟨w.heap.size, 2, none⟩ (.string ⟨#[]⟩)).setCell ⟨w.heap.size, 3, none⟩ (.pointer none)).setCell ⟨w.heap.size, 4, none⟩ (.pointer none)).setCell ⟨w.heap.size, 5, none⟩ (.pointer (some ⟨gv2, 0, none⟩))).setCell ⟨w.heap.size, 6, none⟩ (.slice none 0 0)).cell? ⟨w.heap.size, 6, none⟩ = some (.slice none 0 0) := cell_at rr7 6
            replace kk6 := hide kk6
            have dd7 := cell_at rr7 7
            have ff7 := frozen_at rr7 7
            have rr8 : (((((((((wq5.setCell ⟨wq2.heap.size, 8, none⟩ (.slice Ahve mhve chve)).setCell ⟨w.heap.size, 0, none⟩ (.int .i64 10)).setCell ⟨w.heap.size, 1, none⟩ (.string ⟨#[]⟩)).setCell ⟨w.heap.size, 2, none⟩ (.string ⟨#[]⟩)).setCell ⟨w.heap.size, 3, none⟩ (.pointer none)).setCell ⟨w.heap.size, 4, none⟩ (.pointer none)).setCell ⟨w.heap.size, 5, none⟩ (.pointer (some ⟨gv2, 0, none⟩))).setCell ⟨w.heap.size, 6, none⟩ (.slice none 0 0)).setCell ⟨w.heap.size, 7, none⟩ (.slice Ahvt mhvt chvt)).heap[w.heap.size]? = some (.cells #[.int .i64 10, .string ⟨#[]⟩, .string ⟨#[]⟩, .pointer none, .pointer none, .pointer (some ⟨gv2, 0, none⟩), .slice none 0 0, .slice Ahvt mhvt chvt, .slice none 0 0, .int .i64 0] 58 (0, 0)) := heap_set rr7 7 _
            have kk7 : (((((((((wq5.setCell ⟨wq2.heap.size, 8, none⟩ (.slice Ahve mhve chve)).setCell ⟨w.heap.size, 0, none⟩ (.int .i64 10)).setCell ⟨w.heap.size, 1, none⟩ (.string ⟨#[]⟩)).setCell ⟨w.heap.size, 2, none⟩ (.string ⟨#[]⟩)).setCell ⟨w.heap.size, 3, none⟩ (.pointer none)).setCell ⟨w.heap.size, 4, none⟩ (.pointer none)).setCell ⟨w.heap.size, 5, none⟩ (.pointer (some ⟨gv2, 0, none⟩))).setCell ⟨w.heap.size, 6, none⟩ (.slice none 0 0)).setCell ⟨w.heap.size, 7, none⟩ (.slice Ahvt mhvt chvt)).cell? ⟨w.heap.size, 7, none⟩ = some (.slice Ahvt mhvt chvt) := cell_at rr8 7
            replace kk7 := hide kk7
            have dd8 := cell_at rr8 8
            have ff8 := frozen_at rr8 8
            have rr9 : ((((((((((wq5.setCell ⟨wq2.heap.size, 8, none⟩ (.slice Ahve mhve chve)).setCell ⟨w.heap.size, 0, none⟩ (.int .i64 10)).setCell ⟨w.heap.size, 1, none⟩ (.string ⟨#[]⟩)).setCell ⟨w.heap.size, 2, none⟩ (.string ⟨#[]⟩)).setCell ⟨w.heap.size, 3, none⟩ (.pointer none)).setCell ⟨w.heap.size, 4, none⟩ (.pointer none)).setCell ⟨w.heap.size, 5, none⟩ (.pointer (some ⟨gv2, 0, none⟩))).setCell ⟨w.heap.size, 6, none⟩ (.slice none 0 0)).setCell ⟨w.heap.size, 7, none⟩ (.slice Ahvt mhvt chvt)).setCell ⟨w.heap.size, 8, none⟩ (.slice Ahve mhve chve)).heap[w.heap.size]? = some (.cells #[.int .i64 10, .string ⟨#[]⟩, .string ⟨#[]⟩, .pointer none, .pointer none, .pointer (some ⟨gv2, 0, none⟩), .slice none 0 0, .slice Ahvt mhvt chvt, .slice Ahve mhve chve, .int .i64 0] 58 (0, 0)) := heap_set rr8 8 _
            have kk8 : ((((((((((wq5.setCell ⟨wq2.heap.size, 8, none⟩ (.slice Ahve mhve chve)).setCell ⟨w.heap.size, 0, none⟩ (.int .i64 10)).setCell ⟨w.heap.size, 1, none⟩ (.string ⟨#[]⟩)).setCell ⟨w.heap.size, 2, none⟩ (.string ⟨#[]⟩)).setCell ⟨w.heap.size, 3, none⟩ (.pointer none)).setCell ⟨w.heap.size, 4, none⟩ (.pointer none)).setCell ⟨w.heap.size, 5, none⟩ (.pointer (some ⟨gv2, 0, none⟩))).setCell ⟨w.heap.size, 6, none⟩ (.slice none 0 0)).setCell ⟨w.heap.size, 7, none⟩ (.slice Ahvt mhvt chvt)).setCell ⟨w.heap.size, 8, none⟩ (.slice Ahve mhve chve)).cell? ⟨w.heap.size, 8, none⟩ = some (.slice Ahve mhve chve) := cell_at rr9 8
            replace kk8 := hide kk8
            have dd9 := cell_at rr9 9
            have ff9 := frozen_at rr9 9
            have rr10 : (((((((((((wq5.setCell ⟨wq2.heap.size, 8, none⟩ (.slice Ahve mhve chve)).setCell ⟨w.heap.size, 0, none⟩ (.int .i64 10)).setCell ⟨w.heap.size, 1, none⟩ (.string ⟨#[]⟩)).setCell ⟨w.heap.size, 2, none⟩ (.string ⟨#[]⟩)).setCell ⟨w.heap.size, 3, none⟩ (.pointer none)).setCell ⟨w.heap.size, 4, none⟩ (.pointer none)).setCell ⟨w.heap.size, 5, none⟩ (.pointer (some ⟨gv2, 0, none⟩))).setCell ⟨w.heap.size, 6, none⟩ (.slice none 0 0)).setCell ⟨w.heap.size, 7, none⟩ (.slice Ahvt mhvt chvt)).setCell ⟨w.heap.size, 8, none⟩ (.slice Ahve mhve chve)).setCell ⟨w.heap.size, 9, none⟩ (.int .i64 0)).heap[w.heap.size]? = some (.cells #[.int .i64 10, .string ⟨#[]⟩, .string ⟨#[]⟩, .pointer none, .pointer none, .pointer (some ⟨gv2, 0, none⟩), .slice none 0 0, .slice Ahvt mhvt chvt, .slice Ahve mhve chve, .int .i64 0] 58 (0, 0)) := heap_set rr9 9 _
            have kk9 : (((((((((((wq5.setCell ⟨wq2.heap.size, 8, none⟩ (.slice Ahve mhve chve)).setCell ⟨w.heap.size, 0, none⟩ (.int .i64 10)).setCell ⟨w.heap.size, 1, none⟩ (.string ⟨#[]⟩)).setCell ⟨w.heap.size, 2, none⟩ (.string ⟨#[]⟩)).setCell ⟨w.heap.size, 3, none⟩ (.pointer none)).setCell ⟨w.heap.size, 4, none⟩ (.pointer none)).setCell ⟨w.heap.size, 5, none⟩ (.pointer (some ⟨gv2, 0, none⟩))).setCell ⟨w.heap.size, 6, none⟩ (.slice none 0 0)).setCell ⟨w.heap.size, 7, none⟩ (.slice Ahvt mhvt chvt)).setCell ⟨w.heap.size, 8, none⟩ (.slice Ahve mhve chve)).setCell ⟨w.heap.size, 9, none⟩ (.int .i64 0)).cell? ⟨w.heap.size, 9, none⟩ = some (.int .i64 0) := cell_at rr10 9
            replace kk9 := hide kk9
            simp at dd0 dd1 dd2 dd3 dd4 dd5 dd6 dd7 dd8 dd9
            clear rr0 rr1 rr2 rr3 rr4 rr5 rr6 rr7 rr8 rr9 rr10
            go_wp2_with fail
            refine bodyPost_ret (v := .agg #[.int .i64 10, .string ⟨#[]⟩, .string ⟨#[]⟩, .pointer none, .pointer none, .pointer (some ⟨gv2, 0, none⟩), .slice none 0 0, .slice Ahvt mhvt chvt, .slice Ahve mhve chve, .int .i64 0]) (by simp [results, Tryz.results105, go_sem, kk0.out, kk1.out, kk2.out, kk3.out, kk4.out, kk5.out, kk6.out, kk7.out, kk8.out, kk9.out]) rfl ?_
            obtain ⟨q1, q2, q3⟩ := fin_got (S := (fun b => w.heap.size < b ∧ b ≠ wq2.heap.size)) (((((((((((Upd.refl (At w.heap.size) (wq5.setCell ⟨wq2.heap.size, 8, none⟩ (.slice Ahve mhve chve))).setOn 0 (.int .i64 10)).setOn 1 (.string ⟨#[]⟩)).setOn 2 (.string ⟨#[]⟩)).setOn 3 (.pointer none)).setOn 4 (.pointer none)).setOn 5 (.pointer (some ⟨gv2, 0, none⟩))).setOn 6 (.slice none 0 0)).setOn 7 (.slice Ahvt mhvt chvt)).setOn 8 (.slice Ahve mhve chve)).setOn 9 (.int .i64 0)) ((Upd.alloc (At p) w _).then hu.out) hlt htk.out hs.out (fun b hb => hb.1) (sm_blk (k := 10) (c := some a2) (a := a) hva.out hvt.out hve.out)
            exact Got.ok q1 hX.out.symm ⟨⟨10, ⟨#[]⟩, ⟨#[]⟩, _, _, _, _, _, _, _, _, _, _, _, _, rfl, q3⟩, q2⟩
        · have hx3 : nx r3 [101, 108, 115, 101] = false := by simpa using hx3
          have hX2 := hX.out
          rw [if_neg (by rw [hx3]; exact Bool.false_ne_true)] at hX2
          replace hX := hide hX2
          clear hX2
          refine (accept_no [101, 108, 115, 101] p C d a3.2 r3 _ hs.out hx3).mono ?_
          rintro e wq4 ⟨rfl, hU, h1⟩
          replace hx3 := hide hx3
          replace hva := hide (CnV.upd (hU) (fun b hb => above_not hlt b (Nat.le_of_lt hb.1)) _ _ hva.out)
          replace hvt := hide (BlkV.upd (hU) (fun b hb => above_not hlt b (Nat.le_of_lt hb.1)) _ _ hvt.out)
          replace hrs := hide ((hU).heap hrs.out hrp)
          replace hbx := hide ((hU).heap hbx.out hgp)
          replace hs := hide h1
          replace hu := hide (hu.out.then hU)
          clear hU h1
          have cc0 := cell_at hbx.out 0
          have cc1 := cell_at hbx.out 1
          have cc2 := cell_at hbx.out 2
          have cc3 := cell_at hbx.out 3
          have cc4 := cell_at hbx.out 4
          have cc5 := cell_at hbx.out 5
          have cc6 := cell_at hbx.out 6
          have cc7 := cell_at hbx.out 7
          have cc8 := cell_at hbx.out 8
          have cc9 := cell_at hbx.out 9
          simp at cc0 cc1 cc2 cc3 cc4 cc5 cc6 cc7 cc8 cc9
          have rr0 := hrs.out
          have dd0 := cell_at rr0 0
          have ff0 := frozen_at rr0 0
          have rr1 : (wq4.setCell ⟨w.heap.size, 0, none⟩ (.int .i64 10)).heap[w.heap.size]? = some (.cells #[.int .i64 10, .string ⟨#[]⟩, .string ⟨#[]⟩, .pointer none, .pointer none, .pointer none, .slice none 0 0, .slice none 0 0, .slice none 0 0, .int .i64 0] 58 (0, 0)) := heap_set rr0 0 _
          have kk0 : (wq4.setCell ⟨w.heap.size, 0, none⟩ (.int .i64 10)).cell? ⟨w.heap.size, 0, none⟩ = some (.int .i64 10) := cell_at rr1 0
          replace kk0 := hide kk0
          have dd1 := cell_at rr1 1
          have ff1 := frozen_at rr1 1
          have rr2 : ((wq4.setCell ⟨w.heap.size, 0, none⟩ (.int .i64 10)).setCell ⟨w.heap.size, 1, none⟩ (.string ⟨#[]⟩)).heap[w.heap.size]? = some (.cells #[.int .i64 10, .string ⟨#[]⟩, .string ⟨#[]⟩, .pointer none, .pointer none, .pointer none, .slice none 0 0, .slice none 0 0, .slice none 0 0, .int .i64 0] 58 (0, 0)) := heap_set rr1 1 _
          have kk1 : ((wq4.setCell ⟨w.heap.size, 0, none⟩ (.int .i64 10)).setCell ⟨w.heap.size, 1, none⟩ (.string ⟨#[]⟩)).cell? ⟨w.heap.size, 1, none⟩ = some (.string ⟨#[]⟩) := cell_at rr2 1
          replace kk1 := hide kk1
          have dd2 := cell_at rr2 2
          have ff2 := frozen_at rr2 2
          have rr3 : (((wq4.setCell ⟨w.heap.size, 0, none⟩ (.int .i64 10)).setCell ⟨w.heap.size, 1, none⟩ (.string ⟨#[]⟩)).setCell ⟨w.heap.size, 2, none⟩ (.string ⟨#[]⟩)).heap[w.heap.size]? = some (.cells #[.int .i64 10, .string ⟨#[]⟩, .string ⟨#[]⟩, .pointer none, .pointer none, .pointer none, .slice none 0 0, .slice none 0 0, .slice none 0 0, .int .i64 0] 58 (0, 0)) := heap_set rr2 2 _
          have kk2 : (((wq4.setCell ⟨w.heap.size, 0, none⟩ (.int .i64 10)).setCell ⟨w.heap.size, 1, none⟩ (.string ⟨#[]⟩)).setCell ⟨w.heap.size, 2, none⟩ (.string ⟨#[]⟩)).cell? ⟨w.heap.size, 2, none⟩ = some (.string ⟨#[]⟩) := cell_at rr3 2
          replace kk2 := hide kk2
          have dd3 := cell_at rr3 3
          have ff3 := frozen_at rr3 3
          have rr4 : ((((wq4.setCell ⟨w.heap.size, 0, none⟩ (.int .i64 10)).setCell ⟨w.heap.size, 1, none⟩ (.string ⟨#[]⟩)).setCell ⟨w.heap.size, 2, none⟩ (.string ⟨#[]⟩)).setCell ⟨w.heap.size, 3, none⟩ (.pointer none)).heap[w.heap.size]? = some (.cells #[.int .i64 10, .string ⟨#[]⟩, .string ⟨#[]⟩, .pointer none, .pointer none, .pointer none, .slice none 0 0, .slice none 0 0, .slice none 0 0, .int .i64 0] 58 (0, 0)) := heap_set rr3 3 _
          have kk3 : ((((wq4.setCell ⟨w.heap.size, 0, none⟩ (.int .i64 10)).setCell ⟨w.heap.size, 1, none⟩ (.string ⟨#[]⟩)).setCell ⟨w.heap.size, 2, none⟩ (.string ⟨#[]⟩)).setCell ⟨w.heap.size, 3, none⟩ (.pointer none)).cell? ⟨w.heap.size, 3, none⟩ = some (.pointer none) := cell_at rr4 3
          replace kk3 := hide kk3
          have dd4 := cell_at rr4 4
          have ff4 := frozen_at rr4 4
          have rr5 : (((((wq4.setCell ⟨w.heap.size, 0, none⟩ (.int .i64 10)).setCell ⟨w.heap.size, 1, none⟩ (.string ⟨#[]⟩)).setCell ⟨w.heap.size, 2, none⟩ (.string ⟨#[]⟩)).setCell ⟨w.heap.size, 3, none⟩ (.pointer none)).setCell ⟨w.heap.size, 4, none⟩ (.pointer none)).heap[w.heap.size]? = some (.cells #[.int .i64 10, .string ⟨#[]⟩, .string ⟨#[]⟩, .pointer none, .pointer none, .pointer none, .slice none 0 0, .slice none 0 0, .slice none 0 0, .int .i64 0] 58 (0, 0)) := heap_set rr4 4 _
          have kk4 : (((((wq4.setCell ⟨w.heap.size, 0, none⟩ (.int .i64 10)).setCell ⟨w.heap.size, 1, none⟩ (.string ⟨#[]⟩)).setCell ⟨w.heap.size, 2, none⟩ (.string ⟨#[]⟩)).setCell ⟨w.heap.size, 3, none⟩ (.pointer none)).setCell ⟨w.heap.size, 4, none⟩ (.pointer none)).cell? ⟨w.heap.size, 4, none⟩ = some (.pointer none) := cell_at rr5 4
          replace kk4 := hide kk4
          have dd5 := cell_at rr5 5
          have ff5 := frozen_at rr5 5
          have rr6 : ((((((wq4.setCell ⟨w.heap.size, 0, none⟩ (.int .i64 10)).setCell ⟨w.heap.size, 1, none⟩ (.string ⟨#[]⟩)).setCell ⟨w.heap.size, 2, none⟩ (.string ⟨#[]⟩)).setCell ⟨w.heap.size, 3, none⟩ (.pointer none)).setCell ⟨w.heap.size, 4, none⟩ (.pointer none)).setCell ⟨w.heap.size, 5, none⟩ (.pointer (some ⟨gv2, 0, none⟩))).heap[w.heap.size]? = some (.cells #[.int .i64 10, .string ⟨#[]⟩, .string ⟨#[]⟩, .pointer none, .pointer none, .pointer (some ⟨gv2, 0, none⟩), .slice none 0 0, .slice none 0 0, .slice none 0 0, .int .i64 0] 58 (0, 0)) := heap_set rr5 5 _
          have kk5 : ((((((wq4.setCell ⟨w.heap.size, 0, none⟩ (.int .i64 10)).setCell ⟨w.heap.size, 1, none⟩ (.string ⟨#[]⟩)).setCell ⟨w.heap.size, 2, none⟩ (.string ⟨#[]⟩)).setCell ⟨w.heap.size, 3, none⟩ (.pointer none)).setCell ⟨w.heap.size, 4, none⟩ (.pointer none)).setCell ⟨w.heap.size, 5, none⟩ (.pointer (some ⟨gv2, 0, none⟩))).cell? ⟨w.heap.size, 5, none⟩ = some (.pointer (some ⟨gv2, 0, none⟩)) := cell_at rr6 5
          replace kk5 := hide kk5
          have dd6 := cell_at rr6 6
          have ff6 := frozen_at rr6 6
          have rr7 : (((((((wq4.setCell ⟨w.heap.size, 0, none⟩ (.int .i64 10)).setCell ⟨w.heap.size, 1, none⟩ (.string ⟨#[]⟩)).setCell ⟨w.heap.size, 2, none⟩ (.string ⟨#[]⟩)).setCell ⟨w.heap.size, 3, none⟩ (.pointer none)).setCell ⟨w.heap.size, 4, none⟩ (.pointer none)).setCell ⟨w.heap.size, 5, none⟩ (.pointer (some ⟨gv2, 0, none⟩))).setCell ⟨w.heap.size, 6, none⟩ (.slice none 0 0)).heap[w.heap.size]? = some (.cells #[.int .i64 10, .string ⟨#[]⟩, .string ⟨#[]⟩, .pointer none, .pointer none, .pointer (some ⟨gv2, 0, none⟩), .slice none 0 0, .slice none 0 0, .slice none 0 0, .int .i64 0] 58 (0, 0)) := heap_set rr6 6 _
          have kk6 : (((((((wq4.setCell ⟨w.heap.size, 0, none⟩ (.int .i64 10)).setCell ⟨w.heap.size, 1, none⟩ (.string ⟨#[]⟩)).setCell ⟨w.heap.size, 2, none⟩ (.string ⟨#[]⟩)).setCell ⟨w.heap.size, 3, none⟩ (.pointer none)).setCell ⟨w.heap.size, 4, none⟩ (.pointer none)).setCell ⟨w.heap.size, 5, none⟩ (.pointer (some ⟨gv2, 0, none⟩))).setCell ⟨w.heap.size, 6, none⟩ (.slice none 0 0)).cell? ⟨w.heap.size, 6, none⟩ = some (.slice none 0 0) := cell_at rr7 6
          replace kk6 := hide kk6
          have dd7 := cell_at rr7 7
          have ff7 := frozen_at rr7 7
          have rr8 : ((((((((wq4.setCell ⟨w.heap.size, 0, none⟩ (.int .i64 10)).setCell ⟨w.heap.size, 1, none⟩ (.string ⟨#[]⟩)).setCell ⟨w.heap.size, 2, none⟩ (.string ⟨#[]⟩)).setCell ⟨w.heap.size, 3, none⟩ (.pointer none)).setCell ⟨w.heap.size, 4, none⟩ (.pointer none)).setCell ⟨w.heap.size, 5, none⟩ (.pointer (some ⟨gv2, 0, none⟩))).setCell ⟨w.heap.size, 6, none⟩ (.slice none 0 0)).setCell ⟨w.heap.size, 7, none⟩ (.slice Ahvt mhvt chvt)).heap[w.heap.size]? = some (.cells #[.int .i64 10, .string ⟨#[]⟩, .string ⟨#[]⟩, .pointer none, .pointer none, .pointer (some ⟨gv2, 0, none⟩), .slice none 0 0, .slice Ahvt mhvt chvt, .slice none 0 0, .int .i64 0] 58 (0, 0)) := heap_set rr7 7 _
          have kk7 : ((((((((wq4.setCell ⟨w.heap.size, 0, none⟩ (.int .i64 10)).setCell ⟨w.heap.size, 1, none⟩ (.string ⟨#[]⟩)).setCell ⟨w.heap.size, 2, none⟩ (.string ⟨#[]⟩)).setCell ⟨w.heap.size, 3, none⟩ (.pointer none)).setCell ⟨w.heap.size, 4, none⟩ (.pointer none)).setCell ⟨w.heap.size, 5, none⟩ (.pointer (some ⟨gv2, 0, none⟩))).setCell ⟨w.heap.size, 6, none⟩ (.slice none 0 0)).setCell ⟨w.heap.size, 7, none⟩ (.slice Ahvt mhvt chvt)).cell? ⟨w.heap.size, 7, none⟩ = some (.slice Ahvt mhvt chvt) := cell_at rr8 7
          replace kk7 := hide kk7
          have dd8 := cell_at rr8 8
          have ff8 := frozen_at rr8 8
          have rr9 : (((((((((wq4.setCell ⟨w.heap.size, 0, none⟩ (.int .i64 10)).setCell ⟨w.heap.size, 1, none⟩ (.string ⟨#[]⟩)).setCell ⟨w.heap.size, 2, none⟩ (.string ⟨#[]⟩)).setCell ⟨w.heap.size, 3, none⟩ (.pointer none)).setCell ⟨w.heap.size, 4, none⟩ (.pointer none)).setCell ⟨w.heap.size, 5, none⟩ (.pointer (some ⟨gv2, 0, none⟩))).setCell ⟨w.heap.size, 6, none⟩ (.slice none 0 0)).setCell ⟨w.heap.size, 7, none⟩ (.slice Ahvt mhvt chvt)).setCell ⟨w.heap.size, 8, none⟩ (.slice none 0 0)).heap[w.heap.size]? = some (.cells #[.int .i64 10, .string ⟨#[]⟩, .string ⟨#[]⟩, .pointer none, .pointer none, .pointer (some ⟨gv2, 0, none⟩), .slice none 0 0, .slice Ahvt mhvt chvt, .slice none 0 0, .int .i64 0] 58 (0, 0)) := heap_set rr8 8 _
          have kk8 : (((((((((wq4.setCell ⟨w.heap.size, 0, none⟩ (.int .i64 10)).setCell ⟨w.heap.size, 1, none⟩ (.string ⟨#[]⟩)).setCell ⟨w.heap.size, 2, none⟩ (.string ⟨#[]⟩)).setCell ⟨w.heap.size, 3, none⟩ (.pointer none)).setCell ⟨w.heap.size, 4, none⟩ (.pointer none)).setCell ⟨w.heap.size, 5, none⟩ (.pointer (some ⟨gv2, 0, none⟩))).setCell ⟨w.heap.size, 6, none⟩ (.slice none 0 0)).setCell ⟨w.heap.size, 7, none⟩ (.slice Ahvt mhvt chvt)).setCell ⟨w.heap.size, 8, none⟩ (.slice none 0 0)).cell? ⟨w.heap.size, 8, none⟩ = some (.slice none 0 0) := cell_at rr9 8
          replace kk8 := hide kk8
          have dd9 := cell_at rr9 9
          have ff9 := frozen_at rr9 9
          have rr10 : ((((((((((wq4.setCell ⟨w.heap.size, 0, none⟩ (.int .i64 10)).setCell ⟨w.heap.size, 1, none⟩ (.string ⟨#[]⟩)).setCell ⟨w.heap.size, 2, none⟩ (.string ⟨#[]⟩)).setCell ⟨w.heap.size, 3, none⟩ (.pointer none)).setCell ⟨w.heap.size, 4, none⟩ (.pointer none)).setCell ⟨w.heap.size, 5, none⟩ (.pointer (some ⟨gv2, 0, none⟩))).setCell ⟨w.heap.size, 6, none⟩ (.slice none 0 0)).setCell ⟨w.heap.size, 7, none⟩ (.slice Ahvt mhvt chvt)).setCell ⟨w.heap.size, 8, none⟩ (.slice none 0 0)).setCell ⟨w.heap.size, 9, none⟩ (.int .i64 0)).heap[w.heap.size]? = some (.cells #[.int .i64 10, .string ⟨#[]⟩, .string ⟨#[]⟩, .pointer none, .pointer none, .pointer (some ⟨gv2, 0, none⟩), .slice none 0 0, .slice Ahvt mhvt chvt, .slice none 0 0, .int .i64 0] 58 (0, 0)) := heap_set rr9 9 _
          have kk9 : ((((((((((wq4.setCell ⟨w.heap.size, 0, none⟩ (.int .i64 10)).setCell ⟨w.heap.size, 1, none⟩ (.string ⟨#[]⟩)).setCell ⟨w.heap.size, 2, none⟩ (.string ⟨#[]⟩)).setCell ⟨w.heap.size, 3, none⟩ (.pointer none)).setCell ⟨w.heap.size, 4, none⟩ (.pointer none)).setCell ⟨w.heap.size, 5, none⟩ (.pointer (some ⟨gv2, 0, none⟩))).setCell ⟨w.heap.size, 6, none⟩ (.slice none 0 0)).setCell ⟨w.heap.size, 7, none⟩ (.slice Ahvt mhvt chvt)).setCell ⟨w.heap.size, 8, none⟩ (.slice none 0 0)).setCell ⟨w.heap.size, 9, none⟩ (.int .i64 0)).cell? ⟨w.heap.size, 9, none⟩ = some (.int .i64 0) := cell_at rr10 9
          replace kk9 := hide kk9
          simp at dd0 dd1 dd2 dd3 dd4 dd5 dd6 dd7 dd8 dd9
          clear rr0 rr1 rr2 rr3 rr4 rr5 rr6 rr7 rr8 rr9 rr10
          go_wp2_with fail
          refine bodyPost_ret (v := .agg #[.int .i64 10, .string ⟨#[]⟩, .string ⟨#[]⟩, .pointer none, .pointer none, .pointer (some ⟨gv2, 0, none⟩), .slice none 0 0, .slice Ahvt mhvt chvt, .slice none 0 0, .int .i64 0]) (by simp [results, Tryz.results105, go_sem, kk0.out, kk1.out, kk2.out, kk3.out, kk4.out, kk5.out, kk6.out, kk7.out, kk8.out, kk9.out]) rfl ?_
          obtain ⟨q1, q2, q3⟩ := fin_got (S := (fun b => w.heap.size < b ∧ b ≠ wq2.heap.size)) (((((((((((Upd.refl (At w.heap.size) wq4).setOn 0 (.int .i64 10)).setOn 1 (.string ⟨#[]⟩)).setOn 2 (.string ⟨#[]⟩)).setOn 3 (.pointer none)).setOn 4 (.pointer none)).setOn 5 (.pointer (some ⟨gv2, 0, none⟩))).setOn 6 (.slice none 0 0)).setOn 7 (.slice Ahvt mhvt chvt)).setOn 8 (.slice none 0 0)).setOn 9 (.int .i64 0)) ((Upd.alloc (At p) w _).then hu.out) hlt htk.out hs.out (fun b hb => hb.1) (sm_blk (k := 10) (c := some a2) (a := a) hva.out hvt.out (BlkV.nil_ _ _))
          exact Got.ok q1 hX.out.symm ⟨⟨10, ⟨#[]⟩, ⟨#[]⟩, _, _, _, _, _, _, _, _, _, _, _, _, rfl, q3⟩, q2⟩
end Go.Proofs.YteplkhgaoaphhaaGreatDoor
