/- Part 15 of the walks (merged): PsN2, PsN3, PsO1. -/
import Derived.Test.YteplkhgaoaphhaaGreatDoorM14
import Derived.Deep.Cut
/- Walks of the parser's stmtOf and stmt. Written by mkstm.py. -/
namespace Go.Proofs.YteplkhgaoaphhaaGreatDoor
open Go Go.RowKit Go.Lib

/-- Which method reads a statement. -/
def fnS : Nat → Nat
  | 0 => 102
  | 1 => 103
  | 2 => 104
  | 3 => 105
  | 4 => 106
  | 5 => 108
  | 6 => 109
  | _ => 110
def StmtOfR (p : Nat) (C : Cx) (d n : Nat) (v : Value) (w : World) (k : Nat) (r : List Tok) : Prop := v = .func (.func (fnS k)) #[.pointer (some ⟨p, 0, none⟩)] #[] ∧ PsW w p C d n r
def kindR (r : List Tok) : Rs Nat := match kindS r with
  | none => .er r 51
  | some k => .ok k r
theorem kindS_lt {r : List Tok} {k : Nat} (h : kindS r = some k) : k < 8 := by
  unfold kindS at h
  split at h
  · injection h with h; omega
  split at h
  · injection h with h; omega
  split at h
  · injection h with h; omega
  split at h
  · injection h with h; omega
  split at h
  · injection h with h; omega
  split at h
  · split at h
    · injection h with h; omega
    split at h
    · injection h with h; omega
    · injection h with h; omega
  · cases h

set_option maxRecDepth 100000 in
set_option maxHeartbeats 3200000 in
theorem stmtOf_any (p : Nat) (C : Cx) (d n : Nat) (r : List Tok) (w : World) (h : PsW w p C d n r) :
    Calls Tryz.prog 94 #[.pointer (some ⟨p, 0, none⟩), tokV (hdT C.len r)] w fun e w' => Got p C w (StmtOfR p C d n) (kindR r) e w' := by
  have hmf : ∀ (fn : Fn) (first cap : Array Value) (w : World), (Instr.makeFunc fn first cap).run Tryz.prog w = .ok (.func fn first cap) w := fun _ _ _ _ => rfl
  generalize hX : kindR r = X
  unfold kindR kindS at hX
  rw [tokV_def, hdT_text]
  have hlt := h.lt
  have hN := hide (isName_any (hdT C.len r))
  have hA := hide (hdT_at C.len r)
  have hT := hide (hdT_text C.len r)
  have hM := hide (nmT_hd C.len r)
  have hs := hide (h.alloc (.cells #[.int .i64 (hdT C.len r).kind, .string (strB (txt r)), .int .i64 (hdT C.len r).at_] 49))
  have hu := hide (Upd.alloc (At p) w (.cells #[.int .i64 (hdT C.len r).kind, .string (strB (txt r)), .int .i64 (hdT C.len r).at_] 49))
  have hbx := hide (heap_new w (.cells #[.int .i64 (hdT C.len r).kind, .string (strB (txt r)), .int .i64 (hdT C.len r).at_] 49))
  have hbp : w.heap.size ≠ p := by omega
  clear h
  replace hX := hide hX
  by_cases hx0 : nx r [42] = true
  · have hX2 := hX.out
    simp only [hx0, if_true, Bool.false_eq_true, if_false] at hX2
    replace hX := hide hX2
    clear hX2
    have hq0 : ((strB (txt r)).toList == [42]) = true := by rw [str_beq']; exact hx0
    clear hx0
    go_enter Tryz.func94, Tryz.ntmps94
    go_wp2_with fail
    go_ret
    exact Got.ok hu.out hX.out.symm ⟨rfl, hs.out⟩
  · replace hx0 : nx r [42] = false := by simpa using hx0
    have hq0 : ((strB (txt r)).toList == [42]) = false := by rw [str_beq']; exact hx0
    by_cases hx1 : nx r [114, 101, 116, 117, 114, 110] = true
    · have hX2 := hX.out
      simp only [hx0, hx1, if_true, Bool.false_eq_true, if_false] at hX2
      replace hX := hide hX2
      clear hX2
      have hq1 : ((strB (txt r)).toList == [114, 101, 116, 117, 114, 110]) = true := by rw [str_beq']; exact hx1
      clear hx1
      go_enter Tryz.func94, Tryz.ntmps94
      go_wp2_with fail
      go_ret
      exact Got.ok hu.out hX.out.symm ⟨rfl, hs.out⟩
    · replace hx1 : nx r [114, 101, 116, 117, 114, 110] = false := by simpa using hx1
      have hq1 : ((strB (txt r)).toList == [114, 101, 116, 117, 114, 110]) = false := by rw [str_beq']; exact hx1
      by_cases hx2 : nx r [97, 115, 115, 101, 114, 116] = true
      · have hX2 := hX.out
        simp only [hx0, hx1, hx2, if_true, Bool.false_eq_true, if_false] at hX2
        replace hX := hide hX2
        clear hX2
        have hq2 : ((strB (txt r)).toList == [97, 115, 115, 101, 114, 116]) = true := by rw [str_beq']; exact hx2
        clear hx2
        go_enter Tryz.func94, Tryz.ntmps94
        go_wp2_with fail
        go_ret
        exact Got.ok hu.out hX.out.symm ⟨rfl, hs.out⟩
      · replace hx2 : nx r [97, 115, 115, 101, 114, 116] = false := by simpa using hx2
        have hq2 : ((strB (txt r)).toList == [97, 115, 115, 101, 114, 116]) = false := by rw [str_beq']; exact hx2
        by_cases hx3 : nx r [105, 102] = true
        · have hX2 := hX.out
          simp only [hx0, hx1, hx2, hx3, if_true, Bool.false_eq_true, if_false] at hX2
          replace hX := hide hX2
          clear hX2
          have hq3 : ((strB (txt r)).toList == [105, 102]) = true := by rw [str_beq']; exact hx3
          clear hx3
          go_enter Tryz.func94, Tryz.ntmps94
          go_wp2_with fail
          go_ret
          exact Got.ok hu.out hX.out.symm ⟨rfl, hs.out⟩
        · replace hx3 : nx r [105, 102] = false := by simpa using hx3
          have hq3 : ((strB (txt r)).toList == [105, 102]) = false := by rw [str_beq']; exact hx3
          by_cases hx4 : nx r [119, 104, 105, 108, 101] = true
          · have hX2 := hX.out
            simp only [hx0, hx1, hx2, hx3, hx4, if_true, Bool.false_eq_true, if_false] at hX2
            replace hX := hide hX2
            clear hX2
            have hq4 : ((strB (txt r)).toList == [119, 104, 105, 108, 101]) = true := by rw [str_beq']; exact hx4
            clear hx4
            go_enter Tryz.func94, Tryz.ntmps94
            go_wp2_with fail
            go_ret
            exact Got.ok hu.out hX.out.symm ⟨rfl, hs.out⟩
          · replace hx4 : nx r [119, 104, 105, 108, 101] = false := by simpa using hx4
            have hq4 : ((strB (txt r)).toList == [119, 104, 105, 108, 101]) = false := by rw [str_beq']; exact hx4
            have hX2 := hX.out
            simp only [hx0, hx1, hx2, hx3, hx4, Bool.false_eq_true, if_false] at hX2
            replace hX := hide hX2
            clear hX2 hx0 hx1 hx2 hx3 hx4
            by_cases hn : isNm r = true
            · have hX2 := hX.out
              simp only [hn, if_true] at hX2
              replace hX := hide hX2
              clear hX2
              go_enter Tryz.func94, Tryz.ntmps94
              go_wp2_with fail
              have hN2 := hN.out (w.alloc (.cells #[.int .i64 (hdT C.len r).kind, .string (strB (txt r)), .int .i64 (hdT C.len r).at_] 49))
              rw [tokV_def, hT.out, hM.out, hn] at hN2
              refine hN2.mono ?_
              rintro e wn ⟨rfl, hb⟩
              replace hs := hide (hs.out.below hb)
              replace hbx := hide (heapB hbx.out hb)
              replace hu := hide (hu.out.then (at_below hb))
              clear hb hN2
              go_wp2_with fail
              by_cases ha : nx r.tail [91] = true
              · have hX2 := hX.out
                simp only [ha, if_true, Bool.false_eq_true, if_false] at hX2
                replace hX := hide hX2
                clear hX2
                have hnd : named r [91] = true := by unfold named; rw [hn, ha]; rfl
                replace hn := hide hn
                replace ha := hide ha
                replace hnd := hide hnd
                refine (isNamed_any [91] p C d n r _ hs.out).mono ?_
                rintro e wm1 ⟨rfl, hb⟩
                replace hs := hide (hs.out.below hb)
                replace hu := hide (hu.out.then (at_below hb))
                clear hb
                rw [hnd.out]
                go_wp2_with fail
                go_ret
                exact Got.ok hu.out hX.out.symm ⟨rfl, hs.out⟩
              · replace ha : nx r.tail [91] = false := by simpa using ha
                by_cases hb : nx r.tail [40] = true
                · have hX2 := hX.out
                  simp only [ha, hb, if_true, Bool.false_eq_true, if_false] at hX2
                  replace hX := hide hX2
                  clear hX2
                  have hnd : named r [40] = true := by unfold named; rw [hn, hb]; rfl
                  have hnc : named r [91] = false := by unfold named; rw [hn, ha]; rfl
                  replace hn := hide hn
                  replace ha := hide ha
                  replace hb := hide hb
                  replace hnd := hide hnd
                  replace hnc := hide hnc
                  refine (isNamed_any [91] p C d n r _ hs.out).mono ?_
                  rintro e wm1 ⟨rfl, hb⟩
                  replace hs := hide (hs.out.below hb)
                  replace hu := hide (hu.out.then (at_below hb))
                  clear hb
                  rw [hnc.out]
                  go_wp2_with fail
                  refine (isNamed_any [40] p C d n r _ hs.out).mono ?_
                  rintro e wm2 ⟨rfl, hb⟩
                  replace hs := hide (hs.out.below hb)
                  replace hu := hide (hu.out.then (at_below hb))
                  clear hb
                  rw [hnd.out]
                  go_wp2_with fail
                  go_ret
                  exact Got.ok hu.out hX.out.symm ⟨rfl, hs.out⟩
                · replace hb : nx r.tail [40] = false := by simpa using hb
                  have hX2 := hX.out
                  simp only [ha, hb, Bool.false_eq_true, if_false] at hX2
                  replace hX := hide hX2
                  clear hX2
                  have hnc : named r [91] = false := by unfold named; rw [hn, ha]; rfl
                  have hnd : named r [40] = false := by unfold named; rw [hn, hb]; rfl
                  replace hn := hide hn
                  replace ha := hide ha
                  replace hb := hide hb
                  replace hnd := hide hnd
                  replace hnc := hide hnc
                  refine (isNamed_any [91] p C d n r _ hs.out).mono ?_
                  rintro e wm1 ⟨rfl, hb⟩
                  replace hs := hide (hs.out.below hb)
                  replace hu := hide (hu.out.then (at_below hb))
                  clear hb
                  rw [hnc.out]
                  go_wp2_with fail
                  refine (isNamed_any [40] p C d n r _ hs.out).mono ?_
                  rintro e wm2 ⟨rfl, hb⟩
                  replace hs := hide (hs.out.below hb)
                  replace hu := hide (hu.out.then (at_below hb))
                  clear hb
                  rw [hnd.out]
                  go_wp2_with fail
                  go_ret
                  exact Got.ok hu.out hX.out.symm ⟨rfl, hs.out⟩
            · replace hn : isNm r = false := by simpa using hn
              have hX2 := hX.out
              simp only [hn, Bool.false_eq_true, if_false] at hX2
              replace hX := hide hX2
              clear hX2
              go_enter Tryz.func94, Tryz.ntmps94
              go_wp2_with fail
              have hN2 := hN.out (w.alloc (.cells #[.int .i64 (hdT C.len r).kind, .string (strB (txt r)), .int .i64 (hdT C.len r).at_] 49))
              rw [tokV_def, hT.out, hM.out, hn] at hN2
              refine hN2.mono ?_
              rintro e wn ⟨rfl, hb⟩
              replace hs := hide (hs.out.below hb)
              replace hbx := hide (heapB hbx.out hb)
              replace hu := hide (hu.out.then (at_below hb))
              clear hb hN2
              have b0 := cell_at hbx.out 0
              have b1 := cell_at hbx.out 1
              have b2 := cell_at hbx.out 2
              simp at b0 b1 b2
              go_wp2_with fail
              have hR := refuse_any (hdT C.len r) 51 wn
              rw [tokV_def, hT.out, hA.out] at hR
              try rw [hA.out]
              refine hR.mono ?_
              rintro e w4 ⟨rfl, hb3⟩
              replace hb3 := hide hb3
              clear hR
              go_wp2_with fail
              refine ⟨rfl, ?_⟩
              exact Got.er (hu.out.then (at_below hb3.out)) hX.out.symm

theorem enters_it {f : FuncId} {fn : Func} {c : Code} (hf : Tryz.prog.funcs[f]? = some fn) (hname : (fn.name == "runtime.NumGoroutine") = false) (hb : fn.body = some c) (args : Array Value) (w : World) : (callFunc f args).run Tryz.prog w = .ok (.enter f args) w := by
  have h1 : fn.name ≠ "runtime.NumGoroutine" := by simpa using hname
  simp [callFunc, hf, h1, hb, mark]
theorem enters_fnS {k : Nat} (hk : k < 8) (args : Array Value) (w : World) : (callFunc (fnS k) args).run Tryz.prog w = .ok (.enter (fnS k) args) w := by
  match k, hk with
  | 0, _ => exact enters_it Tryz.func102 (by kernel_rfl) rfl args w
  | 1, _ => exact enters_it Tryz.func103 (by kernel_rfl) rfl args w
  | 2, _ => exact enters_it Tryz.func104 (by kernel_rfl) rfl args w
  | 3, _ => exact enters_it Tryz.func105 (by kernel_rfl) rfl args w
  | 4, _ => exact enters_it Tryz.func106 (by kernel_rfl) rfl args w
  | 5, _ => exact enters_it Tryz.func108 (by kernel_rfl) rfl args w
  | 6, _ => exact enters_it Tryz.func109 (by kernel_rfl) rfl args w
  | 7, _ => exact enters_it Tryz.func110 (by kernel_rfl) rfl args w
def BodyOK (f : Nat) : Prop := ∀ (k p : Nat) (C : Cx) (d a n : Nat) (r : List Tok) (w : World), k < 8 → PsW w p C d n r → bodyP (stm f (d + 1)) f d a n k r ≠ .no →
  Calls Tryz.prog (fnS k) #[.pointer (some ⟨p, 0, none⟩)] w fun e w' => Got p C w (SmRN p C d w.heap.size a) (bodyP (stm f (d + 1)) f d a n k r) e w'
theorem withN_no {α : Type} {n : Nat} {x : Rs α} (h : withN n x ≠ .no) : x ≠ .no := by
  rintro rfl
  exact h rfl
theorem body_of (f : Nat) (hf : f ≤ 1000000) (hB : BlockOK f) : BodyOK f := by
  intro k p C d a n r w hk h hno
  match k, hk with
  | 0, _ => exact (store_ok f p C d n a r w h (withN_no hno)).mono fun _ _ => Got.withN
  | 1, _ => exact (returned_ok f p C d n a r w h (withN_no hno)).mono fun _ _ => Got.withN
  | 2, _ => exact (assertion_ok f p C d n a r w h (withN_no hno)).mono fun _ _ => Got.withN
  | 3, _ => exact choice_of f hB p C d a n r w h hno
  | 4, _ => exact loop_of f hB p C d a n r w h hno
  | 5, _ => exact (put_ok f p C d n a r w h (withN_no hno)).mono fun _ _ => Got.withN
  | 6, _ => exact (callAlone_ok f hf p C d n a r w h (withN_no hno)).mono fun _ _ => Got.withN
  | 7, _ => exact (assignment_ok f hf p C d n a r w h (withN_no hno)).mono fun _ _ => Got.withN
end Go.Proofs.YteplkhgaoaphhaaGreatDoor
/- The walk of the parser's stmt; all statements. Written by mkstm.py. -/
namespace Go.Proofs.YteplkhgaoaphhaaGreatDoor
open Go Go.RowKit Go.Lib

set_option maxRecDepth 100000 in
set_option maxHeartbeats 3200000 in
theorem stmt_succ (f : Nat) (hY : BodyOK f) : StmtOK (f + 1) := by
  intro p C d n r w h hno
  generalize hX : stm (f + 1) d n r = X at hno ⊢
  unfold stm at hX
  have hlt := h.lt
  have htk := hide h.tokLt
  have hrp : w.heap.size ≠ p := by omega
  replace hY := hide hY
  have hn200 := h.hn
  have hu := hide (Upd.refl (At p) (w.alloc (.cells #[.int .i64 0, .string ⟨#[]⟩, .string ⟨#[]⟩, .pointer none, .pointer none, .pointer none, .slice none 0 0, .slice none 0 0, .slice none 0 0, .int .i64 0] 58)))
  have hs := hide (h.alloc (.cells #[.int .i64 0, .string ⟨#[]⟩, .string ⟨#[]⟩, .pointer none, .pointer none, .pointer none, .slice none 0 0, .slice none 0 0, .slice none 0 0, .int .i64 0] 58))
  replace hX := hide hX
  replace hno := hide hno
  have hrs := hide (heap_new w (.cells #[.int .i64 0, .string ⟨#[]⟩, .string ⟨#[]⟩, .pointer none, .pointer none, .pointer none, .slice none 0 0, .slice none 0 0, .slice none 0 0, .int .i64 0] 58))
  have hw0 : w.heap.size < (w.alloc (.cells #[.int .i64 0, .string ⟨#[]⟩, .string ⟨#[]⟩, .pointer none, .pointer none, .pointer none, .slice none 0 0, .slice none 0 0, .slice none 0 0, .int .i64 0] 58)).heap.size := by simp
  clear h
  go_enter Tryz.func78, Tryz.ntmps78
  go_wp2_with fail
  refine (peek_any 0 (by omega) p C d n r _ hs.out).mono ?_
  rintro e wp ⟨rfl, hb⟩
  replace hs := hide (hs.out.below hb)
  replace hrs := hide ((at_below hb).heap hrs.out hrp)
  replace hu := hide (hu.out.then (at_below hb))
  clear hb
  rw [List.drop_zero, tokV_def]
  have hA := hide (hdT_at C.len r)
  have htb := hide (heap_new wp (.cells #[.int .i64 (hdT C.len r).kind, .string (strB (hdT C.len r).text), .int .i64 (hdT C.len r).at_] 49))
  have htp : wp.heap.size ≠ p := Nat.ne_of_gt hs.out.lt
  replace hs := hide (hs.out.alloc (.cells #[.int .i64 (hdT C.len r).kind, .string (strB (hdT C.len r).text), .int .i64 (hdT C.len r).at_] 49))
  replace hrs := hide (heap_old hrs.out (.cells #[.int .i64 (hdT C.len r).kind, .string (strB (hdT C.len r).text), .int .i64 (hdT C.len r).at_] 49))
  replace hu := hide (hu.out.then (Upd.alloc (At p) wp (.cells #[.int .i64 (hdT C.len r).kind, .string (strB (hdT C.len r).text), .int .i64 (hdT C.len r).at_] 49)))
  go_wp2_with fail
  have hG := stmtOf_any p C d n r _ hs.out
  rw [tokV_def] at hG
  cases hk : kindS r with
  | none =>
    have hX2 := hX.out
    simp only [hk] at hX2
    replace hX := hide hX2
    rw [show kindR r = .er r 51 by unfold kindR; rw [hk]] at hG
    refine hG.mono ?_
    rintro e w8 ⟨hU, rfl⟩
    replace hu := hide (hu.out.then hU)
    clear hk hG hU hX2
    go_wp2_with fail
    refine ⟨rfl, ?_⟩
    exact Got.er ((Upd.alloc (At p) w _).then hu.out) hX.out.symm
  | some k =>
    have hk8 := kindS_lt hk
    have hX2 := hX.out
    simp only [hk] at hX2
    replace hX := hide hX2
    rw [show kindR r = .ok k r by unfold kindR; rw [hk]] at hG
    refine hG.mono ?_
    rintro e w8 ⟨hU, v, rfl, rfl, h1⟩
    replace hrs := hide ((hU).heap hrs.out hrp)
    replace htb := hide ((hU).heap htb.out htp)
    replace hs := hide h1
    replace hu := hide (hu.out.then hU)
    clear hk hG hU h1 hX2
    have hen := enters_fnS hk8
    have hY2 := fun n2 r2 w2 h2 hno2 => hY.out k p C d n n2 r2 w2 hk8 h2 hno2
    clear hk8 hY
    generalize fnS k = F at hen hY2 ⊢
    replace hY2 := hide hY2
    have c4 := hs.out.cell4
    have f4 := hs.out.thaw 4
    by_cases hn : n = 200
    · have hX2 := hX.out
      rw [if_pos hn] at hX2
      replace hX := hide hX2
      have hn1 : ((n : Int) == 200) = true := by rw [hn]; rfl
      replace hn := hide hn
      clear hX2
      have b0 := cell_at htb.out 0
      have b1 := cell_at htb.out 1
      have b2 := cell_at htb.out 2
      simp at b0 b1 b2
      go_wp2_with fail
      refine (refuse_any (hdT C.len r) 53 _).mono ?_
      rintro e wr2 ⟨rfl, hb⟩
      replace hu := hide (hu.out.then (at_below hb))
      clear hb
      rw [hA.out]
      go_wp2_with fail
      refine ⟨rfl, ?_⟩
      exact Got.er ((Upd.alloc (At p) w _).then hu.out) hX.out.symm
    · have hX2 := hX.out
      rw [if_neg hn] at hX2
      replace hX := hide hX2
      have hn9 : n + 1 ≤ 200 := by omega
      have hn1 : ((n : Int) == 200) = false := beq_false_of_ne (by omega)
      clear hX2
      have hU := set_upd w8 p 4 (.int .i64 (n + 1 : Nat))
      have hS := hs.out.setN (n + 1) hn9
      replace hrs := hide ((hU).heap hrs.out hrp)
      replace htb := hide ((hU).heap htb.out htp)
      replace hs := hide hS
      replace hu := hide (hu.out.then hU)
      clear hU hS htb
      go_wp2_with fail
      have hG := hY2.out (n + 1) r _ hs.out
      cases hr : bodyP (stm f (d + 1)) f d n (n + 1) k r with
      | no =>
        have hX2 := hX.out
        rw [hr] at hX2
        try simp only [bind_no] at hX2
        exact absurd hX2.symm hno.out
      | er r9 k9 =>
        rw [hr] at hG
        have hX2 := hX.out
        rw [hr] at hX2
        try simp only [bind_er] at hX2
        replace hX := hide hX2
        refine (hG (fun e => by cases e)).mono ?_
        rintro e wq1 ⟨hU, rfl⟩
        replace hu := hide (hu.out.then hU)
        clear hr hG hU hX2
        go_wp2_with fail
        refine ⟨rfl, ?_⟩
        exact Got.er ((Upd.alloc (At p) w _).then hu.out) hX.out.symm
      | ok a1 r1 =>
        rw [hr] at hG
        have hX2 := hX.out
        rw [hr] at hX2
        try simp only [bind_ok] at hX2
        replace hX := hide hX2
        refine (hG (fun e => by cases e)).mono ?_
        rintro e wq1 ⟨hU, v1, rfl, ⟨k1, x1, y1, pe, pf, pc, sa1, sn1, sc1, sa2, sn2, sc2, sa3, sn3, sc3, rfl, hv⟩, h1⟩
        have hsz := hu.out.size
        replace hrs := hide ((hU).heap hrs.out hrp)
        have hva := hide (SmV.mono (S' := (w.heap.size < ·)) (fun b _ hb => Nat.lt_of_lt_of_le (Nat.lt_of_lt_of_le hw0 hsz) hb) _ _ hv)
        clear hv
        replace hs := hide h1
        replace hu := hide (hu.out.then hU)
        clear hr hG hU h1 hX2 hsz
        clear hen c4 f4 hn1 hn hY2
        have hbx := hide (heap_new wq1 (.cells #[.int .i64 k1, .string x1, .string y1, .pointer pe, .pointer pf, .pointer pc, .slice sa1 sn1 sc1, .slice sa2 sn2 sc2, .slice sa3 sn3 sc3, .int .i64 n] 58))
        have hgw : w.heap.size < wq1.heap.size := Nat.lt_of_lt_of_le hw0 hu.out.size
        have hgp : wq1.heap.size ≠ p := by omega
        replace hva := hide (SmV.mono (S' := (fun b => w.heap.size < b ∧ b ≠ wq1.heap.size)) (fun b hb h => ⟨h, Nat.ne_of_lt hb⟩) _ _ hva.out)
        replace hva := hide (SmV.upd (Upd.alloc (fun _ => False) _ (.cells #[.int .i64 k1, .string x1, .string y1, .pointer pe, .pointer pf, .pointer pc, .slice sa1 sn1 sc1, .slice sa2 sn2 sc2, .slice sa3 sn3 sc3, .int .i64 n] 58)) (fun _ _ => id) _ _ hva.out)
        replace hs := hide (hs.out.alloc (.cells #[.int .i64 k1, .string x1, .string y1, .pointer pe, .pointer pf, .pointer pc, .slice sa1 sn1 sc1, .slice sa2 sn2 sc2, .slice sa3 sn3 sc3, .int .i64 n] 58))
        replace hrs := hide (heap_old hrs.out (.cells #[.int .i64 k1, .string x1, .string y1, .pointer pe, .pointer pf, .pointer pc, .slice sa1 sn1 sc1, .slice sa2 sn2 sc2, .slice sa3 sn3 sc3, .int .i64 n] 58))
        replace hu := hide (hu.out.then (Upd.alloc (At p) _ (.cells #[.int .i64 k1, .string x1, .string y1, .pointer pe, .pointer pf, .pointer pc, .slice sa1 sn1 sc1, .slice sa2 sn2 sc2, .slice sa3 sn3 sc3, .int .i64 n] 58)))
        go_upto_region 9 with (fail)
        generalize (wq1.alloc (.cells #[.int .i64 k1, .string x1, .string y1, .pointer pe, .pointer pf, .pointer pc, .slice sa1 sn1 sc1, .slice sa2 sn2 sc2, .slice sa3 sn3 sc3, .int .i64 n] 58)) = W at *
        have cc0 := cell_at hbx.out 0
        have cc1 := cell_at hbx.out 1
        have cc2 := cell_at hbx.out 2
        have cc3 := cell_at hbx.out 3
        have cc4 := cell_at hbx.out 4
        have cc5 := cell_at hbx.out 5
        have cc6 := cell_at hbx.out 6
        have cc7 := cell_at hbx.out 7
        have cc8 := cell_at hbx.out 8
        have cc9 := cell_at hbx.out 9
        simp at cc0 cc1 cc2 cc3 cc4 cc5 cc6 cc7 cc8 cc9
        have rr0 := hrs.out
        have dd0 := cell_at rr0 0
        have ff0 := frozen_at rr0 0
        have rr1 : (W.setCell ⟨w.heap.size, 0, none⟩ (.int .i64 k1)).heap[w.heap.size]? = some (.cells #[.int .i64 k1, .string ⟨#[]⟩, .string ⟨#[]⟩, .pointer none, .pointer none, .pointer none, .slice none 0 0, .slice none 0 0, .slice none 0 0, .int .i64 0] 58 (0, 0)) := heap_set rr0 0 _
        have kk0 : (W.setCell ⟨w.heap.size, 0, none⟩ (.int .i64 k1)).cell? ⟨w.heap.size, 0, none⟩ = some (.int .i64 k1) := cell_at rr1 0
        replace kk0 := hide kk0
        have dd1 := cell_at rr1 1
        have ff1 := frozen_at rr1 1
        have rr2 : ((W.setCell ⟨w.heap.size, 0, none⟩ (.int .i64 k1)).setCell ⟨w.heap.size, 1, none⟩ (.string x1)).heap[w.heap.size]? = some (.cells #[.int .i64 k1, .string x1, .string ⟨#[]⟩, .pointer none, .pointer none, .pointer none, .slice none 0 0, .slice none 0 0, .slice none 0 0, .int .i64 0] 58 (0, 0)) := heap_set rr1 1 _
        have kk1 : ((W.setCell ⟨w.heap.size, 0, none⟩ (.int .i64 k1)).setCell ⟨w.heap.size, 1, none⟩ (.string x1)).cell? ⟨w.heap.size, 1, none⟩ = some (.string x1) := cell_at rr2 1
        replace kk1 := hide kk1
        have dd2 := cell_at rr2 2
        have ff2 := frozen_at rr2 2
        have rr3 : (((W.setCell ⟨w.heap.size, 0, none⟩ (.int .i64 k1)).setCell ⟨w.heap.size, 1, none⟩ (.string x1)).setCell ⟨w.heap.size, 2, none⟩ (.string y1)).heap[w.heap.size]? = some (.cells #[.int .i64 k1, .string x1, .string y1, .pointer none, .pointer none, .pointer none, .slice none 0 0, .slice none 0 0, .slice none 0 0, .int .i64 0] 58 (0, 0)) := heap_set rr2 2 _
        have kk2 : (((W.setCell ⟨w.heap.size, 0, none⟩ (.int .i64 k1)).setCell ⟨w.heap.size, 1, none⟩ (.string x1)).setCell ⟨w.heap.size, 2, none⟩ (.string y1)).cell? ⟨w.heap.size, 2, none⟩ = some (.string y1) := cell_at rr3 2
        replace kk2 := hide kk2
        have dd3 := cell_at rr3 3
        have ff3 := frozen_at rr3 3
        have rr4 : ((((W.setCell ⟨w.heap.size, 0, none⟩ (.int .i64 k1)).setCell ⟨w.heap.size, 1, none⟩ (.string x1)).setCell ⟨w.heap.size, 2, none⟩ (.string y1)).setCell ⟨w.heap.size, 3, none⟩ (.pointer pe)).heap[w.heap.size]? = some (.cells #[.int .i64 k1, .string x1, .string y1, .pointer pe, .pointer none, .pointer none, .slice none 0 0, .slice none 0 0, .slice none 0 0, .int .i64 0] 58 (0, 0)) := heap_set rr3 3 _
        have kk3 : ((((W.setCell ⟨w.heap.size, 0, none⟩ (.int .i64 k1)).setCell ⟨w.heap.size, 1, none⟩ (.string x1)).setCell ⟨w.heap.size, 2, none⟩ (.string y1)).setCell ⟨w.heap.size, 3, none⟩ (.pointer pe)).cell? ⟨w.heap.size, 3, none⟩ = some (.pointer pe) := cell_at rr4 3
        replace kk3 := hide kk3
        have dd4 := cell_at rr4 4
        have ff4 := frozen_at rr4 4
        have rr5 : (((((W.setCell ⟨w.heap.size, 0, none⟩ (.int .i64 k1)).setCell ⟨w.heap.size, 1, none⟩ (.string x1)).setCell ⟨w.heap.size, 2, none⟩ (.string y1)).setCell ⟨w.heap.size, 3, none⟩ (.pointer pe)).setCell ⟨w.heap.size, 4, none⟩ (.pointer pf)).heap[w.heap.size]? = some (.cells #[.int .i64 k1, .string x1, .string y1, .pointer pe, .pointer pf, .pointer none, .slice none 0 0, .slice none 0 0, .slice none 0 0, .int .i64 0] 58 (0, 0)) := heap_set rr4 4 _
        have kk4 : (((((W.setCell ⟨w.heap.size, 0, none⟩ (.int .i64 k1)).setCell ⟨w.heap.size, 1, none⟩ (.string x1)).setCell ⟨w.heap.size, 2, none⟩ (.string y1)).setCell ⟨w.heap.size, 3, none⟩ (.pointer pe)).setCell ⟨w.heap.size, 4, none⟩ (.pointer pf)).cell? ⟨w.heap.size, 4, none⟩ = some (.pointer pf) := cell_at rr5 4
        replace kk4 := hide kk4
        have dd5 := cell_at rr5 5
        have ff5 := frozen_at rr5 5
        have rr6 : ((((((W.setCell ⟨w.heap.size, 0, none⟩ (.int .i64 k1)).setCell ⟨w.heap.size, 1, none⟩ (.string x1)).setCell ⟨w.heap.size, 2, none⟩ (.string y1)).setCell ⟨w.heap.size, 3, none⟩ (.pointer pe)).setCell ⟨w.heap.size, 4, none⟩ (.pointer pf)).setCell ⟨w.heap.size, 5, none⟩ (.pointer pc)).heap[w.heap.size]? = some (.cells #[.int .i64 k1, .string x1, .string y1, .pointer pe, .pointer pf, .pointer pc, .slice none 0 0, .slice none 0 0, .slice none 0 0, .int .i64 0] 58 (0, 0)) := heap_set rr5 5 _
        have kk5 : ((((((W.setCell ⟨w.heap.size, 0, none⟩ (.int .i64 k1)).setCell ⟨w.heap.size, 1, none⟩ (.string x1)).setCell ⟨w.heap.size, 2, none⟩ (.string y1)).setCell ⟨w.heap.size, 3, none⟩ (.pointer pe)).setCell ⟨w.heap.size, 4, none⟩ (.pointer pf)).setCell ⟨w.heap.size, 5, none⟩ (.pointer pc)).cell? ⟨w.heap.size, 5, none⟩ = some (.pointer pc) := cell_at rr6 5
        replace kk5 := hide kk5
        have dd6 := cell_at rr6 6
        have ff6 := frozen_at rr6 6
        have rr7 : (((((((W.setCell ⟨w.heap.size, 0, none⟩ (.int .i64 k1)).setCell ⟨w.heap.size, 1, none⟩ (.string x1)).setCell ⟨w.heap.size, 2, none⟩ (.string y1)).setCell ⟨w.heap.size, 3, none⟩ (.pointer pe)).setCell ⟨w.heap.size, 4, none⟩ (.pointer pf)).setCell ⟨w.heap.size, 5, none⟩ (.pointer pc)).setCell ⟨w.heap.size, 6, none⟩ (.slice sa1 sn1 sc1)).heap[w.heap.size]? = some (.cells #[.int .i64 k1, .string x1, .string y1, .pointer pe, .pointer pf, .pointer pc, .slice sa1 sn1 sc1, .slice none 0 0, .slice none 0 0, .int .i64 0] 58 (0, 0)) := heap_set rr6 6 _
        have kk6 : (((((((W.setCell ⟨w.heap.size, 0, none⟩ (.int .i64 k1)).setCell ⟨w.heap.size, 1, none⟩ (.string x1)).setCell ⟨w.heap.size, 2, none⟩ (.string y1)).setCell ⟨w.heap.size, 3, none⟩ (.pointer pe)).setCell ⟨w.heap.size, 4, none⟩ (.pointer pf)).setCell ⟨w.heap.size, 5, none⟩ (.pointer pc)).setCell ⟨w.heap.size, 6, none⟩ (.slice sa1 sn1 sc1)).cell? ⟨w.heap.size, 6, none⟩ = some (.slice sa1 sn1 sc1) := cell_at rr7 6
        replace kk6 := hide kk6
        have dd7 := cell_at rr7 7
        have ff7 := frozen_at rr7 7
        have rr8 : ((((((((W.setCell ⟨w.heap.size, 0, none⟩ (.int .i64 k1)).setCell ⟨w.heap.size, 1, none⟩ (.string x1)).setCell ⟨w.heap.size, 2, none⟩ (.string y1)).setCell ⟨w.heap.size, 3, none⟩ (.pointer pe)).setCell ⟨w.heap.size, 4, none⟩ (.pointer pf)).setCell ⟨w.heap.size, 5, none⟩ (.pointer pc)).setCell ⟨w.heap.size, 6, none⟩ (.slice sa1 sn1 sc1)).setCell ⟨w.heap.size, 7, none⟩ (.slice sa2 sn2 sc2)).heap[w.heap.size]? = some (.cells #[.int .i64 k1, .string x1, .string y1, .pointer pe, .pointer pf, .pointer pc, .slice sa1 sn1 sc1, .slice sa2 sn2 sc2, .slice none 0 0, .int .i64 0] 58 (0, 0)) := heap_set rr7 7 _
        have kk7 : ((((((((W.setCell ⟨w.heap.size, 0, none⟩ (.int .i64 k1)).setCell ⟨w.heap.size, 1, none⟩ (.string x1)).setCell ⟨w.heap.size, 2, none⟩ (.string y1)).setCell ⟨w.heap.size, 3, none⟩ (.pointer pe)).setCell ⟨w.heap.size, 4, none⟩ (.pointer pf)).setCell ⟨w.heap.size, 5, none⟩ (.pointer pc)).setCell ⟨w.heap.size, 6, none⟩ (.slice sa1 sn1 sc1)).setCell ⟨w.heap.size, 7, none⟩ (.slice sa2 sn2 sc2)).cell? ⟨w.heap.size, 7, none⟩ = some (.slice sa2 sn2 sc2) := cell_at rr8 7
        replace kk7 := hide kk7
        have dd8 := cell_at rr8 8
        have ff8 := frozen_at rr8 8
        have rr9 : (((((((((W.setCell ⟨w.heap.size, 0, none⟩ (.int .i64 k1)).setCell ⟨w.heap.size, 1, none⟩ (.string x1)).setCell ⟨w.heap.size, 2, none⟩ (.string y1)).setCell ⟨w.heap.size, 3, none⟩ (.pointer pe)).setCell ⟨w.heap.size, 4, none⟩ (.pointer pf)).setCell ⟨w.heap.size, 5, none⟩ (.pointer pc)).setCell ⟨w.heap.size, 6, none⟩ (.slice sa1 sn1 sc1)).setCell ⟨w.heap.size, 7, none⟩ (.slice sa2 sn2 sc2)).setCell ⟨w.heap.size, 8, none⟩ (.slice sa3 sn3 sc3)).heap[w.heap.size]? = some (.cells #[.int .i64 k1, .string x1, .string y1, .pointer pe, .pointer pf, .pointer pc, .slice sa1 sn1 sc1, .slice sa2 sn2 sc2, .slice sa3 sn3 sc3, .int .i64 0] 58 (0, 0)) := heap_set rr8 8 _
        have kk8 : (((((((((W.setCell ⟨w.heap.size, 0, none⟩ (.int .i64 k1)).setCell ⟨w.heap.size, 1, none⟩ (.string x1)).setCell ⟨w.heap.size, 2, none⟩ (.string y1)).setCell ⟨w.heap.size, 3, none⟩ (.pointer pe)).setCell ⟨w.heap.size, 4, none⟩ (.pointer pf)).setCell ⟨w.heap.size, 5, none⟩ (.pointer pc)).setCell ⟨w.heap.size, 6, none⟩ (.slice sa1 sn1 sc1)).setCell ⟨w.heap.size, 7, none⟩ (.slice sa2 sn2 sc2)).setCell ⟨w.heap.size, 8, none⟩ (.slice sa3 sn3 sc3)).cell? ⟨w.heap.size, 8, none⟩ = some (.slice sa3 sn3 sc3) := cell_at rr9 8
        replace kk8 := hide kk8
        have dd9 := cell_at rr9 9
        have ff9 := frozen_at rr9 9
        have rr10 : ((((((((((W.setCell ⟨w.heap.size, 0, none⟩ (.int .i64 k1)).setCell ⟨w.heap.size, 1, none⟩ (.string x1)).setCell ⟨w.heap.size, 2, none⟩ (.string y1)).setCell ⟨w.heap.size, 3, none⟩ (.pointer pe)).setCell ⟨w.heap.size, 4, none⟩ (.pointer pf)).setCell ⟨w.heap.size, 5, none⟩ (.pointer pc)).setCell ⟨w.heap.size, 6, none⟩ (.slice sa1 sn1 sc1)).setCell ⟨w.heap.size, 7, none⟩ (.slice sa2 sn2 sc2)).setCell ⟨w.heap.size, 8, none⟩ (.slice sa3 sn3 sc3)).setCell ⟨w.heap.size, 9, none⟩ (.int .i64 n)).heap[w.heap.size]? = some (.cells #[.int .i64 k1, .string x1, .string y1, .pointer pe, .pointer pf, .pointer pc, .slice sa1 sn1 sc1, .slice sa2 sn2 sc2, .slice sa3 sn3 sc3, .int .i64 n] 58 (0, 0)) := heap_set rr9 9 _
        have kk9 : ((((((((((W.setCell ⟨w.heap.size, 0, none⟩ (.int .i64 k1)).setCell ⟨w.heap.size, 1, none⟩ (.string x1)).setCell ⟨w.heap.size, 2, none⟩ (.string y1)).setCell ⟨w.heap.size, 3, none⟩ (.pointer pe)).setCell ⟨w.heap.size, 4, none⟩ (.pointer pf)).setCell ⟨w.heap.size, 5, none⟩ (.pointer pc)).setCell ⟨w.heap.size, 6, none⟩ (.slice sa1 sn1 sc1)).setCell ⟨w.heap.size, 7, none⟩ (.slice sa2 sn2 sc2)).setCell ⟨w.heap.size, 8, none⟩ (.slice sa3 sn3 sc3)).setCell ⟨w.heap.size, 9, none⟩ (.int .i64 n)).cell? ⟨w.heap.size, 9, none⟩ = some (.int .i64 n) := cell_at rr10 9
        replace kk9 := hide kk9
        simp at dd0 dd1 dd2 dd3 dd4 dd5 dd6 dd7 dd8 dd9
        clear rr0 rr1 rr2 rr3 rr4 rr5 rr6 rr7 rr8 rr9 rr10
        go_wp2_with fail
        refine bodyPost_ret (v := .agg #[.int .i64 k1, .string x1, .string y1, .pointer pe, .pointer pf, .pointer pc, .slice sa1 sn1 sc1, .slice sa2 sn2 sc2, .slice sa3 sn3 sc3, .int .i64 n]) (by simp [results, Tryz.results78, go_sem, kk0.out, kk1.out, kk2.out, kk3.out, kk4.out, kk5.out, kk6.out, kk7.out, kk8.out, kk9.out]) rfl ?_
        obtain ⟨q1, q2, q3⟩ := fin_got (S := (fun b => w.heap.size < b ∧ b ≠ wq1.heap.size)) (((((((((((Upd.refl (At w.heap.size) W).setOn 0 (.int .i64 k1)).setOn 1 (.string x1)).setOn 2 (.string y1)).setOn 3 (.pointer pe)).setOn 4 (.pointer pf)).setOn 5 (.pointer pc)).setOn 6 (.slice sa1 sn1 sc1)).setOn 7 (.slice sa2 sn2 sc2)).setOn 8 (.slice sa3 sn3 sc3)).setOn 9 (.int .i64 n)) ((Upd.alloc (At p) w _).then hu.out) hlt htk.out hs.out (fun b hb => hb.1) (hva.out)
        exact Got.ok q1 hX.out.symm ⟨⟨k1, x1, y1, _, _, _, _, _, _, _, _, _, _, _, _, n, rfl, q3⟩, q2⟩
theorem stmt_ok : ∀ f, f ≤ 1000000 → StmtOK f
  | 0, _ => fun _ _ _ _ _ _ _ hno => absurd rfl hno
  | f + 1, hf => stmt_succ f (body_of f (by omega) (block_of f (stmtsToEnd_of f (by omega) (stmt_ok f (by omega)))))
theorem stmts_ok (f : Nat) (hf : f ≤ 1000000) : StmtsOK f := stmtsToEnd_of f hf (stmt_ok f hf)
end Go.Proofs.YteplkhgaoaphhaaGreatDoor
/- Walks of the parser's methods for declarations. Written by mkfunc.py. -/
namespace Go.Proofs.YteplkhgaoaphhaaGreatDoor
open Go Go.RowKit Go.Lib

/-- A declared variable's cells. -/
def VarP (_ : World) (_ : Nat → Prop) (a : Vr) (us : List Value) : Prop := us = [.string (strB a.name), .bool a.ptr]
theorem varFam : Fam VarP where
  upd := fun _ _ h => h
  mono := fun _ h => h
  one := fun h u hu => by
    subst h
    simp only [List.mem_cons, List.not_mem_nil, or_false] at hu
    rcases hu with rfl | rfl <;> rfl
theorem var_info : (Tryz.prog.info? 106).map (fun i => (i.zero, i.size, i.bytes)) = some (some (.agg #[.string .empty, .bool false]), 2, 24) := by kernel_rfl
/-- A variable is told. -/
def VarR (p : Nat) (C : Cx) (d n : Nat) (v : Value) (w : World) (a : Vr) (r : List Tok) : Prop := v = .agg #[.string (strB a.name), .bool a.ptr] ∧ PsW w p C d n r
/-- Variables are told. -/
def VarsR (p : Nat) (C : Cx) (d n : Nat) (B : Nat) (v : Value) (w : World) (a : List Vr) (r : List Tok) : Prop := ListV w (B ≤ ·) VarP 2 a v ∧ PsW w p C d n r
theorem fin_gen {w cur fin : World} {p : Nat} {C : Cx} {d n : Nat} {r : List Tok} (hfin : Upd (At w.heap.size) cur fin) (huw : Upd (At p) w cur) (hlt : p < w.heap.size) (htk : ∀ k, C.vt.ownBlock = some k → k < w.heap.size) (hs : PsW cur p C d n r) : Upd (At p) w fin ∧ PsW fin p C d n r :=
  ⟨huw.trans hfin fun k hk e => by simp only [At] at e; omega, hs.upd hfin (fun e => by simp only [At] at e; omega) fun k hk e => by have := htk k hk; simp only [At] at e; omega⟩

set_option maxRecDepth 100000 in
set_option maxHeartbeats 3200000 in
theorem param_any : ∀ (k p : Nat) (C : Cx) (d n : Nat) (r : List Tok) (w : World), PsW w p C d n r → paramP k r ≠ .no → Calls Tryz.prog 76 #[.pointer (some ⟨p, 0, none⟩), .int .i64 k] w fun e w' => Got p C w (VarR p C d n) (paramP k r) e w' := by
  intro k p C d n r w h hno
  generalize hX : paramP k r = X at hno ⊢
  unfold paramP at hX
  have hlt := h.lt
  have htk := hide h.tokLt
  have hrp : w.heap.size ≠ p := by omega
  have hu := hide (Upd.refl (At p) (w.alloc (.cells #[.string ⟨#[]⟩, .bool false] 106)))
  have hs := hide (h.alloc (.cells #[.string ⟨#[]⟩, .bool false] 106))
  replace hX := hide hX
  replace hno := hide hno
  have hrs := hide (heap_new w (.cells #[.string ⟨#[]⟩, .bool false] 106))
  have hw0 : w.heap.size < (w.alloc (.cells #[.string ⟨#[]⟩, .bool false] 106)).heap.size := by simp
  clear h
  go_enter Tryz.func76, Tryz.ntmps76
  go_wp2_with fail
  by_cases hx0 : nx r [42] = true
  · have hne := hide (nx_ne hx0 (by decide))
    refine (accept_yes [42] (by decide) p C d n r _ hs.out hx0).mono ?_
    rintro e wq1 ⟨rfl, hU, h1⟩
    replace hx0 := hide hx0
    replace hrs := hide ((hU).heap hrs.out hrp)
    replace hs := hide h1
    replace hu := hide (hu.out.then hU)
    clear hU h1
    go_wp2_with fail
    have hX2 := hX.out
    rw [if_pos hx0.out, hx0.out] at hX2
    replace hX := hide hX2
    clear hX2
    have hG := declared_any k 6 p C d n r.tail _ hs.out
    cases hr : declP k 6 r.tail with
    | no =>
      have hX2 := hX.out
      rw [hr] at hX2
      try simp only [bind_no] at hX2
      exact absurd hX2.symm hno.out
    | er r9 k9 =>
      rw [hr] at hG
      have hX2 := hX.out
      rw [hr] at hX2
      try simp only [bind_er] at hX2
      replace hX := hide hX2
      refine (hG).mono ?_
      rintro e wq2 ⟨hU, rfl⟩
      replace hu := hide (hu.out.then hU)
      clear hr hG hU hX2
      go_wp2_with fail
      refine ⟨rfl, ?_⟩
      exact Got.er ((Upd.alloc (At p) w _).then hu.out) hX.out.symm
    | ok a2 r2 =>
      rw [hr] at hG
      have hX2 := hX.out
      rw [hr] at hX2
      try simp only [bind_ok] at hX2
      replace hX := hide hX2
      refine (hG).mono ?_
      rintro e wq2 ⟨hU, v2, rfl, rfl, h1⟩
      have hsz := hu.out.size
      replace hrs := hide ((hU).heap hrs.out hrp)
      replace hs := hide h1
      replace hu := hide (hu.out.then hU)
      clear hr hG hU h1 hX2 hsz
      have rr0 := hrs.out
      have dd0 := cell_at rr0 0
      have ff0 := frozen_at rr0 0
      have rr1 : (wq2.setCell ⟨w.heap.size, 0, none⟩ (.string (strB a2))).heap[w.heap.size]? = some (.cells #[.string (strB a2), .bool false] 106 (0, 0)) := heap_set rr0 0 _
      have kk0 : (wq2.setCell ⟨w.heap.size, 0, none⟩ (.string (strB a2))).cell? ⟨w.heap.size, 0, none⟩ = some (.string (strB a2)) := cell_at rr1 0
      replace kk0 := hide kk0
      have dd1 := cell_at rr1 1
      have ff1 := frozen_at rr1 1
      have rr2 : ((wq2.setCell ⟨w.heap.size, 0, none⟩ (.string (strB a2))).setCell ⟨w.heap.size, 1, none⟩ (.bool true)).heap[w.heap.size]? = some (.cells #[.string (strB a2), .bool true] 106 (0, 0)) := heap_set rr1 1 _
      have kk1 : ((wq2.setCell ⟨w.heap.size, 0, none⟩ (.string (strB a2))).setCell ⟨w.heap.size, 1, none⟩ (.bool true)).cell? ⟨w.heap.size, 1, none⟩ = some (.bool true) := cell_at rr2 1
      replace kk1 := hide kk1
      simp at dd0 dd1
      clear rr0 rr1 rr2
      go_wp2_with fail
      refine bodyPost_ret (v := .agg #[.string (strB a2), .bool true]) (by simp [results, Tryz.results76, go_sem, kk0.out, kk1.out]) rfl ?_
      have hfin := ((Upd.refl (At w.heap.size) wq2).setOn 0 (.string (strB a2))).setOn 1 (.bool true)
      obtain ⟨q1, q2⟩ := fin_gen hfin ((Upd.alloc (At p) w _).then hu.out) hlt htk.out hs.out
      exact Got.ok q1 hX.out.symm ⟨rfl, q2⟩
  · have hx0 : nx r [42] = false := by simpa using hx0
    refine (accept_no [42] p C d n r _ hs.out hx0).mono ?_
    rintro e wq1 ⟨rfl, hU, h1⟩
    replace hx0 := hide hx0
    replace hrs := hide ((hU).heap hrs.out hrp)
    replace hs := hide h1
    replace hu := hide (hu.out.then hU)
    clear hU h1
    go_wp2_with fail
    have hX2 := hX.out
    rw [hx0.out, if_neg Bool.false_ne_true] at hX2
    replace hX := hide hX2
    clear hX2
    have hG := declared_any k 6 p C d n r _ hs.out
    cases hr : declP k 6 r with
    | no =>
      have hX2 := hX.out
      rw [hr] at hX2
      try simp only [bind_no] at hX2
      exact absurd hX2.symm hno.out
    | er r9 k9 =>
      rw [hr] at hG
      have hX2 := hX.out
      rw [hr] at hX2
      try simp only [bind_er] at hX2
      replace hX := hide hX2
      refine (hG).mono ?_
      rintro e wq2 ⟨hU, rfl⟩
      replace hu := hide (hu.out.then hU)
      clear hr hG hU hX2
      go_wp2_with fail
      refine ⟨rfl, ?_⟩
      exact Got.er ((Upd.alloc (At p) w _).then hu.out) hX.out.symm
    | ok a2 r2 =>
      rw [hr] at hG
      have hX2 := hX.out
      rw [hr] at hX2
      try simp only [bind_ok] at hX2
      replace hX := hide hX2
      refine (hG).mono ?_
      rintro e wq2 ⟨hU, v2, rfl, rfl, h1⟩
      have hsz := hu.out.size
      replace hrs := hide ((hU).heap hrs.out hrp)
      replace hs := hide h1
      replace hu := hide (hu.out.then hU)
      clear hr hG hU h1 hX2 hsz
      have rr0 := hrs.out
      have dd0 := cell_at rr0 0
      have ff0 := frozen_at rr0 0
      have rr1 : (wq2.setCell ⟨w.heap.size, 0, none⟩ (.string (strB a2))).heap[w.heap.size]? = some (.cells #[.string (strB a2), .bool false] 106 (0, 0)) := heap_set rr0 0 _
      have kk0 : (wq2.setCell ⟨w.heap.size, 0, none⟩ (.string (strB a2))).cell? ⟨w.heap.size, 0, none⟩ = some (.string (strB a2)) := cell_at rr1 0
      replace kk0 := hide kk0
      have dd1 := cell_at rr1 1
      have ff1 := frozen_at rr1 1
      have rr2 : ((wq2.setCell ⟨w.heap.size, 0, none⟩ (.string (strB a2))).setCell ⟨w.heap.size, 1, none⟩ (.bool false)).heap[w.heap.size]? = some (.cells #[.string (strB a2), .bool false] 106 (0, 0)) := heap_set rr1 1 _
      have kk1 : ((wq2.setCell ⟨w.heap.size, 0, none⟩ (.string (strB a2))).setCell ⟨w.heap.size, 1, none⟩ (.bool false)).cell? ⟨w.heap.size, 1, none⟩ = some (.bool false) := cell_at rr2 1
      replace kk1 := hide kk1
      simp at dd0 dd1
      clear rr0 rr1 rr2
      go_wp2_with fail
      refine bodyPost_ret (v := .agg #[.string (strB a2), .bool false]) (by simp [results, Tryz.results76, go_sem, kk0.out, kk1.out]) rfl ?_
      have hfin := ((Upd.refl (At w.heap.size) wq2).setOn 0 (.string (strB a2))).setOn 1 (.bool false)
      obtain ⟨q1, q2⟩ := fin_gen hfin ((Upd.alloc (At p) w _).then hu.out) hlt htk.out hs.out
      exact Got.ok q1 hX.out.symm ⟨rfl, q2⟩

set_option maxRecDepth 100000 in
set_option maxHeartbeats 3200000 in
theorem params_ok (f : Nat) (hf : f ≤ 1000000) : ∀ (p : Nat) (C : Cx) (d n : Nat) (r : List Tok) (w : World), PsW w p C d n r → paramsP f r ≠ .no → Calls Tryz.prog 48 #[.pointer (some ⟨p, 0, none⟩)] w fun e w' => Got p C w (VarsR p C d n w.heap.size) (paramsP f r) e w' := by
  intro p C d n r w h hno
  generalize hX : paramsP f r = X at hno ⊢
  unfold paramsP at hX
  have hlt := h.lt
  have htk := hide h.tokLt
  have hu := hide (Upd.refl (At p) w)
  have hs := hide h
  replace hX := hide hX
  replace hno := hide hno
  clear h
  go_enter Tryz.func48, Tryz.ntmps48
  go_wp2_with fail
  have hG := expect_any [40] (by decide) p C d n r _ hs.out
  cases hr : want [40] r with
  | no =>
    have hX2 := hX.out
    rw [hr] at hX2
    try simp only [bind_no] at hX2
    exact absurd hX2.symm hno.out
  | er r9 k9 =>
    rw [hr] at hG
    have hX2 := hX.out
    rw [hr] at hX2
    try simp only [bind_er] at hX2
    replace hX := hide hX2
    refine (hG).mono ?_
    rintro e wq1 ⟨hU, rfl⟩
    replace hu := hide (hu.out.then hU)
    clear hr hG hU hX2
    go_wp2_with fail
    refine ⟨rfl, ?_⟩
    exact Got.er hu.out hX.out.symm
  | ok a1 r1 =>
    rw [hr] at hG
    have hX2 := hX.out
    rw [hr] at hX2
    try simp only [bind_ok] at hX2
    replace hX := hide hX2
    refine (hG).mono ?_
    rintro e wq1 ⟨hU, v1, rfl, rfl, h1⟩
    have hsz := hu.out.size
    replace hs := hide h1
    replace hu := hide (hu.out.then hU)
    clear hr hG hU h1 hX2 hsz
    go_wp2_with fail
    by_cases hx1 : nx r1 [41] = true
    · have hne := hide (nx_ne hx1 (by decide))
      have hX2 := hX.out
      rw [if_pos hx1] at hX2
      replace hX := hide hX2
      clear hX2
      refine (accept_yes [41] (by decide) p C d n r1 _ hs.out hx1).mono ?_
      rintro e wq2 ⟨rfl, hU, h1⟩
      replace hx1 := hide hx1
      replace hs := hide h1
      replace hu := hide (hu.out.then hU)
      clear hU h1
      go_wp2_with fail
      go_ret
      exact Got.ok hu.out hX.out.symm ⟨(RowS.nil_ _ w.heap.size 106 2 VarP).list varFam, hs.out⟩
    · have hx1 : nx r1 [41] = false := by simpa using hx1
      have hX2 := hX.out
      rw [if_neg (by rw [hx1]; exact Bool.false_ne_true)] at hX2
      replace hX := hide hX2
      clear hX2
      refine (accept_no [41] p C d n r1 _ hs.out hx1).mono ?_
      rintro e wq2 ⟨rfl, hU, h1⟩
      replace hx1 := hide hx1
      replace hs := hide h1
      replace hu := hide (hu.out.then hU)
      clear hU h1
      go_wp2_with fail
      have hG := param_any 0 p C d n r1 _ hs.out
      cases hr : paramP 0 r1 with
      | no =>
        have hX2 := hX.out
        rw [hr] at hX2
        try simp only [bind_no] at hX2
        exact absurd hX2.symm hno.out
      | er r9 k9 =>
        rw [hr] at hG
        have hX2 := hX.out
        rw [hr] at hX2
        try simp only [bind_er] at hX2
        replace hX := hide hX2
        refine (hG (fun e => by cases e)).mono ?_
        rintro e wq3 ⟨hU, rfl⟩
        replace hu := hide (hu.out.then hU)
        clear hr hG hU hX2
        go_wp2_with fail
        refine ⟨rfl, ?_⟩
        exact Got.er hu.out hX.out.symm
      | ok a3 r3 =>
        rw [hr] at hG
        have hX2 := hX.out
        rw [hr] at hX2
        try simp only [bind_ok] at hX2
        replace hX := hide hX2
        refine (hG (fun e => by cases e)).mono ?_
        rintro e wq3 ⟨hU, v3, rfl, rfl, h1⟩
        have hsz := hu.out.size
        replace hs := hide h1
        replace hu := hide (hu.out.then hU)
        clear hr hG hU h1 hX2 hsz
        have hnew := hide (heap_new wq3 (.cells #[.string (strB a3.name), .bool a3.ptr] 106))
        have hg1 := hu.out.size
        replace hs := hide (hs.out.alloc (.cells #[.string (strB a3.name), .bool a3.ptr] 106))
        replace hu := hide (hu.out.then (Upd.alloc (At p) _ (.cells #[.string (strB a3.name), .bool a3.ptr] 106)))
        have hrow : Hid (RowS (wq3.alloc (.cells #[.string (strB a3.name), .bool a3.ptr] 106)) w.heap.size 106 2 VarP [a3] (.slice (some ⟨wq3.heap.size, 0, none⟩) 1 1)) := hide (RowS.one_ varFam (us := [.string (strB a3.name), .bool a3.ptr]) hnew.out hg1 rfl rfl)
        clear hnew hg1
        go_wp2_with fail
        go_loopg [3] f (fun k v wr => ∃ (l : List Vr) (r : List Tok), Upd (At p) w wr ∧ RowS wr w.heap.size 106 2 VarP l v ∧ PsW wr p C d n r ∧ l.length + k ≤ f + 1 ∧ ((many paramP k l r).bind fun l r => (want [41] r).bind fun _ r => .ok l r) = X)
        case atStart => exact ⟨[a3], r3, hu.out, hrow.out, hs.out, by simp; omega, hX.out⟩
        case round =>
          clear hu hrow hs hX
          obtain ⟨l, r, hu, hrow, hs, hlk, hX⟩ := hrel
          cases gk with
          | zero => exact absurd hX.symm hno.out
          | succ g =>
            obtain ⟨A1, c1, rfl⟩ := hrow.slice
            replace hu := hide hu
            replace hrow := hide hrow
            replace hs := hide hs
            have hlk2 : l.length ≤ 1000000 := by omega
            replace hlk := hide hlk
            replace hX := hide hX
            go_wp2_with fail
            by_cases hx40 : nx r [44] = true
            · have hne := hide (nx_ne hx40 (by decide))
              refine (accept_yes [44] (by decide) p C d n r _ hs.out hx40).mono ?_
              rintro e wq41 ⟨rfl, hU, h1⟩
              replace hx40 := hide hx40
              replace hrow := hide (hrow.out.upd varFam (hU) (above_not hlt))
              replace hs := hide h1
              replace hu := hide (hu.out.then hU)
              clear hU h1
              go_wp2_with fail
              have hX2 := hX.out
              rw [many_some hx40.out] at hX2
              replace hX := hide hX2
              clear hX2
              have hG := param_any l.length p C d n r.tail _ hs.out
              cases hr : paramP l.length r.tail with
              | no =>
                have hX2 := hX.out
                rw [hr] at hX2
                try simp only [bind_no] at hX2
                exact absurd hX2.symm hno.out
              | er r9 k9 =>
                rw [hr] at hG
                have hX2 := hX.out
                rw [hr] at hX2
                try simp only [bind_er] at hX2
                replace hX := hide hX2
                refine (hG (fun e => by cases e)).mono ?_
                rintro e wq42 ⟨hU, rfl⟩
                replace hu := hide (hu.out.then hU)
                clear hr hG hU hX2
                go_wp2_with fail
                refine ⟨rfl, ?_⟩
                exact Got.er hu.out hX.out.symm
              | ok a42 r42 =>
                rw [hr] at hG
                have hX2 := hX.out
                rw [hr] at hX2
                try simp only [bind_ok] at hX2
                replace hX := hide hX2
                refine (hG (fun e => by cases e)).mono ?_
                rintro e wq42 ⟨hU, v42, rfl, rfl, h1⟩
                have hsz := hu.out.size
                replace hrow := hide (hrow.out.upd varFam (hU) (above_not hlt))
                replace hs := hide h1
                replace hu := hide (hu.out.then hU)
                clear hr hG hU h1 hX2 hsz
                have hnew := hide (heap_new wq42 (.cells #[.string (strB a42.name), .bool a42.ptr] 106))
                have hbs := hide hu.out.size
                replace hs := hide (hs.out.alloc (.cells #[.string (strB a42.name), .bool a42.ptr] 106))
                replace hrow := hide (hrow.out.upd varFam (Upd.alloc (fun _ => False) wq42 (.cells #[.string (strB a42.name), .bool a42.ptr] 106)) fun _ _ => id)
                replace hu := hide (hu.out.then (Upd.alloc (At p) wq42 (.cells #[.string (strB a42.name), .bool a42.ptr] 106)))
                have hel : Hid (VarP (wq42.alloc (.cells #[.string (strB a42.name), .bool a42.ptr] 106)) (fun b => w.heap.size ≤ b ∧ (Value.slice A1 l.length c1).ownBlock ≠ some b) a42 [.string (strB a42.name), .bool a42.ptr]) := hide (rfl)
                have hown := hrow.out.own
                replace hown := hide hown
                go_wp2_with (
                  at_builtin
                  refine wp_row varFam 24 106 (.agg #[.string .empty, .bool false]) 2 24 Tryz.underlying24 var_info rfl (by decide) (by decide) rfl (.tmp 19) (.tmp 24) rfl w.heap.size (.slice A1 l.length c1) _ rfl hrow.out wq42.heap.size 1 rfl (a42) [.string (strB a42.name), .bool a42.ptr] rfl ?_ hel.out ?_ ?_ ?_
                  · intro j u hj
                    rw [cell_at hnew.out]
                    simpa using hj
                  · exact hlk2
                  · exact hu.out.size
                  intro v9 w9 hrow9 hu9)
                replace hs := hide (hs.out.row_ hu9 (fun k hk => (hown.out k hk).1) hlt htk.out)
                replace hu := hide (hu.out.row_ hu9 fun k hk => (hown.out k hk).1)
                replace hrow9 := hide hrow9
                clear hu9 hel hnew hown hbs
                go_wp2_with fail
                go_roundg g
                case measure => omega
                case rel => exact ⟨l ++ [a42], r42, hu.out, hrow9.out, hs.out, by have := hlk.out; simp; omega, hX.out⟩
            · have hx40 : nx r [44] = false := by simpa using hx40
              refine (accept_no [44] p C d n r _ hs.out hx40).mono ?_
              rintro e wq41 ⟨rfl, hU, h1⟩
              replace hx40 := hide hx40
              replace hrow := hide (hrow.out.upd varFam (hU) (above_not hlt))
              replace hs := hide h1
              replace hu := hide (hu.out.then hU)
              clear hU h1
              go_wp2_with fail
              have hX2 := hX.out
              rw [many_none hx40.out] at hX2
              simp only [bind_ok] at hX2
              replace hX := hide hX2
              clear hX2
              have hG := expect_any [41] (by decide) p C d n r _ hs.out
              cases hr : want [41] r with
              | no =>
                have hX2 := hX.out
                rw [hr] at hX2
                try simp only [bind_no] at hX2
                exact absurd hX2.symm hno.out
              | er r9 k9 =>
                rw [hr] at hG
                have hX2 := hX.out
                rw [hr] at hX2
                try simp only [bind_er] at hX2
                replace hX := hide hX2
                refine (hG).mono ?_
                rintro e wq42 ⟨hU, rfl⟩
                replace hu := hide (hu.out.then hU)
                clear hr hG hU hX2
                go_wp2_with fail
                refine ⟨rfl, ?_⟩
                exact Got.er hu.out hX.out.symm
              | ok a42 r42 =>
                rw [hr] at hG
                have hX2 := hX.out
                rw [hr] at hX2
                try simp only [bind_ok] at hX2
                replace hX := hide hX2
                refine (hG).mono ?_
                rintro e wq42 ⟨hU, v42, rfl, rfl, h1⟩
                have hsz := hu.out.size
                replace hrow := hide (hrow.out.upd varFam (hU) (above_not hlt))
                replace hs := hide h1
                replace hu := hide (hu.out.then hU)
                clear hr hG hU h1 hX2 hsz
                go_wp2_with fail
                go_ret
                exact Got.ok hu.out hX.out.symm ⟨hrow.out.list varFam, hs.out⟩
end Go.Proofs.YteplkhgaoaphhaaGreatDoor
