/- Part 16 of the walks (merged): PsO2, PsO3, PsR1, PsGood. -/
import Derived.Test.YteplkhgaoaphhaaGreatDoorM15
import Derived.Deep.Cut
import Derived.Recover
import Derived.Defers
import Derived.Test.YteplkhgaoaphhaaGreatDoorM5
/- Walks of the parser's methods for locals. Written by mkfunc.py. -/
namespace Go.Proofs.YteplkhgaoaphhaaGreatDoor
open Go Go.RowKit Go.Lib

theorem locs_more {g : Nat} {l : List Vr} {r : List Tok} (h : nx r [118, 97, 114] = true ∨ nx r [112, 116, 114] = true) : localsP (g + 1) l r = (declP l.length 20 r.tail).bind fun x r' => (want [59] r').bind fun _ r' => localsP g (l ++ [⟨x, nx r [112, 116, 114]⟩]) r' := by
  conv => lhs; unfold localsP
  rw [if_pos h]
theorem locs_end {g : Nat} {l : List Vr} {r : List Tok} (h1 : nx r [118, 97, 114] = false) (h2 : nx r [112, 116, 114] = false) : localsP (g + 1) l r = .ok l r := by
  conv => lhs; unfold localsP
  rw [if_neg (by rw [h1, h2]; simp)]
theorem nx_other {r : List Tok} {x y : List UInt8} (h : nx r x = true) (hne : (x == y) = false) : nx r y = false := by
  unfold nx at h ⊢
  rw [beq_iff_eq.1 h]
  exact hne

set_option maxRecDepth 100000 in
set_option maxHeartbeats 3200000 in
theorem locals_ok (f : Nat) (hf : f ≤ 1000000) : ∀ (p : Nat) (C : Cx) (d n : Nat) (r : List Tok) (w : World), PsW w p C d n r → localsP f [] r ≠ .no → Calls Tryz.prog 50 #[.pointer (some ⟨p, 0, none⟩)] w fun e w' => Got p C w (VarsR p C d n w.heap.size) (localsP f [] r) e w' := by
  intro p C d n r w h hno
  generalize hX : localsP f [] r = X at hno ⊢
  have htk := hide h.tokLt
  have hlt := h.lt
  have hu := hide (Upd.refl (At p) w)
  have hs := hide h
  replace hX := hide hX
  replace hno := hide hno
  clear h
  go_enter Tryz.func50, Tryz.ntmps50
  go_wp2_with fail
  go_loopg [3] f (fun k v wr => ∃ (l : List Vr) (r : List Tok), Upd (At p) w wr ∧ RowS wr w.heap.size 106 2 VarP l v ∧ PsW wr p C d n r ∧ l.length + k ≤ f ∧ localsP k l r = X)
  case atStart => exact ⟨[], r, hu.out, RowS.nil_ _ _ _ _ _, hs.out, by simp, hX.out⟩
  case round =>
    clear hu hs hX
    obtain ⟨l, r, hu, hrow, hs, hlk, hX⟩ := hrel
    cases gk with
    | zero => exact absurd hX.symm hno.out
    | succ g =>
      obtain ⟨A1, c1, rfl⟩ := hrow.slice
      replace hu := hide hu
      replace hrow := hide hrow
      replace hs := hide hs
      have hlk2 : l.length ≤ 1000000 := by omega
      replace hlk := hide hlk
      replace hX := hide hX
      go_wp2_with fail
      by_cases hx40 : nx r [118, 97, 114] = true
      · have hx40h := hide hx40
        have hI := isNext_any [118, 97, 114] p C d n r _ hs.out
        rw [hx40] at hI
        refine hI.mono ?_
        rintro e wq41 ⟨rfl, hb⟩
        clear hI
        replace hs := hide (hs.out.below hb)
        replace hrow := hide (hrow.out.upd varFam (at_below hb) (above_not hlt))
        replace hu := hide (hu.out.then (at_below hb))
        clear hb
        go_wp2_with fail
        have hne := nx_ne hx40h.out (by decide)
        have hq := hide (nx_other (y := [112, 116, 114]) hx40h.out (by decide))
        have hX2 := hX.out
        rw [locs_more (.inl hx40h.out), hq.out] at hX2
        replace hX := hide hX2
        clear hX2
        have hI := isNext_any [112, 116, 114] p C d n r _ hs.out
        rw [(hq.out)] at hI
        refine hI.mono ?_
        rintro e wq42 ⟨rfl, hb⟩
        clear hI
        replace hs := hide (hs.out.below hb)
        replace hrow := hide (hrow.out.upd varFam (at_below hb) (above_not hlt))
        replace hu := hide (hu.out.then (at_below hb))
        clear hb
        go_wp2_with fail
        refine (skip_any p C d n r _ hs.out hne).mono ?_
        rintro e wq43 ⟨rfl, hU, h1⟩
        replace hrow := hide (hrow.out.upd varFam (hU) (above_not hlt))
        replace hs := hide h1
        replace hu := hide (hu.out.then hU)
        clear hU h1
        go_wp2_with fail
        have hG := declared_any l.length 20 p C d n r.tail _ hs.out
        cases hr : declP l.length 20 r.tail with
        | no =>
          have hX2 := hX.out
          rw [hr] at hX2
          try simp only [bind_no] at hX2
          exact absurd hX2.symm hno.out
        | er r9 k9 =>
          rw [hr] at hG
          have hX2 := hX.out
          rw [hr] at hX2
          try simp only [bind_er] at hX2
          replace hX := hide hX2
          refine (hG).mono ?_
          rintro e wq44 ⟨hU, rfl⟩
          replace hu := hide (hu.out.then hU)
          clear hr hG hU hX2
          go_wp2_with fail
          refine ⟨rfl, ?_⟩
          exact Got.er hu.out hX.out.symm
        | ok a42 r42 =>
          rw [hr] at hG
          have hX2 := hX.out
          rw [hr] at hX2
          try simp only [bind_ok] at hX2
          replace hX := hide hX2
          refine (hG).mono ?_
          rintro e wq44 ⟨hU, v42, rfl, rfl, h1⟩
          have hsz := hu.out.size
          replace hrow := hide (hrow.out.upd varFam (hU) (above_not hlt))
          replace hs := hide h1
          replace hu := hide (hu.out.then hU)
          clear hr hG hU h1 hX2 hsz
          go_wp2_with fail
          have hG := expect_any [59] (by decide) p C d n r42 _ hs.out
          cases hr : want [59] r42 with
          | no =>
            have hX2 := hX.out
            rw [hr] at hX2
            try simp only [bind_no] at hX2
            exact absurd hX2.symm hno.out
          | er r9 k9 =>
            rw [hr] at hG
            have hX2 := hX.out
            rw [hr] at hX2
            try simp only [bind_er] at hX2
            replace hX := hide hX2
            refine (hG).mono ?_
            rintro e wq45 ⟨hU, rfl⟩
            replace hu := hide (hu.out.then hU)
            clear hr hG hU hX2
            go_wp2_with fail
            refine ⟨rfl, ?_⟩
            exact Got.er hu.out hX.out.symm
          | ok a43 r43 =>
            rw [hr] at hG
            have hX2 := hX.out
            rw [hr] at hX2
            try simp only [bind_ok] at hX2
            replace hX := hide hX2
            refine (hG).mono ?_
            rintro e wq45 ⟨hU, v43, rfl, rfl, h1⟩
            have hsz := hu.out.size
            replace hrow := hide (hrow.out.upd varFam (hU) (above_not hlt))
            replace hs := hide h1
            replace hu := hide (hu.out.then hU)
            clear hr hG hU h1 hX2 hsz
            have hnew := hide (heap_new wq45 (.cells #[.string (strB a42), .bool false] 106))
            have hbs := hide hu.out.size
            replace hs := hide (hs.out.alloc (.cells #[.string (strB a42), .bool false] 106))
            replace hrow := hide (hrow.out.upd varFam (Upd.alloc (fun _ => False) wq45 (.cells #[.string (strB a42), .bool false] 106)) fun _ _ => id)
            replace hu := hide (hu.out.then (Upd.alloc (At p) wq45 (.cells #[.string (strB a42), .bool false] 106)))
            have hel : Hid (VarP (wq45.alloc (.cells #[.string (strB a42), .bool false] 106)) (fun b => w.heap.size ≤ b ∧ (Value.slice A1 l.length c1).ownBlock ≠ some b) ⟨a42, false⟩ [.string (strB a42), .bool false]) := hide (rfl)
            have hown := hrow.out.own
            replace hown := hide hown
            go_wp2_with (
              at_builtin
              refine wp_row varFam 24 106 (.agg #[.string .empty, .bool false]) 2 24 Tryz.underlying24 var_info rfl (by decide) (by decide) rfl (.tmp 32) (.tmp 36) rfl w.heap.size (.slice A1 l.length c1) _ rfl hrow.out wq45.heap.size 1 rfl (⟨a42, false⟩) [.string (strB a42), .bool false] rfl ?_ hel.out ?_ ?_ ?_
              · intro j u hj
                rw [cell_at hnew.out]
                simpa using hj
              · exact hlk2
              · exact hu.out.size
              intro v9 w9 hrow9 hu9)
            replace hs := hide (hs.out.row_ hu9 (fun k hk => (hown.out k hk).1) hlt htk.out)
            replace hu := hide (hu.out.row_ hu9 fun k hk => (hown.out k hk).1)
            replace hrow9 := hide hrow9
            clear hu9 hel hnew hown hbs
            go_wp2_with fail
            go_roundg g
            case measure => omega
            case rel => exact ⟨l ++ [⟨a42, false⟩], r43, hu.out, hrow9.out, hs.out, by have := hlk.out; simp; omega, hX.out⟩
      · have hx40 : nx r [118, 97, 114] = false := by simpa using hx40
        have hx40h := hide hx40
        have hI := isNext_any [118, 97, 114] p C d n r _ hs.out
        rw [hx40] at hI
        refine hI.mono ?_
        rintro e wq41 ⟨rfl, hb⟩
        clear hI
        replace hs := hide (hs.out.below hb)
        replace hrow := hide (hrow.out.upd varFam (at_below hb) (above_not hlt))
        replace hu := hide (hu.out.then (at_below hb))
        clear hb
        go_wp2_with fail
        by_cases hx41 : nx r [112, 116, 114] = true
        · have hx41h := hide hx41
          have hI := isNext_any [112, 116, 114] p C d n r _ hs.out
          rw [hx41] at hI
          refine hI.mono ?_
          rintro e wq42 ⟨rfl, hb⟩
          clear hI
          replace hs := hide (hs.out.below hb)
          replace hrow := hide (hrow.out.upd varFam (at_below hb) (above_not hlt))
          replace hu := hide (hu.out.then (at_below hb))
          clear hb
          go_wp2_with fail
          have hne := nx_ne hx41h.out (by decide)
          have hX2 := hX.out
          rw [locs_more (.inr hx41h.out), hx41h.out] at hX2
          replace hX := hide hX2
          clear hX2
          have hI := isNext_any [112, 116, 114] p C d n r _ hs.out
          rw [(hx41h.out)] at hI
          refine hI.mono ?_
          rintro e wq43 ⟨rfl, hb⟩
          clear hI
          replace hs := hide (hs.out.below hb)
          replace hrow := hide (hrow.out.upd varFam (at_below hb) (above_not hlt))
          replace hu := hide (hu.out.then (at_below hb))
          clear hb
          go_wp2_with fail
          refine (skip_any p C d n r _ hs.out hne).mono ?_
          rintro e wq44 ⟨rfl, hU, h1⟩
          replace hrow := hide (hrow.out.upd varFam (hU) (above_not hlt))
          replace hs := hide h1
          replace hu := hide (hu.out.then hU)
          clear hU h1
          go_wp2_with fail
          have hG := declared_any l.length 20 p C d n r.tail _ hs.out
          cases hr : declP l.length 20 r.tail with
          | no =>
            have hX2 := hX.out
            rw [hr] at hX2
            try simp only [bind_no] at hX2
            exact absurd hX2.symm hno.out
          | er r9 k9 =>
            rw [hr] at hG
            have hX2 := hX.out
            rw [hr] at hX2
            try simp only [bind_er] at hX2
            replace hX := hide hX2
            refine (hG).mono ?_
            rintro e wq45 ⟨hU, rfl⟩
            replace hu := hide (hu.out.then hU)
            clear hr hG hU hX2
            go_wp2_with fail
            refine ⟨rfl, ?_⟩
            exact Got.er hu.out hX.out.symm
          | ok a43 r43 =>
            rw [hr] at hG
            have hX2 := hX.out
            rw [hr] at hX2
            try simp only [bind_ok] at hX2
            replace hX := hide hX2
            refine (hG).mono ?_
            rintro e wq45 ⟨hU, v43, rfl, rfl, h1⟩
            have hsz := hu.out.size
            replace hrow := hide (hrow.out.upd varFam (hU) (above_not hlt))
            replace hs := hide h1
            replace hu := hide (hu.out.then hU)
            clear hr hG hU h1 hX2 hsz
            go_wp2_with fail
            have hG := expect_any [59] (by decide) p C d n r43 _ hs.out
            cases hr : want [59] r43 with
            | no =>
              have hX2 := hX.out
              rw [hr] at hX2
              try simp only [bind_no] at hX2
              exact absurd hX2.symm hno.out
            | er r9 k9 =>
              rw [hr] at hG
              have hX2 := hX.out
              rw [hr] at hX2
              try simp only [bind_er] at hX2
              replace hX := hide hX2
              refine (hG).mono ?_
              rintro e wq46 ⟨hU, rfl⟩
              replace hu := hide (hu.out.then hU)
              clear hr hG hU hX2
              go_wp2_with fail
              refine ⟨rfl, ?_⟩
              exact Got.er hu.out hX.out.symm
            | ok a44 r44 =>
              rw [hr] at hG
              have hX2 := hX.out
              rw [hr] at hX2
              try simp only [bind_ok] at hX2
              replace hX := hide hX2
              refine (hG).mono ?_
              rintro e wq46 ⟨hU, v44, rfl, rfl, h1⟩
              have hsz := hu.out.size
              replace hrow := hide (hrow.out.upd varFam (hU) (above_not hlt))
              replace hs := hide h1
              replace hu := hide (hu.out.then hU)
              clear hr hG hU h1 hX2 hsz
              have hnew := hide (heap_new wq46 (.cells #[.string (strB a43), .bool true] 106))
              have hbs := hide hu.out.size
              replace hs := hide (hs.out.alloc (.cells #[.string (strB a43), .bool true] 106))
              replace hrow := hide (hrow.out.upd varFam (Upd.alloc (fun _ => False) wq46 (.cells #[.string (strB a43), .bool true] 106)) fun _ _ => id)
              replace hu := hide (hu.out.then (Upd.alloc (At p) wq46 (.cells #[.string (strB a43), .bool true] 106)))
              have hel : Hid (VarP (wq46.alloc (.cells #[.string (strB a43), .bool true] 106)) (fun b => w.heap.size ≤ b ∧ (Value.slice A1 l.length c1).ownBlock ≠ some b) ⟨a43, true⟩ [.string (strB a43), .bool true]) := hide (rfl)
              have hown := hrow.out.own
              replace hown := hide hown
              go_wp2_with (
                at_builtin
                refine wp_row varFam 24 106 (.agg #[.string .empty, .bool false]) 2 24 Tryz.underlying24 var_info rfl (by decide) (by decide) rfl (.tmp 32) (.tmp 36) rfl w.heap.size (.slice A1 l.length c1) _ rfl hrow.out wq46.heap.size 1 rfl (⟨a43, true⟩) [.string (strB a43), .bool true] rfl ?_ hel.out ?_ ?_ ?_
                · intro j u hj
                  rw [cell_at hnew.out]
                  simpa using hj
                · exact hlk2
                · exact hu.out.size
                intro v9 w9 hrow9 hu9)
              replace hs := hide (hs.out.row_ hu9 (fun k hk => (hown.out k hk).1) hlt htk.out)
              replace hu := hide (hu.out.row_ hu9 fun k hk => (hown.out k hk).1)
              replace hrow9 := hide hrow9
              clear hu9 hel hnew hown hbs
              go_wp2_with fail
              go_roundg g
              case measure => omega
              case rel => exact ⟨l ++ [⟨a43, true⟩], r44, hu.out, hrow9.out, hs.out, by have := hlk.out; simp; omega, hX.out⟩
        · have hx41 : nx r [112, 116, 114] = false := by simpa using hx41
          have hx41h := hide hx41
          have hI := isNext_any [112, 116, 114] p C d n r _ hs.out
          rw [hx41] at hI
          refine hI.mono ?_
          rintro e wq42 ⟨rfl, hb⟩
          clear hI
          replace hs := hide (hs.out.below hb)
          replace hrow := hide (hrow.out.upd varFam (at_below hb) (above_not hlt))
          replace hu := hide (hu.out.then (at_below hb))
          clear hb
          go_wp2_with fail
          have hX2 := hX.out
          rw [locs_end hx40h.out hx41h.out] at hX2
          replace hX := hide hX2
          clear hX2
          go_ret
          exact Got.ok hu.out hX.out.symm ⟨hrow.out.list varFam, hs.out⟩
end Go.Proofs.YteplkhgaoaphhaaGreatDoor
/- The walk of the parser's function. Written by mkfunc.py. -/
namespace Go.Proofs.YteplkhgaoaphhaaGreatDoor
open Go Go.RowKit Go.Lib

/-- A function is told. -/
def FnV (w : World) (B : Nat) (a : Fn7) (v : Value) : Prop :=
  ∃ (A1 : Option Addr) (n1 c1 : Nat) (A2 : Option Addr) (n2 c2 : Nat) (A3 : Option Addr) (n3 c3 : Nat), v = .agg #[.string (strB a.name), .slice A1 n1 c1, .slice A2 n2 c2, .slice A3 n3 c3] ∧
    ListV w (B ≤ ·) VarP 2 a.params (.slice A1 n1 c1) ∧ ListV w (B ≤ ·) VarP 2 a.locals (.slice A2 n2 c2) ∧ BlkV w (B ≤ ·) a.body (.slice A3 n3 c3)
def FnR (p : Nat) (C : Cx) (B : Nat) (v : Value) (w : World) (a : Fn7) (r : List Tok) : Prop := FnV w B a v ∧ ∃ n, PsW w p C 0 n r

set_option maxRecDepth 100000 in
set_option maxHeartbeats 3200000 in
theorem function_ok (f : Nat) (hf : f ≤ 1000000) : ∀ (p : Nat) (C : Cx) (r : List Tok) (w : World), PsW w p C 0 0 r → funcP f r ≠ .no → Calls Tryz.prog 22 #[.pointer (some ⟨p, 0, none⟩)] w fun e w' => Got p C w (FnR p C w.heap.size) (funcP f r) e w' := by
  intro p C r w h hno
  generalize hX : funcP f r = X at hno ⊢
  unfold funcP at hX
  have hlt := h.lt
  have htk := hide h.tokLt
  have hrp : w.heap.size ≠ p := by omega
  have hu := hide (Upd.refl (At p) (w.alloc (.cells #[.string ⟨#[]⟩, .slice none 0 0, .slice none 0 0, .slice none 0 0] 27)))
  have hs := hide (h.alloc (.cells #[.string ⟨#[]⟩, .slice none 0 0, .slice none 0 0, .slice none 0 0] 27))
  replace hX := hide hX
  replace hno := hide hno
  have hrs := hide (heap_new w (.cells #[.string ⟨#[]⟩, .slice none 0 0, .slice none 0 0, .slice none 0 0] 27))
  have hw0 : w.heap.size < (w.alloc (.cells #[.string ⟨#[]⟩, .slice none 0 0, .slice none 0 0, .slice none 0 0] 27)).heap.size := by simp
  clear h
  go_enter Tryz.func22, Tryz.ntmps22
  go_wp2_with fail
  have hG := expect_any [102, 110] (by decide) p C 0 0 r _ hs.out
  cases hr : want [102, 110] r with
  | no =>
    have hX2 := hX.out
    rw [hr] at hX2
    try simp only [bind_no] at hX2
    exact absurd hX2.symm hno.out
  | er r9 k9 =>
    rw [hr] at hG
    have hX2 := hX.out
    rw [hr] at hX2
    try simp only [bind_er] at hX2
    replace hX := hide hX2
    refine (hG).mono ?_
    rintro e wq1 ⟨hU, rfl⟩
    replace hu := hide (hu.out.then hU)
    clear hr hG hU hX2
    go_wp2_with fail
    refine ⟨rfl, ?_⟩
    exact Got.er ((Upd.alloc (At p) w _).then hu.out) hX.out.symm
  | ok a1 r1 =>
    rw [hr] at hG
    have hX2 := hX.out
    rw [hr] at hX2
    try simp only [bind_ok] at hX2
    replace hX := hide hX2
    refine (hG).mono ?_
    rintro e wq1 ⟨hU, v1, rfl, rfl, h1⟩
    have hsz := hu.out.size
    replace hrs := hide ((hU).heap hrs.out hrp)
    replace hs := hide h1
    replace hu := hide (hu.out.then hU)
    clear hr hG hU h1 hX2 hsz
    go_wp2_with fail
    have hG := name_any p C 0 0 r1 _ hs.out
    cases hr : nameP r1 with
    | no =>
      have hX2 := hX.out
      rw [hr] at hX2
      try simp only [bind_no] at hX2
      exact absurd hX2.symm hno.out
    | er r9 k9 =>
      rw [hr] at hG
      have hX2 := hX.out
      rw [hr] at hX2
      try simp only [bind_er] at hX2
      replace hX := hide hX2
      refine (hG).mono ?_
      rintro e wq2 ⟨hU, rfl⟩
      replace hu := hide (hu.out.then hU)
      clear hr hG hU hX2
      go_wp2_with fail
      refine ⟨rfl, ?_⟩
      exact Got.er ((Upd.alloc (At p) w _).then hu.out) hX.out.symm
    | ok a2 r2 =>
      rw [hr] at hG
      have hX2 := hX.out
      rw [hr] at hX2
      try simp only [bind_ok] at hX2
      replace hX := hide hX2
      refine (hG).mono ?_
      rintro e wq2 ⟨hU, v2, rfl, rfl, h1⟩
      have hsz := hu.out.size
      replace hrs := hide ((hU).heap hrs.out hrp)
      replace hs := hide h1
      replace hu := hide (hu.out.then hU)
      clear hr hG hU h1 hX2 hsz
      have hbx := hide (heap_new wq2 (.cells #[.string (strB a2), .slice none 0 0, .slice none 0 0, .slice none 0 0] 27))
      have hgw : w.heap.size < wq2.heap.size := Nat.lt_of_lt_of_le hw0 hu.out.size
      have hgp : wq2.heap.size ≠ p := by omega
      replace hs := hide (hs.out.alloc (.cells #[.string (strB a2), .slice none 0 0, .slice none 0 0, .slice none 0 0] 27))
      replace hrs := hide (heap_old hrs.out (.cells #[.string (strB a2), .slice none 0 0, .slice none 0 0, .slice none 0 0] 27))
      replace hu := hide (hu.out.then (Upd.alloc (At p) _ (.cells #[.string (strB a2), .slice none 0 0, .slice none 0 0, .slice none 0 0] 27)))
      have hgu : (w.alloc (.cells #[.string ⟨#[]⟩, .slice none 0 0, .slice none 0 0, .slice none 0 0] 27)).heap.size ≤ wq2.heap.size := by simp; omega
      go_wp2_with fail
      have hG := params_ok f hf p C 0 0 r2 _ hs.out
      cases hr : paramsP f r2 with
      | no =>
        have hX2 := hX.out
        rw [hr] at hX2
        try simp only [bind_no] at hX2
        exact absurd hX2.symm hno.out
      | er r9 k9 =>
        rw [hr] at hG
        have hX2 := hX.out
        rw [hr] at hX2
        try simp only [bind_er] at hX2
        replace hX := hide hX2
        refine (hG (fun e => by cases e)).mono ?_
        rintro e wq3 ⟨hU, rfl⟩
        replace hu := hide (hu.out.then hU)
        clear hr hG hU hX2
        go_wp2_with fail
        refine ⟨rfl, ?_⟩
        exact Got.er ((Upd.alloc (At p) w _).then hu.out) hX.out.symm
      | ok a3 r3 =>
        rw [hr] at hG
        have hX2 := hX.out
        rw [hr] at hX2
        try simp only [bind_ok] at hX2
        replace hX := hide hX2
        refine (hG (fun e => by cases e)).mono ?_
        rintro e wq3 ⟨hU, v3, rfl, hv, h1⟩
        have hsz := hu.out.size
        have hold := (Array.getElem?_eq_some_iff.1 hbx.out).1
        replace hrs := hide ((hU).heap hrs.out hrp)
        replace hbx := hide ((hU).heap hbx.out hgp)
        have hvp := hide (ListV.mono varFam (S' := (fun b => w.heap.size < b ∧ b ≠ wq2.heap.size)) (fun b _ hb => ⟨Nat.lt_of_lt_of_le (Nat.lt_of_lt_of_le hw0 hsz) hb, fun e => by omega⟩) (by decide) hv)
        clear hv
        obtain ⟨Ahvp, mhvp, chvp, rfl⟩ := hvp.out.slc
        replace hs := hide h1
        replace hu := hide (hu.out.then hU)
        clear hr hG hU h1 hX2 hsz hold
        have cj := cell_at hbx.out 1
        simp at cj
        have fj := frozen_at hbx.out 1
        go_wp2_with fail
        have hb2 : (wq3.setCell ⟨wq2.heap.size, 1, none⟩ (.slice Ahvp mhvp chvp)).heap[wq2.heap.size]? = some (.cells #[.string (strB a2), .slice Ahvp mhvp chvp, .slice none 0 0, .slice none 0 0] 27 (0, 0)) := heap_set hbx.out 1 _
        replace hbx := hide hb2
        clear hb2 cj fj
        replace hvp := hide (hvp.out.upd varFam (set_upd wq3 (wq2.heap.size) 1 (.slice Ahvp mhvp chvp)) (fun b hb => hb.2))
        replace hrs := hide ((set_upd wq3 (wq2.heap.size) 1 (.slice Ahvp mhvp chvp)).heap hrs.out (by simp only [At]; omega))
        replace hs := hide (hs.out.setNew hlt htk.out (Nat.le_of_lt hgw) 1 (.slice Ahvp mhvp chvp))
        replace hu := hide (hu.out.setNew (hgu) 1 (.slice Ahvp mhvp chvp))
        have hG := enter_any [123] (by decide) p C 0 0 r3 _ hs.out
        cases hr : enterP [123] 0 r3 with
        | no =>
          have hX2 := hX.out
          rw [hr] at hX2
          try simp only [bind_no] at hX2
          exact absurd hX2.symm hno.out
        | er r9 k9 =>
          rw [hr] at hG
          have hX2 := hX.out
          rw [hr] at hX2
          try simp only [bind_er] at hX2
          replace hX := hide hX2
          refine (hG).mono ?_
          rintro e wq4 ⟨hU, rfl⟩
          replace hu := hide (hu.out.then hU)
          clear hr hG hU hX2
          go_wp2_with fail
          refine ⟨rfl, ?_⟩
          exact Got.er ((Upd.alloc (At p) w _).then hu.out) hX.out.symm
        | ok a4 r4 =>
          rw [hr] at hG
          have hX2 := hX.out
          rw [hr] at hX2
          try simp only [bind_ok] at hX2
          replace hX := hide hX2
          refine (hG).mono ?_
          rintro e wq4 ⟨hU, v4, rfl, rfl, h1⟩
          have hsz := hu.out.size
          have hold := (Array.getElem?_eq_some_iff.1 hbx.out).1
          replace hvp := hide (hvp.out.upd varFam (hU) (fun b hb => above_not hlt b (Nat.le_of_lt hb.1)))
          replace hrs := hide ((hU).heap hrs.out hrp)
          replace hbx := hide ((hU).heap hbx.out hgp)
          replace hs := hide h1
          replace hu := hide (hu.out.then hU)
          clear hr hG hU h1 hX2 hsz hold
          go_wp2_with fail
          have hG := locals_ok f hf p C 1 0 r4 _ hs.out
          cases hr : localsP f [] r4 with
          | no =>
            have hX2 := hX.out
            rw [hr] at hX2
            try simp only [bind_no] at hX2
            exact absurd hX2.symm hno.out
          | er r9 k9 =>
            rw [hr] at hG
            have hX2 := hX.out
            rw [hr] at hX2
            try simp only [bind_er] at hX2
            replace hX := hide hX2
            refine (hG (fun e => by cases e)).mono ?_
            rintro e wq5 ⟨hU, rfl⟩
            replace hu := hide (hu.out.then hU)
            clear hr hG hU hX2
            go_wp2_with fail
            refine ⟨rfl, ?_⟩
            exact Got.er ((Upd.alloc (At p) w _).then hu.out) hX.out.symm
          | ok a5 r5 =>
            rw [hr] at hG
            have hX2 := hX.out
            rw [hr] at hX2
            try simp only [bind_ok] at hX2
            replace hX := hide hX2
            refine (hG (fun e => by cases e)).mono ?_
            rintro e wq5 ⟨hU, v5, rfl, hv, h1⟩
            have hsz := hu.out.size
            have hold := (Array.getElem?_eq_some_iff.1 hbx.out).1
            replace hvp := hide (hvp.out.upd varFam (hU) (fun b hb => above_not hlt b (Nat.le_of_lt hb.1)))
            replace hrs := hide ((hU).heap hrs.out hrp)
            replace hbx := hide ((hU).heap hbx.out hgp)
            have hvl := hide (ListV.mono varFam (S' := (fun b => w.heap.size < b ∧ b ≠ wq2.heap.size)) (fun b _ hb => ⟨Nat.lt_of_lt_of_le (Nat.lt_of_lt_of_le hw0 hsz) hb, fun e => by omega⟩) (by decide) hv)
            clear hv
            obtain ⟨Ahvl, mhvl, chvl, rfl⟩ := hvl.out.slc
            replace hs := hide h1
            replace hu := hide (hu.out.then hU)
            clear hr hG hU h1 hX2 hsz hold
            have cj := cell_at hbx.out 2
            simp at cj
            have fj := frozen_at hbx.out 2
            go_wp2_with fail
            have hb2 : (wq5.setCell ⟨wq2.heap.size, 2, none⟩ (.slice Ahvl mhvl chvl)).heap[wq2.heap.size]? = some (.cells #[.string (strB a2), .slice Ahvp mhvp chvp, .slice Ahvl mhvl chvl, .slice none 0 0] 27 (0, 0)) := heap_set hbx.out 2 _
            replace hbx := hide hb2
            clear hb2 cj fj
            replace hvp := hide (hvp.out.upd varFam (set_upd wq5 (wq2.heap.size) 2 (.slice Ahvl mhvl chvl)) (fun b hb => hb.2))
            replace hvl := hide (hvl.out.upd varFam (set_upd wq5 (wq2.heap.size) 2 (.slice Ahvl mhvl chvl)) (fun b hb => hb.2))
            replace hrs := hide ((set_upd wq5 (wq2.heap.size) 2 (.slice Ahvl mhvl chvl)).heap hrs.out (by simp only [At]; omega))
            replace hs := hide (hs.out.setNew hlt htk.out (Nat.le_of_lt hgw) 2 (.slice Ahvl mhvl chvl))
            replace hu := hide (hu.out.setNew (hgu) 2 (.slice Ahvl mhvl chvl))
            have hG := stmts_ok f hf p C 1 0 r5 _ hs.out
            cases hr : stmsOf (stm f 1) f [] 0 r5 with
            | no =>
              have hX2 := hX.out
              rw [hr] at hX2
              try simp only [bind_no] at hX2
              exact absurd hX2.symm hno.out
            | er r9 k9 =>
              rw [hr] at hG
              have hX2 := hX.out
              rw [hr] at hX2
              try simp only [bind_er] at hX2
              replace hX := hide hX2
              refine (hG (fun e => by cases e)).mono ?_
              rintro e wq6 ⟨hU, rfl⟩
              replace hu := hide (hu.out.then hU)
              clear hr hG hU hX2
              go_wp2_with fail
              refine ⟨rfl, ?_⟩
              exact Got.er ((Upd.alloc (At p) w _).then hu.out) hX.out.symm
            | ok a6 r6 =>
              rw [hr] at hG
              have hX2 := hX.out
              rw [hr] at hX2
              try simp only [bind_ok] at hX2
              replace hX := hide hX2
              refine (hG (fun e => by cases e)).mono ?_
              rintro e wq6 ⟨hU, v6, rfl, hv, h1⟩
              have hsz := hu.out.size
              have hold := (Array.getElem?_eq_some_iff.1 hbx.out).1
              replace hvp := hide (hvp.out.upd varFam (hU) (fun b hb => above_not hlt b (Nat.le_of_lt hb.1)))
              replace hvl := hide (hvl.out.upd varFam (hU) (fun b hb => above_not hlt b (Nat.le_of_lt hb.1)))
              replace hrs := hide ((hU).heap hrs.out hrp)
              replace hbx := hide ((hU).heap hbx.out hgp)
              have hvb := hide (BlkV.mono (S' := (fun b => w.heap.size < b ∧ b ≠ wq2.heap.size)) (fun b _ hb => ⟨Nat.lt_of_lt_of_le (Nat.lt_of_lt_of_le hw0 hsz) hb, fun e => by omega⟩) _ _ hv)
              clear hv
              replace hs := hide h1
              replace hu := hide (hu.out.then hU)
              clear hr hG hU h1 hX2 hsz hold
              obtain ⟨Ahvb, mhvb, chvb, rfl⟩ := hvb.out.slc
              have cj := cell_at hbx.out 3
              simp at cj
              have fj := frozen_at hbx.out 3
              go_wp2_with fail
              have hb2 : (wq6.setCell ⟨wq2.heap.size, 3, none⟩ (.slice Ahvb mhvb chvb)).heap[wq2.heap.size]? = some (.cells #[.string (strB a2), .slice Ahvp mhvp chvp, .slice Ahvl mhvl chvl, .slice Ahvb mhvb chvb] 27 (0, 0)) := heap_set hbx.out 3 _
              replace hbx := hide hb2
              clear hb2 cj fj
              replace hvb := hide (BlkV.upd (set_upd wq6 (wq2.heap.size) 3 (.slice Ahvb mhvb chvb)) (fun b hb => hb.2) _ _ hvb.out)
              replace hvp := hide (hvp.out.upd varFam (set_upd wq6 (wq2.heap.size) 3 (.slice Ahvb mhvb chvb)) (fun b hb => hb.2))
              replace hvl := hide (hvl.out.upd varFam (set_upd wq6 (wq2.heap.size) 3 (.slice Ahvb mhvb chvb)) (fun b hb => hb.2))
              replace hrs := hide ((set_upd wq6 (wq2.heap.size) 3 (.slice Ahvb mhvb chvb)).heap hrs.out (by simp only [At]; omega))
              replace hs := hide (hs.out.setNew hlt htk.out (Nat.le_of_lt hgw) 3 (.slice Ahvb mhvb chvb))
              replace hu := hide (hu.out.setNew (hgu) 3 (.slice Ahvb mhvb chvb))
              refine (leave_any p C 0 a6.2 r6 _ hs.out).mono ?_
              rintro e wq7 ⟨rfl, hU, h1⟩
              replace hvb := hide (BlkV.upd (hU) (fun b hb => above_not hlt b (Nat.le_of_lt hb.1)) _ _ hvb.out)
              replace hvp := hide (hvp.out.upd varFam (hU) (fun b hb => above_not hlt b (Nat.le_of_lt hb.1)))
              replace hvl := hide (hvl.out.upd varFam (hU) (fun b hb => above_not hlt b (Nat.le_of_lt hb.1)))
              replace hrs := hide ((hU).heap hrs.out hrp)
              replace hbx := hide ((hU).heap hbx.out hgp)
              replace hs := hide h1
              replace hu := hide (hu.out.then hU)
              clear hU h1
              have cc0 := cell_at hbx.out 0
              have cc1 := cell_at hbx.out 1
              have cc2 := cell_at hbx.out 2
              have cc3 := cell_at hbx.out 3
              simp at cc0 cc1 cc2 cc3
              have rr0 := hrs.out
              have dd0 := cell_at rr0 0
              have ff0 := frozen_at rr0 0
              have rr1 : (wq7.setCell ⟨w.heap.size, 0, none⟩ (.string (strB a2))).heap[w.heap.size]? = some (.cells #[.string (strB a2), .slice none 0 0, .slice none 0 0, .slice none 0 0] 27 (0, 0)) := heap_set rr0 0 _
              have kk0 : (wq7.setCell ⟨w.heap.size, 0, none⟩ (.string (strB a2))).cell? ⟨w.heap.size, 0, none⟩ = some (.string (strB a2)) := cell_at rr1 0
              replace kk0 := hide kk0
              have dd1 := cell_at rr1 1
              have ff1 := frozen_at rr1 1
              have rr2 : ((wq7.setCell ⟨w.heap.size, 0, none⟩ (.string (strB a2))).setCell ⟨w.heap.size, 1, none⟩ (.slice Ahvp mhvp chvp)).heap[w.heap.size]? = some (.cells #[.string (strB a2), .slice Ahvp mhvp chvp, .slice none 0 0, .slice none 0 0] 27 (0, 0)) := heap_set rr1 1 _
              have kk1 : ((wq7.setCell ⟨w.heap.size, 0, none⟩ (.string (strB a2))).setCell ⟨w.heap.size, 1, none⟩ (.slice Ahvp mhvp chvp)).cell? ⟨w.heap.size, 1, none⟩ = some (.slice Ahvp mhvp chvp) := cell_at rr2 1
              replace kk1 := hide kk1
              have dd2 := cell_at rr2 2
              have ff2 := frozen_at rr2 2
              have rr3 : (((wq7.setCell ⟨w.heap.size, 0, none⟩ (.string (strB a2))).setCell ⟨w.heap.size, 1, none⟩ (.slice Ahvp mhvp chvp)).setCell ⟨w.heap.size, 2, none⟩ (.slice Ahvl mhvl chvl)).heap[w.heap.size]? = some (.cells #[.string (strB a2), .slice Ahvp mhvp chvp, .slice Ahvl mhvl chvl, .slice none 0 0] 27 (0, 0)) := heap_set rr2 2 _
              have kk2 : (((wq7.setCell ⟨w.heap.size, 0, none⟩ (.string (strB a2))).setCell ⟨w.heap.size, 1, none⟩ (.slice Ahvp mhvp chvp)).setCell ⟨w.heap.size, 2, none⟩ (.slice Ahvl mhvl chvl)).cell? ⟨w.heap.size, 2, none⟩ = some (.slice Ahvl mhvl chvl) := cell_at rr3 2
              replace kk2 := hide kk2
              have dd3 := cell_at rr3 3
              have ff3 := frozen_at rr3 3
              have rr4 : ((((wq7.setCell ⟨w.heap.size, 0, none⟩ (.string (strB a2))).setCell ⟨w.heap.size, 1, none⟩ (.slice Ahvp mhvp chvp)).setCell ⟨w.heap.size, 2, none⟩ (.slice Ahvl mhvl chvl)).setCell ⟨w.heap.size, 3, none⟩ (.slice Ahvb mhvb chvb)).heap[w.heap.size]? = some (.cells #[.string (strB a2), .slice Ahvp mhvp chvp, .slice Ahvl mhvl chvl, .slice Ahvb mhvb chvb] 27 (0, 0)) := heap_set rr3 3 _
              have kk3 : ((((wq7.setCell ⟨w.heap.size, 0, none⟩ (.string (strB a2))).setCell ⟨w.heap.size, 1, none⟩ (.slice Ahvp mhvp chvp)).setCell ⟨w.heap.size, 2, none⟩ (.slice Ahvl mhvl chvl)).setCell ⟨w.heap.size, 3, none⟩ (.slice Ahvb mhvb chvb)).cell? ⟨w.heap.size, 3, none⟩ = some (.slice Ahvb mhvb chvb) := cell_at rr4 3
              replace kk3 := hide kk3
              simp at dd0 dd1 dd2 dd3
              clear rr0 rr1 rr2 rr3 rr4
              go_wp2_with fail
              refine bodyPost_ret (v := .agg #[.string (strB a2), .slice Ahvp mhvp chvp, .slice Ahvl mhvl chvl, .slice Ahvb mhvb chvb]) (by simp [results, Tryz.results22, go_sem, kk0.out, kk1.out, kk2.out, kk3.out]) rfl ?_
              have hfin := ((((Upd.refl (At w.heap.size) wq7).setOn 0 (.string (strB a2))).setOn 1 (.slice Ahvp mhvp chvp)).setOn 2 (.slice Ahvl mhvl chvl)).setOn 3 (.slice Ahvb mhvb chvb)
              obtain ⟨q1, q2⟩ := fin_gen hfin ((Upd.alloc (At p) w _).then hu.out) hlt htk.out hs.out
              have av : ∀ b, (w.heap.size < b ∧ b ≠ wq2.heap.size) → ¬ At w.heap.size b := fun b hb e => by simp only [At] at e; omega
              exact Got.ok q1 hX.out.symm ⟨⟨_, _, _, _, _, _, _, _, _, rfl, ListV.mono varFam (fun b _ hb => Nat.le_of_lt hb.1) (by decide) (hvp.out.upd varFam hfin av), ListV.mono varFam (fun b _ hb => Nat.le_of_lt hb.1) (by decide) (hvl.out.upd varFam hfin av), BlkV.mono (fun b _ hb => Nat.le_of_lt hb.1) _ _ (BlkV.upd hfin av _ _ hvb.out)⟩, _, q2⟩
end Go.Proofs.YteplkhgaoaphhaaGreatDoor
/- The deferred closure of the parser's read: what was refused is told. -/
namespace Go.Proofs.YteplkhgaoaphhaaGreatDoor
open Go Go.RowKit Go.Lib

theorem FnV.upd {w w' : World} {B : Nat} {F : Nat → Prop} {a : Fn7} {v : Value} (hu : Upd F w w') (hF : ∀ b, B ≤ b → ¬ F b) (h : FnV w B a v) : FnV w' B a v := by
  obtain ⟨A1, n1, c1, A2, n2, c2, A3, n3, c3, h1, h2, h3, h4⟩ := h
  exact ⟨A1, n1, c1, A2, n2, c2, A3, n3, c3, h1, h2.upd varFam hu hF, h3.upd varFam hu hF, BlkV.upd hu hF _ _ h4⟩
theorem FnV.mono {w : World} {B B' : Nat} {a : Fn7} {v : Value} (hB : B' ≤ B) (h : FnV w B a v) : FnV w B' a v := by
  obtain ⟨A1, n1, c1, A2, n2, c2, A3, n3, c3, h1, h2, h3, h4⟩ := h
  exact ⟨A1, n1, c1, A2, n2, c2, A3, n3, c3, h1, h2.mono varFam (fun b _ hb => Nat.le_trans hB hb) (by decide), h3.mono varFam (fun b _ hb => Nat.le_trans hB hb) (by decide), BlkV.mono (fun b _ hb => Nat.le_trans hB hb) _ _ h4⟩
/-- What reading a text comes to. -/
def TextR {α : Type} (W : World) (z : Value) (V : World → Nat → α → Value → Prop) (x : Option (Except (Nat × Nat) α)) (e : Ending) (w' : World) : Prop :=
  Below W.heap.size W w' ∧ match x with
    | none => False
    | some (.ok a) => ∃ v, e = .returned (.tuple #[v, .int .i64 0, .int .i64 0]) ∧ V w' W.heap.size a v
    | some (.error (a, n)) => e = .returned (.tuple #[z, .int .i64 a, .int .i64 n])
theorem setCell_id {w : World} {g o : Nat} {cs : Array Value} {t : TypeId} {v : Value} (h : w.heap[g]? = some (.cells cs t (0, 0))) (hv : cs[o]? = some v) : w.setCell ⟨g, o, none⟩ v = w := by
  have key : w.heap.modify g (fun
      | .cells c elem frozen => .cells (c.setIfInBounds o v) elem frozen
      | o => o) = w.heap := by
    apply Array.ext
    · simp
    · intro i h1 h2
      rw [Array.getElem_modify]
      split
      · rename_i he
        subst he
        obtain ⟨h3, h4⟩ := Array.getElem?_eq_some_iff.1 h
        rw [h4]
        show Obj.cells (cs.setIfInBounds o v) t (0, 0) = _
        congr 1
        apply Array.ext
        · simp
        · intro j h5 h6
          rw [Array.getElem_setIfInBounds]
          split
          · rename_i hj
            subst hj
            obtain ⟨h7, h8⟩ := Array.getElem?_eq_some_iff.1 hv
            exact h8.symm
          · rfl
      · rfl
  unfold World.setCell
  show { w with heap := w.heap.modify g (fun
      | .cells c elem frozen => .cells (c.setIfInBounds o v) elem frozen
      | o => o) } = w
  rw [key]
section
variable {w : World} {g h : Nat} {u0 u1 x y : Value} {t1 t2 : TypeId} {o : Obj}
theorem set2 (hg : w.heap[g]? = some (.cells #[u0] t1 (0, 0))) (hh : w.heap[h]? = some (.cells #[u1] t2 (0, 0))) (hne : g ≠ h) : Upd (fun b => b = g ∨ b = h) w (((w.setCell ⟨g, 0, none⟩ x).setCell ⟨h, 0, none⟩ y).alloc o).drew ∧
    (((w.setCell ⟨g, 0, none⟩ x).setCell ⟨h, 0, none⟩ y).alloc o).drew.heap[g]? = some (.cells #[x] t1 (0, 0)) ∧ (((w.setCell ⟨g, 0, none⟩ x).setCell ⟨h, 0, none⟩ y).alloc o).drew.heap[h]? = some (.cells #[y] t2 (0, 0)) := by
  refine ⟨(((Upd.set w (F := fun b => b = g ∨ b = h) (a := ⟨g, 0, none⟩) (.inl rfl) x).then (Upd.set _ (F := fun b => b = g ∨ b = h) (a := ⟨h, 0, none⟩) (.inr rfl) y)).then (Upd.alloc _ _ _)).drew, ?_, ?_⟩
  · have h1 := heap_set hg 0 x
    have h2 : ((w.setCell ⟨g, 0, none⟩ x).setCell ⟨h, 0, none⟩ y).heap[g]? = some (.cells #[x] t1 (0, 0)) := by rw [heap_set_other hne]; exact h1
    exact heap_old h2 o
  · have h1 : (w.setCell ⟨g, 0, none⟩ x).heap[h]? = some (.cells #[u1] t2 (0, 0)) := by rw [heap_set_other (fun e => hne e.symm)]; exact hh
    exact heap_old (heap_set h1 0 y) o
end
set_option maxRecDepth 100000 in
set_option maxHeartbeats 1600000 in
theorem caughtF (g h : Nat) (a k : Nat) (older : List PanicEntry) (w : World) (u0 u1 : Value) (Hg : w.heap[g]? = some (.cells #[u0] 3 (0, 0))) (Hh : w.heap[h]? = some (.cells #[u1] 28 (0, 0))) (hne : g ≠ h) :
    CallsD Tryz.prog 44 #[.pointer (some ⟨g, 0, none⟩), .pointer (some ⟨h, 0, none⟩)] (.panicking ({ v := faultV a k, recovered := false } :: older)) w fun e u' w' =>
      e = .returned (.tuple #[]) ∧ u' = .panicking ({ v := faultV a k, recovered := true } :: older) ∧ Upd (fun b => b = g ∨ b = h) w w' ∧ w'.heap[g]? = some (.cells #[.int .i64 a] 3 (0, 0)) ∧ w'.heap[h]? = some (.cells #[.int .i64 k] 28 (0, 0)) := by
  have hg := cell_at Hg 0
  have hh := cell_at Hh 0
  have fg := frozen_at Hg 0
  have fh := frozen_at Hh 0
  simp at hg hh
  unfold faultV
  have hta : ∀ w, (Instr.typeAssert (.iface 97 (.agg #[.int .i64 a, .int .i64 k])) 20 97 true).run Tryz.prog w = .ok (.tuple #[.agg #[.int .i64 a, .int .i64 k], .bool true]) w := fun _ => by kernel_rfl
  refine callsD_of_wpS Tryz.func44 rfl fun c₀ cs hu => ?_
  apply wpS_seq
  apply wpS_region
  simp [wpOpsS, go_sem, recoverD, hu, hta, Tryz.ntmps44, Exit.thenS]
  apply wpS_seq
  apply wpS_region
  simp [wpOpsS, go_sem, Exit.thenS]
  refine wpS_cond (t := true) (by simp [Act.eval, Array.replicate]) ?_
  simp only [if_true]
  refine wpS_of_wp ?_
  have lg := World.block_lt_of_cell? w _ hg
  have lh := World.block_lt_of_cell? w _ hh
  have hne2 : ¬ (h = g) := fun e => hne e.symm
  have eg : ¬ (w.heap.size = g) := by have : g < w.heap.size := lg; omega
  have eh : ¬ (w.heap.size = h) := by have : h < w.heap.size := lh; omega
  have ag : (w.alloc (.cells #[.int .i64 a, .int .i64 k] 97)).cell? ⟨g, 0, none⟩ = some u0 := (Upd.alloc (fun _ => False) w _).cell hg id
  have ah : (w.alloc (.cells #[.int .i64 a, .int .i64 k] 97)).cell? ⟨h, 0, none⟩ = some u1 := (Upd.alloc (fun _ => False) w _).cell hh id
  have zg : (w.alloc (.cells #[.int .i64 a, .int .i64 k] 97)).frozen? ⟨g, 0, none⟩ = false := by rw [((Below.refl w.heap.size w).alloc (Nat.le_refl _) _).frozen (p := ⟨g, 0, none⟩) lg]; exact fg
  have zh : (w.alloc (.cells #[.int .i64 a, .int .i64 k] 97)).frozen? ⟨h, 0, none⟩ = false := by rw [((Below.refl w.heap.size w).alloc (Nat.le_refl _) _).frozen (p := ⟨h, 0, none⟩) lh]; exact fh
  clear hta
  refine wp_mono (Q := fun e a' w' => e = .normal ∧ a'.defers = [] ∧ Upd (fun b => b = g ∨ b = h) w w' ∧ w'.heap[g]? = some (.cells #[.int .i64 a] 3 (0, 0)) ∧ w'.heap[h]? = some (.cells #[.int .i64 k] 28 (0, 0))) ?_ ?_
  · go_wp2_with fail
    go_region
    all_goals exact ⟨rfl, rfl, set2 Hg Hh hne⟩
  · rintro e a' w' ⟨rfl, h0, h1, h2, h3⟩
    simp [bodyPostS, results, Tryz.results44]
    exact ⟨h0, h1, h2, h3⟩
set_option maxRecDepth 100000 in
set_option maxHeartbeats 1600000 in
theorem idleF (g h : Nat) (w : World) :
    CallsD Tryz.prog 44 #[.pointer (some ⟨g, 0, none⟩), .pointer (some ⟨h, 0, none⟩)] .returning w fun e u' w' => e = .returned (.tuple #[]) ∧ u' = .returning ∧ Below w.heap.size w w' := by
  have hta : ∀ w, (Instr.typeAssert .nilIface 20 97 true).run Tryz.prog w = .ok (.tuple #[.agg #[.int .i64 0, .int .i64 0], .bool false]) w := fun _ => by kernel_rfl
  refine callsD_of_wpS Tryz.func44 rfl fun c₀ cs hu => ?_
  apply wpS_seq
  apply wpS_region
  simp [wpOpsS, go_sem, recoverD, hu, hta, Tryz.ntmps44, Exit.thenS]
  apply wpS_seq
  apply wpS_region
  simp [wpOpsS, go_sem, Exit.thenS]
  refine wpS_cond (t := false) (by simp [Act.eval, Array.replicate]) ?_
  simp only [Bool.false_eq_true, if_false]
  refine wpS_of_wp (wp_skip ?_)
  cases c₀
  simp_all [bodyPostS, results, Tryz.results44]
  exact (Below.refl _ _).alloc (Nat.le_refl _) _
end Go.Proofs.YteplkhgaoaphhaaGreatDoor
/- What lex tells: each token is as the grammar takes it. -/
namespace Go.Proofs.YteplkhgaoaphhaaGreatDoor

def StOk (m : Nat) : St → Prop
  | .word k _ w => k ≤ 2 ∧ w ≠ [] ∧ w.length ≤ m ∧ (k = 0 → ∃ c ∈ w, digitB c.toNat = false) ∧ (k = 1 → ∀ c ∈ w, digitB c.toNat = true)
  | _ => True
theorem ops_name : ∀ w ∈ opsL, ∃ c ∈ w, digitB c.toNat = false := by
  unfold opsL
  simp only [List.forall_mem_cons, List.not_mem_nil, false_imp_iff, implies_true, and_true]
  decide
theorem stOk_begin (i : Nat) (c : UInt8) {m : Nat} (hm : 1 ≤ m) : StOk m (St.begin i c) := by
  unfold St.begin
  split
  · trivial
  split
  · trivial
  split
  · rename_i h
    refine ⟨by omega, by simp, by simpa using hm, fun _ => ⟨c, by simp, ?_⟩, fun h => by cases h⟩
    unfold letterB at h
    unfold digitB
    rw [decide_eq_true_iff] at h
    rw [decide_eq_false_iff_not]
    omega
  split
  · rename_i h
    refine ⟨by omega, by simp, by simpa using hm, fun h => (by cases h), fun _ => ?_⟩
    intro d hd
    rw [List.mem_singleton] at hd
    subst hd
    exact h
  · exact ⟨by omega, by simp, by simpa using hm, fun h => (by cases h), fun h => by cases h⟩
theorem stOk_push {m : Nat} : ∀ {st : St} {c : UInt8}, StOk m st → st.goes c = true → StOk (m + 1) (st.push c)
  | .blank, _, _, _ => trivial
  | .com, _, _, _ => trivial
  | .word k fr w, c, ⟨h1, h2, h3, h4, h5⟩, hg => by
    refine ⟨h1, by simp, by simp; omega, fun hk => ?_, fun hk => ?_⟩
    · obtain ⟨d, hd, h6⟩ := h4 hk
      exact ⟨d, by simp [hd], h6⟩
    · subst hk
      intro d hd
      rw [List.mem_append, List.mem_singleton] at hd
      rcases hd with hd | rfl
      · exact h5 rfl d hd
      · exact hg
theorem fin_good {m : Nat} (hM : m ≤ 1000000) {ts ts' : List Tok} {c : UInt8} : ∀ {st : St}, StOk m st → st.fin ts c = .ok ts' → (∀ t ∈ ts, Good t) → (∀ t ∈ ts', Good t) ∧ ts'.length ≤ ts.length + 1
  | .blank, _, h, hg => by
    injection h with h; subst h
    exact ⟨hg, by omega⟩
  | .com, _, h, hg => by
    injection h with h; subst h
    exact ⟨hg, by omega⟩
  | .word k fr w, ⟨h1, h2, h3, h4, h5⟩, h, hg => by
    by_cases hf : fault k w c = 0
    · rw [fin_ok hf] at h
      injection h with h; subst h
      refine ⟨fun t ht => ?_, by simp⟩
      rw [List.mem_append, List.mem_singleton] at ht
      rcases ht with ht | rfl
      · exact hg t ht
      · refine ⟨h1, h2, by show w.length ≤ _; omega, fun hk => ?_, fun hk => ?_⟩
        · have hk : k = 1 := hk
          subst hk
          refine ⟨h5 rfl, ?_⟩
          have hf : faultN w c = 0 := hf
          unfold faultN at hf
          split at hf
          · cases hf
          · show valL w ≤ _
            omega
        · have hk : k ≠ 1 := hk
          by_cases h0 : k = 0
          · exact h4 h0
          · have h2 : k = 2 := by omega
            subst h2
            have hf : (if isOp w = true then 0 else 50) = 0 := hf
            split at hf
            · rename_i ho
              exact ops_name w (by unfold isOp at ho; simpa using ho)
            · cases hf
    · rw [fin_err rfl hf] at h
      cases h
theorem runT_good : ∀ (r : List UInt8) (st : St) (i m : Nat) (ts ts' : List Tok), runT st i ts r = .ok ts' → StOk m st → m + r.length ≤ 1000000 → (∀ t ∈ ts, Good t) → (∀ t ∈ ts', Good t) ∧ ts'.length ≤ ts.length + r.length
  | [], st, i, m, ts, ts', h, _, _, hg => by
    unfold runT at h
    injection h with h; subst h
    exact ⟨hg, by omega⟩
  | c :: r, st, i, m, ts, ts', h, hst, hm, hg => by
    unfold runT at h
    simp only [List.length_cons] at hm ⊢
    split at h
    · rename_i hgo
      obtain ⟨h1, h2⟩ := runT_good r (st.push c) (i + 1) (m + 1) ts ts' h (stOk_push hst hgo) (by omega) hg
      exact ⟨h1, by omega⟩
    · split at h
      · cases h
      · rename_i ts2 hfin
        obtain ⟨h1, h2⟩ := fin_good (m := m) (by omega) hst hfin hg
        obtain ⟨h3, h4⟩ := runT_good r (St.begin i c) (i + 1) (m + 1) ts2 ts' h (stOk_begin i c (by omega)) (by omega) h1
        exact ⟨h3, by omega⟩
theorem lexT_good {l : List UInt8} {ts : List Tok} (h : lexT l = .ok ts) : (∀ t ∈ ts, Good t) ∧ ts.length ≤ 4097 := by
  unfold lexT at h
  split at h
  · cases h
  · have hl : (l ++ [10]).length ≤ 4097 := by simp; omega
    obtain ⟨h1, h2⟩ := runT_good (l ++ [10]) .blank 0 0 [] ts h trivial (by omega) (fun _ h => by cases h)
    exact ⟨h1, by simp at h2; simp at hl; omega⟩
end Go.Proofs.YteplkhgaoaphhaaGreatDoor
