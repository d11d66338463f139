/- Walks of wal: the mark. -/
import Derived.Test.YtimblkkojcbipaaDoorSmall
import Derived.Lib.SmallJoins
namespace Go.Proofs.YtimblkkojcbipaaDoor
open Go Go.RowKit
def magicL : List UInt8 := [97, 117, 103, 117, 114, 58, 32, 97, 32, 108, 111, 103, 44, 32, 49, 10]
def markL (live : Nat) : List UInt8 := magicL ++ [UInt8.ofNat live]
section
variable {w : World} {pb sb : Nat} {S : Nat → Prop} {D : DS}
theorem RowB.made (w : World) (l : List UInt8) (cs : Array Value) (n : Nat) (hcs : cs = (bv l).toArray) (hn : n = l.length) (hl : l.length ≤ maxLen) : RowB (w.alloc (.cells cs 5)) w.heap.size (.slice (some ⟨w.heap.size, 0, none⟩) n n) l := by
  subst hcs hn
  refine ⟨by rw [bv_len, Nat.mul_one], .inr ⟨w.heap.size, l.length, _, rfl, Nat.le_refl _, heap_alloc_new _ _, Nat.le_refl _, hl, by simp [bv], ?_⟩⟩
  rw [Nat.mul_one, ← bv_len l]
  simp
set_option maxRecDepth 100000 in
theorem writeMark_any (h : PgV w pb sb S D) (live : Nat) (hl : live ≤ 1) : Calls Tryd.prog 51 #[.pointer (some ⟨pb, 0, none⟩), .int .i64 live] w fun e w' => e = .returned (.tuple #[]) ∧ ∃ S', PgV w' pb sb S' (D.write 0 (pad D.size (markL live))) ∧ Mv w (OO pb S) w' (OO pb S') := by
  have hs := h.disk.s1
  have hn := h.disk.n1
  have hml : (markL live).length = 17 := by simp [markL, magicL]
  have hcv := fun (W : World) (C : Array Value) (n c g : Nat) (hg : g = W.heap.size) => Joins.run_convert_bytes_const_at (P := Tryd.prog) W 34 5 C n c g hg Tryd.underlying34 Tryd.underlying5
  have hlt := h.lt
  replace h := hide h
  go_enter Tryd.func51, Tryd.ntmps51
  go_wp2_with (at_builtin; refine wp_bytes_full rfl (.tmp 6) (.tmp 9) rfl (w.heap.size + 1) _ magicL rfl ?_ ⟨w.heap.size + 1, 0, none⟩ 1 1 [UInt8.ofNat live] rfl rfl (by simp) ?_ (by simp [magicL]) ?_)
  · exact ((Sl.new w _ _ _).below ((Below.refl _ _).alloc (by simp) _))
  · have := new_byte (w.alloc (.cells (bv magicL).toArray 5 (16, 17))) (.int .u8 live) (UInt8.ofNat live) (by congr 1; simp; omega)
    rw [World.size_alloc] at this
    exact this
  intro v2 w2 h2 hb2
  have hB : Below w.heap.size w w2 := (((Below.refl _ w).alloc (Nat.le_refl _) _).alloc (by simp) _).trans (hb2.mono (by omega))
  have hU2 : Upd (fun _ => False) w w2 := .of_below _ hB
  have h3 := h.out.upd hU2 id fun _ _ => id
  have hw := pwrite_any h3 0 (by omega) h2.arg (by show (markL live).length ≤ D.size; omega)
  obtain ⟨A2, n2, c2, rfl⟩ := h2.slice
  have hz2 := hB.size
  replace h2 := hide h2
  replace hU2 := hide hU2
  replace h3 := hide h3
  replace hz2 := hide hz2
  clear hb2 hB hcv
  go_wp2_with fail
  refine hw.mono ?_
  rintro e w3 ⟨rfl, S', h4, hM⟩
  replace h4 := hide h4
  replace hM := hide hM
  go_wp2_with fail
  go_end0
  exact ⟨rfl, S', h4.out, Mv.trans ⟨hU2.out.mono fun _ _ h => h.elim, fun _ => .inl⟩ hM.out⟩
/-- What a reading call of pages comes to. -/
def Tells {α : Type} (pb sb : Nat) (S : Nat → Prop) (D : DS) (w : World) (f : α → World → Value → Prop) (o : Option α) (e : Ending) (w' : World) : Prop :=
  PgV w' pb sb S D ∧ Upd (At pb) w w' ∧ match o with
    | some a => ∃ v, e = .returned v ∧ f a w' v
    | none => ∃ pv, e = .panicked [{ v := .iface 126 pv, recovered := false }]
def markP (l : List UInt8) : Option Nat := if l.take 16 = magicL then (if (l.getD 16 0).toNat < 2 then some (l.getD 16 0).toNat else none) else none
theorem RdV.made {w : World} {S : Nat → Prop} {v : Value} {l : List UInt8} (h : ArgV w S v (bv l)) (hS : ∀ k, S k → k < w.heap.size) : RdV (w.alloc (.cells #[v] 87)) w.heap.size S l :=
  ⟨v, heap_new _ _, h.upd (.alloc (fun _ => False) _ _) fun _ _ => id, fun h => by have := hS _ h; omega⟩
theorem one_of (l : List UInt8) (k : Nat) (h : k < l.length) : (l.drop k).take 1 = [l.getD k 0] := by
  rw [List.drop_eq_getElem_cons h, List.take_succ_cons, List.take_zero, List.getD_eq_getElem?_getD, List.getElem?_eq_getElem h]
  rfl
set_option maxRecDepth 100000 in
theorem readMark_any (h : PgV w pb sb S D) (hd : D.dead = false) (hls : (D.last 0).length = D.size) : Calls Tryd.prog 44 #[.pointer (some ⟨pb, 0, none⟩)] w fun e w' => Tells pb sb S D w (fun n _ v => v = .int .i64 (n : Nat)) (markP (D.last 0)) e w' := by
  have hs := h.disk.s1
  have hn := h.disk.n1
  have hlt := h.lt
  have hr := pread_any h hd 0 (by omega)
  have hne := h.ne
  have hold := h.disk.old
  generalize D.last 0 = l at *
  have t1 : takeP 16 l = some (l.take 16, l.drop 16) := if_pos (by omega)
  have t2 : takeP 1 (l.drop 16) = some ([l.getD 16 0], (l.drop 16).drop 1) := by rw [← one_of l 16 (by omega)]; exact if_pos (by rw [List.length_drop]; omega)
  have hb := (l.getD 16 0).toNat_lt
  clear h
  replace hls := hide hls
  replace hne := hide hne
  replace hold := hide hold
  replace t1 := hide t1
  replace t2 := hide t2
  by_cases hm : l.take 16 = magicL
  · replace hm := hide hm
    by_cases hm2 : (l.getD 16 0).toNat < 2
    · replace hm2 := hide hm2
      go_enter Tryd.func44, Tryd.ntmps44
      go_wp2_with fail
      refine hr.mono ?_
      rintro e w1 ⟨v1, rfl, h1, h2, hU1⟩
      have ha := h1.arg.mono' h1.arg
      have hz1 := hU1.size
      obtain ⟨A, n, c, rfl⟩ := h1.slice
      have hR0 := RdV.made ha (fun k hk => hk.2)
      have ht := take_any hR0 (by have := hls.out; omega) 16 (by omega)
      rw [t1.out] at ht
      have hp2 : PgV (w1.alloc (.cells #[.slice A n c] 87)) pb sb S D := h2.upd (.alloc (fun _ => False) _ _) id fun _ _ => id
      have hU2 : Upd (At pb) w (w1.alloc (.cells #[.slice A n c] 87)) := hU1.then (.alloc _ _ _)
      replace hp2 := hide hp2
      replace hU2 := hide hU2
      clear hr h1 h2 ha hU1 hR0
      go_wp2_with fail
      refine ht.mono ?_
      rintro e w2 ⟨hUt, v2, rfl, ha2, hR2⟩
      have hp3 : PgV w2 pb sb S D := hp2.out.upd hUt (fun e => by omega) fun k hk e => by have := hold.out k hk; omega
      have hU3 : Upd (At pb) w w2 := hU2.out.trans hUt fun k hk e => by omega
      have hz2 := hU3.size
      have hcv := ha2.bytes.string (P := Tryd.prog) Tryd.underlying34 Tryd.underlying5 Tryd.underlying9
      replace hp3 := hide hp3
      replace hU3 := hide hU3
      replace hR2 := hide hR2
      obtain ⟨A2, c2, rfl, -⟩ := ha2
      clear hUt hp2 hU2 ht
      go_wp2_with fail
      refine (need_any _ _).mono ?_
      rintro e w' ⟨rfl, h, -⟩
      obtain rfl := h (by have hm' := hm.out; unfold magicL at hm'; simpa using hm')
      have ht := take_any hR2.out (by rw [List.length_drop]; have := hls.out; omega) 1 (by omega)
      rw [t2.out] at ht
      clear hcv
      go_wp2_with fail
      refine ht.mono ?_
      rintro e w3 ⟨hUt, v3, rfl, ha3, hR3⟩
      have hp4 : PgV w3 pb sb S D := hp3.out.upd hUt (fun e => by omega) fun k hk e => by have := hold.out k hk; omega
      have hU4 : Upd (At pb) w w3 := hU3.out.trans hUt fun k hk e => by omega
      obtain ⟨A3, c3, rfl, hc3, -, hx⟩ := ha3
      obtain ⟨b3, o3, rfl, hcell⟩ : ∃ b o, A3 = some ⟨b, o, none⟩ ∧ w3.cell? ⟨b, o, none⟩ = some (.int .u8 (l.getD 16 0).toNat) := by
        rcases hx with hx | ⟨b, o, rfl, _, hc⟩
        · cases hx
        · exact ⟨b, o, rfl, hc 0 _ rfl⟩
      generalize hq : (l.getD 16 0).toNat = q at hcell hb hm2
      have hl3 : (bv [l.getD 16 0]).length = 1 := rfl
      rw [hl3] at hc3 ⊢
      replace hp4 := hide hp4
      replace hU4 := hide hU4
      replace hq := hide hq
      clear hUt ht hx hR3
      go_wp2_with fail
      refine (need_any _ _).mono ?_
      rintro e w' ⟨rfl, h, -⟩
      obtain rfl := h (by have := hm2.out; simp; omega)
      go_wp2_with fail
      go_ret
      unfold markP
      rw [if_pos hm.out, hq.out, if_pos hm2.out]
      exact ⟨hp4.out, hU4.out, _, rfl, rfl⟩
    · replace hm2 := hide hm2
      go_enter Tryd.func44, Tryd.ntmps44
      go_wp2_with fail
      refine hr.mono ?_
      rintro e w1 ⟨v1, rfl, h1, h2, hU1⟩
      have ha := h1.arg.mono' h1.arg
      have hz1 := hU1.size
      obtain ⟨A, n, c, rfl⟩ := h1.slice
      have hR0 := RdV.made ha (fun k hk => hk.2)
      have ht := take_any hR0 (by have := hls.out; omega) 16 (by omega)
      rw [t1.out] at ht
      have hp2 : PgV (w1.alloc (.cells #[.slice A n c] 87)) pb sb S D := h2.upd (.alloc (fun _ => False) _ _) id fun _ _ => id
      have hU2 : Upd (At pb) w (w1.alloc (.cells #[.slice A n c] 87)) := hU1.then (.alloc _ _ _)
      replace hp2 := hide hp2
      replace hU2 := hide hU2
      clear hr h1 h2 ha hU1 hR0
      go_wp2_with fail
      refine ht.mono ?_
      rintro e w2 ⟨hUt, v2, rfl, ha2, hR2⟩
      have hp3 : PgV w2 pb sb S D := hp2.out.upd hUt (fun e => by omega) fun k hk e => by have := hold.out k hk; omega
      have hU3 : Upd (At pb) w w2 := hU2.out.trans hUt fun k hk e => by omega
      have hz2 := hU3.size
      have hcv := ha2.bytes.string (P := Tryd.prog) Tryd.underlying34 Tryd.underlying5 Tryd.underlying9
      replace hp3 := hide hp3
      replace hU3 := hide hU3
      replace hR2 := hide hR2
      obtain ⟨A2, c2, rfl, -⟩ := ha2
      clear hUt hp2 hU2 ht
      go_wp2_with fail
      refine (need_any _ _).mono ?_
      rintro e w' ⟨rfl, h, -⟩
      obtain rfl := h (by have hm' := hm.out; unfold magicL at hm'; simpa using hm')
      have ht := take_any hR2.out (by rw [List.length_drop]; have := hls.out; omega) 1 (by omega)
      rw [t2.out] at ht
      clear hcv
      go_wp2_with fail
      refine ht.mono ?_
      rintro e w3 ⟨hUt, v3, rfl, ha3, hR3⟩
      have hp4 : PgV w3 pb sb S D := hp3.out.upd hUt (fun e => by omega) fun k hk e => by have := hold.out k hk; omega
      have hU4 : Upd (At pb) w w3 := hU3.out.trans hUt fun k hk e => by omega
      obtain ⟨A3, c3, rfl, hc3, -, hx⟩ := ha3
      obtain ⟨b3, o3, rfl, hcell⟩ : ∃ b o, A3 = some ⟨b, o, none⟩ ∧ w3.cell? ⟨b, o, none⟩ = some (.int .u8 (l.getD 16 0).toNat) := by
        rcases hx with hx | ⟨b, o, rfl, _, hc⟩
        · cases hx
        · exact ⟨b, o, rfl, hc 0 _ rfl⟩
      generalize hq : (l.getD 16 0).toNat = q at hcell hb hm2
      have hl3 : (bv [l.getD 16 0]).length = 1 := rfl
      rw [hl3] at hc3 ⊢
      replace hp4 := hide hp4
      replace hU4 := hide hU4
      replace hq := hide hq
      clear hUt ht hx hR3
      go_wp2_with fail
      refine (need_any _ _).mono ?_
      rintro e w' ⟨rfl, -, h⟩
      obtain ⟨pv, rfl⟩ := h (by have := hm2.out; simp; omega)
      go_wp2_with fail
      refine ⟨rfl, ?_⟩
      unfold markP
      rw [if_pos hm.out, hq.out, if_neg hm2.out]
      exact ⟨hp4.out, hU4.out, _, rfl⟩
  · replace hm := hide hm
    go_enter Tryd.func44, Tryd.ntmps44
    go_wp2_with fail
    refine hr.mono ?_
    rintro e w1 ⟨v1, rfl, h1, h2, hU1⟩
    have ha := h1.arg.mono' h1.arg
    have hz1 := hU1.size
    obtain ⟨A, n, c, rfl⟩ := h1.slice
    have hR0 := RdV.made ha (fun k hk => hk.2)
    have ht := take_any hR0 (by have := hls.out; omega) 16 (by omega)
    rw [t1.out] at ht
    have hp2 : PgV (w1.alloc (.cells #[.slice A n c] 87)) pb sb S D := h2.upd (.alloc (fun _ => False) _ _) id fun _ _ => id
    have hU2 : Upd (At pb) w (w1.alloc (.cells #[.slice A n c] 87)) := hU1.then (.alloc _ _ _)
    replace hp2 := hide hp2
    replace hU2 := hide hU2
    clear hr h1 h2 ha hU1 hR0
    go_wp2_with fail
    refine ht.mono ?_
    rintro e w2 ⟨hUt, v2, rfl, ha2, hR2⟩
    have hp3 : PgV w2 pb sb S D := hp2.out.upd hUt (fun e => by omega) fun k hk e => by have := hold.out k hk; omega
    have hU3 : Upd (At pb) w w2 := hU2.out.trans hUt fun k hk e => by omega
    have hz2 := hU3.size
    have hcv := ha2.bytes.string (P := Tryd.prog) Tryd.underlying34 Tryd.underlying5 Tryd.underlying9
    replace hp3 := hide hp3
    replace hU3 := hide hU3
    replace hR2 := hide hR2
    obtain ⟨A2, c2, rfl, -⟩ := ha2
    clear hUt hp2 hU2 ht
    go_wp2_with fail
    refine (need_any _ _).mono ?_
    rintro e w' ⟨rfl, -, h⟩
    obtain ⟨pv, rfl⟩ := h (by have hm' := hm.out; unfold magicL at hm'; simpa using hm')
    go_wp2_with fail
    refine ⟨rfl, ?_⟩
    unfold markP
    rw [if_neg hm.out]
    exact ⟨hp3.out, hU3.out, _, rfl⟩
end
end Go.Proofs.YtimblkkojcbipaaDoor
