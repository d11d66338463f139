/- The laws' helper batch: records of given lengths. -/
import Derived.Test.YtimblkkojcbipaaDoorPutHolds
namespace Go.Proofs.YtimblkkojcbipaaDoor
open Go Go.RowKit
def rowL (i k n : Nat) : List UInt8 := (List.range n).map fun j => UInt8.ofNat (31 * i + 7 * k + j)
def batchL (i : Nat) (ls : List UInt8) (k : Nat) : List (List UInt8) := (List.range k).map fun t => rowL i t (ls.getD t 0).toNat
theorem batchL_succ (i : Nat) (ls : List UInt8) (k : Nat) : batchL i ls (k + 1) = batchL i ls k ++ [rowL i k (ls.getD k 0).toNat] := by unfold batchL; rw [List.range_succ, List.map_append]; rfl
theorem batchL_len (i : Nat) (ls : List UInt8) (k : Nat) : (batchL i ls k).length = k := by simp [batchL]
theorem rowL_len (i k n : Nat) : (rowL i k n).length = n := by simp [rowL]
/-- Records of the call's own, none of them nil. -/
def BatV (w : World) (B : Nat) (v : Value) (rs : List (List UInt8)) : Prop :=
  ∃ vs R, w.ownsRow B 34 1 v rs.length vs ∧ (∀ (i : Nat) (u : Value) (r : List UInt8), vs[i]? = some u → rs[i]? = some r → ArgV w R u (bv r) ∧ NonNil u) ∧ ∀ k, R k → B ≤ k ∧ k < w.heap.size ∧ ¬ Own v k
theorem BatV.upd {w w' : World} {F : Nat → Prop} {B : Nat} {v : Value} {rs : List (List UInt8)} (h : BatV w B v rs) (hu : Upd F w w') (hF : ∀ k, B ≤ k → k < w.heap.size → ¬ F k) : BatV w' B v rs := by
  obtain ⟨vs, R, h1, h2, h4⟩ := h
  exact ⟨vs, R, hu.own h1 fun k hk => hF k (own_lt h1 hk).1 (own_lt h1 hk).2, fun i u r hi hr => ⟨(h2 i u r hi hr).1.upd hu fun k hk => hF k (h4 k hk).1 (h4 k hk).2.1, (h2 i u r hi hr).2⟩, fun k hk => ⟨(h4 k hk).1, Nat.lt_of_lt_of_le (h4 k hk).2.1 hu.size, (h4 k hk).2.2⟩⟩
theorem BatV.slice {w : World} {B : Nat} {v : Value} {rs : List (List UInt8)} (h : BatV w B v rs) : ∃ A n c, v = .slice A n c := by
  obtain ⟨vs, R, h1, _⟩ := h
  rcases h1.2 with ⟨rfl, _⟩ | ⟨g, cap, cur, rfl, _⟩
  · exact ⟨_, _, _, rfl⟩
  · exact ⟨_, _, _, rfl⟩
theorem BatV.nil (w : World) (B : Nat) : BatV w B (.slice none 0 0) [] := ⟨[], fun _ => False, World.ownsRow_nil _ _ _ _, fun _ _ _ h _ => by simp at h, fun _ h => h.elim⟩
theorem wpl_append_at {w : World} {ops : Array Oper} {rest : List Oper} {o : Oper} {a : Act} {Q : Exit → Act → World → Prop} (hgd : o.guard = none) (s x : Operand) (ho : o.op = .call { callee := .builtin .append, args := #[s, x], argTypes := #[28, 28] })
    (base : Nat) (v : Value) (n : Nat) (xs : List Value) (hs : a.eval s = v) (hown : w.ownsRow base 34 1 v n xs)
    (g : Nat) (u : Value) (hx : a.eval x = .slice (some ⟨g, 0, none⟩) 1 1) (hc : w.cell? ⟨g, 0, none⟩ = some u) (hu : ∃ a n c, u = .slice a n c) (hn : n ≤ 4294967296) (hbase : base ≤ w.heap.size)
    (h : ∀ v' w', w'.ownsRow base 34 1 v' (n + 1) (xs ++ [u]) → w.grownBy w' v.ownBlock → (∀ k, Own v' k → Own v k ∨ w.heap.size ≤ k) → wpList Tryd.prog ops Q rest (a.put o.dst v') w') : wpList Tryd.prog ops Q (o :: rest) a w := by
  refine wpList_plain hgd fun K hK => wp_append_at s x ho base v n xs hs hown g u hx hc hu hn hbase fun v' w' h1 h2 h3 => hK _ _ (h v' w' h1 h2 h3)
theorem row_set (i k n j : Nat) (hj : j < n) : (bv (rowL i k j ++ List.replicate (n - j) 0)).toArray.setIfInBounds j (.int .u8 ((31 * i + 7 * k + j) % 256 : Nat)) = (bv (rowL i k (j + 1) ++ List.replicate (n - (j + 1)) 0)).toArray := by
  obtain ⟨m, hm⟩ : ∃ m, n - j = m + 1 := ⟨n - j - 1, by omega⟩
  have h1 : n - (j + 1) = m := by omega
  have h2 : (bv (rowL i k j)).length = j := by rw [bv_len, rowL_len]
  have h3 : rowL i k (j + 1) = rowL i k j ++ [UInt8.ofNat (31 * i + 7 * k + j)] := by unfold rowL; rw [List.range_succ, List.map_append]; rfl
  rw [h1, hm, h3, List.replicate_succ]
  unfold bv at h2 ⊢
  rw [List.map_append, List.map_append, List.map_append, List.map_cons, ← Array.toList_inj]
  simp only [List.setIfInBounds_toArray, List.map_cons, List.map_nil]
  rw [List.set_append_right _ _ (by omega), h2, Nat.sub_self, List.set_cons_zero]
  simp
set_option maxRecDepth 100000 in
set_option maxHeartbeats 1000000 in
theorem batch_any {w : World} {S : Nat → Prop} {v : Value} {ls : List UInt8} (h : ArgV w S v (bv ls)) (i : Nat) (hi : i ≤ 1000) (hl : ls.length ≤ 1000) :
    Calls Tryd.prog 14 #[.int .i64 i, v] w fun e w' => ∃ v', e = .returned v' ∧ BatV w' w.heap.size v' (batchL i ls ls.length) ∧ Below w.heap.size w w' := by
  have ha := h
  obtain ⟨A, c, rfl, hc1, hc2, hcells⟩ := h
  rw [bv_len] at hc1 ha ⊢
  have hc2' : c ≤ 9223372036854775807 := by unfold maxLen at hc2; exact hc2
  replace hcells := hide hcells
  replace hc2 := hide hc2
  replace ha := hide ha
  have hat : ∀ k, k < ls.length → ∃ b o, A = some ⟨b, o, none⟩ ∧ w.cell? ⟨b, o + k, none⟩ = some (.int .u8 (ls.getD k 0).toNat) := by
    intro k hk
    have hx : (bv ls)[k]? = some (.int .u8 (ls.getD k 0).toNat) := by
      unfold bv
      rw [List.getElem?_map, List.getD_eq_getElem?_getD, List.getElem?_eq_getElem hk]
      rfl
    obtain ⟨b, o, h1, -, h2⟩ := ha.out.get hx
    exact ⟨b, o, h1, h2⟩
  replace hat := hide hat
  go_enter Tryd.func14, Tryd.ntmps14
  go_wp2_with fail
  go_loopw [5, 6] (fun z i' wr => ∃ k : Nat, k ≤ ls.length ∧ i' = .int .i64 k ∧ BatV wr w.heap.size z (batchL i ls k) ∧ Upd (fun _ => False) w wr) (fun _ i' _ => ls.length - (intOf i').toNat)
  case atStart => exact ⟨0, Nat.zero_le _, rfl, by simpa [batchL] using BatV.nil w _, .refl _ _⟩
  case round =>
    obtain ⟨k, hk, rfl, hb, hU⟩ := hrel
    obtain ⟨A2, n2, c2, rfl⟩ := hb.slice
    replace hb := hide hb
    have zr := hU.size
    rcases Nat.lt_or_ge k ls.length with hlt | hge
    · obtain ⟨b, o, rfl, hc⟩ := hat.out k hlt
      have hc' := hU.cell hc id
      obtain ⟨n, hn⟩ : ∃ n, n = (ls.getD k 0).toNat := ⟨_, rfl⟩
      have hnb : n < 256 := by rw [hn]; exact (ls.getD k 0).toNat_lt
      rw [← hn] at hc'
      replace hn := hide hn
      replace hU := hide hU
      have hmk := run_make_row' (P := Tryd.prog) 34 5 (.int .u8 0) 1 Tryd.underlying34 byte_info rfl .i64 .i64 n (by omega) (by omega)
      clear hc
      go_wp2_with fail
      obtain ⟨wo, rfl⟩ : ∃ z, z = wr := ⟨wr, rfl⟩
      obtain ⟨w1, hw1⟩ : ∃ w1, w1 = wo.alloc (.cells (madeCells #[.int .u8 0] n) 5) := ⟨_, rfl⟩
      have hg0 : w1.heap[wo.heap.size]? = some (.cells (bv (rowL i k 0 ++ List.replicate (n - 0) 0)).toArray 5) := by
        rw [hw1, heap_new]
        have : rowL i k 0 = [] := rfl
        rw [this, List.nil_append, Nat.sub_zero, bv_zeros]
      have hU1 : Upd (fun _ => False) wo w1 := by rw [hw1]; exact .alloc _ _ _
      have z1 : w1.heap.size = wo.heap.size + 1 := by rw [hw1]; simp
      rw [← hw1]
      replace hw1 := hide hw1
      replace hg0 := hide hg0
      replace hU1 := hide hU1
      replace z1 := hide z1
      clear hmk
      go_loopw [8] (fun z wx => ∃ j : Nat, j ≤ n ∧ z = .int .i64 j ∧ wx.heap[wo.heap.size]? = some (.cells (bv (rowL i k j ++ List.replicate (n - j) 0)).toArray 5) ∧ Upd (fun q => q = wo.heap.size) w1 wx) (fun z _ => n - (intOf z).toNat)
      case atStart => exact ⟨0, Nat.zero_le _, rfl, hg0.out, .refl _ _⟩
      case round =>
        obtain ⟨j, hj, rfl, hg, hUx⟩ := hrel
        rcases Nat.lt_or_ge j n with hlt2 | hge2
        · have hcx : wr.cell? ⟨wo.heap.size, j, none⟩ = some (.int .u8 0) := by
            rw [cell_at hg]
            unfold bv
            rw [List.getElem?_toArray, List.getElem?_map, List.getElem?_append_right (by rw [rowL_len]; exact Nat.le_refl _), rowL_len, Nat.sub_self, List.getElem?_replicate, if_pos (by omega)]
            rfl
          have hfx := frozen_at hg j
          replace hg := hide hg
          replace hUx := hide hUx
          go_wp2_with fail
          go_roundw
          case rel =>
            refine ⟨j + 1, hlt2, by go_num, ?_, hUx.out.then (.set (F := fun q => q = wo.heap.size) _ (a := ⟨wo.heap.size, j, none⟩) rfl _)⟩
            have e : ((31 * (i : Int) + 7 * k + j) % 256) = (((31 * i + 7 * k + j) % 256 : Nat) : Int) := by omega
            rw [heap_set hg.out, e, row_set i k n j hlt2]
          case measure => simp [intOf]; omega
        · obtain rfl : n = j := by omega
          clear hge2
          have hUw : Upd (fun q => q = wo.heap.size) wo wr := (hU1.out.mono fun _ _ h => h.elim).then hUx
          have hb2 := hb.out.upd hUw fun q _ h2 e => by omega
          have hzw := hUx.size
          have hz1 := z1.out
          obtain ⟨vs, R, o1, o2, o4⟩ := hb2
          rw [batchL_len] at o1
          have hvk : Hid (vs.length = k) := hide (by have := o1.1; omega)
          have o1' : ∀ ob, (wr.alloc ob).ownsRow w.heap.size 34 1 (.slice A2 n2 c2) k vs := fun ob => (Upd.alloc (fun _ => False) wr ob).own o1 fun _ _ => id
          have hwoz : wo.heap.size < wr.heap.size := by omega
          rw [Nat.sub_self, List.replicate_zero, List.append_nil] at hg
          replace hg := hide hg
          replace hUx := hide hUx
          replace o1' := hide o1'
          replace o2 := hide o2
          replace o4 := hide o4
          replace hUw := hide hUw
          go_wp2_with (at_builtin; refine wpl_append_at rfl (.tmp 38) (.tmp 40) rfl w.heap.size (.slice A2 n2 c2) k vs rfl (o1'.out _) wr.heap.size (.slice (some ⟨wo.heap.size, 0, none⟩) n n) rfl ?_ ⟨_, _, _, rfl⟩ (by omega) (by rw [World.size_alloc]; omega) ?_)
          · rw [cell_at (heap_new _ _)]; rfl
          intro v' wf h1 hgr hmv
          have hUf : Upd (fun q => Own (.slice A2 n2 c2) q) (wr.alloc (.cells #[.slice (some ⟨wo.heap.size, 0, none⟩) n n] 34)) wf := .grown hgr fun q hq => hq
          have hUa : Upd (fun _ => False) wr (wr.alloc (.cells #[.slice (some ⟨wo.heap.size, 0, none⟩) n n] 34)) := .alloc _ _ _
          have hov : ¬ Own (.slice A2 n2 c2) wo.heap.size := by
            obtain ⟨vs0, R0, p1, _⟩ := hb.out
            exact fun h => by have := (own_lt p1 h).2; omega
          have hgf := hUf.heap (hUa.heap hg.out id) hov
          have hzf := hUf.size
          rw [World.size_alloc] at hzf
          have hBf : BatV wf w.heap.size v' (batchL i ls (k + 1)) := by
            refine ⟨vs ++ [.slice (some ⟨wo.heap.size, 0, none⟩) n n], fun q => R q ∨ q = wo.heap.size, by rw [batchL_len]; exact h1, ?_, ?_⟩
            · intro t u' r hu' hr
              rw [batchL_succ] at hr
              have hvl : vs.length = k := hvk.out
              rcases Nat.lt_or_ge t k with ht | ht
              · rw [List.getElem?_append_left (by omega)] at hu'
                rw [List.getElem?_append_left (by rw [batchL_len]; exact ht)] at hr
                have := o2.out t u' r hu' hr
                exact ⟨((this.1.upd hUa fun _ _ => id).upd hUf fun q hq => (o4.out q hq).2.2).mono fun _ _ h => .inl h, this.2⟩
              · rw [List.getElem?_append_right (by omega), hvl] at hu'
                rw [List.getElem?_append_right (by rw [batchL_len]; exact ht), batchL_len] at hr
                have ht0 : t - k = 0 := by
                  rcases Nat.eq_zero_or_pos (t - k) with h | h
                  · exact h
                  · rw [List.getElem?_eq_none (by simp; omega)] at hu'
                    cases hu'
                rw [ht0] at hu' hr
                obtain rfl := Option.some.inj hu'
                obtain rfl := Option.some.inj hr
                rw [← hn.out]
                refine ⟨⟨some ⟨wo.heap.size, 0, none⟩, n, by rw [bv_len, rowL_len], by rw [bv_len, rowL_len]; exact Nat.le_refl _, by unfold maxLen; omega, .inr ⟨wo.heap.size, 0, rfl, .inr rfl, fun j v hj => ?_⟩⟩, ⟨_, _, _, rfl⟩⟩
                rw [cell_at hgf, Nat.zero_add]
                simpa using hj
            · intro q hq
              rcases hq with hq | rfl
              · obtain ⟨a1, a2, a3⟩ := o4.out q hq
                exact ⟨a1, by omega, fun h => (hmv q h).elim a3 fun h => by omega⟩
              · exact ⟨zr, by omega, fun h => (hmv _ h).elim hov fun h => by omega⟩
          have hUF : Upd (fun _ => False) w wf := by
            refine ((hU.out.trans hUw.out fun q hq e => by omega).trans hUa fun _ _ h => h).trans hUf fun q hq h => ?_
            obtain ⟨vs0, R0, p1, _⟩ := hb.out
            have := (own_lt p1 h).1
            omega
          obtain ⟨A3, n3, c3, rfl⟩ := hBf.slice
          replace hBf := hide hBf
          replace hUF := hide hUF
          replace hmv := hide hmv
          clear hgr h1 hUf hUa
          go_wp2_with fail
          go_roundw
          case rel => exact ⟨k + 1, hlt, by go_num, hBf.out, hUF.out⟩
          case measure => simp [intOf]; omega
    · obtain rfl : k = ls.length := by omega
      clear hge
      go_wp2_with fail
      go_ret
      exact ⟨_, rfl, hb.out, hU.below (Nat.le_refl _) fun _ h => h.elim⟩
end Go.Proofs.YtimblkkojcbipaaDoor
