/- slices.Grow of nothing, slices.Concat. -/
import Derived.Test.YtimblkkojcbipaaDoorFramesOf
import Derived.Lib.AppendZeros
namespace Go.Proofs.YtimblkkojcbipaaDoor
open Go Go.RowKit
theorem run_append_none {w : World} {a : Addr} {n c : Nat} (h : n ≤ c) (ty : TypeId) : (Builtin.append_ #[34, 34] ty #[.slice (some a) n c, .slice none 0 0]).run Tryd.prog w = .ok (.slice (some a) n c) w := by
  obtain ⟨i0, hi, hz0, hz1, hz2⟩ := info_parts byte_info
  simp [Builtin.append_, run_underlying Tryd.underlying34, sizeOf, typeInfo, hi, Builtin.lenOf, Builtin.firstCells, loadCells, storeCells, h]
theorem run_append_nones {w : World} (ty : TypeId) : (Builtin.append_ #[34, 34] ty #[.slice none 0 0, .slice none 0 0]).run Tryd.prog w = .ok (.slice none 0 0) w := by
  obtain ⟨i0, hi, hz0, hz1, hz2⟩ := info_parts byte_info
  simp [Builtin.append_, run_underlying Tryd.underlying34, sizeOf, typeInfo, hi, Builtin.lenOf, Builtin.firstCells]
theorem RowB.append_none {w : World} {B : Nat} {v : Value} {l : List UInt8} (h : RowB w B v l) (ty : TypeId) : (Builtin.append_ #[34, 34] ty #[v, .slice none 0 0]).run Tryd.prog w = .ok v w := by
  rcases h.2 with ⟨rfl, h0⟩ | ⟨g, cap, cur, rfl, hb, hg, hle, -⟩
  · exact run_append_nones ty
  · exact run_append_none hle ty
theorem wp_append_run {w w' : World} {ops : Array Oper} {rest : List Oper} {o : Oper} {a : Act} {Q : Exit → Act → World → Prop} (hgd : o.guard = none) (s x : Operand) (t1 t2 : TypeId) (ho : o.op = .call { callee := .builtin .append, args := #[s, x], argTypes := #[t1, t2] })
    (vs vx v' : Value) (hs : a.eval s = vs) (hx : a.eval x = vx) (hr : (Builtin.append_ #[t1, t2] o.type #[vs, vx]).run Tryd.prog w = .ok v' w') (h : wpList Tryd.prog ops Q rest (a.put o.dst v') w') : wpList Tryd.prog ops Q (o :: rest) a w := by
  refine wpList_plain hgd fun K hK => ?_
  unfold Oper.wp execOp
  simp only [ho, resolve, invoke, builtin, Sem.run_bind, Sem.run_pure, Result.andThen_ok, List.map_toArray, List.map_cons, List.map_nil, hs, hx, hr]
  exact hK _ _ h
set_option maxRecDepth 100000 in
theorem grow_any {w : World} (n : Nat) (hn : 0 < n) (hn2 : n ≤ 4294967296) : Calls Tryd.prog 84 #[.slice none 0 0, .int .i64 n] w fun e w' => ∃ v', e = .returned v' ∧ NonNil v' ∧ RowB w' w.heap.size v' [] ∧ Below w.heap.size w w' := by
  obtain ⟨i0, hi, hz0, hz1, hz2⟩ := info_parts byte_info
  have happ := Lib.run_append_nil_zeros (P := Tryd.prog) w 34 3 34 5 i0 (.int .u8 0) .i64 .i64 Tryd.underlying34 Tryd.underlying3 hi hz0 n hn (by omega) (by omega) (by rw [hz2]; omega)
  have hge := grownCap_ge w n 0 5
  have hle := grownCap_le_maxLen w n 0 5 (by unfold maxLen; omega)
  generalize grownCap w n 0 5 = cap2 at happ hge hle
  have hle' : cap2 ≤ 9223372036854775807 := by unfold maxLen at hle; exact hle
  have hZs : (Builtin.zeroCells (Value.int .u8 0).cells n ++ Builtin.zeroCells (Value.int .u8 0).cells (cap2 - n)).size = cap2 := by simp [size_zeroCells, Value.cells]; omega
  generalize (Builtin.zeroCells (Value.int .u8 0).cells n ++ Builtin.zeroCells (Value.int .u8 0).cells (cap2 - n)) = Z at happ hZs
  obtain ⟨W1, hW1⟩ : ∃ W1, W1 = w.drew.alloc (.cells Z 5) := ⟨_, rfl⟩
  have hblk : W1.heap[w.heap.size]? = some (.cells Z 5) := by rw [hW1]; exact heap_new w.drew _
  have hB : Below w.heap.size w W1 := by rw [hW1]; exact ((Below.refl _ w).drew).alloc (Nat.le_refl _) _
  rw [← hW1] at happ
  clear hi hz0 hz1 hz2 hW1
  replace hblk := hide hblk
  replace hB := hide hB
  replace hZs := hide hZs
  replace happ := hide happ
  go_enter Tryd.func84, Tryd.ntmps84
  go_wp2_with (at_builtin; refine wp_append_run rfl (.tmp 20) (.tmp 21) 34 3 rfl _ _ _ rfl rfl happ.out ?_)
  go_ret
  refine ⟨_, rfl, ⟨_, _, _, rfl⟩, ⟨rfl, .inr ⟨w.heap.size, cap2, Z, rfl, Nat.le_refl _, hblk.out, Nat.zero_le _, hle, by simpa using hZs.out, by simp [bv]⟩⟩, hB.out⟩
theorem flat_take (rs : List (List UInt8)) (k : Nat) (h : k < rs.length) : (rs.take (k + 1)).flatten = (rs.take k).flatten ++ rs[k] := by
  rw [List.take_succ_eq_append_getElem h, List.flatten_append]; simp
theorem flat_le (rs : List (List UInt8)) (k : Nat) : (rs.take k).flatten.length ≤ rs.flatten.length := by
  conv => rhs; rw [← List.take_append_drop k rs, List.flatten_append]
  simp
/-- Rows to be put together: some may be nil. -/
def RowsN (w : World) (S : Nat → Prop) (v : Value) (rs : List (List UInt8)) : Prop :=
  ∃ vs, vs.length = rs.length ∧ ArgV w S v vs ∧ ∀ (i : Nat) (u : Value) (r : List UInt8), vs[i]? = some u → rs[i]? = some r → ArgV w S u (bv r) ∧ (NonNil u ∨ u = .slice none 0 0)
set_option maxRecDepth 100000 in
set_option maxHeartbeats 1000000 in
theorem concat_any {w : World} {S : Nat → Prop} {v : Value} {rs : List (List UInt8)} (h : RowsN w S v rs) (hpos : 0 < rs.flatten.length) (hl : rs.flatten.length ≤ 4294967296) :
    Calls Tryd.prog 76 #[v] w fun e w' => ∃ v', e = .returned v' ∧ NonNil v' ∧ RowB w' w.heap.size v' rs.flatten ∧ Below w.heap.size w w' := by
  obtain ⟨vs, hvs, ha, hrs⟩ := h
  obtain ⟨A, c, rfl, hc1, hc2, hcells⟩ := ha
  rw [hvs] at hc1 ⊢
  have hc2' : c ≤ 9223372036854775807 := by unfold maxLen at hc2; exact hc2
  replace hrs := hide hrs
  replace hcells := hide hcells
  replace hc2 := hide hc2
  replace hvs := hide hvs
  obtain ⟨T, hT⟩ : ∃ T, T = rs.flatten.length := ⟨_, rfl⟩
  have hfl := flat_le rs
  rw [← hT] at hpos hl
  simp only [← hT] at hfl
  have hft := flat_take rs
  replace hT := hide hT
  replace hfl := hide hfl
  replace hft := hide hft
  have hat : ∀ k, k < rs.length → ∃ b o u, A = some ⟨b, o, none⟩ ∧ w.cell? ⟨b, o + k, none⟩ = some u ∧ ArgV w S u (bv (rs.getD k [])) ∧ (NonNil u ∨ u = .slice none 0 0) := by
    intro k hk
    obtain ⟨u, hu⟩ : ∃ u, vs[k]? = some u := ⟨vs[k]'(by rw [hvs.out]; exact hk), List.getElem?_eq_getElem _⟩
    obtain ⟨b, o, rfl, hS, hc⟩ : ∃ b o, A = some ⟨b, o, none⟩ ∧ S b ∧ w.cell? ⟨b, o + k, none⟩ = some u := by
      rcases hcells.out with h | ⟨b, o, h1, h2, h3⟩
      · rw [h] at hu; simp at hu
      · exact ⟨b, o, h1, h2, h3 k u hu⟩
    have hru := hrs.out k u (rs.getD k []) hu (by rw [List.getD_eq_getElem?_getD, List.getElem?_eq_getElem hk]; rfl)
    exact ⟨b, o, u, rfl, hc, hru.1, hru.2⟩
  replace hat := hide hat
  go_enter Tryd.func76, Tryd.ntmps76
  go_wp2_with fail
  go_loopw [3, 11] (fun z i wr => ∃ k : Nat, k ≤ rs.length ∧ i = .int .i64 k ∧ z = .int .i64 ((rs.take k).flatten.length : Nat) ∧ wr = w) (fun _ i _ => rs.length - (intOf i).toNat)
  case atStart => exact ⟨0, Nat.zero_le _, rfl, by simp, rfl⟩
  case round =>
    obtain ⟨k, hk, rfl, rfl, hwr⟩ := hrel
    obtain rfl : w = wr := hwr.symm
    rcases Nat.lt_or_ge k rs.length with hlt | hge
    · obtain ⟨b, o, u, rfl, hc, hu, -⟩ := hat.out k hlt
      obtain ⟨A2, c2, rfl, -⟩ := hu
      have hf1 := hfl.out (k + 1)
      have hf2 := hft.out k hlt
      have hget : rs.getD k [] = rs[k] := by rw [List.getD_eq_getElem?_getD, List.getElem?_eq_getElem hlt]; rfl
      rw [hget, bv_len] at hc
      rw [hf2, List.length_append] at hf1
      obtain ⟨n, hn⟩ : ∃ n, n = (rs.take k).flatten.length := ⟨_, rfl⟩
      obtain ⟨m, hm⟩ : ∃ m, m = rs[k].length := ⟨_, rfl⟩
      rw [← hn, ← hm] at hf1
      rw [← hm] at hc
      rw [← hn]
      replace hn := hide hn
      replace hm := hide hm
      replace hf2 := hide hf2
      clear hget
      go_wp2_with fail
      go_roundw
      case rel =>
        refine ⟨k + 1, hlt, by go_num, ?_, by simp⟩
        rw [hf2.out, List.length_append, ← hn.out, ← hm.out]
        go_num
      case measure => simp [intOf]; omega
    · obtain rfl : k = rs.length := by omega
      clear hge
      rw [List.take_length, ← hT.out]
      go_wp2_with fail
      refine (grow_any T hpos hl).mono ?_
      rintro e w1 ⟨v1, rfl, hnn1, h1, hb1⟩
      have hu1 : Upd (fun _ => False) w w1 := .of_below _ hb1
      have hsz := hu1.size
      obtain ⟨A1, n1, c1, rfl⟩ := h1.slice
      replace h1 := hide h1
      replace hu1 := hide hu1
      clear hb1 hnn1
      go_wp2_with fail
      go_loopw [6, 27] (fun z i wx => ∃ k : Nat, k ≤ rs.length ∧ i = .int .i64 k ∧ RowB wx w.heap.size z (rs.take k).flatten ∧ Upd (fun _ => False) w wx) (fun _ i _ => rs.length - (intOf i).toNat)
      case atStart => exact ⟨0, Nat.zero_le _, rfl, by simpa using h1.out, hu1.out⟩
      case round =>
        obtain ⟨k, hk, rfl, hb, hU⟩ := hrel
        obtain ⟨A2, n2, c2, rfl⟩ := hb.slice
        replace hb := hide hb
        replace hU := hide hU
        rcases Nat.lt_or_ge k rs.length with hlt | hge
        · obtain ⟨b, o, u, rfl, hc, hu, hnu⟩ := hat.out k hlt
          have hf1 := hfl.out (k + 1)
          have hf2 := hft.out k hlt
          have hget : rs.getD k [] = rs[k] := by rw [List.getD_eq_getElem?_getD, List.getElem?_eq_getElem hlt]; rfl
          rw [hget] at hu
          have hc' := hU.out.cell hc id
          have hu' := hu.upd hU.out fun _ _ => id
          have hud := ArgV.mono' hu' hu
          have hdis : ∀ j, (S j ∧ j < w.heap.size) → ¬ Own (.slice A2 n2 c2) j := fun j hj ho => by have := (hb.out.own_ge ho).1; omega
          rw [hf2, List.length_append] at hf1
          replace hf2 := hide hf2
          replace hu := hide hu
          replace hud := hide hud
          replace hu' := hide hu'
          replace hdis := hide hdis
          clear hc hget
          rcases hnu with hnu | rfl
          · obtain ⟨ad, nu, cu, rfl⟩ := id hnu
            replace hnu := hide hnu
            go_wp2_with (at_builtin; refine wp_cat rfl (.tmp 31) (.tmp 32) rfl w.heap.size _ (rs.take k).flatten rfl hb.out _ _ rs[k] rfl hud.out hnu.out ?_ ?_ ?_)
            · omega
            · exact hU.out.size
            intro v5 w5 h5 m5
            replace h5 := hide h5
            replace m5 := hide m5
            go_wp2_with fail
            go_roundw
            case rel =>
              refine ⟨k + 1, hlt, by go_num, by rw [hf2.out]; exact h5.out, ?_⟩
              exact hU.out.trans m5.out.1 fun j hj ho => by have := (hb.out.own_ge ho).1; omega
            case measure => simp [intOf]; omega
          · have hnil : rs[k] = [] := by
              obtain ⟨_, _, e, _⟩ := hu.out
              injection e with _ e _
              rw [bv_len] at e
              exact List.length_eq_zero_iff.1 e.symm
            replace hnil := hide hnil
            have hap := hb.out.append_none 34
            replace hap := hide hap
            go_wp2_with (at_builtin; refine wp_append_run rfl (.tmp 31) (.tmp 32) 34 34 rfl _ _ _ rfl rfl hap.out ?_)
            go_roundw
            case rel =>
              refine ⟨k + 1, hlt, by go_num, by rw [hf2.out, hnil.out, List.append_nil]; exact hb.out, hU.out⟩
            case measure => simp [intOf]; omega
        · obtain rfl : k = rs.length := by omega
          clear hge
          have hfin := hb.out
          rw [List.take_length] at hfin
          have hnn := hfin.nonNil (by have := hT.out; omega)
          replace hfin := hide hfin
          replace hnn := hide hnn
          go_wp2_with fail
          go_ret
          exact ⟨_, rfl, hnn.out, hfin.out, hU.out.below (Nat.le_refl _) fun _ h => h.elim⟩
end Go.Proofs.YtimblkkojcbipaaDoor
