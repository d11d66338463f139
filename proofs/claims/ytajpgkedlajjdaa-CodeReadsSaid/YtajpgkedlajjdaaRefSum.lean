/- Walks of the document's writer: alarms, summaries. -/
import Derived.Test.YtajpgkedlajjdaaData
namespace Go.Proofs.Ytajpgkedlajjdaa
open Go.RowKit

theorem alarmsB_snoc (al : List AlarmD) (k : Nat) (h : k < al.length) : alarmsB (al.take (k + 1)) = alarmsB (al.take k) ++ (num (zig al[k].pos) ++ num (zig al[k].kind)) := by
  unfold alarmsB; rw [List.take_succ_eq_append_getElem h, List.map_append, List.flatten_append]; simp [AlarmD.bytes]
theorem modB_snoc (al : List NamedD) (k : Nat) (h : k < al.length) : modB (al.take (k + 1)) = modB (al.take k) ++ (text al[k].name ++ al[k].v.bytes) := by
  unfold modB; rw [List.take_succ_eq_append_getElem h, List.map_append, List.flatten_append]; simp [NamedD.bytes]
theorem ok_len {n : Int} (h : Fits n) : (num (zig n)).length ≤ 10 := num_len10 (zig_lt h.1 h.2)
theorem alarmsB_le (al : List AlarmD) (h : ∀ a ∈ al, a.ok) : ∀ k, (alarmsB (al.take k)).length ≤ 20 * k := by
  intro k
  induction k with
  | zero => simp [alarmsB]
  | succ k ih =>
    by_cases hk : k < al.length
    · rw [alarmsB_snoc al k hk, List.length_append, List.length_append]
      have := ok_len (h _ (List.getElem_mem hk)).1
      have := ok_len (h _ (List.getElem_mem hk)).2
      omega
    · rw [List.take_of_length_le (by omega)] at ih ⊢; omega
theorem ival_len {v : IvalD} (h : v.ok) : v.bytes.length ≤ 21 := by
  unfold IvalD.bytes
  have := ok_len h.1
  have := ok_len h.2
  split
  · simp only [List.length_cons, List.length_append]; omega
  · simp
theorem text_le (s : ByteArray) (h : s.size < 18446744073709551616) : (text s).length ≤ s.size + 10 := by
  unfold text; rw [List.length_append, toList_len]; have := num_len10 h; omega
theorem modB_le (al : List NamedD) (h : ∀ a ∈ al, a.v.ok) (hs : ∀ a ∈ al, a.name.size ≤ 50) : ∀ k, (modB (al.take k)).length ≤ 81 * k := by
  intro k
  induction k with
  | zero => simp [modB]
  | succ k ih =>
    by_cases hk : k < al.length
    · rw [modB_snoc al k hk, List.length_append, List.length_append]
      have h1 := ival_len (h _ (List.getElem_mem hk))
      have h2 := hs _ (List.getElem_mem hk)
      have h3 := text_le al[k].name (by omega)
      omega
    · rw [List.take_of_length_le (by omega)] at ih ⊢; omega

set_option maxRecDepth 100000 in
set_option maxHeartbeats 1600000 in
theorem refAlarms_any (B : Nat) (F S : Nat → Prop) (l : List UInt8) (v x : Value) (al : List AlarmD) (w : World) (hx : ArgN w S x al.length (al.map AlarmD.cells).flatten) (hS : ∀ k, S k → ¬ F k) (hok : ∀ a ∈ al, a.ok) (hn : al.length ≤ 10) (hA : AppIn w B F v l) (hB : B ≤ w.heap.size) (hlen : l.length + 300 ≤ 70368744177664) :
    Calls Try.prog 60 #[v, x] w fun e w' => ∃ v', e = .returned v' ∧ RRow w F w' B v' (l ++ num al.length ++ alarmsB al) := by
  obtain ⟨A, n0, c, rfl⟩ := hA.slice
  obtain ⟨Ax, cx, rfl, hnx⟩ := hx.slice
  have hN := hide (refNum_any B F l _ al.length w hA (by omega) hB (by omega))
  have hnl := hide (num_len10 (n := al.length) (by omega))
  have hall := hide (alarmsB_le al hok)
  unfold maxLen at hnx
  replace hx := hide hx
  replace hok := hide hok
  replace hA := hide hA
  replace hB := hide hB
  replace hlen := hide hlen
  go_enter Try.func60, Try.ntmps60
  go_wp2_with fail
  refine hN.out.mono ?_
  rintro e w1 ⟨v1, rfl, h1⟩
  obtain ⟨A1, n1, k1, rfl⟩ := h1.1.slice
  replace h1 := hide h1
  go_wp2_with fail
  go_loopw [0, 5] (fun b i wr => ∃ (k : Nat) (A1 : Option Addr) (n1 k1 : Nat), k ≤ al.length ∧ b = .slice A1 n1 k1 ∧ i = .int .i64 k ∧ RRow w F wr B (.slice A1 n1 k1) (l ++ num al.length ++ alarmsB (al.take k))) (fun _ i _ => al.length - (intOf i).toNat)
  case atStart => exact ⟨0, _, _, _, Nat.zero_le _, rfl, rfl, by simpa [alarmsB] using h1.out⟩
  case round =>
    clear h1 hN hA
    obtain ⟨k, A1, n1, k1, hk, rfl, rfl, hR⟩ := hrel
    by_cases hlt : k < al.length
    · have hsn := alarmsB_snoc al k hlt
      have hax := hok.out _ (List.getElem_mem hlt)
      have hxr := hx.out.upd hR.2.1 hS
      obtain ⟨b, o, rfl, hb, hcell⟩ := hxr.get (k := 2) (fun _ => rfl) (by decide) hlt
      have hcA := hcell 0 _ (by decide) rfl
      have hcB := hcell 1 _ (by decide) rfl
      have hl1 := ok_len hax.1
      have hl2 := ok_len hax.2
      have hblt : b < w.heap.size := by
        obtain ⟨b', o', e, -, hc'⟩ := hx.out.get (k := 2) (fun _ => rfl) (by decide) hlt
        have e2 := Option.some.inj e
        injection e2 with e3 _ _
        rw [e3]
        exact World.block_lt_of_cell? w _ (hc' 0 _ (by decide) rfl)
      have hnf : ¬ FromOn (fun k => Value.ownBlock (.slice A1 n1 k1) = some k) wr.heap.size b := by
        have := hR.2.1.size
        rintro (h | h)
        · rcases hR.2.2 b h with h1 | h1
          · exact hS b hb h1
          · omega
        · omega
      have hB1 := hide (Nat.le_trans hB.out hR.2.1.size)
      have hal1 := hide (hall.out k)
      obtain ⟨xa, xb⟩ := hax.1
      obtain ⟨xc, xd⟩ := hax.2
      clear hcell hxr hax
      generalize al[k].pos = lo at *
      generalize al[k].kind = hi at *
      obtain ⟨L0, hL0⟩ : ∃ L, L = l ++ num al.length ++ alarmsB (al.take k) := ⟨_, rfl⟩
      obtain ⟨L1, hL1⟩ : ∃ L, L = L0 ++ num (zig lo) := ⟨_, rfl⟩
      obtain ⟨L2, hL2⟩ : ∃ L, L = L1 ++ num (zig hi) := ⟨_, rfl⟩
      have hk0 : L0.length + 20 ≤ 70368744177664 := by have := hlen.out; have := hal1.out; have := hnl.out; rw [hL0, List.length_append, List.length_append]; omega
      have hk1 : L1.length + 10 ≤ 70368744177664 := by rw [hL1, List.length_append]; omega
      replace hk0 := hide (show L0.length + 10 ≤ 70368744177664 by omega)
      rw [← hL0] at hR
      replace hk1 := hide hk1
      replace hL0 := hide hL0
      replace hL1 := hide hL1
      replace hL2 := hide hL2
      replace hR := hide hR
      replace hnf := hide hnf
      replace hsn := hide hsn
      have hidx : o + k * 2 = o + (2 * k + 0) := by omega
      have hidx1 : o + k * 2 + 1 = o + (2 * k + 1) := by omega
      rw [← hidx] at hcA
      rw [← hidx1] at hcB
      replace hidx := hide hidx
      replace hidx1 := hide hidx1
      replace hcA := hide hcA
      replace hcB := hide hcB
      go_wp2_with fail
      refine wp_region_flow (FromOn (fun k => Value.ownBlock (.slice A1 n1 k1) = some k) wr.heap.size) (factAt [(fun v _ => v = (.slice A1 n1 k1)), (fun v _ => v = (.slice (some ⟨b, o, none⟩) al.length cx)), (fun v _ => v = (.int .i64 k)), (fun v _ => v = (.pointer (some ⟨b, o + k * 2, none⟩))), (fun v _ => v = (.pointer (some ⟨b, o + k * 2, none⟩))), (fun v _ => v = (.int .i64 lo)), (fun _ _ => True), (fun v _ => v = (.slice (some ⟨b, o, none⟩) al.length cx)), (fun v _ => v = (.int .i64 k)), (fun v _ => v = (.pointer (some ⟨b, o + k * 2, none⟩))), (fun v _ => v = (.pointer (some ⟨b, o + k * 2 + 1, none⟩))), (fun v _ => v = (.int .i64 hi)), (fun _ _ => True), (fun _ _ => True)]) [none, none, none, none, none, none, some (fun v w => RowIn w B (FromOn (fun k => Value.ownBlock (.slice A1 n1 k1) = some k) wr.heap.size) v (L1)), none, none, none, none, none, some (fun v w => RowIn w B (FromOn (fun k => Value.ownBlock (.slice A1 n1 k1) = some k) wr.heap.size) v (L2)), some (fun v w => RowIn w B (FromOn (fun k => Value.ownBlock (.slice A1 n1 k1) = some k) wr.heap.size) v (L2))] (fun w => RowIn w B (FromOn (fun k => Value.ownBlock (.slice A1 n1 k1) = some k) wr.heap.size) (.slice A1 n1 k1) L0) (by kernel_rfl) (fkept_at ⟨FKept.eq _, FKept.eq _, FKept.eq _, FKept.eq _, FKept.eq _, FKept.eq _, FKept.triv, FKept.eq _, FKept.eq _, FKept.eq _, FKept.eq _, FKept.eq _, FKept.triv, FKept.triv, trivial⟩) (fun w w' h hb => rowIn_kept _ w w' h hb) ⟨rowIn_kept, rowIn_kept, rowIn_kept, trivial⟩ (by kernel_rfl) (by kernel_rfl) (by kernel_rfl) (by kernel_rfl) (Nat.le_of_ble_eq_true (by kernel_rfl)) ?_ ⟨?_, ?_, ?_, ?_, ?_, ?_, ?_, ?_, ?_, ?_, ?_, ?_, ?_, ?_, trivial⟩ ?_
      · exact ⟨hR.out.1, fun _ h => .inl h⟩
      · intro T w Q hu hs hv hw hd
        have hx0 : T.getD 0 undef = (.slice A1 n1 k1) := hw 0 (by kernel_rfl)
        refine .inl ⟨wanted_none rfl, ?_⟩
        clear hd hv hu hs hw
        go_simp
        exact ⟨_, rfl, DstOk.some rfl, Below.refl _ _, rfl⟩
      · intro T w Q hu hs hv hw hd
        have hx1 : T.getD 1 undef = (.slice (some ⟨b, o, none⟩) al.length cx) := hv 1 (by kernel_rfl)
        refine .inl ⟨wanted_none rfl, ?_⟩
        clear hd hv hu hs hw
        go_simp
        exact ⟨_, rfl, DstOk.some rfl, Below.refl _ _, rfl⟩
      · intro T w Q hu hs hv hw hd
        have hx5 : T.getD 5 undef = (.int .i64 k) := hv 5 (by kernel_rfl)
        refine .inl ⟨wanted_none rfl, ?_⟩
        clear hd hv hu hs hw
        go_simp
        exact ⟨_, rfl, DstOk.some rfl, Below.refl _ _, rfl⟩
      · intro T w Q hu hs hv hw hd
        have hx18 : T.getD 18 undef = (.slice (some ⟨b, o, none⟩) al.length cx) := Deps.at 1 hd (by kernel_rfl)
        have hx19 : T.getD 19 undef = (.int .i64 k) := Deps.at 2 hd (by kernel_rfl)
        refine .inl ⟨wanted_none rfl, ?_⟩
        clear hd hv hu hs hw
        go_simp
        exact ⟨_, rfl, DstOk.some rfl, Below.refl _ _, rfl⟩
      · intro T w Q hu hs hv hw hd
        have hx20 : T.getD 20 undef = (.pointer (some ⟨b, o + k * 2, none⟩)) := Deps.at 3 hd (by kernel_rfl)
        refine .inl ⟨wanted_none rfl, ?_⟩
        clear hd hv hu hs hw
        go_simp
        exact ⟨_, rfl, DstOk.some rfl, Below.refl _ _, rfl⟩
      · intro T w Q hu hs hv hw hd
        have hx21 : T.getD 21 undef = (.pointer (some ⟨b, o + k * 2, none⟩)) := Deps.at 4 hd (by kernel_rfl)
        refine .inl ⟨wanted_none rfl, ?_⟩
        have hcc := hu.cell hcA.out hnf.out
        clear hd hv hu hs hw
        go_simp
        exact ⟨_, rfl, DstOk.some rfl, Below.refl _ _, rfl⟩
      · intro T w Q hu hs hv hw hd hc0
        have hc : (fun w => RowIn w B (FromOn (fun k => Value.ownBlock (.slice A1 n1 k1) = some k) wr.heap.size) (.slice A1 n1 k1) L0) w := hc0
        have hx17 : T.getD 17 undef = (.slice A1 n1 k1) := Deps.at 0 hd (by kernel_rfl)
        have hx22 : T.getD 22 undef = (.int .i64 lo) := Deps.at 5 hd (by kernel_rfl)
        replace hc := hide hc
        refine .inl ⟨wanted_none rfl, ?_⟩
        have hN := refInt_any B _ L0 _ lo w (RowIn.app hc.out) xa xb (Nat.le_trans hB1.out hu.size) hk0.out
        rw [← hL1.out] at hN
        replace hN := hide hN
        clear hd hv hs hw
        go_simp
        refine hN.out.mono ?_
        rintro e w2 ⟨v2, rfl, h2⟩
        have h3 := RRow.into hc.out h2 hu.size
        exact ⟨_, rfl, DstOk.some rfl, h3.1, trivial, h3.2⟩
      · intro T w Q hu hs hv hw hd
        have hx1 : T.getD 1 undef = (.slice (some ⟨b, o, none⟩) al.length cx) := hv 1 (by kernel_rfl)
        refine .inl ⟨wanted_none rfl, ?_⟩
        clear hd hv hu hs hw
        go_simp
        exact ⟨_, rfl, DstOk.some rfl, Below.refl _ _, rfl⟩
      · intro T w Q hu hs hv hw hd
        have hx5 : T.getD 5 undef = (.int .i64 k) := hv 5 (by kernel_rfl)
        refine .inl ⟨wanted_none rfl, ?_⟩
        clear hd hv hu hs hw
        go_simp
        exact ⟨_, rfl, DstOk.some rfl, Below.refl _ _, rfl⟩
      · intro T w Q hu hs hv hw hd
        have hx24 : T.getD 24 undef = (.slice (some ⟨b, o, none⟩) al.length cx) := Deps.at 7 hd (by kernel_rfl)
        have hx25 : T.getD 25 undef = (.int .i64 k) := Deps.at 8 hd (by kernel_rfl)
        refine .inl ⟨wanted_none rfl, ?_⟩
        clear hd hv hu hs hw
        go_simp
        exact ⟨_, rfl, DstOk.some rfl, Below.refl _ _, rfl⟩
      · intro T w Q hu hs hv hw hd
        have hx26 : T.getD 26 undef = (.pointer (some ⟨b, o + k * 2, none⟩)) := Deps.at 9 hd (by kernel_rfl)
        refine .inl ⟨wanted_none rfl, ?_⟩
        clear hd hv hu hs hw
        go_simp
        exact ⟨_, rfl, DstOk.some rfl, Below.refl _ _, rfl⟩
      · intro T w Q hu hs hv hw hd
        have hx27 : T.getD 27 undef = (.pointer (some ⟨b, o + k * 2 + 1, none⟩)) := Deps.at 10 hd (by kernel_rfl)
        refine .inl ⟨wanted_none rfl, ?_⟩
        have hcc := hu.cell hcB.out hnf.out
        clear hd hv hu hs hw
        go_simp
        exact ⟨_, rfl, DstOk.some rfl, Below.refl _ _, rfl⟩
      · intro T w Q hu hs hv hw hd hc0
        have hc : (fun (v : Value) (w : World) => RowIn w B (FromOn (fun k => Value.ownBlock (.slice A1 n1 k1) = some k) wr.heap.size) v (L1)) (T.getD 23 undef) w := hc0
        have f23 : (fun (v : Value) (w : World) => True) (T.getD 23 undef) w := Deps.at 6 hd (by kernel_rfl)
        generalize hx23 : T.getD 23 undef = x23 at f23 hc
        replace f23 := hide f23
        have hx28 : T.getD 28 undef = (.int .i64 hi) := Deps.at 11 hd (by kernel_rfl)
        replace hc := hide hc
        refine .inl ⟨wanted_none rfl, ?_⟩
        have hN := refInt_any B _ L1 _ hi w (RowIn.app hc.out) xc xd (Nat.le_trans hB1.out hu.size) hk1.out
        rw [← hL2.out] at hN
        replace hN := hide hN
        clear hd hv hs hw
        go_simp
        refine hN.out.mono ?_
        rintro e w2 ⟨v2, rfl, h2⟩
        have h3 := RRow.into hc.out h2 hu.size
        exact ⟨_, rfl, DstOk.some rfl, h3.1, trivial, h3.2⟩
      · intro T w Q hu hs hv hw hd hc0
        have hc : (fun (v : Value) (w : World) => RowIn w B (FromOn (fun k => Value.ownBlock (.slice A1 n1 k1) = some k) wr.heap.size) v (L2)) (T.getD 29 undef) w := hc0
        have f29 : (fun (v : Value) (w : World) => True) (T.getD 29 undef) w := Deps.at 12 hd (by kernel_rfl)
        generalize hx29 : T.getD 29 undef = x29 at f29 hc
        replace f29 := hide f29
        replace hc := hide hc
        refine .inl ⟨wanted_none rfl, ?_⟩
        clear hd hv hu hs hw hc0
        go_simp
        exact ⟨_, rfl, DstOk.some rfl, .refl _ _, trivial, hc.out⟩
      · intro T w hu hs hv hf hcur
        have hcur1 : (fun (v : Value) (w : World) => RowIn w B (FromOn (fun k => Value.ownBlock (.slice A1 n1 k1) = some k) wr.heap.size) v (L2)) (T.getD 0 undef) w := hcur
        replace hcur1 := hcur1
        have hT : T = #[T.getD 0 undef, T.getD 1 undef, T.getD 2 undef, T.getD 3 undef, T.getD 4 undef, T.getD 5 undef, T.getD 6 undef, T.getD 7 undef, T.getD 8 undef, T.getD 9 undef, T.getD 10 undef, T.getD 11 undef, T.getD 12 undef, T.getD 13 undef, T.getD 14 undef, T.getD 15 undef, T.getD 16 undef, T.getD 17 undef, T.getD 18 undef, T.getD 19 undef, T.getD 20 undef, T.getD 21 undef, T.getD 22 undef, T.getD 23 undef, T.getD 24 undef, T.getD 25 undef, T.getD 26 undef, T.getD 27 undef, T.getD 28 undef, T.getD 29 undef, T.getD 30 undef] := expl hs
        rw [hT]
        clear hT
        rw [show T.getD 1 undef = (.slice (some ⟨b, o, none⟩) al.length cx) from hv 1 (by kernel_rfl)]
        rw [hv 2 (by kernel_rfl)]
        rw [hv 3 (by kernel_rfl)]
        rw [hv 4 (by kernel_rfl)]
        rw [show T.getD 5 undef = (.int .i64 k) from hv 5 (by kernel_rfl)]
        rw [hv 6 (by kernel_rfl)]
        rw [hv 7 (by kernel_rfl)]
        rw [hv 8 (by kernel_rfl)]
        rw [hv 9 (by kernel_rfl)]
        rw [hv 10 (by kernel_rfl)]
        rw [hv 11 (by kernel_rfl)]
        rw [hv 12 (by kernel_rfl)]
        rw [hv 13 (by kernel_rfl)]
        rw [hv 14 (by kernel_rfl)]
        rw [hv 15 (by kernel_rfl)]
        rw [hv 16 (by kernel_rfl)]
        rw [show T.getD 17 undef = (.slice A1 n1 k1) from hf 0 (by decide)]
        rw [show T.getD 18 undef = (.slice (some ⟨b, o, none⟩) al.length cx) from hf 1 (by decide)]
        rw [show T.getD 19 undef = (.int .i64 k) from hf 2 (by decide)]
        rw [show T.getD 20 undef = (.pointer (some ⟨b, o + k * 2, none⟩)) from hf 3 (by decide)]
        rw [show T.getD 21 undef = (.pointer (some ⟨b, o + k * 2, none⟩)) from hf 4 (by decide)]
        rw [show T.getD 22 undef = (.int .i64 lo) from hf 5 (by decide)]
        rw [show T.getD 24 undef = (.slice (some ⟨b, o, none⟩) al.length cx) from hf 7 (by decide)]
        rw [show T.getD 25 undef = (.int .i64 k) from hf 8 (by decide)]
        rw [show T.getD 26 undef = (.pointer (some ⟨b, o + k * 2, none⟩)) from hf 9 (by decide)]
        rw [show T.getD 27 undef = (.pointer (some ⟨b, o + k * 2 + 1, none⟩)) from hf 10 (by decide)]
        rw [show T.getD 28 undef = (.int .i64 hi) from hf 11 (by decide)]
        rw [hv 30 (by kernel_rfl)]
        clear hf hs hv hcur
        simp only [getD_toArray, List.getD_cons_succ, List.getD_cons_zero]
        generalize T.getD 0 undef = y0 at hcur1 ⊢
        generalize T.getD 23 undef = y23
        generalize T.getD 29 undef = y29
        clear T
        obtain ⟨A3, n3, k3, rfl⟩ := hcur1.1.slice
        replace hcur1 := hide hcur1
        go_wp2_with fail
        go_roundw
        case rel =>
          refine ⟨k + 1, A3, n3, k3, by omega, rfl, by go_num, ?_⟩
          rw [hsn.out, ← List.append_assoc, ← List.append_assoc, ← hL0.out, ← hL1.out, ← hL2.out]
          refine hR.out.trans ⟨hcur1.out.1, hu.mono fun k hk hf => ?_, hcur1.out.2⟩
          rcases hf with hf | hf
          · exact hf
          · omega
        case measure => simp [intOf]; omega
    · obtain rfl : k = al.length := by omega
      rw [List.take_length] at hR
      replace hR := hide hR
      go_wp2_with fail
      go_ret
      exact ⟨_, rfl, hR.out⟩

theorem ArgN.lt {w : World} {S : Nat → Prop} {v : Value} {n : Nat} {xs : List Value} (h : ArgN w S v n xs) : ArgN w (fun k => S k ∧ k < w.heap.size) v n xs := h.mono fun _ hk hs => ⟨hs, hk⟩
theorem RRow.enter {w w' : World} {F : Nat → Prop} {B n : Nat} {v' : Value} {l' : List UInt8} (h : RRow w F w' B v' l') (hn : n ≤ w.heap.size) : Upd (FromOn F n) w w' ∧ RowIn w' B (FromOn F n) v' l' :=
  ⟨h.2.1.mono fun k _ hk => .inl hk, h.1, fun k hk => by
    rcases h.2.2 k hk with h1 | h1
    · exact .inl h1
    · right; omega⟩
theorem RowIn.lt {w : World} {B : Nat} {F : Nat → Prop} {v : Value} {l : List UInt8} (h : RowIn w B F v l) : ∀ k, v.ownBlock = some k → k < w.heap.size := fun k hk => (World.ownsRow.lt h.1 k hk).2
theorem RowIn.out_ {w w' : World} {B n : Nat} {F : Nat → Prop} {v : Value} {l : List UInt8} (h : RowIn w' B (FromOn F n) v l) (hu : Upd (FromOn F n) w w') (hn : w.heap.size ≤ n) : RRow w F w' B v l :=
  ⟨h.1, hu.mono fun k hk hf => by
    rcases hf with hf | hf
    · exact hf
    · omega, fun k hk => by
    rcases h.2 k hk with h1 | h1
    · exact .inl h1
    · right; omega⟩

set_option maxRecDepth 100000 in
set_option maxHeartbeats 3200000 in
theorem refSummary_any (B : Nat) (F S : Nat → Prop) (l : List UInt8) (v xa xm : Value) (s : SumD) (w : World) (hxa : ArgN w S xa s.alarms.length (s.alarms.map AlarmD.cells).flatten) (hxm : ArgN w S xm s.mod.length (s.mod.map NamedD.cells).flatten) (hS : ∀ k, S k → ¬ F k) (hF : ∀ k, F k → k < w.heap.size) (hok : s.ok) (hl : s.light)
    (hA : AppIn w B F v l) (hB : B ≤ w.heap.size) (hlen : l.length + 2000 ≤ 70368744177664) :
    Calls Try.prog 41 #[v, .agg #[xa, .bool s.ends, .bool s.ret.some, .int .i64 s.ret.lo, .int .i64 s.ret.hi, xm]] w fun e w' => ∃ v', e = .returned v' ∧ RRow w F w' B v' (l ++ s.bytes) := by
  obtain ⟨al, ends, ⟨sm, lo, hi⟩, md⟩ := s
  obtain ⟨ok1, ok2, ok3⟩ := hok
  obtain ⟨li1, li2, li3⟩ := hl
  obtain ⟨A, n0, c, rfl⟩ := hA.slice
  obtain ⟨Aa, ca, rfl, hna⟩ := hxa.slice
  obtain ⟨Am, cm, rfl, hnm⟩ := hxm.slice
  have hal := hide (alarmsB_le al ok1 al.length)
  have hml := hide (modB_le md ok3 li3)
  have hil := hide (ival_len ok2)
  have hn1 := hide (num_len10 (n := al.length) (by simp at li1; omega))
  have hn2 := hide (num_len10 (n := md.length) (by simp at li2; omega))
  simp only at hxa hxm li1 li2 li3 hna hnm
  unfold maxLen at hna hnm
  obtain ⟨L1, hL1⟩ : ∃ L, L = l ++ num al.length ++ alarmsB al := ⟨_, rfl⟩
  obtain ⟨L2, hL2⟩ : ∃ L, L = L1 ++ [bit ends] := ⟨_, rfl⟩
  obtain ⟨L3, hL3⟩ : ∃ L, L = L2 ++ IvalD.bytes ⟨sm, lo, hi⟩ := ⟨_, rfl⟩
  obtain ⟨L4, hL4⟩ : ∃ L, L = L3 ++ num md.length := ⟨_, rfl⟩
  have hk1 : L1.length ≤ l.length + 210 := by have := hn1.out; have := hal.out; rw [List.take_length] at this; rw [hL1, List.length_append, List.length_append]; omega
  have hk2 : L2.length ≤ l.length + 211 := by rw [hL2, List.length_append, List.length_singleton]; omega
  have hk3 : L3.length ≤ l.length + 232 := by have := hil.out; rw [hL3, List.length_append]; simp only at this; omega
  have hk4 : L4.length ≤ l.length + 242 := by have := hn2.out; rw [hL4, List.length_append]; omega
  replace hk1 := hide hk1
  replace hk2 := hide hk2
  replace hk3 := hide hk3
  replace hk4 := hide hk4
  replace hL1 := hide hL1
  replace hL2 := hide hL2
  replace hL3 := hide hL3
  replace hL4 := hide hL4
  clear hal hil hn1 hn2
  have hxa1 := hide hxa.lt
  have hxm1 := hide hxm.lt
  clear hxa hxm
  replace hA := hide hA
  replace hB := hide hB
  replace hlen := hide hlen
  replace ok1 := hide ok1
  replace ok2 := hide ok2
  replace ok3 := hide ok3
  replace li3 := hide li3
  go_enter Try.func41, Try.ntmps41
  go_wp2_with fail
  generalize hbx : Obj.cells #[.slice Aa al.length ca, .bool ends, .bool sm, .int .i64 lo, .int .i64 hi, .slice Am md.length cm] 35 = bx at *
  have hbox : (w.alloc bx).heap[w.heap.size]? = some (Obj.cells #[.slice Aa al.length ca, .bool ends, .bool sm, .int .i64 lo, .int .i64 hi, .slice Am md.length cm] 35) := by rw [hbx]; exact heap_new w bx
  have hA1 := hA.out.alloc bx
  have hu0 := hide (Below.refl w.heap.size w |>.alloc (Nat.le_refl _) bx)
  have hxa2 := hide (hxa1.out.upd (.of_below (fun _ => False) hu0.out) fun _ _ => id)
  have hxm2 := hide (hxm1.out.upd (.of_below (fun _ => False) hu0.out) fun _ _ => id)
  have hsz : (w.alloc bx).heap.size = w.heap.size + 1 := by simp
  clear hxa1 hxm1 hA
  generalize hw1 : w.alloc bx = w1 at *
  generalize hg : w.heap.size = g at *
  clear hbx
  have hc0 : w1.cell? ⟨g, 0, none⟩ = some (.slice Aa al.length ca) := by rw [cell_at hbox]; rfl
  have hc1 : w1.cell? ⟨g, 1, none⟩ = some (.bool ends) := by rw [cell_at hbox]; rfl
  have hc2 : w1.cell? ⟨g, 2, none⟩ = some (.bool sm) := by rw [cell_at hbox]; rfl
  have hc3 : w1.cell? ⟨g, 3, none⟩ = some (.int .i64 lo) := by rw [cell_at hbox]; rfl
  have hc4 : w1.cell? ⟨g, 4, none⟩ = some (.int .i64 hi) := by rw [cell_at hbox]; rfl
  have hc5 : w1.cell? ⟨g, 5, none⟩ = some (.slice Am md.length cm) := by rw [cell_at hbox]; rfl
  have hnf : ¬ FromOn F w1.heap.size g := by
    rintro (h | h)
    · have := hF _ h; omega
    · omega
  have hS1 : ∀ k, S k ∧ k < g → ¬ FromOn F w1.heap.size k := by
    rintro k ⟨hk, hk2⟩ (h | h)
    · exact hS k hk h
    · omega
  have hB1 : B ≤ w1.heap.size := by have := hB.out; omega
  replace hbox := hide hbox
  replace hnf := hide hnf
  replace hS1 := hide hS1
  replace hB1 := hide hB1
  replace hA1 := hide hA1
  replace hsz := hide hsz
  replace hw1 := hide hw1
  replace hg := hide hg
  replace hc0 := hide hc0
  replace hc1 := hide hc1
  replace hc2 := hide hc2
  replace hc3 := hide hc3
  replace hc4 := hide hc4
  replace hc5 := hide hc5
  refine wp_region_flow (FromOn F w1.heap.size) (factAt [(fun v _ => v = (.slice A n0 c)), (fun v _ => v = (.pointer (some ⟨g, 0, none⟩))), (fun v _ => v = (.slice Aa al.length ca)), (fun _ _ => True), (fun v _ => v = (.pointer (some ⟨g, 1, none⟩))), (fun v _ => v = (.bool ends)), (fun _ _ => True), (fun v _ => v = (.pointer (some ⟨g, 2, none⟩))), (fun v _ => v = (.agg #[.bool sm, .int .i64 lo, .int .i64 hi])), (fun _ _ => True), (fun _ _ => True)]) [none, none, none, some (fun v w => RowIn w B (FromOn F w1.heap.size) v (L1)), none, none, some (fun v w => RowIn w B (FromOn F w1.heap.size) v (L2)), none, none, some (fun v w => RowIn w B (FromOn F w1.heap.size) v (L3)), some (fun v w => RowIn w B (FromOn F w1.heap.size) v (L3))] (fun w => AppIn w B F (.slice A n0 c) l) (by kernel_rfl) (fkept_at ⟨FKept.eq _, FKept.eq _, FKept.eq _, FKept.triv, FKept.eq _, FKept.eq _, FKept.triv, FKept.eq _, FKept.eq _, FKept.triv, FKept.triv, trivial⟩) (fun w w' h hb => h.below hb) ⟨rowIn_kept, rowIn_kept, rowIn_kept, rowIn_kept, trivial⟩ (by kernel_rfl) (by kernel_rfl) (by kernel_rfl) (by kernel_rfl) (Nat.le_of_ble_eq_true (by kernel_rfl)) ?_ ⟨?_, ?_, ?_, ?_, ?_, ?_, ?_, ?_, ?_, ?_, ?_, trivial⟩ ?_
  · exact hA1.out
  · intro T w Q hu hs hv hw hd
    have hx0 : T.getD 0 undef = (.slice A n0 c) := hw 0 (by kernel_rfl)
    refine .inl ⟨wanted_none rfl, ?_⟩
    clear hd hv hu hs hw
    go_simp
    exact ⟨_, rfl, DstOk.some rfl, Below.refl _ _, rfl⟩
  · intro T w Q hu hs hv hw hd
    have hx3 : T.getD 3 undef = (.pointer (some ⟨g, 0, none⟩)) := hv 3 (by kernel_rfl)
    refine .inl ⟨wanted_none rfl, ?_⟩
    clear hd hv hu hs hw
    go_simp
    exact ⟨_, rfl, DstOk.some rfl, Below.refl _ _, rfl⟩
  · intro T w Q hu hs hv hw hd
    have hx7 : T.getD 7 undef = (.pointer (some ⟨g, 0, none⟩)) := Deps.at 1 hd (by kernel_rfl)
    refine .inl ⟨wanted_none rfl, ?_⟩
    have hcc := hu.cell hc0.out hnf.out
    clear hd hv hu hs hw
    go_simp
    exact ⟨_, rfl, DstOk.some rfl, Below.refl _ _, rfl⟩
  · intro T w Q hu hs hv hw hd hc0
    have hc : (fun w => AppIn w B F (.slice A n0 c) l) w := hc0
    have hx6 : T.getD 6 undef = (.slice A n0 c) := Deps.at 0 hd (by kernel_rfl)
    have hx8 : T.getD 8 undef = (.slice Aa al.length ca) := Deps.at 2 hd (by kernel_rfl)
    replace hc := hide hc
    refine .inl ⟨wanted_none rfl, ?_⟩
    have hN := refAlarms_any B F _ l _ _ al w (hxa2.out.upd hu hS1.out) (fun k hk hf => hS k hk.1 hf) ok1.out li1 hc.out (Nat.le_trans hB1.out hu.size) (by have := hlen.out; omega)
    rw [← hL1.out] at hN
    replace hN := hide hN
    clear hd hv hs hw
    go_simp
    refine hN.out.mono ?_
    rintro e w2 ⟨v2, rfl, h2⟩
    have h3 := RRow.enter h2 hu.size
    exact ⟨_, rfl, DstOk.some rfl, h3.1, trivial, h3.2⟩
  · intro T w Q hu hs hv hw hd
    have hx3 : T.getD 3 undef = (.pointer (some ⟨g, 0, none⟩)) := hv 3 (by kernel_rfl)
    refine .inl ⟨wanted_none rfl, ?_⟩
    clear hd hv hu hs hw
    go_simp
    exact ⟨_, rfl, DstOk.some rfl, Below.refl _ _, rfl⟩
  · intro T w Q hu hs hv hw hd
    have hx10 : T.getD 10 undef = (.pointer (some ⟨g, 1, none⟩)) := Deps.at 4 hd (by kernel_rfl)
    refine .inl ⟨wanted_none rfl, ?_⟩
    have hcc := hu.cell hc1.out hnf.out
    clear hd hv hu hs hw
    go_simp
    exact ⟨_, rfl, DstOk.some rfl, Below.refl _ _, rfl⟩
  · intro T w Q hu hs hv hw hd hc0
    have hc : (fun (v : Value) (w : World) => RowIn w B (FromOn F w1.heap.size) v (L1)) (T.getD 9 undef) w := hc0
    have f9 : (fun (v : Value) (w : World) => True) (T.getD 9 undef) w := Deps.at 3 hd (by kernel_rfl)
    generalize hx9 : T.getD 9 undef = x9 at f9 hc
    replace f9 := hide f9
    have hx11 : T.getD 11 undef = (.bool ends) := Deps.at 5 hd (by kernel_rfl)
    replace hc := hide hc
    refine .inl ⟨wanted_none rfl, ?_⟩
    have hN := refBool_any B _ L1 _ ends w (RowIn.app hc.out) (Nat.le_trans hB1.out hu.size) (by have := hlen.out; have := hk1.out; omega)
    rw [← hL2.out] at hN
    replace hN := hide hN
    clear hd hv hs hw
    go_simp
    refine hN.out.mono ?_
    rintro e w2 ⟨v2, rfl, h2⟩
    have h3 := RRow.into hc.out h2 hu.size
    exact ⟨_, rfl, DstOk.some rfl, h3.1, trivial, h3.2⟩
  · intro T w Q hu hs hv hw hd
    have hx3 : T.getD 3 undef = (.pointer (some ⟨g, 0, none⟩)) := hv 3 (by kernel_rfl)
    refine .inl ⟨wanted_none rfl, ?_⟩
    clear hd hv hu hs hw
    go_simp
    exact ⟨_, rfl, DstOk.some rfl, Below.refl _ _, rfl⟩
  · intro T w Q hu hs hv hw hd
    have hx13 : T.getD 13 undef = (.pointer (some ⟨g, 2, none⟩)) := Deps.at 7 hd (by kernel_rfl)
    refine .inl ⟨wanted_none rfl, ?_⟩
    have hca := hu.cell hc2.out hnf.out
    have hcb := hu.cell hc3.out hnf.out
    have hcc := hu.cell hc4.out hnf.out
    clear hd hv hu hs hw
    go_simp
    exact ⟨_, rfl, DstOk.some rfl, Below.refl _ _, rfl⟩
  · intro T w Q hu hs hv hw hd hc0
    have hc : (fun (v : Value) (w : World) => RowIn w B (FromOn F w1.heap.size) v (L2)) (T.getD 12 undef) w := hc0
    have f12 : (fun (v : Value) (w : World) => True) (T.getD 12 undef) w := Deps.at 6 hd (by kernel_rfl)
    generalize hx12 : T.getD 12 undef = x12 at f12 hc
    replace f12 := hide f12
    have hx14 : T.getD 14 undef = (.agg #[.bool sm, .int .i64 lo, .int .i64 hi]) := Deps.at 8 hd (by kernel_rfl)
    replace hc := hide hc
    refine .inl ⟨wanted_none rfl, ?_⟩
    have hN := refIval_any B _ L2 _ ⟨sm, lo, hi⟩ w ok2.out (RowIn.lt hc.out) (RowIn.app hc.out) (Nat.le_trans hB1.out hu.size) (by have := hlen.out; have := hk2.out; omega)
    rw [← hL3.out] at hN
    replace hN := hide hN
    clear hd hv hs hw
    go_simp
    refine hN.out.mono ?_
    rintro e w2 ⟨v2, rfl, h2⟩
    have h3 := RRow.into hc.out h2 hu.size
    exact ⟨_, rfl, DstOk.some rfl, h3.1, trivial, h3.2⟩
  · intro T w Q hu hs hv hw hd hc0
    have hc : (fun (v : Value) (w : World) => RowIn w B (FromOn F w1.heap.size) v (L3)) (T.getD 15 undef) w := hc0
    have f15 : (fun (v : Value) (w : World) => True) (T.getD 15 undef) w := Deps.at 9 hd (by kernel_rfl)
    generalize hx15 : T.getD 15 undef = x15 at f15 hc
    replace f15 := hide f15
    replace hc := hide hc
    refine .inl ⟨wanted_none rfl, ?_⟩
    clear hd hv hu hs hw hc0
    go_simp
    exact ⟨_, rfl, DstOk.some rfl, .refl _ _, trivial, hc.out⟩
  intro T w hu hs hv hf hcur
  have hcur1 : (fun (v : Value) (w : World) => RowIn w B (FromOn F w1.heap.size) v (L3)) (T.getD 0 undef) w := hcur
  replace hcur1 := hcur1
  have hT : T = #[T.getD 0 undef, T.getD 1 undef, T.getD 2 undef, T.getD 3 undef, T.getD 4 undef, T.getD 5 undef, T.getD 6 undef, T.getD 7 undef, T.getD 8 undef, T.getD 9 undef, T.getD 10 undef, T.getD 11 undef, T.getD 12 undef, T.getD 13 undef, T.getD 14 undef, T.getD 15 undef, T.getD 16 undef, T.getD 17 undef, T.getD 18 undef, T.getD 19 undef, T.getD 20 undef, T.getD 21 undef, T.getD 22 undef, T.getD 23 undef, T.getD 24 undef, T.getD 25 undef, T.getD 26 undef, T.getD 27 undef, T.getD 28 undef, T.getD 29 undef, T.getD 30 undef, T.getD 31 undef, T.getD 32 undef, T.getD 33 undef, T.getD 34 undef, T.getD 35 undef, T.getD 36 undef, T.getD 37 undef, T.getD 38 undef, T.getD 39 undef, T.getD 40 undef, T.getD 41 undef, T.getD 42 undef, T.getD 43 undef, T.getD 44 undef] := expl hs
  rw [hT]
  clear hT
  rw [show T.getD 1 undef = (.agg #[.slice Aa al.length ca, .bool ends, .bool sm, .int .i64 lo, .int .i64 hi, .slice Am md.length cm]) from hv 1 (by kernel_rfl)]
  rw [hv 2 (by kernel_rfl)]
  rw [show T.getD 3 undef = (.pointer (some ⟨g, 0, none⟩)) from hv 3 (by kernel_rfl)]
  rw [hv 4 (by kernel_rfl)]
  rw [hv 5 (by kernel_rfl)]
  rw [show T.getD 6 undef = (.slice A n0 c) from hf 0 (by decide)]
  rw [show T.getD 7 undef = (.pointer (some ⟨g, 0, none⟩)) from hf 1 (by decide)]
  rw [show T.getD 8 undef = (.slice Aa al.length ca) from hf 2 (by decide)]
  rw [show T.getD 10 undef = (.pointer (some ⟨g, 1, none⟩)) from hf 4 (by decide)]
  rw [show T.getD 11 undef = (.bool ends) from hf 5 (by decide)]
  rw [show T.getD 13 undef = (.pointer (some ⟨g, 2, none⟩)) from hf 7 (by decide)]
  rw [show T.getD 14 undef = (.agg #[.bool sm, .int .i64 lo, .int .i64 hi]) from hf 8 (by decide)]
  rw [hv 16 (by kernel_rfl)]
  rw [hv 17 (by kernel_rfl)]
  rw [hv 18 (by kernel_rfl)]
  rw [hv 19 (by kernel_rfl)]
  rw [hv 20 (by kernel_rfl)]
  rw [hv 21 (by kernel_rfl)]
  rw [hv 22 (by kernel_rfl)]
  rw [hv 23 (by kernel_rfl)]
  rw [hv 24 (by kernel_rfl)]
  rw [hv 25 (by kernel_rfl)]
  rw [hv 26 (by kernel_rfl)]
  rw [hv 27 (by kernel_rfl)]
  rw [hv 28 (by kernel_rfl)]
  rw [hv 29 (by kernel_rfl)]
  rw [hv 30 (by kernel_rfl)]
  rw [hv 31 (by kernel_rfl)]
  rw [hv 32 (by kernel_rfl)]
  rw [hv 33 (by kernel_rfl)]
  rw [hv 34 (by kernel_rfl)]
  rw [hv 35 (by kernel_rfl)]
  rw [hv 36 (by kernel_rfl)]
  rw [hv 37 (by kernel_rfl)]
  rw [hv 38 (by kernel_rfl)]
  rw [hv 39 (by kernel_rfl)]
  rw [hv 40 (by kernel_rfl)]
  rw [hv 41 (by kernel_rfl)]
  rw [hv 42 (by kernel_rfl)]
  rw [hv 43 (by kernel_rfl)]
  rw [hv 44 (by kernel_rfl)]
  clear hf hs hv hcur
  simp only [getD_toArray, List.getD_cons_succ, List.getD_cons_zero]
  generalize T.getD 0 undef = y0 at hcur1 ⊢
  generalize T.getD 9 undef = y9
  generalize T.getD 12 undef = y12
  generalize T.getD 15 undef = y15
  clear T
  replace hu := hide hu
  obtain ⟨A3, n3, k3, rfl⟩ := hcur1.1.slice
  have hcv := hu.out.cell hc5.out hnf.out
  have hN := hide (refNum_any B _ L3 _ md.length w (RowIn.app hcur1) (by omega) (Nat.le_trans hB1.out hu.out.size) (by have := hlen.out; have := hk3.out; omega))
  replace hcur1 := hide hcur1
  rw [← hL4.out] at hN
  go_wp2_with fail
  refine hN.out.mono ?_
  rintro e w2 ⟨v2, rfl, h2⟩
  have h3 := RRow.into hcur1.out h2 hu.out.size
  have hU := hide (hu.out.then h3.1)
  obtain ⟨A4, n4, k4, rfl⟩ := h2.1.slice
  replace h3 := hide h3.2
  clear hN h2 hcur1 hu hcv
  go_wp2_with fail
  go_loopw [0, 5] (fun b i wr => ∃ (k : Nat) (A1 : Option Addr) (n1 k1 : Nat), k ≤ md.length ∧ b = .slice A1 n1 k1 ∧ i = .int .i64 k ∧ RowIn wr B (FromOn F w1.heap.size) (.slice A1 n1 k1) (L4 ++ modB (md.take k)) ∧ Upd (FromOn F w1.heap.size) w1 wr) (fun _ i _ => md.length - (intOf i).toNat)
  case atStart => exact ⟨0, _, _, _, Nat.zero_le _, rfl, rfl, by simpa [modB] using h3.out, hU.out⟩
  case round =>
    clear h3 hU
    obtain ⟨k, A1, n1, k1, hk, rfl, rfl, hR, hU⟩ := hrel
    have hcv := hU.cell hc5.out hnf.out
    by_cases hlt : k < md.length
    · have hsn := modB_snoc md k hlt
      have hax := ok3.out _ (List.getElem_mem hlt)
      have hns := li3.out _ (List.getElem_mem hlt)
      obtain ⟨b, o, rfl, hb, hcell⟩ := (hxm2.out.upd hU hS1.out).get (k := 4) (fun _ => rfl) (by decide) hlt
      have hcA := hcell 0 _ (by decide) rfl
      have hcB := hcell 1 _ (by decide) rfl
      have hcC := hcell 2 _ (by decide) rfl
      have hcD := hcell 3 _ (by decide) rfl
      have hnb := hS1.out b hb
      have hml1 := modB_le md ok3.out li3.out k
      have htl := text_le md[k].name (by omega)
      have hvl := ival_len hax
      clear hcell
      generalize md[k].name = nm at *
      generalize md[k].v = iv at *
      obtain ⟨sm2, lo2, hi2⟩ := iv
      obtain ⟨M0, hM0⟩ : ∃ L, L = L4 ++ modB (md.take k) := ⟨_, rfl⟩
      obtain ⟨M1, hM1⟩ : ∃ L, L = M0 ++ text nm := ⟨_, rfl⟩
      obtain ⟨M2, hM2⟩ : ∃ L, L = M1 ++ IvalD.bytes ⟨sm2, lo2, hi2⟩ := ⟨_, rfl⟩
      have hm0 : M0.length + nm.size + 10 ≤ 70368744177664 := by have := hlen.out; have := hk4.out; rw [hM0, List.length_append]; omega
      have hm1 : M1.length + 30 ≤ 70368744177664 := by have := hlen.out; have := hk4.out; rw [hM1, hM0, List.length_append, List.length_append]; omega
      rw [← hM0] at hR
      replace hm0 := hide hm0
      replace hm1 := hide hm1
      replace hM0 := hide hM0
      replace hM1 := hide hM1
      replace hM2 := hide hM2
      replace hax := hide hax
      replace hnb := hide hnb
      replace hsn := hide hsn
      clear hml1 htl hvl hns
      have e0 : o + k * 4 = o + (4 * k + 0) := by omega
      have e1 : o + k * 4 + 1 = o + (4 * k + 1) := by omega
      have e2 : o + k * 4 + 1 + 1 = o + (4 * k + 2) := by omega
      have e3 : o + k * 4 + 1 + 2 = o + (4 * k + 3) := by omega
      rw [← e0] at hcA
      rw [← e1] at hcB
      rw [← e2] at hcC
      rw [← e3] at hcD
      clear e0 e1 e2 e3
      replace hcA := hide hcA
      replace hcB := hide hcB
      replace hcC := hide hcC
      replace hcD := hide hcD
      replace hR := hide hR
      replace hU := hide hU
      go_wp2_with fail
      replace hcv := hide hcv
      refine wp_region_flow (FromOn F w1.heap.size) (factAt [(fun v _ => v = (.slice A1 n1 k1)), (fun v _ => v = (.pointer (some ⟨g, 5, none⟩))), (fun v _ => v = (.slice (some ⟨b, o, none⟩) md.length cm)), (fun v _ => v = (.int .i64 k)), (fun v _ => v = (.pointer (some ⟨b, o + k * 4, none⟩))), (fun v _ => v = (.pointer (some ⟨b, o + k * 4, none⟩))), (fun v _ => v = (.string nm)), (fun _ _ => True), (fun v _ => v = (.pointer (some ⟨g, 5, none⟩))), (fun v _ => v = (.slice (some ⟨b, o, none⟩) md.length cm)), (fun v _ => v = (.int .i64 k)), (fun v _ => v = (.pointer (some ⟨b, o + k * 4, none⟩))), (fun v _ => v = (.pointer (some ⟨b, o + k * 4 + 1, none⟩))), (fun v _ => v = (.agg #[.bool sm2, .int .i64 lo2, .int .i64 hi2])), (fun _ _ => True), (fun _ _ => True)]) [none, none, none, none, none, none, none, some (fun v w => RowIn w B (FromOn F w1.heap.size) v (M1)), none, none, none, none, none, none, some (fun v w => RowIn w B (FromOn F w1.heap.size) v (M2)), some (fun v w => RowIn w B (FromOn F w1.heap.size) v (M2))] (fun w => RowIn w B (FromOn F w1.heap.size) (.slice A1 n1 k1) M0) (by kernel_rfl) (fkept_at ⟨FKept.eq _, FKept.eq _, FKept.eq _, FKept.eq _, FKept.eq _, FKept.eq _, FKept.eq _, FKept.triv, FKept.eq _, FKept.eq _, FKept.eq _, FKept.eq _, FKept.eq _, FKept.eq _, FKept.triv, FKept.triv, trivial⟩) (fun w w' h hb => rowIn_kept _ w w' h hb) ⟨rowIn_kept, rowIn_kept, rowIn_kept, trivial⟩ (by kernel_rfl) (by kernel_rfl) (by kernel_rfl) (by kernel_rfl) (Nat.le_of_ble_eq_true (by kernel_rfl)) ?_ ⟨?_, ?_, ?_, ?_, ?_, ?_, ?_, ?_, ?_, ?_, ?_, ?_, ?_, ?_, ?_, ?_, trivial⟩ ?_
      · exact hR.out
      · intro T w Q hu hs hv hw hd
        have hx0 : T.getD 0 undef = (.slice A1 n1 k1) := hw 0 (by kernel_rfl)
        refine .inl ⟨wanted_none rfl, ?_⟩
        clear hd hv hu hs hw
        go_simp
        exact ⟨_, rfl, DstOk.some rfl, Below.refl _ _, rfl⟩
      · intro T w Q hu hs hv hw hd
        have hx3 : T.getD 3 undef = (.pointer (some ⟨g, 0, none⟩)) := hv 3 (by kernel_rfl)
        refine .inl ⟨wanted_none rfl, ?_⟩
        clear hd hv hu hs hw
        go_simp
        exact ⟨_, rfl, DstOk.some rfl, Below.refl _ _, rfl⟩
      · intro T w Q hu hs hv hw hd
        have hx30 : T.getD 30 undef = (.pointer (some ⟨g, 5, none⟩)) := Deps.at 1 hd (by kernel_rfl)
        refine .inl ⟨wanted_none rfl, ?_⟩
        have hcc := hu.cell hcv.out hnf.out
        clear hd hv hu hs hw
        go_simp
        exact ⟨_, rfl, DstOk.some rfl, Below.refl _ _, rfl⟩
      · intro T w Q hu hs hv hw hd
        have hx5 : T.getD 5 undef = (.int .i64 k) := hv 5 (by kernel_rfl)
        refine .inl ⟨wanted_none rfl, ?_⟩
        clear hd hv hu hs hw
        go_simp
        exact ⟨_, rfl, DstOk.some rfl, Below.refl _ _, rfl⟩
      · intro T w Q hu hs hv hw hd
        have hx31 : T.getD 31 undef = (.slice (some ⟨b, o, none⟩) md.length cm) := Deps.at 2 hd (by kernel_rfl)
        have hx32 : T.getD 32 undef = (.int .i64 k) := Deps.at 3 hd (by kernel_rfl)
        refine .inl ⟨wanted_none rfl, ?_⟩
        clear hd hv hu hs hw
        go_simp
        exact ⟨_, rfl, DstOk.some rfl, Below.refl _ _, rfl⟩
      · intro T w Q hu hs hv hw hd
        have hx33 : T.getD 33 undef = (.pointer (some ⟨b, o + k * 4, none⟩)) := Deps.at 4 hd (by kernel_rfl)
        refine .inl ⟨wanted_none rfl, ?_⟩
        clear hd hv hu hs hw
        go_simp
        exact ⟨_, rfl, DstOk.some rfl, Below.refl _ _, rfl⟩
      · intro T w Q hu hs hv hw hd
        have hx34 : T.getD 34 undef = (.pointer (some ⟨b, o + k * 4, none⟩)) := Deps.at 5 hd (by kernel_rfl)
        refine .inl ⟨wanted_none rfl, ?_⟩
        have hcc := hu.cell hcA.out hnb.out
        clear hd hv hu hs hw
        go_simp
        exact ⟨_, rfl, DstOk.some rfl, Below.refl _ _, rfl⟩
      · intro T w Q hu hs hv hw hd hc0
        have hc : (fun w => RowIn w B (FromOn F w1.heap.size) (.slice A1 n1 k1) M0) w := hc0
        have hx29 : T.getD 29 undef = (.slice A1 n1 k1) := Deps.at 0 hd (by kernel_rfl)
        have hx35 : T.getD 35 undef = (.string nm) := Deps.at 6 hd (by kernel_rfl)
        replace hc := hide hc
        refine .inl ⟨wanted_none rfl, ?_⟩
        have hN := refText_any B _ M0 _ nm w (RowIn.app hc.out) (Nat.le_trans hB1.out (Nat.le_trans hU.out.size hu.size)) hm0.out
        rw [← hM1.out] at hN
        replace hN := hide hN
        clear hd hv hs hw
        go_simp
        refine hN.out.mono ?_
        rintro e w2 ⟨v2, rfl, h2⟩
        have h3 := RRow.into hc.out h2 (Nat.le_trans hU.out.size hu.size)
        exact ⟨_, rfl, DstOk.some rfl, h3.1, trivial, h3.2⟩
      · intro T w Q hu hs hv hw hd
        have hx3 : T.getD 3 undef = (.pointer (some ⟨g, 0, none⟩)) := hv 3 (by kernel_rfl)
        refine .inl ⟨wanted_none rfl, ?_⟩
        clear hd hv hu hs hw
        go_simp
        exact ⟨_, rfl, DstOk.some rfl, Below.refl _ _, rfl⟩
      · intro T w Q hu hs hv hw hd
        have hx37 : T.getD 37 undef = (.pointer (some ⟨g, 5, none⟩)) := Deps.at 8 hd (by kernel_rfl)
        refine .inl ⟨wanted_none rfl, ?_⟩
        have hcc := hu.cell hcv.out hnf.out
        clear hd hv hu hs hw
        go_simp
        exact ⟨_, rfl, DstOk.some rfl, Below.refl _ _, rfl⟩
      · intro T w Q hu hs hv hw hd
        have hx5 : T.getD 5 undef = (.int .i64 k) := hv 5 (by kernel_rfl)
        refine .inl ⟨wanted_none rfl, ?_⟩
        clear hd hv hu hs hw
        go_simp
        exact ⟨_, rfl, DstOk.some rfl, Below.refl _ _, rfl⟩
      · intro T w Q hu hs hv hw hd
        have hx38 : T.getD 38 undef = (.slice (some ⟨b, o, none⟩) md.length cm) := Deps.at 9 hd (by kernel_rfl)
        have hx39 : T.getD 39 undef = (.int .i64 k) := Deps.at 10 hd (by kernel_rfl)
        refine .inl ⟨wanted_none rfl, ?_⟩
        clear hd hv hu hs hw
        go_simp
        exact ⟨_, rfl, DstOk.some rfl, Below.refl _ _, rfl⟩
      · intro T w Q hu hs hv hw hd
        have hx40 : T.getD 40 undef = (.pointer (some ⟨b, o + k * 4, none⟩)) := Deps.at 11 hd (by kernel_rfl)
        refine .inl ⟨wanted_none rfl, ?_⟩
        clear hd hv hu hs hw
        go_simp
        exact ⟨_, rfl, DstOk.some rfl, Below.refl _ _, rfl⟩
      · intro T w Q hu hs hv hw hd
        have hx41 : T.getD 41 undef = (.pointer (some ⟨b, o + k * 4 + 1, none⟩)) := Deps.at 12 hd (by kernel_rfl)
        refine .inl ⟨wanted_none rfl, ?_⟩
        have hca := hu.cell hcB.out hnb.out
        have hcb := hu.cell hcC.out hnb.out
        have hcc := hu.cell hcD.out hnb.out
        clear hd hv hu hs hw
        go_simp
        exact ⟨_, rfl, DstOk.some rfl, Below.refl _ _, rfl⟩
      · intro T w Q hu hs hv hw hd hc0
        have hc : (fun (v : Value) (w : World) => RowIn w B (FromOn F w1.heap.size) v (M1)) (T.getD 36 undef) w := hc0
        have f36 : (fun (v : Value) (w : World) => True) (T.getD 36 undef) w := Deps.at 7 hd (by kernel_rfl)
        generalize hx36 : T.getD 36 undef = x36 at f36 hc
        replace f36 := hide f36
        have hx42 : T.getD 42 undef = (.agg #[.bool sm2, .int .i64 lo2, .int .i64 hi2]) := Deps.at 13 hd (by kernel_rfl)
        replace hc := hide hc
        refine .inl ⟨wanted_none rfl, ?_⟩
        have hN := refIval_any B _ M1 _ ⟨sm2, lo2, hi2⟩ w hax.out (RowIn.lt hc.out) (RowIn.app hc.out) (Nat.le_trans hB1.out (Nat.le_trans hU.out.size hu.size)) hm1.out
        rw [← hM2.out] at hN
        replace hN := hide hN
        clear hd hv hs hw
        go_simp
        refine hN.out.mono ?_
        rintro e w2 ⟨v2, rfl, h2⟩
        have h3 := RRow.into hc.out h2 (Nat.le_trans hU.out.size hu.size)
        exact ⟨_, rfl, DstOk.some rfl, h3.1, trivial, h3.2⟩
      · intro T w Q hu hs hv hw hd hc0
        have hc : (fun (v : Value) (w : World) => RowIn w B (FromOn F w1.heap.size) v (M2)) (T.getD 43 undef) w := hc0
        have f43 : (fun (v : Value) (w : World) => True) (T.getD 43 undef) w := Deps.at 14 hd (by kernel_rfl)
        generalize hx43 : T.getD 43 undef = x43 at f43 hc
        replace f43 := hide f43
        replace hc := hide hc
        refine .inl ⟨wanted_none rfl, ?_⟩
        clear hd hv hu hs hw hc0
        go_simp
        exact ⟨_, rfl, DstOk.some rfl, .refl _ _, trivial, hc.out⟩
      · intro T w hu hs hv hf hcur
        have hcur1 : (fun (v : Value) (w : World) => RowIn w B (FromOn F w1.heap.size) v (M2)) (T.getD 0 undef) w := hcur
        replace hcur1 := hcur1
        have hT : T = #[T.getD 0 undef, T.getD 1 undef, T.getD 2 undef, T.getD 3 undef, T.getD 4 undef, T.getD 5 undef, T.getD 6 undef, T.getD 7 undef, T.getD 8 undef, T.getD 9 undef, T.getD 10 undef, T.getD 11 undef, T.getD 12 undef, T.getD 13 undef, T.getD 14 undef, T.getD 15 undef, T.getD 16 undef, T.getD 17 undef, T.getD 18 undef, T.getD 19 undef, T.getD 20 undef, T.getD 21 undef, T.getD 22 undef, T.getD 23 undef, T.getD 24 undef, T.getD 25 undef, T.getD 26 undef, T.getD 27 undef, T.getD 28 undef, T.getD 29 undef, T.getD 30 undef, T.getD 31 undef, T.getD 32 undef, T.getD 33 undef, T.getD 34 undef, T.getD 35 undef, T.getD 36 undef, T.getD 37 undef, T.getD 38 undef, T.getD 39 undef, T.getD 40 undef, T.getD 41 undef, T.getD 42 undef, T.getD 43 undef, T.getD 44 undef] := expl hs
        rw [hT]
        clear hT
        rw [hv 1 (by kernel_rfl)]
        rw [hv 2 (by kernel_rfl)]
        rw [show T.getD 3 undef = (.pointer (some ⟨g, 0, none⟩)) from hv 3 (by kernel_rfl)]
        rw [hv 4 (by kernel_rfl)]
        rw [show T.getD 5 undef = (.int .i64 k) from hv 5 (by kernel_rfl)]
        rw [hv 6 (by kernel_rfl)]
        rw [hv 7 (by kernel_rfl)]
        rw [hv 8 (by kernel_rfl)]
        rw [hv 9 (by kernel_rfl)]
        rw [hv 10 (by kernel_rfl)]
        rw [hv 11 (by kernel_rfl)]
        rw [hv 12 (by kernel_rfl)]
        rw [hv 13 (by kernel_rfl)]
        rw [hv 14 (by kernel_rfl)]
        rw [hv 15 (by kernel_rfl)]
        rw [hv 16 (by kernel_rfl)]
        rw [hv 17 (by kernel_rfl)]
        rw [hv 18 (by kernel_rfl)]
        rw [hv 19 (by kernel_rfl)]
        rw [hv 20 (by kernel_rfl)]
        rw [hv 21 (by kernel_rfl)]
        rw [hv 22 (by kernel_rfl)]
        rw [hv 23 (by kernel_rfl)]
        rw [hv 24 (by kernel_rfl)]
        rw [hv 25 (by kernel_rfl)]
        rw [hv 26 (by kernel_rfl)]
        rw [hv 27 (by kernel_rfl)]
        rw [hv 28 (by kernel_rfl)]
        rw [show T.getD 29 undef = (.slice A1 n1 k1) from hf 0 (by decide)]
        rw [show T.getD 30 undef = (.pointer (some ⟨g, 5, none⟩)) from hf 1 (by decide)]
        rw [show T.getD 31 undef = (.slice (some ⟨b, o, none⟩) md.length cm) from hf 2 (by decide)]
        rw [show T.getD 32 undef = (.int .i64 k) from hf 3 (by decide)]
        rw [show T.getD 33 undef = (.pointer (some ⟨b, o + k * 4, none⟩)) from hf 4 (by decide)]
        rw [show T.getD 34 undef = (.pointer (some ⟨b, o + k * 4, none⟩)) from hf 5 (by decide)]
        rw [show T.getD 35 undef = (.string nm) from hf 6 (by decide)]
        rw [show T.getD 37 undef = (.pointer (some ⟨g, 5, none⟩)) from hf 8 (by decide)]
        rw [show T.getD 38 undef = (.slice (some ⟨b, o, none⟩) md.length cm) from hf 9 (by decide)]
        rw [show T.getD 39 undef = (.int .i64 k) from hf 10 (by decide)]
        rw [show T.getD 40 undef = (.pointer (some ⟨b, o + k * 4, none⟩)) from hf 11 (by decide)]
        rw [show T.getD 41 undef = (.pointer (some ⟨b, o + k * 4 + 1, none⟩)) from hf 12 (by decide)]
        rw [show T.getD 42 undef = (.agg #[.bool sm2, .int .i64 lo2, .int .i64 hi2]) from hf 13 (by decide)]
        rw [hv 44 (by kernel_rfl)]
        clear hf hs hv hcur
        simp only [getD_toArray, List.getD_cons_succ, List.getD_cons_zero]
        generalize T.getD 0 undef = y0 at hcur1 ⊢
        generalize T.getD 36 undef = y36
        generalize T.getD 43 undef = y43
        clear T
        obtain ⟨A3, n3, k3, rfl⟩ := hcur1.1.slice
        replace hcur1 := hide hcur1
        go_wp2_with fail
        go_roundw
        case rel =>
          refine ⟨k + 1, A3, n3, k3, by omega, rfl, by go_num, ?_, hU.out.then hu⟩
          rw [hsn.out, ← List.append_assoc, ← List.append_assoc, ← hM0.out, ← hM1.out, ← hM2.out]
          exact hcur1.out
        case measure => simp [intOf]; omega
    · obtain rfl : k = md.length := by omega
      rw [List.take_length] at hR
      replace hR := hide hR
      replace hU := hide hU
      go_wp2_with fail
      go_ret
      refine ⟨_, rfl, ?_⟩
      have hbs : SumD.bytes ⟨al, ends, ⟨sm, lo, hi⟩, md⟩ = num al.length ++ alarmsB al ++ [bit ends] ++ IvalD.bytes ⟨sm, lo, hi⟩ ++ num md.length ++ modB md := rfl
      rw [hbs, ← List.append_assoc, ← List.append_assoc, ← List.append_assoc, ← List.append_assoc, ← List.append_assoc, ← hL1.out, ← hL2.out, ← hL3.out, ← hL4.out]
      exact RRow.of_below (hu0.out.mono (Nat.le_of_eq hg.out)) (RowIn.out_ hR.out hU.out (Nat.le_refl _))
end Go.Proofs.Ytajpgkedlajjdaa
