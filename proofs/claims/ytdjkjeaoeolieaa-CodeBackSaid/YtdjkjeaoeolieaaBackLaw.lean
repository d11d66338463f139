/- The walk of CodeBack. -/
import Derived.Test.YtdjkjeaoeolieaaPlain
import Derived.Test.YtdjkjeaoeolieaaWrites
import Derived.Test.YtdjkjeaoeolieaaRSum
namespace Go.Proofs.Ytdjkjeaoeolieaa
open Go.RowKit

def SmallP (q : PartD × Value × Value) : Prop := ∀ a ∈ q.1.s.alarms, SmallA a

set_option maxRecDepth 100000 in
set_option maxHeartbeats 6400000 in
theorem back_any (x : Value) (qs : List (PartD × Value × Value)) (w : World) (hx : PartsV w w.heap.size x qs) (hok : ∀ q ∈ qs, q.1.ok) :
    Calls Try.prog 5 #[x] w fun e w' => e = .returned (.bool true) ∧ Below w.heap.size w w' := by
  obtain ⟨Ax, cx, rfl, hnx⟩ := hx.1.slice
  unfold maxLen at hnx
  replace hx := hide hx
  replace hok := hide hok
  go_enter Try.func5, Try.ntmps5
  go_wp2_with fail
  refine (known_any _).mono ?_
  rintro e w1 ⟨rfl, hb1⟩
  replace hb1 := hide hb1
  go_wp2_with fail
  refine (light_any _ qs _ w.heap.size (hx.out.below hb1.out (Nat.le_refl _)) hb1.out.size).mono ?_
  rintro e w2 ⟨bl, rfl, hl, hb2⟩
  have hB := hide (hb1.out.trans (hb2.mono hb1.out.size))
  clear hb1 hb2
  cases bl
  · replace hl := hide hl
    go_wp2_with fail
    go_ret
    exact ⟨rfl, hB.out⟩
  obtain ⟨hl12, hlt⟩ := hl.1 rfl
  clear hl
  have hlen := hide (partsB_len qs hok.out hlt)
  replace hlt := hide hlt
  go_wp2_with fail
  go_loopw [3, 4] (fun vw i wr => ∃ (k : Nat) (A1 : Option Addr) (n1 c1 : Nat), k ≤ qs.length ∧ i = .int .i64 k ∧ vw = .slice A1 n1 c1 ∧ Below w.heap.size w wr ∧ RowB wr w.heap.size (.slice A1 n1 c1) (partsB (qs.take k)) ∧ ∀ (j : Nat) (h : j < qs.length), j < k → SmallP qs[j]) (fun _ i _ => qs.length - (intOf i).toNat)
  case atStart => exact ⟨0, _, _, _, Nat.zero_le _, rfl, rfl, hB.out, by simpa [partsB] using RowB.nil_ _ _, fun j _ h => by omega⟩
  case round =>
    clear hB
    obtain ⟨wo, rfl⟩ : ∃ y, y = wr := ⟨wr, rfl⟩
    obtain ⟨k, A1, n1, c1, hk, rfl, rfl, hB, hR, hsm⟩ := hrel
    replace hsm := hide hsm
    replace hR := hide hR
    by_cases hlk : k < qs.length
    · have hok1 := hok.out _ (List.getElem_mem hlk)
      have hli1 := hlt.out _ (List.getElem_mem hlk)
      have hsn := hide (partsB_snoc qs k hlk)
      have hl1 := hide (hlen.out k)
      have hat := hide (fun (W : World) (hW : Below w.heap.size w W) => (hx.out.below hW (Nat.le_refl _)).at_ hlk)
      have hinW := hide (fun (W : World) (hW : Below w.heap.size w W) => (hx.out.below hW (Nat.le_refl _)).2 _ (List.getElem_mem hlk))
      have hsm1 : SmallP qs[k] → ∀ (j : Nat) (h : j < qs.length), j < k + 1 → SmallP qs[j] := fun h0 j h hj => by
        rcases Nat.lt_or_ge j k with h1 | h1
        · exact hsm.out j h h1
        · obtain rfl : j = k := by omega
          exact h0
      replace hsm1 := hide hsm1
      generalize qs[k] = q at *
      obtain ⟨⟨what, n, t, s⟩, xa, xm⟩ := q
      have hinV : ∀ W : World, Below w.heap.size w W → ArgN W (· < w.heap.size) xa s.alarms.length (s.alarms.map AlarmD.cells).flatten ∧ ArgN W (· < w.heap.size) xm s.mod.length (s.mod.map NamedD.cells).flatten := fun W hW => hinW.out W hW
      replace hinV := hide hinV
      clear hinW
      obtain ⟨Aa, ca, rfl, hna⟩ := (hinV.out wo hB).1.slice
      obtain ⟨Am, cm, rfl, -⟩ := (hinV.out wo hB).2.slice
      unfold maxLen at hna
      obtain ⟨-, b, o, rfl, hb, hcell⟩ := hat.out wo hB
      have hd : ∀ W, Below w.heap.size w W → W.cell? ⟨b, o + k * 9, none⟩ = some (.int .u8 what) ∧ W.cell? ⟨b, o + k * 9 + 1, none⟩ = some (.int .u64 n) ∧ W.cell? ⟨b, o + k * 9 + 2, none⟩ = some (.string t) ∧ W.cell? ⟨b, o + k * 9 + 3, none⟩ = some (.slice Aa s.alarms.length ca) ∧ W.cell? ⟨b, o + k * 9 + 4, none⟩ = some (.bool s.ends) ∧ W.cell? ⟨b, o + k * 9 + 5, none⟩ = some (.bool s.ret.some) ∧ W.cell? ⟨b, o + k * 9 + 6, none⟩ = some (.int .i64 s.ret.lo) ∧ W.cell? ⟨b, o + k * 9 + 7, none⟩ = some (.int .i64 s.ret.hi) ∧ W.cell? ⟨b, o + k * 9 + 8, none⟩ = some (.slice Am s.mod.length cm) := by
        intro W hW'
        obtain ⟨-, b', o', e, -, hc⟩ := hat.out W hW'
        have e2 := Option.some.inj e
        injection e2 with e3 e4 _
        subst e3 e4
        exact ⟨hc 0 _ (by decide) rfl, hc 1 _ (by decide) rfl, hc 2 _ (by decide) rfl, hc 3 _ (by decide) rfl, hc 4 _ (by decide) rfl, hc 5 _ (by decide) rfl, hc 6 _ (by decide) rfl, hc 7 _ (by decide) rfl, hc 8 _ (by decide) rfl⟩
      replace hd := hide hd
      clear hcell hat
      replace hB := hide hB
      replace hok1 := hide hok1
      replace hli1 := hide hli1
      go_wp2_with fail
      go_loopw [5] (fun i wv => ∃ k2 : Nat, k2 ≤ s.alarms.length ∧ i = .int .i64 k2 ∧ Below wo.heap.size wo wv ∧ ∀ (j : Nat) (h : j < s.alarms.length), j < k2 → SmallA s.alarms[j]) (fun i _ => s.alarms.length - (intOf i).toNat)
      case atStart => exact ⟨0, Nat.zero_le _, rfl, Below.refl _ _, fun j _ h => by omega⟩
      case round =>
        obtain ⟨k2, hk2, rfl, hbw, hs2⟩ := hrel
        replace hs2 := hide hs2
        have hBv := hide (hB.out.trans (hbw.mono hB.out.size))
        obtain ⟨c0, c1', c2, c3, c4, c5, c6, c7, c8⟩ := hd.out wr hBv.out
        by_cases hlt2 : k2 < s.alarms.length
        · obtain ⟨b2, o2, rfl, hb2, hcell⟩ := (hinV.out wr hBv.out).1.get (k := 2) (fun _ => rfl) (by decide) hlt2
          have hcA := hcell 0 _ (by decide) rfl
          have hcB := hcell 1 _ (by decide) rfl
          have e0 : o2 + k2 * 2 = o2 + (2 * k2 + 0) := by omega
          have e1 : o2 + k2 * 2 + 1 = o2 + (2 * k2 + 1) := by omega
          rw [← e0] at hcA
          rw [← e1] at hcB
          clear e0 e1 hcell c0 c1' c2 c4 c5 c6 c7 c8
          have hs3 : SmallA s.alarms[k2] → ∀ (j : Nat) (h : j < s.alarms.length), j < k2 + 1 → SmallA s.alarms[j] := fun h0 j h hj => by
            rcases Nat.lt_or_ge j k2 with h1 | h1
            · exact hs2.out j h h1
            · obtain rfl : j = k2 := by omega
              exact h0
          replace hs3 := hide hs3
          generalize s.alarms[k2] = a at *
          obtain ⟨at_, kd⟩ := a
          simp only at hcA hcB
          replace hbw := hide hbw
          by_cases q1 : at_ < -2147483648
          · go_wp2_with fail
            go_ret
            exact ⟨rfl, hBv.out.alloc hBv.out.size _⟩
          by_cases q2 : 2147483647 < at_
          · go_wp2_with fail
            go_ret
            exact ⟨rfl, hBv.out.alloc hBv.out.size _⟩
          by_cases q3 : kd < -2147483648
          · go_wp2_with fail
            go_ret
            exact ⟨rfl, hBv.out.alloc hBv.out.size _⟩
          by_cases q4 : 2147483647 < kd
          · go_wp2_with fail
            go_ret
            exact ⟨rfl, hBv.out.alloc hBv.out.size _⟩
          have hgood : SmallA ⟨at_, kd⟩ := ⟨⟨by simp only; omega, by simp only; omega⟩, by simp only; omega, by simp only; omega⟩
          replace hgood := hide hgood
          go_wp2_with fail
          go_roundw
          case rel => exact ⟨k2 + 1, by omega, by go_num, hbw.out.alloc hbw.out.size _, hs3.out hgood.out⟩
          case measure => simp [intOf]; omega
        · obtain rfl : k2 = s.alarms.length := by omega
          have hq := hinV.out wr hBv.out
          have hRv := hide (show RowB wr w.heap.size (.slice A1 n1 c1) (partsB (qs.take k)) from (Upd.of_below (fun _ => False) hbw).own hR.out fun _ _ => id)
          have hfar : ∀ k', k' < w.heap.size → ¬ Value.ownBlock (.slice A1 n1 c1) = some k' := fun k' hk' e => by have := (World.ownsRow.lt hRv.out k' e).1; omega
          have hN := hide (put_any w.heap.size (fun g => Value.ownBlock (.slice A1 n1 c1) = some g) _ (partsB (qs.take k)) (.slice A1 n1 c1) _ _ ⟨what, n, t, s⟩ wr hq.1 hq.2 hfar (fun g hg => (World.ownsRow.lt hRv.out g hg).2) hok1.out hli1.out (.inl ⟨hRv.out, fun _ h => h⟩) hBv.out.size (by have := hl1.out; omega))
          replace hbw := hide hbw
          clear hq hfar
          go_wp2_with fail
          refine hN.out.mono ?_
          rintro e w4 ⟨v4, rfl, h4⟩
          obtain ⟨A4, n4, k4, rfl⟩ := h4.1.slice
          replace h4 := hide h4
          go_wp2_with fail
          go_roundw
          case rel =>
            refine ⟨k + 1, A4, n4, k4, by omega, by go_num, rfl, ?_, ?_, ?_⟩
            · exact hBv.out.trans (h4.out.2.1.below (B := w.heap.size) hBv.out.size fun g hg => (World.ownsRow.lt hRv.out g hg).1)
            · rw [hsn.out]; exact h4.out.1
            · exact hsm1.out fun a ha => by
                obtain ⟨j, hj, rfl⟩ := List.getElem_of_mem ha
                exact hs2.out j hj hj
          case measure => simp [intOf]; omega
    · obtain rfl : k = qs.length := by omega
      rw [List.take_length] at hR
      have hll := hlen.out qs.length
      rw [List.take_length] at hll
      have hll1 := hide (show (partsB qs).length ≤ 13200 by omega)
      have hsmA := hide (fun (q : PartD × Value × Value) (hq : q ∈ qs) => show SmallP q from by
        obtain ⟨j, hj, rfl⟩ := List.getElem_of_mem hq
        exact hsm.out j hj hj)
      have hRB := RowB.bytes hR.out
      replace hB := hide hB
      have hwB := hide hB.out.size
      clear hsm hll hR
      go_wp2_with fail
      refine (newReader_any _ _ _ _ hRB (by have := hll1.out; omega)).mono ?_
      rintro e w3 ⟨p, rfl, hp1, hRd, hb3⟩
      have hB3 := hide (hB.out.trans (hb3.mono hB.out.size))
      have hwp := hide (Nat.le_trans hwB.out hp1)
      replace hRd := hide hRd
      clear hB hRB hb3 hp1 hwB
      go_wp2_with fail
      go_loopw [8] (fun i wr => ∃ k : Nat, k ≤ qs.length ∧ i = .int .i64 k ∧ Below w.heap.size w wr ∧ RdS wr p p (some (partsB (qs.drop k)))) (fun i _ => qs.length - (intOf i).toNat)
      case atStart => exact ⟨0, Nat.zero_le _, rfl, hB3.out, hRd.out⟩
      case round =>
        clear hB3 hRd
        obtain ⟨k, hk, rfl, hB, hRd⟩ := hrel
        by_cases hlk : k < qs.length
        · have hok1 := hok.out _ (List.getElem_mem hlk)
          have hli1 := hlt.out _ (List.getElem_mem hlk)
          have hsm1 := hsmA.out _ (List.getElem_mem hlk)
          obtain ⟨M, hM⟩ : ∃ M, M = partsB (qs.drop (k + 1)) := ⟨_, rfl⟩
          have hdr : partsB (qs.drop k) = qs[k].1.bytes ++ M := by
            rw [hM, List.drop_eq_getElem_cons hlk]; rfl
          have hdl : (partsB (qs.drop k)).length ≤ 13200 := by
            have := hll1.out
            rw [← List.take_append_drop k qs, partsB, List.map_append, List.flatten_append, List.length_append] at this
            unfold partsB; omega
          rw [hdr] at hRd hdl
          replace hM := hide hM
          clear hdr
          have hat := hide (fun (W : World) (hW : Below w.heap.size w W) => (hx.out.below hW (Nat.le_refl _)).at_ hlk)
          have hinW := hide (fun (W : World) (hW : Below w.heap.size w W) => (hx.out.below hW (Nat.le_refl _)).2 _ (List.getElem_mem hlk))
          generalize qs[k] = q at *
          obtain ⟨⟨what, n, t, s⟩, xa, xm⟩ := q
          have hinV : ∀ W : World, Below w.heap.size w W → ArgN W (· < w.heap.size) xa s.alarms.length (s.alarms.map AlarmD.cells).flatten ∧ ArgN W (· < w.heap.size) xm s.mod.length (s.mod.map NamedD.cells).flatten := fun W hW => hinW.out W hW
          replace hinV := hide hinV
          clear hinW
          obtain ⟨Aa, ca, rfl, hna⟩ := (hinV.out wr hB).1.slice
          obtain ⟨Am, cm, rfl, -⟩ := (hinV.out wr hB).2.slice
          unfold maxLen at hna
          obtain ⟨-, b, o, rfl, hb, hcell⟩ := hat.out wr hB
          have hd : ∀ W, Below w.heap.size w W → W.cell? ⟨b, o + k * 9, none⟩ = some (.int .u8 what) ∧ W.cell? ⟨b, o + k * 9 + 1, none⟩ = some (.int .u64 n) ∧ W.cell? ⟨b, o + k * 9 + 2, none⟩ = some (.string t) ∧ W.cell? ⟨b, o + k * 9 + 3, none⟩ = some (.slice Aa s.alarms.length ca) ∧ W.cell? ⟨b, o + k * 9 + 4, none⟩ = some (.bool s.ends) ∧ W.cell? ⟨b, o + k * 9 + 5, none⟩ = some (.bool s.ret.some) ∧ W.cell? ⟨b, o + k * 9 + 6, none⟩ = some (.int .i64 s.ret.lo) ∧ W.cell? ⟨b, o + k * 9 + 7, none⟩ = some (.int .i64 s.ret.hi) ∧ W.cell? ⟨b, o + k * 9 + 8, none⟩ = some (.slice Am s.mod.length cm) := by
            intro W hW'
            obtain ⟨-, b', o', e, -, hc⟩ := hat.out W hW'
            have e2 := Option.some.inj e
            injection e2 with e3 e4 _
            subst e3 e4
            exact ⟨hc 0 _ (by decide) rfl, hc 1 _ (by decide) rfl, hc 2 _ (by decide) rfl, hc 3 _ (by decide) rfl, hc 4 _ (by decide) rfl, hc 5 _ (by decide) rfl, hc 6 _ (by decide) rfl, hc 7 _ (by decide) rfl, hc 8 _ (by decide) rfl⟩
          replace hd := hide hd
          clear hcell hat

          obtain ⟨c0, c1', c2, c3, c4, c5, c6, c7, c8⟩ := hd.out wr hB
          have hq := hinV.out wr hB
          have hpw := RdS.lt hRd
          have hnb := hide (show ¬ At p b from fun h => by have h2 : b = p := h; have := hwp.out; omega)
          have hqa := hide (hq.1.mono fun g _ (hg : g < w.heap.size) => (show g ≠ p from by have := hwp.out; omega))
          have hqm := hide (hq.2.mono fun g _ (hg : g < w.heap.size) => (show g ≠ p from by have := hwp.out; omega))
          have hfin := hide (fun (W : World) (hU : Upd (At p) wr W) => hB.trans (hU.below (B := w.heap.size) hB.size fun g hg => by have h2 : g = p := hg; have := hwp.out; omega))
          have hmod : what % 5 = 0 ∨ what % 5 = 1 ∨ what % 5 = 2 ∨ what % 5 = 3 ∨ what % 5 = 4 := by omega
          have hput : ∀ r : Nat, what % 5 = r → (PartD.bytes ⟨what, n, t, s⟩ = match r with | 0 => num n | 1 => num (zig (toI n)) | 2 => text t | 3 => [bit (n % 2 == 1)] | _ => s.bytes) := by
            intro r hr
            unfold PartD.bytes
            rw [hr]
            rfl
          have hn64 : n < 18446744073709551616 := hok1.2.1
          have hwr := hide (toI_wrap hn64)
          have hfit := hide (toI_fits hn64)
          have ht100 : t.size ≤ 100 := hli1.1
          have hso := hide (show s.ok from hok1.2.2)
          have hsl := hide (show s.light from hli1.2)
          have hsa := hide (show ∀ a ∈ s.alarms, SmallA a from hsm1)
          replace hB := hide hB
          replace hpw := hide hpw
          replace hd := hide hd.out
          clear hd hq hok1 hli1 hsm1 hinV hsmA
          rcases hmod with h | h | h | h | h
          · have hm : (what : Int) % 5 = 0 := by omega
            rw [hput 0 h] at hRd
            have hrd := hide (show read 0 dnum0 (some (num n ++ M)) = (n, some M) from by unfold read; rw [Option.bind_some, dnum0_num M hn64])
            replace hRd := hide (show RdS wr p p (some (num n ++ M)) from hRd)
            replace c0 := c0
            have hc1 := hide c1'
            clear h hput c1' c2 c3 c4 c5 c6 c7 c8
            go_wp2_with fail
            refine wp_region_flow (At p) (factAt [(fun v _ => v = (.pointer (some ⟨p, 0, none⟩))), (fun v _ => v = (.int .u64 n)), (fun v _ => v = (.slice (some ⟨b, o, none⟩) qs.length cx)), (fun v _ => v = (.int .i64 k)), (fun v _ => v = (.pointer (some ⟨b, o + k * 9, none⟩))), (fun v _ => v = (.pointer (some ⟨b, o + k * 9 + 1, none⟩))), (fun v _ => v = (.int .u64 n)), (fun v _ => v = (.bool true)), (fun v _ => v = (.bool true))]) [none, some (fun _ w => RdS w p p (some (M)))] (fun w => RdS w p p (some (num n ++ M))) (by kernel_rfl) (fkept_at ⟨FKept.eq _, FKept.eq _, FKept.eq _, FKept.eq _, FKept.eq _, FKept.eq _, FKept.eq _, FKept.eq _, FKept.eq _, trivial⟩) (fun w w' h hb => RdS.upd h (.of_below (fun _ => False) hb) id fun _ _ => id) ⟨fun _ _ _ h hb => RdS.upd h (.of_below (fun _ => False) hb) id fun _ _ => id, trivial⟩ (by kernel_rfl) (by kernel_rfl) (by kernel_rfl) (by kernel_rfl) (Nat.le_of_ble_eq_true (by kernel_rfl)) ?_ ⟨?_, ?_, ?_, ?_, ?_, ?_, ?_, ?_, ?_, trivial⟩ ?_
            · exact hRd.out
            · intro T w Q hu hs hv hw hd
              have hx7 : T.getD 7 undef = (.pointer (some ⟨p, 0, none⟩)) := hv 7 (by kernel_rfl)
              refine .inl ⟨wanted_none rfl, ?_⟩
              clear hd hv hu hs hw
              go_simp
              exact ⟨_, rfl, DstOk.some rfl, Below.refl _ _, rfl⟩
            · intro T w Q hu hs hv hw hd hc0
              have hc : (fun w => RdS w p p (some (num n ++ M))) w := hc0
              have hx90 : T.getD 90 undef = (.pointer (some ⟨p, 0, none⟩)) := Deps.at 0 hd (by kernel_rfl)
              replace hc := hide hc
              refine .inl ⟨wanted_none rfl, ?_⟩
              have hN := rNum_any p p _ w hc.out
              rw [hrd.out] at hN
              replace hN := hide hN
              clear hd hv hs hw
              go_simp
              refine hN.out.mono ?_
              rintro e w2 ⟨rfl, hU, hR2⟩
              exact ⟨_, rfl, DstOk.some rfl, hU, rfl, hR2⟩
            · intro T w Q hu hs hv hw hd
              have hx0 : T.getD 0 undef = (.slice (some ⟨b, o, none⟩) qs.length cx) := hv 0 (by kernel_rfl)
              refine .inl ⟨wanted_none rfl, ?_⟩
              clear hd hv hu hs hw
              go_simp
              exact ⟨_, rfl, DstOk.some rfl, Below.refl _ _, rfl⟩
            · intro T w Q hu hs hv hw hd
              have hx8 : T.getD 8 undef = (.int .i64 k) := hv 8 (by kernel_rfl)
              refine .inl ⟨wanted_none rfl, ?_⟩
              clear hd hv hu hs hw
              go_simp
              exact ⟨_, rfl, DstOk.some rfl, Below.refl _ _, rfl⟩
            · intro T w Q hu hs hv hw hd
              have hx92 : T.getD 92 undef = (.slice (some ⟨b, o, none⟩) qs.length cx) := Deps.at 2 hd (by kernel_rfl)
              have hx93 : T.getD 93 undef = (.int .i64 k) := Deps.at 3 hd (by kernel_rfl)
              refine .inl ⟨wanted_none rfl, ?_⟩
              clear hd hv hu hs hw
              go_simp
              exact ⟨_, rfl, DstOk.some rfl, Below.refl _ _, rfl⟩
            · intro T w Q hu hs hv hw hd
              have hx94 : T.getD 94 undef = (.pointer (some ⟨b, o + k * 9, none⟩)) := Deps.at 4 hd (by kernel_rfl)
              refine .inl ⟨wanted_none rfl, ?_⟩
              clear hd hv hu hs hw
              go_simp
              exact ⟨_, rfl, DstOk.some rfl, Below.refl _ _, rfl⟩
            · intro T w Q hu hs hv hw hd
              have hx95 : T.getD 95 undef = (.pointer (some ⟨b, o + k * 9 + 1, none⟩)) := Deps.at 5 hd (by kernel_rfl)
              refine .inl ⟨wanted_none rfl, ?_⟩
              have hcc := hu.cell hc1.out hnb.out
              clear hd hv hu hs hw
              go_simp
              exact ⟨_, rfl, DstOk.some rfl, Below.refl _ _, rfl⟩
            · intro T w Q hu hs hv hw hd
              have hx91 : T.getD 91 undef = (.int .u64 n) := Deps.at 1 hd (by kernel_rfl)
              have hx96 : T.getD 96 undef = (.int .u64 n) := Deps.at 6 hd (by kernel_rfl)
              refine .inl ⟨wanted_none rfl, ?_⟩
              clear hd hv hs hu hw
              go_simp
              exact ⟨_, rfl, DstOk.some rfl, Below.refl _ _, (by show Value.bool _ = Value.bool true; simp)⟩
            · intro T w Q hu hs hv hw hd
              have hx97 : T.getD 97 undef = (.bool true) := Deps.at 7 hd (by kernel_rfl)
              refine .inl ⟨wanted_none rfl, ?_⟩
              clear hd hv hu hs hw
              go_simp
              exact ⟨_, rfl, DstOk.some rfl, Below.refl _ _, rfl⟩
            intro T w hu hs hv hf hcur
            have hcur1 : (fun (w : World) => RdS w p p (some (M))) w := hcur
            replace hcur1 := hcur1
            have hT : T = #[T.getD 0 undef, T.getD 1 undef, T.getD 2 undef, T.getD 3 undef, T.getD 4 undef, T.getD 5 undef, T.getD 6 undef, T.getD 7 undef, T.getD 8 undef, T.getD 9 undef, T.getD 10 undef, T.getD 11 undef, T.getD 12 undef, T.getD 13 undef, T.getD 14 undef, T.getD 15 undef, T.getD 16 undef, T.getD 17 undef, T.getD 18 undef, T.getD 19 undef, T.getD 20 undef, T.getD 21 undef, T.getD 22 undef, T.getD 23 undef, T.getD 24 undef, T.getD 25 undef, T.getD 26 undef, T.getD 27 undef, T.getD 28 undef, T.getD 29 undef, T.getD 30 undef, T.getD 31 undef, T.getD 32 undef, T.getD 33 undef, T.getD 34 undef, T.getD 35 undef, T.getD 36 undef, T.getD 37 undef, T.getD 38 undef, T.getD 39 undef, T.getD 40 undef, T.getD 41 undef, T.getD 42 undef, T.getD 43 undef, T.getD 44 undef, T.getD 45 undef, T.getD 46 undef, T.getD 47 undef, T.getD 48 undef, T.getD 49 undef, T.getD 50 undef, T.getD 51 undef, T.getD 52 undef, T.getD 53 undef, T.getD 54 undef, T.getD 55 undef, T.getD 56 undef, T.getD 57 undef, T.getD 58 undef, T.getD 59 undef, T.getD 60 undef, T.getD 61 undef, T.getD 62 undef, T.getD 63 undef, T.getD 64 undef, T.getD 65 undef, T.getD 66 undef, T.getD 67 undef, T.getD 68 undef, T.getD 69 undef, T.getD 70 undef, T.getD 71 undef, T.getD 72 undef, T.getD 73 undef, T.getD 74 undef, T.getD 75 undef, T.getD 76 undef, T.getD 77 undef, T.getD 78 undef, T.getD 79 undef, T.getD 80 undef, T.getD 81 undef, T.getD 82 undef, T.getD 83 undef, T.getD 84 undef, T.getD 85 undef, T.getD 86 undef, T.getD 87 undef, T.getD 88 undef, T.getD 89 undef, T.getD 90 undef, T.getD 91 undef, T.getD 92 undef, T.getD 93 undef, T.getD 94 undef, T.getD 95 undef, T.getD 96 undef, T.getD 97 undef, T.getD 98 undef, T.getD 99 undef, T.getD 100 undef, T.getD 101 undef, T.getD 102 undef, T.getD 103 undef, T.getD 104 undef, T.getD 105 undef, T.getD 106 undef, T.getD 107 undef, T.getD 108 undef, T.getD 109 undef, T.getD 110 undef, T.getD 111 undef, T.getD 112 undef, T.getD 113 undef, T.getD 114 undef, T.getD 115 undef, T.getD 116 undef, T.getD 117 undef, T.getD 118 undef, T.getD 119 undef, T.getD 120 undef, T.getD 121 undef, T.getD 122 undef, T.getD 123 undef, T.getD 124 undef, T.getD 125 undef, T.getD 126 undef, T.getD 127 undef, T.getD 128 undef, T.getD 129 undef, T.getD 130 undef, T.getD 131 undef, T.getD 132 undef, T.getD 133 undef, T.getD 134 undef, T.getD 135 undef] := expl hs
            rw [hT]
            clear hT
            rw [show T.getD 0 undef = (.slice (some ⟨b, o, none⟩) qs.length cx) from hv 0 (by kernel_rfl)]
            rw [hv 1 (by kernel_rfl)]
            rw [hv 2 (by kernel_rfl)]
            rw [hv 3 (by kernel_rfl)]
            rw [hv 4 (by kernel_rfl)]
            rw [hv 5 (by kernel_rfl)]
            rw [hv 6 (by kernel_rfl)]
            rw [show T.getD 7 undef = (.pointer (some ⟨p, 0, none⟩)) from hv 7 (by kernel_rfl)]
            rw [show T.getD 8 undef = (.int .i64 k) from hv 8 (by kernel_rfl)]
            rw [show T.getD 9 undef = (.bool true) from hf 8 (by decide)]
            rw [hv 10 (by kernel_rfl)]
            rw [hv 11 (by kernel_rfl)]
            rw [hv 12 (by kernel_rfl)]
            rw [hv 13 (by kernel_rfl)]
            rw [hv 14 (by kernel_rfl)]
            rw [hv 15 (by kernel_rfl)]
            rw [hv 16 (by kernel_rfl)]
            rw [hv 17 (by kernel_rfl)]
            rw [hv 18 (by kernel_rfl)]
            rw [hv 19 (by kernel_rfl)]
            rw [hv 20 (by kernel_rfl)]
            rw [hv 21 (by kernel_rfl)]
            rw [hv 22 (by kernel_rfl)]
            rw [hv 23 (by kernel_rfl)]
            rw [hv 24 (by kernel_rfl)]
            rw [hv 25 (by kernel_rfl)]
            rw [hv 26 (by kernel_rfl)]
            rw [hv 27 (by kernel_rfl)]
            rw [hv 28 (by kernel_rfl)]
            rw [hv 29 (by kernel_rfl)]
            rw [hv 30 (by kernel_rfl)]
            rw [hv 31 (by kernel_rfl)]
            rw [hv 32 (by kernel_rfl)]
            rw [hv 33 (by kernel_rfl)]
            rw [hv 34 (by kernel_rfl)]
            rw [hv 35 (by kernel_rfl)]
            rw [hv 36 (by kernel_rfl)]
            rw [hv 37 (by kernel_rfl)]
            rw [hv 38 (by kernel_rfl)]
            rw [hv 39 (by kernel_rfl)]
            rw [hv 40 (by kernel_rfl)]
            rw [hv 41 (by kernel_rfl)]
            rw [hv 42 (by kernel_rfl)]
            rw [hv 43 (by kernel_rfl)]
            rw [hv 44 (by kernel_rfl)]
            rw [hv 45 (by kernel_rfl)]
            rw [hv 46 (by kernel_rfl)]
            rw [hv 47 (by kernel_rfl)]
            rw [hv 48 (by kernel_rfl)]
            rw [hv 49 (by kernel_rfl)]
            rw [hv 50 (by kernel_rfl)]
            rw [hv 51 (by kernel_rfl)]
            rw [hv 52 (by kernel_rfl)]
            rw [hv 53 (by kernel_rfl)]
            rw [hv 54 (by kernel_rfl)]
            rw [hv 55 (by kernel_rfl)]
            rw [hv 56 (by kernel_rfl)]
            rw [hv 57 (by kernel_rfl)]
            rw [hv 58 (by kernel_rfl)]
            rw [hv 59 (by kernel_rfl)]
            rw [hv 60 (by kernel_rfl)]
            rw [hv 61 (by kernel_rfl)]
            rw [hv 62 (by kernel_rfl)]
            rw [hv 63 (by kernel_rfl)]
            rw [hv 64 (by kernel_rfl)]
            rw [hv 65 (by kernel_rfl)]
            rw [hv 66 (by kernel_rfl)]
            rw [hv 67 (by kernel_rfl)]
            rw [hv 68 (by kernel_rfl)]
            rw [hv 69 (by kernel_rfl)]
            rw [hv 70 (by kernel_rfl)]
            rw [hv 71 (by kernel_rfl)]
            rw [hv 72 (by kernel_rfl)]
            rw [hv 73 (by kernel_rfl)]
            rw [hv 74 (by kernel_rfl)]
            rw [hv 75 (by kernel_rfl)]
            rw [hv 76 (by kernel_rfl)]
            rw [hv 77 (by kernel_rfl)]
            rw [hv 78 (by kernel_rfl)]
            rw [hv 79 (by kernel_rfl)]
            rw [hv 80 (by kernel_rfl)]
            rw [hv 81 (by kernel_rfl)]
            rw [hv 82 (by kernel_rfl)]
            rw [hv 83 (by kernel_rfl)]
            rw [hv 84 (by kernel_rfl)]
            rw [hv 85 (by kernel_rfl)]
            rw [hv 86 (by kernel_rfl)]
            rw [hv 87 (by kernel_rfl)]
            rw [hv 88 (by kernel_rfl)]
            rw [hv 89 (by kernel_rfl)]
            rw [show T.getD 90 undef = (.pointer (some ⟨p, 0, none⟩)) from hf 0 (by decide)]
            rw [show T.getD 91 undef = (.int .u64 n) from hf 1 (by decide)]
            rw [show T.getD 92 undef = (.slice (some ⟨b, o, none⟩) qs.length cx) from hf 2 (by decide)]
            rw [show T.getD 93 undef = (.int .i64 k) from hf 3 (by decide)]
            rw [show T.getD 94 undef = (.pointer (some ⟨b, o + k * 9, none⟩)) from hf 4 (by decide)]
            rw [show T.getD 95 undef = (.pointer (some ⟨b, o + k * 9 + 1, none⟩)) from hf 5 (by decide)]
            rw [show T.getD 96 undef = (.int .u64 n) from hf 6 (by decide)]
            rw [show T.getD 97 undef = (.bool true) from hf 7 (by decide)]
            rw [hv 98 (by kernel_rfl)]
            rw [hv 99 (by kernel_rfl)]
            rw [hv 100 (by kernel_rfl)]
            rw [hv 101 (by kernel_rfl)]
            rw [hv 102 (by kernel_rfl)]
            rw [hv 103 (by kernel_rfl)]
            rw [hv 104 (by kernel_rfl)]
            rw [hv 105 (by kernel_rfl)]
            rw [hv 106 (by kernel_rfl)]
            rw [hv 107 (by kernel_rfl)]
            rw [hv 108 (by kernel_rfl)]
            rw [hv 109 (by kernel_rfl)]
            rw [hv 110 (by kernel_rfl)]
            rw [hv 111 (by kernel_rfl)]
            rw [hv 112 (by kernel_rfl)]
            rw [hv 113 (by kernel_rfl)]
            rw [hv 114 (by kernel_rfl)]
            rw [hv 115 (by kernel_rfl)]
            rw [hv 116 (by kernel_rfl)]
            rw [hv 117 (by kernel_rfl)]
            rw [hv 118 (by kernel_rfl)]
            rw [hv 119 (by kernel_rfl)]
            rw [hv 120 (by kernel_rfl)]
            rw [hv 121 (by kernel_rfl)]
            rw [hv 122 (by kernel_rfl)]
            rw [hv 123 (by kernel_rfl)]
            rw [hv 124 (by kernel_rfl)]
            rw [hv 125 (by kernel_rfl)]
            rw [hv 126 (by kernel_rfl)]
            rw [hv 127 (by kernel_rfl)]
            rw [hv 128 (by kernel_rfl)]
            rw [hv 129 (by kernel_rfl)]
            rw [hv 130 (by kernel_rfl)]
            rw [hv 131 (by kernel_rfl)]
            rw [hv 132 (by kernel_rfl)]
            rw [hv 133 (by kernel_rfl)]
            rw [hv 134 (by kernel_rfl)]
            rw [hv 135 (by kernel_rfl)]
            clear hf hs hv hcur
            simp only [getD_toArray, List.getD_cons_succ, List.getD_cons_zero]
            clear T
            clear hnb
            go_wp2_with fail
            go_roundw
            case rel => exact ⟨k + 1, by omega, by go_num, hfin.out _ hu, by rw [← hM.out]; exact hcur1⟩
            case measure => simp [intOf]; omega
          · have hm : (what : Int) % 5 = 1 := by omega
            rw [hput 1 h] at hRd
            have hrd := hide (show read 0 dint (some (num (zig (toI n)) ++ M)) = (toI n, some M) from by unfold read; rw [Option.bind_some, dint_num M hfit.out.1 hfit.out.2])
            replace hRd := hide (show RdS wr p p (some (num (zig (toI n)) ++ M)) from hRd)
            have hc1 := hide c1'
            clear h hput c1' c2 c3 c4 c5 c6 c7 c8
            go_wp2_with fail
            refine wp_region_flow (At p) (factAt [(fun v _ => v = (.pointer (some ⟨p, 0, none⟩))), (fun v _ => v = (.int .i64 (toI n))), (fun v _ => v = (.slice (some ⟨b, o, none⟩) qs.length cx)), (fun v _ => v = (.int .i64 k)), (fun v _ => v = (.pointer (some ⟨b, o + k * 9, none⟩))), (fun v _ => v = (.pointer (some ⟨b, o + k * 9 + 1, none⟩))), (fun v _ => v = (.int .u64 n)), (fun v _ => v = (.int .i64 (toI n))), (fun v _ => v = (.bool true)), (fun v _ => v = (.bool true))]) [none, some (fun _ w => RdS w p p (some (M)))] (fun w => RdS w p p (some (num (zig (toI n)) ++ M))) (by kernel_rfl) (fkept_at ⟨FKept.eq _, FKept.eq _, FKept.eq _, FKept.eq _, FKept.eq _, FKept.eq _, FKept.eq _, FKept.eq _, FKept.eq _, FKept.eq _, trivial⟩) (fun w w' h hb => RdS.upd h (.of_below (fun _ => False) hb) id fun _ _ => id) ⟨fun _ _ _ h hb => RdS.upd h (.of_below (fun _ => False) hb) id fun _ _ => id, trivial⟩ (by kernel_rfl) (by kernel_rfl) (by kernel_rfl) (by kernel_rfl) (Nat.le_of_ble_eq_true (by kernel_rfl)) ?_ ⟨?_, ?_, ?_, ?_, ?_, ?_, ?_, ?_, ?_, ?_, trivial⟩ ?_
            · exact hRd.out
            · intro T w Q hu hs hv hw hd
              have hx7 : T.getD 7 undef = (.pointer (some ⟨p, 0, none⟩)) := hv 7 (by kernel_rfl)
              refine .inl ⟨wanted_none rfl, ?_⟩
              clear hd hv hu hs hw
              go_simp
              exact ⟨_, rfl, DstOk.some rfl, Below.refl _ _, rfl⟩
            · intro T w Q hu hs hv hw hd hc0
              have hc : (fun w => RdS w p p (some (num (zig (toI n)) ++ M))) w := hc0
              have hx100 : T.getD 100 undef = (.pointer (some ⟨p, 0, none⟩)) := Deps.at 0 hd (by kernel_rfl)
              replace hc := hide hc
              refine .inl ⟨wanted_none rfl, ?_⟩
              have hN := rInt_any p p _ w hc.out
              rw [hrd.out] at hN
              replace hN := hide hN
              clear hd hv hs hw
              go_simp
              refine hN.out.mono ?_
              rintro e w2 ⟨rfl, hU, hR2⟩
              exact ⟨_, rfl, DstOk.some rfl, hU, rfl, hR2⟩
            · intro T w Q hu hs hv hw hd
              have hx0 : T.getD 0 undef = (.slice (some ⟨b, o, none⟩) qs.length cx) := hv 0 (by kernel_rfl)
              refine .inl ⟨wanted_none rfl, ?_⟩
              clear hd hv hu hs hw
              go_simp
              exact ⟨_, rfl, DstOk.some rfl, Below.refl _ _, rfl⟩
            · intro T w Q hu hs hv hw hd
              have hx8 : T.getD 8 undef = (.int .i64 k) := hv 8 (by kernel_rfl)
              refine .inl ⟨wanted_none rfl, ?_⟩
              clear hd hv hu hs hw
              go_simp
              exact ⟨_, rfl, DstOk.some rfl, Below.refl _ _, rfl⟩
            · intro T w Q hu hs hv hw hd
              have hx102 : T.getD 102 undef = (.slice (some ⟨b, o, none⟩) qs.length cx) := Deps.at 2 hd (by kernel_rfl)
              have hx103 : T.getD 103 undef = (.int .i64 k) := Deps.at 3 hd (by kernel_rfl)
              refine .inl ⟨wanted_none rfl, ?_⟩
              clear hd hv hu hs hw
              go_simp
              exact ⟨_, rfl, DstOk.some rfl, Below.refl _ _, rfl⟩
            · intro T w Q hu hs hv hw hd
              have hx104 : T.getD 104 undef = (.pointer (some ⟨b, o + k * 9, none⟩)) := Deps.at 4 hd (by kernel_rfl)
              refine .inl ⟨wanted_none rfl, ?_⟩
              clear hd hv hu hs hw
              go_simp
              exact ⟨_, rfl, DstOk.some rfl, Below.refl _ _, rfl⟩
            · intro T w Q hu hs hv hw hd
              have hx105 : T.getD 105 undef = (.pointer (some ⟨b, o + k * 9 + 1, none⟩)) := Deps.at 5 hd (by kernel_rfl)
              refine .inl ⟨wanted_none rfl, ?_⟩
              have hcc := hu.cell hc1.out hnb.out
              clear hd hv hu hs hw
              go_simp
              exact ⟨_, rfl, DstOk.some rfl, Below.refl _ _, rfl⟩
            · intro T w Q hu hs hv hw hd
              have hx106 : T.getD 106 undef = (.int .u64 n) := Deps.at 6 hd (by kernel_rfl)
              refine .inl ⟨wanted_none rfl, ?_⟩
              clear hd hv hs hu hw
              have hwr2 := hwr.out
              go_simp
              exact ⟨_, rfl, DstOk.some rfl, Below.refl _ _, (by first | rfl | simp [hwr2])⟩
            · intro T w Q hu hs hv hw hd
              have hx101 : T.getD 101 undef = (.int .i64 (toI n)) := Deps.at 1 hd (by kernel_rfl)
              have hx107 : T.getD 107 undef = (.int .i64 (toI n)) := Deps.at 7 hd (by kernel_rfl)
              refine .inl ⟨wanted_none rfl, ?_⟩
              clear hd hv hs hu hw
              go_simp
              exact ⟨_, rfl, DstOk.some rfl, Below.refl _ _, (by show Value.bool _ = Value.bool true; simp)⟩
            · intro T w Q hu hs hv hw hd
              have hx108 : T.getD 108 undef = (.bool true) := Deps.at 8 hd (by kernel_rfl)
              refine .inl ⟨wanted_none rfl, ?_⟩
              clear hd hv hu hs hw
              go_simp
              exact ⟨_, rfl, DstOk.some rfl, Below.refl _ _, rfl⟩
            intro T w hu hs hv hf hcur
            have hcur1 : (fun (w : World) => RdS w p p (some (M))) w := hcur
            replace hcur1 := hcur1
            have hT : T = #[T.getD 0 undef, T.getD 1 undef, T.getD 2 undef, T.getD 3 undef, T.getD 4 undef, T.getD 5 undef, T.getD 6 undef, T.getD 7 undef, T.getD 8 undef, T.getD 9 undef, T.getD 10 undef, T.getD 11 undef, T.getD 12 undef, T.getD 13 undef, T.getD 14 undef, T.getD 15 undef, T.getD 16 undef, T.getD 17 undef, T.getD 18 undef, T.getD 19 undef, T.getD 20 undef, T.getD 21 undef, T.getD 22 undef, T.getD 23 undef, T.getD 24 undef, T.getD 25 undef, T.getD 26 undef, T.getD 27 undef, T.getD 28 undef, T.getD 29 undef, T.getD 30 undef, T.getD 31 undef, T.getD 32 undef, T.getD 33 undef, T.getD 34 undef, T.getD 35 undef, T.getD 36 undef, T.getD 37 undef, T.getD 38 undef, T.getD 39 undef, T.getD 40 undef, T.getD 41 undef, T.getD 42 undef, T.getD 43 undef, T.getD 44 undef, T.getD 45 undef, T.getD 46 undef, T.getD 47 undef, T.getD 48 undef, T.getD 49 undef, T.getD 50 undef, T.getD 51 undef, T.getD 52 undef, T.getD 53 undef, T.getD 54 undef, T.getD 55 undef, T.getD 56 undef, T.getD 57 undef, T.getD 58 undef, T.getD 59 undef, T.getD 60 undef, T.getD 61 undef, T.getD 62 undef, T.getD 63 undef, T.getD 64 undef, T.getD 65 undef, T.getD 66 undef, T.getD 67 undef, T.getD 68 undef, T.getD 69 undef, T.getD 70 undef, T.getD 71 undef, T.getD 72 undef, T.getD 73 undef, T.getD 74 undef, T.getD 75 undef, T.getD 76 undef, T.getD 77 undef, T.getD 78 undef, T.getD 79 undef, T.getD 80 undef, T.getD 81 undef, T.getD 82 undef, T.getD 83 undef, T.getD 84 undef, T.getD 85 undef, T.getD 86 undef, T.getD 87 undef, T.getD 88 undef, T.getD 89 undef, T.getD 90 undef, T.getD 91 undef, T.getD 92 undef, T.getD 93 undef, T.getD 94 undef, T.getD 95 undef, T.getD 96 undef, T.getD 97 undef, T.getD 98 undef, T.getD 99 undef, T.getD 100 undef, T.getD 101 undef, T.getD 102 undef, T.getD 103 undef, T.getD 104 undef, T.getD 105 undef, T.getD 106 undef, T.getD 107 undef, T.getD 108 undef, T.getD 109 undef, T.getD 110 undef, T.getD 111 undef, T.getD 112 undef, T.getD 113 undef, T.getD 114 undef, T.getD 115 undef, T.getD 116 undef, T.getD 117 undef, T.getD 118 undef, T.getD 119 undef, T.getD 120 undef, T.getD 121 undef, T.getD 122 undef, T.getD 123 undef, T.getD 124 undef, T.getD 125 undef, T.getD 126 undef, T.getD 127 undef, T.getD 128 undef, T.getD 129 undef, T.getD 130 undef, T.getD 131 undef, T.getD 132 undef, T.getD 133 undef, T.getD 134 undef, T.getD 135 undef] := expl hs
            rw [hT]
            clear hT
            rw [show T.getD 0 undef = (.slice (some ⟨b, o, none⟩) qs.length cx) from hv 0 (by kernel_rfl)]
            rw [hv 1 (by kernel_rfl)]
            rw [hv 2 (by kernel_rfl)]
            rw [hv 3 (by kernel_rfl)]
            rw [hv 4 (by kernel_rfl)]
            rw [hv 5 (by kernel_rfl)]
            rw [hv 6 (by kernel_rfl)]
            rw [show T.getD 7 undef = (.pointer (some ⟨p, 0, none⟩)) from hv 7 (by kernel_rfl)]
            rw [show T.getD 8 undef = (.int .i64 k) from hv 8 (by kernel_rfl)]
            rw [show T.getD 9 undef = (.bool true) from hf 9 (by decide)]
            rw [hv 10 (by kernel_rfl)]
            rw [hv 11 (by kernel_rfl)]
            rw [hv 12 (by kernel_rfl)]
            rw [hv 13 (by kernel_rfl)]
            rw [hv 14 (by kernel_rfl)]
            rw [hv 15 (by kernel_rfl)]
            rw [hv 16 (by kernel_rfl)]
            rw [hv 17 (by kernel_rfl)]
            rw [hv 18 (by kernel_rfl)]
            rw [hv 19 (by kernel_rfl)]
            rw [hv 20 (by kernel_rfl)]
            rw [hv 21 (by kernel_rfl)]
            rw [hv 22 (by kernel_rfl)]
            rw [hv 23 (by kernel_rfl)]
            rw [hv 24 (by kernel_rfl)]
            rw [hv 25 (by kernel_rfl)]
            rw [hv 26 (by kernel_rfl)]
            rw [hv 27 (by kernel_rfl)]
            rw [hv 28 (by kernel_rfl)]
            rw [hv 29 (by kernel_rfl)]
            rw [hv 30 (by kernel_rfl)]
            rw [hv 31 (by kernel_rfl)]
            rw [hv 32 (by kernel_rfl)]
            rw [hv 33 (by kernel_rfl)]
            rw [hv 34 (by kernel_rfl)]
            rw [hv 35 (by kernel_rfl)]
            rw [hv 36 (by kernel_rfl)]
            rw [hv 37 (by kernel_rfl)]
            rw [hv 38 (by kernel_rfl)]
            rw [hv 39 (by kernel_rfl)]
            rw [hv 40 (by kernel_rfl)]
            rw [hv 41 (by kernel_rfl)]
            rw [hv 42 (by kernel_rfl)]
            rw [hv 43 (by kernel_rfl)]
            rw [hv 44 (by kernel_rfl)]
            rw [hv 45 (by kernel_rfl)]
            rw [hv 46 (by kernel_rfl)]
            rw [hv 47 (by kernel_rfl)]
            rw [hv 48 (by kernel_rfl)]
            rw [hv 49 (by kernel_rfl)]
            rw [hv 50 (by kernel_rfl)]
            rw [hv 51 (by kernel_rfl)]
            rw [hv 52 (by kernel_rfl)]
            rw [hv 53 (by kernel_rfl)]
            rw [hv 54 (by kernel_rfl)]
            rw [hv 55 (by kernel_rfl)]
            rw [hv 56 (by kernel_rfl)]
            rw [hv 57 (by kernel_rfl)]
            rw [hv 58 (by kernel_rfl)]
            rw [hv 59 (by kernel_rfl)]
            rw [hv 60 (by kernel_rfl)]
            rw [hv 61 (by kernel_rfl)]
            rw [hv 62 (by kernel_rfl)]
            rw [hv 63 (by kernel_rfl)]
            rw [hv 64 (by kernel_rfl)]
            rw [hv 65 (by kernel_rfl)]
            rw [hv 66 (by kernel_rfl)]
            rw [hv 67 (by kernel_rfl)]
            rw [hv 68 (by kernel_rfl)]
            rw [hv 69 (by kernel_rfl)]
            rw [hv 70 (by kernel_rfl)]
            rw [hv 71 (by kernel_rfl)]
            rw [hv 72 (by kernel_rfl)]
            rw [hv 73 (by kernel_rfl)]
            rw [hv 74 (by kernel_rfl)]
            rw [hv 75 (by kernel_rfl)]
            rw [hv 76 (by kernel_rfl)]
            rw [hv 77 (by kernel_rfl)]
            rw [hv 78 (by kernel_rfl)]
            rw [hv 79 (by kernel_rfl)]
            rw [hv 80 (by kernel_rfl)]
            rw [hv 81 (by kernel_rfl)]
            rw [hv 82 (by kernel_rfl)]
            rw [hv 83 (by kernel_rfl)]
            rw [hv 84 (by kernel_rfl)]
            rw [hv 85 (by kernel_rfl)]
            rw [hv 86 (by kernel_rfl)]
            rw [hv 87 (by kernel_rfl)]
            rw [hv 88 (by kernel_rfl)]
            rw [hv 89 (by kernel_rfl)]
            rw [hv 90 (by kernel_rfl)]
            rw [hv 91 (by kernel_rfl)]
            rw [hv 92 (by kernel_rfl)]
            rw [hv 93 (by kernel_rfl)]
            rw [hv 94 (by kernel_rfl)]
            rw [hv 95 (by kernel_rfl)]
            rw [hv 96 (by kernel_rfl)]
            rw [hv 97 (by kernel_rfl)]
            rw [hv 98 (by kernel_rfl)]
            rw [hv 99 (by kernel_rfl)]
            rw [show T.getD 100 undef = (.pointer (some ⟨p, 0, none⟩)) from hf 0 (by decide)]
            rw [show T.getD 101 undef = (.int .i64 (toI n)) from hf 1 (by decide)]
            rw [show T.getD 102 undef = (.slice (some ⟨b, o, none⟩) qs.length cx) from hf 2 (by decide)]
            rw [show T.getD 103 undef = (.int .i64 k) from hf 3 (by decide)]
            rw [show T.getD 104 undef = (.pointer (some ⟨b, o + k * 9, none⟩)) from hf 4 (by decide)]
            rw [show T.getD 105 undef = (.pointer (some ⟨b, o + k * 9 + 1, none⟩)) from hf 5 (by decide)]
            rw [show T.getD 106 undef = (.int .u64 n) from hf 6 (by decide)]
            rw [show T.getD 107 undef = (.int .i64 (toI n)) from hf 7 (by decide)]
            rw [show T.getD 108 undef = (.bool true) from hf 8 (by decide)]
            rw [hv 109 (by kernel_rfl)]
            rw [hv 110 (by kernel_rfl)]
            rw [hv 111 (by kernel_rfl)]
            rw [hv 112 (by kernel_rfl)]
            rw [hv 113 (by kernel_rfl)]
            rw [hv 114 (by kernel_rfl)]
            rw [hv 115 (by kernel_rfl)]
            rw [hv 116 (by kernel_rfl)]
            rw [hv 117 (by kernel_rfl)]
            rw [hv 118 (by kernel_rfl)]
            rw [hv 119 (by kernel_rfl)]
            rw [hv 120 (by kernel_rfl)]
            rw [hv 121 (by kernel_rfl)]
            rw [hv 122 (by kernel_rfl)]
            rw [hv 123 (by kernel_rfl)]
            rw [hv 124 (by kernel_rfl)]
            rw [hv 125 (by kernel_rfl)]
            rw [hv 126 (by kernel_rfl)]
            rw [hv 127 (by kernel_rfl)]
            rw [hv 128 (by kernel_rfl)]
            rw [hv 129 (by kernel_rfl)]
            rw [hv 130 (by kernel_rfl)]
            rw [hv 131 (by kernel_rfl)]
            rw [hv 132 (by kernel_rfl)]
            rw [hv 133 (by kernel_rfl)]
            rw [hv 134 (by kernel_rfl)]
            rw [hv 135 (by kernel_rfl)]
            clear hf hs hv hcur
            simp only [getD_toArray, List.getD_cons_succ, List.getD_cons_zero]
            clear T
            clear hnb
            go_wp2_with fail
            go_roundw
            case rel => exact ⟨k + 1, by omega, by go_num, hfin.out _ hu, by rw [← hM.out]; exact hcur1⟩
            case measure => simp [intOf]; omega
          · have hm : (what : Int) % 5 = 2 := by omega
            rw [hput 2 h] at hRd
            have hrd := hide (show read ByteArray.empty dtext (some (text t ++ M)) = (t, some M) from by unfold read; rw [Option.bind_some, dtext_full t M (by omega)])
            replace hRd := hide (show RdS wr p p (some (text t ++ M)) from hRd)
            have hc2 := hide c2
            clear h hput c1' c2 c3 c4 c5 c6 c7 c8
            go_wp2_with fail
            refine wp_region_flow (At p) (factAt [(fun v _ => v = (.pointer (some ⟨p, 0, none⟩))), (fun v _ => v = (.string t)), (fun v _ => v = (.slice (some ⟨b, o, none⟩) qs.length cx)), (fun v _ => v = (.int .i64 k)), (fun v _ => v = (.pointer (some ⟨b, o + k * 9, none⟩))), (fun v _ => v = (.pointer (some ⟨b, o + k * 9 + 2, none⟩))), (fun v _ => v = (.string t)), (fun v _ => v = (.bool true)), (fun v _ => v = (.bool true))]) [none, some (fun _ w => RdS w p p (some (M)))] (fun w => RdS w p p (some (text t ++ M))) (by kernel_rfl) (fkept_at ⟨FKept.eq _, FKept.eq _, FKept.eq _, FKept.eq _, FKept.eq _, FKept.eq _, FKept.eq _, FKept.eq _, FKept.eq _, trivial⟩) (fun w w' h hb => RdS.upd h (.of_below (fun _ => False) hb) id fun _ _ => id) ⟨fun _ _ _ h hb => RdS.upd h (.of_below (fun _ => False) hb) id fun _ _ => id, trivial⟩ (by kernel_rfl) (by kernel_rfl) (by kernel_rfl) (by kernel_rfl) (Nat.le_of_ble_eq_true (by kernel_rfl)) ?_ ⟨?_, ?_, ?_, ?_, ?_, ?_, ?_, ?_, ?_, trivial⟩ ?_
            · exact hRd.out
            · intro T w Q hu hs hv hw hd
              have hx7 : T.getD 7 undef = (.pointer (some ⟨p, 0, none⟩)) := hv 7 (by kernel_rfl)
              refine .inl ⟨wanted_none rfl, ?_⟩
              clear hd hv hu hs hw
              go_simp
              exact ⟨_, rfl, DstOk.some rfl, Below.refl _ _, rfl⟩
            · intro T w Q hu hs hv hw hd hc0
              have hc : (fun w => RdS w p p (some (text t ++ M))) w := hc0
              have hx111 : T.getD 111 undef = (.pointer (some ⟨p, 0, none⟩)) := Deps.at 0 hd (by kernel_rfl)
              replace hc := hide hc
              refine .inl ⟨wanted_none rfl, ?_⟩
              have hN := rText_any p p _ w hc.out
              rw [hrd.out] at hN
              replace hN := hide hN
              clear hd hv hs hw
              go_simp
              refine hN.out.mono ?_
              rintro e w2 ⟨rfl, hU, hR2⟩
              exact ⟨_, rfl, DstOk.some rfl, hU, rfl, hR2⟩
            · intro T w Q hu hs hv hw hd
              have hx0 : T.getD 0 undef = (.slice (some ⟨b, o, none⟩) qs.length cx) := hv 0 (by kernel_rfl)
              refine .inl ⟨wanted_none rfl, ?_⟩
              clear hd hv hu hs hw
              go_simp
              exact ⟨_, rfl, DstOk.some rfl, Below.refl _ _, rfl⟩
            · intro T w Q hu hs hv hw hd
              have hx8 : T.getD 8 undef = (.int .i64 k) := hv 8 (by kernel_rfl)
              refine .inl ⟨wanted_none rfl, ?_⟩
              clear hd hv hu hs hw
              go_simp
              exact ⟨_, rfl, DstOk.some rfl, Below.refl _ _, rfl⟩
            · intro T w Q hu hs hv hw hd
              have hx113 : T.getD 113 undef = (.slice (some ⟨b, o, none⟩) qs.length cx) := Deps.at 2 hd (by kernel_rfl)
              have hx114 : T.getD 114 undef = (.int .i64 k) := Deps.at 3 hd (by kernel_rfl)
              refine .inl ⟨wanted_none rfl, ?_⟩
              clear hd hv hu hs hw
              go_simp
              exact ⟨_, rfl, DstOk.some rfl, Below.refl _ _, rfl⟩
            · intro T w Q hu hs hv hw hd
              have hx115 : T.getD 115 undef = (.pointer (some ⟨b, o + k * 9, none⟩)) := Deps.at 4 hd (by kernel_rfl)
              refine .inl ⟨wanted_none rfl, ?_⟩
              clear hd hv hu hs hw
              go_simp
              exact ⟨_, rfl, DstOk.some rfl, Below.refl _ _, rfl⟩
            · intro T w Q hu hs hv hw hd
              have hx116 : T.getD 116 undef = (.pointer (some ⟨b, o + k * 9 + 2, none⟩)) := Deps.at 5 hd (by kernel_rfl)
              refine .inl ⟨wanted_none rfl, ?_⟩
              have hcc := hu.cell hc2.out hnb.out
              clear hd hv hu hs hw
              go_simp
              exact ⟨_, rfl, DstOk.some rfl, Below.refl _ _, rfl⟩
            · intro T w Q hu hs hv hw hd
              have hx112 : T.getD 112 undef = (.string t) := Deps.at 1 hd (by kernel_rfl)
              have hx117 : T.getD 117 undef = (.string t) := Deps.at 6 hd (by kernel_rfl)
              refine .inl ⟨wanted_none rfl, ?_⟩
              clear hd hv hs hu hw
              go_simp
              exact ⟨_, rfl, DstOk.some rfl, Below.refl _ _, (by show Value.bool _ = Value.bool true; simp)⟩
            · intro T w Q hu hs hv hw hd
              have hx118 : T.getD 118 undef = (.bool true) := Deps.at 7 hd (by kernel_rfl)
              refine .inl ⟨wanted_none rfl, ?_⟩
              clear hd hv hu hs hw
              go_simp
              exact ⟨_, rfl, DstOk.some rfl, Below.refl _ _, rfl⟩
            intro T w hu hs hv hf hcur
            have hcur1 : (fun (w : World) => RdS w p p (some (M))) w := hcur
            replace hcur1 := hcur1
            have hT : T = #[T.getD 0 undef, T.getD 1 undef, T.getD 2 undef, T.getD 3 undef, T.getD 4 undef, T.getD 5 undef, T.getD 6 undef, T.getD 7 undef, T.getD 8 undef, T.getD 9 undef, T.getD 10 undef, T.getD 11 undef, T.getD 12 undef, T.getD 13 undef, T.getD 14 undef, T.getD 15 undef, T.getD 16 undef, T.getD 17 undef, T.getD 18 undef, T.getD 19 undef, T.getD 20 undef, T.getD 21 undef, T.getD 22 undef, T.getD 23 undef, T.getD 24 undef, T.getD 25 undef, T.getD 26 undef, T.getD 27 undef, T.getD 28 undef, T.getD 29 undef, T.getD 30 undef, T.getD 31 undef, T.getD 32 undef, T.getD 33 undef, T.getD 34 undef, T.getD 35 undef, T.getD 36 undef, T.getD 37 undef, T.getD 38 undef, T.getD 39 undef, T.getD 40 undef, T.getD 41 undef, T.getD 42 undef, T.getD 43 undef, T.getD 44 undef, T.getD 45 undef, T.getD 46 undef, T.getD 47 undef, T.getD 48 undef, T.getD 49 undef, T.getD 50 undef, T.getD 51 undef, T.getD 52 undef, T.getD 53 undef, T.getD 54 undef, T.getD 55 undef, T.getD 56 undef, T.getD 57 undef, T.getD 58 undef, T.getD 59 undef, T.getD 60 undef, T.getD 61 undef, T.getD 62 undef, T.getD 63 undef, T.getD 64 undef, T.getD 65 undef, T.getD 66 undef, T.getD 67 undef, T.getD 68 undef, T.getD 69 undef, T.getD 70 undef, T.getD 71 undef, T.getD 72 undef, T.getD 73 undef, T.getD 74 undef, T.getD 75 undef, T.getD 76 undef, T.getD 77 undef, T.getD 78 undef, T.getD 79 undef, T.getD 80 undef, T.getD 81 undef, T.getD 82 undef, T.getD 83 undef, T.getD 84 undef, T.getD 85 undef, T.getD 86 undef, T.getD 87 undef, T.getD 88 undef, T.getD 89 undef, T.getD 90 undef, T.getD 91 undef, T.getD 92 undef, T.getD 93 undef, T.getD 94 undef, T.getD 95 undef, T.getD 96 undef, T.getD 97 undef, T.getD 98 undef, T.getD 99 undef, T.getD 100 undef, T.getD 101 undef, T.getD 102 undef, T.getD 103 undef, T.getD 104 undef, T.getD 105 undef, T.getD 106 undef, T.getD 107 undef, T.getD 108 undef, T.getD 109 undef, T.getD 110 undef, T.getD 111 undef, T.getD 112 undef, T.getD 113 undef, T.getD 114 undef, T.getD 115 undef, T.getD 116 undef, T.getD 117 undef, T.getD 118 undef, T.getD 119 undef, T.getD 120 undef, T.getD 121 undef, T.getD 122 undef, T.getD 123 undef, T.getD 124 undef, T.getD 125 undef, T.getD 126 undef, T.getD 127 undef, T.getD 128 undef, T.getD 129 undef, T.getD 130 undef, T.getD 131 undef, T.getD 132 undef, T.getD 133 undef, T.getD 134 undef, T.getD 135 undef] := expl hs
            rw [hT]
            clear hT
            rw [show T.getD 0 undef = (.slice (some ⟨b, o, none⟩) qs.length cx) from hv 0 (by kernel_rfl)]
            rw [hv 1 (by kernel_rfl)]
            rw [hv 2 (by kernel_rfl)]
            rw [hv 3 (by kernel_rfl)]
            rw [hv 4 (by kernel_rfl)]
            rw [hv 5 (by kernel_rfl)]
            rw [hv 6 (by kernel_rfl)]
            rw [show T.getD 7 undef = (.pointer (some ⟨p, 0, none⟩)) from hv 7 (by kernel_rfl)]
            rw [show T.getD 8 undef = (.int .i64 k) from hv 8 (by kernel_rfl)]
            rw [show T.getD 9 undef = (.bool true) from hf 8 (by decide)]
            rw [hv 10 (by kernel_rfl)]
            rw [hv 11 (by kernel_rfl)]
            rw [hv 12 (by kernel_rfl)]
            rw [hv 13 (by kernel_rfl)]
            rw [hv 14 (by kernel_rfl)]
            rw [hv 15 (by kernel_rfl)]
            rw [hv 16 (by kernel_rfl)]
            rw [hv 17 (by kernel_rfl)]
            rw [hv 18 (by kernel_rfl)]
            rw [hv 19 (by kernel_rfl)]
            rw [hv 20 (by kernel_rfl)]
            rw [hv 21 (by kernel_rfl)]
            rw [hv 22 (by kernel_rfl)]
            rw [hv 23 (by kernel_rfl)]
            rw [hv 24 (by kernel_rfl)]
            rw [hv 25 (by kernel_rfl)]
            rw [hv 26 (by kernel_rfl)]
            rw [hv 27 (by kernel_rfl)]
            rw [hv 28 (by kernel_rfl)]
            rw [hv 29 (by kernel_rfl)]
            rw [hv 30 (by kernel_rfl)]
            rw [hv 31 (by kernel_rfl)]
            rw [hv 32 (by kernel_rfl)]
            rw [hv 33 (by kernel_rfl)]
            rw [hv 34 (by kernel_rfl)]
            rw [hv 35 (by kernel_rfl)]
            rw [hv 36 (by kernel_rfl)]
            rw [hv 37 (by kernel_rfl)]
            rw [hv 38 (by kernel_rfl)]
            rw [hv 39 (by kernel_rfl)]
            rw [hv 40 (by kernel_rfl)]
            rw [hv 41 (by kernel_rfl)]
            rw [hv 42 (by kernel_rfl)]
            rw [hv 43 (by kernel_rfl)]
            rw [hv 44 (by kernel_rfl)]
            rw [hv 45 (by kernel_rfl)]
            rw [hv 46 (by kernel_rfl)]
            rw [hv 47 (by kernel_rfl)]
            rw [hv 48 (by kernel_rfl)]
            rw [hv 49 (by kernel_rfl)]
            rw [hv 50 (by kernel_rfl)]
            rw [hv 51 (by kernel_rfl)]
            rw [hv 52 (by kernel_rfl)]
            rw [hv 53 (by kernel_rfl)]
            rw [hv 54 (by kernel_rfl)]
            rw [hv 55 (by kernel_rfl)]
            rw [hv 56 (by kernel_rfl)]
            rw [hv 57 (by kernel_rfl)]
            rw [hv 58 (by kernel_rfl)]
            rw [hv 59 (by kernel_rfl)]
            rw [hv 60 (by kernel_rfl)]
            rw [hv 61 (by kernel_rfl)]
            rw [hv 62 (by kernel_rfl)]
            rw [hv 63 (by kernel_rfl)]
            rw [hv 64 (by kernel_rfl)]
            rw [hv 65 (by kernel_rfl)]
            rw [hv 66 (by kernel_rfl)]
            rw [hv 67 (by kernel_rfl)]
            rw [hv 68 (by kernel_rfl)]
            rw [hv 69 (by kernel_rfl)]
            rw [hv 70 (by kernel_rfl)]
            rw [hv 71 (by kernel_rfl)]
            rw [hv 72 (by kernel_rfl)]
            rw [hv 73 (by kernel_rfl)]
            rw [hv 74 (by kernel_rfl)]
            rw [hv 75 (by kernel_rfl)]
            rw [hv 76 (by kernel_rfl)]
            rw [hv 77 (by kernel_rfl)]
            rw [hv 78 (by kernel_rfl)]
            rw [hv 79 (by kernel_rfl)]
            rw [hv 80 (by kernel_rfl)]
            rw [hv 81 (by kernel_rfl)]
            rw [hv 82 (by kernel_rfl)]
            rw [hv 83 (by kernel_rfl)]
            rw [hv 84 (by kernel_rfl)]
            rw [hv 85 (by kernel_rfl)]
            rw [hv 86 (by kernel_rfl)]
            rw [hv 87 (by kernel_rfl)]
            rw [hv 88 (by kernel_rfl)]
            rw [hv 89 (by kernel_rfl)]
            rw [hv 90 (by kernel_rfl)]
            rw [hv 91 (by kernel_rfl)]
            rw [hv 92 (by kernel_rfl)]
            rw [hv 93 (by kernel_rfl)]
            rw [hv 94 (by kernel_rfl)]
            rw [hv 95 (by kernel_rfl)]
            rw [hv 96 (by kernel_rfl)]
            rw [hv 97 (by kernel_rfl)]
            rw [hv 98 (by kernel_rfl)]
            rw [hv 99 (by kernel_rfl)]
            rw [hv 100 (by kernel_rfl)]
            rw [hv 101 (by kernel_rfl)]
            rw [hv 102 (by kernel_rfl)]
            rw [hv 103 (by kernel_rfl)]
            rw [hv 104 (by kernel_rfl)]
            rw [hv 105 (by kernel_rfl)]
            rw [hv 106 (by kernel_rfl)]
            rw [hv 107 (by kernel_rfl)]
            rw [hv 108 (by kernel_rfl)]
            rw [hv 109 (by kernel_rfl)]
            rw [hv 110 (by kernel_rfl)]
            rw [show T.getD 111 undef = (.pointer (some ⟨p, 0, none⟩)) from hf 0 (by decide)]
            rw [show T.getD 112 undef = (.string t) from hf 1 (by decide)]
            rw [show T.getD 113 undef = (.slice (some ⟨b, o, none⟩) qs.length cx) from hf 2 (by decide)]
            rw [show T.getD 114 undef = (.int .i64 k) from hf 3 (by decide)]
            rw [show T.getD 115 undef = (.pointer (some ⟨b, o + k * 9, none⟩)) from hf 4 (by decide)]
            rw [show T.getD 116 undef = (.pointer (some ⟨b, o + k * 9 + 2, none⟩)) from hf 5 (by decide)]
            rw [show T.getD 117 undef = (.string t) from hf 6 (by decide)]
            rw [show T.getD 118 undef = (.bool true) from hf 7 (by decide)]
            rw [hv 119 (by kernel_rfl)]
            rw [hv 120 (by kernel_rfl)]
            rw [hv 121 (by kernel_rfl)]
            rw [hv 122 (by kernel_rfl)]
            rw [hv 123 (by kernel_rfl)]
            rw [hv 124 (by kernel_rfl)]
            rw [hv 125 (by kernel_rfl)]
            rw [hv 126 (by kernel_rfl)]
            rw [hv 127 (by kernel_rfl)]
            rw [hv 128 (by kernel_rfl)]
            rw [hv 129 (by kernel_rfl)]
            rw [hv 130 (by kernel_rfl)]
            rw [hv 131 (by kernel_rfl)]
            rw [hv 132 (by kernel_rfl)]
            rw [hv 133 (by kernel_rfl)]
            rw [hv 134 (by kernel_rfl)]
            rw [hv 135 (by kernel_rfl)]
            clear hf hs hv hcur
            simp only [getD_toArray, List.getD_cons_succ, List.getD_cons_zero]
            clear T
            clear hnb
            go_wp2_with fail
            go_roundw
            case rel => exact ⟨k + 1, by omega, by go_num, hfin.out _ hu, by rw [← hM.out]; exact hcur1⟩
            case measure => simp [intOf]; omega
          · have hm : (what : Int) % 5 = 3 := by omega
            rw [hput 3 h] at hRd
            have hb2 : ((n : Int) % 2 == 1) = (n % 2 == 1) := by rw [Bool.eq_iff_iff]; simp; omega
            have hrd := hide (show read false dbool (some (bit (n % 2 == 1) :: M)) = (((n : Int) % 2 == 1), some M) from by unfold read; rw [Option.bind_some, dbool_bit, hb2])
            replace hRd := hide (show RdS wr p p (some (bit (n % 2 == 1) :: M)) from hRd)
            have hc1 := hide c1'
            clear h hput hb2 c1' c2 c3 c4 c5 c6 c7 c8
            go_wp2_with fail
            refine wp_region_flow (At p) (factAt [(fun v _ => v = (.pointer (some ⟨p, 0, none⟩))), (fun v _ => v = (.bool ((n : Int) % 2 == 1))), (fun v _ => v = (.slice (some ⟨b, o, none⟩) qs.length cx)), (fun v _ => v = (.int .i64 k)), (fun v _ => v = (.pointer (some ⟨b, o + k * 9, none⟩))), (fun v _ => v = (.pointer (some ⟨b, o + k * 9 + 1, none⟩))), (fun v _ => v = (.int .u64 n)), (fun v _ => v = (.int .u64 ((n : Int) % 2))), (fun v _ => v = (.bool ((n : Int) % 2 == 1))), (fun v _ => v = (.bool true)), (fun v _ => v = (.bool true))]) [none, some (fun _ w => RdS w p p (some (M)))] (fun w => RdS w p p (some (bit (n % 2 == 1) :: M))) (by kernel_rfl) (fkept_at ⟨FKept.eq _, FKept.eq _, FKept.eq _, FKept.eq _, FKept.eq _, FKept.eq _, FKept.eq _, FKept.eq _, FKept.eq _, FKept.eq _, FKept.eq _, trivial⟩) (fun w w' h hb => RdS.upd h (.of_below (fun _ => False) hb) id fun _ _ => id) ⟨fun _ _ _ h hb => RdS.upd h (.of_below (fun _ => False) hb) id fun _ _ => id, trivial⟩ (by kernel_rfl) (by kernel_rfl) (by kernel_rfl) (by kernel_rfl) (Nat.le_of_ble_eq_true (by kernel_rfl)) ?_ ⟨?_, ?_, ?_, ?_, ?_, ?_, ?_, ?_, ?_, ?_, ?_, trivial⟩ ?_
            · exact hRd.out
            · intro T w Q hu hs hv hw hd
              have hx7 : T.getD 7 undef = (.pointer (some ⟨p, 0, none⟩)) := hv 7 (by kernel_rfl)
              refine .inl ⟨wanted_none rfl, ?_⟩
              clear hd hv hu hs hw
              go_simp
              exact ⟨_, rfl, DstOk.some rfl, Below.refl _ _, rfl⟩
            · intro T w Q hu hs hv hw hd hc0
              have hc : (fun w => RdS w p p (some (bit (n % 2 == 1) :: M))) w := hc0
              have hx121 : T.getD 121 undef = (.pointer (some ⟨p, 0, none⟩)) := Deps.at 0 hd (by kernel_rfl)
              replace hc := hide hc
              refine .inl ⟨wanted_none rfl, ?_⟩
              have hN := rBool_any p p _ w hc.out
              rw [hrd.out] at hN
              replace hN := hide hN
              clear hd hv hs hw
              go_simp
              refine hN.out.mono ?_
              rintro e w2 ⟨rfl, hU, hR2⟩
              exact ⟨_, rfl, DstOk.some rfl, hU, rfl, hR2⟩
            · intro T w Q hu hs hv hw hd
              have hx0 : T.getD 0 undef = (.slice (some ⟨b, o, none⟩) qs.length cx) := hv 0 (by kernel_rfl)
              refine .inl ⟨wanted_none rfl, ?_⟩
              clear hd hv hu hs hw
              go_simp
              exact ⟨_, rfl, DstOk.some rfl, Below.refl _ _, rfl⟩
            · intro T w Q hu hs hv hw hd
              have hx8 : T.getD 8 undef = (.int .i64 k) := hv 8 (by kernel_rfl)
              refine .inl ⟨wanted_none rfl, ?_⟩
              clear hd hv hu hs hw
              go_simp
              exact ⟨_, rfl, DstOk.some rfl, Below.refl _ _, rfl⟩
            · intro T w Q hu hs hv hw hd
              have hx123 : T.getD 123 undef = (.slice (some ⟨b, o, none⟩) qs.length cx) := Deps.at 2 hd (by kernel_rfl)
              have hx124 : T.getD 124 undef = (.int .i64 k) := Deps.at 3 hd (by kernel_rfl)
              refine .inl ⟨wanted_none rfl, ?_⟩
              clear hd hv hu hs hw
              go_simp
              exact ⟨_, rfl, DstOk.some rfl, Below.refl _ _, rfl⟩
            · intro T w Q hu hs hv hw hd
              have hx125 : T.getD 125 undef = (.pointer (some ⟨b, o + k * 9, none⟩)) := Deps.at 4 hd (by kernel_rfl)
              refine .inl ⟨wanted_none rfl, ?_⟩
              clear hd hv hu hs hw
              go_simp
              exact ⟨_, rfl, DstOk.some rfl, Below.refl _ _, rfl⟩
            · intro T w Q hu hs hv hw hd
              have hx126 : T.getD 126 undef = (.pointer (some ⟨b, o + k * 9 + 1, none⟩)) := Deps.at 5 hd (by kernel_rfl)
              refine .inl ⟨wanted_none rfl, ?_⟩
              have hcc := hu.cell hc1.out hnb.out
              clear hd hv hu hs hw
              go_simp
              exact ⟨_, rfl, DstOk.some rfl, Below.refl _ _, rfl⟩
            · intro T w Q hu hs hv hw hd
              have hx127 : T.getD 127 undef = (.int .u64 n) := Deps.at 6 hd (by kernel_rfl)
              refine .inl ⟨wanted_none rfl, ?_⟩
              clear hd hv hu hs hw
              go_simp
              exact ⟨_, rfl, DstOk.some rfl, Below.refl _ _, rfl⟩
            · intro T w Q hu hs hv hw hd
              have hx128 : T.getD 128 undef = (.int .u64 ((n : Int) % 2)) := Deps.at 7 hd (by kernel_rfl)
              refine .inl ⟨wanted_none rfl, ?_⟩
              clear hd hv hu hs hw
              go_simp
              exact ⟨_, rfl, DstOk.some rfl, Below.refl _ _, rfl⟩
            · intro T w Q hu hs hv hw hd
              have hx122 : T.getD 122 undef = (.bool ((n : Int) % 2 == 1)) := Deps.at 1 hd (by kernel_rfl)
              have hx129 : T.getD 129 undef = (.bool ((n : Int) % 2 == 1)) := Deps.at 8 hd (by kernel_rfl)
              refine .inl ⟨wanted_none rfl, ?_⟩
              clear hd hv hs hu hw
              go_simp
              exact ⟨_, rfl, DstOk.some rfl, Below.refl _ _, (by show Value.bool _ = Value.bool true; simp)⟩
            · intro T w Q hu hs hv hw hd
              have hx130 : T.getD 130 undef = (.bool true) := Deps.at 9 hd (by kernel_rfl)
              refine .inl ⟨wanted_none rfl, ?_⟩
              clear hd hv hu hs hw
              go_simp
              exact ⟨_, rfl, DstOk.some rfl, Below.refl _ _, rfl⟩
            intro T w hu hs hv hf hcur
            have hcur1 : (fun (w : World) => RdS w p p (some (M))) w := hcur
            replace hcur1 := hcur1
            have hT : T = #[T.getD 0 undef, T.getD 1 undef, T.getD 2 undef, T.getD 3 undef, T.getD 4 undef, T.getD 5 undef, T.getD 6 undef, T.getD 7 undef, T.getD 8 undef, T.getD 9 undef, T.getD 10 undef, T.getD 11 undef, T.getD 12 undef, T.getD 13 undef, T.getD 14 undef, T.getD 15 undef, T.getD 16 undef, T.getD 17 undef, T.getD 18 undef, T.getD 19 undef, T.getD 20 undef, T.getD 21 undef, T.getD 22 undef, T.getD 23 undef, T.getD 24 undef, T.getD 25 undef, T.getD 26 undef, T.getD 27 undef, T.getD 28 undef, T.getD 29 undef, T.getD 30 undef, T.getD 31 undef, T.getD 32 undef, T.getD 33 undef, T.getD 34 undef, T.getD 35 undef, T.getD 36 undef, T.getD 37 undef, T.getD 38 undef, T.getD 39 undef, T.getD 40 undef, T.getD 41 undef, T.getD 42 undef, T.getD 43 undef, T.getD 44 undef, T.getD 45 undef, T.getD 46 undef, T.getD 47 undef, T.getD 48 undef, T.getD 49 undef, T.getD 50 undef, T.getD 51 undef, T.getD 52 undef, T.getD 53 undef, T.getD 54 undef, T.getD 55 undef, T.getD 56 undef, T.getD 57 undef, T.getD 58 undef, T.getD 59 undef, T.getD 60 undef, T.getD 61 undef, T.getD 62 undef, T.getD 63 undef, T.getD 64 undef, T.getD 65 undef, T.getD 66 undef, T.getD 67 undef, T.getD 68 undef, T.getD 69 undef, T.getD 70 undef, T.getD 71 undef, T.getD 72 undef, T.getD 73 undef, T.getD 74 undef, T.getD 75 undef, T.getD 76 undef, T.getD 77 undef, T.getD 78 undef, T.getD 79 undef, T.getD 80 undef, T.getD 81 undef, T.getD 82 undef, T.getD 83 undef, T.getD 84 undef, T.getD 85 undef, T.getD 86 undef, T.getD 87 undef, T.getD 88 undef, T.getD 89 undef, T.getD 90 undef, T.getD 91 undef, T.getD 92 undef, T.getD 93 undef, T.getD 94 undef, T.getD 95 undef, T.getD 96 undef, T.getD 97 undef, T.getD 98 undef, T.getD 99 undef, T.getD 100 undef, T.getD 101 undef, T.getD 102 undef, T.getD 103 undef, T.getD 104 undef, T.getD 105 undef, T.getD 106 undef, T.getD 107 undef, T.getD 108 undef, T.getD 109 undef, T.getD 110 undef, T.getD 111 undef, T.getD 112 undef, T.getD 113 undef, T.getD 114 undef, T.getD 115 undef, T.getD 116 undef, T.getD 117 undef, T.getD 118 undef, T.getD 119 undef, T.getD 120 undef, T.getD 121 undef, T.getD 122 undef, T.getD 123 undef, T.getD 124 undef, T.getD 125 undef, T.getD 126 undef, T.getD 127 undef, T.getD 128 undef, T.getD 129 undef, T.getD 130 undef, T.getD 131 undef, T.getD 132 undef, T.getD 133 undef, T.getD 134 undef, T.getD 135 undef] := expl hs
            rw [hT]
            clear hT
            rw [show T.getD 0 undef = (.slice (some ⟨b, o, none⟩) qs.length cx) from hv 0 (by kernel_rfl)]
            rw [hv 1 (by kernel_rfl)]
            rw [hv 2 (by kernel_rfl)]
            rw [hv 3 (by kernel_rfl)]
            rw [hv 4 (by kernel_rfl)]
            rw [hv 5 (by kernel_rfl)]
            rw [hv 6 (by kernel_rfl)]
            rw [show T.getD 7 undef = (.pointer (some ⟨p, 0, none⟩)) from hv 7 (by kernel_rfl)]
            rw [show T.getD 8 undef = (.int .i64 k) from hv 8 (by kernel_rfl)]
            rw [show T.getD 9 undef = (.bool true) from hf 10 (by decide)]
            rw [hv 10 (by kernel_rfl)]
            rw [hv 11 (by kernel_rfl)]
            rw [hv 12 (by kernel_rfl)]
            rw [hv 13 (by kernel_rfl)]
            rw [hv 14 (by kernel_rfl)]
            rw [hv 15 (by kernel_rfl)]
            rw [hv 16 (by kernel_rfl)]
            rw [hv 17 (by kernel_rfl)]
            rw [hv 18 (by kernel_rfl)]
            rw [hv 19 (by kernel_rfl)]
            rw [hv 20 (by kernel_rfl)]
            rw [hv 21 (by kernel_rfl)]
            rw [hv 22 (by kernel_rfl)]
            rw [hv 23 (by kernel_rfl)]
            rw [hv 24 (by kernel_rfl)]
            rw [hv 25 (by kernel_rfl)]
            rw [hv 26 (by kernel_rfl)]
            rw [hv 27 (by kernel_rfl)]
            rw [hv 28 (by kernel_rfl)]
            rw [hv 29 (by kernel_rfl)]
            rw [hv 30 (by kernel_rfl)]
            rw [hv 31 (by kernel_rfl)]
            rw [hv 32 (by kernel_rfl)]
            rw [hv 33 (by kernel_rfl)]
            rw [hv 34 (by kernel_rfl)]
            rw [hv 35 (by kernel_rfl)]
            rw [hv 36 (by kernel_rfl)]
            rw [hv 37 (by kernel_rfl)]
            rw [hv 38 (by kernel_rfl)]
            rw [hv 39 (by kernel_rfl)]
            rw [hv 40 (by kernel_rfl)]
            rw [hv 41 (by kernel_rfl)]
            rw [hv 42 (by kernel_rfl)]
            rw [hv 43 (by kernel_rfl)]
            rw [hv 44 (by kernel_rfl)]
            rw [hv 45 (by kernel_rfl)]
            rw [hv 46 (by kernel_rfl)]
            rw [hv 47 (by kernel_rfl)]
            rw [hv 48 (by kernel_rfl)]
            rw [hv 49 (by kernel_rfl)]
            rw [hv 50 (by kernel_rfl)]
            rw [hv 51 (by kernel_rfl)]
            rw [hv 52 (by kernel_rfl)]
            rw [hv 53 (by kernel_rfl)]
            rw [hv 54 (by kernel_rfl)]
            rw [hv 55 (by kernel_rfl)]
            rw [hv 56 (by kernel_rfl)]
            rw [hv 57 (by kernel_rfl)]
            rw [hv 58 (by kernel_rfl)]
            rw [hv 59 (by kernel_rfl)]
            rw [hv 60 (by kernel_rfl)]
            rw [hv 61 (by kernel_rfl)]
            rw [hv 62 (by kernel_rfl)]
            rw [hv 63 (by kernel_rfl)]
            rw [hv 64 (by kernel_rfl)]
            rw [hv 65 (by kernel_rfl)]
            rw [hv 66 (by kernel_rfl)]
            rw [hv 67 (by kernel_rfl)]
            rw [hv 68 (by kernel_rfl)]
            rw [hv 69 (by kernel_rfl)]
            rw [hv 70 (by kernel_rfl)]
            rw [hv 71 (by kernel_rfl)]
            rw [hv 72 (by kernel_rfl)]
            rw [hv 73 (by kernel_rfl)]
            rw [hv 74 (by kernel_rfl)]
            rw [hv 75 (by kernel_rfl)]
            rw [hv 76 (by kernel_rfl)]
            rw [hv 77 (by kernel_rfl)]
            rw [hv 78 (by kernel_rfl)]
            rw [hv 79 (by kernel_rfl)]
            rw [hv 80 (by kernel_rfl)]
            rw [hv 81 (by kernel_rfl)]
            rw [hv 82 (by kernel_rfl)]
            rw [hv 83 (by kernel_rfl)]
            rw [hv 84 (by kernel_rfl)]
            rw [hv 85 (by kernel_rfl)]
            rw [hv 86 (by kernel_rfl)]
            rw [hv 87 (by kernel_rfl)]
            rw [hv 88 (by kernel_rfl)]
            rw [hv 89 (by kernel_rfl)]
            rw [hv 90 (by kernel_rfl)]
            rw [hv 91 (by kernel_rfl)]
            rw [hv 92 (by kernel_rfl)]
            rw [hv 93 (by kernel_rfl)]
            rw [hv 94 (by kernel_rfl)]
            rw [hv 95 (by kernel_rfl)]
            rw [hv 96 (by kernel_rfl)]
            rw [hv 97 (by kernel_rfl)]
            rw [hv 98 (by kernel_rfl)]
            rw [hv 99 (by kernel_rfl)]
            rw [hv 100 (by kernel_rfl)]
            rw [hv 101 (by kernel_rfl)]
            rw [hv 102 (by kernel_rfl)]
            rw [hv 103 (by kernel_rfl)]
            rw [hv 104 (by kernel_rfl)]
            rw [hv 105 (by kernel_rfl)]
            rw [hv 106 (by kernel_rfl)]
            rw [hv 107 (by kernel_rfl)]
            rw [hv 108 (by kernel_rfl)]
            rw [hv 109 (by kernel_rfl)]
            rw [hv 110 (by kernel_rfl)]
            rw [hv 111 (by kernel_rfl)]
            rw [hv 112 (by kernel_rfl)]
            rw [hv 113 (by kernel_rfl)]
            rw [hv 114 (by kernel_rfl)]
            rw [hv 115 (by kernel_rfl)]
            rw [hv 116 (by kernel_rfl)]
            rw [hv 117 (by kernel_rfl)]
            rw [hv 118 (by kernel_rfl)]
            rw [hv 119 (by kernel_rfl)]
            rw [hv 120 (by kernel_rfl)]
            rw [show T.getD 121 undef = (.pointer (some ⟨p, 0, none⟩)) from hf 0 (by decide)]
            rw [show T.getD 122 undef = (.bool ((n : Int) % 2 == 1)) from hf 1 (by decide)]
            rw [show T.getD 123 undef = (.slice (some ⟨b, o, none⟩) qs.length cx) from hf 2 (by decide)]
            rw [show T.getD 124 undef = (.int .i64 k) from hf 3 (by decide)]
            rw [show T.getD 125 undef = (.pointer (some ⟨b, o + k * 9, none⟩)) from hf 4 (by decide)]
            rw [show T.getD 126 undef = (.pointer (some ⟨b, o + k * 9 + 1, none⟩)) from hf 5 (by decide)]
            rw [show T.getD 127 undef = (.int .u64 n) from hf 6 (by decide)]
            rw [show T.getD 128 undef = (.int .u64 ((n : Int) % 2)) from hf 7 (by decide)]
            rw [show T.getD 129 undef = (.bool ((n : Int) % 2 == 1)) from hf 8 (by decide)]
            rw [show T.getD 130 undef = (.bool true) from hf 9 (by decide)]
            rw [hv 131 (by kernel_rfl)]
            rw [hv 132 (by kernel_rfl)]
            rw [hv 133 (by kernel_rfl)]
            rw [hv 134 (by kernel_rfl)]
            rw [hv 135 (by kernel_rfl)]
            clear hf hs hv hcur
            simp only [getD_toArray, List.getD_cons_succ, List.getD_cons_zero]
            clear T
            clear hnb
            go_wp2_with fail
            go_roundw
            case rel => exact ⟨k + 1, by omega, by go_num, hfin.out _ hu, by rw [← hM.out]; exact hcur1⟩
            case measure => simp [intOf]; omega
          · have hm : (what : Int) % 5 = 4 := by omega
            rw [hput 4 h] at hRd hdl
            replace hdl : (s.bytes ++ M).length ≤ 13200 := hdl
            have hrd := hide (show read zeroS dsum (some (s.bytes ++ M)) = (plainS s, some M) from by unfold read; rw [Option.bind_some, dsum_bytes hso.out hsl.out hsa.out M (by omega)])
            replace hRd := hide (show RdS wr p p (some (s.bytes ++ M)) from hRd)
            have hds := hide (show (s.bytes ++ M).length ≤ 4294967296 by omega)
            have hc3 := hide c3
            have hc4 := hide c4
            have hc5 := hide c5
            have hc6 := hide c6
            have hc7 := hide c7
            have hc8 := hide c8
            clear h hput hdl c1' c2 c3 c4 c5 c6 c7 c8
            go_wp2_with fail
            refine wp_region_flow (At p) (factAt [(fun v _ => v = (.pointer (some ⟨p, 0, none⟩))), (fun v w => SumW w (fun g => g ≠ p) v (plainS s)), (fun v _ => v = (.slice (some ⟨b, o, none⟩) qs.length cx)), (fun v _ => v = (.int .i64 k)), (fun v _ => v = (.pointer (some ⟨b, o + k * 9, none⟩))), (fun v _ => v = (.pointer (some ⟨b, o + k * 9 + 3, none⟩))), (fun v _ => v = (.agg #[.slice Aa s.alarms.length ca, .bool s.ends, .bool s.ret.some, .int .i64 s.ret.lo, .int .i64 s.ret.hi, .slice Am s.mod.length cm])), (fun v w => SumW w (fun g => g ≠ p) v (plainS s)), (fun v _ => v = (.bool true)), (fun v _ => v = (.bool true))]) [none, some (fun _ w => RdS w p p (some (M)))] (fun w => RdS w p p (some (s.bytes ++ M))) (by kernel_rfl) (fkept_at ⟨FKept.eq _, fun _ _ _ h hu => SumW.upd h hu fun _ hk => hk, FKept.eq _, FKept.eq _, FKept.eq _, FKept.eq _, FKept.eq _, fun _ _ _ h hu => SumW.upd h hu fun _ hk => hk, FKept.eq _, FKept.eq _, trivial⟩) (fun w w' h hb => RdS.upd h (.of_below (fun _ => False) hb) id fun _ _ => id) ⟨fun _ _ _ h hb => RdS.upd h (.of_below (fun _ => False) hb) id fun _ _ => id, trivial⟩ (by kernel_rfl) (by kernel_rfl) (by kernel_rfl) (by kernel_rfl) (Nat.le_of_ble_eq_true (by kernel_rfl)) ?_ ⟨?_, ?_, ?_, ?_, ?_, ?_, ?_, ?_, ?_, ?_, trivial⟩ ?_
            · exact hRd.out
            · intro T w Q hu hs hv hw hd
              have hx7 : T.getD 7 undef = (.pointer (some ⟨p, 0, none⟩)) := hv 7 (by kernel_rfl)
              refine .inl ⟨wanted_none rfl, ?_⟩
              clear hd hv hu hs hw
              go_simp
              exact ⟨_, rfl, DstOk.some rfl, Below.refl _ _, rfl⟩
            · intro T w Q hu hs hv hw hd hc0
              have hc : (fun w => RdS w p p (some (s.bytes ++ M))) w := hc0
              have hx79 : T.getD 79 undef = (.pointer (some ⟨p, 0, none⟩)) := Deps.at 0 hd (by kernel_rfl)
              replace hc := hide hc
              refine .inl ⟨wanted_none rfl, ?_⟩
              have hN := rSummary_any p p _ w hc.out (fun l hl => by cases hl; exact hds.out)
              rw [hrd.out] at hN
              replace hN := hide hN
              have hpw2 := hide (Nat.lt_of_lt_of_le hpw.out hu.size)
              clear hd hv hs hw
              go_simp
              refine hN.out.mono ?_
              rintro e w2 ⟨⟨v2, rfl, hv2⟩, hU, hR2⟩
              exact ⟨_, rfl, DstOk.some rfl, hU, hv2.word.mono fun g _ hg => (by have := hpw2.out; omega), hR2⟩
            · intro T w Q hu hs hv hw hd
              have hx0 : T.getD 0 undef = (.slice (some ⟨b, o, none⟩) qs.length cx) := hv 0 (by kernel_rfl)
              refine .inl ⟨wanted_none rfl, ?_⟩
              clear hd hv hu hs hw
              go_simp
              exact ⟨_, rfl, DstOk.some rfl, Below.refl _ _, rfl⟩
            · intro T w Q hu hs hv hw hd
              have hx8 : T.getD 8 undef = (.int .i64 k) := hv 8 (by kernel_rfl)
              refine .inl ⟨wanted_none rfl, ?_⟩
              clear hd hv hu hs hw
              go_simp
              exact ⟨_, rfl, DstOk.some rfl, Below.refl _ _, rfl⟩
            · intro T w Q hu hs hv hw hd
              have hx81 : T.getD 81 undef = (.slice (some ⟨b, o, none⟩) qs.length cx) := Deps.at 2 hd (by kernel_rfl)
              have hx82 : T.getD 82 undef = (.int .i64 k) := Deps.at 3 hd (by kernel_rfl)
              refine .inl ⟨wanted_none rfl, ?_⟩
              clear hd hv hu hs hw
              go_simp
              exact ⟨_, rfl, DstOk.some rfl, Below.refl _ _, rfl⟩
            · intro T w Q hu hs hv hw hd
              have hx83 : T.getD 83 undef = (.pointer (some ⟨b, o + k * 9, none⟩)) := Deps.at 4 hd (by kernel_rfl)
              refine .inl ⟨wanted_none rfl, ?_⟩
              clear hd hv hu hs hw
              go_simp
              exact ⟨_, rfl, DstOk.some rfl, Below.refl _ _, rfl⟩
            · intro T w Q hu hs hv hw hd
              have hx84 : T.getD 84 undef = (.pointer (some ⟨b, o + k * 9 + 3, none⟩)) := Deps.at 5 hd (by kernel_rfl)
              refine .inl ⟨wanted_none rfl, ?_⟩
              have h3 := hu.cell hc3.out hnb.out
              have h4 := hu.cell hc4.out hnb.out
              have h5 := hu.cell hc5.out hnb.out
              have h6 := hu.cell hc6.out hnb.out
              have h7 := hu.cell hc7.out hnb.out
              have h8 := hu.cell hc8.out hnb.out
              clear hd hv hu hs hw
              go_simp
              exact ⟨_, rfl, DstOk.some rfl, Below.refl _ _, rfl⟩
            · intro T w Q hu hs hv hw hd
              have hx85 : T.getD 85 undef = (.agg #[.slice Aa s.alarms.length ca, .bool s.ends, .bool s.ret.some, .int .i64 s.ret.lo, .int .i64 s.ret.hi, .slice Am s.mod.length cm]) := Deps.at 6 hd (by kernel_rfl)
              refine .inl ⟨wanted_none rfl, ?_⟩
              have hN := hide (plain_any _ _ _ s w (hqa.out.upd hu fun _ hk => hk) (hqm.out.upd hu fun _ hk => hk) hsl.out)
              have hpw2 := hide (Nat.lt_of_lt_of_le hpw.out hu.size)
              clear hd hv hu hs hw
              go_simp
              refine hN.out.mono ?_
              rintro e w2 ⟨hbl, v2, rfl, hv2⟩
              exact ⟨_, rfl, DstOk.some rfl, hbl, hv2.mono fun g _ hg => (by have := hpw2.out; rcases hg with hg | hg <;> omega)⟩
            · intro T w Q hu hs hv hw hd
              have f80 : (fun (v : Value) (w : World) => SumW w (fun g => g ≠ p) v (plainS s)) (T.getD 80 undef) w := Deps.at 1 hd (by kernel_rfl)
              generalize hx80 : T.getD 80 undef = x80 at f80
              replace f80 := hide f80
              have f86 : (fun (v : Value) (w : World) => SumW w (fun g => g ≠ p) v (plainS s)) (T.getD 86 undef) w := Deps.at 7 hd (by kernel_rfl)
              generalize hx86 : T.getD 86 undef = x86 at f86
              replace f86 := hide f86
              refine .inl ⟨wanted_none rfl, ?_⟩
              have hN := hide (same_any _ _ (plainS s) w f80.out.val f86.out.val)
              clear hd hv hu hs hw
              go_simp
              refine hN.out.mono ?_
              rintro e w2 ⟨rfl, hbl⟩
              exact ⟨_, rfl, DstOk.some rfl, hbl, rfl⟩
            · intro T w Q hu hs hv hw hd
              have hx87 : T.getD 87 undef = (.bool true) := Deps.at 8 hd (by kernel_rfl)
              refine .inl ⟨wanted_none rfl, ?_⟩
              clear hd hv hu hs hw
              go_simp
              exact ⟨_, rfl, DstOk.some rfl, Below.refl _ _, rfl⟩
            intro T w hu hs hv hf hcur
            have hcur1 : (fun (w : World) => RdS w p p (some (M))) w := hcur
            replace hcur1 := hcur1
            have hT : T = #[T.getD 0 undef, T.getD 1 undef, T.getD 2 undef, T.getD 3 undef, T.getD 4 undef, T.getD 5 undef, T.getD 6 undef, T.getD 7 undef, T.getD 8 undef, T.getD 9 undef, T.getD 10 undef, T.getD 11 undef, T.getD 12 undef, T.getD 13 undef, T.getD 14 undef, T.getD 15 undef, T.getD 16 undef, T.getD 17 undef, T.getD 18 undef, T.getD 19 undef, T.getD 20 undef, T.getD 21 undef, T.getD 22 undef, T.getD 23 undef, T.getD 24 undef, T.getD 25 undef, T.getD 26 undef, T.getD 27 undef, T.getD 28 undef, T.getD 29 undef, T.getD 30 undef, T.getD 31 undef, T.getD 32 undef, T.getD 33 undef, T.getD 34 undef, T.getD 35 undef, T.getD 36 undef, T.getD 37 undef, T.getD 38 undef, T.getD 39 undef, T.getD 40 undef, T.getD 41 undef, T.getD 42 undef, T.getD 43 undef, T.getD 44 undef, T.getD 45 undef, T.getD 46 undef, T.getD 47 undef, T.getD 48 undef, T.getD 49 undef, T.getD 50 undef, T.getD 51 undef, T.getD 52 undef, T.getD 53 undef, T.getD 54 undef, T.getD 55 undef, T.getD 56 undef, T.getD 57 undef, T.getD 58 undef, T.getD 59 undef, T.getD 60 undef, T.getD 61 undef, T.getD 62 undef, T.getD 63 undef, T.getD 64 undef, T.getD 65 undef, T.getD 66 undef, T.getD 67 undef, T.getD 68 undef, T.getD 69 undef, T.getD 70 undef, T.getD 71 undef, T.getD 72 undef, T.getD 73 undef, T.getD 74 undef, T.getD 75 undef, T.getD 76 undef, T.getD 77 undef, T.getD 78 undef, T.getD 79 undef, T.getD 80 undef, T.getD 81 undef, T.getD 82 undef, T.getD 83 undef, T.getD 84 undef, T.getD 85 undef, T.getD 86 undef, T.getD 87 undef, T.getD 88 undef, T.getD 89 undef, T.getD 90 undef, T.getD 91 undef, T.getD 92 undef, T.getD 93 undef, T.getD 94 undef, T.getD 95 undef, T.getD 96 undef, T.getD 97 undef, T.getD 98 undef, T.getD 99 undef, T.getD 100 undef, T.getD 101 undef, T.getD 102 undef, T.getD 103 undef, T.getD 104 undef, T.getD 105 undef, T.getD 106 undef, T.getD 107 undef, T.getD 108 undef, T.getD 109 undef, T.getD 110 undef, T.getD 111 undef, T.getD 112 undef, T.getD 113 undef, T.getD 114 undef, T.getD 115 undef, T.getD 116 undef, T.getD 117 undef, T.getD 118 undef, T.getD 119 undef, T.getD 120 undef, T.getD 121 undef, T.getD 122 undef, T.getD 123 undef, T.getD 124 undef, T.getD 125 undef, T.getD 126 undef, T.getD 127 undef, T.getD 128 undef, T.getD 129 undef, T.getD 130 undef, T.getD 131 undef, T.getD 132 undef, T.getD 133 undef, T.getD 134 undef, T.getD 135 undef] := expl hs
            rw [hT]
            clear hT
            rw [show T.getD 0 undef = (.slice (some ⟨b, o, none⟩) qs.length cx) from hv 0 (by kernel_rfl)]
            rw [hv 1 (by kernel_rfl)]
            rw [hv 2 (by kernel_rfl)]
            rw [hv 3 (by kernel_rfl)]
            rw [hv 4 (by kernel_rfl)]
            rw [hv 5 (by kernel_rfl)]
            rw [hv 6 (by kernel_rfl)]
            rw [show T.getD 7 undef = (.pointer (some ⟨p, 0, none⟩)) from hv 7 (by kernel_rfl)]
            rw [show T.getD 8 undef = (.int .i64 k) from hv 8 (by kernel_rfl)]
            rw [show T.getD 9 undef = (.bool true) from hf 9 (by decide)]
            rw [hv 10 (by kernel_rfl)]
            rw [hv 11 (by kernel_rfl)]
            rw [hv 12 (by kernel_rfl)]
            rw [hv 13 (by kernel_rfl)]
            rw [hv 14 (by kernel_rfl)]
            rw [hv 15 (by kernel_rfl)]
            rw [hv 16 (by kernel_rfl)]
            rw [hv 17 (by kernel_rfl)]
            rw [hv 18 (by kernel_rfl)]
            rw [hv 19 (by kernel_rfl)]
            rw [hv 20 (by kernel_rfl)]
            rw [hv 21 (by kernel_rfl)]
            rw [hv 22 (by kernel_rfl)]
            rw [hv 23 (by kernel_rfl)]
            rw [hv 24 (by kernel_rfl)]
            rw [hv 25 (by kernel_rfl)]
            rw [hv 26 (by kernel_rfl)]
            rw [hv 27 (by kernel_rfl)]
            rw [hv 28 (by kernel_rfl)]
            rw [hv 29 (by kernel_rfl)]
            rw [hv 30 (by kernel_rfl)]
            rw [hv 31 (by kernel_rfl)]
            rw [hv 32 (by kernel_rfl)]
            rw [hv 33 (by kernel_rfl)]
            rw [hv 34 (by kernel_rfl)]
            rw [hv 35 (by kernel_rfl)]
            rw [hv 36 (by kernel_rfl)]
            rw [hv 37 (by kernel_rfl)]
            rw [hv 38 (by kernel_rfl)]
            rw [hv 39 (by kernel_rfl)]
            rw [hv 40 (by kernel_rfl)]
            rw [hv 41 (by kernel_rfl)]
            rw [hv 42 (by kernel_rfl)]
            rw [hv 43 (by kernel_rfl)]
            rw [hv 44 (by kernel_rfl)]
            rw [hv 45 (by kernel_rfl)]
            rw [hv 46 (by kernel_rfl)]
            rw [hv 47 (by kernel_rfl)]
            rw [hv 48 (by kernel_rfl)]
            rw [hv 49 (by kernel_rfl)]
            rw [hv 50 (by kernel_rfl)]
            rw [hv 51 (by kernel_rfl)]
            rw [hv 52 (by kernel_rfl)]
            rw [hv 53 (by kernel_rfl)]
            rw [hv 54 (by kernel_rfl)]
            rw [hv 55 (by kernel_rfl)]
            rw [hv 56 (by kernel_rfl)]
            rw [hv 57 (by kernel_rfl)]
            rw [hv 58 (by kernel_rfl)]
            rw [hv 59 (by kernel_rfl)]
            rw [hv 60 (by kernel_rfl)]
            rw [hv 61 (by kernel_rfl)]
            rw [hv 62 (by kernel_rfl)]
            rw [hv 63 (by kernel_rfl)]
            rw [hv 64 (by kernel_rfl)]
            rw [hv 65 (by kernel_rfl)]
            rw [hv 66 (by kernel_rfl)]
            rw [hv 67 (by kernel_rfl)]
            rw [hv 68 (by kernel_rfl)]
            rw [hv 69 (by kernel_rfl)]
            rw [hv 70 (by kernel_rfl)]
            rw [hv 71 (by kernel_rfl)]
            rw [hv 72 (by kernel_rfl)]
            rw [hv 73 (by kernel_rfl)]
            rw [hv 74 (by kernel_rfl)]
            rw [hv 75 (by kernel_rfl)]
            rw [hv 76 (by kernel_rfl)]
            rw [hv 77 (by kernel_rfl)]
            rw [hv 78 (by kernel_rfl)]
            rw [show T.getD 79 undef = (.pointer (some ⟨p, 0, none⟩)) from hf 0 (by decide)]
            rw [show T.getD 81 undef = (.slice (some ⟨b, o, none⟩) qs.length cx) from hf 2 (by decide)]
            rw [show T.getD 82 undef = (.int .i64 k) from hf 3 (by decide)]
            rw [show T.getD 83 undef = (.pointer (some ⟨b, o + k * 9, none⟩)) from hf 4 (by decide)]
            rw [show T.getD 84 undef = (.pointer (some ⟨b, o + k * 9 + 3, none⟩)) from hf 5 (by decide)]
            rw [show T.getD 85 undef = (.agg #[.slice Aa s.alarms.length ca, .bool s.ends, .bool s.ret.some, .int .i64 s.ret.lo, .int .i64 s.ret.hi, .slice Am s.mod.length cm]) from hf 6 (by decide)]
            rw [show T.getD 87 undef = (.bool true) from hf 8 (by decide)]
            rw [hv 88 (by kernel_rfl)]
            rw [hv 89 (by kernel_rfl)]
            rw [hv 90 (by kernel_rfl)]
            rw [hv 91 (by kernel_rfl)]
            rw [hv 92 (by kernel_rfl)]
            rw [hv 93 (by kernel_rfl)]
            rw [hv 94 (by kernel_rfl)]
            rw [hv 95 (by kernel_rfl)]
            rw [hv 96 (by kernel_rfl)]
            rw [hv 97 (by kernel_rfl)]
            rw [hv 98 (by kernel_rfl)]
            rw [hv 99 (by kernel_rfl)]
            rw [hv 100 (by kernel_rfl)]
            rw [hv 101 (by kernel_rfl)]
            rw [hv 102 (by kernel_rfl)]
            rw [hv 103 (by kernel_rfl)]
            rw [hv 104 (by kernel_rfl)]
            rw [hv 105 (by kernel_rfl)]
            rw [hv 106 (by kernel_rfl)]
            rw [hv 107 (by kernel_rfl)]
            rw [hv 108 (by kernel_rfl)]
            rw [hv 109 (by kernel_rfl)]
            rw [hv 110 (by kernel_rfl)]
            rw [hv 111 (by kernel_rfl)]
            rw [hv 112 (by kernel_rfl)]
            rw [hv 113 (by kernel_rfl)]
            rw [hv 114 (by kernel_rfl)]
            rw [hv 115 (by kernel_rfl)]
            rw [hv 116 (by kernel_rfl)]
            rw [hv 117 (by kernel_rfl)]
            rw [hv 118 (by kernel_rfl)]
            rw [hv 119 (by kernel_rfl)]
            rw [hv 120 (by kernel_rfl)]
            rw [hv 121 (by kernel_rfl)]
            rw [hv 122 (by kernel_rfl)]
            rw [hv 123 (by kernel_rfl)]
            rw [hv 124 (by kernel_rfl)]
            rw [hv 125 (by kernel_rfl)]
            rw [hv 126 (by kernel_rfl)]
            rw [hv 127 (by kernel_rfl)]
            rw [hv 128 (by kernel_rfl)]
            rw [hv 129 (by kernel_rfl)]
            rw [hv 130 (by kernel_rfl)]
            rw [hv 131 (by kernel_rfl)]
            rw [hv 132 (by kernel_rfl)]
            rw [hv 133 (by kernel_rfl)]
            rw [hv 134 (by kernel_rfl)]
            rw [hv 135 (by kernel_rfl)]
            clear hf hs hv hcur
            simp only [getD_toArray, List.getD_cons_succ, List.getD_cons_zero]
            generalize T.getD 80 undef = y80
            generalize T.getD 86 undef = y86
            clear T
            clear hnb
            go_wp2_with fail
            go_roundw
            case rel => exact ⟨k + 1, by omega, by go_num, hfin.out _ hu, by rw [← hM.out]; exact hcur1⟩
            case measure => simp [intOf]; omega
        · obtain rfl : k = qs.length := by omega
          rw [List.drop_length] at hRd
          have hdz : doneOf (some []) = 0 := rfl
          replace hRd := hide (show RdS wr p p (some []) from hRd)
          replace hB := hide hB
          go_wp2_with fail
          refine (done_any p p _ _ hRd.out).mono ?_
          rintro e w4 ⟨rfl, rfl⟩
          rw [hdz]
          go_wp2_with fail
          go_ret
          exact ⟨rfl, hB.out⟩
end Go.Proofs.Ytdjkjeaoeolieaa
