/- The walk of WalForeign. -/
import Derived.Test.YtimblkkojcbipaaDoorLawMem
import Derived.Test.YtimblkkojcbipaaDoorOpen
namespace Go.Proofs.YtimblkkojcbipaaDoor
open Go Go.RowKit
theorem write_fine {D : DS} (hf : Fine D) (hon : D.on) {i : Nat} {l : List UInt8} (hl : l.length = D.size) : Fine (D.write i l) := by
  obtain ⟨-, e⟩ := write_alive (hon.write i l).1
  refine ⟨by rw [DS.write_n]; exact hf.n1, by rw [DS.write_size]; exact hf.s1, fun j hj => ?_⟩
  rw [DS.write_n] at hj
  rw [DS.write_size, e]
  split
  · exact hl
  · exact hf.len j hj
theorem store_arg {w : World} {g cap n r y : Nat} {cur : Array Value} {t : TypeId} {L : List UInt8} (h : w.heap[g]? = some (.cells cur t)) (hn : L.length = n) (hc : n ≤ cap) (hm : cap ≤ maxLen) (ht : cur.toList.take n = bv L) (hr : r < n) (hy : y < 256) :
    ArgV (w.setCell ⟨g, r, none⟩ (.int .u8 y)) (fun k => k = g) (.slice (some ⟨g, 0, none⟩) n cap) (bv (L.set r (UInt8.ofNat y))) := by
  have hlen : (bv (L.set r (UInt8.ofNat y))).length = n := by rw [bv_len, List.length_set, hn]
  have hget : ∀ i, i < n → cur[i]? = (bv L)[i]? := fun i hi => by rw [← ht, List.getElem?_take_of_lt hi]; simp
  have hsz : r < cur.size := by
    have h1 := hget r hr
    rw [List.getElem?_eq_getElem (by rw [bv_len]; omega)] at h1
    rcases Nat.lt_or_ge r cur.size with h2 | h2
    · exact h2
    · rw [Array.getElem?_eq_none h2] at h1; cases h1
  refine ⟨_, _, by rw [hlen], by rw [hlen]; exact hc, hm, .inr ⟨g, 0, rfl, rfl, fun i u hi => ?_⟩⟩
  have hin : i < n := by
    rcases Nat.lt_or_ge i n with h2 | h2
    · exact h2
    · rw [List.getElem?_eq_none (by omega)] at hi; cases hi
  rw [Nat.zero_add, cell_at (heap_set h r _)]
  unfold bv at hi
  rw [List.map_set, List.getElem?_set] at hi
  rw [Array.getElem?_setIfInBounds]
  split at hi
  · rename_i e
    subst e
    rw [if_pos rfl, if_pos hsz]
    split at hi
    · rw [← hi, UInt8.toNat_ofNat_of_lt' (by simpa using hy)]
    · cases hi
  · rename_i e
    rw [if_neg e, hget i hin]
    exact hi
theorem xor8 {a c : Nat} (ha : a < 256) (hc : c < 256) : ∃ y : Nat, bits .xor .u8 (a : Int) (c : Int) = (y : Int) ∧ y < 256 := ⟨_, u8_xor_nat a c ha hc, Nat.xor_lt_two_pow (n := 8) (by omega) (by omega)⟩
set_option maxRecDepth 100000 in
set_option maxHeartbeats 1000000 in
theorem foreign_any {w : World} {v0 v1 v2 : Value} {zs : List Int} {l1 l2 : List UInt8} (h0 : ArgV w (· < w.heap.size) v0 (zs.map fun z : Int => .int .u16 z)) (hw0 : ∀ z ∈ zs, (Lit.int .u16 z).wf = true) (h1 : BytesV w w.heap.size v1 l1) (h2 : BytesV w w.heap.size v2 l2) (hT : Tab w) (hz : 1 ≤ w.heap.size) :
    Calls Tryd.prog 6 #[v0, v1, v2] w fun e w' => e = .returned (.bool true) ∧ Below w.heap.size w w' := by
  have hk := known4 hT hz
  have a0 := h0
  have a1 := h1.arg
  have a2 := h2.arg
  obtain ⟨A0, c0, rfl, m0, m0', -⟩ := h0
  obtain ⟨A1, c1, rfl, m1, m1', -⟩ := h1
  obtain ⟨A2, c2, rfl, m2, m2', -⟩ := h2
  rw [List.length_map] at a0 m0 ⊢
  have m0' : c0 ≤ 9223372036854775807 := by unfold maxLen at m0'; exact m0'
  have m1' : c1 ≤ 9223372036854775807 := by unfold maxLen at m1'; exact m1'
  have m2' : c2 ≤ 9223372036854775807 := by unfold maxLen at m2'; exact m2'
  have hT0 := hide hT
  replace a0 := hide a0
  replace a1 := hide a1
  replace a2 := hide a2
  replace hw0 := hide hw0
  clear hT
  go_enter Tryd.func6, Tryd.ntmps6
  go_wp2_with fail
  refine hk.mono ?_
  rintro e w1 ⟨rfl, hb1⟩
  replace hb1 := hide hb1
  clear hk
  by_cases q1 : 30 < zs.length
  · go_wp2_with fail
    go_ret
    exact ⟨rfl, hb1.out⟩
  by_cases q2 : l1.length < zs.length
  · go_wp2_with fail
    go_ret
    exact ⟨rfl, hb1.out⟩
  by_cases q3 : 6 < l2.length
  · go_wp2_with fail
    go_ret
    exact ⟨rfl, hb1.out⟩
  have z1 := hb1.out.size
  have hn1 := new_dk w1 60 (by decide) (by decide)
  go_wp2_with fail
  refine hn1.mono ?_
  rintro e w2 ⟨sb, S2, rfl, hd2, hb12⟩
  have z12 := hb12.size
  have hb2 := hb1.out.trans (hb12.mono z1)
  have hT2 := hT0.out.below hz hb2
  have z2 := hb2.size
  have ho2 := open_dk hd2 (by omega) z12 hT2
  replace hb2 := hide hb2
  replace hd2 := hide hd2
  clear hn1 hb12 hT2
  go_wp2_with fail
  refine ho2.mono ?_
  rintro e w3 ⟨lb, v, S3, rfl, hl3, -, -, hlb, hm3⟩
  have hb3 := below_mv hb2.out hm3 z2 fun k hk => Nat.le_trans z1 (hd2.out.ge hk)
  have z3 := hb3.size
  have hba := batch_any (a2.out.upd (Upd.of_below (fun _ => False) hb3) fun _ _ => id) 3 (by omega) (by omega)
  replace hb3 := hide hb3
  replace hl3 := hide hl3
  clear ho2 hd2 hm3
  go_wp2_with fail
  refine hba.mono ?_
  rintro e w4 ⟨v4, rfl, hv4, hb34⟩
  clear hba
  have z34 := hb34.size
  have hb4 := hb3.out.trans (hb34.mono z3)
  have hl4 := hl3.out.upd (Upd.of_below (fun _ => False) hb34) fun _ _ => id
  have hc4 := commit_lg hl4 (by omega) (hT0.out.below hz hb4) hv4.recsV (fun k hk h => by have := hl3.out.old h; omega) (by rw [batchL_len]; omega) (fun r hr => by have := batch_each 3 l2 r hr; omega) (by
    have := frames_le_of (batch_each 3 l2)
    rw [batchL_len] at this
    have e : (frames ([] : List (List UInt8))).length = 0 := rfl
    have e2 : capC 60 = 7168 := by decide
    omega)
  replace hb4 := hide hb4
  replace hl4 := hide hl4
  clear hv4 hb34
  go_wp2_with fail
  refine hc4.mono ?_
  rintro e w5 ⟨rfl, S5, hl5, hm5⟩
  have hb5 := below_mv hb4.out hm5 hb4.out.size fun k hk => Nat.le_trans z1 (hl4.out.ge hk)
  obtain ⟨D, live, x, hL5, hDn, hDs⟩ := hl5
  have i1 := hL5.disk
  have i2 := hL5.on
  have i3 := hL5.holds.fine
  have i4 : ∀ k, S5 k → w.heap.size ≤ k := fun k hk => Nat.le_trans z1 (hL5.own k hk)
  replace hb5 := hide hb5
  replace i1 := hide i1
  replace i2 := hide i2
  replace i3 := hide i3
  replace i4 := hide i4
  clear hc4 hm5 hL5 hl4 hb4 hl3
  go_wp2_with fail
  go_loopw [11] (fun i wr => ∃ (k : Nat) (S : Nat → Prop) (D : DS), k ≤ zs.length ∧ i = .int .i64 k ∧ Below w.heap.size w wr ∧ DiskV wr sb S D ∧ D.on ∧ Fine D ∧ D.n = 60 ∧ D.size = 256 ∧ ∀ k, S k → w.heap.size ≤ k) (fun i _ => zs.length - (intOf i).toNat)
  case atStart => exact ⟨0, S5, D, Nat.zero_le _, rfl, hb5.out, i1.out, i2.out, i3.out, hDn, hDs, i4.out⟩
  case round =>
    clear hb5 i1 i2 i3 i4 hDn hDs
    obtain ⟨k, S, D, hk, rfl, hb, hd, hon, hf, hDn, hDs, hS⟩ := hrel
    have hU := Upd.of_below (fun _ => False) hb
    rcases Nat.lt_or_ge k zs.length with hlt | hge
    · obtain ⟨b, o, rfl, hkb, hcell⟩ := (a0.out.upd hU fun _ _ => id).get (i := k) (u := .int .u16 zs[k]) (by simp [hlt])
      obtain ⟨m, hm, hm2⟩ : ∃ m : Nat, zs[k] = m ∧ m < 65536 := by
        have := bounds_u16 (hw0.out _ (List.getElem_mem hlt))
        exact ⟨zs[k].toNat, by omega, by omega⟩
      rw [hm] at hcell
      have hpl := place_any wr m 15360 (by omega) (by omega) (by omega)
      obtain ⟨p, hp⟩ : ∃ p, p = m % 15360 := ⟨_, rfl⟩
      have hp2 : p < 15360 := by omega
      rw [← hp] at hpl
      have hrd := read_any hd hon.1 (p / 256) (by omega)
      replace hp := hide hp
      replace hm := hide hm
      replace hb := hide hb
      replace hd := hide hd
      replace hon := hide hon
      replace hf := hide hf
      replace hU := hide hU
      replace hS := hide hS
      go_wp2_with fail
      refine hpl.mono ?_
      rintro e w' ⟨rfl, rfl⟩
      clear hpl
      obtain ⟨q, hq⟩ : ∃ q, q = p / 256 := ⟨_, rfl⟩
      obtain ⟨r, hr⟩ : ∃ r, r = p % 256 := ⟨_, rfl⟩
      have hq2 : (p : Int) / 256 = (q : Nat) := by omega
      have hr2 : (p : Int) % 256 = (r : Nat) := by omega
      have hqn : q < 60 := by omega
      have hrn : r < 256 := by omega
      rw [← hq] at hrd
      replace hq := hide hq
      replace hr := hide hr
      go_wp2_with fail
      refine hrd.mono ?_
      rintro e w2' ⟨v', rfl, hrow, hbw⟩
      clear hrd
      have hll : (D.last q).length = 256 := by rw [hf.out.len q (by omega), hDs]
      obtain ⟨L, hL⟩ : ∃ L, L = D.last q := ⟨_, rfl⟩
      rw [← hL] at hll hrow
      have hrow' := hrow
      obtain ⟨g, cap, cur, rfl, hgB, hg, hgc, hcm, hcs, hct⟩ : ∃ g cap cur, v' = .slice (some ⟨g, 0, none⟩) L.length cap ∧ wr.heap.size ≤ g ∧ w2'.heap[g]? = some (.cells cur 5) ∧ L.length ≤ cap ∧ cap ≤ maxLen ∧ cur.size = cap * 1 ∧ cur.toList.take (L.length * 1) = bv L := by
        rcases hrow.2 with ⟨rfl, h0⟩ | h
        · omega
        · exact h
      rw [hll] at hgc hct hrow ⊢
      have hsr : w2'.cell? ⟨g, r, none⟩ = some (.int .u8 (L[r]'(by omega)).toNat) := by
        rw [cell_at hg]
        have h1 : (cur.toList.take (256 * 1))[r]? = (bv L)[r]? := by rw [hct]
        rw [List.getElem?_take_of_lt (by omega), bv_get (by omega)] at h1
        simpa using h1
      have hfz := frozen_at hg r
      obtain ⟨a, ha⟩ : ∃ a, a = (L[r]'(by omega)).toNat := ⟨_, rfl⟩
      have ha2 : a < 256 := by rw [ha]; exact UInt8.toNat_lt _
      rw [← ha] at hsr
      have hU2' := hU.out.then (Upd.of_below (fun _ => False) hbw)
      obtain ⟨bx, ox, rfl, hkx, hcx⟩ := (a1.out.upd hU2' fun _ _ => id).get (i := k) (u := .int .u8 (l1[k]'(by omega)).toNat) (bv_get (by omega))
      obtain ⟨c, hc⟩ : ∃ c, c = (l1[k]'(by omega)).toNat := ⟨_, rfl⟩
      have hc2 : c < 256 := by rw [hc]; exact UInt8.toNat_lt _
      rw [← hc] at hcx
      obtain ⟨y, hy, hy2⟩ : ∃ y : Nat, bits .xor .u8 (a : Int) (c : Int) = (y : Int) ∧ y < 256 := xor8 ha2 hc2
      have hst := store_arg hg hll hgc hcm (by simpa using hct) hrn hy2
      replace ha := hide ha
      replace hc := hide hc
      replace hg := hide hg
      replace hct := hide hct
      replace hU2' := hide hU2'
      replace hst := hide hst
      replace hbw := hide hbw
      replace hrow := hide hrow
      clear hrow'
      go_wp2_with fail
      go_region
      all_goals
        go_wp2_with fail
        obtain ⟨w3, hw3⟩ : ∃ w3, w3 = (w2'.setCell ⟨g, r, none⟩ (.int .u8 y)).drew := ⟨_, rfl⟩
        have hUs : Upd (fun k => k = g) w2' w3 := by rw [hw3]; exact (Upd.set (F := fun k => k = g) w2' (a := ⟨g, r, none⟩) rfl _).drew
        have hst3 := hst.out.upd (Upd.refl (fun _ => False) _).drew fun _ _ => id
        rw [← hw3] at hst3 ⊢
        clear hw3
        have hold := hd.out.old
        have hd3 := (hd.out.below hbw.out).upd hUs fun k hk e => by have := hold k hk; omega
        have hwr := write_any hd3 q (by omega) hst3 (fun k (e : k = g) hk => by have := hold k hk; omega) (by rw [List.length_set]; omega)
        have hb3 : Below w.heap.size w w3 := (hb.out.trans (hbw.out.mono hb.out.size)).trans (hUs.below (by have := hb.out.size; have := hbw.out.size; omega) fun k (e : k = g) => by have := hb.out.size; omega)
        have hzz := hUs.size
        replace hb3 := hide hb3
        replace hold := hide hold
        clear hd3 hst3 hst hUs hfz hsr
        refine hwr.mono ?_
        rintro e w4 ⟨rfl, S4, hd4, hm4⟩
        clear hwr
        have hb4 := below_mv hb3.out hm4 hb3.out.size hS.out
        have hS4 : ∀ k, S4 k → w.heap.size ≤ k := fun k hk => (hm4.2 k hk).elim (hS.out k) fun h => by have := hb3.out.size; omega
        replace hb4 := hide hb4
        replace hd4 := hide hd4
        replace hS4 := hide hS4
        clear hm4
        go_wp2_with fail
        go_roundw
        case rel => exact ⟨k + 1, S4, _, by omega, by go_num, hb4.out, hd4.out, hon.out.write _ _, write_fine hf.out hon.out (by rw [List.length_set]; omega), by rw [DS.write_n]; exact hDn, by rw [DS.write_size]; exact hDs, hS4.out⟩
        case measure => simp [intOf]; omega
    · obtain rfl : k = zs.length := by omega
      have hfl := flush_any hd
      have hond := hon.flush
      rw [hond.1] at hfl
      replace hb := hide hb
      replace hond := hide hond
      clear hd hU
      go_wp2_with fail
      refine hfl.mono ?_
      rintro e w4 ⟨rfl, S4, hd4, hm4⟩
      have hb4 := below_mv hb.out hm4 hb.out.size hS
      have hS4 : ∀ k, S4 k → w.heap.size ≤ k := fun k hk => (hm4.2 k hk).elim (hS k) fun h => by have := hb.out.size; omega
      have ho4 := open_any hd4 hond.out.1 (hT0.out.below hz hb4) (fun h => by have := hS4 0 h; omega) (by have := hb4.size; omega) (by rw [DS.flush_n]; omega) (by rw [DS.flush_size]; omega)
      have hood := hond.out.opened
      replace hb4 := hide hb4
      replace hS4 := hide hS4
      replace hood := hide hood
      clear hfl hm4 hd4
      go_wp2_with fail
      refine ho4.mono ?_
      rintro e w5 ⟨S5, hd5, hm5, h | ⟨-, lb5, v5, rfl, -, -, -, hr5, -⟩⟩
      · rw [hood.out.1] at h
        cases h.1
      clear ho4
      obtain ⟨A5, c5, rfl, -⟩ := hr5.slice
      have hb5 := below_mv hb4.out hm5 hb4.out.size hS4.out
      replace hb5 := hide hb5
      clear hd5 hm5 hr5
      go_wp2_with fail
      go_ret
      exact ⟨rfl, hb5.out⟩
end Go.Proofs.YtimblkkojcbipaaDoor
