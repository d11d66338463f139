/- Walks of wal: an extent is read. -/
import Derived.Test.YtimblkkojcbipaaDoorReadSlot
namespace Go.Proofs.YtimblkkojcbipaaDoor
open Go Go.RowKit
theorem DiskV.last_len {w : World} {S : Nat → Prop} {sb : Nat} {D : DS} (h : DiskV w sb S D) {i : Nat} (hi : i < D.n) : (D.last i).length = D.size := by
  obtain ⟨db, mb, cap, vs, g, R, h, rfl⟩ := h
  have h1 := (h.dur i hi).1
  have h2 := h.wr i hi
  unfold DS.last
  cases hw : D.wr i with
  | none => exact h1
  | some l =>
    rw [hw] at h2
    cases hg : g i with
    | none => rw [hg] at h2; exact h2.elim
    | some v => rw [hg] at h2; exact h2.1
/-- The first k sectors of an area, one behind another. -/
def bytesOf (D : DS) (a k : Nat) : List UInt8 := (List.range k).flatMap fun j => D.last (3 + a * areaN D + j)
theorem bytesOf_succ (D : DS) (a k : Nat) : bytesOf D a (k + 1) = bytesOf D a k ++ D.last (3 + a * areaN D + k) := by
  unfold bytesOf
  rw [List.range_succ, List.flatMap_append]
  simp
theorem bytesOf_len (D : DS) (a : Nat) (hl : ∀ i, i < D.n → (D.last i).length = D.size) : ∀ k, 3 + a * areaN D + k ≤ D.n → (bytesOf D a k).length = k * D.size
  | 0, _ => by simp [bytesOf]
  | k + 1, h => by rw [bytesOf_succ, List.length_append, bytesOf_len D a hl k (by omega), hl _ (by omega), Nat.succ_mul]
theorem bytesOf_pre (D : DS) (a : Nat) {k : Nat} : ∀ {m : Nat}, k ≤ m → ∃ t, bytesOf D a m = bytesOf D a k ++ t
  | 0, h => ⟨[], by have : k = 0 := by omega
                    subst this; simp⟩
  | m + 1, h => by
    rcases Nat.lt_or_ge m k with h1 | h1
    · obtain rfl : k = m + 1 := by omega
      exact ⟨[], by simp⟩
    · obtain ⟨t, ht⟩ := bytesOf_pre D a h1
      exact ⟨t ++ D.last (3 + a * areaN D + m), by rw [bytesOf_succ, ht, List.append_assoc]⟩
/-- What an extent holds. -/
def extL (D : DS) (x : Ext) : List UInt8 := (bytesOf D x.area (areaN D)).take x.bytes
section
variable {W : World} {pb sb : Nat} {S : Nat → Prop} {D : DS}
set_option maxRecDepth 100000 in
set_option maxHeartbeats 1000000 in
theorem load_any (h : PgV W pb sb S D) (hd : D.dead = false) (hn : 16 ≤ D.n) (x : Ext) (hxa : x.area ≤ 1) (hxb : x.bytes ≤ capN D) : Calls Tryd.prog 46 #[.pointer (some ⟨pb, 0, none⟩), extV x] W fun e w' => ∃ v, e = .returned v ∧ ArgV w' (fun k => W.heap.size ≤ k ∧ k < w'.heap.size) v (bv (extL D x)) ∧ PgV w' pb sb S D ∧ Upd (At pb) W w' := by
  have hs1 := h.disk.s1
  have hn1 := h.disk.n1
  have hlt := h.lt
  have hold := h.disk.old
  have hll : ∀ i, i < D.n → (D.last i).length = D.size := fun i hi => h.disk.last_len hi
  have hhi := area_hi hxa hn
  have hle := area_le hn1.2
  have hcap : capN D = areaN D * D.size := rfl
  have hcm : areaN D * D.size ≤ 2046 * 4096 := Nat.mul_le_mul hle hs1.2
  obtain ⟨w1, hw1⟩ : ∃ w1, w1 = W.alloc (.cells #[.int .i64 x.area, .int .i64 x.bytes, .int .i64 x.records] 73) := ⟨_, rfl⟩
  have y1 : w1.heap[W.heap.size]? = some (.cells #[.int .i64 x.area, .int .i64 x.bytes, .int .i64 x.records] 73) := by rw [hw1]; exact heap_new _ _
  have hp1 : PgV w1 pb sb S D := by rw [hw1]; exact h.upd (.alloc (fun _ => False) _ _) id fun _ _ => id
  have hU1 : Upd (At pb) W w1 := by rw [hw1]; exact .alloc _ _ _
  have z1 : w1.heap.size = W.heap.size + 1 := by rw [hw1]; simp
  have k0 := hp1.c0
  have x0 : w1.cell? ⟨W.heap.size, 0, none⟩ = some (.int .i64 x.area) := by rw [cell_at y1]; rfl
  clear h
  unfold extV
  replace y1 := hide y1
  replace hp1 := hide hp1
  replace hU1 := hide hU1
  replace hold := hide hold
  replace hll := hide hll
  replace hcap := hide hcap
  replace hd := hide hd
  go_enter Tryd.func46, Tryd.ntmps46
  go_wp2_with fail
  rw [← hw1]
  replace hw1 := hide hw1
  refine wp_region_flow (fun _ => False) (factAt [(fun v _ => v = (.pointer (some ⟨pb, 0, none⟩))), (fun v _ => v = (.pointer (some ⟨pb, 0, none⟩))), (fun v _ => v = (.pointer (some ⟨pb, 0, none⟩))), (fun v _ => v = (.pointer (some ⟨sb, 0, none⟩))), (fun v _ => v = (.pointer (some ⟨W.heap.size, 0, none⟩))), (fun v _ => v = (.int .i64 (x.area : Nat))), (fun v _ => v = (.int .i64 (secN D x.area 0 : Nat))), (fun v _ => v = (.int .i64 (secN D x.area 0 : Nat)))]) [] (fun _ => True) (by kernel_rfl) (fkept_at ⟨FKept.eq _, FKept.eq _, FKept.eq _, FKept.eq _, FKept.eq _, FKept.eq _, FKept.eq _, FKept.eq _, trivial⟩) (fun _ _ h _ => h) trivial (by kernel_rfl) (by kernel_rfl) (by kernel_rfl) (by kernel_rfl) (Nat.le_of_ble_eq_true (by kernel_rfl)) ?_ ⟨?_, ?_, ?_, ?_, ?_, ?_, ?_, ?_, trivial⟩ ?_
  · first | exact trivial | assumption
  · intro T w Q hu hs hv hw hd
    have hx0 : T.getD 0 undef = (.pointer (some ⟨pb, 0, none⟩)) := hv 0 (by kernel_rfl)
    refine .inl ⟨wanted_none rfl, ?_⟩
    clear hd hv hu hs hw
    go_simp
    exact ⟨_, rfl, DstOk.some rfl, Below.refl _ _, rfl⟩
  · intro T w Q hu hs hv hw hd
    have hx7 : T.getD 7 undef = (.pointer (some ⟨pb, 0, none⟩)) := Deps.at 0 hd (by kernel_rfl)
    refine .inl ⟨wanted_none rfl, ?_⟩
    clear hd hv hu hs hw
    go_simp
    exact ⟨_, rfl, DstOk.some rfl, Below.refl _ _, rfl⟩
  · intro T w Q hu hs hv hw hd
    have hx8 : T.getD 8 undef = (.pointer (some ⟨pb, 0, none⟩)) := Deps.at 1 hd (by kernel_rfl)
    refine .inl ⟨wanted_none rfl, ?_⟩
    clear hd hv hu hs hw
    go_simp
    exact ⟨_, rfl, DstOk.some rfl, Below.refl _ _, rfl⟩
  · intro T w Q hu hs hv hw hd
    have hx9 : T.getD 9 undef = (.pointer (some ⟨pb, 0, none⟩)) := Deps.at 2 hd (by kernel_rfl)
    refine .inl ⟨wanted_none rfl, ?_⟩
    have hq0 := hu.cell k0 id
    clear hd hv hu hs hw
    go_simp
    exact ⟨_, rfl, DstOk.some rfl, Below.refl _ _, rfl⟩
  · intro T w Q hu hs hv hw hd
    have hx3 : T.getD 3 undef = (.pointer (some ⟨W.heap.size, 0, none⟩)) := hv 3 (by kernel_rfl)
    refine .inl ⟨wanted_none rfl, ?_⟩
    clear hd hv hu hs hw
    go_simp
    exact ⟨_, rfl, DstOk.some rfl, Below.refl _ _, rfl⟩
  · intro T w Q hu hs hv hw hd
    have hx11 : T.getD 11 undef = (.pointer (some ⟨W.heap.size, 0, none⟩)) := Deps.at 4 hd (by kernel_rfl)
    refine .inl ⟨wanted_none rfl, ?_⟩
    have hq0 := hu.cell x0 id
    clear hd hv hu hs hw
    go_simp
    exact ⟨_, rfl, DstOk.some rfl, Below.refl _ _, rfl⟩
  · intro T w Q hu hs hv hw hd
    have hx10 : T.getD 10 undef = (.pointer (some ⟨sb, 0, none⟩)) := Deps.at 3 hd (by kernel_rfl)
    have hx12 : T.getD 12 undef = (.int .i64 (x.area : Nat)) := Deps.at 5 hd (by kernel_rfl)
    refine .inl ⟨wanted_none rfl, ?_⟩
    have hN := sectorOf_any (hp1.out.disk.upd hu fun _ _ => id) hn x.area 0 hxa (by omega)
    clear hd hv hu hs hw
    go_simp
    refine hN.mono ?_
    rintro e w2 ⟨rfl, hb⟩
    exact ⟨_, rfl, DstOk.some rfl, hb, rfl⟩
  · intro T w Q hu hs hv hw hd
    have hx13 : T.getD 13 undef = (.int .i64 (secN D x.area 0 : Nat)) := Deps.at 6 hd (by kernel_rfl)
    refine .inl ⟨wanted_none rfl, ?_⟩
    clear hd hv hu hs hw
    go_simp
    exact ⟨_, rfl, DstOk.some rfl, Below.refl _ _, rfl⟩
  intro T w hu hs hv hf hcur
  have hT : T = #[T.getD 0 undef, T.getD 1 undef, T.getD 2 undef, T.getD 3 undef, T.getD 4 undef, T.getD 5 undef, T.getD 6 undef, T.getD 7 undef, T.getD 8 undef, T.getD 9 undef, T.getD 10 undef, T.getD 11 undef, T.getD 12 undef, T.getD 13 undef, T.getD 14 undef, T.getD 15 undef, T.getD 16 undef, T.getD 17 undef, T.getD 18 undef, T.getD 19 undef, T.getD 20 undef, T.getD 21 undef, T.getD 22 undef, T.getD 23 undef, T.getD 24 undef, T.getD 25 undef, T.getD 26 undef, T.getD 27 undef, T.getD 28 undef, T.getD 29 undef] := expl hs
  rw [hT]
  clear hT
  rw [show T.getD 0 undef = (.pointer (some ⟨pb, 0, none⟩)) from hv 0 (by kernel_rfl)]
  rw [hv 1 (by kernel_rfl)]
  rw [hv 2 (by kernel_rfl)]
  rw [show T.getD 3 undef = (.pointer (some ⟨W.heap.size, 0, none⟩)) from hv 3 (by kernel_rfl)]
  rw [hv 4 (by kernel_rfl)]
  rw [hv 5 (by kernel_rfl)]
  rw [show T.getD 6 undef = (.int .i64 (secN D x.area 0 : Nat)) from hf 7 (by decide)]
  rw [show T.getD 7 undef = (.pointer (some ⟨pb, 0, none⟩)) from hf 0 (by decide)]
  rw [show T.getD 8 undef = (.pointer (some ⟨pb, 0, none⟩)) from hf 1 (by decide)]
  rw [show T.getD 9 undef = (.pointer (some ⟨pb, 0, none⟩)) from hf 2 (by decide)]
  rw [show T.getD 10 undef = (.pointer (some ⟨sb, 0, none⟩)) from hf 3 (by decide)]
  rw [show T.getD 11 undef = (.pointer (some ⟨W.heap.size, 0, none⟩)) from hf 4 (by decide)]
  rw [show T.getD 12 undef = (.int .i64 (x.area : Nat)) from hf 5 (by decide)]
  rw [show T.getD 13 undef = (.int .i64 (secN D x.area 0 : Nat)) from hf 6 (by decide)]
  rw [hv 14 (by kernel_rfl)]
  rw [hv 15 (by kernel_rfl)]
  rw [hv 16 (by kernel_rfl)]
  rw [hv 17 (by kernel_rfl)]
  rw [hv 18 (by kernel_rfl)]
  rw [hv 19 (by kernel_rfl)]
  rw [hv 20 (by kernel_rfl)]
  rw [hv 21 (by kernel_rfl)]
  rw [hv 22 (by kernel_rfl)]
  rw [hv 23 (by kernel_rfl)]
  rw [hv 24 (by kernel_rfl)]
  rw [hv 25 (by kernel_rfl)]
  rw [hv 26 (by kernel_rfl)]
  rw [hv 27 (by kernel_rfl)]
  rw [hv 28 (by kernel_rfl)]
  rw [hv 29 (by kernel_rfl)]
  clear hf hs hv hcur
  simp only [getD_toArray, List.getD_cons_succ, List.getD_cons_zero]
  clear T
  have y2 := hu.heap y1.out id
  have hp2 := hp1.out.upd hu id fun _ _ => id
  have hU2 : Upd (At pb) W w := hU1.out.then (hu.mono fun _ _ h => h.elim)
  have z2 := hu.size
  replace y2 := hide y2
  replace hp2 := hide hp2
  replace hU2 := hide hU2
  clear y1 hp1 hU1 hw1 k0 x0 hu
  go_wp2_with fail
  obtain ⟨s0, hs0⟩ : ∃ s0, s0 = secN D x.area 0 := ⟨_, rfl⟩
  have hs00 : s0 = 3 + x.area * areaN D := by rw [hs0]; unfold secN; simp
  rw [← hs0]
  clear hs0
  have hs0b : s0 ≤ 4096 := by omega
  replace hs00 := hide hs00
  go_loopw [5, 6] (fun b i wr => ∃ k s : Nat, k ≤ areaN D ∧ s = s0 + k ∧ i = .int .i64 s ∧ RowB wr (W.heap.size + 1) b (bytesOf D x.area k) ∧ PgV wr pb sb S D ∧ Upd (At pb) W wr ∧ wr.heap[W.heap.size]? = some (.cells #[.int .i64 x.area, .int .i64 x.bytes, .int .i64 x.records] 73) ∧ W.heap.size + 1 ≤ wr.heap.size) (fun _ i _ => s0 + areaN D - (intOf i).toNat)
  case atStart => exact ⟨0, s0, Nat.zero_le _, rfl, rfl, RowB.nil_ _ _, hp2.out, hU2.out, y2.out, by omega⟩
  case round =>
    obtain ⟨k, s, hk, hsk, rfl, hb, hp, hU, hy, hz⟩ := hrel
    clear hp2 hU2 y2 z2
    have d1 : wr.cell? ⟨W.heap.size, 1, none⟩ = some (.int .i64 x.bytes) := by rw [cell_at hy]; rfl
    have hql := bytesOf_len D x.area hll.out k (by omega)
    obtain ⟨A, n, c, rfl⟩ := hb.slice
    obtain rfl : n = (bytesOf D x.area k).length := by obtain ⟨A', c', h1, _⟩ := hb.arg; injection h1 with _ h1; rw [h1, bv_len]
    have hc : c ≤ 9223372036854775807 := by obtain ⟨A', c', h1, _, h2, _⟩ := hb.arg; injection h1 with _ _ h1; subst h1; unfold maxLen at h2; exact h2
    have hlc : (bytesOf D x.area k).length ≤ c := by obtain ⟨A', c', h1, h2, _⟩ := hb.arg; injection h1 with _ _ h1; subst h1; rwa [bv_len] at h2
    obtain ⟨q, hq⟩ : ∃ q, q = (bytesOf D x.area k).length := ⟨_, rfl⟩
    have hqm : q ≤ 2046 * 4096 := by rw [hq, hql]; exact Nat.le_trans (Nat.mul_le_mul_right _ hk) hcm
    rw [← hq] at hb hql hlc ⊢
    by_cases hlt2 : q < x.bytes
    · have hk2 : k < areaN D := by
        rcases Nat.lt_or_ge k (areaN D) with h | h
        · exact h
        · have : k = areaN D := by omega
          subst this
          have := hcap.out
          omega
      have hs01 := hs00.out
      have hr := pread_any hp hd.out s (by omega)
      have hsl : 3 + x.area * areaN D + k = s := by omega
      have hlen2 := hll.out s (by omega)
      have hsb : s ≤ 8192 := by omega
      have hnx := bytesOf_succ D x.area k
      rw [hsl] at hnx
      replace hb := hide hb
      replace hp := hide hp
      replace hU := hide hU
      replace hy := hide hy
      replace hq := hide hq
      replace hql := hide hql
      replace hnx := hide hnx
      replace hlen2 := hide hlen2
      replace hsl := hide hsl
      replace hsk := hide hsk
      clear hs01
      go_wp2_with fail
      refine hr.mono ?_
      rintro e w2 ⟨v2, rfl, h2, hp2, hU2⟩
      have hb2 := hb.out.upd hU2 (fun k hk e => by have := (hb.out.own_ge hk).1; omega)
      have hy2 := hU2.heap hy.out (by omega)
      have hz2 := hU2.size
      have h2a := h2.arg
      have h2n := h2.nonNil (by have := hlen2.out; omega)
      obtain ⟨A2, n2, c2, rfl⟩ := h2.slice
      replace h2a := hide h2a
      replace h2n := hide h2n
      replace hb2 := hide hb2
      replace hy2 := hide hy2
      replace hp2 := hide hp2
      replace hU2 := hide hU2
      clear hr h2
      go_wp2_with (at_builtin; refine wp_cat rfl (.tmp 21) (.tmp 24) rfl (W.heap.size + 1) _ (bytesOf D x.area k) rfl hb2.out _ _ (D.last s) rfl h2a.out h2n.out ?_ ?_ ?_)
      · rw [hlen2.out, ← hq.out]; omega
      · omega
      intro v3 w3 h3 hM
      have hp3 : PgV w3 pb sb S D := hp2.out.upd hM.1 (fun ho => by have := (hb.out.own_ge ho).1; omega) fun j hj ho => by have := (hb.out.own_ge ho).1; have := hold.out j hj; omega
      have hU3 : Upd (At pb) W w3 := (hU.out.then hU2.out).trans hM.1 fun j hj ho => by have := (hb.out.own_ge ho).1; omega
      have hy3 := hM.1.heap hy2.out (fun ho => by have := (hb.out.own_ge ho).1; omega)
      have hz3 := hM.1.size
      obtain ⟨A3, n3, c3, rfl⟩ := h3.slice
      replace h3 := hide h3
      replace hp3 := hide hp3
      replace hU3 := hide hU3
      replace hy3 := hide hy3
      replace hz3 := hide hz3
      clear hM
      go_wp2_with fail
      go_roundw
      case rel => exact ⟨k + 1, s + 1, by omega, by have := hsk.out; omega, by go_num, by rw [hnx.out]; exact h3.out, hp3.out, hU3.out, hy3.out, by have := hz3.out; omega⟩
      case measure => have := hsk.out; simp [intOf]; omega
    · have hba := hb.arg
      obtain ⟨t, ht⟩ := bytesOf_pre D x.area hk
      have hxe : extL D x = (bytesOf D x.area k).take x.bytes := by
        unfold extL
        rw [ht, List.take_append_of_le_length (by omega)]
      have hres := hba.take' x.bytes (by omega)
      rw [← hxe] at hres
      have hres2 := hres.mono' hres
      replace hres2 := hide hres2
      replace hp := hide hp
      replace hU := hide hU
      replace hy := hide hy
      replace hq := hide hq
      replace hql := hide hql
      clear hba hres hxe ht hb
      go_wp2_with fail
      go_ret
      exact ⟨_, rfl, hres2.out.mono fun j _ hj => ⟨by omega, hj.2⟩, hp.out, hU.out⟩
end
end Go.Proofs.YtimblkkojcbipaaDoor
