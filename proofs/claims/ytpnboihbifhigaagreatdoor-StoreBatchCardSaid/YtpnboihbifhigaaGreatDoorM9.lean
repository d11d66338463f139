/- Part 9 of the walks (merged): Load, Extend, Log. -/
import Derived.Test.YtpnboihbifhigaaGreatDoorM8
import Derived.Test.YtpnboihbifhigaaGreatDoorM3
import Derived.Test.YtpnboihbifhigaaGreatDoorM5
import Derived.Deep.DeepCutAuto
/- Walks of wal: an extent is read. -/
namespace Go.Proofs.YtpnboihbifhigaaGreatDoor
open Go Go.RowKit
theorem DiskV.last_len {w : World} {S : Nat → Prop} {sb : Nat} {D : DS} (h : DiskV w sb S D) {i : Nat} (hi : i < D.n) : (D.last i).length = D.size := by
  obtain ⟨db, mb, cap, vs, g, R, h, rfl⟩ := h
  have h1 := (h.dur i hi).1
  have h2 := h.wr i hi
  unfold DS.last
  cases hw : D.wr i with
  | none => exact h1
  | some l =>
    rw [hw] at h2
    cases hg : g i with
    | none => rw [hg] at h2; exact h2.elim
    | some v => rw [hg] at h2; exact h2.1
/-- The first k sectors of an area, one behind another. -/
def bytesOf (D : DS) (a k : Nat) : List UInt8 := (List.range k).flatMap fun j => D.last (3 + a * areaN D + j)
theorem bytesOf_succ (D : DS) (a k : Nat) : bytesOf D a (k + 1) = bytesOf D a k ++ D.last (3 + a * areaN D + k) := by
  unfold bytesOf
  rw [List.range_succ, List.flatMap_append]
  simp
theorem bytesOf_len (D : DS) (a : Nat) (hl : ∀ i, i < D.n → (D.last i).length = D.size) : ∀ k, 3 + a * areaN D + k ≤ D.n → (bytesOf D a k).length = k * D.size
  | 0, _ => by simp [bytesOf]
  | k + 1, h => by rw [bytesOf_succ, List.length_append, bytesOf_len D a hl k (by omega), hl _ (by omega), Nat.succ_mul]
theorem bytesOf_pre (D : DS) (a : Nat) {k : Nat} : ∀ {m : Nat}, k ≤ m → ∃ t, bytesOf D a m = bytesOf D a k ++ t
  | 0, h => ⟨[], by have : k = 0 := by omega
                    subst this; simp⟩
  | m + 1, h => by
    rcases Nat.lt_or_ge m k with h1 | h1
    · obtain rfl : k = m + 1 := by omega
      exact ⟨[], by simp⟩
    · obtain ⟨t, ht⟩ := bytesOf_pre D a h1
      exact ⟨t ++ D.last (3 + a * areaN D + m), by rw [bytesOf_succ, ht, List.append_assoc]⟩
/-- What an extent holds. -/
def extL (D : DS) (x : Ext) : List UInt8 := (bytesOf D x.area (areaN D)).take x.bytes
section
variable {W : World} {pb sb : Nat} {S : Nat → Prop} {D : DS}
set_option maxRecDepth 100000 in
set_option maxHeartbeats 1000000 in
theorem load_any (h : PgV W pb sb S D) (hd : D.dead = false) (hn : 16 ≤ D.n) (x : Ext) (hxa : x.area ≤ 1) (hxb : x.bytes ≤ capN D) : Calls Tryz.prog 72 #[.pointer (some ⟨pb, 0, none⟩), extV x] W fun e w' => ∃ v, e = .returned v ∧ ArgV w' (fun k => W.heap.size ≤ k ∧ k < w'.heap.size) v (bv (extL D x)) ∧ PgV w' pb sb S D ∧ Upd (At pb) W w' := by
  have hs1 := h.disk.s1
  have hn1 := h.disk.n1
  have hlt := h.lt
  have hold := h.disk.old
  have hll : ∀ i, i < D.n → (D.last i).length = D.size := fun i hi => h.disk.last_len hi
  have hhi := area_hi hxa hn
  have hle := area_le hn1.2
  have hcap : capN D = areaN D * D.size := rfl
  have hcm : areaN D * D.size ≤ 2046 * 4096 := Nat.mul_le_mul hle hs1.2
  obtain ⟨w1, hw1⟩ : ∃ w1, w1 = W.alloc (.cells #[.int .i64 x.area, .int .i64 x.bytes, .int .i64 x.records] 128) := ⟨_, rfl⟩
  have y1 : w1.heap[W.heap.size]? = some (.cells #[.int .i64 x.area, .int .i64 x.bytes, .int .i64 x.records] 128) := by rw [hw1]; exact heap_new _ _
  have hp1 : PgV w1 pb sb S D := by rw [hw1]; exact h.upd (.alloc (fun _ => False) _ _) id fun _ _ => id
  have hU1 : Upd (At pb) W w1 := by rw [hw1]; exact .alloc _ _ _
  have z1 : w1.heap.size = W.heap.size + 1 := by rw [hw1]; simp
  have k0 := hp1.c0
  have x0 : w1.cell? ⟨W.heap.size, 0, none⟩ = some (.int .i64 x.area) := by rw [cell_at y1]; rfl
  clear h
  unfold extV
  replace y1 := hide y1
  replace hp1 := hide hp1
  replace hU1 := hide hU1
  replace hold := hide hold
  replace hll := hide hll
  replace hcap := hide hcap
  replace hd := hide hd
  go_enter Tryz.func72, Tryz.ntmps72
  go_wp2_with fail
  rw [← hw1]
  replace hw1 := hide hw1
  refine wp_region_flow (fun _ => False) (factAt [(fun v _ => v = (.pointer (some ⟨pb, 0, none⟩))), (fun v _ => v = (.pointer (some ⟨pb, 0, none⟩))), (fun v _ => v = (.pointer (some ⟨pb, 0, none⟩))), (fun v _ => v = (.pointer (some ⟨sb, 0, none⟩))), (fun v _ => v = (.pointer (some ⟨W.heap.size, 0, none⟩))), (fun v _ => v = (.int .i64 (x.area : Nat))), (fun v _ => v = (.int .i64 (secN D x.area 0 : Nat))), (fun v _ => v = (.int .i64 (secN D x.area 0 : Nat)))]) [] (fun _ => True) (by kernel_rfl) (fkept_at ⟨FKept.eq _, FKept.eq _, FKept.eq _, FKept.eq _, FKept.eq _, FKept.eq _, FKept.eq _, FKept.eq _, trivial⟩) (fun _ _ h _ => h) trivial (by kernel_rfl) (by kernel_rfl) (by kernel_rfl) (by kernel_rfl) (Nat.le_of_ble_eq_true (by kernel_rfl)) ?_ ⟨?_, ?_, ?_, ?_, ?_, ?_, ?_, ?_, trivial⟩ ?_
  · first | exact trivial | assumption
  · intro T w Q hu hs hv hw hd
    have hx0 : T.getD 0 undef = (.pointer (some ⟨pb, 0, none⟩)) := hv 0 (by kernel_rfl)
    refine .inl ⟨wanted_none rfl, ?_⟩
    clear hd hv hu hs hw
    go_simp
    exact ⟨_, rfl, DstOk.some rfl, Below.refl _ _, rfl⟩
  · intro T w Q hu hs hv hw hd
    have hx7 : T.getD 7 undef = (.pointer (some ⟨pb, 0, none⟩)) := Deps.at 0 hd (by kernel_rfl)
    refine .inl ⟨wanted_none rfl, ?_⟩
    clear hd hv hu hs hw
    go_simp
    exact ⟨_, rfl, DstOk.some rfl, Below.refl _ _, rfl⟩
  · intro T w Q hu hs hv hw hd
    have hx8 : T.getD 8 undef = (.pointer (some ⟨pb, 0, none⟩)) := Deps.at 1 hd (by kernel_rfl)
    refine .inl ⟨wanted_none rfl, ?_⟩
    clear hd hv hu hs hw
    go_simp
    exact ⟨_, rfl, DstOk.some rfl, Below.refl _ _, rfl⟩
  · intro T w Q hu hs hv hw hd
    have hx9 : T.getD 9 undef = (.pointer (some ⟨pb, 0, none⟩)) := Deps.at 2 hd (by kernel_rfl)
    refine .inl ⟨wanted_none rfl, ?_⟩
    have hq0 := hu.cell k0 id
    clear hd hv hu hs hw
    go_simp
    exact ⟨_, rfl, DstOk.some rfl, Below.refl _ _, rfl⟩
  · intro T w Q hu hs hv hw hd
    have hx3 : T.getD 3 undef = (.pointer (some ⟨W.heap.size, 0, none⟩)) := hv 3 (by kernel_rfl)
    refine .inl ⟨wanted_none rfl, ?_⟩
    clear hd hv hu hs hw
    go_simp
    exact ⟨_, rfl, DstOk.some rfl, Below.refl _ _, rfl⟩
  · intro T w Q hu hs hv hw hd
    have hx11 : T.getD 11 undef = (.pointer (some ⟨W.heap.size, 0, none⟩)) := Deps.at 4 hd (by kernel_rfl)
    refine .inl ⟨wanted_none rfl, ?_⟩
    have hq0 := hu.cell x0 id
    clear hd hv hu hs hw
    go_simp
    exact ⟨_, rfl, DstOk.some rfl, Below.refl _ _, rfl⟩
  · intro T w Q hu hs hv hw hd
    have hx10 : T.getD 10 undef = (.pointer (some ⟨sb, 0, none⟩)) := Deps.at 3 hd (by kernel_rfl)
    have hx12 : T.getD 12 undef = (.int .i64 (x.area : Nat)) := Deps.at 5 hd (by kernel_rfl)
    refine .inl ⟨wanted_none rfl, ?_⟩
    have hN := sectorOf_any (hp1.out.disk.upd hu fun _ _ => id) hn x.area 0 hxa (by omega)
    clear hd hv hu hs hw
    go_simp
    refine hN.mono ?_
    rintro e w2 ⟨rfl, hb⟩
    exact ⟨_, rfl, DstOk.some rfl, hb, rfl⟩
  · intro T w Q hu hs hv hw hd
    have hx13 : T.getD 13 undef = (.int .i64 (secN D x.area 0 : Nat)) := Deps.at 6 hd (by kernel_rfl)
    refine .inl ⟨wanted_none rfl, ?_⟩
    clear hd hv hu hs hw
    go_simp
    exact ⟨_, rfl, DstOk.some rfl, Below.refl _ _, rfl⟩
  intro T w hu hs hv hf hcur
  have hT : T = #[T.getD 0 undef, T.getD 1 undef, T.getD 2 undef, T.getD 3 undef, T.getD 4 undef, T.getD 5 undef, T.getD 6 undef, T.getD 7 undef, T.getD 8 undef, T.getD 9 undef, T.getD 10 undef, T.getD 11 undef, T.getD 12 undef, T.getD 13 undef, T.getD 14 undef, T.getD 15 undef, T.getD 16 undef, T.getD 17 undef, T.getD 18 undef, T.getD 19 undef, T.getD 20 undef, T.getD 21 undef, T.getD 22 undef, T.getD 23 undef, T.getD 24 undef, T.getD 25 undef, T.getD 26 undef, T.getD 27 undef, T.getD 28 undef, T.getD 29 undef] := expl hs
  rw [hT]
  clear hT
  rw [show T.getD 0 undef = (.pointer (some ⟨pb, 0, none⟩)) from hv 0 (by kernel_rfl)]
  rw [hv 1 (by kernel_rfl)]
  rw [hv 2 (by kernel_rfl)]
  rw [show T.getD 3 undef = (.pointer (some ⟨W.heap.size, 0, none⟩)) from hv 3 (by kernel_rfl)]
  rw [hv 4 (by kernel_rfl)]
  rw [hv 5 (by kernel_rfl)]
  rw [show T.getD 6 undef = (.int .i64 (secN D x.area 0 : Nat)) from hf 7 (by decide)]
  rw [show T.getD 7 undef = (.pointer (some ⟨pb, 0, none⟩)) from hf 0 (by decide)]
  rw [show T.getD 8 undef = (.pointer (some ⟨pb, 0, none⟩)) from hf 1 (by decide)]
  rw [show T.getD 9 undef = (.pointer (some ⟨pb, 0, none⟩)) from hf 2 (by decide)]
  rw [show T.getD 10 undef = (.pointer (some ⟨sb, 0, none⟩)) from hf 3 (by decide)]
  rw [show T.getD 11 undef = (.pointer (some ⟨W.heap.size, 0, none⟩)) from hf 4 (by decide)]
  rw [show T.getD 12 undef = (.int .i64 (x.area : Nat)) from hf 5 (by decide)]
  rw [show T.getD 13 undef = (.int .i64 (secN D x.area 0 : Nat)) from hf 6 (by decide)]
  rw [hv 14 (by kernel_rfl)]
  rw [hv 15 (by kernel_rfl)]
  rw [hv 16 (by kernel_rfl)]
  rw [hv 17 (by kernel_rfl)]
  rw [hv 18 (by kernel_rfl)]
  rw [hv 19 (by kernel_rfl)]
  rw [hv 20 (by kernel_rfl)]
  rw [hv 21 (by kernel_rfl)]
  rw [hv 22 (by kernel_rfl)]
  rw [hv 23 (by kernel_rfl)]
  rw [hv 24 (by kernel_rfl)]
  rw [hv 25 (by kernel_rfl)]
  rw [hv 26 (by kernel_rfl)]
  rw [hv 27 (by kernel_rfl)]
  rw [hv 28 (by kernel_rfl)]
  rw [hv 29 (by kernel_rfl)]
  clear hf hs hv hcur
  simp only [getD_toArray, List.getD_cons_succ, List.getD_cons_zero]
  clear T
  have y2 := hu.heap y1.out id
  have hp2 := hp1.out.upd hu id fun _ _ => id
  have hU2 : Upd (At pb) W w := hU1.out.then (hu.mono fun _ _ h => h.elim)
  have z2 := hu.size
  replace y2 := hide y2
  replace hp2 := hide hp2
  replace hU2 := hide hU2
  clear y1 hp1 hU1 hw1 k0 x0 hu
  go_wp2_with fail
  obtain ⟨s0, hs0⟩ : ∃ s0, s0 = secN D x.area 0 := ⟨_, rfl⟩
  have hs00 : s0 = 3 + x.area * areaN D := by rw [hs0]; unfold secN; simp
  rw [← hs0]
  clear hs0
  have hs0b : s0 ≤ 4096 := by omega
  replace hs00 := hide hs00
  go_loopw [5, 6] (fun b i wr => ∃ k s : Nat, k ≤ areaN D ∧ s = s0 + k ∧ i = .int .i64 s ∧ RowB wr (W.heap.size + 1) b (bytesOf D x.area k) ∧ PgV wr pb sb S D ∧ Upd (At pb) W wr ∧ wr.heap[W.heap.size]? = some (.cells #[.int .i64 x.area, .int .i64 x.bytes, .int .i64 x.records] 128) ∧ W.heap.size + 1 ≤ wr.heap.size) (fun _ i _ => s0 + areaN D - (intOf i).toNat)
  case atStart => exact ⟨0, s0, Nat.zero_le _, rfl, rfl, RowB.nil_ _ _, hp2.out, hU2.out, y2.out, by omega⟩
  case round =>
    obtain ⟨k, s, hk, hsk, rfl, hb, hp, hU, hy, hz⟩ := hrel
    clear hp2 hU2 y2 z2
    have d1 : wr.cell? ⟨W.heap.size, 1, none⟩ = some (.int .i64 x.bytes) := by rw [cell_at hy]; rfl
    have hql := bytesOf_len D x.area hll.out k (by omega)
    obtain ⟨A, n, c, rfl⟩ := hb.slice
    obtain rfl : n = (bytesOf D x.area k).length := by obtain ⟨A', c', h1, _⟩ := hb.arg; injection h1 with _ h1; rw [h1, bv_len]
    have hc : c ≤ 9223372036854775807 := by obtain ⟨A', c', h1, _, h2, _⟩ := hb.arg; injection h1 with _ _ h1; subst h1; unfold maxLen at h2; exact h2
    have hlc : (bytesOf D x.area k).length ≤ c := by obtain ⟨A', c', h1, h2, _⟩ := hb.arg; injection h1 with _ _ h1; subst h1; rwa [bv_len] at h2
    obtain ⟨q, hq⟩ : ∃ q, q = (bytesOf D x.area k).length := ⟨_, rfl⟩
    have hqm : q ≤ 2046 * 4096 := by rw [hq, hql]; exact Nat.le_trans (Nat.mul_le_mul_right _ hk) hcm
    rw [← hq] at hb hql hlc ⊢
    by_cases hlt2 : q < x.bytes
    · have hk2 : k < areaN D := by
        rcases Nat.lt_or_ge k (areaN D) with h | h
        · exact h
        · have : k = areaN D := by omega
          subst this
          have := hcap.out
          omega
      have hs01 := hs00.out
      have hr := pread_any hp hd.out s (by omega)
      have hsl : 3 + x.area * areaN D + k = s := by omega
      have hlen2 := hll.out s (by omega)
      have hsb : s ≤ 8192 := by omega
      have hnx := bytesOf_succ D x.area k
      rw [hsl] at hnx
      replace hb := hide hb
      replace hp := hide hp
      replace hU := hide hU
      replace hy := hide hy
      replace hq := hide hq
      replace hql := hide hql
      replace hnx := hide hnx
      replace hlen2 := hide hlen2
      replace hsl := hide hsl
      replace hsk := hide hsk
      clear hs01
      go_wp2_with fail
      refine hr.mono ?_
      rintro e w2 ⟨v2, rfl, h2, hp2, hU2⟩
      have hb2 := hb.out.upd hU2 (fun k hk e => by have := (hb.out.own_ge hk).1; omega)
      have hy2 := hU2.heap hy.out (by omega)
      have hz2 := hU2.size
      have h2a := h2.arg
      have h2n := h2.nonNil (by have := hlen2.out; omega)
      obtain ⟨A2, n2, c2, rfl⟩ := h2.slice
      replace h2a := hide h2a
      replace h2n := hide h2n
      replace hb2 := hide hb2
      replace hy2 := hide hy2
      replace hp2 := hide hp2
      replace hU2 := hide hU2
      clear hr h2
      go_wp2_with (at_builtin; refine wp_cat rfl (.tmp 21) (.tmp 24) rfl (W.heap.size + 1) _ (bytesOf D x.area k) rfl hb2.out _ _ (D.last s) rfl h2a.out h2n.out ?_ ?_ ?_)
      · rw [hlen2.out, ← hq.out]; omega
      · omega
      intro v3 w3 h3 hM
      have hp3 : PgV w3 pb sb S D := hp2.out.upd hM.1 (fun ho => by have := (hb.out.own_ge ho).1; omega) fun j hj ho => by have := (hb.out.own_ge ho).1; have := hold.out j hj; omega
      have hU3 : Upd (At pb) W w3 := (hU.out.then hU2.out).trans hM.1 fun j hj ho => by have := (hb.out.own_ge ho).1; omega
      have hy3 := hM.1.heap hy2.out (fun ho => by have := (hb.out.own_ge ho).1; omega)
      have hz3 := hM.1.size
      obtain ⟨A3, n3, c3, rfl⟩ := h3.slice
      replace h3 := hide h3
      replace hp3 := hide hp3
      replace hU3 := hide hU3
      replace hy3 := hide hy3
      replace hz3 := hide hz3
      clear hM
      go_wp2_with fail
      go_roundw
      case rel => exact ⟨k + 1, s + 1, by omega, by have := hsk.out; omega, by go_num, by rw [hnx.out]; exact h3.out, hp3.out, hU3.out, hy3.out, by have := hz3.out; omega⟩
      case measure => have := hsk.out; simp [intOf]; omega
    · have hba := hb.arg
      obtain ⟨t, ht⟩ := bytesOf_pre D x.area hk
      have hxe : extL D x = (bytesOf D x.area k).take x.bytes := by
        unfold extL
        rw [ht, List.take_append_of_le_length (by omega)]
      have hres := hba.take' x.bytes (by omega)
      rw [← hxe] at hres
      have hres2 := hres.mono' hres
      replace hres2 := hide hres2
      replace hp := hide hp
      replace hU := hide hU
      replace hy := hide hy
      replace hq := hide hq
      replace hql := hide hql
      clear hba hres hxe ht hb
      go_wp2_with fail
      go_ret
      exact ⟨_, rfl, hres2.out.mono fun j _ hj => ⟨by omega, hj.2⟩, hp.out, hU.out⟩
end
end Go.Proofs.YtpnboihbifhigaaGreatDoor
/- Walks of wal: an extent is extended. -/
namespace Go.Proofs.YtpnboihbifhigaaGreatDoor
open Go Go.RowKit
attribute [local go_sem] Oper.semAt_some
def PtrF (v : Value) : Prop := ∃ b, v = .pointer (some ⟨b, 0, none⟩)
theorem PtrF.kept {F : Nat → Prop} : FKept F (fun v _ => PtrF v) := fun _ _ _ h _ => h
/-- v points to a new box of z. -/
def BoxF (B : Nat) (z : Nat) (v : Value) (w : World) : Prop := ∃ b, v = .pointer (some ⟨b, 0, none⟩) ∧ B ≤ b ∧ w.heap[b]? = some (.cells #[.int .i64 z] 3)
theorem BoxF.kept {B z : Nat} : Kept (BoxF B z) := fun _ _ _ ⟨b, h1, h2, h3⟩ hb => ⟨b, h1, h2, (Upd.of_below (fun _ => False) hb).heap h3 id⟩
/-- Sectors are written, one behind another. -/
def writesAt (D : DS) (i : Nat) : List (List UInt8) → DS
  | [] => D
  | c :: r => writesAt (D.write i (pad D.size c)) (i + 1) r
theorem writesAt_snoc (c : List UInt8) : ∀ (l : List (List UInt8)) (D : DS) (i : Nat), writesAt D i (l ++ [c]) = (writesAt D i l).write (i + l.length) (pad D.size c)
  | [], D, i => by simp [writesAt]
  | x :: r, D, i => by
    show writesAt _ _ (r ++ [c]) = _
    rw [writesAt_snoc c r, DS.write_size]
    show DS.write _ (i + 1 + r.length) _ = DS.write _ (i + (r.length + 1)) _
    rw [show i + 1 + r.length = i + (r.length + 1) by omega]
    rfl
theorem writesAt_n : ∀ (l : List (List UInt8)) (D : DS) (i : Nat), (writesAt D i l).n = D.n
  | [], _, _ => rfl
  | x :: r, D, i => by
    show (writesAt _ _ r).n = _
    rw [writesAt_n r, DS.write_n]
theorem writesAt_size : ∀ (l : List (List UInt8)) (D : DS) (i : Nat), (writesAt D i l).size = D.size
  | [], _, _ => rfl
  | x :: r, D, i => by
    show (writesAt _ _ r).size = _
    rw [writesAt_size r, DS.write_size]
/-- What is written behind an extent: its last sector's beginning, and the new bytes. -/
def extB (D : DS) (x : Ext) (l : List UInt8) : List UInt8 := (D.last (secN D x.area x.bytes)).take (x.bytes % D.size) ++ l
def DS.extend (D : DS) (x : Ext) (l : List UInt8) : DS := writesAt D (secN D x.area x.bytes) (chunkL D.size (extB D x l))
theorem enters_fn {P : Program} {f : FuncId} {fn : Func} {c : Code} (hf : P.funcs[f]? = some fn) (hname : (fn.name == "runtime.NumGoroutine") = false) (hb : fn.body = some c) (args : Array Value) (w : World) : (callFunc f args).run P w = .ok (.enter f args) w := by
  have h1 : fn.name ≠ "runtime.NumGoroutine" := by simpa using hname
  simp [callFunc, hf, h1, hb, mark]
theorem chunkL_le (n : Nat) : ∀ (m : Nat) (l : List UInt8), 1 ≤ n → l.length ≤ m * n → (chunkL n l).length ≤ m
  | 0, l, h, hl => by
    obtain rfl : l = [] := List.length_eq_zero_iff.1 (by omega)
    rw [chunkL_nil]; simp
  | m + 1, l, h, hl => by
    rcases Nat.eq_zero_or_pos l.length with h0 | h0
    · obtain rfl : l = [] := List.length_eq_zero_iff.1 h0
      rw [chunkL_nil]; simp
    · rw [chunkL_cons h h0, List.length_cons]
      have := chunkL_le n m (l.drop n) h (by rw [List.length_drop]; rw [Nat.succ_mul] at hl; omega)
      omega
theorem PgM.isC {w : World} {pb sb mb : Nat} {S : Nat → Prop} {D : DS} (h : PgM w pb sb mb S D) {k : Nat} (hk : S k) (hm : k ≠ mb) : IsC w k := by
  obtain ⟨db, cap, vs, g, R, h1, rfl⟩ := h.disk
  rcases hk with rfl | rfl | rfl | hk
  · exact ⟨_, _, _, h1.head⟩
  · exact ⟨_, _, _, h1.arr⟩
  · exact absurd rfl hm
  · exact h1.old k hk
section
variable {W : World} {pb sb : Nat} {S : Nat → Prop} {D : DS}
set_option maxRecDepth 100000 in
set_option maxHeartbeats 1000000 in
theorem extend_any (h : PgV W pb sb S D) (hd : D.dead = false) (hn : 16 ≤ D.n) (x : Ext) (hxa : x.area ≤ 1) {T : Nat → Prop} {u : Value} {l : List UInt8} (hu : ArgV W T u (bv l)) (hT : ∀ k, T k → ¬ OO pb S k) (hnn : NonNil u ∨ u = .slice none 0 0) (hfit : x.bytes + l.length ≤ capN D) :
    Calls Tryz.prog 127 #[.pointer (some ⟨pb, 0, none⟩), extV x, u] W fun e w' => e = .returned (.tuple #[]) ∧ ∃ S', PgV w' pb sb S' (D.extend x l) ∧ Mv W (OO pb S) w' (OO pb S') := by
  have hs1 := h.disk.s1
  have hn1 := h.disk.n1
  have hlt := h.lt
  have hold := h.disk.old
  have hhi := area_hi hxa hn
  have hle := area_le hn1.2
  have hcap : capN D = areaN D * D.size := rfl
  have hcm : areaN D * D.size ≤ 2046 * 4096 := Nat.mul_le_mul hle hs1.2
  have hxb : x.bytes ≤ 16777216 := by rw [hcap] at hfit; omega
  obtain ⟨w1, hw1⟩ : ∃ w1, w1 = (W.alloc (.cells #[.pointer (some ⟨pb, 0, none⟩)] 94)).alloc (.cells #[.int .i64 x.area, .int .i64 x.bytes, .int .i64 x.records] 128) := ⟨_, rfl⟩
  have y1 : w1.heap[W.heap.size + 1]? = some (.cells #[.int .i64 x.area, .int .i64 x.bytes, .int .i64 x.records] 128) := by
    rw [hw1]
    have := heap_new (W.alloc (.cells #[.pointer (some ⟨pb, 0, none⟩)] 94)) (.cells #[.int .i64 x.area, .int .i64 x.bytes, .int .i64 x.records] 128)
    rwa [World.size_alloc] at this
  have y0 : w1.heap[W.heap.size]? = some (.cells #[.pointer (some ⟨pb, 0, none⟩)] 94) := by
    rw [hw1]
    exact (Upd.alloc (fun _ => False) _ _).heap (heap_new _ _) id
  have hp2 : PgV w1 pb sb S D := by rw [hw1]; exact (h.upd (.alloc (fun _ => False) _ _) id fun _ _ => id).upd (.alloc (fun _ => False) _ _) id fun _ _ => id
  have hU1 : Upd (fun _ => False) W w1 := by rw [hw1]; exact .then (.alloc _ _ _) (.alloc _ _ _)
  have z1 : w1.heap.size = W.heap.size + 1 + 1 := by rw [hw1]; simp
  have k0 := hp2.c0
  have b3 : w1.cell? ⟨W.heap.size, 0, none⟩ = some (.pointer (some ⟨pb, 0, none⟩)) := by rw [cell_at y0]; rfl
  have x0 : w1.cell? ⟨W.heap.size + 1, 0, none⟩ = some (.int .i64 x.area) := by rw [cell_at y1]; rfl
  have x1 : w1.cell? ⟨W.heap.size + 1, 1, none⟩ = some (.int .i64 x.bytes) := by rw [cell_at y1]; rfl
  have hsz := sizeV hp2.disk
  obtain ⟨A, c, rfl, hc1, hc2, hcells⟩ := id hu
  rw [bv_len] at hc1 hu hnn ⊢
  obtain ⟨i0, hi0⟩ : ∃ i0, i0 = secN D x.area x.bytes := ⟨_, rfl⟩
  clear h hcells
  have k0' := k0
  rw [hw1] at k0'
  unfold extV
  replace y0 := hide y0
  replace y1 := hide y1
  replace hp2 := hide hp2
  replace hU1 := hide hU1
  replace hold := hide hold
  replace hcap := hide hcap
  replace hd := hide hd
  replace hu := hide hu
  replace hT := hide hT
  replace hnn := hide hnn
  replace hi0 := hide hi0
  refine (callsIn_wide (n := 3)).1 ?_
  refine callsIn_of_wp_marks Tryz.func127 rfl trivial ?_ rfl
  simp only [Tryz.ntmps127, List.size_toArray, List.length_cons, List.length_nil, Nat.reduceAdd, Nat.reduceSub, Array.replicate_succ, Array.replicate_zero, List.push_toArray, List.append_toArray, List.nil_append, List.cons_append]
  refine wpIn_wide.2 ?_
  generalize hQ' : bodyPostM _ _ _ _ _ = Q'
  replace hQ' := hide hQ'
  go_wp2_with fail
  clear k0'
  rw [← hw1]
  replace hw1 := hide hw1
  refine hsz.mono ?_
  rintro e w' ⟨rfl, rfl⟩
  go_wp2_with fail
  refine wp_region_flowS (fun i => bif i == 10 then 9 else i) (fun k => W.heap.size + 1 + 1 ≤ k) (factAt [(fun v _ => v = (.pointer (some ⟨pb, 0, none⟩))), (fun v _ => v = (.pointer (some ⟨pb, 0, none⟩))), (fun v _ => v = (.pointer (some ⟨pb, 0, none⟩))), (fun v _ => v = (.pointer (some ⟨sb, 0, none⟩))), (fun v _ => v = (.pointer (some ⟨W.heap.size + 1, 0, none⟩))), (fun v _ => v = (.int .i64 (x.area : Nat))), (fun v _ => v = (.pointer (some ⟨W.heap.size + 1, 1, none⟩))), (fun v _ => v = (.int .i64 (x.bytes : Nat))), (fun v _ => v = (.int .i64 (i0 : Nat))), (fun v w => PtrF v), (fun _ _ => True)]) [none, none, none, none, none, none, none, none, none, some (fun v w => BoxF (W.heap.size + 1 + 1) 0 v w), some (fun v w => BoxF (W.heap.size + 1 + 1) i0 v w)] (fun _ => True) (by kernel_rfl) (fkept_at ⟨FKept.eq _, FKept.eq _, FKept.eq _, FKept.eq _, FKept.eq _, FKept.eq _, FKept.eq _, FKept.eq _, FKept.eq _, PtrF.kept, FKept.triv, trivial⟩) (fun _ _ h _ => h) ⟨BoxF.kept, BoxF.kept, trivial⟩ (by kernel_rfl) (by kernel_rfl) (by kernel_rfl) (by kernel_rfl) (Nat.le_of_ble_eq_true (by kernel_rfl)) (by kernel_rfl) ?_ ⟨?_, ?_, ?_, ?_, ?_, ?_, ?_, ?_, ?_, ?_, ?_, trivial⟩ ?_
  · first | exact trivial | assumption
  · intro T w Q hu hs hv hw hd
    have hx3 : T.getD 3 undef = (.pointer (some ⟨W.heap.size, 0, none⟩)) := hv 3 (by kernel_rfl)
    refine .inl ⟨wanted_none rfl, ?_⟩
    have hq0 := hu.cell b3 (by omega)
    clear hd hv hu hs hw
    go_simp
    exact ⟨_, rfl, DstOk.some rfl, Below.refl _ _, rfl⟩
  · intro T w Q hu hs hv hw hd
    have hx17 : T.getD 17 undef = (.pointer (some ⟨pb, 0, none⟩)) := Deps.at 0 hd (by kernel_rfl)
    refine .inl ⟨wanted_none rfl, ?_⟩
    clear hd hv hu hs hw
    go_simp
    exact ⟨_, rfl, DstOk.some rfl, Below.refl _ _, rfl⟩
  · intro T w Q hu hs hv hw hd
    have hx18 : T.getD 18 undef = (.pointer (some ⟨pb, 0, none⟩)) := Deps.at 1 hd (by kernel_rfl)
    refine .inl ⟨wanted_none rfl, ?_⟩
    clear hd hv hu hs hw
    go_simp
    exact ⟨_, rfl, DstOk.some rfl, Below.refl _ _, rfl⟩
  · intro T w Q hu hs hv hw hd
    have hx19 : T.getD 19 undef = (.pointer (some ⟨pb, 0, none⟩)) := Deps.at 2 hd (by kernel_rfl)
    refine .inl ⟨wanted_none rfl, ?_⟩
    have hq0 := hu.cell k0 (by omega)
    clear hd hv hu hs hw
    go_simp
    exact ⟨_, rfl, DstOk.some rfl, Below.refl _ _, rfl⟩
  · intro T w Q hu hs hv hw hd
    have hx4 : T.getD 4 undef = (.pointer (some ⟨W.heap.size + 1, 0, none⟩)) := hv 4 (by kernel_rfl)
    refine .inl ⟨wanted_none rfl, ?_⟩
    clear hd hv hu hs hw
    go_simp
    exact ⟨_, rfl, DstOk.some rfl, Below.refl _ _, rfl⟩
  · intro T w Q hu hs hv hw hd
    have hx21 : T.getD 21 undef = (.pointer (some ⟨W.heap.size + 1, 0, none⟩)) := Deps.at 4 hd (by kernel_rfl)
    refine .inl ⟨wanted_none rfl, ?_⟩
    have hq0 := hu.cell x0 (by omega)
    clear hd hv hu hs hw
    go_simp
    exact ⟨_, rfl, DstOk.some rfl, Below.refl _ _, rfl⟩
  · intro T w Q hu hs hv hw hd
    have hx4 : T.getD 4 undef = (.pointer (some ⟨W.heap.size + 1, 0, none⟩)) := hv 4 (by kernel_rfl)
    refine .inl ⟨wanted_none rfl, ?_⟩
    clear hd hv hu hs hw
    go_simp
    exact ⟨_, rfl, DstOk.some rfl, Below.refl _ _, rfl⟩
  · intro T w Q hu hs hv hw hd
    have hx23 : T.getD 23 undef = (.pointer (some ⟨W.heap.size + 1, 1, none⟩)) := Deps.at 6 hd (by kernel_rfl)
    refine .inl ⟨wanted_none rfl, ?_⟩
    have hq0 := hu.cell x1 (by omega)
    clear hd hv hu hs hw
    go_simp
    exact ⟨_, rfl, DstOk.some rfl, Below.refl _ _, rfl⟩
  · intro T w Q hu hs hv hw hd
    have hx20 : T.getD 20 undef = (.pointer (some ⟨sb, 0, none⟩)) := Deps.at 3 hd (by kernel_rfl)
    have hx22 : T.getD 22 undef = (.int .i64 (x.area : Nat)) := Deps.at 5 hd (by kernel_rfl)
    have hx24 : T.getD 24 undef = (.int .i64 (x.bytes : Nat)) := Deps.at 7 hd (by kernel_rfl)
    refine .inl ⟨wanted_none rfl, ?_⟩
    have hN := sectorOf_any (hp2.out.disk.upd hu fun k hk e => by have := hold.out k hk; omega) hn x.area x.bytes hxa (by omega)
    clear hd hv hu hs hw
    go_simp
    refine hN.mono ?_
    rintro e w5 ⟨rfl, hb⟩
    exact ⟨_, rfl, DstOk.some rfl, hb, by rw [hi0.out]; exact rfl⟩
  · intro T w Q hu hs hv hw hd hc0
    have hc : (fun _ => True) w := hc0
    replace hc := hide hc
    refine .inl ⟨wanted_none rfl, ?_⟩
    have hz := hu.size
    have hnw := heap_new w (.cells #[.int .i64 0] 3)
    replace hnw := hide hnw
    clear hd hv hu hs hw hc hc0
    go_simp
    exact ⟨_, rfl, DstOk.some rfl, .alloc _ _ _, ⟨_, rfl⟩, ⟨_, rfl, by omega, hnw.out⟩⟩
  · intro T w Q hu hs hv hw hd hc0
    have hc : (fun (v : Value) (w : World) => BoxF (W.heap.size + 1 + 1) 0 v w) (T.getD 7 undef) w := hc0
    have f7 : (fun (v : Value) (w : World) => PtrF v) (T.getD 7 undef) w := Deps.at 9 hd (by kernel_rfl)
    generalize hx7 : T.getD 7 undef = x7 at f7 hc
    replace f7 := hide f7
    have hx25 : T.getD 25 undef = (.int .i64 (i0 : Nat)) := Deps.at 8 hd (by kernel_rfl)
    replace hc := hide hc
    refine .inl ⟨wanted_none rfl, ?_⟩
    obtain ⟨b, rfl, hb2, hb3⟩ := hc.out
    have hcl : w.cell? ⟨b, 0, none⟩ = some (.int .i64 0) := by rw [cell_at hb3]; rfl
    have hfz := frozen_at hb3 0
    have hs3 : (w.setCell ⟨b, 0, none⟩ (.int .i64 i0)).heap[b]? = some (.cells #[.int .i64 i0] 3) := by rw [heap_set hb3]; rfl
    have hx7b := hide hx7
    replace hs3 := hide hs3
    replace hb2 := hide hb2
    clear hd hv hu hs hw hc hc0 hb3
    go_simp
    exact ⟨undef, fun _ => rfl, Upd.set w (F := fun k => W.heap.size + 1 + 1 ≤ k) (a := ⟨b, 0, none⟩) hb2.out _, trivial, ⟨b, hx7b.out, hb2.out, hs3.out⟩⟩
  intro T w hu hs hv hf hcur
  have hcur1 : (fun (v : Value) (w : World) => BoxF (W.heap.size + 1 + 1) i0 v w) (T.getD 7 undef) w := hcur
  replace hcur1 := hcur1
  have hT : T = #[T.getD 0 undef, T.getD 1 undef, T.getD 2 undef, T.getD 3 undef, T.getD 4 undef, T.getD 5 undef, T.getD 6 undef, T.getD 7 undef, T.getD 8 undef, T.getD 9 undef, T.getD 10 undef, T.getD 11 undef, T.getD 12 undef, T.getD 13 undef, T.getD 14 undef, T.getD 15 undef, T.getD 16 undef, T.getD 17 undef, T.getD 18 undef, T.getD 19 undef, T.getD 20 undef, T.getD 21 undef, T.getD 22 undef, T.getD 23 undef, T.getD 24 undef, T.getD 25 undef, T.getD 26 undef, T.getD 27 undef, T.getD 28 undef, T.getD 29 undef, T.getD 30 undef, T.getD 31 undef, T.getD 32 undef, T.getD 33 undef, T.getD 34 undef, T.getD 35 undef, T.getD 36 undef, T.getD 37 undef, T.getD 38 undef, T.getD 39 undef, T.getD 40 undef, T.getD 41 undef, T.getD 42 undef, T.getD 43 undef, T.getD 44 undef, T.getD 45 undef, T.getD 46 undef, T.getD 47 undef, T.getD 48 undef, T.getD 49 undef] := expl hs
  rw [hT]
  clear hT
  rw [hv 0 (by kernel_rfl)]
  rw [hv 1 (by kernel_rfl)]
  rw [hv 2 (by kernel_rfl)]
  rw [show T.getD 3 undef = (.pointer (some ⟨W.heap.size, 0, none⟩)) from hv 3 (by kernel_rfl)]
  rw [show T.getD 4 undef = (.pointer (some ⟨W.heap.size + 1, 0, none⟩)) from hv 4 (by kernel_rfl)]
  rw [hv 5 (by kernel_rfl)]
  rw [hv 6 (by kernel_rfl)]
  rw [hv 8 (by kernel_rfl)]
  rw [hv 9 (by kernel_rfl)]
  rw [hv 10 (by kernel_rfl)]
  rw [hv 11 (by kernel_rfl)]
  rw [hv 12 (by kernel_rfl)]
  rw [hv 13 (by kernel_rfl)]
  rw [hv 14 (by kernel_rfl)]
  rw [hv 15 (by kernel_rfl)]
  rw [hv 16 (by kernel_rfl)]
  rw [show T.getD 17 undef = (.pointer (some ⟨pb, 0, none⟩)) from hf 0 (by decide)]
  rw [show T.getD 18 undef = (.pointer (some ⟨pb, 0, none⟩)) from hf 1 (by decide)]
  rw [show T.getD 19 undef = (.pointer (some ⟨pb, 0, none⟩)) from hf 2 (by decide)]
  rw [show T.getD 20 undef = (.pointer (some ⟨sb, 0, none⟩)) from hf 3 (by decide)]
  rw [show T.getD 21 undef = (.pointer (some ⟨W.heap.size + 1, 0, none⟩)) from hf 4 (by decide)]
  rw [show T.getD 22 undef = (.int .i64 (x.area : Nat)) from hf 5 (by decide)]
  rw [show T.getD 23 undef = (.pointer (some ⟨W.heap.size + 1, 1, none⟩)) from hf 6 (by decide)]
  rw [show T.getD 24 undef = (.int .i64 (x.bytes : Nat)) from hf 7 (by decide)]
  rw [show T.getD 25 undef = (.int .i64 (i0 : Nat)) from hf 8 (by decide)]
  rw [hv 26 (by kernel_rfl)]
  rw [hv 27 (by kernel_rfl)]
  rw [hv 28 (by kernel_rfl)]
  rw [hv 29 (by kernel_rfl)]
  rw [hv 30 (by kernel_rfl)]
  rw [hv 31 (by kernel_rfl)]
  rw [hv 32 (by kernel_rfl)]
  rw [hv 33 (by kernel_rfl)]
  rw [hv 34 (by kernel_rfl)]
  rw [hv 35 (by kernel_rfl)]
  rw [hv 36 (by kernel_rfl)]
  rw [hv 37 (by kernel_rfl)]
  rw [hv 38 (by kernel_rfl)]
  rw [hv 39 (by kernel_rfl)]
  rw [hv 40 (by kernel_rfl)]
  rw [hv 41 (by kernel_rfl)]
  rw [hv 42 (by kernel_rfl)]
  rw [hv 43 (by kernel_rfl)]
  rw [hv 44 (by kernel_rfl)]
  rw [hv 45 (by kernel_rfl)]
  rw [hv 46 (by kernel_rfl)]
  rw [hv 47 (by kernel_rfl)]
  rw [hv 48 (by kernel_rfl)]
  rw [hv 49 (by kernel_rfl)]
  clear hf hs hv hcur
  simp only [getD_toArray, List.getD_cons_succ, List.getD_cons_zero]
  generalize T.getD 7 undef = y7 at hcur1 ⊢
  clear T
  obtain ⟨bi, rfl, hbi, hbx⟩ := hcur1
  have hp3 : PgV w pb sb S D := hp2.out.upd hu (fun e => by omega) fun k hk e => by have := hold.out k hk; omega
  have hU3 : Upd (fun _ => False) W w := (hU1.out.trans hu fun k hk e => by omega)
  have z3 : bi < w.heap.size := (Array.getElem?_eq_some_iff.1 hbx).1
  have z4 := hu.size
  have b3' := hu.cell b3 (by omega)
  have x1' := hu.cell x1 (by omega)
  have ci : w.cell? ⟨bi, 0, none⟩ = some (.int .i64 i0) := by rw [cell_at hbx]; rfl
  have y3 := hu.heap y0.out (by omega)
  clear b3 x0 x1 k0 hsz
  replace y3 := hide y3
  replace hbx := hide hbx
  replace hp3 := hide hp3
  replace hU3 := hide hU3
  obtain ⟨wz, rfl⟩ : ∃ z, z = w := ⟨w, rfl⟩
  clear hu
  have hsz0 : ¬ D.size = 0 := by omega
  obtain ⟨sh, hsh⟩ : ∃ sh, sh = x.bytes % D.size := ⟨_, rfl⟩
  have hrem : (x.bytes : Int) % (D.size : Int) = (sh : Int) := by rw [← Int.natCast_emod, ← hsh]
  have hshl : sh < D.size := by rw [hsh]; exact Nat.mod_lt _ (Nat.pos_of_ne_zero hsz0)
  replace hsh := hide hsh
  have hlz := hu.out.upd hU3.out fun _ _ => id
  have hUz : Upd (fun _ => False) W wz := hU3.out
  have hlm := ArgV.mono' hlz hu.out
  replace hlz := hide hlz
  replace hlm := hide hlm
  clear hUz
  go_upto_if 31 with fail
  simp only [hrem]
  go_cut [2] from 32 to 39 (fun s2 wx => ∃ A2 c2 T2, s2 = .slice A2 (extB D x l).length c2 ∧ ArgV wx T2 s2 (bv (extB D x l)) ∧ PgV wx pb sb S D ∧ Upd (At pb) wz wx ∧ ∀ k, T2 k → ¬ OO pb S k ∧ k ≠ bi)
  case first =>
    rcases Nat.eq_zero_or_pos sh with h0 | hpos
    · have hE : extB D x l = l := by unfold extB; rw [← hsh.out, h0]; simp
      replace hE := hide hE
      go_wp2_with fail
      go_meet
      case rel => exact ⟨_, _, fun k => T k ∧ k < W.heap.size, by rw [hE.out], by rw [hE.out]; exact hlm.out, hp3.out, .refl _ _, fun k hk => ⟨hT.out k hk.1, by have := hk.2; omega⟩⟩
    · have hdec : decide (0 < sh) = true := decide_eq_true hpos
      simp only [hdec] at *
      have hi0n : i0 < D.n := by
        have h1 := hi0.out
        unfold secN at h1
        have h2 : x.bytes / D.size < areaN D := by
          rw [Nat.div_lt_iff_lt_mul (Nat.pos_of_ne_zero hsz0)]
          rcases Nat.lt_or_ge x.bytes (areaN D * D.size) with h3 | h3
          · exact h3
          · exfalso
            have h4 : x.bytes = areaN D * D.size := by have := hcap.out; omega
            have h5 := hsh.out
            rw [h4, Nat.mul_mod_left] at h5
            omega
        omega
      have hll := hp3.out.disk.last_len hi0n
      have hpr := pread_any hp3.out hd.out i0 hi0n
      go_wp2_with fail
      refine hpr.mono ?_
      rintro e w5 ⟨v5, rfl, h5, hp5, hU5⟩
      have hnn5 := h5.nonNil (by omega)
      have h5a := h5.arg
      obtain ⟨ad, n5, c5, rfl⟩ := hnn5
      obtain rfl : n5 = D.size := by obtain ⟨_, _, e, _⟩ := h5a; injection e with _ e; rw [bv_len, hll] at e; exact e
      have hc5 : D.size ≤ c5 := by obtain ⟨_, _, e, e2, _⟩ := h5a; injection e with _ _ e3; rw [bv_len, hll] at e2; omega
      have h5t := h5a.take' sh (by omega)
      have hl5 := hlz.out.upd hU5 (fun k hk e => hT.out k hk (.inl e))
      have z5 := hU5.size
      replace h5 := hide h5
      replace h5a := hide h5a
      replace h5t := hide h5t
      replace hl5 := hide hl5
      replace hp5 := hide hp5
      replace hll := hide hll
      have b5 := hU5.cell b3' (by omega)
      have i5 := hU5.cell ci (by omega)
      replace hU5 := hide hU5
      clear hpr b3' ci
      go_wp2_with fail
      obtain ⟨w6, hw6⟩ : ∃ w6, w6 = w5.alloc (.cells #[.slice (some ad) sh c5, .slice A l.length c] 62) := ⟨_, rfl⟩
      rw [← hw6]
      have hU6 : Upd (fun _ => False) w5 w6 := by rw [hw6]; exact .alloc _ _ _
      have hh : w6.heap[w5.heap.size]? = some (.cells #[.slice (some ad) sh c5, .slice A l.length c] 62) := by rw [hw6]; exact heap_new _ _
      have hrn : RowsN w6 (fun _ => True) (.slice (some ⟨w5.heap.size, 0, none⟩) 2 2) [(D.last i0).take sh, l] := by
        refine ⟨[.slice (some ad) sh c5, .slice A l.length c], rfl, .two (by rw [cell_at hh]; rfl) (by rw [cell_at hh]; rfl) trivial, ?_⟩
        intro i u r hi hr
        match i, hi, hr with
        | 0, hi, hr =>
          obtain rfl := Option.some.inj hi
          obtain rfl := Option.some.inj hr
          exact ⟨(h5t.out.upd hU6 fun _ _ => id).mono fun _ _ _ => trivial, .inl ⟨_, _, _, rfl⟩⟩
        | 1, hi, hr =>
          obtain rfl := Option.some.inj hi
          obtain rfl := Option.some.inj hr
          exact ⟨(hl5.out.upd hU6 fun _ _ => id).mono fun _ _ _ => trivial, hnn.out⟩
        | i + 2, hi, _ => simp at hi
      have hE : [(D.last i0).take sh, l].flatten = extB D x l := by unfold extB; rw [← hi0.out, ← hsh.out]; simp
      have hEl : (extB D x l).length = sh + l.length := by rw [← hE]; simp [hll.out]; omega
      have hcp : capN D ≤ 8380416 := by rw [hcap.out]; omega
      have hcc := concat_any hrn (by rw [hE]; omega) (by rw [hE]; omega)
      rw [hE] at hcc
      replace hE := hide hE
      replace hEl := hide hEl
      replace hh := hide hh
      replace hw6 := hide hw6
      replace hrn := hide hrn
      have z6 := hU6.size
      replace hU6 := hide hU6
      refine hcc.mono ?_
      rintro e w7 ⟨v7, rfl, -, h7, hb7⟩
      have hU7 : Upd (fun _ => False) w6 w7 := .of_below _ hb7
      have h7a := h7.arg
      obtain ⟨A7, c7, rfl, q1, q2, q3⟩ := id h7a
      rw [bv_len] at h7a ⊢
      replace h7 := hide h7
      replace h7a := hide h7a
      replace hU7 := hide hU7
      clear hb7 q1 q2 q3 hcc
      go_wp2_with fail
      go_meet
      case rel => exact ⟨_, _, fun k => w6.heap.size ≤ k, rfl, h7a.out, (hp5.out.upd hU6.out id fun _ _ => id).upd hU7.out id fun _ _ => id, hU5.out.then ((hU6.out.then hU7.out).mono fun _ _ h => h.elim), fun k hk => ⟨fun h => h.elim (fun e => by omega) fun h => by have := hold.out k h; omega, by omega⟩⟩
  case rest =>
    obtain ⟨A2, c2, T2, rfl, hA2, hp5, hU5, hT2⟩ := hcut
    have z5 := hU5.size
    have b5 := hU5.cell b3' (by omega)
    have i5 := hU5.cell ci (by omega)
    obtain ⟨f, hf⟩ : ∃ f, f = extB D x l := ⟨_, rfl⟩
    rw [← hf] at hA2 ⊢
    replace hA2 := hide hA2
    replace hp5 := hide hp5
    replace hU5 := hide hU5
    replace hT2 := hide hT2
    replace hf := hide hf
    clear b3' ci
    go_wp2_with fail
    refine (chunkOf_any A2 f.length c2 D.size (by omega)).mono ?_
    rintro e wl ⟨rfl, hwl⟩
    have g1 : wl.heap[wc.heap.size]? = some (.cells #[.slice A2 f.length c2] 62) := by rw [hwl]; exact (Upd.alloc (fun _ => False) _ _).heap (heap_new _ _) id
    have g2 : wl.heap[wc.heap.size + 1]? = some (.cells #[.int .i64 D.size] 3) := by
      rw [hwl]
      have := heap_new (wc.alloc (.cells #[.slice A2 f.length c2] 62)) (.cells #[.int .i64 D.size] 3)
      rwa [World.size_alloc] at this
    have hUl : Upd (fun _ => False) wc wl := by rw [hwl]; exact .then (.alloc _ _ _) (.alloc _ _ _)
    have zl : wl.heap.size = wc.heap.size + 1 + 1 := by rw [hwl]; simp
    obtain ⟨mb, hpm0, hmb⟩ := hp5.out.toM
    have hpm := hpm0.upd hUl id fun _ _ => id
    clear hpm0
    have hAl := ArgV.mono' (hA2.out.upd hUl fun _ _ => id) hA2.out
    have hbl := hUl.heap (hU5.out.heap hbx.out (by omega)) id
    have hyl := hUl.heap (hU5.out.heap y3.out (by omega)) id
    have hE : extB D x l = (D.last i0).take sh ++ l := by unfold extB; rw [← hi0.out, ← hsh.out]
    have hfl : f.length ≤ sh + l.length := by rw [hf.out, hE]; simp; omega
    have hcp : capN D ≤ 8380416 := by rw [hcap.out]; omega
    have hlen : ∀ k, k < (chunkL D.size f).length → i0 + k < D.n := by
      intro k hk
      have h1 := hi0.out
      unfold secN at h1
      have h2 := Nat.div_add_mod x.bytes D.size
      rw [← hsh.out] at h2
      have h3 : x.bytes / D.size ≤ areaN D := by
        rw [Nat.div_le_iff_le_mul_add_pred (Nat.pos_of_ne_zero hsz0)]
        have h3 := hcap.out
        rw [Nat.mul_comm] at h3
        omega
      have h4 := chunkL_le D.size (areaN D - x.bytes / D.size) f (by omega) (by
        rw [Nat.sub_mul, ← hcap.out]
        rw [Nat.mul_comm] at h2
        omega)
      omega
    replace hUl := hide hUl
    go_wp2_with fail
    rw [← hwl]
    refine wpIn_wide (n := 3) |>.1 ?_
    refine wpIn_rangeFunc_ownG (F := Fence.wide) (α := Piece wl (fun k => T2 k ∧ k < wc.heap.size) D.size) rfl (by decide) (gf := 177) (lb := #[.pointer (some ⟨wc.heap.size, 0, none⟩), .pointer (some ⟨wc.heap.size + 1, 0, none⟩)]) rfl trivial (enters_fn Tryz.func177 (by kernel_rfl) rfl)
      (chunk_stops 2 wc.heap.size (wc.heap.size + 1) (by decide) wl wl (fun k => T2 k ∧ k < wc.heap.size) D.size (by omega) (by omega) A2 c2 f hAl (by omega) g1 g2)
      (fun h1 h2 => ⟨h2.1.trans h1.1, h2.2.trans h1.2⟩) (fun V r o o' hr _ _ _ => ⟨World.putObj_heap_other (by omega), World.putObj_heap_other (by omega)⟩) (Below.refl _ _) (fun _ => rfl)
      (fun pre V => (∃ S', PgM V pb sb mb S' (writesAt D i0 (pre.map (·.1.2))) ∧ ∀ k, OO pb S' k → OO pb S k ∨ wl.heap.size ≤ k) ∧ V.heap[bi]? = some (.cells #[.int .i64 (i0 + pre.length : Nat)] 3) ∧ V.heap[W.heap.size]? = some (.cells #[.pointer (some ⟨pb, 0, none⟩)] 94) ∧ Upd (fun k => OO pb S k ∨ k = bi ∨ wl.heap.size ≤ k) wl V)
      (fun _ _ _ => False) ?_ (fun _ _ _ _ _ hs _ _ => hs) ?_
      (fun y => { tmps := #[.pointer (some ⟨pb, 0, none⟩), .agg #[.int .i64 x.area, .int .i64 x.bytes, .int .i64 x.records], .slice A2 f.length c2, .pointer (some ⟨W.heap.size, 0, none⟩), .pointer (some ⟨W.heap.size + 1, 0, none⟩), undef, .int .i64 D.size, .pointer (some ⟨bi, 0, none⟩), .int .i64 sh, y.1.1,
        .pointer (some ⟨pb, 0, none⟩), .pointer (some ⟨pb, 0, none⟩), .pointer (some ⟨pb, 0, none⟩), .pointer (some ⟨sb, 0, none⟩), .pointer (some ⟨sb, 0, none⟩), .pointer (some ⟨sb, 0, none⟩), .int .i64 D.size, .pointer (some ⟨pb, 0, none⟩), .pointer (some ⟨pb, 0, none⟩), .pointer (some ⟨pb, 0, none⟩), .pointer (some ⟨sb, 0, none⟩),
        .pointer (some ⟨W.heap.size + 1, 0, none⟩), .int .i64 x.area, .pointer (some ⟨W.heap.size + 1, 1, none⟩), .int .i64 x.bytes, .int .i64 i0, .pointer (some ⟨W.heap.size + 1, 1, none⟩), .int .i64 x.bytes, .int .i64 D.size, .int .i64 sh, .int .i64 sh, .bool (decide (0 < sh)), u32, u33, u34, u35, u36, u37, u38, u39, .slice A2 f.length c2, .int .i64 D.size,
        .func (.func 177) #[] #[.pointer (some ⟨wc.heap.size, 0, none⟩), .pointer (some ⟨wc.heap.size + 1, 0, none⟩)], y.1.1, undef, undef, undef, undef, undef, undef], defers := [] }) ?assign ?body ?done ?stop
    case assign =>
      intro l2 y V K hK
      gi_wp2
      exact hK
    case body =>
      rintro l2 pre ⟨⟨yv, yl⟩, hy3, hy4, hy5⟩ V ⟨⟨S', hpg, hS'⟩, hbi2, hy2, hU2⟩ hlt2
      dsimp only at hy3 hy4 hy5 ⊢
      have hpm1 := hpm.toV.lt
      have hsl : ∀ k, S k → k < W.heap.size := hold.out
      have hyV := hy3.upd hU2 (fun k hk h => by
        rcases h with h | h | h
        · exact (hT2.out k hk.1).1 h
        · exact (hT2.out k hk.1).2 h
        · have := hk.2; omega)
      have hw := pwrite_anyM hpg (i0 + pre.length) (by rw [writesAt_n]; exact hlen _ hlt2) hyV (by rw [writesAt_size]; exact hy4)
      rw [writesAt_size] at hw
      have hno : ∀ k, k < wl.heap.size → W.heap.size ≤ k → ¬ OO pb S' k := fun k h1 h2 h => by
        rcases hS' k h with (h | h) | h
        · omega
        · have := hsl k h; omega
        · omega
      have zV := hU2.size
      obtain ⟨n, hn'⟩ : ∃ n, n = i0 + pre.length := ⟨_, rfl⟩
      rw [← hn'] at hw hbi2
      have hnn' : n < D.n := by rw [hn']; exact hlen _ hlt2
      have cb : V.cell? ⟨bi, 0, none⟩ = some (.int .i64 n) := by rw [cell_at hbi2]; rfl
      have cy : V.cell? ⟨W.heap.size, 0, none⟩ = some (.pointer (some ⟨pb, 0, none⟩)) := by rw [cell_at hy2]; rfl
      replace hpg := hide hpg
      replace hS' := hide hS'
      replace hbi2 := hide hbi2
      replace hy2 := hide hy2
      replace hU2 := hide hU2
      replace hn' := hide hn'
      replace hno := hide hno
      replace hsl := hide hsl
      replace hwl := hide hwl
      replace g1 := hide g1
      replace g2 := hide g2
      replace hbl := hide hbl
      replace hyl := hide hyl
      replace hE := hide hE
      replace hlen := hide hlen
      clear hrem
      gi_wp2_with fail
      refine ⟨trivial, ?_⟩
      refine (CallsIn.inRound l2 (callsIn_wide.2 hw)).mono ?_
      rintro e V2 ⟨rfl, S2, hpg2, hM2⟩
      have hbi3 := hM2.1.heap hbi2.out (hno.out bi (by omega) (by omega))
      have cb2 : V2.cell? ⟨bi, 0, none⟩ = some (.int .i64 n) := by rw [cell_at hbi3]; rfl
      have fb2 := frozen_at hbi3 0
      have hy3' := hM2.1.heap hy2.out (hno.out W.heap.size (by omega) (by omega))
      have zV2 := hM2.1.size
      replace hbi3 := hide hbi3
      replace hM2 := hide hM2
      replace hpg2 := hide hpg2
      replace hy3' := hide hy3'
      gi_wp2_with fail
      have hset : Upd (fun k => k = bi) V2 (V2.setCell ⟨bi, 0, none⟩ (.int .i64 ((n : Int) + 1))) := .set (F := fun k => k = bi) V2 (a := ⟨bi, 0, none⟩) rfl _
      have hV3 : Upd (fun k => OO pb S' k ∨ k = bi) V (V2.setCell ⟨bi, 0, none⟩ (.int .i64 ((n : Int) + 1))) := (hM2.out.1.mono fun _ _ h => .inl h).then (hset.mono fun _ _ h => .inr h)
      have hS2 : ∀ k, OO pb S2 k → OO pb S k ∨ wl.heap.size ≤ k := fun k h => (hM2.out.2 k h).elim (hS'.out k) fun h => .inr (by omega)
      have hb2 : ∀ k, OO pb S2 k → k ≠ bi := fun k h e => by
        subst e
        rcases hM2.out.2 _ h with h | h
        · exact hno.out _ (by omega) (by omega) h
        · omega
      refine ⟨⟨hV3.size, fun k o hk ho hc => ?_⟩, ⟨hV3.block _ (by omega) fun h => ?_, hV3.block _ (by omega) fun h => ?_⟩, ⟨S2, ?_, hS2⟩, ?_, ?_, ?_⟩
      · refine (hV3.block k (Array.getElem?_eq_some_iff.1 ho).1 fun h => ?_).trans ho
        rcases h with (h | h) | h
        · omega
        · obtain ⟨cs, t, fr, hcc⟩ := hpg.out.isC h (by omega)
          rw [hcc] at ho
          injection ho with ho
          rw [← ho] at hc
          cases hc
        · omega
      · exact h.elim (hno.out _ (by omega) (by omega)) fun e => by omega
      · exact h.elim (hno.out _ (by omega) (by omega)) fun e => by omega
      · rw [List.map_append, List.map_cons, List.map_nil, writesAt_snoc, List.length_map, ← hn'.out]
        exact hpg2.out.upd hset (fun e => hb2 pb (.inl rfl) e) fun k hk e => hb2 k (.inr hk) e
      · rw [heap_set hbi3.out, List.length_append, List.length_singleton, ← Nat.add_assoc, ← hn'.out]
        rfl
      · exact hset.heap hy3'.out (by omega)
      · exact hU2.out.then (hV3.mono fun k _ h => h.elim (fun h => (hS'.out k h).elim .inl fun h => .inr (.inr h)) fun h => .inr (.inl h))
    case done =>
      rintro Dd xs V hDd hxs ⟨⟨S', hpg, hS'⟩, hbi2, hy2, hU2⟩ hK
      go_wp2_with fail
      have hQ2 := hQ'.out
      rw [← hQ2]
      refine ⟨by simp, .inl ⟨_, _, rfl, run_takeDeferred hK, ?_⟩⟩
      have hX : D.extend x l = writesAt D i0 (xs.map (·.1.2)) := by rw [hxs, hf.out, hi0.out]; rfl
      rw [hX]
      refine ⟨_, results_none rfl _ _ _, rfl, S', (hpg.walk (grownBy_putObj' V Dd _) fun r e => ?_).toV, ?_, ?_⟩
      · obtain rfl : Dd = r := Option.some.inj e
        exact ⟨by omega, _, hK, rfl⟩
      · refine ((((hU3.out.mono fun _ _ h => h.elim).trans hU5.out fun k hk e => .inl e).trans hUl.out fun _ _ h => h.elim).trans hU2 fun k hk h => ?_).trans (.grown (F := fun k => k = Dd) (grownBy_putObj' V Dd _) fun k e => (Option.some.inj e).symm) fun k hk e => ?_
        · rcases h with h | h | h
          · exact h
          · omega
          · omega
        · omega
      · intro k hk
        rcases hS' k hk with h | h
        · exact .inl h
        · exact .inr (by omega)
    case stop =>
      rintro _ _ _ _ _ _ h _
      exact h.elim
    · rintro pre V V' row ⟨⟨S', hpg, hS'⟩, hbi2, hy2, hU2⟩ hg hr
      have zV := hU2.size
      refine ⟨⟨S', hpg.walk hg fun r e => ⟨by have := (hr r e).1; omega, (hr r e).2⟩, hS'⟩, (hg.block bi (by omega) fun e => by have := (hr bi e.symm).1; omega).trans hbi2, (hg.block W.heap.size (by omega) fun e => by have := (hr _ e.symm).1; omega).trans hy2, hU2.then (.grown hg fun k e => .inr (.inr (hr k e).1))⟩
    · exact ⟨⟨S, hpm, fun k h => .inl h⟩, by simpa using hbl, hyl, .refl _ _⟩
end
end Go.Proofs.YtpnboihbifhigaaGreatDoor
/- Walks of wal: a log's room, its count; an empty one is laid. -/
namespace Go.Proofs.YtpnboihbifhigaaGreatDoor
open Go Go.RowKit
/-- The log at block lb, on the disk at sb. -/
def LogV (w : World) (lb sb live : Nat) (x : Ext) : Prop := w.heap[lb]? = some (.cells #[.pointer (some ⟨sb, 0, none⟩), .int .i64 live, .int .i64 x.area, .int .i64 x.bytes, .int .i64 x.records] 135)
section
variable {w : World} {pb sb lb : Nat} {S : Nat → Prop} {D : DS} {live : Nat} {x : Ext}
theorem LogV.cell (h : LogV w lb sb live x) (o : Nat) : w.cell? ⟨lb, o, none⟩ = #[Value.pointer (some ⟨sb, 0, none⟩), .int .i64 live, .int .i64 x.area, .int .i64 x.bytes, .int .i64 x.records][o]? := cell_at h o
/-- What an empty log is laid by. -/
def DS.format (D : DS) : DS := (((((D.write 0 (pad D.size [])).flush).write 1 (pad D.size (slotL ⟨0, 0, 0⟩))).flush).write 0 (pad D.size (markL 0)))
set_option maxRecDepth 100000 in
theorem format_any (h : PgV w pb sb S D) (hT : Tab w) (hn : 16 ≤ D.n) (hS0 : ¬ S 1) (hpb : 1 < pb) : Calls Tryz.prog 45 #[.pointer (some ⟨pb, 0, none⟩)] w fun e w' => ∃ lb S', e = .returned (.pointer (some ⟨lb, 0, none⟩)) ∧ w.heap.size ≤ lb ∧ ¬ S' lb ∧ lb ≠ pb ∧ LogV w' lb sb 0 ⟨0, 0, 0⟩ ∧ PgV w' pb sb S' D.format ∧ Mv w (OO pb S) w' (OO pb S') := by
  have hlt := h.lt
  have h1 := pwrite_any h 0 (by omega) (T := fun _ => False) (u := .slice none 0 0) (l := []) ⟨none, 0, rfl, Nat.le_refl _, by unfold maxLen; simp, .inl rfl⟩ (by simp)
  have hsz : D.size = D.size := rfl
  replace h := hide h
  replace hT := hide hT
  go_enter Tryz.func45, Tryz.ntmps45
  go_wp2_with fail
  refine h1.mono ?_
  rintro e w1 ⟨rfl, S1, p1, m1⟩
  have h2 := pflush_any p1
  replace p1 := hide p1
  replace m1 := hide m1
  go_wp2_with fail
  refine h2.mono ?_
  rintro e w2 ⟨rfl, S2, p2, m2⟩
  have m12 := m1.out.trans m2
  have z2 := m12.1.size
  have h3 := writeSlot_any p2 (hT.out.upd m12.1 (fun h => h.elim (by omega) hS0)) (by omega) 0 (by omega) (by simp only [DS.flush_n, DS.write_n]; omega) ⟨0, 0, 0⟩ ⟨by simp, by simp, by simp⟩
  unfold extV at h3
  simp only [DS.flush_size, DS.write_size] at h3
  replace p2 := hide p2
  replace m12 := hide m12
  clear m1 m2 p1 h1 h2
  go_wp2_with fail
  refine h3.mono ?_
  rintro e w3 ⟨rfl, S3, p3, m3⟩
  have m13 := m12.out.trans m3
  have h4 := pflush_any p3
  replace p3 := hide p3
  replace m13 := hide m13
  clear m3 m12 p2 h3
  go_wp2_with fail
  refine h4.mono ?_
  rintro e w4 ⟨rfl, S4, p4, m4⟩
  have m14 := m13.out.trans m4
  have h5 := writeMark_any p4 0 (by omega)
  simp only [DS.flush_size, DS.write_size] at h5
  replace p4 := hide p4
  replace m14 := hide m14
  clear m4 m13 p3 h4
  go_wp2_with fail
  refine h5.mono ?_
  rintro e w5 ⟨rfl, S5, p5, m5⟩
  have m15 := m14.out.trans m5
  have k0 := p5.c0
  have z5 := m15.1.size
  have hold := p5.disk.old
  have hlt5 := p5.lt
  replace p5 := hide p5
  replace m15 := hide m15
  clear m5 m14 p4 h5
  go_wp2_with fail
  go_ret
  refine ⟨_, S5, rfl, z5, fun hk => by have := hold _ hk; omega, by omega, heap_new _ _, ?_, ?_⟩
  · exact p5.out.upd (.alloc (fun _ => False) _ _) id fun _ _ => id
  · exact ⟨m15.out.1.then (.alloc _ _ _), m15.out.2⟩
end
end Go.Proofs.YtpnboihbifhigaaGreatDoor
