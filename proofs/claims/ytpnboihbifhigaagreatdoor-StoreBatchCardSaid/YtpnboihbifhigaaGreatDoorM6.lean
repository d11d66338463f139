/- Part 6 of the walks (merged): Repeat, Pages, Small, Mark, Slot. -/
import Derived.Test.YtpnboihbifhigaaGreatDoorM1
import Derived.Laws.CopyOwn
import Derived.Deep.RegionWith
import Derived.Deep.OwnRows
import Derived.Laws.OwnMore
import Derived.Test.YtpnboihbifhigaaGreatDoorM5
import Derived.Test.YtpnboihbifhigaaGreatDoorM3
import Derived.Test.YtpnboihbifhigaaGreatDoorM4
import Derived.Lib.SmallJoins
/- slices.Repeat of one element. -/
namespace Go.Proofs.YtpnboihbifhigaaGreatDoor
open Go Go.RowKit

theorem and_low (n : Nat) (h : n < 4294967296) : bits .and .u64 (n : Int) 4294967295 = (n : Int) := by
  have := u64_and_nat n 4294967295 (by omega) (by decide)
  rw [show ((4294967295 : Nat) : Int) = 4294967295 from rfl] at this
  rw [this]
  congr 1
  have : (4294967295 : Nat) = 2 ^ 32 - 1 := by decide
  rw [this, Nat.and_two_pow_sub_one_eq_mod]
  exact Nat.mod_eq_of_lt h
theorem mul64_any (w : World) (n : Nat) (h : n ≤ 4096) : Calls Tryz.prog 107 #[.int .u64 1, .int .u64 (n : Int)] w fun e w' => e = .returned (.tuple #[.int .u64 0, .int .u64 (n : Int)]) ∧ w = w' := by
  have h1 := and_low n (by omega)
  have h2 := and_low 1 (by omega)
  have h0 := and_low 0 (by omega)
  have h3 : (n : Int) / 4294967296 = 0 := by omega
  simp only [Int.cast_ofNat_Int] at h2 h0
  go_enter Tryz.func107, Tryz.ntmps107
  go_wp2_with fail
  go_ret2
  exact ⟨rfl, rfl⟩
theorem mul_any (w : World) (n : Nat) (h : n ≤ 4096) : Calls Tryz.prog 68 #[.int .u64 1, .int .u64 (n : Int)] w fun e w' => e = .returned (.tuple #[.int .u64 0, .int .u64 (n : Int)]) ∧ w = w' := by
  have hm := mul64_any w n h
  go_enter Tryz.func68, Tryz.ntmps68
  go_wp2_with fail
  refine hm.mono ?_
  rintro e w' ⟨rfl, rfl⟩
  go_wp2_with fail
  go_ret2
  exact ⟨rfl, rfl⟩
theorem rows_info : (Tryz.prog.info? 62).map (fun i => (i.zero, i.size, i.bytes)) = some (some (.slice none 0 0), 1, 24) := by kernel_rfl
theorem rows_size : (Tryz.prog.info? 62).map (·.size) = some 1 := by kernel_rfl
/-- k of v, and what is left of n. -/
def fillV (v : Value) (k n : Nat) : List Value := List.replicate k v ++ List.replicate (n - k) (.slice none 0 0)
theorem splice_fill (v : Value) (k m n : Nat) : splice (fillV v k n) k (List.replicate m v) = fillV v (k + m) n := by
  unfold splice fillV
  have e1 : (List.replicate k v ++ List.replicate (n - k) (Value.slice none 0 0)).take k = List.replicate k v := by
    rw [List.take_append_of_le_length (by simp)]; simp
  have e2 : (List.replicate k v ++ List.replicate (n - k) (Value.slice none 0 0)).drop (k + (List.replicate m v).length) = List.replicate (n - (k + m)) (Value.slice none 0 0) := by
    rw [List.drop_append]
    simp only [List.length_replicate, List.drop_replicate]
    rw [show k - (k + m) = 0 by omega, show k + m - k = m by omega, show n - k - m = n - (k + m) by omega]
    simp
  rw [e1, e2, ← List.append_assoc, List.replicate_append_replicate]
theorem fill_len (v : Value) (k n : Nat) (h : k ≤ n) : (fillV v k n).length = n := by simp [fillV]; omega
theorem fill_get (v : Value) (k n i : Nat) (h : i < k) : (fillV v k n)[i]? = some v := by
  unfold fillV
  rw [List.getElem?_append_left (by simpa using h)]
  simp [h]
theorem toList_madeCells_one_eq (z : Value) (n : Nat) : (List.replicate n z).toArray = madeCells #[z] n := by rw [← toList_madeCells_one]
theorem oneSlice (v : Value) (h : ∃ a n c, v = .slice a n c) : v.oneCell' = true := by obtain ⟨a, n, c, rfl⟩ := h; rfl

set_option maxRecDepth 100000 in
theorem repeat_any {w : World} {xb n : Nat} {v : Value} (hc : w.cell? ⟨xb, 0, none⟩ = some v) (hv : ∃ a n c, v = .slice a n c) (h1 : 1 ≤ n) (hn : n ≤ 4096) :
    Calls Tryz.prog 41 #[.slice (some ⟨xb, 0, none⟩) 1 1, .int .i64 n] w fun e w' => ∃ g, e = .returned (.slice (some ⟨g, 0, none⟩) n n) ∧ w.heap.size ≤ g ∧ w'.heap[g]? = some (.cells (List.replicate n v).toArray 62) ∧ Below w.heap.size w w' := by
  have hm := mul_any w n hn
  have hmk := run_make_row' (P := Tryz.prog) 49 62 (.slice none 0 0) 24 Tryz.underlying49 rows_info rfl .i64 .i64 n (by omega) (by omega)
  have hb := World.block_lt_of_cell? _ _ hc
  go_enter Tryz.func41, Tryz.ntmps41
  go_wp2_with fail
  refine hm.mono ?_
  rintro e w' ⟨rfl, rfl⟩
  go_wp2_with (with_reducible refine wpList_copy_splice rfl (.tmp 31) (.tmp 32) 49 49 rfl 62 Tryz.underlying49 rows_size _ _ _ _ _ _ rfl rfl w.heap.size 0 (fillV v 0 n) 62 ?_ [v] ?_ ?_ ?_ ?_ w.heap.size w ?_ (Nat.le_refl _) ?_)
  · rw [heap_new]
    have e : madeCells #[Value.slice none 0 0] n = (fillV v 0 n).toArray := by rw [← toList_madeCells_one_eq]; simp [fillV]
    rw [e]
  · simp [Nat.min_eq_left h1]
  · intro j u hj
    match j, hj with
    | 0, hj =>
      simp at hj
      subst hj
      exact hc
  · rw [fill_len v 0 n (by omega)]; simpa using h1
  · intro u hu
    obtain rfl := List.mem_singleton.1 hu
    exact oneSlice _ hv
  · exact (Below.refl _ _).alloc (Nat.le_refl _) _
  · intro w1 hg1 hb1
    have e1 : splice (fillV v 0 n) 0 [v] = fillV v 1 n := by
      have := splice_fill v 0 1 n
      simpa using this
    rw [e1] at hg1
    clear hm hmk e1
    go_wp2_with fail
    go_loopw [8] (fun x wr => ∃ k : Nat, 1 ≤ k ∧ k ≤ n ∧ x = .int .i64 k ∧ wr.heap[w.heap.size]? = some (.cells (fillV v k n).toArray 62) ∧ Below w.heap.size w wr) (fun x _ => n - (intOf x).toNat)
    case atStart => exact ⟨1, Nat.le_refl _, h1, rfl, hg1.out, hb1⟩
    case round =>
      obtain ⟨k, hk1, hkn, rfl, hg, hB⟩ := hrel
      replace hg := hide hg
      replace hB := hide hB
      replace hg1 := hide hg1
      go_wp2_with fail
      · have hlt : k < n := by omega
        obtain ⟨m, hm⟩ : ∃ m, m = min k (n - k) := ⟨_, rfl⟩
        have hm1 : k + m ≤ n := by omega
        have hm2 : 1 ≤ m := by omega
        have hm3 : m ≤ k := by omega
        replace hm := hide hm
        have hcp := run_copy_row (P := Tryz.prog) wr.drew 49 49 3 62 w.heap.size k (n - k) (n - k) ⟨w.heap.size, 0, none⟩ k n (fillV v k n).toArray 62 (List.replicate m v) Tryz.underlying49 rows_size hg.out (by rw [List.length_replicate]; exact hm.out)
          (fun j u hj => by
            rw [Go.WideShapes.add_plain]
            have hj1 : j < m := by
              rcases Nat.lt_or_ge j m with h | h
              · exact h
              · rw [List.getElem?_eq_none (by simpa using h)] at hj; cases hj
            have hj2 : u = v := by simpa [hj1] using hj.symm
            subst hj2
            have : wr.cell? ⟨w.heap.size, 0 + j, none⟩ = some u := by
              rw [cell_at hg.out]
              simpa using fill_get u k n j (by omega)
            exact this)
          (by simp [fill_len v k n hkn]; exact hm1)
          (fun u hu => by obtain rfl := List.eq_of_mem_replicate hu; exact oneSlice _ hv)
        rw [List.length_replicate, List.append_assoc, show k + m = k + (List.replicate m v).length by simp, show ((fillV v k n).toArray.toList.take k ++ (List.replicate m v ++ (fillV v k n).toArray.toList.drop (k + (List.replicate m v).length))).toArray = (fillV v (k + m) n).toArray by rw [← splice_fill]; rfl] at hcp
        go_region
        go_wp2_with fail
        go_roundw
        case rel => exact ⟨k + m, by omega, hm1, by simp, setRow_heap _ _ _ _ _ _ hg.out, below_setRow (hB.out.drew) (Nat.le_refl _) _⟩
        case measure => simp [intOf]; omega
      · go_ret
        have : k = n := by omega
        subst this
        refine ⟨_, rfl, Nat.le_refl _, by rw [hg.out]; simp [fillV], hB.out⟩
end Go.Proofs.YtpnboihbifhigaaGreatDoor
/- Walks of pages: a disk, and its first error. -/
namespace Go.Proofs.YtpnboihbifhigaaGreatDoor
open Go Go.RowKit
def errOf (D : DS) : Int := if D.dead then 32 else 0
abbrev OO (pb : Nat) (S : Nat → Prop) : Nat → Prop := fun k => k = pb ∨ S k
/-- The pages at block pb, of the disk at sb. -/
structure PgV (w : World) (pb sb : Nat) (S : Nat → Prop) (D : DS) : Prop where
  head : w.heap[pb]? = some (.cells #[.pointer (some ⟨sb, 0, none⟩), .int .i64 (errOf D)] 96)
  disk : DiskV w sb S D
  ne : ¬ S pb
/-- The same, the disk's map in block mb. -/
structure PgM (w : World) (pb sb mb : Nat) (S : Nat → Prop) (D : DS) : Prop where
  head : w.heap[pb]? = some (.cells #[.pointer (some ⟨sb, 0, none⟩), .int .i64 (errOf D)] 96)
  disk : DiskM w sb mb S D
  ne : ¬ S pb
theorem PgM.toV {w : World} {S : Nat → Prop} {pb sb mb : Nat} {D : DS} (h : PgM w pb sb mb S D) : PgV w pb sb S D := ⟨h.head, h.disk.toV, h.ne⟩
theorem PgV.toM {w : World} {S : Nat → Prop} {pb sb : Nat} {D : DS} (h : PgV w pb sb S D) : ∃ mb, PgM w pb sb mb S D ∧ mb < w.heap.size := by
  obtain ⟨mb, hm, hl⟩ := h.disk.toM
  exact ⟨mb, ⟨h.head, hm, h.ne⟩, hl⟩
theorem PgM.upd {w w' : World} {F S : Nat → Prop} {pb sb mb : Nat} {D : DS} (h : PgM w pb sb mb S D) (hu : Upd F w w') (hp : ¬ F pb) (hS : ∀ k, S k → ¬ F k) : PgM w' pb sb mb S D :=
  ⟨hu.heap h.head hp, h.disk.upd hu hS, h.ne⟩
theorem PgM.walk {w w' : World} {row : Option Nat} {S : Nat → Prop} {pb sb mb : Nat} {D : DS} (h : PgM w pb sb mb S D) (hg : w.grownBy w' row) (hr : ∀ r, row = some r → r ≠ mb ∧ ∃ o : Obj, w.heap[r]? = some o ∧ o.isCells = false) : PgM w' pb sb mb S D := by
  refine ⟨(hg.block pb (Array.getElem?_eq_some_iff.1 h.head).1 fun e => ?_).trans h.head, h.disk.walk hg hr, h.ne⟩
  obtain ⟨_, o, ho, hc⟩ := hr pb e.symm
  rw [h.head] at ho
  injection ho with ho
  rw [← ho] at hc
  cases hc
theorem PgV.upd {w w' : World} {F S : Nat → Prop} {pb sb : Nat} {D : DS} (h : PgV w pb sb S D) (hu : Upd F w w') (hp : ¬ F pb) (hS : ∀ k, S k → ¬ F k) : PgV w' pb sb S D :=
  ⟨hu.heap h.head hp, h.disk.upd hu hS, h.ne⟩
theorem PgV.lt {w : World} {S : Nat → Prop} {pb sb : Nat} {D : DS} (h : PgV w pb sb S D) : pb < w.heap.size := (Array.getElem?_eq_some_iff.1 h.head).1
theorem PgV.c0 {w : World} {S : Nat → Prop} {pb sb : Nat} {D : DS} (h : PgV w pb sb S D) : w.cell? ⟨pb, 0, none⟩ = some (.pointer (some ⟨sb, 0, none⟩)) := by rw [cell_at h.head]; rfl
theorem PgV.c1 {w : World} {S : Nat → Prop} {pb sb : Nat} {D : DS} (h : PgV w pb sb S D) : w.cell? ⟨pb, 1, none⟩ = some (.int .i64 (errOf D)) := by rw [cell_at h.head]; rfl
theorem sizeV {w : World} {S : Nat → Prop} {sb : Nat} {D : DS} (h : DiskV w sb S D) : Calls Tryz.prog 43 #[.pointer (some ⟨sb, 0, none⟩)] w fun e w' => e = .returned (.int .i64 D.size) ∧ w = w' := by
  obtain ⟨db, mb, cap, vs, g, R, h, rfl⟩ := h
  exact size_any h
theorem sectorsV {w : World} {S : Nat → Prop} {sb : Nat} {D : DS} (h : DiskV w sb S D) : Calls Tryz.prog 42 #[.pointer (some ⟨sb, 0, none⟩)] w fun e w' => e = .returned (.int .i64 D.n) ∧ w = w' := by
  obtain ⟨db, mb, cap, vs, g, R, h, rfl⟩ := h
  exact sectors_any h
theorem DiskV.s1 {w : World} {S : Nat → Prop} {sb : Nat} {D : DS} (h : DiskV w sb S D) : 64 ≤ D.size ∧ D.size ≤ 4096 := by
  obtain ⟨db, mb, cap, vs, g, R, h, rfl⟩ := h
  exact h.s1
theorem DiskV.n1 {w : World} {S : Nat → Prop} {sb : Nat} {D : DS} (h : DiskV w sb S D) : 1 ≤ D.n ∧ D.n ≤ 4096 := by
  obtain ⟨db, mb, cap, vs, g, R, h, rfl⟩ := h
  exact h.n1
def pad (n : Nat) (l : List UInt8) : List UInt8 := l ++ List.replicate (n - l.length) 0
theorem pad_len (n : Nat) (l : List UInt8) (h : l.length ≤ n) : (pad n l).length = n := by simp [pad]; omega
theorem splice_pad (n : Nat) (l : List UInt8) : splice (bv (List.replicate n 0)) 0 (bv l) = bv (pad n l) := by
  unfold splice pad bv
  simp
theorem bv_one (l : List UInt8) : ∀ v ∈ bv l, v.oneCell' = true := by
  intro v hv
  unfold bv at hv
  rw [List.mem_map] at hv
  obtain ⟨b, _, rfl⟩ := hv
  rfl
theorem DS.write_dead {D : DS} (h : D.dead = true) (i : Nat) (l : List UInt8) : D.write i l = D := by unfold DS.write; rw [DS.draw_dead h, h]; rfl
theorem DS.flush_dead {D : DS} (h : D.dead = true) : D.flush = D := by unfold DS.flush; rw [DS.draw_dead h, h]; rfl
theorem DS.write_n (D : DS) (i : Nat) (l : List UInt8) : (D.write i l).n = D.n := by unfold DS.write; split <;> simp [DS.draw_n]
theorem DS.write_size (D : DS) (i : Nat) (l : List UInt8) : (D.write i l).size = D.size := by unfold DS.write; split <;> simp [DS.draw_size]
theorem DS.flush_n (D : DS) : D.flush.n = D.n := by unfold DS.flush; split <;> simp [DS.draw_n]
theorem DS.flush_size (D : DS) : D.flush.size = D.size := by unfold DS.flush; split <;> simp [DS.draw_size]

section
variable {w : World} {pb sb : Nat} {S : Nat → Prop} {D : DS}
theorem pread_any (h : PgV w pb sb S D) (hd : D.dead = false) (i : Nat) (hi : i < D.n) : Calls Tryz.prog 108 #[.pointer (some ⟨pb, 0, none⟩), .int .i64 i] w fun e w' => ∃ v', e = .returned v' ∧ RowB w' w.heap.size v' (D.last i) ∧ PgV w' pb sb S D ∧ Upd (At pb) w w' := by
  have c0 := h.c0
  have c1 := h.c1
  have he : errOf D = 0 := by unfold errOf; rw [hd]; rfl
  rw [he] at c1
  have hr := read_any h.disk hd i hi
  replace h := hide h
  replace he := hide he
  clear hd
  go_enter Tryz.func108, Tryz.ntmps108
  go_wp2_with fail
  refine hr.mono ?_
  rintro e w1 ⟨v', rfl, h1, h2⟩
  have hU1 : Upd (At pb) w w1 := .of_below _ h2
  have h3 := h.out.upd (.of_below (fun _ => False) h2) id fun _ _ => id
  have d1 : w1.cell? ⟨pb, 1, none⟩ = some (.int .i64 (errOf D)) := by rw [cell_at h3.head]; rfl
  rw [he.out] at d1
  have f1 := frozen_at h3.head 1
  replace h1 := hide h1
  replace h3 := hide h3
  replace hU1 := hide hU1
  clear h2 hr
  go_wp2_with fail
  go_ret
  have hU2 : Upd (At pb) w1 (w1.setCell ⟨pb, 1, none⟩ (.int .i64 0)) := .set (F := At pb) _ (a := ⟨pb, 1, none⟩) rfl _
  refine ⟨_, rfl, h1.out.upd hU2 (fun k hk e => by have := (h1.out.own_ge hk).1; have := h.out.lt; omega), ⟨?_, h3.out.disk.upd hU2 fun k hk e => h.out.ne (e ▸ hk), h.out.ne⟩, hU1.out.then hU2⟩
  rw [heap_set h3.out.head]
  rw [he.out]
  rfl
set_option maxRecDepth 100000 in
theorem pflush_any (h : PgV w pb sb S D) : Calls Tryz.prog 46 #[.pointer (some ⟨pb, 0, none⟩)] w fun e w' => e = .returned (.tuple #[]) ∧ ∃ S', PgV w' pb sb S' D.flush ∧ Mv w (OO pb S) w' (OO pb S') := by
  have c0 := h.c0
  have c1 := h.c1
  have hf := flush_any h.disk
  cases hd : D.dead
  · have he : errOf D = 0 := by unfold errOf; rw [hd]; rfl
    rw [he] at c1
    replace h := hide h
    replace he := hide he
    clear hd
    go_enter Tryz.func46, Tryz.ntmps46
    go_wp2_with fail
    refine hf.mono ?_
    rintro e w1 ⟨rfl, S', hD1, hM⟩
    have hpS : ¬ S' pb := fun hp => (hM.2 _ hp).elim h.out.ne (fun e => by have := h.out.lt; omega)
    have hh1 := hM.1.heap h.out.head h.out.ne
    have d1 : w1.cell? ⟨pb, 1, none⟩ = some (.int .i64 (errOf D)) := by rw [cell_at hh1]; rfl
    rw [he.out] at d1
    have f1 := frozen_at hh1 1
    replace hD1 := hide hD1
    replace hM := hide hM
    replace hpS := hide hpS
    replace hh1 := hide hh1
    clear hf
    obtain ⟨z, hz⟩ : ∃ z, z = (if D.flush.dead = true then (32 : Int) else 0) := ⟨_, rfl⟩
    rw [← hz]
    replace hz := hide hz
    go_wp2_with fail
    go_end0
    have hU2 : Upd (At pb) w1 (w1.setCell ⟨pb, 1, none⟩ (.int .i64 z)) := .set (F := At pb) _ (a := ⟨pb, 1, none⟩) rfl _
    refine ⟨rfl, S', ⟨?_, hD1.out.upd hU2 fun k hk e => hpS.out (e ▸ hk), hpS.out⟩, ?_⟩
    · rw [heap_set hh1.out]
      rw [hz.out]
      rfl
    · exact ⟨(hM.out.1.mono fun k _ hk => Or.inr hk).then (hU2.mono fun k _ e => Or.inl e), fun k hk => hk.elim (fun e => .inl (.inl e)) fun hk => (hM.out.2 k hk).imp .inr id⟩
  · have he : errOf D = 32 := by unfold errOf; rw [hd]; rfl
    rw [he] at c1
    rw [DS.flush_dead hd]
    clear hf he hd
    replace h := hide h
    go_enter Tryz.func46, Tryz.ntmps46
    go_wp2_with fail
    go_end0
    exact ⟨rfl, S, h.out, .refl _ _⟩
set_option maxRecDepth 100000 in
theorem pwrite_anyM {mb : Nat} (h : PgM w pb sb mb S D) (i : Nat) (hi : i < D.n) {T : Nat → Prop} {u : Value} {l : List UInt8} (hu : ArgV w T u (bv l)) (hl : l.length ≤ D.size) :
    Calls Tryz.prog 75 #[.pointer (some ⟨pb, 0, none⟩), .int .i64 i, u] w fun e w' => e = .returned (.tuple #[]) ∧ ∃ S', PgM w' pb sb mb S' (D.write i (pad D.size l)) ∧ Mv w (OO pb S) w' (OO pb S') := by
  have c0 := h.toV.c0
  have c1 := h.toV.c1
  have hsz := sizeV h.disk.toV
  have hs := h.disk.toV.s1
  have hpl := h.toV.lt
  cases hd : D.dead
  · have he : errOf D = 0 := by unfold errOf; rw [hd]; rfl
    rw [he] at c1
    have hmk := run_make_row' (P := Tryz.prog) 62 5 (.int .u8 0) 1 Tryz.underlying62 byte_info rfl .i64 .i64 D.size (by omega) (by omega)
    obtain ⟨A, c, rfl, hc1, hc2, hcells⟩ := hu
    rw [bv_len] at hc1 ⊢
    replace h := hide h
    replace he := hide he
    replace hcells := hide hcells
    clear hd
    go_enter Tryz.func75, Tryz.ntmps75
    go_wp2_with fail
    refine hsz.mono ?_
    rintro e w' ⟨rfl, rfl⟩
    go_wp2_with (with_reducible refine wpList_copy_splice rfl (.tmp 20) (.tmp 21) 62 62 rfl 5 Tryz.underlying62 byte_size _ _ _ _ _ _ rfl rfl w.heap.size 0 (bv (List.replicate D.size 0)) 5 ?_ (bv l) ?_ ?_ ?_ ?_ w.heap.size w ?_ (Nat.le_refl _) ?_)
    · rw [heap_new, ← toList_madeCells_one_eq]
      unfold bv
      simp
    · rw [bv_len]; simp [Nat.min_eq_left hl]
    · intro hpos
      rcases hcells.out with h4 | ⟨b, o, rfl, hS, hc⟩
      · rw [h4] at hpos; simp at hpos
      · refine ⟨_, rfl, fun j v hj => ?_⟩
        rw [Go.WideShapes.add_plain]
        exact ((Below.refl w.heap.size w).alloc (Nat.le_refl _) _).cell (World.block_lt_of_cell? w _ (hc j v hj)) |>.trans (hc j v hj)
    · rw [bv_len, bv_len, List.length_replicate]; omega
    · exact bv_one l
    · exact (Below.refl _ _).alloc (Nat.le_refl _) _
    intro w1 hg1 hb1
    rw [splice_pad] at hg1
    have hlp := pad_len D.size l hl
    have hsb1 := hg1.out
    have hlt1 := (Array.getElem?_eq_some_iff.1 hsb1).1
    have hav : ArgV w1 (fun k => k = w.heap.size) (.slice (some ⟨w.heap.size, 0, none⟩) D.size D.size) (bv (pad D.size l)) := by
      refine ⟨_, D.size, by rw [bv_len, hlp], by rw [bv_len, hlp]; exact Nat.le_refl _, by unfold maxLen; omega, .inr ⟨w.heap.size, 0, rfl, rfl, fun j v hj => ?_⟩⟩
      rw [cell_at hsb1, Nat.zero_add]
      simpa using hj
    have hU1 : Upd (fun _ => False) w w1 := .of_below _ hb1
    have h1 := h.out.upd hU1 id fun _ _ => id
    have hwr := write_anyM h1.disk i hi hav (fun k hk hS => by have := h.out.disk.toV.old k hS; omega) hlp
    have d0 := h1.toV.c0
    have hz1 := hb1.size
    replace hav := hide hav
    replace h1 := hide h1
    replace hU1 := hide hU1
    clear hg1 hb1 hsb1 hmk hsz
    go_wp2_with fail
    refine hwr.mono ?_
    rintro e w2 ⟨rfl, S', hD2, hM⟩
    have hpS : ¬ S' pb := fun hp => (hM.2 _ hp).elim h.out.ne (fun e => by omega)
    have hh2 := hM.1.heap h1.out.head h.out.ne
    have d1 : w2.cell? ⟨pb, 1, none⟩ = some (.int .i64 (errOf D)) := by rw [cell_at hh2]; rfl
    rw [he.out] at d1
    have f1 := frozen_at hh2 1
    replace hD2 := hide hD2
    replace hM := hide hM
    replace hpS := hide hpS
    replace hh2 := hide hh2
    clear hwr
    obtain ⟨z, hz⟩ : ∃ z, z = (if (D.write i (pad D.size l)).dead = true then (32 : Int) else 0) := ⟨_, rfl⟩
    rw [← hz]
    replace hz := hide hz
    go_wp2_with fail
    go_end0
    have hU2 : Upd (At pb) w2 (w2.setCell ⟨pb, 1, none⟩ (.int .i64 z)) := .set (F := At pb) _ (a := ⟨pb, 1, none⟩) rfl _
    refine ⟨rfl, S', ⟨?_, hD2.out.upd hU2 fun k hk e => hpS.out (e ▸ hk), hpS.out⟩, ?_⟩
    · rw [heap_set hh2.out]
      rw [hz.out]
      rfl
    · exact ⟨((hU1.out.mono fun _ _ h => h.elim).then (hM.out.1.mono fun k _ hk => Or.inr hk)).then (hU2.mono fun k _ e => Or.inl e), fun k hk => hk.elim (fun e => .inl (.inl e)) fun hk => (hM.out.2 k hk).imp .inr fun h => Nat.le_trans hz1 h⟩
  · have he : errOf D = 32 := by unfold errOf; rw [hd]; rfl
    rw [he] at c1
    rw [DS.write_dead hd]
    clear hsz he hd
    replace h := hide h
    go_enter Tryz.func75, Tryz.ntmps75
    go_wp2_with fail
    go_end0
    exact ⟨rfl, S, h.out, .refl _ _⟩
theorem pwrite_any (h : PgV w pb sb S D) (i : Nat) (hi : i < D.n) {T : Nat → Prop} {u : Value} {l : List UInt8} (hu : ArgV w T u (bv l)) (hl : l.length ≤ D.size) :
    Calls Tryz.prog 75 #[.pointer (some ⟨pb, 0, none⟩), .int .i64 i, u] w fun e w' => e = .returned (.tuple #[]) ∧ ∃ S', PgV w' pb sb S' (D.write i (pad D.size l)) ∧ Mv w (OO pb S) w' (OO pb S') := by
  obtain ⟨mb, hm, _⟩ := h.toM
  exact (pwrite_anyM hm i hi hu hl).mono fun e w' ⟨h1, S', h2, h3⟩ => ⟨h1, S', h2.toV, h3⟩
end
end Go.Proofs.YtpnboihbifhigaaGreatDoor
/- Walks of wal: where things lie. -/
namespace Go.Proofs.YtpnboihbifhigaaGreatDoor
open Go Go.RowKit
theorem w64 {n : Int} (h : -9223372036854775808 ≤ n ∧ n ≤ 9223372036854775807) : wrap64 n = n := by unfold wrap64; omega
def areaN (D : DS) : Nat := (D.n - 3) / 2
def capN (D : DS) : Nat := areaN D * D.size
theorem other_any (w : World) (i : Nat) (hi : i ≤ 1) : Calls Tryz.prog 84 #[.int .i64 i] w fun e w' => e = .returned (.int .i64 (1 - i : Nat)) ∧ w = w' := by
  go_enter Tryz.func84, Tryz.ntmps84
  go_wp2_with fail
  go_ret
  exact ⟨by simp; omega, rfl⟩
theorem area_any {w : World} {S : Nat → Prop} {sb : Nat} {D : DS} (h : DiskV w sb S D) (hn : 16 ≤ D.n) : Calls Tryz.prog 145 #[.pointer (some ⟨sb, 0, none⟩)] w fun e w' => e = .returned (.int .i64 (areaN D)) ∧ w = w' := by
  have hs := sectorsV h
  have h1 := h.n1
  have e : ((D.n : Int) - 3).tdiv 2 = (areaN D : Nat) := by
    have : ((D.n : Int) - 3) = ((D.n - 3 : Nat) : Int) := by omega
    rw [this]
    exact (Int.natCast_ediv _ 2 ▸ rfl)
  have hz2 : areaN D ≤ 2046 := by unfold areaN; omega
  generalize areaN D = z at *
  have hz : wrap64 (z : Int) = z := w64 (by omega)
  clear h
  go_enter Tryz.func145, Tryz.ntmps145
  go_wp2_with fail
  refine hs.mono ?_
  rintro e w' ⟨rfl, rfl⟩
  go_wp2_with fail
  go_ret
  exact ⟨rfl, rfl⟩
def secN (D : DS) (a t : Nat) : Nat := 3 + a * areaN D + t / D.size
theorem area_le {D : DS} (h : D.n ≤ 4096) : areaN D ≤ 2046 := by unfold areaN; omega
set_option maxRecDepth 100000 in
theorem capacity_any {w : World} {S : Nat → Prop} {sb : Nat} {D : DS} (h : DiskV w sb S D) (hn : 16 ≤ D.n) : Calls Tryz.prog 112 #[.pointer (some ⟨sb, 0, none⟩)] w fun e w' => e = .returned (.int .i64 (capN D)) ∧ Below w.heap.size w w' := by
  have h1 := h.n1
  have h2 := h.s1
  have ha := area_le h1.2
  have hm : areaN D * D.size ≤ 2046 * 4096 := Nat.mul_le_mul ha h2.2
  have hwr : IntKind.i64.wrap ((areaN D : Int) * (D.size : Int)) = (capN D : Int) := by
    unfold capN
    rw [IntKind.wrap_i64, ← Int.natCast_mul]
    omega
  have hD := hide h
  replace hwr := hide hwr
  clear h hm ha
  go_enter Tryz.func112, Tryz.ntmps112
  go_wp2_with fail
  refine wp_region_flow (fun _ => False) (factAt [(fun v _ => v = (.pointer (some ⟨sb, 0, none⟩))), (fun v _ => v = (.int .i64 (areaN D : Nat))), (fun v _ => v = (.pointer (some ⟨sb, 0, none⟩))), (fun v _ => v = (.pointer (some ⟨sb, 0, none⟩))), (fun v _ => v = (.pointer (some ⟨sb, 0, none⟩))), (fun v _ => v = (.int .i64 (D.size : Nat))), (fun v _ => v = (.int .i64 (capN D : Nat))), (fun v _ => v = (.int .i64 (capN D : Nat)))]) [] (fun _ => True) (by kernel_rfl) (fkept_at ⟨FKept.eq _, FKept.eq _, FKept.eq _, FKept.eq _, FKept.eq _, FKept.eq _, FKept.eq _, FKept.eq _, trivial⟩) (fun _ _ h _ => h) trivial (by kernel_rfl) (by kernel_rfl) (by kernel_rfl) (by kernel_rfl) (Nat.le_of_ble_eq_true (by kernel_rfl)) ?_ ⟨?_, ?_, ?_, ?_, ?_, ?_, ?_, ?_, trivial⟩ ?_
  · first | exact trivial | assumption
  · intro T w Q hu hs hv hw hd
    have hx0 : T.getD 0 undef = (.pointer (some ⟨sb, 0, none⟩)) := hv 0 (by kernel_rfl)
    refine .inl ⟨wanted_none rfl, ?_⟩
    clear hd hv hu hs hw
    go_simp
    exact ⟨_, rfl, DstOk.some rfl, Below.refl _ _, rfl⟩
  · intro T w Q hu hs hv hw hd
    have hx3 : T.getD 3 undef = (.pointer (some ⟨sb, 0, none⟩)) := Deps.at 0 hd (by kernel_rfl)
    refine .inl ⟨wanted_none rfl, ?_⟩
    have hN := area_any (hD.out.upd hu fun _ _ => id) hn
    clear hd hv hu hs hw
    go_simp
    refine hN.mono ?_
    rintro e w2 ⟨rfl, rfl⟩
    exact ⟨_, rfl, DstOk.some rfl, Below.refl _ _, rfl⟩
  · intro T w Q hu hs hv hw hd
    have hx0 : T.getD 0 undef = (.pointer (some ⟨sb, 0, none⟩)) := hv 0 (by kernel_rfl)
    refine .inl ⟨wanted_none rfl, ?_⟩
    clear hd hv hu hs hw
    go_simp
    exact ⟨_, rfl, DstOk.some rfl, Below.refl _ _, rfl⟩
  · intro T w Q hu hs hv hw hd
    have hx5 : T.getD 5 undef = (.pointer (some ⟨sb, 0, none⟩)) := Deps.at 2 hd (by kernel_rfl)
    refine .inl ⟨wanted_none rfl, ?_⟩
    clear hd hv hu hs hw
    go_simp
    exact ⟨_, rfl, DstOk.some rfl, Below.refl _ _, rfl⟩
  · intro T w Q hu hs hv hw hd
    have hx6 : T.getD 6 undef = (.pointer (some ⟨sb, 0, none⟩)) := Deps.at 3 hd (by kernel_rfl)
    refine .inl ⟨wanted_none rfl, ?_⟩
    clear hd hv hu hs hw
    go_simp
    exact ⟨_, rfl, DstOk.some rfl, Below.refl _ _, rfl⟩
  · intro T w Q hu hs hv hw hd
    have hx7 : T.getD 7 undef = (.pointer (some ⟨sb, 0, none⟩)) := Deps.at 4 hd (by kernel_rfl)
    refine .inl ⟨wanted_none rfl, ?_⟩
    have hN := sizeV (hD.out.upd hu fun _ _ => id)
    clear hd hv hu hs hw
    go_simp
    refine hN.mono ?_
    rintro e w2 ⟨rfl, rfl⟩
    exact ⟨_, rfl, DstOk.some rfl, Below.refl _ _, rfl⟩
  · intro T w Q hu hs hv hw hd
    have hx4 : T.getD 4 undef = (.int .i64 (areaN D : Nat)) := Deps.at 1 hd (by kernel_rfl)
    have hx8 : T.getD 8 undef = (.int .i64 (D.size : Nat)) := Deps.at 5 hd (by kernel_rfl)
    refine .inl ⟨wanted_none rfl, ?_⟩
    clear hd hv hu hs hw
    go_simp
    exact ⟨_, rfl, DstOk.some rfl, Below.refl _ _, by simp only [hwr.out]; exact rfl⟩
  · intro T w Q hu hs hv hw hd
    have hx9 : T.getD 9 undef = (.int .i64 (capN D : Nat)) := Deps.at 6 hd (by kernel_rfl)
    refine .inl ⟨wanted_none rfl, ?_⟩
    clear hd hv hu hs hw
    go_simp
    exact ⟨_, rfl, DstOk.some rfl, Below.refl _ _, rfl⟩
  · intro T w hu hs hv hf hcur
    go_wp2_with fail
    go_ret
    exact ⟨by have := hf 7 (by decide); exact congrArg _ this, hu.below (Nat.le_refl _) fun _ h => h.elim⟩
theorem area_hi {D : DS} {a : Nat} (ha : a ≤ 1) (h : 16 ≤ D.n) : 3 + a * areaN D + areaN D ≤ D.n := by
  unfold areaN
  have : a * ((D.n - 3) / 2) ≤ (D.n - 3) / 2 := by
    have := Nat.mul_le_mul_right ((D.n - 3) / 2) ha
    omega
  omega
set_option maxRecDepth 100000 in
theorem sectorOf_any {w : World} {S : Nat → Prop} {sb : Nat} {D : DS} (h : DiskV w sb S D) (hn : 16 ≤ D.n) (a t : Nat) (ha : a ≤ 1) (ht : t ≤ 16777216) : Calls Tryz.prog 113 #[.pointer (some ⟨sb, 0, none⟩), .int .i64 a, .int .i64 t] w fun e w' => e = .returned (.int .i64 (secN D a t)) ∧ Below w.heap.size w w' := by
  have h1 := h.n1
  have h2 := h.s1
  have hz := area_le h1.2
  have hm : a * areaN D ≤ 1 * 2046 := Nat.mul_le_mul ha hz
  have hdiv : t / D.size ≤ t := Nat.div_le_self _ _
  obtain ⟨z, hzz⟩ : ∃ z, z = areaN D := ⟨_, rfl⟩
  obtain ⟨q, hq⟩ : ∃ q, q = a * areaN D := ⟨_, rfl⟩
  obtain ⟨q3, hq3⟩ : ∃ q3, q3 = 3 + q := ⟨_, rfl⟩
  obtain ⟨r, hr⟩ : ∃ r, r = t / D.size := ⟨_, rfl⟩
  obtain ⟨s, htot⟩ : ∃ s, s = secN D a t := ⟨_, rfl⟩
  have htt : s = 3 + a * areaN D + t / D.size := htot
  have hN2 : ∀ w', Upd (fun _ => False) w w' → Calls Tryz.prog 145 #[.pointer (some ⟨sb, 0, none⟩)] w' fun e w'' => e = .returned (.int .i64 (z : Nat)) ∧ w' = w'' := fun w' hu => by rw [hzz]; exact area_any (h.upd hu fun _ _ => id) hn
  have hw1 : IntKind.i64.wrap ((a : Int) * (z : Int)) = (q : Int) := by
    rw [IntKind.wrap_i64, ← Int.natCast_mul, hzz]
    omega
  have hw2 : IntKind.i64.wrap (3 + (q : Int)) = (q3 : Int) := by
    rw [IntKind.wrap_i64]
    omega
  have hw3 : IntKind.i64.wrap ((t : Int) / (D.size : Int)) = (r : Int) := by
    rw [IntKind.wrap_i64, ← Int.natCast_ediv, ← hr]
    omega
  have hw4 : IntKind.i64.wrap ((q3 : Int) + (r : Int)) = (s : Int) := by
    rw [IntKind.wrap_i64]
    omega
  have hsz : ¬ D.size = 0 := by omega
  have hD := hide h
  replace hw1 := hide hw1
  replace hw2 := hide hw2
  replace hw3 := hide hw3
  replace hw4 := hide hw4
  replace htot := hide htot
  replace hN2 := hide hN2
  clear h htt hm hdiv hq hq3 hr hzz hz h1 h2
  go_enter Tryz.func113, Tryz.ntmps113
  go_wp2_with fail
  refine wp_region_flow (fun _ => False) (factAt [(fun v _ => v = (.int .i64 (a : Nat))), (fun v _ => v = (.pointer (some ⟨sb, 0, none⟩))), (fun v _ => v = (.int .i64 (z : Nat))), (fun v _ => v = (.int .i64 (q : Nat))), (fun v _ => v = (.int .i64 (q3 : Nat))), (fun v _ => v = (.int .i64 (t : Nat))), (fun v _ => v = (.pointer (some ⟨sb, 0, none⟩))), (fun v _ => v = (.pointer (some ⟨sb, 0, none⟩))), (fun v _ => v = (.pointer (some ⟨sb, 0, none⟩))), (fun v _ => v = (.int .i64 (D.size : Nat))), (fun v _ => v = (.int .i64 (r : Nat))), (fun v _ => v = (.int .i64 (s : Nat))), (fun v _ => v = (.int .i64 (s : Nat)))]) [] (fun _ => True) (by kernel_rfl) (fkept_at ⟨FKept.eq _, FKept.eq _, FKept.eq _, FKept.eq _, FKept.eq _, FKept.eq _, FKept.eq _, FKept.eq _, FKept.eq _, FKept.eq _, FKept.eq _, FKept.eq _, FKept.eq _, trivial⟩) (fun _ _ h _ => h) trivial (by kernel_rfl) (by kernel_rfl) (by kernel_rfl) (by kernel_rfl) (Nat.le_of_ble_eq_true (by kernel_rfl)) ?_ ⟨?_, ?_, ?_, ?_, ?_, ?_, ?_, ?_, ?_, ?_, ?_, ?_, ?_, trivial⟩ ?_
  · first | exact trivial | assumption
  · intro T w Q hu hs hv hw hd
    have hx1 : T.getD 1 undef = (.int .i64 (a : Nat)) := hv 1 (by kernel_rfl)
    refine .inl ⟨wanted_none rfl, ?_⟩
    clear hd hv hu hs hw
    go_simp
    exact ⟨_, rfl, DstOk.some rfl, Below.refl _ _, rfl⟩
  · intro T w Q hu hs hv hw hd
    have hx0 : T.getD 0 undef = (.pointer (some ⟨sb, 0, none⟩)) := hv 0 (by kernel_rfl)
    refine .inl ⟨wanted_none rfl, ?_⟩
    clear hd hv hu hs hw
    go_simp
    exact ⟨_, rfl, DstOk.some rfl, Below.refl _ _, rfl⟩
  · intro T w Q hu hs hv hw hd
    have hx8 : T.getD 8 undef = (.pointer (some ⟨sb, 0, none⟩)) := Deps.at 1 hd (by kernel_rfl)
    refine .inl ⟨wanted_none rfl, ?_⟩
    have hN := hN2.out w hu
    clear hd hv hu hs hw
    go_simp
    refine hN.mono ?_
    rintro e w2 ⟨rfl, rfl⟩
    exact ⟨_, rfl, DstOk.some rfl, Below.refl _ _, rfl⟩
  · intro T w Q hu hs hv hw hd
    have hx7 : T.getD 7 undef = (.int .i64 (a : Nat)) := Deps.at 0 hd (by kernel_rfl)
    have hx9 : T.getD 9 undef = (.int .i64 (z : Nat)) := Deps.at 2 hd (by kernel_rfl)
    refine .inl ⟨wanted_none rfl, ?_⟩
    clear hd hv hu hs hw
    go_simp
    exact ⟨_, rfl, DstOk.some rfl, Below.refl _ _, by simp only [hw1.out]; exact rfl⟩
  · intro T w Q hu hs hv hw hd
    have hx10 : T.getD 10 undef = (.int .i64 (q : Nat)) := Deps.at 3 hd (by kernel_rfl)
    refine .inl ⟨wanted_none rfl, ?_⟩
    clear hd hv hu hs hw
    go_simp
    exact ⟨_, rfl, DstOk.some rfl, Below.refl _ _, by simp only [hw2.out]; exact rfl⟩
  · intro T w Q hu hs hv hw hd
    have hx2 : T.getD 2 undef = (.int .i64 (t : Nat)) := hv 2 (by kernel_rfl)
    refine .inl ⟨wanted_none rfl, ?_⟩
    clear hd hv hu hs hw
    go_simp
    exact ⟨_, rfl, DstOk.some rfl, Below.refl _ _, rfl⟩
  · intro T w Q hu hs hv hw hd
    have hx0 : T.getD 0 undef = (.pointer (some ⟨sb, 0, none⟩)) := hv 0 (by kernel_rfl)
    refine .inl ⟨wanted_none rfl, ?_⟩
    clear hd hv hu hs hw
    go_simp
    exact ⟨_, rfl, DstOk.some rfl, Below.refl _ _, rfl⟩
  · intro T w Q hu hs hv hw hd
    have hx13 : T.getD 13 undef = (.pointer (some ⟨sb, 0, none⟩)) := Deps.at 6 hd (by kernel_rfl)
    refine .inl ⟨wanted_none rfl, ?_⟩
    clear hd hv hu hs hw
    go_simp
    exact ⟨_, rfl, DstOk.some rfl, Below.refl _ _, rfl⟩
  · intro T w Q hu hs hv hw hd
    have hx14 : T.getD 14 undef = (.pointer (some ⟨sb, 0, none⟩)) := Deps.at 7 hd (by kernel_rfl)
    refine .inl ⟨wanted_none rfl, ?_⟩
    clear hd hv hu hs hw
    go_simp
    exact ⟨_, rfl, DstOk.some rfl, Below.refl _ _, rfl⟩
  · intro T w Q hu hs hv hw hd
    have hx15 : T.getD 15 undef = (.pointer (some ⟨sb, 0, none⟩)) := Deps.at 8 hd (by kernel_rfl)
    refine .inl ⟨wanted_none rfl, ?_⟩
    have hN := sizeV (hD.out.upd hu fun _ _ => id)
    clear hd hv hu hs hw
    go_simp
    refine hN.mono ?_
    rintro e w2 ⟨rfl, rfl⟩
    exact ⟨_, rfl, DstOk.some rfl, Below.refl _ _, rfl⟩
  · intro T w Q hu hs hv hw hd
    have hx12 : T.getD 12 undef = (.int .i64 (t : Nat)) := Deps.at 5 hd (by kernel_rfl)
    have hx16 : T.getD 16 undef = (.int .i64 (D.size : Nat)) := Deps.at 9 hd (by kernel_rfl)
    refine .inl ⟨wanted_none rfl, ?_⟩
    clear hd hv hu hs hw
    go_simp
    exact ⟨_, rfl, DstOk.some rfl, Below.refl _ _, by simp only [hw3.out]; exact rfl⟩
  · intro T w Q hu hs hv hw hd
    have hx11 : T.getD 11 undef = (.int .i64 (q3 : Nat)) := Deps.at 4 hd (by kernel_rfl)
    have hx17 : T.getD 17 undef = (.int .i64 (r : Nat)) := Deps.at 10 hd (by kernel_rfl)
    refine .inl ⟨wanted_none rfl, ?_⟩
    clear hd hv hu hs hw
    go_simp
    exact ⟨_, rfl, DstOk.some rfl, Below.refl _ _, by simp only [hw4.out]; exact rfl⟩
  · intro T w Q hu hs hv hw hd
    have hx18 : T.getD 18 undef = (.int .i64 (s : Nat)) := Deps.at 11 hd (by kernel_rfl)
    refine .inl ⟨wanted_none rfl, ?_⟩
    clear hd hv hu hs hw
    go_simp
    exact ⟨_, rfl, DstOk.some rfl, Below.refl _ _, rfl⟩
  · intro T w hu hs hv hf hcur
    go_wp2_with fail
    go_ret
    exact ⟨by rw [← htot.out]; have := hf 12 (by decide); exact congrArg _ this, hu.below (Nat.le_refl _) fun _ h => h.elim⟩
end Go.Proofs.YtpnboihbifhigaaGreatDoor
/- Walks of wal: the mark. -/
namespace Go.Proofs.YtpnboihbifhigaaGreatDoor
open Go Go.RowKit
def magicL : List UInt8 := [97, 117, 103, 117, 114, 58, 32, 97, 32, 108, 111, 103, 44, 32, 49, 10]
def markL (live : Nat) : List UInt8 := magicL ++ [UInt8.ofNat live]
section
variable {w : World} {pb sb : Nat} {S : Nat → Prop} {D : DS}
theorem RowB.made (w : World) (l : List UInt8) (cs : Array Value) (n : Nat) (hcs : cs = (bv l).toArray) (hn : n = l.length) (hl : l.length ≤ maxLen) : RowB (w.alloc (.cells cs 5)) w.heap.size (.slice (some ⟨w.heap.size, 0, none⟩) n n) l := by
  subst hcs hn
  refine ⟨by rw [bv_len, Nat.mul_one], .inr ⟨w.heap.size, l.length, _, rfl, Nat.le_refl _, heap_alloc_new _ _, Nat.le_refl _, hl, by simp [bv], ?_⟩⟩
  rw [Nat.mul_one, ← bv_len l]
  simp
set_option maxRecDepth 100000 in
theorem writeMark_any (h : PgV w pb sb S D) (live : Nat) (hl : live ≤ 1) : Calls Tryz.prog 77 #[.pointer (some ⟨pb, 0, none⟩), .int .i64 live] w fun e w' => e = .returned (.tuple #[]) ∧ ∃ S', PgV w' pb sb S' (D.write 0 (pad D.size (markL live))) ∧ Mv w (OO pb S) w' (OO pb S') := by
  have hs := h.disk.s1
  have hn := h.disk.n1
  have hml : (markL live).length = 17 := by simp [markL, magicL]
  have hcv := fun (W : World) (C : Array Value) (n c g : Nat) (hg : g = W.heap.size) => Joins.run_convert_bytes_const_at (P := Tryz.prog) W 62 5 C n c g hg Tryz.underlying62 Tryz.underlying5
  have hlt := h.lt
  replace h := hide h
  go_enter Tryz.func77, Tryz.ntmps77
  go_wp2_with (at_builtin; refine wp_bytes_full rfl (.tmp 6) (.tmp 9) rfl (w.heap.size + 1) _ magicL rfl ?_ ⟨w.heap.size + 1, 0, none⟩ 1 1 [UInt8.ofNat live] rfl rfl (by simp) ?_ (by simp [magicL]) ?_)
  · exact ((Sl.new w _ _ _).below ((Below.refl _ _).alloc (by simp) _))
  · have := new_byte (w.alloc (.cells (bv magicL).toArray 5 (16, 17))) (.int .u8 live) (UInt8.ofNat live) (by congr 1; simp; omega)
    rw [World.size_alloc] at this
    exact this
  intro v2 w2 h2 hb2
  have hB : Below w.heap.size w w2 := (((Below.refl _ w).alloc (Nat.le_refl _) _).alloc (by simp) _).trans (hb2.mono (by omega))
  have hU2 : Upd (fun _ => False) w w2 := .of_below _ hB
  have h3 := h.out.upd hU2 id fun _ _ => id
  have hw := pwrite_any h3 0 (by omega) h2.arg (by show (markL live).length ≤ D.size; omega)
  obtain ⟨A2, n2, c2, rfl⟩ := h2.slice
  have hz2 := hB.size
  replace h2 := hide h2
  replace hU2 := hide hU2
  replace h3 := hide h3
  replace hz2 := hide hz2
  clear hb2 hB hcv
  go_wp2_with fail
  refine hw.mono ?_
  rintro e w3 ⟨rfl, S', h4, hM⟩
  replace h4 := hide h4
  replace hM := hide hM
  go_wp2_with fail
  go_end0
  exact ⟨rfl, S', h4.out, Mv.trans ⟨hU2.out.mono fun _ _ h => h.elim, fun _ => .inl⟩ hM.out⟩
/-- What a reading call of pages comes to. -/
def Tells {α : Type} (pb sb : Nat) (S : Nat → Prop) (D : DS) (w : World) (f : α → World → Value → Prop) (o : Option α) (e : Ending) (w' : World) : Prop :=
  PgV w' pb sb S D ∧ Upd (At pb) w w' ∧ match o with
    | some a => ∃ v, e = .returned v ∧ f a w' v
    | none => ∃ pv, e = .panicked [{ v := .iface 199 pv, recovered := false }]
def markP (l : List UInt8) : Option Nat := if l.take 16 = magicL then (if (l.getD 16 0).toNat < 2 then some (l.getD 16 0).toNat else none) else none
theorem RdV.made {w : World} {S : Nat → Prop} {v : Value} {l : List UInt8} (h : ArgV w S v (bv l)) (hS : ∀ k, S k → k < w.heap.size) : RdV (w.alloc (.cells #[v] 132)) w.heap.size S l :=
  ⟨v, heap_new _ _, h.upd (.alloc (fun _ => False) _ _) fun _ _ => id, fun h => by have := hS _ h; omega⟩
theorem one_of (l : List UInt8) (k : Nat) (h : k < l.length) : (l.drop k).take 1 = [l.getD k 0] := by
  rw [List.drop_eq_getElem_cons h, List.take_succ_cons, List.take_zero, List.getD_eq_getElem?_getD, List.getElem?_eq_getElem h]
  rfl
set_option maxRecDepth 100000 in
theorem readMark_any (h : PgV w pb sb S D) (hd : D.dead = false) (hls : (D.last 0).length = D.size) : Calls Tryz.prog 70 #[.pointer (some ⟨pb, 0, none⟩)] w fun e w' => Tells pb sb S D w (fun n _ v => v = .int .i64 (n : Nat)) (markP (D.last 0)) e w' := by
  have hs := h.disk.s1
  have hn := h.disk.n1
  have hlt := h.lt
  have hr := pread_any h hd 0 (by omega)
  have hne := h.ne
  have hold := h.disk.old
  generalize D.last 0 = l at *
  have t1 : takeP 16 l = some (l.take 16, l.drop 16) := if_pos (by omega)
  have t2 : takeP 1 (l.drop 16) = some ([l.getD 16 0], (l.drop 16).drop 1) := by rw [← one_of l 16 (by omega)]; exact if_pos (by rw [List.length_drop]; omega)
  have hb := (l.getD 16 0).toNat_lt
  clear h
  replace hls := hide hls
  replace hne := hide hne
  replace hold := hide hold
  replace t1 := hide t1
  replace t2 := hide t2
  by_cases hm : l.take 16 = magicL
  · replace hm := hide hm
    by_cases hm2 : (l.getD 16 0).toNat < 2
    · replace hm2 := hide hm2
      go_enter Tryz.func70, Tryz.ntmps70
      go_wp2_with fail
      refine hr.mono ?_
      rintro e w1 ⟨v1, rfl, h1, h2, hU1⟩
      have ha := h1.arg.mono' h1.arg
      have hz1 := hU1.size
      obtain ⟨A, n, c, rfl⟩ := h1.slice
      have hR0 := RdV.made ha (fun k hk => hk.2)
      have ht := take_any hR0 (by have := hls.out; omega) 16 (by omega)
      rw [t1.out] at ht
      have hp2 : PgV (w1.alloc (.cells #[.slice A n c] 132)) pb sb S D := h2.upd (.alloc (fun _ => False) _ _) id fun _ _ => id
      have hU2 : Upd (At pb) w (w1.alloc (.cells #[.slice A n c] 132)) := hU1.then (.alloc _ _ _)
      replace hp2 := hide hp2
      replace hU2 := hide hU2
      clear hr h1 h2 ha hU1 hR0
      go_wp2_with fail
      refine ht.mono ?_
      rintro e w2 ⟨hUt, v2, rfl, ha2, hR2⟩
      have hp3 : PgV w2 pb sb S D := hp2.out.upd hUt (fun e => by omega) fun k hk e => by have := hold.out k hk; omega
      have hU3 : Upd (At pb) w w2 := hU2.out.trans hUt fun k hk e => by omega
      have hz2 := hU3.size
      have hcv := ha2.bytes.string (P := Tryz.prog) Tryz.underlying62 Tryz.underlying5 Tryz.underlying9
      replace hp3 := hide hp3
      replace hU3 := hide hU3
      replace hR2 := hide hR2
      obtain ⟨A2, c2, rfl, -⟩ := ha2
      clear hUt hp2 hU2 ht
      go_wp2_with fail
      refine (need_any _ _).mono ?_
      rintro e w' ⟨rfl, h, -⟩
      obtain rfl := h (by have hm' := hm.out; unfold magicL at hm'; simpa using hm')
      have ht := take_any hR2.out (by rw [List.length_drop]; have := hls.out; omega) 1 (by omega)
      rw [t2.out] at ht
      clear hcv
      go_wp2_with fail
      refine ht.mono ?_
      rintro e w3 ⟨hUt, v3, rfl, ha3, hR3⟩
      have hp4 : PgV w3 pb sb S D := hp3.out.upd hUt (fun e => by omega) fun k hk e => by have := hold.out k hk; omega
      have hU4 : Upd (At pb) w w3 := hU3.out.trans hUt fun k hk e => by omega
      obtain ⟨A3, c3, rfl, hc3, -, hx⟩ := ha3
      obtain ⟨b3, o3, rfl, hcell⟩ : ∃ b o, A3 = some ⟨b, o, none⟩ ∧ w3.cell? ⟨b, o, none⟩ = some (.int .u8 (l.getD 16 0).toNat) := by
        rcases hx with hx | ⟨b, o, rfl, _, hc⟩
        · cases hx
        · exact ⟨b, o, rfl, hc 0 _ rfl⟩
      generalize hq : (l.getD 16 0).toNat = q at hcell hb hm2
      have hl3 : (bv [l.getD 16 0]).length = 1 := rfl
      rw [hl3] at hc3 ⊢
      replace hp4 := hide hp4
      replace hU4 := hide hU4
      replace hq := hide hq
      clear hUt ht hx hR3
      go_wp2_with fail
      refine (need_any _ _).mono ?_
      rintro e w' ⟨rfl, h, -⟩
      obtain rfl := h (by have := hm2.out; simp; omega)
      go_wp2_with fail
      go_ret
      unfold markP
      rw [if_pos hm.out, hq.out, if_pos hm2.out]
      exact ⟨hp4.out, hU4.out, _, rfl, rfl⟩
    · replace hm2 := hide hm2
      go_enter Tryz.func70, Tryz.ntmps70
      go_wp2_with fail
      refine hr.mono ?_
      rintro e w1 ⟨v1, rfl, h1, h2, hU1⟩
      have ha := h1.arg.mono' h1.arg
      have hz1 := hU1.size
      obtain ⟨A, n, c, rfl⟩ := h1.slice
      have hR0 := RdV.made ha (fun k hk => hk.2)
      have ht := take_any hR0 (by have := hls.out; omega) 16 (by omega)
      rw [t1.out] at ht
      have hp2 : PgV (w1.alloc (.cells #[.slice A n c] 132)) pb sb S D := h2.upd (.alloc (fun _ => False) _ _) id fun _ _ => id
      have hU2 : Upd (At pb) w (w1.alloc (.cells #[.slice A n c] 132)) := hU1.then (.alloc _ _ _)
      replace hp2 := hide hp2
      replace hU2 := hide hU2
      clear hr h1 h2 ha hU1 hR0
      go_wp2_with fail
      refine ht.mono ?_
      rintro e w2 ⟨hUt, v2, rfl, ha2, hR2⟩
      have hp3 : PgV w2 pb sb S D := hp2.out.upd hUt (fun e => by omega) fun k hk e => by have := hold.out k hk; omega
      have hU3 : Upd (At pb) w w2 := hU2.out.trans hUt fun k hk e => by omega
      have hz2 := hU3.size
      have hcv := ha2.bytes.string (P := Tryz.prog) Tryz.underlying62 Tryz.underlying5 Tryz.underlying9
      replace hp3 := hide hp3
      replace hU3 := hide hU3
      replace hR2 := hide hR2
      obtain ⟨A2, c2, rfl, -⟩ := ha2
      clear hUt hp2 hU2 ht
      go_wp2_with fail
      refine (need_any _ _).mono ?_
      rintro e w' ⟨rfl, h, -⟩
      obtain rfl := h (by have hm' := hm.out; unfold magicL at hm'; simpa using hm')
      have ht := take_any hR2.out (by rw [List.length_drop]; have := hls.out; omega) 1 (by omega)
      rw [t2.out] at ht
      clear hcv
      go_wp2_with fail
      refine ht.mono ?_
      rintro e w3 ⟨hUt, v3, rfl, ha3, hR3⟩
      have hp4 : PgV w3 pb sb S D := hp3.out.upd hUt (fun e => by omega) fun k hk e => by have := hold.out k hk; omega
      have hU4 : Upd (At pb) w w3 := hU3.out.trans hUt fun k hk e => by omega
      obtain ⟨A3, c3, rfl, hc3, -, hx⟩ := ha3
      obtain ⟨b3, o3, rfl, hcell⟩ : ∃ b o, A3 = some ⟨b, o, none⟩ ∧ w3.cell? ⟨b, o, none⟩ = some (.int .u8 (l.getD 16 0).toNat) := by
        rcases hx with hx | ⟨b, o, rfl, _, hc⟩
        · cases hx
        · exact ⟨b, o, rfl, hc 0 _ rfl⟩
      generalize hq : (l.getD 16 0).toNat = q at hcell hb hm2
      have hl3 : (bv [l.getD 16 0]).length = 1 := rfl
      rw [hl3] at hc3 ⊢
      replace hp4 := hide hp4
      replace hU4 := hide hU4
      replace hq := hide hq
      clear hUt ht hx hR3
      go_wp2_with fail
      refine (need_any _ _).mono ?_
      rintro e w' ⟨rfl, -, h⟩
      obtain ⟨pv, rfl⟩ := h (by have := hm2.out; simp; omega)
      go_wp2_with fail
      refine ⟨rfl, ?_⟩
      unfold markP
      rw [if_pos hm.out, hq.out, if_neg hm2.out]
      exact ⟨hp4.out, hU4.out, _, rfl⟩
  · replace hm := hide hm
    go_enter Tryz.func70, Tryz.ntmps70
    go_wp2_with fail
    refine hr.mono ?_
    rintro e w1 ⟨v1, rfl, h1, h2, hU1⟩
    have ha := h1.arg.mono' h1.arg
    have hz1 := hU1.size
    obtain ⟨A, n, c, rfl⟩ := h1.slice
    have hR0 := RdV.made ha (fun k hk => hk.2)
    have ht := take_any hR0 (by have := hls.out; omega) 16 (by omega)
    rw [t1.out] at ht
    have hp2 : PgV (w1.alloc (.cells #[.slice A n c] 132)) pb sb S D := h2.upd (.alloc (fun _ => False) _ _) id fun _ _ => id
    have hU2 : Upd (At pb) w (w1.alloc (.cells #[.slice A n c] 132)) := hU1.then (.alloc _ _ _)
    replace hp2 := hide hp2
    replace hU2 := hide hU2
    clear hr h1 h2 ha hU1 hR0
    go_wp2_with fail
    refine ht.mono ?_
    rintro e w2 ⟨hUt, v2, rfl, ha2, hR2⟩
    have hp3 : PgV w2 pb sb S D := hp2.out.upd hUt (fun e => by omega) fun k hk e => by have := hold.out k hk; omega
    have hU3 : Upd (At pb) w w2 := hU2.out.trans hUt fun k hk e => by omega
    have hz2 := hU3.size
    have hcv := ha2.bytes.string (P := Tryz.prog) Tryz.underlying62 Tryz.underlying5 Tryz.underlying9
    replace hp3 := hide hp3
    replace hU3 := hide hU3
    replace hR2 := hide hR2
    obtain ⟨A2, c2, rfl, -⟩ := ha2
    clear hUt hp2 hU2 ht
    go_wp2_with fail
    refine (need_any _ _).mono ?_
    rintro e w' ⟨rfl, -, h⟩
    obtain ⟨pv, rfl⟩ := h (by have hm' := hm.out; unfold magicL at hm'; simpa using hm')
    go_wp2_with fail
    refine ⟨rfl, ?_⟩
    unfold markP
    rw [if_neg hm.out]
    exact ⟨hp3.out, hU3.out, _, rfl⟩
end
end Go.Proofs.YtpnboihbifhigaaGreatDoor
/- Walks of wal: the slots. -/
namespace Go.Proofs.YtpnboihbifhigaaGreatDoor
open Go Go.RowKit
/-- An extent. -/
structure Ext where
  area : Nat
  bytes : Nat
  records : Nat
def extV (x : Ext) : Value := .agg #[.int .i64 x.area, .int .i64 x.bytes, .int .i64 x.records]
def slotBody (x : Ext) : List UInt8 := num4 x.area ++ num4 x.bytes ++ num4 x.records
def slotL (x : Ext) : List UInt8 := frame (slotBody x)
theorem slotL_len (x : Ext) : (slotL x).length = 20 := by unfold slotL; rw [frame_len]; simp [slotBody, num_len]
def Ext.ok (x : Ext) : Prop := x.area < 4294967296 ∧ x.bytes < 4294967296 ∧ x.records < 4294967296
section
variable {w : World} {pb sb : Nat} {S : Nat → Prop} {D : DS}
set_option maxRecDepth 100000 in
theorem writeSlot_any (h : PgV w pb sb S D) (hT : Tab w) (hpos : 1 < w.heap.size) (i : Nat) (hi : i ≤ 1) (hn3 : 3 ≤ D.n) (x : Ext) (hx : x.ok) : Calls Tryz.prog 76 #[.pointer (some ⟨pb, 0, none⟩), .int .i64 i, extV x] w fun e w' => e = .returned (.tuple #[]) ∧ ∃ S', PgV w' pb sb S' (D.write (1 + i) (pad D.size (slotL x))) ∧ Mv w (OO pb S) w' (OO pb S') := by
  have hs := h.disk.s1
  have hlt := h.lt
  have hsl := slotL_len x
  obtain ⟨a, b, r⟩ := x
  obtain ⟨hx1, hx2, hx3⟩ := hx
  simp only at hx1 hx2 hx3
  unfold extV
  simp only
  have hy : ((w.alloc (.cells #[.int .i64 a, .int .i64 b, .int .i64 r] 128)).alloc (.cells #[.int .i64 a, .int .i64 b, .int .i64 r] 3)).heap[w.heap.size + 1]? = some (.cells #[.int .i64 a, .int .i64 b, .int .i64 r] 3) := by
    have := heap_new (w.alloc (.cells #[.int .i64 a, .int .i64 b, .int .i64 r] 128)) (.cells #[.int .i64 a, .int .i64 b, .int .i64 r] 3)
    rwa [World.size_alloc] at this
  obtain ⟨w0, hw0⟩ : ∃ w0, w0 = (w.alloc (.cells #[.int .i64 a, .int .i64 b, .int .i64 r] 128)).alloc (.cells #[.int .i64 a, .int .i64 b, .int .i64 r] 3) := ⟨_, rfl⟩
  have z0 : w0.heap.size = w.heap.size + 2 := by rw [hw0]; simp
  have hB0 : Below w.heap.size w w0 := by rw [hw0]; exact ((Below.refl _ w).alloc (Nat.le_refl _) _).alloc (by simp) _
  rw [← hw0] at hy
  have h0 := hide (RowB.nil_ w0 (w.heap.size + 2))
  have m0 := hide (Mv.refl w0 (Own (.slice none 0 0)))
  have y0 := hide hy
  have s0 : w.heap.size + 2 ≤ w0.heap.size := by omega
  replace h := hide h
  replace hT := hide hT
  replace hB0 := hide hB0
  replace hsl := hide hsl
  replace hs := hide hs
  clear z0
  go_enter Tryz.func76, Tryz.ntmps76
  go_wp2_with fail
  rw [← hw0]
  replace hw0 := hide hw0
  refine wp_loop_rounds 4 ?_
  have d0 : w0.cell? ⟨w.heap.size + 1, 0, none⟩ = some (.int .i64 a) := by rw [cell_at y0.out]; rfl
  rw [rounds_succ]
  go_wp2_with fail
  refine (appendNumber_any h0.out (by simp) s0 a hx1).mono ?_
  rintro e w1 ⟨v1, rfl, h1, m⟩
  have y1 := m.1.heap y0.out (fun ho => by have := (h0.out.own_ge ho).1; omega)
  have s1 := Nat.le_trans s0 m.1.size
  replace m := m0.out.trans m
  obtain ⟨A1, n1, c1, rfl⟩ := h1.slice
  have m1 := hide m
  replace h1 := hide h1
  replace y1 := hide y1
  clear d0 m
  go_wp2_with fail
  have d1 : w1.cell? ⟨w.heap.size + 1, 1, none⟩ = some (.int .i64 b) := by rw [cell_at y1.out]; rfl
  rw [rounds_succ]
  go_wp2_with fail
  refine (appendNumber_any h1.out (by simp [num_len]) s1 b hx2).mono ?_
  rintro e w2 ⟨v2, rfl, h2, m⟩
  have y2 := m.1.heap y1.out (fun ho => by have := (h1.out.own_ge ho).1; omega)
  have s2 := Nat.le_trans s1 m.1.size
  replace m := m1.out.trans m
  obtain ⟨A2, n2, c2, rfl⟩ := h2.slice
  have m2 := hide m
  replace h2 := hide h2
  replace y2 := hide y2
  clear d1 m
  go_wp2_with fail
  have d2 : w2.cell? ⟨w.heap.size + 1, 2, none⟩ = some (.int .i64 r) := by rw [cell_at y2.out]; rfl
  rw [rounds_succ]
  go_wp2_with fail
  refine (appendNumber_any h2.out (by simp [num_len]) s2 r hx3).mono ?_
  rintro e w3 ⟨v3, rfl, h3, m⟩
  have y3 := m.1.heap y2.out (fun ho => by have := (h2.out.own_ge ho).1; omega)
  have s3 := Nat.le_trans s2 m.1.size
  replace m := m2.out.trans m
  obtain ⟨A3, n3, c3, rfl⟩ := h3.slice
  have m3 := hide m
  replace h3 := hide h3
  replace y3 := hide y3
  clear d2 m
  go_wp2_with fail
  rw [rounds_succ]
  go_wp2_with fail
  have hU3 : Upd (fun _ => False) w w3 := ((Upd.of_below _ hB0.out).then (m3.out.1.mono fun k _ hk => by cases hk))
  have h4 := h.out.upd hU3 id fun _ _ => id
  have hT3 := hT.out.upd hU3 id
  have hrow : RowB w3 (w.heap.size + 2) (.slice A3 n3 c3) (slotBody ⟨a, b, r⟩) := by have := h3.out; simpa [slotBody] using this
  have hap := appendFrame_any (RowB.nil_ w3 w3.heap.size) (Nat.le_refl _) hrow.arg (hrow.nonNil (by simp [slotBody, num_len])) (fun k _ ho => by cases ho) hT3 (by omega) (by simp) (by simp [slotBody, num_len])
  have hz3 := hU3.size
  replace hU3 := hide hU3
  replace h4 := hide h4
  clear hT3 hrow
  refine hap.mono ?_
  rintro e w5 ⟨v5, rfl, h5, m5⟩
  have hU5 : Upd (fun _ => False) w3 w5 := m5.1.mono fun k _ hk => by cases hk
  have h6 := h4.out.upd hU5 id fun _ _ => id
  rw [List.nil_append] at h5
  have hw := pwrite_any h6 (1 + i) (by omega) h5.arg (by show (slotL ⟨a, b, r⟩).length ≤ D.size; have := hs.out; rw [hsl.out]; omega)
  obtain ⟨A5, n5, c5, rfl⟩ := h5.slice
  have hz5 := hU5.size
  replace hU5 := hide hU5
  replace h5 := hide h5
  replace h6 := hide h6
  clear m5 hap
  go_wp2_with fail
  refine hw.mono ?_
  rintro e w7 ⟨rfl, S', h7, hM⟩
  replace h7 := hide h7
  replace hM := hide hM
  go_wp2_with fail
  go_end0
  exact ⟨rfl, S', h7.out, Mv.trans ⟨(hU3.out.then hU5.out).mono fun _ _ h => h.elim, fun _ => .inl⟩ hM.out⟩
def slotP (D : DS) (l : List UInt8) : Option Ext :=
  (frameP l).bind fun f => (numP f.1).bind fun a => (numP a.2).bind fun b => (numP b.2).bind fun c => if a.1 < 2 ∧ b.1 ≤ capN D then some ⟨a.1, b.1, c.1⟩ else none
theorem frameP_len {l rec r : List UInt8} (h : frameP l = some (rec, r)) : rec.length ≤ l.length := by
  unfold frameP at h
  cases h1 : takeP 4 l with
  | none => rw [h1] at h; cases h
  | some x =>
    rw [h1] at h
    simp only [Option.bind_some] at h
    cases h2 : numP x.2 with
    | none => rw [h2] at h; cases h
    | some y =>
      rw [h2] at h
      simp only [Option.bind_some] at h
      cases h3 : takeP (val4 x.1) y.2 with
      | none => rw [h3] at h; cases h
      | some z =>
        rw [h3] at h
        simp only [Option.bind_some] at h
        split at h
        · injection h with h
          subst h
          have e1 := (takeP_len (a := x.1) (r := x.2) h1).2
          have e3 : rec.length ≤ y.2.length := by
            unfold takeP at h3
            split at h3
            · injection h3 with h3
              injection h3 with h3 _
              rw [← h3, List.length_take]; omega
            · cases h3
          have e2 : y.2.length ≤ x.2.length := by
            unfold numP at h2
            cases h4 : takeP 4 x.2 with
            | none => rw [h4] at h2; cases h2
            | some z4 => rw [h4] at h2; injection h2 with h2; rw [← h2]; exact (takeP_len (a := z4.1) (r := z4.2) h4).2
          omega
        · cases h
theorem numP_len {l r : List UInt8} {n : Nat} (h : numP l = some (n, r)) : n < 4294967296 ∧ r.length ≤ l.length := by
  unfold numP at h
  cases h4 : takeP 4 l with
  | none => rw [h4] at h; cases h
  | some z4 =>
    rw [h4] at h
    injection h with h
    injection h with h1 h2
    rw [← h1, ← h2]
    exact ⟨val_lt _, (takeP_len (a := z4.1) (r := z4.2) h4).2⟩
end
end Go.Proofs.YtpnboihbifhigaaGreatDoor
