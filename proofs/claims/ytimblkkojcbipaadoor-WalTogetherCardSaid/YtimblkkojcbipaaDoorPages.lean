/- Walks of pages: a disk, and its first error. -/
import Derived.Test.YtimblkkojcbipaaDoorOps
import Derived.Test.YtimblkkojcbipaaDoorRepeat
import Derived.Test.YtimblkkojcbipaaDoorTake
namespace Go.Proofs.YtimblkkojcbipaaDoor
open Go Go.RowKit
def errOf (D : DS) : Int := if D.dead then 32 else 0
abbrev OO (pb : Nat) (S : Nat → Prop) : Nat → Prop := fun k => k = pb ∨ S k
/-- The pages at block pb, of the disk at sb. -/
structure PgV (w : World) (pb sb : Nat) (S : Nat → Prop) (D : DS) : Prop where
  head : w.heap[pb]? = some (.cells #[.pointer (some ⟨sb, 0, none⟩), .int .i64 (errOf D)] 67)
  disk : DiskV w sb S D
  ne : ¬ S pb
/-- The same, the disk's map in block mb. -/
structure PgM (w : World) (pb sb mb : Nat) (S : Nat → Prop) (D : DS) : Prop where
  head : w.heap[pb]? = some (.cells #[.pointer (some ⟨sb, 0, none⟩), .int .i64 (errOf D)] 67)
  disk : DiskM w sb mb S D
  ne : ¬ S pb
theorem PgM.toV {w : World} {S : Nat → Prop} {pb sb mb : Nat} {D : DS} (h : PgM w pb sb mb S D) : PgV w pb sb S D := ⟨h.head, h.disk.toV, h.ne⟩
theorem PgV.toM {w : World} {S : Nat → Prop} {pb sb : Nat} {D : DS} (h : PgV w pb sb S D) : ∃ mb, PgM w pb sb mb S D ∧ mb < w.heap.size := by
  obtain ⟨mb, hm, hl⟩ := h.disk.toM
  exact ⟨mb, ⟨h.head, hm, h.ne⟩, hl⟩
theorem PgM.upd {w w' : World} {F S : Nat → Prop} {pb sb mb : Nat} {D : DS} (h : PgM w pb sb mb S D) (hu : Upd F w w') (hp : ¬ F pb) (hS : ∀ k, S k → ¬ F k) : PgM w' pb sb mb S D :=
  ⟨hu.heap h.head hp, h.disk.upd hu hS, h.ne⟩
theorem PgM.walk {w w' : World} {row : Option Nat} {S : Nat → Prop} {pb sb mb : Nat} {D : DS} (h : PgM w pb sb mb S D) (hg : w.grownBy w' row) (hr : ∀ r, row = some r → r ≠ mb ∧ ∃ o : Obj, w.heap[r]? = some o ∧ o.isCells = false) : PgM w' pb sb mb S D := by
  refine ⟨(hg.block pb (Array.getElem?_eq_some_iff.1 h.head).1 fun e => ?_).trans h.head, h.disk.walk hg hr, h.ne⟩
  obtain ⟨_, o, ho, hc⟩ := hr pb e.symm
  rw [h.head] at ho
  injection ho with ho
  rw [← ho] at hc
  cases hc
theorem PgV.upd {w w' : World} {F S : Nat → Prop} {pb sb : Nat} {D : DS} (h : PgV w pb sb S D) (hu : Upd F w w') (hp : ¬ F pb) (hS : ∀ k, S k → ¬ F k) : PgV w' pb sb S D :=
  ⟨hu.heap h.head hp, h.disk.upd hu hS, h.ne⟩
theorem PgV.lt {w : World} {S : Nat → Prop} {pb sb : Nat} {D : DS} (h : PgV w pb sb S D) : pb < w.heap.size := (Array.getElem?_eq_some_iff.1 h.head).1
theorem PgV.c0 {w : World} {S : Nat → Prop} {pb sb : Nat} {D : DS} (h : PgV w pb sb S D) : w.cell? ⟨pb, 0, none⟩ = some (.pointer (some ⟨sb, 0, none⟩)) := by rw [cell_at h.head]; rfl
theorem PgV.c1 {w : World} {S : Nat → Prop} {pb sb : Nat} {D : DS} (h : PgV w pb sb S D) : w.cell? ⟨pb, 1, none⟩ = some (.int .i64 (errOf D)) := by rw [cell_at h.head]; rfl
theorem sizeV {w : World} {S : Nat → Prop} {sb : Nat} {D : DS} (h : DiskV w sb S D) : Calls Tryd.prog 29 #[.pointer (some ⟨sb, 0, none⟩)] w fun e w' => e = .returned (.int .i64 D.size) ∧ w = w' := by
  obtain ⟨db, mb, cap, vs, g, R, h, rfl⟩ := h
  exact size_any h
theorem sectorsV {w : World} {S : Nat → Prop} {sb : Nat} {D : DS} (h : DiskV w sb S D) : Calls Tryd.prog 28 #[.pointer (some ⟨sb, 0, none⟩)] w fun e w' => e = .returned (.int .i64 D.n) ∧ w = w' := by
  obtain ⟨db, mb, cap, vs, g, R, h, rfl⟩ := h
  exact sectors_any h
theorem DiskV.s1 {w : World} {S : Nat → Prop} {sb : Nat} {D : DS} (h : DiskV w sb S D) : 64 ≤ D.size ∧ D.size ≤ 4096 := by
  obtain ⟨db, mb, cap, vs, g, R, h, rfl⟩ := h
  exact h.s1
theorem DiskV.n1 {w : World} {S : Nat → Prop} {sb : Nat} {D : DS} (h : DiskV w sb S D) : 1 ≤ D.n ∧ D.n ≤ 4096 := by
  obtain ⟨db, mb, cap, vs, g, R, h, rfl⟩ := h
  exact h.n1
def pad (n : Nat) (l : List UInt8) : List UInt8 := l ++ List.replicate (n - l.length) 0
theorem pad_len (n : Nat) (l : List UInt8) (h : l.length ≤ n) : (pad n l).length = n := by simp [pad]; omega
theorem splice_pad (n : Nat) (l : List UInt8) : splice (bv (List.replicate n 0)) 0 (bv l) = bv (pad n l) := by
  unfold splice pad bv
  simp
theorem bv_one (l : List UInt8) : ∀ v ∈ bv l, v.oneCell' = true := by
  intro v hv
  unfold bv at hv
  rw [List.mem_map] at hv
  obtain ⟨b, _, rfl⟩ := hv
  rfl
theorem DS.write_dead {D : DS} (h : D.dead = true) (i : Nat) (l : List UInt8) : D.write i l = D := by unfold DS.write; rw [DS.draw_dead h, h]; rfl
theorem DS.flush_dead {D : DS} (h : D.dead = true) : D.flush = D := by unfold DS.flush; rw [DS.draw_dead h, h]; rfl
theorem DS.write_n (D : DS) (i : Nat) (l : List UInt8) : (D.write i l).n = D.n := by unfold DS.write; split <;> simp [DS.draw_n]
theorem DS.write_size (D : DS) (i : Nat) (l : List UInt8) : (D.write i l).size = D.size := by unfold DS.write; split <;> simp [DS.draw_size]
theorem DS.flush_n (D : DS) : D.flush.n = D.n := by unfold DS.flush; split <;> simp [DS.draw_n]
theorem DS.flush_size (D : DS) : D.flush.size = D.size := by unfold DS.flush; split <;> simp [DS.draw_size]

section
variable {w : World} {pb sb : Nat} {S : Nat → Prop} {D : DS}
theorem pread_any (h : PgV w pb sb S D) (hd : D.dead = false) (i : Nat) (hi : i < D.n) : Calls Tryd.prog 66 #[.pointer (some ⟨pb, 0, none⟩), .int .i64 i] w fun e w' => ∃ v', e = .returned v' ∧ RowB w' w.heap.size v' (D.last i) ∧ PgV w' pb sb S D ∧ Upd (At pb) w w' := by
  have c0 := h.c0
  have c1 := h.c1
  have he : errOf D = 0 := by unfold errOf; rw [hd]; rfl
  rw [he] at c1
  have hr := read_any h.disk hd i hi
  replace h := hide h
  replace he := hide he
  clear hd
  go_enter Tryd.func66, Tryd.ntmps66
  go_wp2_with fail
  refine hr.mono ?_
  rintro e w1 ⟨v', rfl, h1, h2⟩
  have hU1 : Upd (At pb) w w1 := .of_below _ h2
  have h3 := h.out.upd (.of_below (fun _ => False) h2) id fun _ _ => id
  have d1 : w1.cell? ⟨pb, 1, none⟩ = some (.int .i64 (errOf D)) := by rw [cell_at h3.head]; rfl
  rw [he.out] at d1
  have f1 := frozen_at h3.head 1
  replace h1 := hide h1
  replace h3 := hide h3
  replace hU1 := hide hU1
  clear h2 hr
  go_wp2_with fail
  go_ret
  have hU2 : Upd (At pb) w1 (w1.setCell ⟨pb, 1, none⟩ (.int .i64 0)) := .set (F := At pb) _ (a := ⟨pb, 1, none⟩) rfl _
  refine ⟨_, rfl, h1.out.upd hU2 (fun k hk e => by have := (h1.out.own_ge hk).1; have := h.out.lt; omega), ⟨?_, h3.out.disk.upd hU2 fun k hk e => h.out.ne (e ▸ hk), h.out.ne⟩, hU1.out.then hU2⟩
  rw [heap_set h3.out.head]
  rw [he.out]
  rfl
set_option maxRecDepth 100000 in
theorem pflush_any (h : PgV w pb sb S D) : Calls Tryd.prog 32 #[.pointer (some ⟨pb, 0, none⟩)] w fun e w' => e = .returned (.tuple #[]) ∧ ∃ S', PgV w' pb sb S' D.flush ∧ Mv w (OO pb S) w' (OO pb S') := by
  have c0 := h.c0
  have c1 := h.c1
  have hf := flush_any h.disk
  cases hd : D.dead
  · have he : errOf D = 0 := by unfold errOf; rw [hd]; rfl
    rw [he] at c1
    replace h := hide h
    replace he := hide he
    clear hd
    go_enter Tryd.func32, Tryd.ntmps32
    go_wp2_with fail
    refine hf.mono ?_
    rintro e w1 ⟨rfl, S', hD1, hM⟩
    have hpS : ¬ S' pb := fun hp => (hM.2 _ hp).elim h.out.ne (fun e => by have := h.out.lt; omega)
    have hh1 := hM.1.heap h.out.head h.out.ne
    have d1 : w1.cell? ⟨pb, 1, none⟩ = some (.int .i64 (errOf D)) := by rw [cell_at hh1]; rfl
    rw [he.out] at d1
    have f1 := frozen_at hh1 1
    replace hD1 := hide hD1
    replace hM := hide hM
    replace hpS := hide hpS
    replace hh1 := hide hh1
    clear hf
    obtain ⟨z, hz⟩ : ∃ z, z = (if D.flush.dead = true then (32 : Int) else 0) := ⟨_, rfl⟩
    rw [← hz]
    replace hz := hide hz
    go_wp2_with fail
    go_end0
    have hU2 : Upd (At pb) w1 (w1.setCell ⟨pb, 1, none⟩ (.int .i64 z)) := .set (F := At pb) _ (a := ⟨pb, 1, none⟩) rfl _
    refine ⟨rfl, S', ⟨?_, hD1.out.upd hU2 fun k hk e => hpS.out (e ▸ hk), hpS.out⟩, ?_⟩
    · rw [heap_set hh1.out]
      rw [hz.out]
      rfl
    · exact ⟨(hM.out.1.mono fun k _ hk => Or.inr hk).then (hU2.mono fun k _ e => Or.inl e), fun k hk => hk.elim (fun e => .inl (.inl e)) fun hk => (hM.out.2 k hk).imp .inr id⟩
  · have he : errOf D = 32 := by unfold errOf; rw [hd]; rfl
    rw [he] at c1
    rw [DS.flush_dead hd]
    clear hf he hd
    replace h := hide h
    go_enter Tryd.func32, Tryd.ntmps32
    go_wp2_with fail
    go_end0
    exact ⟨rfl, S, h.out, .refl _ _⟩
set_option maxRecDepth 100000 in
theorem pwrite_anyM {mb : Nat} (h : PgM w pb sb mb S D) (i : Nat) (hi : i < D.n) {T : Nat → Prop} {u : Value} {l : List UInt8} (hu : ArgV w T u (bv l)) (hl : l.length ≤ D.size) :
    Calls Tryd.prog 49 #[.pointer (some ⟨pb, 0, none⟩), .int .i64 i, u] w fun e w' => e = .returned (.tuple #[]) ∧ ∃ S', PgM w' pb sb mb S' (D.write i (pad D.size l)) ∧ Mv w (OO pb S) w' (OO pb S') := by
  have c0 := h.toV.c0
  have c1 := h.toV.c1
  have hsz := sizeV h.disk.toV
  have hs := h.disk.toV.s1
  have hpl := h.toV.lt
  cases hd : D.dead
  · have he : errOf D = 0 := by unfold errOf; rw [hd]; rfl
    rw [he] at c1
    have hmk := run_make_row' (P := Tryd.prog) 34 5 (.int .u8 0) 1 Tryd.underlying34 byte_info rfl .i64 .i64 D.size (by omega) (by omega)
    obtain ⟨A, c, rfl, hc1, hc2, hcells⟩ := hu
    rw [bv_len] at hc1 ⊢
    replace h := hide h
    replace he := hide he
    replace hcells := hide hcells
    clear hd
    go_enter Tryd.func49, Tryd.ntmps49
    go_wp2_with fail
    refine hsz.mono ?_
    rintro e w' ⟨rfl, rfl⟩
    go_wp2_with (with_reducible refine wpList_copy_splice rfl (.tmp 20) (.tmp 21) 34 34 rfl 5 Tryd.underlying34 byte_size _ _ _ _ _ _ rfl rfl w.heap.size 0 (bv (List.replicate D.size 0)) 5 ?_ (bv l) ?_ ?_ ?_ ?_ w.heap.size w ?_ (Nat.le_refl _) ?_)
    · rw [heap_new, ← toList_madeCells_one_eq]
      unfold bv
      simp
    · rw [bv_len]; simp [Nat.min_eq_left hl]
    · intro hpos
      rcases hcells.out with h4 | ⟨b, o, rfl, hS, hc⟩
      · rw [h4] at hpos; simp at hpos
      · refine ⟨_, rfl, fun j v hj => ?_⟩
        rw [Go.WideShapes.add_plain]
        exact ((Below.refl w.heap.size w).alloc (Nat.le_refl _) _).cell (World.block_lt_of_cell? w _ (hc j v hj)) |>.trans (hc j v hj)
    · rw [bv_len, bv_len, List.length_replicate]; omega
    · exact bv_one l
    · exact (Below.refl _ _).alloc (Nat.le_refl _) _
    intro w1 hg1 hb1
    rw [splice_pad] at hg1
    have hlp := pad_len D.size l hl
    have hsb1 := hg1.out
    have hlt1 := (Array.getElem?_eq_some_iff.1 hsb1).1
    have hav : ArgV w1 (fun k => k = w.heap.size) (.slice (some ⟨w.heap.size, 0, none⟩) D.size D.size) (bv (pad D.size l)) := by
      refine ⟨_, D.size, by rw [bv_len, hlp], by rw [bv_len, hlp]; exact Nat.le_refl _, by unfold maxLen; omega, .inr ⟨w.heap.size, 0, rfl, rfl, fun j v hj => ?_⟩⟩
      rw [cell_at hsb1, Nat.zero_add]
      simpa using hj
    have hU1 : Upd (fun _ => False) w w1 := .of_below _ hb1
    have h1 := h.out.upd hU1 id fun _ _ => id
    have hwr := write_anyM h1.disk i hi hav (fun k hk hS => by have := h.out.disk.toV.old k hS; omega) hlp
    have d0 := h1.toV.c0
    have hz1 := hb1.size
    replace hav := hide hav
    replace h1 := hide h1
    replace hU1 := hide hU1
    clear hg1 hb1 hsb1 hmk hsz
    go_wp2_with fail
    refine hwr.mono ?_
    rintro e w2 ⟨rfl, S', hD2, hM⟩
    have hpS : ¬ S' pb := fun hp => (hM.2 _ hp).elim h.out.ne (fun e => by omega)
    have hh2 := hM.1.heap h1.out.head h.out.ne
    have d1 : w2.cell? ⟨pb, 1, none⟩ = some (.int .i64 (errOf D)) := by rw [cell_at hh2]; rfl
    rw [he.out] at d1
    have f1 := frozen_at hh2 1
    replace hD2 := hide hD2
    replace hM := hide hM
    replace hpS := hide hpS
    replace hh2 := hide hh2
    clear hwr
    obtain ⟨z, hz⟩ : ∃ z, z = (if (D.write i (pad D.size l)).dead = true then (32 : Int) else 0) := ⟨_, rfl⟩
    rw [← hz]
    replace hz := hide hz
    go_wp2_with fail
    go_end0
    have hU2 : Upd (At pb) w2 (w2.setCell ⟨pb, 1, none⟩ (.int .i64 z)) := .set (F := At pb) _ (a := ⟨pb, 1, none⟩) rfl _
    refine ⟨rfl, S', ⟨?_, hD2.out.upd hU2 fun k hk e => hpS.out (e ▸ hk), hpS.out⟩, ?_⟩
    · rw [heap_set hh2.out]
      rw [hz.out]
      rfl
    · exact ⟨((hU1.out.mono fun _ _ h => h.elim).then (hM.out.1.mono fun k _ hk => Or.inr hk)).then (hU2.mono fun k _ e => Or.inl e), fun k hk => hk.elim (fun e => .inl (.inl e)) fun hk => (hM.out.2 k hk).imp .inr fun h => Nat.le_trans hz1 h⟩
  · have he : errOf D = 32 := by unfold errOf; rw [hd]; rfl
    rw [he] at c1
    rw [DS.write_dead hd]
    clear hsz he hd
    replace h := hide h
    go_enter Tryd.func49, Tryd.ntmps49
    go_wp2_with fail
    go_end0
    exact ⟨rfl, S, h.out, .refl _ _⟩
theorem pwrite_any (h : PgV w pb sb S D) (i : Nat) (hi : i < D.n) {T : Nat → Prop} {u : Value} {l : List UInt8} (hu : ArgV w T u (bv l)) (hl : l.length ≤ D.size) :
    Calls Tryd.prog 49 #[.pointer (some ⟨pb, 0, none⟩), .int .i64 i, u] w fun e w' => e = .returned (.tuple #[]) ∧ ∃ S', PgV w' pb sb S' (D.write i (pad D.size l)) ∧ Mv w (OO pb S) w' (OO pb S') := by
  obtain ⟨mb, hm, _⟩ := h.toM
  exact (pwrite_anyM hm i hi hu hl).mono fun e w' ⟨h1, S', h2, h3⟩ => ⟨h1, S', h2.toV, h3⟩
end
end Go.Proofs.YtimblkkojcbipaaDoor
