/- Walks of wal: the slots. -/
import Derived.Test.YtimblkkojcbipaaDoorMark
namespace Go.Proofs.YtimblkkojcbipaaDoor
open Go Go.RowKit
/-- An extent. -/
structure Ext where
  area : Nat
  bytes : Nat
  records : Nat
def extV (x : Ext) : Value := .agg #[.int .i64 x.area, .int .i64 x.bytes, .int .i64 x.records]
def slotBody (x : Ext) : List UInt8 := num4 x.area ++ num4 x.bytes ++ num4 x.records
def slotL (x : Ext) : List UInt8 := frame (slotBody x)
theorem slotL_len (x : Ext) : (slotL x).length = 20 := by unfold slotL; rw [frame_len]; simp [slotBody, num_len]
def Ext.ok (x : Ext) : Prop := x.area < 4294967296 ∧ x.bytes < 4294967296 ∧ x.records < 4294967296
section
variable {w : World} {pb sb : Nat} {S : Nat → Prop} {D : DS}
set_option maxRecDepth 100000 in
theorem writeSlot_any (h : PgV w pb sb S D) (hT : Tab w) (hpos : 0 < w.heap.size) (i : Nat) (hi : i ≤ 1) (hn3 : 3 ≤ D.n) (x : Ext) (hx : x.ok) : Calls Tryd.prog 50 #[.pointer (some ⟨pb, 0, none⟩), .int .i64 i, extV x] w fun e w' => e = .returned (.tuple #[]) ∧ ∃ S', PgV w' pb sb S' (D.write (1 + i) (pad D.size (slotL x))) ∧ Mv w (OO pb S) w' (OO pb S') := by
  have hs := h.disk.s1
  have hlt := h.lt
  have hsl := slotL_len x
  obtain ⟨a, b, r⟩ := x
  obtain ⟨hx1, hx2, hx3⟩ := hx
  simp only at hx1 hx2 hx3
  unfold extV
  simp only
  have hy : ((w.alloc (.cells #[.int .i64 a, .int .i64 b, .int .i64 r] 73)).alloc (.cells #[.int .i64 a, .int .i64 b, .int .i64 r] 3)).heap[w.heap.size + 1]? = some (.cells #[.int .i64 a, .int .i64 b, .int .i64 r] 3) := by
    have := heap_new (w.alloc (.cells #[.int .i64 a, .int .i64 b, .int .i64 r] 73)) (.cells #[.int .i64 a, .int .i64 b, .int .i64 r] 3)
    rwa [World.size_alloc] at this
  obtain ⟨w0, hw0⟩ : ∃ w0, w0 = (w.alloc (.cells #[.int .i64 a, .int .i64 b, .int .i64 r] 73)).alloc (.cells #[.int .i64 a, .int .i64 b, .int .i64 r] 3) := ⟨_, rfl⟩
  have z0 : w0.heap.size = w.heap.size + 2 := by rw [hw0]; simp
  have hB0 : Below w.heap.size w w0 := by rw [hw0]; exact ((Below.refl _ w).alloc (Nat.le_refl _) _).alloc (by simp) _
  rw [← hw0] at hy
  have h0 := hide (RowB.nil_ w0 (w.heap.size + 2))
  have m0 := hide (Mv.refl w0 (Own (.slice none 0 0)))
  have y0 := hide hy
  have s0 : w.heap.size + 2 ≤ w0.heap.size := by omega
  replace h := hide h
  replace hT := hide hT
  replace hB0 := hide hB0
  replace hsl := hide hsl
  replace hs := hide hs
  clear z0
  go_enter Tryd.func50, Tryd.ntmps50
  go_wp2_with fail
  rw [← hw0]
  replace hw0 := hide hw0
  refine wp_loop_rounds 4 ?_
  have d0 : w0.cell? ⟨w.heap.size + 1, 0, none⟩ = some (.int .i64 a) := by rw [cell_at y0.out]; rfl
  rw [rounds_succ]
  go_wp2_with fail
  refine (appendNumber_any h0.out (by simp) s0 a hx1).mono ?_
  rintro e w1 ⟨v1, rfl, h1, m⟩
  have y1 := m.1.heap y0.out (fun ho => by have := (h0.out.own_ge ho).1; omega)
  have s1 := Nat.le_trans s0 m.1.size
  replace m := m0.out.trans m
  obtain ⟨A1, n1, c1, rfl⟩ := h1.slice
  have m1 := hide m
  replace h1 := hide h1
  replace y1 := hide y1
  clear d0 m
  go_wp2_with fail
  have d1 : w1.cell? ⟨w.heap.size + 1, 1, none⟩ = some (.int .i64 b) := by rw [cell_at y1.out]; rfl
  rw [rounds_succ]
  go_wp2_with fail
  refine (appendNumber_any h1.out (by simp [num_len]) s1 b hx2).mono ?_
  rintro e w2 ⟨v2, rfl, h2, m⟩
  have y2 := m.1.heap y1.out (fun ho => by have := (h1.out.own_ge ho).1; omega)
  have s2 := Nat.le_trans s1 m.1.size
  replace m := m1.out.trans m
  obtain ⟨A2, n2, c2, rfl⟩ := h2.slice
  have m2 := hide m
  replace h2 := hide h2
  replace y2 := hide y2
  clear d1 m
  go_wp2_with fail
  have d2 : w2.cell? ⟨w.heap.size + 1, 2, none⟩ = some (.int .i64 r) := by rw [cell_at y2.out]; rfl
  rw [rounds_succ]
  go_wp2_with fail
  refine (appendNumber_any h2.out (by simp [num_len]) s2 r hx3).mono ?_
  rintro e w3 ⟨v3, rfl, h3, m⟩
  have y3 := m.1.heap y2.out (fun ho => by have := (h2.out.own_ge ho).1; omega)
  have s3 := Nat.le_trans s2 m.1.size
  replace m := m2.out.trans m
  obtain ⟨A3, n3, c3, rfl⟩ := h3.slice
  have m3 := hide m
  replace h3 := hide h3
  replace y3 := hide y3
  clear d2 m
  go_wp2_with fail
  rw [rounds_succ]
  go_wp2_with fail
  have hU3 : Upd (fun _ => False) w w3 := ((Upd.of_below _ hB0.out).then (m3.out.1.mono fun k _ hk => by cases hk))
  have h4 := h.out.upd hU3 id fun _ _ => id
  have hT3 := hT.out.upd hU3 id
  have hrow : RowB w3 (w.heap.size + 2) (.slice A3 n3 c3) (slotBody ⟨a, b, r⟩) := by have := h3.out; simpa [slotBody] using this
  have hap := appendFrame_any (RowB.nil_ w3 w3.heap.size) (Nat.le_refl _) hrow.arg (hrow.nonNil (by simp [slotBody, num_len])) (fun k _ ho => by cases ho) hT3 (by omega) (by simp) (by simp [slotBody, num_len])
  have hz3 := hU3.size
  replace hU3 := hide hU3
  replace h4 := hide h4
  clear hT3 hrow
  refine hap.mono ?_
  rintro e w5 ⟨v5, rfl, h5, m5⟩
  have hU5 : Upd (fun _ => False) w3 w5 := m5.1.mono fun k _ hk => by cases hk
  have h6 := h4.out.upd hU5 id fun _ _ => id
  rw [List.nil_append] at h5
  have hw := pwrite_any h6 (1 + i) (by omega) h5.arg (by show (slotL ⟨a, b, r⟩).length ≤ D.size; have := hs.out; rw [hsl.out]; omega)
  obtain ⟨A5, n5, c5, rfl⟩ := h5.slice
  have hz5 := hU5.size
  replace hU5 := hide hU5
  replace h5 := hide h5
  replace h6 := hide h6
  clear m5 hap
  go_wp2_with fail
  refine hw.mono ?_
  rintro e w7 ⟨rfl, S', h7, hM⟩
  replace h7 := hide h7
  replace hM := hide hM
  go_wp2_with fail
  go_end0
  exact ⟨rfl, S', h7.out, Mv.trans ⟨(hU3.out.then hU5.out).mono fun _ _ h => h.elim, fun _ => .inl⟩ hM.out⟩
def slotP (D : DS) (l : List UInt8) : Option Ext :=
  (frameP l).bind fun f => (numP f.1).bind fun a => (numP a.2).bind fun b => (numP b.2).bind fun c => if a.1 < 2 ∧ b.1 ≤ capN D then some ⟨a.1, b.1, c.1⟩ else none
theorem frameP_len {l rec r : List UInt8} (h : frameP l = some (rec, r)) : rec.length ≤ l.length := by
  unfold frameP at h
  cases h1 : takeP 4 l with
  | none => rw [h1] at h; cases h
  | some x =>
    rw [h1] at h
    simp only [Option.bind_some] at h
    cases h2 : numP x.2 with
    | none => rw [h2] at h; cases h
    | some y =>
      rw [h2] at h
      simp only [Option.bind_some] at h
      cases h3 : takeP (val4 x.1) y.2 with
      | none => rw [h3] at h; cases h
      | some z =>
        rw [h3] at h
        simp only [Option.bind_some] at h
        split at h
        · injection h with h
          subst h
          have e1 := (takeP_len (a := x.1) (r := x.2) h1).2
          have e3 : rec.length ≤ y.2.length := by
            unfold takeP at h3
            split at h3
            · injection h3 with h3
              injection h3 with h3 _
              rw [← h3, List.length_take]; omega
            · cases h3
          have e2 : y.2.length ≤ x.2.length := by
            unfold numP at h2
            cases h4 : takeP 4 x.2 with
            | none => rw [h4] at h2; cases h2
            | some z4 => rw [h4] at h2; injection h2 with h2; rw [← h2]; exact (takeP_len (a := z4.1) (r := z4.2) h4).2
          omega
        · cases h
theorem numP_len {l r : List UInt8} {n : Nat} (h : numP l = some (n, r)) : n < 4294967296 ∧ r.length ≤ l.length := by
  unfold numP at h
  cases h4 : takeP 4 l with
  | none => rw [h4] at h; cases h
  | some z4 =>
    rw [h4] at h
    injection h with h
    injection h with h1 h2
    rw [← h1, ← h2]
    exact ⟨val_lt _, (takeP_len (a := z4.1) (r := z4.2) h4).2⟩
end
end Go.Proofs.YtimblkkojcbipaaDoor
