/- Part 13 of the walks (merged): Holds, New, PutHolds, Batch. -/
import Derived.Test.YtimblkkojcbipaaDoorY12
import Derived.Test.YtimblkkojcbipaaDoorY5
import Derived.Test.YtimblkkojcbipaaDoorY6
/- What a log is on a disk, and that it is found there. -/
namespace Go.Proofs.YtimblkkojcbipaaDoor
open Go Go.RowKit
open Sums (crc)
theorem takeP_app {n : Nat} {a t : List UInt8} (h : a.length = n) : takeP n (a ++ t) = some (a, t) := by
  subst h
  unfold takeP
  rw [if_pos (by simp)]
  simp
theorem numP_app {n : Nat} (t : List UInt8) (h : n < 4294967296) : numP (num4 n ++ t) = some (n, t) := by
  unfold numP
  rw [takeP_app (num_len n)]
  simp [val_num n h]
theorem frameP_app (r t : List UInt8) (h : r.length < 4294967296) : frameP (frame r ++ t) = some (r, t) := by
  unfold frameP frame
  rw [List.append_assoc, List.append_assoc, takeP_app (num_len _)]
  simp only [Option.bind_some]
  rw [numP_app _ (Sums.crc_lt _)]
  simp only [Option.bind_some]
  rw [val_num _ h, takeP_app rfl]
  simp
theorem recsP_app : ∀ (rs : List (List UInt8)) (t : List UInt8), (∀ r ∈ rs, r.length < 4294967296) → recsP rs.length (frames rs ++ t) = some (rs, t)
  | [], t, _ => rfl
  | r :: rs, t, h => by
    rw [frames_cons, List.append_assoc]
    unfold recsP
    rw [List.length_cons]
    simp only
    rw [frameP_app r _ (h r (by simp))]
    simp only [Option.bind_some]
    rw [recsP_app rs t fun r hr => h r (by simp [hr])]
    rfl
theorem mark_len (live : Nat) : (markL live).length = 17 := rfl
theorem markP_pre {l : List UInt8} {live : Nat} (hl : live ≤ 1) (h : l.take 17 = markL live) : markP l = some live := by
  have h1 : l = markL live ++ l.drop 17 := by rw [← h, List.take_append_drop]
  rw [h1]
  unfold markP markL
  rcases Nat.le_one_iff_eq_zero_or_eq_one.1 hl with rfl | rfl <;> rfl
theorem slotP_pre {D : DS} {x : Ext} {l : List UInt8} (ha : x.area ≤ 1) (hb : x.bytes ≤ capN D) (ho : x.ok) (h : l.take 20 = slotL x) : slotP D l = some x := by
  have h1 : l = slotL x ++ l.drop 20 := by rw [← h, List.take_append_drop]
  rw [h1]
  unfold slotP slotL
  rw [frameP_app _ _ (by simp [slotBody, num_len])]
  simp only [Option.bind_some]
  unfold slotBody
  rw [List.append_assoc, numP_app _ ho.1]
  simp only [Option.bind_some]
  rw [numP_app _ ho.2.1]
  simp only [Option.bind_some]
  rw [← List.append_nil (num4 x.records), numP_app _ ho.2.2]
  simp only [Option.bind_some]
  rw [if_pos ⟨by omega, hb⟩]
/-- The records rs lie where x tells. -/
structure Lies (D : DS) (x : Ext) (rs : List (List UInt8)) : Prop where
  area : x.area ≤ 1
  bytes : x.bytes = (frames rs).length
  fit : x.bytes ≤ capN D
  recs : x.records = rs.length
  each : ∀ r ∈ rs, r.length ≤ 1048576
  data : extL D x = frames rs
/-- The disk's form. -/
structure Fine (D : DS) : Prop where
  n1 : 16 ≤ D.n ∧ D.n ≤ 4096
  s1 : 128 ≤ D.size ∧ D.size ≤ 4096
  len : ∀ i, i < D.n → (D.last i).length = D.size
/-- The disk holds the records rs, told by the slot 'live'. -/
structure Holds (D : DS) (live : Nat) (x : Ext) (rs : List (List UInt8)) : Prop where
  fine : Fine D
  lies : Lies D x rs
  one : live ≤ 1
  mark : (D.last 0).take 17 = markL live
  slot : (D.last (1 + live)).take 20 = slotL x
theorem Fine.cap {D : DS} (h : Fine D) : capN D ≤ 8380416 := by
  have h1 := area_le h.n1.2
  have h2 : areaN D * D.size ≤ 2046 * 4096 := Nat.mul_le_mul h1 h.s1.2
  unfold capN
  omega
theorem count_le (rs : List (List UInt8)) : 8 * rs.length ≤ (frames rs).length := by
  induction rs with
  | nil => simp
  | cons r rs ih =>
    rw [frames_cons, List.length_append, frame_len, List.length_cons]
    omega
theorem Lies.ok {D : DS} {x : Ext} {rs : List (List UInt8)} (h : Lies D x rs) (hf : Fine D) : x.ok := by
  have h1 := hf.cap
  have h2 := count_le rs
  have h3 := h.fit
  have h4 := h.bytes
  have h5 := h.recs
  exact ⟨by have := h.area; omega, by omega, by omega⟩
theorem Holds.find {D : DS} {live : Nat} {x : Ext} {rs : List (List UInt8)} (h : Holds D live x rs) : findP D = some (live, x, rs) := by
  unfold findP
  rw [markP_pre h.one h.mark]
  simp only [Option.bind_some]
  rw [slotP_pre h.lies.area h.lies.fit (h.lies.ok h.fine) h.slot]
  simp only [Option.bind_some]
  rw [h.lies.data, h.lies.recs, ← List.append_nil (frames rs), recsP_app rs [] fun r hr => by have := h.lies.each r hr; omega]
  simp
theorem Holds.mark16 {D : DS} {live : Nat} {x : Ext} {rs : List (List UInt8)} (h : Holds D live x rs) : (D.last 0)[16]? = some (UInt8.ofNat live) := by
  have h1 : D.last 0 = markL live ++ (D.last 0).drop 17 := by rw [← h.mark, List.take_append_drop]
  rw [h1]
  unfold markL
  rfl
-- What is read from a disk that has power still.
theorem write_alive {D : DS} {i : Nat} {l : List UInt8} (h : (D.write i l).dead = false) : D.dead = false ∧ ∀ j, (D.write i l).last j = if j = i then l else D.last j := by
  unfold DS.write at h ⊢
  cases hd : D.draw.dead with
  | true => rw [hd] at h; simp only [if_true] at h; rw [hd] at h; cases h
  | false =>
    simp only [Bool.false_eq_true, if_false]
    refine ⟨?_, fun j => ?_⟩
    · cases hx : D.dead with
      | false => rfl
      | true => rw [DS.draw_dead hx, hx] at hd; cases hd
    · unfold DS.last setAt
      simp only [DS.draw_wr, DS.draw_dur]
      split <;> rfl
theorem flush_alive {D : DS} (h : D.flush.dead = false) : D.dead = false ∧ ∀ j, D.flush.last j = D.last j := by
  unfold DS.flush at h ⊢
  cases hd : D.draw.dead with
  | true => rw [hd] at h; simp only [if_true] at h; rw [hd] at h; cases h
  | false =>
    simp only [Bool.false_eq_true, if_false]
    refine ⟨?_, fun j => ?_⟩
    · cases hx : D.dead with
      | false => rfl
      | true => rw [DS.draw_dead hx, hx] at hd; cases hd
    · unfold DS.last
      simp only [DS.draw_wr, DS.draw_dur]
      rfl
theorem writesAt_alive : ∀ (cs : List (List UInt8)) (D : DS) (i : Nat), (writesAt D i cs).dead = false → D.dead = false ∧ ∀ j, (writesAt D i cs).last j = if i ≤ j then (match cs[j - i]? with | some c => pad D.size c | none => D.last j) else D.last j
  | [], D, i, h => ⟨h, fun j => by simp [writesAt]⟩
  | c :: cs, D, i, h => by
    obtain ⟨h1, h2⟩ := writesAt_alive cs _ _ h
    obtain ⟨h3, h4⟩ := write_alive h1
    refine ⟨h3, fun j => ?_⟩
    show (writesAt _ _ cs).last j = _
    rw [h2 j, DS.write_size, h4 j]
    rcases Nat.lt_trichotomy i j with hlt | rfl | hgt
    · rw [if_pos (show i + 1 ≤ j by omega), if_neg (show ¬ j = i by omega), if_pos (show i ≤ j by omega), show j - i = (j - (i + 1)) + 1 by omega, List.getElem?_cons_succ]
    · rw [if_neg (show ¬ i + 1 ≤ i by omega), if_pos rfl, if_pos (Nat.le_refl _), Nat.sub_self]
      rfl
    · rw [if_neg (show ¬ i + 1 ≤ j by omega), if_neg (show ¬ j = i by omega), if_neg (show ¬ i ≤ j by omega)]
-- The bytes of sectors, behind chunks that were written.
theorem chunk_pad {n : Nat} (hn : 1 ≤ n) : ∀ (m : Nat) (l : List UInt8), l.length ≤ m * n → ∃ z, ((chunkL n l).map (pad n)).flatten = l ++ z
  | 0, l, h => by
    obtain rfl : l = [] := List.length_eq_zero_iff.1 (by omega)
    exact ⟨[], by rw [chunkL_nil]; rfl⟩
  | m + 1, l, h => by
    rcases Nat.eq_zero_or_pos l.length with h0 | h0
    · obtain rfl : l = [] := List.length_eq_zero_iff.1 h0
      exact ⟨[], by rw [chunkL_nil]; rfl⟩
    · rw [chunkL_cons hn h0, List.map_cons, List.flatten_cons]
      rcases Nat.le_total l.length n with h1 | h1
      · rw [List.drop_eq_nil_of_le h1, chunkL_nil, List.take_of_length_le h1]
        exact ⟨List.replicate (n - l.length) 0, by simp [pad]⟩
      · obtain ⟨z, hz⟩ := chunk_pad hn m (l.drop n) (by rw [List.length_drop]; rw [Nat.succ_mul] at h; omega)
        have hp : pad n (l.take n) = l.take n := by
          unfold pad
          rw [List.length_take, Nat.min_eq_left h1, Nat.sub_self]
          simp
        exact ⟨z, by rw [hz, hp, ← List.append_assoc, List.take_append_drop]⟩
theorem flat_range (g : Nat → List UInt8) (a k : Nat) : (List.range (a + k)).flatMap g = (List.range a).flatMap g ++ (List.range k).flatMap fun j => g (a + j) := by
  induction k with
  | zero => simp
  | succ k ih => rw [← Nat.add_assoc, List.range_succ, List.flatMap_append, ih, List.range_succ, List.flatMap_append]; simp
theorem flat_congr {g g' : Nat → List UInt8} {k : Nat} (h : ∀ j, j < k → g j = g' j) : (List.range k).flatMap g = (List.range k).flatMap g' := by
  induction k with
  | zero => rfl
  | succ k ih => rw [List.range_succ, List.flatMap_append, List.flatMap_append, ih fun j hj => h j (by omega)]; simp [h k (by omega)]
theorem flat_list (cs : List (List UInt8)) : (List.range cs.length).flatMap (fun j => cs[j]?.getD []) = cs.flatten := by
  induction cs with
  | nil => rfl
  | cons c cs ih =>
    rw [List.length_cons, Nat.add_comm, flat_range]
    simp only [List.range_one, List.flatMap_cons, List.flatMap_nil, List.append_nil, List.getElem?_cons_zero, Option.getD_some, List.flatten_cons]
    rw [← ih]
    congr 1
    exact flat_congr fun j _ => by rw [Nat.add_comm, List.getElem?_cons_succ]
end Go.Proofs.YtimblkkojcbipaaDoor
/- Walks of the disk: New. -/
namespace Go.Proofs.YtimblkkojcbipaaDoor
open Go Go.RowKit
def DS.new (n s : Nat) : DS := { n := n, size := s, dur := fun _ => List.replicate s 0, wr := fun _ => none, dead := false, sched := false, left := 0 }
theorem bytes_info : (Tryd.prog.info? 5).map (fun i => (i.zero, i.size, i.bytes)) = some (some (.int .u8 0), 1, 1) := by kernel_rfl
theorem bv_zeros (s : Nat) : (bv (List.replicate s 0)).toArray = madeCells #[.int .u8 0] s := by
  rw [← toList_madeCells_one_eq]; simp [bv]
/-- A row of zeros that has just been made. -/
theorem zeros_arg (w : World) (s : Nat) (hs : s ≤ 4096) : ArgV (w.alloc (.cells (madeCells #[.int .u8 0] s) 5)) (fun k => k = w.heap.size) (.slice (some ⟨w.heap.size, 0, none⟩) s s) (bv (List.replicate s 0)) := by
  have e : (bv (List.replicate s 0)).length = s := by rw [bv_len, List.length_replicate]
  refine ⟨some ⟨w.heap.size, 0, none⟩, s, by rw [e], by rw [e]; exact Nat.le_refl _, by unfold maxLen; omega, .inr ⟨_, _, rfl, rfl, fun i u hi => ?_⟩⟩
  rw [cell_at (heap_new _ _), ← bv_zeros]
  simpa using hi
/-- The three parts of sectors. -/
def SecV (w : World) (B : Nat) (n s : Nat) (v : Value) : Prop :=
  ∃ db mb zb, v = .agg #[.int .i64 s, .slice (some ⟨db, 0, none⟩) n n, .map (some mb)] ∧ B ≤ db ∧ B ≤ mb ∧ B ≤ zb ∧
    w.heap[db]? = some (.cells (List.replicate n (.slice (some ⟨zb, 0, none⟩) s s)).toArray 34) ∧ w.heap[mb]? = some (.map #[] 0) ∧ w.heap[zb]? = some (.cells (bv (List.replicate s 0)).toArray 5)
set_option maxRecDepth 100000 in
theorem newSectors_any (w : World) (n s : Nat) (h1 : 1 ≤ n) (hn : n ≤ 4096) (hs : s ≤ 4096) :
    Calls Tryd.prog 27 #[.int .i64 n, .int .i64 s] w fun e w' => ∃ v, e = .returned v ∧ SecV w' w.heap.size n s v ∧ Below w.heap.size w w' := by
  have hmk := run_make_row' (P := Tryd.prog) 34 5 (.int .u8 0) 1 Tryd.underlying34 bytes_info rfl .i64 .i64 s (by omega) (by omega)
  have hmm := @run_makeMap Tryd.prog
  go_enter Tryd.func27, Tryd.ntmps27
  go_wp2_with fail
  obtain ⟨w0, hw0⟩ : ∃ w0, w0 = (((w.alloc (.cells #[.int .i64 0, .slice none 0 0, .map none] 45)).alloc (.cells (madeCells #[.int .u8 0] s) 5)).alloc (.cells #[.slice (some ⟨w.heap.size + 1, 0, none⟩) s s] 34)) := ⟨_, rfl⟩
  have z0 : w0.heap.size = w.heap.size + 3 := by rw [hw0]; simp
  have y1 : w0.heap[w.heap.size]? = some (.cells #[.int .i64 0, .slice none 0 0, .map none] 45) := by rw [hw0]; exact heap_old (heap_old (heap_new _ _) _) _
  have y2 : w0.heap[w.heap.size + 1]? = some (.cells (madeCells #[.int .u8 0] s) 5) := by
    rw [hw0]
    have := heap_new (w.alloc (.cells #[.int .i64 0, .slice none 0 0, .map none] 45)) (.cells (madeCells #[.int .u8 0] s) 5)
    rw [World.size_alloc] at this
    exact heap_old this _
  have y3 : w0.cell? ⟨w.heap.size + 1 + 1, 0, none⟩ = some (.slice (some ⟨w.heap.size + 1, 0, none⟩) s s) := by
    have := heap_new ((w.alloc (.cells #[.int .i64 0, .slice none 0 0, .map none] 45)).alloc (.cells (madeCells #[.int .u8 0] s) 5)) (.cells #[.slice (some ⟨w.heap.size + 1, 0, none⟩) s s] 34)
    rw [World.size_alloc, World.size_alloc, ← hw0] at this
    rw [cell_at this]; rfl
  have hb0 : Below w.heap.size w w0 := by rw [hw0]; exact (((Below.refl _ w).alloc (Nat.le_refl _) _).alloc (by simp) _).alloc (by simp; omega) _
  rw [← hw0]
  replace hw0 := hide hw0
  refine (repeat_any y3 ⟨_, _, _, rfl⟩ h1 hn).mono ?_
  rintro e w1 ⟨g, rfl, hg1, hg2, hg3⟩
  rw [z0] at hg1 hg3
  have x1 := (hg3.block w.heap.size (by omega)).trans y1
  have x2 := (hg3.block (w.heap.size + 1) (by omega)).trans y2
  have hb1 : Below w.heap.size w w1 := hb0.trans (hg3.mono (by omega))
  have xm := heap_old x1 (.map #[] 0)
  have a0 : (w1.alloc (.map #[] 0)).cell? ⟨w.heap.size, 0, none⟩ = some (.int .i64 0) := by rw [cell_at xm]; rfl
  have a1 : (w1.alloc (.map #[] 0)).cell? ⟨w.heap.size, 1, none⟩ = some (.slice none 0 0) := by rw [cell_at xm]; rfl
  have a2 : (w1.alloc (.map #[] 0)).cell? ⟨w.heap.size, 2, none⟩ = some (.map none) := by rw [cell_at xm]; rfl
  have b0 := frozen_at xm 0
  have b1 := frozen_at xm 1
  have b2 := frozen_at xm 2
  replace xm := hide xm
  have z1 : w.heap.size + 3 ≤ w1.heap.size := by have := hg3.size; omega
  replace hg2 := hide hg2
  replace hg3 := hide hg3
  replace hb0 := hide hb0
  replace hb1 := hide hb1
  replace x1 := hide x1
  replace x2 := hide x2
  replace y1 := hide y1
  replace y2 := hide y2
  clear y3 hmk z0
  replace z1 := hide z1
  go_wp2_with fail
  refine bodyPost_ret (v := .agg #[.int .i64 s, .slice (some ⟨g, 0, none⟩) n n, .map (some w1.heap.size)]) ?_ rfl ?_
  · simp [results, Tryd.results27, go_sem, a0, a1, a2]
  · have hzz := z1.out
    have hw1 : w.heap.size + 3 ≤ w1.heap.size := hzz
    have hU : Upd (fun k => k = w.heap.size) (w1.alloc (.map #[] 0)) ((((w1.alloc (.map #[] 0)).setCell ⟨w.heap.size, 0, none⟩ (.int .i64 s)).setCell ⟨w.heap.size, 1, none⟩ (.slice (some ⟨g, 0, none⟩) n n)).setCell ⟨w.heap.size, 2, none⟩ (.map (some w1.heap.size))) :=
      ((Upd.set (F := fun k => k = w.heap.size) _ (a := ⟨w.heap.size, 0, none⟩) rfl _).then (.set (F := fun k => k = w.heap.size) _ (a := ⟨w.heap.size, 1, none⟩) rfl _)).then (.set (F := fun k => k = w.heap.size) _ (a := ⟨w.heap.size, 2, none⟩) rfl _)
    refine ⟨_, rfl, ⟨g, w1.heap.size, w.heap.size + 1, rfl, by omega, by omega, by omega, ?_, ?_, ?_⟩, ?_⟩
    · exact hU.heap (heap_old hg2.out _) (by omega)
    · exact hU.heap (heap_new _ _) (by omega)
    · rw [bv_zeros]; exact hU.heap (heap_old x2.out _) (by omega)
    · exact (((Upd.of_below (fun k => k = w.heap.size) (hb1.out.alloc (by omega) (.map #[] 0))).then hU).below (Nat.le_refl _) fun k e => by omega)
set_option maxRecDepth 100000 in
theorem new_any (w : World) (n s : Nat) (h1 : 1 ≤ n) (hn : n ≤ 4096) (h2 : 64 ≤ s) (hs : s ≤ 4096) :
    Calls Tryd.prog 11 #[.int .i64 n, .int .i64 s] w fun e w' => ∃ sb S, e = .returned (.pointer (some ⟨sb, 0, none⟩)) ∧ DiskV w' sb S (DS.new n s) ∧ (∀ k, S k → w.heap.size ≤ k) ∧ Below w.heap.size w w' := by
  have hns := newSectors_any w n s h1 hn hs
  go_enter Tryd.func11, Tryd.ntmps11
  go_wp2_with fail
  refine hns.mono ?_
  rintro e w1 ⟨v, rfl, ⟨db, mb, zb, rfl, g1, g2, g3, g4, g5, g6⟩, hb⟩
  replace g4 := hide g4
  replace g5 := hide g5
  replace g6 := hide g6
  replace hb := hide hb
  go_wp2_with fail
  go_ret
  have l4 := (Array.getElem?_eq_some_iff.1 g4.out).1
  have l5 := (Array.getElem?_eq_some_iff.1 g5.out).1
  have l6 := (Array.getElem?_eq_some_iff.1 g6.out).1
  have hz := hb.out.size
  have n46 : zb ≠ db := fun e => by
    subst e
    have := g4.out.symm.trans g6.out
    injection this with this
    injection this with _ this
    exact absurd this (by decide)
  have n56 : zb ≠ mb := fun e => by subst e; have := g5.out.symm.trans g6.out; injection this with this; cases this
  have n45 : db ≠ mb := fun e => by subst e; have := g5.out.symm.trans g4.out; injection this with this; cases this
  have hlen : (List.replicate s (0 : UInt8)).length = s := by simp
  refine ⟨_, _, rfl, ⟨db, mb, n, (List.replicate n (Value.slice (some ⟨zb, 0, none⟩) s s)).toArray, fun _ => none, fun k => k = zb, ?_, rfl⟩, ?_, hb.out.alloc hz _⟩
  · exact {
      head := by rw [heap_new]; simp [DS.new]
      arr := heap_old g4.out _
      len := by simp [DS.new]
      cap := rfl
      map := MapV.empty _ (heap_old g5.out _)
      dur := fun i hi => by
        refine ⟨hlen, .slice (some ⟨zb, 0, none⟩) s s, by have hi2 : i < n := hi; simp [hi2], ⟨some ⟨zb, 0, none⟩, s, by rw [bv_len]; simp [DS.new], by rw [bv_len]; simp [DS.new], by unfold maxLen; omega, .inr ⟨zb, 0, rfl, rfl, fun i u hi => ?_⟩⟩⟩
        rw [cell_at (heap_old g6.out _)]
        simpa [DS.new] using hi
      wr := fun _ _ => trivial
      ne := ⟨by omega, by omega, by omega, by omega, by omega, n45⟩
      old := fun k hk => by subst hk; exact ⟨_, _, _, heap_old g6.out _⟩
      n1 := ⟨h1, hn⟩
      s1 := ⟨h2, hs⟩
      l1 := Nat.zero_le _ }
  · rintro k (e | e | e | e) <;> omega
end Go.Proofs.YtimblkkojcbipaaDoor
/- What a put leaves, where there is power. -/
namespace Go.Proofs.YtimblkkojcbipaaDoor
open Go Go.RowKit
theorem take_two {P Q R : List UInt8} {n : Nat} (h : n = P.length + Q.length) : (P ++ Q ++ R).take n = P ++ Q := by
  subst h
  rw [← List.length_append, List.take_left']
  rfl
theorem secN_eq (D : DS) (a t : Nat) : secN D a t = 3 + a * areaN D + t / D.size := rfl
section
variable {D : DS} {y : Ext} {l : List UInt8}
/-- Where an extent ends. -/
theorem ext_end (hf : Fine D) (ha : y.area ≤ 1) (hb : y.bytes ≤ capN D) (hs : 0 < y.bytes % D.size) : y.bytes / D.size < areaN D ∧ secN D y.area y.bytes < D.n := by
  have h0 : 0 < D.size := by have := hf.s1; omega
  have hhi := area_hi ha hf.n1.1
  have h2 : y.bytes / D.size < areaN D := by
    rw [Nat.div_lt_iff_lt_mul h0]
    rcases Nat.lt_or_ge y.bytes (areaN D * D.size) with h3 | h3
    · exact h3
    · exfalso
      have h4 : y.bytes = areaN D * D.size := by unfold capN at hb; omega
      rw [h4, Nat.mul_mod_left] at hs
      omega
  exact ⟨h2, by rw [secN_eq]; omega⟩
theorem ext_part (hf : Fine D) (ha : y.area ≤ 1) (hb : y.bytes ≤ capN D) : extL D y = bytesOf D y.area (y.bytes / D.size) ++ (D.last (secN D y.area y.bytes)).take (y.bytes % D.size) := by
  have h0 : 0 < D.size := by have := hf.s1; omega
  have hhi := area_hi ha hf.n1.1
  have hdm := Nat.div_add_mod y.bytes D.size
  have hq : y.bytes / D.size ≤ areaN D := by
    rw [Nat.div_le_iff_le_mul_add_pred h0]
    unfold capN at hb
    rw [Nat.mul_comm] at hb
    omega
  have hPl := bytesOf_len D y.area hf.len (y.bytes / D.size) (by omega)
  unfold extL
  rcases Nat.eq_zero_or_pos (y.bytes % D.size) with hs | hs
  · obtain ⟨t, ht⟩ := bytesOf_pre D y.area hq
    rw [ht, hs, List.take_zero, List.append_nil, List.take_left']
    rw [hPl, Nat.mul_comm]
    omega
  · obtain ⟨hlt, hin⟩ := ext_end hf ha hb hs
    obtain ⟨t, ht⟩ := bytesOf_pre D y.area (show y.bytes / D.size + 1 ≤ areaN D by omega)
    rw [ht, bytesOf_succ, ← secN_eq]
    have hgl := hf.len _ hin
    have hml := Nat.mod_lt y.bytes h0
    conv => lhs; rw [← List.take_append_drop (y.bytes % D.size) (D.last (secN D y.area y.bytes)), ← List.append_assoc, List.append_assoc]
    refine take_two ?_
    rw [hPl, List.length_take, Nat.min_eq_left (by omega), Nat.mul_comm]
    omega
theorem extend_data (hf : Fine D) (ha : y.area ≤ 1) (hfit : y.bytes + l.length ≤ capN D) (r : Nat) (h : (D.extend y l).dead = false) : extL (D.extend y l) ⟨y.area, y.bytes + l.length, r⟩ = extL D y ++ l := by
  have h0 : 0 < D.size := by have := hf.s1; omega
  have hhi := area_hi ha hf.n1.1
  have hdm := Nat.div_add_mod y.bytes D.size
  have hml := Nat.mod_lt y.bytes h0
  have hq : y.bytes / D.size ≤ areaN D := by
    rw [Nat.div_le_iff_le_mul_add_pred h0]
    unfold capN at hfit
    rw [Nat.mul_comm] at hfit
    omega
  have hPl := bytesOf_len D y.area hf.len (y.bytes / D.size) (by omega)
  rw [ext_part hf ha (by omega), List.append_assoc]
  have hfe : extB D y l = (D.last (secN D y.area y.bytes)).take (y.bytes % D.size) ++ l := rfl
  rw [← hfe]
  have hfl : (extB D y l).length = y.bytes % D.size + l.length := by
    rw [hfe, List.length_append, List.length_take]
    rcases Nat.eq_zero_or_pos (y.bytes % D.size) with hs | hs
    · rw [hs]; simp
    · rw [hf.len _ (ext_end hf ha (by omega) hs).2, Nat.min_eq_left (by omega)]
  obtain ⟨q, hqe⟩ : ∃ q, q = y.bytes / D.size := ⟨_, rfl⟩
  have hi0 : secN D y.area y.bytes = 3 + y.area * areaN D + q := by rw [hqe]; rfl
  rw [← hqe] at hq hPl hdm ⊢
  obtain ⟨cs, hcs⟩ : ∃ cs, cs = chunkL D.size (extB D y l) := ⟨_, rfl⟩
  have hle : (extB D y l).length ≤ (areaN D - q) * D.size := by
    rw [hfl, Nat.sub_mul]
    unfold capN at hfit
    rw [Nat.mul_comm] at hdm
    omega
  have hm : cs.length ≤ areaN D - q := by rw [hcs]; exact chunkL_le D.size _ _ h0 hle
  obtain ⟨z, hz⟩ := chunk_pad h0 _ _ hle
  rw [← hcs] at hz
  obtain ⟨-, hw⟩ := writesAt_alive _ D _ h
  rw [← hcs] at hw
  have hna : areaN (D.extend y l) = areaN D := by unfold areaN DS.extend; rw [writesAt_n]
  unfold extL bytesOf
  simp only [hna]
  obtain ⟨R, hR⟩ : ∃ R, areaN D = q + cs.length + R := ⟨areaN D - q - cs.length, by omega⟩
  rw [hR, flat_range, flat_range]
  have e1 : (List.range q).flatMap (fun j => (D.extend y l).last (3 + y.area * areaN D + j)) = bytesOf D y.area q := by
    unfold bytesOf
    refine flat_congr fun j hj => ?_
    show (writesAt _ _ _).last _ = _
    rw [← hcs, hw, hi0, if_neg (by omega)]
  have e2 : (List.range cs.length).flatMap (fun j => (D.extend y l).last (3 + y.area * areaN D + (q + j))) = (cs.map (pad D.size)).flatten := by
    rw [← flat_list, List.length_map]
    refine flat_congr fun j hj => ?_
    show (writesAt _ _ _).last _ = _
    rw [← hcs, hw, hi0, if_pos (by omega), show 3 + y.area * areaN D + (q + j) - (3 + y.area * areaN D + q) = j by omega, List.getElem?_map, List.getElem?_eq_getElem hj]
    rfl
  rw [← hR, e1, e2, hz, ← List.append_assoc, List.append_assoc]
  refine take_two ?_
  rw [hPl, hfl, Nat.mul_comm]
  omega
end
theorem chunkL_mem {n : Nat} (hn : 1 ≤ n) : ∀ (m : Nat) (l : List UInt8), l.length ≤ m * n → ∀ c ∈ chunkL n l, c.length ≤ n
  | 0, l, h, c, hc => by
    obtain rfl : l = [] := List.length_eq_zero_iff.1 (by omega)
    rw [chunkL_nil] at hc
    cases hc
  | m + 1, l, h, c, hc => by
    rcases Nat.eq_zero_or_pos l.length with h0 | h0
    · obtain rfl : l = [] := List.length_eq_zero_iff.1 h0
      rw [chunkL_nil] at hc
      cases hc
    · rw [chunkL_cons hn h0] at hc
      rcases List.mem_cons.1 hc with rfl | hc
      · rw [List.length_take]; omega
      · exact chunkL_mem hn m _ (by rw [List.length_drop]; rw [Nat.succ_mul] at h; omega) c hc
theorem chunkL_mem' {n : Nat} (hn : 1 ≤ n) {l c : List UInt8} (hc : c ∈ chunkL n l) : c.length ≤ n := chunkL_mem hn l.length l (Nat.le_mul_of_pos_right _ hn) c hc
theorem pad_take {n : Nat} {l : List UInt8} : (pad n l).take l.length = l := by unfold pad; rw [List.take_left']; rfl
theorem extL_congr {D D' : DS} (x : Ext) (hn : D'.n = D.n) (h : ∀ j, 3 ≤ j → D'.last j = D.last j) : extL D' x = extL D x := by
  unfold extL bytesOf areaN
  rw [hn]
  congr 1
  exact flat_congr fun j _ => h _ (by omega)
theorem extend_n (D : DS) (y : Ext) (l : List UInt8) : (D.extend y l).n = D.n := writesAt_n _ _ _
theorem extend_size (D : DS) (y : Ext) (l : List UInt8) : (D.extend y l).size = D.size := writesAt_size _ _ _
theorem put_n (D : DS) (live : Nat) (y : Ext) (rs : List (List UInt8)) : (D.put live y rs).n = D.n := by unfold DS.put; simp only [DS.flush_n, DS.write_n, extend_n]
theorem put_size (D : DS) (live : Nat) (y : Ext) (rs : List (List UInt8)) : (D.put live y rs).size = D.size := by unfold DS.put; simp only [DS.flush_size, DS.write_size, extend_size]
theorem put_last {D : DS} {live : Nat} {y : Ext} {rs : List (List UInt8)} (h : (D.put live y rs).dead = false) :
    (D.extend y (frames rs)).dead = false ∧ ∀ j, (D.put live y rs).last j = if j = 0 then pad D.size (markL (1 - live)) else if j = 1 + (1 - live) then pad D.size (slotL (y.plus rs)) else (D.extend y (frames rs)).last j := by
  unfold DS.put at h ⊢
  obtain ⟨h1, e1⟩ := flush_alive h
  obtain ⟨h2, e2⟩ := write_alive h1
  obtain ⟨h3, e3⟩ := flush_alive h2
  obtain ⟨h4, e4⟩ := write_alive h3
  exact ⟨h4, fun j => by simp only [e1, e2, e3, e4]⟩
theorem extend_len {D : DS} (hf : Fine D) {y : Ext} {l : List UInt8} (h : (D.extend y l).dead = false) (j : Nat) (hj : j < D.n) : ((D.extend y l).last j).length = D.size := by
  have h0 : 1 ≤ D.size := by have := hf.s1; omega
  obtain ⟨-, hw⟩ := writesAt_alive _ D _ h
  show ((writesAt _ _ _).last j).length = _
  rw [hw]
  split
  · split
    · rename_i c hc
      exact pad_len _ _ (chunkL_mem' h0 (List.mem_of_getElem? hc))
    · exact hf.len j hj
  · exact hf.len j hj
theorem put_fine {D : DS} (hf : Fine D) {live : Nat} {y : Ext} {rs : List (List UInt8)} (h : (D.put live y rs).dead = false) : Fine (D.put live y rs) := by
  obtain ⟨h1, h2⟩ := put_last h
  have hs := hf.s1
  refine ⟨by rw [put_n]; exact hf.n1, by rw [put_size]; exact hf.s1, fun i hi => ?_⟩
  rw [put_n] at hi
  rw [put_size, h2]
  split
  · exact pad_len _ _ (by rw [mark_len]; omega)
  · split
    · exact pad_len _ _ (by rw [slotL_len]; omega)
    · exact extend_len hf h1 i hi
/-- A put behind records that lie there. -/
theorem put_holds {D : DS} (hf : Fine D) {live : Nat} {y : Ext} {rs0 rs : List (List UInt8)} (hy : Lies D y rs0) (heach : ∀ r ∈ rs, r.length ≤ 1048576) (hfit : y.bytes + (frames rs).length ≤ capN D) (h : (D.put live y rs).dead = false) :
    Holds (D.put live y rs) (1 - live) (y.plus rs) (rs0 ++ rs) := by
  obtain ⟨h1, h2⟩ := put_last h
  have hcap : capN (D.put live y rs) = capN D := by unfold capN areaN; rw [put_n, put_size]
  refine ⟨put_fine hf h, ⟨hy.area, ?_, by rw [hcap]; exact hfit, ?_, ?_, ?_⟩, by omega, ?_, ?_⟩
  · show y.bytes + _ = _
    rw [frames_append, List.length_append, hy.bytes]
  · show y.records + _ = _
    rw [List.length_append, hy.recs]
  · intro r hr
    rcases List.mem_append.1 hr with hr | hr
    · exact hy.each r hr
    · exact heach r hr
  · rw [frames_append, ← hy.data]
    have e := extend_data hf hy.area hfit (y.records + rs.length) h1
    rw [← e]
    exact extL_congr _ (by rw [put_n, extend_n]) fun j hj => by rw [h2, if_neg (by omega), if_neg (by omega)]
  · rw [h2, if_pos rfl, ← mark_len (1 - live)]
    exact pad_take
  · rw [h2, if_neg (by omega), if_pos rfl, ← slotL_len (y.plus rs)]
    exact pad_take
/-- No records, anywhere. -/
theorem lies_nil {D : DS} {a : Nat} (ha : a ≤ 1) : Lies D ⟨a, 0, 0⟩ [] := ⟨ha, rfl, Nat.zero_le _, rfl, (fun _ h => by cases h), (by unfold extL; rw [List.take_zero]; rfl)⟩
theorem flush_holds {D : DS} {live : Nat} {x : Ext} {rs : List (List UInt8)} (h : Holds D live x rs) (hd : D.flush.dead = false) : Holds D.flush live x rs := by
  obtain ⟨-, e⟩ := flush_alive hd
  have hcap : capN D.flush = capN D := by unfold capN areaN; rw [DS.flush_n, DS.flush_size]
  refine ⟨⟨by rw [DS.flush_n]; exact h.fine.n1, by rw [DS.flush_size]; exact h.fine.s1, fun i hi => ?_⟩, ⟨h.lies.area, h.lies.bytes, by rw [hcap]; exact h.lies.fit, h.lies.recs, h.lies.each, ?_⟩, h.one, by rw [e]; exact h.mark, by rw [e]; exact h.slot⟩
  · rw [DS.flush_n] at hi
    rw [DS.flush_size, e]
    exact h.fine.len i hi
  · rw [extL_congr x (DS.flush_n D) fun j _ => e j]
    exact h.lies.data
theorem format_last {D : DS} (h : D.format.dead = false) : D.dead = false ∧ ∀ j, D.format.last j = if j = 0 then pad D.size (markL 0) else if j = 1 then pad D.size (slotL ⟨0, 0, 0⟩) else D.last j := by
  unfold DS.format at h ⊢
  obtain ⟨h1, e1⟩ := write_alive h
  obtain ⟨h2, e2⟩ := flush_alive h1
  obtain ⟨h3, e3⟩ := write_alive h2
  obtain ⟨h4, e4⟩ := flush_alive h3
  obtain ⟨h5, e5⟩ := write_alive h4
  refine ⟨h5, fun j => ?_⟩
  simp only [e1, e2, e3, e4, e5]
  by_cases hj : j = 0
  · simp [hj]
  · simp [hj]
theorem format_n (D : DS) : D.format.n = D.n := by unfold DS.format; simp only [DS.flush_n, DS.write_n]
theorem format_size (D : DS) : D.format.size = D.size := by unfold DS.format; simp only [DS.flush_size, DS.write_size]
theorem format_holds {D : DS} (hf : Fine D) (h : D.format.dead = false) : Holds D.format 0 ⟨0, 0, 0⟩ [] := by
  obtain ⟨-, e⟩ := format_last h
  have hs := hf.s1
  refine ⟨⟨by rw [format_n]; exact hf.n1, by rw [format_size]; exact hf.s1, fun i hi => ?_⟩, lies_nil (Nat.zero_le _), Nat.zero_le _, ?_, ?_⟩
  · rw [format_n] at hi
    rw [format_size, e]
    split
    · exact pad_len _ _ (by rw [mark_len]; omega)
    · split
      · exact pad_len _ _ (by rw [slotL_len]; omega)
      · exact hf.len i hi
  · rw [e, if_pos rfl, ← mark_len 0]
    exact pad_take
  · rw [e, if_neg (by omega), if_pos rfl, ← slotL_len ⟨0, 0, 0⟩]
    exact pad_take
/-- Opening a disk, whatever lies on it, leaves a log there. -/
theorem opened_some {D : DS} {live : Nat} {x : Ext} {rs : List (List UInt8)} (h : Holds D live x rs) (hd : D.opened.dead = false) : openX D = (live, x, rs) ∧ Holds D.opened live x rs := by
  have hfi := h.find
  unfold openX
  unfold DS.opened at hd ⊢
  rw [hfi] at hd ⊢
  exact ⟨rfl, flush_holds h hd⟩
theorem opened_none {D : DS} (hf : Fine D) (hn : findP D = none) (hd : D.opened.dead = false) : openX D = (0, ⟨0, 0, 0⟩, []) ∧ Holds D.opened 0 ⟨0, 0, 0⟩ [] := by
  unfold openX
  unfold DS.opened at hd ⊢
  rw [hn] at hd ⊢
  exact ⟨rfl, flush_holds (format_holds hf (flush_alive hd).1) hd⟩
-- A disk whose power is not cut.
def DS.on (D : DS) : Prop := D.dead = false ∧ D.sched = false
theorem DS.on.draw {D : DS} (h : D.on) : D.draw = D := by unfold DS.draw; rw [if_neg (by rw [h.1]; simp), if_neg (by rw [h.2]; simp)]
theorem DS.on.write {D : DS} (h : D.on) (i : Nat) (l : List UInt8) : (D.write i l).on := by unfold DS.write; rw [h.draw, if_neg (by rw [h.1]; simp)]; exact h
theorem DS.on.flush {D : DS} (h : D.on) : D.flush.on := by unfold DS.flush; rw [h.draw, if_neg (by rw [h.1]; simp)]; exact h
theorem DS.on.writesAt : ∀ (cs : List (List UInt8)) {D : DS} (i : Nat), D.on → (Go.Proofs.YtimblkkojcbipaaDoor.writesAt D i cs).on
  | [], _, _, h => h
  | _ :: cs, _, i, h => DS.on.writesAt cs (i + 1) (h.write _ _)
theorem DS.on.put {D : DS} (h : D.on) (live : Nat) (y : Ext) (rs : List (List UInt8)) : (D.put live y rs).on := by
  unfold DS.put DS.extend
  exact (((DS.on.writesAt _ _ h).write _ _).flush.write _ _).flush
theorem DS.on.format {D : DS} (h : D.on) : D.format.on := ((((h.write _ _).flush).write _ _).flush).write _ _
theorem DS.on.opened {D : DS} (h : D.on) : D.opened.on := by
  unfold DS.opened
  split
  · exact h.flush
  · exact h.format.flush
theorem new_on (n s : Nat) : (DS.new n s).on := ⟨rfl, rfl⟩
theorem new_fine {n s : Nat} (h1 : 16 ≤ n ∧ n ≤ 4096) (h2 : 128 ≤ s ∧ s ≤ 4096) : Fine (DS.new n s) := ⟨h1, h2, fun _ _ => List.length_replicate⟩
theorem new_none {n : Nat} : findP (DS.new n 256) = none := by
  unfold findP
  have : markP ((DS.new n 256).last 0) = none := by
    show markP (List.replicate 256 0) = none
    rfl
  rw [this]
  rfl
end Go.Proofs.YtimblkkojcbipaaDoor
/- The laws' helper batch: records of given lengths. -/
namespace Go.Proofs.YtimblkkojcbipaaDoor
open Go Go.RowKit
def rowL (i k n : Nat) : List UInt8 := (List.range n).map fun j => UInt8.ofNat (31 * i + 7 * k + j)
def batchL (i : Nat) (ls : List UInt8) (k : Nat) : List (List UInt8) := (List.range k).map fun t => rowL i t (ls.getD t 0).toNat
theorem batchL_succ (i : Nat) (ls : List UInt8) (k : Nat) : batchL i ls (k + 1) = batchL i ls k ++ [rowL i k (ls.getD k 0).toNat] := by unfold batchL; rw [List.range_succ, List.map_append]; rfl
theorem batchL_len (i : Nat) (ls : List UInt8) (k : Nat) : (batchL i ls k).length = k := by simp [batchL]
theorem rowL_len (i k n : Nat) : (rowL i k n).length = n := by simp [rowL]
/-- Records of the call's own, none of them nil. -/
def BatV (w : World) (B : Nat) (v : Value) (rs : List (List UInt8)) : Prop :=
  ∃ vs R, w.ownsRow B 34 1 v rs.length vs ∧ (∀ (i : Nat) (u : Value) (r : List UInt8), vs[i]? = some u → rs[i]? = some r → ArgV w R u (bv r) ∧ NonNil u) ∧ ∀ k, R k → B ≤ k ∧ k < w.heap.size ∧ ¬ Own v k
theorem BatV.upd {w w' : World} {F : Nat → Prop} {B : Nat} {v : Value} {rs : List (List UInt8)} (h : BatV w B v rs) (hu : Upd F w w') (hF : ∀ k, B ≤ k → k < w.heap.size → ¬ F k) : BatV w' B v rs := by
  obtain ⟨vs, R, h1, h2, h4⟩ := h
  exact ⟨vs, R, hu.own h1 fun k hk => hF k (own_lt h1 hk).1 (own_lt h1 hk).2, fun i u r hi hr => ⟨(h2 i u r hi hr).1.upd hu fun k hk => hF k (h4 k hk).1 (h4 k hk).2.1, (h2 i u r hi hr).2⟩, fun k hk => ⟨(h4 k hk).1, Nat.lt_of_lt_of_le (h4 k hk).2.1 hu.size, (h4 k hk).2.2⟩⟩
theorem BatV.slice {w : World} {B : Nat} {v : Value} {rs : List (List UInt8)} (h : BatV w B v rs) : ∃ A n c, v = .slice A n c := by
  obtain ⟨vs, R, h1, _⟩ := h
  rcases h1.2 with ⟨rfl, _⟩ | ⟨g, cap, cur, rfl, _⟩
  · exact ⟨_, _, _, rfl⟩
  · exact ⟨_, _, _, rfl⟩
theorem BatV.nil (w : World) (B : Nat) : BatV w B (.slice none 0 0) [] := ⟨[], fun _ => False, World.ownsRow_nil _ _ _ _, fun _ _ _ h _ => by simp at h, fun _ h => h.elim⟩
theorem wpl_append_at {w : World} {ops : Array Oper} {rest : List Oper} {o : Oper} {a : Act} {Q : Exit → Act → World → Prop} (hgd : o.guard = none) (s x : Operand) (ho : o.op = .call { callee := .builtin .append, args := #[s, x], argTypes := #[28, 28] })
    (base : Nat) (v : Value) (n : Nat) (xs : List Value) (hs : a.eval s = v) (hown : w.ownsRow base 34 1 v n xs)
    (g : Nat) (u : Value) (hx : a.eval x = .slice (some ⟨g, 0, none⟩) 1 1) (hc : w.cell? ⟨g, 0, none⟩ = some u) (hu : ∃ a n c, u = .slice a n c) (hn : n ≤ 4294967296) (hbase : base ≤ w.heap.size)
    (h : ∀ v' w', w'.ownsRow base 34 1 v' (n + 1) (xs ++ [u]) → w.grownBy w' v.ownBlock → (∀ k, Own v' k → Own v k ∨ w.heap.size ≤ k) → wpList Tryd.prog ops Q rest (a.put o.dst v') w') : wpList Tryd.prog ops Q (o :: rest) a w := by
  refine wpList_plain hgd fun K hK => wp_append_at s x ho base v n xs hs hown g u hx hc hu hn hbase fun v' w' h1 h2 h3 => hK _ _ (h v' w' h1 h2 h3)
theorem row_set (i k n j : Nat) (hj : j < n) : (bv (rowL i k j ++ List.replicate (n - j) 0)).toArray.setIfInBounds j (.int .u8 ((31 * i + 7 * k + j) % 256 : Nat)) = (bv (rowL i k (j + 1) ++ List.replicate (n - (j + 1)) 0)).toArray := by
  obtain ⟨m, hm⟩ : ∃ m, n - j = m + 1 := ⟨n - j - 1, by omega⟩
  have h1 : n - (j + 1) = m := by omega
  have h2 : (bv (rowL i k j)).length = j := by rw [bv_len, rowL_len]
  have h3 : rowL i k (j + 1) = rowL i k j ++ [UInt8.ofNat (31 * i + 7 * k + j)] := by unfold rowL; rw [List.range_succ, List.map_append]; rfl
  rw [h1, hm, h3, List.replicate_succ]
  unfold bv at h2 ⊢
  rw [List.map_append, List.map_append, List.map_append, List.map_cons, ← Array.toList_inj]
  simp only [List.setIfInBounds_toArray, List.map_cons, List.map_nil]
  rw [List.set_append_right _ _ (by omega), h2, Nat.sub_self, List.set_cons_zero]
  simp
set_option maxRecDepth 100000 in
set_option maxHeartbeats 1000000 in
theorem batch_any {w : World} {S : Nat → Prop} {v : Value} {ls : List UInt8} (h : ArgV w S v (bv ls)) (i : Nat) (hi : i ≤ 1000) (hl : ls.length ≤ 1000) :
    Calls Tryd.prog 14 #[.int .i64 i, v] w fun e w' => ∃ v', e = .returned v' ∧ BatV w' w.heap.size v' (batchL i ls ls.length) ∧ Below w.heap.size w w' := by
  have ha := h
  obtain ⟨A, c, rfl, hc1, hc2, hcells⟩ := h
  rw [bv_len] at hc1 ha ⊢
  have hc2' : c ≤ 9223372036854775807 := by unfold maxLen at hc2; exact hc2
  replace hcells := hide hcells
  replace hc2 := hide hc2
  replace ha := hide ha
  have hat : ∀ k, k < ls.length → ∃ b o, A = some ⟨b, o, none⟩ ∧ w.cell? ⟨b, o + k, none⟩ = some (.int .u8 (ls.getD k 0).toNat) := by
    intro k hk
    have hx : (bv ls)[k]? = some (.int .u8 (ls.getD k 0).toNat) := by
      unfold bv
      rw [List.getElem?_map, List.getD_eq_getElem?_getD, List.getElem?_eq_getElem hk]
      rfl
    obtain ⟨b, o, h1, -, h2⟩ := ha.out.get hx
    exact ⟨b, o, h1, h2⟩
  replace hat := hide hat
  go_enter Tryd.func14, Tryd.ntmps14
  go_wp2_with fail
  go_loopw [5, 6] (fun z i' wr => ∃ k : Nat, k ≤ ls.length ∧ i' = .int .i64 k ∧ BatV wr w.heap.size z (batchL i ls k) ∧ Upd (fun _ => False) w wr) (fun _ i' _ => ls.length - (intOf i').toNat)
  case atStart => exact ⟨0, Nat.zero_le _, rfl, by simpa [batchL] using BatV.nil w _, .refl _ _⟩
  case round =>
    obtain ⟨k, hk, rfl, hb, hU⟩ := hrel
    obtain ⟨A2, n2, c2, rfl⟩ := hb.slice
    replace hb := hide hb
    have zr := hU.size
    rcases Nat.lt_or_ge k ls.length with hlt | hge
    · obtain ⟨b, o, rfl, hc⟩ := hat.out k hlt
      have hc' := hU.cell hc id
      obtain ⟨n, hn⟩ : ∃ n, n = (ls.getD k 0).toNat := ⟨_, rfl⟩
      have hnb : n < 256 := by rw [hn]; exact (ls.getD k 0).toNat_lt
      rw [← hn] at hc'
      replace hn := hide hn
      replace hU := hide hU
      have hmk := run_make_row' (P := Tryd.prog) 34 5 (.int .u8 0) 1 Tryd.underlying34 byte_info rfl .i64 .i64 n (by omega) (by omega)
      clear hc
      go_wp2_with fail
      obtain ⟨wo, rfl⟩ : ∃ z, z = wr := ⟨wr, rfl⟩
      obtain ⟨w1, hw1⟩ : ∃ w1, w1 = wo.alloc (.cells (madeCells #[.int .u8 0] n) 5) := ⟨_, rfl⟩
      have hg0 : w1.heap[wo.heap.size]? = some (.cells (bv (rowL i k 0 ++ List.replicate (n - 0) 0)).toArray 5) := by
        rw [hw1, heap_new]
        have : rowL i k 0 = [] := rfl
        rw [this, List.nil_append, Nat.sub_zero, bv_zeros]
      have hU1 : Upd (fun _ => False) wo w1 := by rw [hw1]; exact .alloc _ _ _
      have z1 : w1.heap.size = wo.heap.size + 1 := by rw [hw1]; simp
      rw [← hw1]
      replace hw1 := hide hw1
      replace hg0 := hide hg0
      replace hU1 := hide hU1
      replace z1 := hide z1
      clear hmk
      go_loopw [8] (fun z wx => ∃ j : Nat, j ≤ n ∧ z = .int .i64 j ∧ wx.heap[wo.heap.size]? = some (.cells (bv (rowL i k j ++ List.replicate (n - j) 0)).toArray 5) ∧ Upd (fun q => q = wo.heap.size) w1 wx) (fun z _ => n - (intOf z).toNat)
      case atStart => exact ⟨0, Nat.zero_le _, rfl, hg0.out, .refl _ _⟩
      case round =>
        obtain ⟨j, hj, rfl, hg, hUx⟩ := hrel
        rcases Nat.lt_or_ge j n with hlt2 | hge2
        · have hcx : wr.cell? ⟨wo.heap.size, j, none⟩ = some (.int .u8 0) := by
            rw [cell_at hg]
            unfold bv
            rw [List.getElem?_toArray, List.getElem?_map, List.getElem?_append_right (by rw [rowL_len]; exact Nat.le_refl _), rowL_len, Nat.sub_self, List.getElem?_replicate, if_pos (by omega)]
            rfl
          have hfx := frozen_at hg j
          replace hg := hide hg
          replace hUx := hide hUx
          go_wp2_with fail
          go_roundw
          case rel =>
            refine ⟨j + 1, hlt2, by go_num, ?_, hUx.out.then (.set (F := fun q => q = wo.heap.size) _ (a := ⟨wo.heap.size, j, none⟩) rfl _)⟩
            have e : ((31 * (i : Int) + 7 * k + j) % 256) = (((31 * i + 7 * k + j) % 256 : Nat) : Int) := by omega
            rw [heap_set hg.out, e, row_set i k n j hlt2]
          case measure => simp [intOf]; omega
        · obtain rfl : n = j := by omega
          clear hge2
          have hUw : Upd (fun q => q = wo.heap.size) wo wr := (hU1.out.mono fun _ _ h => h.elim).then hUx
          have hb2 := hb.out.upd hUw fun q _ h2 e => by omega
          have hzw := hUx.size
          have hz1 := z1.out
          obtain ⟨vs, R, o1, o2, o4⟩ := hb2
          rw [batchL_len] at o1
          have hvk : Hid (vs.length = k) := hide (by have := o1.1; omega)
          have o1' : ∀ ob, (wr.alloc ob).ownsRow w.heap.size 34 1 (.slice A2 n2 c2) k vs := fun ob => (Upd.alloc (fun _ => False) wr ob).own o1 fun _ _ => id
          have hwoz : wo.heap.size < wr.heap.size := by omega
          rw [Nat.sub_self, List.replicate_zero, List.append_nil] at hg
          replace hg := hide hg
          replace hUx := hide hUx
          replace o1' := hide o1'
          replace o2 := hide o2
          replace o4 := hide o4
          replace hUw := hide hUw
          go_wp2_with (at_builtin; refine wpl_append_at rfl (.tmp 38) (.tmp 40) rfl w.heap.size (.slice A2 n2 c2) k vs rfl (o1'.out _) wr.heap.size (.slice (some ⟨wo.heap.size, 0, none⟩) n n) rfl ?_ ⟨_, _, _, rfl⟩ (by omega) (by rw [World.size_alloc]; omega) ?_)
          · rw [cell_at (heap_new _ _)]; rfl
          intro v' wf h1 hgr hmv
          have hUf : Upd (fun q => Own (.slice A2 n2 c2) q) (wr.alloc (.cells #[.slice (some ⟨wo.heap.size, 0, none⟩) n n] 34)) wf := .grown hgr fun q hq => hq
          have hUa : Upd (fun _ => False) wr (wr.alloc (.cells #[.slice (some ⟨wo.heap.size, 0, none⟩) n n] 34)) := .alloc _ _ _
          have hov : ¬ Own (.slice A2 n2 c2) wo.heap.size := by
            obtain ⟨vs0, R0, p1, _⟩ := hb.out
            exact fun h => by have := (own_lt p1 h).2; omega
          have hgf := hUf.heap (hUa.heap hg.out id) hov
          have hzf := hUf.size
          rw [World.size_alloc] at hzf
          have hBf : BatV wf w.heap.size v' (batchL i ls (k + 1)) := by
            refine ⟨vs ++ [.slice (some ⟨wo.heap.size, 0, none⟩) n n], fun q => R q ∨ q = wo.heap.size, by rw [batchL_len]; exact h1, ?_, ?_⟩
            · intro t u' r hu' hr
              rw [batchL_succ] at hr
              have hvl : vs.length = k := hvk.out
              rcases Nat.lt_or_ge t k with ht | ht
              · rw [List.getElem?_append_left (by omega)] at hu'
                rw [List.getElem?_append_left (by rw [batchL_len]; exact ht)] at hr
                have := o2.out t u' r hu' hr
                exact ⟨((this.1.upd hUa fun _ _ => id).upd hUf fun q hq => (o4.out q hq).2.2).mono fun _ _ h => .inl h, this.2⟩
              · rw [List.getElem?_append_right (by omega), hvl] at hu'
                rw [List.getElem?_append_right (by rw [batchL_len]; exact ht), batchL_len] at hr
                have ht0 : t - k = 0 := by
                  rcases Nat.eq_zero_or_pos (t - k) with h | h
                  · exact h
                  · rw [List.getElem?_eq_none (by simp; omega)] at hu'
                    cases hu'
                rw [ht0] at hu' hr
                obtain rfl := Option.some.inj hu'
                obtain rfl := Option.some.inj hr
                rw [← hn.out]
                refine ⟨⟨some ⟨wo.heap.size, 0, none⟩, n, by rw [bv_len, rowL_len], by rw [bv_len, rowL_len]; exact Nat.le_refl _, by unfold maxLen; omega, .inr ⟨wo.heap.size, 0, rfl, .inr rfl, fun j v hj => ?_⟩⟩, ⟨_, _, _, rfl⟩⟩
                rw [cell_at hgf, Nat.zero_add]
                simpa using hj
            · intro q hq
              rcases hq with hq | rfl
              · obtain ⟨a1, a2, a3⟩ := o4.out q hq
                exact ⟨a1, by omega, fun h => (hmv q h).elim a3 fun h => by omega⟩
              · exact ⟨zr, by omega, fun h => (hmv _ h).elim hov fun h => by omega⟩
          have hUF : Upd (fun _ => False) w wf := by
            refine ((hU.out.trans hUw.out fun q hq e => by omega).trans hUa fun _ _ h => h).trans hUf fun q hq h => ?_
            obtain ⟨vs0, R0, p1, _⟩ := hb.out
            have := (own_lt p1 h).1
            omega
          obtain ⟨A3, n3, c3, rfl⟩ := hBf.slice
          replace hBf := hide hBf
          replace hUF := hide hUF
          replace hmv := hide hmv
          clear hgr h1 hUf hUa
          go_wp2_with fail
          go_roundw
          case rel => exact ⟨k + 1, hlt, by go_num, hBf.out, hUF.out⟩
          case measure => simp [intOf]; omega
    · obtain rfl : k = ls.length := by omega
      clear hge
      go_wp2_with fail
      go_ret
      exact ⟨_, rfl, hb.out, hU.below (Nat.le_refl _) fun _ h => h.elim⟩
end Go.Proofs.YtimblkkojcbipaaDoor
