/- Part 13 of the walks (merged): Holds, New, PutHolds, RecsA, Recs2, Life, Life2, TabOf, Seg. -/
import Derived.Test.YtpnboihbifhigaaGreatDoorM12
import Derived.Test.YtpnboihbifhigaaGreatDoorM5
import Derived.Test.YtpnboihbifhigaaGreatDoorM6
import Derived.Test.YtpnboihbifhigaaGreatDoorM2
import Derived.Lib.LaidTab
import Derived.Test.YtpnboihbifhigaaGreatDoorM1
import Derived.Deep.Slices
import Derived.ChangeSame
/- What a log is on a disk, and that it is found there. -/
namespace Go.Proofs.YtpnboihbifhigaaGreatDoor
open Go Go.RowKit
open Sums (crc)
theorem takeP_app {n : Nat} {a t : List UInt8} (h : a.length = n) : takeP n (a ++ t) = some (a, t) := by
  subst h
  unfold takeP
  rw [if_pos (by simp)]
  simp
theorem numP_app {n : Nat} (t : List UInt8) (h : n < 4294967296) : numP (num4 n ++ t) = some (n, t) := by
  unfold numP
  rw [takeP_app (num_len n)]
  simp [val_num n h]
theorem frameP_app (r t : List UInt8) (h : r.length < 4294967296) : frameP (frame r ++ t) = some (r, t) := by
  unfold frameP frame
  rw [List.append_assoc, List.append_assoc, takeP_app (num_len _)]
  simp only [Option.bind_some]
  rw [numP_app _ (Sums.crc_lt _)]
  simp only [Option.bind_some]
  rw [val_num _ h, takeP_app rfl]
  simp
theorem recsP_app : ∀ (rs : List (List UInt8)) (t : List UInt8), (∀ r ∈ rs, r.length < 4294967296) → recsP rs.length (frames rs ++ t) = some (rs, t)
  | [], t, _ => rfl
  | r :: rs, t, h => by
    rw [frames_cons, List.append_assoc]
    unfold recsP
    rw [List.length_cons]
    simp only
    rw [frameP_app r _ (h r (by simp))]
    simp only [Option.bind_some]
    rw [recsP_app rs t fun r hr => h r (by simp [hr])]
    rfl
theorem mark_len (live : Nat) : (markL live).length = 17 := rfl
theorem markP_pre {l : List UInt8} {live : Nat} (hl : live ≤ 1) (h : l.take 17 = markL live) : markP l = some live := by
  have h1 : l = markL live ++ l.drop 17 := by rw [← h, List.take_append_drop]
  rw [h1]
  unfold markP markL
  rcases Nat.le_one_iff_eq_zero_or_eq_one.1 hl with rfl | rfl <;> rfl
theorem slotP_pre {D : DS} {x : Ext} {l : List UInt8} (ha : x.area ≤ 1) (hb : x.bytes ≤ capN D) (ho : x.ok) (h : l.take 20 = slotL x) : slotP D l = some x := by
  have h1 : l = slotL x ++ l.drop 20 := by rw [← h, List.take_append_drop]
  rw [h1]
  unfold slotP slotL
  rw [frameP_app _ _ (by simp [slotBody, num_len])]
  simp only [Option.bind_some]
  unfold slotBody
  rw [List.append_assoc, numP_app _ ho.1]
  simp only [Option.bind_some]
  rw [numP_app _ ho.2.1]
  simp only [Option.bind_some]
  rw [← List.append_nil (num4 x.records), numP_app _ ho.2.2]
  simp only [Option.bind_some]
  rw [if_pos ⟨by omega, hb⟩]
/-- The records rs lie where x tells. -/
structure Lies (D : DS) (x : Ext) (rs : List (List UInt8)) : Prop where
  area : x.area ≤ 1
  bytes : x.bytes = (frames rs).length
  fit : x.bytes ≤ capN D
  recs : x.records = rs.length
  each : ∀ r ∈ rs, r.length ≤ 1048576
  data : extL D x = frames rs
/-- The disk's form. -/
structure Fine (D : DS) : Prop where
  n1 : 16 ≤ D.n ∧ D.n ≤ 4096
  s1 : 128 ≤ D.size ∧ D.size ≤ 4096
  len : ∀ i, i < D.n → (D.last i).length = D.size
/-- The disk holds the records rs, told by the slot 'live'. -/
structure Holds (D : DS) (live : Nat) (x : Ext) (rs : List (List UInt8)) : Prop where
  fine : Fine D
  lies : Lies D x rs
  one : live ≤ 1
  mark : (D.last 0).take 17 = markL live
  slot : (D.last (1 + live)).take 20 = slotL x
theorem Fine.cap {D : DS} (h : Fine D) : capN D ≤ 8380416 := by
  have h1 := area_le h.n1.2
  have h2 : areaN D * D.size ≤ 2046 * 4096 := Nat.mul_le_mul h1 h.s1.2
  unfold capN
  omega
theorem count_le (rs : List (List UInt8)) : 8 * rs.length ≤ (frames rs).length := by
  induction rs with
  | nil => simp
  | cons r rs ih =>
    rw [frames_cons, List.length_append, frame_len, List.length_cons]
    omega
theorem Lies.ok {D : DS} {x : Ext} {rs : List (List UInt8)} (h : Lies D x rs) (hf : Fine D) : x.ok := by
  have h1 := hf.cap
  have h2 := count_le rs
  have h3 := h.fit
  have h4 := h.bytes
  have h5 := h.recs
  exact ⟨by have := h.area; omega, by omega, by omega⟩
theorem Holds.find {D : DS} {live : Nat} {x : Ext} {rs : List (List UInt8)} (h : Holds D live x rs) : findP D = some (live, x, rs) := by
  unfold findP
  rw [markP_pre h.one h.mark]
  simp only [Option.bind_some]
  rw [slotP_pre h.lies.area h.lies.fit (h.lies.ok h.fine) h.slot]
  simp only [Option.bind_some]
  rw [h.lies.data, h.lies.recs, ← List.append_nil (frames rs), recsP_app rs [] fun r hr => by have := h.lies.each r hr; omega]
  simp
theorem Holds.mark16 {D : DS} {live : Nat} {x : Ext} {rs : List (List UInt8)} (h : Holds D live x rs) : (D.last 0)[16]? = some (UInt8.ofNat live) := by
  have h1 : D.last 0 = markL live ++ (D.last 0).drop 17 := by rw [← h.mark, List.take_append_drop]
  rw [h1]
  unfold markL
  rfl
-- What is read from a disk that has power still.
theorem write_alive {D : DS} {i : Nat} {l : List UInt8} (h : (D.write i l).dead = false) : D.dead = false ∧ ∀ j, (D.write i l).last j = if j = i then l else D.last j := by
  unfold DS.write at h ⊢
  cases hd : D.draw.dead with
  | true => rw [hd] at h; simp only [if_true] at h; rw [hd] at h; cases h
  | false =>
    simp only [Bool.false_eq_true, if_false]
    refine ⟨?_, fun j => ?_⟩
    · cases hx : D.dead with
      | false => rfl
      | true => rw [DS.draw_dead hx, hx] at hd; cases hd
    · unfold DS.last setAt
      simp only [DS.draw_wr, DS.draw_dur]
      split <;> rfl
theorem flush_alive {D : DS} (h : D.flush.dead = false) : D.dead = false ∧ ∀ j, D.flush.last j = D.last j := by
  unfold DS.flush at h ⊢
  cases hd : D.draw.dead with
  | true => rw [hd] at h; simp only [if_true] at h; rw [hd] at h; cases h
  | false =>
    simp only [Bool.false_eq_true, if_false]
    refine ⟨?_, fun j => ?_⟩
    · cases hx : D.dead with
      | false => rfl
      | true => rw [DS.draw_dead hx, hx] at hd; cases hd
    · unfold DS.last
      simp only [DS.draw_wr, DS.draw_dur]
      rfl
theorem writesAt_alive : ∀ (cs : List (List UInt8)) (D : DS) (i : Nat), (writesAt D i cs).dead = false → D.dead = false ∧ ∀ j, (writesAt D i cs).last j = if i ≤ j then (match cs[j - i]? with | some c => pad D.size c | none => D.last j) else D.last j
  | [], D, i, h => ⟨h, fun j => by simp [writesAt]⟩
  | c :: cs, D, i, h => by
    obtain ⟨h1, h2⟩ := writesAt_alive cs _ _ h
    obtain ⟨h3, h4⟩ := write_alive h1
    refine ⟨h3, fun j => ?_⟩
    show (writesAt _ _ cs).last j = _
    rw [h2 j, DS.write_size, h4 j]
    rcases Nat.lt_trichotomy i j with hlt | rfl | hgt
    · rw [if_pos (show i + 1 ≤ j by omega), if_neg (show ¬ j = i by omega), if_pos (show i ≤ j by omega), show j - i = (j - (i + 1)) + 1 by omega, List.getElem?_cons_succ]
    · rw [if_neg (show ¬ i + 1 ≤ i by omega), if_pos rfl, if_pos (Nat.le_refl _), Nat.sub_self]
      rfl
    · rw [if_neg (show ¬ i + 1 ≤ j by omega), if_neg (show ¬ j = i by omega), if_neg (show ¬ i ≤ j by omega)]
-- The bytes of sectors, behind chunks that were written.
theorem chunk_pad {n : Nat} (hn : 1 ≤ n) : ∀ (m : Nat) (l : List UInt8), l.length ≤ m * n → ∃ z, ((chunkL n l).map (pad n)).flatten = l ++ z
  | 0, l, h => by
    obtain rfl : l = [] := List.length_eq_zero_iff.1 (by omega)
    exact ⟨[], by rw [chunkL_nil]; rfl⟩
  | m + 1, l, h => by
    rcases Nat.eq_zero_or_pos l.length with h0 | h0
    · obtain rfl : l = [] := List.length_eq_zero_iff.1 h0
      exact ⟨[], by rw [chunkL_nil]; rfl⟩
    · rw [chunkL_cons hn h0, List.map_cons, List.flatten_cons]
      rcases Nat.le_total l.length n with h1 | h1
      · rw [List.drop_eq_nil_of_le h1, chunkL_nil, List.take_of_length_le h1]
        exact ⟨List.replicate (n - l.length) 0, by simp [pad]⟩
      · obtain ⟨z, hz⟩ := chunk_pad hn m (l.drop n) (by rw [List.length_drop]; rw [Nat.succ_mul] at h; omega)
        have hp : pad n (l.take n) = l.take n := by
          unfold pad
          rw [List.length_take, Nat.min_eq_left h1, Nat.sub_self]
          simp
        exact ⟨z, by rw [hz, hp, ← List.append_assoc, List.take_append_drop]⟩
theorem flat_range (g : Nat → List UInt8) (a k : Nat) : (List.range (a + k)).flatMap g = (List.range a).flatMap g ++ (List.range k).flatMap fun j => g (a + j) := by
  induction k with
  | zero => simp
  | succ k ih => rw [← Nat.add_assoc, List.range_succ, List.flatMap_append, ih, List.range_succ, List.flatMap_append]; simp
theorem flat_congr {g g' : Nat → List UInt8} {k : Nat} (h : ∀ j, j < k → g j = g' j) : (List.range k).flatMap g = (List.range k).flatMap g' := by
  induction k with
  | zero => rfl
  | succ k ih => rw [List.range_succ, List.flatMap_append, List.flatMap_append, ih fun j hj => h j (by omega)]; simp [h k (by omega)]
theorem flat_list (cs : List (List UInt8)) : (List.range cs.length).flatMap (fun j => cs[j]?.getD []) = cs.flatten := by
  induction cs with
  | nil => rfl
  | cons c cs ih =>
    rw [List.length_cons, Nat.add_comm, flat_range]
    simp only [List.range_one, List.flatMap_cons, List.flatMap_nil, List.append_nil, List.getElem?_cons_zero, Option.getD_some, List.flatten_cons]
    rw [← ih]
    congr 1
    exact flat_congr fun j _ => by rw [Nat.add_comm, List.getElem?_cons_succ]
end Go.Proofs.YtpnboihbifhigaaGreatDoor
/- Walks of the disk: New. -/
namespace Go.Proofs.YtpnboihbifhigaaGreatDoor
open Go Go.RowKit
def DS.new (n s : Nat) : DS := { n := n, size := s, dur := fun _ => List.replicate s 0, wr := fun _ => none, dead := false, sched := false, left := 0 }
theorem bytes_info : (Tryz.prog.info? 5).map (fun i => (i.zero, i.size, i.bytes)) = some (some (.int .u8 0), 1, 1) := by kernel_rfl
theorem bv_zeros (s : Nat) : (bv (List.replicate s 0)).toArray = madeCells #[.int .u8 0] s := by
  rw [← toList_madeCells_one_eq]; simp [bv]
/-- A row of zeros that has just been made. -/
theorem zeros_arg (w : World) (s : Nat) (hs : s ≤ 4096) : ArgV (w.alloc (.cells (madeCells #[.int .u8 0] s) 5)) (fun k => k = w.heap.size) (.slice (some ⟨w.heap.size, 0, none⟩) s s) (bv (List.replicate s 0)) := by
  have e : (bv (List.replicate s 0)).length = s := by rw [bv_len, List.length_replicate]
  refine ⟨some ⟨w.heap.size, 0, none⟩, s, by rw [e], by rw [e]; exact Nat.le_refl _, by unfold maxLen; omega, .inr ⟨_, _, rfl, rfl, fun i u hi => ?_⟩⟩
  rw [cell_at (heap_new _ _), ← bv_zeros]
  simpa using hi
/-- The three parts of sectors. -/
def SecV (w : World) (B : Nat) (n s : Nat) (v : Value) : Prop :=
  ∃ db mb zb, v = .agg #[.int .i64 s, .slice (some ⟨db, 0, none⟩) n n, .map (some mb)] ∧ B ≤ db ∧ B ≤ mb ∧ B ≤ zb ∧
    w.heap[db]? = some (.cells (List.replicate n (.slice (some ⟨zb, 0, none⟩) s s)).toArray 62) ∧ w.heap[mb]? = some (.map #[] 0) ∧ w.heap[zb]? = some (.cells (bv (List.replicate s 0)).toArray 5)
set_option maxRecDepth 100000 in
theorem newSectors_any (w : World) (n s : Nat) (h1 : 1 ≤ n) (hn : n ≤ 4096) (hs : s ≤ 4096) :
    Calls Tryz.prog 27 #[.int .i64 n, .int .i64 s] w fun e w' => ∃ v, e = .returned v ∧ SecV w' w.heap.size n s v ∧ Below w.heap.size w w' := by
  have hmk := run_make_row' (P := Tryz.prog) 62 5 (.int .u8 0) 1 Tryz.underlying62 bytes_info rfl .i64 .i64 s (by omega) (by omega)
  have hmm := @run_makeMap Tryz.prog
  go_enter Tryz.func27, Tryz.ntmps27
  go_wp2_with fail
  obtain ⟨w0, hw0⟩ : ∃ w0, w0 = (((w.alloc (.cells #[.int .i64 0, .slice none 0 0, .map none] 52)).alloc (.cells (madeCells #[.int .u8 0] s) 5)).alloc (.cells #[.slice (some ⟨w.heap.size + 1, 0, none⟩) s s] 62)) := ⟨_, rfl⟩
  have z0 : w0.heap.size = w.heap.size + 3 := by rw [hw0]; simp
  have y1 : w0.heap[w.heap.size]? = some (.cells #[.int .i64 0, .slice none 0 0, .map none] 52) := by rw [hw0]; exact heap_old (heap_old (heap_new _ _) _) _
  have y2 : w0.heap[w.heap.size + 1]? = some (.cells (madeCells #[.int .u8 0] s) 5) := by
    rw [hw0]
    have := heap_new (w.alloc (.cells #[.int .i64 0, .slice none 0 0, .map none] 52)) (.cells (madeCells #[.int .u8 0] s) 5)
    rw [World.size_alloc] at this
    exact heap_old this _
  have y3 : w0.cell? ⟨w.heap.size + 1 + 1, 0, none⟩ = some (.slice (some ⟨w.heap.size + 1, 0, none⟩) s s) := by
    have := heap_new ((w.alloc (.cells #[.int .i64 0, .slice none 0 0, .map none] 52)).alloc (.cells (madeCells #[.int .u8 0] s) 5)) (.cells #[.slice (some ⟨w.heap.size + 1, 0, none⟩) s s] 62)
    rw [World.size_alloc, World.size_alloc, ← hw0] at this
    rw [cell_at this]; rfl
  have hb0 : Below w.heap.size w w0 := by rw [hw0]; exact (((Below.refl _ w).alloc (Nat.le_refl _) _).alloc (by simp) _).alloc (by simp; omega) _
  rw [← hw0]
  replace hw0 := hide hw0
  refine (repeat_any y3 ⟨_, _, _, rfl⟩ h1 hn).mono ?_
  rintro e w1 ⟨g, rfl, hg1, hg2, hg3⟩
  rw [z0] at hg1 hg3
  have x1 := (hg3.block w.heap.size (by omega)).trans y1
  have x2 := (hg3.block (w.heap.size + 1) (by omega)).trans y2
  have hb1 : Below w.heap.size w w1 := hb0.trans (hg3.mono (by omega))
  have xm := heap_old x1 (.map #[] 0)
  have a0 : (w1.alloc (.map #[] 0)).cell? ⟨w.heap.size, 0, none⟩ = some (.int .i64 0) := by rw [cell_at xm]; rfl
  have a1 : (w1.alloc (.map #[] 0)).cell? ⟨w.heap.size, 1, none⟩ = some (.slice none 0 0) := by rw [cell_at xm]; rfl
  have a2 : (w1.alloc (.map #[] 0)).cell? ⟨w.heap.size, 2, none⟩ = some (.map none) := by rw [cell_at xm]; rfl
  have b0 := frozen_at xm 0
  have b1 := frozen_at xm 1
  have b2 := frozen_at xm 2
  replace xm := hide xm
  have z1 : w.heap.size + 3 ≤ w1.heap.size := by have := hg3.size; omega
  replace hg2 := hide hg2
  replace hg3 := hide hg3
  replace hb0 := hide hb0
  replace hb1 := hide hb1
  replace x1 := hide x1
  replace x2 := hide x2
  replace y1 := hide y1
  replace y2 := hide y2
  clear y3 hmk z0
  replace z1 := hide z1
  go_wp2_with fail
  refine bodyPost_ret (v := .agg #[.int .i64 s, .slice (some ⟨g, 0, none⟩) n n, .map (some w1.heap.size)]) ?_ rfl ?_
  · simp [results, Tryz.results27, go_sem, a0, a1, a2]
  · have hzz := z1.out
    have hw1 : w.heap.size + 3 ≤ w1.heap.size := hzz
    have hU : Upd (fun k => k = w.heap.size) (w1.alloc (.map #[] 0)) ((((w1.alloc (.map #[] 0)).setCell ⟨w.heap.size, 0, none⟩ (.int .i64 s)).setCell ⟨w.heap.size, 1, none⟩ (.slice (some ⟨g, 0, none⟩) n n)).setCell ⟨w.heap.size, 2, none⟩ (.map (some w1.heap.size))) :=
      ((Upd.set (F := fun k => k = w.heap.size) _ (a := ⟨w.heap.size, 0, none⟩) rfl _).then (.set (F := fun k => k = w.heap.size) _ (a := ⟨w.heap.size, 1, none⟩) rfl _)).then (.set (F := fun k => k = w.heap.size) _ (a := ⟨w.heap.size, 2, none⟩) rfl _)
    refine ⟨_, rfl, ⟨g, w1.heap.size, w.heap.size + 1, rfl, by omega, by omega, by omega, ?_, ?_, ?_⟩, ?_⟩
    · exact hU.heap (heap_old hg2.out _) (by omega)
    · exact hU.heap (heap_new _ _) (by omega)
    · rw [bv_zeros]; exact hU.heap (heap_old x2.out _) (by omega)
    · exact (((Upd.of_below (fun k => k = w.heap.size) (hb1.out.alloc (by omega) (.map #[] 0))).then hU).below (Nat.le_refl _) fun k e => by omega)
set_option maxRecDepth 100000 in
theorem new_any (w : World) (n s : Nat) (h1 : 1 ≤ n) (hn : n ≤ 4096) (h2 : 64 ≤ s) (hs : s ≤ 4096) :
    Calls Tryz.prog 11 #[.int .i64 n, .int .i64 s] w fun e w' => ∃ sb S, e = .returned (.pointer (some ⟨sb, 0, none⟩)) ∧ DiskV w' sb S (DS.new n s) ∧ (∀ k, S k → w.heap.size ≤ k) ∧ Below w.heap.size w w' := by
  have hns := newSectors_any w n s h1 hn hs
  go_enter Tryz.func11, Tryz.ntmps11
  go_wp2_with fail
  refine hns.mono ?_
  rintro e w1 ⟨v, rfl, ⟨db, mb, zb, rfl, g1, g2, g3, g4, g5, g6⟩, hb⟩
  replace g4 := hide g4
  replace g5 := hide g5
  replace g6 := hide g6
  replace hb := hide hb
  go_wp2_with fail
  go_ret
  have l4 := (Array.getElem?_eq_some_iff.1 g4.out).1
  have l5 := (Array.getElem?_eq_some_iff.1 g5.out).1
  have l6 := (Array.getElem?_eq_some_iff.1 g6.out).1
  have hz := hb.out.size
  have n46 : zb ≠ db := fun e => by
    subst e
    have := g4.out.symm.trans g6.out
    injection this with this
    injection this with _ this
    exact absurd this (by decide)
  have n56 : zb ≠ mb := fun e => by subst e; have := g5.out.symm.trans g6.out; injection this with this; cases this
  have n45 : db ≠ mb := fun e => by subst e; have := g5.out.symm.trans g4.out; injection this with this; cases this
  have hlen : (List.replicate s (0 : UInt8)).length = s := by simp
  refine ⟨_, _, rfl, ⟨db, mb, n, (List.replicate n (Value.slice (some ⟨zb, 0, none⟩) s s)).toArray, fun _ => none, fun k => k = zb, ?_, rfl⟩, ?_, hb.out.alloc hz _⟩
  · exact {
      head := by rw [heap_new]; simp [DS.new]
      arr := heap_old g4.out _
      len := by simp [DS.new]
      cap := rfl
      map := MapV.empty _ (heap_old g5.out _)
      dur := fun i hi => by
        refine ⟨hlen, .slice (some ⟨zb, 0, none⟩) s s, by have hi2 : i < n := hi; simp [hi2], ⟨some ⟨zb, 0, none⟩, s, by rw [bv_len]; simp [DS.new], by rw [bv_len]; simp [DS.new], by unfold maxLen; omega, .inr ⟨zb, 0, rfl, rfl, fun i u hi => ?_⟩⟩⟩
        rw [cell_at (heap_old g6.out _)]
        simpa [DS.new] using hi
      wr := fun _ _ => trivial
      ne := ⟨by omega, by omega, by omega, by omega, by omega, n45⟩
      old := fun k hk => by subst hk; exact ⟨_, _, _, heap_old g6.out _⟩
      n1 := ⟨h1, hn⟩
      s1 := ⟨h2, hs⟩
      l1 := Nat.zero_le _ }
  · rintro k (e | e | e | e) <;> omega
end Go.Proofs.YtpnboihbifhigaaGreatDoor
/- What a put leaves, where there is power. -/
namespace Go.Proofs.YtpnboihbifhigaaGreatDoor
open Go Go.RowKit
theorem take_two {P Q R : List UInt8} {n : Nat} (h : n = P.length + Q.length) : (P ++ Q ++ R).take n = P ++ Q := by
  subst h
  rw [← List.length_append, List.take_left']
  rfl
theorem secN_eq (D : DS) (a t : Nat) : secN D a t = 3 + a * areaN D + t / D.size := rfl
section
variable {D : DS} {y : Ext} {l : List UInt8}
/-- Where an extent ends. -/
theorem ext_end (hf : Fine D) (ha : y.area ≤ 1) (hb : y.bytes ≤ capN D) (hs : 0 < y.bytes % D.size) : y.bytes / D.size < areaN D ∧ secN D y.area y.bytes < D.n := by
  have h0 : 0 < D.size := by have := hf.s1; omega
  have hhi := area_hi ha hf.n1.1
  have h2 : y.bytes / D.size < areaN D := by
    rw [Nat.div_lt_iff_lt_mul h0]
    rcases Nat.lt_or_ge y.bytes (areaN D * D.size) with h3 | h3
    · exact h3
    · exfalso
      have h4 : y.bytes = areaN D * D.size := by unfold capN at hb; omega
      rw [h4, Nat.mul_mod_left] at hs
      omega
  exact ⟨h2, by rw [secN_eq]; omega⟩
theorem ext_part (hf : Fine D) (ha : y.area ≤ 1) (hb : y.bytes ≤ capN D) : extL D y = bytesOf D y.area (y.bytes / D.size) ++ (D.last (secN D y.area y.bytes)).take (y.bytes % D.size) := by
  have h0 : 0 < D.size := by have := hf.s1; omega
  have hhi := area_hi ha hf.n1.1
  have hdm := Nat.div_add_mod y.bytes D.size
  have hq : y.bytes / D.size ≤ areaN D := by
    rw [Nat.div_le_iff_le_mul_add_pred h0]
    unfold capN at hb
    rw [Nat.mul_comm] at hb
    omega
  have hPl := bytesOf_len D y.area hf.len (y.bytes / D.size) (by omega)
  unfold extL
  rcases Nat.eq_zero_or_pos (y.bytes % D.size) with hs | hs
  · obtain ⟨t, ht⟩ := bytesOf_pre D y.area hq
    rw [ht, hs, List.take_zero, List.append_nil, List.take_left']
    rw [hPl, Nat.mul_comm]
    omega
  · obtain ⟨hlt, hin⟩ := ext_end hf ha hb hs
    obtain ⟨t, ht⟩ := bytesOf_pre D y.area (show y.bytes / D.size + 1 ≤ areaN D by omega)
    rw [ht, bytesOf_succ, ← secN_eq]
    have hgl := hf.len _ hin
    have hml := Nat.mod_lt y.bytes h0
    conv => lhs; rw [← List.take_append_drop (y.bytes % D.size) (D.last (secN D y.area y.bytes)), ← List.append_assoc, List.append_assoc]
    refine take_two ?_
    rw [hPl, List.length_take, Nat.min_eq_left (by omega), Nat.mul_comm]
    omega
theorem extend_data (hf : Fine D) (ha : y.area ≤ 1) (hfit : y.bytes + l.length ≤ capN D) (r : Nat) (h : (D.extend y l).dead = false) : extL (D.extend y l) ⟨y.area, y.bytes + l.length, r⟩ = extL D y ++ l := by
  have h0 : 0 < D.size := by have := hf.s1; omega
  have hhi := area_hi ha hf.n1.1
  have hdm := Nat.div_add_mod y.bytes D.size
  have hml := Nat.mod_lt y.bytes h0
  have hq : y.bytes / D.size ≤ areaN D := by
    rw [Nat.div_le_iff_le_mul_add_pred h0]
    unfold capN at hfit
    rw [Nat.mul_comm] at hfit
    omega
  have hPl := bytesOf_len D y.area hf.len (y.bytes / D.size) (by omega)
  rw [ext_part hf ha (by omega), List.append_assoc]
  have hfe : extB D y l = (D.last (secN D y.area y.bytes)).take (y.bytes % D.size) ++ l := rfl
  rw [← hfe]
  have hfl : (extB D y l).length = y.bytes % D.size + l.length := by
    rw [hfe, List.length_append, List.length_take]
    rcases Nat.eq_zero_or_pos (y.bytes % D.size) with hs | hs
    · rw [hs]; simp
    · rw [hf.len _ (ext_end hf ha (by omega) hs).2, Nat.min_eq_left (by omega)]
  obtain ⟨q, hqe⟩ : ∃ q, q = y.bytes / D.size := ⟨_, rfl⟩
  have hi0 : secN D y.area y.bytes = 3 + y.area * areaN D + q := by rw [hqe]; rfl
  rw [← hqe] at hq hPl hdm ⊢
  obtain ⟨cs, hcs⟩ : ∃ cs, cs = chunkL D.size (extB D y l) := ⟨_, rfl⟩
  have hle : (extB D y l).length ≤ (areaN D - q) * D.size := by
    rw [hfl, Nat.sub_mul]
    unfold capN at hfit
    rw [Nat.mul_comm] at hdm
    omega
  have hm : cs.length ≤ areaN D - q := by rw [hcs]; exact chunkL_le D.size _ _ h0 hle
  obtain ⟨z, hz⟩ := chunk_pad h0 _ _ hle
  rw [← hcs] at hz
  obtain ⟨-, hw⟩ := writesAt_alive _ D _ h
  rw [← hcs] at hw
  have hna : areaN (D.extend y l) = areaN D := by unfold areaN DS.extend; rw [writesAt_n]
  unfold extL bytesOf
  simp only [hna]
  obtain ⟨R, hR⟩ : ∃ R, areaN D = q + cs.length + R := ⟨areaN D - q - cs.length, by omega⟩
  rw [hR, flat_range, flat_range]
  have e1 : (List.range q).flatMap (fun j => (D.extend y l).last (3 + y.area * areaN D + j)) = bytesOf D y.area q := by
    unfold bytesOf
    refine flat_congr fun j hj => ?_
    show (writesAt _ _ _).last _ = _
    rw [← hcs, hw, hi0, if_neg (by omega)]
  have e2 : (List.range cs.length).flatMap (fun j => (D.extend y l).last (3 + y.area * areaN D + (q + j))) = (cs.map (pad D.size)).flatten := by
    rw [← flat_list, List.length_map]
    refine flat_congr fun j hj => ?_
    show (writesAt _ _ _).last _ = _
    rw [← hcs, hw, hi0, if_pos (by omega), show 3 + y.area * areaN D + (q + j) - (3 + y.area * areaN D + q) = j by omega, List.getElem?_map, List.getElem?_eq_getElem hj]
    rfl
  rw [← hR, e1, e2, hz, ← List.append_assoc, List.append_assoc]
  refine take_two ?_
  rw [hPl, hfl, Nat.mul_comm]
  omega
end
theorem chunkL_mem {n : Nat} (hn : 1 ≤ n) : ∀ (m : Nat) (l : List UInt8), l.length ≤ m * n → ∀ c ∈ chunkL n l, c.length ≤ n
  | 0, l, h, c, hc => by
    obtain rfl : l = [] := List.length_eq_zero_iff.1 (by omega)
    rw [chunkL_nil] at hc
    cases hc
  | m + 1, l, h, c, hc => by
    rcases Nat.eq_zero_or_pos l.length with h0 | h0
    · obtain rfl : l = [] := List.length_eq_zero_iff.1 h0
      rw [chunkL_nil] at hc
      cases hc
    · rw [chunkL_cons hn h0] at hc
      rcases List.mem_cons.1 hc with rfl | hc
      · rw [List.length_take]; omega
      · exact chunkL_mem hn m _ (by rw [List.length_drop]; rw [Nat.succ_mul] at h; omega) c hc
theorem chunkL_mem' {n : Nat} (hn : 1 ≤ n) {l c : List UInt8} (hc : c ∈ chunkL n l) : c.length ≤ n := chunkL_mem hn l.length l (Nat.le_mul_of_pos_right _ hn) c hc
theorem pad_take {n : Nat} {l : List UInt8} : (pad n l).take l.length = l := by unfold pad; rw [List.take_left']; rfl
theorem extL_congr {D D' : DS} (x : Ext) (hn : D'.n = D.n) (h : ∀ j, 3 ≤ j → D'.last j = D.last j) : extL D' x = extL D x := by
  unfold extL bytesOf areaN
  rw [hn]
  congr 1
  exact flat_congr fun j _ => h _ (by omega)
theorem extend_n (D : DS) (y : Ext) (l : List UInt8) : (D.extend y l).n = D.n := writesAt_n _ _ _
theorem extend_size (D : DS) (y : Ext) (l : List UInt8) : (D.extend y l).size = D.size := writesAt_size _ _ _
theorem put_n (D : DS) (live : Nat) (y : Ext) (rs : List (List UInt8)) : (D.put live y rs).n = D.n := by unfold DS.put; simp only [DS.flush_n, DS.write_n, extend_n]
theorem put_size (D : DS) (live : Nat) (y : Ext) (rs : List (List UInt8)) : (D.put live y rs).size = D.size := by unfold DS.put; simp only [DS.flush_size, DS.write_size, extend_size]
theorem put_last {D : DS} {live : Nat} {y : Ext} {rs : List (List UInt8)} (h : (D.put live y rs).dead = false) :
    (D.extend y (frames rs)).dead = false ∧ ∀ j, (D.put live y rs).last j = if j = 0 then pad D.size (markL (1 - live)) else if j = 1 + (1 - live) then pad D.size (slotL (y.plus rs)) else (D.extend y (frames rs)).last j := by
  unfold DS.put at h ⊢
  obtain ⟨h1, e1⟩ := flush_alive h
  obtain ⟨h2, e2⟩ := write_alive h1
  obtain ⟨h3, e3⟩ := flush_alive h2
  obtain ⟨h4, e4⟩ := write_alive h3
  exact ⟨h4, fun j => by simp only [e1, e2, e3, e4]⟩
theorem extend_len {D : DS} (hf : Fine D) {y : Ext} {l : List UInt8} (h : (D.extend y l).dead = false) (j : Nat) (hj : j < D.n) : ((D.extend y l).last j).length = D.size := by
  have h0 : 1 ≤ D.size := by have := hf.s1; omega
  obtain ⟨-, hw⟩ := writesAt_alive _ D _ h
  show ((writesAt _ _ _).last j).length = _
  rw [hw]
  split
  · split
    · rename_i c hc
      exact pad_len _ _ (chunkL_mem' h0 (List.mem_of_getElem? hc))
    · exact hf.len j hj
  · exact hf.len j hj
theorem put_fine {D : DS} (hf : Fine D) {live : Nat} {y : Ext} {rs : List (List UInt8)} (h : (D.put live y rs).dead = false) : Fine (D.put live y rs) := by
  obtain ⟨h1, h2⟩ := put_last h
  have hs := hf.s1
  refine ⟨by rw [put_n]; exact hf.n1, by rw [put_size]; exact hf.s1, fun i hi => ?_⟩
  rw [put_n] at hi
  rw [put_size, h2]
  split
  · exact pad_len _ _ (by rw [mark_len]; omega)
  · split
    · exact pad_len _ _ (by rw [slotL_len]; omega)
    · exact extend_len hf h1 i hi
/-- A put behind records that lie there. -/
theorem put_holds {D : DS} (hf : Fine D) {live : Nat} {y : Ext} {rs0 rs : List (List UInt8)} (hy : Lies D y rs0) (heach : ∀ r ∈ rs, r.length ≤ 1048576) (hfit : y.bytes + (frames rs).length ≤ capN D) (h : (D.put live y rs).dead = false) :
    Holds (D.put live y rs) (1 - live) (y.plus rs) (rs0 ++ rs) := by
  obtain ⟨h1, h2⟩ := put_last h
  have hcap : capN (D.put live y rs) = capN D := by unfold capN areaN; rw [put_n, put_size]
  refine ⟨put_fine hf h, ⟨hy.area, ?_, by rw [hcap]; exact hfit, ?_, ?_, ?_⟩, by omega, ?_, ?_⟩
  · show y.bytes + _ = _
    rw [frames_append, List.length_append, hy.bytes]
  · show y.records + _ = _
    rw [List.length_append, hy.recs]
  · intro r hr
    rcases List.mem_append.1 hr with hr | hr
    · exact hy.each r hr
    · exact heach r hr
  · rw [frames_append, ← hy.data]
    have e := extend_data hf hy.area hfit (y.records + rs.length) h1
    rw [← e]
    exact extL_congr _ (by rw [put_n, extend_n]) fun j hj => by rw [h2, if_neg (by omega), if_neg (by omega)]
  · rw [h2, if_pos rfl, ← mark_len (1 - live)]
    exact pad_take
  · rw [h2, if_neg (by omega), if_pos rfl, ← slotL_len (y.plus rs)]
    exact pad_take
/-- No records, anywhere. -/
theorem lies_nil {D : DS} {a : Nat} (ha : a ≤ 1) : Lies D ⟨a, 0, 0⟩ [] := ⟨ha, rfl, Nat.zero_le _, rfl, (fun _ h => by cases h), (by unfold extL; rw [List.take_zero]; rfl)⟩
theorem flush_holds {D : DS} {live : Nat} {x : Ext} {rs : List (List UInt8)} (h : Holds D live x rs) (hd : D.flush.dead = false) : Holds D.flush live x rs := by
  obtain ⟨-, e⟩ := flush_alive hd
  have hcap : capN D.flush = capN D := by unfold capN areaN; rw [DS.flush_n, DS.flush_size]
  refine ⟨⟨by rw [DS.flush_n]; exact h.fine.n1, by rw [DS.flush_size]; exact h.fine.s1, fun i hi => ?_⟩, ⟨h.lies.area, h.lies.bytes, by rw [hcap]; exact h.lies.fit, h.lies.recs, h.lies.each, ?_⟩, h.one, by rw [e]; exact h.mark, by rw [e]; exact h.slot⟩
  · rw [DS.flush_n] at hi
    rw [DS.flush_size, e]
    exact h.fine.len i hi
  · rw [extL_congr x (DS.flush_n D) fun j _ => e j]
    exact h.lies.data
theorem format_last {D : DS} (h : D.format.dead = false) : D.dead = false ∧ ∀ j, D.format.last j = if j = 0 then pad D.size (markL 0) else if j = 1 then pad D.size (slotL ⟨0, 0, 0⟩) else D.last j := by
  unfold DS.format at h ⊢
  obtain ⟨h1, e1⟩ := write_alive h
  obtain ⟨h2, e2⟩ := flush_alive h1
  obtain ⟨h3, e3⟩ := write_alive h2
  obtain ⟨h4, e4⟩ := flush_alive h3
  obtain ⟨h5, e5⟩ := write_alive h4
  refine ⟨h5, fun j => ?_⟩
  simp only [e1, e2, e3, e4, e5]
  by_cases hj : j = 0
  · simp [hj]
  · simp [hj]
theorem format_n (D : DS) : D.format.n = D.n := by unfold DS.format; simp only [DS.flush_n, DS.write_n]
theorem format_size (D : DS) : D.format.size = D.size := by unfold DS.format; simp only [DS.flush_size, DS.write_size]
theorem format_holds {D : DS} (hf : Fine D) (h : D.format.dead = false) : Holds D.format 0 ⟨0, 0, 0⟩ [] := by
  obtain ⟨-, e⟩ := format_last h
  have hs := hf.s1
  refine ⟨⟨by rw [format_n]; exact hf.n1, by rw [format_size]; exact hf.s1, fun i hi => ?_⟩, lies_nil (Nat.zero_le _), Nat.zero_le _, ?_, ?_⟩
  · rw [format_n] at hi
    rw [format_size, e]
    split
    · exact pad_len _ _ (by rw [mark_len]; omega)
    · split
      · exact pad_len _ _ (by rw [slotL_len]; omega)
      · exact hf.len i hi
  · rw [e, if_pos rfl, ← mark_len 0]
    exact pad_take
  · rw [e, if_neg (by omega), if_pos rfl, ← slotL_len ⟨0, 0, 0⟩]
    exact pad_take
/-- Opening a disk, whatever lies on it, leaves a log there. -/
theorem opened_some {D : DS} {live : Nat} {x : Ext} {rs : List (List UInt8)} (h : Holds D live x rs) (hd : D.opened.dead = false) : openX D = (live, x, rs) ∧ Holds D.opened live x rs := by
  have hfi := h.find
  unfold openX
  unfold DS.opened at hd ⊢
  rw [hfi] at hd ⊢
  exact ⟨rfl, flush_holds h hd⟩
theorem opened_none {D : DS} (hf : Fine D) (hn : findP D = none) (hd : D.opened.dead = false) : openX D = (0, ⟨0, 0, 0⟩, []) ∧ Holds D.opened 0 ⟨0, 0, 0⟩ [] := by
  unfold openX
  unfold DS.opened at hd ⊢
  rw [hn] at hd ⊢
  exact ⟨rfl, flush_holds (format_holds hf (flush_alive hd).1) hd⟩
-- A disk whose power is not cut.
def DS.on (D : DS) : Prop := D.dead = false ∧ D.sched = false
theorem DS.on.draw {D : DS} (h : D.on) : D.draw = D := by unfold DS.draw; rw [if_neg (by rw [h.1]; simp), if_neg (by rw [h.2]; simp)]
theorem DS.on.write {D : DS} (h : D.on) (i : Nat) (l : List UInt8) : (D.write i l).on := by unfold DS.write; rw [h.draw, if_neg (by rw [h.1]; simp)]; exact h
theorem DS.on.flush {D : DS} (h : D.on) : D.flush.on := by unfold DS.flush; rw [h.draw, if_neg (by rw [h.1]; simp)]; exact h
theorem DS.on.writesAt : ∀ (cs : List (List UInt8)) {D : DS} (i : Nat), D.on → (Go.Proofs.YtpnboihbifhigaaGreatDoor.writesAt D i cs).on
  | [], _, _, h => h
  | _ :: cs, _, i, h => DS.on.writesAt cs (i + 1) (h.write _ _)
theorem DS.on.put {D : DS} (h : D.on) (live : Nat) (y : Ext) (rs : List (List UInt8)) : (D.put live y rs).on := by
  unfold DS.put DS.extend
  exact (((DS.on.writesAt _ _ h).write _ _).flush.write _ _).flush
theorem DS.on.format {D : DS} (h : D.on) : D.format.on := ((((h.write _ _).flush).write _ _).flush).write _ _
theorem DS.on.opened {D : DS} (h : D.on) : D.opened.on := by
  unfold DS.opened
  split
  · exact h.flush
  · exact h.format.flush
theorem new_on (n s : Nat) : (DS.new n s).on := ⟨rfl, rfl⟩
theorem new_fine {n s : Nat} (h1 : 16 ≤ n ∧ n ≤ 4096) (h2 : 128 ≤ s ∧ s ≤ 4096) : Fine (DS.new n s) := ⟨h1, h2, fun _ _ => List.length_replicate⟩
theorem new_none {n : Nat} : findP (DS.new n 256) = none := by
  unfold findP
  have : markP ((DS.new n 256).last 0) = none := by
    show markP (List.replicate 256 0) = none
    rfl
  rw [this]
  rfl
end Go.Proofs.YtpnboihbifhigaaGreatDoor
/- Commit, where the power is not cut. -/
namespace Go.Proofs.YtpnboihbifhigaaGreatDoor
open Go Go.RowKit
theorem own_arg {w : World} {B n : Nat} {e : TypeId} {v : Value} {xs : List Value} (h : w.ownsRow B e 1 v n xs) : ArgV w (fun k => B ≤ k ∧ k < w.heap.size) v xs := by
  have hl : xs.length = n := by have := h.1; omega
  rcases h.2 with ⟨rfl, h0⟩ | ⟨g, cap, cur, rfl, hb, hg, h1, h2, h3, h4⟩
  · obtain rfl : xs = [] := List.eq_nil_of_length_eq_zero (by omega)
    exact ⟨none, 0, rfl, Nat.le_refl _, Nat.zero_le _, .inl rfl⟩
  · refine ⟨_, cap, by rw [hl], by rw [hl]; exact h1, h2, .inr ⟨g, 0, rfl, ⟨hb, (Array.getElem?_eq_some_iff.1 hg).1⟩, fun i u hi => ?_⟩⟩
    have := h.cells (g := g) rfl i u hi
    rwa [Go.WideShapes.add_plain] at this
theorem ArgV.wide {w : World} {S S' : Nat → Prop} {v : Value} {xs : List Value} (h : ArgV w S v xs) (hS : ∀ k, S k → S' k) : ArgV w S' v xs := h.mono fun k _ hk => hS k hk
theorem frames_le_of {rs : List (List UInt8)} {m : Nat} (h : ∀ r ∈ rs, r.length ≤ m) : (frames rs).length ≤ rs.length * (m + 8) := by
  induction rs with
  | nil => simp [frames]
  | cons r rs ih =>
    rw [frames_cons, List.length_append, frame_len, List.length_cons, Nat.succ_mul]
    have := ih fun x hx => h x (by simp [hx])
    have := h r (by simp)
    omega
theorem any_tooL {rs : List (List UInt8)} {m : Nat} (h : ∀ r ∈ rs, r.length ≤ m) (hm : m ≤ 1048576) : rs.any tooL = false := by
  rw [List.any_eq_false]
  intro r hr
  unfold tooL
  have := h r hr
  simp
  omega
/-- Commit, where it fits and the power is not cut. -/
theorem commit_on {W : World} {lb sb live : Nat} {x : Ext} {S : Nat → Prop} {D : DS} {rs0 rs : List (List UInt8)} {T : Nat → Prop} {rv : Value} (hL : LogV W lb sb live x) (hD : DiskV W sb S D) (hon : D.on) (hH : Holds D live x rs0) (hlb : ¬ S lb) (hT : Tab W) (hS0 : ¬ S 1) (hl0 : 1 < lb)
    (hr : RecsV W T rv rs) (hTd : ∀ k, T k → ¬ S k ∧ k ≠ lb) (hrl : rs.length ≤ 2147483648) (heach : ∀ r ∈ rs, r.length ≤ 1048576) (hfit : x.bytes + (frames rs).length ≤ capN D) :
    Calls Tryz.prog 59 #[.pointer (some ⟨lb, 0, none⟩), rv] W fun e w' => e = .returned (.int .i64 0) ∧ ∃ S', DiskV w' sb S' (D.put live x rs) ∧ LogV w' lb sb (1 - live) (x.plus rs) ∧ (D.put live x rs).on ∧ Holds (D.put live x rs) (1 - live) (x.plus rs) (rs0 ++ rs) ∧ Mv W (fun k => S k ∨ k = lb) w' (fun k => S' k ∨ k = lb) ∧ ¬ S' lb := by
  have hpon := hon.put live x rs
  have hcap := hH.fine.cap
  have hcl := count_le rs0
  have hb := hH.lies.bytes
  have hf := hH.lies.fit
  have hrc := hH.lies.recs
  refine commit_of hL ((put_any hL hD hon.1 hlb hT hS0 hl0 hH.fine.n1.1 hH.one hH.mark16 x hH.lies.area (by omega) hr hTd hrl (any_tooL heach (Nat.le_refl _)) hfit).mono (R' := fun e w' => e = .returned (.int .i64 0) ∧ ∃ S', DiskV w' sb S' (D.put live x rs) ∧ LogV w' lb sb (1 - live) (x.plus rs) ∧ (D.put live x rs).on ∧ Holds (D.put live x rs) (1 - live) (x.plus rs) (rs0 ++ rs) ∧ Mv W (fun k => S k ∨ k = lb) w' (fun k => S' k ∨ k = lb) ∧ ¬ S' lb) ?_) ?_
  · rintro e w' ⟨S', rfl, hD', hL', hM⟩
    rw [hpon.1] at hL'
    have he : errOf (D.put live x rs) = 0 := by unfold errOf; rw [hpon.1]; rfl
    exact ⟨by rw [he], S', hD', hL', hpon, put_holds hH.fine hH.lies heach hfit hpon.1, hM⟩
  · rintro e w' ⟨rfl, _⟩
    exact ⟨_, rfl⟩
end Go.Proofs.YtpnboihbifhigaaGreatDoor
/- Reset and Open, where the power is not cut. -/
namespace Go.Proofs.YtpnboihbifhigaaGreatDoor
open Go Go.RowKit
theorem reset_on {W : World} {lb sb live : Nat} {x : Ext} {S : Nat → Prop} {D : DS} {rs0 rs : List (List UInt8)} {T : Nat → Prop} {rv : Value} (hL : LogV W lb sb live x) (hD : DiskV W sb S D) (hon : D.on) (hH : Holds D live x rs0) (hlb : ¬ S lb) (hT : Tab W) (hS0 : ¬ S 1) (hl0 : 1 < lb)
    (hr : RecsV W T rv rs) (hTd : ∀ k, T k → ¬ S k ∧ k ≠ lb) (hrl : rs.length ≤ 2147483648) (heach : ∀ r ∈ rs, r.length ≤ 1048576) (hfit : (frames rs).length ≤ capN D) :
    Calls Tryz.prog 52 #[.pointer (some ⟨lb, 0, none⟩), rv] W fun e w' => e = .returned (.int .i64 0) ∧ ∃ S' D', DiskV w' sb S' D' ∧ LogV w' lb sb (1 - live) (Ext.plus ⟨1 - x.area, 0, 0⟩ rs) ∧ D'.on ∧ D'.n = D.n ∧ D'.size = D.size ∧ Holds D' (1 - live) (Ext.plus ⟨1 - x.area, 0, 0⟩ rs) rs ∧ Mv W (fun k => S k ∨ k = lb) w' (fun k => S' k ∨ k = lb) ∧ ¬ S' lb := by
  have hpon := hon.put live ⟨1 - x.area, 0, 0⟩ rs
  refine reset_of hL hH.lies.area ((put_any hL hD hon.1 hlb hT hS0 hl0 hH.fine.n1.1 hH.one hH.mark16 ⟨1 - x.area, 0, 0⟩ (Nat.sub_le _ _) (by simp) hr hTd hrl (any_tooL heach (Nat.le_refl _)) (by simpa using hfit)).mono ?_) ?_
  · rintro e w' ⟨S', rfl, hD', hL', hM⟩
    rw [hpon.1] at hL'
    have he : errOf (D.put live ⟨1 - x.area, 0, 0⟩ rs) = 0 := by unfold errOf; rw [hpon.1]; rfl
    refine ⟨by rw [he], S', _, hD', hL', hpon, put_n _ _ _ _, put_size _ _ _ _, ?_, hM⟩
    have := put_holds (rs0 := []) hH.fine (lies_nil (Nat.sub_le 1 x.area)) heach (by simpa using hfit) hpon.1
    simpa using this
  · rintro e w' ⟨rfl, _⟩
    exact ⟨_, rfl⟩
/-- Open, of a disk that holds a log, or none. -/
theorem open_on {W : World} {sb : Nat} {S : Nat → Prop} {D : DS} {live : Nat} {x : Ext} {rs : List (List UInt8)} (hD : DiskV W sb S D) (hon : D.on) (hf : Fine D) (hT : Tab W) (hS0 : ¬ S 1) (h0 : 1 < W.heap.size)
    (hH : Holds D live x rs ∨ (findP D = none ∧ live = 0 ∧ x = ⟨0, 0, 0⟩ ∧ rs = [])) :
    Calls Tryz.prog 28 #[.pointer (some ⟨sb, 0, none⟩)] W fun e w' => ∃ lb v S', e = .returned (.tuple #[.pointer (some ⟨lb, 0, none⟩), v, .int .i64 0]) ∧ DiskV w' sb S' D.opened ∧ D.opened.on ∧ Holds D.opened live x rs ∧ W.heap.size ≤ lb ∧ ¬ S' lb ∧ LogV w' lb sb live x ∧ RecsO w' W.heap.size v rs ∧ (∀ k, Own v k → k ≠ lb) ∧ Mv W S w' S' := by
  have hoon := hon.opened
  have hox : openX D = (live, x, rs) ∧ Holds D.opened live x rs := by
    rcases hH with h | ⟨h, rfl, rfl, rfl⟩
    · exact opened_some h hoon.1
    · exact opened_none hf h hoon.1
  refine (open_any hD hon.1 hT hS0 h0 hf.n1.1 hf.s1.1).mono ?_
  rintro e w' ⟨S', hD', hM, h | ⟨-, lb, v, he, h1, h2, h3, h4, h5⟩⟩
  · rw [hoon.1] at h
    cases h.1
  · rw [hox.1] at h3 h4
    exact ⟨lb, v, S', he, hD', hoon, hox.2, h1, h2, h3, h4, h5, hM⟩
end Go.Proofs.YtpnboihbifhigaaGreatDoor
/- A log on a disk, as the laws hold it: made, opened, committed to, reset. -/
namespace Go.Proofs.YtpnboihbifhigaaGreatDoor
open Go Go.RowKit
/-- The log at lb, on the disk at sb, whose blocks all lie from B on. -/
structure LgS (w : World) (B sb lb : Nat) (S : Nat → Prop) (D : DS) (live : Nat) (x : Ext) (rs : List (List UInt8)) : Prop where
  disk : DiskV w sb S D
  log : LogV w lb sb live x
  on : D.on
  holds : Holds D live x rs
  own : ∀ k, S k → B ≤ k
  low : B ≤ lb
  nlb : ¬ S lb
/-- A disk of n sectors of 256 bytes that holds the records rs, or none and nothing at all. -/
def DkC (n : Nat) (w : World) (B sb : Nat) (S : Nat → Prop) (rs : List (List UInt8)) : Prop :=
  ∃ D live x, DiskV w sb S D ∧ D.on ∧ Fine D ∧ D.n = n ∧ D.size = 256 ∧ (Holds D live x rs ∨ (findP D = none ∧ live = 0 ∧ x = ⟨0, 0, 0⟩ ∧ rs = [])) ∧ ∀ k, S k → B ≤ k
def LgC (n : Nat) (w : World) (B sb lb : Nat) (S : Nat → Prop) (rs : List (List UInt8)) : Prop := ∃ D live x, LgS w B sb lb S D live x rs ∧ D.n = n ∧ D.size = 256
def OL (S : Nat → Prop) (lb : Nat) : Nat → Prop := fun k => S k ∨ k = lb
section
variable {n B sb lb : Nat} {S : Nat → Prop} {rs : List (List UInt8)} {w w' W : World}
theorem LgC.dk (h : LgC n w B sb lb S rs) : DkC n w B sb S rs := by
  obtain ⟨D, live, x, h, h1, h2⟩ := h
  exact ⟨D, live, x, h.disk, h.on, h.holds.fine, h1, h2, .inl h.holds, h.own⟩
theorem LgC.upd {F : Nat → Prop} (h : LgC n w B sb lb S rs) (hu : Upd F w w') (hF : ∀ k, OL S lb k → ¬ F k) : LgC n w' B sb lb S rs := by
  obtain ⟨D, live, x, h, h1⟩ := h
  exact ⟨D, live, x, ⟨h.disk.upd hu fun k hk => hF k (.inl hk), hu.heap h.log (hF _ (.inr rfl)), h.on, h.holds, h.own, h.low, h.nlb⟩, h1⟩
theorem DkC.upd {F : Nat → Prop} (h : DkC n w B sb S rs) (hu : Upd F w w') (hF : ∀ k, S k → ¬ F k) : DkC n w' B sb S rs := by
  obtain ⟨D, live, x, h, h1⟩ := h
  exact ⟨D, live, x, h.upd hu hF, h1⟩
theorem LgC.ge (h : LgC n w B sb lb S rs) {k : Nat} (hk : OL S lb k) : B ≤ k := by
  obtain ⟨D, live, x, h, h1⟩ := h
  rcases hk with hk | rfl
  · exact h.own k hk
  · exact h.low
theorem LgC.old (h : LgC n w B sb lb S rs) {k : Nat} (hk : OL S lb k) : k < w.heap.size := by
  obtain ⟨D, live, x, h, h1⟩ := h
  rcases hk with hk | rfl
  · exact h.disk.old k hk
  · exact (Array.getElem?_eq_some_iff.1 h.log).1
theorem DkC.ge (h : DkC n w B sb S rs) {k : Nat} (hk : S k) : B ≤ k := by
  obtain ⟨D, live, x, h, _, _, _, _, _, h1⟩ := h
  exact h1 k hk
theorem DkC.old (h : DkC n w B sb S rs) {k : Nat} (hk : S k) : k < w.heap.size := by
  obtain ⟨D, live, x, h, h1⟩ := h
  exact h.old k hk
theorem DkC.n1 (h : DkC n w B sb S rs) : 16 ≤ n ∧ n ≤ 4096 := by
  obtain ⟨D, live, x, h, _, h2, h3, _⟩ := h
  exact ⟨by have := h2.n1.1; omega, by have := h2.n1.2; omega⟩
/-- A new disk. -/
theorem new_dk (w : World) (n : Nat) (h1 : 16 ≤ n) (h2 : n ≤ 4096) :
    Calls Tryz.prog 11 #[.int .i64 n, .int .i64 256] w fun e w' => ∃ sb S, e = .returned (.pointer (some ⟨sb, 0, none⟩)) ∧ DkC n w' w.heap.size sb S [] ∧ Below w.heap.size w w' := by
  refine (new_any w n 256 (by omega) h2 (by decide) (by decide)).mono ?_
  rintro e w' ⟨sb, S, he, hD, hS, hb⟩
  exact ⟨sb, S, he, ⟨DS.new n 256, 0, ⟨0, 0, 0⟩, hD, new_on _ _, new_fine ⟨h1, h2⟩ (by decide), rfl, rfl, .inr ⟨new_none, rfl, rfl, rfl⟩, hS⟩, hb⟩
theorem opened_n (D : DS) : D.opened.n = D.n := by
  unfold DS.opened
  split
  · exact DS.flush_n _
  · rw [DS.flush_n, format_n]
theorem opened_size (D : DS) : D.opened.size = D.size := by
  unfold DS.opened
  split
  · exact DS.flush_size _
  · rw [DS.flush_size, format_size]
/-- It is opened. -/
theorem open_dk (h : DkC n W B sb S rs) (hB : 1 + 1 ≤ B) (hBz : B ≤ W.heap.size) (hT : Tab W) :
    Calls Tryz.prog 28 #[.pointer (some ⟨sb, 0, none⟩)] W fun e w' => ∃ lb v S', e = .returned (.tuple #[.pointer (some ⟨lb, 0, none⟩), v, .int .i64 0]) ∧ LgC n w' B sb lb S' rs ∧ RecsO w' W.heap.size v rs ∧ (∀ k, Own v k → k ≠ lb) ∧ W.heap.size ≤ lb ∧ Mv W S w' S' := by
  obtain ⟨D, live, x, hD, hon, hf, hn, hs, hH, hS⟩ := h
  refine (open_on hD hon hf hT (fun h => by have := hS 1 h; omega) (by omega) hH).mono ?_
  rintro e w' ⟨lb, v, S', he, h1, h2, h3, h4, h5, h6, h7, h8, h9⟩
  refine ⟨lb, v, S', he, ⟨_, live, x, ⟨h1, h6, h2, h3, fun k hk => ?_, by omega, h5⟩, by rw [opened_n, hn], by rw [opened_size, hs]⟩, h7, h8, h4, h9⟩
  rcases h9.2 k hk with h | h
  · exact hS k h
  · omega
def capC (n : Nat) : Nat := ((n - 3) / 2) * 256
theorem cap_of {D : DS} (hn : D.n = n) (hs : D.size = 256) : capN D = capC n := by unfold capN areaN capC; rw [hn, hs]
/-- Records are added. -/
theorem commit_lg {T : Nat → Prop} {rv : Value} {rs' : List (List UInt8)} (h : LgC n W B sb lb S rs) (hB : 1 + 1 ≤ B) (hT : Tab W) (hr : RecsV W T rv rs') (hTd : ∀ k, T k → ¬ OL S lb k) (hrl : rs'.length ≤ 2147483648) (heach : ∀ r ∈ rs', r.length ≤ 1048576)
    (hfit : (frames rs).length + (frames rs').length ≤ capC n) :
    Calls Tryz.prog 59 #[.pointer (some ⟨lb, 0, none⟩), rv] W fun e w' => e = .returned (.int .i64 0) ∧ ∃ S', LgC n w' B sb lb S' (rs ++ rs') ∧ Mv W (OL S lb) w' (OL S' lb) := by
  obtain ⟨D, live, x, h, hn, hs⟩ := h
  have hlb := h.low
  refine (commit_on h.log h.disk h.on h.holds h.nlb hT (fun hk => by have := h.own 1 hk; omega) (by omega) hr (fun k hk => ⟨fun hk' => hTd k hk (.inl hk'), fun e => hTd k hk (.inr e)⟩) hrl heach (by rw [h.holds.lies.bytes, cap_of hn hs]; exact hfit)).mono ?_
  rintro e w' ⟨he, S', h1, h2, h3, h4, h5, h6⟩
  refine ⟨he, S', ⟨_, _, _, ⟨h1, h2, h3, h4, fun k hk => ?_, hlb, fun hk => ?_⟩, by rw [put_n, hn], by rw [put_size, hs]⟩, h5⟩
  · rcases h5.2 k (.inl hk) with (hk | rfl) | hk
    · exact h.own k hk
    · exact hlb
    · have := h.disk.old
      have h7 := (Array.getElem?_eq_some_iff.1 h.log).1
      omega
  · exact h6 hk
end
end Go.Proofs.YtpnboihbifhigaaGreatDoor
/- Reset, Room, Count of a log as the laws hold it; what is refused. -/
namespace Go.Proofs.YtpnboihbifhigaaGreatDoor
open Go Go.RowKit
section
variable {n B sb lb : Nat} {S : Nat → Prop} {rs : List (List UInt8)} {w w' W : World}
/-- Records are replaced. -/
theorem reset_lg {T : Nat → Prop} {rv : Value} {rs' : List (List UInt8)} (h : LgC n W B sb lb S rs) (hB : 1 + 1 ≤ B) (hT : Tab W) (hr : RecsV W T rv rs') (hTd : ∀ k, T k → ¬ OL S lb k) (hrl : rs'.length ≤ 2147483648) (heach : ∀ r ∈ rs', r.length ≤ 1048576)
    (hfit : (frames rs').length ≤ capC n) :
    Calls Tryz.prog 52 #[.pointer (some ⟨lb, 0, none⟩), rv] W fun e w' => e = .returned (.int .i64 0) ∧ ∃ S', LgC n w' B sb lb S' rs' ∧ Mv W (OL S lb) w' (OL S' lb) := by
  obtain ⟨D, live, x, h, hn, hs⟩ := h
  have hlb := h.low
  refine (reset_on h.log h.disk h.on h.holds h.nlb hT (fun hk => by have := h.own 1 hk; omega) (by omega) hr (fun k hk => ⟨fun hk' => hTd k hk (.inl hk'), fun e => hTd k hk (.inr e)⟩) hrl heach (by rw [cap_of hn hs]; exact hfit)).mono ?_
  rintro e w' ⟨he, S', D', h1, h2, h3, e1, e2, h4, h5, h6⟩
  refine ⟨he, S', ⟨_, _, _, ⟨h1, h2, h3, h4, fun k hk => ?_, hlb, fun hk => ?_⟩, by rw [e1, hn], by rw [e2, hs]⟩, h5⟩
  · rcases h5.2 k (.inl hk) with (hk | rfl) | hk
    · exact h.own k hk
    · exact hlb
    · have := h.disk.old
      have h7 := (Array.getElem?_eq_some_iff.1 h.log).1
      omega
  · exact h6 hk
theorem LgC.fit (h : LgC n W B sb lb S rs) : (frames rs).length ≤ capC n := by
  obtain ⟨D, live, x, h, hn, hs⟩ := h
  rw [← h.holds.lies.bytes, ← cap_of hn hs]
  exact h.holds.lies.fit
theorem LgC.each (h : LgC n W B sb lb S rs) : ∀ r ∈ rs, r.length ≤ 1048576 := by
  obtain ⟨D, live, x, h, hn, hs⟩ := h
  exact h.holds.lies.each
/-- There is some log at lb. -/
def LogA (w : World) (lb : Nat) : Prop := ∃ sb live x, LogV w lb sb live x
theorem LgC.any (h : LgC n W B sb lb S rs) : LogA W lb := by
  obtain ⟨D, live, x, h, _⟩ := h
  exact ⟨_, _, _, h.log⟩
theorem LgC.nlb (h : LgC n W B sb lb S rs) : ¬ S lb := by
  obtain ⟨D, live, x, h, _⟩ := h
  exact h.nlb
theorem LogA.upd {F : Nat → Prop} (h : LogA w lb) (hu : Upd F w w') (hF : ¬ F lb) : LogA w' lb := by
  obtain ⟨sb, live, x, h⟩ := h
  exact ⟨sb, live, x, hu.heap h hF⟩
/-- A record that is too long. -/
theorem long_lg {T : Nat → Prop} {rv : Value} {rs' : List (List UInt8)} (h : LogA W lb) (hr : RecsV W T rv rs') (hany : rs'.any tooL = true) :
    Calls Tryz.prog 59 #[.pointer (some ⟨lb, 0, none⟩), rv] W fun e w' => e = .returned (.int .i64 42) ∧ Below W.heap.size W w' := by
  obtain ⟨sb, live, x, h⟩ := h
  refine commit_of h (put_long lb x hr hany) ?_
  rintro e w' ⟨rfl, _⟩
  exact ⟨_, rfl⟩
set_option maxRecDepth 100000 in
/-- A disk of few sectors. -/
theorem open_small {D : DS} (h : DiskV W sb S D) (hn : D.n < 16) :
    Calls Tryz.prog 28 #[.pointer (some ⟨sb, 0, none⟩)] W fun e w' => e = .returned (.tuple #[.pointer none, .slice none 0 0, .int .i64 41]) ∧ Below W.heap.size W w' := by
  have hsec := sectorsV h
  have hn1 := h.n1
  replace h := hide h
  go_enter Tryz.func28, Tryz.ntmps28
  go_wp2_with fail
  refine hsec.mono ?_
  rintro e w' ⟨rfl, rfl⟩
  go_wp2_with fail
  refine bodyPost_ret (v := .tuple #[.pointer none, .slice none 0 0, .int .i64 41]) (by simp [results, Tryz.results28, go_sem]) rfl ?_
  exact ⟨rfl, Below.refl _ _⟩
end
theorem RecsO.slice {w : World} {B : Nat} {v : Value} {rs : List (List UInt8)} (h : RecsO w B v rs) : ∃ A c, v = .slice A rs.length c ∧ c ≤ maxLen := by
  obtain ⟨vs, R, h1, _⟩ := h
  rcases h1.2 with ⟨rfl, h0⟩ | ⟨g, cap, cur, rfl, hb, hg, h1, h2, _⟩
  · rw [h0]; exact ⟨_, _, rfl, Nat.zero_le _⟩
  · exact ⟨_, _, rfl, h2⟩
section
variable {w : World}
/-- Two records that have just been laid out. -/
theorem RecsV.at2 {T : Nat → Prop} {g : Nat} {u v : Value} {r s : List UInt8} (c0 : w.cell? ⟨g, 0, none⟩ = some u) (c1 : w.cell? ⟨g, 1, none⟩ = some v) (hg : T g) (hu : ArgV w T u (bv r)) (hv : ArgV w T v (bv s)) (nu : NonNil u) (nv : NonNil v) : RecsV w T (.slice (some ⟨g, 0, none⟩) 2 2) [r, s] := by
  refine ⟨[u, v], rfl, .two c0 c1 hg, fun i x t hx ht => ?_⟩
  match i, hx, ht with
  | 0, hx, ht => obtain rfl := Option.some.inj hx; obtain rfl := Option.some.inj ht; exact ⟨hu, nu⟩
  | 1, hx, ht => obtain rfl := Option.some.inj hx; obtain rfl := Option.some.inj ht; exact ⟨hv, nv⟩
theorem RecsV.at1 {T : Nat → Prop} {g : Nat} {u : Value} {r : List UInt8} (c0 : w.cell? ⟨g, 0, none⟩ = some u) (hg : T g) (hu : ArgV w T u (bv r)) (nu : NonNil u) : RecsV w T (.slice (some ⟨g, 0, none⟩) 1 1) [r] := by
  refine ⟨[u], rfl, .one c0 hg, fun i x t hx ht => ?_⟩
  match i, hx, ht with
  | 0, hx, ht => obtain rfl := Option.some.inj hx; obtain rfl := Option.some.inj ht; exact ⟨hu, nu⟩
end
end Go.Proofs.YtpnboihbifhigaaGreatDoor
/- The listed table, as the card's row lays it. -/
namespace Go.Proofs.YtpnboihbifhigaaGreatDoor
open Go Go.RowKit Sums
theorem Tab.pos {w : World} (h : Tab w) : 1 < w.heap.size := World.block_lt_of_cell? _ _ (h 0 0 rfl)
theorem tabOf {w : World} (h : Lib.TabIs Tryz.prog w "augur/sum.nibbleSums" .u32 [0, 498536548, 997073096, 651767980, 1994146192, 1802195444, 1303535960, 1342533948, 3988292384, 4027552580, 3604390888, 3412177804, 2607071920, 2262029012, 2685067896, 3183342108]) : Tab w := by
  intro i x hx
  have hi : i < tab.length := by
    rcases Nat.lt_or_ge i tab.length with h | h
    · exact h
    · rw [List.getElem?_eq_none h] at hx; cases hx
  have hc := h.cell (g := 1) (by kernel_rfl) i hi
  rw [hc]
  have key : ∀ (i x : Nat), tab[i]? = some x → ([0, 498536548, 997073096, 651767980, 1994146192, 1802195444, 1303535960, 1342533948, 3988292384, 4027552580, 3604390888, 3412177804, 2607071920, 2262029012, 2685067896, 3183342108] : List Int).getD i 0 = (x : Int) := by
    intro i x hx
    have e : ([0, 498536548, 997073096, 651767980, 1994146192, 1802195444, 1303535960, 1342533948, 3988292384, 4027552580, 3604390888, 3412177804, 2607071920, 2262029012, 2685067896, 3183342108] : List Int) = tab.map (fun (n : Nat) => (n : Int)) := rfl
    rw [e, List.getD_eq_getElem?_getD, List.getElem?_map, hx]
    rfl
  rw [key i x hx]

end Go.Proofs.YtpnboihbifhigaaGreatDoor
/- Slices of anything that came in: so many cells an element. -/
namespace Go.Proofs.YtpnboihbifhigaaGreatDoor
open Go Go.RowKit Go.ChangeShapes Go.WideShapes Go.ChangeAt Go.Deep
def SegV (w : World) (S : Nat → Prop) (v : Value) (n : Nat) (xs : List Value) : Prop :=
  ∃ A c, v = .slice A n c ∧ n ≤ c ∧ c ≤ maxLen ∧ (xs = [] ∨ ∃ b o, A = some ⟨b, o, none⟩ ∧ S b ∧ ∀ i u, xs[i]? = some u → w.cell? ⟨b, o + i, none⟩ = some u)
theorem SegV.upd {w w' : World} {F S : Nat → Prop} {v : Value} {n : Nat} {xs : List Value} (h : SegV w S v n xs) (hu : Upd F w w') (hS : ∀ k, S k → ¬ F k) : SegV w' S v n xs := by
  obtain ⟨A, c, h1, h2, h3, h4⟩ := h
  refine ⟨A, c, h1, h2, h3, ?_⟩
  rcases h4 with rfl | ⟨b, o, rfl, hb, hc⟩
  · exact .inl rfl
  · exact .inr ⟨b, o, rfl, hb, fun i u hi => hu.cell (hc i u hi) (hS b hb)⟩
theorem SegV.mono {w : World} {S S' : Nat → Prop} {v : Value} {n : Nat} {xs : List Value} (h : SegV w S v n xs) (hS : ∀ k, k < w.heap.size → S k → S' k) : SegV w S' v n xs := by
  obtain ⟨A, c, h1, h2, h3, h4⟩ := h
  refine ⟨A, c, h1, h2, h3, ?_⟩
  rcases h4 with rfl | ⟨b, o, rfl, hb, hc⟩
  · exact .inl rfl
  · cases xs with
    | nil => exact .inl rfl
    | cons x xs => exact .inr ⟨b, o, rfl, hS b (World.block_lt_of_cell? w _ (hc 0 x rfl)) hb, hc⟩
theorem SegV.slice {w : World} {S : Nat → Prop} {v : Value} {n : Nat} {xs : List Value} (h : SegV w S v n xs) : ∃ A c, v = .slice A n c ∧ n ≤ maxLen := by
  obtain ⟨A, c, h1, h2, h3, h4⟩ := h
  exact ⟨A, c, h1, Nat.le_trans h2 h3⟩
/-- The cells of one element. -/
theorem seg_get {α : Type} (f : α → List Value) (k : Nat) (hf : ∀ a, (f a).length = k) : ∀ (l : List α) (i : Nat) (h : i < l.length) (j : Nat), j < k → (l.map f).flatten[k * i + j]? = (f l[i])[j]?
  | a :: l, 0, _, j, hj => by
    rw [List.map_cons, List.flatten_cons, List.getElem?_append_left (by rw [hf]; omega)]
    simp
  | a :: l, i + 1, h, j, hj => by
    rw [List.map_cons, List.flatten_cons, List.getElem?_append_right (by rw [hf, Nat.mul_succ]; omega), hf, show k * (i + 1) + j - k = k * i + j by rw [Nat.mul_succ]; omega]
    exact seg_get f k hf l i (by simpa using h) j hj
theorem SegV.get {α : Type} {w : World} {S : Nat → Prop} {A : Option Addr} {n c : Nat} {f : α → List Value} {k : Nat} (hf : ∀ a, (f a).length = k) (hk : 0 < k) {l : List α} (h : SegV w S (.slice A n c) n (l.map f).flatten) {i : Nat} (hi : i < l.length) :
    ∃ b o, A = some ⟨b, o, none⟩ ∧ S b ∧ ∀ j u, j < k → (f l[i])[j]? = some u → w.cell? ⟨b, o + (k * i + j), none⟩ = some u := by
  obtain ⟨A', c', h1, h2, h3, h4⟩ := h
  injection h1 with e1 e2 e3
  subst e1
  rcases h4 with h0 | ⟨b, o, rfl, hb, hc⟩
  · have h5 := seg_get f k hf l i hi 0 hk
    rw [h0, List.getElem?_nil] at h5
    have := (List.getElem?_eq_none_iff.1 h5.symm)
    rw [hf] at this
    omega
  · exact ⟨b, o, rfl, hb, fun j u hj hu => hc _ u (by rw [seg_get f k hf l i hi j hj]; exact hu)⟩

section
variable {H : Type} {enc : TypeId × Value → H} {w : World} {base : Nat} {spare : Nat → Bool} {held : Bool}
theorem seg_len {α : Type} (f : α → List Value) (k : Nat) (hf : ∀ a, (f a).length = k) : ∀ l : List α, (l.map f).flatten.length = k * l.length
  | [] => by simp
  | b :: l => by rw [List.map_cons, List.flatten_cons, List.length_append, hf, seg_len f k hf l, List.length_cons, Nat.mul_succ]; omega
/-- A slice of anything that came in: each element's cells read as the element. -/
theorem open_seg {α : Type} (f : α → List Value) (k : Nat) (ok : α → Prop) {t e : TypeId} {cs : List Value} {fuel : Nat} {x : DataW H × List MemPlace} (ht : Tryz.prog.underlying t = some (.slice e)) (hk : Tryz.prog.cellsOf e = k) (hpos : 0 < k) (hf : ∀ a, (f a).length = k)
    (hel : ∀ {n : Nat} {cs : List Value} {x : DataW H × List MemPlace}, DataW.trod enc Tryz.prog w base spare held n e cs = some x → ∃ a, cs = f a ∧ ok a)
    (h : DataW.trod enc Tryz.prog w base spare held fuel t cs = some x) :
    ∃ (v : Value) (l : List α), cs = [v] ∧ SegV w (· < w.heap.size) v l.length (l.map f).flatten ∧ ∀ a ∈ l, ok a := by
  rcases open_slice ht h with ⟨h0, _⟩ | ⟨a, len, cap, m, n, D, Pl, rfl, hb, hl, hm, hmm, hx, hi⟩
  · exact ⟨_, [], h0, ⟨none, 0, rfl, Nat.le_refl _, Nat.zero_le _, .inl rfl⟩, fun _ h => by cases h⟩
  · have hlm : len ≤ m := by rw [hmm]; split <;> omega
    have hg : ∀ i, i < len → ∃ b : α, ok b ∧ ∀ j, j < k → w.cell? (a.add (i * k + j)) = (f b)[j]? := by
      intro i hi2
      obtain ⟨cs', hc, ht'⟩ := hi i (by omega)
      obtain ⟨b, rfl, hob⟩ := hel ht'
      obtain ⟨_, _, h3⟩ := World.cells?_some hc
      refine ⟨b, hob, fun j hj => ?_⟩
      have := h3 j (by omega)
      rw [hk, Go.Deep.add_add] at this
      exact this
    obtain ⟨l, hll, hlp⟩ : ∃ l : List α, l.length = len ∧ ∀ (i : Nat) (h : i < l.length), ok l[i] ∧ ∀ j, j < k → w.cell? (a.add (i * k + j)) = (f l[i])[j]? := by
      clear hi hx hmm hlm h hl
      induction len with
      | zero => exact ⟨[], rfl, fun i h => by simp at h⟩
      | succ len ih =>
        obtain ⟨l, h1, h2⟩ := ih fun i hi => hg i (by omega)
        obtain ⟨b, hb1, hb2⟩ := hg len (by omega)
        refine ⟨l ++ [b], by simp [h1], fun i hi => ?_⟩
        rcases Nat.lt_or_ge i l.length with hlt | hge
        · rw [List.getElem_append_left hlt]; exact h2 i hlt
        · have : i = len := by simp [h1] at hi; omega
          subst this
          rw [List.getElem_append_right (by omega)]
          simp only [h1, Nat.sub_self, List.getElem_cons_zero]
          exact ⟨hb1, hb2⟩
    subst hll
    refine ⟨_, l, rfl, ⟨some a, cap, rfl, hl, hm, ?_⟩, fun b hb => ?_⟩
    · rcases Nat.eq_zero_or_pos l.length with h0 | h0
      · left
        rw [List.eq_nil_of_length_eq_zero h0]; rfl
      · right
        have hcell : ∀ i u, (l.map f).flatten[i]? = some u → w.cell? (a.add i) = some u := by
          intro i u hu
          have hi1 : i / k < l.length := by
            rcases Nat.lt_or_ge (i / k) l.length with h1 | h1
            · exact h1
            · exfalso
              rw [List.getElem?_eq_none (by
                rw [seg_len f k hf]
                have := Nat.mul_le_mul_left k h1
                have := Nat.div_add_mod i k
                omega)] at hu
              cases hu
          have hi2 := Nat.mod_lt i hpos
          have e : i = k * (i / k) + i % k := (Nat.div_add_mod i k).symm
          rw [e, seg_get f k hf l _ hi1 _ hi2] at hu
          have := (hlp _ hi1).2 _ hi2
          rw [Nat.mul_comm] at this
          rw [e, this]; exact hu
        have hsl := sl_of_at hcell
        rcases hsl with h1 | ⟨b, o, h1, h2, h3⟩
        · exfalso
          have h4 := seg_get f k hf l 0 h0 0 hpos
          rw [h1, List.getElem?_nil] at h4
          have := List.getElem?_eq_none_iff.1 h4.symm
          rw [hf] at this
          omega
        · exact ⟨b, o, h1, h2, h3⟩
    · obtain ⟨i, hi, rfl⟩ := List.getElem_of_mem hb
      exact (hlp i hi).1

end
end Go.Proofs.YtpnboihbifhigaaGreatDoor
