/- What a log is on a disk, and that it is found there. -/
import Derived.Test.YtimblkkojcbipaaDoorOpenW
namespace Go.Proofs.YtimblkkojcbipaaDoor
open Go Go.RowKit
open Sums (crc)
theorem takeP_app {n : Nat} {a t : List UInt8} (h : a.length = n) : takeP n (a ++ t) = some (a, t) := by
  subst h
  unfold takeP
  rw [if_pos (by simp)]
  simp
theorem numP_app {n : Nat} (t : List UInt8) (h : n < 4294967296) : numP (num4 n ++ t) = some (n, t) := by
  unfold numP
  rw [takeP_app (num_len n)]
  simp [val_num n h]
theorem frameP_app (r t : List UInt8) (h : r.length < 4294967296) : frameP (frame r ++ t) = some (r, t) := by
  unfold frameP frame
  rw [List.append_assoc, List.append_assoc, takeP_app (num_len _)]
  simp only [Option.bind_some]
  rw [numP_app _ (Sums.crc_lt _)]
  simp only [Option.bind_some]
  rw [val_num _ h, takeP_app rfl]
  simp
theorem recsP_app : ∀ (rs : List (List UInt8)) (t : List UInt8), (∀ r ∈ rs, r.length < 4294967296) → recsP rs.length (frames rs ++ t) = some (rs, t)
  | [], t, _ => rfl
  | r :: rs, t, h => by
    rw [frames_cons, List.append_assoc]
    unfold recsP
    rw [List.length_cons]
    simp only
    rw [frameP_app r _ (h r (by simp))]
    simp only [Option.bind_some]
    rw [recsP_app rs t fun r hr => h r (by simp [hr])]
    rfl
theorem mark_len (live : Nat) : (markL live).length = 17 := rfl
theorem markP_pre {l : List UInt8} {live : Nat} (hl : live ≤ 1) (h : l.take 17 = markL live) : markP l = some live := by
  have h1 : l = markL live ++ l.drop 17 := by rw [← h, List.take_append_drop]
  rw [h1]
  unfold markP markL
  rcases Nat.le_one_iff_eq_zero_or_eq_one.1 hl with rfl | rfl <;> rfl
theorem slotP_pre {D : DS} {x : Ext} {l : List UInt8} (ha : x.area ≤ 1) (hb : x.bytes ≤ capN D) (ho : x.ok) (h : l.take 20 = slotL x) : slotP D l = some x := by
  have h1 : l = slotL x ++ l.drop 20 := by rw [← h, List.take_append_drop]
  rw [h1]
  unfold slotP slotL
  rw [frameP_app _ _ (by simp [slotBody, num_len])]
  simp only [Option.bind_some]
  unfold slotBody
  rw [List.append_assoc, numP_app _ ho.1]
  simp only [Option.bind_some]
  rw [numP_app _ ho.2.1]
  simp only [Option.bind_some]
  rw [← List.append_nil (num4 x.records), numP_app _ ho.2.2]
  simp only [Option.bind_some]
  rw [if_pos ⟨by omega, hb⟩]
/-- The records rs lie where x tells. -/
structure Lies (D : DS) (x : Ext) (rs : List (List UInt8)) : Prop where
  area : x.area ≤ 1
  bytes : x.bytes = (frames rs).length
  fit : x.bytes ≤ capN D
  recs : x.records = rs.length
  each : ∀ r ∈ rs, r.length ≤ 1048576
  data : extL D x = frames rs
/-- The disk's form. -/
structure Fine (D : DS) : Prop where
  n1 : 16 ≤ D.n ∧ D.n ≤ 4096
  s1 : 128 ≤ D.size ∧ D.size ≤ 4096
  len : ∀ i, i < D.n → (D.last i).length = D.size
/-- The disk holds the records rs, told by the slot 'live'. -/
structure Holds (D : DS) (live : Nat) (x : Ext) (rs : List (List UInt8)) : Prop where
  fine : Fine D
  lies : Lies D x rs
  one : live ≤ 1
  mark : (D.last 0).take 17 = markL live
  slot : (D.last (1 + live)).take 20 = slotL x
theorem Fine.cap {D : DS} (h : Fine D) : capN D ≤ 8380416 := by
  have h1 := area_le h.n1.2
  have h2 : areaN D * D.size ≤ 2046 * 4096 := Nat.mul_le_mul h1 h.s1.2
  unfold capN
  omega
theorem count_le (rs : List (List UInt8)) : 8 * rs.length ≤ (frames rs).length := by
  induction rs with
  | nil => simp
  | cons r rs ih =>
    rw [frames_cons, List.length_append, frame_len, List.length_cons]
    omega
theorem Lies.ok {D : DS} {x : Ext} {rs : List (List UInt8)} (h : Lies D x rs) (hf : Fine D) : x.ok := by
  have h1 := hf.cap
  have h2 := count_le rs
  have h3 := h.fit
  have h4 := h.bytes
  have h5 := h.recs
  exact ⟨by have := h.area; omega, by omega, by omega⟩
theorem Holds.find {D : DS} {live : Nat} {x : Ext} {rs : List (List UInt8)} (h : Holds D live x rs) : findP D = some (live, x, rs) := by
  unfold findP
  rw [markP_pre h.one h.mark]
  simp only [Option.bind_some]
  rw [slotP_pre h.lies.area h.lies.fit (h.lies.ok h.fine) h.slot]
  simp only [Option.bind_some]
  rw [h.lies.data, h.lies.recs, ← List.append_nil (frames rs), recsP_app rs [] fun r hr => by have := h.lies.each r hr; omega]
  simp
theorem Holds.mark16 {D : DS} {live : Nat} {x : Ext} {rs : List (List UInt8)} (h : Holds D live x rs) : (D.last 0)[16]? = some (UInt8.ofNat live) := by
  have h1 : D.last 0 = markL live ++ (D.last 0).drop 17 := by rw [← h.mark, List.take_append_drop]
  rw [h1]
  unfold markL
  rfl
-- What is read from a disk that has power still.
theorem write_alive {D : DS} {i : Nat} {l : List UInt8} (h : (D.write i l).dead = false) : D.dead = false ∧ ∀ j, (D.write i l).last j = if j = i then l else D.last j := by
  unfold DS.write at h ⊢
  cases hd : D.draw.dead with
  | true => rw [hd] at h; simp only [if_true] at h; rw [hd] at h; cases h
  | false =>
    simp only [Bool.false_eq_true, if_false]
    refine ⟨?_, fun j => ?_⟩
    · cases hx : D.dead with
      | false => rfl
      | true => rw [DS.draw_dead hx, hx] at hd; cases hd
    · unfold DS.last setAt
      simp only [DS.draw_wr, DS.draw_dur]
      split <;> rfl
theorem flush_alive {D : DS} (h : D.flush.dead = false) : D.dead = false ∧ ∀ j, D.flush.last j = D.last j := by
  unfold DS.flush at h ⊢
  cases hd : D.draw.dead with
  | true => rw [hd] at h; simp only [if_true] at h; rw [hd] at h; cases h
  | false =>
    simp only [Bool.false_eq_true, if_false]
    refine ⟨?_, fun j => ?_⟩
    · cases hx : D.dead with
      | false => rfl
      | true => rw [DS.draw_dead hx, hx] at hd; cases hd
    · unfold DS.last
      simp only [DS.draw_wr, DS.draw_dur]
      rfl
theorem writesAt_alive : ∀ (cs : List (List UInt8)) (D : DS) (i : Nat), (writesAt D i cs).dead = false → D.dead = false ∧ ∀ j, (writesAt D i cs).last j = if i ≤ j then (match cs[j - i]? with | some c => pad D.size c | none => D.last j) else D.last j
  | [], D, i, h => ⟨h, fun j => by simp [writesAt]⟩
  | c :: cs, D, i, h => by
    obtain ⟨h1, h2⟩ := writesAt_alive cs _ _ h
    obtain ⟨h3, h4⟩ := write_alive h1
    refine ⟨h3, fun j => ?_⟩
    show (writesAt _ _ cs).last j = _
    rw [h2 j, DS.write_size, h4 j]
    rcases Nat.lt_trichotomy i j with hlt | rfl | hgt
    · rw [if_pos (show i + 1 ≤ j by omega), if_neg (show ¬ j = i by omega), if_pos (show i ≤ j by omega), show j - i = (j - (i + 1)) + 1 by omega, List.getElem?_cons_succ]
    · rw [if_neg (show ¬ i + 1 ≤ i by omega), if_pos rfl, if_pos (Nat.le_refl _), Nat.sub_self]
      rfl
    · rw [if_neg (show ¬ i + 1 ≤ j by omega), if_neg (show ¬ j = i by omega), if_neg (show ¬ i ≤ j by omega)]
-- The bytes of sectors, behind chunks that were written.
theorem chunk_pad {n : Nat} (hn : 1 ≤ n) : ∀ (m : Nat) (l : List UInt8), l.length ≤ m * n → ∃ z, ((chunkL n l).map (pad n)).flatten = l ++ z
  | 0, l, h => by
    obtain rfl : l = [] := List.length_eq_zero_iff.1 (by omega)
    exact ⟨[], by rw [chunkL_nil]; rfl⟩
  | m + 1, l, h => by
    rcases Nat.eq_zero_or_pos l.length with h0 | h0
    · obtain rfl : l = [] := List.length_eq_zero_iff.1 h0
      exact ⟨[], by rw [chunkL_nil]; rfl⟩
    · rw [chunkL_cons hn h0, List.map_cons, List.flatten_cons]
      rcases Nat.le_total l.length n with h1 | h1
      · rw [List.drop_eq_nil_of_le h1, chunkL_nil, List.take_of_length_le h1]
        exact ⟨List.replicate (n - l.length) 0, by simp [pad]⟩
      · obtain ⟨z, hz⟩ := chunk_pad hn m (l.drop n) (by rw [List.length_drop]; rw [Nat.succ_mul] at h; omega)
        have hp : pad n (l.take n) = l.take n := by
          unfold pad
          rw [List.length_take, Nat.min_eq_left h1, Nat.sub_self]
          simp
        exact ⟨z, by rw [hz, hp, ← List.append_assoc, List.take_append_drop]⟩
theorem flat_range (g : Nat → List UInt8) (a k : Nat) : (List.range (a + k)).flatMap g = (List.range a).flatMap g ++ (List.range k).flatMap fun j => g (a + j) := by
  induction k with
  | zero => simp
  | succ k ih => rw [← Nat.add_assoc, List.range_succ, List.flatMap_append, ih, List.range_succ, List.flatMap_append]; simp
theorem flat_congr {g g' : Nat → List UInt8} {k : Nat} (h : ∀ j, j < k → g j = g' j) : (List.range k).flatMap g = (List.range k).flatMap g' := by
  induction k with
  | zero => rfl
  | succ k ih => rw [List.range_succ, List.flatMap_append, List.flatMap_append, ih fun j hj => h j (by omega)]; simp [h k (by omega)]
theorem flat_list (cs : List (List UInt8)) : (List.range cs.length).flatMap (fun j => cs[j]?.getD []) = cs.flatten := by
  induction cs with
  | nil => rfl
  | cons c cs ih =>
    rw [List.length_cons, Nat.add_comm, flat_range]
    simp only [List.range_one, List.flatMap_cons, List.flatMap_nil, List.append_nil, List.getElem?_cons_zero, Option.getD_some, List.flatten_cons]
    rw [← ih]
    congr 1
    exact flat_congr fun j _ => by rw [Nat.add_comm, List.getElem?_cons_succ]
end Go.Proofs.YtimblkkojcbipaaDoor
