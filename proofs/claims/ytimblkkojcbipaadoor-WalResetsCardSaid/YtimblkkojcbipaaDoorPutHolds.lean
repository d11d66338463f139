/- What a put leaves, where there is power. -/
import Derived.Test.YtimblkkojcbipaaDoorHolds
import Derived.Test.YtimblkkojcbipaaDoorNew
namespace Go.Proofs.YtimblkkojcbipaaDoor
open Go Go.RowKit
theorem take_two {P Q R : List UInt8} {n : Nat} (h : n = P.length + Q.length) : (P ++ Q ++ R).take n = P ++ Q := by
  subst h
  rw [← List.length_append, List.take_left']
  rfl
theorem secN_eq (D : DS) (a t : Nat) : secN D a t = 3 + a * areaN D + t / D.size := rfl
section
variable {D : DS} {y : Ext} {l : List UInt8}
/-- Where an extent ends. -/
theorem ext_end (hf : Fine D) (ha : y.area ≤ 1) (hb : y.bytes ≤ capN D) (hs : 0 < y.bytes % D.size) : y.bytes / D.size < areaN D ∧ secN D y.area y.bytes < D.n := by
  have h0 : 0 < D.size := by have := hf.s1; omega
  have hhi := area_hi ha hf.n1.1
  have h2 : y.bytes / D.size < areaN D := by
    rw [Nat.div_lt_iff_lt_mul h0]
    rcases Nat.lt_or_ge y.bytes (areaN D * D.size) with h3 | h3
    · exact h3
    · exfalso
      have h4 : y.bytes = areaN D * D.size := by unfold capN at hb; omega
      rw [h4, Nat.mul_mod_left] at hs
      omega
  exact ⟨h2, by rw [secN_eq]; omega⟩
theorem ext_part (hf : Fine D) (ha : y.area ≤ 1) (hb : y.bytes ≤ capN D) : extL D y = bytesOf D y.area (y.bytes / D.size) ++ (D.last (secN D y.area y.bytes)).take (y.bytes % D.size) := by
  have h0 : 0 < D.size := by have := hf.s1; omega
  have hhi := area_hi ha hf.n1.1
  have hdm := Nat.div_add_mod y.bytes D.size
  have hq : y.bytes / D.size ≤ areaN D := by
    rw [Nat.div_le_iff_le_mul_add_pred h0]
    unfold capN at hb
    rw [Nat.mul_comm] at hb
    omega
  have hPl := bytesOf_len D y.area hf.len (y.bytes / D.size) (by omega)
  unfold extL
  rcases Nat.eq_zero_or_pos (y.bytes % D.size) with hs | hs
  · obtain ⟨t, ht⟩ := bytesOf_pre D y.area hq
    rw [ht, hs, List.take_zero, List.append_nil, List.take_left']
    rw [hPl, Nat.mul_comm]
    omega
  · obtain ⟨hlt, hin⟩ := ext_end hf ha hb hs
    obtain ⟨t, ht⟩ := bytesOf_pre D y.area (show y.bytes / D.size + 1 ≤ areaN D by omega)
    rw [ht, bytesOf_succ, ← secN_eq]
    have hgl := hf.len _ hin
    have hml := Nat.mod_lt y.bytes h0
    conv => lhs; rw [← List.take_append_drop (y.bytes % D.size) (D.last (secN D y.area y.bytes)), ← List.append_assoc, List.append_assoc]
    refine take_two ?_
    rw [hPl, List.length_take, Nat.min_eq_left (by omega), Nat.mul_comm]
    omega
theorem extend_data (hf : Fine D) (ha : y.area ≤ 1) (hfit : y.bytes + l.length ≤ capN D) (r : Nat) (h : (D.extend y l).dead = false) : extL (D.extend y l) ⟨y.area, y.bytes + l.length, r⟩ = extL D y ++ l := by
  have h0 : 0 < D.size := by have := hf.s1; omega
  have hhi := area_hi ha hf.n1.1
  have hdm := Nat.div_add_mod y.bytes D.size
  have hml := Nat.mod_lt y.bytes h0
  have hq : y.bytes / D.size ≤ areaN D := by
    rw [Nat.div_le_iff_le_mul_add_pred h0]
    unfold capN at hfit
    rw [Nat.mul_comm] at hfit
    omega
  have hPl := bytesOf_len D y.area hf.len (y.bytes / D.size) (by omega)
  rw [ext_part hf ha (by omega), List.append_assoc]
  have hfe : extB D y l = (D.last (secN D y.area y.bytes)).take (y.bytes % D.size) ++ l := rfl
  rw [← hfe]
  have hfl : (extB D y l).length = y.bytes % D.size + l.length := by
    rw [hfe, List.length_append, List.length_take]
    rcases Nat.eq_zero_or_pos (y.bytes % D.size) with hs | hs
    · rw [hs]; simp
    · rw [hf.len _ (ext_end hf ha (by omega) hs).2, Nat.min_eq_left (by omega)]
  obtain ⟨q, hqe⟩ : ∃ q, q = y.bytes / D.size := ⟨_, rfl⟩
  have hi0 : secN D y.area y.bytes = 3 + y.area * areaN D + q := by rw [hqe]; rfl
  rw [← hqe] at hq hPl hdm ⊢
  obtain ⟨cs, hcs⟩ : ∃ cs, cs = chunkL D.size (extB D y l) := ⟨_, rfl⟩
  have hle : (extB D y l).length ≤ (areaN D - q) * D.size := by
    rw [hfl, Nat.sub_mul]
    unfold capN at hfit
    rw [Nat.mul_comm] at hdm
    omega
  have hm : cs.length ≤ areaN D - q := by rw [hcs]; exact chunkL_le D.size _ _ h0 hle
  obtain ⟨z, hz⟩ := chunk_pad h0 _ _ hle
  rw [← hcs] at hz
  obtain ⟨-, hw⟩ := writesAt_alive _ D _ h
  rw [← hcs] at hw
  have hna : areaN (D.extend y l) = areaN D := by unfold areaN DS.extend; rw [writesAt_n]
  unfold extL bytesOf
  simp only [hna]
  obtain ⟨R, hR⟩ : ∃ R, areaN D = q + cs.length + R := ⟨areaN D - q - cs.length, by omega⟩
  rw [hR, flat_range, flat_range]
  have e1 : (List.range q).flatMap (fun j => (D.extend y l).last (3 + y.area * areaN D + j)) = bytesOf D y.area q := by
    unfold bytesOf
    refine flat_congr fun j hj => ?_
    show (writesAt _ _ _).last _ = _
    rw [← hcs, hw, hi0, if_neg (by omega)]
  have e2 : (List.range cs.length).flatMap (fun j => (D.extend y l).last (3 + y.area * areaN D + (q + j))) = (cs.map (pad D.size)).flatten := by
    rw [← flat_list, List.length_map]
    refine flat_congr fun j hj => ?_
    show (writesAt _ _ _).last _ = _
    rw [← hcs, hw, hi0, if_pos (by omega), show 3 + y.area * areaN D + (q + j) - (3 + y.area * areaN D + q) = j by omega, List.getElem?_map, List.getElem?_eq_getElem hj]
    rfl
  rw [← hR, e1, e2, hz, ← List.append_assoc, List.append_assoc]
  refine take_two ?_
  rw [hPl, hfl, Nat.mul_comm]
  omega
end
theorem chunkL_mem {n : Nat} (hn : 1 ≤ n) : ∀ (m : Nat) (l : List UInt8), l.length ≤ m * n → ∀ c ∈ chunkL n l, c.length ≤ n
  | 0, l, h, c, hc => by
    obtain rfl : l = [] := List.length_eq_zero_iff.1 (by omega)
    rw [chunkL_nil] at hc
    cases hc
  | m + 1, l, h, c, hc => by
    rcases Nat.eq_zero_or_pos l.length with h0 | h0
    · obtain rfl : l = [] := List.length_eq_zero_iff.1 h0
      rw [chunkL_nil] at hc
      cases hc
    · rw [chunkL_cons hn h0] at hc
      rcases List.mem_cons.1 hc with rfl | hc
      · rw [List.length_take]; omega
      · exact chunkL_mem hn m _ (by rw [List.length_drop]; rw [Nat.succ_mul] at h; omega) c hc
theorem chunkL_mem' {n : Nat} (hn : 1 ≤ n) {l c : List UInt8} (hc : c ∈ chunkL n l) : c.length ≤ n := chunkL_mem hn l.length l (Nat.le_mul_of_pos_right _ hn) c hc
theorem pad_take {n : Nat} {l : List UInt8} : (pad n l).take l.length = l := by unfold pad; rw [List.take_left']; rfl
theorem extL_congr {D D' : DS} (x : Ext) (hn : D'.n = D.n) (h : ∀ j, 3 ≤ j → D'.last j = D.last j) : extL D' x = extL D x := by
  unfold extL bytesOf areaN
  rw [hn]
  congr 1
  exact flat_congr fun j _ => h _ (by omega)
theorem extend_n (D : DS) (y : Ext) (l : List UInt8) : (D.extend y l).n = D.n := writesAt_n _ _ _
theorem extend_size (D : DS) (y : Ext) (l : List UInt8) : (D.extend y l).size = D.size := writesAt_size _ _ _
theorem put_n (D : DS) (live : Nat) (y : Ext) (rs : List (List UInt8)) : (D.put live y rs).n = D.n := by unfold DS.put; simp only [DS.flush_n, DS.write_n, extend_n]
theorem put_size (D : DS) (live : Nat) (y : Ext) (rs : List (List UInt8)) : (D.put live y rs).size = D.size := by unfold DS.put; simp only [DS.flush_size, DS.write_size, extend_size]
theorem put_last {D : DS} {live : Nat} {y : Ext} {rs : List (List UInt8)} (h : (D.put live y rs).dead = false) :
    (D.extend y (frames rs)).dead = false ∧ ∀ j, (D.put live y rs).last j = if j = 0 then pad D.size (markL (1 - live)) else if j = 1 + (1 - live) then pad D.size (slotL (y.plus rs)) else (D.extend y (frames rs)).last j := by
  unfold DS.put at h ⊢
  obtain ⟨h1, e1⟩ := flush_alive h
  obtain ⟨h2, e2⟩ := write_alive h1
  obtain ⟨h3, e3⟩ := flush_alive h2
  obtain ⟨h4, e4⟩ := write_alive h3
  exact ⟨h4, fun j => by simp only [e1, e2, e3, e4]⟩
theorem extend_len {D : DS} (hf : Fine D) {y : Ext} {l : List UInt8} (h : (D.extend y l).dead = false) (j : Nat) (hj : j < D.n) : ((D.extend y l).last j).length = D.size := by
  have h0 : 1 ≤ D.size := by have := hf.s1; omega
  obtain ⟨-, hw⟩ := writesAt_alive _ D _ h
  show ((writesAt _ _ _).last j).length = _
  rw [hw]
  split
  · split
    · rename_i c hc
      exact pad_len _ _ (chunkL_mem' h0 (List.mem_of_getElem? hc))
    · exact hf.len j hj
  · exact hf.len j hj
theorem put_fine {D : DS} (hf : Fine D) {live : Nat} {y : Ext} {rs : List (List UInt8)} (h : (D.put live y rs).dead = false) : Fine (D.put live y rs) := by
  obtain ⟨h1, h2⟩ := put_last h
  have hs := hf.s1
  refine ⟨by rw [put_n]; exact hf.n1, by rw [put_size]; exact hf.s1, fun i hi => ?_⟩
  rw [put_n] at hi
  rw [put_size, h2]
  split
  · exact pad_len _ _ (by rw [mark_len]; omega)
  · split
    · exact pad_len _ _ (by rw [slotL_len]; omega)
    · exact extend_len hf h1 i hi
/-- A put behind records that lie there. -/
theorem put_holds {D : DS} (hf : Fine D) {live : Nat} {y : Ext} {rs0 rs : List (List UInt8)} (hy : Lies D y rs0) (heach : ∀ r ∈ rs, r.length ≤ 1048576) (hfit : y.bytes + (frames rs).length ≤ capN D) (h : (D.put live y rs).dead = false) :
    Holds (D.put live y rs) (1 - live) (y.plus rs) (rs0 ++ rs) := by
  obtain ⟨h1, h2⟩ := put_last h
  have hcap : capN (D.put live y rs) = capN D := by unfold capN areaN; rw [put_n, put_size]
  refine ⟨put_fine hf h, ⟨hy.area, ?_, by rw [hcap]; exact hfit, ?_, ?_, ?_⟩, by omega, ?_, ?_⟩
  · show y.bytes + _ = _
    rw [frames_append, List.length_append, hy.bytes]
  · show y.records + _ = _
    rw [List.length_append, hy.recs]
  · intro r hr
    rcases List.mem_append.1 hr with hr | hr
    · exact hy.each r hr
    · exact heach r hr
  · rw [frames_append, ← hy.data]
    have e := extend_data hf hy.area hfit (y.records + rs.length) h1
    rw [← e]
    exact extL_congr _ (by rw [put_n, extend_n]) fun j hj => by rw [h2, if_neg (by omega), if_neg (by omega)]
  · rw [h2, if_pos rfl, ← mark_len (1 - live)]
    exact pad_take
  · rw [h2, if_neg (by omega), if_pos rfl, ← slotL_len (y.plus rs)]
    exact pad_take
/-- No records, anywhere. -/
theorem lies_nil {D : DS} {a : Nat} (ha : a ≤ 1) : Lies D ⟨a, 0, 0⟩ [] := ⟨ha, rfl, Nat.zero_le _, rfl, (fun _ h => by cases h), (by unfold extL; rw [List.take_zero]; rfl)⟩
theorem flush_holds {D : DS} {live : Nat} {x : Ext} {rs : List (List UInt8)} (h : Holds D live x rs) (hd : D.flush.dead = false) : Holds D.flush live x rs := by
  obtain ⟨-, e⟩ := flush_alive hd
  have hcap : capN D.flush = capN D := by unfold capN areaN; rw [DS.flush_n, DS.flush_size]
  refine ⟨⟨by rw [DS.flush_n]; exact h.fine.n1, by rw [DS.flush_size]; exact h.fine.s1, fun i hi => ?_⟩, ⟨h.lies.area, h.lies.bytes, by rw [hcap]; exact h.lies.fit, h.lies.recs, h.lies.each, ?_⟩, h.one, by rw [e]; exact h.mark, by rw [e]; exact h.slot⟩
  · rw [DS.flush_n] at hi
    rw [DS.flush_size, e]
    exact h.fine.len i hi
  · rw [extL_congr x (DS.flush_n D) fun j _ => e j]
    exact h.lies.data
theorem format_last {D : DS} (h : D.format.dead = false) : D.dead = false ∧ ∀ j, D.format.last j = if j = 0 then pad D.size (markL 0) else if j = 1 then pad D.size (slotL ⟨0, 0, 0⟩) else D.last j := by
  unfold DS.format at h ⊢
  obtain ⟨h1, e1⟩ := write_alive h
  obtain ⟨h2, e2⟩ := flush_alive h1
  obtain ⟨h3, e3⟩ := write_alive h2
  obtain ⟨h4, e4⟩ := flush_alive h3
  obtain ⟨h5, e5⟩ := write_alive h4
  refine ⟨h5, fun j => ?_⟩
  simp only [e1, e2, e3, e4, e5]
  by_cases hj : j = 0
  · simp [hj]
  · simp [hj]
theorem format_n (D : DS) : D.format.n = D.n := by unfold DS.format; simp only [DS.flush_n, DS.write_n]
theorem format_size (D : DS) : D.format.size = D.size := by unfold DS.format; simp only [DS.flush_size, DS.write_size]
theorem format_holds {D : DS} (hf : Fine D) (h : D.format.dead = false) : Holds D.format 0 ⟨0, 0, 0⟩ [] := by
  obtain ⟨-, e⟩ := format_last h
  have hs := hf.s1
  refine ⟨⟨by rw [format_n]; exact hf.n1, by rw [format_size]; exact hf.s1, fun i hi => ?_⟩, lies_nil (Nat.zero_le _), Nat.zero_le _, ?_, ?_⟩
  · rw [format_n] at hi
    rw [format_size, e]
    split
    · exact pad_len _ _ (by rw [mark_len]; omega)
    · split
      · exact pad_len _ _ (by rw [slotL_len]; omega)
      · exact hf.len i hi
  · rw [e, if_pos rfl, ← mark_len 0]
    exact pad_take
  · rw [e, if_neg (by omega), if_pos rfl, ← slotL_len ⟨0, 0, 0⟩]
    exact pad_take
/-- Opening a disk, whatever lies on it, leaves a log there. -/
theorem opened_some {D : DS} {live : Nat} {x : Ext} {rs : List (List UInt8)} (h : Holds D live x rs) (hd : D.opened.dead = false) : openX D = (live, x, rs) ∧ Holds D.opened live x rs := by
  have hfi := h.find
  unfold openX
  unfold DS.opened at hd ⊢
  rw [hfi] at hd ⊢
  exact ⟨rfl, flush_holds h hd⟩
theorem opened_none {D : DS} (hf : Fine D) (hn : findP D = none) (hd : D.opened.dead = false) : openX D = (0, ⟨0, 0, 0⟩, []) ∧ Holds D.opened 0 ⟨0, 0, 0⟩ [] := by
  unfold openX
  unfold DS.opened at hd ⊢
  rw [hn] at hd ⊢
  exact ⟨rfl, flush_holds (format_holds hf (flush_alive hd).1) hd⟩
-- A disk whose power is not cut.
def DS.on (D : DS) : Prop := D.dead = false ∧ D.sched = false
theorem DS.on.draw {D : DS} (h : D.on) : D.draw = D := by unfold DS.draw; rw [if_neg (by rw [h.1]; simp), if_neg (by rw [h.2]; simp)]
theorem DS.on.write {D : DS} (h : D.on) (i : Nat) (l : List UInt8) : (D.write i l).on := by unfold DS.write; rw [h.draw, if_neg (by rw [h.1]; simp)]; exact h
theorem DS.on.flush {D : DS} (h : D.on) : D.flush.on := by unfold DS.flush; rw [h.draw, if_neg (by rw [h.1]; simp)]; exact h
theorem DS.on.writesAt : ∀ (cs : List (List UInt8)) {D : DS} (i : Nat), D.on → (Go.Proofs.YtimblkkojcbipaaDoor.writesAt D i cs).on
  | [], _, _, h => h
  | _ :: cs, _, i, h => DS.on.writesAt cs (i + 1) (h.write _ _)
theorem DS.on.put {D : DS} (h : D.on) (live : Nat) (y : Ext) (rs : List (List UInt8)) : (D.put live y rs).on := by
  unfold DS.put DS.extend
  exact (((DS.on.writesAt _ _ h).write _ _).flush.write _ _).flush
theorem DS.on.format {D : DS} (h : D.on) : D.format.on := ((((h.write _ _).flush).write _ _).flush).write _ _
theorem DS.on.opened {D : DS} (h : D.on) : D.opened.on := by
  unfold DS.opened
  split
  · exact h.flush
  · exact h.format.flush
theorem new_on (n s : Nat) : (DS.new n s).on := ⟨rfl, rfl⟩
theorem new_fine {n s : Nat} (h1 : 16 ≤ n ∧ n ≤ 4096) (h2 : 128 ≤ s ∧ s ≤ 4096) : Fine (DS.new n s) := ⟨h1, h2, fun _ _ => List.length_replicate⟩
theorem new_none {n : Nat} : findP (DS.new n 256) = none := by
  unfold findP
  have : markP ((DS.new n 256).last 0) = none := by
    show markP (List.replicate 256 0) = none
    rfl
  rw [this]
  rfl
end Go.Proofs.YtimblkkojcbipaaDoor
