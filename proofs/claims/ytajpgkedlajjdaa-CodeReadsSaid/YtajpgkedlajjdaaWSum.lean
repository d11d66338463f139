/- Walks of the writer of summaries. -/
import Derived.Test.YtajpgkedlajjdaaRefSum
namespace Go.Proofs.Ytajpgkedlajjdaa
open Go.RowKit

theorem nums_two (a b : Nat) : nums [a, b] = num a ++ num b := by simp [nums]

set_option maxRecDepth 100000 in
set_option maxHeartbeats 1600000 in
theorem wInterval_any (B p : Nat) (l : List UInt8) (v : Value) (x : IvalD) (w : World) (hx : x.ok) (hW : Wr w B p l v) (hlen : l.length + 30 ≤ 70368744177664) :
    Calls Try.prog 62 #[.agg #[.pointer (some ⟨p, 0, none⟩)], .agg #[.bool x.some, .int .i64 x.lo, .int .i64 x.hi]] w fun e w' => e = .returned (.tuple #[]) ∧ ∃ v', WStep B p w v w' (l ++ x.bytes) v' := by
  obtain ⟨sm, lo, hi⟩ := x
  obtain ⟨xa, xc⟩ := hx
  have hS := hide (((WStep.refl hW).alloc (.cells #[.pointer (some ⟨p, 0, none⟩)] 83)).alloc (.cells #[.bool sm, .int .i64 lo, .int .i64 hi] 32))
  have hlt := hide (fun k (hk : Fp p v k) => Fp.lt hW hk)
  replace hW := hide hW
  replace hlen := hide hlen
  go_enter Try.func62, Try.ntmps62
  go_wp2_with fail
  have hA := hS.out.1.alloc (.cells #[.bool sm] 4)
  refine (wBool_any B p l v [sm] _ _ hA (ArgV.one (by simp [go_sem]; done) ?_) (by have := hlen.out; simp; omega)).mono ?_
  · intro h; have := hlt.out _ h; first | omega | (simp at this; omega)
  rintro e w2 ⟨rfl, v2, h2⟩
  have hb0 : w2.heap[w.heap.size]? = some (.cells #[.pointer (some ⟨p, 0, none⟩)] 83) := h2.2.1.heap (heap_old (heap_old (heap_new _ _) _) _) (fun h => Nat.lt_irrefl _ (hlt.out _ h))
  have hb1 : w2.heap[w.heap.size + 1]? = some (.cells #[.bool sm, .int .i64 lo, .int .i64 hi] 32) := h2.2.1.heap (heap_old (by
    have := heap_new (w.alloc (.cells #[.pointer (some ⟨p, 0, none⟩)] 83)) (.cells #[.bool sm, .int .i64 lo, .int .i64 hi] 32)
    simpa using this) _) (fun h => by have := hlt.out _ h; omega)
  have hc0 : w2.cell? ⟨w.heap.size, 0, none⟩ = some (.pointer (some ⟨p, 0, none⟩)) := by rw [cell_at hb0]; rfl
  have hc1 : w2.cell? ⟨w.heap.size + 1, 0, none⟩ = some (.bool sm) := by rw [cell_at hb1]; rfl
  have hc2 : w2.cell? ⟨w.heap.size + 1, 1, none⟩ = some (.int .i64 lo) := by rw [cell_at hb1]; rfl
  have hc3 : w2.cell? ⟨w.heap.size + 1, 2, none⟩ = some (.int .i64 hi) := by rw [cell_at hb1]; rfl
  replace h2 := hide ((hS.out.alloc _).trans h2)
  clear hb0 hb1 hA
  cases sm
  · go_wp2_with fail
    go_end0
    exact ⟨rfl, v2, h2.out⟩
  · go_wp2_with fail
    refine (wInt_any B p _ v2 [lo, hi] _ _ (h2.out.1.alloc _) (ArgV.two (by simp [go_sem]; done) (by simp [go_sem]; done) ?_) ?_ ?_).mono ?_
    · exact fun h => Nat.lt_irrefl _ (Fp.lt h2.out.1 h)
    · intro n hn
      simp only [List.mem_cons, List.not_mem_nil, or_false] at hn
      rcases hn with rfl | rfl
      · exact xa
      · exact xc
    · have := hlen.out; simp only [List.length_append, List.length_map, List.length_cons, List.length_nil]; omega
    rintro e w3 ⟨rfl, v3, h3⟩
    go_wp2_with fail
    go_end0
    refine ⟨rfl, v3, ?_⟩
    have h4 := (h2.out.alloc _).trans h3
    have e : IvalD.bytes ⟨true, lo, hi⟩ = [bit true] ++ (num (zig lo) ++ num (zig hi)) := rfl
    rw [e, ← nums_two, ← List.append_assoc]
    exact h4

set_option maxRecDepth 100000 in
set_option maxHeartbeats 1600000 in
theorem wAlarms_any (B p : Nat) (l : List UInt8) (v x : Value) (al : List AlarmD) (w : World) (hx : ArgN w (fun k => ¬ Fp p v k) x al.length (al.map AlarmD.cells).flatten) (hok : ∀ a ∈ al, a.ok) (hn : al.length ≤ 10) (hW : Wr w B p l v) (hlen : l.length + 300 ≤ 70368744177664) :
    Calls Try.prog 61 #[.agg #[.pointer (some ⟨p, 0, none⟩)], x] w fun e w' => e = .returned (.tuple #[]) ∧ ∃ v', WStep B p w v w' (l ++ num al.length ++ alarmsB al) v' := by
  obtain ⟨Ax, cx, rfl, hnx⟩ := hx.slice
  have hS := hide ((WStep.refl hW).alloc (.cells #[.pointer (some ⟨p, 0, none⟩)] 83))
  have hlt := hide (fun k (hk : Fp p v k) => Fp.lt hW hk)
  have hnl := hide (num_len10 (n := al.length) (by omega))
  have hall := hide (alarmsB_le al hok)
  unfold maxLen at hnx
  replace hx := hide hx
  replace hok := hide hok
  replace hW := hide hW
  replace hlen := hide hlen
  go_enter Try.func61, Try.ntmps61
  go_wp2_with fail
  refine (wNum_any B p l v [al.length] _ _ (hS.out.alloc _).1 (ArgV.one (by simp [go_sem]; done) ?_) ?_ ?_).mono ?_
  · intro h; have := hlt.out _ h; first | omega | (simp at this; omega)
  · intro n hn'; rw [List.mem_singleton] at hn'; subst hn'; omega
  · have := hlen.out; simp only [List.length_singleton]; omega
  rintro e w2 ⟨rfl, v2, h2⟩
  rw [nums_one] at h2
  have hb0 : w2.heap[w.heap.size]? = some (.cells #[.pointer (some ⟨p, 0, none⟩)] 83) := h2.2.1.heap (heap_old (heap_new _ _) _) (fun h => Nat.lt_irrefl _ (hlt.out _ h))
  replace h2 := hide ((hS.out.alloc _).trans h2)
  replace hb0 := hide hb0
  have hgw := hide (show w.heap.size < w2.heap.size from (Array.getElem?_eq_some_iff.1 hb0.out).1)
  go_wp2_with fail
  go_loopw [15] (fun i wr => ∃ (k : Nat) (v' : Value), k ≤ al.length ∧ i = .int .i64 k ∧ WStep B p w v wr (l ++ num al.length ++ alarmsB (al.take k)) v' ∧ wr.heap[w.heap.size]? = some (.cells #[.pointer (some ⟨p, 0, none⟩)] 83)) (fun i _ => al.length - (intOf i).toNat)
  case atStart => exact ⟨0, v2, Nat.zero_le _, rfl, by simpa [alarmsB] using h2.out, hb0.out⟩
  case round =>
    clear h2 hb0
    obtain ⟨k, v', hk, rfl, hR, hb0⟩ := hrel
    by_cases hlt2 : k < al.length
    · have hsn := hide (alarmsB_snoc al k hlt2)
      obtain ⟨xa, xc⟩ : Fits al[k].pos ∧ Fits al[k].kind := hok.out _ (List.getElem_mem hlt2)
      obtain ⟨b, o, rfl, hb, hcell⟩ := (hx.out.upd hR.2.1 fun _ h => h).get (k := 2) (fun _ => rfl) (by decide) hlt2
      have hcA := hcell 0 _ (by decide) rfl
      have hcB := hcell 1 _ (by decide) rfl
      have hal1 := hide (hall.out k)
      clear hcell
      generalize al[k].pos = lo at *
      generalize al[k].kind = hi at *
      have e0 : o + k * 2 = o + (2 * k + 0) := by omega
      have e1 : o + k * 2 + 1 = o + (2 * k + 1) := by omega
      rw [← e0] at hcA
      rw [← e1] at hcB
      clear e0 e1
      have hc0 : wr.cell? ⟨w.heap.size, 0, none⟩ = some (.pointer (some ⟨p, 0, none⟩)) := by rw [cell_at hb0]; rfl
      have hgp : w.heap.size < wr.heap.size := (Array.getElem?_eq_some_iff.1 hb0).1
      have hgne : ¬ Fp p v' w.heap.size := by
        rintro (h | h)
        · have := hlt.out p (.inl rfl); omega
        · rcases hR.2.2 _ h with h1 | h1
          · exact Nat.lt_irrefl _ (hlt.out _ (.inr h1))
          · have h2 := own_type hR.1.2.2 h hb0
            exact absurd h2 (by decide)
      replace hgne := hide hgne
      replace hb0 := hide hb0
      replace hR := hide hR
      go_wp2_with fail
      refine (wInt_any B p _ v' [lo, hi] _ _ ((hR.out.alloc _).alloc _).1 (ArgV.two (by simp [go_sem]; done) (by simp [go_sem]; done) ?_) ?_ ?_).mono ?_
      · intro h; have := Fp.lt hR.out.1 h; omega
      · intro n hn
        simp only [List.mem_cons, List.not_mem_nil, or_false] at hn
        rcases hn with rfl | rfl
        · exact xa
        · exact xc
      · have := hlen.out; have := hnl.out; have := hal1.out; simp only [List.length_append, List.length_cons, List.length_nil]; omega
      rintro e w3 ⟨rfl, v3, h3⟩
      have hb2 := h3.2.1.heap (heap_old (heap_old hb0.out _) _) hgne.out
      go_wp2_with fail
      go_roundw
      case rel =>
        refine ⟨k + 1, v3, by omega, by go_num, ?_, hb2⟩
        rw [hsn.out, ← List.append_assoc]
        have h4 := ((hR.out.alloc _).alloc _).trans h3
        rw [List.map_cons, List.map_cons, List.map_nil, nums_two, ← List.append_assoc] at h4
        rw [← List.append_assoc]
        exact h4
      case measure => simp [intOf]; omega
    · obtain rfl : k = al.length := by omega
      rw [List.take_length] at hR
      go_wp2_with fail
      go_end0
      exact ⟨rfl, v', hR⟩

set_option maxRecDepth 100000 in
set_option maxHeartbeats 1600000 in
theorem wCells_any (B p : Nat) (l : List UInt8) (v x : Value) (al : List NamedD) (w : World) (hx : ArgN w (fun k => ¬ Fp p v k) x al.length (al.map NamedD.cells).flatten) (hok : ∀ a ∈ al, a.v.ok) (hn : al.length ≤ 10) (hsz : ∀ a ∈ al, a.name.size ≤ 50) (hW : Wr w B p l v) (hlen : l.length + 1000 ≤ 70368744177664) :
    Calls Try.prog 63 #[.agg #[.pointer (some ⟨p, 0, none⟩)], x] w fun e w' => e = .returned (.tuple #[]) ∧ ∃ v', WStep B p w v w' (l ++ num al.length ++ modB al) v' := by
  obtain ⟨Ax, cx, rfl, hnx⟩ := hx.slice
  have hS := hide ((WStep.refl hW).alloc (.cells #[.pointer (some ⟨p, 0, none⟩)] 83))
  have hlt := hide (fun k (hk : Fp p v k) => Fp.lt hW hk)
  have hnl := hide (num_len10 (n := al.length) (by omega))
  have hall := hide (modB_le al hok hsz)
  unfold maxLen at hnx
  replace hx := hide hx
  replace hok := hide hok
  replace hsz := hide hsz
  replace hW := hide hW
  replace hlen := hide hlen
  go_enter Try.func63, Try.ntmps63
  go_wp2_with fail
  refine (wNum_any B p l v [al.length] _ _ (hS.out.alloc _).1 (ArgV.one (by simp [go_sem]; done) ?_) ?_ ?_).mono ?_
  · intro h; have := hlt.out _ h; first | omega | (simp at this; omega)
  · intro n hn'; rw [List.mem_singleton] at hn'; subst hn'; omega
  · have := hlen.out; simp only [List.length_singleton]; omega
  rintro e w2 ⟨rfl, v2, h2⟩
  rw [nums_one] at h2
  have hb0 : w2.heap[w.heap.size]? = some (.cells #[.pointer (some ⟨p, 0, none⟩)] 83) := h2.2.1.heap (heap_old (heap_new _ _) _) (fun h => Nat.lt_irrefl _ (hlt.out _ h))
  replace h2 := hide ((hS.out.alloc _).trans h2)
  replace hb0 := hide hb0
  have hgw := hide (show w.heap.size < w2.heap.size from (Array.getElem?_eq_some_iff.1 hb0.out).1)
  go_wp2_with fail
  go_loopw [15] (fun i wr => ∃ (k : Nat) (v' : Value), k ≤ al.length ∧ i = .int .i64 k ∧ WStep B p w v wr (l ++ num al.length ++ modB (al.take k)) v' ∧ wr.heap[w.heap.size]? = some (.cells #[.pointer (some ⟨p, 0, none⟩)] 83)) (fun i _ => al.length - (intOf i).toNat)
  case atStart => exact ⟨0, v2, Nat.zero_le _, rfl, by simpa [modB] using h2.out, hb0.out⟩
  case round =>
    clear h2 hb0
    obtain ⟨k, v', hk, rfl, hR, hb0⟩ := hrel
    by_cases hlt2 : k < al.length
    · have hsn := hide (modB_snoc al k hlt2)
      have hax := hok.out _ (List.getElem_mem hlt2)
      have hns := hsz.out _ (List.getElem_mem hlt2)
      obtain ⟨b, o, rfl, hb, hcell⟩ := (hx.out.upd hR.2.1 fun _ h => h).get (k := 4) (fun _ => rfl) (by decide) hlt2
      have hcA := hcell 0 _ (by decide) rfl
      have hcB := hcell 1 _ (by decide) rfl
      have hcC := hcell 2 _ (by decide) rfl
      have hcD := hcell 3 _ (by decide) rfl
      have hal1 := hide (hall.out k)
      have htl := hide (text_le al[k].name (by omega))
      clear hcell
      generalize al[k].name = nm at *
      generalize al[k].v = iv at *
      obtain ⟨sm2, lo2, hi2⟩ := iv
      have e0 : o + k * 4 = o + (4 * k + 0) := by omega
      have e1 : o + k * 4 + 1 = o + (4 * k + 1) := by omega
      have e2 : o + k * 4 + 2 = o + (4 * k + 2) := by omega
      have e3 : o + k * 4 + 3 = o + (4 * k + 3) := by omega
      rw [← e0] at hcA
      rw [← e1] at hcB
      rw [← e2] at hcC
      rw [← e3] at hcD
      clear e0 e1 e2 e3
      have hc0 : wr.cell? ⟨w.heap.size, 0, none⟩ = some (.pointer (some ⟨p, 0, none⟩)) := by rw [cell_at hb0]; rfl
      have hgp : w.heap.size < wr.heap.size := (Array.getElem?_eq_some_iff.1 hb0).1
      have hgne : ¬ Fp p v' w.heap.size := by
        rintro (h | h)
        · have := hlt.out p (.inl rfl); omega
        · rcases hR.2.2 _ h with h1 | h1
          · exact Nat.lt_irrefl _ (hlt.out _ (.inr h1))
          · have h2 := own_type hR.1.2.2 h hb0
            exact absurd h2 (by decide)
      replace hgne := hide hgne
      replace hax := hide hax
      replace hns := hide hns
      replace hb0 := hide hb0
      replace hR := hide hR
      go_wp2_with fail
      refine (wText_any B p _ v' [nm] _ _ ((hR.out.alloc _).alloc _).1 (ArgV.one (by simp [go_sem]; done) ?_) ?_).mono ?_
      · intro h; have := Fp.lt hR.out.1 h; omega
      · rw [texts_one]; have := hlen.out; have := hnl.out; have := hal1.out; have := htl.out; have := hns.out; simp only [List.length_append]; omega
      rintro e w3 ⟨rfl, v3, h3⟩
      rw [texts_one] at h3
      have hb2 := h3.2.1.heap (heap_old (heap_old hb0.out (.cells #[.string nm, .bool sm2, .int .i64 lo2, .int .i64 hi2] 94)) _) hgne.out
      have hnew : w3.heap[wr.heap.size]? = some (.cells #[.string nm, .bool sm2, .int .i64 lo2, .int .i64 hi2] 94) := h3.2.1.heap (heap_old (heap_new _ _) _) (fun h => Nat.lt_irrefl _ (Fp.lt hR.out.1 h))
      have hd0 : w3.cell? ⟨w.heap.size, 0, none⟩ = some (.pointer (some ⟨p, 0, none⟩)) := by rw [cell_at hb2]; rfl
      have hd1 : w3.cell? ⟨wr.heap.size, 1, none⟩ = some (.bool sm2) := by rw [cell_at hnew]; rfl
      have hd2 : w3.cell? ⟨wr.heap.size, 2, none⟩ = some (.int .i64 lo2) := by rw [cell_at hnew]; rfl
      have hd3 : w3.cell? ⟨wr.heap.size, 3, none⟩ = some (.int .i64 hi2) := by rw [cell_at hnew]; rfl
      have hgne3 : ¬ Fp p v3 w.heap.size := by
        rintro (h | h)
        · have := hlt.out p (.inl rfl); omega
        · exact absurd (own_type h3.1.2.2 h hb2) (by decide)
      replace hgne3 := hide hgne3
      replace h3 := hide (((hR.out.alloc _).alloc _).trans h3)
      replace hb2 := hide hb2
      clear hnew hc0 hcA hcB hcC hcD
      go_wp2_with fail
      refine (wInterval_any B p _ v3 ⟨sm2, lo2, hi2⟩ _ hax.out h3.out.1 ?_).mono ?_
      · have := hlen.out; have := hnl.out; have := hal1.out; have := htl.out; have := hns.out; simp only [List.length_append]; omega
      rintro e w4 ⟨rfl, v4, h4⟩
      have hb3 := h4.2.1.heap hb2.out hgne3.out
      go_wp2_with fail
      go_roundw
      case rel =>
        refine ⟨k + 1, v4, by omega, by go_num, ?_, hb3⟩
        rw [hsn.out]
        have h5 := h3.out.trans h4
        simp only [List.append_assoc] at h5 ⊢
        exact h5
      case measure => simp [intOf]; omega
    · obtain rfl : k = al.length := by omega
      rw [List.take_length] at hR
      go_wp2_with fail
      go_end0
      exact ⟨rfl, v', hR⟩

set_option maxRecDepth 100000 in
set_option maxHeartbeats 3200000 in
theorem wsummary_any (B p : Nat) (l : List UInt8) (v xa xm : Value) (s : SumD) (w : World) (hxa : ArgN w (fun k => ¬ Fp p v k) xa s.alarms.length (s.alarms.map AlarmD.cells).flatten) (hxm : ArgN w (fun k => ¬ Fp p v k) xm s.mod.length (s.mod.map NamedD.cells).flatten) (hok : s.ok) (hl : s.light) (hW : Wr w B p l v) (hlen : l.length + 2000 ≤ 70368744177664) :
    Calls Try.prog 43 #[.agg #[.pointer (some ⟨p, 0, none⟩)], .agg #[xa, .bool s.ends, .bool s.ret.some, .int .i64 s.ret.lo, .int .i64 s.ret.hi, xm]] w fun e w' => e = .returned (.tuple #[]) ∧ ∃ v', WStep B p w v w' (l ++ s.bytes) v' := by
  obtain ⟨al, ends, ⟨sm, lo, hi⟩, md⟩ := s
  obtain ⟨ok1, ok2, ok3⟩ := hok
  obtain ⟨li1, li2, li3⟩ := hl
  obtain ⟨Aa, ca, rfl, hna⟩ := hxa.slice
  obtain ⟨Am, cm, rfl, hnm⟩ := hxm.slice
  have hal := hide (alarmsB_le al ok1 al.length)
  have hml := hide (modB_le md ok3 li3 md.length)
  have hil := hide (ival_len ok2)
  simp only at hxa hxm li1 li2 li3 hna hnm
  have hn1 := hide (num_len10 (n := al.length) (by omega))
  unfold maxLen at hna hnm
  rw [List.take_length] at hal hml
  have hS := hide (((WStep.refl hW).alloc (.cells #[.pointer (some ⟨p, 0, none⟩)] 83)).alloc (.cells #[.slice Aa al.length ca, .bool ends, .bool sm, .int .i64 lo, .int .i64 hi, .slice Am md.length cm] 35))
  have hlt := hide (fun k (hk : Fp p v k) => Fp.lt hW hk)
  have hxa1 := hide hxa
  have hxm1 := hide hxm.lt
  clear hxa hxm
  replace hW := hide hW
  replace hlen := hide hlen
  replace ok1 := hide ok1
  replace ok2 := hide ok2
  replace ok3 := hide ok3
  replace li3 := hide li3
  obtain ⟨w1, hw1⟩ : ∃ w1, w1 = (w.alloc (.cells #[.pointer (some ⟨p, 0, none⟩)] 83)).alloc (.cells #[.slice Aa al.length ca, .bool ends, .bool sm, .int .i64 lo, .int .i64 hi, .slice Am md.length cm] 35) := ⟨_, rfl⟩
  have hb0 : w1.heap[w.heap.size]? = some (.cells #[.pointer (some ⟨p, 0, none⟩)] 83) := by rw [hw1]; exact heap_old (heap_new _ _) _
  have hb1 : w1.heap[w.heap.size + 1]? = some (.cells #[.slice Aa al.length ca, .bool ends, .bool sm, .int .i64 lo, .int .i64 hi, .slice Am md.length cm] 35) := by
    rw [hw1]
    have := heap_new (w.alloc (.cells #[.pointer (some ⟨p, 0, none⟩)] 83)) (.cells #[.slice Aa al.length ca, .bool ends, .bool sm, .int .i64 lo, .int .i64 hi, .slice Am md.length cm] 35)
    simpa using this
  rw [← hw1] at hS
  have hcells : ∀ W V L, WStep B p w v W L V → (∀ k o, w1.heap[k]? = some o → k < w1.heap.size → w.heap.size ≤ k → W.heap[k]? = some o) → W.cell? ⟨w.heap.size, 0, none⟩ = some (.pointer (some ⟨p, 0, none⟩)) ∧ W.cell? ⟨w.heap.size + 1, 0, none⟩ = some (.slice Aa al.length ca) ∧ W.cell? ⟨w.heap.size + 1, 1, none⟩ = some (.bool ends) ∧ W.cell? ⟨w.heap.size + 1, 2, none⟩ = some (.bool sm) ∧ W.cell? ⟨w.heap.size + 1, 3, none⟩ = some (.int .i64 lo) ∧ W.cell? ⟨w.heap.size + 1, 4, none⟩ = some (.int .i64 hi) ∧ W.cell? ⟨w.heap.size + 1, 5, none⟩ = some (.slice Am md.length cm) := by
    intro W V L _ hk
    have e0 := hk _ _ hb0 (Array.getElem?_eq_some_iff.1 hb0).1 (Nat.le_refl _)
    have e1 := hk _ _ hb1 (Array.getElem?_eq_some_iff.1 hb1).1 (by omega)
    refine ⟨?_, ?_, ?_, ?_, ?_, ?_, ?_⟩
    · rw [cell_at e0]; rfl
    all_goals (rw [cell_at e1]; rfl)
  have hkeep : ∀ W V L, WStep B p w1 v W L V → ∀ k o, w1.heap[k]? = some o → k < w1.heap.size → w.heap.size ≤ k → W.heap[k]? = some o := by
    intro W V L h k o hk _ hge
    exact h.2.1.heap hk fun hf => by have := hlt.out _ hf; omega
  replace hcells := hide hcells
  replace hkeep := hide hkeep
  have hS1 := hide (WStep.refl hS.out.1)
  obtain ⟨d0, d1, d2, d3, d4, d5, d6⟩ := hcells.out w1 v l hS.out (fun k o h _ _ => h)
  have hargA := hide ((hxa1.out.upd (F := fun _ => False) (w' := w1) (by rw [hw1]; exact (Upd.alloc _ _ _).then (.alloc _ _ _)) fun _ _ => id))
  have hargM := hide ((hxm1.out.upd (F := fun _ => False) (w' := w1) (by rw [hw1]; exact (Upd.alloc _ _ _).then (.alloc _ _ _)) fun _ _ => id))
  have hx1 := hide hw1
  replace hw1 := hide hw1.symm
  go_enter Try.func43, Try.ntmps43
  have hwx := hw1.out
  go_wp2_with fail
  refine (wAlarms_any B p l v _ al w1 hargA.out ok1.out li1 hS.out.1 (by have := hlen.out; omega)).mono ?_
  rintro e w2 ⟨rfl, v2, h2⟩
  clear d0 d1 d2 d3 d4 d5 d6
  obtain ⟨d0, d1, d2, d3, d4, d5, d6⟩ := hcells.out _ _ _ (hS.out.trans h2) (hkeep.out _ _ _ h2)
  replace h2 := hide h2
  go_wp2_with fail
  refine (wBool_any B p _ v2 [ends] _ _ (h2.out.alloc _).1 (ArgV.one (by simp [go_sem]; done) ?_) ?_).mono ?_
  · exact fun h => Nat.lt_irrefl _ (Fp.lt h2.out.1 h)
  · have := hlen.out; have := hal.out; have := hn1.out; simp only [List.length_append, List.length_singleton]; omega
  rintro e w3 ⟨rfl, v3, h3⟩
  replace h3 := (h2.out.alloc _).trans h3
  clear d0 d1 d2 d3 d4 d5 d6 h2
  obtain ⟨d0, d1, d2, d3, d4, d5, d6⟩ := hcells.out _ _ _ (hS.out.trans h3) (hkeep.out _ _ _ h3)
  replace h3 := hide h3
  go_wp2_with fail
  refine (wInterval_any B p _ v3 ⟨sm, lo, hi⟩ _ ok2.out h3.out.1 ?_).mono ?_
  · have := hlen.out; have := hal.out; have := hn1.out; simp only [List.length_append, List.length_cons, List.length_map, List.length_nil]; omega
  rintro e w4 ⟨rfl, v4, h4⟩
  replace h4 := h3.out.trans h4
  clear d0 d1 d2 d3 d4 d5 d6 h3
  obtain ⟨d0, d1, d2, d3, d4, d5, d6⟩ := hcells.out _ _ _ (hS.out.trans h4) (hkeep.out _ _ _ h4)
  replace h4 := hide h4
  go_wp2_with fail
  have hargM2 := (hargM.out.upd h4.out.2.1 fun _ h => h.1).mono (S' := fun k => ¬ Fp p v4 k) (fun k hk hnk hf => by
    rcases hf with hf | hf
    · exact hnk.1 (.inl hf)
    · rcases h4.out.2.2 k hf with h1 | h1
      · exact hnk.1 (.inr h1)
      · have h2 := hnk.2; have h3 := hS.out.2.1.size; omega)
  refine (wCells_any B p _ v4 _ md _ hargM2 ok3.out li2 li3.out h4.out.1 ?_).mono ?_
  · have := hlen.out; have := hal.out; have := hn1.out; have := hil.out; simp only [List.length_append, List.length_cons, List.length_map, List.length_nil] at *; omega
  rintro e w5 ⟨rfl, v5, h5⟩
  go_wp2_with fail
  go_end0
  refine ⟨rfl, v5, ?_⟩
  have h6 := hS.out.trans (h4.out.trans h5)
  have hbs : SumD.bytes ⟨al, ends, ⟨sm, lo, hi⟩, md⟩ = num al.length ++ alarmsB al ++ [bit ends] ++ IvalD.bytes ⟨sm, lo, hi⟩ ++ num md.length ++ modB md := rfl
  rw [hbs]
  simp only [List.append_assoc, List.map_cons, List.map_nil] at h6 ⊢
  exact h6
end Go.Proofs.Ytajpgkedlajjdaa
