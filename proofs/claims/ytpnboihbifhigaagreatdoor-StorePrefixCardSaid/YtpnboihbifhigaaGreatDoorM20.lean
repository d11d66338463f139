/- Part 20 of the walks (merged): Prefix. -/
import Derived.Test.YtpnboihbifhigaaGreatDoorM19
import Derived.WalkLawsBesides
import Derived.Sort.Walk0
/- StorePrefix. -/
namespace Go.Proofs.YtpnboihbifhigaaGreatDoor
open Go Go.RowKit
open Go.Proofs (encStr)
def mkP (s : ByteArray) : PairD := ⟨s, ⟨#[]⟩, false⟩
theorem mkP_small {s : ByteArray} (h : s.size ≤ 30) : (mkP s).ok ∧ (mkP s).key.size + (mkP s).val.size ≤ 30 := ⟨⟨by show s.size ≤ _; omega, Nat.zero_le _⟩, h⟩
theorem mkPs_frames {ls : List ByteArray} (h : ∀ s ∈ ls, s.size ≤ 30) : (frames ((ls.map mkP).map recB)).length ≤ ls.length * 78 := by
  have := frames_small (c := 30) (ps := ls.map mkP) fun p hp => by
    rw [List.mem_map] at hp
    obtain ⟨s, hs, rfl⟩ := hp
    exact mkP_small (h s hs)
  rwa [List.length_map] at this
theorem mkPs_fits {ls : List ByteArray} (h : ∀ s ∈ ls, s.size ≤ 30) : ∀ p ∈ ls.map mkP, p.fits := fun p hp => by
  rw [List.mem_map] at hp
  obtain ⟨s, hs, rfl⟩ := hp
  have := (mkP_small (h s hs)).2
  exact fits_of (by omega)
theorem chs_mkP : ∀ (ls : List ByteArray) (T : Tbl) (x : List UInt8), T.chs (ls.map mkP) x = if (ls.map fun s => s.data.toList).contains x then some ⟨#[]⟩ else T x
  | [], T, x => by simp [Tbl.chs]
  | s :: ls, T, x => by
    have := chs_mkP ls (T.ch (mkP s)) x
    unfold Tbl.chs at this ⊢
    rw [List.map_cons, List.foldl_cons, this, List.map_cons, List.contains_cons]
    have e : (T.ch (mkP s)) x = if x = s.data.toList then some ⟨#[]⟩ else T x := rfl
    rw [e]
    generalize (ls.map fun s => s.data.toList).contains x = b
    cases b
    · by_cases h2 : x = s.data.toList
      · simp [h2]
      · simp [h2]
    · simp
theorem prefix_cut {x pre : ByteArray} (h : pre.data.toList.isPrefixOf x.data.toList = true) : pre.size ≤ x.size ∧ ((x.extract 0 pre.size).toList == pre.toList) = true := by
  rw [List.isPrefixOf_iff_prefix] at h
  obtain ⟨t, ht⟩ := h
  have hl := congrArg List.length ht
  rw [List.length_append] at hl
  have e1 : pre.data.toList.length = pre.size := rfl
  have e2 : x.data.toList.length = x.size := rfl
  refine ⟨by omega, ?_⟩
  rw [beq_iff_eq, ByteArray.toList_eq, ByteArray.toList_eq, ByteArray.data_extract, Array.toList_extract, ← ht, ← e1]
  rw [List.extract_eq_take_drop, List.drop_zero, Nat.sub_zero, List.take_left]
theorem less_of {x y : ByteArray} (h : x.data.toList ≤ y.data.toList) (hn : x ≠ y) : Op.bytesLess x.toList y.toList = true := by
  rw [Go.Proofs.bytesLess_eq, decide_eq_true_eq, ByteArray.toList_eq, ByteArray.toList_eq]
  refine Classical.byContradiction fun hlt => hn ?_
  exact ByteArray.ext (Array.toList_inj.1 (List.le_antisymm h (List.not_lt.1 hlt)))
def isIn (x : ByteArray) (l : List ByteArray) : Bool := l.any fun y => decide (y = x)
theorem isIn_iff {x : ByteArray} {l : List ByteArray} : isIn x l = true ↔ x ∈ l := by
  unfold isIn
  rw [List.any_eq_true]
  constructor
  · rintro ⟨y, hy, h⟩
    rw [decide_eq_true_eq] at h
    exact h ▸ hy
  · exact fun h => ⟨x, h, by simp⟩
theorem isIn_snoc (x y : ByteArray) (l : List ByteArray) : isIn x (l ++ [y]) = (isIn x l || decide (y = x)) := by simp [isIn]
theorem data_inj {x y : ByteArray} (h : x.data.toList = y.data.toList) : x = y := ByteArray.ext (Array.toList_inj.1 h)
theorem chs_mkP_some (ls : List ByteArray) (x : List UInt8) : (T0.chs (ls.map mkP) x).isSome = true ↔ ∃ s ∈ ls, s.data.toList = x := by
  rw [chs_mkP]
  by_cases h : (ls.map fun s => s.data.toList).contains x = true
  · rw [if_pos h]
    rw [List.contains_iff_mem, List.mem_map] at h
    exact ⟨fun _ => h, fun _ => rfl⟩
  · rw [if_neg h]
    rw [List.contains_iff_mem, List.mem_map] at h
    exact ⟨fun e => (by cases e), fun e => absurd e h⟩
theorem chs_mkP_in {ls : List ByteArray} {x : ByteArray} (h : x ∈ ls) : T0.chs (ls.map mkP) x.data.toList = some ⟨#[]⟩ := by
  rw [chs_mkP, if_pos]
  rw [List.contains_iff_mem, List.mem_map]
  exact ⟨x, h, rfl⟩
theorem kb_len {ls fs : List ByteArray} {ks : List (List UInt8)} {pre : ByteArray} (h : KeysT (T0.chs (ls.map mkP)) pre.data.toList ks) (h1 : fs.Nodup) (h2 : ∀ x, x ∈ fs ↔ x ∈ ls ∧ pre.data.toList.isPrefixOf x.data.toList = true) : (ks.map fun x => (⟨x.toArray⟩ : ByteArray)).length = fs.length := by
  have hp : ks.Perm (fs.map fun s => s.data.toList) := by
    refine h.perm ?_ fun x => ?_
    · rw [List.nodup_iff_pairwise_ne] at h1 ⊢
      rw [List.pairwise_map]
      exact h1.imp fun hne e => hne (data_inj e)
    · rw [chs_mkP_some, List.mem_map]
      constructor
      · rintro ⟨s, hs, rfl⟩
        exact ⟨⟨s, ((h2 s).1 hs).1, rfl⟩, ((h2 s).1 hs).2⟩
      · rintro ⟨⟨s, hs, rfl⟩, hp⟩
        exact ⟨s, (h2 s).2 ⟨hs, hp⟩, rfl⟩
  have := hp.length_eq
  simpa using this
theorem prefix_iff (x pre : ByteArray) : ((x.extract 0 pre.size).toList == pre.toList) = pre.data.toList.isPrefixOf x.data.toList := by
  cases hp : pre.data.toList.isPrefixOf x.data.toList with
  | true => exact (prefix_cut hp).2
  | false =>
    rw [← Bool.not_eq_true] at hp ⊢
    intro hc
    refine hp ?_
    rw [beq_iff_eq, ByteArray.toList_eq, ByteArray.toList_eq, ByteArray.data_extract, Array.toList_extract, List.extract_eq_take_drop, List.drop_zero] at hc
    rw [List.isPrefixOf_iff_prefix, ← hc]
    exact List.take_prefix _ _
theorem prefix_short {x pre : ByteArray} (h : ¬ pre.size ≤ x.size) : pre.data.toList.isPrefixOf x.data.toList = false := by
  cases hp : pre.data.toList.isPrefixOf x.data.toList with
  | true => exact absurd (prefix_cut hp).1 h
  | false => rfl
set_option maxRecDepth 100000 in
set_option maxHeartbeats 4000000 in
theorem prefix_any {W : World} {T : Nat → Prop} {v : Value} {ls : List ByteArray} (pre : ByteArray) (hv : ArgV W T v (ls.map Value.string)) (hTl : ∀ k, T k → k < W.heap.size) (hT : Tab W) (hz : 2 ≤ W.heap.size) :
    Calls Tryz.prog 7 #[v, .string pre] W fun e w' => e = .returned (.bool true) ∧ Below W.heap.size W w' := by
  have hB : 1 + 1 ≤ W.heap.size := hT.pos
  have hK := known_any hT hz
  obtain ⟨A, c, rfl, hc1, hc2, -⟩ := id hv
  rw [List.length_map] at hc1 ⊢
  have hc3 : c ≤ 9223372036854775807 := by unfold maxLen at hc2; exact hc2
  replace hK := hide hK
  replace hT := hide hT
  replace hv := hide hv
  replace hTl := hide hTl
  clear hc2
  go_enter Tryz.func7, Tryz.ntmps7
  go_wp2_with fail
  refine hK.out.mono ?_
  rintro e w1 ⟨rfl, hb1⟩
  have hu1 := Upd.of_below (fun _ => False) hb1
  have hT1 := hT.out.upd hu1 id
  have hv1 := hv.out.upd hu1 fun _ _ => id
  have z1 := hb1.size
  replace hT1 := hide hT1
  replace hv1 := hide hv1
  replace hb1 := hide hb1
  clear hK hu1
  by_cases hl : ls.length ≤ 20
  case neg =>
    go_wp2_with fail
    go_ret
    exact ⟨rfl, hb1.out⟩
  by_cases hp : pre.size ≤ 20
  case neg =>
    go_wp2_with fail
    go_ret
    exact ⟨rfl, hb1.out⟩
  have hN := new_dkz w1 400 512 (by omega) (by omega) (.inr rfl)
  replace hN := hide hN
  go_wp2_with fail
  refine hN.out.mono ?_
  rintro e w2 ⟨sb, S2, rfl, hD2, hb2⟩
  have hu2 := Upd.of_below (fun _ => False) hb2
  have hT2 := hT1.out.upd hu2 id
  have hv2 := hv1.out.upd hu2 fun _ _ => id
  have z2 := hb2.size
  have hO := openS_any (ps := []) hD2 (fun p hp => by cases hp) (Nat.zero_le _) (by omega) z2 hT2
  have hge2 : ∀ k, S2 k → w1.heap.size ≤ k := fun k hk => hD2.ge hk
  have hb2' := hb1.out.trans (hb2.mono z1)
  replace hO := hide hO
  replace hT2 := hide hT2
  replace hv2 := hide hv2
  replace hge2 := hide hge2
  replace hb2' := hide hb2'
  clear hN hD2 hu2 hT1 hv1 hb1 hb2
  go_wp2_with fail
  refine hO.out.mono ?_
  rintro e w3 ⟨q, lb, mb, S3, rfl, hs3, -, -, -, hM3⟩
  have z3 := hM3.1.size
  have hb3 := hb2'.out.trans (hM3.1.below (by omega) fun k hk => Nat.le_trans z1 (hge2.out k hk))
  replace hb3 := hide hb3
  replace hs3 := hide hs3
  clear hO hM3 hge2 hb2' hT2 hv2
  go_wp2_with fail
  have hs3' : StoV 400 512 w3 w1.heap.size sb q lb mb S3 ((ls.take 0).map mkP) false := hs3.out
  replace hs3' := hide hs3'
  clear hs3
  go_loopw [7] (fun i wr => ∃ (k : Nat) (S' : Nat → Prop), k ≤ ls.length ∧ i = .int .i64 k ∧ StoV 400 512 wr w1.heap.size sb q lb mb S' ((ls.take k).map mkP) false ∧ (∀ s ∈ ls.take k, s.size ≤ 30) ∧ Below W.heap.size W wr ∧ w3.heap.size ≤ wr.heap.size) (fun i _ => ls.length - (intOf i).toNat)
  case atStart => exact ⟨0, S3, Nat.zero_le _, rfl, hs3'.out, fun s hs => by simp at hs, hb3.out, Nat.le_refl _⟩
  case round =>
    obtain ⟨k, S4, hk, rfl, hs4, h30, hb4, zr⟩ := hrel
    have hu4 := Upd.of_below (fun _ => False) hb4
    have hT4 := hT.out.upd hu4 id
    have hv4 := hv.out.upd hu4 fun _ _ => id
    rcases Nat.lt_or_ge k ls.length with hlt | hge
    · obtain ⟨g, o, rfl, hTg, c0⟩ := hv4.get (i := k) (u := .string ls[k]) (by simp [hlt])
      have htk : ls.take (k + 1) = ls.take k ++ [ls[k]] := List.take_succ_eq_append_getElem hlt
      generalize ls[k] = x at *
      replace htk := hide htk
      replace hs4 := hide hs4
      replace h30 := hide h30
      replace hb4 := hide hb4
      replace hT4 := hide hT4
      clear hv4 hu4
      by_cases hx : x.size ≤ 30
      case neg =>
        go_wp2_with fail
        go_ret
        exact ⟨rfl, hb4.out⟩
      go_wp2_with fail
      obtain ⟨w5, hw5⟩ : ∃ w5, w5 = wr.alloc (.cells #[.string x, .string ⟨#[]⟩, .bool false] 66) := ⟨_, rfl⟩
      have hU5 : Upd (fun _ => False) wr w5 := by rw [hw5]; exact .alloc _ _ _
      have hc5 : w5.heap[wr.heap.size]? = some (.cells #[.string x, .string ⟨#[]⟩, .bool false] 66) := by rw [hw5]; exact heap_new _ _
      rw [← hw5]
      have hv5 : PrsV w5 (fun k => k = wr.heap.size) (.slice (some ⟨wr.heap.size, 0, none⟩) 1 1) [mkP x] := PrsV.new hc5 rfl rfl rfl (by decide)
      have hs5 := hs4.out.upd hU5 fun _ _ => id
      have hA := applyS_any hs5 (by omega) (hT4.out.upd hU5 id) hv5 (fun k hk hS => by have := hs4.out.old hS; omega) (mkPs_fits (ls := [x]) fun s hs => by rw [List.mem_singleton] at hs; rw [hs]; exact hx)
        (by rw [List.length_map, List.length_take]; simp; omega)
        (by
          have h1 := mkPs_frames h30.out
          have h2 := mkPs_frames (ls := [x]) fun s hs => by rw [List.mem_singleton] at hs; rw [hs]; exact hx
          rw [List.length_take] at h1
          simp only [List.map_cons, List.map_nil, List.length_cons, List.length_nil] at h2 ⊢
          show _ ≤ 101376
          omega)
      refine hA.mono ?_
      rintro e w6 ⟨rfl, S6, hs6, hM6⟩
      have z5 := hU5.size
      have z6 := hM6.1.size
      have hb6 := (hb4.out.trans (hU5.below (by have := hb4.out.size; omega) fun _ h => h.elim)).trans (hM6.1.below (by have := hb4.out.size; omega) fun k hk => Nat.le_trans z1 (hs5.ge hk))
      have hs6' : StoV 400 512 w6 w1.heap.size sb q lb mb S6 ((ls.take (k + 1)).map mkP) false := by rw [htk.out, List.map_append]; exact hs6
      have h6 : ∀ s ∈ ls.take (k + 1), s.size ≤ 30 := by
        rw [htk.out]
        intro s hs
        rcases List.mem_append.1 hs with hs | hs
        · exact h30.out s hs
        · rw [List.mem_singleton] at hs; rw [hs]; exact hx
      replace hb6 := hide hb6
      replace hs6' := hide hs6'
      replace h6 := hide h6
      clear hs6 hM6 hA hv5 hs5 hc5 hw5 hU5 hs4 hT4 hb4 h30
      go_wp2_with fail
      go_roundw
      case rel => exact ⟨k + 1, S6, hlt, by go_num, hs6'.out, h6.out, hb6.out, by omega⟩
      case measure => simp [intOf]; omega
    · obtain rfl : k = ls.length := by omega
      rw [List.take_length] at hs4 h30
      have c4 := hs4.st.cell 2
      have hst4 := hs4.st
      have htb4 := hs4.tb
      have hK := keysT_any htb4 (by rw [List.length_map]; omega) pre
      replace hK := hide hK
      replace hst4 := hide hst4
      replace htb4 := hide htb4
      replace h30 := hide h30
      replace hb4 := hide hb4
      clear hs4 hT4 hu4 hv4
      go_wp2_with fail
      refine hK.out.mono ?_
      rintro e w5 ⟨v5, ks, rfl, hks, hkv, g5⟩
      have hu5 := Upd.of_below (fun _ => False) g5
      have hst5 := hst4.out.upd hu5 id
      have htb5 := htb4.out.upd hu5 id
      have z5 := g5.size
      have hb5 := hb4.out.trans (g5.mono hb4.out.size)
      have ha5 := hkv.arg
      obtain ⟨kb, hkb⟩ : ∃ kb, kb = ks.map fun x => (⟨x.toArray⟩ : ByteArray) := ⟨_, rfl⟩
      rw [← hkb] at ha5
      obtain ⟨A5, c5, rfl, e1, e2, -⟩ := id ha5
      rw [List.length_map] at e1 ⊢
      have e3 : c5 ≤ 9223372036854775807 := by unfold maxLen at e2; exact e2
      have hpr : ∀ x ∈ kb, pre.data.toList.isPrefixOf x.data.toList = true := by
        intro x hx
        rw [hkb, List.mem_map] at hx
        obtain ⟨y, hy, rfl⟩ := hx
        exact ((hks.mem y).1 hy).2
      have hlt2 : ∀ j (h : j + 1 < kb.length), Op.bytesLess kb[j].toList kb[j + 1].toList = true := by
        intro j h
        subst hkb
        rw [List.length_map] at h
        rw [List.getElem_map, List.getElem_map]
        refine less_of (List.pairwise_iff_getElem.1 hks.le j (j + 1) (by omega) h (by omega)) fun e => ?_
        have e2 : ks[j] = ks[j + 1] := by have := congrArg (fun z : ByteArray => z.data.toList) e; simpa using this
        have := (List.pairwise_iff_getElem.1 hks.nodup) j (j + 1) (by omega) h (by omega)
        exact this e2
      replace hpr := hide hpr
      replace hlt2 := hide hlt2
      replace ha5 := hide ha5
      replace hkb := hide hkb
      replace hks := hide hks
      replace hst5 := hide hst5
      replace htb5 := hide htb5
      replace hb5 := hide hb5
      clear hK hkv g5 hst4 htb4 hb4 hu5 c4 e2
      go_wp2_with fail
      go_loopw [9] (fun i wr => ∃ k : Nat, k ≤ kb.length ∧ i = .int .i64 k ∧ Below w5.heap.size w5 wr) (fun i _ => kb.length - (intOf i).toNat)
      case atStart => exact ⟨0, Nat.zero_le _, rfl, .refl _ _⟩
      case round =>
        obtain ⟨k, hk, rfl, hbw⟩ := hrel
        have huw := Upd.of_below (fun _ => False) hbw
        rcases Nat.lt_or_ge k kb.length with hlt | hge
        · have ha6 := ha5.out.upd huw fun _ _ => id
          obtain ⟨g, o, rfl, hTg, c0⟩ := ha6.get (i := k) (u := .string kb[k]) (by simp [hlt])
          replace ha6 := hide ha6
          replace hbw := hide hbw
          clear huw
          have hpx := hpr.out kb[k] (List.getElem_mem hlt)
          obtain ⟨hp1, hp2⟩ := prefix_cut hpx
          have hd1 : ¬ (kb[k].size : Int) < (pre.size : Int) := by omega
          have hkl := hide (show (k : Int) < (kb.length : Int) by omega)
          have hk00 := hide (show (0 : Int) ≤ (k : Int) by omega)
          replace hd1 := hide hd1
          replace hp1 := hide hp1
          by_cases hkz0 : k = 0
          · have hkz := hide (show (k : Int) = 0 by omega)
            replace hkz0 := hide hkz0
            generalize kb[k] = x at *
            replace hp2 := hide hp2
            replace c0 := hide c0
            clear hpx
            go_wp2_with fail
            refine wp_region_flow (fun _ => False) (factAt [(fun v _ => v = (.slice (some ⟨g, o, none⟩) kb.length c5)), (fun v _ => v = (.int .i64 k)), (fun v _ => v = (.pointer (some ⟨g, o + k, none⟩))), (fun v _ => v = (.string x)), (fun v _ => v = (.int .i64 x.size)), (fun v _ => v = (.string pre)), (fun v _ => v = (.int .i64 pre.size)), (fun v _ => v = (.bool false)), (fun v _ => v = (.bool false)), (fun v _ => v = (.slice (some ⟨g, o, none⟩) kb.length c5)), (fun v _ => v = (.int .i64 k)), (fun v _ => v = (.pointer (some ⟨g, o + k, none⟩))), (fun v _ => v = (.string x)), (fun v _ => v = (.string pre)), (fun v _ => v = (.int .i64 pre.size)), (fun v _ => v = (.string (x.extract 0 pre.size))), (fun v _ => v = (.string pre)), (fun v _ => v = (.bool false)), (fun v _ => v = (.bool false)), (fun v _ => v = (.bool false)), (fun v _ => v = (.int .i64 k)), (fun v _ => v = (.bool false)), (fun v _ => v = (.bool false)), (fun v _ => v = undef), (fun v _ => v = undef), (fun v _ => v = undef), (fun v _ => v = undef), (fun v _ => v = undef), (fun v _ => v = undef), (fun v _ => v = undef), (fun v _ => v = undef), (fun v _ => v = undef), (fun v _ => v = undef), (fun v _ => v = (Value.bool false)), (fun v _ => v = (Value.bool false))]) [] (fun _ => True) (by kernel_rfl) (fkept_at ⟨FKept.eq _, FKept.eq _, FKept.eq _, FKept.eq _, FKept.eq _, FKept.eq _, FKept.eq _, FKept.eq _, FKept.eq _, FKept.eq _, FKept.eq _, FKept.eq _, FKept.eq _, FKept.eq _, FKept.eq _, FKept.eq _, FKept.eq _, FKept.eq _, FKept.eq _, FKept.eq _, FKept.eq _, FKept.eq _, FKept.eq _, FKept.eq _, FKept.eq _, FKept.eq _, FKept.eq _, FKept.eq _, FKept.eq _, FKept.eq _, FKept.eq _, FKept.eq _, FKept.eq _, FKept.eq _, FKept.eq _, trivial⟩) (fun _ _ h _ => h) trivial (by kernel_rfl) (by kernel_rfl) (by kernel_rfl) (by kernel_rfl) (Nat.le_of_ble_eq_true (by kernel_rfl)) ?_ ⟨?_, ?_, ?_, ?_, ?_, ?_, ?_, ?_, ?_, ?_, ?_, ?_, ?_, ?_, ?_, ?_, ?_, ?_, ?_, ?_, ?_, ?_, ?_, ?_, ?_, ?_, ?_, ?_, ?_, ?_, ?_, ?_, ?_, ?_, ?_, trivial⟩ ?_
            · first | exact trivial | assumption
            · intro T w Q hu hs hv hw hd
              have hx8 : T.getD 8 undef = (.slice (some ⟨g, o, none⟩) kb.length c5) := hv 8 (by kernel_rfl)
              refine .inl ⟨wanted_none rfl, ?_⟩
              clear hd hv hu hs hw
              go_simp
              exact ⟨_, rfl, DstOk.some rfl, Below.refl _ _, rfl⟩
            · intro T w Q hu hs hv hw hd
              have hx9 : T.getD 9 undef = (.int .i64 k) := hv 9 (by kernel_rfl)
              refine .inl ⟨wanted_none rfl, ?_⟩
              clear hd hv hu hs hw
              go_simp
              exact ⟨_, rfl, DstOk.some rfl, Below.refl _ _, rfl⟩
            · intro T w Q hu hs hv hw hd
              have hx66 : T.getD 66 undef = (.slice (some ⟨g, o, none⟩) kb.length c5) := Deps.at 0 hd (by kernel_rfl)
              have hx67 : T.getD 67 undef = (.int .i64 k) := Deps.at 1 hd (by kernel_rfl)
              refine .inl ⟨wanted_none rfl, ?_⟩
              have a0 := hkl.out
              have a1 := hk00.out
              clear hd hv hu hs hw
              go_simp
              exact ⟨_, rfl, DstOk.some rfl, Below.refl _ _, rfl⟩
            · intro T w Q hu hs hv hw hd
              have hx68 : T.getD 68 undef = (.pointer (some ⟨g, o + k, none⟩)) := Deps.at 2 hd (by kernel_rfl)
              refine .inl ⟨wanted_none rfl, ?_⟩
              have hq := hu.cell c0.out id
              clear hd hv hu hs hw
              go_simp
              exact ⟨_, rfl, DstOk.some rfl, Below.refl _ _, rfl⟩
            · intro T w Q hu hs hv hw hd
              have hx69 : T.getD 69 undef = (.string x) := Deps.at 3 hd (by kernel_rfl)
              refine .inl ⟨wanted_none rfl, ?_⟩
              clear hd hv hu hs hw
              go_simp
              exact ⟨_, rfl, DstOk.some rfl, Below.refl _ _, rfl⟩
            · intro T w Q hu hs hv hw hd
              have hx1 : T.getD 1 undef = (.string pre) := hv 1 (by kernel_rfl)
              refine .inl ⟨wanted_none rfl, ?_⟩
              clear hd hv hu hs hw
              go_simp
              exact ⟨_, rfl, DstOk.some rfl, Below.refl _ _, rfl⟩
            · intro T w Q hu hs hv hw hd
              have hx71 : T.getD 71 undef = (.string pre) := Deps.at 5 hd (by kernel_rfl)
              refine .inl ⟨wanted_none rfl, ?_⟩
              clear hd hv hu hs hw
              go_simp
              exact ⟨_, rfl, DstOk.some rfl, Below.refl _ _, rfl⟩
            · intro T w Q hu hs hv hw hd
              have hx70 : T.getD 70 undef = (.int .i64 x.size) := Deps.at 4 hd (by kernel_rfl)
              have hx72 : T.getD 72 undef = (.int .i64 pre.size) := Deps.at 6 hd (by kernel_rfl)
              refine .inl ⟨wanted_none rfl, ?_⟩
              have a0 := hd1.out
              clear hd hv hu hs hw
              go_simp
              exact ⟨_, rfl, DstOk.some rfl, Below.refl _ _, by first | rfl | exact congrArg Value.bool (decide_eq_false (by omega))⟩
            · intro T w Q hu hs hv hw hd
              have hx73 : T.getD 73 undef = (.bool false) := Deps.at 7 hd (by kernel_rfl)
              refine .inl ⟨wanted_none rfl, ?_⟩
              clear hd hv hu hs hw
              go_simp
              exact ⟨_, rfl, DstOk.some rfl, Below.refl _ _, rfl⟩
            · intro T w Q hu hs hv hw hd
              have hx8 : T.getD 8 undef = (.slice (some ⟨g, o, none⟩) kb.length c5) := hv 8 (by kernel_rfl)
              refine .inl ⟨wanted_some rfl (Deps.at 8 hd (by kernel_rfl) : slotOf _ T 8 = .bool false), ?_⟩
              clear hd hv hu hs hw
              go_simp
              exact ⟨_, rfl, DstOk.some rfl, Below.refl _ _, rfl⟩
            · intro T w Q hu hs hv hw hd
              have hx9 : T.getD 9 undef = (.int .i64 k) := hv 9 (by kernel_rfl)
              refine .inl ⟨wanted_some rfl (Deps.at 8 hd (by kernel_rfl) : slotOf _ T 8 = .bool false), ?_⟩
              clear hd hv hu hs hw
              go_simp
              exact ⟨_, rfl, DstOk.some rfl, Below.refl _ _, rfl⟩
            · intro T w Q hu hs hv hw hd
              have hx75 : T.getD 75 undef = (.slice (some ⟨g, o, none⟩) kb.length c5) := Deps.at 9 hd (by kernel_rfl)
              have hx76 : T.getD 76 undef = (.int .i64 k) := Deps.at 10 hd (by kernel_rfl)
              refine .inl ⟨wanted_some rfl (Deps.at 8 hd (by kernel_rfl) : slotOf _ T 8 = .bool false), ?_⟩
              have a0 := hkl.out
              have a1 := hk00.out
              clear hd hv hu hs hw
              go_simp
              exact ⟨_, rfl, DstOk.some rfl, Below.refl _ _, rfl⟩
            · intro T w Q hu hs hv hw hd
              have hx77 : T.getD 77 undef = (.pointer (some ⟨g, o + k, none⟩)) := Deps.at 11 hd (by kernel_rfl)
              refine .inl ⟨wanted_some rfl (Deps.at 8 hd (by kernel_rfl) : slotOf _ T 8 = .bool false), ?_⟩
              have hq := hu.cell c0.out id
              clear hd hv hu hs hw
              go_simp
              exact ⟨_, rfl, DstOk.some rfl, Below.refl _ _, rfl⟩
            · intro T w Q hu hs hv hw hd
              have hx1 : T.getD 1 undef = (.string pre) := hv 1 (by kernel_rfl)
              refine .inl ⟨wanted_some rfl (Deps.at 8 hd (by kernel_rfl) : slotOf _ T 8 = .bool false), ?_⟩
              clear hd hv hu hs hw
              go_simp
              exact ⟨_, rfl, DstOk.some rfl, Below.refl _ _, rfl⟩
            · intro T w Q hu hs hv hw hd
              have hx79 : T.getD 79 undef = (.string pre) := Deps.at 13 hd (by kernel_rfl)
              refine .inl ⟨wanted_some rfl (Deps.at 8 hd (by kernel_rfl) : slotOf _ T 8 = .bool false), ?_⟩
              clear hd hv hu hs hw
              go_simp
              exact ⟨_, rfl, DstOk.some rfl, Below.refl _ _, rfl⟩
            · intro T w Q hu hs hv hw hd
              have hx78 : T.getD 78 undef = (.string x) := Deps.at 12 hd (by kernel_rfl)
              have hx80 : T.getD 80 undef = (.int .i64 pre.size) := Deps.at 14 hd (by kernel_rfl)
              refine .inl ⟨wanted_some rfl (Deps.at 8 hd (by kernel_rfl) : slotOf _ T 8 = .bool false), ?_⟩
              have a0 := hp1.out
              clear hd hv hu hs hw
              go_simp
              exact ⟨_, rfl, DstOk.some rfl, Below.refl _ _, rfl⟩
            · intro T w Q hu hs hv hw hd
              have hx1 : T.getD 1 undef = (.string pre) := hv 1 (by kernel_rfl)
              refine .inl ⟨wanted_some rfl (Deps.at 8 hd (by kernel_rfl) : slotOf _ T 8 = .bool false), ?_⟩
              clear hd hv hu hs hw
              go_simp
              exact ⟨_, rfl, DstOk.some rfl, Below.refl _ _, rfl⟩
            · intro T w Q hu hs hv hw hd
              have hx81 : T.getD 81 undef = (.string (x.extract 0 pre.size)) := Deps.at 15 hd (by kernel_rfl)
              have hx82 : T.getD 82 undef = (.string pre) := Deps.at 16 hd (by kernel_rfl)
              refine .inl ⟨wanted_some rfl (Deps.at 8 hd (by kernel_rfl) : slotOf _ T 8 = .bool false), ?_⟩
              have a0 := hp2.out
              clear hd hv hu hs hw
              go_simp
              exact ⟨_, rfl, DstOk.some rfl, Below.refl _ _, rfl⟩
            · intro T w Q hu hs hv hw hd
              have hx74 : T.getD 74 undef = (.bool false) := Deps.at 8 hd (by kernel_rfl)
              have hx83 : T.getD 83 undef = (.bool false) := Deps.at 17 hd (by kernel_rfl)
              refine .inl ⟨wanted_none rfl, ?_⟩
              clear hd hv hu hs hw
              go_simp
              exact ⟨_, rfl, DstOk.some rfl, Below.refl _ _, rfl⟩
            · intro T w Q hu hs hv hw hd
              have hx84 : T.getD 84 undef = (.bool false) := Deps.at 18 hd (by kernel_rfl)
              refine .inl ⟨wanted_none rfl, ?_⟩
              clear hd hv hu hs hw
              go_simp
              exact ⟨_, rfl, DstOk.some rfl, Below.refl _ _, rfl⟩
            · intro T w Q hu hs hv hw hd
              have hx9 : T.getD 9 undef = (.int .i64 k) := hv 9 (by kernel_rfl)
              refine .inl ⟨wanted_some rfl (Deps.at 19 hd (by kernel_rfl) : slotOf _ T 19 = .bool false), ?_⟩
              clear hd hv hu hs hw
              go_simp
              exact ⟨_, rfl, DstOk.some rfl, Below.refl _ _, rfl⟩
            · intro T w Q hu hs hv hw hd
              have hx86 : T.getD 86 undef = (.int .i64 k) := Deps.at 20 hd (by kernel_rfl)
              refine .inl ⟨wanted_some rfl (Deps.at 19 hd (by kernel_rfl) : slotOf _ T 19 = .bool false), ?_⟩
              have a0 := hkz.out
              clear hd hv hu hs hw
              go_simp
              exact ⟨_, rfl, DstOk.some rfl, Below.refl _ _, by first | rfl | exact congrArg Value.bool (decide_eq_false (by omega))⟩
            · intro T w Q hu hs hv hw hd
              have hx87 : T.getD 87 undef = (.bool false) := Deps.at 21 hd (by kernel_rfl)
              refine .inl ⟨wanted_some rfl (Deps.at 19 hd (by kernel_rfl) : slotOf _ T 19 = .bool false), ?_⟩
              clear hd hv hu hs hw
              go_simp
              exact ⟨_, rfl, DstOk.some rfl, Below.refl _ _, rfl⟩
            · intro T w Q hu hs hv hw hd
              exact .inr ⟨wanted_not rfl (Deps.at 22 hd (by kernel_rfl) : slotOf _ T 22 = .bool (!true)), rfl⟩
            · intro T w Q hu hs hv hw hd
              exact .inr ⟨wanted_not rfl (Deps.at 22 hd (by kernel_rfl) : slotOf _ T 22 = .bool (!true)), rfl⟩
            · intro T w Q hu hs hv hw hd
              exact .inr ⟨wanted_not rfl (Deps.at 22 hd (by kernel_rfl) : slotOf _ T 22 = .bool (!true)), rfl⟩
            · intro T w Q hu hs hv hw hd
              exact .inr ⟨wanted_not rfl (Deps.at 22 hd (by kernel_rfl) : slotOf _ T 22 = .bool (!true)), rfl⟩
            · intro T w Q hu hs hv hw hd
              exact .inr ⟨wanted_not rfl (Deps.at 22 hd (by kernel_rfl) : slotOf _ T 22 = .bool (!true)), rfl⟩
            · intro T w Q hu hs hv hw hd
              exact .inr ⟨wanted_not rfl (Deps.at 22 hd (by kernel_rfl) : slotOf _ T 22 = .bool (!true)), rfl⟩
            · intro T w Q hu hs hv hw hd
              exact .inr ⟨wanted_not rfl (Deps.at 22 hd (by kernel_rfl) : slotOf _ T 22 = .bool (!true)), rfl⟩
            · intro T w Q hu hs hv hw hd
              exact .inr ⟨wanted_not rfl (Deps.at 22 hd (by kernel_rfl) : slotOf _ T 22 = .bool (!true)), rfl⟩
            · intro T w Q hu hs hv hw hd
              exact .inr ⟨wanted_not rfl (Deps.at 22 hd (by kernel_rfl) : slotOf _ T 22 = .bool (!true)), rfl⟩
            · intro T w Q hu hs hv hw hd
              exact .inr ⟨wanted_not rfl (Deps.at 22 hd (by kernel_rfl) : slotOf _ T 22 = .bool (!true)), rfl⟩
            · intro T w Q hu hs hv hw hd
              have hx88 : T.getD 88 undef = (.bool false) := Deps.at 22 hd (by kernel_rfl)
              have hx98 : T.getD 98 undef = undef := Deps.at 32 hd (by kernel_rfl)
              refine .inl ⟨wanted_some rfl (Deps.at 19 hd (by kernel_rfl) : slotOf _ T 19 = .bool false), ?_⟩
              clear hd hv hu hs hw
              go_simp
              exact ⟨_, rfl, DstOk.some rfl, Below.refl _ _, rfl⟩
            · intro T w Q hu hs hv hw hd
              have hx85 : T.getD 85 undef = (.bool false) := Deps.at 19 hd (by kernel_rfl)
              have hx99 : T.getD 99 undef = (Value.bool false) := Deps.at 33 hd (by kernel_rfl)
              refine .inl ⟨wanted_none rfl, ?_⟩
              clear hd hv hu hs hw
              go_simp
              exact ⟨_, rfl, DstOk.some rfl, Below.refl _ _, rfl⟩
            intro T w hu hs hv hf hcur
            have hT : T = #[T.getD 0 undef, T.getD 1 undef, T.getD 2 undef, T.getD 3 undef, T.getD 4 undef, T.getD 5 undef, T.getD 6 undef, T.getD 7 undef, T.getD 8 undef, T.getD 9 undef, T.getD 10 undef, T.getD 11 undef, T.getD 12 undef, T.getD 13 undef, T.getD 14 undef, T.getD 15 undef, T.getD 16 undef, T.getD 17 undef, T.getD 18 undef, T.getD 19 undef, T.getD 20 undef, T.getD 21 undef, T.getD 22 undef, T.getD 23 undef, T.getD 24 undef, T.getD 25 undef, T.getD 26 undef, T.getD 27 undef, T.getD 28 undef, T.getD 29 undef, T.getD 30 undef, T.getD 31 undef, T.getD 32 undef, T.getD 33 undef, T.getD 34 undef, T.getD 35 undef, T.getD 36 undef, T.getD 37 undef, T.getD 38 undef, T.getD 39 undef, T.getD 40 undef, T.getD 41 undef, T.getD 42 undef, T.getD 43 undef, T.getD 44 undef, T.getD 45 undef, T.getD 46 undef, T.getD 47 undef, T.getD 48 undef, T.getD 49 undef, T.getD 50 undef, T.getD 51 undef, T.getD 52 undef, T.getD 53 undef, T.getD 54 undef, T.getD 55 undef, T.getD 56 undef, T.getD 57 undef, T.getD 58 undef, T.getD 59 undef, T.getD 60 undef, T.getD 61 undef, T.getD 62 undef, T.getD 63 undef, T.getD 64 undef, T.getD 65 undef, T.getD 66 undef, T.getD 67 undef, T.getD 68 undef, T.getD 69 undef, T.getD 70 undef, T.getD 71 undef, T.getD 72 undef, T.getD 73 undef, T.getD 74 undef, T.getD 75 undef, T.getD 76 undef, T.getD 77 undef, T.getD 78 undef, T.getD 79 undef, T.getD 80 undef, T.getD 81 undef, T.getD 82 undef, T.getD 83 undef, T.getD 84 undef, T.getD 85 undef, T.getD 86 undef, T.getD 87 undef, T.getD 88 undef, T.getD 89 undef, T.getD 90 undef, T.getD 91 undef, T.getD 92 undef, T.getD 93 undef, T.getD 94 undef, T.getD 95 undef, T.getD 96 undef, T.getD 97 undef, T.getD 98 undef, T.getD 99 undef, T.getD 100 undef, T.getD 101 undef, T.getD 102 undef, T.getD 103 undef, T.getD 104 undef, T.getD 105 undef, T.getD 106 undef, T.getD 107 undef, T.getD 108 undef, T.getD 109 undef, T.getD 110 undef, T.getD 111 undef, T.getD 112 undef, T.getD 113 undef, T.getD 114 undef, T.getD 115 undef, T.getD 116 undef, T.getD 117 undef, T.getD 118 undef, T.getD 119 undef, T.getD 120 undef, T.getD 121 undef, T.getD 122 undef, T.getD 123 undef, T.getD 124 undef, T.getD 125 undef, T.getD 126 undef, T.getD 127 undef, T.getD 128 undef, T.getD 129 undef, T.getD 130 undef, T.getD 131 undef, T.getD 132 undef, T.getD 133 undef, T.getD 134 undef, T.getD 135 undef, T.getD 136 undef, T.getD 137 undef, T.getD 138 undef, T.getD 139 undef, T.getD 140 undef, T.getD 141 undef, T.getD 142 undef, T.getD 143 undef, T.getD 144 undef, T.getD 145 undef, T.getD 146 undef, T.getD 147 undef, T.getD 148 undef, T.getD 149 undef, T.getD 150 undef, T.getD 151 undef, T.getD 152 undef, T.getD 153 undef, T.getD 154 undef, T.getD 155 undef, T.getD 156 undef, T.getD 157 undef, T.getD 158 undef, T.getD 159 undef, T.getD 160 undef, T.getD 161 undef, T.getD 162 undef, T.getD 163 undef, T.getD 164 undef, T.getD 165 undef, T.getD 166 undef, T.getD 167 undef] := expl hs
            rw [hT]
            clear hT
            rw [show T.getD 0 undef = (.slice A ls.length c) from hv 0 (by kernel_rfl)]
            rw [show T.getD 1 undef = (.string pre) from hv 1 (by kernel_rfl)]
            rw [hv 2 (by kernel_rfl)]
            rw [hv 3 (by kernel_rfl)]
            rw [hv 4 (by kernel_rfl)]
            rw [show T.getD 5 undef = (.pointer (some ⟨q, 0, none⟩)) from hv 5 (by kernel_rfl)]
            rw [hv 6 (by kernel_rfl)]
            rw [hv 7 (by kernel_rfl)]
            rw [show T.getD 8 undef = (.slice (some ⟨g, o, none⟩) kb.length c5) from hv 8 (by kernel_rfl)]
            rw [show T.getD 9 undef = (.int .i64 k) from hv 9 (by kernel_rfl)]
            rw [hv 10 (by kernel_rfl)]
            rw [hv 11 (by kernel_rfl)]
            rw [hv 12 (by kernel_rfl)]
            rw [hv 13 (by kernel_rfl)]
            rw [hv 14 (by kernel_rfl)]
            rw [hv 15 (by kernel_rfl)]
            rw [hv 16 (by kernel_rfl)]
            rw [hv 17 (by kernel_rfl)]
            rw [hv 18 (by kernel_rfl)]
            rw [hv 19 (by kernel_rfl)]
            rw [hv 20 (by kernel_rfl)]
            rw [hv 21 (by kernel_rfl)]
            rw [hv 22 (by kernel_rfl)]
            rw [hv 23 (by kernel_rfl)]
            rw [hv 24 (by kernel_rfl)]
            rw [hv 25 (by kernel_rfl)]
            rw [hv 26 (by kernel_rfl)]
            rw [hv 27 (by kernel_rfl)]
            rw [hv 28 (by kernel_rfl)]
            rw [hv 29 (by kernel_rfl)]
            rw [hv 30 (by kernel_rfl)]
            rw [hv 31 (by kernel_rfl)]
            rw [hv 32 (by kernel_rfl)]
            rw [hv 33 (by kernel_rfl)]
            rw [hv 34 (by kernel_rfl)]
            rw [hv 35 (by kernel_rfl)]
            rw [hv 36 (by kernel_rfl)]
            rw [hv 37 (by kernel_rfl)]
            rw [hv 38 (by kernel_rfl)]
            rw [hv 39 (by kernel_rfl)]
            rw [hv 40 (by kernel_rfl)]
            rw [hv 41 (by kernel_rfl)]
            rw [hv 42 (by kernel_rfl)]
            rw [hv 43 (by kernel_rfl)]
            rw [hv 44 (by kernel_rfl)]
            rw [hv 45 (by kernel_rfl)]
            rw [hv 46 (by kernel_rfl)]
            rw [hv 47 (by kernel_rfl)]
            rw [hv 48 (by kernel_rfl)]
            rw [hv 49 (by kernel_rfl)]
            rw [hv 50 (by kernel_rfl)]
            rw [hv 51 (by kernel_rfl)]
            rw [hv 52 (by kernel_rfl)]
            rw [hv 53 (by kernel_rfl)]
            rw [hv 54 (by kernel_rfl)]
            rw [hv 55 (by kernel_rfl)]
            rw [hv 56 (by kernel_rfl)]
            rw [hv 57 (by kernel_rfl)]
            rw [hv 58 (by kernel_rfl)]
            rw [hv 59 (by kernel_rfl)]
            rw [hv 60 (by kernel_rfl)]
            rw [hv 61 (by kernel_rfl)]
            rw [hv 62 (by kernel_rfl)]
            rw [hv 63 (by kernel_rfl)]
            rw [hv 64 (by kernel_rfl)]
            rw [hv 65 (by kernel_rfl)]
            rw [show T.getD 66 undef = (.slice (some ⟨g, o, none⟩) kb.length c5) from hf 0 (by decide)]
            rw [show T.getD 67 undef = (.int .i64 k) from hf 1 (by decide)]
            rw [show T.getD 68 undef = (.pointer (some ⟨g, o + k, none⟩)) from hf 2 (by decide)]
            rw [show T.getD 69 undef = (.string x) from hf 3 (by decide)]
            rw [show T.getD 70 undef = (.int .i64 x.size) from hf 4 (by decide)]
            rw [show T.getD 71 undef = (.string pre) from hf 5 (by decide)]
            rw [show T.getD 72 undef = (.int .i64 pre.size) from hf 6 (by decide)]
            rw [show T.getD 73 undef = (.bool false) from hf 7 (by decide)]
            rw [show T.getD 74 undef = (.bool false) from hf 8 (by decide)]
            rw [show T.getD 75 undef = (.slice (some ⟨g, o, none⟩) kb.length c5) from hf 9 (by decide)]
            rw [show T.getD 76 undef = (.int .i64 k) from hf 10 (by decide)]
            rw [show T.getD 77 undef = (.pointer (some ⟨g, o + k, none⟩)) from hf 11 (by decide)]
            rw [show T.getD 78 undef = (.string x) from hf 12 (by decide)]
            rw [show T.getD 79 undef = (.string pre) from hf 13 (by decide)]
            rw [show T.getD 80 undef = (.int .i64 pre.size) from hf 14 (by decide)]
            rw [show T.getD 81 undef = (.string (x.extract 0 pre.size)) from hf 15 (by decide)]
            rw [show T.getD 82 undef = (.string pre) from hf 16 (by decide)]
            rw [show T.getD 83 undef = (.bool false) from hf 17 (by decide)]
            rw [show T.getD 84 undef = (.bool false) from hf 18 (by decide)]
            rw [show T.getD 85 undef = (.bool false) from hf 19 (by decide)]
            rw [show T.getD 86 undef = (.int .i64 k) from hf 20 (by decide)]
            rw [show T.getD 87 undef = (.bool false) from hf 21 (by decide)]
            rw [show T.getD 88 undef = (.bool false) from hf 22 (by decide)]
            rw [show T.getD 89 undef = undef from hf 23 (by decide)]
            rw [show T.getD 90 undef = undef from hf 24 (by decide)]
            rw [show T.getD 91 undef = undef from hf 25 (by decide)]
            rw [show T.getD 92 undef = undef from hf 26 (by decide)]
            rw [show T.getD 93 undef = undef from hf 27 (by decide)]
            rw [show T.getD 94 undef = undef from hf 28 (by decide)]
            rw [show T.getD 95 undef = undef from hf 29 (by decide)]
            rw [show T.getD 96 undef = undef from hf 30 (by decide)]
            rw [show T.getD 97 undef = undef from hf 31 (by decide)]
            rw [show T.getD 98 undef = undef from hf 32 (by decide)]
            rw [show T.getD 99 undef = (Value.bool false) from hf 33 (by decide)]
            rw [show T.getD 100 undef = (Value.bool false) from hf 34 (by decide)]
            rw [hv 101 (by kernel_rfl)]
            rw [hv 102 (by kernel_rfl)]
            rw [hv 103 (by kernel_rfl)]
            rw [hv 104 (by kernel_rfl)]
            rw [hv 105 (by kernel_rfl)]
            rw [hv 106 (by kernel_rfl)]
            rw [hv 107 (by kernel_rfl)]
            rw [hv 108 (by kernel_rfl)]
            rw [hv 109 (by kernel_rfl)]
            rw [hv 110 (by kernel_rfl)]
            rw [hv 111 (by kernel_rfl)]
            rw [hv 112 (by kernel_rfl)]
            rw [hv 113 (by kernel_rfl)]
            rw [hv 114 (by kernel_rfl)]
            rw [hv 115 (by kernel_rfl)]
            rw [hv 116 (by kernel_rfl)]
            rw [hv 117 (by kernel_rfl)]
            rw [hv 118 (by kernel_rfl)]
            rw [hv 119 (by kernel_rfl)]
            rw [hv 120 (by kernel_rfl)]
            rw [hv 121 (by kernel_rfl)]
            rw [hv 122 (by kernel_rfl)]
            rw [hv 123 (by kernel_rfl)]
            rw [hv 124 (by kernel_rfl)]
            rw [hv 125 (by kernel_rfl)]
            rw [hv 126 (by kernel_rfl)]
            rw [hv 127 (by kernel_rfl)]
            rw [hv 128 (by kernel_rfl)]
            rw [hv 129 (by kernel_rfl)]
            rw [hv 130 (by kernel_rfl)]
            rw [hv 131 (by kernel_rfl)]
            rw [hv 132 (by kernel_rfl)]
            rw [hv 133 (by kernel_rfl)]
            rw [hv 134 (by kernel_rfl)]
            rw [hv 135 (by kernel_rfl)]
            rw [hv 136 (by kernel_rfl)]
            rw [hv 137 (by kernel_rfl)]
            rw [hv 138 (by kernel_rfl)]
            rw [hv 139 (by kernel_rfl)]
            rw [hv 140 (by kernel_rfl)]
            rw [hv 141 (by kernel_rfl)]
            rw [hv 142 (by kernel_rfl)]
            rw [hv 143 (by kernel_rfl)]
            rw [hv 144 (by kernel_rfl)]
            rw [hv 145 (by kernel_rfl)]
            rw [hv 146 (by kernel_rfl)]
            rw [hv 147 (by kernel_rfl)]
            rw [hv 148 (by kernel_rfl)]
            rw [hv 149 (by kernel_rfl)]
            rw [hv 150 (by kernel_rfl)]
            rw [hv 151 (by kernel_rfl)]
            rw [hv 152 (by kernel_rfl)]
            rw [hv 153 (by kernel_rfl)]
            rw [hv 154 (by kernel_rfl)]
            rw [hv 155 (by kernel_rfl)]
            rw [hv 156 (by kernel_rfl)]
            rw [hv 157 (by kernel_rfl)]
            rw [hv 158 (by kernel_rfl)]
            rw [hv 159 (by kernel_rfl)]
            rw [hv 160 (by kernel_rfl)]
            rw [hv 161 (by kernel_rfl)]
            rw [hv 162 (by kernel_rfl)]
            rw [hv 163 (by kernel_rfl)]
            rw [hv 164 (by kernel_rfl)]
            rw [hv 165 (by kernel_rfl)]
            rw [hv 166 (by kernel_rfl)]
            rw [hv 167 (by kernel_rfl)]
            clear hf hs hv hcur
            simp only [getD_toArray, List.getD_cons_succ, List.getD_cons_zero]
            clear T
            have hbw2 := hide (hbw.out.trans (hu.below hbw.out.size fun _ h => h.elim))
            clear hu
            go_wp2_with fail
            go_roundw
            case rel => exact ⟨k + 1, hlt, by go_num, hbw2.out⟩
            case measure => simp [intOf]; omega
          · obtain ⟨j, hj⟩ : ∃ j, k = j + 1 := ⟨k - 1, by omega⟩
            have hlj : j < kb.length := by omega
            obtain ⟨g1, o1, e5, hTg1, c1⟩ := ha6.out.get (i := j) (u := .string kb[j]) (by simp [hlj])
            obtain ⟨rfl, rfl⟩ : g = g1 ∧ o = o1 := by injection e5 with e5; injection e5 with e6 e7; exact ⟨e6, e7⟩
            have hl1 : Op.bytesLess kb[j].toList kb[k].toList = true := by
              subst hj
              exact hlt2.out j (by omega)
            have hkz := hide (show (0 : Int) < (k : Int) by omega)
            have hjl := hide (show (j : Int) < (kb.length : Int) by omega)
            have hj0 := hide (show (0 : Int) ≤ (j : Int) by omega)
            have hws1 := hide (show IntKind.i64.wrap ((k : Int) - 1) = (j : Int) by simp [IntKind.wrap, IntKind.bits, IntKind.signed]; omega)
            generalize kb[j] = y at *
            generalize kb[k] = x at *
            replace hp2 := hide hp2
            replace c0 := hide c0
            replace c1 := hide c1
            replace hl1 := hide hl1
            replace hj := hide hj
            clear hpx
            go_wp2_with fail
            refine wp_region_flow (fun _ => False) (factAt [(fun v _ => v = (.slice (some ⟨g, o, none⟩) kb.length c5)), (fun v _ => v = (.int .i64 k)), (fun v _ => v = (.pointer (some ⟨g, o + k, none⟩))), (fun v _ => v = (.string x)), (fun v _ => v = (.int .i64 x.size)), (fun v _ => v = (.string pre)), (fun v _ => v = (.int .i64 pre.size)), (fun v _ => v = (.bool false)), (fun v _ => v = (.bool false)), (fun v _ => v = (.slice (some ⟨g, o, none⟩) kb.length c5)), (fun v _ => v = (.int .i64 k)), (fun v _ => v = (.pointer (some ⟨g, o + k, none⟩))), (fun v _ => v = (.string x)), (fun v _ => v = (.string pre)), (fun v _ => v = (.int .i64 pre.size)), (fun v _ => v = (.string (x.extract 0 pre.size))), (fun v _ => v = (.string pre)), (fun v _ => v = (.bool false)), (fun v _ => v = (.bool false)), (fun v _ => v = (.bool false)), (fun v _ => v = (.int .i64 k)), (fun v _ => v = (.bool true)), (fun v _ => v = (.bool true)), (fun v _ => v = (.slice (some ⟨g, o, none⟩) kb.length c5)), (fun v _ => v = (.int .i64 k)), (fun v _ => v = (.int .i64 j)), (fun v _ => v = (.pointer (some ⟨g, o + j, none⟩))), (fun v _ => v = (.string y)), (fun v _ => v = (.slice (some ⟨g, o, none⟩) kb.length c5)), (fun v _ => v = (.int .i64 k)), (fun v _ => v = (.pointer (some ⟨g, o + k, none⟩))), (fun v _ => v = (.string x)), (fun v _ => v = (.bool false)), (fun v _ => v = (.bool false)), (fun v _ => v = (.bool false))]) [] (fun _ => True) (by kernel_rfl) (fkept_at ⟨FKept.eq _, FKept.eq _, FKept.eq _, FKept.eq _, FKept.eq _, FKept.eq _, FKept.eq _, FKept.eq _, FKept.eq _, FKept.eq _, FKept.eq _, FKept.eq _, FKept.eq _, FKept.eq _, FKept.eq _, FKept.eq _, FKept.eq _, FKept.eq _, FKept.eq _, FKept.eq _, FKept.eq _, FKept.eq _, FKept.eq _, FKept.eq _, FKept.eq _, FKept.eq _, FKept.eq _, FKept.eq _, FKept.eq _, FKept.eq _, FKept.eq _, FKept.eq _, FKept.eq _, FKept.eq _, FKept.eq _, trivial⟩) (fun _ _ h _ => h) trivial (by kernel_rfl) (by kernel_rfl) (by kernel_rfl) (by kernel_rfl) (Nat.le_of_ble_eq_true (by kernel_rfl)) ?_ ⟨?_, ?_, ?_, ?_, ?_, ?_, ?_, ?_, ?_, ?_, ?_, ?_, ?_, ?_, ?_, ?_, ?_, ?_, ?_, ?_, ?_, ?_, ?_, ?_, ?_, ?_, ?_, ?_, ?_, ?_, ?_, ?_, ?_, ?_, ?_, trivial⟩ ?_
            · first | exact trivial | assumption
            · intro T w Q hu hs hv hw hd
              have hx8 : T.getD 8 undef = (.slice (some ⟨g, o, none⟩) kb.length c5) := hv 8 (by kernel_rfl)
              refine .inl ⟨wanted_none rfl, ?_⟩
              clear hd hv hu hs hw
              go_simp
              exact ⟨_, rfl, DstOk.some rfl, Below.refl _ _, rfl⟩
            · intro T w Q hu hs hv hw hd
              have hx9 : T.getD 9 undef = (.int .i64 k) := hv 9 (by kernel_rfl)
              refine .inl ⟨wanted_none rfl, ?_⟩
              clear hd hv hu hs hw
              go_simp
              exact ⟨_, rfl, DstOk.some rfl, Below.refl _ _, rfl⟩
            · intro T w Q hu hs hv hw hd
              have hx66 : T.getD 66 undef = (.slice (some ⟨g, o, none⟩) kb.length c5) := Deps.at 0 hd (by kernel_rfl)
              have hx67 : T.getD 67 undef = (.int .i64 k) := Deps.at 1 hd (by kernel_rfl)
              refine .inl ⟨wanted_none rfl, ?_⟩
              have a0 := hkl.out
              have a1 := hk00.out
              clear hd hv hu hs hw
              go_simp
              exact ⟨_, rfl, DstOk.some rfl, Below.refl _ _, rfl⟩
            · intro T w Q hu hs hv hw hd
              have hx68 : T.getD 68 undef = (.pointer (some ⟨g, o + k, none⟩)) := Deps.at 2 hd (by kernel_rfl)
              refine .inl ⟨wanted_none rfl, ?_⟩
              have hq := hu.cell c0.out id
              clear hd hv hu hs hw
              go_simp
              exact ⟨_, rfl, DstOk.some rfl, Below.refl _ _, rfl⟩
            · intro T w Q hu hs hv hw hd
              have hx69 : T.getD 69 undef = (.string x) := Deps.at 3 hd (by kernel_rfl)
              refine .inl ⟨wanted_none rfl, ?_⟩
              clear hd hv hu hs hw
              go_simp
              exact ⟨_, rfl, DstOk.some rfl, Below.refl _ _, rfl⟩
            · intro T w Q hu hs hv hw hd
              have hx1 : T.getD 1 undef = (.string pre) := hv 1 (by kernel_rfl)
              refine .inl ⟨wanted_none rfl, ?_⟩
              clear hd hv hu hs hw
              go_simp
              exact ⟨_, rfl, DstOk.some rfl, Below.refl _ _, rfl⟩
            · intro T w Q hu hs hv hw hd
              have hx71 : T.getD 71 undef = (.string pre) := Deps.at 5 hd (by kernel_rfl)
              refine .inl ⟨wanted_none rfl, ?_⟩
              clear hd hv hu hs hw
              go_simp
              exact ⟨_, rfl, DstOk.some rfl, Below.refl _ _, rfl⟩
            · intro T w Q hu hs hv hw hd
              have hx70 : T.getD 70 undef = (.int .i64 x.size) := Deps.at 4 hd (by kernel_rfl)
              have hx72 : T.getD 72 undef = (.int .i64 pre.size) := Deps.at 6 hd (by kernel_rfl)
              refine .inl ⟨wanted_none rfl, ?_⟩
              have a0 := hd1.out
              clear hd hv hu hs hw
              go_simp
              exact ⟨_, rfl, DstOk.some rfl, Below.refl _ _, by first | rfl | exact congrArg Value.bool (decide_eq_false (by omega))⟩
            · intro T w Q hu hs hv hw hd
              have hx73 : T.getD 73 undef = (.bool false) := Deps.at 7 hd (by kernel_rfl)
              refine .inl ⟨wanted_none rfl, ?_⟩
              clear hd hv hu hs hw
              go_simp
              exact ⟨_, rfl, DstOk.some rfl, Below.refl _ _, rfl⟩
            · intro T w Q hu hs hv hw hd
              have hx8 : T.getD 8 undef = (.slice (some ⟨g, o, none⟩) kb.length c5) := hv 8 (by kernel_rfl)
              refine .inl ⟨wanted_some rfl (Deps.at 8 hd (by kernel_rfl) : slotOf _ T 8 = .bool false), ?_⟩
              clear hd hv hu hs hw
              go_simp
              exact ⟨_, rfl, DstOk.some rfl, Below.refl _ _, rfl⟩
            · intro T w Q hu hs hv hw hd
              have hx9 : T.getD 9 undef = (.int .i64 k) := hv 9 (by kernel_rfl)
              refine .inl ⟨wanted_some rfl (Deps.at 8 hd (by kernel_rfl) : slotOf _ T 8 = .bool false), ?_⟩
              clear hd hv hu hs hw
              go_simp
              exact ⟨_, rfl, DstOk.some rfl, Below.refl _ _, rfl⟩
            · intro T w Q hu hs hv hw hd
              have hx75 : T.getD 75 undef = (.slice (some ⟨g, o, none⟩) kb.length c5) := Deps.at 9 hd (by kernel_rfl)
              have hx76 : T.getD 76 undef = (.int .i64 k) := Deps.at 10 hd (by kernel_rfl)
              refine .inl ⟨wanted_some rfl (Deps.at 8 hd (by kernel_rfl) : slotOf _ T 8 = .bool false), ?_⟩
              have a0 := hkl.out
              have a1 := hk00.out
              clear hd hv hu hs hw
              go_simp
              exact ⟨_, rfl, DstOk.some rfl, Below.refl _ _, rfl⟩
            · intro T w Q hu hs hv hw hd
              have hx77 : T.getD 77 undef = (.pointer (some ⟨g, o + k, none⟩)) := Deps.at 11 hd (by kernel_rfl)
              refine .inl ⟨wanted_some rfl (Deps.at 8 hd (by kernel_rfl) : slotOf _ T 8 = .bool false), ?_⟩
              have hq := hu.cell c0.out id
              clear hd hv hu hs hw
              go_simp
              exact ⟨_, rfl, DstOk.some rfl, Below.refl _ _, rfl⟩
            · intro T w Q hu hs hv hw hd
              have hx1 : T.getD 1 undef = (.string pre) := hv 1 (by kernel_rfl)
              refine .inl ⟨wanted_some rfl (Deps.at 8 hd (by kernel_rfl) : slotOf _ T 8 = .bool false), ?_⟩
              clear hd hv hu hs hw
              go_simp
              exact ⟨_, rfl, DstOk.some rfl, Below.refl _ _, rfl⟩
            · intro T w Q hu hs hv hw hd
              have hx79 : T.getD 79 undef = (.string pre) := Deps.at 13 hd (by kernel_rfl)
              refine .inl ⟨wanted_some rfl (Deps.at 8 hd (by kernel_rfl) : slotOf _ T 8 = .bool false), ?_⟩
              clear hd hv hu hs hw
              go_simp
              exact ⟨_, rfl, DstOk.some rfl, Below.refl _ _, rfl⟩
            · intro T w Q hu hs hv hw hd
              have hx78 : T.getD 78 undef = (.string x) := Deps.at 12 hd (by kernel_rfl)
              have hx80 : T.getD 80 undef = (.int .i64 pre.size) := Deps.at 14 hd (by kernel_rfl)
              refine .inl ⟨wanted_some rfl (Deps.at 8 hd (by kernel_rfl) : slotOf _ T 8 = .bool false), ?_⟩
              have a0 := hp1.out
              clear hd hv hu hs hw
              go_simp
              exact ⟨_, rfl, DstOk.some rfl, Below.refl _ _, rfl⟩
            · intro T w Q hu hs hv hw hd
              have hx1 : T.getD 1 undef = (.string pre) := hv 1 (by kernel_rfl)
              refine .inl ⟨wanted_some rfl (Deps.at 8 hd (by kernel_rfl) : slotOf _ T 8 = .bool false), ?_⟩
              clear hd hv hu hs hw
              go_simp
              exact ⟨_, rfl, DstOk.some rfl, Below.refl _ _, rfl⟩
            · intro T w Q hu hs hv hw hd
              have hx81 : T.getD 81 undef = (.string (x.extract 0 pre.size)) := Deps.at 15 hd (by kernel_rfl)
              have hx82 : T.getD 82 undef = (.string pre) := Deps.at 16 hd (by kernel_rfl)
              refine .inl ⟨wanted_some rfl (Deps.at 8 hd (by kernel_rfl) : slotOf _ T 8 = .bool false), ?_⟩
              have a0 := hp2.out
              clear hd hv hu hs hw
              go_simp
              exact ⟨_, rfl, DstOk.some rfl, Below.refl _ _, rfl⟩
            · intro T w Q hu hs hv hw hd
              have hx74 : T.getD 74 undef = (.bool false) := Deps.at 8 hd (by kernel_rfl)
              have hx83 : T.getD 83 undef = (.bool false) := Deps.at 17 hd (by kernel_rfl)
              refine .inl ⟨wanted_none rfl, ?_⟩
              clear hd hv hu hs hw
              go_simp
              exact ⟨_, rfl, DstOk.some rfl, Below.refl _ _, rfl⟩
            · intro T w Q hu hs hv hw hd
              have hx84 : T.getD 84 undef = (.bool false) := Deps.at 18 hd (by kernel_rfl)
              refine .inl ⟨wanted_none rfl, ?_⟩
              clear hd hv hu hs hw
              go_simp
              exact ⟨_, rfl, DstOk.some rfl, Below.refl _ _, rfl⟩
            · intro T w Q hu hs hv hw hd
              have hx9 : T.getD 9 undef = (.int .i64 k) := hv 9 (by kernel_rfl)
              refine .inl ⟨wanted_some rfl (Deps.at 19 hd (by kernel_rfl) : slotOf _ T 19 = .bool false), ?_⟩
              clear hd hv hu hs hw
              go_simp
              exact ⟨_, rfl, DstOk.some rfl, Below.refl _ _, rfl⟩
            · intro T w Q hu hs hv hw hd
              have hx86 : T.getD 86 undef = (.int .i64 k) := Deps.at 20 hd (by kernel_rfl)
              refine .inl ⟨wanted_some rfl (Deps.at 19 hd (by kernel_rfl) : slotOf _ T 19 = .bool false), ?_⟩
              have a0 := hkz.out
              clear hd hv hu hs hw
              go_simp
              exact ⟨_, rfl, DstOk.some rfl, Below.refl _ _, by first | rfl | exact congrArg Value.bool (decide_eq_true (by omega))⟩
            · intro T w Q hu hs hv hw hd
              have hx87 : T.getD 87 undef = (.bool true) := Deps.at 21 hd (by kernel_rfl)
              refine .inl ⟨wanted_some rfl (Deps.at 19 hd (by kernel_rfl) : slotOf _ T 19 = .bool false), ?_⟩
              clear hd hv hu hs hw
              go_simp
              exact ⟨_, rfl, DstOk.some rfl, Below.refl _ _, rfl⟩
            · intro T w Q hu hs hv hw hd
              have hx8 : T.getD 8 undef = (.slice (some ⟨g, o, none⟩) kb.length c5) := hv 8 (by kernel_rfl)
              refine .inl ⟨wanted_some rfl (Deps.at 22 hd (by kernel_rfl) : slotOf _ T 22 = .bool true), ?_⟩
              clear hd hv hu hs hw
              go_simp
              exact ⟨_, rfl, DstOk.some rfl, Below.refl _ _, rfl⟩
            · intro T w Q hu hs hv hw hd
              have hx9 : T.getD 9 undef = (.int .i64 k) := hv 9 (by kernel_rfl)
              refine .inl ⟨wanted_some rfl (Deps.at 22 hd (by kernel_rfl) : slotOf _ T 22 = .bool true), ?_⟩
              clear hd hv hu hs hw
              go_simp
              exact ⟨_, rfl, DstOk.some rfl, Below.refl _ _, rfl⟩
            · intro T w Q hu hs hv hw hd
              have hx90 : T.getD 90 undef = (.int .i64 k) := Deps.at 24 hd (by kernel_rfl)
              refine .inl ⟨wanted_some rfl (Deps.at 22 hd (by kernel_rfl) : slotOf _ T 22 = .bool true), ?_⟩
              clear hd hv hu hs hw
              go_simp
              exact ⟨_, rfl, DstOk.some rfl, Below.refl _ _, congrArg (Value.int .i64) hws1.out⟩
            · intro T w Q hu hs hv hw hd
              have hx89 : T.getD 89 undef = (.slice (some ⟨g, o, none⟩) kb.length c5) := Deps.at 23 hd (by kernel_rfl)
              have hx91 : T.getD 91 undef = (.int .i64 j) := Deps.at 25 hd (by kernel_rfl)
              refine .inl ⟨wanted_some rfl (Deps.at 22 hd (by kernel_rfl) : slotOf _ T 22 = .bool true), ?_⟩
              have a0 := hjl.out
              have a1 := hj0.out
              clear hd hv hu hs hw
              go_simp
              exact ⟨_, rfl, DstOk.some rfl, Below.refl _ _, rfl⟩
            · intro T w Q hu hs hv hw hd
              have hx92 : T.getD 92 undef = (.pointer (some ⟨g, o + j, none⟩)) := Deps.at 26 hd (by kernel_rfl)
              refine .inl ⟨wanted_some rfl (Deps.at 22 hd (by kernel_rfl) : slotOf _ T 22 = .bool true), ?_⟩
              have hq := hu.cell c1.out id
              clear hd hv hu hs hw
              go_simp
              exact ⟨_, rfl, DstOk.some rfl, Below.refl _ _, rfl⟩
            · intro T w Q hu hs hv hw hd
              have hx8 : T.getD 8 undef = (.slice (some ⟨g, o, none⟩) kb.length c5) := hv 8 (by kernel_rfl)
              refine .inl ⟨wanted_some rfl (Deps.at 22 hd (by kernel_rfl) : slotOf _ T 22 = .bool true), ?_⟩
              clear hd hv hu hs hw
              go_simp
              exact ⟨_, rfl, DstOk.some rfl, Below.refl _ _, rfl⟩
            · intro T w Q hu hs hv hw hd
              have hx9 : T.getD 9 undef = (.int .i64 k) := hv 9 (by kernel_rfl)
              refine .inl ⟨wanted_some rfl (Deps.at 22 hd (by kernel_rfl) : slotOf _ T 22 = .bool true), ?_⟩
              clear hd hv hu hs hw
              go_simp
              exact ⟨_, rfl, DstOk.some rfl, Below.refl _ _, rfl⟩
            · intro T w Q hu hs hv hw hd
              have hx94 : T.getD 94 undef = (.slice (some ⟨g, o, none⟩) kb.length c5) := Deps.at 28 hd (by kernel_rfl)
              have hx95 : T.getD 95 undef = (.int .i64 k) := Deps.at 29 hd (by kernel_rfl)
              refine .inl ⟨wanted_some rfl (Deps.at 22 hd (by kernel_rfl) : slotOf _ T 22 = .bool true), ?_⟩
              have a0 := hkl.out
              have a1 := hk00.out
              clear hd hv hu hs hw
              go_simp
              exact ⟨_, rfl, DstOk.some rfl, Below.refl _ _, rfl⟩
            · intro T w Q hu hs hv hw hd
              have hx96 : T.getD 96 undef = (.pointer (some ⟨g, o + k, none⟩)) := Deps.at 30 hd (by kernel_rfl)
              refine .inl ⟨wanted_some rfl (Deps.at 22 hd (by kernel_rfl) : slotOf _ T 22 = .bool true), ?_⟩
              have hq := hu.cell c0.out id
              clear hd hv hu hs hw
              go_simp
              exact ⟨_, rfl, DstOk.some rfl, Below.refl _ _, rfl⟩
            · intro T w Q hu hs hv hw hd
              have hx93 : T.getD 93 undef = (.string y) := Deps.at 27 hd (by kernel_rfl)
              have hx97 : T.getD 97 undef = (.string x) := Deps.at 31 hd (by kernel_rfl)
              refine .inl ⟨wanted_some rfl (Deps.at 22 hd (by kernel_rfl) : slotOf _ T 22 = .bool true), ?_⟩
              have a0 := hl1.out
              clear hd hv hu hs hw
              go_simp
              exact ⟨_, rfl, DstOk.some rfl, Below.refl _ _, rfl⟩
            · intro T w Q hu hs hv hw hd
              have hx88 : T.getD 88 undef = (.bool true) := Deps.at 22 hd (by kernel_rfl)
              have hx98 : T.getD 98 undef = (.bool false) := Deps.at 32 hd (by kernel_rfl)
              refine .inl ⟨wanted_some rfl (Deps.at 19 hd (by kernel_rfl) : slotOf _ T 19 = .bool false), ?_⟩
              clear hd hv hu hs hw
              go_simp
              exact ⟨_, rfl, DstOk.some rfl, Below.refl _ _, rfl⟩
            · intro T w Q hu hs hv hw hd
              have hx85 : T.getD 85 undef = (.bool false) := Deps.at 19 hd (by kernel_rfl)
              have hx99 : T.getD 99 undef = (.bool false) := Deps.at 33 hd (by kernel_rfl)
              refine .inl ⟨wanted_none rfl, ?_⟩
              clear hd hv hu hs hw
              go_simp
              exact ⟨_, rfl, DstOk.some rfl, Below.refl _ _, rfl⟩
            intro T w hu hs hv hf hcur
            have hT : T = #[T.getD 0 undef, T.getD 1 undef, T.getD 2 undef, T.getD 3 undef, T.getD 4 undef, T.getD 5 undef, T.getD 6 undef, T.getD 7 undef, T.getD 8 undef, T.getD 9 undef, T.getD 10 undef, T.getD 11 undef, T.getD 12 undef, T.getD 13 undef, T.getD 14 undef, T.getD 15 undef, T.getD 16 undef, T.getD 17 undef, T.getD 18 undef, T.getD 19 undef, T.getD 20 undef, T.getD 21 undef, T.getD 22 undef, T.getD 23 undef, T.getD 24 undef, T.getD 25 undef, T.getD 26 undef, T.getD 27 undef, T.getD 28 undef, T.getD 29 undef, T.getD 30 undef, T.getD 31 undef, T.getD 32 undef, T.getD 33 undef, T.getD 34 undef, T.getD 35 undef, T.getD 36 undef, T.getD 37 undef, T.getD 38 undef, T.getD 39 undef, T.getD 40 undef, T.getD 41 undef, T.getD 42 undef, T.getD 43 undef, T.getD 44 undef, T.getD 45 undef, T.getD 46 undef, T.getD 47 undef, T.getD 48 undef, T.getD 49 undef, T.getD 50 undef, T.getD 51 undef, T.getD 52 undef, T.getD 53 undef, T.getD 54 undef, T.getD 55 undef, T.getD 56 undef, T.getD 57 undef, T.getD 58 undef, T.getD 59 undef, T.getD 60 undef, T.getD 61 undef, T.getD 62 undef, T.getD 63 undef, T.getD 64 undef, T.getD 65 undef, T.getD 66 undef, T.getD 67 undef, T.getD 68 undef, T.getD 69 undef, T.getD 70 undef, T.getD 71 undef, T.getD 72 undef, T.getD 73 undef, T.getD 74 undef, T.getD 75 undef, T.getD 76 undef, T.getD 77 undef, T.getD 78 undef, T.getD 79 undef, T.getD 80 undef, T.getD 81 undef, T.getD 82 undef, T.getD 83 undef, T.getD 84 undef, T.getD 85 undef, T.getD 86 undef, T.getD 87 undef, T.getD 88 undef, T.getD 89 undef, T.getD 90 undef, T.getD 91 undef, T.getD 92 undef, T.getD 93 undef, T.getD 94 undef, T.getD 95 undef, T.getD 96 undef, T.getD 97 undef, T.getD 98 undef, T.getD 99 undef, T.getD 100 undef, T.getD 101 undef, T.getD 102 undef, T.getD 103 undef, T.getD 104 undef, T.getD 105 undef, T.getD 106 undef, T.getD 107 undef, T.getD 108 undef, T.getD 109 undef, T.getD 110 undef, T.getD 111 undef, T.getD 112 undef, T.getD 113 undef, T.getD 114 undef, T.getD 115 undef, T.getD 116 undef, T.getD 117 undef, T.getD 118 undef, T.getD 119 undef, T.getD 120 undef, T.getD 121 undef, T.getD 122 undef, T.getD 123 undef, T.getD 124 undef, T.getD 125 undef, T.getD 126 undef, T.getD 127 undef, T.getD 128 undef, T.getD 129 undef, T.getD 130 undef, T.getD 131 undef, T.getD 132 undef, T.getD 133 undef, T.getD 134 undef, T.getD 135 undef, T.getD 136 undef, T.getD 137 undef, T.getD 138 undef, T.getD 139 undef, T.getD 140 undef, T.getD 141 undef, T.getD 142 undef, T.getD 143 undef, T.getD 144 undef, T.getD 145 undef, T.getD 146 undef, T.getD 147 undef, T.getD 148 undef, T.getD 149 undef, T.getD 150 undef, T.getD 151 undef, T.getD 152 undef, T.getD 153 undef, T.getD 154 undef, T.getD 155 undef, T.getD 156 undef, T.getD 157 undef, T.getD 158 undef, T.getD 159 undef, T.getD 160 undef, T.getD 161 undef, T.getD 162 undef, T.getD 163 undef, T.getD 164 undef, T.getD 165 undef, T.getD 166 undef, T.getD 167 undef] := expl hs
            rw [hT]
            clear hT
            rw [show T.getD 0 undef = (.slice A ls.length c) from hv 0 (by kernel_rfl)]
            rw [show T.getD 1 undef = (.string pre) from hv 1 (by kernel_rfl)]
            rw [hv 2 (by kernel_rfl)]
            rw [hv 3 (by kernel_rfl)]
            rw [hv 4 (by kernel_rfl)]
            rw [show T.getD 5 undef = (.pointer (some ⟨q, 0, none⟩)) from hv 5 (by kernel_rfl)]
            rw [hv 6 (by kernel_rfl)]
            rw [hv 7 (by kernel_rfl)]
            rw [show T.getD 8 undef = (.slice (some ⟨g, o, none⟩) kb.length c5) from hv 8 (by kernel_rfl)]
            rw [show T.getD 9 undef = (.int .i64 k) from hv 9 (by kernel_rfl)]
            rw [hv 10 (by kernel_rfl)]
            rw [hv 11 (by kernel_rfl)]
            rw [hv 12 (by kernel_rfl)]
            rw [hv 13 (by kernel_rfl)]
            rw [hv 14 (by kernel_rfl)]
            rw [hv 15 (by kernel_rfl)]
            rw [hv 16 (by kernel_rfl)]
            rw [hv 17 (by kernel_rfl)]
            rw [hv 18 (by kernel_rfl)]
            rw [hv 19 (by kernel_rfl)]
            rw [hv 20 (by kernel_rfl)]
            rw [hv 21 (by kernel_rfl)]
            rw [hv 22 (by kernel_rfl)]
            rw [hv 23 (by kernel_rfl)]
            rw [hv 24 (by kernel_rfl)]
            rw [hv 25 (by kernel_rfl)]
            rw [hv 26 (by kernel_rfl)]
            rw [hv 27 (by kernel_rfl)]
            rw [hv 28 (by kernel_rfl)]
            rw [hv 29 (by kernel_rfl)]
            rw [hv 30 (by kernel_rfl)]
            rw [hv 31 (by kernel_rfl)]
            rw [hv 32 (by kernel_rfl)]
            rw [hv 33 (by kernel_rfl)]
            rw [hv 34 (by kernel_rfl)]
            rw [hv 35 (by kernel_rfl)]
            rw [hv 36 (by kernel_rfl)]
            rw [hv 37 (by kernel_rfl)]
            rw [hv 38 (by kernel_rfl)]
            rw [hv 39 (by kernel_rfl)]
            rw [hv 40 (by kernel_rfl)]
            rw [hv 41 (by kernel_rfl)]
            rw [hv 42 (by kernel_rfl)]
            rw [hv 43 (by kernel_rfl)]
            rw [hv 44 (by kernel_rfl)]
            rw [hv 45 (by kernel_rfl)]
            rw [hv 46 (by kernel_rfl)]
            rw [hv 47 (by kernel_rfl)]
            rw [hv 48 (by kernel_rfl)]
            rw [hv 49 (by kernel_rfl)]
            rw [hv 50 (by kernel_rfl)]
            rw [hv 51 (by kernel_rfl)]
            rw [hv 52 (by kernel_rfl)]
            rw [hv 53 (by kernel_rfl)]
            rw [hv 54 (by kernel_rfl)]
            rw [hv 55 (by kernel_rfl)]
            rw [hv 56 (by kernel_rfl)]
            rw [hv 57 (by kernel_rfl)]
            rw [hv 58 (by kernel_rfl)]
            rw [hv 59 (by kernel_rfl)]
            rw [hv 60 (by kernel_rfl)]
            rw [hv 61 (by kernel_rfl)]
            rw [hv 62 (by kernel_rfl)]
            rw [hv 63 (by kernel_rfl)]
            rw [hv 64 (by kernel_rfl)]
            rw [hv 65 (by kernel_rfl)]
            rw [show T.getD 66 undef = (.slice (some ⟨g, o, none⟩) kb.length c5) from hf 0 (by decide)]
            rw [show T.getD 67 undef = (.int .i64 k) from hf 1 (by decide)]
            rw [show T.getD 68 undef = (.pointer (some ⟨g, o + k, none⟩)) from hf 2 (by decide)]
            rw [show T.getD 69 undef = (.string x) from hf 3 (by decide)]
            rw [show T.getD 70 undef = (.int .i64 x.size) from hf 4 (by decide)]
            rw [show T.getD 71 undef = (.string pre) from hf 5 (by decide)]
            rw [show T.getD 72 undef = (.int .i64 pre.size) from hf 6 (by decide)]
            rw [show T.getD 73 undef = (.bool false) from hf 7 (by decide)]
            rw [show T.getD 74 undef = (.bool false) from hf 8 (by decide)]
            rw [show T.getD 75 undef = (.slice (some ⟨g, o, none⟩) kb.length c5) from hf 9 (by decide)]
            rw [show T.getD 76 undef = (.int .i64 k) from hf 10 (by decide)]
            rw [show T.getD 77 undef = (.pointer (some ⟨g, o + k, none⟩)) from hf 11 (by decide)]
            rw [show T.getD 78 undef = (.string x) from hf 12 (by decide)]
            rw [show T.getD 79 undef = (.string pre) from hf 13 (by decide)]
            rw [show T.getD 80 undef = (.int .i64 pre.size) from hf 14 (by decide)]
            rw [show T.getD 81 undef = (.string (x.extract 0 pre.size)) from hf 15 (by decide)]
            rw [show T.getD 82 undef = (.string pre) from hf 16 (by decide)]
            rw [show T.getD 83 undef = (.bool false) from hf 17 (by decide)]
            rw [show T.getD 84 undef = (.bool false) from hf 18 (by decide)]
            rw [show T.getD 85 undef = (.bool false) from hf 19 (by decide)]
            rw [show T.getD 86 undef = (.int .i64 k) from hf 20 (by decide)]
            rw [show T.getD 87 undef = (.bool true) from hf 21 (by decide)]
            rw [show T.getD 88 undef = (.bool true) from hf 22 (by decide)]
            rw [show T.getD 89 undef = (.slice (some ⟨g, o, none⟩) kb.length c5) from hf 23 (by decide)]
            rw [show T.getD 90 undef = (.int .i64 k) from hf 24 (by decide)]
            rw [show T.getD 91 undef = (.int .i64 j) from hf 25 (by decide)]
            rw [show T.getD 92 undef = (.pointer (some ⟨g, o + j, none⟩)) from hf 26 (by decide)]
            rw [show T.getD 93 undef = (.string y) from hf 27 (by decide)]
            rw [show T.getD 94 undef = (.slice (some ⟨g, o, none⟩) kb.length c5) from hf 28 (by decide)]
            rw [show T.getD 95 undef = (.int .i64 k) from hf 29 (by decide)]
            rw [show T.getD 96 undef = (.pointer (some ⟨g, o + k, none⟩)) from hf 30 (by decide)]
            rw [show T.getD 97 undef = (.string x) from hf 31 (by decide)]
            rw [show T.getD 98 undef = (.bool false) from hf 32 (by decide)]
            rw [show T.getD 99 undef = (.bool false) from hf 33 (by decide)]
            rw [show T.getD 100 undef = (.bool false) from hf 34 (by decide)]
            rw [hv 101 (by kernel_rfl)]
            rw [hv 102 (by kernel_rfl)]
            rw [hv 103 (by kernel_rfl)]
            rw [hv 104 (by kernel_rfl)]
            rw [hv 105 (by kernel_rfl)]
            rw [hv 106 (by kernel_rfl)]
            rw [hv 107 (by kernel_rfl)]
            rw [hv 108 (by kernel_rfl)]
            rw [hv 109 (by kernel_rfl)]
            rw [hv 110 (by kernel_rfl)]
            rw [hv 111 (by kernel_rfl)]
            rw [hv 112 (by kernel_rfl)]
            rw [hv 113 (by kernel_rfl)]
            rw [hv 114 (by kernel_rfl)]
            rw [hv 115 (by kernel_rfl)]
            rw [hv 116 (by kernel_rfl)]
            rw [hv 117 (by kernel_rfl)]
            rw [hv 118 (by kernel_rfl)]
            rw [hv 119 (by kernel_rfl)]
            rw [hv 120 (by kernel_rfl)]
            rw [hv 121 (by kernel_rfl)]
            rw [hv 122 (by kernel_rfl)]
            rw [hv 123 (by kernel_rfl)]
            rw [hv 124 (by kernel_rfl)]
            rw [hv 125 (by kernel_rfl)]
            rw [hv 126 (by kernel_rfl)]
            rw [hv 127 (by kernel_rfl)]
            rw [hv 128 (by kernel_rfl)]
            rw [hv 129 (by kernel_rfl)]
            rw [hv 130 (by kernel_rfl)]
            rw [hv 131 (by kernel_rfl)]
            rw [hv 132 (by kernel_rfl)]
            rw [hv 133 (by kernel_rfl)]
            rw [hv 134 (by kernel_rfl)]
            rw [hv 135 (by kernel_rfl)]
            rw [hv 136 (by kernel_rfl)]
            rw [hv 137 (by kernel_rfl)]
            rw [hv 138 (by kernel_rfl)]
            rw [hv 139 (by kernel_rfl)]
            rw [hv 140 (by kernel_rfl)]
            rw [hv 141 (by kernel_rfl)]
            rw [hv 142 (by kernel_rfl)]
            rw [hv 143 (by kernel_rfl)]
            rw [hv 144 (by kernel_rfl)]
            rw [hv 145 (by kernel_rfl)]
            rw [hv 146 (by kernel_rfl)]
            rw [hv 147 (by kernel_rfl)]
            rw [hv 148 (by kernel_rfl)]
            rw [hv 149 (by kernel_rfl)]
            rw [hv 150 (by kernel_rfl)]
            rw [hv 151 (by kernel_rfl)]
            rw [hv 152 (by kernel_rfl)]
            rw [hv 153 (by kernel_rfl)]
            rw [hv 154 (by kernel_rfl)]
            rw [hv 155 (by kernel_rfl)]
            rw [hv 156 (by kernel_rfl)]
            rw [hv 157 (by kernel_rfl)]
            rw [hv 158 (by kernel_rfl)]
            rw [hv 159 (by kernel_rfl)]
            rw [hv 160 (by kernel_rfl)]
            rw [hv 161 (by kernel_rfl)]
            rw [hv 162 (by kernel_rfl)]
            rw [hv 163 (by kernel_rfl)]
            rw [hv 164 (by kernel_rfl)]
            rw [hv 165 (by kernel_rfl)]
            rw [hv 166 (by kernel_rfl)]
            rw [hv 167 (by kernel_rfl)]
            clear hf hs hv hcur
            simp only [getD_toArray, List.getD_cons_succ, List.getD_cons_zero]
            clear T
            have hbw2 := hide (hbw.out.trans (hu.below hbw.out.size fun _ h => h.elim))
            clear hu
            go_wp2_with fail
            go_roundw
            case rel => exact ⟨k + 1, hlt, by go_num, hbw2.out⟩
            case measure => simp [intOf]; omega
        · obtain rfl : k = kb.length := by omega
          replace hbw := hide hbw
          clear huw
          go_wp2_with fail
          go_loopw [10, 11] (fun n i wr => ∃ (k : Nat) (fs : List ByteArray), k ≤ ls.length ∧ i = .int .i64 k ∧ n = .int .i64 fs.length ∧ fs.Nodup ∧ (∀ x, x ∈ fs ↔ x ∈ ls.take k ∧ pre.data.toList.isPrefixOf x.data.toList = true) ∧ fs.length ≤ k ∧ Below w5.heap.size w5 wr) (fun _ i _ => ls.length - (intOf i).toNat)
          case atStart => exact ⟨0, [], Nat.zero_le _, rfl, rfl, List.nodup_nil, fun x => by simp, Nat.zero_le _, hbw.out⟩
          case round =>
            obtain ⟨k, fs, hk, rfl, rfl, hnd, hmem, hfk, hbx⟩ := hrel
            have hux := Upd.of_below (fun _ => False) hbx
            have hbW := hb5.out.trans (hbx.mono hb5.out.size)
            rcases Nat.lt_or_ge k ls.length with hlt | hge
            · have hv6 := hv.out.upd (Upd.of_below (fun _ => False) hbW) fun _ _ => id
              obtain ⟨g, o, rfl, hTg, c0⟩ := hv6.get (i := k) (u := .string ls[k]) (by simp [hlt])
              replace hv6 := hide hv6
              have hin : ls[k] ∈ ls := List.getElem_mem hlt
              have hkx : (ls.map Value.string)[k]? = some (.string ls[k]) := by simp [hlt]
              have hget : ∀ w2, Upd (fun _ => False) w5 w2 → Calls Tryz.prog 24 #[.map (some mb), .string ls[k]] w2 fun e w' => e = .returned (.tuple #[.string ⟨#[]⟩, .bool true]) ∧ Below w2.heap.size w2 w' := fun w2 hu => by
                have := get_any (htb5.out.upd hu id) ls[k] (by have := h30.out _ hin; omega)
                rw [chs_mkP_in hin] at this
                exact this
              have htk : ls.take (k + 1) = ls.take k ++ [ls[k]] := List.take_succ_eq_append_getElem hlt
              obtain ⟨pf, hpf⟩ : ∃ pf, pf = pre.data.toList.isPrefixOf ls[k].data.toList := ⟨_, rfl⟩
              generalize ls[k] = x at *
              have hkl := hide (show (k : Int) < (ls.length : Int) by omega)
              have hk00 := hide (show (0 : Int) ≤ (k : Int) by omega)
              obtain ⟨bb, hbb⟩ : ∃ bb, bb = (pf && !isIn x (ls.take k)) := ⟨_, rfl⟩
              obtain ⟨fs2, hfs2⟩ : ∃ fs2, fs2 = if bb then fs ++ [x] else fs := ⟨_, rfl⟩
              have hnd2 : fs2.Nodup := by
                rw [hfs2]
                cases bb with
                | false => simpa using hnd
                | true =>
                  simp only [if_true]
                  refine List.nodup_append.2 ⟨hnd, by simp, fun a ha b hb e => ?_⟩
                  rw [List.mem_singleton] at hb
                  subst hb e
                  have h1 := ((hmem a).1 ha).1
                  rw [isIn_iff.2 h1] at hbb
                  simp at hbb
              have hmem2 : ∀ y, y ∈ fs2 ↔ y ∈ ls.take (k + 1) ∧ pre.data.toList.isPrefixOf y.data.toList = true := by
                intro y
                rw [htk, List.mem_append, List.mem_singleton, hfs2]
                cases bb with
                | false =>
                  simp only [Bool.false_eq_true, if_false]
                  rw [hmem y]
                  constructor
                  · rintro ⟨a1, a2⟩; exact ⟨.inl a1, a2⟩
                  · rintro ⟨a1 | rfl, a2⟩
                    · exact ⟨a1, a2⟩
                    · rw [a2] at hpf
                      subst hpf
                      simp at hbb
                      exact ⟨isIn_iff.1 hbb, a2⟩
                | true =>
                  simp only [if_true]
                  rw [List.mem_append, List.mem_singleton, hmem y]
                  have hpt : pf = true := by cases pf with | true => rfl | false => simp at hbb
                  constructor
                  · rintro (⟨a1, a2⟩ | rfl)
                    · exact ⟨.inl a1, a2⟩
                    · exact ⟨.inr rfl, by rw [← hpf, hpt]⟩
                  · rintro ⟨a1 | rfl, a2⟩
                    · exact .inl ⟨a1, a2⟩
                    · exact .inr rfl
              have hlen2 : fs2.length = if bb then fs.length + 1 else fs.length := by rw [hfs2]; cases bb <;> simp
              replace hnd2 := hide hnd2
              replace hmem2 := hide hmem2
              replace hget := hide hget
              replace htk := hide htk
              replace hin := hide hin
              replace hfs2 := hide hfs2
              replace hbx := hide hbx
              replace hbW := hide hbW
              replace hux := hide hux
              replace hmem := hide hmem
              replace hnd := hide hnd
              replace hpf := hide hpf
              replace hlen2 := hide hlen2
              replace hbb := hide hbb
              replace hkx := hide hkx
              by_cases hps : pre.size ≤ x.size
              case' pos =>
                have hcut := prefix_iff x pre
                rw [← hpf.out] at hcut
                go_wp2_with fail
              case' neg =>
                have hsh := prefix_short hps
                rw [← hpf.out] at hsh
                replace hsh := hide hsh
                go_wp2_with fail
              all_goals
                go_loopw [12, 13] (fun b j wy => ∃ m : Nat, m ≤ k ∧ j = .int .i64 m ∧ b = .bool (pf && !isIn x (ls.take m)) ∧ Below w5.heap.size w5 wy) (fun _ j _ => k - (intOf j).toNat)
                case atStart => exact ⟨0, Nat.zero_le _, rfl, by first | (simp [isIn]; done) | (simp [isIn, hsh.out]; done), hbx.out⟩
                case round =>
                  obtain ⟨m, hm, rfl, rfl, hby⟩ := hrel
                  have huy := Upd.of_below (fun _ => False) hby
                  have hbY := hb5.out.trans (hby.mono hb5.out.size)
                  have hvy := hv.out.upd (Upd.of_below (fun _ => False) hbY) fun _ _ => id
                  rcases Nat.lt_or_ge m k with hmk | hge
                  · have hml : m < ls.length := by omega
                    obtain ⟨g1, o1, e5, hTg1, c1⟩ := hvy.get (i := m) (u := .string ls[m]) (by simp [hml])
                    obtain ⟨rfl, rfl⟩ : g = g1 ∧ o = o1 := by injection e5 with e5; injection e5 with e6 e7; exact ⟨e6, e7⟩
                    obtain ⟨g2, o2, e8, hTg2, c2⟩ := hvy.get hkx.out
                    obtain ⟨rfl, rfl⟩ : g = g2 ∧ o = o2 := by injection e8 with e8; injection e8 with e9 e10; exact ⟨e9, e10⟩
                    have hst : isIn x (ls.take (m + 1)) = (isIn x (ls.take m) || decide (ls[m] = x)) := by rw [List.take_succ_eq_append_getElem hml, isIn_snoc]
                    generalize ls[m] = y at *
                    obtain ⟨ee, hee⟩ : ∃ ee, ee = decide (y = x) := ⟨_, rfl⟩
                    have hbe : (y.toList == x.toList) = ee := by rw [hee]; exact beq_strs
                    rw [← hee] at hst
                    obtain ⟨b0, hb0⟩ : ∃ b0, b0 = (pf && !isIn x (ls.take m)) := ⟨_, rfl⟩
                    have hb1 : (b0 && !ee) = (pf && !isIn x (ls.take (m + 1))) := by rw [hst, hb0]; cases pf <;> cases isIn x (ls.take m) <;> cases ee <;> rfl
                    rw [← hb0]
                    replace hb0 := hide hb0
                    replace hb1 := hide hb1
                    replace hee := hide hee
                    replace hst := hide hst
                    replace hby := hide hby
                    replace hbY := hide hbY
                    clear huy hvy e5 e8
                    cases b0
                    · go_wp2_with fail
                      go_quiet (fail)
                      go_wp2_with fail
                      go_roundw
                      case rel => exact ⟨m + 1, hmk, by go_num, by rw [← hb1.out]; rfl, below_drewN hby.out _⟩
                      case measure => simp [intOf]; omega
                    · go_wp2_with fail
                      go_quiet (fail)
                      go_wp2_with fail
                      go_roundw
                      case rel => exact ⟨m + 1, hmk, by go_num, by rw [← hb1.out]; rfl, below_drewN hby.out _⟩
                      case measure => simp [intOf]; omega
                  · obtain rfl : m = k := by omega
                    rw [← hbb.out]
                    have hgetY : ∀ w2, Upd (fun _ => False) wr w2 → _ := fun w2 hu => hget.out w2 (huy.trans hu fun _ _ h => h)
                    have cmb := (hst5.out.upd huy id).cell 2
                    obtain ⟨g2, o2, e8, hTg2, c0y⟩ := hvy.get hkx.out
                    obtain ⟨rfl, rfl⟩ : g = g2 ∧ o = o2 := by injection e8 with e8; injection e8 with e9 e10; exact ⟨e9, e10⟩
                    replace hby := hide hby
                    replace hbY := hide hbY
                    replace hgetY := hide hgetY
                    replace cmb := hide cmb
                    replace c0y := hide c0y
                    clear huy hvy e8 hget c0
                    cases bb
                    · go_wp2_with fail
                      generalize hN : ((fs.length : Nat) : Int) = N
                      refine wp_region_flowG (fun _ => False) (factAt [(fun v _ => v = (.pointer (some ⟨q, 0, none⟩))), (fun v _ => v = (.pointer (some ⟨q, 0, none⟩))), (fun v _ => v = (.pointer (some ⟨q, 2, none⟩))), (fun v _ => v = (.map (some mb))), (fun v _ => v = (.slice (some ⟨g, o, none⟩) ls.length c)), (fun v _ => v = (.int .i64 m)), (fun v _ => v = (.pointer (some ⟨g, o + m, none⟩))), (fun v _ => v = (.string x)), (fun v _ => v = (.tuple #[.string ⟨#[]⟩, .bool true])), (fun v _ => v = (.tuple #[.string ⟨#[]⟩, .bool true])), (fun v _ => v = (.string ⟨#[]⟩)), (fun v _ => v = (.bool true)), (fun v _ => v = (.string ⟨#[]⟩)), (fun v _ => v = (.bool true))]) [] (fun _ => True) (by kernel_rfl) (fkept_at ⟨FKept.eq _, FKept.eq _, FKept.eq _, FKept.eq _, FKept.eq _, FKept.eq _, FKept.eq _, FKept.eq _, FKept.eq _, FKept.eq _, FKept.eq _, FKept.eq _, FKept.eq _, FKept.eq _, trivial⟩) (fun _ _ h _ => h) trivial (by kernel_rfl) (by kernel_rfl) (by kernel_rfl) (by kernel_rfl) (Nat.le_of_ble_eq_true (by kernel_rfl)) ?_ ⟨?_, ?_, ?_, ?_, ?_, ?_, ?_, ?_, ?_, ?_, ?_, ?_, ?_, ?_, trivial⟩ ?_
                      · first | exact trivial | assumption
                      · intro T w Q hu hs hv hw hd
                        have hx5 : T.getD 5 undef = (.pointer (some ⟨q, 0, none⟩)) := hv 5 (by kernel_rfl)
                        refine .inl ⟨wanted_none rfl, ?_⟩
                        clear hd hv hu hs hw
                        go_simp
                        exact ⟨_, rfl, DstOk.some rfl, Below.refl _ _, rfl⟩
                      · intro T w Q hu hs hv hw hd
                        have hx147 : T.getD 147 undef = (.pointer (some ⟨q, 0, none⟩)) := Deps.at 0 hd (by kernel_rfl)
                        refine .inl ⟨wanted_none rfl, ?_⟩
                        clear hd hv hu hs hw
                        go_simp
                        exact ⟨_, rfl, DstOk.some rfl, Below.refl _ _, rfl⟩
                      · intro T w Q hu hs hv hw hd
                        have hx148 : T.getD 148 undef = (.pointer (some ⟨q, 0, none⟩)) := Deps.at 1 hd (by kernel_rfl)
                        refine .inl ⟨wanted_none rfl, ?_⟩
                        clear hd hv hu hs hw
                        go_simp
                        exact ⟨_, rfl, DstOk.some rfl, Below.refl _ _, rfl⟩
                      · intro T w Q hu hs hv hw hd
                        have hx149 : T.getD 149 undef = (.pointer (some ⟨q, 2, none⟩)) := Deps.at 2 hd (by kernel_rfl)
                        refine .inl ⟨wanted_none rfl, ?_⟩
                        have hq := hu.cell cmb.out id
                        clear hd hv hu hs hw
                        go_simp
                        exact ⟨_, rfl, DstOk.some rfl, Below.refl _ _, rfl⟩
                      · intro T w Q hu hs hv hw hd
                        have hx0 : T.getD 0 undef = (.slice (some ⟨g, o, none⟩) ls.length c) := hv 0 (by kernel_rfl)
                        refine .inl ⟨wanted_none rfl, ?_⟩
                        clear hd hv hu hs hw
                        go_simp
                        exact ⟨_, rfl, DstOk.some rfl, Below.refl _ _, rfl⟩
                      · intro T w Q hu hs hv hw hd
                        have hx11 : T.getD 11 undef = (.int .i64 m) := hv 11 (by kernel_rfl)
                        refine .inl ⟨wanted_none rfl, ?_⟩
                        clear hd hv hu hs hw
                        go_simp
                        exact ⟨_, rfl, DstOk.some rfl, Below.refl _ _, rfl⟩
                      · intro T w Q hu hs hv hw hd
                        have hx151 : T.getD 151 undef = (.slice (some ⟨g, o, none⟩) ls.length c) := Deps.at 4 hd (by kernel_rfl)
                        have hx152 : T.getD 152 undef = (.int .i64 m) := Deps.at 5 hd (by kernel_rfl)
                        refine .inl ⟨wanted_none rfl, ?_⟩
                        have a0 := hkl.out
                        have a1 := hk00.out
                        clear hd hv hu hs hw
                        go_simp
                        exact ⟨_, rfl, DstOk.some rfl, Below.refl _ _, rfl⟩
                      · intro T w Q hu hs hv hw hd
                        have hx153 : T.getD 153 undef = (.pointer (some ⟨g, o + m, none⟩)) := Deps.at 6 hd (by kernel_rfl)
                        refine .inl ⟨wanted_none rfl, ?_⟩
                        have hq := hu.cell c0y.out id
                        clear hd hv hu hs hw
                        go_simp
                        exact ⟨_, rfl, DstOk.some rfl, Below.refl _ _, rfl⟩
                      · intro T w Q hu hs hv hw hd
                        have hx150 : T.getD 150 undef = (.map (some mb)) := Deps.at 3 hd (by kernel_rfl)
                        have hx154 : T.getD 154 undef = (.string x) := Deps.at 7 hd (by kernel_rfl)
                        refine .inl ⟨wanted_none rfl, ?_⟩
                        have hN := hgetY.out w hu
                        clear hd hv hu hs hw
                        go_simp
                        refine hN.mono ?_
                        rintro e w5 ⟨rfl, hb⟩
                        exact ⟨_, rfl, DstOk.some rfl, hb, rfl⟩
                      · intro T w Q hu hs hv hw hd
                        have hx155 : T.getD 155 undef = (.tuple #[.string ⟨#[]⟩, .bool true]) := Deps.at 8 hd (by kernel_rfl)
                        refine .inl ⟨wanted_none rfl, ?_⟩
                        clear hd hv hu hs hw
                        go_simp
                        exact ⟨_, rfl, DstOk.some rfl, Below.refl _ _, rfl⟩
                      · intro T w Q hu hs hv hw hd
                        have hx146 : T.getD 146 undef = (.tuple #[.string ⟨#[]⟩, .bool true]) := Deps.at 9 hd (by kernel_rfl)
                        refine .inl ⟨wanted_none rfl, ?_⟩
                        clear hd hv hu hs hw
                        go_simp
                        exact ⟨_, rfl, DstOk.some rfl, Below.refl _ _, rfl⟩
                      · intro T w Q hu hs hv hw hd
                        have hx146 : T.getD 146 undef = (.tuple #[.string ⟨#[]⟩, .bool true]) := Deps.at 9 hd (by kernel_rfl)
                        refine .inl ⟨wanted_none rfl, ?_⟩
                        clear hd hv hu hs hw
                        go_simp
                        exact ⟨_, rfl, DstOk.some rfl, Below.refl _ _, rfl⟩
                      · intro T w Q hu hs hv hw hd
                        have hx156 : T.getD 156 undef = (.string ⟨#[]⟩) := Deps.at 10 hd (by kernel_rfl)
                        refine .inl ⟨wanted_none rfl, ?_⟩
                        clear hd hv hu hs hw
                        go_simp
                        exact ⟨_, rfl, DstOk.some rfl, Below.refl _ _, rfl⟩
                      · intro T w Q hu hs hv hw hd
                        have hx157 : T.getD 157 undef = (.bool true) := Deps.at 11 hd (by kernel_rfl)
                        refine .inl ⟨wanted_none rfl, ?_⟩
                        clear hd hv hu hs hw
                        go_simp
                        exact ⟨_, rfl, DstOk.some rfl, Below.refl _ _, rfl⟩
                      intro T w hu hs hv hf hcur
                      have hT : T = #[T.getD 0 undef, T.getD 1 undef, T.getD 2 undef, T.getD 3 undef, T.getD 4 undef, T.getD 5 undef, T.getD 6 undef, T.getD 7 undef, T.getD 8 undef, T.getD 9 undef, T.getD 10 undef, T.getD 11 undef, T.getD 12 undef, T.getD 13 undef, T.getD 14 undef, T.getD 15 undef, T.getD 16 undef, T.getD 17 undef, T.getD 18 undef, T.getD 19 undef, T.getD 20 undef, T.getD 21 undef, T.getD 22 undef, T.getD 23 undef, T.getD 24 undef, T.getD 25 undef, T.getD 26 undef, T.getD 27 undef, T.getD 28 undef, T.getD 29 undef, T.getD 30 undef, T.getD 31 undef, T.getD 32 undef, T.getD 33 undef, T.getD 34 undef, T.getD 35 undef, T.getD 36 undef, T.getD 37 undef, T.getD 38 undef, T.getD 39 undef, T.getD 40 undef, T.getD 41 undef, T.getD 42 undef, T.getD 43 undef, T.getD 44 undef, T.getD 45 undef, T.getD 46 undef, T.getD 47 undef, T.getD 48 undef, T.getD 49 undef, T.getD 50 undef, T.getD 51 undef, T.getD 52 undef, T.getD 53 undef, T.getD 54 undef, T.getD 55 undef, T.getD 56 undef, T.getD 57 undef, T.getD 58 undef, T.getD 59 undef, T.getD 60 undef, T.getD 61 undef, T.getD 62 undef, T.getD 63 undef, T.getD 64 undef, T.getD 65 undef, T.getD 66 undef, T.getD 67 undef, T.getD 68 undef, T.getD 69 undef, T.getD 70 undef, T.getD 71 undef, T.getD 72 undef, T.getD 73 undef, T.getD 74 undef, T.getD 75 undef, T.getD 76 undef, T.getD 77 undef, T.getD 78 undef, T.getD 79 undef, T.getD 80 undef, T.getD 81 undef, T.getD 82 undef, T.getD 83 undef, T.getD 84 undef, T.getD 85 undef, T.getD 86 undef, T.getD 87 undef, T.getD 88 undef, T.getD 89 undef, T.getD 90 undef, T.getD 91 undef, T.getD 92 undef, T.getD 93 undef, T.getD 94 undef, T.getD 95 undef, T.getD 96 undef, T.getD 97 undef, T.getD 98 undef, T.getD 99 undef, T.getD 100 undef, T.getD 101 undef, T.getD 102 undef, T.getD 103 undef, T.getD 104 undef, T.getD 105 undef, T.getD 106 undef, T.getD 107 undef, T.getD 108 undef, T.getD 109 undef, T.getD 110 undef, T.getD 111 undef, T.getD 112 undef, T.getD 113 undef, T.getD 114 undef, T.getD 115 undef, T.getD 116 undef, T.getD 117 undef, T.getD 118 undef, T.getD 119 undef, T.getD 120 undef, T.getD 121 undef, T.getD 122 undef, T.getD 123 undef, T.getD 124 undef, T.getD 125 undef, T.getD 126 undef, T.getD 127 undef, T.getD 128 undef, T.getD 129 undef, T.getD 130 undef, T.getD 131 undef, T.getD 132 undef, T.getD 133 undef, T.getD 134 undef, T.getD 135 undef, T.getD 136 undef, T.getD 137 undef, T.getD 138 undef, T.getD 139 undef, T.getD 140 undef, T.getD 141 undef, T.getD 142 undef, T.getD 143 undef, T.getD 144 undef, T.getD 145 undef, T.getD 146 undef, T.getD 147 undef, T.getD 148 undef, T.getD 149 undef, T.getD 150 undef, T.getD 151 undef, T.getD 152 undef, T.getD 153 undef, T.getD 154 undef, T.getD 155 undef, T.getD 156 undef, T.getD 157 undef, T.getD 158 undef, T.getD 159 undef, T.getD 160 undef, T.getD 161 undef, T.getD 162 undef, T.getD 163 undef, T.getD 164 undef, T.getD 165 undef, T.getD 166 undef, T.getD 167 undef] := expl hs
                      rw [hT]
                      clear hT
                      rw [show T.getD 0 undef = (.slice (some ⟨g, o, none⟩) ls.length c) from hv 0 (by kernel_rfl)]
                      rw [show T.getD 1 undef = (.string pre) from hv 1 (by kernel_rfl)]
                      rw [hv 2 (by kernel_rfl)]
                      rw [hv 3 (by kernel_rfl)]
                      rw [hv 4 (by kernel_rfl)]
                      rw [show T.getD 5 undef = (.pointer (some ⟨q, 0, none⟩)) from hv 5 (by kernel_rfl)]
                      rw [hv 6 (by kernel_rfl)]
                      rw [hv 7 (by kernel_rfl)]
                      rw [show T.getD 8 undef = (.slice A5 kb.length c5) from hv 8 (by kernel_rfl)]
                      rw [hv 9 (by kernel_rfl)]
                      rw [show T.getD 10 undef = (.int .i64 N) from hv 10 (by kernel_rfl)]
                      rw [show T.getD 11 undef = (.int .i64 m) from hv 11 (by kernel_rfl)]
                      rw [hv 12 (by kernel_rfl)]
                      rw [hv 13 (by kernel_rfl)]
                      rw [show T.getD 14 undef = (.string ⟨#[]⟩) from hf 12 (by decide)]
                      rw [show T.getD 15 undef = (.bool true) from hf 13 (by decide)]
                      rw [hv 16 (by kernel_rfl)]
                      rw [hv 17 (by kernel_rfl)]
                      rw [hv 18 (by kernel_rfl)]
                      rw [hv 19 (by kernel_rfl)]
                      rw [hv 20 (by kernel_rfl)]
                      rw [hv 21 (by kernel_rfl)]
                      rw [hv 22 (by kernel_rfl)]
                      rw [hv 23 (by kernel_rfl)]
                      rw [hv 24 (by kernel_rfl)]
                      rw [hv 25 (by kernel_rfl)]
                      rw [hv 26 (by kernel_rfl)]
                      rw [hv 27 (by kernel_rfl)]
                      rw [hv 28 (by kernel_rfl)]
                      rw [hv 29 (by kernel_rfl)]
                      rw [hv 30 (by kernel_rfl)]
                      rw [hv 31 (by kernel_rfl)]
                      rw [hv 32 (by kernel_rfl)]
                      rw [hv 33 (by kernel_rfl)]
                      rw [hv 34 (by kernel_rfl)]
                      rw [hv 35 (by kernel_rfl)]
                      rw [hv 36 (by kernel_rfl)]
                      rw [hv 37 (by kernel_rfl)]
                      rw [hv 38 (by kernel_rfl)]
                      rw [hv 39 (by kernel_rfl)]
                      rw [hv 40 (by kernel_rfl)]
                      rw [hv 41 (by kernel_rfl)]
                      rw [hv 42 (by kernel_rfl)]
                      rw [hv 43 (by kernel_rfl)]
                      rw [hv 44 (by kernel_rfl)]
                      rw [hv 45 (by kernel_rfl)]
                      rw [hv 46 (by kernel_rfl)]
                      rw [hv 47 (by kernel_rfl)]
                      rw [hv 48 (by kernel_rfl)]
                      rw [hv 49 (by kernel_rfl)]
                      rw [hv 50 (by kernel_rfl)]
                      rw [hv 51 (by kernel_rfl)]
                      rw [hv 52 (by kernel_rfl)]
                      rw [hv 53 (by kernel_rfl)]
                      rw [hv 54 (by kernel_rfl)]
                      rw [hv 55 (by kernel_rfl)]
                      rw [hv 56 (by kernel_rfl)]
                      rw [hv 57 (by kernel_rfl)]
                      rw [hv 58 (by kernel_rfl)]
                      rw [hv 59 (by kernel_rfl)]
                      rw [hv 60 (by kernel_rfl)]
                      rw [hv 61 (by kernel_rfl)]
                      rw [hv 62 (by kernel_rfl)]
                      rw [hv 63 (by kernel_rfl)]
                      rw [hv 64 (by kernel_rfl)]
                      rw [hv 65 (by kernel_rfl)]
                      rw [hv 66 (by kernel_rfl)]
                      rw [hv 67 (by kernel_rfl)]
                      rw [hv 68 (by kernel_rfl)]
                      rw [hv 69 (by kernel_rfl)]
                      rw [hv 70 (by kernel_rfl)]
                      rw [hv 71 (by kernel_rfl)]
                      rw [hv 72 (by kernel_rfl)]
                      rw [hv 73 (by kernel_rfl)]
                      rw [hv 74 (by kernel_rfl)]
                      rw [hv 75 (by kernel_rfl)]
                      rw [hv 76 (by kernel_rfl)]
                      rw [hv 77 (by kernel_rfl)]
                      rw [hv 78 (by kernel_rfl)]
                      rw [hv 79 (by kernel_rfl)]
                      rw [hv 80 (by kernel_rfl)]
                      rw [hv 81 (by kernel_rfl)]
                      rw [hv 82 (by kernel_rfl)]
                      rw [hv 83 (by kernel_rfl)]
                      rw [hv 84 (by kernel_rfl)]
                      rw [hv 85 (by kernel_rfl)]
                      rw [hv 86 (by kernel_rfl)]
                      rw [hv 87 (by kernel_rfl)]
                      rw [hv 88 (by kernel_rfl)]
                      rw [hv 89 (by kernel_rfl)]
                      rw [hv 90 (by kernel_rfl)]
                      rw [hv 91 (by kernel_rfl)]
                      rw [hv 92 (by kernel_rfl)]
                      rw [hv 93 (by kernel_rfl)]
                      rw [hv 94 (by kernel_rfl)]
                      rw [hv 95 (by kernel_rfl)]
                      rw [hv 96 (by kernel_rfl)]
                      rw [hv 97 (by kernel_rfl)]
                      rw [hv 98 (by kernel_rfl)]
                      rw [hv 99 (by kernel_rfl)]
                      rw [hv 100 (by kernel_rfl)]
                      rw [hv 101 (by kernel_rfl)]
                      rw [hv 102 (by kernel_rfl)]
                      rw [hv 103 (by kernel_rfl)]
                      rw [hv 104 (by kernel_rfl)]
                      rw [hv 105 (by kernel_rfl)]
                      rw [hv 106 (by kernel_rfl)]
                      rw [hv 107 (by kernel_rfl)]
                      rw [hv 108 (by kernel_rfl)]
                      rw [hv 109 (by kernel_rfl)]
                      rw [hv 110 (by kernel_rfl)]
                      rw [hv 111 (by kernel_rfl)]
                      rw [hv 112 (by kernel_rfl)]
                      rw [hv 113 (by kernel_rfl)]
                      rw [hv 114 (by kernel_rfl)]
                      rw [hv 115 (by kernel_rfl)]
                      rw [hv 116 (by kernel_rfl)]
                      rw [hv 117 (by kernel_rfl)]
                      rw [hv 118 (by kernel_rfl)]
                      rw [hv 119 (by kernel_rfl)]
                      rw [hv 120 (by kernel_rfl)]
                      rw [hv 121 (by kernel_rfl)]
                      rw [hv 122 (by kernel_rfl)]
                      rw [hv 123 (by kernel_rfl)]
                      rw [hv 124 (by kernel_rfl)]
                      rw [hv 125 (by kernel_rfl)]
                      rw [hv 126 (by kernel_rfl)]
                      rw [hv 127 (by kernel_rfl)]
                      rw [hv 128 (by kernel_rfl)]
                      rw [hv 129 (by kernel_rfl)]
                      rw [hv 130 (by kernel_rfl)]
                      rw [hv 131 (by kernel_rfl)]
                      rw [hv 132 (by kernel_rfl)]
                      rw [hv 133 (by kernel_rfl)]
                      rw [hv 134 (by kernel_rfl)]
                      rw [hv 135 (by kernel_rfl)]
                      rw [hv 136 (by kernel_rfl)]
                      rw [hv 137 (by kernel_rfl)]
                      rw [hv 138 (by kernel_rfl)]
                      rw [hv 139 (by kernel_rfl)]
                      rw [hv 140 (by kernel_rfl)]
                      rw [hv 141 (by kernel_rfl)]
                      rw [hv 142 (by kernel_rfl)]
                      rw [hv 143 (by kernel_rfl)]
                      rw [hv 144 (by kernel_rfl)]
                      rw [hv 145 (by kernel_rfl)]
                      rw [show T.getD 146 undef = (.tuple #[.string ⟨#[]⟩, .bool true]) from hf 9 (by decide)]
                      rw [show T.getD 147 undef = (.pointer (some ⟨q, 0, none⟩)) from hf 0 (by decide)]
                      rw [show T.getD 148 undef = (.pointer (some ⟨q, 0, none⟩)) from hf 1 (by decide)]
                      rw [show T.getD 149 undef = (.pointer (some ⟨q, 2, none⟩)) from hf 2 (by decide)]
                      rw [show T.getD 150 undef = (.map (some mb)) from hf 3 (by decide)]
                      rw [show T.getD 151 undef = (.slice (some ⟨g, o, none⟩) ls.length c) from hf 4 (by decide)]
                      rw [show T.getD 152 undef = (.int .i64 m) from hf 5 (by decide)]
                      rw [show T.getD 153 undef = (.pointer (some ⟨g, o + m, none⟩)) from hf 6 (by decide)]
                      rw [show T.getD 154 undef = (.string x) from hf 7 (by decide)]
                      rw [show T.getD 155 undef = (.tuple #[.string ⟨#[]⟩, .bool true]) from hf 8 (by decide)]
                      rw [show T.getD 156 undef = (.string ⟨#[]⟩) from hf 10 (by decide)]
                      rw [show T.getD 157 undef = (.bool true) from hf 11 (by decide)]
                      rw [hv 158 (by kernel_rfl)]
                      rw [hv 159 (by kernel_rfl)]
                      rw [hv 160 (by kernel_rfl)]
                      rw [hv 161 (by kernel_rfl)]
                      rw [hv 162 (by kernel_rfl)]
                      rw [hv 163 (by kernel_rfl)]
                      rw [hv 164 (by kernel_rfl)]
                      rw [hv 165 (by kernel_rfl)]
                      rw [hv 166 (by kernel_rfl)]
                      rw [hv 167 (by kernel_rfl)]
                      clear hf hs hv hcur
                      simp only [getD_toArray, List.getD_cons_succ, List.getD_cons_zero]
                      clear T
                      have hbz := hide (hby.out.trans (hu.below hby.out.size fun _ h => h.elim))
                      clear hu
                      go_wp2_with fail
                      go_roundw
                      case rel => exact ⟨m + 1, fs2, hlt, by go_num, by rw [hlen2.out, ← hN]; rfl, hnd2.out, hmem2.out, by rw [hlen2.out]; simp; omega, hbz.out⟩
                      case measure => simp [intOf]; omega
                    · go_wp2_with fail
                      generalize hN : ((fs.length : Nat) : Int) + 1 = N
                      refine wp_region_flowG (fun _ => False) (factAt [(fun v _ => v = (.pointer (some ⟨q, 0, none⟩))), (fun v _ => v = (.pointer (some ⟨q, 0, none⟩))), (fun v _ => v = (.pointer (some ⟨q, 2, none⟩))), (fun v _ => v = (.map (some mb))), (fun v _ => v = (.slice (some ⟨g, o, none⟩) ls.length c)), (fun v _ => v = (.int .i64 m)), (fun v _ => v = (.pointer (some ⟨g, o + m, none⟩))), (fun v _ => v = (.string x)), (fun v _ => v = (.tuple #[.string ⟨#[]⟩, .bool true])), (fun v _ => v = (.tuple #[.string ⟨#[]⟩, .bool true])), (fun v _ => v = (.string ⟨#[]⟩)), (fun v _ => v = (.bool true)), (fun v _ => v = (.string ⟨#[]⟩)), (fun v _ => v = (.bool true))]) [] (fun _ => True) (by kernel_rfl) (fkept_at ⟨FKept.eq _, FKept.eq _, FKept.eq _, FKept.eq _, FKept.eq _, FKept.eq _, FKept.eq _, FKept.eq _, FKept.eq _, FKept.eq _, FKept.eq _, FKept.eq _, FKept.eq _, FKept.eq _, trivial⟩) (fun _ _ h _ => h) trivial (by kernel_rfl) (by kernel_rfl) (by kernel_rfl) (by kernel_rfl) (Nat.le_of_ble_eq_true (by kernel_rfl)) ?_ ⟨?_, ?_, ?_, ?_, ?_, ?_, ?_, ?_, ?_, ?_, ?_, ?_, ?_, ?_, trivial⟩ ?_
                      · first | exact trivial | assumption
                      · intro T w Q hu hs hv hw hd
                        have hx5 : T.getD 5 undef = (.pointer (some ⟨q, 0, none⟩)) := hv 5 (by kernel_rfl)
                        refine .inl ⟨wanted_none rfl, ?_⟩
                        clear hd hv hu hs hw
                        go_simp
                        exact ⟨_, rfl, DstOk.some rfl, Below.refl _ _, rfl⟩
                      · intro T w Q hu hs hv hw hd
                        have hx147 : T.getD 147 undef = (.pointer (some ⟨q, 0, none⟩)) := Deps.at 0 hd (by kernel_rfl)
                        refine .inl ⟨wanted_none rfl, ?_⟩
                        clear hd hv hu hs hw
                        go_simp
                        exact ⟨_, rfl, DstOk.some rfl, Below.refl _ _, rfl⟩
                      · intro T w Q hu hs hv hw hd
                        have hx148 : T.getD 148 undef = (.pointer (some ⟨q, 0, none⟩)) := Deps.at 1 hd (by kernel_rfl)
                        refine .inl ⟨wanted_none rfl, ?_⟩
                        clear hd hv hu hs hw
                        go_simp
                        exact ⟨_, rfl, DstOk.some rfl, Below.refl _ _, rfl⟩
                      · intro T w Q hu hs hv hw hd
                        have hx149 : T.getD 149 undef = (.pointer (some ⟨q, 2, none⟩)) := Deps.at 2 hd (by kernel_rfl)
                        refine .inl ⟨wanted_none rfl, ?_⟩
                        have hq := hu.cell cmb.out id
                        clear hd hv hu hs hw
                        go_simp
                        exact ⟨_, rfl, DstOk.some rfl, Below.refl _ _, rfl⟩
                      · intro T w Q hu hs hv hw hd
                        have hx0 : T.getD 0 undef = (.slice (some ⟨g, o, none⟩) ls.length c) := hv 0 (by kernel_rfl)
                        refine .inl ⟨wanted_none rfl, ?_⟩
                        clear hd hv hu hs hw
                        go_simp
                        exact ⟨_, rfl, DstOk.some rfl, Below.refl _ _, rfl⟩
                      · intro T w Q hu hs hv hw hd
                        have hx11 : T.getD 11 undef = (.int .i64 m) := hv 11 (by kernel_rfl)
                        refine .inl ⟨wanted_none rfl, ?_⟩
                        clear hd hv hu hs hw
                        go_simp
                        exact ⟨_, rfl, DstOk.some rfl, Below.refl _ _, rfl⟩
                      · intro T w Q hu hs hv hw hd
                        have hx151 : T.getD 151 undef = (.slice (some ⟨g, o, none⟩) ls.length c) := Deps.at 4 hd (by kernel_rfl)
                        have hx152 : T.getD 152 undef = (.int .i64 m) := Deps.at 5 hd (by kernel_rfl)
                        refine .inl ⟨wanted_none rfl, ?_⟩
                        have a0 := hkl.out
                        have a1 := hk00.out
                        clear hd hv hu hs hw
                        go_simp
                        exact ⟨_, rfl, DstOk.some rfl, Below.refl _ _, rfl⟩
                      · intro T w Q hu hs hv hw hd
                        have hx153 : T.getD 153 undef = (.pointer (some ⟨g, o + m, none⟩)) := Deps.at 6 hd (by kernel_rfl)
                        refine .inl ⟨wanted_none rfl, ?_⟩
                        have hq := hu.cell c0y.out id
                        clear hd hv hu hs hw
                        go_simp
                        exact ⟨_, rfl, DstOk.some rfl, Below.refl _ _, rfl⟩
                      · intro T w Q hu hs hv hw hd
                        have hx150 : T.getD 150 undef = (.map (some mb)) := Deps.at 3 hd (by kernel_rfl)
                        have hx154 : T.getD 154 undef = (.string x) := Deps.at 7 hd (by kernel_rfl)
                        refine .inl ⟨wanted_none rfl, ?_⟩
                        have hN := hgetY.out w hu
                        clear hd hv hu hs hw
                        go_simp
                        refine hN.mono ?_
                        rintro e w5 ⟨rfl, hb⟩
                        exact ⟨_, rfl, DstOk.some rfl, hb, rfl⟩
                      · intro T w Q hu hs hv hw hd
                        have hx155 : T.getD 155 undef = (.tuple #[.string ⟨#[]⟩, .bool true]) := Deps.at 8 hd (by kernel_rfl)
                        refine .inl ⟨wanted_none rfl, ?_⟩
                        clear hd hv hu hs hw
                        go_simp
                        exact ⟨_, rfl, DstOk.some rfl, Below.refl _ _, rfl⟩
                      · intro T w Q hu hs hv hw hd
                        have hx146 : T.getD 146 undef = (.tuple #[.string ⟨#[]⟩, .bool true]) := Deps.at 9 hd (by kernel_rfl)
                        refine .inl ⟨wanted_none rfl, ?_⟩
                        clear hd hv hu hs hw
                        go_simp
                        exact ⟨_, rfl, DstOk.some rfl, Below.refl _ _, rfl⟩
                      · intro T w Q hu hs hv hw hd
                        have hx146 : T.getD 146 undef = (.tuple #[.string ⟨#[]⟩, .bool true]) := Deps.at 9 hd (by kernel_rfl)
                        refine .inl ⟨wanted_none rfl, ?_⟩
                        clear hd hv hu hs hw
                        go_simp
                        exact ⟨_, rfl, DstOk.some rfl, Below.refl _ _, rfl⟩
                      · intro T w Q hu hs hv hw hd
                        have hx156 : T.getD 156 undef = (.string ⟨#[]⟩) := Deps.at 10 hd (by kernel_rfl)
                        refine .inl ⟨wanted_none rfl, ?_⟩
                        clear hd hv hu hs hw
                        go_simp
                        exact ⟨_, rfl, DstOk.some rfl, Below.refl _ _, rfl⟩
                      · intro T w Q hu hs hv hw hd
                        have hx157 : T.getD 157 undef = (.bool true) := Deps.at 11 hd (by kernel_rfl)
                        refine .inl ⟨wanted_none rfl, ?_⟩
                        clear hd hv hu hs hw
                        go_simp
                        exact ⟨_, rfl, DstOk.some rfl, Below.refl _ _, rfl⟩
                      intro T w hu hs hv hf hcur
                      have hT : T = #[T.getD 0 undef, T.getD 1 undef, T.getD 2 undef, T.getD 3 undef, T.getD 4 undef, T.getD 5 undef, T.getD 6 undef, T.getD 7 undef, T.getD 8 undef, T.getD 9 undef, T.getD 10 undef, T.getD 11 undef, T.getD 12 undef, T.getD 13 undef, T.getD 14 undef, T.getD 15 undef, T.getD 16 undef, T.getD 17 undef, T.getD 18 undef, T.getD 19 undef, T.getD 20 undef, T.getD 21 undef, T.getD 22 undef, T.getD 23 undef, T.getD 24 undef, T.getD 25 undef, T.getD 26 undef, T.getD 27 undef, T.getD 28 undef, T.getD 29 undef, T.getD 30 undef, T.getD 31 undef, T.getD 32 undef, T.getD 33 undef, T.getD 34 undef, T.getD 35 undef, T.getD 36 undef, T.getD 37 undef, T.getD 38 undef, T.getD 39 undef, T.getD 40 undef, T.getD 41 undef, T.getD 42 undef, T.getD 43 undef, T.getD 44 undef, T.getD 45 undef, T.getD 46 undef, T.getD 47 undef, T.getD 48 undef, T.getD 49 undef, T.getD 50 undef, T.getD 51 undef, T.getD 52 undef, T.getD 53 undef, T.getD 54 undef, T.getD 55 undef, T.getD 56 undef, T.getD 57 undef, T.getD 58 undef, T.getD 59 undef, T.getD 60 undef, T.getD 61 undef, T.getD 62 undef, T.getD 63 undef, T.getD 64 undef, T.getD 65 undef, T.getD 66 undef, T.getD 67 undef, T.getD 68 undef, T.getD 69 undef, T.getD 70 undef, T.getD 71 undef, T.getD 72 undef, T.getD 73 undef, T.getD 74 undef, T.getD 75 undef, T.getD 76 undef, T.getD 77 undef, T.getD 78 undef, T.getD 79 undef, T.getD 80 undef, T.getD 81 undef, T.getD 82 undef, T.getD 83 undef, T.getD 84 undef, T.getD 85 undef, T.getD 86 undef, T.getD 87 undef, T.getD 88 undef, T.getD 89 undef, T.getD 90 undef, T.getD 91 undef, T.getD 92 undef, T.getD 93 undef, T.getD 94 undef, T.getD 95 undef, T.getD 96 undef, T.getD 97 undef, T.getD 98 undef, T.getD 99 undef, T.getD 100 undef, T.getD 101 undef, T.getD 102 undef, T.getD 103 undef, T.getD 104 undef, T.getD 105 undef, T.getD 106 undef, T.getD 107 undef, T.getD 108 undef, T.getD 109 undef, T.getD 110 undef, T.getD 111 undef, T.getD 112 undef, T.getD 113 undef, T.getD 114 undef, T.getD 115 undef, T.getD 116 undef, T.getD 117 undef, T.getD 118 undef, T.getD 119 undef, T.getD 120 undef, T.getD 121 undef, T.getD 122 undef, T.getD 123 undef, T.getD 124 undef, T.getD 125 undef, T.getD 126 undef, T.getD 127 undef, T.getD 128 undef, T.getD 129 undef, T.getD 130 undef, T.getD 131 undef, T.getD 132 undef, T.getD 133 undef, T.getD 134 undef, T.getD 135 undef, T.getD 136 undef, T.getD 137 undef, T.getD 138 undef, T.getD 139 undef, T.getD 140 undef, T.getD 141 undef, T.getD 142 undef, T.getD 143 undef, T.getD 144 undef, T.getD 145 undef, T.getD 146 undef, T.getD 147 undef, T.getD 148 undef, T.getD 149 undef, T.getD 150 undef, T.getD 151 undef, T.getD 152 undef, T.getD 153 undef, T.getD 154 undef, T.getD 155 undef, T.getD 156 undef, T.getD 157 undef, T.getD 158 undef, T.getD 159 undef, T.getD 160 undef, T.getD 161 undef, T.getD 162 undef, T.getD 163 undef, T.getD 164 undef, T.getD 165 undef, T.getD 166 undef, T.getD 167 undef] := expl hs
                      rw [hT]
                      clear hT
                      rw [show T.getD 0 undef = (.slice (some ⟨g, o, none⟩) ls.length c) from hv 0 (by kernel_rfl)]
                      rw [show T.getD 1 undef = (.string pre) from hv 1 (by kernel_rfl)]
                      rw [hv 2 (by kernel_rfl)]
                      rw [hv 3 (by kernel_rfl)]
                      rw [hv 4 (by kernel_rfl)]
                      rw [show T.getD 5 undef = (.pointer (some ⟨q, 0, none⟩)) from hv 5 (by kernel_rfl)]
                      rw [hv 6 (by kernel_rfl)]
                      rw [hv 7 (by kernel_rfl)]
                      rw [show T.getD 8 undef = (.slice A5 kb.length c5) from hv 8 (by kernel_rfl)]
                      rw [hv 9 (by kernel_rfl)]
                      rw [show T.getD 10 undef = (.int .i64 N) from hv 10 (by kernel_rfl)]
                      rw [show T.getD 11 undef = (.int .i64 m) from hv 11 (by kernel_rfl)]
                      rw [hv 12 (by kernel_rfl)]
                      rw [hv 13 (by kernel_rfl)]
                      rw [show T.getD 14 undef = (.string ⟨#[]⟩) from hf 12 (by decide)]
                      rw [show T.getD 15 undef = (.bool true) from hf 13 (by decide)]
                      rw [hv 16 (by kernel_rfl)]
                      rw [hv 17 (by kernel_rfl)]
                      rw [hv 18 (by kernel_rfl)]
                      rw [hv 19 (by kernel_rfl)]
                      rw [hv 20 (by kernel_rfl)]
                      rw [hv 21 (by kernel_rfl)]
                      rw [hv 22 (by kernel_rfl)]
                      rw [hv 23 (by kernel_rfl)]
                      rw [hv 24 (by kernel_rfl)]
                      rw [hv 25 (by kernel_rfl)]
                      rw [hv 26 (by kernel_rfl)]
                      rw [hv 27 (by kernel_rfl)]
                      rw [hv 28 (by kernel_rfl)]
                      rw [hv 29 (by kernel_rfl)]
                      rw [hv 30 (by kernel_rfl)]
                      rw [hv 31 (by kernel_rfl)]
                      rw [hv 32 (by kernel_rfl)]
                      rw [hv 33 (by kernel_rfl)]
                      rw [hv 34 (by kernel_rfl)]
                      rw [hv 35 (by kernel_rfl)]
                      rw [hv 36 (by kernel_rfl)]
                      rw [hv 37 (by kernel_rfl)]
                      rw [hv 38 (by kernel_rfl)]
                      rw [hv 39 (by kernel_rfl)]
                      rw [hv 40 (by kernel_rfl)]
                      rw [hv 41 (by kernel_rfl)]
                      rw [hv 42 (by kernel_rfl)]
                      rw [hv 43 (by kernel_rfl)]
                      rw [hv 44 (by kernel_rfl)]
                      rw [hv 45 (by kernel_rfl)]
                      rw [hv 46 (by kernel_rfl)]
                      rw [hv 47 (by kernel_rfl)]
                      rw [hv 48 (by kernel_rfl)]
                      rw [hv 49 (by kernel_rfl)]
                      rw [hv 50 (by kernel_rfl)]
                      rw [hv 51 (by kernel_rfl)]
                      rw [hv 52 (by kernel_rfl)]
                      rw [hv 53 (by kernel_rfl)]
                      rw [hv 54 (by kernel_rfl)]
                      rw [hv 55 (by kernel_rfl)]
                      rw [hv 56 (by kernel_rfl)]
                      rw [hv 57 (by kernel_rfl)]
                      rw [hv 58 (by kernel_rfl)]
                      rw [hv 59 (by kernel_rfl)]
                      rw [hv 60 (by kernel_rfl)]
                      rw [hv 61 (by kernel_rfl)]
                      rw [hv 62 (by kernel_rfl)]
                      rw [hv 63 (by kernel_rfl)]
                      rw [hv 64 (by kernel_rfl)]
                      rw [hv 65 (by kernel_rfl)]
                      rw [hv 66 (by kernel_rfl)]
                      rw [hv 67 (by kernel_rfl)]
                      rw [hv 68 (by kernel_rfl)]
                      rw [hv 69 (by kernel_rfl)]
                      rw [hv 70 (by kernel_rfl)]
                      rw [hv 71 (by kernel_rfl)]
                      rw [hv 72 (by kernel_rfl)]
                      rw [hv 73 (by kernel_rfl)]
                      rw [hv 74 (by kernel_rfl)]
                      rw [hv 75 (by kernel_rfl)]
                      rw [hv 76 (by kernel_rfl)]
                      rw [hv 77 (by kernel_rfl)]
                      rw [hv 78 (by kernel_rfl)]
                      rw [hv 79 (by kernel_rfl)]
                      rw [hv 80 (by kernel_rfl)]
                      rw [hv 81 (by kernel_rfl)]
                      rw [hv 82 (by kernel_rfl)]
                      rw [hv 83 (by kernel_rfl)]
                      rw [hv 84 (by kernel_rfl)]
                      rw [hv 85 (by kernel_rfl)]
                      rw [hv 86 (by kernel_rfl)]
                      rw [hv 87 (by kernel_rfl)]
                      rw [hv 88 (by kernel_rfl)]
                      rw [hv 89 (by kernel_rfl)]
                      rw [hv 90 (by kernel_rfl)]
                      rw [hv 91 (by kernel_rfl)]
                      rw [hv 92 (by kernel_rfl)]
                      rw [hv 93 (by kernel_rfl)]
                      rw [hv 94 (by kernel_rfl)]
                      rw [hv 95 (by kernel_rfl)]
                      rw [hv 96 (by kernel_rfl)]
                      rw [hv 97 (by kernel_rfl)]
                      rw [hv 98 (by kernel_rfl)]
                      rw [hv 99 (by kernel_rfl)]
                      rw [hv 100 (by kernel_rfl)]
                      rw [hv 101 (by kernel_rfl)]
                      rw [hv 102 (by kernel_rfl)]
                      rw [hv 103 (by kernel_rfl)]
                      rw [hv 104 (by kernel_rfl)]
                      rw [hv 105 (by kernel_rfl)]
                      rw [hv 106 (by kernel_rfl)]
                      rw [hv 107 (by kernel_rfl)]
                      rw [hv 108 (by kernel_rfl)]
                      rw [hv 109 (by kernel_rfl)]
                      rw [hv 110 (by kernel_rfl)]
                      rw [hv 111 (by kernel_rfl)]
                      rw [hv 112 (by kernel_rfl)]
                      rw [hv 113 (by kernel_rfl)]
                      rw [hv 114 (by kernel_rfl)]
                      rw [hv 115 (by kernel_rfl)]
                      rw [hv 116 (by kernel_rfl)]
                      rw [hv 117 (by kernel_rfl)]
                      rw [hv 118 (by kernel_rfl)]
                      rw [hv 119 (by kernel_rfl)]
                      rw [hv 120 (by kernel_rfl)]
                      rw [hv 121 (by kernel_rfl)]
                      rw [hv 122 (by kernel_rfl)]
                      rw [hv 123 (by kernel_rfl)]
                      rw [hv 124 (by kernel_rfl)]
                      rw [hv 125 (by kernel_rfl)]
                      rw [hv 126 (by kernel_rfl)]
                      rw [hv 127 (by kernel_rfl)]
                      rw [hv 128 (by kernel_rfl)]
                      rw [hv 129 (by kernel_rfl)]
                      rw [hv 130 (by kernel_rfl)]
                      rw [hv 131 (by kernel_rfl)]
                      rw [hv 132 (by kernel_rfl)]
                      rw [hv 133 (by kernel_rfl)]
                      rw [hv 134 (by kernel_rfl)]
                      rw [hv 135 (by kernel_rfl)]
                      rw [hv 136 (by kernel_rfl)]
                      rw [hv 137 (by kernel_rfl)]
                      rw [hv 138 (by kernel_rfl)]
                      rw [hv 139 (by kernel_rfl)]
                      rw [hv 140 (by kernel_rfl)]
                      rw [hv 141 (by kernel_rfl)]
                      rw [hv 142 (by kernel_rfl)]
                      rw [hv 143 (by kernel_rfl)]
                      rw [hv 144 (by kernel_rfl)]
                      rw [hv 145 (by kernel_rfl)]
                      rw [show T.getD 146 undef = (.tuple #[.string ⟨#[]⟩, .bool true]) from hf 9 (by decide)]
                      rw [show T.getD 147 undef = (.pointer (some ⟨q, 0, none⟩)) from hf 0 (by decide)]
                      rw [show T.getD 148 undef = (.pointer (some ⟨q, 0, none⟩)) from hf 1 (by decide)]
                      rw [show T.getD 149 undef = (.pointer (some ⟨q, 2, none⟩)) from hf 2 (by decide)]
                      rw [show T.getD 150 undef = (.map (some mb)) from hf 3 (by decide)]
                      rw [show T.getD 151 undef = (.slice (some ⟨g, o, none⟩) ls.length c) from hf 4 (by decide)]
                      rw [show T.getD 152 undef = (.int .i64 m) from hf 5 (by decide)]
                      rw [show T.getD 153 undef = (.pointer (some ⟨g, o + m, none⟩)) from hf 6 (by decide)]
                      rw [show T.getD 154 undef = (.string x) from hf 7 (by decide)]
                      rw [show T.getD 155 undef = (.tuple #[.string ⟨#[]⟩, .bool true]) from hf 8 (by decide)]
                      rw [show T.getD 156 undef = (.string ⟨#[]⟩) from hf 10 (by decide)]
                      rw [show T.getD 157 undef = (.bool true) from hf 11 (by decide)]
                      rw [hv 158 (by kernel_rfl)]
                      rw [hv 159 (by kernel_rfl)]
                      rw [hv 160 (by kernel_rfl)]
                      rw [hv 161 (by kernel_rfl)]
                      rw [hv 162 (by kernel_rfl)]
                      rw [hv 163 (by kernel_rfl)]
                      rw [hv 164 (by kernel_rfl)]
                      rw [hv 165 (by kernel_rfl)]
                      rw [hv 166 (by kernel_rfl)]
                      rw [hv 167 (by kernel_rfl)]
                      clear hf hs hv hcur
                      simp only [getD_toArray, List.getD_cons_succ, List.getD_cons_zero]
                      clear T
                      have hbz := hide (hby.out.trans (hu.below hby.out.size fun _ h => h.elim))
                      clear hu
                      go_wp2_with fail
                      go_roundw
                      case rel => exact ⟨m + 1, fs2, hlt, by go_num, by rw [hlen2.out, ← hN]; rfl, hnd2.out, hmem2.out, by rw [hlen2.out]; simp; omega, hbz.out⟩
                      case measure => simp [intOf]; omega
            · obtain rfl : k = ls.length := by omega
              rw [List.take_length] at hmem
              have hle := kb_len hks.out hnd hmem
              rw [← hkb.out] at hle
              replace hle := hide hle
              replace hbW := hide hbW
              replace hmem := hide hmem
              replace hnd := hide hnd
              go_wp2_with fail
              go_ret
              refine ⟨?_, hbW.out⟩
              show Ending.returned (Value.bool ((kb.length : Int) == (fs.length : Int))) = _
              rw [hle.out, beq_self_eq_true]
end Go.Proofs.YtpnboihbifhigaaGreatDoor
