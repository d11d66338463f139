/- The walk of CodeReads. -/
import Derived.Test.YtajpgkedlajjdaaRefRead8
import Derived.Test.YtajpgkedlajjdaaSame
import Derived.Test.YtajpgkedlajjdaaWrites
namespace Go.Proofs.Ytajpgkedlajjdaa
open Go.RowKit

def BytesF (l : List UInt8) (v : Value) (w : World) : Prop := BytesV w w.heap.size v l
theorem BytesF.kept {F : Nat → Prop} {l : List UInt8} (hF : ∀ k, ¬ F k := by exact fun _ h => h) : FKept F (BytesF l) := fun _ w _ (h : BytesV w w.heap.size _ l) hu => BytesV.more (hu.bytes h fun k _ => hF k) hu.size
theorem BytesF.slice {l : List UInt8} {v : Value} {w : World} (h : BytesF l v w) : ∃ A c, v = .slice A l.length c := by
  obtain ⟨A, c, rfl, -⟩ := h
  exact ⟨A, c, rfl⟩
theorem Full.kept {F : Nat → Prop} {l : List UInt8} (hF : ∀ k, ¬ F k := by exact fun _ h => h) : FKept F (fun v w => Full w v l) := fun _ _ _ ⟨A, B, h1, h2⟩ hu => ⟨A, B, h1, hu.sl h2 fun k _ => hF k⟩
/-- A slice without its room. -/
theorem full_cut {w : World} {B c : Nat} {A : Option Addr} {l : List UInt8} (h : BytesV w B (.slice A l.length c) l) : Full w (.slice A l.length l.length) l := by
  obtain ⟨A', c', e, -, -, h2⟩ := h
  injection e with e1 _ _
  subst e1
  exact ⟨A, B, rfl, h2⟩

theorem dtext_len {l r : List UInt8} {a : ByteArray} (h : dtext l = some (a, r)) : r.length ≤ l.length := by
  unfold dtext at h
  cases h1 : dcount l with
  | none => rw [h1] at h; cases h
  | some x =>
    rw [h1] at h
    simp only [Option.map_some] at h
    injection h with h
    injection h with _ h
    have := (dcount_len (n := x.1) (r := x.2) h1).2
    rw [← h, List.length_drop]; omega
theorem dnamed_len (l : List UInt8) (a : NamedD) (r : List UInt8) (h : dnamed l = some (a, r)) : r.length ≤ l.length := by
  unfold dnamed at h
  cases h1 : dtext l with
  | none => rw [h1] at h; cases h
  | some x =>
    rw [h1] at h
    simp only [Option.bind_some] at h
    cases h2 : dival x.2 with
    | none => rw [h2] at h; cases h
    | some y =>
      rw [h2] at h
      simp only [Option.map_some] at h
      injection h with h
      injection h with _ h
      have h3 : y.2.length ≤ x.2.length := dival_len (v := y.1) h2
      have h4 : x.2.length ≤ l.length := dtext_len (a := x.1) h1
      rw [← h]; omega
theorem dsum_len {l r : List UInt8} {a : SumD} (h : dsum l = some (a, r)) : r.length ≤ l.length := by
  rw [dsum_eq] at h
  cases h1 : dalarms l with
  | none => rw [h1] at h; cases h
  | some x =>
    rw [h1] at h
    simp only [Option.bind_some] at h
    cases h2 : dbool x.2 with
    | none => rw [h2] at h; cases h
    | some y =>
      rw [h2] at h
      simp only [Option.bind_some] at h
      cases h3 : dival y.2 with
      | none => rw [h3] at h; cases h
      | some z =>
        rw [h3] at h
        simp only [Option.bind_some] at h
        cases h4 : dmod z.2 with
        | none => rw [h4] at h; cases h
        | some u =>
          rw [h4] at h
          simp only [Option.map_some] at h
          injection h with h
          injection h with _ h
          have e1 : x.2.length ≤ l.length := dalarms_len (al := x.1) h1
          have e2 : y.2.length ≤ x.2.length := dbool_len (b := y.1) h2
          have e3 : z.2.length ≤ y.2.length := dival_len (v := z.1) h3
          have e4 : u.2.length ≤ z.2.length := by
            unfold dmod at h4
            cases h5 : dcount z.2 with
            | none => rw [h5] at h4; cases h4
            | some v =>
              rw [h5] at h4
              simp only [Option.bind_some] at h4
              have h6 := dlist_len dnamed dnamed_len _ _ _ _ h4
              have h7 := (dcount_len (n := v.1) (r := v.2) h5).2
              omega
          rw [← h]; omega

set_option maxRecDepth 100000 in
set_option maxHeartbeats 6400000 in
theorem reads_any (vb x vh : Value) (bs hs : List UInt8) (qs : List (PartD × Value × Value)) (w : World) (hb : BytesV w w.heap.size vb bs) (hx : PartsV w w.heap.size x qs) (hh : BytesV w w.heap.size vh hs) (hok : ∀ q ∈ qs, q.1.ok) :
    Calls Try.prog 4 #[vb, x, vh] w fun e w' => e = .returned (.bool true) ∧ Below w.heap.size w w' := by
  obtain ⟨Ax, cx, rfl, hnx⟩ := hx.1.slice
  have hb0 := hide hb
  obtain ⟨Ab, cb, rfl, -, hbm, -⟩ := hb
  have hh0 := hide hh
  obtain ⟨Ah, ch, rfl, hhc, hhm, -⟩ := hh
  unfold maxLen at hnx hbm hhm
  have hbl : bs.length ≤ 70368744177664 ∨ 70368744177664 < bs.length := by omega
  replace hx := hide hx
  replace hok := hide hok
  go_enter Try.func4, Try.ntmps4
  go_wp2_with fail
  refine (known_any _).mono ?_
  rintro e w1 ⟨rfl, hb1⟩
  replace hb1 := hide hb1
  by_cases q1 : 500 < bs.length
  · have q1' : (500 : Int) < bs.length := by omega
    go_wp2_with fail
    go_ret
    exact ⟨rfl, hb1.out⟩
  by_cases q2 : 30 < hs.length
  · have q2' : (30 : Int) < hs.length := by omega
    go_wp2_with fail
    go_ret
    exact ⟨rfl, hb1.out⟩
  have q1' : ¬ (500 : Int) < bs.length := by omega
  have q2' : ¬ (30 : Int) < hs.length := by omega
  go_wp2_with fail
  refine (light_any _ qs _ w.heap.size (hx.out.below hb1.out (Nat.le_refl _)) hb1.out.size).mono ?_
  rintro e w2 ⟨bl, rfl, hl, hb2⟩
  have hB := hide (hb1.out.trans (hb2.mono hb1.out.size))
  clear hb1 hb2
  cases bl
  · replace hl := hide hl
    go_wp2_with fail
    go_ret
    exact ⟨rfl, hB.out⟩
  obtain ⟨hl12, hlt⟩ := hl.1 rfl
  clear hl
  have hlen := hide (partsB_len qs hok.out hlt)
  replace hlt := hide hlt
  go_wp2_with fail
  go_loopw [0, 7] (fun vb i wr => ∃ (k : Nat) (A1 : Option Addr) (n1 c1 : Nat), k ≤ qs.length ∧ i = .int .i64 k ∧ vb = .slice A1 n1 c1 ∧ Below w.heap.size w wr ∧ BytesV wr wr.heap.size (.slice A1 n1 c1) (bs ++ partsB (qs.take k))) (fun _ i _ => qs.length - (intOf i).toNat)
  case atStart => exact ⟨0, _, _, _, Nat.zero_le _, rfl, rfl, hB.out, by simpa [partsB] using ((hb0.out.below hB.out).more hB.out.size)⟩
  case round =>
    clear hB
    obtain ⟨wo, rfl⟩ : ∃ y, y = wr := ⟨wr, rfl⟩
    obtain ⟨k, A1, n1, c1, hk, rfl, rfl, hB, hbv⟩ := hrel
    have hbv2 := hide hbv
    obtain ⟨A1', c1', e, hbc, hbm1, -⟩ := hbv
    injection e with e1 e2 e3
    subst e1 e2 e3
    have hbv := hbv2
    clear hbv2
    unfold maxLen at hbm1
    by_cases hlk : k < qs.length
    · have hok1 := hok.out _ (List.getElem_mem hlk)
      have hli1 := hlt.out _ (List.getElem_mem hlk)
      have hsn := partsB_snoc qs k hlk
      have hl1 : (bs ++ partsB (qs.take k)).length ≤ 13700 := by
        have := hlen.out k
        rw [List.length_append]
        omega
      have hat := hide (fun (W : World) (hW : Below w.heap.size w W) => (hx.out.below hW (Nat.le_refl _)).at_ hlk)
      have hinW := hide (fun (W : World) (hW : Below w.heap.size w W) => (hx.out.below hW (Nat.le_refl _)).2 _ (List.getElem_mem hlk))
      generalize qs[k] = q at *
      obtain ⟨⟨what, n, t, s⟩, xa, xm⟩ := q
      replace hsn : partsB (qs.take (k + 1)) = partsB (qs.take k) ++ PartD.bytes ⟨what, n, t, s⟩ := hsn
      replace hsn := hide (show bs ++ partsB (qs.take (k + 1)) = (bs ++ partsB (qs.take k)) ++ PartD.bytes ⟨what, n, t, s⟩ by rw [hsn, List.append_assoc])
      have hinV : ∀ W : World, Below w.heap.size w W → ArgN W (· < w.heap.size) xa s.alarms.length (s.alarms.map AlarmD.cells).flatten ∧ ArgN W (· < w.heap.size) xm s.mod.length (s.mod.map NamedD.cells).flatten := fun W hW => hinW.out W hW
      replace hinV := hide hinV
      clear hinW
      obtain ⟨Aa, ca, rfl, -⟩ := (hinV.out wo hB).1.slice
      obtain ⟨Am, cm, rfl, -⟩ := (hinV.out wo hB).2.slice
      obtain ⟨-, b, o, rfl, hb, hcell⟩ := hat.out wo hB
      have hd : ∀ W, Below w.heap.size w W → W.cell? ⟨b, o + k * 9, none⟩ = some (.int .u8 what) ∧ W.cell? ⟨b, o + k * 9 + 1, none⟩ = some (.int .u64 n) ∧ W.cell? ⟨b, o + k * 9 + 2, none⟩ = some (.string t) ∧ W.cell? ⟨b, o + k * 9 + 3, none⟩ = some (.slice Aa s.alarms.length ca) ∧ W.cell? ⟨b, o + k * 9 + 4, none⟩ = some (.bool s.ends) ∧ W.cell? ⟨b, o + k * 9 + 5, none⟩ = some (.bool s.ret.some) ∧ W.cell? ⟨b, o + k * 9 + 6, none⟩ = some (.int .i64 s.ret.lo) ∧ W.cell? ⟨b, o + k * 9 + 7, none⟩ = some (.int .i64 s.ret.hi) ∧ W.cell? ⟨b, o + k * 9 + 8, none⟩ = some (.slice Am s.mod.length cm) := by
        intro W hW'
        obtain ⟨-, b', o', e, -, hc⟩ := hat.out W hW'
        have e2 := Option.some.inj e
        injection e2 with e3 e4 _
        subst e3 e4
        exact ⟨hc 0 _ (by decide) rfl, hc 1 _ (by decide) rfl, hc 2 _ (by decide) rfl, hc 3 _ (by decide) rfl, hc 4 _ (by decide) rfl, hc 5 _ (by decide) rfl, hc 6 _ (by decide) rfl, hc 7 _ (by decide) rfl, hc 8 _ (by decide) rfl⟩
      have hdd := hide hd
      clear hcell hat hd
      replace hB := hide hB
      replace hok1 := hide hok1
      replace hli1 := hide hli1
      replace hl1 := hide hl1
      obtain ⟨pb, hpb⟩ : ∃ pb, PartD.bytes ⟨what, n, t, s⟩ = pb := ⟨_, rfl⟩
      rw [hpb] at hsn
      replace hpb := hide hpb
      generalize bs ++ partsB (qs.take k) = bl at *
      go_wp2_with fail
      refine wp_region_flow (fun _ => False) (factAt [(fun v _ => v = (.slice A1 bl.length c1)), (fun v _ => v = (.slice A1 bl.length c1)), (fun v _ => v = (.int .i64 bl.length)), (fun v _ => v = (.slice A1 bl.length c1)), (fun v _ => v = (.int .i64 bl.length)), (fun v w => Full w v bl), (fun v _ => v = (.slice (some ⟨b, o, none⟩) qs.length cx)), (fun v _ => v = (.int .i64 k)), (fun v _ => v = (.pointer (some ⟨b, o + k * 9, none⟩))), (fun v _ => v = (.agg #[.int .u8 what, .int .u64 n, .string t, .slice Aa s.alarms.length ca, .bool s.ends, .bool s.ret.some, .int .i64 s.ret.lo, .int .i64 s.ret.hi, .slice Am s.mod.length cm])), (fun v w => BytesF (bl ++ pb) v w), (fun v w => BytesF (bl ++ pb) v w)]) [] (fun _ => True) (by kernel_rfl) (fkept_at ⟨FKept.eq _, FKept.eq _, FKept.eq _, FKept.eq _, FKept.eq _, Full.kept, FKept.eq _, FKept.eq _, FKept.eq _, FKept.eq _, BytesF.kept, BytesF.kept, trivial⟩) (fun _ _ h _ => h) trivial (by kernel_rfl) (by kernel_rfl) (by kernel_rfl) (by kernel_rfl) (Nat.le_of_ble_eq_true (by kernel_rfl)) ?_ ⟨?_, ?_, ?_, ?_, ?_, ?_, ?_, ?_, ?_, ?_, ?_, ?_, trivial⟩ ?_
      · first | exact trivial | assumption
      · intro T w Q hu hs hv hw hd
        have hx0 : T.getD 0 undef = (.slice A1 bl.length c1) := hw 0 (by kernel_rfl)
        refine .inl ⟨wanted_none rfl, ?_⟩
        clear hd hv hu hs hw
        go_simp
        exact ⟨_, rfl, DstOk.some rfl, Below.refl _ _, rfl⟩
      · intro T w Q hu hs hv hw hd
        have hx0 : T.getD 0 undef = (.slice A1 bl.length c1) := hw 0 (by kernel_rfl)
        refine .inl ⟨wanted_none rfl, ?_⟩
        clear hd hv hu hs hw
        go_simp
        exact ⟨_, rfl, DstOk.some rfl, Below.refl _ _, rfl⟩
      · intro T w Q hu hs hv hw hd
        have hx34 : T.getD 34 undef = (.slice A1 bl.length c1) := Deps.at 1 hd (by kernel_rfl)
        refine .inl ⟨wanted_none rfl, ?_⟩
        clear hd hv hu hs hw
        go_simp
        exact ⟨_, rfl, DstOk.some rfl, Below.refl _ _, rfl⟩
      · intro T w Q hu hs hv hw hd
        have hx0 : T.getD 0 undef = (.slice A1 bl.length c1) := hw 0 (by kernel_rfl)
        refine .inl ⟨wanted_none rfl, ?_⟩
        clear hd hv hu hs hw
        go_simp
        exact ⟨_, rfl, DstOk.some rfl, Below.refl _ _, rfl⟩
      · intro T w Q hu hs hv hw hd
        have hx36 : T.getD 36 undef = (.slice A1 bl.length c1) := Deps.at 3 hd (by kernel_rfl)
        refine .inl ⟨wanted_none rfl, ?_⟩
        clear hd hv hu hs hw
        go_simp
        exact ⟨_, rfl, DstOk.some rfl, Below.refl _ _, rfl⟩
      · intro T w Q hu hs hv hw hd
        have hx33 : T.getD 33 undef = (.slice A1 bl.length c1) := Deps.at 0 hd (by kernel_rfl)
        have hx35 : T.getD 35 undef = (.int .i64 bl.length) := Deps.at 2 hd (by kernel_rfl)
        have hx37 : T.getD 37 undef = (.int .i64 bl.length) := Deps.at 4 hd (by kernel_rfl)
        refine .inl ⟨wanted_none rfl, ?_⟩
        have hbw := (hbv.out.below (Upd.below hu (Nat.le_refl _) fun _ h => h.elim) : BytesV w wo.heap.size _ bl)
        have hbf := hide (full_cut hbw)
        clear hd hv hs hu hw
        go_simp
        exact ⟨_, rfl, DstOk.some rfl, Below.refl _ _, hbf.out⟩
      · intro T w Q hu hs hv hw hd
        have hx1 : T.getD 1 undef = (.slice (some ⟨b, o, none⟩) qs.length cx) := hv 1 (by kernel_rfl)
        refine .inl ⟨wanted_none rfl, ?_⟩
        clear hd hv hu hs hw
        go_simp
        exact ⟨_, rfl, DstOk.some rfl, Below.refl _ _, rfl⟩
      · intro T w Q hu hs hv hw hd
        have hx7 : T.getD 7 undef = (.int .i64 k) := hv 7 (by kernel_rfl)
        refine .inl ⟨wanted_none rfl, ?_⟩
        clear hd hv hu hs hw
        go_simp
        exact ⟨_, rfl, DstOk.some rfl, Below.refl _ _, rfl⟩
      · intro T w Q hu hs hv hw hd
        have hx39 : T.getD 39 undef = (.slice (some ⟨b, o, none⟩) qs.length cx) := Deps.at 6 hd (by kernel_rfl)
        have hx40 : T.getD 40 undef = (.int .i64 k) := Deps.at 7 hd (by kernel_rfl)
        refine .inl ⟨wanted_none rfl, ?_⟩
        clear hd hv hu hs hw
        go_simp
        exact ⟨_, rfl, DstOk.some rfl, Below.refl _ _, rfl⟩
      · intro T w Q hu hs hv hw hd
        have hx41 : T.getD 41 undef = (.pointer (some ⟨b, o + k * 9, none⟩)) := Deps.at 8 hd (by kernel_rfl)
        refine .inl ⟨wanted_none rfl, ?_⟩
        obtain ⟨c0, c1', c2, c3, c4, c5, c6, c7, c8⟩ := hdd.out w (hB.out.trans ((Upd.below hu (Nat.le_refl _) fun _ h => h.elim).mono hB.out.size))
        clear hd hv hu hs hw
        go_simp
        exact ⟨_, rfl, DstOk.some rfl, Below.refl _ _, rfl⟩
      · intro T w Q hu hs hv hw hd
        have f38 : (fun (v : Value) (w : World) => Full w v bl) (T.getD 38 undef) w := Deps.at 5 hd (by kernel_rfl)
        generalize hx38 : T.getD 38 undef = x38 at f38
        replace f38 := hide f38
        have hx42 : T.getD 42 undef = (.agg #[.int .u8 what, .int .u64 n, .string t, .slice Aa s.alarms.length ca, .bool s.ends, .bool s.ret.some, .int .i64 s.ret.lo, .int .i64 s.ret.hi, .slice Am s.mod.length cm]) := Deps.at 9 hd (by kernel_rfl)
        refine .inl ⟨wanted_none rfl, ?_⟩
        have hbw := hB.out.trans ((Upd.below hu (Nat.le_refl _) fun _ h => h.elim).mono hB.out.size)
        have hq := hinV.out w hbw
        have hN := hide (put_any w.heap.size (fun _ => False) _ bl x38 _ _ ⟨what, n, t, s⟩ w hq.1 hq.2 (fun _ _ h => h) (fun _ h => h.elim) hok1.out hli1.out (.inr f38.out) (Nat.le_refl _) (by have := hl1.out; omega))
        obtain ⟨A8, -, rfl, -⟩ := f38.out
        clear hd hv hu hs hw hq hbw
        go_simp
        refine hN.out.mono ?_
        rintro e w2 ⟨v2, rfl, h2⟩
        exact ⟨_, rfl, DstOk.some rfl, h2.2.1.below (Nat.le_refl _) (fun _ h => h.elim), (by show BytesV _ _ _ (bl ++ pb); rw [← hpb.out]; exact h2.1.bytes)⟩
      · intro T w Q hu hs hv hw hd
        have f43 : (fun (v : Value) (w : World) => BytesF (bl ++ pb) v w) (T.getD 43 undef) w := Deps.at 10 hd (by kernel_rfl)
        generalize hx43 : T.getD 43 undef = x43 at f43
        replace f43 := hide f43
        refine .inl ⟨wanted_none rfl, ?_⟩
        clear hd hv hu hs hw
        go_simp
        exact ⟨_, rfl, DstOk.some rfl, Below.refl _ _, f43.out⟩
      intro T w hu hs hv hf hcur
      have f11 : (fun (v : Value) (w : World) => BytesF (bl ++ pb) v w) (T.getD 0 undef) w := hf 11 (by decide)
      have hT : T = #[T.getD 0 undef, T.getD 1 undef, T.getD 2 undef, T.getD 3 undef, T.getD 4 undef, T.getD 5 undef, T.getD 6 undef, T.getD 7 undef, T.getD 8 undef, T.getD 9 undef, T.getD 10 undef, T.getD 11 undef, T.getD 12 undef, T.getD 13 undef, T.getD 14 undef, T.getD 15 undef, T.getD 16 undef, T.getD 17 undef, T.getD 18 undef, T.getD 19 undef, T.getD 20 undef, T.getD 21 undef, T.getD 22 undef, T.getD 23 undef, T.getD 24 undef, T.getD 25 undef, T.getD 26 undef, T.getD 27 undef, T.getD 28 undef, T.getD 29 undef, T.getD 30 undef, T.getD 31 undef, T.getD 32 undef, T.getD 33 undef, T.getD 34 undef, T.getD 35 undef, T.getD 36 undef, T.getD 37 undef, T.getD 38 undef, T.getD 39 undef, T.getD 40 undef, T.getD 41 undef, T.getD 42 undef, T.getD 43 undef, T.getD 44 undef, T.getD 45 undef, T.getD 46 undef, T.getD 47 undef, T.getD 48 undef, T.getD 49 undef, T.getD 50 undef, T.getD 51 undef, T.getD 52 undef, T.getD 53 undef, T.getD 54 undef, T.getD 55 undef, T.getD 56 undef, T.getD 57 undef, T.getD 58 undef, T.getD 59 undef, T.getD 60 undef, T.getD 61 undef, T.getD 62 undef, T.getD 63 undef, T.getD 64 undef, T.getD 65 undef, T.getD 66 undef, T.getD 67 undef, T.getD 68 undef, T.getD 69 undef, T.getD 70 undef, T.getD 71 undef, T.getD 72 undef, T.getD 73 undef, T.getD 74 undef, T.getD 75 undef, T.getD 76 undef, T.getD 77 undef, T.getD 78 undef, T.getD 79 undef, T.getD 80 undef, T.getD 81 undef, T.getD 82 undef, T.getD 83 undef, T.getD 84 undef, T.getD 85 undef, T.getD 86 undef, T.getD 87 undef, T.getD 88 undef, T.getD 89 undef, T.getD 90 undef, T.getD 91 undef, T.getD 92 undef, T.getD 93 undef, T.getD 94 undef, T.getD 95 undef, T.getD 96 undef, T.getD 97 undef, T.getD 98 undef, T.getD 99 undef, T.getD 100 undef, T.getD 101 undef, T.getD 102 undef, T.getD 103 undef, T.getD 104 undef, T.getD 105 undef, T.getD 106 undef, T.getD 107 undef, T.getD 108 undef, T.getD 109 undef, T.getD 110 undef, T.getD 111 undef] := expl hs
      rw [hT]
      clear hT
      rw [show T.getD 1 undef = (.slice (some ⟨b, o, none⟩) qs.length cx) from hv 1 (by kernel_rfl)]
      rw [hv 2 (by kernel_rfl)]
      rw [hv 3 (by kernel_rfl)]
      rw [hv 4 (by kernel_rfl)]
      rw [hv 5 (by kernel_rfl)]
      rw [hv 6 (by kernel_rfl)]
      rw [show T.getD 7 undef = (.int .i64 k) from hv 7 (by kernel_rfl)]
      rw [hv 8 (by kernel_rfl)]
      rw [hv 9 (by kernel_rfl)]
      rw [hv 10 (by kernel_rfl)]
      rw [hv 11 (by kernel_rfl)]
      rw [hv 12 (by kernel_rfl)]
      rw [hv 13 (by kernel_rfl)]
      rw [hv 14 (by kernel_rfl)]
      rw [hv 15 (by kernel_rfl)]
      rw [hv 16 (by kernel_rfl)]
      rw [hv 17 (by kernel_rfl)]
      rw [hv 18 (by kernel_rfl)]
      rw [hv 19 (by kernel_rfl)]
      rw [hv 20 (by kernel_rfl)]
      rw [hv 21 (by kernel_rfl)]
      rw [hv 22 (by kernel_rfl)]
      rw [hv 23 (by kernel_rfl)]
      rw [hv 24 (by kernel_rfl)]
      rw [hv 25 (by kernel_rfl)]
      rw [hv 26 (by kernel_rfl)]
      rw [hv 27 (by kernel_rfl)]
      rw [hv 28 (by kernel_rfl)]
      rw [hv 29 (by kernel_rfl)]
      rw [hv 30 (by kernel_rfl)]
      rw [hv 31 (by kernel_rfl)]
      rw [hv 32 (by kernel_rfl)]
      rw [show T.getD 33 undef = (.slice A1 bl.length c1) from hf 0 (by decide)]
      rw [show T.getD 34 undef = (.slice A1 bl.length c1) from hf 1 (by decide)]
      rw [show T.getD 35 undef = (.int .i64 bl.length) from hf 2 (by decide)]
      rw [show T.getD 36 undef = (.slice A1 bl.length c1) from hf 3 (by decide)]
      rw [show T.getD 37 undef = (.int .i64 bl.length) from hf 4 (by decide)]
      rw [show T.getD 39 undef = (.slice (some ⟨b, o, none⟩) qs.length cx) from hf 6 (by decide)]
      rw [show T.getD 40 undef = (.int .i64 k) from hf 7 (by decide)]
      rw [show T.getD 41 undef = (.pointer (some ⟨b, o + k * 9, none⟩)) from hf 8 (by decide)]
      rw [show T.getD 42 undef = (.agg #[.int .u8 what, .int .u64 n, .string t, .slice Aa s.alarms.length ca, .bool s.ends, .bool s.ret.some, .int .i64 s.ret.lo, .int .i64 s.ret.hi, .slice Am s.mod.length cm]) from hf 9 (by decide)]
      rw [hv 44 (by kernel_rfl)]
      rw [hv 45 (by kernel_rfl)]
      rw [hv 46 (by kernel_rfl)]
      rw [hv 47 (by kernel_rfl)]
      rw [hv 48 (by kernel_rfl)]
      rw [hv 49 (by kernel_rfl)]
      rw [hv 50 (by kernel_rfl)]
      rw [hv 51 (by kernel_rfl)]
      rw [hv 52 (by kernel_rfl)]
      rw [hv 53 (by kernel_rfl)]
      rw [hv 54 (by kernel_rfl)]
      rw [hv 55 (by kernel_rfl)]
      rw [hv 56 (by kernel_rfl)]
      rw [hv 57 (by kernel_rfl)]
      rw [hv 58 (by kernel_rfl)]
      rw [hv 59 (by kernel_rfl)]
      rw [hv 60 (by kernel_rfl)]
      rw [hv 61 (by kernel_rfl)]
      rw [hv 62 (by kernel_rfl)]
      rw [hv 63 (by kernel_rfl)]
      rw [hv 64 (by kernel_rfl)]
      rw [hv 65 (by kernel_rfl)]
      rw [hv 66 (by kernel_rfl)]
      rw [hv 67 (by kernel_rfl)]
      rw [hv 68 (by kernel_rfl)]
      rw [hv 69 (by kernel_rfl)]
      rw [hv 70 (by kernel_rfl)]
      rw [hv 71 (by kernel_rfl)]
      rw [hv 72 (by kernel_rfl)]
      rw [hv 73 (by kernel_rfl)]
      rw [hv 74 (by kernel_rfl)]
      rw [hv 75 (by kernel_rfl)]
      rw [hv 76 (by kernel_rfl)]
      rw [hv 77 (by kernel_rfl)]
      rw [hv 78 (by kernel_rfl)]
      rw [hv 79 (by kernel_rfl)]
      rw [hv 80 (by kernel_rfl)]
      rw [hv 81 (by kernel_rfl)]
      rw [hv 82 (by kernel_rfl)]
      rw [hv 83 (by kernel_rfl)]
      rw [hv 84 (by kernel_rfl)]
      rw [hv 85 (by kernel_rfl)]
      rw [hv 86 (by kernel_rfl)]
      rw [hv 87 (by kernel_rfl)]
      rw [hv 88 (by kernel_rfl)]
      rw [hv 89 (by kernel_rfl)]
      rw [hv 90 (by kernel_rfl)]
      rw [hv 91 (by kernel_rfl)]
      rw [hv 92 (by kernel_rfl)]
      rw [hv 93 (by kernel_rfl)]
      rw [hv 94 (by kernel_rfl)]
      rw [hv 95 (by kernel_rfl)]
      rw [hv 96 (by kernel_rfl)]
      rw [hv 97 (by kernel_rfl)]
      rw [hv 98 (by kernel_rfl)]
      rw [hv 99 (by kernel_rfl)]
      rw [hv 100 (by kernel_rfl)]
      rw [hv 101 (by kernel_rfl)]
      rw [hv 102 (by kernel_rfl)]
      rw [hv 103 (by kernel_rfl)]
      rw [hv 104 (by kernel_rfl)]
      rw [hv 105 (by kernel_rfl)]
      rw [hv 106 (by kernel_rfl)]
      rw [hv 107 (by kernel_rfl)]
      rw [hv 108 (by kernel_rfl)]
      rw [hv 109 (by kernel_rfl)]
      rw [hv 110 (by kernel_rfl)]
      rw [hv 111 (by kernel_rfl)]
      clear hf hs hv hcur
      simp only [getD_toArray, List.getD_cons_succ, List.getD_cons_zero]
      generalize T.getD 0 undef = y0 at f11 ⊢
      generalize T.getD 38 undef = y38
      generalize T.getD 43 undef = y43
      clear T
      have hbw := Upd.below hu (Nat.le_refl _) fun _ h => h.elim
      obtain ⟨A5, c5, rfl⟩ := BytesF.slice f11
      have f11 := hide (show BytesV w w.heap.size (.slice A5 (bl ++ pb).length c5) (bl ++ pb) from f11)
      replace hu := hide (hB.out.trans (hbw.mono hB.out.size))
      clear hbw
      go_wp2_with fail
      go_roundw
      case rel => exact ⟨k + 1, A5, _, c5, by omega, by go_num, rfl, hu.out, by rw [hsn.out]; exact f11.out⟩
      case measure => simp [intOf]; omega
    · have hll : (bs ++ partsB (qs.take k)).length ≤ 13700 := by
        have := hlen.out k
        rw [List.length_append]
        omega
      generalize bs ++ partsB (qs.take k) = L at *
      have hN := hide (newReader_any _ L wo wo.heap.size hbv.out (by omega))
      replace hll := hide hll
      replace hB := hide hB
      clear hlen hlt hx hok
      go_wp2_with fail
      refine hN.out.mono ?_
      rintro e w3 ⟨p, rfl, hp1, hRd, hb3⟩
      have hB3 := hB.out.trans (hb3.mono hB.out.size)
      have hpm := RdS.lt hRd
      have hbm3 := hbv.out.below hb3
      have hD := hb3.size
      obtain ⟨m, hm⟩ : ∃ m, w3.heap.size = m := ⟨_, rfl⟩
      have hRm : RfS (w3.alloc (.cells #[.slice A1 L.length c1, .bool false] 51)) wo.heap.size m (some L) := ⟨by omega, _, by rw [← hm]; exact heap_new _ _, hbm3.alloc hD _⟩
      have hRd3 := hide (hRd.upd (.of_below (fun _ => False) ((Below.refl w3.heap.size w3).alloc (Nat.le_refl _) (.cells #[.slice A1 L.length c1, .bool false] 51))) (fun h => h) fun _ _ h => h)
      have hB4 := hide (hB3.alloc hB3.size (.cells #[.slice A1 L.length c1, .bool false] 51))
      rw [hm] at hpm
      replace hRm := hide hRm
      replace hpm := hide hpm
      replace hp1 := hide hp1
      have hwo := hide hB.out.size
      clear hB hb3 hN hRd hB3 hbm3 hD hbv
      obtain ⟨D0, hD0⟩ : ∃ D0, wo.heap.size = D0 := ⟨_, rfl⟩
      rw [hD0] at hRm hp1 hwo
      clear hD0
      go_wp2_with fail
      clear hm
      go_loopw [10] (fun i wr => ∃ (k : Nat) (st : Option (List UInt8)), k ≤ hs.length ∧ i = .int .i64 k ∧ Below w.heap.size w wr ∧ RdS wr p p st ∧ RfS wr D0 m st ∧ ∀ l, st = some l → l.length ≤ 4294967296) (fun i _ => hs.length - (intOf i).toNat)
      case atStart => exact ⟨0, some L, Nat.zero_le _, rfl, hB4.out, hRd3.out, hRm.out, fun l h => by cases h; have := hll.out; omega⟩
      case round =>
        clear hB4 hRd3 hRm
        obtain ⟨k, st, hk, rfl, hB, hRd, hRf, hln⟩ := hrel
        have hgo := hide (fun (w4 w5 : World) (s2 : Option (List UInt8)) (h1 : Upd (At p) wr w4) (h2 : Upd (At m) w4 w5) (h3 : RdS w4 p p s2) (h4 : RfS w5 D0 m s2) => show Below w.heap.size w w5 ∧ RdS w5 p p s2 ∧ RfS w5 D0 m s2 from
          ⟨(hB.trans (h1.below hB.size fun g hg => by have : g = p := hg; have := hp1.out; have := hwo.out; omega)).trans (h2.below (Nat.le_trans hB.size h1.size) fun g hg => by have : g = m := hg; have := hp1.out; have := hpm.out; have := hwo.out; omega),
           h3.upd h2 (fun e => by have : p = m := e; have := hpm.out; omega) fun g hg e => by have : g = m := e; have := hpm.out; omega, h4⟩)
        have hkeep := hide (fun (w4 : World) (h1 : Upd (At p) wr w4) => show RfS w4 D0 m st from hRf.upd h1 (fun e => by have : m = p := e; have := hpm.out; omega) fun g hg e => by have : g = p := e; have := hp1.out; omega)
        by_cases hlk : k < hs.length
        · have hh1 := hh0.out.below hB
          obtain ⟨Ah', ch', e, -, -, hsl⟩ := hh1
          injection e with e1 e2 e3
          subst e1 e3
          obtain ⟨bh, oh, rfl, -, hcell⟩ := hsl.get (i := k) (u := .int .u8 hs[k].toNat) (by simp [bv, hlk])
          replace hcell : wr.cell? ⟨bh, oh + k, none⟩ = some (.int .u8 hs[k].toNat) := hcell
          generalize hs[k].toNat = c at *
          have hmod : c % 5 = 0 ∨ c % 5 = 1 ∨ c % 5 = 2 ∨ c % 5 = 3 ∨ c % 5 = 4 := by omega
          replace hB := hide hB
          replace hRf := hide hRf
          replace hln := hide hln
          clear hsl
          rcases hmod with h | h | h | h | h
          · have hmI : (c : Int) % 5 = 0 := by omega
            have hN := hide (rNum_any p p st wr hRd)
            have hlen2 := hide (read_len (z := 0) (d := dnum0) (fun l a r h => by have := dnum_le l 0 0 a r h; omega) hln.out)
            replace hRd := hide hRd
            clear h
            go_wp2_with fail
            refine hN.out.mono ?_
            rintro e w4 ⟨rfl, hU1, hRd1⟩
            have hN2 := hide (fNum_any D0 m st w4 (hkeep.out w4 hU1))
            replace hU1 := hide hU1
            replace hRd1 := hide hRd1
            unfold u64v
            go_wp2_with fail
            refine hN2.out.mono ?_
            rintro e w5 ⟨rfl, hU2, hRf2⟩
            obtain ⟨f1, f2, f3⟩ := hgo.out w4 w5 _ hU1.out hU2 hRd1.out hRf2
            replace f1 := hide f1
            replace f2 := hide f2
            replace f3 := hide f3
            clear hU2 hRf2
            unfold u64v
            go_wp2_with fail
            go_roundw
            case rel => exact ⟨k + 1, _, by omega, by go_num, f1.out, f2.out, f3.out, hlen2.out⟩
            case measure => simp [intOf]; omega
          · have hmI : (c : Int) % 5 = 1 := by omega
            have hN := hide (rInt_any p p st wr hRd)
            have hlen2 := hide (read_len (z := 0) (d := dint) (fun l a r h => dint_len h) hln.out)
            replace hRd := hide hRd
            clear h
            go_wp2_with fail
            refine hN.out.mono ?_
            rintro e w4 ⟨rfl, hU1, hRd1⟩
            have hN2 := hide (whole_any D0 m st w4 (hkeep.out w4 hU1))
            replace hU1 := hide hU1
            replace hRd1 := hide hRd1
            unfold i64v
            go_wp2_with fail
            refine hN2.out.mono ?_
            rintro e w5 ⟨rfl, hU2, hRf2⟩
            obtain ⟨f1, f2, f3⟩ := hgo.out w4 w5 _ hU1.out hU2 hRd1.out hRf2
            replace f1 := hide f1
            replace f2 := hide f2
            replace f3 := hide f3
            clear hU2 hRf2
            unfold i64v
            go_wp2_with fail
            go_roundw
            case rel => exact ⟨k + 1, _, by omega, by go_num, f1.out, f2.out, f3.out, hlen2.out⟩
            case measure => simp [intOf]; omega
          · have hmI : (c : Int) % 5 = 2 := by omega
            have hN := hide (rText_any p p st wr hRd)
            have hlen2 := hide (read_len (z := ByteArray.empty) (d := dtext) (fun l a r h => dtext_len h) hln.out)
            replace hRd := hide hRd
            clear h
            go_wp2_with fail
            refine hN.out.mono ?_
            rintro e w4 ⟨rfl, hU1, hRd1⟩
            have hN2 := hide (fText_any D0 m st w4 (hkeep.out w4 hU1))
            replace hU1 := hide hU1
            replace hRd1 := hide hRd1
            go_wp2_with fail
            refine hN2.out.mono ?_
            rintro e w5 ⟨rfl, hU2, hRf2⟩
            obtain ⟨f1, f2, f3⟩ := hgo.out w4 w5 _ hU1.out hU2 hRd1.out hRf2
            replace f1 := hide f1
            replace f2 := hide f2
            replace f3 := hide f3
            clear hU2 hRf2
            go_wp2_with fail
            go_roundw
            case rel => exact ⟨k + 1, _, by omega, by go_num, f1.out, f2.out, f3.out, hlen2.out⟩
            case measure => simp [intOf]; omega
          · have hmI : (c : Int) % 5 = 3 := by omega
            have hN := hide (rBool_any p p st wr hRd)
            have hlen2 := hide (read_len (z := false) (d := dbool) (fun l a r h => dbool_len h) hln.out)
            replace hRd := hide hRd
            clear h
            go_wp2_with fail
            refine hN.out.mono ?_
            rintro e w4 ⟨rfl, hU1, hRd1⟩
            have hN2 := hide (fBool_any D0 m st w4 (hkeep.out w4 hU1))
            replace hU1 := hide hU1
            replace hRd1 := hide hRd1
            go_wp2_with fail
            refine hN2.out.mono ?_
            rintro e w5 ⟨rfl, hU2, hRf2⟩
            obtain ⟨f1, f2, f3⟩ := hgo.out w4 w5 _ hU1.out hU2 hRd1.out hRf2
            replace f1 := hide f1
            replace f2 := hide f2
            replace f3 := hide f3
            clear hU2 hRf2
            go_wp2_with fail
            go_roundw
            case rel => exact ⟨k + 1, _, by omega, by go_num, f1.out, f2.out, f3.out, hlen2.out⟩
            case measure => simp [intOf]; omega
          · have hmI : (c : Int) % 5 = 4 := by omega
            have hN := hide (rSummary_any p p st wr hRd hln.out)
            have hlen2 := hide (read_len (z := zeroS) (d := dsum) (fun l a r h => dsum_len h) hln.out)
            replace hRd := hide hRd
            clear h
            go_wp2_with fail
            refine hN.out.mono ?_
            rintro e w4 ⟨⟨v4, rfl, hv4⟩, hU1, hRd1⟩
            have hN2 := hide (fSummary_any D0 m st w4 (hkeep.out w4 hU1) (by have := hp1.out; have := hpm.out; omega) hln.out)
            have hv4s := hide (show ∃ va vm, v4 = .agg #[va, .bool (read zeroS dsum st).1.ends, .bool (read zeroS dsum st).1.ret.some, .int .i64 (read zeroS dsum st).1.ret.lo, .int .i64 (read zeroS dsum st).1.ret.hi, vm] from by obtain ⟨va, vm, h, -⟩ := hv4; exact ⟨va, vm, h⟩)
            replace hv4 := hide hv4
            replace hU1 := hide hU1
            replace hRd1 := hide hRd1
            go_wp2_with fail
            refine hN2.out.mono ?_
            rintro e w5 ⟨v5, rfl, hU2, hRf2, hv5⟩
            have hmb : ∀ g, At m g → g < wr.heap.size := fun g hg => by have : g = m := hg; have := RfS.lt hRf.out; omega
            have hN3 := hide (same_any v4 v5 (read zeroS dsum st).1 w5 ((hv4.out.upd hU2 hmb).val) hv5.val)
            have hfin := hgo.out w4 w5 _ hU1.out hU2 hRd1.out hRf2
            replace hfin := hide hfin
            clear hv4 hv5 hU2 hRf2 hmb
            go_wp2_with fail
            refine hN3.out.mono ?_
            rintro e w6 ⟨rfl, hb6⟩
            obtain ⟨f1, f2, f3⟩ := hfin.out
            replace hb6 := hide hb6
            replace f1 := hide f1
            replace f2 := hide f2
            replace f3 := hide f3
            clear hfin
            go_wp2_with fail
            go_roundw
            case rel => exact ⟨k + 1, _, by omega, by go_num, f1.out.trans (hb6.out.mono f1.out.size), f2.out.upd (.of_below (fun _ => False) hb6.out) (fun h => h) fun _ _ h => h, f3.out.upd (.of_below (fun _ => False) hb6.out) (fun h => h) fun _ _ h => h, hlen2.out⟩
            case measure => simp [intOf]; omega
        · have hbel := hide hB
          obtain ⟨hc1, -⟩ := RfS.flag hRf
          obtain ⟨A2, LL, c2, hc0, hn2, hm2, hLl⟩ := RfS.slice hRf
          unfold maxLen at hm2
          replace hc1 := hide hc1
          replace hc0 := hide hc0
          replace hRd := hide hRd
          clear hgo hkeep hB hRf hln
          cases st with
          | none =>
            have hdz := hide (show doneOf none = 20 from rfl)
            replace hc1 := hide (show wr.cell? ⟨m, 1, none⟩ = some (.bool true) from hc1.out)
            clear hLl
            go_wp2_with fail
            refine wp_region_flow (fun _ => False) (factAt [(fun v _ => v = (.pointer (some ⟨p, 0, none⟩))), (fun v _ => v = (.int .i64 20)), (fun v _ => v = (.bool false)), (fun v _ => v = (.pointer (some ⟨m, 0, none⟩))), (fun v _ => v = (.pointer (some ⟨m, 0, none⟩))), (fun v _ => v = (.pointer (some ⟨m, 1, none⟩))), (fun v _ => v = (.bool true)), (fun v _ => v = (.bool false)), (fun v _ => v = (.bool false)), (fun v _ => v = undef), (fun v _ => v = undef), (fun v _ => v = undef), (fun v _ => v = undef), (fun v _ => v = undef), (fun v _ => v = undef), (fun v _ => v = (.bool false)), (fun v _ => v = (.bool true)), (fun v _ => v = (.bool true))]) [] (fun _ => True) (by kernel_rfl) (fkept_at ⟨FKept.eq _, FKept.eq _, FKept.eq _, FKept.eq _, FKept.eq _, FKept.eq _, FKept.eq _, FKept.eq _, FKept.eq _, FKept.eq _, FKept.eq _, FKept.eq _, FKept.eq _, FKept.eq _, FKept.eq _, FKept.eq _, FKept.eq _, FKept.eq _, trivial⟩) (fun _ _ h _ => h) trivial (by kernel_rfl) (by kernel_rfl) (by kernel_rfl) (by kernel_rfl) (Nat.le_of_ble_eq_true (by kernel_rfl)) ?_ ⟨?_, ?_, ?_, ?_, ?_, ?_, ?_, ?_, ?_, ?_, ?_, ?_, ?_, ?_, ?_, ?_, ?_, ?_, trivial⟩ ?_
            · first | exact trivial | assumption
            · intro T w Q hu hs hv hw hd
              have hx8 : T.getD 8 undef = (.pointer (some ⟨p, 0, none⟩)) := hv 8 (by kernel_rfl)
              refine .inl ⟨wanted_none rfl, ?_⟩
              clear hd hv hu hs hw
              go_simp
              exact ⟨_, rfl, DstOk.some rfl, Below.refl _ _, rfl⟩
            · intro T w Q hu hs hv hw hd
              have hx95 : T.getD 95 undef = (.pointer (some ⟨p, 0, none⟩)) := Deps.at 0 hd (by kernel_rfl)
              refine .inl ⟨wanted_none rfl, ?_⟩
              have hN := hide (done_any p p _ w (hRd.out.upd hu (fun h => h) fun _ _ h => h))
              rw [hdz.out] at hN
              clear hd hv hu hs hw
              go_simp
              refine hN.out.mono ?_
              rintro e w2 ⟨rfl, rfl⟩
              exact ⟨_, rfl, DstOk.some rfl, Below.refl _ _, rfl⟩
            · intro T w Q hu hs hv hw hd
              have hx96 : T.getD 96 undef = (.int .i64 20) := Deps.at 1 hd (by kernel_rfl)
              refine .inl ⟨wanted_none rfl, ?_⟩
              clear hd hv hs hu hw
              go_simp
              exact ⟨_, rfl, DstOk.some rfl, Below.refl _ _, (by show Value.bool _ = Value.bool false; simp)⟩
            · intro T w Q hu hs hv hw hd
              have hx9 : T.getD 9 undef = (.pointer (some ⟨m, 0, none⟩)) := hv 9 (by kernel_rfl)
              refine .inl ⟨wanted_none rfl, ?_⟩
              clear hd hv hu hs hw
              go_simp
              exact ⟨_, rfl, DstOk.some rfl, Below.refl _ _, rfl⟩
            · intro T w Q hu hs hv hw hd
              have hx98 : T.getD 98 undef = (.pointer (some ⟨m, 0, none⟩)) := Deps.at 3 hd (by kernel_rfl)
              refine .inl ⟨wanted_none rfl, ?_⟩
              clear hd hv hu hs hw
              go_simp
              exact ⟨_, rfl, DstOk.some rfl, Below.refl _ _, rfl⟩
            · intro T w Q hu hs hv hw hd
              have hx99 : T.getD 99 undef = (.pointer (some ⟨m, 0, none⟩)) := Deps.at 4 hd (by kernel_rfl)
              refine .inl ⟨wanted_none rfl, ?_⟩
              clear hd hv hu hs hw
              go_simp
              exact ⟨_, rfl, DstOk.some rfl, Below.refl _ _, rfl⟩
            · intro T w Q hu hs hv hw hd
              have hx100 : T.getD 100 undef = (.pointer (some ⟨m, 1, none⟩)) := Deps.at 5 hd (by kernel_rfl)
              refine .inl ⟨wanted_none rfl, ?_⟩
              have hcc := hu.cell hc1.out (fun h => h)
              clear hd hv hu hs hw
              go_simp
              exact ⟨_, rfl, DstOk.some rfl, Below.refl _ _, rfl⟩
            · intro T w Q hu hs hv hw hd
              have hx101 : T.getD 101 undef = (.bool true) := Deps.at 6 hd (by kernel_rfl)
              refine .inl ⟨wanted_none rfl, ?_⟩
              clear hd hv hu hs hw
              go_simp
              exact ⟨_, rfl, DstOk.some rfl, Below.refl _ _, rfl⟩
            · intro T w Q hu hs hv hw hd
              have hx102 : T.getD 102 undef = (.bool false) := Deps.at 7 hd (by kernel_rfl)
              refine .inl ⟨wanted_none rfl, ?_⟩
              clear hd hv hu hs hw
              go_simp
              exact ⟨_, rfl, DstOk.some rfl, Below.refl _ _, rfl⟩
            · intro T w Q hu hs hv hw hd
              exact .inr ⟨wanted_not rfl (Deps.at 8 hd (by kernel_rfl) : slotOf _ T 8 = .bool (!true)), rfl⟩
            · intro T w Q hu hs hv hw hd
              exact .inr ⟨wanted_not rfl (Deps.at 8 hd (by kernel_rfl) : slotOf _ T 8 = .bool (!true)), rfl⟩
            · intro T w Q hu hs hv hw hd
              exact .inr ⟨wanted_not rfl (Deps.at 8 hd (by kernel_rfl) : slotOf _ T 8 = .bool (!true)), rfl⟩
            · intro T w Q hu hs hv hw hd
              exact .inr ⟨wanted_not rfl (Deps.at 8 hd (by kernel_rfl) : slotOf _ T 8 = .bool (!true)), rfl⟩
            · intro T w Q hu hs hv hw hd
              exact .inr ⟨wanted_not rfl (Deps.at 8 hd (by kernel_rfl) : slotOf _ T 8 = .bool (!true)), rfl⟩
            · intro T w Q hu hs hv hw hd
              exact .inr ⟨wanted_not rfl (Deps.at 8 hd (by kernel_rfl) : slotOf _ T 8 = .bool (!true)), rfl⟩
            · intro T w Q hu hs hv hw hd
              have hx103 : T.getD 103 undef = (.bool false) := Deps.at 8 hd (by kernel_rfl)
              have hx109 : T.getD 109 undef = undef := Deps.at 14 hd (by kernel_rfl)
              refine .inl ⟨wanted_none rfl, ?_⟩
              clear hd hv hu hs hw
              go_simp
              exact ⟨_, rfl, DstOk.some rfl, Below.refl _ _, rfl⟩
            · intro T w Q hu hs hv hw hd
              have hx97 : T.getD 97 undef = (.bool false) := Deps.at 2 hd (by kernel_rfl)
              have hx110 : T.getD 110 undef = (.bool false) := Deps.at 15 hd (by kernel_rfl)
              refine .inl ⟨wanted_none rfl, ?_⟩
              clear hd hv hs hu hw
              go_simp
              exact ⟨_, rfl, DstOk.some rfl, Below.refl _ _, (by show Value.bool _ = Value.bool true; simp)⟩
            · intro T w Q hu hs hv hw hd
              have hx111 : T.getD 111 undef = (.bool true) := Deps.at 16 hd (by kernel_rfl)
              refine .inl ⟨wanted_none rfl, ?_⟩
              clear hd hv hu hs hw
              go_simp
              exact ⟨_, rfl, DstOk.some rfl, Below.refl _ _, rfl⟩
            · intro T w hu hs hv hf hcur
              have f17 : T.getD 6 undef = (.bool true) := hf 17 (by decide)
              clear hf hs hv hcur
              go_wp2_with fail
              go_ret
              exact ⟨congrArg Ending.returned f17, hbel.out.trans (hu.below hbel.out.size fun _ h => h.elim)⟩
          | some l =>
            have hLL := hLl l rfl
            replace hc1 := hide (show wr.cell? ⟨m, 1, none⟩ = some (.bool false) from hc1.out)
            clear hLl
            cases l with
            | nil =>
              have hdz := hide (show doneOf (some []) = 0 from rfl)
              replace hLL := hide (show LL = 0 from hLL)
              go_wp2_with fail
              refine wp_region_flow (fun _ => False) (factAt [(fun v _ => v = (.pointer (some ⟨p, 0, none⟩))), (fun v _ => v = (.int .i64 0)), (fun v _ => v = (.bool true)), (fun v _ => v = (.pointer (some ⟨m, 0, none⟩))), (fun v _ => v = (.pointer (some ⟨m, 0, none⟩))), (fun v _ => v = (.pointer (some ⟨m, 1, none⟩))), (fun v _ => v = (.bool false)), (fun v _ => v = (.bool true)), (fun v _ => v = (.bool true)), (fun v _ => v = (.pointer (some ⟨m, 0, none⟩))), (fun v _ => v = (.pointer (some ⟨m, 0, none⟩))), (fun v _ => v = (.pointer (some ⟨m, 0, none⟩))), (fun v _ => v = (.slice A2 LL c2)), (fun v _ => v = (.int .i64 LL)), (fun v _ => v = (.bool true)), (fun v _ => v = (.bool true)), (fun v _ => v = (.bool true)), (fun v _ => v = (.bool true))]) [] (fun _ => True) (by kernel_rfl) (fkept_at ⟨FKept.eq _, FKept.eq _, FKept.eq _, FKept.eq _, FKept.eq _, FKept.eq _, FKept.eq _, FKept.eq _, FKept.eq _, FKept.eq _, FKept.eq _, FKept.eq _, FKept.eq _, FKept.eq _, FKept.eq _, FKept.eq _, FKept.eq _, FKept.eq _, trivial⟩) (fun _ _ h _ => h) trivial (by kernel_rfl) (by kernel_rfl) (by kernel_rfl) (by kernel_rfl) (Nat.le_of_ble_eq_true (by kernel_rfl)) ?_ ⟨?_, ?_, ?_, ?_, ?_, ?_, ?_, ?_, ?_, ?_, ?_, ?_, ?_, ?_, ?_, ?_, ?_, ?_, trivial⟩ ?_
              · first | exact trivial | assumption
              · intro T w Q hu hs hv hw hd
                have hx8 : T.getD 8 undef = (.pointer (some ⟨p, 0, none⟩)) := hv 8 (by kernel_rfl)
                refine .inl ⟨wanted_none rfl, ?_⟩
                clear hd hv hu hs hw
                go_simp
                exact ⟨_, rfl, DstOk.some rfl, Below.refl _ _, rfl⟩
              · intro T w Q hu hs hv hw hd
                have hx95 : T.getD 95 undef = (.pointer (some ⟨p, 0, none⟩)) := Deps.at 0 hd (by kernel_rfl)
                refine .inl ⟨wanted_none rfl, ?_⟩
                have hN := hide (done_any p p _ w (hRd.out.upd hu (fun h => h) fun _ _ h => h))
                rw [hdz.out] at hN
                clear hd hv hu hs hw
                go_simp
                refine hN.out.mono ?_
                rintro e w2 ⟨rfl, rfl⟩
                exact ⟨_, rfl, DstOk.some rfl, Below.refl _ _, rfl⟩
              · intro T w Q hu hs hv hw hd
                have hx96 : T.getD 96 undef = (.int .i64 0) := Deps.at 1 hd (by kernel_rfl)
                refine .inl ⟨wanted_none rfl, ?_⟩
                clear hd hv hs hu hw
                go_simp
                exact ⟨_, rfl, DstOk.some rfl, Below.refl _ _, (by show Value.bool _ = Value.bool true; simp)⟩
              · intro T w Q hu hs hv hw hd
                have hx9 : T.getD 9 undef = (.pointer (some ⟨m, 0, none⟩)) := hv 9 (by kernel_rfl)
                refine .inl ⟨wanted_none rfl, ?_⟩
                clear hd hv hu hs hw
                go_simp
                exact ⟨_, rfl, DstOk.some rfl, Below.refl _ _, rfl⟩
              · intro T w Q hu hs hv hw hd
                have hx98 : T.getD 98 undef = (.pointer (some ⟨m, 0, none⟩)) := Deps.at 3 hd (by kernel_rfl)
                refine .inl ⟨wanted_none rfl, ?_⟩
                clear hd hv hu hs hw
                go_simp
                exact ⟨_, rfl, DstOk.some rfl, Below.refl _ _, rfl⟩
              · intro T w Q hu hs hv hw hd
                have hx99 : T.getD 99 undef = (.pointer (some ⟨m, 0, none⟩)) := Deps.at 4 hd (by kernel_rfl)
                refine .inl ⟨wanted_none rfl, ?_⟩
                clear hd hv hu hs hw
                go_simp
                exact ⟨_, rfl, DstOk.some rfl, Below.refl _ _, rfl⟩
              · intro T w Q hu hs hv hw hd
                have hx100 : T.getD 100 undef = (.pointer (some ⟨m, 1, none⟩)) := Deps.at 5 hd (by kernel_rfl)
                refine .inl ⟨wanted_none rfl, ?_⟩
                have hcc := hu.cell hc1.out (fun h => h)
                clear hd hv hu hs hw
                go_simp
                exact ⟨_, rfl, DstOk.some rfl, Below.refl _ _, rfl⟩
              · intro T w Q hu hs hv hw hd
                have hx101 : T.getD 101 undef = (.bool false) := Deps.at 6 hd (by kernel_rfl)
                refine .inl ⟨wanted_none rfl, ?_⟩
                clear hd hv hu hs hw
                go_simp
                exact ⟨_, rfl, DstOk.some rfl, Below.refl _ _, rfl⟩
              · intro T w Q hu hs hv hw hd
                have hx102 : T.getD 102 undef = (.bool true) := Deps.at 7 hd (by kernel_rfl)
                refine .inl ⟨wanted_none rfl, ?_⟩
                clear hd hv hu hs hw
                go_simp
                exact ⟨_, rfl, DstOk.some rfl, Below.refl _ _, rfl⟩
              · intro T w Q hu hs hv hw hd
                have hx9 : T.getD 9 undef = (.pointer (some ⟨m, 0, none⟩)) := hv 9 (by kernel_rfl)
                refine .inl ⟨wanted_some rfl (Deps.at 8 hd (by kernel_rfl) : slotOf _ T 8 = .bool true), ?_⟩
                clear hd hv hu hs hw
                go_simp
                exact ⟨_, rfl, DstOk.some rfl, Below.refl _ _, rfl⟩
              · intro T w Q hu hs hv hw hd
                have hx104 : T.getD 104 undef = (.pointer (some ⟨m, 0, none⟩)) := Deps.at 9 hd (by kernel_rfl)
                refine .inl ⟨wanted_some rfl (Deps.at 8 hd (by kernel_rfl) : slotOf _ T 8 = .bool true), ?_⟩
                clear hd hv hu hs hw
                go_simp
                exact ⟨_, rfl, DstOk.some rfl, Below.refl _ _, rfl⟩
              · intro T w Q hu hs hv hw hd
                have hx105 : T.getD 105 undef = (.pointer (some ⟨m, 0, none⟩)) := Deps.at 10 hd (by kernel_rfl)
                refine .inl ⟨wanted_some rfl (Deps.at 8 hd (by kernel_rfl) : slotOf _ T 8 = .bool true), ?_⟩
                clear hd hv hu hs hw
                go_simp
                exact ⟨_, rfl, DstOk.some rfl, Below.refl _ _, rfl⟩
              · intro T w Q hu hs hv hw hd
                have hx106 : T.getD 106 undef = (.pointer (some ⟨m, 0, none⟩)) := Deps.at 11 hd (by kernel_rfl)
                refine .inl ⟨wanted_some rfl (Deps.at 8 hd (by kernel_rfl) : slotOf _ T 8 = .bool true), ?_⟩
                have hcc := hu.cell hc0.out (fun h => h)
                clear hd hv hu hs hw
                go_simp
                exact ⟨_, rfl, DstOk.some rfl, Below.refl _ _, rfl⟩
              · intro T w Q hu hs hv hw hd
                have hx107 : T.getD 107 undef = (.slice A2 LL c2) := Deps.at 12 hd (by kernel_rfl)
                refine .inl ⟨wanted_some rfl (Deps.at 8 hd (by kernel_rfl) : slotOf _ T 8 = .bool true), ?_⟩
                clear hd hv hu hs hw
                go_simp
                exact ⟨_, rfl, DstOk.some rfl, Below.refl _ _, rfl⟩
              · intro T w Q hu hs hv hw hd
                have hx108 : T.getD 108 undef = (.int .i64 LL) := Deps.at 13 hd (by kernel_rfl)
                refine .inl ⟨wanted_some rfl (Deps.at 8 hd (by kernel_rfl) : slotOf _ T 8 = .bool true), ?_⟩
                have hq := hLL.out
                clear hd hv hs hu hw
                go_simp
                exact ⟨_, rfl, DstOk.some rfl, Below.refl _ _, (by show Value.bool _ = Value.bool true; simp; try omega)⟩
              · intro T w Q hu hs hv hw hd
                have hx103 : T.getD 103 undef = (.bool true) := Deps.at 8 hd (by kernel_rfl)
                have hx109 : T.getD 109 undef = (.bool true) := Deps.at 14 hd (by kernel_rfl)
                refine .inl ⟨wanted_none rfl, ?_⟩
                clear hd hv hu hs hw
                go_simp
                exact ⟨_, rfl, DstOk.some rfl, Below.refl _ _, rfl⟩
              · intro T w Q hu hs hv hw hd
                have hx97 : T.getD 97 undef = (.bool true) := Deps.at 2 hd (by kernel_rfl)
                have hx110 : T.getD 110 undef = (.bool true) := Deps.at 15 hd (by kernel_rfl)
                refine .inl ⟨wanted_none rfl, ?_⟩
                clear hd hv hs hu hw
                go_simp
                exact ⟨_, rfl, DstOk.some rfl, Below.refl _ _, (by show Value.bool _ = Value.bool true; simp)⟩
              · intro T w Q hu hs hv hw hd
                have hx111 : T.getD 111 undef = (.bool true) := Deps.at 16 hd (by kernel_rfl)
                refine .inl ⟨wanted_none rfl, ?_⟩
                clear hd hv hu hs hw
                go_simp
                exact ⟨_, rfl, DstOk.some rfl, Below.refl _ _, rfl⟩
              · intro T w hu hs hv hf hcur
                have f17 : T.getD 6 undef = (.bool true) := hf 17 (by decide)
                clear hf hs hv hcur
                go_wp2_with fail
                go_ret
                exact ⟨congrArg Ending.returned f17, hbel.out.trans (hu.below hbel.out.size fun _ h => h.elim)⟩
            | cons x l =>
              have hdz := hide (show doneOf (some (x :: l)) = 20 from by unfold doneOf; rw [if_neg (by simp)])
              replace hLL := hide (show 0 < LL by rw [hLL]; simp)
              go_wp2_with fail
              refine wp_region_flow (fun _ => False) (factAt [(fun v _ => v = (.pointer (some ⟨p, 0, none⟩))), (fun v _ => v = (.int .i64 20)), (fun v _ => v = (.bool false)), (fun v _ => v = (.pointer (some ⟨m, 0, none⟩))), (fun v _ => v = (.pointer (some ⟨m, 0, none⟩))), (fun v _ => v = (.pointer (some ⟨m, 1, none⟩))), (fun v _ => v = (.bool false)), (fun v _ => v = (.bool true)), (fun v _ => v = (.bool true)), (fun v _ => v = (.pointer (some ⟨m, 0, none⟩))), (fun v _ => v = (.pointer (some ⟨m, 0, none⟩))), (fun v _ => v = (.pointer (some ⟨m, 0, none⟩))), (fun v _ => v = (.slice A2 LL c2)), (fun v _ => v = (.int .i64 LL)), (fun v _ => v = (.bool false)), (fun v _ => v = (.bool false)), (fun v _ => v = (.bool true)), (fun v _ => v = (.bool true))]) [] (fun _ => True) (by kernel_rfl) (fkept_at ⟨FKept.eq _, FKept.eq _, FKept.eq _, FKept.eq _, FKept.eq _, FKept.eq _, FKept.eq _, FKept.eq _, FKept.eq _, FKept.eq _, FKept.eq _, FKept.eq _, FKept.eq _, FKept.eq _, FKept.eq _, FKept.eq _, FKept.eq _, FKept.eq _, trivial⟩) (fun _ _ h _ => h) trivial (by kernel_rfl) (by kernel_rfl) (by kernel_rfl) (by kernel_rfl) (Nat.le_of_ble_eq_true (by kernel_rfl)) ?_ ⟨?_, ?_, ?_, ?_, ?_, ?_, ?_, ?_, ?_, ?_, ?_, ?_, ?_, ?_, ?_, ?_, ?_, ?_, trivial⟩ ?_
              · first | exact trivial | assumption
              · intro T w Q hu hs hv hw hd
                have hx8 : T.getD 8 undef = (.pointer (some ⟨p, 0, none⟩)) := hv 8 (by kernel_rfl)
                refine .inl ⟨wanted_none rfl, ?_⟩
                clear hd hv hu hs hw
                go_simp
                exact ⟨_, rfl, DstOk.some rfl, Below.refl _ _, rfl⟩
              · intro T w Q hu hs hv hw hd
                have hx95 : T.getD 95 undef = (.pointer (some ⟨p, 0, none⟩)) := Deps.at 0 hd (by kernel_rfl)
                refine .inl ⟨wanted_none rfl, ?_⟩
                have hN := hide (done_any p p _ w (hRd.out.upd hu (fun h => h) fun _ _ h => h))
                rw [hdz.out] at hN
                clear hd hv hu hs hw
                go_simp
                refine hN.out.mono ?_
                rintro e w2 ⟨rfl, rfl⟩
                exact ⟨_, rfl, DstOk.some rfl, Below.refl _ _, rfl⟩
              · intro T w Q hu hs hv hw hd
                have hx96 : T.getD 96 undef = (.int .i64 20) := Deps.at 1 hd (by kernel_rfl)
                refine .inl ⟨wanted_none rfl, ?_⟩
                clear hd hv hs hu hw
                go_simp
                exact ⟨_, rfl, DstOk.some rfl, Below.refl _ _, (by show Value.bool _ = Value.bool false; simp)⟩
              · intro T w Q hu hs hv hw hd
                have hx9 : T.getD 9 undef = (.pointer (some ⟨m, 0, none⟩)) := hv 9 (by kernel_rfl)
                refine .inl ⟨wanted_none rfl, ?_⟩
                clear hd hv hu hs hw
                go_simp
                exact ⟨_, rfl, DstOk.some rfl, Below.refl _ _, rfl⟩
              · intro T w Q hu hs hv hw hd
                have hx98 : T.getD 98 undef = (.pointer (some ⟨m, 0, none⟩)) := Deps.at 3 hd (by kernel_rfl)
                refine .inl ⟨wanted_none rfl, ?_⟩
                clear hd hv hu hs hw
                go_simp
                exact ⟨_, rfl, DstOk.some rfl, Below.refl _ _, rfl⟩
              · intro T w Q hu hs hv hw hd
                have hx99 : T.getD 99 undef = (.pointer (some ⟨m, 0, none⟩)) := Deps.at 4 hd (by kernel_rfl)
                refine .inl ⟨wanted_none rfl, ?_⟩
                clear hd hv hu hs hw
                go_simp
                exact ⟨_, rfl, DstOk.some rfl, Below.refl _ _, rfl⟩
              · intro T w Q hu hs hv hw hd
                have hx100 : T.getD 100 undef = (.pointer (some ⟨m, 1, none⟩)) := Deps.at 5 hd (by kernel_rfl)
                refine .inl ⟨wanted_none rfl, ?_⟩
                have hcc := hu.cell hc1.out (fun h => h)
                clear hd hv hu hs hw
                go_simp
                exact ⟨_, rfl, DstOk.some rfl, Below.refl _ _, rfl⟩
              · intro T w Q hu hs hv hw hd
                have hx101 : T.getD 101 undef = (.bool false) := Deps.at 6 hd (by kernel_rfl)
                refine .inl ⟨wanted_none rfl, ?_⟩
                clear hd hv hu hs hw
                go_simp
                exact ⟨_, rfl, DstOk.some rfl, Below.refl _ _, rfl⟩
              · intro T w Q hu hs hv hw hd
                have hx102 : T.getD 102 undef = (.bool true) := Deps.at 7 hd (by kernel_rfl)
                refine .inl ⟨wanted_none rfl, ?_⟩
                clear hd hv hu hs hw
                go_simp
                exact ⟨_, rfl, DstOk.some rfl, Below.refl _ _, rfl⟩
              · intro T w Q hu hs hv hw hd
                have hx9 : T.getD 9 undef = (.pointer (some ⟨m, 0, none⟩)) := hv 9 (by kernel_rfl)
                refine .inl ⟨wanted_some rfl (Deps.at 8 hd (by kernel_rfl) : slotOf _ T 8 = .bool true), ?_⟩
                clear hd hv hu hs hw
                go_simp
                exact ⟨_, rfl, DstOk.some rfl, Below.refl _ _, rfl⟩
              · intro T w Q hu hs hv hw hd
                have hx104 : T.getD 104 undef = (.pointer (some ⟨m, 0, none⟩)) := Deps.at 9 hd (by kernel_rfl)
                refine .inl ⟨wanted_some rfl (Deps.at 8 hd (by kernel_rfl) : slotOf _ T 8 = .bool true), ?_⟩
                clear hd hv hu hs hw
                go_simp
                exact ⟨_, rfl, DstOk.some rfl, Below.refl _ _, rfl⟩
              · intro T w Q hu hs hv hw hd
                have hx105 : T.getD 105 undef = (.pointer (some ⟨m, 0, none⟩)) := Deps.at 10 hd (by kernel_rfl)
                refine .inl ⟨wanted_some rfl (Deps.at 8 hd (by kernel_rfl) : slotOf _ T 8 = .bool true), ?_⟩
                clear hd hv hu hs hw
                go_simp
                exact ⟨_, rfl, DstOk.some rfl, Below.refl _ _, rfl⟩
              · intro T w Q hu hs hv hw hd
                have hx106 : T.getD 106 undef = (.pointer (some ⟨m, 0, none⟩)) := Deps.at 11 hd (by kernel_rfl)
                refine .inl ⟨wanted_some rfl (Deps.at 8 hd (by kernel_rfl) : slotOf _ T 8 = .bool true), ?_⟩
                have hcc := hu.cell hc0.out (fun h => h)
                clear hd hv hu hs hw
                go_simp
                exact ⟨_, rfl, DstOk.some rfl, Below.refl _ _, rfl⟩
              · intro T w Q hu hs hv hw hd
                have hx107 : T.getD 107 undef = (.slice A2 LL c2) := Deps.at 12 hd (by kernel_rfl)
                refine .inl ⟨wanted_some rfl (Deps.at 8 hd (by kernel_rfl) : slotOf _ T 8 = .bool true), ?_⟩
                clear hd hv hu hs hw
                go_simp
                exact ⟨_, rfl, DstOk.some rfl, Below.refl _ _, rfl⟩
              · intro T w Q hu hs hv hw hd
                have hx108 : T.getD 108 undef = (.int .i64 LL) := Deps.at 13 hd (by kernel_rfl)
                refine .inl ⟨wanted_some rfl (Deps.at 8 hd (by kernel_rfl) : slotOf _ T 8 = .bool true), ?_⟩
                have hq := hLL.out
                clear hd hv hs hu hw
                go_simp
                exact ⟨_, rfl, DstOk.some rfl, Below.refl _ _, (by show Value.bool _ = Value.bool false; simp; try omega)⟩
              · intro T w Q hu hs hv hw hd
                have hx103 : T.getD 103 undef = (.bool true) := Deps.at 8 hd (by kernel_rfl)
                have hx109 : T.getD 109 undef = (.bool false) := Deps.at 14 hd (by kernel_rfl)
                refine .inl ⟨wanted_none rfl, ?_⟩
                clear hd hv hu hs hw
                go_simp
                exact ⟨_, rfl, DstOk.some rfl, Below.refl _ _, rfl⟩
              · intro T w Q hu hs hv hw hd
                have hx97 : T.getD 97 undef = (.bool false) := Deps.at 2 hd (by kernel_rfl)
                have hx110 : T.getD 110 undef = (.bool false) := Deps.at 15 hd (by kernel_rfl)
                refine .inl ⟨wanted_none rfl, ?_⟩
                clear hd hv hs hu hw
                go_simp
                exact ⟨_, rfl, DstOk.some rfl, Below.refl _ _, (by show Value.bool _ = Value.bool true; simp)⟩
              · intro T w Q hu hs hv hw hd
                have hx111 : T.getD 111 undef = (.bool true) := Deps.at 16 hd (by kernel_rfl)
                refine .inl ⟨wanted_none rfl, ?_⟩
                clear hd hv hu hs hw
                go_simp
                exact ⟨_, rfl, DstOk.some rfl, Below.refl _ _, rfl⟩
              · intro T w hu hs hv hf hcur
                have f17 : T.getD 6 undef = (.bool true) := hf 17 (by decide)
                clear hf hs hv hcur
                go_wp2_with fail
                go_ret
                exact ⟨congrArg Ending.returned f17, hbel.out.trans (hu.below hbel.out.size fun _ h => h.elim)⟩
end Go.Proofs.Ytajpgkedlajjdaa
