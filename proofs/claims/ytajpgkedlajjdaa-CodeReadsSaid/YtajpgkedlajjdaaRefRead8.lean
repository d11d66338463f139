/- Walks of the document's reader: summaries. -/
import Derived.Test.YtajpgkedlajjdaaRefRead7
import Derived.Test.YtajpgkedlajjdaaTide
namespace Go.Proofs.Ytajpgkedlajjdaa
open Go.RowKit

set_option maxRecDepth 100000 in
set_option maxHeartbeats 6400000 in
theorem fSummary_any (D m : Nat) (st : Option (List UInt8)) (w0 : World) (hR : RfS w0 D m st) (hD : D ≤ m) (hl : ∀ l, st = some l → l.length ≤ 4294967296) :
    Calls Try.prog 32 #[.pointer (some ⟨m, 0, none⟩)] w0 fun e w' => ∃ v, e = .returned v ∧ Upd (At m) w0 w' ∧ RfS w' D m (read zeroS dsum st).2 ∧ SumAt w' w0.heap.size v (read zeroS dsum st).1 := by
  have hlt := hide hR.lt
  obtain ⟨i0, hi, hz0, hz1, hz2⟩ := info_parts named_info
  replace hi := hide hi
  replace hz0 := hide hz0
  replace hz1 := hide hz1
  replace hz2 := hide hz2
  obtain ⟨w1, hw1⟩ : ∃ w1, w1 = (w0.alloc (.cells #[.slice none 0 0, .bool false, .bool false, .int .i64 0, .int .i64 0, .slice none 0 0] 35)).alloc (.cells #[.slice none 0 0, .bool false, .bool false, .int .i64 0, .int .i64 0, .slice none 0 0] 35) := ⟨_, rfl⟩
  have hb1 : Below w0.heap.size w0 w1 := by rw [hw1]; exact ((Below.refl _ w0).alloc (Nat.le_refl _) _).alloc (by simp) _
  have hsz1 : w1.heap.size = w0.heap.size + 2 := by rw [hw1]; simp
  have hR1 : SumR w0 D m (w0.heap.size + 2) (.slice none 0 0) [] false zeroI (.slice none 0 0) (.slice none 0 0) [] st w1 := by
    refine ⟨hlt.out, hD, Nat.le_refl _, (fun k hk => by cases hk), Upd.of_below _ hb1, hR.upd (.of_below (fun _ => False) hb1) id fun _ _ => id, ?_, ?_, World.ownsRow_nil _ _ _ _, World.ownsRow_nil _ _ _ _⟩
    · rw [hw1]; exact heap_old (heap_new _ _) _
    · rw [hw1]
      have := heap_new (w0.alloc (.cells #[.slice none 0 0, .bool false, .bool false, .int .i64 0, .int .i64 0, .slice none 0 0] 35)) (.cells #[.slice none 0 0, .bool false, .bool false, .int .i64 0, .int .i64 0, .slice none 0 0] 35)
      rw [show (w0.alloc (.cells #[.slice none 0 0, .bool false, .bool false, .int .i64 0, .int .i64 0, .slice none 0 0] 35)).heap.size = w0.heap.size + 1 by simp] at this
      exact this
  have hl0 := read_len (z := 0) (d := dnum0) (fun l a r h => by have := dnum_le l 0 0 a r h; omega) hl
  have hN1 := hide (fAlarms_any D m st w1 hR1.rf hD hl0)
  replace hw1 := hw1.symm
  replace hR1 := hide hR1
  replace hsz1 := hide hsz1
  obtain ⟨aL, st1, hx1⟩ : ∃ a b, read [] dalarms st = (a, b) := ⟨_, _, rfl⟩
  have hl1 : ∀ l, st1 = some l → l.length ≤ 4294967296 := by
    have := read_len (z := []) (d := dalarms) (fun l a r h => dalarms_len h) hl
    rw [hx1] at this; exact this
  rw [hx1] at hN1
  replace hx1 := hide hx1
  clear hb1 hR hl0
  go_enter Try.func32, Try.ntmps32
  go_wp2_with fail
  refine hN1.out.mono ?_
  rintro e w2 ⟨va, rfl, hU2, hr2, hO2⟩
  replace hr2 : RfS w2 D m st1 := hr2
  replace hO2 : w2.ownsRow w1.heap.size 62 2 va aL.length (aL.map AlarmD.cells).flatten := hO2
  rw [hsz1.out] at hO2
  obtain ⟨Aa, ca, rfl⟩ := own_slice hO2
  have hR2 := hR1.out.read hU2 hr2
  obtain ⟨s5, hs5⟩ : ∃ s5, s5 = w2.heap.size := ⟨_, rfl⟩
  have hR2' := hide (hR2.setAlarms (s := s5) (.slice Aa aL.length ca) aL hO2 (by omega))
  have d0 := hR2.cell.1
  have e0 := frozen_at hR2.box 0
  obtain ⟨en, st2, hx2⟩ : ∃ a b, read false dbool st1 = (a, b) := ⟨_, _, rfl⟩
  have hN2 := fBool_any D m st1 _ hR2'.out.rf
  rw [hx2] at hN2
  replace hN2 := hide hN2
  replace hx2 := hide hx2
  clear hN1 hR1 hw1 hU2 hr2 hO2 hR2 hsz1
  go_wp2_with fail
  refine hN2.out.mono ?_
  rintro e w3 ⟨rfl, hU3, hr3⟩
  replace hr3 : RfS w3 D m st2 := hr3
  have hs5' := hide (show s5 ≤ w3.heap.size from Nat.le_trans (by rw [hs5]; simp [World.setCell]) hU3.size)
  have hR3 := hR2'.out.read hU3 hr3
  have hR3' := hide (hR3.setEnds en)
  have d1 := hR3.cell.2.1
  have e1 := frozen_at hR3.box 1
  obtain ⟨ivx0, st3, hx3⟩ : ∃ a b, read zeroI dival st2 = (a, b) := ⟨_, _, rfl⟩
  have hN3 := fIval_any D m st2 _ hR3'.out.rf
  rw [hx3] at hN3
  replace hN3 := hide hN3
  replace hx3 := hide hx3
  replace hs5 := hs5'
  clear hs5' hN2 hR2' hU3 hr3 hR3 d0 e0
  go_wp2_with fail
  refine hN3.out.mono ?_
  rintro e w4 ⟨iv, rfl, hU4, hr4, hiv⟩
  replace hr4 : RfS w4 D m st3 := hr4
  replace hiv : st3 ≠ none → iv = ivx0 := hiv
  replace hs5 := hide (show s5 ≤ w4.heap.size from Nat.le_trans (Nat.le_trans hs5.out (by simp [World.setCell])) hU4.size)
  have hR4 := hR3'.out.read hU4 hr4
  have hR4' := hide (hR4.setRet iv)
  have d2 := hR4.cell.2.2.1
  have d3 := hR4.cell.2.2.2.1
  have d4 := hR4.cell.2.2.2.2.1
  have e2 := frozen_at hR4.box 2
  have e3 := frozen_at hR4.box 3
  have e4 := frozen_at hR4.box 4
  obtain ⟨n, st4, hx4⟩ : ∃ a b, read 0 dnum0 st3 = (a, b) := ⟨_, _, rfl⟩
  have hN4 := fNum_any D m st3 _ hR4'.out.rf
  have hnlt := read_num_lt st3
  rw [hx4] at hN4 hnlt
  replace hnlt : n < 18446744073709551616 := hnlt
  have hl4 : ∀ l, st4 = some l → l.length ≤ 4294967296 := by
    have h2 := read_len (z := false) (d := dbool) (fun l a r h => dbool_len h) hl1
    rw [hx2.out] at h2
    have h3 := read_len (z := zeroI) (d := dival) (fun l a r h => dival_len h) h2
    rw [hx3.out] at h3
    have h4 := read_len (z := 0) (d := dnum0) (fun l a r h => by have := dnum_le l 0 0 a r h; omega) h3
    rw [hx4] at h4; exact h4
  have hsum := hide (read_sum hx1.out hx2.out hx3.out hx4 hiv)
  replace hN4 := hide hN4
  replace hl4 := hide hl4
  clear hN3 hR3' hU4 hr4 hR4 d1 e1 hx1 hx2 hx3 hx4 hiv hl1
  unfold ivalV
  go_wp2_with fail
  refine hN4.out.mono ?_
  rintro e w5 ⟨rfl, hU5, hr5⟩
  replace hr5 : RfS w5 D m st4 := hr5
  replace hs5 := hide (show s5 ≤ w5.heap.size from Nat.le_trans (Nat.le_trans hs5.out (by simp [World.setCell])) hU5.size)
  have hR5 := hR4'.out.read hU5 hr5
  clear hN4 hR4' hU5 hr5 d2 d3 d4 e2 e3 e4
  unfold u64v
  obtain ⟨A0, n0, c0, hc0, hn0, hm0, hl0⟩ := RfS.slice hR5.rf
  obtain ⟨hc1, hf1⟩ := RfS.flag hR5.rf
  unfold maxLen at hm0
  by_cases hle : n ≤ n0
  · have hdec : decide (n0 < n) = false := decide_eq_false (by omega)
    have hmod : modAt n st4 = st4 := by
      cases st4 with
      | none => rfl
      | some r => exact if_pos (by rw [← hl0 r rfl]; exact hle)
    have hsum' := hsum.out
    rw [hmod] at hsum'
    obtain ⟨W, hW⟩ : ∃ W, left_ dnamed (n - 0) [] st4 = W := ⟨_, rfl⟩
    rw [show left_ dnamed n [] st4 = W from hW] at hsum'
    have hfin := hide hsum'
    have h32 : st4 ≠ none → n ≤ 4294967296 := fun h => by
      cases st4 with
      | none => exact absurd rfl h
      | some r => have := hl4.out r rfl; have := hl0 r rfl; omega
    replace hW := hide hW
    replace h32 := hide h32
    have hs5 := hide (show s5 ≤ w5.heap.size from hs5.out)
    have hR0 := hide hR5
    clear hR5 hl0 hsum hsum' hmod hl4
    go_wp2_with fail
    replace hdec := hide hdec
    replace hle := hide hle
    clear hc0 hc1 hf1
    go_loopw [5] (fun i wr => ∃ (k : Nat) (al : List NamedD) (sx : Option (List UInt8)) (A1 : Option Addr) (c1 : Nat), k ≤ n ∧ al.length = k ∧ i = .int .u64 k ∧ SumR w0 D m s5 (.slice Aa aL.length ca) aL en iv (.slice A1 k c1) (.slice A1 k c1) al sx wr ∧ left_ dnamed (n - k) al sx = W ∧ (sx ≠ none → n ≤ 4294967296) ∧ s5 ≤ wr.heap.size) (fun i _ => n - (intOf i).toNat)
    case atStart => exact ⟨0, [], st4, none, 0, Nat.zero_le _, rfl, rfl, hR0.out, hW.out, h32.out, hs5.out⟩
    case round =>
      clear hR0 hW h32
      obtain ⟨k, al, sx, A1, c1, hk, hal, rfl, hR, hE, hn32, hsr⟩ := hrel
      obtain ⟨hc1, hf1⟩ := RfS.flag hR.rf
      replace hal := hide hal
      cases sx with
      | none =>
        rw [left_none] at hE
        subst hE
        replace hc1 : wr.cell? ⟨m, 1, none⟩ = some (.bool true) := hc1
        obtain ⟨r0, r1, r2, r3, r4, r5⟩ := hR.rcell
        have f0 := frozen_at hR.res 0
        have f1 := frozen_at hR.res 1
        have f2 := frozen_at hR.res 2
        have f3 := frozen_at hR.res 3
        have f4 := frozen_at hR.res 4
        have f5 := frozen_at hR.res 5
        obtain ⟨w', hw', hU', hR', hS'⟩ := hR.told (.slice none 0 0) (.bool false) (.bool false) (.int .i64 0) (.int .i64 0) (.slice none 0 0) zeroS _ (fun w' _ _ => zeroS_at w' w0.heap.size)
        replace hU' := hide hU'
        replace hR' := hide hR'
        replace hS' := hide hS'
        replace hR := hide hR
        replace hw' := hide hw'
        clear hn32
        by_cases hlt2 : k < n
        · go_wp2_with fail
          refine bodyPost_ret (v := .agg #[.slice none 0 0, .bool false, .bool false, .int .i64 0, .int .i64 0, .slice none 0 0]) (by simp [results, Try.results32, go_sem, r0, r1, r2, r3, r4, r5]) rfl ?_
          rw [← hw'.out]
          refine ⟨_, rfl, hU'.out, ?_, ?_⟩
          · rw [hfin.out]; exact hR'.out
          · rw [hfin.out]; exact hS'.out
        · go_wp2_with fail
          refine bodyPost_ret (v := .agg #[.slice none 0 0, .bool false, .bool false, .int .i64 0, .int .i64 0, .slice none 0 0]) (by simp [results, Try.results32, go_sem, r0, r1, r2, r3, r4, r5]) rfl ?_
          rw [← hw'.out]
          refine ⟨_, rfl, hU'.out, ?_, ?_⟩
          · rw [hfin.out]; exact hR'.out
          · rw [hfin.out]; exact hS'.out
      | some l' =>
        replace hc1 : wr.cell? ⟨m, 1, none⟩ = some (.bool false) := hc1
        have hn' := hn32 (fun h => by cases h)
        by_cases hlt2 : k < n
        · rw [show n - k = (n - (k + 1)) + 1 by omega] at hE
          have hN := hide (fText_any D m (some l') wr hR.rf)
          replace hE := hide hE
          replace hR := hide hR
          clear hn32
          go_wp2_with fail
          refine hN.out.mono ?_
          rintro e w3 ⟨rfl, hU3, hr3⟩
          have hR3 := hR.out.read hU3 hr3
          obtain ⟨nm, s2, hs2⟩ : ∃ nm s2, read ByteArray.empty dtext (some l') = (nm, s2) := ⟨_, _, rfl⟩
          obtain ⟨ivx, s3, hs3⟩ : ∃ ivx s3, read zeroI dival s2 = (ivx, s3) := ⟨_, _, rfl⟩
          rw [hs2] at hR3
          replace hR3 : SumR w0 D m s5 (.slice Aa aL.length ca) aL en iv (.slice A1 k c1) (.slice A1 k c1) al s2 w3 := hR3
          rw [show (read ByteArray.empty dtext (some l')).1 = nm by rw [hs2]]
          have hE := hE.out
          have hs5 := hide (Nat.le_trans hsr hU3.size)
          replace hR3 := hide hR3
          replace hs2 := hide hs2
          replace hs3 := hide hs3
          clear hN hR hU3 hr3 hc1 hf1
          go_wp2_with fail
          refine wp_region_tide (SumF w0 m (.slice A1 k c1)) (factAt [(fun v _ => v = (.pointer (some ⟨w0.heap.size + 1, 5, none⟩))), (fun v _ => v = (.slice A1 k c1)), (fun v _ => v = (.string nm)), (fun v _ => v = (.pointer (some ⟨m, 0, none⟩))), (fun v w => IvF s3 ivx v), (fun v w => NamedF nm s3 ivx v), (fun v w => BuiltF (SumF w0 m (.slice A1 k c1)) nm s3 ivx v w), (fun v w => RowF k v), (fun v _ => v = (.pointer (some ⟨w0.heap.size + 1, 5, none⟩))), (fun _ _ => True)]) [none, none, none, none, some (fun _ w => SumR w0 D m s5 (.slice Aa aL.length ca) aL en iv (.slice A1 k c1) (.slice A1 k c1) al s3 w), none, none, some (fun v w => GrownF w0 D m s5 (.slice Aa aL.length ca) aL en iv (.slice A1 k c1) k al nm s3 ivx v w), none, some (fun _ w => StoredF w0 D m s5 (.slice Aa aL.length ca) aL en iv k al nm s3 ivx w)] (fun w => SumR w0 D m s5 (.slice Aa aL.length ca) aL en iv (.slice A1 k c1) (.slice A1 k c1) al s2 w) (fun w => w.cell? ⟨w0.heap.size + 1, 5, none⟩ = some (.slice A1 k c1)) 9 (by kernel_rfl) (fkept_at ⟨FKept.eq _, FKept.eq _, FKept.eq _, FKept.eq _, fun _ _ _ h _ => h, fun _ _ _ h _ => h, BuiltF.kept, fun _ _ _ h _ => h, FKept.eq _, FKept.triv, trivial⟩) (fun w w' h hb => SumR.below h hb) (fun w w' h hb => hb.cell (World.block_lt_of_cell? w _ h) ▸ h) (fun _ => by kernel_rfl) ⟨fun _ _ _ h hb => SumR.below h hb, GrownF.kept, StoredF.kept, trivial⟩ (by kernel_rfl) (by kernel_rfl) (by kernel_rfl) (by kernel_rfl) (Nat.le_of_ble_eq_true (by kernel_rfl)) ?_ (hR3.out.cell.2.2.2.2.2) ⟨?_, ?_, ?_, ?_, ?_, ?_, ?_, ?_, ?_, ?_, trivial⟩ ?_
          · exact hR3.out
          · intro T w Q hu hs hv hw hd ht
            have hx3 : T.getD 3 undef = (.pointer (some ⟨w0.heap.size + 1, 0, none⟩)) := hv 3 (by kernel_rfl)
            refine .inl ⟨wanted_none rfl, ?_⟩
            clear hd hv hu hs hw ht
            go_simp
            exact ⟨_, rfl, DstOk.some rfl, Below.refl _ _, rfl⟩
          · intro T w Q hu hs hv hw hd ht
            have hx43 : T.getD 43 undef = (.pointer (some ⟨w0.heap.size + 1, 5, none⟩)) := Deps.at 0 hd (by kernel_rfl)
            refine .inl ⟨wanted_none rfl, ?_⟩
            have hI : w.cell? ⟨w0.heap.size + 1, 5, none⟩ = some (.slice A1 k c1) := ht (by kernel_rfl)
            clear hd hv hu hs hw ht
            go_simp
            exact ⟨_, rfl, DstOk.some rfl, Below.refl _ _, rfl⟩
          · intro T w Q hu hs hv hw hd ht
            have hx6 : T.getD 6 undef = (.string nm) := hv 6 (by kernel_rfl)
            refine .inl ⟨wanted_none rfl, ?_⟩
            clear hd hv hu hs hw ht
            go_simp
            exact ⟨_, rfl, DstOk.some rfl, Below.refl _ _, rfl⟩
          · intro T w Q hu hs hv hw hd ht
            have hx0 : T.getD 0 undef = (.pointer (some ⟨m, 0, none⟩)) := hv 0 (by kernel_rfl)
            refine .inl ⟨wanted_none rfl, ?_⟩
            clear hd hv hu hs hw ht
            go_simp
            exact ⟨_, rfl, DstOk.some rfl, Below.refl _ _, rfl⟩
          · intro T w Q hu hs hv hw hd ht hc0
            have hc : (fun w => SumR w0 D m s5 (.slice Aa aL.length ca) aL en iv (.slice A1 k c1) (.slice A1 k c1) al s2 w) w := hc0
            have hx46 : T.getD 46 undef = (.pointer (some ⟨m, 0, none⟩)) := Deps.at 3 hd (by kernel_rfl)
            replace hc := hide hc
            refine .inl ⟨wanted_none rfl, ?_⟩
            have hN := fIval_any D m s2 w hc.out.rf
            rw [hs3.out] at hN
            replace hN := hide hN
            clear hd hv hu hs hw ht
            go_simp
            refine hN.out.mono ?_
            rintro e w2 ⟨x, rfl, hU, hR2, hx⟩
            have hq := hc.out.read hU hR2
            exact ⟨_, rfl, DstOk.some rfl, hU.mono fun _ _ h => .inl h, (by intros; exact hq.cell.2.2.2.2.2), IvF.of hx, hq⟩
          · intro T w Q hu hs hv hw hd ht
            have hx45 : T.getD 45 undef = (.string nm) := Deps.at 2 hd (by kernel_rfl)
            have hy45 := hx45
            rw [Array.getD_eq_getD_getElem?] at hy45
            have f47 : (fun (v : Value) (w : World) => IvF s3 ivx v) (T.getD 47 undef) w := Deps.at 4 hd (by kernel_rfl)
            generalize hx47 : T.getD 47 undef = x47 at f47
            replace f47 := hide f47
            have hy47 := hx47
            rw [Array.getD_eq_getD_getElem?] at hy47
            refine .inl ⟨wanted_none rfl, ?_⟩
            obtain ⟨x, rfl, hx⟩ := f47.out
            replace hx := hide hx
            unfold ivalV at hx47 hy47
            clear hd hv hu hs hw ht
            go_simp
            exact ⟨_, rfl, DstOk.some rfl, Below.refl _ _, NamedF.of hx.out⟩
          · intro T w Q hu hs hv hw hd ht
            have f48 : (fun (v : Value) (w : World) => NamedF nm s3 ivx v) (T.getD 48 undef) w := Deps.at 5 hd (by kernel_rfl)
            generalize hx48 : T.getD 48 undef = x48 at f48
            replace f48 := hide f48
            have hy48 := hx48
            rw [Array.getD_eq_getD_getElem?] at hy48
            refine .inl ⟨wanted_none rfl, ?_⟩
            obtain ⟨x, rfl, hx⟩ := f48.out
            replace hx := hide hx
            have hF : ¬ SumF w0 m (.slice A1 k c1) w.heap.size := by
              have h1 := hu.size
              have h2 := hR3.out
              have h3 := (Array.getElem?_eq_some_iff.1 h2.box).1
              have h4 := h2.hm
              rintro (h | h | h)
              · omega
              · omega
              · have := (World.ownsRow.lt h2.ms_ _ h).2; omega
            replace hF := hide hF
            clear hd hv hu hs hw ht
            go_simp
            refine ⟨_, rfl, DstOk.some rfl, (Below.refl _ w).alloc (Nat.le_refl _) _, BuiltF.of hF.out ?_ ?_ ?_ ?_ hx.out⟩
            all_goals simp [go_sem]; done
          · intro T w Q hu hs hv hw hd ht hc0
            have hc : (fun (w : World) => SumR w0 D m s5 (.slice Aa aL.length ca) aL en iv (.slice A1 k c1) (.slice A1 k c1) al s3 w) w := hc0
            have hx44 : T.getD 44 undef = (.slice A1 k c1) := Deps.at 1 hd (by kernel_rfl)
            have f49 : (fun (v : Value) (w : World) => BuiltF (SumF w0 m (.slice A1 k c1)) nm s3 ivx v w) (T.getD 49 undef) w := Deps.at 6 hd (by kernel_rfl)
            generalize hx49 : T.getD 49 undef = x49 at f49 hc
            replace f49 := hide f49
            replace hc := hide hc
            refine .inl ⟨wanted_none rfl, ?_⟩
            obtain ⟨g, x, rfl, hg, q0, q1, q2, q3, hx⟩ := f49.out
            replace hx := hide hx
            have hms := hc.out.ms_
            rw [hal.out] at hms
            have hsz : s5 ≤ w.heap.size := by
              have := hu.size
              have := hs5.out
              omega
            refine wp_append_own w (.tmp 44) (.tmp 49) 33 rfl s5 94 i0 (.agg #[.string .empty, .bool false, .int .i64 0, .int .i64 0]) 4 40 Try.underlying33 hi.out hz0.out hz1.out hz2.out rfl (by decide) (.slice A1 k c1) k ((al.map NamedD.cells).flatten) hx44 hms ⟨g, 0, none⟩ 1 1 [.string nm, .bool x.some, .int .i64 x.lo, .int .i64 x.hi] hx49 rfl (four_cells q0 q1 q2 q3) ?_ ?_ ?_ ?_ ?_
            · simp [Value.oneCell']
            · unfold maxLen; omega
            · omega
            · exact hsz
            intro v' w' he hgr hnn
            obtain ⟨A5, c5, rfl⟩ := own_slice he
            have hq := hc.out.grow hgr ⟨nm, x⟩ (by rw [hal.out]; exact he)
            exact ⟨_, rfl, DstOk.some rfl, .grown hgr fun k hk => .inr (.inr hk), (by intros; exact hq.cell.2.2.2.2.2), RowF.of, GrownF.of hx.out hq⟩
          · intro T w Q hu hs hv hw hd ht
            have hx3 : T.getD 3 undef = (.pointer (some ⟨w0.heap.size + 1, 0, none⟩)) := hv 3 (by kernel_rfl)
            refine .inl ⟨wanted_none rfl, ?_⟩
            clear hd hv hu hs hw ht
            go_simp
            exact ⟨_, rfl, DstOk.some rfl, Below.refl _ _, rfl⟩
          · intro T w Q hu hs hv hw hd ht hc0
            have hc : (fun (v : Value) (w : World) => GrownF w0 D m s5 (.slice Aa aL.length ca) aL en iv (.slice A1 k c1) k al nm s3 ivx v w) (T.getD 50 undef) w := hc0
            have f50 : (fun (v : Value) (w : World) => RowF k v) (T.getD 50 undef) w := Deps.at 7 hd (by kernel_rfl)
            generalize hx50 : T.getD 50 undef = x50 at f50 hc
            replace f50 := hide f50
            have hx51 : T.getD 51 undef = (.pointer (some ⟨w0.heap.size + 1, 5, none⟩)) := Deps.at 8 hd (by kernel_rfl)
            replace hc := hide hc
            refine .inl ⟨wanted_none rfl, ?_⟩
            obtain ⟨x, A5, c5, rfl, hx, hq⟩ := hc.out
            have hq5 := hide hq
            have hI := hq.cell.2.2.2.2.2
            have hfr := frozen_at hq.box 5
            replace hx := hide hx
            clear hd hv hu hs hw ht hc hc0 hq f50
            go_simp
            exact ⟨undef, fun _ => rfl, Upd.set w (F := SumF w0 m (.slice A1 k c1)) (a := ⟨w0.heap.size + 1, 5, none⟩) (.inr (.inl rfl)) _, trivial, StoredF.of hx.out hq5.out.store⟩
          intro T w hu hs hv hf hcur
          have hcur1 : (fun (w : World) => StoredF w0 D m s5 (.slice Aa aL.length ca) aL en iv k al nm s3 ivx w) w := hcur
          replace hcur1 := hcur1
          have hT : T = #[T.getD 0 undef, T.getD 1 undef, T.getD 2 undef, T.getD 3 undef, T.getD 4 undef, T.getD 5 undef, T.getD 6 undef, T.getD 7 undef, T.getD 8 undef, T.getD 9 undef, T.getD 10 undef, T.getD 11 undef, T.getD 12 undef, T.getD 13 undef, T.getD 14 undef, T.getD 15 undef, T.getD 16 undef, T.getD 17 undef, T.getD 18 undef, T.getD 19 undef, T.getD 20 undef, T.getD 21 undef, T.getD 22 undef, T.getD 23 undef, T.getD 24 undef, T.getD 25 undef, T.getD 26 undef, T.getD 27 undef, T.getD 28 undef, T.getD 29 undef, T.getD 30 undef, T.getD 31 undef, T.getD 32 undef, T.getD 33 undef, T.getD 34 undef, T.getD 35 undef, T.getD 36 undef, T.getD 37 undef, T.getD 38 undef, T.getD 39 undef, T.getD 40 undef, T.getD 41 undef, T.getD 42 undef, T.getD 43 undef, T.getD 44 undef, T.getD 45 undef, T.getD 46 undef, T.getD 47 undef, T.getD 48 undef, T.getD 49 undef, T.getD 50 undef, T.getD 51 undef, T.getD 52 undef, T.getD 53 undef, T.getD 54 undef, T.getD 55 undef, T.getD 56 undef, T.getD 57 undef] := expl hs
          rw [hT]
          clear hT
          rw [show T.getD 0 undef = (.pointer (some ⟨m, 0, none⟩)) from hv 0 (by kernel_rfl)]
          rw [hv 1 (by kernel_rfl)]
          rw [hv 2 (by kernel_rfl)]
          rw [show T.getD 3 undef = (.pointer (some ⟨w0.heap.size + 1, 0, none⟩)) from hv 3 (by kernel_rfl)]
          rw [hv 4 (by kernel_rfl)]
          rw [hv 5 (by kernel_rfl)]
          rw [show T.getD 6 undef = (.string nm) from hv 6 (by kernel_rfl)]
          rw [hv 7 (by kernel_rfl)]
          rw [hv 8 (by kernel_rfl)]
          rw [hv 9 (by kernel_rfl)]
          rw [hv 10 (by kernel_rfl)]
          rw [hv 11 (by kernel_rfl)]
          rw [hv 12 (by kernel_rfl)]
          rw [hv 13 (by kernel_rfl)]
          rw [hv 14 (by kernel_rfl)]
          rw [hv 15 (by kernel_rfl)]
          rw [hv 16 (by kernel_rfl)]
          rw [hv 17 (by kernel_rfl)]
          rw [hv 18 (by kernel_rfl)]
          rw [hv 19 (by kernel_rfl)]
          rw [hv 20 (by kernel_rfl)]
          rw [hv 21 (by kernel_rfl)]
          rw [hv 22 (by kernel_rfl)]
          rw [hv 23 (by kernel_rfl)]
          rw [hv 24 (by kernel_rfl)]
          rw [hv 25 (by kernel_rfl)]
          rw [hv 26 (by kernel_rfl)]
          rw [hv 27 (by kernel_rfl)]
          rw [hv 28 (by kernel_rfl)]
          rw [hv 29 (by kernel_rfl)]
          rw [hv 30 (by kernel_rfl)]
          rw [hv 31 (by kernel_rfl)]
          rw [hv 32 (by kernel_rfl)]
          rw [hv 33 (by kernel_rfl)]
          rw [hv 34 (by kernel_rfl)]
          rw [hv 35 (by kernel_rfl)]
          rw [hv 36 (by kernel_rfl)]
          rw [hv 37 (by kernel_rfl)]
          rw [hv 38 (by kernel_rfl)]
          rw [hv 39 (by kernel_rfl)]
          rw [hv 40 (by kernel_rfl)]
          rw [hv 41 (by kernel_rfl)]
          rw [hv 42 (by kernel_rfl)]
          rw [show T.getD 43 undef = (.pointer (some ⟨w0.heap.size + 1, 5, none⟩)) from hf 0 (by decide)]
          rw [show T.getD 44 undef = (.slice A1 k c1) from hf 1 (by decide)]
          rw [show T.getD 45 undef = (.string nm) from hf 2 (by decide)]
          rw [show T.getD 46 undef = (.pointer (some ⟨m, 0, none⟩)) from hf 3 (by decide)]
          rw [show T.getD 51 undef = (.pointer (some ⟨w0.heap.size + 1, 5, none⟩)) from hf 8 (by decide)]
          rw [hv 52 (by kernel_rfl)]
          rw [hv 53 (by kernel_rfl)]
          rw [hv 54 (by kernel_rfl)]
          rw [hv 55 (by kernel_rfl)]
          rw [hv 56 (by kernel_rfl)]
          rw [hv 57 (by kernel_rfl)]
          clear hf hs hv hcur
          simp only [getD_toArray, List.getD_cons_succ, List.getD_cons_zero]
          generalize T.getD 47 undef = y47
          generalize T.getD 48 undef = y48
          generalize T.getD 49 undef = y49
          generalize T.getD 50 undef = y50
          clear T
          replace hs5 := hide (Nat.le_trans hs5.out hu.size)
          obtain ⟨x, A5, c5, hx, hq⟩ := hcur1
          rw [left_named _ _ _ x (by rw [hs2.out, hs3.out]; exact hx), hs2.out, hs3.out] at hE
          replace hE := hide hE
          replace hq := hide hq
          replace hx := hide hx
          clear hu hs2 hs3 hR3
          go_wp2_with fail
          go_roundw
          case rel => exact ⟨k + 1, al ++ [⟨nm, x⟩], s3, A5, c5, by omega, by simp [hal.out], by go_num, hq.out, hE.out, fun _ => hn', hs5.out⟩
          case measure => simp [intOf]; omega
        · obtain rfl : k = n := by omega
          rw [Nat.sub_self, left_zero] at hE
          subst hE
          obtain ⟨q0, q1, q2, q3, q4, q5⟩ := hR.cell
          obtain ⟨r0, r1, r2, r3, r4, r5⟩ := hR.rcell
          have f0 := frozen_at hR.res 0
          have f1 := frozen_at hR.res 1
          have f2 := frozen_at hR.res 2
          have f3 := frozen_at hR.res 3
          have f4 := frozen_at hR.res 4
          have f5 := frozen_at hR.res 5
          obtain ⟨w', hw', hU', hR', hS'⟩ := hR.told (.slice Aa aL.length ca) (.bool en) (.bool iv.some) (.int .i64 iv.lo) (.int .i64 iv.hi) (.slice A1 k c1) ⟨aL, en, iv, al⟩ (.agg #[.slice Aa aL.length ca, .bool en, .bool iv.some, .int .i64 iv.lo, .int .i64 iv.hi, .slice A1 k c1]) (fun w' h1 h2 => ⟨_, _, rfl, ownsRow_base h1 (by omega), ownsRow_base h2 (by have := hR.hs; omega)⟩)
          replace hU' := hide hU'
          replace hR' := hide hR'
          replace hS' := hide hS'
          replace hR := hide hR
          replace hw' := hide hw'
          clear hn32
          go_wp2_with fail
          refine bodyPost_ret (v := .agg #[.slice Aa aL.length ca, .bool en, .bool iv.some, .int .i64 iv.lo, .int .i64 iv.hi, .slice A1 k c1]) (by simp [results, Try.results32, go_sem, r0, r1, r2, r3, r4, r5]) rfl ?_
          rw [← hw'.out]
          refine ⟨_, rfl, hU'.out, ?_, ?_⟩
          · rw [hfin.out]; exact hR'.out
          · rw [hfin.out]; exact hS'.out
  · have hcmp : (n0 : Int) < n := by omega
    have hmod : modAt n st4 = none := by
      cases st4 with
      | none => rfl
      | some r => exact if_neg (by rw [← hl0 r rfl]; exact hle)
    have hsum' := hsum.out
    rw [hmod] at hsum'
    obtain ⟨W, hW⟩ : ∃ W, left_ dnamed (n - 0) [] none = W := ⟨_, rfl⟩
    rw [show left_ dnamed n [] none = W from hW] at hsum'
    have hfin := hide hsum'
    have h32 := hide (show (none : Option (List UInt8)) ≠ none → n ≤ 4294967296 from fun h => absurd rfl h)
    replace hW := hide hW
    have hR0 := hide (hR5.read (Upd.set w5 (F := At m) (a := ⟨m, 1, none⟩) rfl (.bool true)) (RfS.fail hR5.rf))
    have hs5 := hide (show s5 ≤ (w5.setCell ⟨m, 1, none⟩ (.bool true)).heap.size from Nat.le_trans hs5.out (by simp [World.setCell]))
    clear hR5 hl0 hsum hsum' hmod hl4
    go_wp2_with fail
    replace hcmp := hide hcmp
    replace hle := hide hle
    clear hc0 hc1 hf1
    go_loopw [5] (fun i wr => ∃ (k : Nat) (al : List NamedD) (sx : Option (List UInt8)) (A1 : Option Addr) (c1 : Nat), k ≤ n ∧ al.length = k ∧ i = .int .u64 k ∧ SumR w0 D m s5 (.slice Aa aL.length ca) aL en iv (.slice A1 k c1) (.slice A1 k c1) al sx wr ∧ left_ dnamed (n - k) al sx = W ∧ (sx ≠ none → n ≤ 4294967296) ∧ s5 ≤ wr.heap.size) (fun i _ => n - (intOf i).toNat)
    case atStart => exact ⟨0, [], none, none, 0, Nat.zero_le _, rfl, rfl, hR0.out, hW.out, h32.out, hs5.out⟩
    case round =>
      clear hR0 hW h32
      obtain ⟨k, al, sx, A1, c1, hk, hal, rfl, hR, hE, hn32, hsr⟩ := hrel
      obtain ⟨hc1, hf1⟩ := RfS.flag hR.rf
      replace hal := hide hal
      cases sx with
      | none =>
        rw [left_none] at hE
        subst hE
        replace hc1 : wr.cell? ⟨m, 1, none⟩ = some (.bool true) := hc1
        obtain ⟨r0, r1, r2, r3, r4, r5⟩ := hR.rcell
        have f0 := frozen_at hR.res 0
        have f1 := frozen_at hR.res 1
        have f2 := frozen_at hR.res 2
        have f3 := frozen_at hR.res 3
        have f4 := frozen_at hR.res 4
        have f5 := frozen_at hR.res 5
        obtain ⟨w', hw', hU', hR', hS'⟩ := hR.told (.slice none 0 0) (.bool false) (.bool false) (.int .i64 0) (.int .i64 0) (.slice none 0 0) zeroS _ (fun w' _ _ => zeroS_at w' w0.heap.size)
        replace hU' := hide hU'
        replace hR' := hide hR'
        replace hS' := hide hS'
        replace hR := hide hR
        replace hw' := hide hw'
        clear hn32
        by_cases hlt2 : k < n
        · go_wp2_with fail
          refine bodyPost_ret (v := .agg #[.slice none 0 0, .bool false, .bool false, .int .i64 0, .int .i64 0, .slice none 0 0]) (by simp [results, Try.results32, go_sem, r0, r1, r2, r3, r4, r5]) rfl ?_
          rw [← hw'.out]
          refine ⟨_, rfl, hU'.out, ?_, ?_⟩
          · rw [hfin.out]; exact hR'.out
          · rw [hfin.out]; exact hS'.out
        · go_wp2_with fail
          refine bodyPost_ret (v := .agg #[.slice none 0 0, .bool false, .bool false, .int .i64 0, .int .i64 0, .slice none 0 0]) (by simp [results, Try.results32, go_sem, r0, r1, r2, r3, r4, r5]) rfl ?_
          rw [← hw'.out]
          refine ⟨_, rfl, hU'.out, ?_, ?_⟩
          · rw [hfin.out]; exact hR'.out
          · rw [hfin.out]; exact hS'.out
      | some l' =>
        replace hc1 : wr.cell? ⟨m, 1, none⟩ = some (.bool false) := hc1
        have hn' := hn32 (fun h => by cases h)
        by_cases hlt2 : k < n
        · rw [show n - k = (n - (k + 1)) + 1 by omega] at hE
          have hN := hide (fText_any D m (some l') wr hR.rf)
          replace hE := hide hE
          replace hR := hide hR
          clear hn32
          go_wp2_with fail
          refine hN.out.mono ?_
          rintro e w3 ⟨rfl, hU3, hr3⟩
          have hR3 := hR.out.read hU3 hr3
          obtain ⟨nm, s2, hs2⟩ : ∃ nm s2, read ByteArray.empty dtext (some l') = (nm, s2) := ⟨_, _, rfl⟩
          obtain ⟨ivx, s3, hs3⟩ : ∃ ivx s3, read zeroI dival s2 = (ivx, s3) := ⟨_, _, rfl⟩
          rw [hs2] at hR3
          replace hR3 : SumR w0 D m s5 (.slice Aa aL.length ca) aL en iv (.slice A1 k c1) (.slice A1 k c1) al s2 w3 := hR3
          rw [show (read ByteArray.empty dtext (some l')).1 = nm by rw [hs2]]
          have hE := hE.out
          have hs5 := hide (Nat.le_trans hsr hU3.size)
          replace hR3 := hide hR3
          replace hs2 := hide hs2
          replace hs3 := hide hs3
          clear hN hR hU3 hr3 hc1 hf1
          go_wp2_with fail
          refine wp_region_tide (SumF w0 m (.slice A1 k c1)) (factAt [(fun v _ => v = (.pointer (some ⟨w0.heap.size + 1, 5, none⟩))), (fun v _ => v = (.slice A1 k c1)), (fun v _ => v = (.string nm)), (fun v _ => v = (.pointer (some ⟨m, 0, none⟩))), (fun v w => IvF s3 ivx v), (fun v w => NamedF nm s3 ivx v), (fun v w => BuiltF (SumF w0 m (.slice A1 k c1)) nm s3 ivx v w), (fun v w => RowF k v), (fun v _ => v = (.pointer (some ⟨w0.heap.size + 1, 5, none⟩))), (fun _ _ => True)]) [none, none, none, none, some (fun _ w => SumR w0 D m s5 (.slice Aa aL.length ca) aL en iv (.slice A1 k c1) (.slice A1 k c1) al s3 w), none, none, some (fun v w => GrownF w0 D m s5 (.slice Aa aL.length ca) aL en iv (.slice A1 k c1) k al nm s3 ivx v w), none, some (fun _ w => StoredF w0 D m s5 (.slice Aa aL.length ca) aL en iv k al nm s3 ivx w)] (fun w => SumR w0 D m s5 (.slice Aa aL.length ca) aL en iv (.slice A1 k c1) (.slice A1 k c1) al s2 w) (fun w => w.cell? ⟨w0.heap.size + 1, 5, none⟩ = some (.slice A1 k c1)) 9 (by kernel_rfl) (fkept_at ⟨FKept.eq _, FKept.eq _, FKept.eq _, FKept.eq _, fun _ _ _ h _ => h, fun _ _ _ h _ => h, BuiltF.kept, fun _ _ _ h _ => h, FKept.eq _, FKept.triv, trivial⟩) (fun w w' h hb => SumR.below h hb) (fun w w' h hb => hb.cell (World.block_lt_of_cell? w _ h) ▸ h) (fun _ => by kernel_rfl) ⟨fun _ _ _ h hb => SumR.below h hb, GrownF.kept, StoredF.kept, trivial⟩ (by kernel_rfl) (by kernel_rfl) (by kernel_rfl) (by kernel_rfl) (Nat.le_of_ble_eq_true (by kernel_rfl)) ?_ (hR3.out.cell.2.2.2.2.2) ⟨?_, ?_, ?_, ?_, ?_, ?_, ?_, ?_, ?_, ?_, trivial⟩ ?_
          · exact hR3.out
          · intro T w Q hu hs hv hw hd ht
            have hx3 : T.getD 3 undef = (.pointer (some ⟨w0.heap.size + 1, 0, none⟩)) := hv 3 (by kernel_rfl)
            refine .inl ⟨wanted_none rfl, ?_⟩
            clear hd hv hu hs hw ht
            go_simp
            exact ⟨_, rfl, DstOk.some rfl, Below.refl _ _, rfl⟩
          · intro T w Q hu hs hv hw hd ht
            have hx43 : T.getD 43 undef = (.pointer (some ⟨w0.heap.size + 1, 5, none⟩)) := Deps.at 0 hd (by kernel_rfl)
            refine .inl ⟨wanted_none rfl, ?_⟩
            have hI : w.cell? ⟨w0.heap.size + 1, 5, none⟩ = some (.slice A1 k c1) := ht (by kernel_rfl)
            clear hd hv hu hs hw ht
            go_simp
            exact ⟨_, rfl, DstOk.some rfl, Below.refl _ _, rfl⟩
          · intro T w Q hu hs hv hw hd ht
            have hx6 : T.getD 6 undef = (.string nm) := hv 6 (by kernel_rfl)
            refine .inl ⟨wanted_none rfl, ?_⟩
            clear hd hv hu hs hw ht
            go_simp
            exact ⟨_, rfl, DstOk.some rfl, Below.refl _ _, rfl⟩
          · intro T w Q hu hs hv hw hd ht
            have hx0 : T.getD 0 undef = (.pointer (some ⟨m, 0, none⟩)) := hv 0 (by kernel_rfl)
            refine .inl ⟨wanted_none rfl, ?_⟩
            clear hd hv hu hs hw ht
            go_simp
            exact ⟨_, rfl, DstOk.some rfl, Below.refl _ _, rfl⟩
          · intro T w Q hu hs hv hw hd ht hc0
            have hc : (fun w => SumR w0 D m s5 (.slice Aa aL.length ca) aL en iv (.slice A1 k c1) (.slice A1 k c1) al s2 w) w := hc0
            have hx46 : T.getD 46 undef = (.pointer (some ⟨m, 0, none⟩)) := Deps.at 3 hd (by kernel_rfl)
            replace hc := hide hc
            refine .inl ⟨wanted_none rfl, ?_⟩
            have hN := fIval_any D m s2 w hc.out.rf
            rw [hs3.out] at hN
            replace hN := hide hN
            clear hd hv hu hs hw ht
            go_simp
            refine hN.out.mono ?_
            rintro e w2 ⟨x, rfl, hU, hR2, hx⟩
            have hq := hc.out.read hU hR2
            exact ⟨_, rfl, DstOk.some rfl, hU.mono fun _ _ h => .inl h, (by intros; exact hq.cell.2.2.2.2.2), IvF.of hx, hq⟩
          · intro T w Q hu hs hv hw hd ht
            have hx45 : T.getD 45 undef = (.string nm) := Deps.at 2 hd (by kernel_rfl)
            have hy45 := hx45
            rw [Array.getD_eq_getD_getElem?] at hy45
            have f47 : (fun (v : Value) (w : World) => IvF s3 ivx v) (T.getD 47 undef) w := Deps.at 4 hd (by kernel_rfl)
            generalize hx47 : T.getD 47 undef = x47 at f47
            replace f47 := hide f47
            have hy47 := hx47
            rw [Array.getD_eq_getD_getElem?] at hy47
            refine .inl ⟨wanted_none rfl, ?_⟩
            obtain ⟨x, rfl, hx⟩ := f47.out
            replace hx := hide hx
            unfold ivalV at hx47 hy47
            clear hd hv hu hs hw ht
            go_simp
            exact ⟨_, rfl, DstOk.some rfl, Below.refl _ _, NamedF.of hx.out⟩
          · intro T w Q hu hs hv hw hd ht
            have f48 : (fun (v : Value) (w : World) => NamedF nm s3 ivx v) (T.getD 48 undef) w := Deps.at 5 hd (by kernel_rfl)
            generalize hx48 : T.getD 48 undef = x48 at f48
            replace f48 := hide f48
            have hy48 := hx48
            rw [Array.getD_eq_getD_getElem?] at hy48
            refine .inl ⟨wanted_none rfl, ?_⟩
            obtain ⟨x, rfl, hx⟩ := f48.out
            replace hx := hide hx
            have hF : ¬ SumF w0 m (.slice A1 k c1) w.heap.size := by
              have h1 := hu.size
              have h2 := hR3.out
              have h3 := (Array.getElem?_eq_some_iff.1 h2.box).1
              have h4 := h2.hm
              rintro (h | h | h)
              · omega
              · omega
              · have := (World.ownsRow.lt h2.ms_ _ h).2; omega
            replace hF := hide hF
            clear hd hv hu hs hw ht
            go_simp
            refine ⟨_, rfl, DstOk.some rfl, (Below.refl _ w).alloc (Nat.le_refl _) _, BuiltF.of hF.out ?_ ?_ ?_ ?_ hx.out⟩
            all_goals simp [go_sem]; done
          · intro T w Q hu hs hv hw hd ht hc0
            have hc : (fun (w : World) => SumR w0 D m s5 (.slice Aa aL.length ca) aL en iv (.slice A1 k c1) (.slice A1 k c1) al s3 w) w := hc0
            have hx44 : T.getD 44 undef = (.slice A1 k c1) := Deps.at 1 hd (by kernel_rfl)
            have f49 : (fun (v : Value) (w : World) => BuiltF (SumF w0 m (.slice A1 k c1)) nm s3 ivx v w) (T.getD 49 undef) w := Deps.at 6 hd (by kernel_rfl)
            generalize hx49 : T.getD 49 undef = x49 at f49 hc
            replace f49 := hide f49
            replace hc := hide hc
            refine .inl ⟨wanted_none rfl, ?_⟩
            obtain ⟨g, x, rfl, hg, q0, q1, q2, q3, hx⟩ := f49.out
            replace hx := hide hx
            have hms := hc.out.ms_
            rw [hal.out] at hms
            have hsz : s5 ≤ w.heap.size := by
              have := hu.size
              have := hs5.out
              omega
            refine wp_append_own w (.tmp 44) (.tmp 49) 33 rfl s5 94 i0 (.agg #[.string .empty, .bool false, .int .i64 0, .int .i64 0]) 4 40 Try.underlying33 hi.out hz0.out hz1.out hz2.out rfl (by decide) (.slice A1 k c1) k ((al.map NamedD.cells).flatten) hx44 hms ⟨g, 0, none⟩ 1 1 [.string nm, .bool x.some, .int .i64 x.lo, .int .i64 x.hi] hx49 rfl (four_cells q0 q1 q2 q3) ?_ ?_ ?_ ?_ ?_
            · simp [Value.oneCell']
            · unfold maxLen; omega
            · omega
            · exact hsz
            intro v' w' he hgr hnn
            obtain ⟨A5, c5, rfl⟩ := own_slice he
            have hq := hc.out.grow hgr ⟨nm, x⟩ (by rw [hal.out]; exact he)
            exact ⟨_, rfl, DstOk.some rfl, .grown hgr fun k hk => .inr (.inr hk), (by intros; exact hq.cell.2.2.2.2.2), RowF.of, GrownF.of hx.out hq⟩
          · intro T w Q hu hs hv hw hd ht
            have hx3 : T.getD 3 undef = (.pointer (some ⟨w0.heap.size + 1, 0, none⟩)) := hv 3 (by kernel_rfl)
            refine .inl ⟨wanted_none rfl, ?_⟩
            clear hd hv hu hs hw ht
            go_simp
            exact ⟨_, rfl, DstOk.some rfl, Below.refl _ _, rfl⟩
          · intro T w Q hu hs hv hw hd ht hc0
            have hc : (fun (v : Value) (w : World) => GrownF w0 D m s5 (.slice Aa aL.length ca) aL en iv (.slice A1 k c1) k al nm s3 ivx v w) (T.getD 50 undef) w := hc0
            have f50 : (fun (v : Value) (w : World) => RowF k v) (T.getD 50 undef) w := Deps.at 7 hd (by kernel_rfl)
            generalize hx50 : T.getD 50 undef = x50 at f50 hc
            replace f50 := hide f50
            have hx51 : T.getD 51 undef = (.pointer (some ⟨w0.heap.size + 1, 5, none⟩)) := Deps.at 8 hd (by kernel_rfl)
            replace hc := hide hc
            refine .inl ⟨wanted_none rfl, ?_⟩
            obtain ⟨x, A5, c5, rfl, hx, hq⟩ := hc.out
            have hq5 := hide hq
            have hI := hq.cell.2.2.2.2.2
            have hfr := frozen_at hq.box 5
            replace hx := hide hx
            clear hd hv hu hs hw ht hc hc0 hq f50
            go_simp
            exact ⟨undef, fun _ => rfl, Upd.set w (F := SumF w0 m (.slice A1 k c1)) (a := ⟨w0.heap.size + 1, 5, none⟩) (.inr (.inl rfl)) _, trivial, StoredF.of hx.out hq5.out.store⟩
          intro T w hu hs hv hf hcur
          have hcur1 : (fun (w : World) => StoredF w0 D m s5 (.slice Aa aL.length ca) aL en iv k al nm s3 ivx w) w := hcur
          replace hcur1 := hcur1
          have hT : T = #[T.getD 0 undef, T.getD 1 undef, T.getD 2 undef, T.getD 3 undef, T.getD 4 undef, T.getD 5 undef, T.getD 6 undef, T.getD 7 undef, T.getD 8 undef, T.getD 9 undef, T.getD 10 undef, T.getD 11 undef, T.getD 12 undef, T.getD 13 undef, T.getD 14 undef, T.getD 15 undef, T.getD 16 undef, T.getD 17 undef, T.getD 18 undef, T.getD 19 undef, T.getD 20 undef, T.getD 21 undef, T.getD 22 undef, T.getD 23 undef, T.getD 24 undef, T.getD 25 undef, T.getD 26 undef, T.getD 27 undef, T.getD 28 undef, T.getD 29 undef, T.getD 30 undef, T.getD 31 undef, T.getD 32 undef, T.getD 33 undef, T.getD 34 undef, T.getD 35 undef, T.getD 36 undef, T.getD 37 undef, T.getD 38 undef, T.getD 39 undef, T.getD 40 undef, T.getD 41 undef, T.getD 42 undef, T.getD 43 undef, T.getD 44 undef, T.getD 45 undef, T.getD 46 undef, T.getD 47 undef, T.getD 48 undef, T.getD 49 undef, T.getD 50 undef, T.getD 51 undef, T.getD 52 undef, T.getD 53 undef, T.getD 54 undef, T.getD 55 undef, T.getD 56 undef, T.getD 57 undef] := expl hs
          rw [hT]
          clear hT
          rw [show T.getD 0 undef = (.pointer (some ⟨m, 0, none⟩)) from hv 0 (by kernel_rfl)]
          rw [hv 1 (by kernel_rfl)]
          rw [hv 2 (by kernel_rfl)]
          rw [show T.getD 3 undef = (.pointer (some ⟨w0.heap.size + 1, 0, none⟩)) from hv 3 (by kernel_rfl)]
          rw [hv 4 (by kernel_rfl)]
          rw [hv 5 (by kernel_rfl)]
          rw [show T.getD 6 undef = (.string nm) from hv 6 (by kernel_rfl)]
          rw [hv 7 (by kernel_rfl)]
          rw [hv 8 (by kernel_rfl)]
          rw [hv 9 (by kernel_rfl)]
          rw [hv 10 (by kernel_rfl)]
          rw [hv 11 (by kernel_rfl)]
          rw [hv 12 (by kernel_rfl)]
          rw [hv 13 (by kernel_rfl)]
          rw [hv 14 (by kernel_rfl)]
          rw [hv 15 (by kernel_rfl)]
          rw [hv 16 (by kernel_rfl)]
          rw [hv 17 (by kernel_rfl)]
          rw [hv 18 (by kernel_rfl)]
          rw [hv 19 (by kernel_rfl)]
          rw [hv 20 (by kernel_rfl)]
          rw [hv 21 (by kernel_rfl)]
          rw [hv 22 (by kernel_rfl)]
          rw [hv 23 (by kernel_rfl)]
          rw [hv 24 (by kernel_rfl)]
          rw [hv 25 (by kernel_rfl)]
          rw [hv 26 (by kernel_rfl)]
          rw [hv 27 (by kernel_rfl)]
          rw [hv 28 (by kernel_rfl)]
          rw [hv 29 (by kernel_rfl)]
          rw [hv 30 (by kernel_rfl)]
          rw [hv 31 (by kernel_rfl)]
          rw [hv 32 (by kernel_rfl)]
          rw [hv 33 (by kernel_rfl)]
          rw [hv 34 (by kernel_rfl)]
          rw [hv 35 (by kernel_rfl)]
          rw [hv 36 (by kernel_rfl)]
          rw [hv 37 (by kernel_rfl)]
          rw [hv 38 (by kernel_rfl)]
          rw [hv 39 (by kernel_rfl)]
          rw [hv 40 (by kernel_rfl)]
          rw [hv 41 (by kernel_rfl)]
          rw [hv 42 (by kernel_rfl)]
          rw [show T.getD 43 undef = (.pointer (some ⟨w0.heap.size + 1, 5, none⟩)) from hf 0 (by decide)]
          rw [show T.getD 44 undef = (.slice A1 k c1) from hf 1 (by decide)]
          rw [show T.getD 45 undef = (.string nm) from hf 2 (by decide)]
          rw [show T.getD 46 undef = (.pointer (some ⟨m, 0, none⟩)) from hf 3 (by decide)]
          rw [show T.getD 51 undef = (.pointer (some ⟨w0.heap.size + 1, 5, none⟩)) from hf 8 (by decide)]
          rw [hv 52 (by kernel_rfl)]
          rw [hv 53 (by kernel_rfl)]
          rw [hv 54 (by kernel_rfl)]
          rw [hv 55 (by kernel_rfl)]
          rw [hv 56 (by kernel_rfl)]
          rw [hv 57 (by kernel_rfl)]
          clear hf hs hv hcur
          simp only [getD_toArray, List.getD_cons_succ, List.getD_cons_zero]
          generalize T.getD 47 undef = y47
          generalize T.getD 48 undef = y48
          generalize T.getD 49 undef = y49
          generalize T.getD 50 undef = y50
          clear T
          replace hs5 := hide (Nat.le_trans hs5.out hu.size)
          obtain ⟨x, A5, c5, hx, hq⟩ := hcur1
          rw [left_named _ _ _ x (by rw [hs2.out, hs3.out]; exact hx), hs2.out, hs3.out] at hE
          replace hE := hide hE
          replace hq := hide hq
          replace hx := hide hx
          clear hu hs2 hs3 hR3
          go_wp2_with fail
          go_roundw
          case rel => exact ⟨k + 1, al ++ [⟨nm, x⟩], s3, A5, c5, by omega, by simp [hal.out], by go_num, hq.out, hE.out, fun _ => hn', hs5.out⟩
          case measure => simp [intOf]; omega
        · obtain rfl : k = n := by omega
          rw [Nat.sub_self, left_zero] at hE
          subst hE
          obtain ⟨q0, q1, q2, q3, q4, q5⟩ := hR.cell
          obtain ⟨r0, r1, r2, r3, r4, r5⟩ := hR.rcell
          have f0 := frozen_at hR.res 0
          have f1 := frozen_at hR.res 1
          have f2 := frozen_at hR.res 2
          have f3 := frozen_at hR.res 3
          have f4 := frozen_at hR.res 4
          have f5 := frozen_at hR.res 5
          obtain ⟨w', hw', hU', hR', hS'⟩ := hR.told (.slice Aa aL.length ca) (.bool en) (.bool iv.some) (.int .i64 iv.lo) (.int .i64 iv.hi) (.slice A1 k c1) ⟨aL, en, iv, al⟩ (.agg #[.slice Aa aL.length ca, .bool en, .bool iv.some, .int .i64 iv.lo, .int .i64 iv.hi, .slice A1 k c1]) (fun w' h1 h2 => ⟨_, _, rfl, ownsRow_base h1 (by omega), ownsRow_base h2 (by have := hR.hs; omega)⟩)
          replace hU' := hide hU'
          replace hR' := hide hR'
          replace hS' := hide hS'
          replace hR := hide hR
          replace hw' := hide hw'
          clear hn32
          go_wp2_with fail
          refine bodyPost_ret (v := .agg #[.slice Aa aL.length ca, .bool en, .bool iv.some, .int .i64 iv.lo, .int .i64 iv.hi, .slice A1 k c1]) (by simp [results, Try.results32, go_sem, r0, r1, r2, r3, r4, r5]) rfl ?_
          rw [← hw'.out]
          refine ⟨_, rfl, hU'.out, ?_, ?_⟩
          · rw [hfin.out]; exact hR'.out
          · rw [hfin.out]; exact hS'.out
end Go.Proofs.Ytajpgkedlajjdaa
