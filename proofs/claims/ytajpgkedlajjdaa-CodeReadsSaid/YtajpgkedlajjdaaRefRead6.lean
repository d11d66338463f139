/- Walks of the document's reader: alarms. -/
import Derived.Test.YtajpgkedlajjdaaRefRead5
namespace Go.Proofs.Ytajpgkedlajjdaa
open Go.RowKit

def endA (W : Option (List AlarmD × List UInt8)) : List AlarmD × Option (List UInt8) := match W with | some (a, r) => (a, some r) | none => ([], none)

set_option maxRecDepth 100000 in
set_option maxHeartbeats 3200000 in
theorem fAlarms_any (D m : Nat) (st : Option (List UInt8)) (w : World) (hR : RfS w D m st) (hD : D ≤ m) (hl : ∀ l, (read 0 dnum0 st).2 = some l → l.length ≤ 4294967296) :
    Calls Try.prog 57 #[.pointer (some ⟨m, 0, none⟩)] w fun e w' => ∃ v, e = .returned v ∧ Upd (At m) w w' ∧ RfS w' D m (read [] dalarms st).2 ∧ w'.ownsRow w.heap.size 62 2 v (read [] dalarms st).1.length ((read [] dalarms st).1.map AlarmD.cells).flatten := by
  have hN := fNum_any D m st w hR
  have hn := read_num_lt st
  have hlt := hide hR.lt
  have hDm := hide hD
  obtain ⟨n, st1, hx⟩ : ∃ n st1, read 0 dnum0 st = (n, st1) := ⟨_, _, rfl⟩
  have hnz : st1 = none → n = 0 := fun h => by
    have h2 : (read 0 dnum0 st).2 = none := by rw [hx]; exact h
    have h3 : (read 0 dnum0 st).1 = 0 := by
      unfold read at h2 ⊢
      cases hd : st.bind dnum0 with
      | none => rfl
      | some x => rw [hd] at h2; cases h2
    rw [hx] at h3; exact h3
  rw [hx] at hN hn hl
  simp only at hn hl
  obtain ⟨i0, hi, hz0, hz1, hz2⟩ := info_parts alarm_info
  replace hi := hide hi
  replace hz0 := hide hz0
  replace hz1 := hide hz1
  replace hz2 := hide hz2
  replace hx := hide hx
  replace hnz := hide hnz
  replace hl := hide hl
  clear hR
  go_enter Try.func57, Try.ntmps57
  go_wp2_with fail
  refine hN.mono ?_
  rintro e w2 ⟨rfl, hU, hR2⟩
  unfold u64v
  obtain ⟨A0, n0, c0, hc0, hn0, hm0, hl0⟩ := RfS.slice hR2
  obtain ⟨hc1, hf1⟩ := RfS.flag hR2
  unfold maxLen at hm0
  by_cases hle : n ≤ n0
  · have hcmp : ¬ (n0 : Int) < n := by omega
    have hdec : decide (n0 < n) = false := decide_eq_false (by omega)
    obtain ⟨W, hW⟩ : ∃ W, left_ dalarm (n - 0) [] st1 = W := ⟨_, rfl⟩
    have hfin : read [] dalarms st = endA W := by
      cases st1 with
      | none => rw [read_alarms_none st (by rw [hx.out]), ← hW]; rfl
      | some r => rw [read_alarms_some hx.out (by rw [← hl0 r rfl]; exact hle), ← hW]; rfl
    have h32 : st1 ≠ none → n ≤ 4294967296 := fun h => by
      cases st1 with
      | none => exact absurd rfl h
      | some r => have := hl.out r rfl; have := hl0 r rfl; omega
    replace hfin := hide hfin
    replace hW := hide hW
    replace h32 := hide h32
    have hU0 := hide hU
    have hR0 := hide hR2
    clear hU hR2 hl0 hx hnz hl
    clear hcmp
    go_wp2_with fail
    replace hdec := hide hdec
    replace hle := hide hle
    clear hc0 hc1 hf1
    go_loopw [4, 5] (fun v i wr => ∃ (k : Nat) (al : List AlarmD) (sx : Option (List UInt8)) (A1 : Option Addr) (c1 : Nat), k ≤ n ∧ al.length = k ∧ v = .slice A1 k c1 ∧ i = .int .u64 k ∧ Upd (At m) w wr ∧ RfS wr D m sx ∧ wr.ownsRow w.heap.size 62 2 (.slice A1 k c1) k (al.map AlarmD.cells).flatten ∧ left_ dalarm (n - k) al sx = W ∧ (sx ≠ none → n ≤ 4294967296)) (fun _ i _ => n - (intOf i).toNat)
    case atStart => exact ⟨0, [], st1, none, 0, Nat.zero_le _, rfl, rfl, rfl, hU0.out, hR0.out, World.ownsRow_nil _ _ _ _, hW.out, h32.out⟩
    case round =>
      clear hU0 hR0 hW h32
      obtain ⟨k, al, sx, A1, c1, hk, hal, rfl, rfl, hU, hR, hO, hE, hn32⟩ := hrel
      obtain ⟨hc1, hf1⟩ := RfS.flag hR
      replace hO := hide hO
      replace hU := hide hU
      have hfarp : ∀ g, Value.ownBlock (.slice A1 k c1) = some g → w.heap.size ≤ g := fun g hg => (World.ownsRow.lt hO.out g hg).1
      replace hfarp := hide hfarp
      replace hal := hide hal
      cases sx with
      | none =>
        rw [left_none] at hE
        subst hE
        replace hc1 : wr.cell? ⟨m, 1, none⟩ = some (.bool true) := hc1
        replace hR := hide hR
        clear hn32
        by_cases hlt2 : k < n
        · go_wp2_with fail
          go_ret
          refine ⟨_, rfl, hU.out, ?_, ?_⟩
          · rw [hfin.out]; exact hR.out
          · rw [hfin.out]; exact World.ownsRow_nil _ _ _ _
        · go_wp2_with fail
          go_ret
          refine ⟨_, rfl, hU.out, ?_, ?_⟩
          · rw [hfin.out]; exact hR.out
          · rw [hfin.out]; exact World.ownsRow_nil _ _ _ _
      | some l' =>
        replace hc1 : wr.cell? ⟨m, 1, none⟩ = some (.bool false) := hc1
        have hn' := hn32 (fun h => by cases h)
        by_cases hlt2 : k < n
        · rw [show n - k = (n - (k + 1)) + 1 by omega, left_alarm] at hE
          replace hE := hide hE
          clear hn32
          go_wp2_with fail
          refine (fSmall_any D m (some l') _ hR).mono ?_
          rintro e w3 ⟨rfl, hU3, hR3⟩
          have hO3 := hide (hU3.own hO.out fun g hg e => by have := hfarp.out g hg; have := hlt.out; have : g = m := e; omega)
          replace hU3 := hide (hU.out.then hU3)
          have hE3 := hE.out
          clear hE hO hU hc1 hf1
          generalize read 0 dsmall (some l') = x1 at *
          obtain ⟨a1, s1⟩ := x1
          simp only at hE3 hR3
          replace hE3 := hide hE3
          unfold i64v
          go_wp2_with fail
          refine (fSmall_any D m s1 _ hR3).mono ?_
          rintro e w4 ⟨rfl, hU4, hR4⟩
          have hO4 := hide (hU4.own hO3.out fun g hg e => by have := hfarp.out g hg; have := hlt.out; have : g = m := e; omega)
          replace hU4 := hide (hU3.out.then hU4)
          have hE4 := hE3.out
          clear hE3 hO3 hU3 hR3
          generalize read 0 dsmall s1 = x2 at *
          obtain ⟨a2, s2⟩ := x2
          simp only at hE4 hR4
          replace hE4 := hide hE4
          replace hR4 := hide hR4
          unfold i64v
          go_wp2_with (
            at_builtin
            refine wpList_append_own _ rfl (.tmp 37) (.tmp 41) 30 rfl w.heap.size 62 i0 (.agg #[.int .i64 0, .int .i64 0]) 2 16 Try.underlying30 hi.out hz0.out hz1.out hz2.out rfl (by decide) (.slice A1 k c1) k ((al.map AlarmD.cells).flatten) rfl ?_ ⟨w4.heap.size, 0, none⟩ 1 1 [.int .i64 a1, .int .i64 a2] rfl rfl (two_cells ?_ ?_) ?_ ?_ ?_ ?_ ?_
            · exact hO4.out.alloc _
            · simp [go_sem]; done
            · simp [go_sem]; done
            · simp [Value.oneCell']
            · unfold maxLen; omega
            · omega
            · exact Nat.le_trans hU4.out.size (by simp)
            intro ve' w5 he5 hg5 hnn5
            obtain ⟨A5, c5, rfl⟩ : ∃ A c, ve' = .slice A (k + 1) c := by
              rcases he5.2 with ⟨_, h⟩ | ⟨g, cap, cur, h, _⟩
              · omega
              · exact ⟨_, _, h⟩)
          go_roundw
          case rel =>
            refine ⟨k + 1, al ++ [⟨a1, a2⟩], s2, A5, c5, by omega, by simp [hal.out], rfl, by go_num, ?_, ?_, ?_, hE4.out, fun _ => hn'⟩
            · exact (hU4.out.then (.alloc _ _ _)).trans (.grown (F := fun g => Value.ownBlock (.slice A1 k c1) = some g) hg5 fun g hg => hg) fun g hg hf => by have := hfarp.out g hf; omega
            · refine (hR4.out.upd (.alloc (fun _ => False) _ _) id fun _ _ => id).upd (.grown (F := fun g => Value.ownBlock (.slice A1 k c1) = some g) hg5 fun g hg => hg) (fun hf => ?_) fun g hg hf => ?_
              · have := hfarp.out m hf; have := hlt.out; omega
              · have := hfarp.out g hf; have := hlt.out; have := hDm.out; omega
            · have e5 : ((al ++ [(⟨a1, a2⟩ : AlarmD)]).map AlarmD.cells).flatten = (al.map AlarmD.cells).flatten ++ [.int .i64 a1, .int .i64 a2] := by simp [AlarmD.cells]
              rw [e5]; exact he5
          case measure => simp [intOf]; omega
        · obtain rfl : k = n := by omega
          rw [Nat.sub_self, left_zero] at hE
          subst hE
          replace hR := hide hR
          clear hn32
          go_wp2_with fail
          go_ret
          refine ⟨_, rfl, hU.out, ?_, ?_⟩
          · rw [hfin.out]; exact hR.out
          · rw [hfin.out]
            show wr.ownsRow w.heap.size 62 2 _ al.length _
            rw [hal.out]; exact hO.out
  · have hcmp : (n0 : Int) < n := by omega
    obtain ⟨W, hW⟩ : ∃ W, left_ dalarm (n - 0) [] none = W := ⟨_, rfl⟩
    have hfin : read [] dalarms st = endA W := by
      cases st1 with
      | none => exact absurd (hnz.out rfl) (by omega)
      | some r => rw [read_alarms_great hx.out (by rw [← hl0 r rfl]; exact hle), ← hW]; rfl
    have h32 := hide (show (none : Option (List UInt8)) ≠ none → n ≤ 4294967296 from fun h => absurd rfl h)
    replace hfin := hide hfin
    replace hW := hide hW
    have hU0 := hide (hU.then (Upd.set w2 (F := At m) (a := ⟨m, 1, none⟩) rfl (.bool true)))
    have hR0 := hide (RfS.fail hR2)
    clear hU hR2 hl0 hx hnz hl
    go_wp2_with fail
    replace hcmp := hide hcmp
    replace hle := hide hle
    clear hc0 hc1 hf1
    go_loopw [4, 5] (fun v i wr => ∃ (k : Nat) (al : List AlarmD) (sx : Option (List UInt8)) (A1 : Option Addr) (c1 : Nat), k ≤ n ∧ al.length = k ∧ v = .slice A1 k c1 ∧ i = .int .u64 k ∧ Upd (At m) w wr ∧ RfS wr D m sx ∧ wr.ownsRow w.heap.size 62 2 (.slice A1 k c1) k (al.map AlarmD.cells).flatten ∧ left_ dalarm (n - k) al sx = W ∧ (sx ≠ none → n ≤ 4294967296)) (fun _ i _ => n - (intOf i).toNat)
    case atStart => exact ⟨0, [], none, none, 0, Nat.zero_le _, rfl, rfl, rfl, hU0.out, hR0.out, World.ownsRow_nil _ _ _ _, hW.out, h32.out⟩
    case round =>
      clear hU0 hR0 hW h32
      obtain ⟨k, al, sx, A1, c1, hk, hal, rfl, rfl, hU, hR, hO, hE, hn32⟩ := hrel
      obtain ⟨hc1, hf1⟩ := RfS.flag hR
      replace hO := hide hO
      replace hU := hide hU
      have hfarp : ∀ g, Value.ownBlock (.slice A1 k c1) = some g → w.heap.size ≤ g := fun g hg => (World.ownsRow.lt hO.out g hg).1
      replace hfarp := hide hfarp
      replace hal := hide hal
      cases sx with
      | none =>
        rw [left_none] at hE
        subst hE
        replace hc1 : wr.cell? ⟨m, 1, none⟩ = some (.bool true) := hc1
        replace hR := hide hR
        clear hn32
        by_cases hlt2 : k < n
        · go_wp2_with fail
          go_ret
          refine ⟨_, rfl, hU.out, ?_, ?_⟩
          · rw [hfin.out]; exact hR.out
          · rw [hfin.out]; exact World.ownsRow_nil _ _ _ _
        · go_wp2_with fail
          go_ret
          refine ⟨_, rfl, hU.out, ?_, ?_⟩
          · rw [hfin.out]; exact hR.out
          · rw [hfin.out]; exact World.ownsRow_nil _ _ _ _
      | some l' =>
        replace hc1 : wr.cell? ⟨m, 1, none⟩ = some (.bool false) := hc1
        have hn' := hn32 (fun h => by cases h)
        by_cases hlt2 : k < n
        · rw [show n - k = (n - (k + 1)) + 1 by omega, left_alarm] at hE
          replace hE := hide hE
          clear hn32
          go_wp2_with fail
          refine (fSmall_any D m (some l') _ hR).mono ?_
          rintro e w3 ⟨rfl, hU3, hR3⟩
          have hO3 := hide (hU3.own hO.out fun g hg e => by have := hfarp.out g hg; have := hlt.out; have : g = m := e; omega)
          replace hU3 := hide (hU.out.then hU3)
          have hE3 := hE.out
          clear hE hO hU hc1 hf1
          generalize read 0 dsmall (some l') = x1 at *
          obtain ⟨a1, s1⟩ := x1
          simp only at hE3 hR3
          replace hE3 := hide hE3
          unfold i64v
          go_wp2_with fail
          refine (fSmall_any D m s1 _ hR3).mono ?_
          rintro e w4 ⟨rfl, hU4, hR4⟩
          have hO4 := hide (hU4.own hO3.out fun g hg e => by have := hfarp.out g hg; have := hlt.out; have : g = m := e; omega)
          replace hU4 := hide (hU3.out.then hU4)
          have hE4 := hE3.out
          clear hE3 hO3 hU3 hR3
          generalize read 0 dsmall s1 = x2 at *
          obtain ⟨a2, s2⟩ := x2
          simp only at hE4 hR4
          replace hE4 := hide hE4
          replace hR4 := hide hR4
          unfold i64v
          go_wp2_with (
            at_builtin
            refine wpList_append_own _ rfl (.tmp 37) (.tmp 41) 30 rfl w.heap.size 62 i0 (.agg #[.int .i64 0, .int .i64 0]) 2 16 Try.underlying30 hi.out hz0.out hz1.out hz2.out rfl (by decide) (.slice A1 k c1) k ((al.map AlarmD.cells).flatten) rfl ?_ ⟨w4.heap.size, 0, none⟩ 1 1 [.int .i64 a1, .int .i64 a2] rfl rfl (two_cells ?_ ?_) ?_ ?_ ?_ ?_ ?_
            · exact hO4.out.alloc _
            · simp [go_sem]; done
            · simp [go_sem]; done
            · simp [Value.oneCell']
            · unfold maxLen; omega
            · omega
            · exact Nat.le_trans hU4.out.size (by simp)
            intro ve' w5 he5 hg5 hnn5
            obtain ⟨A5, c5, rfl⟩ : ∃ A c, ve' = .slice A (k + 1) c := by
              rcases he5.2 with ⟨_, h⟩ | ⟨g, cap, cur, h, _⟩
              · omega
              · exact ⟨_, _, h⟩)
          go_roundw
          case rel =>
            refine ⟨k + 1, al ++ [⟨a1, a2⟩], s2, A5, c5, by omega, by simp [hal.out], rfl, by go_num, ?_, ?_, ?_, hE4.out, fun _ => hn'⟩
            · exact (hU4.out.then (.alloc _ _ _)).trans (.grown (F := fun g => Value.ownBlock (.slice A1 k c1) = some g) hg5 fun g hg => hg) fun g hg hf => by have := hfarp.out g hf; omega
            · refine (hR4.out.upd (.alloc (fun _ => False) _ _) id fun _ _ => id).upd (.grown (F := fun g => Value.ownBlock (.slice A1 k c1) = some g) hg5 fun g hg => hg) (fun hf => ?_) fun g hg hf => ?_
              · have := hfarp.out m hf; have := hlt.out; omega
              · have := hfarp.out g hf; have := hlt.out; have := hDm.out; omega
            · have e5 : ((al ++ [(⟨a1, a2⟩ : AlarmD)]).map AlarmD.cells).flatten = (al.map AlarmD.cells).flatten ++ [.int .i64 a1, .int .i64 a2] := by simp [AlarmD.cells]
              rw [e5]; exact he5
          case measure => simp [intOf]; omega
        · obtain rfl : k = n := by omega
          rw [Nat.sub_self, left_zero] at hE
          subst hE
          replace hR := hide hR
          clear hn32
          go_wp2_with fail
          go_ret
          refine ⟨_, rfl, hU.out, ?_, ?_⟩
          · rw [hfin.out]; exact hR.out
          · rw [hfin.out]
            show wr.ownsRow w.heap.size 62 2 _ al.length _
            rw [hal.out]; exact hO.out
end Go.Proofs.Ytajpgkedlajjdaa
