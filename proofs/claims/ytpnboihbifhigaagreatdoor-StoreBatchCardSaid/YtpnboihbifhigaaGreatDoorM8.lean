/- Part 8 of the walks (merged): ReadSlot. -/
import Derived.Test.YtpnboihbifhigaaGreatDoorM6
import Derived.Test.YtpnboihbifhigaaGreatDoorM7
/- Walks of wal: a slot is read. -/
namespace Go.Proofs.YtpnboihbifhigaaGreatDoor
open Go Go.RowKit
theorem expl {T : Array Value} {n : Nat} (h : T.size = n) : T = ((List.range n).map fun i => T.getD i undef).toArray := by
  apply Array.ext
  · simp [h]
  · intro i h1 h2
    simp [Array.getD_eq_getD_getElem?, h1]
theorem getD_toArray (l : List Value) (i : Nat) (d : Value) : l.toArray.getD i d = l.getD i d := by
  rw [Array.getD_eq_getD_getElem?, List.getD_eq_getElem?_getD, List.getElem?_toArray]
section
variable {W : World} {pb sb : Nat} {S : Nat → Prop} {D : DS}
set_option maxRecDepth 100000 in
set_option maxHeartbeats 1000000 in
theorem readSlot_any (h : PgV W pb sb S D) (hd : D.dead = false) (hT : Tab W) (hpb : 1 < pb) (hn : 16 ≤ D.n) (i : Nat) (hi : i ≤ 1) (hls : (D.last (1 + i)).length = D.size) : Calls Tryz.prog 71 #[.pointer (some ⟨pb, 0, none⟩), .int .i64 i] W fun e W' => Tells pb sb S D W (fun x _ v => v = extV x) (slotP D (D.last (1 + i))) e W' := by
  have hs := h.disk.s1
  have hlt := h.lt
  have hold := h.disk.old
  obtain ⟨wa, hwa⟩ : ∃ wa, wa = W.alloc (.cells #[.int .i64 0, .int .i64 0, .int .i64 0] 128) := ⟨_, rfl⟩
  have y0 : wa.heap[W.heap.size]? = some (.cells #[.int .i64 0, .int .i64 0, .int .i64 0] 128) := by rw [hwa]; exact heap_new _ _
  have hp0 : PgV wa pb sb S D := by rw [hwa]; exact h.upd (.alloc (fun _ => False) _ _) id fun _ _ => id
  have hU0 : Upd (At pb) W wa := by rw [hwa]; exact .alloc _ _ _
  have z0 : wa.heap.size = W.heap.size + 1 := by rw [hwa]; simp
  have hr := pread_any hp0 hd (1 + i) (by omega)
  generalize D.last (1 + i) = l at *
  clear h hp0 hd
  replace hwa := hide hwa
  replace y0 := hide y0
  replace hU0 := hide hU0
  replace hls := hide hls
  replace hold := hide hold
  replace hT := hide hT
  cases e1 : frameP l with
  | none =>
    replace e1 := hide e1
    go_enter Tryz.func71, Tryz.ntmps71
    go_wp2_with fail
    rw [← hwa.out]
    refine hr.mono ?_
    rintro e w1 ⟨v1, rfl, h1, hp1, hu1⟩
    have y1 := hu1.heap y0.out (by omega)
    have hU1 := hU0.out.then hu1
    have ha := h1.arg.mono' h1.arg
    have z1 := hu1.size
    obtain ⟨A1, n1, c1, rfl⟩ := h1.slice
    have hR1 := RdV.made ha (fun k hk => hk.2)
    have hp2 : PgV (w1.alloc (.cells #[.slice A1 n1 c1] 132)) pb sb S D := hp1.upd (.alloc (fun _ => False) _ _) id fun _ _ => id
    have hU2 : Upd (At pb) W (w1.alloc (.cells #[.slice A1 n1 c1] 132)) := hU1.then (.alloc _ _ _)
    have y2 := heap_old y1 (.cells #[.slice A1 n1 c1] 132)
    have hfr := frame_any hR1 (by have := hls.out; omega) (hT.out.upd hU2 (by omega)) (by omega)
    replace hp2 := hide hp2
    replace hU2 := hide hU2
    replace y2 := hide y2
    clear hr h1 hp1 hu1 y1 hU1 ha hR1
    go_wp2_with fail
    rw [e1.out] at hfr
    refine hfr.mono ?_
    rintro e w3 ⟨hu3, pv, rfl⟩
    have hp3 : PgV w3 pb sb S D := hp2.out.upd hu3 (fun e => by omega) fun k hk e => by have := hold.out k hk; omega
    have hU3 : Upd (At pb) W w3 := hU2.out.trans hu3 fun k hk e => by omega
    replace hp3 := hide hp3
    replace hU3 := hide hU3
    clear hu3 hfr
    go_wp2_with fail
    refine ⟨rfl, ?_⟩
    unfold slotP
    rw [e1.out]
    exact ⟨hp3.out, hU3.out, _, rfl⟩
  | some f =>
    obtain ⟨rec, r0⟩ := f
    have hrl := frameP_len e1
    have hlr : rec.length ≤ 4096 := by have := hls.out; omega
    replace e1 := hide e1
    clear hrl
    cases e2 : numP rec with
    | none =>
      replace e2 := hide e2
      go_enter Tryz.func71, Tryz.ntmps71
      go_wp2_with fail
      rw [← hwa.out]
      refine hr.mono ?_
      rintro e w1 ⟨v1, rfl, h1, hp1, hu1⟩
      have y1 := hu1.heap y0.out (by omega)
      have hU1 := hU0.out.then hu1
      have ha := h1.arg.mono' h1.arg
      have z1 := hu1.size
      obtain ⟨A1, n1, c1, rfl⟩ := h1.slice
      have hR1 := RdV.made ha (fun k hk => hk.2)
      have hp2 : PgV (w1.alloc (.cells #[.slice A1 n1 c1] 132)) pb sb S D := hp1.upd (.alloc (fun _ => False) _ _) id fun _ _ => id
      have hU2 : Upd (At pb) W (w1.alloc (.cells #[.slice A1 n1 c1] 132)) := hU1.then (.alloc _ _ _)
      have y2 := heap_old y1 (.cells #[.slice A1 n1 c1] 132)
      have hfr := frame_any hR1 (by have := hls.out; omega) (hT.out.upd hU2 (by omega)) (by omega)
      replace hp2 := hide hp2
      replace hU2 := hide hU2
      replace y2 := hide y2
      clear hr h1 hp1 hu1 y1 hU1 ha hR1
      go_wp2_with fail
      rw [e1.out] at hfr
      refine hfr.mono ?_
      rintro e w3 ⟨hu3, v3, rfl, h3, -⟩
      have hp3 : PgV w3 pb sb S D := hp2.out.upd hu3 (fun e => by omega) fun k hk e => by have := hold.out k hk; omega
      have hU3 : Upd (At pb) W w3 := hU2.out.trans hu3 fun k hk e => by omega
      have y3 := hu3.heap y2.out (by omega)
      have z3 := hU3.size
      have ha := h3.arg.mono' h3.arg
      obtain ⟨A3, n3, c3, rfl⟩ := h3.slice
      have z5 := (Array.getElem?_eq_some_iff.1 y3).1
      have hR3 := RdV.made ha (fun k hk => hk.2)
      have hp4 : PgV (w3.alloc (.cells #[.slice A3 n3 c3] 132)) pb sb S D := hp3.upd (.alloc (fun _ => False) _ _) id fun _ _ => id
      have hU4 : Upd (At pb) W (w3.alloc (.cells #[.slice A3 n3 c3] 132)) := hU3.then (.alloc _ _ _)
      have y4 := heap_old y3 (.cells #[.slice A3 n3 c3] 132)
      have hn1 := number_any hR3 (by omega)
      replace hp4 := hide hp4
      replace hU4 := hide hU4
      replace y4 := hide y4
      clear hu3 hfr hp2 hU2 y2 hp3 hU3 y3 ha hR3 h3
      go_wp2_with fail
      rw [e2.out] at hn1
      refine hn1.mono ?_
      rintro e w5 ⟨hu5, pv, rfl⟩
      have hp5 : PgV w5 pb sb S D := hp4.out.upd hu5 (fun e => by omega) fun k hk e => by have := hold.out k hk; omega
      have hU5 : Upd (At pb) W w5 := hU4.out.trans hu5 fun k hk e => by omega
      replace hp5 := hide hp5
      replace hU5 := hide hU5
      clear hu5 hn1
      go_wp2_with fail
      refine ⟨rfl, ?_⟩
      unfold slotP
      rw [e1.out]
      simp only [Option.bind_some, e2.out, Option.bind_none]
      exact ⟨hp5.out, hU5.out, _, rfl⟩
    | some f =>
      obtain ⟨a, r1⟩ := f
      obtain ⟨ha1, hr1⟩ := numP_len e2
      replace e2 := hide e2
      cases e3 : numP r1 with
      | none =>
        replace e3 := hide e3
        go_enter Tryz.func71, Tryz.ntmps71
        go_wp2_with fail
        rw [← hwa.out]
        refine hr.mono ?_
        rintro e w1 ⟨v1, rfl, h1, hp1, hu1⟩
        have y1 := hu1.heap y0.out (by omega)
        have hU1 := hU0.out.then hu1
        have ha := h1.arg.mono' h1.arg
        have z1 := hu1.size
        obtain ⟨A1, n1, c1, rfl⟩ := h1.slice
        have hR1 := RdV.made ha (fun k hk => hk.2)
        have hp2 : PgV (w1.alloc (.cells #[.slice A1 n1 c1] 132)) pb sb S D := hp1.upd (.alloc (fun _ => False) _ _) id fun _ _ => id
        have hU2 : Upd (At pb) W (w1.alloc (.cells #[.slice A1 n1 c1] 132)) := hU1.then (.alloc _ _ _)
        have y2 := heap_old y1 (.cells #[.slice A1 n1 c1] 132)
        have hfr := frame_any hR1 (by have := hls.out; omega) (hT.out.upd hU2 (by omega)) (by omega)
        replace hp2 := hide hp2
        replace hU2 := hide hU2
        replace y2 := hide y2
        clear hr h1 hp1 hu1 y1 hU1 ha hR1
        go_wp2_with fail
        rw [e1.out] at hfr
        refine hfr.mono ?_
        rintro e w3 ⟨hu3, v3, rfl, h3, -⟩
        have hp3 : PgV w3 pb sb S D := hp2.out.upd hu3 (fun e => by omega) fun k hk e => by have := hold.out k hk; omega
        have hU3 : Upd (At pb) W w3 := hU2.out.trans hu3 fun k hk e => by omega
        have y3 := hu3.heap y2.out (by omega)
        have z3 := hU3.size
        have ha := h3.arg.mono' h3.arg
        obtain ⟨A3, n3, c3, rfl⟩ := h3.slice
        have z5 := (Array.getElem?_eq_some_iff.1 y3).1
        have hR3 := RdV.made ha (fun k hk => hk.2)
        have hp4 : PgV (w3.alloc (.cells #[.slice A3 n3 c3] 132)) pb sb S D := hp3.upd (.alloc (fun _ => False) _ _) id fun _ _ => id
        have hU4 : Upd (At pb) W (w3.alloc (.cells #[.slice A3 n3 c3] 132)) := hU3.then (.alloc _ _ _)
        have y4 := heap_old y3 (.cells #[.slice A3 n3 c3] 132)
        have hn1 := number_any hR3 (by omega)
        replace hp4 := hide hp4
        replace hU4 := hide hU4
        replace y4 := hide y4
        clear hu3 hfr hp2 hU2 y2 hp3 hU3 y3 ha hR3 h3
        go_wp2_with fail
        rw [e2.out] at hn1
        refine hn1.mono ?_
        rintro e w5 ⟨hu5, v5, rfl, rfl, hR5⟩
        have hp5 : PgV w5 pb sb S D := hp4.out.upd hu5 (fun e => by omega) fun k hk e => by have := hold.out k hk; omega
        have hU5 : Upd (At pb) W w5 := hU4.out.trans hu5 fun k hk e => by omega
        have y5 := hu5.heap y4.out (by omega)
        replace hp5 := hide hp5
        replace hU5 := hide hU5
        replace y5 := hide y5
        have hn2 := number_any hR5 (by omega)
        clear hu5 hn1 hp4 hU4 y4 hR5
        go_wp2_with fail
        rw [e3.out] at hn2
        refine hn2.mono ?_
        rintro e w6 ⟨hu6, pv, rfl⟩
        have hp6 : PgV w6 pb sb S D := hp5.out.upd hu6 (fun e => by omega) fun k hk e => by have := hold.out k hk; omega
        have hU6 : Upd (At pb) W w6 := hU5.out.trans hu6 fun k hk e => by omega
        replace hp6 := hide hp6
        replace hU6 := hide hU6
        clear hu6 hn2
        go_wp2_with fail
        refine ⟨rfl, ?_⟩
        unfold slotP
        rw [e1.out]
        simp only [Option.bind_some, e2.out, e3.out, Option.bind_none]
        exact ⟨hp6.out, hU6.out, _, rfl⟩
      | some f =>
        obtain ⟨b, r2⟩ := f
        obtain ⟨hb1, hr2⟩ := numP_len e3
        replace e3 := hide e3
        cases e4 : numP r2 with
        | none =>
          replace e4 := hide e4
          go_enter Tryz.func71, Tryz.ntmps71
          go_wp2_with fail
          rw [← hwa.out]
          refine hr.mono ?_
          rintro e w1 ⟨v1, rfl, h1, hp1, hu1⟩
          have y1 := hu1.heap y0.out (by omega)
          have hU1 := hU0.out.then hu1
          have ha := h1.arg.mono' h1.arg
          have z1 := hu1.size
          obtain ⟨A1, n1, c1, rfl⟩ := h1.slice
          have hR1 := RdV.made ha (fun k hk => hk.2)
          have hp2 : PgV (w1.alloc (.cells #[.slice A1 n1 c1] 132)) pb sb S D := hp1.upd (.alloc (fun _ => False) _ _) id fun _ _ => id
          have hU2 : Upd (At pb) W (w1.alloc (.cells #[.slice A1 n1 c1] 132)) := hU1.then (.alloc _ _ _)
          have y2 := heap_old y1 (.cells #[.slice A1 n1 c1] 132)
          have hfr := frame_any hR1 (by have := hls.out; omega) (hT.out.upd hU2 (by omega)) (by omega)
          replace hp2 := hide hp2
          replace hU2 := hide hU2
          replace y2 := hide y2
          clear hr h1 hp1 hu1 y1 hU1 ha hR1
          go_wp2_with fail
          rw [e1.out] at hfr
          refine hfr.mono ?_
          rintro e w3 ⟨hu3, v3, rfl, h3, -⟩
          have hp3 : PgV w3 pb sb S D := hp2.out.upd hu3 (fun e => by omega) fun k hk e => by have := hold.out k hk; omega
          have hU3 : Upd (At pb) W w3 := hU2.out.trans hu3 fun k hk e => by omega
          have y3 := hu3.heap y2.out (by omega)
          have z3 := hU3.size
          have ha := h3.arg.mono' h3.arg
          obtain ⟨A3, n3, c3, rfl⟩ := h3.slice
          have z5 := (Array.getElem?_eq_some_iff.1 y3).1
          have hR3 := RdV.made ha (fun k hk => hk.2)
          have hp4 : PgV (w3.alloc (.cells #[.slice A3 n3 c3] 132)) pb sb S D := hp3.upd (.alloc (fun _ => False) _ _) id fun _ _ => id
          have hU4 : Upd (At pb) W (w3.alloc (.cells #[.slice A3 n3 c3] 132)) := hU3.then (.alloc _ _ _)
          have y4 := heap_old y3 (.cells #[.slice A3 n3 c3] 132)
          have hn1 := number_any hR3 (by omega)
          replace hp4 := hide hp4
          replace hU4 := hide hU4
          replace y4 := hide y4
          clear hu3 hfr hp2 hU2 y2 hp3 hU3 y3 ha hR3 h3
          go_wp2_with fail
          rw [e2.out] at hn1
          refine hn1.mono ?_
          rintro e w5 ⟨hu5, v5, rfl, rfl, hR5⟩
          have hp5 : PgV w5 pb sb S D := hp4.out.upd hu5 (fun e => by omega) fun k hk e => by have := hold.out k hk; omega
          have hU5 : Upd (At pb) W w5 := hU4.out.trans hu5 fun k hk e => by omega
          have y5 := hu5.heap y4.out (by omega)
          replace hp5 := hide hp5
          replace hU5 := hide hU5
          replace y5 := hide y5
          have hn2 := number_any hR5 (by omega)
          clear hu5 hn1 hp4 hU4 y4 hR5
          go_wp2_with fail
          rw [e3.out] at hn2
          refine hn2.mono ?_
          rintro e w6 ⟨hu6, v6, rfl, rfl, hR6⟩
          have hp6 : PgV w6 pb sb S D := hp5.out.upd hu6 (fun e => by omega) fun k hk e => by have := hold.out k hk; omega
          have hU6 : Upd (At pb) W w6 := hU5.out.trans hu6 fun k hk e => by omega
          have y6 := hu6.heap y5.out (by omega)
          replace hp6 := hide hp6
          replace hU6 := hide hU6
          replace y6 := hide y6
          have hn3 := number_any hR6 (by omega)
          clear hu6 hn2 hp5 hU5 y5 hR6
          go_wp2_with fail
          rw [e4.out] at hn3
          refine hn3.mono ?_
          rintro e w7 ⟨hu7, pv, rfl⟩
          have hp7 : PgV w7 pb sb S D := hp6.out.upd hu7 (fun e => by omega) fun k hk e => by have := hold.out k hk; omega
          have hU7 : Upd (At pb) W w7 := hU6.out.trans hu7 fun k hk e => by omega
          replace hp7 := hide hp7
          replace hU7 := hide hU7
          clear hu7 hn3
          go_wp2_with fail
          refine ⟨rfl, ?_⟩
          unfold slotP
          rw [e1.out]
          simp only [Option.bind_some, e2.out, e3.out, e4.out, Option.bind_none]
          exact ⟨hp7.out, hU7.out, _, rfl⟩
        | some f =>
          obtain ⟨c, r3⟩ := f
          obtain ⟨hc1, hr3⟩ := numP_len e4
          replace e4 := hide e4
          by_cases hca : a < 2
          · by_cases hcb : b ≤ capN D
            · have hsp := hide (show slotP D l = some ⟨a, b, c⟩ by unfold slotP; rw [e1.out]; simp only [Option.bind_some, e2.out, e3.out, e4.out]; rw [if_pos ⟨hca, hcb⟩])
              go_enter Tryz.func71, Tryz.ntmps71
              go_wp2_with fail
              rw [← hwa.out]
              refine hr.mono ?_
              rintro e w1 ⟨v1, rfl, h1, hp1, hu1⟩
              have y1 := hu1.heap y0.out (by omega)
              have hU1 := hU0.out.then hu1
              have ha := h1.arg.mono' h1.arg
              have z1 := hu1.size
              obtain ⟨A1, n1, c1, rfl⟩ := h1.slice
              have hR1 := RdV.made ha (fun k hk => hk.2)
              have hp2 : PgV (w1.alloc (.cells #[.slice A1 n1 c1] 132)) pb sb S D := hp1.upd (.alloc (fun _ => False) _ _) id fun _ _ => id
              have hU2 : Upd (At pb) W (w1.alloc (.cells #[.slice A1 n1 c1] 132)) := hU1.then (.alloc _ _ _)
              have y2 := heap_old y1 (.cells #[.slice A1 n1 c1] 132)
              have hfr := frame_any hR1 (by have := hls.out; omega) (hT.out.upd hU2 (by omega)) (by omega)
              replace hp2 := hide hp2
              replace hU2 := hide hU2
              replace y2 := hide y2
              clear hr h1 hp1 hu1 y1 hU1 ha hR1
              go_wp2_with fail
              rw [e1.out] at hfr
              refine hfr.mono ?_
              rintro e w3 ⟨hu3, v3, rfl, h3, -⟩
              have hp3 : PgV w3 pb sb S D := hp2.out.upd hu3 (fun e => by omega) fun k hk e => by have := hold.out k hk; omega
              have hU3 : Upd (At pb) W w3 := hU2.out.trans hu3 fun k hk e => by omega
              have y3 := hu3.heap y2.out (by omega)
              have z3 := hU3.size
              have ha := h3.arg.mono' h3.arg
              obtain ⟨A3, n3, c3, rfl⟩ := h3.slice
              have z5 := (Array.getElem?_eq_some_iff.1 y3).1
              have hR3 := RdV.made ha (fun k hk => hk.2)
              have hp4 : PgV (w3.alloc (.cells #[.slice A3 n3 c3] 132)) pb sb S D := hp3.upd (.alloc (fun _ => False) _ _) id fun _ _ => id
              have hU4 : Upd (At pb) W (w3.alloc (.cells #[.slice A3 n3 c3] 132)) := hU3.then (.alloc _ _ _)
              have y4 := heap_old y3 (.cells #[.slice A3 n3 c3] 132)
              have hn1 := number_any hR3 (by omega)
              replace hp4 := hide hp4
              replace hU4 := hide hU4
              replace y4 := hide y4
              clear hu3 hfr hp2 hU2 y2 hp3 hU3 y3 ha hR3 h3
              go_wp2_with fail
              rw [e2.out] at hn1
              refine hn1.mono ?_
              rintro e w5 ⟨hu5, v5, rfl, rfl, hR5⟩
              have hp5 : PgV w5 pb sb S D := hp4.out.upd hu5 (fun e => by omega) fun k hk e => by have := hold.out k hk; omega
              have hU5 : Upd (At pb) W w5 := hU4.out.trans hu5 fun k hk e => by omega
              have y5 := hu5.heap y4.out (by omega)
              replace hp5 := hide hp5
              replace hU5 := hide hU5
              replace y5 := hide y5
              have hn2 := number_any hR5 (by omega)
              clear hu5 hn1 hp4 hU4 y4 hR5
              go_wp2_with fail
              rw [e3.out] at hn2
              refine hn2.mono ?_
              rintro e w6 ⟨hu6, v6, rfl, rfl, hR6⟩
              have hp6 : PgV w6 pb sb S D := hp5.out.upd hu6 (fun e => by omega) fun k hk e => by have := hold.out k hk; omega
              have hU6 : Upd (At pb) W w6 := hU5.out.trans hu6 fun k hk e => by omega
              have y6 := hu6.heap y5.out (by omega)
              replace hp6 := hide hp6
              replace hU6 := hide hU6
              replace y6 := hide y6
              have hn3 := number_any hR6 (by omega)
              clear hu6 hn2 hp5 hU5 y5 hR6
              go_wp2_with fail
              rw [e4.out] at hn3
              refine hn3.mono ?_
              rintro e w7 ⟨hu7, v7, rfl, rfl, hR7⟩
              have hp7 : PgV w7 pb sb S D := hp6.out.upd hu7 (fun e => by omega) fun k hk e => by have := hold.out k hk; omega
              have hU7 : Upd (At pb) W w7 := hU6.out.trans hu7 fun k hk e => by omega
              have y7 := hu7.heap y6.out (by omega)
              replace hp7 := hide hp7
              replace hU7 := hide hU7
              replace y7 := hide y7
              clear hu7 hn3 hp6 hU6 y6 hR7
              have k0 := hp7.out.c0
              have hz7 := hU7.out.size
              obtain ⟨w8, hw8⟩ : ∃ w8, w8 = w7.alloc (.cells #[.int .i64 a, .int .i64 b, .int .i64 c] 128) := ⟨_, rfl⟩
              have q8 : w8.heap[w7.heap.size]? = some (.cells #[.int .i64 a, .int .i64 b, .int .i64 c] 128) := by rw [hw8]; exact heap_new _ _
              have hp8 : PgV w8 pb sb S D := by rw [hw8]; exact hp7.out.upd (.alloc (fun _ => False) _ _) id fun _ _ => id
              have hU8 : Upd (At pb) W w8 := by rw [hw8]; exact hU7.out.then (.alloc _ _ _)
              have y8 : w8.heap[W.heap.size]? = some (.cells #[.int .i64 0, .int .i64 0, .int .i64 0] 128) := by rw [hw8]; exact heap_old y7.out _
              have z8 : w8.heap.size = w7.heap.size + 1 := by rw [hw8]; simp
              clear hp7 hU7 y7 k0
              go_wp2_with fail
              rw [← hw8]
              have hD8 : DiskV w8.drew sb S D := hp8.disk.upd (Upd.refl (fun _ => False) w8).drew fun _ _ => id
              have hcap := capacity_any hD8 hn
              have k0 := hp8.c0
              have x0 : w8.cell? ⟨w7.heap.size, 0, none⟩ = some (.int .i64 a) := by rw [cell_at q8]; rfl
              have x1 : w8.cell? ⟨w7.heap.size, 1, none⟩ = some (.int .i64 b) := by rw [cell_at q8]; rfl
              clear hD8
              replace hw8 := hide hw8
              replace hp8 := hide hp8
              replace hU8 := hide hU8
              replace y8 := hide y8
              replace q8 := hide q8
              replace z8 := hide z8
              refine wp_region_flow (fun _ => False) (factAt [(fun v _ => v = (.pointer (some ⟨w7.heap.size, 0, none⟩))), (fun v _ => v = (.int .i64 (a : Nat))), (fun v _ => v = (.bool true)), (fun v _ => v = (.bool true)), (fun v _ => v = (.pointer (some ⟨w7.heap.size, 1, none⟩))), (fun v _ => v = (.int .i64 (b : Nat))), (fun v _ => v = (.pointer (some ⟨pb, 0, none⟩))), (fun v _ => v = (.pointer (some ⟨pb, 0, none⟩))), (fun v _ => v = (.pointer (some ⟨pb, 0, none⟩))), (fun v _ => v = (.pointer (some ⟨sb, 0, none⟩))), (fun v _ => v = (.int .i64 (capN D : Nat))), (fun v _ => v = (.bool true)), (fun v _ => v = (.bool true)), (fun v _ => v = (.tuple #[]))]) [] (fun _ => True) (by kernel_rfl) (fkept_at ⟨FKept.eq _, FKept.eq _, FKept.eq _, FKept.eq _, FKept.eq _, FKept.eq _, FKept.eq _, FKept.eq _, FKept.eq _, FKept.eq _, FKept.eq _, FKept.eq _, FKept.eq _, FKept.eq _, trivial⟩) (fun _ _ h _ => h) trivial (by kernel_rfl) (by kernel_rfl) (by kernel_rfl) (by kernel_rfl) (Nat.le_of_ble_eq_true (by kernel_rfl)) ?_ ⟨?_, ?_, ?_, ?_, ?_, ?_, ?_, ?_, ?_, ?_, ?_, ?_, ?_, ?_, trivial⟩ ?_
              · first | exact trivial | assumption
              · intro T w Q hu hs hv hw hd
                have hx7 : T.getD 7 undef = (.pointer (some ⟨w7.heap.size, 0, none⟩)) := hv 7 (by kernel_rfl)
                refine .inl ⟨wanted_none rfl, ?_⟩
                clear hd hv hu hs hw
                go_simp
                exact ⟨_, rfl, DstOk.some rfl, Below.refl _ _, rfl⟩
              · intro T w Q hu hs hv hw hd
                have hx19 : T.getD 19 undef = (.pointer (some ⟨w7.heap.size, 0, none⟩)) := Deps.at 0 hd (by kernel_rfl)
                refine .inl ⟨wanted_none rfl, ?_⟩
                have hq0 := hu.cell x0 id
                clear hd hv hu hs hw
                go_simp
                exact ⟨_, rfl, DstOk.some rfl, Below.refl _ _, rfl⟩
              · intro T w Q hu hs hv hw hd
                have hx20 : T.getD 20 undef = (.int .i64 (a : Nat)) := Deps.at 1 hd (by kernel_rfl)
                refine .inl ⟨wanted_none rfl, ?_⟩
                clear hd hv hu hs hw
                go_simp
                exact ⟨_, rfl, DstOk.some rfl, Below.refl _ _, by first | rfl | exact congrArg Value.bool (decide_eq_true (by omega))⟩
              · intro T w Q hu hs hv hw hd
                have hx21 : T.getD 21 undef = (.bool true) := Deps.at 2 hd (by kernel_rfl)
                refine .inl ⟨wanted_none rfl, ?_⟩
                clear hd hv hu hs hw
                go_simp
                exact ⟨_, rfl, DstOk.some rfl, Below.refl _ _, rfl⟩
              · intro T w Q hu hs hv hw hd
                have hx7 : T.getD 7 undef = (.pointer (some ⟨w7.heap.size, 0, none⟩)) := hv 7 (by kernel_rfl)
                refine .inl ⟨wanted_some rfl (Deps.at 3 hd (by kernel_rfl) : slotOf _ T 3 = .bool true), ?_⟩
                clear hd hv hu hs hw
                go_simp
                exact ⟨_, rfl, DstOk.some rfl, Below.refl _ _, rfl⟩
              · intro T w Q hu hs hv hw hd
                have hx23 : T.getD 23 undef = (.pointer (some ⟨w7.heap.size, 1, none⟩)) := Deps.at 4 hd (by kernel_rfl)
                refine .inl ⟨wanted_some rfl (Deps.at 3 hd (by kernel_rfl) : slotOf _ T 3 = .bool true), ?_⟩
                have hq0 := hu.cell x1 id
                clear hd hv hu hs hw
                go_simp
                exact ⟨_, rfl, DstOk.some rfl, Below.refl _ _, rfl⟩
              · intro T w Q hu hs hv hw hd
                have hx0 : T.getD 0 undef = (.pointer (some ⟨pb, 0, none⟩)) := hv 0 (by kernel_rfl)
                refine .inl ⟨wanted_some rfl (Deps.at 3 hd (by kernel_rfl) : slotOf _ T 3 = .bool true), ?_⟩
                clear hd hv hu hs hw
                go_simp
                exact ⟨_, rfl, DstOk.some rfl, Below.refl _ _, rfl⟩
              · intro T w Q hu hs hv hw hd
                have hx25 : T.getD 25 undef = (.pointer (some ⟨pb, 0, none⟩)) := Deps.at 6 hd (by kernel_rfl)
                refine .inl ⟨wanted_some rfl (Deps.at 3 hd (by kernel_rfl) : slotOf _ T 3 = .bool true), ?_⟩
                clear hd hv hu hs hw
                go_simp
                exact ⟨_, rfl, DstOk.some rfl, Below.refl _ _, rfl⟩
              · intro T w Q hu hs hv hw hd
                have hx26 : T.getD 26 undef = (.pointer (some ⟨pb, 0, none⟩)) := Deps.at 7 hd (by kernel_rfl)
                refine .inl ⟨wanted_some rfl (Deps.at 3 hd (by kernel_rfl) : slotOf _ T 3 = .bool true), ?_⟩
                clear hd hv hu hs hw
                go_simp
                exact ⟨_, rfl, DstOk.some rfl, Below.refl _ _, rfl⟩
              · intro T w Q hu hs hv hw hd
                have hx27 : T.getD 27 undef = (.pointer (some ⟨pb, 0, none⟩)) := Deps.at 8 hd (by kernel_rfl)
                refine .inl ⟨wanted_some rfl (Deps.at 3 hd (by kernel_rfl) : slotOf _ T 3 = .bool true), ?_⟩
                have hq0 := hu.cell k0 id
                clear hd hv hu hs hw
                go_simp
                exact ⟨_, rfl, DstOk.some rfl, Below.refl _ _, rfl⟩
              · intro T w Q hu hs hv hw hd
                have hx28 : T.getD 28 undef = (.pointer (some ⟨sb, 0, none⟩)) := Deps.at 9 hd (by kernel_rfl)
                refine .inl ⟨wanted_some rfl (Deps.at 3 hd (by kernel_rfl) : slotOf _ T 3 = .bool true), ?_⟩
                have hN := capacity_any (hp8.out.disk.upd hu fun _ _ => id) hn
                clear hd hv hu hs hw
                go_simp
                refine hN.mono ?_
                rintro e w2 ⟨rfl, hb⟩
                exact ⟨_, rfl, DstOk.some rfl, hb, rfl⟩
              · intro T w Q hu hs hv hw hd
                have hx24 : T.getD 24 undef = (.int .i64 (b : Nat)) := Deps.at 5 hd (by kernel_rfl)
                have hx29 : T.getD 29 undef = (.int .i64 (capN D : Nat)) := Deps.at 10 hd (by kernel_rfl)
                refine .inl ⟨wanted_some rfl (Deps.at 3 hd (by kernel_rfl) : slotOf _ T 3 = .bool true), ?_⟩
                clear hd hv hu hs hw
                go_simp
                exact ⟨_, rfl, DstOk.some rfl, Below.refl _ _, by first | rfl | exact congrArg Value.bool (decide_eq_true (by omega))⟩
              · intro T w Q hu hs hv hw hd
                have hx22 : T.getD 22 undef = (.bool true) := Deps.at 3 hd (by kernel_rfl)
                have hx30 : T.getD 30 undef = (.bool true) := Deps.at 11 hd (by kernel_rfl)
                refine .inl ⟨wanted_none rfl, ?_⟩
                clear hd hv hu hs hw
                go_simp
                exact ⟨_, rfl, DstOk.some rfl, Below.refl _ _, rfl⟩
              · intro T w Q hu hs hv hw hd
                have hx31 : T.getD 31 undef = (.bool true) := Deps.at 12 hd (by kernel_rfl)
                refine .inl ⟨wanted_none rfl, ?_⟩
                clear hd hv hu hs hw
                go_simp
                refine (need_any _ _).mono ?_
                rintro e w2 ⟨rfl, h, -⟩
                obtain rfl := h rfl
                exact ⟨_, rfl, DstOk.some rfl, Below.refl _ _, rfl⟩
              · intro T w hu hs hv hf hcur
                have hT : T = #[T.getD 0 undef, T.getD 1 undef, T.getD 2 undef, T.getD 3 undef, T.getD 4 undef, T.getD 5 undef, T.getD 6 undef, T.getD 7 undef, T.getD 8 undef, T.getD 9 undef, T.getD 10 undef, T.getD 11 undef, T.getD 12 undef, T.getD 13 undef, T.getD 14 undef, T.getD 15 undef, T.getD 16 undef, T.getD 17 undef, T.getD 18 undef, T.getD 19 undef, T.getD 20 undef, T.getD 21 undef, T.getD 22 undef, T.getD 23 undef, T.getD 24 undef, T.getD 25 undef, T.getD 26 undef, T.getD 27 undef, T.getD 28 undef, T.getD 29 undef, T.getD 30 undef, T.getD 31 undef, T.getD 32 undef, T.getD 33 undef] := expl hs
                rw [hT]
                clear hT
                rw [show T.getD 0 undef = (.pointer (some ⟨pb, 0, none⟩)) from hv 0 (by kernel_rfl)]
                rw [hv 1 (by kernel_rfl)]
                rw [hv 2 (by kernel_rfl)]
                rw [hv 3 (by kernel_rfl)]
                rw [show T.getD 4 undef = (.pointer (some ⟨W.heap.size, 0, none⟩)) from hv 4 (by kernel_rfl)]
                rw [hv 5 (by kernel_rfl)]
                rw [hv 6 (by kernel_rfl)]
                rw [show T.getD 7 undef = (.pointer (some ⟨w7.heap.size, 0, none⟩)) from hv 7 (by kernel_rfl)]
                rw [hv 8 (by kernel_rfl)]
                rw [hv 9 (by kernel_rfl)]
                rw [hv 10 (by kernel_rfl)]
                rw [hv 11 (by kernel_rfl)]
                rw [hv 12 (by kernel_rfl)]
                rw [hv 13 (by kernel_rfl)]
                rw [hv 14 (by kernel_rfl)]
                rw [hv 15 (by kernel_rfl)]
                rw [hv 16 (by kernel_rfl)]
                rw [hv 17 (by kernel_rfl)]
                rw [hv 18 (by kernel_rfl)]
                rw [show T.getD 19 undef = (.pointer (some ⟨w7.heap.size, 0, none⟩)) from hf 0 (by decide)]
                rw [show T.getD 20 undef = (.int .i64 (a : Nat)) from hf 1 (by decide)]
                rw [show T.getD 21 undef = (.bool true) from hf 2 (by decide)]
                rw [show T.getD 22 undef = (.bool true) from hf 3 (by decide)]
                rw [show T.getD 23 undef = (.pointer (some ⟨w7.heap.size, 1, none⟩)) from hf 4 (by decide)]
                rw [show T.getD 24 undef = (.int .i64 (b : Nat)) from hf 5 (by decide)]
                rw [show T.getD 25 undef = (.pointer (some ⟨pb, 0, none⟩)) from hf 6 (by decide)]
                rw [show T.getD 26 undef = (.pointer (some ⟨pb, 0, none⟩)) from hf 7 (by decide)]
                rw [show T.getD 27 undef = (.pointer (some ⟨pb, 0, none⟩)) from hf 8 (by decide)]
                rw [show T.getD 28 undef = (.pointer (some ⟨sb, 0, none⟩)) from hf 9 (by decide)]
                rw [show T.getD 29 undef = (.int .i64 (capN D : Nat)) from hf 10 (by decide)]
                rw [show T.getD 30 undef = (.bool true) from hf 11 (by decide)]
                rw [show T.getD 31 undef = (.bool true) from hf 12 (by decide)]
                rw [show T.getD 32 undef = (.tuple #[]) from hf 13 (by decide)]
                rw [hv 33 (by kernel_rfl)]
                clear hf hs hv hcur
                simp only [getD_toArray, List.getD_cons_succ, List.getD_cons_zero]
                clear T
                have hUw : Upd (At pb) W w := hU8.out.then (hu.mono fun _ _ h => h.elim)
                have hpw := hp8.out.upd hu id fun _ _ => id
                have yy := hu.heap y8.out id
                have qq := hu.heap q8.out id
                have l0 : w.cell? ⟨w7.heap.size, 0, none⟩ = some (.int .i64 a) := by rw [cell_at qq]; rfl
                have l1 : w.cell? ⟨w7.heap.size, 1, none⟩ = some (.int .i64 b) := by rw [cell_at qq]; rfl
                have l2 : w.cell? ⟨w7.heap.size, 2, none⟩ = some (.int .i64 c) := by rw [cell_at qq]; rfl
                have m0 : w.cell? ⟨W.heap.size, 0, none⟩ = some (.int .i64 0) := by rw [cell_at yy]; rfl
                have m1 : w.cell? ⟨W.heap.size, 1, none⟩ = some (.int .i64 0) := by rw [cell_at yy]; rfl
                have m2 : w.cell? ⟨W.heap.size, 2, none⟩ = some (.int .i64 0) := by rw [cell_at yy]; rfl
                have n0 := frozen_at yy 0
                have n1 := frozen_at yy 1
                have n2 := frozen_at yy 2
                replace hUw := hide hUw
                replace hpw := hide hpw
                go_wp2_with fail
                refine bodyPost_ret (v := extV ⟨a, b, c⟩) (by simp [results, Tryz.results71, go_sem, extV, m0, m1, m2]) rfl ?_
                have hUs : Upd (fun k => k = W.heap.size) w (((w.setCell ⟨W.heap.size, 0, none⟩ (.int .i64 a)).setCell ⟨W.heap.size, 1, none⟩ (.int .i64 b)).setCell ⟨W.heap.size, 2, none⟩ (.int .i64 c)) := ((Upd.set (F := fun k => k = W.heap.size) _ (a := ⟨W.heap.size, 0, none⟩) rfl _).then (.set (F := fun k => k = W.heap.size) _ (a := ⟨W.heap.size, 1, none⟩) rfl _)).then (.set (F := fun k => k = W.heap.size) _ (a := ⟨W.heap.size, 2, none⟩) rfl _)
                unfold Tells
                rw [hsp.out]
                exact ⟨hpw.out.upd hUs (by omega) (fun k hk e => by have := hold.out k hk; omega), hUw.out.trans hUs (fun k hk e => by omega), _, rfl, rfl⟩
            · have hsp := hide (show slotP D l = none by unfold slotP; rw [e1.out]; simp only [Option.bind_some, e2.out, e3.out, e4.out]; rw [if_neg fun h => hcb h.2])
              go_enter Tryz.func71, Tryz.ntmps71
              go_wp2_with fail
              rw [← hwa.out]
              refine hr.mono ?_
              rintro e w1 ⟨v1, rfl, h1, hp1, hu1⟩
              have y1 := hu1.heap y0.out (by omega)
              have hU1 := hU0.out.then hu1
              have ha := h1.arg.mono' h1.arg
              have z1 := hu1.size
              obtain ⟨A1, n1, c1, rfl⟩ := h1.slice
              have hR1 := RdV.made ha (fun k hk => hk.2)
              have hp2 : PgV (w1.alloc (.cells #[.slice A1 n1 c1] 132)) pb sb S D := hp1.upd (.alloc (fun _ => False) _ _) id fun _ _ => id
              have hU2 : Upd (At pb) W (w1.alloc (.cells #[.slice A1 n1 c1] 132)) := hU1.then (.alloc _ _ _)
              have y2 := heap_old y1 (.cells #[.slice A1 n1 c1] 132)
              have hfr := frame_any hR1 (by have := hls.out; omega) (hT.out.upd hU2 (by omega)) (by omega)
              replace hp2 := hide hp2
              replace hU2 := hide hU2
              replace y2 := hide y2
              clear hr h1 hp1 hu1 y1 hU1 ha hR1
              go_wp2_with fail
              rw [e1.out] at hfr
              refine hfr.mono ?_
              rintro e w3 ⟨hu3, v3, rfl, h3, -⟩
              have hp3 : PgV w3 pb sb S D := hp2.out.upd hu3 (fun e => by omega) fun k hk e => by have := hold.out k hk; omega
              have hU3 : Upd (At pb) W w3 := hU2.out.trans hu3 fun k hk e => by omega
              have y3 := hu3.heap y2.out (by omega)
              have z3 := hU3.size
              have ha := h3.arg.mono' h3.arg
              obtain ⟨A3, n3, c3, rfl⟩ := h3.slice
              have z5 := (Array.getElem?_eq_some_iff.1 y3).1
              have hR3 := RdV.made ha (fun k hk => hk.2)
              have hp4 : PgV (w3.alloc (.cells #[.slice A3 n3 c3] 132)) pb sb S D := hp3.upd (.alloc (fun _ => False) _ _) id fun _ _ => id
              have hU4 : Upd (At pb) W (w3.alloc (.cells #[.slice A3 n3 c3] 132)) := hU3.then (.alloc _ _ _)
              have y4 := heap_old y3 (.cells #[.slice A3 n3 c3] 132)
              have hn1 := number_any hR3 (by omega)
              replace hp4 := hide hp4
              replace hU4 := hide hU4
              replace y4 := hide y4
              clear hu3 hfr hp2 hU2 y2 hp3 hU3 y3 ha hR3 h3
              go_wp2_with fail
              rw [e2.out] at hn1
              refine hn1.mono ?_
              rintro e w5 ⟨hu5, v5, rfl, rfl, hR5⟩
              have hp5 : PgV w5 pb sb S D := hp4.out.upd hu5 (fun e => by omega) fun k hk e => by have := hold.out k hk; omega
              have hU5 : Upd (At pb) W w5 := hU4.out.trans hu5 fun k hk e => by omega
              have y5 := hu5.heap y4.out (by omega)
              replace hp5 := hide hp5
              replace hU5 := hide hU5
              replace y5 := hide y5
              have hn2 := number_any hR5 (by omega)
              clear hu5 hn1 hp4 hU4 y4 hR5
              go_wp2_with fail
              rw [e3.out] at hn2
              refine hn2.mono ?_
              rintro e w6 ⟨hu6, v6, rfl, rfl, hR6⟩
              have hp6 : PgV w6 pb sb S D := hp5.out.upd hu6 (fun e => by omega) fun k hk e => by have := hold.out k hk; omega
              have hU6 : Upd (At pb) W w6 := hU5.out.trans hu6 fun k hk e => by omega
              have y6 := hu6.heap y5.out (by omega)
              replace hp6 := hide hp6
              replace hU6 := hide hU6
              replace y6 := hide y6
              have hn3 := number_any hR6 (by omega)
              clear hu6 hn2 hp5 hU5 y5 hR6
              go_wp2_with fail
              rw [e4.out] at hn3
              refine hn3.mono ?_
              rintro e w7 ⟨hu7, v7, rfl, rfl, hR7⟩
              have hp7 : PgV w7 pb sb S D := hp6.out.upd hu7 (fun e => by omega) fun k hk e => by have := hold.out k hk; omega
              have hU7 : Upd (At pb) W w7 := hU6.out.trans hu7 fun k hk e => by omega
              have y7 := hu7.heap y6.out (by omega)
              replace hp7 := hide hp7
              replace hU7 := hide hU7
              replace y7 := hide y7
              clear hu7 hn3 hp6 hU6 y6 hR7
              have k0 := hp7.out.c0
              have hz7 := hU7.out.size
              obtain ⟨w8, hw8⟩ : ∃ w8, w8 = w7.alloc (.cells #[.int .i64 a, .int .i64 b, .int .i64 c] 128) := ⟨_, rfl⟩
              have q8 : w8.heap[w7.heap.size]? = some (.cells #[.int .i64 a, .int .i64 b, .int .i64 c] 128) := by rw [hw8]; exact heap_new _ _
              have hp8 : PgV w8 pb sb S D := by rw [hw8]; exact hp7.out.upd (.alloc (fun _ => False) _ _) id fun _ _ => id
              have hU8 : Upd (At pb) W w8 := by rw [hw8]; exact hU7.out.then (.alloc _ _ _)
              have y8 : w8.heap[W.heap.size]? = some (.cells #[.int .i64 0, .int .i64 0, .int .i64 0] 128) := by rw [hw8]; exact heap_old y7.out _
              have z8 : w8.heap.size = w7.heap.size + 1 := by rw [hw8]; simp
              clear hp7 hU7 y7 k0
              go_wp2_with fail
              rw [← hw8]
              have hD8 : DiskV w8.drew sb S D := hp8.disk.upd (Upd.refl (fun _ => False) w8).drew fun _ _ => id
              have hcap := capacity_any hD8 hn
              have k0 := hp8.c0
              have x0 : w8.cell? ⟨w7.heap.size, 0, none⟩ = some (.int .i64 a) := by rw [cell_at q8]; rfl
              have x1 : w8.cell? ⟨w7.heap.size, 1, none⟩ = some (.int .i64 b) := by rw [cell_at q8]; rfl
              clear hD8
              replace hw8 := hide hw8
              replace hp8 := hide hp8
              replace hU8 := hide hU8
              replace y8 := hide y8
              replace q8 := hide q8
              replace z8 := hide z8
              refine wp_region_flowP (PQ := fun Q => ∀ (T : Array Value) (w : World) (pv : Value), Upd (fun _ => False) w8 w → Q (Exit.panic [{ v := .iface 199 pv, recovered := false }]) ⟨T, []⟩ w) (fun _ => False) (factAt [(fun v _ => v = (.pointer (some ⟨w7.heap.size, 0, none⟩))), (fun v _ => v = (.int .i64 (a : Nat))), (fun v _ => v = (.bool true)), (fun v _ => v = (.bool true)), (fun v _ => v = (.pointer (some ⟨w7.heap.size, 1, none⟩))), (fun v _ => v = (.int .i64 (b : Nat))), (fun v _ => v = (.pointer (some ⟨pb, 0, none⟩))), (fun v _ => v = (.pointer (some ⟨pb, 0, none⟩))), (fun v _ => v = (.pointer (some ⟨pb, 0, none⟩))), (fun v _ => v = (.pointer (some ⟨sb, 0, none⟩))), (fun v _ => v = (.int .i64 (capN D : Nat))), (fun v _ => v = (.bool false)), (fun v _ => v = (.bool false)), (fun v w => False)]) [] (fun _ => True) (by kernel_rfl) (fkept_at ⟨FKept.eq _, FKept.eq _, FKept.eq _, FKept.eq _, FKept.eq _, FKept.eq _, FKept.eq _, FKept.eq _, FKept.eq _, FKept.eq _, FKept.eq _, FKept.eq _, FKept.eq _, fun _ _ _ h _ => h, trivial⟩) (fun _ _ h _ => h) trivial (by kernel_rfl) (by kernel_rfl) (by kernel_rfl) (by kernel_rfl) (Nat.le_of_ble_eq_true (by kernel_rfl)) ?_ ⟨?_, ?_, ?_, ?_, ?_, ?_, ?_, ?_, ?_, ?_, ?_, ?_, ?_, ?_, trivial⟩ ?_ ?_
              · first | exact trivial | assumption
              · intro T w Q hpq hu hs hv hw hd
                have hx7 : T.getD 7 undef = (.pointer (some ⟨w7.heap.size, 0, none⟩)) := hv 7 (by kernel_rfl)
                refine .inl ⟨wanted_none rfl, ?_⟩
                clear hd hv hu hs hw
                go_simp
                exact ⟨_, rfl, DstOk.some rfl, Below.refl _ _, rfl⟩
              · intro T w Q hpq hu hs hv hw hd
                have hx19 : T.getD 19 undef = (.pointer (some ⟨w7.heap.size, 0, none⟩)) := Deps.at 0 hd (by kernel_rfl)
                refine .inl ⟨wanted_none rfl, ?_⟩
                have hq0 := hu.cell x0 id
                clear hd hv hu hs hw
                go_simp
                exact ⟨_, rfl, DstOk.some rfl, Below.refl _ _, rfl⟩
              · intro T w Q hpq hu hs hv hw hd
                have hx20 : T.getD 20 undef = (.int .i64 (a : Nat)) := Deps.at 1 hd (by kernel_rfl)
                refine .inl ⟨wanted_none rfl, ?_⟩
                clear hd hv hu hs hw
                go_simp
                exact ⟨_, rfl, DstOk.some rfl, Below.refl _ _, by first | rfl | exact congrArg Value.bool (decide_eq_true (by omega))⟩
              · intro T w Q hpq hu hs hv hw hd
                have hx21 : T.getD 21 undef = (.bool true) := Deps.at 2 hd (by kernel_rfl)
                refine .inl ⟨wanted_none rfl, ?_⟩
                clear hd hv hu hs hw
                go_simp
                exact ⟨_, rfl, DstOk.some rfl, Below.refl _ _, rfl⟩
              · intro T w Q hpq hu hs hv hw hd
                have hx7 : T.getD 7 undef = (.pointer (some ⟨w7.heap.size, 0, none⟩)) := hv 7 (by kernel_rfl)
                refine .inl ⟨wanted_some rfl (Deps.at 3 hd (by kernel_rfl) : slotOf _ T 3 = .bool true), ?_⟩
                clear hd hv hu hs hw
                go_simp
                exact ⟨_, rfl, DstOk.some rfl, Below.refl _ _, rfl⟩
              · intro T w Q hpq hu hs hv hw hd
                have hx23 : T.getD 23 undef = (.pointer (some ⟨w7.heap.size, 1, none⟩)) := Deps.at 4 hd (by kernel_rfl)
                refine .inl ⟨wanted_some rfl (Deps.at 3 hd (by kernel_rfl) : slotOf _ T 3 = .bool true), ?_⟩
                have hq0 := hu.cell x1 id
                clear hd hv hu hs hw
                go_simp
                exact ⟨_, rfl, DstOk.some rfl, Below.refl _ _, rfl⟩
              · intro T w Q hpq hu hs hv hw hd
                have hx0 : T.getD 0 undef = (.pointer (some ⟨pb, 0, none⟩)) := hv 0 (by kernel_rfl)
                refine .inl ⟨wanted_some rfl (Deps.at 3 hd (by kernel_rfl) : slotOf _ T 3 = .bool true), ?_⟩
                clear hd hv hu hs hw
                go_simp
                exact ⟨_, rfl, DstOk.some rfl, Below.refl _ _, rfl⟩
              · intro T w Q hpq hu hs hv hw hd
                have hx25 : T.getD 25 undef = (.pointer (some ⟨pb, 0, none⟩)) := Deps.at 6 hd (by kernel_rfl)
                refine .inl ⟨wanted_some rfl (Deps.at 3 hd (by kernel_rfl) : slotOf _ T 3 = .bool true), ?_⟩
                clear hd hv hu hs hw
                go_simp
                exact ⟨_, rfl, DstOk.some rfl, Below.refl _ _, rfl⟩
              · intro T w Q hpq hu hs hv hw hd
                have hx26 : T.getD 26 undef = (.pointer (some ⟨pb, 0, none⟩)) := Deps.at 7 hd (by kernel_rfl)
                refine .inl ⟨wanted_some rfl (Deps.at 3 hd (by kernel_rfl) : slotOf _ T 3 = .bool true), ?_⟩
                clear hd hv hu hs hw
                go_simp
                exact ⟨_, rfl, DstOk.some rfl, Below.refl _ _, rfl⟩
              · intro T w Q hpq hu hs hv hw hd
                have hx27 : T.getD 27 undef = (.pointer (some ⟨pb, 0, none⟩)) := Deps.at 8 hd (by kernel_rfl)
                refine .inl ⟨wanted_some rfl (Deps.at 3 hd (by kernel_rfl) : slotOf _ T 3 = .bool true), ?_⟩
                have hq0 := hu.cell k0 id
                clear hd hv hu hs hw
                go_simp
                exact ⟨_, rfl, DstOk.some rfl, Below.refl _ _, rfl⟩
              · intro T w Q hpq hu hs hv hw hd
                have hx28 : T.getD 28 undef = (.pointer (some ⟨sb, 0, none⟩)) := Deps.at 9 hd (by kernel_rfl)
                refine .inl ⟨wanted_some rfl (Deps.at 3 hd (by kernel_rfl) : slotOf _ T 3 = .bool true), ?_⟩
                have hN := capacity_any (hp8.out.disk.upd hu fun _ _ => id) hn
                clear hd hv hu hs hw
                go_simp
                refine hN.mono ?_
                rintro e w2 ⟨rfl, hb⟩
                exact ⟨_, rfl, DstOk.some rfl, hb, rfl⟩
              · intro T w Q hpq hu hs hv hw hd
                have hx24 : T.getD 24 undef = (.int .i64 (b : Nat)) := Deps.at 5 hd (by kernel_rfl)
                have hx29 : T.getD 29 undef = (.int .i64 (capN D : Nat)) := Deps.at 10 hd (by kernel_rfl)
                refine .inl ⟨wanted_some rfl (Deps.at 3 hd (by kernel_rfl) : slotOf _ T 3 = .bool true), ?_⟩
                clear hd hv hu hs hw
                go_simp
                exact ⟨_, rfl, DstOk.some rfl, Below.refl _ _, by first | rfl | exact congrArg Value.bool (decide_eq_false (by omega))⟩
              · intro T w Q hpq hu hs hv hw hd
                have hx22 : T.getD 22 undef = (.bool true) := Deps.at 3 hd (by kernel_rfl)
                have hx30 : T.getD 30 undef = (.bool false) := Deps.at 11 hd (by kernel_rfl)
                refine .inl ⟨wanted_none rfl, ?_⟩
                clear hd hv hu hs hw
                go_simp
                exact ⟨_, rfl, DstOk.some rfl, Below.refl _ _, rfl⟩
              · intro T w Q hpq hu hs hv hw hd
                have hx31 : T.getD 31 undef = (.bool false) := Deps.at 12 hd (by kernel_rfl)
                refine .inl ⟨wanted_none rfl, ?_⟩
                replace hu := hide hu
                replace hpq := hide hpq
                clear hd hv hs hw
                go_simp
                refine (need_any _ _).mono ?_
                rintro e w2 ⟨rfl, -, h⟩
                obtain ⟨pv, rfl⟩ := h rfl
                exact hpq.out _ _ _ hu.out
              · intro T w pv hu
                go_wp2_with fail
                refine ⟨rfl, ?_⟩
                unfold Tells
                rw [hsp.out]
                exact ⟨hp8.out.upd hu id (fun _ _ => id), hU8.out.then (hu.mono fun _ _ h => h.elim), _, rfl⟩
              · intro T w hu hs hv hf hcur
                exact (hf 13 (by decide)).elim
          · have hsp := hide (show slotP D l = none by unfold slotP; rw [e1.out]; simp only [Option.bind_some, e2.out, e3.out, e4.out]; rw [if_neg fun h => hca h.1])
            go_enter Tryz.func71, Tryz.ntmps71
            go_wp2_with fail
            rw [← hwa.out]
            refine hr.mono ?_
            rintro e w1 ⟨v1, rfl, h1, hp1, hu1⟩
            have y1 := hu1.heap y0.out (by omega)
            have hU1 := hU0.out.then hu1
            have ha := h1.arg.mono' h1.arg
            have z1 := hu1.size
            obtain ⟨A1, n1, c1, rfl⟩ := h1.slice
            have hR1 := RdV.made ha (fun k hk => hk.2)
            have hp2 : PgV (w1.alloc (.cells #[.slice A1 n1 c1] 132)) pb sb S D := hp1.upd (.alloc (fun _ => False) _ _) id fun _ _ => id
            have hU2 : Upd (At pb) W (w1.alloc (.cells #[.slice A1 n1 c1] 132)) := hU1.then (.alloc _ _ _)
            have y2 := heap_old y1 (.cells #[.slice A1 n1 c1] 132)
            have hfr := frame_any hR1 (by have := hls.out; omega) (hT.out.upd hU2 (by omega)) (by omega)
            replace hp2 := hide hp2
            replace hU2 := hide hU2
            replace y2 := hide y2
            clear hr h1 hp1 hu1 y1 hU1 ha hR1
            go_wp2_with fail
            rw [e1.out] at hfr
            refine hfr.mono ?_
            rintro e w3 ⟨hu3, v3, rfl, h3, -⟩
            have hp3 : PgV w3 pb sb S D := hp2.out.upd hu3 (fun e => by omega) fun k hk e => by have := hold.out k hk; omega
            have hU3 : Upd (At pb) W w3 := hU2.out.trans hu3 fun k hk e => by omega
            have y3 := hu3.heap y2.out (by omega)
            have z3 := hU3.size
            have ha := h3.arg.mono' h3.arg
            obtain ⟨A3, n3, c3, rfl⟩ := h3.slice
            have z5 := (Array.getElem?_eq_some_iff.1 y3).1
            have hR3 := RdV.made ha (fun k hk => hk.2)
            have hp4 : PgV (w3.alloc (.cells #[.slice A3 n3 c3] 132)) pb sb S D := hp3.upd (.alloc (fun _ => False) _ _) id fun _ _ => id
            have hU4 : Upd (At pb) W (w3.alloc (.cells #[.slice A3 n3 c3] 132)) := hU3.then (.alloc _ _ _)
            have y4 := heap_old y3 (.cells #[.slice A3 n3 c3] 132)
            have hn1 := number_any hR3 (by omega)
            replace hp4 := hide hp4
            replace hU4 := hide hU4
            replace y4 := hide y4
            clear hu3 hfr hp2 hU2 y2 hp3 hU3 y3 ha hR3 h3
            go_wp2_with fail
            rw [e2.out] at hn1
            refine hn1.mono ?_
            rintro e w5 ⟨hu5, v5, rfl, rfl, hR5⟩
            have hp5 : PgV w5 pb sb S D := hp4.out.upd hu5 (fun e => by omega) fun k hk e => by have := hold.out k hk; omega
            have hU5 : Upd (At pb) W w5 := hU4.out.trans hu5 fun k hk e => by omega
            have y5 := hu5.heap y4.out (by omega)
            replace hp5 := hide hp5
            replace hU5 := hide hU5
            replace y5 := hide y5
            have hn2 := number_any hR5 (by omega)
            clear hu5 hn1 hp4 hU4 y4 hR5
            go_wp2_with fail
            rw [e3.out] at hn2
            refine hn2.mono ?_
            rintro e w6 ⟨hu6, v6, rfl, rfl, hR6⟩
            have hp6 : PgV w6 pb sb S D := hp5.out.upd hu6 (fun e => by omega) fun k hk e => by have := hold.out k hk; omega
            have hU6 : Upd (At pb) W w6 := hU5.out.trans hu6 fun k hk e => by omega
            have y6 := hu6.heap y5.out (by omega)
            replace hp6 := hide hp6
            replace hU6 := hide hU6
            replace y6 := hide y6
            have hn3 := number_any hR6 (by omega)
            clear hu6 hn2 hp5 hU5 y5 hR6
            go_wp2_with fail
            rw [e4.out] at hn3
            refine hn3.mono ?_
            rintro e w7 ⟨hu7, v7, rfl, rfl, hR7⟩
            have hp7 : PgV w7 pb sb S D := hp6.out.upd hu7 (fun e => by omega) fun k hk e => by have := hold.out k hk; omega
            have hU7 : Upd (At pb) W w7 := hU6.out.trans hu7 fun k hk e => by omega
            have y7 := hu7.heap y6.out (by omega)
            replace hp7 := hide hp7
            replace hU7 := hide hU7
            replace y7 := hide y7
            clear hu7 hn3 hp6 hU6 y6 hR7
            have k0 := hp7.out.c0
            have hz7 := hU7.out.size
            obtain ⟨w8, hw8⟩ : ∃ w8, w8 = w7.alloc (.cells #[.int .i64 a, .int .i64 b, .int .i64 c] 128) := ⟨_, rfl⟩
            have q8 : w8.heap[w7.heap.size]? = some (.cells #[.int .i64 a, .int .i64 b, .int .i64 c] 128) := by rw [hw8]; exact heap_new _ _
            have hp8 : PgV w8 pb sb S D := by rw [hw8]; exact hp7.out.upd (.alloc (fun _ => False) _ _) id fun _ _ => id
            have hU8 : Upd (At pb) W w8 := by rw [hw8]; exact hU7.out.then (.alloc _ _ _)
            have y8 : w8.heap[W.heap.size]? = some (.cells #[.int .i64 0, .int .i64 0, .int .i64 0] 128) := by rw [hw8]; exact heap_old y7.out _
            have z8 : w8.heap.size = w7.heap.size + 1 := by rw [hw8]; simp
            clear hp7 hU7 y7 k0
            go_wp2_with fail
            rw [← hw8]
            have hD8 : DiskV w8.drew sb S D := hp8.disk.upd (Upd.refl (fun _ => False) w8).drew fun _ _ => id
            have hcap := capacity_any hD8 hn
            have k0 := hp8.c0
            have x0 : w8.cell? ⟨w7.heap.size, 0, none⟩ = some (.int .i64 a) := by rw [cell_at q8]; rfl
            have x1 : w8.cell? ⟨w7.heap.size, 1, none⟩ = some (.int .i64 b) := by rw [cell_at q8]; rfl
            clear hD8
            replace hw8 := hide hw8
            replace hp8 := hide hp8
            replace hU8 := hide hU8
            replace y8 := hide y8
            replace q8 := hide q8
            replace z8 := hide z8
            refine wp_region_flowP (PQ := fun Q => ∀ (T : Array Value) (w : World) (pv : Value), Upd (fun _ => False) w8 w → Q (Exit.panic [{ v := .iface 199 pv, recovered := false }]) ⟨T, []⟩ w) (fun _ => False) (factAt [(fun v _ => v = (.pointer (some ⟨w7.heap.size, 0, none⟩))), (fun v _ => v = (.int .i64 (a : Nat))), (fun v _ => v = (.bool false)), (fun v _ => v = (.bool false)), (fun v _ => v = undef), (fun v _ => v = undef), (fun v _ => v = undef), (fun v _ => v = undef), (fun v _ => v = undef), (fun v _ => v = undef), (fun v _ => v = undef), (fun v _ => v = undef), (fun v _ => v = (.bool false)), (fun v w => False)]) [] (fun _ => True) (by kernel_rfl) (fkept_at ⟨FKept.eq _, FKept.eq _, FKept.eq _, FKept.eq _, FKept.eq _, FKept.eq _, FKept.eq _, FKept.eq _, FKept.eq _, FKept.eq _, FKept.eq _, FKept.eq _, FKept.eq _, fun _ _ _ h _ => h, trivial⟩) (fun _ _ h _ => h) trivial (by kernel_rfl) (by kernel_rfl) (by kernel_rfl) (by kernel_rfl) (Nat.le_of_ble_eq_true (by kernel_rfl)) ?_ ⟨?_, ?_, ?_, ?_, ?_, ?_, ?_, ?_, ?_, ?_, ?_, ?_, ?_, ?_, trivial⟩ ?_ ?_
            · first | exact trivial | assumption
            · intro T w Q hpq hu hs hv hw hd
              have hx7 : T.getD 7 undef = (.pointer (some ⟨w7.heap.size, 0, none⟩)) := hv 7 (by kernel_rfl)
              refine .inl ⟨wanted_none rfl, ?_⟩
              clear hd hv hu hs hw
              go_simp
              exact ⟨_, rfl, DstOk.some rfl, Below.refl _ _, rfl⟩
            · intro T w Q hpq hu hs hv hw hd
              have hx19 : T.getD 19 undef = (.pointer (some ⟨w7.heap.size, 0, none⟩)) := Deps.at 0 hd (by kernel_rfl)
              refine .inl ⟨wanted_none rfl, ?_⟩
              have hq0 := hu.cell x0 id
              clear hd hv hu hs hw
              go_simp
              exact ⟨_, rfl, DstOk.some rfl, Below.refl _ _, rfl⟩
            · intro T w Q hpq hu hs hv hw hd
              have hx20 : T.getD 20 undef = (.int .i64 (a : Nat)) := Deps.at 1 hd (by kernel_rfl)
              refine .inl ⟨wanted_none rfl, ?_⟩
              clear hd hv hu hs hw
              go_simp
              exact ⟨_, rfl, DstOk.some rfl, Below.refl _ _, by first | rfl | exact congrArg Value.bool (decide_eq_false (by omega))⟩
            · intro T w Q hpq hu hs hv hw hd
              have hx21 : T.getD 21 undef = (.bool false) := Deps.at 2 hd (by kernel_rfl)
              refine .inl ⟨wanted_none rfl, ?_⟩
              clear hd hv hu hs hw
              go_simp
              exact ⟨_, rfl, DstOk.some rfl, Below.refl _ _, rfl⟩
            · intro T w Q hpq hu hs hv hw hd
              exact .inr ⟨wanted_not rfl (Deps.at 3 hd (by kernel_rfl) : slotOf _ T 3 = .bool (!true)), rfl⟩
            · intro T w Q hpq hu hs hv hw hd
              exact .inr ⟨wanted_not rfl (Deps.at 3 hd (by kernel_rfl) : slotOf _ T 3 = .bool (!true)), rfl⟩
            · intro T w Q hpq hu hs hv hw hd
              exact .inr ⟨wanted_not rfl (Deps.at 3 hd (by kernel_rfl) : slotOf _ T 3 = .bool (!true)), rfl⟩
            · intro T w Q hpq hu hs hv hw hd
              exact .inr ⟨wanted_not rfl (Deps.at 3 hd (by kernel_rfl) : slotOf _ T 3 = .bool (!true)), rfl⟩
            · intro T w Q hpq hu hs hv hw hd
              exact .inr ⟨wanted_not rfl (Deps.at 3 hd (by kernel_rfl) : slotOf _ T 3 = .bool (!true)), rfl⟩
            · intro T w Q hpq hu hs hv hw hd
              exact .inr ⟨wanted_not rfl (Deps.at 3 hd (by kernel_rfl) : slotOf _ T 3 = .bool (!true)), rfl⟩
            · intro T w Q hpq hu hs hv hw hd
              exact .inr ⟨wanted_not rfl (Deps.at 3 hd (by kernel_rfl) : slotOf _ T 3 = .bool (!true)), rfl⟩
            · intro T w Q hpq hu hs hv hw hd
              exact .inr ⟨wanted_not rfl (Deps.at 3 hd (by kernel_rfl) : slotOf _ T 3 = .bool (!true)), rfl⟩
            · intro T w Q hpq hu hs hv hw hd
              have hx22 : T.getD 22 undef = (.bool false) := Deps.at 3 hd (by kernel_rfl)
              have hx30 : T.getD 30 undef = undef := Deps.at 11 hd (by kernel_rfl)
              refine .inl ⟨wanted_none rfl, ?_⟩
              clear hd hv hu hs hw
              go_simp
              exact ⟨_, rfl, DstOk.some rfl, Below.refl _ _, rfl⟩
            · intro T w Q hpq hu hs hv hw hd
              have hx31 : T.getD 31 undef = (.bool false) := Deps.at 12 hd (by kernel_rfl)
              refine .inl ⟨wanted_none rfl, ?_⟩
              replace hu := hide hu
              replace hpq := hide hpq
              clear hd hv hs hw
              go_simp
              refine (need_any _ _).mono ?_
              rintro e w2 ⟨rfl, -, h⟩
              obtain ⟨pv, rfl⟩ := h rfl
              exact hpq.out _ _ _ hu.out
            · intro T w pv hu
              go_wp2_with fail
              refine ⟨rfl, ?_⟩
              unfold Tells
              rw [hsp.out]
              exact ⟨hp8.out.upd hu id (fun _ _ => id), hU8.out.then (hu.mono fun _ _ h => h.elim), _, rfl⟩
            · intro T w hu hs hv hf hcur
              exact (hf 13 (by decide)).elim
end
end Go.Proofs.YtpnboihbifhigaaGreatDoor
