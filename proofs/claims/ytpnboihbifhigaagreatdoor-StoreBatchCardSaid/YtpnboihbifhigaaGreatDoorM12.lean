/- Part 12 of the walks (merged): Find, OpenW. -/
import Derived.Test.YtpnboihbifhigaaGreatDoorM11
import Derived.Test.YtpnboihbifhigaaGreatDoorM7
/- Walks of wal: a log is found, or none. -/
namespace Go.Proofs.YtpnboihbifhigaaGreatDoor
open Go Go.RowKit
def Found (pb sb : Nat) (S : Nat → Prop) (D : DS) (W : World) (o : Option (Nat × Ext × List (List UInt8))) (e : Ending) (w' : World) : Prop :=
  PgV w' pb sb S D ∧ Upd (At pb) W w' ∧ match o with
    | some (live, x, rs) => ∃ lb v, e = .returned (.tuple #[.pointer (some ⟨lb, 0, none⟩), v, .bool true]) ∧ W.heap.size ≤ lb ∧ LogV w' lb sb live x ∧ RecsO w' W.heap.size v rs ∧ ∀ k, Own v k → k ≠ lb
    | none => e = .returned (.tuple #[.pointer none, .slice none 0 0, .bool false])
theorem caught_find (g : Nat) (u : TypeId) (pv : Value) (older : List PanicEntry) (w : World) {y2 y3 y4 : Value} (h2 : w.heap[g]? = some (.cells #[y2] 40)) (h3 : w.heap[g + 1]? = some (.cells #[y3] 49)) (h4 : w.heap[g + 2]? = some (.cells #[y4] 4)) :
    CallsD Tryz.prog 69 #[.pointer (some ⟨g, 0, none⟩), .pointer (some ⟨g + 1, 0, none⟩), .pointer (some ⟨g + 2, 0, none⟩)] (.panicking ({ v := .iface u pv, recovered := false } :: older)) w fun e u' w' =>
      e = .returned (.tuple #[]) ∧ u' = .panicking ({ v := .iface u pv, recovered := true } :: older) ∧ w'.cell? ⟨g, 0, none⟩ = some (.pointer none) ∧ w'.cell? ⟨g + 1, 0, none⟩ = some (.slice none 0 0) ∧ w'.cell? ⟨g + 2, 0, none⟩ = some (.bool false) ∧ Upd (fun k => k = g ∨ k = g + 1 ∨ k = g + 2) w w' := by
  have c2 : w.cell? ⟨g, 0, none⟩ = some y2 := by rw [cell_at h2]; rfl
  have c3 : w.cell? ⟨g + 1, 0, none⟩ = some y3 := by rw [cell_at h3]; rfl
  have c4 : w.cell? ⟨g + 2, 0, none⟩ = some y4 := by rw [cell_at h4]; rfl
  have f2 := frozen_at h2 0
  have f3 := frozen_at h3 0
  have f4 := frozen_at h4 0
  have hU : Upd (fun k => k = g ∨ k = g + 1 ∨ k = g + 2) w (((w.setCell ⟨g, 0, none⟩ (.pointer none)).setCell ⟨g + 1, 0, none⟩ (.slice none 0 0)).setCell ⟨g + 2, 0, none⟩ (.bool false)) :=
    ((Upd.set (F := fun k => k = g ∨ k = g + 1 ∨ k = g + 2) w (a := ⟨g, 0, none⟩) (.inl rfl) _).then (.set (F := fun k => k = g ∨ k = g + 1 ∨ k = g + 2) _ (a := ⟨g + 1, 0, none⟩) (.inr (.inl rfl)) _)).then (.set (F := fun k => k = g ∨ k = g + 1 ∨ k = g + 2) _ (a := ⟨g + 2, 0, none⟩) (.inr (.inr rfl)) _)
  have r2 : (((w.setCell ⟨g, 0, none⟩ (.pointer none)).setCell ⟨g + 1, 0, none⟩ (.slice none 0 0)).setCell ⟨g + 2, 0, none⟩ (.bool false)).cell? ⟨g, 0, none⟩ = some (.pointer none) := by
    rw [cell_at (cs := #[.pointer none]) (t := 40)]
    · rfl
    · rw [heap_set_other (by omega), heap_set_other (by omega), heap_set h2]; rfl
  have r3 : (((w.setCell ⟨g, 0, none⟩ (.pointer none)).setCell ⟨g + 1, 0, none⟩ (.slice none 0 0)).setCell ⟨g + 2, 0, none⟩ (.bool false)).cell? ⟨g + 1, 0, none⟩ = some (.slice none 0 0) := by
    rw [cell_at (cs := #[.slice none 0 0]) (t := 49)]
    · rfl
    · rw [heap_set_other (by omega), heap_set (by rw [heap_set_other (by omega)]; exact h3)]; rfl
  have r4 : (((w.setCell ⟨g, 0, none⟩ (.pointer none)).setCell ⟨g + 1, 0, none⟩ (.slice none 0 0)).setCell ⟨g + 2, 0, none⟩ (.bool false)).cell? ⟨g + 2, 0, none⟩ = some (.bool false) := by
    rw [cell_at (cs := #[.bool false]) (t := 4)]
    · rfl
    · rw [heap_set (by rw [heap_set_other (by omega), heap_set_other (by omega)]; exact h4)]; rfl
  refine callsD_of_wpS Tryz.func69 rfl fun c₀ cs hu => ?_
  apply wpS_seq
  apply wpS_region
  simp [wpOpsS, go_sem, recoverD, hu, Tryz.ntmps69, Exit.thenS]
  refine wpS_cond (t := true) (by simp [Act.eval, Array.replicate]) ?_
  simp only [if_true]
  apply wpS_region
  simp [wpOpsS, go_sem, c2, c3, c4, f2, f3, f4, bodyPostS, results, Tryz.results69]
  exact hU
theorem idle_find (g : Nat) (w : World) :
    CallsD Tryz.prog 69 #[.pointer (some ⟨g, 0, none⟩), .pointer (some ⟨g + 1, 0, none⟩), .pointer (some ⟨g + 2, 0, none⟩)] .returning w fun e u' w' => e = .returned (.tuple #[]) ∧ u' = .returning ∧ w' = w := by
  refine callsD_of_wpS Tryz.func69 rfl fun c₀ cs hu => ?_
  apply wpS_seq
  apply wpS_region
  simp [wpOpsS, go_sem, recoverD, hu, Tryz.ntmps69, Exit.thenS]
  refine wpS_cond (t := false) (by simp [Act.eval, Array.replicate]) ?_
  simp only [Bool.false_eq_true, if_false]
  refine wpS_of_wp (wp_skip ?_)
  cases c₀
  simp_all [bodyPostS, results, Tryz.results69]
theorem slotP_ok {D : DS} {l : List UInt8} {x : Ext} (h : slotP D l = some x) : x.area ≤ 1 ∧ x.bytes ≤ capN D ∧ x.records < 4294967296 := by
  unfold slotP at h
  cases e1 : frameP l with
  | none => rw [e1] at h; cases h
  | some f =>
    rw [e1] at h
    simp only [Option.bind_some] at h
    cases e2 : numP f.1 with
    | none => rw [e2] at h; cases h
    | some a =>
      rw [e2] at h
      simp only [Option.bind_some] at h
      cases e3 : numP a.2 with
      | none => rw [e3] at h; cases h
      | some b =>
        rw [e3] at h
        simp only [Option.bind_some] at h
        cases e4 : numP b.2 with
        | none => rw [e4] at h; cases h
        | some c =>
          rw [e4] at h
          simp only [Option.bind_some] at h
          split at h
          · rename_i hc
            injection h with h
            subst h
            exact ⟨by have := hc.1; simp only; omega, hc.2, (numP_len (n := c.1) (r := c.2) e4).1⟩
          · cases h
section
variable {W : World} {pb sb : Nat} {S : Nat → Prop} {D : DS}
set_option maxRecDepth 100000 in
set_option maxHeartbeats 3200000 in
theorem find_any (h : PgV W pb sb S D) (hd : D.dead = false) (hT : Tab W) (hpb : 1 < pb) (hn : 16 ≤ D.n) : Calls Tryz.prog 44 #[.pointer (some ⟨pb, 0, none⟩)] W fun e w' => Found pb sb S D W (findP D) e w' := by
  have hmf : ∀ (fn : Fn) (first cap : Array Value) (w : World), (Instr.makeFunc fn first cap).run Tryz.prog w = .ok (.func fn first cap) w := fun _ _ _ _ => rfl
  have hs := h.disk.s1
  have hn1 := h.disk.n1
  have hlt := h.lt
  have hold := h.disk.old
  have hll : ∀ i, i < D.n → (D.last i).length = D.size := fun i hi => h.disk.last_len hi
  obtain ⟨wa, hwa⟩ : ∃ wa, ((W.alloc (.cells #[.pointer none] 40)).alloc (.cells #[.slice none 0 0] 49)).alloc (.cells #[.bool false] 4) = wa := ⟨_, rfl⟩
  have g2 : wa.heap[W.heap.size]? = some (.cells #[.pointer none] 40) := by rw [← hwa]; exact heap_old (heap_old (heap_new _ _) _) _
  have g3 : wa.heap[W.heap.size + 1]? = some (.cells #[.slice none 0 0] 49) := by
    have := heap_new (W.alloc (.cells #[.pointer none] 40)) (.cells #[.slice none 0 0] 49)
    rw [World.size_alloc] at this
    rw [← hwa]; exact heap_old this _
  have g4 : wa.heap[W.heap.size + 2]? = some (.cells #[.bool false] 4) := by
    have := heap_new ((W.alloc (.cells #[.pointer none] 40)).alloc (.cells #[.slice none 0 0] 49)) (.cells #[.bool false] 4)
    rw [World.size_alloc, World.size_alloc, hwa] at this
    exact this
  have hpA : PgV wa pb sb S D := by rw [← hwa]; exact ((h.upd (.alloc (fun _ => False) _ _) id fun _ _ => id).upd (.alloc (fun _ => False) _ _) id fun _ _ => id).upd (.alloc (fun _ => False) _ _) id fun _ _ => id
  have hUA : Upd (At pb) W wa := by rw [← hwa]; exact ((Upd.alloc _ _ _).then (.alloc _ _ _)).then (.alloc _ _ _)
  have hzA : wa.heap.size = W.heap.size + 3 := by rw [← hwa]; simp
  have hmk := readMark_any hpA hd (hll 0 (by omega))
  clear h hpA
  replace hwa := hide hwa
  replace g2 := hide g2
  replace g3 := hide g3
  replace g4 := hide g4
  replace hUA := hide hUA
  replace hold := hide hold
  replace hll := hide hll
  replace hT := hide hT
  replace hd := hide hd
  cases hm : markP (D.last 0) with
  | none =>
    rw [hm] at hmk
    have hfp := hide (show findP D = none by unfold findP; rw [hm]; rfl)
    clear hm
    go_enter_defers Tryz.func44, Tryz.ntmps44
    go_wp2_with fail
    rw [hwa.out]
    refine hmk.mono ?_
    rintro e w1 ⟨hp1, hU1, pv, rfl⟩
    have q2 := hide (hU1.heap g2.out (by omega))
    have q3 := hide (hU1.heap g3.out (by omega))
    have q4 := hide (hU1.heap g4.out (by omega))
    replace hU1 := hide (hUA.out.then hU1)
    replace hp1 := hide hp1
    clear hmk
    go_wp2_with fail
    refine leaves_cons (f := 69) (args := #[.pointer (some ⟨W.heap.size, 0, none⟩), .pointer (some ⟨W.heap.size + 1, 0, none⟩), .pointer (some ⟨W.heap.size + 2, 0, none⟩)]) (by simp) (by simp [go_sem]) ?_
    refine (caught_find W.heap.size _ pv [] w1 q2.out q3.out q4.out).mono ?_
    rintro e u' wz ⟨rfl, rfl, r2, r3, r4, hUz⟩
    refine ⟨.tuple #[.pointer none, .slice none 0 0, .bool false], by simp [results, Tryz.results44, go_sem, r2, r3, r4], ?_⟩
    unfold Found
    rw [hfp.out]
    exact ⟨hp1.out.upd hUz (fun e => by omega) fun k hk e => by have := hold.out k hk; omega, hU1.out.trans hUz fun k hk e => by omega, rfl⟩
  | some live =>
    rw [hm] at hmk
    have hlv : live ≤ 1 := by
      unfold markP at hm
      split at hm
      · split at hm
        · injection hm with hm
          omega
        · cases hm
      · cases hm
    cases hms : slotP D (D.last (1 + live)) with
    | none =>
      have hfp := hide (show findP D = none by unfold findP; rw [hm]; simp only [Option.bind_some]; rw [hms]; rfl)
      replace hms := hide hms
      clear hm
      go_enter_defers Tryz.func44, Tryz.ntmps44
      go_wp2_with fail
      rw [hwa.out]
      refine hmk.mono ?_
      rintro e w1 ⟨hp1, hU1, v1, rfl, rfl⟩
      have q2 := hide (hU1.heap g2.out (by omega))
      have q3 := hide (hU1.heap g3.out (by omega))
      have q4 := hide (hU1.heap g4.out (by omega))
      have hz1 := hU1.size
      have hUW := hUA.out.then hU1
      have hsl := readSlot_any hp1 hd.out (hT.out.upd hUW (by omega)) hpb hn live hlv (hll.out _ (by omega))
      rw [hms.out] at hsl
      replace hUW := hide hUW
      replace hp1 := hide hp1
      clear hmk hU1
      go_wp2_with fail
      refine hsl.mono ?_
      rintro e w2 ⟨hp2, hU2, pv, rfl⟩
      replace q2 := hide (hU2.heap q2.out (by omega))
      replace q3 := hide (hU2.heap q3.out (by omega))
      replace q4 := hide (hU2.heap q4.out (by omega))
      replace hU2 := hide (hUW.out.then hU2)
      replace hp2 := hide hp2
      clear hsl
      go_wp2_with fail
      refine leaves_cons (f := 69) (args := #[.pointer (some ⟨W.heap.size, 0, none⟩), .pointer (some ⟨W.heap.size + 1, 0, none⟩), .pointer (some ⟨W.heap.size + 2, 0, none⟩)]) (by simp) (by simp [go_sem]) ?_
      refine (caught_find W.heap.size _ pv [] w2 q2.out q3.out q4.out).mono ?_
      rintro e u' wz ⟨rfl, rfl, r2, r3, r4, hUz⟩
      refine ⟨.tuple #[.pointer none, .slice none 0 0, .bool false], by simp [results, Tryz.results44, go_sem, r2, r3, r4], ?_⟩
      unfold Found
      rw [hfp.out]
      exact ⟨hp2.out.upd hUz (fun e => by omega) fun k hk e => by have := hold.out k hk; omega, hU2.out.trans hUz fun k hk e => by omega, rfl⟩
    | some x =>
      have hfp := hide (show findP D = (recsP x.records (extL D x)).bind fun q => if q.2 = [] then some (live, x, q.1) else none by unfold findP; rw [hm]; simp only [Option.bind_some]; rw [hms]; rfl)
      obtain ⟨hxa, hxb, hxr⟩ := slotP_ok hms
      replace hms := hide hms
      clear hm
      go_enter_defers Tryz.func44, Tryz.ntmps44
      go_wp2_with fail
      rw [hwa.out]
      refine hmk.mono ?_
      rintro e w1 ⟨hp1, hU1, v1, rfl, rfl⟩
      have q2 := hide (hU1.heap g2.out (by omega))
      have q3 := hide (hU1.heap g3.out (by omega))
      have q4 := hide (hU1.heap g4.out (by omega))
      have hz1 := hU1.size
      have hUW := hUA.out.then hU1
      have hsl := readSlot_any hp1 hd.out (hT.out.upd hUW (by omega)) hpb hn live hlv (hll.out _ (by omega))
      rw [hms.out] at hsl
      replace hUW := hide hUW
      replace hp1 := hide hp1
      clear hmk hU1
      go_wp2_with fail
      refine hsl.mono ?_
      rintro e w2 ⟨hp2, hU2, v2, rfl, rfl⟩
      have q2 := hide (hU2.heap q2.out (by omega))
      have q3 := hide (hU2.heap q3.out (by omega))
      have q4 := hide (hU2.heap q4.out (by omega))
      have hz2 := hU2.size
      replace hUW := hUW.out.then hU2
      obtain ⟨w3, hw3⟩ : ∃ w3, w3 = w2.alloc (.cells #[.int .i64 x.area, .int .i64 x.bytes, .int .i64 x.records] 128) := ⟨_, rfl⟩
      have q6 : w3.heap[w2.heap.size]? = some (.cells #[.int .i64 x.area, .int .i64 x.bytes, .int .i64 x.records] 128) := by rw [hw3]; exact heap_new _ _
      have hp3 : PgV w3 pb sb S D := by rw [hw3]; exact hp2.upd (.alloc (fun _ => False) _ _) id fun _ _ => id
      have hU3 : Upd (At pb) W w3 := by rw [hw3]; exact hUW.then (.alloc _ _ _)
      have hz3 : w3.heap.size = w2.heap.size + 1 := by rw [hw3]; simp
      have t2 := heap_old q2.out (.cells #[.int .i64 x.area, .int .i64 x.bytes, .int .i64 x.records] 128)
      rw [← hw3] at t2
      replace q2 := hide t2
      clear t2
      have t3 := heap_old q3.out (.cells #[.int .i64 x.area, .int .i64 x.bytes, .int .i64 x.records] 128)
      rw [← hw3] at t3
      replace q3 := hide t3
      clear t3
      have t4 := heap_old q4.out (.cells #[.int .i64 x.area, .int .i64 x.bytes, .int .i64 x.records] 128)
      rw [← hw3] at t4
      replace q4 := hide t4
      clear t4
      have x0 : w3.cell? ⟨w2.heap.size, 0, none⟩ = some (.int .i64 x.area) := by rw [cell_at q6]; rfl
      have x1 : w3.cell? ⟨w2.heap.size, 1, none⟩ = some (.int .i64 x.bytes) := by rw [cell_at q6]; rfl
      have x2 : w3.cell? ⟨w2.heap.size, 2, none⟩ = some (.int .i64 x.records) := by rw [cell_at q6]; rfl
      have hld := load_any hp3 hd.out hn x hxa hxb
      unfold extV at hld
      replace q6 := hide q6
      replace hp3 := hide hp3
      replace hU3 := hide hU3
      clear hsl hU2 hUW hp2
      unfold extV
      go_wp2_with fail
      rw [← hw3]
      replace hw3 := hide hw3
      refine hld.mono ?_
      rintro e w4 ⟨v4, rfl, ha4, hp4, hU4⟩
      replace q2 := hide (hU4.heap q2.out (by omega))
      replace q3 := hide (hU4.heap q3.out (by omega))
      replace q4 := hide (hU4.heap q4.out (by omega))
      replace q6 := hide (hU4.heap q6.out (by omega))
      have hz4 := hU4.size
      have hUW := hU3.out.then hU4
      obtain ⟨A4, c4, rfl, -⟩ := id ha4
      have x2' : (w4.alloc (.cells #[.slice A4 (bv (extL D x)).length c4] 132)).cell? ⟨w2.heap.size, 2, none⟩ = some (.int .i64 x.records) := by rw [cell_at (heap_old q6.out _)]; rfl
      obtain ⟨w5, hw5⟩ : ∃ w5, w5 = w4.alloc (.cells #[.slice A4 (bv (extL D x)).length c4] 132) := ⟨_, rfl⟩
      have hR5 : RdV w5 w4.heap.size (fun k => w3.heap.size ≤ k ∧ k < w4.heap.size) (extL D x) := by rw [hw5]; exact RdV.made ha4 fun k hk => hk.2
      have hp5 : PgV w5 pb sb S D := by rw [hw5]; exact hp4.upd (.alloc (fun _ => False) _ _) id fun _ _ => id
      have hU5 : Upd (At pb) W w5 := by rw [hw5]; exact hUW.then (.alloc _ _ _)
      have hz5 : w5.heap.size = w4.heap.size + 1 := by rw [hw5]; simp
      have t2 := heap_old q2.out (.cells #[.slice A4 (bv (extL D x)).length c4] 132)
      rw [← hw5] at t2
      replace q2 := hide t2
      clear t2
      have t3 := heap_old q3.out (.cells #[.slice A4 (bv (extL D x)).length c4] 132)
      rw [← hw5] at t3
      replace q3 := hide t3
      clear t3
      have t4 := heap_old q4.out (.cells #[.slice A4 (bv (extL D x)).length c4] 132)
      rw [← hw5] at t4
      replace q4 := hide t4
      clear t4
      have t6 := heap_old q6.out (.cells #[.slice A4 (bv (extL D x)).length c4] 132)
      rw [← hw5] at t6
      replace q6 := hide t6
      clear t6
      replace hR5 := hide hR5
      replace hp5 := hide hp5
      replace hU5 := hide hU5
      clear hld hU4 hUW hp4 ha4 hp3 hU3 x0 x1 x2
      go_wp2_with fail
      rw [← hw5]
      replace hw5 := hide hw5
      clear x2'
      obtain ⟨B, hB⟩ : ∃ B, B = w5.heap.size := ⟨_, rfl⟩
      obtain ⟨L, hL⟩ : ∃ L, L = extL D x := ⟨_, rfl⟩
      rw [← hL] at hfp hR5 ⊢
      have hLl : L.length ≤ 8380416 := by
        rw [hL]
        unfold extL
        rw [List.length_take]
        have := Nat.mul_le_mul (area_le hn1.2) hs.2
        unfold capN at hxb
        omega
      clear hL
      have hRF5 : RF w5 w4.heap.size (W.heap.size + 1) B (fun k => w3.heap.size ≤ k ∧ k < w4.heap.size) (.slice none 0 0) (.slice none 0 0) [] L := ⟨hR5.out, ⟨[], fun _ => False, World.ownsRow_nil _ _ _ _, fun i u r h => by simp at h, fun u h => by simp at h, fun _ h => h.elim⟩, q3.out, by omega, by omega, by omega, by omega, fun k hk => by omega⟩
      replace hRF5 := hide hRF5
      have hzb1 : w4.heap.size < B := by omega
      have hz3' : w2.heap.size < w3.heap.size := by omega
      have hzA' : W.heap.size + 3 ≤ wa.heap.size := by omega
      clear hB hz5 hz3 hzA
      go_loopw [20] (fun i wr => ∃ (k : Nat) (ds : List (List UInt8)) (rest : List UInt8) (v : Value), k ≤ x.records ∧ i = .int .i64 k ∧ ds.length = k ∧ rest.length ≤ L.length ∧ recsP x.records L = (recsP (x.records - k) rest).bind (fun q => some (ds ++ q.1, q.2)) ∧ RF wr w4.heap.size (W.heap.size + 1) B (fun k => w3.heap.size ≤ k ∧ k < w4.heap.size) v v ds rest ∧ SlF v ∧ wr.heap[W.heap.size]? = some (.cells #[.pointer none] 40) ∧ wr.heap[W.heap.size + 2]? = some (.cells #[.bool false] 4) ∧ wr.heap[w2.heap.size]? = some (.cells #[.int .i64 x.area, .int .i64 x.bytes, .int .i64 x.records] 128) ∧ PgV wr pb sb S D ∧ Upd (At pb) W wr) (fun i _ => x.records - (intOf i).toNat)
      case atStart =>
        refine ⟨0, [], L, _, Nat.zero_le _, rfl, rfl, Nat.le_refl _, ?_, hRF5.out, ⟨_, _, _, rfl⟩, q2.out, q4.out, q6.out, hp5.out, hU5.out⟩
        rw [Nat.sub_zero]
        cases recsP x.records L <;> rfl
      case round =>
        clear hR5 q2 q3 q4 q6 hRF5 hp5 hU5
        obtain ⟨k, ds, rest, v, hk, rfl, hdl, hrl, hre, hRF, ⟨A, n, c, rfl⟩, q2, q4, q6, hp, hU⟩ := hrel
        have hTr := hT.out.upd hU (by omega)
        have hbc := hRF.cell
        have hRFo := hide fun j hj => hRF.own (k := j) hj
        have hBz := hRF.hB
        replace q2 := hide q2
        replace q4 := hide q4
        replace q6 := hide q6
        replace hp := hide hp
        replace hU := hide hU
        replace hre := hide hre
        replace hdl := hide hdl
        by_cases hlt2 : k < x.records
        · cases hfr : frameP rest with
          | none =>
            have hR := hide hRF.rd
            have hfp2 : findP D = none := by
              rw [hfp.out, hre.out]
              obtain ⟨m, hm⟩ : ∃ m, x.records - k = m + 1 := ⟨x.records - k - 1, by omega⟩
              rw [hm]
              simp only [recsP]
              rw [hfr]
              rfl
            replace hfp := hide hfp2
            have hTab := hide fun w (hu : Upd (fun _ => False) wr w) => hTr.upd hu id
            replace hfr := hide hfr
            replace hRF := hide hRF
            clear hfp2
            go_wp2_with fail
            refine wp_region_flowP (PQ := fun Q => ∀ (T : Array Value) (w : World) (pv : Value), T.getD 2 undef = (.pointer (some ⟨W.heap.size, 0, none⟩)) → T.getD 3 undef = (.pointer (some ⟨W.heap.size + 1, 0, none⟩)) → T.getD 4 undef = (.pointer (some ⟨W.heap.size + 1 + 1, 0, none⟩)) → Upd (At w4.heap.size) wr w → Q (Exit.panic [{ v := .iface 199 pv, recovered := false }]) ⟨T, [{ target := .fn (.func 69) #[.pointer (some ⟨W.heap.size, 0, none⟩), .pointer (some ⟨W.heap.size + 1, 0, none⟩), .pointer (some ⟨W.heap.size + 1 + 1, 0, none⟩)], args := #[] }]⟩ w) (fun _ => False) (factAt [(fun v _ => v = (.slice A n c)), (fun v w => False), (fun v w => False), (fun v w => False), (fun v w => False)]) [] (fun _ => True) (by kernel_rfl) (fkept_at ⟨FKept.eq _, fun _ _ _ h _ => h, fun _ _ _ h _ => h, fun _ _ _ h _ => h, fun _ _ _ h _ => h, trivial⟩) (fun _ _ h _ => h) trivial (by kernel_rfl) (by kernel_rfl) (by kernel_rfl) (by kernel_rfl) (Nat.le_of_ble_eq_true (by kernel_rfl)) ?_ ⟨?_, ?_, ?_, ?_, ?_, trivial⟩ ?_ ?_
            · first | exact trivial | assumption
            · intro T w Q hpq hu hs hv hw hd
              have hx3 : T.getD 3 undef = (.pointer (some ⟨W.heap.size + 1, 0, none⟩)) := hv 3 (by kernel_rfl)
              refine .inl ⟨wanted_none rfl, ?_⟩
              have hq0 := hu.cell hbc id
              clear hd hv hu hs hw
              go_simp
              exact ⟨_, rfl, DstOk.some rfl, Below.refl _ _, rfl⟩
            · intro T w Q hpq hu hs hv hw hd
              have hx7 : T.getD 7 undef = (.pointer (some ⟨w4.heap.size, 0, none⟩)) := hv 7 (by kernel_rfl)
              refine .inl ⟨wanted_none rfl, ?_⟩
              have e2 := hide (show T.getD 2 undef = (.pointer (some ⟨W.heap.size, 0, none⟩)) from hv 2 (by kernel_rfl))
              have e3 := hide (show T.getD 3 undef = (.pointer (some ⟨W.heap.size + 1, 0, none⟩)) from hv 3 (by kernel_rfl))
              have e4 := hide (show T.getD 4 undef = (.pointer (some ⟨W.heap.size + 1 + 1, 0, none⟩)) from hv 4 (by kernel_rfl))
              have hN := frame_any (hR.out.upd hu id fun _ _ => id) (by omega) (hTab.out w hu) (by omega)
              rw [hfr.out] at hN
              replace hN := hide hN
              replace hu := hide hu
              replace hpq := hide hpq
              clear hd hv hs hw
              go_simp
              refine hN.out.mono ?_
              rintro e w2 ⟨hU, pv, rfl⟩
              exact hpq.out _ _ _ e2.out e3.out e4.out ((hu.out.mono fun _ _ h => h.elim).then hU)
            · intro T w Q hpq hu hs hv hw hd
              have f23 : (fun (v : Value) (w : World) => False) (T.getD 23 undef) w := Deps.at 1 hd (by kernel_rfl)
              generalize hx23 : T.getD 23 undef = x23 at f23
              replace f23 := hide f23
              have hy23 := hx23
              rw [Array.getD_eq_getD_getElem?] at hy23
              refine .inl ⟨wanted_none rfl, ?_⟩
              exact f23.out.elim
            · intro T w Q hpq hu hs hv hw hd
              have hx22 : T.getD 22 undef = (.slice A n c) := Deps.at 0 hd (by kernel_rfl)
              have f24 : (fun (v : Value) (w : World) => False) (T.getD 24 undef) w := Deps.at 2 hd (by kernel_rfl)
              generalize hx24 : T.getD 24 undef = x24 at f24
              replace f24 := hide f24
              refine .inl ⟨wanted_none rfl, ?_⟩
              exact f24.out.elim
            · intro T w Q hpq hu hs hv hw hd
              have hx3 : T.getD 3 undef = (.pointer (some ⟨W.heap.size + 1, 0, none⟩)) := hv 3 (by kernel_rfl)
              have f25 : (fun (v : Value) (w : World) => False) (T.getD 25 undef) w := Deps.at 3 hd (by kernel_rfl)
              generalize hx25 : T.getD 25 undef = x25 at f25
              replace f25 := hide f25
              refine .inl ⟨wanted_none rfl, ?_⟩
              exact f25.out.elim
            · intro T w pv e2 e3 e4 hu
              rw [Array.getD_eq_getD_getElem?] at e2 e3 e4
              replace e2 := hide e2
              replace e3 := hide e3
              replace e4 := hide e4
              have b2 := hide (hu.heap q2.out (by omega))
              have b3 := hide (hu.heap hRF.out.box (by omega))
              have b4 := hide (hu.heap q4.out (by omega))
              have hpw := hp.out.upd hu (by omega) fun k hk e => by have := hold.out k hk; omega
              have hUw := hU.out.trans hu fun k hk e => by omega
              replace hpw := hide hpw
              replace hUw := hide hUw
              go_wp2_with fail
              refine leaves_cons (f := 69) (args := #[.pointer (some ⟨W.heap.size, 0, none⟩), .pointer (some ⟨W.heap.size + 1, 0, none⟩), .pointer (some ⟨W.heap.size + 2, 0, none⟩)]) (by simp) (by simp [go_sem]) ?_
              refine (caught_find W.heap.size _ pv [] w b2.out b3.out b4.out).mono ?_
              rintro e u' wz ⟨rfl, rfl, r2, r3, r4, hUz⟩
              refine ⟨.tuple #[.pointer none, .slice none 0 0, .bool false], by simp [results, Tryz.results44, go_sem, e2.out, e3.out, e4.out, r2, r3, r4], ?_⟩
              unfold Found
              rw [hfp.out]
              exact ⟨hpw.out.upd hUz (fun e => by omega) fun k hk e => by have := hold.out k hk; omega, hUw.out.trans hUz fun k hk e => by omega, rfl⟩
            · intro T w hu hs hv hf hcur
              exact (hf 1 (by decide)).elim
          | some f =>
            obtain ⟨rc, rest2⟩ := f
            have hrl2 := frameP_rest hfr
            obtain ⟨m, hm⟩ : ∃ m, x.records - k = m + 1 := ⟨x.records - k - 1, by omega⟩
            have hre2 : recsP x.records L = (recsP (x.records - (k + 1)) rest2).bind (fun q => some ((ds ++ [rc]) ++ q.1, q.2)) := by
              rw [hre.out, hm, show x.records - (k + 1) = m by omega]
              simp only [recsP]
              rw [hfr]
              simp only [Option.bind_some]
              cases recsP m rest2 with
              | none => rfl
              | some q => simp
            have hFp : ∀ j, j < W.heap.size → ¬ FindF w4.heap.size (W.heap.size + 1) (.slice A n c) j := fun j hj h => h.elim (fun e => by omega) fun h => h.elim (fun e => by omega) fun h => by have := (hRFo.out j h).1; omega
            have hTab := hide fun w (hu : Upd (FindF w4.heap.size (W.heap.size + 1) (.slice A n c)) wr w) => hTr.upd hu (hFp 1 (by omega))
            have hF2 : ¬ FindF w4.heap.size (W.heap.size + 1) (.slice A n c) W.heap.size := fun h => h.elim (fun e => by omega) fun h => h.elim (fun e => by omega) fun h => by have := (hRFo.out _ h).1; omega
            have hF4 : ¬ FindF w4.heap.size (W.heap.size + 1) (.slice A n c) (W.heap.size + 2) := fun h => h.elim (fun e => by omega) fun h => h.elim (fun e => by omega) fun h => by have := (hRFo.out _ h).1; omega
            have hF6 : ¬ FindF w4.heap.size (W.heap.size + 1) (.slice A n c) w2.heap.size := fun h => h.elim (fun e => by omega) fun h => h.elim (fun e => by omega) fun h => by have := (hRFo.out _ h).1; omega
            replace hfr := hide hfr
            replace hre2 := hide hre2
            replace hFp := hide hFp
            replace hF2 := hide hF2
            replace hF4 := hide hF4
            replace hF6 := hide hF6
            clear hm
            go_wp2_with fail
            refine wp_region_tide (FindF w4.heap.size (W.heap.size + 1) (.slice A n c)) (factAt [(fun v _ => v = (.slice A n c)), (fun v w => RecF (FindF w4.heap.size (W.heap.size + 1) (.slice A n c)) B rc v w), (fun v w => OneF (FindF w4.heap.size (W.heap.size + 1) (.slice A n c)) B rc v w), (fun v w => SlF v), (fun _ _ => True)]) [none, some (fun _ w => RF w w4.heap.size (W.heap.size + 1) B (fun k => w3.heap.size ≤ k ∧ k < w4.heap.size) (.slice A n c) (.slice A n c) ds rest2), none, some (fun v w => RF w w4.heap.size (W.heap.size + 1) B (fun k => w3.heap.size ≤ k ∧ k < w4.heap.size) v (.slice A n c) (ds ++ [rc]) rest2), some (fun _ w => RF4 w4.heap.size (W.heap.size + 1) B (fun k => w3.heap.size ≤ k ∧ k < w4.heap.size) (ds ++ [rc]) rest2 w)] (fun w => RF w w4.heap.size (W.heap.size + 1) B (fun k => w3.heap.size ≤ k ∧ k < w4.heap.size) (.slice A n c) (.slice A n c) ds rest) (fun w => w.cell? ⟨W.heap.size + 1, 0, none⟩ = some (.slice A n c)) 4 (by kernel_rfl) (fkept_at ⟨FKept.eq _, RecF.kept, OneF.kept, fun _ _ _ h _ => h, FKept.triv, trivial⟩) (fun w w' h hb => RF.below h hb) (fun w w' h hb => hb.cell (World.block_lt_of_cell? w _ h) ▸ h) (fun _ => by kernel_rfl) ⟨fun _ _ _ h hb => RF.below h hb, fun _ _ _ h hb => RF.below h hb, RF4.kept, trivial⟩ (by kernel_rfl) (by kernel_rfl) (by kernel_rfl) (by kernel_rfl) (Nat.le_of_ble_eq_true (by kernel_rfl)) ?_ (hRF.cell) ⟨?_, ?_, ?_, ?_, ?_, trivial⟩ ?_
            · exact hRF
            · intro T w Q hu hs hv hw hd ht
              have hx3 : T.getD 3 undef = (.pointer (some ⟨W.heap.size + 1, 0, none⟩)) := hv 3 (by kernel_rfl)
              refine .inl ⟨wanted_none rfl, ?_⟩
              have hI : w.cell? ⟨W.heap.size + 1, 0, none⟩ = some (.slice A n c) := ht (by kernel_rfl)
              clear hd hv hu hs hw ht
              go_simp
              exact ⟨_, rfl, DstOk.some rfl, Below.refl _ _, rfl⟩
            · intro T w Q hu hs hv hw hd ht hc0
              have hc : (fun w => RF w w4.heap.size (W.heap.size + 1) B (fun k => w3.heap.size ≤ k ∧ k < w4.heap.size) (.slice A n c) (.slice A n c) ds rest) w := hc0
              have hx7 : T.getD 7 undef = (.pointer (some ⟨w4.heap.size, 0, none⟩)) := hv 7 (by kernel_rfl)
              replace hc := hide hc
              refine .inl ⟨wanted_none rfl, ?_⟩
              have hN := frame_any hc.out.rd (by omega) (hTab.out w hu) (by omega)
              rw [hfr.out] at hN
              replace hN := hide hN
              clear hd hv hu hs hw ht
              go_simp
              refine hN.out.mono ?_
              rintro e w2 ⟨hU, v2, rfl, hv2, hR2⟩
              have hq := hc.out.read hU hR2
              have hsl := hv2.slice
              exact ⟨_, rfl, DstOk.some rfl, hU.mono fun _ _ h => .inl h, (by intros; exact hq.cell), ⟨hsl, _, hv2.arg.mono' hv2.arg, fun k hk => ⟨Nat.le_trans hc.out.hB hk.1, hk.2, hc.out.newF hk.1⟩⟩, hq⟩
            · intro T w Q hu hs hv hw hd ht
              have f23 : (fun (v : Value) (w : World) => RecF (FindF w4.heap.size (W.heap.size + 1) (.slice A n c)) B rc v w) (T.getD 23 undef) w := Deps.at 1 hd (by kernel_rfl)
              generalize hx23 : T.getD 23 undef = x23 at f23
              replace f23 := hide f23
              have hy23 := hx23
              rw [Array.getD_eq_getD_getElem?] at hy23
              refine .inl ⟨wanted_none rfl, ?_⟩
              have hz := hu.size
              have hnw : ¬ FindF w4.heap.size (W.heap.size + 1) (.slice A n c) w.heap.size := fun h => h.elim (fun e => by omega) fun h => h.elim (fun e => by omega) fun h => by have := (hRFo.out _ h).2; omega
              obtain ⟨⟨a5, n5, c5, rfl⟩, hr5⟩ := f23.out
              have hr6 := RecF.kept _ _ _ (⟨⟨_, _, _, rfl⟩, hr5⟩ : RecF (FindF w4.heap.size (W.heap.size + 1) (.slice A n c)) B rc (.slice a5 n5 c5) w) (.alloc _ w (.cells #[.slice a5 n5 c5] 62))
              replace hr6 := hide hr6
              replace hnw := hide hnw
              clear hd hv hu hs hw ht hz hr5 f23
              go_simp
              exact ⟨_, rfl, DstOk.some rfl, (Below.refl _ w).alloc (Nat.le_refl _) _, _, _, rfl, (by simp [go_sem]), hnw.out, hr6.out⟩
            · intro T w Q hu hs hv hw hd ht hc0
              have hc : (fun (w : World) => RF w w4.heap.size (W.heap.size + 1) B (fun k => w3.heap.size ≤ k ∧ k < w4.heap.size) (.slice A n c) (.slice A n c) ds rest2) w := hc0
              have hx22 : T.getD 22 undef = (.slice A n c) := Deps.at 0 hd (by kernel_rfl)
              have f24 : (fun (v : Value) (w : World) => OneF (FindF w4.heap.size (W.heap.size + 1) (.slice A n c)) B rc v w) (T.getD 24 undef) w := Deps.at 2 hd (by kernel_rfl)
              generalize hx24 : T.getD 24 undef = x24 at f24 hc
              replace f24 := hide f24
              replace hc := hide hc
              refine .inl ⟨wanted_none rfl, ?_⟩
              obtain ⟨g, x5, rfl, hg5, hng, hrx⟩ := f24.out
              obtain ⟨vs, R, o1, o2, o3, o4⟩ := hc.out.recs
              have hbx := hc.out.hB
              refine wp_append_at (.tmp 22) (.tmp 24) rfl B (.slice A n c) ds.length vs hx22 o1 g x5 hx24 hg5 hrx.1 (by have := hxr; have := hdl.out; omega) hbx ?_
              intro v' w' he hgr hmv
              have hq := hc.out.grow rfl hrx o1 o2 o3 o4 he hgr hmv
              have hsl : SlF v' := by
                rcases he.2 with ⟨rfl, _⟩ | ⟨g', cap, cur, rfl, _⟩
                · exact ⟨_, _, _, rfl⟩
                · exact ⟨_, _, _, rfl⟩
              exact ⟨_, rfl, DstOk.some rfl, .grown hgr fun k hk => .inr (.inr hk), (by intros; exact hq.cell), hsl, hq⟩
            · intro T w Q hu hs hv hw hd ht hc0
              have hc : (fun (v : Value) (w : World) => RF w w4.heap.size (W.heap.size + 1) B (fun k => w3.heap.size ≤ k ∧ k < w4.heap.size) v (.slice A n c) (ds ++ [rc]) rest2) (T.getD 25 undef) w := hc0
              have hx3 : T.getD 3 undef = (.pointer (some ⟨W.heap.size + 1, 0, none⟩)) := hv 3 (by kernel_rfl)
              have f25 : (fun (v : Value) (w : World) => SlF v) (T.getD 25 undef) w := Deps.at 3 hd (by kernel_rfl)
              generalize hx25 : T.getD 25 undef = x25 at f25 hc
              replace f25 := hide f25
              replace hc := hide hc
              refine .inl ⟨wanted_none rfl, ?_⟩
              obtain ⟨a6, n6, c6, rfl⟩ := f25.out
              have hq5 := hide hc.out
              have hI := hc.out.cell
              have hfr2 := frozen_at hc.out.box 0
              clear hd hv hu hs hw ht hc hc0 f25
              go_simp
              exact ⟨undef, fun _ => rfl, Upd.set w (F := FindF w4.heap.size (W.heap.size + 1) (.slice A n c)) (a := ⟨W.heap.size + 1, 0, none⟩) (.inr (.inl rfl)) _, trivial, RF4.of hq5.out.store ⟨_, _, _, rfl⟩⟩
            intro T w hu hs hv hf hcur
            have hcur1 : (fun (w : World) => RF4 w4.heap.size (W.heap.size + 1) B (fun k => w3.heap.size ≤ k ∧ k < w4.heap.size) (ds ++ [rc]) rest2 w) w := hcur
            replace hcur1 := hcur1
            have hT : T = #[T.getD 0 undef, T.getD 1 undef, T.getD 2 undef, T.getD 3 undef, T.getD 4 undef, T.getD 5 undef, T.getD 6 undef, T.getD 7 undef, T.getD 8 undef, T.getD 9 undef, T.getD 10 undef, T.getD 11 undef, T.getD 12 undef, T.getD 13 undef, T.getD 14 undef, T.getD 15 undef, T.getD 16 undef, T.getD 17 undef, T.getD 18 undef, T.getD 19 undef, T.getD 20 undef, T.getD 21 undef, T.getD 22 undef, T.getD 23 undef, T.getD 24 undef, T.getD 25 undef, T.getD 26 undef, T.getD 27 undef, T.getD 28 undef, T.getD 29 undef, T.getD 30 undef, T.getD 31 undef, T.getD 32 undef, T.getD 33 undef, T.getD 34 undef, T.getD 35 undef, T.getD 36 undef] := expl hs
            rw [hT]
            clear hT
            rw [hv 0 (by kernel_rfl)]
            rw [hv 1 (by kernel_rfl)]
            rw [hv 2 (by kernel_rfl)]
            rw [show T.getD 3 undef = (.pointer (some ⟨W.heap.size + 1, 0, none⟩)) from hv 3 (by kernel_rfl)]
            rw [hv 4 (by kernel_rfl)]
            rw [hv 5 (by kernel_rfl)]
            rw [hv 6 (by kernel_rfl)]
            rw [show T.getD 7 undef = (.pointer (some ⟨w4.heap.size, 0, none⟩)) from hv 7 (by kernel_rfl)]
            rw [hv 8 (by kernel_rfl)]
            rw [hv 9 (by kernel_rfl)]
            rw [hv 10 (by kernel_rfl)]
            rw [hv 11 (by kernel_rfl)]
            rw [hv 12 (by kernel_rfl)]
            rw [hv 13 (by kernel_rfl)]
            rw [hv 14 (by kernel_rfl)]
            rw [hv 15 (by kernel_rfl)]
            rw [hv 16 (by kernel_rfl)]
            rw [hv 17 (by kernel_rfl)]
            rw [hv 18 (by kernel_rfl)]
            rw [hv 19 (by kernel_rfl)]
            rw [hv 20 (by kernel_rfl)]
            rw [hv 21 (by kernel_rfl)]
            rw [show T.getD 22 undef = (.slice A n c) from hf 0 (by decide)]
            rw [hv 26 (by kernel_rfl)]
            rw [hv 27 (by kernel_rfl)]
            rw [hv 28 (by kernel_rfl)]
            rw [hv 29 (by kernel_rfl)]
            rw [hv 30 (by kernel_rfl)]
            rw [hv 31 (by kernel_rfl)]
            rw [hv 32 (by kernel_rfl)]
            rw [hv 33 (by kernel_rfl)]
            rw [hv 34 (by kernel_rfl)]
            rw [hv 35 (by kernel_rfl)]
            rw [hv 36 (by kernel_rfl)]
            clear hf hs hv hcur
            simp only [getD_toArray, List.getD_cons_succ, List.getD_cons_zero]
            generalize T.getD 23 undef = y23
            generalize T.getD 24 undef = y24
            generalize T.getD 25 undef = y25
            clear T
            obtain ⟨v9, hq, hsl⟩ := hcur1
            have b2 := hu.heap q2.out hF2.out
            have b4 := hu.heap q4.out hF4.out
            have b6 := hu.heap q6.out hF6.out
            have hpw := hp.out.upd hu (hFp.out _ (by omega)) fun j hj h => hFp.out j (hold.out j hj) h
            have hUw := hU.out.trans hu fun j hj h => absurd h (hFp.out j hj)
            replace hq := hide hq
            replace hsl := hide hsl
            replace b2 := hide b2
            replace b4 := hide b4
            replace b6 := hide b6
            replace hpw := hide hpw
            replace hUw := hide hUw
            clear hu hRF hbc
            go_wp2_with fail
            go_roundw
            case rel => exact ⟨k + 1, ds ++ [rc], rest2, v9, by omega, by go_num, by rw [List.length_append]; simp [hdl.out], by omega, hre2.out, hq.out, hsl.out, b2.out, b4.out, b6.out, hpw.out, hUw.out⟩
            case measure => simp [intOf]; omega
        · obtain rfl : k = x.records := by omega
          have hre3 : recsP x.records L = some (ds, rest) := by rw [hre.out, Nat.sub_self]; simp [recsP]
          have hend := end_any hRF.rd
          by_cases hr0 : rest = []
          · have hfp2 : findP D = some (live, x, ds) := by rw [hfp.out, hre3]; simp [hr0]
            replace hfp := hide hfp2
            have hend2 : Calls Tryz.prog 74 #[.pointer (some ⟨w4.heap.size, 0, none⟩)] wr fun e w' => wr = w' ∧ e = .returned (.tuple #[]) := hend.mono fun e w' h => ⟨h.1, h.2.1 hr0⟩
            have u0 := hp.out.c0
            have u2 : wr.cell? ⟨W.heap.size, 0, none⟩ = some (.pointer none) := by rw [cell_at q2.out]; rfl
            have u4 : wr.cell? ⟨W.heap.size + 1 + 1, 0, none⟩ = some (.bool false) := by
              have : wr.cell? ⟨W.heap.size + 2, 0, none⟩ = some (.bool false) := by rw [cell_at q4.out]; rfl
              exact this
            have u60 : wr.cell? ⟨w2.heap.size, 0, none⟩ = some (.int .i64 x.area) := by rw [cell_at q6.out]; rfl
            have u61 : wr.cell? ⟨w2.heap.size, 1, none⟩ = some (.int .i64 x.bytes) := by rw [cell_at q6.out]; rfl
            have u62 : wr.cell? ⟨w2.heap.size, 2, none⟩ = some (.int .i64 x.records) := by rw [cell_at q6.out]; rfl
            have f2 := frozen_at q2.out 0
            have f3 := frozen_at hRF.box 0
            have f4 : wr.frozen? ⟨W.heap.size + 1 + 1, 0, none⟩ = false := frozen_at q4.out 0
            have n0 : W.heap.size < wr.heap.size := by omega
            have n1 : W.heap.size + 1 < wr.heap.size := by omega
            have n2 : W.heap.size + 1 + 1 < wr.heap.size := by omega
            replace hRF := hide hRF
            replace hr0 := hide hr0
            clear hend hre3 hfp2
            go_wp2_with fail
            refine hend2.mono ?_
            rintro e w' ⟨rfl, rfl⟩
            clear hend2
            go_wp2_with fail
            go_region
            all_goals
              obtain ⟨Wf, hWf⟩ : ∃ Wf, Wf = ((((wr.setCell ⟨W.heap.size, 0, none⟩ (.pointer (some ⟨wr.heap.size, 0, none⟩))).setCell ⟨W.heap.size + 1, 0, none⟩ (.slice A n c)).setCell ⟨W.heap.size + 1 + 1, 0, none⟩ (.bool true)).alloc (.cells #[.pointer (some ⟨sb, 0, none⟩), .int .i64 live, .int .i64 x.area, .int .i64 x.bytes, .int .i64 x.records] 135)).drew := ⟨_, rfl⟩
              have hsz : (((wr.setCell ⟨W.heap.size, 0, none⟩ (.pointer (some ⟨wr.heap.size, 0, none⟩))).setCell ⟨W.heap.size + 1, 0, none⟩ (.slice A n c)).setCell ⟨W.heap.size + 1 + 1, 0, none⟩ (.bool true)).heap.size = wr.heap.size := by simp [World.setCell]
              have hUs : Upd (fun k => k = W.heap.size ∨ k = W.heap.size + 1 ∨ k = W.heap.size + 1 + 1) wr (((wr.setCell ⟨W.heap.size, 0, none⟩ (.pointer (some ⟨wr.heap.size, 0, none⟩))).setCell ⟨W.heap.size + 1, 0, none⟩ (.slice A n c)).setCell ⟨W.heap.size + 1 + 1, 0, none⟩ (.bool true)) :=
                ((Upd.set (F := fun k => k = W.heap.size ∨ k = W.heap.size + 1 ∨ k = W.heap.size + 1 + 1) wr (a := ⟨W.heap.size, 0, none⟩) (.inl rfl) _).then (.set (F := fun k => k = W.heap.size ∨ k = W.heap.size + 1 ∨ k = W.heap.size + 1 + 1) _ (a := ⟨W.heap.size + 1, 0, none⟩) (.inr (.inl rfl)) _)).then (.set (F := fun k => k = W.heap.size ∨ k = W.heap.size + 1 ∨ k = W.heap.size + 1 + 1) _ (a := ⟨W.heap.size + 1 + 1, 0, none⟩) (.inr (.inr rfl)) _)
              have hUf : Upd (fun k => k = W.heap.size ∨ k = W.heap.size + 1 ∨ k = W.heap.size + 1 + 1) wr Wf := by rw [hWf]; exact (hUs.then (.alloc _ _ _)).drew
              have z2 : Wf.cell? ⟨W.heap.size, 0, none⟩ = some (.pointer (some ⟨wr.heap.size, 0, none⟩)) := by
                rw [cell_at (cs := #[.pointer (some ⟨wr.heap.size, 0, none⟩)]) (t := 40)]
                · rfl
                · rw [hWf]; exact heap_old (by rw [heap_set_other (by omega), heap_set_other (by omega), heap_set q2.out]; rfl) _
              have z3 : Wf.cell? ⟨W.heap.size + 1, 0, none⟩ = some (.slice A n c) := by
                rw [cell_at (cs := #[.slice A n c]) (t := 49)]
                · rfl
                · rw [hWf]; exact heap_old (by rw [heap_set_other (by omega), heap_set (by rw [heap_set_other (by omega)]; exact hRF.out.box)]; rfl) _
              have z4 : Wf.cell? ⟨W.heap.size + 1 + 1, 0, none⟩ = some (.bool true) := by
                rw [cell_at (cs := #[.bool true]) (t := 4)]
                · rfl
                · rw [hWf]; exact heap_old (by rw [heap_set (by rw [heap_set_other (by omega), heap_set_other (by omega)]; exact q4.out)]; rfl) _
              have zl : LogV Wf wr.heap.size sb live x := by
                have := heap_new (((wr.setCell ⟨W.heap.size, 0, none⟩ (.pointer (some ⟨wr.heap.size, 0, none⟩))).setCell ⟨W.heap.size + 1, 0, none⟩ (.slice A n c)).setCell ⟨W.heap.size + 1 + 1, 0, none⟩ (.bool true)) (.cells #[.pointer (some ⟨sb, 0, none⟩), .int .i64 live, .int .i64 x.area, .int .i64 x.bytes, .int .i64 x.records] 135)
                rw [hsz] at this
                unfold LogV
                rw [hWf]
                exact this
              rw [← hWf]
              replace hWf := hide hWf
              replace zl := hide zl
              replace hUf := hide hUf
              clear hUs hsz u0 u2 u4 u60 u61 u62 f2 f3 f4 hbc
              go_wp2_with fail
              refine leaves_cons (f := 69) (args := #[.pointer (some ⟨W.heap.size, 0, none⟩), .pointer (some ⟨W.heap.size + 1, 0, none⟩), .pointer (some ⟨W.heap.size + 2, 0, none⟩)]) (by simp) (by simp [go_sem]) ?_
              refine (idle_find W.heap.size _).mono ?_
              rintro e u' w3 ⟨rfl, rfl, rfl⟩
              refine ⟨.tuple #[.pointer (some ⟨wr.heap.size, 0, none⟩), .slice A n c, .bool true], by simp [results, Tryz.results44, go_sem, z2, z3, z4], ?_⟩
              unfold Found
              rw [hfp.out]
              refine ⟨hp.out.upd hUf.out (fun e => by omega) fun k hk e => by have := hold.out k hk; omega, hU.out.trans hUf.out fun k hk e => by omega, _, _, rfl, by omega, zl.out, (hRF.out.recs.upd hUf.out fun k hk _ e => by omega).base (by omega), fun k hk => ?_⟩
              have := (hRFo.out k hk).2
              omega
          · have hfp2 : findP D = none := by rw [hfp.out, hre3]; simp [hr0]
            replace hfp := hide hfp2
            have hend2 : Calls Tryz.prog 74 #[.pointer (some ⟨w4.heap.size, 0, none⟩)] wr fun e w' => wr = w' ∧ ∃ pv, e = .panicked [{ v := .iface 199 pv, recovered := false }] := hend.mono fun e w' h => ⟨h.1, h.2.2 hr0⟩
            have q3 := hide hRF.box
            clear hend hre3 hfp2 hRF hbc
            replace hr0 := hide hr0
            go_wp2_with fail
            refine hend2.mono ?_
            rintro e w' ⟨rfl, pv, rfl⟩
            clear hend2
            go_wp2_with fail
            refine leaves_cons (f := 69) (args := #[.pointer (some ⟨W.heap.size, 0, none⟩), .pointer (some ⟨W.heap.size + 1, 0, none⟩), .pointer (some ⟨W.heap.size + 2, 0, none⟩)]) (by simp) (by simp [go_sem]) ?_
            refine (caught_find W.heap.size _ pv [] wr q2.out q3.out q4.out).mono ?_
            rintro e u' wz ⟨rfl, rfl, r2, r3, r4, hUz⟩
            refine ⟨.tuple #[.pointer none, .slice none 0 0, .bool false], by simp [results, Tryz.results44, go_sem, r2, r3, r4], ?_⟩
            unfold Found
            rw [hfp.out]
            exact ⟨hp.out.upd hUz (fun e => by omega) fun k hk e => by have := hold.out k hk; omega, hU.out.trans hUz fun k hk e => by omega, rfl⟩
end
end Go.Proofs.YtpnboihbifhigaaGreatDoor
/- Walks of wal: a log is opened. -/
namespace Go.Proofs.YtpnboihbifhigaaGreatDoor
open Go Go.RowKit
theorem RecsO.nil (w : World) (B : Nat) : RecsO w B (.slice none 0 0) [] := ⟨[], fun _ => False, World.ownsRow_nil _ _ _ _, fun _ _ _ h _ => by simp at h, fun _ h => by simp at h, fun _ h => h.elim⟩
/-- What is written when a disk is opened. -/
def DS.opened (D : DS) : DS := match findP D with
  | some _ => D.flush
  | none => D.format.flush
/-- What the log holds then. -/
def openX (D : DS) : Nat × Ext × List (List UInt8) := match findP D with
  | some t => t
  | none => (0, ⟨0, 0, 0⟩, [])
def OpenR (W : World) (sb : Nat) (S : Nat → Prop) (D : DS) (e : Ending) (w' : World) : Prop :=
  ∃ S', DiskV w' sb S' D.opened ∧ Mv W S w' S' ∧
    ((D.opened.dead = true ∧ e = .returned (.tuple #[.pointer none, .slice none 0 0, .int .i64 32])) ∨
     (D.opened.dead = false ∧ ∃ lb v, e = .returned (.tuple #[.pointer (some ⟨lb, 0, none⟩), v, .int .i64 0]) ∧ W.heap.size ≤ lb ∧ ¬ S' lb ∧ LogV w' lb sb (openX D).1 (openX D).2.1 ∧ RecsO w' W.heap.size v (openX D).2.2 ∧ (∀ k, Own v k → k ≠ lb)))
theorem mvF {W w2 w4 : World} {S S4 : Nat → Prop} (h : Upd (At W.heap.size) W w2) (h' : Mv w2 (OO W.heap.size S) w4 (OO W.heap.size S4)) (hz : W.heap.size ≤ w2.heap.size) : Mv W S w4 S4 := by
  refine ⟨(h.mono (G := S) fun k hk e => ?_).trans h'.1 fun k hk e => ?_, fun k hk => ?_⟩
  · have e' : k = W.heap.size := e
    omega
  · rcases e with e | e
    · omega
    · exact e
  · rcases h'.2 k (.inr hk) with (e | e) | e
    · exact .inr (by omega)
    · exact .inl e
    · exact .inr (by omega)
section
variable {W : World} {sb : Nat} {S : Nat → Prop} {D : DS}
set_option maxRecDepth 100000 in
set_option maxHeartbeats 1000000 in
theorem open_any (hD : DiskV W sb S D) (hd : D.dead = false) (hT : Tab W) (hS0 : ¬ S 1) (h0 : 1 < W.heap.size) (hn : 16 ≤ D.n) (hs : 128 ≤ D.size) :
    Calls Tryz.prog 28 #[.pointer (some ⟨sb, 0, none⟩)] W fun e w' => OpenR W sb S D e w' := by
  have hold := hD.old
  have hsec := sectorsV hD
  have hsiz := sizeV hD
  obtain ⟨w1, hw1⟩ : ∃ w1, w1 = W.alloc (.cells #[.pointer (some ⟨sb, 0, none⟩), .int .i64 0] 96) := ⟨_, rfl⟩
  have hh1 : w1.heap[W.heap.size]? = some (.cells #[.pointer (some ⟨sb, 0, none⟩), .int .i64 0] 96) := by rw [hw1]; exact heap_new _ _
  have hU1 : Upd (fun _ => False) W w1 := by rw [hw1]; exact .alloc _ _ _
  have he0 : errOf D = 0 := by unfold errOf; rw [hd]; rfl
  have hp1 : PgV w1 W.heap.size sb S D := ⟨by rw [he0]; exact hh1, hD.upd hU1 fun _ _ => id, fun h => by have := hold _ h; omega⟩
  have hf := find_any hp1 hd (hT.upd hU1 id) h0 hn
  have z1 : W.heap.size + 1 ≤ w1.heap.size := by rw [hw1]; simp
  replace hD := hide hD
  replace hd := hide hd
  replace hT := hide hT
  replace hold := hide hold
  replace hh1 := hide hh1
  replace hU1 := hide hU1
  replace hp1 := hide hp1
  go_enter Tryz.func28, Tryz.ntmps28
  go_wp2_with fail
  refine hsec.mono ?_
  rintro e w' ⟨rfl, rfl⟩
  go_wp2_with fail
  refine hsiz.mono ?_
  rintro e w' ⟨rfl, rfl⟩
  go_wp2_with fail
  rw [← hw1]
  replace hw1 := hide hw1
  clear hsec hsiz
  refine hf.mono ?_
  intro e w2 hF
  clear hf
  unfold Found at hF
  obtain ⟨hp2, hU2, hF⟩ := hF
  have hT2 : Tab w2 := (hT.out.upd hU1.out id).upd hU2 (by omega)
  have hU12 : Upd (At W.heap.size) W w2 := (hU1.out.mono fun _ _ h => h.elim).then hU2
  have z2 := hU2.size
  cases hfp : findP D with
  | none =>
    rw [hfp] at hF
    dsimp only at hF
    subst hF
    have hop : D.opened = D.format.flush := by unfold DS.opened; rw [hfp]
    have hox : openX D = (0, ⟨0, 0, 0⟩, []) := by unfold openX; rw [hfp]
    have hfm := format_any hp2 hT2 hn hS0 h0
    replace hop := hide hop
    replace hox := hide hox
    replace hfp := hide hfp
    replace hp2 := hide hp2
    replace hT2 := hide hT2
    replace hU12 := hide hU12
    clear hU2
    go_wp2_with fail
    refine hfm.mono ?_
    rintro e w3 ⟨lb, S3, rfl, hlb, hnS3, hnp3, hL3, hp3, hM3⟩
    have hfl := pflush_any hp3
    have hnl3 : ¬ OO W.heap.size S3 lb := fun h => h.elim (fun e => hnp3 e) hnS3
    have zl3 : lb < w3.heap.size := (Array.getElem?_eq_some_iff.1 hL3).1
    have z3 := hM3.1.size
    have hvl : Hid (∀ k, Own (.slice none 0 0) k → k ≠ lb) := hide (fun k hk => by cases hk)
    replace hp3 := hide hp3
    replace hM3 := hide hM3
    replace hL3 := hide hL3
    replace hnl3 := hide hnl3
    clear hfm hnS3 hnp3
    go_wp2_with fail
    refine hfl.mono ?_
    rintro e w4 ⟨rfl, S4, hp4, hM4⟩
    have hMM := hM3.out.trans hM4
    have hnl4 : ¬ OO W.heap.size S4 lb := fun h => (hM4.2 _ h).elim hnl3.out fun h => by omega
    have hL4 := hM4.1.heap hL3.out hnl3.out
    have cp := hp4.c1
    have hMF : Mv W S w4 S4 := mvF hU12.out hMM (by omega)
    have hR4 : RecsO w4 W.heap.size (.slice none 0 0) [] := .nil _ _
    rw [← hop.out] at hp4 cp
    clear hM4 hMM hfl
    cases hdead : D.opened.dead
    · have he : errOf D.opened = 0 := by unfold errOf; rw [hdead]; rfl
      rw [he] at cp
      replace hp4 := hide hp4
      replace hMF := hide hMF
      replace hL4 := hide hL4
      replace hR4 := hide hR4
      replace hdead := hide hdead
      replace he := hide he
      replace hnl4 := hide hnl4
      go_wp2_with fail
      refine bodyPost_ret (v := .tuple #[.pointer (some ⟨lb, 0, none⟩), (.slice none 0 0), .int .i64 0]) (by simp [results, Tryz.results28, go_sem]) rfl ?_
      exact ⟨S4, hp4.out.disk, hMF.out, .inr ⟨hdead.out, lb, _, rfl, by omega, fun h => hnl4.out (.inr h), by rw [hox.out]; exact hL4.out, by rw [hox.out]; exact hR4.out, hvl.out⟩⟩
    · have he : errOf D.opened = 32 := by unfold errOf; rw [hdead]; rfl
      rw [he] at cp
      replace hp4 := hide hp4
      replace hMF := hide hMF
      replace hL4 := hide hL4
      replace hR4 := hide hR4
      replace hdead := hide hdead
      replace he := hide he
      replace hnl4 := hide hnl4
      go_wp2_with fail
      go_region
      all_goals
        go_wp2_with fail
        refine bodyPost_ret (v := .tuple #[.pointer none, .slice none 0 0, .int .i64 32]) (by simp [results, Tryz.results28, go_sem]) rfl ?_
        have hUd : Upd (fun _ => False) w4 w4.drew := (Upd.refl _ _).drew
        exact ⟨S4, hp4.out.disk.upd hUd fun _ _ => id, ⟨hMF.out.1.then (hUd.mono fun _ _ h => h.elim), hMF.out.2⟩, .inl ⟨hdead.out, rfl⟩⟩
  | some t =>
    obtain ⟨live, x, rs⟩ := t
    rw [hfp] at hF
    dsimp only at hF
    obtain ⟨lb, v, rfl, hlb, hL2, hR2, hvl⟩ := hF
    have hop : D.opened = D.flush := by unfold DS.opened; rw [hfp]
    have hox : openX D = (live, x, rs) := by unfold openX; rw [hfp]
    have hfl := pflush_any hp2
    replace hop := hide hop
    replace hox := hide hox
    replace hfp := hide hfp
    replace hp2 := hide hp2
    replace hT2 := hide hT2
    replace hU12 := hide hU12
    replace hL2 := hide hL2
    replace hR2 := hide hR2
    replace hvl := hide hvl
    clear hU2
    go_wp2_with fail
    refine hfl.mono ?_
    rintro e w4 ⟨rfl, S4, hp4, hM4⟩
    have hnl : ¬ OO W.heap.size S lb := fun h => h.elim (fun e => by omega) fun h => by have := hold.out _ h; omega
    have hnl4 : ¬ OO W.heap.size S4 lb := fun h => (hM4.2 _ h).elim hnl fun h => by have := (Array.getElem?_eq_some_iff.1 hL2.out).1; omega
    have hL4 := hM4.1.heap hL2.out hnl
    have cp := hp4.c1
    have hMF : Mv W S w4 S4 := mvF hU12.out hM4 (by omega)
    have hR4 : RecsO w4 W.heap.size v rs := (hR2.out.upd hM4.1 fun k h1 _ h => h.elim (fun e => by omega) fun h => by have := hold.out k h; omega).base (by omega)
    rw [← hop.out] at hp4 cp
    clear hM4 hfl
    cases hdead : D.opened.dead
    · have he : errOf D.opened = 0 := by unfold errOf; rw [hdead]; rfl
      rw [he] at cp
      replace hp4 := hide hp4
      replace hMF := hide hMF
      replace hL4 := hide hL4
      replace hR4 := hide hR4
      replace hdead := hide hdead
      replace he := hide he
      replace hnl4 := hide hnl4
      go_wp2_with fail
      refine bodyPost_ret (v := .tuple #[.pointer (some ⟨lb, 0, none⟩), v, .int .i64 0]) (by simp [results, Tryz.results28, go_sem]) rfl ?_
      exact ⟨S4, hp4.out.disk, hMF.out, .inr ⟨hdead.out, lb, _, rfl, by omega, fun h => hnl4.out (.inr h), by rw [hox.out]; exact hL4.out, by rw [hox.out]; exact hR4.out, hvl.out⟩⟩
    · have he : errOf D.opened = 32 := by unfold errOf; rw [hdead]; rfl
      rw [he] at cp
      replace hp4 := hide hp4
      replace hMF := hide hMF
      replace hL4 := hide hL4
      replace hR4 := hide hR4
      replace hdead := hide hdead
      replace he := hide he
      replace hnl4 := hide hnl4
      go_wp2_with fail
      go_region
      all_goals
        go_wp2_with fail
        refine bodyPost_ret (v := .tuple #[.pointer none, .slice none 0 0, .int .i64 32]) (by simp [results, Tryz.results28, go_sem]) rfl ?_
        have hUd : Upd (fun _ => False) w4 w4.drew := (Upd.refl _ _).drew
        exact ⟨S4, hp4.out.disk.upd hUd fun _ _ => id, ⟨hMF.out.1.then (hUd.mono fun _ _ h => h.elim), hMF.out.2⟩, .inl ⟨hdead.out, rfl⟩⟩
end
end Go.Proofs.YtpnboihbifhigaaGreatDoor
