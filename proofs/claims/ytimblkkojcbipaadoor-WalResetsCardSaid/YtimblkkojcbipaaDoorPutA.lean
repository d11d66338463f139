/- Walks of wal: lengths of records; an extent with more of them. -/
import Derived.Test.YtimblkkojcbipaaDoorSlot
namespace Go.Proofs.YtimblkkojcbipaaDoor
open Go Go.RowKit
def tooL (r : List UInt8) : Bool := decide (1048576 < r.length)
theorem tooLong_any {w : World} {S : Nat → Prop} {v : Value} {r : List UInt8} (h : ArgV w S v (bv r)) : Calls Tryd.prog 54 #[v] w fun e w' => e = .returned (.bool (tooL r)) ∧ w = w' := by
  obtain ⟨A, c, rfl, h2, h3, h4⟩ := h
  rw [bv_len] at h2 ⊢
  have h3' : c ≤ 9223372036854775807 := by unfold maxLen at h3; exact h3
  clear h4
  have hq : tooL r = decide (1048576 < r.length) := rfl
  generalize r.length = n at *
  replace hq := hide hq
  go_enter Tryd.func54, Tryd.ntmps54
  go_wp2_with fail
  go_ret
  rw [hq.out]
  exact ⟨by simp; omega, rfl⟩
def firstAt (rs : List (List UInt8)) (k : Nat) : Prop := ∀ j, j < k → ∀ r, rs[j]? = some r → tooL r = false
set_option maxRecDepth 100000 in
theorem indexFunc_any {w : World} {S : Nat → Prop} {v : Value} {rs : List (List UInt8)} (h : RecsV w S v rs) :
    Calls Tryd.prog 75 #[v, .func (.func 54) #[] #[]] w fun e w' => ∃ z : Int, e = .returned (.int .i64 z) ∧ decide (0 ≤ z) = rs.any tooL ∧ w = w' := by
  obtain ⟨vs, hvs, ha, hrs⟩ := h
  obtain ⟨A, c, rfl, hc1, hc2, hcells⟩ := ha
  rw [hvs] at hc1 ⊢
  have hc2' : c ≤ 9223372036854775807 := by unfold maxLen at hc2; exact hc2
  replace hrs := hide hrs
  replace hcells := hide hcells
  replace hc2 := hide hc2
  replace hvs := hide hvs
  go_enter Tryd.func75, Tryd.ntmps75
  go_wp2_with fail
  go_loopw [8] (fun i wr => ∃ k : Nat, k ≤ rs.length ∧ i = .int .i64 k ∧ firstAt rs k ∧ w = wr) (fun i _ => rs.length - (intOf i).toNat)
  case atStart => exact ⟨0, Nat.zero_le _, rfl, fun j hj => by omega, rfl⟩
  case round =>
    obtain ⟨k, hk, rfl, hf, rfl⟩ := hrel
    replace hf := hide hf
    rcases Nat.lt_or_ge k rs.length with hlt | hge
    · obtain ⟨u, hu⟩ : ∃ u, vs[k]? = some u := ⟨vs[k]'(by rw [hvs.out]; exact hlt), List.getElem?_eq_getElem _⟩
      obtain ⟨b, o, rfl, hS, hc⟩ : ∃ b o, A = some ⟨b, o, none⟩ ∧ S b ∧ w.cell? ⟨b, o + k, none⟩ = some u := by
        rcases hcells.out with h | ⟨b, o, h1, h2, h3⟩
        · rw [h] at hu; simp at hu
        · exact ⟨b, o, h1, h2, h3 k u hu⟩
      have hru := hrs.out k u rs[k] hu (List.getElem?_eq_getElem hlt)
      have htl := tooLong_any hru.1
      obtain ⟨ad, nu, cu, rfl⟩ := hru.2
      replace hru := hide hru
      replace hu := hide hu
      obtain ⟨tb, htb⟩ : ∃ tb, tb = tooL rs[k] := ⟨_, rfl⟩
      rw [← htb] at htl
      replace htb := hide htb
      cases tb
      · go_wp2_with fail
        refine htl.mono ?_
        rintro e w' ⟨rfl, rfl⟩
        go_wp2_with fail
        go_roundw
        case rel =>
          refine ⟨k + 1, hlt, by go_num, fun j hj r hr => ?_, trivial⟩
          rcases Nat.lt_or_ge j k with h | h
          · exact hf.out j h r hr
          · obtain rfl : j = k := by omega
            rw [List.getElem?_eq_getElem hlt] at hr
            injection hr with hr
            rw [← hr, ← htb.out]
        case measure => simp [intOf]; omega
      · go_wp2_with fail
        refine htl.mono ?_
        rintro e w' ⟨rfl, rfl⟩
        go_wp2_with fail
        go_ret
        refine ⟨_, rfl, ?_, rfl⟩
        have : rs.any tooL = true := List.any_eq_true.2 ⟨rs[k], List.getElem_mem hlt, htb.out.symm⟩
        rw [this]
        simp
    · obtain rfl : k = rs.length := by omega
      clear hge
      go_wp2_with fail
      go_ret
      refine ⟨_, rfl, ?_, rfl⟩
      have : rs.any tooL = false := by
        rw [List.any_eq_false]
        intro r hr
        obtain ⟨j, hj, hjr⟩ := List.getElem_of_mem hr
        have := hf.out j hj r (by rw [← hjr]; exact List.getElem?_eq_getElem hj)
        rw [this]; simp
      rw [this]
      simp
set_option maxRecDepth 100000 in
theorem containsFunc_any {w : World} {S : Nat → Prop} {v : Value} {rs : List (List UInt8)} (h : RecsV w S v rs) :
    Calls Tryd.prog 53 #[v, .func (.func 54) #[] #[]] w fun e w' => e = .returned (.bool (rs.any tooL)) ∧ w = w' := by
  have hi := indexFunc_any h
  obtain ⟨vs, hvs, ha, hrs⟩ := h
  obtain ⟨A, c, rfl, hc1, hc2, hcells⟩ := ha
  clear hcells hrs
  obtain ⟨tb, htb⟩ : ∃ tb, tb = rs.any tooL := ⟨_, rfl⟩
  rw [← htb] at hi ⊢
  clear htb
  clear hc1 hc2 hvs
  go_enter Tryd.func53, Tryd.ntmps53
  go_wp2_with fail
  refine hi.mono ?_
  rintro e w' ⟨z, rfl, rfl, rfl⟩
  clear hi
  go_wp2_with fail
  go_ret
  exact ⟨rfl, rfl⟩
def Ext.plus (x : Ext) (rs : List (List UInt8)) : Ext := ⟨x.area, x.bytes + (frames rs).length, x.records + rs.length⟩
set_option maxRecDepth 100000 in
set_option maxHeartbeats 1000000 in
theorem with_any {W : World} {S : Nat → Prop} {v : Value} {rs : List (List UInt8)} (h : RecsV W S v rs) (x : Ext) (hx1 : x.area < 4294967296) (hx2 : x.bytes + (frames rs).length ≤ 4611686018427387904) (hx3 : x.records + rs.length ≤ 4611686018427387904) :
    Calls Tryd.prog 55 #[extV x, v] W fun e w' => e = .returned (extV (x.plus rs)) ∧ Below W.heap.size W w' := by
  obtain ⟨vs, hvs, ha, hrs⟩ := h
  obtain ⟨A, c, rfl, hc1, hc2, hcells⟩ := ha
  rw [hvs] at hc1 ⊢
  have hc2' : c ≤ 9223372036854775807 := by unfold maxLen at hc2; exact hc2
  obtain ⟨a, b, r⟩ := x
  simp only at hx1 hx2 hx3
  unfold extV Ext.plus
  simp only
  replace hrs := hide hrs
  replace hcells := hide hcells
  replace hc2 := hide hc2
  replace hvs := hide hvs
  obtain ⟨f, hf⟩ : ∃ f, f = (frames rs).length := ⟨_, rfl⟩
  obtain ⟨nr, hnr⟩ : ∃ nr, nr = rs.length := ⟨_, rfl⟩
  rw [← hf] at hx2 ⊢
  rw [← hnr] at hx3 hc1 ⊢
  replace hf := hide hf
  replace hnr := hide hnr
  go_enter Tryd.func55, Tryd.ntmps55
  go_wp2_with fail
  have hld := frames_take rs
  have hle := frames_le rs
  go_loopw [15] (fun i wr => ∃ k : Nat, k ≤ nr ∧ i = .int .i64 k ∧ wr.heap[W.heap.size]? = some (.cells #[.int .i64 a, .int .i64 (b + (frames (rs.take k)).length : Nat), .int .i64 (r + nr : Nat)] 73) ∧ wr.heap[W.heap.size + 1]? = some (.cells #[.int .i64 0, .int .i64 0, .int .i64 0] 73) ∧ Below W.heap.size W wr) (fun i _ => nr - (intOf i).toNat)
  case atStart =>
    refine ⟨0, Nat.zero_le _, rfl, ?_, ?_, ?_⟩
    · rw [heap_old (heap_new _ _) _]; simp [frames]
    · have := heap_new (W.alloc (.cells #[.int .i64 a, .int .i64 b, .int .i64 ((r : Int) + nr)] 73)) (.cells #[.int .i64 0, .int .i64 0, .int .i64 0] 73)
      rwa [World.size_alloc] at this
    · exact ((Below.refl _ W).alloc (Nat.le_refl _) _).alloc (by simp) _
  case round =>
    obtain ⟨k, hk, rfl, q0, q1, hB⟩ := hrel
    have hfk := hle k
    rw [← hf.out] at hfk
    rcases Nat.lt_or_ge k nr with hlt | hge
    · have hlt2 : k < rs.length := by rw [← hnr.out]; exact hlt
      obtain ⟨u, hu⟩ : ∃ u, vs[k]? = some u := ⟨vs[k]'(by rw [hvs.out]; exact hlt2), List.getElem?_eq_getElem _⟩
      obtain ⟨bb, o, rfl, hS, hc⟩ : ∃ b o, A = some ⟨b, o, none⟩ ∧ S b ∧ W.cell? ⟨b, o + k, none⟩ = some u := by
        rcases hcells.out with h | ⟨b, o, h1, h2, h3⟩
        · rw [h] at hu; simp at hu
        · exact ⟨b, o, h1, h2, h3 k u hu⟩
      have hc' := (hB.cell (World.block_lt_of_cell? _ _ hc)).trans hc
      have hru := hrs.out k u rs[k] hu (List.getElem?_eq_getElem hlt2)
      obtain ⟨au, cu, rfl, hcu, hcu2, -⟩ := hru.1
      rw [bv_len] at hcu hc'
      have hcu2' : cu ≤ 9223372036854775807 := by unfold maxLen at hcu2; exact hcu2
      have hk1 := hld k hlt2
      have hfk1 := hle (k + 1)
      rw [← hf.out] at hfk1
      have hl1 : (frames (rs.take (k + 1))).length = (frames (rs.take k)).length + (8 + rs[k].length) := by rw [hk1, List.length_append, frame_len]
      obtain ⟨m, hm⟩ : ∃ m, m = b + (frames (rs.take k)).length := ⟨_, rfl⟩
      obtain ⟨lk, hlk⟩ : ∃ lk, lk = rs[k].length := ⟨_, rfl⟩
      rw [← hm] at q0
      rw [← hlk] at hcu hc' hl1
      have hmb : m + (8 + lk) ≤ 4611686018427387904 := by omega
      have d1 : wr.cell? ⟨W.heap.size, 1, none⟩ = some (.int .i64 m) := by rw [cell_at q0]; rfl
      have e1 := frozen_at q0 1
      have hm2 : b + (frames (rs.take (k + 1))).length = m + (8 + lk) := by omega
      replace q0 := hide q0
      replace q1 := hide q1
      replace hB := hide hB
      replace hm := hide hm
      replace hm2 := hide hm2
      replace hlk := hide hlk
      clear hc hru hk1 hfk1 hl1 hu hld hle hfk
      go_wp2_with fail
      go_roundw
      case rel =>
        refine ⟨k + 1, hlt, by go_num, ?_, ?_, ?_⟩
        · rw [heap_set q0.out, hm2.out]; simp
        · rw [heap_set_other (by omega)]; exact q1.out
        · exact ((Upd.of_below (fun k => k = W.heap.size) hB.out).then (.set (F := fun k => k = W.heap.size) _ (a := ⟨W.heap.size, 1, none⟩) rfl _)).below (Nat.le_refl _) fun k e => by omega
      case measure => simp [intOf]; omega
    · obtain rfl : k = nr := by omega
      have htk : rs.take k = rs := by rw [hnr.out]; simp
      rw [htk, ← hf.out] at q0
      have d0 : wr.cell? ⟨W.heap.size, 0, none⟩ = some (.int .i64 a) := by rw [cell_at q0]; rfl
      have d1 : wr.cell? ⟨W.heap.size, 1, none⟩ = some (.int .i64 (b + f : Nat)) := by rw [cell_at q0]; rfl
      have d2 : wr.cell? ⟨W.heap.size, 2, none⟩ = some (.int .i64 (r + k : Nat)) := by rw [cell_at q0]; rfl
      have m0 : wr.cell? ⟨W.heap.size + 1, 0, none⟩ = some (.int .i64 0) := by rw [cell_at q1]; rfl
      have m1 : wr.cell? ⟨W.heap.size + 1, 1, none⟩ = some (.int .i64 0) := by rw [cell_at q1]; rfl
      have m2 : wr.cell? ⟨W.heap.size + 1, 2, none⟩ = some (.int .i64 0) := by rw [cell_at q1]; rfl
      have n0 := frozen_at q1 0
      have n1 := frozen_at q1 1
      have n2 := frozen_at q1 2
      replace hB := hide hB
      clear hge q0 q1 htk hld hle hfk
      go_wp2_with fail
      refine bodyPost_ret (v := .agg #[.int .i64 a, .int .i64 (b + f : Nat), .int .i64 (r + k : Nat)]) (by simp [results, Tryd.results55, go_sem, m0, m1, m2]) rfl ?_
      have hU : Upd (fun k => k = W.heap.size + 1) wr (((wr.setCell ⟨W.heap.size + 1, 0, none⟩ (.int .i64 a)).setCell ⟨W.heap.size + 1, 1, none⟩ (.int .i64 ((b : Int) + f))).setCell ⟨W.heap.size + 1, 2, none⟩ (.int .i64 ((r : Int) + k))) := ((Upd.set (F := fun k => k = W.heap.size + 1) _ (a := ⟨W.heap.size + 1, 0, none⟩) rfl _).then (.set (F := fun k => k = W.heap.size + 1) _ (a := ⟨W.heap.size + 1, 1, none⟩) rfl _)).then (.set (F := fun k => k = W.heap.size + 1) _ (a := ⟨W.heap.size + 1, 2, none⟩) rfl _)
      exact ⟨rfl, ((Upd.of_below (fun k => k = W.heap.size + 1) (hB.out)).then hU).below (Nat.le_refl _) fun j e => by omega⟩
end Go.Proofs.YtimblkkojcbipaaDoor
