/- Part 10 of the walks (merged): PutA, Put. -/
import Derived.Test.YtpnboihbifhigaaGreatDoorM6
import Derived.Test.YtpnboihbifhigaaGreatDoorM9
/- Walks of wal: lengths of records; an extent with more of them. -/
namespace Go.Proofs.YtpnboihbifhigaaGreatDoor
open Go Go.RowKit
def tooL (r : List UInt8) : Bool := decide (1048576 < r.length)
theorem tooLong_any {w : World} {S : Nat → Prop} {v : Value} {r : List UInt8} (h : ArgV w S v (bv r)) : Calls Tryz.prog 124 #[v] w fun e w' => e = .returned (.bool (tooL r)) ∧ w = w' := by
  obtain ⟨A, c, rfl, h2, h3, h4⟩ := h
  rw [bv_len] at h2 ⊢
  have h3' : c ≤ 9223372036854775807 := by unfold maxLen at h3; exact h3
  clear h4
  have hq : tooL r = decide (1048576 < r.length) := rfl
  generalize r.length = n at *
  replace hq := hide hq
  go_enter Tryz.func124, Tryz.ntmps124
  go_wp2_with fail
  go_ret
  rw [hq.out]
  exact ⟨by simp; omega, rfl⟩
def firstAt (rs : List (List UInt8)) (k : Nat) : Prop := ∀ j, j < k → ∀ r, rs[j]? = some r → tooL r = false
set_option maxRecDepth 100000 in
theorem indexFunc_any {w : World} {S : Nat → Prop} {v : Value} {rs : List (List UInt8)} (h : RecsV w S v rs) :
    Calls Tryz.prog 151 #[v, .func (.func 124) #[] #[]] w fun e w' => ∃ z : Int, e = .returned (.int .i64 z) ∧ decide (0 ≤ z) = rs.any tooL ∧ w = w' := by
  obtain ⟨vs, hvs, ha, hrs⟩ := h
  obtain ⟨A, c, rfl, hc1, hc2, hcells⟩ := ha
  rw [hvs] at hc1 ⊢
  have hc2' : c ≤ 9223372036854775807 := by unfold maxLen at hc2; exact hc2
  replace hrs := hide hrs
  replace hcells := hide hcells
  replace hc2 := hide hc2
  replace hvs := hide hvs
  go_enter Tryz.func151, Tryz.ntmps151
  go_wp2_with fail
  go_loopw [8] (fun i wr => ∃ k : Nat, k ≤ rs.length ∧ i = .int .i64 k ∧ firstAt rs k ∧ w = wr) (fun i _ => rs.length - (intOf i).toNat)
  case atStart => exact ⟨0, Nat.zero_le _, rfl, fun j hj => by omega, rfl⟩
  case round =>
    obtain ⟨k, hk, rfl, hf, rfl⟩ := hrel
    replace hf := hide hf
    rcases Nat.lt_or_ge k rs.length with hlt | hge
    · obtain ⟨u, hu⟩ : ∃ u, vs[k]? = some u := ⟨vs[k]'(by rw [hvs.out]; exact hlt), List.getElem?_eq_getElem _⟩
      obtain ⟨b, o, rfl, hS, hc⟩ : ∃ b o, A = some ⟨b, o, none⟩ ∧ S b ∧ w.cell? ⟨b, o + k, none⟩ = some u := by
        rcases hcells.out with h | ⟨b, o, h1, h2, h3⟩
        · rw [h] at hu; simp at hu
        · exact ⟨b, o, h1, h2, h3 k u hu⟩
      have hru := hrs.out k u rs[k] hu (List.getElem?_eq_getElem hlt)
      have htl := tooLong_any hru.1
      obtain ⟨ad, nu, cu, rfl⟩ := hru.2
      replace hru := hide hru
      replace hu := hide hu
      obtain ⟨tb, htb⟩ : ∃ tb, tb = tooL rs[k] := ⟨_, rfl⟩
      rw [← htb] at htl
      replace htb := hide htb
      cases tb
      · go_wp2_with fail
        refine htl.mono ?_
        rintro e w' ⟨rfl, rfl⟩
        go_wp2_with fail
        go_roundw
        case rel =>
          refine ⟨k + 1, hlt, by go_num, fun j hj r hr => ?_, trivial⟩
          rcases Nat.lt_or_ge j k with h | h
          · exact hf.out j h r hr
          · obtain rfl : j = k := by omega
            rw [List.getElem?_eq_getElem hlt] at hr
            injection hr with hr
            rw [← hr, ← htb.out]
        case measure => simp [intOf]; omega
      · go_wp2_with fail
        refine htl.mono ?_
        rintro e w' ⟨rfl, rfl⟩
        go_wp2_with fail
        go_ret
        refine ⟨_, rfl, ?_, rfl⟩
        have : rs.any tooL = true := List.any_eq_true.2 ⟨rs[k], List.getElem_mem hlt, htb.out.symm⟩
        rw [this]
        simp
    · obtain rfl : k = rs.length := by omega
      clear hge
      go_wp2_with fail
      go_ret
      refine ⟨_, rfl, ?_, rfl⟩
      have : rs.any tooL = false := by
        rw [List.any_eq_false]
        intro r hr
        obtain ⟨j, hj, hjr⟩ := List.getElem_of_mem hr
        have := hf.out j hj r (by rw [← hjr]; exact List.getElem?_eq_getElem hj)
        rw [this]; simp
      rw [this]
      simp
set_option maxRecDepth 100000 in
theorem containsFunc_any {w : World} {S : Nat → Prop} {v : Value} {rs : List (List UInt8)} (h : RecsV w S v rs) :
    Calls Tryz.prog 123 #[v, .func (.func 124) #[] #[]] w fun e w' => e = .returned (.bool (rs.any tooL)) ∧ w = w' := by
  have hi := indexFunc_any h
  obtain ⟨vs, hvs, ha, hrs⟩ := h
  obtain ⟨A, c, rfl, hc1, hc2, hcells⟩ := ha
  clear hcells hrs
  obtain ⟨tb, htb⟩ : ∃ tb, tb = rs.any tooL := ⟨_, rfl⟩
  rw [← htb] at hi ⊢
  clear htb
  clear hc1 hc2 hvs
  go_enter Tryz.func123, Tryz.ntmps123
  go_wp2_with fail
  refine hi.mono ?_
  rintro e w' ⟨z, rfl, rfl, rfl⟩
  clear hi
  go_wp2_with fail
  go_ret
  exact ⟨rfl, rfl⟩
def Ext.plus (x : Ext) (rs : List (List UInt8)) : Ext := ⟨x.area, x.bytes + (frames rs).length, x.records + rs.length⟩
set_option maxRecDepth 100000 in
set_option maxHeartbeats 1000000 in
theorem with_any {W : World} {S : Nat → Prop} {v : Value} {rs : List (List UInt8)} (h : RecsV W S v rs) (x : Ext) (hx1 : x.area < 4294967296) (hx2 : x.bytes + (frames rs).length ≤ 4611686018427387904) (hx3 : x.records + rs.length ≤ 4611686018427387904) :
    Calls Tryz.prog 125 #[extV x, v] W fun e w' => e = .returned (extV (x.plus rs)) ∧ Below W.heap.size W w' := by
  obtain ⟨vs, hvs, ha, hrs⟩ := h
  obtain ⟨A, c, rfl, hc1, hc2, hcells⟩ := ha
  rw [hvs] at hc1 ⊢
  have hc2' : c ≤ 9223372036854775807 := by unfold maxLen at hc2; exact hc2
  obtain ⟨a, b, r⟩ := x
  simp only at hx1 hx2 hx3
  unfold extV Ext.plus
  simp only
  replace hrs := hide hrs
  replace hcells := hide hcells
  replace hc2 := hide hc2
  replace hvs := hide hvs
  obtain ⟨f, hf⟩ : ∃ f, f = (frames rs).length := ⟨_, rfl⟩
  obtain ⟨nr, hnr⟩ : ∃ nr, nr = rs.length := ⟨_, rfl⟩
  rw [← hf] at hx2 ⊢
  rw [← hnr] at hx3 hc1 ⊢
  replace hf := hide hf
  replace hnr := hide hnr
  go_enter Tryz.func125, Tryz.ntmps125
  go_wp2_with fail
  have hld := frames_take rs
  have hle := frames_le rs
  go_loopw [15] (fun i wr => ∃ k : Nat, k ≤ nr ∧ i = .int .i64 k ∧ wr.heap[W.heap.size]? = some (.cells #[.int .i64 a, .int .i64 (b + (frames (rs.take k)).length : Nat), .int .i64 (r + nr : Nat)] 128) ∧ wr.heap[W.heap.size + 1]? = some (.cells #[.int .i64 0, .int .i64 0, .int .i64 0] 128) ∧ Below W.heap.size W wr) (fun i _ => nr - (intOf i).toNat)
  case atStart =>
    refine ⟨0, Nat.zero_le _, rfl, ?_, ?_, ?_⟩
    · rw [heap_old (heap_new _ _) _]; simp [frames]
    · have := heap_new (W.alloc (.cells #[.int .i64 a, .int .i64 b, .int .i64 ((r : Int) + nr)] 128)) (.cells #[.int .i64 0, .int .i64 0, .int .i64 0] 128)
      rwa [World.size_alloc] at this
    · exact ((Below.refl _ W).alloc (Nat.le_refl _) _).alloc (by simp) _
  case round =>
    obtain ⟨k, hk, rfl, q0, q1, hB⟩ := hrel
    have hfk := hle k
    rw [← hf.out] at hfk
    rcases Nat.lt_or_ge k nr with hlt | hge
    · have hlt2 : k < rs.length := by rw [← hnr.out]; exact hlt
      obtain ⟨u, hu⟩ : ∃ u, vs[k]? = some u := ⟨vs[k]'(by rw [hvs.out]; exact hlt2), List.getElem?_eq_getElem _⟩
      obtain ⟨bb, o, rfl, hS, hc⟩ : ∃ b o, A = some ⟨b, o, none⟩ ∧ S b ∧ W.cell? ⟨b, o + k, none⟩ = some u := by
        rcases hcells.out with h | ⟨b, o, h1, h2, h3⟩
        · rw [h] at hu; simp at hu
        · exact ⟨b, o, h1, h2, h3 k u hu⟩
      have hc' := (hB.cell (World.block_lt_of_cell? _ _ hc)).trans hc
      have hru := hrs.out k u rs[k] hu (List.getElem?_eq_getElem hlt2)
      obtain ⟨au, cu, rfl, hcu, hcu2, -⟩ := hru.1
      rw [bv_len] at hcu hc'
      have hcu2' : cu ≤ 9223372036854775807 := by unfold maxLen at hcu2; exact hcu2
      have hk1 := hld k hlt2
      have hfk1 := hle (k + 1)
      rw [← hf.out] at hfk1
      have hl1 : (frames (rs.take (k + 1))).length = (frames (rs.take k)).length + (8 + rs[k].length) := by rw [hk1, List.length_append, frame_len]
      obtain ⟨m, hm⟩ : ∃ m, m = b + (frames (rs.take k)).length := ⟨_, rfl⟩
      obtain ⟨lk, hlk⟩ : ∃ lk, lk = rs[k].length := ⟨_, rfl⟩
      rw [← hm] at q0
      rw [← hlk] at hcu hc' hl1
      have hmb : m + (8 + lk) ≤ 4611686018427387904 := by omega
      have d1 : wr.cell? ⟨W.heap.size, 1, none⟩ = some (.int .i64 m) := by rw [cell_at q0]; rfl
      have e1 := frozen_at q0 1
      have hm2 : b + (frames (rs.take (k + 1))).length = m + (8 + lk) := by omega
      replace q0 := hide q0
      replace q1 := hide q1
      replace hB := hide hB
      replace hm := hide hm
      replace hm2 := hide hm2
      replace hlk := hide hlk
      clear hc hru hk1 hfk1 hl1 hu hld hle hfk
      go_wp2_with fail
      go_roundw
      case rel =>
        refine ⟨k + 1, hlt, by go_num, ?_, ?_, ?_⟩
        · rw [heap_set q0.out, hm2.out]; simp
        · rw [heap_set_other (by omega)]; exact q1.out
        · exact ((Upd.of_below (fun k => k = W.heap.size) hB.out).then (.set (F := fun k => k = W.heap.size) _ (a := ⟨W.heap.size, 1, none⟩) rfl _)).below (Nat.le_refl _) fun k e => by omega
      case measure => simp [intOf]; omega
    · obtain rfl : k = nr := by omega
      have htk : rs.take k = rs := by rw [hnr.out]; simp
      rw [htk, ← hf.out] at q0
      have d0 : wr.cell? ⟨W.heap.size, 0, none⟩ = some (.int .i64 a) := by rw [cell_at q0]; rfl
      have d1 : wr.cell? ⟨W.heap.size, 1, none⟩ = some (.int .i64 (b + f : Nat)) := by rw [cell_at q0]; rfl
      have d2 : wr.cell? ⟨W.heap.size, 2, none⟩ = some (.int .i64 (r + k : Nat)) := by rw [cell_at q0]; rfl
      have m0 : wr.cell? ⟨W.heap.size + 1, 0, none⟩ = some (.int .i64 0) := by rw [cell_at q1]; rfl
      have m1 : wr.cell? ⟨W.heap.size + 1, 1, none⟩ = some (.int .i64 0) := by rw [cell_at q1]; rfl
      have m2 : wr.cell? ⟨W.heap.size + 1, 2, none⟩ = some (.int .i64 0) := by rw [cell_at q1]; rfl
      have n0 := frozen_at q1 0
      have n1 := frozen_at q1 1
      have n2 := frozen_at q1 2
      replace hB := hide hB
      clear hge q0 q1 htk hld hle hfk
      go_wp2_with fail
      refine bodyPost_ret (v := .agg #[.int .i64 a, .int .i64 (b + f : Nat), .int .i64 (r + k : Nat)]) (by simp [results, Tryz.results125, go_sem, m0, m1, m2]) rfl ?_
      have hU : Upd (fun k => k = W.heap.size + 1) wr (((wr.setCell ⟨W.heap.size + 1, 0, none⟩ (.int .i64 a)).setCell ⟨W.heap.size + 1, 1, none⟩ (.int .i64 ((b : Int) + f))).setCell ⟨W.heap.size + 1, 2, none⟩ (.int .i64 ((r : Int) + k))) := ((Upd.set (F := fun k => k = W.heap.size + 1) _ (a := ⟨W.heap.size + 1, 0, none⟩) rfl _).then (.set (F := fun k => k = W.heap.size + 1) _ (a := ⟨W.heap.size + 1, 1, none⟩) rfl _)).then (.set (F := fun k => k = W.heap.size + 1) _ (a := ⟨W.heap.size + 1, 2, none⟩) rfl _)
      exact ⟨rfl, ((Upd.of_below (fun k => k = W.heap.size + 1) (hB.out)).then hU).below (Nat.le_refl _) fun j e => by omega⟩
end Go.Proofs.YtpnboihbifhigaaGreatDoor
/- Walks of wal: records are put. -/
namespace Go.Proofs.YtpnboihbifhigaaGreatDoor
open Go Go.RowKit
section
variable {w : World} {pb sb : Nat} {S : Nat → Prop} {D : DS}
set_option maxRecDepth 100000 in
theorem reclaim_any (h : PgV w pb sb S D) (hd : D.dead = false) (live : Nat) (hl : live ≤ 1) (hm : (D.last 0)[16]? = some (UInt8.ofNat live)) : Calls Tryz.prog 126 #[.pointer (some ⟨pb, 0, none⟩), .int .i64 live] w fun e w' => e = .returned (.tuple #[]) ∧ PgV w' pb sb S D ∧ Upd (At pb) w w' := by
  have hr := pread_any h hd 0 h.disk.n1.1
  replace hm := hide hm
  clear h hd
  go_enter Tryz.func126, Tryz.ntmps126
  go_wp2_with fail
  refine hr.mono ?_
  rintro e w1 ⟨v', rfl, h1, h2, hU⟩
  have ha := h1.arg
  obtain ⟨A, c, rfl, q1, q2, q3⟩ := id ha
  have hx : (bv (D.last 0))[16]? = some (.int .u8 live) := by
    unfold bv
    rw [List.getElem?_map, hm.out]
    rcases Nat.le_one_iff_eq_zero_or_eq_one.1 hl with rfl | rfl <;> rfl
  obtain ⟨b, o, rfl, -, hc⟩ := ha.get hx
  have hlen : 16 < (D.last 0).length := by
    have := hm.out
    rw [List.getElem?_eq_some_iff] at this
    exact this.1
  rw [bv_len] at q1 ⊢
  replace h2 := hide h2
  replace hU := hide hU
  replace hx := hide hx
  clear ha q3 hr h1
  rcases Nat.le_one_iff_eq_zero_or_eq_one.1 hl with rfl | rfl
  · go_wp2_with fail
    go_end0
    exact ⟨rfl, h2.out, hU.out⟩
  · go_wp2_with fail
    go_end0
    exact ⟨rfl, h2.out, hU.out⟩
end
/-- What a put writes. -/
def DS.put (D : DS) (live : Nat) (y : Ext) (rs : List (List UInt8)) : DS :=
  let E := ((D.extend y (frames rs)).write (1 + (1 - live)) (pad D.size (slotL (y.plus rs)))).flush
  (E.write 0 (pad D.size (markL (1 - live)))).flush
/-- v is a slice that holds l, apart from F. -/
def FrF (F : Nat → Prop) (l : List UInt8) (v : Value) (w : World) : Prop := ∃ T, ArgV w T v (bv l) ∧ (NonNil v ∨ v = .slice none 0 0) ∧ ∀ k, T k → ¬ F k
theorem FrF.kept {F : Nat → Prop} {l : List UInt8} : FKept F (FrF F l) := fun _ _ _ ⟨T, h1, h2, h3⟩ hu => ⟨T, h1.upd hu h3, h2, h3⟩
theorem FrF.of {F : Nat → Prop} {l : List UInt8} {v : Value} {w : World} {B : Nat} (h : RowB w B v l) (hF : ∀ k, B ≤ k → ¬ F k) : FrF F l v w := by
  refine ⟨_, h.arg, ?_, hF⟩
  rcases h.2 with ⟨rfl, h0⟩ | ⟨g, cap, cur, rfl, _⟩
  · exact .inr rfl
  · exact .inl ⟨_, _, _, rfl⟩
/-- The pages of a disk that holds E, in blocks of S or new ones. -/
def ExF (B pb sb : Nat) (S : Nat → Prop) (E : DS) (w : World) : Prop := ∃ S', PgV w pb sb S' E ∧ ∀ k, OO pb S' k → OO pb S k ∨ B ≤ k
theorem ExF.kept {B pb sb : Nat} {S : Nat → Prop} {E : DS} : Kept (fun _ w => ExF B pb sb S E w) := fun _ _ _ ⟨S', h1, h2⟩ hb => ⟨S', h1.upd (.of_below (fun _ => False) hb) id fun _ _ => id, h2⟩
theorem RecsV.low {w : World} {S : Nat → Prop} {v : Value} {rs : List (List UInt8)} (h : RecsV w S v rs) : RecsV w (fun k => S k ∧ k < w.heap.size) v rs := by
  obtain ⟨vs, h1, h2, h3⟩ := h
  exact ⟨vs, h1, h2.mono' h2, fun i u r hi hr => ⟨(h3 i u r hi hr).1.mono' (h3 i u r hi hr).1, (h3 i u r hi hr).2⟩⟩
section
variable {W : World} {lb sb live : Nat} {x : Ext} {S : Nat → Prop} {D : DS}
set_option maxRecDepth 100000 in
set_option maxHeartbeats 1000000 in
theorem put_any (hL : LogV W lb sb live x) (hD : DiskV W sb S D) (hd : D.dead = false) (hlb : ¬ S lb) (hT : Tab W) (hS0 : ¬ S 1) (hl0 : 1 < lb) (hn : 16 ≤ D.n) (hlive : live ≤ 1) (hm : (D.last 0)[16]? = some (UInt8.ofNat live)) (y : Ext) (hya : y.area ≤ 1) (hyr : y.records + (y.bytes + 1) ≤ 2147483648)
    {T : Nat → Prop} {rv : Value} {rs : List (List UInt8)} (hr : RecsV W T rv rs) (hTd : ∀ k, T k → ¬ S k ∧ k ≠ lb) (hrl : rs.length ≤ 2147483648) (hany : rs.any tooL = false) (hfit : y.bytes + (frames rs).length ≤ capN D) :
    Calls Tryz.prog 83 #[.pointer (some ⟨lb, 0, none⟩), extV y, rv] W fun e w' => ∃ S', e = .returned (.int .i64 (errOf (D.put live y rs))) ∧ DiskV w' sb S' (D.put live y rs) ∧ (bif (D.put live y rs).dead then LogV w' lb sb live x else LogV w' lb sb (1 - live) (y.plus rs)) ∧ Mv W (fun k => S k ∨ k = lb) w' (fun k => S' k ∨ k = lb) ∧ ¬ S' lb := by
  obtain ⟨T1, hT1⟩ : ∃ T1 : Nat → Prop, T1 = fun k => T k ∧ k < W.heap.size := ⟨_, rfl⟩
  have hrT := hr.low
  rw [← hT1] at hrT
  have hTd1 : ∀ k, T1 k → ¬ S k ∧ k ≠ lb ∧ k < W.heap.size := by
    intro k hk
    rw [hT1] at hk
    exact ⟨(hTd k hk.1).1, (hTd k hk.1).2, hk.2⟩
  clear hr hTd hT1
  have hr := hrT
  have hTd := hTd1
  clear hrT hTd1
  have hs1 := hD.s1
  have hn1 := hD.n1
  have hold := hD.old
  have hle := area_le hn1.2
  have hcap : capN D = areaN D * D.size := rfl
  have hcm : areaN D * D.size ≤ 2046 * 4096 := Nat.mul_le_mul hle hs1.2
  have hlt : lb < W.heap.size := (Array.getElem?_eq_some_iff.1 hL).1
  obtain ⟨w1, hw1⟩ : ∃ w1, w1 = W.alloc (.cells #[.int .i64 y.area, .int .i64 y.bytes, .int .i64 y.records] 128) := ⟨_, rfl⟩
  have y4 : w1.heap[W.heap.size]? = some (.cells #[.int .i64 y.area, .int .i64 y.bytes, .int .i64 y.records] 128) := by rw [hw1]; exact heap_new _ _
  have hU1 : Upd (fun _ => False) W w1 := by rw [hw1]; exact .alloc _ _ _
  have z1 : w1.heap.size = W.heap.size + 1 := by rw [hw1]; simp
  have hr1 := hr.upd hU1 fun _ _ => id
  have hcf := containsFunc_any hr1
  rw [hany] at hcf
  have hwi := with_any hr1 y (by omega) (by omega) (by omega)
  unfold extV at hwi ⊢
  obtain ⟨p, hp⟩ : ∃ p : Ext, p = y.plus rs := ⟨_, rfl⟩
  rw [← hp] at hwi ⊢
  have hpb : p.bytes = y.bytes + (frames rs).length := by rw [hp]; rfl
  have hpa : p.area = y.area := by rw [hp]; rfl
  have hpr : p.records = y.records + rs.length := by rw [hp]; rfl
  have x0 : w1.cell? ⟨W.heap.size, 0, none⟩ = some (.int .i64 y.area) := by rw [cell_at y4]; rfl
  have x1 : w1.cell? ⟨W.heap.size, 1, none⟩ = some (.int .i64 y.bytes) := by rw [cell_at y4]; rfl
  have x2 : w1.cell? ⟨W.heap.size, 2, none⟩ = some (.int .i64 y.records) := by rw [cell_at y4]; rfl
  replace hL := hide hL
  replace hD := hide hD
  replace hold := hide hold
  replace hcap := hide hcap
  replace hd := hide hd
  replace hr := hide hr
  replace hr1 := hide hr1
  replace hTd := hide hTd
  replace hm := hide hm
  replace hp := hide hp
  replace hpb := hide hpb
  replace hpa := hide hpa
  replace hpr := hide hpr
  replace y4 := hide y4
  replace hU1 := hide hU1
  replace hT := hide hT
  replace hany := hide hany
  replace z1 := hide z1
  obtain ⟨err, herr⟩ : ∃ err, err = errOf (D.put live y rs) := ⟨_, rfl⟩
  generalize hQ : (fun (e : Ending) (w' : World) => ∃ S', e = .returned (.int .i64 (errOf (D.put live y rs))) ∧ DiskV w' sb S' (D.put live y rs) ∧ (bif (D.put live y rs).dead then LogV w' lb sb live x else LogV w' lb sb (1 - live) p) ∧ Mv W (fun k => S k ∨ k = lb) w' (fun k => S' k ∨ k = lb) ∧ ¬ S' lb) = Q
  replace hQ := hide hQ
  go_enter Tryz.func83, Tryz.ntmps83
  go_wp2_with fail
  rw [← hw1]
  replace hw1 := hide hw1
  refine hcf.mono ?_
  rintro e w' ⟨rfl, rfl⟩
  go_wp2_with fail
  refine hwi.mono ?_
  rintro e w2 ⟨rfl, hb2⟩
  have hU2 : Upd (fun _ => False) w1 w2 := .of_below _ hb2
  have z2 := hU2.size
  replace hU2 := hide hU2
  clear hb2 hwi hcf
  go_wp2_with fail
  obtain ⟨w3, hw3⟩ : ∃ w3, w3 = w2.alloc (.cells #[.int .i64 p.area, .int .i64 p.bytes, .int .i64 p.records] 128) := ⟨_, rfl⟩
  have y7 : w3.heap[w2.heap.size]? = some (.cells #[.int .i64 p.area, .int .i64 p.bytes, .int .i64 p.records] 128) := by rw [hw3]; exact heap_new _ _
  have hU3 : Upd (fun _ => False) w2 w3 := by rw [hw3]; exact .alloc _ _ _
  have z3 : w3.heap.size = w2.heap.size + 1 := by rw [hw3]; simp
  rw [← hw3]
  replace hw3 := hide hw3
  have hU13 : Upd (fun _ => False) W w3 := (hU1.out.then hU2.out).then hU3
  have hD3 := hD.out.upd hU13 fun _ _ => id
  have hL3 := hU13.heap hL.out id
  have y43 := (hU2.out.then hU3).heap y4.out id
  have c7 : w3.cell? ⟨w2.heap.size, 1, none⟩ = some (.int .i64 p.bytes) := by rw [cell_at y7]; rfl
  have k0 : w3.cell? ⟨lb, 0, none⟩ = some (.pointer (some ⟨sb, 0, none⟩)) := by rw [cell_at hL3]; rfl
  have hfz : p.bytes ≤ capN D := by rw [hpb.out]; exact hfit
  replace hD3 := hide hD3
  replace hL3 := hide hL3
  replace y43 := hide y43
  replace y7 := hide y7
  replace hU13 := hide hU13
  replace hU3 := hide hU3
  replace z3 := hide z3
  clear x0 x1 x2
  refine wp_region_flow (fun _ => False) (factAt [(fun v _ => v = (.pointer (some ⟨w2.heap.size, 1, none⟩))), (fun v _ => v = (.int .i64 (p.bytes : Nat))), (fun v _ => v = (.pointer (some ⟨lb, 0, none⟩))), (fun v _ => v = (.pointer (some ⟨lb, 0, none⟩))), (fun v _ => v = (.pointer (some ⟨lb, 0, none⟩))), (fun v _ => v = (.pointer (some ⟨sb, 0, none⟩))), (fun v _ => v = (.int .i64 (capN D : Nat))), (fun v _ => v = (.bool false))]) [] (fun _ => True) (by kernel_rfl) (fkept_at ⟨FKept.eq _, FKept.eq _, FKept.eq _, FKept.eq _, FKept.eq _, FKept.eq _, FKept.eq _, FKept.eq _, trivial⟩) (fun _ _ h _ => h) trivial (by kernel_rfl) (by kernel_rfl) (by kernel_rfl) (by kernel_rfl) (Nat.le_of_ble_eq_true (by kernel_rfl)) ?_ ⟨?_, ?_, ?_, ?_, ?_, ?_, ?_, ?_, trivial⟩ ?_
  · first | exact trivial | assumption
  · intro T w Q hu hs hv hw hd
    have hx7 : T.getD 7 undef = (.pointer (some ⟨w2.heap.size, 0, none⟩)) := hv 7 (by kernel_rfl)
    refine .inl ⟨wanted_none rfl, ?_⟩
    clear hd hv hu hs hw
    go_simp
    exact ⟨_, rfl, DstOk.some rfl, Below.refl _ _, rfl⟩
  · intro T w Q hu hs hv hw hd
    have hx15 : T.getD 15 undef = (.pointer (some ⟨w2.heap.size, 1, none⟩)) := Deps.at 0 hd (by kernel_rfl)
    refine .inl ⟨wanted_none rfl, ?_⟩
    have hq0 := hu.cell c7 id
    clear hd hv hu hs hw
    go_simp
    exact ⟨_, rfl, DstOk.some rfl, Below.refl _ _, rfl⟩
  · intro T w Q hu hs hv hw hd
    have hx0 : T.getD 0 undef = (.pointer (some ⟨lb, 0, none⟩)) := hv 0 (by kernel_rfl)
    refine .inl ⟨wanted_none rfl, ?_⟩
    clear hd hv hu hs hw
    go_simp
    exact ⟨_, rfl, DstOk.some rfl, Below.refl _ _, rfl⟩
  · intro T w Q hu hs hv hw hd
    have hx17 : T.getD 17 undef = (.pointer (some ⟨lb, 0, none⟩)) := Deps.at 2 hd (by kernel_rfl)
    refine .inl ⟨wanted_none rfl, ?_⟩
    clear hd hv hu hs hw
    go_simp
    exact ⟨_, rfl, DstOk.some rfl, Below.refl _ _, rfl⟩
  · intro T w Q hu hs hv hw hd
    have hx18 : T.getD 18 undef = (.pointer (some ⟨lb, 0, none⟩)) := Deps.at 3 hd (by kernel_rfl)
    refine .inl ⟨wanted_none rfl, ?_⟩
    clear hd hv hu hs hw
    go_simp
    exact ⟨_, rfl, DstOk.some rfl, Below.refl _ _, rfl⟩
  · intro T w Q hu hs hv hw hd
    have hx19 : T.getD 19 undef = (.pointer (some ⟨lb, 0, none⟩)) := Deps.at 4 hd (by kernel_rfl)
    refine .inl ⟨wanted_none rfl, ?_⟩
    have hq0 := hu.cell k0 id
    clear hd hv hu hs hw
    go_simp
    exact ⟨_, rfl, DstOk.some rfl, Below.refl _ _, rfl⟩
  · intro T w Q hu hs hv hw hd
    have hx20 : T.getD 20 undef = (.pointer (some ⟨sb, 0, none⟩)) := Deps.at 5 hd (by kernel_rfl)
    refine .inl ⟨wanted_none rfl, ?_⟩
    have hN := capacity_any (hD3.out.upd hu fun _ _ => id) hn
    clear hd hv hu hs hw
    go_simp
    refine hN.mono ?_
    rintro e w5 ⟨rfl, hb⟩
    exact ⟨_, rfl, DstOk.some rfl, hb, rfl⟩
  · intro T w Q hu hs hv hw hd
    have hx16 : T.getD 16 undef = (.int .i64 (p.bytes : Nat)) := Deps.at 1 hd (by kernel_rfl)
    have hx21 : T.getD 21 undef = (.int .i64 (capN D : Nat)) := Deps.at 6 hd (by kernel_rfl)
    refine .inl ⟨wanted_none rfl, ?_⟩
    clear hd hv hu hs hw
    go_simp
    exact ⟨_, rfl, DstOk.some rfl, Below.refl _ _, by first | rfl | exact congrArg Value.bool (decide_eq_false (by omega))⟩
  intro T w hu hs hv hf hcur
  have hT : T = #[T.getD 0 undef, T.getD 1 undef, T.getD 2 undef, T.getD 3 undef, T.getD 4 undef, T.getD 5 undef, T.getD 6 undef, T.getD 7 undef, T.getD 8 undef, T.getD 9 undef, T.getD 10 undef, T.getD 11 undef, T.getD 12 undef, T.getD 13 undef, T.getD 14 undef, T.getD 15 undef, T.getD 16 undef, T.getD 17 undef, T.getD 18 undef, T.getD 19 undef, T.getD 20 undef, T.getD 21 undef, T.getD 22 undef, T.getD 23 undef, T.getD 24 undef, T.getD 25 undef, T.getD 26 undef, T.getD 27 undef, T.getD 28 undef, T.getD 29 undef, T.getD 30 undef, T.getD 31 undef, T.getD 32 undef, T.getD 33 undef, T.getD 34 undef, T.getD 35 undef, T.getD 36 undef, T.getD 37 undef, T.getD 38 undef, T.getD 39 undef, T.getD 40 undef, T.getD 41 undef, T.getD 42 undef, T.getD 43 undef, T.getD 44 undef, T.getD 45 undef, T.getD 46 undef, T.getD 47 undef, T.getD 48 undef, T.getD 49 undef, T.getD 50 undef, T.getD 51 undef, T.getD 52 undef, T.getD 53 undef, T.getD 54 undef, T.getD 55 undef, T.getD 56 undef, T.getD 57 undef, T.getD 58 undef, T.getD 59 undef, T.getD 60 undef, T.getD 61 undef, T.getD 62 undef, T.getD 63 undef, T.getD 64 undef, T.getD 65 undef, T.getD 66 undef, T.getD 67 undef, T.getD 68 undef, T.getD 69 undef, T.getD 70 undef, T.getD 71 undef, T.getD 72 undef] := expl hs
  rw [hT]
  clear hT
  rw [show T.getD 0 undef = (.pointer (some ⟨lb, 0, none⟩)) from hv 0 (by kernel_rfl)]
  rw [hv 1 (by kernel_rfl)]
  rw [show T.getD 2 undef = rv from hv 2 (by kernel_rfl)]
  rw [hv 3 (by kernel_rfl)]
  rw [show T.getD 4 undef = (.pointer (some ⟨W.heap.size, 0, none⟩)) from hv 4 (by kernel_rfl)]
  rw [hv 5 (by kernel_rfl)]
  rw [show T.getD 6 undef = (.int .i64 0) from hv 6 (by kernel_rfl)]
  rw [show T.getD 7 undef = (.pointer (some ⟨w2.heap.size, 0, none⟩)) from hv 7 (by kernel_rfl)]
  rw [hv 8 (by kernel_rfl)]
  rw [hv 9 (by kernel_rfl)]
  rw [hv 10 (by kernel_rfl)]
  rw [hv 11 (by kernel_rfl)]
  rw [hv 12 (by kernel_rfl)]
  rw [hv 13 (by kernel_rfl)]
  rw [hv 14 (by kernel_rfl)]
  rw [show T.getD 15 undef = (.pointer (some ⟨w2.heap.size, 1, none⟩)) from hf 0 (by decide)]
  rw [show T.getD 16 undef = (.int .i64 (p.bytes : Nat)) from hf 1 (by decide)]
  rw [show T.getD 17 undef = (.pointer (some ⟨lb, 0, none⟩)) from hf 2 (by decide)]
  rw [show T.getD 18 undef = (.pointer (some ⟨lb, 0, none⟩)) from hf 3 (by decide)]
  rw [show T.getD 19 undef = (.pointer (some ⟨lb, 0, none⟩)) from hf 4 (by decide)]
  rw [show T.getD 20 undef = (.pointer (some ⟨sb, 0, none⟩)) from hf 5 (by decide)]
  rw [show T.getD 21 undef = (.int .i64 (capN D : Nat)) from hf 6 (by decide)]
  rw [show T.getD 22 undef = (.bool false) from hf 7 (by decide)]
  rw [hv 23 (by kernel_rfl)]
  rw [hv 24 (by kernel_rfl)]
  rw [hv 25 (by kernel_rfl)]
  rw [hv 26 (by kernel_rfl)]
  rw [hv 27 (by kernel_rfl)]
  rw [hv 28 (by kernel_rfl)]
  rw [hv 29 (by kernel_rfl)]
  rw [hv 30 (by kernel_rfl)]
  rw [hv 31 (by kernel_rfl)]
  rw [hv 32 (by kernel_rfl)]
  rw [hv 33 (by kernel_rfl)]
  rw [hv 34 (by kernel_rfl)]
  rw [hv 35 (by kernel_rfl)]
  rw [hv 36 (by kernel_rfl)]
  rw [hv 37 (by kernel_rfl)]
  rw [hv 38 (by kernel_rfl)]
  rw [hv 39 (by kernel_rfl)]
  rw [hv 40 (by kernel_rfl)]
  rw [hv 41 (by kernel_rfl)]
  rw [hv 42 (by kernel_rfl)]
  rw [hv 43 (by kernel_rfl)]
  rw [hv 44 (by kernel_rfl)]
  rw [hv 45 (by kernel_rfl)]
  rw [hv 46 (by kernel_rfl)]
  rw [hv 47 (by kernel_rfl)]
  rw [hv 48 (by kernel_rfl)]
  rw [hv 49 (by kernel_rfl)]
  rw [hv 50 (by kernel_rfl)]
  rw [hv 51 (by kernel_rfl)]
  rw [hv 52 (by kernel_rfl)]
  rw [hv 53 (by kernel_rfl)]
  rw [hv 54 (by kernel_rfl)]
  rw [hv 55 (by kernel_rfl)]
  rw [hv 56 (by kernel_rfl)]
  rw [hv 57 (by kernel_rfl)]
  rw [hv 58 (by kernel_rfl)]
  rw [hv 59 (by kernel_rfl)]
  rw [hv 60 (by kernel_rfl)]
  rw [hv 61 (by kernel_rfl)]
  rw [hv 62 (by kernel_rfl)]
  rw [hv 63 (by kernel_rfl)]
  rw [hv 64 (by kernel_rfl)]
  rw [hv 65 (by kernel_rfl)]
  rw [hv 66 (by kernel_rfl)]
  rw [hv 67 (by kernel_rfl)]
  rw [hv 68 (by kernel_rfl)]
  rw [hv 69 (by kernel_rfl)]
  rw [hv 70 (by kernel_rfl)]
  rw [hv 71 (by kernel_rfl)]
  rw [hv 72 (by kernel_rfl)]
  clear hf hs hv hcur
  simp only [getD_toArray, List.getD_cons_succ, List.getD_cons_zero]
  clear T
  have hU4 : Upd (fun _ => False) W w := hU13.out.then hu
  have z4 := hu.size
  have y44 := hu.heap y43.out id
  have y74 := hu.heap y7.out id
  have hL4 := hu.heap hL3.out id
  have hD4 := hD3.out.upd hu fun _ _ => id
  have k0' : w.cell? ⟨lb, 0, none⟩ = some (.pointer (some ⟨sb, 0, none⟩)) := by rw [cell_at hL4]; rfl
  have k1' : w.cell? ⟨lb, 1, none⟩ = some (.int .i64 live) := by rw [cell_at hL4]; rfl
  have hlt4 : lb < w.heap.size := (Array.getElem?_eq_some_iff.1 hL4).1
  replace hU4 := hide hU4
  replace y44 := hide y44
  replace y74 := hide y74
  replace hL4 := hide hL4
  replace hD4 := hide hD4
  obtain ⟨w4, rfl⟩ : ∃ z, z = w := ⟨w, rfl⟩
  clear hu k0 c7
  go_wp2_with fail
  obtain ⟨w5, hw5⟩ : ∃ w5, w5 = w4.alloc (.cells #[.pointer (some ⟨sb, 0, none⟩), .int .i64 0] 96) := ⟨_, rfl⟩
  have hh5 : w5.heap[w4.heap.size]? = some (.cells #[.pointer (some ⟨sb, 0, none⟩), .int .i64 0] 96) := by rw [hw5]; exact heap_new _ _
  have hU5 : Upd (fun _ => False) w4 w5 := by rw [hw5]; exact .alloc _ _ _
  have z5 : w5.heap.size = w4.heap.size + 1 := by rw [hw5]; simp
  rw [← hw5]
  replace hw5 := hide hw5
  have hold4 : ∀ k, S k → k < w4.heap.size := hD4.out.old
  obtain ⟨pb, hpb5⟩ : ∃ pb, pb = w4.heap.size := ⟨_, rfl⟩
  rw [← hpb5] at hh5 ⊢
  have hpa5 : pb ≤ w4.heap.size := by omega
  have hpc5 : w4.heap.size ≤ pb := by omega
  clear hpb5
  have he0 : errOf D = 0 := by unfold errOf; rw [hd.out]; rfl
  have hp5 : PgV w5 pb sb S D := ⟨by rw [he0]; exact hh5, hD4.out.upd hU5 fun _ _ => id, fun h => by have := hold4 _ h; omega⟩
  have zW2 : W.heap.size + 1 ≤ w2.heap.size := by have := z1.out; omega
  have zW4 : w2.heap.size < w4.heap.size := by have := z3.out; omega
  have hrc := reclaim_any hp5 hd.out live hlive hm.out
  replace hp5 := hide hp5
  replace hh5 := hide hh5
  refine hrc.mono ?_
  rintro e w7 ⟨rfl, hp7, hU7⟩
  have z7 := hU7.size
  have hU47 : Upd (At pb) w4 w7 := (hU5.mono fun _ _ h => h.elim).then hU7
  have y47 := hU47.heap y44.out (by omega)
  have y77 := hU47.heap y74.out (by omega)
  have hL7 := hU47.heap hL4.out (by omega)
  have hU17 : Upd (At pb) W w7 := (hU4.out.mono fun _ _ h => h.elim).then hU47
  have hr7 := hr.out.upd (hU17.mono fun _ _ h => h) (fun k hk e => by have := (hTd.out k hk).2.2; omega)
  have hT7 : Tab w7 := hT.out.upd hU17 (by omega)
  have hfl := frames_le rs rs.length
  rw [List.take_length] at hfl
  have hF7 : ∀ k, OO pb S k → k < w7.heap.size := fun k h => h.elim (fun e => by omega) fun h => by have := hold4 k h; omega
  have hTF : ∀ k, T1 k → ¬ OO pb S k := fun k hk h => h.elim (fun e => by have := (hTd.out k hk).2.2; omega) fun h => (hTd.out k hk).1 h
  have h0F : ¬ OO pb S 1 := fun h => h.elim (fun e => by omega) hS0
  have hnw : ¬ OO pb S W.heap.size := fun h => h.elim (fun e => by omega) fun h => by have := hold.out _ h; omega
  have x07 : w7.cell? ⟨W.heap.size, 0, none⟩ = some (.int .i64 y.area) := by rw [cell_at y47]; rfl
  have x17 : w7.cell? ⟨W.heap.size, 1, none⟩ = some (.int .i64 y.bytes) := by rw [cell_at y47]; rfl
  have x27 : w7.cell? ⟨W.heap.size, 2, none⟩ = some (.int .i64 y.records) := by rw [cell_at y47]; rfl
  have hda := hd
  replace hp7 := hide hp7
  replace hr7 := hide hr7
  replace hT7 := hide hT7
  replace hTF := hide hTF
  replace h0F := hide h0F
  replace hnw := hide hnw
  replace hF7 := hide hF7
  replace hda := hide hda.out
  replace y47 := hide y47
  replace y77 := hide y77
  replace hL7 := hide hL7
  replace hU17 := hide hU17
  replace hfl := hide (show (frames rs).length ≤ 2147483648 by have := hcap.out; omega)
  clear hU7 hU47 hrc k0' k1' hU5 hold4
  go_wp2_with fail
  refine wp_region_flow (OO pb S) (factAt [(fun v _ => v = (.pointer (some ⟨pb, 0, none⟩))), (fun v _ => v = (.agg #[.int .i64 y.area, .int .i64 y.bytes, .int .i64 y.records])), (fun v _ => v = rv), (fun v w => FrF (OO pb S) (frames rs) v w), (fun v _ => v = (.tuple #[]))]) [none, none, none, none, some (fun _ w => ExF w7.heap.size pb sb S (D.extend y (frames rs)) w)] (fun w => PgV w pb sb S D) (by kernel_rfl) (fkept_at ⟨FKept.eq _, FKept.eq _, FKept.eq _, FrF.kept, FKept.eq _, trivial⟩) (fun w w' h hb => h.upd (.of_below (fun _ => False) hb) id fun _ _ => id) ⟨ExF.kept, trivial⟩ (by kernel_rfl) (by kernel_rfl) (by kernel_rfl) (by kernel_rfl) (Nat.le_of_ble_eq_true (by kernel_rfl)) ?_ ⟨?_, ?_, ?_, ?_, ?_, trivial⟩ ?_
  · exact hp7.out
  · intro T w Q hu hs hv hw hd
    have hx8 : T.getD 8 undef = (.pointer (some ⟨pb, 0, none⟩)) := hv 8 (by kernel_rfl)
    refine .inl ⟨wanted_none rfl, ?_⟩
    clear hd hv hu hs hw
    go_simp
    exact ⟨_, rfl, DstOk.some rfl, Below.refl _ _, rfl⟩
  · intro T w Q hu hs hv hw hd
    have hx4 : T.getD 4 undef = (.pointer (some ⟨W.heap.size, 0, none⟩)) := hv 4 (by kernel_rfl)
    refine .inl ⟨wanted_none rfl, ?_⟩
    have hq0 := hu.cell x07 hnw.out
    have hq1 := hu.cell x17 hnw.out
    have hq2 := hu.cell x27 hnw.out
    clear hd hv hu hs hw
    go_simp
    exact ⟨_, rfl, DstOk.some rfl, Below.refl _ _, rfl⟩
  · intro T w Q hu hs hv hw hd
    have hx2 : T.getD 2 undef = rv := hv 2 (by kernel_rfl)
    refine .inl ⟨wanted_none rfl, ?_⟩
    clear hd hv hu hs hw
    go_simp
    exact ⟨_, rfl, DstOk.some rfl, Below.refl _ _, rfl⟩
  · intro T w Q hu hs hv hw hd
    have hx37 : T.getD 37 undef = rv := Deps.at 2 hd (by kernel_rfl)
    refine .inl ⟨wanted_none rfl, ?_⟩
    have hz := hu.size
    have hN := framesOf_any (hr7.out.upd hu hTF.out) (hT7.out.upd hu h0F.out) (by omega) (by have := hfl.out; omega)
    clear hd hv hu hs hw
    go_simp
    refine hN.mono ?_
    rintro e w5 ⟨v5, rfl, h5, hb⟩
    exact ⟨_, rfl, DstOk.some rfl, hb, FrF.of h5 fun k hk h => by have := hF7.out k h; omega⟩
  · intro T w Q hu hs hv hw hd hc0
    have hc : (fun w => PgV w pb sb S D) w := hc0
    have hx35 : T.getD 35 undef = (.pointer (some ⟨pb, 0, none⟩)) := Deps.at 0 hd (by kernel_rfl)
    have hx36 : T.getD 36 undef = (.agg #[.int .i64 y.area, .int .i64 y.bytes, .int .i64 y.records]) := Deps.at 1 hd (by kernel_rfl)
    have f38 : (fun (v : Value) (w : World) => FrF (OO pb S) (frames rs) v w) (T.getD 38 undef) w := Deps.at 3 hd (by kernel_rfl)
    generalize hx38 : T.getD 38 undef = x38 at f38 hc
    replace f38 := hide f38
    replace hc := hide hc
    refine .inl ⟨wanted_none rfl, ?_⟩
    obtain ⟨T5, g1, g2, g3⟩ := f38.out
    have hN := extend_any hc.out hda.out hn y hya g1 g3 g2 hfit
    unfold extV at hN
    have hz := hu.size
    clear hd hv hu hs hw f38 hc hc0
    go_simp
    refine hN.mono ?_
    rintro e w5 ⟨rfl, S5, hp5, hM⟩
    exact ⟨_, rfl, DstOk.some rfl, hM.1, rfl, ⟨S5, hp5, fun k hk => (hM.2 k hk).imp id fun h => by omega⟩⟩
  intro T w hu hs hv hf hcur
  have hcur1 : (fun (w : World) => ExF w7.heap.size pb sb S (D.extend y (frames rs)) w) w := hcur
  replace hcur1 := hcur1
  have hT : T = #[T.getD 0 undef, T.getD 1 undef, T.getD 2 undef, T.getD 3 undef, T.getD 4 undef, T.getD 5 undef, T.getD 6 undef, T.getD 7 undef, T.getD 8 undef, T.getD 9 undef, T.getD 10 undef, T.getD 11 undef, T.getD 12 undef, T.getD 13 undef, T.getD 14 undef, T.getD 15 undef, T.getD 16 undef, T.getD 17 undef, T.getD 18 undef, T.getD 19 undef, T.getD 20 undef, T.getD 21 undef, T.getD 22 undef, T.getD 23 undef, T.getD 24 undef, T.getD 25 undef, T.getD 26 undef, T.getD 27 undef, T.getD 28 undef, T.getD 29 undef, T.getD 30 undef, T.getD 31 undef, T.getD 32 undef, T.getD 33 undef, T.getD 34 undef, T.getD 35 undef, T.getD 36 undef, T.getD 37 undef, T.getD 38 undef, T.getD 39 undef, T.getD 40 undef, T.getD 41 undef, T.getD 42 undef, T.getD 43 undef, T.getD 44 undef, T.getD 45 undef, T.getD 46 undef, T.getD 47 undef, T.getD 48 undef, T.getD 49 undef, T.getD 50 undef, T.getD 51 undef, T.getD 52 undef, T.getD 53 undef, T.getD 54 undef, T.getD 55 undef, T.getD 56 undef, T.getD 57 undef, T.getD 58 undef, T.getD 59 undef, T.getD 60 undef, T.getD 61 undef, T.getD 62 undef, T.getD 63 undef, T.getD 64 undef, T.getD 65 undef, T.getD 66 undef, T.getD 67 undef, T.getD 68 undef, T.getD 69 undef, T.getD 70 undef, T.getD 71 undef, T.getD 72 undef] := expl hs
  rw [hT]
  clear hT
  rw [show T.getD 0 undef = (.pointer (some ⟨lb, 0, none⟩)) from hv 0 (by kernel_rfl)]
  rw [hv 1 (by kernel_rfl)]
  rw [show T.getD 2 undef = rv from hv 2 (by kernel_rfl)]
  rw [hv 3 (by kernel_rfl)]
  rw [show T.getD 4 undef = (.pointer (some ⟨W.heap.size, 0, none⟩)) from hv 4 (by kernel_rfl)]
  rw [hv 5 (by kernel_rfl)]
  rw [show T.getD 6 undef = (.int .i64 0) from hv 6 (by kernel_rfl)]
  rw [show T.getD 7 undef = (.pointer (some ⟨w2.heap.size, 0, none⟩)) from hv 7 (by kernel_rfl)]
  rw [show T.getD 8 undef = (.pointer (some ⟨pb, 0, none⟩)) from hv 8 (by kernel_rfl)]
  rw [hv 9 (by kernel_rfl)]
  rw [hv 10 (by kernel_rfl)]
  rw [hv 11 (by kernel_rfl)]
  rw [hv 12 (by kernel_rfl)]
  rw [hv 13 (by kernel_rfl)]
  rw [hv 14 (by kernel_rfl)]
  rw [hv 15 (by kernel_rfl)]
  rw [hv 16 (by kernel_rfl)]
  rw [hv 17 (by kernel_rfl)]
  rw [hv 18 (by kernel_rfl)]
  rw [hv 19 (by kernel_rfl)]
  rw [hv 20 (by kernel_rfl)]
  rw [hv 21 (by kernel_rfl)]
  rw [hv 22 (by kernel_rfl)]
  rw [hv 23 (by kernel_rfl)]
  rw [hv 24 (by kernel_rfl)]
  rw [hv 25 (by kernel_rfl)]
  rw [hv 26 (by kernel_rfl)]
  rw [hv 27 (by kernel_rfl)]
  rw [hv 28 (by kernel_rfl)]
  rw [hv 29 (by kernel_rfl)]
  rw [hv 30 (by kernel_rfl)]
  rw [hv 31 (by kernel_rfl)]
  rw [hv 32 (by kernel_rfl)]
  rw [hv 33 (by kernel_rfl)]
  rw [hv 34 (by kernel_rfl)]
  rw [show T.getD 35 undef = (.pointer (some ⟨pb, 0, none⟩)) from hf 0 (by decide)]
  rw [show T.getD 36 undef = (.agg #[.int .i64 y.area, .int .i64 y.bytes, .int .i64 y.records]) from hf 1 (by decide)]
  rw [show T.getD 37 undef = rv from hf 2 (by decide)]
  rw [show T.getD 39 undef = (.tuple #[]) from hf 4 (by decide)]
  rw [hv 40 (by kernel_rfl)]
  rw [hv 41 (by kernel_rfl)]
  rw [hv 42 (by kernel_rfl)]
  rw [hv 43 (by kernel_rfl)]
  rw [hv 44 (by kernel_rfl)]
  rw [hv 45 (by kernel_rfl)]
  rw [hv 46 (by kernel_rfl)]
  rw [hv 47 (by kernel_rfl)]
  rw [hv 48 (by kernel_rfl)]
  rw [hv 49 (by kernel_rfl)]
  rw [hv 50 (by kernel_rfl)]
  rw [hv 51 (by kernel_rfl)]
  rw [hv 52 (by kernel_rfl)]
  rw [hv 53 (by kernel_rfl)]
  rw [hv 54 (by kernel_rfl)]
  rw [hv 55 (by kernel_rfl)]
  rw [hv 56 (by kernel_rfl)]
  rw [hv 57 (by kernel_rfl)]
  rw [hv 58 (by kernel_rfl)]
  rw [hv 59 (by kernel_rfl)]
  rw [hv 60 (by kernel_rfl)]
  rw [hv 61 (by kernel_rfl)]
  rw [hv 62 (by kernel_rfl)]
  rw [hv 63 (by kernel_rfl)]
  rw [hv 64 (by kernel_rfl)]
  rw [hv 65 (by kernel_rfl)]
  rw [hv 66 (by kernel_rfl)]
  rw [hv 67 (by kernel_rfl)]
  rw [hv 68 (by kernel_rfl)]
  rw [hv 69 (by kernel_rfl)]
  rw [hv 70 (by kernel_rfl)]
  rw [hv 71 (by kernel_rfl)]
  rw [hv 72 (by kernel_rfl)]
  clear hf hs hv hcur
  simp only [getD_toArray, List.getD_cons_succ, List.getD_cons_zero]
  generalize T.getD 38 undef = y38
  clear T
  obtain ⟨S8, hp8, hS8⟩ := hcur1
  obtain ⟨E8, hE8⟩ : ∃ E, E = D.extend y (frames rs) := ⟨_, rfl⟩
  have hn8 : E8.n = D.n := by rw [hE8]; exact writesAt_n _ _ _
  have hz8 : E8.size = D.size := by rw [hE8]; exact writesAt_size _ _ _
  rw [← hE8] at hp8
  have hM8 : Mv w7 (OO pb S) w (OO pb S8) := ⟨hu, hS8⟩
  have hno : ∀ (w' : World) (S' : Nat → Prop), Mv w7 (OO pb S) w' (OO pb S') → ∀ k, k < w7.heap.size → ¬ OO pb S k → ¬ OO pb S' k := fun w' S' h k h1 h2 h3 => (h.2 k h3).elim h2 fun h => by omega
  have hnl : ¬ OO pb S lb := fun h => h.elim (fun e => by omega) hlb
  have hn2 : ¬ OO pb S w2.heap.size := fun h => h.elim (fun e => by omega) fun h => by have := hold.out _ h; omega
  have hL8 := hu.heap hL7.out hnl
  have y78 := hu.heap y77.out hn2
  have hT8 : Tab w := hT7.out.upd hu h0F.out
  have q0 : w.cell? ⟨w2.heap.size, 0, none⟩ = some (.int .i64 p.area) := by rw [cell_at y78]; rfl
  have q1 : w.cell? ⟨w2.heap.size, 1, none⟩ = some (.int .i64 p.bytes) := by rw [cell_at y78]; rfl
  have q2 : w.cell? ⟨w2.heap.size, 2, none⟩ = some (.int .i64 p.records) := by rw [cell_at y78]; rfl
  have l1 : w.cell? ⟨lb, 1, none⟩ = some (.int .i64 live) := by rw [cell_at hL8]; rfl
  have zw := hu.size
  obtain ⟨o, ho⟩ : ∃ o, o = 1 - live := ⟨_, rfl⟩
  have ho1 : o ≤ 1 := by omega
  have hot := other_any w live hlive
  rw [← ho] at hot
  replace ho := hide ho
  replace hnl := hide hnl
  replace hn2 := hide hn2
  replace hno := hide hno
  replace hM8 := hide hM8
  replace hL8 := hide hL8
  replace y78 := hide y78
  replace hE8 := hide hE8
  replace hS8 := hide hS8
  have hws := writeSlot_any hp8 hT8 (by omega) o ho1 (by omega) p ⟨by have := hpa.out; omega, by have := hpb.out; have := hcap.out; omega, by have := hpr.out; omega⟩
  unfold extV at hws
  rw [hz8] at hws
  replace hn8 := hide hn8
  replace hz8 := hide hz8
  replace hT8 := hide hT8
  replace hp8 := hide hp8
  obtain ⟨w8, rfl⟩ : ∃ z, z = w := ⟨w, rfl⟩
  clear hu x07 x17 x27
  go_wp2_with fail
  refine hot.mono ?_
  rintro e w' ⟨rfl, rfl⟩
  go_wp2_with fail
  refine hws.mono ?_
  rintro e w9 ⟨rfl, S9, hp9, hM9⟩
  have hMM9 := hM8.out.trans hM9
  have z9 := hMM9.1.size
  have hfl9 := pflush_any hp9
  replace hMM9 := hide hMM9
  replace hp9 := hide hp9
  clear hM9 hot hws q0 q1 q2 l1
  go_wp2_with fail
  refine hfl9.mono ?_
  rintro e wa ⟨rfl, Sa, hpa', hMa⟩
  have hMMa := hMM9.out.trans hMa
  have za := hMMa.1.size
  have hwm := writeMark_any hpa' o ho1
  replace hMMa := hide hMMa
  replace hpa' := hide hpa'
  clear hMa hfl9
  go_wp2_with fail
  refine hwm.mono ?_
  rintro e wb ⟨rfl, Sb, hpb', hMb⟩
  have hMMb := hMMa.out.trans hMb
  have zb := hMMb.1.size
  have hflb := pflush_any hpb'
  replace hMMb := hide hMMb
  replace hpb' := hide hpb'
  clear hMb hwm
  go_wp2_with fail
  refine hflb.mono ?_
  rintro e wd ⟨rfl, Sd, hpd, hMd⟩
  have hMMd := hMMb.out.trans hMd
  have zd := hMMd.1.size
  clear hMd hflb
  have hD' : ((((E8.write (1 + o) (pad D.size (slotL p))).flush).write 0 (pad ((E8.write (1 + o) (pad D.size (slotL p))).flush).size (markL o))).flush) = D.put live y rs := by
    rw [DS.flush_size, DS.write_size, hz8.out, hE8.out, ho.out, hp.out]
    rfl
  rw [hD'] at hpd
  clear hD'
  have hLd := hMMd.1.heap hL7.out hnl.out
  have y7d := hMMd.1.heap y77.out hn2.out
  have cp := hpd.c1
  have hnbl : ¬ lb = pb := fun e => hnl.out (.inl e)
  have hnbl2 : ¬ pb = lb := fun e => hnbl e.symm
  have hnb2 : ¬ w2.heap.size = lb := by omega
  have hQ2 := hQ.out
  have hMF : Mv W (fun k => S k ∨ k = lb) wd (fun k => Sd k ∨ k = lb) := by
    refine ⟨(hU17.out.mono (G := fun k => S k ∨ k = lb) fun k hk e => ?_).trans hMMd.1 fun k hk h => ?_, fun k h => ?_⟩
    · have e' : k = pb := e
      omega
    · rcases h with e | h
      · omega
      · exact .inl h
    · rcases h with h | e
      · rcases hMMd.2 k (.inr h) with (e | h) | h
        · exact .inr (by omega)
        · exact .inl (.inl h)
        · exact .inr (by omega)
      · exact .inl (.inr e)
  have hnlS : ¬ Sd lb := fun h => hno.out _ _ hMMd lb (by omega) hnl.out (.inr h)
  replace hMF := hide hMF
  replace hnlS := hide hnlS
  cases hdead : (D.put live y rs).dead
  · have he : errOf (D.put live y rs) = 0 := by unfold errOf; rw [hdead]; rfl
    rw [he] at cp
    have r0 : wd.cell? ⟨w2.heap.size, 0, none⟩ = some (.int .i64 p.area) := by rw [cell_at y7d]; rfl
    have r1 : wd.cell? ⟨w2.heap.size, 1, none⟩ = some (.int .i64 p.bytes) := by rw [cell_at y7d]; rfl
    have r2 : wd.cell? ⟨w2.heap.size, 2, none⟩ = some (.int .i64 p.records) := by rw [cell_at y7d]; rfl
    have s1 : wd.cell? ⟨lb, 1, none⟩ = some (.int .i64 live) := by rw [cell_at hLd]; rfl
    have s2 : wd.cell? ⟨lb, 2, none⟩ = some (.int .i64 x.area) := by rw [cell_at hLd]; rfl
    have s3 : wd.cell? ⟨lb, 3, none⟩ = some (.int .i64 x.bytes) := by rw [cell_at hLd]; rfl
    have s4 : wd.cell? ⟨lb, 4, none⟩ = some (.int .i64 x.records) := by rw [cell_at hLd]; rfl
    have f1 : wd.frozen? ⟨lb, 1, none⟩ = false := frozen_at hLd 1
    have f2 : wd.frozen? ⟨lb, 2, none⟩ = false := frozen_at hLd 2
    have f3 : wd.frozen? ⟨lb, 3, none⟩ = false := frozen_at hLd 3
    have f4 : wd.frozen? ⟨lb, 4, none⟩ = false := frozen_at hLd 4
    replace hLd := hide hLd
    replace y7d := hide y7d
    replace hpd := hide hpd
    replace hMMd := hide hMMd
    replace hQ2 := hide hQ2
    replace he := hide he
    replace hdead := hide hdead
    clear hQ
    go_wp2_with fail
    go_region
    all_goals
      go_wp2_with fail
      have hFset : Upd (fun k => k = lb) wd (((((wd.setCell ⟨lb, 1, none⟩ (.int .i64 o)).setCell ⟨lb, 2, none⟩ (.int .i64 p.area)).setCell ⟨lb, 3, none⟩ (.int .i64 p.bytes)).setCell ⟨lb, 4, none⟩ (.int .i64 p.records)).drew) := ((((Upd.set (F := fun k => k = lb) wd (a := ⟨lb, 1, none⟩) rfl _).then (.set (F := fun k => k = lb) _ (a := ⟨lb, 2, none⟩) rfl _)).then (.set (F := fun k => k = lb) _ (a := ⟨lb, 3, none⟩) rfl _)).then (.set (F := fun k => k = lb) _ (a := ⟨lb, 4, none⟩) rfl _)).drew
      have hB : (((((wd.setCell ⟨lb, 1, none⟩ (.int .i64 o)).setCell ⟨lb, 2, none⟩ (.int .i64 p.area)).setCell ⟨lb, 3, none⟩ (.int .i64 p.bytes)).setCell ⟨lb, 4, none⟩ (.int .i64 p.records)).drew).heap[lb]? = some (.cells #[.pointer (some ⟨sb, 0, none⟩), .int .i64 o, .int .i64 p.area, .int .i64 p.bytes, .int .i64 p.records] 135) :=
        (heap_set (heap_set (heap_set (heap_set hLd.out _ _) _ _) _ _) _ _).trans rfl
      show Q (.returned (.int .i64 0)) _
      rw [← hQ2.out]
      exact ⟨Sd, by rw [he.out], hpd.out.disk.upd hFset (fun k hk e => hnlS.out (e ▸ hk)), by rw [hdead.out, ← ho.out]; exact hB, ⟨hMF.out.1.then (hFset.mono fun k _ e => .inr e), hMF.out.2⟩, hnlS.out⟩
  · have he : errOf (D.put live y rs) = 32 := by unfold errOf; rw [hdead]; rfl
    rw [he] at cp
    replace hLd := hide hLd
    replace y7d := hide y7d
    replace hpd := hide hpd
    replace hMMd := hide hMMd
    replace hQ2 := hide hQ2
    replace he := hide he
    replace hdead := hide hdead
    clear hQ
    go_wp2_with fail
    show Q (.returned (.int .i64 32)) wd
    rw [← hQ2.out]
    exact ⟨Sd, by rw [he.out], hpd.out.disk, by rw [hdead.out]; exact hLd.out, hMF.out, hnlS.out⟩
end
end Go.Proofs.YtpnboihbifhigaaGreatDoor
