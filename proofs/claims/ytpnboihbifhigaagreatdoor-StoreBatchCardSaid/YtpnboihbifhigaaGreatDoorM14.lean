/- Part 14 of the walks (merged): Lay, SortedK, Lose, Crash, Falls, Falls2, LawMemA, CatRecs. -/
import Derived.Shelf.SlIterI.Nil
import Derived.Shelf.SlIterI.Sorted
import Derived.Shelf.SortM.Plain
import Derived.Shelf.SortM.SortNone
import Derived.Test.YtpnboihbifhigaaGreatDoorProg
import Derived.Test.YtpnboihbifhigaaGreatDoorM5
import Derived.Shelf.Abstract
import Derived.Test.YtpnboihbifhigaaGreatDoorM13
/- Library functions, laid at this dump: maps.Keys, slices.Sorted, slices.Sort. -/
namespace Go.Proofs.YtpnboihbifhigaaGreatDoor
open Go Go.RowKit Go.Shelf
def layKeys_ren : Go.Shelf.Ren := ⟨fun | 7 => 62 | 10 => 93 | n => n, fun | 23 => 50 | 26 => 3 | 3 => 62 | 28 => 119 | 0 => 0 | 27 => 118 | 33 => 149 | 4 => 4 | n => n, fun | n => n⟩
theorem layKeys : Go.Proofs.SlLaysZI.n7 Tryz.prog layKeys_ren := {
  mixed := by kernel_rfl
  f7 := ⟨Tryz.f62.name, by decide, Tryz.func62.trans (congrArg some (by kernel_rfl))⟩
  f10 := ⟨Tryz.f93.name, by decide, Tryz.func93.trans (congrArg some (by kernel_rfl))⟩
  t0 := Tryz.underlying0
  a0 := Tryz.isAgg0
  z0 := Tryz.sizeOf0
  v0 := Tryz.zeroValue0
  t4 := Tryz.underlying4
  a4 := Tryz.isAgg4
  z4 := Tryz.sizeOf4
  v4 := Tryz.zeroValue4
  t23 := Tryz.underlying50
  a23 := Tryz.isAgg50
  z23 := Tryz.sizeOf50
  v23 := Tryz.zeroValue50
  t26 := Tryz.underlying3
  a26 := Tryz.isAgg3
  z26 := Tryz.sizeOf3
  v26 := Tryz.zeroValue3
  t27 := Tryz.underlying118
  a27 := Tryz.isAgg118
  z27 := Tryz.sizeOf118
  v27 := Tryz.zeroValue118
  t28 := Tryz.underlying119
  a28 := Tryz.isAgg119
  z28 := Tryz.sizeOf119
  v28 := Tryz.zeroValue119
  t33 := Tryz.underlying149
  a33 := Tryz.isAgg149
  z33 := Tryz.sizeOf149
  v33 := Tryz.zeroValue149 }
def laySorted_ren : Go.Shelf.Ren := ⟨fun | 6 => 61 | 8 => 91 | 9 => 92 | 11 => 135 | 13 => 67 | 12 => 136 | 23 => 104 | 24 => 105 | 14 => 162 | 15 => 163 | 16 => 164 | 17 => 165 | 18 => 166 | 19 => 167 | 20 => 168 | 21 => 169 | 22 => 170 | 25 => 181 | 26 => 139 | 27 => 140 | 28 => 182 | 29 => 183 | 30 => 184 | 31 => 186 | n => n, fun | 26 => 3 | 28 => 119 | 24 => 116 | 0 => 0 | 3 => 3 | 37 => 124 | 48 => 160 | 50 => 47 | 4 => 4 | 40 => 153 | 39 => 152 | 45 => 157 | 5 => 5 | 9 => 9 | 51 => 189 | 55 => 193 | 57 => 220 | 58 => 221 | 33 => 149 | n => n, fun | n => n⟩
theorem laySorted : Go.Proofs.SlLaysZI.n6 Tryz.prog laySorted_ren := {
  mixed := by kernel_rfl
  f6 := ⟨Tryz.f61.name, by decide, Tryz.func61.trans (congrArg some (by kernel_rfl))⟩
  f8 := ⟨Tryz.f91.name, by decide, Tryz.func91.trans (congrArg some (by kernel_rfl))⟩
  f11 := ⟨Tryz.f135.name, by decide, Tryz.func135.trans (congrArg some (by kernel_rfl))⟩
  t0 := Tryz.underlying0
  a0 := Tryz.isAgg0
  z0 := Tryz.sizeOf0
  v0 := Tryz.zeroValue0
  t24 := Tryz.underlying116
  a24 := Tryz.isAgg116
  z24 := Tryz.sizeOf116
  v24 := Tryz.zeroValue116
  t26 := Tryz.underlying3
  a26 := Tryz.isAgg3
  z26 := Tryz.sizeOf3
  v26 := Tryz.zeroValue3
  t28 := Tryz.underlying119
  a28 := Tryz.isAgg119
  z28 := Tryz.sizeOf119
  v28 := Tryz.zeroValue119
  i26 := by kernel_rfl }
def laySort_ren : Go.Shelf.Ren := ⟨fun | 5 => 92 | 8 => 67 | 7 => 136 | 19 => 104 | 20 => 105 | 10 => 162 | 11 => 163 | 12 => 164 | 13 => 165 | 14 => 166 | 15 => 167 | 16 => 168 | 17 => 169 | 18 => 170 | 30 => 181 | 31 => 139 | 32 => 140 | 33 => 182 | 34 => 183 | 35 => 184 | 40 => 186 | n => n, fun | 23 => 116 | 25 => 3 | 3 => 3 | 32 => 124 | 22 => 116 | 0 => 0 | 44 => 160 | 46 => 47 | 4 => 4 | 36 => 153 | 35 => 152 | 41 => 157 | 5 => 5 | 9 => 9 | 53 => 189 | 57 => 193 | 63 => 220 | 64 => 221 | n => n, fun | n => n⟩
theorem laySort : Go.Proofs.SlLaysM.n5 Tryz.prog laySort_ren := {
  mixed := by kernel_rfl
  f5 := ⟨Tryz.f92.name, by decide, Tryz.func92.trans (congrArg some (by kernel_rfl))⟩
  f7 := ⟨Tryz.f136.name, by decide, Tryz.func136.trans (congrArg some (by kernel_rfl))⟩
  f8 := Tryz.func67.trans (congrArg some (by kernel_rfl))
  f10 := ⟨Tryz.f162.name, by decide, Tryz.func162.trans (congrArg some (by kernel_rfl))⟩
  f11 := ⟨Tryz.f163.name, by decide, Tryz.func163.trans (congrArg some (by kernel_rfl))⟩
  f12 := ⟨Tryz.f164.name, by decide, Tryz.func164.trans (congrArg some (by kernel_rfl))⟩
  f13 := ⟨Tryz.f165.name, by decide, Tryz.func165.trans (congrArg some (by kernel_rfl))⟩
  f14 := ⟨Tryz.f166.name, by decide, Tryz.func166.trans (congrArg some (by kernel_rfl))⟩
  f15 := ⟨Tryz.f167.name, by decide, Tryz.func167.trans (congrArg some (by kernel_rfl))⟩
  f16 := ⟨Tryz.f168.name, by decide, Tryz.func168.trans (congrArg some (by kernel_rfl))⟩
  f17 := ⟨Tryz.f169.name, by decide, Tryz.func169.trans (congrArg some (by kernel_rfl))⟩
  f18 := ⟨Tryz.f170.name, by decide, Tryz.func170.trans (congrArg some (by kernel_rfl))⟩
  f19 := Tryz.func104.trans (congrArg some (by kernel_rfl))
  f20 := Tryz.func105.trans (congrArg some (by kernel_rfl))
  f30 := ⟨Tryz.f181.name, by decide, Tryz.func181.trans (congrArg some (by kernel_rfl))⟩
  f31 := Tryz.func139.trans (congrArg some (by kernel_rfl))
  f32 := Tryz.func140.trans (congrArg some (by kernel_rfl))
  f33 := ⟨Tryz.f182.name, by decide, Tryz.func182.trans (congrArg some (by kernel_rfl))⟩
  f34 := ⟨Tryz.f183.name, by decide, Tryz.func183.trans (congrArg some (by kernel_rfl))⟩
  f35 := ⟨Tryz.f184.name, by decide, Tryz.func184.trans (congrArg some (by kernel_rfl))⟩
  f40 := ⟨Tryz.f186.name, by decide, Tryz.func186.trans (congrArg some (by kernel_rfl))⟩
  t0 := Tryz.underlying0
  a0 := Tryz.isAgg0
  z0 := Tryz.sizeOf0
  v0 := Tryz.zeroValue0
  t3 := Tryz.underlying3
  a3 := Tryz.isAgg3
  z3 := Tryz.sizeOf3
  v3 := Tryz.zeroValue3
  t4 := Tryz.underlying4
  a4 := Tryz.isAgg4
  z4 := Tryz.sizeOf4
  v4 := Tryz.zeroValue4
  t5 := Tryz.underlying5
  a5 := Tryz.isAgg5
  z5 := Tryz.sizeOf5
  v5 := Tryz.zeroValue5
  t9 := Tryz.underlying9
  a9 := Tryz.isAgg9
  z9 := Tryz.sizeOf9
  v9 := Tryz.zeroValue9
  t22 := Tryz.underlying116
  a22 := Tryz.isAgg116
  z22 := Tryz.sizeOf116
  v22 := Tryz.zeroValue116
  t23 := Tryz.underlying116
  a23 := Tryz.isAgg116
  z23 := Tryz.sizeOf116
  v23 := Tryz.zeroValue116
  t25 := Tryz.underlying3
  a25 := Tryz.isAgg3
  z25 := Tryz.sizeOf3
  v25 := Tryz.zeroValue3
  t32 := Tryz.underlying124
  a32 := Tryz.isAgg124
  z32 := Tryz.sizeOf124
  v32 := Tryz.zeroValue124
  t35 := Tryz.underlying152
  a35 := Tryz.isAgg152
  z35 := Tryz.sizeOf152
  v35 := Tryz.zeroValue152
  t36 := Tryz.underlying153
  a36 := Tryz.isAgg153
  z36 := Tryz.sizeOf153
  v36 := Tryz.zeroValue153
  t41 := Tryz.underlying157
  a41 := Tryz.isAgg157
  z41 := Tryz.sizeOf157
  v41 := Tryz.zeroValue157
  t44 := Tryz.underlying160
  a44 := Tryz.isAgg160
  z44 := Tryz.sizeOf160
  v44 := Tryz.zeroValue160
  t46 := Tryz.underlying47
  a46 := Tryz.isAgg47
  z46 := Tryz.sizeOf47
  v46 := Tryz.zeroValue47
  t53 := Tryz.underlying189
  a53 := Tryz.isAgg189
  z53 := Tryz.sizeOf189
  v53 := Tryz.zeroValue189
  t57 := Tryz.underlying193
  a57 := Tryz.isAgg193
  z57 := Tryz.sizeOf193
  v57 := Tryz.zeroValue193
  t63 := Tryz.underlying220
  a63 := Tryz.isAgg220
  z63 := Tryz.sizeOf220
  v63 := Tryz.zeroValue220
  t64 := Tryz.underlying221
  a64 := Tryz.isAgg221
  z64 := Tryz.sizeOf221
  v64 := Tryz.zeroValue221 }
end Go.Proofs.YtpnboihbifhigaaGreatDoor
/- slices.Sorted(maps.Keys(m)) at the disk's map. -/
namespace Go.Proofs.YtpnboihbifhigaaGreatDoor
open Go Go.RowKit Go.Maps Go.Sort Go.Shelf
theorem sorts_lay (m : Nat) : AnyZI.SortsIn Tryz.prog laySorted_ren Fence.wide m :=
  ⟨fun blk off cap ss W hH hblk hsz => callsIn_wide.2 (AnyM.slices_Sort_int laySort blk off cap ss W hH hblk hsz),
   fun p cap W => callsIn_wide.2 (AnyM.slices_Sort_int_none laySort p cap W)⟩
theorem keys_any (mb : Option Nat) (W : World) : Calls Tryz.prog 62 #[.map mb] W fun e w' => e = .returned (.func (.func 93) #[] #[.pointer (some ⟨W.heap.size, 0, none⟩)]) ∧ w' = W.alloc (.cells #[.map mb] 50) :=
  (callsIn_wide (n := 5)).1 (AnyZI.keys_in layKeys Fence.wide 5 trivial rfl mb W)
set_option maxHeartbeats 1000000 in
theorem sorted_keys_any {b nn : Nat} {D0 : DV} (w : World) (hown : w.ownsMap Tryz.prog 3 heldE b nn D0) (hsz : Maps.size D0 ≤ 4096) :
    Calls Tryz.prog 61 #[.func (.func 93) #[] #[.pointer (some ⟨w.heap.size, 0, none⟩)]] (w.alloc (.cells #[.map (some b)] 50)) fun e w' => ∃ (v : Value) (ss : List Int), e = .returned v ∧ ss.Perm (intKeys D0) ∧
      w'.ownsRow (w.heap.size + 1) 3 1 v ss.length ((ss.mergeSort (fun x y => decide (x ≤ y))).map encZ) ∧ Below (w.heap.size + 1) (w.alloc (.cells #[.map (some b)] 50)) w' := by
  refine (callsIn_wide (n := 6)).1 ?_
  have hbl := hown.lt
  have hseq : SeqGives Fence.wide 2 Tryz.prog 93 #[.pointer (some ⟨w.heap.size, 0, none⟩)] encZ (fun ss => ss.Perm (intKeys D0)) (Maps.size D0) (w.alloc (.cells #[.map (some b)] 50)) :=
    AnyZI.keys_gives (ρ := layKeys_ren) { layKeys with } Fence.wide _ trivial rfl (by omega) w.heap.size b nn D0 _ (by simp) (by simp) (by
      obtain ⟨es, clock, hb, Ft, hs, hD⟩ := hown
      exact ⟨es, clock, (Below.heap_alloc _ _ b hbl).trans hb, Ft, hs, hD⟩)
  have cS := AnyZI.sorted_in laySorted Fence.wide 5 trivial trivial trivial trivial rfl (by omega) (sorts_lay _) (enters_of Tryz.func92 (by kernel_rfl) rfl) 93 #[.pointer (some ⟨w.heap.size, 0, none⟩)] trivial (enters_of Tryz.func93 (by kernel_rfl) rfl) _ _ (by unfold maxLen; omega) (by omega) _ hseq
  have cS2 := (callsIn_wide).1 cS
  refine callsIn_wide.2 (cS2.mono ?_)
  rintro e w' ⟨v, ss, rfl, hS, hrow, hnil, hb⟩
  rw [World.size_alloc] at hrow hb
  exact ⟨v, ss, rfl, hS, hrow, hb⟩
end Go.Proofs.YtpnboihbifhigaaGreatDoor
/- Walks of the disk: what a loss of power leaves. -/
namespace Go.Proofs.YtpnboihbifhigaaGreatDoor
open Go Go.RowKit
def DS.crash (D : DS) (K : Nat → Bool) : DS := { D with dur := fun i => if K i then D.last i else D.dur i, wr := fun _ => none }
/-- The array while it is gone through. -/
def Part (w : World) (db n : Nat) (vs : Array Value) (g : Nat → Option Value) (K : Nat → Bool) : Prop :=
  ∃ us : Array Value, w.heap[db]? = some (.cells us 62) ∧ us.size = n ∧ ∀ i, i < n → us[i]? = if K i then (match g i with | some v => some v | none => vs[i]?) else vs[i]?
section
variable {w : World} {sb db mb cap : Nat} {vs : Array Value} {g : Nat → Option Value} {R : Nat → Prop} {D : DS}
set_option maxRecDepth 100000 in
set_option maxHeartbeats 1000000 in
theorem lose_any (h : DiskAt w sb db mb cap vs g R D) (keep at_ : Int) (hk0 : 0 ≤ keep ∧ keep ≤ 18446744073709551615) : Calls Tryz.prog 37 #[.pointer (some ⟨sb, 0, none⟩), .int .u64 keep, .int .i64 (-1), .int .i64 at_] w fun e w' => e = .returned (.tuple #[]) ∧
    ∃ mb' vs' g' K, DiskAt w' sb db mb' cap vs' g' R (D.crash K) ∧ Mv w (Foot sb db mb R) w' (Foot sb db mb' R) := by
  have c2 := h.c2
  have hn := h.n1
  have hsz := h.len
  have harr := h.arr
  have hhead := h.head
  obtain ⟨DM, m1, m2, m3, m4⟩ := h.map
  have hmb := m1.lt
  have hsb := (Array.getElem?_eq_some_iff.1 h.head).1
  have hdb := (Array.getElem?_eq_some_iff.1 h.arr).1
  have hne := h.ne
  have hcn := cnt_le g D.n
  have hky := keys_any (some mb) w
  have _ := hk0
  have hso := sorted_keys_any w m1 (by omega)
  replace h := hide h
  replace m2 := hide m2
  replace m3 := hide m3
  replace m4 := hide m4
  replace m1 := hide m1
  replace harr := hide harr
  replace hne := hide hne
  replace hhead := hide hhead
  go_enter Tryz.func37, Tryz.ntmps37
  go_wp2_with fail
  refine hky.mono ?_
  rintro e w1 ⟨rfl, rfl⟩
  go_wp2_with fail
  refine hso.mono ?_
  rintro e w2 ⟨v, ss, rfl, hperm, hrow, hb⟩
  clear hky hso
  have hU : Upd (fun _ => False) w w2 := (Upd.alloc _ w (.cells #[.map (some mb)] 50)).then (.of_below _ (by rw [World.size_alloc]; exact hb))
  obtain ⟨L, hL⟩ : ∃ L : List Int, L = ss.mergeSort (fun x y => decide (x ≤ y)) := ⟨_, rfl⟩
  have hLm : ∀ x ∈ L, ∃ i : Nat, i < D.n ∧ x = i ∧ ∃ u, g i = some u := by
    intro x hx
    rw [hL] at hx
    have hx2 := hperm.mem_iff.1 ((List.mergeSort_perm ss _).mem_iff.1 hx)
    obtain ⟨es, hD, hko⟩ := m1.out.keysOf
    rw [hD] at hx2
    obtain ⟨p, hp, rfl⟩ := List.mem_map.1 hx2
    obtain ⟨v0, hv0⟩ := hko p hp
    obtain ⟨y, _, hy, _⟩ := Maps.keyOf_i64 Tryz.underlying3 hv0
    have hh : Maps.has DM p.1 = true := by
      rw [hD]
      show es.any (fun q => q.1.sameKey p.1) = true
      rw [List.any_eq_true]
      exact ⟨p, hp, by rw [hy]; simp [Lit.sameKey]⟩
    obtain ⟨i, hi, hki⟩ := m3.out p.1 hh
    refine ⟨i, hi, by rw [hki]; rfl, ?_⟩
    have h4 := (m4.out i hi).1
    rw [← hki, hh] at h4
    exact Option.isSome_iff_exists.1 h4.symm
  have hLl : L.length = ss.length := by rw [hL]; simp
  rw [← hL, ← hLl] at hrow
  clear hL
  obtain ⟨A, c, rfl, hc, hlc⟩ : ∃ A c, v = .slice A L.length c ∧ c ≤ maxLen ∧ L.length ≤ c := by
    rcases hrow.2 with ⟨rfl, h0⟩ | ⟨g, cap, cur, rfl, hb, hg, h1, h2, _⟩
    · rw [h0]; exact ⟨_, _, rfl, Nat.zero_le _, Nat.le_refl _⟩
    · exact ⟨_, _, rfl, h2, h1⟩
  have hci : ∀ (k : Nat) (h : k < L.length), ∃ b, A = some ⟨b, 0, none⟩ ∧ w.heap.size < b ∧ w2.cell? ⟨b, k, none⟩ = some (.int .i64 L[k]) := by
    intro k hk
    rcases hrow.2 with ⟨e, h0⟩ | ⟨g, cap, cur, e, hb, hg, h1, h2, _⟩
    · omega
    · injection e with e1 e2 e3
      subst e1
      refine ⟨g, rfl, by omega, ?_⟩
      have := hrow.cells (g := g) rfl k (.int .i64 L[k]) (by simp [hk])
      rwa [Go.WideShapes.add_plain, Nat.zero_add] at this
  replace hrow := hide hrow
  replace hci := hide hci
  replace hLm := hide hLm
  replace hU := hide hU
  clear hb hperm hLl
  unfold maxLen at hc
  go_wp2_with fail
  go_loopw [17] (fun i wr => ∃ (k : Nat) (K : Nat → Bool), k ≤ L.length ∧ i = .int .i64 k ∧ Part wr db D.n vs g K ∧ Upd (fun k => k = db) w2 wr) (fun i _ => L.length - (intOf i).toNat)
  case atStart => exact ⟨0, fun _ => false, Nat.zero_le _, rfl, ⟨vs, hU.out.heap harr.out id, hsz, fun i hi => by simp⟩, .refl _ _⟩
  case round =>
    obtain ⟨k, K, hk, rfl, hP, hUr⟩ := hrel
    rcases Nat.lt_or_ge k L.length with hlt | hge
    · obtain ⟨b, rfl, hbw, hcx⟩ := hci.out k hlt
      obtain ⟨i, hi, hxi, u, hgu⟩ := hLm.out _ (List.getElem_mem hlt)
      rw [hxi] at hcx
      have hcx' := hUr.cell hcx (fun e => by omega)
      have hkt : ¬ ((k : Int) = -1) := by omega
      replace hP := hide hP
      replace hUr := hide hUr
      replace hxi := hide hxi
      replace hgu := hide hgu
      clear hcx
      have hUw := (hU.out.mono (G := fun k => k = db) fun _ _ h => h.elim).then hUr.out
      have hhd := hUw.heap hhead.out hne.out.2.2.2.1
      have c1' : wr.cell? ⟨sb, 1, none⟩ = some (.slice (some ⟨db, 0, none⟩) D.n cap) := by rw [cell_at hhd]; rfl
      have c2' : wr.cell? ⟨sb, 2, none⟩ = some (.map (some mb)) := by rw [cell_at hhd]; rfl
      have mo : wr.ownsMap Tryz.prog 3 heldE mb (cnt g D.n) DM := by
        obtain ⟨es, clock, hb, r⟩ := m1.out
        exact ⟨es, clock, hUw.heap hb (fun e => hne.out.2.2.2.2.2 e.symm), r⟩
      have hcapn : D.n ≤ cap := by have := h.out.cap; omega
      obtain ⟨us, hus, hsu, hiu⟩ := hP.out
      have hfz := frozen_at hus i
      have hkey := key_int i (by omega)
      obtain ⟨v1, ps1, hlk, hv1⟩ := mo.lookup int_key Tryz.underlying50 (zero_bytes wr) (zd := .held (.slice none 0 0)) (zp := []) rfl hkey
      obtain ⟨v2, ps2, hlk2, hv2⟩ := mo.drew.lookup int_key Tryz.underlying50 (zero_bytes wr.drew) (zd := .held (.slice none 0 0)) (zp := []) rfl hkey
      rw [(m4.out i hi).2, hgu.out] at hv1 hv2
      obtain rfl := heldE_val hv1
      obtain rfl := heldE_val hv2
      obtain ⟨⟨⟨xa, xn, xc⟩, rfl⟩, -⟩ := heldE_inv hv2
      simp only at hlk hlk2 hgu
      have hiu2 : i < us.size := by omega
      have d2 : wr.cell? ⟨db, i, none⟩ = some us[i] := by rw [cell_at hus]; simp [hiu2]
      replace hus := hide hus
      replace hiu := hide hiu
      replace hUw := hide hUw
      replace hhd := hide hhd
      clear mo hv1 hv2
      go_wp2_with fail
      · go_region
        all_goals
          go_wp2_with fail
          go_roundw
          case rel =>
            refine ⟨k + 1, fun j => if j = i then true else K j, hlt, by go_num, ⟨_, heap_set hus.out i _, by simpa using hsu, fun j hj => ?_⟩, hUr.out.then ((Upd.set (F := fun k => k = db) wr (a := ⟨db, i, none⟩) rfl _).drew)⟩
            by_cases e : j = i
            · subst e
              simp [hiu2, hgu.out]
            · have h2 : (us.setIfInBounds i (.slice xa xn xc))[j]? = us[j]? := by simp [show ¬ i = j from fun h => e h.symm]
              rw [h2, hiu.out j hj]
              simp [e]
          case measure => simp [intOf]; omega
      · refine ⟨⟨k + 1, K, hlt, by go_num, hP.out, hUr.out⟩, ?_⟩
        simp [intOf]; omega
    · obtain rfl : k = L.length := by omega
      have hUw := (hU.out.mono (G := fun k => k = db) fun _ _ h => h.elim).then hUr
      have hhd := hUw.heap hhead.out hne.out.2.2.2.1
      have hfg := forget_is hhd
      replace hUw := hide hUw
      go_wp2_with fail
      refine hfg.mono ?_
      rintro e w3 ⟨rfl, hz3, hU3, hm3, hh3⟩
      replace hU3 := hide hU3
      replace hm3 := hide hm3
      replace hh3 := hide hh3
      replace hz3 := hide hz3
      go_wp2_with fail
      go_end0
      obtain ⟨us, hus, hsu, hiu⟩ := hP
      have hD := h.out
      have hN := hD.ne
      have hws := hUw.out.size
      have hr : ∀ {v l}, ArgV w R v (bv l) → ArgV w3 R v (bv l) := fun h => (h.upd hUw.out fun k hk e => hN.2.1 (e ▸ hk)).upd hU3.out fun k hk e => hN.1 (e ▸ hk)
      refine ⟨rfl, wr.heap.size, us, fun _ => none, K, ?_, ?_, fun k hk => ?_⟩
      · exact {
          head := hh3.out
          arr := hU3.out.heap hus (fun e => hN.2.2.2.1 e.symm)
          len := hsu
          cap := hD.cap
          map := MapV.empty _ hm3.out
          dur := fun i hi => by
            have hi1 := hiu i hi
            obtain ⟨a1, v, a2, a3⟩ := hD.dur i hi
            have a4 := hD.wr i hi
            show ((if K i then DS.last D i else D.dur i).length = D.size) ∧ ∃ v, us[i]? = some v ∧ ArgV w3 R v (bv (if K i then DS.last D i else D.dur i))
            rw [hi1]
            cases hK : K i
            · exact ⟨by simpa using a1, v, by simpa using a2, by simpa using hr a3⟩
            · unfold DS.last
              cases hg : g i with
              | none =>
                rw [hg] at a4
                cases hw : D.wr i with
                | none => exact ⟨by simpa using a1, v, by simpa using a2, by simpa using hr a3⟩
                | some l => rw [hw] at a4; exact a4.elim
              | some u =>
                rw [hg] at a4
                cases hw : D.wr i with
                | none => rw [hw] at a4; exact a4.elim
                | some l => rw [hw] at a4; exact ⟨by simpa using a4.1, u, by simp, by simpa using hr a4.2⟩
          wr := fun _ _ => trivial
          ne := ⟨hN.1, hN.2.1, fun hk => by have := (hD.old _ hk).lt; omega, hN.2.2.2.1, by omega, by omega⟩
          old := fun k hk => ((hD.old k hk).upd hUw.out fun e => hN.2.1 (e ▸ hk)).upd hU3.out fun e => hN.1 (e ▸ hk)
          n1 := hD.n1
          s1 := hD.s1
          l1 := hD.l1 }
      · exact (hUw.out.mono fun k _ e => Or.inr (Or.inl e)).then (hU3.out.mono fun k _ e => Or.inl e)
      · rcases hk with e | e | e | e
        · exact .inl (.inl e)
        · exact .inl (.inr (.inl e))
        · exact .inr (by omega)
        · exact .inl (.inr (.inr (.inr e)))
end
end Go.Proofs.YtpnboihbifhigaaGreatDoor
/- Walks of the disk: power fails and comes back. -/
namespace Go.Proofs.YtpnboihbifhigaaGreatDoor
open Go Go.RowKit
def DS.fall (D : DS) (K : Nat → Bool) : DS := { D with dur := fun i => if K i then D.last i else D.dur i, wr := fun _ => none, dead := false, sched := false, left := 0 }
section
variable {w : World} {sb : Nat} {S : Nat → Prop} {D : DS}
set_option maxRecDepth 100000 in
theorem crash_any (h : DiskV w sb S D) (keep at_ : Int) (hk0 : 0 ≤ keep ∧ keep ≤ 18446744073709551615) : Calls Tryz.prog 20 #[.pointer (some ⟨sb, 0, none⟩), .int .u64 keep, .int .i64 (-1), .int .i64 at_] w fun e w' => e = .returned (.tuple #[]) ∧
    ∃ S' K, DiskV w' sb S' (D.fall K) ∧ Mv w S w' S' := by
  obtain ⟨db, mb, cap, vs, g, R, h, rfl⟩ := h
  have hlo := lose_any h keep at_ hk0
  replace h := hide h
  go_enter Tryz.func20, Tryz.ntmps20
  go_wp2_with fail
  refine hlo.mono ?_
  rintro e w1 ⟨rfl, mb', vs', g', K, hD1, hM⟩
  clear hlo
  have f3 := frozen_at hD1.head 3
  have f4 := frozen_at hD1.head 4
  have f5 := frozen_at hD1.head 5
  have c3 := hD1.c3
  have c4 := hD1.c4
  have c5 := hD1.c5
  replace hD1 := hide hD1
  replace hM := hide hM
  go_wp2_with fail
  go_end0
  have hU : Upd (fun k => k = sb) w1 (((w1.setCell ⟨sb, 3, none⟩ (.bool false)).setCell ⟨sb, 4, none⟩ (.bool false)).setCell ⟨sb, 5, none⟩ (.int .i64 0)) := ((Upd.set (F := fun k => k = sb) w1 (a := ⟨sb, 3, none⟩) rfl _).then (.set (F := fun k => k = sb) _ (a := ⟨sb, 4, none⟩) rfl _)).then (.set (F := fun k => k = sb) _ (a := ⟨sb, 5, none⟩) rfl _)
  refine ⟨rfl, _, K, ⟨db, mb', cap, vs', g', R, hD1.out.rehead (D' := D.fall K) hU ?_ rfl rfl rfl rfl (by simp [DS.fall]), rfl⟩, hM.out.1.then (hU.mono fun k _ e => Or.inl e), hM.out.2⟩
  rw [heap_set (heap_set (heap_set hD1.out.head 3 _) 4 _) 5 _]
  simp [DS.fall, DS.crash]
theorem dead_anyV (h : DiskV w sb S D) : Calls Tryz.prog 174 #[.pointer (some ⟨sb, 3, none⟩)] w fun e w' => e = .returned (.bool D.dead) ∧ w = w' := by
  obtain ⟨db, mb, cap, vs, g, R, h, rfl⟩ := h
  exact dead_any h
end
end Go.Proofs.YtpnboihbifhigaaGreatDoor
/- What a loss of power leaves of a log: the records of ahead of a put, or those of behind it. -/
namespace Go.Proofs.YtpnboihbifhigaaGreatDoor
open Go Go.RowKit
/-- All that was written is durable. -/
def Sett (D : DS) : Prop := ∀ j, D.wr j = none
theorem Sett.last {D : DS} (h : Sett D) (j : Nat) : D.last j = D.dur j := by unfold DS.last; rw [h j]; rfl
def DS.laid (D : DS) (f : Nat → List UInt8) : DS := { D with dur := f, wr := fun _ => none, dead := false, sched := false, left := 0 }
theorem fall_laid (D : DS) (K : Nat → Bool) : D.fall K = D.laid fun i => if K i then D.last i else D.dur i := rfl
theorem laid_last (D : DS) (f : Nat → List UInt8) (j : Nat) : (D.laid f).last j = f j := rfl
theorem laid_sett (D : DS) (f : Nat → List UInt8) : Sett (D.laid f) := fun _ => rfl
theorem laid_on (D : DS) (f : Nat → List UInt8) : (D.laid f).on := ⟨rfl, rfl⟩
theorem Holds.congr {D D' : DS} {live : Nat} {x : Ext} {rs : List (List UInt8)} (h : Holds D live x rs) (hn : D'.n = D.n) (hs : D'.size = D.size) (hl : ∀ j, D'.last j = D.last j) : Holds D' live x rs := by
  have hcap : capN D' = capN D := by unfold capN areaN; rw [hn, hs]
  refine ⟨⟨by rw [hn]; exact h.fine.n1, by rw [hs]; exact h.fine.s1, fun i hi => by rw [hl, hs]; exact h.fine.len i (by omega)⟩, ⟨h.lies.area, h.lies.bytes, by rw [hcap]; exact h.lies.fit, h.lies.recs, h.lies.each, by rw [extL_congr x hn fun j _ => hl j]; exact h.lies.data⟩, h.one, by rw [hl]; exact h.mark, by rw [hl]; exact h.slot⟩
theorem Holds.keep {D : DS} {live : Nat} {x : Ext} {rs : List (List UInt8)} (h : Holds D live x rs) {f : Nat → List UInt8} (hlen : ∀ i, i < D.n → (f i).length = D.size) (h0 : f 0 = D.last 0) (h1 : f (1 + live) = D.last (1 + live)) (he : extL (D.laid f) x = extL D x) : Holds (D.laid f) live x rs :=
  ⟨⟨h.fine.n1, h.fine.s1, hlen⟩, ⟨h.lies.area, h.lies.bytes, h.lies.fit, h.lies.recs, h.lies.each, by rw [he]; exact h.lies.data⟩, h.one, by rw [laid_last, h0]; exact h.mark, by rw [laid_last, h1]; exact h.slot⟩
-- What one operation leaves, with power or without.
theorem write_cases (D : DS) (i : Nat) (l : List UInt8) : (D.write i l).dur = D.dur ∧ ∀ j, (D.write i l).last j = D.last j ∨ (j = i ∧ (D.write i l).last j = l) := by
  unfold DS.write
  split
  · exact ⟨DS.draw_dur D, fun j => .inl (by unfold DS.last; rw [DS.draw_dur, DS.draw_wr])⟩
  · refine ⟨DS.draw_dur D, fun j => ?_⟩
    unfold DS.last setAt
    simp only [DS.draw_dur, DS.draw_wr]
    by_cases e : j = i
    · exact .inr ⟨e, by simp [e]⟩
    · exact .inl (by simp [e])
theorem writesAt_cases : ∀ (cs : List (List UInt8)) (D : DS) (i : Nat), (writesAt D i cs).dur = D.dur ∧ ∀ j, (writesAt D i cs).last j = D.last j ∨ (i ≤ j ∧ ∃ c, cs[j - i]? = some c ∧ (writesAt D i cs).last j = pad D.size c)
  | [], D, i => ⟨rfl, fun j => .inl rfl⟩
  | c :: cs, D, i => by
    obtain ⟨a1, a2⟩ := write_cases D i (pad D.size c)
    obtain ⟨b1, b2⟩ := writesAt_cases cs (D.write i (pad D.size c)) (i + 1)
    refine ⟨b1.trans a1, fun j => ?_⟩
    show (writesAt (D.write i (pad D.size c)) (i + 1) cs).last j = _ ∨ _
    rcases b2 j with h | ⟨h1, c', h2, h3⟩
    · rcases a2 j with h' | ⟨h4, h5⟩
      · exact .inl (h.trans h')
      · exact .inr ⟨by omega, c, by rw [h4, Nat.sub_self]; rfl, h.trans h5⟩
    · refine .inr ⟨by omega, c', ?_, ?_⟩
      · rw [show j - i = (j - (i + 1)) + 1 by omega, List.getElem?_cons_succ]
        exact h2
      · rw [DS.write_size] at h3
        exact h3
theorem flush_cases (D : DS) : (D.flush.dead = true ∧ D.flush.dur = D.dur ∧ ∀ j, D.flush.last j = D.last j) ∨ (D.flush.dead = false ∧ Sett D.flush ∧ ∀ j, D.flush.last j = D.last j) := by
  unfold DS.flush
  split
  · rename_i h
    exact .inl ⟨h, DS.draw_dur D, fun j => by unfold DS.last; rw [DS.draw_dur, DS.draw_wr]⟩
  · rename_i h
    refine .inr ⟨by simpa using h, fun _ => rfl, fun j => ?_⟩
    unfold DS.last
    simp only [DS.draw_dur, DS.draw_wr]
    rfl
theorem write_dead {D : DS} (h : D.dead = true) (i : Nat) (l : List UInt8) : D.write i l = D := by
  unfold DS.write
  rw [DS.draw_dead h, if_pos h]
theorem flush_dead {D : DS} (h : D.dead = true) : D.flush = D := by
  unfold DS.flush
  rw [DS.draw_dead h, if_pos h]
section
variable {D : DS} {live : Nat} {y : Ext} {ys : List (List UInt8)}
/-- What may stand in a sector ahead of the mark's change. -/
def Old (D : DS) (live : Nat) (y : Ext) (ys : List (List UInt8)) (j : Nat) (c : List UInt8) : Prop :=
  c = D.last j ∨ (secN D y.area y.bytes ≤ j ∧ ∃ c', (chunkL D.size (extB D y (frames ys)))[j - secN D y.area y.bytes]? = some c' ∧ c = pad D.size c') ∨ (j = 1 + (1 - live) ∧ c = pad D.size (slotL (y.plus ys)))
/-- What stands in the sectors behind the put. -/
def zl (D : DS) (live : Nat) (y : Ext) (ys : List (List UInt8)) (j : Nat) : List UInt8 :=
  if j = 0 then pad D.size (markL (1 - live)) else if j = 1 + (1 - live) then pad D.size (slotL (y.plus ys)) else if secN D y.area y.bytes ≤ j then (match (chunkL D.size (extB D y (frames ys)))[j - secN D y.area y.bytes]? with | some c => pad D.size c | none => D.last j) else D.last j
theorem put_zl (h : (D.put live y ys).dead = false) (j : Nat) : (D.put live y ys).last j = zl D live y ys j := by
  obtain ⟨h1, h2⟩ := put_last h
  obtain ⟨-, h3⟩ := writesAt_alive _ D _ h1
  rw [h2]
  unfold zl
  split
  · rfl
  · split
    · rfl
    · exact h3 j
theorem put_sett (h : (D.put live y ys).dead = false) : Sett (D.put live y ys) := by
  unfold DS.put at h ⊢
  rcases flush_cases ((((D.extend y (frames ys)).write (1 + (1 - live)) (pad D.size (slotL (y.plus ys)))).flush).write 0 (pad D.size (markL (1 - live)))) with h1 | h1
  · rw [h1.1] at h
    cases h
  · exact h1.2.1
theorem put_fall (hS : Sett D) (hP : (D.put live y ys).dead = true) (K : Nat → Bool) :
    (∀ j, Old D live y ys j (if K j then (D.put live y ys).last j else (D.put live y ys).dur j)) ∨ ∀ j, (if K j then (D.put live y ys).last j else (D.put live y ys).dur j) = zl D live y ys j := by
  obtain ⟨E, hE⟩ : ∃ E, E = D.extend y (frames ys) := ⟨_, rfl⟩
  obtain ⟨G, hG⟩ : ∃ G, G = E.write (1 + (1 - live)) (pad D.size (slotL (y.plus ys))) := ⟨_, rfl⟩
  obtain ⟨e1, e2⟩ : E.dur = D.dur ∧ ∀ j, E.last j = D.last j ∨ _ := by rw [hE]; exact writesAt_cases _ D _
  obtain ⟨g1, g2⟩ := write_cases E (1 + (1 - live)) (pad D.size (slotL (y.plus ys)))
  rw [← hG] at g1 g2
  have hput : D.put live y ys = ((G.flush).write 0 (pad D.size (markL (1 - live)))).flush := by rw [hG, hE]; rfl
  have hGold : ∀ j, Old D live y ys j (G.last j) := fun j => by
    rcases g2 j with h | ⟨h1, h2⟩
    · rw [h]
      rcases e2 j with h | ⟨h1, c, h2, h3⟩
      · exact .inl h
      · exact .inr (.inl ⟨h1, c, h2, by rw [hE]; exact h3⟩)
    · exact .inr (.inr ⟨h1, h2⟩)
  have hDold : ∀ j, Old D live y ys j (D.dur j) := fun j => .inl (hS.last j).symm
  rcases flush_cases G with ⟨f0, f1, f2⟩ | ⟨f0, f1, f2⟩
  · have hp : D.put live y ys = G.flush := by rw [hput, write_dead f0, flush_dead f0]
    refine .inl fun j => ?_
    rw [hp]
    split
    · rw [f2]; exact hGold j
    · rw [f1, g1, e1]; exact hDold j
  · obtain ⟨M, hM⟩ : ∃ M, M = G.flush.write 0 (pad D.size (markL (1 - live))) := ⟨_, rfl⟩
    obtain ⟨m1, m2⟩ := write_cases G.flush 0 (pad D.size (markL (1 - live)))
    rw [← hM] at m1 m2 hput
    rcases flush_cases M with ⟨p0, p1, p2⟩ | ⟨p0, _, _⟩
    · -- the first flush is done: all but the mark is durable
      have hGd : G.flush.dur = fun j => G.last j := funext fun j => by rw [← f1.last j, f2]
      have hc : ∀ j, (if K j then (D.put live y ys).last j else (D.put live y ys).dur j) = G.last j ∨ (j = 0 ∧ (if K j then (D.put live y ys).last j else (D.put live y ys).dur j) = pad D.size (markL (1 - live))) := fun j => by
        rw [hput]
        split
        · rw [p2]
          rcases m2 j with h | h
          · exact .inl (h.trans (f2 j))
          · exact .inr h
        · rw [p1, m1, hGd]; exact .inl rfl
      rcases hc 0 with h0 | ⟨_, h0⟩
      · refine .inl fun j => ?_
        rcases hc j with h | ⟨rfl, h⟩
        · rw [h]; exact hGold j
        · rw [h0]; exact hGold 0
      · refine .inr fun j => ?_
        by_cases e : j = 0
        · subst e
          rw [h0]
          unfold zl
          rw [if_pos rfl]
        · rcases hc j with h | ⟨e', _⟩
          · rw [h]
            unfold zl
            rw [if_neg e]
            obtain ⟨a1, a2⟩ := flush_alive f0
            rw [hG] at a1
            obtain ⟨b1, b2⟩ := write_alive a1
            rw [hG, b2]
            split
            · rfl
            · rw [hE] at b1 ⊢
              exact (writesAt_alive _ D _ b1).2 j
          · exact absurd e' e
    · rw [hput, p0] at hP
      cases hP
end
end Go.Proofs.YtpnboihbifhigaaGreatDoor
/- A put that the power ends leaves the records of ahead of it, or of behind it. -/
namespace Go.Proofs.YtpnboihbifhigaaGreatDoor
open Go Go.RowKit
section
variable {D : DS} {live : Nat} {x y : Ext} {rs ys : List (List UInt8)} {f : Nat → List UInt8}
theorem secN_ge (D : DS) (a t : Nat) : 3 ≤ secN D a t := Nat.le_trans (Nat.le_add_right 3 _) (Nat.le_add_right _ _)
theorem old_low {j : Nat} (h : Old D live y ys j (f j)) (hj : j < 3) (hne : j ≠ 1 + (1 - live)) : f j = D.last j := by
  rcases h with h | ⟨h, _⟩ | ⟨h, _⟩
  · exact h
  · exfalso
    have := secN_ge D y.area y.bytes
    omega
  · exact absurd h hne
theorem old_len (hf : Fine D) (h : ∀ j, Old D live y ys j (f j)) (i : Nat) (hi : i < D.n) : (f i).length = D.size := by
  have hs := hf.s1
  rcases h i with h | ⟨_, c, h, e⟩ | ⟨_, e⟩
  · rw [h]; exact hf.len i hi
  · rw [e]
    exact pad_len _ _ (chunkL_mem' (by omega) (List.mem_of_getElem? h))
  · rw [e]
    exact pad_len _ _ (by rw [slotL_len]; omega)
theorem old_mid {j : Nat} (h : Old D live y ys j (f j)) (hj : 3 ≤ j) (hlt : j < secN D y.area y.bytes) : f j = D.last j := by
  rcases h with h | ⟨h, _⟩ | ⟨h, _⟩
  · exact h
  · omega
  · omega
theorem ext_commit (hH : Holds D live x rs) (h : ∀ j, Old D live x ys j (f j)) : extL (D.laid f) x = extL D x := by
  have hf := hH.fine
  have hfl : Fine (D.laid f) := ⟨hf.n1, hf.s1, fun i hi => old_len (D := D) hf h i hi⟩
  have h0 : 0 < D.size := by have := hf.s1; omega
  rw [ext_part hfl hH.lies.area hH.lies.fit, ext_part hf hH.lies.area hH.lies.fit]
  have e1 : bytesOf (D.laid f) x.area (x.bytes / D.size) = bytesOf D x.area (x.bytes / D.size) := by
    unfold bytesOf
    refine flat_congr fun j hj => ?_
    show f (3 + x.area * areaN D + j) = _
    exact old_mid (h _) (by omega) (by rw [secN_eq]; omega)
  show bytesOf (D.laid f) x.area (x.bytes / D.size) ++ (f (secN D x.area x.bytes)).take (x.bytes % D.size) = _
  rw [e1]
  congr 1
  obtain ⟨m, hm⟩ : ∃ m, m = x.bytes % D.size := ⟨_, rfl⟩
  rw [← hm]
  rcases Nat.eq_zero_or_pos m with hm0 | hm0
  · rw [hm0]; simp
  · have hml : m < D.size := by rw [hm]; exact Nat.mod_lt _ h0
    have hin := (ext_end hf hH.lies.area hH.lies.fit (by rw [← hm]; exact hm0)).2
    have hll := hf.len _ hin
    rcases h (secN D x.area x.bytes) with h1 | ⟨_, c, h1, e⟩ | ⟨h1, _⟩
    · rw [h1]
    · rw [Nat.sub_self] at h1
      have hB : extB D x (frames ys) = (D.last (secN D x.area x.bytes)).take m ++ frames ys := by unfold extB; rw [hm]
      have hBl : ((D.last (secN D x.area x.bytes)).take m).length = m := by rw [List.length_take]; omega
      rw [hB, chunkL_cons h0 (by rw [List.length_append]; omega), List.getElem?_cons_zero] at h1
      obtain rfl := Option.some.inj h1
      rw [e]
      unfold pad
      rw [List.take_append_of_le_length (by rw [List.length_take, List.length_append]; omega), List.take_take, Nat.min_eq_left (by omega), List.take_append_of_le_length (by omega), List.take_take, Nat.min_self]
    · have := secN_ge D x.area x.bytes
      omega
theorem ext_reset (hH : Holds D live x rs) (hfit : (frames ys).length ≤ capN D) (h : ∀ j, Old D live ⟨1 - x.area, 0, 0⟩ ys j (f j)) : extL (D.laid f) x = extL D x := by
  have hf := hH.fine
  have ha := hH.lies.area
  have h0 : 0 < D.size := by have := hf.s1; omega
  unfold extL
  congr 1
  show (List.range (areaN D)).flatMap _ = (List.range (areaN D)).flatMap _
  refine flat_congr fun t ht => ?_
  show f (3 + x.area * areaN D + t) = _
  rcases h (3 + x.area * areaN D + t) with h1 | ⟨h2, c, h1, _⟩ | ⟨h1, _⟩
  · exact h1
  · exfalso
    have hB : extB D ⟨1 - x.area, 0, 0⟩ (frames ys) = frames ys := by unfold extB; simp
    have hs : secN D (1 - x.area) 0 = 3 + (1 - x.area) * areaN D := by rw [secN_eq]; simp
    simp only at h1 h2
    rw [hs] at h2
    rw [hB, hs] at h1
    have hle := chunkL_le D.size (areaN D) (frames ys) h0 hfit
    have hlt := (List.getElem?_eq_some_iff.1 h1).1
    rcases Nat.le_one_iff_eq_zero_or_eq_one.1 ha with e | e
    · rw [e] at h2
      simp at h2
      omega
    · rw [e] at hlt
      simp at hlt
      omega
  · omega
theorem old_holds (hH : Holds D live x rs) (h : ∀ j, Old D live y ys j (f j)) (he : extL (D.laid f) x = extL D x) : Holds (D.laid f) live x rs := by
  have hl := hH.one
  exact hH.keep (old_len hH.fine h) (old_low (h 0) (by omega) (by omega)) (old_low (h (1 + live)) (by omega) (by omega)) he
/-- The put whole, whatever the power. -/
theorem zl_holds {rs0 : List (List UInt8)} (hf : Fine D) (hy : Lies D y rs0) (heach : ∀ r ∈ ys, r.length ≤ 1048576) (hfit : y.bytes + (frames ys).length ≤ capN D) (h : ∀ j, f j = zl D live y ys j) : Holds (D.laid f) (1 - live) (y.plus ys) (rs0 ++ ys) := by
  obtain ⟨Z, hZ⟩ : ∃ Z : DS, Z = { D with dead := false, sched := false } := ⟨_, rfl⟩
  have hon : Z.on := by rw [hZ]; exact ⟨rfl, rfl⟩
  have hfZ : Fine Z := by rw [hZ]; exact ⟨hf.n1, hf.s1, hf.len⟩
  have hyZ : Lies Z y rs0 := by rw [hZ]; exact ⟨hy.area, hy.bytes, hy.fit, hy.recs, hy.each, hy.data⟩
  have hal := hon.put live y ys
  have hp := put_holds hfZ hyZ heach (by rw [hZ]; exact hfit) hal.1 (live := live)
  refine hp.congr (by rw [put_n, hZ]; rfl) (by rw [put_size, hZ]; rfl) fun j => ?_
  rw [put_zl hal.1, laid_last, h, hZ]
  rfl
/-- Commit, cut. -/
theorem commit_fall (hS : Sett D) (hH : Holds D live x rs) (heach : ∀ r ∈ ys, r.length ≤ 1048576) (hfit : x.bytes + (frames ys).length ≤ capN D) (hP : (D.put live x ys).dead = true) (K : Nat → Bool) :
    Holds ((D.put live x ys).fall K) live x rs ∨ Holds ((D.put live x ys).fall K) (1 - live) (x.plus ys) (rs ++ ys) := by
  have e : (D.put live x ys).fall K = D.laid fun j => if K j then (D.put live x ys).last j else (D.put live x ys).dur j := by
    unfold DS.fall DS.laid
    rw [put_n, put_size]
  rw [e]
  rcases put_fall hS hP K with h | h
  · exact .inl (old_holds hH h (ext_commit hH h))
  · exact .inr (zl_holds hH.fine hH.lies heach hfit h)
/-- Reset, cut. -/
theorem reset_fall (hS : Sett D) (hH : Holds D live x rs) (heach : ∀ r ∈ ys, r.length ≤ 1048576) (hfit : (frames ys).length ≤ capN D) (hP : (D.put live ⟨1 - x.area, 0, 0⟩ ys).dead = true) (K : Nat → Bool) :
    Holds ((D.put live ⟨1 - x.area, 0, 0⟩ ys).fall K) live x rs ∨ Holds ((D.put live ⟨1 - x.area, 0, 0⟩ ys).fall K) (1 - live) (Ext.plus ⟨1 - x.area, 0, 0⟩ ys) ys := by
  have e : (D.put live ⟨1 - x.area, 0, 0⟩ ys).fall K = D.laid fun j => if K j then (D.put live ⟨1 - x.area, 0, 0⟩ ys).last j else (D.put live ⟨1 - x.area, 0, 0⟩ ys).dur j := by
    unfold DS.fall DS.laid
    rw [put_n, put_size]
  rw [e]
  rcases put_fall hS hP K with h | h
  · exact .inl (old_holds hH h (ext_reset hH hfit h))
  · have := zl_holds (rs0 := []) hH.fine (lies_nil (Nat.sub_le 1 x.area)) heach (by simpa using hfit) h
    exact .inr (by simpa using this)
/-- A settled disk that power leaves, or not. -/
theorem sett_fall (hS : Sett D) (hH : Holds D live x rs) (K : Nat → Bool) : Holds (D.fall K) live x rs := by
  refine hH.congr rfl rfl fun j => ?_
  rw [fall_laid, laid_last]
  split
  · rfl
  · exact (hS.last j).symm
theorem sett_flush (hS : Sett D) (hH : Holds D live x rs) : Sett D.flush ∧ Holds D.flush live x rs := by
  rcases flush_cases D with ⟨h0, h1, h2⟩ | ⟨h0, h1, h2⟩
  · have hw : Sett D.flush := by
      unfold DS.flush at h0 ⊢
      split
      · exact fun j => by rw [DS.draw_wr]; exact hS j
      · exact fun _ => rfl
    exact ⟨hw, hH.congr (DS.flush_n D) (DS.flush_size D) h2⟩
  · exact ⟨h1, hH.congr (DS.flush_n D) (DS.flush_size D) h2⟩
end
end Go.Proofs.YtpnboihbifhigaaGreatDoor
/- What the laws' walks share. -/
namespace Go.Proofs.YtpnboihbifhigaaGreatDoor
open Go Go.RowKit
theorem below_mv {B : Nat} {w w1 w2 : World} {S S' : Nat → Prop} (h : Below B w w1) (hm : Mv w1 S w2 S') (hB : B ≤ w1.heap.size) (hS : ∀ k, S k → B ≤ k) : Below B w w2 := h.trans (hm.1.below hB hS)
theorem BytesV.arg {w : World} {B : Nat} {v : Value} {l : List UInt8} (h : BytesV w B v l) : ArgV w (· < B) v (bv l) := by
  obtain ⟨A, c, rfl, h1, h2, h3⟩ := h
  have := ArgV.of_sl h3 (by rw [bv_len]; exact h1) h2
  rwa [bv_len] at this
end Go.Proofs.YtpnboihbifhigaaGreatDoor
/- Records behind records: the built-in append of a list of records; puts that have no room. -/
namespace Go.Proofs.YtpnboihbifhigaaGreatDoor
open Go Go.RowKit
theorem run_rows_nothing {w : World} {v : Value} {n B : Nat} {xs : List Value} (hown : w.ownsRow B 62 1 v n xs) (ty : TypeId) (A : Option Addr) (c : Nat) :
    (Builtin.append_ #[49, 49] ty #[v, .slice A 0 c]).run Tryz.prog w = .ok v w := by
  obtain ⟨i0, hi, hz0, hz1, hz2⟩ := info_parts rows_info
  rcases hown.2 with ⟨rfl, rfl⟩ | ⟨g, cap, cur, rfl, hbg, hg, hnc, hcm, hcs, htake⟩
  · cases A <;> simp [Builtin.append_, run_underlying Tryz.underlying49, sizeOf, typeInfo, hi, Builtin.lenOf, Builtin.firstCells, loadCells, loadCellsFrom]
  · cases A <;> simp [Builtin.append_, run_underlying Tryz.underlying49, sizeOf, typeInfo, hi, Builtin.lenOf, Builtin.firstCells, loadCells, loadCellsFrom, storeCells, hnc]
theorem run_rows_append {w : World} {base : Nat} {v : Value} {n : Nat} {xs : List Value} (hown : w.ownsRow base 62 1 v n xs) {S : Nat → Prop} {v2 : Value} {ys : List Value} (hv2 : ArgV w S v2 ys) (hone : ∀ u ∈ ys, ∃ a n c, u = .slice a n c)
    (hlen : n + ys.length ≤ 4294967296) (hbase : base ≤ w.heap.size) (ty : TypeId) :
    ∃ v' w', (Builtin.append_ #[49, 49] ty #[v, v2]).run Tryz.prog w = .ok v' w' ∧ w'.ownsRow base 62 1 v' (n + ys.length) (xs ++ ys) ∧ Upd (Own v) w w' ∧ ∀ k, Own v' k → Own v k ∨ w.heap.size ≤ k := by
  obtain ⟨A, c, rfl, h1, h2, h3⟩ := hv2
  cases ys with
  | nil => exact ⟨v, w, run_rows_nothing hown ty A c, by simpa using hown, .refl _ _, fun k hk => .inl hk⟩
  | cons y ys =>
    rcases h3 with h3 | ⟨b, o, rfl, hb, hc⟩
    · cases h3
    · obtain ⟨i0, hi, hz0, hz1, hz2⟩ := info_parts rows_info
      obtain ⟨v', w', hr, h4, h5, h6⟩ := run_append_moved (P := Tryz.prog) w base 49 ty 62 i0 (.slice none 0 0) 1 24 Tryz.underlying49 hi hz0 hz1 hz2 rfl Nat.one_pos v n xs hown ⟨b, o, none⟩ (y :: ys).length c (y :: ys) (by omega) (fun j u hu => by rw [Go.WideShapes.add_plain]; exact hc j u hu) (fun u hu => oneSlice _ (hone u hu)) (by unfold maxLen; omega) (by omega) hbase
      exact ⟨v', w', hr, h4, .grown h5 fun k hk => hk, h6⟩
theorem RecsV.parts {w : World} {T : Nat → Prop} {v : Value} {rs : List (List UInt8)} (h : RecsV w T v rs) : ∃ vs, vs.length = rs.length ∧ ArgV w T v vs ∧ (∀ u ∈ vs, ∃ a n c, u = .slice a n c) ∧ ∀ (i : Nat) (u : Value) (r : List UInt8), vs[i]? = some u → rs[i]? = some r → ArgV w T u (bv r) ∧ NonNil u := by
  obtain ⟨vs, h1, h2, h3⟩ := h
  refine ⟨vs, h1, h2, fun u hu => ?_, h3⟩
  obtain ⟨i, hi, rfl⟩ := List.getElem_of_mem hu
  obtain ⟨A, c, e, _⟩ := (h3 i _ (rs[i]'(by omega)) (List.getElem?_eq_getElem hi) (List.getElem?_eq_getElem (by omega))).1
  exact ⟨_, _, _, e⟩
/-- Records of the walk's own row, some of their bytes elsewhere. -/
theorem recsV_own {w : World} {B : Nat} {T : Nat → Prop} {v : Value} {vs : List Value} {rs : List (List UInt8)} (hl : vs.length = rs.length) (hown : w.ownsRow B 62 1 v vs.length vs) (he : ∀ (i : Nat) (u : Value) (r : List UInt8), vs[i]? = some u → rs[i]? = some r → ArgV w T u (bv r) ∧ NonNil u) :
    RecsV w (fun k => (T k ∨ B ≤ k) ∧ k < w.heap.size) v rs := by
  have h1 : RecsV w (fun k => T k ∨ B ≤ k) v rs := ⟨vs, hl, (own_arg hown).mono fun k _ hk => .inr hk.1, fun i u r hi hr => ⟨(he i u r hi hr).1.mono fun k _ hk => .inl hk, (he i u r hi hr).2⟩⟩
  exact h1.low
theorem each_append {w : World} {T : Nat → Prop} {vs ws : List Value} {rs ss : List (List UInt8)} (hl : vs.length = rs.length) (h1 : ∀ (i : Nat) (u : Value) (r : List UInt8), vs[i]? = some u → rs[i]? = some r → ArgV w T u (bv r) ∧ NonNil u) (h2 : ∀ (i : Nat) (u : Value) (r : List UInt8), ws[i]? = some u → ss[i]? = some r → ArgV w T u (bv r) ∧ NonNil u) :
    ∀ (i : Nat) (u : Value) (r : List UInt8), (vs ++ ws)[i]? = some u → (rs ++ ss)[i]? = some r → ArgV w T u (bv r) ∧ NonNil u := by
  intro i u r hi hr
  rcases Nat.lt_or_ge i vs.length with h | h
  · rw [List.getElem?_append_left h] at hi
    rw [List.getElem?_append_left (by omega)] at hr
    exact h1 i u r hi hr
  · rw [List.getElem?_append_right h] at hi
    rw [List.getElem?_append_right (by omega)] at hr
    exact h2 (i - vs.length) u r hi (by rw [hl]; exact hr)
/-- A copy of records, and more of them behind: what the two appends make. -/
theorem cat_recs {w : World} {T T' : Nat → Prop} {v v' : Value} {rs rs' : List (List UInt8)} (h : RecsV w T v rs) (h' : RecsV w T' v' rs') (hl : rs.length + rs'.length ≤ 1000000) (ty ty' : TypeId) :
    ∃ v1 w1 v2 w2, (Builtin.append_ #[49, 49] ty #[.slice none 0 0, v]).run Tryz.prog w = .ok v1 w1 ∧ (Builtin.append_ #[49, 49] ty' #[v1, v']).run Tryz.prog w1 = .ok v2 w2 ∧
      Upd (fun _ => False) w w2 ∧ RecsV w2 (fun k => ((T k ∨ T' k) ∨ w.heap.size ≤ k) ∧ k < w2.heap.size) v2 (rs ++ rs') := by
  obtain ⟨vs, hvl, hva, hvs, hve⟩ := h.low.parts
  obtain ⟨ws, hwl, hwa, hws, hwe⟩ := h'.low.parts
  obtain ⟨v1, w1, r1, o1, u1, m1⟩ := run_rows_append (World.ownsRow_nil w w.heap.size 62 1) hva hvs (by omega) (Nat.le_refl _) ty
  rw [List.nil_append, Nat.zero_add] at o1
  have u1' : Upd (fun _ => False) w w1 := u1.mono fun k _ hk => by cases hk
  have hown1 : ∀ k, Own v1 k → w.heap.size ≤ k := fun k hk => (m1 k hk).elim (fun h => by cases h) id
  have hwa1 := hwa.upd u1' fun _ _ => id
  obtain ⟨v2, w2, r2, o2, u2, m2⟩ := run_rows_append o1 hwa1 hws (by omega) u1'.size ty'
  have u2' : Upd (fun _ => False) w w2 := u1'.trans u2 fun k hk ho => by have := hown1 k ho; omega
  refine ⟨v1, w1, v2, w2, r1, r2, u2', ?_⟩
  refine recsV_own (vs := vs ++ ws) (by simp [hvl, hwl]) (by simpa using o2) (each_append hvl (fun i u r hi hr => ?_) fun i u r hi hr => ?_)
  · have := hve i u r hi hr
    exact ⟨(this.1.upd u2' fun _ _ => id).mono fun k _ hk => .inl hk.1, this.2⟩
  · have := hwe i u r hi hr
    exact ⟨(this.1.upd u2' fun _ _ => id).mono fun k _ hk => .inr hk.1, this.2⟩
section
variable {n B sb lb : Nat} {S : Nat → Prop} {rs : List (List UInt8)} {w w' W : World}
/-- A Commit without room. -/
theorem full_lg {T : Nat → Prop} {rv : Value} {rs' : List (List UInt8)} (h : LgC n W B sb lb S rs) (hr : RecsV W T rv rs') (hrl : rs'.length ≤ 2147483648) (heach : ∀ r ∈ rs', r.length ≤ 1048576) (hfl : (frames rs').length ≤ 2251799813685248) (hfull : capC n < (frames rs).length + (frames rs').length) :
    Calls Tryz.prog 59 #[.pointer (some ⟨lb, 0, none⟩), rv] W fun e w' => e = .returned (.int .i64 40) ∧ Below W.heap.size W w' := by
  obtain ⟨D, live, x, h, hn, hs⟩ := h
  have hcap := h.holds.fine.cap
  have hcl := count_le rs
  have hb := h.holds.lies.bytes
  have hf := h.holds.lies.fit
  have hrc := h.holds.lies.recs
  refine commit_of h.log (put_full h.log h.disk h.holds.fine.n1.1 x h.holds.lies.area (by omega) hr hrl hfl (any_tooL heach (Nat.le_refl _)) (by rw [cap_of hn hs, hb]; exact hfull)) ?_
  rintro e w' ⟨rfl, _⟩
  exact ⟨_, rfl⟩
/-- A Reset without room. -/
theorem full_reset {T : Nat → Prop} {rv : Value} {rs' : List (List UInt8)} (h : LgC n W B sb lb S rs) (hr : RecsV W T rv rs') (hrl : rs'.length ≤ 2147483648) (heach : ∀ r ∈ rs', r.length ≤ 1048576) (hfl : (frames rs').length ≤ 2251799813685248) (hfull : capC n < (frames rs').length) :
    Calls Tryz.prog 52 #[.pointer (some ⟨lb, 0, none⟩), rv] W fun e w' => e = .returned (.int .i64 40) ∧ Below W.heap.size W w' := by
  obtain ⟨D, live, x, h, hn, hs⟩ := h
  refine reset_of h.log h.holds.lies.area (put_full h.log h.disk h.holds.fine.n1.1 ⟨1 - x.area, 0, 0⟩ (Nat.sub_le _ _) (by simp) hr hrl hfl (any_tooL heach (Nat.le_refl _)) (by rw [cap_of hn hs]; simpa using hfull)) ?_
  rintro e w' ⟨rfl, _⟩
  exact ⟨_, rfl⟩
end
end Go.Proofs.YtpnboihbifhigaaGreatDoor
