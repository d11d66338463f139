/- Part 21 of the walks (merged): OrdS, OrdL, Err7. -/
import Derived.Test.YteplkhgaoaphhaaGreatDoorM20
import Derived.Test.YteplkhgaoaphhaaGreatDoorM2
import Derived.Test.YteplkhgaoaphhaaGreatDoorCards
import Derived.Stop.LaidErr
import Derived.MakeChecks
/- The law's spelt: the same, from the signs. -/
namespace Go.Proofs.YteplkhgaoaphhaaGreatDoor
open Go Go.RowKit Go.Lib

/-- A []byte's element, where it lies. -/
theorem BytesV.at7 {w : World} {B n c : Nat} {A : Option Addr} {l : List UInt8} (h : BytesV w B (.slice A n c) l) {i : Nat} (hi : i < l.length) : ∃ b o, A = some ⟨b, o, none⟩ ∧ w.cell? ⟨b, o + i, none⟩ = some (.int .u8 l[i].toNat) := by
  obtain ⟨A', c', h1, -, -, h4⟩ := h
  injection h1 with e1 _ _
  subst e1
  obtain ⟨b, o, h5, -, h6⟩ := h4.get (bv_get hi)
  exact ⟨b, o, h5, h6⟩
/-- The signs that bytes choose. -/
def sgOf (l : List UInt8) (k : Nat) : Nat := (l.getD k 0).toNat % 5
theorem sgOf_lt (l : List UInt8) (k : Nat) : sgOf l k < 5 := Nat.mod_lt _ (by decide)
theorem sgOf_at {l : List UInt8} {k : Nat} (h : k < l.length) : sgOf l k = l[k].toNat % 5 := by
  unfold sgOf
  rw [List.getD_eq_getElem?_getD, List.getElem?_eq_getElem h]
  rfl
def digL : List UInt8 := [50, 51, 52, 53, 54, 55, 56, 57, 97, 98, 99, 100, 101, 102]
theorem digL_at {k : Nat} (h : k < 12) : digL[k]? = some (dgB k) := by
  rcases lt12 h with rfl | rfl | rfl | rfl | rfl | rfl | rfl | rfl | rfl | rfl | rfl | rfl <;> rfl
theorem dig_cut {k : Nat} (h : k < 12) (w : World) : (Instr.slice 9 (.string ⟨#[50, 51, 52, 53, 54, 55, 56, 57, 97, 98, 99, 100, 101, 102]⟩) (some (.int .i64 k)) (some (.int .i64 ((k : Int) + 1))) none).run Tryz.prog w = .ok (.string (strB [dgB k])) w := cut_one (digL_at h) w
def sgnT : Option (Nat × Ex) → List UInt8
  | none => []
  | some (k, _) => [sgB (k - 2)]
def outT : Option (Nat × Ex) → List UInt8
  | none => []
  | some (_, a) => wholeT a
set_option maxRecDepth 100000 in
set_option maxHeartbeats 6400000 in
theorem spelt_any (l : List UInt8) (A : Option Addr) (c0 B : Nat) (W : World) (hv : BytesV W B (.slice A l.length c0) l) (hB : B ≤ W.heap.size) (h12 : l.length ≤ 12) :
    Calls Tryz.prog 20 #[.slice A l.length c0] W fun e w' => e = .returned (.string (strB (wholeT (ordE (sgOf l) l.length)))) ∧ Below W.heap.size W w' := by
  have hW := hide (fun k (hk : k ≤ l.length) => stO_wf (sgOf l) (sgOf_lt l) k (by omega))
  have h13 : ∀ k, k ≤ l.length → k ≤ 12 := fun k hk => by omega
  replace hv := hide hv
  replace hB := hide hB
  replace h12 := hide h12
  replace h13 := hide h13
  go_enter Tryz.func20, Tryz.ntmps20
  go_wp2_with fail
  go_loopw [3, 4, 5, 6] (fun O T G i wr => ∃ (k : Nat) (Ob Tb Gb : List UInt8), k ≤ l.length + 1 ∧ i = .int .i64 k ∧ O = .string (strB Ob) ∧ T = .string (strB Tb) ∧ G = .string (strB Gb) ∧ Below W.heap.size W wr ∧ (k ≤ l.length → Ob = outT (stO (sgOf l) k).1 ∧ Tb = wholeT (stO (sgOf l) k).2 ∧ Gb = sgnT (stO (sgOf l) k).1) ∧ (l.length < k → Ob = wholeT (ordE (sgOf l) l.length))) (fun _ _ _ i _ => l.length + 1 - (RowKit.intOf i).toNat)
  case atStart => exact ⟨0, [], [49], [], Nat.zero_le _, rfl, rfl, rfl, rfl, Below.refl _ _, fun _ => ⟨rfl, rfl, rfl⟩, fun h => absurd h (Nat.not_lt_zero _)⟩
  case round =>
    obtain ⟨k, O, M, G, hk, rfl, rfl, rfl, rfl, hbr, h1, h2⟩ := hrel
    by_cases hle : k ≤ l.length
    · have hle' : (k : Int) ≤ (l.length : Int) := by omega
      obtain ⟨eO, eT, eG⟩ := h1 hle
      obtain ⟨w1, w2, w3⟩ := hW.out k hle
      have hk12 := h13.out k hle
      clear h1 h2
      obtain ⟨o, t, hst⟩ : ∃ o t, stO (sgOf l) k = (o, t) := ⟨_, _, rfl⟩
      rw [hst] at eO eT eG w1 w2 w3
      have hTl : M.length ≤ 49 := by rw [eT]; show (wholeT t).length ≤ 49; simp only at w3; omega
      have hOl : O.length ≤ 49 := by
        rw [eO]
        cases o with
        | none => exact Nat.zero_le _
        | some p => show (wholeT p.2).length ≤ 49; simp only [plen] at w3; omega
      have hws := hide (show IntKind.i64.wrap ((k : Int) + 1) = (k : Int) + 1 by simp [IntKind.wrap, IntKind.bits, IntKind.signed]; omega)
      by_cases hlt : k < l.length
      · have hlt' : (k : Int) < (l.length : Int) := by omega
        obtain ⟨bb, ob, rfl, hcb⟩ := (hv.out.below (hbr.mono hB.out)).at7 hlt
        have hsg := sgOf_at hlt
        have hstep : stO (sgOf l) (k + 1) = stepO (sgOf l) k (o, t) := by rw [stO, hst]
        unfold stepO at hstep
        generalize l[k] = c at *
        obtain ⟨s, hs⟩ : ∃ s, s = sgOf l k := ⟨_, rfl⟩
        have hs5 : s < 5 := by rw [hs]; exact sgOf_lt l k
        have hm : ((c.toNat : Int) % 5) = (s : Int) := by rw [hs, hsg]; omega
        have hc8 : (c.toNat : Int) ≤ 255 := by have := c.toNat_lt; omega
        have hk11 : k < 12 := by have := h12.out; omega
        have hk14 : ((k : Int) % 14) = (k : Int) := by omega
        have hcut := hide (dig_cut hk11)
        have hlf := leaf_whole k hk11
        rw [← hs] at hstep
        replace hsg := hide hsg
        replace hst := hide hst
        replace hs := hide hs
        by_cases h2 : 2 ≤ s
        · have h2' : (2 : Int) ≤ (s : Int) := by omega
          rw [if_pos h2] at hstep
          have hT4 : wholeT (.bin (s + 2) t (leaf k)) = [40] ++ M ++ [sgB s] ++ [dgB k] ++ [41] := by rw [wholeT, hlf.1, eT]; rfl
          obtain ⟨T1, e1⟩ : ∃ T1, T1 = [40] ++ M := ⟨_, rfl⟩
          rw [← e1] at hT4
          obtain ⟨T2, e2⟩ : ∃ T2, T2 = T1 ++ [sgB s] := ⟨_, rfl⟩
          rw [← e2] at hT4
          obtain ⟨T3, e3⟩ : ∃ T3, T3 = T2 ++ [dgB k] := ⟨_, rfl⟩
          rw [← e3] at hT4
          obtain ⟨T4, e4⟩ : ∃ T4, T4 = T3 ++ [41] := ⟨_, rfl⟩
          rw [← e4] at hT4
          have l1 : T1.length = 1 + M.length := by rw [e1, List.length_append]; rfl
          have l2 : T2.length = T1.length + 1 := by rw [e2, List.length_append]; rfl
          have l3 : T3.length = T2.length + 1 := by rw [e3, List.length_append]; rfl
          have ha1 := hide (fun w => by rw [e1]; exact str_add [40] M (by show 1 + _ ≤ _; omega) w : ∀ w, (Op.stringOp .add ⟨#[40]⟩ (strB M)).run Tryz.prog w = .ok (.string (strB T1)) w)
          have ha2 := hide (fun w => by rw [e2]; exact str_add T1 [sgB s] (by show _ + 1 ≤ _; omega) w : ∀ w, (Op.stringOp .add (strB T1) (strB [sgB s])).run Tryz.prog w = .ok (.string (strB T2)) w)
          have ha3 := hide (fun w => by rw [e3]; exact str_add T2 [dgB k] (by show _ + 1 ≤ _; omega) w : ∀ w, (Op.stringOp .add (strB T2) (strB [dgB k])).run Tryz.prog w = .ok (.string (strB T3)) w)
          have ha4 := hide (fun w => by rw [e4]; exact str_add T3 [41] (by show _ + 1 ≤ _; omega) w : ∀ w, (Op.stringOp .add (strB T3) ⟨#[41]⟩).run Tryz.prog w = .ok (.string (strB T4)) w)
          replace hT4 := hide hT4
          replace hstep := hide hstep
          replace eO := hide eO
          replace eG := hide eG
          replace hbr := hide hbr
          replace hlf := hide hlf
          clear e1 e2 e3 e4 l1 l2 l3 eT w1 w2 w3 hk hle hlt
          go_wp2_with fail
          replace hcb := hide hcb
          have hmt := hide (show (c.toNat : Int).tmod 5 = (s : Int) by rw [Int.tmod_eq_emod_of_nonneg (by omega)]; exact hm)
          have hkt := hide (show (k : Int).tmod 14 = (k : Int) by rw [Int.tmod_eq_emod_of_nonneg (by omega)]; exact hk14)
          replace hm := hide hm
          replace hk14 := hide hk14
          refine wp_region_flow (fun _ => False) (factAt [(fun v _ => v = (.string (strB M))), (fun v _ => v = (.string (strB T1))), (fun v w => FiveS v w), (fun v _ => v = (.slice (some ⟨bb, ob, none⟩) l.length c0)), (fun v _ => v = (.int .i64 k)), (fun v _ => v = (.pointer (some ⟨bb, ob + k, none⟩))), (fun v _ => v = (.int .u8 c.toNat)), (fun v _ => v = (.int .u8 s)), (fun v w => PtS s v w), (fun v _ => v = (.string (strB [sgB s]))), (fun v _ => v = (.string (strB T2))), (fun v _ => v = (.int .i64 k)), (fun v _ => v = (.int .i64 k)), (fun v _ => v = (.int .i64 k)), (fun v _ => v = (.int .i64 k)), (fun v _ => v = (.int .i64 ((k : Int) + 1))), (fun v _ => v = (.string (strB [dgB k]))), (fun v _ => v = (.string (strB T3))), (fun v _ => v = (.string (strB T4))), (fun v _ => v = (.string (strB T4)))]) [] (fun _ => True) (by kernel_rfl) (fkept_at ⟨FKept.eq _, FKept.eq _, FiveS.kept, FKept.eq _, FKept.eq _, FKept.eq _, FKept.eq _, FKept.eq _, PtS.kept, FKept.eq _, FKept.eq _, FKept.eq _, FKept.eq _, FKept.eq _, FKept.eq _, FKept.eq _, FKept.eq _, FKept.eq _, FKept.eq _, FKept.eq _, trivial⟩) (fun _ _ h _ => h) trivial (by kernel_rfl) (by kernel_rfl) (by kernel_rfl) (by kernel_rfl) (Nat.le_of_ble_eq_true (by kernel_rfl)) ?_ ⟨?_, ?_, ?_, ?_, ?_, ?_, ?_, ?_, ?_, ?_, ?_, ?_, ?_, ?_, ?_, ?_, ?_, ?_, ?_, ?_, trivial⟩ ?_
          · first | exact trivial | assumption
          · intro T w Q hu hs hv hw hd
            have hx4 : T.getD 4 undef = (.string (strB M)) := hw 4 (by kernel_rfl)
            refine .inl ⟨wanted_none rfl, ?_⟩
            clear hd hv hu hs hw
            go_simp
            exact ⟨_, rfl, DstOk.some rfl, Below.refl _ _, rfl⟩
          · intro T w Q hu hs hv hw hd
            have hx25 : T.getD 25 undef = (.string (strB M)) := Deps.at 0 hd (by kernel_rfl)
            refine .inl ⟨wanted_none rfl, ?_⟩
            have hC := ha1.out w
            clear hd hv hu hs hw
            go_simp
            exact ⟨_, rfl, DstOk.some rfl, Below.refl _ _, rfl⟩
          · intro T w Q hu hs hv hw hd
            refine .inl ⟨wanted_none rfl, ?_⟩
            clear hd hv hu hs hw
            go_simp
            exact ⟨_, rfl, DstOk.some rfl, (Below.refl _ w).alloc (Nat.le_refl _) _, FiveS.new w⟩
          · intro T w Q hu hs hv hw hd
            have hx0 : T.getD 0 undef = (.slice (some ⟨bb, ob, none⟩) l.length c0) := hv 0 (by kernel_rfl)
            refine .inl ⟨wanted_none rfl, ?_⟩
            clear hd hv hu hs hw
            go_simp
            exact ⟨_, rfl, DstOk.some rfl, Below.refl _ _, rfl⟩
          · intro T w Q hu hs hv hw hd
            have hx6 : T.getD 6 undef = (.int .i64 k) := hv 6 (by kernel_rfl)
            refine .inl ⟨wanted_none rfl, ?_⟩
            clear hd hv hu hs hw
            go_simp
            exact ⟨_, rfl, DstOk.some rfl, Below.refl _ _, rfl⟩
          · intro T w Q hu hs hv hw hd
            have hx28 : T.getD 28 undef = (.slice (some ⟨bb, ob, none⟩) l.length c0) := Deps.at 3 hd (by kernel_rfl)
            have hx29 : T.getD 29 undef = (.int .i64 k) := Deps.at 4 hd (by kernel_rfl)
            refine .inl ⟨wanted_none rfl, ?_⟩
            clear hd hv hu hs hw
            go_simp
            exact ⟨_, rfl, DstOk.some rfl, Below.refl _ _, rfl⟩
          · intro T w Q hu hs hv hw hd
            have hx30 : T.getD 30 undef = (.pointer (some ⟨bb, ob + k, none⟩)) := Deps.at 5 hd (by kernel_rfl)
            refine .inl ⟨wanted_none rfl, ?_⟩
            have hq := hu.cell hcb.out id
            clear hd hv hu hs hw
            go_simp
            exact ⟨_, rfl, DstOk.some rfl, Below.refl _ _, rfl⟩
          · intro T w Q hu hs hv hw hd
            have hx31 : T.getD 31 undef = (.int .u8 c.toNat) := Deps.at 6 hd (by kernel_rfl)
            refine .inl ⟨wanted_none rfl, ?_⟩
            clear hd hv hu hs hw
            go_simp
            exact ⟨_, rfl, DstOk.some rfl, Below.refl _ _, congrArg (Value.int .u8) hmt.out⟩
          · intro T w Q hu hs hv hw hd
            have f27 : (fun (v : Value) (w : World) => FiveS v w) (T.getD 27 undef) w := Deps.at 2 hd (by kernel_rfl)
            generalize hx27 : T.getD 27 undef = x27 at f27
            replace f27 := hide f27
            have hx32 : T.getD 32 undef = (.int .u8 s) := Deps.at 7 hd (by kernel_rfl)
            refine .inl ⟨wanted_none rfl, ?_⟩
            obtain ⟨g5, rfl, hg5⟩ := f27.out
            have hp := hg5 s hs5
            rw [signsC_at hs5] at hp
            replace hp := hide hp
            replace hg5 := hide hg5
            have hsI : (s : Int) < 5 := by omega
            clear hd hv hu hs hw f27
            go_simp
            exact ⟨_, rfl, DstOk.some rfl, Below.refl _ _, PtS.of hp.out⟩
          · intro T w Q hu hs hv hw hd
            have f33 : (fun (v : Value) (w : World) => PtS s v w) (T.getD 33 undef) w := Deps.at 8 hd (by kernel_rfl)
            generalize hx33 : T.getD 33 undef = x33 at f33
            replace f33 := hide f33
            refine .inl ⟨wanted_none rfl, ?_⟩
            obtain ⟨g5, rfl, hp⟩ := f33.out
            clear hd hv hu hs hw f33
            go_simp
            exact ⟨_, rfl, DstOk.some rfl, Below.refl _ _, rfl⟩
          · intro T w Q hu hs hv hw hd
            have hx26 : T.getD 26 undef = (.string (strB T1)) := Deps.at 1 hd (by kernel_rfl)
            have hx34 : T.getD 34 undef = (.string (strB [sgB s])) := Deps.at 9 hd (by kernel_rfl)
            refine .inl ⟨wanted_none rfl, ?_⟩
            have hC := ha2.out w
            clear hd hv hu hs hw
            go_simp
            exact ⟨_, rfl, DstOk.some rfl, Below.refl _ _, rfl⟩
          · intro T w Q hu hs hv hw hd
            have hx6 : T.getD 6 undef = (.int .i64 k) := hv 6 (by kernel_rfl)
            refine .inl ⟨wanted_none rfl, ?_⟩
            clear hd hv hu hs hw
            go_simp
            exact ⟨_, rfl, DstOk.some rfl, Below.refl _ _, rfl⟩
          · intro T w Q hu hs hv hw hd
            have hx36 : T.getD 36 undef = (.int .i64 k) := Deps.at 11 hd (by kernel_rfl)
            refine .inl ⟨wanted_none rfl, ?_⟩
            clear hd hv hu hs hw
            go_simp
            exact ⟨_, rfl, DstOk.some rfl, Below.refl _ _, congrArg (Value.int .i64) hkt.out⟩
          · intro T w Q hu hs hv hw hd
            have hx6 : T.getD 6 undef = (.int .i64 k) := hv 6 (by kernel_rfl)
            refine .inl ⟨wanted_none rfl, ?_⟩
            clear hd hv hu hs hw
            go_simp
            exact ⟨_, rfl, DstOk.some rfl, Below.refl _ _, rfl⟩
          · intro T w Q hu hs hv hw hd
            have hx38 : T.getD 38 undef = (.int .i64 k) := Deps.at 13 hd (by kernel_rfl)
            refine .inl ⟨wanted_none rfl, ?_⟩
            clear hd hv hu hs hw
            go_simp
            exact ⟨_, rfl, DstOk.some rfl, Below.refl _ _, congrArg (Value.int .i64) hkt.out⟩
          · intro T w Q hu hs hv hw hd
            have hx39 : T.getD 39 undef = (.int .i64 k) := Deps.at 14 hd (by kernel_rfl)
            refine .inl ⟨wanted_none rfl, ?_⟩
            clear hd hv hu hs hw
            go_simp
            exact ⟨_, rfl, DstOk.some rfl, Below.refl _ _, congrArg (Value.int .i64) hws.out⟩
          · intro T w Q hu hs hv hw hd
            have hx37 : T.getD 37 undef = (.int .i64 k) := Deps.at 12 hd (by kernel_rfl)
            have hx40 : T.getD 40 undef = (.int .i64 ((k : Int) + 1)) := Deps.at 15 hd (by kernel_rfl)
            refine .inl ⟨wanted_none rfl, ?_⟩
            have hC := hcut.out w
            clear hd hv hu hs hw
            go_simp
            exact ⟨_, rfl, DstOk.some rfl, Below.refl _ _, rfl⟩
          · intro T w Q hu hs hv hw hd
            have hx35 : T.getD 35 undef = (.string (strB T2)) := Deps.at 10 hd (by kernel_rfl)
            have hx41 : T.getD 41 undef = (.string (strB [dgB k])) := Deps.at 16 hd (by kernel_rfl)
            refine .inl ⟨wanted_none rfl, ?_⟩
            have hC := ha3.out w
            clear hd hv hu hs hw
            go_simp
            exact ⟨_, rfl, DstOk.some rfl, Below.refl _ _, rfl⟩
          · intro T w Q hu hs hv hw hd
            have hx42 : T.getD 42 undef = (.string (strB T3)) := Deps.at 17 hd (by kernel_rfl)
            refine .inl ⟨wanted_none rfl, ?_⟩
            have hC := ha4.out w
            clear hd hv hu hs hw
            go_simp
            exact ⟨_, rfl, DstOk.some rfl, Below.refl _ _, rfl⟩
          · intro T w Q hu hs hv hw hd
            have hx43 : T.getD 43 undef = (.string (strB T4)) := Deps.at 18 hd (by kernel_rfl)
            refine .inl ⟨wanted_none rfl, ?_⟩
            clear hd hv hu hs hw
            go_simp
            exact ⟨_, rfl, DstOk.some rfl, Below.refl _ _, rfl⟩
          intro T w hu hs hv hf hcur
          have hT : T = #[T.getD 0 undef, T.getD 1 undef, T.getD 2 undef, T.getD 3 undef, T.getD 4 undef, T.getD 5 undef, T.getD 6 undef, T.getD 7 undef, T.getD 8 undef, T.getD 9 undef, T.getD 10 undef, T.getD 11 undef, T.getD 12 undef, T.getD 13 undef, T.getD 14 undef, T.getD 15 undef, T.getD 16 undef, T.getD 17 undef, T.getD 18 undef, T.getD 19 undef, T.getD 20 undef, T.getD 21 undef, T.getD 22 undef, T.getD 23 undef, T.getD 24 undef, T.getD 25 undef, T.getD 26 undef, T.getD 27 undef, T.getD 28 undef, T.getD 29 undef, T.getD 30 undef, T.getD 31 undef, T.getD 32 undef, T.getD 33 undef, T.getD 34 undef, T.getD 35 undef, T.getD 36 undef, T.getD 37 undef, T.getD 38 undef, T.getD 39 undef, T.getD 40 undef, T.getD 41 undef, T.getD 42 undef, T.getD 43 undef, T.getD 44 undef, T.getD 45 undef, T.getD 46 undef, T.getD 47 undef, T.getD 48 undef, T.getD 49 undef, T.getD 50 undef, T.getD 51 undef, T.getD 52 undef, T.getD 53 undef, T.getD 54 undef, T.getD 55 undef, T.getD 56 undef, T.getD 57 undef, T.getD 58 undef, T.getD 59 undef, T.getD 60 undef, T.getD 61 undef, T.getD 62 undef, T.getD 63 undef, T.getD 64 undef, T.getD 65 undef, T.getD 66 undef, T.getD 67 undef, T.getD 68 undef, T.getD 69 undef, T.getD 70 undef, T.getD 71 undef, T.getD 72 undef] := expl hs
          rw [hT]
          clear hT
          rw [show T.getD 0 undef = (.slice (some ⟨bb, ob, none⟩) l.length c0) from hv 0 (by kernel_rfl)]
          rw [hv 1 (by kernel_rfl)]
          rw [hv 2 (by kernel_rfl)]
          rw [show T.getD 3 undef = (.string (strB O)) from hv 3 (by kernel_rfl)]
          rw [show T.getD 4 undef = (.string (strB T4)) from hf 19 (by decide)]
          rw [show T.getD 5 undef = (.string (strB G)) from hv 5 (by kernel_rfl)]
          rw [show T.getD 6 undef = (.int .i64 k) from hv 6 (by kernel_rfl)]
          rw [hv 7 (by kernel_rfl)]
          rw [hv 8 (by kernel_rfl)]
          rw [hv 9 (by kernel_rfl)]
          rw [hv 10 (by kernel_rfl)]
          rw [hv 11 (by kernel_rfl)]
          rw [hv 12 (by kernel_rfl)]
          rw [hv 13 (by kernel_rfl)]
          rw [hv 14 (by kernel_rfl)]
          rw [hv 15 (by kernel_rfl)]
          rw [hv 16 (by kernel_rfl)]
          rw [hv 17 (by kernel_rfl)]
          rw [hv 18 (by kernel_rfl)]
          rw [hv 19 (by kernel_rfl)]
          rw [hv 20 (by kernel_rfl)]
          rw [hv 21 (by kernel_rfl)]
          rw [hv 22 (by kernel_rfl)]
          rw [hv 23 (by kernel_rfl)]
          rw [hv 24 (by kernel_rfl)]
          rw [show T.getD 25 undef = (.string (strB M)) from hf 0 (by decide)]
          rw [show T.getD 26 undef = (.string (strB T1)) from hf 1 (by decide)]
          rw [show T.getD 28 undef = (.slice (some ⟨bb, ob, none⟩) l.length c0) from hf 3 (by decide)]
          rw [show T.getD 29 undef = (.int .i64 k) from hf 4 (by decide)]
          rw [show T.getD 30 undef = (.pointer (some ⟨bb, ob + k, none⟩)) from hf 5 (by decide)]
          rw [show T.getD 31 undef = (.int .u8 c.toNat) from hf 6 (by decide)]
          rw [show T.getD 32 undef = (.int .u8 s) from hf 7 (by decide)]
          rw [show T.getD 34 undef = (.string (strB [sgB s])) from hf 9 (by decide)]
          rw [show T.getD 35 undef = (.string (strB T2)) from hf 10 (by decide)]
          rw [show T.getD 36 undef = (.int .i64 k) from hf 11 (by decide)]
          rw [show T.getD 37 undef = (.int .i64 k) from hf 12 (by decide)]
          rw [show T.getD 38 undef = (.int .i64 k) from hf 13 (by decide)]
          rw [show T.getD 39 undef = (.int .i64 k) from hf 14 (by decide)]
          rw [show T.getD 40 undef = (.int .i64 ((k : Int) + 1)) from hf 15 (by decide)]
          rw [show T.getD 41 undef = (.string (strB [dgB k])) from hf 16 (by decide)]
          rw [show T.getD 42 undef = (.string (strB T3)) from hf 17 (by decide)]
          rw [show T.getD 43 undef = (.string (strB T4)) from hf 18 (by decide)]
          rw [hv 44 (by kernel_rfl)]
          rw [hv 45 (by kernel_rfl)]
          rw [hv 46 (by kernel_rfl)]
          rw [hv 47 (by kernel_rfl)]
          rw [hv 48 (by kernel_rfl)]
          rw [hv 49 (by kernel_rfl)]
          rw [hv 50 (by kernel_rfl)]
          rw [hv 51 (by kernel_rfl)]
          rw [hv 52 (by kernel_rfl)]
          rw [hv 53 (by kernel_rfl)]
          rw [hv 54 (by kernel_rfl)]
          rw [hv 55 (by kernel_rfl)]
          rw [hv 56 (by kernel_rfl)]
          rw [hv 57 (by kernel_rfl)]
          rw [hv 58 (by kernel_rfl)]
          rw [hv 59 (by kernel_rfl)]
          rw [hv 60 (by kernel_rfl)]
          rw [hv 61 (by kernel_rfl)]
          rw [hv 62 (by kernel_rfl)]
          rw [hv 63 (by kernel_rfl)]
          rw [hv 64 (by kernel_rfl)]
          rw [hv 65 (by kernel_rfl)]
          rw [hv 66 (by kernel_rfl)]
          rw [hv 67 (by kernel_rfl)]
          rw [hv 68 (by kernel_rfl)]
          rw [hv 69 (by kernel_rfl)]
          rw [hv 70 (by kernel_rfl)]
          rw [hv 71 (by kernel_rfl)]
          rw [hv 72 (by kernel_rfl)]
          clear hf hs hv hcur
          simp only [getD_toArray, List.getD_cons_succ, List.getD_cons_zero]
          generalize T.getD 27 undef = y27
          generalize T.getD 33 undef = y33
          clear T
          have hb9 := hide (hbr.out.trans ((hu.below (Nat.le_refl _) fun _ h => h.elim : Below wr.heap.size wr w).mono hbr.out.size))
          clear hu
          go_wp2_with fail
          go_roundw
          case rel => exact ⟨k + 1, O, T4, G, by omega, by go_num, rfl, rfl, rfl, hb9.out, fun _ => by rw [hstep.out]; exact ⟨eO.out, hT4.out.symm, eG.out⟩, fun h => by omega⟩
          case measure => simp [RowKit.intOf]; omega
        · have h2' : ¬ (2 : Int) ≤ (s : Int) := by omega
          rw [if_neg h2] at hstep
          have hs2 : s = 0 ∨ s = 1 := by omega
          cases o with
          | none =>
            have hG0 : ((strB G).toList == []) = true := by rw [str_beq', eG]; rfl
            have hN : wholeT (closeE none t) = M := eT.symm
            replace hN := hide hN
            replace hstep := hide hstep
            replace eO := hide eO
            replace eG := hide eG
            replace eT := hide eT
            replace hlf := hide hlf
            clear w1 w2 w3 hk hle hlt h2
            rcases hs2 with rfl | rfl
            · have hb9 := hide (hbr.alloc hbr.size (.cells #[.string ⟨#[43]⟩, .string ⟨#[45]⟩] 9))
              have h2z : ((0 : Nat) : Int) = 0 := rfl
              rw [h2z] at hm h2'
              clear h2z
              replace hbr := hide hbr
              have hct := hcut.out
              have hcb2 : (wr.alloc (.cells #[.string ⟨#[43]⟩, .string ⟨#[45]⟩] 9)).cell? ⟨bb, ob + k, none⟩ = some (.int .u8 c.toNat) := (Upd.alloc (fun _ => False) wr _).cell hcb id
              go_wp2_with fail
              go_roundw
              case rel => exact ⟨k + 1, M, [dgB k], [sgB 0], by omega, by go_num, rfl, rfl, rfl, hb9.out, fun _ => by rw [hstep.out]; exact ⟨hN.out.symm, hlf.out.1.symm, rfl⟩, fun h => by omega⟩
              case measure => simp [RowKit.intOf]; omega
            · have hb9 := hide (hbr.alloc hbr.size (.cells #[.string ⟨#[43]⟩, .string ⟨#[45]⟩] 9))
              have h2z : ((1 : Nat) : Int) = 1 := rfl
              rw [h2z] at hm h2'
              clear h2z
              replace hbr := hide hbr
              have hct := hcut.out
              have hcb2 : (wr.alloc (.cells #[.string ⟨#[43]⟩, .string ⟨#[45]⟩] 9)).cell? ⟨bb, ob + k, none⟩ = some (.int .u8 c.toNat) := (Upd.alloc (fun _ => False) wr _).cell hcb id
              go_wp2_with fail
              go_roundw
              case rel => exact ⟨k + 1, M, [dgB k], [sgB 1], by omega, by go_num, rfl, rfl, rfl, hb9.out, fun _ => by rw [hstep.out]; exact ⟨hN.out.symm, hlf.out.1.symm, rfl⟩, fun h => by omega⟩
              case measure => simp [RowKit.intOf]; omega
          | some p =>
            have hG0 : ((strB G).toList == []) = false := by rw [str_beq', eG]; rfl
            have hGl : G.length = 1 := by rw [eG]; rfl
            have hN : wholeT (closeE (some p) t) = [40] ++ O ++ G ++ M ++ [41] := by rw [eO, eT, eG]; rfl
            obtain ⟨T1, e1⟩ : ∃ T1, T1 = [40] ++ O := ⟨_, rfl⟩
            rw [← e1] at hN
            obtain ⟨T2, e2⟩ : ∃ T2, T2 = T1 ++ G := ⟨_, rfl⟩
            rw [← e2] at hN
            obtain ⟨T3, e3⟩ : ∃ T3, T3 = T2 ++ M := ⟨_, rfl⟩
            rw [← e3] at hN
            obtain ⟨T4, e4⟩ : ∃ T4, T4 = T3 ++ [41] := ⟨_, rfl⟩
            rw [← e4] at hN
            have l1 : T1.length = 1 + O.length := by rw [e1, List.length_append]; rfl
            have l2 : T2.length = T1.length + G.length := by rw [e2, List.length_append]
            have l3 : T3.length = T2.length + M.length := by rw [e3, List.length_append]
            have ha1 : ∀ w, (Op.stringOp .add ⟨#[40]⟩ (strB O)).run Tryz.prog w = .ok (.string (strB T1)) w := fun w => by rw [e1]; exact str_add [40] O (by show 1 + _ ≤ _; omega) w
            have ha2 : ∀ w, (Op.stringOp .add (strB T1) (strB G)).run Tryz.prog w = .ok (.string (strB T2)) w := fun w => by rw [e2]; exact str_add T1 G (by omega) w
            have ha3 : ∀ w, (Op.stringOp .add (strB T2) (strB M)).run Tryz.prog w = .ok (.string (strB T3)) w := fun w => by rw [e3]; exact str_add T2 M (by omega) w
            have ha4 : ∀ w, (Op.stringOp .add (strB T3) ⟨#[41]⟩).run Tryz.prog w = .ok (.string (strB T4)) w := fun w => by rw [e4]; exact str_add T3 [41] (by show _ + 1 ≤ _; omega) w
            clear e1 e2 e3 e4 l1 l2 l3 hGl
            replace hN := hide hN
            replace hstep := hide hstep
            replace eO := hide eO
            replace eG := hide eG
            replace eT := hide eT
            replace hlf := hide hlf
            clear w1 w2 w3 hk hle hlt h2
            rcases hs2 with rfl | rfl
            · have hb9 := hide (hbr.alloc hbr.size (.cells #[.string ⟨#[43]⟩, .string ⟨#[45]⟩] 9))
              have h2z : ((0 : Nat) : Int) = 0 := rfl
              rw [h2z] at hm h2'
              clear h2z
              replace hbr := hide hbr
              have hct := hcut.out
              have hcb2 : (wr.alloc (.cells #[.string ⟨#[43]⟩, .string ⟨#[45]⟩] 9)).cell? ⟨bb, ob + k, none⟩ = some (.int .u8 c.toNat) := (Upd.alloc (fun _ => False) wr _).cell hcb id
              go_wp2_with fail
              go_roundw
              case rel => exact ⟨k + 1, T4, [dgB k], [sgB 0], by omega, by go_num, rfl, rfl, rfl, hb9.out, fun _ => by rw [hstep.out]; exact ⟨hN.out.symm, hlf.out.1.symm, rfl⟩, fun h => by omega⟩
              case measure => simp [RowKit.intOf]; omega
            · have hb9 := hide (hbr.alloc hbr.size (.cells #[.string ⟨#[43]⟩, .string ⟨#[45]⟩] 9))
              have h2z : ((1 : Nat) : Int) = 1 := rfl
              rw [h2z] at hm h2'
              clear h2z
              replace hbr := hide hbr
              have hct := hcut.out
              have hcb2 : (wr.alloc (.cells #[.string ⟨#[43]⟩, .string ⟨#[45]⟩] 9)).cell? ⟨bb, ob + k, none⟩ = some (.int .u8 c.toNat) := (Upd.alloc (fun _ => False) wr _).cell hcb id
              go_wp2_with fail
              go_roundw
              case rel => exact ⟨k + 1, T4, [dgB k], [sgB 1], by omega, by go_num, rfl, rfl, rfl, hb9.out, fun _ => by rw [hstep.out]; exact ⟨hN.out.symm, hlf.out.1.symm, rfl⟩, fun h => by omega⟩
              case measure => simp [RowKit.intOf]; omega
      · obtain rfl : k = l.length := by omega
        have hlt' : ¬ (l.length : Int) < (l.length : Int) := by omega
        have hE : ordE (sgOf l) l.length = closeE o t := by unfold ordE; rw [hst]
        cases o with
        | none =>
          have hG0 : ((strB G).toList == []) = true := by rw [str_beq', eG]; rfl
          have hN : wholeT (closeE none t) = M := eT.symm
          replace hN := hide hN
          replace hE := hide hE
          replace hst := hide hst
          replace eO := hide eO
          replace eG := hide eG
          replace eT := hide eT
          clear w1 w2 w3 hk hlt
          replace hbr := hide hbr
          go_wp2_with fail
          go_roundw
          case rel => exact ⟨l.length + 1, M, M, G, by omega, by go_num, rfl, rfl, rfl, hbr.out, fun h => by omega, fun _ => by rw [hE.out]; exact hN.out.symm⟩
          case measure => simp [RowKit.intOf]
        | some p =>
          have hG0 : ((strB G).toList == []) = false := by rw [str_beq', eG]; rfl
          have hGl : G.length = 1 := by rw [eG]; rfl
          have hN : wholeT (closeE (some p) t) = [40] ++ O ++ G ++ M ++ [41] := by rw [eO, eT, eG]; rfl
          obtain ⟨T1, e1⟩ : ∃ T1, T1 = [40] ++ O := ⟨_, rfl⟩
          rw [← e1] at hN
          obtain ⟨T2, e2⟩ : ∃ T2, T2 = T1 ++ G := ⟨_, rfl⟩
          rw [← e2] at hN
          obtain ⟨T3, e3⟩ : ∃ T3, T3 = T2 ++ M := ⟨_, rfl⟩
          rw [← e3] at hN
          obtain ⟨T4, e4⟩ : ∃ T4, T4 = T3 ++ [41] := ⟨_, rfl⟩
          rw [← e4] at hN
          have l1 : T1.length = 1 + O.length := by rw [e1, List.length_append]; rfl
          have l2 : T2.length = T1.length + G.length := by rw [e2, List.length_append]
          have l3 : T3.length = T2.length + M.length := by rw [e3, List.length_append]
          have ha1 : ∀ w, (Op.stringOp .add ⟨#[40]⟩ (strB O)).run Tryz.prog w = .ok (.string (strB T1)) w := fun w => by rw [e1]; exact str_add [40] O (by show 1 + _ ≤ _; omega) w
          have ha2 : ∀ w, (Op.stringOp .add (strB T1) (strB G)).run Tryz.prog w = .ok (.string (strB T2)) w := fun w => by rw [e2]; exact str_add T1 G (by omega) w
          have ha3 : ∀ w, (Op.stringOp .add (strB T2) (strB M)).run Tryz.prog w = .ok (.string (strB T3)) w := fun w => by rw [e3]; exact str_add T2 M (by omega) w
          have ha4 : ∀ w, (Op.stringOp .add (strB T3) ⟨#[41]⟩).run Tryz.prog w = .ok (.string (strB T4)) w := fun w => by rw [e4]; exact str_add T3 [41] (by show _ + 1 ≤ _; omega) w
          clear e1 e2 e3 e4 l1 l2 l3 hGl
          replace hN := hide hN
          replace hE := hide hE
          replace hst := hide hst
          replace eO := hide eO
          replace eG := hide eG
          replace eT := hide eT
          clear w1 w2 w3 hk hlt
          replace hbr := hide hbr
          go_wp2_with fail
          go_roundw
          case rel => exact ⟨l.length + 1, T4, M, G, by omega, by go_num, rfl, rfl, rfl, hbr.out, fun h => by omega, fun _ => by rw [hE.out]; exact hN.out.symm⟩
          case measure => simp [RowKit.intOf]
    · have hle' : ¬ (k : Int) ≤ (l.length : Int) := by omega
      have hO := h2 (by omega)
      replace hbr := hide hbr
      replace hO := hide hO
      clear h1 h2
      go_wp2_with fail
      go_ret
      exact ⟨congrArg (fun x => Ending.returned (.string (strB x))) hO.out, hbr.out⟩
end Go.Proofs.YteplkhgaoaphhaaGreatDoor
/- The walk of ParseOrder. -/
namespace Go.Proofs.YteplkhgaoaphhaaGreatDoor
open Go Go.RowKit Go.Lib

set_option maxRecDepth 100000 in
set_option maxHeartbeats 6400000 in
theorem order_any (v : Value) (l : List UInt8) (W : World) (hv : BytesV W W.heap.size v l) (hE : ErrR W) : Calls Tryz.prog 8 #[v] W fun e w' => e = .returned (.bool true) ∧ Below W.heap.size W w' := by
  have hK := hide (known_any W hE)
  obtain ⟨A, n0, c0, rfl⟩ := hv.slice'
  obtain rfl : n0 = l.length := by
    obtain ⟨A', c', e1, -⟩ := hv
    injection e1
  replace hv := hide hv
  replace hE := hide hE
  go_enter Tryz.func8, Tryz.ntmps8
  go_wp2_with fail
  refine hK.out.mono ?_
  rintro e w1 ⟨rfl, hb⟩
  replace hb := hide hb
  by_cases h12 : 12 < l.length
  · have h12' : (12 : Int) < (l.length : Int) := by omega
    go_wp2_with fail
    go_ret
    exact ⟨rfl, hb.out⟩
  have h12' : ¬ (12 : Int) < (l.length : Int) := by omega
  go_wp2_with fail
  clear h12'
  go_loopw [3, 4] (fun s i wr => ∃ k : Nat, k ≤ l.length ∧ i = .int .i64 k ∧ s = .string (strB (ordS (sgOf l) k)) ∧ Below W.heap.size W wr) (fun _ i _ => l.length - (RowKit.intOf i).toNat)
  case atStart => exact ⟨0, Nat.zero_le _, rfl, rfl, hb.out⟩
  case round =>
    obtain ⟨k, hk, rfl, rfl, hbr⟩ := hrel
    have hDl := ordS_len (sgOf l) k
    by_cases hlt : k < l.length
    · have hlt' : (k : Int) < (l.length : Int) := by omega
      obtain ⟨bb, ob, rfl, hcb⟩ := (hv.out.below hbr).at7 hlt
      have hsg := sgOf_at hlt
      have hD4 := ordS_succ (sgOf l) k
      generalize l[k] = c at *
      obtain ⟨s, hs⟩ : ∃ s, s = sgOf l k := ⟨_, rfl⟩
      have hs5 : s < 5 := by rw [hs]; exact sgOf_lt l k
      have hm : ((c.toNat : Int) % 5) = (s : Int) := by rw [hs, hsg]; omega
      have hc8 : (c.toNat : Int) ≤ 255 := by have := c.toNat_lt; omega
      have hk11 : k < 12 := by omega
      have hk14 : ((k : Int) % 14) = (k : Int) := by omega
      have hcut := hide (dig_cut hk11)
      have hws := hide (show IntKind.i64.wrap ((k : Int) + 1) = (k : Int) + 1 by simp [IntKind.wrap, IntKind.bits, IntKind.signed]; omega)
      rw [← hs] at hD4
      replace hsg := hide hsg
      replace hs := hide hs
      obtain ⟨D, e0⟩ : ∃ D, D = ordS (sgOf l) k := ⟨_, rfl⟩
      rw [← e0] at hD4 hDl ⊢
      obtain ⟨D1, e1⟩ : ∃ D1, D1 = D ++ [32] := ⟨_, rfl⟩
      rw [← e1] at hD4
      obtain ⟨D2, e2⟩ : ∃ D2, D2 = D1 ++ [sgB s] := ⟨_, rfl⟩
      rw [← e2] at hD4
      obtain ⟨D3, e3⟩ : ∃ D3, D3 = D2 ++ [32] := ⟨_, rfl⟩
      rw [← e3] at hD4
      obtain ⟨D4, e4⟩ : ∃ D4, D4 = D3 ++ [dgB k] := ⟨_, rfl⟩
      rw [← e4] at hD4
      have l1 : D1.length = D.length + 1 := by rw [e1, List.length_append]; rfl
      have l2 : D2.length = D1.length + 1 := by rw [e2, List.length_append]; rfl
      have l3 : D3.length = D2.length + 1 := by rw [e3, List.length_append]; rfl
      have ha1 := hide (fun w => by rw [e1]; exact str_add D [32] (by show _ + 1 ≤ _; omega) w : ∀ w, (Op.stringOp .add (strB D) ⟨#[32]⟩).run Tryz.prog w = .ok (.string (strB D1)) w)
      have ha2 := hide (fun w => by rw [e2]; exact str_add D1 [sgB s] (by show _ + 1 ≤ _; omega) w : ∀ w, (Op.stringOp .add (strB D1) (strB [sgB s])).run Tryz.prog w = .ok (.string (strB D2)) w)
      have ha3 := hide (fun w => by rw [e3]; exact str_add D2 [32] (by show _ + 1 ≤ _; omega) w : ∀ w, (Op.stringOp .add (strB D2) ⟨#[32]⟩).run Tryz.prog w = .ok (.string (strB D3)) w)
      have ha4 := hide (fun w => by rw [e4]; exact str_add D3 [dgB k] (by show _ + 1 ≤ _; omega) w : ∀ w, (Op.stringOp .add (strB D3) (strB [dgB k])).run Tryz.prog w = .ok (.string (strB D4)) w)
      replace hD4 := hide hD4
      replace hbr := hide hbr
      clear e0 e1 e2 e3 e4 l1 l2 l3 hDl
      go_wp2_with fail
      replace hcb := hide hcb
      have hmt := hide (show (c.toNat : Int).tmod 5 = (s : Int) by rw [Int.tmod_eq_emod_of_nonneg (by omega)]; exact hm)
      have hkt := hide (show (k : Int).tmod 14 = (k : Int) by rw [Int.tmod_eq_emod_of_nonneg (by omega)]; exact hk14)
      replace hm := hide hm
      replace hk14 := hide hk14
      refine wp_region_flow (fun _ => False) (factAt [(fun v _ => v = (.string (strB D))), (fun v _ => v = (.string (strB D1))), (fun v w => FiveS v w), (fun v _ => v = (.slice (some ⟨bb, ob, none⟩) l.length c0)), (fun v _ => v = (.int .i64 k)), (fun v _ => v = (.pointer (some ⟨bb, ob + k, none⟩))), (fun v _ => v = (.int .u8 c.toNat)), (fun v _ => v = (.int .u8 s)), (fun v w => PtS s v w), (fun v _ => v = (.string (strB [sgB s]))), (fun v _ => v = (.string (strB D2))), (fun v _ => v = (.string (strB D3))), (fun v _ => v = (.int .i64 k)), (fun v _ => v = (.int .i64 k)), (fun v _ => v = (.int .i64 k)), (fun v _ => v = (.int .i64 k)), (fun v _ => v = (.int .i64 ((k : Int) + 1))), (fun v _ => v = (.string (strB [dgB k]))), (fun v _ => v = (.string (strB D4))), (fun v _ => v = (.string (strB D4)))]) [] (fun _ => True) (by kernel_rfl) (fkept_at ⟨FKept.eq _, FKept.eq _, FiveS.kept, FKept.eq _, FKept.eq _, FKept.eq _, FKept.eq _, FKept.eq _, PtS.kept, FKept.eq _, FKept.eq _, FKept.eq _, FKept.eq _, FKept.eq _, FKept.eq _, FKept.eq _, FKept.eq _, FKept.eq _, FKept.eq _, FKept.eq _, trivial⟩) (fun _ _ h _ => h) trivial (by kernel_rfl) (by kernel_rfl) (by kernel_rfl) (by kernel_rfl) (Nat.le_of_ble_eq_true (by kernel_rfl)) ?_ ⟨?_, ?_, ?_, ?_, ?_, ?_, ?_, ?_, ?_, ?_, ?_, ?_, ?_, ?_, ?_, ?_, ?_, ?_, ?_, ?_, trivial⟩ ?_
      · first | exact trivial | assumption
      · intro T w Q hu hs hv hw hd
        have hx3 : T.getD 3 undef = (.string (strB D)) := hw 3 (by kernel_rfl)
        refine .inl ⟨wanted_none rfl, ?_⟩
        clear hd hv hu hs hw
        go_simp
        exact ⟨_, rfl, DstOk.some rfl, Below.refl _ _, rfl⟩
      · intro T w Q hu hs hv hw hd
        have hx19 : T.getD 19 undef = (.string (strB D)) := Deps.at 0 hd (by kernel_rfl)
        refine .inl ⟨wanted_none rfl, ?_⟩
        have hC := ha1.out w
        clear hd hv hu hs hw
        go_simp
        exact ⟨_, rfl, DstOk.some rfl, Below.refl _ _, rfl⟩
      · intro T w Q hu hs hv hw hd
        refine .inl ⟨wanted_none rfl, ?_⟩
        clear hd hv hu hs hw
        go_simp
        exact ⟨_, rfl, DstOk.some rfl, (Below.refl _ w).alloc (Nat.le_refl _) _, FiveS.new w⟩
      · intro T w Q hu hs hv hw hd
        have hx0 : T.getD 0 undef = (.slice (some ⟨bb, ob, none⟩) l.length c0) := hv 0 (by kernel_rfl)
        refine .inl ⟨wanted_none rfl, ?_⟩
        clear hd hv hu hs hw
        go_simp
        exact ⟨_, rfl, DstOk.some rfl, Below.refl _ _, rfl⟩
      · intro T w Q hu hs hv hw hd
        have hx4 : T.getD 4 undef = (.int .i64 k) := hv 4 (by kernel_rfl)
        refine .inl ⟨wanted_none rfl, ?_⟩
        clear hd hv hu hs hw
        go_simp
        exact ⟨_, rfl, DstOk.some rfl, Below.refl _ _, rfl⟩
      · intro T w Q hu hs hv hw hd
        have hx22 : T.getD 22 undef = (.slice (some ⟨bb, ob, none⟩) l.length c0) := Deps.at 3 hd (by kernel_rfl)
        have hx23 : T.getD 23 undef = (.int .i64 k) := Deps.at 4 hd (by kernel_rfl)
        refine .inl ⟨wanted_none rfl, ?_⟩
        clear hd hv hu hs hw
        go_simp
        exact ⟨_, rfl, DstOk.some rfl, Below.refl _ _, rfl⟩
      · intro T w Q hu hs hv hw hd
        have hx24 : T.getD 24 undef = (.pointer (some ⟨bb, ob + k, none⟩)) := Deps.at 5 hd (by kernel_rfl)
        refine .inl ⟨wanted_none rfl, ?_⟩
        have hq := hu.cell hcb.out id
        clear hd hv hu hs hw
        go_simp
        exact ⟨_, rfl, DstOk.some rfl, Below.refl _ _, rfl⟩
      · intro T w Q hu hs hv hw hd
        have hx25 : T.getD 25 undef = (.int .u8 c.toNat) := Deps.at 6 hd (by kernel_rfl)
        refine .inl ⟨wanted_none rfl, ?_⟩
        clear hd hv hu hs hw
        go_simp
        exact ⟨_, rfl, DstOk.some rfl, Below.refl _ _, congrArg (Value.int .u8) hmt.out⟩
      · intro T w Q hu hs hv hw hd
        have f21 : (fun (v : Value) (w : World) => FiveS v w) (T.getD 21 undef) w := Deps.at 2 hd (by kernel_rfl)
        generalize hx21 : T.getD 21 undef = x21 at f21
        replace f21 := hide f21
        have hx26 : T.getD 26 undef = (.int .u8 s) := Deps.at 7 hd (by kernel_rfl)
        refine .inl ⟨wanted_none rfl, ?_⟩
        obtain ⟨g5, rfl, hg5⟩ := f21.out
        have hp := hg5 s hs5
        rw [signsC_at hs5] at hp
        replace hp := hide hp
        replace hg5 := hide hg5
        have hsI : (s : Int) < 5 := by omega
        clear hd hv hu hs hw f21
        go_simp
        exact ⟨_, rfl, DstOk.some rfl, Below.refl _ _, PtS.of hp.out⟩
      · intro T w Q hu hs hv hw hd
        have f27 : (fun (v : Value) (w : World) => PtS s v w) (T.getD 27 undef) w := Deps.at 8 hd (by kernel_rfl)
        generalize hx27 : T.getD 27 undef = x27 at f27
        replace f27 := hide f27
        refine .inl ⟨wanted_none rfl, ?_⟩
        obtain ⟨g5, rfl, hp⟩ := f27.out
        clear hd hv hu hs hw f27
        go_simp
        exact ⟨_, rfl, DstOk.some rfl, Below.refl _ _, rfl⟩
      · intro T w Q hu hs hv hw hd
        have hx20 : T.getD 20 undef = (.string (strB D1)) := Deps.at 1 hd (by kernel_rfl)
        have hx28 : T.getD 28 undef = (.string (strB [sgB s])) := Deps.at 9 hd (by kernel_rfl)
        refine .inl ⟨wanted_none rfl, ?_⟩
        have hC := ha2.out w
        clear hd hv hu hs hw
        go_simp
        exact ⟨_, rfl, DstOk.some rfl, Below.refl _ _, rfl⟩
      · intro T w Q hu hs hv hw hd
        have hx29 : T.getD 29 undef = (.string (strB D2)) := Deps.at 10 hd (by kernel_rfl)
        refine .inl ⟨wanted_none rfl, ?_⟩
        have hC := ha3.out w
        clear hd hv hu hs hw
        go_simp
        exact ⟨_, rfl, DstOk.some rfl, Below.refl _ _, rfl⟩
      · intro T w Q hu hs hv hw hd
        have hx4 : T.getD 4 undef = (.int .i64 k) := hv 4 (by kernel_rfl)
        refine .inl ⟨wanted_none rfl, ?_⟩
        clear hd hv hu hs hw
        go_simp
        exact ⟨_, rfl, DstOk.some rfl, Below.refl _ _, rfl⟩
      · intro T w Q hu hs hv hw hd
        have hx31 : T.getD 31 undef = (.int .i64 k) := Deps.at 12 hd (by kernel_rfl)
        refine .inl ⟨wanted_none rfl, ?_⟩
        clear hd hv hu hs hw
        go_simp
        exact ⟨_, rfl, DstOk.some rfl, Below.refl _ _, congrArg (Value.int .i64) hkt.out⟩
      · intro T w Q hu hs hv hw hd
        have hx4 : T.getD 4 undef = (.int .i64 k) := hv 4 (by kernel_rfl)
        refine .inl ⟨wanted_none rfl, ?_⟩
        clear hd hv hu hs hw
        go_simp
        exact ⟨_, rfl, DstOk.some rfl, Below.refl _ _, rfl⟩
      · intro T w Q hu hs hv hw hd
        have hx33 : T.getD 33 undef = (.int .i64 k) := Deps.at 14 hd (by kernel_rfl)
        refine .inl ⟨wanted_none rfl, ?_⟩
        clear hd hv hu hs hw
        go_simp
        exact ⟨_, rfl, DstOk.some rfl, Below.refl _ _, congrArg (Value.int .i64) hkt.out⟩
      · intro T w Q hu hs hv hw hd
        have hx34 : T.getD 34 undef = (.int .i64 k) := Deps.at 15 hd (by kernel_rfl)
        refine .inl ⟨wanted_none rfl, ?_⟩
        clear hd hv hu hs hw
        go_simp
        exact ⟨_, rfl, DstOk.some rfl, Below.refl _ _, congrArg (Value.int .i64) hws.out⟩
      · intro T w Q hu hs hv hw hd
        have hx32 : T.getD 32 undef = (.int .i64 k) := Deps.at 13 hd (by kernel_rfl)
        have hx35 : T.getD 35 undef = (.int .i64 ((k : Int) + 1)) := Deps.at 16 hd (by kernel_rfl)
        refine .inl ⟨wanted_none rfl, ?_⟩
        have hC := hcut.out w
        clear hd hv hu hs hw
        go_simp
        exact ⟨_, rfl, DstOk.some rfl, Below.refl _ _, rfl⟩
      · intro T w Q hu hs hv hw hd
        have hx30 : T.getD 30 undef = (.string (strB D3)) := Deps.at 11 hd (by kernel_rfl)
        have hx36 : T.getD 36 undef = (.string (strB [dgB k])) := Deps.at 17 hd (by kernel_rfl)
        refine .inl ⟨wanted_none rfl, ?_⟩
        have hC := ha4.out w
        clear hd hv hu hs hw
        go_simp
        exact ⟨_, rfl, DstOk.some rfl, Below.refl _ _, rfl⟩
      · intro T w Q hu hs hv hw hd
        have hx37 : T.getD 37 undef = (.string (strB D4)) := Deps.at 18 hd (by kernel_rfl)
        refine .inl ⟨wanted_none rfl, ?_⟩
        clear hd hv hu hs hw
        go_simp
        exact ⟨_, rfl, DstOk.some rfl, Below.refl _ _, rfl⟩
      intro T w hu hs hv hf hcur
      have hT : T = #[T.getD 0 undef, T.getD 1 undef, T.getD 2 undef, T.getD 3 undef, T.getD 4 undef, T.getD 5 undef, T.getD 6 undef, T.getD 7 undef, T.getD 8 undef, T.getD 9 undef, T.getD 10 undef, T.getD 11 undef, T.getD 12 undef, T.getD 13 undef, T.getD 14 undef, T.getD 15 undef, T.getD 16 undef, T.getD 17 undef, T.getD 18 undef, T.getD 19 undef, T.getD 20 undef, T.getD 21 undef, T.getD 22 undef, T.getD 23 undef, T.getD 24 undef, T.getD 25 undef, T.getD 26 undef, T.getD 27 undef, T.getD 28 undef, T.getD 29 undef, T.getD 30 undef, T.getD 31 undef, T.getD 32 undef, T.getD 33 undef, T.getD 34 undef, T.getD 35 undef, T.getD 36 undef, T.getD 37 undef, T.getD 38 undef, T.getD 39 undef, T.getD 40 undef, T.getD 41 undef, T.getD 42 undef, T.getD 43 undef, T.getD 44 undef, T.getD 45 undef, T.getD 46 undef, T.getD 47 undef, T.getD 48 undef, T.getD 49 undef, T.getD 50 undef, T.getD 51 undef, T.getD 52 undef, T.getD 53 undef, T.getD 54 undef, T.getD 55 undef, T.getD 56 undef, T.getD 57 undef, T.getD 58 undef, T.getD 59 undef, T.getD 60 undef, T.getD 61 undef, T.getD 62 undef, T.getD 63 undef, T.getD 64 undef, T.getD 65 undef, T.getD 66 undef, T.getD 67 undef, T.getD 68 undef, T.getD 69 undef, T.getD 70 undef] := expl hs
      rw [hT]
      clear hT
      rw [show T.getD 0 undef = (.slice (some ⟨bb, ob, none⟩) l.length c0) from hv 0 (by kernel_rfl)]
      rw [hv 1 (by kernel_rfl)]
      rw [hv 2 (by kernel_rfl)]
      rw [show T.getD 3 undef = (.string (strB D4)) from hf 19 (by decide)]
      rw [show T.getD 4 undef = (.int .i64 k) from hv 4 (by kernel_rfl)]
      rw [hv 5 (by kernel_rfl)]
      rw [hv 6 (by kernel_rfl)]
      rw [hv 7 (by kernel_rfl)]
      rw [hv 8 (by kernel_rfl)]
      rw [hv 9 (by kernel_rfl)]
      rw [hv 10 (by kernel_rfl)]
      rw [hv 11 (by kernel_rfl)]
      rw [hv 12 (by kernel_rfl)]
      rw [hv 13 (by kernel_rfl)]
      rw [hv 14 (by kernel_rfl)]
      rw [hv 15 (by kernel_rfl)]
      rw [hv 16 (by kernel_rfl)]
      rw [hv 17 (by kernel_rfl)]
      rw [hv 18 (by kernel_rfl)]
      rw [show T.getD 19 undef = (.string (strB D)) from hf 0 (by decide)]
      rw [show T.getD 20 undef = (.string (strB D1)) from hf 1 (by decide)]
      rw [show T.getD 22 undef = (.slice (some ⟨bb, ob, none⟩) l.length c0) from hf 3 (by decide)]
      rw [show T.getD 23 undef = (.int .i64 k) from hf 4 (by decide)]
      rw [show T.getD 24 undef = (.pointer (some ⟨bb, ob + k, none⟩)) from hf 5 (by decide)]
      rw [show T.getD 25 undef = (.int .u8 c.toNat) from hf 6 (by decide)]
      rw [show T.getD 26 undef = (.int .u8 s) from hf 7 (by decide)]
      rw [show T.getD 28 undef = (.string (strB [sgB s])) from hf 9 (by decide)]
      rw [show T.getD 29 undef = (.string (strB D2)) from hf 10 (by decide)]
      rw [show T.getD 30 undef = (.string (strB D3)) from hf 11 (by decide)]
      rw [show T.getD 31 undef = (.int .i64 k) from hf 12 (by decide)]
      rw [show T.getD 32 undef = (.int .i64 k) from hf 13 (by decide)]
      rw [show T.getD 33 undef = (.int .i64 k) from hf 14 (by decide)]
      rw [show T.getD 34 undef = (.int .i64 k) from hf 15 (by decide)]
      rw [show T.getD 35 undef = (.int .i64 ((k : Int) + 1)) from hf 16 (by decide)]
      rw [show T.getD 36 undef = (.string (strB [dgB k])) from hf 17 (by decide)]
      rw [show T.getD 37 undef = (.string (strB D4)) from hf 18 (by decide)]
      rw [hv 38 (by kernel_rfl)]
      rw [hv 39 (by kernel_rfl)]
      rw [hv 40 (by kernel_rfl)]
      rw [hv 41 (by kernel_rfl)]
      rw [hv 42 (by kernel_rfl)]
      rw [hv 43 (by kernel_rfl)]
      rw [hv 44 (by kernel_rfl)]
      rw [hv 45 (by kernel_rfl)]
      rw [hv 46 (by kernel_rfl)]
      rw [hv 47 (by kernel_rfl)]
      rw [hv 48 (by kernel_rfl)]
      rw [hv 49 (by kernel_rfl)]
      rw [hv 50 (by kernel_rfl)]
      rw [hv 51 (by kernel_rfl)]
      rw [hv 52 (by kernel_rfl)]
      rw [hv 53 (by kernel_rfl)]
      rw [hv 54 (by kernel_rfl)]
      rw [hv 55 (by kernel_rfl)]
      rw [hv 56 (by kernel_rfl)]
      rw [hv 57 (by kernel_rfl)]
      rw [hv 58 (by kernel_rfl)]
      rw [hv 59 (by kernel_rfl)]
      rw [hv 60 (by kernel_rfl)]
      rw [hv 61 (by kernel_rfl)]
      rw [hv 62 (by kernel_rfl)]
      rw [hv 63 (by kernel_rfl)]
      rw [hv 64 (by kernel_rfl)]
      rw [hv 65 (by kernel_rfl)]
      rw [hv 66 (by kernel_rfl)]
      rw [hv 67 (by kernel_rfl)]
      rw [hv 68 (by kernel_rfl)]
      rw [hv 69 (by kernel_rfl)]
      rw [hv 70 (by kernel_rfl)]
      clear hf hs hv hcur
      simp only [getD_toArray, List.getD_cons_succ, List.getD_cons_zero]
      generalize T.getD 21 undef = y21
      generalize T.getD 27 undef = y27
      clear T
      have hb9 := hide (hbr.out.trans ((hu.below (Nat.le_refl _) fun _ h => h.elim : Below wr.heap.size wr w).mono hbr.out.size))
      clear hu
      go_wp2_with fail
      go_roundw
      case rel => exact ⟨k + 1, by omega, by go_num, by rw [hD4.out], hb9.out⟩
      case measure => simp [RowKit.intOf]; omega
    · obtain rfl : k = l.length := by omega
      have hlt' : ¬ (l.length : Int) < (l.length : Int) := by omega
      have hX := ord_text (sgOf l) (sgOf_lt l) l.length (by omega)
      have hL := ordB_len (sgOf l) l.length
      have hF := hide (Func_any 60 (by decide) (ordB (sgOf l) l.length) (by omega) wr (hE.out.below hbr) (by rw [hX]; exact fun e => by cases e))
      rw [hX] at hF
      obtain ⟨w5, w6, w7⟩ := stO_wf (sgOf l) (sgOf_lt l) l.length (by omega)
      have hwf : WfE (ordE (sgOf l) l.length) := close_wf w5 w6
      have hwl : (wholeT (ordE (sgOf l) l.length)).length ≤ 100000 := by
        have := close_len (stO (sgOf l) l.length).1 (stO (sgOf l) l.length).2
        unfold ordE
        omega
      obtain ⟨S, hS⟩ : ∃ S, S = ordS (sgOf l) l.length := ⟨_, rfl⟩
      obtain ⟨X, hXB⟩ : ∃ X, X = ordB (sgOf l) l.length := ⟨_, rfl⟩
      rw [← hS] at hDl ⊢
      rw [← hXB] at hF
      have hadd1 : ∀ w, (Op.stringOp .add ⟨#[102, 110, 32, 102, 40, 41, 32, 123, 32, 114, 101, 116, 117, 114, 110, 32]⟩ (strB S)).run Tryz.prog w = .ok (.string (strB (ordPre ++ S))) w := fun w => str_add ordPre S (by show 16 + _ ≤ _; omega) w
      obtain ⟨S1, hS1⟩ : ∃ S1, S1 = ordPre ++ S := ⟨_, rfl⟩
      rw [← hS1] at hadd1
      have hS1l : S1.length = 16 + S.length := by rw [hS1, List.length_append]; rfl
      have hadd2 : ∀ w, (Op.stringOp .add (strB S1) ⟨#[59, 32, 125]⟩).run Tryz.prog w = .ok (.string (strB X)) w := fun w => by
        rw [hXB, ordB, ← hS, ← hS1]
        exact str_add S1 [59, 32, 125] (by show _ + 3 ≤ _; omega) w
      have hbl := h12
      replace hX := hide hX
      replace hL := hide hL
      replace hwf := hide hwf
      replace hwl := hide hwl
      replace hS := hide hS
      replace hXB := hide hXB
      replace hS1 := hide hS1
      replace hbr := hide hbr
      clear w5 w6 w7 hlt hDl hS1l
      go_wp2_with fail
      refine hF.out.mono ?_
      rintro e w2 ⟨hb2, v2, rfl, hv2⟩
      obtain ⟨A1, c1, A2, c2, A3, c3, hve, hbk⟩ := hv2.read
      obtain rfl : v2 = .agg #[.string (strB [102]), .slice A1 0 c1, .slice A2 0 c2, .slice A3 1 c3] := hve
      obtain ⟨g, us, rfl, hs, hg⟩ := BlkV.head hbk
      unfold SmV at hs
      obtain ⟨ve, vf, vc, va, vt, vl, ut, ul, rfl, hxe, -⟩ := hs
      have hxx : ExV w2 (wr.heap.size ≤ ·) (ordE (sgOf l) l.length) ve := hxe
      clear hxe
      obtain ⟨ge, rfl⟩ := hxx.ptr
      have hb3 := hide ((hbr.out.trans (hb2.mono hbr.out.size)).alloc (Nat.le_trans hbr.out.size hb2.size) (.cells #[.string (strB [102]), .slice A1 0 c1, .slice A2 0 c2, .slice (some ⟨g, 0, none⟩) 1 c3] 27))
      have hu3 := Upd.alloc (fun _ => False) w2 (.cells #[.string (strB [102]), .slice A1 0 c1, .slice A2 0 c2, .slice (some ⟨g, 0, none⟩) 1 c3] 27)
      have q3 : (w2.alloc (.cells #[.string (strB [102]), .slice A1 0 c1, .slice A2 0 c2, .slice (some ⟨g, 0, none⟩) 1 c3] 27)).cell? ⟨w2.heap.size, 3, none⟩ = some (.slice (some ⟨g, 0, none⟩) 1 c3) := (cell_at (heap_new w2 _) 3).trans rfl
      have p3 := hu3.cell (hg 3 _ rfl) id
      have hxw := hide (whole_any _ _ _ (ExV.upd hu3 (fun _ _ => id) _ _ hxx) hwf.out hwl.out)
      clear hg hbk hv2 hb2 hu3 hxx hadd1 hadd2 hlt'
      go_wp2_with fail
      refine hxw.out.mono ?_
      rintro e w4 ⟨rfl, hb4⟩
      have hb5 := hide (hb3.out.trans (hb4.mono hb3.out.size))
      have hsp := hide (spelt_any l A c0 W.heap.size w4 (hv.out.below hb5.out) hb5.out.size (by omega))
      clear hb4
      go_wp2_with fail
      refine hsp.out.mono ?_
      rintro e w5 ⟨rfl, hb6⟩
      have hb7 := hide (hb5.out.trans (hb6.mono hb5.out.size))
      clear hb6
      go_wp2_with fail
      go_ret
      exact ⟨rfl, hb7.out⟩
end Go.Proofs.YteplkhgaoaphhaaGreatDoor
/- What the listed variables give the walks: strconv.ErrRange holds an error. -/
namespace Go.Proofs.YteplkhgaoaphhaaGreatDoor
open Go Go.RowKit
theorem errName : Tryz.prog.globalNamed "strconv.ErrRange" = some 1 := by kernel_rfl
theorem errStar : "*" ++ "errors.errorString" = "*errors.errorString" := by decide
theorem errRow (u : TypeId) (h : Tryz.prog.typeName? 3 u = some "*errors.errorString") : u = 158 :=
  typeName_ptr_named (nm := "errors.errorString") (by rw [errStar]; kernel_rfl) (by kernel_rfl) (by decide) u (by rw [errStar]; exact h)
theorem errOf {W : World} (h : laidMetH Tryz.prog Rows.parseDeepRow.laid W) : ErrR W := by
  rw [MakeChecks.laidMetH_plain _ _ _ (by kernel_rfl)] at h
  have h3 := laidMet.tail (laidMet.tail (laidMet.tail h))
  obtain ⟨a, s, hv, -, -, -⟩ := laid_sentinel h3 errName (ti := 134) (by kernel_rfl) Tryz.underlying134 errRow Tryz.underlying158 Tryz.underlying160 rfl rfl Tryz.underlying9 (by kernel_rfl) (by kernel_rfl)
  exact ⟨_, _, by have h0 := World.var?_cell errName hv 0; simpa using h0⟩
end Go.Proofs.YteplkhgaoaphhaaGreatDoor
