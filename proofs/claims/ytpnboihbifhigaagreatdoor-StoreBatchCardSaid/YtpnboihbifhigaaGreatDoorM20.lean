/- Part 20 of the walks (merged): Alike. -/
import Derived.Test.YtpnboihbifhigaaGreatDoorM19
/- The laws' alike. -/
namespace Go.Proofs.YtpnboihbifhigaaGreatDoor
open Go Go.RowKit
/-- The first k of the laws' keys that T has. -/
def keysOf (T : Tbl) (k : Nat) : List (List UInt8) := ((keyTab.take k).map fun s => s.data.toList).filter fun x => (T x).isSome
theorem keysOf_succ (T : Tbl) (k : Nat) (hk : k < 7) : keysOf T (k + 1) = keysOf T k ++ if (T (keyS k).data.toList).isSome then [(keyS k).data.toList] else [] := by
  have e : keyTab.take (k + 1) = keyTab.take k ++ [keyS k] := by
    rcases k with _ | _ | _ | _ | _ | _ | _ | k
    all_goals first | rfl | omega
  unfold keysOf
  rw [e, List.map_append, List.filter_append]
  simp [List.filter_cons]
theorem keysOf_len (T : Tbl) (k : Nat) : (keysOf T k).length ≤ k := by
  unfold keysOf
  refine Nat.le_trans (List.length_filter_le _ _) ?_
  rw [List.length_map, List.length_take]
  omega
theorem keysOf_sum {T : Tbl} (h : ∀ x v, T x = some v → v.size ≤ 1048512) (k : Nat) : sumT T (keysOf T k) ≤ (keysOf T k).length * 1048515 := by
  refine sumT_le fun x hx => ?_
  unfold keysOf at hx
  rw [List.mem_filter, List.mem_map] at hx
  obtain ⟨⟨s, hs, rfl⟩, h2⟩ := hx
  have h3 : ∀ s ∈ keyTab, s.size ≤ 3 := by decide
  have h4 := h3 s (List.mem_of_mem_take hs)
  have h5 : s.data.toList.length = s.size := rfl
  cases hT : T s.data.toList with
  | none => rw [hT] at h2; cases h2
  | some v =>
    have := h _ _ hT
    simp only [Option.getD_some]
    omega
theorem keysOf_nodup (T : Tbl) : (keysOf T 7).Nodup := by
  unfold keysOf
  exact (show (keyTab.map fun s => s.data.toList).Nodup by decide).filter _
theorem keysOf_mem (T : Tbl) (x : List UInt8) : x ∈ keysOf T 7 ↔ (∃ s ∈ keyTab, s.data.toList = x) ∧ (T x).isSome = true := by
  unfold keysOf
  rw [List.mem_filter, List.mem_map, show keyTab.take 7 = keyTab from rfl]
theorem keysOf_perm {T : Tbl} {ks : List (List UInt8)} (h1 : ks.Nodup) (h2 : ∀ x, x ∈ ks ↔ (T x).isSome = true) (hd : ∀ x v, T x = some v → ∃ s ∈ keyTab, s.data.toList = x) : ks.Perm (keysOf T 7) :=
  (List.perm_ext_iff_of_nodup h1 (keysOf_nodup T)).2 fun x => by
    rw [h2, keysOf_mem]
    refine ⟨fun h => ⟨?_, h⟩, fun h => h.2⟩
    cases hT : T x with
    | none => rw [hT] at h; cases h
    | some v => exact hd x v hT
theorem keys_below {T : Tbl} {p : List UInt8} {ks ks2 : List (List UInt8)} (h : KeysT T [] ks) (h2 : KeysT T p ks2) : ks2.length = (ks.filter fun x => p.isPrefixOf x).length := by
  refine List.Perm.length_eq (h2.perm (h.nodup.filter _) fun x => ?_)
  rw [List.mem_filter, h.mem]
  simp
theorem zero_str (w : World) : (zeroValue 9).run Tryz.prog w = .ok (.string ByteArray.empty) w := by kernel_rfl
set_option maxRecDepth 100000 in
set_option maxHeartbeats 4000000 in
theorem alike_any {W : World} {q lb mb mp n n2 : Nat} {down : Bool} {T M : Tbl} (hst : StV W q lb mb down) (ht : TblV W mb n T) (hm : MsV W mp n2 M) (hn : n ≤ 4294967295) (hbd : ∀ x v, T x = some v → x.length + v.size ≤ 1048512) (hbm : ∀ x v, M x = some v → v.size ≤ 1048512) :
    Calls Tryz.prog 16 #[.pointer (some ⟨q, 0, none⟩), .map (some mp)] W fun e w' => ∃ b, e = .returned (.bool b) ∧ (T = M → (∀ x v, T x = some v → ∃ s ∈ keyTab, s.data.toList = x) → b = true) ∧ Below W.heap.size W w' := by
  replace hst := hide hst
  replace ht := hide ht
  replace hm := hide hm
  replace hbd := hide hbd
  replace hbm := hide hbm
  go_enter Tryz.func16, Tryz.ntmps16
  go_wp2_with fail
  go_loopw [5, 6, 7] (fun c t i wr => ∃ k : Nat, k ≤ 7 ∧ i = .int .u8 k ∧ c = .int .i64 (keysOf M k).length ∧ t = .int .i64 (sumT M (keysOf M k) : Nat) ∧ Below W.heap.size W wr) (fun _ _ i _ => 7 - (intOf i).toNat)
  case atStart => exact ⟨0, by omega, rfl, rfl, rfl, .refl _ _⟩
  case round =>
    obtain ⟨k, hk, rfl, rfl, rfl, hbw⟩ := hrel
    have huw := Upd.of_below (fun _ => False) hbw
    rcases Nat.lt_or_ge k 7 with hlt | hge
    · have hkey := fun W => key_any W k (by omega)
      have hks := keyS_small k
      generalize hkx : keyS k = kx at *
      have hget : ∀ w2, Upd (fun _ => False) wr w2 → _ := fun w2 hu => get_any ((ht.out.upd huw id).upd hu id) kx (by omega)
      obtain ⟨tv, htv⟩ : ∃ tv, tv = (T kx.data.toList).getD ByteArray.empty := ⟨_, rfl⟩
      obtain ⟨tb, htb⟩ : ∃ tb, tb = (T kx.data.toList).isSome := ⟨_, rfl⟩
      rw [← htv, ← htb] at hget
      have cmb := (hst.out.upd huw id).cell 2
      have hm1 := hm.out.upd huw id
      replace hget := hide hget
      replace hkey := hide hkey
      replace cmb := hide cmb
      replace hm1 := hide hm1
      replace hbw := hide hbw
      replace htv := hide htv
      replace htb := hide htb
      replace hkx := hide hkx
      clear huw
      go_wp2_with fail
      refine wp_region_flowG (fun _ => False) (factAt [(fun v _ => v = (.pointer (some ⟨q, 0, none⟩))), (fun v _ => v = (.pointer (some ⟨q, 0, none⟩))), (fun v _ => v = (.pointer (some ⟨q, 2, none⟩))), (fun v _ => v = (.map (some mb))), (fun v _ => v = (.int .u8 k)), (fun v _ => v = (.string kx)), (fun v _ => v = (.tuple #[.string tv, .bool tb])), (fun v _ => v = (.tuple #[.string tv, .bool tb])), (fun v _ => v = (.string tv)), (fun v _ => v = (.bool tb)), (fun v _ => v = (.string tv)), (fun v _ => v = (.bool tb))]) [] (fun _ => True) (by kernel_rfl) (fkept_at ⟨FKept.eq _, FKept.eq _, FKept.eq _, FKept.eq _, FKept.eq _, FKept.eq _, FKept.eq _, FKept.eq _, FKept.eq _, FKept.eq _, FKept.eq _, FKept.eq _, trivial⟩) (fun _ _ h _ => h) trivial (by kernel_rfl) (by kernel_rfl) (by kernel_rfl) (by kernel_rfl) (Nat.le_of_ble_eq_true (by kernel_rfl)) ?_ ⟨?_, ?_, ?_, ?_, ?_, ?_, ?_, ?_, ?_, ?_, ?_, ?_, trivial⟩ ?_
      · first | exact trivial | assumption
      · intro T w Q hu hs hv hw hd
        have hx0 : T.getD 0 undef = (.pointer (some ⟨q, 0, none⟩)) := hv 0 (by kernel_rfl)
        refine .inl ⟨wanted_none rfl, ?_⟩
        clear hd hv hu hs hw
        go_simp
        exact ⟨_, rfl, DstOk.some rfl, Below.refl _ _, rfl⟩
      · intro T w Q hu hs hv hw hd
        have hx21 : T.getD 21 undef = (.pointer (some ⟨q, 0, none⟩)) := Deps.at 0 hd (by kernel_rfl)
        refine .inl ⟨wanted_none rfl, ?_⟩
        clear hd hv hu hs hw
        go_simp
        exact ⟨_, rfl, DstOk.some rfl, Below.refl _ _, rfl⟩
      · intro T w Q hu hs hv hw hd
        have hx22 : T.getD 22 undef = (.pointer (some ⟨q, 0, none⟩)) := Deps.at 1 hd (by kernel_rfl)
        refine .inl ⟨wanted_none rfl, ?_⟩
        clear hd hv hu hs hw
        go_simp
        exact ⟨_, rfl, DstOk.some rfl, Below.refl _ _, rfl⟩
      · intro T w Q hu hs hv hw hd
        have hx23 : T.getD 23 undef = (.pointer (some ⟨q, 2, none⟩)) := Deps.at 2 hd (by kernel_rfl)
        refine .inl ⟨wanted_none rfl, ?_⟩
        have hq := hu.cell cmb.out id
        clear hd hv hu hs hw
        go_simp
        exact ⟨_, rfl, DstOk.some rfl, Below.refl _ _, rfl⟩
      · intro T w Q hu hs hv hw hd
        have hx7 : T.getD 7 undef = (.int .u8 k) := hv 7 (by kernel_rfl)
        refine .inl ⟨wanted_none rfl, ?_⟩
        clear hd hv hu hs hw
        go_simp
        exact ⟨_, rfl, DstOk.some rfl, Below.refl _ _, rfl⟩
      · intro T w Q hu hs hv hw hd
        have hx25 : T.getD 25 undef = (.int .u8 k) := Deps.at 4 hd (by kernel_rfl)
        refine .inl ⟨wanted_none rfl, ?_⟩
        have hN := hkey.out w
        clear hd hv hu hs hw
        go_simp
        refine hN.mono ?_
        rintro e w5 ⟨rfl, hb⟩
        exact ⟨_, rfl, DstOk.some rfl, hb, rfl⟩
      · intro T w Q hu hs hv hw hd
        have hx24 : T.getD 24 undef = (.map (some mb)) := Deps.at 3 hd (by kernel_rfl)
        have hx26 : T.getD 26 undef = (.string kx) := Deps.at 5 hd (by kernel_rfl)
        refine .inl ⟨wanted_none rfl, ?_⟩
        have hN := hget.out w hu
        clear hd hv hu hs hw
        go_simp
        refine hN.mono ?_
        rintro e w5 ⟨rfl, hb⟩
        exact ⟨_, rfl, DstOk.some rfl, hb, rfl⟩
      · intro T w Q hu hs hv hw hd
        have hx27 : T.getD 27 undef = (.tuple #[.string tv, .bool tb]) := Deps.at 6 hd (by kernel_rfl)
        refine .inl ⟨wanted_none rfl, ?_⟩
        clear hd hv hu hs hw
        go_simp
        exact ⟨_, rfl, DstOk.some rfl, Below.refl _ _, rfl⟩
      · intro T w Q hu hs hv hw hd
        have hx20 : T.getD 20 undef = (.tuple #[.string tv, .bool tb]) := Deps.at 7 hd (by kernel_rfl)
        refine .inl ⟨wanted_none rfl, ?_⟩
        clear hd hv hu hs hw
        go_simp
        exact ⟨_, rfl, DstOk.some rfl, Below.refl _ _, rfl⟩
      · intro T w Q hu hs hv hw hd
        have hx20 : T.getD 20 undef = (.tuple #[.string tv, .bool tb]) := Deps.at 7 hd (by kernel_rfl)
        refine .inl ⟨wanted_none rfl, ?_⟩
        clear hd hv hu hs hw
        go_simp
        exact ⟨_, rfl, DstOk.some rfl, Below.refl _ _, rfl⟩
      · intro T w Q hu hs hv hw hd
        have hx28 : T.getD 28 undef = (.string tv) := Deps.at 8 hd (by kernel_rfl)
        refine .inl ⟨wanted_none rfl, ?_⟩
        clear hd hv hu hs hw
        go_simp
        exact ⟨_, rfl, DstOk.some rfl, Below.refl _ _, rfl⟩
      · intro T w Q hu hs hv hw hd
        have hx29 : T.getD 29 undef = (.bool tb) := Deps.at 9 hd (by kernel_rfl)
        refine .inl ⟨wanted_none rfl, ?_⟩
        clear hd hv hu hs hw
        go_simp
        exact ⟨_, rfl, DstOk.some rfl, Below.refl _ _, rfl⟩
      intro T w hu hs hv hf hcur
      have hT : T = #[T.getD 0 undef, T.getD 1 undef, T.getD 2 undef, T.getD 3 undef, T.getD 4 undef, T.getD 5 undef, T.getD 6 undef, T.getD 7 undef, T.getD 8 undef, T.getD 9 undef, T.getD 10 undef, T.getD 11 undef, T.getD 12 undef, T.getD 13 undef, T.getD 14 undef, T.getD 15 undef, T.getD 16 undef, T.getD 17 undef, T.getD 18 undef, T.getD 19 undef, T.getD 20 undef, T.getD 21 undef, T.getD 22 undef, T.getD 23 undef, T.getD 24 undef, T.getD 25 undef, T.getD 26 undef, T.getD 27 undef, T.getD 28 undef, T.getD 29 undef, T.getD 30 undef, T.getD 31 undef, T.getD 32 undef, T.getD 33 undef, T.getD 34 undef, T.getD 35 undef, T.getD 36 undef, T.getD 37 undef, T.getD 38 undef, T.getD 39 undef, T.getD 40 undef, T.getD 41 undef, T.getD 42 undef, T.getD 43 undef, T.getD 44 undef, T.getD 45 undef, T.getD 46 undef, T.getD 47 undef, T.getD 48 undef, T.getD 49 undef, T.getD 50 undef, T.getD 51 undef, T.getD 52 undef, T.getD 53 undef, T.getD 54 undef, T.getD 55 undef, T.getD 56 undef, T.getD 57 undef, T.getD 58 undef, T.getD 59 undef, T.getD 60 undef, T.getD 61 undef, T.getD 62 undef, T.getD 63 undef, T.getD 64 undef, T.getD 65 undef, T.getD 66 undef, T.getD 67 undef, T.getD 68 undef, T.getD 69 undef, T.getD 70 undef, T.getD 71 undef, T.getD 72 undef, T.getD 73 undef, T.getD 74 undef, T.getD 75 undef, T.getD 76 undef, T.getD 77 undef, T.getD 78 undef, T.getD 79 undef, T.getD 80 undef, T.getD 81 undef, T.getD 82 undef, T.getD 83 undef, T.getD 84 undef, T.getD 85 undef, T.getD 86 undef, T.getD 87 undef, T.getD 88 undef, T.getD 89 undef, T.getD 90 undef, T.getD 91 undef, T.getD 92 undef, T.getD 93 undef, T.getD 94 undef, T.getD 95 undef, T.getD 96 undef, T.getD 97 undef, T.getD 98 undef, T.getD 99 undef, T.getD 100 undef, T.getD 101 undef, T.getD 102 undef, T.getD 103 undef, T.getD 104 undef, T.getD 105 undef, T.getD 106 undef, T.getD 107 undef, T.getD 108 undef, T.getD 109 undef, T.getD 110 undef, T.getD 111 undef, T.getD 112 undef, T.getD 113 undef, T.getD 114 undef, T.getD 115 undef, T.getD 116 undef, T.getD 117 undef, T.getD 118 undef, T.getD 119 undef, T.getD 120 undef, T.getD 121 undef] := expl hs
      rw [hT]
      clear hT
      rw [show T.getD 0 undef = (.pointer (some ⟨q, 0, none⟩)) from hv 0 (by kernel_rfl)]
      rw [show T.getD 1 undef = (.map (some mp)) from hv 1 (by kernel_rfl)]
      rw [hv 2 (by kernel_rfl)]
      rw [hv 3 (by kernel_rfl)]
      rw [hv 4 (by kernel_rfl)]
      rw [hv 5 (by kernel_rfl)]
      rw [hv 6 (by kernel_rfl)]
      rw [show T.getD 7 undef = (.int .u8 k) from hv 7 (by kernel_rfl)]
      rw [show T.getD 8 undef = (.string tv) from hf 10 (by decide)]
      rw [show T.getD 9 undef = (.bool tb) from hf 11 (by decide)]
      rw [hv 10 (by kernel_rfl)]
      rw [hv 11 (by kernel_rfl)]
      rw [hv 12 (by kernel_rfl)]
      rw [hv 13 (by kernel_rfl)]
      rw [hv 14 (by kernel_rfl)]
      rw [hv 15 (by kernel_rfl)]
      rw [hv 16 (by kernel_rfl)]
      rw [hv 17 (by kernel_rfl)]
      rw [hv 18 (by kernel_rfl)]
      rw [hv 19 (by kernel_rfl)]
      rw [show T.getD 20 undef = (.tuple #[.string tv, .bool tb]) from hf 7 (by decide)]
      rw [show T.getD 21 undef = (.pointer (some ⟨q, 0, none⟩)) from hf 0 (by decide)]
      rw [show T.getD 22 undef = (.pointer (some ⟨q, 0, none⟩)) from hf 1 (by decide)]
      rw [show T.getD 23 undef = (.pointer (some ⟨q, 2, none⟩)) from hf 2 (by decide)]
      rw [show T.getD 24 undef = (.map (some mb)) from hf 3 (by decide)]
      rw [show T.getD 25 undef = (.int .u8 k) from hf 4 (by decide)]
      rw [show T.getD 26 undef = (.string kx) from hf 5 (by decide)]
      rw [show T.getD 27 undef = (.tuple #[.string tv, .bool tb]) from hf 6 (by decide)]
      rw [show T.getD 28 undef = (.string tv) from hf 8 (by decide)]
      rw [show T.getD 29 undef = (.bool tb) from hf 9 (by decide)]
      rw [hv 30 (by kernel_rfl)]
      rw [hv 31 (by kernel_rfl)]
      rw [hv 32 (by kernel_rfl)]
      rw [hv 33 (by kernel_rfl)]
      rw [hv 34 (by kernel_rfl)]
      rw [hv 35 (by kernel_rfl)]
      rw [hv 36 (by kernel_rfl)]
      rw [hv 37 (by kernel_rfl)]
      rw [hv 38 (by kernel_rfl)]
      rw [hv 39 (by kernel_rfl)]
      rw [hv 40 (by kernel_rfl)]
      rw [hv 41 (by kernel_rfl)]
      rw [hv 42 (by kernel_rfl)]
      rw [hv 43 (by kernel_rfl)]
      rw [hv 44 (by kernel_rfl)]
      rw [hv 45 (by kernel_rfl)]
      rw [hv 46 (by kernel_rfl)]
      rw [hv 47 (by kernel_rfl)]
      rw [hv 48 (by kernel_rfl)]
      rw [hv 49 (by kernel_rfl)]
      rw [hv 50 (by kernel_rfl)]
      rw [hv 51 (by kernel_rfl)]
      rw [hv 52 (by kernel_rfl)]
      rw [hv 53 (by kernel_rfl)]
      rw [hv 54 (by kernel_rfl)]
      rw [hv 55 (by kernel_rfl)]
      rw [hv 56 (by kernel_rfl)]
      rw [hv 57 (by kernel_rfl)]
      rw [hv 58 (by kernel_rfl)]
      rw [hv 59 (by kernel_rfl)]
      rw [hv 60 (by kernel_rfl)]
      rw [hv 61 (by kernel_rfl)]
      rw [hv 62 (by kernel_rfl)]
      rw [hv 63 (by kernel_rfl)]
      rw [hv 64 (by kernel_rfl)]
      rw [hv 65 (by kernel_rfl)]
      rw [hv 66 (by kernel_rfl)]
      rw [hv 67 (by kernel_rfl)]
      rw [hv 68 (by kernel_rfl)]
      rw [hv 69 (by kernel_rfl)]
      rw [hv 70 (by kernel_rfl)]
      rw [hv 71 (by kernel_rfl)]
      rw [hv 72 (by kernel_rfl)]
      rw [hv 73 (by kernel_rfl)]
      rw [hv 74 (by kernel_rfl)]
      rw [hv 75 (by kernel_rfl)]
      rw [hv 76 (by kernel_rfl)]
      rw [hv 77 (by kernel_rfl)]
      rw [hv 78 (by kernel_rfl)]
      rw [hv 79 (by kernel_rfl)]
      rw [hv 80 (by kernel_rfl)]
      rw [hv 81 (by kernel_rfl)]
      rw [hv 82 (by kernel_rfl)]
      rw [hv 83 (by kernel_rfl)]
      rw [hv 84 (by kernel_rfl)]
      rw [hv 85 (by kernel_rfl)]
      rw [hv 86 (by kernel_rfl)]
      rw [hv 87 (by kernel_rfl)]
      rw [hv 88 (by kernel_rfl)]
      rw [hv 89 (by kernel_rfl)]
      rw [hv 90 (by kernel_rfl)]
      rw [hv 91 (by kernel_rfl)]
      rw [hv 92 (by kernel_rfl)]
      rw [hv 93 (by kernel_rfl)]
      rw [hv 94 (by kernel_rfl)]
      rw [hv 95 (by kernel_rfl)]
      rw [hv 96 (by kernel_rfl)]
      rw [hv 97 (by kernel_rfl)]
      rw [hv 98 (by kernel_rfl)]
      rw [hv 99 (by kernel_rfl)]
      rw [hv 100 (by kernel_rfl)]
      rw [hv 101 (by kernel_rfl)]
      rw [hv 102 (by kernel_rfl)]
      rw [hv 103 (by kernel_rfl)]
      rw [hv 104 (by kernel_rfl)]
      rw [hv 105 (by kernel_rfl)]
      rw [hv 106 (by kernel_rfl)]
      rw [hv 107 (by kernel_rfl)]
      rw [hv 108 (by kernel_rfl)]
      rw [hv 109 (by kernel_rfl)]
      rw [hv 110 (by kernel_rfl)]
      rw [hv 111 (by kernel_rfl)]
      rw [hv 112 (by kernel_rfl)]
      rw [hv 113 (by kernel_rfl)]
      rw [hv 114 (by kernel_rfl)]
      rw [hv 115 (by kernel_rfl)]
      rw [hv 116 (by kernel_rfl)]
      rw [hv 117 (by kernel_rfl)]
      rw [hv 118 (by kernel_rfl)]
      rw [hv 119 (by kernel_rfl)]
      rw [hv 120 (by kernel_rfl)]
      rw [hv 121 (by kernel_rfl)]
      clear hf hs hv hcur
      simp only [getD_toArray, List.getD_cons_succ, List.getD_cons_zero]
      clear T
      have hbw1 := hide (hbw.out.trans (hu.below hbw.out.size fun _ h => h.elim))
      obtain ⟨D, d1, d2, d3⟩ := hm1.out.upd hu id
      obtain ⟨m5, m6⟩ := d3 kx.data.toList
      have hky := key_str (s := kx) (by omega)
      have hsz := hu.size
      have hsum := keysOf_sum hbm.out k
      have hkl := keysOf_len M k
      have hsc := keysOf_succ M k hlt
      rw [hkx.out] at hsc
      have hbx := hbm.out kx.data.toList
      have m7 := m6 (.held (.string ByteArray.empty))
      have hkw := hkey.out w
      replace hkw := hide hkw
      replace d1 := hide d1
      replace d3 := hide d3
      replace d2 := hide d2
      replace m6 := hide m6
      clear hu
      cases hMx : M kx.data.toList with
      | none =>
        rw [hMx] at m5 m7 hsc
        simp only [Option.isSome_none, Bool.false_eq_true, if_false, List.append_nil] at m5 hsc
        replace m7 := hide m7
        replace hsc := hide hsc
        replace hMx := hide hMx
        go_wp2_with fail
        refine hkw.out.mono ?_
        rintro e w6 ⟨rfl, g6⟩
        have d6 := ownsS_upd d1.out (Upd.of_below (fun _ => False) g6) id
        have hbw6 := hide (hbw1.out.trans (g6.mono hbw1.out.size))
        clear hkw g6
        cases tb with
        | false =>
          have htv0 : tv = ByteArray.empty := by
            have h1 := htb.out
            rw [htv.out]
            cases hT : T kx.data.toList with
            | none => rfl
            | some u => rw [hT] at h1; cases h1
          subst htv0
          go_wp2_with (at_lookup; refine wpList_lookup_own_ok _ rfl _ _ 31 rfl 9 9 str_key Tryz.underlying31 heldS (zero_str _) (.held (.string ByteArray.empty)) [] rfl mp n2 D rfl d6 _ _ rfl hky ?_; intro v ps hv; rw [m5]; rw [m7.out] at hv; obtain rfl := heldS_val hv)
          go_roundw
          case rel => exact ⟨k + 1, hlt, by go_num, by rw [hsc.out], by rw [hsc.out], hbw6.out⟩
          case measure => simp [intOf]; omega
        | true =>
          go_wp2_with (at_lookup; refine wpList_lookup_own_ok _ rfl _ _ 31 rfl 9 9 str_key Tryz.underlying31 heldS (zero_str _) (.held (.string ByteArray.empty)) [] rfl mp n2 D rfl d6 _ _ rfl hky ?_; intro v ps hv; rw [m5]; rw [m7.out] at hv; obtain rfl := heldS_val hv)
          go_ret
          refine ⟨false, rfl, fun e _ => ?_, hbw6.out⟩
          have h1 := htb.out
          rw [e, hMx.out] at h1
          cases h1
      | some v0 =>
        rw [hMx] at m5 m7 hsc
        simp only [Option.isSome_some, if_true] at m5 hsc
        have hv0 := hbx _ hMx
        unfold entS at m7
        replace m7 := hide m7
        have hsn := sumT_snoc M (keysOf M k) kx.data.toList
        rw [← hsc, hMx] at hsn
        simp only [Option.getD_some, Array.length_toList] at hsn
        have hln : (keysOf M (k + 1)).length = (keysOf M k).length + 1 := by rw [hsc]; simp
        replace hsn := hide hsn
        replace hln := hide hln
        replace hsc := hide hsc
        replace hMx := hide hMx
        go_wp2_with fail
        refine hkw.out.mono ?_
        rintro e w6 ⟨rfl, g6⟩
        have d6 := ownsS_upd d1.out (Upd.of_below (fun _ => False) g6) id
        have hbw6 := hide (hbw1.out.trans (g6.mono hbw1.out.size))
        have hkw6 := hide (hkey.out w6)
        clear hkw g6
        cases tb with
        | false =>
          go_wp2_with (at_lookup; refine wpList_lookup_own_ok _ rfl _ _ 31 rfl 9 9 str_key Tryz.underlying31 heldS (zero_str _) (.held (.string ByteArray.empty)) [] rfl mp n2 D rfl d6 _ _ rfl hky ?_; intro v ps hv; rw [m5]; rw [m7.out] at hv; obtain rfl := heldS_val hv)
          go_ret
          refine ⟨false, rfl, fun e _ => ?_, hbw6.out⟩
          have h1 := htb.out
          rw [e, hMx.out] at h1
          cases h1
        | true =>
          by_cases hvv : tv = v0
          · subst hvv
            go_wp2_with (at_lookup; refine wpList_lookup_own_ok _ rfl _ _ 31 rfl 9 9 str_key Tryz.underlying31 heldS (zero_str _) (.held (.string ByteArray.empty)) [] rfl mp n2 D rfl d6 _ _ rfl hky ?_; intro v ps hv; rw [m5]; rw [m7.out] at hv; obtain rfl := heldS_val hv)
            refine hkw6.out.mono ?_
            rintro e w7 ⟨rfl, g7⟩
            have hbw7 := hide (hbw6.out.trans (g7.mono hbw6.out.size))
            clear g7
            go_wp2_with fail
            go_roundw
            case rel => exact ⟨k + 1, hlt, by go_num, by rw [hln.out]; go_num, by rw [hsn.out]; go_num, hbw7.out⟩
            case measure => simp [intOf]; omega
          · have hdx : (tv.toList == v0.toList) = false := by rw [beq_strs]; simpa using hvv
            go_wp2_with (at_lookup; refine wpList_lookup_own_ok _ rfl _ _ 31 rfl 9 9 str_key Tryz.underlying31 heldS (zero_str _) (.held (.string ByteArray.empty)) [] rfl mp n2 D rfl d6 _ _ rfl hky ?_; intro v ps hv; rw [m5]; rw [m7.out] at hv; obtain rfl := heldS_val hv)
            go_ret
            refine ⟨false, rfl, fun e _ => ?_, hbw6.out⟩
            have h1 := htv.out
            rw [e, hMx.out] at h1
            exact absurd h1 hvv
    · obtain rfl : k = 7 := by omega
      have hst1 := hst.out.upd huw id
      have ht1 := ht.out.upd huw id
      have c1 := hst1.cell 2
      have hK := keysT_any ht1 hn ⟨#[]⟩
      replace hst1 := hide hst1
      replace ht1 := hide ht1
      replace hK := hide hK
      replace hbw := hide hbw
      clear huw
      go_wp2_with fail
      refine hK.out.mono ?_
      rintro e w5 ⟨v5, ks, rfl, hks, hkv, g5⟩
      have hu5 := Upd.of_below (fun _ => False) g5
      have hst5 := hst1.out.upd hu5 id
      have ht5 := ht1.out.upd hu5 id
      have hb5 := hbw.out.trans (g5.mono hbw.out.size)
      have ha5 := hkv.arg
      obtain ⟨kb, hkb⟩ : ∃ kb, kb = ks.map fun x => (⟨x.toArray⟩ : ByteArray) := ⟨_, rfl⟩
      have hlt2 : ∀ j (h : j + 1 < kb.length), Op.bytesLess kb[j].toList kb[j + 1].toList = true := keys_less hks hkb
      rw [← hkb] at ha5
      obtain ⟨A5, c5, rfl, e1, e2, -⟩ := id ha5
      rw [List.length_map] at e1 ⊢
      have e3 : c5 ≤ 9223372036854775807 := by unfold maxLen at e2; exact e2
      replace hlt2 := hide hlt2
      replace ha5 := hide ha5
      replace hkb := hide hkb
      replace hks := hide hks
      replace hst5 := hide hst5
      replace ht5 := hide ht5
      replace hb5 := hide hb5
      clear hK hkv g5 hst1 ht1 hbw hu5 c1 e2
      go_wp2_with fail
      go_loopw [13] (fun i wr => ∃ k : Nat, k ≤ kb.length ∧ i = .int .i64 ((k : Int) + 1) ∧ Below w5.heap.size w5 wr) (fun i _ => kb.length + 1 - (intOf i).toNat)
      case atStart => exact ⟨0, Nat.zero_le _, rfl, .refl _ _⟩
      case round =>
        obtain ⟨k, hk, rfl, hbw⟩ := hrel
        have huw := Upd.of_below (fun _ => False) hbw
        rcases Nat.lt_or_ge (k + 1) kb.length with hlt | hge
        · have ha6 := ha5.out.upd huw fun _ _ => id
          obtain ⟨g, o, rfl, hTg, c0⟩ := ha6.get (i := k + 1) (u := .string kb[k + 1]) (by simp [hlt])
          obtain ⟨g1, o1, e5, hTg1, c1⟩ := ha6.get (i := k) (u := .string kb[k]) (by rw [List.getElem?_map, List.getElem?_eq_getElem (by omega)]; rfl)
          obtain ⟨rfl, rfl⟩ : g = g1 ∧ o = o1 := by injection e5 with e5; injection e5 with e6 e7; exact ⟨e6, e7⟩
          have hl1 := hlt2.out k hlt
          generalize kb[k] = y at *
          generalize kb[k + 1] = x at *
          replace ha6 := hide ha6
          replace hbw := hide hbw
          clear huw e5
          have hkl : (k : Int) + 1 < (kb.length : Int) := by omega
          go_wp2_with fail
          go_quiet (fail)
          go_wp2_with fail
          go_roundw
          case rel => exact ⟨k + 1, by omega, by go_num, below_drewN hbw.out _⟩
          case measure => simp [intOf]; omega
        · have hbw' := hide hbw
          clear huw hbw
          have hkge : ¬ (k : Int) + 1 < (kb.length : Int) := by omega
          go_wp2_with fail
          go_loopw [14, 15] (fun b i wr => ∃ k : Nat, k ≤ kb.length ∧ i = .int .i64 k ∧ b = .int .i64 ((kb.take k).filter fun s => [97, 47].isPrefixOf s.data.toList).length ∧ Below w5.heap.size w5 wr) (fun _ i _ => kb.length - (intOf i).toNat)
          case atStart => exact ⟨0, Nat.zero_le _, rfl, rfl, hbw'.out⟩
          case round =>
            obtain ⟨m, hm, rfl, rfl, hbm2⟩ := hrel
            have hum := Upd.of_below (fun _ => False) hbm2
            have hfl : ((kb.take m).filter fun s => [97, 47].isPrefixOf s.data.toList).length ≤ m := by
              refine Nat.le_trans (List.length_filter_le _ _) ?_
              rw [List.length_take]; omega
            rcases Nat.lt_or_ge m kb.length with hlt | hge2
            · have ha6 := ha5.out.upd hum fun _ _ => id
              obtain ⟨g, o, rfl, hTg, c0⟩ := ha6.get (i := m) (u := .string kb[m]) (by simp [hlt])
              have htk : ((kb.take (m + 1)).filter fun s => [97, 47].isPrefixOf s.data.toList).length = ((kb.take m).filter fun s => [97, 47].isPrefixOf s.data.toList).length + (if [97, 47].isPrefixOf kb[m].data.toList then 1 else 0) := by
                rw [List.take_succ_eq_append_getElem hlt, List.filter_append, List.length_append]
                simp [List.filter_cons]
                split <;> rfl
              generalize kb[m] = x at *
              generalize ((kb.take m).filter fun s => [97, 47].isPrefixOf s.data.toList).length = fl at *
              replace ha6 := hide ha6
              replace hbm2 := hide hbm2
              replace htk := hide htk
              clear hum
              by_cases hx : 2 ≤ x.size
              · have hcut := prefixIff x ⟨#[97, 47]⟩
                rw [show (⟨#[97, 47]⟩ : ByteArray).size = 2 from rfl, show (⟨#[97, 47]⟩ : ByteArray).toList = [97, 47] by kernel_rfl, show (⟨#[97, 47]⟩ : ByteArray).data.toList = [97, 47] from rfl] at hcut
                cases hpf : [97, 47].isPrefixOf x.data.toList with
                | true =>
                  rw [hpf] at hcut
                  have ht2 := htk.out
                  rw [hpf] at ht2
                  replace ht2 := hide ht2
                  go_wp2_with fail
                  go_roundw
                  case rel => exact ⟨m + 1, hlt, by go_num, by rw [ht2.out]; go_num, hbm2.out⟩
                  case measure => simp [intOf]; omega
                | false =>
                  rw [hpf] at hcut
                  have ht2 := htk.out
                  rw [hpf] at ht2
                  replace ht2 := hide ht2
                  go_wp2_with fail
                  go_roundw
                  case rel => exact ⟨m + 1, hlt, by go_num, by rw [ht2.out]; rfl, hbm2.out⟩
                  case measure => simp [intOf]; omega
              · have hpf := prefixShort (x := x) (pre := ⟨#[97, 47]⟩) hx
                have ht2 := htk.out
                rw [show [97, 47].isPrefixOf x.data.toList = false from hpf] at ht2
                replace ht2 := hide ht2
                go_wp2_with fail
                go_roundw
                case rel => exact ⟨m + 1, hlt, by go_num, by rw [ht2.out]; rfl, hbm2.out⟩
                case measure => simp [intOf]; omega
            · obtain rfl : m = kb.length := by omega
              rw [List.take_length]
              have hst6 := hst5.out.upd hum id
              have ht6 := ht5.out.upd hum id
              have hb6 := hb5.out.trans (hbm2.mono hb5.out.size)
              have c6 := hst6.cell 2
              have hsi := sizeT_any ht6 hn hbd.out
              obtain ⟨kn, hkn⟩ : ∃ kn, kn = (keysOf M 7).length := ⟨_, rfl⟩
              obtain ⟨ksum, hksum⟩ : ∃ ksum, ksum = sumT M (keysOf M 7) := ⟨_, rfl⟩
              obtain ⟨fl, hflq⟩ : ∃ fl, fl = (kb.filter fun s => [97, 47].isPrefixOf s.data.toList).length := ⟨_, rfl⟩
              rw [← hkn, ← hksum, ← hflq]
              replace hkn := hide hkn
              replace hksum := hide hksum
              replace hflq := hide hflq
              replace hst6 := hide hst6
              replace ht6 := hide ht6
              replace hb6 := hide hb6
              replace hsi := hide hsi
              clear hum hbm2 hfl
              by_cases hq1 : kb.length = kn
              case neg =>
                have hd1 : ((kb.length : Int) == (kn : Int)) = false := by
                  rw [beq_eq_false_iff_ne]
                  omega
                go_wp2_with fail
                go_ret
                refine ⟨false, rfl, fun e hd => ?_, hb6.out⟩
                have hp := (keysOf_perm hks.out.nodup (fun x => by rw [hks.out.mem]; simp) hd).length_eq
                rw [e, ← hkn.out] at hp
                refine absurd ?_ hq1
                rw [hkb.out, List.length_map]
                exact hp
              have hd1 : ((kb.length : Int) == (kn : Int)) = true := by rw [hq1]; simp
              replace hq1 := hide hq1
              go_wp2_with fail
              refine hsi.out.mono ?_
              rintro e w7 ⟨ss, hn1, hm1, rfl, g7⟩
              have hu7 := Upd.of_below (fun _ => False) g7
              have hst7 := hst6.out.upd hu7 id
              have ht7 := ht6.out.upd hu7 id
              have hb7 := hb6.out.trans (g7.mono hb6.out.size)
              have c7 := hst7.cell 2
              have hK2 := keysT_any ht7 hn ⟨#[97, 47]⟩
              obtain ⟨sm, hsm⟩ : ∃ sm, sm = sumT T ss := ⟨_, rfl⟩
              rw [← hsm]
              replace hsm := hide hsm
              replace hn1 := hide hn1
              replace hm1 := hide hm1
              replace hst7 := hide hst7
              replace ht7 := hide ht7
              replace hb7 := hide hb7
              replace hK2 := hide hK2
              clear hsi c6 hst6 ht6 hb6 hu7 g7
              by_cases hq2 : sm = ksum
              case neg =>
                have hd2 : ((sm : Int) == (ksum : Int)) = false := by
                  rw [beq_eq_false_iff_ne]
                  omega
                go_wp2_with fail
                go_ret
                refine ⟨false, rfl, fun e hd => ?_, hb7.out⟩
                have hp := sumT_perm (T := T) (keysOf_perm hn1.out hm1.out hd)
                refine absurd ?_ hq2
                rw [hsm.out, hksum.out, hp, e]
              have hd2 : ((sm : Int) == (ksum : Int)) = true := by rw [hq2]; simp
              replace hq2 := hide hq2
              go_wp2_with fail
              refine hK2.out.mono ?_
              rintro e w8 ⟨v8, ks2, rfl, hks2, hkv2, g8⟩
              have hb8 := hide (hb7.out.trans (g8.mono hb7.out.size))
              obtain ⟨A8, c8, rfl, -⟩ := id hkv2.arg
              simp only [List.length_map]
              have hd3 : ((ks2.length : Int) == (fl : Int)) = true := by
                rw [beq_iff_eq, keys_below hks.out hks2, hflq.out, hkb.out, List.filter_map, List.length_map]
                rfl
              replace hks2 := hide hks2
              clear hkv2 g8
              go_wp2_with fail
              go_ret
              exact ⟨true, rfl, fun _ _ => rfl, hb8.out⟩
end Go.Proofs.YtpnboihbifhigaaGreatDoor
