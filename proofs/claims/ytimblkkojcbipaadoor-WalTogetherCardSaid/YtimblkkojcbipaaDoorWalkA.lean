/- Walks of package sum's functions: what each call answers, and that it leaves the world alone. -/
import Derived.Test.YtimblkkojcbipaaDoorRows
import Derived.Test.YtimblkkojcbipaaDoorMem
import Derived.Test.YtimblkkojcbipaaDoorMath
import Derived.WalkSpells
import Derived.WalkLawsBesides
import Derived.Handy
namespace Go.Proofs.YtimblkkojcbipaaDoor
open Go.RowKit Sums

theorem ret_num {k : IntKind} {a b : Int} (h : a = b) : Ending.returned (.int k a) = .returned (.int k b) := by rw [h]

/-- The program's table, as its cells hold it. -/
def Tab (w : World) : Prop := ∀ i x, tab[i]? = some x → w.cell? ⟨0, i, none⟩ = some (.int .u32 (x : Nat))
theorem Tab.below {w w' : World} {B : Nat} (h : Tab w) (hB : 0 < B) (hb : Below B w w') : Tab w' := fun i x hx => (hb.cell (p := ⟨0, i, none⟩) hB).trans (h i x hx)

theorem tab_lt : ∀ i, i < 16 → tab.getD i 0 < 4294967296 := by decide
/-- What the walk meets at one look into the table. -/
theorem nib_pack {w : World} (hT : Tab w) (x : Nat) (hx : x < 4294967296) :
    ∃ a t y : Nat, a < 16 ∧ bits .and .u32 (x : Int) 15 = (a : Int) ∧ w.cell? ⟨0, a, none⟩ = some (.int .u32 (t : Int)) ∧ bits .xor .u32 ((x : Int) / 16) (t : Int) = (y : Int) ∧ y = nib x ∧ y < 4294967296 := by
  have ha : x % 16 < 16 := Nat.mod_lt _ (by decide)
  refine ⟨x % 16, tab.getD (x % 16) 0, nib x, ha, ?_, ?_, ?_, rfl, nib_lt hx⟩
  · have := u32_and_nat x 15 hx (by decide)
    rw [show (15 : Nat) = 2 ^ 4 - 1 from rfl, Nat.and_two_pow_sub_one_eq_mod] at this
    exact this
  · refine hT _ _ ?_
    have hl : x % 16 < tab.length := ha
    rw [List.getD_eq_getElem?_getD, List.getElem?_eq_getElem hl]; rfl
  · have := u32_xor_nat (x / 16) (tab.getD (x % 16) 0) (by omega) (tab_lt _ ha)
    rw [show ((x : Int) / 16) = ((x / 16 : Nat) : Int) by omega]
    exact this

theorem crcL_snoc (c : Nat) (l : List UInt8) (k : Nat) (h : k < l.length) : crcL c (l.take (k + 1)) = nib (nib (crcL c (l.take k) ^^^ l[k].toNat)) := by
  rw [List.take_succ_eq_append_getElem h, crcL, List.foldl_append]; rfl

set_option maxHeartbeats 400000 in
theorem addToCrc_any (c : Nat) (v : Value) (l : List UInt8) (w : World) (B : Nat) (hc : c < 4294967296) (hv : BytesV w B v l) (hT : Tab w) :
    Calls Tryd.prog 89 #[.int .u32 c, v] w fun e w' => e = .returned (.int .u32 (crcL c l : Nat)) ∧ w = w' := by
  obtain ⟨A, cap, rfl, h1, h2, hs⟩ := hv
  unfold maxLen at h2
  go_enter Tryd.func89, Tryd.ntmps89
  go_wp2
  go_loop [0, 9] (fun x i => ∃ k : Nat, k ≤ l.length ∧ i = .int .i64 k ∧ x = .int .u32 (crcL c (l.take k) : Nat)) (fun _ i => l.length - (intOf i).toNat)
  case atStart => exact ⟨0, Nat.zero_le _, rfl, rfl⟩
  case round =>
    obtain ⟨k, hk, rfl, rfl⟩ := hrel
    have hcl : crcL c (l.take k) < 4294967296 := crcL_lt _ hc
    by_cases hlt : k < l.length
    · obtain ⟨b, o, rfl, _, hcell⟩ := hs.get (bv_get hlt)
      have hsn := crcL_snoc c l k hlt
      generalize crcL c (l.take k) = c' at *
      have hb := l[k].toNat_lt
      generalize l[k].toNat = m at *
      have hX := u32_xor_nat c' m hcl (by omega)
      have hxl : c' ^^^ m < 4294967296 := Nat.xor_lt_two_pow (n := 32) (by omega) (by omega)
      generalize c' ^^^ m = x at *
      obtain ⟨a, t, y, ha, hA, hC, hY, hy, hyl⟩ := nib_pack hT x hxl
      obtain ⟨a2, t2, z, ha2, hA2, hC2, hZ, hz, hzl⟩ := nib_pack hT y hyl
      rw [← hy, ← hz] at hsn
      replace hsn := hide hsn
      replace hy := hide hy
      replace hz := hide hz
      clear hT hs
      go_wp2
      go_round
      case rel => exact ⟨k + 1, by omega, by go_num, by rw [hsn.out]⟩
      case measure => simp [intOf]; omega
    · go_wp2
      go_ret
      obtain rfl : k = l.length := by omega
      exact ⟨ret_num (by rw [List.take_of_length_le (Nat.le_refl _)]), rfl⟩

theorem crcLs_snoc (c : Nat) (ls : List (List UInt8)) (k : Nat) (h : k < ls.length) : crcLs c (ls.take (k + 1)) = crcL (crcLs c (ls.take k)) ls[k] := by
  rw [List.take_succ_eq_append_getElem h, crcLs, List.foldl_append]; rfl

theorem crc_end (ls : List (List UInt8)) : bits .xor .u32 IntKind.u32.max (crcLs 4294967295 ls : Nat) = (crc ls : Nat) :=
  u32_xor_nat 4294967295 _ (by decide) (crcLs_lt _ (by decide))
theorem crc_end' (ls : List (List UInt8)) : bits .xor .u32 IntKind.u32.max (crcLs 4294967295 (ls.take ls.length) : Nat) = (crc ls : Nat) := by
  rw [List.take_of_length_le (Nat.le_refl _)]; exact crc_end ls

set_option maxHeartbeats 400000 in
theorem crc_any (v : Value) (ls : List (List UInt8)) (w : World) (B : Nat) (hv : RowsV w B v ls) (hT : Tab w) :
    Calls Tryd.prog 83 #[v] w fun e w' => e = .returned (.int .u32 (crc ls : Nat)) ∧ w = w' := by
  obtain ⟨A, cap, vs, rfl, h1, h2, hs, hvs, hl⟩ := hv
  unfold maxLen at h2
  replace hvs := hide hvs
  replace hT := hide hT
  replace hl := hide hl
  go_enter Tryd.func83, Tryd.ntmps83
  go_wp2
  go_loop [3, 8] (fun x i => ∃ k : Nat, k ≤ ls.length ∧ i = .int .i64 k ∧ x = .int .u32 (crcLs 4294967295 (ls.take k) : Nat)) (fun _ i => ls.length - (intOf i).toNat)
  case atStart => exact ⟨0, Nat.zero_le _, rfl, rfl⟩
  case round =>
    obtain ⟨k, hk, rfl, rfl⟩ := hrel
    have hcl : crcLs 4294967295 (ls.take k) < 4294967296 := crcLs_lt _ (by decide)
    by_cases hlt : k < ls.length
    · have hkv : k < vs.length := by rw [hvs.out]; exact hlt
      obtain ⟨b, o, rfl, _, hcell⟩ := hs.get (List.getElem?_eq_getElem hkv)
      have hrow := hide (hl.out k _ _ (List.getElem?_eq_getElem hkv) (List.getElem?_eq_getElem hlt))
      have hsn := hide (crcLs_snoc 4294967295 ls k hlt)
      generalize crcLs 4294967295 (ls.take k) = c' at *
      generalize vs[k] = v' at *
      go_wp2_with (go_at_call 89; refine (addToCrc_any _ _ _ _ _ (by omega) hrow.out hT.out).mono ?_; rintro e w' ⟨rfl, rfl⟩)
      go_round
      case rel => exact ⟨k + 1, by omega, by go_num, by rw [hsn.out]⟩
      case measure => simp [intOf]; omega
    · obtain rfl : k = ls.length := by omega
      go_wp2
      go_ret
      exact ⟨ret_num (crc_end ls), rfl⟩
end Go.Proofs.YtimblkkojcbipaaDoor
