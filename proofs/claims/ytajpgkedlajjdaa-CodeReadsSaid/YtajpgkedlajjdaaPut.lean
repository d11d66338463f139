/- Walks: one summary by the writer; a part, as the document writes it. -/
import Derived.Test.YtajpgkedlajjdaaWSum
namespace Go.Proofs.Ytajpgkedlajjdaa
open Go.RowKit

def sumCells (xa : Value) (s : SumD) (xm : Value) : Array Value := #[xa, .bool s.ends, .bool s.ret.some, .int .i64 s.ret.lo, .int .i64 s.ret.hi, xm]

set_option maxRecDepth 100000 in
set_option maxHeartbeats 3200000 in
theorem wSummary_any (B p : Nat) (l : List UInt8) (v xa xm : Value) (s : SumD) (w : World) (b : Nat) (hc : ∀ i u, (sumCells xa s xm)[i]? = some u → w.cell? ⟨b, i, none⟩ = some u)
    (hxa : ArgN w (fun k => ¬ Fp p v k) xa s.alarms.length (s.alarms.map AlarmD.cells).flatten) (hxm : ArgN w (fun k => ¬ Fp p v k) xm s.mod.length (s.mod.map NamedD.cells).flatten) (hok : s.ok) (hl : s.light) (hW : Wr w B p l v) (hlen : l.length + 2000 ≤ 70368744177664) :
    Calls Try.prog 17 #[.pointer (some ⟨p, 0, none⟩), .slice (some ⟨b, 0, none⟩) 1 1] w fun e w' => e = .returned (.tuple #[]) ∧ ∃ v', WStep B p w v w' (l ++ s.bytes) v' := by
  have c0 : w.cell? ⟨b, 0, none⟩ = some xa := hc 0 _ rfl
  have c1 : w.cell? ⟨b, 1, none⟩ = some (.bool s.ends) := hc 1 _ rfl
  have c2 : w.cell? ⟨b, 2, none⟩ = some (.bool s.ret.some) := hc 2 _ rfl
  have c3 : w.cell? ⟨b, 3, none⟩ = some (.int .i64 s.ret.lo) := hc 3 _ rfl
  have c4 : w.cell? ⟨b, 4, none⟩ = some (.int .i64 s.ret.hi) := hc 4 _ rfl
  have c5 : w.cell? ⟨b, 5, none⟩ = some xm := hc 5 _ rfl
  clear hc
  obtain ⟨Aa, ca, rfl, -⟩ := hxa.slice
  obtain ⟨Am, cm, rfl, -⟩ := hxm.slice
  have hS := hide ((WStep.refl hW).alloc (.cells #[.pointer (some ⟨p, 0, none⟩)] 83))
  have hN := hide (fun o => wsummary_any B p l v _ _ s _ (hxa.upd (.of_below (fun _ => False) (((Below.refl w.heap.size w).alloc (Nat.le_refl _) (.cells #[.pointer (some ⟨p, 0, none⟩)] 83)).alloc (by simp) o)) fun _ _ => id) (hxm.upd (.of_below (fun _ => False) (((Below.refl w.heap.size w).alloc (Nat.le_refl _) (.cells #[.pointer (some ⟨p, 0, none⟩)] 83)).alloc (by simp) o)) fun _ _ => id) hok hl (hS.out.alloc o).1 hlen)
  obtain ⟨al, ends, ⟨sm, lo, hi⟩, md⟩ := s
  simp only at c0 c1 c2 c3 c4 c5
  have hkc := fun i u (h : w.cell? ⟨b, i, none⟩ = some u) => (Upd.alloc (fun _ => False) w (.cells #[.pointer (some ⟨p, 0, none⟩)] 83)).cell h id
  replace c0 := hkc _ _ c0
  replace c1 := hkc _ _ c1
  replace c2 := hkc _ _ c2
  replace c3 := hkc _ _ c3
  replace c4 := hkc _ _ c4
  replace c5 := hkc _ _ c5
  clear hkc
  replace hW := hide hW
  replace hlen := hide hlen
  clear hxa hxm
  have hlt := hide (fun k (hk : Fp p v k) => Fp.lt hW.out hk)
  generalize al.length = na at *
  generalize md.length = nm at *
  go_enter Try.func17, Try.ntmps17
  go_wp2_with fail
  go_loopw [11] (fun i wr => ∃ k : Nat, k ≤ 1 ∧ i = .int .i64 k ∧ (k = 0 → wr = w.alloc (.cells #[.pointer (some ⟨p, 0, none⟩)] 83)) ∧ (k = 1 → ∃ v', WStep B p w v wr (l ++ SumD.bytes ⟨al, ends, ⟨sm, lo, hi⟩, md⟩) v')) (fun i _ => 1 - (intOf i).toNat)
  case atStart => exact ⟨0, Nat.zero_le _, rfl, fun _ => rfl, fun h => (by cases h)⟩
  case round =>
    obtain ⟨k, hk, rfl, h0, h1⟩ := hrel
    by_cases hk0 : k = 0
    · subst hk0
      obtain rfl := h0 rfl
      clear h0 h1
      go_wp2_with fail
      refine (hN.out _).mono ?_
      rintro e w2 ⟨rfl, v2, h2⟩
      go_wp2_with fail
      go_roundw
      case rel => exact ⟨1, Nat.le_refl _, rfl, fun h => (by cases h), fun _ => ⟨v2, (hS.out.alloc _).trans h2⟩⟩
      case measure => simp [intOf]
    · obtain rfl : k = 1 := by omega
      obtain ⟨v', h⟩ := h1 rfl
      clear h0 h1
      go_wp2_with fail
      go_end0
      exact ⟨rfl, v', h⟩

/-- A part. -/
structure PartD where
  what : Nat
  n : Nat
  t : ByteArray
  s : SumD
def toI (n : Nat) : Int := if n < 9223372036854775808 then n else (n : Int) - 18446744073709551616
def PartD.bytes (p : PartD) : List UInt8 :=
  match p.what % 5 with
  | 0 => num p.n
  | 1 => num (zig (toI p.n))
  | 2 => text p.t
  | 3 => [bit (p.n % 2 == 1)]
  | _ => p.s.bytes
def PartD.ok (p : PartD) : Prop := p.what < 256 ∧ p.n < 18446744073709551616 ∧ p.s.ok
def PartD.light (p : PartD) : Prop := p.t.size ≤ 100 ∧ p.s.light
theorem toI_fits {n : Nat} (h : n < 18446744073709551616) : Fits (toI n) := by unfold toI Fits; split <;> omega
theorem toI_wrap {n : Nat} (h : n < 18446744073709551616) : IntKind.i64.wrap (n : Int) = toI n := by
  unfold toI
  simp [IntKind.wrap, IntKind.bits, IntKind.signed]; split <;> omega

set_option maxRecDepth 100000 in
set_option maxHeartbeats 3200000 in
theorem put_any (B : Nat) (F S : Nat → Prop) (l : List UInt8) (v xa xm : Value) (p : PartD) (w : World) (hxa : ArgN w S xa p.s.alarms.length (p.s.alarms.map AlarmD.cells).flatten) (hxm : ArgN w S xm p.s.mod.length (p.s.mod.map NamedD.cells).flatten) (hS : ∀ k, S k → ¬ F k) (hF : ∀ k, F k → k < w.heap.size) (hok : p.ok) (hl : p.light)
    (hA : AppIn w B F v l) (hB : B ≤ w.heap.size) (hlen : l.length + 2000 ≤ 70368744177664) :
    Calls Try.prog 12 #[v, .agg #[.int .u8 p.what, .int .u64 p.n, .string p.t, xa, .bool p.s.ends, .bool p.s.ret.some, .int .i64 p.s.ret.lo, .int .i64 p.s.ret.hi, xm]] w fun e w' => ∃ v', e = .returned v' ∧ RRow w F w' B v' (l ++ p.bytes) := by
  obtain ⟨hw, hn, hso⟩ := hok
  obtain ⟨ht, hsl⟩ := hl
  obtain ⟨A, n0, c, rfl⟩ := hA.slice
  obtain ⟨Aa, ca, rfl, -⟩ := hxa.slice
  obtain ⟨Am, cm, rfl, -⟩ := hxm.slice
  have hwr := toI_wrap hn
  have hfit := toI_fits hn
  obtain ⟨what, n, t, s⟩ := p
  simp only at *
  have hbx := hide (fun o => ((Below.refl w.heap.size w).alloc (Nat.le_refl _) o))
  have hA0 := hide hA
  have hB0 := hide hB
  have hB1 := hide (fun (o : Obj) => Nat.le_trans hB (show w.heap.size ≤ (w.alloc o).heap.size by simp))
  clear hA hB
  have hxa0 := hide hxa
  have hxm0 := hide hxm
  clear hxa hxm
  replace hF := hide hF
  replace hS := hide hS
  replace hlen := hide hlen
  have hmod : what % 5 = 0 ∨ what % 5 = 1 ∨ what % 5 = 2 ∨ what % 5 = 3 ∨ what % 5 = 4 := by omega
  have hput : ∀ r : Nat, what % 5 = r → (PartD.bytes ⟨what, n, t, s⟩ = match r with | 0 => num n | 1 => num (zig (toI n)) | 2 => text t | 3 => [bit (n % 2 == 1)] | _ => s.bytes) := by
    intro r hr
    unfold PartD.bytes
    rw [hr]
  replace hput := hide hput
  rcases hmod with h | h | h | h | h
  · have hm : (what : Int) % 5 = 0 := by omega
    rw [hput.out 0 h]
    replace h := hide h
    go_enter Try.func12, Try.ntmps12
    go_wp2_with fail
    refine (refNum_any B F l _ n _ (hA0.out.alloc _) hn (hB1.out _) (by have := hlen.out; omega)).mono ?_
    rintro e w2 ⟨v2, rfl, h2⟩
    go_wp2_with fail
    go_ret
    exact ⟨_, rfl, h2.of_below (hbx.out _)⟩
  · have hm : (what : Int) % 5 = 1 := by omega
    rw [hput.out 1 h]
    replace h := hide h
    go_enter Try.func12, Try.ntmps12
    go_wp2_with fail
    refine (refInt_any B F l _ (toI n) _ (hA0.out.alloc _) hfit.1 hfit.2 (hB1.out _) (by have := hlen.out; omega)).mono ?_
    rintro e w2 ⟨v2, rfl, h2⟩
    go_wp2_with fail
    go_ret
    exact ⟨_, rfl, h2.of_below (hbx.out _)⟩
  · have hm : (what : Int) % 5 = 2 := by omega
    rw [hput.out 2 h]
    replace h := hide h
    go_enter Try.func12, Try.ntmps12
    go_wp2_with fail
    refine (refText_any B F l _ t _ (hA0.out.alloc _) (hB1.out _) (by have := hlen.out; omega)).mono ?_
    rintro e w2 ⟨v2, rfl, h2⟩
    go_wp2_with fail
    go_ret
    exact ⟨_, rfl, h2.of_below (hbx.out _)⟩
  · have hm : (what : Int) % 5 = 3 := by omega
    rw [hput.out 3 h]
    replace h := hide h
    have hb2 : ((n : Int) % 2 == 1) = (n % 2 == 1) := by rw [Bool.eq_iff_iff]; simp; omega
    generalize (n % 2 == 1) = bb at *
    go_enter Try.func12, Try.ntmps12
    go_wp2_with fail
    refine (refBool_any B F l _ bb _ (hA0.out.alloc _) (hB1.out _) (by have := hlen.out; omega)).mono ?_
    rintro e w2 ⟨v2, rfl, h2⟩
    go_wp2_with fail
    go_ret
    exact ⟨_, rfl, h2.of_below (hbx.out _)⟩
  · have hm : (what : Int) % 5 = 4 := by omega
    rw [hput.out 4 h]
    replace h := hide h
    go_enter Try.func12, Try.ntmps12
    go_wp2_with fail
    refine (refSummary_any B F S l _ _ _ s _ (hxa0.out.upd (.of_below (fun _ => False) (hbx.out _)) fun _ _ => id) (hxm0.out.upd (.of_below (fun _ => False) (hbx.out _)) fun _ _ => id) hS.out (fun k hk => Nat.lt_of_lt_of_le (hF.out k hk) (by simp)) hso hsl (hA0.out.alloc _) (hB1.out _) hlen.out).mono ?_
    rintro e w2 ⟨v2, rfl, h2⟩
    go_wp2_with fail
    go_ret
    exact ⟨_, rfl, h2.of_below (hbx.out _)⟩
end Go.Proofs.Ytajpgkedlajjdaa
