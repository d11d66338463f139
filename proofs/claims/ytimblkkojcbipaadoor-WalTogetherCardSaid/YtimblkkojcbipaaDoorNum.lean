/- Numbers of four bytes: written, read. -/
import Derived.Test.YtimblkkojcbipaaDoorQuiet
import Derived.Maps.AppendAt
import Derived.LoopN
import Derived.Recover
namespace Go.Proofs.YtimblkkojcbipaaDoor
open Go Go.RowKit
def num4 (n : Nat) : List UInt8 := [.ofNat n, .ofNat (n / 256), .ofNat (n / 65536), .ofNat (n / 16777216)]
def val4 : List UInt8 → Nat
  | [a, b, c, d] => a.toNat + 256 * b.toNat + 65536 * c.toNat + 16777216 * d.toNat
  | _ => 0
theorem val_num (n : Nat) (h : n < 4294967296) : val4 (num4 n) = n := by
  simp only [val4, num4, UInt8.toNat_ofNat']
  omega
theorem num_len (n : Nat) : (num4 n).length = 4 := rfl
theorem val_lt : ∀ l : List UInt8, val4 l < 4294967296
  | [a, b, c, d] => by have := a.toNat_lt; have := b.toNat_lt; have := c.toNat_lt; have := d.toNat_lt; simp only [val4]; omega
  | [] | [_] | [_, _] | [_, _, _] | _ :: _ :: _ :: _ :: _ :: _ => by simp [val4]

theorem i64_or_nat (a b : Nat) (ha : a < 9223372036854775808) (hb : b < 9223372036854775808) : bits .or .i64 (a : Int) (b : Int) = ((a ||| b : Nat) : Int) := by
  have hx : a ||| b < 2 ^ 63 := Nat.or_lt_two_pow (by omega) (by omega)
  show IntKind.i64.wrap ((BitVec.ofInt 64 (a : Int) ||| BitVec.ofInt 64 (b : Int)).toNat : Int) = _
  rw [BitVec.toNat_or, ofInt_u64 a (by omega), ofInt_u64 b (by omega), IntKind.wrap_i64]
  omega
theorem or_add (i x y : Nat) (hx : x < 2 ^ i) (h1 : x < 9223372036854775808) (h2 : y * 2 ^ i < 9223372036854775808) : bits .or .i64 (x : Int) ((y * 2 ^ i : Nat) : Int) = ((x + y * 2 ^ i : Nat) : Int) := by
  rw [i64_or_nat x _ h1 h2, Nat.or_comm, nat_join i _ _ (Nat.mul_mod_left _ _) hx, Nat.add_comm]
theorem need_any (b : Bool) (w : World) : Calls Tryd.prog 67 #[.bool b] w fun e w' => w = w' ∧ (b = true → e = .returned (.tuple #[])) ∧ (b = false → ∃ pv, e = .panicked [{ v := .iface 126 pv, recovered := false }]) := by
  cases b
  · go_enter Tryd.func67, Tryd.ntmps67
    go_wp2_with fail
    refine ⟨rfl, ?_⟩
    exact ⟨rfl, fun h => (by cases h), fun _ => ⟨_, rfl⟩⟩
  · go_enter Tryd.func67, Tryd.ntmps67
    go_wp2_with fail
    go_end0
    exact ⟨rfl, fun _ => rfl, fun h => (by cases h)⟩

abbrev Own (v : Value) : Nat → Prop := fun k => v.ownBlock = some k
theorem World.lt_alloc (w : World) (o : Obj) : w.heap.size < (w.alloc o).heap.size := by rw [World.size_alloc]; omega
theorem RowB.alloc {w : World} {B : Nat} {v : Value} {l : List UInt8} (h : RowB w B v l) (o : Obj) : RowB (w.alloc o) B v l := (Upd.alloc (fun _ => False) w o).own h fun _ _ => id
theorem RowB.upd {w w' : World} {F : Nat → Prop} {B : Nat} {v : Value} {l : List UInt8} (h : RowB w B v l) (hu : Upd F w w') (hn : ∀ k, Own v k → ¬ F k) : RowB w' B v l := hu.own h hn
theorem new_byte (w : World) (x : Value) (c : UInt8) (hx : x = .int .u8 c.toNat) : ∀ j u, (bv [c])[j]? = some u → (w.alloc (.cells #[x] 5)).cell? ((⟨w.heap.size, 0, none⟩ : Addr).add j) = some u := by
  subst hx
  exact cell_one_new w _ _
theorem mv_append {w w' : World} {o : Obj} {v v' : Value} (h : (w.alloc o).grownBy w' v.ownBlock) (h2 : ∀ k, v'.ownBlock = some k → v.ownBlock = some k ∨ w.heap.size + 1 ≤ k) : Mv w (Own v) w' (Own v') :=
  ⟨(Upd.alloc _ w o).then (.grown h fun _ hk => hk), fun k hk => (h2 k hk).imp id fun h => (by omega)⟩
set_option maxRecDepth 100000 in
theorem appendNumber_any {w : World} {B : Nat} {v : Value} {l : List UInt8} (h0 : RowB w B v l) (hl : l.length ≤ 70368744170000) (hB : B ≤ w.heap.size) (n : Nat) (hn : n < 4294967296) :
    Calls Tryd.prog 73 #[v, .int .i64 n] w fun e w' => ∃ v', e = .returned v' ∧ RowB w' B v' (l ++ num4 n) ∧ Mv w (Own v) w' (Own v') := by
  obtain ⟨A0, n0, c0, rfl⟩ := h0.slice
  have m0 := hide (Mv.refl w (Own (.slice A0 n0 c0)))
  replace h0 := hide h0
  go_enter Tryd.func73, Tryd.ntmps73
  go_wp2_with fail
  refine wp_loop_rounds 5 ?_
  rw [rounds_succ]
  go_wp2_with (at_builtin; refine wp_bytes rfl (.tmp 9) (.tmp 15) rfl B (.slice A0 n0 c0) l rfl ?_ ⟨w.heap.size, 0, none⟩ 1 1 [.ofNat n] rfl rfl ?_ ?_ ?_ ?_)
  · exact h0.out.alloc _
  · exact new_byte _ _ _ (by simp)
  · simp only [List.length_cons, List.length_nil]; omega
  · exact Nat.le_trans (Nat.le_trans hB m0.out.1.size) (Nat.le_of_lt (World.lt_alloc _ _))
  intro v1 w1 h1 g1 g2
  obtain ⟨A1, n1, c1, rfl⟩ := h1.slice
  have m1 := hide (m0.out.trans (mv_append g1 g2))
  replace h1 := hide h1
  clear g1 g2
  go_wp2_with fail
  rw [rounds_succ]
  go_wp2_with (at_builtin; refine wp_bytes rfl (.tmp 9) (.tmp 15) rfl B (.slice A1 n1 c1) (l ++ [.ofNat n]) rfl ?_ ⟨w1.heap.size, 0, none⟩ 1 1 [.ofNat (n / 256)] rfl rfl ?_ ?_ ?_ ?_)
  · exact h1.out.alloc _
  · exact new_byte _ _ _ (by simp)
  · simp only [List.length_append, List.length_cons, List.length_nil]; omega
  · exact Nat.le_trans (Nat.le_trans hB m1.out.1.size) (Nat.le_of_lt (World.lt_alloc _ _))
  intro v2 w2 h2 g1 g2
  obtain ⟨A2, n2, c2, rfl⟩ := h2.slice
  have m2 := hide (m1.out.trans (mv_append g1 g2))
  replace h2 := hide h2
  clear g1 g2
  go_wp2_with fail
  rw [rounds_succ]
  go_wp2_with (at_builtin; refine wp_bytes rfl (.tmp 9) (.tmp 15) rfl B (.slice A2 n2 c2) (l ++ [.ofNat n, .ofNat (n / 256)]) rfl ?_ ⟨w2.heap.size, 0, none⟩ 1 1 [.ofNat (n / 65536)] rfl rfl ?_ ?_ ?_ ?_)
  · exact h2.out.alloc _
  · exact new_byte _ _ _ (by simp)
  · simp only [List.length_append, List.length_cons, List.length_nil]; omega
  · exact Nat.le_trans (Nat.le_trans hB m2.out.1.size) (Nat.le_of_lt (World.lt_alloc _ _))
  intro v3 w3 h3 g1 g2
  obtain ⟨A3, n3, c3, rfl⟩ := h3.slice
  have m3 := hide (m2.out.trans (mv_append g1 g2))
  replace h3 := hide h3
  clear g1 g2
  go_wp2_with fail
  rw [rounds_succ]
  go_wp2_with (at_builtin; refine wp_bytes rfl (.tmp 9) (.tmp 15) rfl B (.slice A3 n3 c3) (l ++ [.ofNat n, .ofNat (n / 256), .ofNat (n / 65536)]) rfl ?_ ⟨w3.heap.size, 0, none⟩ 1 1 [.ofNat (n / 16777216)] rfl rfl ?_ ?_ ?_ ?_)
  · exact h3.out.alloc _
  · exact new_byte _ _ _ (by simp; omega)
  · simp only [List.length_append, List.length_cons, List.length_nil]; omega
  · exact Nat.le_trans (Nat.le_trans hB m3.out.1.size) (Nat.le_of_lt (World.lt_alloc _ _))
  intro v4 w4 h4 g1 g2
  obtain ⟨A4, n4, c4, rfl⟩ := h4.slice
  have m4 := hide (m3.out.trans (mv_append g1 g2))
  replace h4 := hide h4
  clear g1 g2
  go_wp2_with fail
  rw [rounds_succ]
  go_wp2_with fail
  go_ret
  exact ⟨_, rfl, by simpa [num4] using h4.out, m4.out⟩
set_option maxRecDepth 100000 in
theorem numberOf_any {w : World} {S : Nat → Prop} {v : Value} {l : List UInt8} (h : ArgV w S v (bv l)) (hl : l.length = 4) :
    Calls Tryd.prog 71 #[v] w fun e w' => e = .returned (.int .i64 (val4 l : Nat)) ∧ w = w' := by
  obtain ⟨a, b, c, d, rfl⟩ : ∃ a b c d, l = [a, b, c, d] := by
    match l, hl with
    | [a, b, c, d], _ => exact ⟨a, b, c, d, rfl⟩
  obtain ⟨A, cp, rfl, h2, h3, h4⟩ := h
  rcases h4 with h4 | ⟨g, o, rfl, hS, hc⟩
  · cases h4
  have c0 := hc 0 _ rfl
  have c1 := hc 1 _ rfl
  have c2 := hc 2 _ rfl
  have c3 := hc 3 _ rfl
  have l0 := a.toNat_lt
  have l1 := b.toNat_lt
  have l2 := c.toNat_lt
  have l3 := d.toNat_lt
  clear hc
  simp only [bv_len, List.length_cons, List.length_nil] at h2 ⊢
  simp only [Nat.add_zero] at c0 c1 c2 c3
  simp only [val4]
  generalize a.toNat = a0 at *
  generalize b.toNat = a1 at *
  generalize c.toNat = a2 at *
  generalize d.toNat = a3 at *
  obtain ⟨s1, e1⟩ : ∃ s, s = a0 + a1 * 256 := ⟨_, rfl⟩
  obtain ⟨s2, e2⟩ : ∃ s, s = s1 + a2 * 65536 := ⟨_, rfl⟩
  obtain ⟨s3, e3⟩ : ∃ s, s = s2 + a3 * 16777216 := ⟨_, rfl⟩
  have q0 : bits .or .i64 0 (a0 : Int) = (a0 : Int) := by have := i64_or_nat 0 a0 (by omega) (by omega); simpa using this
  have q1 : bits .or .i64 (a0 : Int) ((a1 : Int) * 256) = (s1 : Int) := by
    have := or_add 8 a0 a1 (by omega) (by omega) (by omega)
    rw [e1]; simpa using this
  have q2 : bits .or .i64 (s1 : Int) ((a2 : Int) * 65536) = (s2 : Int) := by
    have := or_add 16 s1 a2 (by omega) (by omega) (by omega)
    rw [e2]; simpa using this
  have q3 : bits .or .i64 (s2 : Int) ((a3 : Int) * 16777216) = (s3 : Int) := by
    have := or_add 24 s2 a3 (by omega) (by omega) (by omega)
    rw [e3]; simpa using this
  have hv : s3 = a0 + 256 * a1 + 65536 * a2 + 16777216 * a3 := by omega
  have hb : s3 < 4294967296 := by omega
  clear e1 e2 e3
  replace hv := hide hv
  go_enter Tryd.func71, Tryd.ntmps71
  go_wp2_with fail
  refine wp_loop_rounds 5 ?_
  rw [rounds_succ]
  go_wp2_with fail
  rw [rounds_succ]
  go_wp2_with fail
  rw [rounds_succ]
  go_wp2_with fail
  rw [rounds_succ]
  go_wp2_with fail
  rw [rounds_succ]
  go_wp2_with fail
  go_ret
  exact ⟨by rw [hv.out]; rfl, rfl⟩
end Go.Proofs.YtimblkkojcbipaaDoor
