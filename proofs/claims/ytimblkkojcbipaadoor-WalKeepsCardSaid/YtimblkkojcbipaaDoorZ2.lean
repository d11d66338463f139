/- Part 2 of the walks (merged): Quiet, Num, Math, WalkA, Frames, FramesOf, Concat. -/
import Derived.Test.YtimblkkojcbipaaDoorZ1
import Derived.Lib.SliceRun
import Derived.Maps.AppendAt
import Derived.LoopN
import Derived.Recover
import Derived.Laws.BitsAllLaws
import Derived.Test.YtimblkkojcbipaaDoorRows
import Derived.WalkSpells
import Derived.WalkLawsBesides
import Derived.Handy
import Derived.Lib.AppendZeros
/- Walks of the disk: what only reads. -/
namespace Go.Proofs.YtimblkkojcbipaaDoor
open Go Go.RowKit
section
variable {w : World} {sb db mb cap : Nat} {vs : Array Value} {g : Nat → Option Value} {R : Nat → Prop} {D : DS}
theorem DiskAt.c0 (h : DiskAt w sb db mb cap vs g R D) : w.cell? ⟨sb, 0, none⟩ = some (.int .i64 D.size) := by rw [cell_at h.head]; rfl
theorem DiskAt.c1 (h : DiskAt w sb db mb cap vs g R D) : w.cell? ⟨sb, 1, none⟩ = some (.slice (some ⟨db, 0, none⟩) D.n cap) := by rw [cell_at h.head]; rfl
theorem DiskAt.c2 (h : DiskAt w sb db mb cap vs g R D) : w.cell? ⟨sb, 2, none⟩ = some (.map (some mb)) := by rw [cell_at h.head]; rfl
theorem DiskAt.c3 (h : DiskAt w sb db mb cap vs g R D) : w.cell? ⟨sb, 3, none⟩ = some (.bool D.dead) := by rw [cell_at h.head]; rfl
theorem DiskAt.c4 (h : DiskAt w sb db mb cap vs g R D) : w.cell? ⟨sb, 4, none⟩ = some (.bool D.sched) := by rw [cell_at h.head]; rfl
theorem DiskAt.c5 (h : DiskAt w sb db mb cap vs g R D) : w.cell? ⟨sb, 5, none⟩ = some (.int .i64 D.left) := by rw [cell_at h.head]; rfl
theorem DiskAt.f (h : DiskAt w sb db mb cap vs g R D) (o : Nat) : w.frozen? ⟨sb, o, none⟩ = false := frozen_at h.head o

theorem dead_any (h : DiskAt w sb db mb cap vs g R D) : Calls Tryd.prog 21 #[.pointer (some ⟨sb, 3, none⟩)] w fun e w' => e = .returned (.bool D.dead) ∧ w = w' := by
  have c3 := h.c3
  replace h := hide h
  go_enter Tryd.func21, Tryd.ntmps21
  go_wp2_with fail
  go_ret
  exact ⟨rfl, rfl⟩
theorem sectors_any (h : DiskAt w sb db mb cap vs g R D) : Calls Tryd.prog 28 #[.pointer (some ⟨sb, 0, none⟩)] w fun e w' => e = .returned (.int .i64 D.n) ∧ w = w' := by
  have c1 := h.c1
  replace h := hide h
  go_enter Tryd.func28, Tryd.ntmps28
  go_wp2_with fail
  go_ret
  exact ⟨rfl, rfl⟩
theorem size_any (h : DiskAt w sb db mb cap vs g R D) : Calls Tryd.prog 29 #[.pointer (some ⟨sb, 0, none⟩)] w fun e w' => e = .returned (.int .i64 D.size) ∧ w = w' := by
  have c0 := h.c0
  replace h := hide h
  go_enter Tryd.func29, Tryd.ntmps29
  go_wp2_with fail
  go_ret
  exact ⟨rfl, rfl⟩
theorem has_any (h : DiskAt w sb db mb cap vs g R D) (i : Nat) (hi : i < D.n) : Calls Tryd.prog 63 #[.pointer (some ⟨sb, 0, none⟩), .int .i64 i] w fun e w' => e = .returned (.bool true) ∧ w = w' := by
  have c1 := h.c1
  replace h := hide h
  go_enter Tryd.func63, Tryd.ntmps63
  go_wp2_with fail
  go_ret
  exact ⟨by simp, rfl⟩
theorem reach_any (h : DiskAt w sb db mb cap vs g R D) (i : Nat) (hi : i < D.n) : Calls Tryd.prog 37 #[.pointer (some ⟨sb, 0, none⟩), .int .i64 i] w fun e w' => e = .returned (.int .i64 (if D.dead then 32 else 0)) ∧ w = w' := by
  have hd := dead_any h
  have hh := has_any h i hi
  cases hD : D.dead
  · rw [hD] at hd
    clear hD h
    go_enter Tryd.func37, Tryd.ntmps37
    go_wp2_with fail
    refine hd.mono ?_
    rintro e w' ⟨rfl, rfl⟩
    go_wp2_with fail
    refine hh.mono ?_
    rintro e w' ⟨rfl, rfl⟩
    go_wp2_with fail
    go_ret
    exact ⟨by simp, rfl⟩
  · rw [hD] at hd
    clear hD h
    go_enter Tryd.func37, Tryd.ntmps37
    go_wp2_with fail
    refine hd.mono ?_
    rintro e w' ⟨rfl, rfl⟩
    go_wp2_with fail
    go_ret
    exact ⟨by simp, rfl⟩
end
theorem eql_nil (w : World) (a : Option Addr) (n c n' c' : Nat) : (binOp .eql 34 (.slice a n c) (.slice none n' c')).run Tryd.prog w = .ok (.bool a.isNone) w := Lib.run_eql_slice_nil w _ _ a n c n' c' Tryd.underlying34
/-- bytes.Clone: the same bytes, in memory of their own. -/
theorem clone_any {w : World} {S : Nat → Prop} {v : Value} {l : List UInt8} (h : ArgV w S v (bv l)) (hl : l.length ≤ 70368744177664) : Calls Tryd.prog 64 #[v] w fun e w' => ∃ v', e = .returned v' ∧ RowB w' w.heap.size v' l ∧ Below w.heap.size w w' := by
  obtain ⟨A, c, rfl, h2, h3, h4⟩ := h
  have q := eql_nil
  replace h4 := hide h4
  cases A with
  | none =>
    go_enter Tryd.func64, Tryd.ntmps64
    go_wp2_with fail
    go_ret
    rcases h4.out with h0 | ⟨b, o, h0, _⟩
    · have : l = [] := by simpa [bv] using h0
      subst this
      exact ⟨_, rfl, RowB.nil_ _ _, Below.refl _ _⟩
    · cases h0
  | some a =>
    rw [bv_len] at h2 ⊢
    go_enter Tryd.func64, Tryd.ntmps64
    go_wp2_with (first | (at_builtin; refine wp_bytes rfl _ _ rfl w.heap.size _ [] rfl ?_ a l.length c l rfl rfl ?_ ?_ ?_ ?_) | go_in)
    · refine ⟨rfl, .inr ⟨w.heap.size, 0, #[], rfl, Nat.le_refl _, heap_alloc_new _ _, Nat.le_refl _, Nat.zero_le _, rfl, rfl⟩⟩
    · intro j u hj
      rcases h4.out with h0 | ⟨b, o, h0, _, hc⟩
      · rw [h0] at hj; simp at hj
      · obtain rfl := Option.some.inj h0
        rw [Go.WideShapes.add_plain]
        exact ((Below.refl w.heap.size w).alloc (Nat.le_refl _) _).cell (World.block_lt_of_cell? w _ (hc j u hj)) |>.trans (hc j u hj)
    · simpa using hl
    · simp
    · intro v' w' h1 h2 h3
      go_wp2_with fail
      go_ret
      refine ⟨_, rfl, by simpa using h1, ?_⟩
      exact ((Below.refl w.heap.size w).alloc (Nat.le_refl _) _).grown h2 (by simp) (fun k hk => by cases hk; exact Nat.le_refl _)
end Go.Proofs.YtimblkkojcbipaaDoor
/- Numbers of four bytes: written, read. -/
namespace Go.Proofs.YtimblkkojcbipaaDoor
open Go Go.RowKit
def num4 (n : Nat) : List UInt8 := [.ofNat n, .ofNat (n / 256), .ofNat (n / 65536), .ofNat (n / 16777216)]
def val4 : List UInt8 → Nat
  | [a, b, c, d] => a.toNat + 256 * b.toNat + 65536 * c.toNat + 16777216 * d.toNat
  | _ => 0
theorem val_num (n : Nat) (h : n < 4294967296) : val4 (num4 n) = n := by
  simp only [val4, num4, UInt8.toNat_ofNat']
  omega
theorem num_len (n : Nat) : (num4 n).length = 4 := rfl
theorem val_lt : ∀ l : List UInt8, val4 l < 4294967296
  | [a, b, c, d] => by have := a.toNat_lt; have := b.toNat_lt; have := c.toNat_lt; have := d.toNat_lt; simp only [val4]; omega
  | [] | [_] | [_, _] | [_, _, _] | _ :: _ :: _ :: _ :: _ :: _ => by simp [val4]

theorem i64_or_nat (a b : Nat) (ha : a < 9223372036854775808) (hb : b < 9223372036854775808) : bits .or .i64 (a : Int) (b : Int) = ((a ||| b : Nat) : Int) := by
  have hx : a ||| b < 2 ^ 63 := Nat.or_lt_two_pow (by omega) (by omega)
  show IntKind.i64.wrap ((BitVec.ofInt 64 (a : Int) ||| BitVec.ofInt 64 (b : Int)).toNat : Int) = _
  rw [BitVec.toNat_or, ofInt_u64 a (by omega), ofInt_u64 b (by omega), IntKind.wrap_i64]
  omega
theorem or_add (i x y : Nat) (hx : x < 2 ^ i) (h1 : x < 9223372036854775808) (h2 : y * 2 ^ i < 9223372036854775808) : bits .or .i64 (x : Int) ((y * 2 ^ i : Nat) : Int) = ((x + y * 2 ^ i : Nat) : Int) := by
  rw [i64_or_nat x _ h1 h2, Nat.or_comm, nat_join i _ _ (Nat.mul_mod_left _ _) hx, Nat.add_comm]
theorem need_any (b : Bool) (w : World) : Calls Tryd.prog 67 #[.bool b] w fun e w' => w = w' ∧ (b = true → e = .returned (.tuple #[])) ∧ (b = false → ∃ pv, e = .panicked [{ v := .iface 126 pv, recovered := false }]) := by
  cases b
  · go_enter Tryd.func67, Tryd.ntmps67
    go_wp2_with fail
    refine ⟨rfl, ?_⟩
    exact ⟨rfl, fun h => (by cases h), fun _ => ⟨_, rfl⟩⟩
  · go_enter Tryd.func67, Tryd.ntmps67
    go_wp2_with fail
    go_end0
    exact ⟨rfl, fun _ => rfl, fun h => (by cases h)⟩

abbrev Own (v : Value) : Nat → Prop := fun k => v.ownBlock = some k
theorem World.lt_alloc (w : World) (o : Obj) : w.heap.size < (w.alloc o).heap.size := by rw [World.size_alloc]; omega
theorem RowB.alloc {w : World} {B : Nat} {v : Value} {l : List UInt8} (h : RowB w B v l) (o : Obj) : RowB (w.alloc o) B v l := (Upd.alloc (fun _ => False) w o).own h fun _ _ => id
theorem RowB.upd {w w' : World} {F : Nat → Prop} {B : Nat} {v : Value} {l : List UInt8} (h : RowB w B v l) (hu : Upd F w w') (hn : ∀ k, Own v k → ¬ F k) : RowB w' B v l := hu.own h hn
theorem new_byte (w : World) (x : Value) (c : UInt8) (hx : x = .int .u8 c.toNat) : ∀ j u, (bv [c])[j]? = some u → (w.alloc (.cells #[x] 5)).cell? ((⟨w.heap.size, 0, none⟩ : Addr).add j) = some u := by
  subst hx
  exact cell_one_new w _ _
theorem mv_append {w w' : World} {o : Obj} {v v' : Value} (h : (w.alloc o).grownBy w' v.ownBlock) (h2 : ∀ k, v'.ownBlock = some k → v.ownBlock = some k ∨ w.heap.size + 1 ≤ k) : Mv w (Own v) w' (Own v') :=
  ⟨(Upd.alloc _ w o).then (.grown h fun _ hk => hk), fun k hk => (h2 k hk).imp id fun h => (by omega)⟩
set_option maxRecDepth 100000 in
theorem appendNumber_any {w : World} {B : Nat} {v : Value} {l : List UInt8} (h0 : RowB w B v l) (hl : l.length ≤ 70368744170000) (hB : B ≤ w.heap.size) (n : Nat) (hn : n < 4294967296) :
    Calls Tryd.prog 73 #[v, .int .i64 n] w fun e w' => ∃ v', e = .returned v' ∧ RowB w' B v' (l ++ num4 n) ∧ Mv w (Own v) w' (Own v') := by
  obtain ⟨A0, n0, c0, rfl⟩ := h0.slice
  have m0 := hide (Mv.refl w (Own (.slice A0 n0 c0)))
  replace h0 := hide h0
  go_enter Tryd.func73, Tryd.ntmps73
  go_wp2_with fail
  refine wp_loop_rounds 5 ?_
  rw [rounds_succ]
  go_wp2_with (at_builtin; refine wp_bytes rfl (.tmp 9) (.tmp 15) rfl B (.slice A0 n0 c0) l rfl ?_ ⟨w.heap.size, 0, none⟩ 1 1 [.ofNat n] rfl rfl ?_ ?_ ?_ ?_)
  · exact h0.out.alloc _
  · exact new_byte _ _ _ (by simp)
  · simp only [List.length_cons, List.length_nil]; omega
  · exact Nat.le_trans (Nat.le_trans hB m0.out.1.size) (Nat.le_of_lt (World.lt_alloc _ _))
  intro v1 w1 h1 g1 g2
  obtain ⟨A1, n1, c1, rfl⟩ := h1.slice
  have m1 := hide (m0.out.trans (mv_append g1 g2))
  replace h1 := hide h1
  clear g1 g2
  go_wp2_with fail
  rw [rounds_succ]
  go_wp2_with (at_builtin; refine wp_bytes rfl (.tmp 9) (.tmp 15) rfl B (.slice A1 n1 c1) (l ++ [.ofNat n]) rfl ?_ ⟨w1.heap.size, 0, none⟩ 1 1 [.ofNat (n / 256)] rfl rfl ?_ ?_ ?_ ?_)
  · exact h1.out.alloc _
  · exact new_byte _ _ _ (by simp)
  · simp only [List.length_append, List.length_cons, List.length_nil]; omega
  · exact Nat.le_trans (Nat.le_trans hB m1.out.1.size) (Nat.le_of_lt (World.lt_alloc _ _))
  intro v2 w2 h2 g1 g2
  obtain ⟨A2, n2, c2, rfl⟩ := h2.slice
  have m2 := hide (m1.out.trans (mv_append g1 g2))
  replace h2 := hide h2
  clear g1 g2
  go_wp2_with fail
  rw [rounds_succ]
  go_wp2_with (at_builtin; refine wp_bytes rfl (.tmp 9) (.tmp 15) rfl B (.slice A2 n2 c2) (l ++ [.ofNat n, .ofNat (n / 256)]) rfl ?_ ⟨w2.heap.size, 0, none⟩ 1 1 [.ofNat (n / 65536)] rfl rfl ?_ ?_ ?_ ?_)
  · exact h2.out.alloc _
  · exact new_byte _ _ _ (by simp)
  · simp only [List.length_append, List.length_cons, List.length_nil]; omega
  · exact Nat.le_trans (Nat.le_trans hB m2.out.1.size) (Nat.le_of_lt (World.lt_alloc _ _))
  intro v3 w3 h3 g1 g2
  obtain ⟨A3, n3, c3, rfl⟩ := h3.slice
  have m3 := hide (m2.out.trans (mv_append g1 g2))
  replace h3 := hide h3
  clear g1 g2
  go_wp2_with fail
  rw [rounds_succ]
  go_wp2_with (at_builtin; refine wp_bytes rfl (.tmp 9) (.tmp 15) rfl B (.slice A3 n3 c3) (l ++ [.ofNat n, .ofNat (n / 256), .ofNat (n / 65536)]) rfl ?_ ⟨w3.heap.size, 0, none⟩ 1 1 [.ofNat (n / 16777216)] rfl rfl ?_ ?_ ?_ ?_)
  · exact h3.out.alloc _
  · exact new_byte _ _ _ (by simp; omega)
  · simp only [List.length_append, List.length_cons, List.length_nil]; omega
  · exact Nat.le_trans (Nat.le_trans hB m3.out.1.size) (Nat.le_of_lt (World.lt_alloc _ _))
  intro v4 w4 h4 g1 g2
  obtain ⟨A4, n4, c4, rfl⟩ := h4.slice
  have m4 := hide (m3.out.trans (mv_append g1 g2))
  replace h4 := hide h4
  clear g1 g2
  go_wp2_with fail
  rw [rounds_succ]
  go_wp2_with fail
  go_ret
  exact ⟨_, rfl, by simpa [num4] using h4.out, m4.out⟩
set_option maxRecDepth 100000 in
theorem numberOf_any {w : World} {S : Nat → Prop} {v : Value} {l : List UInt8} (h : ArgV w S v (bv l)) (hl : l.length = 4) :
    Calls Tryd.prog 71 #[v] w fun e w' => e = .returned (.int .i64 (val4 l : Nat)) ∧ w = w' := by
  obtain ⟨a, b, c, d, rfl⟩ : ∃ a b c d, l = [a, b, c, d] := by
    match l, hl with
    | [a, b, c, d], _ => exact ⟨a, b, c, d, rfl⟩
  obtain ⟨A, cp, rfl, h2, h3, h4⟩ := h
  rcases h4 with h4 | ⟨g, o, rfl, hS, hc⟩
  · cases h4
  have c0 := hc 0 _ rfl
  have c1 := hc 1 _ rfl
  have c2 := hc 2 _ rfl
  have c3 := hc 3 _ rfl
  have l0 := a.toNat_lt
  have l1 := b.toNat_lt
  have l2 := c.toNat_lt
  have l3 := d.toNat_lt
  clear hc
  simp only [bv_len, List.length_cons, List.length_nil] at h2 ⊢
  simp only [Nat.add_zero] at c0 c1 c2 c3
  simp only [val4]
  generalize a.toNat = a0 at *
  generalize b.toNat = a1 at *
  generalize c.toNat = a2 at *
  generalize d.toNat = a3 at *
  obtain ⟨s1, e1⟩ : ∃ s, s = a0 + a1 * 256 := ⟨_, rfl⟩
  obtain ⟨s2, e2⟩ : ∃ s, s = s1 + a2 * 65536 := ⟨_, rfl⟩
  obtain ⟨s3, e3⟩ : ∃ s, s = s2 + a3 * 16777216 := ⟨_, rfl⟩
  have q0 : bits .or .i64 0 (a0 : Int) = (a0 : Int) := by have := i64_or_nat 0 a0 (by omega) (by omega); simpa using this
  have q1 : bits .or .i64 (a0 : Int) ((a1 : Int) * 256) = (s1 : Int) := by
    have := or_add 8 a0 a1 (by omega) (by omega) (by omega)
    rw [e1]; simpa using this
  have q2 : bits .or .i64 (s1 : Int) ((a2 : Int) * 65536) = (s2 : Int) := by
    have := or_add 16 s1 a2 (by omega) (by omega) (by omega)
    rw [e2]; simpa using this
  have q3 : bits .or .i64 (s2 : Int) ((a3 : Int) * 16777216) = (s3 : Int) := by
    have := or_add 24 s2 a3 (by omega) (by omega) (by omega)
    rw [e3]; simpa using this
  have hv : s3 = a0 + 256 * a1 + 65536 * a2 + 16777216 * a3 := by omega
  have hb : s3 < 4294967296 := by omega
  clear e1 e2 e3
  replace hv := hide hv
  go_enter Tryd.func71, Tryd.ntmps71
  go_wp2_with fail
  refine wp_loop_rounds 5 ?_
  rw [rounds_succ]
  go_wp2_with fail
  rw [rounds_succ]
  go_wp2_with fail
  rw [rounds_succ]
  go_wp2_with fail
  rw [rounds_succ]
  go_wp2_with fail
  rw [rounds_succ]
  go_wp2_with fail
  go_ret
  exact ⟨by rw [hv.out]; rfl, rfl⟩
end Go.Proofs.YtimblkkojcbipaaDoor
/- Sums as plain functions of numbers: the reference's bit by bit, the program's four bits at a time; what a turned bit changes. -/
namespace Go.Proofs.YtimblkkojcbipaaDoor.Sums

/-- One bit of the division. -/
def s1 (c : Nat) : Nat := if c % 2 = 1 then (c / 2) ^^^ 3988292384 else c / 2
def s4 (c : Nat) : Nat := s1 (s1 (s1 (s1 c)))
def tab : List Nat := [0, 498536548, 997073096, 651767980, 1994146192, 1802195444, 1303535960, 1342533948, 3988292384, 4027552580, 3604390888, 3412177804, 2607071920, 2262029012, 2685067896, 3183342108]
/-- Four bits of the division, by the table. -/
def nib (c : Nat) : Nat := (c / 16) ^^^ tab.getD (c % 16) 0
def crcByte (c : Nat) (b : UInt8) : Nat := nib (nib (c ^^^ b.toNat))
def crcL (c : Nat) (l : List UInt8) : Nat := l.foldl crcByte c
def crcLs (c : Nat) (ls : List (List UInt8)) : Nat := ls.foldl crcL c

theorem crcLs_flat (c : Nat) (ls : List (List UInt8)) : crcLs c ls = crcL c ls.flatten := by
  induction ls generalizing c with
  | nil => rfl
  | cons l ls ih => simp only [crcLs, List.foldl_cons, List.flatten_cons, crcL, List.foldl_append]; exact ih _

theorem s1_lt {c : Nat} (h : c < 4294967296) : s1 c < 4294967296 := by
  unfold s1; split
  · exact Nat.xor_lt_two_pow (n := 32) (by omega) (by omega)
  · omega
theorem s1_xor (a b : Nat) : s1 (a ^^^ b) = s1 a ^^^ s1 b := by
  have h2 : (a ^^^ b) / 2 = (a / 2) ^^^ (b / 2) := by
    have := @Nat.xor_div_two_pow a b 1
    simpa using this
  have hm : (a ^^^ b) % 2 = (a % 2) ^^^ (b % 2) := by
    have := @Nat.xor_mod_two_pow a b 1
    simpa using this
  unfold s1
  rw [hm, h2]
  rcases Nat.mod_two_eq_zero_or_one a with ha | ha <;> rcases Nat.mod_two_eq_zero_or_one b with hb | hb <;> simp only [ha, hb] <;> simp only [show (0 ^^^ 0 : Nat) = 0 from rfl, show (0 ^^^ 1 : Nat) = 1 from rfl, show (1 ^^^ 0 : Nat) = 1 from rfl, show (1 ^^^ 1 : Nat) = 0 from rfl] <;> simp
  · rw [Nat.xor_assoc]
  · rw [Nat.xor_assoc, Nat.xor_assoc, Nat.xor_comm (b / 2)]
  · rw [Nat.xor_assoc, ← Nat.xor_assoc 3988292384, Nat.xor_comm 3988292384, Nat.xor_assoc (b / 2), Nat.xor_self, Nat.xor_zero]
theorem s4_xor (a b : Nat) : s4 (a ^^^ b) = s4 a ^^^ s4 b := by simp only [s4, s1_xor]
theorem s1_two (y : Nat) : s1 (2 * y) = y := by unfold s1; rw [if_neg (by omega)]; omega
theorem s4_high (y : Nat) : s4 (16 * y) = y := by
  have h : 16 * y = 2 * (2 * (2 * (2 * y))) := by omega
  rw [h]; simp only [s4, s1_two]
theorem s4_low : ∀ l, l < 16 → s4 l = tab.getD l 0 := by decide
theorem nib_eq (c : Nat) : nib c = s4 c := by
  have hc : c = (16 * (c / 16)) ^^^ (c % 16) := by
    have hlt : c % 16 < 2 ^ 4 := by omega
    have h1 := Nat.two_pow_add_eq_or_of_lt hlt (c / 16)
    have h2 : (16 * (c / 16)) ^^^ (c % 16) = (16 * (c / 16)) ||| (c % 16) := by
      apply Nat.eq_of_testBit_eq
      intro i
      rw [Nat.testBit_xor, Nat.testBit_or]
      rcases Nat.lt_or_ge i 4 with h | h
      · have : (16 * (c / 16)).testBit i = false := by
          rw [show (16 : Nat) = 2 ^ 4 from rfl, Nat.testBit_two_pow_mul]; simp; omega
        simp [this]
      · have : (c % 16).testBit i = false := Nat.testBit_lt_two_pow (Nat.lt_of_lt_of_le hlt (Nat.pow_le_pow_right (by decide) h))
        simp [this]
    rw [h2, ← h1]; omega
  unfold nib
  conv => rhs; rw [hc, s4_xor, s4_high, s4_low _ (Nat.mod_lt _ (by decide))]
theorem s4_lt {c : Nat} (h : c < 4294967296) : s4 c < 4294967296 := s1_lt (s1_lt (s1_lt (s1_lt h)))
theorem nib_lt {c : Nat} (h : c < 4294967296) : nib c < 4294967296 := by rw [nib_eq]; exact s4_lt h
theorem xorb_lt {c : Nat} (h : c < 4294967296) (b : UInt8) : c ^^^ b.toNat < 4294967296 :=
  Nat.xor_lt_two_pow (n := 32) (by omega) (by have := b.toNat_lt; omega)
theorem crcByte_lt {c : Nat} (h : c < 4294967296) (b : UInt8) : crcByte c b < 4294967296 := nib_lt (nib_lt (xorb_lt h b))
theorem crcL_lt (l : List UInt8) : ∀ {c : Nat}, c < 4294967296 → crcL c l < 4294967296 := by
  induction l with
  | nil => intro c h; exact h
  | cons b l ih => intro c h; exact ih (crcByte_lt h b)
theorem crcLs_lt (ls : List (List UInt8)) {c : Nat} (h : c < 4294967296) : crcLs c ls < 4294967296 := by
  rw [crcLs_flat]; exact crcL_lt _ h

/-- The document's sum of a list of parts. -/
def crc (ls : List (List UInt8)) : Nat := 4294967295 ^^^ crcLs 4294967295 ls

theorem crc_lt (ls : List (List UInt8)) : crc ls < 4294967296 := Nat.xor_lt_two_pow (n := 32) (by decide) (crcLs_lt _ (by decide))
/-- So many bits of the division. -/
def s1n : Nat → Nat → Nat
  | 0, c => c
  | n + 1, c => s1 (s1n n c)
theorem s1n_lt (n : Nat) {c : Nat} (h : c < 4294967296) : s1n n c < 4294967296 := by
  induction n with
  | zero => exact h
  | succ n ih => exact s1_lt ih
theorem s1n_eight (c : Nat) : s1n 8 c = nib (nib c) := by simp only [nib_eq, s4, s1n]

/-- One step of the fingerprint. -/
def fnv (h b : Nat) : Nat := (h ^^^ b) * 1099511628211 % 18446744073709551616
def fnvL (h : Nat) (l : List UInt8) : Nat := l.foldl (fun h c => fnv h c.toNat) h
def fnvN (h n : Nat) : Nat := fnv (fnv (fnv (fnv h (n / 16777216 % 256)) (n / 65536 % 256)) (n / 256 % 256)) (n % 256)
def fnvS (h : Nat) (s : ByteArray) : Nat := fnvL (fnvN h (s.size % 4294967296)) s.data.toList
def prints (h : Nat) (ss : List ByteArray) : Nat := ss.foldl fnvS h
theorem fnv_lt (h b : Nat) : fnv h b < 18446744073709551616 := Nat.mod_lt _ (by decide)
theorem fnvL_lt (l : List UInt8) : ∀ {h : Nat}, h < 18446744073709551616 → fnvL h l < 18446744073709551616 := by
  induction l with
  | nil => intro h hh; exact hh
  | cons b l ih => intro h _; exact ih (fnv_lt _ _)
theorem fnvN_lt (h n : Nat) : fnvN h n < 18446744073709551616 := fnv_lt _ _
theorem fnvS_lt (h : Nat) (s : ByteArray) : fnvS h s < 18446744073709551616 := fnvL_lt _ (fnvN_lt _ _)
theorem prints_lt (ss : List ByteArray) : ∀ {h : Nat}, h < 18446744073709551616 → prints h ss < 18446744073709551616 := by
  induction ss with
  | nil => intro h hh; exact hh
  | cons b l ih => intro h _; exact ih (fnvS_lt _ _)
end Go.Proofs.YtimblkkojcbipaaDoor.Sums
/- Walks of package sum's functions: what each call answers, and that it leaves the world alone. -/
namespace Go.Proofs.YtimblkkojcbipaaDoor
open Go.RowKit Sums

theorem ret_num {k : IntKind} {a b : Int} (h : a = b) : Ending.returned (.int k a) = .returned (.int k b) := by rw [h]

/-- The program's table, as its cells hold it. -/
def Tab (w : World) : Prop := ∀ i x, tab[i]? = some x → w.cell? ⟨0, i, none⟩ = some (.int .u32 (x : Nat))
theorem Tab.below {w w' : World} {B : Nat} (h : Tab w) (hB : 0 < B) (hb : Below B w w') : Tab w' := fun i x hx => (hb.cell (p := ⟨0, i, none⟩) hB).trans (h i x hx)

theorem tab_lt : ∀ i, i < 16 → tab.getD i 0 < 4294967296 := by decide
/-- What the walk meets at one look into the table. -/
theorem nib_pack {w : World} (hT : Tab w) (x : Nat) (hx : x < 4294967296) :
    ∃ a t y : Nat, a < 16 ∧ bits .and .u32 (x : Int) 15 = (a : Int) ∧ w.cell? ⟨0, a, none⟩ = some (.int .u32 (t : Int)) ∧ bits .xor .u32 ((x : Int) / 16) (t : Int) = (y : Int) ∧ y = nib x ∧ y < 4294967296 := by
  have ha : x % 16 < 16 := Nat.mod_lt _ (by decide)
  refine ⟨x % 16, tab.getD (x % 16) 0, nib x, ha, ?_, ?_, ?_, rfl, nib_lt hx⟩
  · have := u32_and_nat x 15 hx (by decide)
    rw [show (15 : Nat) = 2 ^ 4 - 1 from rfl, Nat.and_two_pow_sub_one_eq_mod] at this
    exact this
  · refine hT _ _ ?_
    have hl : x % 16 < tab.length := ha
    rw [List.getD_eq_getElem?_getD, List.getElem?_eq_getElem hl]; rfl
  · have := u32_xor_nat (x / 16) (tab.getD (x % 16) 0) (by omega) (tab_lt _ ha)
    rw [show ((x : Int) / 16) = ((x / 16 : Nat) : Int) by omega]
    exact this

theorem crcL_snoc (c : Nat) (l : List UInt8) (k : Nat) (h : k < l.length) : crcL c (l.take (k + 1)) = nib (nib (crcL c (l.take k) ^^^ l[k].toNat)) := by
  rw [List.take_succ_eq_append_getElem h, crcL, List.foldl_append]; rfl

set_option maxHeartbeats 400000 in
theorem addToCrc_any (c : Nat) (v : Value) (l : List UInt8) (w : World) (B : Nat) (hc : c < 4294967296) (hv : BytesV w B v l) (hT : Tab w) :
    Calls Tryd.prog 89 #[.int .u32 c, v] w fun e w' => e = .returned (.int .u32 (crcL c l : Nat)) ∧ w = w' := by
  obtain ⟨A, cap, rfl, h1, h2, hs⟩ := hv
  unfold maxLen at h2
  go_enter Tryd.func89, Tryd.ntmps89
  go_wp2
  go_loop [0, 9] (fun x i => ∃ k : Nat, k ≤ l.length ∧ i = .int .i64 k ∧ x = .int .u32 (crcL c (l.take k) : Nat)) (fun _ i => l.length - (intOf i).toNat)
  case atStart => exact ⟨0, Nat.zero_le _, rfl, rfl⟩
  case round =>
    obtain ⟨k, hk, rfl, rfl⟩ := hrel
    have hcl : crcL c (l.take k) < 4294967296 := crcL_lt _ hc
    by_cases hlt : k < l.length
    · obtain ⟨b, o, rfl, _, hcell⟩ := hs.get (bv_get hlt)
      have hsn := crcL_snoc c l k hlt
      generalize crcL c (l.take k) = c' at *
      have hb := l[k].toNat_lt
      generalize l[k].toNat = m at *
      have hX := u32_xor_nat c' m hcl (by omega)
      have hxl : c' ^^^ m < 4294967296 := Nat.xor_lt_two_pow (n := 32) (by omega) (by omega)
      generalize c' ^^^ m = x at *
      obtain ⟨a, t, y, ha, hA, hC, hY, hy, hyl⟩ := nib_pack hT x hxl
      obtain ⟨a2, t2, z, ha2, hA2, hC2, hZ, hz, hzl⟩ := nib_pack hT y hyl
      rw [← hy, ← hz] at hsn
      replace hsn := hide hsn
      replace hy := hide hy
      replace hz := hide hz
      clear hT hs
      go_wp2
      go_round
      case rel => exact ⟨k + 1, by omega, by go_num, by rw [hsn.out]⟩
      case measure => simp [intOf]; omega
    · go_wp2
      go_ret
      obtain rfl : k = l.length := by omega
      exact ⟨ret_num (by rw [List.take_of_length_le (Nat.le_refl _)]), rfl⟩

theorem crcLs_snoc (c : Nat) (ls : List (List UInt8)) (k : Nat) (h : k < ls.length) : crcLs c (ls.take (k + 1)) = crcL (crcLs c (ls.take k)) ls[k] := by
  rw [List.take_succ_eq_append_getElem h, crcLs, List.foldl_append]; rfl

theorem crc_end (ls : List (List UInt8)) : bits .xor .u32 IntKind.u32.max (crcLs 4294967295 ls : Nat) = (crc ls : Nat) :=
  u32_xor_nat 4294967295 _ (by decide) (crcLs_lt _ (by decide))
theorem crc_end' (ls : List (List UInt8)) : bits .xor .u32 IntKind.u32.max (crcLs 4294967295 (ls.take ls.length) : Nat) = (crc ls : Nat) := by
  rw [List.take_of_length_le (Nat.le_refl _)]; exact crc_end ls

set_option maxHeartbeats 400000 in
theorem crc_any (v : Value) (ls : List (List UInt8)) (w : World) (B : Nat) (hv : RowsV w B v ls) (hT : Tab w) :
    Calls Tryd.prog 83 #[v] w fun e w' => e = .returned (.int .u32 (crc ls : Nat)) ∧ w = w' := by
  obtain ⟨A, cap, vs, rfl, h1, h2, hs, hvs, hl⟩ := hv
  unfold maxLen at h2
  replace hvs := hide hvs
  replace hT := hide hT
  replace hl := hide hl
  go_enter Tryd.func83, Tryd.ntmps83
  go_wp2
  go_loop [3, 8] (fun x i => ∃ k : Nat, k ≤ ls.length ∧ i = .int .i64 k ∧ x = .int .u32 (crcLs 4294967295 (ls.take k) : Nat)) (fun _ i => ls.length - (intOf i).toNat)
  case atStart => exact ⟨0, Nat.zero_le _, rfl, rfl⟩
  case round =>
    obtain ⟨k, hk, rfl, rfl⟩ := hrel
    have hcl : crcLs 4294967295 (ls.take k) < 4294967296 := crcLs_lt _ (by decide)
    by_cases hlt : k < ls.length
    · have hkv : k < vs.length := by rw [hvs.out]; exact hlt
      obtain ⟨b, o, rfl, _, hcell⟩ := hs.get (List.getElem?_eq_getElem hkv)
      have hrow := hide (hl.out k _ _ (List.getElem?_eq_getElem hkv) (List.getElem?_eq_getElem hlt))
      have hsn := hide (crcLs_snoc 4294967295 ls k hlt)
      generalize crcLs 4294967295 (ls.take k) = c' at *
      generalize vs[k] = v' at *
      go_wp2_with (go_at_call 89; refine (addToCrc_any _ _ _ _ _ (by omega) hrow.out hT.out).mono ?_; rintro e w' ⟨rfl, rfl⟩)
      go_round
      case rel => exact ⟨k + 1, by omega, by go_num, by rw [hsn.out]⟩
      case measure => simp [intOf]; omega
    · obtain rfl : k = ls.length := by omega
      go_wp2
      go_ret
      exact ⟨ret_num (crc_end ls), rfl⟩
end Go.Proofs.YtimblkkojcbipaaDoor
/- Frames: written. -/
namespace Go.Proofs.YtimblkkojcbipaaDoor
open Go Go.RowKit
open Sums (crc)
theorem byte_size : (Tryd.prog.info? 5).map (·.size) = some 1 := by kernel_rfl
def frame (r : List UInt8) : List UInt8 := num4 r.length ++ num4 (crc [num4 r.length, r]) ++ r
def frames (rs : List (List UInt8)) : List UInt8 := (rs.map frame).flatten
theorem frame_len (r : List UInt8) : (frame r).length = 8 + r.length := by simp [frame, num_len]; omega
theorem frames_nil : frames [] = [] := rfl
theorem frames_cons (r : List UInt8) (rs : List (List UInt8)) : frames (r :: rs) = frame r ++ frames rs := by simp [frames]
theorem frames_append (a b : List (List UInt8)) : frames (a ++ b) = frames a ++ frames b := by simp [frames]

/-- A slice that isn't nil. -/
def NonNil (v : Value) : Prop := ∃ a n c, v = .slice (some a) n c
theorem ArgV.bytes {w : World} {S : Nat → Prop} {v : Value} {l : List UInt8} (h : ArgV w S v (bv l)) : BytesV w w.heap.size v l := by
  obtain ⟨A, c, rfl, h2, h3, h4⟩ := h
  rw [bv_len] at h2
  refine ⟨A, c, by rw [bv_len], h2, h3, ?_⟩
  rcases h4 with h4 | ⟨b, o, rfl, _, hc⟩
  · exact .inl h4
  · cases l with
    | nil => exact .inl rfl
    | cons x l => exact .inr ⟨b, o, rfl, World.block_lt_of_cell? w _ (hc 0 _ rfl), hc⟩
theorem RowB.nonNil {w : World} {B : Nat} {v : Value} {l : List UInt8} (h : RowB w B v l) (hl : 0 < l.length) : NonNil v := by
  obtain ⟨h1, h2⟩ := h
  rcases h2 with ⟨rfl, h0⟩ | ⟨g, cap, cur, rfl, _⟩
  · omega
  · exact ⟨_, _, _, rfl⟩
section
variable {w : World} {ops : Array Oper} {rest : List Oper} {o : Oper} {a : Act} {Q : Exit → Act → World → Prop}
/-- The walk's law: bytes behind a row of the call's own. -/
theorem wp_cat (hgd : o.guard = none) (s x : Operand) (ho : o.op = .call { callee := .builtin .append, args := #[s, x], argTypes := #[34, 34] })
    (B : Nat) (v : Value) (l : List UInt8) (hs : a.eval s = v) (hown : RowB w B v l) (S : Nat → Prop) (u : Value) (m : List UInt8) (hx : a.eval x = u) (hu : ArgV w S u (bv m)) (hnn : NonNil u)
    (hlen : l.length + m.length ≤ 70368744177664) (hbase : B ≤ w.heap.size)
    (h : ∀ v' w', RowB w' B v' (l ++ m) → Mv w (Own v) w' (Own v') → wpList Tryd.prog ops Q rest (a.put o.dst v') w') : wpList Tryd.prog ops Q (o :: rest) a w := by
  obtain ⟨ad, n, c, rfl⟩ := hnn
  obtain ⟨A, c', h1, h2, h3, h4⟩ := hu
  injection h1 with e1 e2 e3
  subst e1 e2 e3
  refine wp_bytes hgd s x ho B v l hs hown ad (bv m).length c m hx (bv_len m) ?_ hlen hbase ?_
  · intro j u hj
    rcases h4 with h4 | ⟨b, o', hA, _, hc⟩
    · rw [h4] at hj; simp at hj
    · obtain rfl := Option.some.inj hA
      rw [Go.WideShapes.add_plain]
      exact hc j u hj
  · intro v' w' g1 g2 g3
    exact h v' w' g1 ⟨.grown g2 fun _ hk => hk, g3⟩
end

theorem checksum_any {w : World} {S1 S2 : Nat → Prop} {v1 v2 : Value} {l1 l2 : List UInt8} (h1 : ArgV w S1 v1 (bv l1)) (h2 : ArgV w S2 v2 (bv l2)) (hT : Tab w) (h0 : 0 < w.heap.size) :
    Calls Tryd.prog 72 #[v1, v2] w fun e w' => e = .returned (.int .i64 (crc [l1, l2] : Nat)) ∧ Below w.heap.size w w' := by
  have hc : (crc [l1, l2] : Nat) < 4294967296 := Sums.crc_lt _
  have b1 := h1.bytes
  have b2 := h2.bytes
  have hcr : Calls Tryd.prog 83 #[.slice (some ⟨w.heap.size, 0, none⟩) 2 2] (w.alloc (.cells #[v1, v2] 34)) fun e w' => e = .returned (.int .u32 (crc [l1, l2] : Nat)) ∧ w.alloc (.cells #[v1, v2] 34) = w' :=
    crc_any _ _ _ (w.heap.size + 1) (RowsV.two w l1 l2 v1 v2 34 (0, 0) w.heap.size (w.heap.size + 1) rfl (Nat.lt_succ_self _) b1 b2) (fun i x hx => ((Below.refl w.heap.size w).alloc (Nat.le_refl _) _).cell (by exact h0) |>.trans (hT i x hx))
  obtain ⟨A1, k1, rfl, -⟩ := h1
  obtain ⟨A2, k2, rfl, -⟩ := h2
  clear b1 b2
  go_enter Tryd.func72, Tryd.ntmps72
  go_wp2_with fail
  refine hcr.mono ?_
  rintro e w' ⟨rfl, rfl⟩
  go_wp2_with fail
  go_ret
  exact ⟨rfl, (Below.refl w.heap.size w).alloc (Nat.le_refl _) _⟩
theorem ArgV.mono' {w w' : World} {S : Nat → Prop} {v : Value} {xs : List Value} (h : ArgV w' S v xs) (h' : ArgV w S v xs) : ArgV w' (fun k => S k ∧ k < w.heap.size) v xs := by
  obtain ⟨A, c, rfl, h2, h3, h4⟩ := h
  obtain ⟨A', c', e, _, _, h5⟩ := h'
  injection e with e _ _
  subst e
  refine ⟨A, c, rfl, h2, h3, ?_⟩
  rcases h4 with h4 | ⟨b, o, rfl, hb, hc⟩
  · exact .inl h4
  · rcases h5 with h5 | ⟨b', o', e, _, hc'⟩
    · exact .inl h5
    · injection e with e
      injection e with e1 e2
      subst e1 e2
      cases xs with
      | nil => exact .inl rfl
      | cons x xs => exact .inr ⟨b, o, rfl, ⟨hb, World.block_lt_of_cell? w _ (hc' 0 x rfl)⟩, hc⟩
theorem Tab.upd {w w' : World} {F : Nat → Prop} (h : Tab w) (hu : Upd F w w') (h0 : ¬ F 0) : Tab w' := fun i x hx => hu.cell (h i x hx) h0
theorem RowB.own_ge {w : World} {B : Nat} {v : Value} {l : List UInt8} (h : RowB w B v l) {k : Nat} (hk : Own v k) : B ≤ k ∧ k < w.heap.size := by
  rcases h.2 with ⟨rfl, h0⟩ | ⟨g, cap, cur, rfl, hb, hg, _⟩
  · cases hk
  · have : g = k := by simpa [Own, Value.ownBlock] using hk
    subst this
    exact ⟨hb, (Array.getElem?_eq_some_iff.1 hg).1⟩
theorem ArgV.mv {w w' : World} {S O O' : Nat → Prop} {v : Value} {xs : List Value} (h : ArgV w S v xs) (hm : Mv w O w' O') (hS : ∀ k, S k → ¬ O k) : ∃ S', ArgV w' S' v xs ∧ (∀ k, S' k → ¬ O' k) ∧ ∀ k, S' k → S k ∧ k < w.heap.size :=
  ⟨fun k => S k ∧ k < w.heap.size, (h.upd hm.1 hS).mono' h, fun k hk ho => (hm.2 k ho).elim (hS k hk.1) (fun h => by have := hk.2; omega), fun _ h => h⟩
set_option maxRecDepth 100000 in
theorem appendFrame_any {w : World} {B : Nat} {v : Value} {l : List UInt8} (h : RowB w B v l) (hB : B ≤ w.heap.size) {S : Nat → Prop} {u : Value} {r : List UInt8} (hr : ArgV w S u (bv r)) (hnn : NonNil u) (hd : ∀ k, S k → ¬ Own v k) (hT : Tab w) (h0 : 0 < B)
    (hl : l.length ≤ 35184372088832) (hrl : r.length < 4294967296) :
    Calls Tryd.prog 74 #[v, u] w fun e w' => ∃ v', e = .returned v' ∧ RowB w' B v' (l ++ frame r) ∧ Mv w (Own v) w' (Own v') := by
  have hn1 := appendNumber_any (RowB.nil_ w w.heap.size) (by simp) (Nat.le_refl _) r.length hrl
  obtain ⟨ad, n, c, rfl⟩ := id hnn
  obtain rfl : n = r.length := by obtain ⟨A, c', h1, _⟩ := hr; injection h1 with _ h1; rw [h1, bv_len]
  obtain ⟨Av, nv, cv, rfl⟩ := h.slice
  replace h := hide h
  replace hr := hide hr
  replace hnn := hide hnn
  replace hd := hide hd
  replace hT := hide hT
  go_enter Tryd.func74, Tryd.ntmps74
  go_wp2_with fail
  refine hn1.mono ?_
  rintro e w1 ⟨vL, rfl, hL, hm1⟩
  have hu1 : Upd (fun _ => False) w w1 := hm1.1.mono fun k _ h => by cases h
  have hLn := hL.nonNil (by simp [num_len])
  have hw1 := hu1.size
  have hv1 : RowB w1 B (.slice Av nv cv) l := h.out.upd hu1 fun _ _ => id
  have hr1 := hr.out.upd hu1 fun _ _ => id
  have hT1 := hT.out.upd hu1 id
  have hLa := hL.arg
  have hLd : ∀ k, w.heap.size ≤ k → ¬ Own (.slice Av nv cv) k := fun k hk ho => by have := (h.out.own_ge ho).2; omega
  obtain ⟨AL, nL, cL, rfl⟩ := hL.slice
  rw [List.nil_append] at hLa
  clear hn1 hm1 hL
  replace hu1 := hide hu1
  replace hLn := hide hLn
  replace hv1 := hide hv1
  replace hr1 := hide hr1
  replace hT1 := hide hT1
  replace hLa := hide hLa
  replace hLd := hide hLd
  go_wp2_with (at_builtin; refine wp_cat rfl (.tmp 9) (.tmp 10) rfl B _ l rfl hv1.out _ _ (num4 r.length) rfl hLa.out hLn.out ?_ ?_ ?_)
  · rw [num_len]; omega
  · omega
  intro v2 w2 h2 m2
  obtain ⟨SL, hL2, dL2, sL2⟩ := hLa.out.mv m2 hLd.out
  obtain ⟨Sr, hr2, dr2, sr2⟩ := hr1.out.mv m2 hd.out
  have hT2 := hT1.out.upd m2.1 (fun h => by have := (hv1.out.own_ge h).1; omega)
  have hw2 := m2.1.size
  obtain ⟨A2, n2, c2, rfl⟩ := h2.slice
  replace h2 := hide h2
  replace m2 := hide m2
  replace dL2 := hide dL2
  replace dr2 := hide dr2
  replace hL2 := hide hL2
  replace hr2 := hide hr2
  replace hT2 := hide hT2
  clear hLa hLd hr1 hT1 sL2 sr2
  go_wp2_with fail
  refine (checksum_any hL2.out hr2.out hT2.out (by omega)).mono ?_
  rintro e w3 ⟨rfl, hb3⟩
  have hu3 : Upd (fun _ => False) w2 w3 := .of_below _ hb3
  have hv3 := h2.out.upd hu3 fun _ _ => id
  have hw3 := hu3.size
  obtain ⟨Sr3, hr3, dr3, sr3⟩ := hr2.out.mv (⟨hu3, fun k => .inl⟩ : Mv w2 _ w3 _) (fun _ _ => id)
  have dr3' := fun k hk => dr2.out k (sr3 k hk).1
  replace hu3 := hide hu3
  replace hv3 := hide hv3
  replace hr3 := hide hr3
  replace dr3' := hide dr3'
  clear hb3 dr3 sr3
  go_wp2_with fail
  refine (appendNumber_any hv3.out ?_ (by omega) _ (Sums.crc_lt _)).mono ?_
  · simp only [List.length_append, num_len]; omega
  rintro e w4 ⟨v4, rfl, h4, m4⟩
  obtain ⟨Sr4, hr4, dr4, sr4⟩ := hr3.out.mv m4 dr3'.out
  have hw4 := m4.1.size
  obtain ⟨A4, n4, c4, rfl⟩ := h4.slice
  replace h4 := hide h4
  replace m4 := hide m4
  replace hr4 := hide hr4
  replace dr4 := hide dr4
  clear sr4
  go_wp2_with (at_builtin; refine wp_cat rfl (.tmp 17) (.tmp 18) rfl B _ (l ++ num4 r.length ++ num4 (crc [num4 r.length, r])) rfl h4.out _ _ r rfl hr4.out hnn.out ?_ ?_ ?_)
  · simp only [List.length_append, num_len]; omega
  · omega
  intro v5 w5 h5 m5
  replace h5 := hide h5
  replace m5 := hide m5
  go_wp2_with fail
  go_ret
  refine ⟨_, rfl, by have := h5.out; simpa [frame] using this, ?_⟩
  have hu31 : Upd (fun k => Own (.slice A2 n2 c2) k) w2 w3 := hu3.out.mono fun _ _ h => h.elim
  have hu11 : Upd (fun k => Own (.slice Av nv cv) k) w w1 := hu1.out.mono fun _ _ h => h.elim
  exact (((Mv.trans ⟨hu11, fun k => .inl⟩ m2.out).trans ⟨hu31, fun k => .inl⟩).trans m4.out).trans m5.out
end Go.Proofs.YtimblkkojcbipaaDoor
/- Frames of many records; the reader of frames. -/
namespace Go.Proofs.YtimblkkojcbipaaDoor
open Go Go.RowKit
open Sums (crc)
/-- The value v is a list of records, in blocks of S. -/
def RecsV (w : World) (S : Nat → Prop) (v : Value) (rs : List (List UInt8)) : Prop :=
  ∃ vs, vs.length = rs.length ∧ ArgV w S v vs ∧ ∀ (i : Nat) (u : Value) (r : List UInt8), vs[i]? = some u → rs[i]? = some r → ArgV w S u (bv r) ∧ NonNil u
theorem RecsV.upd {w w' : World} {F S : Nat → Prop} {v : Value} {rs : List (List UInt8)} (h : RecsV w S v rs) (hu : Upd F w w') (hS : ∀ k, S k → ¬ F k) : RecsV w' S v rs := by
  obtain ⟨vs, h1, h2, h3⟩ := h
  exact ⟨vs, h1, h2.upd hu hS, fun i u r hi hr => ⟨(h3 i u r hi hr).1.upd hu hS, (h3 i u r hi hr).2⟩⟩
theorem frames_take (rs : List (List UInt8)) (k : Nat) (h : k < rs.length) : frames (rs.take (k + 1)) = frames (rs.take k) ++ frame rs[k] := by
  rw [List.take_succ_eq_append_getElem h, frames_append]; simp [frames]
theorem frames_le (rs : List (List UInt8)) (k : Nat) : (frames (rs.take k)).length ≤ (frames rs).length := by
  conv => rhs; rw [← List.take_append_drop k rs, frames_append]
  simp
theorem frame_le (rs : List (List UInt8)) (k : Nat) (h : k < rs.length) : rs[k].length ≤ (frames rs).length := by
  have h1 := frames_take rs k h
  have h2 := frames_le rs (k + 1)
  rw [h1, List.length_append, frame_len] at h2
  omega
set_option maxRecDepth 100000 in
theorem framesOf_any {w : World} {S : Nat → Prop} {v : Value} {rs : List (List UInt8)} (h : RecsV w S v rs) (hT : Tab w) (h0 : 0 < w.heap.size) (hl : (frames rs).length ≤ 4294967295) :
    Calls Tryd.prog 58 #[v] w fun e w' => ∃ v', e = .returned v' ∧ RowB w' w.heap.size v' (frames rs) ∧ Below w.heap.size w w' := by
  obtain ⟨vs, hvs, ha, hrs⟩ := h
  obtain ⟨A, c, rfl, hc1, hc2, hcells⟩ := ha
  rw [hvs] at hc1 ⊢
  have hc2' : c ≤ 9223372036854775807 := by unfold maxLen at hc2; exact hc2
  replace hT := hide hT
  replace hrs := hide hrs
  replace hcells := hide hcells
  replace hc2 := hide hc2
  replace hvs := hide hvs
  go_enter Tryd.func58, Tryd.ntmps58
  go_wp2_with fail
  go_loopw [3, 8] (fun b i wr => ∃ k : Nat, k ≤ rs.length ∧ i = .int .i64 k ∧ RowB wr w.heap.size b (frames (rs.take k)) ∧ Upd (fun _ => False) w wr) (fun _ i _ => rs.length - (intOf i).toNat)
  case atStart => exact ⟨0, Nat.zero_le _, rfl, by simpa [frames] using RowB.nil_ w _, .refl _ _⟩
  case round =>
    obtain ⟨k, hk, rfl, hb, hU⟩ := hrel
    obtain ⟨A2, n2, c2, rfl⟩ := hb.slice
    replace hb := hide hb
    replace hU := hide hU
    rcases Nat.lt_or_ge k rs.length with hlt | hge
    · obtain ⟨u, hu⟩ : ∃ u, vs[k]? = some u := ⟨vs[k]'(by rw [hvs.out]; exact hlt), List.getElem?_eq_getElem _⟩
      obtain ⟨b, o, rfl, hS, hc⟩ : ∃ b o, A = some ⟨b, o, none⟩ ∧ S b ∧ w.cell? ⟨b, o + k, none⟩ = some u := by
        rcases hcells.out with h | ⟨b, o, h1, h2, h3⟩
        · rw [h] at hu; simp at hu
        · exact ⟨b, o, h1, h2, h3 k u hu⟩
      have hc' := hU.out.cell hc id
      have hru := hrs.out k u rs[k] hu (List.getElem?_eq_getElem hlt)
      have hr2 := hru.1.upd hU.out fun _ _ => id
      have hfl := frames_le rs k
      have hrl := frame_le rs k hlt
      have hap := appendFrame_any hb.out hU.out.size (ArgV.mono' hr2 hru.1) hru.2 (fun j hj ho => by have := (hb.out.own_ge ho).1; omega) (hT.out.upd hU.out id) h0 (by omega) (by omega)
      obtain ⟨ad, nu, cu, rfl⟩ := hru.2
      replace hru := hide hru
      replace hr2 := hide hr2
      replace hu := hide hu
      replace hfl := hide hfl
      replace hrl := hide hrl
      clear hc
      go_wp2_with fail
      refine hap.mono ?_
      rintro e w2 ⟨v3, rfl, h3, m3⟩
      replace h3 := hide h3
      replace m3 := hide m3
      go_wp2_with fail
      go_roundw
      case rel =>
        refine ⟨k + 1, hlt, by go_num, by rw [frames_take rs k hlt]; exact h3.out, ?_⟩
        exact hU.out.trans m3.out.1 fun j hj ho => by have := (hb.out.own_ge ho).1; omega
      case measure => simp [intOf]; omega
    · obtain rfl : k = rs.length := by omega
      clear hge
      go_wp2_with fail
      go_ret
      refine ⟨_, rfl, by simpa using hb.out, hU.out.below (Nat.le_refl _) fun _ h => h.elim⟩
end Go.Proofs.YtimblkkojcbipaaDoor
/- slices.Grow of nothing, slices.Concat. -/
namespace Go.Proofs.YtimblkkojcbipaaDoor
open Go Go.RowKit
theorem run_append_none {w : World} {a : Addr} {n c : Nat} (h : n ≤ c) (ty : TypeId) : (Builtin.append_ #[34, 34] ty #[.slice (some a) n c, .slice none 0 0]).run Tryd.prog w = .ok (.slice (some a) n c) w := by
  obtain ⟨i0, hi, hz0, hz1, hz2⟩ := info_parts byte_info
  simp [Builtin.append_, run_underlying Tryd.underlying34, sizeOf, typeInfo, hi, Builtin.lenOf, Builtin.firstCells, loadCells, storeCells, h]
theorem run_append_nones {w : World} (ty : TypeId) : (Builtin.append_ #[34, 34] ty #[.slice none 0 0, .slice none 0 0]).run Tryd.prog w = .ok (.slice none 0 0) w := by
  obtain ⟨i0, hi, hz0, hz1, hz2⟩ := info_parts byte_info
  simp [Builtin.append_, run_underlying Tryd.underlying34, sizeOf, typeInfo, hi, Builtin.lenOf, Builtin.firstCells]
theorem RowB.append_none {w : World} {B : Nat} {v : Value} {l : List UInt8} (h : RowB w B v l) (ty : TypeId) : (Builtin.append_ #[34, 34] ty #[v, .slice none 0 0]).run Tryd.prog w = .ok v w := by
  rcases h.2 with ⟨rfl, h0⟩ | ⟨g, cap, cur, rfl, hb, hg, hle, -⟩
  · exact run_append_nones ty
  · exact run_append_none hle ty
theorem wp_append_run {w w' : World} {ops : Array Oper} {rest : List Oper} {o : Oper} {a : Act} {Q : Exit → Act → World → Prop} (hgd : o.guard = none) (s x : Operand) (t1 t2 : TypeId) (ho : o.op = .call { callee := .builtin .append, args := #[s, x], argTypes := #[t1, t2] })
    (vs vx v' : Value) (hs : a.eval s = vs) (hx : a.eval x = vx) (hr : (Builtin.append_ #[t1, t2] o.type #[vs, vx]).run Tryd.prog w = .ok v' w') (h : wpList Tryd.prog ops Q rest (a.put o.dst v') w') : wpList Tryd.prog ops Q (o :: rest) a w := by
  refine wpList_plain hgd fun K hK => ?_
  unfold Oper.wp execOp
  simp only [ho, resolve, invoke, builtin, Sem.run_bind, Sem.run_pure, Result.andThen_ok, List.map_toArray, List.map_cons, List.map_nil, hs, hx, hr]
  exact hK _ _ h
set_option maxRecDepth 100000 in
theorem grow_any {w : World} (n : Nat) (hn : 0 < n) (hn2 : n ≤ 4294967296) : Calls Tryd.prog 84 #[.slice none 0 0, .int .i64 n] w fun e w' => ∃ v', e = .returned v' ∧ NonNil v' ∧ RowB w' w.heap.size v' [] ∧ Below w.heap.size w w' := by
  obtain ⟨i0, hi, hz0, hz1, hz2⟩ := info_parts byte_info
  have happ := Lib.run_append_nil_zeros (P := Tryd.prog) w 34 3 34 5 i0 (.int .u8 0) .i64 .i64 Tryd.underlying34 Tryd.underlying3 hi hz0 n hn (by omega) (by omega) (by rw [hz2]; omega)
  have hge := grownCap_ge w n 0 5
  have hle := grownCap_le_maxLen w n 0 5 (by unfold maxLen; omega)
  generalize grownCap w n 0 5 = cap2 at happ hge hle
  have hle' : cap2 ≤ 9223372036854775807 := by unfold maxLen at hle; exact hle
  have hZs : (Builtin.zeroCells (Value.int .u8 0).cells n ++ Builtin.zeroCells (Value.int .u8 0).cells (cap2 - n)).size = cap2 := by simp [size_zeroCells, Value.cells]; omega
  generalize (Builtin.zeroCells (Value.int .u8 0).cells n ++ Builtin.zeroCells (Value.int .u8 0).cells (cap2 - n)) = Z at happ hZs
  obtain ⟨W1, hW1⟩ : ∃ W1, W1 = w.drew.alloc (.cells Z 5) := ⟨_, rfl⟩
  have hblk : W1.heap[w.heap.size]? = some (.cells Z 5) := by rw [hW1]; exact heap_new w.drew _
  have hB : Below w.heap.size w W1 := by rw [hW1]; exact ((Below.refl _ w).drew).alloc (Nat.le_refl _) _
  rw [← hW1] at happ
  clear hi hz0 hz1 hz2 hW1
  replace hblk := hide hblk
  replace hB := hide hB
  replace hZs := hide hZs
  replace happ := hide happ
  go_enter Tryd.func84, Tryd.ntmps84
  go_wp2_with (at_builtin; refine wp_append_run rfl (.tmp 20) (.tmp 21) 34 3 rfl _ _ _ rfl rfl happ.out ?_)
  go_ret
  refine ⟨_, rfl, ⟨_, _, _, rfl⟩, ⟨rfl, .inr ⟨w.heap.size, cap2, Z, rfl, Nat.le_refl _, hblk.out, Nat.zero_le _, hle, by simpa using hZs.out, by simp [bv]⟩⟩, hB.out⟩
theorem flat_take (rs : List (List UInt8)) (k : Nat) (h : k < rs.length) : (rs.take (k + 1)).flatten = (rs.take k).flatten ++ rs[k] := by
  rw [List.take_succ_eq_append_getElem h, List.flatten_append]; simp
theorem flat_le (rs : List (List UInt8)) (k : Nat) : (rs.take k).flatten.length ≤ rs.flatten.length := by
  conv => rhs; rw [← List.take_append_drop k rs, List.flatten_append]
  simp
/-- Rows to be put together: some may be nil. -/
def RowsN (w : World) (S : Nat → Prop) (v : Value) (rs : List (List UInt8)) : Prop :=
  ∃ vs, vs.length = rs.length ∧ ArgV w S v vs ∧ ∀ (i : Nat) (u : Value) (r : List UInt8), vs[i]? = some u → rs[i]? = some r → ArgV w S u (bv r) ∧ (NonNil u ∨ u = .slice none 0 0)
set_option maxRecDepth 100000 in
set_option maxHeartbeats 1000000 in
theorem concat_any {w : World} {S : Nat → Prop} {v : Value} {rs : List (List UInt8)} (h : RowsN w S v rs) (hpos : 0 < rs.flatten.length) (hl : rs.flatten.length ≤ 4294967296) :
    Calls Tryd.prog 76 #[v] w fun e w' => ∃ v', e = .returned v' ∧ NonNil v' ∧ RowB w' w.heap.size v' rs.flatten ∧ Below w.heap.size w w' := by
  obtain ⟨vs, hvs, ha, hrs⟩ := h
  obtain ⟨A, c, rfl, hc1, hc2, hcells⟩ := ha
  rw [hvs] at hc1 ⊢
  have hc2' : c ≤ 9223372036854775807 := by unfold maxLen at hc2; exact hc2
  replace hrs := hide hrs
  replace hcells := hide hcells
  replace hc2 := hide hc2
  replace hvs := hide hvs
  obtain ⟨T, hT⟩ : ∃ T, T = rs.flatten.length := ⟨_, rfl⟩
  have hfl := flat_le rs
  rw [← hT] at hpos hl
  simp only [← hT] at hfl
  have hft := flat_take rs
  replace hT := hide hT
  replace hfl := hide hfl
  replace hft := hide hft
  have hat : ∀ k, k < rs.length → ∃ b o u, A = some ⟨b, o, none⟩ ∧ w.cell? ⟨b, o + k, none⟩ = some u ∧ ArgV w S u (bv (rs.getD k [])) ∧ (NonNil u ∨ u = .slice none 0 0) := by
    intro k hk
    obtain ⟨u, hu⟩ : ∃ u, vs[k]? = some u := ⟨vs[k]'(by rw [hvs.out]; exact hk), List.getElem?_eq_getElem _⟩
    obtain ⟨b, o, rfl, hS, hc⟩ : ∃ b o, A = some ⟨b, o, none⟩ ∧ S b ∧ w.cell? ⟨b, o + k, none⟩ = some u := by
      rcases hcells.out with h | ⟨b, o, h1, h2, h3⟩
      · rw [h] at hu; simp at hu
      · exact ⟨b, o, h1, h2, h3 k u hu⟩
    have hru := hrs.out k u (rs.getD k []) hu (by rw [List.getD_eq_getElem?_getD, List.getElem?_eq_getElem hk]; rfl)
    exact ⟨b, o, u, rfl, hc, hru.1, hru.2⟩
  replace hat := hide hat
  go_enter Tryd.func76, Tryd.ntmps76
  go_wp2_with fail
  go_loopw [3, 11] (fun z i wr => ∃ k : Nat, k ≤ rs.length ∧ i = .int .i64 k ∧ z = .int .i64 ((rs.take k).flatten.length : Nat) ∧ wr = w) (fun _ i _ => rs.length - (intOf i).toNat)
  case atStart => exact ⟨0, Nat.zero_le _, rfl, by simp, rfl⟩
  case round =>
    obtain ⟨k, hk, rfl, rfl, hwr⟩ := hrel
    obtain rfl : w = wr := hwr.symm
    rcases Nat.lt_or_ge k rs.length with hlt | hge
    · obtain ⟨b, o, u, rfl, hc, hu, -⟩ := hat.out k hlt
      obtain ⟨A2, c2, rfl, -⟩ := hu
      have hf1 := hfl.out (k + 1)
      have hf2 := hft.out k hlt
      have hget : rs.getD k [] = rs[k] := by rw [List.getD_eq_getElem?_getD, List.getElem?_eq_getElem hlt]; rfl
      rw [hget, bv_len] at hc
      rw [hf2, List.length_append] at hf1
      obtain ⟨n, hn⟩ : ∃ n, n = (rs.take k).flatten.length := ⟨_, rfl⟩
      obtain ⟨m, hm⟩ : ∃ m, m = rs[k].length := ⟨_, rfl⟩
      rw [← hn, ← hm] at hf1
      rw [← hm] at hc
      rw [← hn]
      replace hn := hide hn
      replace hm := hide hm
      replace hf2 := hide hf2
      clear hget
      go_wp2_with fail
      go_roundw
      case rel =>
        refine ⟨k + 1, hlt, by go_num, ?_, by simp⟩
        rw [hf2.out, List.length_append, ← hn.out, ← hm.out]
        go_num
      case measure => simp [intOf]; omega
    · obtain rfl : k = rs.length := by omega
      clear hge
      rw [List.take_length, ← hT.out]
      go_wp2_with fail
      refine (grow_any T hpos hl).mono ?_
      rintro e w1 ⟨v1, rfl, hnn1, h1, hb1⟩
      have hu1 : Upd (fun _ => False) w w1 := .of_below _ hb1
      have hsz := hu1.size
      obtain ⟨A1, n1, c1, rfl⟩ := h1.slice
      replace h1 := hide h1
      replace hu1 := hide hu1
      clear hb1 hnn1
      go_wp2_with fail
      go_loopw [6, 27] (fun z i wx => ∃ k : Nat, k ≤ rs.length ∧ i = .int .i64 k ∧ RowB wx w.heap.size z (rs.take k).flatten ∧ Upd (fun _ => False) w wx) (fun _ i _ => rs.length - (intOf i).toNat)
      case atStart => exact ⟨0, Nat.zero_le _, rfl, by simpa using h1.out, hu1.out⟩
      case round =>
        obtain ⟨k, hk, rfl, hb, hU⟩ := hrel
        obtain ⟨A2, n2, c2, rfl⟩ := hb.slice
        replace hb := hide hb
        replace hU := hide hU
        rcases Nat.lt_or_ge k rs.length with hlt | hge
        · obtain ⟨b, o, u, rfl, hc, hu, hnu⟩ := hat.out k hlt
          have hf1 := hfl.out (k + 1)
          have hf2 := hft.out k hlt
          have hget : rs.getD k [] = rs[k] := by rw [List.getD_eq_getElem?_getD, List.getElem?_eq_getElem hlt]; rfl
          rw [hget] at hu
          have hc' := hU.out.cell hc id
          have hu' := hu.upd hU.out fun _ _ => id
          have hud := ArgV.mono' hu' hu
          have hdis : ∀ j, (S j ∧ j < w.heap.size) → ¬ Own (.slice A2 n2 c2) j := fun j hj ho => by have := (hb.out.own_ge ho).1; omega
          rw [hf2, List.length_append] at hf1
          replace hf2 := hide hf2
          replace hu := hide hu
          replace hud := hide hud
          replace hu' := hide hu'
          replace hdis := hide hdis
          clear hc hget
          rcases hnu with hnu | rfl
          · obtain ⟨ad, nu, cu, rfl⟩ := id hnu
            replace hnu := hide hnu
            go_wp2_with (at_builtin; refine wp_cat rfl (.tmp 31) (.tmp 32) rfl w.heap.size _ (rs.take k).flatten rfl hb.out _ _ rs[k] rfl hud.out hnu.out ?_ ?_ ?_)
            · omega
            · exact hU.out.size
            intro v5 w5 h5 m5
            replace h5 := hide h5
            replace m5 := hide m5
            go_wp2_with fail
            go_roundw
            case rel =>
              refine ⟨k + 1, hlt, by go_num, by rw [hf2.out]; exact h5.out, ?_⟩
              exact hU.out.trans m5.out.1 fun j hj ho => by have := (hb.out.own_ge ho).1; omega
            case measure => simp [intOf]; omega
          · have hnil : rs[k] = [] := by
              obtain ⟨_, _, e, _⟩ := hu.out
              injection e with _ e _
              rw [bv_len] at e
              exact List.length_eq_zero_iff.1 e.symm
            replace hnil := hide hnil
            have hap := hb.out.append_none 34
            replace hap := hide hap
            go_wp2_with (at_builtin; refine wp_append_run rfl (.tmp 31) (.tmp 32) 34 34 rfl _ _ _ rfl rfl hap.out ?_)
            go_roundw
            case rel =>
              refine ⟨k + 1, hlt, by go_num, by rw [hf2.out, hnil.out, List.append_nil]; exact hb.out, hU.out⟩
            case measure => simp [intOf]; omega
        · obtain rfl : k = rs.length := by omega
          clear hge
          have hfin := hb.out
          rw [List.take_length] at hfin
          have hnn := hfin.nonNil (by have := hT.out; omega)
          replace hfin := hide hfin
          replace hnn := hide hnn
          go_wp2_with fail
          go_ret
          exact ⟨_, rfl, hnn.out, hfin.out, hU.out.below (Nat.le_refl _) fun _ h => h.elim⟩
end Go.Proofs.YtimblkkojcbipaaDoor
