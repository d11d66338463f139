/- Walks of the writer, the rest. -/
import Derived.Test.YtajpgkedlajjdaaWriter
namespace Go.Proofs.Ytajpgkedlajjdaa
open Go.RowKit

theorem equalIn_nil {P : Program} (w : World) (d : Nat) (t e : TypeId) (a : Option Addr) (n c : Nat) (h : P.underlying t = some (.slice e)) :
    (Op.equalIn (d + 1) t (.slice a n c) (.slice none 0 0)).run P w = .ok a.isNone w := by cases a <;> simp [Op.equalIn, run_underlying h]
theorem eql_nil {P : Program} (w : World) (t e : TypeId) (a : Option Addr) (n c : Nat) (h : P.underlying t = some (.slice e)) :
    (binOp .eql t (.slice a n c) (.slice none 0 0)).run P w = .ok (.bool a.isNone) w := by
  simp only [binOp]
  simp [Op.equal, Op.maxDepth, equalIn_nil w 9999 t e a n c h]
theorem i64_flip (n : Int) (h1 : -9223372036854775808 ≤ n) (h2 : n ≤ 9223372036854775807) : bits .xor .i64 (-1) n = -1 - n := by
  show IntKind.i64.wrap ((BitVec.ofInt 64 (-1) ^^^ BitVec.ofInt 64 n).toNat : Int) = _
  have h : BitVec.ofInt 64 (-1) = BitVec.allOnes 64 := by decide
  rw [h, BitVec.allOnes_xor, BitVec.toNat_not, BitVec.toNat_ofInt]
  simp [IntKind.wrap, IntKind.bits, IntKind.signed]
  omega
theorem u64_odd (x : Nat) (h : x * 2 < 18446744073709551616) : bits .or .u64 ((x : Int) * 2) 1 = ((x * 2 + 1 : Nat) : Int) := by
  have := u64_or_nat (x * 2) 1 h (by decide)
  rw [nat_join 1 (x * 2) 1 (by omega) (by decide)] at this
  rw [← this]; congr 1
theorem zig_neg {n : Int} (h : n < 0) : zig n = (-1 - n).toNat * 2 + 1 := by unfold zig; rw [if_pos h]; omega
theorem zig_pos {n : Int} (h : ¬ n < 0) : zig n = n.toNat * 2 := by unfold zig; rw [if_neg h]; omega
theorem zig_lt {n : Int} (h1 : -9223372036854775808 ≤ n) (h2 : n ≤ 9223372036854775807) : zig n < 18446744073709551616 := by unfold zig; split <;> omega
set_option maxRecDepth 100000 in
theorem fold_any (n : Int) (w : World) (h1 : -9223372036854775808 ≤ n) (h2 : n ≤ 9223372036854775807) :
    Calls Try.prog 42 #[.int .i64 n] w fun e w' => e = .returned (.int .u64 (zig n : Nat)) ∧ w = w' := by
  by_cases hn : n < 0
  · have hz := hide (zig_neg hn)
    have hf := i64_flip n h1 h2
    obtain ⟨x, hx⟩ : ∃ x : Nat, -1 - n = x := ⟨(-1 - n).toNat, by omega⟩
    rw [hx] at hf hz
    have hxl : x < 9223372036854775808 := by omega
    have ho := u64_odd x (by omega)
    have hw : IntKind.u64.wrap (x : Int) = x := by simp [IntKind.wrap, IntKind.bits, IntKind.signed]; omega
    have hw2 : IntKind.u64.wrap ((x : Int) * 2) = (x : Int) * 2 := by simp [IntKind.wrap, IntKind.bits, IntKind.signed]; omega
    replace hx := hide hx
    go_enter Try.func42, Try.ntmps42
    go_wp2_with fail
    go_ret
    rw [hz.out]
    exact ⟨by simp, rfl⟩
  · have hz := hide (zig_pos hn)
    obtain ⟨x, rfl⟩ := Int.eq_ofNat_of_zero_le (Int.not_lt.1 hn)
    go_enter Try.func42, Try.ntmps42
    go_wp2_with fail
    go_ret
    rw [hz.out]
    exact ⟨by simp, rfl⟩

theorem newWriter_any (w : World) : Calls Try.prog 11 #[] w fun e w' => e = .returned (.pointer (some ⟨w.heap.size, 0, none⟩)) ∧ w' = w.alloc (.cells #[.slice none 0 0] 75) := by
  go_enter Try.func11, Try.ntmps11
  go_wp2_with fail
  go_ret
  exact ⟨rfl, rfl⟩
theorem wr_new (w : World) (B : Nat) (hB : B ≤ w.heap.size) : Wr (w.alloc (.cells #[.slice none 0 0] 75)) B w.heap.size [] (.slice none 0 0) :=
  ⟨hB, heap_new _ _, RowB.nil_ _ _⟩

set_option maxRecDepth 100000 in
theorem clone_any (v : Value) (l : List UInt8) (w : World) (B : Nat) (hv : BytesV w B v l) (hlen : l.length ≤ 70368744177664) :
    Calls Try.prog 44 #[v] w fun e w' => ∃ v', e = .returned v' ∧ RowB w' w.heap.size v' l ∧ Below w.heap.size w w' := by
  obtain ⟨A, c, rfl, hlc, hcm, hs⟩ := hv
  have hnil := eql_nil (P := Try.prog) w 27 5 A l.length c Try.underlying27
  replace hcm := hide hcm
  replace hlen := hide hlen
  replace hs := hide hs
  cases A with
  | none =>
    replace hnil := hnil.trans (show _ = Result.ok (Value.bool true) w from rfl)
    go_enter Try.func44, Try.ntmps44
    go_wp2_with fail
    go_ret
    refine ⟨_, rfl, ?_, Below.refl _ _⟩
    have h0 : l = [] := by
      rcases hs.out with h | ⟨b, o, h, _⟩
      · exact List.eq_nil_of_length_eq_zero (by rw [← bv_len, h]; rfl)
      · cases h
    subst h0
    exact RowB.nil_ _ _
  | some a =>
    replace hnil := hnil.trans (show _ = Result.ok (Value.bool false) w from rfl)
    go_enter Try.func44, Try.ntmps44
    go_wp2_with (
      at_builtin
      refine wp_bytes rfl (.tmp 5) (.tmp 6) rfl w.heap.size (.slice (some ⟨w.heap.size, 0, none⟩) 0 0) [] rfl ?_ a l.length c l rfl rfl ?_ ?_ ?_ ?_
      · exact World.ownsRow_made w #[] 0 (Nat.le_refl _) (by unfold maxLen; omega) rfl
      · intro j u hj
        rcases hs.out with h | ⟨b, o, h, hb, hc⟩
        · rw [h] at hj; simp at hj
        · obtain rfl := Option.some.inj h
          rw [Go.WideShapes.add_plain, Below.cell (B := w.heap.size) ((Below.refl _ w).alloc (Nat.le_refl _) _) (World.block_lt_of_cell? w _ (hc j u hj))]
          exact hc j u hj
      · have := hlen.out; simp; omega
      · simp
      intro v3 w3 h3 hg3 hm3)
    go_ret
    rw [List.nil_append] at h3
    refine ⟨_, rfl, h3, ?_⟩
    refine Below.grown (w := w.alloc (.cells #[] 5)) ((Below.refl _ w).alloc (Nat.le_refl _) _) hg3 (by simp) fun k hk => ?_
    have : w.heap.size = k := by simpa [Value.ownBlock] using hk
    omega

theorem bytes_any (B p : Nat) (l : List UInt8) (v : Value) (w : World) (hW : Wr w B p l v) (hlen : l.length ≤ 70368744177664) :
    Calls Try.prog 20 #[.pointer (some ⟨p, 0, none⟩)] w fun e w' => ∃ v', e = .returned v' ∧ RowB w' w.heap.size v' l ∧ Below w.heap.size w w' := by
  have hb := hW.2.2.bytes
  have hc := hW.cell
  obtain ⟨A, n, k, rfl⟩ := hW.2.2.slice
  replace hb := hide hb
  replace hlen := hide hlen
  replace hW := hide hW
  go_enter Try.func20, Try.ntmps20
  go_wp2_with fail
  refine (clone_any _ _ _ _ hb.out hlen.out).mono ?_
  rintro e w1 ⟨v1, rfl, h1, h2⟩
  go_wp2_with fail
  go_ret
  exact ⟨_, rfl, h1, h2⟩

set_option maxRecDepth 100000 in
set_option maxHeartbeats 1600000 in
theorem wInt_any (B p : Nat) (l : List UInt8) (v : Value) (ns : List Int) (x : Value) (w : World) (hW : Wr w B p l v) (hx : ArgV w (fun k => ¬ Fp p v k) x (ns.map fun n : Int => .int .i64 n)) (hn : ∀ n ∈ ns, -9223372036854775808 ≤ n ∧ n ≤ 9223372036854775807)
    (hlen : l.length + 10 * ns.length ≤ 70368744177664) :
    Calls Try.prog 14 #[.pointer (some ⟨p, 0, none⟩), x] w fun e w' => e = .returned (.tuple #[]) ∧ ∃ v', WStep B p w v w' (l ++ nums (ns.map zig)) v' := by
  have hx0 := hide hx
  have hS0 := hide (WStep.refl hW)
  replace hW := hide hW
  replace hn := hide hn
  replace hlen := hide hlen
  obtain ⟨A, c, rfl, hlc, hcm, -⟩ := hx
  rw [List.length_map] at *
  unfold maxLen at hcm
  go_enter Try.func14, Try.ntmps14
  go_wp2_with fail
  go_loopw [8] (fun i wr => ∃ (k : Nat) (v' : Value), k ≤ ns.length ∧ i = .int .i64 k ∧ WStep B p w v wr (l ++ nums ((ns.map zig).take k)) v') (fun i _ => ns.length - (intOf i).toNat)
  case atStart => exact ⟨0, v, Nat.zero_le _, rfl, by simpa [nums] using hS0.out⟩
  case round =>
    obtain ⟨k, v', hk, rfl, hS⟩ := hrel
    have hx1 := hS.arg hx0.out
    replace hS := hide hS
    by_cases hlt : k < ns.length
    · obtain ⟨b, o, rfl, hb, hcell⟩ := hx1.get (i := k) (u := .int .i64 ns[k]) (by simp [hlt])
      have hm := hide (hn.out _ (List.getElem_mem hlt))
      have hsn := hide (nums_snoc (ns.map zig) k (by simpa using hlt))
      have hz := hide (zig_lt hm.out.1 hm.out.2)
      have hl2 := hide (nums_take_len (ns.map zig) k (fun n hn' => by
        rw [List.mem_map] at hn'
        obtain ⟨z, hz', rfl⟩ := hn'
        exact zig_lt (hn.out z hz').1 (hn.out z hz').2))
      have he : (ns.map zig)[k]'(by simpa using hlt) = zig ns[k] := by simp
      rw [he] at hsn
      replace he := hide he
      generalize ns[k] = n0 at *
      clear hx1
      go_wp2_with fail
      refine (fold_any _ _ hm.out.1 hm.out.2).mono ?_
      rintro e w' ⟨rfl, rfl⟩
      go_wp2_with fail
      refine (wNum_any B p _ v' [zig n0] _ _ (hS.out.alloc _).1 (ArgV.one (by simp [go_sem]; done) ?_) ?_ ?_).mono ?_
      · exact fun h => Nat.lt_irrefl _ (Fp.lt hS.out.1 h)
      · intro n hn'; rw [List.mem_singleton] at hn'; subst hn'; exact hz.out
      · have := hlen.out; have := hl2.out; simp only [List.length_append, List.length_singleton]; omega
      rintro e w2 ⟨rfl, v2, h2⟩
      go_wp2_with fail
      go_roundw
      case rel =>
        refine ⟨k + 1, v2, by omega, by go_num, ?_⟩
        rw [hsn.out]
        have := (hS.out.alloc _).trans h2
        simpa [nums] using this
      case measure => simp [intOf]; omega
    · obtain rfl : k = ns.length := by omega
      go_wp2_with fail
      go_end0
      refine ⟨rfl, v', ?_⟩
      have := hS.out
      rwa [List.take_of_length_le (by simp)] at this
end Go.Proofs.Ytajpgkedlajjdaa
