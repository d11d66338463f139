/- Walks of the writer's methods: put, end, open, close; numbers as text. -/
import Derived.Test.YtojbfopmlgdjlaaDoorBd
import Derived.Test.YtojbfopmlgdjlaaDoorLayPrint
import Derived.Test.YtojbfopmlgdjlaaDoorFlowS
import Derived.Test.YtojbfopmlgdjlaaDoorGx
import Derived.WalkSmall
import Derived.Lib.ItoaLen
namespace Go.Proofs.YtojbfopmlgdjlaaDoor
open Go Go.RowKit

theorem extraP : Builder.Extra Tryd.prog layRepeat_ren where
  sizeBuilder := by kernel_rfl
  liesBuilder := by kernel_rfl
  t5 := Tryd.underlying5
  a5 := Tryd.isAgg5
  z5 := Tryd.sizeOf5
  v5 := Tryd.zeroValue5
  infoByte := by kernel_rfl
  cellsByte := by kernel_rfl
  sizeByte := by kernel_rfl
  neB5 := by decide
/-- The table that numbers' texts are reckoned by. -/
def TabP (w : World) : Prop := Lib.TabIs Tryd.prog w "internal/strconv.uint64pow10" .u64 Lib.pow10Tab
theorem tab_name : Tryd.prog.globalNamed "internal/strconv.uint64pow10" = some 0 := by kernel_rfl
theorem TabP.lt {w : World} (h : TabP w) : 0 < w.heap.size := by
  have := h.cell (g := 0) tab_name 0 (by decide)
  exact World.block_lt_of_cell? _ _ this
theorem TabP.low {w w' : World} {B : Nat} (h : TabP w) (hb : Below B w w') (hB : 0 < B) : TabP w' := var?_below hb tab_name hB h
theorem TabP.below {w w' : World} (h : TabP w) (hb : Below w.heap.size w w') : TabP w' := h.low hb h.lt
theorem grow_below (w : World) (k : Nat) (os : Array Obj) : Below w.heap.size w (Go.Sort.grow (w.drewN k) os) :=
  ⟨rfl, rfl, rfl, by show _ ≤ (w.heap ++ os).size; rw [Array.size_append]; omega, fun i hi => by
    show (w.heap ++ os)[i]? = _
    rw [Array.getElem?_append_left hi]⟩
theorem format_any (n : Nat) (hn : n ≤ 9223372036854775807) (w : World) (hT : TabP w) :
    Calls Tryd.prog 45 #[.int .i64 n, .int .i64 10] w fun e w' => e = .returned (.string (strB (Lib.decDigits n))) ∧ Below w.heap.size w w' := by
  refine (Any.strconv_FormatInt_10 layFormat (n : Int) (by omega) (by omega) w hT).mono ?_
  rintro e w' ⟨rfl, k, os, rfl⟩
  rw [Lib.itoa_nonneg]
  exact ⟨rfl, grow_below w k os⟩
theorem itoa_any (n : Nat) (hn : n ≤ 9223372036854775807) (w : World) (hT : TabP w) :
    Calls Tryd.prog 39 #[.int .i64 n] w fun e w' => e = .returned (.string (strB (Lib.decDigits n))) ∧ Below w.heap.size w w' := by
  refine (Any.strconv_Itoa layItoa (n : Int) (by omega) (by omega) w hT).mono ?_
  rintro e w' ⟨rfl, k, os, rfl⟩
  rw [Lib.itoa_nonneg]
  exact ⟨rfl, grow_below w k os⟩
def tabsL (d : Nat) : List UInt8 := Lib.repeatL [9] d
theorem tabs_len (d : Nat) : (tabsL d).length = d := by
  unfold tabsL
  rw [Lib.repeatL_length]
  simp
theorem repeat_any (d : Nat) (hd : d ≤ 1000000) (w : World) :
    Calls Tryd.prog 60 #[.string ⟨#[9]⟩, .int .i64 d] w fun e w' => e = .returned (.string (strB (tabsL d))) ∧ Below w.heap.size w w' :=
  (Any.strings_Repeat layRepeat extraP (⟨#[9]⟩ : ByteArray) d w (by omega) (by show 1 * d ≤ _; omega))

/-- What a printer with the text t, whose line has begun or not, holds behind x. -/
def putT (t : List UInt8) (d : Nat) (g : Bool) (x : List UInt8) : List UInt8 := t ++ (if g = true then [] else tabsL d) ++ x
theorem putT_put (t : List UInt8) (d : Nat) (g : Bool) (x y : List UInt8) : putT (putT t d g x) d true y = putT t d g (x ++ y) := by
  unfold putT
  simp [List.append_assoc]
theorem putT_len (t : List UInt8) (d : Nat) (g : Bool) (x : List UInt8) : (putT t d g x).length ≤ t.length + d + x.length := by
  unfold putT
  rw [List.length_append, List.length_append]
  split
  · simp
  · rw [tabs_len]; omega
def strL (xs : List (List UInt8)) : List Value := xs.map fun x => .string (strB x)
/-- The printer behind a call of one of its methods. -/
def PrO (w : World) (B b : Nat) (v : Value) (t : List UInt8) (d : Nat) (g : Bool) (w' : World) : Prop := ∃ v', PrM b v w v' w' ∧ Prn w' B b v' t d g
theorem str_get {w : World} {S : Nat → Prop} {A : Option Addr} {n c : Nat} {xs : List (List UInt8)} (h : ArgV w S (.slice A n c) (strL xs)) {i : Nat} (hi : i < xs.length) : ∃ b o, A = some ⟨b, o, none⟩ ∧ S b ∧ w.cell? ⟨b, o + i, none⟩ = some (.string (strB xs[i])) :=
  h.get (by rw [strL, List.getElem?_map, List.getElem?_eq_getElem hi]; rfl)
set_option maxRecDepth 100000 in
set_option maxHeartbeats 1600000 in
theorem put_loop (xs : List (List UInt8)) (A : Option Addr) (c : Nat) (w : World) (B b d : Nat) (v : Value) (t : List UInt8) (h : Prn w B b v t d true) (hB : B ≤ w.heap.size) (hl : t.length + xs.flatten.length ≤ 70368744177664)
    (hx : ArgV w (fun k => k ≠ b ∧ v.ownBlock ≠ some k ∧ k < w.heap.size) (.slice A xs.length c) (strL xs)) :
    Calls Tryd.prog 37 #[.pointer (some ⟨b, 0, none⟩), .slice A xs.length c] w fun e w' => e = .returned (.tuple #[]) ∧ PrO w B b v (t ++ xs.flatten) d true w' := by
  obtain ⟨p, hh, hp⟩ := h.cells
  have c3 := cell_at hh 3
  simp at c3
  have hmx : xs.length ≤ 9223372036854775807 := by
    obtain ⟨_, _, -, h1, h2, -⟩ := hx
    unfold maxLen at h2
    rw [strL, List.length_map] at h1
    omega
  replace h := hide h
  replace hx := hide hx
  clear hh
  go_enter Tryd.func37, Tryd.ntmps37
  go_wp2_with fail
  go_loopw [25] (fun i wr => ∃ k : Nat, k ≤ xs.length ∧ i = .int .i64 k ∧ PrO w B b v (t ++ (xs.take k).flatten) d true wr) (fun i _ => xs.length - (RowKit.intOf i).toNat)
  case atStart => exact ⟨0, Nat.zero_le _, rfl, v, .refl _ _ _, by simpa using h.out⟩
  case round =>
    obtain ⟨k, hk, rfl, v1, hm, h1⟩ := hrel
    by_cases hlt : k < xs.length
    · have hlt' : (k : Int) < (xs.length : Int) := by omega
      have hs : xs.take (k + 1) = xs.take k ++ [xs[k]] := List.take_succ_eq_append_getElem hlt
      have hfl : (xs.take (k + 1)).flatten = (xs.take k).flatten ++ xs[k] := by rw [hs, List.flatten_append, List.flatten_cons, List.flatten_nil, List.append_nil]
      have hle : (xs.take (k + 1)).flatten.length ≤ xs.flatten.length := by
        conv => rhs; rw [← List.take_append_drop (k + 1) xs]
        rw [List.flatten_append, List.length_append]
        omega
      have hx1 := hx.out.upd hm.upd fun q hq e => by
        rcases e with e | e
        · exact hq.1 e
        · exact hq.2.1 e
      obtain ⟨b1, o1, rfl, -, cx⟩ := str_get hx1 hlt
      have hW := hide (WriteString_any xs[k] wr B b d v1 (t ++ (xs.take k).flatten) true h1 (Nat.le_trans hB hm.upd.size) (by rw [hfl, List.length_append] at hle; rw [List.length_append]; omega))
      rw [List.append_assoc, ← hfl] at hW
      generalize xs[k] = xk at *
      obtain ⟨Q1, hQ1⟩ : ∃ Q, Q = t ++ (xs.take (k + 1)).flatten := ⟨_, rfl⟩
      rw [← hQ1] at hW
      replace hQ1 := hide hQ1
      replace hm := hide hm
      clear h1 hs hfl hle hx1
      go_wp2_with fail
      refine hW.out.mono ?_
      rintro e w2 ⟨rfl, v2, hm2, h2⟩
      have hm3 := hide (hm.out.trans hm2)
      replace h2 := hide h2
      clear hm2
      go_wp2_with fail
      go_round
      case rel => exact ⟨k + 1, hlt, by go_num, v2, hm3.out, by rw [← hQ1.out]; exact h2.out⟩
      case measure => simp [RowKit.intOf]; omega
    · obtain rfl : k = xs.length := by omega
      have hlt' : ¬ (xs.length : Int) < (xs.length : Int) := by omega
      have ht : xs.take xs.length = xs := List.take_length
      rw [ht] at h1
      replace hm := hide hm
      replace h1 := hide h1
      go_wp2_with fail
      go_end0
      exact ⟨rfl, v1, hm.out, h1.out⟩
set_option maxRecDepth 100000 in
set_option maxHeartbeats 1600000 in
theorem put_any (xs : List (List UInt8)) (A : Option Addr) (c : Nat) (wa : World) (B b d : Nat) (rv : Value) (t : List UInt8) (g : Bool) (h : Prn wa B b rv t d g) (hB : B ≤ wa.heap.size) (hd : d ≤ 1000000) (hl : t.length + xs.flatten.length ≤ 70368740000000)
    (hx : ArgV wa (fun k => k ≠ b ∧ rv.ownBlock ≠ some k ∧ k < wa.heap.size) (.slice A xs.length c) (strL xs)) :
    Calls Tryd.prog 37 #[.pointer (some ⟨b, 0, none⟩), .slice A xs.length c] wa fun e w' => e = .returned (.tuple #[]) ∧ PrO wa B b rv (putT t d g xs.flatten) d true w' := by
  cases g with
  | true =>
    have : putT t d true xs.flatten = t ++ xs.flatten := by simp [putT]
    rw [this]
    exact put_loop xs A c wa B b d rv t h hB (by omega) hx
  | false =>
    have hq : putT t d false xs.flatten = (t ++ tabsL d) ++ xs.flatten := by simp [putT]
    rw [hq]
    have hmx : xs.length ≤ 9223372036854775807 := by
      obtain ⟨_, _, -, h1, h2, -⟩ := hx
      unfold maxLen at h2
      rw [strL, List.length_map] at h1
      omega
    obtain ⟨p, hh, hp⟩ := h.cells
    have c3 := cell_at hh 3
    simp at c3
    have hR := hide (repeat_any d hd)
    have hW := hide (fun w1 (h : Prn w1 B b rv t d false) (hb : wa.heap.size ≤ w1.heap.size) => WriteString_any (tabsL d) w1 B b d rv t false h (Nat.le_trans hB hb) (by rw [tabs_len]; omega))
    generalize hT0 : tabsL d = T0 at *
    have hTl : T0.length = d := by rw [← hT0]; exact tabs_len d
    replace hT0 := hide hT0
    replace h := hide h
    replace hx := hide hx
    replace hTl := hide hTl
    clear hh
    go_enter Tryd.func37, Tryd.ntmps37
    go_wp2_with fail
    refine wp_region_flow (fun k => k = b ∨ rv.ownBlock = some k) (factAt [(fun v _ => v = (.pointer (some ⟨b, 0, none⟩))), (fun v _ => v = (.pointer (some ⟨b, 0, none⟩))), (fun v _ => v = (.pointer (some ⟨b, 0, none⟩))), (fun v _ => v = (.pointer (some ⟨b, 0, none⟩))), (fun v _ => v = (.pointer (some ⟨b, 0, none⟩))), (fun v _ => v = (.pointer (some ⟨b, 2, none⟩))), (fun v _ => v = (.int .i64 d)), (fun v _ => v = (.string (strB T0))), (fun v _ => v = (.tuple #[.int .i64 (T0.length : Nat), .nilIface]))]) [none, none, none, none, none, none, some (fun _ w => PrM b rv wa rv w ∧ Prn w B b rv t d false), some (fun _ w => PrM b rv wa rv w ∧ Prn w B b rv t d false), some (fun _ w => PrO wa B b rv (t ++ T0) d false w)] (fun w => PrM b rv wa rv w ∧ Prn w B b rv t d false) (by kernel_rfl) (fkept_at ⟨FKept.eq _, FKept.eq _, FKept.eq _, FKept.eq _, FKept.eq _, FKept.eq _, FKept.eq _, FKept.eq _, FKept.eq _, trivial⟩) (fun _ _ h hb => ⟨h.1.quiet hb, h.2.below hb⟩) ⟨fun _ _ _ h hb => ⟨h.1.quiet hb, h.2.below hb⟩, fun _ _ _ h hb => ⟨h.1.quiet hb, h.2.below hb⟩, fun _ _ _ ⟨v1, h1, h2⟩ hb => ⟨v1, h1.quiet hb, h2.below hb⟩, trivial⟩ (by kernel_rfl) (by kernel_rfl) (by kernel_rfl) (by kernel_rfl) (Nat.le_of_ble_eq_true (by kernel_rfl)) ?_ ⟨?_, ?_, ?_, ?_, ?_, ?_, ?_, ?_, ?_, trivial⟩ ?_
    · exact ⟨.refl _ _ _, h.out⟩
    · intro T w Q hu hs hv hw hd
      have hx0 : T.getD 0 undef = (.pointer (some ⟨b, 0, none⟩)) := hv 0 (by kernel_rfl)
      refine .inl ⟨wanted_none rfl, ?_⟩
      clear hd hv hu hs hw
      go_simp
      exact ⟨_, rfl, DstOk.some rfl, Below.refl _ _, rfl⟩
    · intro T w Q hu hs hv hw hd
      have hx11 : T.getD 11 undef = (.pointer (some ⟨b, 0, none⟩)) := Deps.at 0 hd (by kernel_rfl)
      refine .inl ⟨wanted_none rfl, ?_⟩
      clear hd hv hu hs hw
      go_simp
      exact ⟨_, rfl, DstOk.some rfl, Below.refl _ _, rfl⟩
    · intro T w Q hu hs hv hw hd
      have hx12 : T.getD 12 undef = (.pointer (some ⟨b, 0, none⟩)) := Deps.at 1 hd (by kernel_rfl)
      refine .inl ⟨wanted_none rfl, ?_⟩
      clear hd hv hu hs hw
      go_simp
      exact ⟨_, rfl, DstOk.some rfl, Below.refl _ _, rfl⟩
    · intro T w Q hu hs hv hw hd
      have hx0 : T.getD 0 undef = (.pointer (some ⟨b, 0, none⟩)) := hv 0 (by kernel_rfl)
      refine .inl ⟨wanted_none rfl, ?_⟩
      clear hd hv hu hs hw
      go_simp
      exact ⟨_, rfl, DstOk.some rfl, Below.refl _ _, rfl⟩
    · intro T w Q hu hs hv hw hd
      have hx14 : T.getD 14 undef = (.pointer (some ⟨b, 0, none⟩)) := Deps.at 3 hd (by kernel_rfl)
      refine .inl ⟨wanted_none rfl, ?_⟩
      clear hd hv hu hs hw
      go_simp
      exact ⟨_, rfl, DstOk.some rfl, Below.refl _ _, rfl⟩
    · intro T w Q hu hs hv hw hd
      have hx15 : T.getD 15 undef = (.pointer (some ⟨b, 0, none⟩)) := Deps.at 4 hd (by kernel_rfl)
      refine .inl ⟨wanted_none rfl, ?_⟩
      clear hd hv hu hs hw
      go_simp
      exact ⟨_, rfl, DstOk.some rfl, Below.refl _ _, rfl⟩
    · intro T w Q hu hs hv hw hd hc0
      have hc : (fun w => PrM b rv wa rv w ∧ Prn w B b rv t d false) w := hc0
      have hx16 : T.getD 16 undef = (.pointer (some ⟨b, 2, none⟩)) := Deps.at 5 hd (by kernel_rfl)
      replace hc := hide hc
      refine .inl ⟨wanted_none rfl, ?_⟩
      obtain ⟨p9, hh9, -⟩ := hc.out.2.cells
      have hq := cell_at hh9 2
      simp at hq
      clear hh9
      clear hd hv hu hs hw hc0
      go_simp
      exact ⟨_, rfl, DstOk.some rfl, .refl _ _, rfl, hc.out⟩
    · intro T w Q hu hs hv hw hd hc0
      have hc : (fun (w : World) => PrM b rv wa rv w ∧ Prn w B b rv t d false) w := hc0
      have hx17 : T.getD 17 undef = (.int .i64 d) := Deps.at 6 hd (by kernel_rfl)
      replace hc := hide hc
      refine .inl ⟨wanted_none rfl, ?_⟩
      have hN := hR.out w
      clear hd hv hu hs hw hc0
      go_simp
      refine hN.mono ?_
      rintro e w5 ⟨rfl, hb⟩
      exact ⟨_, rfl, DstOk.some rfl, .of_below _ hb, rfl, hc.out.1.quiet hb, hc.out.2.below hb⟩
    · intro T w Q hu hs hv hw hd hc0
      have hc : (fun (w : World) => PrM b rv wa rv w ∧ Prn w B b rv t d false) w := hc0
      have hx13 : T.getD 13 undef = (.pointer (some ⟨b, 0, none⟩)) := Deps.at 2 hd (by kernel_rfl)
      have hx18 : T.getD 18 undef = (.string (strB T0)) := Deps.at 7 hd (by kernel_rfl)
      replace hc := hide hc
      refine .inl ⟨wanted_none rfl, ?_⟩
      have hN := hW.out w hc.out.2 hc.out.1.upd.size
      clear hd hv hu hs hw hc0
      go_simp
      refine hN.mono ?_
      rintro e w5 ⟨rfl, v2, hm2, h2⟩
      exact ⟨_, rfl, DstOk.some rfl, hm2.upd, rfl, v2, hc.out.1.trans hm2, h2⟩
    intro T w hu hs hv hf hcur
    have hcur1 : (fun (w : World) => PrO wa B b rv (t ++ T0) d false w) w := hcur
    replace hcur1 := hcur1
    have hT : T = #[T.getD 0 undef, T.getD 1 undef, T.getD 2 undef, T.getD 3 undef, T.getD 4 undef, T.getD 5 undef, T.getD 6 undef, T.getD 7 undef, T.getD 8 undef, T.getD 9 undef, T.getD 10 undef, T.getD 11 undef, T.getD 12 undef, T.getD 13 undef, T.getD 14 undef, T.getD 15 undef, T.getD 16 undef, T.getD 17 undef, T.getD 18 undef, T.getD 19 undef, T.getD 20 undef, T.getD 21 undef, T.getD 22 undef, T.getD 23 undef, T.getD 24 undef, T.getD 25 undef, T.getD 26 undef, T.getD 27 undef, T.getD 28 undef, T.getD 29 undef, T.getD 30 undef, T.getD 31 undef, T.getD 32 undef, T.getD 33 undef, T.getD 34 undef] := expl hs
    rw [hT]
    clear hT
    rw [show T.getD 0 undef = (.pointer (some ⟨b, 0, none⟩)) from hv 0 (by kernel_rfl)]
    rw [show T.getD 1 undef = (.slice A xs.length c) from hv 1 (by kernel_rfl)]
    rw [hv 2 (by kernel_rfl)]
    rw [hv 3 (by kernel_rfl)]
    rw [hv 4 (by kernel_rfl)]
    rw [hv 5 (by kernel_rfl)]
    rw [hv 6 (by kernel_rfl)]
    rw [hv 7 (by kernel_rfl)]
    rw [hv 8 (by kernel_rfl)]
    rw [hv 9 (by kernel_rfl)]
    rw [hv 10 (by kernel_rfl)]
    rw [show T.getD 11 undef = (.pointer (some ⟨b, 0, none⟩)) from hf 0 (by decide)]
    rw [show T.getD 12 undef = (.pointer (some ⟨b, 0, none⟩)) from hf 1 (by decide)]
    rw [show T.getD 13 undef = (.pointer (some ⟨b, 0, none⟩)) from hf 2 (by decide)]
    rw [show T.getD 14 undef = (.pointer (some ⟨b, 0, none⟩)) from hf 3 (by decide)]
    rw [show T.getD 15 undef = (.pointer (some ⟨b, 0, none⟩)) from hf 4 (by decide)]
    rw [show T.getD 16 undef = (.pointer (some ⟨b, 2, none⟩)) from hf 5 (by decide)]
    rw [show T.getD 17 undef = (.int .i64 d) from hf 6 (by decide)]
    rw [show T.getD 18 undef = (.string (strB T0)) from hf 7 (by decide)]
    rw [show T.getD 19 undef = (.tuple #[.int .i64 (T0.length : Nat), .nilIface]) from hf 8 (by decide)]
    rw [hv 20 (by kernel_rfl)]
    rw [hv 21 (by kernel_rfl)]
    rw [hv 22 (by kernel_rfl)]
    rw [hv 23 (by kernel_rfl)]
    rw [hv 24 (by kernel_rfl)]
    rw [hv 25 (by kernel_rfl)]
    rw [hv 26 (by kernel_rfl)]
    rw [hv 27 (by kernel_rfl)]
    rw [hv 28 (by kernel_rfl)]
    rw [hv 29 (by kernel_rfl)]
    rw [hv 30 (by kernel_rfl)]
    rw [hv 31 (by kernel_rfl)]
    rw [hv 32 (by kernel_rfl)]
    rw [hv 33 (by kernel_rfl)]
    rw [hv 34 (by kernel_rfl)]
    clear hf hs hv hcur
    simp only [getD_toArray, List.getD_cons_succ, List.getD_cons_zero]
    clear T
    obtain ⟨v1, hm, h1⟩ := hcur1
    obtain ⟨p1, hh1, hp1⟩ := h1.cells
    have f3 := frozen_at hh1 3
    have c3b := cell_at hh1 3
    simp at c3b
    have h2 : Prn (w.setCell ⟨b, 3, none⟩ (.bool true)) B b v1 (t ++ T0) d true :=
      ⟨h1.hB, ⟨p1, heap_set hh1 3 _, hp1⟩, (Upd.set w (F := fun k => k = b) (a := ⟨b, 3, none⟩) rfl _).own h1.row fun k hk e => h1.ne (by rw [← e]; exact hk)⟩
    have hm2 := hide (hm.set 3 (.bool true))
    replace h2 := hide h2
    clear hm h1 hh1 hu c3
    go_wp2_with fail
    generalize hw2 : World.setCell w _ _ = w2
    rw [hw2] at hm2 h2
    go_loopw [25] (fun i wr => ∃ k : Nat, k ≤ xs.length ∧ i = .int .i64 k ∧ PrO wa B b rv ((t ++ T0) ++ (xs.take k).flatten) d true wr) (fun i _ => xs.length - (RowKit.intOf i).toNat)
    case atStart => exact ⟨0, Nat.zero_le _, rfl, v1, hm2.out, by simpa using h2.out⟩
    case round =>
      obtain ⟨k, hk, rfl, v1, hm, h1⟩ := hrel
      by_cases hlt : k < xs.length
      · have hlt' : (k : Int) < (xs.length : Int) := by omega
        have hs : xs.take (k + 1) = xs.take k ++ [xs[k]] := List.take_succ_eq_append_getElem hlt
        have hfl : (xs.take (k + 1)).flatten = (xs.take k).flatten ++ xs[k] := by rw [hs, List.flatten_append, List.flatten_cons, List.flatten_nil, List.append_nil]
        have hle : (xs.take (k + 1)).flatten.length ≤ xs.flatten.length := by
          conv => rhs; rw [← List.take_append_drop (k + 1) xs]
          rw [List.flatten_append, List.length_append]
          omega
        have hx1 := hx.out.upd hm.upd fun q hq e => by
          rcases e with e | e
          · exact hq.1 e
          · exact hq.2.1 e
        obtain ⟨b1, o1, rfl, -, cx⟩ := str_get hx1 hlt
        have hW := hide (WriteString_any xs[k] wr B b d v1 ((t ++ T0) ++ (xs.take k).flatten) true h1 (Nat.le_trans hB hm.upd.size) (by rw [hfl, List.length_append] at hle; rw [List.length_append, List.length_append, hTl.out]; omega))
        rw [List.append_assoc (t ++ T0), ← hfl] at hW
        generalize xs[k] = xk at *
        obtain ⟨Q1, hQ1⟩ : ∃ Q, Q = (t ++ T0) ++ (xs.take (k + 1)).flatten := ⟨_, rfl⟩
        rw [← hQ1] at hW
        replace hQ1 := hide hQ1
        replace hm := hide hm
        clear h1 hs hfl hle hx1
        go_wp2_with fail
        refine hW.out.mono ?_
        rintro e w2 ⟨rfl, v2, hm2, h2⟩
        have hm3 := hide (hm.out.trans hm2)
        replace h2 := hide h2
        clear hm2
        go_wp2_with fail
        go_round
        case rel => exact ⟨k + 1, hlt, by go_num, v2, hm3.out, by rw [← hQ1.out]; exact h2.out⟩
        case measure => simp [RowKit.intOf]; omega
      · obtain rfl : k = xs.length := by omega
        have hlt' : ¬ (xs.length : Int) < (xs.length : Int) := by omega
        have ht : xs.take xs.length = xs := List.take_length
        rw [ht] at h1
        replace hm := hide hm
        replace h1 := hide h1
        go_wp2_with fail
        go_end0
        exact ⟨rfl, v1, hm.out, by rw [← List.append_assoc] ; exact h1.out⟩
end Go.Proofs.YtojbfopmlgdjlaaDoor
