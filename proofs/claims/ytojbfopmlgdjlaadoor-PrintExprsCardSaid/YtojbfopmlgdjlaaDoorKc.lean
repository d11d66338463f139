/- Walks of package print at the laws' known: a null condition, a cell, an empty function. -/
import Derived.Test.YtojbfopmlgdjlaaDoorPf
namespace Go.Proofs.YtojbfopmlgdjlaaDoor
open Go Go.RowKit

set_option maxRecDepth 100000 in
set_option maxHeartbeats 1600000 in
theorem cond_null (s : List UInt8) (xb xo : Nat) (wa : World) (B b d : Nat) (rv : Value) (t : List UInt8) (g : Bool) (hS : xb < B) (c0 : wa.cell? ⟨xb, xo, none⟩ = some (.int .i64 9)) (c1 : wa.cell? ⟨xb, xo + 5, none⟩ = some (.string (strB s)))
    (h : Prn wa B b rv t d g) (hB : B ≤ wa.heap.size) (hd : d ≤ 1000000) (hl : t.length + s.length + 8 ≤ 70368700000000) :
    Calls Tryd.prog 26 #[.pointer (some ⟨b, 0, none⟩), .pointer (some ⟨xb, xo, none⟩)] wa fun r w' => r = .returned (.tuple #[]) ∧ PrO wa B b rv (putT t d g (s ++ [32, 61, 61, 32, 110, 117, 108, 108])) d true w' := by
  have hnF : Hid (¬ FB b rv xb) := hide fun e => Nat.lt_irrefl _ (Nat.lt_of_lt_of_le hS (h.ges _ e))
  have hlt := hide h.lts
  have hput := hide (fun w v (hp : Prn w B b rv t d g) (hz : B ≤ w.heap.size) (hr : RowF (FB b rv) [s, [32, 61, 61, 32, 110, 117, 108, 108]] v w) => put_row (by simp) hp hz hd (by simp; omega) hr)
  have hlz := hide hB
  rw [show ([s, [32, 61, 61, 32, 110, 117, 108, 108]] : List (List UInt8)).flatten = s ++ [32, 61, 61, 32, 110, 117, 108, 108] by simp] at hput
  generalize s ++ [32, 61, 61, 32, 110, 117, 108, 108] = X at *
  replace h := hide h
  clear hl hS hB
  go_enter Tryd.func26, Tryd.ntmps26
  go_wp2_with fail
  replace c0 := hide c0
  replace c1 := hide c1
  refine wp_region_flow (FB b rv) (factAt [(fun v _ => v = (.pointer (some ⟨b, 0, none⟩))), (fun v _ => v = (.pointer (some ⟨b, 0, none⟩))), (fun v _ => v = (.pointer (some ⟨b, 0, none⟩))), (fun v _ => v = (.pointer (some ⟨xb, xo, none⟩))), (fun v _ => v = (.pointer (some ⟨xb, xo, none⟩))), (fun v _ => v = (.pointer (some ⟨xb, xo + 5, none⟩))), (fun v _ => v = (.string (strB s))), (fun v w => RowF (FB b rv) [s, [32, 61, 61, 32, 110, 117, 108, 108]] v w), (fun v _ => v = (.tuple #[]))]) [none, none, none, none, none, none, none, none, some (fun _ w => PrO wa B b rv (putT t d g X) d true w)] (fun w => PrM b rv wa rv w ∧ Prn w B b rv t d g) (by kernel_rfl) (fkept_at ⟨FKept.eq _, FKept.eq _, FKept.eq _, FKept.eq _, FKept.eq _, FKept.eq _, FKept.eq _, RowF.kept, FKept.eq _, trivial⟩) (fun _ _ h hb => ⟨h.1.quiet hb, h.2.below hb⟩) ⟨fun _ _ _ h hb => h.quiet hb, trivial⟩ (by kernel_rfl) (by kernel_rfl) (by kernel_rfl) (by kernel_rfl) (Nat.le_of_ble_eq_true (by kernel_rfl)) ?_ ⟨?_, ?_, ?_, ?_, ?_, ?_, ?_, ?_, ?_, trivial⟩ ?_
  · exact ⟨.refl _ _ _, h.out⟩
  · intro T w Q hu hs hv hw hd
    have hx0 : T.getD 0 undef = (.pointer (some ⟨b, 0, none⟩)) := hv 0 (by kernel_rfl)
    refine .inl ⟨wanted_none rfl, ?_⟩
    clear hd hv hu hs hw
    go_simp
    exact ⟨_, rfl, DstOk.some rfl, Below.refl _ _, rfl⟩
  · intro T w Q hu hs hv hw hd
    have hx109 : T.getD 109 undef = (.pointer (some ⟨b, 0, none⟩)) := Deps.at 0 hd (by kernel_rfl)
    refine .inl ⟨wanted_none rfl, ?_⟩
    clear hd hv hu hs hw
    go_simp
    exact ⟨_, rfl, DstOk.some rfl, Below.refl _ _, rfl⟩
  · intro T w Q hu hs hv hw hd
    have hx110 : T.getD 110 undef = (.pointer (some ⟨b, 0, none⟩)) := Deps.at 1 hd (by kernel_rfl)
    refine .inl ⟨wanted_none rfl, ?_⟩
    clear hd hv hu hs hw
    go_simp
    exact ⟨_, rfl, DstOk.some rfl, Below.refl _ _, rfl⟩
  · intro T w Q hu hs hv hw hd
    have hx1 : T.getD 1 undef = (.pointer (some ⟨xb, xo, none⟩)) := hv 1 (by kernel_rfl)
    refine .inl ⟨wanted_none rfl, ?_⟩
    clear hd hv hu hs hw
    go_simp
    exact ⟨_, rfl, DstOk.some rfl, Below.refl _ _, rfl⟩
  · intro T w Q hu hs hv hw hd
    have hx112 : T.getD 112 undef = (.pointer (some ⟨xb, xo, none⟩)) := Deps.at 3 hd (by kernel_rfl)
    refine .inl ⟨wanted_none rfl, ?_⟩
    clear hd hv hu hs hw
    go_simp
    exact ⟨_, rfl, DstOk.some rfl, Below.refl _ _, rfl⟩
  · intro T w Q hu hs hv hw hd
    have hx113 : T.getD 113 undef = (.pointer (some ⟨xb, xo, none⟩)) := Deps.at 4 hd (by kernel_rfl)
    refine .inl ⟨wanted_none rfl, ?_⟩
    clear hd hv hu hs hw
    go_simp
    exact ⟨_, rfl, DstOk.some rfl, Below.refl _ _, rfl⟩
  · intro T w Q hu hs hv hw hd
    have hx114 : T.getD 114 undef = (.pointer (some ⟨xb, xo + 5, none⟩)) := Deps.at 5 hd (by kernel_rfl)
    refine .inl ⟨wanted_none rfl, ?_⟩
    have hq := hu.cell c1.out hnF.out
    clear hd hv hu hs hw
    go_simp
    exact ⟨_, rfl, DstOk.some rfl, Below.refl _ _, rfl⟩
  · intro T w Q hu hs hv hw hd
    have hx115 : T.getD 115 undef = (.string (strB s)) := Deps.at 6 hd (by kernel_rfl)
    have hy115 := hx115
    rw [Array.getD_eq_getD_getElem?] at hy115
    refine .inl ⟨wanted_none rfl, ?_⟩
    have hN := RowF.new (F := FB b rv) [s, [32, 61, 61, 32, 110, 117, 108, 108]] hlt.out hu.size
    replace hN := hide hN
    clear hd hv hu hs hw
    go_simp
    exact ⟨_, rfl, DstOk.some rfl, (Below.refl _ w).alloc (Nat.le_refl _) _, hN.out⟩
  · intro T w Q hu hs hv hw hd hc0
    have hc : (fun w => PrM b rv wa rv w ∧ Prn w B b rv t d g) w := hc0
    have hx111 : T.getD 111 undef = (.pointer (some ⟨b, 0, none⟩)) := Deps.at 2 hd (by kernel_rfl)
    have f116 : (fun (v : Value) (w : World) => RowF (FB b rv) [s, [32, 61, 61, 32, 110, 117, 108, 108]] v w) (T.getD 116 undef) w := Deps.at 7 hd (by kernel_rfl)
    generalize hx116 : T.getD 116 undef = x116 at f116 hc
    replace f116 := hide f116
    replace hc := hide hc
    refine .inl ⟨wanted_none rfl, ?_⟩
    have hN := hput.out w _ hc.out.2 (Nat.le_trans hlz.out hu.size) f116.out
    clear hd hv hu hs hw hc0
    replace hN := hide hN
    go_simp
    refine hN.out.mono ?_
    rintro e w5 ⟨rfl, v2, hm2, h2⟩
    exact ⟨_, rfl, DstOk.some rfl, hm2.upd, rfl, v2, hc.out.1.trans hm2, h2⟩
  intro T w hu hs hv hf hcur
  have hcur1 : (fun (w : World) => PrO wa B b rv (putT t d g X) d true w) w := hcur
  replace hcur1 := hcur1
  replace hcur1 := hide hcur1
  go_wp2_with fail
  go_end0
  exact ⟨rfl, hcur1.out⟩
theorem new_size (w : World) (o : Obj) : (w.alloc o).heap.size = w.heap.size + 1 := Array.size_push ..
set_option maxRecDepth 100000 in
theorem printNull_any (s : List UInt8) (hs : s.length ≤ 1000) (q : Nat) (w : World) (h : w.heap[q]? = some (.cells #[.int .i64 9, .pointer none, .pointer none, .pointer none, .pointer none, .string (strB s)] 48 (0, 0))) :
    Calls Tryd.prog 12 #[.pointer (some ⟨q, 0, none⟩)] w fun r w' => r = .returned (.string (strB (s ++ [32, 61, 61, 32, 110, 117, 108, 108]))) ∧ Below w.heap.size w w' := by
  have hB0 : Below w.heap.size w (w.alloc (.cells #[.pointer none, .slice none 0 0, .int .i64 0, .bool false] 61)) := (Below.refl _ w).alloc (Nat.le_refl _) _
  have hq : q < w.heap.size := (Array.getElem?_eq_some_iff.1 h).1
  have h1 := heap_old h (.cells #[.pointer none, .slice none 0 0, .int .i64 0, .bool false] 61)
  have hn := hide (Prn.new w)
  have hC := hide (cond_null s q 0 _ _ _ 0 _ [] false hq (cell_at h1 0) (cell_at h1 5) hn.out (by rw [new_size]; omega) (by omega) (by simp; omega))
  have hX : putT [] 0 false (s ++ [32, 61, 61, 32, 110, 117, 108, 108]) = s ++ [32, 61, 61, 32, 110, 117, 108, 108] := by simp [putT, tabsL, Lib.repeatL]
  rw [hX] at hC
  have hne : s ++ [32, 61, 61, 32, 110, 117, 108, 108] ≠ [] := by simp
  generalize s ++ [32, 61, 61, 32, 110, 117, 108, 108] = X at *
  clear h h1 hX hq
  replace hB0 := hide hB0
  go_enter Tryd.func12, Tryd.ntmps12
  go_wp2_with fail
  refine hC.out.mono ?_
  rintro r w1 ⟨rfl, v1, hm1, h1⟩
  have hb1 := hide (hB0.out.trans (hm1.below hn.out (by rw [new_size]; omega)))
  have hT := hide (text_any w1 _ _ _ _ _ _ h1 hne)
  clear hm1 h1
  go_wp2_with fail
  refine hT.out.mono ?_
  rintro r w2 ⟨rfl, hb2⟩
  have hb3 := hide (hb1.out.trans hb2)
  clear hb2
  go_wp2_with fail
  go_ret
  exact ⟨rfl, hb3.out⟩
set_option maxRecDepth 100000 in
theorem params_nil (w : World) (b : Nat) : Calls Tryd.prog 40 #[.pointer (some ⟨b, 0, none⟩), .slice none 0 0] w fun r w' => r = .returned (.tuple #[]) ∧ w = w' := by
  go_enter Tryd.func40, Tryd.ntmps40
  go_wp2_with fail
  go_loopw [8] (fun i wr => i = .int .i64 0 ∧ wr = w) (fun _ _ => 0)
  case atStart => exact ⟨rfl, rfl⟩
  case round =>
    obtain ⟨rfl, rfl⟩ := hrel
    go_wp2_with fail
    go_end0
    exact ⟨rfl, rfl⟩
set_option maxRecDepth 100000 in
theorem locals_nil (w : World) (b : Nat) : Calls Tryd.prog 42 #[.pointer (some ⟨b, 0, none⟩), .slice none 0 0] w fun r w' => r = .returned (.tuple #[]) ∧ w = w' := by
  go_enter Tryd.func42, Tryd.ntmps42
  go_wp2_with fail
  go_loopw [8] (fun i wr => i = .int .i64 0 ∧ wr = w) (fun _ _ => 0)
  case atStart => exact ⟨rfl, rfl⟩
  case round =>
    obtain ⟨rfl, rfl⟩ := hrel
    go_wp2_with fail
    go_end0
    exact ⟨rfl, rfl⟩
set_option maxRecDepth 100000 in
theorem stmts_nil (w : World) (b : Nat) : Calls Tryd.prog 43 #[.pointer (some ⟨b, 0, none⟩), .slice none 0 0] w fun r w' => r = .returned (.tuple #[]) ∧ w = w' := by
  go_enter Tryd.func43, Tryd.ntmps43
  go_wp2_with fail
  go_loopw [8] (fun i wr => i = .int .i64 0 ∧ wr = w) (fun _ _ => 0)
  case atStart => exact ⟨rfl, rfl⟩
  case round =>
    obtain ⟨rfl, rfl⟩ := hrel
    go_wp2_with fail
    go_end0
    exact ⟨rfl, rfl⟩
end Go.Proofs.YtojbfopmlgdjlaaDoor
