/- Part 7 of the walks (merged): Pf, Kc, Kf, Kg, Kh, GLxB, GLxC. -/
import Derived.Test.YtiiihpokpfhclaaDoorMs6
import Derived.Test.YtiiihpokpfhclaaDoorMs1
import Derived.Lib.ParseIntBCases
import Derived.Test.YtiiihpokpfhclaaDoorMs3
import Derived.BigQuiet
/- The walk of print.Expr. -/
namespace Go.Proofs.YtiiihpokpfhclaaDoor
open Go Go.RowKit

theorem Prn.new (w : World) : Prn (w.alloc (.cells #[.pointer none, .slice none 0 0, .int .i64 0, .bool false] 61)) w.heap.size w.heap.size (.slice none 0 0) [] 0 false :=
  ⟨Nat.le_refl _, ⟨_, heap_new w _, .inl rfl⟩, RowB.nil_ _ _⟩
theorem EnvP.new {w : World} (h : TabP w) (o : Obj) : EnvP (w.alloc o) w.heap.size :=
  ⟨by show _ ≤ (w.heap.push o).size; rw [Array.size_push]; omega, h.below ((Below.refl _ w).alloc (Nat.le_refl _) o), h.lt⟩
set_option maxRecDepth 100000 in
theorem printExpr_any (e : Ex) (x : Value) (w : World) (hx : ExA w (· < w.heap.size) e x) (hw : WfX e) (hT : TabP w) (hne : exT e ≠ []) (hl : (exT e).length ≤ 1000000) :
    Calls Tryd.prog 14 #[x] w fun r w' => r = .returned (.string (strB (exT e))) ∧ Below w.heap.size w w' := by
  have hB0 : Below w.heap.size w (w.alloc (.cells #[.pointer none, .slice none 0 0, .int .i64 0, .bool false] 61)) := (Below.refl _ w).alloc (Nat.le_refl _) _
  have hE := hide (expr_any e x (w.alloc (.cells #[.pointer none, .slice none 0 0, .int .i64 0, .bool false] 61)) w.heap.size w.heap.size 0 (.slice none 0 0) [] false (hx.low hB0) hw (Prn.new w) (EnvP.new hT _) (by omega) (by simp [padL]; omega))
  obtain ⟨xb, xo, rfl⟩ := hx.ptr
  have hX : putT [] 0 false (exT e) = exT e := by simp [putT, tabsL, Lib.repeatL]
  rw [hX] at hE
  generalize exT e = X at *
  clear hx hw hT hX
  have hn := hide (Prn.new w)
  replace hB0 := hide hB0
  go_enter Tryd.func14, Tryd.ntmps14
  go_wp2_with fail
  refine hE.out.mono ?_
  rintro r w1 ⟨rfl, v1, hm1, h1⟩
  have hb1 := hide (hB0.out.trans (hm1.below hn.out (by show _ ≤ (w.heap.push _).size; rw [Array.size_push]; omega)))
  have hT := hide (text_any w1 _ _ _ _ _ _ h1 hne)
  clear hm1 h1
  go_wp2_with fail
  refine hT.out.mono ?_
  rintro r w2 ⟨rfl, hb2⟩
  have hb3 := hide (hb1.out.trans hb2)
  clear hb2
  go_wp2_with fail
  go_ret
  exact ⟨rfl, hb3.out⟩
end Go.Proofs.YtiiihpokpfhclaaDoor
/- Walks of package print at the laws' known: a null condition, a cell, an empty function. -/
namespace Go.Proofs.YtiiihpokpfhclaaDoor
open Go Go.RowKit

set_option maxRecDepth 100000 in
set_option maxHeartbeats 1600000 in
theorem cond_null (s : List UInt8) (xb xo : Nat) (wa : World) (B b d : Nat) (rv : Value) (t : List UInt8) (g : Bool) (hS : xb < B) (c0 : wa.cell? ⟨xb, xo, none⟩ = some (.int .i64 9)) (c1 : wa.cell? ⟨xb, xo + 5, none⟩ = some (.string (strB s)))
    (h : Prn wa B b rv t d g) (hB : B ≤ wa.heap.size) (hd : d ≤ 1000000) (hl : t.length + s.length + 8 ≤ 70368700000000) :
    Calls Tryd.prog 18 #[.pointer (some ⟨b, 0, none⟩), .pointer (some ⟨xb, xo, none⟩)] wa fun r w' => r = .returned (.tuple #[]) ∧ PrO wa B b rv (putT t d g (s ++ [32, 61, 61, 32, 110, 117, 108, 108])) d true w' := by
  have hnF : Hid (¬ FB b rv xb) := hide fun e => Nat.lt_irrefl _ (Nat.lt_of_lt_of_le hS (h.ges _ e))
  have hlt := hide h.lts
  have hput := hide (fun w v (hp : Prn w B b rv t d g) (hz : B ≤ w.heap.size) (hr : RowF (FB b rv) [s, [32, 61, 61, 32, 110, 117, 108, 108]] v w) => put_row (by simp) hp hz hd (by simp; omega) hr)
  have hlz := hide hB
  rw [show ([s, [32, 61, 61, 32, 110, 117, 108, 108]] : List (List UInt8)).flatten = s ++ [32, 61, 61, 32, 110, 117, 108, 108] by simp] at hput
  generalize s ++ [32, 61, 61, 32, 110, 117, 108, 108] = X at *
  replace h := hide h
  clear hl hS hB
  go_enter Tryd.func18, Tryd.ntmps18
  go_wp2_with fail
  replace c0 := hide c0
  replace c1 := hide c1
  refine wp_region_flow (FB b rv) (factAt [(fun v _ => v = (.pointer (some ⟨b, 0, none⟩))), (fun v _ => v = (.pointer (some ⟨b, 0, none⟩))), (fun v _ => v = (.pointer (some ⟨b, 0, none⟩))), (fun v _ => v = (.pointer (some ⟨xb, xo, none⟩))), (fun v _ => v = (.pointer (some ⟨xb, xo, none⟩))), (fun v _ => v = (.pointer (some ⟨xb, xo + 5, none⟩))), (fun v _ => v = (.string (strB s))), (fun v w => RowF (FB b rv) [s, [32, 61, 61, 32, 110, 117, 108, 108]] v w), (fun v _ => v = (.tuple #[]))]) [none, none, none, none, none, none, none, none, some (fun _ w => PrO wa B b rv (putT t d g X) d true w)] (fun w => PrM b rv wa rv w ∧ Prn w B b rv t d g) (by kernel_rfl) (fkept_at ⟨FKept.eq _, FKept.eq _, FKept.eq _, FKept.eq _, FKept.eq _, FKept.eq _, FKept.eq _, RowF.kept, FKept.eq _, trivial⟩) (fun _ _ h hb => ⟨h.1.quiet hb, h.2.below hb⟩) ⟨fun _ _ _ h hb => h.quiet hb, trivial⟩ (by kernel_rfl) (by kernel_rfl) (by kernel_rfl) (by kernel_rfl) (Nat.le_of_ble_eq_true (by kernel_rfl)) ?_ ⟨?_, ?_, ?_, ?_, ?_, ?_, ?_, ?_, ?_, trivial⟩ ?_
  · exact ⟨.refl _ _ _, h.out⟩
  · intro T w Q hu hs hv hw hd
    have hx0 : T.getD 0 undef = (.pointer (some ⟨b, 0, none⟩)) := hv 0 (by kernel_rfl)
    refine .inl ⟨wanted_none rfl, ?_⟩
    clear hd hv hu hs hw
    go_simp
    exact ⟨_, rfl, DstOk.some rfl, Below.refl _ _, rfl⟩
  · intro T w Q hu hs hv hw hd
    have hx109 : T.getD 109 undef = (.pointer (some ⟨b, 0, none⟩)) := Deps.at 0 hd (by kernel_rfl)
    refine .inl ⟨wanted_none rfl, ?_⟩
    clear hd hv hu hs hw
    go_simp
    exact ⟨_, rfl, DstOk.some rfl, Below.refl _ _, rfl⟩
  · intro T w Q hu hs hv hw hd
    have hx110 : T.getD 110 undef = (.pointer (some ⟨b, 0, none⟩)) := Deps.at 1 hd (by kernel_rfl)
    refine .inl ⟨wanted_none rfl, ?_⟩
    clear hd hv hu hs hw
    go_simp
    exact ⟨_, rfl, DstOk.some rfl, Below.refl _ _, rfl⟩
  · intro T w Q hu hs hv hw hd
    have hx1 : T.getD 1 undef = (.pointer (some ⟨xb, xo, none⟩)) := hv 1 (by kernel_rfl)
    refine .inl ⟨wanted_none rfl, ?_⟩
    clear hd hv hu hs hw
    go_simp
    exact ⟨_, rfl, DstOk.some rfl, Below.refl _ _, rfl⟩
  · intro T w Q hu hs hv hw hd
    have hx112 : T.getD 112 undef = (.pointer (some ⟨xb, xo, none⟩)) := Deps.at 3 hd (by kernel_rfl)
    refine .inl ⟨wanted_none rfl, ?_⟩
    clear hd hv hu hs hw
    go_simp
    exact ⟨_, rfl, DstOk.some rfl, Below.refl _ _, rfl⟩
  · intro T w Q hu hs hv hw hd
    have hx113 : T.getD 113 undef = (.pointer (some ⟨xb, xo, none⟩)) := Deps.at 4 hd (by kernel_rfl)
    refine .inl ⟨wanted_none rfl, ?_⟩
    clear hd hv hu hs hw
    go_simp
    exact ⟨_, rfl, DstOk.some rfl, Below.refl _ _, rfl⟩
  · intro T w Q hu hs hv hw hd
    have hx114 : T.getD 114 undef = (.pointer (some ⟨xb, xo + 5, none⟩)) := Deps.at 5 hd (by kernel_rfl)
    refine .inl ⟨wanted_none rfl, ?_⟩
    have hq := hu.cell c1.out hnF.out
    clear hd hv hu hs hw
    go_simp
    exact ⟨_, rfl, DstOk.some rfl, Below.refl _ _, rfl⟩
  · intro T w Q hu hs hv hw hd
    have hx115 : T.getD 115 undef = (.string (strB s)) := Deps.at 6 hd (by kernel_rfl)
    have hy115 := hx115
    rw [Array.getD_eq_getD_getElem?] at hy115
    refine .inl ⟨wanted_none rfl, ?_⟩
    have hN := RowF.new (F := FB b rv) [s, [32, 61, 61, 32, 110, 117, 108, 108]] hlt.out hu.size
    replace hN := hide hN
    clear hd hv hu hs hw
    go_simp
    exact ⟨_, rfl, DstOk.some rfl, (Below.refl _ w).alloc (Nat.le_refl _) _, hN.out⟩
  · intro T w Q hu hs hv hw hd hc0
    have hc : (fun w => PrM b rv wa rv w ∧ Prn w B b rv t d g) w := hc0
    have hx111 : T.getD 111 undef = (.pointer (some ⟨b, 0, none⟩)) := Deps.at 2 hd (by kernel_rfl)
    have f116 : (fun (v : Value) (w : World) => RowF (FB b rv) [s, [32, 61, 61, 32, 110, 117, 108, 108]] v w) (T.getD 116 undef) w := Deps.at 7 hd (by kernel_rfl)
    generalize hx116 : T.getD 116 undef = x116 at f116 hc
    replace f116 := hide f116
    replace hc := hide hc
    refine .inl ⟨wanted_none rfl, ?_⟩
    have hN := hput.out w _ hc.out.2 (Nat.le_trans hlz.out hu.size) f116.out
    clear hd hv hu hs hw hc0
    replace hN := hide hN
    go_simp
    refine hN.out.mono ?_
    rintro e w5 ⟨rfl, v2, hm2, h2⟩
    exact ⟨_, rfl, DstOk.some rfl, hm2.upd, rfl, v2, hc.out.1.trans hm2, h2⟩
  intro T w hu hs hv hf hcur
  have hcur1 : (fun (w : World) => PrO wa B b rv (putT t d g X) d true w) w := hcur
  replace hcur1 := hcur1
  replace hcur1 := hide hcur1
  go_wp2_with fail
  go_end0
  exact ⟨rfl, hcur1.out⟩
theorem new_size (w : World) (o : Obj) : (w.alloc o).heap.size = w.heap.size + 1 := Array.size_push ..
set_option maxRecDepth 100000 in
theorem printNull_any (s : List UInt8) (hs : s.length ≤ 1000) (q : Nat) (w : World) (h : w.heap[q]? = some (.cells #[.int .i64 9, .pointer none, .pointer none, .pointer none, .pointer none, .string (strB s)] 48 (0, 0))) :
    Calls Tryd.prog 7 #[.pointer (some ⟨q, 0, none⟩)] w fun r w' => r = .returned (.string (strB (s ++ [32, 61, 61, 32, 110, 117, 108, 108]))) ∧ Below w.heap.size w w' := by
  have hB0 : Below w.heap.size w (w.alloc (.cells #[.pointer none, .slice none 0 0, .int .i64 0, .bool false] 61)) := (Below.refl _ w).alloc (Nat.le_refl _) _
  have hq : q < w.heap.size := (Array.getElem?_eq_some_iff.1 h).1
  have h1 := heap_old h (.cells #[.pointer none, .slice none 0 0, .int .i64 0, .bool false] 61)
  have hn := hide (Prn.new w)
  have hC := hide (cond_null s q 0 _ _ _ 0 _ [] false hq (cell_at h1 0) (cell_at h1 5) hn.out (by rw [new_size]; omega) (by omega) (by simp; omega))
  have hX : putT [] 0 false (s ++ [32, 61, 61, 32, 110, 117, 108, 108]) = s ++ [32, 61, 61, 32, 110, 117, 108, 108] := by simp [putT, tabsL, Lib.repeatL]
  rw [hX] at hC
  have hne : s ++ [32, 61, 61, 32, 110, 117, 108, 108] ≠ [] := by simp
  generalize s ++ [32, 61, 61, 32, 110, 117, 108, 108] = X at *
  clear h h1 hX hq
  replace hB0 := hide hB0
  go_enter Tryd.func7, Tryd.ntmps7
  go_wp2_with fail
  refine hC.out.mono ?_
  rintro r w1 ⟨rfl, v1, hm1, h1⟩
  have hb1 := hide (hB0.out.trans (hm1.below hn.out (by rw [new_size]; omega)))
  have hT := hide (text_any w1 _ _ _ _ _ _ h1 hne)
  clear hm1 h1
  go_wp2_with fail
  refine hT.out.mono ?_
  rintro r w2 ⟨rfl, hb2⟩
  have hb3 := hide (hb1.out.trans hb2)
  clear hb2
  go_wp2_with fail
  go_ret
  exact ⟨rfl, hb3.out⟩
set_option maxRecDepth 100000 in
theorem params_nil (w : World) (b : Nat) : Calls Tryd.prog 35 #[.pointer (some ⟨b, 0, none⟩), .slice none 0 0] w fun r w' => r = .returned (.tuple #[]) ∧ w = w' := by
  go_enter Tryd.func35, Tryd.ntmps35
  go_wp2_with fail
  go_loopw [8] (fun i wr => i = .int .i64 0 ∧ wr = w) (fun _ _ => 0)
  case atStart => exact ⟨rfl, rfl⟩
  case round =>
    obtain ⟨rfl, rfl⟩ := hrel
    go_wp2_with fail
    go_end0
    exact ⟨rfl, rfl⟩
set_option maxRecDepth 100000 in
theorem locals_nil (w : World) (b : Nat) : Calls Tryd.prog 37 #[.pointer (some ⟨b, 0, none⟩), .slice none 0 0] w fun r w' => r = .returned (.tuple #[]) ∧ w = w' := by
  go_enter Tryd.func37, Tryd.ntmps37
  go_wp2_with fail
  go_loopw [8] (fun i wr => i = .int .i64 0 ∧ wr = w) (fun _ _ => 0)
  case atStart => exact ⟨rfl, rfl⟩
  case round =>
    obtain ⟨rfl, rfl⟩ := hrel
    go_wp2_with fail
    go_end0
    exact ⟨rfl, rfl⟩
set_option maxRecDepth 100000 in
theorem stmts_nil (w : World) (b : Nat) : Calls Tryd.prog 38 #[.pointer (some ⟨b, 0, none⟩), .slice none 0 0] w fun r w' => r = .returned (.tuple #[]) ∧ w = w' := by
  go_enter Tryd.func38, Tryd.ntmps38
  go_wp2_with fail
  go_loopw [8] (fun i wr => i = .int .i64 0 ∧ wr = w) (fun _ _ => 0)
  case atStart => exact ⟨rfl, rfl⟩
  case round =>
    obtain ⟨rfl, rfl⟩ := hrel
    go_wp2_with fail
    go_end0
    exact ⟨rfl, rfl⟩
end Go.Proofs.YtiiihpokpfhclaaDoor
/- print.Func of a function that has a name alone; print.Globals of cells alone. -/
namespace Go.Proofs.YtiiihpokpfhclaaDoor
open Go Go.RowKit

set_option maxRecDepth 100000 in
set_option maxHeartbeats 1600000 in
theorem printFunc_nil (nm : List UInt8) (hnm : nm.length ≤ 1000) (w : World) :
    Calls Tryd.prog 17 #[.agg #[.string (strB nm), .slice none 0 0, .slice none 0 0, .slice none 0 0]] w fun r w' => r = .returned (.string (strB ([102, 110, 32] ++ nm ++ [40, 41, 32, 123, 10, 125, 10]))) ∧ Below w.heap.size w w' := by
  obtain ⟨oF, hoF⟩ : ∃ o, o = Obj.cells #[.string (strB nm), .slice none 0 0, .slice none 0 0, .slice none 0 0] 31 (0, 0) := ⟨_, rfl⟩
  obtain ⟨oP, hoP⟩ : ∃ o, o = Obj.cells #[.pointer none, .slice none 0 0, .int .i64 0, .bool false] 61 (0, 0) := ⟨_, rfl⟩
  have hB0 : Below w.heap.size w (w.alloc oF) := (Below.refl _ w).alloc (Nat.le_refl _) _
  have hB1 : Below (w.alloc oF).heap.size (w.alloc oF) ((w.alloc oF).alloc oP) := (Below.refl _ _).alloc (Nat.le_refl _) _
  have hz : (w.alloc oF).heap.size = w.heap.size + 1 := new_size _ _
  have hF0 := heap_old (heap_new w oF) oP
  have hn := Prn.new (w.alloc oF)
  rw [← hoP] at hn
  have hz2 : ((w.alloc oF).alloc oP).heap.size = w.heap.size + 1 + 1 := by rw [new_size, hz]
  rw [hz] at hn
  have hP1 := put_new [[102, 110, 32], nm, [40]] (by simp) (by simp) _ _ _ 0 _ [] false hn (by rw [hz2]; omega) (by omega) (by simp; omega)
  rw [hz2] at hP1
  rw [show putT [] 0 false ([[102, 110, 32], nm, [40]] : List (List UInt8)).flatten = [102, 110, 32] ++ nm ++ [40] by simp [putT, tabsL, Lib.repeatL]] at hP1
  have hlP : ([102, 110, 32] ++ nm ++ [40]).length ≤ 1004 := by simp; omega
  have hfin : [102, 110, 32] ++ nm ++ [40, 41, 32, 123, 10, 125, 10] = ([102, 110, 32] ++ nm ++ [40]) ++ [41, 32, 123, 10, 125, 10] := by simp
  rw [hfin]
  generalize [102, 110, 32] ++ nm ++ [40] = T1 at *
  have hF0w := hide hF0
  have hF1 : ∀ w', Below (w.heap.size + 1) ((w.alloc oF).alloc oP) w' → w'.heap[w.heap.size]? = some oF := fun w' hb => (hb.block _ (by omega)).trans hF0
  subst hoF
  have c0 : World.cell? _ ⟨w.heap.size, 0, none⟩ = _ := (cell_at hF0 0)
  simp at c0
  replace hP1 := hide hP1
  replace hF1 := hide hF1
  replace hn := hide hn
  replace hz := hide hz
  subst hoP
  replace hz2 := hide hz2
  replace hB0 := hide hB0
  replace hB1 := hide hB1
  clear hfin hF0
  go_enter Tryd.func17, Tryd.ntmps17
  go_wp2_with fail
  refine hP1.out.mono ?_
  rintro r w1 ⟨rfl, v1, hm1, h1⟩
  have hb1 := hm1.below hn.out (by rw [hz2.out]; omega)
  have hs1 : w.heap.size + 1 ≤ w1.heap.size := Nat.le_trans (by rw [hz2.out]; omega) hb1.size
  have c1 : w1.cell? ⟨w.heap.size, 1, none⟩ = some (.slice none 0 0) := (cell_at (hF1.out _ hb1) 1).trans rfl
  have hP2 := hide (put_new [[41, 32]] (by decide) (by decide) w1 _ _ 0 v1 _ true h1 hs1 (by omega) (by simp; omega))
  replace hm1 := hide hm1
  replace hb1 := hide hb1
  clear h1 c0
  go_wp2_with fail
  refine (params_nil w1 _).mono ?_
  rintro r w2 ⟨rfl, rfl⟩
  go_wp2_with fail
  refine hP2.out.mono ?_
  rintro r w2 ⟨rfl, v2, hm2, h2⟩
  have hm3 := hide (hm1.out.trans hm2)
  rw [show putT T1 0 true ([[41, 32]] : List (List UInt8)).flatten = T1 ++ [41, 32] by simp [putT]] at h2
  have hs2 : w.heap.size + 1 ≤ w2.heap.size := Nat.le_trans hs1 hm2.upd.size
  have hO := hide (open6_any w2 _ _ 0 v2 _ true h2 hs2 (by omega) (by simp; omega))
  clear hm2 h2 c1
  go_wp2_with fail
  refine hO.out.mono ?_
  rintro r w3 ⟨rfl, v3, hm4, h3⟩
  have hm5 := hide (hm3.out.trans hm4)
  rw [show putT (T1 ++ [41, 32]) 0 true [123] ++ [10] = T1 ++ [41, 32, 123, 10] by simp [putT]] at h3
  have hs3 : w.heap.size + 1 ≤ w3.heap.size := Nat.le_trans hs2 hm4.upd.size
  have hb3 := hm5.out.below hn.out (by rw [hz2.out]; omega)
  have c2 : w3.cell? ⟨w.heap.size, 2, none⟩ = some (.slice none 0 0) := (cell_at (hF1.out _ hb3) 2).trans rfl
  have c3 : w3.cell? ⟨w.heap.size, 3, none⟩ = some (.slice none 0 0) := (cell_at (hF1.out _ hb3) 3).trans rfl
  have hC := hide (close6_any w3 _ _ 0 v3 _ false h3 hs3 (by omega) (by simp; omega))
  clear hm4 h3 hb3
  go_wp2_with fail
  refine (locals_nil w3 _).mono ?_
  rintro r w4 ⟨rfl, rfl⟩
  go_wp2_with fail
  refine (stmts_nil w3 _).mono ?_
  rintro r w4 ⟨rfl, rfl⟩
  clear c2 c3
  go_wp2_with fail
  refine hC.out.mono ?_
  rintro r w4 ⟨rfl, v4, hm6, h4⟩
  have hm7 := hide (hm5.out.trans hm6)
  rw [show putT (T1 ++ [41, 32, 123, 10]) 0 false [125] = T1 ++ [41, 32, 123, 10, 125] by simp [putT, tabsL, Lib.repeatL]] at h4
  have hs4 : w.heap.size + 1 ≤ w4.heap.size := Nat.le_trans hs3 hm6.upd.size
  have hE := hide (endL_any w4 _ _ 0 v4 _ true h4 hs4 (by simp; omega))
  clear hm6 h4
  go_wp2_with fail
  refine hE.out.mono ?_
  rintro r w5 ⟨rfl, v5, hm8, h5⟩
  have hm9 := hm7.out.trans hm8
  have hb5 := hide ((hB0.out.trans (hB1.out.mono (by rw [hz.out]; omega))).trans ((hm9.below hn.out (by rw [hz2.out]; omega)).mono (by omega)))
  rw [show T1 ++ [41, 32, 123, 10, 125] ++ [10] = T1 ++ [41, 32, 123, 10, 125, 10] by simp] at h5
  have hT := hide (text_any w5 _ _ _ _ _ _ h5 (by simp))
  clear hm8 h5 hm9
  go_wp2_with fail
  refine hT.out.mono ?_
  rintro r w6 ⟨rfl, hb6⟩
  have hb7 := hide (hb5.out.trans (hb6.mono (by omega)))
  clear hb6
  go_wp2_with fail
  go_ret
  exact ⟨rfl, hb7.out⟩
end Go.Proofs.YtiiihpokpfhclaaDoor
/- print.Globals of cells alone. -/
namespace Go.Proofs.YtiiihpokpfhclaaDoor
open Go Go.RowKit

def cellT (x : List UInt8) : List UInt8 := [99, 101, 108, 108, 32] ++ x ++ [59, 10]
def cellsT (xs : List (List UInt8)) : List UInt8 := (xs.map cellT).flatten
theorem cellsT_len (xs : List (List UInt8)) : (cellsT xs).length = xs.flatten.length + 7 * xs.length := by
  induction xs with
  | nil => rfl
  | cons x r ih =>
    have : cellsT (x :: r) = cellT x ++ cellsT r := rfl
    rw [this, List.length_append, ih]
    simp [cellT]
    omega
theorem cellsT_next {xs : List (List UInt8)} {k : Nat} (hk : k < xs.length) : cellsT (xs.take (k + 1)) = cellsT (xs.take k) ++ cellT xs[k] := by
  unfold cellsT
  rw [List.take_succ_eq_append_getElem hk, List.map_append, List.flatten_append]
  congr 1
  simp
set_option maxRecDepth 100000 in
set_option maxHeartbeats 1600000 in
theorem printCells (xs : List (List UInt8)) (A : Option Addr) (c : Nat) (w : World) (hx : ArgV w (· < w.heap.size) (.slice A xs.length c) (strL xs)) (hne : xs ≠ []) (hl : xs.flatten.length + 7 * xs.length ≤ 1000000) :
    Calls Tryd.prog 16 #[.agg #[.slice A xs.length c, .slice none 0 0]] w fun r w' => r = .returned (.string (strB (cellsT xs))) ∧ Below w.heap.size w w' := by
  have hlen : xs.length ≤ 1000000 := by omega
  obtain ⟨oF, hoF⟩ : ∃ o, o = Obj.cells #[.slice A xs.length c, .slice none 0 0] 53 (0, 0) := ⟨_, rfl⟩
  obtain ⟨oP, hoP⟩ : ∃ o, o = Obj.cells #[.pointer none, .slice none 0 0, .int .i64 0, .bool false] 61 (0, 0) := ⟨_, rfl⟩
  have hB0 : Below w.heap.size w (w.alloc oF) := (Below.refl _ w).alloc (Nat.le_refl _) _
  have hB1 : Below (w.alloc oF).heap.size (w.alloc oF) ((w.alloc oF).alloc oP) := (Below.refl _ _).alloc (Nat.le_refl _) _
  have hz : (w.alloc oF).heap.size = w.heap.size + 1 := new_size _ _
  have hF0 := heap_old (heap_new w oF) oP
  have hn := Prn.new (w.alloc oF)
  rw [← hoP] at hn
  have hz2 : ((w.alloc oF).alloc oP).heap.size = w.heap.size + 1 + 1 := by rw [new_size, hz]
  rw [hz] at hn
  have hF1 : ∀ w', Below (w.heap.size + 1) ((w.alloc oF).alloc oP) w' → w'.heap[w.heap.size]? = some oF := fun w' hb => (hb.block _ (by omega)).trans hF0
  have hBB : Below w.heap.size w ((w.alloc oF).alloc oP) := hB0.trans (hB1.mono (by omega))
  have hx1 := hide (fun w' (hb : Below w.heap.size w w') => hx.upd (F := (w.heap.size ≤ ·)) ⟨hb.os, hb.tape, hb.output, hb.size, fun k _ hn => hb.block k (by omega)⟩ fun k h1 h2 => by omega)
  subst hoF
  have c0 : World.cell? _ ⟨w.heap.size, 0, none⟩ = some (.slice A xs.length c) := (cell_at hF0 0).trans rfl
  obtain ⟨T, hT⟩ : ∃ T, T = cellsT xs := ⟨_, rfl⟩
  rw [← hT]
  replace hT := hide hT
  replace hF1 := hide hF1
  replace hn := hide hn
  replace hz := hide hz
  subst hoP
  replace hz2 := hide hz2
  replace hBB := hide hBB
  clear hF0 hB0 hB1 hx
  go_enter Tryd.func16, Tryd.ntmps16
  go_wp2_with fail
  obtain ⟨W0, hW0⟩ : ∃ W, W = ((w.alloc (Obj.cells #[.slice A xs.length c, .slice none 0 0] 53 (0, 0))).alloc (Obj.cells #[.pointer none, .slice none 0 0, .int .i64 0, .bool false] 61 (0, 0))) := ⟨_, rfl⟩
  clear c0
  rw [← hW0] at hF1 hn hz2 hBB
  rw [← hW0]
  replace hW0 := hide hW0
  go_loopw [11] (fun i wr => ∃ k : Nat, k ≤ xs.length ∧ i = .int .i64 k ∧ PrO W0 (w.heap.size + 1) (w.heap.size + 1) (.slice none 0 0) (cellsT (xs.take k)) 0 false wr) (fun i _ => xs.length - (RowKit.intOf i).toNat)
  case atStart => exact ⟨0, Nat.zero_le _, rfl, PrO.of hn.out⟩
  case round =>
    obtain ⟨k, hk, rfl, v1, hm, h1⟩ := hrel
    by_cases hlt : k < xs.length
    · have hlt' : (k : Int) < (xs.length : Int) := by omega
      have hnx := cellsT_next hlt
      have hb1 := hm.below hn.out (by rw [hz2.out]; omega)
      have hs1 : w.heap.size + 1 ≤ wr.heap.size := Nat.le_trans (by rw [hz2.out]; omega) hm.upd.size
      have hxw := hx1.out wr (hBB.out.trans (hb1.mono (by omega)))
      obtain ⟨b1, o1, rfl, -, cx⟩ := str_get hxw hlt
      have hLk : (cellsT (xs.take (k + 1))).length ≤ 1000000 := by
        rw [cellsT_len]
        have e1 : (xs.take (k + 1)).flatten.length ≤ xs.flatten.length := by
          conv => rhs; rw [← List.take_append_drop (k + 1) xs]
          rw [List.flatten_append, List.length_append]
          omega
        have e2 : (xs.take (k + 1)).length ≤ xs.length := by rw [List.length_take]; omega
        omega
      rw [hnx, List.length_append] at hLk
      have hcl : (cellT xs[k]).length = xs[k].length + 7 := by simp [cellT]
      have hP := put_new [[99, 101, 108, 108, 32], xs[k], [59]] (by simp) (by simp) wr _ _ 0 v1 _ false h1 hs1 (by omega) (by simp; omega)
      rw [show putT (cellsT (xs.take k)) 0 false ([[99, 101, 108, 108, 32], xs[k], [59]] : List (List UInt8)).flatten = cellsT (xs.take k) ++ ([99, 101, 108, 108, 32] ++ xs[k] ++ [59]) by simp [putT, tabsL, Lib.repeatL]] at hP
      have hq : cellsT (xs.take k) ++ ([99, 101, 108, 108, 32] ++ xs[k] ++ [59]) ++ [10] = cellsT (xs.take (k + 1)) := by rw [hnx]; simp [cellT]
      have hE := hide (fun w1 v (h : Prn w1 (w.heap.size + 1) (w.heap.size + 1) v (cellsT (xs.take k) ++ ([99, 101, 108, 108, 32] ++ xs[k] ++ [59])) 0 true) (hs : w.heap.size + 1 ≤ w1.heap.size) => endL_any w1 _ _ 0 v _ true h hs (by simp; omega))
      rw [hq] at hE
      obtain ⟨T2, hT2⟩ : ∃ T2, T2 = cellsT (xs.take (k + 1)) := ⟨_, rfl⟩
      rw [← hT2] at hE hq
      replace hT2 := hide hT2
      generalize cellsT (xs.take k) ++ ([99, 101, 108, 108, 32] ++ xs[k] ++ [59]) = T1 at *
      generalize xs[k] = xk at *
      replace hP := hide hP
      replace hm := hide hm
      replace hq := hide hq
      replace hnx := hide hnx
      clear h1 hxw hLk hcl hb1
      go_wp2_with fail
      refine hP.out.mono ?_
      rintro r w1 ⟨rfl, v2, hm2, h2⟩
      have hm3 := hide (hm.out.trans hm2)
      have hE2 := hide (hE.out w1 v2 h2 (Nat.le_trans hs1 hm2.upd.size))
      clear hm2 h2
      go_wp2_with fail
      refine hE2.out.mono ?_
      rintro r w2 ⟨rfl, v3, hm4, h3⟩
      have hm5 := hide (hm3.out.trans hm4)
      replace h3 := hide h3
      clear hm4
      go_wp2_with fail
      go_round
      case rel => exact ⟨k + 1, hlt, by go_num, v3, hm5.out, by rw [← hT2.out]; exact h3.out⟩
      case measure => simp [RowKit.intOf]; omega
    · obtain rfl : k = xs.length := by omega
      have hlt' : ¬ (xs.length : Int) < (xs.length : Int) := by omega
      have ht : xs.take xs.length = xs := List.take_length
      rw [ht, ← hT.out] at h1
      have hb1 := hm.below hn.out (by rw [hz2.out]; omega)
      have c1 : wr.cell? ⟨w.heap.size, 1, none⟩ = some (.slice none 0 0) := (cell_at (hF1.out _ hb1) 1).trans rfl
      have hTne : T ≠ [] := by
        rw [hT.out]
        intro e
        have := cellsT_len xs
        rw [e] at this
        cases xs with
        | nil => exact hne rfl
        | cons _ _ => simp at this
      have hTx := hide (text_any wr _ _ _ _ _ _ h1 hTne)
      have hb2 := hide (hBB.out.trans (hb1.mono (by omega)))
      clear hm h1 hb1
      go_wp2_with fail
      go_loopw [25] (fun i wr2 => i = .int .i64 0 ∧ wr2 = wr) (fun _ _ => 0)
      case atStart => exact ⟨rfl, rfl⟩
      case round =>
        obtain ⟨rfl, rfl⟩ := hrel
        go_wp2_with fail
        refine hTx.out.mono ?_
        rintro r w6 ⟨rfl, hb6⟩
        have hb7 := hide (hb2.out.trans (hb6.mono (by omega)))
        clear hb6
        go_wp2_with fail
        go_ret
        exact ⟨rfl, hb7.out⟩
end Go.Proofs.YtiiihpokpfhclaaDoor
/- The laws' known. -/
namespace Go.Proofs.YtiiihpokpfhclaaDoor
open Go Go.RowKit

def exObj (k n : Int) (s : ByteArray) (va vb : Value) : Obj := .cells #[.int .i64 k, .int .i64 n, .string s, va, vb] 46 (0, 0)
theorem NdV.of {w : World} {S : Nat → Prop} {g : Nat} {k n : Int} {s : ByteArray} {va vb : Value} (h : w.heap[g]? = some (exObj k n s va vb)) (hS : S g) : NdV w S g 0 k n s va vb :=
  ⟨hS, (cell_at h 0).trans rfl, (cell_at h 1).trans rfl, (cell_at h 2).trans rfl, (cell_at h 3).trans rfl, (cell_at h 4).trans rfl⟩
set_option maxRecDepth 100000 in
set_option maxHeartbeats 1600000 in
theorem known8_any (w : World) (hT : TabP w) : Calls Tryd.prog 5 #[] w fun r w' => r = .returned (.bool true) ∧ Below w.heap.size w w' := by
  obtain ⟨o1, ho1⟩ : ∃ o, o = exObj 1 0 ⟨#[97]⟩ (.pointer none) (.pointer none) := ⟨_, rfl⟩
  obtain ⟨o2, ho2⟩ : ∃ o, o = exObj 3 0 ⟨#[]⟩ (.pointer (some ⟨w.heap.size, 0, none⟩)) (.pointer (some ⟨w.heap.size, 0, none⟩)) := ⟨_, rfl⟩
  obtain ⟨o3, ho3⟩ : ∃ o, o = exObj 3 0 ⟨#[]⟩ (.pointer (some ⟨w.heap.size, 0, none⟩)) (.pointer (some ⟨w.heap.size + 1, 0, none⟩)) := ⟨_, rfl⟩
  have z1 : (w.alloc o1).heap.size = w.heap.size + 1 := new_size _ _
  have z2 : ((w.alloc o1).alloc o2).heap.size = w.heap.size + 1 + 1 := by rw [new_size, z1]
  have z3 : (((w.alloc o1).alloc o2).alloc o3).heap.size = w.heap.size + 1 + 1 + 1 := by rw [new_size, z2]
  have b1 : Below w.heap.size w (w.alloc o1) := (Below.refl _ w).alloc (Nat.le_refl _) _
  have b2 : Below w.heap.size w ((w.alloc o1).alloc o2) := b1.alloc (by omega) _
  have b3 : Below w.heap.size w (((w.alloc o1).alloc o2).alloc o3) := b2.alloc (by omega) _
  have h1 := heap_old (heap_old (heap_new w o1) o2) o3
  have h2 := heap_old (heap_new (w.alloc o1) o2) o3
  have h3 := heap_new ((w.alloc o1).alloc o2) o3
  rw [z1] at h2
  rw [z2] at h3
  generalize hW : ((w.alloc o1).alloc o2).alloc o3 = W at *
  have hTW : TabP W := hT.below b3
  have e1 : ExA W (· < W.heap.size) (.var [97]) (.pointer (some ⟨w.heap.size, 0, none⟩)) := ⟨_, _, rfl, NdV.of (by rw [h1, ho1]; rfl) (by rw [z3]; omega)⟩
  have e2 : ExA W (· < W.heap.size) (.bin 3 (.var [97]) (.var [97])) (.pointer (some ⟨w.heap.size + 1, 0, none⟩)) := ⟨_, _, _, _, rfl, NdV.of (by rw [h2, ho2]; rfl) (by rw [z3]; omega), e1, e1⟩
  have e3 : ExA W (· < W.heap.size) (.bin 3 (.var [97]) (.bin 3 (.var [97]) (.var [97]))) (.pointer (some ⟨w.heap.size + 1 + 1, 0, none⟩)) := ⟨_, _, _, _, rfl, NdV.of (by rw [h3, ho3]; rfl) (by rw [z3]; omega), e1, e2⟩
  have hv : WfX (.var [97]) := by show [97].length ≤ 1000000; decide
  have hE := hide (printExpr_any _ _ W e3 ⟨by decide, by decide, hv, by decide, by decide, hv, hv⟩ hTW (by decide) (by decide))
  rw [show strB (exT (.bin 3 (.var [97]) (.bin 3 (.var [97]) (.var [97])))) = ⟨#[97, 32, 45, 32, 40, 97, 32, 45, 32, 97, 41]⟩ from rfl] at hE
  subst ho1 ho2 ho3
  unfold exObj at hW
  replace b3 := hide b3
  have hz3 := hide z3
  clear h1 h2 h3 e1 e2 e3 b1 b2 hv z1 z2 hT hTW
  go_enter Tryd.func5, Tryd.ntmps5
  go_wp2_with fail
  replace hW := hide hW
  refine hE.out.mono ?_
  rintro r w1 ⟨rfl, hb1⟩
  have c1 := hide (b3.out.trans (hb1.mono (by rw [hz3.out]; omega)))
  have hg := heap_new w1 (.cells #[.int .i64 9, .pointer none, .pointer none, .pointer none, .pointer none, .string ⟨#[112]⟩] 48)
  have hC := hide (printNull_any [112] (by decide) _ _ hg)
  rw [show strB ([112] ++ [32, 61, 61, 32, 110, 117, 108, 108]) = ⟨#[112, 32, 61, 61, 32, 110, 117, 108, 108]⟩ from rfl] at hC
  clear hb1 hg
  go_wp2_with fail
  refine hC.out.mono ?_
  rintro r w2 ⟨rfl, hb2⟩
  have c2 := hide ((c1.out.alloc c1.out.size (.cells #[.int .i64 9, .pointer none, .pointer none, .pointer none, .pointer none, .string ⟨#[112]⟩] 48)).trans (hb2.mono (by have := c1.out.size; rw [new_size]; omega)))
  have hs := heap_new w2 (.cells #[.string ⟨#[99]⟩] 9)
  have hx : ArgV (w2.alloc (.cells #[.string ⟨#[99]⟩] 9)) (· < (w2.alloc (.cells #[.string ⟨#[99]⟩] 9)).heap.size) (.slice (some ⟨w2.heap.size, 0, none⟩) 1 1) (strL [[99]]) :=
    ArgV.one ((cell_at hs 0).trans rfl) (by rw [new_size]; omega)
  have hG := hide (printCells [[99]] _ _ _ hx (by decide) (by decide))
  rw [show strB (cellsT [[99]]) = ⟨#[99, 101, 108, 108, 32, 99, 59, 10]⟩ from rfl] at hG
  clear hb2 hs hx
  go_wp2_with fail
  refine hG.out.mono ?_
  rintro r w3 ⟨rfl, hb3⟩
  have c3 := hide ((c2.out.alloc c2.out.size (.cells #[.string ⟨#[99]⟩] 9)).trans (hb3.mono (by have := c2.out.size; rw [new_size]; omega)))
  have hF := hide (printFunc_nil [102] (by decide) w3)
  rw [show strB ([102, 110, 32] ++ [102] ++ [40, 41, 32, 123, 10, 125, 10]) = ⟨#[102, 110, 32, 102, 40, 41, 32, 123, 10, 125, 10]⟩ from rfl] at hF
  clear hb3
  go_wp2_with fail
  refine hF.out.mono ?_
  rintro r w4 ⟨rfl, hb4⟩
  have c4 := hide (c3.out.trans (hb4.mono c3.out.size))
  clear hb4
  go_wp2_with fail
  go_ret
  exact ⟨rfl, c4.out⟩
end Go.Proofs.YtiiihpokpfhclaaDoor
/- The faults of words: names, numbers, operators; the kind that a byte begins. -/
namespace Go.Proofs.YtiiihpokpfhclaaDoor
open Go Go.RowKit Go.Lib
theorem valF_ge (l : List UInt8) : ∀ a, a ≤ l.foldl valF a := by
  induction l with
  | nil => exact fun a => Nat.le_refl a
  | cons c r ih =>
    intro a
    have := ih (valF a c)
    simp only [List.foldl_cons]
    unfold valF at this ⊢
    omega
theorem uintM_digits : ∀ (l : List UInt8) (acc : Nat), (∀ c ∈ l, digitB c.toNat = true) → acc ≤ 18446744073709551615 → parseUintM 18446744073709551615 acc l = if 18446744073709551615 < l.foldl valF acc then .range else .ok (l.foldl valF acc)
  | [], acc, _, ha => by rw [parseUintM, List.foldl_nil, if_neg (by omega)]
  | c :: r, acc, hd, ha => by
    have hc := hd c (List.mem_cons_self ..)
    unfold digitB at hc
    have hc := of_decide_eq_true hc
    rw [parseUintM, if_pos hc, List.foldl_cons]
    have hge := valF_ge r (valF acc c)
    by_cases h1 : 1844674407370955162 ≤ acc
    · rw [if_pos h1, if_pos]
      unfold valF at hge ⊢
      omega
    · rw [if_neg h1]
      by_cases h2 : 18446744073709551615 < acc * 10 + (c.toNat - 48)
      · rw [if_pos h2, if_pos]
        unfold valF at hge ⊢
        omega
      · rw [if_neg h2, uintM_digits r _ (fun x hx => hd x (List.mem_cons_of_mem _ hx)) (by omega)]
        have e : acc * 10 + (c.toNat - 48) = valF acc c := by unfold valF; omega
        rw [e]
theorem parse_digits {l : List UInt8} (hne : l ≠ []) (hd : ∀ c ∈ l, digitB c.toNat = true) : parseIntB 64 l = if 9223372036854775807 < valL l then .range else .ok ((valL l : Nat) : Int) := by
  cases l with
  | nil => exact absurd rfl hne
  | cons c r =>
    have hc := hd c (List.mem_cons_self ..)
    unfold digitB at hc
    have hc := of_decide_eq_true hc
    rw [parseIntB_plain 64 c r (by omega) (by omega)]
    unfold parseUintB
    rw [if_neg (by simp)]
    have e : 2 ^ 64 - 1 = 18446744073709551615 := by decide
    have e2 : 2 ^ (64 - 1) = 9223372036854775808 := by decide
    rw [e, e2, uintM_digits _ 0 hd (by omega)]
    show signlessC _ (if 18446744073709551615 < valL (c :: r) then _ else _) = _
    by_cases h1 : 18446744073709551615 < valL (c :: r)
    · rw [if_pos h1, if_pos (by omega)]; rfl
    · rw [if_neg h1]
      show (if 9223372036854775808 ≤ valL (c :: r) then _ else _) = _
      by_cases h2 : 9223372036854775807 < valL (c :: r)
      · rw [if_pos h2, if_pos (by omega)]
      · rw [if_neg h2, if_neg (by omega)]; rfl
theorem fault_name (l : List UInt8) (c : UInt8) : fault 0 l c = if 32 < l.length then 53 else 0 := rfl
theorem fault_op (l : List UInt8) (c : UInt8) : fault 2 l c = if isOp l = true then 0 else 50 := rfl
/-- A string's byte, as an operation reads it. -/
theorem str_at {l : List UInt8} {i : Nat} {c : UInt8} (h : l[i]? = some c) (w : World) : (Instr.index 9 (.string (strB l)) (.int .i64 i)).run Tryd.prog w = .ok (.int .u8 c.toNat) w := by
  have hi : i < l.length := by
    rcases Nat.lt_or_ge i l.length with h1 | h1
    · exact h1
    · rw [List.getElem?_eq_none h1] at h; cases h
  have hz : (strB l).size = l.length := rfl
  rw [run_index_string w 9 (strB l) .i64 i Tryd.underlying9, dif_pos ⟨by omega, by omega⟩]
  have e : (strB l)[(i : Int).toNat]'(by rw [hz]; omega) = c := by
    rw [List.getElem?_eq_getElem hi] at h
    have := Option.some.inj h
    simp only [Int.toNat_natCast]
    rw [← this]
    rfl
  rw [e]
set_option maxRecDepth 100000 in
/-- A string's cut. -/
theorem str_cut {l : List UInt8} {i j : Nat} (hij : i ≤ j) (hj : j ≤ l.length) (w : World) : (Instr.slice 9 (.string (strB l)) (some (.int .i64 i)) (some (.int .i64 j)) none).run Tryd.prog w = .ok (.string (strB ((l.drop i).take (j - i)))) w := by
  have hz : (strB l).size = l.length := rfl
  have h := run_slice_string (P := Tryd.prog) w 9 (strB l) .i64 .i64 i j Tryd.underlying9 (by omega) (by omega) (by omega)
  rw [h]
  congr 2
  apply ByteArray.ext
  apply Array.ext'
  simp [strB, ByteArray.extract, ByteArray.copySlice]
end Go.Proofs.YtiiihpokpfhclaaDoor
/- The reader of package lex: its block, its tokens' row; newReader, begin, goesOn. -/
namespace Go.Proofs.YtiiihpokpfhclaaDoor
open Go Go.RowKit
def Tok.cells (t : Tok) : List Value := [.int .i64 t.kind, .string (strB t.text), .int .i64 t.at_]
/-- A slice of tokens of the call's own. -/
def ToksR (w : World) (B : Nat) (v : Value) (ts : List Tok) : Prop := w.ownsRow B 91 3 v ts.length (ts.map Tok.cells).flatten
def kindB (c : Nat) : Nat := if blankB c = true then 3 else if c = 35 then 4 else if letterB c = true then 0 else if digitB c = true then 1 else 2
theorem str_add (a b : List UInt8) (h : a.length + b.length ≤ 9223372036854775807) (w : World) : (Op.stringOp .add ⟨a.toArray⟩ ⟨b.toArray⟩).run Tryd.prog w = .ok (.string (strB (a ++ b))) w := by
  have ha : (strB a).size = a.length := rfl
  have hb : (strB b).size = b.length := rfl
  have := run_string_add_sum (P := Tryd.prog) w (strB a) (strB b) (by omega)
  refine this.trans ?_
  have e : strB a ++ strB b = strB (a ++ b) := by
    apply ByteArray.ext
    simp [strB]
  rw [e]
/-- What is read, as the reader's fields tell it. -/
def St.kind : St → Nat
  | .blank => 3
  | .com => 4
  | .word k _ _ => k
/-- What is read begins where the reader says, ahead of i. -/
def St.fits (T : List UInt8) (fr i : Nat) : St → Prop
  | .word k f w => f = fr ∧ f < i ∧ i ≤ T.length ∧ w = (T.drop f).take (i - f) ∧ k ≤ 2 ∧ (k = 1 → ∀ c ∈ w, digitB c.toNat = true)
  | _ => True
theorem take_next {T : List UInt8} {f i : Nat} {c : UInt8} (hf : f ≤ i) (h : T[i]? = some c) : (T.drop f).take (i + 1 - f) = (T.drop f).take (i - f) ++ [c] := by
  have e : i + 1 - f = (i - f) + 1 := by omega
  rw [e, List.take_add_one]
  congr 1
  rw [List.getElem?_drop]
  have : f + (i - f) = i := by omega
  rw [this, h]
  rfl
end Go.Proofs.YtiiihpokpfhclaaDoor
