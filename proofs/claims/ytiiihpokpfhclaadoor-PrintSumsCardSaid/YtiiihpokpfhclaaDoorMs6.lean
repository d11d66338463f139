/- Part 6 of the walks (merged): Pe. -/
import Derived.Test.YtiiihpokpfhclaaDoorMs4
import Derived.Test.YtiiihpokpfhclaaDoorMs5
/- Walks of the printer's methods for expressions. -/
namespace Go.Proofs.YtiiihpokpfhclaaDoor
open Go Go.RowKit

def padL (d : Nat) (g : Bool) : Nat := if g = true then 0 else d
theorem putT_eq (t : List UInt8) (d : Nat) (g : Bool) (x : List UInt8) : (putT t d g x).length = t.length + padL d g + x.length := by
  unfold putT padL
  rw [List.length_append, List.length_append]
  cases g
  · rw [if_neg (by decide), if_neg (by decide), tabs_len]
  · rw [if_pos rfl, if_pos rfl]; rfl
theorem padL_true (d : Nat) : padL d true = 0 := rfl
theorem padL_le (d : Nat) (g : Bool) : padL d g ≤ d := by
  unfold padL
  split <;> omega
/-- What the printer's methods ask of the world: what lies below B stays. -/
structure EnvP (w : World) (B : Nat) : Prop where
  size : B ≤ w.heap.size
  tab : TabP w
  tb : 0 < B
theorem EnvP.low {w w' : World} {B : Nat} (h : EnvP w B) (hb : Below B w w') : EnvP w' B := ⟨Nat.le_trans h.size hb.size, h.tab.low hb h.tb, h.tb⟩
set_option maxRecDepth 100000 in
theorem binds_any (e : Ex) (v : Value) (w : World) (S : Nat → Prop) (h : ExA w S e v) :
    Calls Tryd.prog 56 #[v] w fun r w' => r = .returned (.int .i64 (bindE e)) ∧ w = w' := by
  obtain ⟨b, o, k, rfl, c0, -, hk⟩ := h.kind
  rw [kind_bind hk]
  clear hk h
  generalize hX : bindK k = X
  replace hX := hide hX
  go_enter Tryd.func56, Tryd.ntmps56
  go_wp2
  all_goals go_ret
  all_goals refine ⟨?_, rfl⟩
  all_goals rw [← hX.out]
  all_goals clear hX
  all_goals try simp only [beq_iff_eq, beq_eq_false_iff_ne, ne_eq] at *
  all_goals unfold bindK
  all_goals split
  all_goals first | rfl | (exfalso; omega) | (split <;> first | rfl | (exfalso; omega))
set_option maxRecDepth 100000 in
theorem operator_any (k : Nat) (h2 : 2 ≤ k) (h6 : k ≤ 6) (w : World) : Calls Tryd.prog 57 #[.int .i64 k] w fun r w' => r = .returned (.string (strB (signT k))) ∧ w = w' := by
  have : k = 2 ∨ k = 3 ∨ k = 4 ∨ k = 5 ∨ k = 6 := by omega
  rcases this with rfl | rfl | rfl | rfl | rfl
  all_goals go_enter Tryd.func57, Tryd.ntmps57
  all_goals go_wp2
  all_goals go_ret
  all_goals exact ⟨rfl, rfl⟩
def FB (b : Nat) (rv : Value) (k : Nat) : Prop := k = b ∨ rv.ownBlock = some k
/-- A row of strings, in a block that nothing of F is. -/
def RowF (F : Nat → Prop) (xs : List (List UInt8)) (v : Value) (w : World) : Prop := ∃ g, v = .slice (some ⟨g, 0, none⟩) xs.length xs.length ∧ ¬ F g ∧ w.heap[g]? = some (.cells (strL xs).toArray 9 (0, 0))
theorem RowF.kept {F : Nat → Prop} {xs : List (List UInt8)} : FKept F (RowF F xs) := fun _ _ _ ⟨g, h1, h2, h3⟩ hu => ⟨g, h1, h2, hu.heap h3 h2⟩
theorem RowF.new {F : Nat → Prop} (xs : List (List UInt8)) {w0 w : World} (hF : ∀ k, F k → k < w0.heap.size) (hs : w0.heap.size ≤ w.heap.size) : RowF F xs (.slice (some ⟨w.heap.size, 0, none⟩) xs.length xs.length) (w.alloc (.cells (strL xs).toArray 9)) :=
  ⟨_, rfl, fun h => Nat.lt_irrefl _ (Nat.lt_of_lt_of_le (hF _ h) hs), heap_new w _⟩
theorem put_row {xs : List (List UInt8)} (hn : xs.length ≤ 1000) {w : World} {B b d : Nat} {rv v : Value} {t : List UInt8} {g : Bool} (h : Prn w B b rv t d g) (hB : B ≤ w.heap.size) (hd : d ≤ 1000000) (hl : t.length + xs.flatten.length ≤ 70368740000000) (hr : RowF (FB b rv) xs v w) :
    Calls Tryd.prog 32 #[.pointer (some ⟨b, 0, none⟩), v] w fun e w' => e = .returned (.tuple #[]) ∧ PrO w B b rv (putT t d g xs.flatten) d true w' := by
  obtain ⟨q, rfl, hq, hh⟩ := hr
  have hlen : (strL xs).length = xs.length := by rw [strL, List.length_map]
  refine put_any xs _ _ _ B b d rv t g h hB hd hl ⟨some ⟨q, 0, none⟩, xs.length, by rw [hlen], by rw [hlen]; exact Nat.le_refl _, by unfold maxLen; omega,
      .inr ⟨q, 0, rfl, ⟨fun e => hq (.inl e), fun e => hq (.inr e), (Array.getElem?_eq_some_iff.1 hh).1⟩, fun i u hi => ?_⟩⟩
  rw [Nat.zero_add, cell_at hh, List.getElem?_toArray]
  exact hi
theorem Prn.lts {w : World} {B b d : Nat} {rv : Value} {t : List UInt8} {g : Bool} (h : Prn w B b rv t d g) : ∀ k, FB b rv k → k < w.heap.size := fun k hk => by
  rcases hk with rfl | e
  · exact h.lt
  · exact (h.own k e).2
theorem Prn.ges {w : World} {B b d : Nat} {rv : Value} {t : List UInt8} {g : Bool} (h : Prn w B b rv t d g) : ∀ k, FB b rv k → B ≤ k := fun k hk => by
  rcases hk with rfl | e
  · exact h.hB
  · exact (h.own k e).1
def ExprP (e : Ex) : Prop := ∀ (x : Value) (wa : World) (B b d : Nat) (rv : Value) (t : List UInt8) (g : Bool), ExA wa (· < B) e x → WfX e → Prn wa B b rv t d g → EnvP wa B → d ≤ 1000000 → t.length + padL d g + (exT e).length ≤ 70368700000000 →
  Calls Tryd.prog 31 #[.pointer (some ⟨b, 0, none⟩), x] wa fun r w' => r = .returned (.tuple #[]) ∧ PrO wa B b rv (putT t d g (exT e)) d true w'
def OprP (e : Ex) : Prop := ∀ (l : Nat) (x : Value) (wa : World) (B b d : Nat) (rv : Value) (t : List UInt8) (g : Bool), ExA wa (· < B) e x → WfX e → Prn wa B b rv t d g → EnvP wa B → d ≤ 1000000 → t.length + padL d g + (parT (decide (bindE e < l)) (exT e)).length ≤ 70368700000000 →
  Calls Tryd.prog 55 #[.pointer (some ⟨b, 0, none⟩), x, .int .i64 l] wa fun r w' => r = .returned (.tuple #[]) ∧ PrO wa B b rv (putT t d g (parT (decide (bindE e < l)) (exT e))) d true w'
set_option maxRecDepth 100000 in
set_option maxHeartbeats 800000 in
theorem operand_of (e : Ex) (hE : ExprP e) : OprP e := by
  intro l x wa B b d rv t g hx hw h henv hd hl
  have hB := hide (binds_any e x wa _ hx)
  by_cases hlt : bindE e < l
  · rw [decide_eq_true hlt] at hl ⊢
    have hlen : (parT true (exT e)).length = 1 + (exT e).length + 1 := by
      show ([40] ++ exT e ++ [41]).length = _
      simp
      omega
    rw [hlen] at hl
    have hP := hide (put_new [[40]] (by decide) (by decide) wa B b d rv t g h henv.size hd (by have := padL_le d g; show _ + 1 ≤ _; omega))
    have hnl : ¬ (l : Int) ≤ (bindE e : Int) := by omega
    have hnl' : ¬ l ≤ bindE e := by omega
    replace hw := hide hw
    replace hE := hide hE
    replace hx := hide hx
    replace h := hide h
    replace henv := hide henv
    generalize bindE e = be at *
    have hxk := hx.out.ptr
    obtain ⟨xb, xo, rfl⟩ := hxk
    go_enter Tryd.func55, Tryd.ntmps55
    go_wp2_with fail
    refine hB.out.mono ?_
    rintro r w1 ⟨rfl, rfl⟩
    go_wp2_with fail
    refine hP.out.mono ?_
    rintro r w1 ⟨rfl, v1, hm1, h1⟩
    have hb1 := hm1.below h.out henv.out.size
    have hq1 := putT_eq t d g [40]
    have env1 := hide (henv.out.low hb1)
    have hE1 := hide (hE.out _ w1 B b d v1 _ true (hx.out.low hb1) hw.out h1 env1.out hd (by show (putT t d g [40]).length + _ + _ ≤ _; rw [hq1, padL_true]; simp; omega))
    replace hm1 := hide hm1
    replace h1 := hide h1
    clear hb1
    go_wp2_with fail
    refine hE1.out.mono ?_
    rintro r w2 ⟨rfl, v2, hm2, h2⟩
    have hq2 := putT_eq (putT t d g [40]) d true (exT e)
    have hP2 := hide (put_new [[41]] (by decide) (by decide) w2 B b d v2 _ true h2 (Nat.le_trans env1.out.size hm2.upd.size) hd (by show (putT (putT t d g [40]) d true (exT e)).length + 1 ≤ _; rw [hq2, hq1, padL_true]; simp; omega))
    have hm3 := hide (hm1.out.trans hm2)
    clear hm2 h2
    go_wp2_with fail
    refine hP2.out.mono ?_
    rintro r w3 ⟨rfl, v3, hm4, h4⟩
    replace hm4 := hide hm4
    replace h4 := hide h4
    go_wp2_with fail
    go_end0
    refine ⟨rfl, v3, hm3.out.trans hm4.out, ?_⟩
    have := h4.out
    rw [putT_put, show ([[41]] : List (List UInt8)).flatten = [41] from rfl, show ([[40]] : List (List UInt8)).flatten = [40] from rfl, putT_put] at this
    rw [← List.append_assoc] at this
    exact this
  · rw [decide_eq_false hlt] at hl ⊢
    have hE1 := hide (hE x wa B b d rv t g hx hw h henv hd hl)
    have hnl : (l : Int) ≤ (bindE e : Int) := by omega
    have hnl' : l ≤ bindE e := by omega
    generalize bindE e = be at *
    obtain ⟨xb, xo, rfl⟩ := hx.ptr
    clear hE hx h henv
    go_enter Tryd.func55, Tryd.ntmps55
    go_wp2_with fail
    refine hB.out.mono ?_
    rintro r w1 ⟨rfl, rfl⟩
    go_wp2_with fail
    refine hE1.out.mono ?_
    rintro r w1 ⟨rfl, h1⟩
    replace h1 := hide h1
    go_wp2_with fail
    refine bodyPost_ret (results_none rfl _ _ _) rfl ?_
    exact ⟨rfl, h1.out⟩
set_option maxRecDepth 100000 in
set_option maxHeartbeats 1600000 in
theorem expr_num (m : Nat) : ExprP (.num m) := by
  intro x wa B b d rv t g hx hw h henv hd hl
  obtain ⟨xb, xo, rfl, hS, c0, c1, -⟩ := hx
  have hn0 : (m : Nat) ≤ 9223372036854775807 := hw
  have hlow := hide (fun w (hu : Upd (FB b rv) wa w) => henv.low (hu.below henv.size h.ges))
  have hnF : Hid (¬ FB b rv xb) := hide fun e => Nat.lt_irrefl _ (Nat.lt_of_lt_of_le hS (h.ges _ e))
  have hlt := hide h.lts
  have hf := hide (format_any m hn0)
  have hpl := padL_le d g
  have hput := hide (fun w v (hp : Prn w B b rv t d g) (hz : B ≤ w.heap.size) (hr : RowF (FB b rv) [Lib.decDigits m] v w) => put_row (by simp) hp hz hd (by simp; have : exT (.num m) = Lib.decDigits m := rfl; rw [this] at hl; omega) hr)
  have hlz := hide henv.size
  rw [show ([Lib.decDigits m] : List (List UInt8)).flatten = exT (.num m) by simp [exT]] at hput
  generalize exT (.num m) = X at *
  replace henv := hide henv
  replace h := hide h
  generalize Lib.decDigits m = T0 at *
  clear hw hl hS hn0 hpl
  go_enter Tryd.func31, Tryd.ntmps31
  go_wp2_with fail
  replace c0 := hide c0
  replace c1 := hide c1
  refine wp_region_flow (FB b rv) (factAt [(fun v _ => v = (.pointer (some ⟨b, 0, none⟩))), (fun v _ => v = (.pointer (some ⟨b, 0, none⟩))), (fun v _ => v = (.pointer (some ⟨b, 0, none⟩))), (fun v _ => v = (.pointer (some ⟨xb, xo, none⟩))), (fun v _ => v = (.pointer (some ⟨xb, xo, none⟩))), (fun v _ => v = (.pointer (some ⟨xb, xo + 1, none⟩))), (fun v _ => v = (.int .i64 m)), (fun v _ => v = (.string (strB T0))), (fun v w => RowF (FB b rv) [T0] v w), (fun v _ => v = (.tuple #[]))]) [none, none, none, none, none, none, none, none, none, some (fun _ w => PrO wa B b rv (putT t d g X) d true w)] (fun w => PrM b rv wa rv w ∧ Prn w B b rv t d g) (by kernel_rfl) (fkept_at ⟨FKept.eq _, FKept.eq _, FKept.eq _, FKept.eq _, FKept.eq _, FKept.eq _, FKept.eq _, FKept.eq _, RowF.kept, FKept.eq _, trivial⟩) (fun _ _ h hb => ⟨h.1.quiet hb, h.2.below hb⟩) ⟨fun _ _ _ h hb => h.quiet hb, trivial⟩ (by kernel_rfl) (by kernel_rfl) (by kernel_rfl) (by kernel_rfl) (Nat.le_of_ble_eq_true (by kernel_rfl)) ?_ ⟨?_, ?_, ?_, ?_, ?_, ?_, ?_, ?_, ?_, ?_, trivial⟩ ?_
  · exact ⟨.refl _ _ _, h.out⟩
  · intro T w Q hu hs hv hw hd
    have hx0 : T.getD 0 undef = (.pointer (some ⟨b, 0, none⟩)) := hv 0 (by kernel_rfl)
    refine .inl ⟨wanted_none rfl, ?_⟩
    clear hd hv hu hs hw
    go_simp
    exact ⟨_, rfl, DstOk.some rfl, Below.refl _ _, rfl⟩
  · intro T w Q hu hs hv hw hd
    have hx13 : T.getD 13 undef = (.pointer (some ⟨b, 0, none⟩)) := Deps.at 0 hd (by kernel_rfl)
    refine .inl ⟨wanted_none rfl, ?_⟩
    clear hd hv hu hs hw
    go_simp
    exact ⟨_, rfl, DstOk.some rfl, Below.refl _ _, rfl⟩
  · intro T w Q hu hs hv hw hd
    have hx14 : T.getD 14 undef = (.pointer (some ⟨b, 0, none⟩)) := Deps.at 1 hd (by kernel_rfl)
    refine .inl ⟨wanted_none rfl, ?_⟩
    clear hd hv hu hs hw
    go_simp
    exact ⟨_, rfl, DstOk.some rfl, Below.refl _ _, rfl⟩
  · intro T w Q hu hs hv hw hd
    have hx1 : T.getD 1 undef = (.pointer (some ⟨xb, xo, none⟩)) := hv 1 (by kernel_rfl)
    refine .inl ⟨wanted_none rfl, ?_⟩
    clear hd hv hu hs hw
    go_simp
    exact ⟨_, rfl, DstOk.some rfl, Below.refl _ _, rfl⟩
  · intro T w Q hu hs hv hw hd
    have hx16 : T.getD 16 undef = (.pointer (some ⟨xb, xo, none⟩)) := Deps.at 3 hd (by kernel_rfl)
    refine .inl ⟨wanted_none rfl, ?_⟩
    clear hd hv hu hs hw
    go_simp
    exact ⟨_, rfl, DstOk.some rfl, Below.refl _ _, rfl⟩
  · intro T w Q hu hs hv hw hd
    have hx17 : T.getD 17 undef = (.pointer (some ⟨xb, xo, none⟩)) := Deps.at 4 hd (by kernel_rfl)
    refine .inl ⟨wanted_none rfl, ?_⟩
    clear hd hv hu hs hw
    go_simp
    exact ⟨_, rfl, DstOk.some rfl, Below.refl _ _, rfl⟩
  · intro T w Q hu hs hv hw hd
    have hx18 : T.getD 18 undef = (.pointer (some ⟨xb, xo + 1, none⟩)) := Deps.at 5 hd (by kernel_rfl)
    refine .inl ⟨wanted_none rfl, ?_⟩
    have hq := hu.cell c1.out hnF.out
    clear hd hv hu hs hw
    go_simp
    exact ⟨_, rfl, DstOk.some rfl, Below.refl _ _, rfl⟩
  · intro T w Q hu hs hv hw hd
    have hx19 : T.getD 19 undef = (.int .i64 m) := Deps.at 6 hd (by kernel_rfl)
    refine .inl ⟨wanted_none rfl, ?_⟩
    have hN := hf.out w (hlow.out w hu).tab
    clear hd hv hu hs hw
    go_simp
    refine hN.mono ?_
    rintro e w5 ⟨rfl, hb⟩
    exact ⟨_, rfl, DstOk.some rfl, hb, rfl⟩
  · intro T w Q hu hs hv hw hd
    have hx20 : T.getD 20 undef = (.string (strB T0)) := Deps.at 7 hd (by kernel_rfl)
    have hy20 := hx20
    rw [Array.getD_eq_getD_getElem?] at hy20
    refine .inl ⟨wanted_none rfl, ?_⟩
    have hN := RowF.new (F := FB b rv) [T0] hlt.out hu.size
    replace hN := hide hN
    clear hd hv hu hs hw
    go_simp
    exact ⟨_, rfl, DstOk.some rfl, (Below.refl _ w).alloc (Nat.le_refl _) _, hN.out⟩
  · intro T w Q hu hs hv hw hd hc0
    have hc : (fun w => PrM b rv wa rv w ∧ Prn w B b rv t d g) w := hc0
    have hx15 : T.getD 15 undef = (.pointer (some ⟨b, 0, none⟩)) := Deps.at 2 hd (by kernel_rfl)
    have f21 : (fun (v : Value) (w : World) => RowF (FB b rv) [T0] v w) (T.getD 21 undef) w := Deps.at 8 hd (by kernel_rfl)
    generalize hx21 : T.getD 21 undef = x21 at f21 hc
    replace f21 := hide f21
    replace hc := hide hc
    refine .inl ⟨wanted_none rfl, ?_⟩
    have hN := hput.out w _ hc.out.2 (Nat.le_trans hlz.out hu.size) f21.out
    clear hd hv hu hs hw hc0
    replace hN := hide hN
    go_simp
    refine hN.out.mono ?_
    rintro e w5 ⟨rfl, v2, hm2, h2⟩
    exact ⟨_, rfl, DstOk.some rfl, hm2.upd, rfl, v2, hc.out.1.trans hm2, h2⟩
  intro T w hu hs hv hf hcur
  have hcur1 : (fun (w : World) => PrO wa B b rv (putT t d g X) d true w) w := hcur
  replace hcur1 := hcur1
  replace hcur1 := hide hcur1
  go_wp2_with fail
  go_end0
  exact ⟨rfl, hcur1.out⟩
set_option maxRecDepth 100000 in
set_option maxHeartbeats 1600000 in
theorem expr_var (s : List UInt8) : ExprP (.var s) := by
  intro x wa B b d rv t g hx hw h henv hd hl
  obtain ⟨xb, xo, rfl, hS, c0, -, c1, -⟩ := hx
  have hlow := hide (fun w (hu : Upd (FB b rv) wa w) => henv.low (hu.below henv.size h.ges))
  have hnF : Hid (¬ FB b rv xb) := hide fun e => Nat.lt_irrefl _ (Nat.lt_of_lt_of_le hS (h.ges _ e))
  have hlt := hide h.lts
  have hpl := padL_le d g
  have hput := hide (fun w v (hp : Prn w B b rv t d g) (hz : B ≤ w.heap.size) (hr : RowF (FB b rv) [s] v w) => put_row (by simp) hp hz hd (by simp; have : exT (.var s) = s := rfl; rw [this] at hl; omega) hr)
  have hlz := hide henv.size
  rw [show ([s] : List (List UInt8)).flatten = exT (.var s) by simp [exT]] at hput
  generalize exT (.var s) = X at *
  replace henv := hide henv
  replace h := hide h
  clear hw hl hS hpl
  go_enter Tryd.func31, Tryd.ntmps31
  go_wp2_with fail
  replace c0 := hide c0
  replace c1 := hide c1
  refine wp_region_flow (FB b rv) (factAt [(fun v _ => v = (.pointer (some ⟨b, 0, none⟩))), (fun v _ => v = (.pointer (some ⟨b, 0, none⟩))), (fun v _ => v = (.pointer (some ⟨b, 0, none⟩))), (fun v _ => v = (.pointer (some ⟨xb, xo, none⟩))), (fun v _ => v = (.pointer (some ⟨xb, xo, none⟩))), (fun v _ => v = (.pointer (some ⟨xb, xo + 2, none⟩))), (fun v _ => v = (.string (strB s))), (fun v w => RowF (FB b rv) [s] v w), (fun v _ => v = (.tuple #[]))]) [none, none, none, none, none, none, none, none, some (fun _ w => PrO wa B b rv (putT t d g X) d true w)] (fun w => PrM b rv wa rv w ∧ Prn w B b rv t d g) (by kernel_rfl) (fkept_at ⟨FKept.eq _, FKept.eq _, FKept.eq _, FKept.eq _, FKept.eq _, FKept.eq _, FKept.eq _, RowF.kept, FKept.eq _, trivial⟩) (fun _ _ h hb => ⟨h.1.quiet hb, h.2.below hb⟩) ⟨fun _ _ _ h hb => h.quiet hb, trivial⟩ (by kernel_rfl) (by kernel_rfl) (by kernel_rfl) (by kernel_rfl) (Nat.le_of_ble_eq_true (by kernel_rfl)) ?_ ⟨?_, ?_, ?_, ?_, ?_, ?_, ?_, ?_, ?_, trivial⟩ ?_
  · exact ⟨.refl _ _ _, h.out⟩
  · intro T w Q hu hs hv hw hd
    have hx0 : T.getD 0 undef = (.pointer (some ⟨b, 0, none⟩)) := hv 0 (by kernel_rfl)
    refine .inl ⟨wanted_none rfl, ?_⟩
    clear hd hv hu hs hw
    go_simp
    exact ⟨_, rfl, DstOk.some rfl, Below.refl _ _, rfl⟩
  · intro T w Q hu hs hv hw hd
    have hx25 : T.getD 25 undef = (.pointer (some ⟨b, 0, none⟩)) := Deps.at 0 hd (by kernel_rfl)
    refine .inl ⟨wanted_none rfl, ?_⟩
    clear hd hv hu hs hw
    go_simp
    exact ⟨_, rfl, DstOk.some rfl, Below.refl _ _, rfl⟩
  · intro T w Q hu hs hv hw hd
    have hx26 : T.getD 26 undef = (.pointer (some ⟨b, 0, none⟩)) := Deps.at 1 hd (by kernel_rfl)
    refine .inl ⟨wanted_none rfl, ?_⟩
    clear hd hv hu hs hw
    go_simp
    exact ⟨_, rfl, DstOk.some rfl, Below.refl _ _, rfl⟩
  · intro T w Q hu hs hv hw hd
    have hx1 : T.getD 1 undef = (.pointer (some ⟨xb, xo, none⟩)) := hv 1 (by kernel_rfl)
    refine .inl ⟨wanted_none rfl, ?_⟩
    clear hd hv hu hs hw
    go_simp
    exact ⟨_, rfl, DstOk.some rfl, Below.refl _ _, rfl⟩
  · intro T w Q hu hs hv hw hd
    have hx28 : T.getD 28 undef = (.pointer (some ⟨xb, xo, none⟩)) := Deps.at 3 hd (by kernel_rfl)
    refine .inl ⟨wanted_none rfl, ?_⟩
    clear hd hv hu hs hw
    go_simp
    exact ⟨_, rfl, DstOk.some rfl, Below.refl _ _, rfl⟩
  · intro T w Q hu hs hv hw hd
    have hx29 : T.getD 29 undef = (.pointer (some ⟨xb, xo, none⟩)) := Deps.at 4 hd (by kernel_rfl)
    refine .inl ⟨wanted_none rfl, ?_⟩
    clear hd hv hu hs hw
    go_simp
    exact ⟨_, rfl, DstOk.some rfl, Below.refl _ _, rfl⟩
  · intro T w Q hu hs hv hw hd
    have hx30 : T.getD 30 undef = (.pointer (some ⟨xb, xo + 2, none⟩)) := Deps.at 5 hd (by kernel_rfl)
    refine .inl ⟨wanted_none rfl, ?_⟩
    have hq := hu.cell c1.out hnF.out
    clear hd hv hu hs hw
    go_simp
    exact ⟨_, rfl, DstOk.some rfl, Below.refl _ _, rfl⟩
  · intro T w Q hu hs hv hw hd
    have hx31 : T.getD 31 undef = (.string (strB s)) := Deps.at 6 hd (by kernel_rfl)
    have hy31 := hx31
    rw [Array.getD_eq_getD_getElem?] at hy31
    refine .inl ⟨wanted_none rfl, ?_⟩
    have hN := RowF.new (F := FB b rv) [s] hlt.out hu.size
    replace hN := hide hN
    clear hd hv hu hs hw
    go_simp
    exact ⟨_, rfl, DstOk.some rfl, (Below.refl _ w).alloc (Nat.le_refl _) _, hN.out⟩
  · intro T w Q hu hs hv hw hd hc0
    have hc : (fun w => PrM b rv wa rv w ∧ Prn w B b rv t d g) w := hc0
    have hx27 : T.getD 27 undef = (.pointer (some ⟨b, 0, none⟩)) := Deps.at 2 hd (by kernel_rfl)
    have f32 : (fun (v : Value) (w : World) => RowF (FB b rv) [s] v w) (T.getD 32 undef) w := Deps.at 7 hd (by kernel_rfl)
    generalize hx32 : T.getD 32 undef = x32 at f32 hc
    replace f32 := hide f32
    replace hc := hide hc
    refine .inl ⟨wanted_none rfl, ?_⟩
    have hN := hput.out w _ hc.out.2 (Nat.le_trans hlz.out hu.size) f32.out
    clear hd hv hu hs hw hc0
    replace hN := hide hN
    go_simp
    refine hN.out.mono ?_
    rintro e w5 ⟨rfl, v2, hm2, h2⟩
    exact ⟨_, rfl, DstOk.some rfl, hm2.upd, rfl, v2, hc.out.1.trans hm2, h2⟩
  intro T w hu hs hv hf hcur
  have hcur1 : (fun (w : World) => PrO wa B b rv (putT t d g X) d true w) w := hcur
  replace hcur1 := hcur1
  replace hcur1 := hide hcur1
  go_wp2_with fail
  go_end0
  exact ⟨rfl, hcur1.out⟩
set_option maxRecDepth 100000 in
set_option maxHeartbeats 1600000 in
theorem expr_neg (a : Ex) (hA : OprP a) : ExprP (.neg a) := by
  intro x wa B b d rv t g hx hw h henv hd hl
  obtain ⟨xb, xo, va, rfl, ⟨hS, c0, -, -, c3, -⟩, hxa⟩ := hx
  have hw' : WfX a := hw
  have hX : exT (.neg a) = [45] ++ parT (decide (bindE a < 2)) (exT a) := by rw [exT]
  have hpl := padL_le d g
  have hlX : (exT (.neg a)).length = 1 + (parT (decide (bindE a < 2)) (exT a)).length := by rw [hX, List.length_append]; rfl
  rw [hlX] at hl
  have hP := hide (put_new [[45]] (by decide) (by decide) wa B b d rv t g h henv.size hd (by show _ + 1 ≤ _; omega))
  rw [hX]
  replace hw' := hide hw'
  replace hA := hide hA
  replace hxa := hide hxa
  replace h := hide h
  replace henv := hide henv
  have hlt := hide h.out.lts
  have hnF : Hid (¬ FB b rv xb) := hide fun e => Nat.lt_irrefl _ (Nat.lt_of_lt_of_le hS (h.out.ges _ e))
  have c3w := hide c3
  clear hw hS hX hlX c3
  go_enter Tryd.func31, Tryd.ntmps31
  go_wp2_with fail
  refine hP.out.mono ?_
  rintro r w1 ⟨rfl, v1, hm1, h1⟩
  have hb1 := hm1.below h.out henv.out.size
  have hq1 := putT_eq t d g [45]
  have env1 := hide (henv.out.low hb1)
  have c3 := hm1.upd.cell c3w.out hnF.out
  have hE1 := hide (hA.out 2 _ w1 B b d v1 _ true (hxa.out.low hb1) hw'.out h1 env1.out hd (by show (putT t d g [45]).length + _ + _ ≤ _; rw [hq1, padL_true]; simp; omega))
  replace hm1 := hide hm1
  clear hb1 h1 hq1
  go_wp2_with fail
  refine hE1.out.mono ?_
  rintro r w2 ⟨rfl, v2, hm2, h2⟩
  have hm3 := hide (hm1.out.trans hm2)
  rw [show ([[45]] : List (List UInt8)).flatten = [45] from rfl, putT_put] at h2
  replace h2 := hide h2
  clear hm2
  go_wp2_with fail
  go_end0
  exact ⟨rfl, v2, hm3.out, h2.out⟩
set_option maxRecDepth 100000 in
set_option maxHeartbeats 1600000 in
theorem expr_bin2 (a c : Ex) (hA : OprP a) (hC : OprP c) : ExprP (.bin 2 a c) := by
  intro x wa B b d rv t g hx hw h henv hd hl
  have hBi := binds_any (.bin 2 a c) x wa _ hx
  rw [show bindE (.bin 2 a c) = 0 from rfl] at hBi
  obtain ⟨xb, xo, va, vc, rfl, ⟨hS, c0, -, -, c3, c4⟩, hxa, hxc⟩ := hx
  obtain ⟨-, -, hwa, hwc⟩ := hw
  obtain ⟨P1, hP1⟩ : ∃ P, P = parT (decide (bindE a < 0)) (exT a) := ⟨_, rfl⟩
  obtain ⟨P2, hP2⟩ : ∃ P, P = parT (decide (bindE c < 0 + 1)) (exT c) := ⟨_, rfl⟩
  have hX : exT (.bin 2 a c) = P1 ++ signT 2 ++ P2 := by rw [hP1, hP2, exT]; rfl
  have hsl := sign_len 2
  rw [hX] at hl ⊢
  rw [List.length_append, List.length_append, hsl] at hl
  have hpl := padL_le d g
  have hA1 := hA 0 va wa B b d rv t g hxa hwa h henv hd (by rw [← hP1]; omega)
  have hC1 := hC (0 + 1) vc
  rw [← hP1] at hA1
  rw [← hP2] at hC1
  have hop := operator_any 2 (by decide) (by decide)
  obtain ⟨T0, hT0⟩ : ∃ T, T = signT 2 := ⟨_, rfl⟩
  rw [← hT0] at hop hsl ⊢
  replace hA1 := hide hA1
  replace hC1 := hide hC1
  replace hBi := hide hBi
  replace hop := hide hop
  replace hwc := hide hwc
  replace hxc := hide hxc
  replace h := hide h
  replace henv := hide henv
  have hnF : Hid (¬ FB b rv xb) := hide fun e => Nat.lt_irrefl _ (Nat.lt_of_lt_of_le hS (h.out.ges _ e))
  have c0w := hide c0
  have c4w := hide c4
  clear hA hC hX hwa hxa hT0 hP1 hP2 c4
  go_enter Tryd.func31, Tryd.ntmps31
  go_wp2_with fail
  refine hBi.out.mono ?_
  rintro r w1 ⟨rfl, rfl⟩
  go_wp2_with fail
  refine hA1.out.mono ?_
  rintro r w1 ⟨rfl, v1, hm1, h1⟩
  have hb1 := hm1.below h.out henv.out.size
  have hq1 := putT_eq t d g P1
  have env1 := hide (henv.out.low hb1)
  have hnF1 : Hid (¬ FB b v1 xb) := hide fun e => Nat.lt_irrefl _ (Nat.lt_of_lt_of_le hS (h1.ges _ e))
  have c0y := hide (hm1.upd.cell c0w.out hnF.out)
  have c4y := hide (hm1.upd.cell c4w.out hnF.out)
  have hx1 := hide (hxc.out.low hb1)
  have hlt := hide h1.lts
  have hlz := hide env1.out.size
  have hput := hide (fun w v (hp : Prn w B b v1 (putT t d g P1) d true) (hz : B ≤ w.heap.size) (hr : RowF (FB b v1) [T0] v w) => put_row (xs := [T0]) (by simp) hp hz hd (by rw [hq1]; simp; omega) hr)
  rw [show ([T0] : List (List UInt8)).flatten = T0 by simp] at hput
  replace hm1 := hide hm1
  replace h1 := hide h1
  clear hb1
  go_wp2_with fail
  clear c0 c3
  refine wp_region_flow (FB b v1) (factAt [(fun v _ => v = (.pointer (some ⟨b, 0, none⟩))), (fun v _ => v = (.pointer (some ⟨b, 0, none⟩))), (fun v _ => v = (.pointer (some ⟨b, 0, none⟩))), (fun v _ => v = (.pointer (some ⟨xb, xo, none⟩))), (fun v _ => v = (.pointer (some ⟨xb, xo, none⟩))), (fun v _ => v = (.pointer (some ⟨xb, xo, none⟩))), (fun v _ => v = (.int .i64 2)), (fun v _ => v = (.string (strB T0))), (fun v w => RowF (FB b v1) [T0] v w), (fun v _ => v = (.tuple #[]))]) [none, none, none, none, none, none, none, none, none, some (fun _ w => PrO w1 B b v1 (putT (putT t d g P1) d true T0) d true w)] (fun w => PrM b v1 w1 v1 w ∧ Prn w B b v1 (putT t d g P1) d true) (by kernel_rfl) (fkept_at ⟨FKept.eq _, FKept.eq _, FKept.eq _, FKept.eq _, FKept.eq _, FKept.eq _, FKept.eq _, FKept.eq _, RowF.kept, FKept.eq _, trivial⟩) (fun _ _ h hb => ⟨h.1.quiet hb, h.2.below hb⟩) ⟨fun _ _ _ h hb => h.quiet hb, trivial⟩ (by kernel_rfl) (by kernel_rfl) (by kernel_rfl) (by kernel_rfl) (Nat.le_of_ble_eq_true (by kernel_rfl)) ?_ ⟨?_, ?_, ?_, ?_, ?_, ?_, ?_, ?_, ?_, ?_, trivial⟩ ?_
  · exact ⟨.refl _ _ _, h1.out⟩
  · intro T w Q hu hs hv hw hd
    have hx0 : T.getD 0 undef = (.pointer (some ⟨b, 0, none⟩)) := hv 0 (by kernel_rfl)
    refine .inl ⟨wanted_none rfl, ?_⟩
    clear hd hv hu hs hw
    go_simp
    exact ⟨_, rfl, DstOk.some rfl, Below.refl _ _, rfl⟩
  · intro T w Q hu hs hv hw hd
    have hx62 : T.getD 62 undef = (.pointer (some ⟨b, 0, none⟩)) := Deps.at 0 hd (by kernel_rfl)
    refine .inl ⟨wanted_none rfl, ?_⟩
    clear hd hv hu hs hw
    go_simp
    exact ⟨_, rfl, DstOk.some rfl, Below.refl _ _, rfl⟩
  · intro T w Q hu hs hv hw hd
    have hx63 : T.getD 63 undef = (.pointer (some ⟨b, 0, none⟩)) := Deps.at 1 hd (by kernel_rfl)
    refine .inl ⟨wanted_none rfl, ?_⟩
    clear hd hv hu hs hw
    go_simp
    exact ⟨_, rfl, DstOk.some rfl, Below.refl _ _, rfl⟩
  · intro T w Q hu hs hv hw hd
    have hx1 : T.getD 1 undef = (.pointer (some ⟨xb, xo, none⟩)) := hv 1 (by kernel_rfl)
    refine .inl ⟨wanted_none rfl, ?_⟩
    clear hd hv hu hs hw
    go_simp
    exact ⟨_, rfl, DstOk.some rfl, Below.refl _ _, rfl⟩
  · intro T w Q hu hs hv hw hd
    have hx65 : T.getD 65 undef = (.pointer (some ⟨xb, xo, none⟩)) := Deps.at 3 hd (by kernel_rfl)
    refine .inl ⟨wanted_none rfl, ?_⟩
    clear hd hv hu hs hw
    go_simp
    exact ⟨_, rfl, DstOk.some rfl, Below.refl _ _, rfl⟩
  · intro T w Q hu hs hv hw hd
    have hx66 : T.getD 66 undef = (.pointer (some ⟨xb, xo, none⟩)) := Deps.at 4 hd (by kernel_rfl)
    refine .inl ⟨wanted_none rfl, ?_⟩
    clear hd hv hu hs hw
    go_simp
    exact ⟨_, rfl, DstOk.some rfl, Below.refl _ _, rfl⟩
  · intro T w Q hu hs hv hw hd
    have hx67 : T.getD 67 undef = (.pointer (some ⟨xb, xo, none⟩)) := Deps.at 5 hd (by kernel_rfl)
    refine .inl ⟨wanted_none rfl, ?_⟩
    have hq := hu.cell c0y.out hnF1.out
    clear hd hv hu hs hw
    go_simp
    exact ⟨_, rfl, DstOk.some rfl, Below.refl _ _, rfl⟩
  · intro T w Q hu hs hv hw hd
    have hx68 : T.getD 68 undef = (.int .i64 2) := Deps.at 6 hd (by kernel_rfl)
    refine .inl ⟨wanted_none rfl, ?_⟩
    have hN := hop.out w
    clear hd hv hu hs hw
    go_simp
    refine hN.mono ?_
    rintro e w5 ⟨rfl, rfl⟩
    exact ⟨_, rfl, DstOk.some rfl, Below.refl _ _, rfl⟩
  · intro T w Q hu hs hv hw hd
    have hx69 : T.getD 69 undef = (.string (strB T0)) := Deps.at 7 hd (by kernel_rfl)
    have hy69 := hx69
    rw [Array.getD_eq_getD_getElem?] at hy69
    refine .inl ⟨wanted_none rfl, ?_⟩
    have hN := RowF.new (F := FB b v1) [T0] hlt.out hu.size
    replace hN := hide hN
    clear hd hv hu hs hw
    go_simp
    exact ⟨_, rfl, DstOk.some rfl, (Below.refl _ w).alloc (Nat.le_refl _) _, hN.out⟩
  · intro T w Q hu hs hv hw hd hc0
    have hc : (fun w => PrM b v1 w1 v1 w ∧ Prn w B b v1 (putT t d g P1) d true) w := hc0
    have hx64 : T.getD 64 undef = (.pointer (some ⟨b, 0, none⟩)) := Deps.at 2 hd (by kernel_rfl)
    have f70 : (fun (v : Value) (w : World) => RowF (FB b v1) [T0] v w) (T.getD 70 undef) w := Deps.at 8 hd (by kernel_rfl)
    generalize hx70 : T.getD 70 undef = x70 at f70 hc
    replace f70 := hide f70
    replace hc := hide hc
    refine .inl ⟨wanted_none rfl, ?_⟩
    have hN := hput.out w _ hc.out.2 (Nat.le_trans hlz.out hu.size) f70.out
    clear hd hv hu hs hw hc0
    replace hN := hide hN
    go_simp
    refine hN.out.mono ?_
    rintro e w5 ⟨rfl, v2, hm2, h2⟩
    exact ⟨_, rfl, DstOk.some rfl, hm2.upd, rfl, v2, hc.out.1.trans hm2, h2⟩
  intro T w hu hs hv hf hcur
  have hcur1 : (fun (w : World) => PrO w1 B b v1 (putT (putT t d g P1) d true T0) d true w) w := hcur
  replace hcur1 := hcur1
  have hT : T = #[T.getD 0 undef, T.getD 1 undef, T.getD 2 undef, T.getD 3 undef, T.getD 4 undef, T.getD 5 undef, T.getD 6 undef, T.getD 7 undef, T.getD 8 undef, T.getD 9 undef, T.getD 10 undef, T.getD 11 undef, T.getD 12 undef, T.getD 13 undef, T.getD 14 undef, T.getD 15 undef, T.getD 16 undef, T.getD 17 undef, T.getD 18 undef, T.getD 19 undef, T.getD 20 undef, T.getD 21 undef, T.getD 22 undef, T.getD 23 undef, T.getD 24 undef, T.getD 25 undef, T.getD 26 undef, T.getD 27 undef, T.getD 28 undef, T.getD 29 undef, T.getD 30 undef, T.getD 31 undef, T.getD 32 undef, T.getD 33 undef, T.getD 34 undef, T.getD 35 undef, T.getD 36 undef, T.getD 37 undef, T.getD 38 undef, T.getD 39 undef, T.getD 40 undef, T.getD 41 undef, T.getD 42 undef, T.getD 43 undef, T.getD 44 undef, T.getD 45 undef, T.getD 46 undef, T.getD 47 undef, T.getD 48 undef, T.getD 49 undef, T.getD 50 undef, T.getD 51 undef, T.getD 52 undef, T.getD 53 undef, T.getD 54 undef, T.getD 55 undef, T.getD 56 undef, T.getD 57 undef, T.getD 58 undef, T.getD 59 undef, T.getD 60 undef, T.getD 61 undef, T.getD 62 undef, T.getD 63 undef, T.getD 64 undef, T.getD 65 undef, T.getD 66 undef, T.getD 67 undef, T.getD 68 undef, T.getD 69 undef, T.getD 70 undef, T.getD 71 undef, T.getD 72 undef, T.getD 73 undef, T.getD 74 undef, T.getD 75 undef, T.getD 76 undef, T.getD 77 undef, T.getD 78 undef, T.getD 79 undef] := expl hs
  rw [hT]
  clear hT
  rw [show T.getD 0 undef = (.pointer (some ⟨b, 0, none⟩)) from hv 0 (by kernel_rfl)]
  rw [show T.getD 1 undef = (.pointer (some ⟨xb, xo, none⟩)) from hv 1 (by kernel_rfl)]
  rw [hv 2 (by kernel_rfl)]
  rw [hv 3 (by kernel_rfl)]
  rw [show T.getD 4 undef = (.int .i64 0) from hv 4 (by kernel_rfl)]
  rw [hv 5 (by kernel_rfl)]
  rw [hv 6 (by kernel_rfl)]
  rw [hv 7 (by kernel_rfl)]
  rw [hv 8 (by kernel_rfl)]
  rw [hv 9 (by kernel_rfl)]
  rw [hv 10 (by kernel_rfl)]
  rw [hv 11 (by kernel_rfl)]
  rw [hv 12 (by kernel_rfl)]
  rw [hv 13 (by kernel_rfl)]
  rw [hv 14 (by kernel_rfl)]
  rw [hv 15 (by kernel_rfl)]
  rw [hv 16 (by kernel_rfl)]
  rw [hv 17 (by kernel_rfl)]
  rw [hv 18 (by kernel_rfl)]
  rw [hv 19 (by kernel_rfl)]
  rw [hv 20 (by kernel_rfl)]
  rw [hv 21 (by kernel_rfl)]
  rw [hv 22 (by kernel_rfl)]
  rw [hv 23 (by kernel_rfl)]
  rw [hv 24 (by kernel_rfl)]
  rw [hv 25 (by kernel_rfl)]
  rw [hv 26 (by kernel_rfl)]
  rw [hv 27 (by kernel_rfl)]
  rw [hv 28 (by kernel_rfl)]
  rw [hv 29 (by kernel_rfl)]
  rw [hv 30 (by kernel_rfl)]
  rw [hv 31 (by kernel_rfl)]
  rw [hv 32 (by kernel_rfl)]
  rw [hv 33 (by kernel_rfl)]
  rw [hv 34 (by kernel_rfl)]
  rw [hv 35 (by kernel_rfl)]
  rw [hv 36 (by kernel_rfl)]
  rw [hv 37 (by kernel_rfl)]
  rw [hv 38 (by kernel_rfl)]
  rw [hv 39 (by kernel_rfl)]
  rw [hv 40 (by kernel_rfl)]
  rw [hv 41 (by kernel_rfl)]
  rw [hv 42 (by kernel_rfl)]
  rw [hv 43 (by kernel_rfl)]
  rw [hv 44 (by kernel_rfl)]
  rw [hv 45 (by kernel_rfl)]
  rw [hv 46 (by kernel_rfl)]
  rw [hv 47 (by kernel_rfl)]
  rw [hv 48 (by kernel_rfl)]
  rw [hv 49 (by kernel_rfl)]
  rw [hv 50 (by kernel_rfl)]
  rw [hv 51 (by kernel_rfl)]
  rw [hv 52 (by kernel_rfl)]
  rw [hv 53 (by kernel_rfl)]
  rw [hv 54 (by kernel_rfl)]
  rw [hv 55 (by kernel_rfl)]
  rw [hv 56 (by kernel_rfl)]
  rw [hv 57 (by kernel_rfl)]
  rw [hv 58 (by kernel_rfl)]
  rw [hv 59 (by kernel_rfl)]
  rw [hv 60 (by kernel_rfl)]
  rw [hv 61 (by kernel_rfl)]
  rw [show T.getD 62 undef = (.pointer (some ⟨b, 0, none⟩)) from hf 0 (by decide)]
  rw [show T.getD 63 undef = (.pointer (some ⟨b, 0, none⟩)) from hf 1 (by decide)]
  rw [show T.getD 64 undef = (.pointer (some ⟨b, 0, none⟩)) from hf 2 (by decide)]
  rw [show T.getD 65 undef = (.pointer (some ⟨xb, xo, none⟩)) from hf 3 (by decide)]
  rw [show T.getD 66 undef = (.pointer (some ⟨xb, xo, none⟩)) from hf 4 (by decide)]
  rw [show T.getD 67 undef = (.pointer (some ⟨xb, xo, none⟩)) from hf 5 (by decide)]
  rw [show T.getD 68 undef = (.int .i64 2) from hf 6 (by decide)]
  rw [show T.getD 69 undef = (.string (strB T0)) from hf 7 (by decide)]
  rw [show T.getD 71 undef = (.tuple #[]) from hf 9 (by decide)]
  rw [hv 72 (by kernel_rfl)]
  rw [hv 73 (by kernel_rfl)]
  rw [hv 74 (by kernel_rfl)]
  rw [hv 75 (by kernel_rfl)]
  rw [hv 76 (by kernel_rfl)]
  rw [hv 77 (by kernel_rfl)]
  rw [hv 78 (by kernel_rfl)]
  rw [hv 79 (by kernel_rfl)]
  clear hf hs hv hcur
  simp only [getD_toArray, List.getD_cons_succ, List.getD_cons_zero]
  generalize T.getD 70 undef = y70
  clear T
  obtain ⟨v2, hm2, h2⟩ := hcur1
  have hb2 := hm2.below h1.out env1.out.size
  have env2 := hide (env1.out.low hb2)
  have c4 := hm2.upd.cell c4y.out hnF1.out
  rw [putT_put] at h2
  have hq2 := putT_eq t d g (P1 ++ T0)
  have hC2 := hide (hC1.out w B b d v2 _ true (hx1.out.low hb2) hwc.out h2 env2.out hd (by rw [hq2, padL_true, List.length_append, hsl]; omega))
  have hm3 := hide (hm1.out.trans hm2)
  clear hm2 h2 hu hb2
  go_wp2_with fail
  refine hC2.out.mono ?_
  rintro r w3 ⟨rfl, v3, hm4, h4⟩
  rw [putT_put] at h4
  replace hm4 := hide hm4
  replace h4 := hide h4
  go_wp2_with fail
  go_end0
  exact ⟨rfl, v3, hm3.out.trans hm4.out, h4.out⟩
set_option maxRecDepth 100000 in
set_option maxHeartbeats 1600000 in
theorem expr_bin3 (a c : Ex) (hA : OprP a) (hC : OprP c) : ExprP (.bin 3 a c) := by
  intro x wa B b d rv t g hx hw h henv hd hl
  have hBi := binds_any (.bin 3 a c) x wa _ hx
  rw [show bindE (.bin 3 a c) = 0 from rfl] at hBi
  obtain ⟨xb, xo, va, vc, rfl, ⟨hS, c0, -, -, c3, c4⟩, hxa, hxc⟩ := hx
  obtain ⟨-, -, hwa, hwc⟩ := hw
  obtain ⟨P1, hP1⟩ : ∃ P, P = parT (decide (bindE a < 0)) (exT a) := ⟨_, rfl⟩
  obtain ⟨P2, hP2⟩ : ∃ P, P = parT (decide (bindE c < 0 + 1)) (exT c) := ⟨_, rfl⟩
  have hX : exT (.bin 3 a c) = P1 ++ signT 3 ++ P2 := by rw [hP1, hP2, exT]; rfl
  have hsl := sign_len 3
  rw [hX] at hl ⊢
  rw [List.length_append, List.length_append, hsl] at hl
  have hpl := padL_le d g
  have hA1 := hA 0 va wa B b d rv t g hxa hwa h henv hd (by rw [← hP1]; omega)
  have hC1 := hC (0 + 1) vc
  rw [← hP1] at hA1
  rw [← hP2] at hC1
  have hop := operator_any 3 (by decide) (by decide)
  obtain ⟨T0, hT0⟩ : ∃ T, T = signT 3 := ⟨_, rfl⟩
  rw [← hT0] at hop hsl ⊢
  replace hA1 := hide hA1
  replace hC1 := hide hC1
  replace hBi := hide hBi
  replace hop := hide hop
  replace hwc := hide hwc
  replace hxc := hide hxc
  replace h := hide h
  replace henv := hide henv
  have hnF : Hid (¬ FB b rv xb) := hide fun e => Nat.lt_irrefl _ (Nat.lt_of_lt_of_le hS (h.out.ges _ e))
  have c0w := hide c0
  have c4w := hide c4
  clear hA hC hX hwa hxa hT0 hP1 hP2 c4
  go_enter Tryd.func31, Tryd.ntmps31
  go_wp2_with fail
  refine hBi.out.mono ?_
  rintro r w1 ⟨rfl, rfl⟩
  go_wp2_with fail
  refine hA1.out.mono ?_
  rintro r w1 ⟨rfl, v1, hm1, h1⟩
  have hb1 := hm1.below h.out henv.out.size
  have hq1 := putT_eq t d g P1
  have env1 := hide (henv.out.low hb1)
  have hnF1 : Hid (¬ FB b v1 xb) := hide fun e => Nat.lt_irrefl _ (Nat.lt_of_lt_of_le hS (h1.ges _ e))
  have c0y := hide (hm1.upd.cell c0w.out hnF.out)
  have c4y := hide (hm1.upd.cell c4w.out hnF.out)
  have hx1 := hide (hxc.out.low hb1)
  have hlt := hide h1.lts
  have hlz := hide env1.out.size
  have hput := hide (fun w v (hp : Prn w B b v1 (putT t d g P1) d true) (hz : B ≤ w.heap.size) (hr : RowF (FB b v1) [T0] v w) => put_row (xs := [T0]) (by simp) hp hz hd (by rw [hq1]; simp; omega) hr)
  rw [show ([T0] : List (List UInt8)).flatten = T0 by simp] at hput
  replace hm1 := hide hm1
  replace h1 := hide h1
  clear hb1
  go_wp2_with fail
  clear c0 c3
  refine wp_region_flow (FB b v1) (factAt [(fun v _ => v = (.pointer (some ⟨b, 0, none⟩))), (fun v _ => v = (.pointer (some ⟨b, 0, none⟩))), (fun v _ => v = (.pointer (some ⟨b, 0, none⟩))), (fun v _ => v = (.pointer (some ⟨xb, xo, none⟩))), (fun v _ => v = (.pointer (some ⟨xb, xo, none⟩))), (fun v _ => v = (.pointer (some ⟨xb, xo, none⟩))), (fun v _ => v = (.int .i64 3)), (fun v _ => v = (.string (strB T0))), (fun v w => RowF (FB b v1) [T0] v w), (fun v _ => v = (.tuple #[]))]) [none, none, none, none, none, none, none, none, none, some (fun _ w => PrO w1 B b v1 (putT (putT t d g P1) d true T0) d true w)] (fun w => PrM b v1 w1 v1 w ∧ Prn w B b v1 (putT t d g P1) d true) (by kernel_rfl) (fkept_at ⟨FKept.eq _, FKept.eq _, FKept.eq _, FKept.eq _, FKept.eq _, FKept.eq _, FKept.eq _, FKept.eq _, RowF.kept, FKept.eq _, trivial⟩) (fun _ _ h hb => ⟨h.1.quiet hb, h.2.below hb⟩) ⟨fun _ _ _ h hb => h.quiet hb, trivial⟩ (by kernel_rfl) (by kernel_rfl) (by kernel_rfl) (by kernel_rfl) (Nat.le_of_ble_eq_true (by kernel_rfl)) ?_ ⟨?_, ?_, ?_, ?_, ?_, ?_, ?_, ?_, ?_, ?_, trivial⟩ ?_
  · exact ⟨.refl _ _ _, h1.out⟩
  · intro T w Q hu hs hv hw hd
    have hx0 : T.getD 0 undef = (.pointer (some ⟨b, 0, none⟩)) := hv 0 (by kernel_rfl)
    refine .inl ⟨wanted_none rfl, ?_⟩
    clear hd hv hu hs hw
    go_simp
    exact ⟨_, rfl, DstOk.some rfl, Below.refl _ _, rfl⟩
  · intro T w Q hu hs hv hw hd
    have hx62 : T.getD 62 undef = (.pointer (some ⟨b, 0, none⟩)) := Deps.at 0 hd (by kernel_rfl)
    refine .inl ⟨wanted_none rfl, ?_⟩
    clear hd hv hu hs hw
    go_simp
    exact ⟨_, rfl, DstOk.some rfl, Below.refl _ _, rfl⟩
  · intro T w Q hu hs hv hw hd
    have hx63 : T.getD 63 undef = (.pointer (some ⟨b, 0, none⟩)) := Deps.at 1 hd (by kernel_rfl)
    refine .inl ⟨wanted_none rfl, ?_⟩
    clear hd hv hu hs hw
    go_simp
    exact ⟨_, rfl, DstOk.some rfl, Below.refl _ _, rfl⟩
  · intro T w Q hu hs hv hw hd
    have hx1 : T.getD 1 undef = (.pointer (some ⟨xb, xo, none⟩)) := hv 1 (by kernel_rfl)
    refine .inl ⟨wanted_none rfl, ?_⟩
    clear hd hv hu hs hw
    go_simp
    exact ⟨_, rfl, DstOk.some rfl, Below.refl _ _, rfl⟩
  · intro T w Q hu hs hv hw hd
    have hx65 : T.getD 65 undef = (.pointer (some ⟨xb, xo, none⟩)) := Deps.at 3 hd (by kernel_rfl)
    refine .inl ⟨wanted_none rfl, ?_⟩
    clear hd hv hu hs hw
    go_simp
    exact ⟨_, rfl, DstOk.some rfl, Below.refl _ _, rfl⟩
  · intro T w Q hu hs hv hw hd
    have hx66 : T.getD 66 undef = (.pointer (some ⟨xb, xo, none⟩)) := Deps.at 4 hd (by kernel_rfl)
    refine .inl ⟨wanted_none rfl, ?_⟩
    clear hd hv hu hs hw
    go_simp
    exact ⟨_, rfl, DstOk.some rfl, Below.refl _ _, rfl⟩
  · intro T w Q hu hs hv hw hd
    have hx67 : T.getD 67 undef = (.pointer (some ⟨xb, xo, none⟩)) := Deps.at 5 hd (by kernel_rfl)
    refine .inl ⟨wanted_none rfl, ?_⟩
    have hq := hu.cell c0y.out hnF1.out
    clear hd hv hu hs hw
    go_simp
    exact ⟨_, rfl, DstOk.some rfl, Below.refl _ _, rfl⟩
  · intro T w Q hu hs hv hw hd
    have hx68 : T.getD 68 undef = (.int .i64 3) := Deps.at 6 hd (by kernel_rfl)
    refine .inl ⟨wanted_none rfl, ?_⟩
    have hN := hop.out w
    clear hd hv hu hs hw
    go_simp
    refine hN.mono ?_
    rintro e w5 ⟨rfl, rfl⟩
    exact ⟨_, rfl, DstOk.some rfl, Below.refl _ _, rfl⟩
  · intro T w Q hu hs hv hw hd
    have hx69 : T.getD 69 undef = (.string (strB T0)) := Deps.at 7 hd (by kernel_rfl)
    have hy69 := hx69
    rw [Array.getD_eq_getD_getElem?] at hy69
    refine .inl ⟨wanted_none rfl, ?_⟩
    have hN := RowF.new (F := FB b v1) [T0] hlt.out hu.size
    replace hN := hide hN
    clear hd hv hu hs hw
    go_simp
    exact ⟨_, rfl, DstOk.some rfl, (Below.refl _ w).alloc (Nat.le_refl _) _, hN.out⟩
  · intro T w Q hu hs hv hw hd hc0
    have hc : (fun w => PrM b v1 w1 v1 w ∧ Prn w B b v1 (putT t d g P1) d true) w := hc0
    have hx64 : T.getD 64 undef = (.pointer (some ⟨b, 0, none⟩)) := Deps.at 2 hd (by kernel_rfl)
    have f70 : (fun (v : Value) (w : World) => RowF (FB b v1) [T0] v w) (T.getD 70 undef) w := Deps.at 8 hd (by kernel_rfl)
    generalize hx70 : T.getD 70 undef = x70 at f70 hc
    replace f70 := hide f70
    replace hc := hide hc
    refine .inl ⟨wanted_none rfl, ?_⟩
    have hN := hput.out w _ hc.out.2 (Nat.le_trans hlz.out hu.size) f70.out
    clear hd hv hu hs hw hc0
    replace hN := hide hN
    go_simp
    refine hN.out.mono ?_
    rintro e w5 ⟨rfl, v2, hm2, h2⟩
    exact ⟨_, rfl, DstOk.some rfl, hm2.upd, rfl, v2, hc.out.1.trans hm2, h2⟩
  intro T w hu hs hv hf hcur
  have hcur1 : (fun (w : World) => PrO w1 B b v1 (putT (putT t d g P1) d true T0) d true w) w := hcur
  replace hcur1 := hcur1
  have hT : T = #[T.getD 0 undef, T.getD 1 undef, T.getD 2 undef, T.getD 3 undef, T.getD 4 undef, T.getD 5 undef, T.getD 6 undef, T.getD 7 undef, T.getD 8 undef, T.getD 9 undef, T.getD 10 undef, T.getD 11 undef, T.getD 12 undef, T.getD 13 undef, T.getD 14 undef, T.getD 15 undef, T.getD 16 undef, T.getD 17 undef, T.getD 18 undef, T.getD 19 undef, T.getD 20 undef, T.getD 21 undef, T.getD 22 undef, T.getD 23 undef, T.getD 24 undef, T.getD 25 undef, T.getD 26 undef, T.getD 27 undef, T.getD 28 undef, T.getD 29 undef, T.getD 30 undef, T.getD 31 undef, T.getD 32 undef, T.getD 33 undef, T.getD 34 undef, T.getD 35 undef, T.getD 36 undef, T.getD 37 undef, T.getD 38 undef, T.getD 39 undef, T.getD 40 undef, T.getD 41 undef, T.getD 42 undef, T.getD 43 undef, T.getD 44 undef, T.getD 45 undef, T.getD 46 undef, T.getD 47 undef, T.getD 48 undef, T.getD 49 undef, T.getD 50 undef, T.getD 51 undef, T.getD 52 undef, T.getD 53 undef, T.getD 54 undef, T.getD 55 undef, T.getD 56 undef, T.getD 57 undef, T.getD 58 undef, T.getD 59 undef, T.getD 60 undef, T.getD 61 undef, T.getD 62 undef, T.getD 63 undef, T.getD 64 undef, T.getD 65 undef, T.getD 66 undef, T.getD 67 undef, T.getD 68 undef, T.getD 69 undef, T.getD 70 undef, T.getD 71 undef, T.getD 72 undef, T.getD 73 undef, T.getD 74 undef, T.getD 75 undef, T.getD 76 undef, T.getD 77 undef, T.getD 78 undef, T.getD 79 undef] := expl hs
  rw [hT]
  clear hT
  rw [show T.getD 0 undef = (.pointer (some ⟨b, 0, none⟩)) from hv 0 (by kernel_rfl)]
  rw [show T.getD 1 undef = (.pointer (some ⟨xb, xo, none⟩)) from hv 1 (by kernel_rfl)]
  rw [hv 2 (by kernel_rfl)]
  rw [hv 3 (by kernel_rfl)]
  rw [show T.getD 4 undef = (.int .i64 0) from hv 4 (by kernel_rfl)]
  rw [hv 5 (by kernel_rfl)]
  rw [hv 6 (by kernel_rfl)]
  rw [hv 7 (by kernel_rfl)]
  rw [hv 8 (by kernel_rfl)]
  rw [hv 9 (by kernel_rfl)]
  rw [hv 10 (by kernel_rfl)]
  rw [hv 11 (by kernel_rfl)]
  rw [hv 12 (by kernel_rfl)]
  rw [hv 13 (by kernel_rfl)]
  rw [hv 14 (by kernel_rfl)]
  rw [hv 15 (by kernel_rfl)]
  rw [hv 16 (by kernel_rfl)]
  rw [hv 17 (by kernel_rfl)]
  rw [hv 18 (by kernel_rfl)]
  rw [hv 19 (by kernel_rfl)]
  rw [hv 20 (by kernel_rfl)]
  rw [hv 21 (by kernel_rfl)]
  rw [hv 22 (by kernel_rfl)]
  rw [hv 23 (by kernel_rfl)]
  rw [hv 24 (by kernel_rfl)]
  rw [hv 25 (by kernel_rfl)]
  rw [hv 26 (by kernel_rfl)]
  rw [hv 27 (by kernel_rfl)]
  rw [hv 28 (by kernel_rfl)]
  rw [hv 29 (by kernel_rfl)]
  rw [hv 30 (by kernel_rfl)]
  rw [hv 31 (by kernel_rfl)]
  rw [hv 32 (by kernel_rfl)]
  rw [hv 33 (by kernel_rfl)]
  rw [hv 34 (by kernel_rfl)]
  rw [hv 35 (by kernel_rfl)]
  rw [hv 36 (by kernel_rfl)]
  rw [hv 37 (by kernel_rfl)]
  rw [hv 38 (by kernel_rfl)]
  rw [hv 39 (by kernel_rfl)]
  rw [hv 40 (by kernel_rfl)]
  rw [hv 41 (by kernel_rfl)]
  rw [hv 42 (by kernel_rfl)]
  rw [hv 43 (by kernel_rfl)]
  rw [hv 44 (by kernel_rfl)]
  rw [hv 45 (by kernel_rfl)]
  rw [hv 46 (by kernel_rfl)]
  rw [hv 47 (by kernel_rfl)]
  rw [hv 48 (by kernel_rfl)]
  rw [hv 49 (by kernel_rfl)]
  rw [hv 50 (by kernel_rfl)]
  rw [hv 51 (by kernel_rfl)]
  rw [hv 52 (by kernel_rfl)]
  rw [hv 53 (by kernel_rfl)]
  rw [hv 54 (by kernel_rfl)]
  rw [hv 55 (by kernel_rfl)]
  rw [hv 56 (by kernel_rfl)]
  rw [hv 57 (by kernel_rfl)]
  rw [hv 58 (by kernel_rfl)]
  rw [hv 59 (by kernel_rfl)]
  rw [hv 60 (by kernel_rfl)]
  rw [hv 61 (by kernel_rfl)]
  rw [show T.getD 62 undef = (.pointer (some ⟨b, 0, none⟩)) from hf 0 (by decide)]
  rw [show T.getD 63 undef = (.pointer (some ⟨b, 0, none⟩)) from hf 1 (by decide)]
  rw [show T.getD 64 undef = (.pointer (some ⟨b, 0, none⟩)) from hf 2 (by decide)]
  rw [show T.getD 65 undef = (.pointer (some ⟨xb, xo, none⟩)) from hf 3 (by decide)]
  rw [show T.getD 66 undef = (.pointer (some ⟨xb, xo, none⟩)) from hf 4 (by decide)]
  rw [show T.getD 67 undef = (.pointer (some ⟨xb, xo, none⟩)) from hf 5 (by decide)]
  rw [show T.getD 68 undef = (.int .i64 3) from hf 6 (by decide)]
  rw [show T.getD 69 undef = (.string (strB T0)) from hf 7 (by decide)]
  rw [show T.getD 71 undef = (.tuple #[]) from hf 9 (by decide)]
  rw [hv 72 (by kernel_rfl)]
  rw [hv 73 (by kernel_rfl)]
  rw [hv 74 (by kernel_rfl)]
  rw [hv 75 (by kernel_rfl)]
  rw [hv 76 (by kernel_rfl)]
  rw [hv 77 (by kernel_rfl)]
  rw [hv 78 (by kernel_rfl)]
  rw [hv 79 (by kernel_rfl)]
  clear hf hs hv hcur
  simp only [getD_toArray, List.getD_cons_succ, List.getD_cons_zero]
  generalize T.getD 70 undef = y70
  clear T
  obtain ⟨v2, hm2, h2⟩ := hcur1
  have hb2 := hm2.below h1.out env1.out.size
  have env2 := hide (env1.out.low hb2)
  have c4 := hm2.upd.cell c4y.out hnF1.out
  rw [putT_put] at h2
  have hq2 := putT_eq t d g (P1 ++ T0)
  have hC2 := hide (hC1.out w B b d v2 _ true (hx1.out.low hb2) hwc.out h2 env2.out hd (by rw [hq2, padL_true, List.length_append, hsl]; omega))
  have hm3 := hide (hm1.out.trans hm2)
  clear hm2 h2 hu hb2
  go_wp2_with fail
  refine hC2.out.mono ?_
  rintro r w3 ⟨rfl, v3, hm4, h4⟩
  rw [putT_put] at h4
  replace hm4 := hide hm4
  replace h4 := hide h4
  go_wp2_with fail
  go_end0
  exact ⟨rfl, v3, hm3.out.trans hm4.out, h4.out⟩
set_option maxRecDepth 100000 in
set_option maxHeartbeats 1600000 in
theorem expr_bin4 (a c : Ex) (hA : OprP a) (hC : OprP c) : ExprP (.bin 4 a c) := by
  intro x wa B b d rv t g hx hw h henv hd hl
  have hBi := binds_any (.bin 4 a c) x wa _ hx
  rw [show bindE (.bin 4 a c) = 1 from rfl] at hBi
  obtain ⟨xb, xo, va, vc, rfl, ⟨hS, c0, -, -, c3, c4⟩, hxa, hxc⟩ := hx
  obtain ⟨-, -, hwa, hwc⟩ := hw
  obtain ⟨P1, hP1⟩ : ∃ P, P = parT (decide (bindE a < 1)) (exT a) := ⟨_, rfl⟩
  obtain ⟨P2, hP2⟩ : ∃ P, P = parT (decide (bindE c < 1 + 1)) (exT c) := ⟨_, rfl⟩
  have hX : exT (.bin 4 a c) = P1 ++ signT 4 ++ P2 := by rw [hP1, hP2, exT]; rfl
  have hsl := sign_len 4
  rw [hX] at hl ⊢
  rw [List.length_append, List.length_append, hsl] at hl
  have hpl := padL_le d g
  have hA1 := hA 1 va wa B b d rv t g hxa hwa h henv hd (by rw [← hP1]; omega)
  have hC1 := hC (1 + 1) vc
  rw [← hP1] at hA1
  rw [← hP2] at hC1
  have hop := operator_any 4 (by decide) (by decide)
  obtain ⟨T0, hT0⟩ : ∃ T, T = signT 4 := ⟨_, rfl⟩
  rw [← hT0] at hop hsl ⊢
  replace hA1 := hide hA1
  replace hC1 := hide hC1
  replace hBi := hide hBi
  replace hop := hide hop
  replace hwc := hide hwc
  replace hxc := hide hxc
  replace h := hide h
  replace henv := hide henv
  have hnF : Hid (¬ FB b rv xb) := hide fun e => Nat.lt_irrefl _ (Nat.lt_of_lt_of_le hS (h.out.ges _ e))
  have c0w := hide c0
  have c4w := hide c4
  clear hA hC hX hwa hxa hT0 hP1 hP2 c4
  go_enter Tryd.func31, Tryd.ntmps31
  go_wp2_with fail
  refine hBi.out.mono ?_
  rintro r w1 ⟨rfl, rfl⟩
  go_wp2_with fail
  refine hA1.out.mono ?_
  rintro r w1 ⟨rfl, v1, hm1, h1⟩
  have hb1 := hm1.below h.out henv.out.size
  have hq1 := putT_eq t d g P1
  have env1 := hide (henv.out.low hb1)
  have hnF1 : Hid (¬ FB b v1 xb) := hide fun e => Nat.lt_irrefl _ (Nat.lt_of_lt_of_le hS (h1.ges _ e))
  have c0y := hide (hm1.upd.cell c0w.out hnF.out)
  have c4y := hide (hm1.upd.cell c4w.out hnF.out)
  have hx1 := hide (hxc.out.low hb1)
  have hlt := hide h1.lts
  have hlz := hide env1.out.size
  have hput := hide (fun w v (hp : Prn w B b v1 (putT t d g P1) d true) (hz : B ≤ w.heap.size) (hr : RowF (FB b v1) [T0] v w) => put_row (xs := [T0]) (by simp) hp hz hd (by rw [hq1]; simp; omega) hr)
  rw [show ([T0] : List (List UInt8)).flatten = T0 by simp] at hput
  replace hm1 := hide hm1
  replace h1 := hide h1
  clear hb1
  go_wp2_with fail
  clear c0 c3
  refine wp_region_flow (FB b v1) (factAt [(fun v _ => v = (.pointer (some ⟨b, 0, none⟩))), (fun v _ => v = (.pointer (some ⟨b, 0, none⟩))), (fun v _ => v = (.pointer (some ⟨b, 0, none⟩))), (fun v _ => v = (.pointer (some ⟨xb, xo, none⟩))), (fun v _ => v = (.pointer (some ⟨xb, xo, none⟩))), (fun v _ => v = (.pointer (some ⟨xb, xo, none⟩))), (fun v _ => v = (.int .i64 4)), (fun v _ => v = (.string (strB T0))), (fun v w => RowF (FB b v1) [T0] v w), (fun v _ => v = (.tuple #[]))]) [none, none, none, none, none, none, none, none, none, some (fun _ w => PrO w1 B b v1 (putT (putT t d g P1) d true T0) d true w)] (fun w => PrM b v1 w1 v1 w ∧ Prn w B b v1 (putT t d g P1) d true) (by kernel_rfl) (fkept_at ⟨FKept.eq _, FKept.eq _, FKept.eq _, FKept.eq _, FKept.eq _, FKept.eq _, FKept.eq _, FKept.eq _, RowF.kept, FKept.eq _, trivial⟩) (fun _ _ h hb => ⟨h.1.quiet hb, h.2.below hb⟩) ⟨fun _ _ _ h hb => h.quiet hb, trivial⟩ (by kernel_rfl) (by kernel_rfl) (by kernel_rfl) (by kernel_rfl) (Nat.le_of_ble_eq_true (by kernel_rfl)) ?_ ⟨?_, ?_, ?_, ?_, ?_, ?_, ?_, ?_, ?_, ?_, trivial⟩ ?_
  · exact ⟨.refl _ _ _, h1.out⟩
  · intro T w Q hu hs hv hw hd
    have hx0 : T.getD 0 undef = (.pointer (some ⟨b, 0, none⟩)) := hv 0 (by kernel_rfl)
    refine .inl ⟨wanted_none rfl, ?_⟩
    clear hd hv hu hs hw
    go_simp
    exact ⟨_, rfl, DstOk.some rfl, Below.refl _ _, rfl⟩
  · intro T w Q hu hs hv hw hd
    have hx62 : T.getD 62 undef = (.pointer (some ⟨b, 0, none⟩)) := Deps.at 0 hd (by kernel_rfl)
    refine .inl ⟨wanted_none rfl, ?_⟩
    clear hd hv hu hs hw
    go_simp
    exact ⟨_, rfl, DstOk.some rfl, Below.refl _ _, rfl⟩
  · intro T w Q hu hs hv hw hd
    have hx63 : T.getD 63 undef = (.pointer (some ⟨b, 0, none⟩)) := Deps.at 1 hd (by kernel_rfl)
    refine .inl ⟨wanted_none rfl, ?_⟩
    clear hd hv hu hs hw
    go_simp
    exact ⟨_, rfl, DstOk.some rfl, Below.refl _ _, rfl⟩
  · intro T w Q hu hs hv hw hd
    have hx1 : T.getD 1 undef = (.pointer (some ⟨xb, xo, none⟩)) := hv 1 (by kernel_rfl)
    refine .inl ⟨wanted_none rfl, ?_⟩
    clear hd hv hu hs hw
    go_simp
    exact ⟨_, rfl, DstOk.some rfl, Below.refl _ _, rfl⟩
  · intro T w Q hu hs hv hw hd
    have hx65 : T.getD 65 undef = (.pointer (some ⟨xb, xo, none⟩)) := Deps.at 3 hd (by kernel_rfl)
    refine .inl ⟨wanted_none rfl, ?_⟩
    clear hd hv hu hs hw
    go_simp
    exact ⟨_, rfl, DstOk.some rfl, Below.refl _ _, rfl⟩
  · intro T w Q hu hs hv hw hd
    have hx66 : T.getD 66 undef = (.pointer (some ⟨xb, xo, none⟩)) := Deps.at 4 hd (by kernel_rfl)
    refine .inl ⟨wanted_none rfl, ?_⟩
    clear hd hv hu hs hw
    go_simp
    exact ⟨_, rfl, DstOk.some rfl, Below.refl _ _, rfl⟩
  · intro T w Q hu hs hv hw hd
    have hx67 : T.getD 67 undef = (.pointer (some ⟨xb, xo, none⟩)) := Deps.at 5 hd (by kernel_rfl)
    refine .inl ⟨wanted_none rfl, ?_⟩
    have hq := hu.cell c0y.out hnF1.out
    clear hd hv hu hs hw
    go_simp
    exact ⟨_, rfl, DstOk.some rfl, Below.refl _ _, rfl⟩
  · intro T w Q hu hs hv hw hd
    have hx68 : T.getD 68 undef = (.int .i64 4) := Deps.at 6 hd (by kernel_rfl)
    refine .inl ⟨wanted_none rfl, ?_⟩
    have hN := hop.out w
    clear hd hv hu hs hw
    go_simp
    refine hN.mono ?_
    rintro e w5 ⟨rfl, rfl⟩
    exact ⟨_, rfl, DstOk.some rfl, Below.refl _ _, rfl⟩
  · intro T w Q hu hs hv hw hd
    have hx69 : T.getD 69 undef = (.string (strB T0)) := Deps.at 7 hd (by kernel_rfl)
    have hy69 := hx69
    rw [Array.getD_eq_getD_getElem?] at hy69
    refine .inl ⟨wanted_none rfl, ?_⟩
    have hN := RowF.new (F := FB b v1) [T0] hlt.out hu.size
    replace hN := hide hN
    clear hd hv hu hs hw
    go_simp
    exact ⟨_, rfl, DstOk.some rfl, (Below.refl _ w).alloc (Nat.le_refl _) _, hN.out⟩
  · intro T w Q hu hs hv hw hd hc0
    have hc : (fun w => PrM b v1 w1 v1 w ∧ Prn w B b v1 (putT t d g P1) d true) w := hc0
    have hx64 : T.getD 64 undef = (.pointer (some ⟨b, 0, none⟩)) := Deps.at 2 hd (by kernel_rfl)
    have f70 : (fun (v : Value) (w : World) => RowF (FB b v1) [T0] v w) (T.getD 70 undef) w := Deps.at 8 hd (by kernel_rfl)
    generalize hx70 : T.getD 70 undef = x70 at f70 hc
    replace f70 := hide f70
    replace hc := hide hc
    refine .inl ⟨wanted_none rfl, ?_⟩
    have hN := hput.out w _ hc.out.2 (Nat.le_trans hlz.out hu.size) f70.out
    clear hd hv hu hs hw hc0
    replace hN := hide hN
    go_simp
    refine hN.out.mono ?_
    rintro e w5 ⟨rfl, v2, hm2, h2⟩
    exact ⟨_, rfl, DstOk.some rfl, hm2.upd, rfl, v2, hc.out.1.trans hm2, h2⟩
  intro T w hu hs hv hf hcur
  have hcur1 : (fun (w : World) => PrO w1 B b v1 (putT (putT t d g P1) d true T0) d true w) w := hcur
  replace hcur1 := hcur1
  have hT : T = #[T.getD 0 undef, T.getD 1 undef, T.getD 2 undef, T.getD 3 undef, T.getD 4 undef, T.getD 5 undef, T.getD 6 undef, T.getD 7 undef, T.getD 8 undef, T.getD 9 undef, T.getD 10 undef, T.getD 11 undef, T.getD 12 undef, T.getD 13 undef, T.getD 14 undef, T.getD 15 undef, T.getD 16 undef, T.getD 17 undef, T.getD 18 undef, T.getD 19 undef, T.getD 20 undef, T.getD 21 undef, T.getD 22 undef, T.getD 23 undef, T.getD 24 undef, T.getD 25 undef, T.getD 26 undef, T.getD 27 undef, T.getD 28 undef, T.getD 29 undef, T.getD 30 undef, T.getD 31 undef, T.getD 32 undef, T.getD 33 undef, T.getD 34 undef, T.getD 35 undef, T.getD 36 undef, T.getD 37 undef, T.getD 38 undef, T.getD 39 undef, T.getD 40 undef, T.getD 41 undef, T.getD 42 undef, T.getD 43 undef, T.getD 44 undef, T.getD 45 undef, T.getD 46 undef, T.getD 47 undef, T.getD 48 undef, T.getD 49 undef, T.getD 50 undef, T.getD 51 undef, T.getD 52 undef, T.getD 53 undef, T.getD 54 undef, T.getD 55 undef, T.getD 56 undef, T.getD 57 undef, T.getD 58 undef, T.getD 59 undef, T.getD 60 undef, T.getD 61 undef, T.getD 62 undef, T.getD 63 undef, T.getD 64 undef, T.getD 65 undef, T.getD 66 undef, T.getD 67 undef, T.getD 68 undef, T.getD 69 undef, T.getD 70 undef, T.getD 71 undef, T.getD 72 undef, T.getD 73 undef, T.getD 74 undef, T.getD 75 undef, T.getD 76 undef, T.getD 77 undef, T.getD 78 undef, T.getD 79 undef] := expl hs
  rw [hT]
  clear hT
  rw [show T.getD 0 undef = (.pointer (some ⟨b, 0, none⟩)) from hv 0 (by kernel_rfl)]
  rw [show T.getD 1 undef = (.pointer (some ⟨xb, xo, none⟩)) from hv 1 (by kernel_rfl)]
  rw [hv 2 (by kernel_rfl)]
  rw [hv 3 (by kernel_rfl)]
  rw [show T.getD 4 undef = (.int .i64 1) from hv 4 (by kernel_rfl)]
  rw [hv 5 (by kernel_rfl)]
  rw [hv 6 (by kernel_rfl)]
  rw [hv 7 (by kernel_rfl)]
  rw [hv 8 (by kernel_rfl)]
  rw [hv 9 (by kernel_rfl)]
  rw [hv 10 (by kernel_rfl)]
  rw [hv 11 (by kernel_rfl)]
  rw [hv 12 (by kernel_rfl)]
  rw [hv 13 (by kernel_rfl)]
  rw [hv 14 (by kernel_rfl)]
  rw [hv 15 (by kernel_rfl)]
  rw [hv 16 (by kernel_rfl)]
  rw [hv 17 (by kernel_rfl)]
  rw [hv 18 (by kernel_rfl)]
  rw [hv 19 (by kernel_rfl)]
  rw [hv 20 (by kernel_rfl)]
  rw [hv 21 (by kernel_rfl)]
  rw [hv 22 (by kernel_rfl)]
  rw [hv 23 (by kernel_rfl)]
  rw [hv 24 (by kernel_rfl)]
  rw [hv 25 (by kernel_rfl)]
  rw [hv 26 (by kernel_rfl)]
  rw [hv 27 (by kernel_rfl)]
  rw [hv 28 (by kernel_rfl)]
  rw [hv 29 (by kernel_rfl)]
  rw [hv 30 (by kernel_rfl)]
  rw [hv 31 (by kernel_rfl)]
  rw [hv 32 (by kernel_rfl)]
  rw [hv 33 (by kernel_rfl)]
  rw [hv 34 (by kernel_rfl)]
  rw [hv 35 (by kernel_rfl)]
  rw [hv 36 (by kernel_rfl)]
  rw [hv 37 (by kernel_rfl)]
  rw [hv 38 (by kernel_rfl)]
  rw [hv 39 (by kernel_rfl)]
  rw [hv 40 (by kernel_rfl)]
  rw [hv 41 (by kernel_rfl)]
  rw [hv 42 (by kernel_rfl)]
  rw [hv 43 (by kernel_rfl)]
  rw [hv 44 (by kernel_rfl)]
  rw [hv 45 (by kernel_rfl)]
  rw [hv 46 (by kernel_rfl)]
  rw [hv 47 (by kernel_rfl)]
  rw [hv 48 (by kernel_rfl)]
  rw [hv 49 (by kernel_rfl)]
  rw [hv 50 (by kernel_rfl)]
  rw [hv 51 (by kernel_rfl)]
  rw [hv 52 (by kernel_rfl)]
  rw [hv 53 (by kernel_rfl)]
  rw [hv 54 (by kernel_rfl)]
  rw [hv 55 (by kernel_rfl)]
  rw [hv 56 (by kernel_rfl)]
  rw [hv 57 (by kernel_rfl)]
  rw [hv 58 (by kernel_rfl)]
  rw [hv 59 (by kernel_rfl)]
  rw [hv 60 (by kernel_rfl)]
  rw [hv 61 (by kernel_rfl)]
  rw [show T.getD 62 undef = (.pointer (some ⟨b, 0, none⟩)) from hf 0 (by decide)]
  rw [show T.getD 63 undef = (.pointer (some ⟨b, 0, none⟩)) from hf 1 (by decide)]
  rw [show T.getD 64 undef = (.pointer (some ⟨b, 0, none⟩)) from hf 2 (by decide)]
  rw [show T.getD 65 undef = (.pointer (some ⟨xb, xo, none⟩)) from hf 3 (by decide)]
  rw [show T.getD 66 undef = (.pointer (some ⟨xb, xo, none⟩)) from hf 4 (by decide)]
  rw [show T.getD 67 undef = (.pointer (some ⟨xb, xo, none⟩)) from hf 5 (by decide)]
  rw [show T.getD 68 undef = (.int .i64 4) from hf 6 (by decide)]
  rw [show T.getD 69 undef = (.string (strB T0)) from hf 7 (by decide)]
  rw [show T.getD 71 undef = (.tuple #[]) from hf 9 (by decide)]
  rw [hv 72 (by kernel_rfl)]
  rw [hv 73 (by kernel_rfl)]
  rw [hv 74 (by kernel_rfl)]
  rw [hv 75 (by kernel_rfl)]
  rw [hv 76 (by kernel_rfl)]
  rw [hv 77 (by kernel_rfl)]
  rw [hv 78 (by kernel_rfl)]
  rw [hv 79 (by kernel_rfl)]
  clear hf hs hv hcur
  simp only [getD_toArray, List.getD_cons_succ, List.getD_cons_zero]
  generalize T.getD 70 undef = y70
  clear T
  obtain ⟨v2, hm2, h2⟩ := hcur1
  have hb2 := hm2.below h1.out env1.out.size
  have env2 := hide (env1.out.low hb2)
  have c4 := hm2.upd.cell c4y.out hnF1.out
  rw [putT_put] at h2
  have hq2 := putT_eq t d g (P1 ++ T0)
  have hC2 := hide (hC1.out w B b d v2 _ true (hx1.out.low hb2) hwc.out h2 env2.out hd (by rw [hq2, padL_true, List.length_append, hsl]; omega))
  have hm3 := hide (hm1.out.trans hm2)
  clear hm2 h2 hu hb2
  go_wp2_with fail
  refine hC2.out.mono ?_
  rintro r w3 ⟨rfl, v3, hm4, h4⟩
  rw [putT_put] at h4
  replace hm4 := hide hm4
  replace h4 := hide h4
  go_wp2_with fail
  go_end0
  exact ⟨rfl, v3, hm3.out.trans hm4.out, h4.out⟩
set_option maxRecDepth 100000 in
set_option maxHeartbeats 1600000 in
theorem expr_bin5 (a c : Ex) (hA : OprP a) (hC : OprP c) : ExprP (.bin 5 a c) := by
  intro x wa B b d rv t g hx hw h henv hd hl
  have hBi := binds_any (.bin 5 a c) x wa _ hx
  rw [show bindE (.bin 5 a c) = 1 from rfl] at hBi
  obtain ⟨xb, xo, va, vc, rfl, ⟨hS, c0, -, -, c3, c4⟩, hxa, hxc⟩ := hx
  obtain ⟨-, -, hwa, hwc⟩ := hw
  obtain ⟨P1, hP1⟩ : ∃ P, P = parT (decide (bindE a < 1)) (exT a) := ⟨_, rfl⟩
  obtain ⟨P2, hP2⟩ : ∃ P, P = parT (decide (bindE c < 1 + 1)) (exT c) := ⟨_, rfl⟩
  have hX : exT (.bin 5 a c) = P1 ++ signT 5 ++ P2 := by rw [hP1, hP2, exT]; rfl
  have hsl := sign_len 5
  rw [hX] at hl ⊢
  rw [List.length_append, List.length_append, hsl] at hl
  have hpl := padL_le d g
  have hA1 := hA 1 va wa B b d rv t g hxa hwa h henv hd (by rw [← hP1]; omega)
  have hC1 := hC (1 + 1) vc
  rw [← hP1] at hA1
  rw [← hP2] at hC1
  have hop := operator_any 5 (by decide) (by decide)
  obtain ⟨T0, hT0⟩ : ∃ T, T = signT 5 := ⟨_, rfl⟩
  rw [← hT0] at hop hsl ⊢
  replace hA1 := hide hA1
  replace hC1 := hide hC1
  replace hBi := hide hBi
  replace hop := hide hop
  replace hwc := hide hwc
  replace hxc := hide hxc
  replace h := hide h
  replace henv := hide henv
  have hnF : Hid (¬ FB b rv xb) := hide fun e => Nat.lt_irrefl _ (Nat.lt_of_lt_of_le hS (h.out.ges _ e))
  have c0w := hide c0
  have c4w := hide c4
  clear hA hC hX hwa hxa hT0 hP1 hP2 c4
  go_enter Tryd.func31, Tryd.ntmps31
  go_wp2_with fail
  refine hBi.out.mono ?_
  rintro r w1 ⟨rfl, rfl⟩
  go_wp2_with fail
  refine hA1.out.mono ?_
  rintro r w1 ⟨rfl, v1, hm1, h1⟩
  have hb1 := hm1.below h.out henv.out.size
  have hq1 := putT_eq t d g P1
  have env1 := hide (henv.out.low hb1)
  have hnF1 : Hid (¬ FB b v1 xb) := hide fun e => Nat.lt_irrefl _ (Nat.lt_of_lt_of_le hS (h1.ges _ e))
  have c0y := hide (hm1.upd.cell c0w.out hnF.out)
  have c4y := hide (hm1.upd.cell c4w.out hnF.out)
  have hx1 := hide (hxc.out.low hb1)
  have hlt := hide h1.lts
  have hlz := hide env1.out.size
  have hput := hide (fun w v (hp : Prn w B b v1 (putT t d g P1) d true) (hz : B ≤ w.heap.size) (hr : RowF (FB b v1) [T0] v w) => put_row (xs := [T0]) (by simp) hp hz hd (by rw [hq1]; simp; omega) hr)
  rw [show ([T0] : List (List UInt8)).flatten = T0 by simp] at hput
  replace hm1 := hide hm1
  replace h1 := hide h1
  clear hb1
  go_wp2_with fail
  clear c0 c3
  refine wp_region_flow (FB b v1) (factAt [(fun v _ => v = (.pointer (some ⟨b, 0, none⟩))), (fun v _ => v = (.pointer (some ⟨b, 0, none⟩))), (fun v _ => v = (.pointer (some ⟨b, 0, none⟩))), (fun v _ => v = (.pointer (some ⟨xb, xo, none⟩))), (fun v _ => v = (.pointer (some ⟨xb, xo, none⟩))), (fun v _ => v = (.pointer (some ⟨xb, xo, none⟩))), (fun v _ => v = (.int .i64 5)), (fun v _ => v = (.string (strB T0))), (fun v w => RowF (FB b v1) [T0] v w), (fun v _ => v = (.tuple #[]))]) [none, none, none, none, none, none, none, none, none, some (fun _ w => PrO w1 B b v1 (putT (putT t d g P1) d true T0) d true w)] (fun w => PrM b v1 w1 v1 w ∧ Prn w B b v1 (putT t d g P1) d true) (by kernel_rfl) (fkept_at ⟨FKept.eq _, FKept.eq _, FKept.eq _, FKept.eq _, FKept.eq _, FKept.eq _, FKept.eq _, FKept.eq _, RowF.kept, FKept.eq _, trivial⟩) (fun _ _ h hb => ⟨h.1.quiet hb, h.2.below hb⟩) ⟨fun _ _ _ h hb => h.quiet hb, trivial⟩ (by kernel_rfl) (by kernel_rfl) (by kernel_rfl) (by kernel_rfl) (Nat.le_of_ble_eq_true (by kernel_rfl)) ?_ ⟨?_, ?_, ?_, ?_, ?_, ?_, ?_, ?_, ?_, ?_, trivial⟩ ?_
  · exact ⟨.refl _ _ _, h1.out⟩
  · intro T w Q hu hs hv hw hd
    have hx0 : T.getD 0 undef = (.pointer (some ⟨b, 0, none⟩)) := hv 0 (by kernel_rfl)
    refine .inl ⟨wanted_none rfl, ?_⟩
    clear hd hv hu hs hw
    go_simp
    exact ⟨_, rfl, DstOk.some rfl, Below.refl _ _, rfl⟩
  · intro T w Q hu hs hv hw hd
    have hx62 : T.getD 62 undef = (.pointer (some ⟨b, 0, none⟩)) := Deps.at 0 hd (by kernel_rfl)
    refine .inl ⟨wanted_none rfl, ?_⟩
    clear hd hv hu hs hw
    go_simp
    exact ⟨_, rfl, DstOk.some rfl, Below.refl _ _, rfl⟩
  · intro T w Q hu hs hv hw hd
    have hx63 : T.getD 63 undef = (.pointer (some ⟨b, 0, none⟩)) := Deps.at 1 hd (by kernel_rfl)
    refine .inl ⟨wanted_none rfl, ?_⟩
    clear hd hv hu hs hw
    go_simp
    exact ⟨_, rfl, DstOk.some rfl, Below.refl _ _, rfl⟩
  · intro T w Q hu hs hv hw hd
    have hx1 : T.getD 1 undef = (.pointer (some ⟨xb, xo, none⟩)) := hv 1 (by kernel_rfl)
    refine .inl ⟨wanted_none rfl, ?_⟩
    clear hd hv hu hs hw
    go_simp
    exact ⟨_, rfl, DstOk.some rfl, Below.refl _ _, rfl⟩
  · intro T w Q hu hs hv hw hd
    have hx65 : T.getD 65 undef = (.pointer (some ⟨xb, xo, none⟩)) := Deps.at 3 hd (by kernel_rfl)
    refine .inl ⟨wanted_none rfl, ?_⟩
    clear hd hv hu hs hw
    go_simp
    exact ⟨_, rfl, DstOk.some rfl, Below.refl _ _, rfl⟩
  · intro T w Q hu hs hv hw hd
    have hx66 : T.getD 66 undef = (.pointer (some ⟨xb, xo, none⟩)) := Deps.at 4 hd (by kernel_rfl)
    refine .inl ⟨wanted_none rfl, ?_⟩
    clear hd hv hu hs hw
    go_simp
    exact ⟨_, rfl, DstOk.some rfl, Below.refl _ _, rfl⟩
  · intro T w Q hu hs hv hw hd
    have hx67 : T.getD 67 undef = (.pointer (some ⟨xb, xo, none⟩)) := Deps.at 5 hd (by kernel_rfl)
    refine .inl ⟨wanted_none rfl, ?_⟩
    have hq := hu.cell c0y.out hnF1.out
    clear hd hv hu hs hw
    go_simp
    exact ⟨_, rfl, DstOk.some rfl, Below.refl _ _, rfl⟩
  · intro T w Q hu hs hv hw hd
    have hx68 : T.getD 68 undef = (.int .i64 5) := Deps.at 6 hd (by kernel_rfl)
    refine .inl ⟨wanted_none rfl, ?_⟩
    have hN := hop.out w
    clear hd hv hu hs hw
    go_simp
    refine hN.mono ?_
    rintro e w5 ⟨rfl, rfl⟩
    exact ⟨_, rfl, DstOk.some rfl, Below.refl _ _, rfl⟩
  · intro T w Q hu hs hv hw hd
    have hx69 : T.getD 69 undef = (.string (strB T0)) := Deps.at 7 hd (by kernel_rfl)
    have hy69 := hx69
    rw [Array.getD_eq_getD_getElem?] at hy69
    refine .inl ⟨wanted_none rfl, ?_⟩
    have hN := RowF.new (F := FB b v1) [T0] hlt.out hu.size
    replace hN := hide hN
    clear hd hv hu hs hw
    go_simp
    exact ⟨_, rfl, DstOk.some rfl, (Below.refl _ w).alloc (Nat.le_refl _) _, hN.out⟩
  · intro T w Q hu hs hv hw hd hc0
    have hc : (fun w => PrM b v1 w1 v1 w ∧ Prn w B b v1 (putT t d g P1) d true) w := hc0
    have hx64 : T.getD 64 undef = (.pointer (some ⟨b, 0, none⟩)) := Deps.at 2 hd (by kernel_rfl)
    have f70 : (fun (v : Value) (w : World) => RowF (FB b v1) [T0] v w) (T.getD 70 undef) w := Deps.at 8 hd (by kernel_rfl)
    generalize hx70 : T.getD 70 undef = x70 at f70 hc
    replace f70 := hide f70
    replace hc := hide hc
    refine .inl ⟨wanted_none rfl, ?_⟩
    have hN := hput.out w _ hc.out.2 (Nat.le_trans hlz.out hu.size) f70.out
    clear hd hv hu hs hw hc0
    replace hN := hide hN
    go_simp
    refine hN.out.mono ?_
    rintro e w5 ⟨rfl, v2, hm2, h2⟩
    exact ⟨_, rfl, DstOk.some rfl, hm2.upd, rfl, v2, hc.out.1.trans hm2, h2⟩
  intro T w hu hs hv hf hcur
  have hcur1 : (fun (w : World) => PrO w1 B b v1 (putT (putT t d g P1) d true T0) d true w) w := hcur
  replace hcur1 := hcur1
  have hT : T = #[T.getD 0 undef, T.getD 1 undef, T.getD 2 undef, T.getD 3 undef, T.getD 4 undef, T.getD 5 undef, T.getD 6 undef, T.getD 7 undef, T.getD 8 undef, T.getD 9 undef, T.getD 10 undef, T.getD 11 undef, T.getD 12 undef, T.getD 13 undef, T.getD 14 undef, T.getD 15 undef, T.getD 16 undef, T.getD 17 undef, T.getD 18 undef, T.getD 19 undef, T.getD 20 undef, T.getD 21 undef, T.getD 22 undef, T.getD 23 undef, T.getD 24 undef, T.getD 25 undef, T.getD 26 undef, T.getD 27 undef, T.getD 28 undef, T.getD 29 undef, T.getD 30 undef, T.getD 31 undef, T.getD 32 undef, T.getD 33 undef, T.getD 34 undef, T.getD 35 undef, T.getD 36 undef, T.getD 37 undef, T.getD 38 undef, T.getD 39 undef, T.getD 40 undef, T.getD 41 undef, T.getD 42 undef, T.getD 43 undef, T.getD 44 undef, T.getD 45 undef, T.getD 46 undef, T.getD 47 undef, T.getD 48 undef, T.getD 49 undef, T.getD 50 undef, T.getD 51 undef, T.getD 52 undef, T.getD 53 undef, T.getD 54 undef, T.getD 55 undef, T.getD 56 undef, T.getD 57 undef, T.getD 58 undef, T.getD 59 undef, T.getD 60 undef, T.getD 61 undef, T.getD 62 undef, T.getD 63 undef, T.getD 64 undef, T.getD 65 undef, T.getD 66 undef, T.getD 67 undef, T.getD 68 undef, T.getD 69 undef, T.getD 70 undef, T.getD 71 undef, T.getD 72 undef, T.getD 73 undef, T.getD 74 undef, T.getD 75 undef, T.getD 76 undef, T.getD 77 undef, T.getD 78 undef, T.getD 79 undef] := expl hs
  rw [hT]
  clear hT
  rw [show T.getD 0 undef = (.pointer (some ⟨b, 0, none⟩)) from hv 0 (by kernel_rfl)]
  rw [show T.getD 1 undef = (.pointer (some ⟨xb, xo, none⟩)) from hv 1 (by kernel_rfl)]
  rw [hv 2 (by kernel_rfl)]
  rw [hv 3 (by kernel_rfl)]
  rw [show T.getD 4 undef = (.int .i64 1) from hv 4 (by kernel_rfl)]
  rw [hv 5 (by kernel_rfl)]
  rw [hv 6 (by kernel_rfl)]
  rw [hv 7 (by kernel_rfl)]
  rw [hv 8 (by kernel_rfl)]
  rw [hv 9 (by kernel_rfl)]
  rw [hv 10 (by kernel_rfl)]
  rw [hv 11 (by kernel_rfl)]
  rw [hv 12 (by kernel_rfl)]
  rw [hv 13 (by kernel_rfl)]
  rw [hv 14 (by kernel_rfl)]
  rw [hv 15 (by kernel_rfl)]
  rw [hv 16 (by kernel_rfl)]
  rw [hv 17 (by kernel_rfl)]
  rw [hv 18 (by kernel_rfl)]
  rw [hv 19 (by kernel_rfl)]
  rw [hv 20 (by kernel_rfl)]
  rw [hv 21 (by kernel_rfl)]
  rw [hv 22 (by kernel_rfl)]
  rw [hv 23 (by kernel_rfl)]
  rw [hv 24 (by kernel_rfl)]
  rw [hv 25 (by kernel_rfl)]
  rw [hv 26 (by kernel_rfl)]
  rw [hv 27 (by kernel_rfl)]
  rw [hv 28 (by kernel_rfl)]
  rw [hv 29 (by kernel_rfl)]
  rw [hv 30 (by kernel_rfl)]
  rw [hv 31 (by kernel_rfl)]
  rw [hv 32 (by kernel_rfl)]
  rw [hv 33 (by kernel_rfl)]
  rw [hv 34 (by kernel_rfl)]
  rw [hv 35 (by kernel_rfl)]
  rw [hv 36 (by kernel_rfl)]
  rw [hv 37 (by kernel_rfl)]
  rw [hv 38 (by kernel_rfl)]
  rw [hv 39 (by kernel_rfl)]
  rw [hv 40 (by kernel_rfl)]
  rw [hv 41 (by kernel_rfl)]
  rw [hv 42 (by kernel_rfl)]
  rw [hv 43 (by kernel_rfl)]
  rw [hv 44 (by kernel_rfl)]
  rw [hv 45 (by kernel_rfl)]
  rw [hv 46 (by kernel_rfl)]
  rw [hv 47 (by kernel_rfl)]
  rw [hv 48 (by kernel_rfl)]
  rw [hv 49 (by kernel_rfl)]
  rw [hv 50 (by kernel_rfl)]
  rw [hv 51 (by kernel_rfl)]
  rw [hv 52 (by kernel_rfl)]
  rw [hv 53 (by kernel_rfl)]
  rw [hv 54 (by kernel_rfl)]
  rw [hv 55 (by kernel_rfl)]
  rw [hv 56 (by kernel_rfl)]
  rw [hv 57 (by kernel_rfl)]
  rw [hv 58 (by kernel_rfl)]
  rw [hv 59 (by kernel_rfl)]
  rw [hv 60 (by kernel_rfl)]
  rw [hv 61 (by kernel_rfl)]
  rw [show T.getD 62 undef = (.pointer (some ⟨b, 0, none⟩)) from hf 0 (by decide)]
  rw [show T.getD 63 undef = (.pointer (some ⟨b, 0, none⟩)) from hf 1 (by decide)]
  rw [show T.getD 64 undef = (.pointer (some ⟨b, 0, none⟩)) from hf 2 (by decide)]
  rw [show T.getD 65 undef = (.pointer (some ⟨xb, xo, none⟩)) from hf 3 (by decide)]
  rw [show T.getD 66 undef = (.pointer (some ⟨xb, xo, none⟩)) from hf 4 (by decide)]
  rw [show T.getD 67 undef = (.pointer (some ⟨xb, xo, none⟩)) from hf 5 (by decide)]
  rw [show T.getD 68 undef = (.int .i64 5) from hf 6 (by decide)]
  rw [show T.getD 69 undef = (.string (strB T0)) from hf 7 (by decide)]
  rw [show T.getD 71 undef = (.tuple #[]) from hf 9 (by decide)]
  rw [hv 72 (by kernel_rfl)]
  rw [hv 73 (by kernel_rfl)]
  rw [hv 74 (by kernel_rfl)]
  rw [hv 75 (by kernel_rfl)]
  rw [hv 76 (by kernel_rfl)]
  rw [hv 77 (by kernel_rfl)]
  rw [hv 78 (by kernel_rfl)]
  rw [hv 79 (by kernel_rfl)]
  clear hf hs hv hcur
  simp only [getD_toArray, List.getD_cons_succ, List.getD_cons_zero]
  generalize T.getD 70 undef = y70
  clear T
  obtain ⟨v2, hm2, h2⟩ := hcur1
  have hb2 := hm2.below h1.out env1.out.size
  have env2 := hide (env1.out.low hb2)
  have c4 := hm2.upd.cell c4y.out hnF1.out
  rw [putT_put] at h2
  have hq2 := putT_eq t d g (P1 ++ T0)
  have hC2 := hide (hC1.out w B b d v2 _ true (hx1.out.low hb2) hwc.out h2 env2.out hd (by rw [hq2, padL_true, List.length_append, hsl]; omega))
  have hm3 := hide (hm1.out.trans hm2)
  clear hm2 h2 hu hb2
  go_wp2_with fail
  refine hC2.out.mono ?_
  rintro r w3 ⟨rfl, v3, hm4, h4⟩
  rw [putT_put] at h4
  replace hm4 := hide hm4
  replace h4 := hide h4
  go_wp2_with fail
  go_end0
  exact ⟨rfl, v3, hm3.out.trans hm4.out, h4.out⟩
set_option maxRecDepth 100000 in
set_option maxHeartbeats 1600000 in
theorem expr_bin6 (a c : Ex) (hA : OprP a) (hC : OprP c) : ExprP (.bin 6 a c) := by
  intro x wa B b d rv t g hx hw h henv hd hl
  have hBi := binds_any (.bin 6 a c) x wa _ hx
  rw [show bindE (.bin 6 a c) = 1 from rfl] at hBi
  obtain ⟨xb, xo, va, vc, rfl, ⟨hS, c0, -, -, c3, c4⟩, hxa, hxc⟩ := hx
  obtain ⟨-, -, hwa, hwc⟩ := hw
  obtain ⟨P1, hP1⟩ : ∃ P, P = parT (decide (bindE a < 1)) (exT a) := ⟨_, rfl⟩
  obtain ⟨P2, hP2⟩ : ∃ P, P = parT (decide (bindE c < 1 + 1)) (exT c) := ⟨_, rfl⟩
  have hX : exT (.bin 6 a c) = P1 ++ signT 6 ++ P2 := by rw [hP1, hP2, exT]; rfl
  have hsl := sign_len 6
  rw [hX] at hl ⊢
  rw [List.length_append, List.length_append, hsl] at hl
  have hpl := padL_le d g
  have hA1 := hA 1 va wa B b d rv t g hxa hwa h henv hd (by rw [← hP1]; omega)
  have hC1 := hC (1 + 1) vc
  rw [← hP1] at hA1
  rw [← hP2] at hC1
  have hop := operator_any 6 (by decide) (by decide)
  obtain ⟨T0, hT0⟩ : ∃ T, T = signT 6 := ⟨_, rfl⟩
  rw [← hT0] at hop hsl ⊢
  replace hA1 := hide hA1
  replace hC1 := hide hC1
  replace hBi := hide hBi
  replace hop := hide hop
  replace hwc := hide hwc
  replace hxc := hide hxc
  replace h := hide h
  replace henv := hide henv
  have hnF : Hid (¬ FB b rv xb) := hide fun e => Nat.lt_irrefl _ (Nat.lt_of_lt_of_le hS (h.out.ges _ e))
  have c0w := hide c0
  have c4w := hide c4
  clear hA hC hX hwa hxa hT0 hP1 hP2 c4
  go_enter Tryd.func31, Tryd.ntmps31
  go_wp2_with fail
  refine hBi.out.mono ?_
  rintro r w1 ⟨rfl, rfl⟩
  go_wp2_with fail
  refine hA1.out.mono ?_
  rintro r w1 ⟨rfl, v1, hm1, h1⟩
  have hb1 := hm1.below h.out henv.out.size
  have hq1 := putT_eq t d g P1
  have env1 := hide (henv.out.low hb1)
  have hnF1 : Hid (¬ FB b v1 xb) := hide fun e => Nat.lt_irrefl _ (Nat.lt_of_lt_of_le hS (h1.ges _ e))
  have c0y := hide (hm1.upd.cell c0w.out hnF.out)
  have c4y := hide (hm1.upd.cell c4w.out hnF.out)
  have hx1 := hide (hxc.out.low hb1)
  have hlt := hide h1.lts
  have hlz := hide env1.out.size
  have hput := hide (fun w v (hp : Prn w B b v1 (putT t d g P1) d true) (hz : B ≤ w.heap.size) (hr : RowF (FB b v1) [T0] v w) => put_row (xs := [T0]) (by simp) hp hz hd (by rw [hq1]; simp; omega) hr)
  rw [show ([T0] : List (List UInt8)).flatten = T0 by simp] at hput
  replace hm1 := hide hm1
  replace h1 := hide h1
  clear hb1
  go_wp2_with fail
  clear c0 c3
  refine wp_region_flow (FB b v1) (factAt [(fun v _ => v = (.pointer (some ⟨b, 0, none⟩))), (fun v _ => v = (.pointer (some ⟨b, 0, none⟩))), (fun v _ => v = (.pointer (some ⟨b, 0, none⟩))), (fun v _ => v = (.pointer (some ⟨xb, xo, none⟩))), (fun v _ => v = (.pointer (some ⟨xb, xo, none⟩))), (fun v _ => v = (.pointer (some ⟨xb, xo, none⟩))), (fun v _ => v = (.int .i64 6)), (fun v _ => v = (.string (strB T0))), (fun v w => RowF (FB b v1) [T0] v w), (fun v _ => v = (.tuple #[]))]) [none, none, none, none, none, none, none, none, none, some (fun _ w => PrO w1 B b v1 (putT (putT t d g P1) d true T0) d true w)] (fun w => PrM b v1 w1 v1 w ∧ Prn w B b v1 (putT t d g P1) d true) (by kernel_rfl) (fkept_at ⟨FKept.eq _, FKept.eq _, FKept.eq _, FKept.eq _, FKept.eq _, FKept.eq _, FKept.eq _, FKept.eq _, RowF.kept, FKept.eq _, trivial⟩) (fun _ _ h hb => ⟨h.1.quiet hb, h.2.below hb⟩) ⟨fun _ _ _ h hb => h.quiet hb, trivial⟩ (by kernel_rfl) (by kernel_rfl) (by kernel_rfl) (by kernel_rfl) (Nat.le_of_ble_eq_true (by kernel_rfl)) ?_ ⟨?_, ?_, ?_, ?_, ?_, ?_, ?_, ?_, ?_, ?_, trivial⟩ ?_
  · exact ⟨.refl _ _ _, h1.out⟩
  · intro T w Q hu hs hv hw hd
    have hx0 : T.getD 0 undef = (.pointer (some ⟨b, 0, none⟩)) := hv 0 (by kernel_rfl)
    refine .inl ⟨wanted_none rfl, ?_⟩
    clear hd hv hu hs hw
    go_simp
    exact ⟨_, rfl, DstOk.some rfl, Below.refl _ _, rfl⟩
  · intro T w Q hu hs hv hw hd
    have hx62 : T.getD 62 undef = (.pointer (some ⟨b, 0, none⟩)) := Deps.at 0 hd (by kernel_rfl)
    refine .inl ⟨wanted_none rfl, ?_⟩
    clear hd hv hu hs hw
    go_simp
    exact ⟨_, rfl, DstOk.some rfl, Below.refl _ _, rfl⟩
  · intro T w Q hu hs hv hw hd
    have hx63 : T.getD 63 undef = (.pointer (some ⟨b, 0, none⟩)) := Deps.at 1 hd (by kernel_rfl)
    refine .inl ⟨wanted_none rfl, ?_⟩
    clear hd hv hu hs hw
    go_simp
    exact ⟨_, rfl, DstOk.some rfl, Below.refl _ _, rfl⟩
  · intro T w Q hu hs hv hw hd
    have hx1 : T.getD 1 undef = (.pointer (some ⟨xb, xo, none⟩)) := hv 1 (by kernel_rfl)
    refine .inl ⟨wanted_none rfl, ?_⟩
    clear hd hv hu hs hw
    go_simp
    exact ⟨_, rfl, DstOk.some rfl, Below.refl _ _, rfl⟩
  · intro T w Q hu hs hv hw hd
    have hx65 : T.getD 65 undef = (.pointer (some ⟨xb, xo, none⟩)) := Deps.at 3 hd (by kernel_rfl)
    refine .inl ⟨wanted_none rfl, ?_⟩
    clear hd hv hu hs hw
    go_simp
    exact ⟨_, rfl, DstOk.some rfl, Below.refl _ _, rfl⟩
  · intro T w Q hu hs hv hw hd
    have hx66 : T.getD 66 undef = (.pointer (some ⟨xb, xo, none⟩)) := Deps.at 4 hd (by kernel_rfl)
    refine .inl ⟨wanted_none rfl, ?_⟩
    clear hd hv hu hs hw
    go_simp
    exact ⟨_, rfl, DstOk.some rfl, Below.refl _ _, rfl⟩
  · intro T w Q hu hs hv hw hd
    have hx67 : T.getD 67 undef = (.pointer (some ⟨xb, xo, none⟩)) := Deps.at 5 hd (by kernel_rfl)
    refine .inl ⟨wanted_none rfl, ?_⟩
    have hq := hu.cell c0y.out hnF1.out
    clear hd hv hu hs hw
    go_simp
    exact ⟨_, rfl, DstOk.some rfl, Below.refl _ _, rfl⟩
  · intro T w Q hu hs hv hw hd
    have hx68 : T.getD 68 undef = (.int .i64 6) := Deps.at 6 hd (by kernel_rfl)
    refine .inl ⟨wanted_none rfl, ?_⟩
    have hN := hop.out w
    clear hd hv hu hs hw
    go_simp
    refine hN.mono ?_
    rintro e w5 ⟨rfl, rfl⟩
    exact ⟨_, rfl, DstOk.some rfl, Below.refl _ _, rfl⟩
  · intro T w Q hu hs hv hw hd
    have hx69 : T.getD 69 undef = (.string (strB T0)) := Deps.at 7 hd (by kernel_rfl)
    have hy69 := hx69
    rw [Array.getD_eq_getD_getElem?] at hy69
    refine .inl ⟨wanted_none rfl, ?_⟩
    have hN := RowF.new (F := FB b v1) [T0] hlt.out hu.size
    replace hN := hide hN
    clear hd hv hu hs hw
    go_simp
    exact ⟨_, rfl, DstOk.some rfl, (Below.refl _ w).alloc (Nat.le_refl _) _, hN.out⟩
  · intro T w Q hu hs hv hw hd hc0
    have hc : (fun w => PrM b v1 w1 v1 w ∧ Prn w B b v1 (putT t d g P1) d true) w := hc0
    have hx64 : T.getD 64 undef = (.pointer (some ⟨b, 0, none⟩)) := Deps.at 2 hd (by kernel_rfl)
    have f70 : (fun (v : Value) (w : World) => RowF (FB b v1) [T0] v w) (T.getD 70 undef) w := Deps.at 8 hd (by kernel_rfl)
    generalize hx70 : T.getD 70 undef = x70 at f70 hc
    replace f70 := hide f70
    replace hc := hide hc
    refine .inl ⟨wanted_none rfl, ?_⟩
    have hN := hput.out w _ hc.out.2 (Nat.le_trans hlz.out hu.size) f70.out
    clear hd hv hu hs hw hc0
    replace hN := hide hN
    go_simp
    refine hN.out.mono ?_
    rintro e w5 ⟨rfl, v2, hm2, h2⟩
    exact ⟨_, rfl, DstOk.some rfl, hm2.upd, rfl, v2, hc.out.1.trans hm2, h2⟩
  intro T w hu hs hv hf hcur
  have hcur1 : (fun (w : World) => PrO w1 B b v1 (putT (putT t d g P1) d true T0) d true w) w := hcur
  replace hcur1 := hcur1
  have hT : T = #[T.getD 0 undef, T.getD 1 undef, T.getD 2 undef, T.getD 3 undef, T.getD 4 undef, T.getD 5 undef, T.getD 6 undef, T.getD 7 undef, T.getD 8 undef, T.getD 9 undef, T.getD 10 undef, T.getD 11 undef, T.getD 12 undef, T.getD 13 undef, T.getD 14 undef, T.getD 15 undef, T.getD 16 undef, T.getD 17 undef, T.getD 18 undef, T.getD 19 undef, T.getD 20 undef, T.getD 21 undef, T.getD 22 undef, T.getD 23 undef, T.getD 24 undef, T.getD 25 undef, T.getD 26 undef, T.getD 27 undef, T.getD 28 undef, T.getD 29 undef, T.getD 30 undef, T.getD 31 undef, T.getD 32 undef, T.getD 33 undef, T.getD 34 undef, T.getD 35 undef, T.getD 36 undef, T.getD 37 undef, T.getD 38 undef, T.getD 39 undef, T.getD 40 undef, T.getD 41 undef, T.getD 42 undef, T.getD 43 undef, T.getD 44 undef, T.getD 45 undef, T.getD 46 undef, T.getD 47 undef, T.getD 48 undef, T.getD 49 undef, T.getD 50 undef, T.getD 51 undef, T.getD 52 undef, T.getD 53 undef, T.getD 54 undef, T.getD 55 undef, T.getD 56 undef, T.getD 57 undef, T.getD 58 undef, T.getD 59 undef, T.getD 60 undef, T.getD 61 undef, T.getD 62 undef, T.getD 63 undef, T.getD 64 undef, T.getD 65 undef, T.getD 66 undef, T.getD 67 undef, T.getD 68 undef, T.getD 69 undef, T.getD 70 undef, T.getD 71 undef, T.getD 72 undef, T.getD 73 undef, T.getD 74 undef, T.getD 75 undef, T.getD 76 undef, T.getD 77 undef, T.getD 78 undef, T.getD 79 undef] := expl hs
  rw [hT]
  clear hT
  rw [show T.getD 0 undef = (.pointer (some ⟨b, 0, none⟩)) from hv 0 (by kernel_rfl)]
  rw [show T.getD 1 undef = (.pointer (some ⟨xb, xo, none⟩)) from hv 1 (by kernel_rfl)]
  rw [hv 2 (by kernel_rfl)]
  rw [hv 3 (by kernel_rfl)]
  rw [show T.getD 4 undef = (.int .i64 1) from hv 4 (by kernel_rfl)]
  rw [hv 5 (by kernel_rfl)]
  rw [hv 6 (by kernel_rfl)]
  rw [hv 7 (by kernel_rfl)]
  rw [hv 8 (by kernel_rfl)]
  rw [hv 9 (by kernel_rfl)]
  rw [hv 10 (by kernel_rfl)]
  rw [hv 11 (by kernel_rfl)]
  rw [hv 12 (by kernel_rfl)]
  rw [hv 13 (by kernel_rfl)]
  rw [hv 14 (by kernel_rfl)]
  rw [hv 15 (by kernel_rfl)]
  rw [hv 16 (by kernel_rfl)]
  rw [hv 17 (by kernel_rfl)]
  rw [hv 18 (by kernel_rfl)]
  rw [hv 19 (by kernel_rfl)]
  rw [hv 20 (by kernel_rfl)]
  rw [hv 21 (by kernel_rfl)]
  rw [hv 22 (by kernel_rfl)]
  rw [hv 23 (by kernel_rfl)]
  rw [hv 24 (by kernel_rfl)]
  rw [hv 25 (by kernel_rfl)]
  rw [hv 26 (by kernel_rfl)]
  rw [hv 27 (by kernel_rfl)]
  rw [hv 28 (by kernel_rfl)]
  rw [hv 29 (by kernel_rfl)]
  rw [hv 30 (by kernel_rfl)]
  rw [hv 31 (by kernel_rfl)]
  rw [hv 32 (by kernel_rfl)]
  rw [hv 33 (by kernel_rfl)]
  rw [hv 34 (by kernel_rfl)]
  rw [hv 35 (by kernel_rfl)]
  rw [hv 36 (by kernel_rfl)]
  rw [hv 37 (by kernel_rfl)]
  rw [hv 38 (by kernel_rfl)]
  rw [hv 39 (by kernel_rfl)]
  rw [hv 40 (by kernel_rfl)]
  rw [hv 41 (by kernel_rfl)]
  rw [hv 42 (by kernel_rfl)]
  rw [hv 43 (by kernel_rfl)]
  rw [hv 44 (by kernel_rfl)]
  rw [hv 45 (by kernel_rfl)]
  rw [hv 46 (by kernel_rfl)]
  rw [hv 47 (by kernel_rfl)]
  rw [hv 48 (by kernel_rfl)]
  rw [hv 49 (by kernel_rfl)]
  rw [hv 50 (by kernel_rfl)]
  rw [hv 51 (by kernel_rfl)]
  rw [hv 52 (by kernel_rfl)]
  rw [hv 53 (by kernel_rfl)]
  rw [hv 54 (by kernel_rfl)]
  rw [hv 55 (by kernel_rfl)]
  rw [hv 56 (by kernel_rfl)]
  rw [hv 57 (by kernel_rfl)]
  rw [hv 58 (by kernel_rfl)]
  rw [hv 59 (by kernel_rfl)]
  rw [hv 60 (by kernel_rfl)]
  rw [hv 61 (by kernel_rfl)]
  rw [show T.getD 62 undef = (.pointer (some ⟨b, 0, none⟩)) from hf 0 (by decide)]
  rw [show T.getD 63 undef = (.pointer (some ⟨b, 0, none⟩)) from hf 1 (by decide)]
  rw [show T.getD 64 undef = (.pointer (some ⟨b, 0, none⟩)) from hf 2 (by decide)]
  rw [show T.getD 65 undef = (.pointer (some ⟨xb, xo, none⟩)) from hf 3 (by decide)]
  rw [show T.getD 66 undef = (.pointer (some ⟨xb, xo, none⟩)) from hf 4 (by decide)]
  rw [show T.getD 67 undef = (.pointer (some ⟨xb, xo, none⟩)) from hf 5 (by decide)]
  rw [show T.getD 68 undef = (.int .i64 6) from hf 6 (by decide)]
  rw [show T.getD 69 undef = (.string (strB T0)) from hf 7 (by decide)]
  rw [show T.getD 71 undef = (.tuple #[]) from hf 9 (by decide)]
  rw [hv 72 (by kernel_rfl)]
  rw [hv 73 (by kernel_rfl)]
  rw [hv 74 (by kernel_rfl)]
  rw [hv 75 (by kernel_rfl)]
  rw [hv 76 (by kernel_rfl)]
  rw [hv 77 (by kernel_rfl)]
  rw [hv 78 (by kernel_rfl)]
  rw [hv 79 (by kernel_rfl)]
  clear hf hs hv hcur
  simp only [getD_toArray, List.getD_cons_succ, List.getD_cons_zero]
  generalize T.getD 70 undef = y70
  clear T
  obtain ⟨v2, hm2, h2⟩ := hcur1
  have hb2 := hm2.below h1.out env1.out.size
  have env2 := hide (env1.out.low hb2)
  have c4 := hm2.upd.cell c4y.out hnF1.out
  rw [putT_put] at h2
  have hq2 := putT_eq t d g (P1 ++ T0)
  have hC2 := hide (hC1.out w B b d v2 _ true (hx1.out.low hb2) hwc.out h2 env2.out hd (by rw [hq2, padL_true, List.length_append, hsl]; omega))
  have hm3 := hide (hm1.out.trans hm2)
  clear hm2 h2 hu hb2
  go_wp2_with fail
  refine hC2.out.mono ?_
  rintro r w3 ⟨rfl, v3, hm4, h4⟩
  rw [putT_put] at h4
  replace hm4 := hide hm4
  replace h4 := hide h4
  go_wp2_with fail
  go_end0
  exact ⟨rfl, v3, hm3.out.trans hm4.out, h4.out⟩
theorem expr_any : ∀ e : Ex, ExprP e
  | .num m => expr_num m
  | .var s => expr_var s
  | .neg a => expr_neg a (operand_of a (expr_any a))
  | .bin k a c => fun x wa B b d rv t g hx hw => by
    have hk : k = 2 ∨ k = 3 ∨ k = 4 ∨ k = 5 ∨ k = 6 := by
      have := hw.1
      have := hw.2.1
      omega
    have ha := operand_of a (expr_any a)
    have hc := operand_of c (expr_any c)
    rcases hk with rfl | rfl | rfl | rfl | rfl
    · exact expr_bin2 a c ha hc x wa B b d rv t g hx hw
    · exact expr_bin3 a c ha hc x wa B b d rv t g hx hw
    · exact expr_bin4 a c ha hc x wa B b d rv t g hx hw
    · exact expr_bin5 a c ha hc x wa B b d rv t g hx hw
    · exact expr_bin6 a c ha hc x wa B b d rv t g hx hw
end Go.Proofs.YtiiihpokpfhclaaDoor
