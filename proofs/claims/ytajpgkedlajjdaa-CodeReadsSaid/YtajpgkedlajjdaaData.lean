/- Summaries: as data, as cells, as bytes. -/
import Derived.Test.YtajpgkedlajjdaaRef
namespace Go.Proofs.Ytajpgkedlajjdaa
open Go.RowKit

structure AlarmD where
  pos : Int
  kind : Int
structure IvalD where
  some : Bool
  lo : Int
  hi : Int
structure NamedD where
  name : ByteArray
  v : IvalD
structure SumD where
  alarms : List AlarmD
  ends : Bool
  ret : IvalD
  mod : List NamedD
def Fits (n : Int) : Prop := -9223372036854775808 ≤ n ∧ n ≤ 9223372036854775807
def AlarmD.ok (a : AlarmD) : Prop := Fits a.pos ∧ Fits a.kind
def IvalD.ok (v : IvalD) : Prop := Fits v.lo ∧ Fits v.hi
/-- What is light: its sizes have bounds. -/
def SumD.ok (s : SumD) : Prop := (∀ a ∈ s.alarms, a.ok) ∧ s.ret.ok ∧ (∀ n ∈ s.mod, n.v.ok)
def SumD.light (s : SumD) : Prop := s.alarms.length ≤ 10 ∧ s.mod.length ≤ 10 ∧ ∀ n ∈ s.mod, n.name.size ≤ 50
def AlarmD.cells (a : AlarmD) : List Value := [.int .i64 a.pos, .int .i64 a.kind]
def IvalD.cells (v : IvalD) : List Value := [.bool v.some, .int .i64 v.lo, .int .i64 v.hi]
def NamedD.cells (n : NamedD) : List Value := .string n.name :: n.v.cells
def AlarmD.bytes (a : AlarmD) : List UInt8 := num (zig a.pos) ++ num (zig a.kind)
def IvalD.bytes (v : IvalD) : List UInt8 := bit v.some :: (if v.some then num (zig v.lo) ++ num (zig v.hi) else [])
def NamedD.bytes (n : NamedD) : List UInt8 := text n.name ++ n.v.bytes
def alarmsB (l : List AlarmD) : List UInt8 := (l.map AlarmD.bytes).flatten
def modB (l : List NamedD) : List UInt8 := (l.map NamedD.bytes).flatten
def SumD.bytes (s : SumD) : List UInt8 := num s.alarms.length ++ alarmsB s.alarms ++ [bit s.ends] ++ s.ret.bytes ++ num s.mod.length ++ modB s.mod

/-- A list of elements behind a slice: so many of them, of such cells. -/
def ArgN (w : World) (S : Nat → Prop) (v : Value) (n : Nat) (xs : List Value) : Prop :=
  ∃ A c, v = .slice A n c ∧ n ≤ c ∧ c ≤ maxLen ∧ (xs = [] ∨ ∃ b o, A = some ⟨b, o, none⟩ ∧ S b ∧ ∀ i u, xs[i]? = some u → w.cell? ⟨b, o + i, none⟩ = some u)
theorem ArgN.upd {w w' : World} {F S : Nat → Prop} {v : Value} {n : Nat} {xs : List Value} (h : ArgN w S v n xs) (hu : Upd F w w') (hS : ∀ k, S k → ¬ F k) : ArgN w' S v n xs := by
  obtain ⟨A, c, h1, h2, h3, h4⟩ := h
  refine ⟨A, c, h1, h2, h3, ?_⟩
  rcases h4 with rfl | ⟨b, o, rfl, hb, hc⟩
  · exact .inl rfl
  · exact .inr ⟨b, o, rfl, hb, fun i u hi => hu.cell (hc i u hi) (hS b hb)⟩
theorem ArgN.mono {w : World} {S S' : Nat → Prop} {v : Value} {n : Nat} {xs : List Value} (h : ArgN w S v n xs) (hS : ∀ k, k < w.heap.size → S k → S' k) : ArgN w S' v n xs := by
  obtain ⟨A, c, h1, h2, h3, h4⟩ := h
  refine ⟨A, c, h1, h2, h3, ?_⟩
  rcases h4 with rfl | ⟨b, o, rfl, hb, hc⟩
  · exact .inl rfl
  · cases xs with
    | nil => exact .inl rfl
    | cons x xs => exact .inr ⟨b, o, rfl, hS b (World.block_lt_of_cell? w _ (hc 0 x rfl)) hb, hc⟩
theorem ArgN.slice {w : World} {S : Nat → Prop} {v : Value} {n : Nat} {xs : List Value} (h : ArgN w S v n xs) : ∃ A c, v = .slice A n c ∧ n ≤ maxLen := by
  obtain ⟨A, c, h1, h2, h3, h4⟩ := h
  exact ⟨A, c, h1, Nat.le_trans h2 h3⟩
/-- The cells of one element. -/
theorem flat_get {α : Type} (f : α → List Value) (k : Nat) (hf : ∀ a, (f a).length = k) : ∀ (l : List α) (i : Nat) (h : i < l.length) (j : Nat), j < k → (l.map f).flatten[k * i + j]? = (f l[i])[j]?
  | a :: l, 0, _, j, hj => by
    rw [List.map_cons, List.flatten_cons, List.getElem?_append_left (by rw [hf]; omega)]
    simp
  | a :: l, i + 1, h, j, hj => by
    rw [List.map_cons, List.flatten_cons, List.getElem?_append_right (by rw [hf, Nat.mul_succ]; omega), hf, show k * (i + 1) + j - k = k * i + j by rw [Nat.mul_succ]; omega]
    exact flat_get f k hf l i (by simpa using h) j hj
theorem ArgN.get {α : Type} {w : World} {S : Nat → Prop} {A : Option Addr} {n c : Nat} {f : α → List Value} {k : Nat} (hf : ∀ a, (f a).length = k) (hk : 0 < k) {l : List α} (h : ArgN w S (.slice A n c) n (l.map f).flatten) {i : Nat} (hi : i < l.length) :
    ∃ b o, A = some ⟨b, o, none⟩ ∧ S b ∧ ∀ j u, j < k → (f l[i])[j]? = some u → w.cell? ⟨b, o + (k * i + j), none⟩ = some u := by
  obtain ⟨A', c', h1, h2, h3, h4⟩ := h
  injection h1 with e1 e2 e3
  subst e1
  rcases h4 with h0 | ⟨b, o, rfl, hb, hc⟩
  · have h5 := flat_get f k hf l i hi 0 hk
    rw [h0, List.getElem?_nil] at h5
    have := (List.getElem?_eq_none_iff.1 h5.symm)
    rw [hf] at this
    omega
  · exact ⟨b, o, rfl, hb, fun j u hj hu => hc _ u (by rw [flat_get f k hf l i hi j hj]; exact hu)⟩

theorem expl {T : Array Value} {n : Nat} (h : T.size = n) : T = ((List.range n).map fun i => T.getD i undef).toArray := by
  apply Array.ext
  · simp [h]
  · intro i h1 h2
    simp [Array.getD_eq_getD_getElem?, h1]
theorem getD_toArray (l : List Value) (i : Nat) (d : Value) : l.toArray.getD i d = l.getD i d := by
  rw [Array.getD_eq_getD_getElem?, List.getD_eq_getElem?_getD, List.getElem?_toArray]
/-- A row that a region of the frame goes on with. -/
def RowIn (w : World) (B : Nat) (F : Nat → Prop) (v : Value) (l : List UInt8) : Prop := RowB w B v l ∧ ∀ k, v.ownBlock = some k → F k
theorem RowIn.app {w : World} {B : Nat} {F : Nat → Prop} {v : Value} {l : List UInt8} (h : RowIn w B F v l) : AppIn w B (fun k => v.ownBlock = some k) v l := .inl ⟨h.1, fun _ h => h⟩
theorem rowIn_kept {B : Nat} {F : Nat → Prop} {l : List UInt8} : Kept (fun v w => RowIn w B F v l) := fun _ _ _ h hb => ⟨(Upd.of_below (fun _ => False) hb).own h.1 fun _ _ => id, h.2⟩
/-- The blocks that a region may turn: those of F0, and what was made since. -/
def FromOn (F0 : Nat → Prop) (n : Nat) (k : Nat) : Prop := F0 k ∨ n ≤ k
theorem RRow.into {w w' : World} {F0 : Nat → Prop} {B n : Nat} {v v' : Value} {l l' : List UInt8} (hr : RowIn w B (FromOn F0 n) v l) (h : RRow w (fun k => v.ownBlock = some k) w' B v' l') (hn : n ≤ w.heap.size) : Upd (FromOn F0 n) w w' ∧ RowIn w' B (FromOn F0 n) v' l' :=
  ⟨h.2.1.mono fun k _ hk => hr.2 k hk, h.1, fun k hk => by
    rcases h.2.2 k hk with h1 | h1
    · exact hr.2 k h1
    · right; omega⟩

set_option maxRecDepth 100000 in
theorem refIval_any (B : Nat) (F : Nat → Prop) (l : List UInt8) (v : Value) (x : IvalD) (w : World) (hx : x.ok) (hF : ∀ k, F k → k < w.heap.size) (hA : AppIn w B F v l) (hB : B ≤ w.heap.size) (hlen : l.length + 30 ≤ 70368744177664) :
    Calls Try.prog 59 #[v, .agg #[.bool x.some, .int .i64 x.lo, .int .i64 x.hi]] w fun e w' => ∃ v', e = .returned v' ∧ RRow w F w' B v' (l ++ x.bytes) := by
  obtain ⟨A, n0, c, rfl⟩ := hA.slice
  obtain ⟨sm, lo, hi⟩ := x
  obtain ⟨⟨xa, xb⟩, ⟨xc, xd⟩⟩ := hx
  have hl1 := hide (num_len10 (zig_lt xa xb))
  have hl2 := hide (num_len10 (zig_lt xc xd))
  replace hA := hide hA
  replace hB := hide hB
  replace hlen := hide hlen
  go_enter Try.func59, Try.ntmps59
  go_wp2_with fail
  refine (refBool_any B F l _ sm _ (hA.out.alloc _) (Nat.le_trans hB.out (by simp)) (by have := hlen.out; omega)).mono ?_
  rintro e w1 ⟨v1, rfl, h1⟩
  have hbox := h1.2.1.heap (heap_new w (.cells #[.bool sm, .int .i64 lo, .int .i64 hi] 32)) (fun hf => Nat.lt_irrefl _ (hF _ hf))
  have hc0 : w1.cell? ⟨w.heap.size, 0, none⟩ = some (.bool sm) := by rw [cell_at hbox]; rfl
  have hc1 : w1.cell? ⟨w.heap.size, 1, none⟩ = some (.int .i64 lo) := by rw [cell_at hbox]; rfl
  have hc2 : w1.cell? ⟨w.heap.size, 2, none⟩ = some (.int .i64 hi) := by rw [cell_at hbox]; rfl
  replace h1 := h1.of_below ((Below.refl _ _).alloc (Nat.le_refl _) _)
  obtain ⟨A1, n1, k1, rfl⟩ := h1.1.slice
  have hBg := hide hB.out
  generalize w.heap.size = g at *
  have hne : Value.ownBlock (.slice A1 n1 k1) ≠ some g := fun e => absurd (own_type h1.1 e hbox) (by decide)
  replace h1 := hide h1
  have hg1 := (Array.getElem?_eq_some_iff.1 hbox).1
  replace hbox := hide hbox
  cases sm
  · go_wp2_with fail
    go_ret
    exact ⟨_, rfl, h1.out⟩
  · go_wp2_with fail
    have hnf : ¬ FromOn (fun k => Value.ownBlock (.slice A1 n1 k1) = some k) w1.heap.size g := by
      rintro (h | h)
      · exact hne h
      · omega
    have hB1 : B ≤ w1.heap.size := Nat.le_trans hBg.out (Nat.le_of_lt hg1)
    replace hnf := hide hnf
    replace hB1 := hide hB1
    obtain ⟨L0, hL0⟩ : ∃ L, L = l ++ [bit true] := ⟨_, rfl⟩
    obtain ⟨L1, hL1⟩ : ∃ L, L = L0 ++ num (zig lo) := ⟨_, rfl⟩
    obtain ⟨L2, hL2⟩ : ∃ L, L = L1 ++ num (zig hi) := ⟨_, rfl⟩
    have hk0 : L0.length + 10 ≤ 70368744177664 := by have := hlen.out; rw [hL0, List.length_append, List.length_singleton]; omega
    have hk1 : L1.length + 10 ≤ 70368744177664 := by have := hlen.out; have := hl1.out; rw [hL1, hL0, List.length_append, List.length_append, List.length_singleton]; omega
    rw [← hL0] at h1
    replace hk0 := hide hk0
    replace hk1 := hide hk1
    replace hL0 := hide hL0
    replace hL1 := hide hL1
    replace hL2 := hide hL2
    refine wp_region_flow (FromOn (fun k => Value.ownBlock (.slice A1 n1 k1) = some k) w1.heap.size) (factAt [(fun v _ => v = (.slice A1 n1 k1)), (fun v _ => v = (.pointer (some ⟨g, 1, none⟩))), (fun v _ => v = (.int .i64 lo)), (fun _ _ => True), (fun v _ => v = (.pointer (some ⟨g, 2, none⟩))), (fun v _ => v = (.int .i64 hi)), (fun _ _ => True), (fun _ _ => True)]) [none, none, none, some (fun v w => RowIn w B (FromOn (fun k => Value.ownBlock (.slice A1 n1 k1) = some k) w1.heap.size) v (L1)), none, none, some (fun v w => RowIn w B (FromOn (fun k => Value.ownBlock (.slice A1 n1 k1) = some k) w1.heap.size) v (L2)), some (fun v w => RowIn w B (FromOn (fun k => Value.ownBlock (.slice A1 n1 k1) = some k) w1.heap.size) v (L2))] (fun w => RowIn w B (FromOn (fun k => Value.ownBlock (.slice A1 n1 k1) = some k) w1.heap.size) (.slice A1 n1 k1) L0) (by kernel_rfl) (fkept_at ⟨FKept.eq _, FKept.eq _, FKept.eq _, FKept.triv, FKept.eq _, FKept.eq _, FKept.triv, FKept.triv, trivial⟩) (fun w w' h hb => rowIn_kept _ w w' h hb) ⟨rowIn_kept, rowIn_kept, rowIn_kept, trivial⟩ (by kernel_rfl) (by kernel_rfl) (by kernel_rfl) (by kernel_rfl) (Nat.le_of_ble_eq_true (by kernel_rfl)) ?_ ⟨?_, ?_, ?_, ?_, ?_, ?_, ?_, ?_, trivial⟩ ?_
    · exact ⟨h1.out.1, fun _ h => .inl h⟩
    · intro T w Q hu hs hv hw hd
      have hx0 : T.getD 0 undef = (.slice A1 n1 k1) := hw 0 (by kernel_rfl)
      refine .inl ⟨wanted_none rfl, ?_⟩
      clear hd hv hu hs hw
      go_simp
      exact ⟨_, rfl, DstOk.some rfl, Below.refl _ _, rfl⟩
    · intro T w Q hu hs hv hw hd
      have hx3 : T.getD 3 undef = (.pointer (some ⟨g, 0, none⟩)) := hv 3 (by kernel_rfl)
      refine .inl ⟨wanted_none rfl, ?_⟩
      clear hd hv hu hs hw
      go_simp
      exact ⟨_, rfl, DstOk.some rfl, Below.refl _ _, rfl⟩
    · intro T w Q hu hs hv hw hd
      have hx12 : T.getD 12 undef = (.pointer (some ⟨g, 1, none⟩)) := Deps.at 1 hd (by kernel_rfl)
      refine .inl ⟨wanted_none rfl, ?_⟩
      have hcc := hu.cell hc1 hnf.out
      clear hd hv hu hs hw
      go_simp
      exact ⟨_, rfl, DstOk.some rfl, Below.refl _ _, rfl⟩
    · intro T w Q hu hs hv hw hd hc0
      have hc : (fun w => RowIn w B (FromOn (fun k => Value.ownBlock (.slice A1 n1 k1) = some k) w1.heap.size) (.slice A1 n1 k1) L0) w := hc0
      have hx11 : T.getD 11 undef = (.slice A1 n1 k1) := Deps.at 0 hd (by kernel_rfl)
      have hx13 : T.getD 13 undef = (.int .i64 lo) := Deps.at 2 hd (by kernel_rfl)
      replace hc := hide hc
      refine .inl ⟨wanted_none rfl, ?_⟩
      have hN := refInt_any B _ L0 _ lo w (RowIn.app hc.out) xa xb (Nat.le_trans hB1.out hu.size) hk0.out
      rw [← hL1.out] at hN
      replace hN := hide hN
      clear hd hv hs hw
      go_simp
      refine hN.out.mono ?_
      rintro e w2 ⟨v2, rfl, h2⟩
      have h3 := RRow.into hc.out h2 hu.size
      exact ⟨_, rfl, DstOk.some rfl, h3.1, trivial, h3.2⟩
    · intro T w Q hu hs hv hw hd
      have hx3 : T.getD 3 undef = (.pointer (some ⟨g, 0, none⟩)) := hv 3 (by kernel_rfl)
      refine .inl ⟨wanted_none rfl, ?_⟩
      clear hd hv hu hs hw
      go_simp
      exact ⟨_, rfl, DstOk.some rfl, Below.refl _ _, rfl⟩
    · intro T w Q hu hs hv hw hd
      have hx15 : T.getD 15 undef = (.pointer (some ⟨g, 2, none⟩)) := Deps.at 4 hd (by kernel_rfl)
      refine .inl ⟨wanted_none rfl, ?_⟩
      have hcc := hu.cell hc2 hnf.out
      clear hd hv hu hs hw
      go_simp
      exact ⟨_, rfl, DstOk.some rfl, Below.refl _ _, rfl⟩
    · intro T w Q hu hs hv hw hd hc0
      have hc : (fun (v : Value) (w : World) => RowIn w B (FromOn (fun k => Value.ownBlock (.slice A1 n1 k1) = some k) w1.heap.size) v (L1)) (T.getD 14 undef) w := hc0
      have f14 : (fun (v : Value) (w : World) => True) (T.getD 14 undef) w := Deps.at 3 hd (by kernel_rfl)
      generalize hx14 : T.getD 14 undef = x14 at f14 hc
      replace f14 := hide f14
      have hx16 : T.getD 16 undef = (.int .i64 hi) := Deps.at 5 hd (by kernel_rfl)
      replace hc := hide hc
      refine .inl ⟨wanted_none rfl, ?_⟩
      have hN := refInt_any B _ L1 _ hi w (RowIn.app hc.out) xc xd (Nat.le_trans hB1.out hu.size) hk1.out
      rw [← hL2.out] at hN
      replace hN := hide hN
      clear hd hv hs hw
      go_simp
      refine hN.out.mono ?_
      rintro e w2 ⟨v2, rfl, h2⟩
      have h3 := RRow.into hc.out h2 hu.size
      exact ⟨_, rfl, DstOk.some rfl, h3.1, trivial, h3.2⟩
    · intro T w Q hu hs hv hw hd hc0
      have hc : (fun (v : Value) (w : World) => RowIn w B (FromOn (fun k => Value.ownBlock (.slice A1 n1 k1) = some k) w1.heap.size) v (L2)) (T.getD 17 undef) w := hc0
      have f17 : (fun (v : Value) (w : World) => True) (T.getD 17 undef) w := Deps.at 6 hd (by kernel_rfl)
      generalize hx17 : T.getD 17 undef = x17 at f17 hc
      replace f17 := hide f17
      replace hc := hide hc
      refine .inl ⟨wanted_none rfl, ?_⟩
      clear hd hv hu hs hw hc0
      go_simp
      exact ⟨_, rfl, DstOk.some rfl, .refl _ _, trivial, hc.out⟩
    · intro T w hu hs hv hf hcur
      have hcur1 : (fun (v : Value) (w : World) => RowIn w B (FromOn (fun k => Value.ownBlock (.slice A1 n1 k1) = some k) w1.heap.size) v (L2)) (T.getD 0 undef) w := hcur
      replace hcur1 := hcur1
      have hT : T = #[T.getD 0 undef, T.getD 1 undef, T.getD 2 undef, T.getD 3 undef, T.getD 4 undef, T.getD 5 undef, T.getD 6 undef, T.getD 7 undef, T.getD 8 undef, T.getD 9 undef, T.getD 10 undef, T.getD 11 undef, T.getD 12 undef, T.getD 13 undef, T.getD 14 undef, T.getD 15 undef, T.getD 16 undef, T.getD 17 undef, T.getD 18 undef] := expl hs
      rw [hT]
      clear hT
      rw [show T.getD 1 undef = (.agg #[.bool true, .int .i64 lo, .int .i64 hi]) from hv 1 (by kernel_rfl)]
      rw [hv 2 (by kernel_rfl)]
      rw [show T.getD 3 undef = (.pointer (some ⟨g, 0, none⟩)) from hv 3 (by kernel_rfl)]
      rw [hv 4 (by kernel_rfl)]
      rw [hv 5 (by kernel_rfl)]
      rw [hv 6 (by kernel_rfl)]
      rw [hv 7 (by kernel_rfl)]
      rw [hv 8 (by kernel_rfl)]
      rw [hv 9 (by kernel_rfl)]
      rw [hv 10 (by kernel_rfl)]
      rw [show T.getD 11 undef = (.slice A1 n1 k1) from hf 0 (by decide)]
      rw [show T.getD 12 undef = (.pointer (some ⟨g, 1, none⟩)) from hf 1 (by decide)]
      rw [show T.getD 13 undef = (.int .i64 lo) from hf 2 (by decide)]
      rw [show T.getD 15 undef = (.pointer (some ⟨g, 2, none⟩)) from hf 4 (by decide)]
      rw [show T.getD 16 undef = (.int .i64 hi) from hf 5 (by decide)]
      rw [hv 18 (by kernel_rfl)]
      clear hf hs hv hcur
      simp only [getD_toArray, List.getD_cons_succ, List.getD_cons_zero]
      generalize T.getD 0 undef = y0 at hcur1 ⊢
      generalize T.getD 14 undef = y14
      generalize T.getD 17 undef = y17
      clear T
      obtain ⟨A3, n3, k3, rfl⟩ := hcur1.1.slice
      replace hcur1 := hide hcur1
      go_wp2_with fail
      go_ret
      refine ⟨_, rfl, ?_⟩
      have hb : IvalD.bytes ⟨true, lo, hi⟩ = [bit true] ++ (num (zig lo) ++ num (zig hi)) := rfl
      rw [hb, ← List.append_assoc, ← hL0.out, ← List.append_assoc, ← hL1.out, ← hL2.out]
      refine h1.out.trans ⟨hcur1.out.1, hu.mono fun k hk hf => ?_, hcur1.out.2⟩
      rcases hf with hf | hf
      · exact hf
      · omega
end Go.Proofs.Ytajpgkedlajjdaa
