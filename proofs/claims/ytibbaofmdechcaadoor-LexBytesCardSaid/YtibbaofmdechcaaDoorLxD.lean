/- The reader of package lex: end, which keeps a token, or tells its fault. -/
import Derived.Test.YtibbaofmdechcaaDoorLxC
import Derived.Test.YtibbaofmdechcaaDoorTide
namespace Go.Proofs.YtibbaofmdechcaaDoor
open Go Go.RowKit

theorem expl {T : Array Value} {n : Nat} (h : T.size = n) : T = ((List.range n).map fun i => T.getD i undef).toArray := by
  apply Array.ext
  · simp [h]
  · intro i h1 h2
    simp [Array.getD_eq_getD_getElem?, h1]
theorem getD_toArray (l : List Value) (i : Nat) (d : Value) : l.toArray.getD i d = l.getD i d := by
  rw [Array.getD_eq_getD_getElem?, List.getD_eq_getElem?_getD, List.getElem?_toArray]
theorem three_cells {w : World} {g : Nat} {V V2 V3 : Value} (h : w.cell? ⟨g, 0, none⟩ = some V) (h2 : w.cell? ⟨g, 1, none⟩ = some V2) (h3 : w.cell? ⟨g, 2, none⟩ = some V3) : ∀ j u, [V, V2, V3][j]? = some u → w.cell? ((⟨g, 0, none⟩ : Addr).add j) = some u := by
  intro j u hj
  match j, hj with
  | 0, hj =>
    have : V = u := by simpa using hj
    subst this
    exact h
  | 1, hj =>
    have : V2 = u := by simpa using hj
    subst this
    exact h2
  | 2, hj =>
    have : V3 = u := by simpa using hj
    subst this
    exact h3
theorem own_slice {w : World} {b size n : Nat} {e : TypeId} {v : Value} {xs : List Value} (h : w.ownsRow b e size v n xs) : ∃ A c, v = .slice A n c := by
  rcases h.2 with ⟨rfl, rfl⟩ | ⟨g, cap, cur, rfl, _⟩
  · exact ⟨_, _, rfl⟩
  · exact ⟨_, _, rfl⟩
theorem heapB {w w' : World} {p : Nat} {o : Obj} (h : w.heap[p]? = some o) (hb : Below w.heap.size w w') : w'.heap[p]? = some o := (Upd.of_below (fun _ => False) hb).heap h id
theorem tok_info : (Tryd.prog.info? 34).map (fun i => (i.zero, i.size, i.bytes)) = some (some (.agg #[.int .i64 0, .string .empty, .int .i64 0]), 3, 32) := by kernel_rfl

section
variable {p B : Nat} {T : List UInt8} {ts : List Tok} {k f : Nat} {rv : Value} {x : List UInt8} {w w' : World}
/-- The reader ahead of an append. -/
structure PreF (p B : Nat) (T : List UInt8) (ts : List Tok) (k f : Nat) (rv : Value) (w : World) : Prop where
  heap : w.heap[p]? = some (.cells #[.string (strB T), rv, .int .i64 k, .int .i64 f] 44 (0, 0))
  row : ToksR w B rv ts
  base : B ≤ p
theorem PreF.kept : ∀ w w', PreF p B T ts k f rv w → Below w.heap.size w w' → PreF p B T ts k f rv w' := fun _ _ h hb => ⟨heapB h.heap hb, (Upd.of_below (fun _ => False) hb).own h.row fun _ _ => id, h.base⟩
/-- A new row of one token. -/
def NewF (F : Nat → Prop) (t : Tok) (v : Value) (w : World) : Prop := ∃ g, v = .slice (some ⟨g, 0, none⟩) 1 1 ∧ ¬ F g ∧ w.cell? ⟨g, 0, none⟩ = some (.int .i64 t.kind) ∧ w.cell? ⟨g, 1, none⟩ = some (.string (strB t.text)) ∧ w.cell? ⟨g, 2, none⟩ = some (.int .i64 t.at_)
theorem NewF.kept {F : Nat → Prop} {t : Tok} : FKept F (NewF F t) := fun _ _ _ ⟨g, h1, h2, h3, h4, h5⟩ hu => ⟨g, h1, h2, hu.cell h3 h2, hu.cell h4 h2, hu.cell h5 h2⟩
theorem NewF.of {F : Nat → Prop} {g : Nat} (h1 : ¬ F g) (h2 : w.cell? ⟨g, 0, none⟩ = some (.int .i64 k)) (h3 : w.cell? ⟨g, 1, none⟩ = some (.string (strB x))) (h4 : w.cell? ⟨g, 2, none⟩ = some (.int .i64 f)) : NewF F ⟨k, x, f⟩ (.slice (some ⟨g, 0, none⟩) 1 1) w := ⟨g, rfl, h1, h2, h3, h4⟩
def SlF (v : Value) : Prop := ∃ A n c, v = .slice A n c
/-- The row has grown, the reader holds the old one still. -/
structure GrewF (p B : Nat) (T : List UInt8) (ts : List Tok) (k f : Nat) (rv : Value) (x : List UInt8) (v : Value) (w : World) : Prop where
  heap : w.heap[p]? = some (.cells #[.string (strB T), rv, .int .i64 k, .int .i64 f] 44 (0, 0))
  row : ToksR w B v (ts ++ [⟨k, x, f⟩])
  base : B ≤ p
theorem GrewF.kept : Kept (GrewF p B T ts k f rv x) := fun _ _ _ h hb => ⟨heapB h.heap hb, (Upd.of_below (fun _ => False) hb).own h.row fun _ _ => id, h.base⟩
theorem PreF.not_own (h : PreF p B T ts k f rv w) : rv.ownBlock ≠ some p := fun e => absurd (own_type h.row e h.heap) (by decide)
theorem PreF.grow (h : PreF p B T ts k f rv w) (hg : w.grownBy w' rv.ownBlock) {v : Value} (he : w'.ownsRow B 34 3 v (ts.length + 1) ((ts.map Tok.cells).flatten ++ Tok.cells ⟨k, x, f⟩)) : GrewF p B T ts k f rv x v w' := by
  refine ⟨(Upd.grown (F := fun b => rv.ownBlock = some b) hg fun k hk => hk).heap h.heap h.not_own, ?_, h.base⟩
  unfold ToksR
  rw [List.length_append, List.map_append, List.flatten_append]
  simpa using he
theorem GrewF.store {v : Value} (h : GrewF p B T ts k f rv x v w) : RdrV (w.setCell ⟨p, 1, none⟩ v) p B T (ts ++ [⟨k, x, f⟩]) k f := by
  refine ⟨⟨v, heap_set h.heap 1 v, ?_⟩, h.base⟩
  exact (Upd.set (F := (· = p)) w (a := ⟨p, 1, none⟩) rfl v).own h.row fun b hb (e : b = p) => absurd (own_type h.row (e ▸ hb) h.heap) (by decide)
end
/-- What end comes to. -/
def EndF (p B : Nat) (T : List UInt8) (ts : List Tok) (k fr : Nat) (W : World) (r : Res) (e : Ending) (w : World) : Prop :=
  Below B W w ∧ match r with
    | .ok ts' => e = .returned (.int .i64 0) ∧ RdrV w p B T ts' k fr
    | .error (a, n) => a = fr ∧ n ≠ 0 ∧ e = .returned (.int .i64 n) ∧ RdrV w p B T ts k fr

theorem fin_ok {k f : Nat} {wd : List UInt8} {ts : List Tok} {c : UInt8} (h : fault k wd c = 0) : (St.word k f wd).fin ts c = .ok (ts ++ [⟨k, wd, f⟩]) := by
  show (if fault k wd c = 0 then _ else _) = _
  rw [if_pos h]
theorem fin_err {k f n : Nat} {wd : List UInt8} {ts : List Tok} {c : UInt8} (h : fault k wd c = n) (hn : n ≠ 0) : (St.word k f wd).fin ts c = .error (f, n) := by
  show (if fault k wd c = 0 then _ else _) = _
  rw [if_neg (by rw [h]; exact hn), h]
set_option maxRecDepth 100000 in
set_option maxHeartbeats 1600000 in
theorem end_word (p B : Nat) (tx : List UInt8) (ts : List Tok) (k f i : Nat) (c : UInt8) (wd : List UInt8) (rv : Value) (W : World) (hP : PreF p B tx ts k f rv W) (hi : tx[i]? = some c) (h1 : f < i) (h2 : i ≤ tx.length) (hwd : wd = (tx.drop f).take (i - f)) (hk : k ≤ 2) (h3 : k = 1 → ∀ c ∈ wd, digitB c.toNat = true)
    (hT : tx.length ≤ 1000000) (htl : ts.length ≤ 1000000) (hE : ErrR W) :
    Calls Tryd.prog 15 #[.pointer (some ⟨p, 0, none⟩), .int .i64 i] W fun e w' => EndF p B tx ts k f W ((St.word k f wd).fin ts c) e w' := by
  have hlw : wd.length = i - f := by rw [hwd, List.length_take, List.length_drop]; omega
  have hwn : wd ≠ [] := by
    intro h
    rw [h] at hlw
    simp at hlw; omega
  have hwl : wd.length ≤ 1000000 := by omega
  generalize hn : fault k wd c = n
  have hfa := hide (fun w (hu : Upd (fun _ => False) W w) => faultOf_any k hk wd c hwn h3 hwl w (hE.below (hu.below (Nat.le_refl _) fun _ h => h.elim)))
  rw [hn] at hfa
  have hcut := hide (fun w => hwd ▸ str_cut (l := tx) (i := f) (j := i) (by omega) h2 w : ∀ w, (Instr.slice 9 (.string (strB tx)) (some (.int .i64 f)) (some (.int .i64 i)) none).run Tryd.prog w = .ok (.string (strB wd)) w)
  have hx := hide (fun w => str_at hi w)
  have hh := hide hP.heap
  have c0 := hide (cell_at hP.heap 0)
  have c2 := hide (cell_at hP.heap 2)
  have c3 := hide (cell_at hP.heap 3)
  have c2' : W.cell? ⟨p, 2, none⟩ = some (.int .i64 k) := c2.out
  have k3 : ((k : Int) == 3) = false := by rw [beq_eq_false_iff_ne]; omega
  have k4 : ((k : Int) == 4) = false := by rw [beq_eq_false_iff_ne]; omega
  replace hP := hide hP
  replace hn := hide hn
  replace htl := hide htl
  replace hwd := hide hwd
  replace h3 := hide h3
  generalize hQ : (fun e w' => EndF p B tx ts k f W ((St.word k f wd).fin ts c) e w') = Q
  replace hQ := hide hQ
  go_enter Tryd.func15, Tryd.ntmps15
  go_wp2_with fail
  refine wp_region_flow (fun _ => False) (factAt [(fun v _ => v = (.pointer (some ⟨p, 0, none⟩))), (fun v _ => v = (.pointer (some ⟨p, 0, none⟩))), (fun v _ => v = (.pointer (some ⟨p, 0, none⟩))), (fun v _ => v = (.string (strB tx))), (fun v _ => v = (.pointer (some ⟨p, 0, none⟩))), (fun v _ => v = (.pointer (some ⟨p, 0, none⟩))), (fun v _ => v = (.pointer (some ⟨p, 3, none⟩))), (fun v _ => v = (.int .i64 f)), (fun v _ => v = (.int .i64 i)), (fun v _ => v = (.string (strB wd))), (fun v _ => v = (.string (strB wd)))]) [] (fun _ => True) (by kernel_rfl) (fkept_at ⟨FKept.eq _, FKept.eq _, FKept.eq _, FKept.eq _, FKept.eq _, FKept.eq _, FKept.eq _, FKept.eq _, FKept.eq _, FKept.eq _, FKept.eq _, trivial⟩) (fun _ _ h _ => h) trivial (by kernel_rfl) (by kernel_rfl) (by kernel_rfl) (by kernel_rfl) (Nat.le_of_ble_eq_true (by kernel_rfl)) ?_ ⟨?_, ?_, ?_, ?_, ?_, ?_, ?_, ?_, ?_, ?_, ?_, trivial⟩ ?_
  · first | exact trivial | assumption
  · intro T w Q hu hs hv hw hd
    have hx0 : T.getD 0 undef = (.pointer (some ⟨p, 0, none⟩)) := hv 0 (by kernel_rfl)
    refine .inl ⟨wanted_none rfl, ?_⟩
    clear hd hv hu hs hw
    go_simp
    exact ⟨_, rfl, DstOk.some rfl, Below.refl _ _, rfl⟩
  · intro T w Q hu hs hv hw hd
    have hx19 : T.getD 19 undef = (.pointer (some ⟨p, 0, none⟩)) := Deps.at 0 hd (by kernel_rfl)
    refine .inl ⟨wanted_none rfl, ?_⟩
    clear hd hv hu hs hw
    go_simp
    exact ⟨_, rfl, DstOk.some rfl, Below.refl _ _, rfl⟩
  · intro T w Q hu hs hv hw hd
    have hx20 : T.getD 20 undef = (.pointer (some ⟨p, 0, none⟩)) := Deps.at 1 hd (by kernel_rfl)
    refine .inl ⟨wanted_none rfl, ?_⟩
    clear hd hv hu hs hw
    go_simp
    exact ⟨_, rfl, DstOk.some rfl, Below.refl _ _, rfl⟩
  · intro T w Q hu hs hv hw hd
    have hx21 : T.getD 21 undef = (.pointer (some ⟨p, 0, none⟩)) := Deps.at 2 hd (by kernel_rfl)
    refine .inl ⟨wanted_none rfl, ?_⟩
    have hq := hu.cell c0.out id
    clear hd hv hu hs hw
    go_simp
    exact ⟨_, rfl, DstOk.some rfl, Below.refl _ _, rfl⟩
  · intro T w Q hu hs hv hw hd
    have hx0 : T.getD 0 undef = (.pointer (some ⟨p, 0, none⟩)) := hv 0 (by kernel_rfl)
    refine .inl ⟨wanted_none rfl, ?_⟩
    clear hd hv hu hs hw
    go_simp
    exact ⟨_, rfl, DstOk.some rfl, Below.refl _ _, rfl⟩
  · intro T w Q hu hs hv hw hd
    have hx23 : T.getD 23 undef = (.pointer (some ⟨p, 0, none⟩)) := Deps.at 4 hd (by kernel_rfl)
    refine .inl ⟨wanted_none rfl, ?_⟩
    clear hd hv hu hs hw
    go_simp
    exact ⟨_, rfl, DstOk.some rfl, Below.refl _ _, rfl⟩
  · intro T w Q hu hs hv hw hd
    have hx24 : T.getD 24 undef = (.pointer (some ⟨p, 0, none⟩)) := Deps.at 5 hd (by kernel_rfl)
    refine .inl ⟨wanted_none rfl, ?_⟩
    clear hd hv hu hs hw
    go_simp
    exact ⟨_, rfl, DstOk.some rfl, Below.refl _ _, rfl⟩
  · intro T w Q hu hs hv hw hd
    have hx25 : T.getD 25 undef = (.pointer (some ⟨p, 3, none⟩)) := Deps.at 6 hd (by kernel_rfl)
    refine .inl ⟨wanted_none rfl, ?_⟩
    have hq := hu.cell c3.out id
    clear hd hv hu hs hw
    go_simp
    exact ⟨_, rfl, DstOk.some rfl, Below.refl _ _, rfl⟩
  · intro T w Q hu hs hv hw hd
    have hx1 : T.getD 1 undef = (.int .i64 i) := hv 1 (by kernel_rfl)
    refine .inl ⟨wanted_none rfl, ?_⟩
    clear hd hv hu hs hw
    go_simp
    exact ⟨_, rfl, DstOk.some rfl, Below.refl _ _, rfl⟩
  · intro T w Q hu hs hv hw hd
    have hx22 : T.getD 22 undef = (.string (strB tx)) := Deps.at 3 hd (by kernel_rfl)
    have hx26 : T.getD 26 undef = (.int .i64 f) := Deps.at 7 hd (by kernel_rfl)
    have hx27 : T.getD 27 undef = (.int .i64 i) := Deps.at 8 hd (by kernel_rfl)
    refine .inl ⟨wanted_none rfl, ?_⟩
    have hC := hcut.out w
    clear hd hv hu hs hw
    go_simp
    exact ⟨_, rfl, DstOk.some rfl, Below.refl _ _, rfl⟩
  · intro T w Q hu hs hv hw hd
    have hx28 : T.getD 28 undef = (.string (strB wd)) := Deps.at 9 hd (by kernel_rfl)
    refine .inl ⟨wanted_none rfl, ?_⟩
    clear hd hv hu hs hw
    go_simp
    exact ⟨_, rfl, DstOk.some rfl, Below.refl _ _, rfl⟩
  intro T w hu hs hv hf hcur
  have hT : T = #[T.getD 0 undef, T.getD 1 undef, T.getD 2 undef, T.getD 3 undef, T.getD 4 undef, T.getD 5 undef, T.getD 6 undef, T.getD 7 undef, T.getD 8 undef, T.getD 9 undef, T.getD 10 undef, T.getD 11 undef, T.getD 12 undef, T.getD 13 undef, T.getD 14 undef, T.getD 15 undef, T.getD 16 undef, T.getD 17 undef, T.getD 18 undef, T.getD 19 undef, T.getD 20 undef, T.getD 21 undef, T.getD 22 undef, T.getD 23 undef, T.getD 24 undef, T.getD 25 undef, T.getD 26 undef, T.getD 27 undef, T.getD 28 undef, T.getD 29 undef, T.getD 30 undef, T.getD 31 undef, T.getD 32 undef, T.getD 33 undef, T.getD 34 undef, T.getD 35 undef, T.getD 36 undef, T.getD 37 undef, T.getD 38 undef, T.getD 39 undef, T.getD 40 undef, T.getD 41 undef, T.getD 42 undef, T.getD 43 undef, T.getD 44 undef, T.getD 45 undef, T.getD 46 undef, T.getD 47 undef, T.getD 48 undef, T.getD 49 undef, T.getD 50 undef, T.getD 51 undef, T.getD 52 undef, T.getD 53 undef, T.getD 54 undef, T.getD 55 undef, T.getD 56 undef, T.getD 57 undef, T.getD 58 undef, T.getD 59 undef, T.getD 60 undef, T.getD 61 undef, T.getD 62 undef] := expl hs
  rw [hT]
  clear hT
  rw [show T.getD 0 undef = (.pointer (some ⟨p, 0, none⟩)) from hv 0 (by kernel_rfl)]
  rw [show T.getD 1 undef = (.int .i64 i) from hv 1 (by kernel_rfl)]
  rw [show T.getD 2 undef = undef from hv 2 (by kernel_rfl)]
  rw [show T.getD 3 undef = undef from hv 3 (by kernel_rfl)]
  rw [show T.getD 4 undef = (.int .i64 0) from hv 4 (by kernel_rfl)]
  rw [show T.getD 5 undef = (.string (strB wd)) from hf 10 (by decide)]
  rw [hv 6 (by kernel_rfl)]
  rw [hv 7 (by kernel_rfl)]
  rw [hv 8 (by kernel_rfl)]
  rw [hv 9 (by kernel_rfl)]
  rw [hv 10 (by kernel_rfl)]
  rw [hv 11 (by kernel_rfl)]
  rw [hv 12 (by kernel_rfl)]
  rw [hv 13 (by kernel_rfl)]
  rw [hv 14 (by kernel_rfl)]
  rw [hv 15 (by kernel_rfl)]
  rw [hv 16 (by kernel_rfl)]
  rw [hv 17 (by kernel_rfl)]
  rw [hv 18 (by kernel_rfl)]
  rw [show T.getD 19 undef = (.pointer (some ⟨p, 0, none⟩)) from hf 0 (by decide)]
  rw [show T.getD 20 undef = (.pointer (some ⟨p, 0, none⟩)) from hf 1 (by decide)]
  rw [show T.getD 21 undef = (.pointer (some ⟨p, 0, none⟩)) from hf 2 (by decide)]
  rw [show T.getD 22 undef = (.string (strB tx)) from hf 3 (by decide)]
  rw [show T.getD 23 undef = (.pointer (some ⟨p, 0, none⟩)) from hf 4 (by decide)]
  rw [show T.getD 24 undef = (.pointer (some ⟨p, 0, none⟩)) from hf 5 (by decide)]
  rw [show T.getD 25 undef = (.pointer (some ⟨p, 3, none⟩)) from hf 6 (by decide)]
  rw [show T.getD 26 undef = (.int .i64 f) from hf 7 (by decide)]
  rw [show T.getD 27 undef = (.int .i64 i) from hf 8 (by decide)]
  rw [show T.getD 28 undef = (.string (strB wd)) from hf 9 (by decide)]
  rw [hv 29 (by kernel_rfl)]
  rw [hv 30 (by kernel_rfl)]
  rw [hv 31 (by kernel_rfl)]
  rw [hv 32 (by kernel_rfl)]
  rw [hv 33 (by kernel_rfl)]
  rw [hv 34 (by kernel_rfl)]
  rw [hv 35 (by kernel_rfl)]
  rw [hv 36 (by kernel_rfl)]
  rw [hv 37 (by kernel_rfl)]
  rw [hv 38 (by kernel_rfl)]
  rw [hv 39 (by kernel_rfl)]
  rw [hv 40 (by kernel_rfl)]
  rw [hv 41 (by kernel_rfl)]
  rw [hv 42 (by kernel_rfl)]
  rw [hv 43 (by kernel_rfl)]
  rw [hv 44 (by kernel_rfl)]
  rw [hv 45 (by kernel_rfl)]
  rw [hv 46 (by kernel_rfl)]
  rw [hv 47 (by kernel_rfl)]
  rw [hv 48 (by kernel_rfl)]
  rw [hv 49 (by kernel_rfl)]
  rw [hv 50 (by kernel_rfl)]
  rw [hv 51 (by kernel_rfl)]
  rw [hv 52 (by kernel_rfl)]
  rw [hv 53 (by kernel_rfl)]
  rw [hv 54 (by kernel_rfl)]
  rw [hv 55 (by kernel_rfl)]
  rw [hv 56 (by kernel_rfl)]
  rw [hv 57 (by kernel_rfl)]
  rw [hv 58 (by kernel_rfl)]
  rw [hv 59 (by kernel_rfl)]
  rw [hv 60 (by kernel_rfl)]
  rw [hv 61 (by kernel_rfl)]
  rw [hv 62 (by kernel_rfl)]
  clear hf hs hv hcur
  simp only [getD_toArray, List.getD_cons_succ, List.getD_cons_zero]
  clear T
  obtain ⟨w1, rfl⟩ : ∃ y, y = w := ⟨w, rfl⟩
  have hu1 := hide hu
  clear hu
  have c0a := hide (hu1.out.cell c0.out id)
  have c2a := hide (hu1.out.cell c2.out id)
  go_wp2_with fail
  refine wp_region_flow (fun _ => False) (factAt [(fun v _ => v = (.pointer (some ⟨p, 0, none⟩))), (fun v _ => v = (.pointer (some ⟨p, 0, none⟩))), (fun v _ => v = (.pointer (some ⟨p, 2, none⟩))), (fun v _ => v = (.int .i64 k)), (fun v _ => v = (.string (strB wd))), (fun v _ => v = (.pointer (some ⟨p, 0, none⟩))), (fun v _ => v = (.pointer (some ⟨p, 0, none⟩))), (fun v _ => v = (.pointer (some ⟨p, 0, none⟩))), (fun v _ => v = (.string (strB tx))), (fun v _ => v = (.int .i64 i)), (fun v _ => v = (.int .u8 c.toNat)), (fun v _ => v = (.int .i64 n)), (fun v _ => v = (.int .i64 n))]) [] (fun _ => True) (by kernel_rfl) (fkept_at ⟨FKept.eq _, FKept.eq _, FKept.eq _, FKept.eq _, FKept.eq _, FKept.eq _, FKept.eq _, FKept.eq _, FKept.eq _, FKept.eq _, FKept.eq _, FKept.eq _, FKept.eq _, trivial⟩) (fun _ _ h _ => h) trivial (by kernel_rfl) (by kernel_rfl) (by kernel_rfl) (by kernel_rfl) (Nat.le_of_ble_eq_true (by kernel_rfl)) ?_ ⟨?_, ?_, ?_, ?_, ?_, ?_, ?_, ?_, ?_, ?_, ?_, ?_, ?_, trivial⟩ ?_
  · first | exact trivial | assumption
  · intro T w Q hu hs hv hw hd
    have hx0 : T.getD 0 undef = (.pointer (some ⟨p, 0, none⟩)) := hv 0 (by kernel_rfl)
    refine .inl ⟨wanted_none rfl, ?_⟩
    clear hd hv hu hs hw
    go_simp
    exact ⟨_, rfl, DstOk.some rfl, Below.refl _ _, rfl⟩
  · intro T w Q hu hs hv hw hd
    have hx29 : T.getD 29 undef = (.pointer (some ⟨p, 0, none⟩)) := Deps.at 0 hd (by kernel_rfl)
    refine .inl ⟨wanted_none rfl, ?_⟩
    clear hd hv hu hs hw
    go_simp
    exact ⟨_, rfl, DstOk.some rfl, Below.refl _ _, rfl⟩
  · intro T w Q hu hs hv hw hd
    have hx30 : T.getD 30 undef = (.pointer (some ⟨p, 0, none⟩)) := Deps.at 1 hd (by kernel_rfl)
    refine .inl ⟨wanted_none rfl, ?_⟩
    clear hd hv hu hs hw
    go_simp
    exact ⟨_, rfl, DstOk.some rfl, Below.refl _ _, rfl⟩
  · intro T w Q hu hs hv hw hd
    have hx31 : T.getD 31 undef = (.pointer (some ⟨p, 2, none⟩)) := Deps.at 2 hd (by kernel_rfl)
    refine .inl ⟨wanted_none rfl, ?_⟩
    have hq := hu.cell c2a.out id
    clear hd hv hu hs hw
    go_simp
    exact ⟨_, rfl, DstOk.some rfl, Below.refl _ _, rfl⟩
  · intro T w Q hu hs hv hw hd
    have hx5 : T.getD 5 undef = (.string (strB wd)) := hv 5 (by kernel_rfl)
    refine .inl ⟨wanted_none rfl, ?_⟩
    clear hd hv hu hs hw
    go_simp
    exact ⟨_, rfl, DstOk.some rfl, Below.refl _ _, rfl⟩
  · intro T w Q hu hs hv hw hd
    have hx0 : T.getD 0 undef = (.pointer (some ⟨p, 0, none⟩)) := hv 0 (by kernel_rfl)
    refine .inl ⟨wanted_none rfl, ?_⟩
    clear hd hv hu hs hw
    go_simp
    exact ⟨_, rfl, DstOk.some rfl, Below.refl _ _, rfl⟩
  · intro T w Q hu hs hv hw hd
    have hx34 : T.getD 34 undef = (.pointer (some ⟨p, 0, none⟩)) := Deps.at 5 hd (by kernel_rfl)
    refine .inl ⟨wanted_none rfl, ?_⟩
    clear hd hv hu hs hw
    go_simp
    exact ⟨_, rfl, DstOk.some rfl, Below.refl _ _, rfl⟩
  · intro T w Q hu hs hv hw hd
    have hx35 : T.getD 35 undef = (.pointer (some ⟨p, 0, none⟩)) := Deps.at 6 hd (by kernel_rfl)
    refine .inl ⟨wanted_none rfl, ?_⟩
    clear hd hv hu hs hw
    go_simp
    exact ⟨_, rfl, DstOk.some rfl, Below.refl _ _, rfl⟩
  · intro T w Q hu hs hv hw hd
    have hx36 : T.getD 36 undef = (.pointer (some ⟨p, 0, none⟩)) := Deps.at 7 hd (by kernel_rfl)
    refine .inl ⟨wanted_none rfl, ?_⟩
    have hq := hu.cell c0a.out id
    clear hd hv hu hs hw
    go_simp
    exact ⟨_, rfl, DstOk.some rfl, Below.refl _ _, rfl⟩
  · intro T w Q hu hs hv hw hd
    have hx1 : T.getD 1 undef = (.int .i64 i) := hv 1 (by kernel_rfl)
    refine .inl ⟨wanted_none rfl, ?_⟩
    clear hd hv hu hs hw
    go_simp
    exact ⟨_, rfl, DstOk.some rfl, Below.refl _ _, rfl⟩
  · intro T w Q hu hs hv hw hd
    have hx37 : T.getD 37 undef = (.string (strB tx)) := Deps.at 8 hd (by kernel_rfl)
    have hx38 : T.getD 38 undef = (.int .i64 i) := Deps.at 9 hd (by kernel_rfl)
    refine .inl ⟨wanted_none rfl, ?_⟩
    have hC := hx.out w
    clear hd hv hu hs hw
    go_simp
    exact ⟨_, rfl, DstOk.some rfl, Below.refl _ _, rfl⟩
  · intro T w Q hu hs hv hw hd
    have hx32 : T.getD 32 undef = (.int .i64 k) := Deps.at 3 hd (by kernel_rfl)
    have hx33 : T.getD 33 undef = (.string (strB wd)) := Deps.at 4 hd (by kernel_rfl)
    have hx39 : T.getD 39 undef = (.int .u8 c.toNat) := Deps.at 10 hd (by kernel_rfl)
    refine .inl ⟨wanted_none rfl, ?_⟩
    have hN := hfa.out w (hu1.out.then hu)
    clear hd hv hu hs hw
    go_simp
    refine hN.mono ?_
    rintro e w5 ⟨rfl, hb⟩
    exact ⟨_, rfl, DstOk.some rfl, hb, rfl⟩
  · intro T w Q hu hs hv hw hd
    have hx40 : T.getD 40 undef = (.int .i64 n) := Deps.at 11 hd (by kernel_rfl)
    refine .inl ⟨wanted_none rfl, ?_⟩
    clear hd hv hu hs hw
    go_simp
    exact ⟨_, rfl, DstOk.some rfl, Below.refl _ _, rfl⟩
  intro T w hu hs hv hf hcur
  have hT : T = #[T.getD 0 undef, T.getD 1 undef, T.getD 2 undef, T.getD 3 undef, T.getD 4 undef, T.getD 5 undef, T.getD 6 undef, T.getD 7 undef, T.getD 8 undef, T.getD 9 undef, T.getD 10 undef, T.getD 11 undef, T.getD 12 undef, T.getD 13 undef, T.getD 14 undef, T.getD 15 undef, T.getD 16 undef, T.getD 17 undef, T.getD 18 undef, T.getD 19 undef, T.getD 20 undef, T.getD 21 undef, T.getD 22 undef, T.getD 23 undef, T.getD 24 undef, T.getD 25 undef, T.getD 26 undef, T.getD 27 undef, T.getD 28 undef, T.getD 29 undef, T.getD 30 undef, T.getD 31 undef, T.getD 32 undef, T.getD 33 undef, T.getD 34 undef, T.getD 35 undef, T.getD 36 undef, T.getD 37 undef, T.getD 38 undef, T.getD 39 undef, T.getD 40 undef, T.getD 41 undef, T.getD 42 undef, T.getD 43 undef, T.getD 44 undef, T.getD 45 undef, T.getD 46 undef, T.getD 47 undef, T.getD 48 undef, T.getD 49 undef, T.getD 50 undef, T.getD 51 undef, T.getD 52 undef, T.getD 53 undef, T.getD 54 undef, T.getD 55 undef, T.getD 56 undef, T.getD 57 undef, T.getD 58 undef, T.getD 59 undef, T.getD 60 undef, T.getD 61 undef, T.getD 62 undef] := expl hs
  rw [hT]
  clear hT
  rw [show T.getD 0 undef = (.pointer (some ⟨p, 0, none⟩)) from hv 0 (by kernel_rfl)]
  rw [show T.getD 1 undef = (.int .i64 i) from hv 1 (by kernel_rfl)]
  rw [hv 2 (by kernel_rfl)]
  rw [hv 3 (by kernel_rfl)]
  rw [hv 4 (by kernel_rfl)]
  rw [show T.getD 5 undef = (.string (strB wd)) from hv 5 (by kernel_rfl)]
  rw [show T.getD 6 undef = (.int .i64 n) from hf 12 (by decide)]
  rw [hv 7 (by kernel_rfl)]
  rw [hv 8 (by kernel_rfl)]
  rw [hv 9 (by kernel_rfl)]
  rw [hv 10 (by kernel_rfl)]
  rw [hv 11 (by kernel_rfl)]
  rw [hv 12 (by kernel_rfl)]
  rw [hv 13 (by kernel_rfl)]
  rw [hv 14 (by kernel_rfl)]
  rw [hv 15 (by kernel_rfl)]
  rw [hv 16 (by kernel_rfl)]
  rw [hv 17 (by kernel_rfl)]
  rw [hv 18 (by kernel_rfl)]
  rw [hv 19 (by kernel_rfl)]
  rw [hv 20 (by kernel_rfl)]
  rw [hv 21 (by kernel_rfl)]
  rw [hv 22 (by kernel_rfl)]
  rw [hv 23 (by kernel_rfl)]
  rw [hv 24 (by kernel_rfl)]
  rw [hv 25 (by kernel_rfl)]
  rw [hv 26 (by kernel_rfl)]
  rw [hv 27 (by kernel_rfl)]
  rw [hv 28 (by kernel_rfl)]
  rw [show T.getD 29 undef = (.pointer (some ⟨p, 0, none⟩)) from hf 0 (by decide)]
  rw [show T.getD 30 undef = (.pointer (some ⟨p, 0, none⟩)) from hf 1 (by decide)]
  rw [show T.getD 31 undef = (.pointer (some ⟨p, 2, none⟩)) from hf 2 (by decide)]
  rw [show T.getD 32 undef = (.int .i64 k) from hf 3 (by decide)]
  rw [show T.getD 33 undef = (.string (strB wd)) from hf 4 (by decide)]
  rw [show T.getD 34 undef = (.pointer (some ⟨p, 0, none⟩)) from hf 5 (by decide)]
  rw [show T.getD 35 undef = (.pointer (some ⟨p, 0, none⟩)) from hf 6 (by decide)]
  rw [show T.getD 36 undef = (.pointer (some ⟨p, 0, none⟩)) from hf 7 (by decide)]
  rw [show T.getD 37 undef = (.string (strB tx)) from hf 8 (by decide)]
  rw [show T.getD 38 undef = (.int .i64 i) from hf 9 (by decide)]
  rw [show T.getD 39 undef = (.int .u8 c.toNat) from hf 10 (by decide)]
  rw [show T.getD 40 undef = (.int .i64 n) from hf 11 (by decide)]
  rw [hv 41 (by kernel_rfl)]
  rw [hv 42 (by kernel_rfl)]
  rw [hv 43 (by kernel_rfl)]
  rw [hv 44 (by kernel_rfl)]
  rw [hv 45 (by kernel_rfl)]
  rw [hv 46 (by kernel_rfl)]
  rw [hv 47 (by kernel_rfl)]
  rw [hv 48 (by kernel_rfl)]
  rw [hv 49 (by kernel_rfl)]
  rw [hv 50 (by kernel_rfl)]
  rw [hv 51 (by kernel_rfl)]
  rw [hv 52 (by kernel_rfl)]
  rw [hv 53 (by kernel_rfl)]
  rw [hv 54 (by kernel_rfl)]
  rw [hv 55 (by kernel_rfl)]
  rw [hv 56 (by kernel_rfl)]
  rw [hv 57 (by kernel_rfl)]
  rw [hv 58 (by kernel_rfl)]
  rw [hv 59 (by kernel_rfl)]
  rw [hv 60 (by kernel_rfl)]
  rw [hv 61 (by kernel_rfl)]
  rw [hv 62 (by kernel_rfl)]
  clear hf hs hv hcur
  simp only [getD_toArray, List.getD_cons_succ, List.getD_cons_zero]
  clear T
  obtain ⟨w2, rfl⟩ : ∃ y, y = w := ⟨w, rfl⟩
  have hu2 := hide (hu1.out.then hu)
  clear hu
  have hb2 := hide (hu2.out.below (Nat.le_refl _) fun _ h => h.elim : Below W.heap.size W w2)
  have hpre := hide (PreF.kept _ _ hP.out hb2.out)
  have hh2 := hide hpre.out.heap
  have hBp := hide hpre.out.base
  have hplt := hide (Array.getElem?_eq_some_iff.1 hpre.out.heap).1
  have hown := hide (fun b (hb : rv.ownBlock = some b) => (World.ownsRow.lt hpre.out.row b hb).2)
  obtain ⟨i0, hi0, hz0, hz1, hz2⟩ := info_parts tok_info
  replace hi0 := hide hi0
  replace hz0 := hide hz0
  replace hz1 := hide hz1
  replace hz2 := hide hz2
  by_cases hz : n = 0
  · subst hz
    go_wp2_with fail
    refine wp_region_tide (fun b => b = p ∨ rv.ownBlock = some b) (factAt [(fun v _ => v = (.pointer (some ⟨p, 0, none⟩))), (fun v _ => v = (.pointer (some ⟨p, 0, none⟩))), (fun v _ => v = (.pointer (some ⟨p, 0, none⟩))), (fun v _ => v = (.pointer (some ⟨p, 1, none⟩))), (fun v _ => v = rv), (fun v _ => v = (.pointer (some ⟨p, 0, none⟩))), (fun v _ => v = (.pointer (some ⟨p, 0, none⟩))), (fun v _ => v = (.pointer (some ⟨p, 2, none⟩))), (fun v _ => v = (.int .i64 k)), (fun v _ => v = (.string (strB wd))), (fun v _ => v = (.pointer (some ⟨p, 0, none⟩))), (fun v _ => v = (.pointer (some ⟨p, 0, none⟩))), (fun v _ => v = (.pointer (some ⟨p, 3, none⟩))), (fun v _ => v = (.int .i64 f)), (fun v _ => v = (.agg #[.int .i64 k, .string (strB wd), .int .i64 f])), (fun v w => NewF (fun b => b = p ∨ rv.ownBlock = some b) ⟨k, wd, f⟩ v w), (fun v w => SlF v), (fun v _ => v = (.pointer (some ⟨p, 0, none⟩))), (fun v _ => v = (.pointer (some ⟨p, 1, none⟩))), (fun _ _ => True)]) [none, none, none, none, none, none, none, none, none, none, none, none, none, none, none, none, some (fun v w => GrewF p B tx ts k f rv wd v w), none, none, some (fun _ w => RdrV w p B tx (ts ++ [⟨k, wd, f⟩]) k f)] (fun w => PreF p B tx ts k f rv w) (fun w => w.heap[p]? = some (.cells #[.string (strB tx), rv, .int .i64 k, .int .i64 f] 44 (0, 0))) 19 (by kernel_rfl) (fkept_at ⟨FKept.eq _, FKept.eq _, FKept.eq _, FKept.eq _, FKept.eq _, FKept.eq _, FKept.eq _, FKept.eq _, FKept.eq _, FKept.eq _, FKept.eq _, FKept.eq _, FKept.eq _, FKept.eq _, FKept.eq _, NewF.kept, fun _ _ _ h _ => h, FKept.eq _, FKept.eq _, FKept.triv, trivial⟩) (PreF.kept) (fun w w' h hb => heapB h hb) (fun _ => by kernel_rfl) ⟨GrewF.kept, fun _ _ _ h hb => RdrV.upd h hb, trivial⟩ (by kernel_rfl) (by kernel_rfl) (by kernel_rfl) (by kernel_rfl) (Nat.le_of_ble_eq_true (by kernel_rfl)) ?_ (hh2.out) ⟨?_, ?_, ?_, ?_, ?_, ?_, ?_, ?_, ?_, ?_, ?_, ?_, ?_, ?_, ?_, ?_, ?_, ?_, ?_, ?_, trivial⟩ ?_
    · exact hpre.out
    · intro T w Q hu hs hv hw hd ht
      have hx0 : T.getD 0 undef = (.pointer (some ⟨p, 0, none⟩)) := hv 0 (by kernel_rfl)
      refine .inl ⟨wanted_none rfl, ?_⟩
      clear hd hv hu hs hw ht
      go_simp
      exact ⟨_, rfl, DstOk.some rfl, Below.refl _ _, rfl⟩
    · intro T w Q hu hs hv hw hd ht
      have hx0 : T.getD 0 undef = (.pointer (some ⟨p, 0, none⟩)) := hv 0 (by kernel_rfl)
      refine .inl ⟨wanted_none rfl, ?_⟩
      clear hd hv hu hs hw ht
      go_simp
      exact ⟨_, rfl, DstOk.some rfl, Below.refl _ _, rfl⟩
    · intro T w Q hu hs hv hw hd ht
      have hx45 : T.getD 45 undef = (.pointer (some ⟨p, 0, none⟩)) := Deps.at 1 hd (by kernel_rfl)
      refine .inl ⟨wanted_none rfl, ?_⟩
      clear hd hv hu hs hw ht
      go_simp
      exact ⟨_, rfl, DstOk.some rfl, Below.refl _ _, rfl⟩
    · intro T w Q hu hs hv hw hd ht
      have hx46 : T.getD 46 undef = (.pointer (some ⟨p, 0, none⟩)) := Deps.at 2 hd (by kernel_rfl)
      refine .inl ⟨wanted_none rfl, ?_⟩
      clear hd hv hu hs hw ht
      go_simp
      exact ⟨_, rfl, DstOk.some rfl, Below.refl _ _, rfl⟩
    · intro T w Q hu hs hv hw hd ht
      have hx47 : T.getD 47 undef = (.pointer (some ⟨p, 1, none⟩)) := Deps.at 3 hd (by kernel_rfl)
      refine .inl ⟨wanted_none rfl, ?_⟩
      have hI := cell_at (ht (by kernel_rfl)) 1
      simp at hI
      clear hd hv hu hs hw ht
      go_simp
      exact ⟨_, rfl, DstOk.some rfl, Below.refl _ _, rfl⟩
    · intro T w Q hu hs hv hw hd ht
      have hx0 : T.getD 0 undef = (.pointer (some ⟨p, 0, none⟩)) := hv 0 (by kernel_rfl)
      refine .inl ⟨wanted_none rfl, ?_⟩
      clear hd hv hu hs hw ht
      go_simp
      exact ⟨_, rfl, DstOk.some rfl, Below.refl _ _, rfl⟩
    · intro T w Q hu hs hv hw hd ht
      have hx49 : T.getD 49 undef = (.pointer (some ⟨p, 0, none⟩)) := Deps.at 5 hd (by kernel_rfl)
      refine .inl ⟨wanted_none rfl, ?_⟩
      clear hd hv hu hs hw ht
      go_simp
      exact ⟨_, rfl, DstOk.some rfl, Below.refl _ _, rfl⟩
    · intro T w Q hu hs hv hw hd ht
      have hx50 : T.getD 50 undef = (.pointer (some ⟨p, 0, none⟩)) := Deps.at 6 hd (by kernel_rfl)
      refine .inl ⟨wanted_none rfl, ?_⟩
      clear hd hv hu hs hw ht
      go_simp
      exact ⟨_, rfl, DstOk.some rfl, Below.refl _ _, rfl⟩
    · intro T w Q hu hs hv hw hd ht
      have hx51 : T.getD 51 undef = (.pointer (some ⟨p, 2, none⟩)) := Deps.at 7 hd (by kernel_rfl)
      refine .inl ⟨wanted_none rfl, ?_⟩
      have hI := cell_at (ht (by kernel_rfl)) 2
      simp at hI
      clear hd hv hu hs hw ht
      go_simp
      exact ⟨_, rfl, DstOk.some rfl, Below.refl _ _, rfl⟩
    · intro T w Q hu hs hv hw hd ht
      have hx5 : T.getD 5 undef = (.string (strB wd)) := hv 5 (by kernel_rfl)
      refine .inl ⟨wanted_none rfl, ?_⟩
      clear hd hv hu hs hw ht
      go_simp
      exact ⟨_, rfl, DstOk.some rfl, Below.refl _ _, rfl⟩
    · intro T w Q hu hs hv hw hd ht
      have hx0 : T.getD 0 undef = (.pointer (some ⟨p, 0, none⟩)) := hv 0 (by kernel_rfl)
      refine .inl ⟨wanted_none rfl, ?_⟩
      clear hd hv hu hs hw ht
      go_simp
      exact ⟨_, rfl, DstOk.some rfl, Below.refl _ _, rfl⟩
    · intro T w Q hu hs hv hw hd ht
      have hx54 : T.getD 54 undef = (.pointer (some ⟨p, 0, none⟩)) := Deps.at 10 hd (by kernel_rfl)
      refine .inl ⟨wanted_none rfl, ?_⟩
      clear hd hv hu hs hw ht
      go_simp
      exact ⟨_, rfl, DstOk.some rfl, Below.refl _ _, rfl⟩
    · intro T w Q hu hs hv hw hd ht
      have hx55 : T.getD 55 undef = (.pointer (some ⟨p, 0, none⟩)) := Deps.at 11 hd (by kernel_rfl)
      refine .inl ⟨wanted_none rfl, ?_⟩
      clear hd hv hu hs hw ht
      go_simp
      exact ⟨_, rfl, DstOk.some rfl, Below.refl _ _, rfl⟩
    · intro T w Q hu hs hv hw hd ht
      have hx56 : T.getD 56 undef = (.pointer (some ⟨p, 3, none⟩)) := Deps.at 12 hd (by kernel_rfl)
      refine .inl ⟨wanted_none rfl, ?_⟩
      have hI := cell_at (ht (by kernel_rfl)) 3
      simp at hI
      clear hd hv hu hs hw ht
      go_simp
      exact ⟨_, rfl, DstOk.some rfl, Below.refl _ _, rfl⟩
    · intro T w Q hu hs hv hw hd ht
      have hx52 : T.getD 52 undef = (.int .i64 k) := Deps.at 8 hd (by kernel_rfl)
      have hy52 := hx52
      rw [Array.getD_eq_getD_getElem?] at hy52
      have hx53 : T.getD 53 undef = (.string (strB wd)) := Deps.at 9 hd (by kernel_rfl)
      have hy53 := hx53
      rw [Array.getD_eq_getD_getElem?] at hy53
      have hx57 : T.getD 57 undef = (.int .i64 f) := Deps.at 13 hd (by kernel_rfl)
      have hy57 := hx57
      rw [Array.getD_eq_getD_getElem?] at hy57
      refine .inl ⟨wanted_none rfl, ?_⟩
      clear hd hv hu hs hw ht
      go_simp
      exact ⟨_, rfl, DstOk.some rfl, Below.refl _ _, rfl⟩
    · intro T w Q hu hs hv hw hd ht
      have hx58 : T.getD 58 undef = (.agg #[.int .i64 k, .string (strB wd), .int .i64 f]) := Deps.at 14 hd (by kernel_rfl)
      have hy58 := hx58
      rw [Array.getD_eq_getD_getElem?] at hy58
      refine .inl ⟨wanted_none rfl, ?_⟩
      have hF : ¬ (fun b => b = p ∨ rv.ownBlock = some b) w.heap.size := by
        have h1 := hu.size
        rintro (h | h)
        · have := hplt.out; omega
        · have := hown.out _ h; omega
      replace hF := hide hF
      clear hd hv hu hs hw ht
      go_simp
      refine ⟨_, rfl, DstOk.some rfl, (Below.refl _ w).alloc (Nat.le_refl _) _, NewF.of hF.out ?_ ?_ ?_⟩
      all_goals simp [go_sem]; done
    · intro T w Q hu hs hv hw hd ht hc0
      have hc : (fun w => PreF p B tx ts k f rv w) w := hc0
      have hx48 : T.getD 48 undef = rv := Deps.at 4 hd (by kernel_rfl)
      have f59 : (fun (v : Value) (w : World) => NewF (fun b => b = p ∨ rv.ownBlock = some b) ⟨k, wd, f⟩ v w) (T.getD 59 undef) w := Deps.at 15 hd (by kernel_rfl)
      generalize hx59 : T.getD 59 undef = x59 at f59 hc
      replace f59 := hide f59
      replace hc := hide hc
      refine .inl ⟨wanted_none rfl, ?_⟩
      obtain ⟨g, rfl, hg, q0, q1, q2⟩ := f59.out
      have hms := hc.out.row
      have hsz : B ≤ w.heap.size := by
        have := hu.size
        have := hplt.out
        have := hBp.out
        omega
      refine wp_append_own w (.tmp 48) (.tmp 59) 23 rfl B 34 i0 (.agg #[.int .i64 0, .string .empty, .int .i64 0]) 3 32 Tryd.underlying23 hi0.out hz0.out hz1.out hz2.out rfl (by decide) rv ts.length ((ts.map Tok.cells).flatten) hx48 hms ⟨g, 0, none⟩ 1 1 (Tok.cells ⟨k, wd, f⟩) hx59 rfl (three_cells q0 q1 q2) ?_ ?_ ?_ ?_ ?_
      · simp [Tok.cells, Value.oneCell']
      · have := htl.out; unfold maxLen; omega
      · have := htl.out; omega
      · exact hsz
      intro v' w' he hgr hnn
      obtain ⟨A5, c5, rfl⟩ := own_slice he
      have hq := hc.out.grow hgr he
      exact ⟨_, rfl, DstOk.some rfl, .grown hgr fun k hk => .inr hk, (by intros; exact hq.heap), ⟨_, _, _, rfl⟩, hq⟩
    · intro T w Q hu hs hv hw hd ht
      have hx44 : T.getD 44 undef = (.pointer (some ⟨p, 0, none⟩)) := Deps.at 0 hd (by kernel_rfl)
      refine .inl ⟨wanted_none rfl, ?_⟩
      clear hd hv hu hs hw ht
      go_simp
      exact ⟨_, rfl, DstOk.some rfl, Below.refl _ _, rfl⟩
    · intro T w Q hu hs hv hw hd ht
      have hx61 : T.getD 61 undef = (.pointer (some ⟨p, 0, none⟩)) := Deps.at 17 hd (by kernel_rfl)
      refine .inl ⟨wanted_none rfl, ?_⟩
      clear hd hv hu hs hw ht
      go_simp
      exact ⟨_, rfl, DstOk.some rfl, Below.refl _ _, rfl⟩
    · intro T w Q hu hs hv hw hd ht hc0
      have hc : (fun (v : Value) (w : World) => GrewF p B tx ts k f rv wd v w) (T.getD 60 undef) w := hc0
      have f60 : (fun (v : Value) (w : World) => SlF v) (T.getD 60 undef) w := Deps.at 16 hd (by kernel_rfl)
      generalize hx60 : T.getD 60 undef = x60 at f60 hc
      replace f60 := hide f60
      have hx62 : T.getD 62 undef = (.pointer (some ⟨p, 1, none⟩)) := Deps.at 18 hd (by kernel_rfl)
      replace hc := hide hc
      refine .inl ⟨wanted_none rfl, ?_⟩
      have hq := hc.out
      obtain ⟨A5, n5, c5, rfl⟩ := f60.out
      have hq5 := hide hq
      have hfr := frozen_at hq.heap 1
      have hc1 := cell_at hq.heap 1
      simp at hc1
      clear hd hv hu hs hw ht hc hc0 hq f60
      go_simp
      exact ⟨undef, fun _ => rfl, Upd.set w (F := fun b => b = p ∨ rv.ownBlock = some b) (a := ⟨p, 1, none⟩) (.inl rfl) _, trivial, hq5.out.store⟩
    intro T w hu hs hv hf hcur
    have hcur1 : (fun (w : World) => RdrV w p B tx (ts ++ [⟨k, wd, f⟩]) k f) w := hcur
    replace hcur1 := hcur1
    have hT : T = #[T.getD 0 undef, T.getD 1 undef, T.getD 2 undef, T.getD 3 undef, T.getD 4 undef, T.getD 5 undef, T.getD 6 undef, T.getD 7 undef, T.getD 8 undef, T.getD 9 undef, T.getD 10 undef, T.getD 11 undef, T.getD 12 undef, T.getD 13 undef, T.getD 14 undef, T.getD 15 undef, T.getD 16 undef, T.getD 17 undef, T.getD 18 undef, T.getD 19 undef, T.getD 20 undef, T.getD 21 undef, T.getD 22 undef, T.getD 23 undef, T.getD 24 undef, T.getD 25 undef, T.getD 26 undef, T.getD 27 undef, T.getD 28 undef, T.getD 29 undef, T.getD 30 undef, T.getD 31 undef, T.getD 32 undef, T.getD 33 undef, T.getD 34 undef, T.getD 35 undef, T.getD 36 undef, T.getD 37 undef, T.getD 38 undef, T.getD 39 undef, T.getD 40 undef, T.getD 41 undef, T.getD 42 undef, T.getD 43 undef, T.getD 44 undef, T.getD 45 undef, T.getD 46 undef, T.getD 47 undef, T.getD 48 undef, T.getD 49 undef, T.getD 50 undef, T.getD 51 undef, T.getD 52 undef, T.getD 53 undef, T.getD 54 undef, T.getD 55 undef, T.getD 56 undef, T.getD 57 undef, T.getD 58 undef, T.getD 59 undef, T.getD 60 undef, T.getD 61 undef, T.getD 62 undef] := expl hs
    rw [hT]
    clear hT
    rw [show T.getD 0 undef = (.pointer (some ⟨p, 0, none⟩)) from hv 0 (by kernel_rfl)]
    rw [show T.getD 1 undef = (.int .i64 i) from hv 1 (by kernel_rfl)]
    rw [hv 2 (by kernel_rfl)]
    rw [hv 3 (by kernel_rfl)]
    rw [hv 4 (by kernel_rfl)]
    rw [show T.getD 5 undef = (.string (strB wd)) from hv 5 (by kernel_rfl)]
    rw [hv 6 (by kernel_rfl)]
    rw [hv 7 (by kernel_rfl)]
    rw [hv 8 (by kernel_rfl)]
    rw [hv 9 (by kernel_rfl)]
    rw [hv 10 (by kernel_rfl)]
    rw [hv 11 (by kernel_rfl)]
    rw [hv 12 (by kernel_rfl)]
    rw [hv 13 (by kernel_rfl)]
    rw [hv 14 (by kernel_rfl)]
    rw [hv 15 (by kernel_rfl)]
    rw [hv 16 (by kernel_rfl)]
    rw [hv 17 (by kernel_rfl)]
    rw [hv 18 (by kernel_rfl)]
    rw [hv 19 (by kernel_rfl)]
    rw [hv 20 (by kernel_rfl)]
    rw [hv 21 (by kernel_rfl)]
    rw [hv 22 (by kernel_rfl)]
    rw [hv 23 (by kernel_rfl)]
    rw [hv 24 (by kernel_rfl)]
    rw [hv 25 (by kernel_rfl)]
    rw [hv 26 (by kernel_rfl)]
    rw [hv 27 (by kernel_rfl)]
    rw [hv 28 (by kernel_rfl)]
    rw [hv 29 (by kernel_rfl)]
    rw [hv 30 (by kernel_rfl)]
    rw [hv 31 (by kernel_rfl)]
    rw [hv 32 (by kernel_rfl)]
    rw [hv 33 (by kernel_rfl)]
    rw [hv 34 (by kernel_rfl)]
    rw [hv 35 (by kernel_rfl)]
    rw [hv 36 (by kernel_rfl)]
    rw [hv 37 (by kernel_rfl)]
    rw [hv 38 (by kernel_rfl)]
    rw [hv 39 (by kernel_rfl)]
    rw [hv 40 (by kernel_rfl)]
    rw [hv 41 (by kernel_rfl)]
    rw [hv 42 (by kernel_rfl)]
    rw [hv 43 (by kernel_rfl)]
    rw [show T.getD 44 undef = (.pointer (some ⟨p, 0, none⟩)) from hf 0 (by decide)]
    rw [show T.getD 45 undef = (.pointer (some ⟨p, 0, none⟩)) from hf 1 (by decide)]
    rw [show T.getD 46 undef = (.pointer (some ⟨p, 0, none⟩)) from hf 2 (by decide)]
    rw [show T.getD 47 undef = (.pointer (some ⟨p, 1, none⟩)) from hf 3 (by decide)]
    rw [show T.getD 48 undef = rv from hf 4 (by decide)]
    rw [show T.getD 49 undef = (.pointer (some ⟨p, 0, none⟩)) from hf 5 (by decide)]
    rw [show T.getD 50 undef = (.pointer (some ⟨p, 0, none⟩)) from hf 6 (by decide)]
    rw [show T.getD 51 undef = (.pointer (some ⟨p, 2, none⟩)) from hf 7 (by decide)]
    rw [show T.getD 52 undef = (.int .i64 k) from hf 8 (by decide)]
    rw [show T.getD 53 undef = (.string (strB wd)) from hf 9 (by decide)]
    rw [show T.getD 54 undef = (.pointer (some ⟨p, 0, none⟩)) from hf 10 (by decide)]
    rw [show T.getD 55 undef = (.pointer (some ⟨p, 0, none⟩)) from hf 11 (by decide)]
    rw [show T.getD 56 undef = (.pointer (some ⟨p, 3, none⟩)) from hf 12 (by decide)]
    rw [show T.getD 57 undef = (.int .i64 f) from hf 13 (by decide)]
    rw [show T.getD 58 undef = (.agg #[.int .i64 k, .string (strB wd), .int .i64 f]) from hf 14 (by decide)]
    rw [show T.getD 61 undef = (.pointer (some ⟨p, 0, none⟩)) from hf 17 (by decide)]
    rw [show T.getD 62 undef = (.pointer (some ⟨p, 1, none⟩)) from hf 18 (by decide)]
    clear hf hs hv hcur
    simp only [getD_toArray, List.getD_cons_succ, List.getD_cons_zero]
    generalize T.getD 59 undef = y59
    generalize T.getD 60 undef = y60
    clear T
    replace hu := hide hu
    replace hcur1 := hide hcur1
    go_wp2_with fail
    show Q (.returned (.int .i64 0)) _
    rw [← hQ.out]
    show EndF p B tx ts k f W ((St.word k f wd).fin ts c) _ _
    rw [fin_ok hn.out]
    have hBW := Nat.le_trans hBp.out (Nat.le_of_lt (Array.getElem?_eq_some_iff.1 hh.out).1)
    refine ⟨(hb2.out.mono hBW).trans (hu.out.below (Nat.le_trans hBW hb2.out.size) ?_), rfl, hcur1.out⟩
    rintro b (rfl | hb)
    · exact hBp.out
    · exact (World.ownsRow.lt hpre.out.row b hb).1
  · have hz' : ((n : Int) != 0) = true := by rw [bne_iff_ne]; omega
    go_wp2_with fail
    show Q (.returned (.int .i64 n)) _
    rw [← hQ.out]
    show EndF p B tx ts k f W ((St.word k f wd).fin ts c) _ _
    rw [fin_err hn.out hz]
    exact ⟨hb2.out.mono (Nat.le_trans hBp.out (Nat.le_of_lt (Array.getElem?_eq_some_iff.1 hh.out).1)), rfl, hz, rfl, ⟨rv, hpre.out.heap, hpre.out.row⟩, hpre.out.base⟩

set_option maxRecDepth 100000 in
set_option maxHeartbeats 800000 in
theorem end_any (p B : Nat) (tx : List UInt8) (ts : List Tok) (st : St) (fr i : Nat) (c : UInt8) (w : World) (hR : RdrV w p B tx ts st.kind fr) (hs : st.fits tx fr i) (hi : tx[i]? = some c) (hT : tx.length ≤ 1000000) (htl : ts.length ≤ 1000000) (hE : ErrR w) :
    Calls Tryd.prog 15 #[.pointer (some ⟨p, 0, none⟩), .int .i64 i] w fun e w' => EndF p B tx ts st.kind fr w (st.fin ts c) e w' := by
  have hR0 := hide hR
  obtain ⟨rv, hh, h2⟩ := hR.row
  have hB := hR.base
  cases st with
  | blank =>
    have c2 : w.cell? ⟨p, 2, none⟩ = some (.int .i64 3) := cell_at hh 2
    generalize hQ : (fun e w' => EndF p B tx ts St.blank.kind fr w (St.blank.fin ts c) e w') = Q
    replace hQ := hide hQ
    replace hh := hide hh
    replace h2 := hide h2
    go_enter Tryd.func15, Tryd.ntmps15
    go_wp2_with fail
    show Q (.returned (.int .i64 0)) _
    rw [← hQ.out]
    exact ⟨Below.refl _ _, rfl, hR0.out⟩
  | com =>
    have c2 : w.cell? ⟨p, 2, none⟩ = some (.int .i64 4) := cell_at hh 2
    generalize hQ : (fun e w' => EndF p B tx ts St.com.kind fr w (St.com.fin ts c) e w') = Q
    replace hQ := hide hQ
    replace hh := hide hh
    replace h2 := hide h2
    go_enter Tryd.func15, Tryd.ntmps15
    go_wp2_with fail
    show Q (.returned (.int .i64 0)) _
    rw [← hQ.out]
    exact ⟨Below.refl _ _, rfl, hR0.out⟩
  | word k f x =>
    obtain ⟨rfl, h1, h2', hx2, hk, h3⟩ := hs
    exact end_word p B tx ts k f i c x rv w ⟨hh, h2, hB⟩ hi h1 h2' hx2 hk h3 hT htl hE
end Go.Proofs.YtibbaofmdechcaaDoor
