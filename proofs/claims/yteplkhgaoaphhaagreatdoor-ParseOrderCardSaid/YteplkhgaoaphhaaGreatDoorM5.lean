/- Part 5 of the walks (merged): LxD, LxE, PsM. -/
import Derived.Test.YteplkhgaoaphhaaGreatDoorM3
import Derived.Test.YteplkhgaoaphhaaGreatDoorM4
import Derived.Test.YteplkhgaoaphhaaGreatDoorM1
/- The reader of package lex: end, which keeps a token, or tells its fault. -/
namespace Go.Proofs.YteplkhgaoaphhaaGreatDoor
open Go Go.RowKit

theorem expl {T : Array Value} {n : Nat} (h : T.size = n) : T = ((List.range n).map fun i => T.getD i undef).toArray := by
  apply Array.ext
  · simp [h]
  · intro i h1 h2
    simp [Array.getD_eq_getD_getElem?, h1]
theorem getD_toArray (l : List Value) (i : Nat) (d : Value) : l.toArray.getD i d = l.getD i d := by
  rw [Array.getD_eq_getD_getElem?, List.getD_eq_getElem?_getD, List.getElem?_toArray]
theorem three_cells {w : World} {g : Nat} {V V2 V3 : Value} (h : w.cell? ⟨g, 0, none⟩ = some V) (h2 : w.cell? ⟨g, 1, none⟩ = some V2) (h3 : w.cell? ⟨g, 2, none⟩ = some V3) : ∀ j u, [V, V2, V3][j]? = some u → w.cell? ((⟨g, 0, none⟩ : Addr).add j) = some u := by
  intro j u hj
  match j, hj with
  | 0, hj =>
    have : V = u := by simpa using hj
    subst this
    exact h
  | 1, hj =>
    have : V2 = u := by simpa using hj
    subst this
    exact h2
  | 2, hj =>
    have : V3 = u := by simpa using hj
    subst this
    exact h3
theorem own_slice {w : World} {b size n : Nat} {e : TypeId} {v : Value} {xs : List Value} (h : w.ownsRow b e size v n xs) : ∃ A c, v = .slice A n c := by
  rcases h.2 with ⟨rfl, rfl⟩ | ⟨g, cap, cur, rfl, _⟩
  · exact ⟨_, _, rfl⟩
  · exact ⟨_, _, rfl⟩
theorem heapB {w w' : World} {p : Nat} {o : Obj} (h : w.heap[p]? = some o) (hb : Below w.heap.size w w') : w'.heap[p]? = some o := (Upd.of_below (fun _ => False) hb).heap h id
theorem tok_info : (Tryz.prog.info? 49).map (fun i => (i.zero, i.size, i.bytes)) = some (some (.agg #[.int .i64 0, .string .empty, .int .i64 0]), 3, 32) := by kernel_rfl

section
variable {p B : Nat} {T : List UInt8} {ts : List Tok} {k f : Nat} {rv : Value} {x : List UInt8} {w w' : World}
/-- The reader ahead of an append. -/
structure PreF (p B : Nat) (T : List UInt8) (ts : List Tok) (k f : Nat) (rv : Value) (w : World) : Prop where
  heap : w.heap[p]? = some (.cells #[.string (strB T), rv, .int .i64 k, .int .i64 f] 112 (0, 0))
  row : ToksR w B rv ts
  base : B ≤ p
theorem PreF.kept : ∀ w w', PreF p B T ts k f rv w → Below w.heap.size w w' → PreF p B T ts k f rv w' := fun _ _ h hb => ⟨heapB h.heap hb, (Upd.of_below (fun _ => False) hb).own h.row fun _ _ => id, h.base⟩
/-- A new row of one token. -/
def NewF (F : Nat → Prop) (t : Tok) (v : Value) (w : World) : Prop := ∃ g, v = .slice (some ⟨g, 0, none⟩) 1 1 ∧ ¬ F g ∧ w.cell? ⟨g, 0, none⟩ = some (.int .i64 t.kind) ∧ w.cell? ⟨g, 1, none⟩ = some (.string (strB t.text)) ∧ w.cell? ⟨g, 2, none⟩ = some (.int .i64 t.at_)
theorem NewF.kept {F : Nat → Prop} {t : Tok} : FKept F (NewF F t) := fun _ _ _ ⟨g, h1, h2, h3, h4, h5⟩ hu => ⟨g, h1, h2, hu.cell h3 h2, hu.cell h4 h2, hu.cell h5 h2⟩
theorem NewF.of {F : Nat → Prop} {g : Nat} (h1 : ¬ F g) (h2 : w.cell? ⟨g, 0, none⟩ = some (.int .i64 k)) (h3 : w.cell? ⟨g, 1, none⟩ = some (.string (strB x))) (h4 : w.cell? ⟨g, 2, none⟩ = some (.int .i64 f)) : NewF F ⟨k, x, f⟩ (.slice (some ⟨g, 0, none⟩) 1 1) w := ⟨g, rfl, h1, h2, h3, h4⟩
def SlF (v : Value) : Prop := ∃ A n c, v = .slice A n c
/-- The row has grown, the reader holds the old one still. -/
structure GrewF (p B : Nat) (T : List UInt8) (ts : List Tok) (k f : Nat) (rv : Value) (x : List UInt8) (v : Value) (w : World) : Prop where
  heap : w.heap[p]? = some (.cells #[.string (strB T), rv, .int .i64 k, .int .i64 f] 112 (0, 0))
  row : ToksR w B v (ts ++ [⟨k, x, f⟩])
  base : B ≤ p
theorem GrewF.kept : Kept (GrewF p B T ts k f rv x) := fun _ _ _ h hb => ⟨heapB h.heap hb, (Upd.of_below (fun _ => False) hb).own h.row fun _ _ => id, h.base⟩
theorem PreF.not_own (h : PreF p B T ts k f rv w) : rv.ownBlock ≠ some p := fun e => absurd (own_type h.row e h.heap) (by decide)
theorem PreF.grow (h : PreF p B T ts k f rv w) (hg : w.grownBy w' rv.ownBlock) {v : Value} (he : w'.ownsRow B 49 3 v (ts.length + 1) ((ts.map Tok.cells).flatten ++ Tok.cells ⟨k, x, f⟩)) : GrewF p B T ts k f rv x v w' := by
  refine ⟨(Upd.grown (F := fun b => rv.ownBlock = some b) hg fun k hk => hk).heap h.heap h.not_own, ?_, h.base⟩
  unfold ToksR
  rw [List.length_append, List.map_append, List.flatten_append]
  simpa using he
theorem GrewF.store {v : Value} (h : GrewF p B T ts k f rv x v w) : RdrV (w.setCell ⟨p, 1, none⟩ v) p B T (ts ++ [⟨k, x, f⟩]) k f := by
  refine ⟨⟨v, heap_set h.heap 1 v, ?_⟩, h.base⟩
  exact (Upd.set (F := (· = p)) w (a := ⟨p, 1, none⟩) rfl v).own h.row fun b hb (e : b = p) => absurd (own_type h.row (e ▸ hb) h.heap) (by decide)
end
/-- What end comes to. -/
def EndF (p B : Nat) (T : List UInt8) (ts : List Tok) (k fr : Nat) (W : World) (r : Res) (e : Ending) (w : World) : Prop :=
  Below B W w ∧ match r with
    | .ok ts' => e = .returned (.int .i64 0) ∧ RdrV w p B T ts' k fr
    | .error (a, n) => a = fr ∧ n ≠ 0 ∧ e = .returned (.int .i64 n) ∧ RdrV w p B T ts k fr

theorem fin_ok {k f : Nat} {wd : List UInt8} {ts : List Tok} {c : UInt8} (h : fault k wd c = 0) : (St.word k f wd).fin ts c = .ok (ts ++ [⟨k, wd, f⟩]) := by
  show (if fault k wd c = 0 then _ else _) = _
  rw [if_pos h]
theorem fin_err {k f n : Nat} {wd : List UInt8} {ts : List Tok} {c : UInt8} (h : fault k wd c = n) (hn : n ≠ 0) : (St.word k f wd).fin ts c = .error (f, n) := by
  show (if fault k wd c = 0 then _ else _) = _
  rw [if_neg (by rw [h]; exact hn), h]
set_option maxRecDepth 100000 in
set_option maxHeartbeats 1600000 in
theorem end_word (p B : Nat) (tx : List UInt8) (ts : List Tok) (k f i : Nat) (c : UInt8) (wd : List UInt8) (rv : Value) (W : World) (hP : PreF p B tx ts k f rv W) (hi : tx[i]? = some c) (h1 : f < i) (h2 : i ≤ tx.length) (hwd : wd = (tx.drop f).take (i - f)) (hk : k ≤ 2) (h3 : k = 1 → ∀ c ∈ wd, digitB c.toNat = true)
    (hT : tx.length ≤ 1000000) (htl : ts.length ≤ 1000000) (hE : ErrR W) :
    Calls Tryz.prog 70 #[.pointer (some ⟨p, 0, none⟩), .int .i64 i] W fun e w' => EndF p B tx ts k f W ((St.word k f wd).fin ts c) e w' := by
  have hlw : wd.length = i - f := by rw [hwd, List.length_take, List.length_drop]; omega
  have hwn : wd ≠ [] := by
    intro h
    rw [h] at hlw
    simp at hlw; omega
  have hwl : wd.length ≤ 1000000 := by omega
  generalize hn : fault k wd c = n
  have hfa := hide (fun w (hu : Upd (fun _ => False) W w) => faultOf_any k hk wd c hwn h3 hwl w (hE.below (hu.below (Nat.le_refl _) fun _ h => h.elim)))
  rw [hn] at hfa
  have hcut := hide (fun w => hwd ▸ str_cut (l := tx) (i := f) (j := i) (by omega) h2 w : ∀ w, (Instr.slice 9 (.string (strB tx)) (some (.int .i64 f)) (some (.int .i64 i)) none).run Tryz.prog w = .ok (.string (strB wd)) w)
  have hx := hide (fun w => str_at hi w)
  have hh := hide hP.heap
  have c0 := hide (cell_at hP.heap 0)
  have c2 := hide (cell_at hP.heap 2)
  have c3 := hide (cell_at hP.heap 3)
  have c2' : W.cell? ⟨p, 2, none⟩ = some (.int .i64 k) := c2.out
  have k3 : ((k : Int) == 3) = false := by rw [beq_eq_false_iff_ne]; omega
  have k4 : ((k : Int) == 4) = false := by rw [beq_eq_false_iff_ne]; omega
  replace hP := hide hP
  replace hn := hide hn
  replace htl := hide htl
  replace hwd := hide hwd
  replace h3 := hide h3
  generalize hQ : (fun e w' => EndF p B tx ts k f W ((St.word k f wd).fin ts c) e w') = Q
  replace hQ := hide hQ
  go_enter Tryz.func70, Tryz.ntmps70
  go_wp2_with fail
  refine wp_region_flow (fun _ => False) (factAt [(fun v _ => v = (.pointer (some ⟨p, 0, none⟩))), (fun v _ => v = (.pointer (some ⟨p, 0, none⟩))), (fun v _ => v = (.pointer (some ⟨p, 0, none⟩))), (fun v _ => v = (.string (strB tx))), (fun v _ => v = (.pointer (some ⟨p, 0, none⟩))), (fun v _ => v = (.pointer (some ⟨p, 0, none⟩))), (fun v _ => v = (.pointer (some ⟨p, 3, none⟩))), (fun v _ => v = (.int .i64 f)), (fun v _ => v = (.int .i64 i)), (fun v _ => v = (.string (strB wd))), (fun v _ => v = (.string (strB wd)))]) [] (fun _ => True) (by kernel_rfl) (fkept_at ⟨FKept.eq _, FKept.eq _, FKept.eq _, FKept.eq _, FKept.eq _, FKept.eq _, FKept.eq _, FKept.eq _, FKept.eq _, FKept.eq _, FKept.eq _, trivial⟩) (fun _ _ h _ => h) trivial (by kernel_rfl) (by kernel_rfl) (by kernel_rfl) (by kernel_rfl) (Nat.le_of_ble_eq_true (by kernel_rfl)) ?_ ⟨?_, ?_, ?_, ?_, ?_, ?_, ?_, ?_, ?_, ?_, ?_, trivial⟩ ?_
  · first | exact trivial | assumption
  · intro T w Q hu hs hv hw hd
    have hx0 : T.getD 0 undef = (.pointer (some ⟨p, 0, none⟩)) := hv 0 (by kernel_rfl)
    refine .inl ⟨wanted_none rfl, ?_⟩
    clear hd hv hu hs hw
    go_simp
    exact ⟨_, rfl, DstOk.some rfl, Below.refl _ _, rfl⟩
  · intro T w Q hu hs hv hw hd
    have hx19 : T.getD 19 undef = (.pointer (some ⟨p, 0, none⟩)) := Deps.at 0 hd (by kernel_rfl)
    refine .inl ⟨wanted_none rfl, ?_⟩
    clear hd hv hu hs hw
    go_simp
    exact ⟨_, rfl, DstOk.some rfl, Below.refl _ _, rfl⟩
  · intro T w Q hu hs hv hw hd
    have hx20 : T.getD 20 undef = (.pointer (some ⟨p, 0, none⟩)) := Deps.at 1 hd (by kernel_rfl)
    refine .inl ⟨wanted_none rfl, ?_⟩
    clear hd hv hu hs hw
    go_simp
    exact ⟨_, rfl, DstOk.some rfl, Below.refl _ _, rfl⟩
  · intro T w Q hu hs hv hw hd
    have hx21 : T.getD 21 undef = (.pointer (some ⟨p, 0, none⟩)) := Deps.at 2 hd (by kernel_rfl)
    refine .inl ⟨wanted_none rfl, ?_⟩
    have hq := hu.cell c0.out id
    clear hd hv hu hs hw
    go_simp
    exact ⟨_, rfl, DstOk.some rfl, Below.refl _ _, rfl⟩
  · intro T w Q hu hs hv hw hd
    have hx0 : T.getD 0 undef = (.pointer (some ⟨p, 0, none⟩)) := hv 0 (by kernel_rfl)
    refine .inl ⟨wanted_none rfl, ?_⟩
    clear hd hv hu hs hw
    go_simp
    exact ⟨_, rfl, DstOk.some rfl, Below.refl _ _, rfl⟩
  · intro T w Q hu hs hv hw hd
    have hx23 : T.getD 23 undef = (.pointer (some ⟨p, 0, none⟩)) := Deps.at 4 hd (by kernel_rfl)
    refine .inl ⟨wanted_none rfl, ?_⟩
    clear hd hv hu hs hw
    go_simp
    exact ⟨_, rfl, DstOk.some rfl, Below.refl _ _, rfl⟩
  · intro T w Q hu hs hv hw hd
    have hx24 : T.getD 24 undef = (.pointer (some ⟨p, 0, none⟩)) := Deps.at 5 hd (by kernel_rfl)
    refine .inl ⟨wanted_none rfl, ?_⟩
    clear hd hv hu hs hw
    go_simp
    exact ⟨_, rfl, DstOk.some rfl, Below.refl _ _, rfl⟩
  · intro T w Q hu hs hv hw hd
    have hx25 : T.getD 25 undef = (.pointer (some ⟨p, 3, none⟩)) := Deps.at 6 hd (by kernel_rfl)
    refine .inl ⟨wanted_none rfl, ?_⟩
    have hq := hu.cell c3.out id
    clear hd hv hu hs hw
    go_simp
    exact ⟨_, rfl, DstOk.some rfl, Below.refl _ _, rfl⟩
  · intro T w Q hu hs hv hw hd
    have hx1 : T.getD 1 undef = (.int .i64 i) := hv 1 (by kernel_rfl)
    refine .inl ⟨wanted_none rfl, ?_⟩
    clear hd hv hu hs hw
    go_simp
    exact ⟨_, rfl, DstOk.some rfl, Below.refl _ _, rfl⟩
  · intro T w Q hu hs hv hw hd
    have hx22 : T.getD 22 undef = (.string (strB tx)) := Deps.at 3 hd (by kernel_rfl)
    have hx26 : T.getD 26 undef = (.int .i64 f) := Deps.at 7 hd (by kernel_rfl)
    have hx27 : T.getD 27 undef = (.int .i64 i) := Deps.at 8 hd (by kernel_rfl)
    refine .inl ⟨wanted_none rfl, ?_⟩
    have hC := hcut.out w
    clear hd hv hu hs hw
    go_simp
    exact ⟨_, rfl, DstOk.some rfl, Below.refl _ _, rfl⟩
  · intro T w Q hu hs hv hw hd
    have hx28 : T.getD 28 undef = (.string (strB wd)) := Deps.at 9 hd (by kernel_rfl)
    refine .inl ⟨wanted_none rfl, ?_⟩
    clear hd hv hu hs hw
    go_simp
    exact ⟨_, rfl, DstOk.some rfl, Below.refl _ _, rfl⟩
  intro T w hu hs hv hf hcur
  have hT : T = #[T.getD 0 undef, T.getD 1 undef, T.getD 2 undef, T.getD 3 undef, T.getD 4 undef, T.getD 5 undef, T.getD 6 undef, T.getD 7 undef, T.getD 8 undef, T.getD 9 undef, T.getD 10 undef, T.getD 11 undef, T.getD 12 undef, T.getD 13 undef, T.getD 14 undef, T.getD 15 undef, T.getD 16 undef, T.getD 17 undef, T.getD 18 undef, T.getD 19 undef, T.getD 20 undef, T.getD 21 undef, T.getD 22 undef, T.getD 23 undef, T.getD 24 undef, T.getD 25 undef, T.getD 26 undef, T.getD 27 undef, T.getD 28 undef, T.getD 29 undef, T.getD 30 undef, T.getD 31 undef, T.getD 32 undef, T.getD 33 undef, T.getD 34 undef, T.getD 35 undef, T.getD 36 undef, T.getD 37 undef, T.getD 38 undef, T.getD 39 undef, T.getD 40 undef, T.getD 41 undef, T.getD 42 undef, T.getD 43 undef, T.getD 44 undef, T.getD 45 undef, T.getD 46 undef, T.getD 47 undef, T.getD 48 undef, T.getD 49 undef, T.getD 50 undef, T.getD 51 undef, T.getD 52 undef, T.getD 53 undef, T.getD 54 undef, T.getD 55 undef, T.getD 56 undef, T.getD 57 undef, T.getD 58 undef, T.getD 59 undef, T.getD 60 undef, T.getD 61 undef, T.getD 62 undef] := expl hs
  rw [hT]
  clear hT
  rw [show T.getD 0 undef = (.pointer (some ⟨p, 0, none⟩)) from hv 0 (by kernel_rfl)]
  rw [show T.getD 1 undef = (.int .i64 i) from hv 1 (by kernel_rfl)]
  rw [show T.getD 2 undef = undef from hv 2 (by kernel_rfl)]
  rw [show T.getD 3 undef = undef from hv 3 (by kernel_rfl)]
  rw [show T.getD 4 undef = (.int .i64 0) from hv 4 (by kernel_rfl)]
  rw [show T.getD 5 undef = (.string (strB wd)) from hf 10 (by decide)]
  rw [hv 6 (by kernel_rfl)]
  rw [hv 7 (by kernel_rfl)]
  rw [hv 8 (by kernel_rfl)]
  rw [hv 9 (by kernel_rfl)]
  rw [hv 10 (by kernel_rfl)]
  rw [hv 11 (by kernel_rfl)]
  rw [hv 12 (by kernel_rfl)]
  rw [hv 13 (by kernel_rfl)]
  rw [hv 14 (by kernel_rfl)]
  rw [hv 15 (by kernel_rfl)]
  rw [hv 16 (by kernel_rfl)]
  rw [hv 17 (by kernel_rfl)]
  rw [hv 18 (by kernel_rfl)]
  rw [show T.getD 19 undef = (.pointer (some ⟨p, 0, none⟩)) from hf 0 (by decide)]
  rw [show T.getD 20 undef = (.pointer (some ⟨p, 0, none⟩)) from hf 1 (by decide)]
  rw [show T.getD 21 undef = (.pointer (some ⟨p, 0, none⟩)) from hf 2 (by decide)]
  rw [show T.getD 22 undef = (.string (strB tx)) from hf 3 (by decide)]
  rw [show T.getD 23 undef = (.pointer (some ⟨p, 0, none⟩)) from hf 4 (by decide)]
  rw [show T.getD 24 undef = (.pointer (some ⟨p, 0, none⟩)) from hf 5 (by decide)]
  rw [show T.getD 25 undef = (.pointer (some ⟨p, 3, none⟩)) from hf 6 (by decide)]
  rw [show T.getD 26 undef = (.int .i64 f) from hf 7 (by decide)]
  rw [show T.getD 27 undef = (.int .i64 i) from hf 8 (by decide)]
  rw [show T.getD 28 undef = (.string (strB wd)) from hf 9 (by decide)]
  rw [hv 29 (by kernel_rfl)]
  rw [hv 30 (by kernel_rfl)]
  rw [hv 31 (by kernel_rfl)]
  rw [hv 32 (by kernel_rfl)]
  rw [hv 33 (by kernel_rfl)]
  rw [hv 34 (by kernel_rfl)]
  rw [hv 35 (by kernel_rfl)]
  rw [hv 36 (by kernel_rfl)]
  rw [hv 37 (by kernel_rfl)]
  rw [hv 38 (by kernel_rfl)]
  rw [hv 39 (by kernel_rfl)]
  rw [hv 40 (by kernel_rfl)]
  rw [hv 41 (by kernel_rfl)]
  rw [hv 42 (by kernel_rfl)]
  rw [hv 43 (by kernel_rfl)]
  rw [hv 44 (by kernel_rfl)]
  rw [hv 45 (by kernel_rfl)]
  rw [hv 46 (by kernel_rfl)]
  rw [hv 47 (by kernel_rfl)]
  rw [hv 48 (by kernel_rfl)]
  rw [hv 49 (by kernel_rfl)]
  rw [hv 50 (by kernel_rfl)]
  rw [hv 51 (by kernel_rfl)]
  rw [hv 52 (by kernel_rfl)]
  rw [hv 53 (by kernel_rfl)]
  rw [hv 54 (by kernel_rfl)]
  rw [hv 55 (by kernel_rfl)]
  rw [hv 56 (by kernel_rfl)]
  rw [hv 57 (by kernel_rfl)]
  rw [hv 58 (by kernel_rfl)]
  rw [hv 59 (by kernel_rfl)]
  rw [hv 60 (by kernel_rfl)]
  rw [hv 61 (by kernel_rfl)]
  rw [hv 62 (by kernel_rfl)]
  clear hf hs hv hcur
  simp only [getD_toArray, List.getD_cons_succ, List.getD_cons_zero]
  clear T
  obtain ⟨w1, rfl⟩ : ∃ y, y = w := ⟨w, rfl⟩
  have hu1 := hide hu
  clear hu
  have c0a := hide (hu1.out.cell c0.out id)
  have c2a := hide (hu1.out.cell c2.out id)
  go_wp2_with fail
  refine wp_region_flow (fun _ => False) (factAt [(fun v _ => v = (.pointer (some ⟨p, 0, none⟩))), (fun v _ => v = (.pointer (some ⟨p, 0, none⟩))), (fun v _ => v = (.pointer (some ⟨p, 2, none⟩))), (fun v _ => v = (.int .i64 k)), (fun v _ => v = (.string (strB wd))), (fun v _ => v = (.pointer (some ⟨p, 0, none⟩))), (fun v _ => v = (.pointer (some ⟨p, 0, none⟩))), (fun v _ => v = (.pointer (some ⟨p, 0, none⟩))), (fun v _ => v = (.string (strB tx))), (fun v _ => v = (.int .i64 i)), (fun v _ => v = (.int .u8 c.toNat)), (fun v _ => v = (.int .i64 n)), (fun v _ => v = (.int .i64 n))]) [] (fun _ => True) (by kernel_rfl) (fkept_at ⟨FKept.eq _, FKept.eq _, FKept.eq _, FKept.eq _, FKept.eq _, FKept.eq _, FKept.eq _, FKept.eq _, FKept.eq _, FKept.eq _, FKept.eq _, FKept.eq _, FKept.eq _, trivial⟩) (fun _ _ h _ => h) trivial (by kernel_rfl) (by kernel_rfl) (by kernel_rfl) (by kernel_rfl) (Nat.le_of_ble_eq_true (by kernel_rfl)) ?_ ⟨?_, ?_, ?_, ?_, ?_, ?_, ?_, ?_, ?_, ?_, ?_, ?_, ?_, trivial⟩ ?_
  · first | exact trivial | assumption
  · intro T w Q hu hs hv hw hd
    have hx0 : T.getD 0 undef = (.pointer (some ⟨p, 0, none⟩)) := hv 0 (by kernel_rfl)
    refine .inl ⟨wanted_none rfl, ?_⟩
    clear hd hv hu hs hw
    go_simp
    exact ⟨_, rfl, DstOk.some rfl, Below.refl _ _, rfl⟩
  · intro T w Q hu hs hv hw hd
    have hx29 : T.getD 29 undef = (.pointer (some ⟨p, 0, none⟩)) := Deps.at 0 hd (by kernel_rfl)
    refine .inl ⟨wanted_none rfl, ?_⟩
    clear hd hv hu hs hw
    go_simp
    exact ⟨_, rfl, DstOk.some rfl, Below.refl _ _, rfl⟩
  · intro T w Q hu hs hv hw hd
    have hx30 : T.getD 30 undef = (.pointer (some ⟨p, 0, none⟩)) := Deps.at 1 hd (by kernel_rfl)
    refine .inl ⟨wanted_none rfl, ?_⟩
    clear hd hv hu hs hw
    go_simp
    exact ⟨_, rfl, DstOk.some rfl, Below.refl _ _, rfl⟩
  · intro T w Q hu hs hv hw hd
    have hx31 : T.getD 31 undef = (.pointer (some ⟨p, 2, none⟩)) := Deps.at 2 hd (by kernel_rfl)
    refine .inl ⟨wanted_none rfl, ?_⟩
    have hq := hu.cell c2a.out id
    clear hd hv hu hs hw
    go_simp
    exact ⟨_, rfl, DstOk.some rfl, Below.refl _ _, rfl⟩
  · intro T w Q hu hs hv hw hd
    have hx5 : T.getD 5 undef = (.string (strB wd)) := hv 5 (by kernel_rfl)
    refine .inl ⟨wanted_none rfl, ?_⟩
    clear hd hv hu hs hw
    go_simp
    exact ⟨_, rfl, DstOk.some rfl, Below.refl _ _, rfl⟩
  · intro T w Q hu hs hv hw hd
    have hx0 : T.getD 0 undef = (.pointer (some ⟨p, 0, none⟩)) := hv 0 (by kernel_rfl)
    refine .inl ⟨wanted_none rfl, ?_⟩
    clear hd hv hu hs hw
    go_simp
    exact ⟨_, rfl, DstOk.some rfl, Below.refl _ _, rfl⟩
  · intro T w Q hu hs hv hw hd
    have hx34 : T.getD 34 undef = (.pointer (some ⟨p, 0, none⟩)) := Deps.at 5 hd (by kernel_rfl)
    refine .inl ⟨wanted_none rfl, ?_⟩
    clear hd hv hu hs hw
    go_simp
    exact ⟨_, rfl, DstOk.some rfl, Below.refl _ _, rfl⟩
  · intro T w Q hu hs hv hw hd
    have hx35 : T.getD 35 undef = (.pointer (some ⟨p, 0, none⟩)) := Deps.at 6 hd (by kernel_rfl)
    refine .inl ⟨wanted_none rfl, ?_⟩
    clear hd hv hu hs hw
    go_simp
    exact ⟨_, rfl, DstOk.some rfl, Below.refl _ _, rfl⟩
  · intro T w Q hu hs hv hw hd
    have hx36 : T.getD 36 undef = (.pointer (some ⟨p, 0, none⟩)) := Deps.at 7 hd (by kernel_rfl)
    refine .inl ⟨wanted_none rfl, ?_⟩
    have hq := hu.cell c0a.out id
    clear hd hv hu hs hw
    go_simp
    exact ⟨_, rfl, DstOk.some rfl, Below.refl _ _, rfl⟩
  · intro T w Q hu hs hv hw hd
    have hx1 : T.getD 1 undef = (.int .i64 i) := hv 1 (by kernel_rfl)
    refine .inl ⟨wanted_none rfl, ?_⟩
    clear hd hv hu hs hw
    go_simp
    exact ⟨_, rfl, DstOk.some rfl, Below.refl _ _, rfl⟩
  · intro T w Q hu hs hv hw hd
    have hx37 : T.getD 37 undef = (.string (strB tx)) := Deps.at 8 hd (by kernel_rfl)
    have hx38 : T.getD 38 undef = (.int .i64 i) := Deps.at 9 hd (by kernel_rfl)
    refine .inl ⟨wanted_none rfl, ?_⟩
    have hC := hx.out w
    clear hd hv hu hs hw
    go_simp
    exact ⟨_, rfl, DstOk.some rfl, Below.refl _ _, rfl⟩
  · intro T w Q hu hs hv hw hd
    have hx32 : T.getD 32 undef = (.int .i64 k) := Deps.at 3 hd (by kernel_rfl)
    have hx33 : T.getD 33 undef = (.string (strB wd)) := Deps.at 4 hd (by kernel_rfl)
    have hx39 : T.getD 39 undef = (.int .u8 c.toNat) := Deps.at 10 hd (by kernel_rfl)
    refine .inl ⟨wanted_none rfl, ?_⟩
    have hN := hfa.out w (hu1.out.then hu)
    clear hd hv hu hs hw
    go_simp
    refine hN.mono ?_
    rintro e w5 ⟨rfl, hb⟩
    exact ⟨_, rfl, DstOk.some rfl, hb, rfl⟩
  · intro T w Q hu hs hv hw hd
    have hx40 : T.getD 40 undef = (.int .i64 n) := Deps.at 11 hd (by kernel_rfl)
    refine .inl ⟨wanted_none rfl, ?_⟩
    clear hd hv hu hs hw
    go_simp
    exact ⟨_, rfl, DstOk.some rfl, Below.refl _ _, rfl⟩
  intro T w hu hs hv hf hcur
  have hT : T = #[T.getD 0 undef, T.getD 1 undef, T.getD 2 undef, T.getD 3 undef, T.getD 4 undef, T.getD 5 undef, T.getD 6 undef, T.getD 7 undef, T.getD 8 undef, T.getD 9 undef, T.getD 10 undef, T.getD 11 undef, T.getD 12 undef, T.getD 13 undef, T.getD 14 undef, T.getD 15 undef, T.getD 16 undef, T.getD 17 undef, T.getD 18 undef, T.getD 19 undef, T.getD 20 undef, T.getD 21 undef, T.getD 22 undef, T.getD 23 undef, T.getD 24 undef, T.getD 25 undef, T.getD 26 undef, T.getD 27 undef, T.getD 28 undef, T.getD 29 undef, T.getD 30 undef, T.getD 31 undef, T.getD 32 undef, T.getD 33 undef, T.getD 34 undef, T.getD 35 undef, T.getD 36 undef, T.getD 37 undef, T.getD 38 undef, T.getD 39 undef, T.getD 40 undef, T.getD 41 undef, T.getD 42 undef, T.getD 43 undef, T.getD 44 undef, T.getD 45 undef, T.getD 46 undef, T.getD 47 undef, T.getD 48 undef, T.getD 49 undef, T.getD 50 undef, T.getD 51 undef, T.getD 52 undef, T.getD 53 undef, T.getD 54 undef, T.getD 55 undef, T.getD 56 undef, T.getD 57 undef, T.getD 58 undef, T.getD 59 undef, T.getD 60 undef, T.getD 61 undef, T.getD 62 undef] := expl hs
  rw [hT]
  clear hT
  rw [show T.getD 0 undef = (.pointer (some ⟨p, 0, none⟩)) from hv 0 (by kernel_rfl)]
  rw [show T.getD 1 undef = (.int .i64 i) from hv 1 (by kernel_rfl)]
  rw [hv 2 (by kernel_rfl)]
  rw [hv 3 (by kernel_rfl)]
  rw [hv 4 (by kernel_rfl)]
  rw [show T.getD 5 undef = (.string (strB wd)) from hv 5 (by kernel_rfl)]
  rw [show T.getD 6 undef = (.int .i64 n) from hf 12 (by decide)]
  rw [hv 7 (by kernel_rfl)]
  rw [hv 8 (by kernel_rfl)]
  rw [hv 9 (by kernel_rfl)]
  rw [hv 10 (by kernel_rfl)]
  rw [hv 11 (by kernel_rfl)]
  rw [hv 12 (by kernel_rfl)]
  rw [hv 13 (by kernel_rfl)]
  rw [hv 14 (by kernel_rfl)]
  rw [hv 15 (by kernel_rfl)]
  rw [hv 16 (by kernel_rfl)]
  rw [hv 17 (by kernel_rfl)]
  rw [hv 18 (by kernel_rfl)]
  rw [hv 19 (by kernel_rfl)]
  rw [hv 20 (by kernel_rfl)]
  rw [hv 21 (by kernel_rfl)]
  rw [hv 22 (by kernel_rfl)]
  rw [hv 23 (by kernel_rfl)]
  rw [hv 24 (by kernel_rfl)]
  rw [hv 25 (by kernel_rfl)]
  rw [hv 26 (by kernel_rfl)]
  rw [hv 27 (by kernel_rfl)]
  rw [hv 28 (by kernel_rfl)]
  rw [show T.getD 29 undef = (.pointer (some ⟨p, 0, none⟩)) from hf 0 (by decide)]
  rw [show T.getD 30 undef = (.pointer (some ⟨p, 0, none⟩)) from hf 1 (by decide)]
  rw [show T.getD 31 undef = (.pointer (some ⟨p, 2, none⟩)) from hf 2 (by decide)]
  rw [show T.getD 32 undef = (.int .i64 k) from hf 3 (by decide)]
  rw [show T.getD 33 undef = (.string (strB wd)) from hf 4 (by decide)]
  rw [show T.getD 34 undef = (.pointer (some ⟨p, 0, none⟩)) from hf 5 (by decide)]
  rw [show T.getD 35 undef = (.pointer (some ⟨p, 0, none⟩)) from hf 6 (by decide)]
  rw [show T.getD 36 undef = (.pointer (some ⟨p, 0, none⟩)) from hf 7 (by decide)]
  rw [show T.getD 37 undef = (.string (strB tx)) from hf 8 (by decide)]
  rw [show T.getD 38 undef = (.int .i64 i) from hf 9 (by decide)]
  rw [show T.getD 39 undef = (.int .u8 c.toNat) from hf 10 (by decide)]
  rw [show T.getD 40 undef = (.int .i64 n) from hf 11 (by decide)]
  rw [hv 41 (by kernel_rfl)]
  rw [hv 42 (by kernel_rfl)]
  rw [hv 43 (by kernel_rfl)]
  rw [hv 44 (by kernel_rfl)]
  rw [hv 45 (by kernel_rfl)]
  rw [hv 46 (by kernel_rfl)]
  rw [hv 47 (by kernel_rfl)]
  rw [hv 48 (by kernel_rfl)]
  rw [hv 49 (by kernel_rfl)]
  rw [hv 50 (by kernel_rfl)]
  rw [hv 51 (by kernel_rfl)]
  rw [hv 52 (by kernel_rfl)]
  rw [hv 53 (by kernel_rfl)]
  rw [hv 54 (by kernel_rfl)]
  rw [hv 55 (by kernel_rfl)]
  rw [hv 56 (by kernel_rfl)]
  rw [hv 57 (by kernel_rfl)]
  rw [hv 58 (by kernel_rfl)]
  rw [hv 59 (by kernel_rfl)]
  rw [hv 60 (by kernel_rfl)]
  rw [hv 61 (by kernel_rfl)]
  rw [hv 62 (by kernel_rfl)]
  clear hf hs hv hcur
  simp only [getD_toArray, List.getD_cons_succ, List.getD_cons_zero]
  clear T
  obtain ⟨w2, rfl⟩ : ∃ y, y = w := ⟨w, rfl⟩
  have hu2 := hide (hu1.out.then hu)
  clear hu
  have hb2 := hide (hu2.out.below (Nat.le_refl _) fun _ h => h.elim : Below W.heap.size W w2)
  have hpre := hide (PreF.kept _ _ hP.out hb2.out)
  have hh2 := hide hpre.out.heap
  have hBp := hide hpre.out.base
  have hplt := hide (Array.getElem?_eq_some_iff.1 hpre.out.heap).1
  have hown := hide (fun b (hb : rv.ownBlock = some b) => (World.ownsRow.lt hpre.out.row b hb).2)
  obtain ⟨i0, hi0, hz0, hz1, hz2⟩ := info_parts tok_info
  replace hi0 := hide hi0
  replace hz0 := hide hz0
  replace hz1 := hide hz1
  replace hz2 := hide hz2
  by_cases hz : n = 0
  · subst hz
    go_wp2_with fail
    refine wp_region_tide (fun b => b = p ∨ rv.ownBlock = some b) (factAt [(fun v _ => v = (.pointer (some ⟨p, 0, none⟩))), (fun v _ => v = (.pointer (some ⟨p, 0, none⟩))), (fun v _ => v = (.pointer (some ⟨p, 0, none⟩))), (fun v _ => v = (.pointer (some ⟨p, 1, none⟩))), (fun v _ => v = rv), (fun v _ => v = (.pointer (some ⟨p, 0, none⟩))), (fun v _ => v = (.pointer (some ⟨p, 0, none⟩))), (fun v _ => v = (.pointer (some ⟨p, 2, none⟩))), (fun v _ => v = (.int .i64 k)), (fun v _ => v = (.string (strB wd))), (fun v _ => v = (.pointer (some ⟨p, 0, none⟩))), (fun v _ => v = (.pointer (some ⟨p, 0, none⟩))), (fun v _ => v = (.pointer (some ⟨p, 3, none⟩))), (fun v _ => v = (.int .i64 f)), (fun v _ => v = (.agg #[.int .i64 k, .string (strB wd), .int .i64 f])), (fun v w => NewF (fun b => b = p ∨ rv.ownBlock = some b) ⟨k, wd, f⟩ v w), (fun v w => SlF v), (fun v _ => v = (.pointer (some ⟨p, 0, none⟩))), (fun v _ => v = (.pointer (some ⟨p, 1, none⟩))), (fun _ _ => True)]) [none, none, none, none, none, none, none, none, none, none, none, none, none, none, none, none, some (fun v w => GrewF p B tx ts k f rv wd v w), none, none, some (fun _ w => RdrV w p B tx (ts ++ [⟨k, wd, f⟩]) k f)] (fun w => PreF p B tx ts k f rv w) (fun w => w.heap[p]? = some (.cells #[.string (strB tx), rv, .int .i64 k, .int .i64 f] 112 (0, 0))) 19 (by kernel_rfl) (fkept_at ⟨FKept.eq _, FKept.eq _, FKept.eq _, FKept.eq _, FKept.eq _, FKept.eq _, FKept.eq _, FKept.eq _, FKept.eq _, FKept.eq _, FKept.eq _, FKept.eq _, FKept.eq _, FKept.eq _, FKept.eq _, NewF.kept, fun _ _ _ h _ => h, FKept.eq _, FKept.eq _, FKept.triv, trivial⟩) (PreF.kept) (fun w w' h hb => heapB h hb) (fun _ => by kernel_rfl) ⟨GrewF.kept, fun _ _ _ h hb => RdrV.upd h hb, trivial⟩ (by kernel_rfl) (by kernel_rfl) (by kernel_rfl) (by kernel_rfl) (Nat.le_of_ble_eq_true (by kernel_rfl)) ?_ (hh2.out) ⟨?_, ?_, ?_, ?_, ?_, ?_, ?_, ?_, ?_, ?_, ?_, ?_, ?_, ?_, ?_, ?_, ?_, ?_, ?_, ?_, trivial⟩ ?_
    · exact hpre.out
    · intro T w Q hu hs hv hw hd ht
      have hx0 : T.getD 0 undef = (.pointer (some ⟨p, 0, none⟩)) := hv 0 (by kernel_rfl)
      refine .inl ⟨wanted_none rfl, ?_⟩
      clear hd hv hu hs hw ht
      go_simp
      exact ⟨_, rfl, DstOk.some rfl, Below.refl _ _, rfl⟩
    · intro T w Q hu hs hv hw hd ht
      have hx0 : T.getD 0 undef = (.pointer (some ⟨p, 0, none⟩)) := hv 0 (by kernel_rfl)
      refine .inl ⟨wanted_none rfl, ?_⟩
      clear hd hv hu hs hw ht
      go_simp
      exact ⟨_, rfl, DstOk.some rfl, Below.refl _ _, rfl⟩
    · intro T w Q hu hs hv hw hd ht
      have hx45 : T.getD 45 undef = (.pointer (some ⟨p, 0, none⟩)) := Deps.at 1 hd (by kernel_rfl)
      refine .inl ⟨wanted_none rfl, ?_⟩
      clear hd hv hu hs hw ht
      go_simp
      exact ⟨_, rfl, DstOk.some rfl, Below.refl _ _, rfl⟩
    · intro T w Q hu hs hv hw hd ht
      have hx46 : T.getD 46 undef = (.pointer (some ⟨p, 0, none⟩)) := Deps.at 2 hd (by kernel_rfl)
      refine .inl ⟨wanted_none rfl, ?_⟩
      clear hd hv hu hs hw ht
      go_simp
      exact ⟨_, rfl, DstOk.some rfl, Below.refl _ _, rfl⟩
    · intro T w Q hu hs hv hw hd ht
      have hx47 : T.getD 47 undef = (.pointer (some ⟨p, 1, none⟩)) := Deps.at 3 hd (by kernel_rfl)
      refine .inl ⟨wanted_none rfl, ?_⟩
      have hI := cell_at (ht (by kernel_rfl)) 1
      simp at hI
      clear hd hv hu hs hw ht
      go_simp
      exact ⟨_, rfl, DstOk.some rfl, Below.refl _ _, rfl⟩
    · intro T w Q hu hs hv hw hd ht
      have hx0 : T.getD 0 undef = (.pointer (some ⟨p, 0, none⟩)) := hv 0 (by kernel_rfl)
      refine .inl ⟨wanted_none rfl, ?_⟩
      clear hd hv hu hs hw ht
      go_simp
      exact ⟨_, rfl, DstOk.some rfl, Below.refl _ _, rfl⟩
    · intro T w Q hu hs hv hw hd ht
      have hx49 : T.getD 49 undef = (.pointer (some ⟨p, 0, none⟩)) := Deps.at 5 hd (by kernel_rfl)
      refine .inl ⟨wanted_none rfl, ?_⟩
      clear hd hv hu hs hw ht
      go_simp
      exact ⟨_, rfl, DstOk.some rfl, Below.refl _ _, rfl⟩
    · intro T w Q hu hs hv hw hd ht
      have hx50 : T.getD 50 undef = (.pointer (some ⟨p, 0, none⟩)) := Deps.at 6 hd (by kernel_rfl)
      refine .inl ⟨wanted_none rfl, ?_⟩
      clear hd hv hu hs hw ht
      go_simp
      exact ⟨_, rfl, DstOk.some rfl, Below.refl _ _, rfl⟩
    · intro T w Q hu hs hv hw hd ht
      have hx51 : T.getD 51 undef = (.pointer (some ⟨p, 2, none⟩)) := Deps.at 7 hd (by kernel_rfl)
      refine .inl ⟨wanted_none rfl, ?_⟩
      have hI := cell_at (ht (by kernel_rfl)) 2
      simp at hI
      clear hd hv hu hs hw ht
      go_simp
      exact ⟨_, rfl, DstOk.some rfl, Below.refl _ _, rfl⟩
    · intro T w Q hu hs hv hw hd ht
      have hx5 : T.getD 5 undef = (.string (strB wd)) := hv 5 (by kernel_rfl)
      refine .inl ⟨wanted_none rfl, ?_⟩
      clear hd hv hu hs hw ht
      go_simp
      exact ⟨_, rfl, DstOk.some rfl, Below.refl _ _, rfl⟩
    · intro T w Q hu hs hv hw hd ht
      have hx0 : T.getD 0 undef = (.pointer (some ⟨p, 0, none⟩)) := hv 0 (by kernel_rfl)
      refine .inl ⟨wanted_none rfl, ?_⟩
      clear hd hv hu hs hw ht
      go_simp
      exact ⟨_, rfl, DstOk.some rfl, Below.refl _ _, rfl⟩
    · intro T w Q hu hs hv hw hd ht
      have hx54 : T.getD 54 undef = (.pointer (some ⟨p, 0, none⟩)) := Deps.at 10 hd (by kernel_rfl)
      refine .inl ⟨wanted_none rfl, ?_⟩
      clear hd hv hu hs hw ht
      go_simp
      exact ⟨_, rfl, DstOk.some rfl, Below.refl _ _, rfl⟩
    · intro T w Q hu hs hv hw hd ht
      have hx55 : T.getD 55 undef = (.pointer (some ⟨p, 0, none⟩)) := Deps.at 11 hd (by kernel_rfl)
      refine .inl ⟨wanted_none rfl, ?_⟩
      clear hd hv hu hs hw ht
      go_simp
      exact ⟨_, rfl, DstOk.some rfl, Below.refl _ _, rfl⟩
    · intro T w Q hu hs hv hw hd ht
      have hx56 : T.getD 56 undef = (.pointer (some ⟨p, 3, none⟩)) := Deps.at 12 hd (by kernel_rfl)
      refine .inl ⟨wanted_none rfl, ?_⟩
      have hI := cell_at (ht (by kernel_rfl)) 3
      simp at hI
      clear hd hv hu hs hw ht
      go_simp
      exact ⟨_, rfl, DstOk.some rfl, Below.refl _ _, rfl⟩
    · intro T w Q hu hs hv hw hd ht
      have hx52 : T.getD 52 undef = (.int .i64 k) := Deps.at 8 hd (by kernel_rfl)
      have hy52 := hx52
      rw [Array.getD_eq_getD_getElem?] at hy52
      have hx53 : T.getD 53 undef = (.string (strB wd)) := Deps.at 9 hd (by kernel_rfl)
      have hy53 := hx53
      rw [Array.getD_eq_getD_getElem?] at hy53
      have hx57 : T.getD 57 undef = (.int .i64 f) := Deps.at 13 hd (by kernel_rfl)
      have hy57 := hx57
      rw [Array.getD_eq_getD_getElem?] at hy57
      refine .inl ⟨wanted_none rfl, ?_⟩
      clear hd hv hu hs hw ht
      go_simp
      exact ⟨_, rfl, DstOk.some rfl, Below.refl _ _, rfl⟩
    · intro T w Q hu hs hv hw hd ht
      have hx58 : T.getD 58 undef = (.agg #[.int .i64 k, .string (strB wd), .int .i64 f]) := Deps.at 14 hd (by kernel_rfl)
      have hy58 := hx58
      rw [Array.getD_eq_getD_getElem?] at hy58
      refine .inl ⟨wanted_none rfl, ?_⟩
      have hF : ¬ (fun b => b = p ∨ rv.ownBlock = some b) w.heap.size := by
        have h1 := hu.size
        rintro (h | h)
        · have := hplt.out; omega
        · have := hown.out _ h; omega
      replace hF := hide hF
      clear hd hv hu hs hw ht
      go_simp
      refine ⟨_, rfl, DstOk.some rfl, (Below.refl _ w).alloc (Nat.le_refl _) _, NewF.of hF.out ?_ ?_ ?_⟩
      all_goals simp [go_sem]; done
    · intro T w Q hu hs hv hw hd ht hc0
      have hc : (fun w => PreF p B tx ts k f rv w) w := hc0
      have hx48 : T.getD 48 undef = rv := Deps.at 4 hd (by kernel_rfl)
      have f59 : (fun (v : Value) (w : World) => NewF (fun b => b = p ∨ rv.ownBlock = some b) ⟨k, wd, f⟩ v w) (T.getD 59 undef) w := Deps.at 15 hd (by kernel_rfl)
      generalize hx59 : T.getD 59 undef = x59 at f59 hc
      replace f59 := hide f59
      replace hc := hide hc
      refine .inl ⟨wanted_none rfl, ?_⟩
      obtain ⟨g, rfl, hg, q0, q1, q2⟩ := f59.out
      have hms := hc.out.row
      have hsz : B ≤ w.heap.size := by
        have := hu.size
        have := hplt.out
        have := hBp.out
        omega
      refine wp_append_own w (.tmp 48) (.tmp 59) 45 rfl B 49 i0 (.agg #[.int .i64 0, .string .empty, .int .i64 0]) 3 32 Tryz.underlying45 hi0.out hz0.out hz1.out hz2.out rfl (by decide) rv ts.length ((ts.map Tok.cells).flatten) hx48 hms ⟨g, 0, none⟩ 1 1 (Tok.cells ⟨k, wd, f⟩) hx59 rfl (three_cells q0 q1 q2) ?_ ?_ ?_ ?_ ?_
      · simp [Tok.cells, Value.oneCell']
      · have := htl.out; unfold maxLen; omega
      · have := htl.out; omega
      · exact hsz
      intro v' w' he hgr hnn
      obtain ⟨A5, c5, rfl⟩ := own_slice he
      have hq := hc.out.grow hgr he
      exact ⟨_, rfl, DstOk.some rfl, .grown hgr fun k hk => .inr hk, (by intros; exact hq.heap), ⟨_, _, _, rfl⟩, hq⟩
    · intro T w Q hu hs hv hw hd ht
      have hx44 : T.getD 44 undef = (.pointer (some ⟨p, 0, none⟩)) := Deps.at 0 hd (by kernel_rfl)
      refine .inl ⟨wanted_none rfl, ?_⟩
      clear hd hv hu hs hw ht
      go_simp
      exact ⟨_, rfl, DstOk.some rfl, Below.refl _ _, rfl⟩
    · intro T w Q hu hs hv hw hd ht
      have hx61 : T.getD 61 undef = (.pointer (some ⟨p, 0, none⟩)) := Deps.at 17 hd (by kernel_rfl)
      refine .inl ⟨wanted_none rfl, ?_⟩
      clear hd hv hu hs hw ht
      go_simp
      exact ⟨_, rfl, DstOk.some rfl, Below.refl _ _, rfl⟩
    · intro T w Q hu hs hv hw hd ht hc0
      have hc : (fun (v : Value) (w : World) => GrewF p B tx ts k f rv wd v w) (T.getD 60 undef) w := hc0
      have f60 : (fun (v : Value) (w : World) => SlF v) (T.getD 60 undef) w := Deps.at 16 hd (by kernel_rfl)
      generalize hx60 : T.getD 60 undef = x60 at f60 hc
      replace f60 := hide f60
      have hx62 : T.getD 62 undef = (.pointer (some ⟨p, 1, none⟩)) := Deps.at 18 hd (by kernel_rfl)
      replace hc := hide hc
      refine .inl ⟨wanted_none rfl, ?_⟩
      have hq := hc.out
      obtain ⟨A5, n5, c5, rfl⟩ := f60.out
      have hq5 := hide hq
      have hfr := frozen_at hq.heap 1
      have hc1 := cell_at hq.heap 1
      simp at hc1
      clear hd hv hu hs hw ht hc hc0 hq f60
      go_simp
      exact ⟨undef, fun _ => rfl, Upd.set w (F := fun b => b = p ∨ rv.ownBlock = some b) (a := ⟨p, 1, none⟩) (.inl rfl) _, trivial, hq5.out.store⟩
    intro T w hu hs hv hf hcur
    have hcur1 : (fun (w : World) => RdrV w p B tx (ts ++ [⟨k, wd, f⟩]) k f) w := hcur
    replace hcur1 := hcur1
    have hT : T = #[T.getD 0 undef, T.getD 1 undef, T.getD 2 undef, T.getD 3 undef, T.getD 4 undef, T.getD 5 undef, T.getD 6 undef, T.getD 7 undef, T.getD 8 undef, T.getD 9 undef, T.getD 10 undef, T.getD 11 undef, T.getD 12 undef, T.getD 13 undef, T.getD 14 undef, T.getD 15 undef, T.getD 16 undef, T.getD 17 undef, T.getD 18 undef, T.getD 19 undef, T.getD 20 undef, T.getD 21 undef, T.getD 22 undef, T.getD 23 undef, T.getD 24 undef, T.getD 25 undef, T.getD 26 undef, T.getD 27 undef, T.getD 28 undef, T.getD 29 undef, T.getD 30 undef, T.getD 31 undef, T.getD 32 undef, T.getD 33 undef, T.getD 34 undef, T.getD 35 undef, T.getD 36 undef, T.getD 37 undef, T.getD 38 undef, T.getD 39 undef, T.getD 40 undef, T.getD 41 undef, T.getD 42 undef, T.getD 43 undef, T.getD 44 undef, T.getD 45 undef, T.getD 46 undef, T.getD 47 undef, T.getD 48 undef, T.getD 49 undef, T.getD 50 undef, T.getD 51 undef, T.getD 52 undef, T.getD 53 undef, T.getD 54 undef, T.getD 55 undef, T.getD 56 undef, T.getD 57 undef, T.getD 58 undef, T.getD 59 undef, T.getD 60 undef, T.getD 61 undef, T.getD 62 undef] := expl hs
    rw [hT]
    clear hT
    rw [show T.getD 0 undef = (.pointer (some ⟨p, 0, none⟩)) from hv 0 (by kernel_rfl)]
    rw [show T.getD 1 undef = (.int .i64 i) from hv 1 (by kernel_rfl)]
    rw [hv 2 (by kernel_rfl)]
    rw [hv 3 (by kernel_rfl)]
    rw [hv 4 (by kernel_rfl)]
    rw [show T.getD 5 undef = (.string (strB wd)) from hv 5 (by kernel_rfl)]
    rw [hv 6 (by kernel_rfl)]
    rw [hv 7 (by kernel_rfl)]
    rw [hv 8 (by kernel_rfl)]
    rw [hv 9 (by kernel_rfl)]
    rw [hv 10 (by kernel_rfl)]
    rw [hv 11 (by kernel_rfl)]
    rw [hv 12 (by kernel_rfl)]
    rw [hv 13 (by kernel_rfl)]
    rw [hv 14 (by kernel_rfl)]
    rw [hv 15 (by kernel_rfl)]
    rw [hv 16 (by kernel_rfl)]
    rw [hv 17 (by kernel_rfl)]
    rw [hv 18 (by kernel_rfl)]
    rw [hv 19 (by kernel_rfl)]
    rw [hv 20 (by kernel_rfl)]
    rw [hv 21 (by kernel_rfl)]
    rw [hv 22 (by kernel_rfl)]
    rw [hv 23 (by kernel_rfl)]
    rw [hv 24 (by kernel_rfl)]
    rw [hv 25 (by kernel_rfl)]
    rw [hv 26 (by kernel_rfl)]
    rw [hv 27 (by kernel_rfl)]
    rw [hv 28 (by kernel_rfl)]
    rw [hv 29 (by kernel_rfl)]
    rw [hv 30 (by kernel_rfl)]
    rw [hv 31 (by kernel_rfl)]
    rw [hv 32 (by kernel_rfl)]
    rw [hv 33 (by kernel_rfl)]
    rw [hv 34 (by kernel_rfl)]
    rw [hv 35 (by kernel_rfl)]
    rw [hv 36 (by kernel_rfl)]
    rw [hv 37 (by kernel_rfl)]
    rw [hv 38 (by kernel_rfl)]
    rw [hv 39 (by kernel_rfl)]
    rw [hv 40 (by kernel_rfl)]
    rw [hv 41 (by kernel_rfl)]
    rw [hv 42 (by kernel_rfl)]
    rw [hv 43 (by kernel_rfl)]
    rw [show T.getD 44 undef = (.pointer (some ⟨p, 0, none⟩)) from hf 0 (by decide)]
    rw [show T.getD 45 undef = (.pointer (some ⟨p, 0, none⟩)) from hf 1 (by decide)]
    rw [show T.getD 46 undef = (.pointer (some ⟨p, 0, none⟩)) from hf 2 (by decide)]
    rw [show T.getD 47 undef = (.pointer (some ⟨p, 1, none⟩)) from hf 3 (by decide)]
    rw [show T.getD 48 undef = rv from hf 4 (by decide)]
    rw [show T.getD 49 undef = (.pointer (some ⟨p, 0, none⟩)) from hf 5 (by decide)]
    rw [show T.getD 50 undef = (.pointer (some ⟨p, 0, none⟩)) from hf 6 (by decide)]
    rw [show T.getD 51 undef = (.pointer (some ⟨p, 2, none⟩)) from hf 7 (by decide)]
    rw [show T.getD 52 undef = (.int .i64 k) from hf 8 (by decide)]
    rw [show T.getD 53 undef = (.string (strB wd)) from hf 9 (by decide)]
    rw [show T.getD 54 undef = (.pointer (some ⟨p, 0, none⟩)) from hf 10 (by decide)]
    rw [show T.getD 55 undef = (.pointer (some ⟨p, 0, none⟩)) from hf 11 (by decide)]
    rw [show T.getD 56 undef = (.pointer (some ⟨p, 3, none⟩)) from hf 12 (by decide)]
    rw [show T.getD 57 undef = (.int .i64 f) from hf 13 (by decide)]
    rw [show T.getD 58 undef = (.agg #[.int .i64 k, .string (strB wd), .int .i64 f]) from hf 14 (by decide)]
    rw [show T.getD 61 undef = (.pointer (some ⟨p, 0, none⟩)) from hf 17 (by decide)]
    rw [show T.getD 62 undef = (.pointer (some ⟨p, 1, none⟩)) from hf 18 (by decide)]
    clear hf hs hv hcur
    simp only [getD_toArray, List.getD_cons_succ, List.getD_cons_zero]
    generalize T.getD 59 undef = y59
    generalize T.getD 60 undef = y60
    clear T
    replace hu := hide hu
    replace hcur1 := hide hcur1
    go_wp2_with fail
    show Q (.returned (.int .i64 0)) _
    rw [← hQ.out]
    show EndF p B tx ts k f W ((St.word k f wd).fin ts c) _ _
    rw [fin_ok hn.out]
    have hBW := Nat.le_trans hBp.out (Nat.le_of_lt (Array.getElem?_eq_some_iff.1 hh.out).1)
    refine ⟨(hb2.out.mono hBW).trans (hu.out.below (Nat.le_trans hBW hb2.out.size) ?_), rfl, hcur1.out⟩
    rintro b (rfl | hb)
    · exact hBp.out
    · exact (World.ownsRow.lt hpre.out.row b hb).1
  · have hz' : ((n : Int) != 0) = true := by rw [bne_iff_ne]; omega
    go_wp2_with fail
    show Q (.returned (.int .i64 n)) _
    rw [← hQ.out]
    show EndF p B tx ts k f W ((St.word k f wd).fin ts c) _ _
    rw [fin_err hn.out hz]
    exact ⟨hb2.out.mono (Nat.le_trans hBp.out (Nat.le_of_lt (Array.getElem?_eq_some_iff.1 hh.out).1)), rfl, hz, rfl, ⟨rv, hpre.out.heap, hpre.out.row⟩, hpre.out.base⟩

set_option maxRecDepth 100000 in
set_option maxHeartbeats 800000 in
theorem end_any (p B : Nat) (tx : List UInt8) (ts : List Tok) (st : St) (fr i : Nat) (c : UInt8) (w : World) (hR : RdrV w p B tx ts st.kind fr) (hs : st.fits tx fr i) (hi : tx[i]? = some c) (hT : tx.length ≤ 1000000) (htl : ts.length ≤ 1000000) (hE : ErrR w) :
    Calls Tryz.prog 70 #[.pointer (some ⟨p, 0, none⟩), .int .i64 i] w fun e w' => EndF p B tx ts st.kind fr w (st.fin ts c) e w' := by
  have hR0 := hide hR
  obtain ⟨rv, hh, h2⟩ := hR.row
  have hB := hR.base
  cases st with
  | blank =>
    have c2 : w.cell? ⟨p, 2, none⟩ = some (.int .i64 3) := cell_at hh 2
    generalize hQ : (fun e w' => EndF p B tx ts St.blank.kind fr w (St.blank.fin ts c) e w') = Q
    replace hQ := hide hQ
    replace hh := hide hh
    replace h2 := hide h2
    go_enter Tryz.func70, Tryz.ntmps70
    go_wp2_with fail
    show Q (.returned (.int .i64 0)) _
    rw [← hQ.out]
    exact ⟨Below.refl _ _, rfl, hR0.out⟩
  | com =>
    have c2 : w.cell? ⟨p, 2, none⟩ = some (.int .i64 4) := cell_at hh 2
    generalize hQ : (fun e w' => EndF p B tx ts St.com.kind fr w (St.com.fin ts c) e w') = Q
    replace hQ := hide hQ
    replace hh := hide hh
    replace h2 := hide h2
    go_enter Tryz.func70, Tryz.ntmps70
    go_wp2_with fail
    show Q (.returned (.int .i64 0)) _
    rw [← hQ.out]
    exact ⟨Below.refl _ _, rfl, hR0.out⟩
  | word k f x =>
    obtain ⟨rfl, h1, h2', hx2, hk, h3⟩ := hs
    exact end_word p B tx ts k f i c x rv w ⟨hh, h2, hB⟩ hi h1 h2' hx2 hk h3 hT htl hE
end Go.Proofs.YteplkhgaoaphhaaGreatDoor
/- The walk of lex.Tokens. -/
namespace Go.Proofs.YteplkhgaoaphhaaGreatDoor
open Go Go.RowKit

theorem begin_kind (i : Nat) (c : UInt8) : (St.begin i c).kind = kindB c.toNat := by
  unfold St.begin kindB
  have h35 : c = 35 ↔ c.toNat = 35 := ⟨fun h => by rw [h]; rfl, fun h => UInt8.toNat_inj.1 (by rw [h]; rfl)⟩
  by_cases h1 : blankB c.toNat = true
  · rw [if_pos h1, if_pos h1]; rfl
  · rw [if_neg h1, if_neg h1]
    by_cases h2 : c = 35
    · rw [if_pos h2, if_pos (h35.1 h2)]; rfl
    · rw [if_neg h2, if_neg (fun h => h2 (h35.2 h))]
      by_cases h3 : letterB c.toNat = true
      · rw [if_pos h3, if_pos h3]; rfl
      · rw [if_neg h3, if_neg h3]
        by_cases h4 : digitB c.toNat = true
        · rw [if_pos h4, if_pos h4]; rfl
        · rw [if_neg h4, if_neg h4]; rfl
theorem begin_fits {T : List UInt8} {i : Nat} {c : UInt8} (h : T[i]? = some c) : (St.begin i c).fits T i (i + 1) := by
  have hi : i < T.length := by
    rcases Nat.lt_or_ge i T.length with h1 | h1
    · exact h1
    · rw [List.getElem?_eq_none h1] at h; cases h
  have hw : [c] = (T.drop i).take (i + 1 - i) := by
    rw [take_next (Nat.le_refl i) h]
    simp
  unfold St.begin
  split
  · trivial
  · split
    · trivial
    · split
      · exact ⟨rfl, by omega, by omega, hw, by omega, fun h => by cases h⟩
      · split
        · rename_i hd
          exact ⟨rfl, by omega, by omega, hw, by omega, fun _ x hx => by rw [List.mem_singleton] at hx; rw [hx]; exact hd⟩
        · exact ⟨rfl, by omega, by omega, hw, by omega, fun h => by cases h⟩
theorem push_fits {T : List UInt8} {fr i : Nat} {c : UInt8} {st : St} (hs : st.fits T fr i) (h : T[i]? = some c) (hg : st.goes c = true) : (st.push c).fits T fr (i + 1) := by
  have hi : i < T.length := by
    rcases Nat.lt_or_ge i T.length with h1 | h1
    · exact h1
    · rw [List.getElem?_eq_none h1] at h; cases h
  cases st with
  | blank => trivial
  | com => trivial
  | word k f x =>
    obtain ⟨rfl, h1, h2, hx, hk, h3⟩ := hs
    refine ⟨rfl, by omega, by omega, ?_, hk, ?_⟩
    · rw [take_next (by omega) h, hx]
    · rintro rfl y hy
      rw [List.mem_append, List.mem_singleton] at hy
      rcases hy with hy | rfl
      · exact h3 rfl y hy
      · exact hg
theorem push_kind (st : St) (c : UInt8) : (st.push c).kind = st.kind := by cases st <;> rfl
theorem fin_len {st : St} {ts ts' : List Tok} {c : UInt8} (h : st.fin ts c = .ok ts') : ts'.length ≤ ts.length + 1 := by
  cases st with
  | blank => injection h with h; rw [← h]; omega
  | com => injection h with h; rw [← h]; omega
  | word k f x =>
    by_cases hz : fault k x c = 0
    · rw [fin_ok hz] at h
      injection h with h; rw [← h]; simp
    · rw [fin_err rfl hz] at h; cases h
theorem runT_goes {st : St} {i : Nat} {ts : List Tok} {c : UInt8} {r : List UInt8} (h : st.goes c = true) : runT st i ts (c :: r) = runT (st.push c) (i + 1) ts r := by
  rw [runT, if_pos h]
theorem runT_err {st : St} {i : Nat} {ts : List Tok} {c : UInt8} {r : List UInt8} {x : Nat × Nat} (h : st.goes c = false) (hf : st.fin ts c = .error x) : runT st i ts (c :: r) = .error x := by
  rw [runT, if_neg (by rw [h]; simp), hf]
theorem runT_ok {st : St} {i : Nat} {ts ts' : List Tok} {c : UInt8} {r : List UInt8} (h : st.goes c = false) (hf : st.fin ts c = .ok ts') : runT st i ts (c :: r) = runT (St.begin i c) (i + 1) ts' r := by
  rw [runT, if_neg (by rw [h]; simp), hf]
theorem drop_at {T : List UInt8} {i : Nat} (h : i < T.length) : ∃ c, T[i]? = some c ∧ T.drop i = c :: T.drop (i + 1) := ⟨T[i], List.getElem?_eq_getElem h, List.drop_eq_getElem_cons h⟩

/-- What Tokens comes to. -/
def TokF (W : World) (r : Res) (e : Ending) (w : World) : Prop :=
  Below W.heap.size W w ∧ match r with
    | .ok ts => ∃ v, e = .returned (.tuple #[v, .int .i64 0, .int .i64 0]) ∧ ToksR w W.heap.size v ts
    | .error (a, n) => e = .returned (.tuple #[.slice none 0 0, .int .i64 a, .int .i64 n]) ∧ n ≠ 0

set_option maxRecDepth 100000 in
set_option maxHeartbeats 1600000 in
theorem tokens_any (l : List UInt8) (hl : l.length ≤ 900000) (W : World) (hE : ErrR W) : Calls Tryz.prog 43 #[.string (strB l)] W fun e w' => TokF W (lexT l) e w' := by
  have hz : (strB l).size = l.length := rfl
  have hN := hide (newReader_any l (by omega) W)
  generalize hQ : (fun e w' => TokF W (lexT l) e w') = Q
  replace hQ := hide hQ
  replace hE := hide hE
  go_enter Tryz.func43, Tryz.ntmps43
  by_cases h4 : 4096 < l.length
  · have h4' : (4096 : Int) < (l.length : Int) := by omega
    go_wp2_with fail
    go_ret3
    show Q (.returned (.tuple #[.slice none 0 0, .int .i64 0, .int .i64 53])) _
    rw [← hQ.out]
    show TokF W (lexT l) _ _
    unfold lexT
    rw [if_pos h4]
    exact ⟨Below.refl _ _, rfl, by decide⟩
  · have hlx : lexT l = runT .blank 0 [] (l ++ [10]) := by unfold lexT; rw [if_neg h4]
    obtain ⟨tx, htx⟩ : ∃ tx, tx = l ++ [10] := ⟨_, rfl⟩
    have hlen : tx.length = l.length + 1 := by rw [htx]; simp
    have hzt : (strB tx).size = tx.length := rfl
    rw [← htx] at hN hlx
    replace hlx := hide hlx
    clear htx
    go_wp2_with fail
    refine hN.out.mono ?_
    rintro e w1 ⟨rfl, hR, hb⟩
    have c0 : w1.cell? ⟨W.heap.size, 0, none⟩ = some (.string (strB tx)) := by
      obtain ⟨v, h1, -⟩ := hR.row
      exact cell_at h1 0
    have hp := hide hR.lt
    replace hR := hide hR
    replace hb := hide hb
    go_wp2_with fail
    go_loopw [18] (fun z wr => ∃ (i : Nat) (st : St) (ts : List Tok) (fr : Nat), i ≤ tx.length ∧ z = .int .i64 i ∧ ts.length ≤ i ∧ RdrV wr W.heap.size W.heap.size tx ts st.kind fr ∧ st.fits tx fr i ∧ Below W.heap.size W wr ∧ runT st i ts (tx.drop i) = lexT l) (fun z _ => tx.length - (intOf z).toNat)
    case atStart => exact ⟨0, .blank, [], 0, Nat.zero_le _, rfl, Nat.le_refl _, hR.out, trivial, hb.out, by rw [hlx.out]; rfl⟩
    case round =>
      obtain ⟨i, st, ts, fr, hi, rfl, hts, hRr, hfit, hbr, hrun⟩ := hrel
      have hEr := hide (hE.out.below hbr)
      replace hbr := hide hbr
      replace hrun := hide hrun
      replace hRr := hide hRr
      replace hfit := hide hfit
      by_cases hlt : i < tx.length
      · obtain ⟨c, hc, hd⟩ := drop_at hlt
        have hlt' : (i : Int) < (tx.length : Int) := by omega
        rw [hd] at hrun
        have hG := hide (goesOn_any W.heap.size W.heap.size tx ts st fr i c wr hRr.out hfit.out hc (by omega))
        go_wp2_with fail
        refine hG.out.mono ?_
        rintro e w2 ⟨rfl, hb2⟩
        have hR2 := hide (hRr.out.upd hb2)
        have hE2 := hide (hEr.out.below hb2)
        have hW2 := hide (hbr.out.trans (hb2.mono hbr.out.size))
        clear hb2
        cases hg : st.goes c with
        | true =>
          have hrun2 := hrun.out
          rw [runT_goes hg] at hrun2
          replace hrun2 := hide hrun2
          have hgh := hide hg
          clear hg
          go_wp2_with fail
          go_roundw
          case rel => exact ⟨i + 1, st.push c, ts, fr, by omega, by go_num, by omega, by rw [push_kind]; exact hR2.out, push_fits hfit.out hc hgh.out, hW2.out, hrun2.out⟩
          case measure => simp [intOf]; omega
        | false =>
          have hgh := hide hg
          clear hg
          have hEn := hide (end_any W.heap.size W.heap.size tx ts st fr i c w2 hR2.out hfit.out hc (by omega) (by omega) hE2.out)
          go_wp2_with fail
          refine hEn.out.mono ?_
          rintro e w3 ⟨hb3, hres⟩
          have hW3 := hide (hW2.out.trans hb3)
          cases hf : st.fin ts c with
          | error x =>
            obtain ⟨a, n⟩ := x
            rw [hf] at hres
            obtain ⟨rfl, hn, rfl, hR3⟩ := hres
            have hrun2 := hrun.out
            rw [runT_err hgh.out hf] at hrun2
            replace hrun2 := hide hrun2
            have hn' : ((n : Int) != 0) = true := by rw [bne_iff_ne]; omega
            have c3 : w3.cell? ⟨W.heap.size, 3, none⟩ = some (.int .i64 a) := by
              obtain ⟨v, h1, -⟩ := hR3.row
              exact cell_at h1 3
            clear hf hb3 hR3
            go_wp2_with fail
            go_region
            all_goals go_wp2_with fail
            all_goals go_ret3
            all_goals (
              show Q (.returned (.tuple #[.slice none 0 0, .int .i64 a, .int .i64 n])) _
              rw [← hQ.out]
              show TokF W (lexT l) _ _
              rw [← hrun2.out]
              exact ⟨⟨hW3.out.os, hW3.out.tape, hW3.out.output, hW3.out.size, hW3.out.block⟩, rfl, hn⟩)
          | ok ts' =>
            rw [hf] at hres
            obtain ⟨rfl, hR3⟩ := hres
            have hts' := fin_len hf
            have hrun2 := hrun.out
            rw [runT_ok hgh.out hf] at hrun2
            replace hrun2 := hide hrun2
            have hBe := hide (begin_any W.heap.size W.heap.size tx ts' _ fr i c w3 hR3 hc)
            clear hf hb3 hR3
            go_wp2_with fail
            refine hBe.out.mono ?_
            rintro e w4 ⟨rfl, hR4, hb4⟩
            have hW4 := hide (hW3.out.trans hb4)
            replace hR4 := hide hR4
            clear hb4
            go_wp2_with fail
            go_roundw
            case rel => exact ⟨i + 1, St.begin i c, ts', i, by omega, by go_num, by omega, by rw [begin_kind]; exact hR4.out, begin_fits hc, hW4.out, hrun2.out⟩
            case measure => simp [intOf]; omega
      · obtain rfl : i = tx.length := by omega
        have hlt' : ¬ ((tx.length : Int) < (tx.length : Int)) := by omega
        rw [List.drop_length] at hrun
        obtain ⟨v, h1, h2⟩ := hRr.out.row
        have c1 : wr.cell? ⟨W.heap.size, 1, none⟩ = some v := cell_at h1 1
        replace h1 := hide h1
        replace h2 := hide h2
        go_wp2_with fail
        go_ret3
        show Q (.returned (.tuple #[v, .int .i64 0, .int .i64 0])) _
        rw [← hQ.out]
        show TokF W (lexT l) _ _
        rw [← hrun.out]
        exact ⟨hbr.out, v, rfl, h2.out⟩
end Go.Proofs.YteplkhgaoaphhaaGreatDoor
/- The parser in memory: its tokens, its place, its depth, its count; what a call comes to. -/
namespace Go.Proofs.YteplkhgaoaphhaaGreatDoor
open Go Go.RowKit

/-- A token as lex tells it. -/
structure Good (t : Tok) : Prop where
  kind : t.kind ≤ 2
  ne : t.text ≠ []
  len : t.text.length ≤ 1000000
  num : t.kind = 1 → (∀ c ∈ t.text, digitB c.toNat = true) ∧ valL t.text ≤ 9223372036854775807
  name : t.kind ≠ 1 → ∃ c ∈ t.text, digitB c.toNat = false
/-- What does not turn while a text is read: its tokens, where they lie, its length. -/
structure Cx where
  vt : Value
  ts : List Tok
  len : Nat
  base : Nat
structure CxOk (C : Cx) : Prop where
  small : C.ts.length ≤ 1000000
  good : ∀ t ∈ C.ts, Good t
/-- Of the block p alone. -/
abbrev At (p : Nat) : Nat → Prop := fun k => k = p
/-- The parser in block p has the tokens r left; so many things are open, so many statements have begun. -/
structure PsW (w : World) (p : Nat) (C : Cx) (d n : Nat) (r : List Tok) : Prop where
  row : ToksR w C.base C.vt C.ts
  heap : ∃ i : Nat, w.heap[p]? = some (.cells #[C.vt, .int .i64 i, .int .i64 C.len, .int .i64 d, .int .i64 n] 102 (0, 0)) ∧ i ≤ C.ts.length ∧ C.ts.drop i = r
  hd : d ≤ 40
  hn : n ≤ 200
  ok : CxOk C
section
variable {w w' : World} {p : Nat} {C : Cx} {d n : Nat} {r : List Tok}
theorem PsW.lt (h : PsW w p C d n r) : p < w.heap.size := by
  obtain ⟨i, h1, -⟩ := h.heap
  exact (Array.getElem?_eq_some_iff.1 h1).1
theorem PsW.own (h : PsW w p C d n r) : C.vt.ownBlock ≠ some p := fun e => by
  obtain ⟨i, h1, -⟩ := h.heap
  exact absurd (own_type h.row e h1) (by decide)
theorem PsW.upd {F : Nat → Prop} (h : PsW w p C d n r) (hu : Upd F w w') (hp : ¬ F p) (hF : ∀ k, C.vt.ownBlock = some k → ¬ F k) : PsW w' p C d n r := by
  obtain ⟨i, h1, h2⟩ := h.heap
  exact ⟨hu.own h.row hF, ⟨i, hu.heap h1 hp, h2⟩, h.hd, h.hn, h.ok⟩
theorem PsW.below (h : PsW w p C d n r) (hb : Below w.heap.size w w') : PsW w' p C d n r := h.upd (F := fun _ => False) (.of_below _ hb) id fun _ _ => id
theorem PsW.alloc (h : PsW w p C d n r) (o : Obj) : PsW (w.alloc o) p C d n r := h.upd (F := fun _ => False) (.alloc _ _ _) id fun _ _ => id
/-- One of its own cells is set anew. -/
theorem PsW.set (h : PsW w p C d n r) {i d' n' : Nat} {r' : List Tok} (o : Nat) (u : Value) (hh : (w.setCell ⟨p, o, none⟩ u).heap[p]? = some (.cells #[C.vt, .int .i64 i, .int .i64 C.len, .int .i64 d', .int .i64 n'] 102 (0, 0)))
    (hi : i ≤ C.ts.length) (hr : C.ts.drop i = r') (hd : d' ≤ 40) (hn : n' ≤ 200) : PsW (w.setCell ⟨p, o, none⟩ u) p C d' n' r' :=
  ⟨(Upd.set w (F := At p) (a := ⟨p, o, none⟩) rfl u).own h.row fun k hk e => h.own (by rw [hk]; exact congrArg some e), ⟨i, hh, hi, hr⟩, hd, hn, h.ok⟩
end
/-- The token that is next. -/
def hdT (len : Nat) : List Tok → Tok
  | [] => ⟨3, [], len⟩
  | t :: _ => t
theorem hdT_text (len : Nat) (r : List Tok) : (hdT len r).text = txt r := by cases r <;> rfl
theorem hdT_at (len : Nat) (r : List Tok) : (hdT len r).at_ = atOf len r := by cases r <;> rfl
def tokV (t : Tok) : Value := .agg #[.int .i64 t.kind, .string (strB t.text), .int .i64 t.at_]
/-- What a call of the parser's comes to. -/
def faultV (a k : Nat) : Value := .iface 97 (.agg #[.int .i64 a, .int .i64 k])
def Got {α : Type} (p : Nat) (C : Cx) (w : World) (R : Value → World → α → List Tok → Prop) (x : Rs α) (e : Ending) (w' : World) : Prop :=
  Upd (At p) w w' ∧ match x with
    | .ok a r => ∃ v, e = .returned v ∧ R v w' a r
    | .er r k => e = .panicked [{ v := faultV (atOf C.len r) k, recovered := false }]
    | .no => False

theorem flat_get {α : Type} (f : α → List Value) (k : Nat) (hf : ∀ a, (f a).length = k) : ∀ (l : List α) (i : Nat) (h : i < l.length) (j : Nat), j < k → (l.map f).flatten[k * i + j]? = (f l[i])[j]?
  | a :: l, 0, _, j, hj => by
    rw [List.map_cons, List.flatten_cons, List.getElem?_append_left (by rw [hf]; omega)]
    simp
  | a :: l, i + 1, h, j, hj => by
    rw [List.map_cons, List.flatten_cons, List.getElem?_append_right (by rw [hf, Nat.mul_succ]; omega), hf, show k * (i + 1) + j - k = k * i + j by rw [Nat.mul_succ]; omega]
    exact flat_get f k hf l i (by simpa using h) j hj
theorem ToksR.slice {w : World} {B : Nat} {v : Value} {ts : List Tok} (h : ToksR w B v ts) : ∃ A c, v = .slice A ts.length c ∧ ts.length ≤ maxLen := by
  rcases h.2 with ⟨rfl, h0⟩ | ⟨g, cap, cur, rfl, _, _, h1, h2, _⟩
  · rw [h0]; exact ⟨_, _, rfl, Nat.zero_le _⟩
  · exact ⟨_, _, rfl, Nat.le_trans h1 h2⟩
theorem ToksR.get {w : World} {B : Nat} {A : Option Addr} {n c : Nat} {ts : List Tok} (h : ToksR w B (.slice A n c) ts) {i : Nat} {t : Tok} (hi : ts[i]? = some t) :
    ∃ b, A = some ⟨b, 0, none⟩ ∧ w.cell? ⟨b, i * 3, none⟩ = some (.int .i64 t.kind) ∧ w.cell? ⟨b, i * 3 + 1, none⟩ = some (.string (strB t.text)) ∧ w.cell? ⟨b, i * 3 + 2, none⟩ = some (.int .i64 t.at_) := by
  obtain ⟨hi', rfl⟩ := List.getElem?_eq_some_iff.1 hi
  have key : ∀ b, A = some ⟨b, 0, none⟩ → ∀ (j : Nat) (u : Value), j < 3 → (Tok.cells ts[i])[j]? = some u → w.cell? ⟨b, i * 3 + j, none⟩ = some u := by
    rintro b rfl j u hj hu
    have h1 := World.ownsRow.cells (g := b) h rfl (3 * i + j) u ((flat_get Tok.cells 3 (fun _ => rfl) ts i hi' j hj).trans hu)
    rw [Go.WideShapes.add_plain] at h1
    rw [← h1]
    congr 2
    omega
  rcases h.2 with ⟨h1, h0⟩ | ⟨g, cap, cur, h1, hb, _⟩
  · omega
  · injection h1 with e1 _ _
    subst e1
    exact ⟨g, rfl, key g rfl 0 _ (by decide) rfl, key g rfl 1 _ (by decide) rfl, key g rfl 2 _ (by decide) rfl⟩
end Go.Proofs.YteplkhgaoaphhaaGreatDoor
