/- Part 2 of the walks (merged): Disk, Quiet, Num, Math, WalkA, Frames, FramesOf. -/
import Derived.Test.YtpnboihbifhigaaGreatDoorM1
import Derived.Maps.OwnSet
import Derived.Maps.OwnOps
import Derived.Maps.RangeWalk
import Derived.RangeFuncOwn
import Derived.Lib.SliceRun
import Derived.Maps.AppendAt
import Derived.LoopN
import Derived.Recover
import Derived.Laws.BitsAllLaws
import Derived.Test.YtpnboihbifhigaaGreatDoorRows
import Derived.WalkSpells
import Derived.WalkLawsBesides
import Derived.Handy
/- The disk in memory: what it holds, and how that is kept. -/
namespace Go.Proofs.YtpnboihbifhigaaGreatDoor
open Go Go.RowKit

/-- What a disk holds. -/
structure DS where
  n : Nat
  size : Nat
  dur : Nat → List UInt8
  wr : Nat → Option (List UInt8)
  dead : Bool
  sched : Bool
  left : Nat

/-- An element of a map stands for itself. -/
def heldE (v : Value) : Option (DataW Value × List MemPlace) := match v with | .slice a n c => some (.held (.slice a n c), []) | _ => none
theorem heldE_inv {v : Value} {y : DataW Value × List MemPlace} (h : heldE v = some y) : (∃ x : Option Addr × Nat × Nat, v = .slice x.1 x.2.1 x.2.2) ∧ y = (.held v, []) := by
  unfold heldE at h
  split at h
  · injection h with h
    exact ⟨⟨(_, _, _), rfl⟩, h.symm⟩
  · cases h
theorem heldE_val {v u : Value} {ps : List MemPlace} (h : heldE v = some (.held u, ps)) : v = u := by
  have := (heldE_inv h).2
  injection this with h1 _
  injection h1 with h1
  exact h1.symm
abbrev DV := DataW Value
theorem int_key : Maps.Keyed Tryz.prog 3 := Maps.int_keyed Tryz.underlying3
def kI (i : Nat) : Lit := .int .i64 (i : Int)
/-- How many of the first N have one. -/
def cnt (g : Nat → Option Value) (N : Nat) : Nat := (List.range N).countP fun i => (g i).isSome

/-- The map in block mb has just the entries of g, at keys below N. -/
def MapV (w : World) (mb N : Nat) (g : Nat → Option Value) : Prop :=
  ∃ D : DV, w.ownsMap Tryz.prog 3 heldE mb (cnt g N) D ∧ Maps.size D = cnt g N ∧ (∀ kl, Maps.has D kl = true → ∃ i, i < N ∧ kl = kI i) ∧
    ∀ i, i < N → Maps.has D (kI i) = (g i).isSome ∧ ∀ zd, D.atKey (kI i) zd = match g i with | some v => .held v | none => zd

theorem MapV.upd {w w' : World} {F : Nat → Prop} {mb N : Nat} {g : Nat → Option Value} (h : MapV w mb N g) (hu : Upd F w w') (hn : ¬ F mb) : MapV w' mb N g := by
  obtain ⟨D, ⟨es, clock, hb, r⟩, h2⟩ := h
  exact ⟨D, ⟨es, clock, hu.heap hb hn, r⟩, h2⟩
theorem MapV.lt {w : World} {mb N : Nat} {g : Nat → Option Value} (h : MapV w mb N g) : mb < w.heap.size := by
  obtain ⟨D, h1, _⟩ := h
  exact h1.lt
theorem MapV.made (w : World) (N : Nat) : MapV (w.alloc (.map #[] 0)) w.heap.size N (fun _ => none) := by
  have hc : cnt (fun _ => none) N = 0 := by simp [cnt]
  refine ⟨.map [], by rw [hc]; exact World.ownsMap_made _ _ _ _, by rw [hc]; rfl, fun kl h => (by simp [Maps.has] at h), fun i hi => ⟨rfl, fun zd => rfl⟩⟩

theorem RowB.arg {w : World} {B : Nat} {v : Value} {l : List UInt8} (h : RowB w B v l) : ArgV w (fun k => B ≤ k) v (bv l) := by
  obtain ⟨h1, h2⟩ := h
  rcases h2 with ⟨rfl, h0⟩ | ⟨g, cap, cur, rfl, hb, hg, hn, hc, hs, ht⟩
  · have : l = [] := List.eq_nil_of_length_eq_zero h0
    subst this
    exact ⟨none, 0, rfl, Nat.le_refl _, by unfold maxLen; simp, .inl rfl⟩
  · refine ⟨_, cap, by rw [bv_len], by rw [bv_len]; exact hn, hc, .inr ⟨g, 0, rfl, hb, fun i u hi => ?_⟩⟩
    have := World.ownsRow.cells (w := w) (base := B) (e := 5) (size := 1) (n := l.length) (xs := bv l) (v := .slice (some ⟨g, 0, none⟩) l.length cap) ⟨h1, .inr ⟨g, cap, cur, rfl, hb, hg, hn, hc, hs, ht⟩⟩ (g := g) rfl i u hi
    rwa [Go.WideShapes.add_plain] at this

theorem ownsMap_tight {w : World} {R : Value → Option (DataW Value × List MemPlace)} {k : TypeId} {b n : Nat} {D : DV} (h : w.ownsMap Tryz.prog k R b n D) : w.ownsMap Tryz.prog k R b (Maps.size D) D := by
  obtain ⟨es, clock, hb, F, _, rfl⟩ := h
  refine ⟨es, clock, hb, F, ?_, rfl⟩
  rw [Maps.size_eq, length_sorted]
  simp
/-- g, and v at i. -/
def setAt {α : Type} (g : Nat → Option α) (i : Nat) (v : α) : Nat → Option α := fun j => if j = i then some v else g j
theorem setAt_self {α : Type} (g : Nat → Option α) (i : Nat) (v : α) : setAt g i v i = some v := by simp [setAt]
theorem setAt_other {α : Type} (g : Nat → Option α) {i j : Nat} (v : α) (h : j ≠ i) : setAt g i v j = g j := by simp [setAt, h]
theorem cnt_setAt (g : Nat → Option Value) (i : Nat) (v : Value) : ∀ N, cnt (setAt g i v) N = cnt g N + (if i < N then (if (g i).isSome then 0 else 1) else 0)
  | 0 => by simp [cnt]
  | N + 1 => by
    have ih := cnt_setAt g i v N
    unfold cnt at ih ⊢
    rw [List.range_succ, List.countP_append, List.countP_append, ih, List.countP_singleton, List.countP_singleton]
    rcases Nat.lt_trichotomy i N with h | h | h
    · rw [setAt_other g v (by omega : N ≠ i), if_pos h, if_pos (show i < N + 1 by omega)]; omega
    · subst h
      rw [setAt_self, if_neg (show ¬ i < i by omega), if_pos (show i < i + 1 by omega)]
      cases g i <;> simp
    · rw [setAt_other g v (by omega : N ≠ i), if_neg (show ¬ i < N by omega), if_neg (show ¬ i < N + 1 by omega)]; omega
theorem cnt_le (g : Nat → Option Value) (N : Nat) : cnt g N ≤ N := by
  unfold cnt
  have := List.countP_le_length (p := fun i => (g i).isSome) (l := List.range N)
  simpa using this
theorem kI_ne {i j : Nat} (h : j ≠ i) : kI j ≠ kI i := by
  unfold kI
  intro e
  injection e with _ e
  omega
theorem kI_key (i : Nat) : WideAt.IsKeyLit (kI i) := trivial
theorem MapV.put {w' : World} {mb N : Nat} {g : Nat → Option Value} {D : DV} {i : Nat} {v : Value} (hi : i < N) (hm : Maps.Tidy D) (hsz : Maps.size D = cnt g N) (hk : ∀ kl, Maps.has D kl = true → ∃ i, i < N ∧ kl = kI i)
    (hat : ∀ i, i < N → Maps.has D (kI i) = (g i).isSome ∧ ∀ zd, D.atKey (kI i) zd = match g i with | some v => .held v | none => zd)
    {n : Nat} (h' : w'.ownsMap Tryz.prog 3 heldE mb n (D.put (kI i) (.held v))) : MapV w' mb N (setAt g i v) := by
  have hs : Maps.size (D.put (kI i) (.held v)) = cnt (setAt g i v) N := by
    rw [Maps.size_put hm, cnt_setAt, if_pos hi, (hat i hi).1, hsz]
    cases g i <;> simp
  have ht := ownsMap_tight h'
  rw [hs] at ht
  refine ⟨_, ht, hs, fun kl hkl => ?_, fun j hj => ?_⟩
  · by_cases e : kl = kI i
    · exact ⟨i, hi, e⟩
    · rw [Maps.has_put_other e] at hkl
      exact hk kl hkl
  · by_cases e : j = i
    · subst e
      rw [setAt_self]
      exact ⟨Maps.has_put_same hm.isMap (kI_key _) _, fun zd => Maps.atKey_put_same hm.isMap (kI_key _) _ _⟩
    · rw [setAt_other _ _ e, Maps.has_put_other (kI_ne e)]
      exact ⟨(hat j hj).1, fun zd => by rw [Maps.atKey_put_other (kI_ne e)]; exact (hat j hj).2 zd⟩

/-- Block k holds cells. -/
def IsC (w : World) (k : Nat) : Prop := ∃ cs t fr, w.heap[k]? = some (.cells cs t fr)
theorem isC_of_cell {w : World} {b o : Nat} {u : Value} (h : w.cell? ⟨b, o, none⟩ = some u) : IsC w b := by
  have hb := World.block_lt_of_cell? w _ h
  unfold World.cell? at h
  cases ho : w.heap[b]? with
  | none => rw [Array.getElem?_eq_none_iff] at ho; simp only at hb; omega
  | some ob =>
    simp only [ho] at h
    cases ob with
    | cells cs t fr => exact ⟨cs, t, fr, ho⟩
    | _ => simp at h
theorem IsC.upd {w w' : World} {F : Nat → Prop} {k : Nat} (h : IsC w k) (hu : Upd F w w') (hk : ¬ F k) : IsC w' k := by
  obtain ⟨cs, t, fr, h⟩ := h
  exact ⟨cs, t, fr, hu.heap h hk⟩
theorem IsC.lt {w : World} {k : Nat} (h : IsC w k) : k < w.heap.size := by
  obtain ⟨cs, t, fr, h⟩ := h
  exact (Array.getElem?_eq_some_iff.1 h).1
theorem ArgV.cel {w : World} {S : Nat → Prop} {v : Value} {xs : List Value} (h : ArgV w S v xs) : ArgV w (fun k => S k ∧ IsC w k) v xs := by
  obtain ⟨A, c, rfl, h2, h3, h4⟩ := h
  refine ⟨A, c, rfl, h2, h3, ?_⟩
  rcases h4 with h4 | ⟨b, o, rfl, hb, hc⟩
  · exact .inl h4
  · cases xs with
    | nil => exact .inl rfl
    | cons x xs => exact .inr ⟨b, o, rfl, ⟨hb, isC_of_cell (hc 0 x rfl)⟩, hc⟩
/-- The parts of a disk. -/
structure DiskAt (w : World) (sb db mb cap : Nat) (vs : Array Value) (g : Nat → Option Value) (R : Nat → Prop) (D : DS) : Prop where
  head : w.heap[sb]? = some (.cells #[.int .i64 D.size, .slice (some ⟨db, 0, none⟩) D.n cap, .map (some mb), .bool D.dead, .bool D.sched, .int .i64 D.left] 56)
  arr : w.heap[db]? = some (.cells vs 62)
  len : vs.size = D.n
  cap : cap = D.n
  map : MapV w mb D.n g
  dur : ∀ i, i < D.n → (D.dur i).length = D.size ∧ ∃ v, vs[i]? = some v ∧ ArgV w R v (bv (D.dur i))
  wr : ∀ i, i < D.n → match g i, D.wr i with | none, none => True | some v, some l => l.length = D.size ∧ ArgV w R v (bv l) | _, _ => False
  ne : ¬ R sb ∧ ¬ R db ∧ ¬ R mb ∧ sb ≠ db ∧ sb ≠ mb ∧ db ≠ mb
  old : ∀ k, R k → IsC w k
  n1 : 1 ≤ D.n ∧ D.n ≤ 4096
  s1 : 64 ≤ D.size ∧ D.size ≤ 4096
  l1 : D.left ≤ 4611686018427387904
/-- The blocks of a disk. -/
def Foot (sb db mb : Nat) (R : Nat → Prop) : Nat → Prop := fun k => k = sb ∨ k = db ∨ k = mb ∨ R k
/-- The disk at block sb, in blocks of S, holds D. -/
def DiskM (w : World) (sb mb : Nat) (S : Nat → Prop) (D : DS) : Prop := ∃ db cap vs g R, DiskAt w sb db mb cap vs g R D ∧ S = Foot sb db mb R
def DiskV (w : World) (sb : Nat) (S : Nat → Prop) (D : DS) : Prop := ∃ db mb cap vs g R, DiskAt w sb db mb cap vs g R D ∧ S = Foot sb db mb R

theorem DiskAt.upd {w w' : World} {F : Nat → Prop} {sb db mb cap : Nat} {vs : Array Value} {g : Nat → Option Value} {R : Nat → Prop} {D : DS} (h : DiskAt w sb db mb cap vs g R D) (hu : Upd F w w') (hF : ∀ k, Foot sb db mb R k → ¬ F k) : DiskAt w' sb db mb cap vs g R D where
  head := hu.heap h.head (hF _ (.inl rfl))
  arr := hu.heap h.arr (hF _ (.inr (.inl rfl)))
  len := h.len
  cap := h.cap
  map := h.map.upd hu (hF _ (.inr (.inr (.inl rfl))))
  dur i hi := by
    obtain ⟨h1, v, h2, h3⟩ := h.dur i hi
    exact ⟨h1, v, h2, h3.upd hu fun k hk => hF k (.inr (.inr (.inr hk)))⟩
  wr i hi := by
    have := h.wr i hi
    split at this
    · trivial
    · exact ⟨this.1, this.2.upd hu fun k hk => hF k (.inr (.inr (.inr hk)))⟩
    · exact this
  ne := h.ne
  old k hk := (h.old k hk).upd hu (hF k (.inr (.inr (.inr hk))))
  n1 := h.n1
  s1 := h.s1
  l1 := h.l1
theorem DiskV.upd {w w' : World} {F S : Nat → Prop} {sb : Nat} {D : DS} (h : DiskV w sb S D) (hu : Upd F w w') (hF : ∀ k, S k → ¬ F k) : DiskV w' sb S D := by
  obtain ⟨db, mb, cap, vs, g, R, h1, rfl⟩ := h
  exact ⟨db, mb, cap, vs, g, R, h1.upd hu hF, rfl⟩
theorem DiskV.below {w w' : World} {S : Nat → Prop} {sb : Nat} {D : DS} (h : DiskV w sb S D) (hu : Below w.heap.size w w') : DiskV w' sb S D := h.upd (.of_below (fun _ => False) hu) fun _ _ => id
theorem DiskV.old {w : World} {S : Nat → Prop} {sb : Nat} {D : DS} (h : DiskV w sb S D) : ∀ k, S k → k < w.heap.size := by
  obtain ⟨db, mb, cap, vs, g, R, h1, rfl⟩ := h
  rintro k (rfl | rfl | rfl | hk)
  · exact (Array.getElem?_eq_some_iff.1 h1.head).1
  · exact (Array.getElem?_eq_some_iff.1 h1.arr).1
  · exact h1.map.lt
  · exact (h1.old k hk).lt
theorem DiskM.toV {w : World} {S : Nat → Prop} {sb mb : Nat} {D : DS} (h : DiskM w sb mb S D) : DiskV w sb S D := by
  obtain ⟨db, cap, vs, g, R, h⟩ := h
  exact ⟨db, mb, cap, vs, g, R, h⟩
theorem DiskV.toM {w : World} {S : Nat → Prop} {sb : Nat} {D : DS} (h : DiskV w sb S D) : ∃ mb, DiskM w sb mb S D ∧ mb < w.heap.size := by
  obtain ⟨db, mb, cap, vs, g, R, h, e⟩ := h
  exact ⟨mb, ⟨db, cap, vs, g, R, h, e⟩, h.map.lt⟩
theorem DiskM.upd {w w' : World} {F S : Nat → Prop} {sb mb : Nat} {D : DS} (h : DiskM w sb mb S D) (hu : Upd F w w') (hF : ∀ k, S k → ¬ F k) : DiskM w' sb mb S D := by
  obtain ⟨db, cap, vs, g, R, h1, rfl⟩ := h
  exact ⟨db, cap, vs, g, R, h1.upd hu hF, rfl⟩
/-- Whoever turns no cells, and not the map, leaves the disk as it was. -/
theorem DiskM.walk {w w' : World} {row : Option Nat} {S : Nat → Prop} {sb mb : Nat} {D : DS} (h : DiskM w sb mb S D) (hg : w.grownBy w' row) (hr : ∀ r, row = some r → r ≠ mb ∧ ∃ o : Obj, w.heap[r]? = some o ∧ o.isCells = false) : DiskM w' sb mb S D := by
  refine h.upd (F := fun k => row = some k) (.grown hg fun k hk => hk) fun k hk e => ?_
  obtain ⟨hne, o, ho, hc⟩ := hr k e
  obtain ⟨db, cap, vs, g, R, h1, rfl⟩ := h
  have key : ¬ IsC w k := fun ⟨cs, t, fr, hh⟩ => by rw [ho] at hh; injection hh with hh; rw [hh] at hc; cases hc
  rcases hk with rfl | rfl | rfl | hk
  · exact key ⟨_, _, _, h1.head⟩
  · exact key ⟨_, _, _, h1.arr⟩
  · exact hne rfl
  · exact key (h1.old k hk)
/-- Of what was there nothing has turned but what O owned; what O' owns is O's, or new. -/
def Mv (w : World) (O : Nat → Prop) (w' : World) (O' : Nat → Prop) : Prop := Upd O w w' ∧ ∀ k, O' k → O k ∨ w.heap.size ≤ k
theorem Mv.refl (w : World) (O : Nat → Prop) : Mv w O w O := ⟨.refl _ _, fun _ => .inl⟩
theorem Mv.trans {w w' w'' : World} {O O' O'' : Nat → Prop} (h : Mv w O w' O') (h' : Mv w' O' w'' O'') : Mv w O w'' O'' :=
  ⟨h.1.trans h'.1 fun k hk hO => (h.2 k hO).resolve_right (by omega), fun k hk => by
    rcases h'.2 k hk with h1 | h1
    · exact h.2 k h1
    · exact .inr (Nat.le_trans h.1.size h1)⟩
end Go.Proofs.YtpnboihbifhigaaGreatDoor
/- Walks of the disk: what only reads. -/
namespace Go.Proofs.YtpnboihbifhigaaGreatDoor
open Go Go.RowKit
section
variable {w : World} {sb db mb cap : Nat} {vs : Array Value} {g : Nat → Option Value} {R : Nat → Prop} {D : DS}
theorem DiskAt.c0 (h : DiskAt w sb db mb cap vs g R D) : w.cell? ⟨sb, 0, none⟩ = some (.int .i64 D.size) := by rw [cell_at h.head]; rfl
theorem DiskAt.c1 (h : DiskAt w sb db mb cap vs g R D) : w.cell? ⟨sb, 1, none⟩ = some (.slice (some ⟨db, 0, none⟩) D.n cap) := by rw [cell_at h.head]; rfl
theorem DiskAt.c2 (h : DiskAt w sb db mb cap vs g R D) : w.cell? ⟨sb, 2, none⟩ = some (.map (some mb)) := by rw [cell_at h.head]; rfl
theorem DiskAt.c3 (h : DiskAt w sb db mb cap vs g R D) : w.cell? ⟨sb, 3, none⟩ = some (.bool D.dead) := by rw [cell_at h.head]; rfl
theorem DiskAt.c4 (h : DiskAt w sb db mb cap vs g R D) : w.cell? ⟨sb, 4, none⟩ = some (.bool D.sched) := by rw [cell_at h.head]; rfl
theorem DiskAt.c5 (h : DiskAt w sb db mb cap vs g R D) : w.cell? ⟨sb, 5, none⟩ = some (.int .i64 D.left) := by rw [cell_at h.head]; rfl
theorem DiskAt.f (h : DiskAt w sb db mb cap vs g R D) (o : Nat) : w.frozen? ⟨sb, o, none⟩ = false := frozen_at h.head o

theorem dead_any (h : DiskAt w sb db mb cap vs g R D) : Calls Tryz.prog 174 #[.pointer (some ⟨sb, 3, none⟩)] w fun e w' => e = .returned (.bool D.dead) ∧ w = w' := by
  have c3 := h.c3
  replace h := hide h
  go_enter Tryz.func174, Tryz.ntmps174
  go_wp2_with fail
  go_ret
  exact ⟨rfl, rfl⟩
theorem sectors_any (h : DiskAt w sb db mb cap vs g R D) : Calls Tryz.prog 42 #[.pointer (some ⟨sb, 0, none⟩)] w fun e w' => e = .returned (.int .i64 D.n) ∧ w = w' := by
  have c1 := h.c1
  replace h := hide h
  go_enter Tryz.func42, Tryz.ntmps42
  go_wp2_with fail
  go_ret
  exact ⟨rfl, rfl⟩
theorem size_any (h : DiskAt w sb db mb cap vs g R D) : Calls Tryz.prog 43 #[.pointer (some ⟨sb, 0, none⟩)] w fun e w' => e = .returned (.int .i64 D.size) ∧ w = w' := by
  have c0 := h.c0
  replace h := hide h
  go_enter Tryz.func43, Tryz.ntmps43
  go_wp2_with fail
  go_ret
  exact ⟨rfl, rfl⟩
theorem has_any (h : DiskAt w sb db mb cap vs g R D) (i : Nat) (hi : i < D.n) : Calls Tryz.prog 175 #[.pointer (some ⟨sb, 0, none⟩), .int .i64 i] w fun e w' => e = .returned (.bool true) ∧ w = w' := by
  have c1 := h.c1
  replace h := hide h
  go_enter Tryz.func175, Tryz.ntmps175
  go_wp2_with fail
  go_ret
  exact ⟨by simp, rfl⟩
theorem reach_any (h : DiskAt w sb db mb cap vs g R D) (i : Nat) (hi : i < D.n) : Calls Tryz.prog 147 #[.pointer (some ⟨sb, 0, none⟩), .int .i64 i] w fun e w' => e = .returned (.int .i64 (if D.dead then 32 else 0)) ∧ w = w' := by
  have hd := dead_any h
  have hh := has_any h i hi
  cases hD : D.dead
  · rw [hD] at hd
    clear hD h
    go_enter Tryz.func147, Tryz.ntmps147
    go_wp2_with fail
    refine hd.mono ?_
    rintro e w' ⟨rfl, rfl⟩
    go_wp2_with fail
    refine hh.mono ?_
    rintro e w' ⟨rfl, rfl⟩
    go_wp2_with fail
    go_ret
    exact ⟨by simp, rfl⟩
  · rw [hD] at hd
    clear hD h
    go_enter Tryz.func147, Tryz.ntmps147
    go_wp2_with fail
    refine hd.mono ?_
    rintro e w' ⟨rfl, rfl⟩
    go_wp2_with fail
    go_ret
    exact ⟨by simp, rfl⟩
end
theorem eql_nil (w : World) (a : Option Addr) (n c n' c' : Nat) : (binOp .eql 62 (.slice a n c) (.slice none n' c')).run Tryz.prog w = .ok (.bool a.isNone) w := Lib.run_eql_slice_nil w _ _ a n c n' c' Tryz.underlying62
/-- bytes.Clone: the same bytes, in memory of their own. -/
theorem clone_any {w : World} {S : Nat → Prop} {v : Value} {l : List UInt8} (h : ArgV w S v (bv l)) (hl : l.length ≤ 70368744177664) : Calls Tryz.prog 79 #[v] w fun e w' => ∃ v', e = .returned v' ∧ RowB w' w.heap.size v' l ∧ Below w.heap.size w w' := by
  obtain ⟨A, c, rfl, h2, h3, h4⟩ := h
  have q := eql_nil
  replace h4 := hide h4
  cases A with
  | none =>
    go_enter Tryz.func79, Tryz.ntmps79
    go_wp2_with fail
    go_ret
    rcases h4.out with h0 | ⟨b, o, h0, _⟩
    · have : l = [] := by simpa [bv] using h0
      subst this
      exact ⟨_, rfl, RowB.nil_ _ _, Below.refl _ _⟩
    · cases h0
  | some a =>
    rw [bv_len] at h2 ⊢
    go_enter Tryz.func79, Tryz.ntmps79
    go_wp2_with (first | (at_builtin; refine wp_bytes rfl _ _ rfl w.heap.size _ [] rfl ?_ a l.length c l rfl rfl ?_ ?_ ?_ ?_) | go_in)
    · refine ⟨rfl, .inr ⟨w.heap.size, 0, #[], rfl, Nat.le_refl _, heap_alloc_new _ _, Nat.le_refl _, Nat.zero_le _, rfl, rfl⟩⟩
    · intro j u hj
      rcases h4.out with h0 | ⟨b, o, h0, _, hc⟩
      · rw [h0] at hj; simp at hj
      · obtain rfl := Option.some.inj h0
        rw [Go.WideShapes.add_plain]
        exact ((Below.refl w.heap.size w).alloc (Nat.le_refl _) _).cell (World.block_lt_of_cell? w _ (hc j u hj)) |>.trans (hc j u hj)
    · simpa using hl
    · simp
    · intro v' w' h1 h2 h3
      go_wp2_with fail
      go_ret
      refine ⟨_, rfl, by simpa using h1, ?_⟩
      exact ((Below.refl w.heap.size w).alloc (Nat.le_refl _) _).grown h2 (by simp) (fun k hk => by cases hk; exact Nat.le_refl _)
end Go.Proofs.YtpnboihbifhigaaGreatDoor
/- Numbers of four bytes: written, read. -/
namespace Go.Proofs.YtpnboihbifhigaaGreatDoor
open Go Go.RowKit
def num4 (n : Nat) : List UInt8 := [.ofNat n, .ofNat (n / 256), .ofNat (n / 65536), .ofNat (n / 16777216)]
def val4 : List UInt8 → Nat
  | [a, b, c, d] => a.toNat + 256 * b.toNat + 65536 * c.toNat + 16777216 * d.toNat
  | _ => 0
theorem val_num (n : Nat) (h : n < 4294967296) : val4 (num4 n) = n := by
  simp only [val4, num4, UInt8.toNat_ofNat']
  omega
theorem num_len (n : Nat) : (num4 n).length = 4 := rfl
theorem val_lt : ∀ l : List UInt8, val4 l < 4294967296
  | [a, b, c, d] => by have := a.toNat_lt; have := b.toNat_lt; have := c.toNat_lt; have := d.toNat_lt; simp only [val4]; omega
  | [] | [_] | [_, _] | [_, _, _] | _ :: _ :: _ :: _ :: _ :: _ => by simp [val4]

theorem i64_or_nat (a b : Nat) (ha : a < 9223372036854775808) (hb : b < 9223372036854775808) : bits .or .i64 (a : Int) (b : Int) = ((a ||| b : Nat) : Int) := by
  have hx : a ||| b < 2 ^ 63 := Nat.or_lt_two_pow (by omega) (by omega)
  show IntKind.i64.wrap ((BitVec.ofInt 64 (a : Int) ||| BitVec.ofInt 64 (b : Int)).toNat : Int) = _
  rw [BitVec.toNat_or, ofInt_u64 a (by omega), ofInt_u64 b (by omega), IntKind.wrap_i64]
  omega
theorem or_add (i x y : Nat) (hx : x < 2 ^ i) (h1 : x < 9223372036854775808) (h2 : y * 2 ^ i < 9223372036854775808) : bits .or .i64 (x : Int) ((y * 2 ^ i : Nat) : Int) = ((x + y * 2 ^ i : Nat) : Int) := by
  rw [i64_or_nat x _ h1 h2, Nat.or_comm, nat_join i _ _ (Nat.mul_mod_left _ _) hx, Nat.add_comm]
theorem need_any (b : Bool) (w : World) : Calls Tryz.prog 109 #[.bool b] w fun e w' => w = w' ∧ (b = true → e = .returned (.tuple #[])) ∧ (b = false → ∃ pv, e = .panicked [{ v := .iface 199 pv, recovered := false }]) := by
  cases b
  · go_enter Tryz.func109, Tryz.ntmps109
    go_wp2_with fail
    refine ⟨rfl, ?_⟩
    exact ⟨rfl, fun h => (by cases h), fun _ => ⟨_, rfl⟩⟩
  · go_enter Tryz.func109, Tryz.ntmps109
    go_wp2_with fail
    go_end0
    exact ⟨rfl, fun _ => rfl, fun h => (by cases h)⟩

abbrev Own (v : Value) : Nat → Prop := fun k => v.ownBlock = some k
theorem World.lt_alloc (w : World) (o : Obj) : w.heap.size < (w.alloc o).heap.size := by rw [World.size_alloc]; omega
theorem RowB.alloc {w : World} {B : Nat} {v : Value} {l : List UInt8} (h : RowB w B v l) (o : Obj) : RowB (w.alloc o) B v l := (Upd.alloc (fun _ => False) w o).own h fun _ _ => id
theorem RowB.upd {w w' : World} {F : Nat → Prop} {B : Nat} {v : Value} {l : List UInt8} (h : RowB w B v l) (hu : Upd F w w') (hn : ∀ k, Own v k → ¬ F k) : RowB w' B v l := hu.own h hn
theorem new_byte (w : World) (x : Value) (c : UInt8) (hx : x = .int .u8 c.toNat) : ∀ j u, (bv [c])[j]? = some u → (w.alloc (.cells #[x] 5)).cell? ((⟨w.heap.size, 0, none⟩ : Addr).add j) = some u := by
  subst hx
  exact cell_one_new w _ _
theorem mv_append {w w' : World} {o : Obj} {v v' : Value} (h : (w.alloc o).grownBy w' v.ownBlock) (h2 : ∀ k, v'.ownBlock = some k → v.ownBlock = some k ∨ w.heap.size + 1 ≤ k) : Mv w (Own v) w' (Own v') :=
  ⟨(Upd.alloc _ w o).then (.grown h fun _ hk => hk), fun k hk => (h2 k hk).imp id fun h => (by omega)⟩
set_option maxRecDepth 100000 in
theorem appendNumber_any {w : World} {B : Nat} {v : Value} {l : List UInt8} (h0 : RowB w B v l) (hl : l.length ≤ 70368744170000) (hB : B ≤ w.heap.size) (n : Nat) (hn : n < 4294967296) :
    Calls Tryz.prog 117 #[v, .int .i64 n] w fun e w' => ∃ v', e = .returned v' ∧ RowB w' B v' (l ++ num4 n) ∧ Mv w (Own v) w' (Own v') := by
  obtain ⟨A0, n0, c0, rfl⟩ := h0.slice
  have m0 := hide (Mv.refl w (Own (.slice A0 n0 c0)))
  replace h0 := hide h0
  go_enter Tryz.func117, Tryz.ntmps117
  go_wp2_with fail
  refine wp_loop_rounds 5 ?_
  rw [rounds_succ]
  go_wp2_with (at_builtin; refine wp_bytes rfl (.tmp 9) (.tmp 15) rfl B (.slice A0 n0 c0) l rfl ?_ ⟨w.heap.size, 0, none⟩ 1 1 [.ofNat n] rfl rfl ?_ ?_ ?_ ?_)
  · exact h0.out.alloc _
  · exact new_byte _ _ _ (by simp)
  · simp only [List.length_cons, List.length_nil]; omega
  · exact Nat.le_trans (Nat.le_trans hB m0.out.1.size) (Nat.le_of_lt (World.lt_alloc _ _))
  intro v1 w1 h1 g1 g2
  obtain ⟨A1, n1, c1, rfl⟩ := h1.slice
  have m1 := hide (m0.out.trans (mv_append g1 g2))
  replace h1 := hide h1
  clear g1 g2
  go_wp2_with fail
  rw [rounds_succ]
  go_wp2_with (at_builtin; refine wp_bytes rfl (.tmp 9) (.tmp 15) rfl B (.slice A1 n1 c1) (l ++ [.ofNat n]) rfl ?_ ⟨w1.heap.size, 0, none⟩ 1 1 [.ofNat (n / 256)] rfl rfl ?_ ?_ ?_ ?_)
  · exact h1.out.alloc _
  · exact new_byte _ _ _ (by simp)
  · simp only [List.length_append, List.length_cons, List.length_nil]; omega
  · exact Nat.le_trans (Nat.le_trans hB m1.out.1.size) (Nat.le_of_lt (World.lt_alloc _ _))
  intro v2 w2 h2 g1 g2
  obtain ⟨A2, n2, c2, rfl⟩ := h2.slice
  have m2 := hide (m1.out.trans (mv_append g1 g2))
  replace h2 := hide h2
  clear g1 g2
  go_wp2_with fail
  rw [rounds_succ]
  go_wp2_with (at_builtin; refine wp_bytes rfl (.tmp 9) (.tmp 15) rfl B (.slice A2 n2 c2) (l ++ [.ofNat n, .ofNat (n / 256)]) rfl ?_ ⟨w2.heap.size, 0, none⟩ 1 1 [.ofNat (n / 65536)] rfl rfl ?_ ?_ ?_ ?_)
  · exact h2.out.alloc _
  · exact new_byte _ _ _ (by simp)
  · simp only [List.length_append, List.length_cons, List.length_nil]; omega
  · exact Nat.le_trans (Nat.le_trans hB m2.out.1.size) (Nat.le_of_lt (World.lt_alloc _ _))
  intro v3 w3 h3 g1 g2
  obtain ⟨A3, n3, c3, rfl⟩ := h3.slice
  have m3 := hide (m2.out.trans (mv_append g1 g2))
  replace h3 := hide h3
  clear g1 g2
  go_wp2_with fail
  rw [rounds_succ]
  go_wp2_with (at_builtin; refine wp_bytes rfl (.tmp 9) (.tmp 15) rfl B (.slice A3 n3 c3) (l ++ [.ofNat n, .ofNat (n / 256), .ofNat (n / 65536)]) rfl ?_ ⟨w3.heap.size, 0, none⟩ 1 1 [.ofNat (n / 16777216)] rfl rfl ?_ ?_ ?_ ?_)
  · exact h3.out.alloc _
  · exact new_byte _ _ _ (by simp; omega)
  · simp only [List.length_append, List.length_cons, List.length_nil]; omega
  · exact Nat.le_trans (Nat.le_trans hB m3.out.1.size) (Nat.le_of_lt (World.lt_alloc _ _))
  intro v4 w4 h4 g1 g2
  obtain ⟨A4, n4, c4, rfl⟩ := h4.slice
  have m4 := hide (m3.out.trans (mv_append g1 g2))
  replace h4 := hide h4
  clear g1 g2
  go_wp2_with fail
  rw [rounds_succ]
  go_wp2_with fail
  go_ret
  exact ⟨_, rfl, by simpa [num4] using h4.out, m4.out⟩
set_option maxRecDepth 100000 in
theorem numberOf_any {w : World} {S : Nat → Prop} {v : Value} {l : List UInt8} (h : ArgV w S v (bv l)) (hl : l.length = 4) :
    Calls Tryz.prog 114 #[v] w fun e w' => e = .returned (.int .i64 (val4 l : Nat)) ∧ w = w' := by
  obtain ⟨a, b, c, d, rfl⟩ : ∃ a b c d, l = [a, b, c, d] := by
    match l, hl with
    | [a, b, c, d], _ => exact ⟨a, b, c, d, rfl⟩
  obtain ⟨A, cp, rfl, h2, h3, h4⟩ := h
  rcases h4 with h4 | ⟨g, o, rfl, hS, hc⟩
  · cases h4
  have c0 := hc 0 _ rfl
  have c1 := hc 1 _ rfl
  have c2 := hc 2 _ rfl
  have c3 := hc 3 _ rfl
  have l0 := a.toNat_lt
  have l1 := b.toNat_lt
  have l2 := c.toNat_lt
  have l3 := d.toNat_lt
  clear hc
  simp only [bv_len, List.length_cons, List.length_nil] at h2 ⊢
  simp only [Nat.add_zero] at c0 c1 c2 c3
  simp only [val4]
  generalize a.toNat = a0 at *
  generalize b.toNat = a1 at *
  generalize c.toNat = a2 at *
  generalize d.toNat = a3 at *
  obtain ⟨s1, e1⟩ : ∃ s, s = a0 + a1 * 256 := ⟨_, rfl⟩
  obtain ⟨s2, e2⟩ : ∃ s, s = s1 + a2 * 65536 := ⟨_, rfl⟩
  obtain ⟨s3, e3⟩ : ∃ s, s = s2 + a3 * 16777216 := ⟨_, rfl⟩
  have q0 : bits .or .i64 0 (a0 : Int) = (a0 : Int) := by have := i64_or_nat 0 a0 (by omega) (by omega); simpa using this
  have q1 : bits .or .i64 (a0 : Int) ((a1 : Int) * 256) = (s1 : Int) := by
    have := or_add 8 a0 a1 (by omega) (by omega) (by omega)
    rw [e1]; simpa using this
  have q2 : bits .or .i64 (s1 : Int) ((a2 : Int) * 65536) = (s2 : Int) := by
    have := or_add 16 s1 a2 (by omega) (by omega) (by omega)
    rw [e2]; simpa using this
  have q3 : bits .or .i64 (s2 : Int) ((a3 : Int) * 16777216) = (s3 : Int) := by
    have := or_add 24 s2 a3 (by omega) (by omega) (by omega)
    rw [e3]; simpa using this
  have hv : s3 = a0 + 256 * a1 + 65536 * a2 + 16777216 * a3 := by omega
  have hb : s3 < 4294967296 := by omega
  clear e1 e2 e3
  replace hv := hide hv
  go_enter Tryz.func114, Tryz.ntmps114
  go_wp2_with fail
  refine wp_loop_rounds 5 ?_
  rw [rounds_succ]
  go_wp2_with fail
  rw [rounds_succ]
  go_wp2_with fail
  rw [rounds_succ]
  go_wp2_with fail
  rw [rounds_succ]
  go_wp2_with fail
  rw [rounds_succ]
  go_wp2_with fail
  go_ret
  exact ⟨by rw [hv.out]; rfl, rfl⟩
end Go.Proofs.YtpnboihbifhigaaGreatDoor
/- Sums as plain functions of numbers: the reference's bit by bit, the program's four bits at a time; what a turned bit changes. -/
namespace Go.Proofs.YtpnboihbifhigaaGreatDoor.Sums

/-- One bit of the division. -/
def s1 (c : Nat) : Nat := if c % 2 = 1 then (c / 2) ^^^ 3988292384 else c / 2
def s4 (c : Nat) : Nat := s1 (s1 (s1 (s1 c)))
def tab : List Nat := [0, 498536548, 997073096, 651767980, 1994146192, 1802195444, 1303535960, 1342533948, 3988292384, 4027552580, 3604390888, 3412177804, 2607071920, 2262029012, 2685067896, 3183342108]
/-- Four bits of the division, by the table. -/
def nib (c : Nat) : Nat := (c / 16) ^^^ tab.getD (c % 16) 0
def crcByte (c : Nat) (b : UInt8) : Nat := nib (nib (c ^^^ b.toNat))
def crcL (c : Nat) (l : List UInt8) : Nat := l.foldl crcByte c
def crcLs (c : Nat) (ls : List (List UInt8)) : Nat := ls.foldl crcL c

theorem crcLs_flat (c : Nat) (ls : List (List UInt8)) : crcLs c ls = crcL c ls.flatten := by
  induction ls generalizing c with
  | nil => rfl
  | cons l ls ih => simp only [crcLs, List.foldl_cons, List.flatten_cons, crcL, List.foldl_append]; exact ih _

theorem s1_lt {c : Nat} (h : c < 4294967296) : s1 c < 4294967296 := by
  unfold s1; split
  · exact Nat.xor_lt_two_pow (n := 32) (by omega) (by omega)
  · omega
theorem s1_xor (a b : Nat) : s1 (a ^^^ b) = s1 a ^^^ s1 b := by
  have h2 : (a ^^^ b) / 2 = (a / 2) ^^^ (b / 2) := by
    have := @Nat.xor_div_two_pow a b 1
    simpa using this
  have hm : (a ^^^ b) % 2 = (a % 2) ^^^ (b % 2) := by
    have := @Nat.xor_mod_two_pow a b 1
    simpa using this
  unfold s1
  rw [hm, h2]
  rcases Nat.mod_two_eq_zero_or_one a with ha | ha <;> rcases Nat.mod_two_eq_zero_or_one b with hb | hb <;> simp only [ha, hb] <;> simp only [show (0 ^^^ 0 : Nat) = 0 from rfl, show (0 ^^^ 1 : Nat) = 1 from rfl, show (1 ^^^ 0 : Nat) = 1 from rfl, show (1 ^^^ 1 : Nat) = 0 from rfl] <;> simp
  · rw [Nat.xor_assoc]
  · rw [Nat.xor_assoc, Nat.xor_assoc, Nat.xor_comm (b / 2)]
  · rw [Nat.xor_assoc, ← Nat.xor_assoc 3988292384, Nat.xor_comm 3988292384, Nat.xor_assoc (b / 2), Nat.xor_self, Nat.xor_zero]
theorem s4_xor (a b : Nat) : s4 (a ^^^ b) = s4 a ^^^ s4 b := by simp only [s4, s1_xor]
theorem s1_two (y : Nat) : s1 (2 * y) = y := by unfold s1; rw [if_neg (by omega)]; omega
theorem s4_high (y : Nat) : s4 (16 * y) = y := by
  have h : 16 * y = 2 * (2 * (2 * (2 * y))) := by omega
  rw [h]; simp only [s4, s1_two]
theorem s4_low : ∀ l, l < 16 → s4 l = tab.getD l 0 := by decide
theorem nib_eq (c : Nat) : nib c = s4 c := by
  have hc : c = (16 * (c / 16)) ^^^ (c % 16) := by
    have hlt : c % 16 < 2 ^ 4 := by omega
    have h1 := Nat.two_pow_add_eq_or_of_lt hlt (c / 16)
    have h2 : (16 * (c / 16)) ^^^ (c % 16) = (16 * (c / 16)) ||| (c % 16) := by
      apply Nat.eq_of_testBit_eq
      intro i
      rw [Nat.testBit_xor, Nat.testBit_or]
      rcases Nat.lt_or_ge i 4 with h | h
      · have : (16 * (c / 16)).testBit i = false := by
          rw [show (16 : Nat) = 2 ^ 4 from rfl, Nat.testBit_two_pow_mul]; simp; omega
        simp [this]
      · have : (c % 16).testBit i = false := Nat.testBit_lt_two_pow (Nat.lt_of_lt_of_le hlt (Nat.pow_le_pow_right (by decide) h))
        simp [this]
    rw [h2, ← h1]; omega
  unfold nib
  conv => rhs; rw [hc, s4_xor, s4_high, s4_low _ (Nat.mod_lt _ (by decide))]
theorem s4_lt {c : Nat} (h : c < 4294967296) : s4 c < 4294967296 := s1_lt (s1_lt (s1_lt (s1_lt h)))
theorem nib_lt {c : Nat} (h : c < 4294967296) : nib c < 4294967296 := by rw [nib_eq]; exact s4_lt h
theorem xorb_lt {c : Nat} (h : c < 4294967296) (b : UInt8) : c ^^^ b.toNat < 4294967296 :=
  Nat.xor_lt_two_pow (n := 32) (by omega) (by have := b.toNat_lt; omega)
theorem crcByte_lt {c : Nat} (h : c < 4294967296) (b : UInt8) : crcByte c b < 4294967296 := nib_lt (nib_lt (xorb_lt h b))
theorem crcL_lt (l : List UInt8) : ∀ {c : Nat}, c < 4294967296 → crcL c l < 4294967296 := by
  induction l with
  | nil => intro c h; exact h
  | cons b l ih => intro c h; exact ih (crcByte_lt h b)
theorem crcLs_lt (ls : List (List UInt8)) {c : Nat} (h : c < 4294967296) : crcLs c ls < 4294967296 := by
  rw [crcLs_flat]; exact crcL_lt _ h

/-- The document's sum of a list of parts. -/
def crc (ls : List (List UInt8)) : Nat := 4294967295 ^^^ crcLs 4294967295 ls

theorem crc_lt (ls : List (List UInt8)) : crc ls < 4294967296 := Nat.xor_lt_two_pow (n := 32) (by decide) (crcLs_lt _ (by decide))
/-- So many bits of the division. -/
def s1n : Nat → Nat → Nat
  | 0, c => c
  | n + 1, c => s1 (s1n n c)
theorem s1n_lt (n : Nat) {c : Nat} (h : c < 4294967296) : s1n n c < 4294967296 := by
  induction n with
  | zero => exact h
  | succ n ih => exact s1_lt ih
theorem s1n_eight (c : Nat) : s1n 8 c = nib (nib c) := by simp only [nib_eq, s4, s1n]

/-- One step of the fingerprint. -/
def fnv (h b : Nat) : Nat := (h ^^^ b) * 1099511628211 % 18446744073709551616
def fnvL (h : Nat) (l : List UInt8) : Nat := l.foldl (fun h c => fnv h c.toNat) h
def fnvN (h n : Nat) : Nat := fnv (fnv (fnv (fnv h (n / 16777216 % 256)) (n / 65536 % 256)) (n / 256 % 256)) (n % 256)
def fnvS (h : Nat) (s : ByteArray) : Nat := fnvL (fnvN h (s.size % 4294967296)) s.data.toList
def prints (h : Nat) (ss : List ByteArray) : Nat := ss.foldl fnvS h
theorem fnv_lt (h b : Nat) : fnv h b < 18446744073709551616 := Nat.mod_lt _ (by decide)
theorem fnvL_lt (l : List UInt8) : ∀ {h : Nat}, h < 18446744073709551616 → fnvL h l < 18446744073709551616 := by
  induction l with
  | nil => intro h hh; exact hh
  | cons b l ih => intro h _; exact ih (fnv_lt _ _)
theorem fnvN_lt (h n : Nat) : fnvN h n < 18446744073709551616 := fnv_lt _ _
theorem fnvS_lt (h : Nat) (s : ByteArray) : fnvS h s < 18446744073709551616 := fnvL_lt _ (fnvN_lt _ _)
theorem prints_lt (ss : List ByteArray) : ∀ {h : Nat}, h < 18446744073709551616 → prints h ss < 18446744073709551616 := by
  induction ss with
  | nil => intro h hh; exact hh
  | cons b l ih => intro h _; exact ih (fnvS_lt _ _)
end Go.Proofs.YtpnboihbifhigaaGreatDoor.Sums
/- Walks of package sum's functions: what each call answers, and that it leaves the world alone. -/
namespace Go.Proofs.YtpnboihbifhigaaGreatDoor
open Go.RowKit Sums

theorem ret_num {k : IntKind} {a b : Int} (h : a = b) : Ending.returned (.int k a) = .returned (.int k b) := by rw [h]

/-- The program's table, as its cells hold it. -/
def Tab (w : World) : Prop := ∀ i x, tab[i]? = some x → w.cell? ⟨1, i, none⟩ = some (.int .u32 (x : Nat))
theorem Tab.below {w w' : World} {B : Nat} (h : Tab w) (hB : 1 < B) (hb : Below B w w') : Tab w' := fun i x hx => (hb.cell (p := ⟨1, i, none⟩) hB).trans (h i x hx)

theorem tab_lt : ∀ i, i < 16 → tab.getD i 0 < 4294967296 := by decide
/-- What the walk meets at one look into the table. -/
theorem nib_pack {w : World} (hT : Tab w) (x : Nat) (hx : x < 4294967296) :
    ∃ a t y : Nat, a < 16 ∧ bits .and .u32 (x : Int) 15 = (a : Int) ∧ w.cell? ⟨1, a, none⟩ = some (.int .u32 (t : Int)) ∧ bits .xor .u32 ((x : Int) / 16) (t : Int) = (y : Int) ∧ y = nib x ∧ y < 4294967296 := by
  have ha : x % 16 < 16 := Nat.mod_lt _ (by decide)
  refine ⟨x % 16, tab.getD (x % 16) 0, nib x, ha, ?_, ?_, ?_, rfl, nib_lt hx⟩
  · have := u32_and_nat x 15 hx (by decide)
    rw [show (15 : Nat) = 2 ^ 4 - 1 from rfl, Nat.and_two_pow_sub_one_eq_mod] at this
    exact this
  · refine hT _ _ ?_
    have hl : x % 16 < tab.length := ha
    rw [List.getD_eq_getElem?_getD, List.getElem?_eq_getElem hl]; rfl
  · have := u32_xor_nat (x / 16) (tab.getD (x % 16) 0) (by omega) (tab_lt _ ha)
    rw [show ((x : Int) / 16) = ((x / 16 : Nat) : Int) by omega]
    exact this

theorem crcL_snoc (c : Nat) (l : List UInt8) (k : Nat) (h : k < l.length) : crcL c (l.take (k + 1)) = nib (nib (crcL c (l.take k) ^^^ l[k].toNat)) := by
  rw [List.take_succ_eq_append_getElem h, crcL, List.foldl_append]; rfl

set_option maxHeartbeats 400000 in
theorem addToCrc_any (c : Nat) (v : Value) (l : List UInt8) (w : World) (B : Nat) (hc : c < 4294967296) (hv : BytesV w B v l) (hT : Tab w) :
    Calls Tryz.prog 173 #[.int .u32 c, v] w fun e w' => e = .returned (.int .u32 (crcL c l : Nat)) ∧ w = w' := by
  obtain ⟨A, cap, rfl, h1, h2, hs⟩ := hv
  unfold maxLen at h2
  go_enter Tryz.func173, Tryz.ntmps173
  go_wp2
  go_loop [0, 9] (fun x i => ∃ k : Nat, k ≤ l.length ∧ i = .int .i64 k ∧ x = .int .u32 (crcL c (l.take k) : Nat)) (fun _ i => l.length - (intOf i).toNat)
  case atStart => exact ⟨0, Nat.zero_le _, rfl, rfl⟩
  case round =>
    obtain ⟨k, hk, rfl, rfl⟩ := hrel
    have hcl : crcL c (l.take k) < 4294967296 := crcL_lt _ hc
    by_cases hlt : k < l.length
    · obtain ⟨b, o, rfl, _, hcell⟩ := hs.get (bv_get hlt)
      have hsn := crcL_snoc c l k hlt
      generalize crcL c (l.take k) = c' at *
      have hb := l[k].toNat_lt
      generalize l[k].toNat = m at *
      have hX := u32_xor_nat c' m hcl (by omega)
      have hxl : c' ^^^ m < 4294967296 := Nat.xor_lt_two_pow (n := 32) (by omega) (by omega)
      generalize c' ^^^ m = x at *
      obtain ⟨a, t, y, ha, hA, hC, hY, hy, hyl⟩ := nib_pack hT x hxl
      obtain ⟨a2, t2, z, ha2, hA2, hC2, hZ, hz, hzl⟩ := nib_pack hT y hyl
      rw [← hy, ← hz] at hsn
      replace hsn := hide hsn
      replace hy := hide hy
      replace hz := hide hz
      clear hT hs
      go_wp2
      go_round
      case rel => exact ⟨k + 1, by omega, by go_num, by rw [hsn.out]⟩
      case measure => simp [intOf]; omega
    · go_wp2
      go_ret
      obtain rfl : k = l.length := by omega
      exact ⟨ret_num (by rw [List.take_of_length_le (Nat.le_refl _)]), rfl⟩

theorem crcLs_snoc (c : Nat) (ls : List (List UInt8)) (k : Nat) (h : k < ls.length) : crcLs c (ls.take (k + 1)) = crcL (crcLs c (ls.take k)) ls[k] := by
  rw [List.take_succ_eq_append_getElem h, crcLs, List.foldl_append]; rfl

theorem crc_end (ls : List (List UInt8)) : bits .xor .u32 IntKind.u32.max (crcLs 4294967295 ls : Nat) = (crc ls : Nat) :=
  u32_xor_nat 4294967295 _ (by decide) (crcLs_lt _ (by decide))
theorem crc_end' (ls : List (List UInt8)) : bits .xor .u32 IntKind.u32.max (crcLs 4294967295 (ls.take ls.length) : Nat) = (crc ls : Nat) := by
  rw [List.take_of_length_le (Nat.le_refl _)]; exact crc_end ls

set_option maxHeartbeats 400000 in
theorem crc_any (v : Value) (ls : List (List UInt8)) (w : World) (B : Nat) (hv : RowsV w B v ls) (hT : Tab w) :
    Calls Tryz.prog 146 #[v] w fun e w' => e = .returned (.int .u32 (crc ls : Nat)) ∧ w = w' := by
  obtain ⟨A, cap, vs, rfl, h1, h2, hs, hvs, hl⟩ := hv
  unfold maxLen at h2
  replace hvs := hide hvs
  replace hT := hide hT
  replace hl := hide hl
  go_enter Tryz.func146, Tryz.ntmps146
  go_wp2
  go_loop [3, 8] (fun x i => ∃ k : Nat, k ≤ ls.length ∧ i = .int .i64 k ∧ x = .int .u32 (crcLs 4294967295 (ls.take k) : Nat)) (fun _ i => ls.length - (intOf i).toNat)
  case atStart => exact ⟨0, Nat.zero_le _, rfl, rfl⟩
  case round =>
    obtain ⟨k, hk, rfl, rfl⟩ := hrel
    have hcl : crcLs 4294967295 (ls.take k) < 4294967296 := crcLs_lt _ (by decide)
    by_cases hlt : k < ls.length
    · have hkv : k < vs.length := by rw [hvs.out]; exact hlt
      obtain ⟨b, o, rfl, _, hcell⟩ := hs.get (List.getElem?_eq_getElem hkv)
      have hrow := hide (hl.out k _ _ (List.getElem?_eq_getElem hkv) (List.getElem?_eq_getElem hlt))
      have hsn := hide (crcLs_snoc 4294967295 ls k hlt)
      generalize crcLs 4294967295 (ls.take k) = c' at *
      generalize vs[k] = v' at *
      go_wp2_with (go_at_call 173; refine (addToCrc_any _ _ _ _ _ (by omega) hrow.out hT.out).mono ?_; rintro e w' ⟨rfl, rfl⟩)
      go_round
      case rel => exact ⟨k + 1, by omega, by go_num, by rw [hsn.out]⟩
      case measure => simp [intOf]; omega
    · obtain rfl : k = ls.length := by omega
      go_wp2
      go_ret
      exact ⟨ret_num (crc_end ls), rfl⟩
end Go.Proofs.YtpnboihbifhigaaGreatDoor
/- Frames: written. -/
namespace Go.Proofs.YtpnboihbifhigaaGreatDoor
open Go Go.RowKit
open Sums (crc)
theorem byte_size : (Tryz.prog.info? 5).map (·.size) = some 1 := by kernel_rfl
def frame (r : List UInt8) : List UInt8 := num4 r.length ++ num4 (crc [num4 r.length, r]) ++ r
def frames (rs : List (List UInt8)) : List UInt8 := (rs.map frame).flatten
theorem frame_len (r : List UInt8) : (frame r).length = 8 + r.length := by simp [frame, num_len]; omega
theorem frames_nil : frames [] = [] := rfl
theorem frames_cons (r : List UInt8) (rs : List (List UInt8)) : frames (r :: rs) = frame r ++ frames rs := by simp [frames]
theorem frames_append (a b : List (List UInt8)) : frames (a ++ b) = frames a ++ frames b := by simp [frames]

/-- A slice that isn't nil. -/
def NonNil (v : Value) : Prop := ∃ a n c, v = .slice (some a) n c
theorem ArgV.bytes {w : World} {S : Nat → Prop} {v : Value} {l : List UInt8} (h : ArgV w S v (bv l)) : BytesV w w.heap.size v l := by
  obtain ⟨A, c, rfl, h2, h3, h4⟩ := h
  rw [bv_len] at h2
  refine ⟨A, c, by rw [bv_len], h2, h3, ?_⟩
  rcases h4 with h4 | ⟨b, o, rfl, _, hc⟩
  · exact .inl h4
  · cases l with
    | nil => exact .inl rfl
    | cons x l => exact .inr ⟨b, o, rfl, World.block_lt_of_cell? w _ (hc 0 _ rfl), hc⟩
theorem RowB.nonNil {w : World} {B : Nat} {v : Value} {l : List UInt8} (h : RowB w B v l) (hl : 0 < l.length) : NonNil v := by
  obtain ⟨h1, h2⟩ := h
  rcases h2 with ⟨rfl, h0⟩ | ⟨g, cap, cur, rfl, _⟩
  · omega
  · exact ⟨_, _, _, rfl⟩
section
variable {w : World} {ops : Array Oper} {rest : List Oper} {o : Oper} {a : Act} {Q : Exit → Act → World → Prop}
/-- The walk's law: bytes behind a row of the call's own. -/
theorem wp_cat (hgd : o.guard = none) (s x : Operand) (ho : o.op = .call { callee := .builtin .append, args := #[s, x], argTypes := #[62, 62] })
    (B : Nat) (v : Value) (l : List UInt8) (hs : a.eval s = v) (hown : RowB w B v l) (S : Nat → Prop) (u : Value) (m : List UInt8) (hx : a.eval x = u) (hu : ArgV w S u (bv m)) (hnn : NonNil u)
    (hlen : l.length + m.length ≤ 70368744177664) (hbase : B ≤ w.heap.size)
    (h : ∀ v' w', RowB w' B v' (l ++ m) → Mv w (Own v) w' (Own v') → wpList Tryz.prog ops Q rest (a.put o.dst v') w') : wpList Tryz.prog ops Q (o :: rest) a w := by
  obtain ⟨ad, n, c, rfl⟩ := hnn
  obtain ⟨A, c', h1, h2, h3, h4⟩ := hu
  injection h1 with e1 e2 e3
  subst e1 e2 e3
  refine wp_bytes hgd s x ho B v l hs hown ad (bv m).length c m hx (bv_len m) ?_ hlen hbase ?_
  · intro j u hj
    rcases h4 with h4 | ⟨b, o', hA, _, hc⟩
    · rw [h4] at hj; simp at hj
    · obtain rfl := Option.some.inj hA
      rw [Go.WideShapes.add_plain]
      exact hc j u hj
  · intro v' w' g1 g2 g3
    exact h v' w' g1 ⟨.grown g2 fun _ hk => hk, g3⟩
end

theorem checksum_any {w : World} {S1 S2 : Nat → Prop} {v1 v2 : Value} {l1 l2 : List UInt8} (h1 : ArgV w S1 v1 (bv l1)) (h2 : ArgV w S2 v2 (bv l2)) (hT : Tab w) (h0 : 1 < w.heap.size) :
    Calls Tryz.prog 115 #[v1, v2] w fun e w' => e = .returned (.int .i64 (crc [l1, l2] : Nat)) ∧ Below w.heap.size w w' := by
  have hc : (crc [l1, l2] : Nat) < 4294967296 := Sums.crc_lt _
  have b1 := h1.bytes
  have b2 := h2.bytes
  have hcr : Calls Tryz.prog 146 #[.slice (some ⟨w.heap.size, 0, none⟩) 2 2] (w.alloc (.cells #[v1, v2] 62)) fun e w' => e = .returned (.int .u32 (crc [l1, l2] : Nat)) ∧ w.alloc (.cells #[v1, v2] 62) = w' :=
    crc_any _ _ _ (w.heap.size + 1) (RowsV.two w l1 l2 v1 v2 62 (0, 0) w.heap.size (w.heap.size + 1) rfl (Nat.lt_succ_self _) b1 b2) (fun i x hx => ((Below.refl w.heap.size w).alloc (Nat.le_refl _) _).cell (by exact h0) |>.trans (hT i x hx))
  obtain ⟨A1, k1, rfl, -⟩ := h1
  obtain ⟨A2, k2, rfl, -⟩ := h2
  clear b1 b2
  go_enter Tryz.func115, Tryz.ntmps115
  go_wp2_with fail
  refine hcr.mono ?_
  rintro e w' ⟨rfl, rfl⟩
  go_wp2_with fail
  go_ret
  exact ⟨rfl, (Below.refl w.heap.size w).alloc (Nat.le_refl _) _⟩
theorem ArgV.mono' {w w' : World} {S : Nat → Prop} {v : Value} {xs : List Value} (h : ArgV w' S v xs) (h' : ArgV w S v xs) : ArgV w' (fun k => S k ∧ k < w.heap.size) v xs := by
  obtain ⟨A, c, rfl, h2, h3, h4⟩ := h
  obtain ⟨A', c', e, _, _, h5⟩ := h'
  injection e with e _ _
  subst e
  refine ⟨A, c, rfl, h2, h3, ?_⟩
  rcases h4 with h4 | ⟨b, o, rfl, hb, hc⟩
  · exact .inl h4
  · rcases h5 with h5 | ⟨b', o', e, _, hc'⟩
    · exact .inl h5
    · injection e with e
      injection e with e1 e2
      subst e1 e2
      cases xs with
      | nil => exact .inl rfl
      | cons x xs => exact .inr ⟨b, o, rfl, ⟨hb, World.block_lt_of_cell? w _ (hc' 0 x rfl)⟩, hc⟩
theorem Tab.upd {w w' : World} {F : Nat → Prop} (h : Tab w) (hu : Upd F w w') (h0 : ¬ F 1) : Tab w' := fun i x hx => hu.cell (h i x hx) h0
theorem RowB.own_ge {w : World} {B : Nat} {v : Value} {l : List UInt8} (h : RowB w B v l) {k : Nat} (hk : Own v k) : B ≤ k ∧ k < w.heap.size := by
  rcases h.2 with ⟨rfl, h0⟩ | ⟨g, cap, cur, rfl, hb, hg, _⟩
  · cases hk
  · have : g = k := by simpa [Own, Value.ownBlock] using hk
    subst this
    exact ⟨hb, (Array.getElem?_eq_some_iff.1 hg).1⟩
theorem ArgV.mv {w w' : World} {S O O' : Nat → Prop} {v : Value} {xs : List Value} (h : ArgV w S v xs) (hm : Mv w O w' O') (hS : ∀ k, S k → ¬ O k) : ∃ S', ArgV w' S' v xs ∧ (∀ k, S' k → ¬ O' k) ∧ ∀ k, S' k → S k ∧ k < w.heap.size :=
  ⟨fun k => S k ∧ k < w.heap.size, (h.upd hm.1 hS).mono' h, fun k hk ho => (hm.2 k ho).elim (hS k hk.1) (fun h => by have := hk.2; omega), fun _ h => h⟩
set_option maxRecDepth 100000 in
theorem appendFrame_any {w : World} {B : Nat} {v : Value} {l : List UInt8} (h : RowB w B v l) (hB : B ≤ w.heap.size) {S : Nat → Prop} {u : Value} {r : List UInt8} (hr : ArgV w S u (bv r)) (hnn : NonNil u) (hd : ∀ k, S k → ¬ Own v k) (hT : Tab w) (h0 : 1 < B)
    (hl : l.length ≤ 35184372088832) (hrl : r.length < 4294967296) :
    Calls Tryz.prog 118 #[v, u] w fun e w' => ∃ v', e = .returned v' ∧ RowB w' B v' (l ++ frame r) ∧ Mv w (Own v) w' (Own v') := by
  have hn1 := appendNumber_any (RowB.nil_ w w.heap.size) (by simp) (Nat.le_refl _) r.length hrl
  obtain ⟨ad, n, c, rfl⟩ := id hnn
  obtain rfl : n = r.length := by obtain ⟨A, c', h1, _⟩ := hr; injection h1 with _ h1; rw [h1, bv_len]
  obtain ⟨Av, nv, cv, rfl⟩ := h.slice
  replace h := hide h
  replace hr := hide hr
  replace hnn := hide hnn
  replace hd := hide hd
  replace hT := hide hT
  go_enter Tryz.func118, Tryz.ntmps118
  go_wp2_with fail
  refine hn1.mono ?_
  rintro e w1 ⟨vL, rfl, hL, hm1⟩
  have hu1 : Upd (fun _ => False) w w1 := hm1.1.mono fun k _ h => by cases h
  have hLn := hL.nonNil (by simp [num_len])
  have hw1 := hu1.size
  have hv1 : RowB w1 B (.slice Av nv cv) l := h.out.upd hu1 fun _ _ => id
  have hr1 := hr.out.upd hu1 fun _ _ => id
  have hT1 := hT.out.upd hu1 id
  have hLa := hL.arg
  have hLd : ∀ k, w.heap.size ≤ k → ¬ Own (.slice Av nv cv) k := fun k hk ho => by have := (h.out.own_ge ho).2; omega
  obtain ⟨AL, nL, cL, rfl⟩ := hL.slice
  rw [List.nil_append] at hLa
  clear hn1 hm1 hL
  replace hu1 := hide hu1
  replace hLn := hide hLn
  replace hv1 := hide hv1
  replace hr1 := hide hr1
  replace hT1 := hide hT1
  replace hLa := hide hLa
  replace hLd := hide hLd
  go_wp2_with (at_builtin; refine wp_cat rfl (.tmp 9) (.tmp 10) rfl B _ l rfl hv1.out _ _ (num4 r.length) rfl hLa.out hLn.out ?_ ?_ ?_)
  · rw [num_len]; omega
  · omega
  intro v2 w2 h2 m2
  obtain ⟨SL, hL2, dL2, sL2⟩ := hLa.out.mv m2 hLd.out
  obtain ⟨Sr, hr2, dr2, sr2⟩ := hr1.out.mv m2 hd.out
  have hT2 := hT1.out.upd m2.1 (fun h => by have := (hv1.out.own_ge h).1; omega)
  have hw2 := m2.1.size
  obtain ⟨A2, n2, c2, rfl⟩ := h2.slice
  replace h2 := hide h2
  replace m2 := hide m2
  replace dL2 := hide dL2
  replace dr2 := hide dr2
  replace hL2 := hide hL2
  replace hr2 := hide hr2
  replace hT2 := hide hT2
  clear hLa hLd hr1 hT1 sL2 sr2
  go_wp2_with fail
  refine (checksum_any hL2.out hr2.out hT2.out (by omega)).mono ?_
  rintro e w3 ⟨rfl, hb3⟩
  have hu3 : Upd (fun _ => False) w2 w3 := .of_below _ hb3
  have hv3 := h2.out.upd hu3 fun _ _ => id
  have hw3 := hu3.size
  obtain ⟨Sr3, hr3, dr3, sr3⟩ := hr2.out.mv (⟨hu3, fun k => .inl⟩ : Mv w2 _ w3 _) (fun _ _ => id)
  have dr3' := fun k hk => dr2.out k (sr3 k hk).1
  replace hu3 := hide hu3
  replace hv3 := hide hv3
  replace hr3 := hide hr3
  replace dr3' := hide dr3'
  clear hb3 dr3 sr3
  go_wp2_with fail
  refine (appendNumber_any hv3.out ?_ (by omega) _ (Sums.crc_lt _)).mono ?_
  · simp only [List.length_append, num_len]; omega
  rintro e w4 ⟨v4, rfl, h4, m4⟩
  obtain ⟨Sr4, hr4, dr4, sr4⟩ := hr3.out.mv m4 dr3'.out
  have hw4 := m4.1.size
  obtain ⟨A4, n4, c4, rfl⟩ := h4.slice
  replace h4 := hide h4
  replace m4 := hide m4
  replace hr4 := hide hr4
  replace dr4 := hide dr4
  clear sr4
  go_wp2_with (at_builtin; refine wp_cat rfl (.tmp 17) (.tmp 18) rfl B _ (l ++ num4 r.length ++ num4 (crc [num4 r.length, r])) rfl h4.out _ _ r rfl hr4.out hnn.out ?_ ?_ ?_)
  · simp only [List.length_append, num_len]; omega
  · omega
  intro v5 w5 h5 m5
  replace h5 := hide h5
  replace m5 := hide m5
  go_wp2_with fail
  go_ret
  refine ⟨_, rfl, by have := h5.out; simpa [frame] using this, ?_⟩
  have hu31 : Upd (fun k => Own (.slice A2 n2 c2) k) w2 w3 := hu3.out.mono fun _ _ h => h.elim
  have hu11 : Upd (fun k => Own (.slice Av nv cv) k) w w1 := hu1.out.mono fun _ _ h => h.elim
  exact (((Mv.trans ⟨hu11, fun k => .inl⟩ m2.out).trans ⟨hu31, fun k => .inl⟩).trans m4.out).trans m5.out
end Go.Proofs.YtpnboihbifhigaaGreatDoor
/- Frames of many records; the reader of frames. -/
namespace Go.Proofs.YtpnboihbifhigaaGreatDoor
open Go Go.RowKit
open Sums (crc)
/-- The value v is a list of records, in blocks of S. -/
def RecsV (w : World) (S : Nat → Prop) (v : Value) (rs : List (List UInt8)) : Prop :=
  ∃ vs, vs.length = rs.length ∧ ArgV w S v vs ∧ ∀ (i : Nat) (u : Value) (r : List UInt8), vs[i]? = some u → rs[i]? = some r → ArgV w S u (bv r) ∧ NonNil u
theorem RecsV.upd {w w' : World} {F S : Nat → Prop} {v : Value} {rs : List (List UInt8)} (h : RecsV w S v rs) (hu : Upd F w w') (hS : ∀ k, S k → ¬ F k) : RecsV w' S v rs := by
  obtain ⟨vs, h1, h2, h3⟩ := h
  exact ⟨vs, h1, h2.upd hu hS, fun i u r hi hr => ⟨(h3 i u r hi hr).1.upd hu hS, (h3 i u r hi hr).2⟩⟩
theorem frames_take (rs : List (List UInt8)) (k : Nat) (h : k < rs.length) : frames (rs.take (k + 1)) = frames (rs.take k) ++ frame rs[k] := by
  rw [List.take_succ_eq_append_getElem h, frames_append]; simp [frames]
theorem frames_le (rs : List (List UInt8)) (k : Nat) : (frames (rs.take k)).length ≤ (frames rs).length := by
  conv => rhs; rw [← List.take_append_drop k rs, frames_append]
  simp
theorem frame_le (rs : List (List UInt8)) (k : Nat) (h : k < rs.length) : rs[k].length ≤ (frames rs).length := by
  have h1 := frames_take rs k h
  have h2 := frames_le rs (k + 1)
  rw [h1, List.length_append, frame_len] at h2
  omega
set_option maxRecDepth 100000 in
theorem framesOf_any {w : World} {S : Nat → Prop} {v : Value} {rs : List (List UInt8)} (h : RecsV w S v rs) (hT : Tab w) (h0 : 1 < w.heap.size) (hl : (frames rs).length ≤ 4294967295) :
    Calls Tryz.prog 128 #[v] w fun e w' => ∃ v', e = .returned v' ∧ RowB w' w.heap.size v' (frames rs) ∧ Below w.heap.size w w' := by
  obtain ⟨vs, hvs, ha, hrs⟩ := h
  obtain ⟨A, c, rfl, hc1, hc2, hcells⟩ := ha
  rw [hvs] at hc1 ⊢
  have hc2' : c ≤ 9223372036854775807 := by unfold maxLen at hc2; exact hc2
  replace hT := hide hT
  replace hrs := hide hrs
  replace hcells := hide hcells
  replace hc2 := hide hc2
  replace hvs := hide hvs
  go_enter Tryz.func128, Tryz.ntmps128
  go_wp2_with fail
  go_loopw [3, 8] (fun b i wr => ∃ k : Nat, k ≤ rs.length ∧ i = .int .i64 k ∧ RowB wr w.heap.size b (frames (rs.take k)) ∧ Upd (fun _ => False) w wr) (fun _ i _ => rs.length - (intOf i).toNat)
  case atStart => exact ⟨0, Nat.zero_le _, rfl, by simpa [frames] using RowB.nil_ w _, .refl _ _⟩
  case round =>
    obtain ⟨k, hk, rfl, hb, hU⟩ := hrel
    obtain ⟨A2, n2, c2, rfl⟩ := hb.slice
    replace hb := hide hb
    replace hU := hide hU
    rcases Nat.lt_or_ge k rs.length with hlt | hge
    · obtain ⟨u, hu⟩ : ∃ u, vs[k]? = some u := ⟨vs[k]'(by rw [hvs.out]; exact hlt), List.getElem?_eq_getElem _⟩
      obtain ⟨b, o, rfl, hS, hc⟩ : ∃ b o, A = some ⟨b, o, none⟩ ∧ S b ∧ w.cell? ⟨b, o + k, none⟩ = some u := by
        rcases hcells.out with h | ⟨b, o, h1, h2, h3⟩
        · rw [h] at hu; simp at hu
        · exact ⟨b, o, h1, h2, h3 k u hu⟩
      have hc' := hU.out.cell hc id
      have hru := hrs.out k u rs[k] hu (List.getElem?_eq_getElem hlt)
      have hr2 := hru.1.upd hU.out fun _ _ => id
      have hfl := frames_le rs k
      have hrl := frame_le rs k hlt
      have hap := appendFrame_any hb.out hU.out.size (ArgV.mono' hr2 hru.1) hru.2 (fun j hj ho => by have := (hb.out.own_ge ho).1; omega) (hT.out.upd hU.out id) h0 (by omega) (by omega)
      obtain ⟨ad, nu, cu, rfl⟩ := hru.2
      replace hru := hide hru
      replace hr2 := hide hr2
      replace hu := hide hu
      replace hfl := hide hfl
      replace hrl := hide hrl
      clear hc
      go_wp2_with fail
      refine hap.mono ?_
      rintro e w2 ⟨v3, rfl, h3, m3⟩
      replace h3 := hide h3
      replace m3 := hide m3
      go_wp2_with fail
      go_roundw
      case rel =>
        refine ⟨k + 1, hlt, by go_num, by rw [frames_take rs k hlt]; exact h3.out, ?_⟩
        exact hU.out.trans m3.out.1 fun j hj ho => by have := (hb.out.own_ge ho).1; omega
      case measure => simp [intOf]; omega
    · obtain rfl : k = rs.length := by omega
      clear hge
      go_wp2_with fail
      go_ret
      refine ⟨_, rfl, by simpa using hb.out, hU.out.below (Nat.le_refl _) fun _ h => h.elim⟩
end Go.Proofs.YtpnboihbifhigaaGreatDoor
