/- The disk in memory: what it holds, and how that is kept. -/
import Derived.Test.YtimblkkojcbipaaDoorOwn
import Derived.Maps.OwnSet
import Derived.Maps.OwnOps
import Derived.Maps.RangeWalk
import Derived.RangeFuncOwn
namespace Go.Proofs.YtimblkkojcbipaaDoor
open Go Go.RowKit

/-- What a disk holds. -/
structure DS where
  n : Nat
  size : Nat
  dur : Nat → List UInt8
  wr : Nat → Option (List UInt8)
  dead : Bool
  sched : Bool
  left : Nat

/-- An element of a map stands for itself. -/
def heldE (v : Value) : Option (DataW Value × List MemPlace) := match v with | .slice a n c => some (.held (.slice a n c), []) | _ => none
theorem heldE_inv {v : Value} {y : DataW Value × List MemPlace} (h : heldE v = some y) : (∃ x : Option Addr × Nat × Nat, v = .slice x.1 x.2.1 x.2.2) ∧ y = (.held v, []) := by
  unfold heldE at h
  split at h
  · injection h with h
    exact ⟨⟨(_, _, _), rfl⟩, h.symm⟩
  · cases h
theorem heldE_val {v u : Value} {ps : List MemPlace} (h : heldE v = some (.held u, ps)) : v = u := by
  have := (heldE_inv h).2
  injection this with h1 _
  injection h1 with h1
  exact h1.symm
abbrev DV := DataW Value
theorem int_key : Maps.Keyed Tryd.prog 3 := Maps.int_keyed Tryd.underlying3
def kI (i : Nat) : Lit := .int .i64 (i : Int)
/-- How many of the first N have one. -/
def cnt (g : Nat → Option Value) (N : Nat) : Nat := (List.range N).countP fun i => (g i).isSome

/-- The map in block mb has just the entries of g, at keys below N. -/
def MapV (w : World) (mb N : Nat) (g : Nat → Option Value) : Prop :=
  ∃ D : DV, w.ownsMap Tryd.prog 3 heldE mb (cnt g N) D ∧ Maps.size D = cnt g N ∧ (∀ kl, Maps.has D kl = true → ∃ i, i < N ∧ kl = kI i) ∧
    ∀ i, i < N → Maps.has D (kI i) = (g i).isSome ∧ ∀ zd, D.atKey (kI i) zd = match g i with | some v => .held v | none => zd

theorem MapV.upd {w w' : World} {F : Nat → Prop} {mb N : Nat} {g : Nat → Option Value} (h : MapV w mb N g) (hu : Upd F w w') (hn : ¬ F mb) : MapV w' mb N g := by
  obtain ⟨D, ⟨es, clock, hb, r⟩, h2⟩ := h
  exact ⟨D, ⟨es, clock, hu.heap hb hn, r⟩, h2⟩
theorem MapV.lt {w : World} {mb N : Nat} {g : Nat → Option Value} (h : MapV w mb N g) : mb < w.heap.size := by
  obtain ⟨D, h1, _⟩ := h
  exact h1.lt
theorem MapV.made (w : World) (N : Nat) : MapV (w.alloc (.map #[] 0)) w.heap.size N (fun _ => none) := by
  have hc : cnt (fun _ => none) N = 0 := by simp [cnt]
  refine ⟨.map [], by rw [hc]; exact World.ownsMap_made _ _ _ _, by rw [hc]; rfl, fun kl h => (by simp [Maps.has] at h), fun i hi => ⟨rfl, fun zd => rfl⟩⟩

theorem RowB.arg {w : World} {B : Nat} {v : Value} {l : List UInt8} (h : RowB w B v l) : ArgV w (fun k => B ≤ k) v (bv l) := by
  obtain ⟨h1, h2⟩ := h
  rcases h2 with ⟨rfl, h0⟩ | ⟨g, cap, cur, rfl, hb, hg, hn, hc, hs, ht⟩
  · have : l = [] := List.eq_nil_of_length_eq_zero h0
    subst this
    exact ⟨none, 0, rfl, Nat.le_refl _, by unfold maxLen; simp, .inl rfl⟩
  · refine ⟨_, cap, by rw [bv_len], by rw [bv_len]; exact hn, hc, .inr ⟨g, 0, rfl, hb, fun i u hi => ?_⟩⟩
    have := World.ownsRow.cells (w := w) (base := B) (e := 5) (size := 1) (n := l.length) (xs := bv l) (v := .slice (some ⟨g, 0, none⟩) l.length cap) ⟨h1, .inr ⟨g, cap, cur, rfl, hb, hg, hn, hc, hs, ht⟩⟩ (g := g) rfl i u hi
    rwa [Go.WideShapes.add_plain] at this

theorem ownsMap_tight {w : World} {R : Value → Option (DataW Value × List MemPlace)} {k : TypeId} {b n : Nat} {D : DV} (h : w.ownsMap Tryd.prog k R b n D) : w.ownsMap Tryd.prog k R b (Maps.size D) D := by
  obtain ⟨es, clock, hb, F, _, rfl⟩ := h
  refine ⟨es, clock, hb, F, ?_, rfl⟩
  rw [Maps.size_eq, length_sorted]
  simp
/-- g, and v at i. -/
def setAt {α : Type} (g : Nat → Option α) (i : Nat) (v : α) : Nat → Option α := fun j => if j = i then some v else g j
theorem setAt_self {α : Type} (g : Nat → Option α) (i : Nat) (v : α) : setAt g i v i = some v := by simp [setAt]
theorem setAt_other {α : Type} (g : Nat → Option α) {i j : Nat} (v : α) (h : j ≠ i) : setAt g i v j = g j := by simp [setAt, h]
theorem cnt_setAt (g : Nat → Option Value) (i : Nat) (v : Value) : ∀ N, cnt (setAt g i v) N = cnt g N + (if i < N then (if (g i).isSome then 0 else 1) else 0)
  | 0 => by simp [cnt]
  | N + 1 => by
    have ih := cnt_setAt g i v N
    unfold cnt at ih ⊢
    rw [List.range_succ, List.countP_append, List.countP_append, ih, List.countP_singleton, List.countP_singleton]
    rcases Nat.lt_trichotomy i N with h | h | h
    · rw [setAt_other g v (by omega : N ≠ i), if_pos h, if_pos (show i < N + 1 by omega)]; omega
    · subst h
      rw [setAt_self, if_neg (show ¬ i < i by omega), if_pos (show i < i + 1 by omega)]
      cases g i <;> simp
    · rw [setAt_other g v (by omega : N ≠ i), if_neg (show ¬ i < N by omega), if_neg (show ¬ i < N + 1 by omega)]; omega
theorem cnt_le (g : Nat → Option Value) (N : Nat) : cnt g N ≤ N := by
  unfold cnt
  have := List.countP_le_length (p := fun i => (g i).isSome) (l := List.range N)
  simpa using this
theorem kI_ne {i j : Nat} (h : j ≠ i) : kI j ≠ kI i := by
  unfold kI
  intro e
  injection e with _ e
  omega
theorem kI_key (i : Nat) : WideAt.IsKeyLit (kI i) := trivial
theorem MapV.put {w' : World} {mb N : Nat} {g : Nat → Option Value} {D : DV} {i : Nat} {v : Value} (hi : i < N) (hm : Maps.Tidy D) (hsz : Maps.size D = cnt g N) (hk : ∀ kl, Maps.has D kl = true → ∃ i, i < N ∧ kl = kI i)
    (hat : ∀ i, i < N → Maps.has D (kI i) = (g i).isSome ∧ ∀ zd, D.atKey (kI i) zd = match g i with | some v => .held v | none => zd)
    {n : Nat} (h' : w'.ownsMap Tryd.prog 3 heldE mb n (D.put (kI i) (.held v))) : MapV w' mb N (setAt g i v) := by
  have hs : Maps.size (D.put (kI i) (.held v)) = cnt (setAt g i v) N := by
    rw [Maps.size_put hm, cnt_setAt, if_pos hi, (hat i hi).1, hsz]
    cases g i <;> simp
  have ht := ownsMap_tight h'
  rw [hs] at ht
  refine ⟨_, ht, hs, fun kl hkl => ?_, fun j hj => ?_⟩
  · by_cases e : kl = kI i
    · exact ⟨i, hi, e⟩
    · rw [Maps.has_put_other e] at hkl
      exact hk kl hkl
  · by_cases e : j = i
    · subst e
      rw [setAt_self]
      exact ⟨Maps.has_put_same hm.isMap (kI_key _) _, fun zd => Maps.atKey_put_same hm.isMap (kI_key _) _ _⟩
    · rw [setAt_other _ _ e, Maps.has_put_other (kI_ne e)]
      exact ⟨(hat j hj).1, fun zd => by rw [Maps.atKey_put_other (kI_ne e)]; exact (hat j hj).2 zd⟩

/-- Block k holds cells. -/
def IsC (w : World) (k : Nat) : Prop := ∃ cs t fr, w.heap[k]? = some (.cells cs t fr)
theorem isC_of_cell {w : World} {b o : Nat} {u : Value} (h : w.cell? ⟨b, o, none⟩ = some u) : IsC w b := by
  have hb := World.block_lt_of_cell? w _ h
  unfold World.cell? at h
  cases ho : w.heap[b]? with
  | none => rw [Array.getElem?_eq_none_iff] at ho; simp only at hb; omega
  | some ob =>
    simp only [ho] at h
    cases ob with
    | cells cs t fr => exact ⟨cs, t, fr, ho⟩
    | _ => simp at h
theorem IsC.upd {w w' : World} {F : Nat → Prop} {k : Nat} (h : IsC w k) (hu : Upd F w w') (hk : ¬ F k) : IsC w' k := by
  obtain ⟨cs, t, fr, h⟩ := h
  exact ⟨cs, t, fr, hu.heap h hk⟩
theorem IsC.lt {w : World} {k : Nat} (h : IsC w k) : k < w.heap.size := by
  obtain ⟨cs, t, fr, h⟩ := h
  exact (Array.getElem?_eq_some_iff.1 h).1
theorem ArgV.cel {w : World} {S : Nat → Prop} {v : Value} {xs : List Value} (h : ArgV w S v xs) : ArgV w (fun k => S k ∧ IsC w k) v xs := by
  obtain ⟨A, c, rfl, h2, h3, h4⟩ := h
  refine ⟨A, c, rfl, h2, h3, ?_⟩
  rcases h4 with h4 | ⟨b, o, rfl, hb, hc⟩
  · exact .inl h4
  · cases xs with
    | nil => exact .inl rfl
    | cons x xs => exact .inr ⟨b, o, rfl, ⟨hb, isC_of_cell (hc 0 x rfl)⟩, hc⟩
/-- The parts of a disk. -/
structure DiskAt (w : World) (sb db mb cap : Nat) (vs : Array Value) (g : Nat → Option Value) (R : Nat → Prop) (D : DS) : Prop where
  head : w.heap[sb]? = some (.cells #[.int .i64 D.size, .slice (some ⟨db, 0, none⟩) D.n cap, .map (some mb), .bool D.dead, .bool D.sched, .int .i64 D.left] 49)
  arr : w.heap[db]? = some (.cells vs 34)
  len : vs.size = D.n
  cap : cap = D.n
  map : MapV w mb D.n g
  dur : ∀ i, i < D.n → (D.dur i).length = D.size ∧ ∃ v, vs[i]? = some v ∧ ArgV w R v (bv (D.dur i))
  wr : ∀ i, i < D.n → match g i, D.wr i with | none, none => True | some v, some l => l.length = D.size ∧ ArgV w R v (bv l) | _, _ => False
  ne : ¬ R sb ∧ ¬ R db ∧ ¬ R mb ∧ sb ≠ db ∧ sb ≠ mb ∧ db ≠ mb
  old : ∀ k, R k → IsC w k
  n1 : 1 ≤ D.n ∧ D.n ≤ 4096
  s1 : 64 ≤ D.size ∧ D.size ≤ 4096
  l1 : D.left ≤ 4611686018427387904
/-- The blocks of a disk. -/
def Foot (sb db mb : Nat) (R : Nat → Prop) : Nat → Prop := fun k => k = sb ∨ k = db ∨ k = mb ∨ R k
/-- The disk at block sb, in blocks of S, holds D. -/
def DiskM (w : World) (sb mb : Nat) (S : Nat → Prop) (D : DS) : Prop := ∃ db cap vs g R, DiskAt w sb db mb cap vs g R D ∧ S = Foot sb db mb R
def DiskV (w : World) (sb : Nat) (S : Nat → Prop) (D : DS) : Prop := ∃ db mb cap vs g R, DiskAt w sb db mb cap vs g R D ∧ S = Foot sb db mb R

theorem DiskAt.upd {w w' : World} {F : Nat → Prop} {sb db mb cap : Nat} {vs : Array Value} {g : Nat → Option Value} {R : Nat → Prop} {D : DS} (h : DiskAt w sb db mb cap vs g R D) (hu : Upd F w w') (hF : ∀ k, Foot sb db mb R k → ¬ F k) : DiskAt w' sb db mb cap vs g R D where
  head := hu.heap h.head (hF _ (.inl rfl))
  arr := hu.heap h.arr (hF _ (.inr (.inl rfl)))
  len := h.len
  cap := h.cap
  map := h.map.upd hu (hF _ (.inr (.inr (.inl rfl))))
  dur i hi := by
    obtain ⟨h1, v, h2, h3⟩ := h.dur i hi
    exact ⟨h1, v, h2, h3.upd hu fun k hk => hF k (.inr (.inr (.inr hk)))⟩
  wr i hi := by
    have := h.wr i hi
    split at this
    · trivial
    · exact ⟨this.1, this.2.upd hu fun k hk => hF k (.inr (.inr (.inr hk)))⟩
    · exact this
  ne := h.ne
  old k hk := (h.old k hk).upd hu (hF k (.inr (.inr (.inr hk))))
  n1 := h.n1
  s1 := h.s1
  l1 := h.l1
theorem DiskV.upd {w w' : World} {F S : Nat → Prop} {sb : Nat} {D : DS} (h : DiskV w sb S D) (hu : Upd F w w') (hF : ∀ k, S k → ¬ F k) : DiskV w' sb S D := by
  obtain ⟨db, mb, cap, vs, g, R, h1, rfl⟩ := h
  exact ⟨db, mb, cap, vs, g, R, h1.upd hu hF, rfl⟩
theorem DiskV.below {w w' : World} {S : Nat → Prop} {sb : Nat} {D : DS} (h : DiskV w sb S D) (hu : Below w.heap.size w w') : DiskV w' sb S D := h.upd (.of_below (fun _ => False) hu) fun _ _ => id
theorem DiskV.old {w : World} {S : Nat → Prop} {sb : Nat} {D : DS} (h : DiskV w sb S D) : ∀ k, S k → k < w.heap.size := by
  obtain ⟨db, mb, cap, vs, g, R, h1, rfl⟩ := h
  rintro k (rfl | rfl | rfl | hk)
  · exact (Array.getElem?_eq_some_iff.1 h1.head).1
  · exact (Array.getElem?_eq_some_iff.1 h1.arr).1
  · exact h1.map.lt
  · exact (h1.old k hk).lt
theorem DiskM.toV {w : World} {S : Nat → Prop} {sb mb : Nat} {D : DS} (h : DiskM w sb mb S D) : DiskV w sb S D := by
  obtain ⟨db, cap, vs, g, R, h⟩ := h
  exact ⟨db, mb, cap, vs, g, R, h⟩
theorem DiskV.toM {w : World} {S : Nat → Prop} {sb : Nat} {D : DS} (h : DiskV w sb S D) : ∃ mb, DiskM w sb mb S D ∧ mb < w.heap.size := by
  obtain ⟨db, mb, cap, vs, g, R, h, e⟩ := h
  exact ⟨mb, ⟨db, cap, vs, g, R, h, e⟩, h.map.lt⟩
theorem DiskM.upd {w w' : World} {F S : Nat → Prop} {sb mb : Nat} {D : DS} (h : DiskM w sb mb S D) (hu : Upd F w w') (hF : ∀ k, S k → ¬ F k) : DiskM w' sb mb S D := by
  obtain ⟨db, cap, vs, g, R, h1, rfl⟩ := h
  exact ⟨db, cap, vs, g, R, h1.upd hu hF, rfl⟩
/-- Whoever turns no cells, and not the map, leaves the disk as it was. -/
theorem DiskM.walk {w w' : World} {row : Option Nat} {S : Nat → Prop} {sb mb : Nat} {D : DS} (h : DiskM w sb mb S D) (hg : w.grownBy w' row) (hr : ∀ r, row = some r → r ≠ mb ∧ ∃ o : Obj, w.heap[r]? = some o ∧ o.isCells = false) : DiskM w' sb mb S D := by
  refine h.upd (F := fun k => row = some k) (.grown hg fun k hk => hk) fun k hk e => ?_
  obtain ⟨hne, o, ho, hc⟩ := hr k e
  obtain ⟨db, cap, vs, g, R, h1, rfl⟩ := h
  have key : ¬ IsC w k := fun ⟨cs, t, fr, hh⟩ => by rw [ho] at hh; injection hh with hh; rw [hh] at hc; cases hc
  rcases hk with rfl | rfl | rfl | hk
  · exact key ⟨_, _, _, h1.head⟩
  · exact key ⟨_, _, _, h1.arr⟩
  · exact hne rfl
  · exact key (h1.old k hk)
/-- Of what was there nothing has turned but what O owned; what O' owns is O's, or new. -/
def Mv (w : World) (O : Nat → Prop) (w' : World) (O' : Nat → Prop) : Prop := Upd O w w' ∧ ∀ k, O' k → O k ∨ w.heap.size ≤ k
theorem Mv.refl (w : World) (O : Nat → Prop) : Mv w O w O := ⟨.refl _ _, fun _ => .inl⟩
theorem Mv.trans {w w' w'' : World} {O O' O'' : Nat → Prop} (h : Mv w O w' O') (h' : Mv w' O' w'' O'') : Mv w O w'' O'' :=
  ⟨h.1.trans h'.1 fun k hk hO => (h.2 k hO).resolve_right (by omega), fun k hk => by
    rcases h'.2 k hk with h1 | h1
    · exact h.2 k h1
    · exact .inr (Nat.le_trans h.1.size h1)⟩
end Go.Proofs.YtimblkkojcbipaaDoor
