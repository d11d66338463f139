/- Words for memory: a slice that reads as a list below a block, and how that is kept. -/
import Derived.WalkKit
namespace Go.Proofs.YtojbfopmlgdjlaaDoor
open Go Go.RowKit

theorem hide {p : Prop} (h : p) : Hid p := h

/-- The cells behind the address `A` are those of `xs`, in a block below `B`. An empty list says nothing of `A`. -/
def Sl (w : World) (B : Nat) (A : Option Addr) (xs : List Value) : Prop :=
  xs = [] ∨ ∃ b o, A = some ⟨b, o, none⟩ ∧ b < B ∧ ∀ i u, xs[i]? = some u → w.cell? ⟨b, o + i, none⟩ = some u

theorem Sl.nil_ {w : World} {B : Nat} {A : Option Addr} : Sl w B A [] := .inl rfl
theorem Sl.get {w : World} {B : Nat} {A : Option Addr} {xs : List Value} (h : Sl w B A xs) {i : Nat} {u : Value} (hi : xs[i]? = some u) :
    ∃ b o, A = some ⟨b, o, none⟩ ∧ b < B ∧ w.cell? ⟨b, o + i, none⟩ = some u := by
  rcases h with rfl | ⟨b, o, rfl, hb, hc⟩
  · simp at hi
  · exact ⟨b, o, rfl, hb, hc i u hi⟩
theorem Sl.keep {w w' : World} {B : Nat} {A : Option Addr} {xs : List Value} (h : Sl w B A xs) (hk : ∀ p : Addr, p.block < B → w'.cell? p = w.cell? p) : Sl w' B A xs := by
  rcases h with rfl | ⟨b, o, rfl, hb, hc⟩
  · exact .inl rfl
  · exact .inr ⟨b, o, rfl, hb, fun i u hi => (hk ⟨b, o + i, none⟩ hb).trans (hc i u hi)⟩
theorem Sl.below {w w' : World} {B : Nat} {A : Option Addr} {xs : List Value} (h : Sl w B A xs) (hb : Below B w w') : Sl w' B A xs := h.keep fun _ hp => hb.cell hp
theorem Sl.more {w : World} {B B' : Nat} {A : Option Addr} {xs : List Value} (h : Sl w B A xs) (hB : B ≤ B') : Sl w B' A xs := by
  rcases h with rfl | ⟨b, o, rfl, hb, hc⟩
  · exact .inl rfl
  · exact .inr ⟨b, o, rfl, by omega, hc⟩
theorem Sl.new (w : World) (cs : Array Value) (t : TypeId) (fr : Nat × Nat) : Sl (w.alloc (.cells cs t fr)) (w.heap.size + 1) (some ⟨w.heap.size, 0, none⟩) cs.toList :=
  .inr ⟨_, _, rfl, by omega, fun i u hi => by rw [Nat.zero_add, World.cell?_alloc_mark]; simpa using hi⟩
theorem Sl.cut {w : World} {B : Nat} {A : Option Addr} {xs : List Value} (h : Sl w B A xs) (k m : Nat) : Sl w B (A.map (·.add k)) ((xs.drop k).take m) := by
  rcases h with rfl | ⟨b, o, rfl, hb, hc⟩
  · exact .inl (by simp)
  · refine .inr ⟨b, o + k, ?_, hb, fun i u hi => ?_⟩
    · unfold Addr.add; split <;> simp_all
    · rw [Nat.add_assoc]
      refine hc _ _ ?_
      have hi' : i < m := by
        rcases Nat.lt_or_ge i m with h | h
        · exact h
        · rw [List.getElem?_eq_none (by simp; omega)] at hi; cases hi
      rw [List.getElem?_take_of_lt hi', List.getElem?_drop] at hi
      exact hi
theorem Sl.take {w : World} {B : Nat} {A : Option Addr} {xs : List Value} (h : Sl w B A xs) (m : Nat) : Sl w B A (xs.take m) := by
  rcases h with rfl | ⟨b, o, rfl, hb, hc⟩
  · exact .inl (by simp)
  · refine .inr ⟨b, o, rfl, hb, fun i u hi => hc _ _ ?_⟩
    have hi' : i < m := by
      rcases Nat.lt_or_ge i m with h | h
      · exact h
      · rw [List.getElem?_eq_none (by simp; omega)] at hi; cases hi
    rwa [List.getElem?_take_of_lt hi'] at hi

/-- Bytes as cells. -/
def bv (l : List UInt8) : List Value := l.map fun c => .int .u8 c.toNat
theorem bv_len (l : List UInt8) : (bv l).length = l.length := by simp [bv]
theorem bv_get {l : List UInt8} {i : Nat} (hi : i < l.length) : (bv l)[i]? = some (.int .u8 l[i].toNat) := by simp [bv, hi]

/-- The value `v` is a []byte that reads as `l`. -/
def BytesV (w : World) (B : Nat) (v : Value) (l : List UInt8) : Prop :=
  ∃ A c, v = .slice A l.length c ∧ l.length ≤ c ∧ c ≤ maxLen ∧ Sl w B A (bv l)
/-- The value `v` is a [][]byte that reads as `ls`. -/
def RowsV (w : World) (B : Nat) (v : Value) (ls : List (List UInt8)) : Prop :=
  ∃ A c vs, v = .slice A ls.length c ∧ ls.length ≤ c ∧ c ≤ maxLen ∧ Sl w B A vs ∧ vs.length = ls.length ∧ ∀ (i : Nat) (v : Value) (l : List UInt8), vs[i]? = some v → ls[i]? = some l → BytesV w B v l
/-- The value `v` is a []string that reads as `ss`. -/
def StrsV (w : World) (B : Nat) (v : Value) (ss : List ByteArray) : Prop :=
  ∃ A c, v = .slice A ss.length c ∧ ss.length ≤ c ∧ c ≤ maxLen ∧ Sl w B A (ss.map Value.string) ∧ ∀ s ∈ ss, s.size ≤ maxLen
theorem BytesV.below {w w' : World} {B : Nat} {v : Value} {l : List UInt8} (h : BytesV w B v l) (hb : Below B w w') : BytesV w' B v l := by
  obtain ⟨A, c, h1, h2, h3, h4⟩ := h
  exact ⟨A, c, h1, h2, h3, h4.below hb⟩
theorem BytesV.alloc {w : World} {B : Nat} {v : Value} {l : List UInt8} (h : BytesV w B v l) (hB : B ≤ w.heap.size) (o : Obj) : BytesV (w.alloc o) B v l := h.below ((Below.refl _ _).alloc hB o)
theorem BytesV.more {w : World} {B B' : Nat} {v : Value} {l : List UInt8} (h : BytesV w B v l) (hb : B ≤ B') : BytesV w B' v l := by
  obtain ⟨A, c, h1, h2, h3, h4⟩ := h
  exact ⟨A, c, h1, h2, h3, h4.more hb⟩
theorem RowsV.below {w w' : World} {B : Nat} {v : Value} {l : List (List UInt8)} (h : RowsV w B v l) (hb : Below B w w') : RowsV w' B v l := by
  obtain ⟨A, c, vs, h1, h2, h3, h4, h5, h6⟩ := h
  exact ⟨A, c, vs, h1, h2, h3, h4.below hb, h5, fun i v l hv hl => (h6 i v l hv hl).below hb⟩
theorem RowsV.more {w : World} {B B' : Nat} {v : Value} {l : List (List UInt8)} (h : RowsV w B v l) (hb : B ≤ B') : RowsV w B' v l := by
  obtain ⟨A, c, vs, h1, h2, h3, h4, h5, h6⟩ := h
  exact ⟨A, c, vs, h1, h2, h3, h4.more hb, h5, fun i v l hv hl => (h6 i v l hv hl).more hb⟩
theorem StrsV.below {w w' : World} {B : Nat} {v : Value} {l : List ByteArray} (h : StrsV w B v l) (hb : Below B w w') : StrsV w' B v l := by
  obtain ⟨A, c, h1, h2, h3, h4, h5⟩ := h
  exact ⟨A, c, h1, h2, h3, h4.below hb, h5⟩
theorem StrsV.more {w : World} {B B' : Nat} {v : Value} {l : List ByteArray} (h : StrsV w B v l) (hb : B ≤ B') : StrsV w B' v l := by
  obtain ⟨A, c, h1, h2, h3, h4, h5⟩ := h
  exact ⟨A, c, h1, h2, h3, h4.more hb, h5⟩

theorem BytesV.string {P : Program} {w : World} {B : Nat} {v : Value} {l : List UInt8} (h : BytesV w B v l) {src dst e : TypeId}
    (hs : P.underlying src = some (.slice e)) (he : P.underlying e = some (.int .u8)) (hd : P.underlying dst = some .string) :
    (convert src dst v).run P w = .ok (.string ⟨l.toArray⟩) w := by
  obtain ⟨A, c, rfl, _, _, h4⟩ := h
  rcases Nat.eq_zero_or_pos l.length with h0 | h0
  · obtain rfl : l = [] := List.eq_nil_of_length_eq_zero h0
    rw [run_convert_bytes_string w src dst e _ _ c hs he hd]
    cases A with
    | none => simp [Conv.bytesToString]; rfl
    | some a =>
      have := run_bytesToString (P := P) w a 0 c [] (by simp [loadCells, loadCellsFrom])
      exact this
  · obtain ⟨b, o, rfl, _, _⟩ := h4.get (bv_get h0)
    have hc := run_convert_bytes_arg (P := P) w src e hs he b o l.length c (l.map fun c => (c.toNat : Int)) (by simp) (fun i hi => by
      obtain ⟨b', o', hA, _, hcell⟩ := h4.get (bv_get hi)
      injection hA with hA; injection hA with h1 h2; subst h1; subst h2
      rw [hcell]
      simp [List.getD_eq_getElem?_getD, List.getElem?_eq_getElem hi]) dst hd
    rw [hc]
    congr 2
    simp [strOfNums, Function.comp_def]

theorem BytesV.new (w : World) (l : List UInt8) (cs : Array Value) (t : TypeId) (fr : Nat × Nat) (n c g B : Nat) (hg : g = w.heap.size) (hB : g < B) (hcs : cs = (bv l).toArray) (hn : n = l.length) (hc : c = n) (hl : l.length ≤ maxLen) :
    BytesV (w.alloc (.cells cs t fr)) B (.slice (some ⟨g, 0, none⟩) n c) l := by
  subst hcs hc hn hg
  exact ⟨_, _, rfl, Nat.le_refl _, hl, by simpa using (Sl.new w (bv l).toArray t fr).more hB⟩
theorem RowsV.one (w : World) (l1 : List UInt8) (v1 : Value) (t : TypeId) (fr : Nat × Nat) (g B : Nat) (hg : g = w.heap.size) (hB : g < B) (h1 : BytesV w w.heap.size v1 l1) :
    RowsV (w.alloc (.cells #[v1] t fr)) B (.slice (some ⟨g, 0, none⟩) 1 1) [l1] := by
  subst hg
  refine ⟨_, _, [v1], rfl, Nat.le_refl _, by unfold maxLen; simp, (Sl.new w #[v1] t fr).more hB, rfl, fun i v l hv hl => ?_⟩
  have key : ∀ v' l', v' = v1 → l' = l1 → BytesV (w.alloc (.cells #[v1] t fr)) B v' l' := by
    rintro _ _ rfl rfl; exact (h1.below ((Below.refl _ _).alloc (Nat.le_refl _) _)).more (by omega)
  match i, hv, hl with
  | 0, hv, hl => exact key _ _ (by simpa using hv.symm) (by simpa using hl.symm)
theorem RowsV.two (w : World) (l1 l2 : List UInt8) (v1 v2 : Value) (t : TypeId) (fr : Nat × Nat) (g B : Nat) (hg : g = w.heap.size) (hB : g < B) (h1 : BytesV w w.heap.size v1 l1) (h2 : BytesV w w.heap.size v2 l2) :
    RowsV (w.alloc (.cells #[v1, v2] t fr)) B (.slice (some ⟨g, 0, none⟩) 2 2) [l1, l2] := by
  subst hg
  refine ⟨_, _, [v1, v2], rfl, Nat.le_refl _, by unfold maxLen; simp, (Sl.new w #[v1, v2] t fr).more hB, rfl, fun i v l hv hl => ?_⟩
  have key : ∀ v' l' v0 l0, BytesV w w.heap.size v0 l0 → v' = v0 → l' = l0 → BytesV (w.alloc (.cells #[v1, v2] t fr)) B v' l' := by
    rintro _ _ v0 l0 h rfl rfl; exact (h.below ((Below.refl _ _).alloc (Nat.le_refl _) _)).more (by omega)
  match i, hv, hl with
  | 0, hv, hl => exact key _ _ _ _ h1 (by simpa using hv.symm) (by simpa using hl.symm)
  | 1, hv, hl => exact key _ _ _ _ h2 (by simpa using hv.symm) (by simpa using hl.symm)
theorem StrsV.new (w : World) (ss : List ByteArray) (cs : Array Value) (t : TypeId) (fr : Nat × Nat) (n c g B : Nat) (hg : g = w.heap.size) (hB : g < B) (hcs : cs = (ss.map Value.string).toArray) (hn : n = ss.length) (hc : c = n) (hl : ss.length ≤ maxLen) (hs : ∀ s ∈ ss, s.size ≤ maxLen) :
    StrsV (w.alloc (.cells cs t fr)) B (.slice (some ⟨g, 0, none⟩) n c) ss := by
  subst hcs hc hn hg
  exact ⟨_, _, rfl, Nat.le_refl _, hl, by simpa using (Sl.new w (ss.map Value.string).toArray t fr).more hB, hs⟩
theorem RowsV.at1 {w : World} {B g : Nat} {v1 : Value} {l1 : List UInt8} (hg : g < B) (c0 : w.cell? ⟨g, 0, none⟩ = some v1) (h1 : BytesV w B v1 l1) : RowsV w B (.slice (some ⟨g, 0, none⟩) 1 1) [l1] := by
  refine ⟨_, _, [v1], rfl, Nat.le_refl _, by unfold maxLen; simp, .inr ⟨g, 0, rfl, hg, fun i u hi => ?_⟩, rfl, fun i v l hv hl => ?_⟩
  · match i, hi with
    | 0, hi => rw [c0]; simpa using hi
  · have key : ∀ v' l', v' = v1 → l' = l1 → BytesV w B v' l' := by rintro _ _ rfl rfl; exact h1
    match i, hv, hl with
    | 0, hv, hl => exact key _ _ (by simpa using hv.symm) (by simpa using hl.symm)
theorem RowsV.at2 {w : World} {B g : Nat} {v1 v2 : Value} {l1 l2 : List UInt8} (hg : g < B) (c0 : w.cell? ⟨g, 0, none⟩ = some v1) (c1 : w.cell? ⟨g, 1, none⟩ = some v2) (h1 : BytesV w B v1 l1) (h2 : BytesV w B v2 l2) :
    RowsV w B (.slice (some ⟨g, 0, none⟩) 2 2) [l1, l2] := by
  refine ⟨_, _, [v1, v2], rfl, Nat.le_refl _, by unfold maxLen; simp, .inr ⟨g, 0, rfl, hg, fun i u hi => ?_⟩, rfl, fun i v l hv hl => ?_⟩
  · match i, hi with
    | 0, hi => rw [c0]; simpa using hi
    | 1, hi => rw [c1]; simpa using hi
  · have key : ∀ v' l' v0 l0, BytesV w B v0 l0 → v' = v0 → l' = l0 → BytesV w B v' l' := by rintro _ _ v0 l0 h rfl rfl; exact h
    match i, hv, hl with
    | 0, hv, hl => exact key _ _ _ _ h1 (by simpa using hv.symm) (by simpa using hl.symm)
    | 1, hv, hl => exact key _ _ _ _ h2 (by simpa using hv.symm) (by simpa using hl.symm)
theorem StrsV.at1 {w : World} {B g : Nat} {s1 : ByteArray} (hg : g < B) (c0 : w.cell? ⟨g, 0, none⟩ = some (.string s1)) (h1 : s1.size ≤ maxLen) : StrsV w B (.slice (some ⟨g, 0, none⟩) 1 1) [s1] := by
  refine ⟨_, _, rfl, Nat.le_refl _, by unfold maxLen; simp, .inr ⟨g, 0, rfl, hg, fun i u hi => ?_⟩, by simpa using h1⟩
  match i, hi with
  | 0, hi => rw [c0]; simpa using hi
theorem StrsV.at2 {w : World} {B g : Nat} {s1 s2 : ByteArray} (hg : g < B) (c0 : w.cell? ⟨g, 0, none⟩ = some (.string s1)) (c1 : w.cell? ⟨g, 1, none⟩ = some (.string s2)) (h1 : s1.size ≤ maxLen) (h2 : s2.size ≤ maxLen) :
    StrsV w B (.slice (some ⟨g, 0, none⟩) 2 2) [s1, s2] := by
  refine ⟨_, _, rfl, Nat.le_refl _, by unfold maxLen; simp, .inr ⟨g, 0, rfl, hg, fun i u hi => ?_⟩, by simpa using ⟨h1, h2⟩⟩
  match i, hi with
  | 0, hi => rw [c0]; simpa using hi
  | 1, hi => rw [c1]; simpa using hi
theorem StrsV.nil_ (w : World) (B : Nat) : StrsV w B (.slice none 0 0) [] := ⟨_, _, rfl, Nat.le_refl _, by unfold maxLen; omega, .inl rfl, fun _ h => by cases h⟩
theorem BytesV.nil_ (w : World) (B : Nat) : BytesV w B (.slice none 0 0) [] := ⟨_, _, rfl, Nat.le_refl _, by unfold maxLen; omega, .inl rfl⟩

theorem ownsRow_sl {w : World} {base : Nat} {e : TypeId} {v : Value} {n : Nat} {xs : List Value} (h : w.ownsRow base e 1 v n xs) :
    ∃ A c, v = .slice A n c ∧ n ≤ c ∧ c ≤ maxLen ∧ Sl w w.heap.size A xs := by
  obtain ⟨h1, h2⟩ := h
  rcases h2 with ⟨rfl, rfl⟩ | ⟨g, cap, cur, rfl, _, hg, hnc, hcm, hcs, htake⟩
  · exact ⟨none, 0, rfl, Nat.le_refl _, by unfold maxLen; omega, .inl (List.eq_nil_of_length_eq_zero (by simpa using h1))⟩
  · refine ⟨_, cap, rfl, hnc, hcm, .inr ⟨g, 0, rfl, ?_, fun i u hi => ?_⟩⟩
    · rcases Nat.lt_or_ge g w.heap.size with h | h
      · exact h
      · rw [Array.getElem?_eq_none h] at hg; cases hg
    · rw [Nat.zero_add, cell_of_row w g i cur e (0, 0) hg]
      have hi' : i < n * 1 := by
        rcases Nat.lt_or_ge i (n * 1) with h | h
        · exact h
        · rw [← htake, List.getElem?_eq_none (by simp; omega)] at hi; cases hi
      rw [← htake, List.getElem?_take_of_lt hi'] at hi
      simpa using hi
end Go.Proofs.YtojbfopmlgdjlaaDoor
