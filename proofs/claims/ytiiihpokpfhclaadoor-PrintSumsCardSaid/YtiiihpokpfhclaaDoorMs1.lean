/- Part 1 of the walks (merged): Mem, Frame, Own, Lx, GLxA. -/
import Derived.WalkKit
import Derived.ProofKit
import Derived.OpenShut
import Derived.Carry
import Derived.Deep.Matrix
import Derived.Deep.DeepHandedRow
import Derived.Lib.LaidTab
import Derived.Test.YtiiihpokpfhclaaDoorRows
import Derived.Lib.FrozenHead
import Derived.Lib.AppendStr
import Derived.ArgAppend
import Derived.Test.YtiiihpokpfhclaaDoorProg
/- Words for memory: a slice that reads as a list below a block, and how that is kept. -/
namespace Go.Proofs.YtiiihpokpfhclaaDoor
open Go Go.RowKit

theorem hide {p : Prop} (h : p) : Hid p := h

/-- The cells behind the address `A` are those of `xs`, in a block below `B`. An empty list says nothing of `A`. -/
def Sl (w : World) (B : Nat) (A : Option Addr) (xs : List Value) : Prop :=
  xs = [] ∨ ∃ b o, A = some ⟨b, o, none⟩ ∧ b < B ∧ ∀ i u, xs[i]? = some u → w.cell? ⟨b, o + i, none⟩ = some u

theorem Sl.nil_ {w : World} {B : Nat} {A : Option Addr} : Sl w B A [] := .inl rfl
theorem Sl.get {w : World} {B : Nat} {A : Option Addr} {xs : List Value} (h : Sl w B A xs) {i : Nat} {u : Value} (hi : xs[i]? = some u) :
    ∃ b o, A = some ⟨b, o, none⟩ ∧ b < B ∧ w.cell? ⟨b, o + i, none⟩ = some u := by
  rcases h with rfl | ⟨b, o, rfl, hb, hc⟩
  · simp at hi
  · exact ⟨b, o, rfl, hb, hc i u hi⟩
theorem Sl.keep {w w' : World} {B : Nat} {A : Option Addr} {xs : List Value} (h : Sl w B A xs) (hk : ∀ p : Addr, p.block < B → w'.cell? p = w.cell? p) : Sl w' B A xs := by
  rcases h with rfl | ⟨b, o, rfl, hb, hc⟩
  · exact .inl rfl
  · exact .inr ⟨b, o, rfl, hb, fun i u hi => (hk ⟨b, o + i, none⟩ hb).trans (hc i u hi)⟩
theorem Sl.below {w w' : World} {B : Nat} {A : Option Addr} {xs : List Value} (h : Sl w B A xs) (hb : Below B w w') : Sl w' B A xs := h.keep fun _ hp => hb.cell hp
theorem Sl.more {w : World} {B B' : Nat} {A : Option Addr} {xs : List Value} (h : Sl w B A xs) (hB : B ≤ B') : Sl w B' A xs := by
  rcases h with rfl | ⟨b, o, rfl, hb, hc⟩
  · exact .inl rfl
  · exact .inr ⟨b, o, rfl, by omega, hc⟩
theorem Sl.new (w : World) (cs : Array Value) (t : TypeId) (fr : Nat × Nat) : Sl (w.alloc (.cells cs t fr)) (w.heap.size + 1) (some ⟨w.heap.size, 0, none⟩) cs.toList :=
  .inr ⟨_, _, rfl, by omega, fun i u hi => by rw [Nat.zero_add, World.cell?_alloc_mark]; simpa using hi⟩
theorem Sl.cut {w : World} {B : Nat} {A : Option Addr} {xs : List Value} (h : Sl w B A xs) (k m : Nat) : Sl w B (A.map (·.add k)) ((xs.drop k).take m) := by
  rcases h with rfl | ⟨b, o, rfl, hb, hc⟩
  · exact .inl (by simp)
  · refine .inr ⟨b, o + k, ?_, hb, fun i u hi => ?_⟩
    · unfold Addr.add; split <;> simp_all
    · rw [Nat.add_assoc]
      refine hc _ _ ?_
      have hi' : i < m := by
        rcases Nat.lt_or_ge i m with h | h
        · exact h
        · rw [List.getElem?_eq_none (by simp; omega)] at hi; cases hi
      rw [List.getElem?_take_of_lt hi', List.getElem?_drop] at hi
      exact hi
theorem Sl.take {w : World} {B : Nat} {A : Option Addr} {xs : List Value} (h : Sl w B A xs) (m : Nat) : Sl w B A (xs.take m) := by
  rcases h with rfl | ⟨b, o, rfl, hb, hc⟩
  · exact .inl (by simp)
  · refine .inr ⟨b, o, rfl, hb, fun i u hi => hc _ _ ?_⟩
    have hi' : i < m := by
      rcases Nat.lt_or_ge i m with h | h
      · exact h
      · rw [List.getElem?_eq_none (by simp; omega)] at hi; cases hi
    rwa [List.getElem?_take_of_lt hi'] at hi

/-- Bytes as cells. -/
def bv (l : List UInt8) : List Value := l.map fun c => .int .u8 c.toNat
theorem bv_len (l : List UInt8) : (bv l).length = l.length := by simp [bv]
theorem bv_get {l : List UInt8} {i : Nat} (hi : i < l.length) : (bv l)[i]? = some (.int .u8 l[i].toNat) := by simp [bv, hi]

/-- The value `v` is a []byte that reads as `l`. -/
def BytesV (w : World) (B : Nat) (v : Value) (l : List UInt8) : Prop :=
  ∃ A c, v = .slice A l.length c ∧ l.length ≤ c ∧ c ≤ maxLen ∧ Sl w B A (bv l)
/-- The value `v` is a [][]byte that reads as `ls`. -/
def RowsV (w : World) (B : Nat) (v : Value) (ls : List (List UInt8)) : Prop :=
  ∃ A c vs, v = .slice A ls.length c ∧ ls.length ≤ c ∧ c ≤ maxLen ∧ Sl w B A vs ∧ vs.length = ls.length ∧ ∀ (i : Nat) (v : Value) (l : List UInt8), vs[i]? = some v → ls[i]? = some l → BytesV w B v l
/-- The value `v` is a []string that reads as `ss`. -/
def StrsV (w : World) (B : Nat) (v : Value) (ss : List ByteArray) : Prop :=
  ∃ A c, v = .slice A ss.length c ∧ ss.length ≤ c ∧ c ≤ maxLen ∧ Sl w B A (ss.map Value.string) ∧ ∀ s ∈ ss, s.size ≤ maxLen
theorem BytesV.below {w w' : World} {B : Nat} {v : Value} {l : List UInt8} (h : BytesV w B v l) (hb : Below B w w') : BytesV w' B v l := by
  obtain ⟨A, c, h1, h2, h3, h4⟩ := h
  exact ⟨A, c, h1, h2, h3, h4.below hb⟩
theorem BytesV.alloc {w : World} {B : Nat} {v : Value} {l : List UInt8} (h : BytesV w B v l) (hB : B ≤ w.heap.size) (o : Obj) : BytesV (w.alloc o) B v l := h.below ((Below.refl _ _).alloc hB o)
theorem BytesV.more {w : World} {B B' : Nat} {v : Value} {l : List UInt8} (h : BytesV w B v l) (hb : B ≤ B') : BytesV w B' v l := by
  obtain ⟨A, c, h1, h2, h3, h4⟩ := h
  exact ⟨A, c, h1, h2, h3, h4.more hb⟩
theorem RowsV.below {w w' : World} {B : Nat} {v : Value} {l : List (List UInt8)} (h : RowsV w B v l) (hb : Below B w w') : RowsV w' B v l := by
  obtain ⟨A, c, vs, h1, h2, h3, h4, h5, h6⟩ := h
  exact ⟨A, c, vs, h1, h2, h3, h4.below hb, h5, fun i v l hv hl => (h6 i v l hv hl).below hb⟩
theorem RowsV.more {w : World} {B B' : Nat} {v : Value} {l : List (List UInt8)} (h : RowsV w B v l) (hb : B ≤ B') : RowsV w B' v l := by
  obtain ⟨A, c, vs, h1, h2, h3, h4, h5, h6⟩ := h
  exact ⟨A, c, vs, h1, h2, h3, h4.more hb, h5, fun i v l hv hl => (h6 i v l hv hl).more hb⟩
theorem StrsV.below {w w' : World} {B : Nat} {v : Value} {l : List ByteArray} (h : StrsV w B v l) (hb : Below B w w') : StrsV w' B v l := by
  obtain ⟨A, c, h1, h2, h3, h4, h5⟩ := h
  exact ⟨A, c, h1, h2, h3, h4.below hb, h5⟩
theorem StrsV.more {w : World} {B B' : Nat} {v : Value} {l : List ByteArray} (h : StrsV w B v l) (hb : B ≤ B') : StrsV w B' v l := by
  obtain ⟨A, c, h1, h2, h3, h4, h5⟩ := h
  exact ⟨A, c, h1, h2, h3, h4.more hb, h5⟩

theorem BytesV.string {P : Program} {w : World} {B : Nat} {v : Value} {l : List UInt8} (h : BytesV w B v l) {src dst e : TypeId}
    (hs : P.underlying src = some (.slice e)) (he : P.underlying e = some (.int .u8)) (hd : P.underlying dst = some .string) :
    (convert src dst v).run P w = .ok (.string ⟨l.toArray⟩) w := by
  obtain ⟨A, c, rfl, _, _, h4⟩ := h
  rcases Nat.eq_zero_or_pos l.length with h0 | h0
  · obtain rfl : l = [] := List.eq_nil_of_length_eq_zero h0
    rw [run_convert_bytes_string w src dst e _ _ c hs he hd]
    cases A with
    | none => simp [Conv.bytesToString]; rfl
    | some a =>
      have := run_bytesToString (P := P) w a 0 c [] (by simp [loadCells, loadCellsFrom])
      exact this
  · obtain ⟨b, o, rfl, _, _⟩ := h4.get (bv_get h0)
    have hc := run_convert_bytes_arg (P := P) w src e hs he b o l.length c (l.map fun c => (c.toNat : Int)) (by simp) (fun i hi => by
      obtain ⟨b', o', hA, _, hcell⟩ := h4.get (bv_get hi)
      injection hA with hA; injection hA with h1 h2; subst h1; subst h2
      rw [hcell]
      simp [List.getD_eq_getElem?_getD, List.getElem?_eq_getElem hi]) dst hd
    rw [hc]
    congr 2
    simp [strOfNums, Function.comp_def]

theorem BytesV.new (w : World) (l : List UInt8) (cs : Array Value) (t : TypeId) (fr : Nat × Nat) (n c g B : Nat) (hg : g = w.heap.size) (hB : g < B) (hcs : cs = (bv l).toArray) (hn : n = l.length) (hc : c = n) (hl : l.length ≤ maxLen) :
    BytesV (w.alloc (.cells cs t fr)) B (.slice (some ⟨g, 0, none⟩) n c) l := by
  subst hcs hc hn hg
  exact ⟨_, _, rfl, Nat.le_refl _, hl, by simpa using (Sl.new w (bv l).toArray t fr).more hB⟩
theorem RowsV.one (w : World) (l1 : List UInt8) (v1 : Value) (t : TypeId) (fr : Nat × Nat) (g B : Nat) (hg : g = w.heap.size) (hB : g < B) (h1 : BytesV w w.heap.size v1 l1) :
    RowsV (w.alloc (.cells #[v1] t fr)) B (.slice (some ⟨g, 0, none⟩) 1 1) [l1] := by
  subst hg
  refine ⟨_, _, [v1], rfl, Nat.le_refl _, by unfold maxLen; simp, (Sl.new w #[v1] t fr).more hB, rfl, fun i v l hv hl => ?_⟩
  have key : ∀ v' l', v' = v1 → l' = l1 → BytesV (w.alloc (.cells #[v1] t fr)) B v' l' := by
    rintro _ _ rfl rfl; exact (h1.below ((Below.refl _ _).alloc (Nat.le_refl _) _)).more (by omega)
  match i, hv, hl with
  | 0, hv, hl => exact key _ _ (by simpa using hv.symm) (by simpa using hl.symm)
theorem RowsV.two (w : World) (l1 l2 : List UInt8) (v1 v2 : Value) (t : TypeId) (fr : Nat × Nat) (g B : Nat) (hg : g = w.heap.size) (hB : g < B) (h1 : BytesV w w.heap.size v1 l1) (h2 : BytesV w w.heap.size v2 l2) :
    RowsV (w.alloc (.cells #[v1, v2] t fr)) B (.slice (some ⟨g, 0, none⟩) 2 2) [l1, l2] := by
  subst hg
  refine ⟨_, _, [v1, v2], rfl, Nat.le_refl _, by unfold maxLen; simp, (Sl.new w #[v1, v2] t fr).more hB, rfl, fun i v l hv hl => ?_⟩
  have key : ∀ v' l' v0 l0, BytesV w w.heap.size v0 l0 → v' = v0 → l' = l0 → BytesV (w.alloc (.cells #[v1, v2] t fr)) B v' l' := by
    rintro _ _ v0 l0 h rfl rfl; exact (h.below ((Below.refl _ _).alloc (Nat.le_refl _) _)).more (by omega)
  match i, hv, hl with
  | 0, hv, hl => exact key _ _ _ _ h1 (by simpa using hv.symm) (by simpa using hl.symm)
  | 1, hv, hl => exact key _ _ _ _ h2 (by simpa using hv.symm) (by simpa using hl.symm)
theorem StrsV.new (w : World) (ss : List ByteArray) (cs : Array Value) (t : TypeId) (fr : Nat × Nat) (n c g B : Nat) (hg : g = w.heap.size) (hB : g < B) (hcs : cs = (ss.map Value.string).toArray) (hn : n = ss.length) (hc : c = n) (hl : ss.length ≤ maxLen) (hs : ∀ s ∈ ss, s.size ≤ maxLen) :
    StrsV (w.alloc (.cells cs t fr)) B (.slice (some ⟨g, 0, none⟩) n c) ss := by
  subst hcs hc hn hg
  exact ⟨_, _, rfl, Nat.le_refl _, hl, by simpa using (Sl.new w (ss.map Value.string).toArray t fr).more hB, hs⟩
theorem RowsV.at1 {w : World} {B g : Nat} {v1 : Value} {l1 : List UInt8} (hg : g < B) (c0 : w.cell? ⟨g, 0, none⟩ = some v1) (h1 : BytesV w B v1 l1) : RowsV w B (.slice (some ⟨g, 0, none⟩) 1 1) [l1] := by
  refine ⟨_, _, [v1], rfl, Nat.le_refl _, by unfold maxLen; simp, .inr ⟨g, 0, rfl, hg, fun i u hi => ?_⟩, rfl, fun i v l hv hl => ?_⟩
  · match i, hi with
    | 0, hi => rw [c0]; simpa using hi
  · have key : ∀ v' l', v' = v1 → l' = l1 → BytesV w B v' l' := by rintro _ _ rfl rfl; exact h1
    match i, hv, hl with
    | 0, hv, hl => exact key _ _ (by simpa using hv.symm) (by simpa using hl.symm)
theorem RowsV.at2 {w : World} {B g : Nat} {v1 v2 : Value} {l1 l2 : List UInt8} (hg : g < B) (c0 : w.cell? ⟨g, 0, none⟩ = some v1) (c1 : w.cell? ⟨g, 1, none⟩ = some v2) (h1 : BytesV w B v1 l1) (h2 : BytesV w B v2 l2) :
    RowsV w B (.slice (some ⟨g, 0, none⟩) 2 2) [l1, l2] := by
  refine ⟨_, _, [v1, v2], rfl, Nat.le_refl _, by unfold maxLen; simp, .inr ⟨g, 0, rfl, hg, fun i u hi => ?_⟩, rfl, fun i v l hv hl => ?_⟩
  · match i, hi with
    | 0, hi => rw [c0]; simpa using hi
    | 1, hi => rw [c1]; simpa using hi
  · have key : ∀ v' l' v0 l0, BytesV w B v0 l0 → v' = v0 → l' = l0 → BytesV w B v' l' := by rintro _ _ v0 l0 h rfl rfl; exact h
    match i, hv, hl with
    | 0, hv, hl => exact key _ _ _ _ h1 (by simpa using hv.symm) (by simpa using hl.symm)
    | 1, hv, hl => exact key _ _ _ _ h2 (by simpa using hv.symm) (by simpa using hl.symm)
theorem StrsV.at1 {w : World} {B g : Nat} {s1 : ByteArray} (hg : g < B) (c0 : w.cell? ⟨g, 0, none⟩ = some (.string s1)) (h1 : s1.size ≤ maxLen) : StrsV w B (.slice (some ⟨g, 0, none⟩) 1 1) [s1] := by
  refine ⟨_, _, rfl, Nat.le_refl _, by unfold maxLen; simp, .inr ⟨g, 0, rfl, hg, fun i u hi => ?_⟩, by simpa using h1⟩
  match i, hi with
  | 0, hi => rw [c0]; simpa using hi
theorem StrsV.at2 {w : World} {B g : Nat} {s1 s2 : ByteArray} (hg : g < B) (c0 : w.cell? ⟨g, 0, none⟩ = some (.string s1)) (c1 : w.cell? ⟨g, 1, none⟩ = some (.string s2)) (h1 : s1.size ≤ maxLen) (h2 : s2.size ≤ maxLen) :
    StrsV w B (.slice (some ⟨g, 0, none⟩) 2 2) [s1, s2] := by
  refine ⟨_, _, rfl, Nat.le_refl _, by unfold maxLen; simp, .inr ⟨g, 0, rfl, hg, fun i u hi => ?_⟩, by simpa using ⟨h1, h2⟩⟩
  match i, hi with
  | 0, hi => rw [c0]; simpa using hi
  | 1, hi => rw [c1]; simpa using hi
theorem StrsV.nil_ (w : World) (B : Nat) : StrsV w B (.slice none 0 0) [] := ⟨_, _, rfl, Nat.le_refl _, by unfold maxLen; omega, .inl rfl, fun _ h => by cases h⟩
theorem BytesV.nil_ (w : World) (B : Nat) : BytesV w B (.slice none 0 0) [] := ⟨_, _, rfl, Nat.le_refl _, by unfold maxLen; omega, .inl rfl⟩

theorem ownsRow_sl {w : World} {base : Nat} {e : TypeId} {v : Value} {n : Nat} {xs : List Value} (h : w.ownsRow base e 1 v n xs) :
    ∃ A c, v = .slice A n c ∧ n ≤ c ∧ c ≤ maxLen ∧ Sl w w.heap.size A xs := by
  obtain ⟨h1, h2⟩ := h
  rcases h2 with ⟨rfl, rfl⟩ | ⟨g, cap, cur, rfl, _, hg, hnc, hcm, hcs, htake⟩
  · exact ⟨none, 0, rfl, Nat.le_refl _, by unfold maxLen; omega, .inl (List.eq_nil_of_length_eq_zero (by simpa using h1))⟩
  · refine ⟨_, cap, rfl, hnc, hcm, .inr ⟨g, 0, rfl, ?_, fun i u hi => ?_⟩⟩
    · rcases Nat.lt_or_ge g w.heap.size with h | h
      · exact h
      · rw [Array.getElem?_eq_none h] at hg; cases hg
    · rw [Nat.zero_add, cell_of_row w g i cur e (0, 0) hg]
      have hi' : i < n * 1 := by
        rcases Nat.lt_or_ge i (n * 1) with h | h
        · exact h
        · rw [← htake, List.getElem?_eq_none (by simp; omega)] at hi; cases hi
      rw [← htake, List.getElem?_take_of_lt hi'] at hi
      simpa using hi
end Go.Proofs.YtiiihpokpfhclaaDoor
/- The frame of a law's proof: a walk that ends in true, and turns nothing that was there, gives what the law's row asks; arguments opened to words for memory. -/
namespace Go.Proofs.YtiiihpokpfhclaaDoor
open Go Go.RowKit Go.ChangeShapes Go.WideShapes Go.ChangeAt Go.Deep

section
variable {H : Type} {enc : TypeId × Value → H} {P : Program} {W W' : World}

/-- Arguments read behind the call as before it. -/
theorem trodAll_below (hl : laidOutB P = true) (hb : Below W.heap.size W W') : ∀ (ts : List TypeId) (vs : List Value) (ds : List (DataW H)) (ps : List MemPlace),
    (ts.all fun t => P.readableRec t && decide (t < P.types.size)) = true → DataW.TrodAll enc P W 0 (fun _ => true) true ts vs ds ps → (∀ x ∈ ps, x.block < W.heap.size) →
    DataW.TrodAll enc P W' 0 (fun b => decide (b < W.heap.size)) true ts vs ds ps
  | [], vs, ds, ps, _, h, _ => by
    obtain ⟨rfl, rfl, rfl⟩ := trodAll_nil h
    exact rfl
  | t :: ts, vs, ds, ps, hr, h, hlt => by
    obtain ⟨v, vs', d, ds', p, q, rfl, rfl, rfl, h0, h1⟩ := trodAll_cons h
    rw [List.all_cons, Bool.and_eq_true, Bool.and_eq_true, decide_eq_true_iff] at hr
    exact trodAll_cons_mk (Below.trod hl hr.1.1 hr.1.2 h0 hb fun x hx => hlt x (List.mem_append_left _ hx))
      (trodAll_below hl hb ts vs' ds' q hr.2 h1 fun x hx => hlt x (List.mem_append_right _ hx))

/-- What a law's row asks behind the call. -/
theorem law_post {f : Func} {s : ChangeSpec} {args : Array Value} {ds gs : List (DataW H)} {before : List MemPlace} {tb : TypeId}
    (hl : laidOutB P = true) (hr : (f.params.toList.all fun t => P.readableRec t && decide (t < P.types.size)) = true) (htb : P.underlying tb = some .bool) (hrt : f.resultTypes = #[tb]) (hvars : s.vars = [])
    (hspec : s.fn H (ds ++ gs) = { results := [.lit (.bool true)], args := ds })
    (hW : DataW.Whole enc P f.params.toList s.vars false W args.toList ds gs before) (hb : Below W.heap.size W W') :
    s.post enc P f false true false false W args (.bool true) W' := by
  have hlt := hW.lt
  have hW0 := hW
  obtain ⟨p, q, hA, hV, rfl, hfz, hnd⟩ := hW
  rw [hvars] at hV
  have hq : gs = [] ∧ q = [] := by
    cases gs with
    | nil => exact ⟨rfl, hV⟩
    | cons g gs => exact absurd hV (by simp [DataW.TrodVars])
  obtain ⟨rfl, rfl⟩ := hq
  rw [List.append_nil] at hspec hlt
  refine ⟨ds, [], p ++ [], [], p, [], hW0, ?_, ?_, ?_, ?_, fun h => by cases h⟩
  · rw [List.append_nil, hspec, hrt]
    exact trodAll_mk1 (shut_bool htb true)
  · rw [List.append_nil, hspec]
    exact trodAll_below hl hb _ _ _ _ hr hA hlt
  · rw [List.append_nil, hspec, hvars]
    exact rfl
  · refine World.keptBut_mono (fun x hx => ⟨hx, ?_⟩) (hb.frame (· ∈ p ++ []))
    rw [List.append_nil] at hx
    exact Or.inr (Or.inl hx)

theorem lt_of_cell {w : World} {a : Addr} {u : Value} (h : w.cell? a = some u) : a.block < w.heap.size := by
  rcases Nat.lt_or_ge a.block w.heap.size with hlt | hge
  · exact hlt
  · unfold World.cell? at h
    rw [Array.getElem?_eq_none hge] at h
    cases h

theorem sl_of_at {w : World} {a : Addr} {xs : List Value} (h : ∀ i u, xs[i]? = some u → w.cell? (a.add i) = some u) : Sl w w.heap.size (some a) xs := by
  rcases Nat.eq_zero_or_pos xs.length with h0 | h0
  · exact .inl (List.eq_nil_of_length_eq_zero h0)
  · obtain ⟨b, off, spot⟩ := a
    have h1 := h 0 xs[0] (List.getElem?_eq_getElem h0)
    have hspot : spot = none := by simpa [Addr.add] using World.cell?_spot h1
    subst hspot
    refine .inr ⟨b, off, rfl, ?_, fun i u hu => by rw [← Go.WideShapes.add_plain]; exact h i u hu⟩
    have := lt_of_cell h1
    simpa [Addr.add] using this

def ofNums (zs : List Int) : List UInt8 := zs.map fun n => UInt8.ofNat n.toNat
theorem bv_ofNums {zs : List Int} (hw : ∀ n ∈ zs, (Lit.int .u8 n).wf = true) : bv (ofNums zs) = zs.map (Value.int .u8) := by
  unfold bv ofNums
  rw [List.map_map]
  refine List.map_congr_left fun n hn => ?_
  have h := bounds_u8 (hw n hn)
  have h2 : n.toNat < 256 := by omega
  simp only [Function.comp]
  rw [UInt8.toNat_ofNat_of_lt' (by simpa using h2)]
  congr 1
  omega

/-- A []byte that came in. -/
theorem open_bytesV {t e : TypeId} {base base' : Nat} {spare : Nat → Bool} {held : Bool} {v : Value} {d : DataW H} {p : List MemPlace} (ht : P.underlying t = some (.slice e)) (he : P.underlying e = some (.int .u8)) (hc : P.cellsOf e = 1)
    (hval : Value.okWide P W .any base' t v) (h : DataW.Trod enc P W base spare held t v d p) : ∃ l, BytesV W W.heap.size v l := by
  obtain ⟨a0, len, cap, rfl⟩ := okWide_slice ht hval
  obtain ⟨fuel, hf⟩ := h
  rcases open_ints ht he hc hf with ⟨hcs, _⟩ | ⟨a, len', cap', zs, hcs, _, hl, hm, hz, _, hcell, hw⟩
  · have : a0 = none ∧ len = 0 ∧ cap = 0 := by simpa [Value.cells] using hcs
    obtain ⟨rfl, rfl, rfl⟩ := this
    exact ⟨[], BytesV.nil_ _ _⟩
  · have : a0 = some a ∧ len = len' ∧ cap = cap' := by simpa [Value.cells] using hcs
    obtain ⟨rfl, rfl, rfl⟩ := this
    have hlen : len ≤ zs.length := by rw [hz]; split <;> omega
    have hw' : ∀ n ∈ zs.take len, (Lit.int .u8 n).wf = true := fun n hn => hw n (List.mem_of_mem_take hn)
    refine ⟨ofNums (zs.take len), some a, cap, ?_, ?_, hm, ?_⟩
    · simp [ofNums, hlen]
    · simp [ofNums]; omega
    · rw [bv_ofNums hw']
      refine sl_of_at fun i u hu => ?_
      have hi : i < len := by
        rcases Nat.lt_or_ge i len with h | h
        · exact h
        · rw [List.getElem?_eq_none (by simp; omega)] at hu; cases hu
      rw [hcell i (by omega)]
      rw [List.getElem?_map, List.getElem?_take_of_lt hi, List.getElem?_eq_getElem (by omega)] at hu
      rw [List.getD_eq_getElem?_getD, List.getElem?_eq_getElem (by omega)]
      simpa using hu

/-- A [][]byte that came in. -/
theorem open_rowsV {t e q : TypeId} {base base' : Nat} {held : Bool} {v : Value} {d : DataW H} {p : List MemPlace} (ht : P.underlying t = some (.slice e)) (he : P.underlying e = some (.slice q)) (hq : P.underlying q = some (.int .u8)) (ce : P.cellsOf e = 1) (cq : P.cellsOf q = 1)
    (hval : Value.okWide P W .any base' t v) (h : DataW.Trod enc P W base (fun _ => true) held t v d p) : ∃ ls, RowsV W W.heap.size v ls := by
  obtain ⟨a0, len, cap, rfl⟩ := okWide_slice ht hval
  obtain ⟨fuel, hf⟩ := h
  rcases open_int_rows ht he hq ce cq hf with ⟨hcs, _⟩ | ⟨a, len', cap', A, L, C, Z, hcs, _, hl, hm, _, hrow⟩
  · have : a0 = none ∧ len = 0 ∧ cap = 0 := by simpa [Value.cells] using hcs
    obtain ⟨rfl, rfl, rfl⟩ := this
    exact ⟨[], none, 0, [], rfl, Nat.le_refl _, by unfold maxLen; omega, .inl rfl, rfl, fun i v l hv => by simp at hv⟩
  · have : a0 = some a ∧ len = len' ∧ cap = cap' := by simpa [Value.cells] using hcs
    obtain ⟨rfl, rfl, rfl⟩ := this
    refine ⟨(List.range len).map fun r => ofNums ((Z r).take (L r)), some a, cap, (List.range len).map fun r => .slice (A r) (L r) (C r), by simp, by simpa using hl, hm, ?_, by simp, ?_⟩
    · refine sl_of_at fun i u hu => ?_
      have hi : i < len := by
        rcases Nat.lt_or_ge i len with h | h
        · exact h
        · rw [List.getElem?_eq_none (by simpa using h)] at hu; cases hu
      rw [(hrow i (by omega)).1]
      simpa [hi] using hu
    · intro i v l hv hl'
      have hi : i < len := by
        rcases Nat.lt_or_ge i len with h | h
        · exact h
        · rw [List.getElem?_eq_none (by simpa using h)] at hv; cases hv
      obtain ⟨_, h1, h2, h3, hw, hn, hc⟩ := hrow i (by omega)
      have hv' : v = .slice (A i) (L i) (C i) := by simpa [hi] using hv.symm
      have hl2 : l = ofNums ((Z i).take (L i)) := by simpa [hi] using hl'.symm
      subst hv' hl2
      have hlen : (ofNums ((Z i).take (L i))).length = L i := by simp [ofNums]; omega
      refine ⟨A i, C i, by rw [hlen], by rw [hlen]; exact h1, h2, ?_⟩
      rw [bv_ofNums fun n hn => hw n (List.mem_of_mem_take hn)]
      cases hA : A i with
      | none =>
        have h0 := hn hA
        refine .inl ?_
        have : L i = 0 := by omega
        simp [this]
      | some a' =>
        refine sl_of_at fun j u hu => ?_
        have hj : j < L i := by
          rcases Nat.lt_or_ge j (L i) with h | h
          · exact h
          · rw [List.getElem?_eq_none (by simp; omega)] at hu; cases hu
        rw [(hc a' hA).2 j (by omega)]
        rw [List.getElem?_map, List.getElem?_take_of_lt hj, List.getElem?_eq_getElem (by omega)] at hu
        rw [List.getD_eq_getElem?_getD, List.getElem?_eq_getElem (by omega)]
        simpa using hu
end
end Go.Proofs.YtiiihpokpfhclaaDoor
/- Objects of the call's own: what an operation on one of them leaves as it was. -/
namespace Go.Proofs.YtiiihpokpfhclaaDoor
open Go Go.RowKit

/-- Of what was there nothing has turned but the blocks of F. -/
structure Upd (F : Nat → Prop) (w w' : World) : Prop where
  os : w'.os = w.os
  tape : w'.tape = w.tape
  output : w'.output = w.output
  size : w.heap.size ≤ w'.heap.size
  block : ∀ k, k < w.heap.size → ¬ F k → w'.heap[k]? = w.heap[k]?

section
variable {F G : Nat → Prop} {w w' w'' : World}
theorem Upd.refl (F : Nat → Prop) (w : World) : Upd F w w := ⟨rfl, rfl, rfl, Nat.le_refl _, fun _ _ _ => rfl⟩
theorem Upd.trans (h : Upd F w w') (g : Upd G w' w'') (hG : ∀ k, k < w.heap.size → G k → F k) : Upd F w w'' :=
  ⟨g.os.trans h.os, g.tape.trans h.tape, g.output.trans h.output, Nat.le_trans h.size g.size, fun k hk hn => (g.block k (Nat.lt_of_lt_of_le hk h.size) fun hg => hn (hG k hk hg)).trans (h.block k hk hn)⟩
theorem Upd.then (h : Upd F w w') (g : Upd F w' w'') : Upd F w w'' := h.trans g fun _ _ h => h
theorem Upd.mono (h : Upd F w w') (hG : ∀ k, k < w.heap.size → F k → G k) : Upd G w w' :=
  ⟨h.os, h.tape, h.output, h.size, fun k hk hn => h.block k hk fun hf => hn (hG k hk hf)⟩
theorem Upd.of_below (F : Nat → Prop) (h : Below w.heap.size w w') : Upd F w w' := ⟨h.os, h.tape, h.output, h.size, fun k hk _ => h.block k hk⟩
theorem Upd.below {B : Nat} (h : Upd F w w') (hB : B ≤ w.heap.size) (hF : ∀ k, F k → B ≤ k) : Below B w w' :=
  ⟨h.os, h.tape, h.output, h.size, fun k hk => h.block k (by omega) fun hf => by have := hF k hf; omega⟩
theorem Upd.alloc (F : Nat → Prop) (w : World) (o : Obj) : Upd F w (w.alloc o) := .of_below F ((Below.refl _ _).alloc (Nat.le_refl _) o)
theorem Upd.drew (h : Upd F w w') : Upd F w w'.drew := ⟨h.os, h.tape, h.output, h.size, h.block⟩
theorem Upd.set (w : World) {a : Addr} (hF : F a.block) (u : Value) : Upd F w (w.setCell a u) :=
  ⟨rfl, rfl, rfl, by simp [World.setCell], fun k _ hn => Below.heap_setCell _ _ _ _ fun e => hn (e ▸ hF)⟩
theorem Upd.grown {row : Option Nat} (hg : w.grownBy w' row) (hF : ∀ k, row = some k → F k) : Upd F w w' :=
  ⟨hg.os, hg.tape, hg.output, hg.size, fun k hk hn => hg.block k hk fun e => hn (hF k e.symm)⟩
theorem Upd.heap (h : Upd F w w') {k : Nat} {o : Obj} (hk : w.heap[k]? = some o) (hn : ¬ F k) : w'.heap[k]? = some o :=
  (h.block k (Array.getElem?_eq_some_iff.1 hk).1 hn).trans hk
theorem Upd.own (h : Upd F w w') {base : Nat} {e : TypeId} {size n : Nat} {v : Value} {xs : List Value} (ho : w.ownsRow base e size v n xs) (hn : ∀ k, v.ownBlock = some k → ¬ F k) : w'.ownsRow base e size v n xs := by
  refine ⟨ho.1, ?_⟩
  rcases ho.2 with hn' | ⟨g, cap, cur, rfl, hb, hgg, rest⟩
  · exact .inl hn'
  · exact .inr ⟨g, cap, cur, rfl, hb, h.heap hgg (hn g rfl), rest⟩
theorem Upd.cell (h : Upd F w w') {b o : Nat} {u : Value} (hc : w.cell? ⟨b, o, none⟩ = some u) (hn : ¬ F b) : w'.cell? ⟨b, o, none⟩ = some u := by
  have hb := World.block_lt_of_cell? w _ hc
  exact (World.cell?_of_block (w := w) (h.block b hb hn)).trans hc
theorem Upd.sl {B : Nat} {A : Option Addr} {xs : List Value} (h : Upd F w w') (hs : Sl w B A xs) (hn : ∀ k, k < B → ¬ F k) : Sl w' B A xs := by
  rcases hs with rfl | ⟨b, o, rfl, hb, hc⟩
  · exact .inl rfl
  · exact .inr ⟨b, o, rfl, hb, fun i u hi => h.cell (hc i u hi) (hn b hb)⟩
theorem Upd.bytes {B : Nat} {v : Value} {l : List UInt8} (h : Upd F w w') (hs : BytesV w B v l) (hn : ∀ k, k < B → ¬ F k) : BytesV w' B v l := by
  obtain ⟨A, c, h1, h2, h3, h4⟩ := hs
  exact ⟨A, c, h1, h2, h3, h.sl h4 hn⟩
end

theorem ownsRow_base {w : World} {b b' : Nat} {e : TypeId} {size n : Nat} {v : Value} {xs : List Value} (h : w.ownsRow b e size v n xs) (hb : b' ≤ b) : w.ownsRow b' e size v n xs := by
  refine ⟨h.1, ?_⟩
  rcases h.2 with hn | ⟨g, cap, cur, rfl, h1, rest⟩
  · exact .inl hn
  · exact .inr ⟨g, cap, cur, rfl, by omega, rest⟩
/-- A row's block bears its elements' type: so a block of another type is another block. -/
theorem own_type {w : World} {b : Nat} {e e' : TypeId} {size n k : Nat} {v : Value} {xs : List Value} {cs : Array Value} {fr : Nat × Nat} (h : w.ownsRow b e size v n xs) (hk : v.ownBlock = some k) (hh : w.heap[k]? = some (.cells cs e' fr)) : e = e' := by
  rcases h.2 with ⟨rfl, _⟩ | ⟨g, cap, cur, rfl, _, hg, _⟩
  · cases hk
  · have : g = k := by simpa [Value.ownBlock] using hk
    subst this
    rw [hh] at hg
    injection hg with hg
    injection hg with _ h2
    exact h2.symm
theorem heap_set {w : World} {p : Nat} {cs : Array Value} {t : TypeId} {fr : Nat × Nat} (h : w.heap[p]? = some (.cells cs t fr)) (o : Nat) (u : Value) : (w.setCell ⟨p, o, none⟩ u).heap[p]? = some (.cells (cs.setIfInBounds o u) t fr) := by
  simp only [World.setCell, Array.getElem?_modify, h, if_true, Option.map_some]
  rfl
theorem heap_set_other {w : World} {p q : Nat} (hne : q ≠ p) (o : Nat) (u : Value) : (w.setCell ⟨p, o, none⟩ u).heap[q]? = w.heap[q]? := Below.heap_setCell _ _ _ _ hne
theorem cell_at {w : World} {p : Nat} {cs : Array Value} {t : TypeId} (h : w.heap[p]? = some (.cells cs t (0, 0))) (o : Nat) : w.cell? ⟨p, o, none⟩ = cs[o]? := cell_of_row w p o cs t (0, 0) h
theorem frozen_at {w : World} {p : Nat} {cs : Array Value} {t : TypeId} (h : w.heap[p]? = some (.cells cs t (0, 0))) (o : Nat) : w.frozen? ⟨p, o, none⟩ = false := Lib.frozen_of_heap h o
theorem heap_new (w : World) (o : Obj) : (w.alloc o).heap[w.heap.size]? = some o := heap_alloc_new w o
theorem heap_old {w : World} {k : Nat} {o : Obj} (h : w.heap[k]? = some o) (o' : Obj) : (w.alloc o').heap[k]? = some o := by
  rw [Below.heap_alloc _ _ _ (Array.getElem?_eq_some_iff.1 h).1]; exact h

/-- A list of values behind a slice, in a block of which S holds. -/
def ArgV (w : World) (S : Nat → Prop) (v : Value) (xs : List Value) : Prop :=
  ∃ A c, v = .slice A xs.length c ∧ xs.length ≤ c ∧ c ≤ maxLen ∧ (xs = [] ∨ ∃ b o, A = some ⟨b, o, none⟩ ∧ S b ∧ ∀ i u, xs[i]? = some u → w.cell? ⟨b, o + i, none⟩ = some u)
theorem ArgV.upd {w w' : World} {F S : Nat → Prop} {v : Value} {xs : List Value} (h : ArgV w S v xs) (hu : Upd F w w') (hS : ∀ k, S k → ¬ F k) : ArgV w' S v xs := by
  obtain ⟨A, c, h1, h2, h3, h4⟩ := h
  refine ⟨A, c, h1, h2, h3, ?_⟩
  rcases h4 with rfl | ⟨b, o, rfl, hb, hc⟩
  · exact .inl rfl
  · exact .inr ⟨b, o, rfl, hb, fun i u hi => hu.cell (hc i u hi) (hS b hb)⟩
theorem ArgV.mono {w : World} {S S' : Nat → Prop} {v : Value} {xs : List Value} (h : ArgV w S v xs) (hS : ∀ k, k < w.heap.size → S k → S' k) : ArgV w S' v xs := by
  obtain ⟨A, c, h1, h2, h3, h4⟩ := h
  refine ⟨A, c, h1, h2, h3, ?_⟩
  rcases h4 with rfl | ⟨b, o, rfl, hb, hc⟩
  · exact .inl rfl
  · cases xs with
    | nil => exact .inl rfl
    | cons x xs => exact .inr ⟨b, o, rfl, hS b (World.block_lt_of_cell? w _ (hc 0 x rfl)) hb, hc⟩
theorem ArgV.get {w : World} {S : Nat → Prop} {A : Option Addr} {n c : Nat} {xs : List Value} {i : Nat} {u : Value} (h : ArgV w S (.slice A n c) xs) (hi : xs[i]? = some u) : ∃ b o, A = some ⟨b, o, none⟩ ∧ S b ∧ w.cell? ⟨b, o + i, none⟩ = some u := by
  obtain ⟨A', c', h1, h2, h3, h4⟩ := h
  injection h1 with e1 e2 e3
  subst e1
  rcases h4 with rfl | ⟨b, o, rfl, hb, hc⟩
  · simp at hi
  · exact ⟨b, o, rfl, hb, hc i u hi⟩
/-- A single value in a block of its own, as a call's '..' takes it. -/
theorem ArgV.one {w : World} {S : Nat → Prop} {g : Nat} {u : Value} (hc : w.cell? ⟨g, 0, none⟩ = some u) (hS : S g) : ArgV w S (.slice (some ⟨g, 0, none⟩) 1 1) [u] := by
  refine ⟨_, _, rfl, Nat.le_refl _, by unfold maxLen; simp, .inr ⟨g, 0, rfl, hS, fun i x hi => ?_⟩⟩
  match i, hi with
  | 0, hi => rw [hc]; simpa using hi
theorem ArgV.two {w : World} {S : Nat → Prop} {g : Nat} {u v : Value} (h0 : w.cell? ⟨g, 0, none⟩ = some u) (h1 : w.cell? ⟨g, 1, none⟩ = some v) (hS : S g) : ArgV w S (.slice (some ⟨g, 0, none⟩) 2 2) [u, v] := by
  refine ⟨_, _, rfl, Nat.le_refl _, by unfold maxLen; simp, .inr ⟨g, 0, rfl, hS, fun i x hi => ?_⟩⟩
  match i, hi with
  | 0, hi => rw [h0]; simpa using hi
  | 1, hi => rw [h1]; simpa using hi
theorem ArgV.of_sl {w : World} {B : Nat} {A : Option Addr} {c : Nat} {xs : List Value} (hs : Sl w B A xs) (h1 : xs.length ≤ c) (h2 : c ≤ maxLen) : ArgV w (· < B) (.slice A xs.length c) xs := by
  refine ⟨A, c, rfl, h1, h2, ?_⟩
  rcases hs with rfl | ⟨b, o, rfl, hb, hc⟩
  · exact .inl rfl
  · exact .inr ⟨b, o, rfl, hb, hc⟩

theorem BytesV.slice' {w : World} {B : Nat} {v : Value} {l : List UInt8} (h : BytesV w B v l) : ∃ A n c, v = .slice A n c := by
  obtain ⟨A, c, rfl, -⟩ := h
  exact ⟨A, _, c, rfl⟩
theorem BytesV.take {w : World} {B n c : Nat} {A : Option Addr} {l : List UInt8} (h : BytesV w B (.slice A n c) l) (k : Nat) (hk : k ≤ l.length) : BytesV w B (.slice A k c) (l.take k) := by
  obtain ⟨A0, c0, h1, h2, h3, h4⟩ := h
  injection h1 with e1 e2 e3
  subst e1 e2 e3
  have hl : (l.take k).length = k := by rw [List.length_take]; omega
  refine ⟨A, c, by rw [hl], by omega, h3, ?_⟩
  have e : bv (l.take k) = (bv l).take k := by unfold bv; rw [List.map_take]
  rw [e]
  exact h4.take k

/-- A []byte of the call's own. -/
def RowB (w : World) (B : Nat) (v : Value) (l : List UInt8) : Prop := w.ownsRow B 5 1 v l.length (bv l)
theorem RowB.bytes {w : World} {B : Nat} {v : Value} {l : List UInt8} (h : RowB w B v l) : BytesV w w.heap.size v l := by
  obtain ⟨A, c, rfl, h1, h2, h3⟩ := ownsRow_sl h
  exact ⟨A, c, rfl, h1, h2, h3⟩
theorem RowB.slice {w : World} {B : Nat} {v : Value} {l : List UInt8} (h : RowB w B v l) : ∃ A n c, v = .slice A n c := by
  obtain ⟨A, c, rfl, -⟩ := ownsRow_sl h
  exact ⟨A, _, c, rfl⟩
theorem RowB.nil_ (w : World) (B : Nat) : RowB w B (.slice none 0 0) [] := World.ownsRow_nil _ _ _ _
theorem byte_info : (Tryd.prog.info? 5).map (fun i => (i.zero, i.size, i.bytes)) = some (some (.int .u8 0), 1, 1) := by kernel_rfl

theorem info_parts {P : Program} {t : TypeId} {z : Value} {s b : Nat} (h : (P.info? t).map (fun i => (i.zero, i.size, i.bytes)) = some (some z, s, b)) : ∃ i, P.info? t = some i ∧ i.zero = some z ∧ i.size = s ∧ i.bytes = b := by
  cases hi : P.info? t with
  | none => rw [hi] at h; cases h
  | some i =>
    rw [hi] at h
    simp only [Option.map_some, Option.some.injEq, Prod.mk.injEq] at h
    exact ⟨i, rfl, h.1, h.2.1, h.2.2⟩

section
variable {P : Program} (w : World)
/-- An append to a row of the call's own: the row stays in its block, or goes into a new one. -/
theorem run_append_moved (base : Nat) (t ty e : TypeId) (i : TypeInfo) (z : Value) (size bytes : Nat) (ht : P.underlying t = some (.slice e)) (hi : P.info? e = some i) (hz : i.zero = some z)
    (hsize : i.size = size) (hby : i.bytes = bytes) (hzs : z.cells.size = size) (hsz : 0 < size)
    (v : Value) (n : Nat) (xs : List Value) (hown : w.ownsRow base e size v n xs)
    (a : Addr) (m c : Nat) (news : List Value) (hl : news.length = m * size) (hnews : ∀ j u, news[j]? = some u → w.cell? (a.add j) = some u) (h1 : ∀ u ∈ news, u.oneCell' = true)
    (h63 : n + m ≤ maxLen) (hbytes : (n + m) * bytes ≤ 140737488355328) (hbase : base ≤ w.heap.size) :
    ∃ v' w', (Builtin.append_ #[t, t] ty #[v, .slice (some a) m c]).run P w = .ok v' w' ∧ w'.ownsRow base e size v' (n + m) (xs ++ news) ∧ w.grownBy w' v.ownBlock ∧ ∀ k, v'.ownBlock = some k → v.ownBlock = some k ∨ w.heap.size ≤ k := by
  obtain ⟨v', w', hr, h2, h3, -⟩ := run_append_own (P := P) w base t ty e i z size bytes ht hi hz hsize hby hzs hsz v n xs hown a m c news hl hnews h1 h63 hbytes hbase
  refine ⟨v', w', hr, h2, h3, fun k hk => ?_⟩
  rcases hown.2 with ⟨rfl, rfl⟩ | ⟨g, cap, cur, rfl, hbg, hg, hnc, hcm, hcs, htake⟩
  · obtain rfl : xs = [] := List.eq_nil_of_length_eq_zero (by simpa using hown.1)
    obtain ⟨v2, w2, hr2, h4, -, -⟩ := run_append_own (P := P) w w.heap.size t ty e i z size bytes ht hi hz hsize hby hzs hsz _ 0 [] (World.ownsRow_nil w _ e size) a m c news hl hnews h1 h63 hbytes (Nat.le_refl _)
    rw [hr] at hr2
    injection hr2 with e1 e2
    subst e1 e2
    exact .inr (h4.lt k hk).1
  · by_cases hroom : n + m ≤ cap
    · have := run_append_room (P := P) w t ty e i ht hi g n cap cur hg a m c news (by rw [hsize]; exact hl) hnews h1 hroom (by
        rw [hsize, hl, ← Nat.add_mul, hcs]; exact Nat.mul_le_mul_right _ hroom)
      rw [hr] at this
      injection this with e1 e2
      subst e1
      exact .inl hk
    · obtain ⟨v2, w2, hr2, h4, -⟩ := run_append_arg_grows (P := P) w t ty e i z size bytes ht hi hz hsize hby hzs hsz ⟨g, 0, none⟩ n cap xs hown.1 (hown.cells (g := g) rfl) a m c news hl hnews (by omega) h63 hbytes
      rw [hr] at hr2
      injection hr2 with e1 e2
      subst e1 e2
      exact .inr (h4.lt k hk).1
/-- The same of a string's bytes. -/
theorem run_append_moved_string (base : Nat) (t u ty e : TypeId) (i : TypeInfo) (ht : P.underlying t = some (.slice e)) (hu : P.underlying u = some .string) (hi : P.info? e = some i) (hz : i.zero = some (.int .u8 0))
    (hsize : i.size = 1) (hby : i.bytes = 1)
    (v : Value) (n : Nat) (xs : List Value) (hown : w.ownsRow base e 1 v n xs) (s : ByteArray)
    (h63 : n + s.size ≤ maxLen) (hbytes : n + s.size ≤ 140737488355328) (hbase : base ≤ w.heap.size) :
    ∃ v' w', (Builtin.append_ #[t, u] ty #[v, .string s]).run P w = .ok v' w' ∧ w'.ownsRow base e 1 v' (n + s.size) (xs ++ Lib.strCells s) ∧ w.grownBy w' v.ownBlock ∧ ∀ k, v'.ownBlock = some k → v.ownBlock = some k ∨ w.heap.size ≤ k := by
  obtain ⟨v', w', hr, h2, h3, -⟩ := Lib.run_append_own_string (P := P) w base t u ty e i ht hu hi hz hsize hby v n xs hown s h63 hbytes hbase
  refine ⟨v', w', hr, h2, h3, fun k hk => ?_⟩
  have hxl : xs.length = n := by simpa using hown.1
  rcases hown.2 with ⟨rfl, rfl⟩ | ⟨g, cap, cur, rfl, hbg, hg, hnc, hcm, hcs, htake⟩
  · obtain rfl : xs = [] := List.eq_nil_of_length_eq_zero (by simpa using hown.1)
    obtain ⟨v2, w2, hr2, h4, -, -⟩ := Lib.run_append_own_string (P := P) w w.heap.size t u ty e i ht hu hi hz hsize hby _ 0 [] (World.ownsRow_nil w _ e 1) s h63 hbytes (Nat.le_refl _)
    rw [hr] at hr2
    injection hr2 with e1 e2
    subst e1 e2
    exact .inr (h4.lt k hk).1
  · by_cases hroom : n + s.size ≤ cap
    · have := Lib.run_append_room_string (P := P) w t u ty e i ht hu hi hsize g n cap cur hg s hroom (by rw [hcs]; omega)
      rw [hr] at this
      injection this with e1 e2
      subst e1
      exact .inl hk
    · have := Lib.run_append_grow_string (P := P) w t u ty e i (.int .u8 0) ht hu hi hz ⟨g, 0, none⟩ n cap xs (by rw [hsize]; simpa using hxl) (hown.cells (g := g) rfl) s (by omega) (by unfold maxLen at h63; omega) (by rw [hby]; exact growslice_fits (by omega) (by omega))
      rw [hr] at this
      injection this with e1 e2
      subst e1
      right
      have : w.heap.size = k := by simpa [Value.ownBlock] using hk
      omega
end

section
variable {w : World} {ops : Array Oper} {rest : List Oper} {o : Oper} {a : Act} {Q : Exit → Act → World → Prop}
/-- The walk's law: bytes behind a row of the call's own. -/
theorem wp_bytes (hgd : o.guard = none) (s x : Operand) (ho : o.op = .call { callee := .builtin .append, args := #[s, x], argTypes := #[22, 22] })
    (B : Nat) (v : Value) (l : List UInt8) (hs : a.eval s = v) (hown : RowB w B v l) (ad : Addr) (m c : Nat) (news : List UInt8) (hx : a.eval x = .slice (some ad) m c) (hm : m = news.length)
    (hnews : ∀ j u, (bv news)[j]? = some u → w.cell? (ad.add j) = some u) (hlen : l.length + news.length ≤ 70368744177664) (hbase : B ≤ w.heap.size)
    (h : ∀ v' w', RowB w' B v' (l ++ news) → w.grownBy w' v.ownBlock → (∀ k, v'.ownBlock = some k → v.ownBlock = some k ∨ w.heap.size ≤ k) → wpList Tryd.prog ops Q rest (a.put o.dst v') w') : wpList Tryd.prog ops Q (o :: rest) a w := by
  subst hm
  obtain ⟨i0, hi, hz0, hz1, hz2⟩ := info_parts byte_info
  refine wpList_plain hgd fun K hK => ?_
  obtain ⟨v', w', hr, h2, h3, h4⟩ := run_append_moved (P := Tryd.prog) w B 22 o.type 5 i0 (.int .u8 0) 1 1 Tryd.underlying22 hi hz0 hz1 hz2 rfl Nat.one_pos v l.length (bv l) hown ad news.length c (bv news) (by rw [bv_len, Nat.mul_one]) hnews (fun u hu => by
    unfold bv at hu; rw [List.mem_map] at hu; obtain ⟨b, _, rfl⟩ := hu; rfl) (by unfold maxLen; omega) (by omega) hbase
  unfold Oper.wp execOp
  simp only [ho, resolve, invoke, builtin, Sem.run_bind, Sem.run_pure, Result.andThen_ok, List.map_toArray, List.map_cons, List.map_nil, hs, hx, hr]
  refine hK _ _ (h v' w' ?_ h3 h4)
  unfold RowB
  rw [List.length_append]
  simpa [bv] using h2
/-- The same of a string. -/
theorem wp_bytes_string (hgd : o.guard = none) (s x : Operand) (ho : o.op = .call { callee := .builtin .append, args := #[s, x], argTypes := #[22, 9] })
    (B : Nat) (v : Value) (l : List UInt8) (hs : a.eval s = v) (hown : RowB w B v l) (str : ByteArray) (hx : a.eval x = .string str)
    (hlen : l.length + str.size ≤ 70368744177664) (hbase : B ≤ w.heap.size)
    (h : ∀ v' w', RowB w' B v' (l ++ str.data.toList) → w.grownBy w' v.ownBlock → (∀ k, v'.ownBlock = some k → v.ownBlock = some k ∨ w.heap.size ≤ k) → wpList Tryd.prog ops Q rest (a.put o.dst v') w') : wpList Tryd.prog ops Q (o :: rest) a w := by
  obtain ⟨i0, hi, hz0, hz1, hz2⟩ := info_parts byte_info
  refine wpList_plain hgd fun K hK => ?_
  obtain ⟨v', w', hr, h2, h3, h4⟩ := run_append_moved_string (P := Tryd.prog) w B 22 9 o.type 5 i0 Tryd.underlying22 Tryd.underlying9 hi hz0 hz1 hz2 v l.length (bv l) hown str (by unfold maxLen; omega) (by omega) hbase
  unfold Oper.wp execOp
  simp only [ho, resolve, invoke, builtin, Sem.run_bind, Sem.run_pure, Result.andThen_ok, List.map_toArray, List.map_cons, List.map_nil, hs, hx, hr]
  refine hK _ _ (h v' w' ?_ h3 h4)
  unfold RowB
  rw [List.length_append]
  have e1 : bv (l ++ str.data.toList) = bv l ++ Lib.strCells str := by unfold bv Lib.strCells; rw [List.map_append]
  have e2 : str.data.toList.length = str.size := Array.length_toList
  rw [e1, e2]
  exact h2
/-- Bytes behind a slice that is full: the row is new. -/
theorem wp_bytes_full (hgd : o.guard = none) (s x : Operand) (ho : o.op = .call { callee := .builtin .append, args := #[s, x], argTypes := #[22, 22] })
    (B : Nat) (A : Option Addr) (l : List UInt8) (hs : a.eval s = .slice A l.length l.length) (hown : Sl w B A (bv l)) (ad : Addr) (m c : Nat) (news : List UInt8) (hx : a.eval x = .slice (some ad) m c) (hm : m = news.length) (hpos : 0 < news.length) 
    (hnews : ∀ j u, (bv news)[j]? = some u → w.cell? (ad.add j) = some u) (hlen : l.length + news.length ≤ 70368744177664)
    (h : ∀ v' w', RowB w' w.heap.size v' (l ++ news) → Below w.heap.size w w' → wpList Tryd.prog ops Q rest (a.put o.dst v') w') : wpList Tryd.prog ops Q (o :: rest) a w := by
  subst hm
  obtain ⟨i0, hi, hz0, hz1, hz2⟩ := info_parts byte_info
  refine wpList_append_grows (P := Tryd.prog) w hgd s x 22 ho 5 i0 (.int .u8 0) 1 1 Tryd.underlying22 hi hz0 hz1 hz2 rfl Nat.one_pos A l.length l.length (bv l) hs ?_ (by rw [bv_len, Nat.mul_one]) ?_ ad news.length c (bv news) hx (by rw [bv_len, Nat.mul_one]) hnews (fun u hu => by
    unfold bv at hu; rw [List.mem_map] at hu; obtain ⟨b, _, rfl⟩ := hu; rfl) (by omega) (by unfold maxLen; omega) (by omega) ?_
  · intro hn
    rcases hown with h0 | ⟨b, o, rfl, _⟩
    · have : l.length = 0 := by rw [← bv_len, h0]; rfl
      omega
    · cases hn
  · intro b hb j u hj
    rcases hown with h0 | ⟨b', o, rfl, _, hc⟩
    · rw [h0] at hj; simp at hj
    · obtain rfl := Option.some.inj hb
      rw [Go.WideShapes.add_plain]
      exact hc j u hj
  · intro v' w' h1 h2
    refine h v' w' ?_ ((Below.refl _ w).grown h2 (Nat.le_refl _) (fun k hk => by cases hk))
    unfold RowB
    rw [List.length_append]
    simpa [bv] using h1
end
end Go.Proofs.YtiiihpokpfhclaaDoor
/- The document's tokens: what a text comes to, byte by byte. -/
namespace Go.Proofs.YtiiihpokpfhclaaDoor

/-- A token: its kind, its bytes, where it begins. -/
structure Tok where
  kind : Nat
  text : List UInt8
  at_ : Nat

def letterB (c : Nat) : Bool := decide (97 ≤ c ∧ c ≤ 122 ∨ 65 ≤ c ∧ c ≤ 90 ∨ c = 95)
def digitB (c : Nat) : Bool := decide (48 ≤ c ∧ c ≤ 57)
def blankB (c : Nat) : Bool := decide (c = 32 ∨ c = 9 ∨ c = 13 ∨ c = 10)
def opsL : List (List UInt8) := [[61, 61], [33, 61], [60, 61], [62, 61], [38, 38], [124, 124], [61], [60], [62], [43], [45], [42], [47], [37], [38], [33], [40], [41], [123], [125], [91], [93], [44], [59]]
def isOp (w : List UInt8) : Bool := opsL.contains w
/-- What decimal digits come to. -/
def valF (n : Nat) (c : UInt8) : Nat := 10 * n + (c.toNat - 48)
def valL (w : List UInt8) : Nat := w.foldl valF 0

/-- What is being read: nothing that matters; a comment; a token of a kind, where it began, its bytes so far. -/
inductive St where
  | blank
  | com
  | word (k : Nat) (fr : Nat) (w : List UInt8)
def St.goes : St → UInt8 → Bool
  | .blank, _ => false
  | .com, c => c != 10
  | .word 0 _ _, c => letterB c.toNat || digitB c.toNat
  | .word 1 _ _, c => digitB c.toNat
  | .word _ _ w, c => isOp (w ++ [c])
def St.push : St → UInt8 → St
  | .word k fr w, c => .word k fr (w ++ [c])
  | s, _ => s
def faultN (w : List UInt8) (next : UInt8) : Nat :=
  if 9223372036854775807 < valL w then 53 else if (letterB next.toNat || (w.headD 0 == 48 && decide (1 < w.length))) = true then 50 else 0
def fault (k : Nat) (w : List UInt8) (next : UInt8) : Nat :=
  match k with
  | 0 => if 32 < w.length then 53 else 0
  | 1 => faultN w next
  | _ => if isOp w = true then 0 else 50
abbrev Res := Except (Nat × Nat) (List Tok)
def St.fin (ts : List Tok) (next : UInt8) : St → Res
  | .word k fr w => if fault k w next = 0 then .ok (ts ++ [⟨k, w, fr⟩]) else .error (fr, fault k w next)
  | _ => .ok ts
def St.begin (i : Nat) (c : UInt8) : St :=
  if blankB c.toNat = true then .blank else if c = 35 then .com else if letterB c.toNat = true then .word 0 i [c] else if digitB c.toNat = true then .word 1 i [c] else .word 2 i [c]

/-- The bytes behind the i-th, read one by one, the last of them the end of a line. -/
def runT : St → Nat → List Tok → List UInt8 → Res
  | _, _, ts, [] => .ok ts
  | st, i, ts, c :: r => if st.goes c = true then runT (st.push c) (i + 1) ts r else
    match st.fin ts c with
    | .error e => .error e
    | .ok ts' => runT (St.begin i c) (i + 1) ts' r
/-- What a text's tokens are, or its first error. -/
def lexT (s : List UInt8) : Res := if 4096 < s.length then .error (0, 53) else runT .blank 0 [] (s ++ [10])
end Go.Proofs.YtiiihpokpfhclaaDoor
/- Walks of small functions of package lex and of the document's: which bytes are letters, digits, blanks; which words are operators. -/
namespace Go.Proofs.YtiiihpokpfhclaaDoor
open Go.RowKit
theorem ret_bool {b c : Bool} {w : World} (h : b = c) : (Ending.returned (.bool b) = .returned (.bool c)) ∧ w = w := ⟨by rw [h], rfl⟩
theorem nat_beq (c k : Nat) : ((c : Int) == (k : Int)) = decide (c = k) := by
  by_cases h : c = k
  · subst h; simp
  · have : (c : Int) ≠ (k : Int) := by omega
    simp [h, this]
set_option maxRecDepth 100000 in
theorem letter_any (c : Nat) (w : World) : Calls Tryd.prog 49 #[.int .u8 c] w fun e w' => e = .returned (.bool (letterB c)) ∧ w' = w := by
  go_enter Tryd.func49, Tryd.ntmps49
  go_wp2
  all_goals go_ret
  all_goals refine ret_bool ?_
  all_goals (unfold letterB; rw [Bool.eq_iff_iff]; simp; omega)
set_option maxRecDepth 100000 in
theorem digit_any (c : Nat) (w : World) : Calls Tryd.prog 50 #[.int .u8 c] w fun e w' => e = .returned (.bool (digitB c)) ∧ w' = w := by
  go_enter Tryd.func50, Tryd.ntmps50
  go_wp2
  all_goals go_ret
  all_goals refine ret_bool ?_
  all_goals (unfold digitB; rw [Bool.eq_iff_iff]; simp; omega)
/-- Bytes as a string. -/
def strB (l : List UInt8) : ByteArray := ⟨l.toArray⟩
theorem strB_eq (s : ByteArray) : s = strB s.data.toList := by cases s; simp [strB]
end Go.Proofs.YtiiihpokpfhclaaDoor
