/- Part 1 of the walks (merged): Mem, Frame, Lx, Ps, Rep, Many. -/
import Derived.WalkKit
import Derived.ProofKit
import Derived.OpenShut
import Derived.Carry
import Derived.Deep.Matrix
import Derived.Deep.DeepHandedRow
import Derived.Lib.LaidTab
import Derived.Test.YteplkhgaoaphhaaGreatDoorProg
/- Words for memory: a slice that reads as a list below a block, and how that is kept. -/
namespace Go.Proofs.YteplkhgaoaphhaaGreatDoor
open Go Go.RowKit

theorem hide {p : Prop} (h : p) : Hid p := h

/-- The cells behind the address `A` are those of `xs`, in a block below `B`. An empty list says nothing of `A`. -/
def Sl (w : World) (B : Nat) (A : Option Addr) (xs : List Value) : Prop :=
  xs = [] ∨ ∃ b o, A = some ⟨b, o, none⟩ ∧ b < B ∧ ∀ i u, xs[i]? = some u → w.cell? ⟨b, o + i, none⟩ = some u

theorem Sl.nil_ {w : World} {B : Nat} {A : Option Addr} : Sl w B A [] := .inl rfl
theorem Sl.get {w : World} {B : Nat} {A : Option Addr} {xs : List Value} (h : Sl w B A xs) {i : Nat} {u : Value} (hi : xs[i]? = some u) :
    ∃ b o, A = some ⟨b, o, none⟩ ∧ b < B ∧ w.cell? ⟨b, o + i, none⟩ = some u := by
  rcases h with rfl | ⟨b, o, rfl, hb, hc⟩
  · simp at hi
  · exact ⟨b, o, rfl, hb, hc i u hi⟩
theorem Sl.keep {w w' : World} {B : Nat} {A : Option Addr} {xs : List Value} (h : Sl w B A xs) (hk : ∀ p : Addr, p.block < B → w'.cell? p = w.cell? p) : Sl w' B A xs := by
  rcases h with rfl | ⟨b, o, rfl, hb, hc⟩
  · exact .inl rfl
  · exact .inr ⟨b, o, rfl, hb, fun i u hi => (hk ⟨b, o + i, none⟩ hb).trans (hc i u hi)⟩
theorem Sl.below {w w' : World} {B : Nat} {A : Option Addr} {xs : List Value} (h : Sl w B A xs) (hb : Below B w w') : Sl w' B A xs := h.keep fun _ hp => hb.cell hp
theorem Sl.more {w : World} {B B' : Nat} {A : Option Addr} {xs : List Value} (h : Sl w B A xs) (hB : B ≤ B') : Sl w B' A xs := by
  rcases h with rfl | ⟨b, o, rfl, hb, hc⟩
  · exact .inl rfl
  · exact .inr ⟨b, o, rfl, by omega, hc⟩
theorem Sl.new (w : World) (cs : Array Value) (t : TypeId) (fr : Nat × Nat) : Sl (w.alloc (.cells cs t fr)) (w.heap.size + 1) (some ⟨w.heap.size, 0, none⟩) cs.toList :=
  .inr ⟨_, _, rfl, by omega, fun i u hi => by rw [Nat.zero_add, World.cell?_alloc_mark]; simpa using hi⟩
theorem Sl.cut {w : World} {B : Nat} {A : Option Addr} {xs : List Value} (h : Sl w B A xs) (k m : Nat) : Sl w B (A.map (·.add k)) ((xs.drop k).take m) := by
  rcases h with rfl | ⟨b, o, rfl, hb, hc⟩
  · exact .inl (by simp)
  · refine .inr ⟨b, o + k, ?_, hb, fun i u hi => ?_⟩
    · unfold Addr.add; split <;> simp_all
    · rw [Nat.add_assoc]
      refine hc _ _ ?_
      have hi' : i < m := by
        rcases Nat.lt_or_ge i m with h | h
        · exact h
        · rw [List.getElem?_eq_none (by simp; omega)] at hi; cases hi
      rw [List.getElem?_take_of_lt hi', List.getElem?_drop] at hi
      exact hi
theorem Sl.take {w : World} {B : Nat} {A : Option Addr} {xs : List Value} (h : Sl w B A xs) (m : Nat) : Sl w B A (xs.take m) := by
  rcases h with rfl | ⟨b, o, rfl, hb, hc⟩
  · exact .inl (by simp)
  · refine .inr ⟨b, o, rfl, hb, fun i u hi => hc _ _ ?_⟩
    have hi' : i < m := by
      rcases Nat.lt_or_ge i m with h | h
      · exact h
      · rw [List.getElem?_eq_none (by simp; omega)] at hi; cases hi
    rwa [List.getElem?_take_of_lt hi'] at hi

/-- Bytes as cells. -/
def bv (l : List UInt8) : List Value := l.map fun c => .int .u8 c.toNat
theorem bv_len (l : List UInt8) : (bv l).length = l.length := by simp [bv]
theorem bv_get {l : List UInt8} {i : Nat} (hi : i < l.length) : (bv l)[i]? = some (.int .u8 l[i].toNat) := by simp [bv, hi]

/-- The value `v` is a []byte that reads as `l`. -/
def BytesV (w : World) (B : Nat) (v : Value) (l : List UInt8) : Prop :=
  ∃ A c, v = .slice A l.length c ∧ l.length ≤ c ∧ c ≤ maxLen ∧ Sl w B A (bv l)
/-- The value `v` is a [][]byte that reads as `ls`. -/
def RowsV (w : World) (B : Nat) (v : Value) (ls : List (List UInt8)) : Prop :=
  ∃ A c vs, v = .slice A ls.length c ∧ ls.length ≤ c ∧ c ≤ maxLen ∧ Sl w B A vs ∧ vs.length = ls.length ∧ ∀ (i : Nat) (v : Value) (l : List UInt8), vs[i]? = some v → ls[i]? = some l → BytesV w B v l
/-- The value `v` is a []string that reads as `ss`. -/
def StrsV (w : World) (B : Nat) (v : Value) (ss : List ByteArray) : Prop :=
  ∃ A c, v = .slice A ss.length c ∧ ss.length ≤ c ∧ c ≤ maxLen ∧ Sl w B A (ss.map Value.string) ∧ ∀ s ∈ ss, s.size ≤ maxLen
theorem BytesV.below {w w' : World} {B : Nat} {v : Value} {l : List UInt8} (h : BytesV w B v l) (hb : Below B w w') : BytesV w' B v l := by
  obtain ⟨A, c, h1, h2, h3, h4⟩ := h
  exact ⟨A, c, h1, h2, h3, h4.below hb⟩
theorem BytesV.alloc {w : World} {B : Nat} {v : Value} {l : List UInt8} (h : BytesV w B v l) (hB : B ≤ w.heap.size) (o : Obj) : BytesV (w.alloc o) B v l := h.below ((Below.refl _ _).alloc hB o)
theorem BytesV.more {w : World} {B B' : Nat} {v : Value} {l : List UInt8} (h : BytesV w B v l) (hb : B ≤ B') : BytesV w B' v l := by
  obtain ⟨A, c, h1, h2, h3, h4⟩ := h
  exact ⟨A, c, h1, h2, h3, h4.more hb⟩
theorem RowsV.below {w w' : World} {B : Nat} {v : Value} {l : List (List UInt8)} (h : RowsV w B v l) (hb : Below B w w') : RowsV w' B v l := by
  obtain ⟨A, c, vs, h1, h2, h3, h4, h5, h6⟩ := h
  exact ⟨A, c, vs, h1, h2, h3, h4.below hb, h5, fun i v l hv hl => (h6 i v l hv hl).below hb⟩
theorem RowsV.more {w : World} {B B' : Nat} {v : Value} {l : List (List UInt8)} (h : RowsV w B v l) (hb : B ≤ B') : RowsV w B' v l := by
  obtain ⟨A, c, vs, h1, h2, h3, h4, h5, h6⟩ := h
  exact ⟨A, c, vs, h1, h2, h3, h4.more hb, h5, fun i v l hv hl => (h6 i v l hv hl).more hb⟩
theorem StrsV.below {w w' : World} {B : Nat} {v : Value} {l : List ByteArray} (h : StrsV w B v l) (hb : Below B w w') : StrsV w' B v l := by
  obtain ⟨A, c, h1, h2, h3, h4, h5⟩ := h
  exact ⟨A, c, h1, h2, h3, h4.below hb, h5⟩
theorem StrsV.more {w : World} {B B' : Nat} {v : Value} {l : List ByteArray} (h : StrsV w B v l) (hb : B ≤ B') : StrsV w B' v l := by
  obtain ⟨A, c, h1, h2, h3, h4, h5⟩ := h
  exact ⟨A, c, h1, h2, h3, h4.more hb, h5⟩

theorem BytesV.string {P : Program} {w : World} {B : Nat} {v : Value} {l : List UInt8} (h : BytesV w B v l) {src dst e : TypeId}
    (hs : P.underlying src = some (.slice e)) (he : P.underlying e = some (.int .u8)) (hd : P.underlying dst = some .string) :
    (convert src dst v).run P w = .ok (.string ⟨l.toArray⟩) w := by
  obtain ⟨A, c, rfl, _, _, h4⟩ := h
  rcases Nat.eq_zero_or_pos l.length with h0 | h0
  · obtain rfl : l = [] := List.eq_nil_of_length_eq_zero h0
    rw [run_convert_bytes_string w src dst e _ _ c hs he hd]
    cases A with
    | none => simp [Conv.bytesToString]; rfl
    | some a =>
      have := run_bytesToString (P := P) w a 0 c [] (by simp [loadCells, loadCellsFrom])
      exact this
  · obtain ⟨b, o, rfl, _, _⟩ := h4.get (bv_get h0)
    have hc := run_convert_bytes_arg (P := P) w src e hs he b o l.length c (l.map fun c => (c.toNat : Int)) (by simp) (fun i hi => by
      obtain ⟨b', o', hA, _, hcell⟩ := h4.get (bv_get hi)
      injection hA with hA; injection hA with h1 h2; subst h1; subst h2
      rw [hcell]
      simp [List.getD_eq_getElem?_getD, List.getElem?_eq_getElem hi]) dst hd
    rw [hc]
    congr 2
    simp [strOfNums, Function.comp_def]

theorem BytesV.new (w : World) (l : List UInt8) (cs : Array Value) (t : TypeId) (fr : Nat × Nat) (n c g B : Nat) (hg : g = w.heap.size) (hB : g < B) (hcs : cs = (bv l).toArray) (hn : n = l.length) (hc : c = n) (hl : l.length ≤ maxLen) :
    BytesV (w.alloc (.cells cs t fr)) B (.slice (some ⟨g, 0, none⟩) n c) l := by
  subst hcs hc hn hg
  exact ⟨_, _, rfl, Nat.le_refl _, hl, by simpa using (Sl.new w (bv l).toArray t fr).more hB⟩
theorem RowsV.one (w : World) (l1 : List UInt8) (v1 : Value) (t : TypeId) (fr : Nat × Nat) (g B : Nat) (hg : g = w.heap.size) (hB : g < B) (h1 : BytesV w w.heap.size v1 l1) :
    RowsV (w.alloc (.cells #[v1] t fr)) B (.slice (some ⟨g, 0, none⟩) 1 1) [l1] := by
  subst hg
  refine ⟨_, _, [v1], rfl, Nat.le_refl _, by unfold maxLen; simp, (Sl.new w #[v1] t fr).more hB, rfl, fun i v l hv hl => ?_⟩
  have key : ∀ v' l', v' = v1 → l' = l1 → BytesV (w.alloc (.cells #[v1] t fr)) B v' l' := by
    rintro _ _ rfl rfl; exact (h1.below ((Below.refl _ _).alloc (Nat.le_refl _) _)).more (by omega)
  match i, hv, hl with
  | 0, hv, hl => exact key _ _ (by simpa using hv.symm) (by simpa using hl.symm)
theorem RowsV.two (w : World) (l1 l2 : List UInt8) (v1 v2 : Value) (t : TypeId) (fr : Nat × Nat) (g B : Nat) (hg : g = w.heap.size) (hB : g < B) (h1 : BytesV w w.heap.size v1 l1) (h2 : BytesV w w.heap.size v2 l2) :
    RowsV (w.alloc (.cells #[v1, v2] t fr)) B (.slice (some ⟨g, 0, none⟩) 2 2) [l1, l2] := by
  subst hg
  refine ⟨_, _, [v1, v2], rfl, Nat.le_refl _, by unfold maxLen; simp, (Sl.new w #[v1, v2] t fr).more hB, rfl, fun i v l hv hl => ?_⟩
  have key : ∀ v' l' v0 l0, BytesV w w.heap.size v0 l0 → v' = v0 → l' = l0 → BytesV (w.alloc (.cells #[v1, v2] t fr)) B v' l' := by
    rintro _ _ v0 l0 h rfl rfl; exact (h.below ((Below.refl _ _).alloc (Nat.le_refl _) _)).more (by omega)
  match i, hv, hl with
  | 0, hv, hl => exact key _ _ _ _ h1 (by simpa using hv.symm) (by simpa using hl.symm)
  | 1, hv, hl => exact key _ _ _ _ h2 (by simpa using hv.symm) (by simpa using hl.symm)
theorem StrsV.new (w : World) (ss : List ByteArray) (cs : Array Value) (t : TypeId) (fr : Nat × Nat) (n c g B : Nat) (hg : g = w.heap.size) (hB : g < B) (hcs : cs = (ss.map Value.string).toArray) (hn : n = ss.length) (hc : c = n) (hl : ss.length ≤ maxLen) (hs : ∀ s ∈ ss, s.size ≤ maxLen) :
    StrsV (w.alloc (.cells cs t fr)) B (.slice (some ⟨g, 0, none⟩) n c) ss := by
  subst hcs hc hn hg
  exact ⟨_, _, rfl, Nat.le_refl _, hl, by simpa using (Sl.new w (ss.map Value.string).toArray t fr).more hB, hs⟩
theorem RowsV.at1 {w : World} {B g : Nat} {v1 : Value} {l1 : List UInt8} (hg : g < B) (c0 : w.cell? ⟨g, 0, none⟩ = some v1) (h1 : BytesV w B v1 l1) : RowsV w B (.slice (some ⟨g, 0, none⟩) 1 1) [l1] := by
  refine ⟨_, _, [v1], rfl, Nat.le_refl _, by unfold maxLen; simp, .inr ⟨g, 0, rfl, hg, fun i u hi => ?_⟩, rfl, fun i v l hv hl => ?_⟩
  · match i, hi with
    | 0, hi => rw [c0]; simpa using hi
  · have key : ∀ v' l', v' = v1 → l' = l1 → BytesV w B v' l' := by rintro _ _ rfl rfl; exact h1
    match i, hv, hl with
    | 0, hv, hl => exact key _ _ (by simpa using hv.symm) (by simpa using hl.symm)
theorem RowsV.at2 {w : World} {B g : Nat} {v1 v2 : Value} {l1 l2 : List UInt8} (hg : g < B) (c0 : w.cell? ⟨g, 0, none⟩ = some v1) (c1 : w.cell? ⟨g, 1, none⟩ = some v2) (h1 : BytesV w B v1 l1) (h2 : BytesV w B v2 l2) :
    RowsV w B (.slice (some ⟨g, 0, none⟩) 2 2) [l1, l2] := by
  refine ⟨_, _, [v1, v2], rfl, Nat.le_refl _, by unfold maxLen; simp, .inr ⟨g, 0, rfl, hg, fun i u hi => ?_⟩, rfl, fun i v l hv hl => ?_⟩
  · match i, hi with
    | 0, hi => rw [c0]; simpa using hi
    | 1, hi => rw [c1]; simpa using hi
  · have key : ∀ v' l' v0 l0, BytesV w B v0 l0 → v' = v0 → l' = l0 → BytesV w B v' l' := by rintro _ _ v0 l0 h rfl rfl; exact h
    match i, hv, hl with
    | 0, hv, hl => exact key _ _ _ _ h1 (by simpa using hv.symm) (by simpa using hl.symm)
    | 1, hv, hl => exact key _ _ _ _ h2 (by simpa using hv.symm) (by simpa using hl.symm)
theorem StrsV.at1 {w : World} {B g : Nat} {s1 : ByteArray} (hg : g < B) (c0 : w.cell? ⟨g, 0, none⟩ = some (.string s1)) (h1 : s1.size ≤ maxLen) : StrsV w B (.slice (some ⟨g, 0, none⟩) 1 1) [s1] := by
  refine ⟨_, _, rfl, Nat.le_refl _, by unfold maxLen; simp, .inr ⟨g, 0, rfl, hg, fun i u hi => ?_⟩, by simpa using h1⟩
  match i, hi with
  | 0, hi => rw [c0]; simpa using hi
theorem StrsV.at2 {w : World} {B g : Nat} {s1 s2 : ByteArray} (hg : g < B) (c0 : w.cell? ⟨g, 0, none⟩ = some (.string s1)) (c1 : w.cell? ⟨g, 1, none⟩ = some (.string s2)) (h1 : s1.size ≤ maxLen) (h2 : s2.size ≤ maxLen) :
    StrsV w B (.slice (some ⟨g, 0, none⟩) 2 2) [s1, s2] := by
  refine ⟨_, _, rfl, Nat.le_refl _, by unfold maxLen; simp, .inr ⟨g, 0, rfl, hg, fun i u hi => ?_⟩, by simpa using ⟨h1, h2⟩⟩
  match i, hi with
  | 0, hi => rw [c0]; simpa using hi
  | 1, hi => rw [c1]; simpa using hi
theorem StrsV.nil_ (w : World) (B : Nat) : StrsV w B (.slice none 0 0) [] := ⟨_, _, rfl, Nat.le_refl _, by unfold maxLen; omega, .inl rfl, fun _ h => by cases h⟩
theorem BytesV.nil_ (w : World) (B : Nat) : BytesV w B (.slice none 0 0) [] := ⟨_, _, rfl, Nat.le_refl _, by unfold maxLen; omega, .inl rfl⟩

theorem ownsRow_sl {w : World} {base : Nat} {e : TypeId} {v : Value} {n : Nat} {xs : List Value} (h : w.ownsRow base e 1 v n xs) :
    ∃ A c, v = .slice A n c ∧ n ≤ c ∧ c ≤ maxLen ∧ Sl w w.heap.size A xs := by
  obtain ⟨h1, h2⟩ := h
  rcases h2 with ⟨rfl, rfl⟩ | ⟨g, cap, cur, rfl, _, hg, hnc, hcm, hcs, htake⟩
  · exact ⟨none, 0, rfl, Nat.le_refl _, by unfold maxLen; omega, .inl (List.eq_nil_of_length_eq_zero (by simpa using h1))⟩
  · refine ⟨_, cap, rfl, hnc, hcm, .inr ⟨g, 0, rfl, ?_, fun i u hi => ?_⟩⟩
    · rcases Nat.lt_or_ge g w.heap.size with h | h
      · exact h
      · rw [Array.getElem?_eq_none h] at hg; cases hg
    · rw [Nat.zero_add, cell_of_row w g i cur e (0, 0) hg]
      have hi' : i < n * 1 := by
        rcases Nat.lt_or_ge i (n * 1) with h | h
        · exact h
        · rw [← htake, List.getElem?_eq_none (by simp; omega)] at hi; cases hi
      rw [← htake, List.getElem?_take_of_lt hi'] at hi
      simpa using hi
end Go.Proofs.YteplkhgaoaphhaaGreatDoor
/- The frame of a law's proof: a walk that ends in true, and turns nothing that was there, gives what the law's row asks; arguments opened to words for memory. -/
namespace Go.Proofs.YteplkhgaoaphhaaGreatDoor
open Go Go.RowKit Go.ChangeShapes Go.WideShapes Go.ChangeAt Go.Deep

section
variable {H : Type} {enc : TypeId × Value → H} {P : Program} {W W' : World}

/-- Arguments read behind the call as before it. -/
theorem trodAll_below (hl : laidOutB P = true) (hb : Below W.heap.size W W') : ∀ (ts : List TypeId) (vs : List Value) (ds : List (DataW H)) (ps : List MemPlace),
    (ts.all fun t => P.readableRec t && decide (t < P.types.size)) = true → DataW.TrodAll enc P W 0 (fun _ => true) true ts vs ds ps → (∀ x ∈ ps, x.block < W.heap.size) →
    DataW.TrodAll enc P W' 0 (fun b => decide (b < W.heap.size)) true ts vs ds ps
  | [], vs, ds, ps, _, h, _ => by
    obtain ⟨rfl, rfl, rfl⟩ := trodAll_nil h
    exact rfl
  | t :: ts, vs, ds, ps, hr, h, hlt => by
    obtain ⟨v, vs', d, ds', p, q, rfl, rfl, rfl, h0, h1⟩ := trodAll_cons h
    rw [List.all_cons, Bool.and_eq_true, Bool.and_eq_true, decide_eq_true_iff] at hr
    exact trodAll_cons_mk (Below.trod hl hr.1.1 hr.1.2 h0 hb fun x hx => hlt x (List.mem_append_left _ hx))
      (trodAll_below hl hb ts vs' ds' q hr.2 h1 fun x hx => hlt x (List.mem_append_right _ hx))

/-- What a law's row asks behind the call. -/
theorem law_post {f : Func} {s : ChangeSpec} {args : Array Value} {ds gs : List (DataW H)} {before : List MemPlace} {tb : TypeId}
    (hl : laidOutB P = true) (hr : (f.params.toList.all fun t => P.readableRec t && decide (t < P.types.size)) = true) (htb : P.underlying tb = some .bool) (hrt : f.resultTypes = #[tb]) (hvars : s.vars = [])
    (hspec : s.fn H (ds ++ gs) = { results := [.lit (.bool true)], args := ds })
    (hW : DataW.Whole enc P f.params.toList s.vars false W args.toList ds gs before) (hb : Below W.heap.size W W') :
    s.post enc P f false true false false W args (.bool true) W' := by
  have hlt := hW.lt
  have hW0 := hW
  obtain ⟨p, q, hA, hV, rfl, hfz, hnd⟩ := hW
  rw [hvars] at hV
  have hq : gs = [] ∧ q = [] := by
    cases gs with
    | nil => exact ⟨rfl, hV⟩
    | cons g gs => exact absurd hV (by simp [DataW.TrodVars])
  obtain ⟨rfl, rfl⟩ := hq
  rw [List.append_nil] at hspec hlt
  refine ⟨ds, [], p ++ [], [], p, [], hW0, ?_, ?_, ?_, ?_, fun h => by cases h⟩
  · rw [List.append_nil, hspec, hrt]
    exact trodAll_mk1 (shut_bool htb true)
  · rw [List.append_nil, hspec]
    exact trodAll_below hl hb _ _ _ _ hr hA hlt
  · rw [List.append_nil, hspec, hvars]
    exact rfl
  · refine World.keptBut_mono (fun x hx => ⟨hx, ?_⟩) (hb.frame (· ∈ p ++ []))
    rw [List.append_nil] at hx
    exact Or.inr (Or.inl hx)

theorem lt_of_cell {w : World} {a : Addr} {u : Value} (h : w.cell? a = some u) : a.block < w.heap.size := by
  rcases Nat.lt_or_ge a.block w.heap.size with hlt | hge
  · exact hlt
  · unfold World.cell? at h
    rw [Array.getElem?_eq_none hge] at h
    cases h

theorem sl_of_at {w : World} {a : Addr} {xs : List Value} (h : ∀ i u, xs[i]? = some u → w.cell? (a.add i) = some u) : Sl w w.heap.size (some a) xs := by
  rcases Nat.eq_zero_or_pos xs.length with h0 | h0
  · exact .inl (List.eq_nil_of_length_eq_zero h0)
  · obtain ⟨b, off, spot⟩ := a
    have h1 := h 0 xs[0] (List.getElem?_eq_getElem h0)
    have hspot : spot = none := by simpa [Addr.add] using World.cell?_spot h1
    subst hspot
    refine .inr ⟨b, off, rfl, ?_, fun i u hu => by rw [← Go.WideShapes.add_plain]; exact h i u hu⟩
    have := lt_of_cell h1
    simpa [Addr.add] using this

def ofNums (zs : List Int) : List UInt8 := zs.map fun n => UInt8.ofNat n.toNat
theorem bv_ofNums {zs : List Int} (hw : ∀ n ∈ zs, (Lit.int .u8 n).wf = true) : bv (ofNums zs) = zs.map (Value.int .u8) := by
  unfold bv ofNums
  rw [List.map_map]
  refine List.map_congr_left fun n hn => ?_
  have h := bounds_u8 (hw n hn)
  have h2 : n.toNat < 256 := by omega
  simp only [Function.comp]
  rw [UInt8.toNat_ofNat_of_lt' (by simpa using h2)]
  congr 1
  omega

/-- A []byte that came in. -/
theorem open_bytesV {t e : TypeId} {base base' : Nat} {spare : Nat → Bool} {held : Bool} {v : Value} {d : DataW H} {p : List MemPlace} (ht : P.underlying t = some (.slice e)) (he : P.underlying e = some (.int .u8)) (hc : P.cellsOf e = 1)
    (hval : Value.okWide P W .any base' t v) (h : DataW.Trod enc P W base spare held t v d p) : ∃ l, BytesV W W.heap.size v l := by
  obtain ⟨a0, len, cap, rfl⟩ := okWide_slice ht hval
  obtain ⟨fuel, hf⟩ := h
  rcases open_ints ht he hc hf with ⟨hcs, _⟩ | ⟨a, len', cap', zs, hcs, _, hl, hm, hz, _, hcell, hw⟩
  · have : a0 = none ∧ len = 0 ∧ cap = 0 := by simpa [Value.cells] using hcs
    obtain ⟨rfl, rfl, rfl⟩ := this
    exact ⟨[], BytesV.nil_ _ _⟩
  · have : a0 = some a ∧ len = len' ∧ cap = cap' := by simpa [Value.cells] using hcs
    obtain ⟨rfl, rfl, rfl⟩ := this
    have hlen : len ≤ zs.length := by rw [hz]; split <;> omega
    have hw' : ∀ n ∈ zs.take len, (Lit.int .u8 n).wf = true := fun n hn => hw n (List.mem_of_mem_take hn)
    refine ⟨ofNums (zs.take len), some a, cap, ?_, ?_, hm, ?_⟩
    · simp [ofNums, hlen]
    · simp [ofNums]; omega
    · rw [bv_ofNums hw']
      refine sl_of_at fun i u hu => ?_
      have hi : i < len := by
        rcases Nat.lt_or_ge i len with h | h
        · exact h
        · rw [List.getElem?_eq_none (by simp; omega)] at hu; cases hu
      rw [hcell i (by omega)]
      rw [List.getElem?_map, List.getElem?_take_of_lt hi, List.getElem?_eq_getElem (by omega)] at hu
      rw [List.getD_eq_getElem?_getD, List.getElem?_eq_getElem (by omega)]
      simpa using hu

/-- A [][]byte that came in. -/
theorem open_rowsV {t e q : TypeId} {base base' : Nat} {held : Bool} {v : Value} {d : DataW H} {p : List MemPlace} (ht : P.underlying t = some (.slice e)) (he : P.underlying e = some (.slice q)) (hq : P.underlying q = some (.int .u8)) (ce : P.cellsOf e = 1) (cq : P.cellsOf q = 1)
    (hval : Value.okWide P W .any base' t v) (h : DataW.Trod enc P W base (fun _ => true) held t v d p) : ∃ ls, RowsV W W.heap.size v ls := by
  obtain ⟨a0, len, cap, rfl⟩ := okWide_slice ht hval
  obtain ⟨fuel, hf⟩ := h
  rcases open_int_rows ht he hq ce cq hf with ⟨hcs, _⟩ | ⟨a, len', cap', A, L, C, Z, hcs, _, hl, hm, _, hrow⟩
  · have : a0 = none ∧ len = 0 ∧ cap = 0 := by simpa [Value.cells] using hcs
    obtain ⟨rfl, rfl, rfl⟩ := this
    exact ⟨[], none, 0, [], rfl, Nat.le_refl _, by unfold maxLen; omega, .inl rfl, rfl, fun i v l hv => by simp at hv⟩
  · have : a0 = some a ∧ len = len' ∧ cap = cap' := by simpa [Value.cells] using hcs
    obtain ⟨rfl, rfl, rfl⟩ := this
    refine ⟨(List.range len).map fun r => ofNums ((Z r).take (L r)), some a, cap, (List.range len).map fun r => .slice (A r) (L r) (C r), by simp, by simpa using hl, hm, ?_, by simp, ?_⟩
    · refine sl_of_at fun i u hu => ?_
      have hi : i < len := by
        rcases Nat.lt_or_ge i len with h | h
        · exact h
        · rw [List.getElem?_eq_none (by simpa using h)] at hu; cases hu
      rw [(hrow i (by omega)).1]
      simpa [hi] using hu
    · intro i v l hv hl'
      have hi : i < len := by
        rcases Nat.lt_or_ge i len with h | h
        · exact h
        · rw [List.getElem?_eq_none (by simpa using h)] at hv; cases hv
      obtain ⟨_, h1, h2, h3, hw, hn, hc⟩ := hrow i (by omega)
      have hv' : v = .slice (A i) (L i) (C i) := by simpa [hi] using hv.symm
      have hl2 : l = ofNums ((Z i).take (L i)) := by simpa [hi] using hl'.symm
      subst hv' hl2
      have hlen : (ofNums ((Z i).take (L i))).length = L i := by simp [ofNums]; omega
      refine ⟨A i, C i, by rw [hlen], by rw [hlen]; exact h1, h2, ?_⟩
      rw [bv_ofNums fun n hn => hw n (List.mem_of_mem_take hn)]
      cases hA : A i with
      | none =>
        have h0 := hn hA
        refine .inl ?_
        have : L i = 0 := by omega
        simp [this]
      | some a' =>
        refine sl_of_at fun j u hu => ?_
        have hj : j < L i := by
          rcases Nat.lt_or_ge j (L i) with h | h
          · exact h
          · rw [List.getElem?_eq_none (by simp; omega)] at hu; cases hu
        rw [(hc a' hA).2 j (by omega)]
        rw [List.getElem?_map, List.getElem?_take_of_lt hj, List.getElem?_eq_getElem (by omega)] at hu
        rw [List.getD_eq_getElem?_getD, List.getElem?_eq_getElem (by omega)]
        simpa using hu
end
end Go.Proofs.YteplkhgaoaphhaaGreatDoor
/- The document's tokens: what a text comes to, byte by byte. -/
namespace Go.Proofs.YteplkhgaoaphhaaGreatDoor

/-- A token: its kind, its bytes, where it begins. -/
structure Tok where
  kind : Nat
  text : List UInt8
  at_ : Nat

def letterB (c : Nat) : Bool := decide (97 ≤ c ∧ c ≤ 122 ∨ 65 ≤ c ∧ c ≤ 90 ∨ c = 95)
def digitB (c : Nat) : Bool := decide (48 ≤ c ∧ c ≤ 57)
def blankB (c : Nat) : Bool := decide (c = 32 ∨ c = 9 ∨ c = 13 ∨ c = 10)
def opsL : List (List UInt8) := [[61, 61], [33, 61], [60, 61], [62, 61], [38, 38], [124, 124], [61], [60], [62], [43], [45], [42], [47], [37], [38], [33], [40], [41], [123], [125], [91], [93], [44], [59]]
def isOp (w : List UInt8) : Bool := opsL.contains w
/-- What decimal digits come to. -/
def valF (n : Nat) (c : UInt8) : Nat := 10 * n + (c.toNat - 48)
def valL (w : List UInt8) : Nat := w.foldl valF 0

/-- What is being read: nothing that matters; a comment; a token of a kind, where it began, its bytes so far. -/
inductive St where
  | blank
  | com
  | word (k : Nat) (fr : Nat) (w : List UInt8)
def St.goes : St → UInt8 → Bool
  | .blank, _ => false
  | .com, c => c != 10
  | .word 0 _ _, c => letterB c.toNat || digitB c.toNat
  | .word 1 _ _, c => digitB c.toNat
  | .word _ _ w, c => isOp (w ++ [c])
def St.push : St → UInt8 → St
  | .word k fr w, c => .word k fr (w ++ [c])
  | s, _ => s
def faultN (w : List UInt8) (next : UInt8) : Nat :=
  if 9223372036854775807 < valL w then 53 else if (letterB next.toNat || (w.headD 0 == 48 && decide (1 < w.length))) = true then 50 else 0
def fault (k : Nat) (w : List UInt8) (next : UInt8) : Nat :=
  match k with
  | 0 => if 32 < w.length then 53 else 0
  | 1 => faultN w next
  | _ => if isOp w = true then 0 else 50
abbrev Res := Except (Nat × Nat) (List Tok)
def St.fin (ts : List Tok) (next : UInt8) : St → Res
  | .word k fr w => if fault k w next = 0 then .ok (ts ++ [⟨k, w, fr⟩]) else .error (fr, fault k w next)
  | _ => .ok ts
def St.begin (i : Nat) (c : UInt8) : St :=
  if blankB c.toNat = true then .blank else if c = 35 then .com else if letterB c.toNat = true then .word 0 i [c] else if digitB c.toNat = true then .word 1 i [c] else .word 2 i [c]

/-- The bytes behind the i-th, read one by one, the last of them the end of a line. -/
def runT : St → Nat → List Tok → List UInt8 → Res
  | _, _, ts, [] => .ok ts
  | st, i, ts, c :: r => if st.goes c = true then runT (st.push c) (i + 1) ts r else
    match st.fin ts c with
    | .error e => .error e
    | .ok ts' => runT (St.begin i c) (i + 1) ts' r
/-- What a text's tokens are, or its first error. -/
def lexT (s : List UInt8) : Res := if 4096 < s.length then .error (0, 53) else runT .blank 0 [] (s ++ [10])
end Go.Proofs.YteplkhgaoaphhaaGreatDoor
/- The document's grammar: what a list of tokens comes to: expressions, conditions, statements, functions, globals; or the first token that does not fit. -/
namespace Go.Proofs.YteplkhgaoaphhaaGreatDoor

inductive Ex where
  | num (n : Nat)
  | var (s : List UInt8)
  | neg (a : Ex)
  | bin (k : Nat) (a b : Ex)
inductive Cn where
  | cmp (k : Nat) (a b : Ex)
  | null (s : List UInt8)
  | not (c : Cn)
  | both (k : Nat) (p q : Cn)
/-- A statement: kind, X, Y, E, F, C, arguments, blocks, its number. -/
inductive Sm where
  | mk (kind : Nat) (x y : List UInt8) (e f : Option Ex) (c : Option Cn) (args : List Ex) (thn els : List Sm) (at_ : Nat)
structure Vr where
  name : List UInt8
  ptr : Bool
structure Fn7 where
  name : List UInt8
  params : List Vr
  locals : List Vr
  body : List Sm

/-- What reading comes to: something, and the tokens that are left; an error at the first of these tokens; no: too few steps were allowed. -/
inductive Rs (α : Type) where
  | ok (a : α) (r : List Tok)
  | er (r : List Tok) (n : Nat)
  | no
def Rs.bind {α β : Type} (x : Rs α) (f : α → List Tok → Rs β) : Rs β :=
  match x with
  | .ok a r => f a r
  | .er r n => .er r n
  | .no => .no

def txt : List Tok → List UInt8
  | [] => []
  | t :: _ => t.text
def nx (r : List Tok) (x : List UInt8) : Bool := txt r == x
def kws : List (List UInt8) := [[102, 110], [118, 97, 114], [112, 116, 114], [105, 102], [101, 108, 115, 101], [119, 104, 105, 108, 101], [114, 101, 116, 117, 114, 110], [97, 115, 115, 101, 114, 116], [110, 117, 108, 108], [99, 101, 108, 108], [97, 114, 114, 97, 121]]
def isKw (x : List UInt8) : Bool := kws.contains x
def isNm : List Tok → Bool
  | [] => false
  | t :: _ => t.kind == 0 && !isKw t.text
def isNum : List Tok → Bool
  | [] => false
  | t :: _ => t.kind == 1
def named (r : List Tok) (x : List UInt8) : Bool := isNm r && nx r.tail x
def want (x : List UInt8) (r : List Tok) : Rs Unit := if nx r x = true then .ok () r.tail else .er r 51
def nameP (r : List Tok) : Rs (List UInt8) := if isNm r = true then .ok (txt r) r.tail else .er r 51
def numP (r : List Tok) : Rs Nat := if isNum r = true then .ok (valL (txt r)) r.tail else .er r 51
def enterP (x : List UInt8) (d : Nat) (r : List Tok) : Rs Unit := if nx r x = true then (if d = 40 then .er r 52 else .ok () r.tail) else .er r 51

/-- Operands and the operators between them, from the left. -/
def chain {α : Type} (mk : Nat → α → α → α) (K : List UInt8 → Option Nat) (u : List Tok → Rs α) : Nat → α → List Tok → Rs α
  | 0, _, _ => .no
  | g + 1, a, r => match K (txt r) with
    | none => .ok a r
    | some k => (u r.tail).bind fun b r => chain mk K u g (mk k a b) r
def prodK (x : List UInt8) : Option Nat := if x = [42] then some 4 else if x = [47] then some 5 else if x = [37] then some 6 else none
def sumK (x : List UInt8) : Option Nat := if x = [43] then some 2 else if x = [45] then some 3 else none
def prodOf (u : List Tok → Rs Ex) (f : Nat) (r : List Tok) : Rs Ex := (u r).bind fun a r => chain .bin prodK u f a r
def sumOf (u : List Tok → Rs Ex) (f : Nat) (r : List Tok) : Rs Ex := (prodOf u f r).bind fun a r => chain .bin sumK (prodOf u f) f a r
def un : Nat → Nat → List Tok → Rs Ex
  | 0, _, _ => .no
  | f + 1, d, r =>
    if nx r [45] = true then (enterP [45] d r).bind fun _ r => (un f (d + 1) r).bind fun a r => .ok (.neg a) r
    else if nx r [40] = true then (enterP [40] d r).bind fun _ r => (sumOf (un f (d + 1)) f r).bind fun a r => (want [41] r).bind fun _ r => .ok a r
    else if isNum r = true then (numP r).bind fun n r => .ok (.num n) r
    else (nameP r).bind fun x r => .ok (.var x) r
def sumP (f d : Nat) (r : List Tok) : Rs Ex := sumOf (un f d) f r

def cmpK (x : List UInt8) : Option Nat := if x = [61, 61] then some 0 else if x = [33, 61] then some 1 else if x = [60] then some 2 else if x = [60, 61] then some 3 else if x = [62] then some 4 else if x = [62, 61] then some 5 else none
def andK (x : List UInt8) : Option Nat := if x = [38, 38] then some 6 else none
def orK (x : List UInt8) : Option Nat := if x = [124, 124] then some 7 else none
def isNull (r : List Tok) : Bool := (named r [61, 61] || named r [33, 61]) && nx r.tail.tail [110, 117, 108, 108]
def nullP (r : List Tok) : Rs Cn := (nameP r).bind fun x r =>
  if nx r [33, 61] = true then (want [110, 117, 108, 108] r.tail).bind fun _ r => .ok (.not (.null x)) r
  else (want [61, 61] r).bind fun _ r => (want [110, 117, 108, 108] r).bind fun _ r => .ok (.null x) r
def cmpP (f d : Nat) (r : List Tok) : Rs Cn := (sumP f d r).bind fun a r => match cmpK (txt r) with
  | none => .er r 51
  | some k => (sumP f d r.tail).bind fun b r => .ok (.cmp k a b) r
def andOf (u : List Tok → Rs Cn) (f : Nat) (r : List Tok) : Rs Cn := (u r).bind fun a r => chain .both andK u f a r
def condOf (u : List Tok → Rs Cn) (f : Nat) (r : List Tok) : Rs Cn := (andOf u f r).bind fun a r => chain .both orK (andOf u f) f a r
def notP : Nat → Nat → List Tok → Rs Cn
  | 0, _, _ => .no
  | f + 1, d, r =>
    if nx r [33] = true then (enterP [33] d r).bind fun _ r => (notP f (d + 1) r).bind fun c r => .ok (.not c) r
    else if nx r [40] = true then (enterP [40] d r).bind fun _ r => (condOf (notP f (d + 1)) f r).bind fun c r => (want [41] r).bind fun _ r => .ok c r
    else if isNull r = true then nullP r
    else cmpP f d r
def condP (f d : Nat) (r : List Tok) : Rs Cn := condOf (notP f d) f r
def testP (f d : Nat) (r : List Tok) : Rs Cn := (want [40] r).bind fun _ r => (condP f d r).bind fun c r => (want [41] r).bind fun _ r => .ok c r
def indexP (f d : Nat) (r : List Tok) : Rs Ex := (want [91] r).bind fun _ r => (sumP f d r).bind fun e r => (want [93] r).bind fun _ r => .ok e r

/-- More of a list, behind commas; how many there are already is told. -/
def many {α : Type} (u : Nat → List Tok → Rs α) : Nat → List α → List Tok → Rs (List α)
  | 0, _, _ => .no
  | g + 1, l, r => if nx r [44] = true then (u l.length r.tail).bind fun a r => many u g (l ++ [a]) r else .ok l r
def argsP (f d : Nat) (r : List Tok) : Rs (List Ex) := (want [40] r).bind fun _ r =>
  if nx r [41] = true then .ok [] r.tail
  else (sumP f d r).bind fun a r => (many (fun _ => sumP f d) f [a] r).bind fun l r => (want [41] r).bind fun _ r => .ok l r

def storeP (f d a : Nat) (r : List Tok) : Rs Sm := (want [42] r).bind fun _ r => (nameP r).bind fun x r => (want [61] r).bind fun _ r => (sumP f d r).bind fun e r => (want [59] r).bind fun _ r => .ok (.mk 5 x [] (some e) none none [] [] [] a) r
def returnP (f d a : Nat) (r : List Tok) : Rs Sm := (want [114, 101, 116, 117, 114, 110] r).bind fun _ r => (sumP f d r).bind fun e r => (want [59] r).bind fun _ r => .ok (.mk 9 [] [] (some e) none none [] [] [] a) r
def assertP (f d a : Nat) (r : List Tok) : Rs Sm := (want [97, 115, 115, 101, 114, 116] r).bind fun _ r => (testP f d r).bind fun c r => (want [59] r).bind fun _ r => .ok (.mk 12 [] [] none none (some c) [] [] [] a) r
def putP (f d a : Nat) (r : List Tok) : Rs Sm := (nameP r).bind fun y r => (indexP f d r).bind fun e r => (want [61] r).bind fun _ r => (sumP f d r).bind fun e2 r => (want [59] r).bind fun _ r => .ok (.mk 7 [] y (some e) (some e2) none [] [] [] a) r
def callP (f d : Nat) (x : List UInt8) (a : Nat) (r : List Tok) : Rs Sm := (nameP r).bind fun y r => (argsP f d r).bind fun l r => .ok (.mk 8 x y none none none l [] [] a) r
def callAloneP (f d a : Nat) (r : List Tok) : Rs Sm := (callP f d [] a r).bind fun s r => (want [59] r).bind fun _ r => .ok s r
def valueP (f d : Nat) (x : List UInt8) (a : Nat) (r : List Tok) : Rs Sm :=
  if nx r [110, 117, 108, 108] = true then .ok (.mk 3 x [] none none none [] [] [] a) r.tail
  else if nx r [38] = true then (nameP r.tail).bind fun y r => .ok (.mk 1 x y none none none [] [] [] a) r
  else if nx r [42] = true then (nameP r.tail).bind fun y r => .ok (.mk 4 x y none none none [] [] [] a) r
  else if named r [91] = true then (nameP r).bind fun y r => (indexP f d r).bind fun e r => .ok (.mk 6 x y (some e) none none [] [] [] a) r
  else if named r [40] = true then callP f d x a r
  else (sumP f d r).bind fun e r => .ok (.mk 0 x [] (some e) none none [] [] [] a) r
def assignP (f d a : Nat) (r : List Tok) : Rs Sm := (nameP r).bind fun x r => (want [61] r).bind fun _ r => (valueP f d x a r).bind fun s r => (want [59] r).bind fun _ r => .ok s r

/-- Statements up to the }: with each its number; how many there are then. -/
def stmsOf (s : Nat → List Tok → Rs (Sm × Nat)) : Nat → List Sm → Nat → List Tok → Rs (List Sm × Nat)
  | 0, _, _, _ => .no
  | g + 1, l, n, r => if nx r [125] = true then .ok (l, n) r.tail else (s n r).bind fun x r => stmsOf s g (l ++ [x.1]) x.2 r
def blockOf (s : Nat → List Tok → Rs (Sm × Nat)) (f d n : Nat) (r : List Tok) : Rs (List Sm × Nat) := (enterP [123] d r).bind fun _ r => stmsOf s f [] n r
def kindS (r : List Tok) : Option Nat :=
  if nx r [42] = true then some 0 else if nx r [114, 101, 116, 117, 114, 110] = true then some 1 else if nx r [97, 115, 115, 101, 114, 116] = true then some 2
  else if nx r [105, 102] = true then some 3 else if nx r [119, 104, 105, 108, 101] = true then some 4
  else if isNm r = true then (if nx r.tail [91] = true then some 5 else if nx r.tail [40] = true then some 6 else some 7) else none
def withN {α : Type} (n : Nat) (x : Rs α) : Rs (α × Nat) := x.bind fun a r => .ok (a, n) r
def ifP (s : Nat → List Tok → Rs (Sm × Nat)) (f d a n : Nat) (r : List Tok) : Rs (Sm × Nat) := (want [105, 102] r).bind fun _ r => (testP f d r).bind fun c r => (blockOf s f d n r).bind fun t r =>
  if nx r [101, 108, 115, 101] = true then (blockOf s f d t.2 r.tail).bind fun e r => .ok (.mk 10 [] [] none none (some c) [] t.1 e.1 a, e.2) r
  else .ok (.mk 10 [] [] none none (some c) [] t.1 [] a, t.2) r
def whileP (s : Nat → List Tok → Rs (Sm × Nat)) (f d a n : Nat) (r : List Tok) : Rs (Sm × Nat) := (want [119, 104, 105, 108, 101] r).bind fun _ r => (testP f d r).bind fun c r => (blockOf s f d n r).bind fun t r =>
  .ok (.mk 11 [] [] none none (some c) [] t.1 [] a, t.2) r
def bodyP (s : Nat → List Tok → Rs (Sm × Nat)) (f d a n : Nat) : Nat → List Tok → Rs (Sm × Nat)
  | 0, r => withN n (storeP f d a r)
  | 1, r => withN n (returnP f d a r)
  | 2, r => withN n (assertP f d a r)
  | 3, r => ifP s f d a n r
  | 4, r => whileP s f d a n r
  | 5, r => withN n (putP f d a r)
  | 6, r => withN n (callAloneP f d a r)
  | _, r => withN n (assignP f d a r)
def stm : Nat → Nat → Nat → List Tok → Rs (Sm × Nat)
  | 0, _, _, _ => .no
  | f + 1, d, n, r => match kindS r with
    | none => .er r 51
    | some k => if n = 200 then .er r 53 else bodyP (stm f (d + 1)) f d n (n + 1) k r

def declP (n most : Nat) (r : List Tok) : Rs (List UInt8) := (nameP r).bind fun x r' => if n = most then .er r 53 else .ok x r'
def paramP (n : Nat) (r : List Tok) : Rs Vr := (declP n 6 (if nx r [42] = true then r.tail else r)).bind fun x r' => .ok ⟨x, nx r [42]⟩ r'
def paramsP (f : Nat) (r : List Tok) : Rs (List Vr) := (want [40] r).bind fun _ r =>
  if nx r [41] = true then .ok [] r.tail
  else (paramP 0 r).bind fun a r => (many paramP f [a] r).bind fun l r => (want [41] r).bind fun _ r => .ok l r
def localsP : Nat → List Vr → List Tok → Rs (List Vr)
  | 0, _, _ => .no
  | g + 1, l, r => if nx r [118, 97, 114] = true ∨ nx r [112, 116, 114] = true then (declP l.length 20 r.tail).bind fun x r' => (want [59] r').bind fun _ r' => localsP g (l ++ [⟨x, nx r [112, 116, 114]⟩]) r'
    else .ok l r
def funcP (f : Nat) (r : List Tok) : Rs Fn7 := (want [102, 110] r).bind fun _ r => (nameP r).bind fun x r => (paramsP f r).bind fun ps r => (enterP [123] 0 r).bind fun _ r =>
  (localsP f [] r).bind fun ls r => (stmsOf (stm f 1) f [] 0 r).bind fun b r => .ok ⟨x, ps, ls, b.1⟩ r

structure Gl where
  cells : List (List UInt8)
  arrays : List (List UInt8 × Nat)
def boundsP (r : List Tok) : Rs Nat := (want [91] r).bind fun _ r => (numP r).bind fun n r' => if n = 0 then .er r 51 else if 1048576 < n then .er r 53 else (want [93] r').bind fun _ r' => .ok n r'
def globL : Nat → Gl → List Tok → Rs Gl
  | 0, _, _ => .no
  | f + 1, g, [] => .ok g []
  | f + 1, g, t :: r =>
    if nx (t :: r) [99, 101, 108, 108] = true then (declP (g.cells.length + g.arrays.length) 20 r).bind fun x r => (want [59] r).bind fun _ r => globL f ⟨g.cells ++ [x], g.arrays⟩ r
    else (want [97, 114, 114, 97, 121] (t :: r)).bind fun _ r => (declP (g.cells.length + g.arrays.length) 20 r).bind fun x r => (boundsP r).bind fun n r => (want [59] r).bind fun _ r => globL f ⟨g.cells, g.arrays ++ [(x, n)]⟩ r
def globP (f : Nat) (r : List Tok) : Rs Gl := globL f ⟨[], []⟩ r

def atOf (len : Nat) : List Tok → Nat
  | [] => len
  | t :: _ => t.at_
/-- The whole text: it must end there. -/
def wholeP {α : Type} (len : Nat) : Rs α → Option (Except (Nat × Nat) α)
  | .ok a [] => some (.ok a)
  | .ok _ r => some (.error (atOf len r, 51))
  | .er r n => some (.error (atOf len r, n))
  | .no => none
def textP {α : Type} (p : List Tok → Rs α) (s : List UInt8) : Option (Except (Nat × Nat) α) :=
  match lexT s with
  | .error x => some (.error x)
  | .ok ts => wholeP s.length (p ts)
end Go.Proofs.YteplkhgaoaphhaaGreatDoor
/- A text so many times. -/
namespace Go.Proofs.YteplkhgaoaphhaaGreatDoor
/-- So many times the same. -/
def rep (s : List UInt8) : Nat → List UInt8
  | 0 => []
  | n + 1 => rep s n ++ s
theorem rep_len (s : List UInt8) : ∀ n, (rep s n).length = n * s.length
  | 0 => by simp [rep]
  | n + 1 => by rw [rep, List.length_append, rep_len s n, Nat.succ_mul]
end Go.Proofs.YteplkhgaoaphhaaGreatDoor
/- The texts of ParseMany: what they come to. -/
namespace Go.Proofs.YteplkhgaoaphhaaGreatDoor

/-- Reading a piece of a text: where one is then. -/
def runP : St → Nat → List Tok → List UInt8 → Except (Nat × Nat) (St × Nat × List Tok)
  | st, i, ts, [] => .ok (st, i, ts)
  | st, i, ts, c :: r => if st.goes c = true then runP (st.push c) (i + 1) ts r else
    match st.fin ts c with
    | .error e => .error e
    | .ok ts' => runP (St.begin i c) (i + 1) ts' r
theorem runT_app : ∀ (a : List UInt8) (st : St) (i : Nat) (ts : List Tok) (b : List UInt8) (st' : St) (i' : Nat) (ts' : List Tok), runP st i ts a = .ok (st', i', ts') → runT st i ts (a ++ b) = runT st' i' ts' b
  | [], st, i, ts, b, st', i', ts', h => by
    unfold runP at h
    injection h with h
    injection h with h1 h
    injection h with h2 h3
    subst h1 h2 h3
    rfl
  | c :: r, st, i, ts, b, st', i', ts', h => by
    unfold runP at h
    rw [List.cons_append]
    conv => lhs; unfold runT
    by_cases hg : st.goes c = true
    · rw [if_pos hg] at h ⊢
      exact runT_app r _ _ _ b _ _ _ h
    · rw [if_neg hg] at h ⊢
      cases hf : st.fin ts c with
      | error e => rw [hf] at h; cases h
      | ok ts2 =>
        rw [hf] at h
        show runT (St.begin i c) (i + 1) ts2 (r ++ b) = _
        exact runT_app r _ _ _ b _ _ _ h
/-- A sign of one byte has been read; with it the tokens are these. -/
structure Pend (st : St) (ts full : List Tok) : Prop where
  is : ∃ fr c, (c = 123 ∨ c = 59) ∧ st = .word 2 fr [c] ∧ full = ts ++ [⟨2, [c], fr⟩]
def varT (i : Nat) : List Tok := [⟨0, [118, 97, 114], i⟩, ⟨0, [118], i + 4⟩, ⟨2, [59], i + 5⟩]
def asgT (i : Nat) : List Tok := [⟨0, [120], i⟩, ⟨2, [61], i + 1⟩, ⟨1, [49], i + 2⟩, ⟨2, [59], i + 3⟩]
theorem var_run {st : St} {ts full : List Tok} (i : Nat) (h : Pend st ts full) : ∃ st' ts', runP st i ts [118, 97, 114, 32, 118, 59] = .ok (st', i + 6, ts') ∧ Pend st' ts' (full ++ varT i) := by
  obtain ⟨fr, c, hc, rfl, rfl⟩ := h.is
  rcases hc with rfl | rfl
  · exact ⟨.word 2 (i + 5) [59], ts ++ [⟨2, [123], fr⟩] ++ [⟨0, [118, 97, 114], i⟩] ++ [⟨0, [118], i + 4⟩], rfl, ⟨i + 5, 59, .inr rfl, rfl, by simp [varT]⟩⟩
  · exact ⟨.word 2 (i + 5) [59], ts ++ [⟨2, [59], fr⟩] ++ [⟨0, [118, 97, 114], i⟩] ++ [⟨0, [118], i + 4⟩], rfl, ⟨i + 5, 59, .inr rfl, rfl, by simp [varT]⟩⟩
theorem asg_run {st : St} {ts full : List Tok} (i : Nat) (h : Pend st ts full) : ∃ st' ts', runP st i ts [120, 61, 49, 59] = .ok (st', i + 4, ts') ∧ Pend st' ts' (full ++ asgT i) := by
  obtain ⟨fr, c, hc, rfl, rfl⟩ := h.is
  rcases hc with rfl | rfl
  · exact ⟨.word 2 (i + 3) [59], ts ++ [⟨2, [123], fr⟩] ++ [⟨0, [120], i⟩] ++ [⟨2, [61], i + 1⟩] ++ [⟨1, [49], i + 2⟩], rfl, ⟨i + 3, 59, .inr rfl, rfl, by simp [asgT]⟩⟩
  · exact ⟨.word 2 (i + 3) [59], ts ++ [⟨2, [59], fr⟩] ++ [⟨0, [120], i⟩] ++ [⟨2, [61], i + 1⟩] ++ [⟨1, [49], i + 2⟩], rfl, ⟨i + 3, 59, .inr rfl, rfl, by simp [asgT]⟩⟩
/-- So many of them, from there on. -/
def varsT (i : Nat) : Nat → List Tok
  | 0 => []
  | l + 1 => varT i ++ varsT (i + 6) l
def asgsT (i : Nat) : Nat → List Tok
  | 0 => []
  | l + 1 => asgT i ++ asgsT (i + 4) l
def times' (s : List UInt8) : Nat → List UInt8
  | 0 => []
  | n + 1 => s ++ times' s n
theorem rep_front (s : List UInt8) : ∀ n, s ++ rep s n = rep s n ++ s
  | 0 => by simp [rep]
  | n + 1 => by rw [rep, ← List.append_assoc, rep_front s n]
theorem times_rep (s : List UInt8) : ∀ n, times' s n = rep s n
  | 0 => rfl
  | n + 1 => by rw [times', times_rep s n, rep_front, rep]
theorem vars_run (b : List UInt8) : ∀ (l : Nat) (st : St) (ts full : List Tok) (i : Nat), Pend st ts full → ∃ st' ts', runT st i ts (times' [118, 97, 114, 32, 118, 59] l ++ b) = runT st' (i + 6 * l) ts' b ∧ Pend st' ts' (full ++ varsT i l)
  | 0, st, ts, full, i, h => ⟨st, ts, rfl, by rw [varsT, List.append_nil]; exact h⟩
  | l + 1, st, ts, full, i, h => by
    obtain ⟨st1, ts1, h1, h2⟩ := var_run i h
    obtain ⟨st2, ts2, h3, h4⟩ := vars_run b l st1 ts1 _ (i + 6) h2
    refine ⟨st2, ts2, ?_, by rw [varsT, ← List.append_assoc]; exact h4⟩
    rw [times', List.append_assoc, runT_app _ _ _ _ _ _ _ _ h1, h3]
    congr 1
    omega
theorem asgs_run (b : List UInt8) : ∀ (l : Nat) (st : St) (ts full : List Tok) (i : Nat), Pend st ts full → ∃ st' ts', runT st i ts (times' [120, 61, 49, 59] l ++ b) = runT st' (i + 4 * l) ts' b ∧ Pend st' ts' (full ++ asgsT i l)
  | 0, st, ts, full, i, h => ⟨st, ts, rfl, by rw [asgsT, List.append_nil]; exact h⟩
  | l + 1, st, ts, full, i, h => by
    obtain ⟨st1, ts1, h1, h2⟩ := asg_run i h
    obtain ⟨st2, ts2, h3, h4⟩ := asgs_run b l st1 ts1 _ (i + 4) h2
    refine ⟨st2, ts2, ?_, by rw [asgsT, ← List.append_assoc]; exact h4⟩
    rw [times', List.append_assoc, runT_app _ _ _ _ _ _ _ _ h1, h3]
    congr 1
    omega
theorem end_run {st : St} {ts full : List Tok} (i : Nat) (h : Pend st ts full) : runT st i ts ([125] ++ [10]) = .ok (full ++ [⟨2, [125], i⟩]) := by
  obtain ⟨fr, c, hc, rfl, rfl⟩ := h.is
  rcases hc with rfl | rfl <;> rfl
/-- The parameters. -/
def pars : Nat → List UInt8
  | 0 => []
  | 1 => [112]
  | n + 2 => pars (n + 1) ++ [44, 112]
def preB (p : Nat) : List UInt8 := [102, 110, 32, 102, 40] ++ pars p ++ [41, 123]
def preLen (p : Nat) : Nat := (preB p).length
/-- What the text's beginning comes to: its tokens, but for the last. -/
def preTs (p : Nat) : List Tok := match runP .blank 0 [] (preB p) with
  | .ok (_, _, ts) => ts
  | .error _ => []
theorem pre_run : ∀ p, p < 9 → runP .blank 0 [] (preB p) = .ok (.word 2 (preLen p - 1) [123], preLen p, preTs p) := by
  intro p hp
  match p, hp with
  | 0, _ => rfl
  | 1, _ => rfl
  | 2, _ => rfl
  | 3, _ => rfl
  | 4, _ => rfl
  | 5, _ => rfl
  | 6, _ => rfl
  | 7, _ => rfl
  | 8, _ => rfl
def manyB (p l n : Nat) : List UInt8 := preB p ++ rep [118, 97, 114, 32, 118, 59] l ++ rep [120, 61, 49, 59] n ++ [125]
theorem many_len (p l n : Nat) (hp : p < 9) (hl : l < 24) (hn : n < 205) : (manyB p l n).length = preLen p + 6 * l + 4 * n + 1 ∧ preLen p ≤ 30 := by
  unfold manyB
  simp only [List.length_append, rep_len, List.length_cons, List.length_nil]
  have : preLen p ≤ 30 := by
    match p, hp with
    | 0, _ => decide
    | 1, _ => decide
    | 2, _ => decide
    | 3, _ => decide
    | 4, _ => decide
    | 5, _ => decide
    | 6, _ => decide
    | 7, _ => decide
    | 8, _ => decide
  exact ⟨by unfold preLen; omega, this⟩
theorem many_lex (p l n : Nat) (hp : p < 9) (hl : l < 24) (hn : n < 205) :
    lexT (manyB p l n) = .ok (preTs p ++ (⟨2, [123], preLen p - 1⟩ :: (varsT (preLen p) l ++ (asgsT (preLen p + 6 * l) n ++ [⟨2, [125], preLen p + 6 * l + 4 * n⟩])))) := by
  obtain ⟨h1, h2⟩ := many_len p l n hp hl hn
  unfold lexT
  rw [if_neg (by omega)]
  unfold manyB
  rw [← times_rep, ← times_rep, List.append_assoc, List.append_assoc, List.append_assoc, runT_app _ _ _ _ _ _ _ _ (pre_run p hp)]
  obtain ⟨st1, ts1, h3, h4⟩ := vars_run (times' [120, 61, 49, 59] n ++ ([125] ++ [10])) l (.word 2 (preLen p - 1) [123]) (preTs p) (preTs p ++ [⟨2, [123], preLen p - 1⟩]) (preLen p) ⟨_, _, .inl rfl, rfl, rfl⟩
  rw [h3]
  obtain ⟨st2, ts2, h5, h6⟩ := asgs_run ([125] ++ [10]) n st1 ts1 _ (preLen p + 6 * l) h4
  rw [h5, end_run _ h6]
  simp [List.append_assoc]
/-- The locals are read. -/
theorem locals_run (R : List Tok) (hR : nx R [118, 97, 114] = false ∧ nx R [112, 116, 114] = false) : ∀ (l g i : Nat) (acc : List Vr), acc.length ≤ 20 → l < g →
    (acc.length + l ≤ 20 → ∃ acc', localsP g acc (varsT i l ++ R) = .ok acc' R ∧ acc'.length = acc.length + l) ∧
    (20 < acc.length + l → ∃ r, localsP g acc (varsT i l ++ R) = .er r 53 ∧ ∀ len, atOf len r = i + 6 * (20 - acc.length) + 4)
  | 0, g + 1, i, acc, ha, _ => ⟨fun _ => ⟨acc, by rw [varsT, List.nil_append]; conv => { lhs; unfold localsP }; rw [if_neg (by rw [hR.1, hR.2]; simp)], rfl⟩, fun h => by omega⟩
  | l + 1, g + 1, i, acc, ha, hg => by
    have key : localsP (g + 1) acc (varsT i (l + 1) ++ R) = if acc.length = 20 then .er (⟨0, [118], i + 4⟩ :: ⟨2, [59], i + 5⟩ :: (varsT (i + 6) l ++ R)) 53 else localsP g (acc ++ [⟨[118], false⟩]) (varsT (i + 6) l ++ R) := by
      show (declP acc.length 20 _).bind _ = _
      unfold declP
      by_cases h : acc.length = 20
      · rw [if_pos h]
        show Rs.bind (Rs.bind (.ok _ _) _) _ = _
        show Rs.bind (if acc.length = 20 then _ else _) _ = _
        rw [if_pos h]
        rfl
      · rw [if_neg h]
        show Rs.bind (Rs.bind (.ok _ _) _) _ = _
        show Rs.bind (if acc.length = 20 then _ else _) _ = _
        rw [if_neg h]
        rfl
    by_cases h : acc.length = 20
    · refine ⟨fun h2 => by omega, fun _ => ⟨_, by rw [key, if_pos h], fun len => ?_⟩⟩
      show i + 4 = _
      omega
    · rw [key, if_neg h]
      have ih := locals_run R hR l g (i + 6) (acc ++ [⟨[118], false⟩]) (by simp; omega) (by omega)
      simp only [List.length_append, List.length_cons, List.length_nil] at ih
      refine ⟨fun h2 => ?_, fun h2 => ?_⟩
      · obtain ⟨a, h3, h4⟩ := ih.1 (by omega)
        exact ⟨a, h3, by omega⟩
      · obtain ⟨r, h3, h4⟩ := ih.2 (by omega)
        exact ⟨r, h3, fun len => by rw [h4]; omega⟩
/-- The statements are read. -/
theorem asg_stm (i n : Nat) (R : List Tok) : stm 260 1 n (asgT i ++ R) = if n = 200 then .er (asgT i ++ R) 53 else .ok (.mk 0 [120] [] (some (.num 1)) none none [] [] [] n, n + 1) R := by
  show (if n = 200 then _ else _) = _
  by_cases h : n = 200
  · rw [if_pos h, if_pos h]
  · rw [if_neg h, if_neg h]
    rfl
theorem stms_run (j : Nat) : ∀ (m g i n : Nat) (acc : List Sm), n ≤ 200 → m < g →
    (n + m ≤ 200 → ∃ acc', stmsOf (stm 260 1) g acc n (asgsT i m ++ [⟨2, [125], j⟩]) = .ok (acc', n + m) [] ∧ acc'.length = acc.length + m) ∧
    (200 < n + m → ∃ r, stmsOf (stm 260 1) g acc n (asgsT i m ++ [⟨2, [125], j⟩]) = .er r 53 ∧ ∀ len, atOf len r = i + 4 * (200 - n))
  | 0, g + 1, i, n, acc, _, _ => ⟨fun _ => ⟨acc, rfl, rfl⟩, fun h => by omega⟩
  | m + 1, g + 1, i, n, acc, hn, hg => by
    have key : stmsOf (stm 260 1) (g + 1) acc n (asgsT i (m + 1) ++ [⟨2, [125], j⟩]) = (stm 260 1 n (asgT i ++ (asgsT (i + 4) m ++ [⟨2, [125], j⟩]))).bind fun x r => stmsOf (stm 260 1) g (acc ++ [x.1]) x.2 r := by
      rw [asgsT, List.append_assoc]
      conv => { lhs; unfold stmsOf }
      rw [if_neg (show ¬ (nx (asgT i ++ (asgsT (i + 4) m ++ [⟨2, [125], j⟩])) [125] = true) from fun e => by cases e)]
    rw [key, asg_stm]
    by_cases h : n = 200
    · rw [if_pos h]
      exact ⟨fun h2 => by omega, fun _ => ⟨_, rfl, fun len => by show i = _; omega⟩⟩
    · rw [if_neg h]
      have ih := stms_run j m g (i + 4) (n + 1) (acc ++ [.mk 0 [120] [] (some (.num 1)) none none [] [] [] n]) (by omega) (by omega)
      simp only [List.length_append, List.length_cons, List.length_nil] at ih
      refine ⟨fun h2 => ?_, fun h2 => ?_⟩
      · obtain ⟨a, h3, h4⟩ := ih.1 (by omega)
        exact ⟨a, by rw [show n + (m + 1) = n + 1 + m by omega]; exact h3, by omega⟩
      · obtain ⟨r, h3, h4⟩ := ih.2 (by omega)
        exact ⟨r, h3, fun len => by rw [h4]; omega⟩
theorem not_var (R : List Tok) (i n : Nat) (j : Nat) : nx (asgsT i n ++ [⟨2, [125], j⟩]) [118, 97, 114] = false ∧ nx (asgsT i n ++ [⟨2, [125], j⟩]) [112, 116, 114] = false := by
  cases n <;> exact ⟨rfl, rfl⟩
/-- Behind the parameters. -/
def restP (ps : List Vr) (R : List Tok) : Rs Fn7 := (localsP 260 [] R).bind fun ls r => (stmsOf (stm 260 1) 260 [] 0 r).bind fun b r => .ok ⟨[102], ps, ls, b.1⟩ r
set_option maxHeartbeats 4000000 in
theorem pars_run (q : Nat) (R : List Tok) : ∀ p, p < 9 → (p ≤ 6 → ∃ ps, funcP 260 (preTs p ++ (⟨2, [123], q⟩ :: R)) = restP ps R ∧ ps.length = p) ∧ (6 < p → ∃ r, funcP 260 (preTs p ++ (⟨2, [123], q⟩ :: R)) = .er r 53 ∧ ∀ len, atOf len r = 17) := by
  intro p hp
  match p, hp with
  | 0, _ => exact ⟨fun _ => ⟨_, rfl, rfl⟩, fun h => by omega⟩
  | 1, _ => exact ⟨fun _ => ⟨_, rfl, rfl⟩, fun h => by omega⟩
  | 2, _ => exact ⟨fun _ => ⟨_, rfl, rfl⟩, fun h => by omega⟩
  | 3, _ => exact ⟨fun _ => ⟨_, rfl, rfl⟩, fun h => by omega⟩
  | 4, _ => exact ⟨fun _ => ⟨_, rfl, rfl⟩, fun h => by omega⟩
  | 5, _ => exact ⟨fun _ => ⟨_, rfl, rfl⟩, fun h => by omega⟩
  | 6, _ => exact ⟨fun _ => ⟨_, rfl, rfl⟩, fun h => by omega⟩
  | 7, _ => exact ⟨fun h => by omega, fun _ => ⟨⟨0, [112], 17⟩ :: ⟨2, [41], 18⟩ :: ⟨2, [123], q⟩ :: R, rfl, fun _ => rfl⟩⟩
  | 8, _ => exact ⟨fun h => by omega, fun _ => ⟨⟨0, [112], 17⟩ :: ⟨2, [44], 18⟩ :: ⟨0, [112], 19⟩ :: ⟨2, [41], 20⟩ :: ⟨2, [123], q⟩ :: R, rfl, fun _ => rfl⟩⟩
/-- Where the first error stands (0: nowhere). -/
def firstE (p l n : Nat) : Nat := if 6 < p then 17 else if 20 < l then preLen p + 124 else if 200 < n then preLen p + 6 * l + 800 else 0
theorem many_text (p l n : Nat) (hp : p < 9) (hl : l < 24) (hn : n < 205) :
    (0 < firstE p l n ∧ textP (funcP 260) (manyB p l n) = some (.error (firstE p l n, 53))) ∨
    (firstE p l n = 0 ∧ ∃ f, textP (funcP 260) (manyB p l n) = some (.ok f) ∧ f.params.length = p ∧ f.locals.length = l ∧ f.body.length = n) := by
  have hlx := many_lex p l n hp hl hn
  have hP := pars_run (preLen p - 1) (varsT (preLen p) l ++ (asgsT (preLen p + 6 * l) n ++ [⟨2, [125], preLen p + 6 * l + 4 * n⟩])) p hp
  have hL := locals_run (asgsT (preLen p + 6 * l) n ++ [⟨2, [125], preLen p + 6 * l + 4 * n⟩]) (not_var [] _ _ _) l 260 (preLen p) [] (by simp) (by omega)
  have hS := stms_run (preLen p + 6 * l + 4 * n) n 260 (preLen p + 6 * l) 0 [] (by omega) (by omega)
  simp only [List.length_nil, Nat.zero_add, Nat.sub_zero] at hL hS
  have hpre : 0 < preLen p := by unfold preLen preB; simp
  unfold textP firstE
  rw [hlx]
  by_cases h1 : 6 < p
  · obtain ⟨r, h2, h3⟩ := hP.2 h1
    rw [if_pos h1]
    refine .inl ⟨by omega, ?_⟩
    show wholeP _ (funcP 260 _) = _
    rw [h2]
    show some (Except.error (atOf _ r, 53)) = _
    rw [h3]
  · obtain ⟨ps, h2, h3⟩ := hP.1 (by omega)
    rw [if_neg h1]
    show _ ∧ wholeP _ (funcP 260 _) = _ ∨ _ ∧ ∃ f, wholeP _ (funcP 260 _) = _ ∧ _
    rw [h2]
    unfold restP
    by_cases h4 : 20 < l
    · obtain ⟨r, h5, h6⟩ := hL.2 h4
      rw [if_pos h4, h5]
      refine .inl ⟨by omega, ?_⟩
      show some (Except.error (atOf _ r, 53)) = _
      rw [h6]
    · obtain ⟨ls, h5, h6⟩ := hL.1 (by omega)
      rw [if_neg h4, h5]
      show _ ∧ wholeP _ (Rs.bind (stmsOf _ _ _ _ _) _) = _ ∨ _ ∧ ∃ f, wholeP _ (Rs.bind (stmsOf _ _ _ _ _) _) = _ ∧ _
      by_cases h7 : 200 < n
      · obtain ⟨r, h8, h9⟩ := hS.2 h7
        rw [if_pos h7, h8]
        refine .inl ⟨by omega, ?_⟩
        show some (Except.error (atOf _ r, 53)) = _
        rw [h9]
      · obtain ⟨b, h8, h9⟩ := hS.1 (by omega)
        rw [if_neg h7, h8]
        exact .inr ⟨rfl, ⟨[102], ps, ls, b⟩, rfl, h3, h6, h9⟩
/-- The globals. -/
def globChk (g : Nat) : Bool := match textP (globP 60) (rep [99, 101, 108, 108, 32, 99, 59] g) with
  | some (.error (a, n)) => decide (20 < g) && (a == 145 && n == 53)
  | some (.ok f) => decide (g ≤ 20) && f.cells.length == g
  | none => false
set_option maxRecDepth 100000 in
theorem glob_all : ∀ g, g < 24 → globChk g = true := by decide +kernel
end Go.Proofs.YteplkhgaoaphhaaGreatDoor
