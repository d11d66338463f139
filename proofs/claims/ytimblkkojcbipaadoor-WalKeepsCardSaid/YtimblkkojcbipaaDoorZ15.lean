/- Part 15 of the walks (merged): Open, Seg, Acts, CatRecs, Keeps. -/
import Derived.Test.YtimblkkojcbipaaDoorZ1
import Derived.Deep.Strs
import Derived.Deep.Grids
import Derived.Deep.Slices
import Derived.ChangeSame
import Derived.Test.YtimblkkojcbipaaDoorZ14
/- Arguments opened to lists of values: slices of numbers, strings, booleans. -/
namespace Go.Proofs.YtimblkkojcbipaaDoor
open Go Go.RowKit Go.ChangeShapes Go.WideShapes Go.ChangeAt Go.Deep
section
variable {H : Type} {enc : TypeId × Value → H} {P : Program} {W : World}
theorem argV_of_at {W : World} {a : Addr} {len cap : Nat} {xs : List Value} (hlen : xs.length = len) (hl : len ≤ cap) (hm : cap ≤ maxLen) (h : ∀ i u, xs[i]? = some u → W.cell? (a.add i) = some u) : ArgV W (· < W.heap.size) (.slice (some a) len cap) xs := by
  subst hlen
  exact ArgV.of_sl (sl_of_at h) hl hm
theorem argV_nil (W : World) (S : Nat → Prop) : ArgV W S (.slice none 0 0) [] := ⟨none, 0, rfl, Nat.le_refl _, Nat.zero_le _, .inl rfl⟩

/-- A slice of numbers that came in. -/
theorem open_numsV {t e : TypeId} {k : IntKind} {base base' : Nat} {spare : Nat → Bool} {held : Bool} {v : Value} {d : DataW H} {p : List MemPlace} (ht : P.underlying t = some (.slice e)) (he : P.underlying e = some (.int k)) (hc : P.cellsOf e = 1)
    (hval : Value.okWide P W .any base' t v) (h : DataW.Trod enc P W base spare held t v d p) : ∃ zs : List Int, ArgV W (· < W.heap.size) v (zs.map fun z : Int => .int k z) ∧ ∀ z ∈ zs, (Lit.int k z).wf = true := by
  obtain ⟨a0, len, cap, rfl⟩ := okWide_slice ht hval
  obtain ⟨fuel, hf⟩ := h
  rcases open_ints ht he hc hf with ⟨hcs, _⟩ | ⟨a, len', cap', zs, hcs, _, hl, hm, hz, _, hcell, hw⟩
  · have : a0 = none ∧ len = 0 ∧ cap = 0 := by simpa [Value.cells] using hcs
    obtain ⟨rfl, rfl, rfl⟩ := this
    exact ⟨[], argV_nil _ _, fun _ h => by cases h⟩
  · have : a0 = some a ∧ len = len' ∧ cap = cap' := by simpa [Value.cells] using hcs
    obtain ⟨rfl, rfl, rfl⟩ := this
    have hlen : len ≤ zs.length := by rw [hz]; split <;> omega
    refine ⟨zs.take len, argV_of_at (by simp; omega) hl hm fun i u hu => ?_, fun z hz' => hw z (List.mem_of_mem_take hz')⟩
    have hi : i < len := by
      rcases Nat.lt_or_ge i len with h | h
      · exact h
      · rw [List.getElem?_eq_none (by simp; omega)] at hu; cases hu
    rw [hcell i (by omega)]
    rw [List.getElem?_map, List.getElem?_take_of_lt hi, List.getElem?_eq_getElem (by omega)] at hu
    rw [List.getD_eq_getElem?_getD, List.getElem?_eq_getElem (by omega)]
    simpa using hu
/-- A slice of uint64s that came in. -/
theorem open_u64sV {t e : TypeId} {base base' : Nat} {spare : Nat → Bool} {held : Bool} {v : Value} {d : DataW H} {p : List MemPlace} (ht : P.underlying t = some (.slice e)) (he : P.underlying e = some (.int .u64)) (hc : P.cellsOf e = 1)
    (hval : Value.okWide P W .any base' t v) (h : DataW.Trod enc P W base spare held t v d p) : ∃ ns : List Nat, ArgV W (· < W.heap.size) v (ns.map fun n : Nat => .int .u64 n) ∧ ∀ n ∈ ns, n < 18446744073709551616 := by
  obtain ⟨zs, hz, hw⟩ := open_numsV ht he hc hval h
  refine ⟨zs.map Int.toNat, ?_, ?_⟩
  · have e : (zs.map Int.toNat).map (fun n : Nat => Value.int .u64 n) = zs.map fun z : Int => .int .u64 z := by
      rw [List.map_map]
      refine List.map_congr_left fun z hz' => ?_
      have := bounds_u64 (hw z hz')
      simp only [Function.comp]
      congr 1; omega
    rw [e]; exact hz
  · intro n hn
    rw [List.mem_map] at hn
    obtain ⟨z, hz', rfl⟩ := hn
    have := bounds_u64 (hw z hz')
    omega
/-- A []string that came in. -/
theorem open_strsV {t e : TypeId} {base base' : Nat} {spare : Nat → Bool} {held : Bool} {v : Value} {d : DataW H} {p : List MemPlace} (ht : P.underlying t = some (.slice e)) (he : P.underlying e = some .string) (hc : P.cellsOf e = 1)
    (hval : Value.okWide P W .any base' t v) (h : DataW.Trod enc P W base spare held t v d p) : ∃ ss : List ByteArray, ArgV W (· < W.heap.size) v (ss.map Value.string) ∧ ∀ s ∈ ss, s.size ≤ maxLen := by
  obtain ⟨a0, len, cap, rfl⟩ := okWide_slice ht hval
  obtain ⟨fuel, hf⟩ := h
  rcases open_strs ht he hc hf with ⟨hcs, _⟩ | ⟨a, len', cap', m, S, hcs, _, hl, hm, hz, _, hcell⟩
  · have : a0 = none ∧ len = 0 ∧ cap = 0 := by simpa [Value.cells] using hcs
    obtain ⟨rfl, rfl, rfl⟩ := this
    exact ⟨[], argV_nil _ _, fun _ h => by cases h⟩
  · have : a0 = some a ∧ len = len' ∧ cap = cap' := by simpa [Value.cells] using hcs
    obtain ⟨rfl, rfl, rfl⟩ := this
    have hlen : len ≤ m := by rw [hz]; split <;> omega
    refine ⟨(List.range len).map S, argV_of_at (by simp) hl hm fun i u hu => ?_, fun z hz' => ?_⟩
    · have hi : i < len := by
        rcases Nat.lt_or_ge i len with h | h
        · exact h
        · rw [List.getElem?_eq_none (by simp; omega)] at hu; cases hu
      rw [(hcell i (by omega)).1]
      simpa [hi] using hu
    · rw [List.mem_map] at hz'
      obtain ⟨i, hi, rfl⟩ := hz'
      rw [List.mem_range] at hi
      exact (hcell i (by omega)).2
/-- A []bool that came in. -/
theorem open_boolsV {t e : TypeId} {base base' : Nat} {held : Bool} {v : Value} {d : DataW H} {p : List MemPlace} (ht : P.underlying t = some (.slice e)) (he : P.underlying e = some .bool) (hc : P.cellsOf e = 1)
    (hval : Value.okWide P W .any base' t v) (h : DataW.Trod enc P W base (fun _ => true) held t v d p) : ∃ bs : List Bool, ArgV W (· < W.heap.size) v (bs.map Value.bool) := by
  obtain ⟨a0, len, cap, rfl⟩ := okWide_slice ht hval
  obtain ⟨fuel, hf⟩ := h
  rcases open_bools ht he hc hf with ⟨hcs, _⟩ | ⟨a, len', cap', B, hcs, _, hl, hm, _, hcell⟩
  · have : a0 = none ∧ len = 0 ∧ cap = 0 := by simpa [Value.cells] using hcs
    obtain ⟨rfl, rfl, rfl⟩ := this
    exact ⟨[], argV_nil _ _⟩
  · have : a0 = some a ∧ len = len' ∧ cap = cap' := by simpa [Value.cells] using hcs
    obtain ⟨rfl, rfl, rfl⟩ := this
    refine ⟨(List.range len).map B, argV_of_at (by simp) hl hm fun i u hu => ?_⟩
    have hi : i < len := by
      rcases Nat.lt_or_ge i len with h | h
      · exact h
      · rw [List.getElem?_eq_none (by simp; omega)] at hu; cases hu
    rw [hcell i (by omega)]
    simpa [hi] using hu
end
end Go.Proofs.YtimblkkojcbipaaDoor
/- Slices of anything that came in: so many cells an element. -/
namespace Go.Proofs.YtimblkkojcbipaaDoor
open Go Go.RowKit Go.ChangeShapes Go.WideShapes Go.ChangeAt Go.Deep
def SegV (w : World) (S : Nat → Prop) (v : Value) (n : Nat) (xs : List Value) : Prop :=
  ∃ A c, v = .slice A n c ∧ n ≤ c ∧ c ≤ maxLen ∧ (xs = [] ∨ ∃ b o, A = some ⟨b, o, none⟩ ∧ S b ∧ ∀ i u, xs[i]? = some u → w.cell? ⟨b, o + i, none⟩ = some u)
theorem SegV.upd {w w' : World} {F S : Nat → Prop} {v : Value} {n : Nat} {xs : List Value} (h : SegV w S v n xs) (hu : Upd F w w') (hS : ∀ k, S k → ¬ F k) : SegV w' S v n xs := by
  obtain ⟨A, c, h1, h2, h3, h4⟩ := h
  refine ⟨A, c, h1, h2, h3, ?_⟩
  rcases h4 with rfl | ⟨b, o, rfl, hb, hc⟩
  · exact .inl rfl
  · exact .inr ⟨b, o, rfl, hb, fun i u hi => hu.cell (hc i u hi) (hS b hb)⟩
theorem SegV.mono {w : World} {S S' : Nat → Prop} {v : Value} {n : Nat} {xs : List Value} (h : SegV w S v n xs) (hS : ∀ k, k < w.heap.size → S k → S' k) : SegV w S' v n xs := by
  obtain ⟨A, c, h1, h2, h3, h4⟩ := h
  refine ⟨A, c, h1, h2, h3, ?_⟩
  rcases h4 with rfl | ⟨b, o, rfl, hb, hc⟩
  · exact .inl rfl
  · cases xs with
    | nil => exact .inl rfl
    | cons x xs => exact .inr ⟨b, o, rfl, hS b (World.block_lt_of_cell? w _ (hc 0 x rfl)) hb, hc⟩
theorem SegV.slice {w : World} {S : Nat → Prop} {v : Value} {n : Nat} {xs : List Value} (h : SegV w S v n xs) : ∃ A c, v = .slice A n c ∧ n ≤ maxLen := by
  obtain ⟨A, c, h1, h2, h3, h4⟩ := h
  exact ⟨A, c, h1, Nat.le_trans h2 h3⟩
/-- The cells of one element. -/
theorem seg_get {α : Type} (f : α → List Value) (k : Nat) (hf : ∀ a, (f a).length = k) : ∀ (l : List α) (i : Nat) (h : i < l.length) (j : Nat), j < k → (l.map f).flatten[k * i + j]? = (f l[i])[j]?
  | a :: l, 0, _, j, hj => by
    rw [List.map_cons, List.flatten_cons, List.getElem?_append_left (by rw [hf]; omega)]
    simp
  | a :: l, i + 1, h, j, hj => by
    rw [List.map_cons, List.flatten_cons, List.getElem?_append_right (by rw [hf, Nat.mul_succ]; omega), hf, show k * (i + 1) + j - k = k * i + j by rw [Nat.mul_succ]; omega]
    exact seg_get f k hf l i (by simpa using h) j hj
theorem SegV.get {α : Type} {w : World} {S : Nat → Prop} {A : Option Addr} {n c : Nat} {f : α → List Value} {k : Nat} (hf : ∀ a, (f a).length = k) (hk : 0 < k) {l : List α} (h : SegV w S (.slice A n c) n (l.map f).flatten) {i : Nat} (hi : i < l.length) :
    ∃ b o, A = some ⟨b, o, none⟩ ∧ S b ∧ ∀ j u, j < k → (f l[i])[j]? = some u → w.cell? ⟨b, o + (k * i + j), none⟩ = some u := by
  obtain ⟨A', c', h1, h2, h3, h4⟩ := h
  injection h1 with e1 e2 e3
  subst e1
  rcases h4 with h0 | ⟨b, o, rfl, hb, hc⟩
  · have h5 := seg_get f k hf l i hi 0 hk
    rw [h0, List.getElem?_nil] at h5
    have := (List.getElem?_eq_none_iff.1 h5.symm)
    rw [hf] at this
    omega
  · exact ⟨b, o, rfl, hb, fun j u hj hu => hc _ u (by rw [seg_get f k hf l i hi j hj]; exact hu)⟩

section
variable {H : Type} {enc : TypeId × Value → H} {w : World} {base : Nat} {spare : Nat → Bool} {held : Bool}
theorem seg_len {α : Type} (f : α → List Value) (k : Nat) (hf : ∀ a, (f a).length = k) : ∀ l : List α, (l.map f).flatten.length = k * l.length
  | [] => by simp
  | b :: l => by rw [List.map_cons, List.flatten_cons, List.length_append, hf, seg_len f k hf l, List.length_cons, Nat.mul_succ]; omega
/-- A slice of anything that came in: each element's cells read as the element. -/
theorem open_seg {α : Type} (f : α → List Value) (k : Nat) (ok : α → Prop) {t e : TypeId} {cs : List Value} {fuel : Nat} {x : DataW H × List MemPlace} (ht : Tryd.prog.underlying t = some (.slice e)) (hk : Tryd.prog.cellsOf e = k) (hpos : 0 < k) (hf : ∀ a, (f a).length = k)
    (hel : ∀ {n : Nat} {cs : List Value} {x : DataW H × List MemPlace}, DataW.trod enc Tryd.prog w base spare held n e cs = some x → ∃ a, cs = f a ∧ ok a)
    (h : DataW.trod enc Tryd.prog w base spare held fuel t cs = some x) :
    ∃ (v : Value) (l : List α), cs = [v] ∧ SegV w (· < w.heap.size) v l.length (l.map f).flatten ∧ ∀ a ∈ l, ok a := by
  rcases open_slice ht h with ⟨h0, _⟩ | ⟨a, len, cap, m, n, D, Pl, rfl, hb, hl, hm, hmm, hx, hi⟩
  · exact ⟨_, [], h0, ⟨none, 0, rfl, Nat.le_refl _, Nat.zero_le _, .inl rfl⟩, fun _ h => by cases h⟩
  · have hlm : len ≤ m := by rw [hmm]; split <;> omega
    have hg : ∀ i, i < len → ∃ b : α, ok b ∧ ∀ j, j < k → w.cell? (a.add (i * k + j)) = (f b)[j]? := by
      intro i hi2
      obtain ⟨cs', hc, ht'⟩ := hi i (by omega)
      obtain ⟨b, rfl, hob⟩ := hel ht'
      obtain ⟨_, _, h3⟩ := World.cells?_some hc
      refine ⟨b, hob, fun j hj => ?_⟩
      have := h3 j (by omega)
      rw [hk, Go.Deep.add_add] at this
      exact this
    obtain ⟨l, hll, hlp⟩ : ∃ l : List α, l.length = len ∧ ∀ (i : Nat) (h : i < l.length), ok l[i] ∧ ∀ j, j < k → w.cell? (a.add (i * k + j)) = (f l[i])[j]? := by
      clear hi hx hmm hlm h hl
      induction len with
      | zero => exact ⟨[], rfl, fun i h => by simp at h⟩
      | succ len ih =>
        obtain ⟨l, h1, h2⟩ := ih fun i hi => hg i (by omega)
        obtain ⟨b, hb1, hb2⟩ := hg len (by omega)
        refine ⟨l ++ [b], by simp [h1], fun i hi => ?_⟩
        rcases Nat.lt_or_ge i l.length with hlt | hge
        · rw [List.getElem_append_left hlt]; exact h2 i hlt
        · have : i = len := by simp [h1] at hi; omega
          subst this
          rw [List.getElem_append_right (by omega)]
          simp only [h1, Nat.sub_self, List.getElem_cons_zero]
          exact ⟨hb1, hb2⟩
    subst hll
    refine ⟨_, l, rfl, ⟨some a, cap, rfl, hl, hm, ?_⟩, fun b hb => ?_⟩
    · rcases Nat.eq_zero_or_pos l.length with h0 | h0
      · left
        rw [List.eq_nil_of_length_eq_zero h0]; rfl
      · right
        have hcell : ∀ i u, (l.map f).flatten[i]? = some u → w.cell? (a.add i) = some u := by
          intro i u hu
          have hi1 : i / k < l.length := by
            rcases Nat.lt_or_ge (i / k) l.length with h1 | h1
            · exact h1
            · exfalso
              rw [List.getElem?_eq_none (by
                rw [seg_len f k hf]
                have := Nat.mul_le_mul_left k h1
                have := Nat.div_add_mod i k
                omega)] at hu
              cases hu
          have hi2 := Nat.mod_lt i hpos
          have e : i = k * (i / k) + i % k := (Nat.div_add_mod i k).symm
          rw [e, seg_get f k hf l _ hi1 _ hi2] at hu
          have := (hlp _ hi1).2 _ hi2
          rw [Nat.mul_comm] at this
          rw [e, this]; exact hu
        have hsl := sl_of_at hcell
        rcases hsl with h1 | ⟨b, o, h1, h2, h3⟩
        · exfalso
          have h4 := seg_get f k hf l 0 h0 0 hpos
          rw [h1, List.getElem?_nil] at h4
          have := List.getElem?_eq_none_iff.1 h4.symm
          rw [hf] at this
          omega
        · exact ⟨b, o, h1, h2, h3⟩
    · obtain ⟨i, hi, rfl⟩ := List.getElem_of_mem hb
      exact (hlp i hi).1

end
end Go.Proofs.YtimblkkojcbipaaDoor
/- A script's acts that came in, and the law's helper light. -/
namespace Go.Proofs.YtimblkkojcbipaaDoor
open Go Go.RowKit Go.ChangeShapes Go.WideShapes Go.ChangeAt Go.Deep
abbrev ActQ := (Int × List UInt8) × Value
def actCells (q : ActQ) : List Value := [.int .i64 q.1.1, q.2]
theorem actCells_len (q : ActQ) : (actCells q).length = 2 := rfl
def ActIn (w : World) (B : Nat) (q : ActQ) : Prop := ArgV w (· < B) q.2 (bv q.1.2)
def ActsV (w : World) (B : Nat) (v : Value) (qs : List ActQ) : Prop := SegV w (· < B) v qs.length (qs.map actCells).flatten ∧ ∀ q ∈ qs, ActIn w B q
theorem ActsV.upd {w w' : World} {F : Nat → Prop} {B : Nat} {v : Value} {qs : List ActQ} (h : ActsV w B v qs) (hu : Upd F w w') (hF : ∀ k, k < B → ¬ F k) : ActsV w' B v qs := ⟨h.1.upd hu hF, fun q hq => (h.2 q hq).upd hu hF⟩
theorem ActsV.at_ {w : World} {B n c : Nat} {A : Option Addr} {qs : List ActQ} (h : ActsV w B (.slice A n c) qs) {k : Nat} (hk : k < qs.length) : ∃ b o, A = some ⟨b, o, none⟩ ∧ b < B ∧ w.cell? ⟨b, o + k * 2, none⟩ = some (.int .i64 qs[k].1.1) ∧ w.cell? ⟨b, o + k * 2 + 1, none⟩ = some qs[k].2 := by
  obtain ⟨Ax, cx, e, _⟩ := h.1.slice
  injection e with e1 e2 e3
  subst e1 e2 e3
  obtain ⟨b, o, rfl, hb, hc⟩ := h.1.get (k := 2) actCells_len (by decide) hk
  exact ⟨b, o, rfl, hb, by rw [show o + k * 2 = o + (2 * k + 0) by omega]; exact hc 0 _ (by decide) rfl, by rw [show o + k * 2 + 1 = o + (2 * k + 1) by omega]; exact hc 1 _ (by decide) rfl⟩
section
variable {H : Type} {enc : TypeId × Value → H} {w : World} {base : Nat} {spare : Nat → Bool} {held : Bool}
theorem act_cN : Tryd.prog.cellsOf 3 = 1 := by kernel_rfl
theorem act_cU : Tryd.prog.cellsOf 5 = 1 := by kernel_rfl
theorem act_cS : Tryd.prog.cellsOf 34 = 1 := by kernel_rfl
theorem act_cA : Tryd.prog.cellsOf 36 = 2 := by kernel_rfl
theorem len_two {α : Type} {l : List α} (h : l.length = 2) : ∃ a b, l = [a, b] := by
  match l, h with
  | [a, b], _ => exact ⟨a, b, rfl⟩
theorem flat_bytes (l : List UInt8) : (l.map fun b => [Value.int .u8 b.toNat]).flatten = bv l := by
  induction l with
  | nil => rfl
  | cons b l ih => rw [List.map_cons, List.flatten_cons, ih]; rfl
theorem trod_byte {n : Nat} {cs : List Value} {x : DataW H × List MemPlace} (h : DataW.trod enc Tryd.prog w base spare held n 5 cs = some x) : ∃ b : UInt8, cs = [Value.int .u8 b.toNat] ∧ True := by
  obtain ⟨b0, e0, -, w0⟩ := DataW.trod_int Tryd.underlying5 h
  have hb := bounds_u8 w0
  refine ⟨UInt8.ofNat b0.toNat, ?_, trivial⟩
  rw [e0, UInt8.toNat_ofNat_of_lt' (by have := hb.2; show b0.toNat < 256; omega)]
  congr 2
  omega
theorem trod_act {n : Nat} {cs : List Value} {x : DataW H × List MemPlace} (h : DataW.trod enc Tryd.prog w base spare held n 36 cs = some x) : ∃ q : ActQ, cs = actCells q ∧ ActIn w w.heap.size q := by
  obtain ⟨xs, n', rfl, -, hlen, hxl, hf⟩ := DataW.trod_struct Tryd.underlying36 h
  rw [act_cA] at hlen
  obtain ⟨a, b, rfl⟩ := len_two hlen
  obtain ⟨x0, x1, rfl⟩ := len_two hxl
  have h0 := hf 0 _ rfl
  have h1 := hf 1 _ rfl
  simp only [List.getElem_toArray, List.getElem_cons_zero, List.getElem_cons_succ, act_cN, act_cS] at h0 h1
  obtain ⟨b0, e0, -, w0⟩ := DataW.trod_int Tryd.underlying3 h0
  obtain ⟨v, l, e1, hv, -⟩ := open_seg (fun b : UInt8 => [Value.int .u8 b.toNat]) 1 (fun _ => True) Tryd.underlying34 act_cU (by decide) (fun _ => rfl) trod_byte h1
  simp at e0 e1
  subst e0 e1
  refine ⟨((b0, l), _), rfl, ?_⟩
  obtain ⟨A, c, rfl, h2, h3, h4⟩ := hv
  rw [flat_bytes] at h4
  exact ⟨A, c, by rw [bv_len], by rw [bv_len]; exact h2, h3, h4⟩
set_option maxRecDepth 100000 in
/-- A []Act that came in. -/
theorem open_actsV {base' : Nat} {v : Value} {d : DataW H} {p : List MemPlace} (hval : Value.okWide Tryd.prog w .any base' 22 v) (h : DataW.Trod enc Tryd.prog w base spare held 22 v d p) : ∃ qs, ActsV w w.heap.size v qs := by
  obtain ⟨a0, len, cap, rfl⟩ := okWide_slice Tryd.underlying22 hval
  obtain ⟨fuel, hf⟩ := h
  obtain ⟨v', qs, ev, hv, hq⟩ := open_seg actCells 2 (fun q => ActIn w w.heap.size q) Tryd.underlying22 act_cA (by decide) actCells_len trod_act hf
  have : Value.slice a0 len cap = v' := by simpa [Value.cells] using ev
  subst this
  exact ⟨qs, hv, hq⟩
end
def AnsA (Q : Prop) (w : World) (e : Ending) (w' : World) : Prop := ∃ b : Bool, e = .returned (.bool b) ∧ (b = true → Q) ∧ w = w'
def LightA (qs : List ActQ) : Prop := qs.length ≤ 30 ∧ ∀ q ∈ qs, q.1.2.length ≤ 6
set_option maxRecDepth 100000 in
theorem light4_any {w : World} {B : Nat} {v : Value} {qs : List ActQ} (h : ActsV w B v qs) :
    Calls Tryd.prog 10 #[v] w fun e w' => AnsA (LightA qs) w e w' := by
  have hA := h
  obtain ⟨A, c, rfl, h1, h2, -⟩ := h.1
  have h2' : c ≤ 9223372036854775807 := by unfold maxLen at h2; exact h2
  replace hA := hide hA
  clear h h2
  go_enter Tryd.func10, Tryd.ntmps10
  by_cases q1 : 30 < qs.length
  · go_wp2_with fail
    go_ret
    exact ⟨false, rfl, by simp, rfl⟩
  go_wp2_with fail
  go_loopw [3] (fun i wr => ∃ k : Nat, k ≤ qs.length ∧ i = .int .i64 k ∧ wr = w ∧ ∀ (j : Nat) (hj : j < qs.length), j < k → qs[j].1.2.length ≤ 6) (fun i _ => qs.length - (intOf i).toNat)
  case atStart => exact ⟨0, Nat.zero_le _, rfl, rfl, fun _ _ h => by omega⟩
  case round =>
    obtain ⟨k, hk, rfl, hwr, hp⟩ := hrel
    obtain rfl : w = wr := hwr.symm
    replace hp := hide hp
    rcases Nat.lt_or_ge k qs.length with hlt | hge
    · obtain ⟨b, o, rfl, hb, -, hc⟩ := hA.out.at_ hlt
      have hin := hA.out.2 _ (List.getElem_mem hlt)
      obtain ⟨A2, c2, e2, -⟩ := hin
      rw [bv_len] at e2
      obtain ⟨m, hm⟩ : ∃ m, m = qs[k].1.2.length := ⟨_, rfl⟩
      rw [e2, ← hm] at hc
      replace hm := hide hm
      clear e2
      by_cases q2 : 6 < m
      · go_wp2_with fail
        go_ret
        exact ⟨false, rfl, by simp, rfl⟩
      · go_wp2_with fail
        go_roundw
        case rel =>
          refine ⟨k + 1, hlt, by go_num, by simp, fun j hj h => ?_⟩
          rcases Nat.lt_or_ge j k with h1 | h1
          · exact hp.out j hj h1
          · obtain rfl : j = k := by omega
            rw [← hm.out]; omega
        case measure => simp [intOf]; omega
    · obtain rfl : k = qs.length := by omega
      clear hge
      go_wp2_with fail
      go_ret
      refine ⟨true, rfl, fun _ => ⟨by omega, fun q hq => ?_⟩, rfl⟩
      obtain ⟨j, hj, rfl⟩ := List.getElem_of_mem hq
      exact hp.out j hj hj
end Go.Proofs.YtimblkkojcbipaaDoor
/- Records behind records: the built-in append of a list of records; puts that have no room. -/
namespace Go.Proofs.YtimblkkojcbipaaDoor
open Go Go.RowKit
theorem run_rows_nothing {w : World} {v : Value} {n B : Nat} {xs : List Value} (hown : w.ownsRow B 34 1 v n xs) (ty : TypeId) (A : Option Addr) (c : Nat) :
    (Builtin.append_ #[28, 28] ty #[v, .slice A 0 c]).run Tryd.prog w = .ok v w := by
  obtain ⟨i0, hi, hz0, hz1, hz2⟩ := info_parts rows_info
  rcases hown.2 with ⟨rfl, rfl⟩ | ⟨g, cap, cur, rfl, hbg, hg, hnc, hcm, hcs, htake⟩
  · cases A <;> simp [Builtin.append_, run_underlying Tryd.underlying28, sizeOf, typeInfo, hi, Builtin.lenOf, Builtin.firstCells, loadCells, loadCellsFrom]
  · cases A <;> simp [Builtin.append_, run_underlying Tryd.underlying28, sizeOf, typeInfo, hi, Builtin.lenOf, Builtin.firstCells, loadCells, loadCellsFrom, storeCells, hnc]
theorem run_rows_append {w : World} {base : Nat} {v : Value} {n : Nat} {xs : List Value} (hown : w.ownsRow base 34 1 v n xs) {S : Nat → Prop} {v2 : Value} {ys : List Value} (hv2 : ArgV w S v2 ys) (hone : ∀ u ∈ ys, ∃ a n c, u = .slice a n c)
    (hlen : n + ys.length ≤ 4294967296) (hbase : base ≤ w.heap.size) (ty : TypeId) :
    ∃ v' w', (Builtin.append_ #[28, 28] ty #[v, v2]).run Tryd.prog w = .ok v' w' ∧ w'.ownsRow base 34 1 v' (n + ys.length) (xs ++ ys) ∧ Upd (Own v) w w' ∧ ∀ k, Own v' k → Own v k ∨ w.heap.size ≤ k := by
  obtain ⟨A, c, rfl, h1, h2, h3⟩ := hv2
  cases ys with
  | nil => exact ⟨v, w, run_rows_nothing hown ty A c, by simpa using hown, .refl _ _, fun k hk => .inl hk⟩
  | cons y ys =>
    rcases h3 with h3 | ⟨b, o, rfl, hb, hc⟩
    · cases h3
    · obtain ⟨i0, hi, hz0, hz1, hz2⟩ := info_parts rows_info
      obtain ⟨v', w', hr, h4, h5, h6⟩ := run_append_moved (P := Tryd.prog) w base 28 ty 34 i0 (.slice none 0 0) 1 24 Tryd.underlying28 hi hz0 hz1 hz2 rfl Nat.one_pos v n xs hown ⟨b, o, none⟩ (y :: ys).length c (y :: ys) (by omega) (fun j u hu => by rw [Go.WideShapes.add_plain]; exact hc j u hu) (fun u hu => oneSlice _ (hone u hu)) (by unfold maxLen; omega) (by omega) hbase
      exact ⟨v', w', hr, h4, .grown h5 fun k hk => hk, h6⟩
theorem RecsV.parts {w : World} {T : Nat → Prop} {v : Value} {rs : List (List UInt8)} (h : RecsV w T v rs) : ∃ vs, vs.length = rs.length ∧ ArgV w T v vs ∧ (∀ u ∈ vs, ∃ a n c, u = .slice a n c) ∧ ∀ (i : Nat) (u : Value) (r : List UInt8), vs[i]? = some u → rs[i]? = some r → ArgV w T u (bv r) ∧ NonNil u := by
  obtain ⟨vs, h1, h2, h3⟩ := h
  refine ⟨vs, h1, h2, fun u hu => ?_, h3⟩
  obtain ⟨i, hi, rfl⟩ := List.getElem_of_mem hu
  obtain ⟨A, c, e, _⟩ := (h3 i _ (rs[i]'(by omega)) (List.getElem?_eq_getElem hi) (List.getElem?_eq_getElem (by omega))).1
  exact ⟨_, _, _, e⟩
/-- Records of the walk's own row, some of their bytes elsewhere. -/
theorem recsV_own {w : World} {B : Nat} {T : Nat → Prop} {v : Value} {vs : List Value} {rs : List (List UInt8)} (hl : vs.length = rs.length) (hown : w.ownsRow B 34 1 v vs.length vs) (he : ∀ (i : Nat) (u : Value) (r : List UInt8), vs[i]? = some u → rs[i]? = some r → ArgV w T u (bv r) ∧ NonNil u) :
    RecsV w (fun k => (T k ∨ B ≤ k) ∧ k < w.heap.size) v rs := by
  have h1 : RecsV w (fun k => T k ∨ B ≤ k) v rs := ⟨vs, hl, (own_arg hown).mono fun k _ hk => .inr hk.1, fun i u r hi hr => ⟨(he i u r hi hr).1.mono fun k _ hk => .inl hk, (he i u r hi hr).2⟩⟩
  exact h1.low
theorem each_append {w : World} {T : Nat → Prop} {vs ws : List Value} {rs ss : List (List UInt8)} (hl : vs.length = rs.length) (h1 : ∀ (i : Nat) (u : Value) (r : List UInt8), vs[i]? = some u → rs[i]? = some r → ArgV w T u (bv r) ∧ NonNil u) (h2 : ∀ (i : Nat) (u : Value) (r : List UInt8), ws[i]? = some u → ss[i]? = some r → ArgV w T u (bv r) ∧ NonNil u) :
    ∀ (i : Nat) (u : Value) (r : List UInt8), (vs ++ ws)[i]? = some u → (rs ++ ss)[i]? = some r → ArgV w T u (bv r) ∧ NonNil u := by
  intro i u r hi hr
  rcases Nat.lt_or_ge i vs.length with h | h
  · rw [List.getElem?_append_left h] at hi
    rw [List.getElem?_append_left (by omega)] at hr
    exact h1 i u r hi hr
  · rw [List.getElem?_append_right h] at hi
    rw [List.getElem?_append_right (by omega)] at hr
    exact h2 (i - vs.length) u r hi (by rw [hl]; exact hr)
/-- A copy of records, and more of them behind: what the two appends make. -/
theorem cat_recs {w : World} {T T' : Nat → Prop} {v v' : Value} {rs rs' : List (List UInt8)} (h : RecsV w T v rs) (h' : RecsV w T' v' rs') (hl : rs.length + rs'.length ≤ 1000000) (ty ty' : TypeId) :
    ∃ v1 w1 v2 w2, (Builtin.append_ #[28, 28] ty #[.slice none 0 0, v]).run Tryd.prog w = .ok v1 w1 ∧ (Builtin.append_ #[28, 28] ty' #[v1, v']).run Tryd.prog w1 = .ok v2 w2 ∧
      Upd (fun _ => False) w w2 ∧ RecsV w2 (fun k => ((T k ∨ T' k) ∨ w.heap.size ≤ k) ∧ k < w2.heap.size) v2 (rs ++ rs') := by
  obtain ⟨vs, hvl, hva, hvs, hve⟩ := h.low.parts
  obtain ⟨ws, hwl, hwa, hws, hwe⟩ := h'.low.parts
  obtain ⟨v1, w1, r1, o1, u1, m1⟩ := run_rows_append (World.ownsRow_nil w w.heap.size 34 1) hva hvs (by omega) (Nat.le_refl _) ty
  rw [List.nil_append, Nat.zero_add] at o1
  have u1' : Upd (fun _ => False) w w1 := u1.mono fun k _ hk => by cases hk
  have hown1 : ∀ k, Own v1 k → w.heap.size ≤ k := fun k hk => (m1 k hk).elim (fun h => by cases h) id
  have hwa1 := hwa.upd u1' fun _ _ => id
  obtain ⟨v2, w2, r2, o2, u2, m2⟩ := run_rows_append o1 hwa1 hws (by omega) u1'.size ty'
  have u2' : Upd (fun _ => False) w w2 := u1'.trans u2 fun k hk ho => by have := hown1 k ho; omega
  refine ⟨v1, w1, v2, w2, r1, r2, u2', ?_⟩
  refine recsV_own (vs := vs ++ ws) (by simp [hvl, hwl]) (by simpa using o2) (each_append hvl (fun i u r hi hr => ?_) fun i u r hi hr => ?_)
  · have := hve i u r hi hr
    exact ⟨(this.1.upd u2' fun _ _ => id).mono fun k _ hk => .inl hk.1, this.2⟩
  · have := hwe i u r hi hr
    exact ⟨(this.1.upd u2' fun _ _ => id).mono fun k _ hk => .inr hk.1, this.2⟩
section
variable {n B sb lb : Nat} {S : Nat → Prop} {rs : List (List UInt8)} {w w' W : World}
/-- A Commit without room. -/
theorem full_lg {T : Nat → Prop} {rv : Value} {rs' : List (List UInt8)} (h : LgC n W B sb lb S rs) (hr : RecsV W T rv rs') (hrl : rs'.length ≤ 2147483648) (heach : ∀ r ∈ rs', r.length ≤ 1048576) (hfl : (frames rs').length ≤ 2251799813685248) (hfull : capC n < (frames rs).length + (frames rs').length) :
    Calls Tryd.prog 18 #[.pointer (some ⟨lb, 0, none⟩), rv] W fun e w' => e = .returned (.int .i64 40) ∧ Below W.heap.size W w' := by
  obtain ⟨D, live, x, h, hn, hs⟩ := h
  have hcap := h.holds.fine.cap
  have hcl := count_le rs
  have hb := h.holds.lies.bytes
  have hf := h.holds.lies.fit
  have hrc := h.holds.lies.recs
  refine commit_of h.log (put_full h.log h.disk h.holds.fine.n1.1 x h.holds.lies.area (by omega) hr hrl hfl (any_tooL heach (Nat.le_refl _)) (by rw [cap_of hn hs, hb]; exact hfull)) ?_
  rintro e w' ⟨rfl, _⟩
  exact ⟨_, rfl⟩
/-- A Reset without room. -/
theorem full_reset {T : Nat → Prop} {rv : Value} {rs' : List (List UInt8)} (h : LgC n W B sb lb S rs) (hr : RecsV W T rv rs') (hrl : rs'.length ≤ 2147483648) (heach : ∀ r ∈ rs', r.length ≤ 1048576) (hfl : (frames rs').length ≤ 2251799813685248) (hfull : capC n < (frames rs').length) :
    Calls Tryd.prog 16 #[.pointer (some ⟨lb, 0, none⟩), rv] W fun e w' => e = .returned (.int .i64 40) ∧ Below W.heap.size W w' := by
  obtain ⟨D, live, x, h, hn, hs⟩ := h
  refine reset_of h.log h.holds.lies.area (put_full h.log h.disk h.holds.fine.n1.1 ⟨1 - x.area, 0, 0⟩ (Nat.sub_le _ _) (by simp) hr hrl hfl (any_tooL heach (Nat.le_refl _)) (by rw [cap_of hn hs]; simpa using hfull)) ?_
  rintro e w' ⟨rfl, _⟩
  exact ⟨_, rfl⟩
end
theorem frames_size (rs : List (List UInt8)) : (frames rs).length ≤ sizeN rs := by
  induction rs with
  | nil => simp [frames]
  | cons r rs ih =>
    rw [frames_cons, List.length_append, frame_len]
    unfold sizeN at ih ⊢
    rw [List.map_cons, List.sum_cons]
    omega
theorem sizeN_of {rs : List (List UInt8)} {m : Nat} (h : ∀ r ∈ rs, r.length ≤ m) : sizeN rs ≤ rs.length * (m + 16) := by
  induction rs with
  | nil => simp [sizeN]
  | cons r rs ih =>
    have h1 := ih fun x hx => h x (by simp [hx])
    have h2 := h r (by simp)
    unfold sizeN at h1 ⊢
    rw [List.map_cons, List.sum_cons, List.length_cons, Nat.succ_mul]
    omega
end Go.Proofs.YtimblkkojcbipaaDoor
/- The walk of WalKeeps. -/
namespace Go.Proofs.YtimblkkojcbipaaDoor
open Go Go.RowKit
set_option maxRecDepth 100000 in
set_option maxHeartbeats 2000000 in
theorem keeps_any {w : World} {v1 : Value} {n : Nat} {qs : List ActQ} (hn : n < 256) (h1 : ActsV w w.heap.size v1 qs) (hT : Tab w) (hz : 1 ≤ w.heap.size) :
    Calls Tryd.prog 3 #[.int .u8 n, v1] w fun e w' => e = .returned (.bool true) ∧ Below w.heap.size w w' := by
  have hk := known4 hT hz
  have a1 := h1
  obtain ⟨A1, c1, rfl, m1, m1', -⟩ := h1.1
  have m1' : c1 ≤ 9223372036854775807 := by unfold maxLen at m1'; exact m1'
  have hT0 := hide hT
  replace a1 := hide a1
  clear hT h1
  obtain ⟨K, hK⟩ : ∃ K, K = 60 + n := ⟨_, rfl⟩
  have hK2 : (60 : Int) + n = (K : Nat) := by omega
  have hK3 : 60 ≤ K ∧ K ≤ 315 := by omega
  replace hK := hide hK
  go_enter Tryd.func3, Tryd.ntmps3
  go_wp2_with fail
  refine hk.mono ?_
  rintro e w1 ⟨rfl, hb1⟩
  replace hb1 := hide hb1
  clear hk
  have hU1 := Upd.of_below (fun _ => False) hb1.out
  have hli := light4_any (a1.out.upd hU1 fun _ _ => id)
  clear hU1
  go_wp2_with fail
  refine hli.mono ?_
  rintro e w' ⟨b, rfl, hlt, rfl⟩
  clear hli
  cases b
  · replace hlt := hide hlt
    go_wp2_with fail
    go_ret
    exact ⟨rfl, hb1.out⟩
  have hlA := hide (hlt rfl)
  clear hlt
  have z1 := hb1.out.size
  have hn1 := new_dk w1 K (by omega) (by omega)
  go_wp2_with fail
  refine hn1.mono ?_
  rintro e w2 ⟨sb, S2, rfl, hd2, hb12⟩
  have z12 := hb12.size
  have hb2 := hb1.out.trans (hb12.mono z1)
  have hT2 := hT0.out.below hz hb2
  have z2 := hb2.size
  have ho2 := open_dk hd2 (by omega) z12 hT2
  replace hb2 := hide hb2
  replace hd2 := hide hd2
  clear hn1 hb12 hT2
  go_wp2_with fail
  refine ho2.mono ?_
  rintro e w3 ⟨lb, v, S3, rfl, hl3, -, -, hlb, hm3⟩
  have hb3 := below_mv hb2.out hm3 z2 fun k hk => Nat.le_trans z1 (hd2.out.ge hk)
  have z3 := hb3.size
  have z13 : w1.heap.size ≤ w3.heap.size := Nat.le_trans z12 hm3.1.size
  have hrm := room_lg hl3
  obtain ⟨C, hC⟩ : ∃ C, C = capC K := ⟨_, rfl⟩
  have hC1 : 128 * K ≤ C + 512 ∧ C ≤ 128 * K := by rw [hC]; unfold capC; omega
  have e0 : (frames ([] : List (List UInt8))).length = 0 := rfl
  rw [← hC, e0, Nat.sub_zero] at hrm
  replace hC := hide hC
  replace hb3 := hide hb3
  replace hl3 := hide hl3
  clear ho2 hd2 hm3 e0
  go_wp2_with fail
  refine hrm.mono ?_
  rintro e w4 ⟨rfl, hb34⟩
  clear hrm
  have hU4 := Upd.of_below (fun _ => False) hb34
  have hb4 := hb3.out.trans (hb34.mono z3)
  have hl4 := hl3.out.upd hU4 fun _ _ => id
  have z14 : w1.heap.size ≤ w4.heap.size := Nat.le_trans z13 hb34.size
  have hq1 : ¬ (C : Int) < (K : Int) * 256 / 4 - 1024 := by omega
  replace hb4 := hide hb4
  replace hl4 := hide hl4
  clear hU4 hb34
  go_wp2_with fail
  go_loopw [7, 10, 11] (fun j z i wr => ∃ (k lb : Nat) (S T : Nat → Prop) (rs : List (List UInt8)), k ≤ qs.length ∧ j = .pointer (some ⟨lb, 0, none⟩) ∧ i = .int .i64 k ∧ Below w.heap.size w wr ∧ LgC K wr w1.heap.size sb lb S rs ∧ RecsV wr T z rs ∧ (∀ k, T k → ¬ OL S lb k) ∧ (∀ k, T k → k < wr.heap.size) ∧ w1.heap.size ≤ wr.heap.size ∧ rs.length ≤ 6 * k) (fun _ _ i _ => qs.length - (intOf i).toNat)
  case atStart => exact ⟨0, lb, S3, fun _ => False, [], Nat.zero_le _, rfl, rfl, hb4.out, hl4.out, ⟨[], rfl, ⟨none, 0, rfl, Nat.le_refl _, Nat.zero_le _, .inl rfl⟩, fun i u r hi => by simp at hi⟩, fun _ h => h.elim, fun _ h => h.elim, z14, Nat.zero_le _⟩
  case round =>
    clear hb4 hl4 hq1 hlb
    obtain ⟨k, lb, S, T, rs, hk, rfl, rfl, hb, hl, hr, hTS, hTo, hzz, hrs⟩ := hrel
    have zr := hb.size
    have hk30 := hlA.out.1
    obtain ⟨vs0, q0, ⟨Az, cz, rfl, pz1, pz2, -⟩, -⟩ := id hr
    have pz3 : cz ≤ 9223372036854775807 := by unfold maxLen at pz2; exact pz2
    rw [q0] at *
    clear pz2 q0
    replace hb := hide hb
    replace hl := hide hl
    replace hr := hide hr
    replace hTS := hide hTS
    replace hTo := hide hTo
    rcases Nat.lt_or_ge k qs.length with hlt2 | hge
    · have hU := Upd.of_below (fun _ => False) hb.out
      have haw := a1.out.upd hU fun _ _ => id
      obtain ⟨bq, oq, rfl, hbq, hcw, hcl⟩ := haw.at_ hlt2
      have hin := haw.2 _ (List.getElem_mem hlt2)
      have hl6 := hlA.out.2 _ (List.getElem_mem hlt2)
      have hcw1 : ∀ W : World, Below w.heap.size w W → W.cell? ⟨bq, oq + k * 2, none⟩ = some (.int .i64 qs[k].1.1) := fun W hW => by
        obtain ⟨b2, o2, e2, -, h2, -⟩ := (a1.out.upd (Upd.of_below (fun _ => False) hW) fun _ _ => id).at_ hlt2
        injection e2 with e2
        injection e2 with e3 e4
        rw [e3, e4]; exact h2
      unfold ActIn at hin
      obtain ⟨what, hwhat⟩ : ∃ x, x = qs[k].1.1 := ⟨_, rfl⟩
      obtain ⟨lens, hlens⟩ : ∃ x, x = qs[k].1.2 := ⟨_, rfl⟩
      obtain ⟨vl, hvl⟩ : ∃ x, x = qs[k].2 := ⟨_, rfl⟩
      rw [← hlens] at hin hl6
      rw [← hvl] at hin hcl
      rw [← hwhat] at hcw hcw1
      replace hwhat := hide hwhat
      replace hlens := hide hlens
      replace hvl := hide hvl
      have hba := batch_any hin k (by omega) (by omega)
      replace hcw1 := hide hcw1
      clear hU haw hcw hbq
      go_wp2_with fail
      refine hba.mono ?_
      rintro e w5 ⟨v5, rfl, hv5, hb5⟩
      clear hba hin hcl
      have hU5 := Upd.of_below (fun _ => False) hb5
      have hB5 := hb.out.trans (hb5.mono zr)
      have hl5 := hl.out.upd hU5 fun _ _ => id
      have hr5 := hr.out.upd hU5 fun _ _ => id
      have hbf := batch_frames k lens
      have hbe := batch_each k lens
      have hbs := batch_short k lens
      have hbl := batchL_len k lens lens.length
      obtain ⟨L, hL⟩ : ∃ L, L = batchL k lens lens.length := ⟨_, rfl⟩
      rw [← hL] at hbf hbs hbl hv5 hbe
      have hsz := sizeN_of hbe
      have hfs := frames_size L
      obtain ⟨N, hN⟩ : ∃ N, N = sizeN L := ⟨_, rfl⟩
      obtain ⟨A5, c5, rfl, hc5⟩ := hv5.len
      unfold maxLen at hc5
      have hrv5 := hv5.recsV
      obtain ⟨T5, hT5⟩ : ∃ T5 : Nat → Prop, T5 = fun k => wr.heap.size ≤ k ∧ k < w5.heap.size := ⟨_, rfl⟩
      rw [← hT5] at hrv5
      have hT5S : ∀ k, T5 k → ¬ OL S lb k := fun k hk h => by rw [hT5] at hk; have := hl.out.old h; omega
      have hT5o : ∀ k, T5 k → k < w5.heap.size := fun k hk => by rw [hT5] at hk; exact hk.2
      have z5 := hb5.size
      have hrm := room_lg hl5
      rw [← hC.out] at hrm
      obtain ⟨f0, hf0⟩ : ∃ f0, f0 = (frames rs).length := ⟨_, rfl⟩
      have hf0C : f0 ≤ C := by rw [hf0, hC.out]; exact hl5.fit
      rw [← hf0] at hrm
      obtain ⟨R, hR⟩ : ∃ R, R = C - f0 := ⟨_, rfl⟩
      rw [← hR] at hrm
      obtain ⟨f1, hf1⟩ : ∃ f1, f1 = (frames L).length := ⟨_, rfl⟩
      rw [← hf1] at hbf hfs
      rw [← hN] at hsz hfs
      obtain ⟨m, hm⟩ : ∃ m, m = L.length := ⟨_, rfl⟩
      rw [← hm] at hsz hrv5 hbl ⊢
      rw [hbl] at hsz
      replace hB5 := hide hB5
      replace hl5 := hide hl5
      replace hr5 := hide hr5
      replace hrv5 := hide hrv5
      replace hT5 := hide hT5
      replace hT5S := hide hT5S
      replace hT5o := hide hT5o
      replace hbs := hide hbs
      replace hbe := hide hbe
      replace hL := hide hL
      replace hN := hide hN
      replace hf0 := hide hf0
      replace hf1 := hide hf1
      replace hR := hide hR
      replace hm := hide hm
      replace hbl := hide hbl
      clear hv5 hb5 hU5 hb hl hr
      go_wp2_with fail
      refine hrm.mono ?_
      rintro e w6 ⟨rfl, hb6⟩
      clear hrm
      have hU6 := Upd.of_below (fun _ => False) hb6
      have hB6 := hB5.out.trans (hb6.mono (by have := hB5.out.size; omega))
      have hl6' := hl5.out.upd hU6 fun _ _ => id
      have hr6 := hr5.out.upd hU6 fun _ _ => id
      have hrv6 := hrv5.out.upd hU6 fun _ _ => id
      have hcw := hcw1.out w6 hB6
      have z6 := hb6.size
      replace hB6 := hide hB6
      replace hl6' := hide hl6'
      replace hr6 := hide hr6
      replace hrv6 := hide hrv6
      clear hU6 hb6 hl5 hr5 hrv5 hB5
      by_cases w5' : what = 5
      · subst w5'
        have ho := open_dk hl6'.out.dk (by omega) (by omega) (hT0.out.below hz hB6.out)
        go_wp2_with fail
        refine ho.mono ?_
        rintro e w7 ⟨lm, v7, S7, rfl, hl7, hx7, -, hlm, hm7⟩
        clear ho
        have z7 := hm7.1.size
        have hB7 := below_mv hB6.out hm7 hB6.out.size fun k hk => by have := hl6'.out.ge (.inl hk); omega
        have hr7 := hr6.out.upd hm7.1 fun k hk h => hTS.out k hk (.inl h)
        have hTS7 : ∀ k, T k → ¬ OL S7 lm k := fun k hk h => by
          have := hTo.out k hk
          rcases h with h | rfl
          · rcases hm7.2 k h with h | h
            · exact hTS.out k hk (.inl h)
            · omega
          · omega
        have hsm := same_any hx7.recsW hr7.recsW
        rw [decide_eq_true rfl] at hsm
        obtain ⟨A7, c7, rfl, -⟩ := hx7.slice
        replace hB7 := hide hB7
        replace hl7 := hide hl7
        replace hr7 := hide hr7
        replace hTS7 := hide hTS7
        clear hx7 hm7
        go_wp2_with fail
        refine hsm.mono ?_
        rintro e w8 ⟨rfl, hb8⟩
        clear hsm
        have hU8 := Upd.of_below (fun _ => False) hb8
        have z8 := hb8.size
        have hB8 := hB7.out.trans (hb8.mono hB7.out.size)
        have hl8 := hl7.out.upd hU8 fun _ _ => id
        have hr8 := hr7.out.upd hU8 fun _ _ => id
        have hTo8 : ∀ k, T k → k < w8.heap.size := fun k hk => by have := hTo.out k hk; omega
        replace hB8 := hide hB8
        replace hl8 := hide hl8
        replace hr8 := hide hr8
        replace hTo8 := hide hTo8
        clear hU8 hb8
        go_wp2_with fail
        go_roundw
        case rel => exact ⟨k + 1, lm, S7, T, rs, by omega, rfl, by go_num, hB8.out, hl8.out, hr8.out, hTS7.out, hTo8.out, by omega, by omega⟩
        case measure => simp [intOf]; omega
      · by_cases w4' : what = 4
        · subst w4'
          go_wp2_with fail
          by_cases hfit : f1 ≤ C
          · have hc := reset_lg hl6'.out (by omega) (hT0.out.below hz hB6.out) hrv6.out hT5S.out (by have := hm.out; have := hbl.out; omega) hbs.out (by rw [← hf1.out, ← hC.out]; exact hfit)
            refine hc.mono ?_
            rintro e w7 ⟨rfl, S7, hl7, hm7⟩
            clear hc
            have z7 := hm7.1.size
            have hB7 := below_mv hB6.out hm7 hB6.out.size fun k hk => by have := hl6'.out.ge hk; omega
            have hr7 := hrv6.out.upd hm7.1 hT5S.out
            have hTS7 : ∀ k, T5 k → ¬ OL S7 lb k := fun k hk h => (hm7.2 k h).elim (hT5S.out k hk) fun h => by have := hT5o.out k hk; omega
            have hTo7 : ∀ k, T5 k → k < w7.heap.size := fun k hk => by have := hT5o.out k hk; omega
            have hcn := count_lg hl7
            rw [← hm.out] at hcn
            replace hB7 := hide hB7
            replace hl7 := hide hl7
            replace hr7 := hide hr7
            replace hTS7 := hide hTS7
            replace hTo7 := hide hTo7
            go_wp2_with fail
            refine hcn.mono ?_
            rintro e w' ⟨rfl, rfl⟩
            clear hcn
            go_wp2_with fail
            go_roundw
            case rel => exact ⟨k + 1, lb, S7, T5, L, by omega, rfl, by go_num, hB7.out, hl7.out, hr7.out, hTS7.out, hTo7.out, by omega, by have := hm.out; have := hbl.out; omega⟩
            case measure => simp [intOf]; omega
          · exfalso
            omega
        · go_wp2_with fail
          by_cases hfit : f0 + f1 ≤ C
          · have hc := commit_lg hl6'.out (by omega) (hT0.out.below hz hB6.out) hrv6.out hT5S.out (by have := hm.out; have := hbl.out; omega) hbs.out (by rw [← hf1.out, ← hf0.out, ← hC.out]; exact hfit)
            refine hc.mono ?_
            rintro e w7 ⟨rfl, S7, hl7, hm7⟩
            clear hc
            have z7 := hm7.1.size
            have hB7 := below_mv hB6.out hm7 hB6.out.size fun k hk => by have := hl6'.out.ge hk; omega
            have hr7 := hrv6.out.upd hm7.1 hT5S.out
            have ha7 := hr6.out.upd hm7.1 hTS.out
            have hTS7 : ∀ k, T5 k → ¬ OL S7 lb k := fun k hk h => (hm7.2 k h).elim (hT5S.out k hk) fun h => by have := hT5o.out k hk; omega
            have hTA7 : ∀ k, T k → ¬ OL S7 lb k := fun k hk h => (hm7.2 k h).elim (hTS.out k hk) fun h => by have := hTo.out k hk; omega
            obtain ⟨v8, w8, v9, w9, r8, r9, hU9, hc9⟩ := cat_recs ha7 hr7 (by have := hm.out; have := hbl.out; omega) 28 28
            have z9 := hU9.size
            have hl9 := hl7.upd hU9 fun _ _ => id
            have hB9 := hB7.trans (hU9.below hB7.size fun _ h => h.elim)
            have hr9 := hr7.upd hU9 fun _ _ => id
            obtain ⟨T9, hT9⟩ : ∃ T9 : Nat → Prop, T9 = fun k => ((T k ∨ T5 k) ∨ w7.heap.size ≤ k) ∧ k < w9.heap.size := ⟨_, rfl⟩
            rw [← hT9] at hc9
            have hTS9 : ∀ k, T9 k → ¬ OL S7 lb k := fun k hk h => by
              rw [hT9] at hk
              rcases hk.1 with (h1 | h1) | h1
              · exact hTA7 k h1 h
              · exact hTS7 k h1 h
              · have := hl7.old h; omega
            have hTo9 : ∀ k, T9 k → k < w9.heap.size := fun k hk => by rw [hT9] at hk; exact hk.2
            replace hT9 := hide hT9
            have hrm := room_lg hl9
            rw [frames_append, List.length_append, ← hf0.out, ← hf1.out, ← hC.out] at hrm
            obtain ⟨R2, hR2⟩ : ∃ R2, R2 = C - (f0 + f1) := ⟨_, rfl⟩
            rw [← hR2] at hrm
            obtain ⟨g1, hg1⟩ : ∃ g1 : Int, (R : Int) - N = g1 := ⟨_, rfl⟩
            obtain ⟨g2, hg2⟩ : ∃ g2 : Int, g1 - 512 = g2 := ⟨_, rfl⟩
            have hg1b : -9223372036854775808 ≤ g1 ∧ g1 ≤ 9223372036854775807 := by have := hR.out; omega
            have hg2b : -9223372036854775808 ≤ g2 ∧ g2 ≤ 9223372036854775807 := by have := hR.out; omega
            have hq : ¬ (R2 : Int) < g2 := by have := hR.out; omega
            replace hR2 := hide hR2
            have hsz2 := fun (W : World) (hW : Upd (fun _ => False) w9 W) => size_of_any ((hr9.upd hW fun _ _ => id).recsW) (by have := hN.out; omega)
            rw [← hN.out] at hsz2
            obtain ⟨vs9, q9, ⟨A9, c9, rfl, -, -⟩, -⟩ := id hc9
            rw [q9, List.length_append] at hc9 r9
            clear q9
            replace hB9 := hide hB9
            replace hl9 := hide hl9
            replace hr9 := hide hr9
            replace hc9 := hide hc9
            replace hTS9 := hide hTS9
            replace hTo9 := hide hTo9
            replace r8 := hide r8
            replace r9 := hide r9
            clear hB7 hl7 hr7 ha7 hm7 hU9
            go_wp2_with (at_builtin; first | refine wp_append_run rfl (.const (.slice none 0 0)) (.tmp 91) 28 28 rfl _ _ _ rfl rfl r8.out ?_ | refine wp_append_run rfl (.tmp 92) (.tmp 93) 28 28 rfl _ _ _ rfl rfl r9.out ?_)
            refine hrm.mono ?_
            rintro e w10 ⟨rfl, hb10⟩
            clear hrm
            have hU10 := Upd.of_below (fun _ => False) hb10
            have hsz3 := hsz2 w10 hU10
            have z10 := hb10.size
            have hB10 := hB9.out.trans (hb10.mono hB9.out.size)
            have hl10 := hl9.out.upd hU10 fun _ _ => id
            have hc10 := hc9.out.upd hU10 fun _ _ => id
            have hTo10 : ∀ k, T9 k → k < w10.heap.size := fun k hk => by have := hTo9.out k hk; omega
            replace hB10 := hide hB10
            replace hl10 := hide hl10
            replace hc10 := hide hc10
            replace hTo10 := hide hTo10
            clear hU10 hb10 hsz2
            go_wp2_with fail
            refine hsz3.mono ?_
            rintro e w' ⟨rfl, rfl⟩
            clear hsz3
            go_wp2_with fail
            have hB10 := hB10.out
            have hl10 := hl10.out
            have hc10 := hc10.out
            have hTo10 := hTo10.out
            have hTS9 := hTS9.out
            have hcn := count_lg hl10
            rw [List.length_append] at hcn
            replace hB10 := hide hB10
            replace hl10 := hide hl10
            replace hc10 := hide hc10
            replace hTS9 := hide hTS9
            replace hTo10 := hide hTo10
            go_wp2_with fail
            refine hcn.mono ?_
            rintro e w' ⟨rfl, rfl⟩
            clear hcn
            go_wp2_with fail
            go_roundw
            case rel => exact ⟨k + 1, lb, S7, T9, (rs ++ L), by omega, rfl, by go_num, hB10.out, hl10.out, hc10.out, hTS9.out, hTo10.out, by omega, by (rw [List.length_append]; have := hm.out; have := hbl.out; omega)⟩
            case measure => simp [intOf]; omega
          · have hc := full_lg hl6'.out hrv6.out (by have := hm.out; have := hbl.out; omega) hbs.out (by rw [← hf1.out]; omega) (by rw [← hf1.out, ← hf0.out, ← hC.out]; omega)
            refine hc.mono ?_
            rintro e w7 ⟨rfl, hb7⟩
            clear hc
            have hU7 := Upd.of_below (fun _ => False) hb7
            have z7 := hb7.size
            have hB7 := hB6.out.trans (hb7.mono hB6.out.size)
            have hl7 := hl6'.out.upd hU7 fun _ _ => id
            have hr7 := hr6.out.upd hU7 fun _ _ => id
            have hsz2 := size_of_any (hrv6.out.upd hU7 fun _ _ => id).recsW (by have := hN.out; omega)
            rw [← hN.out] at hsz2
            have hq : ¬ (N : Int) + 512 ≤ (R : Int) := by have := hR.out; omega
            have hTo7 : ∀ k, T k → k < w7.heap.size := fun k hk => by have := hTo.out k hk; omega
            replace hB7 := hide hB7
            replace hl7 := hide hl7
            replace hr7 := hide hr7
            replace hTo7 := hide hTo7
            clear hU7 hb7
            go_wp2_with fail
            refine hsz2.mono ?_
            rintro e w' ⟨rfl, rfl⟩
            clear hsz2
            go_wp2_with fail
            have hB7 := hB7.out
            have hl7 := hl7.out
            have hr7 := hr7.out
            have hTo7 := hTo7.out
            have hTS7 := hTS.out
            have hcn := count_lg hl7

            replace hB7 := hide hB7
            replace hl7 := hide hl7
            replace hr7 := hide hr7
            replace hTS7 := hide hTS7
            replace hTo7 := hide hTo7
            go_wp2_with fail
            refine hcn.mono ?_
            rintro e w' ⟨rfl, rfl⟩
            clear hcn
            go_wp2_with fail
            go_roundw
            case rel => exact ⟨k + 1, lb, S, T, rs, by omega, rfl, by go_num, hB7.out, hl7.out, hr7.out, hTS7.out, hTo7.out, by omega, by omega⟩
            case measure => simp [intOf]; omega
    · obtain rfl : k = qs.length := by omega
      have ho := open_dk hl.out.dk (by omega) (by omega) (hT0.out.below hz hb.out)
      go_wp2_with fail
      refine ho.mono ?_
      rintro e w7 ⟨lm, v7, S7, rfl, hl7, hx7, -, hlm, hm7⟩
      clear ho
      have hB7 := below_mv hb.out hm7 zr fun k hk => by have := hl.out.ge (.inl hk); omega
      have hr7 := hr.out.upd hm7.1 fun k hk h => hTS.out k hk (.inl h)
      have hsm := same_any hx7.recsW hr7.recsW
      rw [decide_eq_true rfl] at hsm
      obtain ⟨A7, c7, rfl, -⟩ := hx7.slice
      replace hB7 := hide hB7
      clear hx7 hm7 hl7 hr7
      go_wp2_with fail
      refine hsm.mono ?_
      rintro e w8 ⟨rfl, hb8⟩
      clear hsm
      have hB8 := hide (hB7.out.trans (hb8.mono hB7.out.size))
      clear hb8
      go_wp2_with fail
      go_ret
      exact ⟨rfl, hB8.out⟩
theorem keeps_int {w : World} {v1 : Value} {n : Int} {qs : List ActQ} (hn : 0 ≤ n ∧ n ≤ 255) (h1 : ActsV w w.heap.size v1 qs) (hT : Tab w) (hz : 1 ≤ w.heap.size) :
    Calls Tryd.prog 3 #[.int .u8 n, v1] w fun e w' => e = .returned (.bool true) ∧ Below w.heap.size w w' := by
  obtain ⟨k, rfl⟩ : ∃ k : Nat, n = k := ⟨n.toNat, by omega⟩
  exact keeps_any (by omega) h1 hT hz
end Go.Proofs.YtimblkkojcbipaaDoor
