/- Part 15 of the walks (merged): Seg, Acts, Lay, SortedK, Lose, Crash, Falls, Falls2. -/
import Derived.Test.YtimblkkojcbipaaDoorY1
import Derived.Deep.Slices
import Derived.ChangeSame
import Derived.Test.YtimblkkojcbipaaDoorY14
import Derived.Shelf.SlIterI.Nil
import Derived.Shelf.SlIterI.Sorted
import Derived.Shelf.SortM.Plain
import Derived.Shelf.SortM.SortNone
import Derived.Test.YtimblkkojcbipaaDoorProg
import Derived.Test.YtimblkkojcbipaaDoorY5
import Derived.Shelf.Abstract
import Derived.Test.YtimblkkojcbipaaDoorY13
/- Slices of anything that came in: so many cells an element. -/
namespace Go.Proofs.YtimblkkojcbipaaDoor
open Go Go.RowKit Go.ChangeShapes Go.WideShapes Go.ChangeAt Go.Deep
def SegV (w : World) (S : Nat → Prop) (v : Value) (n : Nat) (xs : List Value) : Prop :=
  ∃ A c, v = .slice A n c ∧ n ≤ c ∧ c ≤ maxLen ∧ (xs = [] ∨ ∃ b o, A = some ⟨b, o, none⟩ ∧ S b ∧ ∀ i u, xs[i]? = some u → w.cell? ⟨b, o + i, none⟩ = some u)
theorem SegV.upd {w w' : World} {F S : Nat → Prop} {v : Value} {n : Nat} {xs : List Value} (h : SegV w S v n xs) (hu : Upd F w w') (hS : ∀ k, S k → ¬ F k) : SegV w' S v n xs := by
  obtain ⟨A, c, h1, h2, h3, h4⟩ := h
  refine ⟨A, c, h1, h2, h3, ?_⟩
  rcases h4 with rfl | ⟨b, o, rfl, hb, hc⟩
  · exact .inl rfl
  · exact .inr ⟨b, o, rfl, hb, fun i u hi => hu.cell (hc i u hi) (hS b hb)⟩
theorem SegV.mono {w : World} {S S' : Nat → Prop} {v : Value} {n : Nat} {xs : List Value} (h : SegV w S v n xs) (hS : ∀ k, k < w.heap.size → S k → S' k) : SegV w S' v n xs := by
  obtain ⟨A, c, h1, h2, h3, h4⟩ := h
  refine ⟨A, c, h1, h2, h3, ?_⟩
  rcases h4 with rfl | ⟨b, o, rfl, hb, hc⟩
  · exact .inl rfl
  · cases xs with
    | nil => exact .inl rfl
    | cons x xs => exact .inr ⟨b, o, rfl, hS b (World.block_lt_of_cell? w _ (hc 0 x rfl)) hb, hc⟩
theorem SegV.slice {w : World} {S : Nat → Prop} {v : Value} {n : Nat} {xs : List Value} (h : SegV w S v n xs) : ∃ A c, v = .slice A n c ∧ n ≤ maxLen := by
  obtain ⟨A, c, h1, h2, h3, h4⟩ := h
  exact ⟨A, c, h1, Nat.le_trans h2 h3⟩
/-- The cells of one element. -/
theorem seg_get {α : Type} (f : α → List Value) (k : Nat) (hf : ∀ a, (f a).length = k) : ∀ (l : List α) (i : Nat) (h : i < l.length) (j : Nat), j < k → (l.map f).flatten[k * i + j]? = (f l[i])[j]?
  | a :: l, 0, _, j, hj => by
    rw [List.map_cons, List.flatten_cons, List.getElem?_append_left (by rw [hf]; omega)]
    simp
  | a :: l, i + 1, h, j, hj => by
    rw [List.map_cons, List.flatten_cons, List.getElem?_append_right (by rw [hf, Nat.mul_succ]; omega), hf, show k * (i + 1) + j - k = k * i + j by rw [Nat.mul_succ]; omega]
    exact seg_get f k hf l i (by simpa using h) j hj
theorem SegV.get {α : Type} {w : World} {S : Nat → Prop} {A : Option Addr} {n c : Nat} {f : α → List Value} {k : Nat} (hf : ∀ a, (f a).length = k) (hk : 0 < k) {l : List α} (h : SegV w S (.slice A n c) n (l.map f).flatten) {i : Nat} (hi : i < l.length) :
    ∃ b o, A = some ⟨b, o, none⟩ ∧ S b ∧ ∀ j u, j < k → (f l[i])[j]? = some u → w.cell? ⟨b, o + (k * i + j), none⟩ = some u := by
  obtain ⟨A', c', h1, h2, h3, h4⟩ := h
  injection h1 with e1 e2 e3
  subst e1
  rcases h4 with h0 | ⟨b, o, rfl, hb, hc⟩
  · have h5 := seg_get f k hf l i hi 0 hk
    rw [h0, List.getElem?_nil] at h5
    have := (List.getElem?_eq_none_iff.1 h5.symm)
    rw [hf] at this
    omega
  · exact ⟨b, o, rfl, hb, fun j u hj hu => hc _ u (by rw [seg_get f k hf l i hi j hj]; exact hu)⟩

section
variable {H : Type} {enc : TypeId × Value → H} {w : World} {base : Nat} {spare : Nat → Bool} {held : Bool}
theorem seg_len {α : Type} (f : α → List Value) (k : Nat) (hf : ∀ a, (f a).length = k) : ∀ l : List α, (l.map f).flatten.length = k * l.length
  | [] => by simp
  | b :: l => by rw [List.map_cons, List.flatten_cons, List.length_append, hf, seg_len f k hf l, List.length_cons, Nat.mul_succ]; omega
/-- A slice of anything that came in: each element's cells read as the element. -/
theorem open_seg {α : Type} (f : α → List Value) (k : Nat) (ok : α → Prop) {t e : TypeId} {cs : List Value} {fuel : Nat} {x : DataW H × List MemPlace} (ht : Tryd.prog.underlying t = some (.slice e)) (hk : Tryd.prog.cellsOf e = k) (hpos : 0 < k) (hf : ∀ a, (f a).length = k)
    (hel : ∀ {n : Nat} {cs : List Value} {x : DataW H × List MemPlace}, DataW.trod enc Tryd.prog w base spare held n e cs = some x → ∃ a, cs = f a ∧ ok a)
    (h : DataW.trod enc Tryd.prog w base spare held fuel t cs = some x) :
    ∃ (v : Value) (l : List α), cs = [v] ∧ SegV w (· < w.heap.size) v l.length (l.map f).flatten ∧ ∀ a ∈ l, ok a := by
  rcases open_slice ht h with ⟨h0, _⟩ | ⟨a, len, cap, m, n, D, Pl, rfl, hb, hl, hm, hmm, hx, hi⟩
  · exact ⟨_, [], h0, ⟨none, 0, rfl, Nat.le_refl _, Nat.zero_le _, .inl rfl⟩, fun _ h => by cases h⟩
  · have hlm : len ≤ m := by rw [hmm]; split <;> omega
    have hg : ∀ i, i < len → ∃ b : α, ok b ∧ ∀ j, j < k → w.cell? (a.add (i * k + j)) = (f b)[j]? := by
      intro i hi2
      obtain ⟨cs', hc, ht'⟩ := hi i (by omega)
      obtain ⟨b, rfl, hob⟩ := hel ht'
      obtain ⟨_, _, h3⟩ := World.cells?_some hc
      refine ⟨b, hob, fun j hj => ?_⟩
      have := h3 j (by omega)
      rw [hk, Go.Deep.add_add] at this
      exact this
    obtain ⟨l, hll, hlp⟩ : ∃ l : List α, l.length = len ∧ ∀ (i : Nat) (h : i < l.length), ok l[i] ∧ ∀ j, j < k → w.cell? (a.add (i * k + j)) = (f l[i])[j]? := by
      clear hi hx hmm hlm h hl
      induction len with
      | zero => exact ⟨[], rfl, fun i h => by simp at h⟩
      | succ len ih =>
        obtain ⟨l, h1, h2⟩ := ih fun i hi => hg i (by omega)
        obtain ⟨b, hb1, hb2⟩ := hg len (by omega)
        refine ⟨l ++ [b], by simp [h1], fun i hi => ?_⟩
        rcases Nat.lt_or_ge i l.length with hlt | hge
        · rw [List.getElem_append_left hlt]; exact h2 i hlt
        · have : i = len := by simp [h1] at hi; omega
          subst this
          rw [List.getElem_append_right (by omega)]
          simp only [h1, Nat.sub_self, List.getElem_cons_zero]
          exact ⟨hb1, hb2⟩
    subst hll
    refine ⟨_, l, rfl, ⟨some a, cap, rfl, hl, hm, ?_⟩, fun b hb => ?_⟩
    · rcases Nat.eq_zero_or_pos l.length with h0 | h0
      · left
        rw [List.eq_nil_of_length_eq_zero h0]; rfl
      · right
        have hcell : ∀ i u, (l.map f).flatten[i]? = some u → w.cell? (a.add i) = some u := by
          intro i u hu
          have hi1 : i / k < l.length := by
            rcases Nat.lt_or_ge (i / k) l.length with h1 | h1
            · exact h1
            · exfalso
              rw [List.getElem?_eq_none (by
                rw [seg_len f k hf]
                have := Nat.mul_le_mul_left k h1
                have := Nat.div_add_mod i k
                omega)] at hu
              cases hu
          have hi2 := Nat.mod_lt i hpos
          have e : i = k * (i / k) + i % k := (Nat.div_add_mod i k).symm
          rw [e, seg_get f k hf l _ hi1 _ hi2] at hu
          have := (hlp _ hi1).2 _ hi2
          rw [Nat.mul_comm] at this
          rw [e, this]; exact hu
        have hsl := sl_of_at hcell
        rcases hsl with h1 | ⟨b, o, h1, h2, h3⟩
        · exfalso
          have h4 := seg_get f k hf l 0 h0 0 hpos
          rw [h1, List.getElem?_nil] at h4
          have := List.getElem?_eq_none_iff.1 h4.symm
          rw [hf] at this
          omega
        · exact ⟨b, o, h1, h2, h3⟩
    · obtain ⟨i, hi, rfl⟩ := List.getElem_of_mem hb
      exact (hlp i hi).1

end
end Go.Proofs.YtimblkkojcbipaaDoor
/- A script's acts that came in, and the law's helper light. -/
namespace Go.Proofs.YtimblkkojcbipaaDoor
open Go Go.RowKit Go.ChangeShapes Go.WideShapes Go.ChangeAt Go.Deep
abbrev ActQ := (Int × List UInt8) × Value
def actCells (q : ActQ) : List Value := [.int .i64 q.1.1, q.2]
theorem actCells_len (q : ActQ) : (actCells q).length = 2 := rfl
def ActIn (w : World) (B : Nat) (q : ActQ) : Prop := ArgV w (· < B) q.2 (bv q.1.2)
def ActsV (w : World) (B : Nat) (v : Value) (qs : List ActQ) : Prop := SegV w (· < B) v qs.length (qs.map actCells).flatten ∧ ∀ q ∈ qs, ActIn w B q
theorem ActsV.upd {w w' : World} {F : Nat → Prop} {B : Nat} {v : Value} {qs : List ActQ} (h : ActsV w B v qs) (hu : Upd F w w') (hF : ∀ k, k < B → ¬ F k) : ActsV w' B v qs := ⟨h.1.upd hu hF, fun q hq => (h.2 q hq).upd hu hF⟩
theorem ActsV.at_ {w : World} {B n c : Nat} {A : Option Addr} {qs : List ActQ} (h : ActsV w B (.slice A n c) qs) {k : Nat} (hk : k < qs.length) : ∃ b o, A = some ⟨b, o, none⟩ ∧ b < B ∧ w.cell? ⟨b, o + k * 2, none⟩ = some (.int .i64 qs[k].1.1) ∧ w.cell? ⟨b, o + k * 2 + 1, none⟩ = some qs[k].2 := by
  obtain ⟨Ax, cx, e, _⟩ := h.1.slice
  injection e with e1 e2 e3
  subst e1 e2 e3
  obtain ⟨b, o, rfl, hb, hc⟩ := h.1.get (k := 2) actCells_len (by decide) hk
  exact ⟨b, o, rfl, hb, by rw [show o + k * 2 = o + (2 * k + 0) by omega]; exact hc 0 _ (by decide) rfl, by rw [show o + k * 2 + 1 = o + (2 * k + 1) by omega]; exact hc 1 _ (by decide) rfl⟩
section
variable {H : Type} {enc : TypeId × Value → H} {w : World} {base : Nat} {spare : Nat → Bool} {held : Bool}
theorem act_cN : Tryd.prog.cellsOf 3 = 1 := by kernel_rfl
theorem act_cU : Tryd.prog.cellsOf 5 = 1 := by kernel_rfl
theorem act_cS : Tryd.prog.cellsOf 34 = 1 := by kernel_rfl
theorem act_cA : Tryd.prog.cellsOf 36 = 2 := by kernel_rfl
theorem len_two {α : Type} {l : List α} (h : l.length = 2) : ∃ a b, l = [a, b] := by
  match l, h with
  | [a, b], _ => exact ⟨a, b, rfl⟩
theorem flat_bytes (l : List UInt8) : (l.map fun b => [Value.int .u8 b.toNat]).flatten = bv l := by
  induction l with
  | nil => rfl
  | cons b l ih => rw [List.map_cons, List.flatten_cons, ih]; rfl
theorem trod_byte {n : Nat} {cs : List Value} {x : DataW H × List MemPlace} (h : DataW.trod enc Tryd.prog w base spare held n 5 cs = some x) : ∃ b : UInt8, cs = [Value.int .u8 b.toNat] ∧ True := by
  obtain ⟨b0, e0, -, w0⟩ := DataW.trod_int Tryd.underlying5 h
  have hb := bounds_u8 w0
  refine ⟨UInt8.ofNat b0.toNat, ?_, trivial⟩
  rw [e0, UInt8.toNat_ofNat_of_lt' (by have := hb.2; show b0.toNat < 256; omega)]
  congr 2
  omega
theorem trod_act {n : Nat} {cs : List Value} {x : DataW H × List MemPlace} (h : DataW.trod enc Tryd.prog w base spare held n 36 cs = some x) : ∃ q : ActQ, cs = actCells q ∧ ActIn w w.heap.size q := by
  obtain ⟨xs, n', rfl, -, hlen, hxl, hf⟩ := DataW.trod_struct Tryd.underlying36 h
  rw [act_cA] at hlen
  obtain ⟨a, b, rfl⟩ := len_two hlen
  obtain ⟨x0, x1, rfl⟩ := len_two hxl
  have h0 := hf 0 _ rfl
  have h1 := hf 1 _ rfl
  simp only [List.getElem_toArray, List.getElem_cons_zero, List.getElem_cons_succ, act_cN, act_cS] at h0 h1
  obtain ⟨b0, e0, -, w0⟩ := DataW.trod_int Tryd.underlying3 h0
  obtain ⟨v, l, e1, hv, -⟩ := open_seg (fun b : UInt8 => [Value.int .u8 b.toNat]) 1 (fun _ => True) Tryd.underlying34 act_cU (by decide) (fun _ => rfl) trod_byte h1
  simp at e0 e1
  subst e0 e1
  refine ⟨((b0, l), _), rfl, ?_⟩
  obtain ⟨A, c, rfl, h2, h3, h4⟩ := hv
  rw [flat_bytes] at h4
  exact ⟨A, c, by rw [bv_len], by rw [bv_len]; exact h2, h3, h4⟩
set_option maxRecDepth 100000 in
/-- A []Act that came in. -/
theorem open_actsV {base' : Nat} {v : Value} {d : DataW H} {p : List MemPlace} (hval : Value.okWide Tryd.prog w .any base' 22 v) (h : DataW.Trod enc Tryd.prog w base spare held 22 v d p) : ∃ qs, ActsV w w.heap.size v qs := by
  obtain ⟨a0, len, cap, rfl⟩ := okWide_slice Tryd.underlying22 hval
  obtain ⟨fuel, hf⟩ := h
  obtain ⟨v', qs, ev, hv, hq⟩ := open_seg actCells 2 (fun q => ActIn w w.heap.size q) Tryd.underlying22 act_cA (by decide) actCells_len trod_act hf
  have : Value.slice a0 len cap = v' := by simpa [Value.cells] using ev
  subst this
  exact ⟨qs, hv, hq⟩
end
def AnsA (Q : Prop) (w : World) (e : Ending) (w' : World) : Prop := ∃ b : Bool, e = .returned (.bool b) ∧ (b = true → Q) ∧ w = w'
def LightA (qs : List ActQ) : Prop := qs.length ≤ 30 ∧ ∀ q ∈ qs, q.1.2.length ≤ 6
set_option maxRecDepth 100000 in
theorem light4_any {w : World} {B : Nat} {v : Value} {qs : List ActQ} (h : ActsV w B v qs) :
    Calls Tryd.prog 10 #[v] w fun e w' => AnsA (LightA qs) w e w' := by
  have hA := h
  obtain ⟨A, c, rfl, h1, h2, -⟩ := h.1
  have h2' : c ≤ 9223372036854775807 := by unfold maxLen at h2; exact h2
  replace hA := hide hA
  clear h h2
  go_enter Tryd.func10, Tryd.ntmps10
  by_cases q1 : 30 < qs.length
  · go_wp2_with fail
    go_ret
    exact ⟨false, rfl, by simp, rfl⟩
  go_wp2_with fail
  go_loopw [3] (fun i wr => ∃ k : Nat, k ≤ qs.length ∧ i = .int .i64 k ∧ wr = w ∧ ∀ (j : Nat) (hj : j < qs.length), j < k → qs[j].1.2.length ≤ 6) (fun i _ => qs.length - (intOf i).toNat)
  case atStart => exact ⟨0, Nat.zero_le _, rfl, rfl, fun _ _ h => by omega⟩
  case round =>
    obtain ⟨k, hk, rfl, hwr, hp⟩ := hrel
    obtain rfl : w = wr := hwr.symm
    replace hp := hide hp
    rcases Nat.lt_or_ge k qs.length with hlt | hge
    · obtain ⟨b, o, rfl, hb, -, hc⟩ := hA.out.at_ hlt
      have hin := hA.out.2 _ (List.getElem_mem hlt)
      obtain ⟨A2, c2, e2, -⟩ := hin
      rw [bv_len] at e2
      obtain ⟨m, hm⟩ : ∃ m, m = qs[k].1.2.length := ⟨_, rfl⟩
      rw [e2, ← hm] at hc
      replace hm := hide hm
      clear e2
      by_cases q2 : 6 < m
      · go_wp2_with fail
        go_ret
        exact ⟨false, rfl, by simp, rfl⟩
      · go_wp2_with fail
        go_roundw
        case rel =>
          refine ⟨k + 1, hlt, by go_num, by simp, fun j hj h => ?_⟩
          rcases Nat.lt_or_ge j k with h1 | h1
          · exact hp.out j hj h1
          · obtain rfl : j = k := by omega
            rw [← hm.out]; omega
        case measure => simp [intOf]; omega
    · obtain rfl : k = qs.length := by omega
      clear hge
      go_wp2_with fail
      go_ret
      refine ⟨true, rfl, fun _ => ⟨by omega, fun q hq => ?_⟩, rfl⟩
      obtain ⟨j, hj, rfl⟩ := List.getElem_of_mem hq
      exact hp.out j hj hj
end Go.Proofs.YtimblkkojcbipaaDoor
/- Library functions, laid at this dump: maps.Keys, slices.Sorted, slices.Sort. -/
namespace Go.Proofs.YtimblkkojcbipaaDoor
open Go Go.RowKit Go.Shelf
def layKeys_ren : Go.Shelf.Ren := ⟨fun | 7 => 60 | 10 => 80 | n => n, fun | 23 => 43 | 26 => 3 | 3 => 34 | 28 => 98 | 0 => 0 | 27 => 97 | 33 => 101 | 4 => 4 | n => n, fun | n => n⟩
theorem layKeys : Go.Proofs.SlLaysZI.n7 Tryd.prog layKeys_ren := {
  mixed := by kernel_rfl
  f7 := ⟨Tryd.f60.name, by decide, Tryd.func60.trans (congrArg some (by kernel_rfl))⟩
  f10 := ⟨Tryd.f80.name, by decide, Tryd.func80.trans (congrArg some (by kernel_rfl))⟩
  t0 := Tryd.underlying0
  a0 := Tryd.isAgg0
  z0 := Tryd.sizeOf0
  v0 := Tryd.zeroValue0
  t4 := Tryd.underlying4
  a4 := Tryd.isAgg4
  z4 := Tryd.sizeOf4
  v4 := Tryd.zeroValue4
  t23 := Tryd.underlying43
  a23 := Tryd.isAgg43
  z23 := Tryd.sizeOf43
  v23 := Tryd.zeroValue43
  t26 := Tryd.underlying3
  a26 := Tryd.isAgg3
  z26 := Tryd.sizeOf3
  v26 := Tryd.zeroValue3
  t27 := Tryd.underlying97
  a27 := Tryd.isAgg97
  z27 := Tryd.sizeOf97
  v27 := Tryd.zeroValue97
  t28 := Tryd.underlying98
  a28 := Tryd.isAgg98
  z28 := Tryd.sizeOf98
  v28 := Tryd.zeroValue98
  t33 := Tryd.underlying101
  a33 := Tryd.isAgg101
  z33 := Tryd.sizeOf101
  v33 := Tryd.zeroValue101 }
def laySorted_ren : Go.Shelf.Ren := ⟨fun | 6 => 59 | 8 => 78 | 9 => 79 | 11 => 86 | 13 => 88 | 12 => 87 | 23 => 99 | 24 => 100 | 14 => 90 | 15 => 91 | 16 => 92 | 17 => 93 | 18 => 94 | 19 => 95 | 20 => 96 | 21 => 97 | 22 => 98 | 25 => 101 | 26 => 102 | 27 => 103 | 28 => 104 | 29 => 105 | 30 => 106 | 31 => 107 | n => n, fun | 26 => 3 | 28 => 98 | 24 => 95 | 0 => 0 | 3 => 3 | 37 => 104 | 48 => 120 | 50 => 50 | 4 => 4 | 40 => 134 | 39 => 133 | 45 => 139 | 5 => 5 | 9 => 9 | 51 => 144 | 55 => 148 | 57 => 150 | 58 => 151 | 33 => 101 | n => n, fun | n => n⟩
theorem laySorted : Go.Proofs.SlLaysZI.n6 Tryd.prog laySorted_ren := {
  mixed := by kernel_rfl
  f6 := ⟨Tryd.f59.name, by decide, Tryd.func59.trans (congrArg some (by kernel_rfl))⟩
  f8 := ⟨Tryd.f78.name, by decide, Tryd.func78.trans (congrArg some (by kernel_rfl))⟩
  f11 := ⟨Tryd.f86.name, by decide, Tryd.func86.trans (congrArg some (by kernel_rfl))⟩
  t0 := Tryd.underlying0
  a0 := Tryd.isAgg0
  z0 := Tryd.sizeOf0
  v0 := Tryd.zeroValue0
  t24 := Tryd.underlying95
  a24 := Tryd.isAgg95
  z24 := Tryd.sizeOf95
  v24 := Tryd.zeroValue95
  t26 := Tryd.underlying3
  a26 := Tryd.isAgg3
  z26 := Tryd.sizeOf3
  v26 := Tryd.zeroValue3
  t28 := Tryd.underlying98
  a28 := Tryd.isAgg98
  z28 := Tryd.sizeOf98
  v28 := Tryd.zeroValue98
  i26 := by kernel_rfl }
def laySort_ren : Go.Shelf.Ren := ⟨fun | 5 => 79 | 8 => 88 | 7 => 87 | 19 => 99 | 20 => 100 | 10 => 90 | 11 => 91 | 12 => 92 | 13 => 93 | 14 => 94 | 15 => 95 | 16 => 96 | 17 => 97 | 18 => 98 | 30 => 101 | 31 => 102 | 32 => 103 | 33 => 104 | 34 => 105 | 35 => 106 | 40 => 107 | n => n, fun | 23 => 95 | 25 => 3 | 3 => 3 | 32 => 104 | 22 => 95 | 0 => 0 | 44 => 120 | 46 => 50 | 4 => 4 | 36 => 134 | 35 => 133 | 41 => 139 | 5 => 5 | 9 => 9 | 53 => 144 | 57 => 148 | 63 => 150 | 64 => 151 | n => n, fun | n => n⟩
theorem laySort : Go.Proofs.SlLaysM.n5 Tryd.prog laySort_ren := {
  mixed := by kernel_rfl
  f5 := ⟨Tryd.f79.name, by decide, Tryd.func79.trans (congrArg some (by kernel_rfl))⟩
  f7 := ⟨Tryd.f87.name, by decide, Tryd.func87.trans (congrArg some (by kernel_rfl))⟩
  f8 := Tryd.func88.trans (congrArg some (by kernel_rfl))
  f10 := ⟨Tryd.f90.name, by decide, Tryd.func90.trans (congrArg some (by kernel_rfl))⟩
  f11 := ⟨Tryd.f91.name, by decide, Tryd.func91.trans (congrArg some (by kernel_rfl))⟩
  f12 := ⟨Tryd.f92.name, by decide, Tryd.func92.trans (congrArg some (by kernel_rfl))⟩
  f13 := ⟨Tryd.f93.name, by decide, Tryd.func93.trans (congrArg some (by kernel_rfl))⟩
  f14 := ⟨Tryd.f94.name, by decide, Tryd.func94.trans (congrArg some (by kernel_rfl))⟩
  f15 := ⟨Tryd.f95.name, by decide, Tryd.func95.trans (congrArg some (by kernel_rfl))⟩
  f16 := ⟨Tryd.f96.name, by decide, Tryd.func96.trans (congrArg some (by kernel_rfl))⟩
  f17 := ⟨Tryd.f97.name, by decide, Tryd.func97.trans (congrArg some (by kernel_rfl))⟩
  f18 := ⟨Tryd.f98.name, by decide, Tryd.func98.trans (congrArg some (by kernel_rfl))⟩
  f19 := Tryd.func99.trans (congrArg some (by kernel_rfl))
  f20 := Tryd.func100.trans (congrArg some (by kernel_rfl))
  f30 := ⟨Tryd.f101.name, by decide, Tryd.func101.trans (congrArg some (by kernel_rfl))⟩
  f31 := Tryd.func102.trans (congrArg some (by kernel_rfl))
  f32 := Tryd.func103.trans (congrArg some (by kernel_rfl))
  f33 := ⟨Tryd.f104.name, by decide, Tryd.func104.trans (congrArg some (by kernel_rfl))⟩
  f34 := ⟨Tryd.f105.name, by decide, Tryd.func105.trans (congrArg some (by kernel_rfl))⟩
  f35 := ⟨Tryd.f106.name, by decide, Tryd.func106.trans (congrArg some (by kernel_rfl))⟩
  f40 := ⟨Tryd.f107.name, by decide, Tryd.func107.trans (congrArg some (by kernel_rfl))⟩
  t0 := Tryd.underlying0
  a0 := Tryd.isAgg0
  z0 := Tryd.sizeOf0
  v0 := Tryd.zeroValue0
  t3 := Tryd.underlying3
  a3 := Tryd.isAgg3
  z3 := Tryd.sizeOf3
  v3 := Tryd.zeroValue3
  t4 := Tryd.underlying4
  a4 := Tryd.isAgg4
  z4 := Tryd.sizeOf4
  v4 := Tryd.zeroValue4
  t5 := Tryd.underlying5
  a5 := Tryd.isAgg5
  z5 := Tryd.sizeOf5
  v5 := Tryd.zeroValue5
  t9 := Tryd.underlying9
  a9 := Tryd.isAgg9
  z9 := Tryd.sizeOf9
  v9 := Tryd.zeroValue9
  t22 := Tryd.underlying95
  a22 := Tryd.isAgg95
  z22 := Tryd.sizeOf95
  v22 := Tryd.zeroValue95
  t23 := Tryd.underlying95
  a23 := Tryd.isAgg95
  z23 := Tryd.sizeOf95
  v23 := Tryd.zeroValue95
  t25 := Tryd.underlying3
  a25 := Tryd.isAgg3
  z25 := Tryd.sizeOf3
  v25 := Tryd.zeroValue3
  t32 := Tryd.underlying104
  a32 := Tryd.isAgg104
  z32 := Tryd.sizeOf104
  v32 := Tryd.zeroValue104
  t35 := Tryd.underlying133
  a35 := Tryd.isAgg133
  z35 := Tryd.sizeOf133
  v35 := Tryd.zeroValue133
  t36 := Tryd.underlying134
  a36 := Tryd.isAgg134
  z36 := Tryd.sizeOf134
  v36 := Tryd.zeroValue134
  t41 := Tryd.underlying139
  a41 := Tryd.isAgg139
  z41 := Tryd.sizeOf139
  v41 := Tryd.zeroValue139
  t44 := Tryd.underlying120
  a44 := Tryd.isAgg120
  z44 := Tryd.sizeOf120
  v44 := Tryd.zeroValue120
  t46 := Tryd.underlying50
  a46 := Tryd.isAgg50
  z46 := Tryd.sizeOf50
  v46 := Tryd.zeroValue50
  t53 := Tryd.underlying144
  a53 := Tryd.isAgg144
  z53 := Tryd.sizeOf144
  v53 := Tryd.zeroValue144
  t57 := Tryd.underlying148
  a57 := Tryd.isAgg148
  z57 := Tryd.sizeOf148
  v57 := Tryd.zeroValue148
  t63 := Tryd.underlying150
  a63 := Tryd.isAgg150
  z63 := Tryd.sizeOf150
  v63 := Tryd.zeroValue150
  t64 := Tryd.underlying151
  a64 := Tryd.isAgg151
  z64 := Tryd.sizeOf151
  v64 := Tryd.zeroValue151 }
end Go.Proofs.YtimblkkojcbipaaDoor
/- slices.Sorted(maps.Keys(m)) at the disk's map. -/
namespace Go.Proofs.YtimblkkojcbipaaDoor
open Go Go.RowKit Go.Maps Go.Sort Go.Shelf
theorem sorts_lay (m : Nat) : AnyZI.SortsIn Tryd.prog laySorted_ren Fence.wide m :=
  ⟨fun blk off cap ss W hH hblk hsz => callsIn_wide.2 (AnyM.slices_Sort_int laySort blk off cap ss W hH hblk hsz),
   fun p cap W => callsIn_wide.2 (AnyM.slices_Sort_int_none laySort p cap W)⟩
theorem keys_any (mb : Option Nat) (W : World) : Calls Tryd.prog 60 #[.map mb] W fun e w' => e = .returned (.func (.func 80) #[] #[.pointer (some ⟨W.heap.size, 0, none⟩)]) ∧ w' = W.alloc (.cells #[.map mb] 43) :=
  (callsIn_wide (n := 5)).1 (AnyZI.keys_in layKeys Fence.wide 5 trivial rfl mb W)
set_option maxHeartbeats 1000000 in
theorem sorted_keys_any {b nn : Nat} {D0 : DV} (w : World) (hown : w.ownsMap Tryd.prog 3 heldE b nn D0) (hsz : Maps.size D0 ≤ 4096) :
    Calls Tryd.prog 59 #[.func (.func 80) #[] #[.pointer (some ⟨w.heap.size, 0, none⟩)]] (w.alloc (.cells #[.map (some b)] 43)) fun e w' => ∃ (v : Value) (ss : List Int), e = .returned v ∧ ss.Perm (intKeys D0) ∧
      w'.ownsRow (w.heap.size + 1) 3 1 v ss.length ((ss.mergeSort (fun x y => decide (x ≤ y))).map encZ) ∧ Below (w.heap.size + 1) (w.alloc (.cells #[.map (some b)] 43)) w' := by
  refine (callsIn_wide (n := 6)).1 ?_
  have hbl := hown.lt
  have hseq : SeqGives Fence.wide 2 Tryd.prog 80 #[.pointer (some ⟨w.heap.size, 0, none⟩)] encZ (fun ss => ss.Perm (intKeys D0)) (Maps.size D0) (w.alloc (.cells #[.map (some b)] 43)) :=
    AnyZI.keys_gives (ρ := layKeys_ren) { layKeys with } Fence.wide _ trivial rfl (by omega) w.heap.size b nn D0 _ (by simp) (by simp) (by
      obtain ⟨es, clock, hb, Ft, hs, hD⟩ := hown
      exact ⟨es, clock, (Below.heap_alloc _ _ b hbl).trans hb, Ft, hs, hD⟩)
  have cS := AnyZI.sorted_in laySorted Fence.wide 5 trivial trivial trivial trivial rfl (by omega) (sorts_lay _) (enters_of Tryd.func79 (by kernel_rfl) rfl) 80 #[.pointer (some ⟨w.heap.size, 0, none⟩)] trivial (enters_of Tryd.func80 (by kernel_rfl) rfl) _ _ (by unfold maxLen; omega) (by omega) _ hseq
  have cS2 := (callsIn_wide).1 cS
  refine callsIn_wide.2 (cS2.mono ?_)
  rintro e w' ⟨v, ss, rfl, hS, hrow, hnil, hb⟩
  rw [World.size_alloc] at hrow hb
  exact ⟨v, ss, rfl, hS, hrow, hb⟩
end Go.Proofs.YtimblkkojcbipaaDoor
/- Walks of the disk: what a loss of power leaves. -/
namespace Go.Proofs.YtimblkkojcbipaaDoor
open Go Go.RowKit
def DS.crash (D : DS) (K : Nat → Bool) : DS := { D with dur := fun i => if K i then D.last i else D.dur i, wr := fun _ => none }
/-- The array while it is gone through. -/
def Part (w : World) (db n : Nat) (vs : Array Value) (g : Nat → Option Value) (K : Nat → Bool) : Prop :=
  ∃ us : Array Value, w.heap[db]? = some (.cells us 34) ∧ us.size = n ∧ ∀ i, i < n → us[i]? = if K i then (match g i with | some v => some v | none => vs[i]?) else vs[i]?
section
variable {w : World} {sb db mb cap : Nat} {vs : Array Value} {g : Nat → Option Value} {R : Nat → Prop} {D : DS}
set_option maxRecDepth 100000 in
set_option maxHeartbeats 1000000 in
theorem lose_any (h : DiskAt w sb db mb cap vs g R D) (keep at_ : Int) (hk0 : 0 ≤ keep ∧ keep ≤ 18446744073709551615) : Calls Tryd.prog 36 #[.pointer (some ⟨sb, 0, none⟩), .int .u64 keep, .int .i64 (-1), .int .i64 at_] w fun e w' => e = .returned (.tuple #[]) ∧
    ∃ mb' vs' g' K, DiskAt w' sb db mb' cap vs' g' R (D.crash K) ∧ Mv w (Foot sb db mb R) w' (Foot sb db mb' R) := by
  have c2 := h.c2
  have hn := h.n1
  have hsz := h.len
  have harr := h.arr
  have hhead := h.head
  obtain ⟨DM, m1, m2, m3, m4⟩ := h.map
  have hmb := m1.lt
  have hsb := (Array.getElem?_eq_some_iff.1 h.head).1
  have hdb := (Array.getElem?_eq_some_iff.1 h.arr).1
  have hne := h.ne
  have hcn := cnt_le g D.n
  have hky := keys_any (some mb) w
  have _ := hk0
  have hso := sorted_keys_any w m1 (by omega)
  replace h := hide h
  replace m2 := hide m2
  replace m3 := hide m3
  replace m4 := hide m4
  replace m1 := hide m1
  replace harr := hide harr
  replace hne := hide hne
  replace hhead := hide hhead
  go_enter Tryd.func36, Tryd.ntmps36
  go_wp2_with fail
  refine hky.mono ?_
  rintro e w1 ⟨rfl, rfl⟩
  go_wp2_with fail
  refine hso.mono ?_
  rintro e w2 ⟨v, ss, rfl, hperm, hrow, hb⟩
  clear hky hso
  have hU : Upd (fun _ => False) w w2 := (Upd.alloc _ w (.cells #[.map (some mb)] 43)).then (.of_below _ (by rw [World.size_alloc]; exact hb))
  obtain ⟨L, hL⟩ : ∃ L : List Int, L = ss.mergeSort (fun x y => decide (x ≤ y)) := ⟨_, rfl⟩
  have hLm : ∀ x ∈ L, ∃ i : Nat, i < D.n ∧ x = i ∧ ∃ u, g i = some u := by
    intro x hx
    rw [hL] at hx
    have hx2 := hperm.mem_iff.1 ((List.mergeSort_perm ss _).mem_iff.1 hx)
    obtain ⟨es, hD, hko⟩ := m1.out.keysOf
    rw [hD] at hx2
    obtain ⟨p, hp, rfl⟩ := List.mem_map.1 hx2
    obtain ⟨v0, hv0⟩ := hko p hp
    obtain ⟨y, _, hy, _⟩ := Maps.keyOf_i64 Tryd.underlying3 hv0
    have hh : Maps.has DM p.1 = true := by
      rw [hD]
      show es.any (fun q => q.1.sameKey p.1) = true
      rw [List.any_eq_true]
      exact ⟨p, hp, by rw [hy]; simp [Lit.sameKey]⟩
    obtain ⟨i, hi, hki⟩ := m3.out p.1 hh
    refine ⟨i, hi, by rw [hki]; rfl, ?_⟩
    have h4 := (m4.out i hi).1
    rw [← hki, hh] at h4
    exact Option.isSome_iff_exists.1 h4.symm
  have hLl : L.length = ss.length := by rw [hL]; simp
  rw [← hL, ← hLl] at hrow
  clear hL
  obtain ⟨A, c, rfl, hc, hlc⟩ : ∃ A c, v = .slice A L.length c ∧ c ≤ maxLen ∧ L.length ≤ c := by
    rcases hrow.2 with ⟨rfl, h0⟩ | ⟨g, cap, cur, rfl, hb, hg, h1, h2, _⟩
    · rw [h0]; exact ⟨_, _, rfl, Nat.zero_le _, Nat.le_refl _⟩
    · exact ⟨_, _, rfl, h2, h1⟩
  have hci : ∀ (k : Nat) (h : k < L.length), ∃ b, A = some ⟨b, 0, none⟩ ∧ w.heap.size < b ∧ w2.cell? ⟨b, k, none⟩ = some (.int .i64 L[k]) := by
    intro k hk
    rcases hrow.2 with ⟨e, h0⟩ | ⟨g, cap, cur, e, hb, hg, h1, h2, _⟩
    · omega
    · injection e with e1 e2 e3
      subst e1
      refine ⟨g, rfl, by omega, ?_⟩
      have := hrow.cells (g := g) rfl k (.int .i64 L[k]) (by simp [hk])
      rwa [Go.WideShapes.add_plain, Nat.zero_add] at this
  replace hrow := hide hrow
  replace hci := hide hci
  replace hLm := hide hLm
  replace hU := hide hU
  clear hb hperm hLl
  unfold maxLen at hc
  go_wp2_with fail
  go_loopw [17] (fun i wr => ∃ (k : Nat) (K : Nat → Bool), k ≤ L.length ∧ i = .int .i64 k ∧ Part wr db D.n vs g K ∧ Upd (fun k => k = db) w2 wr) (fun i _ => L.length - (intOf i).toNat)
  case atStart => exact ⟨0, fun _ => false, Nat.zero_le _, rfl, ⟨vs, hU.out.heap harr.out id, hsz, fun i hi => by simp⟩, .refl _ _⟩
  case round =>
    obtain ⟨k, K, hk, rfl, hP, hUr⟩ := hrel
    rcases Nat.lt_or_ge k L.length with hlt | hge
    · obtain ⟨b, rfl, hbw, hcx⟩ := hci.out k hlt
      obtain ⟨i, hi, hxi, u, hgu⟩ := hLm.out _ (List.getElem_mem hlt)
      rw [hxi] at hcx
      have hcx' := hUr.cell hcx (fun e => by omega)
      have hkt : ¬ ((k : Int) = -1) := by omega
      replace hP := hide hP
      replace hUr := hide hUr
      replace hxi := hide hxi
      replace hgu := hide hgu
      clear hcx
      have hUw := (hU.out.mono (G := fun k => k = db) fun _ _ h => h.elim).then hUr.out
      have hhd := hUw.heap hhead.out hne.out.2.2.2.1
      have c1' : wr.cell? ⟨sb, 1, none⟩ = some (.slice (some ⟨db, 0, none⟩) D.n cap) := by rw [cell_at hhd]; rfl
      have c2' : wr.cell? ⟨sb, 2, none⟩ = some (.map (some mb)) := by rw [cell_at hhd]; rfl
      have mo : wr.ownsMap Tryd.prog 3 heldE mb (cnt g D.n) DM := by
        obtain ⟨es, clock, hb, r⟩ := m1.out
        exact ⟨es, clock, hUw.heap hb (fun e => hne.out.2.2.2.2.2 e.symm), r⟩
      have hcapn : D.n ≤ cap := by have := h.out.cap; omega
      obtain ⟨us, hus, hsu, hiu⟩ := hP.out
      have hfz := frozen_at hus i
      have hkey := key_int i (by omega)
      obtain ⟨v1, ps1, hlk, hv1⟩ := mo.lookup int_key Tryd.underlying43 (zero_bytes wr) (zd := .held (.slice none 0 0)) (zp := []) rfl hkey
      obtain ⟨v2, ps2, hlk2, hv2⟩ := mo.drew.lookup int_key Tryd.underlying43 (zero_bytes wr.drew) (zd := .held (.slice none 0 0)) (zp := []) rfl hkey
      rw [(m4.out i hi).2, hgu.out] at hv1 hv2
      obtain rfl := heldE_val hv1
      obtain rfl := heldE_val hv2
      obtain ⟨⟨⟨xa, xn, xc⟩, rfl⟩, -⟩ := heldE_inv hv2
      simp only at hlk hlk2 hgu
      have hiu2 : i < us.size := by omega
      have d2 : wr.cell? ⟨db, i, none⟩ = some us[i] := by rw [cell_at hus]; simp [hiu2]
      replace hus := hide hus
      replace hiu := hide hiu
      replace hUw := hide hUw
      replace hhd := hide hhd
      clear mo hv1 hv2
      go_wp2_with fail
      · go_region
        all_goals
          go_wp2_with fail
          go_roundw
          case rel =>
            refine ⟨k + 1, fun j => if j = i then true else K j, hlt, by go_num, ⟨_, heap_set hus.out i _, by simpa using hsu, fun j hj => ?_⟩, hUr.out.then ((Upd.set (F := fun k => k = db) wr (a := ⟨db, i, none⟩) rfl _).drew)⟩
            by_cases e : j = i
            · subst e
              simp [hiu2, hgu.out]
            · have h2 : (us.setIfInBounds i (.slice xa xn xc))[j]? = us[j]? := by simp [show ¬ i = j from fun h => e h.symm]
              rw [h2, hiu.out j hj]
              simp [e]
          case measure => simp [intOf]; omega
      · refine ⟨⟨k + 1, K, hlt, by go_num, hP.out, hUr.out⟩, ?_⟩
        simp [intOf]; omega
    · obtain rfl : k = L.length := by omega
      have hUw := (hU.out.mono (G := fun k => k = db) fun _ _ h => h.elim).then hUr
      have hhd := hUw.heap hhead.out hne.out.2.2.2.1
      have hfg := forget_is hhd
      replace hUw := hide hUw
      go_wp2_with fail
      refine hfg.mono ?_
      rintro e w3 ⟨rfl, hz3, hU3, hm3, hh3⟩
      replace hU3 := hide hU3
      replace hm3 := hide hm3
      replace hh3 := hide hh3
      replace hz3 := hide hz3
      go_wp2_with fail
      go_end0
      obtain ⟨us, hus, hsu, hiu⟩ := hP
      have hD := h.out
      have hN := hD.ne
      have hws := hUw.out.size
      have hr : ∀ {v l}, ArgV w R v (bv l) → ArgV w3 R v (bv l) := fun h => (h.upd hUw.out fun k hk e => hN.2.1 (e ▸ hk)).upd hU3.out fun k hk e => hN.1 (e ▸ hk)
      refine ⟨rfl, wr.heap.size, us, fun _ => none, K, ?_, ?_, fun k hk => ?_⟩
      · exact {
          head := hh3.out
          arr := hU3.out.heap hus (fun e => hN.2.2.2.1 e.symm)
          len := hsu
          cap := hD.cap
          map := MapV.empty _ hm3.out
          dur := fun i hi => by
            have hi1 := hiu i hi
            obtain ⟨a1, v, a2, a3⟩ := hD.dur i hi
            have a4 := hD.wr i hi
            show ((if K i then DS.last D i else D.dur i).length = D.size) ∧ ∃ v, us[i]? = some v ∧ ArgV w3 R v (bv (if K i then DS.last D i else D.dur i))
            rw [hi1]
            cases hK : K i
            · exact ⟨by simpa using a1, v, by simpa using a2, by simpa using hr a3⟩
            · unfold DS.last
              cases hg : g i with
              | none =>
                rw [hg] at a4
                cases hw : D.wr i with
                | none => exact ⟨by simpa using a1, v, by simpa using a2, by simpa using hr a3⟩
                | some l => rw [hw] at a4; exact a4.elim
              | some u =>
                rw [hg] at a4
                cases hw : D.wr i with
                | none => rw [hw] at a4; exact a4.elim
                | some l => rw [hw] at a4; exact ⟨by simpa using a4.1, u, by simp, by simpa using hr a4.2⟩
          wr := fun _ _ => trivial
          ne := ⟨hN.1, hN.2.1, fun hk => by have := (hD.old _ hk).lt; omega, hN.2.2.2.1, by omega, by omega⟩
          old := fun k hk => ((hD.old k hk).upd hUw.out fun e => hN.2.1 (e ▸ hk)).upd hU3.out fun e => hN.1 (e ▸ hk)
          n1 := hD.n1
          s1 := hD.s1
          l1 := hD.l1 }
      · exact (hUw.out.mono fun k _ e => Or.inr (Or.inl e)).then (hU3.out.mono fun k _ e => Or.inl e)
      · rcases hk with e | e | e | e
        · exact .inl (.inl e)
        · exact .inl (.inr (.inl e))
        · exact .inr (by omega)
        · exact .inl (.inr (.inr (.inr e)))
end
end Go.Proofs.YtimblkkojcbipaaDoor
/- Walks of the disk: power fails and comes back. -/
namespace Go.Proofs.YtimblkkojcbipaaDoor
open Go Go.RowKit
def DS.fall (D : DS) (K : Nat → Bool) : DS := { D with dur := fun i => if K i then D.last i else D.dur i, wr := fun _ => none, dead := false, sched := false, left := 0 }
section
variable {w : World} {sb : Nat} {S : Nat → Prop} {D : DS}
set_option maxRecDepth 100000 in
theorem crash_any (h : DiskV w sb S D) (keep at_ : Int) (hk0 : 0 ≤ keep ∧ keep ≤ 18446744073709551615) : Calls Tryd.prog 22 #[.pointer (some ⟨sb, 0, none⟩), .int .u64 keep, .int .i64 (-1), .int .i64 at_] w fun e w' => e = .returned (.tuple #[]) ∧
    ∃ S' K, DiskV w' sb S' (D.fall K) ∧ Mv w S w' S' := by
  obtain ⟨db, mb, cap, vs, g, R, h, rfl⟩ := h
  have hlo := lose_any h keep at_ hk0
  replace h := hide h
  go_enter Tryd.func22, Tryd.ntmps22
  go_wp2_with fail
  refine hlo.mono ?_
  rintro e w1 ⟨rfl, mb', vs', g', K, hD1, hM⟩
  clear hlo
  have f3 := frozen_at hD1.head 3
  have f4 := frozen_at hD1.head 4
  have f5 := frozen_at hD1.head 5
  have c3 := hD1.c3
  have c4 := hD1.c4
  have c5 := hD1.c5
  replace hD1 := hide hD1
  replace hM := hide hM
  go_wp2_with fail
  go_end0
  have hU : Upd (fun k => k = sb) w1 (((w1.setCell ⟨sb, 3, none⟩ (.bool false)).setCell ⟨sb, 4, none⟩ (.bool false)).setCell ⟨sb, 5, none⟩ (.int .i64 0)) := ((Upd.set (F := fun k => k = sb) w1 (a := ⟨sb, 3, none⟩) rfl _).then (.set (F := fun k => k = sb) _ (a := ⟨sb, 4, none⟩) rfl _)).then (.set (F := fun k => k = sb) _ (a := ⟨sb, 5, none⟩) rfl _)
  refine ⟨rfl, _, K, ⟨db, mb', cap, vs', g', R, hD1.out.rehead (D' := D.fall K) hU ?_ rfl rfl rfl rfl (by simp [DS.fall]), rfl⟩, hM.out.1.then (hU.mono fun k _ e => Or.inl e), hM.out.2⟩
  rw [heap_set (heap_set (heap_set hD1.out.head 3 _) 4 _) 5 _]
  simp [DS.fall, DS.crash]
theorem dead_anyV (h : DiskV w sb S D) : Calls Tryd.prog 21 #[.pointer (some ⟨sb, 3, none⟩)] w fun e w' => e = .returned (.bool D.dead) ∧ w = w' := by
  obtain ⟨db, mb, cap, vs, g, R, h, rfl⟩ := h
  exact dead_any h
end
end Go.Proofs.YtimblkkojcbipaaDoor
/- What a loss of power leaves of a log: the records of ahead of a put, or those of behind it. -/
namespace Go.Proofs.YtimblkkojcbipaaDoor
open Go Go.RowKit
/-- All that was written is durable. -/
def Sett (D : DS) : Prop := ∀ j, D.wr j = none
theorem Sett.last {D : DS} (h : Sett D) (j : Nat) : D.last j = D.dur j := by unfold DS.last; rw [h j]; rfl
def DS.laid (D : DS) (f : Nat → List UInt8) : DS := { D with dur := f, wr := fun _ => none, dead := false, sched := false, left := 0 }
theorem fall_laid (D : DS) (K : Nat → Bool) : D.fall K = D.laid fun i => if K i then D.last i else D.dur i := rfl
theorem laid_last (D : DS) (f : Nat → List UInt8) (j : Nat) : (D.laid f).last j = f j := rfl
theorem laid_sett (D : DS) (f : Nat → List UInt8) : Sett (D.laid f) := fun _ => rfl
theorem laid_on (D : DS) (f : Nat → List UInt8) : (D.laid f).on := ⟨rfl, rfl⟩
theorem Holds.congr {D D' : DS} {live : Nat} {x : Ext} {rs : List (List UInt8)} (h : Holds D live x rs) (hn : D'.n = D.n) (hs : D'.size = D.size) (hl : ∀ j, D'.last j = D.last j) : Holds D' live x rs := by
  have hcap : capN D' = capN D := by unfold capN areaN; rw [hn, hs]
  refine ⟨⟨by rw [hn]; exact h.fine.n1, by rw [hs]; exact h.fine.s1, fun i hi => by rw [hl, hs]; exact h.fine.len i (by omega)⟩, ⟨h.lies.area, h.lies.bytes, by rw [hcap]; exact h.lies.fit, h.lies.recs, h.lies.each, by rw [extL_congr x hn fun j _ => hl j]; exact h.lies.data⟩, h.one, by rw [hl]; exact h.mark, by rw [hl]; exact h.slot⟩
theorem Holds.keep {D : DS} {live : Nat} {x : Ext} {rs : List (List UInt8)} (h : Holds D live x rs) {f : Nat → List UInt8} (hlen : ∀ i, i < D.n → (f i).length = D.size) (h0 : f 0 = D.last 0) (h1 : f (1 + live) = D.last (1 + live)) (he : extL (D.laid f) x = extL D x) : Holds (D.laid f) live x rs :=
  ⟨⟨h.fine.n1, h.fine.s1, hlen⟩, ⟨h.lies.area, h.lies.bytes, h.lies.fit, h.lies.recs, h.lies.each, by rw [he]; exact h.lies.data⟩, h.one, by rw [laid_last, h0]; exact h.mark, by rw [laid_last, h1]; exact h.slot⟩
-- What one operation leaves, with power or without.
theorem write_cases (D : DS) (i : Nat) (l : List UInt8) : (D.write i l).dur = D.dur ∧ ∀ j, (D.write i l).last j = D.last j ∨ (j = i ∧ (D.write i l).last j = l) := by
  unfold DS.write
  split
  · exact ⟨DS.draw_dur D, fun j => .inl (by unfold DS.last; rw [DS.draw_dur, DS.draw_wr])⟩
  · refine ⟨DS.draw_dur D, fun j => ?_⟩
    unfold DS.last setAt
    simp only [DS.draw_dur, DS.draw_wr]
    by_cases e : j = i
    · exact .inr ⟨e, by simp [e]⟩
    · exact .inl (by simp [e])
theorem writesAt_cases : ∀ (cs : List (List UInt8)) (D : DS) (i : Nat), (writesAt D i cs).dur = D.dur ∧ ∀ j, (writesAt D i cs).last j = D.last j ∨ (i ≤ j ∧ ∃ c, cs[j - i]? = some c ∧ (writesAt D i cs).last j = pad D.size c)
  | [], D, i => ⟨rfl, fun j => .inl rfl⟩
  | c :: cs, D, i => by
    obtain ⟨a1, a2⟩ := write_cases D i (pad D.size c)
    obtain ⟨b1, b2⟩ := writesAt_cases cs (D.write i (pad D.size c)) (i + 1)
    refine ⟨b1.trans a1, fun j => ?_⟩
    show (writesAt (D.write i (pad D.size c)) (i + 1) cs).last j = _ ∨ _
    rcases b2 j with h | ⟨h1, c', h2, h3⟩
    · rcases a2 j with h' | ⟨h4, h5⟩
      · exact .inl (h.trans h')
      · exact .inr ⟨by omega, c, by rw [h4, Nat.sub_self]; rfl, h.trans h5⟩
    · refine .inr ⟨by omega, c', ?_, ?_⟩
      · rw [show j - i = (j - (i + 1)) + 1 by omega, List.getElem?_cons_succ]
        exact h2
      · rw [DS.write_size] at h3
        exact h3
theorem flush_cases (D : DS) : (D.flush.dead = true ∧ D.flush.dur = D.dur ∧ ∀ j, D.flush.last j = D.last j) ∨ (D.flush.dead = false ∧ Sett D.flush ∧ ∀ j, D.flush.last j = D.last j) := by
  unfold DS.flush
  split
  · rename_i h
    exact .inl ⟨h, DS.draw_dur D, fun j => by unfold DS.last; rw [DS.draw_dur, DS.draw_wr]⟩
  · rename_i h
    refine .inr ⟨by simpa using h, fun _ => rfl, fun j => ?_⟩
    unfold DS.last
    simp only [DS.draw_dur, DS.draw_wr]
    rfl
theorem write_dead {D : DS} (h : D.dead = true) (i : Nat) (l : List UInt8) : D.write i l = D := by
  unfold DS.write
  rw [DS.draw_dead h, if_pos h]
theorem flush_dead {D : DS} (h : D.dead = true) : D.flush = D := by
  unfold DS.flush
  rw [DS.draw_dead h, if_pos h]
section
variable {D : DS} {live : Nat} {y : Ext} {ys : List (List UInt8)}
/-- What may stand in a sector ahead of the mark's change. -/
def Old (D : DS) (live : Nat) (y : Ext) (ys : List (List UInt8)) (j : Nat) (c : List UInt8) : Prop :=
  c = D.last j ∨ (secN D y.area y.bytes ≤ j ∧ ∃ c', (chunkL D.size (extB D y (frames ys)))[j - secN D y.area y.bytes]? = some c' ∧ c = pad D.size c') ∨ (j = 1 + (1 - live) ∧ c = pad D.size (slotL (y.plus ys)))
/-- What stands in the sectors behind the put. -/
def zl (D : DS) (live : Nat) (y : Ext) (ys : List (List UInt8)) (j : Nat) : List UInt8 :=
  if j = 0 then pad D.size (markL (1 - live)) else if j = 1 + (1 - live) then pad D.size (slotL (y.plus ys)) else if secN D y.area y.bytes ≤ j then (match (chunkL D.size (extB D y (frames ys)))[j - secN D y.area y.bytes]? with | some c => pad D.size c | none => D.last j) else D.last j
theorem put_zl (h : (D.put live y ys).dead = false) (j : Nat) : (D.put live y ys).last j = zl D live y ys j := by
  obtain ⟨h1, h2⟩ := put_last h
  obtain ⟨-, h3⟩ := writesAt_alive _ D _ h1
  rw [h2]
  unfold zl
  split
  · rfl
  · split
    · rfl
    · exact h3 j
theorem put_sett (h : (D.put live y ys).dead = false) : Sett (D.put live y ys) := by
  unfold DS.put at h ⊢
  rcases flush_cases ((((D.extend y (frames ys)).write (1 + (1 - live)) (pad D.size (slotL (y.plus ys)))).flush).write 0 (pad D.size (markL (1 - live)))) with h1 | h1
  · rw [h1.1] at h
    cases h
  · exact h1.2.1
theorem put_fall (hS : Sett D) (hP : (D.put live y ys).dead = true) (K : Nat → Bool) :
    (∀ j, Old D live y ys j (if K j then (D.put live y ys).last j else (D.put live y ys).dur j)) ∨ ∀ j, (if K j then (D.put live y ys).last j else (D.put live y ys).dur j) = zl D live y ys j := by
  obtain ⟨E, hE⟩ : ∃ E, E = D.extend y (frames ys) := ⟨_, rfl⟩
  obtain ⟨G, hG⟩ : ∃ G, G = E.write (1 + (1 - live)) (pad D.size (slotL (y.plus ys))) := ⟨_, rfl⟩
  obtain ⟨e1, e2⟩ : E.dur = D.dur ∧ ∀ j, E.last j = D.last j ∨ _ := by rw [hE]; exact writesAt_cases _ D _
  obtain ⟨g1, g2⟩ := write_cases E (1 + (1 - live)) (pad D.size (slotL (y.plus ys)))
  rw [← hG] at g1 g2
  have hput : D.put live y ys = ((G.flush).write 0 (pad D.size (markL (1 - live)))).flush := by rw [hG, hE]; rfl
  have hGold : ∀ j, Old D live y ys j (G.last j) := fun j => by
    rcases g2 j with h | ⟨h1, h2⟩
    · rw [h]
      rcases e2 j with h | ⟨h1, c, h2, h3⟩
      · exact .inl h
      · exact .inr (.inl ⟨h1, c, h2, by rw [hE]; exact h3⟩)
    · exact .inr (.inr ⟨h1, h2⟩)
  have hDold : ∀ j, Old D live y ys j (D.dur j) := fun j => .inl (hS.last j).symm
  rcases flush_cases G with ⟨f0, f1, f2⟩ | ⟨f0, f1, f2⟩
  · have hp : D.put live y ys = G.flush := by rw [hput, write_dead f0, flush_dead f0]
    refine .inl fun j => ?_
    rw [hp]
    split
    · rw [f2]; exact hGold j
    · rw [f1, g1, e1]; exact hDold j
  · obtain ⟨M, hM⟩ : ∃ M, M = G.flush.write 0 (pad D.size (markL (1 - live))) := ⟨_, rfl⟩
    obtain ⟨m1, m2⟩ := write_cases G.flush 0 (pad D.size (markL (1 - live)))
    rw [← hM] at m1 m2 hput
    rcases flush_cases M with ⟨p0, p1, p2⟩ | ⟨p0, _, _⟩
    · -- the first flush is done: all but the mark is durable
      have hGd : G.flush.dur = fun j => G.last j := funext fun j => by rw [← f1.last j, f2]
      have hc : ∀ j, (if K j then (D.put live y ys).last j else (D.put live y ys).dur j) = G.last j ∨ (j = 0 ∧ (if K j then (D.put live y ys).last j else (D.put live y ys).dur j) = pad D.size (markL (1 - live))) := fun j => by
        rw [hput]
        split
        · rw [p2]
          rcases m2 j with h | h
          · exact .inl (h.trans (f2 j))
          · exact .inr h
        · rw [p1, m1, hGd]; exact .inl rfl
      rcases hc 0 with h0 | ⟨_, h0⟩
      · refine .inl fun j => ?_
        rcases hc j with h | ⟨rfl, h⟩
        · rw [h]; exact hGold j
        · rw [h0]; exact hGold 0
      · refine .inr fun j => ?_
        by_cases e : j = 0
        · subst e
          rw [h0]
          unfold zl
          rw [if_pos rfl]
        · rcases hc j with h | ⟨e', _⟩
          · rw [h]
            unfold zl
            rw [if_neg e]
            obtain ⟨a1, a2⟩ := flush_alive f0
            rw [hG] at a1
            obtain ⟨b1, b2⟩ := write_alive a1
            rw [hG, b2]
            split
            · rfl
            · rw [hE] at b1 ⊢
              exact (writesAt_alive _ D _ b1).2 j
          · exact absurd e' e
    · rw [hput, p0] at hP
      cases hP
end
end Go.Proofs.YtimblkkojcbipaaDoor
/- A put that the power ends leaves the records of ahead of it, or of behind it. -/
namespace Go.Proofs.YtimblkkojcbipaaDoor
open Go Go.RowKit
section
variable {D : DS} {live : Nat} {x y : Ext} {rs ys : List (List UInt8)} {f : Nat → List UInt8}
theorem secN_ge (D : DS) (a t : Nat) : 3 ≤ secN D a t := Nat.le_trans (Nat.le_add_right 3 _) (Nat.le_add_right _ _)
theorem old_low {j : Nat} (h : Old D live y ys j (f j)) (hj : j < 3) (hne : j ≠ 1 + (1 - live)) : f j = D.last j := by
  rcases h with h | ⟨h, _⟩ | ⟨h, _⟩
  · exact h
  · exfalso
    have := secN_ge D y.area y.bytes
    omega
  · exact absurd h hne
theorem old_len (hf : Fine D) (h : ∀ j, Old D live y ys j (f j)) (i : Nat) (hi : i < D.n) : (f i).length = D.size := by
  have hs := hf.s1
  rcases h i with h | ⟨_, c, h, e⟩ | ⟨_, e⟩
  · rw [h]; exact hf.len i hi
  · rw [e]
    exact pad_len _ _ (chunkL_mem' (by omega) (List.mem_of_getElem? h))
  · rw [e]
    exact pad_len _ _ (by rw [slotL_len]; omega)
theorem old_mid {j : Nat} (h : Old D live y ys j (f j)) (hj : 3 ≤ j) (hlt : j < secN D y.area y.bytes) : f j = D.last j := by
  rcases h with h | ⟨h, _⟩ | ⟨h, _⟩
  · exact h
  · omega
  · omega
theorem ext_commit (hH : Holds D live x rs) (h : ∀ j, Old D live x ys j (f j)) : extL (D.laid f) x = extL D x := by
  have hf := hH.fine
  have hfl : Fine (D.laid f) := ⟨hf.n1, hf.s1, fun i hi => old_len (D := D) hf h i hi⟩
  have h0 : 0 < D.size := by have := hf.s1; omega
  rw [ext_part hfl hH.lies.area hH.lies.fit, ext_part hf hH.lies.area hH.lies.fit]
  have e1 : bytesOf (D.laid f) x.area (x.bytes / D.size) = bytesOf D x.area (x.bytes / D.size) := by
    unfold bytesOf
    refine flat_congr fun j hj => ?_
    show f (3 + x.area * areaN D + j) = _
    exact old_mid (h _) (by omega) (by rw [secN_eq]; omega)
  show bytesOf (D.laid f) x.area (x.bytes / D.size) ++ (f (secN D x.area x.bytes)).take (x.bytes % D.size) = _
  rw [e1]
  congr 1
  obtain ⟨m, hm⟩ : ∃ m, m = x.bytes % D.size := ⟨_, rfl⟩
  rw [← hm]
  rcases Nat.eq_zero_or_pos m with hm0 | hm0
  · rw [hm0]; simp
  · have hml : m < D.size := by rw [hm]; exact Nat.mod_lt _ h0
    have hin := (ext_end hf hH.lies.area hH.lies.fit (by rw [← hm]; exact hm0)).2
    have hll := hf.len _ hin
    rcases h (secN D x.area x.bytes) with h1 | ⟨_, c, h1, e⟩ | ⟨h1, _⟩
    · rw [h1]
    · rw [Nat.sub_self] at h1
      have hB : extB D x (frames ys) = (D.last (secN D x.area x.bytes)).take m ++ frames ys := by unfold extB; rw [hm]
      have hBl : ((D.last (secN D x.area x.bytes)).take m).length = m := by rw [List.length_take]; omega
      rw [hB, chunkL_cons h0 (by rw [List.length_append]; omega), List.getElem?_cons_zero] at h1
      obtain rfl := Option.some.inj h1
      rw [e]
      unfold pad
      rw [List.take_append_of_le_length (by rw [List.length_take, List.length_append]; omega), List.take_take, Nat.min_eq_left (by omega), List.take_append_of_le_length (by omega), List.take_take, Nat.min_self]
    · have := secN_ge D x.area x.bytes
      omega
theorem ext_reset (hH : Holds D live x rs) (hfit : (frames ys).length ≤ capN D) (h : ∀ j, Old D live ⟨1 - x.area, 0, 0⟩ ys j (f j)) : extL (D.laid f) x = extL D x := by
  have hf := hH.fine
  have ha := hH.lies.area
  have h0 : 0 < D.size := by have := hf.s1; omega
  unfold extL
  congr 1
  show (List.range (areaN D)).flatMap _ = (List.range (areaN D)).flatMap _
  refine flat_congr fun t ht => ?_
  show f (3 + x.area * areaN D + t) = _
  rcases h (3 + x.area * areaN D + t) with h1 | ⟨h2, c, h1, _⟩ | ⟨h1, _⟩
  · exact h1
  · exfalso
    have hB : extB D ⟨1 - x.area, 0, 0⟩ (frames ys) = frames ys := by unfold extB; simp
    have hs : secN D (1 - x.area) 0 = 3 + (1 - x.area) * areaN D := by rw [secN_eq]; simp
    simp only at h1 h2
    rw [hs] at h2
    rw [hB, hs] at h1
    have hle := chunkL_le D.size (areaN D) (frames ys) h0 hfit
    have hlt := (List.getElem?_eq_some_iff.1 h1).1
    rcases Nat.le_one_iff_eq_zero_or_eq_one.1 ha with e | e
    · rw [e] at h2
      simp at h2
      omega
    · rw [e] at hlt
      simp at hlt
      omega
  · omega
theorem old_holds (hH : Holds D live x rs) (h : ∀ j, Old D live y ys j (f j)) (he : extL (D.laid f) x = extL D x) : Holds (D.laid f) live x rs := by
  have hl := hH.one
  exact hH.keep (old_len hH.fine h) (old_low (h 0) (by omega) (by omega)) (old_low (h (1 + live)) (by omega) (by omega)) he
/-- The put whole, whatever the power. -/
theorem zl_holds {rs0 : List (List UInt8)} (hf : Fine D) (hy : Lies D y rs0) (heach : ∀ r ∈ ys, r.length ≤ 1048576) (hfit : y.bytes + (frames ys).length ≤ capN D) (h : ∀ j, f j = zl D live y ys j) : Holds (D.laid f) (1 - live) (y.plus ys) (rs0 ++ ys) := by
  obtain ⟨Z, hZ⟩ : ∃ Z : DS, Z = { D with dead := false, sched := false } := ⟨_, rfl⟩
  have hon : Z.on := by rw [hZ]; exact ⟨rfl, rfl⟩
  have hfZ : Fine Z := by rw [hZ]; exact ⟨hf.n1, hf.s1, hf.len⟩
  have hyZ : Lies Z y rs0 := by rw [hZ]; exact ⟨hy.area, hy.bytes, hy.fit, hy.recs, hy.each, hy.data⟩
  have hal := hon.put live y ys
  have hp := put_holds hfZ hyZ heach (by rw [hZ]; exact hfit) hal.1 (live := live)
  refine hp.congr (by rw [put_n, hZ]; rfl) (by rw [put_size, hZ]; rfl) fun j => ?_
  rw [put_zl hal.1, laid_last, h, hZ]
  rfl
/-- Commit, cut. -/
theorem commit_fall (hS : Sett D) (hH : Holds D live x rs) (heach : ∀ r ∈ ys, r.length ≤ 1048576) (hfit : x.bytes + (frames ys).length ≤ capN D) (hP : (D.put live x ys).dead = true) (K : Nat → Bool) :
    Holds ((D.put live x ys).fall K) live x rs ∨ Holds ((D.put live x ys).fall K) (1 - live) (x.plus ys) (rs ++ ys) := by
  have e : (D.put live x ys).fall K = D.laid fun j => if K j then (D.put live x ys).last j else (D.put live x ys).dur j := by
    unfold DS.fall DS.laid
    rw [put_n, put_size]
  rw [e]
  rcases put_fall hS hP K with h | h
  · exact .inl (old_holds hH h (ext_commit hH h))
  · exact .inr (zl_holds hH.fine hH.lies heach hfit h)
/-- Reset, cut. -/
theorem reset_fall (hS : Sett D) (hH : Holds D live x rs) (heach : ∀ r ∈ ys, r.length ≤ 1048576) (hfit : (frames ys).length ≤ capN D) (hP : (D.put live ⟨1 - x.area, 0, 0⟩ ys).dead = true) (K : Nat → Bool) :
    Holds ((D.put live ⟨1 - x.area, 0, 0⟩ ys).fall K) live x rs ∨ Holds ((D.put live ⟨1 - x.area, 0, 0⟩ ys).fall K) (1 - live) (Ext.plus ⟨1 - x.area, 0, 0⟩ ys) ys := by
  have e : (D.put live ⟨1 - x.area, 0, 0⟩ ys).fall K = D.laid fun j => if K j then (D.put live ⟨1 - x.area, 0, 0⟩ ys).last j else (D.put live ⟨1 - x.area, 0, 0⟩ ys).dur j := by
    unfold DS.fall DS.laid
    rw [put_n, put_size]
  rw [e]
  rcases put_fall hS hP K with h | h
  · exact .inl (old_holds hH h (ext_reset hH hfit h))
  · have := zl_holds (rs0 := []) hH.fine (lies_nil (Nat.sub_le 1 x.area)) heach (by simpa using hfit) h
    exact .inr (by simpa using this)
/-- A settled disk that power leaves, or not. -/
theorem sett_fall (hS : Sett D) (hH : Holds D live x rs) (K : Nat → Bool) : Holds (D.fall K) live x rs := by
  refine hH.congr rfl rfl fun j => ?_
  rw [fall_laid, laid_last]
  split
  · rfl
  · exact (hS.last j).symm
theorem sett_flush (hS : Sett D) (hH : Holds D live x rs) : Sett D.flush ∧ Holds D.flush live x rs := by
  rcases flush_cases D with ⟨h0, h1, h2⟩ | ⟨h0, h1, h2⟩
  · have hw : Sett D.flush := by
      unfold DS.flush at h0 ⊢
      split
      · exact fun j => by rw [DS.draw_wr]; exact hS j
      · exact fun _ => rfl
    exact ⟨hw, hH.congr (DS.flush_n D) (DS.flush_size D) h2⟩
  · exact ⟨h1, hH.congr (DS.flush_n D) (DS.flush_size D) h2⟩
end
end Go.Proofs.YtimblkkojcbipaaDoor
