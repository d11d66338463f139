/- Parts that came in, opened. -/
import Derived.Test.YtajpgkedlajjdaaLight
import Derived.Test.YtajpgkedlajjdaaOpen
import Derived.Deep.Slices
import Derived.ChangeSame
namespace Go.Proofs.Ytajpgkedlajjdaa
open Go Go.RowKit Go.ChangeShapes Go.WideShapes Go.ChangeAt Go.Deep
section
variable {H : Type} {enc : TypeId × Value → H} {w : World} {base : Nat} {spare : Nat → Bool} {held : Bool}

theorem flat_len {α : Type} (f : α → List Value) (k : Nat) (hf : ∀ a, (f a).length = k) : ∀ l : List α, (l.map f).flatten.length = k * l.length
  | [] => by simp
  | b :: l => by rw [List.map_cons, List.flatten_cons, List.length_append, hf, flat_len f k hf l, List.length_cons, Nat.mul_succ]; omega
/-- A slice of anything that came in: each element's cells read as the element. -/
theorem open_any {α : Type} (f : α → List Value) (k : Nat) (ok : α → Prop) {t e : TypeId} {cs : List Value} {fuel : Nat} {x : DataW H × List MemPlace} (ht : Try.prog.underlying t = some (.slice e)) (hk : Try.prog.cellsOf e = k) (hpos : 0 < k) (hf : ∀ a, (f a).length = k)
    (hel : ∀ {n : Nat} {cs : List Value} {x : DataW H × List MemPlace}, DataW.trod enc Try.prog w base spare held n e cs = some x → ∃ a, cs = f a ∧ ok a)
    (h : DataW.trod enc Try.prog w base spare held fuel t cs = some x) :
    ∃ (v : Value) (l : List α), cs = [v] ∧ ArgN w (· < w.heap.size) v l.length (l.map f).flatten ∧ ∀ a ∈ l, ok a := by
  rcases open_slice ht h with ⟨h0, _⟩ | ⟨a, len, cap, m, n, D, Pl, rfl, hb, hl, hm, hmm, hx, hi⟩
  · exact ⟨_, [], h0, ⟨none, 0, rfl, Nat.le_refl _, Nat.zero_le _, .inl rfl⟩, fun _ h => by cases h⟩
  · have hlm : len ≤ m := by rw [hmm]; split <;> omega
    have hg : ∀ i, i < len → ∃ b : α, ok b ∧ ∀ j, j < k → w.cell? (a.add (i * k + j)) = (f b)[j]? := by
      intro i hi2
      obtain ⟨cs', hc, ht'⟩ := hi i (by omega)
      obtain ⟨b, rfl, hob⟩ := hel ht'
      obtain ⟨_, _, h3⟩ := World.cells?_some hc
      refine ⟨b, hob, fun j hj => ?_⟩
      have := h3 j (by omega)
      rw [hk, Go.Deep.add_add] at this
      exact this
    obtain ⟨l, hll, hlp⟩ : ∃ l : List α, l.length = len ∧ ∀ (i : Nat) (h : i < l.length), ok l[i] ∧ ∀ j, j < k → w.cell? (a.add (i * k + j)) = (f l[i])[j]? := by
      clear hi hx hmm hlm h hl
      induction len with
      | zero => exact ⟨[], rfl, fun i h => by simp at h⟩
      | succ len ih =>
        obtain ⟨l, h1, h2⟩ := ih fun i hi => hg i (by omega)
        obtain ⟨b, hb1, hb2⟩ := hg len (by omega)
        refine ⟨l ++ [b], by simp [h1], fun i hi => ?_⟩
        rcases Nat.lt_or_ge i l.length with hlt | hge
        · rw [List.getElem_append_left hlt]; exact h2 i hlt
        · have : i = len := by simp [h1] at hi; omega
          subst this
          rw [List.getElem_append_right (by omega)]
          simp only [h1, Nat.sub_self, List.getElem_cons_zero]
          exact ⟨hb1, hb2⟩
    subst hll
    refine ⟨_, l, rfl, ⟨some a, cap, rfl, hl, hm, ?_⟩, fun b hb => ?_⟩
    · rcases Nat.eq_zero_or_pos l.length with h0 | h0
      · left
        rw [List.eq_nil_of_length_eq_zero h0]; rfl
      · right
        have hcell : ∀ i u, (l.map f).flatten[i]? = some u → w.cell? (a.add i) = some u := by
          intro i u hu
          have hi1 : i / k < l.length := by
            rcases Nat.lt_or_ge (i / k) l.length with h1 | h1
            · exact h1
            · exfalso
              rw [List.getElem?_eq_none (by
                rw [flat_len f k hf]
                have := Nat.mul_le_mul_left k h1
                have := Nat.div_add_mod i k
                omega)] at hu
              cases hu
          have hi2 := Nat.mod_lt i hpos
          have e : i = k * (i / k) + i % k := (Nat.div_add_mod i k).symm
          rw [e, flat_get f k hf l _ hi1 _ hi2] at hu
          have := (hlp _ hi1).2 _ hi2
          rw [Nat.mul_comm] at this
          rw [e, this]; exact hu
        have hsl := sl_of_at hcell
        rcases hsl with h1 | ⟨b, o, h1, h2, h3⟩
        · exfalso
          have h4 := flat_get f k hf l 0 h0 0 hpos
          rw [h1, List.getElem?_nil] at h4
          have := List.getElem?_eq_none_iff.1 h4.symm
          rw [hf] at this
          omega
        · exact ⟨b, o, h1, h2, h3⟩
    · obtain ⟨i, hi, rfl⟩ := List.getElem_of_mem hb
      exact (hlp i hi).1

theorem three {α : Type} {l : List α} (h : l.length = 3) : ∃ a b c, l = [a, b, c] := by
  match l, h with
  | [a, b, c], _ => exact ⟨a, b, c, rfl⟩
theorem two_ {α : Type} {l : List α} (h : l.length = 2) : ∃ a b, l = [a, b] := by
  match l, h with
  | [a, b], _ => exact ⟨a, b, rfl⟩
theorem four {α : Type} {l : List α} (h : l.length = 4) : ∃ a b c d, l = [a, b, c, d] := by
  match l, h with
  | [a, b, c, d], _ => exact ⟨a, b, c, d, rfl⟩
theorem cB : Try.prog.cellsOf 4 = 1 := by kernel_rfl
theorem cI : Try.prog.cellsOf 2 = 1 := by kernel_rfl
theorem cN : Try.prog.cellsOf 3 = 1 := by kernel_rfl
theorem cS : Try.prog.cellsOf 9 = 1 := by kernel_rfl
theorem cU : Try.prog.cellsOf 5 = 1 := by kernel_rfl
theorem cV : Try.prog.cellsOf 29 = 1 := by kernel_rfl
theorem cIv : Try.prog.cellsOf 32 = 3 := by kernel_rfl
theorem cAl : Try.prog.cellsOf 62 = 2 := by kernel_rfl
theorem cNm : Try.prog.cellsOf 94 = 4 := by kernel_rfl
theorem cSm : Try.prog.cellsOf 35 = 6 := by kernel_rfl
theorem cPt : Try.prog.cellsOf 37 = 9 := by kernel_rfl
theorem cSA : Try.prog.cellsOf 30 = 1 := by kernel_rfl
theorem cSN : Try.prog.cellsOf 33 = 1 := by kernel_rfl

theorem trod_ival {n : Nat} {cs : List Value} {x : DataW H × List MemPlace} (h : DataW.trod enc Try.prog w base spare held n 32 cs = some x) : ∃ v : IvalD, cs = v.cells ∧ v.ok := by
  obtain ⟨xs, n', rfl, -, hlen, hxl, hf⟩ := DataW.trod_struct Try.underlying32 h
  rw [cIv] at hlen
  obtain ⟨a, b, c, rfl⟩ := three hlen
  obtain ⟨x0, x1, x2, rfl⟩ := three hxl
  have h0 := hf 0 _ rfl
  have h1 := hf 1 _ rfl
  have h2 := hf 2 _ rfl
  simp only [List.getElem_toArray, List.getElem_cons_zero, List.getElem_cons_succ, cB, cI] at h0 h1 h2
  obtain ⟨b0, e0, -⟩ := DataW.trod_bool Try.underlying4 h0
  obtain ⟨b1, e1, -, w1⟩ := DataW.trod_int Try.underlying2 h1
  obtain ⟨b2, e2, -, w2⟩ := DataW.trod_int Try.underlying2 h2
  simp at e0 e1 e2
  subst e0 e1 e2
  exact ⟨⟨b0, b1, b2⟩, rfl, bounds_i64 w1, bounds_i64 w2⟩
theorem trod_alarm {n : Nat} {cs : List Value} {x : DataW H × List MemPlace} (h : DataW.trod enc Try.prog w base spare held n 62 cs = some x) : ∃ v : AlarmD, cs = v.cells ∧ v.ok := by
  obtain ⟨xs, n', rfl, -, hlen, hxl, hf⟩ := DataW.trod_struct Try.underlying62 h
  rw [cAl] at hlen
  obtain ⟨a, b, rfl⟩ := two_ hlen
  obtain ⟨x0, x1, rfl⟩ := two_ hxl
  have h0 := hf 0 _ rfl
  have h1 := hf 1 _ rfl
  simp only [List.getElem_toArray, List.getElem_cons_zero, List.getElem_cons_succ, cN] at h0 h1
  obtain ⟨b0, e0, -, w0⟩ := DataW.trod_int Try.underlying3 h0
  obtain ⟨b1, e1, -, w1⟩ := DataW.trod_int Try.underlying3 h1
  simp at e0 e1
  subst e0 e1
  exact ⟨⟨b0, b1⟩, rfl, bounds_i64 w0, bounds_i64 w1⟩
theorem trod_named {n : Nat} {cs : List Value} {x : DataW H × List MemPlace} (h : DataW.trod enc Try.prog w base spare held n 94 cs = some x) : ∃ v : NamedD, cs = v.cells ∧ v.v.ok := by
  obtain ⟨xs, n', rfl, -, hlen, hxl, hf⟩ := DataW.trod_struct Try.underlying94 h
  rw [cNm] at hlen
  obtain ⟨a, b, c, d, rfl⟩ := four hlen
  obtain ⟨x0, x1, rfl⟩ := two_ hxl
  have h0 := hf 0 _ rfl
  have h1 := hf 1 _ rfl
  simp only [List.getElem_toArray, List.getElem_cons_zero, List.getElem_cons_succ, cS, cIv] at h0 h1
  obtain ⟨s0, e0, -, -⟩ := DataW.trod_string Try.underlying9 h0
  obtain ⟨v, e1, hv⟩ := trod_ival h1
  simp at e0 e1
  subst e0
  exact ⟨⟨s0, v⟩, by rw [e1]; rfl, hv⟩
set_option maxRecDepth 100000 in
theorem trod_part {n : Nat} {cs : List Value} {x : DataW H × List MemPlace} (h : DataW.trod enc Try.prog w base spare held n 37 cs = some x) : ∃ q : PartD × Value × Value, cs = partCells q ∧ PartIn w w.heap.size q ∧ q.1.ok := by
  obtain ⟨xs, n', rfl, -, hlen, hxl, hf⟩ := DataW.trod_struct Try.underlying37 h
  rw [cPt] at hlen
  obtain ⟨x0, x1, x2, x3, rfl⟩ := four hxl
  have h0 := hf 0 _ rfl
  have h1 := hf 1 _ rfl
  have h2 := hf 2 _ rfl
  have h3 := hf 3 _ rfl
  simp only [List.getElem_toArray, List.getElem_cons_zero, List.getElem_cons_succ, cS, cU, cV, cSm] at h0 h1 h2 h3
  match cs, hlen with
  | [c0, c1, c2, c3, c4, c5, c6, c7, c8], _ =>
    obtain ⟨k0, e0, -, w0⟩ := DataW.trod_int Try.underlying5 h0
    obtain ⟨k1, e1, -, w1⟩ := DataW.trod_int Try.underlying29 h1
    obtain ⟨s2, e2, -, -⟩ := DataW.trod_string Try.underlying9 h2
    replace h3 : DataW.trod enc Try.prog w base spare held n' 35 [c3, c4, c5, c6, c7, c8] = some x3 := h3
    obtain ⟨ys, n2, -, -, hlen3, hyl, hg⟩ := DataW.trod_struct Try.underlying35 h3
    obtain ⟨y0, y1, y2, y3, rfl⟩ := four hyl
    have g0 := hg 0 _ rfl
    have g1 := hg 1 _ rfl
    have g2 := hg 2 _ rfl
    have g3 := hg 3 _ rfl
    simp only [List.getElem_toArray, List.getElem_cons_zero, List.getElem_cons_succ, cB, cIv, cSA, cSN] at g0 g1 g2 g3
    obtain ⟨va, al, ea, hva, hoa⟩ := open_any AlarmD.cells 2 AlarmD.ok Try.underlying30 cAl (by decide) (fun _ => rfl) trod_alarm g0
    obtain ⟨b1, eb, -⟩ := DataW.trod_bool Try.underlying4 g1
    obtain ⟨iv, ei, hiv⟩ := trod_ival g2
    obtain ⟨vm, md, em, hvm, hom⟩ := open_any NamedD.cells 4 (fun d => d.v.ok) Try.underlying33 cNm (by decide) (fun _ => rfl) trod_named g3
    have hk0 := bounds_u8 w0
    have hk1 := bounds_u64 w1
    obtain ⟨q0, rfl⟩ := Int.eq_ofNat_of_zero_le hk0.1
    obtain ⟨q1, rfl⟩ := Int.eq_ofNat_of_zero_le hk1.1
    simp [IvalD.cells] at e0 e1 e2 ea eb ei em
    obtain ⟨ei1, ei2, ei3⟩ := ei
    subst e0 e1 e2 ea eb ei1 ei2 ei3 em
    exact ⟨(⟨q0, q1, s2, ⟨al, b1, iv, md⟩⟩, c3, c8), rfl, ⟨hva, hvm⟩, by have := hk0.2; show q0 < 256; omega, by have := hk1.2; show q1 < 18446744073709551616; omega, hoa, hiv, hom⟩

set_option maxRecDepth 100000 in
/-- A []Part that came in. -/
theorem open_partsV {base' : Nat} {v : Value} {d : DataW H} {p : List MemPlace} (hval : Value.okWide Try.prog w .any base' 22 v) (h : DataW.Trod enc Try.prog w base spare held 22 v d p) : ∃ qs, PartsV w w.heap.size v qs ∧ ∀ q ∈ qs, q.1.ok := by
  obtain ⟨a0, len, cap, rfl⟩ := okWide_slice Try.underlying22 hval
  obtain ⟨fuel, hf⟩ := h
  obtain ⟨v', qs, ev, hv, hq⟩ := open_any partCells 9 (fun q => PartIn w w.heap.size q ∧ q.1.ok) Try.underlying22 cPt (by decide) partCells_len trod_part hf
  have : Value.slice a0 len cap = v' := by simpa [Value.cells] using ev
  subst this
  exact ⟨qs, ⟨hv, fun q h => (hq q h).1⟩, fun q h => (hq q h).2⟩
end
end Go.Proofs.Ytajpgkedlajjdaa
