/- Walks of the document's reader: summaries (the math, and what the walk carries). -/
import Derived.Test.YtajpgkedlajjdaaRefRead6
import Derived.Test.YtajpgkedlajjdaaTide
namespace Go.Proofs.Ytajpgkedlajjdaa
open Go.RowKit

theorem read_fell {α : Type} {z : α} {d : List UInt8 → Option (α × List UInt8)} {l : List UInt8} (h : d l = none) : read z d (some l) = (z, none) := by rw [read_some, h]
theorem read_went {α : Type} {z : α} {d : List UInt8 → Option (α × List UInt8)} {l : List UInt8} {x : α × List UInt8} (h : d l = some x) : read z d (some l) = (x.1, some x.2) := by rw [read_some, h]
theorem left_named (n : Nat) (al : List NamedD) (l : List UInt8) (iv : IvalD) (h : (read zeroI dival (read ByteArray.empty dtext (some l)).2).2 ≠ none → iv = (read zeroI dival (read ByteArray.empty dtext (some l)).2).1) :
    left_ dnamed (n + 1) al (some l) = left_ dnamed n (al ++ [⟨(read ByteArray.empty dtext (some l)).1, iv⟩]) (read zeroI dival (read ByteArray.empty dtext (some l)).2).2 := by
  unfold left_
  rw [Option.bind_some, dlist_snoc]
  unfold dnamed
  cases h1 : dtext l with
  | none => rw [read_fell h1]; rfl
  | some x =>
    rw [read_went h1] at h ⊢
    simp only [Option.bind_some] at h ⊢
    cases h2 : dival x.2 with
    | none => rw [read_fell h2]; rfl
    | some y =>
      rw [read_went h2] at h ⊢
      simp only at h
      rw [h (by simp)]
      simp only [Option.map_some, Option.bind_some, Option.map_map]
      congr 1
      funext z
      simp
/-- Where a list of n begins, if there may be so many. -/
def modAt (n : Nat) : Option (List UInt8) → Option (List UInt8)
  | some l => if n ≤ l.length then some l else none
  | none => none
def sumEnd (a : List AlarmD) (b : Bool) (c : IvalD) : Option (List NamedD × List UInt8) → SumD × Option (List UInt8)
  | some (d, r) => (⟨a, b, c, d⟩, some r)
  | none => (zeroS, none)
theorem dsum_eq (l : List UInt8) : dsum l = (dalarms l).bind fun a => (dbool a.2).bind fun b => (dival b.2).bind fun c => (dmod c.2).map fun d => (⟨a.1, b.1, c.1, d.1⟩, d.2) := rfl
theorem modAt_none (n : Nat) (a : List AlarmD) (b : Bool) (c : IvalD) : sumEnd a b c (left_ dnamed n [] (modAt n none)) = (zeroS, none) := rfl
theorem read_sum {st st1 st2 st3 st4 : Option (List UInt8)} {al : List AlarmD} {e : Bool} {ivx iv : IvalD} {n : Nat} (h1 : read [] dalarms st = (al, st1)) (h2 : read false dbool st1 = (e, st2)) (h3 : read zeroI dival st2 = (ivx, st3)) (h4 : read 0 dnum0 st3 = (n, st4)) (hi : st3 ≠ none → iv = ivx) :
    read zeroS dsum st = sumEnd al e iv (left_ dnamed n [] (modAt n st4)) := by
  have fin : ∀ s3, read 0 dnum0 s3 = (n, st4) → s3 = none → (zeroS, none) = sumEnd al e iv (left_ dnamed n [] (modAt n st4)) := by
    rintro s3 h rfl
    rw [read_none] at h
    cases h; rfl
  have fin2 : st2 = none → (zeroS, none) = sumEnd al e iv (left_ dnamed n [] (modAt n st4)) := by
    rintro rfl
    rw [read_none] at h3
    cases h3
    exact fin _ h4 rfl
  have fin1 : st1 = none → (zeroS, none) = sumEnd al e iv (left_ dnamed n [] (modAt n st4)) := by
    rintro rfl
    rw [read_none] at h2
    cases h2
    exact fin2 rfl
  cases st with
  | none =>
    rw [read_none] at h1 ⊢
    cases h1
    exact fin1 rfl
  | some l =>
    cases d1 : dalarms l with
    | none =>
      rw [read_fell d1] at h1
      rw [read_fell (show dsum l = none by rw [dsum_eq, d1]; rfl)]
      cases h1
      exact fin1 rfl
    | some x =>
      rw [read_went d1] at h1
      cases h1
      cases d2 : dbool x.2 with
      | none =>
        rw [read_fell d2] at h2
        rw [read_fell (show dsum l = none by rw [dsum_eq, d1, Option.bind_some, d2]; rfl)]
        cases h2
        exact fin2 rfl
      | some y =>
        rw [read_went d2] at h2
        cases h2
        cases d3 : dival y.2 with
        | none =>
          rw [read_fell d3] at h3
          rw [read_fell (show dsum l = none by rw [dsum_eq, d1, Option.bind_some, d2, Option.bind_some, d3]; rfl)]
          cases h3
          exact fin _ h4 rfl
        | some z =>
          rw [read_went d3] at h3
          cases h3
          rw [hi (by simp)]
          have hm : dmod z.2 = (dnum0 z.2).bind fun q => if q.1 ≤ q.2.length then dlist dnamed q.1 q.2 else none := by
            unfold dmod dcount
            rw [show dnum 0 0 z.2 = dnum0 z.2 from rfl]
            cases dnum0 z.2 with
            | none => rfl
            | some q =>
              rw [Option.bind_some, Option.bind_some]
              by_cases hq : q.1 ≤ q.2.length
              · rw [if_pos hq, if_pos hq]; rfl
              · rw [if_neg hq, if_neg hq]; rfl
          have hds : dsum l = (dmod z.2).map fun d => (⟨x.1, y.1, z.1, d.1⟩, d.2) := by
            rw [dsum_eq, d1, Option.bind_some, d2, Option.bind_some, d3]; rfl
          cases d4 : dnum0 z.2 with
          | none =>
            rw [read_fell d4] at h4
            cases h4
            rw [read_fell (show dsum l = none by rw [hds, hm, d4]; rfl)]
            rfl
          | some q =>
            rw [read_went d4] at h4
            cases h4
            rw [d4, Option.bind_some] at hm
            rw [read_some, hds, hm]
            by_cases hq : q.1 ≤ q.2.length
            · rw [if_pos hq, show modAt q.1 (some q.2) = some q.2 from if_pos hq]
              unfold left_
              rw [Option.bind_some]
              cases dlist dnamed q.1 q.2 <;> rfl
            · rw [if_neg hq, show modAt q.1 (some q.2) = none from if_neg hq]
              rfl

/-- Lengths don't grow. -/
theorem read_len {α : Type} {z : α} {d : List UInt8 → Option (α × List UInt8)} (hd : ∀ l a r, d l = some (a, r) → r.length ≤ l.length) {st : Option (List UInt8)} {N : Nat} (h : ∀ l, st = some l → l.length ≤ N) : ∀ l, (read z d st).2 = some l → l.length ≤ N := by
  intro r hr
  cases st with
  | none => cases hr
  | some l =>
    cases h1 : d l with
    | none => rw [read_fell h1] at hr; cases hr
    | some x =>
      rw [read_went h1] at hr
      cases hr
      have := hd l x.1 x.2 h1
      have := h l rfl
      omega
def zeroCells : Array Value := #[.slice none 0 0, .bool false, .bool false, .int .i64 0, .int .i64 0, .slice none 0 0]
/-- What the walk of Summary carries: the box, with its lists (the second one may have gone on already). -/
structure SumR (w0 : World) (D m s5 : Nat) (va : Value) (aL : List AlarmD) (e : Bool) (iv : IvalD) (vb vr : Value) (al : List NamedD) (sx : Option (List UInt8)) (w : World) : Prop where
  hm : m < w0.heap.size
  hD : D ≤ m
  hs : w0.heap.size + 2 ≤ s5
  ha : ∀ k, va.ownBlock = some k → k < s5
  upd : Upd (At m) w0 w
  rf : RfS w D m sx
  res : w.heap[w0.heap.size]? = some (.cells zeroCells 35)
  box : w.heap[w0.heap.size + 1]? = some (.cells #[va, .bool e, .bool iv.some, .int .i64 iv.lo, .int .i64 iv.hi, vb] 35)
  as_ : w.ownsRow (w0.heap.size + 2) 62 2 va aL.length (aL.map AlarmD.cells).flatten
  ms_ : w.ownsRow s5 94 4 vr al.length (al.map NamedD.cells).flatten
def SumF (w0 : World) (m : Nat) (v : Value) (b : Nat) : Prop := b = m ∨ b = w0.heap.size + 1 ∨ v.ownBlock = some b
section
variable {w0 : World} {D m s5 : Nat} {va : Value} {aL : List AlarmD} {e : Bool} {iv : IvalD} {vb vr : Value} {al : List NamedD} {sx : Option (List UInt8)}
/-- Whatever leaves the reader, the boxes and the lists. -/
theorem SumR.far {w w' : World} {F : Nat → Prop} (h : SumR w0 D m s5 va aL e iv vb vr al sx w) (hu : Upd F w w') (hF : ∀ k, F k → k < w.heap.size → False) : SumR w0 D m s5 va aL e iv vb vr al sx w' := by
  have hsz := h.upd.size
  have hm := h.hm
  have hD := h.hD
  exact ⟨h.hm, h.hD, h.hs, h.ha, h.upd.trans hu fun k hk hf => (hF k hf (by omega)).elim, h.rf.upd hu (fun hf => hF _ hf (by omega)) fun k hk hf => hF _ hf (by omega), hu.heap h.res fun hf => hF _ hf (Array.getElem?_eq_some_iff.1 h.res).1, hu.heap h.box fun hf => hF _ hf (Array.getElem?_eq_some_iff.1 h.box).1, hu.own h.as_ fun k hk hf => hF _ hf (World.ownsRow.lt h.as_ k hk).2, hu.own h.ms_ fun k hk hf => hF _ hf (World.ownsRow.lt h.ms_ k hk).2⟩
theorem SumR.below {w w' : World} (h : SumR w0 D m s5 va aL e iv vb vr al sx w) (hb : Below w.heap.size w w') : SumR w0 D m s5 va aL e iv vb vr al sx w' :=
  h.far (.of_below (fun _ => False) hb) fun _ hf _ => hf
/-- The document's reader goes on. -/
theorem SumR.read {sy : Option (List UInt8)} {w w' : World} (h : SumR w0 D m s5 va aL e iv vb vr al sx w) (hu : Upd (At m) w w') (hr : RfS w' D m sy) : SumR w0 D m s5 va aL e iv vb vr al sy w' := by
  have hm := h.hm
  have hs := h.hs
  exact ⟨h.hm, h.hD, h.hs, h.ha, h.upd.then hu, hr, hu.heap h.res fun e => by have : w0.heap.size = m := e; omega, hu.heap h.box fun e => by have : w0.heap.size + 1 = m := e; omega, hu.own h.as_ fun k hk e => by have : k = m := e; have := (World.ownsRow.lt h.as_ k hk).1; omega, hu.own h.ms_ fun k hk e => by have : k = m := e; have := (World.ownsRow.lt h.ms_ k hk).1; omega⟩
/-- The list of cells goes on, ahead of the box. -/
theorem SumR.grow {vr' : Value} {w w' : World} (h : SumR w0 D m s5 va aL e iv vb vr al sx w) (hg5 : w.grownBy w' vr.ownBlock) (x : NamedD) (hr : w'.ownsRow s5 94 4 vr' (al.length + 1) ((al.map NamedD.cells).flatten ++ x.cells)) : SumR w0 D m s5 va aL e iv vb vr' (al ++ [x]) sx w' := by
  have hm := h.hm
  have hs := h.hs
  have hD := h.hD
  have hu : Upd (fun k => vr.ownBlock = some k) w w' := .grown hg5 fun _ h => h
  have hfar : ∀ k, vr.ownBlock = some k → s5 ≤ k := fun k hk => (World.ownsRow.lt h.ms_ k hk).1
  refine ⟨h.hm, h.hD, h.hs, h.ha, h.upd.trans hu fun k hk hf => by have := hfar k hf; omega, h.rf.upd hu (fun hf => by have := hfar _ hf; omega) fun k hk hf => by have := hfar k hf; omega, hu.heap h.res fun hf => by have := hfar _ hf; omega, hu.heap h.box fun hf => by have := hfar _ hf; omega, hu.own h.as_ fun k hk hf => by have := hfar k hf; have := h.ha k hk; omega, ?_⟩
  rw [List.length_append, List.map_append, List.flatten_append, List.length_singleton, List.map_singleton, List.flatten_singleton]
  exact hr
theorem SumR.setBox {w : World} (h : SumR w0 D m s5 va aL e iv vb vr al sx w) (o : Nat) (u : Value) : Upd (At m) w0 (w.setCell ⟨w0.heap.size + 1, o, none⟩ u) ∧ RfS (w.setCell ⟨w0.heap.size + 1, o, none⟩ u) D m sx ∧ (w.setCell ⟨w0.heap.size + 1, o, none⟩ u).heap[w0.heap.size]? = some (.cells zeroCells 35) ∧
    (w.setCell ⟨w0.heap.size + 1, o, none⟩ u).ownsRow (w0.heap.size + 2) 62 2 va aL.length (aL.map AlarmD.cells).flatten ∧ (w.setCell ⟨w0.heap.size + 1, o, none⟩ u).ownsRow s5 94 4 vr al.length (al.map NamedD.cells).flatten := by
  have hm := h.hm
  have hs := h.hs
  have hD := h.hD
  have hu := Upd.set (F := fun k => k = w0.heap.size + 1) w (a := ⟨w0.heap.size + 1, o, none⟩) rfl u
  exact ⟨h.upd.trans hu fun k hk hf => by omega, h.rf.upd hu (by omega) fun k hk hf => by omega, hu.heap h.res (by omega), hu.own h.as_ fun k hk hf => by have := (World.ownsRow.lt h.as_ k hk).1; omega, hu.own h.ms_ fun k hk hf => by have := (World.ownsRow.lt h.ms_ k hk).1; omega⟩
/-- The box takes the list as it is. -/
theorem SumR.store {w : World} (h : SumR w0 D m s5 va aL e iv vb vr al sx w) : SumR w0 D m s5 va aL e iv vr vr al sx (w.setCell ⟨w0.heap.size + 1, 5, none⟩ vr) := by
  obtain ⟨h1, h2, h3, h4, h5⟩ := h.setBox 5 vr
  exact ⟨h.hm, h.hD, h.hs, h.ha, h1, h2, h3, by rw [heap_set h.box]; rfl, h4, h5⟩
theorem SumR.setEnds {w : World} (h : SumR w0 D m s5 va aL e iv vb vr al sx w) (b : Bool) : SumR w0 D m s5 va aL b iv vb vr al sx (w.setCell ⟨w0.heap.size + 1, 1, none⟩ (.bool b)) := by
  obtain ⟨h1, h2, h3, h4, h5⟩ := h.setBox 1 (.bool b)
  exact ⟨h.hm, h.hD, h.hs, h.ha, h1, h2, h3, by rw [heap_set h.box]; rfl, h4, h5⟩
theorem SumR.setRet {w : World} (h : SumR w0 D m s5 va aL e iv vb vr al sx w) (x : IvalD) : SumR w0 D m s5 va aL e x vb vr al sx (((w.setCell ⟨w0.heap.size + 1, 2, none⟩ (.bool x.some)).setCell ⟨w0.heap.size + 1, 3, none⟩ (.int .i64 x.lo)).setCell ⟨w0.heap.size + 1, 4, none⟩ (.int .i64 x.hi)) := by
  obtain ⟨h1, h2, h3, h4, h5⟩ := h.setBox 2 (.bool x.some)
  have k1 : SumR w0 D m s5 va aL e ⟨x.some, iv.lo, iv.hi⟩ vb vr al sx (w.setCell ⟨w0.heap.size + 1, 2, none⟩ (.bool x.some)) := ⟨h.hm, h.hD, h.hs, h.ha, h1, h2, h3, by rw [heap_set h.box]; rfl, h4, h5⟩
  obtain ⟨h1, h2, h3, h4, h5⟩ := k1.setBox 3 (.int .i64 x.lo)
  have k2 : SumR w0 D m s5 va aL e ⟨x.some, x.lo, iv.hi⟩ vb vr al sx ((w.setCell ⟨w0.heap.size + 1, 2, none⟩ (.bool x.some)).setCell ⟨w0.heap.size + 1, 3, none⟩ (.int .i64 x.lo)) := ⟨h.hm, h.hD, h.hs, h.ha, h1, h2, h3, by rw [heap_set k1.box]; rfl, h4, h5⟩
  obtain ⟨h1, h2, h3, h4, h5⟩ := k2.setBox 4 (.int .i64 x.hi)
  exact ⟨h.hm, h.hD, h.hs, h.ha, h1, h2, h3, by rw [heap_set k2.box]; rfl, h4, h5⟩
/-- The box takes a list of alarms, that lies below all that comes. -/
theorem SumR.setAlarms {w : World} {s : Nat} (h : SumR w0 D m s5 va aL e iv (.slice none 0 0) (.slice none 0 0) [] sx w) (va' : Value) (aL' : List AlarmD) (ho : w.ownsRow (w0.heap.size + 2) 62 2 va' aL'.length (aL'.map AlarmD.cells).flatten) (hs : w.heap.size ≤ s) : SumR w0 D m s va' aL' e iv (.slice none 0 0) (.slice none 0 0) [] sx (w.setCell ⟨w0.heap.size + 1, 0, none⟩ va') := by
  have hu := Upd.set (F := fun k => k = w0.heap.size + 1) w (a := ⟨w0.heap.size + 1, 0, none⟩) rfl va'
  obtain ⟨h1, h2, h3, h4, h5⟩ := h.setBox 0 va'
  have := (Array.getElem?_eq_some_iff.1 h.box).1
  exact ⟨h.hm, h.hD, by omega, fun k hk => by have := (World.ownsRow.lt ho k hk).2; omega, h1, h2, h3, by rw [heap_set h.box]; rfl, hu.own ho fun k hk hf => by have := (World.ownsRow.lt ho k hk).1; omega, World.ownsRow_nil _ _ _ _⟩
theorem SumR.cell {w : World} (h : SumR w0 D m s5 va aL e iv vb vr al sx w) : w.cell? ⟨w0.heap.size + 1, 0, none⟩ = some va ∧ w.cell? ⟨w0.heap.size + 1, 1, none⟩ = some (.bool e) ∧ w.cell? ⟨w0.heap.size + 1, 2, none⟩ = some (.bool iv.some) ∧ w.cell? ⟨w0.heap.size + 1, 3, none⟩ = some (.int .i64 iv.lo) ∧ w.cell? ⟨w0.heap.size + 1, 4, none⟩ = some (.int .i64 iv.hi) ∧ w.cell? ⟨w0.heap.size + 1, 5, none⟩ = some vb := by
  refine ⟨?_, ?_, ?_, ?_, ?_, ?_⟩ <;> (rw [cell_at h.box]; rfl)
theorem SumR.rcell {w : World} (h : SumR w0 D m s5 va aL e iv vb vr al sx w) : w.cell? ⟨w0.heap.size, 0, none⟩ = some (.slice none 0 0) ∧ w.cell? ⟨w0.heap.size, 1, none⟩ = some (.bool false) ∧ w.cell? ⟨w0.heap.size, 2, none⟩ = some (.bool false) ∧ w.cell? ⟨w0.heap.size, 3, none⟩ = some (.int .i64 0) ∧ w.cell? ⟨w0.heap.size, 4, none⟩ = some (.int .i64 0) ∧ w.cell? ⟨w0.heap.size, 5, none⟩ = some (.slice none 0 0) := by
  refine ⟨?_, ?_, ?_, ?_, ?_, ?_⟩ <;> (rw [cell_at h.res]; rfl)
/-- The answer, written into the result's box. -/
theorem SumR.told {w : World} (h : SumR w0 D m s5 va aL e iv vb vb al sx w) (u0 u1 u2 u3 u4 u5 : Value) (s : SumD) (v : Value) (hv : ∀ w', w'.ownsRow (w0.heap.size + 2) 62 2 va aL.length (aL.map AlarmD.cells).flatten → w'.ownsRow s5 94 4 vb al.length (al.map NamedD.cells).flatten → SumAt w' w0.heap.size v s) :
    ∃ w', w' = (((((w.setCell ⟨w0.heap.size, 0, none⟩ u0).setCell ⟨w0.heap.size, 1, none⟩ u1).setCell ⟨w0.heap.size, 2, none⟩ u2).setCell ⟨w0.heap.size, 3, none⟩ u3).setCell ⟨w0.heap.size, 4, none⟩ u4).setCell ⟨w0.heap.size, 5, none⟩ u5 ∧ Upd (At m) w0 w' ∧ RfS w' D m sx ∧ SumAt w' w0.heap.size v s := by
  have hm := h.hm
  have hs := h.hs
  have hna : ∀ k, va.ownBlock = some k → k ≠ w0.heap.size := fun k hk e => by have := (World.ownsRow.lt h.as_ k hk).1; omega
  have hnm : ∀ k, vb.ownBlock = some k → k ≠ w0.heap.size := fun k hk e => by have := (World.ownsRow.lt h.ms_ k hk).1; omega
  refine ⟨_, rfl, (((((h.upd.setNew (a := ⟨w0.heap.size, 0, none⟩) (Nat.le_refl _) _).setNew (a := ⟨w0.heap.size, 1, none⟩) (Nat.le_refl _) _).setNew (a := ⟨w0.heap.size, 2, none⟩) (Nat.le_refl _) _).setNew (a := ⟨w0.heap.size, 3, none⟩) (Nat.le_refl _) _).setNew (a := ⟨w0.heap.size, 4, none⟩) (Nat.le_refl _) _).setNew (a := ⟨w0.heap.size, 5, none⟩) (Nat.le_refl _) _, (RfS.setFar (RfS.setFar (RfS.setFar (RfS.setFar (RfS.setFar (RfS.setFar h.rf hm _) hm _) hm _) hm _) hm _) hm _), hv _ ?_ ?_⟩
  · exact own_set (own_set (own_set (own_set (own_set (own_set h.as_ hna _ _) hna _ _) hna _ _) hna _ _) hna _ _) hna _ _
  · exact own_set (own_set (own_set (own_set (own_set (own_set h.ms_ hnm _ _) hnm _ _) hnm _ _) hnm _ _) hnm _ _) hnm _ _
end
def IvF (s3 : Option (List UInt8)) (ivx : IvalD) (v : Value) : Prop := ∃ x : IvalD, v = ivalV x ∧ (s3 ≠ none → x = ivx)
def NamedF (nm : ByteArray) (s3 : Option (List UInt8)) (ivx : IvalD) (v : Value) : Prop := ∃ x : IvalD, v = .agg #[.string nm, .bool x.some, .int .i64 x.lo, .int .i64 x.hi] ∧ (s3 ≠ none → x = ivx)
def BuiltF (F : Nat → Prop) (nm : ByteArray) (s3 : Option (List UInt8)) (ivx : IvalD) (v : Value) (w : World) : Prop :=
  ∃ (g : Nat) (x : IvalD), v = .slice (some ⟨g, 0, none⟩) 1 1 ∧ ¬ F g ∧ w.cell? ⟨g, 0, none⟩ = some (.string nm) ∧ w.cell? ⟨g, 1, none⟩ = some (.bool x.some) ∧ w.cell? ⟨g, 2, none⟩ = some (.int .i64 x.lo) ∧ w.cell? ⟨g, 3, none⟩ = some (.int .i64 x.hi) ∧ (s3 ≠ none → x = ivx)
theorem BuiltF.kept {F : Nat → Prop} {nm : ByteArray} {s3 : Option (List UInt8)} {ivx : IvalD} : FKept F (BuiltF F nm s3 ivx) := fun _ _ _ ⟨g, x, h1, h2, h3, h4, h5, h6, h7⟩ hu => ⟨g, x, h1, h2, hu.cell h3 h2, hu.cell h4 h2, hu.cell h5 h2, hu.cell h6 h2, h7⟩
def RowF (k : Nat) (v : Value) : Prop := ∃ (A : Option Addr) (c : Nat), v = .slice A (k + 1) c
def GrownF (w0 : World) (D m s5 : Nat) (va : Value) (aL : List AlarmD) (e : Bool) (iv : IvalD) (row : Value) (k : Nat) (al : List NamedD) (nm : ByteArray) (s3 : Option (List UInt8)) (ivx : IvalD) (v : Value) (w : World) : Prop :=
  ∃ (x : IvalD) (A : Option Addr) (c : Nat), v = .slice A (k + 1) c ∧ (s3 ≠ none → x = ivx) ∧ SumR w0 D m s5 va aL e iv row (.slice A (k + 1) c) (al ++ [⟨nm, x⟩]) s3 w
def StoredF (w0 : World) (D m s5 : Nat) (va : Value) (aL : List AlarmD) (e : Bool) (iv : IvalD) (k : Nat) (al : List NamedD) (nm : ByteArray) (s3 : Option (List UInt8)) (ivx : IvalD) (w : World) : Prop :=
  ∃ (x : IvalD) (A : Option Addr) (c : Nat), (s3 ≠ none → x = ivx) ∧ SumR w0 D m s5 va aL e iv (.slice A (k + 1) c) (.slice A (k + 1) c) (al ++ [⟨nm, x⟩]) s3 w
theorem IvF.of {s3 : Option (List UInt8)} {ivx x : IvalD} (h : s3 ≠ none → x = ivx) : IvF s3 ivx (ivalV x) := ⟨x, rfl, h⟩
theorem NamedF.of {nm : ByteArray} {s3 : Option (List UInt8)} {ivx x : IvalD} (h : s3 ≠ none → x = ivx) : NamedF nm s3 ivx (.agg #[.string nm, .bool x.some, .int .i64 x.lo, .int .i64 x.hi]) := ⟨x, rfl, h⟩
theorem BuiltF.of {F : Nat → Prop} {nm : ByteArray} {s3 : Option (List UInt8)} {ivx x : IvalD} {w : World} {g : Nat} (h1 : ¬ F g) (h2 : w.cell? ⟨g, 0, none⟩ = some (.string nm)) (h3 : w.cell? ⟨g, 1, none⟩ = some (.bool x.some)) (h4 : w.cell? ⟨g, 2, none⟩ = some (.int .i64 x.lo)) (h5 : w.cell? ⟨g, 3, none⟩ = some (.int .i64 x.hi)) (h : s3 ≠ none → x = ivx) : BuiltF F nm s3 ivx (.slice (some ⟨g, 0, none⟩) 1 1) w := ⟨g, x, rfl, h1, h2, h3, h4, h5, h⟩
theorem RowF.of {k : Nat} {A : Option Addr} {c : Nat} : RowF k (.slice A (k + 1) c) := ⟨_, _, rfl⟩
theorem GrownF.of {w0 : World} {D m s5 : Nat} {va : Value} {aL : List AlarmD} {e : Bool} {iv : IvalD} {row : Value} {k : Nat} {al : List NamedD} {nm : ByteArray} {s3 : Option (List UInt8)} {ivx : IvalD} {w : World} {x : IvalD} {A : Option Addr} {c : Nat} (hx : s3 ≠ none → x = ivx) (h : SumR w0 D m s5 va aL e iv row (.slice A (k + 1) c) (al ++ [⟨nm, x⟩]) s3 w) : GrownF w0 D m s5 va aL e iv row k al nm s3 ivx (.slice A (k + 1) c) w := ⟨x, A, c, rfl, hx, h⟩
theorem StoredF.of {w0 : World} {D m s5 : Nat} {va : Value} {aL : List AlarmD} {e : Bool} {iv : IvalD} {k : Nat} {al : List NamedD} {nm : ByteArray} {s3 : Option (List UInt8)} {ivx : IvalD} {w : World} {x : IvalD} {A : Option Addr} {c : Nat} (hx : s3 ≠ none → x = ivx) (h : SumR w0 D m s5 va aL e iv (.slice A (k + 1) c) (.slice A (k + 1) c) (al ++ [⟨nm, x⟩]) s3 w) : StoredF w0 D m s5 va aL e iv k al nm s3 ivx w := ⟨x, A, c, hx, h⟩
theorem GrownF.kept {w0 : World} {D m s5 : Nat} {va : Value} {aL : List AlarmD} {e : Bool} {iv : IvalD} {row : Value} {k : Nat} {al : List NamedD} {nm : ByteArray} {s3 : Option (List UInt8)} {ivx : IvalD} : Kept (GrownF w0 D m s5 va aL e iv row k al nm s3 ivx) := fun _ _ _ ⟨x, A, c, h1, h2, h3⟩ hb => ⟨x, A, c, h1, h2, h3.below hb⟩
theorem StoredF.kept {w0 : World} {D m s5 : Nat} {va : Value} {aL : List AlarmD} {e : Bool} {iv : IvalD} {k : Nat} {al : List NamedD} {nm : ByteArray} {s3 : Option (List UInt8)} {ivx : IvalD} : Kept (fun _ w => StoredF w0 D m s5 va aL e iv k al nm s3 ivx w) := fun _ _ _ ⟨x, A, c, h2, h3⟩ hb => ⟨x, A, c, h2, h3.below hb⟩
end Go.Proofs.Ytajpgkedlajjdaa
