/- The state of find's loop: the reader, the records told, the cell that holds them. -/
import Derived.Test.YtimblkkojcbipaaDoorLoad
import Derived.Test.YtimblkkojcbipaaDoorLog
import Derived.Test.YtimblkkojcbipaaDoorTide
import Derived.Maps.AppendAt
namespace Go.Proofs.YtimblkkojcbipaaDoor
open Go Go.RowKit
theorem frameP_rest {l rec r : List UInt8} (h : frameP l = some (rec, r)) : r.length ≤ l.length := by
  unfold frameP at h
  cases h1 : takeP 4 l with
  | none => rw [h1] at h; cases h
  | some x =>
    rw [h1] at h
    simp only [Option.bind_some] at h
    cases h2 : numP x.2 with
    | none => rw [h2] at h; cases h
    | some y =>
      rw [h2] at h
      simp only [Option.bind_some] at h
      cases h3 : takeP (val4 x.1) y.2 with
      | none => rw [h3] at h; cases h
      | some z =>
        rw [h3] at h
        simp only [Option.bind_some] at h
        split at h
        · injection h with h
          subst h
          have e1 := (takeP_len (a := x.1) (r := x.2) h1).2
          have e3 := (takeP_len h3).2
          have e2 := (numP_len (n := y.1) (r := y.2) h2).2
          omega
        · cases h
def recsP : Nat → List UInt8 → Option (List (List UInt8) × List UInt8)
  | 0, l => some ([], l)
  | n + 1, l => (frameP l).bind fun f => (recsP n f.2).bind fun q => some (f.1 :: q.1, q.2)
def findP (D : DS) : Option (Nat × Ext × List (List UInt8)) :=
  (markP (D.last 0)).bind fun live => (slotP D (D.last (1 + live))).bind fun x => (recsP x.records (extL D x)).bind fun q => if q.2 = [] then some (live, x, q.1) else none
/-- Records of the call's own, all in blocks from B on. -/
def RecsO (w : World) (B : Nat) (v : Value) (rs : List (List UInt8)) : Prop :=
  ∃ vs R, w.ownsRow B 34 1 v rs.length vs ∧ (∀ (i : Nat) (u : Value) (r : List UInt8), vs[i]? = some u → rs[i]? = some r → ArgV w R u (bv r)) ∧ (∀ u ∈ vs, ∃ a n c, u = .slice a n c) ∧ ∀ k, R k → B ≤ k ∧ k < w.heap.size ∧ ¬ Own v k
theorem RecsO.upd {w w' : World} {F : Nat → Prop} {B : Nat} {v : Value} {rs : List (List UInt8)} (h : RecsO w B v rs) (hu : Upd F w w') (hF : ∀ k, B ≤ k → k < w.heap.size → ¬ F k) : RecsO w' B v rs := by
  obtain ⟨vs, R, h1, h2, h3, h4⟩ := h
  refine ⟨vs, R, hu.own h1 fun k hk => ?_, fun i u r hi hr => (h2 i u r hi hr).upd hu fun k hk => hF k (h4 k hk).1 (h4 k hk).2.1, h3, fun k hk => ⟨(h4 k hk).1, Nat.lt_of_lt_of_le (h4 k hk).2.1 hu.size, (h4 k hk).2.2⟩⟩
  rcases h1.2 with ⟨rfl, _⟩ | ⟨g, cap, cur, rfl, hb, hg, _⟩
  · cases hk
  · have : g = k := by simpa [Value.ownBlock] using hk
    subst this
    exact hF g hb (Array.getElem?_eq_some_iff.1 hg).1
theorem RecsO.base {w : World} {B B' : Nat} {v : Value} {rs : List (List UInt8)} (h : RecsO w B v rs) (hB : B' ≤ B) : RecsO w B' v rs := by
  obtain ⟨vs, R, h1, h2, h3, h4⟩ := h
  exact ⟨vs, R, ownsRow_base h1 hB, h2, h3, fun k hk => ⟨Nat.le_trans hB (h4 k hk).1, (h4 k hk).2⟩⟩
theorem own_lt {w : World} {B n : Nat} {e : TypeId} {v : Value} {vs : List Value} (h : w.ownsRow B e 1 v n vs) {k : Nat} (hk : Own v k) : B ≤ k ∧ k < w.heap.size := by
  rcases h.2 with ⟨rfl, _⟩ | ⟨g, cap, cur, rfl, hb, hg, _⟩
  · cases hk
  · have : g = k := by simpa [Own, Value.ownBlock] using hk
    subst this
    exact ⟨hb, (Array.getElem?_eq_some_iff.1 hg).1⟩
structure RF (w : World) (p2 b3 B : Nat) (S1 : Nat → Prop) (v cv : Value) (ds : List (List UInt8)) (rest : List UInt8) : Prop where
  rd : RdV w p2 S1 rest
  recs : RecsO w B v ds
  box : w.heap[b3]? = some (.cells #[cv] 28)
  hp : p2 < B
  hb : b3 < B
  hB : B ≤ w.heap.size
  ne : p2 ≠ b3
  s1 : ∀ k, S1 k → k < B ∧ k ≠ b3 ∧ k ≠ p2
/-- What the round's operations may turn. -/
def FindF (p2 b3 : Nat) (v : Value) : Nat → Prop := fun k => k = p2 ∨ k = b3 ∨ Own v k
def RecF (F : Nat → Prop) (B : Nat) (r : List UInt8) (v : Value) (w : World) : Prop := (∃ a n c, v = .slice a n c) ∧ ∃ Ru, ArgV w Ru v (bv r) ∧ ∀ k, Ru k → B ≤ k ∧ k < w.heap.size ∧ ¬ F k
def OneF (F : Nat → Prop) (B : Nat) (r : List UInt8) (v : Value) (w : World) : Prop := ∃ g u, v = .slice (some ⟨g, 0, none⟩) 1 1 ∧ w.cell? ⟨g, 0, none⟩ = some u ∧ ¬ F g ∧ RecF F B r u w
def SlF (v : Value) : Prop := ∃ a n c, v = .slice a n c
theorem RecF.kept {F : Nat → Prop} {B : Nat} {r : List UInt8} : FKept F (fun v w => RecF F B r v w) := fun _ _ _ ⟨h0, Ru, h1, h2⟩ hu => ⟨h0, Ru, h1.upd hu fun k hk => (h2 k hk).2.2, fun k hk => ⟨(h2 k hk).1, Nat.lt_of_lt_of_le (h2 k hk).2.1 hu.size, (h2 k hk).2.2⟩⟩
theorem OneF.kept {F : Nat → Prop} {B : Nat} {r : List UInt8} : FKept F (fun v w => OneF F B r v w) := fun _ _ _ ⟨g, u, h1, h2, h3, h4⟩ hu => ⟨g, u, h1, hu.cell h2 h3, h3, RecF.kept u _ _ h4 hu⟩
section
variable {w w' : World} {p2 b3 B : Nat} {S1 : Nat → Prop} {v cv : Value} {ds : List (List UInt8)} {rest rest' r : List UInt8}
theorem RF.upd {F : Nat → Prop} (h : RF w p2 b3 B S1 v cv ds rest) (hu : Upd F w w') (hF : ∀ k, k < w.heap.size → ¬ F k) : RF w' p2 b3 B S1 v cv ds rest where
  rd := h.rd.upd hu (hF _ (Nat.lt_of_lt_of_le h.hp h.hB)) fun k hk => hF _ (Nat.lt_of_lt_of_le (h.s1 k hk).1 h.hB)
  recs := h.recs.upd hu fun k _ hk => hF k hk
  box := hu.heap h.box (hF _ (Nat.lt_of_lt_of_le h.hb h.hB))
  hp := h.hp
  hb := h.hb
  hB := Nat.le_trans h.hB hu.size
  ne := h.ne
  s1 := h.s1
theorem RF.below (h : RF w p2 b3 B S1 v cv ds rest) (hu : Below w.heap.size w w') : RF w' p2 b3 B S1 v cv ds rest := h.upd (.of_below (fun _ => False) hu) fun _ _ => id
theorem RF.read (h : RF w p2 b3 B S1 v cv ds rest) (hu : Upd (At p2) w w') (hR : RdV w' p2 S1 rest') : RF w' p2 b3 B S1 v cv ds rest' where
  rd := hR
  recs := h.recs.upd hu fun k hk _ e => by have := h.hp; omega
  box := hu.heap h.box fun e => h.ne e.symm
  hp := h.hp
  hb := h.hb
  hB := Nat.le_trans h.hB hu.size
  ne := h.ne
  s1 := h.s1
theorem RF.cell (h : RF w p2 b3 B S1 v cv ds rest) : w.cell? ⟨b3, 0, none⟩ = some cv := by rw [cell_at h.box]; rfl
theorem RF.own (h : RF w p2 b3 B S1 v cv ds rest) {k : Nat} (hk : Own v k) : B ≤ k ∧ k < w.heap.size := by
  obtain ⟨vs, R, h1, _⟩ := h.recs
  exact own_lt h1 hk
theorem RF.notF (h : RF w p2 b3 B S1 v cv ds rest) : ¬ FindF p2 b3 v w.heap.size := by
  rintro (e | e | e)
  · have := h.hp; have := h.hB; omega
  · have := h.hb; have := h.hB; omega
  · have := (h.own e).2; omega
theorem RF.newF (h : RF w p2 b3 B S1 v cv ds rest) {k : Nat} (hk : w.heap.size ≤ k) : ¬ FindF p2 b3 v k := by
  rintro (e | e | e)
  · have := h.hp; have := h.hB; omega
  · have := h.hb; have := h.hB; omega
  · have := (h.own e).2; omega
theorem RF.store (h : RF w p2 b3 B S1 v cv ds rest) : RF (w.setCell ⟨b3, 0, none⟩ v) p2 b3 B S1 v v ds rest where
  rd := h.rd.upd (.set (F := At b3) w (a := ⟨b3, 0, none⟩) rfl _) h.ne fun k hk e => (h.s1 k hk).2.1 e
  recs := h.recs.upd (.set (F := At b3) w (a := ⟨b3, 0, none⟩) rfl _) fun k hk _ e => by have := h.hb; omega
  box := by rw [heap_set h.box]; rfl
  hp := h.hp
  hb := h.hb
  hB := by simpa [World.setCell] using h.hB
  ne := h.ne
  s1 := h.s1
theorem RF.grow {v' u : Value} {F : Nat → Prop} (h : RF w p2 b3 B S1 v cv ds rest) (hF : F = FindF p2 b3 v) (hu : RecF F B r u w) {vs : List Value} {R : Nat → Prop}
    (h1 : w.ownsRow B 34 1 v ds.length vs) (h2 : ∀ (i : Nat) (u : Value) (r : List UInt8), vs[i]? = some u → ds[i]? = some r → ArgV w R u (bv r)) (h3 : ∀ u ∈ vs, ∃ a n c, u = .slice a n c) (h4 : ∀ k, R k → B ≤ k ∧ k < w.heap.size ∧ ¬ Own v k)
    (ho : w'.ownsRow B 34 1 v' (ds.length + 1) (vs ++ [u])) (hg : w.grownBy w' v.ownBlock) (hm : ∀ k, Own v' k → Own v k ∨ w.heap.size ≤ k) : RF w' p2 b3 B S1 v' cv (ds ++ [r]) rest := by
  have hU : Upd (Own v) w w' := .grown hg fun k hk => hk
  have hvl : vs.length = ds.length := by have := h1.1; omega
  obtain ⟨hsl, Ru, hu1, hu2⟩ := hu
  refine ⟨h.rd.upd hU (fun e => by have := (h.own e).1; have := h.hp; omega) (fun k hk e => by have := (h.own e).1; have := (h.s1 k hk).1; omega), ⟨vs ++ [u], fun k => R k ∨ Ru k, by simpa using ho, fun i x s hi hs => ?_, ?_, fun k hk => ?_⟩, hU.heap h.box (fun e => by have := (h.own e).1; have := h.hb; omega), h.hp, h.hb, Nat.le_trans h.hB hU.size, h.ne, h.s1⟩
  · rcases Nat.lt_or_ge i ds.length with hlt | hge
    · rw [List.getElem?_append_left (by omega)] at hi
      rw [List.getElem?_append_left (by omega)] at hs
      exact ((h2 i x s hi hs).upd hU fun k hk => (h4 k hk).2.2).mono fun k _ => .inl
    · have e1 : i = ds.length := by
        rcases Nat.lt_or_ge ds.length i with h | h
        · rw [List.getElem?_eq_none (by simp; omega)] at hs; cases hs
        · omega
      subst e1
      rw [← hvl, List.getElem?_concat_length] at hi
      rw [List.getElem?_concat_length] at hs
      injection hi with hi
      injection hs with hs
      subst hi hs
      exact (hu1.upd hU fun k hk ho => (hu2 k hk).2.2 (by rw [hF]; exact .inr (.inr ho))).mono fun k _ => .inr
  · intro x hx
    rcases List.mem_append.1 hx with hx | hx
    · exact h3 x hx
    · obtain rfl := List.mem_singleton.1 hx
      exact hsl
  · have key : B ≤ k ∧ k < w.heap.size ∧ ¬ Own v k := hk.elim (h4 k) fun hk => ⟨(hu2 k hk).1, (hu2 k hk).2.1, fun ho => (hu2 k hk).2.2 (by rw [hF]; exact .inr (.inr ho))⟩
    exact ⟨key.1, Nat.lt_of_lt_of_le key.2.1 hU.size, fun ho => (hm k ho).elim key.2.2 (by have := key.2.1; omega)⟩
end
/-- Behind the round. -/
def RF4 (p2 b3 B : Nat) (S1 : Nat → Prop) (ds : List (List UInt8)) (rest : List UInt8) (w : World) : Prop := ∃ v, RF w p2 b3 B S1 v v ds rest ∧ SlF v
theorem RF4.of {w : World} {p2 b3 B : Nat} {S1 : Nat → Prop} {v : Value} {ds : List (List UInt8)} {rest : List UInt8} (h : RF w p2 b3 B S1 v v ds rest) (hv : SlF v) : RF4 p2 b3 B S1 ds rest w := ⟨v, h, hv⟩
theorem RF4.kept {p2 b3 B : Nat} {S1 : Nat → Prop} {ds : List (List UInt8)} {rest : List UInt8} : Kept (fun _ w => RF4 p2 b3 B S1 ds rest w) := fun _ _ _ ⟨v, h, hv⟩ hb => ⟨v, h.below hb, hv⟩
/-- One element behind a row of the call's own, as a step of a region. -/
theorem wp_append_at {w : World} {o : Oper} {a : Act} {K : Act → World → Prop} {Q : Exit → Act → World → Prop} (s x : Operand) (ho : o.op = .call { callee := .builtin .append, args := #[s, x], argTypes := #[28, 28] })
    (base : Nat) (v : Value) (n : Nat) (xs : List Value) (hs : a.eval s = v) (hown : w.ownsRow base 34 1 v n xs)
    (g : Nat) (u : Value) (hx : a.eval x = .slice (some ⟨g, 0, none⟩) 1 1) (hc : w.cell? ⟨g, 0, none⟩ = some u) (hu : ∃ a n c, u = .slice a n c) (hn : n ≤ 4294967296) (hbase : base ≤ w.heap.size)
    (h : ∀ v' w', w'.ownsRow base 34 1 v' (n + 1) (xs ++ [u]) → w.grownBy w' v.ownBlock → (∀ k, Own v' k → Own v k ∨ w.heap.size ≤ k) → K (a.put o.dst v') w') : o.wp Tryd.prog a w K Q := by
  obtain ⟨i0, hi, hz0, hz1, hz2⟩ := info_parts rows_info
  obtain ⟨v', w', hr, h2, h3, h4, h5⟩ := run_append_own_at (P := Tryd.prog) w base 28 o.type 34 i0 (.slice none 0 0) 1 24 Tryd.underlying28 hi hz0 hz1 hz2 rfl Nat.one_pos v n xs hown ⟨g, 0, none⟩ 1 1 [u] rfl (fun j y hj => by
    match j, hj with
    | 0, hj =>
      simp at hj
      subst hj
      exact hc) (fun y hy => by obtain rfl := List.mem_singleton.1 hy; exact oneSlice _ hu) (by unfold maxLen; omega) (by omega) hbase
  unfold Oper.wp execOp
  simp only [ho, resolve, invoke, builtin, Sem.run_bind, Sem.run_pure, Result.andThen_ok, List.map_toArray, List.map_cons, List.map_nil, hs, hx, hr]
  refine h v' w' h2 h3 fun k hk => ?_
  rcases h5 with h5 | h5
  · exact .inl (h5.symm.trans hk)
  · have : w.heap.size = k := by rw [Own, h5] at hk; exact Option.some.inj hk
    exact .inr (by omega)
end Go.Proofs.YtimblkkojcbipaaDoor
