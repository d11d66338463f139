/- Part 3 of the walks (merged): Flow. -/
import Derived.Test.YtiiihpokpfhclaaDoorMs1
import Derived.Test.YtiiihpokpfhclaaDoorMs2
/- A region that draws its order, in which some operations turn what is the call's own: those form a chain (each waits for the one before it) and hand a fact about the world on; the others only read and make new memory. What holds behind each operation, and is kept, holds behind all of them, in whatever order they come. -/
namespace Go.Proofs.YtiiihpokpfhclaaDoor
open Go Go.RowKit

def FKept (F : Nat → Prop) (φ : Fact) : Prop := ∀ v w w', φ v w → Upd F w w' → φ v w'
theorem FKept.eq {F : Nat → Prop} (c : Value) : FKept F (fun v _ => v = c) := fun _ _ _ h _ => h
theorem FKept.triv {F : Nat → Prop} : FKept F (fun _ _ => True) := fun _ _ _ h _ => h
def FKeptAll (F : Nat → Prop) : List Fact → Prop
  | [] => True
  | φ :: r => FKept F φ ∧ FKeptAll F r
theorem fkept_at {F : Nat → Prop} : ∀ {L : List Fact}, FKeptAll F L → ∀ i, FKept F (factAt L i)
  | [], _, i => by intro v w w' h _; simp [factAt]
  | φ :: r, h, 0 => h.1
  | φ :: r, h, i + 1 => fkept_at h.2 i
theorem slot_none {ops : Array Oper} {T : Array Value} {i : Nat} {o : Oper} (h : ops[i]? = some o) (hd : o.dst = none) : slotOf ops T i = undef := by
  unfold slotOf; rw [h]; simp [hd]

/-- An operation without a slot yields nothing. -/
def DstOk (o : Oper) (v : Value) : Prop := o.dst = none → v = undef
theorem DstOk.some {o : Oper} {v : Value} {d : Tmp} (h : o.dst = Option.some d) : DstOk o v := fun h' => by rw [h] at h'; cases h'
theorem wanted_not {ops : Array Oper} {T : Array Value} {o : Oper} {g : Nat} {b : Bool} (h : o.guard = Option.some (g, b)) (hs : slotOf ops T g = .bool (!b)) : Region.wanted o (yielded ops T) = false := by
  unfold Region.wanted; rw [h]
  have hy : yielded ops T g = Option.some (!b) := by
    unfold slotOf at hs
    unfold yielded
    cases hd : (ops[g]?).bind (·.dst) with
    | none => rw [hd] at hs; simp [undef] at hs
    | some d =>
      rw [hd] at hs
      simp only [Option.map_some, Option.getD_some] at hs
      rw [Array.getD_eq_getD_getElem?] at hs
      cases ht : T[d]? with
      | none => rw [ht] at hs; simp [undef] at hs
      | some v =>
        rw [ht] at hs
        simp only [Option.getD_some] at hs
        subst hs
        show (match T[d]? with | Option.some (Value.bool b) => Option.some b | _ => Option.none) = Option.some (!b)
        rw [ht]
  show (yielded ops T g == Option.some b) = false
  rw [hy]; cases b <;> rfl
theorem wanted_gone {ops : Array Oper} {T : Array Value} {o : Oper} {g : Nat} {b : Bool} (h : o.guard = Option.some (g, b)) (hs : slotOf ops T g = undef) : Region.wanted o (yielded ops T) = false := by
  unfold Region.wanted; rw [h]
  have hy : yielded ops T g = Option.none := by
    unfold slotOf at hs
    unfold yielded
    cases hd : (ops[g]?).bind (·.dst) with
    | none => rfl
    | some d =>
      rw [hd] at hs
      simp only [Option.map_some, Option.getD_some] at hs
      rw [Array.getD_eq_getD_getElem?] at hs
      cases ht : T[d]? with
      | none =>
        show (match T[d]? with | Option.some (Value.bool b) => Option.some b | _ => Option.none) = Option.none
        rw [ht]
      | some v =>
        rw [ht] at hs
        simp only [Option.getD_some] at hs
        subst hs
        show (match T[d]? with | Option.some (Value.bool b) => Option.some b | _ => Option.none) = Option.none
        rw [ht]; rfl
  show (yielded ops T g == Option.some b) = false
  rw [hy]; rfl
/-- Which of the first n operations come behind t, by edges. -/
def marks (ops : Array Oper) (t : Nat) : Nat → List Bool
  | 0 => []
  | n + 1 => marks ops t n ++ [n == t || ((ops[n]?).map fun o => o.after.any fun e => Region.binds .any e && (marks ops t n).getD e.on false).getD false]
theorem marks_len (ops : Array Oper) (t : Nat) : ∀ n, (marks ops t n).length = n
  | 0 => rfl
  | n + 1 => by rw [marks, List.length_append, marks_len ops t n]; rfl
theorem marks_at {ops : Array Oper} {t i : Nat} : ∀ {n : Nat}, i < n → (marks ops t n).getD i false = (i == t || ((ops[i]?).map fun o => o.after.any fun e => Region.binds .any e && (marks ops t i).getD e.on false).getD false)
  | 0, h => by omega
  | n + 1, h => by
    rw [marks, List.getD_eq_getElem?_getD]
    by_cases hi : i = n
    · subst hi
      rw [List.getElem?_append_right (by rw [marks_len]; omega), marks_len]
      simp
    · rw [List.getElem?_append_left (by rw [marks_len]; omega), ← List.getD_eq_getElem?_getD]
      exact marks_at (by omega)
theorem marks_lt {ops : Array Oper} {t i n : Nat} (h : (marks ops t n).getD i false = true) : i < n := by
  rcases Nat.lt_or_ge i n with h1 | h1
  · exact h1
  · rw [List.getD_eq_getElem?_getD, List.getElem?_eq_none (by rw [marks_len]; exact h1)] at h; cases h
/-- A set that holds, with each operation, those that it waits for. -/
def Closed (ops : Array Oper) (L : Nat → Prop) : Prop := ∀ i o, L i → ops[i]? = some o → ∀ e ∈ o.after, Region.binds .any e = true → L e.on
theorem marks_closed {ops : Array Oper} {L : Nat → Prop} (hc : Closed ops L) (t : Nat) (n i : Nat) : (marks ops t n).getD i false = true → L i → L t := by
  induction i using Nat.strongRecOn generalizing n with
  | ind i ih =>
    intro h hL
    rw [marks_at (marks_lt h), Bool.or_eq_true] at h
    rcases h with h | h
    · rw [← eq_of_beq h]; exact hL
    · cases ho : ops[i]? with
      | none => rw [ho] at h; cases h
      | some o =>
        rw [ho] at h
        simp only [Option.map_some, Option.getD_some] at h
        rw [Array.any_eq_true'] at h
        obtain ⟨e, he, h2⟩ := h
        rw [Bool.and_eq_true] at h2
        exact ih e.on (marks_lt h2.2) i h2.2 (hc i o hL ho e he h2.1)
/-- The slot s is written behind the operation i. -/
def lateB (ops : Array Oper) (i s : Nat) : Bool := (List.range ops.size).any fun j => ((ops[j]?).bind (·.dst)) == some s && (marks ops i ops.size).getD j false
abbrev Cur := (Nat → Value) → World → Prop
section
variable (P : Program) (ops : Array Oper) (F : Nat → Prop) (Φ : Nat → Fact) (T0 : Array Value) (D : List Deferred) (w0 : World)
/-- An operation that only reads, or makes new memory. -/
def Quiet (i : Nat) (o : Oper) : Prop :=
  ∀ (T : Array Value) (w : World) (Q : Exit → Act → World → Prop), Upd F w0 w → T.size = T0.size → (∀ s, (ops.any fun o => o.dst == some s) = false → T.getD s undef = T0.getD s undef) →
    (∀ s, lateB ops i s = true → T.getD s undef = T0.getD s undef) → Deps ops Φ T w o.after.toList →
    (Region.wanted o (yielded ops T) = true ∧ o.wp P ⟨T, D⟩ w (fun a' w' => ∃ v, a' = (⟨T, D⟩ : Act).put o.dst v ∧ DstOk o v ∧ Below w.heap.size w w' ∧ Φ i v w') Q) ∨ (Region.wanted o (yielded ops T) = false ∧ Φ i undef w)
/-- An operation of the chain: it takes what the one before it left. -/
def Turns (i : Nat) (o : Oper) (cur : Cur) (φ : Fact) : Prop :=
  ∀ (T : Array Value) (w : World) (Q : Exit → Act → World → Prop), Upd F w0 w → T.size = T0.size → (∀ s, (ops.any fun o => o.dst == some s) = false → T.getD s undef = T0.getD s undef) →
    (∀ s, lateB ops i s = true → T.getD s undef = T0.getD s undef) → Deps ops Φ T w o.after.toList → cur (slotOf ops T) w →
    (Region.wanted o (yielded ops T) = true ∧ o.wp P ⟨T, D⟩ w (fun a' w' => ∃ v, a' = (⟨T, D⟩ : Act).put o.dst v ∧ DstOk o v ∧ Upd F w w' ∧ Φ i v w' ∧ φ v w') Q) ∨ (Region.wanted o (yielded ops T) = false ∧ Φ i undef w ∧ φ undef w)
/-- All operations, in the text's order; 'kinds' tells which of them turn something. -/
def Steps : Nat → List Oper → List (Option Fact) → Cur → Prop
  | _, [], _, _ => True
  | i, o :: r, [], cur => Quiet P ops F Φ T0 D w0 i o ∧ Steps (i + 1) r [] cur
  | i, o :: r, none :: ks, cur => Quiet P ops F Φ T0 D w0 i o ∧ Steps (i + 1) r ks cur
  | i, o :: r, some φ :: ks, cur => Turns P ops F Φ T0 D w0 i o cur φ ∧ Steps (i + 1) r ks fun V w => φ (V i) w
end

/-- What the chain has left ahead of the operation i (from 'base' on). -/
def curOf : Cur → Nat → List (Option Fact) → Nat → Cur
  | cur, _, _, 0 => cur
  | cur, _, [], _ + 1 => cur
  | cur, b, none :: ks, i + 1 => curOf cur (b + 1) ks i
  | _, b, some φ :: ks, i + 1 => curOf (fun V w => φ (V b) w) (b + 1) ks i
def inChain (ks : List (Option Fact)) (i : Nat) : Bool := (ks.getD i none).isSome

theorem steps_get {P : Program} {ops : Array Oper} {F : Nat → Prop} {Φ : Nat → Fact} {T0 : Array Value} {D : List Deferred} {w0 : World} : ∀ {l : List Oper} {b i : Nat} {o : Oper} {ks : List (Option Fact)} {cur : Cur}, Steps P ops F Φ T0 D w0 b l ks cur → l[i]? = some o →
    (match ks.getD i none with | none => Quiet P ops F Φ T0 D w0 (b + i) o | some φ => Turns P ops F Φ T0 D w0 (b + i) o (curOf cur b ks i) φ)
  | [], _, _, _, _, _, _, h => by simp at h
  | x :: l, b, i, o, [], cur, h, hi => by
    cases i with
    | zero =>
      obtain rfl : x = o := by simpa using hi
      exact h.1
    | succ i =>
      have := steps_get (i := i) h.2 (by simpa using hi)
      simp only [List.getD_nil] at this ⊢
      rwa [Nat.add_assoc, Nat.add_comm 1 i] at this
  | x :: l, b, i, o, none :: ks, cur, h, hi => by
    cases i with
    | zero =>
      obtain rfl : x = o := by simpa using hi
      exact h.1
    | succ i =>
      have := steps_get (i := i) h.2 (by simpa using hi)
      rw [Nat.add_assoc, Nat.add_comm 1 i] at this
      simpa [curOf] using this
  | x :: l, b, i, o, some φ :: ks, cur, h, hi => by
    cases i with
    | zero =>
      obtain rfl : x = o := by simpa using hi
      exact h.1
    | succ i =>
      have := steps_get (i := i) h.2 (by simpa using hi)
      rw [Nat.add_assoc, Nat.add_comm 1 i] at this
      simpa [curOf] using this

theorem cur_skip : ∀ {ks : List (Option Fact)} {cur : Cur} {b f i : Nat}, f ≤ i → (∀ j, f ≤ j → j < i → inChain ks j = false) → curOf cur b ks f = curOf cur b ks i
  | _, _, _, f, 0, h, _ => by
    obtain rfl : f = 0 := by omega
    rfl
  | [], _, _, 0, i + 1, _, _ => rfl
  | [], _, _, f + 1, i + 1, _, _ => rfl
  | none :: ks, cur, b, 0, i + 1, h, hc => by
    show cur = curOf cur (b + 1) ks i
    have := cur_skip (ks := ks) (cur := cur) (b := b + 1) (f := 0) (i := i) (Nat.zero_le _) (fun j _ hj => by simpa [inChain] using hc (j + 1) (by omega) (by omega))
    simpa [curOf] using this
  | none :: ks, cur, b, f + 1, i + 1, h, hc =>
    cur_skip (ks := ks) (cur := cur) (b := b + 1) (f := f) (i := i) (by omega) (fun j hf hj => by simpa [inChain] using hc (j + 1) (by omega) (by omega))
  | some φ :: ks, cur, b, 0, i + 1, h, hc => by
    have := hc 0 (Nat.le_refl _) (by omega)
    simp [inChain] at this
  | some φ :: ks, cur, b, f + 1, i + 1, h, hc =>
    cur_skip (ks := ks) (cur := fun V w => φ (V b) w) (b := b + 1) (f := f) (i := i) (by omega) (fun j hf hj => by simpa [inChain] using hc (j + 1) (by omega) (by omega))

theorem cur_succ : ∀ {ks : List (Option Fact)} {cur : Cur} {b i : Nat} {φ : Fact}, ks.getD i none = some φ → curOf cur b ks (i + 1) = fun V w => φ (V (b + i)) w
  | [], _, _, _, _, h => by simp at h
  | k :: ks, cur, b, 0, φ, h => by
    obtain rfl : k = some φ := by simpa using h
    show curOf _ (b + 1) ks 0 = _
    simp [curOf]
  | none :: ks, cur, b, i + 1, φ, h => by
    have := cur_succ (ks := ks) (cur := cur) (b := b + 1) (i := i) (φ := φ) (by simpa using h)
    rw [Nat.add_assoc, Nat.add_comm 1 i] at this
    exact this
  | some ψ :: ks, cur, b, i + 1, φ, h => by
    have := cur_succ (ks := ks) (cur := fun V w => ψ (V b) w) (b := b + 1) (i := i) (φ := φ) (by simpa using h)
    rw [Nat.add_assoc, Nat.add_comm 1 i] at this
    exact this

def KeptKinds : List (Option Fact) → Prop
  | [] => True
  | none :: ks => KeptKinds ks
  | some φ :: ks => Kept φ ∧ KeptKinds ks
theorem cur_keep : ∀ {ks : List (Option Fact)} {cur : Cur} {b f : Nat} {V V' : Nat → Value} {w w' : World}, KeptKinds ks → Below w.heap.size w w' → (∀ j, inChain ks j = true → V' (b + j) = V (b + j)) → (cur V w → cur V' w') → curOf cur b ks f V w → curOf cur b ks f V' w'
  | _, _, _, 0, _, _, _, _, _, _, _, hc, h => by simp only [curOf] at h ⊢; exact hc h
  | [], _, _, _ + 1, _, _, _, _, _, _, _, hc, h => hc h
  | none :: ks, cur, b, f + 1, V, V', w, w', hk, hb, hV, hc, h =>
    cur_keep (ks := ks) (b := b + 1) (f := f) hk hb (fun j hj => by
      have := hV (j + 1) (by simpa [inChain] using hj)
      rwa [Nat.add_comm j 1, ← Nat.add_assoc] at this) hc h
  | some φ :: ks, cur, b, f + 1, V, V', w, w', hk, hb, hV, hc, h =>
    cur_keep (ks := ks) (b := b + 1) (f := f) hk.2 hb (fun j hj => by
      have := hV (j + 1) (by simpa [inChain] using hj)
      rwa [Nat.add_comm j 1, ← Nat.add_assoc] at this) (fun hp => by
      have := hV 0 (by simp [inChain])
      show φ (V' b) w'
      rw [show V' b = V b from this]
      exact hk.1 _ _ _ hp hb) h

/-- Each slot is one operation's, within the frame. -/
def dsts2B (ops : Array Oper) (n : Nat) : Bool :=
  ops.all fun o => match o.dst with | some d => decide (d < n) | none => true
def apart2B (ops : Array Oper) : Bool :=
  (List.range ops.size).all fun i => (List.range ops.size).all fun j => i == j || (ops[i]?).bind (·.dst) == none || ((ops[i]?).bind (·.dst)) != ((ops[j]?).bind (·.dst))
/-- Each of the chain waits for those ahead of it. -/
def chainB (ops : Array Oper) (c : List Bool) : Bool :=
  (List.range ops.size).all fun i => !c.getD i false || (List.range i).all fun j => !c.getD j false || (marks ops j ops.size).getD i false
structure FInv (ops : Array Oper) (F : Nat → Prop) (Φ : Nat → Fact) (ks : List (Option Fact)) (P0 : World → Prop) (T0 : Array Value) (D : List Deferred) (w0 : World) (listed : Array Bool) (a : Act) (w : World) : Prop where
  upd : Upd F w0 w
  defers : a.defers = D
  size : a.tmps.size = T0.size
  lsize : listed.size = ops.size
  vars : ∀ s, (ops.any fun o => o.dst == some s) = false → a.tmps.getD s undef = T0.getD s undef
  facts : ∀ j, listed[j]? = some true → Φ j (slotOf ops a.tmps j) w
  closed : Closed ops fun i => listed[i]? = some true
  early : ∀ (j : Nat) (o : Oper) (s : Tmp), ops[j]? = some o → o.dst = some s → listed[j]? = some false → a.tmps.getD s undef = T0.getD s undef
  phase : ∃ f, (∀ j, j < ops.size → inChain ks j = true → (listed[j]? = some true ↔ j < f)) ∧ curOf (fun _ w => P0 w) 0 ks f (slotOf ops a.tmps) w

theorem fdeps {ops : Array Oper} {F : Nat → Prop} {Φ : Nat → Fact} {ks : List (Option Fact)} {P0 : World → Prop} {T0 : Array Value} {D : List Deferred} {w0 : World} {listed : Array Bool} {a : Act} {w : World} (h : FInv ops F Φ ks P0 T0 D w0 listed a w) : ∀ (l : List Edge),
    (l.all fun e => !Region.binds .any e || listed.getD e.on false) = true → Deps ops Φ a.tmps w l
  | [], _ => trivial
  | e :: r, hl => by
    rw [List.all_cons, Bool.and_eq_true] at hl
    refine ⟨fun hb => h.facts _ ?_, fdeps h r hl.2⟩
    have h1 := hl.1
    rw [hb] at h1
    simp only [Bool.not_true, Bool.false_or] at h1
    rw [Array.getD_eq_getD_getElem?] at h1
    cases hx : listed[e.on]? with
    | none => rw [hx] at h1; simp at h1
    | some b => rw [hx] at h1; simpa using h1

theorem chain_isSome (ks : List (Option Fact)) (j : Nat) : (ks.map (·.isSome)).getD j false = inChain ks j := by
  unfold inChain
  rw [List.getD_eq_getElem?_getD, List.getD_eq_getElem?_getD, List.getElem?_map]
  cases ks[j]? <;> rfl

theorem wpAny_flow {P : Program} {ops : Array Oper} {F : Nat → Prop} {Φ : Nat → Fact} {ks : List (Option Fact)} {P0 : World → Prop} {T0 : Array Value} {D : List Deferred} {w0 : World} {Q : Exit → Act → World → Prop}
    (hk : ∀ i, FKept F (Φ i)) (hP0 : ∀ w w', P0 w → Below w.heap.size w w' → P0 w') (hks : KeptKinds ks) (hd : dsts2B ops T0.size = true) (ha : apart2B ops = true) (hbk : backB ops = true) (hch : chainB ops (ks.map (·.isSome)) = true) (hlen : ks.length ≤ ops.size)
    (hs : Steps P ops F Φ T0 D w0 0 ops.toList ks fun _ w => P0 w)
    (hQ : ∀ T w, Upd F w0 w → T.size = T0.size → (∀ s, (ops.any fun o => o.dst == some s) = false → T.getD s undef = T0.getD s undef) → (∀ j, j < ops.size → Φ j (slotOf ops T j) w) → curOf (fun _ w => P0 w) 0 ks ops.size (slotOf ops T) w → Q .normal ⟨T, D⟩ w) :
    ∀ (fuel : Nat) (listed : Array Bool) (a : Act) (w : World), (listed.toList.countP fun b => !b) ≤ fuel → FInv ops F Φ ks P0 T0 D w0 listed a w → wpAny P .any ops Q fuel listed a w := by
  have hend : ∀ (listed : Array Bool) (a : Act) (w : World), FInv ops F Φ ks P0 T0 D w0 listed a w → (∀ j, j < ops.size → listed[j]? = some true) → Q .normal a w := by
    intro listed a w h hall
    obtain ⟨T, D'⟩ := a
    have hD : D' = D := h.defers
    subst hD
    obtain ⟨f, hf1, hf2⟩ := h.phase
    refine hQ T w h.upd h.size h.vars (fun j hj => h.facts j (hall j hj)) ?_
    rcases Nat.le_total f ops.size with hle | hge
    · rw [← cur_skip (f := f) (i := ops.size) hle (fun j h1 h2 => by
        cases hc : inChain ks j with
        | false => rfl
        | true => have := (hf1 j h2 hc).1 (hall j h2); omega)]
      exact hf2
    · rw [cur_skip (f := ops.size) (i := f) hge (fun j h1 _ => by
        unfold inChain
        rw [List.getD_eq_getElem?_getD, List.getElem?_eq_none (by omega)]; rfl)]
      exact hf2
  intro fuel
  induction fuel with
  | zero =>
    intro listed a w hc h
    have hall : ∀ j, j < ops.size → listed[j]? = some true := by
      intro j hj
      have hj' : j < listed.size := by rw [h.lsize]; exact hj
      have h0 : (listed.toList.countP fun b => !b) = 0 := by omega
      rw [List.countP_eq_zero] at h0
      have := h0 listed[j] (by simp)
      rw [Array.getElem?_eq_getElem hj']
      simpa using this
    refine ⟨?_, hend _ _ _ h hall⟩
    unfold Region.ready
    rw [List.filter_eq_nil_iff]
    intro i hi
    rw [List.mem_range] at hi
    rw [Array.getD_eq_getD_getElem?, hall i hi]
    simp
  | succ fuel ih =>
    intro listed a w hc h
    have hstep : ∀ i ∈ Region.ready .any ops listed, wpOp P ops Q i (wpAny P .any ops Q fuel (listed.setIfInBounds i true)) a w := by
      intro i hi
      unfold Region.ready at hi
      rw [List.mem_filter, List.mem_range, Bool.and_eq_true] at hi
      obtain ⟨hin, hnl, hde⟩ := hi
      have hin' : i < listed.size := by rw [h.lsize]; exact hin
      have ho : ops[i]? = some ops[i] := Array.getElem?_eq_getElem hin
      rw [ho] at hde
      simp only [Option.map_some, Option.getD_some] at hde
      have hdeps := fdeps h ops[i].after.toList (by rw [← Array.all_toList] at hde; exact hde)
      have hstep := steps_get (i := i) (o := ops[i]) hs (by simp [hin])
      rw [Nat.zero_add] at hstep
      obtain ⟨T, D'⟩ := a
      have hD : D' = D := h.defers
      subst hD
      have hlt : listed.getD i true = false := by simpa using hnl
      have hli : listed[i]? = some false := by
        rw [Array.getD_eq_getD_getElem?, Array.getElem?_eq_getElem hin'] at hlt
        rw [Array.getElem?_eq_getElem hin']
        simpa using hlt
      -- what is left, once the operation's value lies
      have hput : ∀ (v : Value) (w' : World), (ops[i].dst = none → v = undef) → Upd F w w' → Φ i v w' →
          (∃ f, (∀ j, j < ops.size → inChain ks j = true → ((listed.setIfInBounds i true)[j]? = some true ↔ j < f)) ∧ ∀ V, V i = v → (∀ j, j ≠ i → V j = slotOf ops T j) → curOf (fun _ w => P0 w) 0 ks f V w') →
          wpAny P .any ops Q fuel (listed.setIfInBounds i true) ((⟨T, D'⟩ : Act).put ops[i].dst v) w' := by
        intro v w' hvn hu hφ hph
        have hself : slotOf ops ((⟨T, D'⟩ : Act).put ops[i].dst v).tmps i = v := by
          cases hdd : ops[i].dst with
          | none =>
            rw [slot_none ho hdd]
            exact (hvn hdd).symm
          | some d =>
            have hdT : d < T.size := by
              unfold dsts2B at hd
              rw [Array.all_eq_true] at hd
              have := hd i hin
              rw [hdd] at this
              rw [show T.size = T0.size from h.size]
              simpa using this
            unfold slotOf
            rw [ho]
            simp only [Option.bind_some, hdd, Option.map_some, Option.getD_some]
            show (T.setIfInBounds d v).getD d undef = v
            rw [Array.getD_eq_getD_getElem?, Array.getElem?_setIfInBounds_self_of_lt hdT]
            rfl
        have hother : ∀ j, j ≠ i → slotOf ops ((⟨T, D'⟩ : Act).put ops[i].dst v).tmps j = slotOf ops T j := by
          intro j hji
          cases hdd : ops[i].dst with
          | none => rfl
          | some d =>
            unfold slotOf
            cases hoj : ops[j]? with
            | none => rfl
            | some oj =>
              cases hdj : oj.dst with
              | none => simp [hdj]
              | some dj =>
                have hjn : j < ops.size := by
                  rcases Nat.lt_or_ge j ops.size with h1 | h1
                  · exact h1
                  · rw [Array.getElem?_eq_none h1] at hoj; cases hoj
                have hne : d ≠ dj := by
                  rintro rfl
                  unfold apart2B at ha
                  rw [List.all_eq_true] at ha
                  have h2 := ha i (List.mem_range.2 hin)
                  rw [List.all_eq_true] at h2
                  have h3 := h2 j (List.mem_range.2 hjn)
                  rw [ho, hoj] at h3
                  simp only [Option.bind_some, hdd, hdj, bne_self_eq_false, Bool.or_false] at h3
                  simp at h3
                  exact hji h3.symm
                simp only [Option.bind_some, hdj, Option.map_some, Option.getD_some]
                show (T.setIfInBounds d v).getD dj undef = T.getD dj undef
                rw [Array.getD_eq_getD_getElem?, Array.getD_eq_getD_getElem?, Array.getElem?_setIfInBounds_ne hne]
        refine ih _ _ _ ?_ ⟨h.upd.then hu, ?_, ?_, ?_, ?_, ?_, ?_, ?_, ?_⟩
        · have hcount : ((listed.setIfInBounds i true).toList.countP fun b => !b) + 1 = (listed.toList.countP fun b => !b) := by
            rw [Array.toList_setIfInBounds]
            have hil : i < listed.toList.length := by simpa using hin'
            have hf : listed.toList[i] = false := by
              rw [Array.getElem?_eq_getElem hin'] at hli
              simpa using hli
            have h1 := List.countP_set (p := fun b => !b) (l := listed.toList) (i := i) (a := true) hil
            have hpos : 0 < (listed.toList.countP fun b => !b) := by
              rw [List.countP_pos_iff]
              exact ⟨false, by rw [← hf]; exact List.getElem_mem hil, rfl⟩
            rw [h1, hf]
            simp only [Bool.not_false, if_true, Bool.not_true, Bool.false_eq_true, if_false]
            omega
          omega
        · show (Act.put _ _ _).defers = _
          cases hdd : ops[i].dst <;> rfl
        · show (Act.put _ _ _).tmps.size = _
          cases hdd : ops[i].dst with
          | none => exact h.size
          | some d =>
            show (T.setIfInBounds d v).size = _
            rw [Array.size_setIfInBounds]; exact h.size
        · rw [Array.size_setIfInBounds]; exact h.lsize
        · intro s hsn
          rw [← h.vars s hsn]
          cases hdd : ops[i].dst with
          | none => rfl
          | some d =>
            have hne : s ≠ d := by
              rintro rfl
              rw [any_of_get ho hdd] at hsn
              cases hsn
            show (T.setIfInBounds d v).getD s undef = T.getD s undef
            rw [Array.getD_eq_getD_getElem?, Array.getD_eq_getD_getElem?, Array.getElem?_setIfInBounds_ne (Ne.symm hne)]
        · intro j hj
          by_cases hji : j = i
          · subst hji
            rw [hself]; exact hφ
          · rw [Array.getElem?_setIfInBounds_ne (Ne.symm hji)] at hj
            rw [hother j hji]
            exact hk j _ _ _ (h.facts j hj) hu
        · intro j o hj hoj e he hb
          have hold : listed[e.on]? = some true := by
            by_cases hji : j = i
            · subst hji
              obtain rfl : ops[j] = o := by rw [ho] at hoj; exact Option.some.inj hoj
              rw [Array.all_eq_true'] at hde
              have h4 := hde e he
              rw [hb] at h4
              simp only [Bool.not_true, Bool.false_or] at h4
              rw [Array.getD_eq_getD_getElem?] at h4
              cases hx : listed[e.on]? with
              | none => rw [hx] at h4; simp at h4
              | some b => rw [hx] at h4; simpa using h4
            · rw [Array.getElem?_setIfInBounds_ne (Ne.symm hji)] at hj
              exact h.closed j o hj hoj e he hb
          by_cases hei : e.on = i
          · rw [hei]; exact Array.getElem?_setIfInBounds_self_of_lt hin'
          · rw [Array.getElem?_setIfInBounds_ne (Ne.symm hei)]; exact hold
        · intro j o s hoj hds hlj
          have hji : j ≠ i := by
            rintro rfl
            rw [Array.getElem?_setIfInBounds_self_of_lt hin'] at hlj
            cases hlj
          rw [Array.getElem?_setIfInBounds_ne (Ne.symm hji)] at hlj
          have h1 := hother j hji
          unfold slotOf at h1
          rw [hoj] at h1
          simp only [Option.bind_some, hds, Option.map_some, Option.getD_some] at h1
          rw [h1]
          exact h.early j o s hoj hds hlj
        · obtain ⟨f, hf1, hf2⟩ := hph
          exact ⟨f, hf1, hf2 _ hself hother⟩
      obtain ⟨f, hf1, hf2⟩ := h.phase
      have hlate : ∀ s, lateB ops i s = true → T.getD s undef = T0.getD s undef := by
        intro s hs'
        unfold lateB at hs'
        rw [List.any_eq_true] at hs'
        obtain ⟨j, hj, hs'⟩ := hs'
        rw [Bool.and_eq_true] at hs'
        have hjn := List.mem_range.1 hj
        have hlj : listed[j]? = some false := by
          have hjl : j < listed.size := by rw [h.lsize]; exact hjn
          rw [Array.getElem?_eq_getElem hjl]
          cases hb : listed[j] with
          | false => rfl
          | true =>
            have h3 : listed[i]? = some true := marks_closed h.closed i ops.size j hs'.2 (by
              show listed[j]? = some true
              rw [Array.getElem?_eq_getElem hjl, hb])
            rw [hli] at h3; cases h3
        refine h.early j ops[j] s (Array.getElem?_eq_getElem hjn) ?_ hlj
        have h4 := hs'.1
        rw [Array.getElem?_eq_getElem hjn] at h4
        simpa using h4
      unfold wpOp
      simp only [ho]
      cases hkind : ks.getD i none with
      | none =>
        have hic : inChain ks i = false := by unfold inChain; rw [hkind]; rfl
        rw [hkind] at hstep
        have hph : ∀ (v : Value) (w' : World), Below w.heap.size w w' → ∃ f, (∀ j, j < ops.size → inChain ks j = true → ((listed.setIfInBounds i true)[j]? = some true ↔ j < f)) ∧ ∀ V, V i = v → (∀ j, j ≠ i → V j = slotOf ops T j) → curOf (fun _ w => P0 w) 0 ks f V w' := by
          intro v w' hb
          refine ⟨f, fun j hj hcj => ?_, fun V _ hV => ?_⟩
          · have hne : i ≠ j := by rintro rfl; rw [hic] at hcj; cases hcj
            rw [Array.getElem?_setIfInBounds_ne hne]
            exact hf1 j hj hcj
          · refine cur_keep hks hb (fun j hj => ?_) (fun hp => hP0 _ _ hp hb) hf2
            rw [Nat.zero_add]
            exact hV j (by rintro rfl; rw [hic] at hj; cases hj)
        rcases hstep T w Q h.upd h.size h.vars hlate hdeps with ⟨hw, hwp⟩ | ⟨hw, hφ⟩
        · simp only [hw, if_true]
          refine .inl (Oper.wp_mono ?_ hwp)
          rintro a' w' ⟨v, rfl, hvn, hb, hφ⟩
          exact hput v w' hvn (.of_below F hb) hφ (hph v w' hb)
        · simp only [hw, Bool.false_eq_true, if_false]
          exact hput undef w (fun _ => rfl) (.refl F w) hφ (hph undef w (Below.refl _ _))
      | some φ =>
        have hic : inChain ks i = true := by unfold inChain; rw [hkind]; rfl
        rw [hkind] at hstep
        have hfi : f ≤ i := by
          rcases Nat.lt_or_ge i f with h1 | h1
          · have := (hf1 i hin hic).2 h1
            rw [hli] at this; cases this
          · exact h1
        have hprev : ∀ j, j < i → inChain ks j = true → j < f := by
          intro j hj hcj
          unfold chainB at hch
          rw [List.all_eq_true] at hch
          have h1 := hch i (List.mem_range.2 hin)
          rw [chain_isSome, hic] at h1
          simp only [Bool.not_true, Bool.false_or] at h1
          rw [List.all_eq_true] at h1
          have h2 := h1 j (List.mem_range.2 hj)
          rw [chain_isSome, hcj] at h2
          simp only [Bool.not_true, Bool.false_or] at h2
          rw [marks_at (marks_lt h2), Bool.or_eq_true] at h2
          rcases h2 with h2 | h2
          · have := eq_of_beq h2; omega
          · rw [ho] at h2
            simp only [Option.map_some, Option.getD_some] at h2
            rw [Array.any_eq_true'] at h2
            obtain ⟨e, he, h3⟩ := h2
            rw [Bool.and_eq_true] at h3
            rw [Array.all_eq_true'] at hde
            have h4 := hde e he
            rw [h3.1] at h4
            simp only [Bool.not_true, Bool.false_or] at h4
            have hel : listed[e.on]? = some true := by
              rw [Array.getD_eq_getD_getElem?] at h4
              cases hx : listed[e.on]? with
              | none => rw [hx] at h4; simp at h4
              | some b => rw [hx] at h4; simpa using h4
            exact (hf1 j (by omega) hcj).1 (marks_closed h.closed j i e.on h3.2 hel)
        have hcur : curOf (fun _ w => P0 w) 0 ks i (slotOf ops T) w := by
          rw [← cur_skip hfi (fun j h1 h2 => by
            cases hc : inChain ks j with
            | false => rfl
            | true => have := hprev j h2 hc; omega)]
          exact hf2
        have hph : ∀ (v : Value) (w' : World), φ v w' → ∃ f, (∀ j, j < ops.size → inChain ks j = true → ((listed.setIfInBounds i true)[j]? = some true ↔ j < f)) ∧ ∀ V, V i = v → (∀ j, j ≠ i → V j = slotOf ops T j) → curOf (fun _ w => P0 w) 0 ks f V w' := by
          intro v w' hφ
          refine ⟨i + 1, fun j hj hcj => ?_, fun V hVi _ => ?_⟩
          · by_cases hji : j = i
            · subst hji
              rw [Array.getElem?_setIfInBounds_self_of_lt hin']
              simp
            · rw [Array.getElem?_setIfInBounds_ne (Ne.symm hji), hf1 j hj hcj]
              constructor
              · intro h1; omega
              · intro h1; exact hprev j (by omega) hcj
          · rw [cur_succ hkind]
            show φ (V (0 + i)) w'
            rw [Nat.zero_add, hVi]
            exact hφ
        rcases hstep T w Q h.upd h.size h.vars hlate hdeps hcur with ⟨hw, hwp⟩ | ⟨hw, hφ, hψ⟩
        · simp only [hw, if_true]
          refine .inl (Oper.wp_mono ?_ hwp)
          rintro a' w' ⟨v, rfl, hvn, hu, hφ, hψ⟩
          exact hput v w' hvn hu hφ (hph v w' hψ)
        · simp only [hw, Bool.false_eq_true, if_false]
          exact hput undef w (fun _ => rfl) (.refl F w) hφ (hph undef w hψ)
    refine ⟨fun hr => ?_, hstep⟩
    refine hend _ _ _ h ?_
    intro j
    induction j using Nat.strongRecOn with
    | ind j ihj =>
      intro hj
      have hjl : j < listed.size := by rw [h.lsize]; exact hj
      cases hb : listed[j] with
      | true => rw [Array.getElem?_eq_getElem hjl, hb]
      | false =>
        exfalso
        have hmem : j ∈ Region.ready .any ops listed := by
          unfold Region.ready
          rw [List.mem_filter, List.mem_range, Bool.and_eq_true]
          refine ⟨hj, ?_, ?_⟩
          · rw [Array.getD_eq_getD_getElem?, Array.getElem?_eq_getElem hjl, hb]; rfl
          · rw [Array.getElem?_eq_getElem hj]
            simp only [Option.map_some, Option.getD_some]
            unfold backB at hbk
            rw [List.all_eq_true] at hbk
            have h1 := hbk j (List.mem_range.2 hj)
            rw [Array.getElem?_eq_getElem hj] at h1
            simp only [Option.map_some, Option.getD_some] at h1
            rw [Array.all_eq_true'] at h1 ⊢
            intro e he
            have h2 := h1 e he
            rw [decide_eq_true_iff] at h2
            rw [Array.getD_eq_getD_getElem?, ihj e.on h2 (by omega)]
            simp
        rw [hr] at hmem
        cases hmem

/-- The region's rule. -/
theorem wp_region_flow {P : Program} {ops : Array Oper} {id : Nat} {a0 : Act} {w0 : World} {Q : Exit → Act → World → Prop} (F : Nat → Prop) (Φ : Nat → Fact) (ks : List (Option Fact)) (P0 : World → Prop)
    (hm : P.follows .mixedOrders = true) (hk : ∀ i, FKept F (Φ i)) (hP0 : ∀ w w', P0 w → Below w.heap.size w w' → P0 w') (hks : KeptKinds ks) (hd : dsts2B ops a0.tmps.size = true) (ha : apart2B ops = true) (hbk : backB ops = true) (hch : chainB ops (ks.map (·.isSome)) = true) (hlen : ks.length ≤ ops.size)
    (h0 : P0 w0) (hs : Steps P ops F Φ a0.tmps a0.defers w0 0 ops.toList ks fun _ w => P0 w)
    (hQ : ∀ T w, Upd F w0 w → T.size = a0.tmps.size → (∀ s, (ops.any fun o => o.dst == some s) = false → T.getD s undef = a0.tmps.getD s undef) → (∀ j, j < ops.size → Φ j (slotOf ops T j) w) → curOf (fun _ w => P0 w) 0 ks ops.size (slotOf ops T) w → Q .normal ⟨T, a0.defers⟩ w) :
    (Code.region id ops true).wp P Q a0 w0 := by
  refine wp_region_any hm (wpAny_flow hk hP0 hks hd ha hbk hch hlen hs hQ _ _ _ _ ?_ ⟨(Upd.refl F w0).drew, rfl, rfl, by simp, fun _ _ => rfl, fun j hj => ?_, fun i o hi => ?_, fun _ _ _ _ _ _ => rfl, 0, fun j hj _ => ?_, ?_⟩)
  · rw [Array.toList_replicate]
    exact Nat.le_trans List.countP_le_length (by simp)
  · rw [Array.getElem?_replicate] at hj
    split at hj <;> simp at hj
  · replace hi : (Array.replicate ops.size false)[i]? = some true := hi
    rw [Array.getElem?_replicate] at hi
    split at hi <;> simp at hi
  · rw [Array.getElem?_replicate]
    constructor
    · intro h; split at h <;> simp at h
    · intro h; omega
  · simp only [curOf]
    exact hP0 _ _ h0 (Below.refl _ w0).drew
end Go.Proofs.YtiiihpokpfhclaaDoor
