/- A region that draws its order, and whose operations only read what was there and make new memory: what holds behind each operation, and is kept as memory grows, holds behind all of them, in whatever order they come. -/
import Derived.Test.YtojbfopmlgdjlaaDoorMem
import Derived.RegionTactic
namespace Go.Proofs.YtojbfopmlgdjlaaDoor
open Go Go.RowKit

/-- What an operation's slot holds. -/
def slotOf (ops : Array Oper) (T : Array Value) (j : Nat) : Value := ((((ops[j]?).bind (·.dst)).map fun d => T.getD d undef)).getD undef

abbrev Fact := Value → World → Prop
/-- A fact that is kept as memory grows. -/
def Kept (φ : Fact) : Prop := ∀ v w w', φ v w → Below w.heap.size w w' → φ v w'
theorem Kept.eq (c : Value) : Kept (fun v _ => v = c) := fun _ _ _ h _ => h

/-- The facts of the operations ahead of which an operation may not come. -/
def Deps (ops : Array Oper) (Φ : Nat → Fact) (T : Array Value) (w : World) : List Edge → Prop
  | [] => True
  | e :: r => (Region.binds .any e = true → Φ e.on (slotOf ops T e.on) w) ∧ Deps ops Φ T w r

/-- One operation does what its fact says, whatever has been done beside it. -/
def StepOk (P : Program) (ops : Array Oper) (Φ : Nat → Fact) (T0 : Array Value) (D : List Deferred) (w0 : World) (i : Nat) (o : Oper) : Prop :=
  ∀ (T : Array Value) (w : World) (Q : Exit → Act → World → Prop), Below w0.heap.size w0 w → T.size = T0.size → (∀ s, (ops.any fun o => o.dst == some s) = false → T.getD s undef = T0.getD s undef) →
    Deps ops Φ T w o.after.toList → Region.wanted o (yielded ops T) = true ∧ o.wp P ⟨T, D⟩ w (fun a' w' => ∃ v, a' = (⟨T, D⟩ : Act).put o.dst v ∧ Below w.heap.size w w' ∧ Φ i v w') Q

def StepsOk (P : Program) (ops : Array Oper) (Φ : Nat → Fact) (T0 : Array Value) (D : List Deferred) (w0 : World) : Nat → List Oper → Prop
  | _, [] => True
  | i, o :: r => StepOk P ops Φ T0 D w0 i o ∧ StepsOk P ops Φ T0 D w0 (i + 1) r
theorem StepsOk.get {P : Program} {ops : Array Oper} {Φ : Nat → Fact} {T0 : Array Value} {D : List Deferred} {w0 : World} : ∀ {k : Nat} {l : List Oper} {i : Nat} {o : Oper},
    StepsOk P ops Φ T0 D w0 k l → l[i]? = some o → StepOk P ops Φ T0 D w0 (k + i) o
  | k, [], i, o, _, h => by simp at h
  | k, x :: l, 0, o, h, hi => by
    have : x = o := by simpa using hi
    exact this ▸ h.1
  | k, x :: l, i + 1, o, h, hi => by
    have := StepsOk.get (i := i) h.2 (by simpa using hi)
    rwa [Nat.add_assoc, Nat.add_comm 1 i] at this

/-- Each operation writes a slot of its own, within the frame. -/
def dstsB (ops : Array Oper) (n : Nat) : Bool :=
  ops.all fun o => match o.dst with | some d => decide (d < n) | none => false
def apartB (ops : Array Oper) : Bool :=
  (List.range ops.size).all fun i => (List.range ops.size).all fun j => i == j || ((ops[i]?).bind (·.dst)) != ((ops[j]?).bind (·.dst))

/-- Edges lead back in the text. -/
def backB (ops : Array Oper) : Bool :=
  (List.range ops.size).all fun i => ((ops[i]?).map fun o => o.after.all fun e => decide (e.on < i)).getD false

structure Inv (ops : Array Oper) (Φ : Nat → Fact) (T0 : Array Value) (D : List Deferred) (w0 : World) (listed : Array Bool) (a : Act) (w : World) : Prop where
  below : Below w0.heap.size w0 w
  defers : a.defers = D
  size : a.tmps.size = T0.size
  lsize : listed.size = ops.size
  vars : ∀ s, (ops.any fun o => o.dst == some s) = false → a.tmps.getD s undef = T0.getD s undef
  facts : ∀ j, listed[j]? = some true → Φ j (slotOf ops a.tmps j) w

theorem deps_of {ops : Array Oper} {Φ : Nat → Fact} {T0 : Array Value} {D : List Deferred} {w0 : World} {listed : Array Bool} {a : Act} {w : World} (h : Inv ops Φ T0 D w0 listed a w) : ∀ (l : List Edge),
    (l.all fun e => !Region.binds .any e || listed.getD e.on false) = true → Deps ops Φ a.tmps w l
  | [], _ => trivial
  | e :: r, hl => by
    rw [List.all_cons, Bool.and_eq_true] at hl
    refine ⟨fun hb => h.facts _ ?_, deps_of h r hl.2⟩
    have h1 := hl.1
    rw [hb] at h1
    simp only [Bool.not_true, Bool.false_or] at h1
    rw [Array.getD_eq_getD_getElem?] at h1
    cases hx : listed[e.on]? with
    | none => rw [hx] at h1; simp at h1
    | some b => rw [hx] at h1; simpa using h1

theorem any_of_get {ops : Array Oper} {i : Nat} {o : Oper} {d : Tmp} (ho : ops[i]? = some o) (hd : o.dst = some d) : (ops.any fun o => o.dst == some d) = true := by
  rw [Array.any_eq_true']
  exact ⟨o, Array.mem_of_getElem? ho, by simp [hd]⟩

theorem wpAny_inv {P : Program} {ops : Array Oper} {Φ : Nat → Fact} {T0 : Array Value} {D : List Deferred} {w0 : World} {Q : Exit → Act → World → Prop}
    (hk : ∀ i, Kept (Φ i)) (hd : dstsB ops T0.size = true) (ha : apartB ops = true) (hbk : backB ops = true) (hs : StepsOk P ops Φ T0 D w0 0 ops.toList)
    (hQ : ∀ T w, Below w0.heap.size w0 w → T.size = T0.size → (∀ s, (ops.any fun o => o.dst == some s) = false → T.getD s undef = T0.getD s undef) → (∀ j, j < ops.size → Φ j (slotOf ops T j) w) → Q .normal ⟨T, D⟩ w) :
    ∀ (fuel : Nat) (listed : Array Bool) (a : Act) (w : World), (listed.toList.countP fun b => !b) ≤ fuel → Inv ops Φ T0 D w0 listed a w → wpAny P .any ops Q fuel listed a w := by
  have hend : ∀ (listed : Array Bool) (a : Act) (w : World), Inv ops Φ T0 D w0 listed a w → (∀ j, j < ops.size → listed[j]? = some true) → Q .normal a w := by
    intro listed a w h hall
    obtain ⟨T, D'⟩ := a
    have hD : D' = D := h.defers
    subst hD
    exact hQ T w h.below h.size h.vars fun j hj => h.facts j (hall j hj)
  -- an operation that is not listed and whose edges' ends are listed may come up: so where none may, all are listed
  intro fuel
  induction fuel with
  | zero =>
    intro listed a w hc h
    have hall : ∀ j, j < ops.size → listed[j]? = some true := by
      intro j hj
      have hj' : j < listed.size := by rw [h.lsize]; exact hj
      have h0 : (listed.toList.countP fun b => !b) = 0 := by omega
      rw [List.countP_eq_zero] at h0
      have := h0 listed[j] (by simp)
      rw [Array.getElem?_eq_getElem hj']
      simpa using this
    refine ⟨?_, hend _ _ _ h hall⟩
    unfold Region.ready
    rw [List.filter_eq_nil_iff]
    intro i hi
    rw [List.mem_range] at hi
    rw [Array.getD_eq_getD_getElem?, hall i hi]
    simp
  | succ fuel ih =>
    intro listed a w hc h
    have hstep : ∀ i ∈ Region.ready .any ops listed, wpOp P ops Q i (wpAny P .any ops Q fuel (listed.setIfInBounds i true)) a w := by
      intro i hi
      unfold Region.ready at hi
      rw [List.mem_filter, List.mem_range, Bool.and_eq_true] at hi
      obtain ⟨hin, hnl, hde⟩ := hi
      have hin' : i < listed.size := by rw [h.lsize]; exact hin
      have ho : ops[i]? = some ops[i] := Array.getElem?_eq_getElem hin
      rw [ho] at hde
      simp only [Option.map_some, Option.getD_some] at hde
      have hdeps := deps_of h ops[i].after.toList (by rw [← Array.all_toList] at hde; exact hde)
      have hstep := StepsOk.get (i := i) (o := ops[i]) hs (by simp [hin])
      rw [Nat.zero_add] at hstep
      obtain ⟨T, D'⟩ := a
      have hD : D' = D := h.defers
      subst hD
      obtain ⟨hw, hwp⟩ := hstep T w Q h.below h.size h.vars hdeps
      have hdst : ∃ d, ops[i].dst = some d ∧ d < T.size := by
        unfold dstsB at hd
        rw [Array.all_eq_true] at hd
        have := hd i hin
        cases hx : ops[i].dst with
        | none => rw [hx] at this; simp at this
        | some d => rw [hx] at this; exact ⟨d, rfl, by rw [h.size]; simpa using this⟩
      obtain ⟨d, hdd, hdT⟩ := hdst
      unfold wpOp
      simp only [ho, hw, if_true]
      refine .inl (Oper.wp_mono ?_ hwp)
      rintro a' w' ⟨v, rfl, hb, hφ⟩
      have hlt : listed.getD i true = false := by simpa using hnl
      refine ih _ _ _ ?_ ⟨?_, ?_, ?_, ?_, ?_, ?_⟩
      · have hcount : ((listed.setIfInBounds i true).toList.countP fun b => !b) + 1 = (listed.toList.countP fun b => !b) := by
          rw [Array.toList_setIfInBounds]
          have hil : i < listed.toList.length := by simpa using hin'
          have hf : listed.toList[i] = false := by
            rw [Array.getD_eq_getD_getElem?, Array.getElem?_eq_getElem hin'] at hlt
            simpa using hlt
          have h1 := List.countP_set (p := fun b => !b) (l := listed.toList) (i := i) (a := true) hil
          have hpos : 0 < (listed.toList.countP fun b => !b) := by
            rw [List.countP_pos_iff]
            exact ⟨false, by rw [← hf]; exact List.getElem_mem hil, rfl⟩
          rw [h1, hf]
          simp only [Bool.not_false, if_true, Bool.not_true, Bool.false_eq_true, if_false]
          omega
        omega
      · exact h.below.trans (hb.mono h.below.size)
      · show (Act.put _ _ _).defers = _
        rw [hdd]; rfl
      · show (Act.put _ _ _).tmps.size = _
        rw [hdd]
        show (T.setIfInBounds d v).size = _
        rw [Array.size_setIfInBounds]; exact h.size
      · rw [Array.size_setIfInBounds]; exact h.lsize
      · intro s hsn
        have hne : s ≠ d := by
          rintro rfl
          rw [any_of_get ho hdd] at hsn
          cases hsn
        rw [← h.vars s hsn, hdd]
        show (T.setIfInBounds d v).getD s undef = T.getD s undef
        rw [Array.getD_eq_getD_getElem?, Array.getD_eq_getD_getElem?, Array.getElem?_setIfInBounds_ne (Ne.symm hne)]
      · intro j hj
        by_cases hji : j = i
        · subst hji
          have hv : slotOf ops ((⟨T, D'⟩ : Act).put ops[j].dst v).tmps j = v := by
            unfold slotOf
            rw [ho]
            simp only [Option.bind_some, hdd, Option.map_some, Option.getD_some]
            show (T.setIfInBounds d v).getD d undef = v
            rw [Array.getD_eq_getD_getElem?, Array.getElem?_setIfInBounds_self_of_lt hdT]
            rfl
          rw [hv]; exact hφ
        · rw [Array.getElem?_setIfInBounds_ne (Ne.symm hji)] at hj
          have hold := h.facts j hj
          have hjn : j < ops.size := by
            rw [← h.lsize]
            rcases Nat.lt_or_ge j listed.size with hlt | hge
            · exact hlt
            · rw [Array.getElem?_eq_none hge] at hj; cases hj
          have hs' : slotOf ops ((⟨T, D'⟩ : Act).put ops[i].dst v).tmps j = slotOf ops T j := by
            unfold slotOf
            rw [Array.getElem?_eq_getElem hjn]
            cases hdj : ops[j].dst with
            | none => simp [hdj]
            | some dj =>
              have hne : d ≠ dj := by
                rintro rfl
                unfold apartB at ha
                rw [List.all_eq_true] at ha
                have h2 := ha i (List.mem_range.2 hin)
                rw [List.all_eq_true] at h2
                have h3 := h2 j (List.mem_range.2 hjn)
                rw [ho, Array.getElem?_eq_getElem hjn] at h3
                simp only [Option.bind_some, hdd, hdj, bne_self_eq_false, Bool.or_false, beq_iff_eq] at h3
                exact hji h3.symm
              simp only [Option.bind_some, hdj, Option.map_some, Option.getD_some, hdd]
              show (T.setIfInBounds d v).getD dj undef = T.getD dj undef
              rw [Array.getD_eq_getD_getElem?, Array.getD_eq_getD_getElem?, Array.getElem?_setIfInBounds_ne hne]
          rw [hs']
          exact hk j _ _ _ hold hb
    refine ⟨fun hr => ?_, hstep⟩
    refine hend _ _ _ h ?_
    intro j
    induction j using Nat.strongRecOn with
    | ind j ihj =>
      intro hj
      have hjl : j < listed.size := by rw [h.lsize]; exact hj
      cases hb : listed[j] with
      | true => rw [Array.getElem?_eq_getElem hjl, hb]
      | false =>
        exfalso
        have hmem : j ∈ Region.ready .any ops listed := by
          unfold Region.ready
          rw [List.mem_filter, List.mem_range, Bool.and_eq_true]
          refine ⟨hj, ?_, ?_⟩
          · rw [Array.getD_eq_getD_getElem?, Array.getElem?_eq_getElem hjl, hb]; rfl
          · rw [Array.getElem?_eq_getElem hj]
            simp only [Option.map_some, Option.getD_some]
            unfold backB at hbk
            rw [List.all_eq_true] at hbk
            have h1 := hbk j (List.mem_range.2 hj)
            rw [Array.getElem?_eq_getElem hj] at h1
            simp only [Option.map_some, Option.getD_some] at h1
            rw [Array.all_eq_true'] at h1 ⊢
            intro e he
            have h2 := h1 e he
            rw [decide_eq_true_iff] at h2
            rw [Array.getD_eq_getD_getElem?, ihj e.on h2 (by omega)]
            simp
        rw [hr] at hmem
        cases hmem

/-- The region's rule. -/
theorem wp_region_kept {P : Program} {ops : Array Oper} {id : Nat} {a0 : Act} {w0 : World} {Q : Exit → Act → World → Prop} (Φ : Nat → Fact)
    (hm : P.follows .mixedOrders = true) (hk : ∀ i, Kept (Φ i)) (hd : dstsB ops a0.tmps.size = true) (ha : apartB ops = true) (hbk : backB ops = true) (hs : StepsOk P ops Φ a0.tmps a0.defers w0 0 ops.toList)
    (hQ : ∀ T w, Below w0.heap.size w0 w → T.size = a0.tmps.size → (∀ s, (ops.any fun o => o.dst == some s) = false → T.getD s undef = a0.tmps.getD s undef) → (∀ j, j < ops.size → Φ j (slotOf ops T j) w) → Q .normal ⟨T, a0.defers⟩ w) :
    (Code.region id ops true).wp P Q a0 w0 := by
  refine wp_region_any hm (wpAny_inv hk hd ha hbk hs hQ _ _ _ _ ?_ ⟨?_, rfl, rfl, by simp, fun _ _ => rfl, fun j hj => ?_⟩)
  · rw [Array.toList_replicate]
    exact Nat.le_trans List.countP_le_length (by simp)
  · exact (Below.refl _ w0).drew
  · rw [Array.getElem?_replicate] at hj
    split at hj <;> simp at hj

theorem Deps.at {ops : Array Oper} {Φ : Nat → Fact} {T : Array Value} {w : World} (j : Nat) : ∀ {l : List Edge}, Deps ops Φ T w l → (l.any fun e => Region.binds .any e && e.on == j) = true → Φ j (slotOf ops T j) w
  | [], _, h => by simp at h
  | e :: r, h, hj => by
    rw [List.any_cons, Bool.or_eq_true, Bool.and_eq_true, beq_iff_eq] at hj
    rcases hj with ⟨hb, rfl⟩ | hj
    · exact h.1 hb
    · exact Deps.at j h.2 hj
theorem wanted_none {o : Oper} {y : Nat → Option Bool} (h : o.guard = none) : Region.wanted o y = true := by
  unfold Region.wanted; rw [h]
theorem wanted_some {ops : Array Oper} {T : Array Value} {o : Oper} {g : Nat} {b : Bool} (h : o.guard = some (g, b)) (hs : slotOf ops T g = .bool b) : Region.wanted o (yielded ops T) = true := by
  unfold Region.wanted; rw [h]
  have hy : yielded ops T g = some b := by
    unfold slotOf at hs
    unfold yielded
    cases hd : (ops[g]?).bind (·.dst) with
    | none => rw [hd] at hs; simp [undef] at hs
    | some d =>
      rw [hd] at hs
      simp only [Option.map_some, Option.getD_some] at hs
      rw [Array.getD_eq_getD_getElem?] at hs
      cases ht : T[d]? with
      | none => rw [ht] at hs; simp [undef] at hs
      | some v =>
        rw [ht] at hs
        simp only [Option.getD_some] at hs
        subst hs
        show (match T[d]? with | some (Value.bool b) => some b | _ => none) = some b
        rw [ht]
  show (yielded ops T g == some b) = true
  rw [hy]; simp
def factAt (L : List Fact) (i : Nat) : Fact := L.getD i fun _ _ => True
def KeptAll : List Fact → Prop
  | [] => True
  | φ :: r => Kept φ ∧ KeptAll r
theorem kept_at : ∀ {L : List Fact}, KeptAll L → ∀ i, Kept (factAt L i)
  | [], _, i => by intro v w w' h _; simp [factAt]
  | φ :: r, h, 0 => h.1
  | φ :: r, h, i + 1 => kept_at h.2 i

theorem kept_rows (ls : List (List UInt8)) : Kept (fun v w => RowsV w w.heap.size v ls) := fun _ _ _ h hb => (h.below hb).more hb.size
theorem kept_strs (ss : List ByteArray) : Kept (fun v w => StrsV w w.heap.size v ss) := fun _ _ _ h hb => (h.below hb).more hb.size
end Go.Proofs.YtojbfopmlgdjlaaDoor
