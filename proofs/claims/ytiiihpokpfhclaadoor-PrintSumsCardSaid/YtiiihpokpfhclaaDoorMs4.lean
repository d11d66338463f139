/- Part 4 of the walks (merged): FlowS, Gx, Pw, Px. -/
import Derived.Test.YtiiihpokpfhclaaDoorMs3
import Derived.Test.YtiiihpokpfhclaaDoorProg
import Derived.Test.YtiiihpokpfhclaaDoorMs2
import Derived.WalkSmall
import Derived.Lib.ItoaLen
/- The rule of XFlow, where the chain's fact behind the operation i speaks of the slot of the operation sr i. -/
namespace Go.Proofs.YtiiihpokpfhclaaDoor
open Go Go.RowKit
/-- What the fact behind i speaks of. -/
def ownV (sr : Nat → Nat) (i : Nat) (v : Value) (V : Nat → Value) : Value := bif sr i == i then v else V (sr i)
def srcB (ks : List (Option Fact)) (sr : Nat → Nat) : Bool := (List.range ks.length).all fun j => !inChain ks j || inChain ks (sr j)
theorem srcB_at {ks : List (Option Fact)} {sr : Nat → Nat} (h : srcB ks sr = true) {j : Nat} (hj : inChain ks j = true) : inChain ks (sr j) = true := by
  unfold srcB at h
  rw [List.all_eq_true] at h
  have hlt : j < ks.length := by
    rcases Nat.lt_or_ge j ks.length with h1 | h1
    · exact h1
    · unfold inChain at hj
      rw [List.getD_eq_getElem?_getD, List.getElem?_eq_none h1] at hj
      cases hj
  have := h j (List.mem_range.2 hlt)
  rw [hj] at this
  simpa using this
section
variable (sr : Nat → Nat) (P : Program) (ops : Array Oper) (F : Nat → Prop) (Φ : Nat → Fact) (T0 : Array Value) (D : List Deferred) (w0 : World)
/-- An operation of the chain: it takes what the one before it left. -/
def TurnsS (i : Nat) (o : Oper) (cur : Cur) (φ : Fact) : Prop :=
  ∀ (T : Array Value) (w : World) (Q : Exit → Act → World → Prop), Upd F w0 w → T.size = T0.size → (∀ s, (ops.any fun o => o.dst == some s) = false → T.getD s undef = T0.getD s undef) →
    (∀ s, lateB ops i s = true → T.getD s undef = T0.getD s undef) → Deps ops Φ T w o.after.toList → cur (slotOf ops T) w →
    (Region.wanted o (yielded ops T) = true ∧ o.wp P ⟨T, D⟩ w (fun a' w' => ∃ v, a' = (⟨T, D⟩ : Act).put o.dst v ∧ DstOk o v ∧ Upd F w w' ∧ Φ i v w' ∧ φ (ownV sr i v (slotOf ops T)) w') Q) ∨ (Region.wanted o (yielded ops T) = false ∧ Φ i undef w ∧ φ (ownV sr i undef (slotOf ops T)) w)
/-- All operations, in the text's order; 'kinds' tells which of them turn something. -/
def StepsS : Nat → List Oper → List (Option Fact) → Cur → Prop
  | _, [], _, _ => True
  | i, o :: r, [], cur => Quiet P ops F Φ T0 D w0 i o ∧ StepsS (i + 1) r [] cur
  | i, o :: r, none :: ks, cur => Quiet P ops F Φ T0 D w0 i o ∧ StepsS (i + 1) r ks cur
  | i, o :: r, some φ :: ks, cur => TurnsS sr P ops F Φ T0 D w0 i o cur φ ∧ StepsS (i + 1) r ks fun V w => φ (V (sr i)) w
end
/-- What the chain has left ahead of the operation i (from 'base' on). -/
def curOfS (sr : Nat → Nat) : Cur → Nat → List (Option Fact) → Nat → Cur
  | cur, _, _, 0 => cur
  | cur, _, [], _ + 1 => cur
  | cur, b, none :: ks, i + 1 => curOfS sr cur (b + 1) ks i
  | _, b, some φ :: ks, i + 1 => curOfS sr (fun V w => φ (V (sr b)) w) (b + 1) ks i
theorem steps_getS {sr : Nat → Nat} {P : Program} {ops : Array Oper} {F : Nat → Prop} {Φ : Nat → Fact} {T0 : Array Value} {D : List Deferred} {w0 : World} : ∀ {l : List Oper} {b i : Nat} {o : Oper} {ks : List (Option Fact)} {cur : Cur}, StepsS sr P ops F Φ T0 D w0 b l ks cur → l[i]? = some o →
    (match ks.getD i none with | none => Quiet P ops F Φ T0 D w0 (b + i) o | some φ => TurnsS sr P ops F Φ T0 D w0 (b + i) o (curOfS sr cur b ks i) φ)
  | [], _, _, _, _, _, _, h => by simp at h
  | x :: l, b, i, o, [], cur, h, hi => by
    cases i with
    | zero =>
      obtain rfl : x = o := by simpa using hi
      exact h.1
    | succ i =>
      have := steps_getS (i := i) h.2 (by simpa using hi)
      simp only [List.getD_nil] at this ⊢
      rwa [Nat.add_assoc, Nat.add_comm 1 i] at this
  | x :: l, b, i, o, none :: ks, cur, h, hi => by
    cases i with
    | zero =>
      obtain rfl : x = o := by simpa using hi
      exact h.1
    | succ i =>
      have := steps_getS (i := i) h.2 (by simpa using hi)
      rw [Nat.add_assoc, Nat.add_comm 1 i] at this
      simpa [curOfS] using this
  | x :: l, b, i, o, some φ :: ks, cur, h, hi => by
    cases i with
    | zero =>
      obtain rfl : x = o := by simpa using hi
      exact h.1
    | succ i =>
      have := steps_getS (i := i) h.2 (by simpa using hi)
      rw [Nat.add_assoc, Nat.add_comm 1 i] at this
      simpa [curOfS] using this

theorem cur_skipS {sr : Nat → Nat} : ∀ {ks : List (Option Fact)} {cur : Cur} {b f i : Nat}, f ≤ i → (∀ j, f ≤ j → j < i → inChain ks j = false) → curOfS sr cur b ks f = curOfS sr cur b ks i
  | _, _, _, f, 0, h, _ => by
    obtain rfl : f = 0 := by omega
    rfl
  | [], _, _, 0, i + 1, _, _ => rfl
  | [], _, _, f + 1, i + 1, _, _ => rfl
  | none :: ks, cur, b, 0, i + 1, h, hc => by
    show cur = curOfS sr cur (b + 1) ks i
    have := cur_skipS (sr := sr) (ks := ks) (cur := cur) (b := b + 1) (f := 0) (i := i) (Nat.zero_le _) (fun j _ hj => by simpa [inChain] using hc (j + 1) (by omega) (by omega))
    simpa [curOfS] using this
  | none :: ks, cur, b, f + 1, i + 1, h, hc =>
    cur_skipS (sr := sr) (ks := ks) (cur := cur) (b := b + 1) (f := f) (i := i) (by omega) (fun j hf hj => by simpa [inChain] using hc (j + 1) (by omega) (by omega))
  | some φ :: ks, cur, b, 0, i + 1, h, hc => by
    have := hc 0 (Nat.le_refl _) (by omega)
    simp [inChain] at this
  | some φ :: ks, cur, b, f + 1, i + 1, h, hc =>
    cur_skipS (sr := sr) (ks := ks) (cur := fun V w => φ (V (sr b)) w) (b := b + 1) (f := f) (i := i) (by omega) (fun j hf hj => by simpa [inChain] using hc (j + 1) (by omega) (by omega))

theorem cur_succS {sr : Nat → Nat} : ∀ {ks : List (Option Fact)} {cur : Cur} {b i : Nat} {φ : Fact}, ks.getD i none = some φ → curOfS sr cur b ks (i + 1) = fun V w => φ (V (sr (b + i))) w
  | [], _, _, _, _, h => by simp at h
  | k :: ks, cur, b, 0, φ, h => by
    obtain rfl : k = some φ := by simpa using h
    show curOfS sr _ (b + 1) ks 0 = _
    simp [curOfS]
  | none :: ks, cur, b, i + 1, φ, h => by
    have := cur_succS (sr := sr) (ks := ks) (cur := cur) (b := b + 1) (i := i) (φ := φ) (by simpa using h)
    rw [Nat.add_assoc, Nat.add_comm 1 i] at this
    exact this
  | some ψ :: ks, cur, b, i + 1, φ, h => by
    have := cur_succS (sr := sr) (ks := ks) (cur := fun V w => ψ (V (sr b)) w) (b := b + 1) (i := i) (φ := φ) (by simpa using h)
    rw [Nat.add_assoc, Nat.add_comm 1 i] at this
    exact this

theorem cur_keepS {sr : Nat → Nat} : ∀ {ks : List (Option Fact)} {cur : Cur} {b f : Nat} {V V' : Nat → Value} {w w' : World}, KeptKinds ks → Below w.heap.size w w' → (∀ j, inChain ks j = true → V' (sr (b + j)) = V (sr (b + j))) → (cur V w → cur V' w') → curOfS sr cur b ks f V w → curOfS sr cur b ks f V' w'
  | _, _, _, 0, _, _, _, _, _, _, _, hc, h => by simp only [curOfS] at h ⊢; exact hc h
  | [], _, _, _ + 1, _, _, _, _, _, _, _, hc, h => hc h
  | none :: ks, cur, b, f + 1, V, V', w, w', hk, hb, hV, hc, h =>
    cur_keepS (sr := sr) (ks := ks) (b := b + 1) (f := f) hk hb (fun j hj => by
      have := hV (j + 1) (by simpa [inChain] using hj)
      rwa [Nat.add_comm j 1, ← Nat.add_assoc] at this) hc h
  | some φ :: ks, cur, b, f + 1, V, V', w, w', hk, hb, hV, hc, h =>
    cur_keepS (sr := sr) (ks := ks) (b := b + 1) (f := f) hk.2 hb (fun j hj => by
      have := hV (j + 1) (by simpa [inChain] using hj)
      rwa [Nat.add_comm j 1, ← Nat.add_assoc] at this) (fun hp => by
      have := hV 0 (by simp [inChain])
      show φ (V' (sr b)) w'
      rw [show V' (sr b) = V (sr b) from this]
      exact hk.1 _ _ _ hp hb) h

structure FInvS (sr : Nat → Nat) (ops : Array Oper) (F : Nat → Prop) (Φ : Nat → Fact) (ks : List (Option Fact)) (P0 : World → Prop) (T0 : Array Value) (D : List Deferred) (w0 : World) (listed : Array Bool) (a : Act) (w : World) : Prop where
  upd : Upd F w0 w
  defers : a.defers = D
  size : a.tmps.size = T0.size
  lsize : listed.size = ops.size
  vars : ∀ s, (ops.any fun o => o.dst == some s) = false → a.tmps.getD s undef = T0.getD s undef
  facts : ∀ j, listed[j]? = some true → Φ j (slotOf ops a.tmps j) w
  closed : Closed ops fun i => listed[i]? = some true
  early : ∀ (j : Nat) (o : Oper) (s : Tmp), ops[j]? = some o → o.dst = some s → listed[j]? = some false → a.tmps.getD s undef = T0.getD s undef
  phase : ∃ f, (∀ j, j < ops.size → inChain ks j = true → (listed[j]? = some true ↔ j < f)) ∧ curOfS sr (fun _ w => P0 w) 0 ks f (slotOf ops a.tmps) w

theorem fdepsS {sr : Nat → Nat} {ops : Array Oper} {F : Nat → Prop} {Φ : Nat → Fact} {ks : List (Option Fact)} {P0 : World → Prop} {T0 : Array Value} {D : List Deferred} {w0 : World} {listed : Array Bool} {a : Act} {w : World} (h : FInvS sr ops F Φ ks P0 T0 D w0 listed a w) : ∀ (l : List Edge),
    (l.all fun e => !Region.binds .any e || listed.getD e.on false) = true → Deps ops Φ a.tmps w l
  | [], _ => trivial
  | e :: r, hl => by
    rw [List.all_cons, Bool.and_eq_true] at hl
    refine ⟨fun hb => h.facts _ ?_, fdepsS h r hl.2⟩
    have h1 := hl.1
    rw [hb] at h1
    simp only [Bool.not_true, Bool.false_or] at h1
    rw [Array.getD_eq_getD_getElem?] at h1
    cases hx : listed[e.on]? with
    | none => rw [hx] at h1; simp at h1
    | some b => rw [hx] at h1; simpa using h1

theorem wpAny_flowS {sr : Nat → Nat} {P : Program} {ops : Array Oper} {F : Nat → Prop} {Φ : Nat → Fact} {ks : List (Option Fact)} {P0 : World → Prop} {T0 : Array Value} {D : List Deferred} {w0 : World} {Q : Exit → Act → World → Prop}
    (hk : ∀ i, FKept F (Φ i)) (hP0 : ∀ w w', P0 w → Below w.heap.size w w' → P0 w') (hks : KeptKinds ks) (hd : dsts2B ops T0.size = true) (ha : apart2B ops = true) (hbk : backB ops = true) (hch : chainB ops (ks.map (·.isSome)) = true) (hlen : ks.length ≤ ops.size) (hsr : srcB ks sr = true)
    (hs : StepsS sr P ops F Φ T0 D w0 0 ops.toList ks fun _ w => P0 w)
    (hQ : ∀ T w, Upd F w0 w → T.size = T0.size → (∀ s, (ops.any fun o => o.dst == some s) = false → T.getD s undef = T0.getD s undef) → (∀ j, j < ops.size → Φ j (slotOf ops T j) w) → curOfS sr (fun _ w => P0 w) 0 ks ops.size (slotOf ops T) w → Q .normal ⟨T, D⟩ w) :
    ∀ (fuel : Nat) (listed : Array Bool) (a : Act) (w : World), (listed.toList.countP fun b => !b) ≤ fuel → FInvS sr ops F Φ ks P0 T0 D w0 listed a w → wpAny P .any ops Q fuel listed a w := by
  have hend : ∀ (listed : Array Bool) (a : Act) (w : World), FInvS sr ops F Φ ks P0 T0 D w0 listed a w → (∀ j, j < ops.size → listed[j]? = some true) → Q .normal a w := by
    intro listed a w h hall
    obtain ⟨T, D'⟩ := a
    have hD : D' = D := h.defers
    subst hD
    obtain ⟨f, hf1, hf2⟩ := h.phase
    refine hQ T w h.upd h.size h.vars (fun j hj => h.facts j (hall j hj)) ?_
    rcases Nat.le_total f ops.size with hle | hge
    · rw [← cur_skipS (f := f) (i := ops.size) hle (fun j h1 h2 => by
        cases hc : inChain ks j with
        | false => rfl
        | true => have := (hf1 j h2 hc).1 (hall j h2); omega)]
      exact hf2
    · rw [cur_skipS (f := ops.size) (i := f) hge (fun j h1 _ => by
        unfold inChain
        rw [List.getD_eq_getElem?_getD, List.getElem?_eq_none (by omega)]; rfl)]
      exact hf2
  intro fuel
  induction fuel with
  | zero =>
    intro listed a w hc h
    have hall : ∀ j, j < ops.size → listed[j]? = some true := by
      intro j hj
      have hj' : j < listed.size := by rw [h.lsize]; exact hj
      have h0 : (listed.toList.countP fun b => !b) = 0 := by omega
      rw [List.countP_eq_zero] at h0
      have := h0 listed[j] (by simp)
      rw [Array.getElem?_eq_getElem hj']
      simpa using this
    refine ⟨?_, hend _ _ _ h hall⟩
    unfold Region.ready
    rw [List.filter_eq_nil_iff]
    intro i hi
    rw [List.mem_range] at hi
    rw [Array.getD_eq_getD_getElem?, hall i hi]
    simp
  | succ fuel ih =>
    intro listed a w hc h
    have hstep : ∀ i ∈ Region.ready .any ops listed, wpOp P ops Q i (wpAny P .any ops Q fuel (listed.setIfInBounds i true)) a w := by
      intro i hi
      unfold Region.ready at hi
      rw [List.mem_filter, List.mem_range, Bool.and_eq_true] at hi
      obtain ⟨hin, hnl, hde⟩ := hi
      have hin' : i < listed.size := by rw [h.lsize]; exact hin
      have ho : ops[i]? = some ops[i] := Array.getElem?_eq_getElem hin
      rw [ho] at hde
      simp only [Option.map_some, Option.getD_some] at hde
      have hdeps := fdepsS h ops[i].after.toList (by rw [← Array.all_toList] at hde; exact hde)
      have hstep := steps_getS (i := i) (o := ops[i]) hs (by simp [hin])
      rw [Nat.zero_add] at hstep
      obtain ⟨T, D'⟩ := a
      have hD : D' = D := h.defers
      subst hD
      have hlt : listed.getD i true = false := by simpa using hnl
      have hli : listed[i]? = some false := by
        rw [Array.getD_eq_getD_getElem?, Array.getElem?_eq_getElem hin'] at hlt
        rw [Array.getElem?_eq_getElem hin']
        simpa using hlt
      -- what is left, once the operation's value lies
      have hput : ∀ (v : Value) (w' : World), (ops[i].dst = none → v = undef) → Upd F w w' → Φ i v w' →
          (∃ f, (∀ j, j < ops.size → inChain ks j = true → ((listed.setIfInBounds i true)[j]? = some true ↔ j < f)) ∧ ∀ V, V i = v → (∀ j, j ≠ i → V j = slotOf ops T j) → curOfS sr (fun _ w => P0 w) 0 ks f V w') →
          wpAny P .any ops Q fuel (listed.setIfInBounds i true) ((⟨T, D'⟩ : Act).put ops[i].dst v) w' := by
        intro v w' hvn hu hφ hph
        have hself : slotOf ops ((⟨T, D'⟩ : Act).put ops[i].dst v).tmps i = v := by
          cases hdd : ops[i].dst with
          | none =>
            rw [slot_none ho hdd]
            exact (hvn hdd).symm
          | some d =>
            have hdT : d < T.size := by
              unfold dsts2B at hd
              rw [Array.all_eq_true] at hd
              have := hd i hin
              rw [hdd] at this
              rw [show T.size = T0.size from h.size]
              simpa using this
            unfold slotOf
            rw [ho]
            simp only [Option.bind_some, hdd, Option.map_some, Option.getD_some]
            show (T.setIfInBounds d v).getD d undef = v
            rw [Array.getD_eq_getD_getElem?, Array.getElem?_setIfInBounds_self_of_lt hdT]
            rfl
        have hother : ∀ j, j ≠ i → slotOf ops ((⟨T, D'⟩ : Act).put ops[i].dst v).tmps j = slotOf ops T j := by
          intro j hji
          cases hdd : ops[i].dst with
          | none => rfl
          | some d =>
            unfold slotOf
            cases hoj : ops[j]? with
            | none => rfl
            | some oj =>
              cases hdj : oj.dst with
              | none => simp [hdj]
              | some dj =>
                have hjn : j < ops.size := by
                  rcases Nat.lt_or_ge j ops.size with h1 | h1
                  · exact h1
                  · rw [Array.getElem?_eq_none h1] at hoj; cases hoj
                have hne : d ≠ dj := by
                  rintro rfl
                  unfold apart2B at ha
                  rw [List.all_eq_true] at ha
                  have h2 := ha i (List.mem_range.2 hin)
                  rw [List.all_eq_true] at h2
                  have h3 := h2 j (List.mem_range.2 hjn)
                  rw [ho, hoj] at h3
                  simp only [Option.bind_some, hdd, hdj, bne_self_eq_false, Bool.or_false] at h3
                  simp at h3
                  exact hji h3.symm
                simp only [Option.bind_some, hdj, Option.map_some, Option.getD_some]
                show (T.setIfInBounds d v).getD dj undef = T.getD dj undef
                rw [Array.getD_eq_getD_getElem?, Array.getD_eq_getD_getElem?, Array.getElem?_setIfInBounds_ne hne]
        refine ih _ _ _ ?_ ⟨h.upd.then hu, ?_, ?_, ?_, ?_, ?_, ?_, ?_, ?_⟩
        · have hcount : ((listed.setIfInBounds i true).toList.countP fun b => !b) + 1 = (listed.toList.countP fun b => !b) := by
            rw [Array.toList_setIfInBounds]
            have hil : i < listed.toList.length := by simpa using hin'
            have hf : listed.toList[i] = false := by
              rw [Array.getElem?_eq_getElem hin'] at hli
              simpa using hli
            have h1 := List.countP_set (p := fun b => !b) (l := listed.toList) (i := i) (a := true) hil
            have hpos : 0 < (listed.toList.countP fun b => !b) := by
              rw [List.countP_pos_iff]
              exact ⟨false, by rw [← hf]; exact List.getElem_mem hil, rfl⟩
            rw [h1, hf]
            simp only [Bool.not_false, if_true, Bool.not_true, Bool.false_eq_true, if_false]
            omega
          omega
        · show (Act.put _ _ _).defers = _
          cases hdd : ops[i].dst <;> rfl
        · show (Act.put _ _ _).tmps.size = _
          cases hdd : ops[i].dst with
          | none => exact h.size
          | some d =>
            show (T.setIfInBounds d v).size = _
            rw [Array.size_setIfInBounds]; exact h.size
        · rw [Array.size_setIfInBounds]; exact h.lsize
        · intro s hsn
          rw [← h.vars s hsn]
          cases hdd : ops[i].dst with
          | none => rfl
          | some d =>
            have hne : s ≠ d := by
              rintro rfl
              rw [any_of_get ho hdd] at hsn
              cases hsn
            show (T.setIfInBounds d v).getD s undef = T.getD s undef
            rw [Array.getD_eq_getD_getElem?, Array.getD_eq_getD_getElem?, Array.getElem?_setIfInBounds_ne (Ne.symm hne)]
        · intro j hj
          by_cases hji : j = i
          · subst hji
            rw [hself]; exact hφ
          · rw [Array.getElem?_setIfInBounds_ne (Ne.symm hji)] at hj
            rw [hother j hji]
            exact hk j _ _ _ (h.facts j hj) hu
        · intro j o hj hoj e he hb
          have hold : listed[e.on]? = some true := by
            by_cases hji : j = i
            · subst hji
              obtain rfl : ops[j] = o := by rw [ho] at hoj; exact Option.some.inj hoj
              rw [Array.all_eq_true'] at hde
              have h4 := hde e he
              rw [hb] at h4
              simp only [Bool.not_true, Bool.false_or] at h4
              rw [Array.getD_eq_getD_getElem?] at h4
              cases hx : listed[e.on]? with
              | none => rw [hx] at h4; simp at h4
              | some b => rw [hx] at h4; simpa using h4
            · rw [Array.getElem?_setIfInBounds_ne (Ne.symm hji)] at hj
              exact h.closed j o hj hoj e he hb
          by_cases hei : e.on = i
          · rw [hei]; exact Array.getElem?_setIfInBounds_self_of_lt hin'
          · rw [Array.getElem?_setIfInBounds_ne (Ne.symm hei)]; exact hold
        · intro j o s hoj hds hlj
          have hji : j ≠ i := by
            rintro rfl
            rw [Array.getElem?_setIfInBounds_self_of_lt hin'] at hlj
            cases hlj
          rw [Array.getElem?_setIfInBounds_ne (Ne.symm hji)] at hlj
          have h1 := hother j hji
          unfold slotOf at h1
          rw [hoj] at h1
          simp only [Option.bind_some, hds, Option.map_some, Option.getD_some] at h1
          rw [h1]
          exact h.early j o s hoj hds hlj
        · obtain ⟨f, hf1, hf2⟩ := hph
          exact ⟨f, hf1, hf2 _ hself hother⟩
      obtain ⟨f, hf1, hf2⟩ := h.phase
      have hlate : ∀ s, lateB ops i s = true → T.getD s undef = T0.getD s undef := by
        intro s hs'
        unfold lateB at hs'
        rw [List.any_eq_true] at hs'
        obtain ⟨j, hj, hs'⟩ := hs'
        rw [Bool.and_eq_true] at hs'
        have hjn := List.mem_range.1 hj
        have hlj : listed[j]? = some false := by
          have hjl : j < listed.size := by rw [h.lsize]; exact hjn
          rw [Array.getElem?_eq_getElem hjl]
          cases hb : listed[j] with
          | false => rfl
          | true =>
            have h3 : listed[i]? = some true := marks_closed h.closed i ops.size j hs'.2 (by
              show listed[j]? = some true
              rw [Array.getElem?_eq_getElem hjl, hb])
            rw [hli] at h3; cases h3
        refine h.early j ops[j] s (Array.getElem?_eq_getElem hjn) ?_ hlj
        have h4 := hs'.1
        rw [Array.getElem?_eq_getElem hjn] at h4
        simpa using h4
      unfold wpOp
      simp only [ho]
      cases hkind : ks.getD i none with
      | none =>
        have hic : inChain ks i = false := by unfold inChain; rw [hkind]; rfl
        rw [hkind] at hstep
        have hph : ∀ (v : Value) (w' : World), Below w.heap.size w w' → ∃ f, (∀ j, j < ops.size → inChain ks j = true → ((listed.setIfInBounds i true)[j]? = some true ↔ j < f)) ∧ ∀ V, V i = v → (∀ j, j ≠ i → V j = slotOf ops T j) → curOfS sr (fun _ w => P0 w) 0 ks f V w' := by
          intro v w' hb
          refine ⟨f, fun j hj hcj => ?_, fun V _ hV => ?_⟩
          · have hne : i ≠ j := by rintro rfl; rw [hic] at hcj; cases hcj
            rw [Array.getElem?_setIfInBounds_ne hne]
            exact hf1 j hj hcj
          · refine cur_keepS hks hb (fun j hj => ?_) (fun hp => hP0 _ _ hp hb) hf2
            rw [Nat.zero_add]
            exact hV (sr j) (fun e => by have := srcB_at hsr hj; rw [e, hic] at this; cases this)
        rcases hstep T w Q h.upd h.size h.vars hlate hdeps with ⟨hw, hwp⟩ | ⟨hw, hφ⟩
        · simp only [hw, if_true]
          refine .inl (Oper.wp_mono ?_ hwp)
          rintro a' w' ⟨v, rfl, hvn, hb, hφ⟩
          exact hput v w' hvn (.of_below F hb) hφ (hph v w' hb)
        · simp only [hw, Bool.false_eq_true, if_false]
          exact hput undef w (fun _ => rfl) (.refl F w) hφ (hph undef w (Below.refl _ _))
      | some φ =>
        have hic : inChain ks i = true := by unfold inChain; rw [hkind]; rfl
        rw [hkind] at hstep
        have hfi : f ≤ i := by
          rcases Nat.lt_or_ge i f with h1 | h1
          · have := (hf1 i hin hic).2 h1
            rw [hli] at this; cases this
          · exact h1
        have hprev : ∀ j, j < i → inChain ks j = true → j < f := by
          intro j hj hcj
          unfold chainB at hch
          rw [List.all_eq_true] at hch
          have h1 := hch i (List.mem_range.2 hin)
          rw [chain_isSome, hic] at h1
          simp only [Bool.not_true, Bool.false_or] at h1
          rw [List.all_eq_true] at h1
          have h2 := h1 j (List.mem_range.2 hj)
          rw [chain_isSome, hcj] at h2
          simp only [Bool.not_true, Bool.false_or] at h2
          rw [marks_at (marks_lt h2), Bool.or_eq_true] at h2
          rcases h2 with h2 | h2
          · have := eq_of_beq h2; omega
          · rw [ho] at h2
            simp only [Option.map_some, Option.getD_some] at h2
            rw [Array.any_eq_true'] at h2
            obtain ⟨e, he, h3⟩ := h2
            rw [Bool.and_eq_true] at h3
            rw [Array.all_eq_true'] at hde
            have h4 := hde e he
            rw [h3.1] at h4
            simp only [Bool.not_true, Bool.false_or] at h4
            have hel : listed[e.on]? = some true := by
              rw [Array.getD_eq_getD_getElem?] at h4
              cases hx : listed[e.on]? with
              | none => rw [hx] at h4; simp at h4
              | some b => rw [hx] at h4; simpa using h4
            exact (hf1 j (by omega) hcj).1 (marks_closed h.closed j i e.on h3.2 hel)
        have hcur : curOfS sr (fun _ w => P0 w) 0 ks i (slotOf ops T) w := by
          rw [← cur_skipS hfi (fun j h1 h2 => by
            cases hc : inChain ks j with
            | false => rfl
            | true => have := hprev j h2 hc; omega)]
          exact hf2
        have hph : ∀ (v : Value) (w' : World), φ (ownV sr i v (slotOf ops T)) w' → ∃ f, (∀ j, j < ops.size → inChain ks j = true → ((listed.setIfInBounds i true)[j]? = some true ↔ j < f)) ∧ ∀ V, V i = v → (∀ j, j ≠ i → V j = slotOf ops T j) → curOfS sr (fun _ w => P0 w) 0 ks f V w' := by
          intro v w' hφ
          refine ⟨i + 1, fun j hj hcj => ?_, fun V hVi hVo => ?_⟩
          · by_cases hji : j = i
            · subst hji
              rw [Array.getElem?_setIfInBounds_self_of_lt hin']
              simp
            · rw [Array.getElem?_setIfInBounds_ne (Ne.symm hji), hf1 j hj hcj]
              constructor
              · intro h1; omega
              · intro h1; exact hprev j (by omega) hcj
          · rw [cur_succS hkind]
            show φ (V (sr (0 + i))) w'
            rw [Nat.zero_add]
            by_cases hsi : sr i = i
            · rw [hsi, hVi]
              have : ownV sr i v (slotOf ops T) = v := by unfold ownV; rw [hsi]; simp
              rw [this] at hφ
              exact hφ
            · rw [hVo _ hsi]
              have : ownV sr i v (slotOf ops T) = slotOf ops T (sr i) := by unfold ownV; rw [beq_eq_false_iff_ne.2 hsi]; rfl
              rw [this] at hφ
              exact hφ
        rcases hstep T w Q h.upd h.size h.vars hlate hdeps hcur with ⟨hw, hwp⟩ | ⟨hw, hφ, hψ⟩
        · simp only [hw, if_true]
          refine .inl (Oper.wp_mono ?_ hwp)
          rintro a' w' ⟨v, rfl, hvn, hu, hφ, hψ⟩
          exact hput v w' hvn hu hφ (hph v w' hψ)
        · simp only [hw, Bool.false_eq_true, if_false]
          exact hput undef w (fun _ => rfl) (.refl F w) hφ (hph undef w hψ)
    refine ⟨fun hr => ?_, hstep⟩
    refine hend _ _ _ h ?_
    intro j
    induction j using Nat.strongRecOn with
    | ind j ihj =>
      intro hj
      have hjl : j < listed.size := by rw [h.lsize]; exact hj
      cases hb : listed[j] with
      | true => rw [Array.getElem?_eq_getElem hjl, hb]
      | false =>
        exfalso
        have hmem : j ∈ Region.ready .any ops listed := by
          unfold Region.ready
          rw [List.mem_filter, List.mem_range, Bool.and_eq_true]
          refine ⟨hj, ?_, ?_⟩
          · rw [Array.getD_eq_getD_getElem?, Array.getElem?_eq_getElem hjl, hb]; rfl
          · rw [Array.getElem?_eq_getElem hj]
            simp only [Option.map_some, Option.getD_some]
            unfold backB at hbk
            rw [List.all_eq_true] at hbk
            have h1 := hbk j (List.mem_range.2 hj)
            rw [Array.getElem?_eq_getElem hj] at h1
            simp only [Option.map_some, Option.getD_some] at h1
            rw [Array.all_eq_true'] at h1 ⊢
            intro e he
            have h2 := h1 e he
            rw [decide_eq_true_iff] at h2
            rw [Array.getD_eq_getD_getElem?, ihj e.on h2 (by omega)]
            simp
        rw [hr] at hmem
        cases hmem

/-- The region's rule. -/
theorem wp_region_flowS (sr : Nat → Nat) {P : Program} {ops : Array Oper} {id : Nat} {a0 : Act} {w0 : World} {Q : Exit → Act → World → Prop} (F : Nat → Prop) (Φ : Nat → Fact) (ks : List (Option Fact)) (P0 : World → Prop)
    (hm : P.follows .mixedOrders = true) (hk : ∀ i, FKept F (Φ i)) (hP0 : ∀ w w', P0 w → Below w.heap.size w w' → P0 w') (hks : KeptKinds ks) (hd : dsts2B ops a0.tmps.size = true) (ha : apart2B ops = true) (hbk : backB ops = true) (hch : chainB ops (ks.map (·.isSome)) = true) (hlen : ks.length ≤ ops.size) (hsr : srcB ks sr = true)
    (h0 : P0 w0) (hs : StepsS sr P ops F Φ a0.tmps a0.defers w0 0 ops.toList ks fun _ w => P0 w)
    (hQ : ∀ T w, Upd F w0 w → T.size = a0.tmps.size → (∀ s, (ops.any fun o => o.dst == some s) = false → T.getD s undef = a0.tmps.getD s undef) → (∀ j, j < ops.size → Φ j (slotOf ops T j) w) → curOfS sr (fun _ w => P0 w) 0 ks ops.size (slotOf ops T) w → Q .normal ⟨T, a0.defers⟩ w) :
    (Code.region id ops true).wp P Q a0 w0 := by
  refine wp_region_any hm (wpAny_flowS hk hP0 hks hd ha hbk hch hlen hsr hs hQ _ _ _ _ ?_ ⟨(Upd.refl F w0).drew, rfl, rfl, by simp, fun _ _ => rfl, fun j hj => ?_, fun i o hi => ?_, fun _ _ _ _ _ _ => rfl, 0, fun j hj _ => ?_, ?_⟩)
  · rw [Array.toList_replicate]
    exact Nat.le_trans List.countP_le_length (by simp)
  · rw [Array.getElem?_replicate] at hj
    split at hj <;> simp at hj
  · replace hi : (Array.replicate ops.size false)[i]? = some true := hi
    rw [Array.getElem?_replicate] at hi
    split at hi <;> simp at hi
  · rw [Array.getElem?_replicate]
    constructor
    · intro h; split at h <;> simp at h
    · intro h; omega
  · simp only [curOfS]
    exact hP0 _ _ h0 (Below.refl _ w0).drew
end Go.Proofs.YtiiihpokpfhclaaDoor
/- A frame, written out. -/
namespace Go.Proofs.YtiiihpokpfhclaaDoor
open Go
theorem expl {T : Array Value} {n : Nat} (h : T.size = n) : T = ((List.range n).map fun i => T.getD i undef).toArray := by
  apply Array.ext
  · simp [h]
  · intro i h1 h2
    simp [Array.getD_eq_getD_getElem?, h1]
theorem getD_toArray (l : List Value) (i : Nat) (d : Value) : l.toArray.getD i d = l.getD i d := by
  rw [Array.getD_eq_getD_getElem?, List.getD_eq_getElem?_getD, List.getElem?_toArray]
end Go.Proofs.YtiiihpokpfhclaaDoor
/- Walks of the writer's methods: put, end, open, close; numbers as text. -/
namespace Go.Proofs.YtiiihpokpfhclaaDoor
open Go Go.RowKit

theorem extraP : Builder.Extra Tryd.prog layRepeat_ren where
  sizeBuilder := by kernel_rfl
  liesBuilder := by kernel_rfl
  t5 := Tryd.underlying5
  a5 := Tryd.isAgg5
  z5 := Tryd.sizeOf5
  v5 := Tryd.zeroValue5
  infoByte := by kernel_rfl
  cellsByte := by kernel_rfl
  sizeByte := by kernel_rfl
  neB5 := by decide
/-- The table that numbers' texts are reckoned by. -/
def TabP (w : World) : Prop := Lib.TabIs Tryd.prog w "internal/strconv.uint64pow10" .u64 Lib.pow10Tab
theorem tab_name : Tryd.prog.globalNamed "internal/strconv.uint64pow10" = some 0 := by kernel_rfl
theorem TabP.lt {w : World} (h : TabP w) : 0 < w.heap.size := by
  have := h.cell (g := 0) tab_name 0 (by decide)
  exact World.block_lt_of_cell? _ _ this
theorem TabP.low {w w' : World} {B : Nat} (h : TabP w) (hb : Below B w w') (hB : 0 < B) : TabP w' := var?_below hb tab_name hB h
theorem TabP.below {w w' : World} (h : TabP w) (hb : Below w.heap.size w w') : TabP w' := h.low hb h.lt
theorem grow_below (w : World) (k : Nat) (os : Array Obj) : Below w.heap.size w (Go.Sort.grow (w.drewN k) os) :=
  ⟨rfl, rfl, rfl, by show _ ≤ (w.heap ++ os).size; rw [Array.size_append]; omega, fun i hi => by
    show (w.heap ++ os)[i]? = _
    rw [Array.getElem?_append_left hi]⟩
theorem format_any (n : Nat) (hn : n ≤ 9223372036854775807) (w : World) (hT : TabP w) :
    Calls Tryd.prog 54 #[.int .i64 n, .int .i64 10] w fun e w' => e = .returned (.string (strB (Lib.decDigits n))) ∧ Below w.heap.size w w' := by
  refine (Any.strconv_FormatInt_10 layFormat (n : Int) (by omega) (by omega) w hT).mono ?_
  rintro e w' ⟨rfl, k, os, rfl⟩
  rw [Lib.itoa_nonneg]
  exact ⟨rfl, grow_below w k os⟩
theorem itoa_any (n : Nat) (hn : n ≤ 9223372036854775807) (w : World) (hT : TabP w) :
    Calls Tryd.prog 34 #[.int .i64 n] w fun e w' => e = .returned (.string (strB (Lib.decDigits n))) ∧ Below w.heap.size w w' := by
  refine (Any.strconv_Itoa layItoa (n : Int) (by omega) (by omega) w hT).mono ?_
  rintro e w' ⟨rfl, k, os, rfl⟩
  rw [Lib.itoa_nonneg]
  exact ⟨rfl, grow_below w k os⟩
def tabsL (d : Nat) : List UInt8 := Lib.repeatL [9] d
theorem tabs_len (d : Nat) : (tabsL d).length = d := by
  unfold tabsL
  rw [Lib.repeatL_length]
  simp
theorem repeat_any (d : Nat) (hd : d ≤ 1000000) (w : World) :
    Calls Tryd.prog 59 #[.string ⟨#[9]⟩, .int .i64 d] w fun e w' => e = .returned (.string (strB (tabsL d))) ∧ Below w.heap.size w w' :=
  (Any.strings_Repeat layRepeat extraP (⟨#[9]⟩ : ByteArray) d w (by omega) (by show 1 * d ≤ _; omega))

/-- What a printer with the text t, whose line has begun or not, holds behind x. -/
def putT (t : List UInt8) (d : Nat) (g : Bool) (x : List UInt8) : List UInt8 := t ++ (if g = true then [] else tabsL d) ++ x
theorem putT_put (t : List UInt8) (d : Nat) (g : Bool) (x y : List UInt8) : putT (putT t d g x) d true y = putT t d g (x ++ y) := by
  unfold putT
  simp [List.append_assoc]
theorem putT_len (t : List UInt8) (d : Nat) (g : Bool) (x : List UInt8) : (putT t d g x).length ≤ t.length + d + x.length := by
  unfold putT
  rw [List.length_append, List.length_append]
  split
  · simp
  · rw [tabs_len]; omega
def strL (xs : List (List UInt8)) : List Value := xs.map fun x => .string (strB x)
/-- The printer behind a call of one of its methods. -/
def PrO (w : World) (B b : Nat) (v : Value) (t : List UInt8) (d : Nat) (g : Bool) (w' : World) : Prop := ∃ v', PrM b v w v' w' ∧ Prn w' B b v' t d g
theorem str_get {w : World} {S : Nat → Prop} {A : Option Addr} {n c : Nat} {xs : List (List UInt8)} (h : ArgV w S (.slice A n c) (strL xs)) {i : Nat} (hi : i < xs.length) : ∃ b o, A = some ⟨b, o, none⟩ ∧ S b ∧ w.cell? ⟨b, o + i, none⟩ = some (.string (strB xs[i])) :=
  h.get (by rw [strL, List.getElem?_map, List.getElem?_eq_getElem hi]; rfl)
set_option maxRecDepth 100000 in
set_option maxHeartbeats 1600000 in
theorem put_loop (xs : List (List UInt8)) (A : Option Addr) (c : Nat) (w : World) (B b d : Nat) (v : Value) (t : List UInt8) (h : Prn w B b v t d true) (hB : B ≤ w.heap.size) (hl : t.length + xs.flatten.length ≤ 70368744177664)
    (hx : ArgV w (fun k => k ≠ b ∧ v.ownBlock ≠ some k ∧ k < w.heap.size) (.slice A xs.length c) (strL xs)) :
    Calls Tryd.prog 32 #[.pointer (some ⟨b, 0, none⟩), .slice A xs.length c] w fun e w' => e = .returned (.tuple #[]) ∧ PrO w B b v (t ++ xs.flatten) d true w' := by
  obtain ⟨p, hh, hp⟩ := h.cells
  have c3 := cell_at hh 3
  simp at c3
  have hmx : xs.length ≤ 9223372036854775807 := by
    obtain ⟨_, _, -, h1, h2, -⟩ := hx
    unfold maxLen at h2
    rw [strL, List.length_map] at h1
    omega
  replace h := hide h
  replace hx := hide hx
  clear hh
  go_enter Tryd.func32, Tryd.ntmps32
  go_wp2_with fail
  go_loopw [25] (fun i wr => ∃ k : Nat, k ≤ xs.length ∧ i = .int .i64 k ∧ PrO w B b v (t ++ (xs.take k).flatten) d true wr) (fun i _ => xs.length - (RowKit.intOf i).toNat)
  case atStart => exact ⟨0, Nat.zero_le _, rfl, v, .refl _ _ _, by simpa using h.out⟩
  case round =>
    obtain ⟨k, hk, rfl, v1, hm, h1⟩ := hrel
    by_cases hlt : k < xs.length
    · have hlt' : (k : Int) < (xs.length : Int) := by omega
      have hs : xs.take (k + 1) = xs.take k ++ [xs[k]] := List.take_succ_eq_append_getElem hlt
      have hfl : (xs.take (k + 1)).flatten = (xs.take k).flatten ++ xs[k] := by rw [hs, List.flatten_append, List.flatten_cons, List.flatten_nil, List.append_nil]
      have hle : (xs.take (k + 1)).flatten.length ≤ xs.flatten.length := by
        conv => rhs; rw [← List.take_append_drop (k + 1) xs]
        rw [List.flatten_append, List.length_append]
        omega
      have hx1 := hx.out.upd hm.upd fun q hq e => by
        rcases e with e | e
        · exact hq.1 e
        · exact hq.2.1 e
      obtain ⟨b1, o1, rfl, -, cx⟩ := str_get hx1 hlt
      have hW := hide (WriteString_any xs[k] wr B b d v1 (t ++ (xs.take k).flatten) true h1 (Nat.le_trans hB hm.upd.size) (by rw [hfl, List.length_append] at hle; rw [List.length_append]; omega))
      rw [List.append_assoc, ← hfl] at hW
      generalize xs[k] = xk at *
      obtain ⟨Q1, hQ1⟩ : ∃ Q, Q = t ++ (xs.take (k + 1)).flatten := ⟨_, rfl⟩
      rw [← hQ1] at hW
      replace hQ1 := hide hQ1
      replace hm := hide hm
      clear h1 hs hfl hle hx1
      go_wp2_with fail
      refine hW.out.mono ?_
      rintro e w2 ⟨rfl, v2, hm2, h2⟩
      have hm3 := hide (hm.out.trans hm2)
      replace h2 := hide h2
      clear hm2
      go_wp2_with fail
      go_round
      case rel => exact ⟨k + 1, hlt, by go_num, v2, hm3.out, by rw [← hQ1.out]; exact h2.out⟩
      case measure => simp [RowKit.intOf]; omega
    · obtain rfl : k = xs.length := by omega
      have hlt' : ¬ (xs.length : Int) < (xs.length : Int) := by omega
      have ht : xs.take xs.length = xs := List.take_length
      rw [ht] at h1
      replace hm := hide hm
      replace h1 := hide h1
      go_wp2_with fail
      go_end0
      exact ⟨rfl, v1, hm.out, h1.out⟩
set_option maxRecDepth 100000 in
set_option maxHeartbeats 1600000 in
theorem put_any (xs : List (List UInt8)) (A : Option Addr) (c : Nat) (wa : World) (B b d : Nat) (rv : Value) (t : List UInt8) (g : Bool) (h : Prn wa B b rv t d g) (hB : B ≤ wa.heap.size) (hd : d ≤ 1000000) (hl : t.length + xs.flatten.length ≤ 70368740000000)
    (hx : ArgV wa (fun k => k ≠ b ∧ rv.ownBlock ≠ some k ∧ k < wa.heap.size) (.slice A xs.length c) (strL xs)) :
    Calls Tryd.prog 32 #[.pointer (some ⟨b, 0, none⟩), .slice A xs.length c] wa fun e w' => e = .returned (.tuple #[]) ∧ PrO wa B b rv (putT t d g xs.flatten) d true w' := by
  cases g with
  | true =>
    have : putT t d true xs.flatten = t ++ xs.flatten := by simp [putT]
    rw [this]
    exact put_loop xs A c wa B b d rv t h hB (by omega) hx
  | false =>
    have hq : putT t d false xs.flatten = (t ++ tabsL d) ++ xs.flatten := by simp [putT]
    rw [hq]
    have hmx : xs.length ≤ 9223372036854775807 := by
      obtain ⟨_, _, -, h1, h2, -⟩ := hx
      unfold maxLen at h2
      rw [strL, List.length_map] at h1
      omega
    obtain ⟨p, hh, hp⟩ := h.cells
    have c3 := cell_at hh 3
    simp at c3
    have hR := hide (repeat_any d hd)
    have hW := hide (fun w1 (h : Prn w1 B b rv t d false) (hb : wa.heap.size ≤ w1.heap.size) => WriteString_any (tabsL d) w1 B b d rv t false h (Nat.le_trans hB hb) (by rw [tabs_len]; omega))
    generalize hT0 : tabsL d = T0 at *
    have hTl : T0.length = d := by rw [← hT0]; exact tabs_len d
    replace hT0 := hide hT0
    replace h := hide h
    replace hx := hide hx
    replace hTl := hide hTl
    clear hh
    go_enter Tryd.func32, Tryd.ntmps32
    go_wp2_with fail
    refine wp_region_flow (fun k => k = b ∨ rv.ownBlock = some k) (factAt [(fun v _ => v = (.pointer (some ⟨b, 0, none⟩))), (fun v _ => v = (.pointer (some ⟨b, 0, none⟩))), (fun v _ => v = (.pointer (some ⟨b, 0, none⟩))), (fun v _ => v = (.pointer (some ⟨b, 0, none⟩))), (fun v _ => v = (.pointer (some ⟨b, 0, none⟩))), (fun v _ => v = (.pointer (some ⟨b, 2, none⟩))), (fun v _ => v = (.int .i64 d)), (fun v _ => v = (.string (strB T0))), (fun v _ => v = (.tuple #[.int .i64 (T0.length : Nat), .nilIface]))]) [none, none, none, none, none, none, some (fun _ w => PrM b rv wa rv w ∧ Prn w B b rv t d false), some (fun _ w => PrM b rv wa rv w ∧ Prn w B b rv t d false), some (fun _ w => PrO wa B b rv (t ++ T0) d false w)] (fun w => PrM b rv wa rv w ∧ Prn w B b rv t d false) (by kernel_rfl) (fkept_at ⟨FKept.eq _, FKept.eq _, FKept.eq _, FKept.eq _, FKept.eq _, FKept.eq _, FKept.eq _, FKept.eq _, FKept.eq _, trivial⟩) (fun _ _ h hb => ⟨h.1.quiet hb, h.2.below hb⟩) ⟨fun _ _ _ h hb => ⟨h.1.quiet hb, h.2.below hb⟩, fun _ _ _ h hb => ⟨h.1.quiet hb, h.2.below hb⟩, fun _ _ _ ⟨v1, h1, h2⟩ hb => ⟨v1, h1.quiet hb, h2.below hb⟩, trivial⟩ (by kernel_rfl) (by kernel_rfl) (by kernel_rfl) (by kernel_rfl) (Nat.le_of_ble_eq_true (by kernel_rfl)) ?_ ⟨?_, ?_, ?_, ?_, ?_, ?_, ?_, ?_, ?_, trivial⟩ ?_
    · exact ⟨.refl _ _ _, h.out⟩
    · intro T w Q hu hs hv hw hd
      have hx0 : T.getD 0 undef = (.pointer (some ⟨b, 0, none⟩)) := hv 0 (by kernel_rfl)
      refine .inl ⟨wanted_none rfl, ?_⟩
      clear hd hv hu hs hw
      go_simp
      exact ⟨_, rfl, DstOk.some rfl, Below.refl _ _, rfl⟩
    · intro T w Q hu hs hv hw hd
      have hx11 : T.getD 11 undef = (.pointer (some ⟨b, 0, none⟩)) := Deps.at 0 hd (by kernel_rfl)
      refine .inl ⟨wanted_none rfl, ?_⟩
      clear hd hv hu hs hw
      go_simp
      exact ⟨_, rfl, DstOk.some rfl, Below.refl _ _, rfl⟩
    · intro T w Q hu hs hv hw hd
      have hx12 : T.getD 12 undef = (.pointer (some ⟨b, 0, none⟩)) := Deps.at 1 hd (by kernel_rfl)
      refine .inl ⟨wanted_none rfl, ?_⟩
      clear hd hv hu hs hw
      go_simp
      exact ⟨_, rfl, DstOk.some rfl, Below.refl _ _, rfl⟩
    · intro T w Q hu hs hv hw hd
      have hx0 : T.getD 0 undef = (.pointer (some ⟨b, 0, none⟩)) := hv 0 (by kernel_rfl)
      refine .inl ⟨wanted_none rfl, ?_⟩
      clear hd hv hu hs hw
      go_simp
      exact ⟨_, rfl, DstOk.some rfl, Below.refl _ _, rfl⟩
    · intro T w Q hu hs hv hw hd
      have hx14 : T.getD 14 undef = (.pointer (some ⟨b, 0, none⟩)) := Deps.at 3 hd (by kernel_rfl)
      refine .inl ⟨wanted_none rfl, ?_⟩
      clear hd hv hu hs hw
      go_simp
      exact ⟨_, rfl, DstOk.some rfl, Below.refl _ _, rfl⟩
    · intro T w Q hu hs hv hw hd
      have hx15 : T.getD 15 undef = (.pointer (some ⟨b, 0, none⟩)) := Deps.at 4 hd (by kernel_rfl)
      refine .inl ⟨wanted_none rfl, ?_⟩
      clear hd hv hu hs hw
      go_simp
      exact ⟨_, rfl, DstOk.some rfl, Below.refl _ _, rfl⟩
    · intro T w Q hu hs hv hw hd hc0
      have hc : (fun w => PrM b rv wa rv w ∧ Prn w B b rv t d false) w := hc0
      have hx16 : T.getD 16 undef = (.pointer (some ⟨b, 2, none⟩)) := Deps.at 5 hd (by kernel_rfl)
      replace hc := hide hc
      refine .inl ⟨wanted_none rfl, ?_⟩
      obtain ⟨p9, hh9, -⟩ := hc.out.2.cells
      have hq := cell_at hh9 2
      simp at hq
      clear hh9
      clear hd hv hu hs hw hc0
      go_simp
      exact ⟨_, rfl, DstOk.some rfl, .refl _ _, rfl, hc.out⟩
    · intro T w Q hu hs hv hw hd hc0
      have hc : (fun (w : World) => PrM b rv wa rv w ∧ Prn w B b rv t d false) w := hc0
      have hx17 : T.getD 17 undef = (.int .i64 d) := Deps.at 6 hd (by kernel_rfl)
      replace hc := hide hc
      refine .inl ⟨wanted_none rfl, ?_⟩
      have hN := hR.out w
      clear hd hv hu hs hw hc0
      go_simp
      refine hN.mono ?_
      rintro e w5 ⟨rfl, hb⟩
      exact ⟨_, rfl, DstOk.some rfl, .of_below _ hb, rfl, hc.out.1.quiet hb, hc.out.2.below hb⟩
    · intro T w Q hu hs hv hw hd hc0
      have hc : (fun (w : World) => PrM b rv wa rv w ∧ Prn w B b rv t d false) w := hc0
      have hx13 : T.getD 13 undef = (.pointer (some ⟨b, 0, none⟩)) := Deps.at 2 hd (by kernel_rfl)
      have hx18 : T.getD 18 undef = (.string (strB T0)) := Deps.at 7 hd (by kernel_rfl)
      replace hc := hide hc
      refine .inl ⟨wanted_none rfl, ?_⟩
      have hN := hW.out w hc.out.2 hc.out.1.upd.size
      clear hd hv hu hs hw hc0
      go_simp
      refine hN.mono ?_
      rintro e w5 ⟨rfl, v2, hm2, h2⟩
      exact ⟨_, rfl, DstOk.some rfl, hm2.upd, rfl, v2, hc.out.1.trans hm2, h2⟩
    intro T w hu hs hv hf hcur
    have hcur1 : (fun (w : World) => PrO wa B b rv (t ++ T0) d false w) w := hcur
    replace hcur1 := hcur1
    have hT : T = #[T.getD 0 undef, T.getD 1 undef, T.getD 2 undef, T.getD 3 undef, T.getD 4 undef, T.getD 5 undef, T.getD 6 undef, T.getD 7 undef, T.getD 8 undef, T.getD 9 undef, T.getD 10 undef, T.getD 11 undef, T.getD 12 undef, T.getD 13 undef, T.getD 14 undef, T.getD 15 undef, T.getD 16 undef, T.getD 17 undef, T.getD 18 undef, T.getD 19 undef, T.getD 20 undef, T.getD 21 undef, T.getD 22 undef, T.getD 23 undef, T.getD 24 undef, T.getD 25 undef, T.getD 26 undef, T.getD 27 undef, T.getD 28 undef, T.getD 29 undef, T.getD 30 undef, T.getD 31 undef, T.getD 32 undef, T.getD 33 undef, T.getD 34 undef] := expl hs
    rw [hT]
    clear hT
    rw [show T.getD 0 undef = (.pointer (some ⟨b, 0, none⟩)) from hv 0 (by kernel_rfl)]
    rw [show T.getD 1 undef = (.slice A xs.length c) from hv 1 (by kernel_rfl)]
    rw [hv 2 (by kernel_rfl)]
    rw [hv 3 (by kernel_rfl)]
    rw [hv 4 (by kernel_rfl)]
    rw [hv 5 (by kernel_rfl)]
    rw [hv 6 (by kernel_rfl)]
    rw [hv 7 (by kernel_rfl)]
    rw [hv 8 (by kernel_rfl)]
    rw [hv 9 (by kernel_rfl)]
    rw [hv 10 (by kernel_rfl)]
    rw [show T.getD 11 undef = (.pointer (some ⟨b, 0, none⟩)) from hf 0 (by decide)]
    rw [show T.getD 12 undef = (.pointer (some ⟨b, 0, none⟩)) from hf 1 (by decide)]
    rw [show T.getD 13 undef = (.pointer (some ⟨b, 0, none⟩)) from hf 2 (by decide)]
    rw [show T.getD 14 undef = (.pointer (some ⟨b, 0, none⟩)) from hf 3 (by decide)]
    rw [show T.getD 15 undef = (.pointer (some ⟨b, 0, none⟩)) from hf 4 (by decide)]
    rw [show T.getD 16 undef = (.pointer (some ⟨b, 2, none⟩)) from hf 5 (by decide)]
    rw [show T.getD 17 undef = (.int .i64 d) from hf 6 (by decide)]
    rw [show T.getD 18 undef = (.string (strB T0)) from hf 7 (by decide)]
    rw [show T.getD 19 undef = (.tuple #[.int .i64 (T0.length : Nat), .nilIface]) from hf 8 (by decide)]
    rw [hv 20 (by kernel_rfl)]
    rw [hv 21 (by kernel_rfl)]
    rw [hv 22 (by kernel_rfl)]
    rw [hv 23 (by kernel_rfl)]
    rw [hv 24 (by kernel_rfl)]
    rw [hv 25 (by kernel_rfl)]
    rw [hv 26 (by kernel_rfl)]
    rw [hv 27 (by kernel_rfl)]
    rw [hv 28 (by kernel_rfl)]
    rw [hv 29 (by kernel_rfl)]
    rw [hv 30 (by kernel_rfl)]
    rw [hv 31 (by kernel_rfl)]
    rw [hv 32 (by kernel_rfl)]
    rw [hv 33 (by kernel_rfl)]
    rw [hv 34 (by kernel_rfl)]
    clear hf hs hv hcur
    simp only [getD_toArray, List.getD_cons_succ, List.getD_cons_zero]
    clear T
    obtain ⟨v1, hm, h1⟩ := hcur1
    obtain ⟨p1, hh1, hp1⟩ := h1.cells
    have f3 := frozen_at hh1 3
    have c3b := cell_at hh1 3
    simp at c3b
    have h2 : Prn (w.setCell ⟨b, 3, none⟩ (.bool true)) B b v1 (t ++ T0) d true :=
      ⟨h1.hB, ⟨p1, heap_set hh1 3 _, hp1⟩, (Upd.set w (F := fun k => k = b) (a := ⟨b, 3, none⟩) rfl _).own h1.row fun k hk e => h1.ne (by rw [← e]; exact hk)⟩
    have hm2 := hide (hm.set 3 (.bool true))
    replace h2 := hide h2
    clear hm h1 hh1 hu c3
    go_wp2_with fail
    generalize hw2 : World.setCell w _ _ = w2
    rw [hw2] at hm2 h2
    go_loopw [25] (fun i wr => ∃ k : Nat, k ≤ xs.length ∧ i = .int .i64 k ∧ PrO wa B b rv ((t ++ T0) ++ (xs.take k).flatten) d true wr) (fun i _ => xs.length - (RowKit.intOf i).toNat)
    case atStart => exact ⟨0, Nat.zero_le _, rfl, v1, hm2.out, by simpa using h2.out⟩
    case round =>
      obtain ⟨k, hk, rfl, v1, hm, h1⟩ := hrel
      by_cases hlt : k < xs.length
      · have hlt' : (k : Int) < (xs.length : Int) := by omega
        have hs : xs.take (k + 1) = xs.take k ++ [xs[k]] := List.take_succ_eq_append_getElem hlt
        have hfl : (xs.take (k + 1)).flatten = (xs.take k).flatten ++ xs[k] := by rw [hs, List.flatten_append, List.flatten_cons, List.flatten_nil, List.append_nil]
        have hle : (xs.take (k + 1)).flatten.length ≤ xs.flatten.length := by
          conv => rhs; rw [← List.take_append_drop (k + 1) xs]
          rw [List.flatten_append, List.length_append]
          omega
        have hx1 := hx.out.upd hm.upd fun q hq e => by
          rcases e with e | e
          · exact hq.1 e
          · exact hq.2.1 e
        obtain ⟨b1, o1, rfl, -, cx⟩ := str_get hx1 hlt
        have hW := hide (WriteString_any xs[k] wr B b d v1 ((t ++ T0) ++ (xs.take k).flatten) true h1 (Nat.le_trans hB hm.upd.size) (by rw [hfl, List.length_append] at hle; rw [List.length_append, List.length_append, hTl.out]; omega))
        rw [List.append_assoc (t ++ T0), ← hfl] at hW
        generalize xs[k] = xk at *
        obtain ⟨Q1, hQ1⟩ : ∃ Q, Q = (t ++ T0) ++ (xs.take (k + 1)).flatten := ⟨_, rfl⟩
        rw [← hQ1] at hW
        replace hQ1 := hide hQ1
        replace hm := hide hm
        clear h1 hs hfl hle hx1
        go_wp2_with fail
        refine hW.out.mono ?_
        rintro e w2 ⟨rfl, v2, hm2, h2⟩
        have hm3 := hide (hm.out.trans hm2)
        replace h2 := hide h2
        clear hm2
        go_wp2_with fail
        go_round
        case rel => exact ⟨k + 1, hlt, by go_num, v2, hm3.out, by rw [← hQ1.out]; exact h2.out⟩
        case measure => simp [RowKit.intOf]; omega
      · obtain rfl : k = xs.length := by omega
        have hlt' : ¬ (xs.length : Int) < (xs.length : Int) := by omega
        have ht : xs.take xs.length = xs := List.take_length
        rw [ht] at h1
        replace hm := hide hm
        replace h1 := hide h1
        go_wp2_with fail
        go_end0
        exact ⟨rfl, v1, hm.out, by rw [← List.append_assoc] ; exact h1.out⟩
end Go.Proofs.YtiiihpokpfhclaaDoor
/- Walks of the writer's methods: end, open, close. -/
namespace Go.Proofs.YtiiihpokpfhclaaDoor
open Go Go.RowKit

theorem PrO.trans {w w1 w2 : World} {B b d1 d2 : Nat} {v : Value} {t1 t2 : List UInt8} {g1 g2 : Bool} (h : PrO w B b v t1 d1 g1 w1) (k : ∀ v1, Prn w1 B b v1 t1 d1 g1 → PrO w1 B b v1 t2 d2 g2 w2) : PrO w B b v t2 d2 g2 w2 := by
  obtain ⟨v1, h1, h2⟩ := h
  obtain ⟨v2, k1, k2⟩ := k v1 h2
  exact ⟨v2, h1.trans k1, k2⟩
theorem PrO.quiet {w w1 w2 : World} {B b d : Nat} {v : Value} {t : List UInt8} {g : Bool} (h : PrO w B b v t d g w1) (hb : Below w1.heap.size w1 w2) : PrO w B b v t d g w2 := by
  obtain ⟨v1, h1, h2⟩ := h
  exact ⟨v1, h1.quiet hb, h2.below hb⟩
theorem PrO.of {w : World} {B b d : Nat} {v : Value} {t : List UInt8} {g : Bool} (h : Prn w B b v t d g) : PrO w B b v t d g w := ⟨v, .refl _ _ _, h⟩
theorem PrO.size {w w1 : World} {B b d : Nat} {v : Value} {t : List UInt8} {g : Bool} (h : PrO w B b v t d g w1) : w.heap.size ≤ w1.heap.size := by
  obtain ⟨v1, h1, -⟩ := h
  exact h1.upd.size
theorem PrO.below {w w1 : World} {B b d d' : Nat} {v : Value} {t t' : List UInt8} {g g' : Bool} (h : PrO w B b v t d g w1) (h0 : Prn w B b v t' d' g') (hB : B ≤ w.heap.size) : Below B w w1 := by
  obtain ⟨v1, h1, -⟩ := h
  exact h1.below h0 hB
/-- put of strings that stand in a row of their own, just made. -/
theorem put_new (xs : List (List UInt8)) (hn : xs.length ≤ 1000) (hpos : xs ≠ []) (w : World) (B b d : Nat) (rv : Value) (t : List UInt8) (g : Bool) (h : Prn w B b rv t d g) (hB : B ≤ w.heap.size) (hd : d ≤ 1000000) (hl : t.length + xs.flatten.length ≤ 70368740000000) :
    Calls Tryd.prog 32 #[.pointer (some ⟨b, 0, none⟩), .slice (some ⟨w.heap.size, 0, none⟩) xs.length xs.length] (w.alloc (.cells (strL xs).toArray 9)) fun e w' => e = .returned (.tuple #[]) ∧ PrO w B b rv (putT t d g xs.flatten) d true w' := by
  have h1 := h.alloc (.cells (strL xs).toArray 9)
  have hsz : (w.alloc (.cells (strL xs).toArray 9)).heap.size = w.heap.size + 1 := Array.size_push ..
  have hnew := heap_new w (.cells (strL xs).toArray 9)
  have hlen : (strL xs).length = xs.length := by rw [strL, List.length_map]
  have hA : ArgV (w.alloc (.cells (strL xs).toArray 9)) (fun k => k ≠ b ∧ rv.ownBlock ≠ some k ∧ k < (w.alloc (.cells (strL xs).toArray 9)).heap.size) (.slice (some ⟨w.heap.size, 0, none⟩) xs.length xs.length) (strL xs) :=
    ⟨some ⟨w.heap.size, 0, none⟩, xs.length, by rw [hlen], by rw [hlen]; exact Nat.le_refl _, by unfold maxLen; omega,
      .inr ⟨w.heap.size, 0, rfl, ⟨Nat.ne_of_gt h.lt, fun e => Nat.lt_irrefl _ (h.own _ e).2, by rw [hsz]; omega⟩, fun i u hi => by
        rw [Nat.zero_add, cell_at hnew, List.getElem?_toArray]
        exact hi⟩⟩
  refine (put_any xs _ _ _ B b d rv t g h1 (by rw [hsz]; omega) hd hl hA).mono ?_
  rintro e w' ⟨rfl, v1, h2, h3⟩
  exact ⟨rfl, v1, (PrM.of_below b rv ((Below.refl _ w).alloc (Nat.le_refl _) _)).trans h2, h3⟩
set_option maxRecDepth 100000 in
theorem endL_any (w : World) (B b d : Nat) (rv : Value) (t : List UInt8) (g : Bool) (h : Prn w B b rv t d g) (hB : B ≤ w.heap.size) (hl : t.length ≤ 70368740000000) :
    Calls Tryd.prog 33 #[.pointer (some ⟨b, 0, none⟩)] w fun e w' => e = .returned (.tuple #[]) ∧ PrO w B b rv (t ++ [10]) d false w' := by
  have hW := hide (WriteByte_any 10 w B b d rv t g h hB (by omega))
  clear h
  go_enter Tryd.func33, Tryd.ntmps33
  go_wp2_with fail
  refine hW.out.mono ?_
  rintro e w1 ⟨rfl, v1, hm, h1⟩
  obtain ⟨p1, hh1, hp1⟩ := h1.cells
  have f3 := frozen_at hh1 3
  have c3 := cell_at hh1 3
  simp at c3
  have h2 : Prn (w1.setCell ⟨b, 3, none⟩ (.bool false)) B b v1 (t ++ [10]) d false :=
    ⟨h1.hB, ⟨p1, heap_set hh1 3 _, hp1⟩, (Upd.set w1 (F := fun k => k = b) (a := ⟨b, 3, none⟩) rfl _).own h1.row fun k hk e => h1.ne (by rw [← e]; exact hk)⟩
  have hm2 := hide (hm.set 3 (.bool false))
  replace h2 := hide h2
  clear hm h1 hh1
  go_wp2_with fail
  go_end0
  exact ⟨rfl, v1, hm2.out, h2.out⟩
set_option maxRecDepth 100000 in
theorem open6_any (w : World) (B b d : Nat) (rv : Value) (t : List UInt8) (g : Bool) (h : Prn w B b rv t d g) (hB : B ≤ w.heap.size) (hd : d ≤ 1000000) (hl : t.length ≤ 70368730000000) :
    Calls Tryd.prog 36 #[.pointer (some ⟨b, 0, none⟩)] w fun e w' => e = .returned (.tuple #[]) ∧ PrO w B b rv (putT t d g [123] ++ [10]) (d + 1) false w' := by
  have hP := hide (put_new [[123]] (by decide) (by decide) w B b d rv t g h hB hd (by show _ + 1 ≤ _; omega))
  have hq := putT_len t d g [123]
  have hw1 := hide (show ∀ w1, PrO w B b rv (putT t d g [123]) d true w1 → B ≤ w1.heap.size from fun w1 h => Nat.le_trans hB h.size)
  clear h
  go_enter Tryd.func36, Tryd.ntmps36
  go_wp2_with fail
  refine hP.out.mono ?_
  rintro e w1 ⟨rfl, h1⟩
  have hw1' := hw1.out _ h1
  obtain ⟨v1, hm1, h1⟩ := h1
  have hE := hide (endL_any w1 B b d v1 _ true h1 hw1' (by simp at hq; show (putT t d g [123]).length ≤ _; omega))
  replace hm1 := hide hm1
  clear h1
  go_wp2_with fail
  refine hE.out.mono ?_
  rintro e w2 ⟨rfl, v2, hm2, h2⟩
  obtain ⟨p1, hh1, hp1⟩ := h2.cells
  have f2 := frozen_at hh1 2
  have c2 := cell_at hh1 2
  simp at c2
  have hws : IntKind.i64.wrap ((d : Int) + 1) = (d : Int) + 1 := by simp [IntKind.wrap, IntKind.bits, IntKind.signed]; omega
  have h3 : Prn (w2.setCell ⟨b, 2, none⟩ (.int .i64 ((d : Int) + 1))) B b v2 (putT t d g [123] ++ [10]) (d + 1) false :=
    ⟨h2.hB, ⟨p1, heap_set hh1 2 _, hp1⟩, (Upd.set w2 (F := fun k => k = b) (a := ⟨b, 2, none⟩) rfl _).own h2.row fun k hk e => h2.ne (by rw [← e]; exact hk)⟩
  have hm3 := hide ((hm1.out.trans hm2).set 2 (.int .i64 ((d : Int) + 1)))
  replace h3 := hide h3
  clear hm2 h2 hh1
  go_wp2_with fail
  go_end0
  exact ⟨rfl, v2, hm3.out, h3.out⟩
set_option maxRecDepth 100000 in
theorem close6_any (w : World) (B b d : Nat) (rv : Value) (t : List UInt8) (g : Bool) (h : Prn w B b rv t (d + 1) g) (hB : B ≤ w.heap.size) (hd : d ≤ 1000000) (hl : t.length ≤ 70368730000000) :
    Calls Tryd.prog 39 #[.pointer (some ⟨b, 0, none⟩)] w fun e w' => e = .returned (.tuple #[]) ∧ PrO w B b rv (putT t d g [125]) d true w' := by
  obtain ⟨p1, hh1, hp1⟩ := h.cells
  have f2 := frozen_at hh1 2
  have c2 := cell_at hh1 2
  simp at c2
  have hws : IntKind.i64.wrap ((d : Int) + 1 - 1) = (d : Int) := by simp [IntKind.wrap, IntKind.bits, IntKind.signed]; omega
  have h3 : Prn (w.setCell ⟨b, 2, none⟩ (.int .i64 (d : Int))) B b rv t d g :=
    ⟨h.hB, ⟨p1, heap_set hh1 2 _, hp1⟩, (Upd.set w (F := fun k => k = b) (a := ⟨b, 2, none⟩) rfl _).own h.row fun k hk e => h.ne (by rw [← e]; exact hk)⟩
  have hm3 := hide ((PrM.refl b rv w).set 2 (.int .i64 (d : Int)))
  have hsz : (w.setCell ⟨b, 2, none⟩ (.int .i64 (d : Int))).heap.size = w.heap.size := by simp [World.setCell]
  have hP := put_new [[125]] (by decide) (by decide) _ B b d rv t g h3 (by rw [hsz]; exact hB) hd (by show _ + 1 ≤ _; omega)
  rw [hsz] at hP
  replace hP := hide hP
  clear h hh1 h3
  go_enter Tryd.func39, Tryd.ntmps39
  go_wp2_with fail
  refine hP.out.mono ?_
  rintro e w1 ⟨rfl, h1⟩
  replace h1 := hide h1
  go_wp2_with fail
  go_end0
  obtain ⟨v1, h4, h5⟩ := h1.out
  exact ⟨rfl, v1, hm3.out.trans h4, h5⟩
end Go.Proofs.YtiiihpokpfhclaaDoor
