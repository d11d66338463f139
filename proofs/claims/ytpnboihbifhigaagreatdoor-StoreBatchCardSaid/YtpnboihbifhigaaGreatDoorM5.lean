/- Part 5 of the walks (merged): FlowS, Draw, Replace, Settle, Ops. -/
import Derived.Test.YtpnboihbifhigaaGreatDoorM4
import Derived.Test.YtpnboihbifhigaaGreatDoorM2
import Derived.Deep.RegionWith
/- The rule of XFlow, where the chain's fact behind the operation i speaks of the slot of the operation sr i. -/
namespace Go.Proofs.YtpnboihbifhigaaGreatDoor
open Go Go.RowKit
/-- What the fact behind i speaks of. -/
def ownV (sr : Nat → Nat) (i : Nat) (v : Value) (V : Nat → Value) : Value := bif sr i == i then v else V (sr i)
def srcB (ks : List (Option Fact)) (sr : Nat → Nat) : Bool := (List.range ks.length).all fun j => !inChain ks j || inChain ks (sr j)
theorem srcB_at {ks : List (Option Fact)} {sr : Nat → Nat} (h : srcB ks sr = true) {j : Nat} (hj : inChain ks j = true) : inChain ks (sr j) = true := by
  unfold srcB at h
  rw [List.all_eq_true] at h
  have hlt : j < ks.length := by
    rcases Nat.lt_or_ge j ks.length with h1 | h1
    · exact h1
    · unfold inChain at hj
      rw [List.getD_eq_getElem?_getD, List.getElem?_eq_none h1] at hj
      cases hj
  have := h j (List.mem_range.2 hlt)
  rw [hj] at this
  simpa using this
section
variable (sr : Nat → Nat) (P : Program) (ops : Array Oper) (F : Nat → Prop) (Φ : Nat → Fact) (T0 : Array Value) (D : List Deferred) (w0 : World)
/-- An operation of the chain: it takes what the one before it left. -/
def TurnsS (i : Nat) (o : Oper) (cur : Cur) (φ : Fact) : Prop :=
  ∀ (T : Array Value) (w : World) (Q : Exit → Act → World → Prop), Upd F w0 w → T.size = T0.size → (∀ s, (ops.any fun o => o.dst == some s) = false → T.getD s undef = T0.getD s undef) →
    (∀ s, lateB ops i s = true → T.getD s undef = T0.getD s undef) → Deps ops Φ T w o.after.toList → cur (slotOf ops T) w →
    (Region.wanted o (yielded ops T) = true ∧ o.wp P ⟨T, D⟩ w (fun a' w' => ∃ v, a' = (⟨T, D⟩ : Act).put o.dst v ∧ DstOk o v ∧ Upd F w w' ∧ Φ i v w' ∧ φ (ownV sr i v (slotOf ops T)) w') Q) ∨ (Region.wanted o (yielded ops T) = false ∧ Φ i undef w ∧ φ (ownV sr i undef (slotOf ops T)) w)
/-- All operations, in the text's order; 'kinds' tells which of them turn something. -/
def StepsS : Nat → List Oper → List (Option Fact) → Cur → Prop
  | _, [], _, _ => True
  | i, o :: r, [], cur => Quiet P ops F Φ T0 D w0 i o ∧ StepsS (i + 1) r [] cur
  | i, o :: r, none :: ks, cur => Quiet P ops F Φ T0 D w0 i o ∧ StepsS (i + 1) r ks cur
  | i, o :: r, some φ :: ks, cur => TurnsS sr P ops F Φ T0 D w0 i o cur φ ∧ StepsS (i + 1) r ks fun V w => φ (V (sr i)) w
end
/-- What the chain has left ahead of the operation i (from 'base' on). -/
def curOfS (sr : Nat → Nat) : Cur → Nat → List (Option Fact) → Nat → Cur
  | cur, _, _, 0 => cur
  | cur, _, [], _ + 1 => cur
  | cur, b, none :: ks, i + 1 => curOfS sr cur (b + 1) ks i
  | _, b, some φ :: ks, i + 1 => curOfS sr (fun V w => φ (V (sr b)) w) (b + 1) ks i
theorem steps_getS {sr : Nat → Nat} {P : Program} {ops : Array Oper} {F : Nat → Prop} {Φ : Nat → Fact} {T0 : Array Value} {D : List Deferred} {w0 : World} : ∀ {l : List Oper} {b i : Nat} {o : Oper} {ks : List (Option Fact)} {cur : Cur}, StepsS sr P ops F Φ T0 D w0 b l ks cur → l[i]? = some o →
    (match ks.getD i none with | none => Quiet P ops F Φ T0 D w0 (b + i) o | some φ => TurnsS sr P ops F Φ T0 D w0 (b + i) o (curOfS sr cur b ks i) φ)
  | [], _, _, _, _, _, _, h => by simp at h
  | x :: l, b, i, o, [], cur, h, hi => by
    cases i with
    | zero =>
      obtain rfl : x = o := by simpa using hi
      exact h.1
    | succ i =>
      have := steps_getS (i := i) h.2 (by simpa using hi)
      simp only [List.getD_nil] at this ⊢
      rwa [Nat.add_assoc, Nat.add_comm 1 i] at this
  | x :: l, b, i, o, none :: ks, cur, h, hi => by
    cases i with
    | zero =>
      obtain rfl : x = o := by simpa using hi
      exact h.1
    | succ i =>
      have := steps_getS (i := i) h.2 (by simpa using hi)
      rw [Nat.add_assoc, Nat.add_comm 1 i] at this
      simpa [curOfS] using this
  | x :: l, b, i, o, some φ :: ks, cur, h, hi => by
    cases i with
    | zero =>
      obtain rfl : x = o := by simpa using hi
      exact h.1
    | succ i =>
      have := steps_getS (i := i) h.2 (by simpa using hi)
      rw [Nat.add_assoc, Nat.add_comm 1 i] at this
      simpa [curOfS] using this

theorem cur_skipS {sr : Nat → Nat} : ∀ {ks : List (Option Fact)} {cur : Cur} {b f i : Nat}, f ≤ i → (∀ j, f ≤ j → j < i → inChain ks j = false) → curOfS sr cur b ks f = curOfS sr cur b ks i
  | _, _, _, f, 0, h, _ => by
    obtain rfl : f = 0 := by omega
    rfl
  | [], _, _, 0, i + 1, _, _ => rfl
  | [], _, _, f + 1, i + 1, _, _ => rfl
  | none :: ks, cur, b, 0, i + 1, h, hc => by
    show cur = curOfS sr cur (b + 1) ks i
    have := cur_skipS (sr := sr) (ks := ks) (cur := cur) (b := b + 1) (f := 0) (i := i) (Nat.zero_le _) (fun j _ hj => by simpa [inChain] using hc (j + 1) (by omega) (by omega))
    simpa [curOfS] using this
  | none :: ks, cur, b, f + 1, i + 1, h, hc =>
    cur_skipS (sr := sr) (ks := ks) (cur := cur) (b := b + 1) (f := f) (i := i) (by omega) (fun j hf hj => by simpa [inChain] using hc (j + 1) (by omega) (by omega))
  | some φ :: ks, cur, b, 0, i + 1, h, hc => by
    have := hc 0 (Nat.le_refl _) (by omega)
    simp [inChain] at this
  | some φ :: ks, cur, b, f + 1, i + 1, h, hc =>
    cur_skipS (sr := sr) (ks := ks) (cur := fun V w => φ (V (sr b)) w) (b := b + 1) (f := f) (i := i) (by omega) (fun j hf hj => by simpa [inChain] using hc (j + 1) (by omega) (by omega))

theorem cur_succS {sr : Nat → Nat} : ∀ {ks : List (Option Fact)} {cur : Cur} {b i : Nat} {φ : Fact}, ks.getD i none = some φ → curOfS sr cur b ks (i + 1) = fun V w => φ (V (sr (b + i))) w
  | [], _, _, _, _, h => by simp at h
  | k :: ks, cur, b, 0, φ, h => by
    obtain rfl : k = some φ := by simpa using h
    show curOfS sr _ (b + 1) ks 0 = _
    simp [curOfS]
  | none :: ks, cur, b, i + 1, φ, h => by
    have := cur_succS (sr := sr) (ks := ks) (cur := cur) (b := b + 1) (i := i) (φ := φ) (by simpa using h)
    rw [Nat.add_assoc, Nat.add_comm 1 i] at this
    exact this
  | some ψ :: ks, cur, b, i + 1, φ, h => by
    have := cur_succS (sr := sr) (ks := ks) (cur := fun V w => ψ (V (sr b)) w) (b := b + 1) (i := i) (φ := φ) (by simpa using h)
    rw [Nat.add_assoc, Nat.add_comm 1 i] at this
    exact this

theorem cur_keepS {sr : Nat → Nat} : ∀ {ks : List (Option Fact)} {cur : Cur} {b f : Nat} {V V' : Nat → Value} {w w' : World}, KeptKinds ks → Below w.heap.size w w' → (∀ j, inChain ks j = true → V' (sr (b + j)) = V (sr (b + j))) → (cur V w → cur V' w') → curOfS sr cur b ks f V w → curOfS sr cur b ks f V' w'
  | _, _, _, 0, _, _, _, _, _, _, _, hc, h => by simp only [curOfS] at h ⊢; exact hc h
  | [], _, _, _ + 1, _, _, _, _, _, _, _, hc, h => hc h
  | none :: ks, cur, b, f + 1, V, V', w, w', hk, hb, hV, hc, h =>
    cur_keepS (sr := sr) (ks := ks) (b := b + 1) (f := f) hk hb (fun j hj => by
      have := hV (j + 1) (by simpa [inChain] using hj)
      rwa [Nat.add_comm j 1, ← Nat.add_assoc] at this) hc h
  | some φ :: ks, cur, b, f + 1, V, V', w, w', hk, hb, hV, hc, h =>
    cur_keepS (sr := sr) (ks := ks) (b := b + 1) (f := f) hk.2 hb (fun j hj => by
      have := hV (j + 1) (by simpa [inChain] using hj)
      rwa [Nat.add_comm j 1, ← Nat.add_assoc] at this) (fun hp => by
      have := hV 0 (by simp [inChain])
      show φ (V' (sr b)) w'
      rw [show V' (sr b) = V (sr b) from this]
      exact hk.1 _ _ _ hp hb) h

structure FInvS (sr : Nat → Nat) (ops : Array Oper) (F : Nat → Prop) (Φ : Nat → Fact) (ks : List (Option Fact)) (P0 : World → Prop) (T0 : Array Value) (D : List Deferred) (w0 : World) (listed : Array Bool) (a : Act) (w : World) : Prop where
  upd : Upd F w0 w
  defers : a.defers = D
  size : a.tmps.size = T0.size
  lsize : listed.size = ops.size
  vars : ∀ s, (ops.any fun o => o.dst == some s) = false → a.tmps.getD s undef = T0.getD s undef
  facts : ∀ j, listed[j]? = some true → Φ j (slotOf ops a.tmps j) w
  closed : Closed ops fun i => listed[i]? = some true
  early : ∀ (j : Nat) (o : Oper) (s : Tmp), ops[j]? = some o → o.dst = some s → listed[j]? = some false → a.tmps.getD s undef = T0.getD s undef
  phase : ∃ f, (∀ j, j < ops.size → inChain ks j = true → (listed[j]? = some true ↔ j < f)) ∧ curOfS sr (fun _ w => P0 w) 0 ks f (slotOf ops a.tmps) w

theorem fdepsS {sr : Nat → Nat} {ops : Array Oper} {F : Nat → Prop} {Φ : Nat → Fact} {ks : List (Option Fact)} {P0 : World → Prop} {T0 : Array Value} {D : List Deferred} {w0 : World} {listed : Array Bool} {a : Act} {w : World} (h : FInvS sr ops F Φ ks P0 T0 D w0 listed a w) : ∀ (l : List Edge),
    (l.all fun e => !Region.binds .any e || listed.getD e.on false) = true → Deps ops Φ a.tmps w l
  | [], _ => trivial
  | e :: r, hl => by
    rw [List.all_cons, Bool.and_eq_true] at hl
    refine ⟨fun hb => h.facts _ ?_, fdepsS h r hl.2⟩
    have h1 := hl.1
    rw [hb] at h1
    simp only [Bool.not_true, Bool.false_or] at h1
    rw [Array.getD_eq_getD_getElem?] at h1
    cases hx : listed[e.on]? with
    | none => rw [hx] at h1; simp at h1
    | some b => rw [hx] at h1; simpa using h1

theorem wpAny_flowS {sr : Nat → Nat} {P : Program} {ops : Array Oper} {F : Nat → Prop} {Φ : Nat → Fact} {ks : List (Option Fact)} {P0 : World → Prop} {T0 : Array Value} {D : List Deferred} {w0 : World} {Q : Exit → Act → World → Prop}
    (hk : ∀ i, FKept F (Φ i)) (hP0 : ∀ w w', P0 w → Below w.heap.size w w' → P0 w') (hks : KeptKinds ks) (hd : dsts2B ops T0.size = true) (ha : apart2B ops = true) (hbk : backB ops = true) (hch : chainB ops (ks.map (·.isSome)) = true) (hlen : ks.length ≤ ops.size) (hsr : srcB ks sr = true)
    (hs : StepsS sr P ops F Φ T0 D w0 0 ops.toList ks fun _ w => P0 w)
    (hQ : ∀ T w, Upd F w0 w → T.size = T0.size → (∀ s, (ops.any fun o => o.dst == some s) = false → T.getD s undef = T0.getD s undef) → (∀ j, j < ops.size → Φ j (slotOf ops T j) w) → curOfS sr (fun _ w => P0 w) 0 ks ops.size (slotOf ops T) w → Q .normal ⟨T, D⟩ w) :
    ∀ (fuel : Nat) (listed : Array Bool) (a : Act) (w : World), (listed.toList.countP fun b => !b) ≤ fuel → FInvS sr ops F Φ ks P0 T0 D w0 listed a w → wpAny P .any ops Q fuel listed a w := by
  have hend : ∀ (listed : Array Bool) (a : Act) (w : World), FInvS sr ops F Φ ks P0 T0 D w0 listed a w → (∀ j, j < ops.size → listed[j]? = some true) → Q .normal a w := by
    intro listed a w h hall
    obtain ⟨T, D'⟩ := a
    have hD : D' = D := h.defers
    subst hD
    obtain ⟨f, hf1, hf2⟩ := h.phase
    refine hQ T w h.upd h.size h.vars (fun j hj => h.facts j (hall j hj)) ?_
    rcases Nat.le_total f ops.size with hle | hge
    · rw [← cur_skipS (f := f) (i := ops.size) hle (fun j h1 h2 => by
        cases hc : inChain ks j with
        | false => rfl
        | true => have := (hf1 j h2 hc).1 (hall j h2); omega)]
      exact hf2
    · rw [cur_skipS (f := ops.size) (i := f) hge (fun j h1 _ => by
        unfold inChain
        rw [List.getD_eq_getElem?_getD, List.getElem?_eq_none (by omega)]; rfl)]
      exact hf2
  intro fuel
  induction fuel with
  | zero =>
    intro listed a w hc h
    have hall : ∀ j, j < ops.size → listed[j]? = some true := by
      intro j hj
      have hj' : j < listed.size := by rw [h.lsize]; exact hj
      have h0 : (listed.toList.countP fun b => !b) = 0 := by omega
      rw [List.countP_eq_zero] at h0
      have := h0 listed[j] (by simp)
      rw [Array.getElem?_eq_getElem hj']
      simpa using this
    refine ⟨?_, hend _ _ _ h hall⟩
    unfold Region.ready
    rw [List.filter_eq_nil_iff]
    intro i hi
    rw [List.mem_range] at hi
    rw [Array.getD_eq_getD_getElem?, hall i hi]
    simp
  | succ fuel ih =>
    intro listed a w hc h
    have hstep : ∀ i ∈ Region.ready .any ops listed, wpOp P ops Q i (wpAny P .any ops Q fuel (listed.setIfInBounds i true)) a w := by
      intro i hi
      unfold Region.ready at hi
      rw [List.mem_filter, List.mem_range, Bool.and_eq_true] at hi
      obtain ⟨hin, hnl, hde⟩ := hi
      have hin' : i < listed.size := by rw [h.lsize]; exact hin
      have ho : ops[i]? = some ops[i] := Array.getElem?_eq_getElem hin
      rw [ho] at hde
      simp only [Option.map_some, Option.getD_some] at hde
      have hdeps := fdepsS h ops[i].after.toList (by rw [← Array.all_toList] at hde; exact hde)
      have hstep := steps_getS (i := i) (o := ops[i]) hs (by simp [hin])
      rw [Nat.zero_add] at hstep
      obtain ⟨T, D'⟩ := a
      have hD : D' = D := h.defers
      subst hD
      have hlt : listed.getD i true = false := by simpa using hnl
      have hli : listed[i]? = some false := by
        rw [Array.getD_eq_getD_getElem?, Array.getElem?_eq_getElem hin'] at hlt
        rw [Array.getElem?_eq_getElem hin']
        simpa using hlt
      -- what is left, once the operation's value lies
      have hput : ∀ (v : Value) (w' : World), (ops[i].dst = none → v = undef) → Upd F w w' → Φ i v w' →
          (∃ f, (∀ j, j < ops.size → inChain ks j = true → ((listed.setIfInBounds i true)[j]? = some true ↔ j < f)) ∧ ∀ V, V i = v → (∀ j, j ≠ i → V j = slotOf ops T j) → curOfS sr (fun _ w => P0 w) 0 ks f V w') →
          wpAny P .any ops Q fuel (listed.setIfInBounds i true) ((⟨T, D'⟩ : Act).put ops[i].dst v) w' := by
        intro v w' hvn hu hφ hph
        have hself : slotOf ops ((⟨T, D'⟩ : Act).put ops[i].dst v).tmps i = v := by
          cases hdd : ops[i].dst with
          | none =>
            rw [slot_none ho hdd]
            exact (hvn hdd).symm
          | some d =>
            have hdT : d < T.size := by
              unfold dsts2B at hd
              rw [Array.all_eq_true] at hd
              have := hd i hin
              rw [hdd] at this
              rw [show T.size = T0.size from h.size]
              simpa using this
            unfold slotOf
            rw [ho]
            simp only [Option.bind_some, hdd, Option.map_some, Option.getD_some]
            show (T.setIfInBounds d v).getD d undef = v
            rw [Array.getD_eq_getD_getElem?, Array.getElem?_setIfInBounds_self_of_lt hdT]
            rfl
        have hother : ∀ j, j ≠ i → slotOf ops ((⟨T, D'⟩ : Act).put ops[i].dst v).tmps j = slotOf ops T j := by
          intro j hji
          cases hdd : ops[i].dst with
          | none => rfl
          | some d =>
            unfold slotOf
            cases hoj : ops[j]? with
            | none => rfl
            | some oj =>
              cases hdj : oj.dst with
              | none => simp [hdj]
              | some dj =>
                have hjn : j < ops.size := by
                  rcases Nat.lt_or_ge j ops.size with h1 | h1
                  · exact h1
                  · rw [Array.getElem?_eq_none h1] at hoj; cases hoj
                have hne : d ≠ dj := by
                  rintro rfl
                  unfold apart2B at ha
                  rw [List.all_eq_true] at ha
                  have h2 := ha i (List.mem_range.2 hin)
                  rw [List.all_eq_true] at h2
                  have h3 := h2 j (List.mem_range.2 hjn)
                  rw [ho, hoj] at h3
                  simp only [Option.bind_some, hdd, hdj, bne_self_eq_false, Bool.or_false] at h3
                  simp at h3
                  exact hji h3.symm
                simp only [Option.bind_some, hdj, Option.map_some, Option.getD_some]
                show (T.setIfInBounds d v).getD dj undef = T.getD dj undef
                rw [Array.getD_eq_getD_getElem?, Array.getD_eq_getD_getElem?, Array.getElem?_setIfInBounds_ne hne]
        refine ih _ _ _ ?_ ⟨h.upd.then hu, ?_, ?_, ?_, ?_, ?_, ?_, ?_, ?_⟩
        · have hcount : ((listed.setIfInBounds i true).toList.countP fun b => !b) + 1 = (listed.toList.countP fun b => !b) := by
            rw [Array.toList_setIfInBounds]
            have hil : i < listed.toList.length := by simpa using hin'
            have hf : listed.toList[i] = false := by
              rw [Array.getElem?_eq_getElem hin'] at hli
              simpa using hli
            have h1 := List.countP_set (p := fun b => !b) (l := listed.toList) (i := i) (a := true) hil
            have hpos : 0 < (listed.toList.countP fun b => !b) := by
              rw [List.countP_pos_iff]
              exact ⟨false, by rw [← hf]; exact List.getElem_mem hil, rfl⟩
            rw [h1, hf]
            simp only [Bool.not_false, if_true, Bool.not_true, Bool.false_eq_true, if_false]
            omega
          omega
        · show (Act.put _ _ _).defers = _
          cases hdd : ops[i].dst <;> rfl
        · show (Act.put _ _ _).tmps.size = _
          cases hdd : ops[i].dst with
          | none => exact h.size
          | some d =>
            show (T.setIfInBounds d v).size = _
            rw [Array.size_setIfInBounds]; exact h.size
        · rw [Array.size_setIfInBounds]; exact h.lsize
        · intro s hsn
          rw [← h.vars s hsn]
          cases hdd : ops[i].dst with
          | none => rfl
          | some d =>
            have hne : s ≠ d := by
              rintro rfl
              rw [any_of_get ho hdd] at hsn
              cases hsn
            show (T.setIfInBounds d v).getD s undef = T.getD s undef
            rw [Array.getD_eq_getD_getElem?, Array.getD_eq_getD_getElem?, Array.getElem?_setIfInBounds_ne (Ne.symm hne)]
        · intro j hj
          by_cases hji : j = i
          · subst hji
            rw [hself]; exact hφ
          · rw [Array.getElem?_setIfInBounds_ne (Ne.symm hji)] at hj
            rw [hother j hji]
            exact hk j _ _ _ (h.facts j hj) hu
        · intro j o hj hoj e he hb
          have hold : listed[e.on]? = some true := by
            by_cases hji : j = i
            · subst hji
              obtain rfl : ops[j] = o := by rw [ho] at hoj; exact Option.some.inj hoj
              rw [Array.all_eq_true'] at hde
              have h4 := hde e he
              rw [hb] at h4
              simp only [Bool.not_true, Bool.false_or] at h4
              rw [Array.getD_eq_getD_getElem?] at h4
              cases hx : listed[e.on]? with
              | none => rw [hx] at h4; simp at h4
              | some b => rw [hx] at h4; simpa using h4
            · rw [Array.getElem?_setIfInBounds_ne (Ne.symm hji)] at hj
              exact h.closed j o hj hoj e he hb
          by_cases hei : e.on = i
          · rw [hei]; exact Array.getElem?_setIfInBounds_self_of_lt hin'
          · rw [Array.getElem?_setIfInBounds_ne (Ne.symm hei)]; exact hold
        · intro j o s hoj hds hlj
          have hji : j ≠ i := by
            rintro rfl
            rw [Array.getElem?_setIfInBounds_self_of_lt hin'] at hlj
            cases hlj
          rw [Array.getElem?_setIfInBounds_ne (Ne.symm hji)] at hlj
          have h1 := hother j hji
          unfold slotOf at h1
          rw [hoj] at h1
          simp only [Option.bind_some, hds, Option.map_some, Option.getD_some] at h1
          rw [h1]
          exact h.early j o s hoj hds hlj
        · obtain ⟨f, hf1, hf2⟩ := hph
          exact ⟨f, hf1, hf2 _ hself hother⟩
      obtain ⟨f, hf1, hf2⟩ := h.phase
      have hlate : ∀ s, lateB ops i s = true → T.getD s undef = T0.getD s undef := by
        intro s hs'
        unfold lateB at hs'
        rw [List.any_eq_true] at hs'
        obtain ⟨j, hj, hs'⟩ := hs'
        rw [Bool.and_eq_true] at hs'
        have hjn := List.mem_range.1 hj
        have hlj : listed[j]? = some false := by
          have hjl : j < listed.size := by rw [h.lsize]; exact hjn
          rw [Array.getElem?_eq_getElem hjl]
          cases hb : listed[j] with
          | false => rfl
          | true =>
            have h3 : listed[i]? = some true := marks_closed h.closed i ops.size j hs'.2 (by
              show listed[j]? = some true
              rw [Array.getElem?_eq_getElem hjl, hb])
            rw [hli] at h3; cases h3
        refine h.early j ops[j] s (Array.getElem?_eq_getElem hjn) ?_ hlj
        have h4 := hs'.1
        rw [Array.getElem?_eq_getElem hjn] at h4
        simpa using h4
      unfold wpOp
      simp only [ho]
      cases hkind : ks.getD i none with
      | none =>
        have hic : inChain ks i = false := by unfold inChain; rw [hkind]; rfl
        rw [hkind] at hstep
        have hph : ∀ (v : Value) (w' : World), Below w.heap.size w w' → ∃ f, (∀ j, j < ops.size → inChain ks j = true → ((listed.setIfInBounds i true)[j]? = some true ↔ j < f)) ∧ ∀ V, V i = v → (∀ j, j ≠ i → V j = slotOf ops T j) → curOfS sr (fun _ w => P0 w) 0 ks f V w' := by
          intro v w' hb
          refine ⟨f, fun j hj hcj => ?_, fun V _ hV => ?_⟩
          · have hne : i ≠ j := by rintro rfl; rw [hic] at hcj; cases hcj
            rw [Array.getElem?_setIfInBounds_ne hne]
            exact hf1 j hj hcj
          · refine cur_keepS hks hb (fun j hj => ?_) (fun hp => hP0 _ _ hp hb) hf2
            rw [Nat.zero_add]
            exact hV (sr j) (fun e => by have := srcB_at hsr hj; rw [e, hic] at this; cases this)
        rcases hstep T w Q h.upd h.size h.vars hlate hdeps with ⟨hw, hwp⟩ | ⟨hw, hφ⟩
        · simp only [hw, if_true]
          refine .inl (Oper.wp_mono ?_ hwp)
          rintro a' w' ⟨v, rfl, hvn, hb, hφ⟩
          exact hput v w' hvn (.of_below F hb) hφ (hph v w' hb)
        · simp only [hw, Bool.false_eq_true, if_false]
          exact hput undef w (fun _ => rfl) (.refl F w) hφ (hph undef w (Below.refl _ _))
      | some φ =>
        have hic : inChain ks i = true := by unfold inChain; rw [hkind]; rfl
        rw [hkind] at hstep
        have hfi : f ≤ i := by
          rcases Nat.lt_or_ge i f with h1 | h1
          · have := (hf1 i hin hic).2 h1
            rw [hli] at this; cases this
          · exact h1
        have hprev : ∀ j, j < i → inChain ks j = true → j < f := by
          intro j hj hcj
          unfold chainB at hch
          rw [List.all_eq_true] at hch
          have h1 := hch i (List.mem_range.2 hin)
          rw [chain_isSome, hic] at h1
          simp only [Bool.not_true, Bool.false_or] at h1
          rw [List.all_eq_true] at h1
          have h2 := h1 j (List.mem_range.2 hj)
          rw [chain_isSome, hcj] at h2
          simp only [Bool.not_true, Bool.false_or] at h2
          rw [marks_at (marks_lt h2), Bool.or_eq_true] at h2
          rcases h2 with h2 | h2
          · have := eq_of_beq h2; omega
          · rw [ho] at h2
            simp only [Option.map_some, Option.getD_some] at h2
            rw [Array.any_eq_true'] at h2
            obtain ⟨e, he, h3⟩ := h2
            rw [Bool.and_eq_true] at h3
            rw [Array.all_eq_true'] at hde
            have h4 := hde e he
            rw [h3.1] at h4
            simp only [Bool.not_true, Bool.false_or] at h4
            have hel : listed[e.on]? = some true := by
              rw [Array.getD_eq_getD_getElem?] at h4
              cases hx : listed[e.on]? with
              | none => rw [hx] at h4; simp at h4
              | some b => rw [hx] at h4; simpa using h4
            exact (hf1 j (by omega) hcj).1 (marks_closed h.closed j i e.on h3.2 hel)
        have hcur : curOfS sr (fun _ w => P0 w) 0 ks i (slotOf ops T) w := by
          rw [← cur_skipS hfi (fun j h1 h2 => by
            cases hc : inChain ks j with
            | false => rfl
            | true => have := hprev j h2 hc; omega)]
          exact hf2
        have hph : ∀ (v : Value) (w' : World), φ (ownV sr i v (slotOf ops T)) w' → ∃ f, (∀ j, j < ops.size → inChain ks j = true → ((listed.setIfInBounds i true)[j]? = some true ↔ j < f)) ∧ ∀ V, V i = v → (∀ j, j ≠ i → V j = slotOf ops T j) → curOfS sr (fun _ w => P0 w) 0 ks f V w' := by
          intro v w' hφ
          refine ⟨i + 1, fun j hj hcj => ?_, fun V hVi hVo => ?_⟩
          · by_cases hji : j = i
            · subst hji
              rw [Array.getElem?_setIfInBounds_self_of_lt hin']
              simp
            · rw [Array.getElem?_setIfInBounds_ne (Ne.symm hji), hf1 j hj hcj]
              constructor
              · intro h1; omega
              · intro h1; exact hprev j (by omega) hcj
          · rw [cur_succS hkind]
            show φ (V (sr (0 + i))) w'
            rw [Nat.zero_add]
            by_cases hsi : sr i = i
            · rw [hsi, hVi]
              have : ownV sr i v (slotOf ops T) = v := by unfold ownV; rw [hsi]; simp
              rw [this] at hφ
              exact hφ
            · rw [hVo _ hsi]
              have : ownV sr i v (slotOf ops T) = slotOf ops T (sr i) := by unfold ownV; rw [beq_eq_false_iff_ne.2 hsi]; rfl
              rw [this] at hφ
              exact hφ
        rcases hstep T w Q h.upd h.size h.vars hlate hdeps hcur with ⟨hw, hwp⟩ | ⟨hw, hφ, hψ⟩
        · simp only [hw, if_true]
          refine .inl (Oper.wp_mono ?_ hwp)
          rintro a' w' ⟨v, rfl, hvn, hu, hφ, hψ⟩
          exact hput v w' hvn hu hφ (hph v w' hψ)
        · simp only [hw, Bool.false_eq_true, if_false]
          exact hput undef w (fun _ => rfl) (.refl F w) hφ (hph undef w hψ)
    refine ⟨fun hr => ?_, hstep⟩
    refine hend _ _ _ h ?_
    intro j
    induction j using Nat.strongRecOn with
    | ind j ihj =>
      intro hj
      have hjl : j < listed.size := by rw [h.lsize]; exact hj
      cases hb : listed[j] with
      | true => rw [Array.getElem?_eq_getElem hjl, hb]
      | false =>
        exfalso
        have hmem : j ∈ Region.ready .any ops listed := by
          unfold Region.ready
          rw [List.mem_filter, List.mem_range, Bool.and_eq_true]
          refine ⟨hj, ?_, ?_⟩
          · rw [Array.getD_eq_getD_getElem?, Array.getElem?_eq_getElem hjl, hb]; rfl
          · rw [Array.getElem?_eq_getElem hj]
            simp only [Option.map_some, Option.getD_some]
            unfold backB at hbk
            rw [List.all_eq_true] at hbk
            have h1 := hbk j (List.mem_range.2 hj)
            rw [Array.getElem?_eq_getElem hj] at h1
            simp only [Option.map_some, Option.getD_some] at h1
            rw [Array.all_eq_true'] at h1 ⊢
            intro e he
            have h2 := h1 e he
            rw [decide_eq_true_iff] at h2
            rw [Array.getD_eq_getD_getElem?, ihj e.on h2 (by omega)]
            simp
        rw [hr] at hmem
        cases hmem

/-- The region's rule. -/
theorem wp_region_flowS (sr : Nat → Nat) {P : Program} {ops : Array Oper} {id : Nat} {a0 : Act} {w0 : World} {Q : Exit → Act → World → Prop} (F : Nat → Prop) (Φ : Nat → Fact) (ks : List (Option Fact)) (P0 : World → Prop)
    (hm : P.follows .mixedOrders = true) (hk : ∀ i, FKept F (Φ i)) (hP0 : ∀ w w', P0 w → Below w.heap.size w w' → P0 w') (hks : KeptKinds ks) (hd : dsts2B ops a0.tmps.size = true) (ha : apart2B ops = true) (hbk : backB ops = true) (hch : chainB ops (ks.map (·.isSome)) = true) (hlen : ks.length ≤ ops.size) (hsr : srcB ks sr = true)
    (h0 : P0 w0) (hs : StepsS sr P ops F Φ a0.tmps a0.defers w0 0 ops.toList ks fun _ w => P0 w)
    (hQ : ∀ T w, Upd F w0 w → T.size = a0.tmps.size → (∀ s, (ops.any fun o => o.dst == some s) = false → T.getD s undef = a0.tmps.getD s undef) → (∀ j, j < ops.size → Φ j (slotOf ops T j) w) → curOfS sr (fun _ w => P0 w) 0 ks ops.size (slotOf ops T) w → Q .normal ⟨T, a0.defers⟩ w) :
    (Code.region id ops true).wp P Q a0 w0 := by
  refine wp_region_any hm (wpAny_flowS hk hP0 hks hd ha hbk hch hlen hsr hs hQ _ _ _ _ ?_ ⟨(Upd.refl F w0).drew, rfl, rfl, by simp, fun _ _ => rfl, fun j hj => ?_, fun i o hi => ?_, fun _ _ _ _ _ _ => rfl, 0, fun j hj _ => ?_, ?_⟩)
  · rw [Array.toList_replicate]
    exact Nat.le_trans List.countP_le_length (by simp)
  · rw [Array.getElem?_replicate] at hj
    split at hj <;> simp at hj
  · replace hi : (Array.replicate ops.size false)[i]? = some true := hi
    rw [Array.getElem?_replicate] at hi
    split at hi <;> simp at hi
  · rw [Array.getElem?_replicate]
    constructor
    · intro h; split at h <;> simp at h
    · intro h; omega
  · simp only [curOfS]
    exact hP0 _ _ h0 (Below.refl _ w0).drew
end Go.Proofs.YtpnboihbifhigaaGreatDoor
/- Walks of the disk: power, the sector written last. -/
namespace Go.Proofs.YtpnboihbifhigaaGreatDoor
open Go Go.RowKit

/-- A call that takes power. -/
def DS.draw (D : DS) : DS := if D.dead then D else if D.sched then (if D.left = 0 then { D with dead := true } else { D with left := D.left - 1 }) else D
theorem DS.draw_n (D : DS) : D.draw.n = D.n := by unfold DS.draw; split <;> (try split) <;> (try split) <;> rfl
theorem DS.draw_size (D : DS) : D.draw.size = D.size := by unfold DS.draw; split <;> (try split) <;> (try split) <;> rfl
theorem DS.draw_dur (D : DS) : D.draw.dur = D.dur := by unfold DS.draw; split <;> (try split) <;> (try split) <;> rfl
theorem DS.draw_wr (D : DS) : D.draw.wr = D.wr := by unfold DS.draw; split <;> (try split) <;> (try split) <;> rfl
theorem DS.draw_left (D : DS) : D.draw.left ≤ D.left := by unfold DS.draw; split <;> (try split) <;> (try split) <;> simp
def DS.last (D : DS) (i : Nat) : List UInt8 := (D.wr i).getD (D.dur i)

section
variable {w w' : World} {sb db mb cap : Nat} {vs : Array Value} {g : Nat → Option Value} {R : Nat → Prop} {D D' : DS}
theorem DiskAt.rehead (h : DiskAt w sb db mb cap vs g R D) (hu : Upd (fun k => k = sb) w w') (hh : w'.heap[sb]? = some (.cells #[.int .i64 D'.size, .slice (some ⟨db, 0, none⟩) D'.n cap, .map (some mb), .bool D'.dead, .bool D'.sched, .int .i64 D'.left] 56))
    (h1 : D'.n = D.n) (h2 : D'.size = D.size) (h3 : D'.dur = D.dur) (h4 : D'.wr = D.wr) (h5 : D'.left ≤ 4611686018427387904) : DiskAt w' sb db mb cap vs g R D' where
  head := hh
  arr := hu.heap h.arr (fun e => h.ne.2.2.2.1 e.symm)
  len := by rw [h1]; exact h.len
  cap := by rw [h1]; exact h.cap
  map := by rw [h1]; exact h.map.upd hu (fun e => h.ne.2.2.2.2.1 e.symm)
  dur i hi := by
    rw [h1] at hi
    obtain ⟨a1, v, a2, a3⟩ := h.dur i hi
    rw [h3, h2]
    exact ⟨a1, v, a2, a3.upd hu fun k hk e => h.ne.1 (e ▸ hk)⟩
  wr i hi := by
    rw [h1] at hi
    have := h.wr i hi
    rw [h4, h2]
    split at this
    · trivial
    · exact ⟨this.1, this.2.upd hu fun k hk e => h.ne.1 (e ▸ hk)⟩
    · exact this
  ne := h.ne
  old k hk := (h.old k hk).upd hu fun e => h.ne.1 (e ▸ hk)
  n1 := by rw [h1]; exact h.n1
  s1 := by rw [h2]; exact h.s1
  l1 := h5

theorem draw_any (h : DiskAt w sb db mb cap vs g R D) : Calls Tryz.prog 119 #[.pointer (some ⟨sb, 3, none⟩)] w fun e w' => e = .returned (.bool (!D.draw.dead)) ∧ Upd (fun k => k = sb) w w' ∧ DiskAt w' sb db mb cap vs g R D.draw := by
  have c3 := h.c3
  have c4 := h.c4
  have c5 := h.c5
  have f3 := h.f 3
  have f5 := h.f 5
  obtain ⟨n, size, dur, wr, dead, sched, left⟩ := D
  have hl : left ≤ 4611686018427387904 := h.l1
  replace h := hide h
  simp only at c3 c4 c5
  cases dead
  · cases sched
    · go_enter Tryz.func119, Tryz.ntmps119
      go_wp2_with fail
      go_ret
      exact ⟨by simp [DS.draw], .refl _ _, by simpa [DS.draw] using h.out⟩
    · rcases Nat.eq_zero_or_pos left with h0 | h0
      · subst h0
        go_enter Tryz.func119, Tryz.ntmps119
        go_wp2_with fail
        go_ret
        exact ⟨by simp [DS.draw], .set (F := fun k => k = sb) w (a := ⟨sb, 3, none⟩) rfl _, h.out.rehead (.set (F := fun k => k = sb) w (a := ⟨sb, 3, none⟩) rfl _) (by rw [heap_set h.out.head]; simp [DS.draw]) rfl rfl rfl rfl (Nat.zero_le _)⟩
      · have hne : (decide ((left : Int) = 0)) = false := by simp; omega
        go_enter Tryz.func119, Tryz.ntmps119
        go_wp2_with fail
        go_ret
        exact ⟨by simp [DS.draw, show left ≠ 0 by omega], .set (F := fun k => k = sb) w (a := ⟨sb, 5, none⟩) rfl _, h.out.rehead (.set (F := fun k => k = sb) w (a := ⟨sb, 5, none⟩) rfl _) (by rw [heap_set h.out.head]; simp [DS.draw, show left ≠ 0 by omega]; omega) (by simp [DS.draw_n]) (by simp [DS.draw_size]) (by simp [DS.draw_dur]) (by simp [DS.draw_wr]) (Nat.le_trans (DS.draw_left _) hl)⟩
  · cases sched
    · go_enter Tryz.func119, Tryz.ntmps119
      go_wp2_with fail
      go_ret
      exact ⟨by simp [DS.draw], .refl _ _, by simpa [DS.draw] using h.out⟩
    · rcases Nat.eq_zero_or_pos left with h0 | h0
      · subst h0
        go_enter Tryz.func119, Tryz.ntmps119
        go_wp2_with fail
        go_ret
        exact ⟨by simp [DS.draw], .set (F := fun k => k = sb) w (a := ⟨sb, 3, none⟩) rfl _, h.out.rehead (.set (F := fun k => k = sb) w (a := ⟨sb, 3, none⟩) rfl _) (by rw [heap_set h.out.head]; simp [DS.draw]) rfl rfl rfl rfl (Nat.zero_le _)⟩
      · have hne : (decide ((left : Int) = 0)) = false := by simp; omega
        go_enter Tryz.func119, Tryz.ntmps119
        go_wp2_with fail
        go_ret
        exact ⟨by simp [DS.draw], .refl _ _, by simpa [DS.draw] using h.out⟩
end
section
variable {w : World} {sb db mb cap : Nat} {vs : Array Value} {g : Nat → Option Value} {R : Nat → Prop} {D : DS}
theorem zero_bytes (w : World) : (zeroValue 62).run Tryz.prog w = .ok (.slice none 0 0) w := by kernel_rfl
theorem key_int (i : Nat) (h : i ≤ 4611686018427387904) : keyOf Tryz.prog 3 (.int .i64 (i : Int)) = some (kI i) := Maps.keyOf_int_mk Tryz.underlying3 (WalkArith.wf_i64 (by omega))

theorem last_any (h : DiskAt w sb db mb cap vs g R D) (i : Nat) (hi : i < D.n) : Calls Tryz.prog 172 #[.pointer (some ⟨sb, 0, none⟩), .int .i64 i] w fun e w' => ∃ v', e = .returned v' ∧ RowB w' w.heap.size v' (D.last i) ∧ Below w.heap.size w w' := by
  have c1 := h.c1
  have c2 := h.c2
  obtain ⟨DM, m1, m2, m3, m4⟩ := h.map
  obtain ⟨m5, m6⟩ := m4 i hi
  have hn := h.n1
  have hs := h.s1
  obtain ⟨d1, v, d2, d3⟩ := h.dur i hi
  have w1 := h.wr i hi
  have cv : w.cell? ⟨db, i, none⟩ = some v := by rw [cell_at h.arr]; exact d2
  have hk := key_int i (by omega)
  have hd : DS.last D i = (D.wr i).getD (D.dur i) := rfl
  cases hg : g i with
  | none =>
    rw [hg] at m5 m6 w1
    have hw : D.wr i = none := by
      cases hw : D.wr i with
      | none => rfl
      | some _ => rw [hw] at w1; exact w1.elim
    rw [hw] at hd
    have hcl := clone_any d3 (by omega)
    rw [hd]
    obtain ⟨A, c, rfl, d4⟩ := d3
    clear h m4 w1 d2 hd hg
    replace m1 := hide m1
    replace m6 := hide m6
    replace m3 := hide m3
    replace d4 := hide d4
    replace d1 := hide d1
    go_enter Tryz.func172, Tryz.ntmps172
    go_wp2_with (at_lookup; refine wpList_lookup_own_ok _ rfl _ _ 50 rfl 3 62 int_key Tryz.underlying50 heldE (zero_bytes _) (.held (.slice none 0 0)) [] rfl mb _ DM rfl m1.out _ _ rfl hk ?_; intro v ps hv; rw [m5]; clear hv)
    refine hcl.mono ?_
    rintro e w' ⟨v', rfl, h1, h2⟩
    replace h1 := hide h1
    replace h2 := hide h2
    go_wp2_with fail
    go_ret
    exact ⟨_, rfl, h1.out, h2.out⟩
  | some u =>
    rw [hg] at m5 m6 w1
    cases hw : D.wr i with
    | none => rw [hw] at w1; exact w1.elim
    | some l =>
      rw [hw] at hd w1
      obtain ⟨w1, w2⟩ := w1
      have hcl := clone_any w2 (by omega)
      rw [hd]
      obtain ⟨A, c, rfl, d4⟩ := w2
      clear h m4 d3 d2 d1 hd hg cv
      replace m1 := hide m1
      replace m6 := hide m6
      replace m3 := hide m3
      replace d4 := hide d4
      replace w1 := hide w1
      go_enter Tryz.func172, Tryz.ntmps172
      go_wp2_with (at_lookup; refine wpList_lookup_own_ok _ rfl _ _ 50 rfl 3 62 int_key Tryz.underlying50 heldE (zero_bytes _) (.held (.slice none 0 0)) [] rfl mb _ DM rfl m1.out _ _ rfl hk ?_; intro v ps hv; rw [m5]; rw [m6.out] at hv; obtain rfl := heldE_val hv)
      refine hcl.mono ?_
      rintro e w' ⟨v', rfl, h1, h2⟩
      replace h1 := hide h1
      replace h2 := hide h2
      go_wp2_with fail
      go_ret
      exact ⟨_, rfl, h1.out, h2.out⟩
end
end Go.Proofs.YtpnboihbifhigaaGreatDoor
/- Walks of the disk: a sector is written. -/
namespace Go.Proofs.YtpnboihbifhigaaGreatDoor
open Go Go.RowKit
section
variable {w : World} {sb db mb cap : Nat} {vs : Array Value} {g : Nat → Option Value} {R : Nat → Prop} {D : DS}
set_option maxRecDepth 100000 in
theorem replace_any (h : DiskAt w sb db mb cap vs g R D) (i : Nat) (hi : i < D.n) {S : Nat → Prop} {v : Value} {l : List UInt8} (hv : ArgV w S v (bv l)) (hl : l.length = D.size) :
    Calls Tryz.prog 148 #[.pointer (some ⟨sb, 0, none⟩), .int .i64 i, v] w fun e w' => e = .returned (.tuple #[]) ∧
      ∃ g' R', DiskAt w' sb db mb cap vs g' R' { D with wr := setAt D.wr i l } ∧ Mv w (Foot sb db mb R) w' (Foot sb db mb R') := by
  have c2 := h.c2
  obtain ⟨DM, m1, m2, m3, m4⟩ := h.map
  have hn := h.n1
  have hs := h.s1
  have hk := key_int i (by omega)
  have hcl : Calls Tryz.prog 79 #[v] w.drew fun e w' => ∃ v', e = .returned v' ∧ RowB w' w.heap.size v' l ∧ Below w.heap.size w w' :=
    (clone_any (hv.upd (Upd.refl (fun _ => False) w).drew fun _ _ => id) (by omega)).mono fun e w' ⟨v', h1, h2, h3⟩ => ⟨v', h1, h2, ((Below.refl _ w).drew).trans h3⟩
  have hc := cnt_le g D.n
  have hm := m1.lt
  have hsb := (Array.getElem?_eq_some_iff.1 h.head).1
  obtain ⟨A, c, rfl, hv2⟩ := hv
  replace h := hide h
  replace m1 := hide m1
  replace m2 := hide m2
  replace m3 := hide m3
  replace m4 := hide m4
  replace hv2 := hide hv2
  go_enter Tryz.func148, Tryz.ntmps148
  go_region_with (
       go_at_call 79
       refine hcl.mono ?_
       rintro e w1 ⟨v1, rfl, h1, h2⟩
       obtain ⟨A1, n1, c1, rfl⟩ := h1.slice
       have c2' := (h2.cell (World.block_lt_of_cell? _ _ c2)).trans c2
       have mo : w1.ownsMap Tryz.prog 3 heldE mb (cnt g D.n) DM := by
         obtain ⟨es, clock, hb, r⟩ := m1.out
         exact ⟨es, clock, (h2.block mb hm).trans hb, r⟩
       obtain ⟨w2, hrun, ho2, ht2⟩ := mo.store int_key Tryz.underlying50 (by unfold maxLen; omega) hk (rfl : heldE (.slice A1 n1 c1) = some (_, []))
       clear mo
       replace h1 := hide h1
       replace h2 := hide h2
       replace ho2 := hide ho2
       replace ht2 := hide ht2)
  all_goals
    have hg := ht2.out.grown
    have hU1 : Upd (fun _ => False) w w1 := .of_below _ h2.out
    have hU2 : Upd (fun k => k = mb) w1 w2 := .grown hg fun k hk => (Option.some.inj hk).symm
    have hU : Upd (fun k => k = mb) w w2 := (Upd.mono hU1 fun _ _ h => h.elim).then hU2
    go_wp2_with fail
    go_end0
    have hD := h.out
    have hmv := ho2.out
    refine ⟨rfl, setAt g i (.slice A1 n1 c1), fun k => R k ∨ (w.heap.size ≤ k ∧ IsC w2 k), ?_, hU.mono (fun k hk e => Or.inr (Or.inr (Or.inl e))), fun k hk => ?_⟩
    · exact {
        head := hU.heap hD.head hD.ne.2.2.2.2.1
        arr := hU.heap hD.arr hD.ne.2.2.2.2.2
        len := hD.len
        cap := hD.cap
        map := MapV.put hi (m1.out.tidy int_key) m2.out m3.out m4.out hmv
        dur := fun j hj => by
          obtain ⟨a1, v, a2, a3⟩ := hD.dur j hj
          exact ⟨a1, v, a2, (a3.upd hU fun k hk e => hD.ne.2.2.1 (e ▸ hk)).mono fun k _ => .inl⟩
        wr := fun j hj => by
          by_cases e : j = i
          · subst e
            have : D.wr j = D.wr j := rfl
            simp only [setAt_self]
            refine ⟨hl, (h1.out.arg.upd hU2 fun k hk e => by subst e; omega).cel.mono fun k _ hk2 => .inr hk2⟩
          · simp only [setAt_other _ _ e]
            have := hD.wr j hj
            split at this
            · trivial
            · exact ⟨this.1, (this.2.upd hU fun k hk e => hD.ne.2.2.1 (e ▸ hk)).mono fun k _ => .inl⟩
            · exact this
        ne := by
          have ha := (Array.getElem?_eq_some_iff.1 hD.arr).1
          obtain ⟨n1, n2, n3, n4⟩ := hD.ne
          exact ⟨fun h => h.elim n1 (by omega), fun h => h.elim n2 (by omega), fun h => h.elim n3 (by omega), n4⟩
        old := fun k hk => hk.elim (fun h => (hD.old k h).upd hU fun e => hD.ne.2.2.1 (e ▸ h)) (·.2)
        n1 := hD.n1
        s1 := hD.s1
        l1 := hD.l1 }
    · rcases hk with h | h | h | h | h
      · exact .inl (.inl h)
      · exact .inl (.inr (.inl h))
      · exact .inl (.inr (.inr (.inl h)))
      · exact .inl (.inr (.inr (.inr h)))
      · exact .inr h.1
end
end Go.Proofs.YtpnboihbifhigaaGreatDoor
/- Walks of the disk: what was written becomes durable. -/
namespace Go.Proofs.YtpnboihbifhigaaGreatDoor
open Go Go.RowKit
section
variable {w : World} {sb db mb cap : Nat} {vs : Array Value} {g : Nat → Option Value} {R : Nat → Prop} {D : DS}
/-- Nothing waits any more. -/
theorem forget_is {v : Value} (hh : w.heap[sb]? = some (.cells #[.int .i64 D.size, .slice (some ⟨db, 0, none⟩) D.n cap, v, .bool D.dead, .bool D.sched, .int .i64 D.left] 56)) :
    Calls Tryz.prog 64 #[.pointer (some ⟨sb, 0, none⟩)] w fun e w' => e = .returned (.tuple #[]) ∧ w'.heap.size = w.heap.size + 1 ∧ Upd (fun k => k = sb) w w' ∧ w'.heap[w.heap.size]? = some (.map #[] 0) ∧
      w'.heap[sb]? = some (.cells #[.int .i64 D.size, .slice (some ⟨db, 0, none⟩) D.n cap, .map (some w.heap.size), .bool D.dead, .bool D.sched, .int .i64 D.left] 56) := by
  have hb := (Array.getElem?_eq_some_iff.1 hh).1
  have c2 : w.cell? ⟨sb, 2, none⟩ = some v := by rw [cell_at hh]; rfl
  have f2 := frozen_at hh 2
  have hmm := @run_makeMap Tryz.prog
  replace hh := hide hh
  go_enter Tryz.func64, Tryz.ntmps64
  go_wp2_with fail
  go_end0
  have e : (w.setCell ⟨sb, 2, none⟩ (.map (some w.heap.size))).heap.size = w.heap.size := by simp [World.setCell]
  refine ⟨rfl, by simp [World.setCell], (Upd.set (F := fun k => k = sb) w (a := ⟨sb, 2, none⟩) rfl _).then (.alloc _ _ _), ?_, ?_⟩
  · have := heap_new (w.setCell ⟨sb, 2, none⟩ (.map (some w.heap.size))) (.map #[] 0)
    rwa [e] at this
  · refine heap_old ?_ _
    rw [heap_set hh.out]; simp

theorem MapV.empty {w : World} {mb : Nat} (N : Nat) (h : w.heap[mb]? = some (.map #[] 0)) : MapV w mb N (fun _ => none) := by
  have hc : cnt (fun _ => none) N = 0 := by simp [cnt]
  refine ⟨.map [], ?_, by rw [hc]; rfl, fun kl h => (by simp [Maps.has] at h), fun i hi => ⟨rfl, fun zd => rfl⟩⟩
  obtain ⟨es, clock, h1, h2, h3, h4⟩ := World.ownsMap_made w Tryz.prog 3 heldE
  rw [heap_new] at h1
  injection h1 with h1
  injection h1 with e1 e2
  subst e1 e2
  exact ⟨_, _, h, h2, Nat.zero_le _, h4⟩
theorem grownBy_set (w : World) (b o : Nat) (u : Value) : w.grownBy (w.setCell ⟨b, o, none⟩ u) (some b) :=
  ⟨rfl, rfl, rfl, by simp [World.setCell], fun k _ hn => Below.heap_setCell _ _ _ _ fun e => hn (by rw [e])⟩
/-- The array while it is being settled. -/
def Half (w : World) (db n : Nat) (vs : Array Value) (g : Nat → Option Value) (left : Lit → Bool) : Prop :=
  ∃ us : Array Value, w.heap[db]? = some (.cells us 62) ∧ us.size = n ∧ ∀ i, i < n → us[i]? = if (g i).isSome = true ∧ left (kI i) = false then g i else vs[i]?

set_option maxRecDepth 100000 in
theorem settle_any (h : DiskAt w sb db mb cap vs g R D) : Calls Tryz.prog 120 #[.pointer (some ⟨sb, 0, none⟩)] w fun e w' => e = .returned (.tuple #[]) ∧
    ∃ mb' vs' g', DiskAt w' sb db mb' cap vs' g' R { D with dur := D.last, wr := fun _ => none } ∧ Mv w (Foot sb db mb R) w' (Foot sb db mb' R) := by
  have c2 := h.c2
  have hn := h.n1
  have hsz := h.len
  have harr := h.arr
  have hhead := h.head
  obtain ⟨DM, m1, m2, m3, m4⟩ := h.map
  have hmb := m1.lt
  have hsb := (Array.getElem?_eq_some_iff.1 h.head).1
  have hdb := (Array.getElem?_eq_some_iff.1 h.arr).1
  have hne := h.ne.2.2.2
  replace h := hide h
  replace m2 := hide m2
  replace m3 := hide m3
  replace m4 := hide m4
  replace harr := hide harr
  replace hhead := hide hhead
  replace hne := hide hne
  go_enter Tryz.func120, Tryz.ntmps120
  go_wp2_with (at_range; refine wpList_range_own _ rfl _ 50 rfl 3 62 int_key Tryz.underlying50 heldE mb _ DM rfl m1 ?_; intro w0 hrg0 hg0 hs0)
  go_frame
  go_loopw [2] (fun _ wr => ∃ (left : Lit → Bool) (cn : Nat), wr.ranges Tryz.prog 3 heldE mb w.heap.size (cnt g D.n) DM left cn ∧ (∀ kl, left kl = true → Maps.has DM kl = true) ∧ Half wr db D.n vs g left ∧ Upd (fun k => k = db) w wr) (fun _ wr => wr.rangeLeft mb w.heap.size)
  case atStart =>
    refine ⟨_, _, hrg0, fun _ h => h, ⟨vs, ?_, hsz, fun i hi => ?_⟩, Upd.mono (F := fun _ => False) (.grown hg0 fun k hk => by cases hk) fun _ _ h => h.elim⟩
    · exact (Upd.grown (F := fun _ => False) hg0 fun k hk => by cases hk).heap harr.out id
    · rw [if_neg]
      rw [(m4.out i hi).1]
      rintro ⟨h1, h2⟩
      rw [h1] at h2; cases h2
  case round =>
    obtain ⟨left, cn, hrg, hlf, ⟨us, hus, hsu, hiu⟩, hU⟩ := hrel
    have hhd := hU.heap hhead.out hne.out.1
    have d1 : wr.cell? ⟨sb, 1, none⟩ = some (.slice (some ⟨db, 0, none⟩) D.n cap) := by rw [cell_at hhd]; rfl
    replace hlf := hide hlf
    replace hiu := hide hiu
    replace hus := hide hus
    replace hU := hide hU
    replace hhd := hide hhd
    clear hs0 hg0 hrg0
    go_wp2_with (at_next; refine wpList_next_ranges _ rfl _ rfl 3 int_key heldE (Value.int .i64) (fun x : Option Addr × Nat × Nat => Value.slice x.1 x.2.1 x.2.2) (fun key kl hkey => by obtain ⟨x, rfl, _⟩ := Maps.keyOf_int_inv Tryz.underlying3 hkey; exact ⟨x, rfl⟩) (fun v y hv => (heldE_inv hv).1) mb w.heap.size (cnt g D.n) _ _ _ rfl hrg ?_ ?_)
    · intro hc0 hl0
      go_wp2_with fail
      refine (forget_is hhd.out).mono ?_
      rintro e w2 ⟨rfl, hz2, hU2, hm2, hh2⟩
      replace hU2 := hide hU2
      replace hm2 := hide hm2
      replace hh2 := hide hh2
      replace hz2 := hide hz2
      go_wp2_with fail
      go_end0
      have hD := h.out
      have hnn := hne.out
      have hN := hD.ne
      have hws := hU.out.size
      have hr : ∀ {v l}, ArgV w R v (bv l) → ArgV w2 R v (bv l) := fun h => (h.upd hU.out fun k hk e => hN.2.1 (e ▸ hk)).upd hU2.out fun k hk e => hN.1 (e ▸ hk)
      refine ⟨rfl, wr.heap.size, us, fun _ => none, ?_, ?_, fun k hk => ?_⟩
      · exact {
          head := hh2.out
          arr := hU2.out.heap hus.out (by omega)
          len := hsu
          cap := hD.cap
          map := MapV.empty _ hm2.out
          dur := fun i hi => by
            have hi1 := hiu.out i hi
            obtain ⟨a1, v, a2, a3⟩ := hD.dur i hi
            have a4 := hD.wr i hi
            show (DS.last D i).length = D.size ∧ ∃ v, us[i]? = some v ∧ ArgV w2 R v (bv (DS.last D i))
            unfold DS.last
            rw [hi1]
            cases hg : g i with
            | none =>
              rw [hg] at a4
              cases hw : D.wr i with
              | none => exact ⟨a1, v, by simpa using a2, hr a3⟩
              | some l => rw [hw] at a4; exact a4.elim
            | some u =>
              rw [hg] at a4
              cases hw : D.wr i with
              | none => rw [hw] at a4; exact a4.elim
              | some l => rw [hw] at a4; exact ⟨a4.1, u, by simp [hl0], hr a4.2⟩
          wr := fun _ _ => trivial
          ne := ⟨hN.1, hN.2.1, fun hk => by have := (hD.old _ hk).lt; omega, hnn.1, by omega, by omega⟩
          old := fun k hk => ((hD.old k hk).upd hU.out fun e => hN.2.1 (e ▸ hk)).upd hU2.out fun e => hN.1 (e ▸ hk)
          n1 := hD.n1
          s1 := hD.s1
          l1 := hD.l1 }
      · exact (hU.out.mono fun k _ e => Or.inr (Or.inl e)).then (hU2.out.mono fun k _ e => Or.inl e)
      · rcases hk with e | e | e | e
        · exact .inl (.inl e)
        · exact .inl (.inr (.inl e))
        · exact .inr (by omega)
        · exact .inl (.inr (.inr (.inr e)))
    · intro x A n c kl yd yp w1 cnt1 hkey hlk hv hat hrg1 hlt hg1 hs1 hen
      obtain ⟨i, hi, rfl⟩ := m3.out _ (hlf.out _ hlk)
      obtain ⟨x', ex, ek, hwx⟩ := Maps.keyOf_int_inv Tryz.underlying3 hkey
      injection ex with _ ex
      subst ex
      injection ek with _ ek
      subst ek
      have hgi : g i = some (.slice A n c) := by
        have h2 := (m4.out i hi).2 .nil
        rw [hat] at h2
        have h3 := (heldE_inv hv).2
        injection h3 with h3 _
        rw [h3] at h2
        cases hg : g i with
        | none => rw [hg] at h2; cases h2
        | some v => rw [hg] at h2; injection h2 with h2; rw [h2]
      have hUr : Upd (fun k => k = w.heap.size) wr w1 := .grown hg1 fun k hk => (Option.some.inj hk).symm
      have hus1 := hUr.heap hus.out (by omega)
      have hhd1 := hUr.heap hhd.out (by omega)
      have d1' : w1.cell? ⟨sb, 1, none⟩ = some (.slice (some ⟨db, 0, none⟩) D.n cap) := by rw [cell_at hhd1]; rfl
      have hi2 : i < us.size := by omega
      have d2 : w1.cell? ⟨db, i, none⟩ = some us[i] := by rw [cell_at hus1]; simp [hi2]
      have d3 := frozen_at hus1 i
      have hrgl := hide hrg.left_eq
      clear d1 hs1 hrg hkey hv hat hwx
      replace hg1 := hide hg1
      replace hrg1 := hide hrg1
      replace hlt := hide hlt
      replace hUr := hide hUr
      replace hus1 := hide hus1
      replace hhd1 := hide hhd1
      replace hgi := hide hgi
      go_wp2_with fail
      go_roundw
      case rel =>
        refine ⟨_, cnt1, hrg1.out.kept (grownBy_set _ _ _ _) ?_ ?_, ?_, ⟨_, heap_set hus1.out _ _, by simpa using hsu, fun j hj => ?_⟩, (hU.out.trans hUr.out fun k hk e => (by omega)).then (.set (F := fun k => k = db) _ (a := ⟨db, i, none⟩) rfl _)⟩
        · have := hne.out; intro e; injection e with e; omega
        · intro e; injection e with e; omega
        · intro kl hkl
          simp only [Bool.and_eq_true] at hkl
          exact hlf.out kl hkl.1
        · by_cases e : j = i
          · subst e
            have hs : (kI j).sameKey (kI j) = true := by simp [kI, Lit.sameKey]
            rw [hgi.out]
            simp [hs, hi2]
          · have hs : (kI j).sameKey (kI i) = false := Maps.sameKey_ne (kI_ne e)
            have h1 := hiu.out j hj
            have h2 : (us.setIfInBounds i (.slice A n c))[j]? = us[j]? := by simp [show ¬ i = j from fun h => e h.symm]
            rw [h2, h1]
            simp [hs]
      case measure =>
        have hk2 := hrg1.out.kept (grownBy_set w1 db i (.slice A n c)) (fun e => by have := hne.out; injection e with e; omega) (fun e => by injection e with e; omega)
        rw [hk2.left_eq, hrgl.out]; exact hlt.out
end
end Go.Proofs.YtpnboihbifhigaaGreatDoor
/- Walks of the disk: Read, Write, Flush, Cut. -/
namespace Go.Proofs.YtpnboihbifhigaaGreatDoor
open Go Go.RowKit
def DS.write (D : DS) (i : Nat) (l : List UInt8) : DS := if D.draw.dead then D.draw else { D.draw with wr := setAt D.draw.wr i l }
def DS.flush (D : DS) : DS := if D.draw.dead then D.draw else { D.draw with dur := D.draw.last, wr := fun _ => none }
def DS.cut (D : DS) (n : Nat) : DS := { D with sched := true, left := n }
theorem DS.draw_dead {D : DS} (h : D.dead = true) : D.draw = D := by unfold DS.draw; rw [if_pos h]
section
variable {w : World} {sb db mb cap : Nat} {vs : Array Value} {g : Nat → Option Value} {R S : Nat → Prop} {D : DS}
theorem read_any (h : DiskV w sb S D) (hd : D.dead = false) (i : Nat) (hi : i < D.n) : Calls Tryz.prog 144 #[.pointer (some ⟨sb, 0, none⟩), .int .i64 i] w fun e w' => ∃ v', e = .returned (.tuple #[v', .int .i64 0]) ∧ RowB w' w.heap.size v' (D.last i) ∧ Below w.heap.size w w' := by
  obtain ⟨db, mb, cap, vs, g, R, h, rfl⟩ := h
  have hr := reach_any h i hi
  have hl := last_any h i hi
  rw [hd] at hr
  clear h hd
  go_enter Tryz.func144, Tryz.ntmps144
  go_wp2_with fail
  refine hr.mono ?_
  rintro e w' ⟨rfl, rfl⟩
  go_wp2_with fail
  refine hl.mono ?_
  rintro e w' ⟨v', rfl, h1, h2⟩
  replace h1 := hide h1
  replace h2 := hide h2
  go_wp2_with fail
  go_ret2
  exact ⟨_, rfl, h1.out, h2.out⟩
theorem write_anyM (h : DiskM w sb mb S D) (i : Nat) (hi : i < D.n) {T : Nat → Prop} {v : Value} {l : List UInt8} (hv : ArgV w T v (bv l)) (hT : ∀ k, T k → ¬ S k) (hl : l.length = D.size) :
    Calls Tryz.prog 116 #[.pointer (some ⟨sb, 0, none⟩), .int .i64 i, v] w fun e w' => e = .returned (.int .i64 (if (D.write i l).dead then 32 else 0)) ∧ ∃ S', DiskM w' sb mb S' (D.write i l) ∧ Mv w S w' S' := by
  obtain ⟨db, cap, vs, g, R, h, rfl⟩ := h
  have hr := reach_any h i hi
  have hz := size_any h
  have hdr := draw_any h
  have hlen : (bv l).length = D.size := by rw [bv_len]; exact hl
  have hs1 := h.s1
  cases hd : D.dead
  · rw [hd] at hr
    obtain ⟨A, c, rfl, hv2⟩ := id hv
    rw [hlen]
    rw [hlen] at hv
    clear hv2
    have hw1 : ∀ w1, Upd (fun k => k = sb) w w1 → ArgV w1 T (.slice A D.size c) (bv l) := fun w1 hu => hv.upd hu fun k hk e => hT k hk (.inl e)
    replace hw1 := hide hw1
    replace h := hide h
    replace hv := hide hv
    replace hT := hide hT
    replace hlen := hide hlen
    replace hd := hide hd
    cases hdd : D.draw.dead
    · have hW : D.write i l = { D.draw with wr := setAt D.draw.wr i l } := by unfold DS.write; rw [hdd]; rfl
      have hWd : (if (D.write i l).dead = true then (32 : Int) else 0) = 0 := by rw [hW]; simp [hdd]
      rw [hWd]
      rw [hdd] at hdr
      replace hW := hide hW
      clear hWd hdd
      go_enter Tryz.func116, Tryz.ntmps116
      go_wp2_with fail
      refine hr.mono ?_
      rintro e w' ⟨rfl, rfl⟩
      go_wp2_with fail
      refine hz.mono ?_
      rintro e w' ⟨rfl, rfl⟩
      go_wp2_with fail
      refine hdr.mono ?_
      rintro e w1 ⟨rfl, hU1, hD1⟩
      have hrep := replace_any hD1 i (by rw [D.draw_n]; exact hi) (hw1.out _ hU1) (by rw [D.draw_size]; exact hl)
      replace hU1 := hide hU1
      replace hD1 := hide hD1
      go_wp2_with fail
      refine hrep.mono ?_
      rintro e w2 ⟨rfl, g', R', hD2, hM⟩
      replace hD2 := hide hD2
      replace hM := hide hM
      go_wp2_with fail
      go_ret
      refine ⟨rfl, _, ⟨db, cap, vs, g', R', by rw [hW.out]; exact hD2.out, rfl⟩, ?_⟩
      exact Mv.trans ⟨hU1.out.mono fun k _ e => .inl e, fun k => .inl⟩ hM.out
    · have hW : D.write i l = D.draw := by unfold DS.write; rw [hdd]; rfl
      have hWd : (if (D.write i l).dead = true then (32 : Int) else 0) = 32 := by rw [hW]; simp [hdd]
      rw [hWd]
      rw [hdd] at hdr
      replace hW := hide hW
      clear hWd hdd
      go_enter Tryz.func116, Tryz.ntmps116
      go_wp2_with fail
      refine hr.mono ?_
      rintro e w' ⟨rfl, rfl⟩
      go_wp2_with fail
      refine hz.mono ?_
      rintro e w' ⟨rfl, rfl⟩
      go_wp2_with fail
      refine hdr.mono ?_
      rintro e w1 ⟨rfl, hU1, hD1⟩
      replace hU1 := hide hU1
      replace hD1 := hide hD1
      go_wp2_with fail
      go_ret
      exact ⟨rfl, _, ⟨db, cap, vs, g, R, by rw [hW.out]; exact hD1.out, rfl⟩, hU1.out.mono fun k _ e => .inl e, fun k => .inl⟩
  · rw [hd] at hr
    have hW : D.write i l = D := by unfold DS.write; rw [DS.draw_dead hd, hd]; rfl
    have hWd : (if (D.write i l).dead = true then (32 : Int) else 0) = 32 := by rw [hW]; simp [hd]
    rw [hWd]
    clear hdr hz hv hT hl hlen hWd hd
    replace hW := hide hW
    replace h := hide h
    go_enter Tryz.func116, Tryz.ntmps116
    go_wp2_with fail
    refine hr.mono ?_
    rintro e w' ⟨rfl, rfl⟩
    go_wp2_with fail
    go_ret
    exact ⟨rfl, _, ⟨db, cap, vs, g, R, by rw [hW.out]; exact h.out, rfl⟩, .refl _ _⟩
theorem write_any (h : DiskV w sb S D) (i : Nat) (hi : i < D.n) {T : Nat → Prop} {v : Value} {l : List UInt8} (hv : ArgV w T v (bv l)) (hT : ∀ k, T k → ¬ S k) (hl : l.length = D.size) :
    Calls Tryz.prog 116 #[.pointer (some ⟨sb, 0, none⟩), .int .i64 i, v] w fun e w' => e = .returned (.int .i64 (if (D.write i l).dead then 32 else 0)) ∧ ∃ S', DiskV w' sb S' (D.write i l) ∧ Mv w S w' S' := by
  obtain ⟨mb, hm, _⟩ := h.toM
  exact (write_anyM hm i hi hv hT hl).mono fun e w' ⟨h1, S', h2, h3⟩ => ⟨h1, S', h2.toV, h3⟩
theorem flush_any (h : DiskV w sb S D) : Calls Tryz.prog 78 #[.pointer (some ⟨sb, 0, none⟩)] w fun e w' => e = .returned (.int .i64 (if D.flush.dead then 32 else 0)) ∧ ∃ S', DiskV w' sb S' D.flush ∧ Mv w S w' S' := by
  obtain ⟨db, mb, cap, vs, g, R, h, rfl⟩ := h
  have hdr := draw_any h
  replace h := hide h
  cases hdd : D.draw.dead
  · have hW : D.flush = { D.draw with dur := D.draw.last, wr := fun _ => none } := by unfold DS.flush; rw [hdd]; rfl
    have hWd : (if D.flush.dead = true then (32 : Int) else 0) = 0 := by rw [hW]; simp [hdd]
    rw [hWd]
    rw [hdd] at hdr
    replace hW := hide hW
    clear hWd hdd
    go_enter Tryz.func78, Tryz.ntmps78
    go_wp2_with fail
    refine hdr.mono ?_
    rintro e w1 ⟨rfl, hU1, hD1⟩
    have hse := settle_any hD1
    replace hU1 := hide hU1
    replace hD1 := hide hD1
    go_wp2_with fail
    refine hse.mono ?_
    rintro e w2 ⟨rfl, mb', vs', g', hD2, hM⟩
    replace hD2 := hide hD2
    replace hM := hide hM
    go_wp2_with fail
    go_ret
    refine ⟨rfl, _, ⟨db, mb', cap, vs', g', R, by rw [hW.out]; exact hD2.out, rfl⟩, ?_⟩
    exact Mv.trans ⟨hU1.out.mono fun k _ e => .inl e, fun k => .inl⟩ hM.out
  · have hW : D.flush = D.draw := by unfold DS.flush; rw [hdd]; rfl
    have hWd : (if D.flush.dead = true then (32 : Int) else 0) = 32 := by rw [hW]; simp [hdd]
    rw [hWd]
    rw [hdd] at hdr
    replace hW := hide hW
    clear hWd hdd
    go_enter Tryz.func78, Tryz.ntmps78
    go_wp2_with fail
    refine hdr.mono ?_
    rintro e w1 ⟨rfl, hU1, hD1⟩
    replace hU1 := hide hU1
    replace hD1 := hide hD1
    go_wp2_with fail
    go_ret
    exact ⟨rfl, _, ⟨db, mb, cap, vs, g, R, by rw [hW.out]; exact hD1.out, rfl⟩, hU1.out.mono fun k _ e => .inl e, fun k => .inl⟩
theorem cut_any (h : DiskV w sb S D) (n : Nat) (hn : n ≤ 1000000) : Calls Tryz.prog 18 #[.pointer (some ⟨sb, 3, none⟩), .int .i64 n] w fun e w' => e = .returned (.tuple #[]) ∧ DiskV w' sb S (D.cut n) ∧ Upd S w w' := by
  obtain ⟨db, mb, cap, vs, g, R, h, rfl⟩ := h
  have c4 := h.c4
  have c5 := h.c5
  have f4 := h.f 4
  have f5 := h.f 5
  replace h := hide h
  go_enter Tryz.func18, Tryz.ntmps18
  go_wp2_with fail
  go_end0
  have hU : Upd (fun k => k = sb) w ((w.setCell ⟨sb, 4, none⟩ (.bool true)).setCell ⟨sb, 5, none⟩ (.int .i64 n)) := (Upd.set (F := fun k => k = sb) w (a := ⟨sb, 4, none⟩) rfl _).then (.set (F := fun k => k = sb) _ (a := ⟨sb, 5, none⟩) rfl _)
  refine ⟨rfl, ⟨db, mb, cap, vs, g, R, h.out.rehead hU ?_ rfl rfl rfl rfl (by simp [DS.cut]; omega), rfl⟩, hU.mono fun k _ e => .inl e⟩
  rw [heap_set (heap_set h.out.head 4 _)]
  simp [DS.cut]
end
end Go.Proofs.YtpnboihbifhigaaGreatDoor
