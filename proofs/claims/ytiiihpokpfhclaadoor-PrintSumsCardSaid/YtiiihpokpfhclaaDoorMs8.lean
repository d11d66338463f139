/- Part 8 of the walks (merged): Tide, GLxD, GLxE, GPsM, GPsA, GPsB, GPsC, GPsD, GPsE, GPsF. -/
import Derived.Test.YtiiihpokpfhclaaDoorMs3
import Derived.Test.YtiiihpokpfhclaaDoorMs4
import Derived.Test.YtiiihpokpfhclaaDoorMs7
import Derived.Test.YtiiihpokpfhclaaDoorMs5
import Derived.Deep.LoopGhost
/- As XFlow, and a fact of memory that holds up to one operation of the chain (which ends it): whoever that operation waits for may use it. -/
namespace Go.Proofs.YtiiihpokpfhclaaDoor
open Go Go.RowKit

section
variable (P : Program) (ops : Array Oper) (F : Nat → Prop) (Φ : Nat → Fact) (T0 : Array Value) (D : List Deferred) (w0 : World) (inv : World → Prop) (stop : Nat)
/-- An operation that only reads, or makes new memory. -/
def QuietI (i : Nat) (o : Oper) : Prop :=
  ∀ (T : Array Value) (w : World) (Q : Exit → Act → World → Prop), Upd F w0 w → T.size = T0.size → (∀ s, (ops.any fun o => o.dst == some s) = false → T.getD s undef = T0.getD s undef) →
    (∀ s, lateB ops i s = true → T.getD s undef = T0.getD s undef) → Deps ops Φ T w o.after.toList → ((marks ops i ops.size).getD stop false = true → inv w) →
    (Region.wanted o (yielded ops T) = true ∧ o.wp P ⟨T, D⟩ w (fun a' w' => ∃ v, a' = (⟨T, D⟩ : Act).put o.dst v ∧ DstOk o v ∧ Below w.heap.size w w' ∧ Φ i v w') Q) ∨ (Region.wanted o (yielded ops T) = false ∧ Φ i undef w)
/-- An operation of the chain: it takes what the one before it left. -/
def TurnsI (i : Nat) (o : Oper) (cur : Cur) (φ : Fact) : Prop :=
  ∀ (T : Array Value) (w : World) (Q : Exit → Act → World → Prop), Upd F w0 w → T.size = T0.size → (∀ s, (ops.any fun o => o.dst == some s) = false → T.getD s undef = T0.getD s undef) →
    (∀ s, lateB ops i s = true → T.getD s undef = T0.getD s undef) → Deps ops Φ T w o.after.toList → ((marks ops i ops.size).getD stop false = true → inv w) → cur (slotOf ops T) w →
    (Region.wanted o (yielded ops T) = true ∧ o.wp P ⟨T, D⟩ w (fun a' w' => ∃ v, a' = (⟨T, D⟩ : Act).put o.dst v ∧ DstOk o v ∧ Upd F w w' ∧ ((marks ops i ops.size).getD stop false = true → i ≠ stop → inv w') ∧ Φ i v w' ∧ φ v w') Q) ∨ (Region.wanted o (yielded ops T) = false ∧ Φ i undef w ∧ φ undef w)
/-- All operations, in the text's order; 'kinds' tells which of them turn something. -/
def StepsI : Nat → List Oper → List (Option Fact) → Cur → Prop
  | _, [], _, _ => True
  | i, o :: r, [], cur => QuietI P ops F Φ T0 D w0 inv stop i o ∧ StepsI (i + 1) r [] cur
  | i, o :: r, none :: ks, cur => QuietI P ops F Φ T0 D w0 inv stop i o ∧ StepsI (i + 1) r ks cur
  | i, o :: r, some φ :: ks, cur => TurnsI P ops F Φ T0 D w0 inv stop i o cur φ ∧ StepsI (i + 1) r ks fun V w => φ (V i) w
end


theorem stepsI_get {P : Program} {ops : Array Oper} {F : Nat → Prop} {Φ : Nat → Fact} {T0 : Array Value} {D : List Deferred} {w0 : World} {inv : World → Prop} {stop : Nat} : ∀ {l : List Oper} {b i : Nat} {o : Oper} {ks : List (Option Fact)} {cur : Cur}, StepsI P ops F Φ T0 D w0 inv stop b l ks cur → l[i]? = some o →
    (match ks.getD i none with | none => QuietI P ops F Φ T0 D w0 inv stop (b + i) o | some φ => TurnsI P ops F Φ T0 D w0 inv stop (b + i) o (curOf cur b ks i) φ)
  | [], _, _, _, _, _, _, h => by simp at h
  | x :: l, b, i, o, [], cur, h, hi => by
    cases i with
    | zero =>
      obtain rfl : x = o := by simpa using hi
      exact h.1
    | succ i =>
      have := stepsI_get (i := i) h.2 (by simpa using hi)
      simp only [List.getD_nil] at this ⊢
      rwa [Nat.add_assoc, Nat.add_comm 1 i] at this
  | x :: l, b, i, o, none :: ks, cur, h, hi => by
    cases i with
    | zero =>
      obtain rfl : x = o := by simpa using hi
      exact h.1
    | succ i =>
      have := stepsI_get (i := i) h.2 (by simpa using hi)
      rw [Nat.add_assoc, Nat.add_comm 1 i] at this
      simpa [curOf] using this
  | x :: l, b, i, o, some φ :: ks, cur, h, hi => by
    cases i with
    | zero =>
      obtain rfl : x = o := by simpa using hi
      exact h.1
    | succ i =>
      have := stepsI_get (i := i) h.2 (by simpa using hi)
      rw [Nat.add_assoc, Nat.add_comm 1 i] at this
      simpa [curOf] using this


structure FInvI (ops : Array Oper) (F : Nat → Prop) (Φ : Nat → Fact) (ks : List (Option Fact)) (P0 : World → Prop) (T0 : Array Value) (D : List Deferred) (w0 : World) (inv : World → Prop) (stop : Nat) (listed : Array Bool) (a : Act) (w : World) : Prop where
  upd : Upd F w0 w
  defers : a.defers = D
  size : a.tmps.size = T0.size
  lsize : listed.size = ops.size
  vars : ∀ s, (ops.any fun o => o.dst == some s) = false → a.tmps.getD s undef = T0.getD s undef
  facts : ∀ j, listed[j]? = some true → Φ j (slotOf ops a.tmps j) w
  closed : Closed ops fun i => listed[i]? = some true
  early : ∀ (j : Nat) (o : Oper) (s : Tmp), ops[j]? = some o → o.dst = some s → listed[j]? = some false → a.tmps.getD s undef = T0.getD s undef
  tide : listed[stop]? = some false → inv w
  phase : ∃ f, (∀ j, j < ops.size → inChain ks j = true → (listed[j]? = some true ↔ j < f)) ∧ curOf (fun _ w => P0 w) 0 ks f (slotOf ops a.tmps) w

theorem fdepsI {ops : Array Oper} {F : Nat → Prop} {Φ : Nat → Fact} {ks : List (Option Fact)} {P0 : World → Prop} {T0 : Array Value} {D : List Deferred} {w0 : World} {inv : World → Prop} {stop : Nat} {listed : Array Bool} {a : Act} {w : World} (h : FInvI ops F Φ ks P0 T0 D w0 inv stop listed a w) : ∀ (l : List Edge),
    (l.all fun e => !Region.binds .any e || listed.getD e.on false) = true → Deps ops Φ a.tmps w l
  | [], _ => trivial
  | e :: r, hl => by
    rw [List.all_cons, Bool.and_eq_true] at hl
    refine ⟨fun hb => h.facts _ ?_, fdepsI h r hl.2⟩
    have h1 := hl.1
    rw [hb] at h1
    simp only [Bool.not_true, Bool.false_or] at h1
    rw [Array.getD_eq_getD_getElem?] at h1
    cases hx : listed[e.on]? with
    | none => rw [hx] at h1; simp at h1
    | some b => rw [hx] at h1; simpa using h1


theorem wpAny_tide {P : Program} {ops : Array Oper} {F : Nat → Prop} {Φ : Nat → Fact} {ks : List (Option Fact)} {P0 : World → Prop} {T0 : Array Value} {D : List Deferred} {w0 : World} {inv : World → Prop} {stop : Nat} {Q : Exit → Act → World → Prop}
    (hk : ∀ i, FKept F (Φ i)) (hP0 : ∀ w w', P0 w → Below w.heap.size w w' → P0 w') (hinv : ∀ w w', inv w → Below w.heap.size w w' → inv w') (hst : stop < ops.size → inChain ks stop = true) (hks : KeptKinds ks) (hd : dsts2B ops T0.size = true) (ha : apart2B ops = true) (hbk : backB ops = true) (hch : chainB ops (ks.map (·.isSome)) = true) (hlen : ks.length ≤ ops.size)
    (hs : StepsI P ops F Φ T0 D w0 inv stop 0 ops.toList ks fun _ w => P0 w)
    (hQ : ∀ T w, Upd F w0 w → T.size = T0.size → (∀ s, (ops.any fun o => o.dst == some s) = false → T.getD s undef = T0.getD s undef) → (∀ j, j < ops.size → Φ j (slotOf ops T j) w) → curOf (fun _ w => P0 w) 0 ks ops.size (slotOf ops T) w → Q .normal ⟨T, D⟩ w) :
    ∀ (fuel : Nat) (listed : Array Bool) (a : Act) (w : World), (listed.toList.countP fun b => !b) ≤ fuel → FInvI ops F Φ ks P0 T0 D w0 inv stop listed a w → wpAny P .any ops Q fuel listed a w := by
  have hend : ∀ (listed : Array Bool) (a : Act) (w : World), FInvI ops F Φ ks P0 T0 D w0 inv stop listed a w → (∀ j, j < ops.size → listed[j]? = some true) → Q .normal a w := by
    intro listed a w h hall
    obtain ⟨T, D'⟩ := a
    have hD : D' = D := h.defers
    subst hD
    obtain ⟨f, hf1, hf2⟩ := h.phase
    refine hQ T w h.upd h.size h.vars (fun j hj => h.facts j (hall j hj)) ?_
    rcases Nat.le_total f ops.size with hle | hge
    · rw [← cur_skip (f := f) (i := ops.size) hle (fun j h1 h2 => by
        cases hc : inChain ks j with
        | false => rfl
        | true => have := (hf1 j h2 hc).1 (hall j h2); omega)]
      exact hf2
    · rw [cur_skip (f := ops.size) (i := f) hge (fun j h1 _ => by
        unfold inChain
        rw [List.getD_eq_getElem?_getD, List.getElem?_eq_none (by omega)]; rfl)]
      exact hf2
  intro fuel
  induction fuel with
  | zero =>
    intro listed a w hc h
    have hall : ∀ j, j < ops.size → listed[j]? = some true := by
      intro j hj
      have hj' : j < listed.size := by rw [h.lsize]; exact hj
      have h0 : (listed.toList.countP fun b => !b) = 0 := by omega
      rw [List.countP_eq_zero] at h0
      have := h0 listed[j] (by simp)
      rw [Array.getElem?_eq_getElem hj']
      simpa using this
    refine ⟨?_, hend _ _ _ h hall⟩
    unfold Region.ready
    rw [List.filter_eq_nil_iff]
    intro i hi
    rw [List.mem_range] at hi
    rw [Array.getD_eq_getD_getElem?, hall i hi]
    simp
  | succ fuel ih =>
    intro listed a w hc h
    have hstep : ∀ i ∈ Region.ready .any ops listed, wpOp P ops Q i (wpAny P .any ops Q fuel (listed.setIfInBounds i true)) a w := by
      intro i hi
      unfold Region.ready at hi
      rw [List.mem_filter, List.mem_range, Bool.and_eq_true] at hi
      obtain ⟨hin, hnl, hde⟩ := hi
      have hin' : i < listed.size := by rw [h.lsize]; exact hin
      have ho : ops[i]? = some ops[i] := Array.getElem?_eq_getElem hin
      rw [ho] at hde
      simp only [Option.map_some, Option.getD_some] at hde
      have hdeps := fdepsI h ops[i].after.toList (by rw [← Array.all_toList] at hde; exact hde)
      have hstep := stepsI_get (i := i) (o := ops[i]) hs (by simp [hin])
      rw [Nat.zero_add] at hstep
      obtain ⟨T, D'⟩ := a
      have hD : D' = D := h.defers
      subst hD
      have hlt : listed.getD i true = false := by simpa using hnl
      have hli : listed[i]? = some false := by
        rw [Array.getD_eq_getD_getElem?, Array.getElem?_eq_getElem hin'] at hlt
        rw [Array.getElem?_eq_getElem hin']
        simpa using hlt
      -- what is left, once the operation's value lies
      have hput : ∀ (v : Value) (w' : World), (ops[i].dst = none → v = undef) → Upd F w w' → Φ i v w' → (listed[stop]? = some false → i ≠ stop → inv w') →
          (∃ f, (∀ j, j < ops.size → inChain ks j = true → ((listed.setIfInBounds i true)[j]? = some true ↔ j < f)) ∧ ∀ V, V i = v → (∀ j, j ≠ i → V j = slotOf ops T j) → curOf (fun _ w => P0 w) 0 ks f V w') →
          wpAny P .any ops Q fuel (listed.setIfInBounds i true) ((⟨T, D'⟩ : Act).put ops[i].dst v) w' := by
        intro v w' hvn hu hφ hti hph
        have hself : slotOf ops ((⟨T, D'⟩ : Act).put ops[i].dst v).tmps i = v := by
          cases hdd : ops[i].dst with
          | none =>
            rw [slot_none ho hdd]
            exact (hvn hdd).symm
          | some d =>
            have hdT : d < T.size := by
              unfold dsts2B at hd
              rw [Array.all_eq_true] at hd
              have := hd i hin
              rw [hdd] at this
              rw [show T.size = T0.size from h.size]
              simpa using this
            unfold slotOf
            rw [ho]
            simp only [Option.bind_some, hdd, Option.map_some, Option.getD_some]
            show (T.setIfInBounds d v).getD d undef = v
            rw [Array.getD_eq_getD_getElem?, Array.getElem?_setIfInBounds_self_of_lt hdT]
            rfl
        have hother : ∀ j, j ≠ i → slotOf ops ((⟨T, D'⟩ : Act).put ops[i].dst v).tmps j = slotOf ops T j := by
          intro j hji
          cases hdd : ops[i].dst with
          | none => rfl
          | some d =>
            unfold slotOf
            cases hoj : ops[j]? with
            | none => rfl
            | some oj =>
              cases hdj : oj.dst with
              | none => simp [hdj]
              | some dj =>
                have hjn : j < ops.size := by
                  rcases Nat.lt_or_ge j ops.size with h1 | h1
                  · exact h1
                  · rw [Array.getElem?_eq_none h1] at hoj; cases hoj
                have hne : d ≠ dj := by
                  rintro rfl
                  unfold apart2B at ha
                  rw [List.all_eq_true] at ha
                  have h2 := ha i (List.mem_range.2 hin)
                  rw [List.all_eq_true] at h2
                  have h3 := h2 j (List.mem_range.2 hjn)
                  rw [ho, hoj] at h3
                  simp only [Option.bind_some, hdd, hdj, bne_self_eq_false, Bool.or_false] at h3
                  simp at h3
                  exact hji h3.symm
                simp only [Option.bind_some, hdj, Option.map_some, Option.getD_some]
                show (T.setIfInBounds d v).getD dj undef = T.getD dj undef
                rw [Array.getD_eq_getD_getElem?, Array.getD_eq_getD_getElem?, Array.getElem?_setIfInBounds_ne hne]
        refine ih _ _ _ ?_ ⟨h.upd.then hu, ?_, ?_, ?_, ?_, ?_, ?_, ?_, ?_, ?_⟩
        · have hcount : ((listed.setIfInBounds i true).toList.countP fun b => !b) + 1 = (listed.toList.countP fun b => !b) := by
            rw [Array.toList_setIfInBounds]
            have hil : i < listed.toList.length := by simpa using hin'
            have hf : listed.toList[i] = false := by
              rw [Array.getElem?_eq_getElem hin'] at hli
              simpa using hli
            have h1 := List.countP_set (p := fun b => !b) (l := listed.toList) (i := i) (a := true) hil
            have hpos : 0 < (listed.toList.countP fun b => !b) := by
              rw [List.countP_pos_iff]
              exact ⟨false, by rw [← hf]; exact List.getElem_mem hil, rfl⟩
            rw [h1, hf]
            simp only [Bool.not_false, if_true, Bool.not_true, Bool.false_eq_true, if_false]
            omega
          omega
        · show (Act.put _ _ _).defers = _
          cases hdd : ops[i].dst <;> rfl
        · show (Act.put _ _ _).tmps.size = _
          cases hdd : ops[i].dst with
          | none => exact h.size
          | some d =>
            show (T.setIfInBounds d v).size = _
            rw [Array.size_setIfInBounds]; exact h.size
        · rw [Array.size_setIfInBounds]; exact h.lsize
        · intro s hsn
          rw [← h.vars s hsn]
          cases hdd : ops[i].dst with
          | none => rfl
          | some d =>
            have hne : s ≠ d := by
              rintro rfl
              rw [any_of_get ho hdd] at hsn
              cases hsn
            show (T.setIfInBounds d v).getD s undef = T.getD s undef
            rw [Array.getD_eq_getD_getElem?, Array.getD_eq_getD_getElem?, Array.getElem?_setIfInBounds_ne (Ne.symm hne)]
        · intro j hj
          by_cases hji : j = i
          · subst hji
            rw [hself]; exact hφ
          · rw [Array.getElem?_setIfInBounds_ne (Ne.symm hji)] at hj
            rw [hother j hji]
            exact hk j _ _ _ (h.facts j hj) hu
        · intro j o hj hoj e he hb
          have hold : listed[e.on]? = some true := by
            by_cases hji : j = i
            · subst hji
              obtain rfl : ops[j] = o := by rw [ho] at hoj; exact Option.some.inj hoj
              rw [Array.all_eq_true'] at hde
              have h4 := hde e he
              rw [hb] at h4
              simp only [Bool.not_true, Bool.false_or] at h4
              rw [Array.getD_eq_getD_getElem?] at h4
              cases hx : listed[e.on]? with
              | none => rw [hx] at h4; simp at h4
              | some b => rw [hx] at h4; simpa using h4
            · rw [Array.getElem?_setIfInBounds_ne (Ne.symm hji)] at hj
              exact h.closed j o hj hoj e he hb
          by_cases hei : e.on = i
          · rw [hei]; exact Array.getElem?_setIfInBounds_self_of_lt hin'
          · rw [Array.getElem?_setIfInBounds_ne (Ne.symm hei)]; exact hold
        · intro j o s hoj hds hlj
          have hji : j ≠ i := by
            rintro rfl
            rw [Array.getElem?_setIfInBounds_self_of_lt hin'] at hlj
            cases hlj
          rw [Array.getElem?_setIfInBounds_ne (Ne.symm hji)] at hlj
          have h1 := hother j hji
          unfold slotOf at h1
          rw [hoj] at h1
          simp only [Option.bind_some, hds, Option.map_some, Option.getD_some] at h1
          rw [h1]
          exact h.early j o s hoj hds hlj
        · intro hl
          by_cases his : i = stop
          · rw [← his, Array.getElem?_setIfInBounds_self_of_lt hin'] at hl
            cases hl
          · rw [Array.getElem?_setIfInBounds_ne his] at hl
            exact hti hl his
        · obtain ⟨f, hf1, hf2⟩ := hph
          exact ⟨f, hf1, hf2 _ hself hother⟩
      obtain ⟨f, hf1, hf2⟩ := h.phase
      have hlate : ∀ s, lateB ops i s = true → T.getD s undef = T0.getD s undef := by
        intro s hs'
        unfold lateB at hs'
        rw [List.any_eq_true] at hs'
        obtain ⟨j, hj, hs'⟩ := hs'
        rw [Bool.and_eq_true] at hs'
        have hjn := List.mem_range.1 hj
        have hlj : listed[j]? = some false := by
          have hjl : j < listed.size := by rw [h.lsize]; exact hjn
          rw [Array.getElem?_eq_getElem hjl]
          cases hb : listed[j] with
          | false => rfl
          | true =>
            have h3 : listed[i]? = some true := marks_closed h.closed i ops.size j hs'.2 (by
              show listed[j]? = some true
              rw [Array.getElem?_eq_getElem hjl, hb])
            rw [hli] at h3; cases h3
        refine h.early j ops[j] s (Array.getElem?_eq_getElem hjn) ?_ hlj
        have h4 := hs'.1
        rw [Array.getElem?_eq_getElem hjn] at h4
        simpa using h4
      have hinvw : (marks ops i ops.size).getD stop false = true → inv w := by
        intro hms
        refine h.tide ?_
        have hsl : stop < listed.size := by rw [h.lsize]; exact marks_lt hms
        rw [Array.getElem?_eq_getElem hsl]
        cases hb : listed[stop] with
        | false => rfl
        | true =>
          have h3 : listed[i]? = some true := marks_closed h.closed i ops.size stop hms (by
            show listed[stop]? = some true
            rw [Array.getElem?_eq_getElem hsl, hb])
          rw [hli] at h3; cases h3
      unfold wpOp
      simp only [ho]
      cases hkind : ks.getD i none with
      | none =>
        have hic : inChain ks i = false := by unfold inChain; rw [hkind]; rfl
        rw [hkind] at hstep
        have hph : ∀ (v : Value) (w' : World), Below w.heap.size w w' → ∃ f, (∀ j, j < ops.size → inChain ks j = true → ((listed.setIfInBounds i true)[j]? = some true ↔ j < f)) ∧ ∀ V, V i = v → (∀ j, j ≠ i → V j = slotOf ops T j) → curOf (fun _ w => P0 w) 0 ks f V w' := by
          intro v w' hb
          refine ⟨f, fun j hj hcj => ?_, fun V _ hV => ?_⟩
          · have hne : i ≠ j := by rintro rfl; rw [hic] at hcj; cases hcj
            rw [Array.getElem?_setIfInBounds_ne hne]
            exact hf1 j hj hcj
          · refine cur_keep hks hb (fun j hj => ?_) (fun hp => hP0 _ _ hp hb) hf2
            rw [Nat.zero_add]
            exact hV j (by rintro rfl; rw [hic] at hj; cases hj)
        rcases hstep T w Q h.upd h.size h.vars hlate hdeps hinvw with ⟨hw, hwp⟩ | ⟨hw, hφ⟩
        · simp only [hw, if_true]
          refine .inl (Oper.wp_mono ?_ hwp)
          rintro a' w' ⟨v, rfl, hvn, hb, hφ⟩
          exact hput v w' hvn (.of_below F hb) hφ (fun hl _ => hinv _ _ (h.tide hl) hb) (hph v w' hb)
        · simp only [hw, Bool.false_eq_true, if_false]
          exact hput undef w (fun _ => rfl) (.refl F w) hφ (fun hl _ => h.tide hl) (hph undef w (Below.refl _ _))
      | some φ =>
        have hic : inChain ks i = true := by unfold inChain; rw [hkind]; rfl
        rw [hkind] at hstep
        have hfi : f ≤ i := by
          rcases Nat.lt_or_ge i f with h1 | h1
          · have := (hf1 i hin hic).2 h1
            rw [hli] at this; cases this
          · exact h1
        have hprev : ∀ j, j < i → inChain ks j = true → j < f := by
          intro j hj hcj
          unfold chainB at hch
          rw [List.all_eq_true] at hch
          have h1 := hch i (List.mem_range.2 hin)
          rw [chain_isSome, hic] at h1
          simp only [Bool.not_true, Bool.false_or] at h1
          rw [List.all_eq_true] at h1
          have h2 := h1 j (List.mem_range.2 hj)
          rw [chain_isSome, hcj] at h2
          simp only [Bool.not_true, Bool.false_or] at h2
          rw [marks_at (marks_lt h2), Bool.or_eq_true] at h2
          rcases h2 with h2 | h2
          · have := eq_of_beq h2; omega
          · rw [ho] at h2
            simp only [Option.map_some, Option.getD_some] at h2
            rw [Array.any_eq_true'] at h2
            obtain ⟨e, he, h3⟩ := h2
            rw [Bool.and_eq_true] at h3
            rw [Array.all_eq_true'] at hde
            have h4 := hde e he
            rw [h3.1] at h4
            simp only [Bool.not_true, Bool.false_or] at h4
            have hel : listed[e.on]? = some true := by
              rw [Array.getD_eq_getD_getElem?] at h4
              cases hx : listed[e.on]? with
              | none => rw [hx] at h4; simp at h4
              | some b => rw [hx] at h4; simpa using h4
            exact (hf1 j (by omega) hcj).1 (marks_closed h.closed j i e.on h3.2 hel)
        have hahead : listed[stop]? = some false → i ≠ stop → (marks ops i ops.size).getD stop false = true := by
          intro hl hne
          have hsn : stop < ops.size := by
            have hsl : stop < listed.size := by
              rcases Nat.lt_or_ge stop listed.size with h1 | h1
              · exact h1
              · rw [Array.getElem?_eq_none h1] at hl; cases hl
            rw [← h.lsize]; exact hsl
          have hcs := hst hsn
          rcases Nat.lt_or_ge i stop with h1 | h1
          · unfold chainB at hch
            rw [List.all_eq_true] at hch
            have h2 := hch stop (List.mem_range.2 hsn)
            rw [chain_isSome, hcs] at h2
            simp only [Bool.not_true, Bool.false_or] at h2
            rw [List.all_eq_true] at h2
            have h3 := h2 i (List.mem_range.2 h1)
            rw [chain_isSome, hic] at h3
            simpa using h3
          · exfalso
            have h2 := (hf1 stop hsn hcs).2 (hprev stop (by omega) hcs)
            rw [hl] at h2; cases h2
        have hcur : curOf (fun _ w => P0 w) 0 ks i (slotOf ops T) w := by
          rw [← cur_skip hfi (fun j h1 h2 => by
            cases hc : inChain ks j with
            | false => rfl
            | true => have := hprev j h2 hc; omega)]
          exact hf2
        have hph : ∀ (v : Value) (w' : World), φ v w' → ∃ f, (∀ j, j < ops.size → inChain ks j = true → ((listed.setIfInBounds i true)[j]? = some true ↔ j < f)) ∧ ∀ V, V i = v → (∀ j, j ≠ i → V j = slotOf ops T j) → curOf (fun _ w => P0 w) 0 ks f V w' := by
          intro v w' hφ
          refine ⟨i + 1, fun j hj hcj => ?_, fun V hVi _ => ?_⟩
          · by_cases hji : j = i
            · subst hji
              rw [Array.getElem?_setIfInBounds_self_of_lt hin']
              simp
            · rw [Array.getElem?_setIfInBounds_ne (Ne.symm hji), hf1 j hj hcj]
              constructor
              · intro h1; omega
              · intro h1; exact hprev j (by omega) hcj
          · rw [cur_succ hkind]
            show φ (V (0 + i)) w'
            rw [Nat.zero_add, hVi]
            exact hφ
        rcases hstep T w Q h.upd h.size h.vars hlate hdeps hinvw hcur with ⟨hw, hwp⟩ | ⟨hw, hφ, hψ⟩
        · simp only [hw, if_true]
          refine .inl (Oper.wp_mono ?_ hwp)
          rintro a' w' ⟨v, rfl, hvn, hu, hti, hφ, hψ⟩
          exact hput v w' hvn hu hφ (fun hl hne => hti (hahead hl hne) hne) (hph v w' hψ)
        · simp only [hw, Bool.false_eq_true, if_false]
          exact hput undef w (fun _ => rfl) (.refl F w) hφ (fun hl _ => h.tide hl) (hph undef w hψ)
    refine ⟨fun hr => ?_, hstep⟩
    refine hend _ _ _ h ?_
    intro j
    induction j using Nat.strongRecOn with
    | ind j ihj =>
      intro hj
      have hjl : j < listed.size := by rw [h.lsize]; exact hj
      cases hb : listed[j] with
      | true => rw [Array.getElem?_eq_getElem hjl, hb]
      | false =>
        exfalso
        have hmem : j ∈ Region.ready .any ops listed := by
          unfold Region.ready
          rw [List.mem_filter, List.mem_range, Bool.and_eq_true]
          refine ⟨hj, ?_, ?_⟩
          · rw [Array.getD_eq_getD_getElem?, Array.getElem?_eq_getElem hjl, hb]; rfl
          · rw [Array.getElem?_eq_getElem hj]
            simp only [Option.map_some, Option.getD_some]
            unfold backB at hbk
            rw [List.all_eq_true] at hbk
            have h1 := hbk j (List.mem_range.2 hj)
            rw [Array.getElem?_eq_getElem hj] at h1
            simp only [Option.map_some, Option.getD_some] at h1
            rw [Array.all_eq_true'] at h1 ⊢
            intro e he
            have h2 := h1 e he
            rw [decide_eq_true_iff] at h2
            rw [Array.getD_eq_getD_getElem?, ihj e.on h2 (by omega)]
            simp
        rw [hr] at hmem
        cases hmem

/-- The region's rule. -/
theorem wp_region_tide {P : Program} {ops : Array Oper} {id : Nat} {a0 : Act} {w0 : World} {Q : Exit → Act → World → Prop} (F : Nat → Prop) (Φ : Nat → Fact) (ks : List (Option Fact)) (P0 : World → Prop) (inv : World → Prop) (stop : Nat)
    (hm : P.follows .mixedOrders = true) (hk : ∀ i, FKept F (Φ i)) (hP0 : ∀ w w', P0 w → Below w.heap.size w w' → P0 w') (hinv : ∀ w w', inv w → Below w.heap.size w w' → inv w') (hst : stop < ops.size → inChain ks stop = true) (hks : KeptKinds ks) (hd : dsts2B ops a0.tmps.size = true) (ha : apart2B ops = true) (hbk : backB ops = true) (hch : chainB ops (ks.map (·.isSome)) = true) (hlen : ks.length ≤ ops.size)
    (h0 : P0 w0) (hi0 : inv w0) (hs : StepsI P ops F Φ a0.tmps a0.defers w0 inv stop 0 ops.toList ks fun _ w => P0 w)
    (hQ : ∀ T w, Upd F w0 w → T.size = a0.tmps.size → (∀ s, (ops.any fun o => o.dst == some s) = false → T.getD s undef = a0.tmps.getD s undef) → (∀ j, j < ops.size → Φ j (slotOf ops T j) w) → curOf (fun _ w => P0 w) 0 ks ops.size (slotOf ops T) w → Q .normal ⟨T, a0.defers⟩ w) :
    (Code.region id ops true).wp P Q a0 w0 := by
  refine wp_region_any hm (wpAny_tide hk hP0 hinv hst hks hd ha hbk hch hlen hs hQ _ _ _ _ ?_ ⟨(Upd.refl F w0).drew, rfl, rfl, by simp, fun _ _ => rfl, fun j hj => ?_, fun i o hi => ?_, fun _ _ _ _ _ _ => rfl, fun _ => hinv _ _ hi0 (Below.refl _ w0).drew, 0, fun j hj _ => ?_, ?_⟩)
  · rw [Array.toList_replicate]
    exact Nat.le_trans List.countP_le_length (by simp)
  · rw [Array.getElem?_replicate] at hj
    split at hj <;> simp at hj
  · replace hi : (Array.replicate ops.size false)[i]? = some true := hi
    rw [Array.getElem?_replicate] at hi
    split at hi <;> simp at hi
  · rw [Array.getElem?_replicate]
    constructor
    · intro h; split at h <;> simp at h
    · intro h; omega
  · simp only [curOf]
    exact hP0 _ _ h0 (Below.refl _ w0).drew
end Go.Proofs.YtiiihpokpfhclaaDoor
/- The reader of package lex: end, which keeps a token, or tells its fault. -/
namespace Go.Proofs.YtiiihpokpfhclaaDoor
open Go Go.RowKit
theorem three_cells {w : World} {g : Nat} {V V2 V3 : Value} (h : w.cell? ⟨g, 0, none⟩ = some V) (h2 : w.cell? ⟨g, 1, none⟩ = some V2) (h3 : w.cell? ⟨g, 2, none⟩ = some V3) : ∀ j u, [V, V2, V3][j]? = some u → w.cell? ((⟨g, 0, none⟩ : Addr).add j) = some u := by
  intro j u hj
  match j, hj with
  | 0, hj =>
    have : V = u := by simpa using hj
    subst this
    exact h
  | 1, hj =>
    have : V2 = u := by simpa using hj
    subst this
    exact h2
  | 2, hj =>
    have : V3 = u := by simpa using hj
    subst this
    exact h3
theorem own_slice {w : World} {b size n : Nat} {e : TypeId} {v : Value} {xs : List Value} (h : w.ownsRow b e size v n xs) : ∃ A c, v = .slice A n c := by
  rcases h.2 with ⟨rfl, rfl⟩ | ⟨g, cap, cur, rfl, _⟩
  · exact ⟨_, _, rfl⟩
  · exact ⟨_, _, rfl⟩
theorem heapB {w w' : World} {p : Nat} {o : Obj} (h : w.heap[p]? = some o) (hb : Below w.heap.size w w') : w'.heap[p]? = some o := (Upd.of_below (fun _ => False) hb).heap h id
theorem tok_info : (Tryd.prog.info? 91).map (fun i => (i.zero, i.size, i.bytes)) = some (some (.agg #[.int .i64 0, .string .empty, .int .i64 0]), 3, 32) := by kernel_rfl
section
variable {p B : Nat} {T : List UInt8} {ts : List Tok} {k f : Nat} {rv : Value} {x : List UInt8} {w w' : World}
/-- A new row of one token. -/
def NewF (F : Nat → Prop) (t : Tok) (v : Value) (w : World) : Prop := ∃ g, v = .slice (some ⟨g, 0, none⟩) 1 1 ∧ ¬ F g ∧ w.cell? ⟨g, 0, none⟩ = some (.int .i64 t.kind) ∧ w.cell? ⟨g, 1, none⟩ = some (.string (strB t.text)) ∧ w.cell? ⟨g, 2, none⟩ = some (.int .i64 t.at_)
theorem NewF.kept {F : Nat → Prop} {t : Tok} : FKept F (NewF F t) := fun _ _ _ ⟨g, h1, h2, h3, h4, h5⟩ hu => ⟨g, h1, h2, hu.cell h3 h2, hu.cell h4 h2, hu.cell h5 h2⟩
theorem NewF.of {F : Nat → Prop} {g : Nat} (h1 : ¬ F g) (h2 : w.cell? ⟨g, 0, none⟩ = some (.int .i64 k)) (h3 : w.cell? ⟨g, 1, none⟩ = some (.string (strB x))) (h4 : w.cell? ⟨g, 2, none⟩ = some (.int .i64 f)) : NewF F ⟨k, x, f⟩ (.slice (some ⟨g, 0, none⟩) 1 1) w := ⟨g, rfl, h1, h2, h3, h4⟩
def SlF (v : Value) : Prop := ∃ A n c, v = .slice A n c
end
theorem fin_ok {k f : Nat} {wd : List UInt8} {ts : List Tok} {c : UInt8} (h : fault k wd c = 0) : (St.word k f wd).fin ts c = .ok (ts ++ [⟨k, wd, f⟩]) := by
  show (if fault k wd c = 0 then _ else _) = _
  rw [if_pos h]
theorem fin_err {k f n : Nat} {wd : List UInt8} {ts : List Tok} {c : UInt8} (h : fault k wd c = n) (hn : n ≠ 0) : (St.word k f wd).fin ts c = .error (f, n) := by
  show (if fault k wd c = 0 then _ else _) = _
  rw [if_neg (by rw [h]; exact hn), h]
end Go.Proofs.YtiiihpokpfhclaaDoor
/- The walk of lex.Tokens. -/
namespace Go.Proofs.YtiiihpokpfhclaaDoor
open Go Go.RowKit
theorem begin_kind (i : Nat) (c : UInt8) : (St.begin i c).kind = kindB c.toNat := by
  unfold St.begin kindB
  have h35 : c = 35 ↔ c.toNat = 35 := ⟨fun h => by rw [h]; rfl, fun h => UInt8.toNat_inj.1 (by rw [h]; rfl)⟩
  by_cases h1 : blankB c.toNat = true
  · rw [if_pos h1, if_pos h1]; rfl
  · rw [if_neg h1, if_neg h1]
    by_cases h2 : c = 35
    · rw [if_pos h2, if_pos (h35.1 h2)]; rfl
    · rw [if_neg h2, if_neg (fun h => h2 (h35.2 h))]
      by_cases h3 : letterB c.toNat = true
      · rw [if_pos h3, if_pos h3]; rfl
      · rw [if_neg h3, if_neg h3]
        by_cases h4 : digitB c.toNat = true
        · rw [if_pos h4, if_pos h4]; rfl
        · rw [if_neg h4, if_neg h4]; rfl
theorem begin_fits {T : List UInt8} {i : Nat} {c : UInt8} (h : T[i]? = some c) : (St.begin i c).fits T i (i + 1) := by
  have hi : i < T.length := by
    rcases Nat.lt_or_ge i T.length with h1 | h1
    · exact h1
    · rw [List.getElem?_eq_none h1] at h; cases h
  have hw : [c] = (T.drop i).take (i + 1 - i) := by
    rw [take_next (Nat.le_refl i) h]
    simp
  unfold St.begin
  split
  · trivial
  · split
    · trivial
    · split
      · exact ⟨rfl, by omega, by omega, hw, by omega, fun h => by cases h⟩
      · split
        · rename_i hd
          exact ⟨rfl, by omega, by omega, hw, by omega, fun _ x hx => by rw [List.mem_singleton] at hx; rw [hx]; exact hd⟩
        · exact ⟨rfl, by omega, by omega, hw, by omega, fun h => by cases h⟩
theorem push_fits {T : List UInt8} {fr i : Nat} {c : UInt8} {st : St} (hs : st.fits T fr i) (h : T[i]? = some c) (hg : st.goes c = true) : (st.push c).fits T fr (i + 1) := by
  have hi : i < T.length := by
    rcases Nat.lt_or_ge i T.length with h1 | h1
    · exact h1
    · rw [List.getElem?_eq_none h1] at h; cases h
  cases st with
  | blank => trivial
  | com => trivial
  | word k f x =>
    obtain ⟨rfl, h1, h2, hx, hk, h3⟩ := hs
    refine ⟨rfl, by omega, by omega, ?_, hk, ?_⟩
    · rw [take_next (by omega) h, hx]
    · rintro rfl y hy
      rw [List.mem_append, List.mem_singleton] at hy
      rcases hy with hy | rfl
      · exact h3 rfl y hy
      · exact hg
theorem push_kind (st : St) (c : UInt8) : (st.push c).kind = st.kind := by cases st <;> rfl
theorem fin_len {st : St} {ts ts' : List Tok} {c : UInt8} (h : st.fin ts c = .ok ts') : ts'.length ≤ ts.length + 1 := by
  cases st with
  | blank => injection h with h; rw [← h]; omega
  | com => injection h with h; rw [← h]; omega
  | word k f x =>
    by_cases hz : fault k x c = 0
    · rw [fin_ok hz] at h
      injection h with h; rw [← h]; simp
    · rw [fin_err rfl hz] at h; cases h
theorem runT_goes {st : St} {i : Nat} {ts : List Tok} {c : UInt8} {r : List UInt8} (h : st.goes c = true) : runT st i ts (c :: r) = runT (st.push c) (i + 1) ts r := by
  rw [runT, if_pos h]
theorem runT_err {st : St} {i : Nat} {ts : List Tok} {c : UInt8} {r : List UInt8} {x : Nat × Nat} (h : st.goes c = false) (hf : st.fin ts c = .error x) : runT st i ts (c :: r) = .error x := by
  rw [runT, if_neg (by rw [h]; simp), hf]
theorem runT_ok {st : St} {i : Nat} {ts ts' : List Tok} {c : UInt8} {r : List UInt8} (h : st.goes c = false) (hf : st.fin ts c = .ok ts') : runT st i ts (c :: r) = runT (St.begin i c) (i + 1) ts' r := by
  rw [runT, if_neg (by rw [h]; simp), hf]
theorem drop_at {T : List UInt8} {i : Nat} (h : i < T.length) : ∃ c, T[i]? = some c ∧ T.drop i = c :: T.drop (i + 1) := ⟨T[i], List.getElem?_eq_getElem h, List.drop_eq_getElem_cons h⟩
/-- What Tokens comes to. -/
def TokF (W : World) (r : Res) (e : Ending) (w : World) : Prop :=
  Below W.heap.size W w ∧ match r with
    | .ok ts => ∃ v, e = .returned (.tuple #[v, .int .i64 0, .int .i64 0]) ∧ ToksR w W.heap.size v ts
    | .error (a, n) => e = .returned (.tuple #[.slice none 0 0, .int .i64 a, .int .i64 n]) ∧ n ≠ 0
end Go.Proofs.YtiiihpokpfhclaaDoor
/- The parser in memory: its tokens, its place, its depth, its count; what a call comes to. -/
namespace Go.Proofs.YtiiihpokpfhclaaDoor
open Go Go.RowKit
/-- A token as lex tells it. -/
structure Good (t : Tok) : Prop where
  kind : t.kind ≤ 2
  ne : t.text ≠ []
  len : t.text.length ≤ 1000000
  num : t.kind = 1 → (∀ c ∈ t.text, digitB c.toNat = true) ∧ valL t.text ≤ 9223372036854775807
  name : t.kind ≠ 1 → ∃ c ∈ t.text, digitB c.toNat = false
/-- What does not turn while a text is read: its tokens, where they lie, its length. -/
structure Cx where
  vt : Value
  ts : List Tok
  len : Nat
  base : Nat
structure CxOk (C : Cx) : Prop where
  small : C.ts.length ≤ 1000000
  good : ∀ t ∈ C.ts, Good t
/-- Of the block p alone. -/
abbrev At (p : Nat) : Nat → Prop := fun k => k = p
section
variable {w w' : World} {p : Nat} {C : Cx} {d n : Nat} {r : List Tok}
end
/-- The token that is next. -/
def hdT (len : Nat) : List Tok → Tok
  | [] => ⟨3, [], len⟩
  | t :: _ => t
theorem hdT_text (len : Nat) (r : List Tok) : (hdT len r).text = txt r := by cases r <;> rfl
theorem hdT_at (len : Nat) (r : List Tok) : (hdT len r).at_ = atOf len r := by cases r <;> rfl
def tokV (t : Tok) : Value := .agg #[.int .i64 t.kind, .string (strB t.text), .int .i64 t.at_]
theorem flat_get {α : Type} (f : α → List Value) (k : Nat) (hf : ∀ a, (f a).length = k) : ∀ (l : List α) (i : Nat) (h : i < l.length) (j : Nat), j < k → (l.map f).flatten[k * i + j]? = (f l[i])[j]?
  | a :: l, 0, _, j, hj => by
    rw [List.map_cons, List.flatten_cons, List.getElem?_append_left (by rw [hf]; omega)]
    simp
  | a :: l, i + 1, h, j, hj => by
    rw [List.map_cons, List.flatten_cons, List.getElem?_append_right (by rw [hf, Nat.mul_succ]; omega), hf, show k * (i + 1) + j - k = k * i + j by rw [Nat.mul_succ]; omega]
    exact flat_get f k hf l i (by simpa using h) j hj
theorem ToksR.slice {w : World} {B : Nat} {v : Value} {ts : List Tok} (h : ToksR w B v ts) : ∃ A c, v = .slice A ts.length c ∧ ts.length ≤ maxLen := by
  rcases h.2 with ⟨rfl, h0⟩ | ⟨g, cap, cur, rfl, _, _, h1, h2, _⟩
  · rw [h0]; exact ⟨_, _, rfl, Nat.zero_le _⟩
  · exact ⟨_, _, rfl, Nat.le_trans h1 h2⟩
theorem ToksR.get {w : World} {B : Nat} {A : Option Addr} {n c : Nat} {ts : List Tok} (h : ToksR w B (.slice A n c) ts) {i : Nat} {t : Tok} (hi : ts[i]? = some t) :
    ∃ b, A = some ⟨b, 0, none⟩ ∧ w.cell? ⟨b, i * 3, none⟩ = some (.int .i64 t.kind) ∧ w.cell? ⟨b, i * 3 + 1, none⟩ = some (.string (strB t.text)) ∧ w.cell? ⟨b, i * 3 + 2, none⟩ = some (.int .i64 t.at_) := by
  obtain ⟨hi', rfl⟩ := List.getElem?_eq_some_iff.1 hi
  have key : ∀ b, A = some ⟨b, 0, none⟩ → ∀ (j : Nat) (u : Value), j < 3 → (Tok.cells ts[i])[j]? = some u → w.cell? ⟨b, i * 3 + j, none⟩ = some u := by
    rintro b rfl j u hj hu
    have h1 := World.ownsRow.cells (g := b) h rfl (3 * i + j) u ((flat_get Tok.cells 3 (fun _ => rfl) ts i hi' j hj).trans hu)
    rw [Go.WideShapes.add_plain] at h1
    rw [← h1]
    congr 2
    omega
  rcases h.2 with ⟨h1, h0⟩ | ⟨g, cap, cur, h1, hb, _⟩
  · omega
  · injection h1 with e1 _ _
    subst e1
    exact ⟨g, rfl, key g rfl 0 _ (by decide) rfl, key g rfl 1 _ (by decide) rfl, key g rfl 2 _ (by decide) rfl⟩
end Go.Proofs.YtiiihpokpfhclaaDoor
/- Walks of the parser's small functions: peek, skip, isNext, isName. -/
namespace Go.Proofs.YtiiihpokpfhclaaDoor
open Go Go.RowKit
theorem drop_get {α : Type} {l : List α} {i k : Nat} {r : List α} (h : l.drop i = r) : l[i + k]? = r[k]? := by
  rw [← h, List.getElem?_drop]
theorem drop_tail {α : Type} {l : List α} {i : Nat} {r : List α} (h : l.drop i = r) : l.drop (i + 1) = r.tail := by
  rw [← h, List.tail_drop]
theorem drop_len {α : Type} {l : List α} {i : Nat} {r : List α} (h : l.drop i = r) (hi : i ≤ l.length) : i + r.length = l.length := by
  rw [← h, List.length_drop]; omega
theorem below_drewN {B : Nat} {w w' : World} (h : Below B w w') (n : Nat) : Below B w (w'.drewN n) := ⟨h.os, h.tape, h.output, h.size, h.block⟩
theorem str_beq (a b : List UInt8) : ((strB a).toList == (strB b).toList) = (a == b) := by rw [ByteArray.toList_eq, ByteArray.toList_eq]; rfl
theorem field_text (a b : Int) (s : ByteArray) (w : World) : (Instr.field 91 (.agg #[.int .i64 a, .string s, .int .i64 b]) 1).run Tryd.prog w = .ok (.string s) w := by kernel_rfl
/-- Whether a token is a name. -/
def nmT (t : Tok) : Bool := t.kind == 0 && !isKw t.text
theorem nmT_hd (len : Nat) (r : List Tok) : nmT (hdT len r) = isNm r := by cases r <;> rfl
end Go.Proofs.YtiiihpokpfhclaaDoor
/- Walks of the parser's small functions: accept, expect, name, number, enter, leave. -/
namespace Go.Proofs.YtiiihpokpfhclaaDoor
open Go Go.RowKit
theorem nx_ne {r : List Tok} {x : List UInt8} (h : nx r x = true) (hx : x ≠ []) : r ≠ [] := by
  rintro rfl
  unfold nx txt at h
  rw [beq_iff_eq] at h
  exact hx h.symm
theorem nm_ne {r : List Tok} (h : isNm r = true) : r ≠ [] := by
  rintro rfl
  cases h
theorem num_ne {r : List Tok} (h : isNum r = true) : r ≠ [] := by
  rintro rfl
  cases h
theorem at_below {p : Nat} {w w' : World} (h : Below w.heap.size w w') : Upd (At p) w w' := .of_below _ h
theorem tokV_def (t : Tok) : tokV t = .agg #[.int .i64 t.kind, .string (strB t.text), .int .i64 t.at_] := rfl
end Go.Proofs.YtiiihpokpfhclaaDoor
/- Walks of the parser's small functions: number, isNamed, isEnd, expectEnd, enter, leave, declared. -/
namespace Go.Proofs.YtiiihpokpfhclaaDoor
open Go Go.RowKit Go.Lib
theorem isNum_hd (len : Nat) (r : List Tok) : ((hdT len r).kind == 1) = isNum r := by cases r <;> rfl
/-- Whether all tokens are read. -/
def endB : List Tok → Bool
  | [] => true
  | _ => false
theorem field_kind (a b : Int) (s : ByteArray) (w : World) : (Instr.field 91 (.agg #[.int .i64 a, .string s, .int .i64 b]) 0).run Tryd.prog w = .ok (.int .i64 a) w := by kernel_rfl
end Go.Proofs.YtiiihpokpfhclaaDoor
/- Walks of the parser's small functions: enter, leave, declared. -/
namespace Go.Proofs.YtiiihpokpfhclaaDoor
open Go Go.RowKit Go.Lib
section
variable {w : World} {p : Nat} {C : Cx} {d n : Nat} {r : List Tok}
end
section
variable {α : Type} {p : Nat} {C : Cx} {w w' : World} {R : Value → World → α → List Tok → Prop} {X : Rs α}
end
end Go.Proofs.YtiiihpokpfhclaaDoor
/- Expressions in memory; which operators there are. -/
namespace Go.Proofs.YtiiihpokpfhclaaDoor
open Go Go.RowKit Go.Lib
/-- A node of an expression. -/
def NodeE (w : World) (S : Nat → Prop) (v : Value) (k n : Int) (s : ByteArray) (va vb : Value) : Prop :=
  ∃ g, v = .pointer (some ⟨g, 0, none⟩) ∧ S g ∧ w.heap[g]? = some (.cells #[.int .i64 k, .int .i64 n, .string s, va, vb] 46 (0, 0))
/-- An expression in memory, in blocks of S. -/
def ExV (w : World) (S : Nat → Prop) : Ex → Value → Prop
  | .num n, v => NodeE w S v 0 n ⟨#[]⟩ (.pointer none) (.pointer none)
  | .var s, v => NodeE w S v 1 0 (strB s) (.pointer none) (.pointer none)
  | .neg a, v => ∃ va, NodeE w S v 7 0 ⟨#[]⟩ va (.pointer none) ∧ ExV w S a va
  | .bin k a b, v => ∃ va vb, NodeE w S v k 0 ⟨#[]⟩ va vb ∧ ExV w S a va ∧ ExV w S b vb
section
variable {w w' : World} {S S' F : Nat → Prop}
theorem NodeE.upd {v va vb : Value} {k n : Int} {s : ByteArray} (h : NodeE w S v k n s va vb) (hu : Upd F w w') (hS : ∀ b, S b → ¬ F b) : NodeE w' S v k n s va vb := by
  obtain ⟨g, h1, h2, h3⟩ := h
  exact ⟨g, h1, h2, hu.heap h3 (hS g h2)⟩
theorem NodeE.mono {v va vb : Value} {k n : Int} {s : ByteArray} (h : NodeE w S v k n s va vb) (hS : ∀ b, b < w.heap.size → S b → S' b) : NodeE w S' v k n s va vb := by
  obtain ⟨g, h1, h2, h3⟩ := h
  exact ⟨g, h1, hS g (Array.getElem?_eq_some_iff.1 h3).1 h2, h3⟩
theorem ExV.upd (hu : Upd F w w') (hS : ∀ b, S b → ¬ F b) : ∀ (e : Ex) (v : Value), ExV w S e v → ExV w' S e v
  | .num _, _, h => NodeE.upd h hu hS
  | .var _, _, h => NodeE.upd h hu hS
  | .neg a, _, ⟨va, h1, h2⟩ => ⟨va, h1.upd hu hS, ExV.upd hu hS a va h2⟩
  | .bin _ a b, _, ⟨va, vb, h1, h2, h3⟩ => ⟨va, vb, h1.upd hu hS, ExV.upd hu hS a va h2, ExV.upd hu hS b vb h3⟩
theorem ExV.mono (hS : ∀ b, b < w.heap.size → S b → S' b) : ∀ (e : Ex) (v : Value), ExV w S e v → ExV w S' e v
  | .num _, _, h => NodeE.mono h hS
  | .var _, _, h => NodeE.mono h hS
  | .neg a, _, ⟨va, h1, h2⟩ => ⟨va, h1.mono hS, ExV.mono hS a va h2⟩
  | .bin _ a b, _, ⟨va, vb, h1, h2, h3⟩ => ⟨va, vb, h1.mono hS, ExV.mono hS a va h2, ExV.mono hS b vb h3⟩
theorem ExV.ptr : ∀ {e : Ex} {v : Value}, ExV w S e v → ∃ g, v = .pointer (some ⟨g, 0, none⟩)
  | .num _, _, h => ⟨h.choose, h.choose_spec.1⟩
  | .var _, _, h => ⟨h.choose, h.choose_spec.1⟩
  | .neg _, _, ⟨_, h, _⟩ => ⟨h.choose, h.choose_spec.1⟩
  | .bin _ _ _, _, ⟨_, _, h, _⟩ => ⟨h.choose, h.choose_spec.1⟩
end
section
variable {α : Type} {mk : Nat → α → α → α} {K : List UInt8 → Option Nat} {u : List Tok → Rs α} {g k : Nat} {a : α} {r : List Tok}
theorem chain_none (h : K (txt r) = none) : chain mk K u (g + 1) a r = .ok a r := by
  unfold chain
  rw [h]
theorem chain_some (h : K (txt r) = some k) : chain mk K u (g + 1) a r = (u r.tail).bind fun b r => chain mk K u g (mk k a b) r := by
  conv => lhs; unfold chain
  rw [h]
end
def optV : Option Nat → Value
  | some k => .tuple #[.int .i64 k, .bool true]
  | none => .tuple #[.int .i64 0, .bool false]
end Go.Proofs.YtiiihpokpfhclaaDoor
/- Walks of the parser's methods for expressions: operand. Written by mkexpr.py. -/
namespace Go.Proofs.YtiiihpokpfhclaaDoor
open Go Go.RowKit Go.Lib
theorem bind_ok {α β : Type} (a : α) (r : List Tok) (f : α → List Tok → Rs β) : (Rs.ok a r).bind f = f a r := rfl
theorem bind_er {α β : Type} (r : List Tok) (k : Nat) (f : α → List Tok → Rs β) : (Rs.er r k : Rs α).bind f = .er r k := rfl
theorem bind_no {α β : Type} (f : α → List Tok → Rs β) : (Rs.no : Rs α).bind f = .no := rfl
theorem above_not {p B : Nat} (h : p < B) : ∀ b, B ≤ b → ¬ At p b := fun b hb e => by
  simp only [At] at e
  omega
theorem eq1_iff {r : List Tok} (len : Nat) : (((hdT len r).kind : Int) == 1) = isNum r := by
  rw [← isNum_hd len]
  by_cases h : (hdT len r).kind = 1
  · rw [h]; rfl
  · rw [beq_false_of_ne h]
    exact beq_false_of_ne (by omega)
theorem str_beq' (a b : List UInt8) : ((strB a).toList == b) = (a == b) := by rw [ByteArray.toList_eq]; rfl
end Go.Proofs.YtiiihpokpfhclaaDoor
