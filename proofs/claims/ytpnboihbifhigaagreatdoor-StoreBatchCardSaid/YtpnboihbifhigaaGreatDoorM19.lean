/- Part 19 of the walks (merged): Known5, FlowG, Val, MapS, CloneS, StrOrd. -/
import Derived.Test.YtpnboihbifhigaaGreatDoorM18
import Derived.Test.YtpnboihbifhigaaGreatDoorM4
import Derived.WalkLawsBesides
import Derived.Sort.Walk0
/- The laws' known: a store of two pairs. -/
namespace Go.Proofs.YtpnboihbifhigaaGreatDoor
open Go Go.RowKit
open Go.Proofs (encStr)
abbrev T0 : Tbl := fun _ => none
theorem sumT_perm {T : Tbl} {a b : List (List UInt8)} (h : a.Perm b) : sumT T a = sumT T b := by
  unfold sumT
  exact (h.map _).sum_nat
theorem KeysT.perm {T : Tbl} {p : List UInt8} {ks ls : List (List UInt8)} (h : KeysT T p ks) (hn : ls.Nodup) (hm : ∀ x, x ∈ ls ↔ ((T x).isSome = true ∧ p.isPrefixOf x = true)) : ks.Perm ls :=
  (List.perm_ext_iff_of_nodup h.nodup hn).2 fun x => by rw [h.mem, hm]
theorem KsV.arg {w : World} {B : Nat} {v : Value} {ks : List (List UInt8)} (h : KsV w B v ks) : ArgV w (fun k => B ≤ k ∧ k < w.heap.size) v ((ks.map fun x => (⟨x.toArray⟩ : ByteArray)).map Value.string) := by
  have := own_arg h
  simpa [Function.comp_def, encStr] using this
/-- The two pairs. -/
def kn : List PairD := [⟨⟨#[97]⟩, ⟨#[49]⟩, false⟩, ⟨⟨#[98]⟩, ⟨#[50, 50]⟩, false⟩]
def knT : Tbl := T0.chs kn
theorem knT_b : knT [98] = some ⟨#[50, 50]⟩ := by rfl
theorem knT_c : knT [99] = none := by rfl
theorem knT_eq (x : List UInt8) : knT x = if x = [98] then some ⟨#[50, 50]⟩ else if x = [97] then some ⟨#[49]⟩ else none := rfl
theorem knT_some (x : List UInt8) : (knT x).isSome = true ↔ x = [97] ∨ x = [98] := by
  rw [knT_eq]
  by_cases h1 : x = [98]
  · simp [h1]
  · by_cases h2 : x = [97]
    · simp [h2]
    · simp [h1, h2]
theorem kn_sum {ss : List (List UInt8)} (h1 : ss.Nodup) (h2 : ∀ x, x ∈ ss ↔ (knT x).isSome = true) : sumT knT ss = 5 := by
  have : ss.Perm [[97], [98]] := (List.perm_ext_iff_of_nodup h1 (by decide)).2 fun x => by rw [h2, knT_some]; simp
  rw [sumT_perm this]
  rfl
theorem kn_keys {ks : List (List UInt8)} (h : KeysT knT [97] ks) : ks = [[97]] := by
  have : ks.Perm [[97]] := h.perm (by decide) fun x => by
    rw [knT_some, List.mem_singleton]
    constructor
    · rintro rfl
      exact ⟨.inl rfl, rfl⟩
    · rintro ⟨rfl | rfl, h⟩
      · rfl
      · cases h
  exact List.perm_singleton.1 this
theorem kn_fits : ∀ p ∈ kn, p.fits := by
  intro p hp
  refine fits_of ?_
  simp only [kn, List.mem_cons, List.not_mem_nil, or_false] at hp
  rcases hp with rfl | rfl <;> decide
theorem kn_frames : (frames (kn.map recB)).length ≤ 2 * (3 + 48) := by
  refine frames_small (ps := kn) fun p hp => ?_
  simp only [kn, List.mem_cons, List.not_mem_nil, or_false] at hp
  rcases hp with rfl | rfl <;> exact ⟨⟨by decide, by decide⟩, by decide⟩
/-- What stands in the table was in the pairs. -/
theorem chs_mem : ∀ (ps : List PairD) (T : Tbl) (x : List UInt8) (v : ByteArray), T.chs ps x = some v → T x = some v ∨ ∃ p ∈ ps, p.key.data.toList = x ∧ p.val = v
  | [], T, x, v, h => .inl h
  | p :: ps, T, x, v, h => by
    rcases chs_mem ps (T.ch p) x v h with h1 | ⟨q, hq, h1⟩
    · unfold Tbl.ch at h1
      cases hg : p.gone with
      | true =>
        rw [hg, if_pos rfl] at h1
        unfold Tbl.del at h1
        by_cases e : x = p.key.data.toList
        · rw [if_pos e] at h1; cases h1
        · rw [if_neg e] at h1; exact .inl h1
      | false =>
        rw [hg, if_neg (by simp)] at h1
        unfold Tbl.put at h1
        by_cases e : x = p.key.data.toList
        · rw [if_pos e] at h1
          injection h1 with h1
          exact .inr ⟨p, .head _, e.symm, h1⟩
        · rw [if_neg e] at h1; exact .inl h1
    · exact .inr ⟨q, .tail _ hq, h1⟩
theorem chs_bound {ps : List PairD} (h : ∀ p ∈ ps, p.fits) : ∀ x v, T0.chs ps x = some v → x.length + v.size ≤ 1048512 := by
  intro x v hx
  rcases chs_mem ps T0 x v hx with h1 | ⟨p, hp, rfl, rfl⟩
  · cases h1
  · have := fits_len (h p hp)
    rw [Array.length_toList]
    exact this
set_option maxRecDepth 100000 in
set_option maxHeartbeats 1000000 in
theorem known_any {W : World} (hT : Tab W) (hz : 2 ≤ W.heap.size) : Calls Tryz.prog 9 #[] W fun e w' => e = .returned (.bool true) ∧ Below W.heap.size W w' := by
  have hB : 1 + 1 ≤ W.heap.size := hT.pos
  have hN := new_dkz W 200 256 (by omega) (by omega) (.inl rfl)
  replace hN := hide hN
  replace hT := hide hT
  go_enter Tryz.func9, Tryz.ntmps9
  go_wp2_with fail
  refine hN.out.mono ?_
  rintro e w1 ⟨sb, S, rfl, hD, hb1⟩
  have hT1 := hT.out.upd (Upd.of_below (fun _ => False) hb1) id
  have z1 := hb1.size
  have hO := openS_any (ps := []) hD (fun p hp => by cases hp) (Nat.zero_le _) hB z1 hT1
  replace hO := hide hO
  replace hD := hide hD
  replace hb1 := hide hb1
  replace hT1 := hide hT1
  clear hN
  go_wp2_with fail
  refine hO.out.mono ?_
  rintro e w2 ⟨q, lb, mb, S2, rfl, hs2, hq2, hlb2, hmb2, hM2⟩
  have hS : ∀ k, S k → W.heap.size ≤ k := fun k hk => hD.out.ge hk
  have z2 := hM2.1.size
  have hT2 := hT1.out.upd hM2.1 (fun hk => by have := hS _ hk; omega)
  have hb2 := hb1.out.trans (hM2.1.below z1 hS)
  replace hs2 := hide hs2
  replace hT2 := hide hT2
  replace hb2 := hide hb2
  clear hO hM2 hb1 hT1 hS hD
  go_wp2_with fail
  obtain ⟨w3, hw3⟩ : ∃ w3, w3 = w2.alloc (.cells #[.string ⟨#[97]⟩, .string ⟨#[49]⟩, .bool false, .string ⟨#[98]⟩, .string ⟨#[50, 50]⟩, .bool false] 66) := ⟨_, rfl⟩
  have hU3 : Upd (fun _ => False) w2 w3 := by rw [hw3]; exact .alloc _ _ _
  have hc3 : w3.heap[w2.heap.size]? = some (.cells #[.string ⟨#[97]⟩, .string ⟨#[49]⟩, .bool false, .string ⟨#[98]⟩, .string ⟨#[50, 50]⟩, .bool false] 66) := by rw [hw3]; exact heap_new _ _
  rw [← hw3]
  have hv3 : PrsV w3 (fun k => k = w2.heap.size) (.slice (some ⟨w2.heap.size, 0, none⟩) 2 2) kn := PrsV.new hc3 rfl rfl rfl (by decide)
  have hs3 := hs2.out.upd hU3 fun _ _ => id
  have hA := applyS_any hs3 hB (hT2.out.upd hU3 id) hv3 (fun k hk hS => by have := hs2.out.old hS; omega) kn_fits (by decide) (by have := kn_frames; show 0 + (frames (kn.map recB)).length ≤ 25088; omega)
  refine hA.mono ?_
  rintro e w4 ⟨rfl, S4, hs4, hM4⟩
  have z3 := hU3.size
  have z4 := hM4.1.size
  have hSO : ∀ k, SO S2 q lb mb k → W.heap.size ≤ k := fun k hk => hs3.ge hk
  have hT4 := (hT2.out.upd hU3 id).upd hM4.1 (fun hk => by have := hSO _ hk; omega)
  have hb4 := (hb2.out.trans (hU3.below (by omega) fun _ h => h.elim)).trans (hM4.1.below (by omega) hSO)
  have hO2 := openS_any (ps := kn) hs4.lg.dk kn_fits (by decide) hB (by omega) hT4
  have hge := fun k (hk : S4 k) => hs4.ge (.inl (.inl hk))
  replace hO2 := hide hO2
  replace hge := hide hge
  replace hb4 := hide hb4
  clear hs4 hT4 hM4 hA hv3 hs3 hc3 hw3 hU3 hs2 hT2 hb2 hSO
  go_wp2_with fail
  refine hO2.out.mono ?_
  rintro e w5 ⟨q5, lb5, mb5, S5, rfl, hs5, -, -, -, hM5⟩
  have z5 := hM5.1.size
  have hb5 := hb4.out.trans (hM5.1.below (by omega) hge.out)
  have c1 := hs5.st.cell 2
  have hst5 := hs5.st
  have htb5 := hs5.tb
  have hgb := get_any htb5 ⟨#[98]⟩ (by decide)
  rw [show T0.chs kn (⟨#[98]⟩ : ByteArray).data.toList = some ⟨#[50, 50]⟩ from rfl] at hgb
  replace hb5 := hide hb5
  replace hst5 := hide hst5
  replace htb5 := hide htb5
  replace hgb := hide hgb
  clear hO2 hge hb4 hM5 hs5
  go_wp2_with fail
  refine hgb.out.mono ?_
  rintro e w6 ⟨rfl, g6⟩
  have hU6 := Upd.of_below (fun _ => False) g6
  have hst6 := hst5.out.upd hU6 id
  have htb6 := htb5.out.upd hU6 id
  have hb6 := hb5.out.trans (g6.mono (by omega))
  have c6 := hst6.cell 2
  have z6 := g6.size
  have hgc := get_any htb6 ⟨#[99]⟩ (by decide)
  rw [show T0.chs kn (⟨#[99]⟩ : ByteArray).data.toList = none from rfl] at hgc
  replace hgc := hide hgc
  replace hst6 := hide hst6
  replace htb6 := hide htb6
  replace hb6 := hide hb6
  clear hgb hst5 htb5 hb5 c1 hU6 g6
  simp only [Option.getD_some, Option.isSome_some]
  go_wp2_with fail
  refine hgc.out.mono ?_
  rintro e w7 ⟨rfl, g7⟩
  have hU7 := Upd.of_below (fun _ => False) g7
  have hst7 := hst6.out.upd hU7 id
  have htb7 := htb6.out.upd hU7 id
  have hb7 := hb6.out.trans (g7.mono (by omega))
  have c7 := hst7.cell 2
  have z7 := g7.size
  have hk := keysT_any htb7 (by decide) ⟨#[97]⟩
  replace hk := hide hk
  replace hst7 := hide hst7
  replace htb7 := hide htb7
  replace hb7 := hide hb7
  clear hgc hst6 htb6 hb6 c6 hU7 g7
  simp only [Option.getD_none, Option.isSome_none]
  go_wp2_with fail
  refine hk.out.mono ?_
  rintro e w8 ⟨v8, ks, rfl, hks, hkv, g8⟩
  obtain rfl := kn_keys hks
  have hU8 := Upd.of_below (fun _ => False) g8
  have hst8 := hst7.out.upd hU8 id
  have htb8 := htb7.out.upd hU8 id
  have hb8 := hb7.out.trans (g8.mono (by omega))
  have z8 := g8.size
  have ha8 := hkv.arg
  replace ha8 := hide ha8
  replace hst8 := hide hst8
  replace htb8 := hide htb8
  replace hb8 := hide hb8
  clear hk hkv hst7 htb7 hb7 c7 hU8 g8 hks
  go_wp2_with fail
  obtain ⟨w9, hw9⟩ : ∃ w9, w9 = w8.alloc (.cells #[.string ⟨#[97]⟩] 9) := ⟨_, rfl⟩
  have hU9 : Upd (fun _ => False) w8 w9 := by rw [hw9]; exact .alloc _ _ _
  have hc9 : w9.heap[w8.heap.size]? = some (.cells #[.string ⟨#[97]⟩] 9) := by rw [hw9]; exact heap_new _ _
  rw [← hw9]
  have hse := strings_any (ts := [⟨#[97]⟩]) (ha8.out.upd hU9 fun _ _ => id) (ArgV.one (S := fun _ => True) (g := w8.heap.size) (u := .string ⟨#[97]⟩) (by rw [cell_at hc9]; rfl) trivial)
  rw [show (decide (List.map (fun x => (⟨x.toArray⟩ : ByteArray)) [[97]] = [⟨#[97]⟩])) = true by decide] at hse
  refine hse.mono ?_
  rintro e w10 ⟨rfl, g10⟩
  have hU10 := hU9.then (Upd.of_below _ g10)
  have hst10 := hst8.out.upd hU10 id
  have htb10 := htb8.out.upd hU10 id
  have z10 := hU10.size
  have hb10 := hb8.out.trans (hU10.below (by omega) fun _ h => h.elim)
  have c10 := hst10.cell 2
  have hsi := sizeT_any htb10 (by decide) (chs_bound kn_fits)
  replace hsi := hide hsi
  replace hst10 := hide hst10
  replace htb10 := hide htb10
  replace hb10 := hide hb10
  clear hse ha8 hst8 htb8 hb8 hU9 hU10 hc9 hw9 g10
  go_wp2_with fail
  refine hsi.out.mono ?_
  rintro e w11 ⟨ss, hn, hm, rfl, g11⟩
  rw [show T0.chs kn = knT from rfl] at hm ⊢
  rw [kn_sum hn hm]
  have hU11 := Upd.of_below (fun _ => False) g11
  have hst11 := hst10.out.upd hU11 id
  have hb11 := hb10.out.trans (g11.mono (by omega))
  have hdn := down_any hst11
  replace hdn := hide hdn
  replace hst11 := hide hst11
  replace hb11 := hide hb11
  clear hsi hst10 htb10 hb10 c10 hU11 g11 hn hm
  go_wp2_with fail
  refine hdn.out.mono ?_
  rintro e w12 ⟨rfl, rfl⟩
  go_wp2_with fail
  go_ret
  exact ⟨rfl, hb11.out⟩
end Go.Proofs.YtpnboihbifhigaaGreatDoor
/- A region that draws its order: the rule of XFlow, where edges that do not bind may lead on in the text (two results assigned at once). -/
namespace Go.Proofs.YtpnboihbifhigaaGreatDoor
open Go Go.RowKit
/-- Edges that bind lead back in the text. -/
def backG (ops : Array Oper) : Bool :=
  (List.range ops.size).all fun i => ((ops[i]?).map fun o => o.after.all fun e => !Region.binds .any e || decide (e.on < i)).getD false
theorem wpAny_flowG {P : Program} {ops : Array Oper} {F : Nat → Prop} {Φ : Nat → Fact} {ks : List (Option Fact)} {P0 : World → Prop} {T0 : Array Value} {D : List Deferred} {w0 : World} {Q : Exit → Act → World → Prop}
    (hk : ∀ i, FKept F (Φ i)) (hP0 : ∀ w w', P0 w → Below w.heap.size w w' → P0 w') (hks : KeptKinds ks) (hd : dsts2B ops T0.size = true) (ha : apart2B ops = true) (hbk : backG ops = true) (hch : chainB ops (ks.map (·.isSome)) = true) (hlen : ks.length ≤ ops.size)
    (hs : Steps P ops F Φ T0 D w0 0 ops.toList ks fun _ w => P0 w)
    (hQ : ∀ T w, Upd F w0 w → T.size = T0.size → (∀ s, (ops.any fun o => o.dst == some s) = false → T.getD s undef = T0.getD s undef) → (∀ j, j < ops.size → Φ j (slotOf ops T j) w) → curOf (fun _ w => P0 w) 0 ks ops.size (slotOf ops T) w → Q .normal ⟨T, D⟩ w) :
    ∀ (fuel : Nat) (listed : Array Bool) (a : Act) (w : World), (listed.toList.countP fun b => !b) ≤ fuel → FInv ops F Φ ks P0 T0 D w0 listed a w → wpAny P .any ops Q fuel listed a w := by
  have hend : ∀ (listed : Array Bool) (a : Act) (w : World), FInv ops F Φ ks P0 T0 D w0 listed a w → (∀ j, j < ops.size → listed[j]? = some true) → Q .normal a w := by
    intro listed a w h hall
    obtain ⟨T, D'⟩ := a
    have hD : D' = D := h.defers
    subst hD
    obtain ⟨f, hf1, hf2⟩ := h.phase
    refine hQ T w h.upd h.size h.vars (fun j hj => h.facts j (hall j hj)) ?_
    rcases Nat.le_total f ops.size with hle | hge
    · rw [← cur_skip (f := f) (i := ops.size) hle (fun j h1 h2 => by
        cases hc : inChain ks j with
        | false => rfl
        | true => have := (hf1 j h2 hc).1 (hall j h2); omega)]
      exact hf2
    · rw [cur_skip (f := ops.size) (i := f) hge (fun j h1 _ => by
        unfold inChain
        rw [List.getD_eq_getElem?_getD, List.getElem?_eq_none (by omega)]; rfl)]
      exact hf2
  intro fuel
  induction fuel with
  | zero =>
    intro listed a w hc h
    have hall : ∀ j, j < ops.size → listed[j]? = some true := by
      intro j hj
      have hj' : j < listed.size := by rw [h.lsize]; exact hj
      have h0 : (listed.toList.countP fun b => !b) = 0 := by omega
      rw [List.countP_eq_zero] at h0
      have := h0 listed[j] (by simp)
      rw [Array.getElem?_eq_getElem hj']
      simpa using this
    refine ⟨?_, hend _ _ _ h hall⟩
    unfold Region.ready
    rw [List.filter_eq_nil_iff]
    intro i hi
    rw [List.mem_range] at hi
    rw [Array.getD_eq_getD_getElem?, hall i hi]
    simp
  | succ fuel ih =>
    intro listed a w hc h
    have hstep : ∀ i ∈ Region.ready .any ops listed, wpOp P ops Q i (wpAny P .any ops Q fuel (listed.setIfInBounds i true)) a w := by
      intro i hi
      unfold Region.ready at hi
      rw [List.mem_filter, List.mem_range, Bool.and_eq_true] at hi
      obtain ⟨hin, hnl, hde⟩ := hi
      have hin' : i < listed.size := by rw [h.lsize]; exact hin
      have ho : ops[i]? = some ops[i] := Array.getElem?_eq_getElem hin
      rw [ho] at hde
      simp only [Option.map_some, Option.getD_some] at hde
      have hdeps := fdeps h ops[i].after.toList (by rw [← Array.all_toList] at hde; exact hde)
      have hstep := steps_get (i := i) (o := ops[i]) hs (by simp [hin])
      rw [Nat.zero_add] at hstep
      obtain ⟨T, D'⟩ := a
      have hD : D' = D := h.defers
      subst hD
      have hlt : listed.getD i true = false := by simpa using hnl
      have hli : listed[i]? = some false := by
        rw [Array.getD_eq_getD_getElem?, Array.getElem?_eq_getElem hin'] at hlt
        rw [Array.getElem?_eq_getElem hin']
        simpa using hlt
      -- what is left, once the operation's value lies
      have hput : ∀ (v : Value) (w' : World), (ops[i].dst = none → v = undef) → Upd F w w' → Φ i v w' →
          (∃ f, (∀ j, j < ops.size → inChain ks j = true → ((listed.setIfInBounds i true)[j]? = some true ↔ j < f)) ∧ ∀ V, V i = v → (∀ j, j ≠ i → V j = slotOf ops T j) → curOf (fun _ w => P0 w) 0 ks f V w') →
          wpAny P .any ops Q fuel (listed.setIfInBounds i true) ((⟨T, D'⟩ : Act).put ops[i].dst v) w' := by
        intro v w' hvn hu hφ hph
        have hself : slotOf ops ((⟨T, D'⟩ : Act).put ops[i].dst v).tmps i = v := by
          cases hdd : ops[i].dst with
          | none =>
            rw [slot_none ho hdd]
            exact (hvn hdd).symm
          | some d =>
            have hdT : d < T.size := by
              unfold dsts2B at hd
              rw [Array.all_eq_true] at hd
              have := hd i hin
              rw [hdd] at this
              rw [show T.size = T0.size from h.size]
              simpa using this
            unfold slotOf
            rw [ho]
            simp only [Option.bind_some, hdd, Option.map_some, Option.getD_some]
            show (T.setIfInBounds d v).getD d undef = v
            rw [Array.getD_eq_getD_getElem?, Array.getElem?_setIfInBounds_self_of_lt hdT]
            rfl
        have hother : ∀ j, j ≠ i → slotOf ops ((⟨T, D'⟩ : Act).put ops[i].dst v).tmps j = slotOf ops T j := by
          intro j hji
          cases hdd : ops[i].dst with
          | none => rfl
          | some d =>
            unfold slotOf
            cases hoj : ops[j]? with
            | none => rfl
            | some oj =>
              cases hdj : oj.dst with
              | none => simp [hdj]
              | some dj =>
                have hjn : j < ops.size := by
                  rcases Nat.lt_or_ge j ops.size with h1 | h1
                  · exact h1
                  · rw [Array.getElem?_eq_none h1] at hoj; cases hoj
                have hne : d ≠ dj := by
                  rintro rfl
                  unfold apart2B at ha
                  rw [List.all_eq_true] at ha
                  have h2 := ha i (List.mem_range.2 hin)
                  rw [List.all_eq_true] at h2
                  have h3 := h2 j (List.mem_range.2 hjn)
                  rw [ho, hoj] at h3
                  simp only [Option.bind_some, hdd, hdj, bne_self_eq_false, Bool.or_false] at h3
                  simp at h3
                  exact hji h3.symm
                simp only [Option.bind_some, hdj, Option.map_some, Option.getD_some]
                show (T.setIfInBounds d v).getD dj undef = T.getD dj undef
                rw [Array.getD_eq_getD_getElem?, Array.getD_eq_getD_getElem?, Array.getElem?_setIfInBounds_ne hne]
        refine ih _ _ _ ?_ ⟨h.upd.then hu, ?_, ?_, ?_, ?_, ?_, ?_, ?_, ?_⟩
        · have hcount : ((listed.setIfInBounds i true).toList.countP fun b => !b) + 1 = (listed.toList.countP fun b => !b) := by
            rw [Array.toList_setIfInBounds]
            have hil : i < listed.toList.length := by simpa using hin'
            have hf : listed.toList[i] = false := by
              rw [Array.getElem?_eq_getElem hin'] at hli
              simpa using hli
            have h1 := List.countP_set (p := fun b => !b) (l := listed.toList) (i := i) (a := true) hil
            have hpos : 0 < (listed.toList.countP fun b => !b) := by
              rw [List.countP_pos_iff]
              exact ⟨false, by rw [← hf]; exact List.getElem_mem hil, rfl⟩
            rw [h1, hf]
            simp only [Bool.not_false, if_true, Bool.not_true, Bool.false_eq_true, if_false]
            omega
          omega
        · show (Act.put _ _ _).defers = _
          cases hdd : ops[i].dst <;> rfl
        · show (Act.put _ _ _).tmps.size = _
          cases hdd : ops[i].dst with
          | none => exact h.size
          | some d =>
            show (T.setIfInBounds d v).size = _
            rw [Array.size_setIfInBounds]; exact h.size
        · rw [Array.size_setIfInBounds]; exact h.lsize
        · intro s hsn
          rw [← h.vars s hsn]
          cases hdd : ops[i].dst with
          | none => rfl
          | some d =>
            have hne : s ≠ d := by
              rintro rfl
              rw [any_of_get ho hdd] at hsn
              cases hsn
            show (T.setIfInBounds d v).getD s undef = T.getD s undef
            rw [Array.getD_eq_getD_getElem?, Array.getD_eq_getD_getElem?, Array.getElem?_setIfInBounds_ne (Ne.symm hne)]
        · intro j hj
          by_cases hji : j = i
          · subst hji
            rw [hself]; exact hφ
          · rw [Array.getElem?_setIfInBounds_ne (Ne.symm hji)] at hj
            rw [hother j hji]
            exact hk j _ _ _ (h.facts j hj) hu
        · intro j o hj hoj e he hb
          have hold : listed[e.on]? = some true := by
            by_cases hji : j = i
            · subst hji
              obtain rfl : ops[j] = o := by rw [ho] at hoj; exact Option.some.inj hoj
              rw [Array.all_eq_true'] at hde
              have h4 := hde e he
              rw [hb] at h4
              simp only [Bool.not_true, Bool.false_or] at h4
              rw [Array.getD_eq_getD_getElem?] at h4
              cases hx : listed[e.on]? with
              | none => rw [hx] at h4; simp at h4
              | some b => rw [hx] at h4; simpa using h4
            · rw [Array.getElem?_setIfInBounds_ne (Ne.symm hji)] at hj
              exact h.closed j o hj hoj e he hb
          by_cases hei : e.on = i
          · rw [hei]; exact Array.getElem?_setIfInBounds_self_of_lt hin'
          · rw [Array.getElem?_setIfInBounds_ne (Ne.symm hei)]; exact hold
        · intro j o s hoj hds hlj
          have hji : j ≠ i := by
            rintro rfl
            rw [Array.getElem?_setIfInBounds_self_of_lt hin'] at hlj
            cases hlj
          rw [Array.getElem?_setIfInBounds_ne (Ne.symm hji)] at hlj
          have h1 := hother j hji
          unfold slotOf at h1
          rw [hoj] at h1
          simp only [Option.bind_some, hds, Option.map_some, Option.getD_some] at h1
          rw [h1]
          exact h.early j o s hoj hds hlj
        · obtain ⟨f, hf1, hf2⟩ := hph
          exact ⟨f, hf1, hf2 _ hself hother⟩
      obtain ⟨f, hf1, hf2⟩ := h.phase
      have hlate : ∀ s, lateB ops i s = true → T.getD s undef = T0.getD s undef := by
        intro s hs'
        unfold lateB at hs'
        rw [List.any_eq_true] at hs'
        obtain ⟨j, hj, hs'⟩ := hs'
        rw [Bool.and_eq_true] at hs'
        have hjn := List.mem_range.1 hj
        have hlj : listed[j]? = some false := by
          have hjl : j < listed.size := by rw [h.lsize]; exact hjn
          rw [Array.getElem?_eq_getElem hjl]
          cases hb : listed[j] with
          | false => rfl
          | true =>
            have h3 : listed[i]? = some true := marks_closed h.closed i ops.size j hs'.2 (by
              show listed[j]? = some true
              rw [Array.getElem?_eq_getElem hjl, hb])
            rw [hli] at h3; cases h3
        refine h.early j ops[j] s (Array.getElem?_eq_getElem hjn) ?_ hlj
        have h4 := hs'.1
        rw [Array.getElem?_eq_getElem hjn] at h4
        simpa using h4
      unfold wpOp
      simp only [ho]
      cases hkind : ks.getD i none with
      | none =>
        have hic : inChain ks i = false := by unfold inChain; rw [hkind]; rfl
        rw [hkind] at hstep
        have hph : ∀ (v : Value) (w' : World), Below w.heap.size w w' → ∃ f, (∀ j, j < ops.size → inChain ks j = true → ((listed.setIfInBounds i true)[j]? = some true ↔ j < f)) ∧ ∀ V, V i = v → (∀ j, j ≠ i → V j = slotOf ops T j) → curOf (fun _ w => P0 w) 0 ks f V w' := by
          intro v w' hb
          refine ⟨f, fun j hj hcj => ?_, fun V _ hV => ?_⟩
          · have hne : i ≠ j := by rintro rfl; rw [hic] at hcj; cases hcj
            rw [Array.getElem?_setIfInBounds_ne hne]
            exact hf1 j hj hcj
          · refine cur_keep hks hb (fun j hj => ?_) (fun hp => hP0 _ _ hp hb) hf2
            rw [Nat.zero_add]
            exact hV j (by rintro rfl; rw [hic] at hj; cases hj)
        rcases hstep T w Q h.upd h.size h.vars hlate hdeps with ⟨hw, hwp⟩ | ⟨hw, hφ⟩
        · simp only [hw, if_true]
          refine .inl (Oper.wp_mono ?_ hwp)
          rintro a' w' ⟨v, rfl, hvn, hb, hφ⟩
          exact hput v w' hvn (.of_below F hb) hφ (hph v w' hb)
        · simp only [hw, Bool.false_eq_true, if_false]
          exact hput undef w (fun _ => rfl) (.refl F w) hφ (hph undef w (Below.refl _ _))
      | some φ =>
        have hic : inChain ks i = true := by unfold inChain; rw [hkind]; rfl
        rw [hkind] at hstep
        have hfi : f ≤ i := by
          rcases Nat.lt_or_ge i f with h1 | h1
          · have := (hf1 i hin hic).2 h1
            rw [hli] at this; cases this
          · exact h1
        have hprev : ∀ j, j < i → inChain ks j = true → j < f := by
          intro j hj hcj
          unfold chainB at hch
          rw [List.all_eq_true] at hch
          have h1 := hch i (List.mem_range.2 hin)
          rw [chain_isSome, hic] at h1
          simp only [Bool.not_true, Bool.false_or] at h1
          rw [List.all_eq_true] at h1
          have h2 := h1 j (List.mem_range.2 hj)
          rw [chain_isSome, hcj] at h2
          simp only [Bool.not_true, Bool.false_or] at h2
          rw [marks_at (marks_lt h2), Bool.or_eq_true] at h2
          rcases h2 with h2 | h2
          · have := eq_of_beq h2; omega
          · rw [ho] at h2
            simp only [Option.map_some, Option.getD_some] at h2
            rw [Array.any_eq_true'] at h2
            obtain ⟨e, he, h3⟩ := h2
            rw [Bool.and_eq_true] at h3
            rw [Array.all_eq_true'] at hde
            have h4 := hde e he
            rw [h3.1] at h4
            simp only [Bool.not_true, Bool.false_or] at h4
            have hel : listed[e.on]? = some true := by
              rw [Array.getD_eq_getD_getElem?] at h4
              cases hx : listed[e.on]? with
              | none => rw [hx] at h4; simp at h4
              | some b => rw [hx] at h4; simpa using h4
            exact (hf1 j (by omega) hcj).1 (marks_closed h.closed j i e.on h3.2 hel)
        have hcur : curOf (fun _ w => P0 w) 0 ks i (slotOf ops T) w := by
          rw [← cur_skip hfi (fun j h1 h2 => by
            cases hc : inChain ks j with
            | false => rfl
            | true => have := hprev j h2 hc; omega)]
          exact hf2
        have hph : ∀ (v : Value) (w' : World), φ v w' → ∃ f, (∀ j, j < ops.size → inChain ks j = true → ((listed.setIfInBounds i true)[j]? = some true ↔ j < f)) ∧ ∀ V, V i = v → (∀ j, j ≠ i → V j = slotOf ops T j) → curOf (fun _ w => P0 w) 0 ks f V w' := by
          intro v w' hφ
          refine ⟨i + 1, fun j hj hcj => ?_, fun V hVi _ => ?_⟩
          · by_cases hji : j = i
            · subst hji
              rw [Array.getElem?_setIfInBounds_self_of_lt hin']
              simp
            · rw [Array.getElem?_setIfInBounds_ne (Ne.symm hji), hf1 j hj hcj]
              constructor
              · intro h1; omega
              · intro h1; exact hprev j (by omega) hcj
          · rw [cur_succ hkind]
            show φ (V (0 + i)) w'
            rw [Nat.zero_add, hVi]
            exact hφ
        rcases hstep T w Q h.upd h.size h.vars hlate hdeps hcur with ⟨hw, hwp⟩ | ⟨hw, hφ, hψ⟩
        · simp only [hw, if_true]
          refine .inl (Oper.wp_mono ?_ hwp)
          rintro a' w' ⟨v, rfl, hvn, hu, hφ, hψ⟩
          exact hput v w' hvn hu hφ (hph v w' hψ)
        · simp only [hw, Bool.false_eq_true, if_false]
          exact hput undef w (fun _ => rfl) (.refl F w) hφ (hph undef w hψ)
    refine ⟨fun hr => ?_, hstep⟩
    refine hend _ _ _ h ?_
    intro j
    induction j using Nat.strongRecOn with
    | ind j ihj =>
      intro hj
      have hjl : j < listed.size := by rw [h.lsize]; exact hj
      cases hb : listed[j] with
      | true => rw [Array.getElem?_eq_getElem hjl, hb]
      | false =>
        exfalso
        have hmem : j ∈ Region.ready .any ops listed := by
          unfold Region.ready
          rw [List.mem_filter, List.mem_range, Bool.and_eq_true]
          refine ⟨hj, ?_, ?_⟩
          · rw [Array.getD_eq_getD_getElem?, Array.getElem?_eq_getElem hjl, hb]; rfl
          · rw [Array.getElem?_eq_getElem hj]
            simp only [Option.map_some, Option.getD_some]
            unfold backG at hbk
            rw [List.all_eq_true] at hbk
            have h1 := hbk j (List.mem_range.2 hj)
            rw [Array.getElem?_eq_getElem hj] at h1
            simp only [Option.map_some, Option.getD_some] at h1
            rw [Array.all_eq_true'] at h1 ⊢
            intro e he
            have h2 := h1 e he
            rw [Bool.or_eq_true] at h2 ⊢
            rcases h2 with h2 | h2
            · exact .inl h2
            · rw [decide_eq_true_iff] at h2
              rw [Array.getD_eq_getD_getElem?, ihj e.on h2 (by omega)]
              exact .inr rfl
        rw [hr] at hmem
        cases hmem

/-- The region's rule. -/
theorem wp_region_flowG {P : Program} {ops : Array Oper} {id : Nat} {a0 : Act} {w0 : World} {Q : Exit → Act → World → Prop} (F : Nat → Prop) (Φ : Nat → Fact) (ks : List (Option Fact)) (P0 : World → Prop)
    (hm : P.follows .mixedOrders = true) (hk : ∀ i, FKept F (Φ i)) (hP0 : ∀ w w', P0 w → Below w.heap.size w w' → P0 w') (hks : KeptKinds ks) (hd : dsts2B ops a0.tmps.size = true) (ha : apart2B ops = true) (hbk : backG ops = true) (hch : chainB ops (ks.map (·.isSome)) = true) (hlen : ks.length ≤ ops.size)
    (h0 : P0 w0) (hs : Steps P ops F Φ a0.tmps a0.defers w0 0 ops.toList ks fun _ w => P0 w)
    (hQ : ∀ T w, Upd F w0 w → T.size = a0.tmps.size → (∀ s, (ops.any fun o => o.dst == some s) = false → T.getD s undef = a0.tmps.getD s undef) → (∀ j, j < ops.size → Φ j (slotOf ops T j) w) → curOf (fun _ w => P0 w) 0 ks ops.size (slotOf ops T) w → Q .normal ⟨T, a0.defers⟩ w) :
    (Code.region id ops true).wp P Q a0 w0 := by
  refine wp_region_any hm (wpAny_flowG hk hP0 hks hd ha hbk hch hlen hs hQ _ _ _ _ ?_ ⟨(Upd.refl F w0).drew, rfl, rfl, by simp, fun _ _ => rfl, fun j hj => ?_, fun i o hi => ?_, fun _ _ _ _ _ _ => rfl, 0, fun j hj _ => ?_, ?_⟩)
  · rw [Array.toList_replicate]
    exact Nat.le_trans List.countP_le_length (by simp)
  · rw [Array.getElem?_replicate] at hj
    split at hj <;> simp at hj
  · replace hi : (Array.replicate ops.size false)[i]? = some true := hi
    rw [Array.getElem?_replicate] at hi
    split at hi <;> simp at hi
  · rw [Array.getElem?_replicate]
    constructor
    · intro h; split at h <;> simp at h
    · intro h; omega
  · simp only [curOf]
    exact hP0 _ _ h0 (Below.refl _ w0).drew
end Go.Proofs.YtpnboihbifhigaaGreatDoor
/- The laws' key and value. -/
namespace Go.Proofs.YtpnboihbifhigaaGreatDoor
open Go Go.RowKit
/-- The laws' seven keys. -/
def keyTab : List ByteArray := [⟨#[97]⟩, ⟨#[97, 47, 98]⟩, ⟨#[]⟩, ⟨#[98]⟩, ⟨#[97, 47]⟩, ⟨#[122, 122]⟩, ⟨#[97, 47, 99]⟩]
def keyS (k : Nat) : ByteArray := keyTab.getD (k % 7) ⟨#[]⟩
theorem keyS_small (k : Nat) : (keyS k).size ≤ 3 := by
  unfold keyS
  have h : ∀ i, i < 7 → (keyTab.getD i ⟨#[]⟩).size ≤ 3 := by decide
  exact h _ (Nat.mod_lt _ (by decide))
theorem keyTab_at (w : World) (g i : Nat) (hi : i < 7) (h : w.heap[g]? = some (.cells #[.string ⟨#[97]⟩, .string ⟨#[97, 47, 98]⟩, .string ⟨#[]⟩, .string ⟨#[98]⟩, .string ⟨#[97, 47]⟩, .string ⟨#[122, 122]⟩, .string ⟨#[97, 47, 99]⟩] 9)) : w.cell? ⟨g, i, none⟩ = some (.string (keyTab.getD i ⟨#[]⟩)) := by
  rw [cell_at h]
  rcases i with _ | _ | _ | _ | _ | _ | _ | i
  all_goals first | rfl | omega
set_option maxRecDepth 100000 in
theorem key_any (w : World) (k : Nat) (hk : k < 256) : Calls Tryz.prog 21 #[.int .u8 k] w fun e w' => e = .returned (.string (keyS k)) ∧ Below w.heap.size w w' := by
  obtain ⟨w1, hw1⟩ : ∃ w1, w1 = w.alloc (.cells #[.string ⟨#[97]⟩, .string ⟨#[97, 47, 98]⟩, .string ⟨#[]⟩, .string ⟨#[98]⟩, .string ⟨#[97, 47]⟩, .string ⟨#[122, 122]⟩, .string ⟨#[97, 47, 99]⟩] 9) := ⟨_, rfl⟩
  have hc : w1.cell? ⟨w.heap.size, k % 7, none⟩ = some (.string (keyS k)) := keyTab_at w1 w.heap.size (k % 7) (Nat.mod_lt _ (by decide)) (by rw [hw1]; exact heap_new _ _)
  have hb : Below w.heap.size w w1 := by rw [hw1]; exact (Below.refl _ _).alloc (Nat.le_refl _) _
  have h7 : (k : Int) % 7 < 7 := by omega
  have h70 : 0 ≤ (k : Int) % 7 := by omega
  have hn7 : ((k : Int) % 7).toNat = k % 7 := by omega
  rw [hw1] at hc
  replace hb := hide hb
  replace hw1 := hide hw1
  go_enter Tryz.func21, Tryz.ntmps21
  go_wp2_with fail
  go_ret
  rw [← hw1.out]
  exact ⟨rfl, hb.out⟩
def valL (i n : Nat) : List UInt8 := (List.range n).map fun j => UInt8.ofNat (13 * i + j)
def valS (i n : Nat) : ByteArray := ⟨(valL i n).toArray⟩
theorem valL_len (i n : Nat) : (valL i n).length = n := by simp [valL]
theorem valS_size (i n : Nat) : (valS i n).size = n := by show (valL i n).toArray.size = n; simp [valL]
theorem val_set (i n j : Nat) (hj : j < n) : (bv (valL i j ++ List.replicate (n - j) 0)).toArray.setIfInBounds j (.int .u8 ((13 * i + j) % 256 : Nat)) = (bv (valL i (j + 1) ++ List.replicate (n - (j + 1)) 0)).toArray := by
  obtain ⟨m, hm⟩ : ∃ m, n - j = m + 1 := ⟨n - j - 1, by omega⟩
  have h1 : n - (j + 1) = m := by omega
  have h2 : (bv (valL i j)).length = j := by rw [bv_len, valL_len]
  have h3 : valL i (j + 1) = valL i j ++ [UInt8.ofNat (13 * i + j)] := by unfold valL; rw [List.range_succ, List.map_append]; rfl
  rw [h1, hm, h3, List.replicate_succ]
  unfold bv at h2 ⊢
  rw [List.map_append, List.map_append, List.map_append, List.map_cons, ← Array.toList_inj]
  simp only [List.setIfInBounds_toArray, List.map_cons, List.map_nil]
  rw [List.set_append_right _ _ (by omega), h2, Nat.sub_self, List.set_cons_zero]
  simp
set_option maxRecDepth 100000 in
set_option maxHeartbeats 1000000 in
theorem value_any (w : World) (i n : Nat) (hi : i ≤ 1000) (hn : n < 256) : Calls Tryz.prog 22 #[.int .i64 i, .int .i64 n] w fun e w' => e = .returned (.string (valS i n)) ∧ Below w.heap.size w w' := by
  have hmk := run_make_row' (P := Tryz.prog) 62 5 (.int .u8 0) 1 Tryz.underlying62 byte_info rfl .i64 .i64 n (by omega) (by omega)
  go_enter Tryz.func22, Tryz.ntmps22
  go_wp2_with fail
  obtain ⟨w1, hw1⟩ : ∃ w1, w1 = w.alloc (.cells (madeCells #[.int .u8 0] n) 5) := ⟨_, rfl⟩
  have hg0 : w1.heap[w.heap.size]? = some (.cells (bv (valL i 0 ++ List.replicate (n - 0) 0)).toArray 5) := by
    rw [hw1, heap_new]
    have : valL i 0 = [] := rfl
    rw [this, List.nil_append, Nat.sub_zero, bv_zeros]
  have hU1 : Upd (fun _ => False) w w1 := by rw [hw1]; exact .alloc _ _ _
  rw [← hw1]
  replace hw1 := hide hw1
  replace hg0 := hide hg0
  replace hU1 := hide hU1
  clear hmk
  go_loopw [6] (fun z wx => ∃ j : Nat, j ≤ n ∧ z = .int .i64 j ∧ wx.heap[w.heap.size]? = some (.cells (bv (valL i j ++ List.replicate (n - j) 0)).toArray 5) ∧ Upd (fun q => q = w.heap.size) w wx) (fun z _ => n - (intOf z).toNat)
  case atStart => exact ⟨0, Nat.zero_le _, rfl, hg0.out, hU1.out.mono fun _ _ h => h.elim⟩
  case round =>
    obtain ⟨j, hj, rfl, hg, hUx⟩ := hrel
    rcases Nat.lt_or_ge j n with hlt2 | hge2
    · have hcx : wr.cell? ⟨w.heap.size, j, none⟩ = some (.int .u8 0) := by
        rw [cell_at hg]
        unfold bv
        rw [List.getElem?_toArray, List.getElem?_map, List.getElem?_append_right (by rw [valL_len]; exact Nat.le_refl _), valL_len, Nat.sub_self, List.getElem?_replicate, if_pos (by omega)]
        rfl
      have hfx := frozen_at hg j
      replace hg := hide hg
      replace hUx := hide hUx
      go_wp2_with fail
      go_roundw
      case rel =>
        refine ⟨j + 1, hlt2, by go_num, ?_, hUx.out.then (.set (F := fun q => q = w.heap.size) _ (a := ⟨w.heap.size, j, none⟩) rfl _)⟩
        have e : ((13 * (i : Int) + j) % 256) = (((13 * i + j) % 256 : Nat) : Int) := by omega
        rw [heap_set hg.out, e, val_set i n j hlt2]
      case measure => simp [intOf]; omega
    · obtain rfl : j = n := by omega
      rw [Nat.sub_self, List.replicate_zero, List.append_nil] at hg
      have hby : BytesV wr wr.heap.size (.slice (some ⟨w.heap.size, 0, none⟩) j j) (valL i j) := by
        refine ArgV.bytes (S := fun _ => True) ⟨some ⟨w.heap.size, 0, none⟩, j, by rw [bv_len, valL_len], by rw [bv_len, valL_len]; exact Nat.le_refl _, by unfold maxLen; omega, .inr ⟨w.heap.size, 0, rfl, trivial, fun i u hi => ?_⟩⟩
        rw [Nat.zero_add, cell_at hg, ← hi]
        simp
      have hcv := BytesV.string (P := Tryz.prog) hby (src := 62) (dst := 9) (e := 5) Tryz.underlying62 Tryz.underlying5 Tryz.underlying9
      replace hg := hide hg
      replace hUx := hide hUx
      replace hby := hide hby
      go_wp2_with fail
      go_ret
      exact ⟨rfl, hUx.out.below (Nat.le_refl _) fun k hk => by omega⟩
end Go.Proofs.YtpnboihbifhigaaGreatDoor
/- The laws' map of strings, in memory. -/
namespace Go.Proofs.YtpnboihbifhigaaGreatDoor
open Go Go.RowKit
/-- An element of the map stands for itself. -/
def heldS (v : Value) : Option (DataW Value × List MemPlace) := match v with | .string a => some (.held (.string a), []) | _ => none
theorem heldS_inv {v : Value} {y : DataW Value × List MemPlace} (h : heldS v = some y) : (∃ a, v = .string a) ∧ y = (.held v, []) := by
  unfold heldS at h
  split at h
  · injection h with h
    exact ⟨⟨_, rfl⟩, h.symm⟩
  · cases h
theorem heldS_val {v u : Value} {ps : List MemPlace} (h : heldS v = some (.held u, ps)) : v = u := by
  have := (heldS_inv h).2
  injection this with h1 _
  injection h1 with h1
  exact h1.symm
def entS (v : ByteArray) : Value := .string v
/-- The map in block mb holds T. -/
def MsD (D : DV) (T : Tbl) : Prop := (∀ kl, Maps.has D kl = true → ∃ s, kl = kS s) ∧ ∀ s, Maps.has D (kS s) = (T s).isSome ∧ ∀ zd, D.atKey (kS s) zd = match T s with | some v => .held (entS v) | none => zd
def MsV (w : World) (mb n : Nat) (T : Tbl) : Prop := ∃ D : DV, w.ownsMap Tryz.prog 9 heldS mb n D ∧ MsD D T
theorem MsV.upd {w w' : World} {F : Nat → Prop} {mb n : Nat} {T : Tbl} (h : MsV w mb n T) (hu : Upd F w w') (hn : ¬ F mb) : MsV w' mb n T := by
  obtain ⟨D, ⟨es, clock, hb, r⟩, h2⟩ := h
  exact ⟨D, ⟨es, clock, hu.heap hb hn, r⟩, h2⟩
theorem MsV.lt {w : World} {mb n : Nat} {T : Tbl} (h : MsV w mb n T) : mb < w.heap.size := by
  obtain ⟨D, h1, _⟩ := h
  exact h1.lt
theorem MsV.more {w : World} {mb n n' : Nat} {T : Tbl} (h : MsV w mb n T) (hn : n ≤ n') : MsV w mb n' T := by
  obtain ⟨D, h1, h2⟩ := h
  exact ⟨D, h1.mono hn, h2⟩
theorem MsV.made (w : World) : MsV (w.alloc (.map #[] 0)) w.heap.size 0 (fun _ => none) :=
  ⟨.map [], World.ownsMap_made _ _ _ _, fun kl h => (by simp [Maps.has] at h), fun s => ⟨rfl, fun zd => rfl⟩⟩
theorem MsD.put {D : DV} {T : Tbl} (hm : Maps.Tidy D) (h : MsD D T) (k : List UInt8) (v : ByteArray) : MsD (D.put (kS k) (.held (entS v))) (T.put k v) := by
  obtain ⟨h1, h2⟩ := h
  refine ⟨fun kl hkl => ?_, fun s => ?_⟩
  · by_cases e : kl = kS k
    · exact ⟨k, e⟩
    · rw [Maps.has_put_other e] at hkl
      exact h1 kl hkl
  · unfold Tbl.put
    by_cases e : s = k
    · subst e
      rw [if_pos rfl]
      exact ⟨Maps.has_put_same hm.isMap (kS_key _) _, fun zd => Maps.atKey_put_same hm.isMap (kS_key _) _ _⟩
    · rw [if_neg e, Maps.has_put_other (kS_ne e)]
      exact ⟨(h2 s).1, fun zd => by rw [Maps.atKey_put_other (kS_ne e)]; exact (h2 s).2 zd⟩
theorem MsD.del {D : DV} {T : Tbl} (h : MsD D T) (k : List UInt8) : MsD (D.del (kS k)) (T.del k) := by
  obtain ⟨h1, h2⟩ := h
  refine ⟨fun kl hkl => ?_, fun s => ?_⟩
  · by_cases e : kl = kS k
    · exact ⟨k, e⟩
    · rw [Maps.has_del_other e] at hkl
      exact h1 kl hkl
  · unfold Tbl.del
    by_cases e : s = k
    · subst e
      rw [if_pos rfl]
      exact ⟨Maps.has_del_same, fun zd => Maps.atKey_del_same _⟩
    · rw [if_neg e, Maps.has_del_other (kS_ne e)]
      exact ⟨(h2 s).1, fun zd => by rw [Maps.atKey_del_other (kS_ne e)]; exact (h2 s).2 zd⟩
end Go.Proofs.YtpnboihbifhigaaGreatDoor
/- The laws' clone of a map. -/
namespace Go.Proofs.YtpnboihbifhigaaGreatDoor
open Go Go.RowKit
theorem rangesS_upd {w w' : World} {F : Nat → Prop} {b r n : Nat} {D : DV} {left : Lit → Bool} {cnt : Nat} (h : w.ranges Tryz.prog 9 heldS b r n D left cnt) (hu : Upd F w w') (hb : ¬ F b) (hr : ¬ F r) : w'.ranges Tryz.prog 9 heldS b r n D left cnt := by
  obtain ⟨es, clock, since, seen, c0, h1, h2, h3, h4, h5, h6⟩ := h
  exact ⟨es, clock, since, seen, c0, hu.heap h1 hb, h2, h3, h4, hu.heap h5 hr, h6⟩
theorem ownsS_upd {w w' : World} {F : Nat → Prop} {mb n : Nat} {D : DV} (h : w.ownsMap Tryz.prog 9 heldS mb n D) (hu : Upd F w w') (hn : ¬ F mb) : w'.ownsMap Tryz.prog 9 heldS mb n D := by
  obtain ⟨es, clock, hb, r⟩ := h
  exact ⟨es, clock, hu.heap hb hn, r⟩
theorem heldS_inv2 (v : Value) (y : DataW Value × List MemPlace) (h : heldS v = some y) : ∃ a, v = Value.string a := (heldS_inv h).1
theorem MsD.met {D : DV} {T : Tbl} (h : MsD D T) {x : List UInt8} {c : ByteArray} {yd : DV} {yp : List MemPlace} (hv : heldS (.string c) = some (yd, yp)) (hat : ∀ zd, D.atKey (kS x) zd = yd) : T x = some c := by
  have e1 : yd = .held (.string c) := by
    have := (heldS_inv hv).2
    injection this
  have hhas : Maps.has D (kS x) = true := Maps.has_true_of_atKey hat
  obtain ⟨a1, a2⟩ := h.2 x
  rw [hhas] at a1
  cases hx : T x with
  | none => rw [hx] at a1; cases a1
  | some v =>
    have := a2 yd
    rw [hat, hx, e1] at this
    injection this with this
    unfold entS at this
    injection this with this
    rw [this]
/-- What a clone holds while the keys of which 'left' tells are still to come. -/
def Tbl.come (T : Tbl) (left : Lit → Bool) : Tbl := fun s => if left (kS s) then none else T s
theorem Tbl.come_step {T : Tbl} {left : Lit → Bool} {x : List UInt8} {v : ByteArray} (hT : T x = some v) : T.come (fun z => left z && !z.sameKey (kS x)) = (T.come left).put x v := by
  funext s
  unfold Tbl.come Tbl.put
  by_cases e : s = x
  · subst e
    simp [kS, Lit.sameKey, hT]
  · have : (kS s).sameKey (kS x) = false := by simp [kS, Lit.sameKey, e]
    simp [this, e]
theorem Tbl.come_end {T : Tbl} {left : Lit → Bool} (h : ∀ kl, left kl = false) : T.come left = T := by
  funext s
  unfold Tbl.come
  rw [h]
  simp
theorem Tbl.come_start {D : DV} {T : Tbl} (h : MsD D T) : T.come (Maps.has D) = fun _ => none := by
  funext s
  unfold Tbl.come
  rw [(h.2 s).1]
  cases T s <;> rfl
set_option maxRecDepth 100000 in
set_option maxHeartbeats 1000000 in
theorem cloneS_any {w : World} {mb n : Nat} {T : Tbl} (h : MsV w mb n T) (hn : n ≤ 4294967295) :
    Calls Tryz.prog 19 #[.map (some mb)] w fun e w' => e = .returned (.map (some w.heap.size)) ∧ MsV w' w.heap.size n T ∧ Below w.heap.size w w' := by
  obtain ⟨D, m1, m2⟩ := id h
  have hmm := @run_makeMap Tryz.prog
  have hbl := m1.lt
  have hsz := m1.size_le
  have e1 : (w.alloc (.map #[] 0)).heap.size = w.heap.size + 1 := by simp
  have hU0 : Upd (fun _ => False) w (w.alloc (.map #[] 0)) := .alloc _ _ _
  have m1' := ownsS_upd m1 hU0 id
  have hne : MsV (w.alloc (.map #[] 0)) w.heap.size 0 (fun _ => none) := MsV.made w
  replace m1 := hide m1
  replace m2 := hide m2
  replace m1' := hide m1'
  replace hne := hide hne
  replace hU0 := hide hU0
  clear h
  go_enter Tryz.func19, Tryz.ntmps19
  go_wp2_with (first
    | (at_range; refine wpList_range_own _ rfl _ 31 rfl 9 9 str_key Tryz.underlying31 heldS mb n D rfl m1'.out ?_; intro w0 hrg0 hg0 hs0)
    | go_in)
  go_frame
  rw [e1] at hrg0 hs0 ⊢
  have hU1 : Upd (fun _ => False) w w0 := hU0.out.then (Upd.grown hg0 fun k hk => by cases hk)
  have hne0 : MsV w0 w.heap.size 0 (T.come (Maps.has D)) := by
    rw [Tbl.come_start m2.out]
    exact hne.out.upd (Upd.grown (F := fun _ => False) hg0 fun k hk => by cases hk) id
  go_loopw [4] (fun _ wr => ∃ (left : Lit → Bool) (cnt : Nat), wr.ranges Tryz.prog 9 heldS mb (w.heap.size + 1) n D left cnt ∧ cnt ≤ n ∧ MsV wr w.heap.size (n - cnt) (T.come left) ∧ Upd (fun _ => False) w wr) (fun _ wr => wr.rangeLeft mb (w.heap.size + 1))
  case atStart => exact ⟨_, _, hrg0, hsz, hne0.more (Nat.zero_le _), hU1⟩
  case round =>
    obtain ⟨left, cnt, hrg, hcs, hM, hU⟩ := hrel
    have zr := hU.size
    replace hU := hide hU
    replace hM := hide hM
    go_wp2_with (first
      | (at_next; refine wpList_next_ranges _ rfl _ rfl 9 str_key heldS Go.Proofs.encStr Value.string enc_inv heldS_inv2 mb (w.heap.size + 1) n _ _ _ rfl hrg ?_ ?_)
      | go_in)
    · intro hc0 hl0
      go_wp2_with fail
      go_ret
      have hM2 := hM.out
      rw [Tbl.come_end hl0] at hM2
      exact ⟨rfl, hM2.more (by omega), hU.out.below (Nat.le_refl _) fun _ h => h.elim⟩
    · intro x c kl yd yp w2 cnt2 hkey hlk hv hat hrg2 hlt hg2 hs2 hen
      have hky := hkey
      obtain ⟨x', ex, rfl, hxl⟩ := Maps.keyOf_str Tryz.underlying9 hkey
      obtain rfl : x = x' := encStr_inj ex
      have hTx := m2.out.met hv hat
      have hst := Tbl.come_step (left := left) hTx
      have hU2 : Upd (fun k => k = w.heap.size + 1) wr w2 := Upd.grown hg2 fun k hk => by injection hk with hk; exact hk.symm
      obtain ⟨D2, d1, d2⟩ := hM.out.upd hU2 (by omega)
      replace hst := hide hst
      replace hU2 := hide hU2
      replace hrg2 := hide hrg2
      replace hat := hide hat
      replace hv := hide hv
      replace hrg := hide hrg
      replace hg2 := hide hg2
      replace d1 := hide d1
      replace d2 := hide d2
      replace hky := hide hky
      clear hs2 hkey hlk
      unfold Go.Proofs.encStr at hen hky ⊢
      go_wp2_with (at_mapUpdate; refine wpList_mapUpdate_in _ rfl _ _ _ 31 rfl 9 9 str_key Tryz.underlying31 heldS w.heap.size (n - cnt) D2 rfl d1.out (by unfold maxLen; omega) _ _ _ rfl rfl hky.out _ [] rfl ?_; intro w4 hown1 hturn1)
      have hU4 : Upd (fun k => k = w.heap.size) w2 w4 := Upd.turned hturn1 rfl
      have hbl2 : mb ≠ w.heap.size := by omega
      have hrg4 := rangesS_upd hrg2.out hU4 hbl2 (by omega)
      refine ⟨⟨_, cnt2, hrg4, by omega, ?_, ?_⟩, ?_⟩
      · rw [show T.come (fun z => left z && !z.sameKey (Lit.string x)) = (T.come left).put x c from hst.out]
        have hp : MsD (D2.put (kS x) (.held (entS c))) ((T.come left).put x c) := d2.out.put (d1.out.tidy str_key) x c
        exact MsV.more (n := n - cnt + 1) ⟨_, hown1, hp⟩ (by omega)
      · exact (hU.out.trans hU2.out fun k hk e => by omega).trans hU4 fun k hk e => by omega
      · rw [hrg4.left_eq, hrg.out.left_eq]; exact hlt
end Go.Proofs.YtpnboihbifhigaaGreatDoor
/- Strings in order, as Keys tells them. -/
namespace Go.Proofs.YtpnboihbifhigaaGreatDoor
open Go Go.RowKit
theorem lessOf {x y : ByteArray} (h : x.data.toList ≤ y.data.toList) (hn : x ≠ y) : Op.bytesLess x.toList y.toList = true := by
  rw [Go.Proofs.bytesLess_eq, decide_eq_true_eq, ByteArray.toList_eq, ByteArray.toList_eq]
  refine Classical.byContradiction fun hlt => hn ?_
  exact ByteArray.ext (Array.toList_inj.1 (List.le_antisymm h (List.not_lt.1 hlt)))
theorem keys_less {T : Tbl} {p : List UInt8} {ks : List (List UInt8)} {kb : List ByteArray} (hks : KeysT T p ks) (hkb : kb = ks.map fun x => (⟨x.toArray⟩ : ByteArray)) : ∀ j (h : j + 1 < kb.length), Op.bytesLess kb[j].toList kb[j + 1].toList = true := by
  intro j h
  subst hkb
  rw [List.length_map] at h
  rw [List.getElem_map, List.getElem_map]
  refine lessOf (List.pairwise_iff_getElem.1 hks.le j (j + 1) (by omega) h (by omega)) fun e => ?_
  have e2 : ks[j] = ks[j + 1] := by have := congrArg (fun z : ByteArray => z.data.toList) e; simpa using this
  exact (List.pairwise_iff_getElem.1 hks.nodup) j (j + 1) (by omega) h (by omega) e2
theorem prefixCut {x pre : ByteArray} (h : pre.data.toList.isPrefixOf x.data.toList = true) : pre.size ≤ x.size ∧ ((x.extract 0 pre.size).toList == pre.toList) = true := by
  rw [List.isPrefixOf_iff_prefix] at h
  obtain ⟨t, ht⟩ := h
  have hl := congrArg List.length ht
  rw [List.length_append] at hl
  have e1 : pre.data.toList.length = pre.size := rfl
  have e2 : x.data.toList.length = x.size := rfl
  refine ⟨by omega, ?_⟩
  rw [beq_iff_eq, ByteArray.toList_eq, ByteArray.toList_eq, ByteArray.data_extract, Array.toList_extract, ← ht, ← e1]
  rw [List.extract_eq_take_drop, List.drop_zero, Nat.sub_zero, List.take_left]
theorem prefixIff (x pre : ByteArray) : ((x.extract 0 pre.size).toList == pre.toList) = pre.data.toList.isPrefixOf x.data.toList := by
  cases hp : pre.data.toList.isPrefixOf x.data.toList with
  | true => exact (prefixCut hp).2
  | false =>
    rw [← Bool.not_eq_true] at hp ⊢
    intro hc
    refine hp ?_
    rw [beq_iff_eq, ByteArray.toList_eq, ByteArray.toList_eq, ByteArray.data_extract, Array.toList_extract, List.extract_eq_take_drop, List.drop_zero] at hc
    rw [List.isPrefixOf_iff_prefix, ← hc]
    exact List.take_prefix _ _
theorem prefixShort {x pre : ByteArray} (h : ¬ pre.size ≤ x.size) : pre.data.toList.isPrefixOf x.data.toList = false := by
  cases hp : pre.data.toList.isPrefixOf x.data.toList with
  | true => exact absurd (prefixCut hp).1 h
  | false => rfl
end Go.Proofs.YtpnboihbifhigaaGreatDoor
