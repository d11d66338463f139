/- Part 14 of the walks (merged): SameR, SizeR, Place, Recs, Recs2, Life, Life2, Known4, TabOf, LawMem. -/
import Derived.Test.YtimblkkojcbipaaDoorY13
import Derived.Test.YtimblkkojcbipaaDoorY2
import Derived.Lib.LaidTab
/- The laws' helper same: two lists of records are compared. -/
namespace Go.Proofs.YtimblkkojcbipaaDoor
open Go Go.RowKit
/-- The value v is a list of records; some may be nil. -/
def RecsW (w : World) (S : Nat → Prop) (v : Value) (rs : List (List UInt8)) : Prop :=
  ∃ vs, vs.length = rs.length ∧ ArgV w S v vs ∧ ∀ (i : Nat) (u : Value) (r : List UInt8), vs[i]? = some u → rs[i]? = some r → ArgV w S u (bv r)
theorem RecsW.upd {w w' : World} {F S : Nat → Prop} {v : Value} {rs : List (List UInt8)} (h : RecsW w S v rs) (hu : Upd F w w') (hS : ∀ k, S k → ¬ F k) : RecsW w' S v rs := by
  obtain ⟨vs, h1, h2, h3⟩ := h
  exact ⟨vs, h1, h2.upd hu hS, fun i u r hi hr => (h3 i u r hi hr).upd hu hS⟩
theorem RecsW.at {w : World} {S : Nat → Prop} {A : Option Addr} {n c : Nat} {rs : List (List UInt8)} (h : RecsW w S (.slice A n c) rs) {k : Nat} (hk : k < rs.length) : ∃ b o u, A = some ⟨b, o, none⟩ ∧ w.cell? ⟨b, o + k, none⟩ = some u ∧ ArgV w S u (bv rs[k]) := by
  obtain ⟨vs, h1, h2, h3⟩ := h
  have hu : vs[k]? = some (vs[k]'(by omega)) := List.getElem?_eq_getElem _
  obtain ⟨b, o, e1, -, e2⟩ := h2.get hu
  exact ⟨b, o, _, e1, e2, h3 k _ _ hu (List.getElem?_eq_getElem hk)⟩
set_option maxRecDepth 100000 in
set_option maxHeartbeats 1000000 in
theorem same_any {w : World} {Sa Sb : Nat → Prop} {va vb : Value} {ra rb : List (List UInt8)} (ha : RecsW w Sa va ra) (hb : RecsW w Sb vb rb) :
    Calls Tryd.prog 15 #[va, vb] w fun e w' => e = .returned (.bool (decide (ra = rb))) ∧ Below w.heap.size w w' := by
  have hA := ha
  have hB := hb
  obtain ⟨vsa, qa, ⟨Aa, ca, rfl, pa1, pa2, -⟩, -⟩ := ha
  obtain ⟨vsb, qb, ⟨Ab, cb, rfl, pb1, pb2, -⟩, -⟩ := hb
  rw [qa] at pa1 hA ⊢
  rw [qb] at pb1 hB ⊢
  have pa3 : ca ≤ 9223372036854775807 := by unfold maxLen at pa2; exact pa2
  have pb3 : cb ≤ 9223372036854775807 := by unfold maxLen at pb2; exact pb2
  clear qa qb pa2 pb2
  replace hA := hide hA
  replace hB := hide hB
  rcases Nat.lt_or_ge ra.length rb.length with hl | hl
  · have hne : ra ≠ rb := fun e => by rw [e] at hl; omega
    rw [decide_eq_false hne]
    go_enter Tryd.func15, Tryd.ntmps15
    go_wp2_with fail
    go_ret
    exact ⟨rfl, .refl _ _⟩
  rcases Nat.lt_or_ge rb.length ra.length with hl2 | hl2
  · have hne : ra ≠ rb := fun e => by rw [e] at hl2; omega
    rw [decide_eq_false hne]
    go_enter Tryd.func15, Tryd.ntmps15
    go_wp2_with fail
    go_ret
    exact ⟨rfl, .refl _ _⟩
  go_enter Tryd.func15, Tryd.ntmps15
  go_wp2_with fail
  go_loopw [5] (fun i' wr => ∃ k : Nat, k ≤ ra.length ∧ i' = .int .i64 k ∧ (∀ j : Nat, j < k → ra[j]? = rb[j]?) ∧ Upd (fun _ => False) w wr) (fun i' _ => ra.length - (intOf i').toNat)
  case atStart => exact ⟨0, Nat.zero_le _, rfl, fun j hj => by omega, .refl _ _⟩
  case round =>
    obtain ⟨k, hk, rfl, hpre, hU⟩ := hrel
    replace hpre := hide hpre
    rcases Nat.lt_or_ge k ra.length with hlt | hge
    · obtain ⟨ba, oa, ua, rfl, cca, hra⟩ := (hA.out.upd hU fun _ _ => id).at hlt
      obtain ⟨bb, ob, ub, rfl, ccb, hrb⟩ := (hB.out.upd hU fun _ _ => id).at (show k < rb.length by omega)
      replace hU := hide hU
      replace hra := hide hra
      replace hrb := hide hrb
      have hltb : k < rb.length := by omega
      by_cases heq : ra[k] = rb[k]
      · have hne : decide ((⟨ra[k].toArray⟩ : ByteArray) ≠ ⟨rb[k].toArray⟩) = false := by rw [heq]; simp
        replace heq := hide heq
        replace hne := hide hne
        go_wp2_with fail
        refine wp_region_flow (fun _ => False) (factAt [(fun v _ => v = (.slice (some ⟨ba, oa, none⟩) ra.length ca)), (fun v _ => v = (.int .i64 (k : Nat))), (fun v _ => v = (.pointer (some ⟨ba, oa + k, none⟩))), (fun v _ => v = ua), (fun v _ => v = (.string ⟨ra[k].toArray⟩)), (fun v _ => v = (.slice (some ⟨bb, ob, none⟩) rb.length cb)), (fun v _ => v = (.int .i64 (k : Nat))), (fun v _ => v = (.pointer (some ⟨bb, ob + k, none⟩))), (fun v _ => v = ub), (fun v _ => v = (.string ⟨rb[k].toArray⟩)), (fun v _ => v = (.bool false))]) [] (fun _ => True) (by kernel_rfl) (fkept_at ⟨FKept.eq _, FKept.eq _, FKept.eq _, FKept.eq _, FKept.eq _, FKept.eq _, FKept.eq _, FKept.eq _, FKept.eq _, FKept.eq _, FKept.eq _, trivial⟩) (fun _ _ h _ => h) trivial (by kernel_rfl) (by kernel_rfl) (by kernel_rfl) (by kernel_rfl) (Nat.le_of_ble_eq_true (by kernel_rfl)) ?_ ⟨?_, ?_, ?_, ?_, ?_, ?_, ?_, ?_, ?_, ?_, ?_, trivial⟩ ?_
        · first | exact trivial | assumption
        · intro T w Q hu hs hv hw hd
          have hx0 : T.getD 0 undef = (.slice (some ⟨ba, oa, none⟩) ra.length ca) := hv 0 (by kernel_rfl)
          refine .inl ⟨wanted_none rfl, ?_⟩
          clear hd hv hu hs hw
          go_simp
          exact ⟨_, rfl, DstOk.some rfl, Below.refl _ _, rfl⟩
        · intro T w Q hu hs hv hw hd
          have hx5 : T.getD 5 undef = (.int .i64 (k : Nat)) := hv 5 (by kernel_rfl)
          refine .inl ⟨wanted_none rfl, ?_⟩
          clear hd hv hu hs hw
          go_simp
          exact ⟨_, rfl, DstOk.some rfl, Below.refl _ _, rfl⟩
        · intro T w Q hu hs hv hw hd
          have hx17 : T.getD 17 undef = (.slice (some ⟨ba, oa, none⟩) ra.length ca) := Deps.at 0 hd (by kernel_rfl)
          have hx18 : T.getD 18 undef = (.int .i64 (k : Nat)) := Deps.at 1 hd (by kernel_rfl)
          refine .inl ⟨wanted_none rfl, ?_⟩
          clear hd hv hu hs hw
          go_simp
          exact ⟨_, rfl, DstOk.some rfl, Below.refl _ _, rfl⟩
        · intro T w Q hu hs hv hw hd
          have hx19 : T.getD 19 undef = (.pointer (some ⟨ba, oa + k, none⟩)) := Deps.at 2 hd (by kernel_rfl)
          refine .inl ⟨wanted_none rfl, ?_⟩
          have hq0 := hu.cell cca id
          clear hd hv hu hs hw
          go_simp
          exact ⟨_, rfl, DstOk.some rfl, Below.refl _ _, rfl⟩
        · intro T w Q hu hs hv hw hd
          have hx20 : T.getD 20 undef = ua := Deps.at 3 hd (by kernel_rfl)
          refine .inl ⟨wanted_none rfl, ?_⟩
          have hcv := (hra.out.upd hu fun _ _ => id).bytes.string (P := Tryd.prog) Tryd.underlying34 Tryd.underlying5 Tryd.underlying9
          clear hd hv hu hs hw
          go_simp
          exact ⟨_, rfl, DstOk.some rfl, Below.refl _ _, rfl⟩
        · intro T w Q hu hs hv hw hd
          have hx1 : T.getD 1 undef = (.slice (some ⟨bb, ob, none⟩) rb.length cb) := hv 1 (by kernel_rfl)
          refine .inl ⟨wanted_none rfl, ?_⟩
          clear hd hv hu hs hw
          go_simp
          exact ⟨_, rfl, DstOk.some rfl, Below.refl _ _, rfl⟩
        · intro T w Q hu hs hv hw hd
          have hx5 : T.getD 5 undef = (.int .i64 (k : Nat)) := hv 5 (by kernel_rfl)
          refine .inl ⟨wanted_none rfl, ?_⟩
          clear hd hv hu hs hw
          go_simp
          exact ⟨_, rfl, DstOk.some rfl, Below.refl _ _, rfl⟩
        · intro T w Q hu hs hv hw hd
          have hx22 : T.getD 22 undef = (.slice (some ⟨bb, ob, none⟩) rb.length cb) := Deps.at 5 hd (by kernel_rfl)
          have hx23 : T.getD 23 undef = (.int .i64 (k : Nat)) := Deps.at 6 hd (by kernel_rfl)
          refine .inl ⟨wanted_none rfl, ?_⟩
          clear hd hv hu hs hw
          go_simp
          exact ⟨_, rfl, DstOk.some rfl, Below.refl _ _, rfl⟩
        · intro T w Q hu hs hv hw hd
          have hx24 : T.getD 24 undef = (.pointer (some ⟨bb, ob + k, none⟩)) := Deps.at 7 hd (by kernel_rfl)
          refine .inl ⟨wanted_none rfl, ?_⟩
          have hq0 := hu.cell ccb id
          clear hd hv hu hs hw
          go_simp
          exact ⟨_, rfl, DstOk.some rfl, Below.refl _ _, rfl⟩
        · intro T w Q hu hs hv hw hd
          have hx25 : T.getD 25 undef = ub := Deps.at 8 hd (by kernel_rfl)
          refine .inl ⟨wanted_none rfl, ?_⟩
          have hcv := (hrb.out.upd hu fun _ _ => id).bytes.string (P := Tryd.prog) Tryd.underlying34 Tryd.underlying5 Tryd.underlying9
          clear hd hv hu hs hw
          go_simp
          exact ⟨_, rfl, DstOk.some rfl, Below.refl _ _, rfl⟩
        · intro T w Q hu hs hv hw hd
          have hx21 : T.getD 21 undef = (.string ⟨ra[k].toArray⟩) := Deps.at 4 hd (by kernel_rfl)
          have hx26 : T.getD 26 undef = (.string ⟨rb[k].toArray⟩) := Deps.at 9 hd (by kernel_rfl)
          refine .inl ⟨wanted_none rfl, ?_⟩
          clear hd hv hu hs hw
          go_simp
          exact ⟨_, rfl, DstOk.some rfl, Below.refl _ _, congrArg Value.bool (by rw [heq.out]; simp)⟩
        · intro T w hu hs hv hf hcur
          have hT : T = #[T.getD 0 undef, T.getD 1 undef, T.getD 2 undef, T.getD 3 undef, T.getD 4 undef, T.getD 5 undef, T.getD 6 undef, T.getD 7 undef, T.getD 8 undef, T.getD 9 undef, T.getD 10 undef, T.getD 11 undef, T.getD 12 undef, T.getD 13 undef, T.getD 14 undef, T.getD 15 undef, T.getD 16 undef, T.getD 17 undef, T.getD 18 undef, T.getD 19 undef, T.getD 20 undef, T.getD 21 undef, T.getD 22 undef, T.getD 23 undef, T.getD 24 undef, T.getD 25 undef, T.getD 26 undef, T.getD 27 undef] := expl hs
          rw [hT]
          clear hT
          rw [show T.getD 0 undef = (.slice (some ⟨ba, oa, none⟩) ra.length ca) from hv 0 (by kernel_rfl)]
          rw [show T.getD 1 undef = (.slice (some ⟨bb, ob, none⟩) rb.length cb) from hv 1 (by kernel_rfl)]
          rw [hv 2 (by kernel_rfl)]
          rw [hv 3 (by kernel_rfl)]
          rw [hv 4 (by kernel_rfl)]
          rw [show T.getD 5 undef = (.int .i64 (k : Nat)) from hv 5 (by kernel_rfl)]
          rw [hv 6 (by kernel_rfl)]
          rw [hv 7 (by kernel_rfl)]
          rw [hv 8 (by kernel_rfl)]
          rw [hv 9 (by kernel_rfl)]
          rw [hv 10 (by kernel_rfl)]
          rw [hv 11 (by kernel_rfl)]
          rw [hv 12 (by kernel_rfl)]
          rw [hv 13 (by kernel_rfl)]
          rw [hv 14 (by kernel_rfl)]
          rw [hv 15 (by kernel_rfl)]
          rw [hv 16 (by kernel_rfl)]
          rw [show T.getD 17 undef = (.slice (some ⟨ba, oa, none⟩) ra.length ca) from hf 0 (by decide)]
          rw [show T.getD 18 undef = (.int .i64 (k : Nat)) from hf 1 (by decide)]
          rw [show T.getD 19 undef = (.pointer (some ⟨ba, oa + k, none⟩)) from hf 2 (by decide)]
          rw [show T.getD 20 undef = ua from hf 3 (by decide)]
          rw [show T.getD 21 undef = (.string ⟨ra[k].toArray⟩) from hf 4 (by decide)]
          rw [show T.getD 22 undef = (.slice (some ⟨bb, ob, none⟩) rb.length cb) from hf 5 (by decide)]
          rw [show T.getD 23 undef = (.int .i64 (k : Nat)) from hf 6 (by decide)]
          rw [show T.getD 24 undef = (.pointer (some ⟨bb, ob + k, none⟩)) from hf 7 (by decide)]
          rw [show T.getD 25 undef = ub from hf 8 (by decide)]
          rw [show T.getD 26 undef = (.string ⟨rb[k].toArray⟩) from hf 9 (by decide)]
          rw [show T.getD 27 undef = (.bool false) from hf 10 (by decide)]
          clear hf hs hv hcur
          simp only [getD_toArray, List.getD_cons_succ, List.getD_cons_zero]
          clear T
          have hUw := hU.out.then hu
          replace hUw := hide hUw
          clear hu
          go_wp2_with fail
          go_roundw
          case rel => exact ⟨k + 1, hlt, by go_num, fun j hj => by
                          rcases Nat.lt_or_ge j k with h | h
                          · exact hpre.out j h
                          · obtain rfl : j = k := by omega
                            rw [List.getElem?_eq_getElem hlt, List.getElem?_eq_getElem (by omega), heq.out], hUw.out⟩
          case measure => simp [intOf]; omega
      · have hne : decide ((⟨ra[k].toArray⟩ : ByteArray) ≠ ⟨rb[k].toArray⟩) = true := by
          simp only [ne_eq, decide_eq_true_eq]
          intro h
          injection h with h
          exact heq (by simpa using h)
        have hneq := heq
        replace hneq := hide hneq
        replace hne := hide hne
        clear heq
        go_wp2_with fail
        refine wp_region_flow (fun _ => False) (factAt [(fun v _ => v = (.slice (some ⟨ba, oa, none⟩) ra.length ca)), (fun v _ => v = (.int .i64 (k : Nat))), (fun v _ => v = (.pointer (some ⟨ba, oa + k, none⟩))), (fun v _ => v = ua), (fun v _ => v = (.string ⟨ra[k].toArray⟩)), (fun v _ => v = (.slice (some ⟨bb, ob, none⟩) rb.length cb)), (fun v _ => v = (.int .i64 (k : Nat))), (fun v _ => v = (.pointer (some ⟨bb, ob + k, none⟩))), (fun v _ => v = ub), (fun v _ => v = (.string ⟨rb[k].toArray⟩)), (fun v _ => v = (.bool true))]) [] (fun _ => True) (by kernel_rfl) (fkept_at ⟨FKept.eq _, FKept.eq _, FKept.eq _, FKept.eq _, FKept.eq _, FKept.eq _, FKept.eq _, FKept.eq _, FKept.eq _, FKept.eq _, FKept.eq _, trivial⟩) (fun _ _ h _ => h) trivial (by kernel_rfl) (by kernel_rfl) (by kernel_rfl) (by kernel_rfl) (Nat.le_of_ble_eq_true (by kernel_rfl)) ?_ ⟨?_, ?_, ?_, ?_, ?_, ?_, ?_, ?_, ?_, ?_, ?_, trivial⟩ ?_
        · first | exact trivial | assumption
        · intro T w Q hu hs hv hw hd
          have hx0 : T.getD 0 undef = (.slice (some ⟨ba, oa, none⟩) ra.length ca) := hv 0 (by kernel_rfl)
          refine .inl ⟨wanted_none rfl, ?_⟩
          clear hd hv hu hs hw
          go_simp
          exact ⟨_, rfl, DstOk.some rfl, Below.refl _ _, rfl⟩
        · intro T w Q hu hs hv hw hd
          have hx5 : T.getD 5 undef = (.int .i64 (k : Nat)) := hv 5 (by kernel_rfl)
          refine .inl ⟨wanted_none rfl, ?_⟩
          clear hd hv hu hs hw
          go_simp
          exact ⟨_, rfl, DstOk.some rfl, Below.refl _ _, rfl⟩
        · intro T w Q hu hs hv hw hd
          have hx17 : T.getD 17 undef = (.slice (some ⟨ba, oa, none⟩) ra.length ca) := Deps.at 0 hd (by kernel_rfl)
          have hx18 : T.getD 18 undef = (.int .i64 (k : Nat)) := Deps.at 1 hd (by kernel_rfl)
          refine .inl ⟨wanted_none rfl, ?_⟩
          clear hd hv hu hs hw
          go_simp
          exact ⟨_, rfl, DstOk.some rfl, Below.refl _ _, rfl⟩
        · intro T w Q hu hs hv hw hd
          have hx19 : T.getD 19 undef = (.pointer (some ⟨ba, oa + k, none⟩)) := Deps.at 2 hd (by kernel_rfl)
          refine .inl ⟨wanted_none rfl, ?_⟩
          have hq0 := hu.cell cca id
          clear hd hv hu hs hw
          go_simp
          exact ⟨_, rfl, DstOk.some rfl, Below.refl _ _, rfl⟩
        · intro T w Q hu hs hv hw hd
          have hx20 : T.getD 20 undef = ua := Deps.at 3 hd (by kernel_rfl)
          refine .inl ⟨wanted_none rfl, ?_⟩
          have hcv := (hra.out.upd hu fun _ _ => id).bytes.string (P := Tryd.prog) Tryd.underlying34 Tryd.underlying5 Tryd.underlying9
          clear hd hv hu hs hw
          go_simp
          exact ⟨_, rfl, DstOk.some rfl, Below.refl _ _, rfl⟩
        · intro T w Q hu hs hv hw hd
          have hx1 : T.getD 1 undef = (.slice (some ⟨bb, ob, none⟩) rb.length cb) := hv 1 (by kernel_rfl)
          refine .inl ⟨wanted_none rfl, ?_⟩
          clear hd hv hu hs hw
          go_simp
          exact ⟨_, rfl, DstOk.some rfl, Below.refl _ _, rfl⟩
        · intro T w Q hu hs hv hw hd
          have hx5 : T.getD 5 undef = (.int .i64 (k : Nat)) := hv 5 (by kernel_rfl)
          refine .inl ⟨wanted_none rfl, ?_⟩
          clear hd hv hu hs hw
          go_simp
          exact ⟨_, rfl, DstOk.some rfl, Below.refl _ _, rfl⟩
        · intro T w Q hu hs hv hw hd
          have hx22 : T.getD 22 undef = (.slice (some ⟨bb, ob, none⟩) rb.length cb) := Deps.at 5 hd (by kernel_rfl)
          have hx23 : T.getD 23 undef = (.int .i64 (k : Nat)) := Deps.at 6 hd (by kernel_rfl)
          refine .inl ⟨wanted_none rfl, ?_⟩
          clear hd hv hu hs hw
          go_simp
          exact ⟨_, rfl, DstOk.some rfl, Below.refl _ _, rfl⟩
        · intro T w Q hu hs hv hw hd
          have hx24 : T.getD 24 undef = (.pointer (some ⟨bb, ob + k, none⟩)) := Deps.at 7 hd (by kernel_rfl)
          refine .inl ⟨wanted_none rfl, ?_⟩
          have hq0 := hu.cell ccb id
          clear hd hv hu hs hw
          go_simp
          exact ⟨_, rfl, DstOk.some rfl, Below.refl _ _, rfl⟩
        · intro T w Q hu hs hv hw hd
          have hx25 : T.getD 25 undef = ub := Deps.at 8 hd (by kernel_rfl)
          refine .inl ⟨wanted_none rfl, ?_⟩
          have hcv := (hrb.out.upd hu fun _ _ => id).bytes.string (P := Tryd.prog) Tryd.underlying34 Tryd.underlying5 Tryd.underlying9
          clear hd hv hu hs hw
          go_simp
          exact ⟨_, rfl, DstOk.some rfl, Below.refl _ _, rfl⟩
        · intro T w Q hu hs hv hw hd
          have hx21 : T.getD 21 undef = (.string ⟨ra[k].toArray⟩) := Deps.at 4 hd (by kernel_rfl)
          have hx26 : T.getD 26 undef = (.string ⟨rb[k].toArray⟩) := Deps.at 9 hd (by kernel_rfl)
          refine .inl ⟨wanted_none rfl, ?_⟩
          clear hd hv hu hs hw
          go_simp
          exact ⟨_, rfl, DstOk.some rfl, Below.refl _ _, congrArg Value.bool (by rw [beq_eq_false_iff_ne.2 hneq.out]; rfl)⟩
        · intro T w hu hs hv hf hcur
          have hT : T = #[T.getD 0 undef, T.getD 1 undef, T.getD 2 undef, T.getD 3 undef, T.getD 4 undef, T.getD 5 undef, T.getD 6 undef, T.getD 7 undef, T.getD 8 undef, T.getD 9 undef, T.getD 10 undef, T.getD 11 undef, T.getD 12 undef, T.getD 13 undef, T.getD 14 undef, T.getD 15 undef, T.getD 16 undef, T.getD 17 undef, T.getD 18 undef, T.getD 19 undef, T.getD 20 undef, T.getD 21 undef, T.getD 22 undef, T.getD 23 undef, T.getD 24 undef, T.getD 25 undef, T.getD 26 undef, T.getD 27 undef] := expl hs
          rw [hT]
          clear hT
          rw [show T.getD 0 undef = (.slice (some ⟨ba, oa, none⟩) ra.length ca) from hv 0 (by kernel_rfl)]
          rw [show T.getD 1 undef = (.slice (some ⟨bb, ob, none⟩) rb.length cb) from hv 1 (by kernel_rfl)]
          rw [hv 2 (by kernel_rfl)]
          rw [hv 3 (by kernel_rfl)]
          rw [hv 4 (by kernel_rfl)]
          rw [show T.getD 5 undef = (.int .i64 (k : Nat)) from hv 5 (by kernel_rfl)]
          rw [hv 6 (by kernel_rfl)]
          rw [hv 7 (by kernel_rfl)]
          rw [hv 8 (by kernel_rfl)]
          rw [hv 9 (by kernel_rfl)]
          rw [hv 10 (by kernel_rfl)]
          rw [hv 11 (by kernel_rfl)]
          rw [hv 12 (by kernel_rfl)]
          rw [hv 13 (by kernel_rfl)]
          rw [hv 14 (by kernel_rfl)]
          rw [hv 15 (by kernel_rfl)]
          rw [hv 16 (by kernel_rfl)]
          rw [show T.getD 17 undef = (.slice (some ⟨ba, oa, none⟩) ra.length ca) from hf 0 (by decide)]
          rw [show T.getD 18 undef = (.int .i64 (k : Nat)) from hf 1 (by decide)]
          rw [show T.getD 19 undef = (.pointer (some ⟨ba, oa + k, none⟩)) from hf 2 (by decide)]
          rw [show T.getD 20 undef = ua from hf 3 (by decide)]
          rw [show T.getD 21 undef = (.string ⟨ra[k].toArray⟩) from hf 4 (by decide)]
          rw [show T.getD 22 undef = (.slice (some ⟨bb, ob, none⟩) rb.length cb) from hf 5 (by decide)]
          rw [show T.getD 23 undef = (.int .i64 (k : Nat)) from hf 6 (by decide)]
          rw [show T.getD 24 undef = (.pointer (some ⟨bb, ob + k, none⟩)) from hf 7 (by decide)]
          rw [show T.getD 25 undef = ub from hf 8 (by decide)]
          rw [show T.getD 26 undef = (.string ⟨rb[k].toArray⟩) from hf 9 (by decide)]
          rw [show T.getD 27 undef = (.bool true) from hf 10 (by decide)]
          clear hf hs hv hcur
          simp only [getD_toArray, List.getD_cons_succ, List.getD_cons_zero]
          clear T
          have hUw := hU.out.then hu
          replace hUw := hide hUw
          clear hu
          go_wp2_with fail
          go_ret
          exact ⟨by rw [decide_eq_false fun h => hneq.out (by subst h; rfl)]; exact rfl, hUw.out.below (Nat.le_refl _) fun _ h => h.elim⟩
    · obtain rfl : k = ra.length := by omega
      clear hge
      replace hU := hide hU
      go_wp2_with fail
      go_ret
      refine ⟨?_, hU.out.below (Nat.le_refl _) fun _ h => h.elim⟩
      have : ra = rb := by
        refine List.ext_getElem? fun j => ?_
        rcases Nat.lt_or_ge j ra.length with h | h
        · exact hpre.out j h
        · rw [List.getElem?_eq_none h, List.getElem?_eq_none (by omega)]
      rw [decide_eq_true this]
      rfl
end Go.Proofs.YtimblkkojcbipaaDoor
/- The laws' helper size: how long records are. -/
namespace Go.Proofs.YtimblkkojcbipaaDoor
open Go Go.RowKit
def sizeN (rs : List (List UInt8)) : Nat := (rs.map fun r => r.length + 16).sum
theorem sizeN_take (rs : List (List UInt8)) (k : Nat) (h : k < rs.length) : sizeN (rs.take (k + 1)) = sizeN (rs.take k) + (rs[k].length + 16) := by
  unfold sizeN
  rw [List.take_succ_eq_append_getElem h, List.map_append, List.sum_append]
  simp
theorem sizeN_le (rs : List (List UInt8)) (k : Nat) : sizeN (rs.take k) ≤ sizeN rs := by
  conv => rhs; rw [← List.take_append_drop k rs]
  unfold sizeN
  rw [List.map_append, List.sum_append]
  omega
set_option maxRecDepth 100000 in
set_option maxHeartbeats 1000000 in
theorem size_of_any {w : World} {S : Nat → Prop} {v : Value} {rs : List (List UInt8)} (h : RecsW w S v rs) (hs : sizeN rs ≤ 4294967296) :
    Calls Tryd.prog 17 #[v] w fun e w' => e = .returned (.int .i64 (sizeN rs : Nat)) ∧ w = w' := by
  have hA := h
  obtain ⟨vsa, qa, ⟨Aa, ca, rfl, pa1, pa2, -⟩, -⟩ := h
  rw [qa] at pa1 hA ⊢
  have pa3 : ca ≤ 9223372036854775807 := by unfold maxLen at pa2; exact pa2
  clear qa pa2
  have hle := sizeN_le rs
  have htk := sizeN_take rs
  replace hA := hide hA
  replace hle := hide hle
  replace htk := hide htk
  go_enter Tryd.func17, Tryd.ntmps17
  go_wp2_with fail
  go_loopw [3, 4] (fun z i' wr => ∃ k : Nat, k ≤ rs.length ∧ i' = .int .i64 k ∧ z = .int .i64 (sizeN (rs.take k) : Nat) ∧ wr = w) (fun _ i' _ => rs.length - (intOf i').toNat)
  case atStart => exact ⟨0, Nat.zero_le _, rfl, by simp [sizeN], rfl⟩
  case round =>
    obtain ⟨k, hk, rfl, rfl, hwr⟩ := hrel
    obtain rfl : w = wr := hwr.symm
    rcases Nat.lt_or_ge k rs.length with hlt | hge
    · obtain ⟨b, o, u, rfl, hc, hu⟩ := hA.out.at hlt
      obtain ⟨A2, c2, rfl, -⟩ := hu
      have h1 := hle.out (k + 1)
      have h2 := htk.out k hlt
      rw [bv_len] at hc
      rw [h2] at h1
      obtain ⟨n, hn⟩ : ∃ n, n = sizeN (rs.take k) := ⟨_, rfl⟩
      obtain ⟨m, hm⟩ : ∃ m, m = rs[k].length := ⟨_, rfl⟩
      rw [← hn, ← hm] at h1
      rw [← hm] at hc
      rw [← hn]
      replace hn := hide hn
      replace hm := hide hm
      replace h2 := hide h2
      go_wp2_with fail
      go_roundw
      case rel =>
        refine ⟨k + 1, hlt, by go_num, ?_, by simp⟩
        rw [h2.out, ← hn.out, ← hm.out]
        go_num
      case measure => simp [intOf]; omega
    · obtain rfl : k = rs.length := by omega
      clear hge
      go_wp2_with fail
      go_ret
      exact ⟨rfl, rfl⟩
end Go.Proofs.YtimblkkojcbipaaDoor
/- The laws' helper Place: a number brought below another. -/
namespace Go.Proofs.YtimblkkojcbipaaDoor
open Go Go.RowKit
set_option maxRecDepth 100000 in
theorem place_any (w : World) (a n : Nat) (ha : a ≤ 4294967296) (hn : 1 ≤ n) (hn2 : n ≤ 4294967296) :
    Calls Tryd.prog 23 #[.int .i64 a, .int .i64 n] w fun e w' => e = .returned (.int .i64 (a % n : Nat)) ∧ w = w' := by
  have hz : ¬ n = 0 := by omega
  obtain ⟨m, hm⟩ : ∃ m, m = a % n := ⟨_, rfl⟩
  have hrem : (a : Int) % (n : Int) = (m : Int) := by rw [← Int.natCast_emod, ← hm]
  have hml : m < n := by rw [hm]; exact Nat.mod_lt _ (by omega)
  rw [← hm]
  replace hm := hide hm
  go_enter Tryd.func23, Tryd.ntmps23
  go_wp2_with fail
  simp only [hrem]
  go_wp2_with fail
  go_ret
  exact ⟨rfl, rfl⟩
end Go.Proofs.YtimblkkojcbipaaDoor
/- Records of the call's own, as records that come in. -/
namespace Go.Proofs.YtimblkkojcbipaaDoor
open Go Go.RowKit
theorem own_arg {w : World} {B n : Nat} {e : TypeId} {v : Value} {xs : List Value} (h : w.ownsRow B e 1 v n xs) : ArgV w (fun k => B ≤ k ∧ k < w.heap.size) v xs := by
  have hl : xs.length = n := by have := h.1; omega
  rcases h.2 with ⟨rfl, h0⟩ | ⟨g, cap, cur, rfl, hb, hg, h1, h2, h3, h4⟩
  · obtain rfl : xs = [] := List.eq_nil_of_length_eq_zero (by omega)
    exact ⟨none, 0, rfl, Nat.le_refl _, Nat.zero_le _, .inl rfl⟩
  · refine ⟨_, cap, by rw [hl], by rw [hl]; exact h1, h2, .inr ⟨g, 0, rfl, ⟨hb, (Array.getElem?_eq_some_iff.1 hg).1⟩, fun i u hi => ?_⟩⟩
    have := h.cells (g := g) rfl i u hi
    rwa [Go.WideShapes.add_plain] at this
theorem ArgV.wide {w : World} {S S' : Nat → Prop} {v : Value} {xs : List Value} (h : ArgV w S v xs) (hS : ∀ k, S k → S' k) : ArgV w S' v xs := h.mono fun k _ hk => hS k hk
theorem BatV.recsV {w : World} {B : Nat} {v : Value} {rs : List (List UInt8)} (h : BatV w B v rs) : RecsV w (fun k => B ≤ k ∧ k < w.heap.size) v rs := by
  obtain ⟨vs, R, h1, h2, h4⟩ := h
  exact ⟨vs, by have := h1.1; omega, own_arg h1, fun i u r hi hr => ⟨(h2 i u r hi hr).1.wide fun k hk => ⟨(h4 k hk).1, (h4 k hk).2.1⟩, (h2 i u r hi hr).2⟩⟩
theorem RecsV.recsW {w : World} {S : Nat → Prop} {v : Value} {rs : List (List UInt8)} (h : RecsV w S v rs) : RecsW w S v rs := by
  obtain ⟨vs, h1, h2, h3⟩ := h
  exact ⟨vs, h1, h2, fun i u r hi hr => (h3 i u r hi hr).1⟩
theorem RecsO.recsW {w : World} {B : Nat} {v : Value} {rs : List (List UInt8)} (h : RecsO w B v rs) : RecsW w (fun k => B ≤ k ∧ k < w.heap.size) v rs := by
  obtain ⟨vs, R, h1, h2, _, h4⟩ := h
  exact ⟨vs, by have := h1.1; omega, own_arg h1, fun i u r hi hr => (h2 i u r hi hr).wide fun k hk => ⟨(h4 k hk).1, (h4 k hk).2.1⟩⟩
theorem batch_each (i : Nat) (ls : List UInt8) : ∀ r ∈ batchL i ls ls.length, r.length ≤ 255 := by
  intro r hr
  unfold batchL at hr
  rw [List.mem_map] at hr
  obtain ⟨t, _, rfl⟩ := hr
  rw [rowL_len]
  have := (ls.getD t 0).toNat_lt
  omega
theorem frames_le_of {rs : List (List UInt8)} {m : Nat} (h : ∀ r ∈ rs, r.length ≤ m) : (frames rs).length ≤ rs.length * (m + 8) := by
  induction rs with
  | nil => simp [frames]
  | cons r rs ih =>
    rw [frames_cons, List.length_append, frame_len, List.length_cons, Nat.succ_mul]
    have := ih fun x hx => h x (by simp [hx])
    have := h r (by simp)
    omega
theorem any_tooL {rs : List (List UInt8)} {m : Nat} (h : ∀ r ∈ rs, r.length ≤ m) (hm : m ≤ 1048576) : rs.any tooL = false := by
  rw [List.any_eq_false]
  intro r hr
  unfold tooL
  have := h r hr
  simp
  omega
/-- Commit, where it fits and the power is not cut. -/
theorem commit_on {W : World} {lb sb live : Nat} {x : Ext} {S : Nat → Prop} {D : DS} {rs0 rs : List (List UInt8)} {T : Nat → Prop} {rv : Value} (hL : LogV W lb sb live x) (hD : DiskV W sb S D) (hon : D.on) (hH : Holds D live x rs0) (hlb : ¬ S lb) (hT : Tab W) (hS0 : ¬ S 0) (hl0 : 0 < lb)
    (hr : RecsV W T rv rs) (hTd : ∀ k, T k → ¬ S k ∧ k ≠ lb) (hrl : rs.length ≤ 2147483648) (heach : ∀ r ∈ rs, r.length ≤ 1048576) (hfit : x.bytes + (frames rs).length ≤ capN D) :
    Calls Tryd.prog 18 #[.pointer (some ⟨lb, 0, none⟩), rv] W fun e w' => e = .returned (.int .i64 0) ∧ ∃ S', DiskV w' sb S' (D.put live x rs) ∧ LogV w' lb sb (1 - live) (x.plus rs) ∧ (D.put live x rs).on ∧ Holds (D.put live x rs) (1 - live) (x.plus rs) (rs0 ++ rs) ∧ Mv W (fun k => S k ∨ k = lb) w' (fun k => S' k ∨ k = lb) ∧ ¬ S' lb := by
  have hpon := hon.put live x rs
  have hcap := hH.fine.cap
  have hcl := count_le rs0
  have hb := hH.lies.bytes
  have hf := hH.lies.fit
  have hrc := hH.lies.recs
  refine commit_of hL ((put_any hL hD hon.1 hlb hT hS0 hl0 hH.fine.n1.1 hH.one hH.mark16 x hH.lies.area (by omega) hr hTd hrl (any_tooL heach (Nat.le_refl _)) hfit).mono (R' := fun e w' => e = .returned (.int .i64 0) ∧ ∃ S', DiskV w' sb S' (D.put live x rs) ∧ LogV w' lb sb (1 - live) (x.plus rs) ∧ (D.put live x rs).on ∧ Holds (D.put live x rs) (1 - live) (x.plus rs) (rs0 ++ rs) ∧ Mv W (fun k => S k ∨ k = lb) w' (fun k => S' k ∨ k = lb) ∧ ¬ S' lb) ?_) ?_
  · rintro e w' ⟨S', rfl, hD', hL', hM⟩
    rw [hpon.1] at hL'
    have he : errOf (D.put live x rs) = 0 := by unfold errOf; rw [hpon.1]; rfl
    exact ⟨by rw [he], S', hD', hL', hpon, put_holds hH.fine hH.lies heach hfit hpon.1, hM⟩
  · rintro e w' ⟨rfl, _⟩
    exact ⟨_, rfl⟩
end Go.Proofs.YtimblkkojcbipaaDoor
/- Reset and Open, where the power is not cut. -/
namespace Go.Proofs.YtimblkkojcbipaaDoor
open Go Go.RowKit
theorem reset_on {W : World} {lb sb live : Nat} {x : Ext} {S : Nat → Prop} {D : DS} {rs0 rs : List (List UInt8)} {T : Nat → Prop} {rv : Value} (hL : LogV W lb sb live x) (hD : DiskV W sb S D) (hon : D.on) (hH : Holds D live x rs0) (hlb : ¬ S lb) (hT : Tab W) (hS0 : ¬ S 0) (hl0 : 0 < lb)
    (hr : RecsV W T rv rs) (hTd : ∀ k, T k → ¬ S k ∧ k ≠ lb) (hrl : rs.length ≤ 2147483648) (heach : ∀ r ∈ rs, r.length ≤ 1048576) (hfit : (frames rs).length ≤ capN D) :
    Calls Tryd.prog 16 #[.pointer (some ⟨lb, 0, none⟩), rv] W fun e w' => e = .returned (.int .i64 0) ∧ ∃ S' D', DiskV w' sb S' D' ∧ LogV w' lb sb (1 - live) (Ext.plus ⟨1 - x.area, 0, 0⟩ rs) ∧ D'.on ∧ D'.n = D.n ∧ D'.size = D.size ∧ Holds D' (1 - live) (Ext.plus ⟨1 - x.area, 0, 0⟩ rs) rs ∧ Mv W (fun k => S k ∨ k = lb) w' (fun k => S' k ∨ k = lb) ∧ ¬ S' lb := by
  have hpon := hon.put live ⟨1 - x.area, 0, 0⟩ rs
  refine reset_of hL hH.lies.area ((put_any hL hD hon.1 hlb hT hS0 hl0 hH.fine.n1.1 hH.one hH.mark16 ⟨1 - x.area, 0, 0⟩ (Nat.sub_le _ _) (by simp) hr hTd hrl (any_tooL heach (Nat.le_refl _)) (by simpa using hfit)).mono ?_) ?_
  · rintro e w' ⟨S', rfl, hD', hL', hM⟩
    rw [hpon.1] at hL'
    have he : errOf (D.put live ⟨1 - x.area, 0, 0⟩ rs) = 0 := by unfold errOf; rw [hpon.1]; rfl
    refine ⟨by rw [he], S', _, hD', hL', hpon, put_n _ _ _ _, put_size _ _ _ _, ?_, hM⟩
    have := put_holds (rs0 := []) hH.fine (lies_nil (Nat.sub_le 1 x.area)) heach (by simpa using hfit) hpon.1
    simpa using this
  · rintro e w' ⟨rfl, _⟩
    exact ⟨_, rfl⟩
/-- Open, of a disk that holds a log, or none. -/
theorem open_on {W : World} {sb : Nat} {S : Nat → Prop} {D : DS} {live : Nat} {x : Ext} {rs : List (List UInt8)} (hD : DiskV W sb S D) (hon : D.on) (hf : Fine D) (hT : Tab W) (hS0 : ¬ S 0) (h0 : 0 < W.heap.size)
    (hH : Holds D live x rs ∨ (findP D = none ∧ live = 0 ∧ x = ⟨0, 0, 0⟩ ∧ rs = [])) :
    Calls Tryd.prog 12 #[.pointer (some ⟨sb, 0, none⟩)] W fun e w' => ∃ lb v S', e = .returned (.tuple #[.pointer (some ⟨lb, 0, none⟩), v, .int .i64 0]) ∧ DiskV w' sb S' D.opened ∧ D.opened.on ∧ Holds D.opened live x rs ∧ W.heap.size ≤ lb ∧ ¬ S' lb ∧ LogV w' lb sb live x ∧ RecsO w' W.heap.size v rs ∧ (∀ k, Own v k → k ≠ lb) ∧ Mv W S w' S' := by
  have hoon := hon.opened
  have hox : openX D = (live, x, rs) ∧ Holds D.opened live x rs := by
    rcases hH with h | ⟨h, rfl, rfl, rfl⟩
    · exact opened_some h hoon.1
    · exact opened_none hf h hoon.1
  refine (open_any hD hon.1 hT hS0 h0 hf.n1.1 hf.s1.1).mono ?_
  rintro e w' ⟨S', hD', hM, h | ⟨-, lb, v, he, h1, h2, h3, h4, h5⟩⟩
  · rw [hoon.1] at h
    cases h.1
  · rw [hox.1] at h3 h4
    exact ⟨lb, v, S', he, hD', hoon, hox.2, h1, h2, h3, h4, h5, hM⟩
end Go.Proofs.YtimblkkojcbipaaDoor
/- A log on a disk, as the laws hold it: made, opened, committed to, reset. -/
namespace Go.Proofs.YtimblkkojcbipaaDoor
open Go Go.RowKit
/-- The log at lb, on the disk at sb, whose blocks all lie from B on. -/
structure LgS (w : World) (B sb lb : Nat) (S : Nat → Prop) (D : DS) (live : Nat) (x : Ext) (rs : List (List UInt8)) : Prop where
  disk : DiskV w sb S D
  log : LogV w lb sb live x
  on : D.on
  holds : Holds D live x rs
  own : ∀ k, S k → B ≤ k
  low : B ≤ lb
  nlb : ¬ S lb
/-- A disk of n sectors of 256 bytes that holds the records rs, or none and nothing at all. -/
def DkC (n : Nat) (w : World) (B sb : Nat) (S : Nat → Prop) (rs : List (List UInt8)) : Prop :=
  ∃ D live x, DiskV w sb S D ∧ D.on ∧ Fine D ∧ D.n = n ∧ D.size = 256 ∧ (Holds D live x rs ∨ (findP D = none ∧ live = 0 ∧ x = ⟨0, 0, 0⟩ ∧ rs = [])) ∧ ∀ k, S k → B ≤ k
def LgC (n : Nat) (w : World) (B sb lb : Nat) (S : Nat → Prop) (rs : List (List UInt8)) : Prop := ∃ D live x, LgS w B sb lb S D live x rs ∧ D.n = n ∧ D.size = 256
def OL (S : Nat → Prop) (lb : Nat) : Nat → Prop := fun k => S k ∨ k = lb
section
variable {n B sb lb : Nat} {S : Nat → Prop} {rs : List (List UInt8)} {w w' W : World}
theorem LgC.dk (h : LgC n w B sb lb S rs) : DkC n w B sb S rs := by
  obtain ⟨D, live, x, h, h1, h2⟩ := h
  exact ⟨D, live, x, h.disk, h.on, h.holds.fine, h1, h2, .inl h.holds, h.own⟩
theorem LgC.upd {F : Nat → Prop} (h : LgC n w B sb lb S rs) (hu : Upd F w w') (hF : ∀ k, OL S lb k → ¬ F k) : LgC n w' B sb lb S rs := by
  obtain ⟨D, live, x, h, h1⟩ := h
  exact ⟨D, live, x, ⟨h.disk.upd hu fun k hk => hF k (.inl hk), hu.heap h.log (hF _ (.inr rfl)), h.on, h.holds, h.own, h.low, h.nlb⟩, h1⟩
theorem DkC.upd {F : Nat → Prop} (h : DkC n w B sb S rs) (hu : Upd F w w') (hF : ∀ k, S k → ¬ F k) : DkC n w' B sb S rs := by
  obtain ⟨D, live, x, h, h1⟩ := h
  exact ⟨D, live, x, h.upd hu hF, h1⟩
theorem LgC.ge (h : LgC n w B sb lb S rs) {k : Nat} (hk : OL S lb k) : B ≤ k := by
  obtain ⟨D, live, x, h, h1⟩ := h
  rcases hk with hk | rfl
  · exact h.own k hk
  · exact h.low
theorem LgC.old (h : LgC n w B sb lb S rs) {k : Nat} (hk : OL S lb k) : k < w.heap.size := by
  obtain ⟨D, live, x, h, h1⟩ := h
  rcases hk with hk | rfl
  · exact h.disk.old k hk
  · exact (Array.getElem?_eq_some_iff.1 h.log).1
theorem DkC.ge (h : DkC n w B sb S rs) {k : Nat} (hk : S k) : B ≤ k := by
  obtain ⟨D, live, x, h, _, _, _, _, _, h1⟩ := h
  exact h1 k hk
theorem DkC.old (h : DkC n w B sb S rs) {k : Nat} (hk : S k) : k < w.heap.size := by
  obtain ⟨D, live, x, h, h1⟩ := h
  exact h.old k hk
theorem DkC.n1 (h : DkC n w B sb S rs) : 16 ≤ n ∧ n ≤ 4096 := by
  obtain ⟨D, live, x, h, _, h2, h3, _⟩ := h
  exact ⟨by have := h2.n1.1; omega, by have := h2.n1.2; omega⟩
/-- A new disk. -/
theorem new_dk (w : World) (n : Nat) (h1 : 16 ≤ n) (h2 : n ≤ 4096) :
    Calls Tryd.prog 11 #[.int .i64 n, .int .i64 256] w fun e w' => ∃ sb S, e = .returned (.pointer (some ⟨sb, 0, none⟩)) ∧ DkC n w' w.heap.size sb S [] ∧ Below w.heap.size w w' := by
  refine (new_any w n 256 (by omega) h2 (by decide) (by decide)).mono ?_
  rintro e w' ⟨sb, S, he, hD, hS, hb⟩
  exact ⟨sb, S, he, ⟨DS.new n 256, 0, ⟨0, 0, 0⟩, hD, new_on _ _, new_fine ⟨h1, h2⟩ (by decide), rfl, rfl, .inr ⟨new_none, rfl, rfl, rfl⟩, hS⟩, hb⟩
theorem opened_n (D : DS) : D.opened.n = D.n := by
  unfold DS.opened
  split
  · exact DS.flush_n _
  · rw [DS.flush_n, format_n]
theorem opened_size (D : DS) : D.opened.size = D.size := by
  unfold DS.opened
  split
  · exact DS.flush_size _
  · rw [DS.flush_size, format_size]
/-- It is opened. -/
theorem open_dk (h : DkC n W B sb S rs) (hB : 1 ≤ B) (hBz : B ≤ W.heap.size) (hT : Tab W) :
    Calls Tryd.prog 12 #[.pointer (some ⟨sb, 0, none⟩)] W fun e w' => ∃ lb v S', e = .returned (.tuple #[.pointer (some ⟨lb, 0, none⟩), v, .int .i64 0]) ∧ LgC n w' B sb lb S' rs ∧ RecsO w' W.heap.size v rs ∧ (∀ k, Own v k → k ≠ lb) ∧ W.heap.size ≤ lb ∧ Mv W S w' S' := by
  obtain ⟨D, live, x, hD, hon, hf, hn, hs, hH, hS⟩ := h
  refine (open_on hD hon hf hT (fun h => by have := hS 0 h; omega) (by omega) hH).mono ?_
  rintro e w' ⟨lb, v, S', he, h1, h2, h3, h4, h5, h6, h7, h8, h9⟩
  refine ⟨lb, v, S', he, ⟨_, live, x, ⟨h1, h6, h2, h3, fun k hk => ?_, by omega, h5⟩, by rw [opened_n, hn], by rw [opened_size, hs]⟩, h7, h8, h4, h9⟩
  rcases h9.2 k hk with h | h
  · exact hS k h
  · omega
def capC (n : Nat) : Nat := ((n - 3) / 2) * 256
theorem cap_of {D : DS} (hn : D.n = n) (hs : D.size = 256) : capN D = capC n := by unfold capN areaN capC; rw [hn, hs]
/-- Records are added. -/
theorem commit_lg {T : Nat → Prop} {rv : Value} {rs' : List (List UInt8)} (h : LgC n W B sb lb S rs) (hB : 1 ≤ B) (hT : Tab W) (hr : RecsV W T rv rs') (hTd : ∀ k, T k → ¬ OL S lb k) (hrl : rs'.length ≤ 2147483648) (heach : ∀ r ∈ rs', r.length ≤ 1048576)
    (hfit : (frames rs).length + (frames rs').length ≤ capC n) :
    Calls Tryd.prog 18 #[.pointer (some ⟨lb, 0, none⟩), rv] W fun e w' => e = .returned (.int .i64 0) ∧ ∃ S', LgC n w' B sb lb S' (rs ++ rs') ∧ Mv W (OL S lb) w' (OL S' lb) := by
  obtain ⟨D, live, x, h, hn, hs⟩ := h
  have hlb := h.low
  refine (commit_on h.log h.disk h.on h.holds h.nlb hT (fun hk => by have := h.own 0 hk; omega) (by omega) hr (fun k hk => ⟨fun hk' => hTd k hk (.inl hk'), fun e => hTd k hk (.inr e)⟩) hrl heach (by rw [h.holds.lies.bytes, cap_of hn hs]; exact hfit)).mono ?_
  rintro e w' ⟨he, S', h1, h2, h3, h4, h5, h6⟩
  refine ⟨he, S', ⟨_, _, _, ⟨h1, h2, h3, h4, fun k hk => ?_, hlb, fun hk => ?_⟩, by rw [put_n, hn], by rw [put_size, hs]⟩, h5⟩
  · rcases h5.2 k (.inl hk) with (hk | rfl) | hk
    · exact h.own k hk
    · exact hlb
    · have := h.disk.old
      have h7 := (Array.getElem?_eq_some_iff.1 h.log).1
      omega
  · exact h6 hk
end
end Go.Proofs.YtimblkkojcbipaaDoor
/- Reset, Room, Count of a log as the laws hold it; what is refused. -/
namespace Go.Proofs.YtimblkkojcbipaaDoor
open Go Go.RowKit
section
variable {n B sb lb : Nat} {S : Nat → Prop} {rs : List (List UInt8)} {w w' W : World}
/-- Records are replaced. -/
theorem reset_lg {T : Nat → Prop} {rv : Value} {rs' : List (List UInt8)} (h : LgC n W B sb lb S rs) (hB : 1 ≤ B) (hT : Tab W) (hr : RecsV W T rv rs') (hTd : ∀ k, T k → ¬ OL S lb k) (hrl : rs'.length ≤ 2147483648) (heach : ∀ r ∈ rs', r.length ≤ 1048576)
    (hfit : (frames rs').length ≤ capC n) :
    Calls Tryd.prog 16 #[.pointer (some ⟨lb, 0, none⟩), rv] W fun e w' => e = .returned (.int .i64 0) ∧ ∃ S', LgC n w' B sb lb S' rs' ∧ Mv W (OL S lb) w' (OL S' lb) := by
  obtain ⟨D, live, x, h, hn, hs⟩ := h
  have hlb := h.low
  refine (reset_on h.log h.disk h.on h.holds h.nlb hT (fun hk => by have := h.own 0 hk; omega) (by omega) hr (fun k hk => ⟨fun hk' => hTd k hk (.inl hk'), fun e => hTd k hk (.inr e)⟩) hrl heach (by rw [cap_of hn hs]; exact hfit)).mono ?_
  rintro e w' ⟨he, S', D', h1, h2, h3, e1, e2, h4, h5, h6⟩
  refine ⟨he, S', ⟨_, _, _, ⟨h1, h2, h3, h4, fun k hk => ?_, hlb, fun hk => ?_⟩, by rw [e1, hn], by rw [e2, hs]⟩, h5⟩
  · rcases h5.2 k (.inl hk) with (hk | rfl) | hk
    · exact h.own k hk
    · exact hlb
    · have := h.disk.old
      have h7 := (Array.getElem?_eq_some_iff.1 h.log).1
      omega
  · exact h6 hk
theorem room_lg (h : LgC n W B sb lb S rs) : Calls Tryd.prog 13 #[.pointer (some ⟨lb, 0, none⟩)] W fun e w' => e = .returned (.int .i64 (capC n - (frames rs).length : Nat)) ∧ Below W.heap.size W w' := by
  obtain ⟨D, live, x, h, hn, hs⟩ := h
  have := room_any h.log h.disk h.holds.fine.n1.1 h.holds.lies.fit
  rw [h.holds.lies.bytes, cap_of hn hs] at this
  exact this
theorem count_lg (h : LgC n W B sb lb S rs) : Calls Tryd.prog 19 #[.pointer (some ⟨lb, 0, none⟩)] W fun e w' => e = .returned (.int .i64 rs.length) ∧ W = w' := by
  obtain ⟨D, live, x, h, hn, hs⟩ := h
  have := count_any h.log
  rw [h.holds.lies.recs] at this
  exact this
theorem LgC.fit (h : LgC n W B sb lb S rs) : (frames rs).length ≤ capC n := by
  obtain ⟨D, live, x, h, hn, hs⟩ := h
  rw [← h.holds.lies.bytes, ← cap_of hn hs]
  exact h.holds.lies.fit
theorem LgC.each (h : LgC n W B sb lb S rs) : ∀ r ∈ rs, r.length ≤ 1048576 := by
  obtain ⟨D, live, x, h, hn, hs⟩ := h
  exact h.holds.lies.each
/-- There is some log at lb. -/
def LogA (w : World) (lb : Nat) : Prop := ∃ sb live x, LogV w lb sb live x
theorem LgC.any (h : LgC n W B sb lb S rs) : LogA W lb := by
  obtain ⟨D, live, x, h, _⟩ := h
  exact ⟨_, _, _, h.log⟩
theorem LgC.nlb (h : LgC n W B sb lb S rs) : ¬ S lb := by
  obtain ⟨D, live, x, h, _⟩ := h
  exact h.nlb
theorem LogA.upd {F : Nat → Prop} (h : LogA w lb) (hu : Upd F w w') (hF : ¬ F lb) : LogA w' lb := by
  obtain ⟨sb, live, x, h⟩ := h
  exact ⟨sb, live, x, hu.heap h hF⟩
/-- A record that is too long. -/
theorem long_lg {T : Nat → Prop} {rv : Value} {rs' : List (List UInt8)} (h : LogA W lb) (hr : RecsV W T rv rs') (hany : rs'.any tooL = true) :
    Calls Tryd.prog 18 #[.pointer (some ⟨lb, 0, none⟩), rv] W fun e w' => e = .returned (.int .i64 42) ∧ Below W.heap.size W w' := by
  obtain ⟨sb, live, x, h⟩ := h
  refine commit_of h (put_long lb x hr hany) ?_
  rintro e w' ⟨rfl, _⟩
  exact ⟨_, rfl⟩
set_option maxRecDepth 100000 in
/-- A disk of few sectors. -/
theorem open_small {D : DS} (h : DiskV W sb S D) (hn : D.n < 16) :
    Calls Tryd.prog 12 #[.pointer (some ⟨sb, 0, none⟩)] W fun e w' => e = .returned (.tuple #[.pointer none, .slice none 0 0, .int .i64 41]) ∧ Below W.heap.size W w' := by
  have hsec := sectorsV h
  have hn1 := h.n1
  replace h := hide h
  go_enter Tryd.func12, Tryd.ntmps12
  go_wp2_with fail
  refine hsec.mono ?_
  rintro e w' ⟨rfl, rfl⟩
  go_wp2_with fail
  refine bodyPost_ret (v := .tuple #[.pointer none, .slice none 0 0, .int .i64 41]) (by simp [results, Tryd.results12, go_sem]) rfl ?_
  exact ⟨rfl, Below.refl _ _⟩
end
theorem RecsO.slice {w : World} {B : Nat} {v : Value} {rs : List (List UInt8)} (h : RecsO w B v rs) : ∃ A c, v = .slice A rs.length c ∧ c ≤ maxLen := by
  obtain ⟨vs, R, h1, _⟩ := h
  rcases h1.2 with ⟨rfl, h0⟩ | ⟨g, cap, cur, rfl, hb, hg, h1, h2, _⟩
  · rw [h0]; exact ⟨_, _, rfl, Nat.zero_le _⟩
  · exact ⟨_, _, rfl, h2⟩
section
variable {w : World}
/-- Two records that have just been laid out. -/
theorem RecsV.at2 {T : Nat → Prop} {g : Nat} {u v : Value} {r s : List UInt8} (c0 : w.cell? ⟨g, 0, none⟩ = some u) (c1 : w.cell? ⟨g, 1, none⟩ = some v) (hg : T g) (hu : ArgV w T u (bv r)) (hv : ArgV w T v (bv s)) (nu : NonNil u) (nv : NonNil v) : RecsV w T (.slice (some ⟨g, 0, none⟩) 2 2) [r, s] := by
  refine ⟨[u, v], rfl, .two c0 c1 hg, fun i x t hx ht => ?_⟩
  match i, hx, ht with
  | 0, hx, ht => obtain rfl := Option.some.inj hx; obtain rfl := Option.some.inj ht; exact ⟨hu, nu⟩
  | 1, hx, ht => obtain rfl := Option.some.inj hx; obtain rfl := Option.some.inj ht; exact ⟨hv, nv⟩
theorem RecsV.at1 {T : Nat → Prop} {g : Nat} {u : Value} {r : List UInt8} (c0 : w.cell? ⟨g, 0, none⟩ = some u) (hg : T g) (hu : ArgV w T u (bv r)) (nu : NonNil u) : RecsV w T (.slice (some ⟨g, 0, none⟩) 1 1) [r] := by
  refine ⟨[u], rfl, .one c0 hg, fun i x t hx ht => ?_⟩
  match i, hx, ht with
  | 0, hx, ht => obtain rfl := Option.some.inj hx; obtain rfl := Option.some.inj ht; exact ⟨hu, nu⟩
end
end Go.Proofs.YtimblkkojcbipaaDoor
/- The law's helper known. -/
namespace Go.Proofs.YtimblkkojcbipaaDoor
open Go Go.RowKit
theorem heap3 (w : World) (a b c : Obj) : (((w.alloc a).alloc b).alloc c).heap[w.heap.size]? = some a ∧ (((w.alloc a).alloc b).alloc c).heap[w.heap.size + 1]? = some b ∧ (((w.alloc a).alloc b).alloc c).heap[w.heap.size + 1 + 1]? = some c := by
  refine ⟨heap_old (heap_old (heap_new _ _) _) _, ?_, ?_⟩
  · have := heap_new (w.alloc a) b
    rw [World.size_alloc] at this
    exact heap_old this _
  · have := heap_new ((w.alloc a).alloc b) c
    rw [World.size_alloc, World.size_alloc] at this
    exact this
theorem arg_row {w : World} {g : Nat} {l : List UInt8} {t : TypeId} {fr : Nat × Nat} {T : Nat → Prop} {n : Nat} {cs : Array Value} (h : w.heap[g]? = some (.cells cs t fr)) (hT : T g) (hn : l.length = n) (hcs : cs = (bv l).toArray) (hm : n ≤ maxLen) : ArgV w T (.slice (some ⟨g, 0, none⟩) n n) (bv l) := by
  subst hcs hn
  refine ⟨_, _, by rw [bv_len], by rw [bv_len]; exact Nat.le_refl _, hm, .inr ⟨g, 0, rfl, hT, fun i u hi => ?_⟩⟩
  rw [Nat.zero_add, cell_of_row w g i _ t fr h]
  simpa using hi
theorem lits4 (W : World) : RecsV (((W.alloc (.cells #[.int .u8 97] 5 (1, 2))).alloc (.cells #[.int .u8 98, .int .u8 99] 5 (2, 3))).alloc (.cells #[.slice (some ⟨W.heap.size, 0, none⟩) 1 1, .slice (some ⟨W.heap.size + 1, 0, none⟩) 2 2] 34)) (fun k => W.heap.size ≤ k) (.slice (some ⟨W.heap.size + 1 + 1, 0, none⟩) 2 2) [[97], [98, 99]] := by
  obtain ⟨h1, h2, h3⟩ := heap3 W (.cells #[.int .u8 97] 5 (1, 2)) (.cells #[.int .u8 98, .int .u8 99] 5 (2, 3)) (.cells #[.slice (some ⟨W.heap.size, 0, none⟩) 1 1, .slice (some ⟨W.heap.size + 1, 0, none⟩) 2 2] 34)
  exact .at2 (by rw [cell_at h3]; rfl) (by rw [cell_at h3]; rfl) (show W.heap.size ≤ _ by omega) (arg_row h1 (show W.heap.size ≤ _ by omega) rfl rfl (by unfold maxLen; simp)) (arg_row h2 (show W.heap.size ≤ _ by omega) rfl rfl (by unfold maxLen; simp)) ⟨_, _, _, rfl⟩ ⟨_, _, _, rfl⟩
theorem big4 (W : World) (N : Nat) (h : 1048576 < N) (hm : N ≤ maxLen) : RecsV ((W.alloc (.cells (madeCells #[.int .u8 0] N) 5)).alloc (.cells #[.slice (some ⟨W.heap.size, 0, none⟩) N N] 34)) (fun k => W.heap.size ≤ k) (.slice (some ⟨W.heap.size + 1, 0, none⟩) 1 1) [List.replicate N 0] ∧ [List.replicate N (0 : UInt8)].any tooL = true := by
  have h2 := heap_new (W.alloc (.cells (madeCells #[.int .u8 0] N) 5)) (.cells #[.slice (some ⟨W.heap.size, 0, none⟩) N N] 34)
  rw [World.size_alloc] at h2
  refine ⟨.at1 (by rw [cell_at h2]; rfl) (show W.heap.size ≤ _ by omega) (arg_row (heap_old (heap_new _ _) _) (Nat.le_refl _) (by simp) (bv_zeros N).symm hm) ⟨_, _, _, rfl⟩, ?_⟩
  simp only [List.any_cons, List.any_nil, Bool.or_false, tooL, List.length_replicate]
  exact decide_eq_true h
set_option maxRecDepth 100000 in
set_option maxHeartbeats 1000000 in
theorem known4 {w : World} (hT : Tab w) (hz : 1 ≤ w.heap.size) :
    Calls Tryd.prog 9 #[] w fun e w' => e = .returned (.bool true) ∧ Below w.heap.size w w' := by
  have hn1 := new_dk w 60 (by decide) (by decide)
  have hT0 := hide hT
  have hcv := fun (W : World) (C : Array Value) (n c g : Nat) (hg : g = W.heap.size) => Joins.run_convert_bytes_const_at (P := Tryd.prog) W 34 5 C n c g hg Tryd.underlying34 Tryd.underlying5
  go_enter Tryd.func9, Tryd.ntmps9
  go_wp2_with fail
  refine hn1.mono ?_
  rintro e w1 ⟨sb, S1, rfl, hd1, hb1⟩
  have hT1 := hT0.out.below hz hb1
  have z1 := hb1.size
  have ho1 := open_dk hd1 hz z1 hT1
  replace hd1 := hide hd1
  replace hb1 := hide hb1
  replace hT1 := hide hT1
  clear hn1 hT
  go_wp2_with fail
  refine ho1.mono ?_
  rintro e w2 ⟨lb, v, S2, rfl, hl2, hr2, -, hlb, hm2⟩
  obtain ⟨vs, R, hvo, -⟩ := hr2
  have hvs : ∃ A c, v = .slice A 0 c := by
    rcases hvo.2 with ⟨rfl, _⟩ | ⟨g, cap, cur, rfl, _⟩
    · exact ⟨_, _, rfl⟩
    · exact ⟨_, _, rfl⟩
  obtain ⟨A, c, rfl⟩ := hvs
  clear hvo ho1
  replace hl2 := hide hl2
  replace hm2 := hide hm2
  go_wp2_with fail
  obtain ⟨w3, hw3⟩ : ∃ w3, w3 = (((w2.alloc (.cells #[.int .u8 97] 5 (1, 2))).alloc (.cells #[.int .u8 98, .int .u8 99] 5 (2, 3))).alloc (.cells #[.slice (some ⟨w2.heap.size, 0, none⟩) 1 1, .slice (some ⟨w2.heap.size + 1, 0, none⟩) 2 2] 34)) := ⟨_, rfl⟩
  have hlit := lits4 w2
  have hU3 : Upd (fun _ => False) w2 w3 := by rw [hw3]; exact ((Upd.alloc _ _ _).then (.alloc _ _ _)).then (.alloc _ _ _)
  rw [← hw3] at hlit ⊢
  clear hw3
  have hl3 := hl2.out.upd hU3 fun _ _ => id
  have hb3 : Below w.heap.size w w3 := (hb1.out.trans (hm2.out.1.below z1 fun k hk => hd1.out.ge hk)).trans (hU3.below (by have := hm2.out.1.size; omega) fun _ h => h.elim)
  have hT3 := hT0.out.below hz hb3
  have hc3 := commit_lg hl3 hz hT3 hlit (fun k hk hk' => by have := hl2.out.old hk'; omega) (by decide) (by decide) (by decide)
  replace hb3 := hide hb3
  replace hT3 := hide hT3
  replace hl3 := hide hl3
  clear hlit hU3 hl2 hm2 hd1
  refine hc3.mono ?_
  rintro e w4 ⟨rfl, S4, hl4, hm4⟩
  have hb4 := hb3.out.trans (hm4.1.below (B := w.heap.size) hb3.out.size fun k hk => hl3.out.ge hk)
  have z4 := hb4.size
  have hT4 := hT0.out.below hz hb4
  have hcn := count_lg hl4
  have ho4 := open_dk hl4.dk hz z4 hT4
  replace hb4 := hide hb4
  replace hl4 := hide hl4
  clear hc3 hm4 hT4
  go_wp2_with fail
  refine hcn.mono ?_
  rintro e w4' ⟨rfl, rfl⟩
  clear hcn
  go_wp2_with fail
  refine ho4.mono ?_
  rintro e w5 ⟨lm, v5, S5, rfl, hl5, hr5, hv5, hlm, hm5⟩
  clear ho4
  have hb5 := hb4.out.trans (hm5.1.below (B := w.heap.size) z4 fun k hk => hl4.out.ge (.inl hk))
  have z5 := hb5.size
  replace hb5 := hide hb5
  replace hr5 := hide hr5
  replace hm5 := hide hm5
  go_wp2_with fail
  refine (new_any w5 9 256 (by decide) (by decide) (by decide) (by decide)).mono ?_
  rintro e w6 ⟨sc, S6, rfl, hd6, -, hb6⟩
  have ho6 := open_small hd6 (by decide)
  replace hb6 := hide hb6
  go_wp2_with fail
  refine ho6.mono ?_
  rintro e w7 ⟨rfl, hb7⟩
  clear ho6 hd6
  have hb57 := hb6.out.trans (hb7.mono hb6.out.size)
  have hU57 : Upd (fun _ => False) w5 w7 := .of_below _ hb57
  have hb7 := hb5.out.trans (hb57.mono z5)
  have hr7 := (hr5.out.upd hU57 fun _ _ _ => id)
  have hl7 := (hl4.out.any.upd hm5.out.1 hl4.out.nlb).upd hU57 id
  have hrw := hr7.recsW
  obtain ⟨A5, c5, rfl, -⟩ := hr7.slice
  obtain ⟨b0, o0, u0, rfl, k0, hu0⟩ := hrw.at (k := 0) (by decide)
  obtain ⟨b1, o1, u1, e1, k1, hu1⟩ := hrw.at (k := 1) (by decide)
  obtain ⟨rfl, rfl⟩ : b0 = b1 ∧ o0 = o1 := by injection e1 with e1; injection e1 with e2 e3; exact ⟨e2, e3⟩
  rw [Nat.add_zero] at k0
  have cv0 := hu0.bytes.string (P := Tryd.prog) Tryd.underlying34 Tryd.underlying5 Tryd.underlying9
  have cv1 := hu1.bytes.string (P := Tryd.prog) Tryd.underlying34 Tryd.underlying5 Tryd.underlying9
  replace hr7 := hide hr7
  replace hl7 := hide hl7
  replace hb7 := hide hb7
  replace hrw := hide hrw
  clear hU57 hb57 hb6 hr5 hm5 hl4 hv5 hl5 hb4 hb3 hb5
  obtain ⟨C, hC⟩ : ∃ C, C = madeCells #[.int .u8 0] 1048577 := ⟨_, rfl⟩
  have hmk : (Instr.makeSlice 34 (.int .i64 1048577) (.int .i64 1048577)).run Tryd.prog w7 = .ok (.slice (some ⟨w7.heap.size, 0, none⟩) 1048577 1048577) (w7.alloc (.cells C 5)) := by
    rw [hC]
    exact run_make_row' (P := Tryd.prog) 34 5 (.int .u8 0) 1 Tryd.underlying34 byte_info rfl .i64 .i64 1048577 (by omega) (by omega) w7
  replace hC := hide hC
  go_wp2_with fail
  have hbg := big4 w7 1048577 (by decide) (by unfold maxLen; simp)
  rw [← hC.out] at hbg
  obtain ⟨w8, hw8⟩ : ∃ w8, w8 = (w7.alloc (.cells C 5)).alloc (.cells #[.slice (some ⟨w7.heap.size, 0, none⟩) 1048577 1048577] 34) := ⟨_, rfl⟩
  have hU8 : Upd (fun _ => False) w7 w8 := by rw [hw8]; exact (Upd.alloc _ _ _).then (.alloc _ _ _)
  rw [← hw8] at hbg ⊢
  clear hw8 hmk
  have hl8 := hl7.out.upd hU8 id
  have hb8 := hb7.out.trans (hU8.below (by have := hb7.out.size; omega) fun _ h => h.elim)
  have hc8 := long_lg hl8 hbg.1 hbg.2
  replace hb8 := hide hb8
  clear hbg hl8 hU8
  refine hc8.mono ?_
  rintro e w9 ⟨rfl, hb9⟩
  have hb9 := hide (hb8.out.trans (hb9.mono hb8.out.size))
  clear hc8
  go_wp2_with fail
  go_ret
  exact ⟨rfl, hb9.out⟩
end Go.Proofs.YtimblkkojcbipaaDoor
/- The listed table, as the card's row lays it. -/
namespace Go.Proofs.YtimblkkojcbipaaDoor
open Go Go.RowKit Sums
theorem Tab.pos {w : World} (h : Tab w) : 0 < w.heap.size := by
  have h0 := h 0 0 rfl
  rcases Nat.eq_zero_or_pos w.heap.size with he | hp
  · unfold World.cell? at h0
    rw [Array.getElem?_eq_none (by simp [he])] at h0
    cases h0
  · exact hp
theorem tabOf {w : World} (h : Lib.TabIs Tryd.prog w "augur/sum.nibbleSums" .u32 [0, 498536548, 997073096, 651767980, 1994146192, 1802195444, 1303535960, 1342533948, 3988292384, 4027552580, 3604390888, 3412177804, 2607071920, 2262029012, 2685067896, 3183342108]) : Tab w := by
  intro i x hx
  have hi : i < tab.length := by
    rcases Nat.lt_or_ge i tab.length with h | h
    · exact h
    · rw [List.getElem?_eq_none h] at hx; cases hx
  have hc := h.cell (g := 0) (by kernel_rfl) i hi
  rw [hc]
  have key : ∀ (i x : Nat), tab[i]? = some x → ([0, 498536548, 997073096, 651767980, 1994146192, 1802195444, 1303535960, 1342533948, 3988292384, 4027552580, 3604390888, 3412177804, 2607071920, 2262029012, 2685067896, 3183342108] : List Int).getD i 0 = (x : Int) := by
    intro i x hx
    have e : ([0, 498536548, 997073096, 651767980, 1994146192, 1802195444, 1303535960, 1342533948, 3988292384, 4027552580, 3604390888, 3412177804, 2607071920, 2262029012, 2685067896, 3183342108] : List Int) = tab.map (fun (n : Nat) => (n : Int)) := rfl
    rw [e, List.getD_eq_getElem?_getD, List.getElem?_map, hx]
    rfl
  rw [key i x hx]

end Go.Proofs.YtimblkkojcbipaaDoor
/- What the laws' walks share. -/
namespace Go.Proofs.YtimblkkojcbipaaDoor
open Go Go.RowKit
theorem below_mv {B : Nat} {w w1 w2 : World} {S S' : Nat → Prop} (h : Below B w w1) (hm : Mv w1 S w2 S') (hB : B ≤ w1.heap.size) (hS : ∀ k, S k → B ≤ k) : Below B w w2 := h.trans (hm.1.below hB hS)
theorem BytesV.arg {w : World} {B : Nat} {v : Value} {l : List UInt8} (h : BytesV w B v l) : ArgV w (· < B) v (bv l) := by
  obtain ⟨A, c, rfl, h1, h2, h3⟩ := h
  have := ArgV.of_sl h3 (by rw [bv_len]; exact h1) h2
  rwa [bv_len] at this
theorem BatV.len {w : World} {B : Nat} {v : Value} {rs : List (List UInt8)} (h : BatV w B v rs) : ∃ A c, v = .slice A rs.length c ∧ c ≤ maxLen := by
  obtain ⟨vs, R, h1, _⟩ := h
  rcases h1.2 with ⟨rfl, h0⟩ | ⟨g, cap, cur, rfl, hb, hg, h1, h2, _⟩
  · rw [h0]; exact ⟨_, _, rfl, Nat.zero_le _⟩
  · exact ⟨_, _, rfl, h2⟩
/-- How long the frames of a batch are. -/
theorem batch_frames (i : Nat) (ls : List UInt8) : (frames (batchL i ls ls.length)).length ≤ ls.length * 263 := by
  have := frames_le_of (batch_each i ls)
  rwa [batchL_len] at this
theorem batch_short (i : Nat) (ls : List UInt8) : ∀ r ∈ batchL i ls ls.length, r.length ≤ 1048576 := fun r hr => by have := batch_each i ls r hr; omega
/-- The log at lb counts n records. -/
def CntV (w : World) (lb n : Nat) : Prop := ∃ sb live x, LogV w lb sb live x ∧ x.records = n
theorem LgC.cnt {n B sb lb : Nat} {S : Nat → Prop} {rs : List (List UInt8)} {w : World} (h : LgC n w B sb lb S rs) : CntV w lb rs.length := by
  obtain ⟨D, live, x, h, _⟩ := h
  exact ⟨_, _, _, h.log, h.holds.lies.recs⟩
theorem CntV.upd {w w' : World} {F : Nat → Prop} {lb n : Nat} (h : CntV w lb n) (hu : Upd F w w') (hF : ¬ F lb) : CntV w' lb n := by
  obtain ⟨sb, live, x, h, h1⟩ := h
  exact ⟨sb, live, x, hu.heap h hF, h1⟩
theorem cnt_any {w : World} {lb n : Nat} (h : CntV w lb n) : Calls Tryd.prog 19 #[.pointer (some ⟨lb, 0, none⟩)] w fun e w' => e = .returned (.int .i64 n) ∧ w = w' := by
  obtain ⟨sb, live, x, h, rfl⟩ := h
  exact count_any h
end Go.Proofs.YtimblkkojcbipaaDoor
