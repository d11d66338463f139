/- The laws' helper same: two lists of records are compared. -/
import Derived.Test.YtimblkkojcbipaaDoorBatch
namespace Go.Proofs.YtimblkkojcbipaaDoor
open Go Go.RowKit
/-- The value v is a list of records; some may be nil. -/
def RecsW (w : World) (S : Nat → Prop) (v : Value) (rs : List (List UInt8)) : Prop :=
  ∃ vs, vs.length = rs.length ∧ ArgV w S v vs ∧ ∀ (i : Nat) (u : Value) (r : List UInt8), vs[i]? = some u → rs[i]? = some r → ArgV w S u (bv r)
theorem RecsW.upd {w w' : World} {F S : Nat → Prop} {v : Value} {rs : List (List UInt8)} (h : RecsW w S v rs) (hu : Upd F w w') (hS : ∀ k, S k → ¬ F k) : RecsW w' S v rs := by
  obtain ⟨vs, h1, h2, h3⟩ := h
  exact ⟨vs, h1, h2.upd hu hS, fun i u r hi hr => (h3 i u r hi hr).upd hu hS⟩
theorem RecsW.at {w : World} {S : Nat → Prop} {A : Option Addr} {n c : Nat} {rs : List (List UInt8)} (h : RecsW w S (.slice A n c) rs) {k : Nat} (hk : k < rs.length) : ∃ b o u, A = some ⟨b, o, none⟩ ∧ w.cell? ⟨b, o + k, none⟩ = some u ∧ ArgV w S u (bv rs[k]) := by
  obtain ⟨vs, h1, h2, h3⟩ := h
  have hu : vs[k]? = some (vs[k]'(by omega)) := List.getElem?_eq_getElem _
  obtain ⟨b, o, e1, -, e2⟩ := h2.get hu
  exact ⟨b, o, _, e1, e2, h3 k _ _ hu (List.getElem?_eq_getElem hk)⟩
set_option maxRecDepth 100000 in
set_option maxHeartbeats 1000000 in
theorem same_any {w : World} {Sa Sb : Nat → Prop} {va vb : Value} {ra rb : List (List UInt8)} (ha : RecsW w Sa va ra) (hb : RecsW w Sb vb rb) :
    Calls Tryd.prog 15 #[va, vb] w fun e w' => e = .returned (.bool (decide (ra = rb))) ∧ Below w.heap.size w w' := by
  have hA := ha
  have hB := hb
  obtain ⟨vsa, qa, ⟨Aa, ca, rfl, pa1, pa2, -⟩, -⟩ := ha
  obtain ⟨vsb, qb, ⟨Ab, cb, rfl, pb1, pb2, -⟩, -⟩ := hb
  rw [qa] at pa1 hA ⊢
  rw [qb] at pb1 hB ⊢
  have pa3 : ca ≤ 9223372036854775807 := by unfold maxLen at pa2; exact pa2
  have pb3 : cb ≤ 9223372036854775807 := by unfold maxLen at pb2; exact pb2
  clear qa qb pa2 pb2
  replace hA := hide hA
  replace hB := hide hB
  rcases Nat.lt_or_ge ra.length rb.length with hl | hl
  · have hne : ra ≠ rb := fun e => by rw [e] at hl; omega
    rw [decide_eq_false hne]
    go_enter Tryd.func15, Tryd.ntmps15
    go_wp2_with fail
    go_ret
    exact ⟨rfl, .refl _ _⟩
  rcases Nat.lt_or_ge rb.length ra.length with hl2 | hl2
  · have hne : ra ≠ rb := fun e => by rw [e] at hl2; omega
    rw [decide_eq_false hne]
    go_enter Tryd.func15, Tryd.ntmps15
    go_wp2_with fail
    go_ret
    exact ⟨rfl, .refl _ _⟩
  go_enter Tryd.func15, Tryd.ntmps15
  go_wp2_with fail
  go_loopw [5] (fun i' wr => ∃ k : Nat, k ≤ ra.length ∧ i' = .int .i64 k ∧ (∀ j : Nat, j < k → ra[j]? = rb[j]?) ∧ Upd (fun _ => False) w wr) (fun i' _ => ra.length - (intOf i').toNat)
  case atStart => exact ⟨0, Nat.zero_le _, rfl, fun j hj => by omega, .refl _ _⟩
  case round =>
    obtain ⟨k, hk, rfl, hpre, hU⟩ := hrel
    replace hpre := hide hpre
    rcases Nat.lt_or_ge k ra.length with hlt | hge
    · obtain ⟨ba, oa, ua, rfl, cca, hra⟩ := (hA.out.upd hU fun _ _ => id).at hlt
      obtain ⟨bb, ob, ub, rfl, ccb, hrb⟩ := (hB.out.upd hU fun _ _ => id).at (show k < rb.length by omega)
      replace hU := hide hU
      replace hra := hide hra
      replace hrb := hide hrb
      have hltb : k < rb.length := by omega
      by_cases heq : ra[k] = rb[k]
      · have hne : decide ((⟨ra[k].toArray⟩ : ByteArray) ≠ ⟨rb[k].toArray⟩) = false := by rw [heq]; simp
        replace heq := hide heq
        replace hne := hide hne
        go_wp2_with fail
        refine wp_region_flow (fun _ => False) (factAt [(fun v _ => v = (.slice (some ⟨ba, oa, none⟩) ra.length ca)), (fun v _ => v = (.int .i64 (k : Nat))), (fun v _ => v = (.pointer (some ⟨ba, oa + k, none⟩))), (fun v _ => v = ua), (fun v _ => v = (.string ⟨ra[k].toArray⟩)), (fun v _ => v = (.slice (some ⟨bb, ob, none⟩) rb.length cb)), (fun v _ => v = (.int .i64 (k : Nat))), (fun v _ => v = (.pointer (some ⟨bb, ob + k, none⟩))), (fun v _ => v = ub), (fun v _ => v = (.string ⟨rb[k].toArray⟩)), (fun v _ => v = (.bool false))]) [] (fun _ => True) (by kernel_rfl) (fkept_at ⟨FKept.eq _, FKept.eq _, FKept.eq _, FKept.eq _, FKept.eq _, FKept.eq _, FKept.eq _, FKept.eq _, FKept.eq _, FKept.eq _, FKept.eq _, trivial⟩) (fun _ _ h _ => h) trivial (by kernel_rfl) (by kernel_rfl) (by kernel_rfl) (by kernel_rfl) (Nat.le_of_ble_eq_true (by kernel_rfl)) ?_ ⟨?_, ?_, ?_, ?_, ?_, ?_, ?_, ?_, ?_, ?_, ?_, trivial⟩ ?_
        · first | exact trivial | assumption
        · intro T w Q hu hs hv hw hd
          have hx0 : T.getD 0 undef = (.slice (some ⟨ba, oa, none⟩) ra.length ca) := hv 0 (by kernel_rfl)
          refine .inl ⟨wanted_none rfl, ?_⟩
          clear hd hv hu hs hw
          go_simp
          exact ⟨_, rfl, DstOk.some rfl, Below.refl _ _, rfl⟩
        · intro T w Q hu hs hv hw hd
          have hx5 : T.getD 5 undef = (.int .i64 (k : Nat)) := hv 5 (by kernel_rfl)
          refine .inl ⟨wanted_none rfl, ?_⟩
          clear hd hv hu hs hw
          go_simp
          exact ⟨_, rfl, DstOk.some rfl, Below.refl _ _, rfl⟩
        · intro T w Q hu hs hv hw hd
          have hx17 : T.getD 17 undef = (.slice (some ⟨ba, oa, none⟩) ra.length ca) := Deps.at 0 hd (by kernel_rfl)
          have hx18 : T.getD 18 undef = (.int .i64 (k : Nat)) := Deps.at 1 hd (by kernel_rfl)
          refine .inl ⟨wanted_none rfl, ?_⟩
          clear hd hv hu hs hw
          go_simp
          exact ⟨_, rfl, DstOk.some rfl, Below.refl _ _, rfl⟩
        · intro T w Q hu hs hv hw hd
          have hx19 : T.getD 19 undef = (.pointer (some ⟨ba, oa + k, none⟩)) := Deps.at 2 hd (by kernel_rfl)
          refine .inl ⟨wanted_none rfl, ?_⟩
          have hq0 := hu.cell cca id
          clear hd hv hu hs hw
          go_simp
          exact ⟨_, rfl, DstOk.some rfl, Below.refl _ _, rfl⟩
        · intro T w Q hu hs hv hw hd
          have hx20 : T.getD 20 undef = ua := Deps.at 3 hd (by kernel_rfl)
          refine .inl ⟨wanted_none rfl, ?_⟩
          have hcv := (hra.out.upd hu fun _ _ => id).bytes.string (P := Tryd.prog) Tryd.underlying34 Tryd.underlying5 Tryd.underlying9
          clear hd hv hu hs hw
          go_simp
          exact ⟨_, rfl, DstOk.some rfl, Below.refl _ _, rfl⟩
        · intro T w Q hu hs hv hw hd
          have hx1 : T.getD 1 undef = (.slice (some ⟨bb, ob, none⟩) rb.length cb) := hv 1 (by kernel_rfl)
          refine .inl ⟨wanted_none rfl, ?_⟩
          clear hd hv hu hs hw
          go_simp
          exact ⟨_, rfl, DstOk.some rfl, Below.refl _ _, rfl⟩
        · intro T w Q hu hs hv hw hd
          have hx5 : T.getD 5 undef = (.int .i64 (k : Nat)) := hv 5 (by kernel_rfl)
          refine .inl ⟨wanted_none rfl, ?_⟩
          clear hd hv hu hs hw
          go_simp
          exact ⟨_, rfl, DstOk.some rfl, Below.refl _ _, rfl⟩
        · intro T w Q hu hs hv hw hd
          have hx22 : T.getD 22 undef = (.slice (some ⟨bb, ob, none⟩) rb.length cb) := Deps.at 5 hd (by kernel_rfl)
          have hx23 : T.getD 23 undef = (.int .i64 (k : Nat)) := Deps.at 6 hd (by kernel_rfl)
          refine .inl ⟨wanted_none rfl, ?_⟩
          clear hd hv hu hs hw
          go_simp
          exact ⟨_, rfl, DstOk.some rfl, Below.refl _ _, rfl⟩
        · intro T w Q hu hs hv hw hd
          have hx24 : T.getD 24 undef = (.pointer (some ⟨bb, ob + k, none⟩)) := Deps.at 7 hd (by kernel_rfl)
          refine .inl ⟨wanted_none rfl, ?_⟩
          have hq0 := hu.cell ccb id
          clear hd hv hu hs hw
          go_simp
          exact ⟨_, rfl, DstOk.some rfl, Below.refl _ _, rfl⟩
        · intro T w Q hu hs hv hw hd
          have hx25 : T.getD 25 undef = ub := Deps.at 8 hd (by kernel_rfl)
          refine .inl ⟨wanted_none rfl, ?_⟩
          have hcv := (hrb.out.upd hu fun _ _ => id).bytes.string (P := Tryd.prog) Tryd.underlying34 Tryd.underlying5 Tryd.underlying9
          clear hd hv hu hs hw
          go_simp
          exact ⟨_, rfl, DstOk.some rfl, Below.refl _ _, rfl⟩
        · intro T w Q hu hs hv hw hd
          have hx21 : T.getD 21 undef = (.string ⟨ra[k].toArray⟩) := Deps.at 4 hd (by kernel_rfl)
          have hx26 : T.getD 26 undef = (.string ⟨rb[k].toArray⟩) := Deps.at 9 hd (by kernel_rfl)
          refine .inl ⟨wanted_none rfl, ?_⟩
          clear hd hv hu hs hw
          go_simp
          exact ⟨_, rfl, DstOk.some rfl, Below.refl _ _, congrArg Value.bool (by rw [heq.out]; simp)⟩
        · intro T w hu hs hv hf hcur
          have hT : T = #[T.getD 0 undef, T.getD 1 undef, T.getD 2 undef, T.getD 3 undef, T.getD 4 undef, T.getD 5 undef, T.getD 6 undef, T.getD 7 undef, T.getD 8 undef, T.getD 9 undef, T.getD 10 undef, T.getD 11 undef, T.getD 12 undef, T.getD 13 undef, T.getD 14 undef, T.getD 15 undef, T.getD 16 undef, T.getD 17 undef, T.getD 18 undef, T.getD 19 undef, T.getD 20 undef, T.getD 21 undef, T.getD 22 undef, T.getD 23 undef, T.getD 24 undef, T.getD 25 undef, T.getD 26 undef, T.getD 27 undef] := expl hs
          rw [hT]
          clear hT
          rw [show T.getD 0 undef = (.slice (some ⟨ba, oa, none⟩) ra.length ca) from hv 0 (by kernel_rfl)]
          rw [show T.getD 1 undef = (.slice (some ⟨bb, ob, none⟩) rb.length cb) from hv 1 (by kernel_rfl)]
          rw [hv 2 (by kernel_rfl)]
          rw [hv 3 (by kernel_rfl)]
          rw [hv 4 (by kernel_rfl)]
          rw [show T.getD 5 undef = (.int .i64 (k : Nat)) from hv 5 (by kernel_rfl)]
          rw [hv 6 (by kernel_rfl)]
          rw [hv 7 (by kernel_rfl)]
          rw [hv 8 (by kernel_rfl)]
          rw [hv 9 (by kernel_rfl)]
          rw [hv 10 (by kernel_rfl)]
          rw [hv 11 (by kernel_rfl)]
          rw [hv 12 (by kernel_rfl)]
          rw [hv 13 (by kernel_rfl)]
          rw [hv 14 (by kernel_rfl)]
          rw [hv 15 (by kernel_rfl)]
          rw [hv 16 (by kernel_rfl)]
          rw [show T.getD 17 undef = (.slice (some ⟨ba, oa, none⟩) ra.length ca) from hf 0 (by decide)]
          rw [show T.getD 18 undef = (.int .i64 (k : Nat)) from hf 1 (by decide)]
          rw [show T.getD 19 undef = (.pointer (some ⟨ba, oa + k, none⟩)) from hf 2 (by decide)]
          rw [show T.getD 20 undef = ua from hf 3 (by decide)]
          rw [show T.getD 21 undef = (.string ⟨ra[k].toArray⟩) from hf 4 (by decide)]
          rw [show T.getD 22 undef = (.slice (some ⟨bb, ob, none⟩) rb.length cb) from hf 5 (by decide)]
          rw [show T.getD 23 undef = (.int .i64 (k : Nat)) from hf 6 (by decide)]
          rw [show T.getD 24 undef = (.pointer (some ⟨bb, ob + k, none⟩)) from hf 7 (by decide)]
          rw [show T.getD 25 undef = ub from hf 8 (by decide)]
          rw [show T.getD 26 undef = (.string ⟨rb[k].toArray⟩) from hf 9 (by decide)]
          rw [show T.getD 27 undef = (.bool false) from hf 10 (by decide)]
          clear hf hs hv hcur
          simp only [getD_toArray, List.getD_cons_succ, List.getD_cons_zero]
          clear T
          have hUw := hU.out.then hu
          replace hUw := hide hUw
          clear hu
          go_wp2_with fail
          go_roundw
          case rel => exact ⟨k + 1, hlt, by go_num, fun j hj => by
                          rcases Nat.lt_or_ge j k with h | h
                          · exact hpre.out j h
                          · obtain rfl : j = k := by omega
                            rw [List.getElem?_eq_getElem hlt, List.getElem?_eq_getElem (by omega), heq.out], hUw.out⟩
          case measure => simp [intOf]; omega
      · have hne : decide ((⟨ra[k].toArray⟩ : ByteArray) ≠ ⟨rb[k].toArray⟩) = true := by
          simp only [ne_eq, decide_eq_true_eq]
          intro h
          injection h with h
          exact heq (by simpa using h)
        have hneq := heq
        replace hneq := hide hneq
        replace hne := hide hne
        clear heq
        go_wp2_with fail
        refine wp_region_flow (fun _ => False) (factAt [(fun v _ => v = (.slice (some ⟨ba, oa, none⟩) ra.length ca)), (fun v _ => v = (.int .i64 (k : Nat))), (fun v _ => v = (.pointer (some ⟨ba, oa + k, none⟩))), (fun v _ => v = ua), (fun v _ => v = (.string ⟨ra[k].toArray⟩)), (fun v _ => v = (.slice (some ⟨bb, ob, none⟩) rb.length cb)), (fun v _ => v = (.int .i64 (k : Nat))), (fun v _ => v = (.pointer (some ⟨bb, ob + k, none⟩))), (fun v _ => v = ub), (fun v _ => v = (.string ⟨rb[k].toArray⟩)), (fun v _ => v = (.bool true))]) [] (fun _ => True) (by kernel_rfl) (fkept_at ⟨FKept.eq _, FKept.eq _, FKept.eq _, FKept.eq _, FKept.eq _, FKept.eq _, FKept.eq _, FKept.eq _, FKept.eq _, FKept.eq _, FKept.eq _, trivial⟩) (fun _ _ h _ => h) trivial (by kernel_rfl) (by kernel_rfl) (by kernel_rfl) (by kernel_rfl) (Nat.le_of_ble_eq_true (by kernel_rfl)) ?_ ⟨?_, ?_, ?_, ?_, ?_, ?_, ?_, ?_, ?_, ?_, ?_, trivial⟩ ?_
        · first | exact trivial | assumption
        · intro T w Q hu hs hv hw hd
          have hx0 : T.getD 0 undef = (.slice (some ⟨ba, oa, none⟩) ra.length ca) := hv 0 (by kernel_rfl)
          refine .inl ⟨wanted_none rfl, ?_⟩
          clear hd hv hu hs hw
          go_simp
          exact ⟨_, rfl, DstOk.some rfl, Below.refl _ _, rfl⟩
        · intro T w Q hu hs hv hw hd
          have hx5 : T.getD 5 undef = (.int .i64 (k : Nat)) := hv 5 (by kernel_rfl)
          refine .inl ⟨wanted_none rfl, ?_⟩
          clear hd hv hu hs hw
          go_simp
          exact ⟨_, rfl, DstOk.some rfl, Below.refl _ _, rfl⟩
        · intro T w Q hu hs hv hw hd
          have hx17 : T.getD 17 undef = (.slice (some ⟨ba, oa, none⟩) ra.length ca) := Deps.at 0 hd (by kernel_rfl)
          have hx18 : T.getD 18 undef = (.int .i64 (k : Nat)) := Deps.at 1 hd (by kernel_rfl)
          refine .inl ⟨wanted_none rfl, ?_⟩
          clear hd hv hu hs hw
          go_simp
          exact ⟨_, rfl, DstOk.some rfl, Below.refl _ _, rfl⟩
        · intro T w Q hu hs hv hw hd
          have hx19 : T.getD 19 undef = (.pointer (some ⟨ba, oa + k, none⟩)) := Deps.at 2 hd (by kernel_rfl)
          refine .inl ⟨wanted_none rfl, ?_⟩
          have hq0 := hu.cell cca id
          clear hd hv hu hs hw
          go_simp
          exact ⟨_, rfl, DstOk.some rfl, Below.refl _ _, rfl⟩
        · intro T w Q hu hs hv hw hd
          have hx20 : T.getD 20 undef = ua := Deps.at 3 hd (by kernel_rfl)
          refine .inl ⟨wanted_none rfl, ?_⟩
          have hcv := (hra.out.upd hu fun _ _ => id).bytes.string (P := Tryd.prog) Tryd.underlying34 Tryd.underlying5 Tryd.underlying9
          clear hd hv hu hs hw
          go_simp
          exact ⟨_, rfl, DstOk.some rfl, Below.refl _ _, rfl⟩
        · intro T w Q hu hs hv hw hd
          have hx1 : T.getD 1 undef = (.slice (some ⟨bb, ob, none⟩) rb.length cb) := hv 1 (by kernel_rfl)
          refine .inl ⟨wanted_none rfl, ?_⟩
          clear hd hv hu hs hw
          go_simp
          exact ⟨_, rfl, DstOk.some rfl, Below.refl _ _, rfl⟩
        · intro T w Q hu hs hv hw hd
          have hx5 : T.getD 5 undef = (.int .i64 (k : Nat)) := hv 5 (by kernel_rfl)
          refine .inl ⟨wanted_none rfl, ?_⟩
          clear hd hv hu hs hw
          go_simp
          exact ⟨_, rfl, DstOk.some rfl, Below.refl _ _, rfl⟩
        · intro T w Q hu hs hv hw hd
          have hx22 : T.getD 22 undef = (.slice (some ⟨bb, ob, none⟩) rb.length cb) := Deps.at 5 hd (by kernel_rfl)
          have hx23 : T.getD 23 undef = (.int .i64 (k : Nat)) := Deps.at 6 hd (by kernel_rfl)
          refine .inl ⟨wanted_none rfl, ?_⟩
          clear hd hv hu hs hw
          go_simp
          exact ⟨_, rfl, DstOk.some rfl, Below.refl _ _, rfl⟩
        · intro T w Q hu hs hv hw hd
          have hx24 : T.getD 24 undef = (.pointer (some ⟨bb, ob + k, none⟩)) := Deps.at 7 hd (by kernel_rfl)
          refine .inl ⟨wanted_none rfl, ?_⟩
          have hq0 := hu.cell ccb id
          clear hd hv hu hs hw
          go_simp
          exact ⟨_, rfl, DstOk.some rfl, Below.refl _ _, rfl⟩
        · intro T w Q hu hs hv hw hd
          have hx25 : T.getD 25 undef = ub := Deps.at 8 hd (by kernel_rfl)
          refine .inl ⟨wanted_none rfl, ?_⟩
          have hcv := (hrb.out.upd hu fun _ _ => id).bytes.string (P := Tryd.prog) Tryd.underlying34 Tryd.underlying5 Tryd.underlying9
          clear hd hv hu hs hw
          go_simp
          exact ⟨_, rfl, DstOk.some rfl, Below.refl _ _, rfl⟩
        · intro T w Q hu hs hv hw hd
          have hx21 : T.getD 21 undef = (.string ⟨ra[k].toArray⟩) := Deps.at 4 hd (by kernel_rfl)
          have hx26 : T.getD 26 undef = (.string ⟨rb[k].toArray⟩) := Deps.at 9 hd (by kernel_rfl)
          refine .inl ⟨wanted_none rfl, ?_⟩
          clear hd hv hu hs hw
          go_simp
          exact ⟨_, rfl, DstOk.some rfl, Below.refl _ _, congrArg Value.bool (by rw [beq_eq_false_iff_ne.2 hneq.out]; rfl)⟩
        · intro T w hu hs hv hf hcur
          have hT : T = #[T.getD 0 undef, T.getD 1 undef, T.getD 2 undef, T.getD 3 undef, T.getD 4 undef, T.getD 5 undef, T.getD 6 undef, T.getD 7 undef, T.getD 8 undef, T.getD 9 undef, T.getD 10 undef, T.getD 11 undef, T.getD 12 undef, T.getD 13 undef, T.getD 14 undef, T.getD 15 undef, T.getD 16 undef, T.getD 17 undef, T.getD 18 undef, T.getD 19 undef, T.getD 20 undef, T.getD 21 undef, T.getD 22 undef, T.getD 23 undef, T.getD 24 undef, T.getD 25 undef, T.getD 26 undef, T.getD 27 undef] := expl hs
          rw [hT]
          clear hT
          rw [show T.getD 0 undef = (.slice (some ⟨ba, oa, none⟩) ra.length ca) from hv 0 (by kernel_rfl)]
          rw [show T.getD 1 undef = (.slice (some ⟨bb, ob, none⟩) rb.length cb) from hv 1 (by kernel_rfl)]
          rw [hv 2 (by kernel_rfl)]
          rw [hv 3 (by kernel_rfl)]
          rw [hv 4 (by kernel_rfl)]
          rw [show T.getD 5 undef = (.int .i64 (k : Nat)) from hv 5 (by kernel_rfl)]
          rw [hv 6 (by kernel_rfl)]
          rw [hv 7 (by kernel_rfl)]
          rw [hv 8 (by kernel_rfl)]
          rw [hv 9 (by kernel_rfl)]
          rw [hv 10 (by kernel_rfl)]
          rw [hv 11 (by kernel_rfl)]
          rw [hv 12 (by kernel_rfl)]
          rw [hv 13 (by kernel_rfl)]
          rw [hv 14 (by kernel_rfl)]
          rw [hv 15 (by kernel_rfl)]
          rw [hv 16 (by kernel_rfl)]
          rw [show T.getD 17 undef = (.slice (some ⟨ba, oa, none⟩) ra.length ca) from hf 0 (by decide)]
          rw [show T.getD 18 undef = (.int .i64 (k : Nat)) from hf 1 (by decide)]
          rw [show T.getD 19 undef = (.pointer (some ⟨ba, oa + k, none⟩)) from hf 2 (by decide)]
          rw [show T.getD 20 undef = ua from hf 3 (by decide)]
          rw [show T.getD 21 undef = (.string ⟨ra[k].toArray⟩) from hf 4 (by decide)]
          rw [show T.getD 22 undef = (.slice (some ⟨bb, ob, none⟩) rb.length cb) from hf 5 (by decide)]
          rw [show T.getD 23 undef = (.int .i64 (k : Nat)) from hf 6 (by decide)]
          rw [show T.getD 24 undef = (.pointer (some ⟨bb, ob + k, none⟩)) from hf 7 (by decide)]
          rw [show T.getD 25 undef = ub from hf 8 (by decide)]
          rw [show T.getD 26 undef = (.string ⟨rb[k].toArray⟩) from hf 9 (by decide)]
          rw [show T.getD 27 undef = (.bool true) from hf 10 (by decide)]
          clear hf hs hv hcur
          simp only [getD_toArray, List.getD_cons_succ, List.getD_cons_zero]
          clear T
          have hUw := hU.out.then hu
          replace hUw := hide hUw
          clear hu
          go_wp2_with fail
          go_ret
          exact ⟨by rw [decide_eq_false fun h => hneq.out (by subst h; rfl)]; exact rfl, hUw.out.below (Nat.le_refl _) fun _ h => h.elim⟩
    · obtain rfl : k = ra.length := by omega
      clear hge
      replace hU := hide hU
      go_wp2_with fail
      go_ret
      refine ⟨?_, hU.out.below (Nat.le_refl _) fun _ h => h.elim⟩
      have : ra = rb := by
        refine List.ext_getElem? fun j => ?_
        rcases Nat.lt_or_ge j ra.length with h | h
        · exact hpre.out j h
        · rw [List.getElem?_eq_none h, List.getElem?_eq_none (by omega)]
      rw [decide_eq_true this]
      rfl
end Go.Proofs.YtimblkkojcbipaaDoor
