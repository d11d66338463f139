/- The walk of CodeInts. -/
import Derived.Test.YtajpgkedlajjdaaMath2
import Derived.Test.YtajpgkedlajjdaaFlow
namespace Go.Proofs.Ytajpgkedlajjdaa
open Go.RowKit

theorem rowB_kept {F : Nat → Prop} {B : Nat} {l : List UInt8} (hF : ∀ k, F k → k < B) : FKept F (fun v w => RowB w B v l) := fun v w w' h hu =>
  hu.own h fun k hk hf => by have := hF k hf; have := (World.ownsRow.lt h k hk).1; omega
theorem rdS_kept {D p : Nat} {st : Option (List UInt8)} : Kept (fun _ w => RdS w D p st) := fun _ _ _ h hb => h.upd (.of_below (fun _ => False) hb) id fun _ _ => id
theorem RowB.base {w : World} {B B' : Nat} {v : Value} {l : List UInt8} (h : RowB w B v l) (hB : B' ≤ B) : RowB w B' v l := ownsRow_base h hB
theorem RowB.sl {w : World} {B : Nat} {v : Value} {l : List UInt8} (h : RowB w B v l) : ∃ A c, v = .slice A l.length c := by
  obtain ⟨A, c, rfl, -⟩ := ownsRow_sl h
  exact ⟨A, c, rfl⟩
theorem nums_one (n : Nat) : nums [n] = num n := by simp [nums]

set_option maxRecDepth 100000 in
set_option maxHeartbeats 3200000 in
theorem ints_any (a b : Int) (w : World) (ha : -9223372036854775808 ≤ a ∧ a ≤ 9223372036854775807) (hb : -9223372036854775808 ≤ b ∧ b ≤ 9223372036854775807) :
    Calls Try.prog 6 #[.int .i64 a, .int .i64 b] w fun e w' => e = .returned (.bool true) ∧ Below w.heap.size w w' := by
  have hla : (num (zig a)).length ≤ 70368744177664 := Nat.le_trans (num_len10 (zig_lt ha.1 ha.2)) (by decide)
  have hlb : (num (zig b)).length ≤ 70368744177664 := Nat.le_trans (num_len10 (zig_lt hb.1 hb.2)) (by decide)
  replace hla := hide hla
  replace hlb := hide hlb
  have hread : read 0 dint (some (num (zig a))) = (a, some []) := by
    have := dint_num [] ha.1 ha.2
    rw [List.append_nil] at this
    simp [read, this]
  replace hread := hide hread
  obtain ⟨c, hcs, hcn⟩ : ∃ c : Bool, (num (zig a) == num (zig b)) = c ∧ (a == b) = c := by
    refine ⟨a == b, ?_, rfl⟩
    by_cases h : a = b
    · subst h; simp
    · rw [beq_eq_false_iff_ne.2 h]
      exact beq_eq_false_iff_ne.2 fun e => h (zig_inj (num_inj (zig_lt ha.1 ha.2) (zig_lt hb.1 hb.2) e))
  replace hcs := hide hcs
  replace hcn := hide hcn
  go_enter Try.func6, Try.ntmps6
  go_wp2_with fail
  refine (known_any _).mono ?_
  rintro e w1 ⟨rfl, hb1⟩
  replace hb1 := hide hb1
  go_wp2_with fail
  refine (newWriter_any _).mono ?_
  rintro e w2 ⟨rfl, rfl⟩
  have hWa := wr_new w1 w1.heap.size (Nat.le_refl _)
  have hB := hide (hb1.out.trans ((Below.refl w.heap.size w1).alloc hb1.out.size (.cells #[.slice none 0 0] 75)))
  have hwp := hide (hb1.out.size)
  generalize w1.alloc (.cells #[.slice none 0 0] 75) = w2 at *
  generalize w1.heap.size = p at *
  go_wp2_with fail
  refine (newWriter_any _).mono ?_
  rintro e w3 ⟨rfl, rfl⟩
  have hpq := hWa.lt
  have hWb := wr_new w2 p (Nat.le_of_lt hpq)
  replace hB := hide (hB.out.alloc hB.out.size (.cells #[.slice none 0 0] 75))
  replace hWa := hide (hWa.alloc (.cells #[.slice none 0 0] 75))
  generalize w2.alloc (.cells #[.slice none 0 0] 75) = w3 at *
  generalize w2.heap.size = q at *
  replace hWb := hide hWb
  replace hpq := hide hpq
  have hq3 := hide hWb.out.lt
  go_wp2_with fail
  refine (wInt_any p p [] _ [a] _ _ (hWa.out.alloc _) (ArgV.one (by simp [go_sem]; done) ?_) ?_ ?_).mono ?_
  · exact fun h => Nat.lt_irrefl _ (Fp.lt hWa.out h)
  · intro n hn; rw [List.mem_singleton] at hn; subst hn; exact ha
  · simp
  rintro e w4 ⟨rfl, va, h4⟩
  rw [List.map_cons, List.map_nil, nums_one, List.nil_append] at h4
  have hva := hide (fun k (hk : va.ownBlock = some k) => h4.2.2 k hk)
  have hU4 := hide (hB.out.size)
  replace hB := hide ((hB.out.alloc hB.out.size _).trans ((h4.below (hWa.out.alloc _)).mono hwp.out))
  replace hWb := hide ((hWb.out.alloc _).upd h4.2.1 (by
    rintro k (rfl | hk) (hf | hf)
    · have := hpq.out; omega
    · cases hf
    · cases hk
    · cases hk))
  replace h4 := hide h4.1
  go_wp2_with fail
  have hq4 := hWb.out.lt
  refine (wInt_any p q [] _ [b] _ _ (hWb.out.alloc _) (ArgV.one (by simp [go_sem]; done) ?_) ?_ ?_).mono ?_
  · exact fun h => Nat.lt_irrefl _ (Fp.lt hWb.out h)
  · intro n hn; rw [List.mem_singleton] at hn; subst hn; exact hb
  · simp
  rintro e w5 ⟨rfl, vb, h5⟩
  rw [List.map_cons, List.map_nil, nums_one, List.nil_append] at h5
  have hWa5 : Wr w5 p p (num (zig a)) va := ((h4.out.alloc _).upd h5.2.1 (by
    rintro k hk (hf | hf)
    · subst hf
      rcases hk with hk | hk
      · have := hpq.out; omega
      · rcases hva.out _ hk with h | h
        · cases h
        · have := hq3.out; simp at h; omega
    · cases hf))
  replace hB := hide ((hB.out.alloc hB.out.size _).trans ((h5.below (hWb.out.alloc _)).mono hwp.out))
  replace h5 := h5.1
  clear hWb h4 hq4
  replace hWa5 := hide hWa5
  replace h5 := hide h5
  go_wp2_with fail
  refine (bytes_any p p _ va _ hWa5.out hla.out).mono ?_
  rintro e w6 ⟨v6, rfl, h6, hb6⟩
  replace h6 := h6.bytes
  go_wp2_with fail
  refine (newReader_any _ _ _ _ h6 hla.out).mono ?_
  rintro e wz ⟨pr, rfl, hpr, hrd, hb7⟩
  have hb67 := hb6.trans (hb7.mono hb6.size)
  have hWa := hide (hWa5.out.upd (.of_below (fun _ => False) hb67) fun _ _ => id)
  have hWb := hide (h5.out.upd (.of_below (fun _ => False) hb67) fun _ _ => id)
  have hbel := hide (hB.out.trans (hb67.mono hB.out.size))
  have hpz := hrd.lt
  have hF : ∀ k, At pr k → k < wz.heap.size := fun k hk => by rw [show k = pr from hk]; exact hpz
  have h6z := hb6.size
  have hFa : ∀ k, Fp p va k → ¬ At pr k := fun k hk e => by have := Fp.lt hWa5.out hk; have : k = pr := e; omega
  have hFb : ∀ k, Fp q vb k → ¬ At pr k := fun k hk e => by have := Fp.lt h5.out hk; have : k = pr := e; omega
  have hprw : ∀ k, At pr k → w.heap.size ≤ k := fun k hk => by have := hB.out.size; have : k = pr := hk; omega
  replace hrd := hide hrd
  replace hF := hide hF
  replace hFa := hide hFa
  replace hFb := hide hFb
  replace hprw := hide hprw
  clear hb67 hb6 hb7 h6 h5 hWa5 hB hpr hpz h6z
  go_wp2_with fail
  by_cases hgt : zig a > zig b
  · replace hgt := hide hgt
    refine wp_region_flow (At pr) (factAt [(fun v _ => v = (.pointer (some ⟨p, 0, none⟩))), (fun v w => RowB w wz.heap.size v (num (zig a))), (fun v _ => v = (.string ⟨(num (zig a)).toArray⟩)), (fun v _ => v = (.pointer (some ⟨q, 0, none⟩))), (fun v w => RowB w wz.heap.size v (num (zig b))), (fun v _ => v = (.string ⟨(num (zig b)).toArray⟩)), (fun v _ => v = (.bool c)), (fun v _ => v = (.int .i64 a)), (fun v _ => v = (.int .i64 b)), (fun v _ => v = (.bool c)), (fun v _ => v = (.bool true)), (fun v _ => v = (.bool true)), (fun v _ => v = (.pointer (some ⟨pr, 0, none⟩))), (fun v _ => v = (.int .i64 a)), (fun v _ => v = (.int .i64 a)), (fun v _ => v = (.bool true)), (fun v _ => v = (.bool true)), (fun v _ => v = (.bool true)), (fun v _ => v = (.pointer (some ⟨pr, 0, none⟩))), (fun v _ => v = (.int .i64 0)), (fun v _ => v = (.bool true)), (fun v _ => v = (.bool true)), (fun v _ => v = (.bool true)), (fun v _ => v = (.int .i64 a)), (fun v _ => v = (.int .u64 (zig a : Nat))), (fun v _ => v = (.int .i64 b)), (fun v _ => v = (.int .u64 (zig b : Nat))), (fun v _ => v = (.bool true)), (fun v _ => v = (.bool true)), (fun v _ => v = undef), (fun v _ => v = undef), (fun v _ => v = undef), (fun v _ => v = undef), (fun v _ => v = undef), (fun v _ => v = undef), (fun v _ => v = undef), (fun v _ => v = (Value.bool true)), (fun v _ => v = (Value.bool true)), (fun v _ => v = (Value.bool true))]) [none, none, none, none, none, none, none, none, none, none, none, none, none, some (fun _ w => RdS w pr pr (some [])), none, none, none, none, none, some (fun _ w => RdS w pr pr (some []))] (fun w => RdS w pr pr (some (num (zig a)))) (by kernel_rfl) (fkept_at ⟨FKept.eq _, rowB_kept hF.out, FKept.eq _, FKept.eq _, rowB_kept hF.out, FKept.eq _, FKept.eq _, FKept.eq _, FKept.eq _, FKept.eq _, FKept.eq _, FKept.eq _, FKept.eq _, FKept.eq _, FKept.eq _, FKept.eq _, FKept.eq _, FKept.eq _, FKept.eq _, FKept.eq _, FKept.eq _, FKept.eq _, FKept.eq _, FKept.eq _, FKept.eq _, FKept.eq _, FKept.eq _, FKept.eq _, FKept.eq _, FKept.eq _, FKept.eq _, FKept.eq _, FKept.eq _, FKept.eq _, FKept.eq _, FKept.eq _, FKept.eq _, FKept.eq _, FKept.eq _, trivial⟩) (fun _ _ h hb => rdS_kept .nilIface _ _ h hb) ⟨rdS_kept, rdS_kept, trivial⟩ (by kernel_rfl) (by kernel_rfl) (by kernel_rfl) (by kernel_rfl) (Nat.le_of_ble_eq_true (by kernel_rfl)) ?_ ⟨?_, ?_, ?_, ?_, ?_, ?_, ?_, ?_, ?_, ?_, ?_, ?_, ?_, ?_, ?_, ?_, ?_, ?_, ?_, ?_, ?_, ?_, ?_, ?_, ?_, ?_, ?_, ?_, ?_, ?_, ?_, ?_, ?_, ?_, ?_, ?_, ?_, ?_, ?_, trivial⟩ ?_
    · exact hrd.out
    · intro T w Q hu hs hv hw hd
      have hx5 : T.getD 5 undef = (.pointer (some ⟨p, 0, none⟩)) := hv 5 (by kernel_rfl)
      refine .inl ⟨wanted_none rfl, ?_⟩
      clear hd hv hu hs hw
      go_simp
      exact ⟨_, rfl, DstOk.some rfl, Below.refl _ _, rfl⟩
    · intro T w Q hu hs hv hw hd
      have hx23 : T.getD 23 undef = (.pointer (some ⟨p, 0, none⟩)) := Deps.at 0 hd (by kernel_rfl)
      refine .inl ⟨wanted_none rfl, ?_⟩
      clear hd hv hs hw
      go_simp
      refine (bytes_any p p (num (zig a)) va _ (hWa.out.upd hu hFa.out) hla.out).mono ?_
      rintro e w2 ⟨v2, rfl, h2, hb2⟩
      exact ⟨_, rfl, DstOk.some rfl, hb2, RowB.base h2 hu.size⟩
    · intro T w Q hu hs hv hw hd
      have f24 : (fun (v : Value) (w : World) => RowB w wz.heap.size v (num (zig a))) (T.getD 24 undef) w := Deps.at 1 hd (by kernel_rfl)
      generalize hx24 : T.getD 24 undef = x24 at f24
      replace f24 := hide f24
      refine .inl ⟨wanted_none rfl, ?_⟩
      have hcv := f24.out.bytes.string (P := Try.prog) Try.underlying27 Try.underlying5 Try.underlying9
      clear hd hv hs hu hw
      go_simp
      exact ⟨_, rfl, DstOk.some rfl, Below.refl _ _, rfl⟩
    · intro T w Q hu hs hv hw hd
      have hx6 : T.getD 6 undef = (.pointer (some ⟨q, 0, none⟩)) := hv 6 (by kernel_rfl)
      refine .inl ⟨wanted_none rfl, ?_⟩
      clear hd hv hu hs hw
      go_simp
      exact ⟨_, rfl, DstOk.some rfl, Below.refl _ _, rfl⟩
    · intro T w Q hu hs hv hw hd
      have hx26 : T.getD 26 undef = (.pointer (some ⟨q, 0, none⟩)) := Deps.at 3 hd (by kernel_rfl)
      refine .inl ⟨wanted_none rfl, ?_⟩
      clear hd hv hs hw
      go_simp
      refine (bytes_any p q (num (zig b)) vb _ (hWb.out.upd hu hFb.out) hlb.out).mono ?_
      rintro e w2 ⟨v2, rfl, h2, hb2⟩
      exact ⟨_, rfl, DstOk.some rfl, hb2, RowB.base h2 hu.size⟩
    · intro T w Q hu hs hv hw hd
      have f27 : (fun (v : Value) (w : World) => RowB w wz.heap.size v (num (zig b))) (T.getD 27 undef) w := Deps.at 4 hd (by kernel_rfl)
      generalize hx27 : T.getD 27 undef = x27 at f27
      replace f27 := hide f27
      refine .inl ⟨wanted_none rfl, ?_⟩
      have hcv := f27.out.bytes.string (P := Try.prog) Try.underlying27 Try.underlying5 Try.underlying9
      clear hd hv hs hu hw
      go_simp
      exact ⟨_, rfl, DstOk.some rfl, Below.refl _ _, rfl⟩
    · intro T w Q hu hs hv hw hd
      have hx25 : T.getD 25 undef = (.string ⟨(num (zig a)).toArray⟩) := Deps.at 2 hd (by kernel_rfl)
      have hx28 : T.getD 28 undef = (.string ⟨(num (zig b)).toArray⟩) := Deps.at 5 hd (by kernel_rfl)
      refine .inl ⟨wanted_none rfl, ?_⟩
      clear hd hv hs hu hw
      go_simp
      exact ⟨_, rfl, DstOk.some rfl, Below.refl _ _, (by show Value.bool _ = Value.bool c; rw [hcs.out])⟩
    · intro T w Q hu hs hv hw hd
      have hx0 : T.getD 0 undef = (.int .i64 a) := hv 0 (by kernel_rfl)
      refine .inl ⟨wanted_none rfl, ?_⟩
      clear hd hv hu hs hw
      go_simp
      exact ⟨_, rfl, DstOk.some rfl, Below.refl _ _, rfl⟩
    · intro T w Q hu hs hv hw hd
      have hx1 : T.getD 1 undef = (.int .i64 b) := hv 1 (by kernel_rfl)
      refine .inl ⟨wanted_none rfl, ?_⟩
      clear hd hv hu hs hw
      go_simp
      exact ⟨_, rfl, DstOk.some rfl, Below.refl _ _, rfl⟩
    · intro T w Q hu hs hv hw hd
      have hx30 : T.getD 30 undef = (.int .i64 a) := Deps.at 7 hd (by kernel_rfl)
      have hx31 : T.getD 31 undef = (.int .i64 b) := Deps.at 8 hd (by kernel_rfl)
      refine .inl ⟨wanted_none rfl, ?_⟩
      clear hd hv hs hu hw
      go_simp
      exact ⟨_, rfl, DstOk.some rfl, Below.refl _ _, (by show Value.bool _ = Value.bool c; rw [hcn.out])⟩
    · intro T w Q hu hs hv hw hd
      have hx29 : T.getD 29 undef = (.bool c) := Deps.at 6 hd (by kernel_rfl)
      have hx32 : T.getD 32 undef = (.bool c) := Deps.at 9 hd (by kernel_rfl)
      refine .inl ⟨wanted_none rfl, ?_⟩
      clear hd hv hs hu hw
      go_simp
      exact ⟨_, rfl, DstOk.some rfl, Below.refl _ _, (by show Value.bool _ = Value.bool true; simp)⟩
    · intro T w Q hu hs hv hw hd
      have hx33 : T.getD 33 undef = (.bool true) := Deps.at 10 hd (by kernel_rfl)
      refine .inl ⟨wanted_none rfl, ?_⟩
      clear hd hv hu hs hw
      go_simp
      exact ⟨_, rfl, DstOk.some rfl, Below.refl _ _, rfl⟩
    · intro T w Q hu hs hv hw hd
      have hx7 : T.getD 7 undef = (.pointer (some ⟨pr, 0, none⟩)) := hv 7 (by kernel_rfl)
      refine .inl ⟨wanted_some rfl (Deps.at 11 hd (by kernel_rfl) : slotOf _ T 11 = .bool true), ?_⟩
      clear hd hv hu hs hw
      go_simp
      exact ⟨_, rfl, DstOk.some rfl, Below.refl _ _, rfl⟩
    · intro T w Q hu hs hv hw hd hc0
      have hc : (fun w => RdS w pr pr (some (num (zig a)))) w := hc0
      have hx35 : T.getD 35 undef = (.pointer (some ⟨pr, 0, none⟩)) := Deps.at 12 hd (by kernel_rfl)
      replace hc := hide hc
      refine .inl ⟨wanted_some rfl (Deps.at 11 hd (by kernel_rfl) : slotOf _ T 11 = .bool true), ?_⟩
      clear hd hv hs hw
      go_simp
      refine (rInt_any pr pr _ _ hc.out).mono ?_
      rintro e w2 ⟨rfl, hU2, hR2⟩
      rw [hread.out] at hR2 ⊢
      exact ⟨_, rfl, DstOk.some rfl, hU2, rfl, hR2⟩
    · intro T w Q hu hs hv hw hd
      have hx0 : T.getD 0 undef = (.int .i64 a) := hv 0 (by kernel_rfl)
      refine .inl ⟨wanted_some rfl (Deps.at 11 hd (by kernel_rfl) : slotOf _ T 11 = .bool true), ?_⟩
      clear hd hv hu hs hw
      go_simp
      exact ⟨_, rfl, DstOk.some rfl, Below.refl _ _, rfl⟩
    · intro T w Q hu hs hv hw hd
      have hx36 : T.getD 36 undef = (.int .i64 a) := Deps.at 13 hd (by kernel_rfl)
      have hx37 : T.getD 37 undef = (.int .i64 a) := Deps.at 14 hd (by kernel_rfl)
      refine .inl ⟨wanted_some rfl (Deps.at 11 hd (by kernel_rfl) : slotOf _ T 11 = .bool true), ?_⟩
      clear hd hv hu hs hw
      go_simp
      exact ⟨_, rfl, DstOk.some rfl, Below.refl _ _, rfl⟩
    · intro T w Q hu hs hv hw hd
      have hx34 : T.getD 34 undef = (.bool true) := Deps.at 11 hd (by kernel_rfl)
      have hx38 : T.getD 38 undef = (.bool true) := Deps.at 15 hd (by kernel_rfl)
      refine .inl ⟨wanted_none rfl, ?_⟩
      clear hd hv hu hs hw
      go_simp
      exact ⟨_, rfl, DstOk.some rfl, Below.refl _ _, rfl⟩
    · intro T w Q hu hs hv hw hd
      have hx39 : T.getD 39 undef = (.bool true) := Deps.at 16 hd (by kernel_rfl)
      refine .inl ⟨wanted_none rfl, ?_⟩
      clear hd hv hu hs hw
      go_simp
      exact ⟨_, rfl, DstOk.some rfl, Below.refl _ _, rfl⟩
    · intro T w Q hu hs hv hw hd
      have hx7 : T.getD 7 undef = (.pointer (some ⟨pr, 0, none⟩)) := hv 7 (by kernel_rfl)
      refine .inl ⟨wanted_some rfl (Deps.at 17 hd (by kernel_rfl) : slotOf _ T 17 = .bool true), ?_⟩
      clear hd hv hu hs hw
      go_simp
      exact ⟨_, rfl, DstOk.some rfl, Below.refl _ _, rfl⟩
    · intro T w Q hu hs hv hw hd hc0
      have hc : (fun (w : World) => RdS w pr pr (some [])) w := hc0
      have hx41 : T.getD 41 undef = (.pointer (some ⟨pr, 0, none⟩)) := Deps.at 18 hd (by kernel_rfl)
      replace hc := hide hc
      refine .inl ⟨wanted_some rfl (Deps.at 17 hd (by kernel_rfl) : slotOf _ T 17 = .bool true), ?_⟩
      clear hd hv hs hw
      go_simp
      refine (done_any pr pr _ _ hc.out).mono ?_
      rintro e w2 ⟨rfl, rfl⟩
      exact ⟨_, rfl, DstOk.some rfl, .refl _ _, rfl, hc.out⟩
    · intro T w Q hu hs hv hw hd
      have hx42 : T.getD 42 undef = (.int .i64 0) := Deps.at 19 hd (by kernel_rfl)
      refine .inl ⟨wanted_some rfl (Deps.at 17 hd (by kernel_rfl) : slotOf _ T 17 = .bool true), ?_⟩
      clear hd hv hu hs hw
      go_simp
      exact ⟨_, rfl, DstOk.some rfl, Below.refl _ _, rfl⟩
    · intro T w Q hu hs hv hw hd
      have hx40 : T.getD 40 undef = (.bool true) := Deps.at 17 hd (by kernel_rfl)
      have hx43 : T.getD 43 undef = (.bool true) := Deps.at 20 hd (by kernel_rfl)
      refine .inl ⟨wanted_none rfl, ?_⟩
      clear hd hv hu hs hw
      go_simp
      exact ⟨_, rfl, DstOk.some rfl, Below.refl _ _, rfl⟩
    · intro T w Q hu hs hv hw hd
      have hx44 : T.getD 44 undef = (.bool true) := Deps.at 21 hd (by kernel_rfl)
      refine .inl ⟨wanted_none rfl, ?_⟩
      clear hd hv hu hs hw
      go_simp
      exact ⟨_, rfl, DstOk.some rfl, Below.refl _ _, rfl⟩
    · intro T w Q hu hs hv hw hd
      have hx0 : T.getD 0 undef = (.int .i64 a) := hv 0 (by kernel_rfl)
      refine .inl ⟨wanted_some rfl (Deps.at 22 hd (by kernel_rfl) : slotOf _ T 22 = .bool true), ?_⟩
      clear hd hv hu hs hw
      go_simp
      exact ⟨_, rfl, DstOk.some rfl, Below.refl _ _, rfl⟩
    · intro T w Q hu hs hv hw hd
      have hx46 : T.getD 46 undef = (.int .i64 a) := Deps.at 23 hd (by kernel_rfl)
      refine .inl ⟨wanted_some rfl (Deps.at 22 hd (by kernel_rfl) : slotOf _ T 22 = .bool true), ?_⟩
      clear hd hv hs hw
      go_simp
      refine (lawZig_any a _ ha.1 ha.2).mono ?_
      rintro e w2 ⟨rfl, rfl⟩
      exact ⟨_, rfl, DstOk.some rfl, Below.refl _ _, rfl⟩
    · intro T w Q hu hs hv hw hd
      have hx1 : T.getD 1 undef = (.int .i64 b) := hv 1 (by kernel_rfl)
      refine .inl ⟨wanted_some rfl (Deps.at 22 hd (by kernel_rfl) : slotOf _ T 22 = .bool true), ?_⟩
      clear hd hv hu hs hw
      go_simp
      exact ⟨_, rfl, DstOk.some rfl, Below.refl _ _, rfl⟩
    · intro T w Q hu hs hv hw hd
      have hx48 : T.getD 48 undef = (.int .i64 b) := Deps.at 25 hd (by kernel_rfl)
      refine .inl ⟨wanted_some rfl (Deps.at 22 hd (by kernel_rfl) : slotOf _ T 22 = .bool true), ?_⟩
      clear hd hv hs hw
      go_simp
      refine (lawZig_any b _ hb.1 hb.2).mono ?_
      rintro e w2 ⟨rfl, rfl⟩
      exact ⟨_, rfl, DstOk.some rfl, Below.refl _ _, rfl⟩
    · intro T w Q hu hs hv hw hd
      have hx47 : T.getD 47 undef = (.int .u64 (zig a : Nat)) := Deps.at 24 hd (by kernel_rfl)
      have hx49 : T.getD 49 undef = (.int .u64 (zig b : Nat)) := Deps.at 26 hd (by kernel_rfl)
      refine .inl ⟨wanted_some rfl (Deps.at 22 hd (by kernel_rfl) : slotOf _ T 22 = .bool true), ?_⟩
      have hg : (zig b : Int) < (zig a : Int) := by have := hgt.out; omega
      clear hd hv hs hu hw
      go_simp
      exact ⟨_, rfl, DstOk.some rfl, Below.refl _ _, rfl⟩
    · intro T w Q hu hs hv hw hd
      have hx50 : T.getD 50 undef = (.bool true) := Deps.at 27 hd (by kernel_rfl)
      refine .inl ⟨wanted_some rfl (Deps.at 22 hd (by kernel_rfl) : slotOf _ T 22 = .bool true), ?_⟩
      clear hd hv hu hs hw
      go_simp
      exact ⟨_, rfl, DstOk.some rfl, Below.refl _ _, rfl⟩
    · intro T w Q hu hs hv hw hd
      exact .inr ⟨wanted_not rfl (Deps.at 28 hd (by kernel_rfl) : slotOf _ T 28 = .bool (!false)), rfl⟩
    · intro T w Q hu hs hv hw hd
      exact .inr ⟨wanted_not rfl (Deps.at 28 hd (by kernel_rfl) : slotOf _ T 28 = .bool (!false)), rfl⟩
    · intro T w Q hu hs hv hw hd
      exact .inr ⟨wanted_not rfl (Deps.at 28 hd (by kernel_rfl) : slotOf _ T 28 = .bool (!false)), rfl⟩
    · intro T w Q hu hs hv hw hd
      exact .inr ⟨wanted_not rfl (Deps.at 28 hd (by kernel_rfl) : slotOf _ T 28 = .bool (!false)), rfl⟩
    · intro T w Q hu hs hv hw hd
      exact .inr ⟨wanted_not rfl (Deps.at 28 hd (by kernel_rfl) : slotOf _ T 28 = .bool (!false)), rfl⟩
    · intro T w Q hu hs hv hw hd
      exact .inr ⟨wanted_not rfl (Deps.at 28 hd (by kernel_rfl) : slotOf _ T 28 = .bool (!false)), rfl⟩
    · intro T w Q hu hs hv hw hd
      exact .inr ⟨wanted_not rfl (Deps.at 28 hd (by kernel_rfl) : slotOf _ T 28 = .bool (!false)), rfl⟩
    · intro T w Q hu hs hv hw hd
      have hx51 : T.getD 51 undef = (.bool true) := Deps.at 28 hd (by kernel_rfl)
      have hx58 : T.getD 58 undef = undef := Deps.at 35 hd (by kernel_rfl)
      refine .inl ⟨wanted_some rfl (Deps.at 22 hd (by kernel_rfl) : slotOf _ T 22 = .bool true), ?_⟩
      clear hd hv hu hs hw
      go_simp
      exact ⟨_, rfl, DstOk.some rfl, Below.refl _ _, rfl⟩
    · intro T w Q hu hs hv hw hd
      have hx45 : T.getD 45 undef = (.bool true) := Deps.at 22 hd (by kernel_rfl)
      have hx59 : T.getD 59 undef = (Value.bool true) := Deps.at 36 hd (by kernel_rfl)
      refine .inl ⟨wanted_none rfl, ?_⟩
      clear hd hv hu hs hw
      go_simp
      exact ⟨_, rfl, DstOk.some rfl, Below.refl _ _, rfl⟩
    · intro T w Q hu hs hv hw hd
      have hx60 : T.getD 60 undef = (Value.bool true) := Deps.at 37 hd (by kernel_rfl)
      refine .inl ⟨wanted_none rfl, ?_⟩
      clear hd hv hu hs hw
      go_simp
      exact ⟨_, rfl, DstOk.some rfl, Below.refl _ _, rfl⟩
    · intro T w hu hs hv hf hcur
      have f38 : T.getD 4 undef = (Value.bool true) := hf 38 (by decide)
      have hcur1 : (fun (w : World) => RdS w pr pr (some [])) w := hcur
      replace hcur1 := hcur1
      clear hf hs hv hcur
      go_wp2_with fail
      go_ret
      exact ⟨congrArg Ending.returned f38, hbel.out.trans (hu.below hbel.out.size hprw.out)⟩
  · replace hgt := hide hgt
    refine wp_region_flow (At pr) (factAt [(fun v _ => v = (.pointer (some ⟨p, 0, none⟩))), (fun v w => RowB w wz.heap.size v (num (zig a))), (fun v _ => v = (.string ⟨(num (zig a)).toArray⟩)), (fun v _ => v = (.pointer (some ⟨q, 0, none⟩))), (fun v w => RowB w wz.heap.size v (num (zig b))), (fun v _ => v = (.string ⟨(num (zig b)).toArray⟩)), (fun v _ => v = (.bool c)), (fun v _ => v = (.int .i64 a)), (fun v _ => v = (.int .i64 b)), (fun v _ => v = (.bool c)), (fun v _ => v = (.bool true)), (fun v _ => v = (.bool true)), (fun v _ => v = (.pointer (some ⟨pr, 0, none⟩))), (fun v _ => v = (.int .i64 a)), (fun v _ => v = (.int .i64 a)), (fun v _ => v = (.bool true)), (fun v _ => v = (.bool true)), (fun v _ => v = (.bool true)), (fun v _ => v = (.pointer (some ⟨pr, 0, none⟩))), (fun v _ => v = (.int .i64 0)), (fun v _ => v = (.bool true)), (fun v _ => v = (.bool true)), (fun v _ => v = (.bool true)), (fun v _ => v = (.int .i64 a)), (fun v _ => v = (.int .u64 (zig a : Nat))), (fun v _ => v = (.int .i64 b)), (fun v _ => v = (.int .u64 (zig b : Nat))), (fun v _ => v = (.bool false)), (fun v _ => v = (.bool false)), (fun v _ => v = (.pointer (some ⟨p, 0, none⟩))), (fun v w => RowB w wz.heap.size v (num (zig a))), (fun v _ => v = (.int .i64 ((num (zig a)).length : Nat))), (fun v _ => v = (.pointer (some ⟨q, 0, none⟩))), (fun v w => RowB w wz.heap.size v (num (zig b))), (fun v _ => v = (.int .i64 ((num (zig b)).length : Nat))), (fun v _ => v = (.bool true)), (fun v _ => v = (.bool true)), (fun v _ => v = (.bool true)), (fun v _ => v = (.bool true))]) [none, none, none, none, none, none, none, none, none, none, none, none, none, some (fun _ w => RdS w pr pr (some [])), none, none, none, none, none, some (fun _ w => RdS w pr pr (some []))] (fun w => RdS w pr pr (some (num (zig a)))) (by kernel_rfl) (fkept_at ⟨FKept.eq _, rowB_kept hF.out, FKept.eq _, FKept.eq _, rowB_kept hF.out, FKept.eq _, FKept.eq _, FKept.eq _, FKept.eq _, FKept.eq _, FKept.eq _, FKept.eq _, FKept.eq _, FKept.eq _, FKept.eq _, FKept.eq _, FKept.eq _, FKept.eq _, FKept.eq _, FKept.eq _, FKept.eq _, FKept.eq _, FKept.eq _, FKept.eq _, FKept.eq _, FKept.eq _, FKept.eq _, FKept.eq _, FKept.eq _, FKept.eq _, rowB_kept hF.out, FKept.eq _, FKept.eq _, rowB_kept hF.out, FKept.eq _, FKept.eq _, FKept.eq _, FKept.eq _, FKept.eq _, trivial⟩) (fun _ _ h hb => rdS_kept .nilIface _ _ h hb) ⟨rdS_kept, rdS_kept, trivial⟩ (by kernel_rfl) (by kernel_rfl) (by kernel_rfl) (by kernel_rfl) (Nat.le_of_ble_eq_true (by kernel_rfl)) ?_ ⟨?_, ?_, ?_, ?_, ?_, ?_, ?_, ?_, ?_, ?_, ?_, ?_, ?_, ?_, ?_, ?_, ?_, ?_, ?_, ?_, ?_, ?_, ?_, ?_, ?_, ?_, ?_, ?_, ?_, ?_, ?_, ?_, ?_, ?_, ?_, ?_, ?_, ?_, ?_, trivial⟩ ?_
    · exact hrd.out
    · intro T w Q hu hs hv hw hd
      have hx5 : T.getD 5 undef = (.pointer (some ⟨p, 0, none⟩)) := hv 5 (by kernel_rfl)
      refine .inl ⟨wanted_none rfl, ?_⟩
      clear hd hv hu hs hw
      go_simp
      exact ⟨_, rfl, DstOk.some rfl, Below.refl _ _, rfl⟩
    · intro T w Q hu hs hv hw hd
      have hx23 : T.getD 23 undef = (.pointer (some ⟨p, 0, none⟩)) := Deps.at 0 hd (by kernel_rfl)
      refine .inl ⟨wanted_none rfl, ?_⟩
      clear hd hv hs hw
      go_simp
      refine (bytes_any p p (num (zig a)) va _ (hWa.out.upd hu hFa.out) hla.out).mono ?_
      rintro e w2 ⟨v2, rfl, h2, hb2⟩
      exact ⟨_, rfl, DstOk.some rfl, hb2, RowB.base h2 hu.size⟩
    · intro T w Q hu hs hv hw hd
      have f24 : (fun (v : Value) (w : World) => RowB w wz.heap.size v (num (zig a))) (T.getD 24 undef) w := Deps.at 1 hd (by kernel_rfl)
      generalize hx24 : T.getD 24 undef = x24 at f24
      replace f24 := hide f24
      refine .inl ⟨wanted_none rfl, ?_⟩
      have hcv := f24.out.bytes.string (P := Try.prog) Try.underlying27 Try.underlying5 Try.underlying9
      clear hd hv hs hu hw
      go_simp
      exact ⟨_, rfl, DstOk.some rfl, Below.refl _ _, rfl⟩
    · intro T w Q hu hs hv hw hd
      have hx6 : T.getD 6 undef = (.pointer (some ⟨q, 0, none⟩)) := hv 6 (by kernel_rfl)
      refine .inl ⟨wanted_none rfl, ?_⟩
      clear hd hv hu hs hw
      go_simp
      exact ⟨_, rfl, DstOk.some rfl, Below.refl _ _, rfl⟩
    · intro T w Q hu hs hv hw hd
      have hx26 : T.getD 26 undef = (.pointer (some ⟨q, 0, none⟩)) := Deps.at 3 hd (by kernel_rfl)
      refine .inl ⟨wanted_none rfl, ?_⟩
      clear hd hv hs hw
      go_simp
      refine (bytes_any p q (num (zig b)) vb _ (hWb.out.upd hu hFb.out) hlb.out).mono ?_
      rintro e w2 ⟨v2, rfl, h2, hb2⟩
      exact ⟨_, rfl, DstOk.some rfl, hb2, RowB.base h2 hu.size⟩
    · intro T w Q hu hs hv hw hd
      have f27 : (fun (v : Value) (w : World) => RowB w wz.heap.size v (num (zig b))) (T.getD 27 undef) w := Deps.at 4 hd (by kernel_rfl)
      generalize hx27 : T.getD 27 undef = x27 at f27
      replace f27 := hide f27
      refine .inl ⟨wanted_none rfl, ?_⟩
      have hcv := f27.out.bytes.string (P := Try.prog) Try.underlying27 Try.underlying5 Try.underlying9
      clear hd hv hs hu hw
      go_simp
      exact ⟨_, rfl, DstOk.some rfl, Below.refl _ _, rfl⟩
    · intro T w Q hu hs hv hw hd
      have hx25 : T.getD 25 undef = (.string ⟨(num (zig a)).toArray⟩) := Deps.at 2 hd (by kernel_rfl)
      have hx28 : T.getD 28 undef = (.string ⟨(num (zig b)).toArray⟩) := Deps.at 5 hd (by kernel_rfl)
      refine .inl ⟨wanted_none rfl, ?_⟩
      clear hd hv hs hu hw
      go_simp
      exact ⟨_, rfl, DstOk.some rfl, Below.refl _ _, (by show Value.bool _ = Value.bool c; rw [hcs.out])⟩
    · intro T w Q hu hs hv hw hd
      have hx0 : T.getD 0 undef = (.int .i64 a) := hv 0 (by kernel_rfl)
      refine .inl ⟨wanted_none rfl, ?_⟩
      clear hd hv hu hs hw
      go_simp
      exact ⟨_, rfl, DstOk.some rfl, Below.refl _ _, rfl⟩
    · intro T w Q hu hs hv hw hd
      have hx1 : T.getD 1 undef = (.int .i64 b) := hv 1 (by kernel_rfl)
      refine .inl ⟨wanted_none rfl, ?_⟩
      clear hd hv hu hs hw
      go_simp
      exact ⟨_, rfl, DstOk.some rfl, Below.refl _ _, rfl⟩
    · intro T w Q hu hs hv hw hd
      have hx30 : T.getD 30 undef = (.int .i64 a) := Deps.at 7 hd (by kernel_rfl)
      have hx31 : T.getD 31 undef = (.int .i64 b) := Deps.at 8 hd (by kernel_rfl)
      refine .inl ⟨wanted_none rfl, ?_⟩
      clear hd hv hs hu hw
      go_simp
      exact ⟨_, rfl, DstOk.some rfl, Below.refl _ _, (by show Value.bool _ = Value.bool c; rw [hcn.out])⟩
    · intro T w Q hu hs hv hw hd
      have hx29 : T.getD 29 undef = (.bool c) := Deps.at 6 hd (by kernel_rfl)
      have hx32 : T.getD 32 undef = (.bool c) := Deps.at 9 hd (by kernel_rfl)
      refine .inl ⟨wanted_none rfl, ?_⟩
      clear hd hv hs hu hw
      go_simp
      exact ⟨_, rfl, DstOk.some rfl, Below.refl _ _, (by show Value.bool _ = Value.bool true; simp)⟩
    · intro T w Q hu hs hv hw hd
      have hx33 : T.getD 33 undef = (.bool true) := Deps.at 10 hd (by kernel_rfl)
      refine .inl ⟨wanted_none rfl, ?_⟩
      clear hd hv hu hs hw
      go_simp
      exact ⟨_, rfl, DstOk.some rfl, Below.refl _ _, rfl⟩
    · intro T w Q hu hs hv hw hd
      have hx7 : T.getD 7 undef = (.pointer (some ⟨pr, 0, none⟩)) := hv 7 (by kernel_rfl)
      refine .inl ⟨wanted_some rfl (Deps.at 11 hd (by kernel_rfl) : slotOf _ T 11 = .bool true), ?_⟩
      clear hd hv hu hs hw
      go_simp
      exact ⟨_, rfl, DstOk.some rfl, Below.refl _ _, rfl⟩
    · intro T w Q hu hs hv hw hd hc0
      have hc : (fun w => RdS w pr pr (some (num (zig a)))) w := hc0
      have hx35 : T.getD 35 undef = (.pointer (some ⟨pr, 0, none⟩)) := Deps.at 12 hd (by kernel_rfl)
      replace hc := hide hc
      refine .inl ⟨wanted_some rfl (Deps.at 11 hd (by kernel_rfl) : slotOf _ T 11 = .bool true), ?_⟩
      clear hd hv hs hw
      go_simp
      refine (rInt_any pr pr _ _ hc.out).mono ?_
      rintro e w2 ⟨rfl, hU2, hR2⟩
      rw [hread.out] at hR2 ⊢
      exact ⟨_, rfl, DstOk.some rfl, hU2, rfl, hR2⟩
    · intro T w Q hu hs hv hw hd
      have hx0 : T.getD 0 undef = (.int .i64 a) := hv 0 (by kernel_rfl)
      refine .inl ⟨wanted_some rfl (Deps.at 11 hd (by kernel_rfl) : slotOf _ T 11 = .bool true), ?_⟩
      clear hd hv hu hs hw
      go_simp
      exact ⟨_, rfl, DstOk.some rfl, Below.refl _ _, rfl⟩
    · intro T w Q hu hs hv hw hd
      have hx36 : T.getD 36 undef = (.int .i64 a) := Deps.at 13 hd (by kernel_rfl)
      have hx37 : T.getD 37 undef = (.int .i64 a) := Deps.at 14 hd (by kernel_rfl)
      refine .inl ⟨wanted_some rfl (Deps.at 11 hd (by kernel_rfl) : slotOf _ T 11 = .bool true), ?_⟩
      clear hd hv hu hs hw
      go_simp
      exact ⟨_, rfl, DstOk.some rfl, Below.refl _ _, rfl⟩
    · intro T w Q hu hs hv hw hd
      have hx34 : T.getD 34 undef = (.bool true) := Deps.at 11 hd (by kernel_rfl)
      have hx38 : T.getD 38 undef = (.bool true) := Deps.at 15 hd (by kernel_rfl)
      refine .inl ⟨wanted_none rfl, ?_⟩
      clear hd hv hu hs hw
      go_simp
      exact ⟨_, rfl, DstOk.some rfl, Below.refl _ _, rfl⟩
    · intro T w Q hu hs hv hw hd
      have hx39 : T.getD 39 undef = (.bool true) := Deps.at 16 hd (by kernel_rfl)
      refine .inl ⟨wanted_none rfl, ?_⟩
      clear hd hv hu hs hw
      go_simp
      exact ⟨_, rfl, DstOk.some rfl, Below.refl _ _, rfl⟩
    · intro T w Q hu hs hv hw hd
      have hx7 : T.getD 7 undef = (.pointer (some ⟨pr, 0, none⟩)) := hv 7 (by kernel_rfl)
      refine .inl ⟨wanted_some rfl (Deps.at 17 hd (by kernel_rfl) : slotOf _ T 17 = .bool true), ?_⟩
      clear hd hv hu hs hw
      go_simp
      exact ⟨_, rfl, DstOk.some rfl, Below.refl _ _, rfl⟩
    · intro T w Q hu hs hv hw hd hc0
      have hc : (fun (w : World) => RdS w pr pr (some [])) w := hc0
      have hx41 : T.getD 41 undef = (.pointer (some ⟨pr, 0, none⟩)) := Deps.at 18 hd (by kernel_rfl)
      replace hc := hide hc
      refine .inl ⟨wanted_some rfl (Deps.at 17 hd (by kernel_rfl) : slotOf _ T 17 = .bool true), ?_⟩
      clear hd hv hs hw
      go_simp
      refine (done_any pr pr _ _ hc.out).mono ?_
      rintro e w2 ⟨rfl, rfl⟩
      exact ⟨_, rfl, DstOk.some rfl, .refl _ _, rfl, hc.out⟩
    · intro T w Q hu hs hv hw hd
      have hx42 : T.getD 42 undef = (.int .i64 0) := Deps.at 19 hd (by kernel_rfl)
      refine .inl ⟨wanted_some rfl (Deps.at 17 hd (by kernel_rfl) : slotOf _ T 17 = .bool true), ?_⟩
      clear hd hv hu hs hw
      go_simp
      exact ⟨_, rfl, DstOk.some rfl, Below.refl _ _, rfl⟩
    · intro T w Q hu hs hv hw hd
      have hx40 : T.getD 40 undef = (.bool true) := Deps.at 17 hd (by kernel_rfl)
      have hx43 : T.getD 43 undef = (.bool true) := Deps.at 20 hd (by kernel_rfl)
      refine .inl ⟨wanted_none rfl, ?_⟩
      clear hd hv hu hs hw
      go_simp
      exact ⟨_, rfl, DstOk.some rfl, Below.refl _ _, rfl⟩
    · intro T w Q hu hs hv hw hd
      have hx44 : T.getD 44 undef = (.bool true) := Deps.at 21 hd (by kernel_rfl)
      refine .inl ⟨wanted_none rfl, ?_⟩
      clear hd hv hu hs hw
      go_simp
      exact ⟨_, rfl, DstOk.some rfl, Below.refl _ _, rfl⟩
    · intro T w Q hu hs hv hw hd
      have hx0 : T.getD 0 undef = (.int .i64 a) := hv 0 (by kernel_rfl)
      refine .inl ⟨wanted_some rfl (Deps.at 22 hd (by kernel_rfl) : slotOf _ T 22 = .bool true), ?_⟩
      clear hd hv hu hs hw
      go_simp
      exact ⟨_, rfl, DstOk.some rfl, Below.refl _ _, rfl⟩
    · intro T w Q hu hs hv hw hd
      have hx46 : T.getD 46 undef = (.int .i64 a) := Deps.at 23 hd (by kernel_rfl)
      refine .inl ⟨wanted_some rfl (Deps.at 22 hd (by kernel_rfl) : slotOf _ T 22 = .bool true), ?_⟩
      clear hd hv hs hw
      go_simp
      refine (lawZig_any a _ ha.1 ha.2).mono ?_
      rintro e w2 ⟨rfl, rfl⟩
      exact ⟨_, rfl, DstOk.some rfl, Below.refl _ _, rfl⟩
    · intro T w Q hu hs hv hw hd
      have hx1 : T.getD 1 undef = (.int .i64 b) := hv 1 (by kernel_rfl)
      refine .inl ⟨wanted_some rfl (Deps.at 22 hd (by kernel_rfl) : slotOf _ T 22 = .bool true), ?_⟩
      clear hd hv hu hs hw
      go_simp
      exact ⟨_, rfl, DstOk.some rfl, Below.refl _ _, rfl⟩
    · intro T w Q hu hs hv hw hd
      have hx48 : T.getD 48 undef = (.int .i64 b) := Deps.at 25 hd (by kernel_rfl)
      refine .inl ⟨wanted_some rfl (Deps.at 22 hd (by kernel_rfl) : slotOf _ T 22 = .bool true), ?_⟩
      clear hd hv hs hw
      go_simp
      refine (lawZig_any b _ hb.1 hb.2).mono ?_
      rintro e w2 ⟨rfl, rfl⟩
      exact ⟨_, rfl, DstOk.some rfl, Below.refl _ _, rfl⟩
    · intro T w Q hu hs hv hw hd
      have hx47 : T.getD 47 undef = (.int .u64 (zig a : Nat)) := Deps.at 24 hd (by kernel_rfl)
      have hx49 : T.getD 49 undef = (.int .u64 (zig b : Nat)) := Deps.at 26 hd (by kernel_rfl)
      refine .inl ⟨wanted_some rfl (Deps.at 22 hd (by kernel_rfl) : slotOf _ T 22 = .bool true), ?_⟩
      have hg : ¬ (zig b : Int) < (zig a : Int) := by have := hgt.out; omega
      clear hd hv hs hu hw
      go_simp
      exact ⟨_, rfl, DstOk.some rfl, Below.refl _ _, rfl⟩
    · intro T w Q hu hs hv hw hd
      have hx50 : T.getD 50 undef = (.bool false) := Deps.at 27 hd (by kernel_rfl)
      refine .inl ⟨wanted_some rfl (Deps.at 22 hd (by kernel_rfl) : slotOf _ T 22 = .bool true), ?_⟩
      clear hd hv hu hs hw
      go_simp
      exact ⟨_, rfl, DstOk.some rfl, Below.refl _ _, rfl⟩
    · intro T w Q hu hs hv hw hd
      have hx5 : T.getD 5 undef = (.pointer (some ⟨p, 0, none⟩)) := hv 5 (by kernel_rfl)
      refine .inl ⟨wanted_some rfl (Deps.at 28 hd (by kernel_rfl) : slotOf _ T 28 = .bool false), ?_⟩
      clear hd hv hu hs hw
      go_simp
      exact ⟨_, rfl, DstOk.some rfl, Below.refl _ _, rfl⟩
    · intro T w Q hu hs hv hw hd
      have hx52 : T.getD 52 undef = (.pointer (some ⟨p, 0, none⟩)) := Deps.at 29 hd (by kernel_rfl)
      refine .inl ⟨wanted_some rfl (Deps.at 28 hd (by kernel_rfl) : slotOf _ T 28 = .bool false), ?_⟩
      clear hd hv hs hw
      go_simp
      refine (bytes_any p p (num (zig a)) va _ (hWa.out.upd hu hFa.out) hla.out).mono ?_
      rintro e w2 ⟨v2, rfl, h2, hb2⟩
      exact ⟨_, rfl, DstOk.some rfl, hb2, RowB.base h2 hu.size⟩
    · intro T w Q hu hs hv hw hd
      have f53 : (fun (v : Value) (w : World) => RowB w wz.heap.size v (num (zig a))) (T.getD 53 undef) w := Deps.at 30 hd (by kernel_rfl)
      generalize hx53 : T.getD 53 undef = x53 at f53
      replace f53 := hide f53
      refine .inl ⟨wanted_some rfl (Deps.at 28 hd (by kernel_rfl) : slotOf _ T 28 = .bool false), ?_⟩
      obtain ⟨A1, c1, rfl⟩ := f53.out.sl
      clear hd hv hs hu hw
      go_simp
      exact ⟨_, rfl, DstOk.some rfl, Below.refl _ _, rfl⟩
    · intro T w Q hu hs hv hw hd
      have hx6 : T.getD 6 undef = (.pointer (some ⟨q, 0, none⟩)) := hv 6 (by kernel_rfl)
      refine .inl ⟨wanted_some rfl (Deps.at 28 hd (by kernel_rfl) : slotOf _ T 28 = .bool false), ?_⟩
      clear hd hv hu hs hw
      go_simp
      exact ⟨_, rfl, DstOk.some rfl, Below.refl _ _, rfl⟩
    · intro T w Q hu hs hv hw hd
      have hx55 : T.getD 55 undef = (.pointer (some ⟨q, 0, none⟩)) := Deps.at 32 hd (by kernel_rfl)
      refine .inl ⟨wanted_some rfl (Deps.at 28 hd (by kernel_rfl) : slotOf _ T 28 = .bool false), ?_⟩
      clear hd hv hs hw
      go_simp
      refine (bytes_any p q (num (zig b)) vb _ (hWb.out.upd hu hFb.out) hlb.out).mono ?_
      rintro e w2 ⟨v2, rfl, h2, hb2⟩
      exact ⟨_, rfl, DstOk.some rfl, hb2, RowB.base h2 hu.size⟩
    · intro T w Q hu hs hv hw hd
      have f56 : (fun (v : Value) (w : World) => RowB w wz.heap.size v (num (zig b))) (T.getD 56 undef) w := Deps.at 33 hd (by kernel_rfl)
      generalize hx56 : T.getD 56 undef = x56 at f56
      replace f56 := hide f56
      refine .inl ⟨wanted_some rfl (Deps.at 28 hd (by kernel_rfl) : slotOf _ T 28 = .bool false), ?_⟩
      obtain ⟨A1, c1, rfl⟩ := f56.out.sl
      clear hd hv hs hu hw
      go_simp
      exact ⟨_, rfl, DstOk.some rfl, Below.refl _ _, rfl⟩
    · intro T w Q hu hs hv hw hd
      have hx54 : T.getD 54 undef = (.int .i64 ((num (zig a)).length : Nat)) := Deps.at 31 hd (by kernel_rfl)
      have hx57 : T.getD 57 undef = (.int .i64 ((num (zig b)).length : Nat)) := Deps.at 34 hd (by kernel_rfl)
      refine .inl ⟨wanted_some rfl (Deps.at 28 hd (by kernel_rfl) : slotOf _ T 28 = .bool false), ?_⟩
      have hle := num_mono (zig b) (zig a) (by have := hgt.out; omega)
      clear hd hv hs hu hw
      go_simp
      exact ⟨_, rfl, DstOk.some rfl, Below.refl _ _, rfl⟩
    · intro T w Q hu hs hv hw hd
      have hx51 : T.getD 51 undef = (.bool false) := Deps.at 28 hd (by kernel_rfl)
      have hx58 : T.getD 58 undef = (.bool true) := Deps.at 35 hd (by kernel_rfl)
      refine .inl ⟨wanted_some rfl (Deps.at 22 hd (by kernel_rfl) : slotOf _ T 22 = .bool true), ?_⟩
      clear hd hv hu hs hw
      go_simp
      exact ⟨_, rfl, DstOk.some rfl, Below.refl _ _, rfl⟩
    · intro T w Q hu hs hv hw hd
      have hx45 : T.getD 45 undef = (.bool true) := Deps.at 22 hd (by kernel_rfl)
      have hx59 : T.getD 59 undef = (.bool true) := Deps.at 36 hd (by kernel_rfl)
      refine .inl ⟨wanted_none rfl, ?_⟩
      clear hd hv hu hs hw
      go_simp
      exact ⟨_, rfl, DstOk.some rfl, Below.refl _ _, rfl⟩
    · intro T w Q hu hs hv hw hd
      have hx60 : T.getD 60 undef = (.bool true) := Deps.at 37 hd (by kernel_rfl)
      refine .inl ⟨wanted_none rfl, ?_⟩
      clear hd hv hu hs hw
      go_simp
      exact ⟨_, rfl, DstOk.some rfl, Below.refl _ _, rfl⟩
    · intro T w hu hs hv hf hcur
      have f38 : T.getD 4 undef = (.bool true) := hf 38 (by decide)
      have hcur1 : (fun (w : World) => RdS w pr pr (some [])) w := hcur
      replace hcur1 := hcur1
      clear hf hs hv hcur
      go_wp2_with fail
      go_ret
      exact ⟨congrArg Ending.returned f38, hbel.out.trans (hu.below hbel.out.size hprw.out)⟩
end Go.Proofs.Ytajpgkedlajjdaa
