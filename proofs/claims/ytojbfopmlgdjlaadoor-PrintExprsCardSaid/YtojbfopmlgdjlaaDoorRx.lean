/- Walks of the document's printer: numbers, expressions. -/
import Derived.Test.YtojbfopmlgdjlaaDoorTr
import Derived.Test.YtojbfopmlgdjlaaDoorGLxC
import Derived.Test.YtojbfopmlgdjlaaDoorFlowS
import Derived.Test.YtojbfopmlgdjlaaDoorGx
namespace Go.Proofs.YtojbfopmlgdjlaaDoor
open Go Go.RowKit

theorem cut_one {l : List UInt8} {i : Nat} {c : UInt8} (h : l[i]? = some c) (w : World) : (Instr.slice 9 (.string (strB l)) (some (.int .i64 i)) (some (.int .i64 ((i : Int) + 1))) none).run Tryd.prog w = .ok (.string (strB [c])) w := by
  obtain ⟨hi, rfl⟩ := List.getElem?_eq_some_iff.1 h
  have e : (l.drop i).take (i + 1 - i) = [l[i]] := by
    rw [show i + 1 - i = 1 by omega, List.drop_eq_getElem_cons hi]
    rfl
  rw [← e]
  exact str_cut (l := l) (i := i) (j := i + 1) (by omega) (by omega) w
set_option maxRecDepth 100000 in
theorem dec6_one (n : Nat) (h : n < 10) (w : World) : Calls Tryd.prog 22 #[.int .i64 n] w fun e w' => e = .returned (.string (strB (Lib.decDigits n))) ∧ w = w' := by
  rw [Lib.decDigits_one h]
  have hl : ([48, 49, 50, 51, 52, 53, 54, 55, 56, 57] : List UInt8)[n]? = some (UInt8.ofNat (48 + n)) := by
    have : n = 0 ∨ n = 1 ∨ n = 2 ∨ n = 3 ∨ n = 4 ∨ n = 5 ∨ n = 6 ∨ n = 7 ∨ n = 8 ∨ n = 9 := by omega
    rcases this with rfl | rfl | rfl | rfl | rfl | rfl | rfl | rfl | rfl | rfl <;> rfl
  have hcut : ∀ w, (Instr.slice 9 (.string ⟨#[48, 49, 50, 51, 52, 53, 54, 55, 56, 57]⟩) (some (.int .i64 n)) (some (.int .i64 ((n : Int) + 1))) none).run Tryd.prog w = .ok (.string (strB [UInt8.ofNat (48 + n)])) w := fun w => cut_one hl w
  replace hl := hide hl
  have h10 : (n : Int) < 10 := by omega
  have h0 : ¬ (n : Int) < 0 := by omega
  clear h
  go_enter Tryd.func22, Tryd.ntmps22
  go_wp2_with fail
  go_ret
  exact ⟨rfl, rfl⟩
set_option maxRecDepth 100000 in
theorem dec6_any (n : Nat) (hn : n ≤ 9223372036854775807) (w : World) : Calls Tryd.prog 22 #[.int .i64 n] w fun e w' => e = .returned (.string (strB (Lib.decDigits n))) ∧ w = w' := by
  induction n using Nat.strongRecOn generalizing w with
  | _ n ih =>
    by_cases h : n < 10
    · exact dec6_one n h w
    · have h1 := hide (fun w => ih (n / 10) (by omega) (by omega) w)
      have h2 := hide (fun w => dec6_one (n % 10) (by omega) w)
      have hd : Lib.decDigits n = Lib.decDigits (n / 10) ++ Lib.decDigits (n % 10) := by
        rw [Lib.decDigits, dif_neg h, Lib.decDigits_one (i := n % 10) (by omega)]
      have hl1 := dec_len (n / 10) (by omega)
      have hl2 := dec_len (n % 10) (by omega)
      rw [hd]
      have h3 := hide (fun w => str_add (Lib.decDigits (n / 10)) (Lib.decDigits (n % 10)) (by omega) w)
      generalize Lib.decDigits (n / 10) = P1 at *
      generalize Lib.decDigits (n % 10) = P2 at *
      have h10 : ¬ (n : Int) < 10 := by omega
      have h0 : ¬ (n : Int) < 0 := by omega
      have hq : (n : Int).tdiv 10 = ((n / 10 : Nat) : Int) := by rw [Int.tdiv_eq_ediv_of_nonneg (by omega)]; omega
      have hr : (n : Int).tmod 10 = ((n % 10 : Nat) : Int) := by rw [Int.tmod_eq_emod_of_nonneg (by omega)]; omega
      have hw1 : IntKind.i64.wrap ((n / 10 : Nat) : Int) = ((n / 10 : Nat) : Int) := by simp [IntKind.wrap, IntKind.bits, IntKind.signed]; omega
      have hw2 : IntKind.i64.wrap ((n % 10 : Nat) : Int) = ((n % 10 : Nat) : Int) := by simp [IntKind.wrap, IntKind.bits, IntKind.signed]; omega
      clear hd ih hl1 hl2
      generalize n / 10 = q at *
      generalize n % 10 = r at *
      go_enter Tryd.func22, Tryd.ntmps22
      go_wp2_with fail
      refine (h1.out _).mono ?_
      rintro e w1 ⟨rfl, rfl⟩
      go_wp2_with fail
      refine (h2.out _).mono ?_
      rintro e w1 ⟨rfl, rfl⟩
      have h4 := h3.out
      unfold strB at h4 ⊢
      go_wp2_with fail
      go_ret
      exact ⟨rfl, rfl⟩
def lowE (e : Ex) : Bool := decide (bindE e = 0)
def highE (e : Ex) : Bool := decide (bindE e = 1)
set_option maxRecDepth 100000 in
theorem low_any (e : Ex) (v : Value) (w : World) (S : Nat → Prop) (h : ExA w S e v) : Calls Tryd.prog 24 #[v] w fun r w' => r = .returned (.bool (lowE e)) ∧ w = w' := by
  obtain ⟨b, o, k, rfl, c0, -, hk⟩ := h.kind
  have hK : lowE e = decide (k = 2 ∨ k = 3) := by
    unfold lowE
    rw [kind_bind hk]
    unfold bindK
    rw [decide_eq_decide]
    split
    · omega
    · split <;> omega
  rw [hK]
  clear hk h hK
  go_enter Tryd.func24, Tryd.ntmps24
  go_wp2
  all_goals go_ret
  all_goals refine ⟨?_, rfl⟩
  all_goals refine congrArg (fun b => Ending.returned (Value.bool b)) ?_
  all_goals rw [Bool.eq_iff_iff]
  all_goals simp at *
  all_goals omega
set_option maxRecDepth 100000 in
theorem high_any (e : Ex) (v : Value) (w : World) (S : Nat → Prop) (h : ExA w S e v) : Calls Tryd.prog 25 #[v] w fun r w' => r = .returned (.bool (highE e)) ∧ w = w' := by
  obtain ⟨b, o, k, rfl, c0, -, hk⟩ := h.kind
  have hK : highE e = decide (4 ≤ k ∧ k ≤ 6) := by
    unfold highE
    rw [kind_bind hk]
    unfold bindK
    rw [decide_eq_decide]
    split
    · omega
    · split <;> omega
  rw [hK]
  clear hk h hK
  go_enter Tryd.func25, Tryd.ntmps25
  go_wp2
  all_goals go_ret
  all_goals refine ⟨?_, rfl⟩
  all_goals refine congrArg (fun b => Ending.returned (Value.bool b)) ?_
  all_goals rw [Bool.eq_iff_iff]
  all_goals simp at *
  all_goals omega
def Ex6 (e : Ex) : Prop := ∀ (x : Value) (w : World) (S : Nat → Prop), ExA w S e x → WfX e → (exT e).length ≤ 1000000 → Calls Tryd.prog 10 #[x] w fun r w' => r = .returned (.string (strB (exT e))) ∧ Below w.heap.size w w'
theorem ExA.same {w w' : World} {S : Nat → Prop} {e : Ex} {v : Value} (h : ExA w S e v) (hb : Upd (fun _ => False) w w') : ExA w' S e v := h.upd hb fun _ _ => id
set_option maxRecDepth 100000 in
theorem part_of (e : Ex) (hE : Ex6 e) (q : Bool) (x : Value) (w : World) (S : Nat → Prop) (hx : ExA w S e x) (hw : WfX e) (hl : (exT e).length ≤ 1000000) :
    Calls Tryd.prog 23 #[x, .bool q] w fun r w' => r = .returned (.string (strB (parT q (exT e)))) ∧ Below w.heap.size w w' := by
  have h1 := hide (hE x w S hx hw hl)
  obtain ⟨xb, xo, rfl⟩ := hx.ptr
  clear hx hw hE
  generalize exT e = X at *
  cases q with
  | false =>
    go_enter Tryd.func23, Tryd.ntmps23
    go_wp2_with fail
    refine h1.out.mono ?_
    rintro r w1 ⟨rfl, hb⟩
    replace hb := hide hb
    go_wp2_with fail
    go_ret
    exact ⟨rfl, hb.out⟩
  | true =>
    obtain ⟨T1, e1⟩ : ∃ T, T = [40] ++ X := ⟨_, rfl⟩
    obtain ⟨T2, e2⟩ : ∃ T, T = T1 ++ [41] := ⟨_, rfl⟩
    have hT : parT true X = T2 := by rw [e2, e1]; rfl
    rw [hT]
    have h2 := hide (fun w => by rw [e1]; exact str_add [40] X (by show 1 + _ ≤ _; omega) w : ∀ w, (Op.stringOp .add ⟨#[40]⟩ (strB X)).run Tryd.prog w = .ok (.string (strB T1)) w)
    have h3 := hide (fun w => by rw [e2]; exact str_add T1 [41] (by rw [e1, List.length_append]; show 1 + _ + 1 ≤ _; omega) w : ∀ w, (Op.stringOp .add (strB T1) ⟨#[41]⟩).run Tryd.prog w = .ok (.string (strB T2)) w)
    clear hT e1 e2 hl
    go_enter Tryd.func23, Tryd.ntmps23
    go_wp2_with fail
    refine h1.out.mono ?_
    rintro r w1 ⟨rfl, hb⟩
    replace hb := hide hb
    have h2' := h2.out
    have h3' := h3.out
    go_wp2_with fail
    go_ret
    exact ⟨rfl, hb.out⟩
set_option maxRecDepth 100000 in
theorem ex6_num (n : Nat) : Ex6 (.num n) := by
  intro x w S hx hw hl
  obtain ⟨xb, xo, rfl, hS, c0, c1, -⟩ := hx
  have hD := hide (dec6_any n hw w)
  show Calls _ _ _ _ fun r w' => r = .returned (.string (strB (Lib.decDigits n))) ∧ _
  generalize Lib.decDigits n = X at *
  clear hw hl hS
  go_enter Tryd.func10, Tryd.ntmps10
  go_wp2_with fail
  refine hD.out.mono ?_
  rintro r w1 ⟨rfl, rfl⟩
  go_wp2_with fail
  go_ret
  exact ⟨rfl, Below.refl _ _⟩
set_option maxRecDepth 100000 in
theorem ex6_var (s : List UInt8) : Ex6 (.var s) := by
  intro x w S hx hw hl
  obtain ⟨xb, xo, rfl, hS, c0, c1, c2, -⟩ := hx
  show Calls _ _ _ _ fun r w' => r = .returned (.string (strB s)) ∧ _
  clear hw hl hS
  go_enter Tryd.func10, Tryd.ntmps10
  go_wp2_with fail
  go_ret
  exact ⟨rfl, Below.refl _ _⟩
theorem neg_kind {a : Ex} {k : Nat} (hw : WfX a) (hk : k = kindE a) : (decide (bindE a < 2) = true ↔ 2 ≤ k ∧ k ≤ 6) := by
  rw [kind_bind hk, decide_eq_true_iff]
  unfold bindK
  split
  · omega
  · split <;> omega
set_option maxRecDepth 100000 in
set_option maxHeartbeats 1600000 in
theorem neg_no1 (a : Ex) (hA : Ex6 a) (va : Value) (xb xo ab ao k : Nat) (wa : World) (S : Nat → Prop) (hxa : ExA wa S a va) (hwa : WfX a) (hla : (exT a).length ≤ 1000000)
    (c0 : wa.cell? ⟨xb, xo, none⟩ = some (.int .i64 7)) (c3 : wa.cell? ⟨xb, xo + 3, none⟩ = some va) (hva : va = .pointer (some ⟨ab, ao, none⟩)) (ca : wa.cell? ⟨ab, ao, none⟩ = some (.int .i64 k)) (hq : ¬ 2 ≤ k) :
    Calls Tryd.prog 10 #[.pointer (some ⟨xb, xo, none⟩)] wa fun r w' => r = .returned (.string (strB ([45] ++ parT false (exT a)))) ∧ Below wa.heap.size wa w' := by
  have hp := par_len false (exT a)
  have hP := hide (fun w' (hu : Upd (fun _ => False) wa w') => part_of a hA false va w' S (hxa.same hu) hwa hla)
  generalize parT false (exT a) = X at *
  obtain ⟨T1, e1⟩ : ∃ T, T = [45] ++ X := ⟨_, rfl⟩
  have h1 := hide (fun w => by rw [e1]; exact str_add [45] X (by show 1 + _ ≤ _; omega) w : ∀ w, (Op.stringOp .add ⟨#[45]⟩ (strB X)).run Tryd.prog w = .ok (.string (strB T1)) w)
  rw [← e1]
  subst hva
  clear e1 hp hA hxa hwa hla
  go_enter Tryd.func10, Tryd.ntmps10
  go_wp2_with fail
  replace c0 := hide c0
  replace c3 := hide c3
  replace ca := hide ca
  refine wp_region_flow (fun _ => False) (factAt [(fun v _ => v = (.pointer (some ⟨xb, xo, none⟩))), (fun v _ => v = (.pointer (some ⟨xb, xo, none⟩))), (fun v _ => v = (.pointer (some ⟨xb, xo + 3, none⟩))), (fun v _ => v = (.pointer (some ⟨ab, ao, none⟩))), (fun v _ => v = (.pointer (some ⟨xb, xo, none⟩))), (fun v _ => v = (.pointer (some ⟨xb, xo, none⟩))), (fun v _ => v = (.pointer (some ⟨xb, xo + 3, none⟩))), (fun v _ => v = (.pointer (some ⟨ab, ao, none⟩))), (fun v _ => v = (.pointer (some ⟨ab, ao, none⟩))), (fun v _ => v = (.pointer (some ⟨ab, ao, none⟩))), (fun v _ => v = (.int .i64 k)), (fun v _ => v = (.bool false)), (fun v _ => v = (.bool false)), (fun v _ => v = undef), (fun v _ => v = undef), (fun v _ => v = undef), (fun v _ => v = undef), (fun v _ => v = undef), (fun v _ => v = undef), (fun v _ => v = undef), (fun v _ => v = undef), (fun v _ => v = (.bool false)), (fun v _ => v = (.string (strB X))), (fun v _ => v = (.string (strB T1))), (fun v _ => v = (.string (strB T1)))]) [] (fun _ => True) (by kernel_rfl) (fkept_at ⟨FKept.eq _, FKept.eq _, FKept.eq _, FKept.eq _, FKept.eq _, FKept.eq _, FKept.eq _, FKept.eq _, FKept.eq _, FKept.eq _, FKept.eq _, FKept.eq _, FKept.eq _, FKept.eq _, FKept.eq _, FKept.eq _, FKept.eq _, FKept.eq _, FKept.eq _, FKept.eq _, FKept.eq _, FKept.eq _, FKept.eq _, FKept.eq _, FKept.eq _, trivial⟩) (fun _ _ h _ => h) trivial (by kernel_rfl) (by kernel_rfl) (by kernel_rfl) (by kernel_rfl) (Nat.le_of_ble_eq_true (by kernel_rfl)) ?_ ⟨?_, ?_, ?_, ?_, ?_, ?_, ?_, ?_, ?_, ?_, ?_, ?_, ?_, ?_, ?_, ?_, ?_, ?_, ?_, ?_, ?_, ?_, ?_, ?_, ?_, trivial⟩ ?_
  · first | exact trivial | assumption
  · intro T w Q hu hs hv hw hd
    have hx0 : T.getD 0 undef = (.pointer (some ⟨xb, xo, none⟩)) := hv 0 (by kernel_rfl)
    refine .inl ⟨wanted_none rfl, ?_⟩
    clear hd hv hu hs hw
    go_simp
    exact ⟨_, rfl, DstOk.some rfl, Below.refl _ _, rfl⟩
  · intro T w Q hu hs hv hw hd
    have hx23 : T.getD 23 undef = (.pointer (some ⟨xb, xo, none⟩)) := Deps.at 0 hd (by kernel_rfl)
    refine .inl ⟨wanted_none rfl, ?_⟩
    clear hd hv hu hs hw
    go_simp
    exact ⟨_, rfl, DstOk.some rfl, Below.refl _ _, rfl⟩
  · intro T w Q hu hs hv hw hd
    have hx24 : T.getD 24 undef = (.pointer (some ⟨xb, xo, none⟩)) := Deps.at 1 hd (by kernel_rfl)
    refine .inl ⟨wanted_none rfl, ?_⟩
    clear hd hv hu hs hw
    go_simp
    exact ⟨_, rfl, DstOk.some rfl, Below.refl _ _, rfl⟩
  · intro T w Q hu hs hv hw hd
    have hx25 : T.getD 25 undef = (.pointer (some ⟨xb, xo + 3, none⟩)) := Deps.at 2 hd (by kernel_rfl)
    refine .inl ⟨wanted_none rfl, ?_⟩
    have hq := hu.cell c3.out id
    clear hd hv hu hs hw
    go_simp
    exact ⟨_, rfl, DstOk.some rfl, Below.refl _ _, rfl⟩
  · intro T w Q hu hs hv hw hd
    have hx0 : T.getD 0 undef = (.pointer (some ⟨xb, xo, none⟩)) := hv 0 (by kernel_rfl)
    refine .inl ⟨wanted_none rfl, ?_⟩
    clear hd hv hu hs hw
    go_simp
    exact ⟨_, rfl, DstOk.some rfl, Below.refl _ _, rfl⟩
  · intro T w Q hu hs hv hw hd
    have hx27 : T.getD 27 undef = (.pointer (some ⟨xb, xo, none⟩)) := Deps.at 4 hd (by kernel_rfl)
    refine .inl ⟨wanted_none rfl, ?_⟩
    clear hd hv hu hs hw
    go_simp
    exact ⟨_, rfl, DstOk.some rfl, Below.refl _ _, rfl⟩
  · intro T w Q hu hs hv hw hd
    have hx28 : T.getD 28 undef = (.pointer (some ⟨xb, xo, none⟩)) := Deps.at 5 hd (by kernel_rfl)
    refine .inl ⟨wanted_none rfl, ?_⟩
    clear hd hv hu hs hw
    go_simp
    exact ⟨_, rfl, DstOk.some rfl, Below.refl _ _, rfl⟩
  · intro T w Q hu hs hv hw hd
    have hx29 : T.getD 29 undef = (.pointer (some ⟨xb, xo + 3, none⟩)) := Deps.at 6 hd (by kernel_rfl)
    refine .inl ⟨wanted_none rfl, ?_⟩
    have hq := hu.cell c3.out id
    clear hd hv hu hs hw
    go_simp
    exact ⟨_, rfl, DstOk.some rfl, Below.refl _ _, rfl⟩
  · intro T w Q hu hs hv hw hd
    have hx30 : T.getD 30 undef = (.pointer (some ⟨ab, ao, none⟩)) := Deps.at 7 hd (by kernel_rfl)
    refine .inl ⟨wanted_none rfl, ?_⟩
    clear hd hv hu hs hw
    go_simp
    exact ⟨_, rfl, DstOk.some rfl, Below.refl _ _, rfl⟩
  · intro T w Q hu hs hv hw hd
    have hx31 : T.getD 31 undef = (.pointer (some ⟨ab, ao, none⟩)) := Deps.at 8 hd (by kernel_rfl)
    refine .inl ⟨wanted_none rfl, ?_⟩
    clear hd hv hu hs hw
    go_simp
    exact ⟨_, rfl, DstOk.some rfl, Below.refl _ _, rfl⟩
  · intro T w Q hu hs hv hw hd
    have hx32 : T.getD 32 undef = (.pointer (some ⟨ab, ao, none⟩)) := Deps.at 9 hd (by kernel_rfl)
    refine .inl ⟨wanted_none rfl, ?_⟩
    have hq := hu.cell ca.out id
    clear hd hv hu hs hw
    go_simp
    exact ⟨_, rfl, DstOk.some rfl, Below.refl _ _, rfl⟩
  · intro T w Q hu hs hv hw hd
    have hx33 : T.getD 33 undef = (.int .i64 k) := Deps.at 10 hd (by kernel_rfl)
    refine .inl ⟨wanted_none rfl, ?_⟩
    have a0 := hq
    clear hd hv hu hs hw
    go_simp
    exact ⟨_, rfl, DstOk.some rfl, Below.refl _ _, by first | rfl | exact congrArg Value.bool (by first | (simp only [decide_eq_true_eq, decide_eq_false_iff_not]; omega) | (simp; omega) | simp_all)⟩
  · intro T w Q hu hs hv hw hd
    have hx34 : T.getD 34 undef = (.bool false) := Deps.at 11 hd (by kernel_rfl)
    refine .inl ⟨wanted_none rfl, ?_⟩
    clear hd hv hu hs hw
    go_simp
    exact ⟨_, rfl, DstOk.some rfl, Below.refl _ _, rfl⟩
  · intro T w Q hu hs hv hw hd
    exact .inr ⟨wanted_not rfl (Deps.at 12 hd (by kernel_rfl) : slotOf _ T 12 = .bool (!true)), rfl⟩
  · intro T w Q hu hs hv hw hd
    exact .inr ⟨wanted_not rfl (Deps.at 12 hd (by kernel_rfl) : slotOf _ T 12 = .bool (!true)), rfl⟩
  · intro T w Q hu hs hv hw hd
    exact .inr ⟨wanted_not rfl (Deps.at 12 hd (by kernel_rfl) : slotOf _ T 12 = .bool (!true)), rfl⟩
  · intro T w Q hu hs hv hw hd
    exact .inr ⟨wanted_not rfl (Deps.at 12 hd (by kernel_rfl) : slotOf _ T 12 = .bool (!true)), rfl⟩
  · intro T w Q hu hs hv hw hd
    exact .inr ⟨wanted_not rfl (Deps.at 12 hd (by kernel_rfl) : slotOf _ T 12 = .bool (!true)), rfl⟩
  · intro T w Q hu hs hv hw hd
    exact .inr ⟨wanted_not rfl (Deps.at 12 hd (by kernel_rfl) : slotOf _ T 12 = .bool (!true)), rfl⟩
  · intro T w Q hu hs hv hw hd
    exact .inr ⟨wanted_not rfl (Deps.at 12 hd (by kernel_rfl) : slotOf _ T 12 = .bool (!true)), rfl⟩
  · intro T w Q hu hs hv hw hd
    exact .inr ⟨wanted_not rfl (Deps.at 12 hd (by kernel_rfl) : slotOf _ T 12 = .bool (!true)), rfl⟩
  · intro T w Q hu hs hv hw hd
    have hx35 : T.getD 35 undef = (.bool false) := Deps.at 12 hd (by kernel_rfl)
    have hx43 : T.getD 43 undef = undef := Deps.at 20 hd (by kernel_rfl)
    refine .inl ⟨wanted_none rfl, ?_⟩
    clear hd hv hu hs hw
    go_simp
    exact ⟨_, rfl, DstOk.some rfl, Below.refl _ _, rfl⟩
  · intro T w Q hu hs hv hw hd
    have hx26 : T.getD 26 undef = (.pointer (some ⟨ab, ao, none⟩)) := Deps.at 3 hd (by kernel_rfl)
    have hx44 : T.getD 44 undef = (.bool false) := Deps.at 21 hd (by kernel_rfl)
    refine .inl ⟨wanted_none rfl, ?_⟩
    have hN := hP.out w hu
    clear hd hv hu hs hw
    go_simp
    refine hN.mono ?_
    rintro e w5 ⟨rfl, hb⟩
    exact ⟨_, rfl, DstOk.some rfl, hb, rfl⟩
  · intro T w Q hu hs hv hw hd
    have hx45 : T.getD 45 undef = (.string (strB X)) := Deps.at 22 hd (by kernel_rfl)
    refine .inl ⟨wanted_none rfl, ?_⟩
    have hC := h1.out w
    clear hd hv hu hs hw
    unfold strB at *
    go_simp
    exact ⟨_, rfl, DstOk.some rfl, Below.refl _ _, rfl⟩
  · intro T w Q hu hs hv hw hd
    have hx46 : T.getD 46 undef = (.string (strB T1)) := Deps.at 23 hd (by kernel_rfl)
    refine .inl ⟨wanted_none rfl, ?_⟩
    clear hd hv hu hs hw
    go_simp
    exact ⟨_, rfl, DstOk.some rfl, Below.refl _ _, rfl⟩
  intro T w hu hs hv hf hcur
  have hT : T = #[T.getD 0 undef, T.getD 1 undef, T.getD 2 undef, T.getD 3 undef, T.getD 4 undef, T.getD 5 undef, T.getD 6 undef, T.getD 7 undef, T.getD 8 undef, T.getD 9 undef, T.getD 10 undef, T.getD 11 undef, T.getD 12 undef, T.getD 13 undef, T.getD 14 undef, T.getD 15 undef, T.getD 16 undef, T.getD 17 undef, T.getD 18 undef, T.getD 19 undef, T.getD 20 undef, T.getD 21 undef, T.getD 22 undef, T.getD 23 undef, T.getD 24 undef, T.getD 25 undef, T.getD 26 undef, T.getD 27 undef, T.getD 28 undef, T.getD 29 undef, T.getD 30 undef, T.getD 31 undef, T.getD 32 undef, T.getD 33 undef, T.getD 34 undef, T.getD 35 undef, T.getD 36 undef, T.getD 37 undef, T.getD 38 undef, T.getD 39 undef, T.getD 40 undef, T.getD 41 undef, T.getD 42 undef, T.getD 43 undef, T.getD 44 undef, T.getD 45 undef, T.getD 46 undef, T.getD 47 undef, T.getD 48 undef, T.getD 49 undef, T.getD 50 undef, T.getD 51 undef, T.getD 52 undef, T.getD 53 undef, T.getD 54 undef, T.getD 55 undef, T.getD 56 undef, T.getD 57 undef, T.getD 58 undef, T.getD 59 undef, T.getD 60 undef, T.getD 61 undef, T.getD 62 undef, T.getD 63 undef, T.getD 64 undef, T.getD 65 undef, T.getD 66 undef, T.getD 67 undef, T.getD 68 undef, T.getD 69 undef, T.getD 70 undef, T.getD 71 undef, T.getD 72 undef, T.getD 73 undef, T.getD 74 undef, T.getD 75 undef, T.getD 76 undef, T.getD 77 undef, T.getD 78 undef, T.getD 79 undef, T.getD 80 undef, T.getD 81 undef, T.getD 82 undef, T.getD 83 undef, T.getD 84 undef, T.getD 85 undef, T.getD 86 undef, T.getD 87 undef, T.getD 88 undef, T.getD 89 undef, T.getD 90 undef, T.getD 91 undef, T.getD 92 undef, T.getD 93 undef, T.getD 94 undef, T.getD 95 undef, T.getD 96 undef, T.getD 97 undef, T.getD 98 undef, T.getD 99 undef, T.getD 100 undef, T.getD 101 undef, T.getD 102 undef, T.getD 103 undef, T.getD 104 undef, T.getD 105 undef, T.getD 106 undef, T.getD 107 undef, T.getD 108 undef] := expl hs
  rw [hT]
  clear hT
  rw [show T.getD 0 undef = (.pointer (some ⟨xb, xo, none⟩)) from hv 0 (by kernel_rfl)]
  rw [hv 1 (by kernel_rfl)]
  rw [show T.getD 2 undef = (.string (strB T1)) from hf 24 (by decide)]
  rw [hv 3 (by kernel_rfl)]
  rw [hv 4 (by kernel_rfl)]
  rw [hv 5 (by kernel_rfl)]
  rw [hv 6 (by kernel_rfl)]
  rw [hv 7 (by kernel_rfl)]
  rw [hv 8 (by kernel_rfl)]
  rw [hv 9 (by kernel_rfl)]
  rw [hv 10 (by kernel_rfl)]
  rw [hv 11 (by kernel_rfl)]
  rw [hv 12 (by kernel_rfl)]
  rw [hv 13 (by kernel_rfl)]
  rw [hv 14 (by kernel_rfl)]
  rw [hv 15 (by kernel_rfl)]
  rw [hv 16 (by kernel_rfl)]
  rw [hv 17 (by kernel_rfl)]
  rw [hv 18 (by kernel_rfl)]
  rw [hv 19 (by kernel_rfl)]
  rw [hv 20 (by kernel_rfl)]
  rw [hv 21 (by kernel_rfl)]
  rw [hv 22 (by kernel_rfl)]
  rw [show T.getD 23 undef = (.pointer (some ⟨xb, xo, none⟩)) from hf 0 (by decide)]
  rw [show T.getD 24 undef = (.pointer (some ⟨xb, xo, none⟩)) from hf 1 (by decide)]
  rw [show T.getD 25 undef = (.pointer (some ⟨xb, xo + 3, none⟩)) from hf 2 (by decide)]
  rw [show T.getD 26 undef = (.pointer (some ⟨ab, ao, none⟩)) from hf 3 (by decide)]
  rw [show T.getD 27 undef = (.pointer (some ⟨xb, xo, none⟩)) from hf 4 (by decide)]
  rw [show T.getD 28 undef = (.pointer (some ⟨xb, xo, none⟩)) from hf 5 (by decide)]
  rw [show T.getD 29 undef = (.pointer (some ⟨xb, xo + 3, none⟩)) from hf 6 (by decide)]
  rw [show T.getD 30 undef = (.pointer (some ⟨ab, ao, none⟩)) from hf 7 (by decide)]
  rw [show T.getD 31 undef = (.pointer (some ⟨ab, ao, none⟩)) from hf 8 (by decide)]
  rw [show T.getD 32 undef = (.pointer (some ⟨ab, ao, none⟩)) from hf 9 (by decide)]
  rw [show T.getD 33 undef = (.int .i64 k) from hf 10 (by decide)]
  rw [show T.getD 34 undef = (.bool false) from hf 11 (by decide)]
  rw [show T.getD 35 undef = (.bool false) from hf 12 (by decide)]
  rw [show T.getD 36 undef = undef from hf 13 (by decide)]
  rw [show T.getD 37 undef = undef from hf 14 (by decide)]
  rw [show T.getD 38 undef = undef from hf 15 (by decide)]
  rw [show T.getD 39 undef = undef from hf 16 (by decide)]
  rw [show T.getD 40 undef = undef from hf 17 (by decide)]
  rw [show T.getD 41 undef = undef from hf 18 (by decide)]
  rw [show T.getD 42 undef = undef from hf 19 (by decide)]
  rw [show T.getD 43 undef = undef from hf 20 (by decide)]
  rw [show T.getD 44 undef = (.bool false) from hf 21 (by decide)]
  rw [show T.getD 45 undef = (.string (strB X)) from hf 22 (by decide)]
  rw [show T.getD 46 undef = (.string (strB T1)) from hf 23 (by decide)]
  rw [hv 47 (by kernel_rfl)]
  rw [hv 48 (by kernel_rfl)]
  rw [hv 49 (by kernel_rfl)]
  rw [hv 50 (by kernel_rfl)]
  rw [hv 51 (by kernel_rfl)]
  rw [hv 52 (by kernel_rfl)]
  rw [hv 53 (by kernel_rfl)]
  rw [hv 54 (by kernel_rfl)]
  rw [hv 55 (by kernel_rfl)]
  rw [hv 56 (by kernel_rfl)]
  rw [hv 57 (by kernel_rfl)]
  rw [hv 58 (by kernel_rfl)]
  rw [hv 59 (by kernel_rfl)]
  rw [hv 60 (by kernel_rfl)]
  rw [hv 61 (by kernel_rfl)]
  rw [hv 62 (by kernel_rfl)]
  rw [hv 63 (by kernel_rfl)]
  rw [hv 64 (by kernel_rfl)]
  rw [hv 65 (by kernel_rfl)]
  rw [hv 66 (by kernel_rfl)]
  rw [hv 67 (by kernel_rfl)]
  rw [hv 68 (by kernel_rfl)]
  rw [hv 69 (by kernel_rfl)]
  rw [hv 70 (by kernel_rfl)]
  rw [hv 71 (by kernel_rfl)]
  rw [hv 72 (by kernel_rfl)]
  rw [hv 73 (by kernel_rfl)]
  rw [hv 74 (by kernel_rfl)]
  rw [hv 75 (by kernel_rfl)]
  rw [hv 76 (by kernel_rfl)]
  rw [hv 77 (by kernel_rfl)]
  rw [hv 78 (by kernel_rfl)]
  rw [hv 79 (by kernel_rfl)]
  rw [hv 80 (by kernel_rfl)]
  rw [hv 81 (by kernel_rfl)]
  rw [hv 82 (by kernel_rfl)]
  rw [hv 83 (by kernel_rfl)]
  rw [hv 84 (by kernel_rfl)]
  rw [hv 85 (by kernel_rfl)]
  rw [hv 86 (by kernel_rfl)]
  rw [hv 87 (by kernel_rfl)]
  rw [hv 88 (by kernel_rfl)]
  rw [hv 89 (by kernel_rfl)]
  rw [hv 90 (by kernel_rfl)]
  rw [hv 91 (by kernel_rfl)]
  rw [hv 92 (by kernel_rfl)]
  rw [hv 93 (by kernel_rfl)]
  rw [hv 94 (by kernel_rfl)]
  rw [hv 95 (by kernel_rfl)]
  rw [hv 96 (by kernel_rfl)]
  rw [hv 97 (by kernel_rfl)]
  rw [hv 98 (by kernel_rfl)]
  rw [hv 99 (by kernel_rfl)]
  rw [hv 100 (by kernel_rfl)]
  rw [hv 101 (by kernel_rfl)]
  rw [hv 102 (by kernel_rfl)]
  rw [hv 103 (by kernel_rfl)]
  rw [hv 104 (by kernel_rfl)]
  rw [hv 105 (by kernel_rfl)]
  rw [hv 106 (by kernel_rfl)]
  rw [hv 107 (by kernel_rfl)]
  rw [hv 108 (by kernel_rfl)]
  clear hf hs hv hcur
  simp only [getD_toArray, List.getD_cons_succ, List.getD_cons_zero]
  clear T
  have hb9 := hide (hu.below (Nat.le_refl _) fun _ h => h.elim)
  clear hu
  go_wp2_with fail
  go_ret
  exact ⟨rfl, hb9.out⟩
set_option maxRecDepth 100000 in
set_option maxHeartbeats 1600000 in
theorem neg_no2 (a : Ex) (hA : Ex6 a) (va : Value) (xb xo ab ao k : Nat) (wa : World) (S : Nat → Prop) (hxa : ExA wa S a va) (hwa : WfX a) (hla : (exT a).length ≤ 1000000)
    (c0 : wa.cell? ⟨xb, xo, none⟩ = some (.int .i64 7)) (c3 : wa.cell? ⟨xb, xo + 3, none⟩ = some va) (hva : va = .pointer (some ⟨ab, ao, none⟩)) (ca : wa.cell? ⟨ab, ao, none⟩ = some (.int .i64 k)) (hq : 7 ≤ k) :
    Calls Tryd.prog 10 #[.pointer (some ⟨xb, xo, none⟩)] wa fun r w' => r = .returned (.string (strB ([45] ++ parT false (exT a)))) ∧ Below wa.heap.size wa w' := by
  have hp := par_len false (exT a)
  have hP := hide (fun w' (hu : Upd (fun _ => False) wa w') => part_of a hA false va w' S (hxa.same hu) hwa hla)
  generalize parT false (exT a) = X at *
  obtain ⟨T1, e1⟩ : ∃ T, T = [45] ++ X := ⟨_, rfl⟩
  have h1 := hide (fun w => by rw [e1]; exact str_add [45] X (by show 1 + _ ≤ _; omega) w : ∀ w, (Op.stringOp .add ⟨#[45]⟩ (strB X)).run Tryd.prog w = .ok (.string (strB T1)) w)
  rw [← e1]
  subst hva
  clear e1 hp hA hxa hwa hla
  go_enter Tryd.func10, Tryd.ntmps10
  go_wp2_with fail
  replace c0 := hide c0
  replace c3 := hide c3
  replace ca := hide ca
  refine wp_region_flow (fun _ => False) (factAt [(fun v _ => v = (.pointer (some ⟨xb, xo, none⟩))), (fun v _ => v = (.pointer (some ⟨xb, xo, none⟩))), (fun v _ => v = (.pointer (some ⟨xb, xo + 3, none⟩))), (fun v _ => v = (.pointer (some ⟨ab, ao, none⟩))), (fun v _ => v = (.pointer (some ⟨xb, xo, none⟩))), (fun v _ => v = (.pointer (some ⟨xb, xo, none⟩))), (fun v _ => v = (.pointer (some ⟨xb, xo + 3, none⟩))), (fun v _ => v = (.pointer (some ⟨ab, ao, none⟩))), (fun v _ => v = (.pointer (some ⟨ab, ao, none⟩))), (fun v _ => v = (.pointer (some ⟨ab, ao, none⟩))), (fun v _ => v = (.int .i64 k)), (fun v _ => v = (.bool true)), (fun v _ => v = (.bool true)), (fun v _ => v = (.pointer (some ⟨xb, xo, none⟩))), (fun v _ => v = (.pointer (some ⟨xb, xo, none⟩))), (fun v _ => v = (.pointer (some ⟨xb, xo + 3, none⟩))), (fun v _ => v = (.pointer (some ⟨ab, ao, none⟩))), (fun v _ => v = (.pointer (some ⟨ab, ao, none⟩))), (fun v _ => v = (.pointer (some ⟨ab, ao, none⟩))), (fun v _ => v = (.int .i64 k)), (fun v _ => v = (.bool false)), (fun v _ => v = (.bool false)), (fun v _ => v = (.string (strB X))), (fun v _ => v = (.string (strB T1))), (fun v _ => v = (.string (strB T1)))]) [] (fun _ => True) (by kernel_rfl) (fkept_at ⟨FKept.eq _, FKept.eq _, FKept.eq _, FKept.eq _, FKept.eq _, FKept.eq _, FKept.eq _, FKept.eq _, FKept.eq _, FKept.eq _, FKept.eq _, FKept.eq _, FKept.eq _, FKept.eq _, FKept.eq _, FKept.eq _, FKept.eq _, FKept.eq _, FKept.eq _, FKept.eq _, FKept.eq _, FKept.eq _, FKept.eq _, FKept.eq _, FKept.eq _, trivial⟩) (fun _ _ h _ => h) trivial (by kernel_rfl) (by kernel_rfl) (by kernel_rfl) (by kernel_rfl) (Nat.le_of_ble_eq_true (by kernel_rfl)) ?_ ⟨?_, ?_, ?_, ?_, ?_, ?_, ?_, ?_, ?_, ?_, ?_, ?_, ?_, ?_, ?_, ?_, ?_, ?_, ?_, ?_, ?_, ?_, ?_, ?_, ?_, trivial⟩ ?_
  · first | exact trivial | assumption
  · intro T w Q hu hs hv hw hd
    have hx0 : T.getD 0 undef = (.pointer (some ⟨xb, xo, none⟩)) := hv 0 (by kernel_rfl)
    refine .inl ⟨wanted_none rfl, ?_⟩
    clear hd hv hu hs hw
    go_simp
    exact ⟨_, rfl, DstOk.some rfl, Below.refl _ _, rfl⟩
  · intro T w Q hu hs hv hw hd
    have hx23 : T.getD 23 undef = (.pointer (some ⟨xb, xo, none⟩)) := Deps.at 0 hd (by kernel_rfl)
    refine .inl ⟨wanted_none rfl, ?_⟩
    clear hd hv hu hs hw
    go_simp
    exact ⟨_, rfl, DstOk.some rfl, Below.refl _ _, rfl⟩
  · intro T w Q hu hs hv hw hd
    have hx24 : T.getD 24 undef = (.pointer (some ⟨xb, xo, none⟩)) := Deps.at 1 hd (by kernel_rfl)
    refine .inl ⟨wanted_none rfl, ?_⟩
    clear hd hv hu hs hw
    go_simp
    exact ⟨_, rfl, DstOk.some rfl, Below.refl _ _, rfl⟩
  · intro T w Q hu hs hv hw hd
    have hx25 : T.getD 25 undef = (.pointer (some ⟨xb, xo + 3, none⟩)) := Deps.at 2 hd (by kernel_rfl)
    refine .inl ⟨wanted_none rfl, ?_⟩
    have hq := hu.cell c3.out id
    clear hd hv hu hs hw
    go_simp
    exact ⟨_, rfl, DstOk.some rfl, Below.refl _ _, rfl⟩
  · intro T w Q hu hs hv hw hd
    have hx0 : T.getD 0 undef = (.pointer (some ⟨xb, xo, none⟩)) := hv 0 (by kernel_rfl)
    refine .inl ⟨wanted_none rfl, ?_⟩
    clear hd hv hu hs hw
    go_simp
    exact ⟨_, rfl, DstOk.some rfl, Below.refl _ _, rfl⟩
  · intro T w Q hu hs hv hw hd
    have hx27 : T.getD 27 undef = (.pointer (some ⟨xb, xo, none⟩)) := Deps.at 4 hd (by kernel_rfl)
    refine .inl ⟨wanted_none rfl, ?_⟩
    clear hd hv hu hs hw
    go_simp
    exact ⟨_, rfl, DstOk.some rfl, Below.refl _ _, rfl⟩
  · intro T w Q hu hs hv hw hd
    have hx28 : T.getD 28 undef = (.pointer (some ⟨xb, xo, none⟩)) := Deps.at 5 hd (by kernel_rfl)
    refine .inl ⟨wanted_none rfl, ?_⟩
    clear hd hv hu hs hw
    go_simp
    exact ⟨_, rfl, DstOk.some rfl, Below.refl _ _, rfl⟩
  · intro T w Q hu hs hv hw hd
    have hx29 : T.getD 29 undef = (.pointer (some ⟨xb, xo + 3, none⟩)) := Deps.at 6 hd (by kernel_rfl)
    refine .inl ⟨wanted_none rfl, ?_⟩
    have hq := hu.cell c3.out id
    clear hd hv hu hs hw
    go_simp
    exact ⟨_, rfl, DstOk.some rfl, Below.refl _ _, rfl⟩
  · intro T w Q hu hs hv hw hd
    have hx30 : T.getD 30 undef = (.pointer (some ⟨ab, ao, none⟩)) := Deps.at 7 hd (by kernel_rfl)
    refine .inl ⟨wanted_none rfl, ?_⟩
    clear hd hv hu hs hw
    go_simp
    exact ⟨_, rfl, DstOk.some rfl, Below.refl _ _, rfl⟩
  · intro T w Q hu hs hv hw hd
    have hx31 : T.getD 31 undef = (.pointer (some ⟨ab, ao, none⟩)) := Deps.at 8 hd (by kernel_rfl)
    refine .inl ⟨wanted_none rfl, ?_⟩
    clear hd hv hu hs hw
    go_simp
    exact ⟨_, rfl, DstOk.some rfl, Below.refl _ _, rfl⟩
  · intro T w Q hu hs hv hw hd
    have hx32 : T.getD 32 undef = (.pointer (some ⟨ab, ao, none⟩)) := Deps.at 9 hd (by kernel_rfl)
    refine .inl ⟨wanted_none rfl, ?_⟩
    have hq := hu.cell ca.out id
    clear hd hv hu hs hw
    go_simp
    exact ⟨_, rfl, DstOk.some rfl, Below.refl _ _, rfl⟩
  · intro T w Q hu hs hv hw hd
    have hx33 : T.getD 33 undef = (.int .i64 k) := Deps.at 10 hd (by kernel_rfl)
    refine .inl ⟨wanted_none rfl, ?_⟩
    have a0 := hq
    clear hd hv hu hs hw
    go_simp
    exact ⟨_, rfl, DstOk.some rfl, Below.refl _ _, by first | rfl | exact congrArg Value.bool (by first | (simp only [decide_eq_true_eq, decide_eq_false_iff_not]; omega) | (simp; omega) | simp_all)⟩
  · intro T w Q hu hs hv hw hd
    have hx34 : T.getD 34 undef = (.bool true) := Deps.at 11 hd (by kernel_rfl)
    refine .inl ⟨wanted_none rfl, ?_⟩
    clear hd hv hu hs hw
    go_simp
    exact ⟨_, rfl, DstOk.some rfl, Below.refl _ _, rfl⟩
  · intro T w Q hu hs hv hw hd
    have hx0 : T.getD 0 undef = (.pointer (some ⟨xb, xo, none⟩)) := hv 0 (by kernel_rfl)
    refine .inl ⟨wanted_some rfl (Deps.at 12 hd (by kernel_rfl) : slotOf _ T 12 = .bool true), ?_⟩
    clear hd hv hu hs hw
    go_simp
    exact ⟨_, rfl, DstOk.some rfl, Below.refl _ _, rfl⟩
  · intro T w Q hu hs hv hw hd
    have hx36 : T.getD 36 undef = (.pointer (some ⟨xb, xo, none⟩)) := Deps.at 13 hd (by kernel_rfl)
    refine .inl ⟨wanted_some rfl (Deps.at 12 hd (by kernel_rfl) : slotOf _ T 12 = .bool true), ?_⟩
    clear hd hv hu hs hw
    go_simp
    exact ⟨_, rfl, DstOk.some rfl, Below.refl _ _, rfl⟩
  · intro T w Q hu hs hv hw hd
    have hx37 : T.getD 37 undef = (.pointer (some ⟨xb, xo, none⟩)) := Deps.at 14 hd (by kernel_rfl)
    refine .inl ⟨wanted_some rfl (Deps.at 12 hd (by kernel_rfl) : slotOf _ T 12 = .bool true), ?_⟩
    clear hd hv hu hs hw
    go_simp
    exact ⟨_, rfl, DstOk.some rfl, Below.refl _ _, rfl⟩
  · intro T w Q hu hs hv hw hd
    have hx38 : T.getD 38 undef = (.pointer (some ⟨xb, xo + 3, none⟩)) := Deps.at 15 hd (by kernel_rfl)
    refine .inl ⟨wanted_some rfl (Deps.at 12 hd (by kernel_rfl) : slotOf _ T 12 = .bool true), ?_⟩
    have hq := hu.cell c3.out id
    clear hd hv hu hs hw
    go_simp
    exact ⟨_, rfl, DstOk.some rfl, Below.refl _ _, rfl⟩
  · intro T w Q hu hs hv hw hd
    have hx39 : T.getD 39 undef = (.pointer (some ⟨ab, ao, none⟩)) := Deps.at 16 hd (by kernel_rfl)
    refine .inl ⟨wanted_some rfl (Deps.at 12 hd (by kernel_rfl) : slotOf _ T 12 = .bool true), ?_⟩
    clear hd hv hu hs hw
    go_simp
    exact ⟨_, rfl, DstOk.some rfl, Below.refl _ _, rfl⟩
  · intro T w Q hu hs hv hw hd
    have hx40 : T.getD 40 undef = (.pointer (some ⟨ab, ao, none⟩)) := Deps.at 17 hd (by kernel_rfl)
    refine .inl ⟨wanted_some rfl (Deps.at 12 hd (by kernel_rfl) : slotOf _ T 12 = .bool true), ?_⟩
    clear hd hv hu hs hw
    go_simp
    exact ⟨_, rfl, DstOk.some rfl, Below.refl _ _, rfl⟩
  · intro T w Q hu hs hv hw hd
    have hx41 : T.getD 41 undef = (.pointer (some ⟨ab, ao, none⟩)) := Deps.at 18 hd (by kernel_rfl)
    refine .inl ⟨wanted_some rfl (Deps.at 12 hd (by kernel_rfl) : slotOf _ T 12 = .bool true), ?_⟩
    have hq := hu.cell ca.out id
    clear hd hv hu hs hw
    go_simp
    exact ⟨_, rfl, DstOk.some rfl, Below.refl _ _, rfl⟩
  · intro T w Q hu hs hv hw hd
    have hx42 : T.getD 42 undef = (.int .i64 k) := Deps.at 19 hd (by kernel_rfl)
    refine .inl ⟨wanted_some rfl (Deps.at 12 hd (by kernel_rfl) : slotOf _ T 12 = .bool true), ?_⟩
    have a0 := hq
    clear hd hv hu hs hw
    go_simp
    exact ⟨_, rfl, DstOk.some rfl, Below.refl _ _, by first | rfl | exact congrArg Value.bool (by first | (simp only [decide_eq_true_eq, decide_eq_false_iff_not]; omega) | (simp; omega) | simp_all)⟩
  · intro T w Q hu hs hv hw hd
    have hx35 : T.getD 35 undef = (.bool true) := Deps.at 12 hd (by kernel_rfl)
    have hx43 : T.getD 43 undef = (.bool false) := Deps.at 20 hd (by kernel_rfl)
    refine .inl ⟨wanted_none rfl, ?_⟩
    clear hd hv hu hs hw
    go_simp
    exact ⟨_, rfl, DstOk.some rfl, Below.refl _ _, rfl⟩
  · intro T w Q hu hs hv hw hd
    have hx26 : T.getD 26 undef = (.pointer (some ⟨ab, ao, none⟩)) := Deps.at 3 hd (by kernel_rfl)
    have hx44 : T.getD 44 undef = (.bool false) := Deps.at 21 hd (by kernel_rfl)
    refine .inl ⟨wanted_none rfl, ?_⟩
    have hN := hP.out w hu
    clear hd hv hu hs hw
    go_simp
    refine hN.mono ?_
    rintro e w5 ⟨rfl, hb⟩
    exact ⟨_, rfl, DstOk.some rfl, hb, rfl⟩
  · intro T w Q hu hs hv hw hd
    have hx45 : T.getD 45 undef = (.string (strB X)) := Deps.at 22 hd (by kernel_rfl)
    refine .inl ⟨wanted_none rfl, ?_⟩
    have hC := h1.out w
    clear hd hv hu hs hw
    unfold strB at *
    go_simp
    exact ⟨_, rfl, DstOk.some rfl, Below.refl _ _, rfl⟩
  · intro T w Q hu hs hv hw hd
    have hx46 : T.getD 46 undef = (.string (strB T1)) := Deps.at 23 hd (by kernel_rfl)
    refine .inl ⟨wanted_none rfl, ?_⟩
    clear hd hv hu hs hw
    go_simp
    exact ⟨_, rfl, DstOk.some rfl, Below.refl _ _, rfl⟩
  intro T w hu hs hv hf hcur
  have hT : T = #[T.getD 0 undef, T.getD 1 undef, T.getD 2 undef, T.getD 3 undef, T.getD 4 undef, T.getD 5 undef, T.getD 6 undef, T.getD 7 undef, T.getD 8 undef, T.getD 9 undef, T.getD 10 undef, T.getD 11 undef, T.getD 12 undef, T.getD 13 undef, T.getD 14 undef, T.getD 15 undef, T.getD 16 undef, T.getD 17 undef, T.getD 18 undef, T.getD 19 undef, T.getD 20 undef, T.getD 21 undef, T.getD 22 undef, T.getD 23 undef, T.getD 24 undef, T.getD 25 undef, T.getD 26 undef, T.getD 27 undef, T.getD 28 undef, T.getD 29 undef, T.getD 30 undef, T.getD 31 undef, T.getD 32 undef, T.getD 33 undef, T.getD 34 undef, T.getD 35 undef, T.getD 36 undef, T.getD 37 undef, T.getD 38 undef, T.getD 39 undef, T.getD 40 undef, T.getD 41 undef, T.getD 42 undef, T.getD 43 undef, T.getD 44 undef, T.getD 45 undef, T.getD 46 undef, T.getD 47 undef, T.getD 48 undef, T.getD 49 undef, T.getD 50 undef, T.getD 51 undef, T.getD 52 undef, T.getD 53 undef, T.getD 54 undef, T.getD 55 undef, T.getD 56 undef, T.getD 57 undef, T.getD 58 undef, T.getD 59 undef, T.getD 60 undef, T.getD 61 undef, T.getD 62 undef, T.getD 63 undef, T.getD 64 undef, T.getD 65 undef, T.getD 66 undef, T.getD 67 undef, T.getD 68 undef, T.getD 69 undef, T.getD 70 undef, T.getD 71 undef, T.getD 72 undef, T.getD 73 undef, T.getD 74 undef, T.getD 75 undef, T.getD 76 undef, T.getD 77 undef, T.getD 78 undef, T.getD 79 undef, T.getD 80 undef, T.getD 81 undef, T.getD 82 undef, T.getD 83 undef, T.getD 84 undef, T.getD 85 undef, T.getD 86 undef, T.getD 87 undef, T.getD 88 undef, T.getD 89 undef, T.getD 90 undef, T.getD 91 undef, T.getD 92 undef, T.getD 93 undef, T.getD 94 undef, T.getD 95 undef, T.getD 96 undef, T.getD 97 undef, T.getD 98 undef, T.getD 99 undef, T.getD 100 undef, T.getD 101 undef, T.getD 102 undef, T.getD 103 undef, T.getD 104 undef, T.getD 105 undef, T.getD 106 undef, T.getD 107 undef, T.getD 108 undef] := expl hs
  rw [hT]
  clear hT
  rw [show T.getD 0 undef = (.pointer (some ⟨xb, xo, none⟩)) from hv 0 (by kernel_rfl)]
  rw [hv 1 (by kernel_rfl)]
  rw [show T.getD 2 undef = (.string (strB T1)) from hf 24 (by decide)]
  rw [hv 3 (by kernel_rfl)]
  rw [hv 4 (by kernel_rfl)]
  rw [hv 5 (by kernel_rfl)]
  rw [hv 6 (by kernel_rfl)]
  rw [hv 7 (by kernel_rfl)]
  rw [hv 8 (by kernel_rfl)]
  rw [hv 9 (by kernel_rfl)]
  rw [hv 10 (by kernel_rfl)]
  rw [hv 11 (by kernel_rfl)]
  rw [hv 12 (by kernel_rfl)]
  rw [hv 13 (by kernel_rfl)]
  rw [hv 14 (by kernel_rfl)]
  rw [hv 15 (by kernel_rfl)]
  rw [hv 16 (by kernel_rfl)]
  rw [hv 17 (by kernel_rfl)]
  rw [hv 18 (by kernel_rfl)]
  rw [hv 19 (by kernel_rfl)]
  rw [hv 20 (by kernel_rfl)]
  rw [hv 21 (by kernel_rfl)]
  rw [hv 22 (by kernel_rfl)]
  rw [show T.getD 23 undef = (.pointer (some ⟨xb, xo, none⟩)) from hf 0 (by decide)]
  rw [show T.getD 24 undef = (.pointer (some ⟨xb, xo, none⟩)) from hf 1 (by decide)]
  rw [show T.getD 25 undef = (.pointer (some ⟨xb, xo + 3, none⟩)) from hf 2 (by decide)]
  rw [show T.getD 26 undef = (.pointer (some ⟨ab, ao, none⟩)) from hf 3 (by decide)]
  rw [show T.getD 27 undef = (.pointer (some ⟨xb, xo, none⟩)) from hf 4 (by decide)]
  rw [show T.getD 28 undef = (.pointer (some ⟨xb, xo, none⟩)) from hf 5 (by decide)]
  rw [show T.getD 29 undef = (.pointer (some ⟨xb, xo + 3, none⟩)) from hf 6 (by decide)]
  rw [show T.getD 30 undef = (.pointer (some ⟨ab, ao, none⟩)) from hf 7 (by decide)]
  rw [show T.getD 31 undef = (.pointer (some ⟨ab, ao, none⟩)) from hf 8 (by decide)]
  rw [show T.getD 32 undef = (.pointer (some ⟨ab, ao, none⟩)) from hf 9 (by decide)]
  rw [show T.getD 33 undef = (.int .i64 k) from hf 10 (by decide)]
  rw [show T.getD 34 undef = (.bool true) from hf 11 (by decide)]
  rw [show T.getD 35 undef = (.bool true) from hf 12 (by decide)]
  rw [show T.getD 36 undef = (.pointer (some ⟨xb, xo, none⟩)) from hf 13 (by decide)]
  rw [show T.getD 37 undef = (.pointer (some ⟨xb, xo, none⟩)) from hf 14 (by decide)]
  rw [show T.getD 38 undef = (.pointer (some ⟨xb, xo + 3, none⟩)) from hf 15 (by decide)]
  rw [show T.getD 39 undef = (.pointer (some ⟨ab, ao, none⟩)) from hf 16 (by decide)]
  rw [show T.getD 40 undef = (.pointer (some ⟨ab, ao, none⟩)) from hf 17 (by decide)]
  rw [show T.getD 41 undef = (.pointer (some ⟨ab, ao, none⟩)) from hf 18 (by decide)]
  rw [show T.getD 42 undef = (.int .i64 k) from hf 19 (by decide)]
  rw [show T.getD 43 undef = (.bool false) from hf 20 (by decide)]
  rw [show T.getD 44 undef = (.bool false) from hf 21 (by decide)]
  rw [show T.getD 45 undef = (.string (strB X)) from hf 22 (by decide)]
  rw [show T.getD 46 undef = (.string (strB T1)) from hf 23 (by decide)]
  rw [hv 47 (by kernel_rfl)]
  rw [hv 48 (by kernel_rfl)]
  rw [hv 49 (by kernel_rfl)]
  rw [hv 50 (by kernel_rfl)]
  rw [hv 51 (by kernel_rfl)]
  rw [hv 52 (by kernel_rfl)]
  rw [hv 53 (by kernel_rfl)]
  rw [hv 54 (by kernel_rfl)]
  rw [hv 55 (by kernel_rfl)]
  rw [hv 56 (by kernel_rfl)]
  rw [hv 57 (by kernel_rfl)]
  rw [hv 58 (by kernel_rfl)]
  rw [hv 59 (by kernel_rfl)]
  rw [hv 60 (by kernel_rfl)]
  rw [hv 61 (by kernel_rfl)]
  rw [hv 62 (by kernel_rfl)]
  rw [hv 63 (by kernel_rfl)]
  rw [hv 64 (by kernel_rfl)]
  rw [hv 65 (by kernel_rfl)]
  rw [hv 66 (by kernel_rfl)]
  rw [hv 67 (by kernel_rfl)]
  rw [hv 68 (by kernel_rfl)]
  rw [hv 69 (by kernel_rfl)]
  rw [hv 70 (by kernel_rfl)]
  rw [hv 71 (by kernel_rfl)]
  rw [hv 72 (by kernel_rfl)]
  rw [hv 73 (by kernel_rfl)]
  rw [hv 74 (by kernel_rfl)]
  rw [hv 75 (by kernel_rfl)]
  rw [hv 76 (by kernel_rfl)]
  rw [hv 77 (by kernel_rfl)]
  rw [hv 78 (by kernel_rfl)]
  rw [hv 79 (by kernel_rfl)]
  rw [hv 80 (by kernel_rfl)]
  rw [hv 81 (by kernel_rfl)]
  rw [hv 82 (by kernel_rfl)]
  rw [hv 83 (by kernel_rfl)]
  rw [hv 84 (by kernel_rfl)]
  rw [hv 85 (by kernel_rfl)]
  rw [hv 86 (by kernel_rfl)]
  rw [hv 87 (by kernel_rfl)]
  rw [hv 88 (by kernel_rfl)]
  rw [hv 89 (by kernel_rfl)]
  rw [hv 90 (by kernel_rfl)]
  rw [hv 91 (by kernel_rfl)]
  rw [hv 92 (by kernel_rfl)]
  rw [hv 93 (by kernel_rfl)]
  rw [hv 94 (by kernel_rfl)]
  rw [hv 95 (by kernel_rfl)]
  rw [hv 96 (by kernel_rfl)]
  rw [hv 97 (by kernel_rfl)]
  rw [hv 98 (by kernel_rfl)]
  rw [hv 99 (by kernel_rfl)]
  rw [hv 100 (by kernel_rfl)]
  rw [hv 101 (by kernel_rfl)]
  rw [hv 102 (by kernel_rfl)]
  rw [hv 103 (by kernel_rfl)]
  rw [hv 104 (by kernel_rfl)]
  rw [hv 105 (by kernel_rfl)]
  rw [hv 106 (by kernel_rfl)]
  rw [hv 107 (by kernel_rfl)]
  rw [hv 108 (by kernel_rfl)]
  clear hf hs hv hcur
  simp only [getD_toArray, List.getD_cons_succ, List.getD_cons_zero]
  clear T
  have hb9 := hide (hu.below (Nat.le_refl _) fun _ h => h.elim)
  clear hu
  go_wp2_with fail
  go_ret
  exact ⟨rfl, hb9.out⟩
set_option maxRecDepth 100000 in
set_option maxHeartbeats 1600000 in
theorem neg_yes (a : Ex) (hA : Ex6 a) (va : Value) (xb xo ab ao k : Nat) (wa : World) (S : Nat → Prop) (hxa : ExA wa S a va) (hwa : WfX a) (hla : (exT a).length ≤ 1000000)
    (c0 : wa.cell? ⟨xb, xo, none⟩ = some (.int .i64 7)) (c3 : wa.cell? ⟨xb, xo + 3, none⟩ = some va) (hva : va = .pointer (some ⟨ab, ao, none⟩)) (ca : wa.cell? ⟨ab, ao, none⟩ = some (.int .i64 k)) (hq : 2 ≤ k ∧ k ≤ 6) :
    Calls Tryd.prog 10 #[.pointer (some ⟨xb, xo, none⟩)] wa fun r w' => r = .returned (.string (strB ([45] ++ parT true (exT a)))) ∧ Below wa.heap.size wa w' := by
  have hp := par_len true (exT a)
  have hP := hide (fun w' (hu : Upd (fun _ => False) wa w') => part_of a hA true va w' S (hxa.same hu) hwa hla)
  generalize parT true (exT a) = X at *
  obtain ⟨T1, e1⟩ : ∃ T, T = [45] ++ X := ⟨_, rfl⟩
  have h1 := hide (fun w => by rw [e1]; exact str_add [45] X (by show 1 + _ ≤ _; omega) w : ∀ w, (Op.stringOp .add ⟨#[45]⟩ (strB X)).run Tryd.prog w = .ok (.string (strB T1)) w)
  rw [← e1]
  subst hva
  clear e1 hp hA hxa hwa hla
  go_enter Tryd.func10, Tryd.ntmps10
  go_wp2_with fail
  replace c0 := hide c0
  replace c3 := hide c3
  replace ca := hide ca
  refine wp_region_flow (fun _ => False) (factAt [(fun v _ => v = (.pointer (some ⟨xb, xo, none⟩))), (fun v _ => v = (.pointer (some ⟨xb, xo, none⟩))), (fun v _ => v = (.pointer (some ⟨xb, xo + 3, none⟩))), (fun v _ => v = (.pointer (some ⟨ab, ao, none⟩))), (fun v _ => v = (.pointer (some ⟨xb, xo, none⟩))), (fun v _ => v = (.pointer (some ⟨xb, xo, none⟩))), (fun v _ => v = (.pointer (some ⟨xb, xo + 3, none⟩))), (fun v _ => v = (.pointer (some ⟨ab, ao, none⟩))), (fun v _ => v = (.pointer (some ⟨ab, ao, none⟩))), (fun v _ => v = (.pointer (some ⟨ab, ao, none⟩))), (fun v _ => v = (.int .i64 k)), (fun v _ => v = (.bool true)), (fun v _ => v = (.bool true)), (fun v _ => v = (.pointer (some ⟨xb, xo, none⟩))), (fun v _ => v = (.pointer (some ⟨xb, xo, none⟩))), (fun v _ => v = (.pointer (some ⟨xb, xo + 3, none⟩))), (fun v _ => v = (.pointer (some ⟨ab, ao, none⟩))), (fun v _ => v = (.pointer (some ⟨ab, ao, none⟩))), (fun v _ => v = (.pointer (some ⟨ab, ao, none⟩))), (fun v _ => v = (.int .i64 k)), (fun v _ => v = (.bool true)), (fun v _ => v = (.bool true)), (fun v _ => v = (.string (strB X))), (fun v _ => v = (.string (strB T1))), (fun v _ => v = (.string (strB T1)))]) [] (fun _ => True) (by kernel_rfl) (fkept_at ⟨FKept.eq _, FKept.eq _, FKept.eq _, FKept.eq _, FKept.eq _, FKept.eq _, FKept.eq _, FKept.eq _, FKept.eq _, FKept.eq _, FKept.eq _, FKept.eq _, FKept.eq _, FKept.eq _, FKept.eq _, FKept.eq _, FKept.eq _, FKept.eq _, FKept.eq _, FKept.eq _, FKept.eq _, FKept.eq _, FKept.eq _, FKept.eq _, FKept.eq _, trivial⟩) (fun _ _ h _ => h) trivial (by kernel_rfl) (by kernel_rfl) (by kernel_rfl) (by kernel_rfl) (Nat.le_of_ble_eq_true (by kernel_rfl)) ?_ ⟨?_, ?_, ?_, ?_, ?_, ?_, ?_, ?_, ?_, ?_, ?_, ?_, ?_, ?_, ?_, ?_, ?_, ?_, ?_, ?_, ?_, ?_, ?_, ?_, ?_, trivial⟩ ?_
  · first | exact trivial | assumption
  · intro T w Q hu hs hv hw hd
    have hx0 : T.getD 0 undef = (.pointer (some ⟨xb, xo, none⟩)) := hv 0 (by kernel_rfl)
    refine .inl ⟨wanted_none rfl, ?_⟩
    clear hd hv hu hs hw
    go_simp
    exact ⟨_, rfl, DstOk.some rfl, Below.refl _ _, rfl⟩
  · intro T w Q hu hs hv hw hd
    have hx23 : T.getD 23 undef = (.pointer (some ⟨xb, xo, none⟩)) := Deps.at 0 hd (by kernel_rfl)
    refine .inl ⟨wanted_none rfl, ?_⟩
    clear hd hv hu hs hw
    go_simp
    exact ⟨_, rfl, DstOk.some rfl, Below.refl _ _, rfl⟩
  · intro T w Q hu hs hv hw hd
    have hx24 : T.getD 24 undef = (.pointer (some ⟨xb, xo, none⟩)) := Deps.at 1 hd (by kernel_rfl)
    refine .inl ⟨wanted_none rfl, ?_⟩
    clear hd hv hu hs hw
    go_simp
    exact ⟨_, rfl, DstOk.some rfl, Below.refl _ _, rfl⟩
  · intro T w Q hu hs hv hw hd
    have hx25 : T.getD 25 undef = (.pointer (some ⟨xb, xo + 3, none⟩)) := Deps.at 2 hd (by kernel_rfl)
    refine .inl ⟨wanted_none rfl, ?_⟩
    have hq := hu.cell c3.out id
    clear hd hv hu hs hw
    go_simp
    exact ⟨_, rfl, DstOk.some rfl, Below.refl _ _, rfl⟩
  · intro T w Q hu hs hv hw hd
    have hx0 : T.getD 0 undef = (.pointer (some ⟨xb, xo, none⟩)) := hv 0 (by kernel_rfl)
    refine .inl ⟨wanted_none rfl, ?_⟩
    clear hd hv hu hs hw
    go_simp
    exact ⟨_, rfl, DstOk.some rfl, Below.refl _ _, rfl⟩
  · intro T w Q hu hs hv hw hd
    have hx27 : T.getD 27 undef = (.pointer (some ⟨xb, xo, none⟩)) := Deps.at 4 hd (by kernel_rfl)
    refine .inl ⟨wanted_none rfl, ?_⟩
    clear hd hv hu hs hw
    go_simp
    exact ⟨_, rfl, DstOk.some rfl, Below.refl _ _, rfl⟩
  · intro T w Q hu hs hv hw hd
    have hx28 : T.getD 28 undef = (.pointer (some ⟨xb, xo, none⟩)) := Deps.at 5 hd (by kernel_rfl)
    refine .inl ⟨wanted_none rfl, ?_⟩
    clear hd hv hu hs hw
    go_simp
    exact ⟨_, rfl, DstOk.some rfl, Below.refl _ _, rfl⟩
  · intro T w Q hu hs hv hw hd
    have hx29 : T.getD 29 undef = (.pointer (some ⟨xb, xo + 3, none⟩)) := Deps.at 6 hd (by kernel_rfl)
    refine .inl ⟨wanted_none rfl, ?_⟩
    have hq := hu.cell c3.out id
    clear hd hv hu hs hw
    go_simp
    exact ⟨_, rfl, DstOk.some rfl, Below.refl _ _, rfl⟩
  · intro T w Q hu hs hv hw hd
    have hx30 : T.getD 30 undef = (.pointer (some ⟨ab, ao, none⟩)) := Deps.at 7 hd (by kernel_rfl)
    refine .inl ⟨wanted_none rfl, ?_⟩
    clear hd hv hu hs hw
    go_simp
    exact ⟨_, rfl, DstOk.some rfl, Below.refl _ _, rfl⟩
  · intro T w Q hu hs hv hw hd
    have hx31 : T.getD 31 undef = (.pointer (some ⟨ab, ao, none⟩)) := Deps.at 8 hd (by kernel_rfl)
    refine .inl ⟨wanted_none rfl, ?_⟩
    clear hd hv hu hs hw
    go_simp
    exact ⟨_, rfl, DstOk.some rfl, Below.refl _ _, rfl⟩
  · intro T w Q hu hs hv hw hd
    have hx32 : T.getD 32 undef = (.pointer (some ⟨ab, ao, none⟩)) := Deps.at 9 hd (by kernel_rfl)
    refine .inl ⟨wanted_none rfl, ?_⟩
    have hq := hu.cell ca.out id
    clear hd hv hu hs hw
    go_simp
    exact ⟨_, rfl, DstOk.some rfl, Below.refl _ _, rfl⟩
  · intro T w Q hu hs hv hw hd
    have hx33 : T.getD 33 undef = (.int .i64 k) := Deps.at 10 hd (by kernel_rfl)
    refine .inl ⟨wanted_none rfl, ?_⟩
    have a0 := hq
    clear hd hv hu hs hw
    go_simp
    exact ⟨_, rfl, DstOk.some rfl, Below.refl _ _, by first | rfl | exact congrArg Value.bool (by first | (simp only [decide_eq_true_eq, decide_eq_false_iff_not]; omega) | (simp; omega) | simp_all)⟩
  · intro T w Q hu hs hv hw hd
    have hx34 : T.getD 34 undef = (.bool true) := Deps.at 11 hd (by kernel_rfl)
    refine .inl ⟨wanted_none rfl, ?_⟩
    clear hd hv hu hs hw
    go_simp
    exact ⟨_, rfl, DstOk.some rfl, Below.refl _ _, rfl⟩
  · intro T w Q hu hs hv hw hd
    have hx0 : T.getD 0 undef = (.pointer (some ⟨xb, xo, none⟩)) := hv 0 (by kernel_rfl)
    refine .inl ⟨wanted_some rfl (Deps.at 12 hd (by kernel_rfl) : slotOf _ T 12 = .bool true), ?_⟩
    clear hd hv hu hs hw
    go_simp
    exact ⟨_, rfl, DstOk.some rfl, Below.refl _ _, rfl⟩
  · intro T w Q hu hs hv hw hd
    have hx36 : T.getD 36 undef = (.pointer (some ⟨xb, xo, none⟩)) := Deps.at 13 hd (by kernel_rfl)
    refine .inl ⟨wanted_some rfl (Deps.at 12 hd (by kernel_rfl) : slotOf _ T 12 = .bool true), ?_⟩
    clear hd hv hu hs hw
    go_simp
    exact ⟨_, rfl, DstOk.some rfl, Below.refl _ _, rfl⟩
  · intro T w Q hu hs hv hw hd
    have hx37 : T.getD 37 undef = (.pointer (some ⟨xb, xo, none⟩)) := Deps.at 14 hd (by kernel_rfl)
    refine .inl ⟨wanted_some rfl (Deps.at 12 hd (by kernel_rfl) : slotOf _ T 12 = .bool true), ?_⟩
    clear hd hv hu hs hw
    go_simp
    exact ⟨_, rfl, DstOk.some rfl, Below.refl _ _, rfl⟩
  · intro T w Q hu hs hv hw hd
    have hx38 : T.getD 38 undef = (.pointer (some ⟨xb, xo + 3, none⟩)) := Deps.at 15 hd (by kernel_rfl)
    refine .inl ⟨wanted_some rfl (Deps.at 12 hd (by kernel_rfl) : slotOf _ T 12 = .bool true), ?_⟩
    have hq := hu.cell c3.out id
    clear hd hv hu hs hw
    go_simp
    exact ⟨_, rfl, DstOk.some rfl, Below.refl _ _, rfl⟩
  · intro T w Q hu hs hv hw hd
    have hx39 : T.getD 39 undef = (.pointer (some ⟨ab, ao, none⟩)) := Deps.at 16 hd (by kernel_rfl)
    refine .inl ⟨wanted_some rfl (Deps.at 12 hd (by kernel_rfl) : slotOf _ T 12 = .bool true), ?_⟩
    clear hd hv hu hs hw
    go_simp
    exact ⟨_, rfl, DstOk.some rfl, Below.refl _ _, rfl⟩
  · intro T w Q hu hs hv hw hd
    have hx40 : T.getD 40 undef = (.pointer (some ⟨ab, ao, none⟩)) := Deps.at 17 hd (by kernel_rfl)
    refine .inl ⟨wanted_some rfl (Deps.at 12 hd (by kernel_rfl) : slotOf _ T 12 = .bool true), ?_⟩
    clear hd hv hu hs hw
    go_simp
    exact ⟨_, rfl, DstOk.some rfl, Below.refl _ _, rfl⟩
  · intro T w Q hu hs hv hw hd
    have hx41 : T.getD 41 undef = (.pointer (some ⟨ab, ao, none⟩)) := Deps.at 18 hd (by kernel_rfl)
    refine .inl ⟨wanted_some rfl (Deps.at 12 hd (by kernel_rfl) : slotOf _ T 12 = .bool true), ?_⟩
    have hq := hu.cell ca.out id
    clear hd hv hu hs hw
    go_simp
    exact ⟨_, rfl, DstOk.some rfl, Below.refl _ _, rfl⟩
  · intro T w Q hu hs hv hw hd
    have hx42 : T.getD 42 undef = (.int .i64 k) := Deps.at 19 hd (by kernel_rfl)
    refine .inl ⟨wanted_some rfl (Deps.at 12 hd (by kernel_rfl) : slotOf _ T 12 = .bool true), ?_⟩
    have a0 := hq
    clear hd hv hu hs hw
    go_simp
    exact ⟨_, rfl, DstOk.some rfl, Below.refl _ _, by first | rfl | exact congrArg Value.bool (by first | (simp only [decide_eq_true_eq, decide_eq_false_iff_not]; omega) | (simp; omega) | simp_all)⟩
  · intro T w Q hu hs hv hw hd
    have hx35 : T.getD 35 undef = (.bool true) := Deps.at 12 hd (by kernel_rfl)
    have hx43 : T.getD 43 undef = (.bool true) := Deps.at 20 hd (by kernel_rfl)
    refine .inl ⟨wanted_none rfl, ?_⟩
    clear hd hv hu hs hw
    go_simp
    exact ⟨_, rfl, DstOk.some rfl, Below.refl _ _, rfl⟩
  · intro T w Q hu hs hv hw hd
    have hx26 : T.getD 26 undef = (.pointer (some ⟨ab, ao, none⟩)) := Deps.at 3 hd (by kernel_rfl)
    have hx44 : T.getD 44 undef = (.bool true) := Deps.at 21 hd (by kernel_rfl)
    refine .inl ⟨wanted_none rfl, ?_⟩
    have hN := hP.out w hu
    clear hd hv hu hs hw
    go_simp
    refine hN.mono ?_
    rintro e w5 ⟨rfl, hb⟩
    exact ⟨_, rfl, DstOk.some rfl, hb, rfl⟩
  · intro T w Q hu hs hv hw hd
    have hx45 : T.getD 45 undef = (.string (strB X)) := Deps.at 22 hd (by kernel_rfl)
    refine .inl ⟨wanted_none rfl, ?_⟩
    have hC := h1.out w
    clear hd hv hu hs hw
    unfold strB at *
    go_simp
    exact ⟨_, rfl, DstOk.some rfl, Below.refl _ _, rfl⟩
  · intro T w Q hu hs hv hw hd
    have hx46 : T.getD 46 undef = (.string (strB T1)) := Deps.at 23 hd (by kernel_rfl)
    refine .inl ⟨wanted_none rfl, ?_⟩
    clear hd hv hu hs hw
    go_simp
    exact ⟨_, rfl, DstOk.some rfl, Below.refl _ _, rfl⟩
  intro T w hu hs hv hf hcur
  have hT : T = #[T.getD 0 undef, T.getD 1 undef, T.getD 2 undef, T.getD 3 undef, T.getD 4 undef, T.getD 5 undef, T.getD 6 undef, T.getD 7 undef, T.getD 8 undef, T.getD 9 undef, T.getD 10 undef, T.getD 11 undef, T.getD 12 undef, T.getD 13 undef, T.getD 14 undef, T.getD 15 undef, T.getD 16 undef, T.getD 17 undef, T.getD 18 undef, T.getD 19 undef, T.getD 20 undef, T.getD 21 undef, T.getD 22 undef, T.getD 23 undef, T.getD 24 undef, T.getD 25 undef, T.getD 26 undef, T.getD 27 undef, T.getD 28 undef, T.getD 29 undef, T.getD 30 undef, T.getD 31 undef, T.getD 32 undef, T.getD 33 undef, T.getD 34 undef, T.getD 35 undef, T.getD 36 undef, T.getD 37 undef, T.getD 38 undef, T.getD 39 undef, T.getD 40 undef, T.getD 41 undef, T.getD 42 undef, T.getD 43 undef, T.getD 44 undef, T.getD 45 undef, T.getD 46 undef, T.getD 47 undef, T.getD 48 undef, T.getD 49 undef, T.getD 50 undef, T.getD 51 undef, T.getD 52 undef, T.getD 53 undef, T.getD 54 undef, T.getD 55 undef, T.getD 56 undef, T.getD 57 undef, T.getD 58 undef, T.getD 59 undef, T.getD 60 undef, T.getD 61 undef, T.getD 62 undef, T.getD 63 undef, T.getD 64 undef, T.getD 65 undef, T.getD 66 undef, T.getD 67 undef, T.getD 68 undef, T.getD 69 undef, T.getD 70 undef, T.getD 71 undef, T.getD 72 undef, T.getD 73 undef, T.getD 74 undef, T.getD 75 undef, T.getD 76 undef, T.getD 77 undef, T.getD 78 undef, T.getD 79 undef, T.getD 80 undef, T.getD 81 undef, T.getD 82 undef, T.getD 83 undef, T.getD 84 undef, T.getD 85 undef, T.getD 86 undef, T.getD 87 undef, T.getD 88 undef, T.getD 89 undef, T.getD 90 undef, T.getD 91 undef, T.getD 92 undef, T.getD 93 undef, T.getD 94 undef, T.getD 95 undef, T.getD 96 undef, T.getD 97 undef, T.getD 98 undef, T.getD 99 undef, T.getD 100 undef, T.getD 101 undef, T.getD 102 undef, T.getD 103 undef, T.getD 104 undef, T.getD 105 undef, T.getD 106 undef, T.getD 107 undef, T.getD 108 undef] := expl hs
  rw [hT]
  clear hT
  rw [show T.getD 0 undef = (.pointer (some ⟨xb, xo, none⟩)) from hv 0 (by kernel_rfl)]
  rw [hv 1 (by kernel_rfl)]
  rw [show T.getD 2 undef = (.string (strB T1)) from hf 24 (by decide)]
  rw [hv 3 (by kernel_rfl)]
  rw [hv 4 (by kernel_rfl)]
  rw [hv 5 (by kernel_rfl)]
  rw [hv 6 (by kernel_rfl)]
  rw [hv 7 (by kernel_rfl)]
  rw [hv 8 (by kernel_rfl)]
  rw [hv 9 (by kernel_rfl)]
  rw [hv 10 (by kernel_rfl)]
  rw [hv 11 (by kernel_rfl)]
  rw [hv 12 (by kernel_rfl)]
  rw [hv 13 (by kernel_rfl)]
  rw [hv 14 (by kernel_rfl)]
  rw [hv 15 (by kernel_rfl)]
  rw [hv 16 (by kernel_rfl)]
  rw [hv 17 (by kernel_rfl)]
  rw [hv 18 (by kernel_rfl)]
  rw [hv 19 (by kernel_rfl)]
  rw [hv 20 (by kernel_rfl)]
  rw [hv 21 (by kernel_rfl)]
  rw [hv 22 (by kernel_rfl)]
  rw [show T.getD 23 undef = (.pointer (some ⟨xb, xo, none⟩)) from hf 0 (by decide)]
  rw [show T.getD 24 undef = (.pointer (some ⟨xb, xo, none⟩)) from hf 1 (by decide)]
  rw [show T.getD 25 undef = (.pointer (some ⟨xb, xo + 3, none⟩)) from hf 2 (by decide)]
  rw [show T.getD 26 undef = (.pointer (some ⟨ab, ao, none⟩)) from hf 3 (by decide)]
  rw [show T.getD 27 undef = (.pointer (some ⟨xb, xo, none⟩)) from hf 4 (by decide)]
  rw [show T.getD 28 undef = (.pointer (some ⟨xb, xo, none⟩)) from hf 5 (by decide)]
  rw [show T.getD 29 undef = (.pointer (some ⟨xb, xo + 3, none⟩)) from hf 6 (by decide)]
  rw [show T.getD 30 undef = (.pointer (some ⟨ab, ao, none⟩)) from hf 7 (by decide)]
  rw [show T.getD 31 undef = (.pointer (some ⟨ab, ao, none⟩)) from hf 8 (by decide)]
  rw [show T.getD 32 undef = (.pointer (some ⟨ab, ao, none⟩)) from hf 9 (by decide)]
  rw [show T.getD 33 undef = (.int .i64 k) from hf 10 (by decide)]
  rw [show T.getD 34 undef = (.bool true) from hf 11 (by decide)]
  rw [show T.getD 35 undef = (.bool true) from hf 12 (by decide)]
  rw [show T.getD 36 undef = (.pointer (some ⟨xb, xo, none⟩)) from hf 13 (by decide)]
  rw [show T.getD 37 undef = (.pointer (some ⟨xb, xo, none⟩)) from hf 14 (by decide)]
  rw [show T.getD 38 undef = (.pointer (some ⟨xb, xo + 3, none⟩)) from hf 15 (by decide)]
  rw [show T.getD 39 undef = (.pointer (some ⟨ab, ao, none⟩)) from hf 16 (by decide)]
  rw [show T.getD 40 undef = (.pointer (some ⟨ab, ao, none⟩)) from hf 17 (by decide)]
  rw [show T.getD 41 undef = (.pointer (some ⟨ab, ao, none⟩)) from hf 18 (by decide)]
  rw [show T.getD 42 undef = (.int .i64 k) from hf 19 (by decide)]
  rw [show T.getD 43 undef = (.bool true) from hf 20 (by decide)]
  rw [show T.getD 44 undef = (.bool true) from hf 21 (by decide)]
  rw [show T.getD 45 undef = (.string (strB X)) from hf 22 (by decide)]
  rw [show T.getD 46 undef = (.string (strB T1)) from hf 23 (by decide)]
  rw [hv 47 (by kernel_rfl)]
  rw [hv 48 (by kernel_rfl)]
  rw [hv 49 (by kernel_rfl)]
  rw [hv 50 (by kernel_rfl)]
  rw [hv 51 (by kernel_rfl)]
  rw [hv 52 (by kernel_rfl)]
  rw [hv 53 (by kernel_rfl)]
  rw [hv 54 (by kernel_rfl)]
  rw [hv 55 (by kernel_rfl)]
  rw [hv 56 (by kernel_rfl)]
  rw [hv 57 (by kernel_rfl)]
  rw [hv 58 (by kernel_rfl)]
  rw [hv 59 (by kernel_rfl)]
  rw [hv 60 (by kernel_rfl)]
  rw [hv 61 (by kernel_rfl)]
  rw [hv 62 (by kernel_rfl)]
  rw [hv 63 (by kernel_rfl)]
  rw [hv 64 (by kernel_rfl)]
  rw [hv 65 (by kernel_rfl)]
  rw [hv 66 (by kernel_rfl)]
  rw [hv 67 (by kernel_rfl)]
  rw [hv 68 (by kernel_rfl)]
  rw [hv 69 (by kernel_rfl)]
  rw [hv 70 (by kernel_rfl)]
  rw [hv 71 (by kernel_rfl)]
  rw [hv 72 (by kernel_rfl)]
  rw [hv 73 (by kernel_rfl)]
  rw [hv 74 (by kernel_rfl)]
  rw [hv 75 (by kernel_rfl)]
  rw [hv 76 (by kernel_rfl)]
  rw [hv 77 (by kernel_rfl)]
  rw [hv 78 (by kernel_rfl)]
  rw [hv 79 (by kernel_rfl)]
  rw [hv 80 (by kernel_rfl)]
  rw [hv 81 (by kernel_rfl)]
  rw [hv 82 (by kernel_rfl)]
  rw [hv 83 (by kernel_rfl)]
  rw [hv 84 (by kernel_rfl)]
  rw [hv 85 (by kernel_rfl)]
  rw [hv 86 (by kernel_rfl)]
  rw [hv 87 (by kernel_rfl)]
  rw [hv 88 (by kernel_rfl)]
  rw [hv 89 (by kernel_rfl)]
  rw [hv 90 (by kernel_rfl)]
  rw [hv 91 (by kernel_rfl)]
  rw [hv 92 (by kernel_rfl)]
  rw [hv 93 (by kernel_rfl)]
  rw [hv 94 (by kernel_rfl)]
  rw [hv 95 (by kernel_rfl)]
  rw [hv 96 (by kernel_rfl)]
  rw [hv 97 (by kernel_rfl)]
  rw [hv 98 (by kernel_rfl)]
  rw [hv 99 (by kernel_rfl)]
  rw [hv 100 (by kernel_rfl)]
  rw [hv 101 (by kernel_rfl)]
  rw [hv 102 (by kernel_rfl)]
  rw [hv 103 (by kernel_rfl)]
  rw [hv 104 (by kernel_rfl)]
  rw [hv 105 (by kernel_rfl)]
  rw [hv 106 (by kernel_rfl)]
  rw [hv 107 (by kernel_rfl)]
  rw [hv 108 (by kernel_rfl)]
  clear hf hs hv hcur
  simp only [getD_toArray, List.getD_cons_succ, List.getD_cons_zero]
  clear T
  have hb9 := hide (hu.below (Nat.le_refl _) fun _ h => h.elim)
  clear hu
  go_wp2_with fail
  go_ret
  exact ⟨rfl, hb9.out⟩
theorem ex6_neg (a : Ex) (hA : Ex6 a) : Ex6 (.neg a) := by
  intro x w S hx hw hl
  obtain ⟨xb, xo, va, rfl, ⟨hS, c0, -, -, c3, -⟩, hxa⟩ := hx
  have hw' : WfX a := hw
  obtain ⟨ab, ao, k, hva, ca, -, hk⟩ := hxa.kind
  have hn := neg_kind hw' hk
  have hX : exT (.neg a) = [45] ++ parT (decide (bindE a < 2)) (exT a) := by rw [exT]
  have hla : (exT a).length ≤ 1000000 := by
    rw [hX, List.length_append] at hl
    unfold parT at hl
    split at hl
    · simp at hl; omega
    · omega
  rw [hX]
  by_cases h1 : 2 ≤ k
  · by_cases h2 : k ≤ 6
    · rw [hn.2 ⟨h1, h2⟩]
      exact neg_yes a hA va xb xo ab ao k w S hxa hw' hla c0 c3 hva ca ⟨h1, h2⟩
    · rw [show decide (bindE a < 2) = false by
        cases h : decide (bindE a < 2) with
        | false => rfl
        | true => exact absurd (hn.1 h).2 h2]
      exact neg_no2 a hA va xb xo ab ao k w S hxa hw' hla c0 c3 hva ca (by omega)
  · rw [show decide (bindE a < 2) = false by
      cases h : decide (bindE a < 2) with
      | false => rfl
      | true => exact absurd (hn.1 h).1 h1]
    exact neg_no1 a hA va xb xo ab ao k w S hxa hw' hla c0 c3 hva ca h1
set_option maxRecDepth 100000 in
set_option maxHeartbeats 1600000 in
theorem ex6_bin2 (a c : Ex) (hA : Ex6 a) (hC : Ex6 c) (x : Value) (wa : World) (S : Nat → Prop) (hx : ExA wa S (.bin 2 a c) x) (hw : WfX (.bin 2 a c)) (hl : (exT (.bin 2 a c)).length ≤ 1000000) :
    Calls Tryd.prog 10 #[x] wa fun r w' => r = .returned (.string (strB (exT (.bin 2 a c)))) ∧ Below wa.heap.size wa w' := by
  have hL := fun w' (hu : Upd (fun _ => False) wa w') => low_any (.bin 2 a c) x w' S (hx.same hu)
  rw [show lowE (.bin 2 a c) = true from rfl] at hL
  obtain ⟨xb, xo, va, vc, rfl, ⟨hS, c0, -, -, c3, c4⟩, hxa, hxc⟩ := hx
  obtain ⟨-, -, hwa, hwc⟩ := hw
  have hX : exT (.bin 2 a c) = parT (false) (exT a) ++ [32, 43, 32] ++ parT (lowE c) (exT c) := by
    rw [exT, show signT 2 = [32, 43, 32] from rfl]
    congr 2
    unfold lowE
    rw [decide_eq_decide]
    show bindE c < 0 + 1 ↔ _
    omega
  rw [hX] at hl ⊢
  rw [List.length_append, List.length_append] at hl
  have hla : (exT a).length ≤ 1000000 := by
    have : (exT a).length ≤ (parT (false) (exT a)).length := by unfold parT; split <;> simp <;> omega
    omega
  have hlc : (exT c).length ≤ 1000000 := by
    have : (exT c).length ≤ (parT (lowE c) (exT c)).length := by unfold parT; split <;> simp <;> omega
    omega
  have hPA := hide (fun w' (hu : Upd (fun _ => False) wa w') => part_of a hA (false) va w' S (hxa.same hu) hwa hla)
  have hPC := hide (fun w' (hu : Upd (fun _ => False) wa w') => part_of c hC (lowE c) vc w' S (hxc.same hu) hwc hlc)
  have hLA := hide (fun w' (hu : Upd (fun _ => False) wa w') => low_any a va w' S (hxa.same hu))
  have hLC := hide (fun w' (hu : Upd (fun _ => False) wa w') => low_any c vc w' S (hxc.same hu))
  have hHC := hide (fun w' (hu : Upd (fun _ => False) wa w') => high_any c vc w' S (hxc.same hu))
  replace hL := hide hL
  obtain ⟨ab, ao, rfl⟩ := hxa.ptr
  obtain ⟨cb, co, rfl⟩ := hxc.ptr
  clear hX hwa hwc hxa hxc hla hlc hA hC
  generalize parT (false) (exT a) = PA at *
  generalize parT (lowE c) (exT c) = PC at *
  obtain ⟨T1, e1⟩ : ∃ T, T = PA ++ [32] := ⟨_, rfl⟩
  obtain ⟨T2, e2⟩ : ∃ T, T = T1 ++ [43] := ⟨_, rfl⟩
  obtain ⟨T3, e3⟩ : ∃ T, T = T2 ++ [32] := ⟨_, rfl⟩
  obtain ⟨TX, e4⟩ : ∃ T, T = T3 ++ PC := ⟨_, rfl⟩
  have hT : PA ++ [32, 43, 32] ++ PC = TX := by rw [e4, e3, e2, e1]; simp
  rw [hT]
  have l1 : T1.length = PA.length + 1 := by rw [e1, List.length_append]; rfl
  have l2 : T2.length = PA.length + 2 := by rw [e2, List.length_append, l1]; rfl
  have l3 : T3.length = PA.length + 3 := by rw [e3, List.length_append, l2]; rfl
  have h1 := hide (fun w => by rw [e1]; exact str_add PA [32] (by show _ + 1 ≤ _; omega) w : ∀ w, (Op.stringOp .add (strB PA) ⟨#[32]⟩).run Tryd.prog w = .ok (.string (strB T1)) w)
  have h2 := hide (fun w => by rw [e2]; exact str_add T1 [43] (by show _ + 1 ≤ _; omega) w : ∀ w, (Op.stringOp .add (strB T1) ⟨#[43]⟩).run Tryd.prog w = .ok (.string (strB T2)) w)
  have h3 := hide (fun w => by rw [e3]; exact str_add T2 [32] (by show _ + 1 ≤ _; omega) w : ∀ w, (Op.stringOp .add (strB T2) ⟨#[32]⟩).run Tryd.prog w = .ok (.string (strB T3)) w)
  have h4 := hide (fun w => by rw [e4]; exact str_add T3 PC (by omega) w : ∀ w, (Op.stringOp .add (strB T3) (strB PC)).run Tryd.prog w = .ok (.string (strB TX)) w)
  clear hT e1 e2 e3 e4 l1 l2 l3 hl hS
  have c0n := fun o => (Upd.alloc (fun _ => False) wa o).cell c0 id
  have c3w := hide c3
  have c4w := hide c4
  clear c3 c4
  go_enter Tryd.func10, Tryd.ntmps10
  go_wp2_with fail
  generalize hwn : World.alloc wa _ = wn
  have hun : Upd (fun _ => False) wa wn := hwn ▸ .alloc _ _ _
  refine (hL.out wn hun).mono ?_
  rintro r w1 ⟨rfl, rfl⟩
  go_wp2_with fail
  have c3 := hide (hun.cell c3w.out id)
  have c4 := hide (hun.cell c4w.out id)
  replace hun := hide hun
  clear c0 c0n hwn c3w c4w
  refine wp_region_flow (fun _ => False) (factAt [(fun v _ => v = (.pointer (some ⟨xb, xo, none⟩))), (fun v _ => v = (.pointer (some ⟨xb, xo, none⟩))), (fun v _ => v = (.pointer (some ⟨xb, xo + 3, none⟩))), (fun v _ => v = (.pointer (some ⟨ab, ao, none⟩))), (fun v _ => v = (.string (strB PA))), (fun v _ => v = (.string (strB T1))), (fun v _ => v = (.string ⟨#[43]⟩)), (fun v _ => v = (.string (strB T2))), (fun v _ => v = (.string (strB T3))), (fun v _ => v = (.pointer (some ⟨xb, xo, none⟩))), (fun v _ => v = (.pointer (some ⟨xb, xo, none⟩))), (fun v _ => v = (.pointer (some ⟨xb, xo + 4, none⟩))), (fun v _ => v = (.pointer (some ⟨cb, co, none⟩))), (fun v _ => v = (.pointer (some ⟨xb, xo, none⟩))), (fun v _ => v = (.pointer (some ⟨xb, xo, none⟩))), (fun v _ => v = (.pointer (some ⟨xb, xo + 4, none⟩))), (fun v _ => v = (.pointer (some ⟨cb, co, none⟩))), (fun v _ => v = (.bool (lowE c))), (fun v _ => v = (.string (strB PC))), (fun v _ => v = (.string (strB TX))), (fun v _ => v = (.string (strB TX)))]) [] (fun _ => True) (by kernel_rfl) (fkept_at ⟨FKept.eq _, FKept.eq _, FKept.eq _, FKept.eq _, FKept.eq _, FKept.eq _, FKept.eq _, FKept.eq _, FKept.eq _, FKept.eq _, FKept.eq _, FKept.eq _, FKept.eq _, FKept.eq _, FKept.eq _, FKept.eq _, FKept.eq _, FKept.eq _, FKept.eq _, FKept.eq _, FKept.eq _, trivial⟩) (fun _ _ h _ => h) trivial (by kernel_rfl) (by kernel_rfl) (by kernel_rfl) (by kernel_rfl) (Nat.le_of_ble_eq_true (by kernel_rfl)) ?_ ⟨?_, ?_, ?_, ?_, ?_, ?_, ?_, ?_, ?_, ?_, ?_, ?_, ?_, ?_, ?_, ?_, ?_, ?_, ?_, ?_, ?_, trivial⟩ ?_
  · first | exact trivial | assumption
  · intro T w Q hu hs hv hw hd
    have hx0 : T.getD 0 undef = (.pointer (some ⟨xb, xo, none⟩)) := hv 0 (by kernel_rfl)
    refine .inl ⟨wanted_none rfl, ?_⟩
    clear hd hv hu hs hw
    go_simp
    exact ⟨_, rfl, DstOk.some rfl, Below.refl _ _, rfl⟩
  · intro T w Q hu hs hv hw hd
    have hx57 : T.getD 57 undef = (.pointer (some ⟨xb, xo, none⟩)) := Deps.at 0 hd (by kernel_rfl)
    refine .inl ⟨wanted_none rfl, ?_⟩
    clear hd hv hu hs hw
    go_simp
    exact ⟨_, rfl, DstOk.some rfl, Below.refl _ _, rfl⟩
  · intro T w Q hu hs hv hw hd
    have hx58 : T.getD 58 undef = (.pointer (some ⟨xb, xo, none⟩)) := Deps.at 1 hd (by kernel_rfl)
    refine .inl ⟨wanted_none rfl, ?_⟩
    clear hd hv hu hs hw
    go_simp
    exact ⟨_, rfl, DstOk.some rfl, Below.refl _ _, rfl⟩
  · intro T w Q hu hs hv hw hd
    have hx59 : T.getD 59 undef = (.pointer (some ⟨xb, xo + 3, none⟩)) := Deps.at 2 hd (by kernel_rfl)
    refine .inl ⟨wanted_none rfl, ?_⟩
    have hq := hu.cell c3.out id
    clear hd hv hu hs hw
    go_simp
    exact ⟨_, rfl, DstOk.some rfl, Below.refl _ _, rfl⟩
  · intro T w Q hu hs hv hw hd
    have hx60 : T.getD 60 undef = (.pointer (some ⟨ab, ao, none⟩)) := Deps.at 3 hd (by kernel_rfl)
    refine .inl ⟨wanted_none rfl, ?_⟩
    have hN := hPA.out w (hun.out.then hu)
    clear hd hv hu hs hw
    go_simp
    refine hN.mono ?_
    rintro e w5 ⟨rfl, hb⟩
    exact ⟨_, rfl, DstOk.some rfl, hb, rfl⟩
  · intro T w Q hu hs hv hw hd
    have hx61 : T.getD 61 undef = (.string (strB PA)) := Deps.at 4 hd (by kernel_rfl)
    refine .inl ⟨wanted_none rfl, ?_⟩
    have hC := h1.out w
    clear hd hv hu hs hw
    unfold strB at *
    go_simp
    exact ⟨_, rfl, DstOk.some rfl, Below.refl _ _, rfl⟩
  · intro T w Q hu hs hv hw hd
    have hx3 : T.getD 3 undef = (.string ⟨#[43]⟩) := hv 3 (by kernel_rfl)
    refine .inl ⟨wanted_none rfl, ?_⟩
    clear hd hv hu hs hw
    go_simp
    exact ⟨_, rfl, DstOk.some rfl, Below.refl _ _, rfl⟩
  · intro T w Q hu hs hv hw hd
    have hx62 : T.getD 62 undef = (.string (strB T1)) := Deps.at 5 hd (by kernel_rfl)
    have hx63 : T.getD 63 undef = (.string ⟨#[43]⟩) := Deps.at 6 hd (by kernel_rfl)
    refine .inl ⟨wanted_none rfl, ?_⟩
    have hC := h2.out w
    clear hd hv hu hs hw
    unfold strB at *
    go_simp
    exact ⟨_, rfl, DstOk.some rfl, Below.refl _ _, rfl⟩
  · intro T w Q hu hs hv hw hd
    have hx64 : T.getD 64 undef = (.string (strB T2)) := Deps.at 7 hd (by kernel_rfl)
    refine .inl ⟨wanted_none rfl, ?_⟩
    have hC := h3.out w
    clear hd hv hu hs hw
    unfold strB at *
    go_simp
    exact ⟨_, rfl, DstOk.some rfl, Below.refl _ _, rfl⟩
  · intro T w Q hu hs hv hw hd
    have hx0 : T.getD 0 undef = (.pointer (some ⟨xb, xo, none⟩)) := hv 0 (by kernel_rfl)
    refine .inl ⟨wanted_none rfl, ?_⟩
    clear hd hv hu hs hw
    go_simp
    exact ⟨_, rfl, DstOk.some rfl, Below.refl _ _, rfl⟩
  · intro T w Q hu hs hv hw hd
    have hx66 : T.getD 66 undef = (.pointer (some ⟨xb, xo, none⟩)) := Deps.at 9 hd (by kernel_rfl)
    refine .inl ⟨wanted_none rfl, ?_⟩
    clear hd hv hu hs hw
    go_simp
    exact ⟨_, rfl, DstOk.some rfl, Below.refl _ _, rfl⟩
  · intro T w Q hu hs hv hw hd
    have hx67 : T.getD 67 undef = (.pointer (some ⟨xb, xo, none⟩)) := Deps.at 10 hd (by kernel_rfl)
    refine .inl ⟨wanted_none rfl, ?_⟩
    clear hd hv hu hs hw
    go_simp
    exact ⟨_, rfl, DstOk.some rfl, Below.refl _ _, rfl⟩
  · intro T w Q hu hs hv hw hd
    have hx68 : T.getD 68 undef = (.pointer (some ⟨xb, xo + 4, none⟩)) := Deps.at 11 hd (by kernel_rfl)
    refine .inl ⟨wanted_none rfl, ?_⟩
    have hq := hu.cell c4.out id
    clear hd hv hu hs hw
    go_simp
    exact ⟨_, rfl, DstOk.some rfl, Below.refl _ _, rfl⟩
  · intro T w Q hu hs hv hw hd
    have hx0 : T.getD 0 undef = (.pointer (some ⟨xb, xo, none⟩)) := hv 0 (by kernel_rfl)
    refine .inl ⟨wanted_none rfl, ?_⟩
    clear hd hv hu hs hw
    go_simp
    exact ⟨_, rfl, DstOk.some rfl, Below.refl _ _, rfl⟩
  · intro T w Q hu hs hv hw hd
    have hx70 : T.getD 70 undef = (.pointer (some ⟨xb, xo, none⟩)) := Deps.at 13 hd (by kernel_rfl)
    refine .inl ⟨wanted_none rfl, ?_⟩
    clear hd hv hu hs hw
    go_simp
    exact ⟨_, rfl, DstOk.some rfl, Below.refl _ _, rfl⟩
  · intro T w Q hu hs hv hw hd
    have hx71 : T.getD 71 undef = (.pointer (some ⟨xb, xo, none⟩)) := Deps.at 14 hd (by kernel_rfl)
    refine .inl ⟨wanted_none rfl, ?_⟩
    clear hd hv hu hs hw
    go_simp
    exact ⟨_, rfl, DstOk.some rfl, Below.refl _ _, rfl⟩
  · intro T w Q hu hs hv hw hd
    have hx72 : T.getD 72 undef = (.pointer (some ⟨xb, xo + 4, none⟩)) := Deps.at 15 hd (by kernel_rfl)
    refine .inl ⟨wanted_none rfl, ?_⟩
    have hq := hu.cell c4.out id
    clear hd hv hu hs hw
    go_simp
    exact ⟨_, rfl, DstOk.some rfl, Below.refl _ _, rfl⟩
  · intro T w Q hu hs hv hw hd
    have hx73 : T.getD 73 undef = (.pointer (some ⟨cb, co, none⟩)) := Deps.at 16 hd (by kernel_rfl)
    refine .inl ⟨wanted_none rfl, ?_⟩
    have hN := hLC.out w (hun.out.then hu)
    clear hd hv hu hs hw
    go_simp
    refine hN.mono ?_
    rintro e w5 ⟨rfl, rfl⟩
    exact ⟨_, rfl, DstOk.some rfl, Below.refl _ _, rfl⟩
  · intro T w Q hu hs hv hw hd
    have hx69 : T.getD 69 undef = (.pointer (some ⟨cb, co, none⟩)) := Deps.at 12 hd (by kernel_rfl)
    have hx74 : T.getD 74 undef = (.bool (lowE c)) := Deps.at 17 hd (by kernel_rfl)
    refine .inl ⟨wanted_none rfl, ?_⟩
    have hN := hPC.out w (hun.out.then hu)
    clear hd hv hu hs hw
    go_simp
    refine hN.mono ?_
    rintro e w5 ⟨rfl, hb⟩
    exact ⟨_, rfl, DstOk.some rfl, hb, rfl⟩
  · intro T w Q hu hs hv hw hd
    have hx65 : T.getD 65 undef = (.string (strB T3)) := Deps.at 8 hd (by kernel_rfl)
    have hx75 : T.getD 75 undef = (.string (strB PC)) := Deps.at 18 hd (by kernel_rfl)
    refine .inl ⟨wanted_none rfl, ?_⟩
    have hC := h4.out w
    clear hd hv hu hs hw
    unfold strB at *
    go_simp
    exact ⟨_, rfl, DstOk.some rfl, Below.refl _ _, rfl⟩
  · intro T w Q hu hs hv hw hd
    have hx76 : T.getD 76 undef = (.string (strB TX)) := Deps.at 19 hd (by kernel_rfl)
    refine .inl ⟨wanted_none rfl, ?_⟩
    clear hd hv hu hs hw
    go_simp
    exact ⟨_, rfl, DstOk.some rfl, Below.refl _ _, rfl⟩
  intro T w hu hs hv hf hcur
  have hT : T = #[T.getD 0 undef, T.getD 1 undef, T.getD 2 undef, T.getD 3 undef, T.getD 4 undef, T.getD 5 undef, T.getD 6 undef, T.getD 7 undef, T.getD 8 undef, T.getD 9 undef, T.getD 10 undef, T.getD 11 undef, T.getD 12 undef, T.getD 13 undef, T.getD 14 undef, T.getD 15 undef, T.getD 16 undef, T.getD 17 undef, T.getD 18 undef, T.getD 19 undef, T.getD 20 undef, T.getD 21 undef, T.getD 22 undef, T.getD 23 undef, T.getD 24 undef, T.getD 25 undef, T.getD 26 undef, T.getD 27 undef, T.getD 28 undef, T.getD 29 undef, T.getD 30 undef, T.getD 31 undef, T.getD 32 undef, T.getD 33 undef, T.getD 34 undef, T.getD 35 undef, T.getD 36 undef, T.getD 37 undef, T.getD 38 undef, T.getD 39 undef, T.getD 40 undef, T.getD 41 undef, T.getD 42 undef, T.getD 43 undef, T.getD 44 undef, T.getD 45 undef, T.getD 46 undef, T.getD 47 undef, T.getD 48 undef, T.getD 49 undef, T.getD 50 undef, T.getD 51 undef, T.getD 52 undef, T.getD 53 undef, T.getD 54 undef, T.getD 55 undef, T.getD 56 undef, T.getD 57 undef, T.getD 58 undef, T.getD 59 undef, T.getD 60 undef, T.getD 61 undef, T.getD 62 undef, T.getD 63 undef, T.getD 64 undef, T.getD 65 undef, T.getD 66 undef, T.getD 67 undef, T.getD 68 undef, T.getD 69 undef, T.getD 70 undef, T.getD 71 undef, T.getD 72 undef, T.getD 73 undef, T.getD 74 undef, T.getD 75 undef, T.getD 76 undef, T.getD 77 undef, T.getD 78 undef, T.getD 79 undef, T.getD 80 undef, T.getD 81 undef, T.getD 82 undef, T.getD 83 undef, T.getD 84 undef, T.getD 85 undef, T.getD 86 undef, T.getD 87 undef, T.getD 88 undef, T.getD 89 undef, T.getD 90 undef, T.getD 91 undef, T.getD 92 undef, T.getD 93 undef, T.getD 94 undef, T.getD 95 undef, T.getD 96 undef, T.getD 97 undef, T.getD 98 undef, T.getD 99 undef, T.getD 100 undef, T.getD 101 undef, T.getD 102 undef, T.getD 103 undef, T.getD 104 undef, T.getD 105 undef, T.getD 106 undef, T.getD 107 undef, T.getD 108 undef] := expl hs
  rw [hT]
  clear hT
  rw [show T.getD 0 undef = (.pointer (some ⟨xb, xo, none⟩)) from hv 0 (by kernel_rfl)]
  rw [hv 1 (by kernel_rfl)]
  rw [show T.getD 2 undef = (.string (strB TX)) from hf 20 (by decide)]
  rw [hv 3 (by kernel_rfl)]
  rw [hv 4 (by kernel_rfl)]
  rw [hv 5 (by kernel_rfl)]
  rw [hv 6 (by kernel_rfl)]
  rw [hv 7 (by kernel_rfl)]
  rw [hv 8 (by kernel_rfl)]
  rw [hv 9 (by kernel_rfl)]
  rw [hv 10 (by kernel_rfl)]
  rw [hv 11 (by kernel_rfl)]
  rw [hv 12 (by kernel_rfl)]
  rw [hv 13 (by kernel_rfl)]
  rw [hv 14 (by kernel_rfl)]
  rw [hv 15 (by kernel_rfl)]
  rw [hv 16 (by kernel_rfl)]
  rw [hv 17 (by kernel_rfl)]
  rw [hv 18 (by kernel_rfl)]
  rw [hv 19 (by kernel_rfl)]
  rw [hv 20 (by kernel_rfl)]
  rw [hv 21 (by kernel_rfl)]
  rw [hv 22 (by kernel_rfl)]
  rw [hv 23 (by kernel_rfl)]
  rw [hv 24 (by kernel_rfl)]
  rw [hv 25 (by kernel_rfl)]
  rw [hv 26 (by kernel_rfl)]
  rw [hv 27 (by kernel_rfl)]
  rw [hv 28 (by kernel_rfl)]
  rw [hv 29 (by kernel_rfl)]
  rw [hv 30 (by kernel_rfl)]
  rw [hv 31 (by kernel_rfl)]
  rw [hv 32 (by kernel_rfl)]
  rw [hv 33 (by kernel_rfl)]
  rw [hv 34 (by kernel_rfl)]
  rw [hv 35 (by kernel_rfl)]
  rw [hv 36 (by kernel_rfl)]
  rw [hv 37 (by kernel_rfl)]
  rw [hv 38 (by kernel_rfl)]
  rw [hv 39 (by kernel_rfl)]
  rw [hv 40 (by kernel_rfl)]
  rw [hv 41 (by kernel_rfl)]
  rw [hv 42 (by kernel_rfl)]
  rw [hv 43 (by kernel_rfl)]
  rw [hv 44 (by kernel_rfl)]
  rw [hv 45 (by kernel_rfl)]
  rw [hv 46 (by kernel_rfl)]
  rw [hv 47 (by kernel_rfl)]
  rw [hv 48 (by kernel_rfl)]
  rw [hv 49 (by kernel_rfl)]
  rw [hv 50 (by kernel_rfl)]
  rw [hv 51 (by kernel_rfl)]
  rw [hv 52 (by kernel_rfl)]
  rw [hv 53 (by kernel_rfl)]
  rw [hv 54 (by kernel_rfl)]
  rw [hv 55 (by kernel_rfl)]
  rw [hv 56 (by kernel_rfl)]
  rw [show T.getD 57 undef = (.pointer (some ⟨xb, xo, none⟩)) from hf 0 (by decide)]
  rw [show T.getD 58 undef = (.pointer (some ⟨xb, xo, none⟩)) from hf 1 (by decide)]
  rw [show T.getD 59 undef = (.pointer (some ⟨xb, xo + 3, none⟩)) from hf 2 (by decide)]
  rw [show T.getD 60 undef = (.pointer (some ⟨ab, ao, none⟩)) from hf 3 (by decide)]
  rw [show T.getD 61 undef = (.string (strB PA)) from hf 4 (by decide)]
  rw [show T.getD 62 undef = (.string (strB T1)) from hf 5 (by decide)]
  rw [show T.getD 63 undef = (.string ⟨#[43]⟩) from hf 6 (by decide)]
  rw [show T.getD 64 undef = (.string (strB T2)) from hf 7 (by decide)]
  rw [show T.getD 65 undef = (.string (strB T3)) from hf 8 (by decide)]
  rw [show T.getD 66 undef = (.pointer (some ⟨xb, xo, none⟩)) from hf 9 (by decide)]
  rw [show T.getD 67 undef = (.pointer (some ⟨xb, xo, none⟩)) from hf 10 (by decide)]
  rw [show T.getD 68 undef = (.pointer (some ⟨xb, xo + 4, none⟩)) from hf 11 (by decide)]
  rw [show T.getD 69 undef = (.pointer (some ⟨cb, co, none⟩)) from hf 12 (by decide)]
  rw [show T.getD 70 undef = (.pointer (some ⟨xb, xo, none⟩)) from hf 13 (by decide)]
  rw [show T.getD 71 undef = (.pointer (some ⟨xb, xo, none⟩)) from hf 14 (by decide)]
  rw [show T.getD 72 undef = (.pointer (some ⟨xb, xo + 4, none⟩)) from hf 15 (by decide)]
  rw [show T.getD 73 undef = (.pointer (some ⟨cb, co, none⟩)) from hf 16 (by decide)]
  rw [show T.getD 74 undef = (.bool (lowE c)) from hf 17 (by decide)]
  rw [show T.getD 75 undef = (.string (strB PC)) from hf 18 (by decide)]
  rw [show T.getD 76 undef = (.string (strB TX)) from hf 19 (by decide)]
  rw [hv 77 (by kernel_rfl)]
  rw [hv 78 (by kernel_rfl)]
  rw [hv 79 (by kernel_rfl)]
  rw [hv 80 (by kernel_rfl)]
  rw [hv 81 (by kernel_rfl)]
  rw [hv 82 (by kernel_rfl)]
  rw [hv 83 (by kernel_rfl)]
  rw [hv 84 (by kernel_rfl)]
  rw [hv 85 (by kernel_rfl)]
  rw [hv 86 (by kernel_rfl)]
  rw [hv 87 (by kernel_rfl)]
  rw [hv 88 (by kernel_rfl)]
  rw [hv 89 (by kernel_rfl)]
  rw [hv 90 (by kernel_rfl)]
  rw [hv 91 (by kernel_rfl)]
  rw [hv 92 (by kernel_rfl)]
  rw [hv 93 (by kernel_rfl)]
  rw [hv 94 (by kernel_rfl)]
  rw [hv 95 (by kernel_rfl)]
  rw [hv 96 (by kernel_rfl)]
  rw [hv 97 (by kernel_rfl)]
  rw [hv 98 (by kernel_rfl)]
  rw [hv 99 (by kernel_rfl)]
  rw [hv 100 (by kernel_rfl)]
  rw [hv 101 (by kernel_rfl)]
  rw [hv 102 (by kernel_rfl)]
  rw [hv 103 (by kernel_rfl)]
  rw [hv 104 (by kernel_rfl)]
  rw [hv 105 (by kernel_rfl)]
  rw [hv 106 (by kernel_rfl)]
  rw [hv 107 (by kernel_rfl)]
  rw [hv 108 (by kernel_rfl)]
  clear hf hs hv hcur
  simp only [getD_toArray, List.getD_cons_succ, List.getD_cons_zero]
  clear T
  have hb9 := hide ((hun.out.then hu).below (Nat.le_refl _) fun _ h => h.elim)
  clear hu
  go_wp2_with fail
  go_ret
  exact ⟨rfl, hb9.out⟩
set_option maxRecDepth 100000 in
set_option maxHeartbeats 1600000 in
theorem ex6_bin3 (a c : Ex) (hA : Ex6 a) (hC : Ex6 c) (x : Value) (wa : World) (S : Nat → Prop) (hx : ExA wa S (.bin 3 a c) x) (hw : WfX (.bin 3 a c)) (hl : (exT (.bin 3 a c)).length ≤ 1000000) :
    Calls Tryd.prog 10 #[x] wa fun r w' => r = .returned (.string (strB (exT (.bin 3 a c)))) ∧ Below wa.heap.size wa w' := by
  have hL := fun w' (hu : Upd (fun _ => False) wa w') => low_any (.bin 3 a c) x w' S (hx.same hu)
  rw [show lowE (.bin 3 a c) = true from rfl] at hL
  obtain ⟨xb, xo, va, vc, rfl, ⟨hS, c0, -, -, c3, c4⟩, hxa, hxc⟩ := hx
  obtain ⟨-, -, hwa, hwc⟩ := hw
  have hX : exT (.bin 3 a c) = parT (false) (exT a) ++ [32, 45, 32] ++ parT (lowE c) (exT c) := by
    rw [exT, show signT 3 = [32, 45, 32] from rfl]
    congr 2
    unfold lowE
    rw [decide_eq_decide]
    show bindE c < 0 + 1 ↔ _
    omega
  rw [hX] at hl ⊢
  rw [List.length_append, List.length_append] at hl
  have hla : (exT a).length ≤ 1000000 := by
    have : (exT a).length ≤ (parT (false) (exT a)).length := by unfold parT; split <;> simp <;> omega
    omega
  have hlc : (exT c).length ≤ 1000000 := by
    have : (exT c).length ≤ (parT (lowE c) (exT c)).length := by unfold parT; split <;> simp <;> omega
    omega
  have hPA := hide (fun w' (hu : Upd (fun _ => False) wa w') => part_of a hA (false) va w' S (hxa.same hu) hwa hla)
  have hPC := hide (fun w' (hu : Upd (fun _ => False) wa w') => part_of c hC (lowE c) vc w' S (hxc.same hu) hwc hlc)
  have hLA := hide (fun w' (hu : Upd (fun _ => False) wa w') => low_any a va w' S (hxa.same hu))
  have hLC := hide (fun w' (hu : Upd (fun _ => False) wa w') => low_any c vc w' S (hxc.same hu))
  have hHC := hide (fun w' (hu : Upd (fun _ => False) wa w') => high_any c vc w' S (hxc.same hu))
  replace hL := hide hL
  obtain ⟨ab, ao, rfl⟩ := hxa.ptr
  obtain ⟨cb, co, rfl⟩ := hxc.ptr
  clear hX hwa hwc hxa hxc hla hlc hA hC
  generalize parT (false) (exT a) = PA at *
  generalize parT (lowE c) (exT c) = PC at *
  obtain ⟨T1, e1⟩ : ∃ T, T = PA ++ [32] := ⟨_, rfl⟩
  obtain ⟨T2, e2⟩ : ∃ T, T = T1 ++ [45] := ⟨_, rfl⟩
  obtain ⟨T3, e3⟩ : ∃ T, T = T2 ++ [32] := ⟨_, rfl⟩
  obtain ⟨TX, e4⟩ : ∃ T, T = T3 ++ PC := ⟨_, rfl⟩
  have hT : PA ++ [32, 45, 32] ++ PC = TX := by rw [e4, e3, e2, e1]; simp
  rw [hT]
  have l1 : T1.length = PA.length + 1 := by rw [e1, List.length_append]; rfl
  have l2 : T2.length = PA.length + 2 := by rw [e2, List.length_append, l1]; rfl
  have l3 : T3.length = PA.length + 3 := by rw [e3, List.length_append, l2]; rfl
  have h1 := hide (fun w => by rw [e1]; exact str_add PA [32] (by show _ + 1 ≤ _; omega) w : ∀ w, (Op.stringOp .add (strB PA) ⟨#[32]⟩).run Tryd.prog w = .ok (.string (strB T1)) w)
  have h2 := hide (fun w => by rw [e2]; exact str_add T1 [45] (by show _ + 1 ≤ _; omega) w : ∀ w, (Op.stringOp .add (strB T1) ⟨#[45]⟩).run Tryd.prog w = .ok (.string (strB T2)) w)
  have h3 := hide (fun w => by rw [e3]; exact str_add T2 [32] (by show _ + 1 ≤ _; omega) w : ∀ w, (Op.stringOp .add (strB T2) ⟨#[32]⟩).run Tryd.prog w = .ok (.string (strB T3)) w)
  have h4 := hide (fun w => by rw [e4]; exact str_add T3 PC (by omega) w : ∀ w, (Op.stringOp .add (strB T3) (strB PC)).run Tryd.prog w = .ok (.string (strB TX)) w)
  clear hT e1 e2 e3 e4 l1 l2 l3 hl hS
  have c0n := fun o => (Upd.alloc (fun _ => False) wa o).cell c0 id
  have c3w := hide c3
  have c4w := hide c4
  clear c3 c4
  go_enter Tryd.func10, Tryd.ntmps10
  go_wp2_with fail
  generalize hwn : World.alloc wa _ = wn
  have hun : Upd (fun _ => False) wa wn := hwn ▸ .alloc _ _ _
  refine (hL.out wn hun).mono ?_
  rintro r w1 ⟨rfl, rfl⟩
  go_wp2_with fail
  have c3 := hide (hun.cell c3w.out id)
  have c4 := hide (hun.cell c4w.out id)
  replace hun := hide hun
  clear c0 c0n hwn c3w c4w
  refine wp_region_flow (fun _ => False) (factAt [(fun v _ => v = (.pointer (some ⟨xb, xo, none⟩))), (fun v _ => v = (.pointer (some ⟨xb, xo, none⟩))), (fun v _ => v = (.pointer (some ⟨xb, xo + 3, none⟩))), (fun v _ => v = (.pointer (some ⟨ab, ao, none⟩))), (fun v _ => v = (.string (strB PA))), (fun v _ => v = (.string (strB T1))), (fun v _ => v = (.string ⟨#[45]⟩)), (fun v _ => v = (.string (strB T2))), (fun v _ => v = (.string (strB T3))), (fun v _ => v = (.pointer (some ⟨xb, xo, none⟩))), (fun v _ => v = (.pointer (some ⟨xb, xo, none⟩))), (fun v _ => v = (.pointer (some ⟨xb, xo + 4, none⟩))), (fun v _ => v = (.pointer (some ⟨cb, co, none⟩))), (fun v _ => v = (.pointer (some ⟨xb, xo, none⟩))), (fun v _ => v = (.pointer (some ⟨xb, xo, none⟩))), (fun v _ => v = (.pointer (some ⟨xb, xo + 4, none⟩))), (fun v _ => v = (.pointer (some ⟨cb, co, none⟩))), (fun v _ => v = (.bool (lowE c))), (fun v _ => v = (.string (strB PC))), (fun v _ => v = (.string (strB TX))), (fun v _ => v = (.string (strB TX)))]) [] (fun _ => True) (by kernel_rfl) (fkept_at ⟨FKept.eq _, FKept.eq _, FKept.eq _, FKept.eq _, FKept.eq _, FKept.eq _, FKept.eq _, FKept.eq _, FKept.eq _, FKept.eq _, FKept.eq _, FKept.eq _, FKept.eq _, FKept.eq _, FKept.eq _, FKept.eq _, FKept.eq _, FKept.eq _, FKept.eq _, FKept.eq _, FKept.eq _, trivial⟩) (fun _ _ h _ => h) trivial (by kernel_rfl) (by kernel_rfl) (by kernel_rfl) (by kernel_rfl) (Nat.le_of_ble_eq_true (by kernel_rfl)) ?_ ⟨?_, ?_, ?_, ?_, ?_, ?_, ?_, ?_, ?_, ?_, ?_, ?_, ?_, ?_, ?_, ?_, ?_, ?_, ?_, ?_, ?_, trivial⟩ ?_
  · first | exact trivial | assumption
  · intro T w Q hu hs hv hw hd
    have hx0 : T.getD 0 undef = (.pointer (some ⟨xb, xo, none⟩)) := hv 0 (by kernel_rfl)
    refine .inl ⟨wanted_none rfl, ?_⟩
    clear hd hv hu hs hw
    go_simp
    exact ⟨_, rfl, DstOk.some rfl, Below.refl _ _, rfl⟩
  · intro T w Q hu hs hv hw hd
    have hx57 : T.getD 57 undef = (.pointer (some ⟨xb, xo, none⟩)) := Deps.at 0 hd (by kernel_rfl)
    refine .inl ⟨wanted_none rfl, ?_⟩
    clear hd hv hu hs hw
    go_simp
    exact ⟨_, rfl, DstOk.some rfl, Below.refl _ _, rfl⟩
  · intro T w Q hu hs hv hw hd
    have hx58 : T.getD 58 undef = (.pointer (some ⟨xb, xo, none⟩)) := Deps.at 1 hd (by kernel_rfl)
    refine .inl ⟨wanted_none rfl, ?_⟩
    clear hd hv hu hs hw
    go_simp
    exact ⟨_, rfl, DstOk.some rfl, Below.refl _ _, rfl⟩
  · intro T w Q hu hs hv hw hd
    have hx59 : T.getD 59 undef = (.pointer (some ⟨xb, xo + 3, none⟩)) := Deps.at 2 hd (by kernel_rfl)
    refine .inl ⟨wanted_none rfl, ?_⟩
    have hq := hu.cell c3.out id
    clear hd hv hu hs hw
    go_simp
    exact ⟨_, rfl, DstOk.some rfl, Below.refl _ _, rfl⟩
  · intro T w Q hu hs hv hw hd
    have hx60 : T.getD 60 undef = (.pointer (some ⟨ab, ao, none⟩)) := Deps.at 3 hd (by kernel_rfl)
    refine .inl ⟨wanted_none rfl, ?_⟩
    have hN := hPA.out w (hun.out.then hu)
    clear hd hv hu hs hw
    go_simp
    refine hN.mono ?_
    rintro e w5 ⟨rfl, hb⟩
    exact ⟨_, rfl, DstOk.some rfl, hb, rfl⟩
  · intro T w Q hu hs hv hw hd
    have hx61 : T.getD 61 undef = (.string (strB PA)) := Deps.at 4 hd (by kernel_rfl)
    refine .inl ⟨wanted_none rfl, ?_⟩
    have hC := h1.out w
    clear hd hv hu hs hw
    unfold strB at *
    go_simp
    exact ⟨_, rfl, DstOk.some rfl, Below.refl _ _, rfl⟩
  · intro T w Q hu hs hv hw hd
    have hx3 : T.getD 3 undef = (.string ⟨#[45]⟩) := hv 3 (by kernel_rfl)
    refine .inl ⟨wanted_none rfl, ?_⟩
    clear hd hv hu hs hw
    go_simp
    exact ⟨_, rfl, DstOk.some rfl, Below.refl _ _, rfl⟩
  · intro T w Q hu hs hv hw hd
    have hx62 : T.getD 62 undef = (.string (strB T1)) := Deps.at 5 hd (by kernel_rfl)
    have hx63 : T.getD 63 undef = (.string ⟨#[45]⟩) := Deps.at 6 hd (by kernel_rfl)
    refine .inl ⟨wanted_none rfl, ?_⟩
    have hC := h2.out w
    clear hd hv hu hs hw
    unfold strB at *
    go_simp
    exact ⟨_, rfl, DstOk.some rfl, Below.refl _ _, rfl⟩
  · intro T w Q hu hs hv hw hd
    have hx64 : T.getD 64 undef = (.string (strB T2)) := Deps.at 7 hd (by kernel_rfl)
    refine .inl ⟨wanted_none rfl, ?_⟩
    have hC := h3.out w
    clear hd hv hu hs hw
    unfold strB at *
    go_simp
    exact ⟨_, rfl, DstOk.some rfl, Below.refl _ _, rfl⟩
  · intro T w Q hu hs hv hw hd
    have hx0 : T.getD 0 undef = (.pointer (some ⟨xb, xo, none⟩)) := hv 0 (by kernel_rfl)
    refine .inl ⟨wanted_none rfl, ?_⟩
    clear hd hv hu hs hw
    go_simp
    exact ⟨_, rfl, DstOk.some rfl, Below.refl _ _, rfl⟩
  · intro T w Q hu hs hv hw hd
    have hx66 : T.getD 66 undef = (.pointer (some ⟨xb, xo, none⟩)) := Deps.at 9 hd (by kernel_rfl)
    refine .inl ⟨wanted_none rfl, ?_⟩
    clear hd hv hu hs hw
    go_simp
    exact ⟨_, rfl, DstOk.some rfl, Below.refl _ _, rfl⟩
  · intro T w Q hu hs hv hw hd
    have hx67 : T.getD 67 undef = (.pointer (some ⟨xb, xo, none⟩)) := Deps.at 10 hd (by kernel_rfl)
    refine .inl ⟨wanted_none rfl, ?_⟩
    clear hd hv hu hs hw
    go_simp
    exact ⟨_, rfl, DstOk.some rfl, Below.refl _ _, rfl⟩
  · intro T w Q hu hs hv hw hd
    have hx68 : T.getD 68 undef = (.pointer (some ⟨xb, xo + 4, none⟩)) := Deps.at 11 hd (by kernel_rfl)
    refine .inl ⟨wanted_none rfl, ?_⟩
    have hq := hu.cell c4.out id
    clear hd hv hu hs hw
    go_simp
    exact ⟨_, rfl, DstOk.some rfl, Below.refl _ _, rfl⟩
  · intro T w Q hu hs hv hw hd
    have hx0 : T.getD 0 undef = (.pointer (some ⟨xb, xo, none⟩)) := hv 0 (by kernel_rfl)
    refine .inl ⟨wanted_none rfl, ?_⟩
    clear hd hv hu hs hw
    go_simp
    exact ⟨_, rfl, DstOk.some rfl, Below.refl _ _, rfl⟩
  · intro T w Q hu hs hv hw hd
    have hx70 : T.getD 70 undef = (.pointer (some ⟨xb, xo, none⟩)) := Deps.at 13 hd (by kernel_rfl)
    refine .inl ⟨wanted_none rfl, ?_⟩
    clear hd hv hu hs hw
    go_simp
    exact ⟨_, rfl, DstOk.some rfl, Below.refl _ _, rfl⟩
  · intro T w Q hu hs hv hw hd
    have hx71 : T.getD 71 undef = (.pointer (some ⟨xb, xo, none⟩)) := Deps.at 14 hd (by kernel_rfl)
    refine .inl ⟨wanted_none rfl, ?_⟩
    clear hd hv hu hs hw
    go_simp
    exact ⟨_, rfl, DstOk.some rfl, Below.refl _ _, rfl⟩
  · intro T w Q hu hs hv hw hd
    have hx72 : T.getD 72 undef = (.pointer (some ⟨xb, xo + 4, none⟩)) := Deps.at 15 hd (by kernel_rfl)
    refine .inl ⟨wanted_none rfl, ?_⟩
    have hq := hu.cell c4.out id
    clear hd hv hu hs hw
    go_simp
    exact ⟨_, rfl, DstOk.some rfl, Below.refl _ _, rfl⟩
  · intro T w Q hu hs hv hw hd
    have hx73 : T.getD 73 undef = (.pointer (some ⟨cb, co, none⟩)) := Deps.at 16 hd (by kernel_rfl)
    refine .inl ⟨wanted_none rfl, ?_⟩
    have hN := hLC.out w (hun.out.then hu)
    clear hd hv hu hs hw
    go_simp
    refine hN.mono ?_
    rintro e w5 ⟨rfl, rfl⟩
    exact ⟨_, rfl, DstOk.some rfl, Below.refl _ _, rfl⟩
  · intro T w Q hu hs hv hw hd
    have hx69 : T.getD 69 undef = (.pointer (some ⟨cb, co, none⟩)) := Deps.at 12 hd (by kernel_rfl)
    have hx74 : T.getD 74 undef = (.bool (lowE c)) := Deps.at 17 hd (by kernel_rfl)
    refine .inl ⟨wanted_none rfl, ?_⟩
    have hN := hPC.out w (hun.out.then hu)
    clear hd hv hu hs hw
    go_simp
    refine hN.mono ?_
    rintro e w5 ⟨rfl, hb⟩
    exact ⟨_, rfl, DstOk.some rfl, hb, rfl⟩
  · intro T w Q hu hs hv hw hd
    have hx65 : T.getD 65 undef = (.string (strB T3)) := Deps.at 8 hd (by kernel_rfl)
    have hx75 : T.getD 75 undef = (.string (strB PC)) := Deps.at 18 hd (by kernel_rfl)
    refine .inl ⟨wanted_none rfl, ?_⟩
    have hC := h4.out w
    clear hd hv hu hs hw
    unfold strB at *
    go_simp
    exact ⟨_, rfl, DstOk.some rfl, Below.refl _ _, rfl⟩
  · intro T w Q hu hs hv hw hd
    have hx76 : T.getD 76 undef = (.string (strB TX)) := Deps.at 19 hd (by kernel_rfl)
    refine .inl ⟨wanted_none rfl, ?_⟩
    clear hd hv hu hs hw
    go_simp
    exact ⟨_, rfl, DstOk.some rfl, Below.refl _ _, rfl⟩
  intro T w hu hs hv hf hcur
  have hT : T = #[T.getD 0 undef, T.getD 1 undef, T.getD 2 undef, T.getD 3 undef, T.getD 4 undef, T.getD 5 undef, T.getD 6 undef, T.getD 7 undef, T.getD 8 undef, T.getD 9 undef, T.getD 10 undef, T.getD 11 undef, T.getD 12 undef, T.getD 13 undef, T.getD 14 undef, T.getD 15 undef, T.getD 16 undef, T.getD 17 undef, T.getD 18 undef, T.getD 19 undef, T.getD 20 undef, T.getD 21 undef, T.getD 22 undef, T.getD 23 undef, T.getD 24 undef, T.getD 25 undef, T.getD 26 undef, T.getD 27 undef, T.getD 28 undef, T.getD 29 undef, T.getD 30 undef, T.getD 31 undef, T.getD 32 undef, T.getD 33 undef, T.getD 34 undef, T.getD 35 undef, T.getD 36 undef, T.getD 37 undef, T.getD 38 undef, T.getD 39 undef, T.getD 40 undef, T.getD 41 undef, T.getD 42 undef, T.getD 43 undef, T.getD 44 undef, T.getD 45 undef, T.getD 46 undef, T.getD 47 undef, T.getD 48 undef, T.getD 49 undef, T.getD 50 undef, T.getD 51 undef, T.getD 52 undef, T.getD 53 undef, T.getD 54 undef, T.getD 55 undef, T.getD 56 undef, T.getD 57 undef, T.getD 58 undef, T.getD 59 undef, T.getD 60 undef, T.getD 61 undef, T.getD 62 undef, T.getD 63 undef, T.getD 64 undef, T.getD 65 undef, T.getD 66 undef, T.getD 67 undef, T.getD 68 undef, T.getD 69 undef, T.getD 70 undef, T.getD 71 undef, T.getD 72 undef, T.getD 73 undef, T.getD 74 undef, T.getD 75 undef, T.getD 76 undef, T.getD 77 undef, T.getD 78 undef, T.getD 79 undef, T.getD 80 undef, T.getD 81 undef, T.getD 82 undef, T.getD 83 undef, T.getD 84 undef, T.getD 85 undef, T.getD 86 undef, T.getD 87 undef, T.getD 88 undef, T.getD 89 undef, T.getD 90 undef, T.getD 91 undef, T.getD 92 undef, T.getD 93 undef, T.getD 94 undef, T.getD 95 undef, T.getD 96 undef, T.getD 97 undef, T.getD 98 undef, T.getD 99 undef, T.getD 100 undef, T.getD 101 undef, T.getD 102 undef, T.getD 103 undef, T.getD 104 undef, T.getD 105 undef, T.getD 106 undef, T.getD 107 undef, T.getD 108 undef] := expl hs
  rw [hT]
  clear hT
  rw [show T.getD 0 undef = (.pointer (some ⟨xb, xo, none⟩)) from hv 0 (by kernel_rfl)]
  rw [hv 1 (by kernel_rfl)]
  rw [show T.getD 2 undef = (.string (strB TX)) from hf 20 (by decide)]
  rw [hv 3 (by kernel_rfl)]
  rw [hv 4 (by kernel_rfl)]
  rw [hv 5 (by kernel_rfl)]
  rw [hv 6 (by kernel_rfl)]
  rw [hv 7 (by kernel_rfl)]
  rw [hv 8 (by kernel_rfl)]
  rw [hv 9 (by kernel_rfl)]
  rw [hv 10 (by kernel_rfl)]
  rw [hv 11 (by kernel_rfl)]
  rw [hv 12 (by kernel_rfl)]
  rw [hv 13 (by kernel_rfl)]
  rw [hv 14 (by kernel_rfl)]
  rw [hv 15 (by kernel_rfl)]
  rw [hv 16 (by kernel_rfl)]
  rw [hv 17 (by kernel_rfl)]
  rw [hv 18 (by kernel_rfl)]
  rw [hv 19 (by kernel_rfl)]
  rw [hv 20 (by kernel_rfl)]
  rw [hv 21 (by kernel_rfl)]
  rw [hv 22 (by kernel_rfl)]
  rw [hv 23 (by kernel_rfl)]
  rw [hv 24 (by kernel_rfl)]
  rw [hv 25 (by kernel_rfl)]
  rw [hv 26 (by kernel_rfl)]
  rw [hv 27 (by kernel_rfl)]
  rw [hv 28 (by kernel_rfl)]
  rw [hv 29 (by kernel_rfl)]
  rw [hv 30 (by kernel_rfl)]
  rw [hv 31 (by kernel_rfl)]
  rw [hv 32 (by kernel_rfl)]
  rw [hv 33 (by kernel_rfl)]
  rw [hv 34 (by kernel_rfl)]
  rw [hv 35 (by kernel_rfl)]
  rw [hv 36 (by kernel_rfl)]
  rw [hv 37 (by kernel_rfl)]
  rw [hv 38 (by kernel_rfl)]
  rw [hv 39 (by kernel_rfl)]
  rw [hv 40 (by kernel_rfl)]
  rw [hv 41 (by kernel_rfl)]
  rw [hv 42 (by kernel_rfl)]
  rw [hv 43 (by kernel_rfl)]
  rw [hv 44 (by kernel_rfl)]
  rw [hv 45 (by kernel_rfl)]
  rw [hv 46 (by kernel_rfl)]
  rw [hv 47 (by kernel_rfl)]
  rw [hv 48 (by kernel_rfl)]
  rw [hv 49 (by kernel_rfl)]
  rw [hv 50 (by kernel_rfl)]
  rw [hv 51 (by kernel_rfl)]
  rw [hv 52 (by kernel_rfl)]
  rw [hv 53 (by kernel_rfl)]
  rw [hv 54 (by kernel_rfl)]
  rw [hv 55 (by kernel_rfl)]
  rw [hv 56 (by kernel_rfl)]
  rw [show T.getD 57 undef = (.pointer (some ⟨xb, xo, none⟩)) from hf 0 (by decide)]
  rw [show T.getD 58 undef = (.pointer (some ⟨xb, xo, none⟩)) from hf 1 (by decide)]
  rw [show T.getD 59 undef = (.pointer (some ⟨xb, xo + 3, none⟩)) from hf 2 (by decide)]
  rw [show T.getD 60 undef = (.pointer (some ⟨ab, ao, none⟩)) from hf 3 (by decide)]
  rw [show T.getD 61 undef = (.string (strB PA)) from hf 4 (by decide)]
  rw [show T.getD 62 undef = (.string (strB T1)) from hf 5 (by decide)]
  rw [show T.getD 63 undef = (.string ⟨#[45]⟩) from hf 6 (by decide)]
  rw [show T.getD 64 undef = (.string (strB T2)) from hf 7 (by decide)]
  rw [show T.getD 65 undef = (.string (strB T3)) from hf 8 (by decide)]
  rw [show T.getD 66 undef = (.pointer (some ⟨xb, xo, none⟩)) from hf 9 (by decide)]
  rw [show T.getD 67 undef = (.pointer (some ⟨xb, xo, none⟩)) from hf 10 (by decide)]
  rw [show T.getD 68 undef = (.pointer (some ⟨xb, xo + 4, none⟩)) from hf 11 (by decide)]
  rw [show T.getD 69 undef = (.pointer (some ⟨cb, co, none⟩)) from hf 12 (by decide)]
  rw [show T.getD 70 undef = (.pointer (some ⟨xb, xo, none⟩)) from hf 13 (by decide)]
  rw [show T.getD 71 undef = (.pointer (some ⟨xb, xo, none⟩)) from hf 14 (by decide)]
  rw [show T.getD 72 undef = (.pointer (some ⟨xb, xo + 4, none⟩)) from hf 15 (by decide)]
  rw [show T.getD 73 undef = (.pointer (some ⟨cb, co, none⟩)) from hf 16 (by decide)]
  rw [show T.getD 74 undef = (.bool (lowE c)) from hf 17 (by decide)]
  rw [show T.getD 75 undef = (.string (strB PC)) from hf 18 (by decide)]
  rw [show T.getD 76 undef = (.string (strB TX)) from hf 19 (by decide)]
  rw [hv 77 (by kernel_rfl)]
  rw [hv 78 (by kernel_rfl)]
  rw [hv 79 (by kernel_rfl)]
  rw [hv 80 (by kernel_rfl)]
  rw [hv 81 (by kernel_rfl)]
  rw [hv 82 (by kernel_rfl)]
  rw [hv 83 (by kernel_rfl)]
  rw [hv 84 (by kernel_rfl)]
  rw [hv 85 (by kernel_rfl)]
  rw [hv 86 (by kernel_rfl)]
  rw [hv 87 (by kernel_rfl)]
  rw [hv 88 (by kernel_rfl)]
  rw [hv 89 (by kernel_rfl)]
  rw [hv 90 (by kernel_rfl)]
  rw [hv 91 (by kernel_rfl)]
  rw [hv 92 (by kernel_rfl)]
  rw [hv 93 (by kernel_rfl)]
  rw [hv 94 (by kernel_rfl)]
  rw [hv 95 (by kernel_rfl)]
  rw [hv 96 (by kernel_rfl)]
  rw [hv 97 (by kernel_rfl)]
  rw [hv 98 (by kernel_rfl)]
  rw [hv 99 (by kernel_rfl)]
  rw [hv 100 (by kernel_rfl)]
  rw [hv 101 (by kernel_rfl)]
  rw [hv 102 (by kernel_rfl)]
  rw [hv 103 (by kernel_rfl)]
  rw [hv 104 (by kernel_rfl)]
  rw [hv 105 (by kernel_rfl)]
  rw [hv 106 (by kernel_rfl)]
  rw [hv 107 (by kernel_rfl)]
  rw [hv 108 (by kernel_rfl)]
  clear hf hs hv hcur
  simp only [getD_toArray, List.getD_cons_succ, List.getD_cons_zero]
  clear T
  have hb9 := hide ((hun.out.then hu).below (Nat.le_refl _) fun _ h => h.elim)
  clear hu
  go_wp2_with fail
  go_ret
  exact ⟨rfl, hb9.out⟩
set_option maxRecDepth 100000 in
set_option maxHeartbeats 1600000 in
theorem ex6_bin4t (a c : Ex) (hA : Ex6 a) (hC : Ex6 c) (x : Value) (wa : World) (S : Nat → Prop) (hx : ExA wa S (.bin 4 a c) x) (hw : WfX (.bin 4 a c)) (hl : (exT (.bin 4 a c)).length ≤ 1000000) (hc : lowE c = true) :
    Calls Tryd.prog 10 #[x] wa fun r w' => r = .returned (.string (strB (exT (.bin 4 a c)))) ∧ Below wa.heap.size wa w' := by
  have hL := fun w' (hu : Upd (fun _ => False) wa w') => low_any (.bin 4 a c) x w' S (hx.same hu)
  rw [show lowE (.bin 4 a c) = false from rfl] at hL
  obtain ⟨xb, xo, va, vc, rfl, ⟨hS, c0, -, -, c3, c4⟩, hxa, hxc⟩ := hx
  obtain ⟨-, -, hwa, hwc⟩ := hw
  have hX : exT (.bin 4 a c) = parT (lowE a) (exT a) ++ [32, 42, 32] ++ parT (true) (exT c) := by
    rw [exT, show signT 4 = [32, 42, 32] from rfl]
    congr 2
    · refine congrArg (fun q => parT q (exT a)) ?_
      unfold lowE
      rw [decide_eq_decide]
      show bindE a < 1 ↔ _
      omega
    · unfold lowE at hc
      have := of_decide_eq_true hc
      refine decide_eq_true ?_
      show _ < 1 + 1
      omega
  rw [hX] at hl ⊢
  rw [List.length_append, List.length_append] at hl
  have hla : (exT a).length ≤ 1000000 := by
    have : (exT a).length ≤ (parT (lowE a) (exT a)).length := by unfold parT; split <;> simp <;> omega
    omega
  have hlc : (exT c).length ≤ 1000000 := by
    have : (exT c).length ≤ (parT (true) (exT c)).length := by unfold parT; split <;> simp <;> omega
    omega
  have hPA := hide (fun w' (hu : Upd (fun _ => False) wa w') => part_of a hA (lowE a) va w' S (hxa.same hu) hwa hla)
  have hPC := hide (fun w' (hu : Upd (fun _ => False) wa w') => part_of c hC (true) vc w' S (hxc.same hu) hwc hlc)
  have hLA := hide (fun w' (hu : Upd (fun _ => False) wa w') => low_any a va w' S (hxa.same hu))
  have hLC := hide (fun w' (hu : Upd (fun _ => False) wa w') => low_any c vc w' S (hxc.same hu))
  have hHC := hide (fun w' (hu : Upd (fun _ => False) wa w') => high_any c vc w' S (hxc.same hu))
  replace hL := hide hL
  rw [hc] at hLC
  obtain ⟨ab, ao, rfl⟩ := hxa.ptr
  obtain ⟨cb, co, rfl⟩ := hxc.ptr
  clear hX hwa hwc hxa hxc hla hlc hA hC
  generalize parT (lowE a) (exT a) = PA at *
  generalize parT (true) (exT c) = PC at *
  obtain ⟨T1, e1⟩ : ∃ T, T = PA ++ [32] := ⟨_, rfl⟩
  obtain ⟨T2, e2⟩ : ∃ T, T = T1 ++ [42] := ⟨_, rfl⟩
  obtain ⟨T3, e3⟩ : ∃ T, T = T2 ++ [32] := ⟨_, rfl⟩
  obtain ⟨TX, e4⟩ : ∃ T, T = T3 ++ PC := ⟨_, rfl⟩
  have hT : PA ++ [32, 42, 32] ++ PC = TX := by rw [e4, e3, e2, e1]; simp
  rw [hT]
  have l1 : T1.length = PA.length + 1 := by rw [e1, List.length_append]; rfl
  have l2 : T2.length = PA.length + 2 := by rw [e2, List.length_append, l1]; rfl
  have l3 : T3.length = PA.length + 3 := by rw [e3, List.length_append, l2]; rfl
  have h1 := hide (fun w => by rw [e1]; exact str_add PA [32] (by show _ + 1 ≤ _; omega) w : ∀ w, (Op.stringOp .add (strB PA) ⟨#[32]⟩).run Tryd.prog w = .ok (.string (strB T1)) w)
  have h2 := hide (fun w => by rw [e2]; exact str_add T1 [42] (by show _ + 1 ≤ _; omega) w : ∀ w, (Op.stringOp .add (strB T1) ⟨#[42]⟩).run Tryd.prog w = .ok (.string (strB T2)) w)
  have h3 := hide (fun w => by rw [e3]; exact str_add T2 [32] (by show _ + 1 ≤ _; omega) w : ∀ w, (Op.stringOp .add (strB T2) ⟨#[32]⟩).run Tryd.prog w = .ok (.string (strB T3)) w)
  have h4 := hide (fun w => by rw [e4]; exact str_add T3 PC (by omega) w : ∀ w, (Op.stringOp .add (strB T3) (strB PC)).run Tryd.prog w = .ok (.string (strB TX)) w)
  clear hT e1 e2 e3 e4 l1 l2 l3 hl hS
  have c0n := fun o => (Upd.alloc (fun _ => False) wa o).cell c0 id
  have c3w := hide c3
  have c4w := hide c4
  clear c3 c4
  go_enter Tryd.func10, Tryd.ntmps10
  go_wp2_with fail
  generalize hwn : World.alloc wa _ = wn
  have hun : Upd (fun _ => False) wa wn := hwn ▸ .alloc _ _ _
  refine (hL.out wn hun).mono ?_
  rintro r w1 ⟨rfl, rfl⟩
  go_wp2_with fail
  have c3 := hide (hun.cell c3w.out id)
  have c4 := hide (hun.cell c4w.out id)
  replace hun := hide hun
  clear c0 c0n hwn c3w c4w
  refine wp_region_flow (fun _ => False) (factAt [(fun v _ => v = (.pointer (some ⟨xb, xo, none⟩))), (fun v _ => v = (.pointer (some ⟨xb, xo, none⟩))), (fun v _ => v = (.pointer (some ⟨xb, xo + 3, none⟩))), (fun v _ => v = (.pointer (some ⟨ab, ao, none⟩))), (fun v _ => v = (.pointer (some ⟨xb, xo, none⟩))), (fun v _ => v = (.pointer (some ⟨xb, xo, none⟩))), (fun v _ => v = (.pointer (some ⟨xb, xo + 3, none⟩))), (fun v _ => v = (.pointer (some ⟨ab, ao, none⟩))), (fun v _ => v = (.bool (lowE a))), (fun v _ => v = (.string (strB PA))), (fun v _ => v = (.string (strB T1))), (fun v _ => v = (.string ⟨#[42]⟩)), (fun v _ => v = (.string (strB T2))), (fun v _ => v = (.string (strB T3))), (fun v _ => v = (.pointer (some ⟨xb, xo, none⟩))), (fun v _ => v = (.pointer (some ⟨xb, xo, none⟩))), (fun v _ => v = (.pointer (some ⟨xb, xo + 4, none⟩))), (fun v _ => v = (.pointer (some ⟨cb, co, none⟩))), (fun v _ => v = (.pointer (some ⟨xb, xo, none⟩))), (fun v _ => v = (.pointer (some ⟨xb, xo, none⟩))), (fun v _ => v = (.pointer (some ⟨xb, xo + 4, none⟩))), (fun v _ => v = (.pointer (some ⟨cb, co, none⟩))), (fun v _ => v = (.bool true)), (fun v _ => v = (.bool true)), (fun v _ => v = undef), (fun v _ => v = undef), (fun v _ => v = undef), (fun v _ => v = undef), (fun v _ => v = undef), (fun v _ => v = (.bool true)), (fun v _ => v = (.string (strB PC))), (fun v _ => v = (.string (strB TX))), (fun v _ => v = (.string (strB TX)))]) [] (fun _ => True) (by kernel_rfl) (fkept_at ⟨FKept.eq _, FKept.eq _, FKept.eq _, FKept.eq _, FKept.eq _, FKept.eq _, FKept.eq _, FKept.eq _, FKept.eq _, FKept.eq _, FKept.eq _, FKept.eq _, FKept.eq _, FKept.eq _, FKept.eq _, FKept.eq _, FKept.eq _, FKept.eq _, FKept.eq _, FKept.eq _, FKept.eq _, FKept.eq _, FKept.eq _, FKept.eq _, FKept.eq _, FKept.eq _, FKept.eq _, FKept.eq _, FKept.eq _, FKept.eq _, FKept.eq _, FKept.eq _, FKept.eq _, trivial⟩) (fun _ _ h _ => h) trivial (by kernel_rfl) (by kernel_rfl) (by kernel_rfl) (by kernel_rfl) (Nat.le_of_ble_eq_true (by kernel_rfl)) ?_ ⟨?_, ?_, ?_, ?_, ?_, ?_, ?_, ?_, ?_, ?_, ?_, ?_, ?_, ?_, ?_, ?_, ?_, ?_, ?_, ?_, ?_, ?_, ?_, ?_, ?_, ?_, ?_, ?_, ?_, ?_, ?_, ?_, ?_, trivial⟩ ?_
  · first | exact trivial | assumption
  · intro T w Q hu hs hv hw hd
    have hx0 : T.getD 0 undef = (.pointer (some ⟨xb, xo, none⟩)) := hv 0 (by kernel_rfl)
    refine .inl ⟨wanted_none rfl, ?_⟩
    clear hd hv hu hs hw
    go_simp
    exact ⟨_, rfl, DstOk.some rfl, Below.refl _ _, rfl⟩
  · intro T w Q hu hs hv hw hd
    have hx77 : T.getD 77 undef = (.pointer (some ⟨xb, xo, none⟩)) := Deps.at 0 hd (by kernel_rfl)
    refine .inl ⟨wanted_none rfl, ?_⟩
    clear hd hv hu hs hw
    go_simp
    exact ⟨_, rfl, DstOk.some rfl, Below.refl _ _, rfl⟩
  · intro T w Q hu hs hv hw hd
    have hx78 : T.getD 78 undef = (.pointer (some ⟨xb, xo, none⟩)) := Deps.at 1 hd (by kernel_rfl)
    refine .inl ⟨wanted_none rfl, ?_⟩
    clear hd hv hu hs hw
    go_simp
    exact ⟨_, rfl, DstOk.some rfl, Below.refl _ _, rfl⟩
  · intro T w Q hu hs hv hw hd
    have hx79 : T.getD 79 undef = (.pointer (some ⟨xb, xo + 3, none⟩)) := Deps.at 2 hd (by kernel_rfl)
    refine .inl ⟨wanted_none rfl, ?_⟩
    have hq := hu.cell c3.out id
    clear hd hv hu hs hw
    go_simp
    exact ⟨_, rfl, DstOk.some rfl, Below.refl _ _, rfl⟩
  · intro T w Q hu hs hv hw hd
    have hx0 : T.getD 0 undef = (.pointer (some ⟨xb, xo, none⟩)) := hv 0 (by kernel_rfl)
    refine .inl ⟨wanted_none rfl, ?_⟩
    clear hd hv hu hs hw
    go_simp
    exact ⟨_, rfl, DstOk.some rfl, Below.refl _ _, rfl⟩
  · intro T w Q hu hs hv hw hd
    have hx81 : T.getD 81 undef = (.pointer (some ⟨xb, xo, none⟩)) := Deps.at 4 hd (by kernel_rfl)
    refine .inl ⟨wanted_none rfl, ?_⟩
    clear hd hv hu hs hw
    go_simp
    exact ⟨_, rfl, DstOk.some rfl, Below.refl _ _, rfl⟩
  · intro T w Q hu hs hv hw hd
    have hx82 : T.getD 82 undef = (.pointer (some ⟨xb, xo, none⟩)) := Deps.at 5 hd (by kernel_rfl)
    refine .inl ⟨wanted_none rfl, ?_⟩
    clear hd hv hu hs hw
    go_simp
    exact ⟨_, rfl, DstOk.some rfl, Below.refl _ _, rfl⟩
  · intro T w Q hu hs hv hw hd
    have hx83 : T.getD 83 undef = (.pointer (some ⟨xb, xo + 3, none⟩)) := Deps.at 6 hd (by kernel_rfl)
    refine .inl ⟨wanted_none rfl, ?_⟩
    have hq := hu.cell c3.out id
    clear hd hv hu hs hw
    go_simp
    exact ⟨_, rfl, DstOk.some rfl, Below.refl _ _, rfl⟩
  · intro T w Q hu hs hv hw hd
    have hx84 : T.getD 84 undef = (.pointer (some ⟨ab, ao, none⟩)) := Deps.at 7 hd (by kernel_rfl)
    refine .inl ⟨wanted_none rfl, ?_⟩
    have hN := hLA.out w (hun.out.then hu)
    clear hd hv hu hs hw
    go_simp
    refine hN.mono ?_
    rintro e w5 ⟨rfl, rfl⟩
    exact ⟨_, rfl, DstOk.some rfl, Below.refl _ _, rfl⟩
  · intro T w Q hu hs hv hw hd
    have hx80 : T.getD 80 undef = (.pointer (some ⟨ab, ao, none⟩)) := Deps.at 3 hd (by kernel_rfl)
    have hx85 : T.getD 85 undef = (.bool (lowE a)) := Deps.at 8 hd (by kernel_rfl)
    refine .inl ⟨wanted_none rfl, ?_⟩
    have hN := hPA.out w (hun.out.then hu)
    clear hd hv hu hs hw
    go_simp
    refine hN.mono ?_
    rintro e w5 ⟨rfl, hb⟩
    exact ⟨_, rfl, DstOk.some rfl, hb, rfl⟩
  · intro T w Q hu hs hv hw hd
    have hx86 : T.getD 86 undef = (.string (strB PA)) := Deps.at 9 hd (by kernel_rfl)
    refine .inl ⟨wanted_none rfl, ?_⟩
    have hC := h1.out w
    clear hd hv hu hs hw
    unfold strB at *
    go_simp
    exact ⟨_, rfl, DstOk.some rfl, Below.refl _ _, rfl⟩
  · intro T w Q hu hs hv hw hd
    have hx3 : T.getD 3 undef = (.string ⟨#[42]⟩) := hv 3 (by kernel_rfl)
    refine .inl ⟨wanted_none rfl, ?_⟩
    clear hd hv hu hs hw
    go_simp
    exact ⟨_, rfl, DstOk.some rfl, Below.refl _ _, rfl⟩
  · intro T w Q hu hs hv hw hd
    have hx87 : T.getD 87 undef = (.string (strB T1)) := Deps.at 10 hd (by kernel_rfl)
    have hx88 : T.getD 88 undef = (.string ⟨#[42]⟩) := Deps.at 11 hd (by kernel_rfl)
    refine .inl ⟨wanted_none rfl, ?_⟩
    have hC := h2.out w
    clear hd hv hu hs hw
    unfold strB at *
    go_simp
    exact ⟨_, rfl, DstOk.some rfl, Below.refl _ _, rfl⟩
  · intro T w Q hu hs hv hw hd
    have hx89 : T.getD 89 undef = (.string (strB T2)) := Deps.at 12 hd (by kernel_rfl)
    refine .inl ⟨wanted_none rfl, ?_⟩
    have hC := h3.out w
    clear hd hv hu hs hw
    unfold strB at *
    go_simp
    exact ⟨_, rfl, DstOk.some rfl, Below.refl _ _, rfl⟩
  · intro T w Q hu hs hv hw hd
    have hx0 : T.getD 0 undef = (.pointer (some ⟨xb, xo, none⟩)) := hv 0 (by kernel_rfl)
    refine .inl ⟨wanted_none rfl, ?_⟩
    clear hd hv hu hs hw
    go_simp
    exact ⟨_, rfl, DstOk.some rfl, Below.refl _ _, rfl⟩
  · intro T w Q hu hs hv hw hd
    have hx91 : T.getD 91 undef = (.pointer (some ⟨xb, xo, none⟩)) := Deps.at 14 hd (by kernel_rfl)
    refine .inl ⟨wanted_none rfl, ?_⟩
    clear hd hv hu hs hw
    go_simp
    exact ⟨_, rfl, DstOk.some rfl, Below.refl _ _, rfl⟩
  · intro T w Q hu hs hv hw hd
    have hx92 : T.getD 92 undef = (.pointer (some ⟨xb, xo, none⟩)) := Deps.at 15 hd (by kernel_rfl)
    refine .inl ⟨wanted_none rfl, ?_⟩
    clear hd hv hu hs hw
    go_simp
    exact ⟨_, rfl, DstOk.some rfl, Below.refl _ _, rfl⟩
  · intro T w Q hu hs hv hw hd
    have hx93 : T.getD 93 undef = (.pointer (some ⟨xb, xo + 4, none⟩)) := Deps.at 16 hd (by kernel_rfl)
    refine .inl ⟨wanted_none rfl, ?_⟩
    have hq := hu.cell c4.out id
    clear hd hv hu hs hw
    go_simp
    exact ⟨_, rfl, DstOk.some rfl, Below.refl _ _, rfl⟩
  · intro T w Q hu hs hv hw hd
    have hx0 : T.getD 0 undef = (.pointer (some ⟨xb, xo, none⟩)) := hv 0 (by kernel_rfl)
    refine .inl ⟨wanted_none rfl, ?_⟩
    clear hd hv hu hs hw
    go_simp
    exact ⟨_, rfl, DstOk.some rfl, Below.refl _ _, rfl⟩
  · intro T w Q hu hs hv hw hd
    have hx95 : T.getD 95 undef = (.pointer (some ⟨xb, xo, none⟩)) := Deps.at 18 hd (by kernel_rfl)
    refine .inl ⟨wanted_none rfl, ?_⟩
    clear hd hv hu hs hw
    go_simp
    exact ⟨_, rfl, DstOk.some rfl, Below.refl _ _, rfl⟩
  · intro T w Q hu hs hv hw hd
    have hx96 : T.getD 96 undef = (.pointer (some ⟨xb, xo, none⟩)) := Deps.at 19 hd (by kernel_rfl)
    refine .inl ⟨wanted_none rfl, ?_⟩
    clear hd hv hu hs hw
    go_simp
    exact ⟨_, rfl, DstOk.some rfl, Below.refl _ _, rfl⟩
  · intro T w Q hu hs hv hw hd
    have hx97 : T.getD 97 undef = (.pointer (some ⟨xb, xo + 4, none⟩)) := Deps.at 20 hd (by kernel_rfl)
    refine .inl ⟨wanted_none rfl, ?_⟩
    have hq := hu.cell c4.out id
    clear hd hv hu hs hw
    go_simp
    exact ⟨_, rfl, DstOk.some rfl, Below.refl _ _, rfl⟩
  · intro T w Q hu hs hv hw hd
    have hx98 : T.getD 98 undef = (.pointer (some ⟨cb, co, none⟩)) := Deps.at 21 hd (by kernel_rfl)
    refine .inl ⟨wanted_none rfl, ?_⟩
    have hN := hLC.out w (hun.out.then hu)
    clear hd hv hu hs hw
    go_simp
    refine hN.mono ?_
    rintro e w5 ⟨rfl, rfl⟩
    exact ⟨_, rfl, DstOk.some rfl, Below.refl _ _, rfl⟩
  · intro T w Q hu hs hv hw hd
    have hx99 : T.getD 99 undef = (.bool true) := Deps.at 22 hd (by kernel_rfl)
    refine .inl ⟨wanted_none rfl, ?_⟩
    clear hd hv hu hs hw
    go_simp
    exact ⟨_, rfl, DstOk.some rfl, Below.refl _ _, rfl⟩
  · intro T w Q hu hs hv hw hd
    exact .inr ⟨wanted_not rfl (Deps.at 23 hd (by kernel_rfl) : slotOf _ T 23 = .bool (!false)), rfl⟩
  · intro T w Q hu hs hv hw hd
    exact .inr ⟨wanted_not rfl (Deps.at 23 hd (by kernel_rfl) : slotOf _ T 23 = .bool (!false)), rfl⟩
  · intro T w Q hu hs hv hw hd
    exact .inr ⟨wanted_not rfl (Deps.at 23 hd (by kernel_rfl) : slotOf _ T 23 = .bool (!false)), rfl⟩
  · intro T w Q hu hs hv hw hd
    exact .inr ⟨wanted_not rfl (Deps.at 23 hd (by kernel_rfl) : slotOf _ T 23 = .bool (!false)), rfl⟩
  · intro T w Q hu hs hv hw hd
    exact .inr ⟨wanted_not rfl (Deps.at 23 hd (by kernel_rfl) : slotOf _ T 23 = .bool (!false)), rfl⟩
  · intro T w Q hu hs hv hw hd
    have hx100 : T.getD 100 undef = (.bool true) := Deps.at 23 hd (by kernel_rfl)
    have hx105 : T.getD 105 undef = undef := Deps.at 28 hd (by kernel_rfl)
    refine .inl ⟨wanted_none rfl, ?_⟩
    clear hd hv hu hs hw
    go_simp
    exact ⟨_, rfl, DstOk.some rfl, Below.refl _ _, rfl⟩
  · intro T w Q hu hs hv hw hd
    have hx94 : T.getD 94 undef = (.pointer (some ⟨cb, co, none⟩)) := Deps.at 17 hd (by kernel_rfl)
    have hx106 : T.getD 106 undef = (.bool true) := Deps.at 29 hd (by kernel_rfl)
    refine .inl ⟨wanted_none rfl, ?_⟩
    have hN := hPC.out w (hun.out.then hu)
    clear hd hv hu hs hw
    go_simp
    refine hN.mono ?_
    rintro e w5 ⟨rfl, hb⟩
    exact ⟨_, rfl, DstOk.some rfl, hb, rfl⟩
  · intro T w Q hu hs hv hw hd
    have hx90 : T.getD 90 undef = (.string (strB T3)) := Deps.at 13 hd (by kernel_rfl)
    have hx107 : T.getD 107 undef = (.string (strB PC)) := Deps.at 30 hd (by kernel_rfl)
    refine .inl ⟨wanted_none rfl, ?_⟩
    have hC := h4.out w
    clear hd hv hu hs hw
    unfold strB at *
    go_simp
    exact ⟨_, rfl, DstOk.some rfl, Below.refl _ _, rfl⟩
  · intro T w Q hu hs hv hw hd
    have hx108 : T.getD 108 undef = (.string (strB TX)) := Deps.at 31 hd (by kernel_rfl)
    refine .inl ⟨wanted_none rfl, ?_⟩
    clear hd hv hu hs hw
    go_simp
    exact ⟨_, rfl, DstOk.some rfl, Below.refl _ _, rfl⟩
  intro T w hu hs hv hf hcur
  have hT : T = #[T.getD 0 undef, T.getD 1 undef, T.getD 2 undef, T.getD 3 undef, T.getD 4 undef, T.getD 5 undef, T.getD 6 undef, T.getD 7 undef, T.getD 8 undef, T.getD 9 undef, T.getD 10 undef, T.getD 11 undef, T.getD 12 undef, T.getD 13 undef, T.getD 14 undef, T.getD 15 undef, T.getD 16 undef, T.getD 17 undef, T.getD 18 undef, T.getD 19 undef, T.getD 20 undef, T.getD 21 undef, T.getD 22 undef, T.getD 23 undef, T.getD 24 undef, T.getD 25 undef, T.getD 26 undef, T.getD 27 undef, T.getD 28 undef, T.getD 29 undef, T.getD 30 undef, T.getD 31 undef, T.getD 32 undef, T.getD 33 undef, T.getD 34 undef, T.getD 35 undef, T.getD 36 undef, T.getD 37 undef, T.getD 38 undef, T.getD 39 undef, T.getD 40 undef, T.getD 41 undef, T.getD 42 undef, T.getD 43 undef, T.getD 44 undef, T.getD 45 undef, T.getD 46 undef, T.getD 47 undef, T.getD 48 undef, T.getD 49 undef, T.getD 50 undef, T.getD 51 undef, T.getD 52 undef, T.getD 53 undef, T.getD 54 undef, T.getD 55 undef, T.getD 56 undef, T.getD 57 undef, T.getD 58 undef, T.getD 59 undef, T.getD 60 undef, T.getD 61 undef, T.getD 62 undef, T.getD 63 undef, T.getD 64 undef, T.getD 65 undef, T.getD 66 undef, T.getD 67 undef, T.getD 68 undef, T.getD 69 undef, T.getD 70 undef, T.getD 71 undef, T.getD 72 undef, T.getD 73 undef, T.getD 74 undef, T.getD 75 undef, T.getD 76 undef, T.getD 77 undef, T.getD 78 undef, T.getD 79 undef, T.getD 80 undef, T.getD 81 undef, T.getD 82 undef, T.getD 83 undef, T.getD 84 undef, T.getD 85 undef, T.getD 86 undef, T.getD 87 undef, T.getD 88 undef, T.getD 89 undef, T.getD 90 undef, T.getD 91 undef, T.getD 92 undef, T.getD 93 undef, T.getD 94 undef, T.getD 95 undef, T.getD 96 undef, T.getD 97 undef, T.getD 98 undef, T.getD 99 undef, T.getD 100 undef, T.getD 101 undef, T.getD 102 undef, T.getD 103 undef, T.getD 104 undef, T.getD 105 undef, T.getD 106 undef, T.getD 107 undef, T.getD 108 undef] := expl hs
  rw [hT]
  clear hT
  rw [show T.getD 0 undef = (.pointer (some ⟨xb, xo, none⟩)) from hv 0 (by kernel_rfl)]
  rw [hv 1 (by kernel_rfl)]
  rw [show T.getD 2 undef = (.string (strB TX)) from hf 32 (by decide)]
  rw [hv 3 (by kernel_rfl)]
  rw [hv 4 (by kernel_rfl)]
  rw [hv 5 (by kernel_rfl)]
  rw [hv 6 (by kernel_rfl)]
  rw [hv 7 (by kernel_rfl)]
  rw [hv 8 (by kernel_rfl)]
  rw [hv 9 (by kernel_rfl)]
  rw [hv 10 (by kernel_rfl)]
  rw [hv 11 (by kernel_rfl)]
  rw [hv 12 (by kernel_rfl)]
  rw [hv 13 (by kernel_rfl)]
  rw [hv 14 (by kernel_rfl)]
  rw [hv 15 (by kernel_rfl)]
  rw [hv 16 (by kernel_rfl)]
  rw [hv 17 (by kernel_rfl)]
  rw [hv 18 (by kernel_rfl)]
  rw [hv 19 (by kernel_rfl)]
  rw [hv 20 (by kernel_rfl)]
  rw [hv 21 (by kernel_rfl)]
  rw [hv 22 (by kernel_rfl)]
  rw [hv 23 (by kernel_rfl)]
  rw [hv 24 (by kernel_rfl)]
  rw [hv 25 (by kernel_rfl)]
  rw [hv 26 (by kernel_rfl)]
  rw [hv 27 (by kernel_rfl)]
  rw [hv 28 (by kernel_rfl)]
  rw [hv 29 (by kernel_rfl)]
  rw [hv 30 (by kernel_rfl)]
  rw [hv 31 (by kernel_rfl)]
  rw [hv 32 (by kernel_rfl)]
  rw [hv 33 (by kernel_rfl)]
  rw [hv 34 (by kernel_rfl)]
  rw [hv 35 (by kernel_rfl)]
  rw [hv 36 (by kernel_rfl)]
  rw [hv 37 (by kernel_rfl)]
  rw [hv 38 (by kernel_rfl)]
  rw [hv 39 (by kernel_rfl)]
  rw [hv 40 (by kernel_rfl)]
  rw [hv 41 (by kernel_rfl)]
  rw [hv 42 (by kernel_rfl)]
  rw [hv 43 (by kernel_rfl)]
  rw [hv 44 (by kernel_rfl)]
  rw [hv 45 (by kernel_rfl)]
  rw [hv 46 (by kernel_rfl)]
  rw [hv 47 (by kernel_rfl)]
  rw [hv 48 (by kernel_rfl)]
  rw [hv 49 (by kernel_rfl)]
  rw [hv 50 (by kernel_rfl)]
  rw [hv 51 (by kernel_rfl)]
  rw [hv 52 (by kernel_rfl)]
  rw [hv 53 (by kernel_rfl)]
  rw [hv 54 (by kernel_rfl)]
  rw [hv 55 (by kernel_rfl)]
  rw [hv 56 (by kernel_rfl)]
  rw [hv 57 (by kernel_rfl)]
  rw [hv 58 (by kernel_rfl)]
  rw [hv 59 (by kernel_rfl)]
  rw [hv 60 (by kernel_rfl)]
  rw [hv 61 (by kernel_rfl)]
  rw [hv 62 (by kernel_rfl)]
  rw [hv 63 (by kernel_rfl)]
  rw [hv 64 (by kernel_rfl)]
  rw [hv 65 (by kernel_rfl)]
  rw [hv 66 (by kernel_rfl)]
  rw [hv 67 (by kernel_rfl)]
  rw [hv 68 (by kernel_rfl)]
  rw [hv 69 (by kernel_rfl)]
  rw [hv 70 (by kernel_rfl)]
  rw [hv 71 (by kernel_rfl)]
  rw [hv 72 (by kernel_rfl)]
  rw [hv 73 (by kernel_rfl)]
  rw [hv 74 (by kernel_rfl)]
  rw [hv 75 (by kernel_rfl)]
  rw [hv 76 (by kernel_rfl)]
  rw [show T.getD 77 undef = (.pointer (some ⟨xb, xo, none⟩)) from hf 0 (by decide)]
  rw [show T.getD 78 undef = (.pointer (some ⟨xb, xo, none⟩)) from hf 1 (by decide)]
  rw [show T.getD 79 undef = (.pointer (some ⟨xb, xo + 3, none⟩)) from hf 2 (by decide)]
  rw [show T.getD 80 undef = (.pointer (some ⟨ab, ao, none⟩)) from hf 3 (by decide)]
  rw [show T.getD 81 undef = (.pointer (some ⟨xb, xo, none⟩)) from hf 4 (by decide)]
  rw [show T.getD 82 undef = (.pointer (some ⟨xb, xo, none⟩)) from hf 5 (by decide)]
  rw [show T.getD 83 undef = (.pointer (some ⟨xb, xo + 3, none⟩)) from hf 6 (by decide)]
  rw [show T.getD 84 undef = (.pointer (some ⟨ab, ao, none⟩)) from hf 7 (by decide)]
  rw [show T.getD 85 undef = (.bool (lowE a)) from hf 8 (by decide)]
  rw [show T.getD 86 undef = (.string (strB PA)) from hf 9 (by decide)]
  rw [show T.getD 87 undef = (.string (strB T1)) from hf 10 (by decide)]
  rw [show T.getD 88 undef = (.string ⟨#[42]⟩) from hf 11 (by decide)]
  rw [show T.getD 89 undef = (.string (strB T2)) from hf 12 (by decide)]
  rw [show T.getD 90 undef = (.string (strB T3)) from hf 13 (by decide)]
  rw [show T.getD 91 undef = (.pointer (some ⟨xb, xo, none⟩)) from hf 14 (by decide)]
  rw [show T.getD 92 undef = (.pointer (some ⟨xb, xo, none⟩)) from hf 15 (by decide)]
  rw [show T.getD 93 undef = (.pointer (some ⟨xb, xo + 4, none⟩)) from hf 16 (by decide)]
  rw [show T.getD 94 undef = (.pointer (some ⟨cb, co, none⟩)) from hf 17 (by decide)]
  rw [show T.getD 95 undef = (.pointer (some ⟨xb, xo, none⟩)) from hf 18 (by decide)]
  rw [show T.getD 96 undef = (.pointer (some ⟨xb, xo, none⟩)) from hf 19 (by decide)]
  rw [show T.getD 97 undef = (.pointer (some ⟨xb, xo + 4, none⟩)) from hf 20 (by decide)]
  rw [show T.getD 98 undef = (.pointer (some ⟨cb, co, none⟩)) from hf 21 (by decide)]
  rw [show T.getD 99 undef = (.bool true) from hf 22 (by decide)]
  rw [show T.getD 100 undef = (.bool true) from hf 23 (by decide)]
  rw [show T.getD 101 undef = undef from hf 24 (by decide)]
  rw [show T.getD 102 undef = undef from hf 25 (by decide)]
  rw [show T.getD 103 undef = undef from hf 26 (by decide)]
  rw [show T.getD 104 undef = undef from hf 27 (by decide)]
  rw [show T.getD 105 undef = undef from hf 28 (by decide)]
  rw [show T.getD 106 undef = (.bool true) from hf 29 (by decide)]
  rw [show T.getD 107 undef = (.string (strB PC)) from hf 30 (by decide)]
  rw [show T.getD 108 undef = (.string (strB TX)) from hf 31 (by decide)]
  clear hf hs hv hcur
  simp only [getD_toArray, List.getD_cons_succ, List.getD_cons_zero]
  clear T
  have hb9 := hide ((hun.out.then hu).below (Nat.le_refl _) fun _ h => h.elim)
  clear hu
  go_wp2_with fail
  go_ret
  exact ⟨rfl, hb9.out⟩
set_option maxRecDepth 100000 in
set_option maxHeartbeats 1600000 in
theorem ex6_bin4f (a c : Ex) (hA : Ex6 a) (hC : Ex6 c) (x : Value) (wa : World) (S : Nat → Prop) (hx : ExA wa S (.bin 4 a c) x) (hw : WfX (.bin 4 a c)) (hl : (exT (.bin 4 a c)).length ≤ 1000000) (hc : lowE c = false) :
    Calls Tryd.prog 10 #[x] wa fun r w' => r = .returned (.string (strB (exT (.bin 4 a c)))) ∧ Below wa.heap.size wa w' := by
  have hL := fun w' (hu : Upd (fun _ => False) wa w') => low_any (.bin 4 a c) x w' S (hx.same hu)
  rw [show lowE (.bin 4 a c) = false from rfl] at hL
  obtain ⟨xb, xo, va, vc, rfl, ⟨hS, c0, -, -, c3, c4⟩, hxa, hxc⟩ := hx
  obtain ⟨-, -, hwa, hwc⟩ := hw
  have hX : exT (.bin 4 a c) = parT (lowE a) (exT a) ++ [32, 42, 32] ++ parT (highE c) (exT c) := by
    rw [exT, show signT 4 = [32, 42, 32] from rfl]
    congr 2
    · refine congrArg (fun q => parT q (exT a)) ?_
      unfold lowE
      rw [decide_eq_decide]
      show bindE a < 1 ↔ _
      omega
    · unfold lowE at hc
      have := of_decide_eq_false hc
      unfold highE
      rw [decide_eq_decide]
      show _ < 1 + 1 ↔ _
      omega
  rw [hX] at hl ⊢
  rw [List.length_append, List.length_append] at hl
  have hla : (exT a).length ≤ 1000000 := by
    have : (exT a).length ≤ (parT (lowE a) (exT a)).length := by unfold parT; split <;> simp <;> omega
    omega
  have hlc : (exT c).length ≤ 1000000 := by
    have : (exT c).length ≤ (parT (highE c) (exT c)).length := by unfold parT; split <;> simp <;> omega
    omega
  have hPA := hide (fun w' (hu : Upd (fun _ => False) wa w') => part_of a hA (lowE a) va w' S (hxa.same hu) hwa hla)
  have hPC := hide (fun w' (hu : Upd (fun _ => False) wa w') => part_of c hC (highE c) vc w' S (hxc.same hu) hwc hlc)
  have hLA := hide (fun w' (hu : Upd (fun _ => False) wa w') => low_any a va w' S (hxa.same hu))
  have hLC := hide (fun w' (hu : Upd (fun _ => False) wa w') => low_any c vc w' S (hxc.same hu))
  have hHC := hide (fun w' (hu : Upd (fun _ => False) wa w') => high_any c vc w' S (hxc.same hu))
  replace hL := hide hL
  rw [hc] at hLC
  obtain ⟨ab, ao, rfl⟩ := hxa.ptr
  obtain ⟨cb, co, rfl⟩ := hxc.ptr
  clear hX hwa hwc hxa hxc hla hlc hA hC
  generalize parT (lowE a) (exT a) = PA at *
  generalize parT (highE c) (exT c) = PC at *
  obtain ⟨T1, e1⟩ : ∃ T, T = PA ++ [32] := ⟨_, rfl⟩
  obtain ⟨T2, e2⟩ : ∃ T, T = T1 ++ [42] := ⟨_, rfl⟩
  obtain ⟨T3, e3⟩ : ∃ T, T = T2 ++ [32] := ⟨_, rfl⟩
  obtain ⟨TX, e4⟩ : ∃ T, T = T3 ++ PC := ⟨_, rfl⟩
  have hT : PA ++ [32, 42, 32] ++ PC = TX := by rw [e4, e3, e2, e1]; simp
  rw [hT]
  have l1 : T1.length = PA.length + 1 := by rw [e1, List.length_append]; rfl
  have l2 : T2.length = PA.length + 2 := by rw [e2, List.length_append, l1]; rfl
  have l3 : T3.length = PA.length + 3 := by rw [e3, List.length_append, l2]; rfl
  have h1 := hide (fun w => by rw [e1]; exact str_add PA [32] (by show _ + 1 ≤ _; omega) w : ∀ w, (Op.stringOp .add (strB PA) ⟨#[32]⟩).run Tryd.prog w = .ok (.string (strB T1)) w)
  have h2 := hide (fun w => by rw [e2]; exact str_add T1 [42] (by show _ + 1 ≤ _; omega) w : ∀ w, (Op.stringOp .add (strB T1) ⟨#[42]⟩).run Tryd.prog w = .ok (.string (strB T2)) w)
  have h3 := hide (fun w => by rw [e3]; exact str_add T2 [32] (by show _ + 1 ≤ _; omega) w : ∀ w, (Op.stringOp .add (strB T2) ⟨#[32]⟩).run Tryd.prog w = .ok (.string (strB T3)) w)
  have h4 := hide (fun w => by rw [e4]; exact str_add T3 PC (by omega) w : ∀ w, (Op.stringOp .add (strB T3) (strB PC)).run Tryd.prog w = .ok (.string (strB TX)) w)
  clear hT e1 e2 e3 e4 l1 l2 l3 hl hS
  have c0n := fun o => (Upd.alloc (fun _ => False) wa o).cell c0 id
  have c3w := hide c3
  have c4w := hide c4
  clear c3 c4
  go_enter Tryd.func10, Tryd.ntmps10
  go_wp2_with fail
  generalize hwn : World.alloc wa _ = wn
  have hun : Upd (fun _ => False) wa wn := hwn ▸ .alloc _ _ _
  refine (hL.out wn hun).mono ?_
  rintro r w1 ⟨rfl, rfl⟩
  go_wp2_with fail
  have c3 := hide (hun.cell c3w.out id)
  have c4 := hide (hun.cell c4w.out id)
  replace hun := hide hun
  clear c0 c0n hwn c3w c4w
  refine wp_region_flow (fun _ => False) (factAt [(fun v _ => v = (.pointer (some ⟨xb, xo, none⟩))), (fun v _ => v = (.pointer (some ⟨xb, xo, none⟩))), (fun v _ => v = (.pointer (some ⟨xb, xo + 3, none⟩))), (fun v _ => v = (.pointer (some ⟨ab, ao, none⟩))), (fun v _ => v = (.pointer (some ⟨xb, xo, none⟩))), (fun v _ => v = (.pointer (some ⟨xb, xo, none⟩))), (fun v _ => v = (.pointer (some ⟨xb, xo + 3, none⟩))), (fun v _ => v = (.pointer (some ⟨ab, ao, none⟩))), (fun v _ => v = (.bool (lowE a))), (fun v _ => v = (.string (strB PA))), (fun v _ => v = (.string (strB T1))), (fun v _ => v = (.string ⟨#[42]⟩)), (fun v _ => v = (.string (strB T2))), (fun v _ => v = (.string (strB T3))), (fun v _ => v = (.pointer (some ⟨xb, xo, none⟩))), (fun v _ => v = (.pointer (some ⟨xb, xo, none⟩))), (fun v _ => v = (.pointer (some ⟨xb, xo + 4, none⟩))), (fun v _ => v = (.pointer (some ⟨cb, co, none⟩))), (fun v _ => v = (.pointer (some ⟨xb, xo, none⟩))), (fun v _ => v = (.pointer (some ⟨xb, xo, none⟩))), (fun v _ => v = (.pointer (some ⟨xb, xo + 4, none⟩))), (fun v _ => v = (.pointer (some ⟨cb, co, none⟩))), (fun v _ => v = (.bool false)), (fun v _ => v = (.bool false)), (fun v _ => v = (.pointer (some ⟨xb, xo, none⟩))), (fun v _ => v = (.pointer (some ⟨xb, xo, none⟩))), (fun v _ => v = (.pointer (some ⟨xb, xo + 4, none⟩))), (fun v _ => v = (.pointer (some ⟨cb, co, none⟩))), (fun v _ => v = (.bool (highE c))), (fun v _ => v = (.bool (highE c))), (fun v _ => v = (.string (strB PC))), (fun v _ => v = (.string (strB TX))), (fun v _ => v = (.string (strB TX)))]) [] (fun _ => True) (by kernel_rfl) (fkept_at ⟨FKept.eq _, FKept.eq _, FKept.eq _, FKept.eq _, FKept.eq _, FKept.eq _, FKept.eq _, FKept.eq _, FKept.eq _, FKept.eq _, FKept.eq _, FKept.eq _, FKept.eq _, FKept.eq _, FKept.eq _, FKept.eq _, FKept.eq _, FKept.eq _, FKept.eq _, FKept.eq _, FKept.eq _, FKept.eq _, FKept.eq _, FKept.eq _, FKept.eq _, FKept.eq _, FKept.eq _, FKept.eq _, FKept.eq _, FKept.eq _, FKept.eq _, FKept.eq _, FKept.eq _, trivial⟩) (fun _ _ h _ => h) trivial (by kernel_rfl) (by kernel_rfl) (by kernel_rfl) (by kernel_rfl) (Nat.le_of_ble_eq_true (by kernel_rfl)) ?_ ⟨?_, ?_, ?_, ?_, ?_, ?_, ?_, ?_, ?_, ?_, ?_, ?_, ?_, ?_, ?_, ?_, ?_, ?_, ?_, ?_, ?_, ?_, ?_, ?_, ?_, ?_, ?_, ?_, ?_, ?_, ?_, ?_, ?_, trivial⟩ ?_
  · first | exact trivial | assumption
  · intro T w Q hu hs hv hw hd
    have hx0 : T.getD 0 undef = (.pointer (some ⟨xb, xo, none⟩)) := hv 0 (by kernel_rfl)
    refine .inl ⟨wanted_none rfl, ?_⟩
    clear hd hv hu hs hw
    go_simp
    exact ⟨_, rfl, DstOk.some rfl, Below.refl _ _, rfl⟩
  · intro T w Q hu hs hv hw hd
    have hx77 : T.getD 77 undef = (.pointer (some ⟨xb, xo, none⟩)) := Deps.at 0 hd (by kernel_rfl)
    refine .inl ⟨wanted_none rfl, ?_⟩
    clear hd hv hu hs hw
    go_simp
    exact ⟨_, rfl, DstOk.some rfl, Below.refl _ _, rfl⟩
  · intro T w Q hu hs hv hw hd
    have hx78 : T.getD 78 undef = (.pointer (some ⟨xb, xo, none⟩)) := Deps.at 1 hd (by kernel_rfl)
    refine .inl ⟨wanted_none rfl, ?_⟩
    clear hd hv hu hs hw
    go_simp
    exact ⟨_, rfl, DstOk.some rfl, Below.refl _ _, rfl⟩
  · intro T w Q hu hs hv hw hd
    have hx79 : T.getD 79 undef = (.pointer (some ⟨xb, xo + 3, none⟩)) := Deps.at 2 hd (by kernel_rfl)
    refine .inl ⟨wanted_none rfl, ?_⟩
    have hq := hu.cell c3.out id
    clear hd hv hu hs hw
    go_simp
    exact ⟨_, rfl, DstOk.some rfl, Below.refl _ _, rfl⟩
  · intro T w Q hu hs hv hw hd
    have hx0 : T.getD 0 undef = (.pointer (some ⟨xb, xo, none⟩)) := hv 0 (by kernel_rfl)
    refine .inl ⟨wanted_none rfl, ?_⟩
    clear hd hv hu hs hw
    go_simp
    exact ⟨_, rfl, DstOk.some rfl, Below.refl _ _, rfl⟩
  · intro T w Q hu hs hv hw hd
    have hx81 : T.getD 81 undef = (.pointer (some ⟨xb, xo, none⟩)) := Deps.at 4 hd (by kernel_rfl)
    refine .inl ⟨wanted_none rfl, ?_⟩
    clear hd hv hu hs hw
    go_simp
    exact ⟨_, rfl, DstOk.some rfl, Below.refl _ _, rfl⟩
  · intro T w Q hu hs hv hw hd
    have hx82 : T.getD 82 undef = (.pointer (some ⟨xb, xo, none⟩)) := Deps.at 5 hd (by kernel_rfl)
    refine .inl ⟨wanted_none rfl, ?_⟩
    clear hd hv hu hs hw
    go_simp
    exact ⟨_, rfl, DstOk.some rfl, Below.refl _ _, rfl⟩
  · intro T w Q hu hs hv hw hd
    have hx83 : T.getD 83 undef = (.pointer (some ⟨xb, xo + 3, none⟩)) := Deps.at 6 hd (by kernel_rfl)
    refine .inl ⟨wanted_none rfl, ?_⟩
    have hq := hu.cell c3.out id
    clear hd hv hu hs hw
    go_simp
    exact ⟨_, rfl, DstOk.some rfl, Below.refl _ _, rfl⟩
  · intro T w Q hu hs hv hw hd
    have hx84 : T.getD 84 undef = (.pointer (some ⟨ab, ao, none⟩)) := Deps.at 7 hd (by kernel_rfl)
    refine .inl ⟨wanted_none rfl, ?_⟩
    have hN := hLA.out w (hun.out.then hu)
    clear hd hv hu hs hw
    go_simp
    refine hN.mono ?_
    rintro e w5 ⟨rfl, rfl⟩
    exact ⟨_, rfl, DstOk.some rfl, Below.refl _ _, rfl⟩
  · intro T w Q hu hs hv hw hd
    have hx80 : T.getD 80 undef = (.pointer (some ⟨ab, ao, none⟩)) := Deps.at 3 hd (by kernel_rfl)
    have hx85 : T.getD 85 undef = (.bool (lowE a)) := Deps.at 8 hd (by kernel_rfl)
    refine .inl ⟨wanted_none rfl, ?_⟩
    have hN := hPA.out w (hun.out.then hu)
    clear hd hv hu hs hw
    go_simp
    refine hN.mono ?_
    rintro e w5 ⟨rfl, hb⟩
    exact ⟨_, rfl, DstOk.some rfl, hb, rfl⟩
  · intro T w Q hu hs hv hw hd
    have hx86 : T.getD 86 undef = (.string (strB PA)) := Deps.at 9 hd (by kernel_rfl)
    refine .inl ⟨wanted_none rfl, ?_⟩
    have hC := h1.out w
    clear hd hv hu hs hw
    unfold strB at *
    go_simp
    exact ⟨_, rfl, DstOk.some rfl, Below.refl _ _, rfl⟩
  · intro T w Q hu hs hv hw hd
    have hx3 : T.getD 3 undef = (.string ⟨#[42]⟩) := hv 3 (by kernel_rfl)
    refine .inl ⟨wanted_none rfl, ?_⟩
    clear hd hv hu hs hw
    go_simp
    exact ⟨_, rfl, DstOk.some rfl, Below.refl _ _, rfl⟩
  · intro T w Q hu hs hv hw hd
    have hx87 : T.getD 87 undef = (.string (strB T1)) := Deps.at 10 hd (by kernel_rfl)
    have hx88 : T.getD 88 undef = (.string ⟨#[42]⟩) := Deps.at 11 hd (by kernel_rfl)
    refine .inl ⟨wanted_none rfl, ?_⟩
    have hC := h2.out w
    clear hd hv hu hs hw
    unfold strB at *
    go_simp
    exact ⟨_, rfl, DstOk.some rfl, Below.refl _ _, rfl⟩
  · intro T w Q hu hs hv hw hd
    have hx89 : T.getD 89 undef = (.string (strB T2)) := Deps.at 12 hd (by kernel_rfl)
    refine .inl ⟨wanted_none rfl, ?_⟩
    have hC := h3.out w
    clear hd hv hu hs hw
    unfold strB at *
    go_simp
    exact ⟨_, rfl, DstOk.some rfl, Below.refl _ _, rfl⟩
  · intro T w Q hu hs hv hw hd
    have hx0 : T.getD 0 undef = (.pointer (some ⟨xb, xo, none⟩)) := hv 0 (by kernel_rfl)
    refine .inl ⟨wanted_none rfl, ?_⟩
    clear hd hv hu hs hw
    go_simp
    exact ⟨_, rfl, DstOk.some rfl, Below.refl _ _, rfl⟩
  · intro T w Q hu hs hv hw hd
    have hx91 : T.getD 91 undef = (.pointer (some ⟨xb, xo, none⟩)) := Deps.at 14 hd (by kernel_rfl)
    refine .inl ⟨wanted_none rfl, ?_⟩
    clear hd hv hu hs hw
    go_simp
    exact ⟨_, rfl, DstOk.some rfl, Below.refl _ _, rfl⟩
  · intro T w Q hu hs hv hw hd
    have hx92 : T.getD 92 undef = (.pointer (some ⟨xb, xo, none⟩)) := Deps.at 15 hd (by kernel_rfl)
    refine .inl ⟨wanted_none rfl, ?_⟩
    clear hd hv hu hs hw
    go_simp
    exact ⟨_, rfl, DstOk.some rfl, Below.refl _ _, rfl⟩
  · intro T w Q hu hs hv hw hd
    have hx93 : T.getD 93 undef = (.pointer (some ⟨xb, xo + 4, none⟩)) := Deps.at 16 hd (by kernel_rfl)
    refine .inl ⟨wanted_none rfl, ?_⟩
    have hq := hu.cell c4.out id
    clear hd hv hu hs hw
    go_simp
    exact ⟨_, rfl, DstOk.some rfl, Below.refl _ _, rfl⟩
  · intro T w Q hu hs hv hw hd
    have hx0 : T.getD 0 undef = (.pointer (some ⟨xb, xo, none⟩)) := hv 0 (by kernel_rfl)
    refine .inl ⟨wanted_none rfl, ?_⟩
    clear hd hv hu hs hw
    go_simp
    exact ⟨_, rfl, DstOk.some rfl, Below.refl _ _, rfl⟩
  · intro T w Q hu hs hv hw hd
    have hx95 : T.getD 95 undef = (.pointer (some ⟨xb, xo, none⟩)) := Deps.at 18 hd (by kernel_rfl)
    refine .inl ⟨wanted_none rfl, ?_⟩
    clear hd hv hu hs hw
    go_simp
    exact ⟨_, rfl, DstOk.some rfl, Below.refl _ _, rfl⟩
  · intro T w Q hu hs hv hw hd
    have hx96 : T.getD 96 undef = (.pointer (some ⟨xb, xo, none⟩)) := Deps.at 19 hd (by kernel_rfl)
    refine .inl ⟨wanted_none rfl, ?_⟩
    clear hd hv hu hs hw
    go_simp
    exact ⟨_, rfl, DstOk.some rfl, Below.refl _ _, rfl⟩
  · intro T w Q hu hs hv hw hd
    have hx97 : T.getD 97 undef = (.pointer (some ⟨xb, xo + 4, none⟩)) := Deps.at 20 hd (by kernel_rfl)
    refine .inl ⟨wanted_none rfl, ?_⟩
    have hq := hu.cell c4.out id
    clear hd hv hu hs hw
    go_simp
    exact ⟨_, rfl, DstOk.some rfl, Below.refl _ _, rfl⟩
  · intro T w Q hu hs hv hw hd
    have hx98 : T.getD 98 undef = (.pointer (some ⟨cb, co, none⟩)) := Deps.at 21 hd (by kernel_rfl)
    refine .inl ⟨wanted_none rfl, ?_⟩
    have hN := hLC.out w (hun.out.then hu)
    clear hd hv hu hs hw
    go_simp
    refine hN.mono ?_
    rintro e w5 ⟨rfl, rfl⟩
    exact ⟨_, rfl, DstOk.some rfl, Below.refl _ _, rfl⟩
  · intro T w Q hu hs hv hw hd
    have hx99 : T.getD 99 undef = (.bool false) := Deps.at 22 hd (by kernel_rfl)
    refine .inl ⟨wanted_none rfl, ?_⟩
    clear hd hv hu hs hw
    go_simp
    exact ⟨_, rfl, DstOk.some rfl, Below.refl _ _, rfl⟩
  · intro T w Q hu hs hv hw hd
    have hx0 : T.getD 0 undef = (.pointer (some ⟨xb, xo, none⟩)) := hv 0 (by kernel_rfl)
    refine .inl ⟨wanted_some rfl (Deps.at 23 hd (by kernel_rfl) : slotOf _ T 23 = .bool false), ?_⟩
    clear hd hv hu hs hw
    go_simp
    exact ⟨_, rfl, DstOk.some rfl, Below.refl _ _, rfl⟩
  · intro T w Q hu hs hv hw hd
    have hx101 : T.getD 101 undef = (.pointer (some ⟨xb, xo, none⟩)) := Deps.at 24 hd (by kernel_rfl)
    refine .inl ⟨wanted_some rfl (Deps.at 23 hd (by kernel_rfl) : slotOf _ T 23 = .bool false), ?_⟩
    clear hd hv hu hs hw
    go_simp
    exact ⟨_, rfl, DstOk.some rfl, Below.refl _ _, rfl⟩
  · intro T w Q hu hs hv hw hd
    have hx102 : T.getD 102 undef = (.pointer (some ⟨xb, xo, none⟩)) := Deps.at 25 hd (by kernel_rfl)
    refine .inl ⟨wanted_some rfl (Deps.at 23 hd (by kernel_rfl) : slotOf _ T 23 = .bool false), ?_⟩
    clear hd hv hu hs hw
    go_simp
    exact ⟨_, rfl, DstOk.some rfl, Below.refl _ _, rfl⟩
  · intro T w Q hu hs hv hw hd
    have hx103 : T.getD 103 undef = (.pointer (some ⟨xb, xo + 4, none⟩)) := Deps.at 26 hd (by kernel_rfl)
    refine .inl ⟨wanted_some rfl (Deps.at 23 hd (by kernel_rfl) : slotOf _ T 23 = .bool false), ?_⟩
    have hq := hu.cell c4.out id
    clear hd hv hu hs hw
    go_simp
    exact ⟨_, rfl, DstOk.some rfl, Below.refl _ _, rfl⟩
  · intro T w Q hu hs hv hw hd
    have hx104 : T.getD 104 undef = (.pointer (some ⟨cb, co, none⟩)) := Deps.at 27 hd (by kernel_rfl)
    refine .inl ⟨wanted_some rfl (Deps.at 23 hd (by kernel_rfl) : slotOf _ T 23 = .bool false), ?_⟩
    have hN := hHC.out w (hun.out.then hu)
    clear hd hv hu hs hw
    go_simp
    refine hN.mono ?_
    rintro e w5 ⟨rfl, rfl⟩
    exact ⟨_, rfl, DstOk.some rfl, Below.refl _ _, rfl⟩
  · intro T w Q hu hs hv hw hd
    have hx100 : T.getD 100 undef = (.bool false) := Deps.at 23 hd (by kernel_rfl)
    have hx105 : T.getD 105 undef = (.bool (highE c)) := Deps.at 28 hd (by kernel_rfl)
    refine .inl ⟨wanted_none rfl, ?_⟩
    clear hd hv hu hs hw
    go_simp
    exact ⟨_, rfl, DstOk.some rfl, Below.refl _ _, rfl⟩
  · intro T w Q hu hs hv hw hd
    have hx94 : T.getD 94 undef = (.pointer (some ⟨cb, co, none⟩)) := Deps.at 17 hd (by kernel_rfl)
    have hx106 : T.getD 106 undef = (.bool (highE c)) := Deps.at 29 hd (by kernel_rfl)
    refine .inl ⟨wanted_none rfl, ?_⟩
    have hN := hPC.out w (hun.out.then hu)
    clear hd hv hu hs hw
    go_simp
    refine hN.mono ?_
    rintro e w5 ⟨rfl, hb⟩
    exact ⟨_, rfl, DstOk.some rfl, hb, rfl⟩
  · intro T w Q hu hs hv hw hd
    have hx90 : T.getD 90 undef = (.string (strB T3)) := Deps.at 13 hd (by kernel_rfl)
    have hx107 : T.getD 107 undef = (.string (strB PC)) := Deps.at 30 hd (by kernel_rfl)
    refine .inl ⟨wanted_none rfl, ?_⟩
    have hC := h4.out w
    clear hd hv hu hs hw
    unfold strB at *
    go_simp
    exact ⟨_, rfl, DstOk.some rfl, Below.refl _ _, rfl⟩
  · intro T w Q hu hs hv hw hd
    have hx108 : T.getD 108 undef = (.string (strB TX)) := Deps.at 31 hd (by kernel_rfl)
    refine .inl ⟨wanted_none rfl, ?_⟩
    clear hd hv hu hs hw
    go_simp
    exact ⟨_, rfl, DstOk.some rfl, Below.refl _ _, rfl⟩
  intro T w hu hs hv hf hcur
  have hT : T = #[T.getD 0 undef, T.getD 1 undef, T.getD 2 undef, T.getD 3 undef, T.getD 4 undef, T.getD 5 undef, T.getD 6 undef, T.getD 7 undef, T.getD 8 undef, T.getD 9 undef, T.getD 10 undef, T.getD 11 undef, T.getD 12 undef, T.getD 13 undef, T.getD 14 undef, T.getD 15 undef, T.getD 16 undef, T.getD 17 undef, T.getD 18 undef, T.getD 19 undef, T.getD 20 undef, T.getD 21 undef, T.getD 22 undef, T.getD 23 undef, T.getD 24 undef, T.getD 25 undef, T.getD 26 undef, T.getD 27 undef, T.getD 28 undef, T.getD 29 undef, T.getD 30 undef, T.getD 31 undef, T.getD 32 undef, T.getD 33 undef, T.getD 34 undef, T.getD 35 undef, T.getD 36 undef, T.getD 37 undef, T.getD 38 undef, T.getD 39 undef, T.getD 40 undef, T.getD 41 undef, T.getD 42 undef, T.getD 43 undef, T.getD 44 undef, T.getD 45 undef, T.getD 46 undef, T.getD 47 undef, T.getD 48 undef, T.getD 49 undef, T.getD 50 undef, T.getD 51 undef, T.getD 52 undef, T.getD 53 undef, T.getD 54 undef, T.getD 55 undef, T.getD 56 undef, T.getD 57 undef, T.getD 58 undef, T.getD 59 undef, T.getD 60 undef, T.getD 61 undef, T.getD 62 undef, T.getD 63 undef, T.getD 64 undef, T.getD 65 undef, T.getD 66 undef, T.getD 67 undef, T.getD 68 undef, T.getD 69 undef, T.getD 70 undef, T.getD 71 undef, T.getD 72 undef, T.getD 73 undef, T.getD 74 undef, T.getD 75 undef, T.getD 76 undef, T.getD 77 undef, T.getD 78 undef, T.getD 79 undef, T.getD 80 undef, T.getD 81 undef, T.getD 82 undef, T.getD 83 undef, T.getD 84 undef, T.getD 85 undef, T.getD 86 undef, T.getD 87 undef, T.getD 88 undef, T.getD 89 undef, T.getD 90 undef, T.getD 91 undef, T.getD 92 undef, T.getD 93 undef, T.getD 94 undef, T.getD 95 undef, T.getD 96 undef, T.getD 97 undef, T.getD 98 undef, T.getD 99 undef, T.getD 100 undef, T.getD 101 undef, T.getD 102 undef, T.getD 103 undef, T.getD 104 undef, T.getD 105 undef, T.getD 106 undef, T.getD 107 undef, T.getD 108 undef] := expl hs
  rw [hT]
  clear hT
  rw [show T.getD 0 undef = (.pointer (some ⟨xb, xo, none⟩)) from hv 0 (by kernel_rfl)]
  rw [hv 1 (by kernel_rfl)]
  rw [show T.getD 2 undef = (.string (strB TX)) from hf 32 (by decide)]
  rw [hv 3 (by kernel_rfl)]
  rw [hv 4 (by kernel_rfl)]
  rw [hv 5 (by kernel_rfl)]
  rw [hv 6 (by kernel_rfl)]
  rw [hv 7 (by kernel_rfl)]
  rw [hv 8 (by kernel_rfl)]
  rw [hv 9 (by kernel_rfl)]
  rw [hv 10 (by kernel_rfl)]
  rw [hv 11 (by kernel_rfl)]
  rw [hv 12 (by kernel_rfl)]
  rw [hv 13 (by kernel_rfl)]
  rw [hv 14 (by kernel_rfl)]
  rw [hv 15 (by kernel_rfl)]
  rw [hv 16 (by kernel_rfl)]
  rw [hv 17 (by kernel_rfl)]
  rw [hv 18 (by kernel_rfl)]
  rw [hv 19 (by kernel_rfl)]
  rw [hv 20 (by kernel_rfl)]
  rw [hv 21 (by kernel_rfl)]
  rw [hv 22 (by kernel_rfl)]
  rw [hv 23 (by kernel_rfl)]
  rw [hv 24 (by kernel_rfl)]
  rw [hv 25 (by kernel_rfl)]
  rw [hv 26 (by kernel_rfl)]
  rw [hv 27 (by kernel_rfl)]
  rw [hv 28 (by kernel_rfl)]
  rw [hv 29 (by kernel_rfl)]
  rw [hv 30 (by kernel_rfl)]
  rw [hv 31 (by kernel_rfl)]
  rw [hv 32 (by kernel_rfl)]
  rw [hv 33 (by kernel_rfl)]
  rw [hv 34 (by kernel_rfl)]
  rw [hv 35 (by kernel_rfl)]
  rw [hv 36 (by kernel_rfl)]
  rw [hv 37 (by kernel_rfl)]
  rw [hv 38 (by kernel_rfl)]
  rw [hv 39 (by kernel_rfl)]
  rw [hv 40 (by kernel_rfl)]
  rw [hv 41 (by kernel_rfl)]
  rw [hv 42 (by kernel_rfl)]
  rw [hv 43 (by kernel_rfl)]
  rw [hv 44 (by kernel_rfl)]
  rw [hv 45 (by kernel_rfl)]
  rw [hv 46 (by kernel_rfl)]
  rw [hv 47 (by kernel_rfl)]
  rw [hv 48 (by kernel_rfl)]
  rw [hv 49 (by kernel_rfl)]
  rw [hv 50 (by kernel_rfl)]
  rw [hv 51 (by kernel_rfl)]
  rw [hv 52 (by kernel_rfl)]
  rw [hv 53 (by kernel_rfl)]
  rw [hv 54 (by kernel_rfl)]
  rw [hv 55 (by kernel_rfl)]
  rw [hv 56 (by kernel_rfl)]
  rw [hv 57 (by kernel_rfl)]
  rw [hv 58 (by kernel_rfl)]
  rw [hv 59 (by kernel_rfl)]
  rw [hv 60 (by kernel_rfl)]
  rw [hv 61 (by kernel_rfl)]
  rw [hv 62 (by kernel_rfl)]
  rw [hv 63 (by kernel_rfl)]
  rw [hv 64 (by kernel_rfl)]
  rw [hv 65 (by kernel_rfl)]
  rw [hv 66 (by kernel_rfl)]
  rw [hv 67 (by kernel_rfl)]
  rw [hv 68 (by kernel_rfl)]
  rw [hv 69 (by kernel_rfl)]
  rw [hv 70 (by kernel_rfl)]
  rw [hv 71 (by kernel_rfl)]
  rw [hv 72 (by kernel_rfl)]
  rw [hv 73 (by kernel_rfl)]
  rw [hv 74 (by kernel_rfl)]
  rw [hv 75 (by kernel_rfl)]
  rw [hv 76 (by kernel_rfl)]
  rw [show T.getD 77 undef = (.pointer (some ⟨xb, xo, none⟩)) from hf 0 (by decide)]
  rw [show T.getD 78 undef = (.pointer (some ⟨xb, xo, none⟩)) from hf 1 (by decide)]
  rw [show T.getD 79 undef = (.pointer (some ⟨xb, xo + 3, none⟩)) from hf 2 (by decide)]
  rw [show T.getD 80 undef = (.pointer (some ⟨ab, ao, none⟩)) from hf 3 (by decide)]
  rw [show T.getD 81 undef = (.pointer (some ⟨xb, xo, none⟩)) from hf 4 (by decide)]
  rw [show T.getD 82 undef = (.pointer (some ⟨xb, xo, none⟩)) from hf 5 (by decide)]
  rw [show T.getD 83 undef = (.pointer (some ⟨xb, xo + 3, none⟩)) from hf 6 (by decide)]
  rw [show T.getD 84 undef = (.pointer (some ⟨ab, ao, none⟩)) from hf 7 (by decide)]
  rw [show T.getD 85 undef = (.bool (lowE a)) from hf 8 (by decide)]
  rw [show T.getD 86 undef = (.string (strB PA)) from hf 9 (by decide)]
  rw [show T.getD 87 undef = (.string (strB T1)) from hf 10 (by decide)]
  rw [show T.getD 88 undef = (.string ⟨#[42]⟩) from hf 11 (by decide)]
  rw [show T.getD 89 undef = (.string (strB T2)) from hf 12 (by decide)]
  rw [show T.getD 90 undef = (.string (strB T3)) from hf 13 (by decide)]
  rw [show T.getD 91 undef = (.pointer (some ⟨xb, xo, none⟩)) from hf 14 (by decide)]
  rw [show T.getD 92 undef = (.pointer (some ⟨xb, xo, none⟩)) from hf 15 (by decide)]
  rw [show T.getD 93 undef = (.pointer (some ⟨xb, xo + 4, none⟩)) from hf 16 (by decide)]
  rw [show T.getD 94 undef = (.pointer (some ⟨cb, co, none⟩)) from hf 17 (by decide)]
  rw [show T.getD 95 undef = (.pointer (some ⟨xb, xo, none⟩)) from hf 18 (by decide)]
  rw [show T.getD 96 undef = (.pointer (some ⟨xb, xo, none⟩)) from hf 19 (by decide)]
  rw [show T.getD 97 undef = (.pointer (some ⟨xb, xo + 4, none⟩)) from hf 20 (by decide)]
  rw [show T.getD 98 undef = (.pointer (some ⟨cb, co, none⟩)) from hf 21 (by decide)]
  rw [show T.getD 99 undef = (.bool false) from hf 22 (by decide)]
  rw [show T.getD 100 undef = (.bool false) from hf 23 (by decide)]
  rw [show T.getD 101 undef = (.pointer (some ⟨xb, xo, none⟩)) from hf 24 (by decide)]
  rw [show T.getD 102 undef = (.pointer (some ⟨xb, xo, none⟩)) from hf 25 (by decide)]
  rw [show T.getD 103 undef = (.pointer (some ⟨xb, xo + 4, none⟩)) from hf 26 (by decide)]
  rw [show T.getD 104 undef = (.pointer (some ⟨cb, co, none⟩)) from hf 27 (by decide)]
  rw [show T.getD 105 undef = (.bool (highE c)) from hf 28 (by decide)]
  rw [show T.getD 106 undef = (.bool (highE c)) from hf 29 (by decide)]
  rw [show T.getD 107 undef = (.string (strB PC)) from hf 30 (by decide)]
  rw [show T.getD 108 undef = (.string (strB TX)) from hf 31 (by decide)]
  clear hf hs hv hcur
  simp only [getD_toArray, List.getD_cons_succ, List.getD_cons_zero]
  clear T
  have hb9 := hide ((hun.out.then hu).below (Nat.le_refl _) fun _ h => h.elim)
  clear hu
  go_wp2_with fail
  go_ret
  exact ⟨rfl, hb9.out⟩
set_option maxRecDepth 100000 in
set_option maxHeartbeats 1600000 in
theorem ex6_bin5t (a c : Ex) (hA : Ex6 a) (hC : Ex6 c) (x : Value) (wa : World) (S : Nat → Prop) (hx : ExA wa S (.bin 5 a c) x) (hw : WfX (.bin 5 a c)) (hl : (exT (.bin 5 a c)).length ≤ 1000000) (hc : lowE c = true) :
    Calls Tryd.prog 10 #[x] wa fun r w' => r = .returned (.string (strB (exT (.bin 5 a c)))) ∧ Below wa.heap.size wa w' := by
  have hL := fun w' (hu : Upd (fun _ => False) wa w') => low_any (.bin 5 a c) x w' S (hx.same hu)
  rw [show lowE (.bin 5 a c) = false from rfl] at hL
  obtain ⟨xb, xo, va, vc, rfl, ⟨hS, c0, -, -, c3, c4⟩, hxa, hxc⟩ := hx
  obtain ⟨-, -, hwa, hwc⟩ := hw
  have hX : exT (.bin 5 a c) = parT (lowE a) (exT a) ++ [32, 47, 32] ++ parT (true) (exT c) := by
    rw [exT, show signT 5 = [32, 47, 32] from rfl]
    congr 2
    · refine congrArg (fun q => parT q (exT a)) ?_
      unfold lowE
      rw [decide_eq_decide]
      show bindE a < 1 ↔ _
      omega
    · unfold lowE at hc
      have := of_decide_eq_true hc
      refine decide_eq_true ?_
      show _ < 1 + 1
      omega
  rw [hX] at hl ⊢
  rw [List.length_append, List.length_append] at hl
  have hla : (exT a).length ≤ 1000000 := by
    have : (exT a).length ≤ (parT (lowE a) (exT a)).length := by unfold parT; split <;> simp <;> omega
    omega
  have hlc : (exT c).length ≤ 1000000 := by
    have : (exT c).length ≤ (parT (true) (exT c)).length := by unfold parT; split <;> simp <;> omega
    omega
  have hPA := hide (fun w' (hu : Upd (fun _ => False) wa w') => part_of a hA (lowE a) va w' S (hxa.same hu) hwa hla)
  have hPC := hide (fun w' (hu : Upd (fun _ => False) wa w') => part_of c hC (true) vc w' S (hxc.same hu) hwc hlc)
  have hLA := hide (fun w' (hu : Upd (fun _ => False) wa w') => low_any a va w' S (hxa.same hu))
  have hLC := hide (fun w' (hu : Upd (fun _ => False) wa w') => low_any c vc w' S (hxc.same hu))
  have hHC := hide (fun w' (hu : Upd (fun _ => False) wa w') => high_any c vc w' S (hxc.same hu))
  replace hL := hide hL
  rw [hc] at hLC
  obtain ⟨ab, ao, rfl⟩ := hxa.ptr
  obtain ⟨cb, co, rfl⟩ := hxc.ptr
  clear hX hwa hwc hxa hxc hla hlc hA hC
  generalize parT (lowE a) (exT a) = PA at *
  generalize parT (true) (exT c) = PC at *
  obtain ⟨T1, e1⟩ : ∃ T, T = PA ++ [32] := ⟨_, rfl⟩
  obtain ⟨T2, e2⟩ : ∃ T, T = T1 ++ [47] := ⟨_, rfl⟩
  obtain ⟨T3, e3⟩ : ∃ T, T = T2 ++ [32] := ⟨_, rfl⟩
  obtain ⟨TX, e4⟩ : ∃ T, T = T3 ++ PC := ⟨_, rfl⟩
  have hT : PA ++ [32, 47, 32] ++ PC = TX := by rw [e4, e3, e2, e1]; simp
  rw [hT]
  have l1 : T1.length = PA.length + 1 := by rw [e1, List.length_append]; rfl
  have l2 : T2.length = PA.length + 2 := by rw [e2, List.length_append, l1]; rfl
  have l3 : T3.length = PA.length + 3 := by rw [e3, List.length_append, l2]; rfl
  have h1 := hide (fun w => by rw [e1]; exact str_add PA [32] (by show _ + 1 ≤ _; omega) w : ∀ w, (Op.stringOp .add (strB PA) ⟨#[32]⟩).run Tryd.prog w = .ok (.string (strB T1)) w)
  have h2 := hide (fun w => by rw [e2]; exact str_add T1 [47] (by show _ + 1 ≤ _; omega) w : ∀ w, (Op.stringOp .add (strB T1) ⟨#[47]⟩).run Tryd.prog w = .ok (.string (strB T2)) w)
  have h3 := hide (fun w => by rw [e3]; exact str_add T2 [32] (by show _ + 1 ≤ _; omega) w : ∀ w, (Op.stringOp .add (strB T2) ⟨#[32]⟩).run Tryd.prog w = .ok (.string (strB T3)) w)
  have h4 := hide (fun w => by rw [e4]; exact str_add T3 PC (by omega) w : ∀ w, (Op.stringOp .add (strB T3) (strB PC)).run Tryd.prog w = .ok (.string (strB TX)) w)
  clear hT e1 e2 e3 e4 l1 l2 l3 hl hS
  have c0n := fun o => (Upd.alloc (fun _ => False) wa o).cell c0 id
  have c3w := hide c3
  have c4w := hide c4
  clear c3 c4
  go_enter Tryd.func10, Tryd.ntmps10
  go_wp2_with fail
  generalize hwn : World.alloc wa _ = wn
  have hun : Upd (fun _ => False) wa wn := hwn ▸ .alloc _ _ _
  refine (hL.out wn hun).mono ?_
  rintro r w1 ⟨rfl, rfl⟩
  go_wp2_with fail
  have c3 := hide (hun.cell c3w.out id)
  have c4 := hide (hun.cell c4w.out id)
  replace hun := hide hun
  clear c0 c0n hwn c3w c4w
  refine wp_region_flow (fun _ => False) (factAt [(fun v _ => v = (.pointer (some ⟨xb, xo, none⟩))), (fun v _ => v = (.pointer (some ⟨xb, xo, none⟩))), (fun v _ => v = (.pointer (some ⟨xb, xo + 3, none⟩))), (fun v _ => v = (.pointer (some ⟨ab, ao, none⟩))), (fun v _ => v = (.pointer (some ⟨xb, xo, none⟩))), (fun v _ => v = (.pointer (some ⟨xb, xo, none⟩))), (fun v _ => v = (.pointer (some ⟨xb, xo + 3, none⟩))), (fun v _ => v = (.pointer (some ⟨ab, ao, none⟩))), (fun v _ => v = (.bool (lowE a))), (fun v _ => v = (.string (strB PA))), (fun v _ => v = (.string (strB T1))), (fun v _ => v = (.string ⟨#[47]⟩)), (fun v _ => v = (.string (strB T2))), (fun v _ => v = (.string (strB T3))), (fun v _ => v = (.pointer (some ⟨xb, xo, none⟩))), (fun v _ => v = (.pointer (some ⟨xb, xo, none⟩))), (fun v _ => v = (.pointer (some ⟨xb, xo + 4, none⟩))), (fun v _ => v = (.pointer (some ⟨cb, co, none⟩))), (fun v _ => v = (.pointer (some ⟨xb, xo, none⟩))), (fun v _ => v = (.pointer (some ⟨xb, xo, none⟩))), (fun v _ => v = (.pointer (some ⟨xb, xo + 4, none⟩))), (fun v _ => v = (.pointer (some ⟨cb, co, none⟩))), (fun v _ => v = (.bool true)), (fun v _ => v = (.bool true)), (fun v _ => v = undef), (fun v _ => v = undef), (fun v _ => v = undef), (fun v _ => v = undef), (fun v _ => v = undef), (fun v _ => v = (.bool true)), (fun v _ => v = (.string (strB PC))), (fun v _ => v = (.string (strB TX))), (fun v _ => v = (.string (strB TX)))]) [] (fun _ => True) (by kernel_rfl) (fkept_at ⟨FKept.eq _, FKept.eq _, FKept.eq _, FKept.eq _, FKept.eq _, FKept.eq _, FKept.eq _, FKept.eq _, FKept.eq _, FKept.eq _, FKept.eq _, FKept.eq _, FKept.eq _, FKept.eq _, FKept.eq _, FKept.eq _, FKept.eq _, FKept.eq _, FKept.eq _, FKept.eq _, FKept.eq _, FKept.eq _, FKept.eq _, FKept.eq _, FKept.eq _, FKept.eq _, FKept.eq _, FKept.eq _, FKept.eq _, FKept.eq _, FKept.eq _, FKept.eq _, FKept.eq _, trivial⟩) (fun _ _ h _ => h) trivial (by kernel_rfl) (by kernel_rfl) (by kernel_rfl) (by kernel_rfl) (Nat.le_of_ble_eq_true (by kernel_rfl)) ?_ ⟨?_, ?_, ?_, ?_, ?_, ?_, ?_, ?_, ?_, ?_, ?_, ?_, ?_, ?_, ?_, ?_, ?_, ?_, ?_, ?_, ?_, ?_, ?_, ?_, ?_, ?_, ?_, ?_, ?_, ?_, ?_, ?_, ?_, trivial⟩ ?_
  · first | exact trivial | assumption
  · intro T w Q hu hs hv hw hd
    have hx0 : T.getD 0 undef = (.pointer (some ⟨xb, xo, none⟩)) := hv 0 (by kernel_rfl)
    refine .inl ⟨wanted_none rfl, ?_⟩
    clear hd hv hu hs hw
    go_simp
    exact ⟨_, rfl, DstOk.some rfl, Below.refl _ _, rfl⟩
  · intro T w Q hu hs hv hw hd
    have hx77 : T.getD 77 undef = (.pointer (some ⟨xb, xo, none⟩)) := Deps.at 0 hd (by kernel_rfl)
    refine .inl ⟨wanted_none rfl, ?_⟩
    clear hd hv hu hs hw
    go_simp
    exact ⟨_, rfl, DstOk.some rfl, Below.refl _ _, rfl⟩
  · intro T w Q hu hs hv hw hd
    have hx78 : T.getD 78 undef = (.pointer (some ⟨xb, xo, none⟩)) := Deps.at 1 hd (by kernel_rfl)
    refine .inl ⟨wanted_none rfl, ?_⟩
    clear hd hv hu hs hw
    go_simp
    exact ⟨_, rfl, DstOk.some rfl, Below.refl _ _, rfl⟩
  · intro T w Q hu hs hv hw hd
    have hx79 : T.getD 79 undef = (.pointer (some ⟨xb, xo + 3, none⟩)) := Deps.at 2 hd (by kernel_rfl)
    refine .inl ⟨wanted_none rfl, ?_⟩
    have hq := hu.cell c3.out id
    clear hd hv hu hs hw
    go_simp
    exact ⟨_, rfl, DstOk.some rfl, Below.refl _ _, rfl⟩
  · intro T w Q hu hs hv hw hd
    have hx0 : T.getD 0 undef = (.pointer (some ⟨xb, xo, none⟩)) := hv 0 (by kernel_rfl)
    refine .inl ⟨wanted_none rfl, ?_⟩
    clear hd hv hu hs hw
    go_simp
    exact ⟨_, rfl, DstOk.some rfl, Below.refl _ _, rfl⟩
  · intro T w Q hu hs hv hw hd
    have hx81 : T.getD 81 undef = (.pointer (some ⟨xb, xo, none⟩)) := Deps.at 4 hd (by kernel_rfl)
    refine .inl ⟨wanted_none rfl, ?_⟩
    clear hd hv hu hs hw
    go_simp
    exact ⟨_, rfl, DstOk.some rfl, Below.refl _ _, rfl⟩
  · intro T w Q hu hs hv hw hd
    have hx82 : T.getD 82 undef = (.pointer (some ⟨xb, xo, none⟩)) := Deps.at 5 hd (by kernel_rfl)
    refine .inl ⟨wanted_none rfl, ?_⟩
    clear hd hv hu hs hw
    go_simp
    exact ⟨_, rfl, DstOk.some rfl, Below.refl _ _, rfl⟩
  · intro T w Q hu hs hv hw hd
    have hx83 : T.getD 83 undef = (.pointer (some ⟨xb, xo + 3, none⟩)) := Deps.at 6 hd (by kernel_rfl)
    refine .inl ⟨wanted_none rfl, ?_⟩
    have hq := hu.cell c3.out id
    clear hd hv hu hs hw
    go_simp
    exact ⟨_, rfl, DstOk.some rfl, Below.refl _ _, rfl⟩
  · intro T w Q hu hs hv hw hd
    have hx84 : T.getD 84 undef = (.pointer (some ⟨ab, ao, none⟩)) := Deps.at 7 hd (by kernel_rfl)
    refine .inl ⟨wanted_none rfl, ?_⟩
    have hN := hLA.out w (hun.out.then hu)
    clear hd hv hu hs hw
    go_simp
    refine hN.mono ?_
    rintro e w5 ⟨rfl, rfl⟩
    exact ⟨_, rfl, DstOk.some rfl, Below.refl _ _, rfl⟩
  · intro T w Q hu hs hv hw hd
    have hx80 : T.getD 80 undef = (.pointer (some ⟨ab, ao, none⟩)) := Deps.at 3 hd (by kernel_rfl)
    have hx85 : T.getD 85 undef = (.bool (lowE a)) := Deps.at 8 hd (by kernel_rfl)
    refine .inl ⟨wanted_none rfl, ?_⟩
    have hN := hPA.out w (hun.out.then hu)
    clear hd hv hu hs hw
    go_simp
    refine hN.mono ?_
    rintro e w5 ⟨rfl, hb⟩
    exact ⟨_, rfl, DstOk.some rfl, hb, rfl⟩
  · intro T w Q hu hs hv hw hd
    have hx86 : T.getD 86 undef = (.string (strB PA)) := Deps.at 9 hd (by kernel_rfl)
    refine .inl ⟨wanted_none rfl, ?_⟩
    have hC := h1.out w
    clear hd hv hu hs hw
    unfold strB at *
    go_simp
    exact ⟨_, rfl, DstOk.some rfl, Below.refl _ _, rfl⟩
  · intro T w Q hu hs hv hw hd
    have hx3 : T.getD 3 undef = (.string ⟨#[47]⟩) := hv 3 (by kernel_rfl)
    refine .inl ⟨wanted_none rfl, ?_⟩
    clear hd hv hu hs hw
    go_simp
    exact ⟨_, rfl, DstOk.some rfl, Below.refl _ _, rfl⟩
  · intro T w Q hu hs hv hw hd
    have hx87 : T.getD 87 undef = (.string (strB T1)) := Deps.at 10 hd (by kernel_rfl)
    have hx88 : T.getD 88 undef = (.string ⟨#[47]⟩) := Deps.at 11 hd (by kernel_rfl)
    refine .inl ⟨wanted_none rfl, ?_⟩
    have hC := h2.out w
    clear hd hv hu hs hw
    unfold strB at *
    go_simp
    exact ⟨_, rfl, DstOk.some rfl, Below.refl _ _, rfl⟩
  · intro T w Q hu hs hv hw hd
    have hx89 : T.getD 89 undef = (.string (strB T2)) := Deps.at 12 hd (by kernel_rfl)
    refine .inl ⟨wanted_none rfl, ?_⟩
    have hC := h3.out w
    clear hd hv hu hs hw
    unfold strB at *
    go_simp
    exact ⟨_, rfl, DstOk.some rfl, Below.refl _ _, rfl⟩
  · intro T w Q hu hs hv hw hd
    have hx0 : T.getD 0 undef = (.pointer (some ⟨xb, xo, none⟩)) := hv 0 (by kernel_rfl)
    refine .inl ⟨wanted_none rfl, ?_⟩
    clear hd hv hu hs hw
    go_simp
    exact ⟨_, rfl, DstOk.some rfl, Below.refl _ _, rfl⟩
  · intro T w Q hu hs hv hw hd
    have hx91 : T.getD 91 undef = (.pointer (some ⟨xb, xo, none⟩)) := Deps.at 14 hd (by kernel_rfl)
    refine .inl ⟨wanted_none rfl, ?_⟩
    clear hd hv hu hs hw
    go_simp
    exact ⟨_, rfl, DstOk.some rfl, Below.refl _ _, rfl⟩
  · intro T w Q hu hs hv hw hd
    have hx92 : T.getD 92 undef = (.pointer (some ⟨xb, xo, none⟩)) := Deps.at 15 hd (by kernel_rfl)
    refine .inl ⟨wanted_none rfl, ?_⟩
    clear hd hv hu hs hw
    go_simp
    exact ⟨_, rfl, DstOk.some rfl, Below.refl _ _, rfl⟩
  · intro T w Q hu hs hv hw hd
    have hx93 : T.getD 93 undef = (.pointer (some ⟨xb, xo + 4, none⟩)) := Deps.at 16 hd (by kernel_rfl)
    refine .inl ⟨wanted_none rfl, ?_⟩
    have hq := hu.cell c4.out id
    clear hd hv hu hs hw
    go_simp
    exact ⟨_, rfl, DstOk.some rfl, Below.refl _ _, rfl⟩
  · intro T w Q hu hs hv hw hd
    have hx0 : T.getD 0 undef = (.pointer (some ⟨xb, xo, none⟩)) := hv 0 (by kernel_rfl)
    refine .inl ⟨wanted_none rfl, ?_⟩
    clear hd hv hu hs hw
    go_simp
    exact ⟨_, rfl, DstOk.some rfl, Below.refl _ _, rfl⟩
  · intro T w Q hu hs hv hw hd
    have hx95 : T.getD 95 undef = (.pointer (some ⟨xb, xo, none⟩)) := Deps.at 18 hd (by kernel_rfl)
    refine .inl ⟨wanted_none rfl, ?_⟩
    clear hd hv hu hs hw
    go_simp
    exact ⟨_, rfl, DstOk.some rfl, Below.refl _ _, rfl⟩
  · intro T w Q hu hs hv hw hd
    have hx96 : T.getD 96 undef = (.pointer (some ⟨xb, xo, none⟩)) := Deps.at 19 hd (by kernel_rfl)
    refine .inl ⟨wanted_none rfl, ?_⟩
    clear hd hv hu hs hw
    go_simp
    exact ⟨_, rfl, DstOk.some rfl, Below.refl _ _, rfl⟩
  · intro T w Q hu hs hv hw hd
    have hx97 : T.getD 97 undef = (.pointer (some ⟨xb, xo + 4, none⟩)) := Deps.at 20 hd (by kernel_rfl)
    refine .inl ⟨wanted_none rfl, ?_⟩
    have hq := hu.cell c4.out id
    clear hd hv hu hs hw
    go_simp
    exact ⟨_, rfl, DstOk.some rfl, Below.refl _ _, rfl⟩
  · intro T w Q hu hs hv hw hd
    have hx98 : T.getD 98 undef = (.pointer (some ⟨cb, co, none⟩)) := Deps.at 21 hd (by kernel_rfl)
    refine .inl ⟨wanted_none rfl, ?_⟩
    have hN := hLC.out w (hun.out.then hu)
    clear hd hv hu hs hw
    go_simp
    refine hN.mono ?_
    rintro e w5 ⟨rfl, rfl⟩
    exact ⟨_, rfl, DstOk.some rfl, Below.refl _ _, rfl⟩
  · intro T w Q hu hs hv hw hd
    have hx99 : T.getD 99 undef = (.bool true) := Deps.at 22 hd (by kernel_rfl)
    refine .inl ⟨wanted_none rfl, ?_⟩
    clear hd hv hu hs hw
    go_simp
    exact ⟨_, rfl, DstOk.some rfl, Below.refl _ _, rfl⟩
  · intro T w Q hu hs hv hw hd
    exact .inr ⟨wanted_not rfl (Deps.at 23 hd (by kernel_rfl) : slotOf _ T 23 = .bool (!false)), rfl⟩
  · intro T w Q hu hs hv hw hd
    exact .inr ⟨wanted_not rfl (Deps.at 23 hd (by kernel_rfl) : slotOf _ T 23 = .bool (!false)), rfl⟩
  · intro T w Q hu hs hv hw hd
    exact .inr ⟨wanted_not rfl (Deps.at 23 hd (by kernel_rfl) : slotOf _ T 23 = .bool (!false)), rfl⟩
  · intro T w Q hu hs hv hw hd
    exact .inr ⟨wanted_not rfl (Deps.at 23 hd (by kernel_rfl) : slotOf _ T 23 = .bool (!false)), rfl⟩
  · intro T w Q hu hs hv hw hd
    exact .inr ⟨wanted_not rfl (Deps.at 23 hd (by kernel_rfl) : slotOf _ T 23 = .bool (!false)), rfl⟩
  · intro T w Q hu hs hv hw hd
    have hx100 : T.getD 100 undef = (.bool true) := Deps.at 23 hd (by kernel_rfl)
    have hx105 : T.getD 105 undef = undef := Deps.at 28 hd (by kernel_rfl)
    refine .inl ⟨wanted_none rfl, ?_⟩
    clear hd hv hu hs hw
    go_simp
    exact ⟨_, rfl, DstOk.some rfl, Below.refl _ _, rfl⟩
  · intro T w Q hu hs hv hw hd
    have hx94 : T.getD 94 undef = (.pointer (some ⟨cb, co, none⟩)) := Deps.at 17 hd (by kernel_rfl)
    have hx106 : T.getD 106 undef = (.bool true) := Deps.at 29 hd (by kernel_rfl)
    refine .inl ⟨wanted_none rfl, ?_⟩
    have hN := hPC.out w (hun.out.then hu)
    clear hd hv hu hs hw
    go_simp
    refine hN.mono ?_
    rintro e w5 ⟨rfl, hb⟩
    exact ⟨_, rfl, DstOk.some rfl, hb, rfl⟩
  · intro T w Q hu hs hv hw hd
    have hx90 : T.getD 90 undef = (.string (strB T3)) := Deps.at 13 hd (by kernel_rfl)
    have hx107 : T.getD 107 undef = (.string (strB PC)) := Deps.at 30 hd (by kernel_rfl)
    refine .inl ⟨wanted_none rfl, ?_⟩
    have hC := h4.out w
    clear hd hv hu hs hw
    unfold strB at *
    go_simp
    exact ⟨_, rfl, DstOk.some rfl, Below.refl _ _, rfl⟩
  · intro T w Q hu hs hv hw hd
    have hx108 : T.getD 108 undef = (.string (strB TX)) := Deps.at 31 hd (by kernel_rfl)
    refine .inl ⟨wanted_none rfl, ?_⟩
    clear hd hv hu hs hw
    go_simp
    exact ⟨_, rfl, DstOk.some rfl, Below.refl _ _, rfl⟩
  intro T w hu hs hv hf hcur
  have hT : T = #[T.getD 0 undef, T.getD 1 undef, T.getD 2 undef, T.getD 3 undef, T.getD 4 undef, T.getD 5 undef, T.getD 6 undef, T.getD 7 undef, T.getD 8 undef, T.getD 9 undef, T.getD 10 undef, T.getD 11 undef, T.getD 12 undef, T.getD 13 undef, T.getD 14 undef, T.getD 15 undef, T.getD 16 undef, T.getD 17 undef, T.getD 18 undef, T.getD 19 undef, T.getD 20 undef, T.getD 21 undef, T.getD 22 undef, T.getD 23 undef, T.getD 24 undef, T.getD 25 undef, T.getD 26 undef, T.getD 27 undef, T.getD 28 undef, T.getD 29 undef, T.getD 30 undef, T.getD 31 undef, T.getD 32 undef, T.getD 33 undef, T.getD 34 undef, T.getD 35 undef, T.getD 36 undef, T.getD 37 undef, T.getD 38 undef, T.getD 39 undef, T.getD 40 undef, T.getD 41 undef, T.getD 42 undef, T.getD 43 undef, T.getD 44 undef, T.getD 45 undef, T.getD 46 undef, T.getD 47 undef, T.getD 48 undef, T.getD 49 undef, T.getD 50 undef, T.getD 51 undef, T.getD 52 undef, T.getD 53 undef, T.getD 54 undef, T.getD 55 undef, T.getD 56 undef, T.getD 57 undef, T.getD 58 undef, T.getD 59 undef, T.getD 60 undef, T.getD 61 undef, T.getD 62 undef, T.getD 63 undef, T.getD 64 undef, T.getD 65 undef, T.getD 66 undef, T.getD 67 undef, T.getD 68 undef, T.getD 69 undef, T.getD 70 undef, T.getD 71 undef, T.getD 72 undef, T.getD 73 undef, T.getD 74 undef, T.getD 75 undef, T.getD 76 undef, T.getD 77 undef, T.getD 78 undef, T.getD 79 undef, T.getD 80 undef, T.getD 81 undef, T.getD 82 undef, T.getD 83 undef, T.getD 84 undef, T.getD 85 undef, T.getD 86 undef, T.getD 87 undef, T.getD 88 undef, T.getD 89 undef, T.getD 90 undef, T.getD 91 undef, T.getD 92 undef, T.getD 93 undef, T.getD 94 undef, T.getD 95 undef, T.getD 96 undef, T.getD 97 undef, T.getD 98 undef, T.getD 99 undef, T.getD 100 undef, T.getD 101 undef, T.getD 102 undef, T.getD 103 undef, T.getD 104 undef, T.getD 105 undef, T.getD 106 undef, T.getD 107 undef, T.getD 108 undef] := expl hs
  rw [hT]
  clear hT
  rw [show T.getD 0 undef = (.pointer (some ⟨xb, xo, none⟩)) from hv 0 (by kernel_rfl)]
  rw [hv 1 (by kernel_rfl)]
  rw [show T.getD 2 undef = (.string (strB TX)) from hf 32 (by decide)]
  rw [hv 3 (by kernel_rfl)]
  rw [hv 4 (by kernel_rfl)]
  rw [hv 5 (by kernel_rfl)]
  rw [hv 6 (by kernel_rfl)]
  rw [hv 7 (by kernel_rfl)]
  rw [hv 8 (by kernel_rfl)]
  rw [hv 9 (by kernel_rfl)]
  rw [hv 10 (by kernel_rfl)]
  rw [hv 11 (by kernel_rfl)]
  rw [hv 12 (by kernel_rfl)]
  rw [hv 13 (by kernel_rfl)]
  rw [hv 14 (by kernel_rfl)]
  rw [hv 15 (by kernel_rfl)]
  rw [hv 16 (by kernel_rfl)]
  rw [hv 17 (by kernel_rfl)]
  rw [hv 18 (by kernel_rfl)]
  rw [hv 19 (by kernel_rfl)]
  rw [hv 20 (by kernel_rfl)]
  rw [hv 21 (by kernel_rfl)]
  rw [hv 22 (by kernel_rfl)]
  rw [hv 23 (by kernel_rfl)]
  rw [hv 24 (by kernel_rfl)]
  rw [hv 25 (by kernel_rfl)]
  rw [hv 26 (by kernel_rfl)]
  rw [hv 27 (by kernel_rfl)]
  rw [hv 28 (by kernel_rfl)]
  rw [hv 29 (by kernel_rfl)]
  rw [hv 30 (by kernel_rfl)]
  rw [hv 31 (by kernel_rfl)]
  rw [hv 32 (by kernel_rfl)]
  rw [hv 33 (by kernel_rfl)]
  rw [hv 34 (by kernel_rfl)]
  rw [hv 35 (by kernel_rfl)]
  rw [hv 36 (by kernel_rfl)]
  rw [hv 37 (by kernel_rfl)]
  rw [hv 38 (by kernel_rfl)]
  rw [hv 39 (by kernel_rfl)]
  rw [hv 40 (by kernel_rfl)]
  rw [hv 41 (by kernel_rfl)]
  rw [hv 42 (by kernel_rfl)]
  rw [hv 43 (by kernel_rfl)]
  rw [hv 44 (by kernel_rfl)]
  rw [hv 45 (by kernel_rfl)]
  rw [hv 46 (by kernel_rfl)]
  rw [hv 47 (by kernel_rfl)]
  rw [hv 48 (by kernel_rfl)]
  rw [hv 49 (by kernel_rfl)]
  rw [hv 50 (by kernel_rfl)]
  rw [hv 51 (by kernel_rfl)]
  rw [hv 52 (by kernel_rfl)]
  rw [hv 53 (by kernel_rfl)]
  rw [hv 54 (by kernel_rfl)]
  rw [hv 55 (by kernel_rfl)]
  rw [hv 56 (by kernel_rfl)]
  rw [hv 57 (by kernel_rfl)]
  rw [hv 58 (by kernel_rfl)]
  rw [hv 59 (by kernel_rfl)]
  rw [hv 60 (by kernel_rfl)]
  rw [hv 61 (by kernel_rfl)]
  rw [hv 62 (by kernel_rfl)]
  rw [hv 63 (by kernel_rfl)]
  rw [hv 64 (by kernel_rfl)]
  rw [hv 65 (by kernel_rfl)]
  rw [hv 66 (by kernel_rfl)]
  rw [hv 67 (by kernel_rfl)]
  rw [hv 68 (by kernel_rfl)]
  rw [hv 69 (by kernel_rfl)]
  rw [hv 70 (by kernel_rfl)]
  rw [hv 71 (by kernel_rfl)]
  rw [hv 72 (by kernel_rfl)]
  rw [hv 73 (by kernel_rfl)]
  rw [hv 74 (by kernel_rfl)]
  rw [hv 75 (by kernel_rfl)]
  rw [hv 76 (by kernel_rfl)]
  rw [show T.getD 77 undef = (.pointer (some ⟨xb, xo, none⟩)) from hf 0 (by decide)]
  rw [show T.getD 78 undef = (.pointer (some ⟨xb, xo, none⟩)) from hf 1 (by decide)]
  rw [show T.getD 79 undef = (.pointer (some ⟨xb, xo + 3, none⟩)) from hf 2 (by decide)]
  rw [show T.getD 80 undef = (.pointer (some ⟨ab, ao, none⟩)) from hf 3 (by decide)]
  rw [show T.getD 81 undef = (.pointer (some ⟨xb, xo, none⟩)) from hf 4 (by decide)]
  rw [show T.getD 82 undef = (.pointer (some ⟨xb, xo, none⟩)) from hf 5 (by decide)]
  rw [show T.getD 83 undef = (.pointer (some ⟨xb, xo + 3, none⟩)) from hf 6 (by decide)]
  rw [show T.getD 84 undef = (.pointer (some ⟨ab, ao, none⟩)) from hf 7 (by decide)]
  rw [show T.getD 85 undef = (.bool (lowE a)) from hf 8 (by decide)]
  rw [show T.getD 86 undef = (.string (strB PA)) from hf 9 (by decide)]
  rw [show T.getD 87 undef = (.string (strB T1)) from hf 10 (by decide)]
  rw [show T.getD 88 undef = (.string ⟨#[47]⟩) from hf 11 (by decide)]
  rw [show T.getD 89 undef = (.string (strB T2)) from hf 12 (by decide)]
  rw [show T.getD 90 undef = (.string (strB T3)) from hf 13 (by decide)]
  rw [show T.getD 91 undef = (.pointer (some ⟨xb, xo, none⟩)) from hf 14 (by decide)]
  rw [show T.getD 92 undef = (.pointer (some ⟨xb, xo, none⟩)) from hf 15 (by decide)]
  rw [show T.getD 93 undef = (.pointer (some ⟨xb, xo + 4, none⟩)) from hf 16 (by decide)]
  rw [show T.getD 94 undef = (.pointer (some ⟨cb, co, none⟩)) from hf 17 (by decide)]
  rw [show T.getD 95 undef = (.pointer (some ⟨xb, xo, none⟩)) from hf 18 (by decide)]
  rw [show T.getD 96 undef = (.pointer (some ⟨xb, xo, none⟩)) from hf 19 (by decide)]
  rw [show T.getD 97 undef = (.pointer (some ⟨xb, xo + 4, none⟩)) from hf 20 (by decide)]
  rw [show T.getD 98 undef = (.pointer (some ⟨cb, co, none⟩)) from hf 21 (by decide)]
  rw [show T.getD 99 undef = (.bool true) from hf 22 (by decide)]
  rw [show T.getD 100 undef = (.bool true) from hf 23 (by decide)]
  rw [show T.getD 101 undef = undef from hf 24 (by decide)]
  rw [show T.getD 102 undef = undef from hf 25 (by decide)]
  rw [show T.getD 103 undef = undef from hf 26 (by decide)]
  rw [show T.getD 104 undef = undef from hf 27 (by decide)]
  rw [show T.getD 105 undef = undef from hf 28 (by decide)]
  rw [show T.getD 106 undef = (.bool true) from hf 29 (by decide)]
  rw [show T.getD 107 undef = (.string (strB PC)) from hf 30 (by decide)]
  rw [show T.getD 108 undef = (.string (strB TX)) from hf 31 (by decide)]
  clear hf hs hv hcur
  simp only [getD_toArray, List.getD_cons_succ, List.getD_cons_zero]
  clear T
  have hb9 := hide ((hun.out.then hu).below (Nat.le_refl _) fun _ h => h.elim)
  clear hu
  go_wp2_with fail
  go_ret
  exact ⟨rfl, hb9.out⟩
set_option maxRecDepth 100000 in
set_option maxHeartbeats 1600000 in
theorem ex6_bin5f (a c : Ex) (hA : Ex6 a) (hC : Ex6 c) (x : Value) (wa : World) (S : Nat → Prop) (hx : ExA wa S (.bin 5 a c) x) (hw : WfX (.bin 5 a c)) (hl : (exT (.bin 5 a c)).length ≤ 1000000) (hc : lowE c = false) :
    Calls Tryd.prog 10 #[x] wa fun r w' => r = .returned (.string (strB (exT (.bin 5 a c)))) ∧ Below wa.heap.size wa w' := by
  have hL := fun w' (hu : Upd (fun _ => False) wa w') => low_any (.bin 5 a c) x w' S (hx.same hu)
  rw [show lowE (.bin 5 a c) = false from rfl] at hL
  obtain ⟨xb, xo, va, vc, rfl, ⟨hS, c0, -, -, c3, c4⟩, hxa, hxc⟩ := hx
  obtain ⟨-, -, hwa, hwc⟩ := hw
  have hX : exT (.bin 5 a c) = parT (lowE a) (exT a) ++ [32, 47, 32] ++ parT (highE c) (exT c) := by
    rw [exT, show signT 5 = [32, 47, 32] from rfl]
    congr 2
    · refine congrArg (fun q => parT q (exT a)) ?_
      unfold lowE
      rw [decide_eq_decide]
      show bindE a < 1 ↔ _
      omega
    · unfold lowE at hc
      have := of_decide_eq_false hc
      unfold highE
      rw [decide_eq_decide]
      show _ < 1 + 1 ↔ _
      omega
  rw [hX] at hl ⊢
  rw [List.length_append, List.length_append] at hl
  have hla : (exT a).length ≤ 1000000 := by
    have : (exT a).length ≤ (parT (lowE a) (exT a)).length := by unfold parT; split <;> simp <;> omega
    omega
  have hlc : (exT c).length ≤ 1000000 := by
    have : (exT c).length ≤ (parT (highE c) (exT c)).length := by unfold parT; split <;> simp <;> omega
    omega
  have hPA := hide (fun w' (hu : Upd (fun _ => False) wa w') => part_of a hA (lowE a) va w' S (hxa.same hu) hwa hla)
  have hPC := hide (fun w' (hu : Upd (fun _ => False) wa w') => part_of c hC (highE c) vc w' S (hxc.same hu) hwc hlc)
  have hLA := hide (fun w' (hu : Upd (fun _ => False) wa w') => low_any a va w' S (hxa.same hu))
  have hLC := hide (fun w' (hu : Upd (fun _ => False) wa w') => low_any c vc w' S (hxc.same hu))
  have hHC := hide (fun w' (hu : Upd (fun _ => False) wa w') => high_any c vc w' S (hxc.same hu))
  replace hL := hide hL
  rw [hc] at hLC
  obtain ⟨ab, ao, rfl⟩ := hxa.ptr
  obtain ⟨cb, co, rfl⟩ := hxc.ptr
  clear hX hwa hwc hxa hxc hla hlc hA hC
  generalize parT (lowE a) (exT a) = PA at *
  generalize parT (highE c) (exT c) = PC at *
  obtain ⟨T1, e1⟩ : ∃ T, T = PA ++ [32] := ⟨_, rfl⟩
  obtain ⟨T2, e2⟩ : ∃ T, T = T1 ++ [47] := ⟨_, rfl⟩
  obtain ⟨T3, e3⟩ : ∃ T, T = T2 ++ [32] := ⟨_, rfl⟩
  obtain ⟨TX, e4⟩ : ∃ T, T = T3 ++ PC := ⟨_, rfl⟩
  have hT : PA ++ [32, 47, 32] ++ PC = TX := by rw [e4, e3, e2, e1]; simp
  rw [hT]
  have l1 : T1.length = PA.length + 1 := by rw [e1, List.length_append]; rfl
  have l2 : T2.length = PA.length + 2 := by rw [e2, List.length_append, l1]; rfl
  have l3 : T3.length = PA.length + 3 := by rw [e3, List.length_append, l2]; rfl
  have h1 := hide (fun w => by rw [e1]; exact str_add PA [32] (by show _ + 1 ≤ _; omega) w : ∀ w, (Op.stringOp .add (strB PA) ⟨#[32]⟩).run Tryd.prog w = .ok (.string (strB T1)) w)
  have h2 := hide (fun w => by rw [e2]; exact str_add T1 [47] (by show _ + 1 ≤ _; omega) w : ∀ w, (Op.stringOp .add (strB T1) ⟨#[47]⟩).run Tryd.prog w = .ok (.string (strB T2)) w)
  have h3 := hide (fun w => by rw [e3]; exact str_add T2 [32] (by show _ + 1 ≤ _; omega) w : ∀ w, (Op.stringOp .add (strB T2) ⟨#[32]⟩).run Tryd.prog w = .ok (.string (strB T3)) w)
  have h4 := hide (fun w => by rw [e4]; exact str_add T3 PC (by omega) w : ∀ w, (Op.stringOp .add (strB T3) (strB PC)).run Tryd.prog w = .ok (.string (strB TX)) w)
  clear hT e1 e2 e3 e4 l1 l2 l3 hl hS
  have c0n := fun o => (Upd.alloc (fun _ => False) wa o).cell c0 id
  have c3w := hide c3
  have c4w := hide c4
  clear c3 c4
  go_enter Tryd.func10, Tryd.ntmps10
  go_wp2_with fail
  generalize hwn : World.alloc wa _ = wn
  have hun : Upd (fun _ => False) wa wn := hwn ▸ .alloc _ _ _
  refine (hL.out wn hun).mono ?_
  rintro r w1 ⟨rfl, rfl⟩
  go_wp2_with fail
  have c3 := hide (hun.cell c3w.out id)
  have c4 := hide (hun.cell c4w.out id)
  replace hun := hide hun
  clear c0 c0n hwn c3w c4w
  refine wp_region_flow (fun _ => False) (factAt [(fun v _ => v = (.pointer (some ⟨xb, xo, none⟩))), (fun v _ => v = (.pointer (some ⟨xb, xo, none⟩))), (fun v _ => v = (.pointer (some ⟨xb, xo + 3, none⟩))), (fun v _ => v = (.pointer (some ⟨ab, ao, none⟩))), (fun v _ => v = (.pointer (some ⟨xb, xo, none⟩))), (fun v _ => v = (.pointer (some ⟨xb, xo, none⟩))), (fun v _ => v = (.pointer (some ⟨xb, xo + 3, none⟩))), (fun v _ => v = (.pointer (some ⟨ab, ao, none⟩))), (fun v _ => v = (.bool (lowE a))), (fun v _ => v = (.string (strB PA))), (fun v _ => v = (.string (strB T1))), (fun v _ => v = (.string ⟨#[47]⟩)), (fun v _ => v = (.string (strB T2))), (fun v _ => v = (.string (strB T3))), (fun v _ => v = (.pointer (some ⟨xb, xo, none⟩))), (fun v _ => v = (.pointer (some ⟨xb, xo, none⟩))), (fun v _ => v = (.pointer (some ⟨xb, xo + 4, none⟩))), (fun v _ => v = (.pointer (some ⟨cb, co, none⟩))), (fun v _ => v = (.pointer (some ⟨xb, xo, none⟩))), (fun v _ => v = (.pointer (some ⟨xb, xo, none⟩))), (fun v _ => v = (.pointer (some ⟨xb, xo + 4, none⟩))), (fun v _ => v = (.pointer (some ⟨cb, co, none⟩))), (fun v _ => v = (.bool false)), (fun v _ => v = (.bool false)), (fun v _ => v = (.pointer (some ⟨xb, xo, none⟩))), (fun v _ => v = (.pointer (some ⟨xb, xo, none⟩))), (fun v _ => v = (.pointer (some ⟨xb, xo + 4, none⟩))), (fun v _ => v = (.pointer (some ⟨cb, co, none⟩))), (fun v _ => v = (.bool (highE c))), (fun v _ => v = (.bool (highE c))), (fun v _ => v = (.string (strB PC))), (fun v _ => v = (.string (strB TX))), (fun v _ => v = (.string (strB TX)))]) [] (fun _ => True) (by kernel_rfl) (fkept_at ⟨FKept.eq _, FKept.eq _, FKept.eq _, FKept.eq _, FKept.eq _, FKept.eq _, FKept.eq _, FKept.eq _, FKept.eq _, FKept.eq _, FKept.eq _, FKept.eq _, FKept.eq _, FKept.eq _, FKept.eq _, FKept.eq _, FKept.eq _, FKept.eq _, FKept.eq _, FKept.eq _, FKept.eq _, FKept.eq _, FKept.eq _, FKept.eq _, FKept.eq _, FKept.eq _, FKept.eq _, FKept.eq _, FKept.eq _, FKept.eq _, FKept.eq _, FKept.eq _, FKept.eq _, trivial⟩) (fun _ _ h _ => h) trivial (by kernel_rfl) (by kernel_rfl) (by kernel_rfl) (by kernel_rfl) (Nat.le_of_ble_eq_true (by kernel_rfl)) ?_ ⟨?_, ?_, ?_, ?_, ?_, ?_, ?_, ?_, ?_, ?_, ?_, ?_, ?_, ?_, ?_, ?_, ?_, ?_, ?_, ?_, ?_, ?_, ?_, ?_, ?_, ?_, ?_, ?_, ?_, ?_, ?_, ?_, ?_, trivial⟩ ?_
  · first | exact trivial | assumption
  · intro T w Q hu hs hv hw hd
    have hx0 : T.getD 0 undef = (.pointer (some ⟨xb, xo, none⟩)) := hv 0 (by kernel_rfl)
    refine .inl ⟨wanted_none rfl, ?_⟩
    clear hd hv hu hs hw
    go_simp
    exact ⟨_, rfl, DstOk.some rfl, Below.refl _ _, rfl⟩
  · intro T w Q hu hs hv hw hd
    have hx77 : T.getD 77 undef = (.pointer (some ⟨xb, xo, none⟩)) := Deps.at 0 hd (by kernel_rfl)
    refine .inl ⟨wanted_none rfl, ?_⟩
    clear hd hv hu hs hw
    go_simp
    exact ⟨_, rfl, DstOk.some rfl, Below.refl _ _, rfl⟩
  · intro T w Q hu hs hv hw hd
    have hx78 : T.getD 78 undef = (.pointer (some ⟨xb, xo, none⟩)) := Deps.at 1 hd (by kernel_rfl)
    refine .inl ⟨wanted_none rfl, ?_⟩
    clear hd hv hu hs hw
    go_simp
    exact ⟨_, rfl, DstOk.some rfl, Below.refl _ _, rfl⟩
  · intro T w Q hu hs hv hw hd
    have hx79 : T.getD 79 undef = (.pointer (some ⟨xb, xo + 3, none⟩)) := Deps.at 2 hd (by kernel_rfl)
    refine .inl ⟨wanted_none rfl, ?_⟩
    have hq := hu.cell c3.out id
    clear hd hv hu hs hw
    go_simp
    exact ⟨_, rfl, DstOk.some rfl, Below.refl _ _, rfl⟩
  · intro T w Q hu hs hv hw hd
    have hx0 : T.getD 0 undef = (.pointer (some ⟨xb, xo, none⟩)) := hv 0 (by kernel_rfl)
    refine .inl ⟨wanted_none rfl, ?_⟩
    clear hd hv hu hs hw
    go_simp
    exact ⟨_, rfl, DstOk.some rfl, Below.refl _ _, rfl⟩
  · intro T w Q hu hs hv hw hd
    have hx81 : T.getD 81 undef = (.pointer (some ⟨xb, xo, none⟩)) := Deps.at 4 hd (by kernel_rfl)
    refine .inl ⟨wanted_none rfl, ?_⟩
    clear hd hv hu hs hw
    go_simp
    exact ⟨_, rfl, DstOk.some rfl, Below.refl _ _, rfl⟩
  · intro T w Q hu hs hv hw hd
    have hx82 : T.getD 82 undef = (.pointer (some ⟨xb, xo, none⟩)) := Deps.at 5 hd (by kernel_rfl)
    refine .inl ⟨wanted_none rfl, ?_⟩
    clear hd hv hu hs hw
    go_simp
    exact ⟨_, rfl, DstOk.some rfl, Below.refl _ _, rfl⟩
  · intro T w Q hu hs hv hw hd
    have hx83 : T.getD 83 undef = (.pointer (some ⟨xb, xo + 3, none⟩)) := Deps.at 6 hd (by kernel_rfl)
    refine .inl ⟨wanted_none rfl, ?_⟩
    have hq := hu.cell c3.out id
    clear hd hv hu hs hw
    go_simp
    exact ⟨_, rfl, DstOk.some rfl, Below.refl _ _, rfl⟩
  · intro T w Q hu hs hv hw hd
    have hx84 : T.getD 84 undef = (.pointer (some ⟨ab, ao, none⟩)) := Deps.at 7 hd (by kernel_rfl)
    refine .inl ⟨wanted_none rfl, ?_⟩
    have hN := hLA.out w (hun.out.then hu)
    clear hd hv hu hs hw
    go_simp
    refine hN.mono ?_
    rintro e w5 ⟨rfl, rfl⟩
    exact ⟨_, rfl, DstOk.some rfl, Below.refl _ _, rfl⟩
  · intro T w Q hu hs hv hw hd
    have hx80 : T.getD 80 undef = (.pointer (some ⟨ab, ao, none⟩)) := Deps.at 3 hd (by kernel_rfl)
    have hx85 : T.getD 85 undef = (.bool (lowE a)) := Deps.at 8 hd (by kernel_rfl)
    refine .inl ⟨wanted_none rfl, ?_⟩
    have hN := hPA.out w (hun.out.then hu)
    clear hd hv hu hs hw
    go_simp
    refine hN.mono ?_
    rintro e w5 ⟨rfl, hb⟩
    exact ⟨_, rfl, DstOk.some rfl, hb, rfl⟩
  · intro T w Q hu hs hv hw hd
    have hx86 : T.getD 86 undef = (.string (strB PA)) := Deps.at 9 hd (by kernel_rfl)
    refine .inl ⟨wanted_none rfl, ?_⟩
    have hC := h1.out w
    clear hd hv hu hs hw
    unfold strB at *
    go_simp
    exact ⟨_, rfl, DstOk.some rfl, Below.refl _ _, rfl⟩
  · intro T w Q hu hs hv hw hd
    have hx3 : T.getD 3 undef = (.string ⟨#[47]⟩) := hv 3 (by kernel_rfl)
    refine .inl ⟨wanted_none rfl, ?_⟩
    clear hd hv hu hs hw
    go_simp
    exact ⟨_, rfl, DstOk.some rfl, Below.refl _ _, rfl⟩
  · intro T w Q hu hs hv hw hd
    have hx87 : T.getD 87 undef = (.string (strB T1)) := Deps.at 10 hd (by kernel_rfl)
    have hx88 : T.getD 88 undef = (.string ⟨#[47]⟩) := Deps.at 11 hd (by kernel_rfl)
    refine .inl ⟨wanted_none rfl, ?_⟩
    have hC := h2.out w
    clear hd hv hu hs hw
    unfold strB at *
    go_simp
    exact ⟨_, rfl, DstOk.some rfl, Below.refl _ _, rfl⟩
  · intro T w Q hu hs hv hw hd
    have hx89 : T.getD 89 undef = (.string (strB T2)) := Deps.at 12 hd (by kernel_rfl)
    refine .inl ⟨wanted_none rfl, ?_⟩
    have hC := h3.out w
    clear hd hv hu hs hw
    unfold strB at *
    go_simp
    exact ⟨_, rfl, DstOk.some rfl, Below.refl _ _, rfl⟩
  · intro T w Q hu hs hv hw hd
    have hx0 : T.getD 0 undef = (.pointer (some ⟨xb, xo, none⟩)) := hv 0 (by kernel_rfl)
    refine .inl ⟨wanted_none rfl, ?_⟩
    clear hd hv hu hs hw
    go_simp
    exact ⟨_, rfl, DstOk.some rfl, Below.refl _ _, rfl⟩
  · intro T w Q hu hs hv hw hd
    have hx91 : T.getD 91 undef = (.pointer (some ⟨xb, xo, none⟩)) := Deps.at 14 hd (by kernel_rfl)
    refine .inl ⟨wanted_none rfl, ?_⟩
    clear hd hv hu hs hw
    go_simp
    exact ⟨_, rfl, DstOk.some rfl, Below.refl _ _, rfl⟩
  · intro T w Q hu hs hv hw hd
    have hx92 : T.getD 92 undef = (.pointer (some ⟨xb, xo, none⟩)) := Deps.at 15 hd (by kernel_rfl)
    refine .inl ⟨wanted_none rfl, ?_⟩
    clear hd hv hu hs hw
    go_simp
    exact ⟨_, rfl, DstOk.some rfl, Below.refl _ _, rfl⟩
  · intro T w Q hu hs hv hw hd
    have hx93 : T.getD 93 undef = (.pointer (some ⟨xb, xo + 4, none⟩)) := Deps.at 16 hd (by kernel_rfl)
    refine .inl ⟨wanted_none rfl, ?_⟩
    have hq := hu.cell c4.out id
    clear hd hv hu hs hw
    go_simp
    exact ⟨_, rfl, DstOk.some rfl, Below.refl _ _, rfl⟩
  · intro T w Q hu hs hv hw hd
    have hx0 : T.getD 0 undef = (.pointer (some ⟨xb, xo, none⟩)) := hv 0 (by kernel_rfl)
    refine .inl ⟨wanted_none rfl, ?_⟩
    clear hd hv hu hs hw
    go_simp
    exact ⟨_, rfl, DstOk.some rfl, Below.refl _ _, rfl⟩
  · intro T w Q hu hs hv hw hd
    have hx95 : T.getD 95 undef = (.pointer (some ⟨xb, xo, none⟩)) := Deps.at 18 hd (by kernel_rfl)
    refine .inl ⟨wanted_none rfl, ?_⟩
    clear hd hv hu hs hw
    go_simp
    exact ⟨_, rfl, DstOk.some rfl, Below.refl _ _, rfl⟩
  · intro T w Q hu hs hv hw hd
    have hx96 : T.getD 96 undef = (.pointer (some ⟨xb, xo, none⟩)) := Deps.at 19 hd (by kernel_rfl)
    refine .inl ⟨wanted_none rfl, ?_⟩
    clear hd hv hu hs hw
    go_simp
    exact ⟨_, rfl, DstOk.some rfl, Below.refl _ _, rfl⟩
  · intro T w Q hu hs hv hw hd
    have hx97 : T.getD 97 undef = (.pointer (some ⟨xb, xo + 4, none⟩)) := Deps.at 20 hd (by kernel_rfl)
    refine .inl ⟨wanted_none rfl, ?_⟩
    have hq := hu.cell c4.out id
    clear hd hv hu hs hw
    go_simp
    exact ⟨_, rfl, DstOk.some rfl, Below.refl _ _, rfl⟩
  · intro T w Q hu hs hv hw hd
    have hx98 : T.getD 98 undef = (.pointer (some ⟨cb, co, none⟩)) := Deps.at 21 hd (by kernel_rfl)
    refine .inl ⟨wanted_none rfl, ?_⟩
    have hN := hLC.out w (hun.out.then hu)
    clear hd hv hu hs hw
    go_simp
    refine hN.mono ?_
    rintro e w5 ⟨rfl, rfl⟩
    exact ⟨_, rfl, DstOk.some rfl, Below.refl _ _, rfl⟩
  · intro T w Q hu hs hv hw hd
    have hx99 : T.getD 99 undef = (.bool false) := Deps.at 22 hd (by kernel_rfl)
    refine .inl ⟨wanted_none rfl, ?_⟩
    clear hd hv hu hs hw
    go_simp
    exact ⟨_, rfl, DstOk.some rfl, Below.refl _ _, rfl⟩
  · intro T w Q hu hs hv hw hd
    have hx0 : T.getD 0 undef = (.pointer (some ⟨xb, xo, none⟩)) := hv 0 (by kernel_rfl)
    refine .inl ⟨wanted_some rfl (Deps.at 23 hd (by kernel_rfl) : slotOf _ T 23 = .bool false), ?_⟩
    clear hd hv hu hs hw
    go_simp
    exact ⟨_, rfl, DstOk.some rfl, Below.refl _ _, rfl⟩
  · intro T w Q hu hs hv hw hd
    have hx101 : T.getD 101 undef = (.pointer (some ⟨xb, xo, none⟩)) := Deps.at 24 hd (by kernel_rfl)
    refine .inl ⟨wanted_some rfl (Deps.at 23 hd (by kernel_rfl) : slotOf _ T 23 = .bool false), ?_⟩
    clear hd hv hu hs hw
    go_simp
    exact ⟨_, rfl, DstOk.some rfl, Below.refl _ _, rfl⟩
  · intro T w Q hu hs hv hw hd
    have hx102 : T.getD 102 undef = (.pointer (some ⟨xb, xo, none⟩)) := Deps.at 25 hd (by kernel_rfl)
    refine .inl ⟨wanted_some rfl (Deps.at 23 hd (by kernel_rfl) : slotOf _ T 23 = .bool false), ?_⟩
    clear hd hv hu hs hw
    go_simp
    exact ⟨_, rfl, DstOk.some rfl, Below.refl _ _, rfl⟩
  · intro T w Q hu hs hv hw hd
    have hx103 : T.getD 103 undef = (.pointer (some ⟨xb, xo + 4, none⟩)) := Deps.at 26 hd (by kernel_rfl)
    refine .inl ⟨wanted_some rfl (Deps.at 23 hd (by kernel_rfl) : slotOf _ T 23 = .bool false), ?_⟩
    have hq := hu.cell c4.out id
    clear hd hv hu hs hw
    go_simp
    exact ⟨_, rfl, DstOk.some rfl, Below.refl _ _, rfl⟩
  · intro T w Q hu hs hv hw hd
    have hx104 : T.getD 104 undef = (.pointer (some ⟨cb, co, none⟩)) := Deps.at 27 hd (by kernel_rfl)
    refine .inl ⟨wanted_some rfl (Deps.at 23 hd (by kernel_rfl) : slotOf _ T 23 = .bool false), ?_⟩
    have hN := hHC.out w (hun.out.then hu)
    clear hd hv hu hs hw
    go_simp
    refine hN.mono ?_
    rintro e w5 ⟨rfl, rfl⟩
    exact ⟨_, rfl, DstOk.some rfl, Below.refl _ _, rfl⟩
  · intro T w Q hu hs hv hw hd
    have hx100 : T.getD 100 undef = (.bool false) := Deps.at 23 hd (by kernel_rfl)
    have hx105 : T.getD 105 undef = (.bool (highE c)) := Deps.at 28 hd (by kernel_rfl)
    refine .inl ⟨wanted_none rfl, ?_⟩
    clear hd hv hu hs hw
    go_simp
    exact ⟨_, rfl, DstOk.some rfl, Below.refl _ _, rfl⟩
  · intro T w Q hu hs hv hw hd
    have hx94 : T.getD 94 undef = (.pointer (some ⟨cb, co, none⟩)) := Deps.at 17 hd (by kernel_rfl)
    have hx106 : T.getD 106 undef = (.bool (highE c)) := Deps.at 29 hd (by kernel_rfl)
    refine .inl ⟨wanted_none rfl, ?_⟩
    have hN := hPC.out w (hun.out.then hu)
    clear hd hv hu hs hw
    go_simp
    refine hN.mono ?_
    rintro e w5 ⟨rfl, hb⟩
    exact ⟨_, rfl, DstOk.some rfl, hb, rfl⟩
  · intro T w Q hu hs hv hw hd
    have hx90 : T.getD 90 undef = (.string (strB T3)) := Deps.at 13 hd (by kernel_rfl)
    have hx107 : T.getD 107 undef = (.string (strB PC)) := Deps.at 30 hd (by kernel_rfl)
    refine .inl ⟨wanted_none rfl, ?_⟩
    have hC := h4.out w
    clear hd hv hu hs hw
    unfold strB at *
    go_simp
    exact ⟨_, rfl, DstOk.some rfl, Below.refl _ _, rfl⟩
  · intro T w Q hu hs hv hw hd
    have hx108 : T.getD 108 undef = (.string (strB TX)) := Deps.at 31 hd (by kernel_rfl)
    refine .inl ⟨wanted_none rfl, ?_⟩
    clear hd hv hu hs hw
    go_simp
    exact ⟨_, rfl, DstOk.some rfl, Below.refl _ _, rfl⟩
  intro T w hu hs hv hf hcur
  have hT : T = #[T.getD 0 undef, T.getD 1 undef, T.getD 2 undef, T.getD 3 undef, T.getD 4 undef, T.getD 5 undef, T.getD 6 undef, T.getD 7 undef, T.getD 8 undef, T.getD 9 undef, T.getD 10 undef, T.getD 11 undef, T.getD 12 undef, T.getD 13 undef, T.getD 14 undef, T.getD 15 undef, T.getD 16 undef, T.getD 17 undef, T.getD 18 undef, T.getD 19 undef, T.getD 20 undef, T.getD 21 undef, T.getD 22 undef, T.getD 23 undef, T.getD 24 undef, T.getD 25 undef, T.getD 26 undef, T.getD 27 undef, T.getD 28 undef, T.getD 29 undef, T.getD 30 undef, T.getD 31 undef, T.getD 32 undef, T.getD 33 undef, T.getD 34 undef, T.getD 35 undef, T.getD 36 undef, T.getD 37 undef, T.getD 38 undef, T.getD 39 undef, T.getD 40 undef, T.getD 41 undef, T.getD 42 undef, T.getD 43 undef, T.getD 44 undef, T.getD 45 undef, T.getD 46 undef, T.getD 47 undef, T.getD 48 undef, T.getD 49 undef, T.getD 50 undef, T.getD 51 undef, T.getD 52 undef, T.getD 53 undef, T.getD 54 undef, T.getD 55 undef, T.getD 56 undef, T.getD 57 undef, T.getD 58 undef, T.getD 59 undef, T.getD 60 undef, T.getD 61 undef, T.getD 62 undef, T.getD 63 undef, T.getD 64 undef, T.getD 65 undef, T.getD 66 undef, T.getD 67 undef, T.getD 68 undef, T.getD 69 undef, T.getD 70 undef, T.getD 71 undef, T.getD 72 undef, T.getD 73 undef, T.getD 74 undef, T.getD 75 undef, T.getD 76 undef, T.getD 77 undef, T.getD 78 undef, T.getD 79 undef, T.getD 80 undef, T.getD 81 undef, T.getD 82 undef, T.getD 83 undef, T.getD 84 undef, T.getD 85 undef, T.getD 86 undef, T.getD 87 undef, T.getD 88 undef, T.getD 89 undef, T.getD 90 undef, T.getD 91 undef, T.getD 92 undef, T.getD 93 undef, T.getD 94 undef, T.getD 95 undef, T.getD 96 undef, T.getD 97 undef, T.getD 98 undef, T.getD 99 undef, T.getD 100 undef, T.getD 101 undef, T.getD 102 undef, T.getD 103 undef, T.getD 104 undef, T.getD 105 undef, T.getD 106 undef, T.getD 107 undef, T.getD 108 undef] := expl hs
  rw [hT]
  clear hT
  rw [show T.getD 0 undef = (.pointer (some ⟨xb, xo, none⟩)) from hv 0 (by kernel_rfl)]
  rw [hv 1 (by kernel_rfl)]
  rw [show T.getD 2 undef = (.string (strB TX)) from hf 32 (by decide)]
  rw [hv 3 (by kernel_rfl)]
  rw [hv 4 (by kernel_rfl)]
  rw [hv 5 (by kernel_rfl)]
  rw [hv 6 (by kernel_rfl)]
  rw [hv 7 (by kernel_rfl)]
  rw [hv 8 (by kernel_rfl)]
  rw [hv 9 (by kernel_rfl)]
  rw [hv 10 (by kernel_rfl)]
  rw [hv 11 (by kernel_rfl)]
  rw [hv 12 (by kernel_rfl)]
  rw [hv 13 (by kernel_rfl)]
  rw [hv 14 (by kernel_rfl)]
  rw [hv 15 (by kernel_rfl)]
  rw [hv 16 (by kernel_rfl)]
  rw [hv 17 (by kernel_rfl)]
  rw [hv 18 (by kernel_rfl)]
  rw [hv 19 (by kernel_rfl)]
  rw [hv 20 (by kernel_rfl)]
  rw [hv 21 (by kernel_rfl)]
  rw [hv 22 (by kernel_rfl)]
  rw [hv 23 (by kernel_rfl)]
  rw [hv 24 (by kernel_rfl)]
  rw [hv 25 (by kernel_rfl)]
  rw [hv 26 (by kernel_rfl)]
  rw [hv 27 (by kernel_rfl)]
  rw [hv 28 (by kernel_rfl)]
  rw [hv 29 (by kernel_rfl)]
  rw [hv 30 (by kernel_rfl)]
  rw [hv 31 (by kernel_rfl)]
  rw [hv 32 (by kernel_rfl)]
  rw [hv 33 (by kernel_rfl)]
  rw [hv 34 (by kernel_rfl)]
  rw [hv 35 (by kernel_rfl)]
  rw [hv 36 (by kernel_rfl)]
  rw [hv 37 (by kernel_rfl)]
  rw [hv 38 (by kernel_rfl)]
  rw [hv 39 (by kernel_rfl)]
  rw [hv 40 (by kernel_rfl)]
  rw [hv 41 (by kernel_rfl)]
  rw [hv 42 (by kernel_rfl)]
  rw [hv 43 (by kernel_rfl)]
  rw [hv 44 (by kernel_rfl)]
  rw [hv 45 (by kernel_rfl)]
  rw [hv 46 (by kernel_rfl)]
  rw [hv 47 (by kernel_rfl)]
  rw [hv 48 (by kernel_rfl)]
  rw [hv 49 (by kernel_rfl)]
  rw [hv 50 (by kernel_rfl)]
  rw [hv 51 (by kernel_rfl)]
  rw [hv 52 (by kernel_rfl)]
  rw [hv 53 (by kernel_rfl)]
  rw [hv 54 (by kernel_rfl)]
  rw [hv 55 (by kernel_rfl)]
  rw [hv 56 (by kernel_rfl)]
  rw [hv 57 (by kernel_rfl)]
  rw [hv 58 (by kernel_rfl)]
  rw [hv 59 (by kernel_rfl)]
  rw [hv 60 (by kernel_rfl)]
  rw [hv 61 (by kernel_rfl)]
  rw [hv 62 (by kernel_rfl)]
  rw [hv 63 (by kernel_rfl)]
  rw [hv 64 (by kernel_rfl)]
  rw [hv 65 (by kernel_rfl)]
  rw [hv 66 (by kernel_rfl)]
  rw [hv 67 (by kernel_rfl)]
  rw [hv 68 (by kernel_rfl)]
  rw [hv 69 (by kernel_rfl)]
  rw [hv 70 (by kernel_rfl)]
  rw [hv 71 (by kernel_rfl)]
  rw [hv 72 (by kernel_rfl)]
  rw [hv 73 (by kernel_rfl)]
  rw [hv 74 (by kernel_rfl)]
  rw [hv 75 (by kernel_rfl)]
  rw [hv 76 (by kernel_rfl)]
  rw [show T.getD 77 undef = (.pointer (some ⟨xb, xo, none⟩)) from hf 0 (by decide)]
  rw [show T.getD 78 undef = (.pointer (some ⟨xb, xo, none⟩)) from hf 1 (by decide)]
  rw [show T.getD 79 undef = (.pointer (some ⟨xb, xo + 3, none⟩)) from hf 2 (by decide)]
  rw [show T.getD 80 undef = (.pointer (some ⟨ab, ao, none⟩)) from hf 3 (by decide)]
  rw [show T.getD 81 undef = (.pointer (some ⟨xb, xo, none⟩)) from hf 4 (by decide)]
  rw [show T.getD 82 undef = (.pointer (some ⟨xb, xo, none⟩)) from hf 5 (by decide)]
  rw [show T.getD 83 undef = (.pointer (some ⟨xb, xo + 3, none⟩)) from hf 6 (by decide)]
  rw [show T.getD 84 undef = (.pointer (some ⟨ab, ao, none⟩)) from hf 7 (by decide)]
  rw [show T.getD 85 undef = (.bool (lowE a)) from hf 8 (by decide)]
  rw [show T.getD 86 undef = (.string (strB PA)) from hf 9 (by decide)]
  rw [show T.getD 87 undef = (.string (strB T1)) from hf 10 (by decide)]
  rw [show T.getD 88 undef = (.string ⟨#[47]⟩) from hf 11 (by decide)]
  rw [show T.getD 89 undef = (.string (strB T2)) from hf 12 (by decide)]
  rw [show T.getD 90 undef = (.string (strB T3)) from hf 13 (by decide)]
  rw [show T.getD 91 undef = (.pointer (some ⟨xb, xo, none⟩)) from hf 14 (by decide)]
  rw [show T.getD 92 undef = (.pointer (some ⟨xb, xo, none⟩)) from hf 15 (by decide)]
  rw [show T.getD 93 undef = (.pointer (some ⟨xb, xo + 4, none⟩)) from hf 16 (by decide)]
  rw [show T.getD 94 undef = (.pointer (some ⟨cb, co, none⟩)) from hf 17 (by decide)]
  rw [show T.getD 95 undef = (.pointer (some ⟨xb, xo, none⟩)) from hf 18 (by decide)]
  rw [show T.getD 96 undef = (.pointer (some ⟨xb, xo, none⟩)) from hf 19 (by decide)]
  rw [show T.getD 97 undef = (.pointer (some ⟨xb, xo + 4, none⟩)) from hf 20 (by decide)]
  rw [show T.getD 98 undef = (.pointer (some ⟨cb, co, none⟩)) from hf 21 (by decide)]
  rw [show T.getD 99 undef = (.bool false) from hf 22 (by decide)]
  rw [show T.getD 100 undef = (.bool false) from hf 23 (by decide)]
  rw [show T.getD 101 undef = (.pointer (some ⟨xb, xo, none⟩)) from hf 24 (by decide)]
  rw [show T.getD 102 undef = (.pointer (some ⟨xb, xo, none⟩)) from hf 25 (by decide)]
  rw [show T.getD 103 undef = (.pointer (some ⟨xb, xo + 4, none⟩)) from hf 26 (by decide)]
  rw [show T.getD 104 undef = (.pointer (some ⟨cb, co, none⟩)) from hf 27 (by decide)]
  rw [show T.getD 105 undef = (.bool (highE c)) from hf 28 (by decide)]
  rw [show T.getD 106 undef = (.bool (highE c)) from hf 29 (by decide)]
  rw [show T.getD 107 undef = (.string (strB PC)) from hf 30 (by decide)]
  rw [show T.getD 108 undef = (.string (strB TX)) from hf 31 (by decide)]
  clear hf hs hv hcur
  simp only [getD_toArray, List.getD_cons_succ, List.getD_cons_zero]
  clear T
  have hb9 := hide ((hun.out.then hu).below (Nat.le_refl _) fun _ h => h.elim)
  clear hu
  go_wp2_with fail
  go_ret
  exact ⟨rfl, hb9.out⟩
set_option maxRecDepth 100000 in
set_option maxHeartbeats 1600000 in
theorem ex6_bin6t (a c : Ex) (hA : Ex6 a) (hC : Ex6 c) (x : Value) (wa : World) (S : Nat → Prop) (hx : ExA wa S (.bin 6 a c) x) (hw : WfX (.bin 6 a c)) (hl : (exT (.bin 6 a c)).length ≤ 1000000) (hc : lowE c = true) :
    Calls Tryd.prog 10 #[x] wa fun r w' => r = .returned (.string (strB (exT (.bin 6 a c)))) ∧ Below wa.heap.size wa w' := by
  have hL := fun w' (hu : Upd (fun _ => False) wa w') => low_any (.bin 6 a c) x w' S (hx.same hu)
  rw [show lowE (.bin 6 a c) = false from rfl] at hL
  obtain ⟨xb, xo, va, vc, rfl, ⟨hS, c0, -, -, c3, c4⟩, hxa, hxc⟩ := hx
  obtain ⟨-, -, hwa, hwc⟩ := hw
  have hX : exT (.bin 6 a c) = parT (lowE a) (exT a) ++ [32, 37, 32] ++ parT (true) (exT c) := by
    rw [exT, show signT 6 = [32, 37, 32] from rfl]
    congr 2
    · refine congrArg (fun q => parT q (exT a)) ?_
      unfold lowE
      rw [decide_eq_decide]
      show bindE a < 1 ↔ _
      omega
    · unfold lowE at hc
      have := of_decide_eq_true hc
      refine decide_eq_true ?_
      show _ < 1 + 1
      omega
  rw [hX] at hl ⊢
  rw [List.length_append, List.length_append] at hl
  have hla : (exT a).length ≤ 1000000 := by
    have : (exT a).length ≤ (parT (lowE a) (exT a)).length := by unfold parT; split <;> simp <;> omega
    omega
  have hlc : (exT c).length ≤ 1000000 := by
    have : (exT c).length ≤ (parT (true) (exT c)).length := by unfold parT; split <;> simp <;> omega
    omega
  have hPA := hide (fun w' (hu : Upd (fun _ => False) wa w') => part_of a hA (lowE a) va w' S (hxa.same hu) hwa hla)
  have hPC := hide (fun w' (hu : Upd (fun _ => False) wa w') => part_of c hC (true) vc w' S (hxc.same hu) hwc hlc)
  have hLA := hide (fun w' (hu : Upd (fun _ => False) wa w') => low_any a va w' S (hxa.same hu))
  have hLC := hide (fun w' (hu : Upd (fun _ => False) wa w') => low_any c vc w' S (hxc.same hu))
  have hHC := hide (fun w' (hu : Upd (fun _ => False) wa w') => high_any c vc w' S (hxc.same hu))
  replace hL := hide hL
  rw [hc] at hLC
  obtain ⟨ab, ao, rfl⟩ := hxa.ptr
  obtain ⟨cb, co, rfl⟩ := hxc.ptr
  clear hX hwa hwc hxa hxc hla hlc hA hC
  generalize parT (lowE a) (exT a) = PA at *
  generalize parT (true) (exT c) = PC at *
  obtain ⟨T1, e1⟩ : ∃ T, T = PA ++ [32] := ⟨_, rfl⟩
  obtain ⟨T2, e2⟩ : ∃ T, T = T1 ++ [37] := ⟨_, rfl⟩
  obtain ⟨T3, e3⟩ : ∃ T, T = T2 ++ [32] := ⟨_, rfl⟩
  obtain ⟨TX, e4⟩ : ∃ T, T = T3 ++ PC := ⟨_, rfl⟩
  have hT : PA ++ [32, 37, 32] ++ PC = TX := by rw [e4, e3, e2, e1]; simp
  rw [hT]
  have l1 : T1.length = PA.length + 1 := by rw [e1, List.length_append]; rfl
  have l2 : T2.length = PA.length + 2 := by rw [e2, List.length_append, l1]; rfl
  have l3 : T3.length = PA.length + 3 := by rw [e3, List.length_append, l2]; rfl
  have h1 := hide (fun w => by rw [e1]; exact str_add PA [32] (by show _ + 1 ≤ _; omega) w : ∀ w, (Op.stringOp .add (strB PA) ⟨#[32]⟩).run Tryd.prog w = .ok (.string (strB T1)) w)
  have h2 := hide (fun w => by rw [e2]; exact str_add T1 [37] (by show _ + 1 ≤ _; omega) w : ∀ w, (Op.stringOp .add (strB T1) ⟨#[37]⟩).run Tryd.prog w = .ok (.string (strB T2)) w)
  have h3 := hide (fun w => by rw [e3]; exact str_add T2 [32] (by show _ + 1 ≤ _; omega) w : ∀ w, (Op.stringOp .add (strB T2) ⟨#[32]⟩).run Tryd.prog w = .ok (.string (strB T3)) w)
  have h4 := hide (fun w => by rw [e4]; exact str_add T3 PC (by omega) w : ∀ w, (Op.stringOp .add (strB T3) (strB PC)).run Tryd.prog w = .ok (.string (strB TX)) w)
  clear hT e1 e2 e3 e4 l1 l2 l3 hl hS
  have c0n := fun o => (Upd.alloc (fun _ => False) wa o).cell c0 id
  have c3w := hide c3
  have c4w := hide c4
  clear c3 c4
  go_enter Tryd.func10, Tryd.ntmps10
  go_wp2_with fail
  generalize hwn : World.alloc wa _ = wn
  have hun : Upd (fun _ => False) wa wn := hwn ▸ .alloc _ _ _
  refine (hL.out wn hun).mono ?_
  rintro r w1 ⟨rfl, rfl⟩
  go_wp2_with fail
  have c3 := hide (hun.cell c3w.out id)
  have c4 := hide (hun.cell c4w.out id)
  replace hun := hide hun
  clear c0 c0n hwn c3w c4w
  refine wp_region_flow (fun _ => False) (factAt [(fun v _ => v = (.pointer (some ⟨xb, xo, none⟩))), (fun v _ => v = (.pointer (some ⟨xb, xo, none⟩))), (fun v _ => v = (.pointer (some ⟨xb, xo + 3, none⟩))), (fun v _ => v = (.pointer (some ⟨ab, ao, none⟩))), (fun v _ => v = (.pointer (some ⟨xb, xo, none⟩))), (fun v _ => v = (.pointer (some ⟨xb, xo, none⟩))), (fun v _ => v = (.pointer (some ⟨xb, xo + 3, none⟩))), (fun v _ => v = (.pointer (some ⟨ab, ao, none⟩))), (fun v _ => v = (.bool (lowE a))), (fun v _ => v = (.string (strB PA))), (fun v _ => v = (.string (strB T1))), (fun v _ => v = (.string ⟨#[37]⟩)), (fun v _ => v = (.string (strB T2))), (fun v _ => v = (.string (strB T3))), (fun v _ => v = (.pointer (some ⟨xb, xo, none⟩))), (fun v _ => v = (.pointer (some ⟨xb, xo, none⟩))), (fun v _ => v = (.pointer (some ⟨xb, xo + 4, none⟩))), (fun v _ => v = (.pointer (some ⟨cb, co, none⟩))), (fun v _ => v = (.pointer (some ⟨xb, xo, none⟩))), (fun v _ => v = (.pointer (some ⟨xb, xo, none⟩))), (fun v _ => v = (.pointer (some ⟨xb, xo + 4, none⟩))), (fun v _ => v = (.pointer (some ⟨cb, co, none⟩))), (fun v _ => v = (.bool true)), (fun v _ => v = (.bool true)), (fun v _ => v = undef), (fun v _ => v = undef), (fun v _ => v = undef), (fun v _ => v = undef), (fun v _ => v = undef), (fun v _ => v = (.bool true)), (fun v _ => v = (.string (strB PC))), (fun v _ => v = (.string (strB TX))), (fun v _ => v = (.string (strB TX)))]) [] (fun _ => True) (by kernel_rfl) (fkept_at ⟨FKept.eq _, FKept.eq _, FKept.eq _, FKept.eq _, FKept.eq _, FKept.eq _, FKept.eq _, FKept.eq _, FKept.eq _, FKept.eq _, FKept.eq _, FKept.eq _, FKept.eq _, FKept.eq _, FKept.eq _, FKept.eq _, FKept.eq _, FKept.eq _, FKept.eq _, FKept.eq _, FKept.eq _, FKept.eq _, FKept.eq _, FKept.eq _, FKept.eq _, FKept.eq _, FKept.eq _, FKept.eq _, FKept.eq _, FKept.eq _, FKept.eq _, FKept.eq _, FKept.eq _, trivial⟩) (fun _ _ h _ => h) trivial (by kernel_rfl) (by kernel_rfl) (by kernel_rfl) (by kernel_rfl) (Nat.le_of_ble_eq_true (by kernel_rfl)) ?_ ⟨?_, ?_, ?_, ?_, ?_, ?_, ?_, ?_, ?_, ?_, ?_, ?_, ?_, ?_, ?_, ?_, ?_, ?_, ?_, ?_, ?_, ?_, ?_, ?_, ?_, ?_, ?_, ?_, ?_, ?_, ?_, ?_, ?_, trivial⟩ ?_
  · first | exact trivial | assumption
  · intro T w Q hu hs hv hw hd
    have hx0 : T.getD 0 undef = (.pointer (some ⟨xb, xo, none⟩)) := hv 0 (by kernel_rfl)
    refine .inl ⟨wanted_none rfl, ?_⟩
    clear hd hv hu hs hw
    go_simp
    exact ⟨_, rfl, DstOk.some rfl, Below.refl _ _, rfl⟩
  · intro T w Q hu hs hv hw hd
    have hx77 : T.getD 77 undef = (.pointer (some ⟨xb, xo, none⟩)) := Deps.at 0 hd (by kernel_rfl)
    refine .inl ⟨wanted_none rfl, ?_⟩
    clear hd hv hu hs hw
    go_simp
    exact ⟨_, rfl, DstOk.some rfl, Below.refl _ _, rfl⟩
  · intro T w Q hu hs hv hw hd
    have hx78 : T.getD 78 undef = (.pointer (some ⟨xb, xo, none⟩)) := Deps.at 1 hd (by kernel_rfl)
    refine .inl ⟨wanted_none rfl, ?_⟩
    clear hd hv hu hs hw
    go_simp
    exact ⟨_, rfl, DstOk.some rfl, Below.refl _ _, rfl⟩
  · intro T w Q hu hs hv hw hd
    have hx79 : T.getD 79 undef = (.pointer (some ⟨xb, xo + 3, none⟩)) := Deps.at 2 hd (by kernel_rfl)
    refine .inl ⟨wanted_none rfl, ?_⟩
    have hq := hu.cell c3.out id
    clear hd hv hu hs hw
    go_simp
    exact ⟨_, rfl, DstOk.some rfl, Below.refl _ _, rfl⟩
  · intro T w Q hu hs hv hw hd
    have hx0 : T.getD 0 undef = (.pointer (some ⟨xb, xo, none⟩)) := hv 0 (by kernel_rfl)
    refine .inl ⟨wanted_none rfl, ?_⟩
    clear hd hv hu hs hw
    go_simp
    exact ⟨_, rfl, DstOk.some rfl, Below.refl _ _, rfl⟩
  · intro T w Q hu hs hv hw hd
    have hx81 : T.getD 81 undef = (.pointer (some ⟨xb, xo, none⟩)) := Deps.at 4 hd (by kernel_rfl)
    refine .inl ⟨wanted_none rfl, ?_⟩
    clear hd hv hu hs hw
    go_simp
    exact ⟨_, rfl, DstOk.some rfl, Below.refl _ _, rfl⟩
  · intro T w Q hu hs hv hw hd
    have hx82 : T.getD 82 undef = (.pointer (some ⟨xb, xo, none⟩)) := Deps.at 5 hd (by kernel_rfl)
    refine .inl ⟨wanted_none rfl, ?_⟩
    clear hd hv hu hs hw
    go_simp
    exact ⟨_, rfl, DstOk.some rfl, Below.refl _ _, rfl⟩
  · intro T w Q hu hs hv hw hd
    have hx83 : T.getD 83 undef = (.pointer (some ⟨xb, xo + 3, none⟩)) := Deps.at 6 hd (by kernel_rfl)
    refine .inl ⟨wanted_none rfl, ?_⟩
    have hq := hu.cell c3.out id
    clear hd hv hu hs hw
    go_simp
    exact ⟨_, rfl, DstOk.some rfl, Below.refl _ _, rfl⟩
  · intro T w Q hu hs hv hw hd
    have hx84 : T.getD 84 undef = (.pointer (some ⟨ab, ao, none⟩)) := Deps.at 7 hd (by kernel_rfl)
    refine .inl ⟨wanted_none rfl, ?_⟩
    have hN := hLA.out w (hun.out.then hu)
    clear hd hv hu hs hw
    go_simp
    refine hN.mono ?_
    rintro e w5 ⟨rfl, rfl⟩
    exact ⟨_, rfl, DstOk.some rfl, Below.refl _ _, rfl⟩
  · intro T w Q hu hs hv hw hd
    have hx80 : T.getD 80 undef = (.pointer (some ⟨ab, ao, none⟩)) := Deps.at 3 hd (by kernel_rfl)
    have hx85 : T.getD 85 undef = (.bool (lowE a)) := Deps.at 8 hd (by kernel_rfl)
    refine .inl ⟨wanted_none rfl, ?_⟩
    have hN := hPA.out w (hun.out.then hu)
    clear hd hv hu hs hw
    go_simp
    refine hN.mono ?_
    rintro e w5 ⟨rfl, hb⟩
    exact ⟨_, rfl, DstOk.some rfl, hb, rfl⟩
  · intro T w Q hu hs hv hw hd
    have hx86 : T.getD 86 undef = (.string (strB PA)) := Deps.at 9 hd (by kernel_rfl)
    refine .inl ⟨wanted_none rfl, ?_⟩
    have hC := h1.out w
    clear hd hv hu hs hw
    unfold strB at *
    go_simp
    exact ⟨_, rfl, DstOk.some rfl, Below.refl _ _, rfl⟩
  · intro T w Q hu hs hv hw hd
    have hx3 : T.getD 3 undef = (.string ⟨#[37]⟩) := hv 3 (by kernel_rfl)
    refine .inl ⟨wanted_none rfl, ?_⟩
    clear hd hv hu hs hw
    go_simp
    exact ⟨_, rfl, DstOk.some rfl, Below.refl _ _, rfl⟩
  · intro T w Q hu hs hv hw hd
    have hx87 : T.getD 87 undef = (.string (strB T1)) := Deps.at 10 hd (by kernel_rfl)
    have hx88 : T.getD 88 undef = (.string ⟨#[37]⟩) := Deps.at 11 hd (by kernel_rfl)
    refine .inl ⟨wanted_none rfl, ?_⟩
    have hC := h2.out w
    clear hd hv hu hs hw
    unfold strB at *
    go_simp
    exact ⟨_, rfl, DstOk.some rfl, Below.refl _ _, rfl⟩
  · intro T w Q hu hs hv hw hd
    have hx89 : T.getD 89 undef = (.string (strB T2)) := Deps.at 12 hd (by kernel_rfl)
    refine .inl ⟨wanted_none rfl, ?_⟩
    have hC := h3.out w
    clear hd hv hu hs hw
    unfold strB at *
    go_simp
    exact ⟨_, rfl, DstOk.some rfl, Below.refl _ _, rfl⟩
  · intro T w Q hu hs hv hw hd
    have hx0 : T.getD 0 undef = (.pointer (some ⟨xb, xo, none⟩)) := hv 0 (by kernel_rfl)
    refine .inl ⟨wanted_none rfl, ?_⟩
    clear hd hv hu hs hw
    go_simp
    exact ⟨_, rfl, DstOk.some rfl, Below.refl _ _, rfl⟩
  · intro T w Q hu hs hv hw hd
    have hx91 : T.getD 91 undef = (.pointer (some ⟨xb, xo, none⟩)) := Deps.at 14 hd (by kernel_rfl)
    refine .inl ⟨wanted_none rfl, ?_⟩
    clear hd hv hu hs hw
    go_simp
    exact ⟨_, rfl, DstOk.some rfl, Below.refl _ _, rfl⟩
  · intro T w Q hu hs hv hw hd
    have hx92 : T.getD 92 undef = (.pointer (some ⟨xb, xo, none⟩)) := Deps.at 15 hd (by kernel_rfl)
    refine .inl ⟨wanted_none rfl, ?_⟩
    clear hd hv hu hs hw
    go_simp
    exact ⟨_, rfl, DstOk.some rfl, Below.refl _ _, rfl⟩
  · intro T w Q hu hs hv hw hd
    have hx93 : T.getD 93 undef = (.pointer (some ⟨xb, xo + 4, none⟩)) := Deps.at 16 hd (by kernel_rfl)
    refine .inl ⟨wanted_none rfl, ?_⟩
    have hq := hu.cell c4.out id
    clear hd hv hu hs hw
    go_simp
    exact ⟨_, rfl, DstOk.some rfl, Below.refl _ _, rfl⟩
  · intro T w Q hu hs hv hw hd
    have hx0 : T.getD 0 undef = (.pointer (some ⟨xb, xo, none⟩)) := hv 0 (by kernel_rfl)
    refine .inl ⟨wanted_none rfl, ?_⟩
    clear hd hv hu hs hw
    go_simp
    exact ⟨_, rfl, DstOk.some rfl, Below.refl _ _, rfl⟩
  · intro T w Q hu hs hv hw hd
    have hx95 : T.getD 95 undef = (.pointer (some ⟨xb, xo, none⟩)) := Deps.at 18 hd (by kernel_rfl)
    refine .inl ⟨wanted_none rfl, ?_⟩
    clear hd hv hu hs hw
    go_simp
    exact ⟨_, rfl, DstOk.some rfl, Below.refl _ _, rfl⟩
  · intro T w Q hu hs hv hw hd
    have hx96 : T.getD 96 undef = (.pointer (some ⟨xb, xo, none⟩)) := Deps.at 19 hd (by kernel_rfl)
    refine .inl ⟨wanted_none rfl, ?_⟩
    clear hd hv hu hs hw
    go_simp
    exact ⟨_, rfl, DstOk.some rfl, Below.refl _ _, rfl⟩
  · intro T w Q hu hs hv hw hd
    have hx97 : T.getD 97 undef = (.pointer (some ⟨xb, xo + 4, none⟩)) := Deps.at 20 hd (by kernel_rfl)
    refine .inl ⟨wanted_none rfl, ?_⟩
    have hq := hu.cell c4.out id
    clear hd hv hu hs hw
    go_simp
    exact ⟨_, rfl, DstOk.some rfl, Below.refl _ _, rfl⟩
  · intro T w Q hu hs hv hw hd
    have hx98 : T.getD 98 undef = (.pointer (some ⟨cb, co, none⟩)) := Deps.at 21 hd (by kernel_rfl)
    refine .inl ⟨wanted_none rfl, ?_⟩
    have hN := hLC.out w (hun.out.then hu)
    clear hd hv hu hs hw
    go_simp
    refine hN.mono ?_
    rintro e w5 ⟨rfl, rfl⟩
    exact ⟨_, rfl, DstOk.some rfl, Below.refl _ _, rfl⟩
  · intro T w Q hu hs hv hw hd
    have hx99 : T.getD 99 undef = (.bool true) := Deps.at 22 hd (by kernel_rfl)
    refine .inl ⟨wanted_none rfl, ?_⟩
    clear hd hv hu hs hw
    go_simp
    exact ⟨_, rfl, DstOk.some rfl, Below.refl _ _, rfl⟩
  · intro T w Q hu hs hv hw hd
    exact .inr ⟨wanted_not rfl (Deps.at 23 hd (by kernel_rfl) : slotOf _ T 23 = .bool (!false)), rfl⟩
  · intro T w Q hu hs hv hw hd
    exact .inr ⟨wanted_not rfl (Deps.at 23 hd (by kernel_rfl) : slotOf _ T 23 = .bool (!false)), rfl⟩
  · intro T w Q hu hs hv hw hd
    exact .inr ⟨wanted_not rfl (Deps.at 23 hd (by kernel_rfl) : slotOf _ T 23 = .bool (!false)), rfl⟩
  · intro T w Q hu hs hv hw hd
    exact .inr ⟨wanted_not rfl (Deps.at 23 hd (by kernel_rfl) : slotOf _ T 23 = .bool (!false)), rfl⟩
  · intro T w Q hu hs hv hw hd
    exact .inr ⟨wanted_not rfl (Deps.at 23 hd (by kernel_rfl) : slotOf _ T 23 = .bool (!false)), rfl⟩
  · intro T w Q hu hs hv hw hd
    have hx100 : T.getD 100 undef = (.bool true) := Deps.at 23 hd (by kernel_rfl)
    have hx105 : T.getD 105 undef = undef := Deps.at 28 hd (by kernel_rfl)
    refine .inl ⟨wanted_none rfl, ?_⟩
    clear hd hv hu hs hw
    go_simp
    exact ⟨_, rfl, DstOk.some rfl, Below.refl _ _, rfl⟩
  · intro T w Q hu hs hv hw hd
    have hx94 : T.getD 94 undef = (.pointer (some ⟨cb, co, none⟩)) := Deps.at 17 hd (by kernel_rfl)
    have hx106 : T.getD 106 undef = (.bool true) := Deps.at 29 hd (by kernel_rfl)
    refine .inl ⟨wanted_none rfl, ?_⟩
    have hN := hPC.out w (hun.out.then hu)
    clear hd hv hu hs hw
    go_simp
    refine hN.mono ?_
    rintro e w5 ⟨rfl, hb⟩
    exact ⟨_, rfl, DstOk.some rfl, hb, rfl⟩
  · intro T w Q hu hs hv hw hd
    have hx90 : T.getD 90 undef = (.string (strB T3)) := Deps.at 13 hd (by kernel_rfl)
    have hx107 : T.getD 107 undef = (.string (strB PC)) := Deps.at 30 hd (by kernel_rfl)
    refine .inl ⟨wanted_none rfl, ?_⟩
    have hC := h4.out w
    clear hd hv hu hs hw
    unfold strB at *
    go_simp
    exact ⟨_, rfl, DstOk.some rfl, Below.refl _ _, rfl⟩
  · intro T w Q hu hs hv hw hd
    have hx108 : T.getD 108 undef = (.string (strB TX)) := Deps.at 31 hd (by kernel_rfl)
    refine .inl ⟨wanted_none rfl, ?_⟩
    clear hd hv hu hs hw
    go_simp
    exact ⟨_, rfl, DstOk.some rfl, Below.refl _ _, rfl⟩
  intro T w hu hs hv hf hcur
  have hT : T = #[T.getD 0 undef, T.getD 1 undef, T.getD 2 undef, T.getD 3 undef, T.getD 4 undef, T.getD 5 undef, T.getD 6 undef, T.getD 7 undef, T.getD 8 undef, T.getD 9 undef, T.getD 10 undef, T.getD 11 undef, T.getD 12 undef, T.getD 13 undef, T.getD 14 undef, T.getD 15 undef, T.getD 16 undef, T.getD 17 undef, T.getD 18 undef, T.getD 19 undef, T.getD 20 undef, T.getD 21 undef, T.getD 22 undef, T.getD 23 undef, T.getD 24 undef, T.getD 25 undef, T.getD 26 undef, T.getD 27 undef, T.getD 28 undef, T.getD 29 undef, T.getD 30 undef, T.getD 31 undef, T.getD 32 undef, T.getD 33 undef, T.getD 34 undef, T.getD 35 undef, T.getD 36 undef, T.getD 37 undef, T.getD 38 undef, T.getD 39 undef, T.getD 40 undef, T.getD 41 undef, T.getD 42 undef, T.getD 43 undef, T.getD 44 undef, T.getD 45 undef, T.getD 46 undef, T.getD 47 undef, T.getD 48 undef, T.getD 49 undef, T.getD 50 undef, T.getD 51 undef, T.getD 52 undef, T.getD 53 undef, T.getD 54 undef, T.getD 55 undef, T.getD 56 undef, T.getD 57 undef, T.getD 58 undef, T.getD 59 undef, T.getD 60 undef, T.getD 61 undef, T.getD 62 undef, T.getD 63 undef, T.getD 64 undef, T.getD 65 undef, T.getD 66 undef, T.getD 67 undef, T.getD 68 undef, T.getD 69 undef, T.getD 70 undef, T.getD 71 undef, T.getD 72 undef, T.getD 73 undef, T.getD 74 undef, T.getD 75 undef, T.getD 76 undef, T.getD 77 undef, T.getD 78 undef, T.getD 79 undef, T.getD 80 undef, T.getD 81 undef, T.getD 82 undef, T.getD 83 undef, T.getD 84 undef, T.getD 85 undef, T.getD 86 undef, T.getD 87 undef, T.getD 88 undef, T.getD 89 undef, T.getD 90 undef, T.getD 91 undef, T.getD 92 undef, T.getD 93 undef, T.getD 94 undef, T.getD 95 undef, T.getD 96 undef, T.getD 97 undef, T.getD 98 undef, T.getD 99 undef, T.getD 100 undef, T.getD 101 undef, T.getD 102 undef, T.getD 103 undef, T.getD 104 undef, T.getD 105 undef, T.getD 106 undef, T.getD 107 undef, T.getD 108 undef] := expl hs
  rw [hT]
  clear hT
  rw [show T.getD 0 undef = (.pointer (some ⟨xb, xo, none⟩)) from hv 0 (by kernel_rfl)]
  rw [hv 1 (by kernel_rfl)]
  rw [show T.getD 2 undef = (.string (strB TX)) from hf 32 (by decide)]
  rw [hv 3 (by kernel_rfl)]
  rw [hv 4 (by kernel_rfl)]
  rw [hv 5 (by kernel_rfl)]
  rw [hv 6 (by kernel_rfl)]
  rw [hv 7 (by kernel_rfl)]
  rw [hv 8 (by kernel_rfl)]
  rw [hv 9 (by kernel_rfl)]
  rw [hv 10 (by kernel_rfl)]
  rw [hv 11 (by kernel_rfl)]
  rw [hv 12 (by kernel_rfl)]
  rw [hv 13 (by kernel_rfl)]
  rw [hv 14 (by kernel_rfl)]
  rw [hv 15 (by kernel_rfl)]
  rw [hv 16 (by kernel_rfl)]
  rw [hv 17 (by kernel_rfl)]
  rw [hv 18 (by kernel_rfl)]
  rw [hv 19 (by kernel_rfl)]
  rw [hv 20 (by kernel_rfl)]
  rw [hv 21 (by kernel_rfl)]
  rw [hv 22 (by kernel_rfl)]
  rw [hv 23 (by kernel_rfl)]
  rw [hv 24 (by kernel_rfl)]
  rw [hv 25 (by kernel_rfl)]
  rw [hv 26 (by kernel_rfl)]
  rw [hv 27 (by kernel_rfl)]
  rw [hv 28 (by kernel_rfl)]
  rw [hv 29 (by kernel_rfl)]
  rw [hv 30 (by kernel_rfl)]
  rw [hv 31 (by kernel_rfl)]
  rw [hv 32 (by kernel_rfl)]
  rw [hv 33 (by kernel_rfl)]
  rw [hv 34 (by kernel_rfl)]
  rw [hv 35 (by kernel_rfl)]
  rw [hv 36 (by kernel_rfl)]
  rw [hv 37 (by kernel_rfl)]
  rw [hv 38 (by kernel_rfl)]
  rw [hv 39 (by kernel_rfl)]
  rw [hv 40 (by kernel_rfl)]
  rw [hv 41 (by kernel_rfl)]
  rw [hv 42 (by kernel_rfl)]
  rw [hv 43 (by kernel_rfl)]
  rw [hv 44 (by kernel_rfl)]
  rw [hv 45 (by kernel_rfl)]
  rw [hv 46 (by kernel_rfl)]
  rw [hv 47 (by kernel_rfl)]
  rw [hv 48 (by kernel_rfl)]
  rw [hv 49 (by kernel_rfl)]
  rw [hv 50 (by kernel_rfl)]
  rw [hv 51 (by kernel_rfl)]
  rw [hv 52 (by kernel_rfl)]
  rw [hv 53 (by kernel_rfl)]
  rw [hv 54 (by kernel_rfl)]
  rw [hv 55 (by kernel_rfl)]
  rw [hv 56 (by kernel_rfl)]
  rw [hv 57 (by kernel_rfl)]
  rw [hv 58 (by kernel_rfl)]
  rw [hv 59 (by kernel_rfl)]
  rw [hv 60 (by kernel_rfl)]
  rw [hv 61 (by kernel_rfl)]
  rw [hv 62 (by kernel_rfl)]
  rw [hv 63 (by kernel_rfl)]
  rw [hv 64 (by kernel_rfl)]
  rw [hv 65 (by kernel_rfl)]
  rw [hv 66 (by kernel_rfl)]
  rw [hv 67 (by kernel_rfl)]
  rw [hv 68 (by kernel_rfl)]
  rw [hv 69 (by kernel_rfl)]
  rw [hv 70 (by kernel_rfl)]
  rw [hv 71 (by kernel_rfl)]
  rw [hv 72 (by kernel_rfl)]
  rw [hv 73 (by kernel_rfl)]
  rw [hv 74 (by kernel_rfl)]
  rw [hv 75 (by kernel_rfl)]
  rw [hv 76 (by kernel_rfl)]
  rw [show T.getD 77 undef = (.pointer (some ⟨xb, xo, none⟩)) from hf 0 (by decide)]
  rw [show T.getD 78 undef = (.pointer (some ⟨xb, xo, none⟩)) from hf 1 (by decide)]
  rw [show T.getD 79 undef = (.pointer (some ⟨xb, xo + 3, none⟩)) from hf 2 (by decide)]
  rw [show T.getD 80 undef = (.pointer (some ⟨ab, ao, none⟩)) from hf 3 (by decide)]
  rw [show T.getD 81 undef = (.pointer (some ⟨xb, xo, none⟩)) from hf 4 (by decide)]
  rw [show T.getD 82 undef = (.pointer (some ⟨xb, xo, none⟩)) from hf 5 (by decide)]
  rw [show T.getD 83 undef = (.pointer (some ⟨xb, xo + 3, none⟩)) from hf 6 (by decide)]
  rw [show T.getD 84 undef = (.pointer (some ⟨ab, ao, none⟩)) from hf 7 (by decide)]
  rw [show T.getD 85 undef = (.bool (lowE a)) from hf 8 (by decide)]
  rw [show T.getD 86 undef = (.string (strB PA)) from hf 9 (by decide)]
  rw [show T.getD 87 undef = (.string (strB T1)) from hf 10 (by decide)]
  rw [show T.getD 88 undef = (.string ⟨#[37]⟩) from hf 11 (by decide)]
  rw [show T.getD 89 undef = (.string (strB T2)) from hf 12 (by decide)]
  rw [show T.getD 90 undef = (.string (strB T3)) from hf 13 (by decide)]
  rw [show T.getD 91 undef = (.pointer (some ⟨xb, xo, none⟩)) from hf 14 (by decide)]
  rw [show T.getD 92 undef = (.pointer (some ⟨xb, xo, none⟩)) from hf 15 (by decide)]
  rw [show T.getD 93 undef = (.pointer (some ⟨xb, xo + 4, none⟩)) from hf 16 (by decide)]
  rw [show T.getD 94 undef = (.pointer (some ⟨cb, co, none⟩)) from hf 17 (by decide)]
  rw [show T.getD 95 undef = (.pointer (some ⟨xb, xo, none⟩)) from hf 18 (by decide)]
  rw [show T.getD 96 undef = (.pointer (some ⟨xb, xo, none⟩)) from hf 19 (by decide)]
  rw [show T.getD 97 undef = (.pointer (some ⟨xb, xo + 4, none⟩)) from hf 20 (by decide)]
  rw [show T.getD 98 undef = (.pointer (some ⟨cb, co, none⟩)) from hf 21 (by decide)]
  rw [show T.getD 99 undef = (.bool true) from hf 22 (by decide)]
  rw [show T.getD 100 undef = (.bool true) from hf 23 (by decide)]
  rw [show T.getD 101 undef = undef from hf 24 (by decide)]
  rw [show T.getD 102 undef = undef from hf 25 (by decide)]
  rw [show T.getD 103 undef = undef from hf 26 (by decide)]
  rw [show T.getD 104 undef = undef from hf 27 (by decide)]
  rw [show T.getD 105 undef = undef from hf 28 (by decide)]
  rw [show T.getD 106 undef = (.bool true) from hf 29 (by decide)]
  rw [show T.getD 107 undef = (.string (strB PC)) from hf 30 (by decide)]
  rw [show T.getD 108 undef = (.string (strB TX)) from hf 31 (by decide)]
  clear hf hs hv hcur
  simp only [getD_toArray, List.getD_cons_succ, List.getD_cons_zero]
  clear T
  have hb9 := hide ((hun.out.then hu).below (Nat.le_refl _) fun _ h => h.elim)
  clear hu
  go_wp2_with fail
  go_ret
  exact ⟨rfl, hb9.out⟩
set_option maxRecDepth 100000 in
set_option maxHeartbeats 1600000 in
theorem ex6_bin6f (a c : Ex) (hA : Ex6 a) (hC : Ex6 c) (x : Value) (wa : World) (S : Nat → Prop) (hx : ExA wa S (.bin 6 a c) x) (hw : WfX (.bin 6 a c)) (hl : (exT (.bin 6 a c)).length ≤ 1000000) (hc : lowE c = false) :
    Calls Tryd.prog 10 #[x] wa fun r w' => r = .returned (.string (strB (exT (.bin 6 a c)))) ∧ Below wa.heap.size wa w' := by
  have hL := fun w' (hu : Upd (fun _ => False) wa w') => low_any (.bin 6 a c) x w' S (hx.same hu)
  rw [show lowE (.bin 6 a c) = false from rfl] at hL
  obtain ⟨xb, xo, va, vc, rfl, ⟨hS, c0, -, -, c3, c4⟩, hxa, hxc⟩ := hx
  obtain ⟨-, -, hwa, hwc⟩ := hw
  have hX : exT (.bin 6 a c) = parT (lowE a) (exT a) ++ [32, 37, 32] ++ parT (highE c) (exT c) := by
    rw [exT, show signT 6 = [32, 37, 32] from rfl]
    congr 2
    · refine congrArg (fun q => parT q (exT a)) ?_
      unfold lowE
      rw [decide_eq_decide]
      show bindE a < 1 ↔ _
      omega
    · unfold lowE at hc
      have := of_decide_eq_false hc
      unfold highE
      rw [decide_eq_decide]
      show _ < 1 + 1 ↔ _
      omega
  rw [hX] at hl ⊢
  rw [List.length_append, List.length_append] at hl
  have hla : (exT a).length ≤ 1000000 := by
    have : (exT a).length ≤ (parT (lowE a) (exT a)).length := by unfold parT; split <;> simp <;> omega
    omega
  have hlc : (exT c).length ≤ 1000000 := by
    have : (exT c).length ≤ (parT (highE c) (exT c)).length := by unfold parT; split <;> simp <;> omega
    omega
  have hPA := hide (fun w' (hu : Upd (fun _ => False) wa w') => part_of a hA (lowE a) va w' S (hxa.same hu) hwa hla)
  have hPC := hide (fun w' (hu : Upd (fun _ => False) wa w') => part_of c hC (highE c) vc w' S (hxc.same hu) hwc hlc)
  have hLA := hide (fun w' (hu : Upd (fun _ => False) wa w') => low_any a va w' S (hxa.same hu))
  have hLC := hide (fun w' (hu : Upd (fun _ => False) wa w') => low_any c vc w' S (hxc.same hu))
  have hHC := hide (fun w' (hu : Upd (fun _ => False) wa w') => high_any c vc w' S (hxc.same hu))
  replace hL := hide hL
  rw [hc] at hLC
  obtain ⟨ab, ao, rfl⟩ := hxa.ptr
  obtain ⟨cb, co, rfl⟩ := hxc.ptr
  clear hX hwa hwc hxa hxc hla hlc hA hC
  generalize parT (lowE a) (exT a) = PA at *
  generalize parT (highE c) (exT c) = PC at *
  obtain ⟨T1, e1⟩ : ∃ T, T = PA ++ [32] := ⟨_, rfl⟩
  obtain ⟨T2, e2⟩ : ∃ T, T = T1 ++ [37] := ⟨_, rfl⟩
  obtain ⟨T3, e3⟩ : ∃ T, T = T2 ++ [32] := ⟨_, rfl⟩
  obtain ⟨TX, e4⟩ : ∃ T, T = T3 ++ PC := ⟨_, rfl⟩
  have hT : PA ++ [32, 37, 32] ++ PC = TX := by rw [e4, e3, e2, e1]; simp
  rw [hT]
  have l1 : T1.length = PA.length + 1 := by rw [e1, List.length_append]; rfl
  have l2 : T2.length = PA.length + 2 := by rw [e2, List.length_append, l1]; rfl
  have l3 : T3.length = PA.length + 3 := by rw [e3, List.length_append, l2]; rfl
  have h1 := hide (fun w => by rw [e1]; exact str_add PA [32] (by show _ + 1 ≤ _; omega) w : ∀ w, (Op.stringOp .add (strB PA) ⟨#[32]⟩).run Tryd.prog w = .ok (.string (strB T1)) w)
  have h2 := hide (fun w => by rw [e2]; exact str_add T1 [37] (by show _ + 1 ≤ _; omega) w : ∀ w, (Op.stringOp .add (strB T1) ⟨#[37]⟩).run Tryd.prog w = .ok (.string (strB T2)) w)
  have h3 := hide (fun w => by rw [e3]; exact str_add T2 [32] (by show _ + 1 ≤ _; omega) w : ∀ w, (Op.stringOp .add (strB T2) ⟨#[32]⟩).run Tryd.prog w = .ok (.string (strB T3)) w)
  have h4 := hide (fun w => by rw [e4]; exact str_add T3 PC (by omega) w : ∀ w, (Op.stringOp .add (strB T3) (strB PC)).run Tryd.prog w = .ok (.string (strB TX)) w)
  clear hT e1 e2 e3 e4 l1 l2 l3 hl hS
  have c0n := fun o => (Upd.alloc (fun _ => False) wa o).cell c0 id
  have c3w := hide c3
  have c4w := hide c4
  clear c3 c4
  go_enter Tryd.func10, Tryd.ntmps10
  go_wp2_with fail
  generalize hwn : World.alloc wa _ = wn
  have hun : Upd (fun _ => False) wa wn := hwn ▸ .alloc _ _ _
  refine (hL.out wn hun).mono ?_
  rintro r w1 ⟨rfl, rfl⟩
  go_wp2_with fail
  have c3 := hide (hun.cell c3w.out id)
  have c4 := hide (hun.cell c4w.out id)
  replace hun := hide hun
  clear c0 c0n hwn c3w c4w
  refine wp_region_flow (fun _ => False) (factAt [(fun v _ => v = (.pointer (some ⟨xb, xo, none⟩))), (fun v _ => v = (.pointer (some ⟨xb, xo, none⟩))), (fun v _ => v = (.pointer (some ⟨xb, xo + 3, none⟩))), (fun v _ => v = (.pointer (some ⟨ab, ao, none⟩))), (fun v _ => v = (.pointer (some ⟨xb, xo, none⟩))), (fun v _ => v = (.pointer (some ⟨xb, xo, none⟩))), (fun v _ => v = (.pointer (some ⟨xb, xo + 3, none⟩))), (fun v _ => v = (.pointer (some ⟨ab, ao, none⟩))), (fun v _ => v = (.bool (lowE a))), (fun v _ => v = (.string (strB PA))), (fun v _ => v = (.string (strB T1))), (fun v _ => v = (.string ⟨#[37]⟩)), (fun v _ => v = (.string (strB T2))), (fun v _ => v = (.string (strB T3))), (fun v _ => v = (.pointer (some ⟨xb, xo, none⟩))), (fun v _ => v = (.pointer (some ⟨xb, xo, none⟩))), (fun v _ => v = (.pointer (some ⟨xb, xo + 4, none⟩))), (fun v _ => v = (.pointer (some ⟨cb, co, none⟩))), (fun v _ => v = (.pointer (some ⟨xb, xo, none⟩))), (fun v _ => v = (.pointer (some ⟨xb, xo, none⟩))), (fun v _ => v = (.pointer (some ⟨xb, xo + 4, none⟩))), (fun v _ => v = (.pointer (some ⟨cb, co, none⟩))), (fun v _ => v = (.bool false)), (fun v _ => v = (.bool false)), (fun v _ => v = (.pointer (some ⟨xb, xo, none⟩))), (fun v _ => v = (.pointer (some ⟨xb, xo, none⟩))), (fun v _ => v = (.pointer (some ⟨xb, xo + 4, none⟩))), (fun v _ => v = (.pointer (some ⟨cb, co, none⟩))), (fun v _ => v = (.bool (highE c))), (fun v _ => v = (.bool (highE c))), (fun v _ => v = (.string (strB PC))), (fun v _ => v = (.string (strB TX))), (fun v _ => v = (.string (strB TX)))]) [] (fun _ => True) (by kernel_rfl) (fkept_at ⟨FKept.eq _, FKept.eq _, FKept.eq _, FKept.eq _, FKept.eq _, FKept.eq _, FKept.eq _, FKept.eq _, FKept.eq _, FKept.eq _, FKept.eq _, FKept.eq _, FKept.eq _, FKept.eq _, FKept.eq _, FKept.eq _, FKept.eq _, FKept.eq _, FKept.eq _, FKept.eq _, FKept.eq _, FKept.eq _, FKept.eq _, FKept.eq _, FKept.eq _, FKept.eq _, FKept.eq _, FKept.eq _, FKept.eq _, FKept.eq _, FKept.eq _, FKept.eq _, FKept.eq _, trivial⟩) (fun _ _ h _ => h) trivial (by kernel_rfl) (by kernel_rfl) (by kernel_rfl) (by kernel_rfl) (Nat.le_of_ble_eq_true (by kernel_rfl)) ?_ ⟨?_, ?_, ?_, ?_, ?_, ?_, ?_, ?_, ?_, ?_, ?_, ?_, ?_, ?_, ?_, ?_, ?_, ?_, ?_, ?_, ?_, ?_, ?_, ?_, ?_, ?_, ?_, ?_, ?_, ?_, ?_, ?_, ?_, trivial⟩ ?_
  · first | exact trivial | assumption
  · intro T w Q hu hs hv hw hd
    have hx0 : T.getD 0 undef = (.pointer (some ⟨xb, xo, none⟩)) := hv 0 (by kernel_rfl)
    refine .inl ⟨wanted_none rfl, ?_⟩
    clear hd hv hu hs hw
    go_simp
    exact ⟨_, rfl, DstOk.some rfl, Below.refl _ _, rfl⟩
  · intro T w Q hu hs hv hw hd
    have hx77 : T.getD 77 undef = (.pointer (some ⟨xb, xo, none⟩)) := Deps.at 0 hd (by kernel_rfl)
    refine .inl ⟨wanted_none rfl, ?_⟩
    clear hd hv hu hs hw
    go_simp
    exact ⟨_, rfl, DstOk.some rfl, Below.refl _ _, rfl⟩
  · intro T w Q hu hs hv hw hd
    have hx78 : T.getD 78 undef = (.pointer (some ⟨xb, xo, none⟩)) := Deps.at 1 hd (by kernel_rfl)
    refine .inl ⟨wanted_none rfl, ?_⟩
    clear hd hv hu hs hw
    go_simp
    exact ⟨_, rfl, DstOk.some rfl, Below.refl _ _, rfl⟩
  · intro T w Q hu hs hv hw hd
    have hx79 : T.getD 79 undef = (.pointer (some ⟨xb, xo + 3, none⟩)) := Deps.at 2 hd (by kernel_rfl)
    refine .inl ⟨wanted_none rfl, ?_⟩
    have hq := hu.cell c3.out id
    clear hd hv hu hs hw
    go_simp
    exact ⟨_, rfl, DstOk.some rfl, Below.refl _ _, rfl⟩
  · intro T w Q hu hs hv hw hd
    have hx0 : T.getD 0 undef = (.pointer (some ⟨xb, xo, none⟩)) := hv 0 (by kernel_rfl)
    refine .inl ⟨wanted_none rfl, ?_⟩
    clear hd hv hu hs hw
    go_simp
    exact ⟨_, rfl, DstOk.some rfl, Below.refl _ _, rfl⟩
  · intro T w Q hu hs hv hw hd
    have hx81 : T.getD 81 undef = (.pointer (some ⟨xb, xo, none⟩)) := Deps.at 4 hd (by kernel_rfl)
    refine .inl ⟨wanted_none rfl, ?_⟩
    clear hd hv hu hs hw
    go_simp
    exact ⟨_, rfl, DstOk.some rfl, Below.refl _ _, rfl⟩
  · intro T w Q hu hs hv hw hd
    have hx82 : T.getD 82 undef = (.pointer (some ⟨xb, xo, none⟩)) := Deps.at 5 hd (by kernel_rfl)
    refine .inl ⟨wanted_none rfl, ?_⟩
    clear hd hv hu hs hw
    go_simp
    exact ⟨_, rfl, DstOk.some rfl, Below.refl _ _, rfl⟩
  · intro T w Q hu hs hv hw hd
    have hx83 : T.getD 83 undef = (.pointer (some ⟨xb, xo + 3, none⟩)) := Deps.at 6 hd (by kernel_rfl)
    refine .inl ⟨wanted_none rfl, ?_⟩
    have hq := hu.cell c3.out id
    clear hd hv hu hs hw
    go_simp
    exact ⟨_, rfl, DstOk.some rfl, Below.refl _ _, rfl⟩
  · intro T w Q hu hs hv hw hd
    have hx84 : T.getD 84 undef = (.pointer (some ⟨ab, ao, none⟩)) := Deps.at 7 hd (by kernel_rfl)
    refine .inl ⟨wanted_none rfl, ?_⟩
    have hN := hLA.out w (hun.out.then hu)
    clear hd hv hu hs hw
    go_simp
    refine hN.mono ?_
    rintro e w5 ⟨rfl, rfl⟩
    exact ⟨_, rfl, DstOk.some rfl, Below.refl _ _, rfl⟩
  · intro T w Q hu hs hv hw hd
    have hx80 : T.getD 80 undef = (.pointer (some ⟨ab, ao, none⟩)) := Deps.at 3 hd (by kernel_rfl)
    have hx85 : T.getD 85 undef = (.bool (lowE a)) := Deps.at 8 hd (by kernel_rfl)
    refine .inl ⟨wanted_none rfl, ?_⟩
    have hN := hPA.out w (hun.out.then hu)
    clear hd hv hu hs hw
    go_simp
    refine hN.mono ?_
    rintro e w5 ⟨rfl, hb⟩
    exact ⟨_, rfl, DstOk.some rfl, hb, rfl⟩
  · intro T w Q hu hs hv hw hd
    have hx86 : T.getD 86 undef = (.string (strB PA)) := Deps.at 9 hd (by kernel_rfl)
    refine .inl ⟨wanted_none rfl, ?_⟩
    have hC := h1.out w
    clear hd hv hu hs hw
    unfold strB at *
    go_simp
    exact ⟨_, rfl, DstOk.some rfl, Below.refl _ _, rfl⟩
  · intro T w Q hu hs hv hw hd
    have hx3 : T.getD 3 undef = (.string ⟨#[37]⟩) := hv 3 (by kernel_rfl)
    refine .inl ⟨wanted_none rfl, ?_⟩
    clear hd hv hu hs hw
    go_simp
    exact ⟨_, rfl, DstOk.some rfl, Below.refl _ _, rfl⟩
  · intro T w Q hu hs hv hw hd
    have hx87 : T.getD 87 undef = (.string (strB T1)) := Deps.at 10 hd (by kernel_rfl)
    have hx88 : T.getD 88 undef = (.string ⟨#[37]⟩) := Deps.at 11 hd (by kernel_rfl)
    refine .inl ⟨wanted_none rfl, ?_⟩
    have hC := h2.out w
    clear hd hv hu hs hw
    unfold strB at *
    go_simp
    exact ⟨_, rfl, DstOk.some rfl, Below.refl _ _, rfl⟩
  · intro T w Q hu hs hv hw hd
    have hx89 : T.getD 89 undef = (.string (strB T2)) := Deps.at 12 hd (by kernel_rfl)
    refine .inl ⟨wanted_none rfl, ?_⟩
    have hC := h3.out w
    clear hd hv hu hs hw
    unfold strB at *
    go_simp
    exact ⟨_, rfl, DstOk.some rfl, Below.refl _ _, rfl⟩
  · intro T w Q hu hs hv hw hd
    have hx0 : T.getD 0 undef = (.pointer (some ⟨xb, xo, none⟩)) := hv 0 (by kernel_rfl)
    refine .inl ⟨wanted_none rfl, ?_⟩
    clear hd hv hu hs hw
    go_simp
    exact ⟨_, rfl, DstOk.some rfl, Below.refl _ _, rfl⟩
  · intro T w Q hu hs hv hw hd
    have hx91 : T.getD 91 undef = (.pointer (some ⟨xb, xo, none⟩)) := Deps.at 14 hd (by kernel_rfl)
    refine .inl ⟨wanted_none rfl, ?_⟩
    clear hd hv hu hs hw
    go_simp
    exact ⟨_, rfl, DstOk.some rfl, Below.refl _ _, rfl⟩
  · intro T w Q hu hs hv hw hd
    have hx92 : T.getD 92 undef = (.pointer (some ⟨xb, xo, none⟩)) := Deps.at 15 hd (by kernel_rfl)
    refine .inl ⟨wanted_none rfl, ?_⟩
    clear hd hv hu hs hw
    go_simp
    exact ⟨_, rfl, DstOk.some rfl, Below.refl _ _, rfl⟩
  · intro T w Q hu hs hv hw hd
    have hx93 : T.getD 93 undef = (.pointer (some ⟨xb, xo + 4, none⟩)) := Deps.at 16 hd (by kernel_rfl)
    refine .inl ⟨wanted_none rfl, ?_⟩
    have hq := hu.cell c4.out id
    clear hd hv hu hs hw
    go_simp
    exact ⟨_, rfl, DstOk.some rfl, Below.refl _ _, rfl⟩
  · intro T w Q hu hs hv hw hd
    have hx0 : T.getD 0 undef = (.pointer (some ⟨xb, xo, none⟩)) := hv 0 (by kernel_rfl)
    refine .inl ⟨wanted_none rfl, ?_⟩
    clear hd hv hu hs hw
    go_simp
    exact ⟨_, rfl, DstOk.some rfl, Below.refl _ _, rfl⟩
  · intro T w Q hu hs hv hw hd
    have hx95 : T.getD 95 undef = (.pointer (some ⟨xb, xo, none⟩)) := Deps.at 18 hd (by kernel_rfl)
    refine .inl ⟨wanted_none rfl, ?_⟩
    clear hd hv hu hs hw
    go_simp
    exact ⟨_, rfl, DstOk.some rfl, Below.refl _ _, rfl⟩
  · intro T w Q hu hs hv hw hd
    have hx96 : T.getD 96 undef = (.pointer (some ⟨xb, xo, none⟩)) := Deps.at 19 hd (by kernel_rfl)
    refine .inl ⟨wanted_none rfl, ?_⟩
    clear hd hv hu hs hw
    go_simp
    exact ⟨_, rfl, DstOk.some rfl, Below.refl _ _, rfl⟩
  · intro T w Q hu hs hv hw hd
    have hx97 : T.getD 97 undef = (.pointer (some ⟨xb, xo + 4, none⟩)) := Deps.at 20 hd (by kernel_rfl)
    refine .inl ⟨wanted_none rfl, ?_⟩
    have hq := hu.cell c4.out id
    clear hd hv hu hs hw
    go_simp
    exact ⟨_, rfl, DstOk.some rfl, Below.refl _ _, rfl⟩
  · intro T w Q hu hs hv hw hd
    have hx98 : T.getD 98 undef = (.pointer (some ⟨cb, co, none⟩)) := Deps.at 21 hd (by kernel_rfl)
    refine .inl ⟨wanted_none rfl, ?_⟩
    have hN := hLC.out w (hun.out.then hu)
    clear hd hv hu hs hw
    go_simp
    refine hN.mono ?_
    rintro e w5 ⟨rfl, rfl⟩
    exact ⟨_, rfl, DstOk.some rfl, Below.refl _ _, rfl⟩
  · intro T w Q hu hs hv hw hd
    have hx99 : T.getD 99 undef = (.bool false) := Deps.at 22 hd (by kernel_rfl)
    refine .inl ⟨wanted_none rfl, ?_⟩
    clear hd hv hu hs hw
    go_simp
    exact ⟨_, rfl, DstOk.some rfl, Below.refl _ _, rfl⟩
  · intro T w Q hu hs hv hw hd
    have hx0 : T.getD 0 undef = (.pointer (some ⟨xb, xo, none⟩)) := hv 0 (by kernel_rfl)
    refine .inl ⟨wanted_some rfl (Deps.at 23 hd (by kernel_rfl) : slotOf _ T 23 = .bool false), ?_⟩
    clear hd hv hu hs hw
    go_simp
    exact ⟨_, rfl, DstOk.some rfl, Below.refl _ _, rfl⟩
  · intro T w Q hu hs hv hw hd
    have hx101 : T.getD 101 undef = (.pointer (some ⟨xb, xo, none⟩)) := Deps.at 24 hd (by kernel_rfl)
    refine .inl ⟨wanted_some rfl (Deps.at 23 hd (by kernel_rfl) : slotOf _ T 23 = .bool false), ?_⟩
    clear hd hv hu hs hw
    go_simp
    exact ⟨_, rfl, DstOk.some rfl, Below.refl _ _, rfl⟩
  · intro T w Q hu hs hv hw hd
    have hx102 : T.getD 102 undef = (.pointer (some ⟨xb, xo, none⟩)) := Deps.at 25 hd (by kernel_rfl)
    refine .inl ⟨wanted_some rfl (Deps.at 23 hd (by kernel_rfl) : slotOf _ T 23 = .bool false), ?_⟩
    clear hd hv hu hs hw
    go_simp
    exact ⟨_, rfl, DstOk.some rfl, Below.refl _ _, rfl⟩
  · intro T w Q hu hs hv hw hd
    have hx103 : T.getD 103 undef = (.pointer (some ⟨xb, xo + 4, none⟩)) := Deps.at 26 hd (by kernel_rfl)
    refine .inl ⟨wanted_some rfl (Deps.at 23 hd (by kernel_rfl) : slotOf _ T 23 = .bool false), ?_⟩
    have hq := hu.cell c4.out id
    clear hd hv hu hs hw
    go_simp
    exact ⟨_, rfl, DstOk.some rfl, Below.refl _ _, rfl⟩
  · intro T w Q hu hs hv hw hd
    have hx104 : T.getD 104 undef = (.pointer (some ⟨cb, co, none⟩)) := Deps.at 27 hd (by kernel_rfl)
    refine .inl ⟨wanted_some rfl (Deps.at 23 hd (by kernel_rfl) : slotOf _ T 23 = .bool false), ?_⟩
    have hN := hHC.out w (hun.out.then hu)
    clear hd hv hu hs hw
    go_simp
    refine hN.mono ?_
    rintro e w5 ⟨rfl, rfl⟩
    exact ⟨_, rfl, DstOk.some rfl, Below.refl _ _, rfl⟩
  · intro T w Q hu hs hv hw hd
    have hx100 : T.getD 100 undef = (.bool false) := Deps.at 23 hd (by kernel_rfl)
    have hx105 : T.getD 105 undef = (.bool (highE c)) := Deps.at 28 hd (by kernel_rfl)
    refine .inl ⟨wanted_none rfl, ?_⟩
    clear hd hv hu hs hw
    go_simp
    exact ⟨_, rfl, DstOk.some rfl, Below.refl _ _, rfl⟩
  · intro T w Q hu hs hv hw hd
    have hx94 : T.getD 94 undef = (.pointer (some ⟨cb, co, none⟩)) := Deps.at 17 hd (by kernel_rfl)
    have hx106 : T.getD 106 undef = (.bool (highE c)) := Deps.at 29 hd (by kernel_rfl)
    refine .inl ⟨wanted_none rfl, ?_⟩
    have hN := hPC.out w (hun.out.then hu)
    clear hd hv hu hs hw
    go_simp
    refine hN.mono ?_
    rintro e w5 ⟨rfl, hb⟩
    exact ⟨_, rfl, DstOk.some rfl, hb, rfl⟩
  · intro T w Q hu hs hv hw hd
    have hx90 : T.getD 90 undef = (.string (strB T3)) := Deps.at 13 hd (by kernel_rfl)
    have hx107 : T.getD 107 undef = (.string (strB PC)) := Deps.at 30 hd (by kernel_rfl)
    refine .inl ⟨wanted_none rfl, ?_⟩
    have hC := h4.out w
    clear hd hv hu hs hw
    unfold strB at *
    go_simp
    exact ⟨_, rfl, DstOk.some rfl, Below.refl _ _, rfl⟩
  · intro T w Q hu hs hv hw hd
    have hx108 : T.getD 108 undef = (.string (strB TX)) := Deps.at 31 hd (by kernel_rfl)
    refine .inl ⟨wanted_none rfl, ?_⟩
    clear hd hv hu hs hw
    go_simp
    exact ⟨_, rfl, DstOk.some rfl, Below.refl _ _, rfl⟩
  intro T w hu hs hv hf hcur
  have hT : T = #[T.getD 0 undef, T.getD 1 undef, T.getD 2 undef, T.getD 3 undef, T.getD 4 undef, T.getD 5 undef, T.getD 6 undef, T.getD 7 undef, T.getD 8 undef, T.getD 9 undef, T.getD 10 undef, T.getD 11 undef, T.getD 12 undef, T.getD 13 undef, T.getD 14 undef, T.getD 15 undef, T.getD 16 undef, T.getD 17 undef, T.getD 18 undef, T.getD 19 undef, T.getD 20 undef, T.getD 21 undef, T.getD 22 undef, T.getD 23 undef, T.getD 24 undef, T.getD 25 undef, T.getD 26 undef, T.getD 27 undef, T.getD 28 undef, T.getD 29 undef, T.getD 30 undef, T.getD 31 undef, T.getD 32 undef, T.getD 33 undef, T.getD 34 undef, T.getD 35 undef, T.getD 36 undef, T.getD 37 undef, T.getD 38 undef, T.getD 39 undef, T.getD 40 undef, T.getD 41 undef, T.getD 42 undef, T.getD 43 undef, T.getD 44 undef, T.getD 45 undef, T.getD 46 undef, T.getD 47 undef, T.getD 48 undef, T.getD 49 undef, T.getD 50 undef, T.getD 51 undef, T.getD 52 undef, T.getD 53 undef, T.getD 54 undef, T.getD 55 undef, T.getD 56 undef, T.getD 57 undef, T.getD 58 undef, T.getD 59 undef, T.getD 60 undef, T.getD 61 undef, T.getD 62 undef, T.getD 63 undef, T.getD 64 undef, T.getD 65 undef, T.getD 66 undef, T.getD 67 undef, T.getD 68 undef, T.getD 69 undef, T.getD 70 undef, T.getD 71 undef, T.getD 72 undef, T.getD 73 undef, T.getD 74 undef, T.getD 75 undef, T.getD 76 undef, T.getD 77 undef, T.getD 78 undef, T.getD 79 undef, T.getD 80 undef, T.getD 81 undef, T.getD 82 undef, T.getD 83 undef, T.getD 84 undef, T.getD 85 undef, T.getD 86 undef, T.getD 87 undef, T.getD 88 undef, T.getD 89 undef, T.getD 90 undef, T.getD 91 undef, T.getD 92 undef, T.getD 93 undef, T.getD 94 undef, T.getD 95 undef, T.getD 96 undef, T.getD 97 undef, T.getD 98 undef, T.getD 99 undef, T.getD 100 undef, T.getD 101 undef, T.getD 102 undef, T.getD 103 undef, T.getD 104 undef, T.getD 105 undef, T.getD 106 undef, T.getD 107 undef, T.getD 108 undef] := expl hs
  rw [hT]
  clear hT
  rw [show T.getD 0 undef = (.pointer (some ⟨xb, xo, none⟩)) from hv 0 (by kernel_rfl)]
  rw [hv 1 (by kernel_rfl)]
  rw [show T.getD 2 undef = (.string (strB TX)) from hf 32 (by decide)]
  rw [hv 3 (by kernel_rfl)]
  rw [hv 4 (by kernel_rfl)]
  rw [hv 5 (by kernel_rfl)]
  rw [hv 6 (by kernel_rfl)]
  rw [hv 7 (by kernel_rfl)]
  rw [hv 8 (by kernel_rfl)]
  rw [hv 9 (by kernel_rfl)]
  rw [hv 10 (by kernel_rfl)]
  rw [hv 11 (by kernel_rfl)]
  rw [hv 12 (by kernel_rfl)]
  rw [hv 13 (by kernel_rfl)]
  rw [hv 14 (by kernel_rfl)]
  rw [hv 15 (by kernel_rfl)]
  rw [hv 16 (by kernel_rfl)]
  rw [hv 17 (by kernel_rfl)]
  rw [hv 18 (by kernel_rfl)]
  rw [hv 19 (by kernel_rfl)]
  rw [hv 20 (by kernel_rfl)]
  rw [hv 21 (by kernel_rfl)]
  rw [hv 22 (by kernel_rfl)]
  rw [hv 23 (by kernel_rfl)]
  rw [hv 24 (by kernel_rfl)]
  rw [hv 25 (by kernel_rfl)]
  rw [hv 26 (by kernel_rfl)]
  rw [hv 27 (by kernel_rfl)]
  rw [hv 28 (by kernel_rfl)]
  rw [hv 29 (by kernel_rfl)]
  rw [hv 30 (by kernel_rfl)]
  rw [hv 31 (by kernel_rfl)]
  rw [hv 32 (by kernel_rfl)]
  rw [hv 33 (by kernel_rfl)]
  rw [hv 34 (by kernel_rfl)]
  rw [hv 35 (by kernel_rfl)]
  rw [hv 36 (by kernel_rfl)]
  rw [hv 37 (by kernel_rfl)]
  rw [hv 38 (by kernel_rfl)]
  rw [hv 39 (by kernel_rfl)]
  rw [hv 40 (by kernel_rfl)]
  rw [hv 41 (by kernel_rfl)]
  rw [hv 42 (by kernel_rfl)]
  rw [hv 43 (by kernel_rfl)]
  rw [hv 44 (by kernel_rfl)]
  rw [hv 45 (by kernel_rfl)]
  rw [hv 46 (by kernel_rfl)]
  rw [hv 47 (by kernel_rfl)]
  rw [hv 48 (by kernel_rfl)]
  rw [hv 49 (by kernel_rfl)]
  rw [hv 50 (by kernel_rfl)]
  rw [hv 51 (by kernel_rfl)]
  rw [hv 52 (by kernel_rfl)]
  rw [hv 53 (by kernel_rfl)]
  rw [hv 54 (by kernel_rfl)]
  rw [hv 55 (by kernel_rfl)]
  rw [hv 56 (by kernel_rfl)]
  rw [hv 57 (by kernel_rfl)]
  rw [hv 58 (by kernel_rfl)]
  rw [hv 59 (by kernel_rfl)]
  rw [hv 60 (by kernel_rfl)]
  rw [hv 61 (by kernel_rfl)]
  rw [hv 62 (by kernel_rfl)]
  rw [hv 63 (by kernel_rfl)]
  rw [hv 64 (by kernel_rfl)]
  rw [hv 65 (by kernel_rfl)]
  rw [hv 66 (by kernel_rfl)]
  rw [hv 67 (by kernel_rfl)]
  rw [hv 68 (by kernel_rfl)]
  rw [hv 69 (by kernel_rfl)]
  rw [hv 70 (by kernel_rfl)]
  rw [hv 71 (by kernel_rfl)]
  rw [hv 72 (by kernel_rfl)]
  rw [hv 73 (by kernel_rfl)]
  rw [hv 74 (by kernel_rfl)]
  rw [hv 75 (by kernel_rfl)]
  rw [hv 76 (by kernel_rfl)]
  rw [show T.getD 77 undef = (.pointer (some ⟨xb, xo, none⟩)) from hf 0 (by decide)]
  rw [show T.getD 78 undef = (.pointer (some ⟨xb, xo, none⟩)) from hf 1 (by decide)]
  rw [show T.getD 79 undef = (.pointer (some ⟨xb, xo + 3, none⟩)) from hf 2 (by decide)]
  rw [show T.getD 80 undef = (.pointer (some ⟨ab, ao, none⟩)) from hf 3 (by decide)]
  rw [show T.getD 81 undef = (.pointer (some ⟨xb, xo, none⟩)) from hf 4 (by decide)]
  rw [show T.getD 82 undef = (.pointer (some ⟨xb, xo, none⟩)) from hf 5 (by decide)]
  rw [show T.getD 83 undef = (.pointer (some ⟨xb, xo + 3, none⟩)) from hf 6 (by decide)]
  rw [show T.getD 84 undef = (.pointer (some ⟨ab, ao, none⟩)) from hf 7 (by decide)]
  rw [show T.getD 85 undef = (.bool (lowE a)) from hf 8 (by decide)]
  rw [show T.getD 86 undef = (.string (strB PA)) from hf 9 (by decide)]
  rw [show T.getD 87 undef = (.string (strB T1)) from hf 10 (by decide)]
  rw [show T.getD 88 undef = (.string ⟨#[37]⟩) from hf 11 (by decide)]
  rw [show T.getD 89 undef = (.string (strB T2)) from hf 12 (by decide)]
  rw [show T.getD 90 undef = (.string (strB T3)) from hf 13 (by decide)]
  rw [show T.getD 91 undef = (.pointer (some ⟨xb, xo, none⟩)) from hf 14 (by decide)]
  rw [show T.getD 92 undef = (.pointer (some ⟨xb, xo, none⟩)) from hf 15 (by decide)]
  rw [show T.getD 93 undef = (.pointer (some ⟨xb, xo + 4, none⟩)) from hf 16 (by decide)]
  rw [show T.getD 94 undef = (.pointer (some ⟨cb, co, none⟩)) from hf 17 (by decide)]
  rw [show T.getD 95 undef = (.pointer (some ⟨xb, xo, none⟩)) from hf 18 (by decide)]
  rw [show T.getD 96 undef = (.pointer (some ⟨xb, xo, none⟩)) from hf 19 (by decide)]
  rw [show T.getD 97 undef = (.pointer (some ⟨xb, xo + 4, none⟩)) from hf 20 (by decide)]
  rw [show T.getD 98 undef = (.pointer (some ⟨cb, co, none⟩)) from hf 21 (by decide)]
  rw [show T.getD 99 undef = (.bool false) from hf 22 (by decide)]
  rw [show T.getD 100 undef = (.bool false) from hf 23 (by decide)]
  rw [show T.getD 101 undef = (.pointer (some ⟨xb, xo, none⟩)) from hf 24 (by decide)]
  rw [show T.getD 102 undef = (.pointer (some ⟨xb, xo, none⟩)) from hf 25 (by decide)]
  rw [show T.getD 103 undef = (.pointer (some ⟨xb, xo + 4, none⟩)) from hf 26 (by decide)]
  rw [show T.getD 104 undef = (.pointer (some ⟨cb, co, none⟩)) from hf 27 (by decide)]
  rw [show T.getD 105 undef = (.bool (highE c)) from hf 28 (by decide)]
  rw [show T.getD 106 undef = (.bool (highE c)) from hf 29 (by decide)]
  rw [show T.getD 107 undef = (.string (strB PC)) from hf 30 (by decide)]
  rw [show T.getD 108 undef = (.string (strB TX)) from hf 31 (by decide)]
  clear hf hs hv hcur
  simp only [getD_toArray, List.getD_cons_succ, List.getD_cons_zero]
  clear T
  have hb9 := hide ((hun.out.then hu).below (Nat.le_refl _) fun _ h => h.elim)
  clear hu
  go_wp2_with fail
  go_ret
  exact ⟨rfl, hb9.out⟩
theorem ex6_any : ∀ e : Ex, Ex6 e
  | .num n => ex6_num n
  | .var s => ex6_var s
  | .neg a => ex6_neg a (ex6_any a)
  | .bin k a c => fun x w S hx hw hl => by
    have ha := ex6_any a
    have hc := ex6_any c
    have hk : k = 2 ∨ k = 3 ∨ k = 4 ∨ k = 5 ∨ k = 6 := by
      have := hw.1
      have := hw.2.1
      omega
    rcases hk with rfl | rfl | rfl | rfl | rfl
    · exact ex6_bin2 a c ha hc x w S hx hw hl
    · exact ex6_bin3 a c ha hc x w S hx hw hl
    all_goals cases hq : lowE c
    · exact ex6_bin4f a c ha hc x w S hx hw hl hq
    · exact ex6_bin4t a c ha hc x w S hx hw hl hq
    · exact ex6_bin5f a c ha hc x w S hx hw hl hq
    · exact ex6_bin5t a c ha hc x w S hx hw hl hq
    · exact ex6_bin6f a c ha hc x w S hx hw hl hq
    · exact ex6_bin6t a c ha hc x w S hx hw hl hq
end Go.Proofs.YtojbfopmlgdjlaaDoor
