/- Part 21 of the walks (merged): DeepW, Err7. -/
import Derived.Test.YteplkhgaoaphhaaGreatDoorM20
import Derived.Test.YteplkhgaoaphhaaGreatDoorM2
import Derived.Test.YteplkhgaoaphhaaGreatDoorCards
import Derived.Stop.LaidErr
import Derived.MakeChecks
/- The walk of ParseDeep. Written by mkdeep.py. -/
namespace Go.Proofs.YteplkhgaoaphhaaGreatDoor
open Go Go.RowKit Go.Lib

/-- What the law asks of the answer. -/
def deepEnd (h k : Nat) (x : Option (Except (Nat × Nat) Fn7)) : Prop :=
  (∃ a n, x = some (.error (a, n)) ∧ 40 ≤ k ∧ a = deepAt h ∧ n = 52) ∨ (∃ f, x = some (.ok f) ∧ k < 40 ∧ f.body.length = 1)
theorem deep_end {h k : Nat} (hc : deepChk h k = true) : deepEnd h k (textP (funcP 60) (deepT h k)) := by
  unfold deepChk at hc
  split at hc
  · rename_i a n he
    simp only [Bool.and_eq_true, decide_eq_true_eq, beq_iff_eq] at hc
    exact .inl ⟨a, n, he, hc.1, hc.2.1, hc.2.2⟩
  · rename_i f he
    simp only [Bool.and_eq_true, decide_eq_true_eq, beq_iff_eq] at hc
    exact .inr ⟨f, he, hc.1, hc.2⟩
  · cases hc
theorem deep_len (h k : Nat) (hk : k ≤ 43) : (deepT h k).length ≤ 900000 := by
  unfold deepT
  split <;> simp [rep_len] <;> omega

set_option maxRecDepth 100000 in
set_option maxHeartbeats 3200000 in
theorem deep_0 (n how : Nat) (hn : n < 256) (hh : how < 256) (hq : how % 4 = 0) (W : World) (hE : ErrR W) : Calls Tryz.prog 4 #[.int .u8 n, .int .u8 how] W fun e w' => e = .returned (.bool true) ∧ Below W.heap.size W w' := by
  obtain ⟨k, hk⟩ : ∃ k, k = 36 + n % 8 := ⟨_, rfl⟩
  have hk1 : 36 ≤ k := by omega
  have hk2 : k ≤ 43 := by omega
  have hD := deep_end (h := 0) (k := k) (by have := deep_all 0 (by decide) (n % 8) (by omega); rw [hk]; exact this)
  have hDl := deep_len 0 k hk2
  obtain ⟨D, hDe⟩ : ∃ D, D = deepT 0 k := ⟨_, rfl⟩
  rw [← hDe] at hD hDl
  have hK := hide (known_any W hE)
  have hks : (36 + (n : Int) % 8) = (k : Int) := by omega
  have hq0 : (((how : Int) % 4) == 0) = true := beq_iff_eq.2 (by omega)
  have hq1 : (((how : Int) % 4) == 1) = false := beq_false_of_ne (by omega)
  have hq2 : (((how : Int) % 4) == 2) = false := beq_false_of_ne (by omega)
  have hq3 : (((how : Int) % 4) == 3) = false := beq_false_of_ne (by omega)
  replace hD := hide hD
  replace hDe := hide hDe
  replace hk := hide hk
  replace hq := hide hq
  replace hE := hide hE
  go_enter Tryz.func4, Tryz.ntmps4
  go_wp2_with fail
  refine hK.out.mono ?_
  rintro e w1 ⟨rfl, hb⟩
  replace hb := hide hb
  obtain ⟨R0, hR0⟩ : ∃ R, R = rep [40] k := ⟨_, rfl⟩
  have hl0 : R0.length ≤ 700 := by rw [hR0, rep_len]; simp; omega
  obtain ⟨R1, hR1⟩ : ∃ R, R = rep [41] k := ⟨_, rfl⟩
  have hl1 : R1.length ≤ 700 := by rw [hR1, rep_len]; simp; omega
  obtain ⟨D1, hD1⟩ : ∃ D, D = [102, 110, 32, 102, 40, 41, 32, 123, 32, 120, 32, 61, 32] ++ R0 := ⟨_, rfl⟩
  have hm1 : D1.length ≤ 2000 := by rw [hD1, List.length_append]; first | omega | (simp; omega)
  have ha1 : ∀ w, (Op.stringOp .add ⟨#[102, 110, 32, 102, 40, 41, 32, 123, 32, 120, 32, 61, 32]⟩ (strB R0)).run Tryz.prog w = .ok (.string (strB D1)) w := fun w => by rw [hD1]; exact str_add [102, 110, 32, 102, 40, 41, 32, 123, 32, 120, 32, 61, 32] R0 (by first | omega | (simp; omega)) w
  obtain ⟨D2, hD2⟩ : ∃ D, D = D1 ++ [49] := ⟨_, rfl⟩
  have hm2 : D2.length ≤ 3000 := by rw [hD2, List.length_append]; first | omega | (simp; omega)
  have ha2 : ∀ w, (Op.stringOp .add (strB D1) ⟨#[49]⟩).run Tryz.prog w = .ok (.string (strB D2)) w := fun w => by rw [hD2]; exact str_add D1 [49] (by first | omega | (simp; omega)) w
  obtain ⟨D3, hD3⟩ : ∃ D, D = D2 ++ R1 := ⟨_, rfl⟩
  have hm3 : D3.length ≤ 4000 := by rw [hD3, List.length_append]; first | omega | (simp; omega)
  have ha3 : ∀ w, (Op.stringOp .add (strB D2) (strB R1)).run Tryz.prog w = .ok (.string (strB D3)) w := fun w => by rw [hD3]; exact str_add D2 R1 (by first | omega | (simp; omega)) w
  obtain ⟨D4, hD4⟩ : ∃ D, D = D3 ++ [59, 32, 125] := ⟨_, rfl⟩
  have hm4 : D4.length ≤ 5000 := by rw [hD4, List.length_append]; first | omega | (simp; omega)
  have ha4 : ∀ w, (Op.stringOp .add (strB D3) ⟨#[59, 32, 125]⟩).run Tryz.prog w = .ok (.string (strB D4)) w := fun w => by rw [hD4]; exact str_add D3 [59, 32, 125] (by first | omega | (simp; omega)) w
  have hDD : D = D4 := by rw [hDe.out, hD4, hD3, hD2, hD1, hR0, hR1]; rfl
  replace hD1 := hide hD1
  replace hD2 := hide hD2
  replace hD3 := hide hD3
  replace hD4 := hide hD4
  replace hR0 := hide hR0
  replace hR1 := hide hR1
  replace hDD := hide hDD
  go_wp2_with fail
  refine (times_any [40] k (by omega) (by decide) _).mono ?_
  rintro e w' ⟨rfl, rfl⟩
  rw [← hR0.out]
  go_wp2_with fail
  refine (times_any [41] k (by omega) (by decide) _).mono ?_
  rintro e w' ⟨rfl, rfl⟩
  rw [← hR1.out]
  go_wp2_with fail
  rw [← hDD.out]
  rcases hD.out with ⟨a, m, hx, h40, rfl, rfl⟩ | ⟨f, hx, h40, hbl⟩
  · have hF := Func_any 60 (by decide) D hDl _ (hE.out.below hb.out) (by rw [hx]; exact fun e => by cases e)
    rw [hx] at hF
    refine hF.mono ?_
    rintro e w2 ⟨hb2, rfl⟩
    have hb3 := hide ((hb.out.trans (hb2.mono hb.out.size)).alloc (Nat.le_trans hb.out.size hb2.size) (.cells #[.string ⟨#[]⟩, .slice none 0 0, .slice none 0 0, .slice none 0 0] 27))
    have ht1 : (40 : Int) < (k : Int) + 1 := by omega
    clear hb2 hF
    go_wp2_with fail
    go_ret
    exact ⟨rfl, hb3.out⟩
  · have hF := Func_any 60 (by decide) D hDl _ (hE.out.below hb.out) (by rw [hx]; exact fun e => by cases e)
    rw [hx] at hF
    refine hF.mono ?_
    rintro e w2 ⟨hb2, v2, rfl, hv2⟩
    obtain ⟨A1, c1, A2, c2, A3, c3, rfl, -⟩ := hv2.read
    rw [hbl]
    generalize f.name = fn1 at *
    generalize f.params.length = fn2 at *
    generalize f.locals.length = fn3 at *
    have hb3 := hide ((hb.out.trans (hb2.mono hb.out.size)).alloc (Nat.le_trans hb.out.size hb2.size) (.cells #[.string (strB fn1), .slice A1 fn2 c1, .slice A2 fn3 c2, .slice A3 1 c3] 27))
    have ht1 : ¬ ((40 : Int) < (k : Int) + 1) := by omega
    clear hb2 hF hv2 hbl
    go_wp2_with fail
    go_ret
    exact ⟨rfl, hb3.out⟩

set_option maxRecDepth 100000 in
set_option maxHeartbeats 3200000 in
theorem deep_1 (n how : Nat) (hn : n < 256) (hh : how < 256) (hq : how % 4 = 1) (W : World) (hE : ErrR W) : Calls Tryz.prog 4 #[.int .u8 n, .int .u8 how] W fun e w' => e = .returned (.bool true) ∧ Below W.heap.size W w' := by
  obtain ⟨k, hk⟩ : ∃ k, k = 36 + n % 8 := ⟨_, rfl⟩
  have hk1 : 36 ≤ k := by omega
  have hk2 : k ≤ 43 := by omega
  have hD := deep_end (h := 1) (k := k) (by have := deep_all 1 (by decide) (n % 8) (by omega); rw [hk]; exact this)
  have hDl := deep_len 1 k hk2
  obtain ⟨D, hDe⟩ : ∃ D, D = deepT 1 k := ⟨_, rfl⟩
  rw [← hDe] at hD hDl
  have hK := hide (known_any W hE)
  have hks : (36 + (n : Int) % 8) = (k : Int) := by omega
  have hq0 : (((how : Int) % 4) == 0) = false := beq_false_of_ne (by omega)
  have hq1 : (((how : Int) % 4) == 1) = true := beq_iff_eq.2 (by omega)
  have hq2 : (((how : Int) % 4) == 2) = false := beq_false_of_ne (by omega)
  have hq3 : (((how : Int) % 4) == 3) = false := beq_false_of_ne (by omega)
  replace hD := hide hD
  replace hDe := hide hDe
  replace hk := hide hk
  replace hq := hide hq
  replace hE := hide hE
  go_enter Tryz.func4, Tryz.ntmps4
  go_wp2_with fail
  refine hK.out.mono ?_
  rintro e w1 ⟨rfl, hb⟩
  replace hb := hide hb
  obtain ⟨R0, hR0⟩ : ∃ R, R = rep [45] k := ⟨_, rfl⟩
  have hl0 : R0.length ≤ 700 := by rw [hR0, rep_len]; simp; omega
  obtain ⟨D1, hD1⟩ : ∃ D, D = [102, 110, 32, 102, 40, 41, 32, 123, 32, 120, 32, 61, 32] ++ R0 := ⟨_, rfl⟩
  have hm1 : D1.length ≤ 2000 := by rw [hD1, List.length_append]; first | omega | (simp; omega)
  have ha1 : ∀ w, (Op.stringOp .add ⟨#[102, 110, 32, 102, 40, 41, 32, 123, 32, 120, 32, 61, 32]⟩ (strB R0)).run Tryz.prog w = .ok (.string (strB D1)) w := fun w => by rw [hD1]; exact str_add [102, 110, 32, 102, 40, 41, 32, 123, 32, 120, 32, 61, 32] R0 (by first | omega | (simp; omega)) w
  obtain ⟨D2, hD2⟩ : ∃ D, D = D1 ++ [49, 59, 32, 125] := ⟨_, rfl⟩
  have hm2 : D2.length ≤ 3000 := by rw [hD2, List.length_append]; first | omega | (simp; omega)
  have ha2 : ∀ w, (Op.stringOp .add (strB D1) ⟨#[49, 59, 32, 125]⟩).run Tryz.prog w = .ok (.string (strB D2)) w := fun w => by rw [hD2]; exact str_add D1 [49, 59, 32, 125] (by first | omega | (simp; omega)) w
  have hDD : D = D2 := by rw [hDe.out, hD2, hD1, hR0]; rfl
  replace hD1 := hide hD1
  replace hD2 := hide hD2
  replace hR0 := hide hR0
  replace hDD := hide hDD
  go_wp2_with fail
  refine (times_any [45] k (by omega) (by decide) _).mono ?_
  rintro e w' ⟨rfl, rfl⟩
  rw [← hR0.out]
  go_wp2_with fail
  rw [← hDD.out]
  rcases hD.out with ⟨a, m, hx, h40, rfl, rfl⟩ | ⟨f, hx, h40, hbl⟩
  · have hF := Func_any 60 (by decide) D hDl _ (hE.out.below hb.out) (by rw [hx]; exact fun e => by cases e)
    rw [hx] at hF
    refine hF.mono ?_
    rintro e w2 ⟨hb2, rfl⟩
    have hb3 := hide ((hb.out.trans (hb2.mono hb.out.size)).alloc (Nat.le_trans hb.out.size hb2.size) (.cells #[.string ⟨#[]⟩, .slice none 0 0, .slice none 0 0, .slice none 0 0] 27))
    have ht1 : (40 : Int) < (k : Int) + 1 := by omega
    clear hb2 hF
    go_wp2_with fail
    go_ret
    exact ⟨rfl, hb3.out⟩
  · have hF := Func_any 60 (by decide) D hDl _ (hE.out.below hb.out) (by rw [hx]; exact fun e => by cases e)
    rw [hx] at hF
    refine hF.mono ?_
    rintro e w2 ⟨hb2, v2, rfl, hv2⟩
    obtain ⟨A1, c1, A2, c2, A3, c3, rfl, -⟩ := hv2.read
    rw [hbl]
    generalize f.name = fn1 at *
    generalize f.params.length = fn2 at *
    generalize f.locals.length = fn3 at *
    have hb3 := hide ((hb.out.trans (hb2.mono hb.out.size)).alloc (Nat.le_trans hb.out.size hb2.size) (.cells #[.string (strB fn1), .slice A1 fn2 c1, .slice A2 fn3 c2, .slice A3 1 c3] 27))
    have ht1 : ¬ ((40 : Int) < (k : Int) + 1) := by omega
    clear hb2 hF hv2 hbl
    go_wp2_with fail
    go_ret
    exact ⟨rfl, hb3.out⟩

set_option maxRecDepth 100000 in
set_option maxHeartbeats 3200000 in
theorem deep_2 (n how : Nat) (hn : n < 256) (hh : how < 256) (hq : how % 4 = 2) (W : World) (hE : ErrR W) : Calls Tryz.prog 4 #[.int .u8 n, .int .u8 how] W fun e w' => e = .returned (.bool true) ∧ Below W.heap.size W w' := by
  obtain ⟨k, hk⟩ : ∃ k, k = 36 + n % 8 := ⟨_, rfl⟩
  have hk1 : 36 ≤ k := by omega
  have hk2 : k ≤ 43 := by omega
  have hD := deep_end (h := 2) (k := k) (by have := deep_all 2 (by decide) (n % 8) (by omega); rw [hk]; exact this)
  have hDl := deep_len 2 k hk2
  obtain ⟨D, hDe⟩ : ∃ D, D = deepT 2 k := ⟨_, rfl⟩
  rw [← hDe] at hD hDl
  have hK := hide (known_any W hE)
  have hks : (36 + (n : Int) % 8) = (k : Int) := by omega
  have hq0 : (((how : Int) % 4) == 0) = false := beq_false_of_ne (by omega)
  have hq1 : (((how : Int) % 4) == 1) = false := beq_false_of_ne (by omega)
  have hq2 : (((how : Int) % 4) == 2) = true := beq_iff_eq.2 (by omega)
  have hq3 : (((how : Int) % 4) == 3) = false := beq_false_of_ne (by omega)
  replace hD := hide hD
  replace hDe := hide hDe
  replace hk := hide hk
  replace hq := hide hq
  replace hE := hide hE
  go_enter Tryz.func4, Tryz.ntmps4
  go_wp2_with fail
  refine hK.out.mono ?_
  rintro e w1 ⟨rfl, hb⟩
  replace hb := hide hb
  obtain ⟨R0, hR0⟩ : ∃ R, R = rep [33] k := ⟨_, rfl⟩
  have hl0 : R0.length ≤ 700 := by rw [hR0, rep_len]; simp; omega
  obtain ⟨D1, hD1⟩ : ∃ D, D = [102, 110, 32, 102, 40, 41, 32, 123, 32, 97, 115, 115, 101, 114, 116, 32, 40] ++ R0 := ⟨_, rfl⟩
  have hm1 : D1.length ≤ 2000 := by rw [hD1, List.length_append]; first | omega | (simp; omega)
  have ha1 : ∀ w, (Op.stringOp .add ⟨#[102, 110, 32, 102, 40, 41, 32, 123, 32, 97, 115, 115, 101, 114, 116, 32, 40]⟩ (strB R0)).run Tryz.prog w = .ok (.string (strB D1)) w := fun w => by rw [hD1]; exact str_add [102, 110, 32, 102, 40, 41, 32, 123, 32, 97, 115, 115, 101, 114, 116, 32, 40] R0 (by first | omega | (simp; omega)) w
  obtain ⟨D2, hD2⟩ : ∃ D, D = D1 ++ [120, 32, 61, 61, 32, 49, 41, 59, 32, 125] := ⟨_, rfl⟩
  have hm2 : D2.length ≤ 3000 := by rw [hD2, List.length_append]; first | omega | (simp; omega)
  have ha2 : ∀ w, (Op.stringOp .add (strB D1) ⟨#[120, 32, 61, 61, 32, 49, 41, 59, 32, 125]⟩).run Tryz.prog w = .ok (.string (strB D2)) w := fun w => by rw [hD2]; exact str_add D1 [120, 32, 61, 61, 32, 49, 41, 59, 32, 125] (by first | omega | (simp; omega)) w
  have hDD : D = D2 := by rw [hDe.out, hD2, hD1, hR0]; rfl
  replace hD1 := hide hD1
  replace hD2 := hide hD2
  replace hR0 := hide hR0
  replace hDD := hide hDD
  go_wp2_with fail
  refine (times_any [33] k (by omega) (by decide) _).mono ?_
  rintro e w' ⟨rfl, rfl⟩
  rw [← hR0.out]
  go_wp2_with fail
  rw [← hDD.out]
  rcases hD.out with ⟨a, m, hx, h40, rfl, rfl⟩ | ⟨f, hx, h40, hbl⟩
  · have hF := Func_any 60 (by decide) D hDl _ (hE.out.below hb.out) (by rw [hx]; exact fun e => by cases e)
    rw [hx] at hF
    refine hF.mono ?_
    rintro e w2 ⟨hb2, rfl⟩
    have hb3 := hide ((hb.out.trans (hb2.mono hb.out.size)).alloc (Nat.le_trans hb.out.size hb2.size) (.cells #[.string ⟨#[]⟩, .slice none 0 0, .slice none 0 0, .slice none 0 0] 27))
    have ht1 : (40 : Int) < (k : Int) + 1 := by omega
    clear hb2 hF
    go_wp2_with fail
    go_ret
    exact ⟨rfl, hb3.out⟩
  · have hF := Func_any 60 (by decide) D hDl _ (hE.out.below hb.out) (by rw [hx]; exact fun e => by cases e)
    rw [hx] at hF
    refine hF.mono ?_
    rintro e w2 ⟨hb2, v2, rfl, hv2⟩
    obtain ⟨A1, c1, A2, c2, A3, c3, rfl, -⟩ := hv2.read
    rw [hbl]
    generalize f.name = fn1 at *
    generalize f.params.length = fn2 at *
    generalize f.locals.length = fn3 at *
    have hb3 := hide ((hb.out.trans (hb2.mono hb.out.size)).alloc (Nat.le_trans hb.out.size hb2.size) (.cells #[.string (strB fn1), .slice A1 fn2 c1, .slice A2 fn3 c2, .slice A3 1 c3] 27))
    have ht1 : ¬ ((40 : Int) < (k : Int) + 1) := by omega
    clear hb2 hF hv2 hbl
    go_wp2_with fail
    go_ret
    exact ⟨rfl, hb3.out⟩

set_option maxRecDepth 100000 in
set_option maxHeartbeats 3200000 in
theorem deep_3 (n how : Nat) (hn : n < 256) (hh : how < 256) (hq : how % 4 = 3) (W : World) (hE : ErrR W) : Calls Tryz.prog 4 #[.int .u8 n, .int .u8 how] W fun e w' => e = .returned (.bool true) ∧ Below W.heap.size W w' := by
  obtain ⟨k, hk⟩ : ∃ k, k = 36 + n % 8 := ⟨_, rfl⟩
  have hk1 : 36 ≤ k := by omega
  have hk2 : k ≤ 43 := by omega
  have hD := deep_end (h := 3) (k := k) (by have := deep_all 3 (by decide) (n % 8) (by omega); rw [hk]; exact this)
  have hDl := deep_len 3 k hk2
  obtain ⟨D, hDe⟩ : ∃ D, D = deepT 3 k := ⟨_, rfl⟩
  rw [← hDe] at hD hDl
  have hK := hide (known_any W hE)
  have hks : (36 + (n : Int) % 8) = (k : Int) := by omega
  have hq0 : (((how : Int) % 4) == 0) = false := beq_false_of_ne (by omega)
  have hq1 : (((how : Int) % 4) == 1) = false := beq_false_of_ne (by omega)
  have hq2 : (((how : Int) % 4) == 2) = false := beq_false_of_ne (by omega)
  have hq3 : (((how : Int) % 4) == 3) = true := beq_iff_eq.2 (by omega)
  replace hD := hide hD
  replace hDe := hide hDe
  replace hk := hide hk
  replace hq := hide hq
  replace hE := hide hE
  go_enter Tryz.func4, Tryz.ntmps4
  go_wp2_with fail
  refine hK.out.mono ?_
  rintro e w1 ⟨rfl, hb⟩
  replace hb := hide hb
  obtain ⟨R0, hR0⟩ : ∃ R, R = rep [105, 102, 32, 40, 120, 32, 61, 61, 32, 49, 41, 32, 123, 32] k := ⟨_, rfl⟩
  have hl0 : R0.length ≤ 700 := by rw [hR0, rep_len]; simp; omega
  obtain ⟨R1, hR1⟩ : ∃ R, R = rep [125, 32] k := ⟨_, rfl⟩
  have hl1 : R1.length ≤ 700 := by rw [hR1, rep_len]; simp; omega
  obtain ⟨D1, hD1⟩ : ∃ D, D = [102, 110, 32, 102, 40, 41, 32, 123, 32] ++ R0 := ⟨_, rfl⟩
  have hm1 : D1.length ≤ 2000 := by rw [hD1, List.length_append]; first | omega | (simp; omega)
  have ha1 : ∀ w, (Op.stringOp .add ⟨#[102, 110, 32, 102, 40, 41, 32, 123, 32]⟩ (strB R0)).run Tryz.prog w = .ok (.string (strB D1)) w := fun w => by rw [hD1]; exact str_add [102, 110, 32, 102, 40, 41, 32, 123, 32] R0 (by first | omega | (simp; omega)) w
  obtain ⟨D2, hD2⟩ : ∃ D, D = D1 ++ R1 := ⟨_, rfl⟩
  have hm2 : D2.length ≤ 3000 := by rw [hD2, List.length_append]; first | omega | (simp; omega)
  have ha2 : ∀ w, (Op.stringOp .add (strB D1) (strB R1)).run Tryz.prog w = .ok (.string (strB D2)) w := fun w => by rw [hD2]; exact str_add D1 R1 (by first | omega | (simp; omega)) w
  obtain ⟨D3, hD3⟩ : ∃ D, D = D2 ++ [125] := ⟨_, rfl⟩
  have hm3 : D3.length ≤ 4000 := by rw [hD3, List.length_append]; first | omega | (simp; omega)
  have ha3 : ∀ w, (Op.stringOp .add (strB D2) ⟨#[125]⟩).run Tryz.prog w = .ok (.string (strB D3)) w := fun w => by rw [hD3]; exact str_add D2 [125] (by first | omega | (simp; omega)) w
  have hDD : D = D3 := by rw [hDe.out, hD3, hD2, hD1, hR0, hR1]; rfl
  replace hD1 := hide hD1
  replace hD2 := hide hD2
  replace hD3 := hide hD3
  replace hR0 := hide hR0
  replace hR1 := hide hR1
  replace hDD := hide hDD
  go_wp2_with fail
  refine (times_any [105, 102, 32, 40, 120, 32, 61, 61, 32, 49, 41, 32, 123, 32] k (by omega) (by decide) _).mono ?_
  rintro e w' ⟨rfl, rfl⟩
  rw [← hR0.out]
  go_wp2_with fail
  refine (times_any [125, 32] k (by omega) (by decide) _).mono ?_
  rintro e w' ⟨rfl, rfl⟩
  rw [← hR1.out]
  go_wp2_with fail
  rw [← hDD.out]
  rcases hD.out with ⟨a, m, hx, h40, rfl, rfl⟩ | ⟨f, hx, h40, hbl⟩
  · have hF := Func_any 60 (by decide) D hDl _ (hE.out.below hb.out) (by rw [hx]; exact fun e => by cases e)
    rw [hx] at hF
    refine hF.mono ?_
    rintro e w2 ⟨hb2, rfl⟩
    have hb3 := hide ((hb.out.trans (hb2.mono hb.out.size)).alloc (Nat.le_trans hb.out.size hb2.size) (.cells #[.string ⟨#[]⟩, .slice none 0 0, .slice none 0 0, .slice none 0 0] 27))
    have ht1 : (40 : Int) < (k : Int) + 1 := by omega
    clear hb2 hF
    go_wp2_with fail
    go_ret
    exact ⟨rfl, hb3.out⟩
  · have hF := Func_any 60 (by decide) D hDl _ (hE.out.below hb.out) (by rw [hx]; exact fun e => by cases e)
    rw [hx] at hF
    refine hF.mono ?_
    rintro e w2 ⟨hb2, v2, rfl, hv2⟩
    obtain ⟨A1, c1, A2, c2, A3, c3, rfl, -⟩ := hv2.read
    rw [hbl]
    generalize f.name = fn1 at *
    generalize f.params.length = fn2 at *
    generalize f.locals.length = fn3 at *
    have hb3 := hide ((hb.out.trans (hb2.mono hb.out.size)).alloc (Nat.le_trans hb.out.size hb2.size) (.cells #[.string (strB fn1), .slice A1 fn2 c1, .slice A2 fn3 c2, .slice A3 1 c3] 27))
    have ht1 : ¬ ((40 : Int) < (k : Int) + 1) := by omega
    clear hb2 hF hv2 hbl
    go_wp2_with fail
    go_ret
    exact ⟨rfl, hb3.out⟩
theorem parseDeep_any (n how : Nat) (hn : n < 256) (hh : how < 256) (W : World) (hE : ErrR W) : Calls Tryz.prog 4 #[.int .u8 n, .int .u8 how] W fun e w' => e = .returned (.bool true) ∧ Below W.heap.size W w' := by
  have h4 : how % 4 = 0 ∨ how % 4 = 1 ∨ how % 4 = 2 ∨ how % 4 = 3 := by omega
  rcases h4 with h | h | h | h
  · exact deep_0 n how hn hh h W hE
  · exact deep_1 n how hn hh h W hE
  · exact deep_2 n how hn hh h W hE
  · exact deep_3 n how hn hh h W hE
theorem parseDeep_int (n how : Int) (h1 : 0 ≤ n ∧ n < 256) (h2 : 0 ≤ how ∧ how < 256) (W : World) (hE : ErrR W) : Calls Tryz.prog 4 #[.int .u8 n, .int .u8 how] W fun e w' => e = .returned (.bool true) ∧ Below W.heap.size W w' := by
  obtain ⟨n', rfl⟩ := Int.eq_ofNat_of_zero_le h1.1
  obtain ⟨m', rfl⟩ := Int.eq_ofNat_of_zero_le h2.1
  exact parseDeep_any n' m' (by omega) (by omega) W hE
end Go.Proofs.YteplkhgaoaphhaaGreatDoor
/- What the listed variables give the walks: strconv.ErrRange holds an error. -/
namespace Go.Proofs.YteplkhgaoaphhaaGreatDoor
open Go Go.RowKit
theorem errName : Tryz.prog.globalNamed "strconv.ErrRange" = some 1 := by kernel_rfl
theorem errStar : "*" ++ "errors.errorString" = "*errors.errorString" := by decide
theorem errRow (u : TypeId) (h : Tryz.prog.typeName? 3 u = some "*errors.errorString") : u = 158 :=
  typeName_ptr_named (nm := "errors.errorString") (by rw [errStar]; kernel_rfl) (by kernel_rfl) (by decide) u (by rw [errStar]; exact h)
theorem errOf {W : World} (h : laidMetH Tryz.prog Rows.parseDeepRow.laid W) : ErrR W := by
  rw [MakeChecks.laidMetH_plain _ _ _ (by kernel_rfl)] at h
  have h3 := laidMet.tail (laidMet.tail (laidMet.tail h))
  obtain ⟨a, s, hv, -, -, -⟩ := laid_sentinel h3 errName (ti := 134) (by kernel_rfl) Tryz.underlying134 errRow Tryz.underlying158 Tryz.underlying160 rfl rfl Tryz.underlying9 (by kernel_rfl) (by kernel_rfl)
  exact ⟨_, _, by have h0 := World.var?_cell errName hv 0; simpa using h0⟩
end Go.Proofs.YteplkhgaoaphhaaGreatDoor
