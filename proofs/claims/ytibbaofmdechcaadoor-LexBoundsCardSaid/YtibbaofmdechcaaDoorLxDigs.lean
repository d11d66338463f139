/- Numbers' texts; words, spaces, read to their end. -/
import Derived.Test.YtibbaofmdechcaaDoorLxK
import Derived.Deep.Matrix
namespace Go.Proofs.YtibbaofmdechcaaDoor
open Go Go.RowKit

/-- A number's digits, of at most f. -/
def digs : Nat → Nat → List UInt8
  | 0, _ => []
  | f + 1, n => if n < 10 then [UInt8.ofNat (48 + n)] else digs f (n / 10) ++ digs f (n % 10)
theorem digs_small {f n : Nat} (h : n < 10) : digs (f + 1) n = [UInt8.ofNat (48 + n)] := by rw [digs, if_pos h]
theorem digs_great {f n : Nat} (h : ¬ n < 10) (hf : 1 ≤ f) : digs (f + 1) n = digs f (n / 10) ++ [UInt8.ofNat (48 + n % 10)] := by
  obtain ⟨k, rfl⟩ : ∃ k, f = k + 1 := ⟨f - 1, by omega⟩
  rw [digs, if_neg h, digs_small (n := n % 10) (by omega)]
theorem fuel_pos {f n : Nat} (h : ¬ n < 10) (hf : n < 10 ^ (f + 1)) : 1 ≤ f := by
  rcases f with _ | f
  · simp at hf; omega
  · omega
theorem digit_of {m : Nat} (h : m < 10) : (UInt8.ofNat (48 + m)).toNat = 48 + m := by
  rw [UInt8.toNat_ofNat']; exact Nat.mod_eq_of_lt (by omega)
theorem digs_val : ∀ (f n : Nat), n < 10 ^ (f + 1) → valL (digs (f + 1) n) = n ∧ (∀ c ∈ digs (f + 1) n, digitB c.toNat = true) ∧ (digs (f + 1) n).length ≤ f + 1 ∧ ∃ c r, digs (f + 1) n = c :: r ∧ (c.toNat = 48 → n = 0 ∧ r = []) := by
  intro f
  induction f with
  | zero =>
    intro n hn
    have h : n < 10 := by simpa using hn
    rw [digs_small h]
    have e := digit_of h
    refine ⟨?_, ?_, by simp, _, _, rfl, fun h2 => ⟨by omega, rfl⟩⟩
    · show 10 * 0 + ((UInt8.ofNat (48 + n)).toNat - 48) = n
      omega
    · intro c hc
      rw [List.mem_singleton] at hc
      rw [hc, e]; unfold digitB; exact decide_eq_true (by omega)
  | succ f ih =>
    intro n hn
    by_cases h : n < 10
    · rw [digs_small h]
      have e := digit_of h
      refine ⟨?_, ?_, by simp, _, _, rfl, fun h2 => ⟨by omega, rfl⟩⟩
      · show 10 * 0 + ((UInt8.ofNat (48 + n)).toNat - 48) = n
        omega
      · intro c hc
        rw [List.mem_singleton] at hc
        rw [hc, e]; unfold digitB; exact decide_eq_true (by omega)
    · rw [digs_great h (by omega)]
      obtain ⟨h1, h2, h3, c, r, h4, h5⟩ := ih (n / 10) (by rw [Nat.pow_succ] at hn; omega)
      have e := digit_of (Nat.mod_lt n (by decide : 10 > 0))
      refine ⟨?_, ?_, by rw [List.length_append]; simp; omega, c, r ++ [UInt8.ofNat (48 + n % 10)], by rw [h4]; rfl, fun h6 => ?_⟩
      · rw [valL_snoc, h1, e]; omega
      · intro x hx
        rw [List.mem_append, List.mem_singleton] at hx
        rcases hx with hx | rfl
        · exact h2 x hx
        · rw [e]; unfold digitB; exact decide_eq_true (by omega)
      · have := (h5 h6).1
        omega

theorem digit_cut (n : Nat) (h : n < 10) (w : World) : (Instr.slice 9 (.string ⟨#[48, 49, 50, 51, 52, 53, 54, 55, 56, 57]⟩) (some (.int .u64 n)) (some (.int .u64 ((n : Int) + 1))) none).run Tryd.prog w = .ok (.string (strB [UInt8.ofNat (48 + n)])) w := by
  have hz : (strB [48, 49, 50, 51, 52, 53, 54, 55, 56, 57]).size = 10 := rfl
  have h := run_slice_string (P := Tryd.prog) w 9 (strB [48, 49, 50, 51, 52, 53, 54, 55, 56, 57]) .u64 .u64 n ((n : Int) + 1) Tryd.underlying9 (by omega) (by omega) (by omega)
  refine h.trans ?_
  have key : ∀ k, k < 10 → ByteArray.extract (strB [48, 49, 50, 51, 52, 53, 54, 55, 56, 57]) k (k + 1) = strB [UInt8.ofNat (48 + k)] := by
    intro k hk
    match k, hk with
    | 0, _ => rfl
    | 1, _ => rfl
    | 2, _ => rfl
    | 3, _ => rfl
    | 4, _ => rfl
    | 5, _ => rfl
    | 6, _ => rfl
    | 7, _ => rfl
    | 8, _ => rfl
    | 9, _ => rfl
  have e : ((n : Int) + 1).toNat = n + 1 := by omega
  rw [e, Int.toNat_natCast, key n (by omega)]
set_option maxRecDepth 100000 in
theorem digits_small (f n : Nat) (w : World) (h : n < 10) : Calls Tryd.prog 12 #[.int .u64 n] w fun e w' => e = .returned (.string (strB (digs (f + 1) n))) ∧ w' = w := by
  have h' : (n : Int) < 10 := by omega
  have hc := digit_cut n h
  rw [digs_small h]
  generalize UInt8.ofNat (48 + n) = c at *
  go_enter Tryd.func12, Tryd.ntmps12
  go_wp2_with fail
  go_ret
  exact ⟨rfl, rfl⟩
set_option maxRecDepth 100000 in
theorem digits_any : ∀ (f n : Nat) (w : World), n < 10 ^ (f + 1) → n < 18446744073709551616 → f ≤ 20 → Calls Tryd.prog 12 #[.int .u64 n] w fun e w' => e = .returned (.string (strB (digs (f + 1) n))) ∧ w' = w := by
  intro f
  induction f with
  | zero =>
    intro n w hn _ _
    exact digits_small 0 n w (by simpa using hn)
  | succ f ih =>
    intro n w hn h64 hf
    by_cases h : n < 10
    · exact digits_small _ n w h
    · have h' : ¬ (n : Int) < 10 := by omega
      have hm : n % 10 < 10 := Nat.mod_lt _ (by decide)
      have h1 := hide (ih (n / 10) w (by rw [Nat.pow_succ] at hn; omega) (by omega) (by omega))
      have h2 := hide (digits_small f (n % 10) w hm)
      rw [digs_small hm] at h2
      have hl1 := (digs_val f (n / 10) (by rw [Nat.pow_succ] at hn; omega)).2.2.1
      have q1 := hide (show IntKind.u64.wrap ((n : Int) / 10) = ((n / 10 : Nat) : Int) by simp [IntKind.wrap, IntKind.bits, IntKind.signed]; omega)
      have q2 := hide (show (n : Int) % 10 = ((n % 10 : Nat) : Int) by omega)
      have hadd : ∀ w, (Op.stringOp .add (strB (digs (f + 1) (n / 10))) (strB [UInt8.ofNat (48 + n % 10)])).run Tryd.prog w = .ok (.string (strB (digs (f + 1) (n / 10) ++ [UInt8.ofNat (48 + n % 10)]))) w := fun w => str_add (digs (f + 1) (n / 10)) [UInt8.ofNat (48 + n % 10)] (by simp; omega) w
      rw [digs_great h (by omega)]
      generalize digs (f + 1) (n / 10) = D at *
      generalize UInt8.ofNat (48 + n % 10) = c at *
      replace h64 := hide h64
      replace hn := hide hn
      clear ih
      go_enter Tryd.func12, Tryd.ntmps12
      go_wp2_with fail
      rw [q1.out]
      refine h1.out.mono ?_
      rintro e w' ⟨rfl, rfl⟩
      go_wp2_with fail
      rw [q2.out]
      refine h2.out.mono ?_
      rintro e w' ⟨rfl, rfl⟩
      go_wp2_with fail
      go_ret
      exact ⟨rfl, rfl⟩

section
variable {k fr : Nat} {ts : List Tok}
/-- A word that goes on to the text's end. -/
theorem run_word (rest tail : List UInt8) : ∀ (w : List UInt8) (j : Nat), (∀ w c, c ∈ rest → (St.word k fr w).goes c = true) → runT (.word k fr w) j ts (rest ++ tail) = runT (.word k fr (w ++ rest)) (j + rest.length) ts tail := by
  induction rest with
  | nil => intro w j _; simp
  | cons c r ih =>
    intro w j hg
    rw [List.cons_append, runT_goes (hg w c (List.mem_cons_self ..))]
    show runT (.word k fr (w ++ [c])) (j + 1) ts (r ++ tail) = _
    rw [ih (w ++ [c]) (j + 1) fun w' x hx => hg w' x (List.mem_cons_of_mem _ hx)]
    rw [List.append_assoc, List.length_cons]
    congr 1
    omega
end
theorem run_end {st : St} {j : Nat} {ts ts' : List Tok} (hg : st.goes 10 = false) (hf : st.fin ts 10 = .ok ts') : runT st j ts [10] = .ok ts' := by
  rw [runT_ok hg hf]; rfl
theorem run_fell {st : St} {j : Nat} {ts : List Tok} {x : Nat × Nat} (hg : st.goes 10 = false) (hf : st.fin ts 10 = .error x) : runT st j ts [10] = .error x := runT_err hg hf
/-- A number's text. -/
theorem lex_digs {f n : Nat} (hf : f ≤ 20) (hn : n < 10 ^ (f + 1)) : lexT (digs (f + 1) n) = if 9223372036854775807 < n then .error (0, 53) else .ok [⟨1, digs (f + 1) n, 0⟩] := by
  obtain ⟨h1, h2, h3, c, r, h4, h5⟩ := digs_val f n hn
  generalize digs (f + 1) n = D at *
  subst h4
  have hc := h2 c (List.mem_cons_self ..)
  have hd := hc
  unfold digitB at hd
  replace hd := of_decide_eq_true hd
  have e : lexT (c :: r) = runT (St.begin 0 c) 1 [] (r ++ [10]) := by
    unfold lexT
    rw [if_neg (by omega), List.cons_append, runT_start]
  have hb : blankB c.toNat = false := by unfold blankB; exact decide_eq_false (by omega)
  have hl : letterB c.toNat = false := by unfold letterB; exact decide_eq_false (by omega)
  have h35 : c ≠ 35 := by rintro rfl; exact absurd hd (by decide)
  rw [e, begin_num hb h35 hl hc, run_word (k := 1) (fr := 0) r [10] [c] 1 fun w x hx => h2 x (List.mem_cons_of_mem _ hx)]
  by_cases hg : 9223372036854775807 < n
  · rw [if_pos hg]
    refine run_fell rfl (fin_err (n := 53) ?_ (by decide))
    rw [fault_num, faultN, if_pos]
    rw [← h1] at hg
    exact hg
  · rw [if_neg hg]
    refine run_end rfl (fin_ok ?_)
    show fault 1 (c :: r) 10 = 0
    rw [fault_rest (c := c) (n := (c :: r).length) rfl rfl (by rw [h1]; exact hg), if_neg]
    rintro (h | ⟨h, h6⟩)
    · exact absurd h (by decide)
    · have := (h5 h).2
      rw [this] at h6
      simp at h6
/-- A name of k letters x, behind a blank. -/
theorem lex_xs (k : Nat) (hk : k + 1 ≤ 4096) (h0 : 0 < k) : lexT (32 :: List.replicate k 120) = if 32 < k then .error (1, 53) else .ok [⟨0, List.replicate k 120, 1⟩] := by
  obtain ⟨m, rfl⟩ : ∃ m, k = m + 1 := ⟨k - 1, by omega⟩
  have e : lexT (32 :: List.replicate (m + 1) 120) = runT (.word 0 1 [120]) 2 [] (List.replicate m 120 ++ [10]) := by
    unfold lexT
    rw [if_neg (by simp; omega)]
    rfl
  rw [e, run_word (k := 0) (fr := 1) (List.replicate m 120) [10] [120] 2 fun w x hx => by rw [List.eq_of_mem_replicate hx]; rfl]
  have e2 : [120] ++ List.replicate m (120 : UInt8) = List.replicate (m + 1) 120 := rfl
  rw [e2]
  by_cases hg : 32 < m + 1
  · rw [if_pos hg]
    refine run_fell rfl (fin_err (n := 53) ?_ (by decide))
    rw [fault_name, if_pos (by simp; omega)]
  · rw [if_neg hg]
    refine run_end rfl (fin_ok ?_)
    rw [fault_name, if_neg (by simp; omega)]
/-- Blanks alone. -/
theorem run_spaces : ∀ (m j : Nat) (ts : List Tok), runT .blank j ts (List.replicate m 32 ++ [10]) = .ok ts
  | 0, _, _ => rfl
  | m + 1, j, ts => by
    rw [List.replicate_succ, List.cons_append, runT_start]
    exact run_spaces m (j + 1) ts
theorem lex_spaces (m : Nat) : lexT (List.replicate m 32) = if 4096 < m then .error (0, 53) else .ok [] := by
  unfold lexT
  rw [List.length_replicate, run_spaces]
end Go.Proofs.YtibbaofmdechcaaDoor
