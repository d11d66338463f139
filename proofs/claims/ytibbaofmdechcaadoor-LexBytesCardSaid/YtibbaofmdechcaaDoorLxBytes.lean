/- The walk of LexBytes. -/
import Derived.Test.YtibbaofmdechcaaDoorLxK
namespace Go.Proofs.YtibbaofmdechcaaDoor
open Go Go.RowKit

/-- What a byte between blanks is. -/
theorem lex_byte (c : UInt8) : lexT [32, c, 32] = .ok [] ∨ (∃ k, k ≤ 2 ∧ lexT [32, c, 32] = .ok [⟨k, [c], 1⟩]) ∨ lexT [32, c, 32] = .error (1, 50) := by
  have e : lexT [32, c, 32] = runT (St.begin 1 c) 2 [] [32, 10] := rfl
  rw [e]
  cases h1 : blankB c.toNat with
  | true => rw [begin_blank h1]; exact .inl rfl
  | false =>
    by_cases h2 : c = 35
    · subst h2; exact .inl rfl
    · cases h3 : letterB c.toNat with
      | true =>
        rw [begin_name h1 h2 h3, runT_fresh (st := .word 0 1 [c]) (ts' := [⟨0, [c], 1⟩]) rfl (fin_ok rfl)]
        exact .inr (.inl ⟨0, by omega, rfl⟩)
      | false =>
        cases h5 : digitB c.toNat with
        | true =>
          have hd := h5
          unfold digitB at hd
          replace hd := of_decide_eq_true hd
          have hv : valL [c] = c.toNat - 48 := by show 10 * 0 + (c.toNat - 48) = _; omega
          have hf : fault 1 [c] 32 = 0 := by
            rw [fault_rest (c := c) (n := 1) rfl rfl (by rw [hv]; omega), if_neg]
            rintro (h | h)
            · exact absurd h (by decide)
            · omega
          rw [begin_num h1 h2 h3 h5, runT_fresh (st := .word 1 1 [c]) (ts' := [⟨1, [c], 1⟩]) rfl (fin_ok hf)]
          exact .inr (.inl ⟨1, by omega, rfl⟩)
        | false =>
          rw [begin_op h1 h2 h3 h5]
          have hg : (St.word 2 1 [c]).goes 32 = false := by
            show isOp [c, 32] = false
            rw [Bool.eq_false_iff, ne_eq, isOp_two]
            rintro (⟨-, h⟩ | ⟨-, h⟩ | ⟨-, h⟩ | ⟨-, h⟩ | ⟨-, h⟩ | ⟨-, h⟩)
            all_goals exact absurd h (by decide)
          cases h6 : isOp [c] with
          | true =>
            rw [runT_fresh hg (fin_ok (by rw [fault_op, if_pos h6]))]
            exact .inr (.inl ⟨2, by omega, rfl⟩)
          | false =>
            rw [runT_err hg (fin_err (n := 50) (by rw [fault_op, if_neg (by rw [h6]; simp)]) (by decide))]
            exact .inr (.inr rfl)

set_option maxRecDepth 100000 in
set_option maxHeartbeats 1600000 in
theorem lexBytes_any (c : UInt8) (W : World) (hE : ErrR W) : Calls Tryd.prog 7 #[.int .u8 c.toNat] W fun e w' => e = .returned (.bool true) ∧ Below W.heap.size W w' := by
  have hK := hide (known_any W hE)
  replace hE := hide hE
  have hadd1 : ∀ w, (Op.stringOp .add ⟨#[32]⟩ ⟨#[c]⟩).run Tryd.prog w = .ok (.string (strB [32, c])) w := fun w => str_add [32] [c] (by simp) w
  have hadd2 : ∀ w, (Op.stringOp .add (strB [32, c]) ⟨#[32]⟩).run Tryd.prog w = .ok (.string (strB [32, c, 32])) w := fun w => str_add [32, c] [32] (by simp) w
  go_enter Tryd.func7, Tryd.ntmps7
  go_wp2_with fail
  refine hK.out.mono ?_
  rintro e w1 ⟨rfl, hb⟩
  replace hb := hide hb
  have hconv : (convert 31 9 (.slice (some ⟨w1.heap.size, 0, none⟩) 1 1)).run Tryd.prog (w1.alloc (.cells #[.int .u8 c.toNat] 5)) = .ok (.string ⟨#[c]⟩) (w1.alloc (.cells #[.int .u8 c.toNat] 5)) :=
    (BytesV.new w1 [c] _ 5 (0, 0) 1 1 w1.heap.size (w1.heap.size + 1) rfl (by omega) rfl rfl rfl (by simp [maxLen])).string Tryd.underlying31 Tryd.underlying5 Tryd.underlying9
  have hbn := hide (hb.out.alloc hb.out.size (.cells #[.int .u8 c.toNat] 5))
  have h1 := hide (tokens_any [32, c, 32] (by simp) _ (hE.out.below hbn.out))
  go_wp2_with fail
  refine h1.out.mono ?_
  intro e w2 hr
  have h2 := hide (refTokens_any [32, c, 32] (by simp) w2)
  rcases lex_byte c with hR | ⟨k, hk, hR⟩ | hR
  · rw [hR] at hr h2
    obtain ⟨A, c1, rfl, hv, hb2⟩ := tokF_ok hr
    have hb2' := hide (hbn.out.trans (hb2.mono hbn.out.size))
    replace hv := hide hv
    clear hr hb2 h1 hR hconv
    go_wp2_with fail
    refine h2.out.mono ?_
    intro e w3 hr
    obtain ⟨A2, c2, rfl, hv2, hb3⟩ := tokF_ok hr
    have hb3' := hide (hb2'.out.trans (hb3.mono hb2'.out.size))
    have hS := hide (sameToks_any _ _ _ _ [] w3 (hv.out.below hb3) hv2)
    clear hr hb3 hv2
    go_wp2_with fail
    refine hS.out.mono ?_
    rintro e w4 ⟨rfl, hb4⟩
    have hb4' := hide (hb3'.out.trans (hb4.mono hb3'.out.size))
    clear hb4
    go_wp2_with fail
    go_ret
    exact ⟨rfl, hb4'.out⟩
  · rw [hR] at hr h2
    obtain ⟨A, c1, rfl, hv, hb2⟩ := tokF_ok hr
    have hb2' := hide (hbn.out.trans (hb2.mono hbn.out.size))
    replace hv := hide hv
    clear hr hb2 h1 hR hconv
    go_wp2_with fail
    refine h2.out.mono ?_
    intro e w3 hr
    obtain ⟨A2, c2, rfl, hv2, hb3⟩ := tokF_ok hr
    have hb3' := hide (hb2'.out.trans (hb3.mono hb2'.out.size))
    have hv3 := hv.out.below hb3
    have hS := hide (sameToks_any _ _ _ _ _ w3 hv3 hv2)
    clear hr hb3 hv2
    go_wp2_with fail
    refine hS.out.mono ?_
    rintro e w4 ⟨rfl, hb4⟩
    obtain ⟨b, rfl, -, p0, p1, p2⟩ := (hv3.below hb4).get (i := 0) (by simp)
    simp at p0 p2
    have hb4' := hide (hb3'.out.trans (hb4.mono hb3'.out.size))
    have hk2 : (k : Int) ≤ 2 := by omega
    clear hb4 hv3 p1
    go_wp2_with fail
    go_ret
    exact ⟨rfl, hb4'.out⟩
  · rw [hR] at hr h2
    obtain ⟨rfl, -, hb2⟩ := tokF_err hr
    have hb2' := hide (hbn.out.trans (hb2.mono hbn.out.size))
    clear hr hb2 h1 hR hconv
    go_wp2_with fail
    refine h2.out.mono ?_
    intro e w3 hr
    obtain ⟨rfl, -, hb3⟩ := tokF_err hr
    have hb3' := hide (hb2'.out.trans (hb3.mono hb2'.out.size))
    have hS := hide (sameToks_any 0 0 (.slice none 0 0) (.slice none 0 0) [] w3 (World.ownsRow_nil _ _ _ _) (World.ownsRow_nil _ _ _ _))
    clear hr hb3
    go_wp2_with fail
    refine hS.out.mono ?_
    rintro e w4 ⟨rfl, hb4⟩
    have hb4' := hide (hb3'.out.trans (hb4.mono hb3'.out.size))
    clear hb4
    go_wp2_with fail
    go_ret
    exact ⟨rfl, hb4'.out⟩
theorem lexBytes_int {n : Int} (h : 0 ≤ n ∧ n ≤ 255) (W : World) (hE : ErrR W) : Calls Tryd.prog 7 #[.int .u8 n] W fun e w' => e = .returned (.bool true) ∧ Below W.heap.size W w' := by
  have e : n = ((UInt8.ofNat n.toNat).toNat : Int) := by
    rw [UInt8.toNat_ofNat']
    have : n.toNat % 2 ^ 8 = n.toNat := Nat.mod_eq_of_lt (by omega)
    omega
  rw [e]
  exact lexBytes_any _ W hE
end Go.Proofs.YtibbaofmdechcaaDoor
