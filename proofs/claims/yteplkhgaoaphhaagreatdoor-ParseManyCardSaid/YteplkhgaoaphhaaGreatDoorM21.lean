/- Part 21 of the walks (merged): ManyW, Err7. -/
import Derived.Test.YteplkhgaoaphhaaGreatDoorM20
import Derived.Test.YteplkhgaoaphhaaGreatDoorM2
import Derived.Test.YteplkhgaoaphhaaGreatDoorCards
import Derived.Stop.LaidErr
import Derived.MakeChecks
/- The walk of ParseMany. -/
namespace Go.Proofs.YteplkhgaoaphhaaGreatDoor
open Go Go.RowKit Go.Lib

theorem pars_succ (k : Nat) (h : 0 < k) : pars (k + 1) = pars k ++ [44] ++ [112] := by
  obtain ⟨m, rfl⟩ : ∃ m, k = m + 1 := ⟨k - 1, by omega⟩
  show pars (m + 1) ++ [44, 112] = _
  rw [List.append_assoc]
  rfl
theorem pars_len : ∀ k, (pars k).length ≤ 2 * k
  | 0 => Nat.le_refl _
  | 1 => by show 1 ≤ 2; omega
  | n + 2 => by
    have := pars_len (n + 1)
    show (pars (n + 1) ++ [44, 112]).length ≤ _
    rw [List.length_append]
    simp
    omega
theorem glob_end' {g : Nat} (h : globChk g = true) : (20 < g ∧ textP (globP 60) (rep [99, 101, 108, 108, 32, 99, 59] g) = some (.error (145, 53))) ∨ (g ≤ 20 ∧ ∃ f, textP (globP 60) (rep [99, 101, 108, 108, 32, 99, 59] g) = some (.ok f) ∧ f.cells.length = g) := by
  unfold globChk at h
  split at h
  · rename_i a n he
    simp only [Bool.and_eq_true, decide_eq_true_eq, beq_iff_eq] at h
    obtain ⟨h1, rfl, rfl⟩ := h
    exact .inl ⟨h1, he⟩
  · rename_i f he
    simp only [Bool.and_eq_true, decide_eq_true_eq, beq_iff_eq] at h
    exact .inr ⟨h.1, f, he, h.2⟩
  · cases h
def f1 (p : Nat) : Nat := if 6 < p then 17 else 0
def f2 (p l : Nat) : Nat := if 6 < p then 17 else if 20 < l then preLen p + 124 else 0
theorem f2_zero (p : Nat) : f2 p 0 = f1 p := by unfold f2 f1; simp
theorem firstE_zero (p l : Nat) : firstE p l 0 = f2 p l := by unfold firstE f2; simp
def S0 : List UInt8 := [102, 110, 32, 102, 40]
def VARS : List UInt8 := [118, 97, 114, 32, 118, 59]
def ASG : List UInt8 := [120, 61, 49, 59]
def tq (k m q : Nat) : List UInt8 := preB k ++ rep VARS m ++ rep ASG q
theorem tq_zero (k m : Nat) : tq k m 0 = preB k ++ rep VARS m := by unfold tq; rw [rep, List.append_nil]
theorem tq_succ (k m q : Nat) : tq k m (q + 1) = tq k m q ++ ASG := by unfold tq; rw [rep, ← List.append_assoc]
theorem tq_len (k m q : Nat) : (tq k m q).length = preLen k + 6 * m + 4 * q := by
  unfold tq
  rw [List.length_append, List.length_append, rep_len, rep_len]
  show preLen k + m * 6 + q * 4 = _
  omega
def CEL : List UInt8 := [99, 101, 108, 108, 32, 99, 59]
set_option maxRecDepth 100000 in
set_option maxHeartbeats 6400000 in
theorem many_walk (a b c d p l n g : Nat) (ha : a < 256) (hb : b < 256) (hc : c < 65536) (hd : d < 256) (hp : p = a % 9) (hl : l = b % 24) (hn : n = c % 205) (hg : g = d % 24) (W : World) (hE : ErrR W) :
    Calls Tryz.prog 5 #[.int .u8 a, .int .u8 b, .int .u16 c, .int .u8 d] W fun e w' => e = .returned (.bool true) ∧ Below W.heap.size W w' := by
  have hp9 : p < 9 := by omega
  have hl24 : l < 24 := by omega
  have hn205 : n < 205 := by omega
  have hg24 : g < 24 := by omega
  have ep : ((a : Int) % 9) = (p : Int) := by omega
  have el : ((b : Int) % 24) = (l : Int) := by omega
  have en : ((c : Int) % 205) = (n : Int) := by omega
  have eg : ((d : Int) % 24) = (g : Int) := by omega
  have hT := hide (many_text p l n hp9 hl24 hn205)
  have hG := hide (glob_end' (glob_all g hg24))
  have hK := hide (known_any W hE)
  have hM := hide (many_len p l n hp9 hl24 hn205)
  have hpl := (many_len p l n hp9 hl24 hn205).2
  replace hE := hide hE
  replace hp := hide hp
  replace hl := hide hl
  replace hn := hide hn
  replace hg := hide hg
  go_enter Tryz.func5, Tryz.ntmps5
  go_wp2_with fail
  refine hK.out.mono ?_
  rintro e w1 ⟨rfl, hb1⟩
  replace hb1 := hide hb1
  go_wp2_with fail
  clear ep el en eg
  go_loop [13, 14, 15] (fun s f i => ∃ k : Nat, k ≤ p ∧ i = .int .i64 k ∧ s = .string (strB (S0 ++ pars k)) ∧ f = .int .i64 (f1 k : Nat)) (fun _ _ i => p - (RowKit.intOf i).toNat)
  case atStart => exact ⟨0, Nat.zero_le _, rfl, rfl, rfl⟩
  case round =>
    obtain ⟨k, hk, rfl, rfl, rfl⟩ := hrel
    have hlen : (S0 ++ pars k).length ≤ 100 := by
      rw [List.length_append]
      have := pars_len k
      have e : S0.length = 5 := rfl
      omega
    by_cases hlt : k < p
    · have hlt' : (k : Int) < (p : Int) := by omega
      by_cases h0 : k = 0
      · subst h0
        have hadd : ∀ w, (Op.stringOp .add (strB (S0 ++ pars 0)) ⟨#[112]⟩).run Tryz.prog w = .ok (.string (strB (S0 ++ pars 1))) w := fun w => str_add (S0 ++ pars 0) [112] (by decide) w
        go_wp2_with fail
        go_round
        case rel => exact ⟨1, by omega, by go_num, rfl, rfl⟩
        case measure => simp [RowKit.intOf]; omega
      · obtain ⟨D, hD⟩ : ∃ D, D = S0 ++ pars k ++ [44] := ⟨_, rfl⟩
        have hDl : D.length ≤ 101 := by rw [hD, List.length_append]; show _ + 1 ≤ _; omega
        have hadd : ∀ w, (Op.stringOp .add (strB (S0 ++ pars k)) ⟨#[44]⟩).run Tryz.prog w = .ok (.string (strB D)) w := fun w => by rw [hD]; exact str_add (S0 ++ pars k) [44] (by show _ + 1 ≤ _; omega) w
        have hadd2 : ∀ w, (Op.stringOp .add (strB D) ⟨#[112]⟩).run Tryz.prog w = .ok (.string (strB (S0 ++ pars (k + 1)))) w := fun w => by
          rw [pars_succ k (by omega), ← List.append_assoc, ← List.append_assoc, ← hD]
          exact str_add D [112] (by simp; omega) w
        have hpos : (0 : Int) < (k : Int) := by omega
        have hsz : (strB D).size = D.length := rfl
        by_cases h6 : k = 6
        · have hD6 : D.length = 17 := by rw [hD, h6]; rfl
          have h6' : ((k : Int) == 6) = true := by rw [h6]; rfl
          rw [hD6] at hsz
          replace hD := hide hD
          replace h6 := hide h6
          clear hD6
          go_wp2_with fail
          go_round
          case rel => exact ⟨k + 1, by omega, by go_num, rfl, by rw [h6.out]; rfl⟩
          case measure => simp [RowKit.intOf]; omega
        · have h6' : ((k : Int) == 6) = false := beq_false_of_ne (by omega)
          have hf : f1 (k + 1) = f1 k := by unfold f1; split <;> split <;> omega
          replace hD := hide hD
          replace hf := hide hf
          clear hsz
          go_wp2_with fail
          go_round
          case rel => exact ⟨k + 1, by omega, by go_num, rfl, by rw [hf.out]⟩
          case measure => simp [RowKit.intOf]; omega
    · obtain rfl : k = p := by omega
      have hlt' : ¬ ((k : Int) < (k : Int)) := by omega
      have hadd : ∀ w, (Op.stringOp .add (strB (S0 ++ pars k)) ⟨#[41, 123]⟩).run Tryz.prog w = .ok (.string (strB (preB k))) w := fun w => str_add (S0 ++ pars k) [41, 123] (by show _ + 2 ≤ _; omega) w
      go_wp2_with fail
      clear hadd hlt' hlt hlen
      go_loop [13, 14, 16] (fun s f i => ∃ m : Nat, m ≤ l ∧ i = .int .i64 m ∧ s = .string (strB (preB k ++ rep VARS m)) ∧ f = .int .i64 (f2 k m : Nat)) (fun _ _ i => l - (RowKit.intOf i).toNat)
      case atStart => exact ⟨0, Nat.zero_le _, rfl, by simp [rep], by rw [f2_zero]⟩
      case round =>
        obtain ⟨m, hm, rfl, rfl, rfl⟩ := hrel
        have hLl : (preB k ++ rep VARS m).length = preLen k + 6 * m := by
          rw [List.length_append, rep_len]
          show preLen k + m * 6 = _
          omega
        by_cases hlt : m < l
        · have hlt' : (m : Int) < (l : Int) := by omega
          have hadd : ∀ w, (Op.stringOp .add (strB (preB k ++ rep VARS m)) ⟨#[118, 97, 114, 32, 118, 59]⟩).run Tryz.prog w = .ok (.string (strB (preB k ++ rep VARS (m + 1)))) w := fun w => by
            rw [rep, ← List.append_assoc]
            exact str_add (preB k ++ rep VARS m) VARS (by rw [hLl]; show _ + 6 ≤ _; omega) w
          by_cases h20 : m = 20
          · have h20' : ((m : Int) == 20) = true := by rw [h20]; rfl
            by_cases h6 : 6 < k
            · have hf : f2 k m = 17 := by unfold f2; rw [if_pos h6]
              have hf' : f2 k (m + 1) = 17 := by unfold f2; rw [if_pos h6]
              have hf0 : (((f2 k m : Nat) : Int) == 0) = false := by rw [hf]; rfl
              replace hf := hide hf
              replace hf' := hide hf'
              replace h20 := hide h20
              clear hLl
              go_wp2_with fail
              go_round
              case rel => exact ⟨m + 1, by omega, by go_num, rfl, by rw [hf'.out, hf.out]⟩
              case measure => simp [RowKit.intOf]; omega
            · have hf : f2 k m = 0 := by unfold f2; rw [if_neg h6, if_neg (by omega)]
              have hf' : f2 k (m + 1) = preLen k + 124 := by unfold f2; rw [if_neg h6, if_pos (by omega)]
              have hf0 : (((f2 k m : Nat) : Int) == 0) = true := by rw [hf]; rfl
              have hsz : (strB (preB k ++ rep VARS m)).size = preLen k + 120 := by
                show (preB k ++ rep VARS m).length = _
                rw [hLl, h20]
              replace hf := hide hf
              replace hf' := hide hf'
              replace h20 := hide h20
              clear hLl
              go_wp2_with fail
              go_round
              case rel => exact ⟨m + 1, by omega, by go_num, rfl, by rw [hf'.out]; exact congrArg (Value.int .i64) (by omega)⟩
              case measure => simp [RowKit.intOf]; omega
          · have h20' : ((m : Int) == 20) = false := beq_false_of_ne (by omega)
            have hf : f2 k (m + 1) = f2 k m := by unfold f2; split <;> first | rfl | (split <;> split <;> omega)
            replace hf := hide hf
            clear hLl
            go_wp2_with fail
            go_round
            case rel => exact ⟨m + 1, by omega, by go_num, rfl, by rw [hf.out]⟩
            case measure => simp [RowKit.intOf]; omega
        · obtain rfl : m = l := by omega
          have hlt' : ¬ ((m : Int) < (m : Int)) := by omega
          go_wp2_with fail
          clear hlt' hlt hLl
          go_loop [13, 14, 17] (fun s f i => ∃ q : Nat, q ≤ n ∧ i = .int .i64 q ∧ s = .string (strB (tq k m q)) ∧ f = .int .i64 (firstE k m q : Nat)) (fun _ _ i => n - (RowKit.intOf i).toNat)
          case atStart => exact ⟨0, Nat.zero_le _, rfl, by rw [tq_zero], by rw [firstE_zero]⟩
          case round =>
            obtain ⟨q, hq, rfl, rfl, rfl⟩ := hrel
            have hLl : (tq k m q).length = preLen k + 6 * m + 4 * q := by
              exact tq_len k m q
            by_cases hlt : q < n
            · have hlt' : (q : Int) < (n : Int) := by omega
              have hadd : ∀ w, (Op.stringOp .add (strB (tq k m q)) ⟨#[120, 61, 49, 59]⟩).run Tryz.prog w = .ok (.string (strB (tq k m (q + 1)))) w := fun w => by
                rw [tq_succ]
                exact str_add (tq k m q) ASG (by rw [hLl]; show _ + 4 ≤ _; omega) w
              by_cases h20 : q = 200
              · have h20' : ((q : Int) == 200) = true := by rw [h20]; rfl
                by_cases h6 : f2 k m = 0
                · have hn6 : ¬ 6 < k := fun h => by unfold f2 at h6; rw [if_pos h] at h6; omega
                  have hn20 : ¬ 20 < m := fun h => by unfold f2 at h6; rw [if_neg hn6, if_pos h] at h6; omega
                  have hf : firstE k m q = 0 := by unfold firstE; rw [if_neg hn6, if_neg hn20, if_neg (by omega)]
                  have hf' : firstE k m (q + 1) = preLen k + 6 * m + 800 := by unfold firstE; rw [if_neg hn6, if_neg hn20, if_pos (by omega)]
                  have hf0 : (((firstE k m q : Nat) : Int) == 0) = true := by rw [hf]; rfl
                  have hsz : (strB (tq k m q)).size = preLen k + 6 * m + 800 := by
                    show (tq k m q).length = _
                    rw [hLl, h20]
                  replace hf := hide hf
                  replace hf' := hide hf'
                  replace h20 := hide h20
                  replace h6 := hide h6
                  clear hLl
                  go_wp2_with fail
                  go_round
                  case rel => exact ⟨q + 1, by omega, by go_num, rfl, by rw [hf'.out]; exact congrArg (Value.int .i64) (by omega)⟩
                  case measure => simp [RowKit.intOf]; omega
                · have hf : firstE k m q = f2 k m := by
                    unfold firstE f2
                    rw [if_neg (show ¬ 200 < q by omega)]
                  have hf' : firstE k m (q + 1) = f2 k m := by
                    unfold firstE
                    unfold f2 at h6 ⊢
                    by_cases h7 : 6 < k
                    · rw [if_pos h7, if_pos h7]
                    · rw [if_neg h7] at h6 ⊢
                      rw [if_neg h7]
                      by_cases h8 : 20 < m
                      · rw [if_pos h8, if_pos h8]
                      · rw [if_neg h8] at h6
                        exact absurd rfl h6
                  have hf0 : (((firstE k m q : Nat) : Int) == 0) = false := beq_false_of_ne (by rw [hf]; omega)
                  replace hf := hide hf
                  replace hf' := hide hf'
                  replace h20 := hide h20
                  replace h6 := hide h6
                  clear hLl
                  go_wp2_with fail
                  go_round
                  case rel => exact ⟨q + 1, by omega, by go_num, rfl, by rw [hf'.out, hf.out]⟩
                  case measure => simp [RowKit.intOf]; omega
              · have h20' : ((q : Int) == 200) = false := beq_false_of_ne (by omega)
                have hf : firstE k m (q + 1) = firstE k m q := by unfold firstE; split <;> first | rfl | (split <;> first | rfl | (split <;> split <;> omega))
                replace hf := hide hf
                clear hLl
                go_wp2_with fail
                go_round
                case rel => exact ⟨q + 1, by omega, by go_num, rfl, by rw [hf.out]⟩
                case measure => simp [RowKit.intOf]; omega
            · obtain rfl : q = n := by omega
              have hlt' : ¬ ((q : Int) < (q : Int)) := by omega
              have hadd : ∀ w, (Op.stringOp .add (strB (tq k m q)) ⟨#[125]⟩).run Tryz.prog w = .ok (.string (strB (manyB k m q))) w := fun w => str_add (tq k m q) [125] (by rw [hLl]; simp; omega) w
              clear hlt
              have hlen : (manyB k m q).length ≤ 900000 := by rw [hM.out.1]; omega
              replace hLl := hide hLl
              rcases hT.out with ⟨hpos, hx⟩ | ⟨hz, f, hx, hc1, hc2, hc3⟩
              · have hF := Func_any 260 (by decide) (manyB k m q) hlen w1 (hE.out.below hb1.out) (by rw [hx]; exact fun e => by cases e)
                rw [hx] at hF
                generalize firstE k m q = fe at *
                have hpos' : (0 : Int) < (fe : Int) := by omega
                replace hF := hide hF
                replace hx := hide hx
                replace hT := hide hT
                go_wp2_with fail
                refine hF.out.mono ?_
                rintro e w2 ⟨hb2, rfl⟩
                have hb3 := hide ((hb1.out.trans (hb2.mono hb1.out.size)).alloc (Nat.le_trans hb1.out.size hb2.size) (.cells #[.string ⟨#[]⟩, .slice none 0 0, .slice none 0 0, .slice none 0 0] 27))
                have hbx := hide (heap_new w2 (.cells #[.string ⟨#[]⟩, .slice none 0 0, .slice none 0 0, .slice none 0 0] 27))
                clear hb2 hlt' hadd
                go_wp2_with fail
                generalize w2.alloc (.cells #[.string ⟨#[]⟩, .slice none 0 0, .slice none 0 0, .slice none 0 0] 27) = w3 at hb3 hbx ⊢
                go_loop [21, 22, 23] (fun s f i => ∃ j : Nat, j ≤ g ∧ i = .int .i64 j ∧ s = .string (strB (rep CEL j)) ∧ f = .int .i64 (if 20 < j then 145 else 0 : Nat)) (fun _ _ i => g - (RowKit.intOf i).toNat)
                case atStart => exact ⟨0, Nat.zero_le _, rfl, rfl, rfl⟩
                case round =>
                  obtain ⟨j, hj, rfl, rfl, rfl⟩ := hrel
                  have hLj : (rep CEL j).length = 7 * j := by
                    rw [rep_len]
                    show j * 7 = _
                    omega
                  by_cases hlt : j < g
                  · have hlt' : (j : Int) < (g : Int) := by omega
                    have hadd : ∀ w, (Op.stringOp .add (strB (rep CEL j)) ⟨#[99, 101, 108, 108, 32, 99, 59]⟩).run Tryz.prog w = .ok (.string (strB (rep CEL (j + 1)))) w := fun w => str_add (rep CEL j) CEL (by rw [hLj]; show _ + 7 ≤ _; omega) w
                    by_cases h20 : j = 20
                    · have h20' : ((j : Int) == 20) = true := by rw [h20]; rfl
                      have hsz : (strB (rep CEL j)).size = 140 := by
                        show (rep CEL j).length = _
                        rw [hLj, h20]
                      replace h20 := hide h20
                      clear hLj
                      go_wp2_with fail
                      go_round
                      case rel => exact ⟨j + 1, by omega, by go_num, rfl, by rw [if_pos (by have := h20.out; omega)]; rfl⟩
                      case measure => simp [RowKit.intOf]; omega
                    · have h20' : ((j : Int) == 20) = false := beq_false_of_ne (by omega)
                      have hf : (if 20 < j + 1 then 145 else 0 : Nat) = if 20 < j then 145 else 0 := by split <;> split <;> omega
                      replace hf := hide hf
                      clear hLj
                      go_wp2_with fail
                      go_round
                      case rel => exact ⟨j + 1, by omega, by go_num, rfl, by rw [hf.out]⟩
                      case measure => simp [RowKit.intOf]; omega
                  · obtain rfl : j = g := by omega
                    have hlt' : ¬ ((j : Int) < (j : Int)) := by omega
                    have hlj : (rep CEL j).length ≤ 900000 := by omega
                    replace hLj := hide hLj
                    clear hlt
                    rcases hG.out with ⟨h20, hy⟩ | ⟨h20, gl, hy, hgc⟩
                    · have hF2 := Globals_any 60 (by decide) (rep CEL j) hlj w3 (hE.out.below hb3.out) (by rw [show rep CEL j = rep [99, 101, 108, 108, 32, 99, 59] j from rfl, hy]; exact fun e => by cases e)
                      rw [show rep CEL j = rep [99, 101, 108, 108, 32, 99, 59] j from rfl, hy] at hF2
                      rw [if_pos h20]
                      replace hF2 := hide hF2
                      replace hy := hide hy
                      go_wp2_with fail
                      refine hF2.out.mono ?_
                      rintro e w4 ⟨hb4, rfl⟩
                      have hb5 := hide ((hb3.out.trans (hb4.mono hb3.out.size)).alloc (Nat.le_trans hb3.out.size hb4.size) (.cells #[.slice none 0 0, .slice none 0 0] 41))

                      clear hb4
                      go_wp2_with fail
                      go_ret
                      exact ⟨rfl, hb5.out⟩
                    · have hF2 := Globals_any 60 (by decide) (rep CEL j) hlj w3 (hE.out.below hb3.out) (by rw [show rep CEL j = rep [99, 101, 108, 108, 32, 99, 59] j from rfl, hy]; exact fun e => by cases e)
                      rw [show rep CEL j = rep [99, 101, 108, 108, 32, 99, 59] j from rfl, hy] at hF2
                      rw [if_neg (show ¬ 20 < j by omega)]
                      replace hF2 := hide hF2
                      replace hy := hide hy
                      go_wp2_with fail
                      refine hF2.out.mono ?_
                      rintro e w4 ⟨hb4, v4, rfl, hv4⟩
                      obtain ⟨D1, d1, D2, d2, rfl, -⟩ := hv4.read
                      rw [hgc]
                      generalize gl.arrays.length = ga at *
                      have hb5 := hide ((hb3.out.trans (hb4.mono hb3.out.size)).alloc (Nat.le_trans hb3.out.size hb4.size) (.cells #[.slice D1 j d1, .slice D2 ga d2] 41))

                      replace hgc := hide hgc
                      clear hb4 hv4
                      go_wp2_with fail
                      go_ret
                      exact ⟨rfl, hb5.out⟩

              · have hF := Func_any 260 (by decide) (manyB k m q) hlen w1 (hE.out.below hb1.out) (by rw [hx]; exact fun e => by cases e)
                rw [hx] at hF
                have hz' : firstE k m q = 0 := hz
                replace hF := hide hF
                replace hx := hide hx
                replace hT := hide hT
                clear hz
                go_wp2_with fail
                refine hF.out.mono ?_
                rintro e w2 ⟨hb2, v2, rfl, hv2⟩
                obtain ⟨A1, c1, A2, c2, A3, c3, rfl, -⟩ := hv2.read
                rw [hc1, hc2, hc3]
                generalize f.name = fnm at *
                replace hc1 := hide hc1
                replace hc2 := hide hc2
                replace hc3 := hide hc3
                clear hv2
                have hb3 := hide ((hb1.out.trans (hb2.mono hb1.out.size)).alloc (Nat.le_trans hb1.out.size hb2.size) (.cells #[.string (strB fnm), .slice A1 k c1, .slice A2 m c2, .slice A3 q c3] 27))
                have hbx := hide (heap_new w2 (.cells #[.string (strB fnm), .slice A1 k c1, .slice A2 m c2, .slice A3 q c3] 27))
                clear hb2 hlt' hadd
                go_wp2_with fail
                generalize w2.alloc (.cells #[.string (strB fnm), .slice A1 k c1, .slice A2 m c2, .slice A3 q c3] 27) = w3 at hb3 hbx ⊢
                go_loop [21, 22, 23] (fun s f i => ∃ j : Nat, j ≤ g ∧ i = .int .i64 j ∧ s = .string (strB (rep CEL j)) ∧ f = .int .i64 (if 20 < j then 145 else 0 : Nat)) (fun _ _ i => g - (RowKit.intOf i).toNat)
                case atStart => exact ⟨0, Nat.zero_le _, rfl, rfl, rfl⟩
                case round =>
                  obtain ⟨j, hj, rfl, rfl, rfl⟩ := hrel
                  have hLj : (rep CEL j).length = 7 * j := by
                    rw [rep_len]
                    show j * 7 = _
                    omega
                  by_cases hlt : j < g
                  · have hlt' : (j : Int) < (g : Int) := by omega
                    have hadd : ∀ w, (Op.stringOp .add (strB (rep CEL j)) ⟨#[99, 101, 108, 108, 32, 99, 59]⟩).run Tryz.prog w = .ok (.string (strB (rep CEL (j + 1)))) w := fun w => str_add (rep CEL j) CEL (by rw [hLj]; show _ + 7 ≤ _; omega) w
                    by_cases h20 : j = 20
                    · have h20' : ((j : Int) == 20) = true := by rw [h20]; rfl
                      have hsz : (strB (rep CEL j)).size = 140 := by
                        show (rep CEL j).length = _
                        rw [hLj, h20]
                      replace h20 := hide h20
                      clear hLj
                      go_wp2_with fail
                      go_round
                      case rel => exact ⟨j + 1, by omega, by go_num, rfl, by rw [if_pos (by have := h20.out; omega)]; rfl⟩
                      case measure => simp [RowKit.intOf]; omega
                    · have h20' : ((j : Int) == 20) = false := beq_false_of_ne (by omega)
                      have hf : (if 20 < j + 1 then 145 else 0 : Nat) = if 20 < j then 145 else 0 := by split <;> split <;> omega
                      replace hf := hide hf
                      clear hLj
                      go_wp2_with fail
                      go_round
                      case rel => exact ⟨j + 1, by omega, by go_num, rfl, by rw [hf.out]⟩
                      case measure => simp [RowKit.intOf]; omega
                  · obtain rfl : j = g := by omega
                    have hlt' : ¬ ((j : Int) < (j : Int)) := by omega
                    have hlj : (rep CEL j).length ≤ 900000 := by omega
                    replace hLj := hide hLj
                    clear hlt
                    rcases hG.out with ⟨h20, hy⟩ | ⟨h20, gl, hy, hgc⟩
                    · have hF2 := Globals_any 60 (by decide) (rep CEL j) hlj w3 (hE.out.below hb3.out) (by rw [show rep CEL j = rep [99, 101, 108, 108, 32, 99, 59] j from rfl, hy]; exact fun e => by cases e)
                      rw [show rep CEL j = rep [99, 101, 108, 108, 32, 99, 59] j from rfl, hy] at hF2
                      rw [if_pos h20]
                      replace hF2 := hide hF2
                      replace hy := hide hy
                      go_wp2_with fail
                      refine hF2.out.mono ?_
                      rintro e w4 ⟨hb4, rfl⟩
                      have hb5 := hide ((hb3.out.trans (hb4.mono hb3.out.size)).alloc (Nat.le_trans hb3.out.size hb4.size) (.cells #[.slice none 0 0, .slice none 0 0] 41))
                      have y1 : (w4.alloc (.cells #[.slice none 0 0, .slice none 0 0] 41)).cell? ⟨w2.heap.size, 1, none⟩ = some (.slice A1 k c1) := (Upd.alloc (fun _ => False) w4 _).cell ((cell_at (heapB hbx.out hb4) 1).trans rfl) id
                      have y2 : (w4.alloc (.cells #[.slice none 0 0, .slice none 0 0] 41)).cell? ⟨w2.heap.size, 2, none⟩ = some (.slice A2 m c2) := (Upd.alloc (fun _ => False) w4 _).cell ((cell_at (heapB hbx.out hb4) 2).trans rfl) id
                      have y3 : (w4.alloc (.cells #[.slice none 0 0, .slice none 0 0] 41)).cell? ⟨w2.heap.size, 3, none⟩ = some (.slice A3 q c3) := (Upd.alloc (fun _ => False) w4 _).cell ((cell_at (heapB hbx.out hb4) 3).trans rfl) id
                      clear hb4
                      go_wp2_with fail
                      go_ret
                      exact ⟨rfl, hb5.out⟩
                    · have hF2 := Globals_any 60 (by decide) (rep CEL j) hlj w3 (hE.out.below hb3.out) (by rw [show rep CEL j = rep [99, 101, 108, 108, 32, 99, 59] j from rfl, hy]; exact fun e => by cases e)
                      rw [show rep CEL j = rep [99, 101, 108, 108, 32, 99, 59] j from rfl, hy] at hF2
                      rw [if_neg (show ¬ 20 < j by omega)]
                      replace hF2 := hide hF2
                      replace hy := hide hy
                      go_wp2_with fail
                      refine hF2.out.mono ?_
                      rintro e w4 ⟨hb4, v4, rfl, hv4⟩
                      obtain ⟨D1, d1, D2, d2, rfl, -⟩ := hv4.read
                      rw [hgc]
                      generalize gl.arrays.length = ga at *
                      have hb5 := hide ((hb3.out.trans (hb4.mono hb3.out.size)).alloc (Nat.le_trans hb3.out.size hb4.size) (.cells #[.slice D1 j d1, .slice D2 ga d2] 41))
                      have y1 : (w4.alloc (.cells #[.slice D1 j d1, .slice D2 ga d2] 41)).cell? ⟨w2.heap.size, 1, none⟩ = some (.slice A1 k c1) := (Upd.alloc (fun _ => False) w4 _).cell ((cell_at (heapB hbx.out hb4) 1).trans rfl) id
                      have y2 : (w4.alloc (.cells #[.slice D1 j d1, .slice D2 ga d2] 41)).cell? ⟨w2.heap.size, 2, none⟩ = some (.slice A2 m c2) := (Upd.alloc (fun _ => False) w4 _).cell ((cell_at (heapB hbx.out hb4) 2).trans rfl) id
                      have y3 : (w4.alloc (.cells #[.slice D1 j d1, .slice D2 ga d2] 41)).cell? ⟨w2.heap.size, 3, none⟩ = some (.slice A3 q c3) := (Upd.alloc (fun _ => False) w4 _).cell ((cell_at (heapB hbx.out hb4) 3).trans rfl) id
                      replace hgc := hide hgc
                      clear hb4 hv4
                      go_wp2_with fail
                      go_ret
                      exact ⟨rfl, hb5.out⟩

theorem many_int (a b c d : Int) (h1 : 0 ≤ a ∧ a < 256) (h2 : 0 ≤ b ∧ b < 256) (h3 : 0 ≤ c ∧ c < 65536) (h4 : 0 ≤ d ∧ d < 256) (W : World) (hE : ErrR W) : Calls Tryz.prog 5 #[.int .u8 a, .int .u8 b, .int .u16 c, .int .u8 d] W fun e w' => e = .returned (.bool true) ∧ Below W.heap.size W w' := by
  obtain ⟨a', rfl⟩ := Int.eq_ofNat_of_zero_le h1.1
  obtain ⟨b', rfl⟩ := Int.eq_ofNat_of_zero_le h2.1
  obtain ⟨c', rfl⟩ := Int.eq_ofNat_of_zero_le h3.1
  obtain ⟨d', rfl⟩ := Int.eq_ofNat_of_zero_le h4.1
  exact many_walk a' b' c' d' _ _ _ _ (by omega) (by omega) (by omega) (by omega) rfl rfl rfl rfl W hE
end Go.Proofs.YteplkhgaoaphhaaGreatDoor
/- What the listed variables give the walks: strconv.ErrRange holds an error. -/
namespace Go.Proofs.YteplkhgaoaphhaaGreatDoor
open Go Go.RowKit
theorem errName : Tryz.prog.globalNamed "strconv.ErrRange" = some 1 := by kernel_rfl
theorem errStar : "*" ++ "errors.errorString" = "*errors.errorString" := by decide
theorem errRow (u : TypeId) (h : Tryz.prog.typeName? 3 u = some "*errors.errorString") : u = 158 :=
  typeName_ptr_named (nm := "errors.errorString") (by rw [errStar]; kernel_rfl) (by kernel_rfl) (by decide) u (by rw [errStar]; exact h)
theorem errOf {W : World} (h : laidMetH Tryz.prog Rows.parseDeepRow.laid W) : ErrR W := by
  rw [MakeChecks.laidMetH_plain _ _ _ (by kernel_rfl)] at h
  have h3 := laidMet.tail (laidMet.tail (laidMet.tail h))
  obtain ⟨a, s, hv, -, -, -⟩ := laid_sentinel h3 errName (ti := 134) (by kernel_rfl) Tryz.underlying134 errRow Tryz.underlying158 Tryz.underlying160 rfl rfl Tryz.underlying9 (by kernel_rfl) (by kernel_rfl)
  exact ⟨_, _, by have h0 := World.var?_cell errName hv 0; simpa using h0⟩
end Go.Proofs.YteplkhgaoaphhaaGreatDoor
