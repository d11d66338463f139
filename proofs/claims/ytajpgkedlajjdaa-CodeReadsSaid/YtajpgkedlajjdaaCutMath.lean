/- What is left of texts that are cut off. -/
import Derived.Test.YtajpgkedlajjdaaMath2
namespace Go.Proofs.Ytajpgkedlajjdaa
open Go.RowKit

theorem dnum_cut : ∀ (n i acc j : Nat), j < (num n).length → dnum i acc ((num n).take j) = none := by
  intro n
  induction n using Nat.strongRecOn with
  | ind n ih =>
    intro i acc j hj
    by_cases hs : n < 128
    · rw [num_small hs] at hj ⊢
      obtain rfl : j = 0 := by simpa using hj
      rfl
    · have e : (UInt8.ofNat (n % 128 + 128)).toNat = n % 128 + 128 := by rw [UInt8.toNat_ofNat_of_lt' (by simp [UInt8.size]; omega)]
      rw [num_great (by omega)] at hj ⊢
      cases j with
      | zero => rfl
      | succ j =>
        rw [List.take_succ_cons]
        by_cases h9 : 9 ≤ i ∧ 1 < n % 128 + 128
        · exact dnum_great e h9
        · rw [dnum_more e h9 (by omega)]
          exact ih (n / 128) (by omega) _ _ j (by simpa using hj)
theorem dtext_full (s : ByteArray) (r : List UInt8) (h : s.size < 18446744073709551616) : dtext (text s ++ r) = some (s, r) := by
  have h1 : dnum 0 0 (num s.size ++ (s.data.toList ++ r)) = some (s.size, s.data.toList ++ r) := dnum0_num _ h
  have e : text s ++ r = num s.size ++ (s.data.toList ++ r) := by unfold text; rw [List.append_assoc]
  have hl := toList_len s
  unfold dtext dcount
  rw [e, h1]
  simp only [Option.bind_some]
  rw [if_pos (by rw [List.length_append]; omega)]
  simp only [Option.map_some]
  have e1 : (s.data.toList ++ r).take s.size = s.data.toList := by rw [← hl]; exact List.take_left
  have e2 : (s.data.toList ++ r).drop s.size = r := by rw [← hl]; exact List.drop_left
  rw [e1, e2]
theorem dtext_cut (s : ByteArray) (r : List UInt8) (m : Nat) (h : s.size < 18446744073709551616) (hm : m < (text s).length) : dtext ((text s ++ r).take m) = none := by
  have hl := toList_len s
  have e : (text s ++ r).take m = (num s.size).take m ++ (s.data.toList.take (m - (num s.size).length)) := by
    rw [List.take_append_of_le_length (by omega)]
    unfold text
    rw [List.take_append]
  unfold dtext dcount
  rcases Nat.lt_or_ge m (num s.size).length with h1 | h1
  · have e2 : s.data.toList.take (m - (num s.size).length) = [] := by rw [show m - (num s.size).length = 0 by omega]; rfl
    rw [e, e2, List.append_nil, dnum_cut _ _ _ _ h1]
    rfl
  · have e1 : (num s.size).take m = num s.size := List.take_of_length_le h1
    rw [e, e1]
    have h2 : dnum 0 0 (num s.size ++ s.data.toList.take (m - (num s.size).length)) = some (s.size, s.data.toList.take (m - (num s.size).length)) := dnum0_num _ h
    rw [h2]
    simp only [Option.bind_some]
    rw [if_neg]
    · rfl
    · rw [List.length_take]
      unfold text at hm
      rw [List.length_append] at hm
      omega
theorem texts_drop (ss : List ByteArray) (i : Nat) (h : i < ss.length) : texts (ss.drop i) = text ss[i] ++ texts (ss.drop (i + 1)) := by
  unfold texts
  rw [List.drop_eq_getElem_cons h, List.map_cons, List.flatten_cons]
/-- How long the first i texts are. -/
def tlen (ss : List ByteArray) (i : Nat) : Nat := (texts (ss.take i)).length
theorem tlen_succ (ss : List ByteArray) (i : Nat) (h : i < ss.length) : tlen ss (i + 1) = tlen ss i + (text ss[i]).length := by
  unfold tlen; rw [texts_snoc ss i h, List.length_append]
/-- What is left behind i texts of those that were cut off at k. -/
def cutAt (ss : List ByteArray) (k i : Nat) : Option (List UInt8) := if tlen ss i ≤ k then some ((texts (ss.drop i)).take (k - tlen ss i)) else none
theorem cut_read (ss : List ByteArray) (k i : Nat) (h : i < ss.length) (hs : ss[i].size < 18446744073709551616) :
    read ByteArray.empty dtext (cutAt ss k i) = (if tlen ss (i + 1) ≤ k then ss[i] else ByteArray.empty, cutAt ss k (i + 1)) := by
  have h1 := tlen_succ ss i h
  unfold cutAt
  by_cases h2 : tlen ss (i + 1) ≤ k
  · rw [if_pos (by omega), if_pos h2, if_pos h2, texts_drop ss i h, List.take_append, List.take_of_length_le (by omega)]
    simp only [read, Option.bind_some]
    rw [dtext_full _ _ hs, show k - tlen ss i - (text ss[i]).length = k - tlen ss (i + 1) by omega]
  · rw [if_neg h2, if_neg h2]
    by_cases h3 : tlen ss i ≤ k
    · rw [if_pos h3, texts_drop ss i h]
      simp only [read, Option.bind_some]
      rw [dtext_cut _ _ _ hs (by omega)]
    · rw [if_neg h3]; rfl
theorem cut_start (ss : List ByteArray) (k : Nat) : cutAt ss k 0 = some ((texts ss).take k) := by
  unfold cutAt tlen
  rw [if_pos (by simp [texts])]
  simp [texts]
theorem cut_end (ss : List ByteArray) (k : Nat) (h : k < (texts ss).length) : cutAt ss k ss.length = none := by
  unfold cutAt tlen
  rw [List.take_length, if_neg (by omega)]
theorem read_none {α : Type} (z : α) (d : List UInt8 → Option (α × List UInt8)) : read z d none = (z, none) := rfl
theorem tlen_small (ss : List ByteArray) (b : Nat) (hb : b < 18446744073709551616) : ∀ k, (∀ (j : Nat) (h : j < ss.length), j < k → ss[j].size ≤ b) → tlen ss k ≤ (b + 10) * k := by
  intro k
  induction k with
  | zero => intro _; simp [tlen, texts]
  | succ k ih =>
    intro h
    have h1 := ih fun j hj hk => h j hj (by omega)
    by_cases hk : k < ss.length
    · rw [tlen_succ ss k hk]
      have h2 := h k hk (by omega)
      have h3 := num_len10 (n := ss[k].size) (by omega)
      have e : (text ss[k]).length = (num ss[k].size).length + ss[k].size := by unfold text; rw [List.length_append, toList_len]
      rw [Nat.mul_add]
      omega
    · have e : tlen ss (k + 1) = tlen ss k := by unfold tlen; rw [List.take_of_length_le (by omega), List.take_of_length_le (by omega)]
      rw [e, Nat.mul_add]; omega
end Go.Proofs.Ytajpgkedlajjdaa
