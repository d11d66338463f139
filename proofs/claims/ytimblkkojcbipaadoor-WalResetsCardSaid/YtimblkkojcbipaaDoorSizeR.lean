/- The laws' helper size: how long records are. -/
import Derived.Test.YtimblkkojcbipaaDoorSameR
namespace Go.Proofs.YtimblkkojcbipaaDoor
open Go Go.RowKit
def sizeN (rs : List (List UInt8)) : Nat := (rs.map fun r => r.length + 16).sum
theorem sizeN_take (rs : List (List UInt8)) (k : Nat) (h : k < rs.length) : sizeN (rs.take (k + 1)) = sizeN (rs.take k) + (rs[k].length + 16) := by
  unfold sizeN
  rw [List.take_succ_eq_append_getElem h, List.map_append, List.sum_append]
  simp
theorem sizeN_le (rs : List (List UInt8)) (k : Nat) : sizeN (rs.take k) ≤ sizeN rs := by
  conv => rhs; rw [← List.take_append_drop k rs]
  unfold sizeN
  rw [List.map_append, List.sum_append]
  omega
set_option maxRecDepth 100000 in
set_option maxHeartbeats 1000000 in
theorem size_of_any {w : World} {S : Nat → Prop} {v : Value} {rs : List (List UInt8)} (h : RecsW w S v rs) (hs : sizeN rs ≤ 4294967296) :
    Calls Tryd.prog 17 #[v] w fun e w' => e = .returned (.int .i64 (sizeN rs : Nat)) ∧ w = w' := by
  have hA := h
  obtain ⟨vsa, qa, ⟨Aa, ca, rfl, pa1, pa2, -⟩, -⟩ := h
  rw [qa] at pa1 hA ⊢
  have pa3 : ca ≤ 9223372036854775807 := by unfold maxLen at pa2; exact pa2
  clear qa pa2
  have hle := sizeN_le rs
  have htk := sizeN_take rs
  replace hA := hide hA
  replace hle := hide hle
  replace htk := hide htk
  go_enter Tryd.func17, Tryd.ntmps17
  go_wp2_with fail
  go_loopw [3, 4] (fun z i' wr => ∃ k : Nat, k ≤ rs.length ∧ i' = .int .i64 k ∧ z = .int .i64 (sizeN (rs.take k) : Nat) ∧ wr = w) (fun _ i' _ => rs.length - (intOf i').toNat)
  case atStart => exact ⟨0, Nat.zero_le _, rfl, by simp [sizeN], rfl⟩
  case round =>
    obtain ⟨k, hk, rfl, rfl, hwr⟩ := hrel
    obtain rfl : w = wr := hwr.symm
    rcases Nat.lt_or_ge k rs.length with hlt | hge
    · obtain ⟨b, o, u, rfl, hc, hu⟩ := hA.out.at hlt
      obtain ⟨A2, c2, rfl, -⟩ := hu
      have h1 := hle.out (k + 1)
      have h2 := htk.out k hlt
      rw [bv_len] at hc
      rw [h2] at h1
      obtain ⟨n, hn⟩ : ∃ n, n = sizeN (rs.take k) := ⟨_, rfl⟩
      obtain ⟨m, hm⟩ : ∃ m, m = rs[k].length := ⟨_, rfl⟩
      rw [← hn, ← hm] at h1
      rw [← hm] at hc
      rw [← hn]
      replace hn := hide hn
      replace hm := hide hm
      replace h2 := hide h2
      go_wp2_with fail
      go_roundw
      case rel =>
        refine ⟨k + 1, hlt, by go_num, ?_, by simp⟩
        rw [h2.out, ← hn.out, ← hm.out]
        go_num
      case measure => simp [intOf]; omega
    · obtain rfl : k = rs.length := by omega
      clear hge
      go_wp2_with fail
      go_ret
      exact ⟨rfl, rfl⟩
end Go.Proofs.YtimblkkojcbipaaDoor
