/- Frames of many records; the reader of frames. -/
import Derived.Test.YtimblkkojcbipaaDoorFrames
namespace Go.Proofs.YtimblkkojcbipaaDoor
open Go Go.RowKit
open Sums (crc)
/-- The value v is a list of records, in blocks of S. -/
def RecsV (w : World) (S : Nat → Prop) (v : Value) (rs : List (List UInt8)) : Prop :=
  ∃ vs, vs.length = rs.length ∧ ArgV w S v vs ∧ ∀ (i : Nat) (u : Value) (r : List UInt8), vs[i]? = some u → rs[i]? = some r → ArgV w S u (bv r) ∧ NonNil u
theorem RecsV.upd {w w' : World} {F S : Nat → Prop} {v : Value} {rs : List (List UInt8)} (h : RecsV w S v rs) (hu : Upd F w w') (hS : ∀ k, S k → ¬ F k) : RecsV w' S v rs := by
  obtain ⟨vs, h1, h2, h3⟩ := h
  exact ⟨vs, h1, h2.upd hu hS, fun i u r hi hr => ⟨(h3 i u r hi hr).1.upd hu hS, (h3 i u r hi hr).2⟩⟩
theorem frames_take (rs : List (List UInt8)) (k : Nat) (h : k < rs.length) : frames (rs.take (k + 1)) = frames (rs.take k) ++ frame rs[k] := by
  rw [List.take_succ_eq_append_getElem h, frames_append]; simp [frames]
theorem frames_le (rs : List (List UInt8)) (k : Nat) : (frames (rs.take k)).length ≤ (frames rs).length := by
  conv => rhs; rw [← List.take_append_drop k rs, frames_append]
  simp
theorem frame_le (rs : List (List UInt8)) (k : Nat) (h : k < rs.length) : rs[k].length ≤ (frames rs).length := by
  have h1 := frames_take rs k h
  have h2 := frames_le rs (k + 1)
  rw [h1, List.length_append, frame_len] at h2
  omega
set_option maxRecDepth 100000 in
theorem framesOf_any {w : World} {S : Nat → Prop} {v : Value} {rs : List (List UInt8)} (h : RecsV w S v rs) (hT : Tab w) (h0 : 0 < w.heap.size) (hl : (frames rs).length ≤ 4294967295) :
    Calls Tryd.prog 58 #[v] w fun e w' => ∃ v', e = .returned v' ∧ RowB w' w.heap.size v' (frames rs) ∧ Below w.heap.size w w' := by
  obtain ⟨vs, hvs, ha, hrs⟩ := h
  obtain ⟨A, c, rfl, hc1, hc2, hcells⟩ := ha
  rw [hvs] at hc1 ⊢
  have hc2' : c ≤ 9223372036854775807 := by unfold maxLen at hc2; exact hc2
  replace hT := hide hT
  replace hrs := hide hrs
  replace hcells := hide hcells
  replace hc2 := hide hc2
  replace hvs := hide hvs
  go_enter Tryd.func58, Tryd.ntmps58
  go_wp2_with fail
  go_loopw [3, 8] (fun b i wr => ∃ k : Nat, k ≤ rs.length ∧ i = .int .i64 k ∧ RowB wr w.heap.size b (frames (rs.take k)) ∧ Upd (fun _ => False) w wr) (fun _ i _ => rs.length - (intOf i).toNat)
  case atStart => exact ⟨0, Nat.zero_le _, rfl, by simpa [frames] using RowB.nil_ w _, .refl _ _⟩
  case round =>
    obtain ⟨k, hk, rfl, hb, hU⟩ := hrel
    obtain ⟨A2, n2, c2, rfl⟩ := hb.slice
    replace hb := hide hb
    replace hU := hide hU
    rcases Nat.lt_or_ge k rs.length with hlt | hge
    · obtain ⟨u, hu⟩ : ∃ u, vs[k]? = some u := ⟨vs[k]'(by rw [hvs.out]; exact hlt), List.getElem?_eq_getElem _⟩
      obtain ⟨b, o, rfl, hS, hc⟩ : ∃ b o, A = some ⟨b, o, none⟩ ∧ S b ∧ w.cell? ⟨b, o + k, none⟩ = some u := by
        rcases hcells.out with h | ⟨b, o, h1, h2, h3⟩
        · rw [h] at hu; simp at hu
        · exact ⟨b, o, h1, h2, h3 k u hu⟩
      have hc' := hU.out.cell hc id
      have hru := hrs.out k u rs[k] hu (List.getElem?_eq_getElem hlt)
      have hr2 := hru.1.upd hU.out fun _ _ => id
      have hfl := frames_le rs k
      have hrl := frame_le rs k hlt
      have hap := appendFrame_any hb.out hU.out.size (ArgV.mono' hr2 hru.1) hru.2 (fun j hj ho => by have := (hb.out.own_ge ho).1; omega) (hT.out.upd hU.out id) h0 (by omega) (by omega)
      obtain ⟨ad, nu, cu, rfl⟩ := hru.2
      replace hru := hide hru
      replace hr2 := hide hr2
      replace hu := hide hu
      replace hfl := hide hfl
      replace hrl := hide hrl
      clear hc
      go_wp2_with fail
      refine hap.mono ?_
      rintro e w2 ⟨v3, rfl, h3, m3⟩
      replace h3 := hide h3
      replace m3 := hide m3
      go_wp2_with fail
      go_roundw
      case rel =>
        refine ⟨k + 1, hlt, by go_num, by rw [frames_take rs k hlt]; exact h3.out, ?_⟩
        exact hU.out.trans m3.out.1 fun j hj ho => by have := (hb.out.own_ge ho).1; omega
      case measure => simp [intOf]; omega
    · obtain rfl : k = rs.length := by omega
      clear hge
      go_wp2_with fail
      go_ret
      refine ⟨_, rfl, by simpa using hb.out, hU.out.below (Nat.le_refl _) fun _ h => h.elim⟩
end Go.Proofs.YtimblkkojcbipaaDoor
