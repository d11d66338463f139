/- Walks of the document's reader: texts; the law's whole. -/
import Derived.Test.YtajpgkedlajjdaaRefRead2
namespace Go.Proofs.Ytajpgkedlajjdaa
open Go.RowKit

theorem read_text_none (st : Option (List UInt8)) (h : (read 0 dnum0 st).2 = none) : read ByteArray.empty dtext st = (ByteArray.empty, none) := by
  cases st with
  | none => rfl
  | some l =>
    unfold read at h ⊢
    rw [Option.bind_some] at h ⊢
    unfold dtext dcount
    rw [show dnum 0 0 l = dnum0 l from rfl]
    cases hd : dnum0 l with
    | none => rfl
    | some x => rw [hd] at h; cases h
theorem read_text_some (st : Option (List UInt8)) {n : Nat} {r : List UInt8} (h : read 0 dnum0 st = (n, some r)) : read ByteArray.empty dtext st = if n ≤ r.length then (⟨(r.take n).toArray⟩, some (r.drop n)) else (ByteArray.empty, none) := by
  cases st with
  | none => cases h
  | some l =>
    unfold read at h ⊢
    rw [Option.bind_some] at h ⊢
    unfold dtext dcount
    rw [show dnum 0 0 l = dnum0 l from rfl]
    cases hd : dnum0 l with
    | none => rw [hd] at h; cases h
    | some x =>
      obtain ⟨a, b⟩ := x
      rw [hd] at h
      simp only [Prod.mk.injEq, Option.some.injEq] at h
      obtain ⟨rfl, rfl⟩ := h
      rw [Option.bind_some]
      simp only
      by_cases h2 : a ≤ b.length
      · rw [if_pos h2, if_pos h2]; rfl
      · rw [if_neg h2, if_neg h2]; rfl

set_option maxRecDepth 100000 in
set_option maxHeartbeats 1600000 in
theorem fText_any (D m : Nat) (st : Option (List UInt8)) (w : World) (hR : RfS w D m st) :
    Calls Try.prog 27 #[.pointer (some ⟨m, 0, none⟩)] w fun e w' => MetR D m w Value.string (read ByteArray.empty dtext st) e w' := by
  have hN := fNum_any D m st w hR
  have hn := read_num_lt st
  obtain ⟨n, st', hx⟩ : ∃ n st', read 0 dnum0 st = (n, st') := ⟨_, _, rfl⟩
  rw [hx] at hN hn
  simp only at hn
  cases st' with
  | none =>
    have hrd := hide (read_text_none st (by rw [hx]))
    replace hx := hide hx
    go_enter Try.func27, Try.ntmps27
    go_wp2_with fail
    refine hN.mono ?_
    rintro e w2 ⟨rfl, hU, hR2⟩
    unfold u64v
    obtain ⟨hc, hf⟩ := RfS.flag hR2
    replace hc : w2.cell? ⟨m, 1, none⟩ = some (.bool true) := hc
    go_wp2_with fail
    go_ret
    rw [hrd.out]
    exact ⟨rfl, hU.then (Upd.set _ (F := At m) (a := ⟨m, 1, none⟩) rfl _), RfS.fail hR2⟩
  | some r =>
    have hrd := read_text_some st hx
    replace hx := hide hx
    by_cases hle : n ≤ r.length
    · rw [if_pos hle] at hrd
      replace hrd := hide hrd
      go_enter Try.func27, Try.ntmps27
      go_wp2_with fail
      refine hN.mono ?_
      rintro e w2 ⟨rfl, hU, hR2⟩
      unfold u64v
      have hR3 := hide (show Rf w2 D m r false from hR2)
      obtain ⟨hD, v, hh, hb⟩ := hR2
      obtain ⟨A, n0, c, rfl⟩ := hb.slice'
      have hb3 := hide hb
      obtain ⟨A', c', hv, hlc, hcm, hs⟩ := hb
      injection hv with e1 e2 e3
      subst e1 e2 e3
      have hc0 : w2.cell? ⟨m, 0, none⟩ = some (.slice A r.length c) := by rw [cell_at hh]; rfl
      have hc1 : w2.cell? ⟨m, 1, none⟩ = some (.bool false) := by rw [cell_at hh]; rfl
      have hf0 := frozen_at hh 0
      have hf1 := frozen_at hh 1
      unfold maxLen at hcm
      have hconv := (hb3.out.take n hle).string (P := Try.prog) Try.underlying27 Try.underlying5 Try.underlying9
      have hrn : ¬ ((r.length : Int) < n) := by omega
      replace hh := hide hh
      replace hs := hide hs
      go_wp2_with fail
      · go_ret
        rw [hrd.out]
        have hrn : r.drop n = [] := List.drop_eq_nil_of_le (by omega)
        refine ⟨rfl, hU.then (Upd.set _ (F := At m) (a := ⟨m, 0, none⟩) rfl _), ?_⟩
        show Rf _ D m (r.drop n) false
        rw [hrn]
        exact hR3.out.rest ⟨_, _, by rw [show r.length - n = 0 by omega]; rfl, Nat.le_refl _, Nat.zero_le _, .inl rfl⟩
      · go_ret
        rw [hrd.out]
        exact ⟨rfl, hU.then (Upd.set _ (F := At m) (a := ⟨m, 0, none⟩) rfl _), hR3.out.rest (hb3.out.drop n hle)⟩
    · rw [if_neg hle] at hrd
      replace hrd := hide hrd
      have hgt : (r.length : Int) < n := by omega
      go_enter Try.func27, Try.ntmps27
      go_wp2_with fail
      refine hN.mono ?_
      rintro e w2 ⟨rfl, hU, hR2⟩
      unfold u64v
      have hR3 := hide hR2
      obtain ⟨hD, v, hh, hb⟩ := hR2
      obtain ⟨A', c', rfl, hlc, hcm, hs⟩ := hb
      have hc0 : w2.cell? ⟨m, 0, none⟩ = some (.slice A' r.length c') := by rw [cell_at hh]; rfl
      have hc1 : w2.cell? ⟨m, 1, none⟩ = some (.bool false) := by rw [cell_at hh]; rfl
      have hf1 := frozen_at hh 1
      unfold maxLen at hcm
      replace hh := hide hh
      replace hs := hide hs
      go_wp2_with fail
      go_ret
      rw [hrd.out]
      exact ⟨rfl, hU.then (Upd.set _ (F := At m) (a := ⟨m, 1, none⟩) rfl _), RfS.fail hR3.out⟩

set_option maxRecDepth 100000 in
theorem whole_any (D m : Nat) (st : Option (List UInt8)) (w : World) (hR : RfS w D m st) :
    Calls Try.prog 25 #[.pointer (some ⟨m, 0, none⟩)] w fun e w' => MetR D m w i64v (read 0 dint st) e w' := by
  have hN := fInt_any D m st w hR
  have hz : (read 0 dint st).2 = none → (read 0 dint st).1 = 0 := by
    intro h
    unfold read at h ⊢
    cases hd : st.bind dint with
    | none => rfl
    | some x => rw [hd] at h; cases h
  generalize read 0 dint st = x at *
  obtain ⟨n, st'⟩ := x
  simp only at hz
  cases st' with
  | none =>
    obtain rfl := hz rfl
    clear hz
    go_enter Try.func25, Try.ntmps25
    go_wp2_with fail
    refine hN.mono ?_
    rintro e w2 ⟨rfl, hU, hR2⟩
    unfold i64v
    obtain ⟨hc, hf⟩ := RfS.flag hR2
    replace hc : w2.cell? ⟨m, 1, none⟩ = some (.bool true) := hc
    go_wp2_with fail
    go_ret
    exact ⟨rfl, hU, hR2⟩
  | some r =>
    clear hz
    go_enter Try.func25, Try.ntmps25
    go_wp2_with fail
    refine hN.mono ?_
    rintro e w2 ⟨rfl, hU, hR2⟩
    unfold i64v
    obtain ⟨hc, hf⟩ := RfS.flag hR2
    replace hc : w2.cell? ⟨m, 1, none⟩ = some (.bool false) := hc
    go_wp2_with fail
    go_ret
    exact ⟨rfl, hU, hR2⟩
end Go.Proofs.Ytajpgkedlajjdaa
