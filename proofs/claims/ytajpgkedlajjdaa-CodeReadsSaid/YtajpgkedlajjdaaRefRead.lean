/- Walks of the document's reader. -/
import Derived.Test.YtajpgkedlajjdaaRSum
namespace Go.Proofs.Ytajpgkedlajjdaa
open Go.RowKit

/-- The document's reader at block m has the bytes l left; they lie below D. -/
def Rf (w : World) (D m : Nat) (l : List UInt8) (bad : Bool) : Prop :=
  D ≤ m ∧ ∃ v, w.heap[m]? = some (.cells #[v, .bool bad] 51) ∧ BytesV w D v l
section
variable {w w' : World} {D m : Nat} {l : List UInt8} {bad : Bool}
theorem Rf.upd {F : Nat → Prop} (h : Rf w D m l bad) (hu : Upd F w w') (hp : ¬ F m) (hD : ∀ k, k < D → ¬ F k) : Rf w' D m l bad := by
  obtain ⟨h1, v, h2, h3⟩ := h
  exact ⟨h1, v, hu.heap h2 hp, hu.bytes h3 hD⟩
theorem Rf.lt (h : Rf w D m l bad) : m < w.heap.size := by
  obtain ⟨_, v, h2, _⟩ := h
  exact (Array.getElem?_eq_some_iff.1 h2).1
theorem Rf.fail (h : Rf w D m l bad) : Rf (w.setCell ⟨m, 1, none⟩ (.bool true)) D m l true := by
  obtain ⟨h1, v, h2, h3⟩ := h
  exact ⟨h1, v, heap_set h2 1 _, (Upd.set (F := fun k => k = m) w (a := ⟨m, 1, none⟩) rfl _).bytes h3 fun k hk e => by subst e; omega⟩
theorem Rf.rest (h : Rf w D m l bad) {v' : Value} {l' : List UInt8} (hv : BytesV w D v' l') : Rf (w.setCell ⟨m, 0, none⟩ v') D m l' bad := by
  obtain ⟨h1, v, h2, h3⟩ := h
  exact ⟨h1, v', heap_set h2 0 _, (Upd.set (F := fun k => k = m) w (a := ⟨m, 0, none⟩) rfl _).bytes hv fun k hk e => by subst e; omega⟩
end
def RfS (w : World) (D m : Nat) : Option (List UInt8) → Prop
  | some l => Rf w D m l false
  | none => ∃ l, Rf w D m l true
theorem RfS.upd {w w' : World} {D m : Nat} {F : Nat → Prop} : ∀ {st : Option (List UInt8)}, RfS w D m st → Upd F w w' → ¬ F m → (∀ k, k < D → ¬ F k) → RfS w' D m st
  | some _, h, hu, hp, hD => Rf.upd h hu hp hD
  | none, ⟨l, h⟩, hu, hp, hD => ⟨l, h.upd hu hp hD⟩
theorem RfS.lt {w : World} {D m : Nat} : ∀ {st : Option (List UInt8)}, RfS w D m st → m < w.heap.size
  | some _, h => Rf.lt h
  | none, ⟨_, h⟩ => h.lt
/-- What a method of the document's reader comes to. -/
def MetR {α : Type} (D m : Nat) (w : World) (f : α → Value) (x : α × Option (List UInt8)) (e : Ending) (w' : World) : Prop :=
  e = .returned (f x.1) ∧ Upd (At m) w w' ∧ RfS w' D m x.2

set_option maxRecDepth 100000 in
set_option maxHeartbeats 1600000 in
theorem fBool_any (D m : Nat) (st : Option (List UInt8)) (w : World) (hR : RfS w D m st) :
    Calls Try.prog 29 #[.pointer (some ⟨m, 0, none⟩)] w fun e w' => MetR D m w Value.bool (read false dbool st) e w' := by
  cases st with
  | none =>
    obtain ⟨l, hl⟩ := hR
    have hl0 := hide hl
    obtain ⟨hD, v, hh, hb⟩ := hl
    have hc0 : w.cell? ⟨m, 0, none⟩ = some v := by rw [cell_at hh]; rfl
    have hc1 : w.cell? ⟨m, 1, none⟩ = some (.bool true) := by rw [cell_at hh]; rfl
    have hf1 := frozen_at hh 1
    replace hh := hide hh
    replace hb := hide hb
    go_enter Try.func29, Try.ntmps29
    go_wp2_with fail
    go_ret
    exact ⟨rfl, Upd.set w (F := At m) (a := ⟨m, 1, none⟩) rfl _, _, hl0.out.fail⟩
  | some l =>
    have hl0 := hide (show Rf w D m l false from hR)
    obtain ⟨hD, v, hh, hb⟩ := hR
    have hb0 := hide hb
    have hc0 : w.cell? ⟨m, 0, none⟩ = some v := by rw [cell_at hh]; rfl
    have hc1 : w.cell? ⟨m, 1, none⟩ = some (.bool false) := by rw [cell_at hh]; rfl
    have hf0 := frozen_at hh 0
    have hf1 := frozen_at hh 1
    obtain ⟨A, c, rfl, hlc, hcm, hs⟩ := hb
    replace hh := hide hh
    replace hcm := hide hcm
    cases l with
    | nil =>
      go_enter Try.func29, Try.ntmps29
      go_wp2_with fail
      go_ret
      exact ⟨rfl, Upd.set w (F := At m) (a := ⟨m, 1, none⟩) rfl _, _, hl0.out.fail⟩
    | cons c0 r =>
      obtain ⟨b, o, rfl, hbD, hcell⟩ := hs.get (i := 0) (u := .int .u8 c0.toNat) (by simp [bv])
      replace hcell : w.cell? ⟨b, o, none⟩ = some (.int .u8 c0.toNat) := hcell
      have hrd : read false dbool (some (c0 :: r)) = if c0.toNat ≤ 1 then (c0.toNat == 1, some r) else (false, none) := by
        by_cases h : c0.toNat ≤ 1 <;> simp [read, dbool, h]
      replace hrd := hide hrd
      generalize c0.toNat = x at *
      by_cases hx : x ≤ 1
      · have hx1 : ((x : Int) == 1) = (x == 1) := by rw [Bool.eq_iff_iff]; simp; omega
        have hx0 : ¬ (1 : Int) < x := by omega
        go_enter Try.func29, Try.ntmps29
        go_wp2_with fail
        · obtain rfl : r = [] := List.eq_nil_of_length_eq_zero (by simp at hlc; omega)
          go_ret
          rw [hrd.out, if_pos hx, ← hx1]
          exact ⟨rfl, Upd.set w (F := At m) (a := ⟨m, 0, none⟩) rfl _, hl0.out.rest ⟨_, _, rfl, Nat.le_refl _, Nat.zero_le _, .inl rfl⟩⟩
        · go_ret
          rw [hrd.out, if_pos hx, ← hx1]
          exact ⟨rfl, Upd.set w (F := At m) (a := ⟨m, 0, none⟩) rfl _, hl0.out.rest hb0.out.tail⟩
      · go_enter Try.func29, Try.ntmps29
        go_wp2_with fail
        go_ret
        rw [hrd.out, if_neg hx]
        exact ⟨rfl, Upd.set w (F := At m) (a := ⟨m, 1, none⟩) rfl _, _, hl0.out.fail⟩

/-- What one byte of a number adds, as the document's reader reckons it. -/
theorem step_ref (i acc c : Nat) (hi : i ≤ 9) (hacc : acc < 128 ^ i) (hc : c < 256) (h9 : i = 9 → c ≤ 1) :
    ∃ m y z : Nat, bits .and .u8 (c : Int) 127 = (m : Int) ∧ IntKind.u64.wrap (m : Int) = (m : Int) ∧ IntKind.u64.wrap ((m : Int) * 2 ^ (7 * i)) = (y : Int) ∧ bits .or .u64 (acc : Int) (y : Int) = (z : Int) ∧ z = acc + c % 128 * 128 ^ i ∧ z < 128 ^ (i + 1) ∧ z < 18446744073709551616 := by
  obtain ⟨m, y, z, h1, h2⟩ := step_pack i acc c hi hacc hc h9
  refine ⟨m, y, z, ?_, h2⟩
  have hA := u8_andNot_nat c 128 hc (by decide)
  have hB := u8_and_nat c 127 hc (by decide)
  have e127 : 255 - 128 = 127 := by decide
  rw [e127] at hA
  rw [← h1]
  exact hB.trans hA.symm

set_option maxRecDepth 100000 in
set_option maxHeartbeats 1600000 in
theorem fNum_any (D m : Nat) (st : Option (List UInt8)) (w : World) (hR : RfS w D m st) :
    Calls Try.prog 23 #[.pointer (some ⟨m, 0, none⟩)] w fun e w' => MetR D m w u64v (read 0 dnum0 st) e w' := by
  cases st with
  | none =>
    obtain ⟨l, hl⟩ := hR
    have hl0 := hide hl
    obtain ⟨hD, v, hh, hb⟩ := hl
    have hc1 : w.cell? ⟨m, 1, none⟩ = some (.bool true) := by rw [cell_at hh]; rfl
    have hf1 := frozen_at hh 1
    replace hh := hide hh
    replace hb := hide hb
    go_enter Try.func23, Try.ntmps23
    go_wp2_with fail
    go_loop [5] (fun i => i = .int .i64 0) (fun i => 1)
    case atStart => exact rfl
    case round =>
      subst hrel
      go_wp2_with fail
      go_ret
      exact ⟨rfl, Upd.set w (F := At m) (a := ⟨m, 1, none⟩) rfl _, _, hl0.out.fail⟩
  | some l =>
    have hl0 := hide (show Rf w D m l false from hR)
    obtain ⟨hD, v, hh, hb⟩ := hR
    have hb0 := hide hb
    have hc0 : w.cell? ⟨m, 0, none⟩ = some v := by rw [cell_at hh]; rfl
    have hc1 : w.cell? ⟨m, 1, none⟩ = some (.bool false) := by rw [cell_at hh]; rfl
    have hf0 := frozen_at hh 0
    have hf1 := frozen_at hh 1
    obtain ⟨A, c, rfl, hlc, hcm, hs⟩ := hb
    unfold maxLen at hcm
    replace hh := hide hh
    replace hs := hide hs
    go_enter Try.func23, Try.ntmps23
    go_wp2_with fail
    go_loop [3, 4, 5] (fun n s i => ∃ k acc : Nat, k ≤ 9 ∧ k ≤ l.length ∧ acc < 128 ^ k ∧ n = .int .u64 acc ∧ s = .int .i64 ((7 * k : Nat) : Int) ∧ i = .int .i64 k ∧ dnum k acc (l.drop k) = dnum 0 0 l) (fun _ _ i => 10 - (intOf i).toNat)
    case atStart => exact ⟨0, 0, by omega, by omega, by simp, rfl, rfl, rfl, rfl⟩
    case round =>
      obtain ⟨k, acc, hk9, hkl, hacc, rfl, rfl, rfl, hE⟩ := hrel
      generalize hsh : 7 * k = sh at *
      replace hsh := hide hsh
      replace hacc := hide hacc
      by_cases hlt : k < l.length
      · obtain ⟨b, o, rfl, hbD, hcell⟩ := hs.out.get (i := k) (u := .int .u8 l[k].toNat) (by simp [bv, hlt])
        have hdk : l.drop k = l[k] :: l.drop (k + 1) := List.drop_eq_getElem_cons hlt
        rw [hdk] at hE
        clear hdk
        have hb := l[k].toNat_lt
        generalize hbc : l[k].toNat = c' at *
        generalize l[k] = b0 at *
        replace hbc := hide hbc
        by_cases h9 : 9 ≤ k ∧ 1 < c'
        · rw [dnum_great hbc.out h9] at hE
          replace hE := hide hE
          obtain rfl : k = 9 := by omega
          have hc2 : (1 : Int) < c' := by omega
          go_wp2_with fail
          go_ret
          have hrd : read 0 dnum0 (some l) = (0, none) := by unfold read; rw [Option.bind_some, show dnum0 l = dnum 0 0 l from rfl, ← hE.out]
          rw [hrd]
          exact ⟨rfl, Upd.set w (F := At m) (a := ⟨m, 1, none⟩) rfl _, _, hl0.out.fail⟩
        · obtain ⟨x, y, z, hm, hw1, hw2, ho, hz, hz1, hz2⟩ := step_ref k acc c' hk9 hacc.out hb (by omega)
          rw [hsh.out] at hw2
          have hmin : min sh 64 = sh := by have := hsh.out; omega
          replace hz := hide hz
          replace hz1 := hide hz1
          by_cases hge : 128 ≤ c'
          · rw [dnum_more hbc.out h9 hge, ← hz.out] at hE
            replace hE := hide hE
            have hk8 : k < 9 := by omega
            have hkb : ((k : Int) == 9) = false := by simp; omega
            have hcg : ¬ (c' : Int) < 128 := by omega
            go_wp2_with fail
            go_round
            case rel => exact ⟨k + 1, z, by omega, by omega, hz1.out, rfl, by have := hsh.out; go_num, by go_num, hE.out⟩
            case measure => simp [intOf]; omega
          · have hcl : (c' : Int) < 128 := by omega
            by_cases h0 : c' = 0 ∧ k ≠ 0
            · rw [dnum_zero hbc.out h0.1 h0.2] at hE
              replace hE := hide hE
              obtain ⟨h0a, h0b⟩ := h0
              have hc0b : ((c' : Int) == 0) = true := by simp; omega
              have hkp : (0 : Int) < k := by omega
              have hc1 : ¬ (1 : Int) < c' := by omega
              replace h0a := hide h0a
              replace h0b := hide h0b
              by_cases hk : k = 9
              · have hkb : ((k : Int) == 9) = true := by simp; omega
                replace hk := hide hk
                go_wp2_with fail
                go_ret
                have hrd : read 0 dnum0 (some l) = (0, none) := by unfold read; rw [Option.bind_some, show dnum0 l = dnum 0 0 l from rfl, ← hE.out]
                rw [hrd]
                exact ⟨rfl, Upd.set w (F := At m) (a := ⟨m, 1, none⟩) rfl _, _, hl0.out.fail⟩
              · have hkb : ((k : Int) == 9) = false := by simp; omega
                replace hk := hide hk
                go_wp2_with fail
                go_ret
                have hrd : read 0 dnum0 (some l) = (0, none) := by unfold read; rw [Option.bind_some, show dnum0 l = dnum 0 0 l from rfl, ← hE.out]
                rw [hrd]
                exact ⟨rfl, Upd.set w (F := At m) (a := ⟨m, 1, none⟩) rfl _, _, hl0.out.fail⟩
            · rw [dnum_last hbc.out h9 hge h0, ← hz.out] at hE
              replace hE := hide hE
              have hrd : read 0 dnum0 (some l) = (z, some (l.drop (k + 1))) := by unfold read; rw [Option.bind_some, show dnum0 l = dnum 0 0 l from rfl, ← hE.out]
              replace hrd := hide hrd
              have htl := hide (fun (A' : Option Addr) (c2 : Nat) (h1 : k + 1 < l.length → A' = some ⟨b, o + (k + 1), none⟩) (h2 : l.length - (k + 1) ≤ c2) (h3 : c2 ≤ maxLen) => (show BytesV w D (.slice A' (l.length - (k + 1)) c2) (l.drop (k + 1)) from by
                have h4 := hb0.out.cut (k + 1) l.length (by omega) (Nat.le_refl _) (A' := A') (fun h => h1 h) (c' := c2) h2 h3
                rwa [List.take_of_length_le (by rw [List.length_drop]; exact Nat.le_refl _)] at h4))
              by_cases hk : k = 9
              · have hkb : ((k : Int) == 9) = true := by simp; omega
                have hc1 : ¬ (1 : Int) < c' := by omega
                by_cases hc0 : c' = 0
                · exact absurd ⟨hc0, by omega⟩ h0
                · have hc0b : ((c' : Int) == 0) = false := by simp; omega
                  replace hk := hide hk
                  go_wp2_with fail
                  all_goals go_ret
                  all_goals rw [hrd.out]
                  all_goals refine ⟨rfl, Upd.set w (F := At m) (a := ⟨m, 0, none⟩) rfl _, hl0.out.rest ?_⟩
                  all_goals first | exact htl.out _ _ (fun _ => rfl) (by omega) (by unfold maxLen; omega) | exact htl.out _ _ (fun h => by omega) (by omega) (Nat.zero_le _)
              · have hkb : ((k : Int) == 9) = false := by simp; omega
                by_cases hc0 : c' = 0
                · have hc0b : ((c' : Int) == 0) = true := by simp; omega
                  have hk0 : ¬ (0 : Int) < k := by omega
                  replace hk := hide hk
                  replace hc0 := hide hc0
                  go_wp2_with fail
                  all_goals go_ret
                  all_goals rw [hrd.out]
                  all_goals refine ⟨rfl, Upd.set w (F := At m) (a := ⟨m, 0, none⟩) rfl _, hl0.out.rest ?_⟩
                  all_goals first | exact htl.out _ _ (fun _ => rfl) (by omega) (by unfold maxLen; omega) | exact htl.out _ _ (fun h => by omega) (by omega) (Nat.zero_le _)
                · have hc0b : ((c' : Int) == 0) = false := by simp; omega
                  replace hk := hide hk
                  go_wp2_with fail
                  all_goals go_ret
                  all_goals rw [hrd.out]
                  all_goals refine ⟨rfl, Upd.set w (F := At m) (a := ⟨m, 0, none⟩) rfl _, hl0.out.rest ?_⟩
                  all_goals first | exact htl.out _ _ (fun _ => rfl) (by omega) (by unfold maxLen; omega) | exact htl.out _ _ (fun h => by omega) (by omega) (Nat.zero_le _)
      · obtain rfl : k = l.length := by omega
        rw [List.drop_length] at hE
        replace hE := hide hE
        go_wp2_with fail
        go_ret
        have hrd : read 0 dnum0 (some l) = (0, none) := by unfold read; rw [Option.bind_some, show dnum0 l = dnum 0 0 l from rfl, ← hE.out]; rfl
        rw [hrd]
        exact ⟨rfl, Upd.set w (F := At m) (a := ⟨m, 1, none⟩) rfl _, _, hl0.out.fail⟩
end Go.Proofs.Ytajpgkedlajjdaa
