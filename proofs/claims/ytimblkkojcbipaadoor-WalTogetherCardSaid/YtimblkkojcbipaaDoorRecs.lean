/- Records of the call's own, as records that come in. -/
import Derived.Test.YtimblkkojcbipaaDoorPlace
namespace Go.Proofs.YtimblkkojcbipaaDoor
open Go Go.RowKit
theorem own_arg {w : World} {B n : Nat} {e : TypeId} {v : Value} {xs : List Value} (h : w.ownsRow B e 1 v n xs) : ArgV w (fun k => B ≤ k ∧ k < w.heap.size) v xs := by
  have hl : xs.length = n := by have := h.1; omega
  rcases h.2 with ⟨rfl, h0⟩ | ⟨g, cap, cur, rfl, hb, hg, h1, h2, h3, h4⟩
  · obtain rfl : xs = [] := List.eq_nil_of_length_eq_zero (by omega)
    exact ⟨none, 0, rfl, Nat.le_refl _, Nat.zero_le _, .inl rfl⟩
  · refine ⟨_, cap, by rw [hl], by rw [hl]; exact h1, h2, .inr ⟨g, 0, rfl, ⟨hb, (Array.getElem?_eq_some_iff.1 hg).1⟩, fun i u hi => ?_⟩⟩
    have := h.cells (g := g) rfl i u hi
    rwa [Go.WideShapes.add_plain] at this
theorem ArgV.wide {w : World} {S S' : Nat → Prop} {v : Value} {xs : List Value} (h : ArgV w S v xs) (hS : ∀ k, S k → S' k) : ArgV w S' v xs := h.mono fun k _ hk => hS k hk
theorem BatV.recsV {w : World} {B : Nat} {v : Value} {rs : List (List UInt8)} (h : BatV w B v rs) : RecsV w (fun k => B ≤ k ∧ k < w.heap.size) v rs := by
  obtain ⟨vs, R, h1, h2, h4⟩ := h
  exact ⟨vs, by have := h1.1; omega, own_arg h1, fun i u r hi hr => ⟨(h2 i u r hi hr).1.wide fun k hk => ⟨(h4 k hk).1, (h4 k hk).2.1⟩, (h2 i u r hi hr).2⟩⟩
theorem RecsV.recsW {w : World} {S : Nat → Prop} {v : Value} {rs : List (List UInt8)} (h : RecsV w S v rs) : RecsW w S v rs := by
  obtain ⟨vs, h1, h2, h3⟩ := h
  exact ⟨vs, h1, h2, fun i u r hi hr => (h3 i u r hi hr).1⟩
theorem RecsO.recsW {w : World} {B : Nat} {v : Value} {rs : List (List UInt8)} (h : RecsO w B v rs) : RecsW w (fun k => B ≤ k ∧ k < w.heap.size) v rs := by
  obtain ⟨vs, R, h1, h2, _, h4⟩ := h
  exact ⟨vs, by have := h1.1; omega, own_arg h1, fun i u r hi hr => (h2 i u r hi hr).wide fun k hk => ⟨(h4 k hk).1, (h4 k hk).2.1⟩⟩
theorem batch_each (i : Nat) (ls : List UInt8) : ∀ r ∈ batchL i ls ls.length, r.length ≤ 255 := by
  intro r hr
  unfold batchL at hr
  rw [List.mem_map] at hr
  obtain ⟨t, _, rfl⟩ := hr
  rw [rowL_len]
  have := (ls.getD t 0).toNat_lt
  omega
theorem frames_le_of {rs : List (List UInt8)} {m : Nat} (h : ∀ r ∈ rs, r.length ≤ m) : (frames rs).length ≤ rs.length * (m + 8) := by
  induction rs with
  | nil => simp [frames]
  | cons r rs ih =>
    rw [frames_cons, List.length_append, frame_len, List.length_cons, Nat.succ_mul]
    have := ih fun x hx => h x (by simp [hx])
    have := h r (by simp)
    omega
theorem any_tooL {rs : List (List UInt8)} {m : Nat} (h : ∀ r ∈ rs, r.length ≤ m) (hm : m ≤ 1048576) : rs.any tooL = false := by
  rw [List.any_eq_false]
  intro r hr
  unfold tooL
  have := h r hr
  simp
  omega
/-- Commit, where it fits and the power is not cut. -/
theorem commit_on {W : World} {lb sb live : Nat} {x : Ext} {S : Nat → Prop} {D : DS} {rs0 rs : List (List UInt8)} {T : Nat → Prop} {rv : Value} (hL : LogV W lb sb live x) (hD : DiskV W sb S D) (hon : D.on) (hH : Holds D live x rs0) (hlb : ¬ S lb) (hT : Tab W) (hS0 : ¬ S 0) (hl0 : 0 < lb)
    (hr : RecsV W T rv rs) (hTd : ∀ k, T k → ¬ S k ∧ k ≠ lb) (hrl : rs.length ≤ 2147483648) (heach : ∀ r ∈ rs, r.length ≤ 1048576) (hfit : x.bytes + (frames rs).length ≤ capN D) :
    Calls Tryd.prog 18 #[.pointer (some ⟨lb, 0, none⟩), rv] W fun e w' => e = .returned (.int .i64 0) ∧ ∃ S', DiskV w' sb S' (D.put live x rs) ∧ LogV w' lb sb (1 - live) (x.plus rs) ∧ (D.put live x rs).on ∧ Holds (D.put live x rs) (1 - live) (x.plus rs) (rs0 ++ rs) ∧ Mv W (fun k => S k ∨ k = lb) w' (fun k => S' k ∨ k = lb) ∧ ¬ S' lb := by
  have hpon := hon.put live x rs
  have hcap := hH.fine.cap
  have hcl := count_le rs0
  have hb := hH.lies.bytes
  have hf := hH.lies.fit
  have hrc := hH.lies.recs
  refine commit_of hL ((put_any hL hD hon.1 hlb hT hS0 hl0 hH.fine.n1.1 hH.one hH.mark16 x hH.lies.area (by omega) hr hTd hrl (any_tooL heach (Nat.le_refl _)) hfit).mono (R' := fun e w' => e = .returned (.int .i64 0) ∧ ∃ S', DiskV w' sb S' (D.put live x rs) ∧ LogV w' lb sb (1 - live) (x.plus rs) ∧ (D.put live x rs).on ∧ Holds (D.put live x rs) (1 - live) (x.plus rs) (rs0 ++ rs) ∧ Mv W (fun k => S k ∨ k = lb) w' (fun k => S' k ∨ k = lb) ∧ ¬ S' lb) ?_) ?_
  · rintro e w' ⟨S', rfl, hD', hL', hM⟩
    rw [hpon.1] at hL'
    have he : errOf (D.put live x rs) = 0 := by unfold errOf; rw [hpon.1]; rfl
    exact ⟨by rw [he], S', hD', hL', hpon, put_holds hH.fine hH.lies heach hfit hpon.1, hM⟩
  · rintro e w' ⟨rfl, _⟩
    exact ⟨_, rfl⟩
end Go.Proofs.YtimblkkojcbipaaDoor
