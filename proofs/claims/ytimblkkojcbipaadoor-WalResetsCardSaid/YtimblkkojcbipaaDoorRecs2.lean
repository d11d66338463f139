/- Reset and Open, where the power is not cut. -/
import Derived.Test.YtimblkkojcbipaaDoorRecs
namespace Go.Proofs.YtimblkkojcbipaaDoor
open Go Go.RowKit
theorem reset_on {W : World} {lb sb live : Nat} {x : Ext} {S : Nat → Prop} {D : DS} {rs0 rs : List (List UInt8)} {T : Nat → Prop} {rv : Value} (hL : LogV W lb sb live x) (hD : DiskV W sb S D) (hon : D.on) (hH : Holds D live x rs0) (hlb : ¬ S lb) (hT : Tab W) (hS0 : ¬ S 0) (hl0 : 0 < lb)
    (hr : RecsV W T rv rs) (hTd : ∀ k, T k → ¬ S k ∧ k ≠ lb) (hrl : rs.length ≤ 2147483648) (heach : ∀ r ∈ rs, r.length ≤ 1048576) (hfit : (frames rs).length ≤ capN D) :
    Calls Tryd.prog 16 #[.pointer (some ⟨lb, 0, none⟩), rv] W fun e w' => e = .returned (.int .i64 0) ∧ ∃ S' D', DiskV w' sb S' D' ∧ LogV w' lb sb (1 - live) (Ext.plus ⟨1 - x.area, 0, 0⟩ rs) ∧ D'.on ∧ D'.n = D.n ∧ D'.size = D.size ∧ Holds D' (1 - live) (Ext.plus ⟨1 - x.area, 0, 0⟩ rs) rs ∧ Mv W (fun k => S k ∨ k = lb) w' (fun k => S' k ∨ k = lb) ∧ ¬ S' lb := by
  have hpon := hon.put live ⟨1 - x.area, 0, 0⟩ rs
  refine reset_of hL hH.lies.area ((put_any hL hD hon.1 hlb hT hS0 hl0 hH.fine.n1.1 hH.one hH.mark16 ⟨1 - x.area, 0, 0⟩ (Nat.sub_le _ _) (by simp) hr hTd hrl (any_tooL heach (Nat.le_refl _)) (by simpa using hfit)).mono ?_) ?_
  · rintro e w' ⟨S', rfl, hD', hL', hM⟩
    rw [hpon.1] at hL'
    have he : errOf (D.put live ⟨1 - x.area, 0, 0⟩ rs) = 0 := by unfold errOf; rw [hpon.1]; rfl
    refine ⟨by rw [he], S', _, hD', hL', hpon, put_n _ _ _ _, put_size _ _ _ _, ?_, hM⟩
    have := put_holds (rs0 := []) hH.fine (lies_nil (Nat.sub_le 1 x.area)) heach (by simpa using hfit) hpon.1
    simpa using this
  · rintro e w' ⟨rfl, _⟩
    exact ⟨_, rfl⟩
/-- Open, of a disk that holds a log, or none. -/
theorem open_on {W : World} {sb : Nat} {S : Nat → Prop} {D : DS} {live : Nat} {x : Ext} {rs : List (List UInt8)} (hD : DiskV W sb S D) (hon : D.on) (hf : Fine D) (hT : Tab W) (hS0 : ¬ S 0) (h0 : 0 < W.heap.size)
    (hH : Holds D live x rs ∨ (findP D = none ∧ live = 0 ∧ x = ⟨0, 0, 0⟩ ∧ rs = [])) :
    Calls Tryd.prog 12 #[.pointer (some ⟨sb, 0, none⟩)] W fun e w' => ∃ lb v S', e = .returned (.tuple #[.pointer (some ⟨lb, 0, none⟩), v, .int .i64 0]) ∧ DiskV w' sb S' D.opened ∧ D.opened.on ∧ Holds D.opened live x rs ∧ W.heap.size ≤ lb ∧ ¬ S' lb ∧ LogV w' lb sb live x ∧ RecsO w' W.heap.size v rs ∧ (∀ k, Own v k → k ≠ lb) ∧ Mv W S w' S' := by
  have hoon := hon.opened
  have hox : openX D = (live, x, rs) ∧ Holds D.opened live x rs := by
    rcases hH with h | ⟨h, rfl, rfl, rfl⟩
    · exact opened_some h hoon.1
    · exact opened_none hf h hoon.1
  refine (open_any hD hon.1 hT hS0 h0 hf.n1.1 hf.s1.1).mono ?_
  rintro e w' ⟨S', hD', hM, h | ⟨-, lb, v, he, h1, h2, h3, h4, h5⟩⟩
  · rw [hoon.1] at h
    cases h.1
  · rw [hox.1] at h3 h4
    exact ⟨lb, v, S', he, hD', hoon, hox.2, h1, h2, h3, h4, h5, hM⟩
end Go.Proofs.YtimblkkojcbipaaDoor
