/- Reset, Room, Count of a log as the laws hold it; what is refused. -/
import Derived.Test.YtimblkkojcbipaaDoorLife
namespace Go.Proofs.YtimblkkojcbipaaDoor
open Go Go.RowKit
section
variable {n B sb lb : Nat} {S : Nat → Prop} {rs : List (List UInt8)} {w w' W : World}
/-- Records are replaced. -/
theorem reset_lg {T : Nat → Prop} {rv : Value} {rs' : List (List UInt8)} (h : LgC n W B sb lb S rs) (hB : 1 ≤ B) (hT : Tab W) (hr : RecsV W T rv rs') (hTd : ∀ k, T k → ¬ OL S lb k) (hrl : rs'.length ≤ 2147483648) (heach : ∀ r ∈ rs', r.length ≤ 1048576)
    (hfit : (frames rs').length ≤ capC n) :
    Calls Tryd.prog 16 #[.pointer (some ⟨lb, 0, none⟩), rv] W fun e w' => e = .returned (.int .i64 0) ∧ ∃ S', LgC n w' B sb lb S' rs' ∧ Mv W (OL S lb) w' (OL S' lb) := by
  obtain ⟨D, live, x, h, hn, hs⟩ := h
  have hlb := h.low
  refine (reset_on h.log h.disk h.on h.holds h.nlb hT (fun hk => by have := h.own 0 hk; omega) (by omega) hr (fun k hk => ⟨fun hk' => hTd k hk (.inl hk'), fun e => hTd k hk (.inr e)⟩) hrl heach (by rw [cap_of hn hs]; exact hfit)).mono ?_
  rintro e w' ⟨he, S', D', h1, h2, h3, e1, e2, h4, h5, h6⟩
  refine ⟨he, S', ⟨_, _, _, ⟨h1, h2, h3, h4, fun k hk => ?_, hlb, fun hk => ?_⟩, by rw [e1, hn], by rw [e2, hs]⟩, h5⟩
  · rcases h5.2 k (.inl hk) with (hk | rfl) | hk
    · exact h.own k hk
    · exact hlb
    · have := h.disk.old
      have h7 := (Array.getElem?_eq_some_iff.1 h.log).1
      omega
  · exact h6 hk
theorem room_lg (h : LgC n W B sb lb S rs) : Calls Tryd.prog 13 #[.pointer (some ⟨lb, 0, none⟩)] W fun e w' => e = .returned (.int .i64 (capC n - (frames rs).length : Nat)) ∧ Below W.heap.size W w' := by
  obtain ⟨D, live, x, h, hn, hs⟩ := h
  have := room_any h.log h.disk h.holds.fine.n1.1 h.holds.lies.fit
  rw [h.holds.lies.bytes, cap_of hn hs] at this
  exact this
theorem count_lg (h : LgC n W B sb lb S rs) : Calls Tryd.prog 19 #[.pointer (some ⟨lb, 0, none⟩)] W fun e w' => e = .returned (.int .i64 rs.length) ∧ W = w' := by
  obtain ⟨D, live, x, h, hn, hs⟩ := h
  have := count_any h.log
  rw [h.holds.lies.recs] at this
  exact this
theorem LgC.fit (h : LgC n W B sb lb S rs) : (frames rs).length ≤ capC n := by
  obtain ⟨D, live, x, h, hn, hs⟩ := h
  rw [← h.holds.lies.bytes, ← cap_of hn hs]
  exact h.holds.lies.fit
theorem LgC.each (h : LgC n W B sb lb S rs) : ∀ r ∈ rs, r.length ≤ 1048576 := by
  obtain ⟨D, live, x, h, hn, hs⟩ := h
  exact h.holds.lies.each
/-- There is some log at lb. -/
def LogA (w : World) (lb : Nat) : Prop := ∃ sb live x, LogV w lb sb live x
theorem LgC.any (h : LgC n W B sb lb S rs) : LogA W lb := by
  obtain ⟨D, live, x, h, _⟩ := h
  exact ⟨_, _, _, h.log⟩
theorem LgC.nlb (h : LgC n W B sb lb S rs) : ¬ S lb := by
  obtain ⟨D, live, x, h, _⟩ := h
  exact h.nlb
theorem LogA.upd {F : Nat → Prop} (h : LogA w lb) (hu : Upd F w w') (hF : ¬ F lb) : LogA w' lb := by
  obtain ⟨sb, live, x, h⟩ := h
  exact ⟨sb, live, x, hu.heap h hF⟩
/-- A record that is too long. -/
theorem long_lg {T : Nat → Prop} {rv : Value} {rs' : List (List UInt8)} (h : LogA W lb) (hr : RecsV W T rv rs') (hany : rs'.any tooL = true) :
    Calls Tryd.prog 18 #[.pointer (some ⟨lb, 0, none⟩), rv] W fun e w' => e = .returned (.int .i64 42) ∧ Below W.heap.size W w' := by
  obtain ⟨sb, live, x, h⟩ := h
  refine commit_of h (put_long lb x hr hany) ?_
  rintro e w' ⟨rfl, _⟩
  exact ⟨_, rfl⟩
set_option maxRecDepth 100000 in
/-- A disk of few sectors. -/
theorem open_small {D : DS} (h : DiskV W sb S D) (hn : D.n < 16) :
    Calls Tryd.prog 12 #[.pointer (some ⟨sb, 0, none⟩)] W fun e w' => e = .returned (.tuple #[.pointer none, .slice none 0 0, .int .i64 41]) ∧ Below W.heap.size W w' := by
  have hsec := sectorsV h
  have hn1 := h.n1
  replace h := hide h
  go_enter Tryd.func12, Tryd.ntmps12
  go_wp2_with fail
  refine hsec.mono ?_
  rintro e w' ⟨rfl, rfl⟩
  go_wp2_with fail
  refine bodyPost_ret (v := .tuple #[.pointer none, .slice none 0 0, .int .i64 41]) (by simp [results, Tryd.results12, go_sem]) rfl ?_
  exact ⟨rfl, Below.refl _ _⟩
end
theorem RecsO.slice {w : World} {B : Nat} {v : Value} {rs : List (List UInt8)} (h : RecsO w B v rs) : ∃ A c, v = .slice A rs.length c ∧ c ≤ maxLen := by
  obtain ⟨vs, R, h1, _⟩ := h
  rcases h1.2 with ⟨rfl, h0⟩ | ⟨g, cap, cur, rfl, hb, hg, h1, h2, _⟩
  · rw [h0]; exact ⟨_, _, rfl, Nat.zero_le _⟩
  · exact ⟨_, _, rfl, h2⟩
section
variable {w : World}
/-- Two records that have just been laid out. -/
theorem RecsV.at2 {T : Nat → Prop} {g : Nat} {u v : Value} {r s : List UInt8} (c0 : w.cell? ⟨g, 0, none⟩ = some u) (c1 : w.cell? ⟨g, 1, none⟩ = some v) (hg : T g) (hu : ArgV w T u (bv r)) (hv : ArgV w T v (bv s)) (nu : NonNil u) (nv : NonNil v) : RecsV w T (.slice (some ⟨g, 0, none⟩) 2 2) [r, s] := by
  refine ⟨[u, v], rfl, .two c0 c1 hg, fun i x t hx ht => ?_⟩
  match i, hx, ht with
  | 0, hx, ht => obtain rfl := Option.some.inj hx; obtain rfl := Option.some.inj ht; exact ⟨hu, nu⟩
  | 1, hx, ht => obtain rfl := Option.some.inj hx; obtain rfl := Option.some.inj ht; exact ⟨hv, nv⟩
theorem RecsV.at1 {T : Nat → Prop} {g : Nat} {u : Value} {r : List UInt8} (c0 : w.cell? ⟨g, 0, none⟩ = some u) (hg : T g) (hu : ArgV w T u (bv r)) (nu : NonNil u) : RecsV w T (.slice (some ⟨g, 0, none⟩) 1 1) [r] := by
  refine ⟨[u], rfl, .one c0 hg, fun i x t hx ht => ?_⟩
  match i, hx, ht with
  | 0, hx, ht => obtain rfl := Option.some.inj hx; obtain rfl := Option.some.inj ht; exact ⟨hu, nu⟩
end
end Go.Proofs.YtimblkkojcbipaaDoor
